/- Bus: the law's calls in memory; few. Of no program: a call that makes new memory, in a region that draws, whose answer is hidden. -/
import Derived.Test.YtpgfifacfkllfaaDoorZan
import Derived.Test.YtpgfifacfkllfaaDoorZad
namespace Go.Proofs.YtpgfifacfkllfaaDoor
open Go.RowKit
set_option linter.unusedVariables false

/-- a call of the law's -/
structure Op6 where
  k : Int
  m : Int
  f : Fr
def opC (o : Op6) : List Value := [.int .i64 o.k, .int .i64 o.m, .int .i64 o.f.i, .int .i64 o.f.n, .int .i64 o.f.l, .string o.f.d]
theorem opC_len (o : Op6) : (opC o).length = 6 := rfl
def fo5 (f : Op6) : Nat := min f.f.d.size 5000
def foN (L : List Op6) (k : Nat) : Nat := ((L.take k).map fo5).sum
def foB (L : List Op6) : Bool := decide (L.length ≤ 400) && decide (foN L (min L.length 401) ≤ 8000)
theorem foN_succ (L : List Op6) (k : Nat) (h : k < L.length) : foN L (k + 1) = foN L k + fo5 L[k] := by
  unfold foN
  rw [List.take_succ_eq_append_getElem h, List.map_append, List.sum_append]
  simp only [List.map_cons, List.map_nil, List.sum_cons, List.sum_nil, Nat.add_zero]
theorem fo5_le (f : Op6) : fo5 f ≤ 5000 := Nat.min_le_right _ _
theorem foN_le (L : List Op6) : ∀ k, foN L k ≤ 5000 * k
  | 0 => by simp [foN]
  | k + 1 => by
    have := foN_le L k
    by_cases h : k < L.length
    · rw [foN_succ L k h]; have := fo5_le L[k]; omega
    · have e : foN L (k + 1) = foN L k := by unfold foN; rw [List.take_of_length_le (by omega), List.take_of_length_le (by omega)]
      omega
theorem fo_min (n : Nat) : min (n : Int) 5000 = ((min n 5000 : Nat) : Int) := by omega

set_option maxHeartbeats 1000000 in
theorem fo_any {L : List Op6} {v : Value} {B : Nat} (w : World) (h : SlG opC 6 w B v L) :
    Calls Tryd.prog 8 #[v] w fun e w' => e = .returned (.bool (foB L)) ∧ w = w' := by
  have H := Lib.hid h
  obtain ⟨A, cap, rfl, hm, _⟩ := h
  unfold maxLen at hm
  go_enter Tryd.func8, Tryd.ntmps8
  go_wp2_with fail
  go_loop [3, 4] (fun n i => ∃ k : Nat, k ≤ L.length ∧ k ≤ 401 ∧ i = .int .i64 k ∧ n = .int .i64 (foN L k)) (fun _ i => L.length - (intOf i).toNat)
  case atStart => exact ⟨0, by omega, by omega, rfl, rfl⟩
  case round =>
    obtain ⟨k, hk, hk41, rfl, rfl⟩ := hrel
    have hN := foN_le L k
    have HN : (foN L k : Int) ≤ 2005000 := by omega
    clear hN
    by_cases hlt : k < L.length ∧ k ≤ 400
    · obtain ⟨h1, h2⟩ := hlt
      obtain ⟨x, cap', hv, hxb, hcell⟩ := H.out.at_ h1
      injection hv with hA hn hc
      subst hA hc
      have hc3 : w.cell? ⟨(x.add (k * 6)).block, (x.add (k * 6)).off + 5, none⟩ = some (.string (L[k]'h1).f.d) := hcell 5 _ rfl
      have hk1 : (k : Int) < (L.length : Int) := by omega
      have hk2 : (k : Int) ≤ 400 := by omega
      have hsucc := Lib.hid (foN_succ L k h1)
      have hmin := fo_min (L[k]'h1).f.d.size
      have h5 := fo5_le (L[k]'h1)
      have h6 : ((fo5 (L[k]'h1) : Nat) : Int) ≤ 5000 := by omega
      have hmn : min ((L[k]'h1).f.d.size : Int) 5000 = ((fo5 (L[k]'h1) : Nat) : Int) := hmin
      clear hcell hmin h5 hxb
      generalize fo5 (L[k]'h1) = m at hsucc h6 hmn
      generalize (L[k]'h1).f.d = d at hc3 hmn
      go_wp2
      exact ⟨⟨k + 1, by omega, by omega, by go_num, by rw [hsucc.out]; go_num⟩, by simp [intOf]; omega⟩
    · have hkm : min L.length 401 = k := by omega
      have HF : Hid (foB L = (decide (L.length ≤ 400) && decide (foN L k ≤ 8000))) := Lib.hid (by unfold foB; rw [hkm])
      clear hkm H
      generalize foN L k = m at HN HF
      by_cases ha : L.length ≤ 400
      · obtain rfl : k = L.length := by omega
        have ha' : (L.length : Int) ≤ 400 := by omega
        clear hlt hk hk41
        by_cases hb : m ≤ 8000
        · have hb' : (m : Int) ≤ 8000 := by omega
          go_wp2
          go_ret
          exact ⟨by rw [HF.out, decide_eq_true ha, decide_eq_true hb]; rfl, rfl⟩
        · have hb' : ¬ (m : Int) ≤ 8000 := by omega
          go_wp2
          go_ret
          exact ⟨by rw [HF.out, decide_eq_true ha, decide_eq_false hb]; rfl, rfl⟩
      · obtain rfl : k = 401 := by omega
        have ha' : ¬ (L.length : Int) ≤ 400 := by omega
        have ha2 : (401 : Int) < (L.length : Int) ∨ ¬ (401 : Int) < (L.length : Int) := by omega
        have HFF : Hid (foB L = false) := Lib.hid (by rw [HF.out, decide_eq_false ha]; rfl)
        clear HF HN hlt hk hk41
        rcases ha2 with ha2 | ha2
        · go_wp2
          go_ret
          exact ⟨by rw [HFF.out]; rfl, rfl⟩
        · go_wp2
          go_ret
          exact ⟨by rw [HFF.out]; rfl, rfl⟩
end Go.Proofs.YtpgfifacfkllfaaDoor

namespace Go.Proofs.YtpgfifacfkllfaaDoor
open Go.RowKit
set_option linter.unusedVariables false
theorem sec_callF {P : Program} {ops : Array Oper} {W : World} {sec : List Tmp} {F : Tmp → Value → World → Prop} {o : Oper} {h : Act} {rest : List Oper} {Q : Act → Prop} {s : Tmp} {f : FuncId} {args : Array Value}
    (hw : Region.wanted o (yielded ops h.tmps) = true) (hn : noSel o = true) (hl : secOpenL ops sec o = true) (hd : o.dst = some s) (hs : sec.contains s = true)
    (hrun : ∀ w, (execOp h.eval o).run P w = .ok (.enter f args) w) (hc : ∀ q : Later W, Calls P f args q.w fun e w'' => ∃ u, e = .returned u ∧ Below q.w.heap.size q.w w'' ∧ F s u w'')
    (hk : wpSec P ops W sec F Q rest (h.put o.dst undef)) : wpSec P ops W sec F Q (o :: rest) h := by
  unfold wpSec
  rw [if_pos hw]
  refine ⟨undef, fun a w hb hlk => ?_, hk⟩
  rw [eval_open hl (noSel_spec hn) hlk, hrun w]
  refine ⟨rfl, (hc ⟨w, hb⟩).mono ?_⟩
  rintro e w'' ⟨u, he, hb', hF⟩
  refine ⟨u, he, hb', ?_⟩
  unfold secGood
  rw [hd]
  simp only
  rw [if_pos (by simpa using hs)]
  exact hF
/-- an operation that lays a new block, whose place is hidden, and which is newer than the region -/
theorem sec_fresh {P : Program} {ops : Array Oper} {W : World} {sec : List Tmp} {F : Tmp → Value → World → Prop} {o : Oper} {h : Act} {rest : List Oper} {Q : Act → Prop} {s : Tmp} {mk : World → Value} {ob : World → Obj} (hw : Region.wanted o (yielded ops h.tmps) = true) (hn : noSel o = true) (hl : secOpenL ops sec o = true) (hd : o.dst = some s) (hs : sec.contains s = true)
    (hrun : ∀ w, (execOp h.eval o).run P w = .ok (.value (mk w)) (w.alloc (ob w))) (hF : ∀ w, Below W.heap.size W w → F s (mk w) (w.alloc (ob w))) (hk : wpSec P ops W sec F Q rest (h.put o.dst undef)) : wpSec P ops W sec F Q (o :: rest) h := by
  unfold wpSec
  rw [if_pos hw]
  refine ⟨undef, fun a w hb hlk => ?_, hk⟩
  rw [eval_open hl (noSel_spec hn) hlk, hrun w]
  refine ⟨(Below.refl _ _).alloc (Nat.le_refl _) _, ?_⟩
  unfold secGood
  rw [hd]
  simp only
  rw [if_pos (by simpa using hs)]
  exact hF w hb
/-- a call that reads hidden slots, by their facts, makes new memory alone, and answers v -/
theorem sec_callR {P : Program} {ops : Array Oper} {W : World} {sec : List Tmp} {F : Tmp → Value → World → Prop} {o : Oper} {h : Act} {rest : List Oper} {Q : Act → Prop} {v : Value}
    (hw : Region.wanted o (yielded ops h.tmps) = true) (hd : secOpenD sec o = true)
    (hrun : ∀ (a : Act) (w : World), Below W.heap.size W w → secLooks ops sec F o h a w → ∃ f args, (execOp a.eval o).run P w = .ok (.enter f args) w ∧ Calls P f args w fun e w' => e = .returned v ∧ Below w.heap.size w w')
    (hk : wpSec P ops W sec F Q rest (h.put o.dst v)) : wpSec P ops W sec F Q (o :: rest) h := by
  unfold wpSec
  rw [if_pos hw]
  refine ⟨v, fun a w hb hlk => ?_, hk⟩
  obtain ⟨f, args, he, hc⟩ := hrun a w hb hlk
  rw [he]
  refine ⟨rfl, hc.mono ?_⟩
  rintro e w'' ⟨rfl, hb'⟩
  exact ⟨v, rfl, hb', good_open hd rfl⟩
end Go.Proofs.YtpgfifacfkllfaaDoor
