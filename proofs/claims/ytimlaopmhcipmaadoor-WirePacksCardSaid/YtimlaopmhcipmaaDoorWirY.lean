/- Wire: lists of frames in memory; contracts of the document's Few, Same. -/
import Derived.Test.YtimlaopmhcipmaaDoorWirX
import Derived.Test.YtimlaopmhcipmaaDoorRows2
namespace Go.Proofs.YtimlaopmhcipmaaDoor
open Go.RowKit
set_option linter.unusedVariables false

def frC (f : Fr) : List Value := [.int .i64 f.i, .int .i64 f.n, .int .i64 f.l, .string f.d]
theorem frC_len (f : Fr) : (frC f).length = 4 := rfl
/-- the slice v reads as the frames L -/
abbrev SlF (w : World) (B : Nat) (v : Value) (L : List Fr) : Prop := SlG frC 4 w B v L
abbrev GathF (B : Nat) (w0 : World) (v : Value) (L : List Fr) (wr : World) : Prop := GathG 23 frC 4 B w0 v L wr
def frOf : List Value → Fr
  | [.int _ i, .int _ n, .int _ l, .string d] => ⟨i, n, l, d⟩
  | _ => ⟨0, 0, 0, ByteArray.mk #[]⟩
theorem frOf_c (l : List Value) (h : FitsAll [.int .i64, .int .i64, .int .i64, .str] l) : frC (frOf l) = l := by
  obtain ⟨v0, l0, rfl, ⟨a0, rfl, _⟩, h0⟩ := FitsAll.cons h
  obtain ⟨v1, l1, rfl, ⟨a1, rfl, _⟩, h1⟩ := FitsAll.cons h0
  obtain ⟨v2, l2, rfl, ⟨a2, rfl, _⟩, h2⟩ := FitsAll.cons h1
  obtain ⟨v3, l3, rfl, ⟨a3, rfl, _⟩, h3⟩ := FitsAll.cons h2
  obtain rfl := FitsAll.nil h3
  rfl
/-- what a frame's fields hold, if they came in -/
def Fr.fits (f : Fr) : Prop := (Lit.int .i64 f.i).wf = true ∧ (Lit.int .i64 f.n).wf = true ∧ (Lit.int .i64 f.l).wf = true ∧ f.d.size ≤ maxLen
theorem fr_fits {f : Fr} (h : FitsAll [.int .i64, .int .i64, .int .i64, .str] (frC f)) : f.fits := by
  obtain ⟨⟨a0, e0, h0⟩, ⟨a1, e1, h1⟩, ⟨a2, e2, h2⟩, ⟨a3, e3, h3⟩, _⟩ := h
  injection e0 with _ e0; injection e1 with _ e1; injection e2 with _ e2; injection e3 with e3
  exact ⟨by rw [e0]; exact h0, by rw [e1]; exact h1, by rw [e2]; exact h2, by rw [e3]; exact h3⟩

/-- the cells of a frame behind an address -/
def FrAt (w : World) (p : Addr) (f : Fr) : Prop := ∀ j u, (frC f)[j]? = some u → w.cell? (p.add j) = some u
theorem FrAt.c0 {w : World} {p : Addr} {f : Fr} (h : FrAt w p f) : w.cell? p = some (.int .i64 f.i) := h 0 _ rfl
theorem FrAt.c3 {w : World} {p : Addr} {f : Fr} (h : FrAt w p f) : w.cell? (p.add 3) = some (.string f.d) := h 3 _ rfl
theorem load_fr {w : World} {p : Addr} {f : Fr} (h : FrAt w p f) : (Instr.loadAt 23 (.pointer (some p))).run Tryd.prog w = .ok (.agg #[.int .i64 f.i, .int .i64 f.n, .int .i64 f.l, .string f.d]) w := by
  have h0 := h.c0
  have h1 : w.cell? ⟨p.block, p.off + 1, none⟩ = some (.int .i64 f.n) := h 1 _ rfl
  have h2 : w.cell? ⟨p.block, p.off + 2, none⟩ = some (.int .i64 f.l) := h 2 _ rfl
  have h3 : w.cell? ⟨p.block, p.off + 3, none⟩ = some (.string f.d) := h 3 _ rfl
  simp [go_sem, h0, h1, h2, h3]
theorem index_fr {x : Addr} {n c k : Nat} (hk : k < n) (w : World) : (Instr.indexAt 37 (.slice (some x) n c) (.int .i64 k)).run Tryd.prog w = .ok (.pointer (some (x.add (k * 4)))) w := by
  have h1 : (k : Int) < n := by omega
  simp [go_sem, h1]
theorem field_fr {p : Addr} (w : World) : (Instr.fieldAt 23 (.pointer (some p)) 3).run Tryd.prog w = .ok (.pointer (some (p.add 3))) w := by
  simp [go_sem]

/-! ### Few -/
def few5 (f : Fr) : Nat := min f.d.size 5000
def fewN (L : List Fr) (k : Nat) : Nat := ((L.take k).map few5).sum
def fewB (L : List Fr) : Bool := decide (L.length ≤ 40) && decide (fewN L (min L.length 41) ≤ 3000)
theorem fewN_succ (L : List Fr) (k : Nat) (h : k < L.length) : fewN L (k + 1) = fewN L k + few5 L[k] := by
  unfold fewN
  rw [List.take_succ_eq_append_getElem h, List.map_append, List.sum_append]
  simp only [List.map_cons, List.map_nil, List.sum_cons, List.sum_nil, Nat.add_zero]
theorem few5_le (f : Fr) : few5 f ≤ 5000 := Nat.min_le_right _ _
theorem fewN_le (L : List Fr) : ∀ k, fewN L k ≤ 5000 * k
  | 0 => by simp [fewN]
  | k + 1 => by
    have := fewN_le L k
    by_cases h : k < L.length
    · rw [fewN_succ L k h]; have := few5_le L[k]; omega
    · have e : fewN L (k + 1) = fewN L k := by unfold fewN; rw [List.take_of_length_le (by omega), List.take_of_length_le (by omega)]
      omega
theorem few_min (n : Nat) : min (n : Int) 5000 = ((min n 5000 : Nat) : Int) := by omega

set_option maxHeartbeats 1000000 in
theorem few_any {L : List Fr} {v : Value} {B : Nat} (w : World) (h : SlF w B v L) :
    Calls Tryd.prog 16 #[v] w fun e w' => e = .returned (.bool (fewB L)) ∧ w = w' := by
  have H := Lib.hid h
  obtain ⟨A, cap, rfl, hm, _⟩ := h
  unfold maxLen at hm
  go_enter Tryd.func16, Tryd.ntmps16
  go_wp2_with fail
  go_loop [3, 4] (fun n i => ∃ k : Nat, k ≤ L.length ∧ k ≤ 41 ∧ i = .int .i64 k ∧ n = .int .i64 (fewN L k)) (fun _ i => L.length - (intOf i).toNat)
  case atStart => exact ⟨0, by omega, by omega, rfl, rfl⟩
  case round =>
    obtain ⟨k, hk, hk41, rfl, rfl⟩ := hrel
    have hN := fewN_le L k
    have HN : (fewN L k : Int) ≤ 205000 := by omega
    clear hN
    by_cases hlt : k < L.length ∧ k ≤ 40
    · obtain ⟨h1, h2⟩ := hlt
      obtain ⟨x, cap', hv, hxb, hcell⟩ := H.out.at_ h1
      injection hv with hA hn hc
      subst hA hc
      have hc3 : w.cell? ⟨(x.add (k * 4)).block, (x.add (k * 4)).off + 3, none⟩ = some (.string (L[k]'h1).d) := FrAt.c3 hcell
      have hk1 : (k : Int) < (L.length : Int) := by omega
      have hk2 : (k : Int) ≤ 40 := by omega
      have hsucc := Lib.hid (fewN_succ L k h1)
      have hmin := few_min (L[k]'h1).d.size
      have h5 := few5_le (L[k]'h1)
      have h6 : ((few5 (L[k]'h1) : Nat) : Int) ≤ 5000 := by omega
      have hmn : min ((L[k]'h1).d.size : Int) 5000 = ((few5 (L[k]'h1) : Nat) : Int) := hmin
      clear hcell hmin h5 hxb
      generalize few5 (L[k]'h1) = m at hsucc h6 hmn
      generalize (L[k]'h1).d = d at hc3 hmn
      go_wp2
      exact ⟨⟨k + 1, by omega, by omega, by go_num, by rw [hsucc.out]; go_num⟩, by simp [intOf]; omega⟩
    · have hkm : min L.length 41 = k := by omega
      have HF : Hid (fewB L = (decide (L.length ≤ 40) && decide (fewN L k ≤ 3000))) := Lib.hid (by unfold fewB; rw [hkm])
      clear hkm H
      generalize fewN L k = m at HN HF
      by_cases ha : L.length ≤ 40
      · obtain rfl : k = L.length := by omega
        have ha' : (L.length : Int) ≤ 40 := by omega
        clear hlt hk hk41
        by_cases hb : m ≤ 3000
        · have hb' : (m : Int) ≤ 3000 := by omega
          go_wp2
          go_ret
          exact ⟨by rw [HF.out, decide_eq_true ha, decide_eq_true hb]; rfl, rfl⟩
        · have hb' : ¬ (m : Int) ≤ 3000 := by omega
          go_wp2
          go_ret
          exact ⟨by rw [HF.out, decide_eq_true ha, decide_eq_false hb]; rfl, rfl⟩
      · obtain rfl : k = 41 := by omega
        have ha' : ¬ (L.length : Int) ≤ 40 := by omega
        have ha2 : (41 : Int) < (L.length : Int) ∨ ¬ (41 : Int) < (L.length : Int) := by omega
        have HFF : Hid (fewB L = false) := Lib.hid (by rw [HF.out, decide_eq_false ha]; rfl)
        clear HF HN hlt hk hk41
        rcases ha2 with ha2 | ha2
        · go_wp2
          go_ret
          exact ⟨by rw [HFF.out]; rfl, rfl⟩
        · go_wp2
          go_ret
          exact ⟨by rw [HFF.out]; rfl, rfl⟩

/-! ### Same, of two slices that read alike -/
set_option maxHeartbeats 1000000 in
theorem same_t {L : List Fr} {v v' : Value} {B B' : Nat} (w : World) (h : SlF w B v L) (h' : SlF w B' v' L) :
    Calls Tryd.prog 19 #[v, v'] w fun e w' => e = .returned (.bool true) ∧ ∃ n, w' = w.drewN n := by
  have H := Lib.hid h
  have H' := Lib.hid h'
  obtain ⟨A, cap, rfl, hm, _⟩ := h
  obtain ⟨A', cap', rfl, _, _⟩ := h'
  unfold maxLen at hm
  have e1 : ((L.length : Int) == (L.length : Int)) = true := by simp
  have e2 : ((L.length : Int) != (L.length : Int)) = false := by simp
  go_enter Tryd.func19, Tryd.ntmps19
  go_wp2_with fail
  go_loopw [5] (fun i wr => ∃ k m : Nat, k ≤ L.length ∧ i = .int .i64 k ∧ wr = w.drewN m) (fun i _ => L.length - (intOf i).toNat)
  case atStart => exact ⟨0, 0, by omega, rfl, rfl⟩
  case round =>
    obtain ⟨k, m, hk, rfl, rfl⟩ := hrel
    by_cases hlt : k < L.length
    · obtain ⟨x, cap1, hv, hxb, hcell⟩ := H.out.at_ hlt
      obtain ⟨y, cap2, hv', hyb, hcell'⟩ := H'.out.at_ hlt
      injection hv with hA hn hc
      injection hv' with hA' hn' hc'
      subst hA hA' hc hc'
      have a0 : w.cell? (x.add (k * 4)) = some (.int .i64 (L[k]'hlt).i) := FrAt.c0 hcell
      have a1 : w.cell? ⟨(x.add (k * 4)).block, (x.add (k * 4)).off + 1, none⟩ = some (.int .i64 (L[k]'hlt).n) := hcell 1 _ rfl
      have a2 : w.cell? ⟨(x.add (k * 4)).block, (x.add (k * 4)).off + 2, none⟩ = some (.int .i64 (L[k]'hlt).l) := hcell 2 _ rfl
      have a3 : w.cell? ⟨(x.add (k * 4)).block, (x.add (k * 4)).off + 3, none⟩ = some (.string (L[k]'hlt).d) := hcell 3 _ rfl
      have b0 : w.cell? (y.add (k * 4)) = some (.int .i64 (L[k]'hlt).i) := FrAt.c0 hcell'
      have b1 : w.cell? ⟨(y.add (k * 4)).block, (y.add (k * 4)).off + 1, none⟩ = some (.int .i64 (L[k]'hlt).n) := hcell' 1 _ rfl
      have b2 : w.cell? ⟨(y.add (k * 4)).block, (y.add (k * 4)).off + 2, none⟩ = some (.int .i64 (L[k]'hlt).l) := hcell' 2 _ rfl
      have b3 : w.cell? ⟨(y.add (k * 4)).block, (y.add (k * 4)).off + 3, none⟩ = some (.string (L[k]'hlt).d) := hcell' 3 _ rfl
      have ed := seq_self (L[k]'hlt).d
      clear hcell hcell' hxb hyb
      generalize L[k]'hlt = f at a0 a1 a2 a3 b0 b1 b2 b3 ed
      have hk0 : (0 : Int) ≤ (k : Int) := by omega
      have hk1 : (k : Int) < (L.length : Int) := by omega
      go_wp2_with fail
      go_quiet (fail)
      go_wp2
      exact ⟨⟨k + 1, m + nq, by omega, by go_num, rfl⟩, by simp [intOf]; omega⟩
    · obtain rfl : k = L.length := by omega
      go_wp2
      go_ret
      exact ⟨rfl, m, rfl⟩

end Go.Proofs.YtimlaopmhcipmaaDoor
