/- Band: the law's calls in memory; few. Printed by gen_few.py. Band, the document's side: Same, of two slices of packets that read alike. Of no program: two objects behind calls of the one and of the other, with what has turned since a call's beginning; a slice of the caller's, outside of what an object owns. -/
import Derived.Test.YtpljlpfoalcfmaaZam
import Derived.Test.YtpljlpfoalcfmaaZai
import Derived.Test.YtpljlpfoalcfmaaZaf
namespace Go.Proofs.Ytpljlpfoalcfmaa
open Go.RowKit
set_option linter.unusedVariables false

/-- a call of the law's -/
structure OpB where
  k : Int
  b : Int
  p : Pk
def opCB (o : OpB) : List Value := [.int .i64 o.k, .int .i64 o.b, .int .i64 o.p.f.i, .int .i64 o.p.f.n, .int .i64 o.p.f.l, .string o.p.f.d, .int .i64 o.p.fr, .int .i64 o.p.tag, .bool o.p.lp]
theorem opCB_len (o : OpB) : (opCB o).length = 9 := rfl
def opOfB : List Value → OpB
  | [.int _ k, .int _ m, .int _ i, .int _ n, .int _ l, .string d, .int _ fr, .int _ t, .bool lp] => ⟨k, m, ⟨⟨i, n, l, d⟩, fr, t, lp⟩⟩
  | _ => ⟨0, 0, pk0⟩
abbrev opShB : List Sh := [.int .i64, .int .i64, .int .i64, .int .i64, .int .i64, .str, .int .i64, .int .i64, .bool]
theorem opOfB_c (l : List Value) (h : FitsAll opShB l) : opCB (opOfB l) = l := by
  obtain ⟨v0, l0, rfl, ⟨a0, rfl, _⟩, h0⟩ := FitsAll.cons h
  obtain ⟨v1, l1, rfl, ⟨a1, rfl, _⟩, h1⟩ := FitsAll.cons h0
  obtain ⟨v2, l2, rfl, ⟨a2, rfl, _⟩, h2⟩ := FitsAll.cons h1
  obtain ⟨v3, l3, rfl, ⟨a3, rfl, _⟩, h3⟩ := FitsAll.cons h2
  obtain ⟨v4, l4, rfl, ⟨a4, rfl, _⟩, h4⟩ := FitsAll.cons h3
  obtain ⟨v5, l5, rfl, ⟨a5, rfl, _⟩, h5⟩ := FitsAll.cons h4
  obtain ⟨v6, l6, rfl, ⟨a6, rfl, _⟩, h6⟩ := FitsAll.cons h5
  obtain ⟨v7, l7, rfl, ⟨a7, rfl, _⟩, h7⟩ := FitsAll.cons h6
  obtain ⟨v8, l8, rfl, ⟨a8, rfl⟩, h8⟩ := FitsAll.cons h7
  obtain rfl := FitsAll.nil h8
  rfl
def fb5 (f : OpB) : Nat := min f.p.f.d.size 5000
def fbN (L : List OpB) (k : Nat) : Nat := ((L.take k).map fb5).sum
def fbB (L : List OpB) : Bool := decide (L.length ≤ 400) && decide (fbN L (min L.length 401) ≤ 8000)
theorem fbN_succ (L : List OpB) (k : Nat) (h : k < L.length) : fbN L (k + 1) = fbN L k + fb5 L[k] := by
  unfold fbN
  rw [List.take_succ_eq_append_getElem h, List.map_append, List.sum_append]
  simp only [List.map_cons, List.map_nil, List.sum_cons, List.sum_nil, Nat.add_zero]
theorem fb5_le (f : OpB) : fb5 f ≤ 5000 := Nat.min_le_right _ _
theorem fbN_le (L : List OpB) : ∀ k, fbN L k ≤ 5000 * k
  | 0 => by simp [fbN]
  | k + 1 => by
    have := fbN_le L k
    by_cases h : k < L.length
    · rw [fbN_succ L k h]; have := fb5_le L[k]; omega
    · have e : fbN L (k + 1) = fbN L k := by unfold fbN; rw [List.take_of_length_le (by omega), List.take_of_length_le (by omega)]
      omega
theorem fb_min (n : Nat) : min (n : Int) 5000 = ((min n 5000 : Nat) : Int) := by omega

set_option maxHeartbeats 1000000 in
theorem fb_any {L : List OpB} {v : Value} {B : Nat} (w : World) (h : SlG opCB 9 w B v L) :
    Calls Try.prog 7 #[v] w fun e w' => e = .returned (.bool (fbB L)) ∧ w = w' := by
  have H := Lib.hid h
  obtain ⟨A, cap, rfl, hm, _⟩ := h
  unfold maxLen at hm
  go_enter Try.func7, Try.ntmps7
  go_wp2_with fail
  go_loop [3, 4] (fun n i => ∃ k : Nat, k ≤ L.length ∧ k ≤ 401 ∧ i = .int .i64 k ∧ n = .int .i64 (fbN L k)) (fun _ i => L.length - (intOf i).toNat)
  case atStart => exact ⟨0, by omega, by omega, rfl, rfl⟩
  case round =>
    obtain ⟨k, hk, hk41, rfl, rfl⟩ := hrel
    have hN := fbN_le L k
    have HN : (fbN L k : Int) ≤ 2005000 := by omega
    clear hN
    by_cases hlt : k < L.length ∧ k ≤ 400
    · obtain ⟨h1, h2⟩ := hlt
      obtain ⟨x, cap', hv, hxb, hcell⟩ := H.out.at_ h1
      injection hv with hA hn hc
      subst hA hc
      have hc3 : w.cell? ⟨(x.add (k * 9)).block, (x.add (k * 9)).off + 5, none⟩ = some (.string (L[k]'h1).p.f.d) := hcell 5 _ rfl
      have hk1 : (k : Int) < (L.length : Int) := by omega
      have hk2 : (k : Int) ≤ 400 := by omega
      have hsucc := Lib.hid (fbN_succ L k h1)
      have hmin := fb_min (L[k]'h1).p.f.d.size
      have h5 := fb5_le (L[k]'h1)
      have h6 : ((fb5 (L[k]'h1) : Nat) : Int) ≤ 5000 := by omega
      have hmn : min ((L[k]'h1).p.f.d.size : Int) 5000 = ((fb5 (L[k]'h1) : Nat) : Int) := hmin
      clear hcell hmin h5 hxb
      generalize fb5 (L[k]'h1) = m at hsucc h6 hmn
      generalize (L[k]'h1).p.f.d = d at hc3 hmn
      go_wp2
      exact ⟨⟨k + 1, by omega, by omega, by go_num, by rw [hsucc.out]; go_num⟩, by simp [intOf]; omega⟩
    · have hkm : min L.length 401 = k := by omega
      have HF : Hid (fbB L = (decide (L.length ≤ 400) && decide (fbN L k ≤ 8000))) := Lib.hid (by unfold fbB; rw [hkm])
      clear hkm H
      generalize fbN L k = m at HN HF
      by_cases ha : L.length ≤ 400
      · obtain rfl : k = L.length := by omega
        have ha' : (L.length : Int) ≤ 400 := by omega
        clear hlt hk hk41
        by_cases hb : m ≤ 8000
        · have hb' : (m : Int) ≤ 8000 := by omega
          go_wp2
          go_ret
          exact ⟨by rw [HF.out, decide_eq_true ha, decide_eq_true hb]; rfl, rfl⟩
        · have hb' : ¬ (m : Int) ≤ 8000 := by omega
          go_wp2
          go_ret
          exact ⟨by rw [HF.out, decide_eq_true ha, decide_eq_false hb]; rfl, rfl⟩
      · obtain rfl : k = 401 := by omega
        have ha' : ¬ (L.length : Int) ≤ 400 := by omega
        have ha2 : (401 : Int) < (L.length : Int) ∨ ¬ (401 : Int) < (L.length : Int) := by omega
        have HFF : Hid (fbB L = false) := Lib.hid (by rw [HF.out, decide_eq_false ha]; rfl)
        clear HF HN hlt hk hk41
        rcases ha2 with ha2 | ha2
        · go_wp2
          go_ret
          exact ⟨by rw [HFF.out]; rfl, rfl⟩
        · go_wp2
          go_ret
          exact ⟨by rw [HFF.out]; rfl, rfl⟩
theorem fbB_len {L : List OpB} (h : fbB L = true) : L.length ≤ 400 := by
  unfold fbB at h
  simp only [Bool.and_eq_true, decide_eq_true_eq] at h
  exact h.1
/-- a call behind an address -/
def BoxOB (w : World) (b : Nat) (o : OpB) : Prop := w.heap[b]? = some (.cells #[.int .i64 o.k, .int .i64 o.b, .int .i64 o.p.f.i, .int .i64 o.p.f.n, .int .i64 o.p.f.l, .string o.p.f.d, .int .i64 o.p.fr, .int .i64 o.p.tag, .bool o.p.lp] 34 (0, 0))
theorem BoxOB.made (w : World) (o : OpB) : BoxOB (w.alloc (.cells #[.int .i64 o.k, .int .i64 o.b, .int .i64 o.p.f.i, .int .i64 o.p.f.n, .int .i64 o.p.f.l, .string o.p.f.d, .int .i64 o.p.fr, .int .i64 o.p.tag, .bool o.p.lp] 34)) w.heap.size o := by unfold BoxOB World.alloc; simp
theorem BoxOB.lt {w : World} {b : Nat} {o : OpB} (h : BoxOB w b o) : b < w.heap.size := (Array.getElem?_eq_some_iff.1 h).1
theorem BoxOB.kept {w w' : World} {b : Nat} {o : OpB} {O : Nat → Prop} (h : BoxOB w b o) (hk : Kept O w w') (hn : ¬ O b) : BoxOB w' b o := (hk.block b h.lt hn).trans h
theorem BoxOB.later {w w' : World} {b : Nat} {o : OpB} (h : BoxOB w b o) (hb : Below w.heap.size w w') : BoxOB w' b o := (hb.block b h.lt).trans h
theorem BoxOB.cells {w : World} {b : Nat} {o : OpB} (h : BoxOB w b o) : w.cell? ⟨b, 0, none⟩ = some (.int .i64 o.k) ∧ w.cell? ⟨b, 1, none⟩ = some (.int .i64 o.b) ∧ w.cell? ⟨b, 2, none⟩ = some (.int .i64 o.p.f.i) ∧ w.cell? ⟨b, 3, none⟩ = some (.int .i64 o.p.f.n) ∧ w.cell? ⟨b, 4, none⟩ = some (.int .i64 o.p.f.l) ∧
    w.cell? ⟨b, 5, none⟩ = some (.string o.p.f.d) ∧ w.cell? ⟨b, 6, none⟩ = some (.int .i64 o.p.fr) ∧ w.cell? ⟨b, 7, none⟩ = some (.int .i64 o.p.tag) ∧ w.cell? ⟨b, 8, none⟩ = some (.bool o.p.lp) := by
  unfold BoxOB at h
  refine ⟨?_, ?_, ?_, ?_, ?_, ?_, ?_, ?_, ?_⟩ <;> (rw [Lib.cell_of_heap h]; rfl)
end Go.Proofs.Ytpljlpfoalcfmaa

namespace Go.Proofs.Ytpljlpfoalcfmaa
open Go.RowKit
set_option linter.unusedVariables false
set_option maxHeartbeats 1000000 in
theorem pksame_t {L : List Pk} {v v' : Value} {B B' : Nat} (w : World) (h : SlG pkC 7 w B v L) (h' : SlG pkC 7 w B' v' L) :
    Calls Try.prog 20 #[v, v'] w fun e w' => e = .returned (.bool true) ∧ ∃ n, w' = w.drewN n := by
  have H := Lib.hid h
  have H' := Lib.hid h'
  obtain ⟨A, cap, rfl, hm, _⟩ := h
  obtain ⟨A', cap', rfl, _, _⟩ := h'
  unfold maxLen at hm
  have e1 : ((L.length : Int) == (L.length : Int)) = true := by simp
  have e2 : ((L.length : Int) != (L.length : Int)) = false := by simp
  go_enter Try.func20, Try.ntmps20
  go_wp2_with fail
  go_loopw [5] (fun i wr => ∃ k m : Nat, k ≤ L.length ∧ i = .int .i64 k ∧ wr = w.drewN m) (fun i _ => L.length - (intOf i).toNat)
  case atStart => exact ⟨0, 0, by omega, rfl, rfl⟩
  case round =>
    obtain ⟨k, m, hk, rfl, rfl⟩ := hrel
    by_cases hlt : k < L.length
    · obtain ⟨x, cap1, hv, hxb, hcell⟩ := H.out.at_ hlt
      obtain ⟨y, cap2, hv', hyb, hcell'⟩ := H'.out.at_ hlt
      injection hv with hA hn hc
      injection hv' with hA' hn' hc'
      subst hA hA' hc hc'
      have a0 : w.cell? (x.add (k * 7)) = some (.int .i64 (L[k]'hlt).f.i) := hcell 0 _ rfl
      have a1 : w.cell? ⟨(x.add (k * 7)).block, (x.add (k * 7)).off + 1, none⟩ = some (.int .i64 (L[k]'hlt).f.n) := hcell 1 _ rfl
      have a2 : w.cell? ⟨(x.add (k * 7)).block, (x.add (k * 7)).off + 2, none⟩ = some (.int .i64 (L[k]'hlt).f.l) := hcell 2 _ rfl
      have a3 : w.cell? ⟨(x.add (k * 7)).block, (x.add (k * 7)).off + 3, none⟩ = some (.string (L[k]'hlt).f.d) := hcell 3 _ rfl
      have a4 : w.cell? ⟨(x.add (k * 7)).block, (x.add (k * 7)).off + 4, none⟩ = some (.int .i64 (L[k]'hlt).fr) := hcell 4 _ rfl
      have a5 : w.cell? ⟨(x.add (k * 7)).block, (x.add (k * 7)).off + 5, none⟩ = some (.int .i64 (L[k]'hlt).tag) := hcell 5 _ rfl
      have a6 : w.cell? ⟨(x.add (k * 7)).block, (x.add (k * 7)).off + 6, none⟩ = some (.bool (L[k]'hlt).lp) := hcell 6 _ rfl
      have b0 : w.cell? (y.add (k * 7)) = some (.int .i64 (L[k]'hlt).f.i) := hcell' 0 _ rfl
      have b1 : w.cell? ⟨(y.add (k * 7)).block, (y.add (k * 7)).off + 1, none⟩ = some (.int .i64 (L[k]'hlt).f.n) := hcell' 1 _ rfl
      have b2 : w.cell? ⟨(y.add (k * 7)).block, (y.add (k * 7)).off + 2, none⟩ = some (.int .i64 (L[k]'hlt).f.l) := hcell' 2 _ rfl
      have b3 : w.cell? ⟨(y.add (k * 7)).block, (y.add (k * 7)).off + 3, none⟩ = some (.string (L[k]'hlt).f.d) := hcell' 3 _ rfl
      have b4 : w.cell? ⟨(y.add (k * 7)).block, (y.add (k * 7)).off + 4, none⟩ = some (.int .i64 (L[k]'hlt).fr) := hcell' 4 _ rfl
      have b5 : w.cell? ⟨(y.add (k * 7)).block, (y.add (k * 7)).off + 5, none⟩ = some (.int .i64 (L[k]'hlt).tag) := hcell' 5 _ rfl
      have b6 : w.cell? ⟨(y.add (k * 7)).block, (y.add (k * 7)).off + 6, none⟩ = some (.bool (L[k]'hlt).lp) := hcell' 6 _ rfl
      have ed := seq_self (L[k]'hlt).f.d
      clear hcell hcell' hxb hyb
      generalize L[k]'hlt = f at a0 a1 a2 a3 a4 a5 a6 b0 b1 b2 b3 b4 b5 b6 ed
      have hk0 : (0 : Int) ≤ (k : Int) := by omega
      have hk1 : (k : Int) < (L.length : Int) := by omega
      go_wp2_with fail
      go_quiet (fail)
      go_wp2
      exact ⟨⟨k + 1, m + nq, by omega, by go_num, rfl⟩, by simp [intOf]; omega⟩
    · obtain rfl : k = L.length := by omega
      go_wp2
      go_ret
      exact ⟨rfl, m, rfl⟩
end Go.Proofs.Ytpljlpfoalcfmaa

namespace Go.Proofs.Ytpljlpfoalcfmaa
open Go.RowKit
set_option linter.unusedVariables false

section
variable {σ τ : Type} {I : World → Value → σ → (Nat → Prop) → Prop} {J : World → Value → τ → (Nat → Prop) → Prop} {w0 w w' wb : World} {v v' : Value} {s s' : σ} {t t' : τ} {U O O' O1 : Nat → Prop}
structure PairJ (I : World → Value → σ → (Nat → Prop) → Prop) (J : World → Value → τ → (Nat → Prop) → Prop) (w0 : World) (v v' : Value) (s : σ) (t : τ) (U O O' : Nat → Prop) (w wb : World) : Prop where
  pr : Pair I J w0 v v' s t O O' w
  kp : Kept U wb w
  g1 : Grows U wb O
  g2 : Grows U wb O'
theorem PairJ.start (hI : IsObj I) (hJ : IsObj J) (h : Pair I J w0 v v' s t O O' w) (hb : Below wb.heap.size wb w) : PairJ I J w0 v v' s t (fun k => O k ∨ O' k) O O' w wb := ⟨h, .of_below hb, fun k h => .inl (.inl h), fun k h => .inl (.inr h)⟩
theorem PairJ.later (hI : IsObj I) (hJ : IsObj J) (h : PairJ I J w0 v v' s t U O O' w wb) (hb : Below w.heap.size w w') : PairJ I J w0 v v' s t U O O' w' wb := ⟨h.pr.later hI hJ hb, h.kp.trans (.of_below (O := U) hb) (Grows.refl _ _), h.g1, h.g2⟩
theorem PairJ.stepA (hI : IsObj I) (hJ : IsObj J) (h : PairJ I J w0 v v' s t U O O' w wb) (hi : I w' v s' O1) (hk : Kept O w w') (hg : Grows O w O1) : PairJ I J w0 v v' s' t U O1 O' w' wb :=
  ⟨h.pr.stepA hI hJ hi hk hg, h.kp.trans hk h.g1, h.g1.trans hg h.kp.size, h.g2⟩
theorem PairJ.stepB (hI : IsObj I) (hJ : IsObj J) (h : PairJ I J w0 v v' s t U O O' w wb) (hi : J w' v' t' O1) (hk : Kept O' w w') (hg : Grows O' w O1) : PairJ I J w0 v v' s t' U O O1 w' wb :=
  ⟨h.pr.stepB hI hJ hi hk hg, h.kp.trans hk h.g2, h.g1, h.g2.trans hg h.kp.size⟩
theorem PairJ.lt (hI : IsObj I) (hJ : IsObj J) (h : PairJ I J w0 v v' s t U O O' w wb) : (∀ k, O k → k < w.heap.size) ∧ ∀ k, O' k → k < w.heap.size := ⟨hI.lt h.pr.a.inv, hJ.lt h.pr.b.inv⟩
end
/-- a slice that was there when the caller began is outside of what is new -/
theorem slA_old {α : Type} {c : α → List Value} {n : Nat} {w0 w : World} {v : Value} {L : List α} {O : Nat → Prop} (h : SlG c n w0 w0.heap.size v L) (hb : Below w0.heap.size w0 w) (hO : ∀ k, O k → w0.heap.size ≤ k) : SlA c n w O v L := by
  obtain ⟨A, cap, hv, hm, hc⟩ := h
  refine ⟨A, cap, hv, hm, fun i a ha => ?_⟩
  obtain ⟨x, h1, h2, h4⟩ := hc i a ha
  exact ⟨x, h1, Nat.lt_of_lt_of_le h2 hb.size, fun h => by have := hO _ h; omega, fun j u hu => (hb.cell (by rw [addr_block]; exact h2)).trans (h4 j u hu)⟩
end Go.Proofs.Ytpljlpfoalcfmaa
