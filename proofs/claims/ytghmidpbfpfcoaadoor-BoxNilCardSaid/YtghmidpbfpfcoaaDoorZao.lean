/- Box: the law's calls in memory; few. Printed by gen_few.py. -/
import Derived.Test.YtghmidpbfpfcoaaDoorZan
namespace Go.Proofs.YtghmidpbfpfcoaaDoor
open Go.RowKit
set_option linter.unusedVariables false

/-- a call of the law's -/
structure Op9 where
  k : Int
  b : Int
  p : Pk
def opC9 (o : Op9) : List Value := [.int .i64 o.k, .int .i64 o.b, .int .i64 o.p.f.i, .int .i64 o.p.f.n, .int .i64 o.p.f.l, .string o.p.f.d, .int .i64 o.p.fr, .int .i64 o.p.tag, .bool o.p.lp]
theorem opC9_len (o : Op9) : (opC9 o).length = 9 := rfl
def fx5 (f : Op9) : Nat := min f.p.f.d.size 5000
def fxN (L : List Op9) (k : Nat) : Nat := ((L.take k).map fx5).sum
def fxB (L : List Op9) : Bool := decide (L.length ≤ 400) && decide (fxN L (min L.length 401) ≤ 8000)
theorem fxN_succ (L : List Op9) (k : Nat) (h : k < L.length) : fxN L (k + 1) = fxN L k + fx5 L[k] := by
  unfold fxN
  rw [List.take_succ_eq_append_getElem h, List.map_append, List.sum_append]
  simp only [List.map_cons, List.map_nil, List.sum_cons, List.sum_nil, Nat.add_zero]
theorem fx5_le (f : Op9) : fx5 f ≤ 5000 := Nat.min_le_right _ _
theorem fxN_le (L : List Op9) : ∀ k, fxN L k ≤ 5000 * k
  | 0 => by simp [fxN]
  | k + 1 => by
    have := fxN_le L k
    by_cases h : k < L.length
    · rw [fxN_succ L k h]; have := fx5_le L[k]; omega
    · have e : fxN L (k + 1) = fxN L k := by unfold fxN; rw [List.take_of_length_le (by omega), List.take_of_length_le (by omega)]
      omega
theorem fx_min (n : Nat) : min (n : Int) 5000 = ((min n 5000 : Nat) : Int) := by omega

set_option maxHeartbeats 1000000 in
theorem fx_any {L : List Op9} {v : Value} {B : Nat} (w : World) (h : SlG opC9 9 w B v L) :
    Calls Tryd.prog 6 #[v] w fun e w' => e = .returned (.bool (fxB L)) ∧ w = w' := by
  have H := Lib.hid h
  obtain ⟨A, cap, rfl, hm, _⟩ := h
  unfold maxLen at hm
  go_enter Tryd.func6, Tryd.ntmps6
  go_wp2_with fail
  go_loop [3, 4] (fun n i => ∃ k : Nat, k ≤ L.length ∧ k ≤ 401 ∧ i = .int .i64 k ∧ n = .int .i64 (fxN L k)) (fun _ i => L.length - (intOf i).toNat)
  case atStart => exact ⟨0, by omega, by omega, rfl, rfl⟩
  case round =>
    obtain ⟨k, hk, hk41, rfl, rfl⟩ := hrel
    have hN := fxN_le L k
    have HN : (fxN L k : Int) ≤ 2005000 := by omega
    clear hN
    by_cases hlt : k < L.length ∧ k ≤ 400
    · obtain ⟨h1, h2⟩ := hlt
      obtain ⟨x, cap', hv, hxb, hcell⟩ := H.out.at_ h1
      injection hv with hA hn hc
      subst hA hc
      have hc3 : w.cell? ⟨(x.add (k * 9)).block, (x.add (k * 9)).off + 5, none⟩ = some (.string (L[k]'h1).p.f.d) := hcell 5 _ rfl
      have hk1 : (k : Int) < (L.length : Int) := by omega
      have hk2 : (k : Int) ≤ 400 := by omega
      have hsucc := Lib.hid (fxN_succ L k h1)
      have hmin := fx_min (L[k]'h1).p.f.d.size
      have h5 := fx5_le (L[k]'h1)
      have h6 : ((fx5 (L[k]'h1) : Nat) : Int) ≤ 5000 := by omega
      have hmn : min ((L[k]'h1).p.f.d.size : Int) 5000 = ((fx5 (L[k]'h1) : Nat) : Int) := hmin
      clear hcell hmin h5 hxb
      generalize fx5 (L[k]'h1) = m at hsucc h6 hmn
      generalize (L[k]'h1).p.f.d = d at hc3 hmn
      go_wp2
      exact ⟨⟨k + 1, by omega, by omega, by go_num, by rw [hsucc.out]; go_num⟩, by simp [intOf]; omega⟩
    · have hkm : min L.length 401 = k := by omega
      have HF : Hid (fxB L = (decide (L.length ≤ 400) && decide (fxN L k ≤ 8000))) := Lib.hid (by unfold fxB; rw [hkm])
      clear hkm H
      generalize fxN L k = m at HN HF
      by_cases ha : L.length ≤ 400
      · obtain rfl : k = L.length := by omega
        have ha' : (L.length : Int) ≤ 400 := by omega
        clear hlt hk hk41
        by_cases hb : m ≤ 8000
        · have hb' : (m : Int) ≤ 8000 := by omega
          go_wp2
          go_ret
          exact ⟨by rw [HF.out, decide_eq_true ha, decide_eq_true hb]; rfl, rfl⟩
        · have hb' : ¬ (m : Int) ≤ 8000 := by omega
          go_wp2
          go_ret
          exact ⟨by rw [HF.out, decide_eq_true ha, decide_eq_false hb]; rfl, rfl⟩
      · obtain rfl : k = 401 := by omega
        have ha' : ¬ (L.length : Int) ≤ 400 := by omega
        have ha2 : (401 : Int) < (L.length : Int) ∨ ¬ (401 : Int) < (L.length : Int) := by omega
        have HFF : Hid (fxB L = false) := Lib.hid (by rw [HF.out, decide_eq_false ha]; rfl)
        clear HF HN hlt hk hk41
        rcases ha2 with ha2 | ha2
        · go_wp2
          go_ret
          exact ⟨by rw [HFF.out]; rfl, rfl⟩
        · go_wp2
          go_ret
          exact ⟨by rw [HFF.out]; rfl, rfl⟩
end Go.Proofs.YtghmidpbfpfcoaaDoor
