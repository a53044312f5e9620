/- Frame: the document's Right whole; Right in two words; ors of numbers. -/
import Derived.Test.YtohoedhaomkafaaFrmH
namespace Go.Proofs.Ytohoedhaomkafaa
open Go.RowKit
set_option linter.unusedVariables false

/-! ### ors -/
theorem or_u32 (a b : Nat) (ha : a < 4294967296) (hb : b < 4294967296) (hab : a + b < 4294967296) (h : a &&& b = 0) : bits .or .u32 (a : Int) (b : Int) = (a : Int) + b := by
  have e1 : (BitVec.ofInt 32 (a : Int)).toNat = a := by rw [BitVec.ofInt_natCast, BitVec.toNat_ofNat]; exact Nat.mod_eq_of_lt (by omega)
  have e2 : (BitVec.ofInt 32 (b : Int)).toNat = b := by rw [BitVec.ofInt_natCast, BitVec.toNat_ofNat]; exact Nat.mod_eq_of_lt (by omega)
  have hz : BitVec.ofInt 32 (a : Int) &&& BitVec.ofInt 32 (b : Int) = 0#32 := by
    apply BitVec.eq_of_toNat_eq
    rw [BitVec.toNat_and, e1, e2, h]; rfl
  show IntKind.u32.wrap (((BitVec.ofInt 32 (a : Int)) ||| (BitVec.ofInt 32 (b : Int))).toNat : Int) = _
  rw [← BitVec.add_eq_or_of_and_eq_zero _ _ hz, BitVec.toNat_add, e1, e2, IntKind.wrap_u32]
  omega
theorem or_pow (a i : Nat) (hi : i < 32) (ha : a + 2 ^ i < 4294967296) (h : a / 2 ^ i % 2 = 0) : bits .or .u32 (a : Int) ((2 ^ i : Nat) : Int) = (a : Int) + ((2 ^ i : Nat) : Int) :=
  or_u32 a (2 ^ i) (Nat.lt_of_le_of_lt (Nat.le_add_right _ _) ha) (Nat.lt_of_le_of_lt (Nat.le_add_left _ _) ha) ha (by rw [nat_and_pow, h, Nat.zero_mul])
theorem or31 (a : Int) (h0 : 0 ≤ a) (h1 : a < 2147483648) : bits .or .u32 a 2147483648 = a + 2147483648 := by
  obtain ⟨k, rfl⟩ := Int.eq_ofNat_of_zero_le h0
  exact or_pow k 31 (by decide) (by omega) (by omega)
theorem or30 (a : Int) (h0 : 0 ≤ a) (h1 : a < 3221225472) (h : a / 1073741824 % 2 = 0) : bits .or .u32 a 1073741824 = a + 1073741824 := by
  obtain ⟨k, rfl⟩ := Int.eq_ofNat_of_zero_le h0
  exact or_pow k 30 (by decide) (by omega) (by omega)
theorem or29 (a : Int) (h0 : 0 ≤ a) (h1 : a < 536870912) : bits .or .u32 a 536870912 = a + 536870912 := by
  obtain ⟨k, rfl⟩ := Int.eq_ofNat_of_zero_le h0
  exact or_pow k 29 (by decide) (by omega) (by omega)

/-! ### the document's Right -/
theorem okFl_parts {n : Int} (h0 : 0 ≤ n) (h1 : n ≤ 63) : okFl n = (!(fX n && (fE n || fR n || fD n)) && !(fD n && fR n) && !((fB n || fS n) && !fD n)) := by
  unfold okFl
  rw [decide_eq_true h0, decide_eq_true h1]
  simp
theorem okF_out {i n l : Int} {sz : Nat} (h : n < 0 ∨ 63 < n ∨ i < 0 ∨ 536870911 < i) : okF i n l sz = false := by
  unfold okF okFl idOk
  rcases h with h | h | h | h
  · rw [decide_eq_false (show ¬ 0 ≤ n by omega)]; simp
  · rw [decide_eq_false (show ¬ n ≤ 63 by omega)]; simp
  · rw [decide_eq_false (show ¬ 0 ≤ i by omega)]; simp
  · have ht : topN n ≤ 536870911 := by unfold topN; split <;> omega
    rw [decide_eq_false (show ¬ i ≤ topN n by omega)]; simp

theorem topN_v {n : Int} {e x : Bool} (he : fE n = e) (hx : fX n = x) : topN n = if e || x then 536870911 else 2047 := by unfold topN; rw [he, hx]
/-- what follows from that a frame may be -/
structure Good (i n l : Int) (sz : Nat) : Prop where
  n0 : 0 ≤ n
  n1 : n ≤ 63
  i0 : 0 ≤ i
  i1 : i ≤ topN n
  fl : okFl n = true
  ln : lenOk n l = true
  dt : datOk n l sz = true
theorem good {i n l : Int} {sz : Nat} (h : okF i n l sz = true) : Good i n l sz := by
  have h' := h
  unfold okF idOk at h'
  simp only [Bool.and_eq_true, decide_eq_true_eq] at h'
  have hn : 0 ≤ n ∧ n ≤ 63 := by
    apply Classical.byContradiction
    intro hc
    rw [okF_out (by omega)] at h
    cases h
  exact ⟨hn.1, hn.2, h'.1.1.2.1, h'.1.1.2.2, h'.1.1.1, h'.1.2, h'.2⟩
theorem Good.top {i n l : Int} {sz : Nat} (h : Good i n l sz) : i ≤ 536870911 := by
  have := h.i1; unfold topN at this; split at this <;> omega
theorem Good.noXE {i n l : Int} {sz : Nat} (h : Good i n l sz) (hx : fX n = true) : fE n = false ∧ fR n = false ∧ fD n = false := by
  have h1 := h.fl
  rw [okFl_parts h.n0 h.n1, hx] at h1
  revert h1
  cases fE n <;> cases fR n <;> cases fD n <;> cases fB n <;> cases fS n <;> decide
theorem Good.noDR {i n l : Int} {sz : Nat} (h : Good i n l sz) (hx : fD n = true) : fR n = false ∧ fX n = false := by
  have h1 := h.fl
  rw [okFl_parts h.n0 h.n1, hx] at h1
  revert h1
  cases fE n <;> cases fR n <;> cases fX n <;> cases fB n <;> cases fS n <;> decide

end Go.Proofs.Ytohoedhaomkafaa
