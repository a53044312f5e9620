/- Frame: words lead back to frames' identifiers and flags (numbers alone). -/
import Derived.Test.YtimlaopmhcipmaaDoorFrmX
namespace Go.Proofs.YtimlaopmhcipmaaDoor
open Go.RowKit
set_option linter.unusedVariables false

theorem wordN_of {W : Int} (h0 : 0 ≤ W) (h1 : W < 4294967296) : wordN (W % 536870912) (nOf W) = W := by
  unfold wordN nOf
  have e1 : wE W = decide (W / 2147483648 % 2 = 1) := rfl
  have e2 : wR W = decide (W / 1073741824 % 2 = 1) := rfl
  have e3 : wX W = decide (W / 536870912 % 2 = 1) := rfl
  cases he : wE W <;> cases hr : wR W <;> cases hx : wX W <;> rw [he] at e1 <;> rw [hr] at e2 <;> rw [hx] at e3 <;> have e1 := e1.symm <;> have e2 := e2.symm <;> have e3 := e3.symm <;> simp at e1 e2 e3 <;> simp [b01, fE, fR, fX] <;> omega

theorem word_back {i n : Int} (i0 : 0 ≤ i) (i1 : i ≤ 536870911) (n0 : 0 ≤ n) (n8 : n < 8) : wordN i n % 536870912 = i ∧ nOf (wordN i n) = n ∧ 0 ≤ wordN i n ∧ wordN i n < 4294967296 ∧ wR (wordN i n) = fR n := by
  have : n = 0 ∨ n = 1 ∨ n = 2 ∨ n = 3 ∨ n = 4 ∨ n = 5 ∨ n = 6 ∨ n = 7 := by omega
  have key : ∀ e r x : Bool, ∀ W : Int, W = i + 2147483648 * b01 e + 1073741824 * b01 r + 536870912 * b01 x → W % 536870912 = i ∧ wE W = e ∧ wR W = r ∧ wX W = x ∧ 0 ≤ W ∧ W < 4294967296 := by
    intro e r x W hW
    unfold wE wR wX
    cases e <;> cases r <;> cases x <;> simp only [b01, if_true, if_false, Bool.false_eq_true, decide_eq_true_eq, decide_eq_false_iff_not] at hW ⊢ <;> omega
  have hW : wordN i n = i + 2147483648 * b01 (fE n) + 1073741824 * b01 (fR n) + 536870912 * b01 (fX n) := rfl
  obtain ⟨h1, h2, h3, h4, h5, h6⟩ := key _ _ _ _ hW
  refine ⟨h1, ?_, h5, h6, h3⟩
  unfold nOf
  rw [h2, h3, h4]
  rcases this with rfl | rfl | rfl | rfl | rfl | rfl | rfl | rfl <;> decide

end Go.Proofs.YtimlaopmhcipmaaDoor
