/- Frame: contracts of Code, Size, Fit; and of the document's Sizes, Code, Fit. -/
import Derived.Test.YtfjebggekghgkaaFrmB
namespace Go.Proofs.Ytfjebggekghgkaa
open Go.RowKit
set_option linter.unusedVariables false

theorem fbelow_t {w w1 w2 : World} (h : Below w.heap.size w w1) (h' : Below w1.heap.size w1 w2) : Below w.heap.size w w2 := h.trans (h'.mono h.size)
theorem fbelow_a {w w2 : World} (o : Obj) (h' : Below (w.alloc o).heap.size (w.alloc o) w2) : Below w.heap.size w w2 := fbelow_t ((Below.refl _ _).alloc (Nat.le_refl _) o) h'

/-! ### Fit -/
def hitF (n x : Int) : Bool := decide (0 ≤ n) && decide (n ≤ x)
def fitE (n : Int) : Ending := if 0 ≤ fitC n then .returned (.tuple #[.int .i64 (fitC n), .bool true]) else .returned (.tuple #[.int .i64 0, .bool false])
theorem fitE_t {n : Int} {k : Nat} (h : fitC n = k) : Ending.returned (.tuple #[.int .i64 k, .bool true]) = fitE n := by
  unfold fitE
  rw [if_pos (by rw [h]; simp), h]
theorem fitE_f {n : Int} (h : fitC n = -1) : Ending.returned (.tuple #[.int .i64 0, .bool false]) = fitE n := by
  unfold fitE
  rw [if_neg (by rw [h]; simp)]
theorem fit_lt {n : Int} {k : Nat} (h0 : 0 ≤ n) (h : noFit n k) : ∀ j, j < k → lens.getD j 0 < n := h.elim (fun h => by omega) id

theorem fitC_cases (n : Int) : fitC n = -1 ∨ ∃ k : Nat, k < 16 ∧ fitC n = k := by
  have h : -1 ≤ fitC n ∧ fitC n < 16 := by unfold fitC; (repeat' split) <;> omega
  by_cases h0 : fitC n = -1
  · exact .inl h0
  · exact .inr ⟨(fitC n).toNat, by omega, by omega⟩
def lenAt (k : Nat) : Int := lens.getD k 0

/-! ### the document's -/
def fitN (n : Int) : Int := if 0 ≤ fitC n then lens.getD (fitC n).toNat 0 else -1
theorem fitN_t {n : Int} {k : Nat} (h : fitC n = k) : lens.getD k 0 = fitN n := by
  unfold fitN
  rw [if_pos (by rw [h]; simp), h]
  simp
theorem fitN_f {n : Int} (h : fitC n = -1) : -1 = fitN n := by
  unfold fitN
  rw [if_neg (by rw [h]; simp)]

end Go.Proofs.Ytfjebggekghgkaa
