/- Frame: contracts of first with its two closures, Code, Size, Fit; and of the document's Sizes, Code, Fit. -/
import Derived.Test.YtfjebggekghgkaaFrmA
namespace Go.Proofs.Ytfjebggekghgkaa
open Go.RowKit
set_option linter.unusedVariables false

def noLen (n : Int) (k : Nat) : Prop := ∀ j, j < k → lens.getD j 0 ≠ n
def noFit (n : Int) (k : Nat) : Prop := n < 0 ∨ ∀ j, j < k → lens.getD j 0 < n
theorem noLen_succ {n : Int} {k : Nat} (h : noLen n k) (hk : lens.getD k 0 ≠ n) : noLen n (k + 1) := by
  intro j hj
  by_cases e : j = k
  · rw [e]; exact hk
  · exact h j (by omega)
theorem code_at : ∀ k : Fin 16, codeN (lens.getD k.val 0) = k.val := by decide
theorem codeN_hit {n : Int} {k : Nat} (hk : k < 16) (h : lens.getD k 0 = n) : codeN n = k := by rw [← h]; exact code_at ⟨k, hk⟩
theorem codeN_miss {n : Int} (h : noLen n 16) : codeN n = -1 := by
  have h0 := h 0 (by omega); have h1 := h 1 (by omega); have h2 := h 2 (by omega); have h3 := h 3 (by omega); have h4 := h 4 (by omega); have h5 := h 5 (by omega); have h6 := h 6 (by omega); have h7 := h 7 (by omega)
  have h8 := h 8 (by omega); have h9 := h 9 (by omega); have h10 := h 10 (by omega); have h11 := h 11 (by omega); have h12 := h 12 (by omega); have h13 := h 13 (by omega); have h14 := h 14 (by omega); have h15 := h 15 (by omega)
  simp [lens] at h0 h1 h2 h3 h4 h5 h6 h7 h8 h9 h10 h11 h12 h13 h14 h15
  unfold codeN
  repeat (rw [if_neg (by omega)])
theorem lens_mono : ∀ k : Fin 16, ∀ j : Fin 16, j.val < k.val → lens.getD j.val 0 < lens.getD k.val 0 := by decide
theorem fitC_hit {n : Int} {k : Nat} (hk : k < 16) (h0 : 0 ≤ n) (h1 : n ≤ lens.getD k 0) (h2 : ∀ j, j < k → lens.getD j 0 < n) : fitC n = k := by
  have hl : k = 0 ∨ lens.getD (k - 1) 0 < n := by
    by_cases h : k = 0
    · exact .inl h
    · exact .inr (h2 _ (by omega))
  clear h2
  have : k = 0 ∨ k = 1 ∨ k = 2 ∨ k = 3 ∨ k = 4 ∨ k = 5 ∨ k = 6 ∨ k = 7 ∨ k = 8 ∨ k = 9 ∨ k = 10 ∨ k = 11 ∨ k = 12 ∨ k = 13 ∨ k = 14 ∨ k = 15 := by omega
  rcases this with rfl | rfl | rfl | rfl | rfl | rfl | rfl | rfl | rfl | rfl | rfl | rfl | rfl | rfl | rfl | rfl
  all_goals
    simp [lens] at h1 hl
    unfold fitC
    repeat (first | rw [if_neg (by omega)] | rw [if_pos (by omega)])
    try omega
theorem fitC_miss {n : Int} (h : noFit n 16) : fitC n = -1 := by
  rcases h with h | h
  · unfold fitC; rw [if_pos h]
  · have h15 := h 15 (by omega)
    simp [lens] at h15
    unfold fitC
    repeat (rw [if_neg (by omega)])
theorem noFit_succ {n : Int} {k : Nat} (h : noFit n k) (hk : n < 0 ∨ lens.getD k 0 < n) : noFit n (k + 1) := by
  rcases h with h | h
  · exact .inl h
  rcases hk with hk | hk
  · exact .inl hk
  refine .inr fun j hj => ?_
  by_cases e : j = k
  · rw [e]; exact hk
  · exact h j (by omega)

def codeE (n : Int) : Ending := if isLen n then .returned (.tuple #[.int .i64 (codeN n), .bool true]) else .returned (.tuple #[.int .i64 0, .bool false])
theorem codeE_t {n : Int} {k : Nat} (h : codeN n = k) : Ending.returned (.tuple #[.int .i64 k, .bool true]) = codeE n := by
  unfold codeE
  rw [if_pos (by unfold isLen; rw [h]; simp), h]
theorem codeE_f {n : Int} (h : codeN n = -1) : Ending.returned (.tuple #[.int .i64 0, .bool false]) = codeE n := by
  unfold codeE
  rw [if_neg (by unfold isLen; rw [h]; simp)]

end Go.Proofs.Ytfjebggekghgkaa
