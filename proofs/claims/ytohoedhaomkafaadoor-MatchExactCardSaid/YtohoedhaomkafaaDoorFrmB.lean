/- Frame: contracts of first with its two closures, Code, Size, Fit; and of the document's Sizes, Code, Fit. -/
import Derived.Test.YtohoedhaomkafaaDoorFrmA
namespace Go.Proofs.YtohoedhaomkafaaDoor
open Go.RowKit
set_option linter.unusedVariables false

def noLen (n : Int) (k : Nat) : Prop := ∀ j, j < k → lens.getD j 0 ≠ n
def noFit (n : Int) (k : Nat) : Prop := n < 0 ∨ ∀ j, j < k → lens.getD j 0 < n
theorem noLen_succ {n : Int} {k : Nat} (h : noLen n k) (hk : lens.getD k 0 ≠ n) : noLen n (k + 1) := by
  intro j hj
  by_cases e : j = k
  · rw [e]; exact hk
  · exact h j (by omega)
theorem code_at : ∀ k : Fin 16, codeN (lens.getD k.val 0) = k.val := by decide
theorem codeN_hit {n : Int} {k : Nat} (hk : k < 16) (h : lens.getD k 0 = n) : codeN n = k := by rw [← h]; exact code_at ⟨k, hk⟩
theorem codeN_miss {n : Int} (h : noLen n 16) : codeN n = -1 := by
  have h0 := h 0 (by omega); have h1 := h 1 (by omega); have h2 := h 2 (by omega); have h3 := h 3 (by omega); have h4 := h 4 (by omega); have h5 := h 5 (by omega); have h6 := h 6 (by omega); have h7 := h 7 (by omega)
  have h8 := h 8 (by omega); have h9 := h 9 (by omega); have h10 := h 10 (by omega); have h11 := h 11 (by omega); have h12 := h 12 (by omega); have h13 := h 13 (by omega); have h14 := h 14 (by omega); have h15 := h 15 (by omega)
  simp [lens] at h0 h1 h2 h3 h4 h5 h6 h7 h8 h9 h10 h11 h12 h13 h14 h15
  unfold codeN
  repeat (rw [if_neg (by omega)])
theorem lens_mono : ∀ k : Fin 16, ∀ j : Fin 16, j.val < k.val → lens.getD j.val 0 < lens.getD k.val 0 := by decide
theorem fitC_hit {n : Int} {k : Nat} (hk : k < 16) (h0 : 0 ≤ n) (h1 : n ≤ lens.getD k 0) (h2 : ∀ j, j < k → lens.getD j 0 < n) : fitC n = k := by
  have hl : k = 0 ∨ lens.getD (k - 1) 0 < n := by
    by_cases h : k = 0
    · exact .inl h
    · exact .inr (h2 _ (by omega))
  clear h2
  have : k = 0 ∨ k = 1 ∨ k = 2 ∨ k = 3 ∨ k = 4 ∨ k = 5 ∨ k = 6 ∨ k = 7 ∨ k = 8 ∨ k = 9 ∨ k = 10 ∨ k = 11 ∨ k = 12 ∨ k = 13 ∨ k = 14 ∨ k = 15 := by omega
  rcases this with rfl | rfl | rfl | rfl | rfl | rfl | rfl | rfl | rfl | rfl | rfl | rfl | rfl | rfl | rfl | rfl
  all_goals
    simp [lens] at h1 hl
    unfold fitC
    repeat (first | rw [if_neg (by omega)] | rw [if_pos (by omega)])
    try omega
theorem fitC_miss {n : Int} (h : noFit n 16) : fitC n = -1 := by
  rcases h with h | h
  · unfold fitC; rw [if_pos h]
  · have h15 := h 15 (by omega)
    simp [lens] at h15
    unfold fitC
    repeat (rw [if_neg (by omega)])
theorem noFit_succ {n : Int} {k : Nat} (h : noFit n k) (hk : n < 0 ∨ lens.getD k 0 < n) : noFit n (k + 1) := by
  rcases h with h | h
  · exact .inl h
  rcases hk with hk | hk
  · exact .inl hk
  refine .inr fun j hj => ?_
  by_cases e : j = k
  · rw [e]; exact hk
  · exact h j (by omega)

theorem lens_idx (k : Nat) (hk : k < 16) (w : World) : (Instr.index 60 (.agg lenCells) (.int .i64 k)).run Tryd.prog w = .ok (.int .i64 (lens.getD k 0)) w := by
  have : k = 0 ∨ k = 1 ∨ k = 2 ∨ k = 3 ∨ k = 4 ∨ k = 5 ∨ k = 6 ∨ k = 7 ∨ k = 8 ∨ k = 9 ∨ k = 10 ∨ k = 11 ∨ k = 12 ∨ k = 13 ∨ k = 14 ∨ k = 15 := by omega
  rcases this with rfl | rfl | rfl | rfl | rfl | rfl | rfl | rfl | rfl | rfl | rfl | rfl | rfl | rfl | rfl | rfl <;> (show _ = _; kernel_rfl)

set_option maxHeartbeats 1000000 in
theorem codeClos_t (x n : Int) (b : Nat) (w : World) (hc : w.cell? ⟨b, 0, none⟩ = some (.int .i64 n)) (h : x = n) :
    Calls Tryd.prog 36 #[.int .i64 x, .pointer (some ⟨b, 0, none⟩)] w fun e w' => e = .returned (.bool true) ∧ w = w' := by
  have h1 : (x == n) = true := by simpa using h
  clear h
  go_enter Tryd.func36, Tryd.ntmps36
  go_wp2
  go_ret
  exact ⟨rfl, rfl⟩
set_option maxHeartbeats 1000000 in
theorem codeClos_f (x n : Int) (b : Nat) (w : World) (hc : w.cell? ⟨b, 0, none⟩ = some (.int .i64 n)) (h : x ≠ n) :
    Calls Tryd.prog 36 #[.int .i64 x, .pointer (some ⟨b, 0, none⟩)] w fun e w' => e = .returned (.bool false) ∧ w = w' := by
  have h1 : (x == n) = false := by simpa using h
  clear h
  go_enter Tryd.func36, Tryd.ntmps36
  go_wp2
  go_ret
  exact ⟨rfl, rfl⟩

def codeE (n : Int) : Ending := if isLen n then .returned (.tuple #[.int .i64 (codeN n), .bool true]) else .returned (.tuple #[.int .i64 0, .bool false])
theorem codeE_t {n : Int} {k : Nat} (h : codeN n = k) : Ending.returned (.tuple #[.int .i64 k, .bool true]) = codeE n := by
  unfold codeE
  rw [if_pos (by unfold isLen; rw [h]; simp), h]
theorem codeE_f {n : Int} (h : codeN n = -1) : Ending.returned (.tuple #[.int .i64 0, .bool false]) = codeE n := by
  unfold codeE
  rw [if_neg (by unfold isLen; rw [h]; simp)]

set_option maxHeartbeats 2000000 in
theorem firstCode_any (n : Int) (b : Nat) (w : World) (hT : Tabs w) (hc : w.cell? ⟨b, 0, none⟩ = some (.int .i64 n)) :
    Calls Tryd.prog 35 #[.func (.func 36) #[] #[.pointer (some ⟨b, 0, none⟩)]] w fun e w' => e = codeE n ∧ w = w' := by
  obtain ⟨⟨t, fr, hg⟩, _⟩ := hT
  have HG := Lib.hid hg
  clear hg
  go_enter Tryd.func35, Tryd.ntmps35
  go_wp2_with (refine wpList_load_row rfl 60 _ rfl 1 rfl t lenCells fr _ HG.out Tryd.underlying60 rfl (by kernel_rfl) ?_)
  go_loop [4, 5, 7] (fun _ _ i => ∃ k : Nat, k ≤ 16 ∧ i = .int .i64 k ∧ noLen n k) (fun _ _ i => 16 - (intOf i).toNat)
  case atStart => exact ⟨0, by omega, rfl, fun j hj => by omega⟩
  case round =>
    obtain ⟨k, hk, rfl, hno⟩ := hrel
    by_cases hlt : k < 16
    · have hi := lens_idx k hlt
      by_cases hx : lens.getD k 0 = n
      · have hE := Lib.hid (codeE_t (codeN_hit hlt hx))
        have HX := Lib.hid hx
        clear hx hno
        go_wp2_with (go_at_call 36; refine (codeClos_t (lens.getD k 0) n b _ hc HX.out).mono ?_; rintro e w1 ⟨rfl, rfl⟩)
        go_ret2
        exact ⟨hE.out, rfl⟩
      · have hno' := Lib.hid (noLen_succ hno hx)
        have HX := Lib.hid hx
        clear hx hno
        go_wp2_with (go_at_call 36; refine (codeClos_f (lens.getD k 0) n b _ hc HX.out).mono ?_; rintro e w1 ⟨rfl, rfl⟩)
        go_round
        case rel => exact ⟨k + 1, by omega, by go_num, hno'.out⟩
        case measure => simp [intOf]; omega
    · obtain rfl : k = 16 := by omega
      have hE := Lib.hid (codeE_f (codeN_miss hno))
      clear hno
      go_wp2
      go_ret2
      exact ⟨hE.out, rfl⟩

end Go.Proofs.YtohoedhaomkafaaDoor
