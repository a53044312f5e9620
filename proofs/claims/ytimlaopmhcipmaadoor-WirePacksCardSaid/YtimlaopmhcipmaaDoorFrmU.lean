/- Frame: the walk of FrameOrder. -/
import Derived.Test.YtimlaopmhcipmaaDoorFrmT
namespace Go.Proofs.YtimlaopmhcipmaaDoor
open Go.RowKit
set_option linter.unusedVariables false

theorem and11_small : ∀ k : Fin 64, bits .and .i64 ((k.val : Nat) : Int) 11 = b01 (fE ((k.val : Nat) : Int)) + 2 * b01 (fR ((k.val : Nat) : Int)) + 8 * b01 (fD ((k.val : Nat) : Int)) := by decide +kernel
theorem and11 {n : Int} (h0 : 0 ≤ n) (h1 : n ≤ 63) : bits .and .i64 n 11 = b01 (fE n) + 2 * b01 (fR n) + 8 * b01 (fD n) := by
  obtain ⟨k, rfl⟩ := flag_cases h0 h1
  exact and11_small k
theorem keyV_pos {i n l : Int} {sz : Nat} (h : 0 ≤ keyV i n l sz) : okF i n l sz = true ∧ fX n = false ∧ keyV i n l sz = keyN i n := by
  unfold keyV at h ⊢
  cases hq : (okF i n l sz && !fX n)
  · rw [hq] at h; simp at h
  · simp only [Bool.and_eq_true, Bool.not_eq_true'] at hq
    exact ⟨hq.1, hq.2, rfl⟩
theorem keyN_inj {i n i' n' : Int} (i0 : 0 ≤ i) (i0' : 0 ≤ i') (h1 : fE n = false → i ≤ 2047) (h1' : fE n' = false → i' ≤ 2047) (h2 : i ≤ 536870911) (h2' : i' ≤ 536870911) :
    keyN i n = keyN i' n' ↔ i = i' ∧ b01 (fE n) + 2 * b01 (fR n) + 8 * b01 (fD n) = b01 (fE n') + 2 * b01 (fR n') + 8 * b01 (fD n') := by
  unfold keyN
  have r := b01_bd (fR n); have r' := b01_bd (fR n'); have dd := b01_bd (fD n); have dd' := b01_bd (fD n')
  generalize b01 (fR n) = R at *
  generalize b01 (fR n') = R' at *
  generalize b01 (fD n) = D at *
  generalize b01 (fD n') = D' at *
  cases he : fE n <;> cases he' : fE n'
  · have := h1 he; have := h1' he'
    simp only [Bool.false_eq_true, if_false, b01]
    omega
  · have := h1 he
    simp only [Bool.false_eq_true, if_false, if_true, b01]
    omega
  · have := h1' he'
    simp only [Bool.false_eq_true, if_false, if_true, b01]
    omega
  · simp only [if_true, b01]
    omega
theorem key_tied {i n l i' n' l' : Int} {sz sz' : Nat} (h : 0 ≤ keyV i n l sz) (h' : 0 ≤ keyV i' n' l' sz') : keyV i n l sz = keyV i' n' l' sz' ↔ i = i' ∧ bits .and .i64 n 11 = bits .and .i64 n' 11 := by
  obtain ⟨ho, hx, e⟩ := keyV_pos h
  obtain ⟨ho', hx', e'⟩ := keyV_pos h'
  have g := good ho
  have g' := good ho'
  rw [e, e', and11 g.n0 g.n1, and11 g'.n0 g'.n1]
  refine keyN_inj g.i0 g'.i0 (fun he => ?_) (fun he => ?_) g.top g'.top
  · have := g.i1; rw [topN_v he hx] at this; simpa using this
  · have := g'.i1; rw [topN_v he hx'] at this; simpa using this

end Go.Proofs.YtimlaopmhcipmaaDoor
