/- Frame: the contract of the document's Key; the walk of FrameKeys. -/
import Derived.Test.YtimlaopmhcipmaaDoorFrmR
namespace Go.Proofs.YtimlaopmhcipmaaDoor
open Go.RowKit
set_option linter.unusedVariables false

theorem valL_whole {n : Int} (h0 : 0 ≤ n) (m : Nat) (h1 : n < 2 ^ m) : valL (bitsL n m m) = n := by
  rw [valL_bits n h0 m m (Nat.le_refl _), Nat.sub_self, hv_zero]
  exact Int.emod_eq_of_lt h0 h1
theorem valL_two (a b : Bool) : valL [a, b] = 2 * b01 a + b01 b := by cases a <;> cases b <;> decide
theorem valL_one (a : Bool) : valL [a] = b01 a := by cases a <;> decide
theorem valL_zeros : ∀ k : Nat, valL (List.replicate k false) = 0
  | 0 => rfl
  | k + 1 => by rw [List.replicate_succ', valL_snoc, valL_zeros k]; rfl
theorem valL_wide {i : Int} (i0 : 0 ≤ i) (i1 : i ≤ 536870911) (r dd : Bool) : valL (wideL i r dd) = i / 262144 * 4194304 + 3145728 + i % 262144 * 4 + b01 r * 2 + b01 dd := by
  unfold wideL
  rw [valL_app, valL_app, valL_app, valL_app, valL_app, valL_whole (by omega) 11 (by omega), valL_whole (by omega) 18 (by omega), valL_two, valL_one, valL_one]
  simp [valL, b01, bitsL_len]
  omega
theorem valL_narrow {i : Int} (i0 : 0 ≤ i) (i1 : i ≤ 2047) (r dd : Bool) : valL (narrowL i r dd 19 ++ [dd]) = i * 4194304 + b01 r * 2097152 + b01 dd := by
  unfold narrowL
  rw [valL_app, valL_app, valL_app, valL_app, valL_zeros, valL_whole i0 11 (by omega), valL_two, valL_one, List.length_replicate]
  simp [valL, b01]
  omega
theorem wideL_len (i : Int) (r dd : Bool) : (wideL i r dd).length = 33 := by simp [wideL, bitsL_len]
theorem narrowL_len2 (i : Int) (r dd : Bool) : (narrowL i r dd 19 ++ [dd]).length = 33 := by simp [narrowL_len]

theorem rowAt.cell {w : World} {g : Nat} {l : List Bool} (h : rowAt w g l) (k : Nat) (hk : k < l.length) : w.cell? ⟨g, k, none⟩ = some (.bool l[k]) := by
  have := h k (.bool l[k]) (by simp [boolRow, hk])
  have e : (⟨g, 0, none⟩ : Addr).add k = ⟨g, k, none⟩ := by unfold Addr.add; split <;> simp_all
  rwa [e] at this
theorem valL_take {l : List Bool} {k : Nat} (hk : k < l.length) : valL (l.take (k + 1)) = 2 * valL (l.take k) + b01 l[k] := by
  rw [List.take_succ_eq_append_getElem hk, valL_snoc]
theorem valL_take_bd {l : List Bool} {k : Nat} (h33 : l.length = 33) : 0 ≤ valL (l.take k) ∧ valL (l.take k) ≤ 8589934592 := by
  have h := valL_bd (l.take k)
  have h2 : (2 : Int) ^ (l.take k).length ≤ 2 ^ 33 := by
    have h3 : 2 ^ (l.take k).length ≤ 2 ^ 33 := Nat.pow_le_pow_right (by decide) (by rw [List.length_take]; omega)
    exact_mod_cast h3
  omega

def keyRel (L : List Bool) (a i : Value) : Prop := ∃ k : Nat, k ≤ 33 ∧ i = .int .i64 k ∧ a = .int .i64 (valL (L.take k))

end Go.Proofs.YtimlaopmhcipmaaDoor
