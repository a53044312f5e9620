/- Frame: the contracts of the document's KeyBits of narrow frames, Key. -/
import Derived.Test.YtimlaopmhcipmaaDoorFrmQ
namespace Go.Proofs.YtimlaopmhcipmaaDoor
open Go.RowKit
set_option linter.unusedVariables false

theorem narrowL_len (i : Int) (r dd : Bool) (k : Nat) : (narrowL i r dd k).length = 13 + k := by simp [narrowL, bitsL_len]; omega
theorem narrowL_succ (i : Int) (r dd : Bool) (k : Nat) : narrowL i r dd (k + 1) = narrowL i r dd k ++ [false] := by
  unfold narrowL; rw [List.replicate_succ']; simp
def narRel (W : World) (i : Int) (r dd : Bool) (v j : Value) (wr : World) : Prop := ∃ k : Nat, k ≤ 19 ∧ j = .int .i64 k ∧ gath W.heap.size W v (narrowL i r dd k) wr

/-! ### the number of bits -/
def valL (l : List Bool) : Int := l.foldl (fun a b => 2 * a + b01 b) 0
theorem valL_snoc (l : List Bool) (b : Bool) : valL (l ++ [b]) = 2 * valL l + b01 b := by unfold valL; rw [List.foldl_append]; rfl
theorem snoc_ind {P : List Bool → Prop} (h0 : P []) (h1 : ∀ l b, P l → P (l ++ [b])) (l : List Bool) : P l := by
  rw [← List.reverse_reverse l]
  induction l.reverse with
  | nil => exact h0
  | cons a t ih => rw [List.reverse_cons]; exact h1 _ _ ih
theorem valL_bd (l : List Bool) : 0 ≤ valL l ∧ valL l < 2 ^ l.length := by
  refine snoc_ind (P := fun l => 0 ≤ valL l ∧ valL l < 2 ^ l.length) (by simp [valL]) (fun l b ih => ?_) l
  · show 0 ≤ valL (l ++ [b]) ∧ valL (l ++ [b]) < 2 ^ (l ++ [b]).length
    rw [valL_snoc, List.length_append]
    have := b01_bd b
    have e : (2 : Int) ^ (l.length + [b].length) = 2 * 2 ^ l.length := by rw [List.length_singleton, Int.pow_succ]; omega
    omega
theorem valL_app (a b : List Bool) : valL (a ++ b) = valL a * 2 ^ b.length + valL b := by
  refine snoc_ind (P := fun b => valL (a ++ b) = valL a * 2 ^ b.length + valL b) (by simp [valL]) (fun l x ih => ?_) b
  · show valL (a ++ (l ++ [x])) = valL a * 2 ^ (l ++ [x]).length + valL (l ++ [x])
    rw [← List.append_assoc, valL_snoc, valL_snoc, ih, List.length_append]
    have e : (2 : Int) ^ (l.length + [x].length) = 2 * 2 ^ l.length := by rw [List.length_singleton, Int.pow_succ]; omega
    rw [e, Int.mul_add]
    have e2 : 2 * (valL a * 2 ^ l.length) = valL a * (2 * 2 ^ l.length) := by rw [← Int.mul_assoc, ← Int.mul_assoc, Int.mul_comm 2 (valL a)]
    omega
theorem valL_bits (n : Int) (h0 : 0 ≤ n) (m : Nat) : ∀ k, k ≤ m → valL (bitsL n m k) = hv n (m - k) % 2 ^ k
  | 0, _ => by simp [bitsL, valL]
  | k + 1, hk => by
    have ih := valL_bits n h0 m k (by omega)
    rw [bitsL_succ, valL_snoc, ih]
    have e1 : m - k = (m - (k + 1)) + 1 := by omega
    rw [e1, hv_succ]
    unfold fbitB
    rw [show m - 1 - k = m - (k + 1) by omega]
    generalize hv n (m - (k + 1)) = x
    have e : (2 : Int) ^ (k + 1) = 2 ^ k * 2 := Int.pow_succ _ _
    have hp : (0 : Int) < 2 ^ k := Int.pow_pos (by decide)
    rw [e]
    have hx : x % 2 = 0 ∨ x % 2 = 1 := by omega
    have hdm : x = 2 * (x / 2) + x % 2 := by omega
    have h3 : x % (2 ^ k * 2) = 2 * (x / 2 % 2 ^ k) + x % 2 := by
      have hq := Int.mul_ediv_add_emod (x / 2) (2 ^ k)
      have hr0 := Int.emod_nonneg (x / 2) (Int.ne_of_gt hp)
      have hr1 := Int.emod_lt_of_pos (x / 2) hp
      have h4 : x = (2 * (x / 2 % 2 ^ k) + x % 2) + (2 ^ k * 2) * (x / 2 / 2 ^ k) := by
        have h5 : (2 ^ k * 2) * (x / 2 / 2 ^ k) = 2 * (2 ^ k * (x / 2 / 2 ^ k)) := by rw [Int.mul_comm (2 ^ k) 2, Int.mul_assoc]
        omega
      have h6 : x % (2 ^ k * 2) = ((2 * (x / 2 % 2 ^ k) + x % 2) + (2 ^ k * 2) * (x / 2 / 2 ^ k)) % (2 ^ k * 2) := congrArg (· % (2 ^ k * 2)) h4
      rw [h6, Int.add_mul_emod_self_left]
      exact Int.emod_eq_of_lt (by omega) (by omega)
    rw [h3]
    rcases hx with h | h <;> simp [h, b01]

end Go.Proofs.YtimlaopmhcipmaaDoor
