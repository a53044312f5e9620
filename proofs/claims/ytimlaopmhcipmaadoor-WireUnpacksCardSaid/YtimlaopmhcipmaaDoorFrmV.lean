/- Frame: the walk of FrameWins. -/
import Derived.Test.YtimlaopmhcipmaaDoorFrmU
namespace Go.Proofs.YtimlaopmhcipmaaDoor
open Go.RowKit
set_option linter.unusedVariables false

theorem and_mask {x : Int} (m : Nat) (hm : m < 9223372036854775808) : 0 ≤ bits .and .i64 x (m : Int) ∧ bits .and .i64 x (m : Int) ≤ m := by
  have hle : (BitVec.ofInt 64 x).toNat &&& m ≤ m := Nat.and_le_right
  have e2 : (BitVec.ofInt 64 (m : Int)).toNat = m := by rw [BitVec.ofInt_natCast, BitVec.toNat_ofNat]; exact Nat.mod_eq_of_lt (by omega)
  have hv : bits .and .i64 x (m : Int) = (((BitVec.ofInt 64 x).toNat &&& m : Nat) : Int) := by
    show IntKind.i64.wrap (((BitVec.ofInt 64 x) &&& (BitVec.ofInt 64 (m : Int))).toNat : Int) = _
    rw [BitVec.toNat_and, e2, IntKind.wrap_i64]
    omega
  rw [hv]
  omega
theorem kv_nar {i n : Int} (hn : n = 0 ∨ n = 2) (h0 : 0 ≤ i) (h1 : i ≤ 2047) : keyV i n 0 (ByteArray.mk #[]).size = i * 4194304 + b01 (fR n) * 2097152 := by
  unfold keyV okF idOk keyN
  rcases hn with rfl | rfl
  · rw [show okFl 0 = true from by decide, show topN 0 = 2047 from by decide, show lenOk 0 0 = true from by decide, show datOk 0 0 (ByteArray.mk #[]).size = true from by decide, show fX 0 = false from by decide, show fE 0 = false from by decide, show fD 0 = false from by decide, decide_eq_true h0, decide_eq_true h1]
    simp [b01]
  · rw [show okFl 2 = true from by decide, show topN 2 = 2047 from by decide, show lenOk 2 0 = true from by decide, show datOk 2 0 (ByteArray.mk #[]).size = true from by decide, show fX 2 = false from by decide, show fE 2 = false from by decide, show fD 2 = false from by decide, decide_eq_true h0, decide_eq_true h1]
    simp [b01]
theorem kv_wid {i n : Int} (hn : n = 1 ∨ n = 3) (h0 : 0 ≤ i) (h1 : i ≤ 536870911) : keyV i n 0 (ByteArray.mk #[]).size = i / 262144 * 4194304 + 3145728 + i % 262144 * 4 + b01 (fR n) * 2 := by
  unfold keyV okF idOk keyN
  rcases hn with rfl | rfl
  · rw [show okFl 1 = true from by decide, show topN 1 = 536870911 from by decide, show lenOk 1 0 = true from by decide, show datOk 1 0 (ByteArray.mk #[]).size = true from by decide, show fX 1 = false from by decide, show fE 1 = true from by decide, show fD 1 = false from by decide, decide_eq_true h0, decide_eq_true h1]
    simp [b01]
  · rw [show okFl 3 = true from by decide, show topN 3 = 536870911 from by decide, show lenOk 3 0 = true from by decide, show datOk 3 0 (ByteArray.mk #[]).size = true from by decide, show fX 3 = false from by decide, show fE 3 = true from by decide, show fD 3 = false from by decide, decide_eq_true h0, decide_eq_true h1]
    simp [b01]

theorem lessB_t {a b : Int} (h0 : 0 ≤ a) (h1 : a < b) : lessB a b = true := by unfold lessB; simp; omega
theorem lessB_f {a b : Int} (h1 : ¬ a < b) : lessB a b = false := by unfold lessB; simp; omega
end Go.Proofs.YtimlaopmhcipmaaDoor
