/- Frame: contracts of Key, Less. -/
import Derived.Test.YtimlaopmhcipmaaDoorFrmJ
namespace Go.Proofs.YtimlaopmhcipmaaDoor
open Go.RowKit
set_option linter.unusedVariables false

/-- -1, or a frame's key -/
def keyV (i n l : Int) (sz : Nat) : Int := if okF i n l sz && !fX n then keyN i n else -1

theorem wraps_i64 (n : Int) (h₀ : 0 ≤ n) (h₁ : n < 2 ^ 63) : IntKind.i64.wrap n = n := by rw [IntKind.wrap_i64]; omega
theorem or_join (x y : Int) (i : Nat) (hx₀ : 0 ≤ x) (hx : x % 2 ^ i = 0) (hx₁ : x < 9223372036854775808) (hy₀ : 0 ≤ y) (hy : y < 2 ^ i) (hy₁ : y < 9223372036854775808) : bits .or .i64 x y = x + y :=
  bits_join .i64 63 (by decide) wraps_i64 i x y hx₀ hx (by omega) hy₀ hy (by omega)
theorem narrow_or (i R D : Int) (i0 : 0 ≤ i) (i1 : i ≤ 2047) (r0 : 0 ≤ R) (r1 : R ≤ 1) (d0 : 0 ≤ D) (d1 : D ≤ 1) :
    bits .or .i64 (bits .or .i64 (i * 4194304) (R * 2097152)) D = i * 4194304 + R * 2097152 + D := by
  rw [or_join (i * 4194304) (R * 2097152) 22 (by omega) (by omega) (by omega) (by omega) (by omega) (by omega)]
  exact or_join _ D 1 (by omega) (by omega) (by omega) d0 (by omega) (by omega)
theorem wide_or (a b R D : Int) (a0 : 0 ≤ a) (a1 : a ≤ 2047) (b0 : 0 ≤ b) (b1 : b < 262144) (r0 : 0 ≤ R) (r1 : R ≤ 1) (d0 : 0 ≤ D) (d1 : D ≤ 1) :
    bits .or .i64 (bits .or .i64 (bits .or .i64 (bits .or .i64 (a * 4194304) 3145728) (b * 4)) (R * 2)) D = a * 4194304 + 3145728 + b * 4 + R * 2 + D := by
  rw [or_join (a * 4194304) 3145728 22 (by omega) (by omega) (by omega) (by omega) (by omega) (by omega)]
  rw [or_join (a * 4194304 + 3145728) (b * 4) 20 (by omega) (by omega) (by omega) (by omega) (by omega) (by omega)]
  rw [or_join (a * 4194304 + 3145728 + b * 4) (R * 2) 2 (by omega) (by omega) (by omega) (by omega) (by omega) (by omega)]
  exact or_join _ D 1 (by omega) (by omega) (by omega) d0 (by omega) (by omega)
theorem and18 (x : Int) (h0 : 0 ≤ x) (h1 : x ≤ 536870911) : bits .and .i64 x 262143 = x % 262144 :=
  bits_mask .i64 63 (by decide) wraps_i64 18 (by decide) x h0 (by omega)
theorem b01_bd (q : Bool) : 0 ≤ b01 q ∧ b01 q ≤ 1 := by cases q <;> decide
/-! ### Less -/
def lessB (a b : Int) : Bool := decide (0 ≤ a) && decide (a < b)
end Go.Proofs.YtimlaopmhcipmaaDoor
