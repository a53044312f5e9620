/- Octet: contracts of Digit (both), Sign: what each returns, the world as it was. -/
import Derived.Test.YtfjebggekghgkaaRows
import Derived.WalkKit
import Derived.WalkSpells
import Derived.WalkLawsBesides
import Derived.BigQuiet
import Derived.Deep.QuietTactic
import Derived.Lib.Hide
namespace Go.Proofs.Ytfjebggekghgkaa
open Go.RowKit

/-- what a digit is worth; 16: it is none -/
def dig (r : Int) : Int := if 48 ≤ r ∧ r ≤ 57 then r - 48 else if 65 ≤ r ∧ r ≤ 70 then r - 55 else if 97 ≤ r ∧ r ≤ 102 then r - 87 else 16
def digN (r : Int) : Int := if dig r < 16 then dig r else 0
def digB (r : Int) : Bool := decide (dig r < 16)

theorem dig_bd (r : Int) : 0 ≤ dig r ∧ dig r ≤ 16 := by unfold dig; (repeat' split) <;> omega
theorem dig_0 {r : Int} (h : 48 ≤ r ∧ r ≤ 57) : dig r = r - 48 := by unfold dig; rw [if_pos h]
theorem dig_A {r : Int} (h : 65 ≤ r ∧ r ≤ 70) : dig r = r - 55 := by unfold dig; rw [if_neg (by omega), if_pos h]
theorem dig_a {r : Int} (h : 97 ≤ r ∧ r ≤ 102) : dig r = r - 87 := by unfold dig; rw [if_neg (by omega), if_neg (by omega), if_pos h]
theorem dig_no {r : Int} (h : r < 48 ∨ (57 < r ∧ r < 65) ∨ (70 < r ∧ r < 97) ∨ 102 < r) : dig r = 16 := by
  unfold dig; rw [if_neg (by omega), if_neg (by omega), if_neg (by omega)]

theorem ret_two {k : IntKind} {a b : Int} {c d : Bool} (h : a = b) (h' : c = d) : Ending.returned (.tuple #[.int k a, .bool c]) = .returned (.tuple #[.int k b, .bool d]) := by rw [h, h']
theorem ret_int {k : IntKind} {a b : Int} (h : a = b) : Ending.returned (.int k a) = .returned (.int k b) := by rw [h]

end Go.Proofs.Ytfjebggekghgkaa
