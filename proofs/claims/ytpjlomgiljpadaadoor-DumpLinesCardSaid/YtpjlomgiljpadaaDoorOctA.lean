/- Octet: contracts of Digit (both), Sign: what each returns, the world as it was. -/
import Derived.Test.YtpjlomgiljpadaaDoorRows
import Derived.WalkKit
import Derived.WalkSpells
import Derived.WalkLawsBesides
import Derived.BigQuiet
import Derived.Deep.QuietTactic
import Derived.Lib.Hide
namespace Go.Proofs.YtpjlomgiljpadaaDoor
open Go.RowKit

/-- what a digit is worth; 16: it is none -/
def dig (r : Int) : Int := if 48 ≤ r ∧ r ≤ 57 then r - 48 else if 65 ≤ r ∧ r ≤ 70 then r - 55 else if 97 ≤ r ∧ r ≤ 102 then r - 87 else 16
def digN (r : Int) : Int := if dig r < 16 then dig r else 0
def digB (r : Int) : Bool := decide (dig r < 16)

theorem dig_bd (r : Int) : 0 ≤ dig r ∧ dig r ≤ 16 := by unfold dig; (repeat' split) <;> omega
theorem dig_0 {r : Int} (h : 48 ≤ r ∧ r ≤ 57) : dig r = r - 48 := by unfold dig; rw [if_pos h]
theorem dig_A {r : Int} (h : 65 ≤ r ∧ r ≤ 70) : dig r = r - 55 := by unfold dig; rw [if_neg (by omega), if_pos h]
theorem dig_a {r : Int} (h : 97 ≤ r ∧ r ≤ 102) : dig r = r - 87 := by unfold dig; rw [if_neg (by omega), if_neg (by omega), if_pos h]
theorem dig_no {r : Int} (h : r < 48 ∨ (57 < r ∧ r < 65) ∨ (70 < r ∧ r < 97) ∨ 102 < r) : dig r = 16 := by
  unfold dig; rw [if_neg (by omega), if_neg (by omega), if_neg (by omega)]

theorem ret_two {k : IntKind} {a b : Int} {c d : Bool} (h : a = b) (h' : c = d) : Ending.returned (.tuple #[.int k a, .bool c]) = .returned (.tuple #[.int k b, .bool d]) := by rw [h, h']
theorem ret_int {k : IntKind} {a b : Int} (h : a = b) : Ending.returned (.int k a) = .returned (.int k b) := by rw [h]

set_option maxHeartbeats 1000000 in
theorem digit_yes (r : Int) (w : World) (h : (48 ≤ r ∧ r ≤ 57) ∨ (65 ≤ r ∧ r ≤ 70) ∨ (97 ≤ r ∧ r ≤ 102)) :
    Calls Tryd.prog 50 #[.int .i32 r] w fun e w' => e = .returned (.tuple #[.int .i64 (dig r), .bool true]) ∧ w = w' := by
  rcases h with ⟨h1, h2⟩ | ⟨h1, h2⟩ | ⟨h1, h2⟩
  · go_enter Tryd.func50, Tryd.ntmps50
    go_wp2
    go_ret2
    exact ⟨ret_two (by rw [dig_0 ⟨h1, h2⟩]) rfl, rfl⟩
  · go_enter Tryd.func50, Tryd.ntmps50
    go_wp2
    go_ret2
    exact ⟨ret_two (by rw [dig_A ⟨h1, h2⟩]; omega) rfl, rfl⟩
  · go_enter Tryd.func50, Tryd.ntmps50
    go_wp2
    go_ret2
    exact ⟨ret_two (by rw [dig_a ⟨h1, h2⟩]; omega) rfl, rfl⟩

set_option maxHeartbeats 1000000 in
theorem digit_no (r : Int) (w : World) (h : r < 48 ∨ (57 < r ∧ r < 65) ∨ (70 < r ∧ r < 97) ∨ 102 < r) :
    Calls Tryd.prog 50 #[.int .i32 r] w fun e w' => e = .returned (.tuple #[.int .i64 0, .bool false]) ∧ w = w' := by
  rcases h with h | ⟨h, h'⟩ | ⟨h, h'⟩ | h
  all_goals
    go_enter Tryd.func50, Tryd.ntmps50
    go_wp2
    go_ret2
    exact ⟨rfl, rfl⟩

theorem digit_any (r : Int) (w : World) :
    Calls Tryd.prog 50 #[.int .i32 r] w fun e w' => e = .returned (.tuple #[.int .i64 (digN r), .bool (digB r)]) ∧ w = w' := by
  by_cases h : (48 ≤ r ∧ r ≤ 57) ∨ (65 ≤ r ∧ r ≤ 70) ∨ (97 ≤ r ∧ r ≤ 102)
  · refine (digit_yes r w h).mono fun e w' ⟨he, hw⟩ => ⟨?_, hw⟩
    have hd : dig r < 16 := by rcases h with h | h | h; · rw [dig_0 h]; omega
                               · rw [dig_A h]; omega
                               · rw [dig_a h]; omega
    rw [he]; unfold digN digB; rw [if_pos hd, decide_eq_true hd]
  · have h' : r < 48 ∨ (57 < r ∧ r < 65) ∨ (70 < r ∧ r < 97) ∨ 102 < r := by omega
    refine (digit_no r w h').mono fun e w' ⟨he, hw⟩ => ⟨?_, hw⟩
    have hd : ¬ dig r < 16 := by rw [dig_no h']; omega
    rw [he]; unfold digN digB; rw [if_neg hd, decide_eq_false hd]

set_option maxHeartbeats 1000000 in
theorem rdigit_any (c : Int) (w : World) (h0 : 0 ≤ c) (h1 : c ≤ 255) :
    Calls Tryd.prog 33 #[.int .u8 c] w fun e w' => e = .returned (.int .i64 (dig c)) ∧ w = w' := by
  by_cases a : 48 ≤ c ∧ c ≤ 57
  · obtain ⟨a1, a2⟩ := a
    go_enter Tryd.func33, Tryd.ntmps33
    go_wp2
    go_ret
    exact ⟨ret_int (by rw [dig_0 ⟨a1, a2⟩]), rfl⟩
  by_cases b : 65 ≤ c ∧ c ≤ 70
  · obtain ⟨a1, a2⟩ := b
    clear a
    go_enter Tryd.func33, Tryd.ntmps33
    go_wp2
    go_ret
    exact ⟨ret_int (by rw [dig_A ⟨a1, a2⟩]), rfl⟩
  by_cases d : 97 ≤ c ∧ c ≤ 102
  · obtain ⟨a1, a2⟩ := d
    clear a b
    go_enter Tryd.func33, Tryd.ntmps33
    go_wp2
    go_ret
    exact ⟨ret_int (by rw [dig_a ⟨a1, a2⟩]), rfl⟩
  · have h' : c < 48 ∨ (57 < c ∧ c < 65) ∨ (70 < c ∧ c < 97) ∨ 102 < c := by omega
    have hd := dig_no h'
    have HD := Lib.hid hd
    clear a b d hd
    rcases h' with h | ⟨h, h'⟩ | ⟨h, h'⟩ | h
    all_goals
      go_enter Tryd.func33, Tryd.ntmps33
      go_wp2
      go_ret
      exact ⟨ret_int HD.out.symm, rfl⟩

end Go.Proofs.YtpjlomgiljpadaaDoor
