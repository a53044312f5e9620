/- Octet: the walks of OctetDigits, OctetWords. -/
import Derived.Test.YtjdlkcpcmobbjaaOctE
import Derived.OpenShut
namespace Go.Proofs.Ytjdlkcpcmobbjaa
open Go.RowKit
set_option linter.unusedVariables false


theorem rdigit_no (c : Int) (w : World) (h0 : 0 ≤ c) (h1 : c ≤ 255) (h : c < 48 ∨ (57 < c ∧ c < 65) ∨ (70 < c ∧ c < 97) ∨ 102 < c) :
    Calls Try.prog 16 #[.int .u8 c] w fun e w' => e = .returned (.int .i64 16) ∧ w = w' := by
  have := rdigit_any c w h0 h1
  rw [dig_no h] at this
  exact this

set_option maxHeartbeats 1000000 in
theorem octetDigits_walk (r : Int) (_hr : (Lit.int .i32 r).wf = true) (w : World) :
    Calls Try.prog 4 #[.int .i32 r] w fun e w' => e = .returned (.bool true) ∧ Below w.heap.size w w' := by
  clear _hr
  by_cases ha : r < 0
  · go_enter Try.func4, Try.ntmps4
    go_wp2_with fail
    refine (digit_no r _ (by omega)).mono ?_
    rintro e w1 ⟨rfl, rfl⟩
    go_wp2_with fail
    refine (alive_any _).mono ?_
    rintro e w2 ⟨rfl, hb⟩
    go_wp2
    go_ret
    exact ⟨rfl, hb⟩
  by_cases hb : 127 < r
  · go_enter Try.func4, Try.ntmps4
    go_wp2_with fail
    refine (digit_no r _ (by omega)).mono ?_
    rintro e w1 ⟨rfl, rfl⟩
    go_wp2_with fail
    refine (alive_any _).mono ?_
    rintro e w2 ⟨rfl, hb⟩
    go_wp2
    go_ret
    exact ⟨rfl, hb⟩
  by_cases h : (48 ≤ r ∧ r ≤ 57) ∨ (65 ≤ r ∧ r ≤ 70) ∨ (97 ≤ r ∧ r ≤ 102)
  · have hd : dig r < 16 := by
      rcases h with h | h | h
      · rw [dig_0 h]; omega
      · rw [dig_A h]; omega
      · rw [dig_a h]; omega
    have H := Lib.hid h
    clear h
    go_enter Try.func4, Try.ntmps4
    go_wp2_with fail
    refine (digit_yes r _ H.out).mono ?_
    rintro e w1 ⟨rfl, rfl⟩
    go_wp2_with fail
    refine (rdigit_any r _ (by omega) (by omega)).mono ?_
    rintro e w1 ⟨rfl, rfl⟩
    go_wp2_with fail
    refine (alive_any _).mono ?_
    rintro e w2 ⟨rfl, hb⟩
    go_wp2
    go_ret
    exact ⟨rfl, hb⟩
  · have h' : r < 48 ∨ (57 < r ∧ r < 65) ∨ (70 < r ∧ r < 97) ∨ 102 < r := by omega
    have H := Lib.hid h'
    clear h h'
    go_enter Try.func4, Try.ntmps4
    go_wp2_with fail
    refine (digit_no r _ H.out).mono ?_
    rintro e w1 ⟨rfl, rfl⟩
    go_wp2_with fail
    refine (rdigit_no r _ (by omega) (by omega) H.out).mono ?_
    rintro e w1 ⟨rfl, rfl⟩
    go_wp2_with fail
    refine (alive_any _).mono ?_
    rintro e w2 ⟨rfl, hb⟩
    go_wp2
    go_ret
    exact ⟨rfl, hb⟩

theorem bt_ofNums (xs : List Int) (k : Nat) (hx : ∀ x ∈ xs, 0 ≤ x ∧ x < 256) (hk : k < xs.length) : bt (strOfNums xs) k = xs.getD k 0 := by
  have hm := hx xs[k] (List.getElem_mem hk)
  unfold bt
  rw [strOfNums_data, List.getElem?_map, List.getElem?_eq_getElem hk]
  simp only [Option.map_some, Option.getD_some, List.getD_eq_getElem?_getD, List.getElem?_eq_getElem hk]
  have : (xs[k].toNat) % 256 = xs[k].toNat := by omega
  simp only [UInt8.toNat_ofNat']
  omega

theorem num4_put (n : Int) (h0 : 0 ≤ n) (h1 : n ≤ 4294967295) : num4 (strOfNums [n % 256, n / 256 % 256, n / 65536 % 256, n / 16777216]) 0 = n := by
  have hx : ∀ x ∈ [n % 256, n / 256 % 256, n / 65536 % 256, n / 16777216], 0 ≤ x ∧ x < 256 := by
    intro x hx
    simp only [List.mem_cons, List.not_mem_nil, or_false] at hx
    rcases hx with rfl | rfl | rfl | rfl <;> omega
  unfold num4
  rw [bt_ofNums _ 0 hx (by simp), bt_ofNums _ 1 hx (by simp), bt_ofNums _ 2 hx (by simp), bt_ofNums _ 3 hx (by simp)]
  simp
  omega

theorem get_put (n : Int) (h0 : 0 ≤ n) (h1 : n ≤ 4294967295) (w : World) :
    Calls Try.prog 11 #[.string (strOfNums [n % 256, n / 256 % 256, n / 65536 % 256, n / 16777216]), .int .i64 0] w fun e w' => e = .returned (.tuple #[.int .u32 n, .bool true]) ∧ w = w' := by
  have := get_yes (strOfNums [n % 256, n / 256 % 256, n / 65536 % 256, n / 16777216]) 0 w (by rw [strOfNums_size]; simp [maxLen]) (by rw [strOfNums_size]; simp)
  rw [num4_put n h0 h1] at this
  exact this

set_option maxHeartbeats 1000000 in
theorem octetWords_walk (n : Int) (s : ByteArray) (at_ : Int) (w0 : (Lit.int .u32 n).wf = true) (w1 : s.size ≤ maxLen) (w2 : (Lit.int .i64 at_).wf = true) (w : World) :
    Calls Try.prog 3 #[.int .u32 n, .string s, .int .i64 at_] w fun e w' => e = .returned (.bool true) ∧ Below w.heap.size w w' := by
  obtain ⟨h0, h1⟩ : 0 ≤ n ∧ n ≤ 4294967295 := by have := Go.bounds_u32 w0; omega
  clear w0 w2
  by_cases h : 0 ≤ at_ ∧ at_ + 4 ≤ s.size
  · obtain ⟨k, rfl⟩ := Int.eq_ofNat_of_zero_le h.1
    have h3 : k + 3 < s.size := by omega
    clear h
    go_enter Try.func3, Try.ntmps3
    go_wp2_with fail
    refine (put_any n _ h0 h1).mono ?_
    rintro e w3 ⟨rfl, hb3⟩
    go_wp2_with fail
    refine (get_yes s k _ w1 h3).mono ?_
    rintro e w4 ⟨rfl, rfl⟩
    go_wp2_with fail
    refine (rget_yes s k _ w1 h3).mono ?_
    rintro e w4 ⟨rfl, rfl⟩
    go_wp2_with fail
    refine (get_put n h0 h1 _).mono ?_
    rintro e w4 ⟨rfl, rfl⟩
    go_wp2_with fail
    refine (rput_any n _ h0 h1).mono ?_
    rintro e w4 ⟨rfl, hb4⟩
    go_wp2_with fail
    refine (alive_any _).mono ?_
    rintro e w5 ⟨rfl, hb5⟩
    go_wp2
    go_ret
    exact ⟨rfl, hb3.trans ((hb4.mono hb3.size).trans (hb5.mono (Nat.le_trans hb3.size hb4.size)))⟩
  · have h3 : at_ < 0 ∨ (s.size : Int) - 4 < at_ := by omega
    have H := Lib.hid h3
    clear h h3
    go_enter Try.func3, Try.ntmps3
    go_wp2_with fail
    refine (put_any n _ h0 h1).mono ?_
    rintro e w3 ⟨rfl, hb3⟩
    go_wp2_with fail
    refine (get_no s at_ _ w1 H.out).mono ?_
    rintro e w4 ⟨rfl, rfl⟩
    go_wp2_with fail
    refine (rget_no s at_ _ w1 H.out).mono ?_
    rintro e w4 ⟨rfl, rfl⟩
    go_wp2_with fail
    refine (get_put n h0 h1 _).mono ?_
    rintro e w4 ⟨rfl, rfl⟩
    go_wp2_with fail
    refine (rput_any n _ h0 h1).mono ?_
    rintro e w4 ⟨rfl, hb4⟩
    go_wp2_with fail
    refine (alive_any _).mono ?_
    rintro e w5 ⟨rfl, hb5⟩
    go_wp2
    go_ret
    exact ⟨rfl, hb3.trans ((hb4.mono hb3.size).trans (hb5.mono (Nat.le_trans hb3.size hb4.size)))⟩

end Go.Proofs.Ytjdlkcpcmobbjaa
