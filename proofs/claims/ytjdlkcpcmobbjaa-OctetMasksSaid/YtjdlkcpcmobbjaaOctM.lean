/- Octet: contracts of Bit, masked, its closure, Mask, Differ, and of the document's Ones, Mask, Differ. -/
import Derived.Test.YtjdlkcpcmobbjaaOctF
import Derived.WalkSmall
namespace Go.Proofs.Ytjdlkcpcmobbjaa
open Go.RowKit
set_option linter.unusedVariables false

theorem below_t2 {w w1 w2 : World} (h : Below w.heap.size w w1) (h' : Below w1.heap.size w1 w2) : Below w.heap.size w w2 := h.trans (h'.mono h.size)

/-- bit b of byte k -/
def bitB (s : ByteArray) (k b : Nat) : Bool := (bt s k).toNat.testBit b
def sh (x : Int) (b : Nat) : Int := x / 2 ^ b
theorem sh_succ (x : Int) (b : Nat) : sh x b / 2 = sh x (b + 1) := by
  unfold sh
  rw [Int.pow_succ, Int.ediv_ediv_of_nonneg (by exact Int.le_of_lt (Int.pow_pos (by decide)))]
theorem sh_bd (x : Int) (h : 0 ≤ x ∧ x < 256) : ∀ b, 0 ≤ sh x b ∧ sh x b < 256
  | 0 => by simpa [sh] using h
  | b + 1 => by have := sh_bd x h b; rw [← sh_succ]; omega
theorem sh_bit (s : ByteArray) (k b : Nat) : (sh (bt s k) b % 2 == 1) = bitB s k b := by
  obtain ⟨n, hn⟩ := Int.eq_ofNat_of_zero_le (bt_lt s k).1
  unfold bitB sh
  rw [hn, Int.toNat_natCast, Nat.testBit_eq_decide_div_mod_eq, Bool.eq_iff_iff]
  simp only [beq_iff_eq, decide_eq_true_eq]
  have e : ((n : Int) / 2 ^ b) = ((n / 2 ^ b : Nat) : Int) := by simp
  rw [e]
  omega

theorem ret_bool {a b : Bool} (h : a = b) : Ending.returned (.bool a) = .returned (.bool b) := by rw [h]

theorem bt_past (s : ByteArray) (k : Nat) (h : s.size ≤ k) : bt s k = 0 := by
  unfold bt
  rw [List.getElem?_eq_none (by simpa using h)]
  rfl

set_option maxHeartbeats 1000000 in
theorem bit_any (s : ByteArray) (k b : Nat) (w : World) (hs : s.size ≤ 100000000) (hk : k ≤ 100000000) (hb : b ≤ 8) :
    Calls Try.prog 29 #[.string s, .int .i64 k, .int .i64 b] w fun e w' => e = .returned (.bool (bitB s k b)) ∧ w = w' := by
  by_cases h : k < s.size
  · have hbe := bt_eq s k h
    have hbl := bt_lt s k
    have HB := Lib.hid (sh_bit s k b)
    go_enter Try.func29, Try.ntmps29
    go_wp2
    go_loop [7, 8] (fun n i => ∃ j : Nat, j ≤ b ∧ i = .int .i64 j ∧ n = .int .i64 (sh (bt s k) j)) (fun _ i => b - (intOf i).toNat)
    case atStart => exact ⟨0, Nat.zero_le _, rfl, by simp [sh]⟩
    case round =>
      obtain ⟨j, hj, rfl, rfl⟩ := hrel
      have hsb := sh_bd (bt s k) hbl j
      by_cases hlt : j < b
      · have HS := Lib.hid (sh_succ (bt s k) j)
        go_wp2
        go_round
        case rel => exact ⟨j + 1, by omega, by go_num, by rw [HS.out]⟩
        case measure => simp [intOf]; omega
      · obtain rfl : j = b := by omega
        go_wp2
        go_ret
        exact ⟨ret_bool HB.out, rfl⟩
  · have e : bitB s k b = false := by unfold bitB; rw [bt_past s k (by omega)]; simp
    rw [e]
    clear e
    go_enter Try.func29, Try.ntmps29
    go_wp2
    go_ret
    exact ⟨rfl, rfl⟩

/-- how many of the first j bits are set -/
def cnt (s : ByteArray) (k : Nat) : Nat → Int
  | 0 => 0
  | j + 1 => cnt s k j + (if bitB s k j = true then 1 else 0)
theorem cnt_bd (s : ByteArray) (k : Nat) : ∀ j, 0 ≤ cnt s k j ∧ cnt s k j ≤ j
  | 0 => by simp [cnt]
  | j + 1 => by have := cnt_bd s k j; simp only [cnt]; split <;> omega
theorem bitB_div (s : ByteArray) (k b : Nat) : (if bitB s k b = true then (1 : Int) else 0) = bt s k / 2 ^ b % 2 := by
  rw [← sh_bit]
  have : bt s k / 2 ^ b % 2 = 0 ∨ bt s k / 2 ^ b % 2 = 1 := by omega
  unfold sh
  rcases this with h | h <;> simp [h]
theorem cnt_next (s : ByteArray) (k j : Nat) : cnt s k (j + 1) = cnt s k j + bt s k / 2 ^ j % 2 := by rw [← bitB_div]; rfl
theorem cnt_8 (s : ByteArray) (k : Nat) : cnt s k 8 = pc (bt s k) := by
  have h0 : cnt s k 0 = 0 := rfl
  have h1 := cnt_next s k 0
  have h2 := cnt_next s k 1
  have h3 := cnt_next s k 2
  have h4 := cnt_next s k 3
  have h5 := cnt_next s k 4
  have h6 := cnt_next s k 5
  have h7 := cnt_next s k 6
  have h8 := cnt_next s k 7
  simp only [Nat.zero_add, Nat.reduceAdd, Int.reducePow] at h1 h2 h3 h4 h5 h6 h7 h8
  unfold pc
  generalize cnt s k 8 = c8 at *
  generalize cnt s k 7 = c7 at *
  generalize cnt s k 6 = c6 at *
  generalize cnt s k 5 = c5 at *
  generalize cnt s k 4 = c4 at *
  generalize cnt s k 3 = c3 at *
  generalize cnt s k 2 = c2 at *
  generalize cnt s k 1 = c1 at *
  generalize bt s k = x at *
  omega

set_option maxHeartbeats 1000000 in
theorem rones_any (s : ByteArray) (w : World) (hs : s.size ≤ 100000000) :
    Calls Try.prog 26 #[.string s] w fun e w' => e = .returned (.int .i64 (ones s s.size)) ∧ w = w' := by
  go_enter Try.func26, Try.ntmps26
  go_wp2
  go_loop [3, 4] (fun n i => ∃ k : Nat, k ≤ s.size ∧ i = .int .i64 k ∧ n = .int .i64 (ones s k)) (fun _ i => s.size - (intOf i).toNat)
  case atStart => exact ⟨0, Nat.zero_le _, rfl, rfl⟩
  case round =>
    obtain ⟨k, hk, rfl, rfl⟩ := hrel
    have hob := ones_bd s k
    by_cases hlt : k < s.size
    · go_wp2
      go_loop [3, 5] (fun n j => ∃ b : Nat, b ≤ 8 ∧ j = .int .i64 b ∧ n = .int .i64 (ones s k + cnt s k b)) (fun _ j => 8 - (intOf j).toNat)
      case atStart => exact ⟨0, Nat.zero_le _, rfl, by simp [cnt]⟩
      case round =>
        obtain ⟨b, hb, rfl, rfl⟩ := hrel
        have hcb := cnt_bd s k b
        by_cases hlb : b < 8
        · have HC := Lib.hid (show cnt s k (b + 1) = cnt s k b + (if bitB s k b = true then 1 else 0) from rfl)
          cases hbit : bitB s k b
          · have HC2 := Lib.hid (show ones s k + cnt s k (b + 1) = ones s k + cnt s k b by rw [HC.out, hbit]; simp)
            have hba := bit_any s k b
            rw [hbit] at hba
            clear hbit
            go_wp2_with (go_at_call 29; refine (hba _ hs (by omega) (by omega)).mono ?_; rintro e w' ⟨rfl, rfl⟩)
            go_round
            case rel => exact ⟨b + 1, by omega, by go_num, by rw [HC2.out]⟩
            case measure => simp [intOf]; omega
          · have HC2 := Lib.hid (show ones s k + cnt s k (b + 1) = ones s k + cnt s k b + 1 by rw [HC.out, hbit]; simp; omega)
            have hba := bit_any s k b
            rw [hbit] at hba
            clear hbit
            go_wp2_with (go_at_call 29; refine (hba _ hs (by omega) (by omega)).mono ?_; rintro e w' ⟨rfl, rfl⟩)
            go_round
            case rel => exact ⟨b + 1, by omega, by go_num, by rw [HC2.out]⟩
            case measure => simp [intOf]; omega
        · obtain rfl : b = 8 := by omega
          have HO := Lib.hid (show ones s (k + 1) = ones s k + cnt s k 8 by rw [cnt_8]; rfl)
          go_wp2
          go_round
          case rel => exact ⟨k + 1, by omega, by go_num, by rw [HO.out]⟩
          case measure => simp [intOf]; omega
    · obtain rfl : k = s.size := by omega
      go_wp2
      go_ret
      exact ⟨rfl, rfl⟩

end Go.Proofs.Ytjdlkcpcmobbjaa
