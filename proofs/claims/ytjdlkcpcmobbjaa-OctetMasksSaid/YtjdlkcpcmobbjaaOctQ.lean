/- Octet: contracts of the document's Mask and Differ; the walk of OctetMasks. -/
import Derived.Test.YtjdlkcpcmobbjaaOctP
namespace Go.Proofs.Ytjdlkcpcmobbjaa
open Go.RowKit
set_option linter.unusedVariables false

theorem bitB_mb (s m : ByteArray) (k j : Nat) : (mb s m k).toNat.testBit j = (bitB s k j && bitB m k j) := by
  rw [← bt_M]; exact bitB_M s m k j
/-- what the first j bits of the masked byte are worth -/
def acc (s m : ByteArray) (k j : Nat) : Int := (((mb s m k).toNat % 2 ^ j : Nat) : Int)
def two (j : Nat) : Int := ((2 ^ j : Nat) : Int)
theorem acc_zero (s m : ByteArray) (k : Nat) : acc s m k 0 = 0 := by simp [acc, Nat.mod_one]
theorem acc_8 (s m : ByteArray) (k : Nat) : acc s m k 8 = mb s m k := by
  have := mb_lt s m k
  unfold acc
  rw [Nat.mod_eq_of_lt (by omega)]
  omega
theorem acc_next (s m : ByteArray) (k j : Nat) : acc s m k (j + 1) = acc s m k j + two j * (if (bitB s k j && bitB m k j) = true then 1 else 0) := by
  rw [← bitB_mb, Nat.testBit_eq_decide_div_mod_eq]
  unfold acc two
  rw [Nat.mod_pow_succ]
  have : (mb s m k).toNat / 2 ^ j % 2 = 0 ∨ (mb s m k).toNat / 2 ^ j % 2 = 1 := by omega
  rcases this with h | h <;> simp [h]
theorem acc_yes {s m : ByteArray} {k j : Nat} (h : (bitB s k j && bitB m k j) = true) : acc s m k (j + 1) = acc s m k j + two j := by
  rw [acc_next, if_pos h, Int.mul_one]
theorem acc_no {s m : ByteArray} {k j : Nat} (h : (bitB s k j && bitB m k j) = false) : acc s m k (j + 1) = acc s m k j := by
  rw [acc_next, if_neg (by simp [h]), Int.mul_zero, Int.add_zero]
theorem acc_bd (s m : ByteArray) (k j : Nat) : 0 ≤ acc s m k j ∧ acc s m k j < 256 := by
  have := mb_lt s m k
  have h := Nat.mod_le (mb s m k).toNat (2 ^ j)
  unfold acc
  omega
theorem two_succ (j : Nat) : 2 * two j = two (j + 1) := by unfold two; rw [Nat.pow_succ]; omega
theorem two_bd {j : Nat} (h : j ≤ 8) : 1 ≤ two j ∧ two j ≤ 256 := by
  have h1 : 2 ^ j ≤ 2 ^ 8 := Nat.pow_le_pow_right (by decide) h
  have h2 : 0 < 2 ^ j := Nat.two_pow_pos j
  unfold two
  omega

theorem bit_is (x : Bool) (s : ByteArray) (k b : Nat) (w : World) (hs : s.size ≤ 100000000) (hk : k ≤ 100000000) (hb : b ≤ 8) (h : bitB s k b = x) :
    Calls Try.prog 29 #[.string s, .int .i64 k, .int .i64 b] w fun e w' => e = .returned (.bool x) ∧ w = w' := by
  have := bit_any s k b w hs hk hb
  rw [h] at this
  exact this

def mpre (s m : ByteArray) (k : Nat) : List Value := ((List.range k).map (mb s m)).map (Value.int .u8)
theorem mpre_succ (s m : ByteArray) (k : Nat) : mpre s m (k + 1) = mpre s m k ++ [.int .u8 (mb s m k)] := by
  unfold mpre
  rw [List.range_succ, List.map_append, List.map_append]
  rfl
theorem mpre_all (s m : ByteArray) : mpre s m s.size = (mlist s m).map (Value.int .u8) := rfl

theorem mlist_step {B : Nat} {s m : ByteArray} {w wr w1 : World} {k : Nat} {v v' : Value} {o : Obj} (hk : k < s.size) (hB : Below B w wr) (hsz : B ≤ wr.heap.size)
    (hown : wr.ownsRow B 5 1 v k (mpre s m k))
    (hown1 : w1.ownsRow B 5 1 v' (k + 1) (mpre s m k ++ [.int .u8 (mb s m k)])) (hgrow : (wr.alloc o).grownBy w1 v.ownBlock) :
    B ≤ w1.heap.size ∧ Below B w w1 ∧ w1.ownsRow B 5 1 v' (k + 1) (mpre s m (k + 1)) := by
  have hsz1 : wr.heap.size + 1 ≤ w1.heap.size := by have := hgrow.size; simpa using this
  refine ⟨by omega, (hB.alloc hsz o).grown hgrow (by simp; omega) (fun j hj => (hown.lt j hj).1), ?_⟩
  rw [mpre_succ]
  exact hown1

set_option maxHeartbeats 1000000 in
theorem rmask_any (s m : ByteArray) (w : World) (hs : s.size ≤ 10000000) (hm : m.size ≤ 100000000) :
    Calls Try.prog 22 #[.string s, .string m] w fun e w' => e = .returned (.string (M s m)) ∧ Below w.heap.size w w' := by
  obtain ⟨i0, hi, hz0, hz1, hz2⟩ := info_parts info8
  go_enter Try.func22, Try.ntmps22
  go_wp2
  go_loopw [5, 6] (fun v i wr => ∃ k : Nat, k ≤ s.size ∧ i = .int .i64 k ∧ w.heap.size ≤ wr.heap.size ∧ Below w.heap.size w wr ∧ wr.ownsRow w.heap.size 5 1 v k (mpre s m k)) (fun _ i _ => s.size - (intOf i).toNat)
  case atStart => exact ⟨0, Nat.zero_le _, rfl, Nat.le_refl _, Below.refl _ _, World.ownsRow_nil _ _ _ _⟩
  case round =>
    obtain ⟨k, hk, rfl, hsz, hbw, hown⟩ := hrel
    by_cases hp : k < s.size
    · obtain ⟨wo, hwo⟩ : ∃ wo : World, wo = wr := ⟨_, rfl⟩
      go_wp2
      go_loop [7, 8, 9] (fun n t j => ∃ b : Nat, b ≤ 8 ∧ j = .int .i64 b ∧ n = .int .i64 (acc s m k b) ∧ t = .int .i64 (two b)) (fun _ _ j => 8 - (intOf j).toNat)
      case atStart => exact ⟨0, Nat.zero_le _, rfl, by rw [acc_zero], rfl⟩
      case round =>
        obtain ⟨b, hb, rfl, rfl, rfl⟩ := hrel
        have had := acc_bd s m k b
        have htb := two_bd hb
        by_cases hlb : b < 8
        · have HT := Lib.hid (two_succ b)
          cases h1 : bitB s k b
          · have HA := Lib.hid (acc_no (s := s) (m := m) (k := k) (j := b) (by rw [h1]; rfl))
            have H1 := Lib.hid h1
            clear h1
            go_wp2_with fail
            refine (bit_is false s k b _ (by omega) (by omega) hb H1.out).mono ?_
            rintro e w2 ⟨rfl, rfl⟩
            go_wp2
            go_round
            case rel => exact ⟨b + 1, by omega, by go_num, by rw [HA.out], by rw [HT.out]⟩
            case measure => simp [intOf]; omega
          · cases h2 : bitB m k b
            · have HA := Lib.hid (acc_no (s := s) (m := m) (k := k) (j := b) (by rw [h1, h2]; rfl))
              have H1 := Lib.hid h1
              have H2 := Lib.hid h2
              clear h1 h2
              go_wp2_with fail
              refine (bit_is true s k b _ (by omega) (by omega) hb H1.out).mono ?_
              rintro e w2 ⟨rfl, rfl⟩
              go_wp2_with fail
              refine (bit_is false m k b _ (by omega) (by omega) hb H2.out).mono ?_
              rintro e w2 ⟨rfl, rfl⟩
              go_wp2
              go_round
              case rel => exact ⟨b + 1, by omega, by go_num, by rw [HA.out], by rw [HT.out]⟩
              case measure => simp [intOf]; omega
            · have HA := Lib.hid (acc_yes (s := s) (m := m) (k := k) (j := b) (by rw [h1, h2]; rfl))
              have H1 := Lib.hid h1
              have H2 := Lib.hid h2
              clear h1 h2
              go_wp2_with fail
              refine (bit_is true s k b _ (by omega) (by omega) hb H1.out).mono ?_
              rintro e w2 ⟨rfl, rfl⟩
              go_wp2_with fail
              refine (bit_is true m k b _ (by omega) (by omega) hb H2.out).mono ?_
              rintro e w2 ⟨rfl, rfl⟩
              go_wp2
              go_round
              case rel => exact ⟨b + 1, by omega, by go_num, by rw [HA.out], by rw [HT.out]⟩
              case measure => simp [intOf]; omega
        · obtain rfl : b = 8 := by omega
          have hx := acc_8 s m k
          have hmb := mb_lt s m k
          go_wp2_with (at_builtin; refine wpList_append_own _ rfl _ _ 40 rfl w.heap.size 5 i0 (.int .u8 0) 1 1 Try.underlying40 hi hz0 hz1 hz2 rfl (by decide) _ k _ rfl (hown.alloc _) ⟨wr.heap.size, 0, none⟩ 1 1 [.int .u8 (mb s m k)] rfl rfl ?c1 ?c2 ?c3 ?c4 ?c5 ?_)
          case c2 => rfl
          case c3 => unfold maxLen; omega
          case c4 => omega
          case c5 => omega
          intro v' w1 hown1 hgrow _
          obtain ⟨hr1, hr2, hr3⟩ := mlist_step hp hbw hsz hown hown1 hgrow
          clear hown1 hgrow hown hx
          go_wp2
          go_roundw
          case rel => exact ⟨k + 1, by omega, by go_num, hr1, hr2, hr3⟩
          case measure => simp [intOf]; omega
    · obtain rfl : k = s.size := by omega
      rw [mpre_all] at hown
      have hcv := conv_own (P := Try.prog) wr 40 9 5 Try.underlying40 Try.underlying5 Try.underlying9 hown
      clear hown
      go_wp2
      go_ret
      exact ⟨rfl, hbw⟩

theorem mb_of_bits {a b m : ByteArray} {k : Nat} (h : ∀ j, j < 8 → bitB m k j = true → bitB a k j = bitB b k j) : mb a m k = mb b m k := by
  have ha := mb_lt a m k
  have hb := mb_lt b m k
  have e : (mb a m k).toNat = (mb b m k).toNat := by
    apply Nat.eq_of_testBit_eq
    intro j
    rw [bitB_mb, bitB_mb]
    by_cases hj : j < 8
    · cases hm : bitB m k j
      · simp
      · rw [h j hj hm]
    · have hp : 2 ^ 8 ≤ 2 ^ j := Nat.pow_le_pow_right (by decide) (by omega)
      have hz : bitB m k j = false := by
        unfold bitB
        have := bt_lt m k
        exact Nat.testBit_lt_two_pow (by omega)
      rw [hz]
      simp
  omega
theorem bits_of_mb {a b m : ByteArray} {k : Nat} (h : mb a m k = mb b m k) (j : Nat) (hm : bitB m k j = true) : bitB a k j = bitB b k j := by
  have h1 := bitB_mb a m k j
  have h2 := bitB_mb b m k j
  rw [h, h2, hm] at h1
  simpa using h1.symm

def bitsEq (a b m : ByteArray) (k t : Nat) : Prop := ∀ j, j < t → bitB m k j = true → bitB a k j = bitB b k j
def mbEq (a b m : ByteArray) (k : Nat) : Prop := ∀ j, j < k → mb a m j = mb b m j

set_option maxHeartbeats 1000000 in
theorem rdiffer_any (a b m : ByteArray) (w : World) (ha : a.size ≤ 10000000) (hb : b.size ≤ 10000000) (hm : m.size ≤ 10000000) :
    Calls Try.prog 24 #[.string a, .string b, .string m] w fun e w' => e = .returned (.bool (difB a b m)) ∧ w = w' := by
  by_cases hsz : a.size = b.size
  · have hszn : ((a.size : Int) != (b.size : Int)) = false := by simp; omega
    have HS := Lib.hid hsz
    clear hsz
    go_enter Try.func24, Try.ntmps24
    go_wp2
    go_loop [7] (fun i => ∃ k : Nat, k ≤ a.size ∧ i = .int .i64 k ∧ mbEq a b m k) (fun i => a.size - (intOf i).toNat)
    case atStart => exact ⟨0, Nat.zero_le _, rfl, fun j hj => by omega⟩
    case round =>
      obtain ⟨k, hk, rfl, heq⟩ := hrel
      have Heq := Lib.hid heq
      clear heq
      by_cases hp : k < a.size
      · have hp2 : k < b.size := by rw [← HS.out]; exact hp
        go_wp2
        go_loop [8] (fun j => ∃ t : Nat, t ≤ 8 ∧ j = .int .i64 t ∧ bitsEq a b m k t) (fun j => 8 - (intOf j).toNat)
        case atStart => exact ⟨0, Nat.zero_le _, rfl, fun j hj => by omega⟩
        case round =>
          obtain ⟨t, ht, rfl, hbt⟩ := hrel
          have Hbt := Lib.hid hbt
          clear hbt
          by_cases hlt : t < 8
          · cases h1 : bitB m k t
            · have hn : bitsEq a b m k (t + 1) := fun j hj hjm => by
                rcases Nat.lt_or_ge j t with h | h
                · exact Hbt.out j h hjm
                · rw [show j = t by omega, h1] at hjm; cases hjm
              have Hn := Lib.hid hn
              have H1 := Lib.hid h1
              clear h1 hn
              go_wp2_with fail
              refine (bit_is false m k t _ (by omega) (by omega) ht H1.out).mono ?_
              rintro e w2 ⟨rfl, rfl⟩
              go_wp2
              go_round
              case rel => exact ⟨t + 1, by omega, by go_num, Hn.out⟩
              case measure => simp [intOf]; omega
            · by_cases h2 : bitB a k t = bitB b k t
              · have hn : bitsEq a b m k (t + 1) := fun j hj hjm => by
                  rcases Nat.lt_or_ge j t with h | h
                  · exact Hbt.out j h hjm
                  · rw [show j = t by omega]; exact h2
                obtain ⟨q, hq⟩ : ∃ q, bitB b k t = q := ⟨_, rfl⟩
                rw [hq] at h2
                have Hn := Lib.hid hn
                have H1 := Lib.hid h1
                have H2 := Lib.hid h2
                have H3 := Lib.hid hq
                clear h1 h2 hn hq
                cases q
                all_goals (
                  go_wp2_with fail
                  refine (bit_is true m k t _ (by omega) (by omega) ht H1.out).mono ?_
                  rintro e w2 ⟨rfl, rfl⟩
                  go_wp2_with fail
                  refine (bit_is _ a k t _ (by omega) (by omega) ht H2.out).mono ?_
                  rintro e w2 ⟨rfl, rfl⟩
                  go_wp2_with fail
                  refine (bit_is _ b k t _ (by omega) (by omega) ht H3.out).mono ?_
                  rintro e w2 ⟨rfl, rfl⟩
                  go_wp2
                  go_round
                  case rel => exact ⟨t + 1, by omega, by go_num, Hn.out⟩
                  case measure => simp [intOf]; omega)
              · have Hd := Lib.hid (difB_at (m := m) hp fun e => h2 (bits_of_mb e t h1))
                have H1 := Lib.hid h1
                obtain ⟨q, hq⟩ : ∃ q, bitB a k t = q := ⟨_, rfl⟩
                have h3 : bitB b k t = !q := by rw [hq] at h2; revert h2; cases q <;> cases bitB b k t <;> simp
                have H2 := Lib.hid hq
                have H3 := Lib.hid h3
                clear h1 h2 h3 hq
                cases q
                all_goals (
                  go_wp2_with fail
                  refine (bit_is true m k t _ (by omega) (by omega) ht H1.out).mono ?_
                  rintro e w2 ⟨rfl, rfl⟩
                  go_wp2_with fail
                  refine (bit_is _ a k t _ (by omega) (by omega) ht H2.out).mono ?_
                  rintro e w2 ⟨rfl, rfl⟩
                  go_wp2_with fail
                  refine (bit_is _ b k t _ (by omega) (by omega) ht H3.out).mono ?_
                  rintro e w2 ⟨rfl, rfl⟩
                  go_wp2
                  go_ret
                  exact ⟨ret_bool Hd.out.symm, rfl⟩)
          · obtain rfl : t = 8 := by omega
            have hn : mbEq a b m (k + 1) := fun j hj => by
              rcases Nat.lt_or_ge j k with h | h
              · exact Heq.out j h
              · rw [show j = k by omega]; exact mb_of_bits Hbt.out
            have Hn := Lib.hid hn
            clear hn
            go_wp2
            go_round
            case rel => exact ⟨k + 1, by omega, by go_num, Hn.out⟩
            case measure => simp [intOf]; omega
      · obtain rfl : k = a.size := by omega
        have Hd := Lib.hid (difB_no HS.out Heq.out)
        go_wp2
        go_ret
        exact ⟨ret_bool Hd.out.symm, rfl⟩
  · rw [difB_size hsz]
    have hszn : ((a.size : Int) != (b.size : Int)) = true := by simp; omega
    clear hsz
    go_enter Try.func24, Try.ntmps24
    go_wp2
    go_ret
    exact ⟨rfl, rfl⟩

theorem octetMasks_long (a b m : ByteArray) (w : World) (h : (500 : Int) < a.size ∨ (500 : Int) < b.size ∨ (500 : Int) < m.size) :
    Calls Try.prog 7 #[.string a, .string b, .string m] w fun e w' => e = .returned (.bool true) ∧ Below w.heap.size w w' := by
  by_cases h1 : (500 : Int) < a.size
  · clear h
    go_enter Try.func7, Try.ntmps7
    go_wp2_with fail
    refine (alive_any _).mono ?_
    rintro e w5 ⟨rfl, hb5⟩
    go_wp2
    go_ret
    exact ⟨rfl, hb5⟩
  by_cases h2 : (500 : Int) < b.size
  · clear h
    go_enter Try.func7, Try.ntmps7
    go_wp2_with fail
    refine (alive_any _).mono ?_
    rintro e w5 ⟨rfl, hb5⟩
    go_wp2
    go_ret
    exact ⟨rfl, hb5⟩
  · have h5 : (500 : Int) < m.size := by omega
    clear h
    go_enter Try.func7, Try.ntmps7
    go_wp2_with fail
    refine (alive_any _).mono ?_
    rintro e w5 ⟨rfl, hb5⟩
    go_wp2
    go_ret
    exact ⟨rfl, hb5⟩

set_option maxHeartbeats 1000000 in
theorem octetMasks_walk (a b m : ByteArray) (_w0 : a.size ≤ maxLen) (_w1 : b.size ≤ maxLen) (_w2 : m.size ≤ maxLen) (w : World) :
    Calls Try.prog 7 #[.string a, .string b, .string m] w fun e w' => e = .returned (.bool true) ∧ Below w.heap.size w w' := by
  clear _w0 _w1 _w2
  by_cases h : (500 : Int) < a.size ∨ (500 : Int) < b.size ∨ (500 : Int) < m.size
  · exact octetMasks_long a b m w h
  · have ha : (a.size : Int) ≤ 500 := by omega
    have hb : (b.size : Int) ≤ 500 := by omega
    have hm : (m.size : Int) ≤ 500 := by omega
    clear h
    go_enter Try.func7, Try.ntmps7
    go_wp2_with fail
    refine (mask_M a m _ (by omega) (by omega)).mono ?_
    rintro e w1 ⟨rfl, hb1⟩
    go_wp2_with fail
    refine (rmask_any a m _ (by omega) (by omega)).mono ?_
    rintro e w2 ⟨rfl, hb2⟩
    go_wp2_with fail
    refine (differ_any a b m _ (by omega) (by omega) (by omega)).mono ?_
    rintro e w3 ⟨rfl, hb3⟩
    go_wp2_with fail
    refine (rdiffer_any a b m _ (by omega) (by omega) (by omega)).mono ?_
    rintro e w4 ⟨rfl, rfl⟩
    go_wp2_with fail
    refine (ones_any a _ (by omega)).mono ?_
    rintro e w4 ⟨rfl, rfl⟩
    go_wp2_with fail
    refine (rones_any a _ (by omega)).mono ?_
    rintro e w4 ⟨rfl, rfl⟩
    go_wp2_with fail
    refine (alive_any _).mono ?_
    rintro e w5 ⟨rfl, hb5⟩
    go_wp2
    go_ret
    exact ⟨rfl, below_t2 (below_t2 (below_t2 hb1 hb2) hb3) hb5⟩

end Go.Proofs.Ytjdlkcpcmobbjaa
