/- Octet: contracts of Ones; of what every statement asks at its end (alive). -/
import Derived.Test.YtjdlkcpcmobbjaaOctD
namespace Go.Proofs.Ytjdlkcpcmobbjaa
open Go.RowKit
set_option linter.unusedVariables false

/-- how many bits of a byte are set -/
def pc (x : Int) : Int := x % 2 + x / 2 % 2 + x / 4 % 2 + x / 8 % 2 + x / 16 % 2 + x / 32 % 2 + x / 64 % 2 + x / 128 % 2
def ones (s : ByteArray) : Nat → Int
  | 0 => 0
  | n + 1 => ones s n + pc (bt s n)
theorem pc_bd (x : Int) : 0 ≤ pc x ∧ pc x ≤ 8 := by unfold pc; omega
theorem ones_bd (s : ByteArray) : ∀ n, 0 ≤ ones s n ∧ ones s n ≤ 8 * n
  | 0 => by simp [ones]
  | n + 1 => by have h := ones_bd s n; have h' := pc_bd (bt s n); simp only [ones]; omega

set_option maxHeartbeats 1000000 in
set_option maxRecDepth 100000 in
theorem onesCount_any (x : Int) (w : World) (h0 : 0 ≤ x) (h1 : x < 256) :
    Calls Try.prog 30 #[.int .u8 x] w fun e w' => e = .returned (.int .i64 (pc x)) ∧ w = w' := by
  go_enter Try.func30, Try.ntmps30
  go_wp2
  go_ret
  refine ⟨ret_int ?_, rfl⟩
  obtain ⟨n, rfl⟩ := Int.eq_ofNat_of_zero_le h0
  have hn : n < 256 := by omega
  simp only [Int.toNat_natCast]
  rw [← getElem!_pos]
  clear h0 h1
  revert n
  unfold wrap64
  decide +kernel

set_option maxHeartbeats 1000000 in
theorem ones_any (s : ByteArray) (w : World) (hs : s.size ≤ 100000000) :
    Calls Try.prog 25 #[.string s] w fun e w' => e = .returned (.int .i64 (ones s s.size)) ∧ w = w' := by
  go_enter Try.func25, Try.ntmps25
  go_wp2
  go_loop [3, 7] (fun n i => ∃ k : Nat, k ≤ s.size ∧ i = .int .i64 k ∧ n = .int .i64 (ones s k)) (fun _ i => s.size - (intOf i).toNat)
  case atStart => exact ⟨0, Nat.zero_le _, rfl, rfl⟩
  case round =>
    obtain ⟨k, hk, rfl, rfl⟩ := hrel
    have hob := ones_bd s k
    have hpb := pc_bd (bt s k)
    by_cases hlt : k < s.size
    · have hb := bt_lt s k
      have hbe := bt_eq s k hlt
      have HS : Hid (ones s (k + 1) = ones s k + pc (bt s k)) := rfl
      go_wp2_with (go_at_call 30; refine (onesCount_any _ _ hb.1 hb.2).mono ?_; rintro e w' ⟨rfl, rfl⟩)
      go_round
      case rel => exact ⟨k + 1, by omega, by go_num, by rw [HS.out]⟩
      case measure => simp [intOf]; omega
    · obtain rfl : k = s.size := by omega
      go_wp2
      go_ret
      exact ⟨rfl, rfl⟩

theorem unhex_c (w : World) : Calls Try.prog 17 #[.string ⟨#[48, 48, 65, 98]⟩] w fun e w' => e = .returned (.tuple #[.string ⟨#[0, 171]⟩, .bool true]) ∧ Below w.heap.size w w' := by
  refine (unhex_any ⟨#[48, 48, 65, 98]⟩ w (by decide)).mono fun e w' ⟨h, hb⟩ => ⟨?_, hb⟩
  rcases h with ⟨_, rfl⟩ | ⟨h, _⟩
  · have e1 : strOfNums (unl ⟨#[48, 48, 65, 98]⟩ ((⟨#[48, 48, 65, 98]⟩ : ByteArray).size / 2)) = ⟨#[0, 171]⟩ := by decide +kernel
    rw [e1]
  · exact absurd (show unOk ⟨#[48, 48, 65, 98]⟩ by unfold unOk isdig; decide +kernel) h

theorem put_c (w : World) : Calls Try.prog 10 #[.int .u32 258] w fun e w' => e = .returned (.string ⟨#[2, 1, 0, 0]⟩) ∧ Below w.heap.size w w' := by
  refine (put_any 258 w (by omega) (by omega)).mono fun e w' ⟨h, hb⟩ => ⟨?_, hb⟩
  have e1 : strOfNums [258 % 256, 258 / 256 % 256, 258 / 65536 % 256, 258 / 16777216] = ⟨#[2, 1, 0, 0]⟩ := by decide +kernel
  rw [h, e1]

theorem hex_c (w : World) : Calls Try.prog 19 #[.string ⟨#[0, 171]⟩] w fun e w' => e = .returned (.string ⟨#[48, 48, 65, 66]⟩) ∧ Below w.heap.size w w' := by
  refine (hex_any ⟨#[0, 171]⟩ w (by decide)).mono fun e w' ⟨h, hb⟩ => ⟨?_, hb⟩
  have e1 : strOfNums (hexl ⟨#[0, 171]⟩ (⟨#[0, 171]⟩ : ByteArray).size) = ⟨#[48, 48, 65, 66]⟩ := by decide +kernel
  rw [h, e1]

theorem ones_c (w : World) : Calls Try.prog 25 #[.string ⟨#[7, 1]⟩] w fun e w' => e = .returned (.int .i64 4) ∧ w = w' := by
  refine (ones_any ⟨#[7, 1]⟩ w (by decide)).mono fun e w' ⟨h, hb⟩ => ⟨?_, hb⟩
  have e1 : ones ⟨#[7, 1]⟩ (⟨#[7, 1]⟩ : ByteArray).size = 4 := by decide +kernel
  rw [h, e1]

set_option maxHeartbeats 1000000 in
theorem alive_any (w : World) : Calls Try.prog 14 #[] w fun e w' => e = .returned (.bool true) ∧ Below w.heap.size w w' := by
  go_enter Try.func14, Try.ntmps14
  go_wp2_with fail
  refine (unhex_c _).mono ?_
  rintro e w1 ⟨rfl, hb1⟩
  go_wp2_with fail
  refine (put_c _).mono ?_
  rintro e w2 ⟨rfl, hb2⟩
  go_wp2_with fail
  refine (hex_c _).mono ?_
  rintro e w3 ⟨rfl, hb3⟩
  go_wp2_with fail
  refine (ones_c _).mono ?_
  rintro e w4 ⟨rfl, rfl⟩
  go_wp2
  go_ret
  exact ⟨rfl, hb1.trans ((hb2.mono hb1.size).trans (hb3.mono (Nat.le_trans hb1.size hb2.size)))⟩

end Go.Proofs.Ytjdlkcpcmobbjaa
