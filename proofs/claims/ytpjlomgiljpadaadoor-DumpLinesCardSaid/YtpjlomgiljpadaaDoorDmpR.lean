/- Dump: contracts of the document's hex, number. -/
import Derived.Test.YtpjlomgiljpadaaDoorDmpQ
namespace Go.Proofs.YtpjlomgiljpadaaDoor
open Go.RowKit
set_option linter.unusedVariables false

theorem nums_size_le (L : List Int) (k : Nat) (h : L.length ≤ k) : (strOfNums L).size ≤ k := by rw [strOfNums_size]; exact h

def rhRel (n0 : Int) (k : Nat) (a s i : Value) : Prop := ∃ (j : Nat) (m : Int) (L : List Int), j ≤ k ∧ i = .int .i64 j ∧ a = .int .i64 m ∧ 0 ≤ m ∧ m ≤ n0 ∧ s = .string (strOfNums L) ∧ L.length = j ∧ hexN (k - j) m ++ L = hexN k n0
set_option maxHeartbeats 1000000 in
theorem rhexn_v {n : Int} {k : Nat} {X : ByteArray} (hX : strOfNums (hexN k n) = X) (h0 : 0 ≤ n) (h1 : n ≤ 4294967295) (hk : k ≤ 8) (w : World) :
    Calls Tryd.prog 30 #[.int .i64 n, .int .i64 k] w fun e w' => e = .returned (.string X) ∧ Below w.heap.size w w' := by
  have HX := Lib.hid hX
  clear hX
  have hk9 : (k : Int) ≤ 8 := by omega
  go_enter Tryd.func30, Tryd.ntmps30
  go_wp2_with fail
  go_loopw [0, 5, 6] (fun a s i wr => rhRel n k a s i ∧ Below w.heap.size w wr) (fun _ _ i _ => k - (intOf i).toNat)
  case atStart => exact ⟨⟨0, n, [], Nat.zero_le _, rfl, rfl, h0, Int.le_refl _, rfl, rfl, by simp⟩, Below.refl _ _⟩
  case round =>
    obtain ⟨⟨j, m, L, hj, rfl, rfl, m0, m1, rfl, hl, he⟩, hbw⟩ := hrel
    have HE := Lib.hid he
    have HBW := Lib.hid hbw
    clear he hbw
    by_cases hlt : j < k
    · have hjk : (j : Int) < (k : Int) := by omega
      have hr : m.tmod 16 = m % 16 := Int.tmod_eq_emod_of_nonneg m0
      have hq : m.tdiv 16 = m / 16 := Int.tdiv_eq_ediv_of_nonneg m0
      have hm0 : 0 ≤ m % 16 := by omega
      have hm1 : m % 16 < 16 := by omega
      have HS : Hid (hexN (k - (j + 1)) (m / 16) ++ hx (m % 16) :: L = hexN k n) := Lib.hid (by
        have := HE.out
        rw [show k - j = (k - (j + 1)) + 1 by omega, hexN] at this
        rw [← this]; simp)
      obtain ⟨Y, hY⟩ : ∃ Y, strOfNums L = Y := ⟨_, rfl⟩
      obtain ⟨Z, hZ⟩ : ∃ Z, strOfNums [hx (m % 16)] = Z := ⟨_, rfl⟩
      have hYs : Y.size = j := by rw [← hY, strOfNums_size, hl]
      have hZs : Z.size = 1 := by rw [← hZ]; rfl
      have q1 : ¬ 9223372036854775807 < Z.size + Y.size := by omega
      have HZ := Lib.hid hZ
      have HYZ : Hid (Z ++ Y = strOfNums (hx (m % 16) :: L)) := Lib.hid (by rw [← hY, ← hZ]; exact (nums_app [hx (m % 16)] L).symm)
      rw [hY]
      clear hZ hY
      go_wp2_with fail
      refine (sign_any _ _ hm0 hm1).mono ?_
      rintro e w1 ⟨rfl, hb⟩
      rw [HZ.out]
      have HB := Lib.hid (fbelow_t HBW.out hb)
      clear hb
      go_wp2
      go_roundw
      case rel => exact ⟨⟨j + 1, m / 16, hx (m % 16) :: L, by omega, by go_num, rfl, by omega, by omega, by rw [← HYZ.out], by simp [hl], HS.out⟩, HB.out⟩
      case measure => simp [intOf]; omega
    · obtain rfl : j = k := by omega
      have HL : Hid (strOfNums L = X) := Lib.hid (by
        have := HE.out
        rw [Nat.sub_self] at this
        rw [← HX.out, ← this]; rfl)
      go_wp2
      go_ret
      exact ⟨by rw [← HL.out]; rfl, HBW.out⟩

/-! ### number -/
def numV (s : ByteArray) : Int := if digs (byL s) then numL (byL s) else -1
theorem numV_bd (s : ByteArray) (h : s.size ≤ 12) : -1 ≤ numV s ∧ numV s ≤ 281474976710656 := by
  unfold numV
  split
  · rename_i hd
    have := numL_bd _ hd
    have hp : (16 : Nat) ^ (byL s).length ≤ 16 ^ 12 := Nat.pow_le_pow_right (by decide) (by rw [byL_len]; exact h)
    have : (16 : Nat) ^ 12 = 281474976710656 := by decide
    omega
  · omega
theorem digs_snoc (L : List Int) (c : Int) : digs (L ++ [c]) = (digs L && decide (dig c < 16)) := by simp [digs]
set_option maxHeartbeats 1000000 in
theorem number_v {s : ByteArray} {v : Int} (hv : numV s = v) (hs : s.size ≤ 12) (w : World) :
    Calls Tryd.prog 32 #[.string s] w fun e w' => e = .returned (.int .i64 v) ∧ w = w' := by
  have HV := Lib.hid hv
  clear hv
  go_enter Tryd.func32, Tryd.ntmps32
  go_wp2_with fail
  go_loop [3, 4] (fun n i => ∃ (k : Nat) (a : Int), k ≤ s.size ∧ i = .int .i64 k ∧ n = .int .i64 a ∧ 0 ≤ a ∧ a ≤ 17592186044416 * 16 ∧ Hid (digs ((byL s).take k) = true ∧ numL ((byL s).take k) = a)) (fun _ i => s.size - (intOf i).toNat)
  case atStart => exact ⟨0, 0, Nat.zero_le _, rfl, rfl, by omega, by omega, Lib.hid ⟨rfl, rfl⟩⟩
  case round =>
    obtain ⟨k, a, hk, rfl, rfl, a0, a1, HD⟩ := hrel
    by_cases hlt : k < s.size
    · have hi : ∀ w, (Instr.index 9 (.string s) (.int .i64 k)).run Tryd.prog w = .ok (.int .u8 (bt s k)) w := index_bt Tryd.underlying9 hlt
      have hb := bt_lt s k
      have hd := dig_bd (bt s k)
      have hlt' : (k : Int) < (s.size : Int) := by omega
      have HK : Hid (digs ((byL s).take (k + 1)) = decide (dig (bt s k) < 16) ∧ numL ((byL s).take (k + 1)) = 16 * a + dig (bt s k)) := Lib.hid (by
        rw [byL_take hlt, digs_snoc, numL_snoc, HD.out.1, HD.out.2]; simp)
      obtain ⟨d, hdd⟩ : ∃ d, dig (bt s k) = d := ⟨_, rfl⟩
      have HC : ∀ w, Calls Tryd.prog 33 #[.int .u8 (bt s k)] w fun e w' => e = .returned (.int .i64 d) ∧ w = w' := fun w => by rw [← hdd]; exact rdigit_any _ w hb.1 (by omega)
      have HCC := Lib.hid HC
      rw [hdd] at hd HK
      clear HC hdd hb
      by_cases h16 : 15 < d
      · have HN : Hid (numV s = -1) := Lib.hid (by
          unfold numV
          rw [if_neg]
          intro hc
          have h1 := HK.out.1
          rw [decide_eq_false (by omega)] at h1
          have : digs ((byL s).take (k + 1)) = true := digs_iff.2 fun c hc' => digs_iff.1 hc c (List.mem_of_mem_take hc')
          rw [this] at h1; cases h1)
        go_wp2_with fail
        refine (HCC.out _).mono ?_
        rintro e w1 ⟨rfl, rfl⟩
        go_wp2
        go_ret
        exact ⟨fret_int (by rw [← HV.out, HN.out]), rfl⟩
      · have HA : Hid (16 * a + d ≤ 17592186044416 * 16) := Lib.hid (by
          have h1 := HK.out.1
          rw [decide_eq_true (by omega)] at h1
          have := numL_bd _ h1
          rw [HK.out.2] at this
          have hp : (16 : Nat) ^ ((byL s).take (k + 1)).length ≤ 16 ^ 12 := Nat.pow_le_pow_right (by decide) (by rw [List.length_take, byL_len]; omega)
          have : (16 : Nat) ^ 12 = 281474976710656 := by decide
          omega)
        go_wp2_with fail
        refine (HCC.out _).mono ?_
        rintro e w1 ⟨rfl, rfl⟩
        go_wp2
        go_round
        case rel => exact ⟨k + 1, 16 * a + d, by omega, by go_num, rfl, by omega, HA.out, Lib.hid ⟨by rw [HK.out.1]; exact decide_eq_true (by omega), HK.out.2⟩⟩
        case measure => simp [intOf]; omega
    · obtain rfl : k = s.size := by omega
      have HN : Hid (numV s = a) := Lib.hid (by
        have h1 := HD.out
        rw [List.take_of_length_le (by rw [byL_len]; exact Nat.le_refl _)] at h1
        unfold numV
        rw [if_pos h1.1, h1.2])
      go_wp2
      go_ret
      exact ⟨fret_int (by rw [← HV.out, HN.out]), rfl⟩

end Go.Proofs.YtpjlomgiljpadaaDoor
