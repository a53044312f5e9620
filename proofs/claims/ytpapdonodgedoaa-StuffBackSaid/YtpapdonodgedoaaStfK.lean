/- Stuff: walks of StuffTakes, StuffBack, StuffTurns, StuffAhead. -/
import Derived.Test.YtpapdonodgedoaaStfJ
namespace Go.Proofs.Ytpapdonodgedoaa
open Go.RowKit
set_option linter.unusedVariables false

theorem unA_neg : ∀ (T out : List Int) (p : Int × Nat) (i : Nat), (unA out p i T).2 = -1 ∨ 0 ≤ (unA out p i T).2
  | [], out, p, i => by
    unfold unA
    split
    · exact .inr (Int.natCast_nonneg _)
    · exact .inl rfl
  | x :: T, out, p, i => by
    unfold unA
    split
    · exact .inr (Int.natCast_nonneg _)
    · split
      · split
        · exact .inr (Int.natCast_nonneg _)
        · exact unA_neg T _ _ _
      · exact unA_neg T _ _ _
theorem nums_size {L : List Int} (h : isBy L) : (strOfNums L).size = L.length := by rw [← byL_len, byL_nums h]
theorem stuffS_str {M T : List Int} (h : bitsB M = true) (e : stuffL M = T) : stuffS (byL (strOfNums M)) = strOfNums T := by
  rw [byL_nums (isBy_bits h), ← stuffS_t h, e]

set_option maxHeartbeats 4000000 in
theorem stuffTakes_walk (s : ByteArray) (ws : s.size ≤ maxLen) (w : World) :
    Calls Try.prog 4 #[.string s] w fun e w' => e = .returned (.bool true) ∧ Below w.heap.size w w' := by
  by_cases hl : (400 : Int) < s.size
  · go_enter Try.func4, Try.ntmps4
    go_wp2_with fail
    refine (salive_any _).mono ?_
    rintro e w1 ⟨rfl, hb1⟩
    go_wp2
    go_ret
    exact ⟨rfl, hb1⟩
  have HS : Hid (s.size ≤ 100000) := Lib.hid (by omega)
  have hl2 : (s.size : Int) ≤ 400 := by omega
  clear hl ws
  obtain ⟨R, hR⟩ : ∃ R, unL (byL s) = R := ⟨_, rfl⟩
  have hneg : R.2 = -1 ∨ 0 ≤ R.2 := by rw [← hR]; exact unA_neg _ _ _ _
  obtain ⟨M, n⟩ := R
  simp only at hneg
  obtain ⟨u, hu⟩ : ∃ u, strOfNums M = u := ⟨_, rfl⟩
  have HR := Lib.hid hR
  have HU := Lib.hid hu
  have eu := seq_self u
  have en : (n == n) = true := by simp
  have es := seq_self s
  clear hu
  rcases hneg with rfl | hn
  · have hb := un_back hR
    have HV : Hid (stuffS (byL u) = s) := Lib.hid (by rw [← HU.out, stuffS_str hb.1 hb.2, nums_byL])
    have HZ : Hid (u.size ≤ 1000000) := Lib.hid (by
      have h1 := (stuff_len M).2
      rw [hb.2, byL_len] at h1
      rw [← HU.out, nums_size (isBy_bits hb.1)]
      omega)
    clear hb hR
    go_enter Try.func4, Try.ntmps4
    go_wp2_with fail
    refine (cun_t HR.out HU.out (by have := HS.out; omega) _).mono ?_
    rintro e w1 ⟨rfl, hb1⟩
    have HB1 := Lib.hid hb1
    clear hb1
    go_wp2_with fail
    refine (sun_t HR.out HU.out (by have := HS.out; omega) _).mono ?_
    rintro e w2 ⟨rfl, hb2⟩
    have HB2 := Lib.hid (fbelow_t HB1.out hb2)
    clear hb2
    go_wp2_with fail
    refine (cstuff_v HV.out HZ.out _).mono ?_
    rintro e w3 ⟨rfl, hb3⟩
    have HB3 := Lib.hid (fbelow_t HB2.out hb3)
    clear hb3
    go_wp2_with fail
    refine (salive_any _).mono ?_
    rintro e w9 ⟨rfl, hb9⟩
    go_wp2
    go_ret
    exact ⟨rfl, fbelow_t HB3.out hb9⟩
  · have hd : decide (0 ≤ n) = true := by simpa using hn
    clear hn hR
    go_enter Try.func4, Try.ntmps4
    go_wp2_with fail
    refine (cun_t HR.out HU.out (by have := HS.out; omega) _).mono ?_
    rintro e w1 ⟨rfl, hb1⟩
    have HB1 := Lib.hid hb1
    clear hb1
    go_wp2_with fail
    refine (sun_t HR.out HU.out (by have := HS.out; omega) _).mono ?_
    rintro e w2 ⟨rfl, hb2⟩
    have HB2 := Lib.hid (fbelow_t HB1.out hb2)
    clear hb2
    go_wp2_with fail
    refine (salive_any _).mono ?_
    rintro e w9 ⟨rfl, hb9⟩
    go_wp2
    go_ret
    exact ⟨rfl, fbelow_t HB2.out hb9⟩

set_option maxHeartbeats 4000000 in
theorem stuffBack_walk (s : ByteArray) (ws : s.size ≤ maxLen) (w : World) :
    Calls Try.prog 5 #[.string s] w fun e w' => e = .returned (.bool true) ∧ Below w.heap.size w w' := by
  by_cases hl : (1000 : Int) < s.size
  · go_enter Try.func5, Try.ntmps5
    go_wp2_with fail
    refine (salive_any _).mono ?_
    rintro e w1 ⟨rfl, hb1⟩
    go_wp2
    go_ret
    exact ⟨rfl, hb1⟩
  have HS : Hid (s.size ≤ 1000) := Lib.hid (by omega)
  have hl2 : (s.size : Int) ≤ 1000 := by omega
  clear hl ws
  cases hq : bitsB (byL s)
  · have HQ := Lib.hid hq
    clear hq
    go_enter Try.func5, Try.ntmps5
    go_wp2_with fail
    refine (cright_v HQ.out _).mono ?_
    rintro e w1 ⟨rfl, hb1⟩
    have HB1 := Lib.hid hb1
    clear hb1
    go_wp2_with fail
    refine (salive_any _).mono ?_
    rintro e w9 ⟨rfl, hb9⟩
    go_wp2
    go_ret
    exact ⟨rfl, fbelow_t HB1.out hb9⟩
  · have HQ := Lib.hid hq
    obtain ⟨t, ht⟩ : ∃ t, stuffS (byL s) = t := ⟨_, rfl⟩
    have HT := Lib.hid ht
    have hbt : byL t = stuffL (byL s) := by rw [← ht, ← stuffS_t hq, byL_nums (isBy_bits (stuffL_bits hq))]
    have hlen := stuff_len (byL s)
    rw [← hbt, byL_len, byL_len] at hlen
    obtain ⟨hA, hB⟩ := hlen
    have HUN : Hid (unL (byL t) = (byL s, -1)) := Lib.hid (by rw [hbt]; exact un_stuff hq)
    have HQT : Hid (bitsB (byL t) = true) := Lib.hid (by rw [hbt]; exact stuffL_bits hq)
    obtain ⟨n, hn⟩ : ∃ n, runL (byL t) = n := ⟨_, rfl⟩
    have HN := Lib.hid hn
    have hn5 : (n : Int) ≤ 5 := by have := run_stuff hq; rw [← hbt, hn] at this; omega
    have HZ : Hid (t.size ≤ 1000000) := Lib.hid (by omega)
    have es := seq_self s
    have d1 : decide ((s.size : Int) ≤ t.size) = true := by simp; omega
    have d2 : decide (4 * ((t.size : Int) - s.size) ≤ s.size) = true := by simp; omega
    clear hq ht hbt hn
    go_enter Try.func5, Try.ntmps5
    go_wp2_with fail
    refine (cright_v HQ.out _).mono ?_
    rintro e w1 ⟨rfl, hb1⟩
    have HB1 := Lib.hid hb1
    clear hb1
    go_wp2_with fail
    refine (cstuff_v HT.out (by have := HS.out; omega) _).mono ?_
    rintro e w2 ⟨rfl, hb2⟩
    have HB2 := Lib.hid (fbelow_t HB1.out hb2)
    clear hb2
    go_wp2_with fail
    refine (cun_t HUN.out (nums_byL s) HZ.out _).mono ?_
    rintro e w3 ⟨rfl, hb3⟩
    have HB3 := Lib.hid (fbelow_t HB2.out hb3)
    clear hb3
    go_wp2_with fail
    refine (crun_v HN.out HQT.out HZ.out _).mono ?_
    rintro e w4 ⟨rfl, hb4⟩
    have HB4 := Lib.hid (fbelow_t HB3.out hb4)
    clear hb4
    go_wp2_with fail
    refine (salive_any _).mono ?_
    rintro e w9 ⟨rfl, hb9⟩
    go_wp2
    go_ret
    exact ⟨rfl, fbelow_t HB4.out hb9⟩

set_option maxHeartbeats 4000000 in
theorem stuffTurns_walk (s : ByteArray) (ws : s.size ≤ maxLen) (w : World) :
    Calls Try.prog 6 #[.string s] w fun e w' => e = .returned (.bool true) ∧ Below w.heap.size w w' := by
  by_cases hl : (1000 : Int) < s.size
  · go_enter Try.func6, Try.ntmps6
    go_wp2_with fail
    refine (salive_any _).mono ?_
    rintro e w1 ⟨rfl, hb1⟩
    go_wp2
    go_ret
    exact ⟨rfl, hb1⟩
  have HS : Hid (s.size ≤ 1000) := Lib.hid (by omega)
  have hl2 : (s.size : Int) ≤ 1000 := by omega
  clear hl ws
  cases hq : bitsB (byL s)
  · have HQ := Lib.hid hq
    clear hq
    go_enter Try.func6, Try.ntmps6
    go_wp2_with fail
    refine (cright_v HQ.out _).mono ?_
    rintro e w1 ⟨rfl, hb1⟩
    have HB1 := Lib.hid hb1
    clear hb1
    go_wp2_with fail
    refine (salive_any _).mono ?_
    rintro e w9 ⟨rfl, hb9⟩
    go_wp2
    go_ret
    exact ⟨rfl, fbelow_t HB1.out hb9⟩
  · have HQ := Lib.hid hq
    obtain ⟨t, ht⟩ : ∃ t, turnS (byL s) = t := ⟨_, rfl⟩
    have HT := Lib.hid ht
    have hbt : byL t = (byL s).map oth := by rw [← ht]; unfold turnS; rw [if_pos hq, byL_nums (bits_map_by hq)]
    have HQT : Hid (bitsB (byL t) = true) := Lib.hid (by rw [hbt]; exact turn_bits hq)
    obtain ⟨a, ha⟩ : ∃ a, stuffS (byL s) = a := ⟨_, rfl⟩
    have HA := Lib.hid ha
    have hba : byL a = stuffL (byL s) := by rw [← ha, ← stuffS_t hq, byL_nums (isBy_bits (stuffL_bits hq))]
    obtain ⟨b, hb⟩ : ∃ b, stuffS (byL t) = b := ⟨_, rfl⟩
    have HB := Lib.hid hb
    have HC : Hid (turnS (byL a) = b) := Lib.hid (by
      rw [← hb, ← stuffS_t HQT.out, hbt, stuff_turn]
      unfold turnS
      rw [hba, if_pos (stuffL_bits hq)])
    have HD : Hid (turnS (byL t) = s) := Lib.hid (by
      unfold turnS
      rw [if_pos HQT.out, hbt, turn_turn, nums_byL])
    obtain ⟨n, hn⟩ : ∃ n, runL (byL s) = n := ⟨_, rfl⟩
    have HN := Lib.hid hn
    have HN2 : Hid (runL (byL t) = n) := Lib.hid (by rw [hbt, run_turn, hn])
    have ht1 : (byL t).length = s.size := by rw [hbt, List.length_map, byL_len]
    rw [byL_len] at ht1
    have hlen := (stuff_len (byL s)).1
    rw [← hba, byL_len, byL_len] at hlen
    have HZT : Hid (t.size ≤ 1000000) := Lib.hid (by omega)
    have HZA : Hid (a.size ≤ 1000000) := Lib.hid (by omega)
    have es := seq_self s
    have eb := seq_self b
    have en : ((n : Int) == (n : Int)) = true := by simp
    clear hq ht hbt ha hba hb hn ht1 hlen
    go_enter Try.func6, Try.ntmps6
    go_wp2_with fail
    refine (cright_v HQ.out _).mono ?_
    rintro e w1 ⟨rfl, hb1⟩
    have HB1 := Lib.hid hb1
    clear hb1
    go_wp2_with fail
    refine (cturn_v HT.out (by have := HS.out; omega) _).mono ?_
    rintro e w2 ⟨rfl, hb2⟩
    have HB2 := Lib.hid (fbelow_t HB1.out hb2)
    clear hb2
    go_wp2_with fail
    refine (cstuff_v HB.out HZT.out _).mono ?_
    rintro e w3 ⟨rfl, hb3⟩
    have HB3 := Lib.hid (fbelow_t HB2.out hb3)
    clear hb3
    go_wp2_with fail
    refine (cstuff_v HA.out (by have := HS.out; omega) _).mono ?_
    rintro e w4 ⟨rfl, hb4⟩
    have HB4 := Lib.hid (fbelow_t HB3.out hb4)
    clear hb4
    go_wp2_with fail
    refine (cturn_v HC.out HZA.out _).mono ?_
    rintro e w5 ⟨rfl, hb5⟩
    have HB5 := Lib.hid (fbelow_t HB4.out hb5)
    clear hb5
    go_wp2_with fail
    refine (cturn_v HD.out HZT.out _).mono ?_
    rintro e w6 ⟨rfl, hb6⟩
    have HB6 := Lib.hid (fbelow_t HB5.out hb6)
    clear hb6
    go_wp2_with fail
    refine (crun_v HN2.out HQT.out HZT.out _).mono ?_
    rintro e w7 ⟨rfl, hb7⟩
    have HB7 := Lib.hid (fbelow_t HB6.out hb7)
    clear hb7
    go_wp2_with fail
    refine (crun_v HN.out HQ.out (by have := HS.out; omega) _).mono ?_
    rintro e w8 ⟨rfl, hb8⟩
    have HB8 := Lib.hid (fbelow_t HB7.out hb8)
    clear hb8
    go_wp2_with fail
    refine (salive_any _).mono ?_
    rintro e w9 ⟨rfl, hb9⟩
    go_wp2
    go_ret
    exact ⟨rfl, fbelow_t HB8.out hb9⟩

end Go.Proofs.Ytpapdonodgedoaa
