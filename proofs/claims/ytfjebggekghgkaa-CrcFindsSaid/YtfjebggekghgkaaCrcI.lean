/- Crc: walk of CrcBits. -/
import Derived.Test.YtfjebggekghgkaaCrcH
namespace Go.Proofs.Ytfjebggekghgkaa
open Go.RowKit
set_option linter.unusedVariables false

def bitsS (n w : Int) : ByteArray := if 0 ≤ n ∧ 0 ≤ w ∧ w ≤ 60 then strOfNums (bitsI n.toNat w.toNat) else ByteArray.mk #[]
theorem kbits_v {n w : Int} {t : ByteArray} (h : bitsS n w = t) (hn : n < 9223372036854775808) (W : World) :
    Calls Try.prog 12 #[.int .i64 n, .int .i64 w] W fun e w' => e = .returned (.string t) ∧ Below W.heap.size W w' := by
  unfold bitsS at h
  split at h
  · rename_i hc
    obtain ⟨a, rfl⟩ := Int.eq_ofNat_of_zero_le hc.1
    obtain ⟨m, rfl⟩ := Int.eq_ofNat_of_zero_le hc.2.1
    rw [Int.toNat_natCast, Int.toNat_natCast] at h
    exact kbits_t h (by omega) (by omega) W
  · refine (kbits_no (by omega) W).mono ?_
    rintro e w' ⟨rfl, rfl⟩
    exact ⟨by rw [h], Below.refl _ _⟩
theorem cbits_v {n w : Int} {t : ByteArray} (h : bitsS n w = t) (hn : n < 9223372036854775808) (W : World) :
    Calls Try.prog 15 #[.int .i64 n, .int .i64 w] W fun e w' => e = .returned (.string t) ∧ Below W.heap.size W w' := by
  unfold bitsS at h
  split at h
  · rename_i hc
    obtain ⟨a, rfl⟩ := Int.eq_ofNat_of_zero_le hc.1
    obtain ⟨m, rfl⟩ := Int.eq_ofNat_of_zero_le hc.2.1
    rw [Int.toNat_natCast, Int.toNat_natCast] at h
    exact cbits_t h (by omega) (by omega) W
  · refine (cbits_no (by omega) W).mono ?_
    rintro e w' ⟨rfl, rfl⟩
    exact ⟨by rw [h], Below.refl _ _⟩
def numR (L : List Int) : Nat × Bool := if numOk L then (numA 0 (toB L), true) else (0, false)
theorem knum_v {s : ByteArray} {n : Nat} {q : Bool} (h : numR (byL s) = (n, q)) (W : World) :
    Calls Try.prog 13 #[.string s] W fun e w' => e = .returned (.tuple #[.int .i64 n, .bool q]) ∧ Below W.heap.size W w' := by
  unfold numR at h
  cases hk : numOk (byL s)
  · rw [hk] at h
    cases h
    exact knum_f hk W
  · rw [hk] at h
    injection h with h1 h2
    subst h2
    exact knum_t h1 hk W
theorem cnum_v {s : ByteArray} {n : Nat} {q : Bool} (h : numR (byL s) = (n, q)) (hs : s.size ≤ maxLen) (W : World) :
    Calls Try.prog 14 #[.string s] W fun e w' => e = .returned (.tuple #[.int .i64 n, .bool q]) ∧ W = w' := by
  unfold numR at h
  cases hk : numOk (byL s)
  · rw [hk] at h
    cases h
    exact cnum_f hk hs W
  · rw [hk] at h
    injection h with h1 h2
    subst h2
    exact cnum_t h1 hk W
theorem num_of_bits {n m : Nat} {t : ByteArray} (ht : strOfNums (bitsI n m) = t) (hm : m ≤ 60) (hn : n < 2 ^ m) : numR (byL t) = (n, true) := by
  have hb : byL t = bitsI n m := by rw [← ht, byL_nums (isBy_bits (bitsI_bits n m))]
  have hk : numOk (byL t) = true := by
    unfold numOk
    rw [hb, bitsI_bits, bitsI_len, decide_eq_true hm]; rfl
  unfold numR
  rw [if_pos hk, hb, toB_bitsI, num_bits hn]
theorem bits_of_num {s : ByteArray} {n : Nat} (h : numR (byL s) = (n, true)) : bitsS n s.size = s ∧ n < 9223372036854775808 := by
  unfold numR at h
  cases hk : numOk (byL s)
  · rw [hk] at h; cases h
  · rw [hk] at h
    injection h with h1 h2
    unfold numOk at hk
    rw [Bool.and_eq_true, decide_eq_true_eq, byL_len] at hk
    have h3 := numA_lt (toB (byL s)) 0 0 (by decide)
    have h4 : 2 ^ (0 + (toB (byL s)).length) ≤ 2 ^ 60 := Nat.pow_le_pow_right (by decide) (by rw [toB_len, byL_len]; omega)
    have h5 := bits_num (toB (byL s)) 0
    rw [h1] at h3 h5
    rw [toB_len, byL_len] at h5
    refine ⟨?_, by omega⟩
    unfold bitsS
    rw [if_pos (by omega), Int.toNat_natCast, Int.toNat_natCast]
    unfold bitsI
    rw [h5, C_toB hk.1, nums_byL]

set_option maxHeartbeats 4000000 in
theorem crcBits_walk (n x : Int) (a b : ByteArray) (wn : (Lit.int .i64 n).wf = true) (wx : (Lit.int .i64 x).wf = true) (wa : a.size ≤ maxLen) (wb : b.size ≤ maxLen) (w : World) :
    Calls Try.prog 4 #[.int .i64 n, .int .i64 x, .string a, .string b] w fun e w' => e = .returned (.bool true) ∧ Below w.heap.size w w' := by
  obtain ⟨hn0, hn1⟩ := Go.bounds_i64 wn
  have HN1 : Hid (n < 9223372036854775808) := Lib.hid (by omega)
  have HMA := Lib.hid wa
  clear wn wx wa wb
  by_cases hl : (200 : Int) < a.size
  · go_enter Try.func4, Try.ntmps4
    go_wp2_with fail
    refine (kalive_any _).mono ?_
    rintro e w1 ⟨rfl, hb1⟩
    go_wp2
    go_ret
    exact ⟨rfl, hb1⟩
  have ha2 : (a.size : Int) ≤ 200 := by omega
  clear hl
  by_cases hl : (200 : Int) < b.size
  · go_enter Try.func4, Try.ntmps4
    go_wp2_with fail
    refine (kalive_any _).mono ?_
    rintro e w1 ⟨rfl, hb1⟩
    go_wp2
    go_ret
    exact ⟨rfl, hb1⟩
  have hb2 : (b.size : Int) ≤ 200 := by omega
  clear hl
  obtain ⟨s, hs⟩ : ∃ s, bitsS n x = s := ⟨_, rfl⟩
  have HS := Lib.hid hs
  obtain ⟨R, hR⟩ : ∃ R, numR (byL a) = R := ⟨_, rfl⟩
  obtain ⟨m, q⟩ := R
  have HR := Lib.hid hR
  obtain ⟨t, ht⟩ : ∃ t, (if addOk (byL a) (byL b) then strOfNums (addI (byL a) (byL b)) else ByteArray.mk #[]) = t := ⟨_, rfl⟩
  have HT := Lib.hid ht
  have HA : Hid (a.size ≤ 100000) := Lib.hid (by omega)
  have HB : Hid (b.size ≤ 100000) := Lib.hid (by omega)
  have es := seq_self s
  have et := seq_self t
  have ea := seq_self a
  have em : ((m : Int) != (m : Int)) = false := by simp
  have em2 : ((m : Int) == (m : Int)) = true := by simp
  have eq_ : (q != q) = false := by simp
  clear hs hR ht
  go_enter Try.func4, Try.ntmps4
  go_wp2_with fail
  refine (kbits_v HS.out HN1.out _).mono ?_
  rintro e w1 ⟨rfl, hb1⟩
  have HB1 := Lib.hid hb1
  clear hb1
  go_wp2_with fail
  refine (knum_v HR.out _).mono ?_
  rintro e w2 ⟨rfl, hb2⟩
  have HB2 := Lib.hid (fbelow_t HB1.out hb2)
  clear hb2
  go_wp2_with fail
  refine (cnum_v HR.out HMA.out _).mono ?_
  rintro e w3 ⟨rfl, rfl⟩
  go_wp2_with fail
  refine (cbits_v HS.out HN1.out _).mono ?_
  rintro e w3 ⟨rfl, hb3⟩
  have HB3 := Lib.hid (fbelow_t HB2.out hb3)
  clear hb3
  go_wp2_with fail
  refine (kadd_v HT.out HA.out HB.out _).mono ?_
  rintro e w4 ⟨rfl, hb4⟩
  have HB4 := Lib.hid (fbelow_t HB3.out hb4)
  clear hb4
  go_wp2_with fail
  refine (cadd_v HT.out HA.out HB.out _).mono ?_
  rintro e w5 ⟨rfl, k, rfl⟩
  have HB5 : Hid (Below w.heap.size w (w4.drewN k)) := Lib.hid (below_drewN HB4.out k)
  generalize w4.drewN k = w5 at HB5 ⊢
  clear HB1 HB2 HB3 HB4
  by_cases hc : 0 ≤ n ∧ 0 ≤ x ∧ x ≤ 60 ∧ n < 2 ^ x.toNat
  · obtain ⟨h1, h2, h3, h4⟩ := hc
    obtain ⟨n', rfl⟩ := Int.eq_ofNat_of_zero_le h1
    obtain ⟨x', rfl⟩ := Int.eq_ofNat_of_zero_le h2
    rw [Int.toNat_natCast] at h4
    have h5 : n' < 2 ^ x' := by
      have e : ((2 : Int) ^ x') = ((2 ^ x' : Nat) : Int) := by simp
      omega
    have HNR : Hid (numR (byL s) = (n', true)) := Lib.hid (num_of_bits (by
      have := HS.out
      unfold bitsS at this
      rwa [if_pos ⟨h1, h2, h3⟩, Int.toNat_natCast, Int.toNat_natCast] at this) (by omega) h5)
    have en : ((n' : Int) == (n' : Int)) = true := by simp
    have hp60 : 2 ^ x' ≤ 1152921504606846976 := by
      have : 2 ^ x' ≤ 2 ^ 60 := Nat.pow_le_pow_right (by decide) (by omega)
      omega
    have hwr : wrap64 ((2 : Int) ^ x') = ((2 ^ x' : Nat) : Int) := by
      have e : ((2 : Int) ^ x') = ((2 ^ x' : Nat) : Int) := by simp
      rw [e]; unfold wrap64; omega
    generalize 2 ^ x' = z at hwr h5 hp60
    clear h4
    go_wp2_with fail
    refine (knum_v HNR.out _).mono ?_
    rintro e w6 ⟨rfl, hb6⟩
    have HB6 := Lib.hid (fbelow_t HB5.out hb6)
    clear hb6
    go_wp2_with fail
    refine (kalive_any _).mono ?_
    rintro e w9 ⟨rfl, hb9⟩
    go_wp2
    go_ret
    exact ⟨rfl, fbelow_t HB6.out hb9⟩
  · by_cases h1 : n < 0
    · clear hc
      cases q
      · go_wp2_with fail
        refine (kalive_any _).mono ?_
        rintro e w9 ⟨rfl, hb9⟩
        go_wp2
        go_ret
        exact ⟨rfl, fbelow_t HB5.out hb9⟩
      · have HZ := Lib.hid (bits_of_num HR.out)
        go_wp2_with fail
        refine (kbits_v HZ.out.1 (by have := HZ.out.2; omega) _).mono ?_
        rintro e w6 ⟨rfl, hb6⟩
        have HB6 := Lib.hid (fbelow_t HB5.out hb6)
        clear hb6
        go_wp2_with fail
        refine (kalive_any _).mono ?_
        rintro e w9 ⟨rfl, hb9⟩
        go_wp2
        go_ret
        exact ⟨rfl, fbelow_t HB6.out hb9⟩
    by_cases h2 : x < 0
    · clear hc
      cases q
      · go_wp2_with fail
        refine (kalive_any _).mono ?_
        rintro e w9 ⟨rfl, hb9⟩
        go_wp2
        go_ret
        exact ⟨rfl, fbelow_t HB5.out hb9⟩
      · have HZ := Lib.hid (bits_of_num HR.out)
        go_wp2_with fail
        refine (kbits_v HZ.out.1 (by have := HZ.out.2; omega) _).mono ?_
        rintro e w6 ⟨rfl, hb6⟩
        have HB6 := Lib.hid (fbelow_t HB5.out hb6)
        clear hb6
        go_wp2_with fail
        refine (kalive_any _).mono ?_
        rintro e w9 ⟨rfl, hb9⟩
        go_wp2
        go_ret
        exact ⟨rfl, fbelow_t HB6.out hb9⟩
    by_cases h3 : 60 < x
    · clear hc
      cases q
      · go_wp2_with fail
        refine (kalive_any _).mono ?_
        rintro e w9 ⟨rfl, hb9⟩
        go_wp2
        go_ret
        exact ⟨rfl, fbelow_t HB5.out hb9⟩
      · have HZ := Lib.hid (bits_of_num HR.out)
        go_wp2_with fail
        refine (kbits_v HZ.out.1 (by have := HZ.out.2; omega) _).mono ?_
        rintro e w6 ⟨rfl, hb6⟩
        have HB6 := Lib.hid (fbelow_t HB5.out hb6)
        clear hb6
        go_wp2_with fail
        refine (kalive_any _).mono ?_
        rintro e w9 ⟨rfl, hb9⟩
        go_wp2
        go_ret
        exact ⟨rfl, fbelow_t HB6.out hb9⟩
    obtain ⟨n', rfl⟩ := Int.eq_ofNat_of_zero_le (show 0 ≤ n by omega)
    obtain ⟨x', rfl⟩ := Int.eq_ofNat_of_zero_le (show 0 ≤ x by omega)
    rw [Int.toNat_natCast] at hc
    have h5 : 2 ^ x' ≤ n' := by
      have e : ((2 : Int) ^ x') = ((2 ^ x' : Nat) : Int) := by simp
      omega
    have hp60 : 2 ^ x' ≤ 1152921504606846976 := by
      have : 2 ^ x' ≤ 2 ^ 60 := Nat.pow_le_pow_right (by decide) (by omega)
      omega
    obtain ⟨z, hz⟩ : ∃ z, 2 ^ x' = z := ⟨_, rfl⟩
    rw [hz] at h5 hp60
    have hwr : wrap64 ((2 : Int) ^ x') = (z : Int) := by
      have e : ((2 : Int) ^ x') = ((2 ^ x' : Nat) : Int) := by simp
      rw [e, hz]; unfold wrap64; omega
    have hd : decide (n' < z) = false := by simp; omega
    clear hz h5 hp60
    have h3' : (x' : Int) ≤ 60 := by omega
    clear hc h1 h2 h3
    cases q
    · go_wp2_with fail
      refine (kalive_any _).mono ?_
      rintro e w9 ⟨rfl, hb9⟩
      go_wp2
      go_ret
      exact ⟨rfl, fbelow_t HB5.out hb9⟩
    · have HZ := Lib.hid (bits_of_num HR.out)
      go_wp2_with fail
      refine (kbits_v HZ.out.1 (by have := HZ.out.2; omega) _).mono ?_
      rintro e w6 ⟨rfl, hb6⟩
      have HB6 := Lib.hid (fbelow_t HB5.out hb6)
      clear hb6
      go_wp2_with fail
      refine (kalive_any _).mono ?_
      rintro e w9 ⟨rfl, hb9⟩
      go_wp2
      go_ret
      exact ⟨rfl, fbelow_t HB6.out hb9⟩

end Go.Proofs.Ytfjebggekghgkaa
