/- Crc: the chapter's examples; walks of CrcSums and CrcNone. -/
import Derived.Test.YtfjebggekghgkaaCrcF
namespace Go.Proofs.Ytfjebggekghgkaa
open Go.RowKit
set_option linter.unusedVariables false

set_option maxRecDepth 100000 in
theorem ex_num : numA 0 (toB (byL (ByteArray.mk #[48, 49, 48, 49]))) = 5 := by decide +kernel
set_option maxRecDepth 100000 in
theorem ex_ok : numOk (byL (ByteArray.mk #[48, 49, 48, 49])) = true := by decide +kernel
set_option maxRecDepth 100000 in
theorem ex_crc : feedC 15 17817 0 (toB (byL (ByteArray.mk #[49]))) = 17817 := by decide +kernel
set_option maxRecDepth 100000 in
theorem ex_one : bitsB (byL (ByteArray.mk #[49])) = true := by decide +kernel
set_option maxRecDepth 100000 in
theorem ex_two : bitsB (byL (ByteArray.mk #[50])) = false := by decide +kernel
set_option maxRecDepth 100000 in
theorem ex_bits : strOfNums (bitsI 5 4) = ByteArray.mk #[48, 49, 48, 49] := by decide +kernel

set_option maxHeartbeats 2000000 in
theorem kalive_any (w : World) : Calls Try.prog 8 #[] w fun e w' => e = .returned (.bool true) ∧ Below w.heap.size w w' := by
  have e1 := seq_self (ByteArray.mk #[48, 49, 48, 49])
  go_enter Try.func8, Try.ntmps8
  go_wp2_with fail
  refine (knum_t ex_num ex_ok _).mono ?_
  rintro e w1 ⟨rfl, hb1⟩
  have HB1 := Lib.hid hb1
  clear hb1
  go_wp2_with fail
  refine (kcrc_t ex_crc ex_one _).mono ?_
  rintro e w2 ⟨rfl, hb2⟩
  have HB2 := Lib.hid (fbelow_t HB1.out hb2)
  clear hb2
  go_wp2_with fail
  refine (kbits_t (n := 5) (m := 4) ex_bits (by decide) (by decide) _).mono ?_
  rintro e w3 ⟨rfl, hb3⟩
  have HB3 := Lib.hid (fbelow_t HB2.out hb3)
  clear hb3
  go_wp2_with fail
  refine (kcrc_f ex_two _).mono ?_
  rintro e w4 ⟨rfl, hb4⟩
  have HB4 := Lib.hid (fbelow_t HB3.out hb4)
  clear hb4
  go_wp2
  go_ret
  exact ⟨rfl, HB4.out⟩

theorem rightC_nat {w p : Int} (h : rightC w p = true) : ∃ w' p' : Nat, w = w' ∧ p = p' ∧ 1 ≤ w' ∧ w' ≤ 30 ∧ p' < 2 ^ w' := by
  unfold rightC at h
  simp only [Bool.and_eq_true, decide_eq_true_eq] at h
  obtain ⟨⟨⟨h1, h2⟩, h3⟩, h4⟩ := h
  obtain ⟨w, rfl⟩ := Int.eq_ofNat_of_zero_le (show 0 ≤ w by omega)
  obtain ⟨p, rfl⟩ := Int.eq_ofNat_of_zero_le h3
  rw [Int.toNat_natCast] at h4
  exact ⟨w, p, rfl, rfl, by omega, by omega, Int.ofNat_lt.1 h4⟩

set_option maxHeartbeats 4000000 in
theorem crcSums_walk (s : ByteArray) (a b : Int) (ws : s.size ≤ maxLen) (_wa : (Lit.int .i64 a).wf = true) (_wb : (Lit.int .i64 b).wf = true) (w : World) :
    Calls Try.prog 3 #[.string s, .int .i64 a, .int .i64 b] w fun e w' => e = .returned (.bool true) ∧ Below w.heap.size w w' := by
  by_cases hl : (600 : Int) < s.size
  · go_enter Try.func3, Try.ntmps3
    go_wp2_with fail
    refine (kalive_any _).mono ?_
    rintro e w1 ⟨rfl, hb1⟩
    go_wp2
    go_ret
    exact ⟨rfl, hb1⟩
  have HS : Hid (s.size ≤ 100000) := Lib.hid (by omega)
  have HM := Lib.hid ws
  have hl2 : (s.size : Int) ≤ 600 := by omega
  clear hl ws _wa _wb
  obtain ⟨k, hk⟩ : ∃ k, feedC 15 17817 0 (toB (byL s)) = k := ⟨_, rfl⟩
  have HK := Lib.hid hk
  have ek : ((k : Int) == (k : Int)) = true := by simp
  clear hk
  cases hq : bitsB (byL s)
  · have HQ := Lib.hid hq
    have HR : Hid ((bitsB (byL s) && rightC a b) = false) := Lib.hid (by rw [hq]; rfl)
    have HR2 : Hid ((bitsB (byL s) && rightC 15 17817) = false) := Lib.hid (by rw [hq]; rfl)
    clear hq
    go_enter Try.func3, Try.ntmps3
    go_wp2_with fail
    refine (ksum_f HR.out _).mono ?_
    rintro e w1 ⟨rfl, hb1⟩
    have HB1 := Lib.hid hb1
    clear hb1
    go_wp2_with fail
    refine (csum_f HR.out HM.out _).mono ?_
    rintro e w2 ⟨rfl, rfl⟩
    go_wp2_with fail
    refine (csum_f HR2.out HM.out _).mono ?_
    rintro e w2 ⟨rfl, rfl⟩
    go_wp2_with fail
    refine (kcrc_f HQ.out _).mono ?_
    rintro e w3 ⟨rfl, hb3⟩
    have HB3 := Lib.hid (fbelow_t HB1.out hb3)
    clear hb3
    go_wp2_with fail
    refine (kalive_any _).mono ?_
    rintro e w9 ⟨rfl, hb9⟩
    go_wp2
    go_ret
    exact ⟨rfl, fbelow_t HB3.out hb9⟩
  have HQ := Lib.hid hq
  cases hr : rightC a b
  · have HR : Hid ((bitsB (byL s) && rightC a b) = false) := Lib.hid (by rw [hq, hr]; rfl)
    clear hq hr
    go_enter Try.func3, Try.ntmps3
    go_wp2_with fail
    refine (ksum_f HR.out _).mono ?_
    rintro e w1 ⟨rfl, hb1⟩
    have HB1 := Lib.hid hb1
    clear hb1
    go_wp2_with fail
    refine (csum_f HR.out HM.out _).mono ?_
    rintro e w2 ⟨rfl, rfl⟩
    go_wp2_with fail
    refine (csum_t (w := 15) (p := 17817) HK.out HQ.out (by decide) (by decide) (by decide) HS.out _).mono ?_
    rintro e w2 ⟨rfl, hb2⟩
    have HB2 := Lib.hid (fbelow_t HB1.out hb2)
    clear hb2
    go_wp2_with fail
    refine (kcrc_t HK.out HQ.out _).mono ?_
    rintro e w3 ⟨rfl, hb3⟩
    have HB3 := Lib.hid (fbelow_t HB2.out hb3)
    clear hb3
    go_wp2_with fail
    refine (kalive_any _).mono ?_
    rintro e w9 ⟨rfl, hb9⟩
    go_wp2
    go_ret
    exact ⟨rfl, fbelow_t HB3.out hb9⟩
  obtain ⟨W, p, rfl, rfl, h1, h2, h3⟩ := rightC_nat hr
  have H1 := Lib.hid h1
  have H2 := Lib.hid h2
  have H3 := Lib.hid h3
  obtain ⟨n, hn⟩ : ∃ n, feedC W p 0 (toB (byL s)) = n := ⟨_, rfl⟩
  have HN := Lib.hid hn
  have en : ((n : Int) == (n : Int)) = true := by simp
  clear hq hr h1 h2 h3 hn
  go_enter Try.func3, Try.ntmps3
  go_wp2_with fail
  refine (ksum_t HN.out HQ.out H1.out H2.out H3.out _).mono ?_
  rintro e w1 ⟨rfl, hb1⟩
  have HB1 := Lib.hid hb1
  clear hb1
  go_wp2_with fail
  refine (csum_t HN.out HQ.out H1.out H2.out H3.out HS.out _).mono ?_
  rintro e w2 ⟨rfl, hb2⟩
  have HB2 := Lib.hid (fbelow_t HB1.out hb2)
  clear hb2
  go_wp2_with fail
  refine (csum_t (w := 15) (p := 17817) HK.out HQ.out (by decide) (by decide) (by decide) HS.out _).mono ?_
  rintro e w3 ⟨rfl, hb3⟩
  have HB3 := Lib.hid (fbelow_t HB2.out hb3)
  clear hb3
  go_wp2_with fail
  refine (kcrc_t HK.out HQ.out _).mono ?_
  rintro e w4 ⟨rfl, hb4⟩
  have HB4 := Lib.hid (fbelow_t HB3.out hb4)
  clear hb4
  go_wp2_with fail
  refine (kalive_any _).mono ?_
  rintro e w9 ⟨rfl, hb9⟩
  go_wp2
  go_ret
  exact ⟨rfl, fbelow_t HB4.out hb9⟩

end Go.Proofs.Ytfjebggekghgkaa
