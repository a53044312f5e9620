/- Crc: walks of CrcNone and CrcAdds. -/
import Derived.Test.YtfjebggekghgkaaCrcG
namespace Go.Proofs.Ytfjebggekghgkaa
open Go.RowKit
set_option linter.unusedVariables false

theorem bitsT_zero : ∀ k : Nat, bitsT 0 k = List.replicate k false
  | 0 => rfl
  | k + 1 => by rw [bitsT, bitsT_zero k, List.replicate_succ, Nat.zero_testBit]
theorem toB_bitsI (n w : Nat) : toB (bitsI n w) = bitsT n w := by unfold bitsI; exact toB_C _
theorem bitsB_append {s t : ByteArray} (hs : bitsB (byL s) = true) (ht : bitsB (byL t) = true) : bitsB (byL (s ++ t)) = true := by rw [byL_app, bitsB_app, hs, ht]; rfl
theorem none_left {s t : ByteArray} {w p n : Nat} (hn : feedC w p 0 (toB (byL s)) = n) (ht : strOfNums (bitsI n w) = t) (hp : p < 2 ^ w) : feedC w p 0 (toB (byL (s ++ t))) = 0 := by
  rw [byL_app, toB_app, feedC_app, hn, ← ht, byL_nums (isBy_bits (bitsI_bits n w)), toB_bitsI]
  exact feed_bits (by rw [← hn]; exact feed_lt hp _ 0 (Nat.two_pow_pos w))
theorem ahead_left {s t : ByteArray} {w p k : Nat} (ht : strOfNums (bitsI 0 k) = t) : feedC w p 0 (toB (byL (t ++ s))) = feedC w p 0 (toB (byL s)) := by
  rw [byL_app, toB_app, feedC_app, ← ht, byL_nums (isBy_bits (bitsI_bits 0 k)), toB_bitsI, bitsT_zero, feed_zeros]

theorem bitsI_str {n w : Nat} {t : ByteArray} (ht : strOfNums (bitsI n w) = t) : t.size = w ∧ bitsB (byL t) = true := by
  subst ht
  exact ⟨by rw [numsz, bitsI_len], by rw [byL_nums (isBy_bits (bitsI_bits n w))]; exact bitsI_bits n w⟩

set_option maxHeartbeats 4000000 in
theorem crcNone_walk (s : ByteArray) (a b z : Int) (ws : s.size ≤ maxLen) (_wa : (Lit.int .i64 a).wf = true) (_wb : (Lit.int .i64 b).wf = true) (_wz : (Lit.int .i64 z).wf = true) (w : World) :
    Calls Try.prog 5 #[.string s, .int .i64 a, .int .i64 b, .int .i64 z] w fun e w' => e = .returned (.bool true) ∧ Below w.heap.size w w' := by
  have HM := Lib.hid ws
  clear ws _wa _wb _wz
  by_cases hl : (600 : Int) < s.size
  · go_enter Try.func5, Try.ntmps5
    go_wp2_with fail
    refine (kalive_any _).mono ?_
    rintro e w1 ⟨rfl, hb1⟩
    go_wp2
    go_ret
    exact ⟨rfl, hb1⟩
  have hl2 : (s.size : Int) ≤ 600 := by omega
  clear hl
  by_cases hz : z < 0
  · go_enter Try.func5, Try.ntmps5
    go_wp2_with fail
    refine (kalive_any _).mono ?_
    rintro e w1 ⟨rfl, hb1⟩
    go_wp2
    go_ret
    exact ⟨rfl, hb1⟩
  have hz1 : 0 ≤ z := by omega
  clear hz
  by_cases hz : 40 < z
  · go_enter Try.func5, Try.ntmps5
    go_wp2_with fail
    refine (kalive_any _).mono ?_
    rintro e w1 ⟨rfl, hb1⟩
    go_wp2
    go_ret
    exact ⟨rfl, hb1⟩
  obtain ⟨j, rfl⟩ := Int.eq_ofNat_of_zero_le hz1
  have hz2 : (j : Int) ≤ 40 := by omega
  clear hz hz1
  cases hr : bitsB (byL s) && rightC a b
  · have HR := Lib.hid hr
    clear hr
    go_enter Try.func5, Try.ntmps5
    go_wp2_with fail
    refine (ksum_f HR.out _).mono ?_
    rintro e w1 ⟨rfl, hb1⟩
    have HB1 := Lib.hid hb1
    clear hb1
    go_wp2_with fail
    refine (kalive_any _).mono ?_
    rintro e w9 ⟨rfl, hb9⟩
    go_wp2
    go_ret
    exact ⟨rfl, fbelow_t HB1.out hb9⟩
  rw [Bool.and_eq_true] at hr
  obtain ⟨W, p, rfl, rfl, h1, h2, h3⟩ := rightC_nat hr.2
  have HQ := Lib.hid hr.1
  have H1 := Lib.hid h1
  have H2 := Lib.hid h2
  have H3 := Lib.hid h3
  obtain ⟨n, hn⟩ : ∃ n, feedC W p 0 (toB (byL s)) = n := ⟨_, rfl⟩
  have HN := Lib.hid hn
  have HLT : Hid (n < 9223372036854775808) := Lib.hid (by have := feed_lt h3 (toB (byL s)) 0 (Nat.two_pow_pos W); have := pow30 h2; omega)
  have HW60 : Hid (W ≤ 60) := Lib.hid (by omega)
  have HJ60 : Hid (j ≤ 60) := Lib.hid (by omega)
  obtain ⟨t, ht⟩ : ∃ t, strOfNums (bitsI n W) = t := ⟨_, rfl⟩
  have HT := Lib.hid ht
  obtain ⟨u, hu⟩ : ∃ u, strOfNums (bitsI 0 j) = u := ⟨_, rfl⟩
  have HU := Lib.hid hu
  obtain ⟨zt, bt_⟩ := bitsI_str ht
  obtain ⟨zu, bu_⟩ := bitsI_str hu
  have HN1 := Lib.hid (none_left hn ht h3)
  have HN2 : Hid (feedC W p 0 (toB (byL (u ++ s))) = n) := Lib.hid (by rw [ahead_left hu, hn])
  have HQ1 := Lib.hid (bitsB_append hr.1 bt_)
  have HQ2 := Lib.hid (bitsB_append bu_ hr.1)
  have hs1 : ¬ 9223372036854775807 < s.size + t.size := by omega
  have hs2 : ¬ 9223372036854775807 < u.size + s.size := by omega
  have en : ((n : Int) == (n : Int)) = true := by simp
  clear hr h1 h2 h3 hn ht hu zt zu bt_ bu_
  go_enter Try.func5, Try.ntmps5
  go_wp2_with fail
  refine (ksum_t HN.out HQ.out H1.out H2.out H3.out _).mono ?_
  rintro e w1 ⟨rfl, hb1⟩
  have HB1 := Lib.hid hb1
  clear hb1
  go_wp2_with fail
  refine (kbits_t HT.out HLT.out HW60.out _).mono ?_
  rintro e w2 ⟨rfl, hb2⟩
  have HB2 := Lib.hid (fbelow_t HB1.out hb2)
  clear hb2
  go_wp2_with fail
  refine (ksum_t HN1.out HQ1.out H1.out H2.out H3.out _).mono ?_
  rintro e w3 ⟨rfl, hb3⟩
  have HB3 := Lib.hid (fbelow_t HB2.out hb3)
  clear hb3
  go_wp2_with fail
  refine (kbits_t (n := 0) HU.out (by decide) HJ60.out _).mono ?_
  rintro e w4 ⟨rfl, hb4⟩
  have HB4 := Lib.hid (fbelow_t HB3.out hb4)
  clear hb4
  go_wp2_with fail
  refine (ksum_t HN2.out HQ2.out H1.out H2.out H3.out _).mono ?_
  rintro e w5 ⟨rfl, hb5⟩
  have HB5 := Lib.hid (fbelow_t HB4.out hb5)
  clear hb5
  go_wp2_with fail
  refine (kalive_any _).mono ?_
  rintro e w9 ⟨rfl, hb9⟩
  go_wp2
  go_ret
  exact ⟨rfl, fbelow_t HB5.out hb9⟩

theorem toB_addI : ∀ {A B : List Int}, bitsB A = true → bitsB B = true → toB (addI A B) = List.zipWith (fun a b => a ^^ b) (toB A) (toB B)
  | [], _, _, _ => rfl
  | _ :: _, [], _, _ => rfl
  | a :: A, b :: B, hA, hB => by
    rw [bitsB_cons, Bool.and_eq_true] at hA hB
    have ih := toB_addI hA.2 hB.2
    unfold toB addI at ih ⊢
    simp only [List.zipWith_cons_cons, List.map_cons, ih]
    congr 1
    rcases (isBit_iff a).1 hA.1 with rfl | rfl <;> rcases (isBit_iff b).1 hB.1 with rfl | rfl <;> rfl
theorem addI_bits : ∀ A B : List Int, bitsB (addI A B) = true
  | [], _ => rfl
  | _ :: _, [] => rfl
  | a :: A, b :: B => by
    unfold addI
    rw [List.zipWith_cons_cons, bitsB_cons]
    have := addI_bits A B
    unfold addI at this
    rw [this, Bool.and_true]
    split <;> rfl
theorem add_str {a b t : ByteArray} (ha : bitsB (byL a) = true) (hb : bitsB (byL b) = true) (hl : a.size = b.size) (ht : strOfNums (addI (byL a) (byL b)) = t) :
    (if addOk (byL a) (byL b) then strOfNums (addI (byL a) (byL b)) else ByteArray.mk #[]) = t ∧ byL t = addI (byL a) (byL b) ∧ bitsB (byL t) = true ∧ t.size = a.size := by
  have h1 : byL t = addI (byL a) (byL b) := by rw [← ht, byL_nums (addI_by _ _)]
  refine ⟨?_, h1, by rw [h1]; exact addI_bits _ _, ?_⟩
  · unfold addOk
    rw [ha, hb, byL_len, byL_len, decide_eq_true hl]
    exact ht
  · rw [← byL_len t, h1]
    unfold addI
    rw [List.length_zipWith, byL_len, byL_len]; omega

set_option maxHeartbeats 4000000 in
theorem crcAdds_walk (a b : ByteArray) (x y : Int) (wa : a.size ≤ maxLen) (wb : b.size ≤ maxLen) (_wx : (Lit.int .i64 x).wf = true) (_wy : (Lit.int .i64 y).wf = true) (w : World) :
    Calls Try.prog 6 #[.string a, .string b, .int .i64 x, .int .i64 y] w fun e w' => e = .returned (.bool true) ∧ Below w.heap.size w w' := by
  clear _wx _wy
  have hmb : (b.size : Int) ≤ 9223372036854775807 := by unfold maxLen at wb; omega
  clear wa wb
  by_cases hl : (600 : Int) < a.size
  · go_enter Try.func6, Try.ntmps6
    go_wp2_with fail
    refine (kalive_any _).mono ?_
    rintro e w1 ⟨rfl, hb1⟩
    go_wp2
    go_ret
    exact ⟨rfl, hb1⟩
  have hl2 : (a.size : Int) ≤ 600 := by omega
  have HSA : Hid (a.size ≤ 100000) := Lib.hid (by omega)
  clear hl
  by_cases he : a.size = b.size
  rotate_left
  · have hne : ((a.size : Int) != (b.size : Int)) = true := by simp; omega
    clear he
    go_enter Try.func6, Try.ntmps6
    go_wp2_with fail
    refine (kalive_any _).mono ?_
    rintro e w1 ⟨rfl, hb1⟩
    go_wp2
    go_ret
    exact ⟨rfl, hb1⟩
  have hne : ((a.size : Int) != (b.size : Int)) = false := by simp; omega
  have HE := Lib.hid he
  clear he hmb
  cases ha : bitsB (byL a) && rightC x y
  · have HA := Lib.hid ha
    clear ha
    cases hb : bitsB (byL b) && rightC x y
    · have HB := Lib.hid hb
      clear hb
      go_enter Try.func6, Try.ntmps6
      go_wp2_with fail
      refine (ksum_f HA.out _).mono ?_
      rintro e w1 ⟨rfl, hb1⟩
      have HB1 := Lib.hid hb1
      clear hb1
      go_wp2_with fail
      refine (ksum_f HB.out _).mono ?_
      rintro e w2 ⟨rfl, hb2⟩
      have HB2 := Lib.hid (fbelow_t HB1.out hb2)
      clear hb2
      go_wp2_with fail
      refine (kalive_any _).mono ?_
      rintro e w9 ⟨rfl, hb9⟩
      go_wp2
      go_ret
      exact ⟨rfl, fbelow_t HB2.out hb9⟩
    · rw [Bool.and_eq_true] at hb
      obtain ⟨W, p, rfl, rfl, h1, h2, h3⟩ := rightC_nat hb.2
      have HB := Lib.hid hb.1
      have H1 := Lib.hid h1
      have H2 := Lib.hid h2
      have H3 := Lib.hid h3
      clear hb h1 h2 h3
      go_enter Try.func6, Try.ntmps6
      go_wp2_with fail
      refine (ksum_f HA.out _).mono ?_
      rintro e w1 ⟨rfl, hb1⟩
      have HB1 := Lib.hid hb1
      clear hb1
      go_wp2_with fail
      refine (ksum_t rfl HB.out H1.out H2.out H3.out _).mono ?_
      rintro e w2 ⟨rfl, hb2⟩
      have HB2 := Lib.hid (fbelow_t HB1.out hb2)
      clear hb2
      go_wp2_with fail
      refine (kalive_any _).mono ?_
      rintro e w9 ⟨rfl, hb9⟩
      go_wp2
      go_ret
      exact ⟨rfl, fbelow_t HB2.out hb9⟩
  rw [Bool.and_eq_true] at ha
  obtain ⟨W, p, rfl, rfl, h1, h2, h3⟩ := rightC_nat ha.2
  have HA := Lib.hid ha.1
  have H1 := Lib.hid h1
  have H2 := Lib.hid h2
  have H3 := Lib.hid h3
  obtain ⟨n, hn⟩ : ∃ n, feedC W p 0 (toB (byL a)) = n := ⟨_, rfl⟩
  have HN := Lib.hid hn
  have ha1 := ha.1
  clear ha h1 h2 h3
  cases hb : bitsB (byL b)
  · have HB : Hid ((bitsB (byL b) && rightC W p) = false) := Lib.hid (by rw [hb]; rfl)
    clear hb ha1 hn
    go_enter Try.func6, Try.ntmps6
    go_wp2_with fail
    refine (ksum_t HN.out HA.out H1.out H2.out H3.out _).mono ?_
    rintro e w1 ⟨rfl, hb1⟩
    have HB1 := Lib.hid hb1
    clear hb1
    go_wp2_with fail
    refine (ksum_f HB.out _).mono ?_
    rintro e w2 ⟨rfl, hb2⟩
    have HB2 := Lib.hid (fbelow_t HB1.out hb2)
    clear hb2
    go_wp2_with fail
    refine (kalive_any _).mono ?_
    rintro e w9 ⟨rfl, hb9⟩
    go_wp2
    go_ret
    exact ⟨rfl, fbelow_t HB2.out hb9⟩
  have HB := Lib.hid hb
  have HSB : Hid (b.size ≤ 100000) := Lib.hid (by rw [← HE.out]; exact HSA.out)
  obtain ⟨m, hm⟩ : ∃ m, feedC W p 0 (toB (byL b)) = m := ⟨_, rfl⟩
  have HM := Lib.hid hm
  obtain ⟨t, ht⟩ : ∃ t, strOfNums (addI (byL a) (byL b)) = t := ⟨_, rfl⟩
  obtain ⟨k1, k2, k3, _⟩ := add_str ha1 hb HE.out ht
  have HT := Lib.hid k1
  have HT3 := Lib.hid k3
  have HT2 : Hid (feedC W p 0 (toB (byL t)) = n ^^^ m) := Lib.hid (by
    have h := feed_xor W p (toB (byL a)) (toB (byL b)) 0 0 (by rw [toB_len, toB_len, byL_len, byL_len]; exact HE.out)
    rw [k2, toB_addI ha1 hb]
    rw [Nat.xor_self, hn, hm] at h
    exact h)
  have hx : bits .xor .i64 (n : Int) (m : Int) = ((n ^^^ m : Nat) : Int) := by
    have e1 := feed_lt H3.out (toB (byL a)) 0 (Nat.two_pow_pos W)
    have e2 := feed_lt H3.out (toB (byL b)) 0 (Nat.two_pow_pos W)
    have e3 := pow30 H2.out
    exact i64_xor n m (by omega) (by omega)
  obtain ⟨q, hq⟩ : ∃ q, n ^^^ m = q := ⟨_, rfl⟩
  rw [hq] at hx HT2
  have eq_ : ((q : Int) == (q : Int)) = true := by simp
  clear ha1 hn hb hm ht k1 k2 k3 hq
  go_enter Try.func6, Try.ntmps6
  go_wp2_with fail
  refine (ksum_t HN.out HA.out H1.out H2.out H3.out _).mono ?_
  rintro e w1 ⟨rfl, hb1⟩
  have HB1 := Lib.hid hb1
  clear hb1
  go_wp2_with fail
  refine (ksum_t HM.out HB.out H1.out H2.out H3.out _).mono ?_
  rintro e w2 ⟨rfl, hb2⟩
  have HB2 := Lib.hid (fbelow_t HB1.out hb2)
  clear hb2
  go_wp2_with fail
  refine (kadd_v HT.out HSA.out HSB.out _).mono ?_
  rintro e w3 ⟨rfl, hb3⟩
  have HB3 := Lib.hid (fbelow_t HB2.out hb3)
  clear hb3
  go_wp2_with fail
  refine (ksum_t HT2.out HT3.out H1.out H2.out H3.out _).mono ?_
  rintro e w4 ⟨rfl, hb4⟩
  have HB4 := Lib.hid (fbelow_t HB3.out hb4)
  clear hb4
  go_wp2_with fail
  refine (kalive_any _).mono ?_
  rintro e w9 ⟨rfl, hb9⟩
  go_wp2
  go_ret
  exact ⟨rfl, fbelow_t HB4.out hb9⟩

end Go.Proofs.Ytfjebggekghgkaa
