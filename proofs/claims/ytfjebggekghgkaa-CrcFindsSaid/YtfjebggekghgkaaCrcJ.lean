/- Crc: walk of CrcFinds. -/
import Derived.Test.YtfjebggekghgkaaCrcI
namespace Go.Proofs.Ytfjebggekghgkaa
open Go.RowKit
set_option linter.unusedVariables false

/-! ### cuts -/
theorem cut_mid {s : ByteArray} {k l : Nat} (h : k + l ≤ s.size) (w : World) : (Instr.sliceAt 9 (.string s) (some (.int .i64 (k : Int))) (some (.int .i64 ((k : Int) + (l : Int)))) none).run Try.prog w = .ok (.string (s.extract k (k + l))) w := by
  have e0 : 0 ≤ (k : Int) + (l : Int) := by omega
  have e1 : (k : Int) ≤ (k : Int) + (l : Int) := by omega
  have e2 : (k : Int) + (l : Int) ≤ (s.size : Int) := by omega
  have e3 : ((k : Int) + (l : Int)).toNat = k + l := by omega
  simp [go_sem, e0, e1, e2, e3]
theorem cut_rest {s : ByteArray} {k l : Nat} (h : k + l ≤ s.size) (w : World) : (Instr.sliceAt 9 (.string s) (some (.int .i64 ((k : Int) + (l : Int)))) none none).run Try.prog w = .ok (.string (s.extract (k + l) s.size)) w := by
  have e0 : 0 ≤ (k : Int) + (l : Int) := by omega
  have e2 : (k : Int) + (l : Int) ≤ (s.size : Int) := by omega
  have e3 : ((k : Int) + (l : Int)).toNat = k + l := by omega
  simp [go_sem, e0, e2, e3]
theorem parts_of {s : ByteArray} {k l : Nat} (h : k + l ≤ s.size) : byL s = byL (s.extract 0 k) ++ byL (s.extract k (k + l)) ++ byL (s.extract (k + l) s.size) := by
  rw [byL_extract, byL_extract, byL_extract, List.drop_zero, List.take_of_length_le (l := byL s) (i := s.size) (by rw [byL_len]; omega), List.drop_take, show k + l - k = l by omega]
  rw [List.append_assoc, ← List.drop_drop, List.take_append_drop, List.take_append_drop]

theorem toB_inj {A B : List Int} (hA : bitsB A = true) (hB : bitsB B = true) (h : toB A = toB B) : A = B := by rw [← C_toB hA, ← C_toB hB, h]
/-- what is turned: a text and one turned in its midst -/
theorem finds_iff {s t A B X C : ByteArray} {w p : Nat} (hw : 1 ≤ w) (ho : p % 2 = 1) (hp : p < 2 ^ w) (hs : byL s = byL A ++ byL B ++ byL C) (ht : byL t = byL A ++ byL X ++ byL C) (hb : bitsB (byL B) = true) (hx : bitsB (byL X) = true)
    (hl : B.size = X.size) (hlw : B.size ≤ w) : feedC w p 0 (toB (byL s)) = feedC w p 0 (toB (byL t)) ↔ s = t := by
  rw [hs, ht, toB_app, toB_app, toB_app, toB_app, feed_found hw ho hp _ _ _ _ (by rw [toB_len, toB_len, byL_len, byL_len, hl]) (by rw [toB_len, byL_len]; exact hlw)]
  constructor
  · intro h
    apply byL_inj
    rw [hs, ht, toB_inj hb hx h]
  · intro h
    subst h
    have h2 : byL A ++ byL B ++ byL C = byL A ++ byL X ++ byL C := hs.symm.trans ht
    rw [List.append_assoc, List.append_assoc] at h2
    have h3 := List.append_cancel_right (List.append_cancel_left h2)
    rw [h3]
theorem bits_parts {A B C : List Int} (h : bitsB (A ++ B ++ C) = true) : bitsB A = true ∧ bitsB B = true ∧ bitsB C = true := by
  rw [bitsB_app, bitsB_app, Bool.and_eq_true, Bool.and_eq_true] at h
  exact ⟨h.1.1, h.1.2, h.2⟩
theorem beq_nat (a b : Nat) : ((a : Int) == (b : Int)) = decide (a = b) := by
  rw [Bool.eq_iff_iff]; simp; omega
theorem ext_size {s : ByteArray} {k l : Nat} (h : k + l ≤ s.size) : (s.extract k (k + l)).size = l := by rw [← byL_len, byL_extract, List.length_drop, List.length_take, byL_len]; omega

set_option maxHeartbeats 4000000 in
theorem crcFinds_walk (s d : ByteArray) (z x y : Int) (ws : s.size ≤ maxLen) (wd : d.size ≤ maxLen) (wz : (Lit.int .i64 z).wf = true) (wx : (Lit.int .i64 x).wf = true) (wy : (Lit.int .i64 y).wf = true) (w : World) :
    Calls Try.prog 7 #[.string s, .string d, .int .i64 z, .int .i64 x, .int .i64 y] w fun e w' => e = .returned (.bool true) ∧ Below w.heap.size w w' := by
  have HMS := Lib.hid ws
  have HMD := Lib.hid wd
  have hd1 : (d.size : Int) ≤ 9223372036854775807 := by unfold maxLen at wd; omega
  obtain ⟨hz0, hz1⟩ := Go.bounds_i64 wz
  obtain ⟨hy0, hy1⟩ := Go.bounds_i64 wy
  clear ws wd wz wx wy
  by_cases hl : (600 : Int) < s.size
  · go_enter Try.func7, Try.ntmps7
    go_wp2_with fail
    refine (kalive_any _).mono ?_
    rintro e w1 ⟨rfl, hb1⟩
    go_wp2
    go_ret
    exact ⟨rfl, hb1⟩
  have hs1 : (s.size : Int) ≤ 600 := by omega
  clear hl
  cases hq : bitsB (byL s)
  · have HS := Lib.hid hq
    clear hq
    go_enter Try.func7, Try.ntmps7
    go_wp2_with fail
    refine (sright_v HS.out HMS.out _).mono ?_
    rintro e w1 ⟨rfl, rfl⟩
    go_wp2_with fail
    refine (kalive_any _).mono ?_
    rintro e w1 ⟨rfl, hb1⟩
    go_wp2
    go_ret
    exact ⟨rfl, hb1⟩
  have HS := Lib.hid hq
  cases hq2 : bitsB (byL d)
  · have HD := Lib.hid hq2
    clear hq hq2
    go_enter Try.func7, Try.ntmps7
    go_wp2_with fail
    refine (sright_v HS.out HMS.out _).mono ?_
    rintro e w1 ⟨rfl, rfl⟩
    go_wp2_with fail
    refine (sright_v HD.out HMD.out _).mono ?_
    rintro e w1 ⟨rfl, rfl⟩
    go_wp2_with fail
    refine (kalive_any _).mono ?_
    rintro e w1 ⟨rfl, hb1⟩
    go_wp2
    go_ret
    exact ⟨rfl, hb1⟩
  have HD := Lib.hid hq2
  by_cases h1 : z < 0
  · clear hq hq2
    go_enter Try.func7, Try.ntmps7
    go_wp2_with fail
    refine (sright_v HS.out HMS.out _).mono ?_
    rintro e w1 ⟨rfl, rfl⟩
    go_wp2_with fail
    refine (sright_v HD.out HMD.out _).mono ?_
    rintro e w1 ⟨rfl, rfl⟩
    go_wp2_with fail
    refine (kalive_any _).mono ?_
    rintro e w1 ⟨rfl, hb1⟩
    go_wp2
    go_ret
    exact ⟨rfl, hb1⟩
  obtain ⟨k, rfl⟩ := Int.eq_ofNat_of_zero_le (show 0 ≤ z by omega)
  clear h1 hz0
  by_cases h2 : (s.size : Int) < d.size
  · clear hq hq2
    go_enter Try.func7, Try.ntmps7
    go_wp2_with fail
    refine (sright_v HS.out HMS.out _).mono ?_
    rintro e w1 ⟨rfl, rfl⟩
    go_wp2_with fail
    refine (sright_v HD.out HMD.out _).mono ?_
    rintro e w1 ⟨rfl, rfl⟩
    go_wp2_with fail
    refine (kalive_any _).mono ?_
    rintro e w1 ⟨rfl, hb1⟩
    go_wp2
    go_ret
    exact ⟨rfl, hb1⟩
  have h2' : (d.size : Int) ≤ s.size := by omega
  clear h2
  by_cases h3 : (s.size : Int) - d.size < k
  · clear hq hq2
    go_enter Try.func7, Try.ntmps7
    go_wp2_with fail
    refine (sright_v HS.out HMS.out _).mono ?_
    rintro e w1 ⟨rfl, rfl⟩
    go_wp2_with fail
    refine (sright_v HD.out HMD.out _).mono ?_
    rintro e w1 ⟨rfl, rfl⟩
    go_wp2_with fail
    refine (kalive_any _).mono ?_
    rintro e w1 ⟨rfl, hb1⟩
    go_wp2
    go_ret
    exact ⟨rfl, hb1⟩
  have h3' : (k : Int) ≤ (s.size : Int) - d.size := by omega
  clear h3
  cases hr : rightC x y
  · have HR := Lib.hid hr
    clear hq hq2 hr
    go_enter Try.func7, Try.ntmps7
    go_wp2_with fail
    refine (sright_v HS.out HMS.out _).mono ?_
    rintro e w1 ⟨rfl, rfl⟩
    go_wp2_with fail
    refine (sright_v HD.out HMD.out _).mono ?_
    rintro e w1 ⟨rfl, rfl⟩
    go_wp2_with fail
    refine (wright_v HR.out _).mono ?_
    rintro e w1 ⟨rfl, rfl⟩
    go_wp2_with fail
    refine (kalive_any _).mono ?_
    rintro e w1 ⟨rfl, hb1⟩
    go_wp2
    go_ret
    exact ⟨rfl, hb1⟩
  have HR := Lib.hid hr
  obtain ⟨W, p, rfl, rfl, g1, g2, g3⟩ := rightC_nat hr
  clear hr hy0
  by_cases h4 : p % 2 = 0
  · have hp2 : (p : Int).tmod 2 = 0 := by rw [Int.tmod_eq_emod_of_nonneg (by omega)]; omega
    have hp3 : (((p : Int).tmod 2) == 0) = true := by rw [hp2]; rfl
    clear hq hq2 h4
    go_enter Try.func7, Try.ntmps7
    go_wp2_with fail
    refine (sright_v HS.out HMS.out _).mono ?_
    rintro e w1 ⟨rfl, rfl⟩
    go_wp2_with fail
    refine (sright_v HD.out HMD.out _).mono ?_
    rintro e w1 ⟨rfl, rfl⟩
    go_wp2_with fail
    refine (wright_v HR.out _).mono ?_
    rintro e w1 ⟨rfl, rfl⟩
    go_wp2_with fail
    refine (kalive_any _).mono ?_
    rintro e w1 ⟨rfl, hb1⟩
    go_wp2
    go_ret
    exact ⟨rfl, hb1⟩
  have hp2 : (p : Int).tmod 2 = 1 := by rw [Int.tmod_eq_emod_of_nonneg (by omega)]; omega
  have hp3 : (((p : Int).tmod 2) == 0) = false := by rw [hp2]; rfl
  have ho : p % 2 = 1 := by omega
  clear h4
  by_cases h5 : (W : Int) < d.size
  · clear hq hq2 ho
    go_enter Try.func7, Try.ntmps7
    go_wp2_with fail
    refine (sright_v HS.out HMS.out _).mono ?_
    rintro e w1 ⟨rfl, rfl⟩
    go_wp2_with fail
    refine (sright_v HD.out HMD.out _).mono ?_
    rintro e w1 ⟨rfl, rfl⟩
    go_wp2_with fail
    refine (wright_v HR.out _).mono ?_
    rintro e w1 ⟨rfl, rfl⟩
    go_wp2_with fail
    refine (kalive_any _).mono ?_
    rintro e w1 ⟨rfl, hb1⟩
    go_wp2
    go_ret
    exact ⟨rfl, hb1⟩
  have h5' : (d.size : Int) ≤ W := by omega
  clear h5
  have G1 := Lib.hid g1
  have G2 := Lib.hid g2
  have G3 := Lib.hid g3
  have hkl : k + d.size ≤ s.size := by omega
  have hsP := parts_of hkl
  have hBl := ext_size hkl
  have hc1 : ∀ w, (Instr.sliceAt 9 (.string s) none (some (.int .i64 (k : Int))) none).run Try.prog w = _ := fun w => cut_ahead (by omega) w
  have hc2 : ∀ w, (Instr.sliceAt 9 (.string s) (some (.int .i64 (k : Int))) (some (.int .i64 ((k : Int) + (d.size : Int)))) none).run Try.prog w = _ := fun w => cut_mid hkl w
  have hc3 : ∀ w, (Instr.sliceAt 9 (.string s) (some (.int .i64 ((k : Int) + (d.size : Int)))) none none).run Try.prog w = _ := fun w => cut_rest hkl w
  generalize s.extract 0 k = A at hsP hc1
  generalize s.extract k (k + d.size) = B at hsP hc2 hBl
  generalize s.extract (k + d.size) s.size = C at hsP hc3
  have hqp := hq
  rw [hsP] at hqp
  obtain ⟨qa, qb, qc⟩ := bits_parts hqp
  have hsz := congrArg List.length hsP
  rw [List.length_append, List.length_append, byL_len, byL_len, byL_len, byL_len] at hsz
  obtain ⟨X, hX⟩ : ∃ X, strOfNums (addI (byL B) (byL d)) = X := ⟨_, rfl⟩
  obtain ⟨k1, k2, k3, k4⟩ := add_str qb hq2 hBl hX
  have HADD := Lib.hid k1
  have HBS : Hid (B.size ≤ 100000) := Lib.hid (by omega)
  have HDS : Hid (d.size ≤ 100000) := Lib.hid (by omega)
  have hs2 : ¬ 9223372036854775807 < A.size + X.size := by omega
  have hz12 : (A ++ X).size = A.size + X.size := ByteArray.size_append ..
  obtain ⟨Y, hY⟩ : ∃ Y, A ++ X = Y := ⟨_, rfl⟩
  have hs3 : ¬ 9223372036854775807 < Y.size + C.size := by rw [← hY, hz12]; omega
  obtain ⟨t, ht⟩ : ∃ t, Y ++ C = t := ⟨_, rfl⟩
  have htP : byL t = byL A ++ byL X ++ byL C := by rw [← ht, ← hY, byL_app, byL_app]
  have HQT : Hid (bitsB (byL t) = true) := Lib.hid (by rw [htP, bitsB_app, bitsB_app, qa, k3, qc]; rfl)
  obtain ⟨n, hn⟩ : ∃ n, feedC W p 0 (toB (byL s)) = n := ⟨_, rfl⟩
  obtain ⟨m, hm⟩ : ∃ m, feedC W p 0 (toB (byL t)) = m := ⟨_, rfl⟩
  have HN := Lib.hid hn
  have HM := Lib.hid hm
  obtain ⟨c, hc⟩ : ∃ c, decide (s = t) = c := ⟨_, rfl⟩
  have ec : (s.toList == t.toList) = c := by rw [seq_beq, hc]
  have en : ((n : Int) == (m : Int)) = c := by
    have h := finds_iff g1 ho g3 hsP htP qb k3 k4.symm (by omega)
    rw [hn, hm] at h
    rw [beq_nat, ← hc, decide_eq_decide]
    exact h
  have cc : (c != c) = false := by simp
  have cc2 : (c == c) = true := by simp
  have hw1 : IntKind.i64.wrap ((k : Int) + (d.size : Int)) = (k : Int) + (d.size : Int) := by rw [IntKind.wrap_i64]; omega
  have HF15 : Hid (d.size ≤ 15 → (feedC 15 17817 0 (toB (byL s)) = feedC 15 17817 0 (toB (byL t)) ↔ s = t)) := Lib.hid (fun h15 => finds_iff (by decide) (by decide) (by decide) hsP htP qb k3 k4.symm (by omega))
  have HC := Lib.hid hc
  clear hq hq2 ho g1 g2 g3 hkl hsP hBl hqp qa qb qc hsz hX k1 k2 k3 k4 hz12 htP hn hm hc
  go_enter Try.func7, Try.ntmps7
  go_wp2_with fail
  refine (sright_v HS.out HMS.out _).mono ?_
  rintro e w1 ⟨rfl, rfl⟩
  go_wp2_with fail
  refine (sright_v HD.out HMD.out _).mono ?_
  rintro e w1 ⟨rfl, rfl⟩
  go_wp2_with fail
  refine (wright_v HR.out _).mono ?_
  rintro e w1 ⟨rfl, rfl⟩
  go_wp2_with fail
  refine wp_region_later (by kernel_rfl) (by kernel_rfl) ?_
  repeat (go_big_quiet_step (fail))
  go_big_quiet_step (exact Later.call (kadd_v HADD.out HBS.out HDS.out _))
  repeat (go_big_quiet_step (fail))
  refine wpQuiet_nil ?_
  rintro w1 ⟨l1, rfl⟩
  have HB1 := Lib.hid l1.h
  generalize l1.w = w1 at HB1 ⊢
  clear l1 hc1 hc2 hc3 hs2 hs3 hw1
  go_wp2_with fail
  refine (ksum_t HN.out HS.out G1.out G2.out G3.out _).mono ?_
  rintro e w2 ⟨rfl, hb2⟩
  have HB2 := Lib.hid (fbelow_t HB1.out hb2)
  clear hb2
  go_wp2_with fail
  refine (ksum_t HM.out HQT.out G1.out G2.out G3.out _).mono ?_
  rintro e w3 ⟨rfl, hb3⟩
  have HB3 := Lib.hid (fbelow_t HB2.out hb3)
  clear hb3
  by_cases h15 : (15 : Int) < d.size
  · go_wp2_with fail
    refine (kalive_any _).mono ?_
    rintro e w9 ⟨rfl, hb9⟩
    go_wp2
    go_ret
    exact ⟨rfl, fbelow_t HB3.out hb9⟩
  · have h15' : (d.size : Int) ≤ 15 := by omega
    clear h15
    obtain ⟨n5, hn5⟩ : ∃ n5, feedC 15 17817 0 (toB (byL s)) = n5 := ⟨_, rfl⟩
    obtain ⟨m5, hm5⟩ : ∃ m5, feedC 15 17817 0 (toB (byL t)) = m5 := ⟨_, rfl⟩
    have HN5 := Lib.hid hn5
    have HM5 := Lib.hid hm5
    have en5 : ((n5 : Int) == (m5 : Int)) = c := by
      have h := HF15.out (by omega)
      rw [hn5, hm5] at h
      rw [beq_nat, ← HC.out, decide_eq_decide]
      exact h
    clear hn5 hm5
    go_wp2_with fail
    refine (kcrc_t HN5.out HS.out _).mono ?_
    rintro e w4 ⟨rfl, hb4⟩
    have HB4 := Lib.hid (fbelow_t HB3.out hb4)
    clear hb4
    go_wp2_with fail
    refine (kcrc_t HM5.out HQT.out _).mono ?_
    rintro e w5 ⟨rfl, hb5⟩
    have HB5 := Lib.hid (fbelow_t HB4.out hb5)
    clear hb5
    go_wp2_with fail
    refine (kalive_any _).mono ?_
    rintro e w9 ⟨rfl, hb9⟩
    go_wp2
    go_ret
    exact ⟨rfl, fbelow_t HB5.out hb9⟩

end Go.Proofs.Ytfjebggekghgkaa
