/- Serial, the document's side: Hear of what was not sent. Worlds in which one old box alone may have turned; what a call throws. The shelf's contract of strings.Builder's WriteString, laid by hand with marks (any seat that has it). -/
import Derived.Test.YtfooigckcjbegaaDoorZal
import Derived.Test.YtfooigckcjbegaaDoorZag
import Derived.Test.YtfooigckcjbegaaDoorRows
import Derived.Shelf.Lays
import Derived.Shelf.Strings.Builder1
import Derived.Shelf.Strings.BuilderF
import Derived.Shelf.Strings.BuilderK
namespace Go.Proofs.YtfooigckcjbegaaDoor
open Go.RowKit
set_option linter.unusedVariables false

def TAIL : ByteArray := ByteArray.mk #[49, 48, 49, 49, 49, 49, 49, 49, 49, 49]
theorem unA_neg2 : ∀ (T out : List Int) (p : Int × Nat) (i : Nat), (unA out p i T).2 = -1 ∨ 0 ≤ (unA out p i T).2
  | [], out, p, i => by
    unfold unA
    split
    · exact .inr (Int.natCast_nonneg _)
    · exact .inl rfl
  | x :: T, out, p, i => by
    unfold unA
    split
    · exact .inr (Int.natCast_nonneg _)
    · split
      · split
        · exact .inr (Int.natCast_nonneg _)
        · exact unA_neg2 T _ _ _
      · exact unA_neg2 T _ _ _

set_option maxHeartbeats 4000000 in
theorem shear_f {s : ByteArray} (h : ∀ (i n l : Int) (d : ByteArray), plainF i n l d.size = true → sendL i n l (byL d) ≠ byL s) (hs : s.size ≤ 100000) (w : World) :
    Calls Tryd.prog 15 #[.string s] w fun e w' => e = .returned (.tuple #[.agg #[.int .i64 0, .int .i64 0, .int .i64 0, .string (ByteArray.mk #[])], .bool false]) ∧ Below w.heap.size w w' := by
  have HN := Lib.hid h
  have H0 := Lib.hid (H2.start w)
  clear h
  by_cases h10 : (s.size : Int) < 10
  · have hd : decide ((s.size : Int) - 10 < 0) = true := by simp; omega
    go_enter Tryd.func15, Tryd.ntmps15
    go_wp2
    refine bodyPost_ret (v := .tuple #[.agg #[.int .i64 0, .int .i64 0, .int .i64 0, .string (ByteArray.mk #[])], .bool false]) (by simp [results, Tryd.results15, go_sem]) rfl ⟨rfl, H0.out.below⟩
  obtain ⟨k, hk⟩ : ∃ k : Nat, s.size = k + 10 := ⟨s.size - 10, by omega⟩
  have hn : (s.size : Int) - 10 = (k : Int) := by omega
  have hc1 : ∀ w, (Instr.sliceAt 9 (.string s) (some (.int .i64 (k : Int))) none none).run Tryd.prog w = _ := fun w => cut_from (by omega) w
  have hc2 : ∀ w, (Instr.sliceAt 9 (.string s) none (some (.int .i64 (k : Int))) none).run Tryd.prog w = _ := fun w => cut_ahead (by omega) w
  obtain ⟨x, hx⟩ : ∃ x, s.extract k s.size = x := ⟨_, rfl⟩
  rw [hx] at hc1
  by_cases hxt : x = ByteArray.mk #[49, 48, 49, 49, 49, 49, 49, 49, 49, 49]
  rotate_left
  · have hx9 : (x.toList == [49, 48, 49, 49, 49, 49, 49, 49, 49, 49]) = false := by
      rw [beq_eq_false_iff_ne]
      exact fun e => hxt (ByteArray.ext (Array.toList_inj.1 (by rw [← ByteArray.toList_eq]; exact e)))
    clear hx h10
    go_enter Tryd.func15, Tryd.ntmps15
    go_wp2
    refine bodyPost_ret (v := .tuple #[.agg #[.int .i64 0, .int .i64 0, .int .i64 0, .string (ByteArray.mk #[])], .bool false]) (by simp [results, Tryd.results15, go_sem]) rfl ⟨rfl, H0.out.below⟩
  obtain ⟨T, hT⟩ : ∃ T, s.extract 0 k = T := ⟨_, rfl⟩
  rw [hT] at hc2
  have HTS : Hid (T.size ≤ 200000) := Lib.hid (by rw [← hT, ByteArray.size_extract]; omega)
  have hTs : T.size ≤ s.size := by rw [← hT, ByteArray.size_extract]; omega
  obtain ⟨R, hR⟩ : ∃ R, unL (byL T) = R := ⟨_, rfl⟩
  obtain ⟨L, at_⟩ := R
  have hneg : at_ = -1 ∨ 0 ≤ at_ := by have := unA_neg2 (byL T) [] (0, 0) 0; unfold unL at hR; rw [hR] at this; exact this
  have HR := Lib.hid hR
  obtain ⟨b, hb⟩ : ∃ b, strOfNums L = b := ⟨_, rfl⟩
  have HB := Lib.hid hb
  subst hxt
  rcases hneg with rfl | hat
  rotate_left
  · have hd : decide (0 ≤ at_) = true := by simpa using hat
    clear hx hT hTs hR hb h10 hat
    go_enter Tryd.func15, Tryd.ntmps15
    go_wp2_with fail
    refine (sunst_v HR.out HB.out HTS.out _).mono ?_
    rintro e w1 ⟨rfl, hb1⟩
    have HH := Lib.hid (H0.out.later hb1)
    clear hb1
    obtain ⟨a0, a1, a2, a3⟩ := HH.out.non.cells
    obtain ⟨r0, r1, r2, r3⟩ := HH.out.res.cells
    obtain ⟨f0, f1, f2, f3⟩ := HH.out.res.live
    have hz : w.heap.size + 1 < w1.heap.size := HH.out.non.lt
    go_wp2
    refine bodyPost_ret (v := .tuple #[.agg #[.int .i64 0, .int .i64 0, .int .i64 0, .string (ByteArray.mk #[])], .bool false]) (by simp [results, Tryd.results15, go_sem, r0, r1, r2, r3]) rfl ⟨rfl, HH.out.done _ _ _ _⟩
  have hub := un_back hR
  have hbL : byL b = L := by rw [← hb, byL_nums (isBy_bits hub.1)]
  have HQB : Hid (bitsB (byL b) = true) := Lib.hid (by rw [hbL]; exact hub.1)
  have hbs : b.size ≤ T.size := by
    have h1 := (stuff_len L).2
    rw [hub.2, ← hbL, byL_len, byL_len] at h1
    exact h1
  have HBS : Hid (b.size ≤ 100000) := Lib.hid (by omega)
  have hb4 : (b.size : Int) ≤ 100000 := by omega
  clear hx hT hTs hR hb h10 hub hbL hbs
  by_cases h34 : (b.size : Int) < 34
  · go_enter Tryd.func15, Tryd.ntmps15
    go_wp2_with fail
    refine (sunst_v HR.out HB.out HTS.out _).mono ?_
    rintro e w1 ⟨rfl, hb1⟩
    have HH := Lib.hid (H0.out.later hb1)
    clear hb1
    obtain ⟨a0, a1, a2, a3⟩ := HH.out.non.cells
    obtain ⟨r0, r1, r2, r3⟩ := HH.out.res.cells
    obtain ⟨f0, f1, f2, f3⟩ := HH.out.res.live
    have hz : w.heap.size + 1 < w1.heap.size := HH.out.non.lt
    go_wp2
    refine bodyPost_ret (v := .tuple #[.agg #[.int .i64 0, .int .i64 0, .int .i64 0, .string (ByteArray.mk #[])], .bool false]) (by simp [results, Tryd.results15, go_sem, r0, r1, r2, r3]) rfl ⟨rfl, HH.out.done _ _ _ _⟩
  have h34' : (34 : Int) ≤ b.size := by omega
  clear h34
  obtain ⟨v13, hv13⟩ : ∃ v, numAt (byL b) 13 1 = v := ⟨_, rfl⟩
  have V13 := Lib.hid hv13
  obtain ⟨v130, v131⟩ : -1 ≤ v13 ∧ v13 < 2 ^ 1 := by rw [← hv13]; exact numAt_bd (by decide)
  clear hv13
  by_cases h13 : v13 = 1
  · obtain ⟨hi, hhi⟩ : ∃ v, numAt (byL b) 1 11 = v := ⟨_, rfl⟩
    have HI_ := Lib.hid hhi
    obtain ⟨hi0, hi1⟩ : -1 ≤ hi ∧ hi < 2048 := by have := numAt_bd (b := byL b) (k := 1) (m := 11) (by decide); rw [hhi] at this; omega
    clear hhi
    obtain ⟨lo, hlo⟩ : ∃ v, numAt (byL b) 14 18 = v := ⟨_, rfl⟩
    have LO_ := Lib.hid hlo
    obtain ⟨lo0, lo1⟩ : -1 ≤ lo ∧ lo < 262144 := by have := numAt_bd (b := byL b) (k := 14) (m := 18) (by decide); rw [hlo] at this; omega
    clear hlo
    obtain ⟨v12, hv12⟩ : ∃ v, numAt (byL b) 12 1 = v := ⟨_, rfl⟩
    have V12 := Lib.hid hv12
    obtain ⟨v120, v121⟩ : -1 ≤ v12 ∧ v12 < 2 ^ 1 := by rw [← hv12]; exact numAt_bd (by decide)
    clear hv12
    obtain ⟨v2, hv2⟩ : ∃ v, numAt (byL b) 32 1 = v := ⟨_, rfl⟩
    have V2 := Lib.hid hv2
    obtain ⟨v20, v21⟩ : -1 ≤ v2 ∧ v2 < 2 ^ 1 := by rw [← hv2]; exact numAt_bd (by decide)
    clear hv2
    obtain ⟨v4, hv4⟩ : ∃ v, numAt (byL b) 35 4 = v := ⟨_, rfl⟩
    have V4 := Lib.hid hv4
    obtain ⟨v40, v41⟩ : -1 ≤ v4 ∧ v4 < 2 ^ 4 := by rw [← hv4]; exact numAt_bd (by decide)
    clear hv4
    subst h13
    by_cases hl0 : v4 < 0 ∨ 8 < v4
    · rcases hl0 with hl0 | hl0
      · go_enter Tryd.func15, Tryd.ntmps15
        go_wp2_with fail
        refine (sunst_v HR.out HB.out HTS.out _).mono ?_
        rintro e w1 ⟨rfl, hb1⟩
        have HH := Lib.hid (H0.out.later hb1)
        clear hb1
        go_wp2_with fail
        refine (snum_v (k := 1) (m := 11) HI_.out HQB.out HBS.out (by decide) (by decide) _).mono ?_
        rintro e w2 ⟨rfl, rfl⟩
        go_wp2_with fail
        refine (snum_v (k := 12) (m := 1) V12.out HQB.out HBS.out (by decide) (by decide) _).mono ?_
        rintro e w2 ⟨rfl, rfl⟩
        go_wp2_with fail
        refine (snum_v (k := 13) (m := 1) V13.out HQB.out HBS.out (by decide) (by decide) _).mono ?_
        rintro e w2 ⟨rfl, rfl⟩
        go_wp2_with fail
        refine (snum_v (k := 1) (m := 11) HI_.out HQB.out HBS.out (by decide) (by decide) _).mono ?_
        rintro e w2 ⟨rfl, rfl⟩
        go_wp2_with fail
        refine (snum_v (k := 14) (m := 18) LO_.out HQB.out HBS.out (by decide) (by decide) _).mono ?_
        rintro e w2 ⟨rfl, rfl⟩
        go_wp2_with fail
        refine (snum_v (k := 32) (m := 1) V2.out HQB.out HBS.out (by decide) (by decide) _).mono ?_
        rintro e w2 ⟨rfl, rfl⟩
        go_wp2_with fail
        refine (snum_v (k := 35) (m := 4) V4.out HQB.out HBS.out (by decide) (by decide) _).mono ?_
        rintro e w2 ⟨rfl, rfl⟩
        have HI := Lib.hid (HL.made HH.out (hi * 262144 + lo) 1 v4 (ByteArray.mk #[]))
        obtain ⟨a0, a1, a2, a3⟩ := HI.out.h2.non.cells
        obtain ⟨r0, r1, r2, r3⟩ := HI.out.h2.res.cells
        obtain ⟨f0, f1, f2, f3⟩ := HI.out.h2.res.live
        have hz : w.heap.size + 1 < w1.heap.size := HH.out.non.lt
        go_wp2
        refine bodyPost_ret (v := .tuple #[.agg #[.int .i64 0, .int .i64 0, .int .i64 0, .string (ByteArray.mk #[])], .bool false]) (by simp [results, Tryd.results15, go_sem, r0, r1, r2, r3]) rfl ⟨rfl, HI.out.h2.done _ _ _ _⟩
      · have hl00 : ¬ v4 < 0 := by omega
        go_enter Tryd.func15, Tryd.ntmps15
        go_wp2_with fail
        refine (sunst_v HR.out HB.out HTS.out _).mono ?_
        rintro e w1 ⟨rfl, hb1⟩
        have HH := Lib.hid (H0.out.later hb1)
        clear hb1
        go_wp2_with fail
        refine (snum_v (k := 1) (m := 11) HI_.out HQB.out HBS.out (by decide) (by decide) _).mono ?_
        rintro e w2 ⟨rfl, rfl⟩
        go_wp2_with fail
        refine (snum_v (k := 12) (m := 1) V12.out HQB.out HBS.out (by decide) (by decide) _).mono ?_
        rintro e w2 ⟨rfl, rfl⟩
        go_wp2_with fail
        refine (snum_v (k := 13) (m := 1) V13.out HQB.out HBS.out (by decide) (by decide) _).mono ?_
        rintro e w2 ⟨rfl, rfl⟩
        go_wp2_with fail
        refine (snum_v (k := 1) (m := 11) HI_.out HQB.out HBS.out (by decide) (by decide) _).mono ?_
        rintro e w2 ⟨rfl, rfl⟩
        go_wp2_with fail
        refine (snum_v (k := 14) (m := 18) LO_.out HQB.out HBS.out (by decide) (by decide) _).mono ?_
        rintro e w2 ⟨rfl, rfl⟩
        go_wp2_with fail
        refine (snum_v (k := 32) (m := 1) V2.out HQB.out HBS.out (by decide) (by decide) _).mono ?_
        rintro e w2 ⟨rfl, rfl⟩
        go_wp2_with fail
        refine (snum_v (k := 35) (m := 4) V4.out HQB.out HBS.out (by decide) (by decide) _).mono ?_
        rintro e w2 ⟨rfl, rfl⟩
        have HI := Lib.hid (HL.made HH.out (hi * 262144 + lo) 1 v4 (ByteArray.mk #[]))
        obtain ⟨a0, a1, a2, a3⟩ := HI.out.h2.non.cells
        obtain ⟨r0, r1, r2, r3⟩ := HI.out.h2.res.cells
        obtain ⟨f0, f1, f2, f3⟩ := HI.out.h2.res.live
        have hz : w.heap.size + 1 < w1.heap.size := HH.out.non.lt
        go_wp2
        refine bodyPost_ret (v := .tuple #[.agg #[.int .i64 0, .int .i64 0, .int .i64 0, .string (ByteArray.mk #[])], .bool false]) (by simp [results, Tryd.results15, go_sem, r0, r1, r2, r3]) rfl ⟨rfl, HI.out.h2.done _ _ _ _⟩
    have hl0' : 0 ≤ v4 := by omega
    have hl8' : v4 ≤ 8 := by omega
    clear hl0
    by_cases h2 : v2 = 1
    · subst h2
      go_enter Tryd.func15, Tryd.ntmps15
      go_wp2_with fail
      refine (sunst_v HR.out HB.out HTS.out _).mono ?_
      rintro e w1 ⟨rfl, hb1⟩
      have HH := Lib.hid (H0.out.later hb1)
      clear hb1
      go_wp2_with fail
      refine (snum_v (k := 1) (m := 11) HI_.out HQB.out HBS.out (by decide) (by decide) _).mono ?_
      rintro e w2 ⟨rfl, rfl⟩
      go_wp2_with fail
      refine (snum_v (k := 12) (m := 1) V12.out HQB.out HBS.out (by decide) (by decide) _).mono ?_
      rintro e w2 ⟨rfl, rfl⟩
      go_wp2_with fail
      refine (snum_v (k := 13) (m := 1) V13.out HQB.out HBS.out (by decide) (by decide) _).mono ?_
      rintro e w2 ⟨rfl, rfl⟩
      go_wp2_with fail
      refine (snum_v (k := 1) (m := 11) HI_.out HQB.out HBS.out (by decide) (by decide) _).mono ?_
      rintro e w2 ⟨rfl, rfl⟩
      go_wp2_with fail
      refine (snum_v (k := 14) (m := 18) LO_.out HQB.out HBS.out (by decide) (by decide) _).mono ?_
      rintro e w2 ⟨rfl, rfl⟩
      go_wp2_with fail
      refine (snum_v (k := 32) (m := 1) V2.out HQB.out HBS.out (by decide) (by decide) _).mono ?_
      rintro e w2 ⟨rfl, rfl⟩
      go_wp2_with fail
      refine (snum_v (k := 35) (m := 4) V4.out HQB.out HBS.out (by decide) (by decide) _).mono ?_
      rintro e w2 ⟨rfl, rfl⟩
      have HI := Lib.hid (HL.made HH.out (hi * 262144 + lo) 3 v4 (ByteArray.mk #[]))
      obtain ⟨a0, a1, a2, a3⟩ := HI.out.f.cells
      have hz : w1.heap.size < (w1.alloc (.cells #[.int .i64 (hi * 262144 + lo), .int .i64 3, .int .i64 v4, .string (ByteArray.mk #[])] 23)).heap.size := HI.out.f.lt
      obtain ⟨q, hq⟩ : ∃ q, plainF (hi * 262144 + lo) 3 v4 (ByteArray.mk #[]).size = q := ⟨_, rfl⟩
      have HQ := Lib.hid hq
      cases q
      · clear hq
        go_wp2_with fail
        refine (splain_v HQ.out _).mono ?_
        rintro e w4 ⟨rfl, hb4'⟩
        have HI2 := Lib.hid (HI.out.later hb4')
        clear hb4' a0 a1 a2 a3 hz
        obtain ⟨a0, a1, a2, a3⟩ := HI2.out.h2.non.cells
        obtain ⟨r0, r1, r2, r3⟩ := HI2.out.h2.res.cells
        obtain ⟨f0, f1, f2, f3⟩ := HI2.out.h2.res.live
        have hz : w.heap.size + 1 < w4.heap.size := HI2.out.h2.non.lt
        go_wp2
        refine bodyPost_ret (v := .tuple #[.agg #[.int .i64 0, .int .i64 0, .int .i64 0, .string (ByteArray.mk #[])], .bool false]) (by simp [results, Tryd.results15, go_sem, r0, r1, r2, r3]) rfl ⟨rfl, HI2.out.h2.done _ _ _ _⟩
      · have HP := Lib.hid (plain_parts hq)
        obtain ⟨u, hu⟩ : ∃ u, strOfNums (sendL (hi * 262144 + lo) 3 v4 (byL (ByteArray.mk #[]))) = u := ⟨_, rfl⟩
        have HU := Lib.hid hu
        have hus : (u.toList == s.toList) = false := by
          rw [seq_beq, decide_eq_false_iff_not]
          intro e
          apply HN.out (hi * 262144 + lo) 3 v4 (ByteArray.mk #[]) hq
          rw [← e, ← hu, byL_nums (isBy_bits (sendL_bits ..))]
        clear hq hu
        go_wp2_with fail
        refine (splain_v HQ.out _).mono ?_
        rintro e w4 ⟨rfl, hb4'⟩
        have HI2 := Lib.hid (HI.out.later hb4')
        clear hb4' a0 a1 a2 a3 hz
        obtain ⟨a0, a1, a2, a3⟩ := HI2.out.f.cells
        have hz : w1.heap.size < w4.heap.size := HI2.out.f.lt
        go_wp2_with fail
        refine (ssend_v HP.out HU.out _).mono ?_
        rintro e w5 ⟨rfl, hb5'⟩
        have HI3 := Lib.hid (HI2.out.later hb5')
        clear hb5' a0 a1 a2 a3 hz
        obtain ⟨a0, a1, a2, a3⟩ := HI3.out.h2.non.cells
        obtain ⟨r0, r1, r2, r3⟩ := HI3.out.h2.res.cells
        obtain ⟨f0, f1, f2, f3⟩ := HI3.out.h2.res.live
        have hz : w.heap.size + 1 < w5.heap.size := HI3.out.h2.non.lt
        go_wp2
        refine bodyPost_ret (v := .tuple #[.agg #[.int .i64 0, .int .i64 0, .int .i64 0, .string (ByteArray.mk #[])], .bool false]) (by simp [results, Tryd.results15, go_sem, r0, r1, r2, r3]) rfl ⟨rfl, HI3.out.h2.done _ _ _ _⟩
    · have e2 : (v2 == 1) = false := by simpa using h2
      clear h2
      obtain ⟨m, rfl⟩ := Int.eq_ofNat_of_zero_le hl0'
      go_enter Tryd.func15, Tryd.ntmps15
      go_wp2_with fail
      refine (sunst_v HR.out HB.out HTS.out _).mono ?_
      rintro e w1 ⟨rfl, hb1⟩
      have HH := Lib.hid (H0.out.later hb1)
      clear hb1
      go_wp2_with fail
      refine (snum_v (k := 1) (m := 11) HI_.out HQB.out HBS.out (by decide) (by decide) _).mono ?_
      rintro e w2 ⟨rfl, rfl⟩
      go_wp2_with fail
      refine (snum_v (k := 12) (m := 1) V12.out HQB.out HBS.out (by decide) (by decide) _).mono ?_
      rintro e w2 ⟨rfl, rfl⟩
      go_wp2_with fail
      refine (snum_v (k := 13) (m := 1) V13.out HQB.out HBS.out (by decide) (by decide) _).mono ?_
      rintro e w2 ⟨rfl, rfl⟩
      go_wp2_with fail
      refine (snum_v (k := 1) (m := 11) HI_.out HQB.out HBS.out (by decide) (by decide) _).mono ?_
      rintro e w2 ⟨rfl, rfl⟩
      go_wp2_with fail
      refine (snum_v (k := 14) (m := 18) LO_.out HQB.out HBS.out (by decide) (by decide) _).mono ?_
      rintro e w2 ⟨rfl, rfl⟩
      go_wp2_with fail
      refine (snum_v (k := 32) (m := 1) V2.out HQB.out HBS.out (by decide) (by decide) _).mono ?_
      rintro e w2 ⟨rfl, rfl⟩
      go_wp2_with fail
      refine (snum_v (k := 35) (m := 4) V4.out HQB.out HBS.out (by decide) (by decide) _).mono ?_
      rintro e w2 ⟨rfl, rfl⟩
      go_wp2_with fail
      have HLL := Lib.hid (HL.made HH.out (hi * 262144 + lo) 1 (m : Int) (ByteArray.mk #[]))
      have hcv := conv1
      go_loopw [11] (fun v wr => ∃ (x : Nat) (t : ByteArray), x ≤ m ∧ v = .int .i64 x ∧ t.size = x ∧ Hid (HL w w1.heap.size (hi * 262144 + lo) 1 (m : Int) t wr)) (fun v _ => m - (intOf v).toNat)
      case atStart => exact ⟨0, ByteArray.mk #[], Nat.zero_le _, rfl, rfl, HLL⟩
      case round =>
        obtain ⟨x, t, hx, rfl, hts, HI⟩ := hrel
        obtain ⟨a0, a1, a2, a3⟩ := HI.out.f.cells
        have hz : w1.heap.size < wr.heap.size := HI.out.f.lt
        by_cases hlt : x < m
        · obtain ⟨c, hc⟩ : ∃ c, numAt (byL b) (39 + 8 * x) 8 = c := ⟨_, rfl⟩
          have HC := Lib.hid hc
          obtain ⟨c0, c1⟩ : -1 ≤ c ∧ c < 256 := by have := numAt_bd (b := byL b) (k := 39 + 8 * x) (m := 8) (by decide); rw [hc] at this; omega
          clear hc
          by_cases hcn : c < 0
          · clear a0 a1 a3
            obtain ⟨b0, b1, b2, b3⟩ := HI.out.h2.non.cells
            obtain ⟨r0, r1, r2, r3⟩ := HI.out.h2.res.cells
            obtain ⟨f0, f1, f2, f3⟩ := HI.out.h2.res.live
            have hy : w.heap.size + 1 < wr.heap.size := HI.out.h2.non.lt
            go_wp2_with fail
            refine (snum_i (k := 39 + 8 * x) (m := 8) (by omega) HC.out HQB.out HBS.out (by decide) (by omega) _).mono ?_
            rintro e w2 ⟨rfl, rfl⟩
            go_wp2
            refine bodyPost_ret (v := .tuple #[.agg #[.int .i64 0, .int .i64 0, .int .i64 0, .string (ByteArray.mk #[])], .bool false]) (by simp [results, Tryd.results15, go_sem, r0, r1, r2, r3]) rfl ⟨rfl, HI.out.h2.done _ _ _ _⟩
          · have hc0 : 0 ≤ c := by omega
            obtain ⟨f0, f1, f2, f3⟩ := HI.out.f.live
            have z1 : (strOfNums [c]).size = 1 := by rw [numsz]; rfl
            have hs1 : ¬ 9223372036854775807 < t.size + (strOfNums [c]).size := by omega
            clear hcn
            go_wp2_with fail
            refine (snum_i (k := 39 + 8 * x) (m := 8) (by omega) HC.out HQB.out HBS.out (by decide) (by omega) _).mono ?_
            rintro e w2 ⟨rfl, rfl⟩
            go_wp2_with fail
            go_roundw
            case rel => exact ⟨x + 1, t ++ strOfNums [c], by omega, by go_num, by rw [ByteArray.size_append]; omega, Lib.hid ((HI.out.set3 _).alloc _)⟩
            case measure => simp [intOf]; omega
        · obtain rfl : x = m := by omega
          obtain ⟨q, hq⟩ : ∃ q, plainF (hi * 262144 + lo) 1 (x : Int) (t).size = q := ⟨_, rfl⟩
          have HQ := Lib.hid hq
          cases q
          · clear hq
            go_wp2_with fail
            refine (splain_v HQ.out _).mono ?_
            rintro e w4 ⟨rfl, hb4'⟩
            have HI2 := Lib.hid (HI.out.later hb4')
            clear hb4' a0 a1 a2 a3 hz
            obtain ⟨a0, a1, a2, a3⟩ := HI2.out.h2.non.cells
            obtain ⟨r0, r1, r2, r3⟩ := HI2.out.h2.res.cells
            obtain ⟨f0, f1, f2, f3⟩ := HI2.out.h2.res.live
            have hz : w.heap.size + 1 < w4.heap.size := HI2.out.h2.non.lt
            go_wp2
            refine bodyPost_ret (v := .tuple #[.agg #[.int .i64 0, .int .i64 0, .int .i64 0, .string (ByteArray.mk #[])], .bool false]) (by simp [results, Tryd.results15, go_sem, r0, r1, r2, r3]) rfl ⟨rfl, HI2.out.h2.done _ _ _ _⟩
          · have HP := Lib.hid (plain_parts hq)
            obtain ⟨u, hu⟩ : ∃ u, strOfNums (sendL (hi * 262144 + lo) 1 (x : Int) (byL (t))) = u := ⟨_, rfl⟩
            have HU := Lib.hid hu
            have hus : (u.toList == s.toList) = false := by
              rw [seq_beq, decide_eq_false_iff_not]
              intro e
              apply HN.out (hi * 262144 + lo) 1 (x : Int) (t) hq
              rw [← e, ← hu, byL_nums (isBy_bits (sendL_bits ..))]
            clear hq hu
            go_wp2_with fail
            refine (splain_v HQ.out _).mono ?_
            rintro e w4 ⟨rfl, hb4'⟩
            have HI2 := Lib.hid (HI.out.later hb4')
            clear hb4' a0 a1 a2 a3 hz
            obtain ⟨a0, a1, a2, a3⟩ := HI2.out.f.cells
            have hz : w1.heap.size < w4.heap.size := HI2.out.f.lt
            go_wp2_with fail
            refine (ssend_v HP.out HU.out _).mono ?_
            rintro e w5 ⟨rfl, hb5'⟩
            have HI3 := Lib.hid (HI2.out.later hb5')
            clear hb5' a0 a1 a2 a3 hz
            obtain ⟨a0, a1, a2, a3⟩ := HI3.out.h2.non.cells
            obtain ⟨r0, r1, r2, r3⟩ := HI3.out.h2.res.cells
            obtain ⟨f0, f1, f2, f3⟩ := HI3.out.h2.res.live
            have hz : w.heap.size + 1 < w5.heap.size := HI3.out.h2.non.lt
            go_wp2
            refine bodyPost_ret (v := .tuple #[.agg #[.int .i64 0, .int .i64 0, .int .i64 0, .string (ByteArray.mk #[])], .bool false]) (by simp [results, Tryd.results15, go_sem, r0, r1, r2, r3]) rfl ⟨rfl, HI3.out.h2.done _ _ _ _⟩
  · obtain ⟨v1, hv1⟩ : ∃ v, numAt (byL b) 1 11 = v := ⟨_, rfl⟩
    have V1 := Lib.hid hv1
    obtain ⟨v10, v11⟩ : -1 ≤ v1 ∧ v1 < 2 ^ 11 := by rw [← hv1]; exact numAt_bd (by decide)
    clear hv1
    obtain ⟨v2, hv2⟩ : ∃ v, numAt (byL b) 12 1 = v := ⟨_, rfl⟩
    have V2 := Lib.hid hv2
    obtain ⟨v20, v21⟩ : -1 ≤ v2 ∧ v2 < 2 ^ 1 := by rw [← hv2]; exact numAt_bd (by decide)
    clear hv2
    obtain ⟨v4, hv4⟩ : ∃ v, numAt (byL b) 15 4 = v := ⟨_, rfl⟩
    have V4 := Lib.hid hv4
    obtain ⟨v40, v41⟩ : -1 ≤ v4 ∧ v4 < 2 ^ 4 := by rw [← hv4]; exact numAt_bd (by decide)
    clear hv4
    have e13 : (v13 == 1) = false := by simpa using h13
    clear h13
    by_cases hl0 : v4 < 0 ∨ 8 < v4
    · rcases hl0 with hl0 | hl0
      · go_enter Tryd.func15, Tryd.ntmps15
        go_wp2_with fail
        refine (sunst_v HR.out HB.out HTS.out _).mono ?_
        rintro e w1 ⟨rfl, hb1⟩
        have HH := Lib.hid (H0.out.later hb1)
        clear hb1
        go_wp2_with fail
        refine (snum_v (k := 1) (m := 11) V1.out HQB.out HBS.out (by decide) (by decide) _).mono ?_
        rintro e w2 ⟨rfl, rfl⟩
        go_wp2_with fail
        refine (snum_v (k := 12) (m := 1) V2.out HQB.out HBS.out (by decide) (by decide) _).mono ?_
        rintro e w2 ⟨rfl, rfl⟩
        go_wp2_with fail
        refine (snum_v (k := 13) (m := 1) V13.out HQB.out HBS.out (by decide) (by decide) _).mono ?_
        rintro e w2 ⟨rfl, rfl⟩
        go_wp2_with fail
        refine (snum_v (k := 15) (m := 4) V4.out HQB.out HBS.out (by decide) (by decide) _).mono ?_
        rintro e w2 ⟨rfl, rfl⟩
        have HI := Lib.hid (HL.made HH.out v1 0 v4 (ByteArray.mk #[]))
        obtain ⟨a0, a1, a2, a3⟩ := HI.out.h2.non.cells
        obtain ⟨r0, r1, r2, r3⟩ := HI.out.h2.res.cells
        obtain ⟨f0, f1, f2, f3⟩ := HI.out.h2.res.live
        have hz : w.heap.size + 1 < w1.heap.size := HH.out.non.lt
        go_wp2
        refine bodyPost_ret (v := .tuple #[.agg #[.int .i64 0, .int .i64 0, .int .i64 0, .string (ByteArray.mk #[])], .bool false]) (by simp [results, Tryd.results15, go_sem, r0, r1, r2, r3]) rfl ⟨rfl, HI.out.h2.done _ _ _ _⟩
      · have hl00 : ¬ v4 < 0 := by omega
        go_enter Tryd.func15, Tryd.ntmps15
        go_wp2_with fail
        refine (sunst_v HR.out HB.out HTS.out _).mono ?_
        rintro e w1 ⟨rfl, hb1⟩
        have HH := Lib.hid (H0.out.later hb1)
        clear hb1
        go_wp2_with fail
        refine (snum_v (k := 1) (m := 11) V1.out HQB.out HBS.out (by decide) (by decide) _).mono ?_
        rintro e w2 ⟨rfl, rfl⟩
        go_wp2_with fail
        refine (snum_v (k := 12) (m := 1) V2.out HQB.out HBS.out (by decide) (by decide) _).mono ?_
        rintro e w2 ⟨rfl, rfl⟩
        go_wp2_with fail
        refine (snum_v (k := 13) (m := 1) V13.out HQB.out HBS.out (by decide) (by decide) _).mono ?_
        rintro e w2 ⟨rfl, rfl⟩
        go_wp2_with fail
        refine (snum_v (k := 15) (m := 4) V4.out HQB.out HBS.out (by decide) (by decide) _).mono ?_
        rintro e w2 ⟨rfl, rfl⟩
        have HI := Lib.hid (HL.made HH.out v1 0 v4 (ByteArray.mk #[]))
        obtain ⟨a0, a1, a2, a3⟩ := HI.out.h2.non.cells
        obtain ⟨r0, r1, r2, r3⟩ := HI.out.h2.res.cells
        obtain ⟨f0, f1, f2, f3⟩ := HI.out.h2.res.live
        have hz : w.heap.size + 1 < w1.heap.size := HH.out.non.lt
        go_wp2
        refine bodyPost_ret (v := .tuple #[.agg #[.int .i64 0, .int .i64 0, .int .i64 0, .string (ByteArray.mk #[])], .bool false]) (by simp [results, Tryd.results15, go_sem, r0, r1, r2, r3]) rfl ⟨rfl, HI.out.h2.done _ _ _ _⟩
    have hl0' : 0 ≤ v4 := by omega
    have hl8' : v4 ≤ 8 := by omega
    clear hl0
    by_cases h2 : v2 = 1
    · subst h2
      go_enter Tryd.func15, Tryd.ntmps15
      go_wp2_with fail
      refine (sunst_v HR.out HB.out HTS.out _).mono ?_
      rintro e w1 ⟨rfl, hb1⟩
      have HH := Lib.hid (H0.out.later hb1)
      clear hb1
      go_wp2_with fail
      refine (snum_v (k := 1) (m := 11) V1.out HQB.out HBS.out (by decide) (by decide) _).mono ?_
      rintro e w2 ⟨rfl, rfl⟩
      go_wp2_with fail
      refine (snum_v (k := 12) (m := 1) V2.out HQB.out HBS.out (by decide) (by decide) _).mono ?_
      rintro e w2 ⟨rfl, rfl⟩
      go_wp2_with fail
      refine (snum_v (k := 13) (m := 1) V13.out HQB.out HBS.out (by decide) (by decide) _).mono ?_
      rintro e w2 ⟨rfl, rfl⟩
      go_wp2_with fail
      refine (snum_v (k := 15) (m := 4) V4.out HQB.out HBS.out (by decide) (by decide) _).mono ?_
      rintro e w2 ⟨rfl, rfl⟩
      have HI := Lib.hid (HL.made HH.out v1 2 v4 (ByteArray.mk #[]))
      obtain ⟨a0, a1, a2, a3⟩ := HI.out.f.cells
      have hz : w1.heap.size < (w1.alloc (.cells #[.int .i64 v1, .int .i64 2, .int .i64 v4, .string (ByteArray.mk #[])] 23)).heap.size := HI.out.f.lt
      obtain ⟨q, hq⟩ : ∃ q, plainF v1 2 v4 (ByteArray.mk #[]).size = q := ⟨_, rfl⟩
      have HQ := Lib.hid hq
      cases q
      · clear hq
        go_wp2_with fail
        refine (splain_v HQ.out _).mono ?_
        rintro e w4 ⟨rfl, hb4'⟩
        have HI2 := Lib.hid (HI.out.later hb4')
        clear hb4' a0 a1 a2 a3 hz
        obtain ⟨a0, a1, a2, a3⟩ := HI2.out.h2.non.cells
        obtain ⟨r0, r1, r2, r3⟩ := HI2.out.h2.res.cells
        obtain ⟨f0, f1, f2, f3⟩ := HI2.out.h2.res.live
        have hz : w.heap.size + 1 < w4.heap.size := HI2.out.h2.non.lt
        go_wp2
        refine bodyPost_ret (v := .tuple #[.agg #[.int .i64 0, .int .i64 0, .int .i64 0, .string (ByteArray.mk #[])], .bool false]) (by simp [results, Tryd.results15, go_sem, r0, r1, r2, r3]) rfl ⟨rfl, HI2.out.h2.done _ _ _ _⟩
      · have HP := Lib.hid (plain_parts hq)
        obtain ⟨u, hu⟩ : ∃ u, strOfNums (sendL v1 2 v4 (byL (ByteArray.mk #[]))) = u := ⟨_, rfl⟩
        have HU := Lib.hid hu
        have hus : (u.toList == s.toList) = false := by
          rw [seq_beq, decide_eq_false_iff_not]
          intro e
          apply HN.out v1 2 v4 (ByteArray.mk #[]) hq
          rw [← e, ← hu, byL_nums (isBy_bits (sendL_bits ..))]
        clear hq hu
        go_wp2_with fail
        refine (splain_v HQ.out _).mono ?_
        rintro e w4 ⟨rfl, hb4'⟩
        have HI2 := Lib.hid (HI.out.later hb4')
        clear hb4' a0 a1 a2 a3 hz
        obtain ⟨a0, a1, a2, a3⟩ := HI2.out.f.cells
        have hz : w1.heap.size < w4.heap.size := HI2.out.f.lt
        go_wp2_with fail
        refine (ssend_v HP.out HU.out _).mono ?_
        rintro e w5 ⟨rfl, hb5'⟩
        have HI3 := Lib.hid (HI2.out.later hb5')
        clear hb5' a0 a1 a2 a3 hz
        obtain ⟨a0, a1, a2, a3⟩ := HI3.out.h2.non.cells
        obtain ⟨r0, r1, r2, r3⟩ := HI3.out.h2.res.cells
        obtain ⟨f0, f1, f2, f3⟩ := HI3.out.h2.res.live
        have hz : w.heap.size + 1 < w5.heap.size := HI3.out.h2.non.lt
        go_wp2
        refine bodyPost_ret (v := .tuple #[.agg #[.int .i64 0, .int .i64 0, .int .i64 0, .string (ByteArray.mk #[])], .bool false]) (by simp [results, Tryd.results15, go_sem, r0, r1, r2, r3]) rfl ⟨rfl, HI3.out.h2.done _ _ _ _⟩
    · have e2 : (v2 == 1) = false := by simpa using h2
      clear h2
      obtain ⟨m, rfl⟩ := Int.eq_ofNat_of_zero_le hl0'
      go_enter Tryd.func15, Tryd.ntmps15
      go_wp2_with fail
      refine (sunst_v HR.out HB.out HTS.out _).mono ?_
      rintro e w1 ⟨rfl, hb1⟩
      have HH := Lib.hid (H0.out.later hb1)
      clear hb1
      go_wp2_with fail
      refine (snum_v (k := 1) (m := 11) V1.out HQB.out HBS.out (by decide) (by decide) _).mono ?_
      rintro e w2 ⟨rfl, rfl⟩
      go_wp2_with fail
      refine (snum_v (k := 12) (m := 1) V2.out HQB.out HBS.out (by decide) (by decide) _).mono ?_
      rintro e w2 ⟨rfl, rfl⟩
      go_wp2_with fail
      refine (snum_v (k := 13) (m := 1) V13.out HQB.out HBS.out (by decide) (by decide) _).mono ?_
      rintro e w2 ⟨rfl, rfl⟩
      go_wp2_with fail
      refine (snum_v (k := 15) (m := 4) V4.out HQB.out HBS.out (by decide) (by decide) _).mono ?_
      rintro e w2 ⟨rfl, rfl⟩
      go_wp2_with fail
      have HLL := Lib.hid (HL.made HH.out v1 0 (m : Int) (ByteArray.mk #[]))
      have hcv := conv1
      go_loopw [11] (fun v wr => ∃ (x : Nat) (t : ByteArray), x ≤ m ∧ v = .int .i64 x ∧ t.size = x ∧ Hid (HL w w1.heap.size v1 0 (m : Int) t wr)) (fun v _ => m - (intOf v).toNat)
      case atStart => exact ⟨0, ByteArray.mk #[], Nat.zero_le _, rfl, rfl, HLL⟩
      case round =>
        obtain ⟨x, t, hx, rfl, hts, HI⟩ := hrel
        obtain ⟨a0, a1, a2, a3⟩ := HI.out.f.cells
        have hz : w1.heap.size < wr.heap.size := HI.out.f.lt
        by_cases hlt : x < m
        · obtain ⟨c, hc⟩ : ∃ c, numAt (byL b) (19 + 8 * x) 8 = c := ⟨_, rfl⟩
          have HC := Lib.hid hc
          obtain ⟨c0, c1⟩ : -1 ≤ c ∧ c < 256 := by have := numAt_bd (b := byL b) (k := 19 + 8 * x) (m := 8) (by decide); rw [hc] at this; omega
          clear hc
          by_cases hcn : c < 0
          · clear a0 a1 a3
            obtain ⟨b0, b1, b2, b3⟩ := HI.out.h2.non.cells
            obtain ⟨r0, r1, r2, r3⟩ := HI.out.h2.res.cells
            obtain ⟨f0, f1, f2, f3⟩ := HI.out.h2.res.live
            have hy : w.heap.size + 1 < wr.heap.size := HI.out.h2.non.lt
            go_wp2_with fail
            refine (snum_i (k := 19 + 8 * x) (m := 8) (by omega) HC.out HQB.out HBS.out (by decide) (by omega) _).mono ?_
            rintro e w2 ⟨rfl, rfl⟩
            go_wp2
            refine bodyPost_ret (v := .tuple #[.agg #[.int .i64 0, .int .i64 0, .int .i64 0, .string (ByteArray.mk #[])], .bool false]) (by simp [results, Tryd.results15, go_sem, r0, r1, r2, r3]) rfl ⟨rfl, HI.out.h2.done _ _ _ _⟩
          · have hc0 : 0 ≤ c := by omega
            obtain ⟨f0, f1, f2, f3⟩ := HI.out.f.live
            have z1 : (strOfNums [c]).size = 1 := by rw [numsz]; rfl
            have hs1 : ¬ 9223372036854775807 < t.size + (strOfNums [c]).size := by omega
            clear hcn
            go_wp2_with fail
            refine (snum_i (k := 19 + 8 * x) (m := 8) (by omega) HC.out HQB.out HBS.out (by decide) (by omega) _).mono ?_
            rintro e w2 ⟨rfl, rfl⟩
            go_wp2_with fail
            go_roundw
            case rel => exact ⟨x + 1, t ++ strOfNums [c], by omega, by go_num, by rw [ByteArray.size_append]; omega, Lib.hid ((HI.out.set3 _).alloc _)⟩
            case measure => simp [intOf]; omega
        · obtain rfl : x = m := by omega
          obtain ⟨q, hq⟩ : ∃ q, plainF v1 0 (x : Int) (t).size = q := ⟨_, rfl⟩
          have HQ := Lib.hid hq
          cases q
          · clear hq
            go_wp2_with fail
            refine (splain_v HQ.out _).mono ?_
            rintro e w4 ⟨rfl, hb4'⟩
            have HI2 := Lib.hid (HI.out.later hb4')
            clear hb4' a0 a1 a2 a3 hz
            obtain ⟨a0, a1, a2, a3⟩ := HI2.out.h2.non.cells
            obtain ⟨r0, r1, r2, r3⟩ := HI2.out.h2.res.cells
            obtain ⟨f0, f1, f2, f3⟩ := HI2.out.h2.res.live
            have hz : w.heap.size + 1 < w4.heap.size := HI2.out.h2.non.lt
            go_wp2
            refine bodyPost_ret (v := .tuple #[.agg #[.int .i64 0, .int .i64 0, .int .i64 0, .string (ByteArray.mk #[])], .bool false]) (by simp [results, Tryd.results15, go_sem, r0, r1, r2, r3]) rfl ⟨rfl, HI2.out.h2.done _ _ _ _⟩
          · have HP := Lib.hid (plain_parts hq)
            obtain ⟨u, hu⟩ : ∃ u, strOfNums (sendL v1 0 (x : Int) (byL (t))) = u := ⟨_, rfl⟩
            have HU := Lib.hid hu
            have hus : (u.toList == s.toList) = false := by
              rw [seq_beq, decide_eq_false_iff_not]
              intro e
              apply HN.out v1 0 (x : Int) (t) hq
              rw [← e, ← hu, byL_nums (isBy_bits (sendL_bits ..))]
            clear hq hu
            go_wp2_with fail
            refine (splain_v HQ.out _).mono ?_
            rintro e w4 ⟨rfl, hb4'⟩
            have HI2 := Lib.hid (HI.out.later hb4')
            clear hb4' a0 a1 a2 a3 hz
            obtain ⟨a0, a1, a2, a3⟩ := HI2.out.f.cells
            have hz : w1.heap.size < w4.heap.size := HI2.out.f.lt
            go_wp2_with fail
            refine (ssend_v HP.out HU.out _).mono ?_
            rintro e w5 ⟨rfl, hb5'⟩
            have HI3 := Lib.hid (HI2.out.later hb5')
            clear hb5' a0 a1 a2 a3 hz
            obtain ⟨a0, a1, a2, a3⟩ := HI3.out.h2.non.cells
            obtain ⟨r0, r1, r2, r3⟩ := HI3.out.h2.res.cells
            obtain ⟨f0, f1, f2, f3⟩ := HI3.out.h2.res.live
            have hz : w.heap.size + 1 < w5.heap.size := HI3.out.h2.non.lt
            go_wp2
            refine bodyPost_ret (v := .tuple #[.agg #[.int .i64 0, .int .i64 0, .int .i64 0, .string (ByteArray.mk #[])], .bool false]) (by simp [results, Tryd.results15, go_sem, r0, r1, r2, r3]) rfl ⟨rfl, HI3.out.h2.done _ _ _ _⟩

end Go.Proofs.YtfooigckcjbegaaDoor

namespace Go.Proofs.YtfooigckcjbegaaDoor
open Go.RowKit
set_option linter.unusedVariables false

/-- of what was there, block l alone may have turned -/
structure But (l : Nat) (w w' : World) : Prop where
  os : w'.os = w.os
  tape : w'.tape = w.tape
  output : w'.output = w.output
  size : w.heap.size ≤ w'.heap.size
  block : ∀ k, k < w.heap.size → k ≠ l → w'.heap[k]? = w.heap[k]?
theorem But.of_below {l : Nat} {w w' : World} (h : Below w.heap.size w w') : But l w w' := ⟨h.os, h.tape, h.output, h.size, fun k hk _ => h.block k hk⟩
theorem But.refl (l : Nat) (w : World) : But l w w := But.of_below (Below.refl _ w)
theorem But.trans {l : Nat} {a b c : World} (h : But l a b) (k : But l b c) : But l a c :=
  ⟨k.os.trans h.os, k.tape.trans h.tape, k.output.trans h.output, Nat.le_trans h.size k.size, fun i hi hj => (k.block i (Nat.lt_of_lt_of_le hi h.size) hj).trans (h.block i hi hj)⟩
theorem But.alloc {l : Nat} {w w' : World} (h : But l w w') (o : Obj) : But l w (w'.alloc o) := h.trans (But.of_below ((Below.refl _ w').alloc (Nat.le_refl _) o))
theorem But.set (l : Nat) (w : World) (u : Value) : But l w (w.setCell ⟨l, 0, none⟩ u) := ⟨rfl, rfl, rfl, by simp [World.setCell], fun k _ hk => Below.heap_setCell _ _ _ _ hk⟩
/-- a box that is newer than w -/
theorem But.setNew {l k : Nat} {w w' : World} (h : But l w w') (hk : w.heap.size ≤ k) (u : Value) : But l w (w'.setCell ⟨k, 0, none⟩ u) :=
  ⟨h.os, h.tape, h.output, Nat.le_trans h.size (by simp [World.setCell]), fun i hi hj => (Below.heap_setCell _ _ _ _ (show i ≠ k by omega)).trans (h.block i hi hj)⟩
theorem But.below {l B : Nat} {w w' : World} (h : But l w w') (hl : B ≤ l) (hB : B ≤ w.heap.size) : Below B w w' := ⟨h.os, h.tape, h.output, h.size, fun k hk => h.block k (by omega) (by omega)⟩
theorem But.box {l k : Nat} {w w' : World} {v : Value} {t : TypeId} (h : But l w w') (hb : Box w k v t) (hk : k ≠ l) : Box w' k v t := (h.block k hb.lt hk).trans hb
theorem But.lift {l : Nat} {w0 w w' : World} (h0 : Below w0.heap.size w0 w) (h : But l w w') : But l w0 w' := (But.of_below h0).trans h
end Go.Proofs.YtfooigckcjbegaaDoor

namespace Go.Proofs.YtfooigckcjbegaaDoor
open Go.RowKit Go.Shelf
set_option linter.unusedVariables false

def dren166 : Go.Shelf.Ren := ⟨fun | 166 => 34 | 240 => 53 | 276 => 66 | n => n, fun | 0 => 0 | 3 => 3 | 4 => 4 | 5 => 5 | 9 => 9 | 20 => 20 | 21 => 21 | 37 => 49 | 46 => 61 | 51 => 91 | 70 => 54 | 72 => 56 | 75 => 58 | 164 => 83 | 80 => 62 | n => n, fun | n => n⟩
theorem dlays166 : Go.Proofs.Lays.n166 Tryd.prog dren166 := {
  mixed := by kernel_rfl
  f166 := Tryd.func34.trans (congrArg some (by kernel_rfl))
  f240 := Tryd.func53.trans (congrArg some (by kernel_rfl))
  f276 := Tryd.func66.trans (congrArg some (by kernel_rfl))
  t0 := Tryd.underlying0
  a0 := Tryd.isAgg0
  z0 := Tryd.sizeOf0
  v0 := Tryd.zeroValue0
  t3 := Tryd.underlying3
  a3 := Tryd.isAgg3
  z3 := Tryd.sizeOf3
  v3 := Tryd.zeroValue3
  t4 := Tryd.underlying4
  a4 := Tryd.isAgg4
  z4 := Tryd.sizeOf4
  v4 := Tryd.zeroValue4
  t9 := Tryd.underlying9
  a9 := Tryd.isAgg9
  z9 := Tryd.sizeOf9
  v9 := Tryd.zeroValue9
  t20 := Tryd.underlying20
  a20 := Tryd.isAgg20
  z20 := Tryd.sizeOf20
  v20 := Tryd.zeroValue20
  t37 := Tryd.underlying49
  a37 := Tryd.isAgg49
  z37 := Tryd.sizeOf49
  v37 := Tryd.zeroValue49
  t70 := Tryd.underlying54
  a70 := Tryd.isAgg54
  z70 := Tryd.sizeOf54
  v70 := Tryd.zeroValue54
  t72 := Tryd.underlying56
  a72 := Tryd.isAgg56
  z72 := Tryd.sizeOf56
  v72 := Tryd.zeroValue56
  t75 := Tryd.underlying58
  a75 := Tryd.isAgg58
  z75 := Tryd.sizeOf58
  v75 := Tryd.zeroValue58
  t164 := Tryd.underlying83
  a164 := Tryd.isAgg83
  z164 := Tryd.sizeOf83
  v164 := Tryd.zeroValue83 }
theorem dextra166 : Go.Proofs.Builder.Extra Tryd.prog dren166 := {
  sizeBuilder := by kernel_rfl
  liesBuilder := by kernel_rfl
  t5 := Tryd.underlying5
  a5 := Tryd.isAgg5
  z5 := Tryd.sizeOf5
  v5 := Tryd.zeroValue5
  infoByte := by kernel_rfl
  cellsByte := by kernel_rfl
  sizeByte := by kernel_rfl
  neB5 := by decide }
theorem dwstr_k (B b : Nat) (bs : List Value) (s : ByteArray) (w : World) (h : Lib.IsBuilderF 56 5 B b bs w) (hlen : bs.length + s.size ≤ 140737488355328) (hBw : B ≤ w.heap.size) :
    Calls Tryd.prog 34 #[.pointer (some ⟨b, 0, none⟩), .string s] w fun e w' => e = .returned (.tuple #[.int .i64 s.size, .nilIface]) ∧ (Lib.BuilderAtF 56 5 B b (.pointer (some ⟨b, 0, none⟩)) (bs ++ Lib.strCells s) w' ∧ Below B w w' ∧ Lib.OthersKept 5 (some b) w w') :=
  Go.Proofs.Any.Builder_WriteString_k dlays166 dextra166 B b bs s w h hlen hBw
end Go.Proofs.YtfooigckcjbegaaDoor
