/- Band: the chapter's example; walk of BandNil. -/
import Derived.Test.YtpljlpfoalcfmaaZai
import Derived.Test.YtpljlpfoalcfmaaZak
namespace Go.Proofs.Ytpljlpfoalcfmaa
open Go.RowKit
set_option linter.unusedVariables false

def pkT (t : Int) : Pk := ⟨⟨0, 0, 0, ByteArray.mk #[]⟩, 0, t, false⟩
theorem packet15_v (t : Int) (w : World) : Calls Try.prog 23 #[.int .i64 t] w fun e w' => e = .returned (pkV (pkT t)) ∧ Below w.heap.size w w' := by
  go_enter Try.func23, Try.ntmps23
  go_wp2
  refine bodyPost_ret (v := pkV (pkT t)) ?_ rfl ⟨rfl, (Below.refl _ w).alloc (Nat.le_refl _) _⟩
  simp [results, Try.results23, go_sem, pkT]
def xQ0 : Bq := bqNew 2 3
def xQ1 : Bq := (xQ0.put 1 (pkT 1)).1
def xQ2 : Bq := (xQ1.put 0 (pkT 2)).1
def xQ3 : Bq := (xQ2.put 1 (pkT 3)).1
def xQ4 : Bq := (xQ3.put 0 (pkT 4)).1
def xQ5 : Bq := xQ4.take.1
def xQ6 : Bq := xQ5.take.1
def xQ7 : Bq := { xQ6 with st := true }
def xQ8 : Bq := xQ7.take.1
theorem xQ0_ok : xQ0.Ok := Bq.Ok.new 2 3
theorem xQ1_ok : xQ1.Ok := xQ0_ok.put _ _
theorem xQ2_ok : xQ2.Ok := xQ1_ok.put _ _
theorem xQ3_ok : xQ3.Ok := xQ2_ok.put _ _
theorem xQ4_ok : xQ4.Ok := xQ3_ok.put _ _
theorem xQ5_ok : xQ5.Ok := xQ4_ok.take
theorem xQ6_ok : xQ6.Ok := xQ5_ok.take
theorem xQ7_ok : xQ7.Ok := xQ6_ok.stop true
theorem xQ8_ok : xQ8.Ok := xQ7_ok.take
theorem xQ_e1 : (xQ0.put 1 (pkT 1)).2 = 0 := by decide +kernel
theorem xQ_e2 : (xQ1.put 0 (pkT 2)).2 = 0 := by decide +kernel
theorem xQ_e3 : (xQ2.put 1 (pkT 3)).2 = 0 := by decide +kernel
theorem xQ_e4 : (xQ3.put 0 (pkT 4)).2 = 5 := by decide +kernel
theorem xQ_e5 : xQ4.tk.1.tag = 2 ∧ xQ4.tk.2 = 0 := by decide +kernel
theorem xQ_e6 : xQ5.tk.1.tag = 1 ∧ xQ5.tk.2 = 0 := by decide +kernel
theorem xQ_e7 : xQ7.tk.2 = 6 := by decide +kernel
theorem xQ_e8 : xQ8.L.length = 1 := by decide +kernel
set_option maxHeartbeats 4000000 in
theorem bandalive {I : World → Value → Bq → (Nat → Prop) → Prop} (A : BandI I) (w : World) :
    Calls Try.prog 8 #[] w fun e w' => e = .returned (.bool true) ∧ Below w.heap.size w w' := by
  have HA := Lib.hid A
  clear A
  go_enter Try.func8, Try.ntmps8
  go_wp2_with fail
  refine (HA.out.new 2 3 _).mono ?_
  rintro e w0 ⟨v, O0, rfl, hi, hb, hn⟩
  obtain ⟨a, rfl⟩ := HA.out.ptr hi
  have H0 : Hid (Has I w (.pointer (some a)) xQ0 O0 w0) := Lib.hid ⟨hi, hb, hn⟩
  clear hi hb hn
  go_wp2_with fail
  refine (packet15_v 1 _).mono ?_
  rintro e y1 ⟨rfl, hb⟩
  have HP1 := Lib.hid (H0.out.later HA.out.obj hb)
  clear hb
  go_wp2_with fail
  refine (HA.out.put 1 (pkT 1) HP1.out.inv xQ0_ok).mono ?_
  rintro e w1 ⟨he, O1, hi, hk, hg⟩
  rw [xQ_e1] at he
  subst he
  have H1 : Hid (Has I w (.pointer (some a)) xQ1 O1 w1) := Lib.hid (HP1.out.step HA.out.obj hi hk hg)
  clear hi hk hg
  go_wp2_with fail
  refine (packet15_v 2 _).mono ?_
  rintro e y2 ⟨rfl, hb⟩
  have HP2 := Lib.hid (H1.out.later HA.out.obj hb)
  clear hb
  go_wp2_with fail
  refine (HA.out.put 0 (pkT 2) HP2.out.inv xQ1_ok).mono ?_
  rintro e w2 ⟨he, O2, hi, hk, hg⟩
  rw [xQ_e2] at he
  subst he
  have H2 : Hid (Has I w (.pointer (some a)) xQ2 O2 w2) := Lib.hid (HP2.out.step HA.out.obj hi hk hg)
  clear hi hk hg
  go_wp2_with fail
  refine (packet15_v 3 _).mono ?_
  rintro e y3 ⟨rfl, hb⟩
  have HP3 := Lib.hid (H2.out.later HA.out.obj hb)
  clear hb
  go_wp2_with fail
  refine (HA.out.put 1 (pkT 3) HP3.out.inv xQ2_ok).mono ?_
  rintro e w3 ⟨he, O3, hi, hk, hg⟩
  rw [xQ_e3] at he
  subst he
  have H3 : Hid (Has I w (.pointer (some a)) xQ3 O3 w3) := Lib.hid (HP3.out.step HA.out.obj hi hk hg)
  clear hi hk hg
  go_wp2_with fail
  refine (packet15_v 4 _).mono ?_
  rintro e y4 ⟨rfl, hb⟩
  have HP4 := Lib.hid (H3.out.later HA.out.obj hb)
  clear hb
  go_wp2_with fail
  refine (HA.out.put 0 (pkT 4) HP4.out.inv xQ3_ok).mono ?_
  rintro e w4 ⟨he, O4, hi, hk, hg⟩
  rw [xQ_e4] at he
  subst he
  have H4 : Hid (Has I w (.pointer (some a)) xQ4 O4 w4) := Lib.hid (HP4.out.step HA.out.obj hi hk hg)
  clear hi hk hg
  have H4 : Hid (Has I w (.pointer (some a)) xQ4 O4 w4) := H4
  obtain ⟨t1, t2⟩ := xQ_e5
  go_wp2_with fail
  refine (HA.out.take H4.out.inv xQ4_ok).mono ?_
  rintro e w5 ⟨rfl, O5, hi, hk, hg⟩
  have H5 : Hid (Has I w (.pointer (some a)) xQ5 O5 w5) := Lib.hid (H4.out.step HA.out.obj hi hk hg)
  clear hi hk hg
  generalize xQ4.tk = q at t1 t2 ⊢
  obtain ⟨p5, e5⟩ := q
  simp only at t1 t2
  subst t2
  have HT5 := Lib.hid t1
  have HB5 := Lib.hid (HasB.made HA.out.obj H5.out (.cells #[.int .i64 p5.f.i, .int .i64 p5.f.n, .int .i64 p5.f.l, .string p5.f.d, .int .i64 p5.fr, .int .i64 p5.tag, .bool p5.lp] 32) (BoxP.made w5 p5))
  clear t1
  obtain ⟨t1, t2⟩ := xQ_e6
  go_wp2_with fail
  refine (HA.out.take HB5.out.has.inv xQ5_ok).mono ?_
  rintro e w6 ⟨rfl, O6, hi, hk, hg⟩
  have HB6 : Hid (HasB I w (.pointer (some a)) xQ6 O6 w5.heap.size _ w6) := Lib.hid (HB5.out.step HA.out.obj hi hk hg)
  clear hi hk hg
  generalize xQ5.tk = q at t1 t2 ⊢
  obtain ⟨p6, e6⟩ := q
  simp only at t1 t2
  subst t2
  have HT6 := Lib.hid t1
  have HB6a := Lib.hid (HB6.out.later HA.out.obj ((Below.refl _ w6).alloc (Nat.le_refl _) (.cells #[.int .i64 p6.f.i, .int .i64 p6.f.n, .int .i64 p6.f.l, .string p6.f.d, .int .i64 p6.fr, .int .i64 p6.tag, .bool p6.lp] 32)))
  have HC6 := Lib.hid (HasB.made HA.out.obj HB6.out.has (.cells #[.int .i64 p6.f.i, .int .i64 p6.f.n, .int .i64 p6.f.l, .string p6.f.d, .int .i64 p6.fr, .int .i64 p6.tag, .bool p6.lp] 32) (BoxP.made w6 p6))
  clear t1
  go_wp2_with fail
  refine (HA.out.stop HB6a.out.has.inv xQ6_ok).mono ?_
  rintro e w7 ⟨rfl, O7, hi, hk, hg⟩
  have HB7 : Hid (HasB I w (.pointer (some a)) xQ7 O7 w5.heap.size _ w7) := Lib.hid (HB6a.out.step HA.out.obj hi hk hg)
  have HC7 : Hid (HasB I w (.pointer (some a)) xQ7 O7 w6.heap.size _ w7) := Lib.hid (HC6.out.step HA.out.obj hi hk hg)
  clear hi hk hg
  have t2 := xQ_e7
  go_wp2_with fail
  refine (HA.out.take HB7.out.has.inv xQ7_ok).mono ?_
  rintro e w8 ⟨rfl, O8, hi, hk, hg⟩
  have HB8 : Hid (HasB I w (.pointer (some a)) xQ8 O8 w5.heap.size _ w8) := Lib.hid (HB7.out.step HA.out.obj hi hk hg)
  have HC8 : Hid (HasB I w (.pointer (some a)) xQ8 O8 w6.heap.size _ w8) := Lib.hid (HC7.out.step HA.out.obj hi hk hg)
  clear hi hk hg
  generalize xQ7.tk = q at t2 ⊢
  obtain ⟨p8, e8⟩ := q
  simp only at t2
  subst t2
  have HBF := Lib.hid (HB8.out.later HA.out.obj ((Below.refl _ w8).alloc (Nat.le_refl _) (.cells #[.int .i64 p8.f.i, .int .i64 p8.f.n, .int .i64 p8.f.l, .string p8.f.d, .int .i64 p8.fr, .int .i64 p8.tag, .bool p8.lp] 32)))
  have HCF := Lib.hid (HC8.out.later HA.out.obj ((Below.refl _ w8).alloc (Nat.le_refl _) (.cells #[.int .i64 p8.f.i, .int .i64 p8.f.n, .int .i64 p8.f.l, .string p8.f.d, .int .i64 p8.fr, .int .i64 p8.tag, .bool p8.lp] 32)))
  have x5 := (BoxP.cells (p := p5) HB8.out.box).2.2.2.2.2.1
  have x6 := (BoxP.cells (p := p6) HC8.out.box).2.2.2.2.2.1
  rw [HT5.out] at x5
  rw [HT6.out] at x6
  have z5 : w5.heap.size < w8.heap.size := heap_some_lt HB8.out.box
  have z6 : w6.heap.size < w8.heap.size := heap_some_lt HC8.out.box
  go_wp2_with fail
  refine (HA.out.len HBF.out.has.inv xQ8_ok).mono ?_
  rintro e w9 ⟨rfl, hb⟩
  rw [xQ_e8]
  have HB9 := Lib.hid (HBF.out.later HA.out.obj hb)
  clear hb
  go_wp2
  go_ret
  exact ⟨rfl, HB9.out.has.below⟩
end Go.Proofs.Ytpljlpfoalcfmaa
