/- Conf: boxes that are stored into; the chapter's example; walk of ConfOrder. Conf: the law's own do; walk of ConfOff. Conf: walk of ConfTells. -/
import Derived.Test.YtiibaldnpaopjaaDoorZac
import Derived.Test.YtiibaldnpaopjaaDoorZab
import Derived.Lib.OthersKept
import Derived.Test.YtiibaldnpaopjaaDoorZaa
namespace Go.Proofs.YtiibaldnpaopjaaDoor
open Go.RowKit
set_option linter.unusedVariables false

/-- what is known of a node, behind an address -/
def BoxCf (w : World) (b : Nat) (c : Cf) : Prop := w.heap[b]? = some (.cells #[.int .i64 c.t, .int .i64 c.r, .bool c.o, .int .i64 c.d] 23 (0, 0))
theorem BoxCf.lt {w : World} {b : Nat} {c : Cf} (h : BoxCf w b c) : b < w.heap.size := (Array.getElem?_eq_some_iff.1 h).1
theorem BoxCf.made (w : World) (c : Cf) : BoxCf (w.alloc (.cells #[.int .i64 c.t, .int .i64 c.r, .bool c.o, .int .i64 c.d] 23)) w.heap.size c := by unfold BoxCf World.alloc; simp
theorem BoxCf.later {w w' : World} {b : Nat} {c : Cf} (h : BoxCf w b c) (hb : Below w.heap.size w w') : BoxCf w' b c := (hb.block b h.lt).trans h
theorem BoxCf.cells {w : World} {b : Nat} {c : Cf} (h : BoxCf w b c) : w.cell? ⟨b, 0, none⟩ = some (.int .i64 c.t) ∧ w.cell? ⟨b, 1, none⟩ = some (.int .i64 c.r) ∧ w.cell? ⟨b, 2, none⟩ = some (.bool c.o) ∧ w.cell? ⟨b, 3, none⟩ = some (.int .i64 c.d) := by
  unfold BoxCf at h
  refine ⟨?_, ?_, ?_, ?_⟩ <;> (rw [Lib.cell_of_heap h]; rfl)
theorem BoxCf.live {w : World} {b : Nat} {c : Cf} (h : BoxCf w b c) : w.frozen? ⟨b, 0, none⟩ = false ∧ w.frozen? ⟨b, 1, none⟩ = false ∧ w.frozen? ⟨b, 2, none⟩ = false ∧ w.frozen? ⟨b, 3, none⟩ = false := by
  unfold BoxCf at h
  exact ⟨Lib.frozen_of_heap h 0, Lib.frozen_of_heap h 1, Lib.frozen_of_heap h 2, Lib.frozen_of_heap h 3⟩
/-- all four fields stored -/
def putC (w : World) (b : Nat) (c : Cf) : World := (((w.setCell ⟨b, 0, none⟩ (.int .i64 c.t)).setCell ⟨b, 1, none⟩ (.int .i64 c.r)).setCell ⟨b, 2, none⟩ (.bool c.o)).setCell ⟨b, 3, none⟩ (.int .i64 c.d)
theorem BoxCf.put {w : World} {b : Nat} {c : Cf} (h : BoxCf w b c) (e : Cf) : BoxCf (putC w b e) b e := by
  have h0 : (w.setCell ⟨b, 0, none⟩ (.int .i64 e.t)).heap[b]? = some (.cells #[.int .i64 e.t, .int .i64 c.r, .bool c.o, .int .i64 c.d] 23 (0, 0)) := by rw [heap_setCell_same w b 0 _ _ _ h]; rfl
  have h1 : ((w.setCell ⟨b, 0, none⟩ (.int .i64 e.t)).setCell ⟨b, 1, none⟩ (.int .i64 e.r)).heap[b]? = some (.cells #[.int .i64 e.t, .int .i64 e.r, .bool c.o, .int .i64 c.d] 23 (0, 0)) := by rw [heap_setCell_same _ b 1 _ _ _ h0]; rfl
  have h2 : (((w.setCell ⟨b, 0, none⟩ (.int .i64 e.t)).setCell ⟨b, 1, none⟩ (.int .i64 e.r)).setCell ⟨b, 2, none⟩ (.bool e.o)).heap[b]? = some (.cells #[.int .i64 e.t, .int .i64 e.r, .bool e.o, .int .i64 c.d] 23 (0, 0)) := by rw [heap_setCell_same _ b 2 _ _ _ h1]; rfl
  unfold BoxCf putC
  rw [heap_setCell_same _ b 3 _ _ _ h2]
  rfl
theorem putC_other {w : World} {b k : Nat} (e : Cf) (h : k ≠ b) : (putC w b e).heap[k]? = w.heap[k]? := by
  unfold putC
  rw [Below.heap_setCell _ _ _ _ h, Below.heap_setCell _ _ _ _ h, Below.heap_setCell _ _ _ _ h, Below.heap_setCell _ _ _ _ h]
theorem putC_size (w : World) (b : Nat) (e : Cf) : (putC w b e).heap.size = w.heap.size := by unfold putC; simp [World.setCell]
theorem putC_below {B b : Nat} {w0 w : World} (h : Below B w0 w) (hb : B ≤ b) (e : Cf) : Below B w0 (putC w b e) :=
  h.trans ⟨rfl, rfl, rfl, by rw [putC_size]; exact Nat.le_refl _, fun i hi => putC_other e (show i ≠ b by omega)⟩
theorem BoxCf.other {w : World} {b k : Nat} {c : Cf} (h : BoxCf w k c) (e : Cf) (hk : k ≠ b) : BoxCf (putC w b e) k c := (putC_other e hk).trans h

theorem cf_fail (k : Nat) : (failN k).do_ 2 0 = failN (k + 1) := failN_succ k 0
set_option maxHeartbeats 4000000 in
theorem confalive_any (w : World) (hT : TabC w) : Calls Tryd.prog 12 #[] w fun e w' => e = .returned (.bool true) ∧ Below w.heap.size w w' := by
  have e1 := seq_self (ByteArray.mk #[111, 102, 102])
  have HT := Lib.hid hT
  clear hT
  go_enter Tryd.func12, Tryd.ntmps12
  go_wp2_with fail
  have HS : Hid (BoxCf (w.alloc (.cells #[.int .i64 0, .int .i64 0, .bool false, .int .i64 0] 23)) w.heap.size (failN 0) ∧ Below w.heap.size w (w.alloc (.cells #[.int .i64 0, .int .i64 0, .bool false, .int .i64 0] 23))) := Lib.hid ⟨BoxCf.made w (failN 0), (Below.refl _ _).alloc (Nat.le_refl _) _⟩
  go_loopw [3] (fun i wr => ∃ k : Nat, k ≤ 16 ∧ i = .int .i64 k ∧ Hid (BoxCf wr w.heap.size (failN k) ∧ Below w.heap.size w wr)) (fun i _ => 16 - (intOf i).toNat)
  case atStart => exact ⟨0, Nat.zero_le _, rfl, HS⟩
  case round =>
    obtain ⟨k, hk, rfl, HI⟩ := hrel
    obtain ⟨c0, c1, c2, c3⟩ := HI.out.1.cells
    by_cases hlt : k < 16
    · go_wp2_with fail
      refine (kcfailed_v (cf_fail k) _).mono ?_
      rintro e w2 ⟨rfl, hb2⟩
      have HI2 := Lib.hid (And.intro (HI.out.1.later hb2) (fbelow_t HI.out.2 hb2))
      clear hb2 c0 c1 c2 c3
      obtain ⟨c0, c1, c2, c3⟩ := HI2.out.1.cells
      obtain ⟨f0, f1, f2, f3⟩ := HI2.out.1.live
      go_wp2
      go_roundw
      case rel => exact ⟨k + 1, by omega, by go_num, Lib.hid ⟨HI2.out.1.put _, putC_below HI2.out.2 (Nat.le_refl _) _⟩⟩
      case measure => simp [intOf]; omega
    · obtain rfl : k = 16 := by omega
      obtain ⟨b2, hb2⟩ : ∃ b, wr.heap.size = b := ⟨_, rfl⟩
      have hbl : w.heap.size < b2 := by rw [← hb2]; exact HI.out.1.lt
      have hal := (Below.refl wr.heap.size wr).alloc (Nat.le_refl _) (.cells #[.int .i64 (failN 16).t, .int .i64 (failN 16).r, .bool (failN 16).o, .int .i64 (failN 16).d] 23)
      have HD := Lib.hid (And.intro (HI.out.1.later hal) (And.intro (BoxCf.made wr (failN 16)) (fbelow_t HI.out.2 hal)))
      clear hal HI
      go_wp2_with fail
      clear c0 c1 c2 c3
      rw [hb2] at HD
      clear hb2
      go_loopw [9] (fun i wy => ∃ k : Nat, k ≤ 16 ∧ i = .int .i64 k ∧ Hid (BoxCf wy w.heap.size (failN 16) ∧ BoxCf wy b2 (failN (16 + k)) ∧ Below w.heap.size w wy)) (fun i _ => 16 - (intOf i).toNat)
      case atStart => exact ⟨0, Nat.zero_le _, rfl, HD⟩
      case round =>
        obtain ⟨k, hk, rfl, HI⟩ := hrel
        obtain ⟨c0, c1, c2, c3⟩ := HI.out.1.cells
        obtain ⟨d0, d1, d2, d3⟩ := HI.out.2.1.cells
        by_cases hlt : k < 16
        · clear c0 c1 c2 c3
          go_wp2_with fail
          refine (kcfailed_v (cf_fail (16 + k)) _).mono ?_
          rintro e w2 ⟨rfl, hb2⟩
          have HI2 := Lib.hid (And.intro (HI.out.1.later hb2) (And.intro (HI.out.2.1.later hb2) (fbelow_t HI.out.2.2 hb2)))
          clear hb2 d0 d1 d2 d3
          obtain ⟨d0, d1, d2, d3⟩ := HI2.out.2.1.cells
          obtain ⟨f0, f1, f2, f3⟩ := HI2.out.2.1.live
          go_wp2
          go_roundw
          case rel => exact ⟨.int .i64 ((k : Int) + 1), _, _, _, _, ⟨k + 1, by omega, by go_num, Lib.hid ⟨HI2.out.1.other _ (by omega), HI2.out.2.1.put _, putC_below HI2.out.2.2 (by omega) _⟩⟩, rfl⟩
          case measure => simp [intOf]; omega
        · obtain rfl : k = 16 := by omega
          go_wp2_with fail
          refine (kcstate_v (c := failN 16) (v := 2) (by decide) _).mono ?_
          rintro e w2 ⟨rfl, hb2⟩
          have HI2 := Lib.hid (And.intro (HI.out.2.1.later hb2) (fbelow_t HI.out.2.2 hb2))
          clear hb2 d0 d1 d2 d3 c0 c1 c2 c3
          obtain ⟨d0, d1, d2, d3⟩ := HI2.out.1.cells
          go_wp2_with fail
          refine (kcstate_v (c := failN (16 + 16)) (v := 3) (by decide) _).mono ?_
          rintro e w3 ⟨rfl, hb3⟩
          have HI3 := Lib.hid (And.intro (HI2.out.1.later hb3) (fbelow_t HI2.out.2 hb3))
          clear hb3 d0 d1 d2 d3
          obtain ⟨d0, d1, d2, d3⟩ := HI3.out.1.cells
          go_wp2_with fail
          refine (kcright_v (c := failN (16 + 16)) (q := true) (by decide) _).mono ?_
          rintro e w4 ⟨rfl, hb4⟩
          have HB4 := Lib.hid (fbelow_t HI3.out.2 hb4)
          clear hb4
          go_wp2_with fail
          refine (kcword_v (t := ByteArray.mk #[111, 102, 102]) rfl _ (HT.out.below HB4.out)).mono ?_
          rintro e w5 ⟨rfl, hb5⟩
          go_wp2
          go_ret
          exact ⟨rfl, fbelow_t HB4.out hb5⟩

/-! ### ConfOrder -/
set_option maxHeartbeats 4000000 in
theorem confOrder_walk (t r : Int) (o : Bool) (d : Int) (wt : (Lit.int .i64 t).wf = true) (wr : (Lit.int .i64 r).wf = true) (wd : (Lit.int .i64 d).wf = true) (w : World) (hT : TabC w) :
    Calls Tryd.prog 5 #[.agg #[.int .i64 t, .int .i64 r, .bool o, .int .i64 d]] w fun e w' => e = .returned (.bool true) ∧ Below w.heap.size w w' := by
  have HT := Lib.hid hT
  clear hT
  obtain ⟨c, hc⟩ : ∃ c : Cf, (⟨t, r, o, d⟩ : Cf) = c := ⟨_, rfl⟩
  have et : t = c.t := by rw [← hc]
  have er : r = c.r := by rw [← hc]
  have eo : o = c.o := by rw [← hc]
  have ed : d = c.d := by rw [← hc]
  subst et; subst er; subst eo; subst ed
  obtain ⟨h0, h1, h2, h3⟩ := Cf.order c 0
  obtain ⟨e0, he0⟩ : ∃ e, c.do_ 0 0 = e := ⟨_, rfl⟩
  obtain ⟨e1, he1⟩ : ∃ e, c.do_ 1 0 = e := ⟨_, rfl⟩
  obtain ⟨e2, he2⟩ : ∃ e, c.do_ 2 0 = e := ⟨_, rfl⟩
  obtain ⟨e3, he3⟩ : ∃ e, c.do_ 3 0 = e := ⟨_, rfl⟩
  obtain ⟨v, hv⟩ : ∃ v, c.state = v := ⟨_, rfl⟩
  obtain ⟨v0, hv0⟩ : ∃ v, e0.state = v := ⟨_, rfl⟩
  obtain ⟨v1, hv1⟩ : ∃ v, e1.state = v := ⟨_, rfl⟩
  obtain ⟨v2, hv2⟩ : ∃ v, e2.state = v := ⟨_, rfl⟩
  obtain ⟨v3, hv3⟩ : ∃ v, e3.state = v := ⟨_, rfl⟩
  rw [he0, hv0, hv] at h0
  rw [he1, hv1, hv] at h1
  rw [he2, hv2, hv] at h2
  rw [he3, hv3, hv] at h3
  have H0 := Lib.hid he0; have H1 := Lib.hid he1; have H2 := Lib.hid he2; have H3 := Lib.hid he3
  have V := Lib.hid hv; have V0 := Lib.hid hv0; have V1 := Lib.hid hv1; have V2 := Lib.hid hv2; have V3 := Lib.hid hv3
  have HM := Lib.hid (BoxCf.made w c)
  have HB := Lib.hid ((Below.refl w.heap.size w).alloc (Nat.le_refl _) (.cells #[.int .i64 c.t, .int .i64 c.r, .bool c.o, .int .i64 c.d] 23))
  clear hc he0 he1 he2 he3 hv hv0 hv1 hv2 hv3 wt wr wd
  go_enter Tryd.func5, Tryd.ntmps5
  go_wp2_with fail
  refine (kcstate_v V.out _).mono ?_
  rintro e w1 ⟨rfl, hb⟩
  have HM1 := Lib.hid (HM.out.later hb)
  have HB1 := Lib.hid (fbelow_t HB.out hb)
  clear hb
  obtain ⟨c0, c1, c2, c3⟩ := HM1.out.cells
  go_wp2_with fail
  refine (kcsent_v H0.out _).mono ?_
  rintro e w2 ⟨rfl, hb⟩
  have HM2 := Lib.hid (HM1.out.later hb)
  have HB2 := Lib.hid (fbelow_t HB1.out hb)
  clear hb c0 c1 c2 c3
  go_wp2_with fail
  refine (kcstate_v V0.out _).mono ?_
  rintro e w3 ⟨rfl, hb⟩
  have HM3 := Lib.hid (HM2.out.later hb)
  have HB3 := Lib.hid (fbelow_t HB2.out hb)
  clear hb
  obtain ⟨c0, c1, c2, c3⟩ := HM3.out.cells
  go_wp2_with fail
  refine (kcheard_v H1.out _).mono ?_
  rintro e w4 ⟨rfl, hb⟩
  have HM4 := Lib.hid (HM3.out.later hb)
  have HB4 := Lib.hid (fbelow_t HB3.out hb)
  clear hb c0 c1 c2 c3
  go_wp2_with fail
  refine (kcstate_v V1.out _).mono ?_
  rintro e w5 ⟨rfl, hb⟩
  have HM5 := Lib.hid (HM4.out.later hb)
  have HB5 := Lib.hid (fbelow_t HB4.out hb)
  clear hb
  obtain ⟨c0, c1, c2, c3⟩ := HM5.out.cells
  go_wp2_with fail
  refine (kcfailed_v H2.out _).mono ?_
  rintro e w6 ⟨rfl, hb⟩
  have HM6 := Lib.hid (HM5.out.later hb)
  have HB6 := Lib.hid (fbelow_t HB5.out hb)
  clear hb c0 c1 c2 c3
  go_wp2_with fail
  refine (kcstate_v V2.out _).mono ?_
  rintro e w7 ⟨rfl, hb⟩
  have HM7 := Lib.hid (HM6.out.later hb)
  have HB7 := Lib.hid (fbelow_t HB6.out hb)
  clear hb
  obtain ⟨c0, c1, c2, c3⟩ := HM7.out.cells
  go_wp2_with fail
  refine (kcmissed_v H3.out _).mono ?_
  rintro e w8 ⟨rfl, hb⟩
  have HB8 := Lib.hid (fbelow_t HB7.out hb)
  clear hb c0 c1 c2 c3
  go_wp2_with fail
  refine (kcstate_v V3.out _).mono ?_
  rintro e w9 ⟨rfl, hb⟩
  have HB9 := Lib.hid (fbelow_t HB8.out hb)
  clear hb
  go_wp2_with fail
  refine (confalive_any _ (HT.out.below HB9.out)).mono ?_
  rintro e w10 ⟨rfl, hb⟩
  go_wp2
  go_ret
  exact ⟨rfl, fbelow_t HB9.out hb⟩
end Go.Proofs.YtiibaldnpaopjaaDoor

namespace Go.Proofs.YtiibaldnpaopjaaDoor
open Go.RowKit
set_option linter.unusedVariables false

theorem two_cf (w : World) (c : Cf) {w1 : World} (hb : Below ((w.alloc (.cells #[.int .i64 c.t, .int .i64 c.r, .bool c.o, .int .i64 c.d] 23)).alloc (.cells #[.int .i64 0, .int .i64 0, .bool false, .int .i64 0] 23)).heap.size ((w.alloc (.cells #[.int .i64 c.t, .int .i64 c.r, .bool c.o, .int .i64 c.d] 23)).alloc (.cells #[.int .i64 0, .int .i64 0, .bool false, .int .i64 0] 23)) w1) :
    BoxCf w1 (w.heap.size + 1) cf0 ∧ Below w.heap.size w w1 := by
  have h := BoxC.two w c.t c.r c.o c.d hb
  exact ⟨h.2.1, h.2.2⟩
set_option maxHeartbeats 4000000 in
theorem cdo_v {c e : Cf} {what back : Int} (h : c.do_ what back = e) (hk : c.ok = true) (hw : 0 ≤ what ∧ what ≤ 4) (hb1 : -9223372036854775808 ≤ back) (hb2 : back ≤ 9223372036854775807) (w : World) :
    Calls Tryd.prog 13 #[cfV c, .int .i64 what, .int .i64 back] w fun x w' => x = .returned (cfV e) ∧ Below w.heap.size w w' := by
  have HR := Lib.hid (And.intro hb1 hb2)
  have HK := Lib.hid hk
  clear hb1 hb2 hk
  obtain hw | hw | hw | hw | hw : what = 0 ∨ what = 1 ∨ what = 2 ∨ what = 3 ∨ what = 4 := by omega
  · subst hw
    rw [Cf.do_back (by decide) back 0] at h
    have H := Lib.hid h
    clear h
    go_enter Tryd.func13, Tryd.ntmps13
    go_wp2_with fail
    refine (kcsent_v H.out _).mono ?_
    rintro x w1 ⟨rfl, hb⟩
    have HB := Lib.hid (two_cf w c hb)
    clear hb
    obtain ⟨f0, f1, f2, f3⟩ := HB.out.1.live
    obtain ⟨q0, q1, q2, q3⟩ := HB.out.1.cells
    have hz : w.heap.size < w1.heap.size := by have := HB.out.1.lt; omega
    have hy : w.heap.size + 1 < w1.heap.size := HB.out.1.lt
    go_wp2
    obtain ⟨r0, r1, r2, r3⟩ := (HB.out.1.put e).cells
    unfold putC at r0 r1 r2 r3
    refine bodyPost_ret (v := _) (by simp [results, Tryd.results13, go_sem, r0, r1, r2, r3]) rfl ⟨rfl, ?_⟩
    exact putC_below HB.out.2 (by omega) e
  · subst hw
    rw [Cf.do_back (by decide) back 0] at h
    have H := Lib.hid h
    clear h
    go_enter Tryd.func13, Tryd.ntmps13
    go_wp2_with fail
    refine (kcheard_v H.out _).mono ?_
    rintro x w1 ⟨rfl, hb⟩
    have HB := Lib.hid (two_cf w c hb)
    clear hb
    obtain ⟨f0, f1, f2, f3⟩ := HB.out.1.live
    obtain ⟨q0, q1, q2, q3⟩ := HB.out.1.cells
    have hz : w.heap.size < w1.heap.size := by have := HB.out.1.lt; omega
    have hy : w.heap.size + 1 < w1.heap.size := HB.out.1.lt
    go_wp2
    obtain ⟨r0, r1, r2, r3⟩ := (HB.out.1.put e).cells
    unfold putC at r0 r1 r2 r3
    refine bodyPost_ret (v := _) (by simp [results, Tryd.results13, go_sem, r0, r1, r2, r3]) rfl ⟨rfl, ?_⟩
    exact putC_below HB.out.2 (by omega) e
  · subst hw
    rw [Cf.do_back (by decide) back 0] at h
    have H := Lib.hid h
    clear h
    go_enter Tryd.func13, Tryd.ntmps13
    go_wp2_with fail
    refine (kcfailed_v H.out _).mono ?_
    rintro x w1 ⟨rfl, hb⟩
    have HB := Lib.hid (two_cf w c hb)
    clear hb
    obtain ⟨f0, f1, f2, f3⟩ := HB.out.1.live
    obtain ⟨q0, q1, q2, q3⟩ := HB.out.1.cells
    have hz : w.heap.size < w1.heap.size := by have := HB.out.1.lt; omega
    have hy : w.heap.size + 1 < w1.heap.size := HB.out.1.lt
    go_wp2
    obtain ⟨r0, r1, r2, r3⟩ := (HB.out.1.put e).cells
    unfold putC at r0 r1 r2 r3
    refine bodyPost_ret (v := _) (by simp [results, Tryd.results13, go_sem, r0, r1, r2, r3]) rfl ⟨rfl, ?_⟩
    exact putC_below HB.out.2 (by omega) e
  · subst hw
    rw [Cf.do_back (by decide) back 0] at h
    have H := Lib.hid h
    clear h
    go_enter Tryd.func13, Tryd.ntmps13
    go_wp2_with fail
    refine (kcmissed_v H.out _).mono ?_
    rintro x w1 ⟨rfl, hb⟩
    have HB := Lib.hid (two_cf w c hb)
    clear hb
    obtain ⟨f0, f1, f2, f3⟩ := HB.out.1.live
    obtain ⟨q0, q1, q2, q3⟩ := HB.out.1.cells
    have hz : w.heap.size < w1.heap.size := by have := HB.out.1.lt; omega
    have hy : w.heap.size + 1 < w1.heap.size := HB.out.1.lt
    go_wp2
    obtain ⟨r0, r1, r2, r3⟩ := (HB.out.1.put e).cells
    unfold putC at r0 r1 r2 r3
    refine bodyPost_ret (v := _) (by simp [results, Tryd.results13, go_sem, r0, r1, r2, r3]) rfl ⟨rfl, ?_⟩
    exact putC_below HB.out.2 (by omega) e
  · subst hw
    have H := Lib.hid h
    clear h
    go_enter Tryd.func13, Tryd.ntmps13
    go_wp2_with fail
    refine (kcidle_v H.out HK.out HR.out.1 HR.out.2 _).mono ?_
    rintro x w1 ⟨rfl, hb⟩
    have HB := Lib.hid (two_cf w c hb)
    clear hb
    obtain ⟨f0, f1, f2, f3⟩ := HB.out.1.live
    obtain ⟨q0, q1, q2, q3⟩ := HB.out.1.cells
    have hz : w.heap.size < w1.heap.size := by have := HB.out.1.lt; omega
    have hy : w.heap.size + 1 < w1.heap.size := HB.out.1.lt
    go_wp2
    obtain ⟨r0, r1, r2, r3⟩ := (HB.out.1.put e).cells
    unfold putC at r0 r1 r2 r3
    refine bodyPost_ret (v := _) (by simp [results, Tryd.results13, go_sem, r0, r1, r2, r3]) rfl ⟨rfl, ?_⟩
    exact putC_below HB.out.2 (by omega) e

/-! ### ConfOff -/
set_option maxHeartbeats 4000000 in
theorem confOff_walk (n back : Int) (wn : (Lit.int .i64 n).wf = true) (wb : (Lit.int .i64 back).wf = true) (w : World) (hT : TabC w) :
    Calls Tryd.prog 6 #[.int .i64 n, .int .i64 back] w fun e w' => e = .returned (.bool true) ∧ Below w.heap.size w w' := by
  have HT := Lib.hid hT
  clear wn wb hT
  by_cases hin : n < 0 ∨ 60 < n ∨ back < 1 ∨ 60 < back
  · go_enter Tryd.func6, Tryd.ntmps6
    have e1 : (decide (n < 0) || decide (60 < n) || decide (back < 1) || decide (60 < back)) = true := by
      rcases hin with h | h | h | h <;> simp [h]
    clear hin
    by_cases g1 : n < 0
    all_goals by_cases g2 : (60 : Int) < n
    all_goals by_cases g3 : back < 1
    all_goals by_cases g4 : (60 : Int) < back
    all_goals (
      first
      | (exfalso; simp [g1, g2, g3, g4] at e1; done)
      | (clear e1
         go_wp2_with fail
         refine (confalive_any _ HT.out).mono ?_
         rintro e w1 ⟨rfl, hb1⟩
         go_wp2
         go_ret
         exact ⟨rfl, hb1⟩))
  · obtain ⟨m, hm⟩ : ∃ m : Nat, n = m := ⟨n.toNat, by omega⟩
    obtain ⟨b, hb⟩ : ∃ b : Nat, back = b := ⟨back.toNat, by omega⟩
    subst hm; subst hb
    have hm60 : m ≤ 60 := by omega
    have hb60 : b ≤ 60 := by omega
    have hb1 : 1 ≤ b := by omega
    clear hin
    go_enter Tryd.func6, Tryd.ntmps6
    go_wp2_with fail
    have HS : Hid (BoxCf (w.alloc (.cells #[.int .i64 0, .int .i64 0, .bool false, .int .i64 0] 23)) w.heap.size (failN 0) ∧ Below w.heap.size w (w.alloc (.cells #[.int .i64 0, .int .i64 0, .bool false, .int .i64 0] 23))) := Lib.hid ⟨BoxCf.made w (failN 0), (Below.refl _ _).alloc (Nat.le_refl _) _⟩
    go_loopw [23] (fun i wr => ∃ k : Nat, k ≤ m ∧ i = .int .i64 k ∧ Hid (BoxCf wr w.heap.size (failN k) ∧ Below w.heap.size w wr)) (fun i _ => m - (intOf i).toNat)
    case atStart => exact ⟨0, Nat.zero_le _, rfl, HS⟩
    case round =>
      obtain ⟨k, hk, rfl, HI⟩ := hrel
      obtain ⟨c0, c1, c2, c3⟩ := HI.out.1.cells
      by_cases hlt : k < m
      · go_wp2_with fail
        refine (kcfailed_v (cf_fail k) _).mono ?_
        rintro e w2 ⟨rfl, hb2⟩
        have HI2 := Lib.hid (And.intro (HI.out.1.later hb2) (fbelow_t HI.out.2 hb2))
        clear hb2 c0 c1 c2 c3
        obtain ⟨c0, c1, c2, c3⟩ := HI2.out.1.cells
        obtain ⟨f0, f1, f2, f3⟩ := HI2.out.1.live
        go_wp2
        go_roundw
        case rel => exact ⟨k + 1, by omega, by go_num, Lib.hid ⟨HI2.out.1.put _, putC_below HI2.out.2 (Nat.le_refl _) _⟩⟩
        case measure => simp [intOf]; omega
      · obtain rfl : k = m := by omega
        obtain ⟨v, hv⟩ : ∃ v, (failN k).state = v := ⟨_, rfl⟩
        have HVV := Lib.hid hv
        have e16 : decide (2 ≤ v) = decide (16 ≤ (k : Int)) := by
          rw [decide_eq_decide, ← hv, failN_state]; omega
        clear hv
        go_wp2_with fail
        refine (kcstate_v HVV.out _).mono ?_
        rintro e w2 ⟨rfl, hb2⟩
        have HI2 := Lib.hid (And.intro (HI.out.1.later hb2) (fbelow_t HI.out.2 hb2))
        clear hb2 c0 c1 c2 c3
        obtain ⟨c0, c1, c2, c3⟩ := HI2.out.1.cells
        have e32 : (failN k).o = decide (32 ≤ (k : Int)) := by
          rw [failN_off, decide_eq_decide]; omega
        rw [e32] at c2
        clear e32
        go_wp2_with fail
        clear e16 c0 c1 c2 c3 HI HVV
        generalize decide (32 ≤ (k : Int)) = q32
        generalize decide (16 ≤ (k : Int)) = q16
        have HS2 : Hid (BoxCf w2 w.heap.size (idleN k b 0) ∧ Below w.heap.size w w2) := Lib.hid ⟨by rw [idleN_zero k b hb1]; exact HI2.out.1, HI2.out.2⟩
        clear HI2
        go_loopw [6] (fun i wr => ∃ j : Nat, j ≤ b ∧ i = .int .i64 ((j : Int) + 1) ∧ Hid (BoxCf wr w.heap.size (idleN k b j) ∧ Below w.heap.size w wr)) (fun i _ => b + 1 - (intOf i).toNat)
        case atStart => exact ⟨0, Nat.zero_le _, rfl, HS2⟩
        case round =>
          obtain ⟨j, hj, rfl, HI⟩ := hrel
          obtain ⟨c0, c1, c2, c3⟩ := HI.out.1.cells
          by_cases hlt : j < b
          · obtain ⟨⟨t1, r1, o1, d1⟩, he⟩ : ∃ e, idleN k b (j + 1) = e := ⟨_, rfl⟩
            have eo : o1 = (decide (32 ≤ k) && decide (j + 1 < b)) := by
              rw [← idleN_off, he]
            have HE := Lib.hid he
            clear he
            by_cases h32 : 32 ≤ k
            · have i32 : decide (32 ≤ (k : Int)) = true := by rw [decide_eq_true_eq]; omega
              by_cases hj1 : j + 1 < b
              · obtain rfl : o1 = true := by rw [eo]; simp [h32, hj1]
                have i1 : decide ((j : Int) + 1 < (b : Int)) = true := by rw [decide_eq_true_eq]; omega
                clear eo h32 hj1
                go_wp2_with fail
                refine (kcidle_v ((idleN_succ k b j hlt).trans HE.out) (idleN_ok k b j) (by omega) (by omega) _).mono ?_
                rintro e w3 ⟨rfl, hb3⟩
                have HI2 := Lib.hid (And.intro (HI.out.1.later hb3) (fbelow_t HI.out.2 hb3))
                clear hb3 c0 c1 c2 c3
                obtain ⟨c0, c1, c2, c3⟩ := HI2.out.1.cells
                obtain ⟨f0, f1, f2, f3⟩ := HI2.out.1.live
                go_wp2
                go_roundw
                case rel => exact ⟨j + 1, by omega, by go_num, Lib.hid ⟨by rw [HE.out]; exact HI2.out.1.put ⟨t1, r1, true, d1⟩, putC_below HI2.out.2 (Nat.le_refl _) ⟨t1, r1, true, d1⟩⟩⟩
                case measure => simp [intOf]; omega
              · obtain rfl : o1 = false := by rw [eo]; simp [h32, hj1]
                have i1 : decide ((j : Int) + 1 < (b : Int)) = false := by rw [decide_eq_false_iff_not]; omega
                clear eo h32 hj1
                go_wp2_with fail
                refine (kcidle_v ((idleN_succ k b j hlt).trans HE.out) (idleN_ok k b j) (by omega) (by omega) _).mono ?_
                rintro e w3 ⟨rfl, hb3⟩
                have HI2 := Lib.hid (And.intro (HI.out.1.later hb3) (fbelow_t HI.out.2 hb3))
                clear hb3 c0 c1 c2 c3
                obtain ⟨c0, c1, c2, c3⟩ := HI2.out.1.cells
                obtain ⟨f0, f1, f2, f3⟩ := HI2.out.1.live
                go_wp2
                go_roundw
                case rel => exact ⟨j + 1, by omega, by go_num, Lib.hid ⟨by rw [HE.out]; exact HI2.out.1.put ⟨t1, r1, false, d1⟩, putC_below HI2.out.2 (Nat.le_refl _) ⟨t1, r1, false, d1⟩⟩⟩
                case measure => simp [intOf]; omega
            · obtain rfl : o1 = false := by rw [eo]; simp [h32]
              have i32 : decide (32 ≤ (k : Int)) = false := by rw [decide_eq_false_iff_not]; omega
              clear eo h32
              go_wp2_with fail
              refine (kcidle_v ((idleN_succ k b j hlt).trans HE.out) (idleN_ok k b j) (by omega) (by omega) _).mono ?_
              rintro e w3 ⟨rfl, hb3⟩
              have HI2 := Lib.hid (And.intro (HI.out.1.later hb3) (fbelow_t HI.out.2 hb3))
              clear hb3 c0 c1 c2 c3
              obtain ⟨c0, c1, c2, c3⟩ := HI2.out.1.cells
              obtain ⟨f0, f1, f2, f3⟩ := HI2.out.1.live
              go_wp2
              go_roundw
              case rel => exact ⟨j + 1, by omega, by go_num, Lib.hid ⟨by rw [HE.out]; exact HI2.out.1.put ⟨t1, r1, false, d1⟩, putC_below HI2.out.2 (Nat.le_refl _) ⟨t1, r1, false, d1⟩⟩⟩
              case measure => simp [intOf]; omega
          · obtain rfl : j = b := by omega
            by_cases h32 : k < 32
            · go_wp2_with fail
              refine (confalive_any _ (HT.out.below HI.out.2)).mono ?_
              rintro e w4 ⟨rfl, hb4⟩
              go_wp2
              go_ret
              exact ⟨rfl, fbelow_t HI.out.2 hb4⟩
            · have e0 : idleN k j j = cf0 := by unfold idleN; rw [if_neg (by omega), if_neg (by omega)]
              rw [e0] at c0 c1 c2 c3
              unfold cf0 at c0 c1 c2 c3
              clear e0
              go_wp2_with fail
              refine (confalive_any _ (HT.out.below HI.out.2)).mono ?_
              rintro e w4 ⟨rfl, hb4⟩
              go_wp2
              go_ret
              exact ⟨rfl, fbelow_t HI.out.2 hb4⟩
end Go.Proofs.YtiibaldnpaopjaaDoor

namespace Go.Proofs.YtiibaldnpaopjaaDoor
open Go.RowKit
set_option linter.unusedVariables false

theorem Later.tabC {W : World} (n : Later W) (h : TabC W) : TabC n.w := h.below n.h
set_option maxHeartbeats 4000000 in
theorem confTells_walk (t r : Int) (o : Bool) (d n : Int) (wt : (Lit.int .i64 t).wf = true) (wr : (Lit.int .i64 r).wf = true) (wd : (Lit.int .i64 d).wf = true) (wn : (Lit.int .i64 n).wf = true) (w : World) (hT : TabC w) :
    Calls Tryd.prog 3 #[.agg #[.int .i64 t, .int .i64 r, .bool o, .int .i64 d], .int .i64 n] w fun e w' => e = .returned (.bool true) ∧ Below w.heap.size w w' := by
  have HT := Lib.hid hT
  clear wt wr wd wn hT
  obtain ⟨q, hq⟩ : ∃ q, Cf.ok ⟨t, r, o, d⟩ = q := ⟨_, rfl⟩
  obtain ⟨v, hv⟩ : ∃ v, Cf.state ⟨t, r, o, d⟩ = v := ⟨_, rfl⟩
  obtain ⟨s, hs⟩ : ∃ s, wordS n = s := ⟨_, rfl⟩
  have HQ := Lib.hid hq
  have HVV := Lib.hid hv
  have HSS := Lib.hid hs
  have HM := Lib.hid (BoxCf.made w ⟨t, r, o, d⟩)
  have HB := Lib.hid ((Below.refl w.heap.size w).alloc (Nat.le_refl _) (.cells #[.int .i64 t, .int .i64 r, .bool o, .int .i64 d] 23))
  have es := seq_self s
  have eq : (q == q) = true := by simp
  have ev : (v == v) = true := by simp
  clear hq hv
  by_cases hin : 0 ≤ n ∧ n < 4
  · obtain hn | hn | hn | hn : n = 0 ∨ n = 1 ∨ n = 2 ∨ n = 3 := by omega
    · subst hn
      clear hin
      obtain rfl : s = ByteArray.mk #[97, 99, 116, 105, 118, 101] := hs.symm
      clear hs
      go_enter Tryd.func3, Tryd.ntmps3
      go_wp2_with fail
      have hal := (Below.refl (w.alloc (.cells #[.int .i64 t, .int .i64 r, .bool o, .int .i64 d] 23)).heap.size (w.alloc (.cells #[.int .i64 t, .int .i64 r, .bool o, .int .i64 d] 23))).alloc (Nat.le_refl _) (.cells #[.string (ByteArray.mk #[97, 99, 116, 105, 118, 101]), .string (ByteArray.mk #[119, 97, 114, 110, 101, 100]), .string (ByteArray.mk #[112, 97, 115, 115, 105, 118, 101]), .string (ByteArray.mk #[111, 102, 102])] 9)
      have HM2 := Lib.hid (HM.out.later hal)
      have HB2 := Lib.hid (fbelow_t HB.out hal)
      clear hal
      generalize (w.alloc (.cells #[.int .i64 t, .int .i64 r, .bool o, .int .i64 d] 23)).alloc (.cells #[.string (ByteArray.mk #[97, 99, 116, 105, 118, 101]), .string (ByteArray.mk #[119, 97, 114, 110, 101, 100]), .string (ByteArray.mk #[112, 97, 115, 115, 105, 118, 101]), .string (ByteArray.mk #[111, 102, 102])] 9) = w2 at HM2 HB2 ⊢
      obtain ⟨c0, c1, c2, c3⟩ := HM2.out.cells
      have hz : w.heap.size < w2.heap.size := HM2.out.lt
      have hcl : ∀ (n : Later w2) (b o : Nat), b < w2.heap.size → n.w.cell? ⟨b, o, none⟩ = w2.cell? ⟨b, o, none⟩ := later_cells w2
      refine wp_region_later (by kernel_rfl) (by kernel_rfl) ?_
      repeat (go_big_quiet_step (fail))
      go_big_quiet_step (exact Later.call (kcright_v (c := ⟨t, r, o, d⟩) HQ.out _))
      repeat (go_big_quiet_step (fail))
      go_big_quiet_step (exact Later.call (cfright_v HQ.out _))
      repeat (go_big_quiet_step (fail))
      go_big_quiet_step (exact Later.call (kcstate_v (c := ⟨t, r, o, d⟩) HVV.out _))
      repeat (go_big_quiet_step (fail))
      go_big_quiet_step (exact Later.call (cfstate_v HVV.out _))
      repeat (go_big_quiet_step (fail))
      go_big_quiet_step (exact Later.call (kcword_v HSS.out _ (Later.tabC _ (HT.out.below HB2.out))))
      repeat (go_big_quiet_step (fail))
      go_big_quiet_step (exact Later.call (confalive_any _ (Later.tabC _ (HT.out.below HB2.out))))
      repeat (go_big_quiet_step (fail))
      refine wpQuiet_nil ?_
      rintro w3 ⟨l2, rfl⟩
      have HB3 := Lib.hid (fbelow_t HB2.out l2.h)
      go_wp2
      go_ret
      exact ⟨rfl, HB3.out⟩
    · subst hn
      clear hin
      obtain rfl : s = ByteArray.mk #[119, 97, 114, 110, 101, 100] := hs.symm
      clear hs
      go_enter Tryd.func3, Tryd.ntmps3
      go_wp2_with fail
      have hal := (Below.refl (w.alloc (.cells #[.int .i64 t, .int .i64 r, .bool o, .int .i64 d] 23)).heap.size (w.alloc (.cells #[.int .i64 t, .int .i64 r, .bool o, .int .i64 d] 23))).alloc (Nat.le_refl _) (.cells #[.string (ByteArray.mk #[97, 99, 116, 105, 118, 101]), .string (ByteArray.mk #[119, 97, 114, 110, 101, 100]), .string (ByteArray.mk #[112, 97, 115, 115, 105, 118, 101]), .string (ByteArray.mk #[111, 102, 102])] 9)
      have HM2 := Lib.hid (HM.out.later hal)
      have HB2 := Lib.hid (fbelow_t HB.out hal)
      clear hal
      generalize (w.alloc (.cells #[.int .i64 t, .int .i64 r, .bool o, .int .i64 d] 23)).alloc (.cells #[.string (ByteArray.mk #[97, 99, 116, 105, 118, 101]), .string (ByteArray.mk #[119, 97, 114, 110, 101, 100]), .string (ByteArray.mk #[112, 97, 115, 115, 105, 118, 101]), .string (ByteArray.mk #[111, 102, 102])] 9) = w2 at HM2 HB2 ⊢
      obtain ⟨c0, c1, c2, c3⟩ := HM2.out.cells
      have hz : w.heap.size < w2.heap.size := HM2.out.lt
      have hcl : ∀ (n : Later w2) (b o : Nat), b < w2.heap.size → n.w.cell? ⟨b, o, none⟩ = w2.cell? ⟨b, o, none⟩ := later_cells w2
      refine wp_region_later (by kernel_rfl) (by kernel_rfl) ?_
      repeat (go_big_quiet_step (fail))
      go_big_quiet_step (exact Later.call (kcright_v (c := ⟨t, r, o, d⟩) HQ.out _))
      repeat (go_big_quiet_step (fail))
      go_big_quiet_step (exact Later.call (cfright_v HQ.out _))
      repeat (go_big_quiet_step (fail))
      go_big_quiet_step (exact Later.call (kcstate_v (c := ⟨t, r, o, d⟩) HVV.out _))
      repeat (go_big_quiet_step (fail))
      go_big_quiet_step (exact Later.call (cfstate_v HVV.out _))
      repeat (go_big_quiet_step (fail))
      go_big_quiet_step (exact Later.call (kcword_v HSS.out _ (Later.tabC _ (HT.out.below HB2.out))))
      repeat (go_big_quiet_step (fail))
      go_big_quiet_step (exact Later.call (confalive_any _ (Later.tabC _ (HT.out.below HB2.out))))
      repeat (go_big_quiet_step (fail))
      refine wpQuiet_nil ?_
      rintro w3 ⟨l2, rfl⟩
      have HB3 := Lib.hid (fbelow_t HB2.out l2.h)
      go_wp2
      go_ret
      exact ⟨rfl, HB3.out⟩
    · subst hn
      clear hin
      obtain rfl : s = ByteArray.mk #[112, 97, 115, 115, 105, 118, 101] := hs.symm
      clear hs
      go_enter Tryd.func3, Tryd.ntmps3
      go_wp2_with fail
      have hal := (Below.refl (w.alloc (.cells #[.int .i64 t, .int .i64 r, .bool o, .int .i64 d] 23)).heap.size (w.alloc (.cells #[.int .i64 t, .int .i64 r, .bool o, .int .i64 d] 23))).alloc (Nat.le_refl _) (.cells #[.string (ByteArray.mk #[97, 99, 116, 105, 118, 101]), .string (ByteArray.mk #[119, 97, 114, 110, 101, 100]), .string (ByteArray.mk #[112, 97, 115, 115, 105, 118, 101]), .string (ByteArray.mk #[111, 102, 102])] 9)
      have HM2 := Lib.hid (HM.out.later hal)
      have HB2 := Lib.hid (fbelow_t HB.out hal)
      clear hal
      generalize (w.alloc (.cells #[.int .i64 t, .int .i64 r, .bool o, .int .i64 d] 23)).alloc (.cells #[.string (ByteArray.mk #[97, 99, 116, 105, 118, 101]), .string (ByteArray.mk #[119, 97, 114, 110, 101, 100]), .string (ByteArray.mk #[112, 97, 115, 115, 105, 118, 101]), .string (ByteArray.mk #[111, 102, 102])] 9) = w2 at HM2 HB2 ⊢
      obtain ⟨c0, c1, c2, c3⟩ := HM2.out.cells
      have hz : w.heap.size < w2.heap.size := HM2.out.lt
      have hcl : ∀ (n : Later w2) (b o : Nat), b < w2.heap.size → n.w.cell? ⟨b, o, none⟩ = w2.cell? ⟨b, o, none⟩ := later_cells w2
      refine wp_region_later (by kernel_rfl) (by kernel_rfl) ?_
      repeat (go_big_quiet_step (fail))
      go_big_quiet_step (exact Later.call (kcright_v (c := ⟨t, r, o, d⟩) HQ.out _))
      repeat (go_big_quiet_step (fail))
      go_big_quiet_step (exact Later.call (cfright_v HQ.out _))
      repeat (go_big_quiet_step (fail))
      go_big_quiet_step (exact Later.call (kcstate_v (c := ⟨t, r, o, d⟩) HVV.out _))
      repeat (go_big_quiet_step (fail))
      go_big_quiet_step (exact Later.call (cfstate_v HVV.out _))
      repeat (go_big_quiet_step (fail))
      go_big_quiet_step (exact Later.call (kcword_v HSS.out _ (Later.tabC _ (HT.out.below HB2.out))))
      repeat (go_big_quiet_step (fail))
      go_big_quiet_step (exact Later.call (confalive_any _ (Later.tabC _ (HT.out.below HB2.out))))
      repeat (go_big_quiet_step (fail))
      refine wpQuiet_nil ?_
      rintro w3 ⟨l2, rfl⟩
      have HB3 := Lib.hid (fbelow_t HB2.out l2.h)
      go_wp2
      go_ret
      exact ⟨rfl, HB3.out⟩
    · subst hn
      clear hin
      obtain rfl : s = ByteArray.mk #[111, 102, 102] := hs.symm
      clear hs
      go_enter Tryd.func3, Tryd.ntmps3
      go_wp2_with fail
      have hal := (Below.refl (w.alloc (.cells #[.int .i64 t, .int .i64 r, .bool o, .int .i64 d] 23)).heap.size (w.alloc (.cells #[.int .i64 t, .int .i64 r, .bool o, .int .i64 d] 23))).alloc (Nat.le_refl _) (.cells #[.string (ByteArray.mk #[97, 99, 116, 105, 118, 101]), .string (ByteArray.mk #[119, 97, 114, 110, 101, 100]), .string (ByteArray.mk #[112, 97, 115, 115, 105, 118, 101]), .string (ByteArray.mk #[111, 102, 102])] 9)
      have HM2 := Lib.hid (HM.out.later hal)
      have HB2 := Lib.hid (fbelow_t HB.out hal)
      clear hal
      generalize (w.alloc (.cells #[.int .i64 t, .int .i64 r, .bool o, .int .i64 d] 23)).alloc (.cells #[.string (ByteArray.mk #[97, 99, 116, 105, 118, 101]), .string (ByteArray.mk #[119, 97, 114, 110, 101, 100]), .string (ByteArray.mk #[112, 97, 115, 115, 105, 118, 101]), .string (ByteArray.mk #[111, 102, 102])] 9) = w2 at HM2 HB2 ⊢
      obtain ⟨c0, c1, c2, c3⟩ := HM2.out.cells
      have hz : w.heap.size < w2.heap.size := HM2.out.lt
      have hcl : ∀ (n : Later w2) (b o : Nat), b < w2.heap.size → n.w.cell? ⟨b, o, none⟩ = w2.cell? ⟨b, o, none⟩ := later_cells w2
      refine wp_region_later (by kernel_rfl) (by kernel_rfl) ?_
      repeat (go_big_quiet_step (fail))
      go_big_quiet_step (exact Later.call (kcright_v (c := ⟨t, r, o, d⟩) HQ.out _))
      repeat (go_big_quiet_step (fail))
      go_big_quiet_step (exact Later.call (cfright_v HQ.out _))
      repeat (go_big_quiet_step (fail))
      go_big_quiet_step (exact Later.call (kcstate_v (c := ⟨t, r, o, d⟩) HVV.out _))
      repeat (go_big_quiet_step (fail))
      go_big_quiet_step (exact Later.call (cfstate_v HVV.out _))
      repeat (go_big_quiet_step (fail))
      go_big_quiet_step (exact Later.call (kcword_v HSS.out _ (Later.tabC _ (HT.out.below HB2.out))))
      repeat (go_big_quiet_step (fail))
      go_big_quiet_step (exact Later.call (confalive_any _ (Later.tabC _ (HT.out.below HB2.out))))
      repeat (go_big_quiet_step (fail))
      refine wpQuiet_nil ?_
      rintro w3 ⟨l2, rfl⟩
      have HB3 := Lib.hid (fbelow_t HB2.out l2.h)
      go_wp2
      go_ret
      exact ⟨rfl, HB3.out⟩
  · have hn : wordS n = ByteArray.mk #[] := by unfold wordS; rw [if_neg (by omega), if_neg (by omega), if_neg (by omega), if_neg (by omega)]
    rw [hn] at hs
    subst hs
    clear hn
    go_enter Tryd.func3, Tryd.ntmps3
    go_wp2_with fail
    all_goals (
      have HM2 := HM
      have HB2 := HB
      generalize (w.alloc (.cells #[.int .i64 t, .int .i64 r, .bool o, .int .i64 d] 23)) = w2 at HM2 HB2 ⊢
      obtain ⟨c0, c1, c2, c3⟩ := HM2.out.cells
      have hz : w.heap.size < w2.heap.size := HM2.out.lt
      have hcl : ∀ (n : Later w2) (b o : Nat), b < w2.heap.size → n.w.cell? ⟨b, o, none⟩ = w2.cell? ⟨b, o, none⟩ := later_cells w2
      refine wp_region_later (by kernel_rfl) (by kernel_rfl) ?_
      repeat (go_big_quiet_step (fail))
      go_big_quiet_step (exact Later.call (kcright_v (c := ⟨t, r, o, d⟩) HQ.out _))
      repeat (go_big_quiet_step (fail))
      go_big_quiet_step (exact Later.call (cfright_v HQ.out _))
      repeat (go_big_quiet_step (fail))
      go_big_quiet_step (exact Later.call (kcstate_v (c := ⟨t, r, o, d⟩) HVV.out _))
      repeat (go_big_quiet_step (fail))
      go_big_quiet_step (exact Later.call (cfstate_v HVV.out _))
      repeat (go_big_quiet_step (fail))
      go_big_quiet_step (exact Later.call (kcword_v HSS.out _ (Later.tabC _ (HT.out.below HB2.out))))
      repeat (go_big_quiet_step (fail))
      go_big_quiet_step (exact Later.call (confalive_any _ (Later.tabC _ (HT.out.below HB2.out))))
      repeat (go_big_quiet_step (fail))
      refine wpQuiet_nil ?_
      rintro w3 ⟨l2, rfl⟩
      have HB3 := Lib.hid (fbelow_t HB2.out l2.h)
      go_wp2
      go_ret
      exact ⟨rfl, HB3.out⟩)
end Go.Proofs.YtiibaldnpaopjaaDoor
