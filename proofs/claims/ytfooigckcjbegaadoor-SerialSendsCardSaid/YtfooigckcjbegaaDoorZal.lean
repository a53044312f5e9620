/- Serial, the document's side: Hear. -/
import Derived.Test.YtfooigckcjbegaaDoorZak
namespace Go.Proofs.YtfooigckcjbegaaDoor
open Go.RowKit
set_option linter.unusedVariables false

theorem sunst_v {s u : ByteArray} {L : List Int} {n : Int} (h : unL (byL s) = (L, n)) (hu : strOfNums L = u) (hs : s.size ≤ 200000) (w : World) :
    Calls Tryd.prog 30 #[.string s] w fun e w' => e = .returned (.tuple #[.string u, .int .i64 n]) ∧ Below w.heap.size w w' := by
  subst hu
  exact sunstuff_v h hs w
theorem cut_from {s : ByteArray} {k : Nat} (h : k ≤ s.size) (w : World) : (Instr.sliceAt 9 (.string s) (some (.int .i64 (k : Int))) none none).run Tryd.prog w = .ok (.string (s.extract k s.size)) w := by
  have e2 : (k : Int) ≤ (s.size : Int) := by omega
  simp [go_sem, e2]
def emp : ByteArray := ByteArray.mk #[]
structure H2 (w w1 : World) : Prop where
  below : Below w.heap.size w w1
  res : BoxF w1 w.heap.size 0 0 0 (ByteArray.mk #[])
  non : BoxF w1 (w.heap.size + 1) 0 0 0 (ByteArray.mk #[])
theorem H2.later {w w1 w2 : World} (h : H2 w w1) (hb : Below w1.heap.size w1 w2) : H2 w w2 := ⟨h.below.trans (hb.mono h.below.size), h.res.later hb, h.non.later hb⟩
theorem H2.start (w : World) : H2 w ((w.alloc (.cells #[.int .i64 0, .int .i64 0, .int .i64 0, .string (ByteArray.mk #[])] 23)).alloc (.cells #[.int .i64 0, .int .i64 0, .int .i64 0, .string (ByteArray.mk #[])] 23)) := by
  have h1 := BoxF.made w 0 0 0 (ByteArray.mk #[])
  have h2 := BoxF.made (w.alloc (.cells #[.int .i64 0, .int .i64 0, .int .i64 0, .string (ByteArray.mk #[])] 23)) 0 0 0 (ByteArray.mk #[])
  rw [World.size_alloc] at h2
  exact ⟨((Below.refl _ w).alloc (Nat.le_refl _) _).alloc (by simp) _, h1.later ((Below.refl _ _).alloc (Nat.le_refl _) _), h2⟩

theorem sent_parts {i n l : Int} {d s : ByteArray} (hp : PlainP i n l d.size) (h : strOfNums (sendL i n l (byL d)) = s) :
    ∃ k T b, s.size = k + 10 ∧ k ≤ 200 ∧ s.extract 0 k = T ∧ s.extract k s.size = ByteArray.mk #[49, 48, 49, 49, 49, 49, 49, 49, 49, 49] ∧ unL (byL T) = (frameL i n l (byL d), -1) ∧ strOfNums (frameL i n l (byL d)) = b ∧ byL b = frameL i n l (byL d) ∧ 34 ≤ b.size ∧ b.size ≤ 118 := by
  have hbs : byL s = stuffL (frameL i n l (byL d)) ++ tailL := by rw [← h, byL_nums (isBy_bits (sendL_bits ..))]; rfl
  have hl := congrArg List.length hbs
  rw [List.length_append, byL_len, show tailL.length = 10 from rfl] at hl
  have hd8 := hp.d8
  have hf := frame_small (i := i) (n := n) (l := l) (D := byL d) (by rw [byL_len]; exact hd8)
  have hst := (stuff_len (frameL i n l (byL d))).1
  have hbb : byL (strOfNums (frameL i n l (byL d))) = frameL i n l (byL d) := byL_nums (isBy_bits (frameL_bits ..))
  refine ⟨(stuffL (frameL i n l (byL d))).length, _, _, hl, by omega, rfl, ?_, ?_, rfl, hbb, ?_, ?_⟩
  · apply byL_inj
    rw [byL_extract, List.take_of_length_le (by rw [byL_len]; omega), hbs, List.drop_left]
    rfl
  · rw [byL_extract, List.drop_zero, hbs, List.take_left]
    exact un_stuff (frameL_bits ..)
  · rw [numsz, frameL_len]; split <;> omega
  · rw [numsz]; exact hf

structure HL (w : World) (g : Nat) (i n l : Int) (t : ByteArray) (wr : World) : Prop where
  h2 : H2 w wr
  f : BoxF wr g i n l t
  hg : w.heap.size + 1 < g
theorem HL.later {w wr w' : World} {g : Nat} {i n l : Int} {t : ByteArray} (h : HL w g i n l t wr) (hb : Below wr.heap.size wr w') : HL w g i n l t w' := ⟨h.h2.later hb, h.f.later hb, h.hg⟩
theorem BoxF.live {w : World} {b : Nat} {i n l : Int} {d : ByteArray} (h : BoxF w b i n l d) : w.frozen? ⟨b, 0, none⟩ = false ∧ w.frozen? ⟨b, 1, none⟩ = false ∧ w.frozen? ⟨b, 2, none⟩ = false ∧ w.frozen? ⟨b, 3, none⟩ = false := by
  unfold BoxF at h
  exact ⟨Lib.frozen_of_heap h 0, Lib.frozen_of_heap h 1, Lib.frozen_of_heap h 2, Lib.frozen_of_heap h 3⟩
theorem BoxF.other {w : World} {b g j : Nat} {i n l : Int} {d : ByteArray} (h : BoxF w b i n l d) (hbg : b ≠ g) (u : Value) : BoxF (w.setCell ⟨g, j, none⟩ u) b i n l d := by
  unfold BoxF at h ⊢
  rw [Below.heap_setCell _ _ _ _ hbg]
  exact h
theorem BoxF.set3 {w : World} {b : Nat} {i n l : Int} {d : ByteArray} (h : BoxF w b i n l d) (t : ByteArray) : BoxF (w.setCell ⟨b, 3, none⟩ (.string t)) b i n l t := by
  unfold BoxF at h ⊢
  rw [heap_setCell_same w b 3 _ _ _ h]
  rfl
theorem HL.set3 {w wr : World} {g : Nat} {i n l : Int} {t : ByteArray} (h : HL w g i n l t wr) (u : ByteArray) : HL w g i n l u (wr.setCell ⟨g, 3, none⟩ (.string u)) := by
  have hg := h.hg
  exact ⟨⟨h.h2.below.setCell (p := ⟨g, 3, none⟩) (by show w.heap.size ≤ g; omega) _, h.h2.res.other (by omega) _, h.h2.non.other (by omega) _⟩, h.f.set3 u, h.hg⟩
theorem HL.alloc {w wr : World} {g : Nat} {i n l : Int} {t : ByteArray} (h : HL w g i n l t wr) (o : Obj) : HL w g i n l t (wr.alloc o) := h.later ((Below.refl _ _).alloc (Nat.le_refl _) o)
theorem HL.made {w w1 : World} (h : H2 w w1) (i n l : Int) (t : ByteArray) : HL w w1.heap.size i n l t (w1.alloc (.cells #[.int .i64 i, .int .i64 n, .int .i64 l, .string t] 23)) :=
  ⟨h.later ((Below.refl _ _).alloc (Nat.le_refl _) _), BoxF.made _ _ _ _ _, h.non.lt⟩
theorem H2.done {w w1 : World} (h : H2 w w1) (a b c e : Value) : Below w.heap.size w ((((w1.setCell ⟨w.heap.size, 0, none⟩ a).setCell ⟨w.heap.size, 1, none⟩ b).setCell ⟨w.heap.size, 2, none⟩ c).setCell ⟨w.heap.size, 3, none⟩ e) :=
  ((((h.below.setCell (p := ⟨w.heap.size, 0, none⟩) (Nat.le_refl _) _).setCell (p := ⟨w.heap.size, 1, none⟩) (Nat.le_refl _) _).setCell (p := ⟨w.heap.size, 2, none⟩) (Nat.le_refl _) _).setCell (p := ⟨w.heap.size, 3, none⟩) (Nat.le_refl _) _)
theorem snum_i {b : ByteArray} {k m : Nat} {a v : Int} (ha : (k : Int) = a) (h : numAt (byL b) k m = v) (hb : bitsB (byL b) = true) (hs : b.size ≤ 100000) (hm : m ≤ 60) (hk : k ≤ 100000) (w : World) :
    Calls Tryd.prog 31 #[.string b, .int .i64 a, .int .i64 m] w fun e w' => e = .returned (.int .i64 v) ∧ w = w' := by
  subst ha
  exact snum_v h hb hs hm hk w

set_option maxHeartbeats 4000000 in
theorem shear_nd {i n l : Int} {d s : ByteArray} (hpF : plainF i n l d.size = true) (hE : fE n = false) (hR : fR n = false) (h : strOfNums (sendL i n l (byL d)) = s) (w : World) :
    Calls Tryd.prog 15 #[.string s] w fun e w' => e = .returned (.tuple #[.agg #[.int .i64 i, .int .i64 n, .int .i64 l, .string d], .bool true]) ∧ Below w.heap.size w w' := by
  have hp := plain_parts hpF
  have HPF := Lib.hid hpF
  obtain ⟨k, T, b, hsz, hk, hT, htl, hun, hb, hbb, hb1, hb2⟩ := sent_parts hp h
  have HP := Lib.hid hp
  have HS := Lib.hid h
  have HUN := Lib.hid hun
  have HB := Lib.hid hb
  have hc1 : ∀ w, (Instr.sliceAt 9 (.string s) (some (.int .i64 (k : Int))) none none).run Tryd.prog w = _ := fun w => cut_from (by omega) w
  have hc2 : ∀ w, (Instr.sliceAt 9 (.string s) none (some (.int .i64 (k : Int))) none).run Tryd.prog w = _ := fun w => cut_ahead (by omega) w
  rw [htl] at hc1
  rw [hT] at hc2
  have hn : (s.size : Int) - 10 = (k : Int) := by omega
  have HTS : Hid (T.size ≤ 200000) := Lib.hid (by rw [← hT, ByteArray.size_extract]; omega)
  obtain ⟨p1, p2, p3, p4⟩ := places_n (C := bitsI (checkL (headL i n l (byL d))) 15) (by rw [byL_len]; exact hp) hE
  have hbf : byL b = headL i n l (byL d) ++ bitsI (checkL (headL i n l (byL d))) 15 := hbb
  rw [← hbf] at p1 p2 p3 p4
  rw [hR, if_neg (by decide)] at p2
  have P1 := Lib.hid p1
  have P2 := Lib.hid p2
  have P3 := Lib.hid p3
  have P4 := Lib.hid p4
  have HQB : Hid (bitsB (byL b) = true) := Lib.hid (by rw [hbb]; exact frameL_bits ..)
  have HBS : Hid (b.size ≤ 100000) := Lib.hid (by omega)
  have hb3 : (34 : Int) ≤ b.size := by omega
  have hb4 : (b.size : Int) ≤ 118 := by omega
  have i0 := hp.i0
  have i1 := hp.i1
  have l0 := hp.l0
  have l8 := hp.l8
  have hn0 : n = 0 := by
    have h1 := hp.n0; have h2 := hp.n4
    unfold fE at hE; unfold fR at hR
    rw [decide_eq_false_iff_not] at hE
    rw [decide_eq_false_iff_not] at hR
    omega
  have hdl : (d.size : Int) = l := hp.dL hR
  have PD : Hid (∀ x, x < d.size → numAt (byL b) (19 + 8 * x) 8 = bt d x) := Lib.hid (fun x hx => by
    have := places_d (i := i) (n := n) (l := l) (C := bitsI (checkL (headL i n l (byL d))) 15) (byL_by d) x (by rw [byL_len]; exact hx)
    rw [hE] at this
    rw [hbf, ← byL_getD]
    exact this)
  subst hn0
  subst hdl
  clear hpF hp hE hR h hsz hT htl hun hb hbb hb1 hb2 p1 p2 p3 p4 hbf
  go_enter Tryd.func15, Tryd.ntmps15
  go_wp2_with fail
  refine (sunst_v HUN.out HB.out HTS.out _).mono ?_
  rintro e w1 ⟨rfl, hb1⟩
  have HH := Lib.hid ((H2.start w).later hb1)
  clear hb1
  go_wp2_with fail
  refine (snum_v (k := 1) (m := 11) P1.out HQB.out HBS.out (by decide) (by decide) _).mono ?_
  rintro e w2 ⟨rfl, rfl⟩
  go_wp2_with fail
  refine (snum_v (k := 12) (m := 1) P2.out HQB.out HBS.out (by decide) (by decide) _).mono ?_
  rintro e w2 ⟨rfl, rfl⟩
  go_wp2_with fail
  refine (snum_v (k := 13) (m := 1) P3.out HQB.out HBS.out (by decide) (by decide) _).mono ?_
  rintro e w2 ⟨rfl, rfl⟩
  go_wp2_with fail
  refine (snum_v (k := 15) (m := 4) P4.out HQB.out HBS.out (by decide) (by decide) _).mono ?_
  rintro e w2 ⟨rfl, rfl⟩
  go_wp2_with fail
  have HLL := Lib.hid (HL.made HH.out i 0 (d.size : Int) (ByteArray.mk #[]))
  have hcv := conv1
  go_loopw [11] (fun v wr => ∃ x : Nat, x ≤ d.size ∧ v = .int .i64 x ∧ Hid (HL w w1.heap.size i 0 (d.size : Int) (strOfNums ((byL d).take x)) wr)) (fun v _ => d.size - (intOf v).toNat)
  case atStart => exact ⟨0, Nat.zero_le _, rfl, by rw [List.take_zero]; exact HLL⟩
  case round =>
    obtain ⟨x, hx, rfl, HI⟩ := hrel
    obtain ⟨a0, a1, a2, a3⟩ := HI.out.f.cells
    have hz : w1.heap.size < wr.heap.size := HI.out.f.lt
    by_cases hlt : x < d.size
    · have HV := Lib.hid (PD.out x hlt)
      obtain ⟨f0, f1, f2, f3⟩ := HI.out.f.live
      obtain ⟨g0, g1⟩ := bt_byte d x
      have HT : Hid (strOfNums ((byL d).take (x + 1)) = strOfNums ((byL d).take x) ++ strOfNums [bt d x]) := Lib.hid (by rw [byL_take hlt, nums_app])
      have zt : (strOfNums ((byL d).take x)).size ≤ 8 := by rw [numsz, List.length_take, byL_len]; omega
      have z1 : (strOfNums [bt d x]).size = 1 := by rw [numsz]; rfl
      generalize strOfNums ((byL d).take x) = t at HI HT zt a3
      generalize bt d x = c at HV HT g0 g1 z1
      have hs1 : ¬ 9223372036854775807 < t.size + (strOfNums [c]).size := by omega
      go_wp2_with fail
      refine (snum_i (k := 19 + 8 * x) (m := 8) (by omega) HV.out HQB.out HBS.out (by decide) (by omega) _).mono ?_
      rintro e w2 ⟨rfl, rfl⟩
      go_wp2_with fail
      go_roundw
      case rel => exact ⟨x + 1, by omega, by go_num, by rw [HT.out]; exact Lib.hid ((HI.out.set3 _).alloc _)⟩
      case measure => simp [intOf]; omega
    · obtain rfl : x = d.size := by omega
      rw [List.take_of_length_le (by rw [byL_len]; omega), nums_byL] at HI a3
      go_wp2_with fail
      refine (splain_v HPF.out _).mono ?_
      rintro e w2 ⟨rfl, hb2⟩
      have HI2 := Lib.hid (HI.out.later hb2)
      clear hb2 a0 a1 a2 a3 hz
      obtain ⟨a0, a1, a2, a3⟩ := HI2.out.f.cells
      have hz : w1.heap.size < w2.heap.size := HI2.out.f.lt
      go_wp2_with fail
      refine (ssend_v HP.out HS.out _).mono ?_
      rintro e w3 ⟨rfl, hb3⟩
      have HI3 := Lib.hid (HI2.out.later hb3)
      clear hb3 a0 a1 a2 a3 hz
      obtain ⟨a0, a1, a2, a3⟩ := HI3.out.f.cells
      obtain ⟨r0, r1, r2, r3⟩ := HI3.out.h2.res.cells
      obtain ⟨f0, f1, f2, f3⟩ := HI3.out.h2.res.live
      have hz : w1.heap.size < w3.heap.size := HI3.out.f.lt
      have hy : w.heap.size < w3.heap.size := HI3.out.h2.res.lt
      go_wp2
      refine bodyPost_ret (v := .tuple #[.agg #[.int .i64 i, .int .i64 0, .int .i64 (d.size : Int), .string d], .bool true]) (by simp [results, Tryd.results15, go_sem, r0, r1, r2, r3]) rfl ⟨rfl, HI3.out.h2.done _ _ _ _⟩

set_option maxHeartbeats 4000000 in
theorem shear_nr {i n l : Int} {d s : ByteArray} (hpF : plainF i n l d.size = true) (hE : fE n = false) (hR : fR n = true) (h : strOfNums (sendL i n l (byL d)) = s) (w : World) :
    Calls Tryd.prog 15 #[.string s] w fun e w' => e = .returned (.tuple #[.agg #[.int .i64 i, .int .i64 n, .int .i64 l, .string d], .bool true]) ∧ Below w.heap.size w w' := by
  have hp := plain_parts hpF
  have HPF := Lib.hid hpF
  obtain ⟨k, T, b, hsz, hk, hT, htl, hun, hb, hbb, hb1, hb2⟩ := sent_parts hp h
  have HP := Lib.hid hp
  have HS := Lib.hid h
  have HUN := Lib.hid hun
  have HB := Lib.hid hb
  have hc1 : ∀ w, (Instr.sliceAt 9 (.string s) (some (.int .i64 (k : Int))) none none).run Tryd.prog w = _ := fun w => cut_from (by omega) w
  have hc2 : ∀ w, (Instr.sliceAt 9 (.string s) none (some (.int .i64 (k : Int))) none).run Tryd.prog w = _ := fun w => cut_ahead (by omega) w
  rw [htl] at hc1
  rw [hT] at hc2
  have hn : (s.size : Int) - 10 = (k : Int) := by omega
  have HTS : Hid (T.size ≤ 200000) := Lib.hid (by rw [← hT, ByteArray.size_extract]; omega)
  obtain ⟨p1, p2, p3, p4⟩ := places_n (C := bitsI (checkL (headL i n l (byL d))) 15) (by rw [byL_len]; exact hp) hE
  have hbf : byL b = headL i n l (byL d) ++ bitsI (checkL (headL i n l (byL d))) 15 := hbb
  rw [← hbf] at p1 p2 p3 p4
  rw [hR, if_pos rfl] at p2
  have P1 := Lib.hid p1
  have P2 := Lib.hid p2
  have P3 := Lib.hid p3
  have P4 := Lib.hid p4
  have HQB : Hid (bitsB (byL b) = true) := Lib.hid (by rw [hbb]; exact frameL_bits ..)
  have HBS : Hid (b.size ≤ 100000) := Lib.hid (by omega)
  have hb3 : (34 : Int) ≤ b.size := by omega
  have hb4 : (b.size : Int) ≤ 118 := by omega
  have i0 := hp.i0
  have i1 := hp.i1
  have l0 := hp.l0
  have l8 := hp.l8
  have hn0 : n = 2 := by
    have h1 := hp.n0; have h2 := hp.n4
    unfold fE at hE; unfold fR at hR
    rw [decide_eq_false_iff_not] at hE
    rw [decide_eq_true_eq] at hR
    omega
  have hd0 : d = ByteArray.mk #[] := byL_inj (List.eq_nil_of_length_eq_zero (by rw [byL_len]; exact hp.dR hR))
  subst hn0
  subst hd0
  clear hpF hp hE hR h hsz hT htl hun hb hbb hb1 hb2 p1 p2 p3 p4 hbf
  go_enter Tryd.func15, Tryd.ntmps15
  go_wp2_with fail
  refine (sunst_v HUN.out HB.out HTS.out _).mono ?_
  rintro e w1 ⟨rfl, hb1⟩
  have HH := Lib.hid ((H2.start w).later hb1)
  clear hb1
  go_wp2_with fail
  refine (snum_v (k := 1) (m := 11) P1.out HQB.out HBS.out (by decide) (by decide) _).mono ?_
  rintro e w2 ⟨rfl, rfl⟩
  go_wp2_with fail
  refine (snum_v (k := 12) (m := 1) P2.out HQB.out HBS.out (by decide) (by decide) _).mono ?_
  rintro e w2 ⟨rfl, rfl⟩
  go_wp2_with fail
  refine (snum_v (k := 13) (m := 1) P3.out HQB.out HBS.out (by decide) (by decide) _).mono ?_
  rintro e w2 ⟨rfl, rfl⟩
  go_wp2_with fail
  refine (snum_v (k := 15) (m := 4) P4.out HQB.out HBS.out (by decide) (by decide) _).mono ?_
  rintro e w2 ⟨rfl, rfl⟩
  have HI := Lib.hid (HL.made HH.out i 2 l (ByteArray.mk #[]))
  obtain ⟨a0, a1, a2, a3⟩ := HI.out.f.cells
  have hz : w1.heap.size < (w1.alloc (.cells #[.int .i64 i, .int .i64 2, .int .i64 l, .string (ByteArray.mk #[])] 23)).heap.size := HI.out.f.lt
  go_wp2_with fail
  refine (splain_v HPF.out _).mono ?_
  rintro e w2 ⟨rfl, hb2⟩
  have HI2 := Lib.hid (HI.out.later hb2)
  clear hb2 a0 a1 a2 a3 hz
  obtain ⟨a0, a1, a2, a3⟩ := HI2.out.f.cells
  have hz : w1.heap.size < w2.heap.size := HI2.out.f.lt
  go_wp2_with fail
  refine (ssend_v HP.out HS.out _).mono ?_
  rintro e w3 ⟨rfl, hb3⟩
  have HI3 := Lib.hid (HI2.out.later hb3)
  clear hb3 a0 a1 a2 a3 hz
  obtain ⟨a0, a1, a2, a3⟩ := HI3.out.f.cells
  obtain ⟨r0, r1, r2, r3⟩ := HI3.out.h2.res.cells
  obtain ⟨f0, f1, f2, f3⟩ := HI3.out.h2.res.live
  have hz : w1.heap.size < w3.heap.size := HI3.out.f.lt
  have hy : w.heap.size < w3.heap.size := HI3.out.h2.res.lt
  go_wp2
  refine bodyPost_ret (v := .tuple #[.agg #[.int .i64 i, .int .i64 2, .int .i64 l, .string (ByteArray.mk #[])], .bool true]) (by simp [results, Tryd.results15, go_sem, r0, r1, r2, r3]) rfl ⟨rfl, HI3.out.h2.done _ _ _ _⟩

set_option maxHeartbeats 4000000 in
theorem shear_wd {i n l : Int} {d s : ByteArray} (hpF : plainF i n l d.size = true) (hE : fE n = true) (hR : fR n = false) (h : strOfNums (sendL i n l (byL d)) = s) (w : World) :
    Calls Tryd.prog 15 #[.string s] w fun e w' => e = .returned (.tuple #[.agg #[.int .i64 i, .int .i64 n, .int .i64 l, .string d], .bool true]) ∧ Below w.heap.size w w' := by
  have hp := plain_parts hpF
  have HPF := Lib.hid hpF
  obtain ⟨k, T, b, hsz, hk, hT, htl, hun, hb, hbb, hb1, hb2⟩ := sent_parts hp h
  have HP := Lib.hid hp
  have HS := Lib.hid h
  have HUN := Lib.hid hun
  have HB := Lib.hid hb
  have hc1 : ∀ w, (Instr.sliceAt 9 (.string s) (some (.int .i64 (k : Int))) none none).run Tryd.prog w = _ := fun w => cut_from (by omega) w
  have hc2 : ∀ w, (Instr.sliceAt 9 (.string s) none (some (.int .i64 (k : Int))) none).run Tryd.prog w = _ := fun w => cut_ahead (by omega) w
  rw [htl] at hc1
  rw [hT] at hc2
  have hn : (s.size : Int) - 10 = (k : Int) := by omega
  have HTS : Hid (T.size ≤ 200000) := Lib.hid (by rw [← hT, ByteArray.size_extract]; omega)
  obtain ⟨p1, p3, p14, p2, p4⟩ := places_w (C := bitsI (checkL (headL i n l (byL d))) 15) (by rw [byL_len]; exact hp) hE
  have hbf : byL b = headL i n l (byL d) ++ bitsI (checkL (headL i n l (byL d))) 15 := hbb
  rw [← hbf] at p1 p2 p3 p4 p14
  rw [hR, if_neg (by decide)] at p2
  have P14 := Lib.hid p14
  obtain ⟨v12, hv12⟩ : ∃ v, numAt (byL b) 12 1 = v := ⟨_, rfl⟩
  have P12 := Lib.hid hv12
  clear hv12
  have P1 := Lib.hid p1
  have P2 := Lib.hid p2
  have P3 := Lib.hid p3
  have P4 := Lib.hid p4
  have HQB : Hid (bitsB (byL b) = true) := Lib.hid (by rw [hbb]; exact frameL_bits ..)
  have HBS : Hid (b.size ≤ 100000) := Lib.hid (by omega)
  have hb3 : (34 : Int) ≤ b.size := by omega
  have hb4 : (b.size : Int) ≤ 118 := by omega
  have i0 := hp.i0
  have i1 := hp.i1
  have l0 := hp.l0
  have l8 := hp.l8
  have hn0 : n = 1 := by
    have h1 := hp.n0; have h2 := hp.n4
    unfold fE at hE; unfold fR at hR
    rw [decide_eq_true_eq] at hE
    rw [decide_eq_false_iff_not] at hR
    omega
  have hdl : (d.size : Int) = l := hp.dL hR
  have PD : Hid (∀ x, x < d.size → numAt (byL b) (39 + 8 * x) 8 = bt d x) := Lib.hid (fun x hx => by
    have := places_d (i := i) (n := n) (l := l) (C := bitsI (checkL (headL i n l (byL d))) 15) (byL_by d) x (by rw [byL_len]; exact hx)
    rw [hE] at this
    rw [hbf, ← byL_getD]
    exact this)
  subst hn0
  subst hdl
  have hid : i / 262144 * 262144 + i % 262144 = i := by omega
  have hq0 : 0 ≤ i / 262144 := by omega
  have hq1 : i / 262144 ≤ 2047 := by omega
  have hq2 : 0 ≤ i % 262144 := by omega
  have hq3 : i % 262144 < 262144 := by omega
  obtain ⟨hi, hhi⟩ : ∃ x, i / 262144 = x := ⟨_, rfl⟩
  obtain ⟨lo, hlo⟩ : ∃ x, i % 262144 = x := ⟨_, rfl⟩
  rw [hhi] at P1 hid hq0 hq1
  rw [hlo] at P14 hid hq2 hq3
  clear hhi hlo p14
  clear hpF hp hE hR h hsz hT htl hun hb hbb hb1 hb2 p1 p2 p3 p4 hbf
  go_enter Tryd.func15, Tryd.ntmps15
  go_wp2_with fail
  refine (sunst_v HUN.out HB.out HTS.out _).mono ?_
  rintro e w1 ⟨rfl, hb1⟩
  have HH := Lib.hid ((H2.start w).later hb1)
  clear hb1
  go_wp2_with fail
  refine (snum_v (k := 1) (m := 11) P1.out HQB.out HBS.out (by decide) (by decide) _).mono ?_
  rintro e w2 ⟨rfl, rfl⟩
  go_wp2_with fail
  refine (snum_v (k := 12) (m := 1) P12.out HQB.out HBS.out (by decide) (by decide) _).mono ?_
  rintro e w2 ⟨rfl, rfl⟩
  go_wp2_with fail
  refine (snum_v (k := 13) (m := 1) P3.out HQB.out HBS.out (by decide) (by decide) _).mono ?_
  rintro e w2 ⟨rfl, rfl⟩
  go_wp2_with fail
  refine (snum_v (k := 1) (m := 11) P1.out HQB.out HBS.out (by decide) (by decide) _).mono ?_
  rintro e w2 ⟨rfl, rfl⟩
  go_wp2_with fail
  refine (snum_v (k := 14) (m := 18) P14.out HQB.out HBS.out (by decide) (by decide) _).mono ?_
  rintro e w2 ⟨rfl, rfl⟩
  go_wp2_with fail
  refine (snum_v (k := 32) (m := 1) P2.out HQB.out HBS.out (by decide) (by decide) _).mono ?_
  rintro e w2 ⟨rfl, rfl⟩
  go_wp2_with fail
  refine (snum_v (k := 35) (m := 4) P4.out HQB.out HBS.out (by decide) (by decide) _).mono ?_
  rintro e w2 ⟨rfl, rfl⟩
  go_wp2_with fail
  have HLL := Lib.hid (HL.made HH.out i 1 (d.size : Int) (ByteArray.mk #[]))
  have hcv := conv1
  go_loopw [11] (fun v wr => ∃ x : Nat, x ≤ d.size ∧ v = .int .i64 x ∧ Hid (HL w w1.heap.size i 1 (d.size : Int) (strOfNums ((byL d).take x)) wr)) (fun v _ => d.size - (intOf v).toNat)
  case atStart => exact ⟨0, Nat.zero_le _, rfl, by rw [List.take_zero]; exact HLL⟩
  case round =>
    obtain ⟨x, hx, rfl, HI⟩ := hrel
    obtain ⟨a0, a1, a2, a3⟩ := HI.out.f.cells
    have hz : w1.heap.size < wr.heap.size := HI.out.f.lt
    by_cases hlt : x < d.size
    · have HV := Lib.hid (PD.out x hlt)
      obtain ⟨f0, f1, f2, f3⟩ := HI.out.f.live
      obtain ⟨g0, g1⟩ := bt_byte d x
      have HT : Hid (strOfNums ((byL d).take (x + 1)) = strOfNums ((byL d).take x) ++ strOfNums [bt d x]) := Lib.hid (by rw [byL_take hlt, nums_app])
      have zt : (strOfNums ((byL d).take x)).size ≤ 8 := by rw [numsz, List.length_take, byL_len]; omega
      have z1 : (strOfNums [bt d x]).size = 1 := by rw [numsz]; rfl
      generalize strOfNums ((byL d).take x) = t at HI HT zt a3
      generalize bt d x = c at HV HT g0 g1 z1
      have hs1 : ¬ 9223372036854775807 < t.size + (strOfNums [c]).size := by omega
      go_wp2_with fail
      refine (snum_i (k := 39 + 8 * x) (m := 8) (by omega) HV.out HQB.out HBS.out (by decide) (by omega) _).mono ?_
      rintro e w2 ⟨rfl, rfl⟩
      go_wp2_with fail
      go_roundw
      case rel => exact ⟨x + 1, by omega, by go_num, by rw [HT.out]; exact Lib.hid ((HI.out.set3 _).alloc _)⟩
      case measure => simp [intOf]; omega
    · obtain rfl : x = d.size := by omega
      rw [List.take_of_length_le (by rw [byL_len]; omega), nums_byL] at HI a3
      go_wp2_with fail
      refine (splain_v HPF.out _).mono ?_
      rintro e w2 ⟨rfl, hb2⟩
      have HI2 := Lib.hid (HI.out.later hb2)
      clear hb2 a0 a1 a2 a3 hz
      obtain ⟨a0, a1, a2, a3⟩ := HI2.out.f.cells
      have hz : w1.heap.size < w2.heap.size := HI2.out.f.lt
      go_wp2_with fail
      refine (ssend_v HP.out HS.out _).mono ?_
      rintro e w3 ⟨rfl, hb3⟩
      have HI3 := Lib.hid (HI2.out.later hb3)
      clear hb3 a0 a1 a2 a3 hz
      obtain ⟨a0, a1, a2, a3⟩ := HI3.out.f.cells
      obtain ⟨r0, r1, r2, r3⟩ := HI3.out.h2.res.cells
      obtain ⟨f0, f1, f2, f3⟩ := HI3.out.h2.res.live
      have hz : w1.heap.size < w3.heap.size := HI3.out.f.lt
      have hy : w.heap.size < w3.heap.size := HI3.out.h2.res.lt
      go_wp2
      refine bodyPost_ret (v := .tuple #[.agg #[.int .i64 i, .int .i64 1, .int .i64 (d.size : Int), .string d], .bool true]) (by simp [results, Tryd.results15, go_sem, r0, r1, r2, r3]) rfl ⟨rfl, HI3.out.h2.done _ _ _ _⟩

set_option maxHeartbeats 4000000 in
theorem shear_wr {i n l : Int} {d s : ByteArray} (hpF : plainF i n l d.size = true) (hE : fE n = true) (hR : fR n = true) (h : strOfNums (sendL i n l (byL d)) = s) (w : World) :
    Calls Tryd.prog 15 #[.string s] w fun e w' => e = .returned (.tuple #[.agg #[.int .i64 i, .int .i64 n, .int .i64 l, .string d], .bool true]) ∧ Below w.heap.size w w' := by
  have hp := plain_parts hpF
  have HPF := Lib.hid hpF
  obtain ⟨k, T, b, hsz, hk, hT, htl, hun, hb, hbb, hb1, hb2⟩ := sent_parts hp h
  have HP := Lib.hid hp
  have HS := Lib.hid h
  have HUN := Lib.hid hun
  have HB := Lib.hid hb
  have hc1 : ∀ w, (Instr.sliceAt 9 (.string s) (some (.int .i64 (k : Int))) none none).run Tryd.prog w = _ := fun w => cut_from (by omega) w
  have hc2 : ∀ w, (Instr.sliceAt 9 (.string s) none (some (.int .i64 (k : Int))) none).run Tryd.prog w = _ := fun w => cut_ahead (by omega) w
  rw [htl] at hc1
  rw [hT] at hc2
  have hn : (s.size : Int) - 10 = (k : Int) := by omega
  have HTS : Hid (T.size ≤ 200000) := Lib.hid (by rw [← hT, ByteArray.size_extract]; omega)
  obtain ⟨p1, p3, p14, p2, p4⟩ := places_w (C := bitsI (checkL (headL i n l (byL d))) 15) (by rw [byL_len]; exact hp) hE
  have hbf : byL b = headL i n l (byL d) ++ bitsI (checkL (headL i n l (byL d))) 15 := hbb
  rw [← hbf] at p1 p2 p3 p4 p14
  rw [hR, if_pos rfl] at p2
  have P14 := Lib.hid p14
  obtain ⟨v12, hv12⟩ : ∃ v, numAt (byL b) 12 1 = v := ⟨_, rfl⟩
  have P12 := Lib.hid hv12
  clear hv12
  have P1 := Lib.hid p1
  have P2 := Lib.hid p2
  have P3 := Lib.hid p3
  have P4 := Lib.hid p4
  have HQB : Hid (bitsB (byL b) = true) := Lib.hid (by rw [hbb]; exact frameL_bits ..)
  have HBS : Hid (b.size ≤ 100000) := Lib.hid (by omega)
  have hb3 : (34 : Int) ≤ b.size := by omega
  have hb4 : (b.size : Int) ≤ 118 := by omega
  have i0 := hp.i0
  have i1 := hp.i1
  have l0 := hp.l0
  have l8 := hp.l8
  have hn0 : n = 3 := by
    have h1 := hp.n0; have h2 := hp.n4
    unfold fE at hE; unfold fR at hR
    rw [decide_eq_true_eq] at hE
    rw [decide_eq_true_eq] at hR
    omega
  have hd0 : d = ByteArray.mk #[] := byL_inj (List.eq_nil_of_length_eq_zero (by rw [byL_len]; exact hp.dR hR))
  subst hn0
  subst hd0
  have hid : i / 262144 * 262144 + i % 262144 = i := by omega
  have hq0 : 0 ≤ i / 262144 := by omega
  have hq1 : i / 262144 ≤ 2047 := by omega
  have hq2 : 0 ≤ i % 262144 := by omega
  have hq3 : i % 262144 < 262144 := by omega
  obtain ⟨hi, hhi⟩ : ∃ x, i / 262144 = x := ⟨_, rfl⟩
  obtain ⟨lo, hlo⟩ : ∃ x, i % 262144 = x := ⟨_, rfl⟩
  rw [hhi] at P1 hid hq0 hq1
  rw [hlo] at P14 hid hq2 hq3
  clear hhi hlo p14
  clear hpF hp hE hR h hsz hT htl hun hb hbb hb1 hb2 p1 p2 p3 p4 hbf
  go_enter Tryd.func15, Tryd.ntmps15
  go_wp2_with fail
  refine (sunst_v HUN.out HB.out HTS.out _).mono ?_
  rintro e w1 ⟨rfl, hb1⟩
  have HH := Lib.hid ((H2.start w).later hb1)
  clear hb1
  go_wp2_with fail
  refine (snum_v (k := 1) (m := 11) P1.out HQB.out HBS.out (by decide) (by decide) _).mono ?_
  rintro e w2 ⟨rfl, rfl⟩
  go_wp2_with fail
  refine (snum_v (k := 12) (m := 1) P12.out HQB.out HBS.out (by decide) (by decide) _).mono ?_
  rintro e w2 ⟨rfl, rfl⟩
  go_wp2_with fail
  refine (snum_v (k := 13) (m := 1) P3.out HQB.out HBS.out (by decide) (by decide) _).mono ?_
  rintro e w2 ⟨rfl, rfl⟩
  go_wp2_with fail
  refine (snum_v (k := 1) (m := 11) P1.out HQB.out HBS.out (by decide) (by decide) _).mono ?_
  rintro e w2 ⟨rfl, rfl⟩
  go_wp2_with fail
  refine (snum_v (k := 14) (m := 18) P14.out HQB.out HBS.out (by decide) (by decide) _).mono ?_
  rintro e w2 ⟨rfl, rfl⟩
  go_wp2_with fail
  refine (snum_v (k := 32) (m := 1) P2.out HQB.out HBS.out (by decide) (by decide) _).mono ?_
  rintro e w2 ⟨rfl, rfl⟩
  go_wp2_with fail
  refine (snum_v (k := 35) (m := 4) P4.out HQB.out HBS.out (by decide) (by decide) _).mono ?_
  rintro e w2 ⟨rfl, rfl⟩
  have HI := Lib.hid (HL.made HH.out i 3 l (ByteArray.mk #[]))
  obtain ⟨a0, a1, a2, a3⟩ := HI.out.f.cells
  have hz : w1.heap.size < (w1.alloc (.cells #[.int .i64 i, .int .i64 3, .int .i64 l, .string (ByteArray.mk #[])] 23)).heap.size := HI.out.f.lt
  go_wp2_with fail
  refine (splain_v HPF.out _).mono ?_
  rintro e w2 ⟨rfl, hb2⟩
  have HI2 := Lib.hid (HI.out.later hb2)
  clear hb2 a0 a1 a2 a3 hz
  obtain ⟨a0, a1, a2, a3⟩ := HI2.out.f.cells
  have hz : w1.heap.size < w2.heap.size := HI2.out.f.lt
  go_wp2_with fail
  refine (ssend_v HP.out HS.out _).mono ?_
  rintro e w3 ⟨rfl, hb3⟩
  have HI3 := Lib.hid (HI2.out.later hb3)
  clear hb3 a0 a1 a2 a3 hz
  obtain ⟨a0, a1, a2, a3⟩ := HI3.out.f.cells
  obtain ⟨r0, r1, r2, r3⟩ := HI3.out.h2.res.cells
  obtain ⟨f0, f1, f2, f3⟩ := HI3.out.h2.res.live
  have hz : w1.heap.size < w3.heap.size := HI3.out.f.lt
  have hy : w.heap.size < w3.heap.size := HI3.out.h2.res.lt
  go_wp2
  refine bodyPost_ret (v := .tuple #[.agg #[.int .i64 i, .int .i64 3, .int .i64 l, .string (ByteArray.mk #[])], .bool true]) (by simp [results, Tryd.results15, go_sem, r0, r1, r2, r3]) rfl ⟨rfl, HI3.out.h2.done _ _ _ _⟩

theorem shear_t {i n l : Int} {d s : ByteArray} (hpF : plainF i n l d.size = true) (h : strOfNums (sendL i n l (byL d)) = s) (w : World) :
    Calls Tryd.prog 15 #[.string s] w fun e w' => e = .returned (.tuple #[.agg #[.int .i64 i, .int .i64 n, .int .i64 l, .string d], .bool true]) ∧ Below w.heap.size w w' := by
  cases hE : fE n <;> cases hR : fR n
  · exact shear_nd hpF hE hR h w
  · exact shear_nr hpF hE hR h w
  · exact shear_wd hpF hE hR h w
  · exact shear_wr hpF hE hR h w

end Go.Proofs.YtfooigckcjbegaaDoor
