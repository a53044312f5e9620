/- Dump: contracts of body, Tell. -/
import Derived.Test.YtpjlomgiljpadaaDoorDmpP
import Derived.Test.YtpjlomgiljpadaaDoorDmpSh
import Derived.Test.YtpjlomgiljpadaaDoorDmpSg
namespace Go.Proofs.YtpjlomgiljpadaaDoor
open Go.RowKit
set_option linter.unusedVariables false

theorem itoa1 {k : Int} {M : ByteArray} (h : strOfNums [48 + k] = M) (h0 : 0 ≤ k) (h1 : k < 10) (w : World) :
    Calls Tryd.prog 35 #[.int .i64 k] w fun e w' => e = .returned (.string M) ∧ w = w' := by
  obtain ⟨n, rfl⟩ := Int.eq_ofNat_of_zero_le h0
  refine (Tryd.strconv_Itoa_small n (by omega) w).mono ?_
  rintro e w' ⟨rfl, rfl⟩
  refine ⟨?_, rfl⟩
  rw [Lib.decDigits_one (by omega), ← h]
  have : (48 + (n : Int)).toNat = 48 + n := by omega
  unfold strOfNums
  simp only [List.map_cons, List.map_nil, this]
theorem hex_v {d X : ByteArray} (h : strOfNums (hexl d d.size) = X) (hs : d.size ≤ 100000000) (w : World) :
    Calls Tryd.prog 46 #[.string d] w fun e w' => e = .returned (.string X) ∧ Below w.heap.size w w' := by rw [← h]; exact hex_any d w hs

set_option maxHeartbeats 2000000 in
theorem body_any {f : Fr} (h : f.ok = true) (w : World) :
    Calls Tryd.prog 24 #[.agg #[.int .i64 f.i, .int .i64 f.n, .int .i64 f.l, .string f.d]] w fun e w' => e = .returned (.string (strOfNums (bodyL f))) ∧ Below w.heap.size w w' := by
  have g := good h
  have gl := g.len
  obtain ⟨l0, l64, l8, lr, ld⟩ := gl
  have hm := mrkN_bd f.n
  have noDR := g.noDR
  obtain ⟨i, n, l, d⟩ := f
  simp only at *
  obtain ⟨X, hX⟩ : ∃ X, strOfNums (hexl d d.size) = X := ⟨_, rfl⟩
  have HX := Lib.hid hX
  have hds : d.size ≤ 64 := by
    cases hr : fR n
    · have := ld hr; omega
    · have := lr hr; omega
  have hXs : X.size = 2 * d.size := by rw [← hX, strOfNums_size, hexl_len]
  have hFX : strOfNums (hexF (byL d)) = X := by rw [← hexl_F, hX]
  cases hD : fD n
  · have h8 := and8_f hD
    have l8' := l8 hD
    cases hR : fR n
    · have h2 := and2_f hR
      have HB : Hid (strOfNums (bodyL ⟨i, n, l, d⟩) = X) := Lib.hid (by unfold bodyL; simp only; rw [hR, hD]; exact hFX)
      clear hD hR h hX hFX ld lr l8 g noDR
      go_enter Tryd.func24, Tryd.ntmps24
      go_wp2_with fail
      refine (hex_v HX.out (by omega) _).mono ?_
      rintro e w1 ⟨rfl, hb⟩
      go_wp2
      go_ret
      exact ⟨by rw [HB.out]; rfl, fbelow_a _ hb⟩
    · have h2 := and2_t hR
      by_cases hl : l = 0
      · have HB : Hid (strOfNums (bodyL ⟨i, n, l, d⟩) = ByteArray.mk #[82]) := Lib.hid (by unfold bodyL; simp only; rw [hR, if_pos hl]; rfl)
        subst hl
        clear hD hR h hX hFX ld lr l8 g noDR
        go_enter Tryd.func24, Tryd.ntmps24
        go_wp2_with fail
        go_ret
        exact ⟨by rw [HB.out]; rfl, fbelow_a _ (Below.refl _ _)⟩
      · obtain ⟨M, hM⟩ : ∃ M, strOfNums [48 + l] = M := ⟨_, rfl⟩
        have HM := Lib.hid hM
        have hMs : M.size = 1 := by rw [← hM]; rfl
        have HB : Hid (strOfNums (bodyL ⟨i, n, l, d⟩) = ByteArray.mk #[82] ++ M) := Lib.hid (by unfold bodyL; simp only; rw [hR, if_neg hl, ← hM]; exact nums_app [82] [48 + l])
        have hl1 : (l == 0) = false := by simpa using hl
        have q1 : ¬ 9223372036854775807 < (ByteArray.mk #[82]).size + M.size := by rw [hMs]; decide
        clear hD hR h hX hFX ld lr l8 g noDR
        go_enter Tryd.func24, Tryd.ntmps24
        go_wp2_with fail
        refine (itoa1 HM.out l0 (by omega) _).mono ?_
        rintro e w1 ⟨rfl, rfl⟩
        go_wp2
        go_ret
        exact ⟨by rw [HB.out]; rfl, fbelow_a _ (Below.refl _ _)⟩
  · have h8 := and8_t hD
    obtain ⟨hR, _⟩ := noDR hD
    obtain ⟨m, hm'⟩ : ∃ m, mrkN n = m := ⟨_, rfl⟩
    have Hm := Lib.hid hm'
    rw [hm'] at hm
    obtain ⟨M, hM⟩ : ∃ M, strOfNums [48 + m] = M := ⟨_, rfl⟩
    have HM := Lib.hid hM
    have hMs : M.size = 1 := by rw [← hM]; rfl
    have HB : Hid (strOfNums (bodyL ⟨i, n, l, d⟩) = ByteArray.mk #[35] ++ M ++ X) := Lib.hid (by
      unfold bodyL; simp only
      rw [hR, hD, hm', ← hM, ← hFX]
      show strOfNums ([35] ++ [48 + m] ++ hexF (byL d)) = _
      rw [nums_app, nums_app]; rfl)
    have q1 : ¬ 9223372036854775807 < (ByteArray.mk #[35]).size + M.size := by rw [hMs]; decide
    have q2 : ¬ 9223372036854775807 < (ByteArray.mk #[35] ++ M).size + X.size := by rw [ByteArray.size_append, hMs, hXs]; show ¬ _ < 1 + 1 + _; omega
    clear hD hR h hX hFX ld lr l8 g noDR hm' hM
    go_enter Tryd.func24, Tryd.ntmps24
    go_wp2_with fail
    have hl := later_cells (w.alloc (.cells #[.int .i64 i, .int .i64 n, .int .i64 l, .string d] 23))
    refine wp_region_later (by kernel_rfl) (by kernel_rfl) ?_
    repeat (go_big_quiet_step (fail))
    go_big_quiet_step (exact Later.same (dmarks_v Hm.out _))
    repeat (go_big_quiet_step (fail))
    go_big_quiet_step (exact Later.same (itoa1 HM.out hm.1 (by omega) _))
    repeat (go_big_quiet_step (fail))
    go_big_quiet_step (exact Later.call (hex_v HX.out (by omega) _))
    repeat (go_big_quiet_step (fail))
    refine wpQuiet_nil ?_
    rintro w1 ⟨m, rfl⟩
    have hbm := m.h
    go_wp2
    go_ret
    exact ⟨by rw [HB.out]; rfl, fbelow_a _ hbm⟩

theorem laterTabs {W : World} (n : Later W) (h : Tabs W) : Tabs n.w := h.below n.h
theorem body_v {f : Fr} {X : ByteArray} (h : f.ok = true) (hX : strOfNums (bodyL f) = X) (w : World) :
    Calls Tryd.prog 24 #[.agg #[.int .i64 f.i, .int .i64 f.n, .int .i64 f.l, .string f.d]] w fun e w' => e = .returned (.string X) ∧ Below w.heap.size w w' := by rw [← hX]; exact body_any h w
theorem identifier_v {f : Fr} {X : ByteArray} (h : f.ok = true) (hX : strOfNums (idL f) = X) (w : World) (hT : Tabs w) :
    Calls Tryd.prog 23 #[.agg #[.int .i64 f.i, .int .i64 f.n, .int .i64 f.l, .string f.d]] w fun e w' => e = .returned (.string X) ∧ Below w.heap.size w w' := by rw [← hX]; exact identifier_any h w hT

set_option maxHeartbeats 1000000 in
theorem dtell_f {i n l : Int} {d : ByteArray} (h : okF i n l d.size = false) (w : World) (hT : Tabs w) (hn1 : -9223372036854775808 ≤ n) (hn2 : n ≤ 9223372036854775807) :
    Calls Tryd.prog 8 #[.agg #[.int .i64 i, .int .i64 n, .int .i64 l, .string d]] w fun e w' => e = .returned (.tuple #[.string (ByteArray.mk #[]), .int .i64 4]) ∧ Below w.heap.size w w' := by
  have HT := Lib.hid hT
  have H := Lib.hid h
  clear hT h
  go_enter Tryd.func8, Tryd.ntmps8
  go_wp2_with fail
  refine (right_f H.out _ (HT.out.alloc _) hn1 hn2).mono ?_
  rintro e w1 ⟨rfl, hb⟩
  go_wp2
  go_ret2
  exact ⟨rfl, fbelow_a _ hb⟩

set_option maxHeartbeats 2000000 in
theorem dtell_t {f : Fr} (h : f.ok = true) (w : World) (hT : Tabs w) :
    Calls Tryd.prog 8 #[.agg #[.int .i64 f.i, .int .i64 f.n, .int .i64 f.l, .string f.d]] w fun e w' => e = .returned (.tuple #[.string (tellS f), .int .i64 0]) ∧ Below w.heap.size w w' := by
  obtain ⟨X, hX⟩ : ∃ X, strOfNums (idL f) = X := ⟨_, rfl⟩
  obtain ⟨Y, hY⟩ : ∃ Y, strOfNums (bodyL f) = Y := ⟨_, rfl⟩
  have hXs : X.size ≤ 8 := by rw [← hX, strOfNums_size]; exact idL_len f
  have hYs : Y.size ≤ 130 := by rw [← hY, strOfNums_size]; exact bodyL_len h
  have HS : Hid (X ++ ByteArray.mk #[35] ++ Y = tellS f) := Lib.hid (by
    unfold tellS tellL
    rw [← hX, ← hY]
    show _ = strOfNums (idL f ++ ([35] ++ bodyL f))
    rw [← List.append_assoc, nums_app, nums_app]; rfl)
  have q1 : ¬ 9223372036854775807 < X.size + (ByteArray.mk #[35]).size := by show ¬ _ < X.size + 1; omega
  have q2 : ¬ 9223372036854775807 < (X ++ ByteArray.mk #[35]).size + Y.size := by rw [ByteArray.size_append]; show ¬ _ < X.size + 1 + Y.size; omega
  have HT := Lib.hid hT
  have H := Lib.hid h
  have HX := Lib.hid hX
  have HY := Lib.hid hY
  clear hT h hX hY
  obtain ⟨i, n, l, d⟩ := f
  go_enter Tryd.func8, Tryd.ntmps8
  go_wp2_with fail
  refine (right_t H.out _ (HT.out.alloc _)).mono ?_
  rintro e w1 ⟨rfl, hb⟩
  obtain ⟨hc, hf⟩ := fbcell hb
  have hz : w.heap.size < w1.heap.size := by have := hb.size; simp only [World.size_alloc] at this; omega
  have hl := later_cells w1
  have HT1 : Hid (Tabs w1) := Lib.hid ((HT.out.alloc _).below hb)
  have HB1 := Lib.hid (fbelow_a _ hb)
  clear hb
  go_wp2_with fail
  refine wp_region_later (by kernel_rfl) (by kernel_rfl) ?_
  repeat (go_big_quiet_step (fail))
  go_big_quiet_step (exact Later.call (identifier_v H.out HX.out _ (laterTabs _ HT1.out)))
  repeat (go_big_quiet_step (fail))
  go_big_quiet_step (exact Later.call (body_v H.out HY.out _))
  repeat (go_big_quiet_step (fail))
  refine wpQuiet_nil ?_
  rintro w2 ⟨m, rfl⟩
  have hbm := m.h
  go_wp2
  go_ret2
  exact ⟨by rw [← HS.out]; rfl, HB1.out.trans (hbm.mono HB1.out.size)⟩
theorem dtell_v {f : Fr} {s : ByteArray} (h : f.ok = true) (hs : tellS f = s) (w : World) (hT : Tabs w) :
    Calls Tryd.prog 8 #[.agg #[.int .i64 f.i, .int .i64 f.n, .int .i64 f.l, .string f.d]] w fun e w' => e = .returned (.tuple #[.string s, .int .i64 0]) ∧ Below w.heap.size w w' := by rw [← hs]; exact dtell_t h w hT

end Go.Proofs.YtpjlomgiljpadaaDoor
