/- Dump: contracts of the document's Tell: one walk a path (printed by gen_tell.py). -/
import Derived.Test.YtpjlomgiljpadaaDoorDmpR
namespace Go.Proofs.YtpjlomgiljpadaaDoor
open Go.RowKit
set_option linter.unusedVariables false

theorem sz35 : (ByteArray.mk #[35]).size = 1 := rfl
theorem sz82 : (ByteArray.mk #[82]).size = 1 := rfl
theorem tellS_parts (f : Fr) : tellS f = strOfNums (idL f) ++ ByteArray.mk #[35] ++ strOfNums (bodyL f) := by
  unfold tellS tellL
  show strOfNums (idL f ++ ([35] ++ bodyL f)) = _
  rw [← List.append_assoc, nums_app, nums_app]; rfl
theorem rhex_v {d X : ByteArray} (h : strOfNums (hexl d d.size) = X) (hs : d.size ≤ 100000000) (w : World) :
    Calls Tryd.prog 31 #[.string d] w fun e w' => e = .returned (.string X) ∧ Below w.heap.size w w' := by rw [← h]; exact rhex_any d w hs
theorem hexN_dig (k : Int) (h0 : 0 ≤ k) (h1 : k < 10) : hexN 1 k = [48 + k] := by
  show [] ++ [hx (k % 16)] = _
  rw [show k % 16 = k by omega]
  unfold hx; rw [if_pos h1]; rfl


set_option maxHeartbeats 2000000 in
theorem rtell_00_10000 {i n l : Int} {d : ByteArray} (h : Fr.ok ⟨i, n, l, d⟩ = true) (he : fE n = false) (hx : fX n = false) (hr : fR n = true) (hd : fD n = false) (hbb : fB n = false) (hss : fS n = false) (hl : l = 0) (w : World) :
    Calls Tryd.prog 12 #[.agg #[.int .i64 i, .int .i64 n, .int .i64 l, .string d]] w fun e w' => e = .returned (.string (tellS ⟨i, n, l, d⟩)) ∧ Below w.heap.size w w' := by
  have g := good h
  have n0 := g.n0
  have n1 := g.n1
  have i0 := g.i0
  have i1 := g.top
  have gl := g.len
  simp only at n0 n1 i0 i1 gl
  obtain ⟨l0, l64, l8, lr, ld⟩ := gl
  obtain ⟨X3, hX3⟩ : ∃ X, strOfNums (hexN 3 i) = X := ⟨_, rfl⟩
  have HX3 := Lib.hid hX3
  obtain ⟨X, hX⟩ : ∃ X, X3 = X := ⟨_, rfl⟩
  subst hX
  have hX := hX3
  have hXs : X3.size = 3 := by rw [← hX, strOfNums_size, hexN_len]
  have HI : strOfNums (idL ⟨i, n, l, d⟩) = X3 := by unfold idL; simp only; rw [hx, he]; exact hX
  have q1 : ¬ 9223372036854775807 < X3.size + (ByteArray.mk #[35]).size := by simp only [ByteArray.size_append, sz35, sz82, hXs]; omega
  have q2 : ¬ 9223372036854775807 < (X3 ++ ByteArray.mk #[35]).size + (ByteArray.mk #[82]).size := by simp only [ByteArray.size_append, sz35, sz82, hXs]; omega
  have HS : Hid (X3 ++ ByteArray.mk #[35] ++ ByteArray.mk #[82] = tellS ⟨i, n, l, d⟩) := Lib.hid (by
    rw [tellS_parts, HI]
    unfold bodyL; simp only
    rw [hr, if_pos rfl, if_pos hl]; rfl)
  have He := Lib.hid he
  have Hx := Lib.hid hx
  have Hr := Lib.hid hr
  have Hd := Lib.hid hd
  have Hb := Lib.hid hbb
  have Hs := Lib.hid hss
  subst hl
  clear hX3 he hx hr hd hbb hss lr ld l8 g h HI
  go_enter Tryd.func12, Tryd.ntmps12
  go_wp2_with fail
  refine (rhexn_v HX3.out i0 (by omega) (by omega) _).mono ?_
  rintro e w1 ⟨rfl, hb⟩
  have HB1 := Lib.hid hb
  clear hb
  obtain ⟨hc1, hf1⟩ := fbcell HB1.out
  go_wp2_with fail
  refine (has1 He.out n0 n1 _ _ _ _).mono ?_
  rintro e w2 ⟨rfl, hb⟩
  have HB2 := Lib.hid (fbelow_t HB1.out hb)
  clear hb
  obtain ⟨hc2, hf2⟩ := fbcell HB2.out
  clear hc1 hf1
  go_wp2_with fail
  refine (has4 Hx.out n0 n1 _ _ _ _).mono ?_
  rintro e w3 ⟨rfl, hb⟩
  have HB3 := Lib.hid (fbelow_t HB2.out hb)
  clear hb
  obtain ⟨hc3, hf3⟩ := fbcell HB3.out
  clear hc2 hf2
  go_wp2_with fail
  refine (has2 Hr.out n0 n1 _ _ _ _).mono ?_
  rintro e w4 ⟨rfl, hb⟩
  have HB4 := Lib.hid (fbelow_t HB3.out hb)
  clear hb
  obtain ⟨hc4, hf4⟩ := fbcell HB4.out
  clear hc3 hf3
  go_wp2
  go_ret
  exact ⟨by rw [← HS.out]; rfl, fbelow_a _ HB4.out⟩

set_option maxHeartbeats 2000000 in
theorem rtell_00_11000 {i n l : Int} {d : ByteArray} (h : Fr.ok ⟨i, n, l, d⟩ = true) (he : fE n = false) (hx : fX n = false) (hr : fR n = true) (hd : fD n = false) (hbb : fB n = false) (hss : fS n = false) (hl : 0 < l) (w : World) :
    Calls Tryd.prog 12 #[.agg #[.int .i64 i, .int .i64 n, .int .i64 l, .string d]] w fun e w' => e = .returned (.string (tellS ⟨i, n, l, d⟩)) ∧ Below w.heap.size w w' := by
  have g := good h
  have n0 := g.n0
  have n1 := g.n1
  have i0 := g.i0
  have i1 := g.top
  have gl := g.len
  simp only at n0 n1 i0 i1 gl
  obtain ⟨l0, l64, l8, lr, ld⟩ := gl
  obtain ⟨X3, hX3⟩ : ∃ X, strOfNums (hexN 3 i) = X := ⟨_, rfl⟩
  have HX3 := Lib.hid hX3
  obtain ⟨X, hX⟩ : ∃ X, X3 = X := ⟨_, rfl⟩
  subst hX
  have hX := hX3
  have hXs : X3.size = 3 := by rw [← hX, strOfNums_size, hexN_len]
  have HI : strOfNums (idL ⟨i, n, l, d⟩) = X3 := by unfold idL; simp only; rw [hx, he]; exact hX
  obtain ⟨Y, hY⟩ : ∃ Y, strOfNums (hexN 1 l) = Y := ⟨_, rfl⟩
  have HY := Lib.hid hY
  have l8' := l8 hd
  have hYs : Y.size = 1 := by rw [← hY, strOfNums_size, hexN_len]
  have q1 : ¬ 9223372036854775807 < X3.size + (ByteArray.mk #[35]).size := by simp only [ByteArray.size_append, sz35, sz82, hXs]; omega
  have q2 : ¬ 9223372036854775807 < (X3 ++ ByteArray.mk #[35]).size + (ByteArray.mk #[82]).size := by simp only [ByteArray.size_append, sz35, sz82, hXs]; omega
  have q3 : ¬ 9223372036854775807 < (X3 ++ ByteArray.mk #[35] ++ ByteArray.mk #[82]).size + Y.size := by simp only [ByteArray.size_append, sz35, sz82, hXs, hYs]; omega
  have HS : Hid (X3 ++ ByteArray.mk #[35] ++ ByteArray.mk #[82] ++ Y = tellS ⟨i, n, l, d⟩) := Lib.hid (by
    rw [tellS_parts, HI]
    unfold bodyL; simp only
    rw [hr, if_pos rfl, if_neg (by omega), ← hexN_dig l l0 (by omega)]
    show _ = _ ++ strOfNums ([82] ++ hexN 1 l)
    rw [nums_app, hY, ← ByteArray.append_assoc]; rfl)
  have He := Lib.hid he
  have Hx := Lib.hid hx
  have Hr := Lib.hid hr
  have Hd := Lib.hid hd
  have Hb := Lib.hid hbb
  have Hs := Lib.hid hss
  clear hX3 he hx hr hd hbb hss lr ld l8 g h HI hY
  go_enter Tryd.func12, Tryd.ntmps12
  go_wp2_with fail
  refine (rhexn_v HX3.out i0 (by omega) (by omega) _).mono ?_
  rintro e w1 ⟨rfl, hb⟩
  have HB1 := Lib.hid hb
  clear hb
  obtain ⟨hc1, hf1⟩ := fbcell HB1.out
  go_wp2_with fail
  refine (has1 He.out n0 n1 _ _ _ _).mono ?_
  rintro e w2 ⟨rfl, hb⟩
  have HB2 := Lib.hid (fbelow_t HB1.out hb)
  clear hb
  obtain ⟨hc2, hf2⟩ := fbcell HB2.out
  clear hc1 hf1
  go_wp2_with fail
  refine (has4 Hx.out n0 n1 _ _ _ _).mono ?_
  rintro e w3 ⟨rfl, hb⟩
  have HB3 := Lib.hid (fbelow_t HB2.out hb)
  clear hb
  obtain ⟨hc3, hf3⟩ := fbcell HB3.out
  clear hc2 hf2
  go_wp2_with fail
  refine (has2 Hr.out n0 n1 _ _ _ _).mono ?_
  rintro e w4 ⟨rfl, hb⟩
  have HB4 := Lib.hid (fbelow_t HB3.out hb)
  clear hb
  obtain ⟨hc4, hf4⟩ := fbcell HB4.out
  clear hc3 hf3
  go_wp2_with fail
  refine (rhexn_v HY.out l0 (by omega) (by omega) _).mono ?_
  rintro e w5 ⟨rfl, hb⟩
  have HB5 := Lib.hid (fbelow_t HB4.out hb)
  clear hb
  obtain ⟨hc5, hf5⟩ := fbcell HB5.out
  clear hc4 hf4
  go_wp2
  go_ret
  exact ⟨by rw [← HS.out]; rfl, fbelow_a _ HB5.out⟩

set_option maxHeartbeats 2000000 in
theorem rtell_00_00000 {i n l : Int} {d : ByteArray} (h : Fr.ok ⟨i, n, l, d⟩ = true) (he : fE n = false) (hx : fX n = false) (hr : fR n = false) (hd : fD n = false) (hbb : fB n = false) (hss : fS n = false) (w : World) :
    Calls Tryd.prog 12 #[.agg #[.int .i64 i, .int .i64 n, .int .i64 l, .string d]] w fun e w' => e = .returned (.string (tellS ⟨i, n, l, d⟩)) ∧ Below w.heap.size w w' := by
  have g := good h
  have n0 := g.n0
  have n1 := g.n1
  have i0 := g.i0
  have i1 := g.top
  have gl := g.len
  simp only at n0 n1 i0 i1 gl
  obtain ⟨l0, l64, l8, lr, ld⟩ := gl
  obtain ⟨X3, hX3⟩ : ∃ X, strOfNums (hexN 3 i) = X := ⟨_, rfl⟩
  have HX3 := Lib.hid hX3
  obtain ⟨X, hX⟩ : ∃ X, X3 = X := ⟨_, rfl⟩
  subst hX
  have hX := hX3
  have hXs : X3.size = 3 := by rw [← hX, strOfNums_size, hexN_len]
  have HI : strOfNums (idL ⟨i, n, l, d⟩) = X3 := by unfold idL; simp only; rw [hx, he]; exact hX
  obtain ⟨Z, hZ⟩ : ∃ Z, strOfNums (hexl d d.size) = Z := ⟨_, rfl⟩
  have HZ := Lib.hid hZ
  have hds : d.size ≤ 64 := by have := ld hr; omega
  have hZs : Z.size = 2 * d.size := by rw [← hZ, strOfNums_size, hexl_len]
  have hFZ : strOfNums (hexF (byL d)) = Z := by rw [← hexl_F, hZ]
  have q1 : ¬ 9223372036854775807 < X3.size + (ByteArray.mk #[35]).size := by simp only [ByteArray.size_append, sz35, sz82, hXs]; omega
  have q2 : ¬ 9223372036854775807 < (X3 ++ ByteArray.mk #[35]).size + Z.size := by simp only [ByteArray.size_append, sz35, sz82, hXs, hZs]; omega
  have HS : Hid (X3 ++ ByteArray.mk #[35] ++ Z = tellS ⟨i, n, l, d⟩) := Lib.hid (by
    rw [tellS_parts, HI]
    unfold bodyL; simp only
    rw [hr, hd]
    show _ = _ ++ strOfNums ([] ++ hexF (byL d))
    rw [List.nil_append, hFZ])
  have He := Lib.hid he
  have Hx := Lib.hid hx
  have Hr := Lib.hid hr
  have Hd := Lib.hid hd
  have Hb := Lib.hid hbb
  have Hs := Lib.hid hss
  clear hX3 he hx hr hd hbb hss lr ld l8 g h HI hZ hFZ
  go_enter Tryd.func12, Tryd.ntmps12
  go_wp2_with fail
  refine (rhexn_v HX3.out i0 (by omega) (by omega) _).mono ?_
  rintro e w1 ⟨rfl, hb⟩
  have HB1 := Lib.hid hb
  clear hb
  obtain ⟨hc1, hf1⟩ := fbcell HB1.out
  go_wp2_with fail
  refine (has1 He.out n0 n1 _ _ _ _).mono ?_
  rintro e w2 ⟨rfl, hb⟩
  have HB2 := Lib.hid (fbelow_t HB1.out hb)
  clear hb
  obtain ⟨hc2, hf2⟩ := fbcell HB2.out
  clear hc1 hf1
  go_wp2_with fail
  refine (has4 Hx.out n0 n1 _ _ _ _).mono ?_
  rintro e w3 ⟨rfl, hb⟩
  have HB3 := Lib.hid (fbelow_t HB2.out hb)
  clear hb
  obtain ⟨hc3, hf3⟩ := fbcell HB3.out
  clear hc2 hf2
  go_wp2_with fail
  refine (has2 Hr.out n0 n1 _ _ _ _).mono ?_
  rintro e w4 ⟨rfl, hb⟩
  have HB4 := Lib.hid (fbelow_t HB3.out hb)
  clear hb
  obtain ⟨hc4, hf4⟩ := fbcell HB4.out
  clear hc3 hf3
  go_wp2_with fail
  refine (has8 Hd.out n0 n1 _ _ _ _).mono ?_
  rintro e w5 ⟨rfl, hb⟩
  have HB5 := Lib.hid (fbelow_t HB4.out hb)
  clear hb
  obtain ⟨hc5, hf5⟩ := fbcell HB5.out
  clear hc4 hf4
  go_wp2_with fail
  refine (rhex_v HZ.out (by omega) _).mono ?_
  rintro e w6 ⟨rfl, hb⟩
  have HB6 := Lib.hid (fbelow_t HB5.out hb)
  clear hb
  obtain ⟨hc6, hf6⟩ := fbcell HB6.out
  clear hc5 hf5
  go_wp2
  go_ret
  exact ⟨by rw [← HS.out]; rfl, fbelow_a _ HB6.out⟩

set_option maxHeartbeats 2000000 in
theorem rtell_00_00100 {i n l : Int} {d : ByteArray} (h : Fr.ok ⟨i, n, l, d⟩ = true) (he : fE n = false) (hx : fX n = false) (hr : fR n = false) (hd : fD n = true) (hbb : fB n = false) (hss : fS n = false) (w : World) :
    Calls Tryd.prog 12 #[.agg #[.int .i64 i, .int .i64 n, .int .i64 l, .string d]] w fun e w' => e = .returned (.string (tellS ⟨i, n, l, d⟩)) ∧ Below w.heap.size w w' := by
  have g := good h
  have n0 := g.n0
  have n1 := g.n1
  have i0 := g.i0
  have i1 := g.top
  have gl := g.len
  simp only at n0 n1 i0 i1 gl
  obtain ⟨l0, l64, l8, lr, ld⟩ := gl
  obtain ⟨X3, hX3⟩ : ∃ X, strOfNums (hexN 3 i) = X := ⟨_, rfl⟩
  have HX3 := Lib.hid hX3
  obtain ⟨X, hX⟩ : ∃ X, X3 = X := ⟨_, rfl⟩
  subst hX
  have hX := hX3
  have hXs : X3.size = 3 := by rw [← hX, strOfNums_size, hexN_len]
  have HI : strOfNums (idL ⟨i, n, l, d⟩) = X3 := by unfold idL; simp only; rw [hx, he]; exact hX
  obtain ⟨Z, hZ⟩ : ∃ Z, strOfNums (hexl d d.size) = Z := ⟨_, rfl⟩
  have HZ := Lib.hid hZ
  have hds : d.size ≤ 64 := by have := ld hr; omega
  have hZs : Z.size = 2 * d.size := by rw [← hZ, strOfNums_size, hexl_len]
  have hFZ : strOfNums (hexF (byL d)) = Z := by rw [← hexl_F, hZ]
  obtain ⟨Y, hY⟩ : ∃ Y, strOfNums (hexN 1 0) = Y := ⟨_, rfl⟩
  have HY := Lib.hid hY
  have hYs : Y.size = 1 := by rw [← hY, strOfNums_size, hexN_len]
  have q1 : ¬ 9223372036854775807 < X3.size + (ByteArray.mk #[35]).size := by simp only [ByteArray.size_append, sz35, sz82, hXs]; omega
  have q2 : ¬ 9223372036854775807 < (X3 ++ ByteArray.mk #[35]).size + (ByteArray.mk #[35]).size := by simp only [ByteArray.size_append, sz35, sz82, hXs]; omega
  have q3 : ¬ 9223372036854775807 < (X3 ++ ByteArray.mk #[35] ++ ByteArray.mk #[35]).size + Y.size := by simp only [ByteArray.size_append, sz35, sz82, hXs, hYs]; omega
  have q4 : ¬ 9223372036854775807 < (X3 ++ ByteArray.mk #[35] ++ ByteArray.mk #[35] ++ Y).size + Z.size := by simp only [ByteArray.size_append, sz35, sz82, hXs, hYs, hZs]; omega
  have HS : Hid (X3 ++ ByteArray.mk #[35] ++ ByteArray.mk #[35] ++ Y ++ Z = tellS ⟨i, n, l, d⟩) := Lib.hid (by
    rw [tellS_parts, HI]
    unfold bodyL mrkN; simp only
    rw [hr, hd, hbb, hss]
    show _ = _ ++ strOfNums ([35] ++ hexN 1 0 ++ hexF (byL d))
    rw [nums_app, nums_app, hY, hFZ, ← ByteArray.append_assoc, ← ByteArray.append_assoc]; rfl)
  have He := Lib.hid he
  have Hx := Lib.hid hx
  have Hr := Lib.hid hr
  have Hd := Lib.hid hd
  have Hb := Lib.hid hbb
  have Hs := Lib.hid hss
  clear hX3 he hx hr hd hbb hss lr ld l8 g h HI hZ hFZ hY
  go_enter Tryd.func12, Tryd.ntmps12
  go_wp2_with fail
  refine (rhexn_v HX3.out i0 (by omega) (by omega) _).mono ?_
  rintro e w1 ⟨rfl, hb⟩
  have HB1 := Lib.hid hb
  clear hb
  obtain ⟨hc1, hf1⟩ := fbcell HB1.out
  go_wp2_with fail
  refine (has1 He.out n0 n1 _ _ _ _).mono ?_
  rintro e w2 ⟨rfl, hb⟩
  have HB2 := Lib.hid (fbelow_t HB1.out hb)
  clear hb
  obtain ⟨hc2, hf2⟩ := fbcell HB2.out
  clear hc1 hf1
  go_wp2_with fail
  refine (has4 Hx.out n0 n1 _ _ _ _).mono ?_
  rintro e w3 ⟨rfl, hb⟩
  have HB3 := Lib.hid (fbelow_t HB2.out hb)
  clear hb
  obtain ⟨hc3, hf3⟩ := fbcell HB3.out
  clear hc2 hf2
  go_wp2_with fail
  refine (has2 Hr.out n0 n1 _ _ _ _).mono ?_
  rintro e w4 ⟨rfl, hb⟩
  have HB4 := Lib.hid (fbelow_t HB3.out hb)
  clear hb
  obtain ⟨hc4, hf4⟩ := fbcell HB4.out
  clear hc3 hf3
  go_wp2_with fail
  refine (has8 Hd.out n0 n1 _ _ _ _).mono ?_
  rintro e w5 ⟨rfl, hb⟩
  have HB5 := Lib.hid (fbelow_t HB4.out hb)
  clear hb
  obtain ⟨hc5, hf5⟩ := fbcell HB5.out
  clear hc4 hf4
  go_wp2_with fail
  refine (has16 Hb.out n0 n1 _ _ _ _).mono ?_
  rintro e w6 ⟨rfl, hb⟩
  have HB6 := Lib.hid (fbelow_t HB5.out hb)
  clear hb
  obtain ⟨hc6, hf6⟩ := fbcell HB6.out
  clear hc5 hf5
  go_wp2_with fail
  refine (has32 Hs.out n0 n1 _ _ _ _).mono ?_
  rintro e w7 ⟨rfl, hb⟩
  have HB7 := Lib.hid (fbelow_t HB6.out hb)
  clear hb
  obtain ⟨hc7, hf7⟩ := fbcell HB7.out
  clear hc6 hf6
  go_wp2_with fail
  refine (rhexn_v HY.out (by omega) (by omega) (by omega) _).mono ?_
  rintro e w8 ⟨rfl, hb⟩
  have HB8 := Lib.hid (fbelow_t HB7.out hb)
  clear hb
  obtain ⟨hc8, hf8⟩ := fbcell HB8.out
  clear hc7 hf7
  go_wp2_with fail
  refine (rhex_v HZ.out (by omega) _).mono ?_
  rintro e w9 ⟨rfl, hb⟩
  have HB9 := Lib.hid (fbelow_t HB8.out hb)
  clear hb
  obtain ⟨hc9, hf9⟩ := fbcell HB9.out
  clear hc8 hf8
  go_wp2
  go_ret
  exact ⟨by rw [← HS.out]; rfl, fbelow_a _ HB9.out⟩

set_option maxHeartbeats 2000000 in
theorem rtell_00_00101 {i n l : Int} {d : ByteArray} (h : Fr.ok ⟨i, n, l, d⟩ = true) (he : fE n = false) (hx : fX n = false) (hr : fR n = false) (hd : fD n = true) (hbb : fB n = false) (hss : fS n = true) (w : World) :
    Calls Tryd.prog 12 #[.agg #[.int .i64 i, .int .i64 n, .int .i64 l, .string d]] w fun e w' => e = .returned (.string (tellS ⟨i, n, l, d⟩)) ∧ Below w.heap.size w w' := by
  have g := good h
  have n0 := g.n0
  have n1 := g.n1
  have i0 := g.i0
  have i1 := g.top
  have gl := g.len
  simp only at n0 n1 i0 i1 gl
  obtain ⟨l0, l64, l8, lr, ld⟩ := gl
  obtain ⟨X3, hX3⟩ : ∃ X, strOfNums (hexN 3 i) = X := ⟨_, rfl⟩
  have HX3 := Lib.hid hX3
  obtain ⟨X, hX⟩ : ∃ X, X3 = X := ⟨_, rfl⟩
  subst hX
  have hX := hX3
  have hXs : X3.size = 3 := by rw [← hX, strOfNums_size, hexN_len]
  have HI : strOfNums (idL ⟨i, n, l, d⟩) = X3 := by unfold idL; simp only; rw [hx, he]; exact hX
  obtain ⟨Z, hZ⟩ : ∃ Z, strOfNums (hexl d d.size) = Z := ⟨_, rfl⟩
  have HZ := Lib.hid hZ
  have hds : d.size ≤ 64 := by have := ld hr; omega
  have hZs : Z.size = 2 * d.size := by rw [← hZ, strOfNums_size, hexl_len]
  have hFZ : strOfNums (hexF (byL d)) = Z := by rw [← hexl_F, hZ]
  obtain ⟨Y, hY⟩ : ∃ Y, strOfNums (hexN 1 2) = Y := ⟨_, rfl⟩
  have HY := Lib.hid hY
  have hYs : Y.size = 1 := by rw [← hY, strOfNums_size, hexN_len]
  have q1 : ¬ 9223372036854775807 < X3.size + (ByteArray.mk #[35]).size := by simp only [ByteArray.size_append, sz35, sz82, hXs]; omega
  have q2 : ¬ 9223372036854775807 < (X3 ++ ByteArray.mk #[35]).size + (ByteArray.mk #[35]).size := by simp only [ByteArray.size_append, sz35, sz82, hXs]; omega
  have q3 : ¬ 9223372036854775807 < (X3 ++ ByteArray.mk #[35] ++ ByteArray.mk #[35]).size + Y.size := by simp only [ByteArray.size_append, sz35, sz82, hXs, hYs]; omega
  have q4 : ¬ 9223372036854775807 < (X3 ++ ByteArray.mk #[35] ++ ByteArray.mk #[35] ++ Y).size + Z.size := by simp only [ByteArray.size_append, sz35, sz82, hXs, hYs, hZs]; omega
  have HS : Hid (X3 ++ ByteArray.mk #[35] ++ ByteArray.mk #[35] ++ Y ++ Z = tellS ⟨i, n, l, d⟩) := Lib.hid (by
    rw [tellS_parts, HI]
    unfold bodyL mrkN; simp only
    rw [hr, hd, hbb, hss]
    show _ = _ ++ strOfNums ([35] ++ hexN 1 2 ++ hexF (byL d))
    rw [nums_app, nums_app, hY, hFZ, ← ByteArray.append_assoc, ← ByteArray.append_assoc]; rfl)
  have He := Lib.hid he
  have Hx := Lib.hid hx
  have Hr := Lib.hid hr
  have Hd := Lib.hid hd
  have Hb := Lib.hid hbb
  have Hs := Lib.hid hss
  clear hX3 he hx hr hd hbb hss lr ld l8 g h HI hZ hFZ hY
  go_enter Tryd.func12, Tryd.ntmps12
  go_wp2_with fail
  refine (rhexn_v HX3.out i0 (by omega) (by omega) _).mono ?_
  rintro e w1 ⟨rfl, hb⟩
  have HB1 := Lib.hid hb
  clear hb
  obtain ⟨hc1, hf1⟩ := fbcell HB1.out
  go_wp2_with fail
  refine (has1 He.out n0 n1 _ _ _ _).mono ?_
  rintro e w2 ⟨rfl, hb⟩
  have HB2 := Lib.hid (fbelow_t HB1.out hb)
  clear hb
  obtain ⟨hc2, hf2⟩ := fbcell HB2.out
  clear hc1 hf1
  go_wp2_with fail
  refine (has4 Hx.out n0 n1 _ _ _ _).mono ?_
  rintro e w3 ⟨rfl, hb⟩
  have HB3 := Lib.hid (fbelow_t HB2.out hb)
  clear hb
  obtain ⟨hc3, hf3⟩ := fbcell HB3.out
  clear hc2 hf2
  go_wp2_with fail
  refine (has2 Hr.out n0 n1 _ _ _ _).mono ?_
  rintro e w4 ⟨rfl, hb⟩
  have HB4 := Lib.hid (fbelow_t HB3.out hb)
  clear hb
  obtain ⟨hc4, hf4⟩ := fbcell HB4.out
  clear hc3 hf3
  go_wp2_with fail
  refine (has8 Hd.out n0 n1 _ _ _ _).mono ?_
  rintro e w5 ⟨rfl, hb⟩
  have HB5 := Lib.hid (fbelow_t HB4.out hb)
  clear hb
  obtain ⟨hc5, hf5⟩ := fbcell HB5.out
  clear hc4 hf4
  go_wp2_with fail
  refine (has16 Hb.out n0 n1 _ _ _ _).mono ?_
  rintro e w6 ⟨rfl, hb⟩
  have HB6 := Lib.hid (fbelow_t HB5.out hb)
  clear hb
  obtain ⟨hc6, hf6⟩ := fbcell HB6.out
  clear hc5 hf5
  go_wp2_with fail
  refine (has32 Hs.out n0 n1 _ _ _ _).mono ?_
  rintro e w7 ⟨rfl, hb⟩
  have HB7 := Lib.hid (fbelow_t HB6.out hb)
  clear hb
  obtain ⟨hc7, hf7⟩ := fbcell HB7.out
  clear hc6 hf6
  go_wp2_with fail
  refine (rhexn_v HY.out (by omega) (by omega) (by omega) _).mono ?_
  rintro e w8 ⟨rfl, hb⟩
  have HB8 := Lib.hid (fbelow_t HB7.out hb)
  clear hb
  obtain ⟨hc8, hf8⟩ := fbcell HB8.out
  clear hc7 hf7
  go_wp2_with fail
  refine (rhex_v HZ.out (by omega) _).mono ?_
  rintro e w9 ⟨rfl, hb⟩
  have HB9 := Lib.hid (fbelow_t HB8.out hb)
  clear hb
  obtain ⟨hc9, hf9⟩ := fbcell HB9.out
  clear hc8 hf8
  go_wp2
  go_ret
  exact ⟨by rw [← HS.out]; rfl, fbelow_a _ HB9.out⟩

set_option maxHeartbeats 2000000 in
theorem rtell_00_00110 {i n l : Int} {d : ByteArray} (h : Fr.ok ⟨i, n, l, d⟩ = true) (he : fE n = false) (hx : fX n = false) (hr : fR n = false) (hd : fD n = true) (hbb : fB n = true) (hss : fS n = false) (w : World) :
    Calls Tryd.prog 12 #[.agg #[.int .i64 i, .int .i64 n, .int .i64 l, .string d]] w fun e w' => e = .returned (.string (tellS ⟨i, n, l, d⟩)) ∧ Below w.heap.size w w' := by
  have g := good h
  have n0 := g.n0
  have n1 := g.n1
  have i0 := g.i0
  have i1 := g.top
  have gl := g.len
  simp only at n0 n1 i0 i1 gl
  obtain ⟨l0, l64, l8, lr, ld⟩ := gl
  obtain ⟨X3, hX3⟩ : ∃ X, strOfNums (hexN 3 i) = X := ⟨_, rfl⟩
  have HX3 := Lib.hid hX3
  obtain ⟨X, hX⟩ : ∃ X, X3 = X := ⟨_, rfl⟩
  subst hX
  have hX := hX3
  have hXs : X3.size = 3 := by rw [← hX, strOfNums_size, hexN_len]
  have HI : strOfNums (idL ⟨i, n, l, d⟩) = X3 := by unfold idL; simp only; rw [hx, he]; exact hX
  obtain ⟨Z, hZ⟩ : ∃ Z, strOfNums (hexl d d.size) = Z := ⟨_, rfl⟩
  have HZ := Lib.hid hZ
  have hds : d.size ≤ 64 := by have := ld hr; omega
  have hZs : Z.size = 2 * d.size := by rw [← hZ, strOfNums_size, hexl_len]
  have hFZ : strOfNums (hexF (byL d)) = Z := by rw [← hexl_F, hZ]
  obtain ⟨Y, hY⟩ : ∃ Y, strOfNums (hexN 1 1) = Y := ⟨_, rfl⟩
  have HY := Lib.hid hY
  have hYs : Y.size = 1 := by rw [← hY, strOfNums_size, hexN_len]
  have q1 : ¬ 9223372036854775807 < X3.size + (ByteArray.mk #[35]).size := by simp only [ByteArray.size_append, sz35, sz82, hXs]; omega
  have q2 : ¬ 9223372036854775807 < (X3 ++ ByteArray.mk #[35]).size + (ByteArray.mk #[35]).size := by simp only [ByteArray.size_append, sz35, sz82, hXs]; omega
  have q3 : ¬ 9223372036854775807 < (X3 ++ ByteArray.mk #[35] ++ ByteArray.mk #[35]).size + Y.size := by simp only [ByteArray.size_append, sz35, sz82, hXs, hYs]; omega
  have q4 : ¬ 9223372036854775807 < (X3 ++ ByteArray.mk #[35] ++ ByteArray.mk #[35] ++ Y).size + Z.size := by simp only [ByteArray.size_append, sz35, sz82, hXs, hYs, hZs]; omega
  have HS : Hid (X3 ++ ByteArray.mk #[35] ++ ByteArray.mk #[35] ++ Y ++ Z = tellS ⟨i, n, l, d⟩) := Lib.hid (by
    rw [tellS_parts, HI]
    unfold bodyL mrkN; simp only
    rw [hr, hd, hbb, hss]
    show _ = _ ++ strOfNums ([35] ++ hexN 1 1 ++ hexF (byL d))
    rw [nums_app, nums_app, hY, hFZ, ← ByteArray.append_assoc, ← ByteArray.append_assoc]; rfl)
  have He := Lib.hid he
  have Hx := Lib.hid hx
  have Hr := Lib.hid hr
  have Hd := Lib.hid hd
  have Hb := Lib.hid hbb
  have Hs := Lib.hid hss
  clear hX3 he hx hr hd hbb hss lr ld l8 g h HI hZ hFZ hY
  go_enter Tryd.func12, Tryd.ntmps12
  go_wp2_with fail
  refine (rhexn_v HX3.out i0 (by omega) (by omega) _).mono ?_
  rintro e w1 ⟨rfl, hb⟩
  have HB1 := Lib.hid hb
  clear hb
  obtain ⟨hc1, hf1⟩ := fbcell HB1.out
  go_wp2_with fail
  refine (has1 He.out n0 n1 _ _ _ _).mono ?_
  rintro e w2 ⟨rfl, hb⟩
  have HB2 := Lib.hid (fbelow_t HB1.out hb)
  clear hb
  obtain ⟨hc2, hf2⟩ := fbcell HB2.out
  clear hc1 hf1
  go_wp2_with fail
  refine (has4 Hx.out n0 n1 _ _ _ _).mono ?_
  rintro e w3 ⟨rfl, hb⟩
  have HB3 := Lib.hid (fbelow_t HB2.out hb)
  clear hb
  obtain ⟨hc3, hf3⟩ := fbcell HB3.out
  clear hc2 hf2
  go_wp2_with fail
  refine (has2 Hr.out n0 n1 _ _ _ _).mono ?_
  rintro e w4 ⟨rfl, hb⟩
  have HB4 := Lib.hid (fbelow_t HB3.out hb)
  clear hb
  obtain ⟨hc4, hf4⟩ := fbcell HB4.out
  clear hc3 hf3
  go_wp2_with fail
  refine (has8 Hd.out n0 n1 _ _ _ _).mono ?_
  rintro e w5 ⟨rfl, hb⟩
  have HB5 := Lib.hid (fbelow_t HB4.out hb)
  clear hb
  obtain ⟨hc5, hf5⟩ := fbcell HB5.out
  clear hc4 hf4
  go_wp2_with fail
  refine (has16 Hb.out n0 n1 _ _ _ _).mono ?_
  rintro e w6 ⟨rfl, hb⟩
  have HB6 := Lib.hid (fbelow_t HB5.out hb)
  clear hb
  obtain ⟨hc6, hf6⟩ := fbcell HB6.out
  clear hc5 hf5
  go_wp2_with fail
  refine (has32 Hs.out n0 n1 _ _ _ _).mono ?_
  rintro e w7 ⟨rfl, hb⟩
  have HB7 := Lib.hid (fbelow_t HB6.out hb)
  clear hb
  obtain ⟨hc7, hf7⟩ := fbcell HB7.out
  clear hc6 hf6
  go_wp2_with fail
  refine (rhexn_v HY.out (by omega) (by omega) (by omega) _).mono ?_
  rintro e w8 ⟨rfl, hb⟩
  have HB8 := Lib.hid (fbelow_t HB7.out hb)
  clear hb
  obtain ⟨hc8, hf8⟩ := fbcell HB8.out
  clear hc7 hf7
  go_wp2_with fail
  refine (rhex_v HZ.out (by omega) _).mono ?_
  rintro e w9 ⟨rfl, hb⟩
  have HB9 := Lib.hid (fbelow_t HB8.out hb)
  clear hb
  obtain ⟨hc9, hf9⟩ := fbcell HB9.out
  clear hc8 hf8
  go_wp2
  go_ret
  exact ⟨by rw [← HS.out]; rfl, fbelow_a _ HB9.out⟩

set_option maxHeartbeats 2000000 in
theorem rtell_00_00111 {i n l : Int} {d : ByteArray} (h : Fr.ok ⟨i, n, l, d⟩ = true) (he : fE n = false) (hx : fX n = false) (hr : fR n = false) (hd : fD n = true) (hbb : fB n = true) (hss : fS n = true) (w : World) :
    Calls Tryd.prog 12 #[.agg #[.int .i64 i, .int .i64 n, .int .i64 l, .string d]] w fun e w' => e = .returned (.string (tellS ⟨i, n, l, d⟩)) ∧ Below w.heap.size w w' := by
  have g := good h
  have n0 := g.n0
  have n1 := g.n1
  have i0 := g.i0
  have i1 := g.top
  have gl := g.len
  simp only at n0 n1 i0 i1 gl
  obtain ⟨l0, l64, l8, lr, ld⟩ := gl
  obtain ⟨X3, hX3⟩ : ∃ X, strOfNums (hexN 3 i) = X := ⟨_, rfl⟩
  have HX3 := Lib.hid hX3
  obtain ⟨X, hX⟩ : ∃ X, X3 = X := ⟨_, rfl⟩
  subst hX
  have hX := hX3
  have hXs : X3.size = 3 := by rw [← hX, strOfNums_size, hexN_len]
  have HI : strOfNums (idL ⟨i, n, l, d⟩) = X3 := by unfold idL; simp only; rw [hx, he]; exact hX
  obtain ⟨Z, hZ⟩ : ∃ Z, strOfNums (hexl d d.size) = Z := ⟨_, rfl⟩
  have HZ := Lib.hid hZ
  have hds : d.size ≤ 64 := by have := ld hr; omega
  have hZs : Z.size = 2 * d.size := by rw [← hZ, strOfNums_size, hexl_len]
  have hFZ : strOfNums (hexF (byL d)) = Z := by rw [← hexl_F, hZ]
  obtain ⟨Y, hY⟩ : ∃ Y, strOfNums (hexN 1 3) = Y := ⟨_, rfl⟩
  have HY := Lib.hid hY
  have hYs : Y.size = 1 := by rw [← hY, strOfNums_size, hexN_len]
  have q1 : ¬ 9223372036854775807 < X3.size + (ByteArray.mk #[35]).size := by simp only [ByteArray.size_append, sz35, sz82, hXs]; omega
  have q2 : ¬ 9223372036854775807 < (X3 ++ ByteArray.mk #[35]).size + (ByteArray.mk #[35]).size := by simp only [ByteArray.size_append, sz35, sz82, hXs]; omega
  have q3 : ¬ 9223372036854775807 < (X3 ++ ByteArray.mk #[35] ++ ByteArray.mk #[35]).size + Y.size := by simp only [ByteArray.size_append, sz35, sz82, hXs, hYs]; omega
  have q4 : ¬ 9223372036854775807 < (X3 ++ ByteArray.mk #[35] ++ ByteArray.mk #[35] ++ Y).size + Z.size := by simp only [ByteArray.size_append, sz35, sz82, hXs, hYs, hZs]; omega
  have HS : Hid (X3 ++ ByteArray.mk #[35] ++ ByteArray.mk #[35] ++ Y ++ Z = tellS ⟨i, n, l, d⟩) := Lib.hid (by
    rw [tellS_parts, HI]
    unfold bodyL mrkN; simp only
    rw [hr, hd, hbb, hss]
    show _ = _ ++ strOfNums ([35] ++ hexN 1 3 ++ hexF (byL d))
    rw [nums_app, nums_app, hY, hFZ, ← ByteArray.append_assoc, ← ByteArray.append_assoc]; rfl)
  have He := Lib.hid he
  have Hx := Lib.hid hx
  have Hr := Lib.hid hr
  have Hd := Lib.hid hd
  have Hb := Lib.hid hbb
  have Hs := Lib.hid hss
  clear hX3 he hx hr hd hbb hss lr ld l8 g h HI hZ hFZ hY
  go_enter Tryd.func12, Tryd.ntmps12
  go_wp2_with fail
  refine (rhexn_v HX3.out i0 (by omega) (by omega) _).mono ?_
  rintro e w1 ⟨rfl, hb⟩
  have HB1 := Lib.hid hb
  clear hb
  obtain ⟨hc1, hf1⟩ := fbcell HB1.out
  go_wp2_with fail
  refine (has1 He.out n0 n1 _ _ _ _).mono ?_
  rintro e w2 ⟨rfl, hb⟩
  have HB2 := Lib.hid (fbelow_t HB1.out hb)
  clear hb
  obtain ⟨hc2, hf2⟩ := fbcell HB2.out
  clear hc1 hf1
  go_wp2_with fail
  refine (has4 Hx.out n0 n1 _ _ _ _).mono ?_
  rintro e w3 ⟨rfl, hb⟩
  have HB3 := Lib.hid (fbelow_t HB2.out hb)
  clear hb
  obtain ⟨hc3, hf3⟩ := fbcell HB3.out
  clear hc2 hf2
  go_wp2_with fail
  refine (has2 Hr.out n0 n1 _ _ _ _).mono ?_
  rintro e w4 ⟨rfl, hb⟩
  have HB4 := Lib.hid (fbelow_t HB3.out hb)
  clear hb
  obtain ⟨hc4, hf4⟩ := fbcell HB4.out
  clear hc3 hf3
  go_wp2_with fail
  refine (has8 Hd.out n0 n1 _ _ _ _).mono ?_
  rintro e w5 ⟨rfl, hb⟩
  have HB5 := Lib.hid (fbelow_t HB4.out hb)
  clear hb
  obtain ⟨hc5, hf5⟩ := fbcell HB5.out
  clear hc4 hf4
  go_wp2_with fail
  refine (has16 Hb.out n0 n1 _ _ _ _).mono ?_
  rintro e w6 ⟨rfl, hb⟩
  have HB6 := Lib.hid (fbelow_t HB5.out hb)
  clear hb
  obtain ⟨hc6, hf6⟩ := fbcell HB6.out
  clear hc5 hf5
  go_wp2_with fail
  refine (has32 Hs.out n0 n1 _ _ _ _).mono ?_
  rintro e w7 ⟨rfl, hb⟩
  have HB7 := Lib.hid (fbelow_t HB6.out hb)
  clear hb
  obtain ⟨hc7, hf7⟩ := fbcell HB7.out
  clear hc6 hf6
  go_wp2_with fail
  refine (rhexn_v HY.out (by omega) (by omega) (by omega) _).mono ?_
  rintro e w8 ⟨rfl, hb⟩
  have HB8 := Lib.hid (fbelow_t HB7.out hb)
  clear hb
  obtain ⟨hc8, hf8⟩ := fbcell HB8.out
  clear hc7 hf7
  go_wp2_with fail
  refine (rhex_v HZ.out (by omega) _).mono ?_
  rintro e w9 ⟨rfl, hb⟩
  have HB9 := Lib.hid (fbelow_t HB8.out hb)
  clear hb
  obtain ⟨hc9, hf9⟩ := fbcell HB9.out
  clear hc8 hf8
  go_wp2
  go_ret
  exact ⟨by rw [← HS.out]; rfl, fbelow_a _ HB9.out⟩

set_option maxHeartbeats 2000000 in
theorem rtell_10_10000 {i n l : Int} {d : ByteArray} (h : Fr.ok ⟨i, n, l, d⟩ = true) (he : fE n = true) (hx : fX n = false) (hr : fR n = true) (hd : fD n = false) (hbb : fB n = false) (hss : fS n = false) (hl : l = 0) (w : World) :
    Calls Tryd.prog 12 #[.agg #[.int .i64 i, .int .i64 n, .int .i64 l, .string d]] w fun e w' => e = .returned (.string (tellS ⟨i, n, l, d⟩)) ∧ Below w.heap.size w w' := by
  have g := good h
  have n0 := g.n0
  have n1 := g.n1
  have i0 := g.i0
  have i1 := g.top
  have gl := g.len
  simp only at n0 n1 i0 i1 gl
  obtain ⟨l0, l64, l8, lr, ld⟩ := gl
  obtain ⟨X3, hX3⟩ : ∃ X, strOfNums (hexN 3 i) = X := ⟨_, rfl⟩
  have HX3 := Lib.hid hX3
  obtain ⟨X, hX⟩ : ∃ X, strOfNums (hexN 8 i) = X := ⟨_, rfl⟩
  have hXs : X.size = 8 := by rw [← hX, strOfNums_size, hexN_len]
  have HX := Lib.hid hX
  have HI : strOfNums (idL ⟨i, n, l, d⟩) = X := by unfold idL; simp only; rw [hx, he]; exact hX
  have q1 : ¬ 9223372036854775807 < X.size + (ByteArray.mk #[35]).size := by simp only [ByteArray.size_append, sz35, sz82, hXs]; omega
  have q2 : ¬ 9223372036854775807 < (X ++ ByteArray.mk #[35]).size + (ByteArray.mk #[82]).size := by simp only [ByteArray.size_append, sz35, sz82, hXs]; omega
  have HS : Hid (X ++ ByteArray.mk #[35] ++ ByteArray.mk #[82] = tellS ⟨i, n, l, d⟩) := Lib.hid (by
    rw [tellS_parts, HI]
    unfold bodyL; simp only
    rw [hr, if_pos rfl, if_pos hl]; rfl)
  have He := Lib.hid he
  have Hx := Lib.hid hx
  have Hr := Lib.hid hr
  have Hd := Lib.hid hd
  have Hb := Lib.hid hbb
  have Hs := Lib.hid hss
  subst hl
  clear hX3 he hx hr hd hbb hss lr ld l8 g h HI hX
  go_enter Tryd.func12, Tryd.ntmps12
  go_wp2_with fail
  refine (rhexn_v HX3.out i0 (by omega) (by omega) _).mono ?_
  rintro e w1 ⟨rfl, hb⟩
  have HB1 := Lib.hid hb
  clear hb
  obtain ⟨hc1, hf1⟩ := fbcell HB1.out
  go_wp2_with fail
  refine (has1 He.out n0 n1 _ _ _ _).mono ?_
  rintro e w2 ⟨rfl, hb⟩
  have HB2 := Lib.hid (fbelow_t HB1.out hb)
  clear hb
  obtain ⟨hc2, hf2⟩ := fbcell HB2.out
  clear hc1 hf1
  go_wp2_with fail
  refine (rhexn_v HX.out i0 (by omega) (by omega) _).mono ?_
  rintro e w3 ⟨rfl, hb⟩
  have HB3 := Lib.hid (fbelow_t HB2.out hb)
  clear hb
  obtain ⟨hc3, hf3⟩ := fbcell HB3.out
  clear hc2 hf2
  go_wp2_with fail
  refine (has4 Hx.out n0 n1 _ _ _ _).mono ?_
  rintro e w4 ⟨rfl, hb⟩
  have HB4 := Lib.hid (fbelow_t HB3.out hb)
  clear hb
  obtain ⟨hc4, hf4⟩ := fbcell HB4.out
  clear hc3 hf3
  go_wp2_with fail
  refine (has2 Hr.out n0 n1 _ _ _ _).mono ?_
  rintro e w5 ⟨rfl, hb⟩
  have HB5 := Lib.hid (fbelow_t HB4.out hb)
  clear hb
  obtain ⟨hc5, hf5⟩ := fbcell HB5.out
  clear hc4 hf4
  go_wp2
  go_ret
  exact ⟨by rw [← HS.out]; rfl, fbelow_a _ HB5.out⟩

set_option maxHeartbeats 2000000 in
theorem rtell_10_11000 {i n l : Int} {d : ByteArray} (h : Fr.ok ⟨i, n, l, d⟩ = true) (he : fE n = true) (hx : fX n = false) (hr : fR n = true) (hd : fD n = false) (hbb : fB n = false) (hss : fS n = false) (hl : 0 < l) (w : World) :
    Calls Tryd.prog 12 #[.agg #[.int .i64 i, .int .i64 n, .int .i64 l, .string d]] w fun e w' => e = .returned (.string (tellS ⟨i, n, l, d⟩)) ∧ Below w.heap.size w w' := by
  have g := good h
  have n0 := g.n0
  have n1 := g.n1
  have i0 := g.i0
  have i1 := g.top
  have gl := g.len
  simp only at n0 n1 i0 i1 gl
  obtain ⟨l0, l64, l8, lr, ld⟩ := gl
  obtain ⟨X3, hX3⟩ : ∃ X, strOfNums (hexN 3 i) = X := ⟨_, rfl⟩
  have HX3 := Lib.hid hX3
  obtain ⟨X, hX⟩ : ∃ X, strOfNums (hexN 8 i) = X := ⟨_, rfl⟩
  have hXs : X.size = 8 := by rw [← hX, strOfNums_size, hexN_len]
  have HX := Lib.hid hX
  have HI : strOfNums (idL ⟨i, n, l, d⟩) = X := by unfold idL; simp only; rw [hx, he]; exact hX
  obtain ⟨Y, hY⟩ : ∃ Y, strOfNums (hexN 1 l) = Y := ⟨_, rfl⟩
  have HY := Lib.hid hY
  have l8' := l8 hd
  have hYs : Y.size = 1 := by rw [← hY, strOfNums_size, hexN_len]
  have q1 : ¬ 9223372036854775807 < X.size + (ByteArray.mk #[35]).size := by simp only [ByteArray.size_append, sz35, sz82, hXs]; omega
  have q2 : ¬ 9223372036854775807 < (X ++ ByteArray.mk #[35]).size + (ByteArray.mk #[82]).size := by simp only [ByteArray.size_append, sz35, sz82, hXs]; omega
  have q3 : ¬ 9223372036854775807 < (X ++ ByteArray.mk #[35] ++ ByteArray.mk #[82]).size + Y.size := by simp only [ByteArray.size_append, sz35, sz82, hXs, hYs]; omega
  have HS : Hid (X ++ ByteArray.mk #[35] ++ ByteArray.mk #[82] ++ Y = tellS ⟨i, n, l, d⟩) := Lib.hid (by
    rw [tellS_parts, HI]
    unfold bodyL; simp only
    rw [hr, if_pos rfl, if_neg (by omega), ← hexN_dig l l0 (by omega)]
    show _ = _ ++ strOfNums ([82] ++ hexN 1 l)
    rw [nums_app, hY, ← ByteArray.append_assoc]; rfl)
  have He := Lib.hid he
  have Hx := Lib.hid hx
  have Hr := Lib.hid hr
  have Hd := Lib.hid hd
  have Hb := Lib.hid hbb
  have Hs := Lib.hid hss
  clear hX3 he hx hr hd hbb hss lr ld l8 g h HI hX hY
  go_enter Tryd.func12, Tryd.ntmps12
  go_wp2_with fail
  refine (rhexn_v HX3.out i0 (by omega) (by omega) _).mono ?_
  rintro e w1 ⟨rfl, hb⟩
  have HB1 := Lib.hid hb
  clear hb
  obtain ⟨hc1, hf1⟩ := fbcell HB1.out
  go_wp2_with fail
  refine (has1 He.out n0 n1 _ _ _ _).mono ?_
  rintro e w2 ⟨rfl, hb⟩
  have HB2 := Lib.hid (fbelow_t HB1.out hb)
  clear hb
  obtain ⟨hc2, hf2⟩ := fbcell HB2.out
  clear hc1 hf1
  go_wp2_with fail
  refine (rhexn_v HX.out i0 (by omega) (by omega) _).mono ?_
  rintro e w3 ⟨rfl, hb⟩
  have HB3 := Lib.hid (fbelow_t HB2.out hb)
  clear hb
  obtain ⟨hc3, hf3⟩ := fbcell HB3.out
  clear hc2 hf2
  go_wp2_with fail
  refine (has4 Hx.out n0 n1 _ _ _ _).mono ?_
  rintro e w4 ⟨rfl, hb⟩
  have HB4 := Lib.hid (fbelow_t HB3.out hb)
  clear hb
  obtain ⟨hc4, hf4⟩ := fbcell HB4.out
  clear hc3 hf3
  go_wp2_with fail
  refine (has2 Hr.out n0 n1 _ _ _ _).mono ?_
  rintro e w5 ⟨rfl, hb⟩
  have HB5 := Lib.hid (fbelow_t HB4.out hb)
  clear hb
  obtain ⟨hc5, hf5⟩ := fbcell HB5.out
  clear hc4 hf4
  go_wp2_with fail
  refine (rhexn_v HY.out l0 (by omega) (by omega) _).mono ?_
  rintro e w6 ⟨rfl, hb⟩
  have HB6 := Lib.hid (fbelow_t HB5.out hb)
  clear hb
  obtain ⟨hc6, hf6⟩ := fbcell HB6.out
  clear hc5 hf5
  go_wp2
  go_ret
  exact ⟨by rw [← HS.out]; rfl, fbelow_a _ HB6.out⟩

set_option maxHeartbeats 2000000 in
theorem rtell_10_00000 {i n l : Int} {d : ByteArray} (h : Fr.ok ⟨i, n, l, d⟩ = true) (he : fE n = true) (hx : fX n = false) (hr : fR n = false) (hd : fD n = false) (hbb : fB n = false) (hss : fS n = false) (w : World) :
    Calls Tryd.prog 12 #[.agg #[.int .i64 i, .int .i64 n, .int .i64 l, .string d]] w fun e w' => e = .returned (.string (tellS ⟨i, n, l, d⟩)) ∧ Below w.heap.size w w' := by
  have g := good h
  have n0 := g.n0
  have n1 := g.n1
  have i0 := g.i0
  have i1 := g.top
  have gl := g.len
  simp only at n0 n1 i0 i1 gl
  obtain ⟨l0, l64, l8, lr, ld⟩ := gl
  obtain ⟨X3, hX3⟩ : ∃ X, strOfNums (hexN 3 i) = X := ⟨_, rfl⟩
  have HX3 := Lib.hid hX3
  obtain ⟨X, hX⟩ : ∃ X, strOfNums (hexN 8 i) = X := ⟨_, rfl⟩
  have hXs : X.size = 8 := by rw [← hX, strOfNums_size, hexN_len]
  have HX := Lib.hid hX
  have HI : strOfNums (idL ⟨i, n, l, d⟩) = X := by unfold idL; simp only; rw [hx, he]; exact hX
  obtain ⟨Z, hZ⟩ : ∃ Z, strOfNums (hexl d d.size) = Z := ⟨_, rfl⟩
  have HZ := Lib.hid hZ
  have hds : d.size ≤ 64 := by have := ld hr; omega
  have hZs : Z.size = 2 * d.size := by rw [← hZ, strOfNums_size, hexl_len]
  have hFZ : strOfNums (hexF (byL d)) = Z := by rw [← hexl_F, hZ]
  have q1 : ¬ 9223372036854775807 < X.size + (ByteArray.mk #[35]).size := by simp only [ByteArray.size_append, sz35, sz82, hXs]; omega
  have q2 : ¬ 9223372036854775807 < (X ++ ByteArray.mk #[35]).size + Z.size := by simp only [ByteArray.size_append, sz35, sz82, hXs, hZs]; omega
  have HS : Hid (X ++ ByteArray.mk #[35] ++ Z = tellS ⟨i, n, l, d⟩) := Lib.hid (by
    rw [tellS_parts, HI]
    unfold bodyL; simp only
    rw [hr, hd]
    show _ = _ ++ strOfNums ([] ++ hexF (byL d))
    rw [List.nil_append, hFZ])
  have He := Lib.hid he
  have Hx := Lib.hid hx
  have Hr := Lib.hid hr
  have Hd := Lib.hid hd
  have Hb := Lib.hid hbb
  have Hs := Lib.hid hss
  clear hX3 he hx hr hd hbb hss lr ld l8 g h HI hX hZ hFZ
  go_enter Tryd.func12, Tryd.ntmps12
  go_wp2_with fail
  refine (rhexn_v HX3.out i0 (by omega) (by omega) _).mono ?_
  rintro e w1 ⟨rfl, hb⟩
  have HB1 := Lib.hid hb
  clear hb
  obtain ⟨hc1, hf1⟩ := fbcell HB1.out
  go_wp2_with fail
  refine (has1 He.out n0 n1 _ _ _ _).mono ?_
  rintro e w2 ⟨rfl, hb⟩
  have HB2 := Lib.hid (fbelow_t HB1.out hb)
  clear hb
  obtain ⟨hc2, hf2⟩ := fbcell HB2.out
  clear hc1 hf1
  go_wp2_with fail
  refine (rhexn_v HX.out i0 (by omega) (by omega) _).mono ?_
  rintro e w3 ⟨rfl, hb⟩
  have HB3 := Lib.hid (fbelow_t HB2.out hb)
  clear hb
  obtain ⟨hc3, hf3⟩ := fbcell HB3.out
  clear hc2 hf2
  go_wp2_with fail
  refine (has4 Hx.out n0 n1 _ _ _ _).mono ?_
  rintro e w4 ⟨rfl, hb⟩
  have HB4 := Lib.hid (fbelow_t HB3.out hb)
  clear hb
  obtain ⟨hc4, hf4⟩ := fbcell HB4.out
  clear hc3 hf3
  go_wp2_with fail
  refine (has2 Hr.out n0 n1 _ _ _ _).mono ?_
  rintro e w5 ⟨rfl, hb⟩
  have HB5 := Lib.hid (fbelow_t HB4.out hb)
  clear hb
  obtain ⟨hc5, hf5⟩ := fbcell HB5.out
  clear hc4 hf4
  go_wp2_with fail
  refine (has8 Hd.out n0 n1 _ _ _ _).mono ?_
  rintro e w6 ⟨rfl, hb⟩
  have HB6 := Lib.hid (fbelow_t HB5.out hb)
  clear hb
  obtain ⟨hc6, hf6⟩ := fbcell HB6.out
  clear hc5 hf5
  go_wp2_with fail
  refine (rhex_v HZ.out (by omega) _).mono ?_
  rintro e w7 ⟨rfl, hb⟩
  have HB7 := Lib.hid (fbelow_t HB6.out hb)
  clear hb
  obtain ⟨hc7, hf7⟩ := fbcell HB7.out
  clear hc6 hf6
  go_wp2
  go_ret
  exact ⟨by rw [← HS.out]; rfl, fbelow_a _ HB7.out⟩

set_option maxHeartbeats 2000000 in
theorem rtell_10_00100 {i n l : Int} {d : ByteArray} (h : Fr.ok ⟨i, n, l, d⟩ = true) (he : fE n = true) (hx : fX n = false) (hr : fR n = false) (hd : fD n = true) (hbb : fB n = false) (hss : fS n = false) (w : World) :
    Calls Tryd.prog 12 #[.agg #[.int .i64 i, .int .i64 n, .int .i64 l, .string d]] w fun e w' => e = .returned (.string (tellS ⟨i, n, l, d⟩)) ∧ Below w.heap.size w w' := by
  have g := good h
  have n0 := g.n0
  have n1 := g.n1
  have i0 := g.i0
  have i1 := g.top
  have gl := g.len
  simp only at n0 n1 i0 i1 gl
  obtain ⟨l0, l64, l8, lr, ld⟩ := gl
  obtain ⟨X3, hX3⟩ : ∃ X, strOfNums (hexN 3 i) = X := ⟨_, rfl⟩
  have HX3 := Lib.hid hX3
  obtain ⟨X, hX⟩ : ∃ X, strOfNums (hexN 8 i) = X := ⟨_, rfl⟩
  have hXs : X.size = 8 := by rw [← hX, strOfNums_size, hexN_len]
  have HX := Lib.hid hX
  have HI : strOfNums (idL ⟨i, n, l, d⟩) = X := by unfold idL; simp only; rw [hx, he]; exact hX
  obtain ⟨Z, hZ⟩ : ∃ Z, strOfNums (hexl d d.size) = Z := ⟨_, rfl⟩
  have HZ := Lib.hid hZ
  have hds : d.size ≤ 64 := by have := ld hr; omega
  have hZs : Z.size = 2 * d.size := by rw [← hZ, strOfNums_size, hexl_len]
  have hFZ : strOfNums (hexF (byL d)) = Z := by rw [← hexl_F, hZ]
  obtain ⟨Y, hY⟩ : ∃ Y, strOfNums (hexN 1 0) = Y := ⟨_, rfl⟩
  have HY := Lib.hid hY
  have hYs : Y.size = 1 := by rw [← hY, strOfNums_size, hexN_len]
  have q1 : ¬ 9223372036854775807 < X.size + (ByteArray.mk #[35]).size := by simp only [ByteArray.size_append, sz35, sz82, hXs]; omega
  have q2 : ¬ 9223372036854775807 < (X ++ ByteArray.mk #[35]).size + (ByteArray.mk #[35]).size := by simp only [ByteArray.size_append, sz35, sz82, hXs]; omega
  have q3 : ¬ 9223372036854775807 < (X ++ ByteArray.mk #[35] ++ ByteArray.mk #[35]).size + Y.size := by simp only [ByteArray.size_append, sz35, sz82, hXs, hYs]; omega
  have q4 : ¬ 9223372036854775807 < (X ++ ByteArray.mk #[35] ++ ByteArray.mk #[35] ++ Y).size + Z.size := by simp only [ByteArray.size_append, sz35, sz82, hXs, hYs, hZs]; omega
  have HS : Hid (X ++ ByteArray.mk #[35] ++ ByteArray.mk #[35] ++ Y ++ Z = tellS ⟨i, n, l, d⟩) := Lib.hid (by
    rw [tellS_parts, HI]
    unfold bodyL mrkN; simp only
    rw [hr, hd, hbb, hss]
    show _ = _ ++ strOfNums ([35] ++ hexN 1 0 ++ hexF (byL d))
    rw [nums_app, nums_app, hY, hFZ, ← ByteArray.append_assoc, ← ByteArray.append_assoc]; rfl)
  have He := Lib.hid he
  have Hx := Lib.hid hx
  have Hr := Lib.hid hr
  have Hd := Lib.hid hd
  have Hb := Lib.hid hbb
  have Hs := Lib.hid hss
  clear hX3 he hx hr hd hbb hss lr ld l8 g h HI hX hZ hFZ hY
  go_enter Tryd.func12, Tryd.ntmps12
  go_wp2_with fail
  refine (rhexn_v HX3.out i0 (by omega) (by omega) _).mono ?_
  rintro e w1 ⟨rfl, hb⟩
  have HB1 := Lib.hid hb
  clear hb
  obtain ⟨hc1, hf1⟩ := fbcell HB1.out
  go_wp2_with fail
  refine (has1 He.out n0 n1 _ _ _ _).mono ?_
  rintro e w2 ⟨rfl, hb⟩
  have HB2 := Lib.hid (fbelow_t HB1.out hb)
  clear hb
  obtain ⟨hc2, hf2⟩ := fbcell HB2.out
  clear hc1 hf1
  go_wp2_with fail
  refine (rhexn_v HX.out i0 (by omega) (by omega) _).mono ?_
  rintro e w3 ⟨rfl, hb⟩
  have HB3 := Lib.hid (fbelow_t HB2.out hb)
  clear hb
  obtain ⟨hc3, hf3⟩ := fbcell HB3.out
  clear hc2 hf2
  go_wp2_with fail
  refine (has4 Hx.out n0 n1 _ _ _ _).mono ?_
  rintro e w4 ⟨rfl, hb⟩
  have HB4 := Lib.hid (fbelow_t HB3.out hb)
  clear hb
  obtain ⟨hc4, hf4⟩ := fbcell HB4.out
  clear hc3 hf3
  go_wp2_with fail
  refine (has2 Hr.out n0 n1 _ _ _ _).mono ?_
  rintro e w5 ⟨rfl, hb⟩
  have HB5 := Lib.hid (fbelow_t HB4.out hb)
  clear hb
  obtain ⟨hc5, hf5⟩ := fbcell HB5.out
  clear hc4 hf4
  go_wp2_with fail
  refine (has8 Hd.out n0 n1 _ _ _ _).mono ?_
  rintro e w6 ⟨rfl, hb⟩
  have HB6 := Lib.hid (fbelow_t HB5.out hb)
  clear hb
  obtain ⟨hc6, hf6⟩ := fbcell HB6.out
  clear hc5 hf5
  go_wp2_with fail
  refine (has16 Hb.out n0 n1 _ _ _ _).mono ?_
  rintro e w7 ⟨rfl, hb⟩
  have HB7 := Lib.hid (fbelow_t HB6.out hb)
  clear hb
  obtain ⟨hc7, hf7⟩ := fbcell HB7.out
  clear hc6 hf6
  go_wp2_with fail
  refine (has32 Hs.out n0 n1 _ _ _ _).mono ?_
  rintro e w8 ⟨rfl, hb⟩
  have HB8 := Lib.hid (fbelow_t HB7.out hb)
  clear hb
  obtain ⟨hc8, hf8⟩ := fbcell HB8.out
  clear hc7 hf7
  go_wp2_with fail
  refine (rhexn_v HY.out (by omega) (by omega) (by omega) _).mono ?_
  rintro e w9 ⟨rfl, hb⟩
  have HB9 := Lib.hid (fbelow_t HB8.out hb)
  clear hb
  obtain ⟨hc9, hf9⟩ := fbcell HB9.out
  clear hc8 hf8
  go_wp2_with fail
  refine (rhex_v HZ.out (by omega) _).mono ?_
  rintro e w10 ⟨rfl, hb⟩
  have HB10 := Lib.hid (fbelow_t HB9.out hb)
  clear hb
  obtain ⟨hc10, hf10⟩ := fbcell HB10.out
  clear hc9 hf9
  go_wp2
  go_ret
  exact ⟨by rw [← HS.out]; rfl, fbelow_a _ HB10.out⟩

set_option maxHeartbeats 2000000 in
theorem rtell_10_00101 {i n l : Int} {d : ByteArray} (h : Fr.ok ⟨i, n, l, d⟩ = true) (he : fE n = true) (hx : fX n = false) (hr : fR n = false) (hd : fD n = true) (hbb : fB n = false) (hss : fS n = true) (w : World) :
    Calls Tryd.prog 12 #[.agg #[.int .i64 i, .int .i64 n, .int .i64 l, .string d]] w fun e w' => e = .returned (.string (tellS ⟨i, n, l, d⟩)) ∧ Below w.heap.size w w' := by
  have g := good h
  have n0 := g.n0
  have n1 := g.n1
  have i0 := g.i0
  have i1 := g.top
  have gl := g.len
  simp only at n0 n1 i0 i1 gl
  obtain ⟨l0, l64, l8, lr, ld⟩ := gl
  obtain ⟨X3, hX3⟩ : ∃ X, strOfNums (hexN 3 i) = X := ⟨_, rfl⟩
  have HX3 := Lib.hid hX3
  obtain ⟨X, hX⟩ : ∃ X, strOfNums (hexN 8 i) = X := ⟨_, rfl⟩
  have hXs : X.size = 8 := by rw [← hX, strOfNums_size, hexN_len]
  have HX := Lib.hid hX
  have HI : strOfNums (idL ⟨i, n, l, d⟩) = X := by unfold idL; simp only; rw [hx, he]; exact hX
  obtain ⟨Z, hZ⟩ : ∃ Z, strOfNums (hexl d d.size) = Z := ⟨_, rfl⟩
  have HZ := Lib.hid hZ
  have hds : d.size ≤ 64 := by have := ld hr; omega
  have hZs : Z.size = 2 * d.size := by rw [← hZ, strOfNums_size, hexl_len]
  have hFZ : strOfNums (hexF (byL d)) = Z := by rw [← hexl_F, hZ]
  obtain ⟨Y, hY⟩ : ∃ Y, strOfNums (hexN 1 2) = Y := ⟨_, rfl⟩
  have HY := Lib.hid hY
  have hYs : Y.size = 1 := by rw [← hY, strOfNums_size, hexN_len]
  have q1 : ¬ 9223372036854775807 < X.size + (ByteArray.mk #[35]).size := by simp only [ByteArray.size_append, sz35, sz82, hXs]; omega
  have q2 : ¬ 9223372036854775807 < (X ++ ByteArray.mk #[35]).size + (ByteArray.mk #[35]).size := by simp only [ByteArray.size_append, sz35, sz82, hXs]; omega
  have q3 : ¬ 9223372036854775807 < (X ++ ByteArray.mk #[35] ++ ByteArray.mk #[35]).size + Y.size := by simp only [ByteArray.size_append, sz35, sz82, hXs, hYs]; omega
  have q4 : ¬ 9223372036854775807 < (X ++ ByteArray.mk #[35] ++ ByteArray.mk #[35] ++ Y).size + Z.size := by simp only [ByteArray.size_append, sz35, sz82, hXs, hYs, hZs]; omega
  have HS : Hid (X ++ ByteArray.mk #[35] ++ ByteArray.mk #[35] ++ Y ++ Z = tellS ⟨i, n, l, d⟩) := Lib.hid (by
    rw [tellS_parts, HI]
    unfold bodyL mrkN; simp only
    rw [hr, hd, hbb, hss]
    show _ = _ ++ strOfNums ([35] ++ hexN 1 2 ++ hexF (byL d))
    rw [nums_app, nums_app, hY, hFZ, ← ByteArray.append_assoc, ← ByteArray.append_assoc]; rfl)
  have He := Lib.hid he
  have Hx := Lib.hid hx
  have Hr := Lib.hid hr
  have Hd := Lib.hid hd
  have Hb := Lib.hid hbb
  have Hs := Lib.hid hss
  clear hX3 he hx hr hd hbb hss lr ld l8 g h HI hX hZ hFZ hY
  go_enter Tryd.func12, Tryd.ntmps12
  go_wp2_with fail
  refine (rhexn_v HX3.out i0 (by omega) (by omega) _).mono ?_
  rintro e w1 ⟨rfl, hb⟩
  have HB1 := Lib.hid hb
  clear hb
  obtain ⟨hc1, hf1⟩ := fbcell HB1.out
  go_wp2_with fail
  refine (has1 He.out n0 n1 _ _ _ _).mono ?_
  rintro e w2 ⟨rfl, hb⟩
  have HB2 := Lib.hid (fbelow_t HB1.out hb)
  clear hb
  obtain ⟨hc2, hf2⟩ := fbcell HB2.out
  clear hc1 hf1
  go_wp2_with fail
  refine (rhexn_v HX.out i0 (by omega) (by omega) _).mono ?_
  rintro e w3 ⟨rfl, hb⟩
  have HB3 := Lib.hid (fbelow_t HB2.out hb)
  clear hb
  obtain ⟨hc3, hf3⟩ := fbcell HB3.out
  clear hc2 hf2
  go_wp2_with fail
  refine (has4 Hx.out n0 n1 _ _ _ _).mono ?_
  rintro e w4 ⟨rfl, hb⟩
  have HB4 := Lib.hid (fbelow_t HB3.out hb)
  clear hb
  obtain ⟨hc4, hf4⟩ := fbcell HB4.out
  clear hc3 hf3
  go_wp2_with fail
  refine (has2 Hr.out n0 n1 _ _ _ _).mono ?_
  rintro e w5 ⟨rfl, hb⟩
  have HB5 := Lib.hid (fbelow_t HB4.out hb)
  clear hb
  obtain ⟨hc5, hf5⟩ := fbcell HB5.out
  clear hc4 hf4
  go_wp2_with fail
  refine (has8 Hd.out n0 n1 _ _ _ _).mono ?_
  rintro e w6 ⟨rfl, hb⟩
  have HB6 := Lib.hid (fbelow_t HB5.out hb)
  clear hb
  obtain ⟨hc6, hf6⟩ := fbcell HB6.out
  clear hc5 hf5
  go_wp2_with fail
  refine (has16 Hb.out n0 n1 _ _ _ _).mono ?_
  rintro e w7 ⟨rfl, hb⟩
  have HB7 := Lib.hid (fbelow_t HB6.out hb)
  clear hb
  obtain ⟨hc7, hf7⟩ := fbcell HB7.out
  clear hc6 hf6
  go_wp2_with fail
  refine (has32 Hs.out n0 n1 _ _ _ _).mono ?_
  rintro e w8 ⟨rfl, hb⟩
  have HB8 := Lib.hid (fbelow_t HB7.out hb)
  clear hb
  obtain ⟨hc8, hf8⟩ := fbcell HB8.out
  clear hc7 hf7
  go_wp2_with fail
  refine (rhexn_v HY.out (by omega) (by omega) (by omega) _).mono ?_
  rintro e w9 ⟨rfl, hb⟩
  have HB9 := Lib.hid (fbelow_t HB8.out hb)
  clear hb
  obtain ⟨hc9, hf9⟩ := fbcell HB9.out
  clear hc8 hf8
  go_wp2_with fail
  refine (rhex_v HZ.out (by omega) _).mono ?_
  rintro e w10 ⟨rfl, hb⟩
  have HB10 := Lib.hid (fbelow_t HB9.out hb)
  clear hb
  obtain ⟨hc10, hf10⟩ := fbcell HB10.out
  clear hc9 hf9
  go_wp2
  go_ret
  exact ⟨by rw [← HS.out]; rfl, fbelow_a _ HB10.out⟩

set_option maxHeartbeats 2000000 in
theorem rtell_10_00110 {i n l : Int} {d : ByteArray} (h : Fr.ok ⟨i, n, l, d⟩ = true) (he : fE n = true) (hx : fX n = false) (hr : fR n = false) (hd : fD n = true) (hbb : fB n = true) (hss : fS n = false) (w : World) :
    Calls Tryd.prog 12 #[.agg #[.int .i64 i, .int .i64 n, .int .i64 l, .string d]] w fun e w' => e = .returned (.string (tellS ⟨i, n, l, d⟩)) ∧ Below w.heap.size w w' := by
  have g := good h
  have n0 := g.n0
  have n1 := g.n1
  have i0 := g.i0
  have i1 := g.top
  have gl := g.len
  simp only at n0 n1 i0 i1 gl
  obtain ⟨l0, l64, l8, lr, ld⟩ := gl
  obtain ⟨X3, hX3⟩ : ∃ X, strOfNums (hexN 3 i) = X := ⟨_, rfl⟩
  have HX3 := Lib.hid hX3
  obtain ⟨X, hX⟩ : ∃ X, strOfNums (hexN 8 i) = X := ⟨_, rfl⟩
  have hXs : X.size = 8 := by rw [← hX, strOfNums_size, hexN_len]
  have HX := Lib.hid hX
  have HI : strOfNums (idL ⟨i, n, l, d⟩) = X := by unfold idL; simp only; rw [hx, he]; exact hX
  obtain ⟨Z, hZ⟩ : ∃ Z, strOfNums (hexl d d.size) = Z := ⟨_, rfl⟩
  have HZ := Lib.hid hZ
  have hds : d.size ≤ 64 := by have := ld hr; omega
  have hZs : Z.size = 2 * d.size := by rw [← hZ, strOfNums_size, hexl_len]
  have hFZ : strOfNums (hexF (byL d)) = Z := by rw [← hexl_F, hZ]
  obtain ⟨Y, hY⟩ : ∃ Y, strOfNums (hexN 1 1) = Y := ⟨_, rfl⟩
  have HY := Lib.hid hY
  have hYs : Y.size = 1 := by rw [← hY, strOfNums_size, hexN_len]
  have q1 : ¬ 9223372036854775807 < X.size + (ByteArray.mk #[35]).size := by simp only [ByteArray.size_append, sz35, sz82, hXs]; omega
  have q2 : ¬ 9223372036854775807 < (X ++ ByteArray.mk #[35]).size + (ByteArray.mk #[35]).size := by simp only [ByteArray.size_append, sz35, sz82, hXs]; omega
  have q3 : ¬ 9223372036854775807 < (X ++ ByteArray.mk #[35] ++ ByteArray.mk #[35]).size + Y.size := by simp only [ByteArray.size_append, sz35, sz82, hXs, hYs]; omega
  have q4 : ¬ 9223372036854775807 < (X ++ ByteArray.mk #[35] ++ ByteArray.mk #[35] ++ Y).size + Z.size := by simp only [ByteArray.size_append, sz35, sz82, hXs, hYs, hZs]; omega
  have HS : Hid (X ++ ByteArray.mk #[35] ++ ByteArray.mk #[35] ++ Y ++ Z = tellS ⟨i, n, l, d⟩) := Lib.hid (by
    rw [tellS_parts, HI]
    unfold bodyL mrkN; simp only
    rw [hr, hd, hbb, hss]
    show _ = _ ++ strOfNums ([35] ++ hexN 1 1 ++ hexF (byL d))
    rw [nums_app, nums_app, hY, hFZ, ← ByteArray.append_assoc, ← ByteArray.append_assoc]; rfl)
  have He := Lib.hid he
  have Hx := Lib.hid hx
  have Hr := Lib.hid hr
  have Hd := Lib.hid hd
  have Hb := Lib.hid hbb
  have Hs := Lib.hid hss
  clear hX3 he hx hr hd hbb hss lr ld l8 g h HI hX hZ hFZ hY
  go_enter Tryd.func12, Tryd.ntmps12
  go_wp2_with fail
  refine (rhexn_v HX3.out i0 (by omega) (by omega) _).mono ?_
  rintro e w1 ⟨rfl, hb⟩
  have HB1 := Lib.hid hb
  clear hb
  obtain ⟨hc1, hf1⟩ := fbcell HB1.out
  go_wp2_with fail
  refine (has1 He.out n0 n1 _ _ _ _).mono ?_
  rintro e w2 ⟨rfl, hb⟩
  have HB2 := Lib.hid (fbelow_t HB1.out hb)
  clear hb
  obtain ⟨hc2, hf2⟩ := fbcell HB2.out
  clear hc1 hf1
  go_wp2_with fail
  refine (rhexn_v HX.out i0 (by omega) (by omega) _).mono ?_
  rintro e w3 ⟨rfl, hb⟩
  have HB3 := Lib.hid (fbelow_t HB2.out hb)
  clear hb
  obtain ⟨hc3, hf3⟩ := fbcell HB3.out
  clear hc2 hf2
  go_wp2_with fail
  refine (has4 Hx.out n0 n1 _ _ _ _).mono ?_
  rintro e w4 ⟨rfl, hb⟩
  have HB4 := Lib.hid (fbelow_t HB3.out hb)
  clear hb
  obtain ⟨hc4, hf4⟩ := fbcell HB4.out
  clear hc3 hf3
  go_wp2_with fail
  refine (has2 Hr.out n0 n1 _ _ _ _).mono ?_
  rintro e w5 ⟨rfl, hb⟩
  have HB5 := Lib.hid (fbelow_t HB4.out hb)
  clear hb
  obtain ⟨hc5, hf5⟩ := fbcell HB5.out
  clear hc4 hf4
  go_wp2_with fail
  refine (has8 Hd.out n0 n1 _ _ _ _).mono ?_
  rintro e w6 ⟨rfl, hb⟩
  have HB6 := Lib.hid (fbelow_t HB5.out hb)
  clear hb
  obtain ⟨hc6, hf6⟩ := fbcell HB6.out
  clear hc5 hf5
  go_wp2_with fail
  refine (has16 Hb.out n0 n1 _ _ _ _).mono ?_
  rintro e w7 ⟨rfl, hb⟩
  have HB7 := Lib.hid (fbelow_t HB6.out hb)
  clear hb
  obtain ⟨hc7, hf7⟩ := fbcell HB7.out
  clear hc6 hf6
  go_wp2_with fail
  refine (has32 Hs.out n0 n1 _ _ _ _).mono ?_
  rintro e w8 ⟨rfl, hb⟩
  have HB8 := Lib.hid (fbelow_t HB7.out hb)
  clear hb
  obtain ⟨hc8, hf8⟩ := fbcell HB8.out
  clear hc7 hf7
  go_wp2_with fail
  refine (rhexn_v HY.out (by omega) (by omega) (by omega) _).mono ?_
  rintro e w9 ⟨rfl, hb⟩
  have HB9 := Lib.hid (fbelow_t HB8.out hb)
  clear hb
  obtain ⟨hc9, hf9⟩ := fbcell HB9.out
  clear hc8 hf8
  go_wp2_with fail
  refine (rhex_v HZ.out (by omega) _).mono ?_
  rintro e w10 ⟨rfl, hb⟩
  have HB10 := Lib.hid (fbelow_t HB9.out hb)
  clear hb
  obtain ⟨hc10, hf10⟩ := fbcell HB10.out
  clear hc9 hf9
  go_wp2
  go_ret
  exact ⟨by rw [← HS.out]; rfl, fbelow_a _ HB10.out⟩

set_option maxHeartbeats 2000000 in
theorem rtell_10_00111 {i n l : Int} {d : ByteArray} (h : Fr.ok ⟨i, n, l, d⟩ = true) (he : fE n = true) (hx : fX n = false) (hr : fR n = false) (hd : fD n = true) (hbb : fB n = true) (hss : fS n = true) (w : World) :
    Calls Tryd.prog 12 #[.agg #[.int .i64 i, .int .i64 n, .int .i64 l, .string d]] w fun e w' => e = .returned (.string (tellS ⟨i, n, l, d⟩)) ∧ Below w.heap.size w w' := by
  have g := good h
  have n0 := g.n0
  have n1 := g.n1
  have i0 := g.i0
  have i1 := g.top
  have gl := g.len
  simp only at n0 n1 i0 i1 gl
  obtain ⟨l0, l64, l8, lr, ld⟩ := gl
  obtain ⟨X3, hX3⟩ : ∃ X, strOfNums (hexN 3 i) = X := ⟨_, rfl⟩
  have HX3 := Lib.hid hX3
  obtain ⟨X, hX⟩ : ∃ X, strOfNums (hexN 8 i) = X := ⟨_, rfl⟩
  have hXs : X.size = 8 := by rw [← hX, strOfNums_size, hexN_len]
  have HX := Lib.hid hX
  have HI : strOfNums (idL ⟨i, n, l, d⟩) = X := by unfold idL; simp only; rw [hx, he]; exact hX
  obtain ⟨Z, hZ⟩ : ∃ Z, strOfNums (hexl d d.size) = Z := ⟨_, rfl⟩
  have HZ := Lib.hid hZ
  have hds : d.size ≤ 64 := by have := ld hr; omega
  have hZs : Z.size = 2 * d.size := by rw [← hZ, strOfNums_size, hexl_len]
  have hFZ : strOfNums (hexF (byL d)) = Z := by rw [← hexl_F, hZ]
  obtain ⟨Y, hY⟩ : ∃ Y, strOfNums (hexN 1 3) = Y := ⟨_, rfl⟩
  have HY := Lib.hid hY
  have hYs : Y.size = 1 := by rw [← hY, strOfNums_size, hexN_len]
  have q1 : ¬ 9223372036854775807 < X.size + (ByteArray.mk #[35]).size := by simp only [ByteArray.size_append, sz35, sz82, hXs]; omega
  have q2 : ¬ 9223372036854775807 < (X ++ ByteArray.mk #[35]).size + (ByteArray.mk #[35]).size := by simp only [ByteArray.size_append, sz35, sz82, hXs]; omega
  have q3 : ¬ 9223372036854775807 < (X ++ ByteArray.mk #[35] ++ ByteArray.mk #[35]).size + Y.size := by simp only [ByteArray.size_append, sz35, sz82, hXs, hYs]; omega
  have q4 : ¬ 9223372036854775807 < (X ++ ByteArray.mk #[35] ++ ByteArray.mk #[35] ++ Y).size + Z.size := by simp only [ByteArray.size_append, sz35, sz82, hXs, hYs, hZs]; omega
  have HS : Hid (X ++ ByteArray.mk #[35] ++ ByteArray.mk #[35] ++ Y ++ Z = tellS ⟨i, n, l, d⟩) := Lib.hid (by
    rw [tellS_parts, HI]
    unfold bodyL mrkN; simp only
    rw [hr, hd, hbb, hss]
    show _ = _ ++ strOfNums ([35] ++ hexN 1 3 ++ hexF (byL d))
    rw [nums_app, nums_app, hY, hFZ, ← ByteArray.append_assoc, ← ByteArray.append_assoc]; rfl)
  have He := Lib.hid he
  have Hx := Lib.hid hx
  have Hr := Lib.hid hr
  have Hd := Lib.hid hd
  have Hb := Lib.hid hbb
  have Hs := Lib.hid hss
  clear hX3 he hx hr hd hbb hss lr ld l8 g h HI hX hZ hFZ hY
  go_enter Tryd.func12, Tryd.ntmps12
  go_wp2_with fail
  refine (rhexn_v HX3.out i0 (by omega) (by omega) _).mono ?_
  rintro e w1 ⟨rfl, hb⟩
  have HB1 := Lib.hid hb
  clear hb
  obtain ⟨hc1, hf1⟩ := fbcell HB1.out
  go_wp2_with fail
  refine (has1 He.out n0 n1 _ _ _ _).mono ?_
  rintro e w2 ⟨rfl, hb⟩
  have HB2 := Lib.hid (fbelow_t HB1.out hb)
  clear hb
  obtain ⟨hc2, hf2⟩ := fbcell HB2.out
  clear hc1 hf1
  go_wp2_with fail
  refine (rhexn_v HX.out i0 (by omega) (by omega) _).mono ?_
  rintro e w3 ⟨rfl, hb⟩
  have HB3 := Lib.hid (fbelow_t HB2.out hb)
  clear hb
  obtain ⟨hc3, hf3⟩ := fbcell HB3.out
  clear hc2 hf2
  go_wp2_with fail
  refine (has4 Hx.out n0 n1 _ _ _ _).mono ?_
  rintro e w4 ⟨rfl, hb⟩
  have HB4 := Lib.hid (fbelow_t HB3.out hb)
  clear hb
  obtain ⟨hc4, hf4⟩ := fbcell HB4.out
  clear hc3 hf3
  go_wp2_with fail
  refine (has2 Hr.out n0 n1 _ _ _ _).mono ?_
  rintro e w5 ⟨rfl, hb⟩
  have HB5 := Lib.hid (fbelow_t HB4.out hb)
  clear hb
  obtain ⟨hc5, hf5⟩ := fbcell HB5.out
  clear hc4 hf4
  go_wp2_with fail
  refine (has8 Hd.out n0 n1 _ _ _ _).mono ?_
  rintro e w6 ⟨rfl, hb⟩
  have HB6 := Lib.hid (fbelow_t HB5.out hb)
  clear hb
  obtain ⟨hc6, hf6⟩ := fbcell HB6.out
  clear hc5 hf5
  go_wp2_with fail
  refine (has16 Hb.out n0 n1 _ _ _ _).mono ?_
  rintro e w7 ⟨rfl, hb⟩
  have HB7 := Lib.hid (fbelow_t HB6.out hb)
  clear hb
  obtain ⟨hc7, hf7⟩ := fbcell HB7.out
  clear hc6 hf6
  go_wp2_with fail
  refine (has32 Hs.out n0 n1 _ _ _ _).mono ?_
  rintro e w8 ⟨rfl, hb⟩
  have HB8 := Lib.hid (fbelow_t HB7.out hb)
  clear hb
  obtain ⟨hc8, hf8⟩ := fbcell HB8.out
  clear hc7 hf7
  go_wp2_with fail
  refine (rhexn_v HY.out (by omega) (by omega) (by omega) _).mono ?_
  rintro e w9 ⟨rfl, hb⟩
  have HB9 := Lib.hid (fbelow_t HB8.out hb)
  clear hb
  obtain ⟨hc9, hf9⟩ := fbcell HB9.out
  clear hc8 hf8
  go_wp2_with fail
  refine (rhex_v HZ.out (by omega) _).mono ?_
  rintro e w10 ⟨rfl, hb⟩
  have HB10 := Lib.hid (fbelow_t HB9.out hb)
  clear hb
  obtain ⟨hc10, hf10⟩ := fbcell HB10.out
  clear hc9 hf9
  go_wp2
  go_ret
  exact ⟨by rw [← HS.out]; rfl, fbelow_a _ HB10.out⟩

set_option maxHeartbeats 2000000 in
theorem rtell_01_00000 {i n l : Int} {d : ByteArray} (h : Fr.ok ⟨i, n, l, d⟩ = true) (he : fE n = false) (hx : fX n = true) (hr : fR n = false) (hd : fD n = false) (hbb : fB n = false) (hss : fS n = false) (w : World) :
    Calls Tryd.prog 12 #[.agg #[.int .i64 i, .int .i64 n, .int .i64 l, .string d]] w fun e w' => e = .returned (.string (tellS ⟨i, n, l, d⟩)) ∧ Below w.heap.size w w' := by
  have g := good h
  have n0 := g.n0
  have n1 := g.n1
  have i0 := g.i0
  have i1 := g.top
  have gl := g.len
  simp only at n0 n1 i0 i1 gl
  obtain ⟨l0, l64, l8, lr, ld⟩ := gl
  obtain ⟨X3, hX3⟩ : ∃ X, strOfNums (hexN 3 i) = X := ⟨_, rfl⟩
  have HX3 := Lib.hid hX3
  obtain ⟨X, hX⟩ : ∃ X, strOfNums (hexN 8 (i + 536870912)) = X := ⟨_, rfl⟩
  have hXs : X.size = 8 := by rw [← hX, strOfNums_size, hexN_len]
  have HX := Lib.hid hX
  have HI : strOfNums (idL ⟨i, n, l, d⟩) = X := by unfold idL; simp only; rw [hx, he]; exact hX
  obtain ⟨Z, hZ⟩ : ∃ Z, strOfNums (hexl d d.size) = Z := ⟨_, rfl⟩
  have HZ := Lib.hid hZ
  have hds : d.size ≤ 64 := by have := ld hr; omega
  have hZs : Z.size = 2 * d.size := by rw [← hZ, strOfNums_size, hexl_len]
  have hFZ : strOfNums (hexF (byL d)) = Z := by rw [← hexl_F, hZ]
  have q1 : ¬ 9223372036854775807 < X.size + (ByteArray.mk #[35]).size := by simp only [ByteArray.size_append, sz35, sz82, hXs]; omega
  have q2 : ¬ 9223372036854775807 < (X ++ ByteArray.mk #[35]).size + Z.size := by simp only [ByteArray.size_append, sz35, sz82, hXs, hZs]; omega
  have HS : Hid (X ++ ByteArray.mk #[35] ++ Z = tellS ⟨i, n, l, d⟩) := Lib.hid (by
    rw [tellS_parts, HI]
    unfold bodyL; simp only
    rw [hr, hd]
    show _ = _ ++ strOfNums ([] ++ hexF (byL d))
    rw [List.nil_append, hFZ])
  have He := Lib.hid he
  have Hx := Lib.hid hx
  have Hr := Lib.hid hr
  have Hd := Lib.hid hd
  have Hb := Lib.hid hbb
  have Hs := Lib.hid hss
  clear hX3 he hx hr hd hbb hss lr ld l8 g h HI hX hZ hFZ
  go_enter Tryd.func12, Tryd.ntmps12
  go_wp2_with fail
  refine (rhexn_v HX3.out i0 (by omega) (by omega) _).mono ?_
  rintro e w1 ⟨rfl, hb⟩
  have HB1 := Lib.hid hb
  clear hb
  obtain ⟨hc1, hf1⟩ := fbcell HB1.out
  go_wp2_with fail
  refine (has1 He.out n0 n1 _ _ _ _).mono ?_
  rintro e w2 ⟨rfl, hb⟩
  have HB2 := Lib.hid (fbelow_t HB1.out hb)
  clear hb
  obtain ⟨hc2, hf2⟩ := fbcell HB2.out
  clear hc1 hf1
  go_wp2_with fail
  refine (has4 Hx.out n0 n1 _ _ _ _).mono ?_
  rintro e w3 ⟨rfl, hb⟩
  have HB3 := Lib.hid (fbelow_t HB2.out hb)
  clear hb
  obtain ⟨hc3, hf3⟩ := fbcell HB3.out
  clear hc2 hf2
  go_wp2_with fail
  refine (rhexn_v HX.out (by omega) (by omega) (by omega) _).mono ?_
  rintro e w4 ⟨rfl, hb⟩
  have HB4 := Lib.hid (fbelow_t HB3.out hb)
  clear hb
  obtain ⟨hc4, hf4⟩ := fbcell HB4.out
  clear hc3 hf3
  go_wp2_with fail
  refine (has2 Hr.out n0 n1 _ _ _ _).mono ?_
  rintro e w5 ⟨rfl, hb⟩
  have HB5 := Lib.hid (fbelow_t HB4.out hb)
  clear hb
  obtain ⟨hc5, hf5⟩ := fbcell HB5.out
  clear hc4 hf4
  go_wp2_with fail
  refine (has8 Hd.out n0 n1 _ _ _ _).mono ?_
  rintro e w6 ⟨rfl, hb⟩
  have HB6 := Lib.hid (fbelow_t HB5.out hb)
  clear hb
  obtain ⟨hc6, hf6⟩ := fbcell HB6.out
  clear hc5 hf5
  go_wp2_with fail
  refine (rhex_v HZ.out (by omega) _).mono ?_
  rintro e w7 ⟨rfl, hb⟩
  have HB7 := Lib.hid (fbelow_t HB6.out hb)
  clear hb
  obtain ⟨hc7, hf7⟩ := fbcell HB7.out
  clear hc6 hf6
  go_wp2
  go_ret
  exact ⟨by rw [← HS.out]; rfl, fbelow_a _ HB7.out⟩

theorem rtell_t {f : Fr} (h : f.ok = true) (w : World) :
    Calls Tryd.prog 12 #[.agg #[.int .i64 f.i, .int .i64 f.n, .int .i64 f.l, .string f.d]] w fun e w' => e = .returned (.string (tellS f)) ∧ Below w.heap.size w w' := by
  obtain ⟨i, n, l, d⟩ := f
  have g := good h
  have l0 := g.len.1
  simp only at l0
  cases hx : fX n
  · cases he : fE n <;> cases hr : fR n <;> cases hd : fD n
    · obtain ⟨hb, hs⟩ := g.noBS hd
      exact rtell_00_00000 h he hx hr hd hb hs w
    · cases hb : fB n <;> cases hs : fS n
      · exact rtell_00_00100 h he hx hr hd hb hs w
      · exact rtell_00_00101 h he hx hr hd hb hs w
      · exact rtell_00_00110 h he hx hr hd hb hs w
      · exact rtell_00_00111 h he hx hr hd hb hs w
    · obtain ⟨hb, hs⟩ := g.noBS hd
      by_cases hl : l = 0
      · exact rtell_00_10000 h he hx hr hd hb hs hl w
      · exact rtell_00_11000 h he hx hr hd hb hs (by omega) w
    · exact absurd (g.noDR hd).1 (by simp only; rw [hr]; decide)
    · obtain ⟨hb, hs⟩ := g.noBS hd
      exact rtell_10_00000 h he hx hr hd hb hs w
    · cases hb : fB n <;> cases hs : fS n
      · exact rtell_10_00100 h he hx hr hd hb hs w
      · exact rtell_10_00101 h he hx hr hd hb hs w
      · exact rtell_10_00110 h he hx hr hd hb hs w
      · exact rtell_10_00111 h he hx hr hd hb hs w
    · obtain ⟨hb, hs⟩ := g.noBS hd
      by_cases hl : l = 0
      · exact rtell_10_10000 h he hx hr hd hb hs hl w
      · exact rtell_10_11000 h he hx hr hd hb hs (by omega) w
    · exact absurd (g.noDR hd).1 (by simp only; rw [hr]; decide)
  · obtain ⟨he, hr, hd⟩ := g.noXE hx
    obtain ⟨hb, hs⟩ := g.noBS hd
    exact rtell_01_00000 h he hx hr hd hb hs w
theorem rtell_v {f : Fr} {s : ByteArray} (h : f.ok = true) (hs : tellS f = s) (w : World) :
    Calls Tryd.prog 12 #[.agg #[.int .i64 f.i, .int .i64 f.n, .int .i64 f.l, .string f.d]] w fun e w' => e = .returned (.string s) ∧ Below w.heap.size w w' := by rw [← hs]; exact rtell_t h w

end Go.Proofs.YtpjlomgiljpadaaDoor
