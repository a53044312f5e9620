/- Match: walks of MatchHits, MatchLists, MatchExact. (Printed by gen_h.py.) -/
import Derived.Test.YtohoedhaomkafaaDoorMatG
namespace Go.Proofs.YtohoedhaomkafaaDoor
open Go.RowKit
set_option linter.unusedVariables false

theorem laterSl {W : World} {s : Value} {L : List Flt} (m : Later W) (h : SlL W W.heap.size s L) : SlL m.w m.w.heap.size s L := h.later m.h
def fltOf : List Value → Flt
  | [.int _ i, .int _ m, .bool v] => ⟨i.toNat, m.toNat, v⟩
  | _ => ⟨0, 0, false⟩
theorem fltOf_c (l : List Value) (h : FitsAll [.int .u32, .int .u32, .bool] l) : flC (fltOf l) = l := by
  obtain ⟨v0, l0, rfl, ⟨a0, rfl, w0⟩, h0⟩ := FitsAll.cons h
  obtain ⟨v1, l1, rfl, ⟨a1, rfl, w1⟩, h1⟩ := FitsAll.cons h0
  obtain ⟨v2, l2, rfl, ⟨a2, rfl⟩, h2⟩ := FitsAll.cons h1
  obtain rfl := FitsAll.nil h2
  have b0 := (Go.bounds_u32 w0).1
  have b1 := (Go.bounds_u32 w1).1
  show [Value.int .u32 (a0.toNat : Int), Value.int .u32 (a1.toNat : Int), Value.bool a2] = _
  rw [Int.toNat_of_nonneg b0, Int.toNat_of_nonneg b1]
theorem flt_fits {f : Flt} (h : FitsAll [.int .u32, .int .u32, .bool] (flC f)) : f.fits := by
  obtain ⟨⟨a0, e0, h0⟩, ⟨a1, e1, h1⟩, _⟩ := h
  injection e0 with _ e0
  injection e1 with _ e1
  have b0 := Go.bounds_u32 h0
  have b1 := Go.bounds_u32 h1
  exact ⟨by omega, by omega⟩

set_option maxRecDepth 100000 in
set_option maxHeartbeats 2000000 in
theorem matchHits_n {f : Flt} {u : Nat} {i n l : Int} {d : ByteArray} {v : Nat} (q1 q2 c : Bool) (H1 : Hid (hitN f u = q1)) (HC : Hid (carB i n l d.size = c)) (HV : Hid (wordV i n l d.size = (v : Int))) (HVL : Hid (v < 4294967296)) (H2 : Hid ((c && hitN f v) = q2))
    (HF : Hid f.fits) (HU : Hid (u < 4294967296)) (HN : Hid (-9223372036854775808 ≤ n ∧ n ≤ 9223372036854775807)) (w : World) (HT : Hid (Tabs w)) :
    Calls Tryd.prog 3 #[.agg #[.int .u32 f.i, .int .u32 f.m, .bool f.v], .int .u32 u, .agg #[.int .i64 i, .int .i64 n, .int .i64 l, .string d]] w fun e w' => e = .returned (.bool true) ∧ Below w.heap.size w w' := by
  have hl := later_cells
  cases q1 <;> cases q2 <;>
  · go_enter Tryd.func3, Tryd.ntmps3
    go_wp2_with fail
    refine wp_region_later (by kernel_rfl) (by kernel_rfl) ?_
    repeat (go_big_quiet_step (fail))
    go_big_quiet_step (exact Later.call (mhit_v H1.out HF.out HU.out _))
    repeat (go_big_quiet_step (fail))
    go_big_quiet_step (exact Later.call (rhit_v H1.out HF.out HU.out _))
    repeat (go_big_quiet_step (fail))
    go_big_quiet_step (exact Later.call (match_v c HC.out HV.out HVL.out H2.out HF.out _ (laterTabs _ ((HT.out.alloc _).alloc _)) HN.out.1 HN.out.2))
    repeat (go_big_quiet_step (fail))
    go_big_quiet_step (exact Later.call (rmatch_v c HC.out HV.out HVL.out H2.out HF.out _))
    repeat (go_big_quiet_step (fail))
    go_big_quiet_step (exact Later.call (malive_any _))
    repeat (go_big_quiet_step (fail))
    refine wpQuiet_nil ?_
    rintro w1 ⟨m, rfl⟩
    go_wp2
    go_ret
    exact ⟨rfl, fbelow_a _ (fbelow_a _ m.h)⟩
theorem matchHits_walk (a0_0 a0_1 : Int) (a0_2 : Bool) (a1 : Int) (a2_0 a2_1 a2_2 : Int) (a2_3 : ByteArray) (w0_0 : (Lit.int .u32 a0_0).wf = true) (w0_1 : (Lit.int .u32 a0_1).wf = true) (w1 : (Lit.int .u32 a1).wf = true)
    (_w2_0 : (Lit.int .i64 a2_0).wf = true) (w2_1 : (Lit.int .i64 a2_1).wf = true) (_w2_2 : (Lit.int .i64 a2_2).wf = true) (_w2_3 : a2_3.size ≤ maxLen) (w : World) (hT : Tabs w) :
    Calls Tryd.prog 3 #[.agg #[.int .u32 a0_0, .int .u32 a0_1, .bool a0_2], .int .u32 a1, .agg #[.int .i64 a2_0, .int .i64 a2_1, .int .i64 a2_2, .string a2_3]] w fun e w' => e = .returned (.bool true) ∧ Below w.heap.size w w' := by
  have b0 := Go.bounds_u32 w0_0
  obtain ⟨x, rfl⟩ := Int.eq_ofNat_of_zero_le b0.1
  have b1 := Go.bounds_u32 w0_1
  obtain ⟨y, rfl⟩ := Int.eq_ofNat_of_zero_le b1.1
  have b2 := Go.bounds_u32 w1
  obtain ⟨u, rfl⟩ := Int.eq_ofNat_of_zero_le b2.1
  obtain ⟨v, hv, hvl⟩ := word_nat a2_0 a2_1 a2_2 a2_3.size
  exact matchHits_n (f := ⟨x, y, a0_2⟩) _ _ _ (Lib.hid rfl) (Lib.hid rfl) (Lib.hid hv) (Lib.hid hvl) (Lib.hid rfl) (Lib.hid ⟨by simp only; omega, by simp only; omega⟩) (Lib.hid (by omega)) (Lib.hid (Go.bounds_i64 w2_1)) w (Lib.hid hT)

set_option maxRecDepth 100000 in
set_option maxHeartbeats 2000000 in
theorem matchLists_n {w : World} {L : List Flt} {s : Value} {join : Bool} {e : Nat} {i n l : Int} {d : ByteArray} {v : Nat} (q1 q2 c : Bool) (HS : Hid (SlL w w.heap.size s L)) (H1 : Hid (anyB c L join v = q1)) (HC : Hid (carB i n l d.size = c)) (HV : Hid (wordV i n l d.size = (v : Int))) (HVL : Hid (v < 4294967296))
    (H2 : Hid (toldB e i n l d.size = q2)) (HF : Hid (∀ f ∈ L, f.fits)) (HE : Hid (e < 4294967296)) (HN : Hid (-9223372036854775808 ≤ n ∧ n ≤ 9223372036854775807)) (HT : Hid (Tabs w)) :
    Calls Tryd.prog 4 #[s, .bool join, .agg #[.int .i64 i, .int .i64 n, .int .i64 l, .string d], .int .u32 e] w fun e w' => e = .returned (.bool true) ∧ Below w.heap.size w w' := by
  have hl := later_cells
  obtain ⟨A, cap, rfl, hm, _⟩ := HS.out
  unfold maxLen at hm
  have HS1 := Lib.hid (fun o => HS.out.later ((Below.refl w.heap.size w).alloc (Nat.le_refl _) o))
  by_cases hlen : 200 < L.length
  · go_enter Tryd.func4, Tryd.ntmps4
    go_wp2_with fail
    refine (malive_any _).mono ?_
    rintro e' w1 ⟨rfl, hb⟩
    go_wp2
    go_ret
    exact ⟨rfl, fbelow_a _ hb⟩
  · cases q1 <;> cases q2 <;>
    · go_enter Tryd.func4, Tryd.ntmps4
      go_wp2_with fail
      refine wp_region_later (by kernel_rfl) (by kernel_rfl) ?_
      repeat (go_big_quiet_step (fail))
      go_big_quiet_step (exact Later.call (any_v c HC.out HV.out HVL.out H1.out HF.out _ (laterSl _ (HS1.out _)) (laterTabs _ (HT.out.alloc _)) HN.out.1 HN.out.2))
      repeat (go_big_quiet_step (fail))
      go_big_quiet_step (exact Later.call (rany_v c HC.out HV.out HVL.out H1.out HF.out _ (laterSl _ (HS1.out _))))
      repeat (go_big_quiet_step (fail))
      go_big_quiet_step (exact Later.call (told_v H2.out HE.out _ (laterTabs _ (HT.out.alloc _)) HN.out.1 HN.out.2))
      repeat (go_big_quiet_step (fail))
      go_big_quiet_step (exact Later.call (rtold_v H2.out HE.out _))
      repeat (go_big_quiet_step (fail))
      go_big_quiet_step (exact Later.call (malive_any _))
      repeat (go_big_quiet_step (fail))
      refine wpQuiet_nil ?_
      rintro w1 ⟨m, rfl⟩
      go_wp2
      go_ret
      exact ⟨rfl, fbelow_a _ m.h⟩
theorem matchLists_walk (a : Option Addr) (len cap : Nat) (F : Nat → List Value) (a1 : Bool) (a2_0 a2_1 a2_2 : Int) (a2_3 : ByteArray) (a3 : Int) (w : World) (hr : IsRowOf w [.int .u32, .int .u32, .bool] a len cap F)
    (_w2_0 : (Lit.int .i64 a2_0).wf = true) (w2_1 : (Lit.int .i64 a2_1).wf = true) (_w2_2 : (Lit.int .i64 a2_2).wf = true) (_w2_3 : a2_3.size ≤ maxLen) (w3 : (Lit.int .u32 a3).wf = true) (hT : Tabs w) :
    Calls Tryd.prog 4 #[.slice a len cap, .bool a1, .agg #[.int .i64 a2_0, .int .i64 a2_1, .int .i64 a2_2, .string a2_3], .int .u32 a3] w fun e w' => e = .returned (.bool true) ∧ Below w.heap.size w w' := by
  obtain ⟨L, hL, _, hf⟩ := slice_of_row hr fltOf fltOf_c rfl (by decide)
  have b2 := Go.bounds_u32 w3
  obtain ⟨e, rfl⟩ := Int.eq_ofNat_of_zero_le b2.1
  obtain ⟨v, hv, hvl⟩ := word_nat a2_0 a2_1 a2_2 a2_3.size
  exact matchLists_n _ _ _ (Lib.hid hL) (Lib.hid rfl) (Lib.hid rfl) (Lib.hid hv) (Lib.hid hvl) (Lib.hid rfl) (Lib.hid fun f hm => flt_fits (hf f hm)) (Lib.hid (by omega)) (Lib.hid (Go.bounds_i64 w2_1)) (Lib.hid hT)

theorem ex_hit {u v : Nat} (hu : u < 4294967296) (hv : v < 4294967296) : (true && hitN ⟨u, 4294967295, false⟩ v) = ((u : Int) == (v : Int)) := by
  rw [Bool.true_and, Bool.eq_iff_iff, hit_pos (f := ⟨u, 4294967295, false⟩) rfl, beq_iff_eq]
  constructor
  · intro h
    have : u = v := by
      apply Nat.eq_of_testBit_eq
      intro k
      by_cases hk : k < 32
      · refine (h k ?_).symm
        show (4294967295 : Nat).testBit k = true
        have key : ∀ k : Fin 32, (4294967295 : Nat).testBit k.val = true := by decide +kernel
        exact key ⟨k, hk⟩
      · cases h1 : u.testBit k
        · cases h2 : v.testBit k
          · rfl
          · exact absurd (bit_lt hv h2) hk
        · exact absurd (bit_lt hu h1) hk
    rw [this]
  · intro h
    obtain rfl : u = v := by omega
    intro k _
    rfl

def errS : ByteArray := ByteArray.mk #[49, 50, 51, 52, 53, 54, 55, 56]
theorem err_car : carB 0 4 8 (ByteArray.mk #[49, 50, 51, 52, 53, 54, 55, 56]).size = false := by decide +kernel

set_option maxRecDepth 100000 in
set_option maxHeartbeats 4000000 in
theorem matchExact_a {f : Flt} {xi xn xl : Int} {xd : ByteArray} {yi yn yl : Int} {yd : ByteArray} (HX : Hid (okF xi xn xl xd.size = false)) (HF : Hid f.fits) (w : World) (HT : Hid (Tabs w)) :
    Calls Tryd.prog 5 #[.agg #[.int .u32 f.i, .int .u32 f.m, .bool f.v], .agg #[.int .i64 xi, .int .i64 xn, .int .i64 xl, .string xd], .agg #[.int .i64 yi, .int .i64 yn, .int .i64 yl, .string yd]] w fun e w' => e = .returned (.bool true) ∧ Below w.heap.size w w' := by
  obtain ⟨z, hz, hzl⟩ := word_nat 0 4 8 (ByteArray.mk #[49, 50, 51, 52, 53, 54, 55, 56]).size
  have HZ := Lib.hid hz
  have HZL := Lib.hid hzl
  clear hz hzl
  go_enter Tryd.func5, Tryd.ntmps5
  go_wp2_with fail
  refine (rright_v HX.out _).mono ?_
  rintro e w1 ⟨rfl, hb1⟩
  obtain ⟨hc1, hf1⟩ := fbcell hb1
  have z1_0 : w.heap.size < w1.heap.size := by have := hb1.size; simp only [World.size_alloc] at this; omega
  have z1_1 : w.heap.size + 1 < w1.heap.size := by have := hb1.size; simp only [World.size_alloc] at this; omega
  have z1_2 : w.heap.size + 1 + 1 < w1.heap.size := by have := hb1.size; simp only [World.size_alloc] at this; omega
  have HB1 : Hid (Below w.heap.size w w1) := Lib.hid (fbelow_a _ (fbelow_a _ (fbelow_a _ hb1)))
  have HT1 := Lib.hid ((((HT.out.alloc _).alloc _).alloc _).below hb1)
  clear hb1
  go_wp2_with fail
  refine (match_v (i := 0) (n := 4) (l := 8) (d := ByteArray.mk #[49, 50, 51, 52, 53, 54, 55, 56]) (q := false) false err_car HZ.out HZL.out rfl HF.out _ HT1.out (by decide) (by decide)).mono ?_
  rintro e w2 ⟨rfl, hb2⟩
  obtain ⟨hc2, hf2⟩ := fbcell hb2
  have z2_0 : w.heap.size < w2.heap.size := Nat.lt_of_lt_of_le z1_0 hb2.size
  have z2_1 : w.heap.size + 1 < w2.heap.size := Nat.lt_of_lt_of_le z1_1 hb2.size
  have z2_2 : w.heap.size + 1 + 1 < w2.heap.size := Nat.lt_of_lt_of_le z1_2 hb2.size
  have HB2 : Hid (Below w.heap.size w w2) := Lib.hid (fbelow_t HB1.out hb2)
  have HT2 := Lib.hid (HT1.out.below hb2)
  clear hb2
  go_wp2_with fail
  refine (malive_any _).mono ?_
  rintro e w3 ⟨rfl, hb3⟩
  obtain ⟨hc3, hf3⟩ := fbcell hb3
  have z3_0 : w.heap.size < w3.heap.size := Nat.lt_of_lt_of_le z2_0 hb3.size
  have z3_1 : w.heap.size + 1 < w3.heap.size := Nat.lt_of_lt_of_le z2_1 hb3.size
  have z3_2 : w.heap.size + 1 + 1 < w3.heap.size := Nat.lt_of_lt_of_le z2_2 hb3.size
  have HB3 : Hid (Below w.heap.size w w3) := Lib.hid (fbelow_t HB2.out hb3)
  have HT3 := Lib.hid (HT2.out.below hb3)
  clear hb3
  go_wp2
  go_ret
  exact ⟨rfl, HB3.out⟩

set_option maxRecDepth 100000 in
set_option maxHeartbeats 4000000 in
theorem matchExact_b {f : Flt} {xi xn xl : Int} {xd : ByteArray} {yi yn yl : Int} {yd : ByteArray} (HX : Hid (okF xi xn xl xd.size = true)) (HY : Hid (okF yi yn yl yd.size = false)) (HF : Hid f.fits) (w : World) (HT : Hid (Tabs w)) :
    Calls Tryd.prog 5 #[.agg #[.int .u32 f.i, .int .u32 f.m, .bool f.v], .agg #[.int .i64 xi, .int .i64 xn, .int .i64 xl, .string xd], .agg #[.int .i64 yi, .int .i64 yn, .int .i64 yl, .string yd]] w fun e w' => e = .returned (.bool true) ∧ Below w.heap.size w w' := by
  obtain ⟨z, hz, hzl⟩ := word_nat 0 4 8 (ByteArray.mk #[49, 50, 51, 52, 53, 54, 55, 56]).size
  have HZ := Lib.hid hz
  have HZL := Lib.hid hzl
  clear hz hzl
  go_enter Tryd.func5, Tryd.ntmps5
  go_wp2_with fail
  refine (rright_v HX.out _).mono ?_
  rintro e w1 ⟨rfl, hb1⟩
  obtain ⟨hc1, hf1⟩ := fbcell hb1
  have z1_0 : w.heap.size < w1.heap.size := by have := hb1.size; simp only [World.size_alloc] at this; omega
  have z1_1 : w.heap.size + 1 < w1.heap.size := by have := hb1.size; simp only [World.size_alloc] at this; omega
  have z1_2 : w.heap.size + 1 + 1 < w1.heap.size := by have := hb1.size; simp only [World.size_alloc] at this; omega
  have HB1 : Hid (Below w.heap.size w w1) := Lib.hid (fbelow_a _ (fbelow_a _ (fbelow_a _ hb1)))
  have HT1 := Lib.hid ((((HT.out.alloc _).alloc _).alloc _).below hb1)
  clear hb1
  go_wp2_with fail
  refine (rright_v HY.out _).mono ?_
  rintro e w2 ⟨rfl, hb2⟩
  obtain ⟨hc2, hf2⟩ := fbcell hb2
  have z2_0 : w.heap.size < w2.heap.size := Nat.lt_of_lt_of_le z1_0 hb2.size
  have z2_1 : w.heap.size + 1 < w2.heap.size := Nat.lt_of_lt_of_le z1_1 hb2.size
  have z2_2 : w.heap.size + 1 + 1 < w2.heap.size := Nat.lt_of_lt_of_le z1_2 hb2.size
  have HB2 : Hid (Below w.heap.size w w2) := Lib.hid (fbelow_t HB1.out hb2)
  have HT2 := Lib.hid (HT1.out.below hb2)
  clear hb2
  go_wp2_with fail
  refine (match_v (i := 0) (n := 4) (l := 8) (d := ByteArray.mk #[49, 50, 51, 52, 53, 54, 55, 56]) (q := false) false err_car HZ.out HZL.out rfl HF.out _ HT2.out (by decide) (by decide)).mono ?_
  rintro e w3 ⟨rfl, hb3⟩
  obtain ⟨hc3, hf3⟩ := fbcell hb3
  have z3_0 : w.heap.size < w3.heap.size := Nat.lt_of_lt_of_le z2_0 hb3.size
  have z3_1 : w.heap.size + 1 < w3.heap.size := Nat.lt_of_lt_of_le z2_1 hb3.size
  have z3_2 : w.heap.size + 1 + 1 < w3.heap.size := Nat.lt_of_lt_of_le z2_2 hb3.size
  have HB3 : Hid (Below w.heap.size w w3) := Lib.hid (fbelow_t HB2.out hb3)
  have HT3 := Lib.hid (HT2.out.below hb3)
  clear hb3
  go_wp2_with fail
  refine (malive_any _).mono ?_
  rintro e w4 ⟨rfl, hb4⟩
  obtain ⟨hc4, hf4⟩ := fbcell hb4
  have z4_0 : w.heap.size < w4.heap.size := Nat.lt_of_lt_of_le z3_0 hb4.size
  have z4_1 : w.heap.size + 1 < w4.heap.size := Nat.lt_of_lt_of_le z3_1 hb4.size
  have z4_2 : w.heap.size + 1 + 1 < w4.heap.size := Nat.lt_of_lt_of_le z3_2 hb4.size
  have HB4 : Hid (Below w.heap.size w w4) := Lib.hid (fbelow_t HB3.out hb4)
  have HT4 := Lib.hid (HT3.out.below hb4)
  clear hb4
  go_wp2
  go_ret
  exact ⟨rfl, HB4.out⟩

set_option maxRecDepth 100000 in
set_option maxHeartbeats 4000000 in
theorem matchExact_c {f : Flt} {xi xn xl : Int} {xd : ByteArray} {yi yn yl : Int} {yd : ByteArray} (HX : Hid (okF xi xn xl xd.size = true)) (HY : Hid (okF yi yn yl yd.size = true)) (HEX : Hid (fX xn = true)) (HF : Hid f.fits) (w : World) (HT : Hid (Tabs w)) :
    Calls Tryd.prog 5 #[.agg #[.int .u32 f.i, .int .u32 f.m, .bool f.v], .agg #[.int .i64 xi, .int .i64 xn, .int .i64 xl, .string xd], .agg #[.int .i64 yi, .int .i64 yn, .int .i64 yl, .string yd]] w fun e w' => e = .returned (.bool true) ∧ Below w.heap.size w w' := by
  obtain ⟨z, hz, hzl⟩ := word_nat 0 4 8 (ByteArray.mk #[49, 50, 51, 52, 53, 54, 55, 56]).size
  have HZ := Lib.hid hz
  have HZL := Lib.hid hzl
  clear hz hzl
  have gx := good HX.out
  have gy := good HY.out
  have HGX := Lib.hid (And.intro gx.n0 gx.n1)
  have HGY := Lib.hid (And.intro gy.n0 gy.n1)
  clear gx gy
  go_enter Tryd.func5, Tryd.ntmps5
  go_wp2_with fail
  refine (rright_v HX.out _).mono ?_
  rintro e w1 ⟨rfl, hb1⟩
  obtain ⟨hc1, hf1⟩ := fbcell hb1
  have z1_0 : w.heap.size < w1.heap.size := by have := hb1.size; simp only [World.size_alloc] at this; omega
  have z1_1 : w.heap.size + 1 < w1.heap.size := by have := hb1.size; simp only [World.size_alloc] at this; omega
  have z1_2 : w.heap.size + 1 + 1 < w1.heap.size := by have := hb1.size; simp only [World.size_alloc] at this; omega
  have HB1 : Hid (Below w.heap.size w w1) := Lib.hid (fbelow_a _ (fbelow_a _ (fbelow_a _ hb1)))
  have HT1 := Lib.hid ((((HT.out.alloc _).alloc _).alloc _).below hb1)
  clear hb1
  go_wp2_with fail
  refine (rright_v HY.out _).mono ?_
  rintro e w2 ⟨rfl, hb2⟩
  obtain ⟨hc2, hf2⟩ := fbcell hb2
  have z2_0 : w.heap.size < w2.heap.size := Nat.lt_of_lt_of_le z1_0 hb2.size
  have z2_1 : w.heap.size + 1 < w2.heap.size := Nat.lt_of_lt_of_le z1_1 hb2.size
  have z2_2 : w.heap.size + 1 + 1 < w2.heap.size := Nat.lt_of_lt_of_le z1_2 hb2.size
  have HB2 : Hid (Below w.heap.size w w2) := Lib.hid (fbelow_t HB1.out hb2)
  have HT2 := Lib.hid (HT1.out.below hb2)
  clear hb2
  go_wp2_with fail
  refine (has4 HEX.out HGX.out.1 HGX.out.2 _ _ _ _).mono ?_
  rintro e w3 ⟨rfl, hb3⟩
  obtain ⟨hc3, hf3⟩ := fbcell hb3
  have z3_0 : w.heap.size < w3.heap.size := Nat.lt_of_lt_of_le z2_0 hb3.size
  have z3_1 : w.heap.size + 1 < w3.heap.size := Nat.lt_of_lt_of_le z2_1 hb3.size
  have z3_2 : w.heap.size + 1 + 1 < w3.heap.size := Nat.lt_of_lt_of_le z2_2 hb3.size
  have HB3 : Hid (Below w.heap.size w w3) := Lib.hid (fbelow_t HB2.out hb3)
  have HT3 := Lib.hid (HT2.out.below hb3)
  clear hb3
  go_wp2_with fail
  refine (match_v (i := 0) (n := 4) (l := 8) (d := ByteArray.mk #[49, 50, 51, 52, 53, 54, 55, 56]) (q := false) false err_car HZ.out HZL.out rfl HF.out _ HT3.out (by decide) (by decide)).mono ?_
  rintro e w4 ⟨rfl, hb4⟩
  obtain ⟨hc4, hf4⟩ := fbcell hb4
  have z4_0 : w.heap.size < w4.heap.size := Nat.lt_of_lt_of_le z3_0 hb4.size
  have z4_1 : w.heap.size + 1 < w4.heap.size := Nat.lt_of_lt_of_le z3_1 hb4.size
  have z4_2 : w.heap.size + 1 + 1 < w4.heap.size := Nat.lt_of_lt_of_le z3_2 hb4.size
  have HB4 : Hid (Below w.heap.size w w4) := Lib.hid (fbelow_t HB3.out hb4)
  have HT4 := Lib.hid (HT3.out.below hb4)
  clear hb4
  go_wp2_with fail
  refine (malive_any _).mono ?_
  rintro e w5 ⟨rfl, hb5⟩
  obtain ⟨hc5, hf5⟩ := fbcell hb5
  have z5_0 : w.heap.size < w5.heap.size := Nat.lt_of_lt_of_le z4_0 hb5.size
  have z5_1 : w.heap.size + 1 < w5.heap.size := Nat.lt_of_lt_of_le z4_1 hb5.size
  have z5_2 : w.heap.size + 1 + 1 < w5.heap.size := Nat.lt_of_lt_of_le z4_2 hb5.size
  have HB5 : Hid (Below w.heap.size w w5) := Lib.hid (fbelow_t HB4.out hb5)
  have HT5 := Lib.hid (HT4.out.below hb5)
  clear hb5
  go_wp2
  go_ret
  exact ⟨rfl, HB5.out⟩

set_option maxRecDepth 100000 in
set_option maxHeartbeats 4000000 in
theorem matchExact_d {f : Flt} {xi xn xl : Int} {xd : ByteArray} {yi yn yl : Int} {yd : ByteArray} (HX : Hid (okF xi xn xl xd.size = true)) (HY : Hid (okF yi yn yl yd.size = true)) (HEX : Hid (fX xn = false)) (HEY : Hid (fX yn = true)) (HF : Hid f.fits) (w : World) (HT : Hid (Tabs w)) :
    Calls Tryd.prog 5 #[.agg #[.int .u32 f.i, .int .u32 f.m, .bool f.v], .agg #[.int .i64 xi, .int .i64 xn, .int .i64 xl, .string xd], .agg #[.int .i64 yi, .int .i64 yn, .int .i64 yl, .string yd]] w fun e w' => e = .returned (.bool true) ∧ Below w.heap.size w w' := by
  obtain ⟨z, hz, hzl⟩ := word_nat 0 4 8 (ByteArray.mk #[49, 50, 51, 52, 53, 54, 55, 56]).size
  have HZ := Lib.hid hz
  have HZL := Lib.hid hzl
  clear hz hzl
  have gx := good HX.out
  have gy := good HY.out
  have HGX := Lib.hid (And.intro gx.n0 gx.n1)
  have HGY := Lib.hid (And.intro gy.n0 gy.n1)
  clear gx gy
  go_enter Tryd.func5, Tryd.ntmps5
  go_wp2_with fail
  refine (rright_v HX.out _).mono ?_
  rintro e w1 ⟨rfl, hb1⟩
  obtain ⟨hc1, hf1⟩ := fbcell hb1
  have z1_0 : w.heap.size < w1.heap.size := by have := hb1.size; simp only [World.size_alloc] at this; omega
  have z1_1 : w.heap.size + 1 < w1.heap.size := by have := hb1.size; simp only [World.size_alloc] at this; omega
  have z1_2 : w.heap.size + 1 + 1 < w1.heap.size := by have := hb1.size; simp only [World.size_alloc] at this; omega
  have HB1 : Hid (Below w.heap.size w w1) := Lib.hid (fbelow_a _ (fbelow_a _ (fbelow_a _ hb1)))
  have HT1 := Lib.hid ((((HT.out.alloc _).alloc _).alloc _).below hb1)
  clear hb1
  go_wp2_with fail
  refine (rright_v HY.out _).mono ?_
  rintro e w2 ⟨rfl, hb2⟩
  obtain ⟨hc2, hf2⟩ := fbcell hb2
  have z2_0 : w.heap.size < w2.heap.size := Nat.lt_of_lt_of_le z1_0 hb2.size
  have z2_1 : w.heap.size + 1 < w2.heap.size := Nat.lt_of_lt_of_le z1_1 hb2.size
  have z2_2 : w.heap.size + 1 + 1 < w2.heap.size := Nat.lt_of_lt_of_le z1_2 hb2.size
  have HB2 : Hid (Below w.heap.size w w2) := Lib.hid (fbelow_t HB1.out hb2)
  have HT2 := Lib.hid (HT1.out.below hb2)
  clear hb2
  go_wp2_with fail
  refine (has4 HEX.out HGX.out.1 HGX.out.2 _ _ _ _).mono ?_
  rintro e w3 ⟨rfl, hb3⟩
  obtain ⟨hc3, hf3⟩ := fbcell hb3
  have z3_0 : w.heap.size < w3.heap.size := Nat.lt_of_lt_of_le z2_0 hb3.size
  have z3_1 : w.heap.size + 1 < w3.heap.size := Nat.lt_of_lt_of_le z2_1 hb3.size
  have z3_2 : w.heap.size + 1 + 1 < w3.heap.size := Nat.lt_of_lt_of_le z2_2 hb3.size
  have HB3 : Hid (Below w.heap.size w w3) := Lib.hid (fbelow_t HB2.out hb3)
  have HT3 := Lib.hid (HT2.out.below hb3)
  clear hb3
  go_wp2_with fail
  refine (has4 HEY.out HGY.out.1 HGY.out.2 _ _ _ _).mono ?_
  rintro e w4 ⟨rfl, hb4⟩
  obtain ⟨hc4, hf4⟩ := fbcell hb4
  have z4_0 : w.heap.size < w4.heap.size := Nat.lt_of_lt_of_le z3_0 hb4.size
  have z4_1 : w.heap.size + 1 < w4.heap.size := Nat.lt_of_lt_of_le z3_1 hb4.size
  have z4_2 : w.heap.size + 1 + 1 < w4.heap.size := Nat.lt_of_lt_of_le z3_2 hb4.size
  have HB4 : Hid (Below w.heap.size w w4) := Lib.hid (fbelow_t HB3.out hb4)
  have HT4 := Lib.hid (HT3.out.below hb4)
  clear hb4
  go_wp2_with fail
  refine (match_v (i := 0) (n := 4) (l := 8) (d := ByteArray.mk #[49, 50, 51, 52, 53, 54, 55, 56]) (q := false) false err_car HZ.out HZL.out rfl HF.out _ HT4.out (by decide) (by decide)).mono ?_
  rintro e w5 ⟨rfl, hb5⟩
  obtain ⟨hc5, hf5⟩ := fbcell hb5
  have z5_0 : w.heap.size < w5.heap.size := Nat.lt_of_lt_of_le z4_0 hb5.size
  have z5_1 : w.heap.size + 1 < w5.heap.size := Nat.lt_of_lt_of_le z4_1 hb5.size
  have z5_2 : w.heap.size + 1 + 1 < w5.heap.size := Nat.lt_of_lt_of_le z4_2 hb5.size
  have HB5 : Hid (Below w.heap.size w w5) := Lib.hid (fbelow_t HB4.out hb5)
  have HT5 := Lib.hid (HT4.out.below hb5)
  clear hb5
  go_wp2_with fail
  refine (malive_any _).mono ?_
  rintro e w6 ⟨rfl, hb6⟩
  obtain ⟨hc6, hf6⟩ := fbcell hb6
  have z6_0 : w.heap.size < w6.heap.size := Nat.lt_of_lt_of_le z5_0 hb6.size
  have z6_1 : w.heap.size + 1 < w6.heap.size := Nat.lt_of_lt_of_le z5_1 hb6.size
  have z6_2 : w.heap.size + 1 + 1 < w6.heap.size := Nat.lt_of_lt_of_le z5_2 hb6.size
  have HB6 : Hid (Below w.heap.size w w6) := Lib.hid (fbelow_t HB5.out hb6)
  have HT6 := Lib.hid (HT5.out.below hb6)
  clear hb6
  go_wp2
  go_ret
  exact ⟨rfl, HB6.out⟩

set_option maxRecDepth 100000 in
set_option maxHeartbeats 4000000 in
theorem matchExact_e {f : Flt} {xi xn xl : Int} {xd : ByteArray} {yi yn yl : Int} {yd : ByteArray} (u v : Nat) (p q : Bool) (HX : Hid (okF xi xn xl xd.size = true)) (HY : Hid (okF yi yn yl yd.size = true)) (HEX : Hid (fX xn = false)) (HEY : Hid (fX yn = false)) (HU : Hid (wordV xi xn xl xd.size = (u : Int))) (HUL : Hid (u < 4294967296)) (HV : Hid (wordV yi yn yl yd.size = (v : Int))) (HVL : Hid (v < 4294967296)) (HP : Hid (((u : Int) == (v : Int)) = p)) (HQ : Hid (hitN f u = q)) (HF : Hid f.fits) (w : World) (HT : Hid (Tabs w)) :
    Calls Tryd.prog 5 #[.agg #[.int .u32 f.i, .int .u32 f.m, .bool f.v], .agg #[.int .i64 xi, .int .i64 xn, .int .i64 xl, .string xd], .agg #[.int .i64 yi, .int .i64 yn, .int .i64 yl, .string yd]] w fun e w' => e = .returned (.bool true) ∧ Below w.heap.size w w' := by
  have gx := good HX.out
  have gy := good HY.out
  have HGX := Lib.hid (And.intro gx.n0 gx.n1)
  have HGY := Lib.hid (And.intro gy.n0 gy.n1)
  clear gx gy
  have HCX : Hid (carB xi xn xl xd.size = true) := Lib.hid (by unfold carB; rw [HX.out, HEX.out]; rfl)
  have HCY : Hid (carB yi yn yl yd.size = true) := Lib.hid (by unfold carB; rw [HY.out, HEY.out]; rfl)
  have HEF : Hid (exF xi xn xl xd.size u = ⟨u, 4294967295, false⟩) := Lib.hid (by unfold exF; rw [HX.out]; rfl)
  have HFF : Hid (Flt.fits ⟨u, 4294967295, false⟩) := Lib.hid ⟨HUL.out, by show (4294967295 : Nat) < 4294967296; decide⟩
  have HM : Hid ((true && hitN ⟨u, 4294967295, false⟩ v) = p) := Lib.hid (by rw [← HP.out]; exact ex_hit HUL.out HVL.out)
  have hp := HP.out
  have HNX := Lib.hid (show -9223372036854775808 ≤ xn ∧ xn ≤ 9223372036854775807 by have := HGX.out; omega)
  have HNY := Lib.hid (show -9223372036854775808 ≤ yn ∧ yn ≤ 9223372036854775807 by have := HGY.out; omega)
  have HQT : Hid ((true && hitN (turnF f) u) = !q) := Lib.hid (by rw [hit_turn, HQ.out]; rfl)
  have HQF : Hid ((true && hitN f u) = q) := Lib.hid HQ.out
  have hl := later_cells
  obtain ⟨fi, fm, fv⟩ := f
  have HFT : Hid (Flt.fits ⟨fi, fm, !fv⟩) := Lib.hid HF.out
  have HQU : Hid ((true && hitN ⟨fi, fm, !fv⟩ u) = !q) := HQT
  clear HQT
  cases p <;> cases q <;>
  · go_enter Tryd.func5, Tryd.ntmps5
    go_wp2_with fail
    refine (rright_v HX.out _).mono ?_
    rintro e w1 ⟨rfl, hb1⟩
    obtain ⟨hc1, hf1⟩ := fbcell hb1
    have z1_0 : w.heap.size < w1.heap.size := by have := hb1.size; simp only [World.size_alloc] at this; omega
    have z1_1 : w.heap.size + 1 < w1.heap.size := by have := hb1.size; simp only [World.size_alloc] at this; omega
    have z1_2 : w.heap.size + 1 + 1 < w1.heap.size := by have := hb1.size; simp only [World.size_alloc] at this; omega
    have HB1 : Hid (Below w.heap.size w w1) := Lib.hid (fbelow_a _ (fbelow_a _ (fbelow_a _ hb1)))
    have HT1 := Lib.hid ((((HT.out.alloc _).alloc _).alloc _).below hb1)
    clear hb1
    go_wp2_with fail
    refine (rright_v HY.out _).mono ?_
    rintro e w2 ⟨rfl, hb2⟩
    obtain ⟨hc2, hf2⟩ := fbcell hb2
    have z2_0 : w.heap.size < w2.heap.size := Nat.lt_of_lt_of_le z1_0 hb2.size
    have z2_1 : w.heap.size + 1 < w2.heap.size := Nat.lt_of_lt_of_le z1_1 hb2.size
    have z2_2 : w.heap.size + 1 + 1 < w2.heap.size := Nat.lt_of_lt_of_le z1_2 hb2.size
    have HB2 : Hid (Below w.heap.size w w2) := Lib.hid (fbelow_t HB1.out hb2)
    have HT2 := Lib.hid (HT1.out.below hb2)
    clear hb2
    go_wp2_with fail
    refine (has4 HEX.out HGX.out.1 HGX.out.2 _ _ _ _).mono ?_
    rintro e w3 ⟨rfl, hb3⟩
    obtain ⟨hc3, hf3⟩ := fbcell hb3
    have z3_0 : w.heap.size < w3.heap.size := Nat.lt_of_lt_of_le z2_0 hb3.size
    have z3_1 : w.heap.size + 1 < w3.heap.size := Nat.lt_of_lt_of_le z2_1 hb3.size
    have z3_2 : w.heap.size + 1 + 1 < w3.heap.size := Nat.lt_of_lt_of_le z2_2 hb3.size
    have HB3 : Hid (Below w.heap.size w w3) := Lib.hid (fbelow_t HB2.out hb3)
    have HT3 := Lib.hid (HT2.out.below hb3)
    clear hb3
    go_wp2_with fail
    refine (has4 HEY.out HGY.out.1 HGY.out.2 _ _ _ _).mono ?_
    rintro e w4 ⟨rfl, hb4⟩
    obtain ⟨hc4, hf4⟩ := fbcell hb4
    have z4_0 : w.heap.size < w4.heap.size := Nat.lt_of_lt_of_le z3_0 hb4.size
    have z4_1 : w.heap.size + 1 < w4.heap.size := Nat.lt_of_lt_of_le z3_1 hb4.size
    have z4_2 : w.heap.size + 1 + 1 < w4.heap.size := Nat.lt_of_lt_of_le z3_2 hb4.size
    have HB4 : Hid (Below w.heap.size w w4) := Lib.hid (fbelow_t HB3.out hb4)
    have HT4 := Lib.hid (HT3.out.below hb4)
    clear hb4
    go_wp2_with fail
    refine wp_region_later (by kernel_rfl) (by kernel_rfl) ?_
    repeat (go_big_quiet_step (fail))
    go_big_quiet_step (exact Later.call (exact_v HEF.out HU.out _ (laterTabs _ (HT4.out.alloc _)) HNX.out.1 HNX.out.2))
    repeat (go_big_quiet_step (fail))
    go_big_quiet_step (exact Later.call (match_v (f := ⟨u, 4294967295, false⟩) true HCY.out HV.out HVL.out HM.out HFF.out _ (laterTabs _ (HT4.out.alloc _)) HNY.out.1 HNY.out.2))
    repeat (go_big_quiet_step (fail))
    go_big_quiet_step (exact Later.call (rword_v HU.out _))
    repeat (go_big_quiet_step (fail))
    go_big_quiet_step (exact Later.call (rword_v HV.out _))
    repeat (go_big_quiet_step (fail))
    go_big_quiet_step (exact Later.call (match_v (f := ⟨fi, fm, fv⟩) true HCX.out HU.out HUL.out HQF.out HF.out _ (laterTabs _ (HT4.out.alloc _)) HNX.out.1 HNX.out.2))
    repeat (go_big_quiet_step (fail))
    go_big_quiet_step (exact Later.call (match_v (f := ⟨fi, fm, !fv⟩) true HCX.out HU.out HUL.out HQU.out HFT.out _ (laterTabs _ (HT4.out.alloc _)) HNX.out.1 HNX.out.2))
    repeat (go_big_quiet_step (fail))
    go_big_quiet_step (exact Later.call (malive_any _))
    repeat (go_big_quiet_step (fail))
    refine wpQuiet_nil ?_
    rintro w9 ⟨m, rfl⟩
    go_wp2
    go_ret
    exact ⟨rfl, fbelow_t HB4.out (fbelow_a _ m.h)⟩
theorem matchExact_walk (a0_0 a0_1 : Int) (a0_2 : Bool) (a1_0 a1_1 a1_2 : Int) (a1_3 : ByteArray) (a2_0 a2_1 a2_2 : Int) (a2_3 : ByteArray) (w0_0 : (Lit.int .u32 a0_0).wf = true) (w0_1 : (Lit.int .u32 a0_1).wf = true)
    (_w1_0 : (Lit.int .i64 a1_0).wf = true) (_w1_1 : (Lit.int .i64 a1_1).wf = true) (_w1_2 : (Lit.int .i64 a1_2).wf = true) (_w1_3 : a1_3.size ≤ maxLen) (_w2_0 : (Lit.int .i64 a2_0).wf = true) (_w2_1 : (Lit.int .i64 a2_1).wf = true) (_w2_2 : (Lit.int .i64 a2_2).wf = true) (_w2_3 : a2_3.size ≤ maxLen) (w : World) (hT : Tabs w) :
    Calls Tryd.prog 5 #[.agg #[.int .u32 a0_0, .int .u32 a0_1, .bool a0_2], .agg #[.int .i64 a1_0, .int .i64 a1_1, .int .i64 a1_2, .string a1_3], .agg #[.int .i64 a2_0, .int .i64 a2_1, .int .i64 a2_2, .string a2_3]] w fun e w' => e = .returned (.bool true) ∧ Below w.heap.size w w' := by
  have b0 := Go.bounds_u32 w0_0
  obtain ⟨x, rfl⟩ := Int.eq_ofNat_of_zero_le b0.1
  have b1 := Go.bounds_u32 w0_1
  obtain ⟨y, rfl⟩ := Int.eq_ofNat_of_zero_le b1.1
  have HF : Hid (Flt.fits ⟨x, y, a0_2⟩) := Lib.hid ⟨by simp only; omega, by simp only; omega⟩
  cases hx : okF a1_0 a1_1 a1_2 a1_3.size
  · exact matchExact_a (f := ⟨x, y, a0_2⟩) (Lib.hid hx) HF w (Lib.hid hT)
  · cases hy : okF a2_0 a2_1 a2_2 a2_3.size
    · exact matchExact_b (f := ⟨x, y, a0_2⟩) (Lib.hid hx) (Lib.hid hy) HF w (Lib.hid hT)
    · cases ex : fX a1_1
      · cases ey : fX a2_1
        · obtain ⟨u, hu, hul⟩ := word_nat a1_0 a1_1 a1_2 a1_3.size
          obtain ⟨v, hv, hvl⟩ := word_nat a2_0 a2_1 a2_2 a2_3.size
          exact matchExact_e (f := ⟨x, y, a0_2⟩) u v _ _ (Lib.hid hx) (Lib.hid hy) (Lib.hid ex) (Lib.hid ey) (Lib.hid hu) (Lib.hid hul) (Lib.hid hv) (Lib.hid hvl) (Lib.hid rfl) (Lib.hid rfl) HF w (Lib.hid hT)
        · exact matchExact_d (f := ⟨x, y, a0_2⟩) (Lib.hid hx) (Lib.hid hy) (Lib.hid ex) (Lib.hid ey) HF w (Lib.hid hT)
      · exact matchExact_c (f := ⟨x, y, a0_2⟩) (Lib.hid hx) (Lib.hid hy) (Lib.hid ex) HF w (Lib.hid hT)

end Go.Proofs.YtohoedhaomkafaaDoor
