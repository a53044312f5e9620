/- Frame: the walk of FrameOrder. -/
import Derived.Test.YtellhnhkdbbngaaDoorFrmT
namespace Go.Proofs.YtellhnhkdbbngaaDoor
open Go.RowKit
set_option linter.unusedVariables false

theorem and11_small : ∀ k : Fin 64, bits .and .i64 ((k.val : Nat) : Int) 11 = b01 (fE ((k.val : Nat) : Int)) + 2 * b01 (fR ((k.val : Nat) : Int)) + 8 * b01 (fD ((k.val : Nat) : Int)) := by decide +kernel
theorem and11 {n : Int} (h0 : 0 ≤ n) (h1 : n ≤ 63) : bits .and .i64 n 11 = b01 (fE n) + 2 * b01 (fR n) + 8 * b01 (fD n) := by
  obtain ⟨k, rfl⟩ := flag_cases h0 h1
  exact and11_small k
theorem keyV_pos {i n l : Int} {sz : Nat} (h : 0 ≤ keyV i n l sz) : okF i n l sz = true ∧ fX n = false ∧ keyV i n l sz = keyN i n := by
  unfold keyV at h ⊢
  cases hq : (okF i n l sz && !fX n)
  · rw [hq] at h; simp at h
  · simp only [Bool.and_eq_true, Bool.not_eq_true'] at hq
    exact ⟨hq.1, hq.2, rfl⟩
theorem keyN_inj {i n i' n' : Int} (i0 : 0 ≤ i) (i0' : 0 ≤ i') (h1 : fE n = false → i ≤ 2047) (h1' : fE n' = false → i' ≤ 2047) (h2 : i ≤ 536870911) (h2' : i' ≤ 536870911) :
    keyN i n = keyN i' n' ↔ i = i' ∧ b01 (fE n) + 2 * b01 (fR n) + 8 * b01 (fD n) = b01 (fE n') + 2 * b01 (fR n') + 8 * b01 (fD n') := by
  unfold keyN
  have r := b01_bd (fR n); have r' := b01_bd (fR n'); have dd := b01_bd (fD n); have dd' := b01_bd (fD n')
  generalize b01 (fR n) = R at *
  generalize b01 (fR n') = R' at *
  generalize b01 (fD n) = D at *
  generalize b01 (fD n') = D' at *
  cases he : fE n <;> cases he' : fE n'
  · have := h1 he; have := h1' he'
    simp only [Bool.false_eq_true, if_false, b01]
    omega
  · have := h1 he
    simp only [Bool.false_eq_true, if_false, if_true, b01]
    omega
  · have := h1' he'
    simp only [Bool.false_eq_true, if_false, if_true, b01]
    omega
  · simp only [if_true, b01]
    omega
theorem key_tied {i n l i' n' l' : Int} {sz sz' : Nat} (h : 0 ≤ keyV i n l sz) (h' : 0 ≤ keyV i' n' l' sz') : keyV i n l sz = keyV i' n' l' sz' ↔ i = i' ∧ bits .and .i64 n 11 = bits .and .i64 n' 11 := by
  obtain ⟨ho, hx, e⟩ := keyV_pos h
  obtain ⟨ho', hx', e'⟩ := keyV_pos h'
  have g := good ho
  have g' := good ho'
  rw [e, e', and11 g.n0 g.n1, and11 g'.n0 g'.n1]
  refine keyN_inj g.i0 g'.i0 (fun he => ?_) (fun he => ?_) g.top g'.top
  · have := g.i1; rw [topN_v he hx] at this; simpa using this
  · have := g'.i1; rw [topN_v he hx'] at this; simpa using this

set_option maxHeartbeats 4000000 in
theorem order_pr1 (i n l : Int) (d : ByteArray) (i' n' l' : Int) (d' : ByteArray) (i2 n2 l2 : Int) (d2 : ByteArray) (a b c : Int) (HN : Hid (-9223372036854775808 ≤ n ∧ n ≤ 9223372036854775807)) (HM : Hid (-9223372036854775808 ≤ n' ∧ n' ≤ 9223372036854775807)) (HP : Hid (-9223372036854775808 ≤ n2 ∧ n2 ≤ 9223372036854775807))
    (HA : Hid (keyV i n l d.size = a)) (HB : Hid (keyV i' n' l' d'.size = b)) (HC : Hid (keyV i2 n2 l2 d2.size = c)) (w : World) (T0 : Hid (Tabs (((w.alloc (.cells #[.int .i64 i, .int .i64 n, .int .i64 l, .string d] 23)).alloc (.cells #[.int .i64 i', .int .i64 n', .int .i64 l', .string d'] 23)).alloc (.cells #[.int .i64 i2, .int .i64 n2, .int .i64 l2, .string d2] 23)))) (a0 : 0 ≤ a) (b0 : 0 ≤ b) (ab : a < b) (bc : b < c) (t1 : (i == i') = false) :
    Calls Tryd.prog 8 #[.agg #[.int .i64 i, .int .i64 n, .int .i64 l, .string d], .agg #[.int .i64 i', .int .i64 n', .int .i64 l', .string d'], .agg #[.int .i64 i2, .int .i64 n2, .int .i64 l2, .string d2]] w fun e w' => e = .returned (.bool true) ∧ Below w.heap.size w w' := by
  have Qff : Hid (lessB a a = false) := Lib.hid (by unfold lessB; simp)
  have Qfg : Hid (lessB a b = true) := Lib.hid (by unfold lessB; simp; omega)
  have Qgf : Hid (lessB b a = false) := Lib.hid (by unfold lessB; simp; omega)
  have Qgh : Hid (lessB b c = true) := Lib.hid (by unfold lessB; simp; omega)
  have Qfh : Hid (lessB a c = true) := Lib.hid (by unfold lessB; simp; omega)
  have a0f : decide (a < 0) = false := by simp; omega
  have b0f : decide (b < 0) = false := by simp; omega
  go_enter Tryd.func8, Tryd.ntmps8
  go_wp2_with fail
  refine (less_v HA.out HA.out Qff.out _ T0.out HN.out.1 HN.out.2 HN.out.1 HN.out.2).mono ?_
  rintro e w1 ⟨rfl, hb1⟩
  have T1 := Lib.hid (T0.out.below hb1)
  obtain ⟨hc1, hf1⟩ := fbcell hb1
  have z1 : w.heap.size < w1.heap.size := by have := hb1.size; simp only [World.size_alloc] at this; omega
  have za1 : w.heap.size + 1 < w1.heap.size := by have := hb1.size; simp only [World.size_alloc] at this; omega
  have zb1 : w.heap.size + 1 + 1 < w1.heap.size := by have := hb1.size; simp only [World.size_alloc] at this; omega
  go_wp2_with fail
  refine (less_v HA.out HB.out Qfg.out _ T1.out HN.out.1 HN.out.2 HM.out.1 HM.out.2).mono ?_
  rintro e w2 ⟨rfl, hb2⟩
  have T2 := Lib.hid (T1.out.below hb2)
  obtain ⟨hc2, hf2⟩ := fbcell hb2
  have z2 : w.heap.size < w2.heap.size := Nat.lt_of_lt_of_le z1 hb2.size
  have za2 : w.heap.size + 1 < w2.heap.size := Nat.lt_of_lt_of_le za1 hb2.size
  have zb2 : w.heap.size + 1 + 1 < w2.heap.size := Nat.lt_of_lt_of_le zb1 hb2.size
  go_wp2_with fail
  refine (less_v HB.out HA.out Qgf.out _ T2.out HM.out.1 HM.out.2 HN.out.1 HN.out.2).mono ?_
  rintro e w3 ⟨rfl, hb3⟩
  have T3 := Lib.hid (T2.out.below hb3)
  obtain ⟨hc3, hf3⟩ := fbcell hb3
  have z3 : w.heap.size < w3.heap.size := Nat.lt_of_lt_of_le z2 hb3.size
  have za3 : w.heap.size + 1 < w3.heap.size := Nat.lt_of_lt_of_le za2 hb3.size
  have zb3 : w.heap.size + 1 + 1 < w3.heap.size := Nat.lt_of_lt_of_le zb2 hb3.size
  go_wp2_with fail
  refine (less_v HA.out HB.out Qfg.out _ T3.out HN.out.1 HN.out.2 HM.out.1 HM.out.2).mono ?_
  rintro e w4 ⟨rfl, hb4⟩
  have T4 := Lib.hid (T3.out.below hb4)
  obtain ⟨hc4, hf4⟩ := fbcell hb4
  have z4 : w.heap.size < w4.heap.size := Nat.lt_of_lt_of_le z3 hb4.size
  have za4 : w.heap.size + 1 < w4.heap.size := Nat.lt_of_lt_of_le za3 hb4.size
  have zb4 : w.heap.size + 1 + 1 < w4.heap.size := Nat.lt_of_lt_of_le zb3 hb4.size
  go_wp2_with fail
  refine (less_v HB.out HC.out Qgh.out _ T4.out HM.out.1 HM.out.2 HP.out.1 HP.out.2).mono ?_
  rintro e w5 ⟨rfl, hb5⟩
  have T5 := Lib.hid (T4.out.below hb5)
  obtain ⟨hc5, hf5⟩ := fbcell hb5
  have z5 : w.heap.size < w5.heap.size := Nat.lt_of_lt_of_le z4 hb5.size
  have za5 : w.heap.size + 1 < w5.heap.size := Nat.lt_of_lt_of_le za4 hb5.size
  have zb5 : w.heap.size + 1 + 1 < w5.heap.size := Nat.lt_of_lt_of_le zb4 hb5.size
  go_wp2_with fail
  refine (less_v HA.out HC.out Qfh.out _ T5.out HN.out.1 HN.out.2 HP.out.1 HP.out.2).mono ?_
  rintro e w6 ⟨rfl, hb6⟩
  have T6 := Lib.hid (T5.out.below hb6)
  obtain ⟨hc6, hf6⟩ := fbcell hb6
  have z6 : w.heap.size < w6.heap.size := Nat.lt_of_lt_of_le z5 hb6.size
  have za6 : w.heap.size + 1 < w6.heap.size := Nat.lt_of_lt_of_le za5 hb6.size
  have zb6 : w.heap.size + 1 + 1 < w6.heap.size := Nat.lt_of_lt_of_le zb5 hb6.size
  go_wp2_with fail
  refine (key_v HA.out _ T6.out HN.out.1 HN.out.2).mono ?_
  rintro e w7 ⟨rfl, hb7⟩
  have T7 := Lib.hid (T6.out.below hb7)
  obtain ⟨hc7, hf7⟩ := fbcell hb7
  have z7 : w.heap.size < w7.heap.size := Nat.lt_of_lt_of_le z6 hb7.size
  have za7 : w.heap.size + 1 < w7.heap.size := Nat.lt_of_lt_of_le za6 hb7.size
  have zb7 : w.heap.size + 1 + 1 < w7.heap.size := Nat.lt_of_lt_of_le zb6 hb7.size
  go_wp2_with fail
  refine (key_v HB.out _ T7.out HM.out.1 HM.out.2).mono ?_
  rintro e w8 ⟨rfl, hb8⟩
  have T8 := Lib.hid (T7.out.below hb8)
  obtain ⟨hc8, hf8⟩ := fbcell hb8
  have z8 : w.heap.size < w8.heap.size := Nat.lt_of_lt_of_le z7 hb8.size
  have za8 : w.heap.size + 1 < w8.heap.size := Nat.lt_of_lt_of_le za7 hb8.size
  have zb8 : w.heap.size + 1 + 1 < w8.heap.size := Nat.lt_of_lt_of_le zb7 hb8.size
  go_wp2_with fail
  refine (less_v HA.out HB.out Qfg.out _ T8.out HN.out.1 HN.out.2 HM.out.1 HM.out.2).mono ?_
  rintro e w9 ⟨rfl, hb9⟩
  have T9 := Lib.hid (T8.out.below hb9)
  obtain ⟨hc9, hf9⟩ := fbcell hb9
  have z9 : w.heap.size < w9.heap.size := Nat.lt_of_lt_of_le z8 hb9.size
  have za9 : w.heap.size + 1 < w9.heap.size := Nat.lt_of_lt_of_le za8 hb9.size
  have zb9 : w.heap.size + 1 + 1 < w9.heap.size := Nat.lt_of_lt_of_le zb8 hb9.size
  go_wp2_with fail
  refine (falive_any _ T9.out).mono ?_
  rintro e w10 ⟨rfl, hb10⟩
  have T10 := Lib.hid (T9.out.below hb10)
  obtain ⟨hc10, hf10⟩ := fbcell hb10
  have z10 : w.heap.size < w10.heap.size := Nat.lt_of_lt_of_le z9 hb10.size
  have za10 : w.heap.size + 1 < w10.heap.size := Nat.lt_of_lt_of_le za9 hb10.size
  have zb10 : w.heap.size + 1 + 1 < w10.heap.size := Nat.lt_of_lt_of_le zb9 hb10.size
  go_wp2
  go_ret
  exact ⟨rfl, fbelow_t (fbelow_t (fbelow_t (fbelow_t (fbelow_t (fbelow_t (fbelow_t (fbelow_t (fbelow_t (fbelow_a _ (fbelow_a _ (fbelow_a _ hb1))) hb2) hb3) hb4) hb5) hb6) hb7) hb8) hb9) hb10⟩

set_option maxHeartbeats 4000000 in
theorem order_pn1 (i n l : Int) (d : ByteArray) (i' n' l' : Int) (d' : ByteArray) (i2 n2 l2 : Int) (d2 : ByteArray) (a b c : Int) (HN : Hid (-9223372036854775808 ≤ n ∧ n ≤ 9223372036854775807)) (HM : Hid (-9223372036854775808 ≤ n' ∧ n' ≤ 9223372036854775807)) (HP : Hid (-9223372036854775808 ≤ n2 ∧ n2 ≤ 9223372036854775807))
    (HA : Hid (keyV i n l d.size = a)) (HB : Hid (keyV i' n' l' d'.size = b)) (HC : Hid (keyV i2 n2 l2 d2.size = c)) (w : World) (T0 : Hid (Tabs (((w.alloc (.cells #[.int .i64 i, .int .i64 n, .int .i64 l, .string d] 23)).alloc (.cells #[.int .i64 i', .int .i64 n', .int .i64 l', .string d'] 23)).alloc (.cells #[.int .i64 i2, .int .i64 n2, .int .i64 l2, .string d2] 23)))) (a0 : 0 ≤ a) (b0 : 0 ≤ b) (ab : a < b) (bc : ¬ b < c) (t1 : (i == i') = false) :
    Calls Tryd.prog 8 #[.agg #[.int .i64 i, .int .i64 n, .int .i64 l, .string d], .agg #[.int .i64 i', .int .i64 n', .int .i64 l', .string d'], .agg #[.int .i64 i2, .int .i64 n2, .int .i64 l2, .string d2]] w fun e w' => e = .returned (.bool true) ∧ Below w.heap.size w w' := by
  have Qff : Hid (lessB a a = false) := Lib.hid (by unfold lessB; simp)
  have Qfg : Hid (lessB a b = true) := Lib.hid (by unfold lessB; simp; omega)
  have Qgf : Hid (lessB b a = false) := Lib.hid (by unfold lessB; simp; omega)
  have Qgh : Hid (lessB b c = false) := Lib.hid (by unfold lessB; simp; omega)
  have a0f : decide (a < 0) = false := by simp; omega
  have b0f : decide (b < 0) = false := by simp; omega
  go_enter Tryd.func8, Tryd.ntmps8
  go_wp2_with fail
  refine (less_v HA.out HA.out Qff.out _ T0.out HN.out.1 HN.out.2 HN.out.1 HN.out.2).mono ?_
  rintro e w1 ⟨rfl, hb1⟩
  have T1 := Lib.hid (T0.out.below hb1)
  obtain ⟨hc1, hf1⟩ := fbcell hb1
  have z1 : w.heap.size < w1.heap.size := by have := hb1.size; simp only [World.size_alloc] at this; omega
  have za1 : w.heap.size + 1 < w1.heap.size := by have := hb1.size; simp only [World.size_alloc] at this; omega
  have zb1 : w.heap.size + 1 + 1 < w1.heap.size := by have := hb1.size; simp only [World.size_alloc] at this; omega
  go_wp2_with fail
  refine (less_v HA.out HB.out Qfg.out _ T1.out HN.out.1 HN.out.2 HM.out.1 HM.out.2).mono ?_
  rintro e w2 ⟨rfl, hb2⟩
  have T2 := Lib.hid (T1.out.below hb2)
  obtain ⟨hc2, hf2⟩ := fbcell hb2
  have z2 : w.heap.size < w2.heap.size := Nat.lt_of_lt_of_le z1 hb2.size
  have za2 : w.heap.size + 1 < w2.heap.size := Nat.lt_of_lt_of_le za1 hb2.size
  have zb2 : w.heap.size + 1 + 1 < w2.heap.size := Nat.lt_of_lt_of_le zb1 hb2.size
  go_wp2_with fail
  refine (less_v HB.out HA.out Qgf.out _ T2.out HM.out.1 HM.out.2 HN.out.1 HN.out.2).mono ?_
  rintro e w3 ⟨rfl, hb3⟩
  have T3 := Lib.hid (T2.out.below hb3)
  obtain ⟨hc3, hf3⟩ := fbcell hb3
  have z3 : w.heap.size < w3.heap.size := Nat.lt_of_lt_of_le z2 hb3.size
  have za3 : w.heap.size + 1 < w3.heap.size := Nat.lt_of_lt_of_le za2 hb3.size
  have zb3 : w.heap.size + 1 + 1 < w3.heap.size := Nat.lt_of_lt_of_le zb2 hb3.size
  go_wp2_with fail
  refine (less_v HA.out HB.out Qfg.out _ T3.out HN.out.1 HN.out.2 HM.out.1 HM.out.2).mono ?_
  rintro e w4 ⟨rfl, hb4⟩
  have T4 := Lib.hid (T3.out.below hb4)
  obtain ⟨hc4, hf4⟩ := fbcell hb4
  have z4 : w.heap.size < w4.heap.size := Nat.lt_of_lt_of_le z3 hb4.size
  have za4 : w.heap.size + 1 < w4.heap.size := Nat.lt_of_lt_of_le za3 hb4.size
  have zb4 : w.heap.size + 1 + 1 < w4.heap.size := Nat.lt_of_lt_of_le zb3 hb4.size
  go_wp2_with fail
  refine (less_v HB.out HC.out Qgh.out _ T4.out HM.out.1 HM.out.2 HP.out.1 HP.out.2).mono ?_
  rintro e w5 ⟨rfl, hb5⟩
  have T5 := Lib.hid (T4.out.below hb5)
  obtain ⟨hc5, hf5⟩ := fbcell hb5
  have z5 : w.heap.size < w5.heap.size := Nat.lt_of_lt_of_le z4 hb5.size
  have za5 : w.heap.size + 1 < w5.heap.size := Nat.lt_of_lt_of_le za4 hb5.size
  have zb5 : w.heap.size + 1 + 1 < w5.heap.size := Nat.lt_of_lt_of_le zb4 hb5.size
  go_wp2_with fail
  refine (key_v HA.out _ T5.out HN.out.1 HN.out.2).mono ?_
  rintro e w6 ⟨rfl, hb6⟩
  have T6 := Lib.hid (T5.out.below hb6)
  obtain ⟨hc6, hf6⟩ := fbcell hb6
  have z6 : w.heap.size < w6.heap.size := Nat.lt_of_lt_of_le z5 hb6.size
  have za6 : w.heap.size + 1 < w6.heap.size := Nat.lt_of_lt_of_le za5 hb6.size
  have zb6 : w.heap.size + 1 + 1 < w6.heap.size := Nat.lt_of_lt_of_le zb5 hb6.size
  go_wp2_with fail
  refine (key_v HB.out _ T6.out HM.out.1 HM.out.2).mono ?_
  rintro e w7 ⟨rfl, hb7⟩
  have T7 := Lib.hid (T6.out.below hb7)
  obtain ⟨hc7, hf7⟩ := fbcell hb7
  have z7 : w.heap.size < w7.heap.size := Nat.lt_of_lt_of_le z6 hb7.size
  have za7 : w.heap.size + 1 < w7.heap.size := Nat.lt_of_lt_of_le za6 hb7.size
  have zb7 : w.heap.size + 1 + 1 < w7.heap.size := Nat.lt_of_lt_of_le zb6 hb7.size
  go_wp2_with fail
  refine (less_v HA.out HB.out Qfg.out _ T7.out HN.out.1 HN.out.2 HM.out.1 HM.out.2).mono ?_
  rintro e w8 ⟨rfl, hb8⟩
  have T8 := Lib.hid (T7.out.below hb8)
  obtain ⟨hc8, hf8⟩ := fbcell hb8
  have z8 : w.heap.size < w8.heap.size := Nat.lt_of_lt_of_le z7 hb8.size
  have za8 : w.heap.size + 1 < w8.heap.size := Nat.lt_of_lt_of_le za7 hb8.size
  have zb8 : w.heap.size + 1 + 1 < w8.heap.size := Nat.lt_of_lt_of_le zb7 hb8.size
  go_wp2_with fail
  refine (falive_any _ T8.out).mono ?_
  rintro e w9 ⟨rfl, hb9⟩
  have T9 := Lib.hid (T8.out.below hb9)
  obtain ⟨hc9, hf9⟩ := fbcell hb9
  have z9 : w.heap.size < w9.heap.size := Nat.lt_of_lt_of_le z8 hb9.size
  have za9 : w.heap.size + 1 < w9.heap.size := Nat.lt_of_lt_of_le za8 hb9.size
  have zb9 : w.heap.size + 1 + 1 < w9.heap.size := Nat.lt_of_lt_of_le zb8 hb9.size
  go_wp2
  go_ret
  exact ⟨rfl, fbelow_t (fbelow_t (fbelow_t (fbelow_t (fbelow_t (fbelow_t (fbelow_t (fbelow_t (fbelow_a _ (fbelow_a _ (fbelow_a _ hb1))) hb2) hb3) hb4) hb5) hb6) hb7) hb8) hb9⟩

set_option maxHeartbeats 4000000 in
theorem order_gt1 (i n l : Int) (d : ByteArray) (i' n' l' : Int) (d' : ByteArray) (i2 n2 l2 : Int) (d2 : ByteArray) (a b c : Int) (HN : Hid (-9223372036854775808 ≤ n ∧ n ≤ 9223372036854775807)) (HM : Hid (-9223372036854775808 ≤ n' ∧ n' ≤ 9223372036854775807)) (HP : Hid (-9223372036854775808 ≤ n2 ∧ n2 ≤ 9223372036854775807))
    (HA : Hid (keyV i n l d.size = a)) (HB : Hid (keyV i' n' l' d'.size = b)) (HC : Hid (keyV i2 n2 l2 d2.size = c)) (w : World) (T0 : Hid (Tabs (((w.alloc (.cells #[.int .i64 i, .int .i64 n, .int .i64 l, .string d] 23)).alloc (.cells #[.int .i64 i', .int .i64 n', .int .i64 l', .string d'] 23)).alloc (.cells #[.int .i64 i2, .int .i64 n2, .int .i64 l2, .string d2] 23)))) (a0 : 0 ≤ a) (b0 : 0 ≤ b) (ab : b < a) (t1 : (i == i') = false) :
    Calls Tryd.prog 8 #[.agg #[.int .i64 i, .int .i64 n, .int .i64 l, .string d], .agg #[.int .i64 i', .int .i64 n', .int .i64 l', .string d'], .agg #[.int .i64 i2, .int .i64 n2, .int .i64 l2, .string d2]] w fun e w' => e = .returned (.bool true) ∧ Below w.heap.size w w' := by
  have Qff : Hid (lessB a a = false) := Lib.hid (by unfold lessB; simp)
  have Qfg : Hid (lessB a b = false) := Lib.hid (by unfold lessB; simp; omega)
  have Qgf : Hid (lessB b a = true) := Lib.hid (by unfold lessB; simp; omega)
  have a0f : decide (a < 0) = false := by simp; omega
  have b0f : decide (b < 0) = false := by simp; omega
  go_enter Tryd.func8, Tryd.ntmps8
  go_wp2_with fail
  refine (less_v HA.out HA.out Qff.out _ T0.out HN.out.1 HN.out.2 HN.out.1 HN.out.2).mono ?_
  rintro e w1 ⟨rfl, hb1⟩
  have T1 := Lib.hid (T0.out.below hb1)
  obtain ⟨hc1, hf1⟩ := fbcell hb1
  have z1 : w.heap.size < w1.heap.size := by have := hb1.size; simp only [World.size_alloc] at this; omega
  have za1 : w.heap.size + 1 < w1.heap.size := by have := hb1.size; simp only [World.size_alloc] at this; omega
  have zb1 : w.heap.size + 1 + 1 < w1.heap.size := by have := hb1.size; simp only [World.size_alloc] at this; omega
  go_wp2_with fail
  refine (less_v HA.out HB.out Qfg.out _ T1.out HN.out.1 HN.out.2 HM.out.1 HM.out.2).mono ?_
  rintro e w2 ⟨rfl, hb2⟩
  have T2 := Lib.hid (T1.out.below hb2)
  obtain ⟨hc2, hf2⟩ := fbcell hb2
  have z2 : w.heap.size < w2.heap.size := Nat.lt_of_lt_of_le z1 hb2.size
  have za2 : w.heap.size + 1 < w2.heap.size := Nat.lt_of_lt_of_le za1 hb2.size
  have zb2 : w.heap.size + 1 + 1 < w2.heap.size := Nat.lt_of_lt_of_le zb1 hb2.size
  go_wp2_with fail
  refine (less_v HA.out HB.out Qfg.out _ T2.out HN.out.1 HN.out.2 HM.out.1 HM.out.2).mono ?_
  rintro e w3 ⟨rfl, hb3⟩
  have T3 := Lib.hid (T2.out.below hb3)
  obtain ⟨hc3, hf3⟩ := fbcell hb3
  have z3 : w.heap.size < w3.heap.size := Nat.lt_of_lt_of_le z2 hb3.size
  have za3 : w.heap.size + 1 < w3.heap.size := Nat.lt_of_lt_of_le za2 hb3.size
  have zb3 : w.heap.size + 1 + 1 < w3.heap.size := Nat.lt_of_lt_of_le zb2 hb3.size
  go_wp2_with fail
  refine (key_v HA.out _ T3.out HN.out.1 HN.out.2).mono ?_
  rintro e w4 ⟨rfl, hb4⟩
  have T4 := Lib.hid (T3.out.below hb4)
  obtain ⟨hc4, hf4⟩ := fbcell hb4
  have z4 : w.heap.size < w4.heap.size := Nat.lt_of_lt_of_le z3 hb4.size
  have za4 : w.heap.size + 1 < w4.heap.size := Nat.lt_of_lt_of_le za3 hb4.size
  have zb4 : w.heap.size + 1 + 1 < w4.heap.size := Nat.lt_of_lt_of_le zb3 hb4.size
  go_wp2_with fail
  refine (key_v HB.out _ T4.out HM.out.1 HM.out.2).mono ?_
  rintro e w5 ⟨rfl, hb5⟩
  have T5 := Lib.hid (T4.out.below hb5)
  obtain ⟨hc5, hf5⟩ := fbcell hb5
  have z5 : w.heap.size < w5.heap.size := Nat.lt_of_lt_of_le z4 hb5.size
  have za5 : w.heap.size + 1 < w5.heap.size := Nat.lt_of_lt_of_le za4 hb5.size
  have zb5 : w.heap.size + 1 + 1 < w5.heap.size := Nat.lt_of_lt_of_le zb4 hb5.size
  go_wp2_with fail
  refine (less_v HA.out HB.out Qfg.out _ T5.out HN.out.1 HN.out.2 HM.out.1 HM.out.2).mono ?_
  rintro e w6 ⟨rfl, hb6⟩
  have T6 := Lib.hid (T5.out.below hb6)
  obtain ⟨hc6, hf6⟩ := fbcell hb6
  have z6 : w.heap.size < w6.heap.size := Nat.lt_of_lt_of_le z5 hb6.size
  have za6 : w.heap.size + 1 < w6.heap.size := Nat.lt_of_lt_of_le za5 hb6.size
  have zb6 : w.heap.size + 1 + 1 < w6.heap.size := Nat.lt_of_lt_of_le zb5 hb6.size
  go_wp2_with fail
  refine (less_v HB.out HA.out Qgf.out _ T6.out HM.out.1 HM.out.2 HN.out.1 HN.out.2).mono ?_
  rintro e w7 ⟨rfl, hb7⟩
  have T7 := Lib.hid (T6.out.below hb7)
  obtain ⟨hc7, hf7⟩ := fbcell hb7
  have z7 : w.heap.size < w7.heap.size := Nat.lt_of_lt_of_le z6 hb7.size
  have za7 : w.heap.size + 1 < w7.heap.size := Nat.lt_of_lt_of_le za6 hb7.size
  have zb7 : w.heap.size + 1 + 1 < w7.heap.size := Nat.lt_of_lt_of_le zb6 hb7.size
  go_wp2_with fail
  refine (falive_any _ T7.out).mono ?_
  rintro e w8 ⟨rfl, hb8⟩
  have T8 := Lib.hid (T7.out.below hb8)
  obtain ⟨hc8, hf8⟩ := fbcell hb8
  have z8 : w.heap.size < w8.heap.size := Nat.lt_of_lt_of_le z7 hb8.size
  have za8 : w.heap.size + 1 < w8.heap.size := Nat.lt_of_lt_of_le za7 hb8.size
  have zb8 : w.heap.size + 1 + 1 < w8.heap.size := Nat.lt_of_lt_of_le zb7 hb8.size
  go_wp2
  go_ret
  exact ⟨rfl, fbelow_t (fbelow_t (fbelow_t (fbelow_t (fbelow_t (fbelow_t (fbelow_t (fbelow_a _ (fbelow_a _ (fbelow_a _ hb1))) hb2) hb3) hb4) hb5) hb6) hb7) hb8⟩

set_option maxHeartbeats 4000000 in
theorem order_pr2 (i n l : Int) (d : ByteArray) (i' n' l' : Int) (d' : ByteArray) (i2 n2 l2 : Int) (d2 : ByteArray) (a b c : Int) (HN : Hid (-9223372036854775808 ≤ n ∧ n ≤ 9223372036854775807)) (HM : Hid (-9223372036854775808 ≤ n' ∧ n' ≤ 9223372036854775807)) (HP : Hid (-9223372036854775808 ≤ n2 ∧ n2 ≤ 9223372036854775807))
    (HA : Hid (keyV i n l d.size = a)) (HB : Hid (keyV i' n' l' d'.size = b)) (HC : Hid (keyV i2 n2 l2 d2.size = c)) (w : World) (T0 : Hid (Tabs (((w.alloc (.cells #[.int .i64 i, .int .i64 n, .int .i64 l, .string d] 23)).alloc (.cells #[.int .i64 i', .int .i64 n', .int .i64 l', .string d'] 23)).alloc (.cells #[.int .i64 i2, .int .i64 n2, .int .i64 l2, .string d2] 23)))) (a0 : 0 ≤ a) (b0 : 0 ≤ b) (ab : a < b) (bc : b < c) (t1 : (i == i') = true) (t2 : (bits .and .i64 n 11 == bits .and .i64 n' 11) = false) :
    Calls Tryd.prog 8 #[.agg #[.int .i64 i, .int .i64 n, .int .i64 l, .string d], .agg #[.int .i64 i', .int .i64 n', .int .i64 l', .string d'], .agg #[.int .i64 i2, .int .i64 n2, .int .i64 l2, .string d2]] w fun e w' => e = .returned (.bool true) ∧ Below w.heap.size w w' := by
  have Qff : Hid (lessB a a = false) := Lib.hid (by unfold lessB; simp)
  have Qfg : Hid (lessB a b = true) := Lib.hid (by unfold lessB; simp; omega)
  have Qgf : Hid (lessB b a = false) := Lib.hid (by unfold lessB; simp; omega)
  have Qgh : Hid (lessB b c = true) := Lib.hid (by unfold lessB; simp; omega)
  have Qfh : Hid (lessB a c = true) := Lib.hid (by unfold lessB; simp; omega)
  have a0f : decide (a < 0) = false := by simp; omega
  have b0f : decide (b < 0) = false := by simp; omega
  go_enter Tryd.func8, Tryd.ntmps8
  go_wp2_with fail
  refine (less_v HA.out HA.out Qff.out _ T0.out HN.out.1 HN.out.2 HN.out.1 HN.out.2).mono ?_
  rintro e w1 ⟨rfl, hb1⟩
  have T1 := Lib.hid (T0.out.below hb1)
  obtain ⟨hc1, hf1⟩ := fbcell hb1
  have z1 : w.heap.size < w1.heap.size := by have := hb1.size; simp only [World.size_alloc] at this; omega
  have za1 : w.heap.size + 1 < w1.heap.size := by have := hb1.size; simp only [World.size_alloc] at this; omega
  have zb1 : w.heap.size + 1 + 1 < w1.heap.size := by have := hb1.size; simp only [World.size_alloc] at this; omega
  go_wp2_with fail
  refine (less_v HA.out HB.out Qfg.out _ T1.out HN.out.1 HN.out.2 HM.out.1 HM.out.2).mono ?_
  rintro e w2 ⟨rfl, hb2⟩
  have T2 := Lib.hid (T1.out.below hb2)
  obtain ⟨hc2, hf2⟩ := fbcell hb2
  have z2 : w.heap.size < w2.heap.size := Nat.lt_of_lt_of_le z1 hb2.size
  have za2 : w.heap.size + 1 < w2.heap.size := Nat.lt_of_lt_of_le za1 hb2.size
  have zb2 : w.heap.size + 1 + 1 < w2.heap.size := Nat.lt_of_lt_of_le zb1 hb2.size
  go_wp2_with fail
  refine (less_v HB.out HA.out Qgf.out _ T2.out HM.out.1 HM.out.2 HN.out.1 HN.out.2).mono ?_
  rintro e w3 ⟨rfl, hb3⟩
  have T3 := Lib.hid (T2.out.below hb3)
  obtain ⟨hc3, hf3⟩ := fbcell hb3
  have z3 : w.heap.size < w3.heap.size := Nat.lt_of_lt_of_le z2 hb3.size
  have za3 : w.heap.size + 1 < w3.heap.size := Nat.lt_of_lt_of_le za2 hb3.size
  have zb3 : w.heap.size + 1 + 1 < w3.heap.size := Nat.lt_of_lt_of_le zb2 hb3.size
  go_wp2_with fail
  refine (less_v HA.out HB.out Qfg.out _ T3.out HN.out.1 HN.out.2 HM.out.1 HM.out.2).mono ?_
  rintro e w4 ⟨rfl, hb4⟩
  have T4 := Lib.hid (T3.out.below hb4)
  obtain ⟨hc4, hf4⟩ := fbcell hb4
  have z4 : w.heap.size < w4.heap.size := Nat.lt_of_lt_of_le z3 hb4.size
  have za4 : w.heap.size + 1 < w4.heap.size := Nat.lt_of_lt_of_le za3 hb4.size
  have zb4 : w.heap.size + 1 + 1 < w4.heap.size := Nat.lt_of_lt_of_le zb3 hb4.size
  go_wp2_with fail
  refine (less_v HB.out HC.out Qgh.out _ T4.out HM.out.1 HM.out.2 HP.out.1 HP.out.2).mono ?_
  rintro e w5 ⟨rfl, hb5⟩
  have T5 := Lib.hid (T4.out.below hb5)
  obtain ⟨hc5, hf5⟩ := fbcell hb5
  have z5 : w.heap.size < w5.heap.size := Nat.lt_of_lt_of_le z4 hb5.size
  have za5 : w.heap.size + 1 < w5.heap.size := Nat.lt_of_lt_of_le za4 hb5.size
  have zb5 : w.heap.size + 1 + 1 < w5.heap.size := Nat.lt_of_lt_of_le zb4 hb5.size
  go_wp2_with fail
  refine (less_v HA.out HC.out Qfh.out _ T5.out HN.out.1 HN.out.2 HP.out.1 HP.out.2).mono ?_
  rintro e w6 ⟨rfl, hb6⟩
  have T6 := Lib.hid (T5.out.below hb6)
  obtain ⟨hc6, hf6⟩ := fbcell hb6
  have z6 : w.heap.size < w6.heap.size := Nat.lt_of_lt_of_le z5 hb6.size
  have za6 : w.heap.size + 1 < w6.heap.size := Nat.lt_of_lt_of_le za5 hb6.size
  have zb6 : w.heap.size + 1 + 1 < w6.heap.size := Nat.lt_of_lt_of_le zb5 hb6.size
  go_wp2_with fail
  refine (key_v HA.out _ T6.out HN.out.1 HN.out.2).mono ?_
  rintro e w7 ⟨rfl, hb7⟩
  have T7 := Lib.hid (T6.out.below hb7)
  obtain ⟨hc7, hf7⟩ := fbcell hb7
  have z7 : w.heap.size < w7.heap.size := Nat.lt_of_lt_of_le z6 hb7.size
  have za7 : w.heap.size + 1 < w7.heap.size := Nat.lt_of_lt_of_le za6 hb7.size
  have zb7 : w.heap.size + 1 + 1 < w7.heap.size := Nat.lt_of_lt_of_le zb6 hb7.size
  go_wp2_with fail
  refine (key_v HB.out _ T7.out HM.out.1 HM.out.2).mono ?_
  rintro e w8 ⟨rfl, hb8⟩
  have T8 := Lib.hid (T7.out.below hb8)
  obtain ⟨hc8, hf8⟩ := fbcell hb8
  have z8 : w.heap.size < w8.heap.size := Nat.lt_of_lt_of_le z7 hb8.size
  have za8 : w.heap.size + 1 < w8.heap.size := Nat.lt_of_lt_of_le za7 hb8.size
  have zb8 : w.heap.size + 1 + 1 < w8.heap.size := Nat.lt_of_lt_of_le zb7 hb8.size
  go_wp2_with fail
  refine (less_v HA.out HB.out Qfg.out _ T8.out HN.out.1 HN.out.2 HM.out.1 HM.out.2).mono ?_
  rintro e w9 ⟨rfl, hb9⟩
  have T9 := Lib.hid (T8.out.below hb9)
  obtain ⟨hc9, hf9⟩ := fbcell hb9
  have z9 : w.heap.size < w9.heap.size := Nat.lt_of_lt_of_le z8 hb9.size
  have za9 : w.heap.size + 1 < w9.heap.size := Nat.lt_of_lt_of_le za8 hb9.size
  have zb9 : w.heap.size + 1 + 1 < w9.heap.size := Nat.lt_of_lt_of_le zb8 hb9.size
  go_wp2_with fail
  refine (falive_any _ T9.out).mono ?_
  rintro e w10 ⟨rfl, hb10⟩
  have T10 := Lib.hid (T9.out.below hb10)
  obtain ⟨hc10, hf10⟩ := fbcell hb10
  have z10 : w.heap.size < w10.heap.size := Nat.lt_of_lt_of_le z9 hb10.size
  have za10 : w.heap.size + 1 < w10.heap.size := Nat.lt_of_lt_of_le za9 hb10.size
  have zb10 : w.heap.size + 1 + 1 < w10.heap.size := Nat.lt_of_lt_of_le zb9 hb10.size
  go_wp2
  go_ret
  exact ⟨rfl, fbelow_t (fbelow_t (fbelow_t (fbelow_t (fbelow_t (fbelow_t (fbelow_t (fbelow_t (fbelow_t (fbelow_a _ (fbelow_a _ (fbelow_a _ hb1))) hb2) hb3) hb4) hb5) hb6) hb7) hb8) hb9) hb10⟩

set_option maxHeartbeats 4000000 in
theorem order_pn2 (i n l : Int) (d : ByteArray) (i' n' l' : Int) (d' : ByteArray) (i2 n2 l2 : Int) (d2 : ByteArray) (a b c : Int) (HN : Hid (-9223372036854775808 ≤ n ∧ n ≤ 9223372036854775807)) (HM : Hid (-9223372036854775808 ≤ n' ∧ n' ≤ 9223372036854775807)) (HP : Hid (-9223372036854775808 ≤ n2 ∧ n2 ≤ 9223372036854775807))
    (HA : Hid (keyV i n l d.size = a)) (HB : Hid (keyV i' n' l' d'.size = b)) (HC : Hid (keyV i2 n2 l2 d2.size = c)) (w : World) (T0 : Hid (Tabs (((w.alloc (.cells #[.int .i64 i, .int .i64 n, .int .i64 l, .string d] 23)).alloc (.cells #[.int .i64 i', .int .i64 n', .int .i64 l', .string d'] 23)).alloc (.cells #[.int .i64 i2, .int .i64 n2, .int .i64 l2, .string d2] 23)))) (a0 : 0 ≤ a) (b0 : 0 ≤ b) (ab : a < b) (bc : ¬ b < c) (t1 : (i == i') = true) (t2 : (bits .and .i64 n 11 == bits .and .i64 n' 11) = false) :
    Calls Tryd.prog 8 #[.agg #[.int .i64 i, .int .i64 n, .int .i64 l, .string d], .agg #[.int .i64 i', .int .i64 n', .int .i64 l', .string d'], .agg #[.int .i64 i2, .int .i64 n2, .int .i64 l2, .string d2]] w fun e w' => e = .returned (.bool true) ∧ Below w.heap.size w w' := by
  have Qff : Hid (lessB a a = false) := Lib.hid (by unfold lessB; simp)
  have Qfg : Hid (lessB a b = true) := Lib.hid (by unfold lessB; simp; omega)
  have Qgf : Hid (lessB b a = false) := Lib.hid (by unfold lessB; simp; omega)
  have Qgh : Hid (lessB b c = false) := Lib.hid (by unfold lessB; simp; omega)
  have a0f : decide (a < 0) = false := by simp; omega
  have b0f : decide (b < 0) = false := by simp; omega
  go_enter Tryd.func8, Tryd.ntmps8
  go_wp2_with fail
  refine (less_v HA.out HA.out Qff.out _ T0.out HN.out.1 HN.out.2 HN.out.1 HN.out.2).mono ?_
  rintro e w1 ⟨rfl, hb1⟩
  have T1 := Lib.hid (T0.out.below hb1)
  obtain ⟨hc1, hf1⟩ := fbcell hb1
  have z1 : w.heap.size < w1.heap.size := by have := hb1.size; simp only [World.size_alloc] at this; omega
  have za1 : w.heap.size + 1 < w1.heap.size := by have := hb1.size; simp only [World.size_alloc] at this; omega
  have zb1 : w.heap.size + 1 + 1 < w1.heap.size := by have := hb1.size; simp only [World.size_alloc] at this; omega
  go_wp2_with fail
  refine (less_v HA.out HB.out Qfg.out _ T1.out HN.out.1 HN.out.2 HM.out.1 HM.out.2).mono ?_
  rintro e w2 ⟨rfl, hb2⟩
  have T2 := Lib.hid (T1.out.below hb2)
  obtain ⟨hc2, hf2⟩ := fbcell hb2
  have z2 : w.heap.size < w2.heap.size := Nat.lt_of_lt_of_le z1 hb2.size
  have za2 : w.heap.size + 1 < w2.heap.size := Nat.lt_of_lt_of_le za1 hb2.size
  have zb2 : w.heap.size + 1 + 1 < w2.heap.size := Nat.lt_of_lt_of_le zb1 hb2.size
  go_wp2_with fail
  refine (less_v HB.out HA.out Qgf.out _ T2.out HM.out.1 HM.out.2 HN.out.1 HN.out.2).mono ?_
  rintro e w3 ⟨rfl, hb3⟩
  have T3 := Lib.hid (T2.out.below hb3)
  obtain ⟨hc3, hf3⟩ := fbcell hb3
  have z3 : w.heap.size < w3.heap.size := Nat.lt_of_lt_of_le z2 hb3.size
  have za3 : w.heap.size + 1 < w3.heap.size := Nat.lt_of_lt_of_le za2 hb3.size
  have zb3 : w.heap.size + 1 + 1 < w3.heap.size := Nat.lt_of_lt_of_le zb2 hb3.size
  go_wp2_with fail
  refine (less_v HA.out HB.out Qfg.out _ T3.out HN.out.1 HN.out.2 HM.out.1 HM.out.2).mono ?_
  rintro e w4 ⟨rfl, hb4⟩
  have T4 := Lib.hid (T3.out.below hb4)
  obtain ⟨hc4, hf4⟩ := fbcell hb4
  have z4 : w.heap.size < w4.heap.size := Nat.lt_of_lt_of_le z3 hb4.size
  have za4 : w.heap.size + 1 < w4.heap.size := Nat.lt_of_lt_of_le za3 hb4.size
  have zb4 : w.heap.size + 1 + 1 < w4.heap.size := Nat.lt_of_lt_of_le zb3 hb4.size
  go_wp2_with fail
  refine (less_v HB.out HC.out Qgh.out _ T4.out HM.out.1 HM.out.2 HP.out.1 HP.out.2).mono ?_
  rintro e w5 ⟨rfl, hb5⟩
  have T5 := Lib.hid (T4.out.below hb5)
  obtain ⟨hc5, hf5⟩ := fbcell hb5
  have z5 : w.heap.size < w5.heap.size := Nat.lt_of_lt_of_le z4 hb5.size
  have za5 : w.heap.size + 1 < w5.heap.size := Nat.lt_of_lt_of_le za4 hb5.size
  have zb5 : w.heap.size + 1 + 1 < w5.heap.size := Nat.lt_of_lt_of_le zb4 hb5.size
  go_wp2_with fail
  refine (key_v HA.out _ T5.out HN.out.1 HN.out.2).mono ?_
  rintro e w6 ⟨rfl, hb6⟩
  have T6 := Lib.hid (T5.out.below hb6)
  obtain ⟨hc6, hf6⟩ := fbcell hb6
  have z6 : w.heap.size < w6.heap.size := Nat.lt_of_lt_of_le z5 hb6.size
  have za6 : w.heap.size + 1 < w6.heap.size := Nat.lt_of_lt_of_le za5 hb6.size
  have zb6 : w.heap.size + 1 + 1 < w6.heap.size := Nat.lt_of_lt_of_le zb5 hb6.size
  go_wp2_with fail
  refine (key_v HB.out _ T6.out HM.out.1 HM.out.2).mono ?_
  rintro e w7 ⟨rfl, hb7⟩
  have T7 := Lib.hid (T6.out.below hb7)
  obtain ⟨hc7, hf7⟩ := fbcell hb7
  have z7 : w.heap.size < w7.heap.size := Nat.lt_of_lt_of_le z6 hb7.size
  have za7 : w.heap.size + 1 < w7.heap.size := Nat.lt_of_lt_of_le za6 hb7.size
  have zb7 : w.heap.size + 1 + 1 < w7.heap.size := Nat.lt_of_lt_of_le zb6 hb7.size
  go_wp2_with fail
  refine (less_v HA.out HB.out Qfg.out _ T7.out HN.out.1 HN.out.2 HM.out.1 HM.out.2).mono ?_
  rintro e w8 ⟨rfl, hb8⟩
  have T8 := Lib.hid (T7.out.below hb8)
  obtain ⟨hc8, hf8⟩ := fbcell hb8
  have z8 : w.heap.size < w8.heap.size := Nat.lt_of_lt_of_le z7 hb8.size
  have za8 : w.heap.size + 1 < w8.heap.size := Nat.lt_of_lt_of_le za7 hb8.size
  have zb8 : w.heap.size + 1 + 1 < w8.heap.size := Nat.lt_of_lt_of_le zb7 hb8.size
  go_wp2_with fail
  refine (falive_any _ T8.out).mono ?_
  rintro e w9 ⟨rfl, hb9⟩
  have T9 := Lib.hid (T8.out.below hb9)
  obtain ⟨hc9, hf9⟩ := fbcell hb9
  have z9 : w.heap.size < w9.heap.size := Nat.lt_of_lt_of_le z8 hb9.size
  have za9 : w.heap.size + 1 < w9.heap.size := Nat.lt_of_lt_of_le za8 hb9.size
  have zb9 : w.heap.size + 1 + 1 < w9.heap.size := Nat.lt_of_lt_of_le zb8 hb9.size
  go_wp2
  go_ret
  exact ⟨rfl, fbelow_t (fbelow_t (fbelow_t (fbelow_t (fbelow_t (fbelow_t (fbelow_t (fbelow_t (fbelow_a _ (fbelow_a _ (fbelow_a _ hb1))) hb2) hb3) hb4) hb5) hb6) hb7) hb8) hb9⟩

set_option maxHeartbeats 4000000 in
theorem order_gt2 (i n l : Int) (d : ByteArray) (i' n' l' : Int) (d' : ByteArray) (i2 n2 l2 : Int) (d2 : ByteArray) (a b c : Int) (HN : Hid (-9223372036854775808 ≤ n ∧ n ≤ 9223372036854775807)) (HM : Hid (-9223372036854775808 ≤ n' ∧ n' ≤ 9223372036854775807)) (HP : Hid (-9223372036854775808 ≤ n2 ∧ n2 ≤ 9223372036854775807))
    (HA : Hid (keyV i n l d.size = a)) (HB : Hid (keyV i' n' l' d'.size = b)) (HC : Hid (keyV i2 n2 l2 d2.size = c)) (w : World) (T0 : Hid (Tabs (((w.alloc (.cells #[.int .i64 i, .int .i64 n, .int .i64 l, .string d] 23)).alloc (.cells #[.int .i64 i', .int .i64 n', .int .i64 l', .string d'] 23)).alloc (.cells #[.int .i64 i2, .int .i64 n2, .int .i64 l2, .string d2] 23)))) (a0 : 0 ≤ a) (b0 : 0 ≤ b) (ab : b < a) (t1 : (i == i') = true) (t2 : (bits .and .i64 n 11 == bits .and .i64 n' 11) = false) :
    Calls Tryd.prog 8 #[.agg #[.int .i64 i, .int .i64 n, .int .i64 l, .string d], .agg #[.int .i64 i', .int .i64 n', .int .i64 l', .string d'], .agg #[.int .i64 i2, .int .i64 n2, .int .i64 l2, .string d2]] w fun e w' => e = .returned (.bool true) ∧ Below w.heap.size w w' := by
  have Qff : Hid (lessB a a = false) := Lib.hid (by unfold lessB; simp)
  have Qfg : Hid (lessB a b = false) := Lib.hid (by unfold lessB; simp; omega)
  have Qgf : Hid (lessB b a = true) := Lib.hid (by unfold lessB; simp; omega)
  have a0f : decide (a < 0) = false := by simp; omega
  have b0f : decide (b < 0) = false := by simp; omega
  go_enter Tryd.func8, Tryd.ntmps8
  go_wp2_with fail
  refine (less_v HA.out HA.out Qff.out _ T0.out HN.out.1 HN.out.2 HN.out.1 HN.out.2).mono ?_
  rintro e w1 ⟨rfl, hb1⟩
  have T1 := Lib.hid (T0.out.below hb1)
  obtain ⟨hc1, hf1⟩ := fbcell hb1
  have z1 : w.heap.size < w1.heap.size := by have := hb1.size; simp only [World.size_alloc] at this; omega
  have za1 : w.heap.size + 1 < w1.heap.size := by have := hb1.size; simp only [World.size_alloc] at this; omega
  have zb1 : w.heap.size + 1 + 1 < w1.heap.size := by have := hb1.size; simp only [World.size_alloc] at this; omega
  go_wp2_with fail
  refine (less_v HA.out HB.out Qfg.out _ T1.out HN.out.1 HN.out.2 HM.out.1 HM.out.2).mono ?_
  rintro e w2 ⟨rfl, hb2⟩
  have T2 := Lib.hid (T1.out.below hb2)
  obtain ⟨hc2, hf2⟩ := fbcell hb2
  have z2 : w.heap.size < w2.heap.size := Nat.lt_of_lt_of_le z1 hb2.size
  have za2 : w.heap.size + 1 < w2.heap.size := Nat.lt_of_lt_of_le za1 hb2.size
  have zb2 : w.heap.size + 1 + 1 < w2.heap.size := Nat.lt_of_lt_of_le zb1 hb2.size
  go_wp2_with fail
  refine (less_v HA.out HB.out Qfg.out _ T2.out HN.out.1 HN.out.2 HM.out.1 HM.out.2).mono ?_
  rintro e w3 ⟨rfl, hb3⟩
  have T3 := Lib.hid (T2.out.below hb3)
  obtain ⟨hc3, hf3⟩ := fbcell hb3
  have z3 : w.heap.size < w3.heap.size := Nat.lt_of_lt_of_le z2 hb3.size
  have za3 : w.heap.size + 1 < w3.heap.size := Nat.lt_of_lt_of_le za2 hb3.size
  have zb3 : w.heap.size + 1 + 1 < w3.heap.size := Nat.lt_of_lt_of_le zb2 hb3.size
  go_wp2_with fail
  refine (key_v HA.out _ T3.out HN.out.1 HN.out.2).mono ?_
  rintro e w4 ⟨rfl, hb4⟩
  have T4 := Lib.hid (T3.out.below hb4)
  obtain ⟨hc4, hf4⟩ := fbcell hb4
  have z4 : w.heap.size < w4.heap.size := Nat.lt_of_lt_of_le z3 hb4.size
  have za4 : w.heap.size + 1 < w4.heap.size := Nat.lt_of_lt_of_le za3 hb4.size
  have zb4 : w.heap.size + 1 + 1 < w4.heap.size := Nat.lt_of_lt_of_le zb3 hb4.size
  go_wp2_with fail
  refine (key_v HB.out _ T4.out HM.out.1 HM.out.2).mono ?_
  rintro e w5 ⟨rfl, hb5⟩
  have T5 := Lib.hid (T4.out.below hb5)
  obtain ⟨hc5, hf5⟩ := fbcell hb5
  have z5 : w.heap.size < w5.heap.size := Nat.lt_of_lt_of_le z4 hb5.size
  have za5 : w.heap.size + 1 < w5.heap.size := Nat.lt_of_lt_of_le za4 hb5.size
  have zb5 : w.heap.size + 1 + 1 < w5.heap.size := Nat.lt_of_lt_of_le zb4 hb5.size
  go_wp2_with fail
  refine (less_v HA.out HB.out Qfg.out _ T5.out HN.out.1 HN.out.2 HM.out.1 HM.out.2).mono ?_
  rintro e w6 ⟨rfl, hb6⟩
  have T6 := Lib.hid (T5.out.below hb6)
  obtain ⟨hc6, hf6⟩ := fbcell hb6
  have z6 : w.heap.size < w6.heap.size := Nat.lt_of_lt_of_le z5 hb6.size
  have za6 : w.heap.size + 1 < w6.heap.size := Nat.lt_of_lt_of_le za5 hb6.size
  have zb6 : w.heap.size + 1 + 1 < w6.heap.size := Nat.lt_of_lt_of_le zb5 hb6.size
  go_wp2_with fail
  refine (less_v HB.out HA.out Qgf.out _ T6.out HM.out.1 HM.out.2 HN.out.1 HN.out.2).mono ?_
  rintro e w7 ⟨rfl, hb7⟩
  have T7 := Lib.hid (T6.out.below hb7)
  obtain ⟨hc7, hf7⟩ := fbcell hb7
  have z7 : w.heap.size < w7.heap.size := Nat.lt_of_lt_of_le z6 hb7.size
  have za7 : w.heap.size + 1 < w7.heap.size := Nat.lt_of_lt_of_le za6 hb7.size
  have zb7 : w.heap.size + 1 + 1 < w7.heap.size := Nat.lt_of_lt_of_le zb6 hb7.size
  go_wp2_with fail
  refine (falive_any _ T7.out).mono ?_
  rintro e w8 ⟨rfl, hb8⟩
  have T8 := Lib.hid (T7.out.below hb8)
  obtain ⟨hc8, hf8⟩ := fbcell hb8
  have z8 : w.heap.size < w8.heap.size := Nat.lt_of_lt_of_le z7 hb8.size
  have za8 : w.heap.size + 1 < w8.heap.size := Nat.lt_of_lt_of_le za7 hb8.size
  have zb8 : w.heap.size + 1 + 1 < w8.heap.size := Nat.lt_of_lt_of_le zb7 hb8.size
  go_wp2
  go_ret
  exact ⟨rfl, fbelow_t (fbelow_t (fbelow_t (fbelow_t (fbelow_t (fbelow_t (fbelow_t (fbelow_a _ (fbelow_a _ (fbelow_a _ hb1))) hb2) hb3) hb4) hb5) hb6) hb7) hb8⟩

set_option maxHeartbeats 4000000 in
theorem order_eq (i n l : Int) (d : ByteArray) (i' n' l' : Int) (d' : ByteArray) (i2 n2 l2 : Int) (d2 : ByteArray) (a b c : Int) (HN : Hid (-9223372036854775808 ≤ n ∧ n ≤ 9223372036854775807)) (HM : Hid (-9223372036854775808 ≤ n' ∧ n' ≤ 9223372036854775807)) (HP : Hid (-9223372036854775808 ≤ n2 ∧ n2 ≤ 9223372036854775807))
    (HA : Hid (keyV i n l d.size = a)) (HB : Hid (keyV i' n' l' d'.size = b)) (HC : Hid (keyV i2 n2 l2 d2.size = c)) (w : World) (T0 : Hid (Tabs (((w.alloc (.cells #[.int .i64 i, .int .i64 n, .int .i64 l, .string d] 23)).alloc (.cells #[.int .i64 i', .int .i64 n', .int .i64 l', .string d'] 23)).alloc (.cells #[.int .i64 i2, .int .i64 n2, .int .i64 l2, .string d2] 23)))) (a0 : 0 ≤ a) (b0 : 0 ≤ b) (ab : a = b) (t1 : (i == i') = true) (t2 : (bits .and .i64 n 11 == bits .and .i64 n' 11) = true) :
    Calls Tryd.prog 8 #[.agg #[.int .i64 i, .int .i64 n, .int .i64 l, .string d], .agg #[.int .i64 i', .int .i64 n', .int .i64 l', .string d'], .agg #[.int .i64 i2, .int .i64 n2, .int .i64 l2, .string d2]] w fun e w' => e = .returned (.bool true) ∧ Below w.heap.size w w' := by
  have AB := Lib.hid ab
  have Qff : Hid (lessB a a = false) := Lib.hid (by unfold lessB; simp)
  have Qfg : Hid (lessB a b = false) := Lib.hid (by unfold lessB; simp; omega)
  have Qgf : Hid (lessB b a = false) := Lib.hid (by unfold lessB; simp; omega)
  have a0f : decide (a < 0) = false := by simp; omega
  have b0f : decide (b < 0) = false := by simp; omega
  go_enter Tryd.func8, Tryd.ntmps8
  go_wp2_with fail
  refine (less_v HA.out HA.out Qff.out _ T0.out HN.out.1 HN.out.2 HN.out.1 HN.out.2).mono ?_
  rintro e w1 ⟨rfl, hb1⟩
  have T1 := Lib.hid (T0.out.below hb1)
  obtain ⟨hc1, hf1⟩ := fbcell hb1
  have z1 : w.heap.size < w1.heap.size := by have := hb1.size; simp only [World.size_alloc] at this; omega
  have za1 : w.heap.size + 1 < w1.heap.size := by have := hb1.size; simp only [World.size_alloc] at this; omega
  have zb1 : w.heap.size + 1 + 1 < w1.heap.size := by have := hb1.size; simp only [World.size_alloc] at this; omega
  go_wp2_with fail
  refine (less_v HA.out HB.out Qfg.out _ T1.out HN.out.1 HN.out.2 HM.out.1 HM.out.2).mono ?_
  rintro e w2 ⟨rfl, hb2⟩
  have T2 := Lib.hid (T1.out.below hb2)
  obtain ⟨hc2, hf2⟩ := fbcell hb2
  have z2 : w.heap.size < w2.heap.size := Nat.lt_of_lt_of_le z1 hb2.size
  have za2 : w.heap.size + 1 < w2.heap.size := Nat.lt_of_lt_of_le za1 hb2.size
  have zb2 : w.heap.size + 1 + 1 < w2.heap.size := Nat.lt_of_lt_of_le zb1 hb2.size
  go_wp2_with fail
  refine (less_v HA.out HB.out Qfg.out _ T2.out HN.out.1 HN.out.2 HM.out.1 HM.out.2).mono ?_
  rintro e w3 ⟨rfl, hb3⟩
  have T3 := Lib.hid (T2.out.below hb3)
  obtain ⟨hc3, hf3⟩ := fbcell hb3
  have z3 : w.heap.size < w3.heap.size := Nat.lt_of_lt_of_le z2 hb3.size
  have za3 : w.heap.size + 1 < w3.heap.size := Nat.lt_of_lt_of_le za2 hb3.size
  have zb3 : w.heap.size + 1 + 1 < w3.heap.size := Nat.lt_of_lt_of_le zb2 hb3.size
  go_wp2_with fail
  refine (key_v HA.out _ T3.out HN.out.1 HN.out.2).mono ?_
  rintro e w4 ⟨rfl, hb4⟩
  have T4 := Lib.hid (T3.out.below hb4)
  obtain ⟨hc4, hf4⟩ := fbcell hb4
  have z4 : w.heap.size < w4.heap.size := Nat.lt_of_lt_of_le z3 hb4.size
  have za4 : w.heap.size + 1 < w4.heap.size := Nat.lt_of_lt_of_le za3 hb4.size
  have zb4 : w.heap.size + 1 + 1 < w4.heap.size := Nat.lt_of_lt_of_le zb3 hb4.size
  go_wp2_with fail
  refine (key_v HB.out _ T4.out HM.out.1 HM.out.2).mono ?_
  rintro e w5 ⟨rfl, hb5⟩
  have T5 := Lib.hid (T4.out.below hb5)
  obtain ⟨hc5, hf5⟩ := fbcell hb5
  have z5 : w.heap.size < w5.heap.size := Nat.lt_of_lt_of_le z4 hb5.size
  have za5 : w.heap.size + 1 < w5.heap.size := Nat.lt_of_lt_of_le za4 hb5.size
  have zb5 : w.heap.size + 1 + 1 < w5.heap.size := Nat.lt_of_lt_of_le zb4 hb5.size
  go_wp2_with fail
  refine (less_v HA.out HB.out Qfg.out _ T5.out HN.out.1 HN.out.2 HM.out.1 HM.out.2).mono ?_
  rintro e w6 ⟨rfl, hb6⟩
  have T6 := Lib.hid (T5.out.below hb6)
  obtain ⟨hc6, hf6⟩ := fbcell hb6
  have z6 : w.heap.size < w6.heap.size := Nat.lt_of_lt_of_le z5 hb6.size
  have za6 : w.heap.size + 1 < w6.heap.size := Nat.lt_of_lt_of_le za5 hb6.size
  have zb6 : w.heap.size + 1 + 1 < w6.heap.size := Nat.lt_of_lt_of_le zb5 hb6.size
  go_wp2_with fail
  refine (less_v HB.out HA.out Qgf.out _ T6.out HM.out.1 HM.out.2 HN.out.1 HN.out.2).mono ?_
  rintro e w7 ⟨rfl, hb7⟩
  have T7 := Lib.hid (T6.out.below hb7)
  obtain ⟨hc7, hf7⟩ := fbcell hb7
  have z7 : w.heap.size < w7.heap.size := Nat.lt_of_lt_of_le z6 hb7.size
  have za7 : w.heap.size + 1 < w7.heap.size := Nat.lt_of_lt_of_le za6 hb7.size
  have zb7 : w.heap.size + 1 + 1 < w7.heap.size := Nat.lt_of_lt_of_le zb6 hb7.size
  go_wp2_with fail
  refine (falive_any _ T7.out).mono ?_
  rintro e w8 ⟨rfl, hb8⟩
  have T8 := Lib.hid (T7.out.below hb8)
  obtain ⟨hc8, hf8⟩ := fbcell hb8
  have z8 : w.heap.size < w8.heap.size := Nat.lt_of_lt_of_le z7 hb8.size
  have za8 : w.heap.size + 1 < w8.heap.size := Nat.lt_of_lt_of_le za7 hb8.size
  have zb8 : w.heap.size + 1 + 1 < w8.heap.size := Nat.lt_of_lt_of_le zb7 hb8.size
  go_wp2
  go_ret
  exact ⟨rfl, fbelow_t (fbelow_t (fbelow_t (fbelow_t (fbelow_t (fbelow_t (fbelow_t (fbelow_a _ (fbelow_a _ (fbelow_a _ hb1))) hb2) hb3) hb4) hb5) hb6) hb7) hb8⟩

set_option maxHeartbeats 4000000 in
theorem order_an (i n l : Int) (d : ByteArray) (i' n' l' : Int) (d' : ByteArray) (i2 n2 l2 : Int) (d2 : ByteArray) (a b c : Int) (HN : Hid (-9223372036854775808 ≤ n ∧ n ≤ 9223372036854775807)) (HM : Hid (-9223372036854775808 ≤ n' ∧ n' ≤ 9223372036854775807)) (HP : Hid (-9223372036854775808 ≤ n2 ∧ n2 ≤ 9223372036854775807))
    (HA : Hid (keyV i n l d.size = a)) (HB : Hid (keyV i' n' l' d'.size = b)) (HC : Hid (keyV i2 n2 l2 d2.size = c)) (w : World) (T0 : Hid (Tabs (((w.alloc (.cells #[.int .i64 i, .int .i64 n, .int .i64 l, .string d] 23)).alloc (.cells #[.int .i64 i', .int .i64 n', .int .i64 l', .string d'] 23)).alloc (.cells #[.int .i64 i2, .int .i64 n2, .int .i64 l2, .string d2] 23)))) (a0 : a < 0) :
    Calls Tryd.prog 8 #[.agg #[.int .i64 i, .int .i64 n, .int .i64 l, .string d], .agg #[.int .i64 i', .int .i64 n', .int .i64 l', .string d'], .agg #[.int .i64 i2, .int .i64 n2, .int .i64 l2, .string d2]] w fun e w' => e = .returned (.bool true) ∧ Below w.heap.size w w' := by
  have Qff : Hid (lessB a a = false) := Lib.hid (by unfold lessB; simp)
  have Qfg : Hid (lessB a b = false) := Lib.hid (by unfold lessB; simp; omega)
  go_enter Tryd.func8, Tryd.ntmps8
  go_wp2_with fail
  refine (less_v HA.out HA.out Qff.out _ T0.out HN.out.1 HN.out.2 HN.out.1 HN.out.2).mono ?_
  rintro e w1 ⟨rfl, hb1⟩
  have T1 := Lib.hid (T0.out.below hb1)
  obtain ⟨hc1, hf1⟩ := fbcell hb1
  have z1 : w.heap.size < w1.heap.size := by have := hb1.size; simp only [World.size_alloc] at this; omega
  have za1 : w.heap.size + 1 < w1.heap.size := by have := hb1.size; simp only [World.size_alloc] at this; omega
  have zb1 : w.heap.size + 1 + 1 < w1.heap.size := by have := hb1.size; simp only [World.size_alloc] at this; omega
  go_wp2_with fail
  refine (less_v HA.out HB.out Qfg.out _ T1.out HN.out.1 HN.out.2 HM.out.1 HM.out.2).mono ?_
  rintro e w2 ⟨rfl, hb2⟩
  have T2 := Lib.hid (T1.out.below hb2)
  obtain ⟨hc2, hf2⟩ := fbcell hb2
  have z2 : w.heap.size < w2.heap.size := Nat.lt_of_lt_of_le z1 hb2.size
  have za2 : w.heap.size + 1 < w2.heap.size := Nat.lt_of_lt_of_le za1 hb2.size
  have zb2 : w.heap.size + 1 + 1 < w2.heap.size := Nat.lt_of_lt_of_le zb1 hb2.size
  go_wp2_with fail
  refine (less_v HA.out HB.out Qfg.out _ T2.out HN.out.1 HN.out.2 HM.out.1 HM.out.2).mono ?_
  rintro e w3 ⟨rfl, hb3⟩
  have T3 := Lib.hid (T2.out.below hb3)
  obtain ⟨hc3, hf3⟩ := fbcell hb3
  have z3 : w.heap.size < w3.heap.size := Nat.lt_of_lt_of_le z2 hb3.size
  have za3 : w.heap.size + 1 < w3.heap.size := Nat.lt_of_lt_of_le za2 hb3.size
  have zb3 : w.heap.size + 1 + 1 < w3.heap.size := Nat.lt_of_lt_of_le zb2 hb3.size
  go_wp2_with fail
  refine (key_v HA.out _ T3.out HN.out.1 HN.out.2).mono ?_
  rintro e w4 ⟨rfl, hb4⟩
  have T4 := Lib.hid (T3.out.below hb4)
  obtain ⟨hc4, hf4⟩ := fbcell hb4
  have z4 : w.heap.size < w4.heap.size := Nat.lt_of_lt_of_le z3 hb4.size
  have za4 : w.heap.size + 1 < w4.heap.size := Nat.lt_of_lt_of_le za3 hb4.size
  have zb4 : w.heap.size + 1 + 1 < w4.heap.size := Nat.lt_of_lt_of_le zb3 hb4.size
  go_wp2_with fail
  refine (less_v HA.out HB.out Qfg.out _ T4.out HN.out.1 HN.out.2 HM.out.1 HM.out.2).mono ?_
  rintro e w5 ⟨rfl, hb5⟩
  have T5 := Lib.hid (T4.out.below hb5)
  obtain ⟨hc5, hf5⟩ := fbcell hb5
  have z5 : w.heap.size < w5.heap.size := Nat.lt_of_lt_of_le z4 hb5.size
  have za5 : w.heap.size + 1 < w5.heap.size := Nat.lt_of_lt_of_le za4 hb5.size
  have zb5 : w.heap.size + 1 + 1 < w5.heap.size := Nat.lt_of_lt_of_le zb4 hb5.size
  go_wp2_with fail
  refine (falive_any _ T5.out).mono ?_
  rintro e w6 ⟨rfl, hb6⟩
  have T6 := Lib.hid (T5.out.below hb6)
  obtain ⟨hc6, hf6⟩ := fbcell hb6
  have z6 : w.heap.size < w6.heap.size := Nat.lt_of_lt_of_le z5 hb6.size
  have za6 : w.heap.size + 1 < w6.heap.size := Nat.lt_of_lt_of_le za5 hb6.size
  have zb6 : w.heap.size + 1 + 1 < w6.heap.size := Nat.lt_of_lt_of_le zb5 hb6.size
  go_wp2
  go_ret
  exact ⟨rfl, fbelow_t (fbelow_t (fbelow_t (fbelow_t (fbelow_t (fbelow_a _ (fbelow_a _ (fbelow_a _ hb1))) hb2) hb3) hb4) hb5) hb6⟩

set_option maxHeartbeats 4000000 in
theorem order_bn (i n l : Int) (d : ByteArray) (i' n' l' : Int) (d' : ByteArray) (i2 n2 l2 : Int) (d2 : ByteArray) (a b c : Int) (HN : Hid (-9223372036854775808 ≤ n ∧ n ≤ 9223372036854775807)) (HM : Hid (-9223372036854775808 ≤ n' ∧ n' ≤ 9223372036854775807)) (HP : Hid (-9223372036854775808 ≤ n2 ∧ n2 ≤ 9223372036854775807))
    (HA : Hid (keyV i n l d.size = a)) (HB : Hid (keyV i' n' l' d'.size = b)) (HC : Hid (keyV i2 n2 l2 d2.size = c)) (w : World) (T0 : Hid (Tabs (((w.alloc (.cells #[.int .i64 i, .int .i64 n, .int .i64 l, .string d] 23)).alloc (.cells #[.int .i64 i', .int .i64 n', .int .i64 l', .string d'] 23)).alloc (.cells #[.int .i64 i2, .int .i64 n2, .int .i64 l2, .string d2] 23)))) (a0 : 0 ≤ a) (b0 : b < 0) :
    Calls Tryd.prog 8 #[.agg #[.int .i64 i, .int .i64 n, .int .i64 l, .string d], .agg #[.int .i64 i', .int .i64 n', .int .i64 l', .string d'], .agg #[.int .i64 i2, .int .i64 n2, .int .i64 l2, .string d2]] w fun e w' => e = .returned (.bool true) ∧ Below w.heap.size w w' := by
  have Qff : Hid (lessB a a = false) := Lib.hid (by unfold lessB; simp)
  have Qfg : Hid (lessB a b = false) := Lib.hid (by unfold lessB; simp; omega)
  have a0f : decide (a < 0) = false := by simp; omega
  go_enter Tryd.func8, Tryd.ntmps8
  go_wp2_with fail
  refine (less_v HA.out HA.out Qff.out _ T0.out HN.out.1 HN.out.2 HN.out.1 HN.out.2).mono ?_
  rintro e w1 ⟨rfl, hb1⟩
  have T1 := Lib.hid (T0.out.below hb1)
  obtain ⟨hc1, hf1⟩ := fbcell hb1
  have z1 : w.heap.size < w1.heap.size := by have := hb1.size; simp only [World.size_alloc] at this; omega
  have za1 : w.heap.size + 1 < w1.heap.size := by have := hb1.size; simp only [World.size_alloc] at this; omega
  have zb1 : w.heap.size + 1 + 1 < w1.heap.size := by have := hb1.size; simp only [World.size_alloc] at this; omega
  go_wp2_with fail
  refine (less_v HA.out HB.out Qfg.out _ T1.out HN.out.1 HN.out.2 HM.out.1 HM.out.2).mono ?_
  rintro e w2 ⟨rfl, hb2⟩
  have T2 := Lib.hid (T1.out.below hb2)
  obtain ⟨hc2, hf2⟩ := fbcell hb2
  have z2 : w.heap.size < w2.heap.size := Nat.lt_of_lt_of_le z1 hb2.size
  have za2 : w.heap.size + 1 < w2.heap.size := Nat.lt_of_lt_of_le za1 hb2.size
  have zb2 : w.heap.size + 1 + 1 < w2.heap.size := Nat.lt_of_lt_of_le zb1 hb2.size
  go_wp2_with fail
  refine (less_v HA.out HB.out Qfg.out _ T2.out HN.out.1 HN.out.2 HM.out.1 HM.out.2).mono ?_
  rintro e w3 ⟨rfl, hb3⟩
  have T3 := Lib.hid (T2.out.below hb3)
  obtain ⟨hc3, hf3⟩ := fbcell hb3
  have z3 : w.heap.size < w3.heap.size := Nat.lt_of_lt_of_le z2 hb3.size
  have za3 : w.heap.size + 1 < w3.heap.size := Nat.lt_of_lt_of_le za2 hb3.size
  have zb3 : w.heap.size + 1 + 1 < w3.heap.size := Nat.lt_of_lt_of_le zb2 hb3.size
  go_wp2_with fail
  refine (key_v HA.out _ T3.out HN.out.1 HN.out.2).mono ?_
  rintro e w4 ⟨rfl, hb4⟩
  have T4 := Lib.hid (T3.out.below hb4)
  obtain ⟨hc4, hf4⟩ := fbcell hb4
  have z4 : w.heap.size < w4.heap.size := Nat.lt_of_lt_of_le z3 hb4.size
  have za4 : w.heap.size + 1 < w4.heap.size := Nat.lt_of_lt_of_le za3 hb4.size
  have zb4 : w.heap.size + 1 + 1 < w4.heap.size := Nat.lt_of_lt_of_le zb3 hb4.size
  go_wp2_with fail
  refine (key_v HB.out _ T4.out HM.out.1 HM.out.2).mono ?_
  rintro e w5 ⟨rfl, hb5⟩
  have T5 := Lib.hid (T4.out.below hb5)
  obtain ⟨hc5, hf5⟩ := fbcell hb5
  have z5 : w.heap.size < w5.heap.size := Nat.lt_of_lt_of_le z4 hb5.size
  have za5 : w.heap.size + 1 < w5.heap.size := Nat.lt_of_lt_of_le za4 hb5.size
  have zb5 : w.heap.size + 1 + 1 < w5.heap.size := Nat.lt_of_lt_of_le zb4 hb5.size
  go_wp2_with fail
  refine (less_v HA.out HB.out Qfg.out _ T5.out HN.out.1 HN.out.2 HM.out.1 HM.out.2).mono ?_
  rintro e w6 ⟨rfl, hb6⟩
  have T6 := Lib.hid (T5.out.below hb6)
  obtain ⟨hc6, hf6⟩ := fbcell hb6
  have z6 : w.heap.size < w6.heap.size := Nat.lt_of_lt_of_le z5 hb6.size
  have za6 : w.heap.size + 1 < w6.heap.size := Nat.lt_of_lt_of_le za5 hb6.size
  have zb6 : w.heap.size + 1 + 1 < w6.heap.size := Nat.lt_of_lt_of_le zb5 hb6.size
  go_wp2_with fail
  refine (falive_any _ T6.out).mono ?_
  rintro e w7 ⟨rfl, hb7⟩
  have T7 := Lib.hid (T6.out.below hb7)
  obtain ⟨hc7, hf7⟩ := fbcell hb7
  have z7 : w.heap.size < w7.heap.size := Nat.lt_of_lt_of_le z6 hb7.size
  have za7 : w.heap.size + 1 < w7.heap.size := Nat.lt_of_lt_of_le za6 hb7.size
  have zb7 : w.heap.size + 1 + 1 < w7.heap.size := Nat.lt_of_lt_of_le zb6 hb7.size
  go_wp2
  go_ret
  exact ⟨rfl, fbelow_t (fbelow_t (fbelow_t (fbelow_t (fbelow_t (fbelow_t (fbelow_a _ (fbelow_a _ (fbelow_a _ hb1))) hb2) hb3) hb4) hb5) hb6) hb7⟩

theorem frameOrder_walk (i n l : Int) (d : ByteArray) (i' n' l' : Int) (d' : ByteArray) (i2 n2 l2 : Int) (d2 : ByteArray) (_wi : (Lit.int .i64 i).wf = true) (wn : (Lit.int .i64 n).wf = true) (_wl : (Lit.int .i64 l).wf = true) (_wd : d.size ≤ maxLen)
    (_wi' : (Lit.int .i64 i').wf = true) (wn' : (Lit.int .i64 n').wf = true) (_wl' : (Lit.int .i64 l').wf = true) (_wd' : d'.size ≤ maxLen) (_wi2 : (Lit.int .i64 i2).wf = true) (wn2 : (Lit.int .i64 n2).wf = true) (_wl2 : (Lit.int .i64 l2).wf = true) (_wd2 : d2.size ≤ maxLen) (w : World) (hT : Tabs w) :
    Calls Tryd.prog 8 #[.agg #[.int .i64 i, .int .i64 n, .int .i64 l, .string d], .agg #[.int .i64 i', .int .i64 n', .int .i64 l', .string d'], .agg #[.int .i64 i2, .int .i64 n2, .int .i64 l2, .string d2]] w fun e w' => e = .returned (.bool true) ∧ Below w.heap.size w w' := by
  have HN := Lib.hid (Go.bounds_i64 wn)
  have HM := Lib.hid (Go.bounds_i64 wn')
  have HP := Lib.hid (Go.bounds_i64 wn2)
  have T0 := Lib.hid (((hT.alloc (.cells #[.int .i64 i, .int .i64 n, .int .i64 l, .string d] 23)).alloc (.cells #[.int .i64 i', .int .i64 n', .int .i64 l', .string d'] 23)).alloc (.cells #[.int .i64 i2, .int .i64 n2, .int .i64 l2, .string d2] 23))
  have HA := Lib.hid (show keyV i n l d.size = _ from rfl)
  have HB := Lib.hid (show keyV i' n' l' d'.size = _ from rfl)
  have HC := Lib.hid (show keyV i2 n2 l2 d2.size = _ from rfl)
  by_cases a0 : 0 ≤ keyV i n l d.size
  · by_cases b0 : 0 ≤ keyV i' n' l' d'.size
    · have ht := key_tied a0 b0
      by_cases hab : keyV i n l d.size = keyV i' n' l' d'.size
      · obtain ⟨h1, h2⟩ := ht.1 hab
        exact order_eq i n l d i' n' l' d' i2 n2 l2 d2 _ _ _ HN HM HP HA HB HC w T0 a0 b0 hab (by simpa using h1) (by simpa using h2)
      · have hne : i ≠ i' ∨ (i = i' ∧ bits .and .i64 n 11 ≠ bits .and .i64 n' 11) := by
          by_cases h1 : i = i'
          · exact .inr ⟨h1, fun h2 => hab (ht.2 ⟨h1, h2⟩)⟩
          · exact .inl h1
        rcases hne with h1 | ⟨h1, h2⟩
        · by_cases hlt : keyV i n l d.size < keyV i' n' l' d'.size
          · by_cases hbc : keyV i' n' l' d'.size < keyV i2 n2 l2 d2.size
            · exact order_pr1 i n l d i' n' l' d' i2 n2 l2 d2 _ _ _ HN HM HP HA HB HC w T0 a0 b0 hlt hbc (by simpa using h1)
            · exact order_pn1 i n l d i' n' l' d' i2 n2 l2 d2 _ _ _ HN HM HP HA HB HC w T0 a0 b0 hlt hbc (by simpa using h1)
          · exact order_gt1 i n l d i' n' l' d' i2 n2 l2 d2 _ _ _ HN HM HP HA HB HC w T0 a0 b0 (by omega) (by simpa using h1)
        · by_cases hlt : keyV i n l d.size < keyV i' n' l' d'.size
          · by_cases hbc : keyV i' n' l' d'.size < keyV i2 n2 l2 d2.size
            · exact order_pr2 i n l d i' n' l' d' i2 n2 l2 d2 _ _ _ HN HM HP HA HB HC w T0 a0 b0 hlt hbc (by simpa using h1) (by simpa using h2)
            · exact order_pn2 i n l d i' n' l' d' i2 n2 l2 d2 _ _ _ HN HM HP HA HB HC w T0 a0 b0 hlt hbc (by simpa using h1) (by simpa using h2)
          · exact order_gt2 i n l d i' n' l' d' i2 n2 l2 d2 _ _ _ HN HM HP HA HB HC w T0 a0 b0 (by omega) (by simpa using h1) (by simpa using h2)
    · exact order_bn i n l d i' n' l' d' i2 n2 l2 d2 _ _ _ HN HM HP HA HB HC w T0 a0 (by omega)
  · exact order_an i n l d i' n' l' d' i2 n2 l2 d2 _ _ _ HN HM HP HA HB HC w T0 (by omega)

end Go.Proofs.YtellhnhkdbbngaaDoor
