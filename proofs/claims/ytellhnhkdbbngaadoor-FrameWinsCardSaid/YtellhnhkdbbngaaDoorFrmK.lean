/- Frame: contracts of Key, Less. -/
import Derived.Test.YtellhnhkdbbngaaDoorFrmJ
namespace Go.Proofs.YtellhnhkdbbngaaDoor
open Go.RowKit
set_option linter.unusedVariables false

/-- -1, or a frame's key -/
def keyV (i n l : Int) (sz : Nat) : Int := if okF i n l sz && !fX n then keyN i n else -1

set_option maxHeartbeats 2000000 in
theorem key_no {i n l : Int} {d : ByteArray} (h : (okF i n l d.size && !fX n) = false) (w : World) (hT : Tabs w) (hn1 : -9223372036854775808 ≤ n) (hn2 : n ≤ 9223372036854775807) :
    Calls Tryd.prog 24 #[.agg #[.int .i64 i, .int .i64 n, .int .i64 l, .string d]] w fun e w' => e = .returned (.int .i64 (-1)) ∧ Below w.heap.size w w' := by
  have HT := Lib.hid hT
  clear hT
  cases ho : okF i n l d.size
  · have H := Lib.hid ho
    clear h ho
    go_enter Tryd.func24, Tryd.ntmps24
    go_wp2_with fail
    refine (right_f H.out _ (HT.out.alloc _) hn1 hn2).mono ?_
    rintro e w1 ⟨rfl, hb⟩
    go_wp2
    go_ret
    exact ⟨rfl, fbelow_a _ hb⟩
  · have H := Lib.hid ho
    have hx : fX n = true := by rw [ho] at h; simpa using h
    have a4 := and4_t hx
    clear h ho hx
    go_enter Tryd.func24, Tryd.ntmps24
    go_wp2_with fail
    refine (right_t H.out _ (HT.out.alloc _)).mono ?_
    rintro e w1 ⟨rfl, hb⟩
    obtain ⟨hc, hf⟩ := fbcell hb
    go_wp2
    go_ret
    exact ⟨rfl, fbelow_a _ hb⟩

theorem wraps_i64 (n : Int) (h₀ : 0 ≤ n) (h₁ : n < 2 ^ 63) : IntKind.i64.wrap n = n := by rw [IntKind.wrap_i64]; omega
theorem or_join (x y : Int) (i : Nat) (hx₀ : 0 ≤ x) (hx : x % 2 ^ i = 0) (hx₁ : x < 9223372036854775808) (hy₀ : 0 ≤ y) (hy : y < 2 ^ i) (hy₁ : y < 9223372036854775808) : bits .or .i64 x y = x + y :=
  bits_join .i64 63 (by decide) wraps_i64 i x y hx₀ hx (by omega) hy₀ hy (by omega)
theorem narrow_or (i R D : Int) (i0 : 0 ≤ i) (i1 : i ≤ 2047) (r0 : 0 ≤ R) (r1 : R ≤ 1) (d0 : 0 ≤ D) (d1 : D ≤ 1) :
    bits .or .i64 (bits .or .i64 (i * 4194304) (R * 2097152)) D = i * 4194304 + R * 2097152 + D := by
  rw [or_join (i * 4194304) (R * 2097152) 22 (by omega) (by omega) (by omega) (by omega) (by omega) (by omega)]
  exact or_join _ D 1 (by omega) (by omega) (by omega) d0 (by omega) (by omega)
theorem wide_or (a b R D : Int) (a0 : 0 ≤ a) (a1 : a ≤ 2047) (b0 : 0 ≤ b) (b1 : b < 262144) (r0 : 0 ≤ R) (r1 : R ≤ 1) (d0 : 0 ≤ D) (d1 : D ≤ 1) :
    bits .or .i64 (bits .or .i64 (bits .or .i64 (bits .or .i64 (a * 4194304) 3145728) (b * 4)) (R * 2)) D = a * 4194304 + 3145728 + b * 4 + R * 2 + D := by
  rw [or_join (a * 4194304) 3145728 22 (by omega) (by omega) (by omega) (by omega) (by omega) (by omega)]
  rw [or_join (a * 4194304 + 3145728) (b * 4) 20 (by omega) (by omega) (by omega) (by omega) (by omega) (by omega)]
  rw [or_join (a * 4194304 + 3145728 + b * 4) (R * 2) 2 (by omega) (by omega) (by omega) (by omega) (by omega) (by omega)]
  exact or_join _ D 1 (by omega) (by omega) (by omega) d0 (by omega) (by omega)
theorem and18 (x : Int) (h0 : 0 ≤ x) (h1 : x ≤ 536870911) : bits .and .i64 x 262143 = x % 262144 :=
  bits_mask .i64 63 (by decide) wraps_i64 18 (by decide) x h0 (by omega)
theorem b01_bd (q : Bool) : 0 ≤ b01 q ∧ b01 q ≤ 1 := by cases q <;> decide
theorem one2_v {n R : Int} (h : b01 (fR n) = R) (w : World) :
    Calls Tryd.prog 35 #[.int .i64 n, .int .i64 2] w fun e w' => e = .returned (.int .i64 R) ∧ w' = w := by rw [← h]; exact (one2_any n w).mono fun _ _ ⟨h1, h2⟩ => ⟨h1, h2.symm⟩
theorem one8_v {n R : Int} (h : b01 (fD n) = R) (w : World) :
    Calls Tryd.prog 35 #[.int .i64 n, .int .i64 8] w fun e w' => e = .returned (.int .i64 R) ∧ w' = w := by rw [← h]; exact (one8_any n w).mono fun _ _ ⟨h1, h2⟩ => ⟨h1, h2.symm⟩

set_option maxHeartbeats 2000000 in
theorem key_n {i n l : Int} {d : ByteArray} (h : okF i n l d.size = true) (hx : fX n = false) (he : fE n = false) (w : World) (hT : Tabs w) :
    Calls Tryd.prog 24 #[.agg #[.int .i64 i, .int .i64 n, .int .i64 l, .string d]] w fun e w' => e = .returned (.int .i64 (i * 4194304 + b01 (fR n) * 2097152 + b01 (fD n))) ∧ Below w.heap.size w w' := by
  have HT := Lib.hid hT
  have H := Lib.hid h
  have g := good h
  have i0 := g.i0
  have i1 : i ≤ 2047 := by have := g.i1; rw [topN_v he hx] at this; simpa using this
  have a4 := and4_f hx
  have a1 := and1_f he
  obtain ⟨R, hR⟩ : ∃ R, b01 (fR n) = R := ⟨_, rfl⟩
  obtain ⟨D, hD⟩ : ∃ D, b01 (fD n) = D := ⟨_, rfl⟩
  have r0 : 0 ≤ R := by rw [← hR]; exact (b01_bd _).1
  have r1 : R ≤ 1 := by rw [← hR]; exact (b01_bd _).2
  have d0 : 0 ≤ D := by rw [← hD]; exact (b01_bd _).1
  have d1 : D ≤ 1 := by rw [← hD]; exact (b01_bd _).2
  rw [hR, hD]
  have HR := Lib.hid hR
  have HD := Lib.hid hD
  clear hT h g hx he hR hD
  go_enter Tryd.func24, Tryd.ntmps24
  go_wp2_with fail
  refine (right_t H.out _ (HT.out.alloc _)).mono ?_
  rintro e w1 ⟨rfl, hb⟩
  obtain ⟨hc, hf⟩ := fbcell hb
  go_wp2_with fail
  refine wp_region_quiet_lit (by kernel_rfl) (by kernel_rfl) ?_
  repeat (go_big_quiet_step (fail))
  go_big_quiet_step (exact Calls.quiet_of_same (one2_v HR.out _))
  repeat (go_big_quiet_step (fail))
  go_big_quiet_step (exact Calls.quiet_of_same (one8_v HD.out _))
  repeat (go_big_quiet_step (fail))
  refine wpQuiet_nil ?_
  rintro _ ⟨nq, rfl⟩
  go_wp2
  go_ret
  exact ⟨fret_int (narrow_or i R D i0 i1 r0 r1 d0 d1), below_drewN (fbelow_a _ hb) _⟩

set_option maxHeartbeats 2000000 in
theorem key_w {i n l : Int} {d : ByteArray} (h : okF i n l d.size = true) (hx : fX n = false) (he : fE n = true) (w : World) (hT : Tabs w) :
    Calls Tryd.prog 24 #[.agg #[.int .i64 i, .int .i64 n, .int .i64 l, .string d]] w fun e w' => e = .returned (.int .i64 (i / 262144 * 4194304 + 3145728 + i % 262144 * 4 + b01 (fR n) * 2 + b01 (fD n))) ∧ Below w.heap.size w w' := by
  have HT := Lib.hid hT
  have H := Lib.hid h
  have g := good h
  have i0 := g.i0
  have i1 := g.top
  have a18 := and18 i i0 i1
  have ia : 0 ≤ i / 262144 := by omega
  have ib : i / 262144 ≤ 2047 := by omega
  have ic : 0 ≤ i % 262144 := by omega
  have id : i % 262144 < 262144 := by omega
  have a4 := and4_f hx
  have a1 := and1_t he
  obtain ⟨R, hR⟩ : ∃ R, b01 (fR n) = R := ⟨_, rfl⟩
  obtain ⟨D, hD⟩ : ∃ D, b01 (fD n) = D := ⟨_, rfl⟩
  have r0 : 0 ≤ R := by rw [← hR]; exact (b01_bd _).1
  have r1 : R ≤ 1 := by rw [← hR]; exact (b01_bd _).2
  have d0 : 0 ≤ D := by rw [← hD]; exact (b01_bd _).1
  have d1 : D ≤ 1 := by rw [← hD]; exact (b01_bd _).2
  rw [hR, hD]
  have HR := Lib.hid hR
  have HD := Lib.hid hD
  clear hT h g hx he hR hD
  go_enter Tryd.func24, Tryd.ntmps24
  go_wp2_with fail
  refine (right_t H.out _ (HT.out.alloc _)).mono ?_
  rintro e w1 ⟨rfl, hb⟩
  obtain ⟨hc, hf⟩ := fbcell hb
  go_wp2_with fail
  refine wp_region_quiet_lit (by kernel_rfl) (by kernel_rfl) ?_
  repeat (go_big_quiet_step (fail))
  go_big_quiet_step (exact Calls.quiet_of_same (one2_v HR.out _))
  repeat (go_big_quiet_step (fail))
  go_big_quiet_step (exact Calls.quiet_of_same (one8_v HD.out _))
  repeat (go_big_quiet_step (fail))
  refine wpQuiet_nil ?_
  rintro _ ⟨nq, rfl⟩
  go_wp2_with fail
  go_quiet (fail)
  go_wp2
  go_ret
  exact ⟨fret_int (wide_or _ _ R D ia ib ic id r0 r1 d0 d1), below_drewN (fbelow_a _ hb) _⟩

theorem key_any {i n l : Int} {d : ByteArray} (w : World) (hT : Tabs w) (hn1 : -9223372036854775808 ≤ n) (hn2 : n ≤ 9223372036854775807) :
    Calls Tryd.prog 24 #[.agg #[.int .i64 i, .int .i64 n, .int .i64 l, .string d]] w fun e w' => e = .returned (.int .i64 (keyV i n l d.size)) ∧ Below w.heap.size w w' := by
  unfold keyV
  cases h : (okF i n l d.size && !fX n)
  · exact key_no h w hT hn1 hn2
  · simp only [Bool.and_eq_true, Bool.not_eq_true'] at h
    unfold keyN
    cases he : fE n
    · exact key_n h.1 h.2 he w hT
    · exact key_w h.1 h.2 he w hT
theorem key_v {i n l v : Int} {d : ByteArray} (h : keyV i n l d.size = v) (w : World) (hT : Tabs w) (hn1 : -9223372036854775808 ≤ n) (hn2 : n ≤ 9223372036854775807) :
    Calls Tryd.prog 24 #[.agg #[.int .i64 i, .int .i64 n, .int .i64 l, .string d]] w fun e w' => e = .returned (.int .i64 v) ∧ Below w.heap.size w w' := by
  rw [← h]; exact key_any w hT hn1 hn2

/-! ### Less -/
def lessB (a b : Int) : Bool := decide (0 ≤ a) && decide (a < b)
set_option maxHeartbeats 2000000 in
theorem less_v {i n l i' n' l' a b : Int} {d d' : ByteArray} {q : Bool} (ha : keyV i n l d.size = a) (hb : keyV i' n' l' d'.size = b) (hq : lessB a b = q) (w : World) (hT : Tabs w)
    (hn1 : -9223372036854775808 ≤ n) (hn2 : n ≤ 9223372036854775807) (hm1 : -9223372036854775808 ≤ n') (hm2 : n' ≤ 9223372036854775807) :
    Calls Tryd.prog 25 #[.agg #[.int .i64 i, .int .i64 n, .int .i64 l, .string d], .agg #[.int .i64 i', .int .i64 n', .int .i64 l', .string d']] w fun e w' => e = .returned (.bool q) ∧ Below w.heap.size w w' := by
  have HT := Lib.hid hT
  have HA := Lib.hid ha
  have HB := Lib.hid hb
  have HQ := Lib.hid hq
  clear hT ha hb hq
  by_cases h0 : 0 ≤ a
  · go_enter Tryd.func25, Tryd.ntmps25
    go_wp2_with fail
    refine (key_v HA.out _ ((HT.out.alloc _).alloc _) hn1 hn2).mono ?_
    rintro e w1 ⟨rfl, hb1⟩
    obtain ⟨hc1, hf1⟩ := fbcell hb1
    go_wp2_with fail
    refine (key_v HB.out _ (((HT.out.alloc _).alloc _).below hb1) hm1 hm2).mono ?_
    rintro e w2 ⟨rfl, hb2⟩
    go_wp2
    go_ret
    exact ⟨fret_bool (by rw [← HQ.out]; unfold lessB; rw [decide_eq_true h0]; rfl), fbelow_t (fbelow_a _ (fbelow_a _ hb1)) hb2⟩
  · have t0 : decide (0 ≤ a) = false := by simp; omega
    go_enter Tryd.func25, Tryd.ntmps25
    go_wp2_with fail
    refine (key_v HA.out _ ((HT.out.alloc _).alloc _) hn1 hn2).mono ?_
    rintro e w1 ⟨rfl, hb1⟩
    go_wp2
    go_ret
    exact ⟨fret_bool (by rw [← HQ.out]; unfold lessB; rw [t0]; rfl), fbelow_a _ (fbelow_a _ hb1)⟩

end Go.Proofs.YtellhnhkdbbngaaDoor
