/- Frame: contracts of the document's Has, Right. -/
import Derived.Test.YtohoedhaomkafaaDoorFrmD
import Derived.Test.YtohoedhaomkafaaDoorLater
namespace Go.Proofs.YtohoedhaomkafaaDoor
open Go.RowKit
set_option linter.unusedVariables false

set_option maxHeartbeats 1000000 in
theorem has_v {n k : Int} {q : Bool} (h : decide (n / k % 2 = 1) = q) (h0 : 0 ≤ n) (h1 : n ≤ 63) (hk : 1 ≤ k) (hk2 : k ≤ 32) (i l : Int) (d : ByteArray) (w : World) :
    Calls Tryd.prog 16 #[.agg #[.int .i64 i, .int .i64 n, .int .i64 l, .string d], .int .i64 k] w fun e w' => e = .returned (.bool q) ∧ Below w.heap.size w w' := by
  have H := Lib.hid h
  have hq0 : 0 ≤ n / k := Int.ediv_nonneg h0 (by omega)
  have hq1 : n / k ≤ 63 := Int.le_trans (Int.ediv_le_self _ h0) h1
  have hb : (k == 0) = false := by simp; omega
  clear h
  go_enter Tryd.func16, Tryd.ntmps16
  go_wp2
  go_ret
  exact ⟨fret_bool (by rw [← H.out, Bool.eq_iff_iff]; simp), (Below.refl _ _).alloc (Nat.le_refl _) _⟩

theorem has1 {n : Int} {q : Bool} (h : fE n = q) (h0 : 0 ≤ n) (h1 : n ≤ 63) (i l : Int) (d : ByteArray) (w : World) :
    Calls Tryd.prog 16 #[.agg #[.int .i64 i, .int .i64 n, .int .i64 l, .string d], .int .i64 1] w fun e w' => e = .returned (.bool q) ∧ Below w.heap.size w w' :=
  has_v (by rw [← h]; unfold fE; rw [Int.ediv_one]) h0 h1 (by decide) (by decide) i l d w
theorem has2 {n : Int} {q : Bool} (h : fR n = q) (h0 : 0 ≤ n) (h1 : n ≤ 63) (i l : Int) (d : ByteArray) (w : World) :
    Calls Tryd.prog 16 #[.agg #[.int .i64 i, .int .i64 n, .int .i64 l, .string d], .int .i64 2] w fun e w' => e = .returned (.bool q) ∧ Below w.heap.size w w' :=
  has_v h h0 h1 (by decide) (by decide) i l d w
theorem has4 {n : Int} {q : Bool} (h : fX n = q) (h0 : 0 ≤ n) (h1 : n ≤ 63) (i l : Int) (d : ByteArray) (w : World) :
    Calls Tryd.prog 16 #[.agg #[.int .i64 i, .int .i64 n, .int .i64 l, .string d], .int .i64 4] w fun e w' => e = .returned (.bool q) ∧ Below w.heap.size w w' :=
  has_v h h0 h1 (by decide) (by decide) i l d w
theorem has8 {n : Int} {q : Bool} (h : fD n = q) (h0 : 0 ≤ n) (h1 : n ≤ 63) (i l : Int) (d : ByteArray) (w : World) :
    Calls Tryd.prog 16 #[.agg #[.int .i64 i, .int .i64 n, .int .i64 l, .string d], .int .i64 8] w fun e w' => e = .returned (.bool q) ∧ Below w.heap.size w w' :=
  has_v h h0 h1 (by decide) (by decide) i l d w
theorem has16 {n : Int} {q : Bool} (h : fB n = q) (h0 : 0 ≤ n) (h1 : n ≤ 63) (i l : Int) (d : ByteArray) (w : World) :
    Calls Tryd.prog 16 #[.agg #[.int .i64 i, .int .i64 n, .int .i64 l, .string d], .int .i64 16] w fun e w' => e = .returned (.bool q) ∧ Below w.heap.size w w' :=
  has_v h h0 h1 (by decide) (by decide) i l d w
theorem has32 {n : Int} {q : Bool} (h : fS n = q) (h0 : 0 ≤ n) (h1 : n ≤ 63) (i l : Int) (d : ByteArray) (w : World) :
    Calls Tryd.prog 16 #[.agg #[.int .i64 i, .int .i64 n, .int .i64 l, .string d], .int .i64 32] w fun e w' => e = .returned (.bool q) ∧ Below w.heap.size w w' :=
  has_v h h0 h1 (by decide) (by decide) i l d w

set_option maxHeartbeats 4000000 in
theorem rright_bad (i n l : Int) (d : ByteArray) (w : World) (h0 : 0 ≤ n) (h1 : n ≤ 63) (h2 : 0 ≤ i) (h3 : i ≤ 536870911) (e r x fd b s : Bool) (he : Hid (fE n = e)) (hr : Hid (fR n = r)) (hx : Hid (fX n = x)) (hd : Hid (fD n = fd))
    (hB : Hid (fB n = b)) (hS : Hid (fS n = s)) (hbad : Hid (((x && (e || r || fd)) || (fd && r) || ((b || s) && !fd)) = true)) :
    Calls Tryd.prog 15 #[.agg #[.int .i64 i, .int .i64 n, .int .i64 l, .string d]] w fun e w' => e = .returned (.bool false) ∧ Below w.heap.size w w' := by
  have hl := later_cells
  have t1 : decide (n < 0) = false := by simp; omega
  have t2 : decide (63 < n) = false := by simp; omega
  have t3 : decide (i < 0) = false := by simp; omega
  have t4 : decide (536870911 < i) = false := by simp; omega
  go_enter Tryd.func15, Tryd.ntmps15
  go_wp2_with fail
  refine wp_region_later (by kernel_rfl) (by kernel_rfl) ?_
  repeat (go_big_quiet_step (fail))
  go_big_quiet_step (exact Later.call (has4 hx.out h0 h1 _ _ _ _))
  repeat (go_big_quiet_step (fail))
  go_big_quiet_step (exact Later.call (has8 hd.out h0 h1 _ _ _ _))
  repeat (go_big_quiet_step (fail))
  go_big_quiet_step (exact Later.call (has2 hr.out h0 h1 _ _ _ _))
  repeat (go_big_quiet_step (fail))
  go_big_quiet_step (exact Later.call (has1 he.out h0 h1 _ _ _ _))
  repeat (go_big_quiet_step (fail))
  refine wpQuiet_nil ?_
  rintro w1 ⟨m, rfl⟩
  have hz : w.heap.size < m.w.heap.size := by have := m.h.size; simp at this; omega
  have hbm : Below w.heap.size w m.w := fbelow_a _ m.h
  cases x <;> cases fd <;> cases e <;> cases r
  all_goals first
    | (go_wp2_with fail; go_ret; exact ⟨rfl, hbm⟩)
    | (go_wp2_with fail
       refine (has16 hB.out h0 h1 _ _ _ _).mono ?_
       rintro e w2 ⟨rfl, hb2⟩
       obtain ⟨hc2, hf2⟩ := fbcell hb2
       cases b
       · go_wp2_with fail
         refine (has32 hS.out h0 h1 _ _ _ _).mono ?_
         rintro e w3 ⟨rfl, hb3⟩
         cases s
         · exact absurd hbad.out (by decide)
         · first
           | exact absurd hbad.out (by decide)
           | (go_wp2; done)
           | (go_wp2; go_ret; exact ⟨rfl, fbelow_t (fbelow_t hbm hb2) hb3⟩)
       · first
         | exact absurd hbad.out (by decide)
         | (go_wp2; done)
         | (go_wp2; go_ret; exact ⟨rfl, fbelow_t hbm hb2⟩))

end Go.Proofs.YtohoedhaomkafaaDoor
