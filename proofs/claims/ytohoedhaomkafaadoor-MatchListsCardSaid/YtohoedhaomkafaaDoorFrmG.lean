/- Frame: the contract of the document's Right, at flags that may be. -/
import Derived.Test.YtohoedhaomkafaaDoorFrmE
namespace Go.Proofs.YtohoedhaomkafaaDoor
open Go.RowKit
set_option linter.unusedVariables false

def resD (r : Bool) (l : Int) (sz : Nat) : Bool := if r then decide (sz = 0) else decide ((sz : Int) = l)
def resC (e r : Bool) (i l : Int) (sz : Nat) : Bool := (e || decide (i ≤ 2047)) && (decide (0 ≤ l) && decide (l ≤ 8)) && resD r l sz
theorem resD_t (l : Int) (d : ByteArray) : d.toList.isEmpty = resD true l d.size := nilB d
theorem resD_f (l : Int) (d : ByteArray) : ((d.size : Int) == l) = resD false l d.size := by unfold resD; rw [Bool.eq_iff_iff]; simp

set_option maxHeartbeats 4000000 in
theorem rright_C (i n l : Int) (d : ByteArray) (w : World) (h0 : 0 ≤ n) (h1 : n ≤ 63) (h2 : 0 ≤ i) (h3 : i ≤ 536870911) (e r : Bool) (he : Hid (fE n = e)) (hr : Hid (fR n = r)) (hx : Hid (fX n = false)) (hd : Hid (fD n = false))
    (hB : Hid (fB n = false)) (hS : Hid (fS n = false)) :
    Calls Tryd.prog 15 #[.agg #[.int .i64 i, .int .i64 n, .int .i64 l, .string d]] w fun en w' => en = .returned (.bool (resC e r i l d.size)) ∧ Below w.heap.size w w' := by
  have hl := later_cells
  have t1 : decide (n < 0) = false := by simp; omega
  have t2 : decide (63 < n) = false := by simp; omega
  have t3 : decide (i < 0) = false := by simp; omega
  have t4 : decide (536870911 < i) = false := by simp; omega
  go_enter Tryd.func15, Tryd.ntmps15
  go_wp2_with fail
  refine wp_region_later (by kernel_rfl) (by kernel_rfl) ?_
  repeat (go_big_quiet_step (fail))
  go_big_quiet_step (exact Later.call (has4 hx.out h0 h1 _ _ _ _))
  repeat (go_big_quiet_step (fail))
  go_big_quiet_step (exact Later.call (has8 hd.out h0 h1 _ _ _ _))
  repeat (go_big_quiet_step (fail))
  go_big_quiet_step (exact Later.call (has2 hr.out h0 h1 _ _ _ _))
  repeat (go_big_quiet_step (fail))
  go_big_quiet_step (exact Later.call (has1 he.out h0 h1 _ _ _ _))
  repeat (go_big_quiet_step (fail))
  refine wpQuiet_nil ?_
  rintro w1 ⟨m, rfl⟩
  have hz : w.heap.size < m.w.heap.size := by have := m.h.size; simp at this; omega
  have hbm : Below w.heap.size w m.w := fbelow_a _ m.h
  go_wp2_with fail
  refine (has16 hB.out h0 h1 _ _ _ _).mono ?_
  rintro e2 w2 ⟨rfl, hb2⟩
  obtain ⟨hc2, hf2⟩ := fbcell hb2
  have hz2 : w.heap.size < w2.heap.size := Nat.lt_of_lt_of_le hz hb2.size
  go_wp2_with fail
  refine (has32 hS.out h0 h1 _ _ _ _).mono ?_
  rintro e3 w3 ⟨rfl, hb3⟩
  obtain ⟨hc3, hf3⟩ := fbcell hb3
  have hz3 : w.heap.size < w3.heap.size := Nat.lt_of_lt_of_le hz2 hb3.size
  have hbb : Below w.heap.size w w3 := fbelow_t (fbelow_t hbm hb2) hb3
  have hfin : ∀ q : Bool, q = (e || decide (i ≤ 2047)) → ∀ p : Bool, p = (decide (0 ≤ l) && decide (l ≤ 8)) → resC e r i l d.size = (q && p && resD r l d.size) := fun q hq p hp => by rw [hq, hp]; rfl
  have Hfin := Lib.hid hfin
  clear hfin
  cases e
  · by_cases hi : 2047 < i
    · go_wp2
      go_ret
      exact ⟨fret_bool (by rw [Hfin.out false (by simp; omega) _ rfl]; rfl), hbb⟩
    · have t5 : decide (2047 < i) = false := by simp; omega
      by_cases l0 : l < 0
      · go_wp2
        go_ret
        exact ⟨fret_bool (by rw [Hfin.out _ rfl false (by simp; omega)]; simp), hbb⟩
      have t6 : decide (l < 0) = false := by simp; omega
      by_cases l1 : 64 < l
      · go_wp2
        go_ret
        exact ⟨fret_bool (by rw [Hfin.out _ rfl false (by simp; omega)]; simp), hbb⟩
      have t7 : decide (64 < l) = false := by simp; omega
      by_cases l2 : 8 < l
      · go_wp2
        go_ret
        exact ⟨fret_bool (by rw [Hfin.out _ rfl false (by simp; omega)]; simp), hbb⟩
      have t8 : decide (8 < l) = false := by simp; omega
      cases r
      · go_wp2
        go_ret
        exact ⟨fret_bool (by rw [Hfin.out true (by simp; omega) true (by simp; omega)]; exact resD_f l d), hbb⟩
      · go_wp2
        go_ret
        exact ⟨fret_bool (by rw [Hfin.out true (by simp; omega) true (by simp; omega)]; exact resD_t l d), hbb⟩
  · by_cases hi : 2047 < i
    all_goals
      have t5 : decide (2047 < i) = decide (2047 < i) := rfl
      clear t5
      try (have t5 : decide (2047 < i) = false := by simp; omega)
      by_cases l0 : l < 0
      · go_wp2
        go_ret
        exact ⟨fret_bool (by rw [Hfin.out _ rfl false (by simp; omega)]; simp), hbb⟩
      have t6 : decide (l < 0) = false := by simp; omega
      by_cases l1 : 64 < l
      · go_wp2
        go_ret
        exact ⟨fret_bool (by rw [Hfin.out _ rfl false (by simp; omega)]; simp), hbb⟩
      have t7 : decide (64 < l) = false := by simp; omega
      by_cases l2 : 8 < l
      · go_wp2
        go_ret
        exact ⟨fret_bool (by rw [Hfin.out _ rfl false (by simp; omega)]; simp), hbb⟩
      have t8 : decide (8 < l) = false := by simp; omega
      cases r
      · go_wp2
        go_ret
        exact ⟨fret_bool (by rw [Hfin.out true rfl true (by simp; omega)]; exact resD_f l d), hbb⟩
      · go_wp2
        go_ret
        exact ⟨fret_bool (by rw [Hfin.out true rfl true (by simp; omega)]; exact resD_t l d), hbb⟩

end Go.Proofs.YtohoedhaomkafaaDoor
