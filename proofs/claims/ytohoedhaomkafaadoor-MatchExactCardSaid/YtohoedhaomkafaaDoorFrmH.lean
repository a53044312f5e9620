/- Frame: the contract of the document's Right, at flags that may be: errors, Fd. -/
import Derived.Test.YtohoedhaomkafaaDoorFrmG
namespace Go.Proofs.YtohoedhaomkafaaDoor
open Go.RowKit
set_option linter.unusedVariables false

def resA (l : Int) (sz : Nat) : Bool := decide (l = 8) && resD false l sz
def resB (e : Bool) (i l : Int) (sz : Nat) : Bool := (e || decide (i ≤ 2047)) && isLen l && resD false l sz

set_option maxHeartbeats 4000000 in
theorem rright_A (i n l : Int) (d : ByteArray) (w : World) (h0 : 0 ≤ n) (h1 : n ≤ 63) (h2 : 0 ≤ i) (h3 : i ≤ 536870911) (he : Hid (fE n = false)) (hr : Hid (fR n = false)) (hx : Hid (fX n = true)) (hd : Hid (fD n = false))
    (hB : Hid (fB n = false)) (hS : Hid (fS n = false)) :
    Calls Tryd.prog 15 #[.agg #[.int .i64 i, .int .i64 n, .int .i64 l, .string d]] w fun en w' => en = .returned (.bool (resA l d.size)) ∧ Below w.heap.size w w' := by
  have hl := later_cells
  have t1 : decide (n < 0) = false := by simp; omega
  have t2 : decide (63 < n) = false := by simp; omega
  have t3 : decide (i < 0) = false := by simp; omega
  have t4 : decide (536870911 < i) = false := by simp; omega
  go_enter Tryd.func15, Tryd.ntmps15
  go_wp2_with fail
  refine wp_region_later (by kernel_rfl) (by kernel_rfl) ?_
  repeat (go_big_quiet_step (fail))
  go_big_quiet_step (exact Later.call (has4 hx.out h0 h1 _ _ _ _))
  repeat (go_big_quiet_step (fail))
  go_big_quiet_step (exact Later.call (has8 hd.out h0 h1 _ _ _ _))
  repeat (go_big_quiet_step (fail))
  go_big_quiet_step (exact Later.call (has2 hr.out h0 h1 _ _ _ _))
  repeat (go_big_quiet_step (fail))
  go_big_quiet_step (exact Later.call (has1 he.out h0 h1 _ _ _ _))
  repeat (go_big_quiet_step (fail))
  refine wpQuiet_nil ?_
  rintro w1 ⟨m, rfl⟩
  have hz : w.heap.size < m.w.heap.size := by have := m.h.size; simp at this; omega
  have hbm : Below w.heap.size w m.w := fbelow_a _ m.h
  go_wp2_with fail
  refine (has16 hB.out h0 h1 _ _ _ _).mono ?_
  rintro e2 w2 ⟨rfl, hb2⟩
  obtain ⟨hc2, hf2⟩ := fbcell hb2
  have hz2 : w.heap.size < w2.heap.size := Nat.lt_of_lt_of_le hz hb2.size
  go_wp2_with fail
  refine (has32 hS.out h0 h1 _ _ _ _).mono ?_
  rintro e3 w3 ⟨rfl, hb3⟩
  obtain ⟨hc3, hf3⟩ := fbcell hb3
  have hz3 : w.heap.size < w3.heap.size := Nat.lt_of_lt_of_le hz2 hb3.size
  have hbb : Below w.heap.size w w3 := fbelow_t (fbelow_t hbm hb2) hb3
  have hfin : ∀ q : Bool, q = decide (l = 8) → resA l d.size = (q && resD false l d.size) := fun q hq => by rw [hq]; rfl
  have Hfin := Lib.hid hfin
  clear hfin
  by_cases hi : 2047 < i
  all_goals
    try (have t5 : decide (2047 < i) = false := by simp; omega)
    by_cases l0 : l < 0
    · go_wp2
      go_ret
      exact ⟨fret_bool (by rw [Hfin.out false (by simp; omega)]; rfl), hbb⟩
    have t6 : decide (l < 0) = false := by simp; omega
    by_cases l1 : 64 < l
    · go_wp2
      go_ret
      exact ⟨fret_bool (by rw [Hfin.out false (by simp; omega)]; rfl), hbb⟩
    have t7 : decide (64 < l) = false := by simp; omega
    by_cases l2 : 8 < l
    · go_wp2
      go_ret
      exact ⟨fret_bool (by rw [Hfin.out false (by simp; omega)]; rfl), hbb⟩
    have t8 : decide (8 < l) = false := by simp; omega
    by_cases l3 : l = 8
    · have t9 : (l != 8) = false := by simpa using l3
      have L3 := Lib.hid l3
      clear l3
      go_wp2
      go_ret
      exact ⟨fret_bool (by rw [Hfin.out true (by simpa using L3.out)]; exact resD_f l d), hbb⟩
    · have t9 : (l != 8) = true := by simpa using l3
      go_wp2
      go_ret
      exact ⟨fret_bool (by rw [Hfin.out false (by simpa using l3)]; rfl), hbb⟩

theorem isLen_lo {l : Int} (h : l < 0) : isLen l = false := by
  unfold isLen codeN; simp; repeat (rw [if_neg (by omega)])
  decide
theorem isLen_hi {l : Int} (h : 64 < l) : isLen l = false := by
  unfold isLen codeN; simp; repeat (rw [if_neg (by omega)])
  decide

set_option maxHeartbeats 4000000 in
theorem rright_Bt (i n l : Int) (d : ByteArray) (w : World) (h0 : 0 ≤ n) (h1 : n ≤ 63) (h2 : 0 ≤ i) (h3 : i ≤ 536870911) (e s : Bool) (he : Hid (fE n = e)) (hr : Hid (fR n = false)) (hx : Hid (fX n = false)) (hd : Hid (fD n = true))
    (hB : Hid (fB n = true)) (hS : Hid (fS n = s)) :
    Calls Tryd.prog 15 #[.agg #[.int .i64 i, .int .i64 n, .int .i64 l, .string d]] w fun en w' => en = .returned (.bool (resB e i l d.size)) ∧ Below w.heap.size w w' := by
  have hl := later_cells
  have t1 : decide (n < 0) = false := by simp; omega
  have t2 : decide (63 < n) = false := by simp; omega
  have t3 : decide (i < 0) = false := by simp; omega
  have t4 : decide (536870911 < i) = false := by simp; omega
  go_enter Tryd.func15, Tryd.ntmps15
  go_wp2_with fail
  refine wp_region_later (by kernel_rfl) (by kernel_rfl) ?_
  repeat (go_big_quiet_step (fail))
  go_big_quiet_step (exact Later.call (has4 hx.out h0 h1 _ _ _ _))
  repeat (go_big_quiet_step (fail))
  go_big_quiet_step (exact Later.call (has8 hd.out h0 h1 _ _ _ _))
  repeat (go_big_quiet_step (fail))
  go_big_quiet_step (exact Later.call (has2 hr.out h0 h1 _ _ _ _))
  repeat (go_big_quiet_step (fail))
  go_big_quiet_step (exact Later.call (has1 he.out h0 h1 _ _ _ _))
  repeat (go_big_quiet_step (fail))
  refine wpQuiet_nil ?_
  rintro w1 ⟨m, rfl⟩
  have hz : w.heap.size < m.w.heap.size := by have := m.h.size; simp at this; omega
  have hbm : Below w.heap.size w m.w := fbelow_a _ m.h
  go_wp2_with fail
  refine (has16 hB.out h0 h1 _ _ _ _).mono ?_
  rintro e2 w2 ⟨rfl, hb2⟩
  obtain ⟨hc2, hf2⟩ := fbcell hb2
  have hz2 : w.heap.size < w2.heap.size := Nat.lt_of_lt_of_le hz hb2.size
  have hz3 := hz2
  have hbb : Below w.heap.size w w2 := fbelow_t hbm hb2
  have hfin : ∀ q : Bool, q = (e || decide (i ≤ 2047)) → ∀ p : Bool, p = isLen l → resB e i l d.size = (q && p && resD false l d.size) := fun q hq p hp => by rw [hq, hp]; rfl
  have Hfin := Lib.hid hfin
  clear hfin
  cases e
  · by_cases hi : 2047 < i
    · go_wp2
      go_ret
      exact ⟨fret_bool (by rw [Hfin.out false (by simp; omega) _ rfl]; rfl), hbb⟩
    · have t5 : decide (2047 < i) = false := by simp; omega
      have hq : true = (false || decide (i ≤ 2047)) := by simp; omega
      have HQ := Lib.hid hq
      clear hq
      by_cases l0 : l < 0
      · go_wp2
        go_ret
        exact ⟨fret_bool (by rw [Hfin.out _ rfl false (isLen_lo l0).symm]; simp), hbb⟩
      have t6 : decide (l < 0) = false := by simp; omega
      by_cases l1 : 64 < l
      · go_wp2
        go_ret
        exact ⟨fret_bool (by rw [Hfin.out _ rfl false (isLen_hi l1).symm]; simp), hbb⟩
      have t7 : decide (64 < l) = false := by simp; omega
      cases hL : isLen l
      · have HL := Lib.hid hL
        have t9 : decide (codeN l < 0) = true := by unfold isLen at hL; simp at hL; simp; omega
        have t9' : codeN l < 0 := by simpa using t9
        clear hL
        go_wp2_with fail
        refine (rcode_any l _).mono ?_
        rintro e4 w4 ⟨rfl, hb4⟩
        obtain ⟨hc4, hf4⟩ := fbcell hb4
        go_wp2
        go_ret
        exact ⟨fret_bool (by rw [Hfin.out _ rfl false HL.out.symm]; simp), fbelow_t hbb hb4⟩
      · have HL := Lib.hid hL
        have t9 : decide (codeN l < 0) = false := by unfold isLen at hL; simp at hL; simp; omega
        have t9' : ¬ codeN l < 0 := by simpa using t9
        clear hL
        go_wp2_with fail
        refine (rcode_any l _).mono ?_
        rintro e4 w4 ⟨rfl, hb4⟩
        obtain ⟨hc4, hf4⟩ := fbcell hb4
        go_wp2
        go_ret
        exact ⟨fret_bool (by rw [Hfin.out true HQ.out true HL.out.symm]; exact resD_f l d), fbelow_t hbb hb4⟩
  · have hq : true = (true || decide (i ≤ 2047)) := rfl
    by_cases hi : 2047 < i
    all_goals
      try (have t5 : decide (2047 < i) = false := by simp; omega)
      have HQ := Lib.hid hq
      clear hq
      by_cases l0 : l < 0
      · go_wp2
        go_ret
        exact ⟨fret_bool (by rw [Hfin.out _ rfl false (isLen_lo l0).symm]; simp), hbb⟩
      have t6 : decide (l < 0) = false := by simp; omega
      by_cases l1 : 64 < l
      · go_wp2
        go_ret
        exact ⟨fret_bool (by rw [Hfin.out _ rfl false (isLen_hi l1).symm]; simp), hbb⟩
      have t7 : decide (64 < l) = false := by simp; omega
      cases hL : isLen l
      · have HL := Lib.hid hL
        have t9 : decide (codeN l < 0) = true := by unfold isLen at hL; simp at hL; simp; omega
        have t9' : codeN l < 0 := by simpa using t9
        clear hL
        go_wp2_with fail
        refine (rcode_any l _).mono ?_
        rintro e4 w4 ⟨rfl, hb4⟩
        obtain ⟨hc4, hf4⟩ := fbcell hb4
        go_wp2
        go_ret
        exact ⟨fret_bool (by rw [Hfin.out _ rfl false HL.out.symm]; simp), fbelow_t hbb hb4⟩
      · have HL := Lib.hid hL
        have t9 : decide (codeN l < 0) = false := by unfold isLen at hL; simp at hL; simp; omega
        have t9' : ¬ codeN l < 0 := by simpa using t9
        clear hL
        go_wp2_with fail
        refine (rcode_any l _).mono ?_
        rintro e4 w4 ⟨rfl, hb4⟩
        obtain ⟨hc4, hf4⟩ := fbcell hb4
        go_wp2
        go_ret
        exact ⟨fret_bool (by rw [Hfin.out true HQ.out true HL.out.symm]; exact resD_f l d), fbelow_t hbb hb4⟩

set_option maxHeartbeats 4000000 in
theorem rright_Bft (i n l : Int) (d : ByteArray) (w : World) (h0 : 0 ≤ n) (h1 : n ≤ 63) (h2 : 0 ≤ i) (h3 : i ≤ 536870911) (e : Bool) (he : Hid (fE n = e)) (hr : Hid (fR n = false)) (hx : Hid (fX n = false)) (hd : Hid (fD n = true))
    (hB : Hid (fB n = false)) (hS : Hid (fS n = true)) :
    Calls Tryd.prog 15 #[.agg #[.int .i64 i, .int .i64 n, .int .i64 l, .string d]] w fun en w' => en = .returned (.bool (resB e i l d.size)) ∧ Below w.heap.size w w' := by
  have hl := later_cells
  have t1 : decide (n < 0) = false := by simp; omega
  have t2 : decide (63 < n) = false := by simp; omega
  have t3 : decide (i < 0) = false := by simp; omega
  have t4 : decide (536870911 < i) = false := by simp; omega
  go_enter Tryd.func15, Tryd.ntmps15
  go_wp2_with fail
  refine wp_region_later (by kernel_rfl) (by kernel_rfl) ?_
  repeat (go_big_quiet_step (fail))
  go_big_quiet_step (exact Later.call (has4 hx.out h0 h1 _ _ _ _))
  repeat (go_big_quiet_step (fail))
  go_big_quiet_step (exact Later.call (has8 hd.out h0 h1 _ _ _ _))
  repeat (go_big_quiet_step (fail))
  go_big_quiet_step (exact Later.call (has2 hr.out h0 h1 _ _ _ _))
  repeat (go_big_quiet_step (fail))
  go_big_quiet_step (exact Later.call (has1 he.out h0 h1 _ _ _ _))
  repeat (go_big_quiet_step (fail))
  refine wpQuiet_nil ?_
  rintro w1 ⟨m, rfl⟩
  have hz : w.heap.size < m.w.heap.size := by have := m.h.size; simp at this; omega
  have hbm : Below w.heap.size w m.w := fbelow_a _ m.h
  go_wp2_with fail
  refine (has16 hB.out h0 h1 _ _ _ _).mono ?_
  rintro e2 w2 ⟨rfl, hb2⟩
  obtain ⟨hc2, hf2⟩ := fbcell hb2
  have hz2 : w.heap.size < w2.heap.size := Nat.lt_of_lt_of_le hz hb2.size
  go_wp2_with fail
  refine (has32 hS.out h0 h1 _ _ _ _).mono ?_
  rintro e3 w3 ⟨rfl, hb3⟩
  obtain ⟨hc3, hf3⟩ := fbcell hb3
  have hz3 : w.heap.size < w3.heap.size := Nat.lt_of_lt_of_le hz2 hb3.size
  have hbb : Below w.heap.size w w3 := fbelow_t (fbelow_t hbm hb2) hb3
  have hfin : ∀ q : Bool, q = (e || decide (i ≤ 2047)) → ∀ p : Bool, p = isLen l → resB e i l d.size = (q && p && resD false l d.size) := fun q hq p hp => by rw [hq, hp]; rfl
  have Hfin := Lib.hid hfin
  clear hfin
  cases e
  · by_cases hi : 2047 < i
    · go_wp2
      go_ret
      exact ⟨fret_bool (by rw [Hfin.out false (by simp; omega) _ rfl]; rfl), hbb⟩
    · have t5 : decide (2047 < i) = false := by simp; omega
      have hq : true = (false || decide (i ≤ 2047)) := by simp; omega
      have HQ := Lib.hid hq
      clear hq
      by_cases l0 : l < 0
      · go_wp2
        go_ret
        exact ⟨fret_bool (by rw [Hfin.out _ rfl false (isLen_lo l0).symm]; simp), hbb⟩
      have t6 : decide (l < 0) = false := by simp; omega
      by_cases l1 : 64 < l
      · go_wp2
        go_ret
        exact ⟨fret_bool (by rw [Hfin.out _ rfl false (isLen_hi l1).symm]; simp), hbb⟩
      have t7 : decide (64 < l) = false := by simp; omega
      cases hL : isLen l
      · have HL := Lib.hid hL
        have t9 : decide (codeN l < 0) = true := by unfold isLen at hL; simp at hL; simp; omega
        have t9' : codeN l < 0 := by simpa using t9
        clear hL
        go_wp2_with fail
        refine (rcode_any l _).mono ?_
        rintro e4 w4 ⟨rfl, hb4⟩
        obtain ⟨hc4, hf4⟩ := fbcell hb4
        go_wp2
        go_ret
        exact ⟨fret_bool (by rw [Hfin.out _ rfl false HL.out.symm]; simp), fbelow_t hbb hb4⟩
      · have HL := Lib.hid hL
        have t9 : decide (codeN l < 0) = false := by unfold isLen at hL; simp at hL; simp; omega
        have t9' : ¬ codeN l < 0 := by simpa using t9
        clear hL
        go_wp2_with fail
        refine (rcode_any l _).mono ?_
        rintro e4 w4 ⟨rfl, hb4⟩
        obtain ⟨hc4, hf4⟩ := fbcell hb4
        go_wp2
        go_ret
        exact ⟨fret_bool (by rw [Hfin.out true HQ.out true HL.out.symm]; exact resD_f l d), fbelow_t hbb hb4⟩
  · have hq : true = (true || decide (i ≤ 2047)) := rfl
    by_cases hi : 2047 < i
    all_goals
      try (have t5 : decide (2047 < i) = false := by simp; omega)
      have HQ := Lib.hid hq
      clear hq
      by_cases l0 : l < 0
      · go_wp2
        go_ret
        exact ⟨fret_bool (by rw [Hfin.out _ rfl false (isLen_lo l0).symm]; simp), hbb⟩
      have t6 : decide (l < 0) = false := by simp; omega
      by_cases l1 : 64 < l
      · go_wp2
        go_ret
        exact ⟨fret_bool (by rw [Hfin.out _ rfl false (isLen_hi l1).symm]; simp), hbb⟩
      have t7 : decide (64 < l) = false := by simp; omega
      cases hL : isLen l
      · have HL := Lib.hid hL
        have t9 : decide (codeN l < 0) = true := by unfold isLen at hL; simp at hL; simp; omega
        have t9' : codeN l < 0 := by simpa using t9
        clear hL
        go_wp2_with fail
        refine (rcode_any l _).mono ?_
        rintro e4 w4 ⟨rfl, hb4⟩
        obtain ⟨hc4, hf4⟩ := fbcell hb4
        go_wp2
        go_ret
        exact ⟨fret_bool (by rw [Hfin.out _ rfl false HL.out.symm]; simp), fbelow_t hbb hb4⟩
      · have HL := Lib.hid hL
        have t9 : decide (codeN l < 0) = false := by unfold isLen at hL; simp at hL; simp; omega
        have t9' : ¬ codeN l < 0 := by simpa using t9
        clear hL
        go_wp2_with fail
        refine (rcode_any l _).mono ?_
        rintro e4 w4 ⟨rfl, hb4⟩
        obtain ⟨hc4, hf4⟩ := fbcell hb4
        go_wp2
        go_ret
        exact ⟨fret_bool (by rw [Hfin.out true HQ.out true HL.out.symm]; exact resD_f l d), fbelow_t hbb hb4⟩

set_option maxHeartbeats 4000000 in
theorem rright_Bff (i n l : Int) (d : ByteArray) (w : World) (h0 : 0 ≤ n) (h1 : n ≤ 63) (h2 : 0 ≤ i) (h3 : i ≤ 536870911) (e : Bool) (he : Hid (fE n = e)) (hr : Hid (fR n = false)) (hx : Hid (fX n = false)) (hd : Hid (fD n = true))
    (hB : Hid (fB n = false)) (hS : Hid (fS n = false)) :
    Calls Tryd.prog 15 #[.agg #[.int .i64 i, .int .i64 n, .int .i64 l, .string d]] w fun en w' => en = .returned (.bool (resB e i l d.size)) ∧ Below w.heap.size w w' := by
  have hl := later_cells
  have t1 : decide (n < 0) = false := by simp; omega
  have t2 : decide (63 < n) = false := by simp; omega
  have t3 : decide (i < 0) = false := by simp; omega
  have t4 : decide (536870911 < i) = false := by simp; omega
  go_enter Tryd.func15, Tryd.ntmps15
  go_wp2_with fail
  refine wp_region_later (by kernel_rfl) (by kernel_rfl) ?_
  repeat (go_big_quiet_step (fail))
  go_big_quiet_step (exact Later.call (has4 hx.out h0 h1 _ _ _ _))
  repeat (go_big_quiet_step (fail))
  go_big_quiet_step (exact Later.call (has8 hd.out h0 h1 _ _ _ _))
  repeat (go_big_quiet_step (fail))
  go_big_quiet_step (exact Later.call (has2 hr.out h0 h1 _ _ _ _))
  repeat (go_big_quiet_step (fail))
  go_big_quiet_step (exact Later.call (has1 he.out h0 h1 _ _ _ _))
  repeat (go_big_quiet_step (fail))
  refine wpQuiet_nil ?_
  rintro w1 ⟨m, rfl⟩
  have hz : w.heap.size < m.w.heap.size := by have := m.h.size; simp at this; omega
  have hbm : Below w.heap.size w m.w := fbelow_a _ m.h
  go_wp2_with fail
  refine (has16 hB.out h0 h1 _ _ _ _).mono ?_
  rintro e2 w2 ⟨rfl, hb2⟩
  obtain ⟨hc2, hf2⟩ := fbcell hb2
  have hz2 : w.heap.size < w2.heap.size := Nat.lt_of_lt_of_le hz hb2.size
  go_wp2_with fail
  refine (has32 hS.out h0 h1 _ _ _ _).mono ?_
  rintro e3 w3 ⟨rfl, hb3⟩
  obtain ⟨hc3, hf3⟩ := fbcell hb3
  have hz3 : w.heap.size < w3.heap.size := Nat.lt_of_lt_of_le hz2 hb3.size
  have hbb : Below w.heap.size w w3 := fbelow_t (fbelow_t hbm hb2) hb3
  have hfin : ∀ q : Bool, q = (e || decide (i ≤ 2047)) → ∀ p : Bool, p = isLen l → resB e i l d.size = (q && p && resD false l d.size) := fun q hq p hp => by rw [hq, hp]; rfl
  have Hfin := Lib.hid hfin
  clear hfin
  cases e
  · by_cases hi : 2047 < i
    · go_wp2
      go_ret
      exact ⟨fret_bool (by rw [Hfin.out false (by simp; omega) _ rfl]; rfl), hbb⟩
    · have t5 : decide (2047 < i) = false := by simp; omega
      have hq : true = (false || decide (i ≤ 2047)) := by simp; omega
      have HQ := Lib.hid hq
      clear hq
      by_cases l0 : l < 0
      · go_wp2
        go_ret
        exact ⟨fret_bool (by rw [Hfin.out _ rfl false (isLen_lo l0).symm]; simp), hbb⟩
      have t6 : decide (l < 0) = false := by simp; omega
      by_cases l1 : 64 < l
      · go_wp2
        go_ret
        exact ⟨fret_bool (by rw [Hfin.out _ rfl false (isLen_hi l1).symm]; simp), hbb⟩
      have t7 : decide (64 < l) = false := by simp; omega
      cases hL : isLen l
      · have HL := Lib.hid hL
        have t9 : decide (codeN l < 0) = true := by unfold isLen at hL; simp at hL; simp; omega
        have t9' : codeN l < 0 := by simpa using t9
        clear hL
        go_wp2_with fail
        refine (rcode_any l _).mono ?_
        rintro e4 w4 ⟨rfl, hb4⟩
        obtain ⟨hc4, hf4⟩ := fbcell hb4
        go_wp2
        go_ret
        exact ⟨fret_bool (by rw [Hfin.out _ rfl false HL.out.symm]; simp), fbelow_t hbb hb4⟩
      · have HL := Lib.hid hL
        have t9 : decide (codeN l < 0) = false := by unfold isLen at hL; simp at hL; simp; omega
        have t9' : ¬ codeN l < 0 := by simpa using t9
        clear hL
        go_wp2_with fail
        refine (rcode_any l _).mono ?_
        rintro e4 w4 ⟨rfl, hb4⟩
        obtain ⟨hc4, hf4⟩ := fbcell hb4
        go_wp2
        go_ret
        exact ⟨fret_bool (by rw [Hfin.out true HQ.out true HL.out.symm]; exact resD_f l d), fbelow_t hbb hb4⟩
  · have hq : true = (true || decide (i ≤ 2047)) := rfl
    by_cases hi : 2047 < i
    all_goals
      try (have t5 : decide (2047 < i) = false := by simp; omega)
      have HQ := Lib.hid hq
      clear hq
      by_cases l0 : l < 0
      · go_wp2
        go_ret
        exact ⟨fret_bool (by rw [Hfin.out _ rfl false (isLen_lo l0).symm]; simp), hbb⟩
      have t6 : decide (l < 0) = false := by simp; omega
      by_cases l1 : 64 < l
      · go_wp2
        go_ret
        exact ⟨fret_bool (by rw [Hfin.out _ rfl false (isLen_hi l1).symm]; simp), hbb⟩
      have t7 : decide (64 < l) = false := by simp; omega
      cases hL : isLen l
      · have HL := Lib.hid hL
        have t9 : decide (codeN l < 0) = true := by unfold isLen at hL; simp at hL; simp; omega
        have t9' : codeN l < 0 := by simpa using t9
        clear hL
        go_wp2_with fail
        refine (rcode_any l _).mono ?_
        rintro e4 w4 ⟨rfl, hb4⟩
        obtain ⟨hc4, hf4⟩ := fbcell hb4
        go_wp2
        go_ret
        exact ⟨fret_bool (by rw [Hfin.out _ rfl false HL.out.symm]; simp), fbelow_t hbb hb4⟩
      · have HL := Lib.hid hL
        have t9 : decide (codeN l < 0) = false := by unfold isLen at hL; simp at hL; simp; omega
        have t9' : ¬ codeN l < 0 := by simpa using t9
        clear hL
        go_wp2_with fail
        refine (rcode_any l _).mono ?_
        rintro e4 w4 ⟨rfl, hb4⟩
        obtain ⟨hc4, hf4⟩ := fbcell hb4
        go_wp2
        go_ret
        exact ⟨fret_bool (by rw [Hfin.out true HQ.out true HL.out.symm]; exact resD_f l d), fbelow_t hbb hb4⟩

end Go.Proofs.YtohoedhaomkafaaDoor
