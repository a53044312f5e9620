/- Frame: the contract of the document's Right, at flags that may be: errors, Fd. Frame: the document's Right whole; Right in two words; ors of numbers. Frame: contracts of Word, and of the document's Word. Of no program: bytes of texts one by one; a frame's datum. (Parted from XWirM, so that dump has it without wire.) Of no program: texts as lists of bytes. (Parted from XDmpM, so that every layer has it.) -/
import Derived.Test.YtghmidpbfpfcoaaDoorZab
import Derived.Test.YtghmidpbfpfcoaaDoorZaa
namespace Go.Proofs.YtghmidpbfpfcoaaDoor
open Go.RowKit
set_option linter.unusedVariables false

def resA (l : Int) (sz : Nat) : Bool := decide (l = 8) && resD false l sz
def resB (e : Bool) (i l : Int) (sz : Nat) : Bool := (e || decide (i ≤ 2047)) && isLen l && resD false l sz

set_option maxHeartbeats 4000000 in
theorem rright_A (i n l : Int) (d : ByteArray) (w : World) (h0 : 0 ≤ n) (h1 : n ≤ 63) (h2 : 0 ≤ i) (h3 : i ≤ 536870911) (he : Hid (fE n = false)) (hr : Hid (fR n = false)) (hx : Hid (fX n = true)) (hd : Hid (fD n = false))
    (hB : Hid (fB n = false)) (hS : Hid (fS n = false)) :
    Calls Tryd.prog 31 #[.agg #[.int .i64 i, .int .i64 n, .int .i64 l, .string d]] w fun en w' => en = .returned (.bool (resA l d.size)) ∧ Below w.heap.size w w' := by
  have hl := later_cells
  have t1 : decide (n < 0) = false := by simp; omega
  have t2 : decide (63 < n) = false := by simp; omega
  have t3 : decide (i < 0) = false := by simp; omega
  have t4 : decide (536870911 < i) = false := by simp; omega
  go_enter Tryd.func31, Tryd.ntmps31
  go_wp2_with fail
  refine wp_region_later (by kernel_rfl) (by kernel_rfl) ?_
  repeat (go_big_quiet_step (fail))
  go_big_quiet_step (exact Later.call (has4 hx.out h0 h1 _ _ _ _))
  repeat (go_big_quiet_step (fail))
  go_big_quiet_step (exact Later.call (has8 hd.out h0 h1 _ _ _ _))
  repeat (go_big_quiet_step (fail))
  go_big_quiet_step (exact Later.call (has2 hr.out h0 h1 _ _ _ _))
  repeat (go_big_quiet_step (fail))
  go_big_quiet_step (exact Later.call (has1 he.out h0 h1 _ _ _ _))
  repeat (go_big_quiet_step (fail))
  refine wpQuiet_nil ?_
  rintro w1 ⟨m, rfl⟩
  have hz : w.heap.size < m.w.heap.size := by have := m.h.size; simp at this; omega
  have hbm : Below w.heap.size w m.w := fbelow_a _ m.h
  go_wp2_with fail
  refine (has16 hB.out h0 h1 _ _ _ _).mono ?_
  rintro e2 w2 ⟨rfl, hb2⟩
  obtain ⟨hc2, hf2⟩ := fbcell hb2
  have hz2 : w.heap.size < w2.heap.size := Nat.lt_of_lt_of_le hz hb2.size
  go_wp2_with fail
  refine (has32 hS.out h0 h1 _ _ _ _).mono ?_
  rintro e3 w3 ⟨rfl, hb3⟩
  obtain ⟨hc3, hf3⟩ := fbcell hb3
  have hz3 : w.heap.size < w3.heap.size := Nat.lt_of_lt_of_le hz2 hb3.size
  have hbb : Below w.heap.size w w3 := fbelow_t (fbelow_t hbm hb2) hb3
  have hfin : ∀ q : Bool, q = decide (l = 8) → resA l d.size = (q && resD false l d.size) := fun q hq => by rw [hq]; rfl
  have Hfin := Lib.hid hfin
  clear hfin
  by_cases hi : 2047 < i
  all_goals
    try (have t5 : decide (2047 < i) = false := by simp; omega)
    by_cases l0 : l < 0
    · go_wp2
      go_ret
      exact ⟨fret_bool (by rw [Hfin.out false (by simp; omega)]; rfl), hbb⟩
    have t6 : decide (l < 0) = false := by simp; omega
    by_cases l1 : 64 < l
    · go_wp2
      go_ret
      exact ⟨fret_bool (by rw [Hfin.out false (by simp; omega)]; rfl), hbb⟩
    have t7 : decide (64 < l) = false := by simp; omega
    by_cases l2 : 8 < l
    · go_wp2
      go_ret
      exact ⟨fret_bool (by rw [Hfin.out false (by simp; omega)]; rfl), hbb⟩
    have t8 : decide (8 < l) = false := by simp; omega
    by_cases l3 : l = 8
    · have t9 : (l != 8) = false := by simpa using l3
      have L3 := Lib.hid l3
      clear l3
      go_wp2
      go_ret
      exact ⟨fret_bool (by rw [Hfin.out true (by simpa using L3.out)]; exact resD_f l d), hbb⟩
    · have t9 : (l != 8) = true := by simpa using l3
      go_wp2
      go_ret
      exact ⟨fret_bool (by rw [Hfin.out false (by simpa using l3)]; rfl), hbb⟩

theorem isLen_lo {l : Int} (h : l < 0) : isLen l = false := by
  unfold isLen codeN; simp; repeat (rw [if_neg (by omega)])
  decide
theorem isLen_hi {l : Int} (h : 64 < l) : isLen l = false := by
  unfold isLen codeN; simp; repeat (rw [if_neg (by omega)])
  decide

set_option maxHeartbeats 4000000 in
theorem rright_Bt (i n l : Int) (d : ByteArray) (w : World) (h0 : 0 ≤ n) (h1 : n ≤ 63) (h2 : 0 ≤ i) (h3 : i ≤ 536870911) (e s : Bool) (he : Hid (fE n = e)) (hr : Hid (fR n = false)) (hx : Hid (fX n = false)) (hd : Hid (fD n = true))
    (hB : Hid (fB n = true)) (hS : Hid (fS n = s)) :
    Calls Tryd.prog 31 #[.agg #[.int .i64 i, .int .i64 n, .int .i64 l, .string d]] w fun en w' => en = .returned (.bool (resB e i l d.size)) ∧ Below w.heap.size w w' := by
  have hl := later_cells
  have t1 : decide (n < 0) = false := by simp; omega
  have t2 : decide (63 < n) = false := by simp; omega
  have t3 : decide (i < 0) = false := by simp; omega
  have t4 : decide (536870911 < i) = false := by simp; omega
  go_enter Tryd.func31, Tryd.ntmps31
  go_wp2_with fail
  refine wp_region_later (by kernel_rfl) (by kernel_rfl) ?_
  repeat (go_big_quiet_step (fail))
  go_big_quiet_step (exact Later.call (has4 hx.out h0 h1 _ _ _ _))
  repeat (go_big_quiet_step (fail))
  go_big_quiet_step (exact Later.call (has8 hd.out h0 h1 _ _ _ _))
  repeat (go_big_quiet_step (fail))
  go_big_quiet_step (exact Later.call (has2 hr.out h0 h1 _ _ _ _))
  repeat (go_big_quiet_step (fail))
  go_big_quiet_step (exact Later.call (has1 he.out h0 h1 _ _ _ _))
  repeat (go_big_quiet_step (fail))
  refine wpQuiet_nil ?_
  rintro w1 ⟨m, rfl⟩
  have hz : w.heap.size < m.w.heap.size := by have := m.h.size; simp at this; omega
  have hbm : Below w.heap.size w m.w := fbelow_a _ m.h
  go_wp2_with fail
  refine (has16 hB.out h0 h1 _ _ _ _).mono ?_
  rintro e2 w2 ⟨rfl, hb2⟩
  obtain ⟨hc2, hf2⟩ := fbcell hb2
  have hz2 : w.heap.size < w2.heap.size := Nat.lt_of_lt_of_le hz hb2.size
  have hz3 := hz2
  have hbb : Below w.heap.size w w2 := fbelow_t hbm hb2
  have hfin : ∀ q : Bool, q = (e || decide (i ≤ 2047)) → ∀ p : Bool, p = isLen l → resB e i l d.size = (q && p && resD false l d.size) := fun q hq p hp => by rw [hq, hp]; rfl
  have Hfin := Lib.hid hfin
  clear hfin
  cases e
  · by_cases hi : 2047 < i
    · go_wp2
      go_ret
      exact ⟨fret_bool (by rw [Hfin.out false (by simp; omega) _ rfl]; rfl), hbb⟩
    · have t5 : decide (2047 < i) = false := by simp; omega
      have hq : true = (false || decide (i ≤ 2047)) := by simp; omega
      have HQ := Lib.hid hq
      clear hq
      by_cases l0 : l < 0
      · go_wp2
        go_ret
        exact ⟨fret_bool (by rw [Hfin.out _ rfl false (isLen_lo l0).symm]; simp), hbb⟩
      have t6 : decide (l < 0) = false := by simp; omega
      by_cases l1 : 64 < l
      · go_wp2
        go_ret
        exact ⟨fret_bool (by rw [Hfin.out _ rfl false (isLen_hi l1).symm]; simp), hbb⟩
      have t7 : decide (64 < l) = false := by simp; omega
      cases hL : isLen l
      · have HL := Lib.hid hL
        have t9 : decide (codeN l < 0) = true := by unfold isLen at hL; simp at hL; simp; omega
        have t9' : codeN l < 0 := by simpa using t9
        clear hL
        go_wp2_with fail
        refine (rcode_any l _).mono ?_
        rintro e4 w4 ⟨rfl, hb4⟩
        obtain ⟨hc4, hf4⟩ := fbcell hb4
        go_wp2
        go_ret
        exact ⟨fret_bool (by rw [Hfin.out _ rfl false HL.out.symm]; simp), fbelow_t hbb hb4⟩
      · have HL := Lib.hid hL
        have t9 : decide (codeN l < 0) = false := by unfold isLen at hL; simp at hL; simp; omega
        have t9' : ¬ codeN l < 0 := by simpa using t9
        clear hL
        go_wp2_with fail
        refine (rcode_any l _).mono ?_
        rintro e4 w4 ⟨rfl, hb4⟩
        obtain ⟨hc4, hf4⟩ := fbcell hb4
        go_wp2
        go_ret
        exact ⟨fret_bool (by rw [Hfin.out true HQ.out true HL.out.symm]; exact resD_f l d), fbelow_t hbb hb4⟩
  · have hq : true = (true || decide (i ≤ 2047)) := rfl
    by_cases hi : 2047 < i
    all_goals
      try (have t5 : decide (2047 < i) = false := by simp; omega)
      have HQ := Lib.hid hq
      clear hq
      by_cases l0 : l < 0
      · go_wp2
        go_ret
        exact ⟨fret_bool (by rw [Hfin.out _ rfl false (isLen_lo l0).symm]; simp), hbb⟩
      have t6 : decide (l < 0) = false := by simp; omega
      by_cases l1 : 64 < l
      · go_wp2
        go_ret
        exact ⟨fret_bool (by rw [Hfin.out _ rfl false (isLen_hi l1).symm]; simp), hbb⟩
      have t7 : decide (64 < l) = false := by simp; omega
      cases hL : isLen l
      · have HL := Lib.hid hL
        have t9 : decide (codeN l < 0) = true := by unfold isLen at hL; simp at hL; simp; omega
        have t9' : codeN l < 0 := by simpa using t9
        clear hL
        go_wp2_with fail
        refine (rcode_any l _).mono ?_
        rintro e4 w4 ⟨rfl, hb4⟩
        obtain ⟨hc4, hf4⟩ := fbcell hb4
        go_wp2
        go_ret
        exact ⟨fret_bool (by rw [Hfin.out _ rfl false HL.out.symm]; simp), fbelow_t hbb hb4⟩
      · have HL := Lib.hid hL
        have t9 : decide (codeN l < 0) = false := by unfold isLen at hL; simp at hL; simp; omega
        have t9' : ¬ codeN l < 0 := by simpa using t9
        clear hL
        go_wp2_with fail
        refine (rcode_any l _).mono ?_
        rintro e4 w4 ⟨rfl, hb4⟩
        obtain ⟨hc4, hf4⟩ := fbcell hb4
        go_wp2
        go_ret
        exact ⟨fret_bool (by rw [Hfin.out true HQ.out true HL.out.symm]; exact resD_f l d), fbelow_t hbb hb4⟩

set_option maxHeartbeats 4000000 in
theorem rright_Bft (i n l : Int) (d : ByteArray) (w : World) (h0 : 0 ≤ n) (h1 : n ≤ 63) (h2 : 0 ≤ i) (h3 : i ≤ 536870911) (e : Bool) (he : Hid (fE n = e)) (hr : Hid (fR n = false)) (hx : Hid (fX n = false)) (hd : Hid (fD n = true))
    (hB : Hid (fB n = false)) (hS : Hid (fS n = true)) :
    Calls Tryd.prog 31 #[.agg #[.int .i64 i, .int .i64 n, .int .i64 l, .string d]] w fun en w' => en = .returned (.bool (resB e i l d.size)) ∧ Below w.heap.size w w' := by
  have hl := later_cells
  have t1 : decide (n < 0) = false := by simp; omega
  have t2 : decide (63 < n) = false := by simp; omega
  have t3 : decide (i < 0) = false := by simp; omega
  have t4 : decide (536870911 < i) = false := by simp; omega
  go_enter Tryd.func31, Tryd.ntmps31
  go_wp2_with fail
  refine wp_region_later (by kernel_rfl) (by kernel_rfl) ?_
  repeat (go_big_quiet_step (fail))
  go_big_quiet_step (exact Later.call (has4 hx.out h0 h1 _ _ _ _))
  repeat (go_big_quiet_step (fail))
  go_big_quiet_step (exact Later.call (has8 hd.out h0 h1 _ _ _ _))
  repeat (go_big_quiet_step (fail))
  go_big_quiet_step (exact Later.call (has2 hr.out h0 h1 _ _ _ _))
  repeat (go_big_quiet_step (fail))
  go_big_quiet_step (exact Later.call (has1 he.out h0 h1 _ _ _ _))
  repeat (go_big_quiet_step (fail))
  refine wpQuiet_nil ?_
  rintro w1 ⟨m, rfl⟩
  have hz : w.heap.size < m.w.heap.size := by have := m.h.size; simp at this; omega
  have hbm : Below w.heap.size w m.w := fbelow_a _ m.h
  go_wp2_with fail
  refine (has16 hB.out h0 h1 _ _ _ _).mono ?_
  rintro e2 w2 ⟨rfl, hb2⟩
  obtain ⟨hc2, hf2⟩ := fbcell hb2
  have hz2 : w.heap.size < w2.heap.size := Nat.lt_of_lt_of_le hz hb2.size
  go_wp2_with fail
  refine (has32 hS.out h0 h1 _ _ _ _).mono ?_
  rintro e3 w3 ⟨rfl, hb3⟩
  obtain ⟨hc3, hf3⟩ := fbcell hb3
  have hz3 : w.heap.size < w3.heap.size := Nat.lt_of_lt_of_le hz2 hb3.size
  have hbb : Below w.heap.size w w3 := fbelow_t (fbelow_t hbm hb2) hb3
  have hfin : ∀ q : Bool, q = (e || decide (i ≤ 2047)) → ∀ p : Bool, p = isLen l → resB e i l d.size = (q && p && resD false l d.size) := fun q hq p hp => by rw [hq, hp]; rfl
  have Hfin := Lib.hid hfin
  clear hfin
  cases e
  · by_cases hi : 2047 < i
    · go_wp2
      go_ret
      exact ⟨fret_bool (by rw [Hfin.out false (by simp; omega) _ rfl]; rfl), hbb⟩
    · have t5 : decide (2047 < i) = false := by simp; omega
      have hq : true = (false || decide (i ≤ 2047)) := by simp; omega
      have HQ := Lib.hid hq
      clear hq
      by_cases l0 : l < 0
      · go_wp2
        go_ret
        exact ⟨fret_bool (by rw [Hfin.out _ rfl false (isLen_lo l0).symm]; simp), hbb⟩
      have t6 : decide (l < 0) = false := by simp; omega
      by_cases l1 : 64 < l
      · go_wp2
        go_ret
        exact ⟨fret_bool (by rw [Hfin.out _ rfl false (isLen_hi l1).symm]; simp), hbb⟩
      have t7 : decide (64 < l) = false := by simp; omega
      cases hL : isLen l
      · have HL := Lib.hid hL
        have t9 : decide (codeN l < 0) = true := by unfold isLen at hL; simp at hL; simp; omega
        have t9' : codeN l < 0 := by simpa using t9
        clear hL
        go_wp2_with fail
        refine (rcode_any l _).mono ?_
        rintro e4 w4 ⟨rfl, hb4⟩
        obtain ⟨hc4, hf4⟩ := fbcell hb4
        go_wp2
        go_ret
        exact ⟨fret_bool (by rw [Hfin.out _ rfl false HL.out.symm]; simp), fbelow_t hbb hb4⟩
      · have HL := Lib.hid hL
        have t9 : decide (codeN l < 0) = false := by unfold isLen at hL; simp at hL; simp; omega
        have t9' : ¬ codeN l < 0 := by simpa using t9
        clear hL
        go_wp2_with fail
        refine (rcode_any l _).mono ?_
        rintro e4 w4 ⟨rfl, hb4⟩
        obtain ⟨hc4, hf4⟩ := fbcell hb4
        go_wp2
        go_ret
        exact ⟨fret_bool (by rw [Hfin.out true HQ.out true HL.out.symm]; exact resD_f l d), fbelow_t hbb hb4⟩
  · have hq : true = (true || decide (i ≤ 2047)) := rfl
    by_cases hi : 2047 < i
    all_goals
      try (have t5 : decide (2047 < i) = false := by simp; omega)
      have HQ := Lib.hid hq
      clear hq
      by_cases l0 : l < 0
      · go_wp2
        go_ret
        exact ⟨fret_bool (by rw [Hfin.out _ rfl false (isLen_lo l0).symm]; simp), hbb⟩
      have t6 : decide (l < 0) = false := by simp; omega
      by_cases l1 : 64 < l
      · go_wp2
        go_ret
        exact ⟨fret_bool (by rw [Hfin.out _ rfl false (isLen_hi l1).symm]; simp), hbb⟩
      have t7 : decide (64 < l) = false := by simp; omega
      cases hL : isLen l
      · have HL := Lib.hid hL
        have t9 : decide (codeN l < 0) = true := by unfold isLen at hL; simp at hL; simp; omega
        have t9' : codeN l < 0 := by simpa using t9
        clear hL
        go_wp2_with fail
        refine (rcode_any l _).mono ?_
        rintro e4 w4 ⟨rfl, hb4⟩
        obtain ⟨hc4, hf4⟩ := fbcell hb4
        go_wp2
        go_ret
        exact ⟨fret_bool (by rw [Hfin.out _ rfl false HL.out.symm]; simp), fbelow_t hbb hb4⟩
      · have HL := Lib.hid hL
        have t9 : decide (codeN l < 0) = false := by unfold isLen at hL; simp at hL; simp; omega
        have t9' : ¬ codeN l < 0 := by simpa using t9
        clear hL
        go_wp2_with fail
        refine (rcode_any l _).mono ?_
        rintro e4 w4 ⟨rfl, hb4⟩
        obtain ⟨hc4, hf4⟩ := fbcell hb4
        go_wp2
        go_ret
        exact ⟨fret_bool (by rw [Hfin.out true HQ.out true HL.out.symm]; exact resD_f l d), fbelow_t hbb hb4⟩

set_option maxHeartbeats 4000000 in
theorem rright_Bff (i n l : Int) (d : ByteArray) (w : World) (h0 : 0 ≤ n) (h1 : n ≤ 63) (h2 : 0 ≤ i) (h3 : i ≤ 536870911) (e : Bool) (he : Hid (fE n = e)) (hr : Hid (fR n = false)) (hx : Hid (fX n = false)) (hd : Hid (fD n = true))
    (hB : Hid (fB n = false)) (hS : Hid (fS n = false)) :
    Calls Tryd.prog 31 #[.agg #[.int .i64 i, .int .i64 n, .int .i64 l, .string d]] w fun en w' => en = .returned (.bool (resB e i l d.size)) ∧ Below w.heap.size w w' := by
  have hl := later_cells
  have t1 : decide (n < 0) = false := by simp; omega
  have t2 : decide (63 < n) = false := by simp; omega
  have t3 : decide (i < 0) = false := by simp; omega
  have t4 : decide (536870911 < i) = false := by simp; omega
  go_enter Tryd.func31, Tryd.ntmps31
  go_wp2_with fail
  refine wp_region_later (by kernel_rfl) (by kernel_rfl) ?_
  repeat (go_big_quiet_step (fail))
  go_big_quiet_step (exact Later.call (has4 hx.out h0 h1 _ _ _ _))
  repeat (go_big_quiet_step (fail))
  go_big_quiet_step (exact Later.call (has8 hd.out h0 h1 _ _ _ _))
  repeat (go_big_quiet_step (fail))
  go_big_quiet_step (exact Later.call (has2 hr.out h0 h1 _ _ _ _))
  repeat (go_big_quiet_step (fail))
  go_big_quiet_step (exact Later.call (has1 he.out h0 h1 _ _ _ _))
  repeat (go_big_quiet_step (fail))
  refine wpQuiet_nil ?_
  rintro w1 ⟨m, rfl⟩
  have hz : w.heap.size < m.w.heap.size := by have := m.h.size; simp at this; omega
  have hbm : Below w.heap.size w m.w := fbelow_a _ m.h
  go_wp2_with fail
  refine (has16 hB.out h0 h1 _ _ _ _).mono ?_
  rintro e2 w2 ⟨rfl, hb2⟩
  obtain ⟨hc2, hf2⟩ := fbcell hb2
  have hz2 : w.heap.size < w2.heap.size := Nat.lt_of_lt_of_le hz hb2.size
  go_wp2_with fail
  refine (has32 hS.out h0 h1 _ _ _ _).mono ?_
  rintro e3 w3 ⟨rfl, hb3⟩
  obtain ⟨hc3, hf3⟩ := fbcell hb3
  have hz3 : w.heap.size < w3.heap.size := Nat.lt_of_lt_of_le hz2 hb3.size
  have hbb : Below w.heap.size w w3 := fbelow_t (fbelow_t hbm hb2) hb3
  have hfin : ∀ q : Bool, q = (e || decide (i ≤ 2047)) → ∀ p : Bool, p = isLen l → resB e i l d.size = (q && p && resD false l d.size) := fun q hq p hp => by rw [hq, hp]; rfl
  have Hfin := Lib.hid hfin
  clear hfin
  cases e
  · by_cases hi : 2047 < i
    · go_wp2
      go_ret
      exact ⟨fret_bool (by rw [Hfin.out false (by simp; omega) _ rfl]; rfl), hbb⟩
    · have t5 : decide (2047 < i) = false := by simp; omega
      have hq : true = (false || decide (i ≤ 2047)) := by simp; omega
      have HQ := Lib.hid hq
      clear hq
      by_cases l0 : l < 0
      · go_wp2
        go_ret
        exact ⟨fret_bool (by rw [Hfin.out _ rfl false (isLen_lo l0).symm]; simp), hbb⟩
      have t6 : decide (l < 0) = false := by simp; omega
      by_cases l1 : 64 < l
      · go_wp2
        go_ret
        exact ⟨fret_bool (by rw [Hfin.out _ rfl false (isLen_hi l1).symm]; simp), hbb⟩
      have t7 : decide (64 < l) = false := by simp; omega
      cases hL : isLen l
      · have HL := Lib.hid hL
        have t9 : decide (codeN l < 0) = true := by unfold isLen at hL; simp at hL; simp; omega
        have t9' : codeN l < 0 := by simpa using t9
        clear hL
        go_wp2_with fail
        refine (rcode_any l _).mono ?_
        rintro e4 w4 ⟨rfl, hb4⟩
        obtain ⟨hc4, hf4⟩ := fbcell hb4
        go_wp2
        go_ret
        exact ⟨fret_bool (by rw [Hfin.out _ rfl false HL.out.symm]; simp), fbelow_t hbb hb4⟩
      · have HL := Lib.hid hL
        have t9 : decide (codeN l < 0) = false := by unfold isLen at hL; simp at hL; simp; omega
        have t9' : ¬ codeN l < 0 := by simpa using t9
        clear hL
        go_wp2_with fail
        refine (rcode_any l _).mono ?_
        rintro e4 w4 ⟨rfl, hb4⟩
        obtain ⟨hc4, hf4⟩ := fbcell hb4
        go_wp2
        go_ret
        exact ⟨fret_bool (by rw [Hfin.out true HQ.out true HL.out.symm]; exact resD_f l d), fbelow_t hbb hb4⟩
  · have hq : true = (true || decide (i ≤ 2047)) := rfl
    by_cases hi : 2047 < i
    all_goals
      try (have t5 : decide (2047 < i) = false := by simp; omega)
      have HQ := Lib.hid hq
      clear hq
      by_cases l0 : l < 0
      · go_wp2
        go_ret
        exact ⟨fret_bool (by rw [Hfin.out _ rfl false (isLen_lo l0).symm]; simp), hbb⟩
      have t6 : decide (l < 0) = false := by simp; omega
      by_cases l1 : 64 < l
      · go_wp2
        go_ret
        exact ⟨fret_bool (by rw [Hfin.out _ rfl false (isLen_hi l1).symm]; simp), hbb⟩
      have t7 : decide (64 < l) = false := by simp; omega
      cases hL : isLen l
      · have HL := Lib.hid hL
        have t9 : decide (codeN l < 0) = true := by unfold isLen at hL; simp at hL; simp; omega
        have t9' : codeN l < 0 := by simpa using t9
        clear hL
        go_wp2_with fail
        refine (rcode_any l _).mono ?_
        rintro e4 w4 ⟨rfl, hb4⟩
        obtain ⟨hc4, hf4⟩ := fbcell hb4
        go_wp2
        go_ret
        exact ⟨fret_bool (by rw [Hfin.out _ rfl false HL.out.symm]; simp), fbelow_t hbb hb4⟩
      · have HL := Lib.hid hL
        have t9 : decide (codeN l < 0) = false := by unfold isLen at hL; simp at hL; simp; omega
        have t9' : ¬ codeN l < 0 := by simpa using t9
        clear hL
        go_wp2_with fail
        refine (rcode_any l _).mono ?_
        rintro e4 w4 ⟨rfl, hb4⟩
        obtain ⟨hc4, hf4⟩ := fbcell hb4
        go_wp2
        go_ret
        exact ⟨fret_bool (by rw [Hfin.out true HQ.out true HL.out.symm]; exact resD_f l d), fbelow_t hbb hb4⟩

end Go.Proofs.YtghmidpbfpfcoaaDoor

namespace Go.Proofs.YtghmidpbfpfcoaaDoor
open Go.RowKit
set_option linter.unusedVariables false

/-! ### ors -/
theorem or_u32 (a b : Nat) (ha : a < 4294967296) (hb : b < 4294967296) (hab : a + b < 4294967296) (h : a &&& b = 0) : bits .or .u32 (a : Int) (b : Int) = (a : Int) + b := by
  have e1 : (BitVec.ofInt 32 (a : Int)).toNat = a := by rw [BitVec.ofInt_natCast, BitVec.toNat_ofNat]; exact Nat.mod_eq_of_lt (by omega)
  have e2 : (BitVec.ofInt 32 (b : Int)).toNat = b := by rw [BitVec.ofInt_natCast, BitVec.toNat_ofNat]; exact Nat.mod_eq_of_lt (by omega)
  have hz : BitVec.ofInt 32 (a : Int) &&& BitVec.ofInt 32 (b : Int) = 0#32 := by
    apply BitVec.eq_of_toNat_eq
    rw [BitVec.toNat_and, e1, e2, h]; rfl
  show IntKind.u32.wrap (((BitVec.ofInt 32 (a : Int)) ||| (BitVec.ofInt 32 (b : Int))).toNat : Int) = _
  rw [← BitVec.add_eq_or_of_and_eq_zero _ _ hz, BitVec.toNat_add, e1, e2, IntKind.wrap_u32]
  omega
theorem or_pow (a i : Nat) (hi : i < 32) (ha : a + 2 ^ i < 4294967296) (h : a / 2 ^ i % 2 = 0) : bits .or .u32 (a : Int) ((2 ^ i : Nat) : Int) = (a : Int) + ((2 ^ i : Nat) : Int) :=
  or_u32 a (2 ^ i) (Nat.lt_of_le_of_lt (Nat.le_add_right _ _) ha) (Nat.lt_of_le_of_lt (Nat.le_add_left _ _) ha) ha (by rw [nat_and_pow, h, Nat.zero_mul])
theorem or31 (a : Int) (h0 : 0 ≤ a) (h1 : a < 2147483648) : bits .or .u32 a 2147483648 = a + 2147483648 := by
  obtain ⟨k, rfl⟩ := Int.eq_ofNat_of_zero_le h0
  exact or_pow k 31 (by decide) (by omega) (by omega)
theorem or30 (a : Int) (h0 : 0 ≤ a) (h1 : a < 3221225472) (h : a / 1073741824 % 2 = 0) : bits .or .u32 a 1073741824 = a + 1073741824 := by
  obtain ⟨k, rfl⟩ := Int.eq_ofNat_of_zero_le h0
  exact or_pow k 30 (by decide) (by omega) (by omega)
theorem or29 (a : Int) (h0 : 0 ≤ a) (h1 : a < 536870912) : bits .or .u32 a 536870912 = a + 536870912 := by
  obtain ⟨k, rfl⟩ := Int.eq_ofNat_of_zero_le h0
  exact or_pow k 29 (by decide) (by omega) (by omega)

/-! ### the document's Right -/
theorem okFl_parts {n : Int} (h0 : 0 ≤ n) (h1 : n ≤ 63) : okFl n = (!(fX n && (fE n || fR n || fD n)) && !(fD n && fR n) && !((fB n || fS n) && !fD n)) := by
  unfold okFl
  rw [decide_eq_true h0, decide_eq_true h1]
  simp
theorem okF_out {i n l : Int} {sz : Nat} (h : n < 0 ∨ 63 < n ∨ i < 0 ∨ 536870911 < i) : okF i n l sz = false := by
  unfold okF okFl idOk
  rcases h with h | h | h | h
  · rw [decide_eq_false (show ¬ 0 ≤ n by omega)]; simp
  · rw [decide_eq_false (show ¬ n ≤ 63 by omega)]; simp
  · rw [decide_eq_false (show ¬ 0 ≤ i by omega)]; simp
  · have ht : topN n ≤ 536870911 := by unfold topN; split <;> omega
    rw [decide_eq_false (show ¬ i ≤ topN n by omega)]; simp

set_option maxHeartbeats 1000000 in
theorem rright_out (i n l : Int) (d : ByteArray) (w : World) (h : n < 0 ∨ 63 < n ∨ i < 0 ∨ 536870911 < i) :
    Calls Tryd.prog 31 #[.agg #[.int .i64 i, .int .i64 n, .int .i64 l, .string d]] w fun e w' => e = .returned (.bool false) ∧ Below w.heap.size w w' := by
  by_cases a : n < 0
  · have t1 : decide (n < 0) = true := by simp; omega
    clear h
    go_enter Tryd.func31, Tryd.ntmps31
    go_wp2
    go_ret
    exact ⟨rfl, (Below.refl _ _).alloc (Nat.le_refl _) _⟩
  have t1 : decide (n < 0) = false := by simp; omega
  by_cases b : 63 < n
  · have t2 : decide (63 < n) = true := by simp; omega
    clear h
    go_enter Tryd.func31, Tryd.ntmps31
    go_wp2
    go_ret
    exact ⟨rfl, (Below.refl _ _).alloc (Nat.le_refl _) _⟩
  have t2 : decide (63 < n) = false := by simp; omega
  by_cases c : i < 0
  · have t3 : decide (i < 0) = true := by simp; omega
    clear h
    go_enter Tryd.func31, Tryd.ntmps31
    go_wp2
    go_ret
    exact ⟨rfl, (Below.refl _ _).alloc (Nat.le_refl _) _⟩
  have t3 : decide (i < 0) = false := by simp; omega
  have t4 : decide (536870911 < i) = true := by simp; omega
  have c4 : 536870911 < i := by omega
  clear h
  go_enter Tryd.func31, Tryd.ntmps31
  go_wp2
  go_ret
  exact ⟨rfl, (Below.refl _ _).alloc (Nat.le_refl _) _⟩

theorem topN_v {n : Int} {e x : Bool} (he : fE n = e) (hx : fX n = x) : topN n = if e || x then 536870911 else 2047 := by unfold topN; rw [he, hx]
theorem rright_any (i n l : Int) (d : ByteArray) (w : World) :
    Calls Tryd.prog 31 #[.agg #[.int .i64 i, .int .i64 n, .int .i64 l, .string d]] w fun e w' => e = .returned (.bool (okF i n l d.size)) ∧ Below w.heap.size w w' := by
  by_cases h : n < 0 ∨ 63 < n ∨ i < 0 ∨ 536870911 < i
  · rw [okF_out h]
    exact rright_out i n l d w h
  have h0 : 0 ≤ n := by omega
  have h1 : n ≤ 63 := by omega
  have h2 : 0 ≤ i := by omega
  have h3 : i ≤ 536870911 := by omega
  have hp := okFl_parts h0 h1
  cases ho : okFl n
  · have : okF i n l d.size = false := by unfold okF; rw [ho]; rfl
    rw [this]
    refine rright_bad i n l d w h0 h1 h2 h3 _ _ _ _ _ _ (Lib.hid rfl) (Lib.hid rfl) (Lib.hid rfl) (Lib.hid rfl) (Lib.hid rfl) (Lib.hid rfl) (Lib.hid ?_)
    rw [hp] at ho
    revert ho
    cases fX n <;> cases fE n <;> cases fR n <;> cases fD n <;> cases fB n <;> cases fS n <;> decide
  · rw [hp] at ho
    have hok : okF i n l d.size = (idOk i n && lenOk n l && datOk n l d.size) := by unfold okF; rw [hp, ho]; rfl
    rw [hok]
    cases hX : fX n
    · cases hD : fD n
      · have hB : fB n = false := by revert ho; rw [hX, hD]; cases fE n <;> cases fR n <;> cases fB n <;> cases fS n <;> decide
        have hS : fS n = false := by revert ho; rw [hX, hD]; cases fE n <;> cases fR n <;> cases fB n <;> cases fS n <;> decide
        have e : (idOk i n && lenOk n l && datOk n l d.size) = resC (fE n) (fR n) i l d.size := by
          unfold idOk lenOk datOk resC resD
          rw [topN_v rfl hX, hX, hD, decide_eq_true h2]
          cases fE n
          · simp
          · simp [h3]
        rw [e]
        exact rright_C i n l d w h0 h1 h2 h3 _ _ (Lib.hid rfl) (Lib.hid rfl) (Lib.hid hX) (Lib.hid hD) (Lib.hid hB) (Lib.hid hS)
      · have hR : fR n = false := by revert ho; rw [hX, hD]; cases fE n <;> cases fR n <;> cases fB n <;> cases fS n <;> decide
        have e : (idOk i n && lenOk n l && datOk n l d.size) = resB (fE n) i l d.size := by
          unfold idOk lenOk datOk resB resD
          rw [topN_v rfl hX, hX, hD, hR, decide_eq_true h2]
          cases fE n
          · simp
          · simp [h3]
        rw [e]
        cases hB : fB n
        · cases hS : fS n
          · exact rright_Bff i n l d w h0 h1 h2 h3 _ (Lib.hid rfl) (Lib.hid hR) (Lib.hid hX) (Lib.hid hD) (Lib.hid hB) (Lib.hid hS)
          · exact rright_Bft i n l d w h0 h1 h2 h3 _ (Lib.hid rfl) (Lib.hid hR) (Lib.hid hX) (Lib.hid hD) (Lib.hid hB) (Lib.hid hS)
        · exact rright_Bt i n l d w h0 h1 h2 h3 _ _ (Lib.hid rfl) (Lib.hid hR) (Lib.hid hX) (Lib.hid hD) (Lib.hid hB) (Lib.hid rfl)
    · have hE : fE n = false := by revert ho; rw [hX]; cases fE n <;> cases fR n <;> cases fD n <;> cases fB n <;> cases fS n <;> decide
      have hR : fR n = false := by revert ho; rw [hX]; cases fE n <;> cases fR n <;> cases fD n <;> cases fB n <;> cases fS n <;> decide
      have hD : fD n = false := by revert ho; rw [hX]; cases fE n <;> cases fR n <;> cases fD n <;> cases fB n <;> cases fS n <;> decide
      have hB : fB n = false := by revert ho; rw [hX, hD]; cases fE n <;> cases fR n <;> cases fB n <;> cases fS n <;> decide
      have hS : fS n = false := by revert ho; rw [hX, hD]; cases fE n <;> cases fR n <;> cases fB n <;> cases fS n <;> decide
      have e : (idOk i n && lenOk n l && datOk n l d.size) = resA l d.size := by
        unfold idOk lenOk datOk resA resD
        rw [topN_v hE hX, hX, hR, decide_eq_true h2]
        simp [h3]
      rw [e]
      exact rright_A i n l d w h0 h1 h2 h3 (Lib.hid hE) (Lib.hid hR) (Lib.hid hX) (Lib.hid hD) (Lib.hid hB) (Lib.hid hS)

theorem rright_v {i n l : Int} {d : ByteArray} {q : Bool} (h : okF i n l d.size = q) (w : World) :
    Calls Tryd.prog 31 #[.agg #[.int .i64 i, .int .i64 n, .int .i64 l, .string d]] w fun e w' => e = .returned (.bool q) ∧ Below w.heap.size w w' := by rw [← h]; exact rright_any i n l d w
theorem right_t {i n l : Int} {d : ByteArray} (h : okF i n l d.size = true) (w : World) (hT : Tabs w) :
    Calls Tryd.prog 36 #[.agg #[.int .i64 i, .int .i64 n, .int .i64 l, .string d]] w fun e w' => e = .returned (.int .i64 0) ∧ Below w.heap.size w w' := by
  have hn : 0 ≤ n ∧ n ≤ 63 := by
    apply Classical.byContradiction
    intro hc
    rw [okF_out (by omega)] at h
    cases h
  have := right_any i n l d w hT (by omega) (by omega)
  rw [h] at this
  exact this
theorem right_f {i n l : Int} {d : ByteArray} (h : okF i n l d.size = false) (w : World) (hT : Tabs w) (hn1 : -9223372036854775808 ≤ n) (hn2 : n ≤ 9223372036854775807) :
    Calls Tryd.prog 36 #[.agg #[.int .i64 i, .int .i64 n, .int .i64 l, .string d]] w fun e w' => e = .returned (.int .i64 4) ∧ Below w.heap.size w w' := by
  have := right_any i n l d w hT hn1 hn2
  rw [h] at this
  exact this

/-- what follows from that a frame may be -/
structure Good (i n l : Int) (sz : Nat) : Prop where
  n0 : 0 ≤ n
  n1 : n ≤ 63
  i0 : 0 ≤ i
  i1 : i ≤ topN n
  fl : okFl n = true
  ln : lenOk n l = true
  dt : datOk n l sz = true
theorem good {i n l : Int} {sz : Nat} (h : okF i n l sz = true) : Good i n l sz := by
  have h' := h
  unfold okF idOk at h'
  simp only [Bool.and_eq_true, decide_eq_true_eq] at h'
  have hn : 0 ≤ n ∧ n ≤ 63 := by
    apply Classical.byContradiction
    intro hc
    rw [okF_out (by omega)] at h
    cases h
  exact ⟨hn.1, hn.2, h'.1.1.2.1, h'.1.1.2.2, h'.1.1.1, h'.1.2, h'.2⟩
theorem Good.top {i n l : Int} {sz : Nat} (h : Good i n l sz) : i ≤ 536870911 := by
  have := h.i1; unfold topN at this; split at this <;> omega
theorem Good.noXE {i n l : Int} {sz : Nat} (h : Good i n l sz) (hx : fX n = true) : fE n = false ∧ fR n = false ∧ fD n = false := by
  have h1 := h.fl
  rw [okFl_parts h.n0 h.n1, hx] at h1
  revert h1
  cases fE n <;> cases fR n <;> cases fD n <;> cases fB n <;> cases fS n <;> decide
theorem Good.noDR {i n l : Int} {sz : Nat} (h : Good i n l sz) (hx : fD n = true) : fR n = false ∧ fX n = false := by
  have h1 := h.fl
  rw [okFl_parts h.n0 h.n1, hx] at h1
  revert h1
  cases fE n <;> cases fR n <;> cases fX n <;> cases fB n <;> cases fS n <;> decide

end Go.Proofs.YtghmidpbfpfcoaaDoor

namespace Go.Proofs.YtghmidpbfpfcoaaDoor
open Go.RowKit
set_option linter.unusedVariables false

def wordV (i n l : Int) (sz : Nat) : Int := if okF i n l sz then wordN i n else 0

end Go.Proofs.YtghmidpbfpfcoaaDoor

namespace Go.Proofs.YtghmidpbfpfcoaaDoor
open Go.RowKit
set_option linter.unusedVariables false

/-! ### bytes -/
theorem bt_past2 (s : ByteArray) (k : Nat) (h : s.size ≤ k) : bt s k = 0 := by
  unfold bt
  rw [List.getElem?_eq_none (by simpa using h)]
  rfl
theorem bt_ext {s t : ByteArray} (hs : s.size = t.size) (h : ∀ k, k < s.size → bt s k = bt t k) : s = t := by
  apply ByteArray.ext
  apply Array.toList_inj.1
  apply List.ext_getElem?
  intro k
  by_cases hk : k < s.size
  · have hk' : k < s.data.toList.length := by simpa using hk
    have hk2 : k < t.data.toList.length := by have : k < t.size := by omega
                                              simpa using this
    have := h k hk
    unfold bt at this
    rw [List.getElem?_eq_getElem hk', List.getElem?_eq_getElem hk2] at this ⊢
    simp only [Option.getD_some] at this
    congr 1
    apply UInt8.toNat_inj.1
    omega
  · rw [List.getElem?_eq_none (by simpa using hk), List.getElem?_eq_none (by have : ¬ k < t.size := by omega
                                                                             simpa using this)]
theorem bt_app (a b : ByteArray) (k : Nat) : bt (a ++ b) k = if k < a.size then bt a k else bt b (k - a.size) := by
  have e : (a ++ b).data.toList = a.data.toList ++ b.data.toList := by simp [ByteArray.data_append]
  unfold bt
  rw [e]
  split
  · rename_i h
    rw [List.getElem?_append_left (by simpa using h)]
  · rename_i h
    rw [List.getElem?_append_right (by simpa using h)]
    rfl
theorem bt_nums (L : List Int) (hL : ∀ x ∈ L, 0 ≤ x ∧ x < 256) (k : Nat) : bt (strOfNums L) k = L.getD k 0 := by
  unfold bt
  rw [strOfNums_data, List.getElem?_map]
  by_cases hk : k < L.length
  · have := hL L[k] (List.getElem_mem hk)
    simp only [List.getElem?_eq_getElem hk, Option.map_some, Option.getD_some, List.getD_eq_getElem?_getD, UInt8.toNat_ofNat']
    omega
  · simp [List.getElem?_eq_none (by omega : L.length ≤ k)]
theorem sub_size (s : ByteArray) (a b : Nat) (h : b ≤ s.size) : (s.extract a b).size = b - a := by
  rw [ByteArray.size_extract]; omega
theorem bt_sub (s : ByteArray) (a b k : Nat) (h1 : a + k < b) (h2 : b ≤ s.size) : bt (s.extract a b) k = bt s (a + k) := by
  have hk : k < (s.extract a b).size := by rw [sub_size _ _ _ h2]; omega
  rw [← bt_eq _ k hk, ← bt_eq s (a + k) (by omega), ByteArray.getElem_extract]

theorem Below.allocL {w w1 : World} (h : Below w.heap.size w w1) (o : Obj) : Below w.heap.size w (w1.alloc o) := h.alloc h.size o
theorem index_bt {t : TypeId} {s : ByteArray} {k : Nat} (ht : Tryd.prog.underlying t = some .string) (hk : k < s.size) (w : World) : (Instr.index t (.string s) (.int .i64 k)).run Tryd.prog w = .ok (.int .u8 (bt s k)) w := by
  rw [← bt_eq s k hk]
  simp [go_sem, ht, hk]
theorem seq_beq (a b : ByteArray) : (a.toList == b.toList) = decide (a = b) := by
  rw [Bool.eq_iff_iff, beq_iff_eq, decide_eq_true_eq, ByteArray.toList_eq, ByteArray.toList_eq]
  exact ⟨fun h => ByteArray.ext (Array.toList_inj.1 h), fun h => by rw [h]⟩
theorem seq_self (a : ByteArray) : (a.toList == a.toList) = true := by simp

/-! ### a frame -/
structure Fr where
  i : Int
  n : Int
  l : Int
  d : ByteArray
def Fr.ok (f : Fr) : Bool := okF f.i f.n f.l f.d.size

end Go.Proofs.YtghmidpbfpfcoaaDoor

namespace Go.Proofs.YtghmidpbfpfcoaaDoor
open Go.RowKit
set_option linter.unusedVariables false

/-! ### texts as lists of bytes -/
def byL (s : ByteArray) : List Int := s.data.toList.map fun b => (b.toNat : Int)
def isBy (L : List Int) : Prop := ∀ x ∈ L, 0 ≤ x ∧ x < 256
theorem byL_len (s : ByteArray) : (byL s).length = s.size := by simp [byL]
theorem byL_by (s : ByteArray) : isBy (byL s) := by
  intro x hx
  obtain ⟨b, _, rfl⟩ := List.mem_map.1 hx
  have := b.toNat_lt
  omega
theorem nums_byL (s : ByteArray) : strOfNums (byL s) = s := by
  apply ByteArray.ext
  apply Array.toList_inj.1
  rw [strOfNums_data]
  unfold byL
  rw [List.map_map]
  conv => rhs; rw [← List.map_id s.data.toList]
  apply List.map_congr_left
  intro b _
  simp
theorem byL_nums {L : List Int} (h : isBy L) : byL (strOfNums L) = L := by
  unfold byL
  rw [strOfNums_data, List.map_map]
  conv => rhs; rw [← List.map_id L]
  apply List.map_congr_left
  intro x hx
  have := h x hx
  simp only [Function.comp, UInt8.toNat_ofNat', id]
  omega
theorem byL_inj {s t : ByteArray} (h : byL s = byL t) : s = t := by rw [← nums_byL s, h, nums_byL]
theorem byL_app (a b : ByteArray) : byL (a ++ b) = byL a ++ byL b := by unfold byL; simp [ByteArray.data_append]
theorem byL_extract (s : ByteArray) (a b : Nat) : byL (s.extract a b) = ((byL s).take b).drop a := by
  unfold byL
  rw [ByteArray.data_extract, Array.toList_extract]
  simp [List.map_take, List.map_drop, List.extract_eq_take_drop, List.drop_take]
theorem byL_getD (s : ByteArray) (k : Nat) : (byL s).getD k 0 = bt s k := by
  unfold byL bt
  rw [List.getD_eq_getElem?_getD, List.getElem?_map]
  cases s.data.toList[k]? <;> rfl
theorem byL_get {s : ByteArray} {k : Nat} (h : k < s.size) : (byL s)[k]'(by rw [byL_len]; exact h) = bt s k := by
  rw [← byL_getD, List.getD_eq_getElem?_getD, List.getElem?_eq_getElem (by rw [byL_len]; exact h)]; rfl
theorem byL_drop {s : ByteArray} {k : Nat} (h : k < s.size) : (byL s).drop k = bt s k :: (byL s).drop (k + 1) := by
  rw [List.drop_eq_getElem_cons (by rw [byL_len]; exact h), byL_get h]
theorem byL_take {s : ByteArray} {k : Nat} (h : k < s.size) : (byL s).take (k + 1) = (byL s).take k ++ [bt s k] := by
  rw [List.take_succ_eq_append_getElem (by rw [byL_len]; exact h), byL_get h]
theorem isBy_app {a b : List Int} (ha : isBy a) (hb : isBy b) : isBy (a ++ b) := by
  intro x hx
  rcases List.mem_append.1 hx with h | h
  · exact ha x h
  · exact hb x h
theorem isBy_cons {x : Int} {L : List Int} (h0 : 0 ≤ x ∧ x < 256) (h : isBy L) : isBy (x :: L) := by
  intro y hy
  rcases List.mem_cons.1 hy with rfl | hy
  · exact h0
  · exact h y hy
theorem isBy_nil : isBy [] := fun x hx => by cases hx
theorem nums_app (a b : List Int) : strOfNums (a ++ b) = strOfNums a ++ strOfNums b := by
  apply ByteArray.ext
  apply Array.toList_inj.1
  simp [ByteArray.data_append, strOfNums]

end Go.Proofs.YtghmidpbfpfcoaaDoor
