/- Frame: contracts of Word, and of the document's Word. -/
import Derived.Test.YtohoedhaomkafaaDoorFrmI
namespace Go.Proofs.YtohoedhaomkafaaDoor
open Go.RowKit
set_option linter.unusedVariables false

def wordV (i n l : Int) (sz : Nat) : Int := if okF i n l sz then wordN i n else 0

set_option maxHeartbeats 1000000 in
theorem word_f {i n l : Int} {d : ByteArray} (h : okF i n l d.size = false) (w : World) (hT : Tabs w) (hn1 : -9223372036854775808 ≤ n) (hn2 : n ≤ 9223372036854775807) :
    Calls Tryd.prog 21 #[.agg #[.int .i64 i, .int .i64 n, .int .i64 l, .string d]] w fun e w' => e = .returned (.int .u32 0) ∧ Below w.heap.size w w' := by
  have HT := Lib.hid hT
  have H := Lib.hid h
  clear hT h
  go_enter Tryd.func21, Tryd.ntmps21
  go_wp2_with fail
  refine (right_f H.out _ (HT.out.alloc _) hn1 hn2).mono ?_
  rintro e w1 ⟨rfl, hb⟩
  go_wp2
  go_ret
  exact ⟨rfl, fbelow_a _ hb⟩
set_option maxHeartbeats 1000000 in
theorem rword_f {i n l : Int} {d : ByteArray} (h : okF i n l d.size = false) (w : World) :
    Calls Tryd.prog 18 #[.agg #[.int .i64 i, .int .i64 n, .int .i64 l, .string d]] w fun e w' => e = .returned (.int .u32 0) ∧ Below w.heap.size w w' := by
  have H := Lib.hid h
  clear h
  go_enter Tryd.func18, Tryd.ntmps18
  go_wp2_with fail
  refine (rright_v H.out _).mono ?_
  rintro e w1 ⟨rfl, hb⟩
  go_wp2
  go_ret
  exact ⟨rfl, fbelow_a _ hb⟩

theorem mark_0 : ∀ w : World, (Instr.index 50 (.agg markCells) (.int .i64 0)).run Tryd.prog w = .ok (.agg #[.int .i64 1, .int .u32 2147483648]) w := fun _ => by kernel_rfl
theorem mark_1 : ∀ w : World, (Instr.index 50 (.agg markCells) (.int .i64 1)).run Tryd.prog w = .ok (.agg #[.int .i64 2, .int .u32 1073741824]) w := fun _ => by kernel_rfl
theorem mark_2 : ∀ w : World, (Instr.index 50 (.agg markCells) (.int .i64 2)).run Tryd.prog w = .ok (.agg #[.int .i64 4, .int .u32 536870912]) w := fun _ => by kernel_rfl

set_option maxHeartbeats 2000000 in
theorem word_x {i n l : Int} {d : ByteArray} (h : okF i n l d.size = true) (he : fE n = false) (hr : fR n = false) (hx : fX n = true) (w : World) (hT : Tabs w) :
    Calls Tryd.prog 21 #[.agg #[.int .i64 i, .int .i64 n, .int .i64 l, .string d]] w fun e w' => e = .returned (.int .u32 (i + 536870912)) ∧ Below w.heap.size w w' := by
  obtain ⟨⟨t, fr, hg⟩, t', fr', hg'⟩ := hT
  have HT := Lib.hid (show Tabs w from ⟨⟨t, fr, hg⟩, t', fr', hg'⟩)
  have HG := Lib.hid hg'
  have H := Lib.hid h
  have g := good h
  have i0 := g.i0
  have i1 := g.top
  have hlt := lt_of_heap hg'
  have a1 := and1_f he
  have a2 := and2_f hr
  have a4 := and4_t hx
  have o1 := or29 i i0 (by omega)
  have m0 := mark_0
  have m1 := mark_1
  have m2 := mark_2
  clear hg hg' h g he hr hx
  go_enter Tryd.func21, Tryd.ntmps21
  go_wp2_with fail
  refine (right_t H.out _ (HT.out.alloc _)).mono ?_
  rintro e w1 ⟨rfl, hb⟩
  obtain ⟨hc, hf⟩ := fbcell hb
  have hz : w.heap.size < w1.heap.size := by have := hb.size; simp only [World.size_alloc] at this; omega
  have hza : w.heap.size ≤ w1.heap.size := by omega
  have hzb : w.heap.size ≤ w1.heap.size + 1 := by omega
  have hzc : w.heap.size < w1.heap.size + 1 := by omega
  have hzd : w.heap.size < w1.heap.size + 1 + 1 := by omega
  have HG1 : Hid (w1.heap[0]? = some (.cells markCells t' fr')) := by
    show w1.heap[_]? = _
    rw [hb.block _ (Nat.lt_of_lt_of_le hlt (by simp)), Below.heap_alloc _ _ _ hlt]
    exact HG.out
  go_wp2_with (refine wpList_load_row rfl 50 _ rfl 0 rfl t' markCells fr' _ HG1.out Tryd.underlying50 rfl (by kernel_rfl) ?_)
  refine wp_loop_rounds 4 ?_
  iterate 4 (rw [rounds_succ]; go_wp2)
  go_ret
  exact ⟨rfl, (((fbelow_a _ hb).alloc (by omega) _).alloc (by simp; omega) _).alloc (by simp; omega) _⟩
set_option maxHeartbeats 2000000 in
theorem word_0 {i n l : Int} {d : ByteArray} (h : okF i n l d.size = true) (he : fE n = false) (hr : fR n = false) (hx : fX n = false) (w : World) (hT : Tabs w) :
    Calls Tryd.prog 21 #[.agg #[.int .i64 i, .int .i64 n, .int .i64 l, .string d]] w fun e w' => e = .returned (.int .u32 (i)) ∧ Below w.heap.size w w' := by
  obtain ⟨⟨t, fr, hg⟩, t', fr', hg'⟩ := hT
  have HT := Lib.hid (show Tabs w from ⟨⟨t, fr, hg⟩, t', fr', hg'⟩)
  have HG := Lib.hid hg'
  have H := Lib.hid h
  have g := good h
  have i0 := g.i0
  have i1 := g.top
  have hlt := lt_of_heap hg'
  have a1 := and1_f he
  have a2 := and2_f hr
  have a4 := and4_f hx
  have m0 := mark_0
  have m1 := mark_1
  have m2 := mark_2
  clear hg hg' h g he hr hx
  go_enter Tryd.func21, Tryd.ntmps21
  go_wp2_with fail
  refine (right_t H.out _ (HT.out.alloc _)).mono ?_
  rintro e w1 ⟨rfl, hb⟩
  obtain ⟨hc, hf⟩ := fbcell hb
  have hz : w.heap.size < w1.heap.size := by have := hb.size; simp only [World.size_alloc] at this; omega
  have hza : w.heap.size ≤ w1.heap.size := by omega
  have hzb : w.heap.size ≤ w1.heap.size + 1 := by omega
  have hzc : w.heap.size < w1.heap.size + 1 := by omega
  have hzd : w.heap.size < w1.heap.size + 1 + 1 := by omega
  have HG1 : Hid (w1.heap[0]? = some (.cells markCells t' fr')) := by
    show w1.heap[_]? = _
    rw [hb.block _ (Nat.lt_of_lt_of_le hlt (by simp)), Below.heap_alloc _ _ _ hlt]
    exact HG.out
  go_wp2_with (refine wpList_load_row rfl 50 _ rfl 0 rfl t' markCells fr' _ HG1.out Tryd.underlying50 rfl (by kernel_rfl) ?_)
  refine wp_loop_rounds 4 ?_
  iterate 4 (rw [rounds_succ]; go_wp2)
  go_ret
  exact ⟨rfl, (((fbelow_a _ hb).alloc (by omega) _).alloc (by simp; omega) _).alloc (by simp; omega) _⟩
set_option maxHeartbeats 2000000 in
theorem word_e {i n l : Int} {d : ByteArray} (h : okF i n l d.size = true) (he : fE n = true) (hr : fR n = false) (hx : fX n = false) (w : World) (hT : Tabs w) :
    Calls Tryd.prog 21 #[.agg #[.int .i64 i, .int .i64 n, .int .i64 l, .string d]] w fun e w' => e = .returned (.int .u32 (i + 2147483648)) ∧ Below w.heap.size w w' := by
  obtain ⟨⟨t, fr, hg⟩, t', fr', hg'⟩ := hT
  have HT := Lib.hid (show Tabs w from ⟨⟨t, fr, hg⟩, t', fr', hg'⟩)
  have HG := Lib.hid hg'
  have H := Lib.hid h
  have g := good h
  have i0 := g.i0
  have i1 := g.top
  have hlt := lt_of_heap hg'
  have a1 := and1_t he
  have a2 := and2_f hr
  have a4 := and4_f hx
  have o1 := or31 i i0 (by omega)
  have m0 := mark_0
  have m1 := mark_1
  have m2 := mark_2
  clear hg hg' h g he hr hx
  go_enter Tryd.func21, Tryd.ntmps21
  go_wp2_with fail
  refine (right_t H.out _ (HT.out.alloc _)).mono ?_
  rintro e w1 ⟨rfl, hb⟩
  obtain ⟨hc, hf⟩ := fbcell hb
  have hz : w.heap.size < w1.heap.size := by have := hb.size; simp only [World.size_alloc] at this; omega
  have hza : w.heap.size ≤ w1.heap.size := by omega
  have hzb : w.heap.size ≤ w1.heap.size + 1 := by omega
  have hzc : w.heap.size < w1.heap.size + 1 := by omega
  have hzd : w.heap.size < w1.heap.size + 1 + 1 := by omega
  have HG1 : Hid (w1.heap[0]? = some (.cells markCells t' fr')) := by
    show w1.heap[_]? = _
    rw [hb.block _ (Nat.lt_of_lt_of_le hlt (by simp)), Below.heap_alloc _ _ _ hlt]
    exact HG.out
  go_wp2_with (refine wpList_load_row rfl 50 _ rfl 0 rfl t' markCells fr' _ HG1.out Tryd.underlying50 rfl (by kernel_rfl) ?_)
  refine wp_loop_rounds 4 ?_
  iterate 4 (rw [rounds_succ]; go_wp2)
  go_ret
  exact ⟨rfl, (((fbelow_a _ hb).alloc (by omega) _).alloc (by simp; omega) _).alloc (by simp; omega) _⟩
set_option maxHeartbeats 2000000 in
theorem word_r {i n l : Int} {d : ByteArray} (h : okF i n l d.size = true) (he : fE n = false) (hr : fR n = true) (hx : fX n = false) (w : World) (hT : Tabs w) :
    Calls Tryd.prog 21 #[.agg #[.int .i64 i, .int .i64 n, .int .i64 l, .string d]] w fun e w' => e = .returned (.int .u32 (i + 1073741824)) ∧ Below w.heap.size w w' := by
  obtain ⟨⟨t, fr, hg⟩, t', fr', hg'⟩ := hT
  have HT := Lib.hid (show Tabs w from ⟨⟨t, fr, hg⟩, t', fr', hg'⟩)
  have HG := Lib.hid hg'
  have H := Lib.hid h
  have g := good h
  have i0 := g.i0
  have i1 := g.top
  have hlt := lt_of_heap hg'
  have a1 := and1_f he
  have a2 := and2_t hr
  have a4 := and4_f hx
  have o1 := or30 i i0 (by omega) (by omega)
  have m0 := mark_0
  have m1 := mark_1
  have m2 := mark_2
  clear hg hg' h g he hr hx
  go_enter Tryd.func21, Tryd.ntmps21
  go_wp2_with fail
  refine (right_t H.out _ (HT.out.alloc _)).mono ?_
  rintro e w1 ⟨rfl, hb⟩
  obtain ⟨hc, hf⟩ := fbcell hb
  have hz : w.heap.size < w1.heap.size := by have := hb.size; simp only [World.size_alloc] at this; omega
  have hza : w.heap.size ≤ w1.heap.size := by omega
  have hzb : w.heap.size ≤ w1.heap.size + 1 := by omega
  have hzc : w.heap.size < w1.heap.size + 1 := by omega
  have hzd : w.heap.size < w1.heap.size + 1 + 1 := by omega
  have HG1 : Hid (w1.heap[0]? = some (.cells markCells t' fr')) := by
    show w1.heap[_]? = _
    rw [hb.block _ (Nat.lt_of_lt_of_le hlt (by simp)), Below.heap_alloc _ _ _ hlt]
    exact HG.out
  go_wp2_with (refine wpList_load_row rfl 50 _ rfl 0 rfl t' markCells fr' _ HG1.out Tryd.underlying50 rfl (by kernel_rfl) ?_)
  refine wp_loop_rounds 4 ?_
  iterate 4 (rw [rounds_succ]; go_wp2)
  go_ret
  exact ⟨rfl, (((fbelow_a _ hb).alloc (by omega) _).alloc (by simp; omega) _).alloc (by simp; omega) _⟩
set_option maxHeartbeats 2000000 in
theorem word_er {i n l : Int} {d : ByteArray} (h : okF i n l d.size = true) (he : fE n = true) (hr : fR n = true) (hx : fX n = false) (w : World) (hT : Tabs w) :
    Calls Tryd.prog 21 #[.agg #[.int .i64 i, .int .i64 n, .int .i64 l, .string d]] w fun e w' => e = .returned (.int .u32 (i + 2147483648 + 1073741824)) ∧ Below w.heap.size w w' := by
  obtain ⟨⟨t, fr, hg⟩, t', fr', hg'⟩ := hT
  have HT := Lib.hid (show Tabs w from ⟨⟨t, fr, hg⟩, t', fr', hg'⟩)
  have HG := Lib.hid hg'
  have H := Lib.hid h
  have g := good h
  have i0 := g.i0
  have i1 := g.top
  have hlt := lt_of_heap hg'
  have a1 := and1_t he
  have a2 := and2_t hr
  have a4 := and4_f hx
  have o1 := or31 i i0 (by omega)
  have o2 := or30 (i + 2147483648) (by omega) (by omega) (by omega)
  have m0 := mark_0
  have m1 := mark_1
  have m2 := mark_2
  clear hg hg' h g he hr hx
  go_enter Tryd.func21, Tryd.ntmps21
  go_wp2_with fail
  refine (right_t H.out _ (HT.out.alloc _)).mono ?_
  rintro e w1 ⟨rfl, hb⟩
  obtain ⟨hc, hf⟩ := fbcell hb
  have hz : w.heap.size < w1.heap.size := by have := hb.size; simp only [World.size_alloc] at this; omega
  have hza : w.heap.size ≤ w1.heap.size := by omega
  have hzb : w.heap.size ≤ w1.heap.size + 1 := by omega
  have hzc : w.heap.size < w1.heap.size + 1 := by omega
  have hzd : w.heap.size < w1.heap.size + 1 + 1 := by omega
  have HG1 : Hid (w1.heap[0]? = some (.cells markCells t' fr')) := by
    show w1.heap[_]? = _
    rw [hb.block _ (Nat.lt_of_lt_of_le hlt (by simp)), Below.heap_alloc _ _ _ hlt]
    exact HG.out
  go_wp2_with (refine wpList_load_row rfl 50 _ rfl 0 rfl t' markCells fr' _ HG1.out Tryd.underlying50 rfl (by kernel_rfl) ?_)
  refine wp_loop_rounds 4 ?_
  iterate 4 (rw [rounds_succ]; go_wp2)
  go_ret
  exact ⟨rfl, (((fbelow_a _ hb).alloc (by omega) _).alloc (by simp; omega) _).alloc (by simp; omega) _⟩

theorem word_t {i n l : Int} {d : ByteArray} (h : okF i n l d.size = true) (w : World) (hT : Tabs w) :
    Calls Tryd.prog 21 #[.agg #[.int .i64 i, .int .i64 n, .int .i64 l, .string d]] w fun e w' => e = .returned (.int .u32 (wordN i n)) ∧ Below w.heap.size w w' := by
  have g := good h
  unfold wordN b01
  cases hx : fX n
  · cases he : fE n <;> cases hr : fR n
    · exact (word_0 h he hr hx w hT).mono fun _ _ ⟨h1, h2⟩ => ⟨by rw [h1]; exact fret_int (by simp), h2⟩
    · exact (word_r h he hr hx w hT).mono fun _ _ ⟨h1, h2⟩ => ⟨by rw [h1]; exact fret_int (by simp), h2⟩
    · exact (word_e h he hr hx w hT).mono fun _ _ ⟨h1, h2⟩ => ⟨by rw [h1]; exact fret_int (by simp), h2⟩
    · exact (word_er h he hr hx w hT).mono fun _ _ ⟨h1, h2⟩ => ⟨by rw [h1]; exact fret_int (by simp), h2⟩
  · obtain ⟨he, hr, _⟩ := g.noXE hx
    rw [he, hr]
    exact (word_x h he hr hx w hT).mono fun _ _ ⟨h1, h2⟩ => ⟨by rw [h1]; exact fret_int (by simp), h2⟩

set_option maxHeartbeats 2000000 in
theorem rword_x {i n l : Int} {d : ByteArray} (h : okF i n l d.size = true) (he : fE n = false) (hr : fR n = false) (hx : fX n = true) (w : World) :
    Calls Tryd.prog 18 #[.agg #[.int .i64 i, .int .i64 n, .int .i64 l, .string d]] w fun e w' => e = .returned (.int .u32 (i + 536870912)) ∧ Below w.heap.size w w' := by
  have H := Lib.hid h
  have g := good h
  have i0 := g.i0
  have i1 := g.top
  have n0 := g.n0
  have n1 := g.n1
  have He := Lib.hid he
  have Hr := Lib.hid hr
  have Hx := Lib.hid hx
  clear h g he hr hx
  go_enter Tryd.func18, Tryd.ntmps18
  go_wp2_with fail
  refine (rright_v H.out _).mono ?_
  rintro e w1 ⟨rfl, hb1⟩
  obtain ⟨hc1, hf1⟩ := fbcell hb1
  have hz1 : w.heap.size < w1.heap.size := by have := hb1.size; simp only [World.size_alloc] at this; omega
  go_wp2_with fail
  refine (has1 He.out n0 n1 _ _ _ _).mono ?_
  rintro e w2 ⟨rfl, hb2⟩
  obtain ⟨hc2, hf2⟩ := fbcell hb2
  have hz2 := Nat.lt_of_lt_of_le hz1 hb2.size
  go_wp2_with fail
  refine (has2 Hr.out n0 n1 _ _ _ _).mono ?_
  rintro e w3 ⟨rfl, hb3⟩
  obtain ⟨hc3, hf3⟩ := fbcell hb3
  go_wp2_with fail
  refine (has4 Hx.out n0 n1 _ _ _ _).mono ?_
  rintro e w4 ⟨rfl, hb4⟩
  go_wp2
  go_ret
  exact ⟨rfl, fbelow_t (fbelow_t (fbelow_t (fbelow_a _ hb1) hb2) hb3) hb4⟩
set_option maxHeartbeats 2000000 in
theorem rword_0 {i n l : Int} {d : ByteArray} (h : okF i n l d.size = true) (he : fE n = false) (hr : fR n = false) (hx : fX n = false) (w : World) :
    Calls Tryd.prog 18 #[.agg #[.int .i64 i, .int .i64 n, .int .i64 l, .string d]] w fun e w' => e = .returned (.int .u32 (i)) ∧ Below w.heap.size w w' := by
  have H := Lib.hid h
  have g := good h
  have i0 := g.i0
  have i1 := g.top
  have n0 := g.n0
  have n1 := g.n1
  have He := Lib.hid he
  have Hr := Lib.hid hr
  have Hx := Lib.hid hx
  clear h g he hr hx
  go_enter Tryd.func18, Tryd.ntmps18
  go_wp2_with fail
  refine (rright_v H.out _).mono ?_
  rintro e w1 ⟨rfl, hb1⟩
  obtain ⟨hc1, hf1⟩ := fbcell hb1
  have hz1 : w.heap.size < w1.heap.size := by have := hb1.size; simp only [World.size_alloc] at this; omega
  go_wp2_with fail
  refine (has1 He.out n0 n1 _ _ _ _).mono ?_
  rintro e w2 ⟨rfl, hb2⟩
  obtain ⟨hc2, hf2⟩ := fbcell hb2
  have hz2 := Nat.lt_of_lt_of_le hz1 hb2.size
  go_wp2_with fail
  refine (has2 Hr.out n0 n1 _ _ _ _).mono ?_
  rintro e w3 ⟨rfl, hb3⟩
  obtain ⟨hc3, hf3⟩ := fbcell hb3
  go_wp2_with fail
  refine (has4 Hx.out n0 n1 _ _ _ _).mono ?_
  rintro e w4 ⟨rfl, hb4⟩
  go_wp2
  go_ret
  exact ⟨rfl, fbelow_t (fbelow_t (fbelow_t (fbelow_a _ hb1) hb2) hb3) hb4⟩
set_option maxHeartbeats 2000000 in
theorem rword_e {i n l : Int} {d : ByteArray} (h : okF i n l d.size = true) (he : fE n = true) (hr : fR n = false) (hx : fX n = false) (w : World) :
    Calls Tryd.prog 18 #[.agg #[.int .i64 i, .int .i64 n, .int .i64 l, .string d]] w fun e w' => e = .returned (.int .u32 (i + 2147483648)) ∧ Below w.heap.size w w' := by
  have H := Lib.hid h
  have g := good h
  have i0 := g.i0
  have i1 := g.top
  have n0 := g.n0
  have n1 := g.n1
  have He := Lib.hid he
  have Hr := Lib.hid hr
  have Hx := Lib.hid hx
  clear h g he hr hx
  go_enter Tryd.func18, Tryd.ntmps18
  go_wp2_with fail
  refine (rright_v H.out _).mono ?_
  rintro e w1 ⟨rfl, hb1⟩
  obtain ⟨hc1, hf1⟩ := fbcell hb1
  have hz1 : w.heap.size < w1.heap.size := by have := hb1.size; simp only [World.size_alloc] at this; omega
  go_wp2_with fail
  refine (has1 He.out n0 n1 _ _ _ _).mono ?_
  rintro e w2 ⟨rfl, hb2⟩
  obtain ⟨hc2, hf2⟩ := fbcell hb2
  have hz2 := Nat.lt_of_lt_of_le hz1 hb2.size
  go_wp2_with fail
  refine (has2 Hr.out n0 n1 _ _ _ _).mono ?_
  rintro e w3 ⟨rfl, hb3⟩
  obtain ⟨hc3, hf3⟩ := fbcell hb3
  go_wp2_with fail
  refine (has4 Hx.out n0 n1 _ _ _ _).mono ?_
  rintro e w4 ⟨rfl, hb4⟩
  go_wp2
  go_ret
  exact ⟨rfl, fbelow_t (fbelow_t (fbelow_t (fbelow_a _ hb1) hb2) hb3) hb4⟩
set_option maxHeartbeats 2000000 in
theorem rword_r {i n l : Int} {d : ByteArray} (h : okF i n l d.size = true) (he : fE n = false) (hr : fR n = true) (hx : fX n = false) (w : World) :
    Calls Tryd.prog 18 #[.agg #[.int .i64 i, .int .i64 n, .int .i64 l, .string d]] w fun e w' => e = .returned (.int .u32 (i + 1073741824)) ∧ Below w.heap.size w w' := by
  have H := Lib.hid h
  have g := good h
  have i0 := g.i0
  have i1 := g.top
  have n0 := g.n0
  have n1 := g.n1
  have He := Lib.hid he
  have Hr := Lib.hid hr
  have Hx := Lib.hid hx
  clear h g he hr hx
  go_enter Tryd.func18, Tryd.ntmps18
  go_wp2_with fail
  refine (rright_v H.out _).mono ?_
  rintro e w1 ⟨rfl, hb1⟩
  obtain ⟨hc1, hf1⟩ := fbcell hb1
  have hz1 : w.heap.size < w1.heap.size := by have := hb1.size; simp only [World.size_alloc] at this; omega
  go_wp2_with fail
  refine (has1 He.out n0 n1 _ _ _ _).mono ?_
  rintro e w2 ⟨rfl, hb2⟩
  obtain ⟨hc2, hf2⟩ := fbcell hb2
  have hz2 := Nat.lt_of_lt_of_le hz1 hb2.size
  go_wp2_with fail
  refine (has2 Hr.out n0 n1 _ _ _ _).mono ?_
  rintro e w3 ⟨rfl, hb3⟩
  obtain ⟨hc3, hf3⟩ := fbcell hb3
  go_wp2_with fail
  refine (has4 Hx.out n0 n1 _ _ _ _).mono ?_
  rintro e w4 ⟨rfl, hb4⟩
  go_wp2
  go_ret
  exact ⟨rfl, fbelow_t (fbelow_t (fbelow_t (fbelow_a _ hb1) hb2) hb3) hb4⟩
set_option maxHeartbeats 2000000 in
theorem rword_er {i n l : Int} {d : ByteArray} (h : okF i n l d.size = true) (he : fE n = true) (hr : fR n = true) (hx : fX n = false) (w : World) :
    Calls Tryd.prog 18 #[.agg #[.int .i64 i, .int .i64 n, .int .i64 l, .string d]] w fun e w' => e = .returned (.int .u32 (i + 2147483648 + 1073741824)) ∧ Below w.heap.size w w' := by
  have H := Lib.hid h
  have g := good h
  have i0 := g.i0
  have i1 := g.top
  have n0 := g.n0
  have n1 := g.n1
  have He := Lib.hid he
  have Hr := Lib.hid hr
  have Hx := Lib.hid hx
  clear h g he hr hx
  go_enter Tryd.func18, Tryd.ntmps18
  go_wp2_with fail
  refine (rright_v H.out _).mono ?_
  rintro e w1 ⟨rfl, hb1⟩
  obtain ⟨hc1, hf1⟩ := fbcell hb1
  have hz1 : w.heap.size < w1.heap.size := by have := hb1.size; simp only [World.size_alloc] at this; omega
  go_wp2_with fail
  refine (has1 He.out n0 n1 _ _ _ _).mono ?_
  rintro e w2 ⟨rfl, hb2⟩
  obtain ⟨hc2, hf2⟩ := fbcell hb2
  have hz2 := Nat.lt_of_lt_of_le hz1 hb2.size
  go_wp2_with fail
  refine (has2 Hr.out n0 n1 _ _ _ _).mono ?_
  rintro e w3 ⟨rfl, hb3⟩
  obtain ⟨hc3, hf3⟩ := fbcell hb3
  go_wp2_with fail
  refine (has4 Hx.out n0 n1 _ _ _ _).mono ?_
  rintro e w4 ⟨rfl, hb4⟩
  go_wp2
  go_ret
  exact ⟨rfl, fbelow_t (fbelow_t (fbelow_t (fbelow_a _ hb1) hb2) hb3) hb4⟩

theorem rword_t {i n l : Int} {d : ByteArray} (h : okF i n l d.size = true) (w : World) :
    Calls Tryd.prog 18 #[.agg #[.int .i64 i, .int .i64 n, .int .i64 l, .string d]] w fun e w' => e = .returned (.int .u32 (wordN i n)) ∧ Below w.heap.size w w' := by
  have g := good h
  unfold wordN b01
  cases hx : fX n
  · cases he : fE n <;> cases hr : fR n
    · exact (rword_0 h he hr hx w).mono fun _ _ ⟨h1, h2⟩ => ⟨by rw [h1]; exact fret_int (by simp), h2⟩
    · exact (rword_r h he hr hx w).mono fun _ _ ⟨h1, h2⟩ => ⟨by rw [h1]; exact fret_int (by simp), h2⟩
    · exact (rword_e h he hr hx w).mono fun _ _ ⟨h1, h2⟩ => ⟨by rw [h1]; exact fret_int (by simp), h2⟩
    · exact (rword_er h he hr hx w).mono fun _ _ ⟨h1, h2⟩ => ⟨by rw [h1]; exact fret_int (by simp), h2⟩
  · obtain ⟨he, hr, _⟩ := g.noXE hx
    rw [he, hr]
    exact (rword_x h he hr hx w).mono fun _ _ ⟨h1, h2⟩ => ⟨by rw [h1]; exact fret_int (by simp), h2⟩

theorem word_v {i n l v : Int} {d : ByteArray} (h : wordV i n l d.size = v) (w : World) (hT : Tabs w) (hn1 : -9223372036854775808 ≤ n) (hn2 : n ≤ 9223372036854775807) :
    Calls Tryd.prog 21 #[.agg #[.int .i64 i, .int .i64 n, .int .i64 l, .string d]] w fun e w' => e = .returned (.int .u32 v) ∧ Below w.heap.size w w' := by
  rw [← h]
  unfold wordV
  cases ho : okF i n l d.size
  · exact word_f ho w hT hn1 hn2
  · exact word_t ho w hT
theorem rword_v {i n l v : Int} {d : ByteArray} (h : wordV i n l d.size = v) (w : World) :
    Calls Tryd.prog 18 #[.agg #[.int .i64 i, .int .i64 n, .int .i64 l, .string d]] w fun e w' => e = .returned (.int .u32 v) ∧ Below w.heap.size w w' := by
  rw [← h]
  unfold wordV
  cases ho : okF i n l d.size
  · exact rword_f ho w
  · exact rword_t ho w

end Go.Proofs.YtohoedhaomkafaaDoor
