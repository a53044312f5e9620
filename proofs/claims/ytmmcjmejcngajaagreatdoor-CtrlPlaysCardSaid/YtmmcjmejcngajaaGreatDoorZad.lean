/- Frame: contracts of Word, and of the document's Word. Of no program: bytes of texts one by one; a frame's datum. (Parted from XWirM, so that dump has it without wire.) Of no program: texts as lists of bytes. (Parted from XDmpM, so that every layer has it.) -/
import Derived.Test.YtmmcjmejcngajaaGreatDoorZac
import Derived.Test.YtmmcjmejcngajaaGreatDoorZaa
namespace Go.Proofs.YtmmcjmejcngajaaGreatDoor
open Go.RowKit
set_option linter.unusedVariables false

def wordV (i n l : Int) (sz : Nat) : Int := if okF i n l sz then wordN i n else 0

set_option maxHeartbeats 1000000 in
theorem word_f {i n l : Int} {d : ByteArray} (h : okF i n l d.size = false) (w : World) (hT : Tabs w) (hn1 : -9223372036854775808 ≤ n) (hn2 : n ≤ 9223372036854775807) :
    Calls Tryz.prog 64 #[.agg #[.int .i64 i, .int .i64 n, .int .i64 l, .string d]] w fun e w' => e = .returned (.int .u32 0) ∧ Below w.heap.size w w' := by
  have HT := Lib.hid hT
  have H := Lib.hid h
  clear hT h
  go_enter Tryz.func64, Tryz.ntmps64
  go_wp2_with fail
  refine (right_f H.out _ (HT.out.alloc _) hn1 hn2).mono ?_
  rintro e w1 ⟨rfl, hb⟩
  go_wp2
  go_ret
  exact ⟨rfl, fbelow_a _ hb⟩
set_option maxHeartbeats 1000000 in
theorem rword_f {i n l : Int} {d : ByteArray} (h : okF i n l d.size = false) (w : World) :
    Calls Tryz.prog 90 #[.agg #[.int .i64 i, .int .i64 n, .int .i64 l, .string d]] w fun e w' => e = .returned (.int .u32 0) ∧ Below w.heap.size w w' := by
  have H := Lib.hid h
  clear h
  go_enter Tryz.func90, Tryz.ntmps90
  go_wp2_with fail
  refine (rright_v H.out _).mono ?_
  rintro e w1 ⟨rfl, hb⟩
  go_wp2
  go_ret
  exact ⟨rfl, fbelow_a _ hb⟩

theorem mark_0 : ∀ w : World, (Instr.index 118 (.agg markCells) (.int .i64 0)).run Tryz.prog w = .ok (.agg #[.int .i64 1, .int .u32 2147483648]) w := fun _ => by kernel_rfl
theorem mark_1 : ∀ w : World, (Instr.index 118 (.agg markCells) (.int .i64 1)).run Tryz.prog w = .ok (.agg #[.int .i64 2, .int .u32 1073741824]) w := fun _ => by kernel_rfl
theorem mark_2 : ∀ w : World, (Instr.index 118 (.agg markCells) (.int .i64 2)).run Tryz.prog w = .ok (.agg #[.int .i64 4, .int .u32 536870912]) w := fun _ => by kernel_rfl

set_option maxHeartbeats 2000000 in
theorem word_x {i n l : Int} {d : ByteArray} (h : okF i n l d.size = true) (he : fE n = false) (hr : fR n = false) (hx : fX n = true) (w : World) (hT : Tabs w) :
    Calls Tryz.prog 64 #[.agg #[.int .i64 i, .int .i64 n, .int .i64 l, .string d]] w fun e w' => e = .returned (.int .u32 (i + 536870912)) ∧ Below w.heap.size w w' := by
  obtain ⟨⟨t, fr, hg⟩, t', fr', hg'⟩ := hT
  have HT := Lib.hid (show Tabs w from ⟨⟨t, fr, hg⟩, t', fr', hg'⟩)
  have HG := Lib.hid hg'
  have H := Lib.hid h
  have g := good h
  have i0 := g.i0
  have i1 := g.top
  have hlt := lt_of_heap hg'
  have a1 := and1_f he
  have a2 := and2_f hr
  have a4 := and4_t hx
  have o1 := or29 i i0 (by omega)
  have m0 := mark_0
  have m1 := mark_1
  have m2 := mark_2
  clear hg hg' h g he hr hx
  go_enter Tryz.func64, Tryz.ntmps64
  go_wp2_with fail
  refine (right_t H.out _ (HT.out.alloc _)).mono ?_
  rintro e w1 ⟨rfl, hb⟩
  obtain ⟨hc, hf⟩ := fbcell hb
  have hz : w.heap.size < w1.heap.size := by have := hb.size; simp only [World.size_alloc] at this; omega
  have hza : w.heap.size ≤ w1.heap.size := by omega
  have hzb : w.heap.size ≤ w1.heap.size + 1 := by omega
  have hzc : w.heap.size < w1.heap.size + 1 := by omega
  have hzd : w.heap.size < w1.heap.size + 1 + 1 := by omega
  have HG1 : Hid (w1.heap[0]? = some (.cells markCells t' fr')) := by
    show w1.heap[_]? = _
    rw [hb.block _ (Nat.lt_of_lt_of_le hlt (by simp)), Below.heap_alloc _ _ _ hlt]
    exact HG.out
  go_wp2_with (refine wpList_load_row rfl 118 _ rfl 0 rfl t' markCells fr' _ HG1.out Tryz.underlying118 rfl (by kernel_rfl) ?_)
  refine wp_loop_rounds 4 ?_
  iterate 4 (rw [rounds_succ]; go_wp2)
  go_ret
  exact ⟨rfl, (((fbelow_a _ hb).alloc (by omega) _).alloc (by simp; omega) _).alloc (by simp; omega) _⟩
set_option maxHeartbeats 2000000 in
theorem word_0 {i n l : Int} {d : ByteArray} (h : okF i n l d.size = true) (he : fE n = false) (hr : fR n = false) (hx : fX n = false) (w : World) (hT : Tabs w) :
    Calls Tryz.prog 64 #[.agg #[.int .i64 i, .int .i64 n, .int .i64 l, .string d]] w fun e w' => e = .returned (.int .u32 (i)) ∧ Below w.heap.size w w' := by
  obtain ⟨⟨t, fr, hg⟩, t', fr', hg'⟩ := hT
  have HT := Lib.hid (show Tabs w from ⟨⟨t, fr, hg⟩, t', fr', hg'⟩)
  have HG := Lib.hid hg'
  have H := Lib.hid h
  have g := good h
  have i0 := g.i0
  have i1 := g.top
  have hlt := lt_of_heap hg'
  have a1 := and1_f he
  have a2 := and2_f hr
  have a4 := and4_f hx
  have m0 := mark_0
  have m1 := mark_1
  have m2 := mark_2
  clear hg hg' h g he hr hx
  go_enter Tryz.func64, Tryz.ntmps64
  go_wp2_with fail
  refine (right_t H.out _ (HT.out.alloc _)).mono ?_
  rintro e w1 ⟨rfl, hb⟩
  obtain ⟨hc, hf⟩ := fbcell hb
  have hz : w.heap.size < w1.heap.size := by have := hb.size; simp only [World.size_alloc] at this; omega
  have hza : w.heap.size ≤ w1.heap.size := by omega
  have hzb : w.heap.size ≤ w1.heap.size + 1 := by omega
  have hzc : w.heap.size < w1.heap.size + 1 := by omega
  have hzd : w.heap.size < w1.heap.size + 1 + 1 := by omega
  have HG1 : Hid (w1.heap[0]? = some (.cells markCells t' fr')) := by
    show w1.heap[_]? = _
    rw [hb.block _ (Nat.lt_of_lt_of_le hlt (by simp)), Below.heap_alloc _ _ _ hlt]
    exact HG.out
  go_wp2_with (refine wpList_load_row rfl 118 _ rfl 0 rfl t' markCells fr' _ HG1.out Tryz.underlying118 rfl (by kernel_rfl) ?_)
  refine wp_loop_rounds 4 ?_
  iterate 4 (rw [rounds_succ]; go_wp2)
  go_ret
  exact ⟨rfl, (((fbelow_a _ hb).alloc (by omega) _).alloc (by simp; omega) _).alloc (by simp; omega) _⟩
set_option maxHeartbeats 2000000 in
theorem word_e {i n l : Int} {d : ByteArray} (h : okF i n l d.size = true) (he : fE n = true) (hr : fR n = false) (hx : fX n = false) (w : World) (hT : Tabs w) :
    Calls Tryz.prog 64 #[.agg #[.int .i64 i, .int .i64 n, .int .i64 l, .string d]] w fun e w' => e = .returned (.int .u32 (i + 2147483648)) ∧ Below w.heap.size w w' := by
  obtain ⟨⟨t, fr, hg⟩, t', fr', hg'⟩ := hT
  have HT := Lib.hid (show Tabs w from ⟨⟨t, fr, hg⟩, t', fr', hg'⟩)
  have HG := Lib.hid hg'
  have H := Lib.hid h
  have g := good h
  have i0 := g.i0
  have i1 := g.top
  have hlt := lt_of_heap hg'
  have a1 := and1_t he
  have a2 := and2_f hr
  have a4 := and4_f hx
  have o1 := or31 i i0 (by omega)
  have m0 := mark_0
  have m1 := mark_1
  have m2 := mark_2
  clear hg hg' h g he hr hx
  go_enter Tryz.func64, Tryz.ntmps64
  go_wp2_with fail
  refine (right_t H.out _ (HT.out.alloc _)).mono ?_
  rintro e w1 ⟨rfl, hb⟩
  obtain ⟨hc, hf⟩ := fbcell hb
  have hz : w.heap.size < w1.heap.size := by have := hb.size; simp only [World.size_alloc] at this; omega
  have hza : w.heap.size ≤ w1.heap.size := by omega
  have hzb : w.heap.size ≤ w1.heap.size + 1 := by omega
  have hzc : w.heap.size < w1.heap.size + 1 := by omega
  have hzd : w.heap.size < w1.heap.size + 1 + 1 := by omega
  have HG1 : Hid (w1.heap[0]? = some (.cells markCells t' fr')) := by
    show w1.heap[_]? = _
    rw [hb.block _ (Nat.lt_of_lt_of_le hlt (by simp)), Below.heap_alloc _ _ _ hlt]
    exact HG.out
  go_wp2_with (refine wpList_load_row rfl 118 _ rfl 0 rfl t' markCells fr' _ HG1.out Tryz.underlying118 rfl (by kernel_rfl) ?_)
  refine wp_loop_rounds 4 ?_
  iterate 4 (rw [rounds_succ]; go_wp2)
  go_ret
  exact ⟨rfl, (((fbelow_a _ hb).alloc (by omega) _).alloc (by simp; omega) _).alloc (by simp; omega) _⟩
set_option maxHeartbeats 2000000 in
theorem word_r {i n l : Int} {d : ByteArray} (h : okF i n l d.size = true) (he : fE n = false) (hr : fR n = true) (hx : fX n = false) (w : World) (hT : Tabs w) :
    Calls Tryz.prog 64 #[.agg #[.int .i64 i, .int .i64 n, .int .i64 l, .string d]] w fun e w' => e = .returned (.int .u32 (i + 1073741824)) ∧ Below w.heap.size w w' := by
  obtain ⟨⟨t, fr, hg⟩, t', fr', hg'⟩ := hT
  have HT := Lib.hid (show Tabs w from ⟨⟨t, fr, hg⟩, t', fr', hg'⟩)
  have HG := Lib.hid hg'
  have H := Lib.hid h
  have g := good h
  have i0 := g.i0
  have i1 := g.top
  have hlt := lt_of_heap hg'
  have a1 := and1_f he
  have a2 := and2_t hr
  have a4 := and4_f hx
  have o1 := or30 i i0 (by omega) (by omega)
  have m0 := mark_0
  have m1 := mark_1
  have m2 := mark_2
  clear hg hg' h g he hr hx
  go_enter Tryz.func64, Tryz.ntmps64
  go_wp2_with fail
  refine (right_t H.out _ (HT.out.alloc _)).mono ?_
  rintro e w1 ⟨rfl, hb⟩
  obtain ⟨hc, hf⟩ := fbcell hb
  have hz : w.heap.size < w1.heap.size := by have := hb.size; simp only [World.size_alloc] at this; omega
  have hza : w.heap.size ≤ w1.heap.size := by omega
  have hzb : w.heap.size ≤ w1.heap.size + 1 := by omega
  have hzc : w.heap.size < w1.heap.size + 1 := by omega
  have hzd : w.heap.size < w1.heap.size + 1 + 1 := by omega
  have HG1 : Hid (w1.heap[0]? = some (.cells markCells t' fr')) := by
    show w1.heap[_]? = _
    rw [hb.block _ (Nat.lt_of_lt_of_le hlt (by simp)), Below.heap_alloc _ _ _ hlt]
    exact HG.out
  go_wp2_with (refine wpList_load_row rfl 118 _ rfl 0 rfl t' markCells fr' _ HG1.out Tryz.underlying118 rfl (by kernel_rfl) ?_)
  refine wp_loop_rounds 4 ?_
  iterate 4 (rw [rounds_succ]; go_wp2)
  go_ret
  exact ⟨rfl, (((fbelow_a _ hb).alloc (by omega) _).alloc (by simp; omega) _).alloc (by simp; omega) _⟩
set_option maxHeartbeats 2000000 in
theorem word_er {i n l : Int} {d : ByteArray} (h : okF i n l d.size = true) (he : fE n = true) (hr : fR n = true) (hx : fX n = false) (w : World) (hT : Tabs w) :
    Calls Tryz.prog 64 #[.agg #[.int .i64 i, .int .i64 n, .int .i64 l, .string d]] w fun e w' => e = .returned (.int .u32 (i + 2147483648 + 1073741824)) ∧ Below w.heap.size w w' := by
  obtain ⟨⟨t, fr, hg⟩, t', fr', hg'⟩ := hT
  have HT := Lib.hid (show Tabs w from ⟨⟨t, fr, hg⟩, t', fr', hg'⟩)
  have HG := Lib.hid hg'
  have H := Lib.hid h
  have g := good h
  have i0 := g.i0
  have i1 := g.top
  have hlt := lt_of_heap hg'
  have a1 := and1_t he
  have a2 := and2_t hr
  have a4 := and4_f hx
  have o1 := or31 i i0 (by omega)
  have o2 := or30 (i + 2147483648) (by omega) (by omega) (by omega)
  have m0 := mark_0
  have m1 := mark_1
  have m2 := mark_2
  clear hg hg' h g he hr hx
  go_enter Tryz.func64, Tryz.ntmps64
  go_wp2_with fail
  refine (right_t H.out _ (HT.out.alloc _)).mono ?_
  rintro e w1 ⟨rfl, hb⟩
  obtain ⟨hc, hf⟩ := fbcell hb
  have hz : w.heap.size < w1.heap.size := by have := hb.size; simp only [World.size_alloc] at this; omega
  have hza : w.heap.size ≤ w1.heap.size := by omega
  have hzb : w.heap.size ≤ w1.heap.size + 1 := by omega
  have hzc : w.heap.size < w1.heap.size + 1 := by omega
  have hzd : w.heap.size < w1.heap.size + 1 + 1 := by omega
  have HG1 : Hid (w1.heap[0]? = some (.cells markCells t' fr')) := by
    show w1.heap[_]? = _
    rw [hb.block _ (Nat.lt_of_lt_of_le hlt (by simp)), Below.heap_alloc _ _ _ hlt]
    exact HG.out
  go_wp2_with (refine wpList_load_row rfl 118 _ rfl 0 rfl t' markCells fr' _ HG1.out Tryz.underlying118 rfl (by kernel_rfl) ?_)
  refine wp_loop_rounds 4 ?_
  iterate 4 (rw [rounds_succ]; go_wp2)
  go_ret
  exact ⟨rfl, (((fbelow_a _ hb).alloc (by omega) _).alloc (by simp; omega) _).alloc (by simp; omega) _⟩

theorem word_t {i n l : Int} {d : ByteArray} (h : okF i n l d.size = true) (w : World) (hT : Tabs w) :
    Calls Tryz.prog 64 #[.agg #[.int .i64 i, .int .i64 n, .int .i64 l, .string d]] w fun e w' => e = .returned (.int .u32 (wordN i n)) ∧ Below w.heap.size w w' := by
  have g := good h
  unfold wordN b01
  cases hx : fX n
  · cases he : fE n <;> cases hr : fR n
    · exact (word_0 h he hr hx w hT).mono fun _ _ ⟨h1, h2⟩ => ⟨by rw [h1]; exact fret_int (by simp), h2⟩
    · exact (word_r h he hr hx w hT).mono fun _ _ ⟨h1, h2⟩ => ⟨by rw [h1]; exact fret_int (by simp), h2⟩
    · exact (word_e h he hr hx w hT).mono fun _ _ ⟨h1, h2⟩ => ⟨by rw [h1]; exact fret_int (by simp), h2⟩
    · exact (word_er h he hr hx w hT).mono fun _ _ ⟨h1, h2⟩ => ⟨by rw [h1]; exact fret_int (by simp), h2⟩
  · obtain ⟨he, hr, _⟩ := g.noXE hx
    rw [he, hr]
    exact (word_x h he hr hx w hT).mono fun _ _ ⟨h1, h2⟩ => ⟨by rw [h1]; exact fret_int (by simp), h2⟩

set_option maxHeartbeats 2000000 in
theorem rword_x {i n l : Int} {d : ByteArray} (h : okF i n l d.size = true) (he : fE n = false) (hr : fR n = false) (hx : fX n = true) (w : World) :
    Calls Tryz.prog 90 #[.agg #[.int .i64 i, .int .i64 n, .int .i64 l, .string d]] w fun e w' => e = .returned (.int .u32 (i + 536870912)) ∧ Below w.heap.size w w' := by
  have H := Lib.hid h
  have g := good h
  have i0 := g.i0
  have i1 := g.top
  have n0 := g.n0
  have n1 := g.n1
  have He := Lib.hid he
  have Hr := Lib.hid hr
  have Hx := Lib.hid hx
  clear h g he hr hx
  go_enter Tryz.func90, Tryz.ntmps90
  go_wp2_with fail
  refine (rright_v H.out _).mono ?_
  rintro e w1 ⟨rfl, hb1⟩
  obtain ⟨hc1, hf1⟩ := fbcell hb1
  have hz1 : w.heap.size < w1.heap.size := by have := hb1.size; simp only [World.size_alloc] at this; omega
  go_wp2_with fail
  refine (has1 He.out n0 n1 _ _ _ _).mono ?_
  rintro e w2 ⟨rfl, hb2⟩
  obtain ⟨hc2, hf2⟩ := fbcell hb2
  have hz2 := Nat.lt_of_lt_of_le hz1 hb2.size
  go_wp2_with fail
  refine (has2 Hr.out n0 n1 _ _ _ _).mono ?_
  rintro e w3 ⟨rfl, hb3⟩
  obtain ⟨hc3, hf3⟩ := fbcell hb3
  go_wp2_with fail
  refine (has4 Hx.out n0 n1 _ _ _ _).mono ?_
  rintro e w4 ⟨rfl, hb4⟩
  go_wp2
  go_ret
  exact ⟨rfl, fbelow_t (fbelow_t (fbelow_t (fbelow_a _ hb1) hb2) hb3) hb4⟩
set_option maxHeartbeats 2000000 in
theorem rword_0 {i n l : Int} {d : ByteArray} (h : okF i n l d.size = true) (he : fE n = false) (hr : fR n = false) (hx : fX n = false) (w : World) :
    Calls Tryz.prog 90 #[.agg #[.int .i64 i, .int .i64 n, .int .i64 l, .string d]] w fun e w' => e = .returned (.int .u32 (i)) ∧ Below w.heap.size w w' := by
  have H := Lib.hid h
  have g := good h
  have i0 := g.i0
  have i1 := g.top
  have n0 := g.n0
  have n1 := g.n1
  have He := Lib.hid he
  have Hr := Lib.hid hr
  have Hx := Lib.hid hx
  clear h g he hr hx
  go_enter Tryz.func90, Tryz.ntmps90
  go_wp2_with fail
  refine (rright_v H.out _).mono ?_
  rintro e w1 ⟨rfl, hb1⟩
  obtain ⟨hc1, hf1⟩ := fbcell hb1
  have hz1 : w.heap.size < w1.heap.size := by have := hb1.size; simp only [World.size_alloc] at this; omega
  go_wp2_with fail
  refine (has1 He.out n0 n1 _ _ _ _).mono ?_
  rintro e w2 ⟨rfl, hb2⟩
  obtain ⟨hc2, hf2⟩ := fbcell hb2
  have hz2 := Nat.lt_of_lt_of_le hz1 hb2.size
  go_wp2_with fail
  refine (has2 Hr.out n0 n1 _ _ _ _).mono ?_
  rintro e w3 ⟨rfl, hb3⟩
  obtain ⟨hc3, hf3⟩ := fbcell hb3
  go_wp2_with fail
  refine (has4 Hx.out n0 n1 _ _ _ _).mono ?_
  rintro e w4 ⟨rfl, hb4⟩
  go_wp2
  go_ret
  exact ⟨rfl, fbelow_t (fbelow_t (fbelow_t (fbelow_a _ hb1) hb2) hb3) hb4⟩
set_option maxHeartbeats 2000000 in
theorem rword_e {i n l : Int} {d : ByteArray} (h : okF i n l d.size = true) (he : fE n = true) (hr : fR n = false) (hx : fX n = false) (w : World) :
    Calls Tryz.prog 90 #[.agg #[.int .i64 i, .int .i64 n, .int .i64 l, .string d]] w fun e w' => e = .returned (.int .u32 (i + 2147483648)) ∧ Below w.heap.size w w' := by
  have H := Lib.hid h
  have g := good h
  have i0 := g.i0
  have i1 := g.top
  have n0 := g.n0
  have n1 := g.n1
  have He := Lib.hid he
  have Hr := Lib.hid hr
  have Hx := Lib.hid hx
  clear h g he hr hx
  go_enter Tryz.func90, Tryz.ntmps90
  go_wp2_with fail
  refine (rright_v H.out _).mono ?_
  rintro e w1 ⟨rfl, hb1⟩
  obtain ⟨hc1, hf1⟩ := fbcell hb1
  have hz1 : w.heap.size < w1.heap.size := by have := hb1.size; simp only [World.size_alloc] at this; omega
  go_wp2_with fail
  refine (has1 He.out n0 n1 _ _ _ _).mono ?_
  rintro e w2 ⟨rfl, hb2⟩
  obtain ⟨hc2, hf2⟩ := fbcell hb2
  have hz2 := Nat.lt_of_lt_of_le hz1 hb2.size
  go_wp2_with fail
  refine (has2 Hr.out n0 n1 _ _ _ _).mono ?_
  rintro e w3 ⟨rfl, hb3⟩
  obtain ⟨hc3, hf3⟩ := fbcell hb3
  go_wp2_with fail
  refine (has4 Hx.out n0 n1 _ _ _ _).mono ?_
  rintro e w4 ⟨rfl, hb4⟩
  go_wp2
  go_ret
  exact ⟨rfl, fbelow_t (fbelow_t (fbelow_t (fbelow_a _ hb1) hb2) hb3) hb4⟩
set_option maxHeartbeats 2000000 in
theorem rword_r {i n l : Int} {d : ByteArray} (h : okF i n l d.size = true) (he : fE n = false) (hr : fR n = true) (hx : fX n = false) (w : World) :
    Calls Tryz.prog 90 #[.agg #[.int .i64 i, .int .i64 n, .int .i64 l, .string d]] w fun e w' => e = .returned (.int .u32 (i + 1073741824)) ∧ Below w.heap.size w w' := by
  have H := Lib.hid h
  have g := good h
  have i0 := g.i0
  have i1 := g.top
  have n0 := g.n0
  have n1 := g.n1
  have He := Lib.hid he
  have Hr := Lib.hid hr
  have Hx := Lib.hid hx
  clear h g he hr hx
  go_enter Tryz.func90, Tryz.ntmps90
  go_wp2_with fail
  refine (rright_v H.out _).mono ?_
  rintro e w1 ⟨rfl, hb1⟩
  obtain ⟨hc1, hf1⟩ := fbcell hb1
  have hz1 : w.heap.size < w1.heap.size := by have := hb1.size; simp only [World.size_alloc] at this; omega
  go_wp2_with fail
  refine (has1 He.out n0 n1 _ _ _ _).mono ?_
  rintro e w2 ⟨rfl, hb2⟩
  obtain ⟨hc2, hf2⟩ := fbcell hb2
  have hz2 := Nat.lt_of_lt_of_le hz1 hb2.size
  go_wp2_with fail
  refine (has2 Hr.out n0 n1 _ _ _ _).mono ?_
  rintro e w3 ⟨rfl, hb3⟩
  obtain ⟨hc3, hf3⟩ := fbcell hb3
  go_wp2_with fail
  refine (has4 Hx.out n0 n1 _ _ _ _).mono ?_
  rintro e w4 ⟨rfl, hb4⟩
  go_wp2
  go_ret
  exact ⟨rfl, fbelow_t (fbelow_t (fbelow_t (fbelow_a _ hb1) hb2) hb3) hb4⟩
set_option maxHeartbeats 2000000 in
theorem rword_er {i n l : Int} {d : ByteArray} (h : okF i n l d.size = true) (he : fE n = true) (hr : fR n = true) (hx : fX n = false) (w : World) :
    Calls Tryz.prog 90 #[.agg #[.int .i64 i, .int .i64 n, .int .i64 l, .string d]] w fun e w' => e = .returned (.int .u32 (i + 2147483648 + 1073741824)) ∧ Below w.heap.size w w' := by
  have H := Lib.hid h
  have g := good h
  have i0 := g.i0
  have i1 := g.top
  have n0 := g.n0
  have n1 := g.n1
  have He := Lib.hid he
  have Hr := Lib.hid hr
  have Hx := Lib.hid hx
  clear h g he hr hx
  go_enter Tryz.func90, Tryz.ntmps90
  go_wp2_with fail
  refine (rright_v H.out _).mono ?_
  rintro e w1 ⟨rfl, hb1⟩
  obtain ⟨hc1, hf1⟩ := fbcell hb1
  have hz1 : w.heap.size < w1.heap.size := by have := hb1.size; simp only [World.size_alloc] at this; omega
  go_wp2_with fail
  refine (has1 He.out n0 n1 _ _ _ _).mono ?_
  rintro e w2 ⟨rfl, hb2⟩
  obtain ⟨hc2, hf2⟩ := fbcell hb2
  have hz2 := Nat.lt_of_lt_of_le hz1 hb2.size
  go_wp2_with fail
  refine (has2 Hr.out n0 n1 _ _ _ _).mono ?_
  rintro e w3 ⟨rfl, hb3⟩
  obtain ⟨hc3, hf3⟩ := fbcell hb3
  go_wp2_with fail
  refine (has4 Hx.out n0 n1 _ _ _ _).mono ?_
  rintro e w4 ⟨rfl, hb4⟩
  go_wp2
  go_ret
  exact ⟨rfl, fbelow_t (fbelow_t (fbelow_t (fbelow_a _ hb1) hb2) hb3) hb4⟩

theorem rword_t {i n l : Int} {d : ByteArray} (h : okF i n l d.size = true) (w : World) :
    Calls Tryz.prog 90 #[.agg #[.int .i64 i, .int .i64 n, .int .i64 l, .string d]] w fun e w' => e = .returned (.int .u32 (wordN i n)) ∧ Below w.heap.size w w' := by
  have g := good h
  unfold wordN b01
  cases hx : fX n
  · cases he : fE n <;> cases hr : fR n
    · exact (rword_0 h he hr hx w).mono fun _ _ ⟨h1, h2⟩ => ⟨by rw [h1]; exact fret_int (by simp), h2⟩
    · exact (rword_r h he hr hx w).mono fun _ _ ⟨h1, h2⟩ => ⟨by rw [h1]; exact fret_int (by simp), h2⟩
    · exact (rword_e h he hr hx w).mono fun _ _ ⟨h1, h2⟩ => ⟨by rw [h1]; exact fret_int (by simp), h2⟩
    · exact (rword_er h he hr hx w).mono fun _ _ ⟨h1, h2⟩ => ⟨by rw [h1]; exact fret_int (by simp), h2⟩
  · obtain ⟨he, hr, _⟩ := g.noXE hx
    rw [he, hr]
    exact (rword_x h he hr hx w).mono fun _ _ ⟨h1, h2⟩ => ⟨by rw [h1]; exact fret_int (by simp), h2⟩

theorem word_v {i n l v : Int} {d : ByteArray} (h : wordV i n l d.size = v) (w : World) (hT : Tabs w) (hn1 : -9223372036854775808 ≤ n) (hn2 : n ≤ 9223372036854775807) :
    Calls Tryz.prog 64 #[.agg #[.int .i64 i, .int .i64 n, .int .i64 l, .string d]] w fun e w' => e = .returned (.int .u32 v) ∧ Below w.heap.size w w' := by
  rw [← h]
  unfold wordV
  cases ho : okF i n l d.size
  · exact word_f ho w hT hn1 hn2
  · exact word_t ho w hT
theorem rword_v {i n l v : Int} {d : ByteArray} (h : wordV i n l d.size = v) (w : World) :
    Calls Tryz.prog 90 #[.agg #[.int .i64 i, .int .i64 n, .int .i64 l, .string d]] w fun e w' => e = .returned (.int .u32 v) ∧ Below w.heap.size w w' := by
  rw [← h]
  unfold wordV
  cases ho : okF i n l d.size
  · exact rword_f ho w
  · exact rword_t ho w

end Go.Proofs.YtmmcjmejcngajaaGreatDoor

namespace Go.Proofs.YtmmcjmejcngajaaGreatDoor
open Go.RowKit
set_option linter.unusedVariables false

/-! ### bytes -/
theorem bt_past2 (s : ByteArray) (k : Nat) (h : s.size ≤ k) : bt s k = 0 := by
  unfold bt
  rw [List.getElem?_eq_none (by simpa using h)]
  rfl
theorem bt_ext {s t : ByteArray} (hs : s.size = t.size) (h : ∀ k, k < s.size → bt s k = bt t k) : s = t := by
  apply ByteArray.ext
  apply Array.toList_inj.1
  apply List.ext_getElem?
  intro k
  by_cases hk : k < s.size
  · have hk' : k < s.data.toList.length := by simpa using hk
    have hk2 : k < t.data.toList.length := by have : k < t.size := by omega
                                              simpa using this
    have := h k hk
    unfold bt at this
    rw [List.getElem?_eq_getElem hk', List.getElem?_eq_getElem hk2] at this ⊢
    simp only [Option.getD_some] at this
    congr 1
    apply UInt8.toNat_inj.1
    omega
  · rw [List.getElem?_eq_none (by simpa using hk), List.getElem?_eq_none (by have : ¬ k < t.size := by omega
                                                                             simpa using this)]
theorem bt_app (a b : ByteArray) (k : Nat) : bt (a ++ b) k = if k < a.size then bt a k else bt b (k - a.size) := by
  have e : (a ++ b).data.toList = a.data.toList ++ b.data.toList := by simp [ByteArray.data_append]
  unfold bt
  rw [e]
  split
  · rename_i h
    rw [List.getElem?_append_left (by simpa using h)]
  · rename_i h
    rw [List.getElem?_append_right (by simpa using h)]
    rfl
theorem bt_nums (L : List Int) (hL : ∀ x ∈ L, 0 ≤ x ∧ x < 256) (k : Nat) : bt (strOfNums L) k = L.getD k 0 := by
  unfold bt
  rw [strOfNums_data, List.getElem?_map]
  by_cases hk : k < L.length
  · have := hL L[k] (List.getElem_mem hk)
    simp only [List.getElem?_eq_getElem hk, Option.map_some, Option.getD_some, List.getD_eq_getElem?_getD, UInt8.toNat_ofNat']
    omega
  · simp [List.getElem?_eq_none (by omega : L.length ≤ k)]
theorem sub_size (s : ByteArray) (a b : Nat) (h : b ≤ s.size) : (s.extract a b).size = b - a := by
  rw [ByteArray.size_extract]; omega
theorem bt_sub (s : ByteArray) (a b k : Nat) (h1 : a + k < b) (h2 : b ≤ s.size) : bt (s.extract a b) k = bt s (a + k) := by
  have hk : k < (s.extract a b).size := by rw [sub_size _ _ _ h2]; omega
  rw [← bt_eq _ k hk, ← bt_eq s (a + k) (by omega), ByteArray.getElem_extract]

theorem Below.allocL {w w1 : World} (h : Below w.heap.size w w1) (o : Obj) : Below w.heap.size w (w1.alloc o) := h.alloc h.size o
theorem index_bt {t : TypeId} {s : ByteArray} {k : Nat} (ht : Tryz.prog.underlying t = some .string) (hk : k < s.size) (w : World) : (Instr.index t (.string s) (.int .i64 k)).run Tryz.prog w = .ok (.int .u8 (bt s k)) w := by
  rw [← bt_eq s k hk]
  simp [go_sem, ht, hk]
theorem seq_beq (a b : ByteArray) : (a.toList == b.toList) = decide (a = b) := by
  rw [Bool.eq_iff_iff, beq_iff_eq, decide_eq_true_eq, ByteArray.toList_eq, ByteArray.toList_eq]
  exact ⟨fun h => ByteArray.ext (Array.toList_inj.1 h), fun h => by rw [h]⟩
theorem seq_self (a : ByteArray) : (a.toList == a.toList) = true := by simp

/-! ### a frame -/
structure Fr where
  i : Int
  n : Int
  l : Int
  d : ByteArray
def Fr.ok (f : Fr) : Bool := okF f.i f.n f.l f.d.size

end Go.Proofs.YtmmcjmejcngajaaGreatDoor

namespace Go.Proofs.YtmmcjmejcngajaaGreatDoor
open Go.RowKit
set_option linter.unusedVariables false

/-! ### texts as lists of bytes -/
def byL (s : ByteArray) : List Int := s.data.toList.map fun b => (b.toNat : Int)
def isBy (L : List Int) : Prop := ∀ x ∈ L, 0 ≤ x ∧ x < 256
theorem byL_len (s : ByteArray) : (byL s).length = s.size := by simp [byL]
theorem byL_by (s : ByteArray) : isBy (byL s) := by
  intro x hx
  obtain ⟨b, _, rfl⟩ := List.mem_map.1 hx
  have := b.toNat_lt
  omega
theorem nums_byL (s : ByteArray) : strOfNums (byL s) = s := by
  apply ByteArray.ext
  apply Array.toList_inj.1
  rw [strOfNums_data]
  unfold byL
  rw [List.map_map]
  conv => rhs; rw [← List.map_id s.data.toList]
  apply List.map_congr_left
  intro b _
  simp
theorem byL_nums {L : List Int} (h : isBy L) : byL (strOfNums L) = L := by
  unfold byL
  rw [strOfNums_data, List.map_map]
  conv => rhs; rw [← List.map_id L]
  apply List.map_congr_left
  intro x hx
  have := h x hx
  simp only [Function.comp, UInt8.toNat_ofNat', id]
  omega
theorem byL_inj {s t : ByteArray} (h : byL s = byL t) : s = t := by rw [← nums_byL s, h, nums_byL]
theorem byL_app (a b : ByteArray) : byL (a ++ b) = byL a ++ byL b := by unfold byL; simp [ByteArray.data_append]
theorem byL_extract (s : ByteArray) (a b : Nat) : byL (s.extract a b) = ((byL s).take b).drop a := by
  unfold byL
  rw [ByteArray.data_extract, Array.toList_extract]
  simp [List.map_take, List.map_drop, List.extract_eq_take_drop, List.drop_take]
theorem byL_getD (s : ByteArray) (k : Nat) : (byL s).getD k 0 = bt s k := by
  unfold byL bt
  rw [List.getD_eq_getElem?_getD, List.getElem?_map]
  cases s.data.toList[k]? <;> rfl
theorem byL_get {s : ByteArray} {k : Nat} (h : k < s.size) : (byL s)[k]'(by rw [byL_len]; exact h) = bt s k := by
  rw [← byL_getD, List.getD_eq_getElem?_getD, List.getElem?_eq_getElem (by rw [byL_len]; exact h)]; rfl
theorem byL_drop {s : ByteArray} {k : Nat} (h : k < s.size) : (byL s).drop k = bt s k :: (byL s).drop (k + 1) := by
  rw [List.drop_eq_getElem_cons (by rw [byL_len]; exact h), byL_get h]
theorem byL_take {s : ByteArray} {k : Nat} (h : k < s.size) : (byL s).take (k + 1) = (byL s).take k ++ [bt s k] := by
  rw [List.take_succ_eq_append_getElem (by rw [byL_len]; exact h), byL_get h]
theorem isBy_app {a b : List Int} (ha : isBy a) (hb : isBy b) : isBy (a ++ b) := by
  intro x hx
  rcases List.mem_append.1 hx with h | h
  · exact ha x h
  · exact hb x h
theorem isBy_cons {x : Int} {L : List Int} (h0 : 0 ≤ x ∧ x < 256) (h : isBy L) : isBy (x :: L) := by
  intro y hy
  rcases List.mem_cons.1 hy with rfl | hy
  · exact h0
  · exact h y hy
theorem isBy_nil : isBy [] := fun x hx => by cases hx
theorem nums_app (a b : List Int) : strOfNums (a ++ b) = strOfNums a ++ strOfNums b := by
  apply ByteArray.ext
  apply Array.toList_inj.1
  simp [ByteArray.data_append, strOfNums]

end Go.Proofs.YtmmcjmejcngajaaGreatDoor
