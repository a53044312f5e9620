/- Frame: contracts of Word, and of the document's Word. Of no program: bytes of texts one by one; a frame's datum. (Parted from XWirM, so that dump has it with .. -/
import Derived.Test.YtimdkcchjanpaaaGreatDoorZab
import Derived.Test.YtimdkcchjanpaaaGreatDoorZaa
import Derived.StillTail
import Derived.Deep.DrawnRows
set_option maxHeartbeats 2000000
namespace Go.Proofs.YtimdkcchjanpaaaGreatDoor
open Go.RowKit
set_option linter.unusedVariables false
def wordV (i n l:Int) (sz:Nat):Int:=if okF i n l sz then wordN i n else 0
theorem word_f {i n l:Int} {d:ByteArray} (h:okF i n l d.size = false) (w:World) (hT:Tabs w) (hn1 : -9223372036854775808 ≤ n) (hn2:n ≤ 9223372036854775807) :
    Calls Tryz.prog 141 #[.agg #[.int .i64 i, .int .i64 n, .int .i64 l, .string d]] w fun e w' => e = .returned (.int .u32 0) ∧ Below w.heap.size w w':=by
  have HT:=Lib.hid hT
  have H:=Lib.hid h
  clear hT h
  go_enter Tryz.func141,Tryz.ntmps141
  go_wp2_with fail
  refine (right_f H.out _ (HT.out.alloc _) hn1 hn2).mono ?_
  rintro e w1 ⟨rfl,hb⟩
  go_wp2
  go_ret
  exact ⟨rfl,fbelow_a _ hb⟩
theorem rword_f {i n l:Int} {d:ByteArray} (h:okF i n l d.size = false) (w:World) :
    Calls Tryz.prog 150 #[.agg #[.int .i64 i, .int .i64 n, .int .i64 l, .string d]] w fun e w' => e = .returned (.int .u32 0) ∧ Below w.heap.size w w':=by
  have H:=Lib.hid h
  clear h
  go_enter Tryz.func150,Tryz.ntmps150
  go_wp2_with fail
  refine (rright_v H.out _).mono ?_
  rintro e w1 ⟨rfl,hb⟩
  go_wp2
  go_ret
  exact ⟨rfl,fbelow_a _ hb⟩
theorem mark_0:∀ w:World,(Instr.index 189 (.agg markCells) (.int .i64 0)).run Tryz.prog w = .ok (.agg #[.int .i64 1, .int .u32 2147483648]) w:=fun _ => by kernel_rfl
theorem mark_1:∀ w:World,(Instr.index 189 (.agg markCells) (.int .i64 1)).run Tryz.prog w = .ok (.agg #[.int .i64 2, .int .u32 1073741824]) w:=fun _ => by kernel_rfl
theorem mark_2:∀ w:World,(Instr.index 189 (.agg markCells) (.int .i64 2)).run Tryz.prog w = .ok (.agg #[.int .i64 4, .int .u32 536870912]) w:=fun _ => by kernel_rfl
theorem word_x {i n l:Int} {d:ByteArray} (h:okF i n l d.size = true) (he:fE n = false) (hr:fR n = false) (hx:fX n = true) (w:World) (hT:Tabs w) :
    Calls Tryz.prog 141 #[.agg #[.int .i64 i, .int .i64 n, .int .i64 l, .string d]] w fun e w' => e = .returned (.int .u32 (i + 536870912)) ∧ Below w.heap.size w w':=by
  obtain ⟨⟨t,fr,hg⟩,t',fr',hg'⟩:=hT
  have HT:=Lib.hid (show Tabs w from ⟨⟨t,fr,hg⟩,t',fr',hg'⟩)
  have HG:=Lib.hid hg'
  have H:=Lib.hid h
  have g:=good h
  have i0:=g.i0
  have i1:=g.top
  have hlt:=lt_of_heap hg'
  have a1:=and1_f he
  have a2:=and2_f hr
  have a4:=and4_t hx
  have o1:=or29 i i0 (by omega)
  have m0:=mark_0
  have m1:=mark_1
  have m2:=mark_2
  clear hg hg' h g he hr hx
  go_enter Tryz.func141,Tryz.ntmps141
  go_wp2_with fail
  refine (right_t H.out _ (HT.out.alloc _)).mono ?_
  rintro e w1 ⟨rfl,hb⟩
  obtain ⟨hc,hf⟩:=fbcell hb
  have hz:w.heap.size < w1.heap.size:=by have:=hb.size; simp only [World.size_alloc] at this; omega
  have hza:w.heap.size ≤ w1.heap.size:=by omega
  have hzb:w.heap.size ≤ w1.heap.size + 1:=by omega
  have hzc:w.heap.size < w1.heap.size + 1:=by omega
  have hzd:w.heap.size < w1.heap.size + 1 + 1:=by omega
  have HG1:Hid (w1.heap[0]? = some (.cells markCells t' fr')):=by
    show w1.heap[_]? = _
    rw [hb.block _ (Nat.lt_of_lt_of_le hlt (by simp)),Below.heap_alloc _ _ _ hlt]
    exact HG.out
  go_wp2_with (refine wpList_load_row rfl 189 _ rfl 0 rfl t' markCells fr' _ HG1.out Tryz.underlying189 rfl (by kernel_rfl) ?_)
  refine wp_loop_rounds 4 ?_
  iterate 4 (rw [rounds_succ]; go_wp2)
  go_ret
  exact ⟨rfl,(((fbelow_a _ hb).alloc (by omega) _).alloc (by simp; omega) _).alloc (by simp; omega) _⟩
theorem word_0 {i n l:Int} {d:ByteArray} (h:okF i n l d.size = true) (he:fE n = false) (hr:fR n = false) (hx:fX n = false) (w:World) (hT:Tabs w) :
    Calls Tryz.prog 141 #[.agg #[.int .i64 i, .int .i64 n, .int .i64 l, .string d]] w fun e w' => e = .returned (.int .u32 (i)) ∧ Below w.heap.size w w':=by
  obtain ⟨⟨t,fr,hg⟩,t',fr',hg'⟩:=hT
  have HT:=Lib.hid (show Tabs w from ⟨⟨t,fr,hg⟩,t',fr',hg'⟩)
  have HG:=Lib.hid hg'
  have H:=Lib.hid h
  have g:=good h
  have i0:=g.i0
  have i1:=g.top
  have hlt:=lt_of_heap hg'
  have a1:=and1_f he
  have a2:=and2_f hr
  have a4:=and4_f hx
  have m0:=mark_0
  have m1:=mark_1
  have m2:=mark_2
  clear hg hg' h g he hr hx
  go_enter Tryz.func141,Tryz.ntmps141
  go_wp2_with fail
  refine (right_t H.out _ (HT.out.alloc _)).mono ?_
  rintro e w1 ⟨rfl,hb⟩
  obtain ⟨hc,hf⟩:=fbcell hb
  have hz:w.heap.size < w1.heap.size:=by have:=hb.size; simp only [World.size_alloc] at this; omega
  have hza:w.heap.size ≤ w1.heap.size:=by omega
  have hzb:w.heap.size ≤ w1.heap.size + 1:=by omega
  have hzc:w.heap.size < w1.heap.size + 1:=by omega
  have hzd:w.heap.size < w1.heap.size + 1 + 1:=by omega
  have HG1:Hid (w1.heap[0]? = some (.cells markCells t' fr')):=by
    show w1.heap[_]? = _
    rw [hb.block _ (Nat.lt_of_lt_of_le hlt (by simp)),Below.heap_alloc _ _ _ hlt]
    exact HG.out
  go_wp2_with (refine wpList_load_row rfl 189 _ rfl 0 rfl t' markCells fr' _ HG1.out Tryz.underlying189 rfl (by kernel_rfl) ?_)
  refine wp_loop_rounds 4 ?_
  iterate 4 (rw [rounds_succ]; go_wp2)
  go_ret
  exact ⟨rfl,(((fbelow_a _ hb).alloc (by omega) _).alloc (by simp; omega) _).alloc (by simp; omega) _⟩
theorem word_e {i n l:Int} {d:ByteArray} (h:okF i n l d.size = true) (he:fE n = true) (hr:fR n = false) (hx:fX n = false) (w:World) (hT:Tabs w) :
    Calls Tryz.prog 141 #[.agg #[.int .i64 i, .int .i64 n, .int .i64 l, .string d]] w fun e w' => e = .returned (.int .u32 (i + 2147483648)) ∧ Below w.heap.size w w':=by
  obtain ⟨⟨t,fr,hg⟩,t',fr',hg'⟩:=hT
  have HT:=Lib.hid (show Tabs w from ⟨⟨t,fr,hg⟩,t',fr',hg'⟩)
  have HG:=Lib.hid hg'
  have H:=Lib.hid h
  have g:=good h
  have i0:=g.i0
  have i1:=g.top
  have hlt:=lt_of_heap hg'
  have a1:=and1_t he
  have a2:=and2_f hr
  have a4:=and4_f hx
  have o1:=or31 i i0 (by omega)
  have m0:=mark_0
  have m1:=mark_1
  have m2:=mark_2
  clear hg hg' h g he hr hx
  go_enter Tryz.func141,Tryz.ntmps141
  go_wp2_with fail
  refine (right_t H.out _ (HT.out.alloc _)).mono ?_
  rintro e w1 ⟨rfl,hb⟩
  obtain ⟨hc,hf⟩:=fbcell hb
  have hz:w.heap.size < w1.heap.size:=by have:=hb.size; simp only [World.size_alloc] at this; omega
  have hza:w.heap.size ≤ w1.heap.size:=by omega
  have hzb:w.heap.size ≤ w1.heap.size + 1:=by omega
  have hzc:w.heap.size < w1.heap.size + 1:=by omega
  have hzd:w.heap.size < w1.heap.size + 1 + 1:=by omega
  have HG1:Hid (w1.heap[0]? = some (.cells markCells t' fr')):=by
    show w1.heap[_]? = _
    rw [hb.block _ (Nat.lt_of_lt_of_le hlt (by simp)),Below.heap_alloc _ _ _ hlt]
    exact HG.out
  go_wp2_with (refine wpList_load_row rfl 189 _ rfl 0 rfl t' markCells fr' _ HG1.out Tryz.underlying189 rfl (by kernel_rfl) ?_)
  refine wp_loop_rounds 4 ?_
  iterate 4 (rw [rounds_succ]; go_wp2)
  go_ret
  exact ⟨rfl,(((fbelow_a _ hb).alloc (by omega) _).alloc (by simp; omega) _).alloc (by simp; omega) _⟩
theorem word_r {i n l:Int} {d:ByteArray} (h:okF i n l d.size = true) (he:fE n = false) (hr:fR n = true) (hx:fX n = false) (w:World) (hT:Tabs w) :
    Calls Tryz.prog 141 #[.agg #[.int .i64 i, .int .i64 n, .int .i64 l, .string d]] w fun e w' => e = .returned (.int .u32 (i + 1073741824)) ∧ Below w.heap.size w w':=by
  obtain ⟨⟨t,fr,hg⟩,t',fr',hg'⟩:=hT
  have HT:=Lib.hid (show Tabs w from ⟨⟨t,fr,hg⟩,t',fr',hg'⟩)
  have HG:=Lib.hid hg'
  have H:=Lib.hid h
  have g:=good h
  have i0:=g.i0
  have i1:=g.top
  have hlt:=lt_of_heap hg'
  have a1:=and1_f he
  have a2:=and2_t hr
  have a4:=and4_f hx
  have o1:=or30 i i0 (by omega) (by omega)
  have m0:=mark_0
  have m1:=mark_1
  have m2:=mark_2
  clear hg hg' h g he hr hx
  go_enter Tryz.func141,Tryz.ntmps141
  go_wp2_with fail
  refine (right_t H.out _ (HT.out.alloc _)).mono ?_
  rintro e w1 ⟨rfl,hb⟩
  obtain ⟨hc,hf⟩:=fbcell hb
  have hz:w.heap.size < w1.heap.size:=by have:=hb.size; simp only [World.size_alloc] at this; omega
  have hza:w.heap.size ≤ w1.heap.size:=by omega
  have hzb:w.heap.size ≤ w1.heap.size + 1:=by omega
  have hzc:w.heap.size < w1.heap.size + 1:=by omega
  have hzd:w.heap.size < w1.heap.size + 1 + 1:=by omega
  have HG1:Hid (w1.heap[0]? = some (.cells markCells t' fr')):=by
    show w1.heap[_]? = _
    rw [hb.block _ (Nat.lt_of_lt_of_le hlt (by simp)),Below.heap_alloc _ _ _ hlt]
    exact HG.out
  go_wp2_with (refine wpList_load_row rfl 189 _ rfl 0 rfl t' markCells fr' _ HG1.out Tryz.underlying189 rfl (by kernel_rfl) ?_)
  refine wp_loop_rounds 4 ?_
  iterate 4 (rw [rounds_succ]; go_wp2)
  go_ret
  exact ⟨rfl,(((fbelow_a _ hb).alloc (by omega) _).alloc (by simp; omega) _).alloc (by simp; omega) _⟩
theorem word_er {i n l:Int} {d:ByteArray} (h:okF i n l d.size = true) (he:fE n = true) (hr:fR n = true) (hx:fX n = false) (w:World) (hT:Tabs w) :
    Calls Tryz.prog 141 #[.agg #[.int .i64 i, .int .i64 n, .int .i64 l, .string d]] w fun e w' => e = .returned (.int .u32 (i + 2147483648 + 1073741824)) ∧ Below w.heap.size w w':=by
  obtain ⟨⟨t,fr,hg⟩,t',fr',hg'⟩:=hT
  have HT:=Lib.hid (show Tabs w from ⟨⟨t,fr,hg⟩,t',fr',hg'⟩)
  have HG:=Lib.hid hg'
  have H:=Lib.hid h
  have g:=good h
  have i0:=g.i0
  have i1:=g.top
  have hlt:=lt_of_heap hg'
  have a1:=and1_t he
  have a2:=and2_t hr
  have a4:=and4_f hx
  have o1:=or31 i i0 (by omega)
  have o2:=or30 (i + 2147483648) (by omega) (by omega) (by omega)
  have m0:=mark_0
  have m1:=mark_1
  have m2:=mark_2
  clear hg hg' h g he hr hx
  go_enter Tryz.func141,Tryz.ntmps141
  go_wp2_with fail
  refine (right_t H.out _ (HT.out.alloc _)).mono ?_
  rintro e w1 ⟨rfl,hb⟩
  obtain ⟨hc,hf⟩:=fbcell hb
  have hz:w.heap.size < w1.heap.size:=by have:=hb.size; simp only [World.size_alloc] at this; omega
  have hza:w.heap.size ≤ w1.heap.size:=by omega
  have hzb:w.heap.size ≤ w1.heap.size + 1:=by omega
  have hzc:w.heap.size < w1.heap.size + 1:=by omega
  have hzd:w.heap.size < w1.heap.size + 1 + 1:=by omega
  have HG1:Hid (w1.heap[0]? = some (.cells markCells t' fr')):=by
    show w1.heap[_]? = _
    rw [hb.block _ (Nat.lt_of_lt_of_le hlt (by simp)),Below.heap_alloc _ _ _ hlt]
    exact HG.out
  go_wp2_with (refine wpList_load_row rfl 189 _ rfl 0 rfl t' markCells fr' _ HG1.out Tryz.underlying189 rfl (by kernel_rfl) ?_)
  refine wp_loop_rounds 4 ?_
  iterate 4 (rw [rounds_succ]; go_wp2)
  go_ret
  exact ⟨rfl,(((fbelow_a _ hb).alloc (by omega) _).alloc (by simp; omega) _).alloc (by simp; omega) _⟩
theorem word_t {i n l:Int} {d:ByteArray} (h:okF i n l d.size = true) (w:World) (hT:Tabs w) :
    Calls Tryz.prog 141 #[.agg #[.int .i64 i, .int .i64 n, .int .i64 l, .string d]] w fun e w' => e = .returned (.int .u32 (wordN i n)) ∧ Below w.heap.size w w':=by
  have g:=good h
  unfold wordN b01
  cases hx:fX n
  · cases he:fE n <;> cases hr:fR n
    · exact (word_0 h he hr hx w hT).mono fun _ _ ⟨h1,h2⟩ => ⟨by rw [h1]; exact fret_int (by simp),h2⟩
    · exact (word_r h he hr hx w hT).mono fun _ _ ⟨h1,h2⟩ => ⟨by rw [h1]; exact fret_int (by simp),h2⟩
    · exact (word_e h he hr hx w hT).mono fun _ _ ⟨h1,h2⟩ => ⟨by rw [h1]; exact fret_int (by simp),h2⟩
    · exact (word_er h he hr hx w hT).mono fun _ _ ⟨h1,h2⟩ => ⟨by rw [h1]; exact fret_int (by simp),h2⟩
  · obtain ⟨he,hr,_⟩:=g.noXE hx
    rw [he,hr]
    exact (word_x h he hr hx w hT).mono fun _ _ ⟨h1,h2⟩ => ⟨by rw [h1]; exact fret_int (by simp),h2⟩
theorem rword_x {i n l:Int} {d:ByteArray} (h:okF i n l d.size = true) (he:fE n = false) (hr:fR n = false) (hx:fX n = true) (w:World) :
    Calls Tryz.prog 150 #[.agg #[.int .i64 i, .int .i64 n, .int .i64 l, .string d]] w fun e w' => e = .returned (.int .u32 (i + 536870912)) ∧ Below w.heap.size w w':=by
  have H:=Lib.hid h
  have g:=good h
  have i0:=g.i0
  have i1:=g.top
  have n0:=g.n0
  have n1:=g.n1
  have He:=Lib.hid he
  have Hr:=Lib.hid hr
  have Hx:=Lib.hid hx
  clear h g he hr hx
  go_enter Tryz.func150,Tryz.ntmps150
  go_wp2_with fail
  refine (rright_v H.out _).mono ?_
  rintro e w1 ⟨rfl,hb1⟩
  obtain ⟨hc1,hf1⟩:=fbcell hb1
  have hz1:w.heap.size < w1.heap.size:=by have:=hb1.size; simp only [World.size_alloc] at this; omega
  go_wp2_with fail
  refine (has1 He.out n0 n1 _ _ _ _).mono ?_
  rintro e w2 ⟨rfl,hb2⟩
  obtain ⟨hc2,hf2⟩:=fbcell hb2
  have hz2:=Nat.lt_of_lt_of_le hz1 hb2.size
  go_wp2_with fail
  refine (has2 Hr.out n0 n1 _ _ _ _).mono ?_
  rintro e w3 ⟨rfl,hb3⟩
  obtain ⟨hc3,hf3⟩:=fbcell hb3
  go_wp2_with fail
  refine (has4 Hx.out n0 n1 _ _ _ _).mono ?_
  rintro e w4 ⟨rfl,hb4⟩
  go_wp2
  go_ret
  exact ⟨rfl,fbelow_t (fbelow_t (fbelow_t (fbelow_a _ hb1) hb2) hb3) hb4⟩
theorem rword_0 {i n l:Int} {d:ByteArray} (h:okF i n l d.size = true) (he:fE n = false) (hr:fR n = false) (hx:fX n = false) (w:World) :
    Calls Tryz.prog 150 #[.agg #[.int .i64 i, .int .i64 n, .int .i64 l, .string d]] w fun e w' => e = .returned (.int .u32 (i)) ∧ Below w.heap.size w w':=by
  have H:=Lib.hid h
  have g:=good h
  have i0:=g.i0
  have i1:=g.top
  have n0:=g.n0
  have n1:=g.n1
  have He:=Lib.hid he
  have Hr:=Lib.hid hr
  have Hx:=Lib.hid hx
  clear h g he hr hx
  go_enter Tryz.func150,Tryz.ntmps150
  go_wp2_with fail
  refine (rright_v H.out _).mono ?_
  rintro e w1 ⟨rfl,hb1⟩
  obtain ⟨hc1,hf1⟩:=fbcell hb1
  have hz1:w.heap.size < w1.heap.size:=by have:=hb1.size; simp only [World.size_alloc] at this; omega
  go_wp2_with fail
  refine (has1 He.out n0 n1 _ _ _ _).mono ?_
  rintro e w2 ⟨rfl,hb2⟩
  obtain ⟨hc2,hf2⟩:=fbcell hb2
  have hz2:=Nat.lt_of_lt_of_le hz1 hb2.size
  go_wp2_with fail
  refine (has2 Hr.out n0 n1 _ _ _ _).mono ?_
  rintro e w3 ⟨rfl,hb3⟩
  obtain ⟨hc3,hf3⟩:=fbcell hb3
  go_wp2_with fail
  refine (has4 Hx.out n0 n1 _ _ _ _).mono ?_
  rintro e w4 ⟨rfl,hb4⟩
  go_wp2
  go_ret
  exact ⟨rfl,fbelow_t (fbelow_t (fbelow_t (fbelow_a _ hb1) hb2) hb3) hb4⟩
theorem rword_e {i n l:Int} {d:ByteArray} (h:okF i n l d.size = true) (he:fE n = true) (hr:fR n = false) (hx:fX n = false) (w:World) :
    Calls Tryz.prog 150 #[.agg #[.int .i64 i, .int .i64 n, .int .i64 l, .string d]] w fun e w' => e = .returned (.int .u32 (i + 2147483648)) ∧ Below w.heap.size w w':=by
  have H:=Lib.hid h
  have g:=good h
  have i0:=g.i0
  have i1:=g.top
  have n0:=g.n0
  have n1:=g.n1
  have He:=Lib.hid he
  have Hr:=Lib.hid hr
  have Hx:=Lib.hid hx
  clear h g he hr hx
  go_enter Tryz.func150,Tryz.ntmps150
  go_wp2_with fail
  refine (rright_v H.out _).mono ?_
  rintro e w1 ⟨rfl,hb1⟩
  obtain ⟨hc1,hf1⟩:=fbcell hb1
  have hz1:w.heap.size < w1.heap.size:=by have:=hb1.size; simp only [World.size_alloc] at this; omega
  go_wp2_with fail
  refine (has1 He.out n0 n1 _ _ _ _).mono ?_
  rintro e w2 ⟨rfl,hb2⟩
  obtain ⟨hc2,hf2⟩:=fbcell hb2
  have hz2:=Nat.lt_of_lt_of_le hz1 hb2.size
  go_wp2_with fail
  refine (has2 Hr.out n0 n1 _ _ _ _).mono ?_
  rintro e w3 ⟨rfl,hb3⟩
  obtain ⟨hc3,hf3⟩:=fbcell hb3
  go_wp2_with fail
  refine (has4 Hx.out n0 n1 _ _ _ _).mono ?_
  rintro e w4 ⟨rfl,hb4⟩
  go_wp2
  go_ret
  exact ⟨rfl,fbelow_t (fbelow_t (fbelow_t (fbelow_a _ hb1) hb2) hb3) hb4⟩
theorem rword_r {i n l:Int} {d:ByteArray} (h:okF i n l d.size = true) (he:fE n = false) (hr:fR n = true) (hx:fX n = false) (w:World) :
    Calls Tryz.prog 150 #[.agg #[.int .i64 i, .int .i64 n, .int .i64 l, .string d]] w fun e w' => e = .returned (.int .u32 (i + 1073741824)) ∧ Below w.heap.size w w':=by
  have H:=Lib.hid h
  have g:=good h
  have i0:=g.i0
  have i1:=g.top
  have n0:=g.n0
  have n1:=g.n1
  have He:=Lib.hid he
  have Hr:=Lib.hid hr
  have Hx:=Lib.hid hx
  clear h g he hr hx
  go_enter Tryz.func150,Tryz.ntmps150
  go_wp2_with fail
  refine (rright_v H.out _).mono ?_
  rintro e w1 ⟨rfl,hb1⟩
  obtain ⟨hc1,hf1⟩:=fbcell hb1
  have hz1:w.heap.size < w1.heap.size:=by have:=hb1.size; simp only [World.size_alloc] at this; omega
  go_wp2_with fail
  refine (has1 He.out n0 n1 _ _ _ _).mono ?_
  rintro e w2 ⟨rfl,hb2⟩
  obtain ⟨hc2,hf2⟩:=fbcell hb2
  have hz2:=Nat.lt_of_lt_of_le hz1 hb2.size
  go_wp2_with fail
  refine (has2 Hr.out n0 n1 _ _ _ _).mono ?_
  rintro e w3 ⟨rfl,hb3⟩
  obtain ⟨hc3,hf3⟩:=fbcell hb3
  go_wp2_with fail
  refine (has4 Hx.out n0 n1 _ _ _ _).mono ?_
  rintro e w4 ⟨rfl,hb4⟩
  go_wp2
  go_ret
  exact ⟨rfl,fbelow_t (fbelow_t (fbelow_t (fbelow_a _ hb1) hb2) hb3) hb4⟩
theorem rword_er {i n l:Int} {d:ByteArray} (h:okF i n l d.size = true) (he:fE n = true) (hr:fR n = true) (hx:fX n = false) (w:World) :
    Calls Tryz.prog 150 #[.agg #[.int .i64 i, .int .i64 n, .int .i64 l, .string d]] w fun e w' => e = .returned (.int .u32 (i + 2147483648 + 1073741824)) ∧ Below w.heap.size w w':=by
  have H:=Lib.hid h
  have g:=good h
  have i0:=g.i0
  have i1:=g.top
  have n0:=g.n0
  have n1:=g.n1
  have He:=Lib.hid he
  have Hr:=Lib.hid hr
  have Hx:=Lib.hid hx
  clear h g he hr hx
  go_enter Tryz.func150,Tryz.ntmps150
  go_wp2_with fail
  refine (rright_v H.out _).mono ?_
  rintro e w1 ⟨rfl,hb1⟩
  obtain ⟨hc1,hf1⟩:=fbcell hb1
  have hz1:w.heap.size < w1.heap.size:=by have:=hb1.size; simp only [World.size_alloc] at this; omega
  go_wp2_with fail
  refine (has1 He.out n0 n1 _ _ _ _).mono ?_
  rintro e w2 ⟨rfl,hb2⟩
  obtain ⟨hc2,hf2⟩:=fbcell hb2
  have hz2:=Nat.lt_of_lt_of_le hz1 hb2.size
  go_wp2_with fail
  refine (has2 Hr.out n0 n1 _ _ _ _).mono ?_
  rintro e w3 ⟨rfl,hb3⟩
  obtain ⟨hc3,hf3⟩:=fbcell hb3
  go_wp2_with fail
  refine (has4 Hx.out n0 n1 _ _ _ _).mono ?_
  rintro e w4 ⟨rfl,hb4⟩
  go_wp2
  go_ret
  exact ⟨rfl,fbelow_t (fbelow_t (fbelow_t (fbelow_a _ hb1) hb2) hb3) hb4⟩
theorem rword_t {i n l:Int} {d:ByteArray} (h:okF i n l d.size = true) (w:World) :
    Calls Tryz.prog 150 #[.agg #[.int .i64 i, .int .i64 n, .int .i64 l, .string d]] w fun e w' => e = .returned (.int .u32 (wordN i n)) ∧ Below w.heap.size w w':=by
  have g:=good h
  unfold wordN b01
  cases hx:fX n
  · cases he:fE n <;> cases hr:fR n
    · exact (rword_0 h he hr hx w).mono fun _ _ ⟨h1,h2⟩ => ⟨by rw [h1]; exact fret_int (by simp),h2⟩
    · exact (rword_r h he hr hx w).mono fun _ _ ⟨h1,h2⟩ => ⟨by rw [h1]; exact fret_int (by simp),h2⟩
    · exact (rword_e h he hr hx w).mono fun _ _ ⟨h1,h2⟩ => ⟨by rw [h1]; exact fret_int (by simp),h2⟩
    · exact (rword_er h he hr hx w).mono fun _ _ ⟨h1,h2⟩ => ⟨by rw [h1]; exact fret_int (by simp),h2⟩
  · obtain ⟨he,hr,_⟩:=g.noXE hx
    rw [he,hr]
    exact (rword_x h he hr hx w).mono fun _ _ ⟨h1,h2⟩ => ⟨by rw [h1]; exact fret_int (by simp),h2⟩
theorem word_v {i n l v:Int} {d:ByteArray} (h:wordV i n l d.size = v) (w:World) (hT:Tabs w) (hn1 : -9223372036854775808 ≤ n) (hn2:n ≤ 9223372036854775807) :
    Calls Tryz.prog 141 #[.agg #[.int .i64 i, .int .i64 n, .int .i64 l, .string d]] w fun e w' => e = .returned (.int .u32 v) ∧ Below w.heap.size w w':=by
  rw [← h]
  unfold wordV
  cases ho:okF i n l d.size
  · exact word_f ho w hT hn1 hn2
  · exact word_t ho w hT
theorem rword_v {i n l v:Int} {d:ByteArray} (h:wordV i n l d.size = v) (w:World) :
    Calls Tryz.prog 150 #[.agg #[.int .i64 i, .int .i64 n, .int .i64 l, .string d]] w fun e w' => e = .returned (.int .u32 v) ∧ Below w.heap.size w w':=by
  rw [← h]
  unfold wordV
  cases ho:okF i n l d.size
  · exact rword_f ho w
  · exact rword_t ho w
end Go.Proofs.YtimdkcchjanpaaaGreatDoor
namespace Go.Proofs.YtimdkcchjanpaaaGreatDoor
open Go.RowKit
set_option linter.unusedVariables false
theorem Below.allocL {w w1:World} (h:Below w.heap.size w w1) (o:Obj):Below w.heap.size w (w1.alloc o):=h.alloc h.size o
structure Fr where
  i:Int
  n:Int
  l:Int
  d:ByteArray
end Go.Proofs.YtimdkcchjanpaaaGreatDoor
namespace Go.Proofs.YtimdkcchjanpaaaGreatDoor
open Go.RowKit
set_option linter.unusedVariables false
end Go.Proofs.YtimdkcchjanpaaaGreatDoor
namespace Go.Proofs.YtimdkcchjanpaaaGreatDoor
open Go.RowKit
set_option linter.unusedVariables false
section
variable {P:Program} {ops:Array Oper} {md:Region.Mode} {W:World} {sec:List Tmp} {F:Tmp → Value → World → Prop}
def secUpon (P:Program) (w:World) (good:Value → World → Prop):Result Next → Prop
  | .ok (.value u) w' => Below w.heap.size w w' ∧ good u w'
  | .ok .skip w' => Below w.heap.size w w' ∧ good undef w'
  | .ok (.enter f args) w' => w' = w ∧ Calls P f args w (fun e w'' => ∃ u,e = .returned u ∧ Below w.heap.size w w'' ∧ good u w'')
  | _ => False
def secGood (sec:List Tmp) (F:Tmp → Value → World → Prop) (d:Option Tmp) (v u:Value) (w:World):Prop :=
  match d with
  | some t => if t ∈ sec then F t u w else u = v
  | none => True
def secLooks (ops:Array Oper) (sec:List Tmp) (F:Tmp → Value → World → Prop) (o:Oper) (h a:Act) (w:World):Prop :=
  ∀ t ∈ o.looksAt ops,if t ∈ sec then F t (a.tmps.getD t undef) w else a.tmps.getD t undef = h.tmps.getD t undef
def secSpec (P:Program) (ops:Array Oper) (W:World) (sec:List Tmp) (F:Tmp → Value → World → Prop) (o:Oper) (h:Act) (v:Value):Prop :=
  ∀ (a:Act) (w:World),Below W.heap.size W w → secLooks ops sec F o h a w → secUpon P w (secGood sec F o.dst v) ((execOp a.eval o).run P w)
def secOp (P:Program) (ops:Array Oper) (W:World) (sec:List Tmp) (F:Tmp → Value → World → Prop) (i:Nat) (K:Act → Prop) (h:Act):Prop :=
  match ops[i]? with
  | none => K h
  | some o => if Region.wanted o (yielded ops h.tmps) then ∃ v,secSpec P ops W sec F o h v ∧ K (h.put o.dst v) else (∀ d,o.dst = some d → d ∉ sec) ∧ K (h.put o.dst undef)
def wpSec (P:Program) (ops:Array Oper) (W:World) (sec:List Tmp) (F:Tmp → Value → World → Prop) (Q:Act → Prop):List Oper → Act → Prop
  | [],h => Q h
  | o :: rest,h => if Region.wanted o (yielded ops h.tmps) then ∃ v,secSpec P ops W sec F o h v ∧ wpSec P ops W sec F Q rest (h.put o.dst v)
      else (∀ d,o.dst = some d → d ∉ sec) ∧ wpSec P ops W sec F Q rest (h.put o.dst undef)
theorem getD_put (a:Act) (d:Tmp) (v:Value) (t:Tmp):(a.put (some d) v).tmps.getD t undef = if d = t ∧ d < a.tmps.size then v else a.tmps.getD t undef:=by
  simp only [Act.put,Array.getD_eq_getD_getElem?,Array.getElem?_setIfInBounds]
  split
  · rename_i e
    subst e
    split
    · rename_i h; simp [h]
    · rename_i h; simp [h]
  · rename_i e; simp [e]
theorem getD_put_ne (a:Act) {d:Option Tmp} (v:Value) (t:Tmp) (h:∀ x,d = some x → x ≠ t):(a.put d v).tmps.getD t undef = a.tmps.getD t undef:=by
  cases d with
  | none => rfl
  | some d => rw [getD_put,if_neg (fun e => h d rfl e.1)]
theorem put_size (a:Act) (d:Option Tmp) (v:Value):(a.put d v).tmps.size = a.tmps.size:=by
  cases d <;> simp [Act.put]
theorem put_defers (a:Act) (d:Option Tmp) (v:Value):(a.put d v).defers = a.defers:=by cases d <;> rfl
theorem getD_at (xs:Array Value) (i:Nat) (h:i < xs.size):xs.getD i undef = xs[i]:=by simp [Array.getD,h]
structure SecAg (sec:List Tmp) (h a:Act):Prop where
  defers:a.defers = h.defers
  size:a.tmps.size = h.tmps.size
  eq:∀ t,t ∉ sec → a.tmps.getD t undef = h.tmps.getD t undef
theorem SecAg.refl (h:Act):SecAg sec h h:=⟨rfl,rfl,fun _ _ => rfl⟩
theorem SecAg.put {h a:Act} (hag:SecAg sec h a) {d:Option Tmp} {u v:Value} (hd:∀ t,d = some t → t ∈ sec ∨ u = v):SecAg sec (h.put d v) (a.put d u):=by
  refine ⟨by rw [put_defers,put_defers]; exact hag.defers,by rw [put_size,put_size]; exact hag.size,fun t ht => ?_⟩
  cases d with
  | none => exact hag.eq t ht
  | some d =>
    rw [getD_put,getD_put,hag.size]
    split
    · rename_i e
      obtain ⟨rfl,_⟩:=e
      exact (hd d rfl).resolve_left ht
    · exact hag.eq t ht
def secFill (xs:Tmp → Value):List Tmp → Act → Act
  | [],h => h
  | t :: ts,h => secFill xs ts (h.put (some t) (xs t))
theorem secFill_size (xs:Tmp → Value):∀ (l:List Tmp) (h:Act),(secFill xs l h).tmps.size = h.tmps.size
  | [],h => rfl
  | t :: ts,h => by unfold secFill; rw [secFill_size xs ts,put_size]
theorem secFill_defers (xs:Tmp → Value):∀ (l:List Tmp) (h:Act),(secFill xs l h).defers = h.defers
  | [],h => rfl
  | t :: ts,h => by unfold secFill; rw [secFill_defers xs ts,put_defers]
theorem secFill_getD (xs:Tmp → Value):∀ (l:List Tmp) (h:Act) (t:Tmp),(∀ x ∈ l,x < h.tmps.size) → (secFill xs l h).tmps.getD t undef = if t ∈ l then xs t else h.tmps.getD t undef
  | [],h,t,_ => by simp [secFill]
  | x :: ts,h,t,hz => by
    unfold secFill
    rw [secFill_getD xs ts _ t (fun y hy => by rw [put_size]; exact hz y (List.mem_cons_of_mem _ hy)),getD_put]
    by_cases h1:t ∈ ts
    · rw [if_pos h1,if_pos (List.mem_cons_of_mem _ h1)]
    · rw [if_neg h1]
      by_cases h2:x = t
      · subst h2
        rw [if_pos ⟨rfl,hz x (List.mem_cons_self ..)⟩,if_pos (List.mem_cons_self ..)]
      · rw [if_neg (fun e => h2 e.1),if_neg (by simp only [List.mem_cons,not_or]; exact ⟨fun e => h2 e.symm,h1⟩)]
theorem SecAg.fill {h a:Act} (hag:SecAg sec h a) (hz:∀ t ∈ sec,t < h.tmps.size):a = secFill (fun t => a.tmps.getD t undef) sec h:=by
  have e:a.tmps = (secFill (fun t => a.tmps.getD t undef) sec h).tmps:=by
    apply Array.ext
    · rw [secFill_size,hag.size]
    · intro i h1 h2
      have h3:=secFill_getD (fun t => a.tmps.getD t undef) sec h i hz
      rw [← getD_at _ _ h1,← getD_at _ _ h2,h3]
      split
      · rfl
      · rename_i hn
        have h4:=hag.eq i hn
        simp only [Array.getD_eq_getD_getElem?,Array.getElem?_eq_getElem h1] at h4 ⊢
        exact h4
  have e2:a.defers = (secFill (fun t => a.tmps.getD t undef) sec h).defers:=by rw [secFill_defers,hag.defers]
  generalize secFill (fun t => a.tmps.getD t undef) sec h = b at e e2
  cases a; cases b
  simp only at e e2
  rw [e,e2]
def secB (md:Region.Mode) (ops:Array Oper) (sec:List Tmp):Bool :=
  ops.all fun o =>
    (match o.guard with
     | some (g,_) => (match (ops[g]?).bind (·.dst) with | some t => !sec.contains t | none => true)
     | none => true) &&
    (o.looksAt ops).all fun t => !sec.contains t || o.after.any fun e => Region.binds md e && ((ops[e.on]?).bind (·.dst) == some t)
def secFacts (ops:Array Oper) (sec:List Tmp) (F:Tmp → Value → World → Prop) (listed:Array Bool) (a:Act) (w:World):Prop :=
  ∀ i o d,ops[i]? = some o → listed.getD i false = true → o.dst = some d → d ∈ sec → F d (a.tmps.getD d undef) w
theorem secB_guard (hB:secB md ops sec = true) {i:Nat} {o:Oper} (ho:ops[i]? = some o) {h a:Act} (hag:SecAg sec h a) :
    Region.wanted o (yielded ops a.tmps) = Region.wanted o (yielded ops h.tmps):=by
  have hm:o ∈ ops:=Array.mem_of_getElem? ho
  have h1:=Array.all_eq_true_iff_forall_mem.1 hB o hm
  simp only [Bool.and_eq_true] at h1
  have h2:=h1.1
  unfold Region.wanted
  cases hg:o.guard with
  | none => rfl
  | some gw =>
    obtain ⟨g,want⟩:=gw
    rw [hg] at h2
    have hy:yielded ops a.tmps g = yielded ops h.tmps g:=by
      unfold yielded
      simp only at h2
      cases ht:(ops[g]?).bind (·.dst) with
      | none => rfl
      | some t =>
        rw [ht] at h2
        have h3:=hag.eq t (by simpa using h2)
        have h4:=hag.size
        simp only [Array.getD_eq_getD_getElem?] at h3
        by_cases h5:t < h.tmps.size
        · have h6:t < a.tmps.size:=by rw [h4]; exact h5
          have e5:h.tmps[t]? = some h.tmps[t]:=Array.getElem?_eq_getElem h5
          have e6:a.tmps[t]? = some a.tmps[t]:=Array.getElem?_eq_getElem h6
          have e7:a.tmps[t] = h.tmps[t]:=by simpa [e5,e6] using h3
          exact congrArg (fun z:Option Value => match z with | some (.bool b) => some b | _ => none) (show a.tmps[t]? = h.tmps[t]? by rw [e5,e6,e7])
        · have h6:¬ t < a.tmps.size:=by rw [h4]; exact h5
          simp [Array.getElem?_eq_none (Nat.le_of_not_lt h5),Array.getElem?_eq_none (Nat.le_of_not_lt h6)]
    simp only [hy]
theorem secB_looks (hB:secB md ops sec = true) {i:Nat} {o:Oper} (ho:ops[i]? = some o) {listed:Array Bool} (hi:i ∈ Region.ready md ops listed) {h a:Act} {w:World}
    (hag:SecAg sec h a) (hf:secFacts ops sec F listed a w):secLooks ops sec F o h a w:=by
  have hm:o ∈ ops:=Array.mem_of_getElem? ho
  have h1:=Array.all_eq_true_iff_forall_mem.1 hB o hm
  simp only [Bool.and_eq_true] at h1
  have h2:=List.all_eq_true.1 h1.2
  obtain ⟨_,o',ho',hall⟩:=mem_ready.1 hi
  obtain rfl:o' = o:=Option.some.inj (ho'.symm.trans ho)
  intro t ht
  have h3:=h2 t ht
  split
  · rename_i hs
    simp only [Bool.or_eq_true,Bool.not_eq_true'] at h3
    rcases h3 with h3 | h3
    · have:sec.contains t = true:=by simpa using hs
      rw [this] at h3; cases h3
    · obtain ⟨e,he,hb⟩:=Array.any_eq_true'.1 h3
      simp only [Bool.and_eq_true,beq_iff_eq] at hb
      have hl:=hall e he hb.1
      cases hx:ops[e.on]? with
      | none => rw [hx] at hb; cases hb.2
      | some x =>
        rw [hx] at hb
        exact hf e.on x t hx hl hb.2 hs
  · rename_i hs
    exact hag.eq t hs
def wpAnyX (P:Program) (md:Region.Mode) (ops:Array Oper) (W:World) (sec:List Tmp) (F:Tmp → Value → World → Prop) (n:Nat) (L:Array Bool → Act → Prop):Nat → Array Bool → Act → Prop
  | 0,listed,h => L listed h
  | f + 1,listed,h => Region.ready md ops listed ≠ [] ∧ ∀ i ∈ Region.ready md ops listed,i < n ∧ secOp P ops W sec F i (wpAnyX P md ops W sec F n L f (listed.setIfInBounds i true)) h
theorem secOp_mono {i:Nat} {K K':Act → Prop} {h:Act} (hk:∀ h,K h → K' h) (hh:secOp P ops W sec F i K h):secOp P ops W sec F i K' h:=by
  unfold secOp at *
  split
  · exact hk _ (by simpa [*] using hh)
  · rename_i o ho
    simp only [ho] at hh
    split
    · rename_i hw
      simp only [hw,if_true] at hh
      obtain ⟨v,h1,h2⟩:=hh
      exact ⟨v,h1,hk _ h2⟩
    · rename_i hw
      simp only [hw] at hh
      exact ⟨hh.1,hk _ hh.2⟩
theorem wpOp_of_sec (hst:∀ t v w w',F t v w → Below w.heap.size w w' → F t v w') (hB:secB md ops sec = true) {i:Nat} {h a:Act} {w:World} {K:Act → Prop} {K':Act → World → Prop} {Q':Exit → Act → World → Prop} {listed:Array Bool}
    (hi:i ∈ Region.ready md ops listed) (hs:∀ t ∈ sec,t < h.tmps.size) (hag:SecAg sec h a) (hb:Below W.heap.size W w) (hf:secFacts ops sec F listed a w)
    (hK:∀ h' a' w',K h' → h'.tmps.size = h.tmps.size → SecAg sec h' a' → Below W.heap.size W w' → secFacts ops sec F (listed.setIfInBounds i true) a' w' → K' a' w') (hh:secOp P ops W sec F i K h):wpOp P ops Q' i K' a w:=by
  obtain ⟨_,o,ho,_⟩:=mem_ready.1 hi
  unfold secOp at hh
  unfold wpOp
  simp only [ho] at hh ⊢
  have hset:∀ j,(listed.setIfInBounds i true).getD j false = true → j = i ∨ listed.getD j false = true:=fun j hj => by
    by_cases e:i = j
    · exact .inl e.symm
    · rw [getD_set_ne false e] at hj; exact .inr hj
  rw [secB_guard hB ho hag]
  split
  · rename_i hw
    simp only [hw,if_true] at hh
    obtain ⟨v,hsp,hk⟩:=hh
    have h3:=hsp a w hb (secB_looks hB ho hi hag hf)
    have on:∀ u w',Below w.heap.size w w' → secGood sec F o.dst v u w' → K' (a.put o.dst u) w':=fun u w' hbw hg => by
      refine hK _ _ _ hk (put_size _ _ _) (hag.put fun t ht => ?_) (hb.trans (hbw.mono hb.size)) ?_
      · unfold secGood at hg
        rw [ht] at hg
        simp only at hg
        by_cases hts:t ∈ sec
        · exact .inl hts
        · rw [if_neg hts] at hg; exact .inr hg
      · intro j oj d hj hl hd hds
        by_cases e:o.dst = some d
        · unfold secGood at hg
          rw [e] at hg ⊢
          simp only [if_pos hds] at hg
          rw [getD_put,if_pos ⟨rfl,by rw [hag.size]; exact hs d hds⟩]
          exact hg
        · rw [getD_put_ne _ _ _ (fun x hx hxd => e (by rw [hx,hxd]))]
          rcases hset j hl with rfl | hl'
          · exact absurd (by rw [ho] at hj; cases hj; exact hd) e
          · exact hst _ _ _ _ (hf j oj d hj hl' hd hds) hbw
    refine .inl ?_
    unfold Oper.wp
    generalize (execOp a.eval o).run P w = r at h3 ⊢
    cases r with
    | ok x w' =>
      cases x <;> simp only [secUpon] at h3 <;> simp only [Oper.upon]
      case value u => exact on u w' h3.1 h3.2
      case skip => exact on undef w' h3.1 h3.2
      case enter f args =>
        obtain ⟨rfl,hc⟩:=h3
        refine hc.mono fun e w'' ⟨u,he,h4,h5⟩ => ?_
        subst he
        exact on u w'' h4 h5
    | halt x w' => simp only [secUpon] at h3
  · rename_i hw
    simp only [hw] at hh
    refine hK _ _ _ hh.2 (put_size _ _ _) (hag.put fun _ _ => .inr rfl) hb ?_
    intro j oj d hj hl hd hds
    have e:∀ x,o.dst = some x → x ≠ d:=fun x hx hxd => hh.1 x hx (hxd ▸ hds)
    rw [getD_put_ne _ _ _ e]
    rcases hset j hl with rfl | hl'
    · rw [ho] at hj; cases hj; exact absurd rfl (e d hd)
    · exact hf j oj d hj hl' hd hds
theorem wpAny_of_X (hst:∀ t v w w',F t v w → Below w.heap.size w w' → F t v w') (hB:secB md ops sec = true) {n g:Nat} {L:Array Bool → Act → Prop} {Q':Exit → Act → World → Prop}
    (hL:∀ listed h a w,L listed h → (∀ t ∈ sec,t < h.tmps.size) → SecAg sec h a → Below W.heap.size W w → secFacts ops sec F listed a w → wpAny P md ops Q' g listed a w) :
    ∀ (f:Nat) (listed:Array Bool) (h a:Act) (w:World),(∀ t ∈ sec,t < h.tmps.size) → SecAg sec h a → Below W.heap.size W w → secFacts ops sec F listed a w →
      wpAnyX P md ops W sec F n L f listed h → wpAny P md ops Q' (f + g) listed a w
  | 0,listed,h,a,w,hs,hag,hb,hf,hx => by rw [Nat.zero_add]; exact hL _ _ _ _ hx hs hag hb hf
  | f + 1,listed,h,a,w,hs,hag,hb,hf,hx => by
    rw [show f + 1 + g = (f + g) + 1 by omega]
    refine ⟨fun h0 => absurd h0 hx.1,fun i hi => ?_⟩
    exact wpOp_of_sec hst hB hi hs hag hb hf (fun h' a' w' hk hsz hag' hb' hf' => wpAny_of_X hst hB hL f _ h' a' w' (fun t ht => by rw [hsz]; exact hs t ht) hag' hb' hf' hk) (hx.2 i hi).2
def SecYields (P:Program) (ops:Array Oper) (W:World) (sec:List Tmp) (F:Tmp → Value → World → Prop) (o:Oper) (v:Value) (h:Act):Prop :=
  (Region.wanted o (yielded ops h.tmps) = true ∧ secSpec P ops W sec F o h v) ∨ (Region.wanted o (yielded ops h.tmps) = false ∧ (∀ d,o.dst = some d → d ∉ sec) ∧ v = undef)
theorem secSpec_put {o:Oper} {h:Act} {v:Value} (hs:secSpec P ops W sec F o h v) {d:Option Tmp} (u:Value) (hd:∀ x,d = some x → x ∉ o.looksAt ops):secSpec P ops W sec F o (h.put d u) v:=by
  intro a w hb hl
  refine hs a w hb fun t ht => ?_
  have:=hl t ht
  rw [getD_put_ne h u t (fun x hx hxt => hd x hx (hxt ▸ ht))] at this
  exact this
theorem secSpec_unput {o:Oper} {h:Act} {v:Value} {d:Option Tmp} (u:Value) (hd:∀ x,d = some x → x ∉ o.looksAt ops) (hs:secSpec P ops W sec F o (h.put d u) v):secSpec P ops W sec F o h v:=by
  intro a w hb hl
  refine hs a w hb fun t ht => ?_
  have:=hl t ht
  rw [getD_put_ne h u t (fun x hx hxt => hd x hx (hxt ▸ ht))]
  exact this
theorem SecYields.op {i:Nat} {o:Oper} {v:Value} {h:Act} (hi:ops[i]? = some o) (hy:SecYields P ops W sec F o v h) {K:Act → Prop} (hk:K (h.put o.dst v)):secOp P ops W sec F i K h:=by
  unfold secOp
  simp only [hi]
  rcases hy with ⟨hw,hv⟩ | ⟨hw,hd,rfl⟩
  · simp only [hw,if_true]; exact ⟨v,hv,hk⟩
  · simp only [hw,Bool.false_eq_true,if_false]; exact ⟨hd,hk⟩
theorem secYields_of {i:Nat} {o:Oper} {h:Act} {K:Act → Prop} (hi:ops[i]? = some o) (hh:secOp P ops W sec F i K h):∃ v,SecYields P ops W sec F o v h ∧ K (h.put o.dst v):=by
  unfold secOp at hh
  simp only [hi] at hh
  by_cases hw:Region.wanted o (yielded ops h.tmps) = true
  · simp only [hw,if_true] at hh
    obtain ⟨v,h1,h2⟩:=hh
    exact ⟨v, .inl ⟨hw,h1⟩,h2⟩
  · simp only [hw] at hh
    exact ⟨undef, .inr ⟨by simpa using hw,hh.1,rfl⟩,hh.2⟩
theorem secOp_put {j:Nat} {oi oj:Oper} {v:Value} (hj:ops[j]? = some oj) (hap:oi.apart ops oj = true) {K:Act → Prop} {h:Act}
    (hy:SecYields P ops W sec F oi v h) (hh:secOp P ops W sec F j K (h.put oi.dst v)):secOp P ops W sec F j (fun h' => SecYields P ops W sec F oi v h' ∧ K (h'.put oi.dst v)) h:=by
  obtain ⟨h1,h2,h3⟩:=Oper.apart_spec hap
  have keep:∀ u,SecYields P ops W sec F oi v (h.put oj.dst u):=fun u => by
    unfold SecYields
    rw [wanted_put oi h oj.dst u h3]
    rcases hy with ⟨hw,hv⟩ | ⟨hw,hd⟩
    · exact .inl ⟨hw,secSpec_put hv u h3⟩
    · exact .inr ⟨hw,hd⟩
  unfold secOp at *
  simp only [hj] at *
  rw [wanted_put oj h oi.dst v h1] at hh
  split
  · rename_i hw
    simp only [hw,if_true] at hh
    obtain ⟨u,hu,hn⟩:=hh
    exact ⟨u,secSpec_unput v h1 hu,keep u,by rw [← Act.put_comm h v u h2]; exact hn⟩
  · rename_i hw
    simp only [hw] at hh
    exact ⟨hh.1,keep _,by rw [← Act.put_comm h v undef h2]; exact hh.2⟩
theorem wpAnyX_first {n i:Nat} {oi:Oper} {v:Value} {L:Array Bool → Act → Prop} (hi:ops[i]? = some oi)
    (hs:Region.sinkB md ops n = true) (hc:Region.chainB md ops n = true) (hn:n < ops.size) (hin:i < n) (hdone:∀ listed h,L listed h → ∀ j ∈ Region.ready md ops listed,n ≤ j) :
    ∀ (f:Nat) (listed:Array Bool) (h:Act),HeadInv md ops n listed →
      (∀ j oj,ops[j]? = some oj → j ≠ i → listed.getD j true = false → (∀ e ∈ oj.after,Region.binds md e = true → e.on ≠ i) → oi.apart ops oj = true) →
      i ∈ Region.ready md ops listed → SecYields P ops W sec F oi v h →
      wpAnyX P md ops W sec F n L f (listed.setIfInBounds i true) (h.put oi.dst v) → wpAnyX P md ops W sec F n L (f + 1) listed h:=by
  intro f
  induction f with
  | zero =>
    intro listed h inv _ hr hy H
    have hun:=(mem_ready.1 hr).1
    refine ⟨fun h0 => (by rw [h0] at hr; cases hr),fun j hj => ?_⟩
    have hjn:j < n:=Nat.lt_of_not_le fun hge => tail_waits hs hc hn inv _ i rfl hin hun j hge hj
    refine ⟨hjn, ?_⟩
    by_cases hji:j = i
    · subst hji; exact hy.op hi H
    · have:=hdone _ _ H j (ready_mono hj hji)
      omega
  | succ f ih =>
    intro listed h inv hfree hr hy H
    have hun:=(mem_ready.1 hr).1
    refine ⟨fun h0 => (by rw [h0] at hr; cases hr),fun j hj => ?_⟩
    have hjn:j < n:=Nat.lt_of_not_le fun hge => tail_waits hs hc hn inv _ i rfl hin hun j hge hj
    refine ⟨hjn, ?_⟩
    by_cases hji:j = i
    · subst hji; exact hy.op hi H
    · have h1:=(H.2 j (ready_mono hj hji)).2
      obtain ⟨hjun,oj,hoj,hall⟩:=mem_ready.1 hj
      have hnot:∀ e ∈ oj.after,Region.binds md e = true → e.on ≠ i:=fun e he hb heq => by
        have h4:=hall e he hb
        rw [heq,getD_both hun] at h4
        cases h4
      have h2:=secOp_put hoj (hfree j oj hoj hji hjun hnot) hy h1
      refine secOp_mono (fun h' h3 => ih (listed.setIfInBounds j true) h' (inv.set hj hjn) (fun k ok hk hki hunk hno => ?_) (ready_mono hr (Ne.symm hji)) h3.1 ?_) h2
      · refine hfree k ok hk hki ?_ hno
        by_cases hjk:j = k
        · subst hjk; exact hjun
        · rw [getD_set_ne true hjk] at hunk; exact hunk
      · rw [Array.setIfInBounds_comm _ _ hji]
        exact h3.2
theorem wpAnyX_lex {n g:Nat} {Lq:Act → Prop} (hs:Region.sinkB md ops n = true) (hc:Region.chainB md ops n = true) (hn:n < ops.size) :
    ∀ (l:List Oper) (k:Nat) (listed:Array Bool) (h:Act),(∀ j,j < l.length → l[j]? = ops[k + j]?) → k + l.length = n → HeadInv md ops n listed → (∀ j,j < k → listed.getD j false = true) →
    Region.lexHead md ops g l.length k listed = true → wpSec P ops W sec F Lq l h →
    wpAnyX P md ops W sec F n (fun listed' h' => Region.seqB md ops g n listed' = true ∧ (∀ j,j < n → listed'.getD j false = true) ∧ Lq h') l.length listed h
  | [],k,listed,h,_,hk,_,hall,hB,hh => by
    obtain rfl:k = n:=by simpa using hk
    exact ⟨by simpa [Region.lexHead] using hB,hall,hh⟩
  | o :: l,k,listed,h,hl,hk,inv,hall,hB,hh => by
    have h0:ops[k]? = some o:=by simpa using (hl 0 (by simp)).symm
    simp only [List.length_cons,Region.lexHead,Bool.and_eq_true] at hB
    obtain ⟨⟨hr,hf⟩,hB'⟩:=hB
    have hkn:k < n:=by simp only [List.length_cons] at hk; omega
    have hr':k ∈ Region.ready md ops listed:=by simpa using hr
    have hst:secOp P ops W sec F k (wpSec P ops W sec F Lq l) h:=by unfold secOp; simp only [h0]; exact hh
    obtain ⟨v,hy,hK⟩:=secYields_of h0 hst
    exact wpAnyX_first h0 hs hc hn hkn (fun listed' h' hL => seqB_ready hL.1) l.length listed h inv (Region.free_spec h0 hf) hr' hy
      (wpAnyX_lex hs hc hn l (k + 1) _ _ (fun j hj => by have:=hl (j + 1) (by simp; omega); simpa [Nat.add_assoc,Nat.add_comm 1 j] using this) (by simp only [List.length_cons] at hk; omega) (inv.set hr' hkn)
        (fun j hj => by
          by_cases e:k = j
          · subst e
            have hkl:k < listed.size:=by rw [inv.size]; omega
            simp [hkl]
          · exact getD_set_true (hall j (by omega))) hB' hK)
theorem wpAny_sec {Q:Exit → Act → World → Prop} {a:Act} {w:World} {l:List Oper} (n:Nat) (sec:List Tmp) (F:Tmp → Value → World → Prop)
    (hst:∀ t v w w',F t v w → Below w.heap.size w w' → F t v w') (hB:Region.lexTailB .any l.toArray n = true) (hS:secB .any l.toArray sec = true)
    (hW:(sec.all fun t => (l.take n).any fun o => o.dst == some t) = true) (hz:(sec.all fun t => decide (t < a.tmps.size)) = true)
    (h:wpSec P l.toArray w sec F (fun h' => ∀ (xs:Tmp → Value) (m:Later w),(∀ t ∈ sec,F t (xs t) m.w) → wpList P l.toArray Q (l.drop n) (secFill xs sec h') m.w) (l.take n) a) :
    wpAny P .any l.toArray Q l.toArray.size (Array.replicate l.toArray.size false) a { w with drawn:=w.drawn + 1 }:=by
  simp only [Region.lexTailB,Bool.and_eq_true,decide_eq_true_eq] at hB
  obtain ⟨⟨⟨⟨hsel,hn⟩,hs⟩,hc⟩,hlex⟩:=hB
  have hn':n < l.length:=by simpa using hn
  have htl:(l.take n).length = n:=by simp; omega
  have hdl:(l.drop n).length = l.toArray.size - n:=by simp
  have hzz:∀ t ∈ sec,t < a.tmps.size:=fun t ht => by simpa using List.all_eq_true.1 hz t ht
  have inv0:HeadInv .any l.toArray n (Array.replicate l.toArray.size false) :=
    ⟨by simp,fun j oj _ hl => (by rw [getD_replicate_false] at hl; cases hl),fun t _ ht => getD_in (by simpa using ht) (getD_replicate_false _ _)⟩
  have H:=wpAnyX_lex (md := .any) (g:=l.toArray.size - n) hs hc hn (l.take n) 0 _ a (fun j hj => by
    have hj':j < n:=by rw [htl] at hj; exact hj
    simp [hj']) (by simpa using htl) inv0 (fun j hj => by omega) (by rw [htl]; exact hlex) h
  have:=wpAny_of_X (Q':=Q) (g:=l.toArray.size - n) hst hS (fun listed h' a' w' hL hs' hag hb hf => by
    have hfill:=hag.fill hs'
    have hq:=hL.2.2 (fun t => a'.tmps.getD t undef) ⟨w',hb⟩ (fun t ht => by
      have h1:=List.all_eq_true.1 hW t ht
      obtain ⟨o,ho,hd⟩:=List.any_eq_true.1 h1
      obtain ⟨j,hj,hjo⟩:=List.getElem_of_mem ho
      have hjn:j < n:=by omega
      have hjl:j < l.length:=by omega
      refine hf j o t ?_ (hL.2.1 j hjn) (by simpa using hd) ht
      rw [List.getElem?_toArray,List.getElem?_eq_getElem hjl,← hjo,List.getElem_take])
    rw [← hfill] at hq
    have h5:=wpAny_of_seq (md := .any) (Q':=Q) (l.drop n) n listed a' w' (fun j => by simp [List.getElem?_drop]) (by rw [hdl]; exact hL.1) hq
    rwa [hdl] at h5) _ _ a a { w with drawn:=w.drawn + 1 } hzz (SecAg.refl a) ((Below.refl _ _).drew) (fun i o d _ hl => by rw [getD_replicate_false] at hl; cases hl) H
  rw [htl,show n + (l.toArray.size - n) = l.toArray.size by omega] at this
  exact this
theorem wp_region_sec {id:Nat} {Q:Exit → Act → World → Prop} {a:Act} {w:World} {l:List Oper} (n:Nat) (sec:List Tmp) (F:Tmp → Value → World → Prop)
    (hst:∀ t v w w',F t v w → Below w.heap.size w w' → F t v w') (hm:P.follows .mixedOrders = true) (hB:Region.lexTailB .any l.toArray n = true) (hS:secB .any l.toArray sec = true)
    (hW:(sec.all fun t => (l.take n).any fun o => o.dst == some t) = true) (hz:(sec.all fun t => decide (t < a.tmps.size)) = true)
    (h:wpSec P l.toArray w sec F (fun h' => ∀ (xs:Tmp → Value) (m:Later w),(∀ t ∈ sec,F t (xs t) m.w) → wpList P l.toArray Q (l.drop n) (secFill xs sec h') m.w) (l.take n) a) :
    (Code.region id l.toArray true).wp P Q a w :=
  wp_region_any hm (wpAny_sec n sec F hst hB hS hW hz h)
end
end Go.Proofs.YtimdkcchjanpaaaGreatDoor
