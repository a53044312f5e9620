/- Frame: contracts of Of, and of the document's Of. -/
import Derived.Test.YtimlaopmhcipmaaDoorFrmV
namespace Go.Proofs.YtimlaopmhcipmaaDoor
open Go.RowKit
set_option linter.unusedVariables false

theorem and_pu (W : Int) (i : Nat) (hi : i < 32) (h0 : 0 ≤ W) (h1 : W < 4294967296) : bits .and .u32 W ((2 ^ i : Nat) : Int) = ((W.toNat / 2 ^ i % 2 * 2 ^ i : Nat) : Int) := by
  have hp : 2 ^ i < 2 ^ 32 := Nat.pow_lt_pow_right (by decide) hi
  have e1 : (BitVec.ofInt 32 W).toNat = W.toNat := by rw [BitVec.toNat_ofInt]; omega
  have e2 : (BitVec.ofInt 32 ((2 ^ i : Nat) : Int)).toNat = 2 ^ i := by rw [BitVec.ofInt_natCast, BitVec.toNat_ofNat]; exact Nat.mod_eq_of_lt (by omega)
  have hle : W.toNat / 2 ^ i % 2 * 2 ^ i ≤ 2 ^ i := by
    rcases Nat.mod_two_eq_zero_or_one (W.toNat / 2 ^ i) with h | h <;> simp [h]
  show IntKind.u32.wrap (((BitVec.ofInt 32 W) &&& (BitVec.ofInt 32 ((2 ^ i : Nat) : Int))).toNat : Int) = _
  rw [BitVec.toNat_and, e1, e2, nat_and_pow, IntKind.wrap_u32]
  omega
def wE (W : Int) : Bool := decide (W / 2147483648 % 2 = 1)
def wR (W : Int) : Bool := decide (W / 1073741824 % 2 = 1)
def wX (W : Int) : Bool := decide (W / 536870912 % 2 = 1)
theorem and31_t {W : Int} (h0 : 0 ≤ W) (h1 : W < 4294967296) (h : wE W = true) : bits .and .u32 W 2147483648 = 2147483648 := by
  have := and_pu W 31 (by decide) h0 h1; unfold wE at h; simp at h this; rw [this]; omega
theorem and31_f {W : Int} (h0 : 0 ≤ W) (h1 : W < 4294967296) (h : wE W = false) : bits .and .u32 W 2147483648 = 0 := by
  have := and_pu W 31 (by decide) h0 h1; unfold wE at h; simp at h this; rw [this]; omega
theorem and30_t {W : Int} (h0 : 0 ≤ W) (h1 : W < 4294967296) (h : wR W = true) : bits .and .u32 W 1073741824 = 1073741824 := by
  have := and_pu W 30 (by decide) h0 h1; unfold wR at h; simp at h this; rw [this]; omega
theorem and30_f {W : Int} (h0 : 0 ≤ W) (h1 : W < 4294967296) (h : wR W = false) : bits .and .u32 W 1073741824 = 0 := by
  have := and_pu W 30 (by decide) h0 h1; unfold wR at h; simp at h this; rw [this]; omega
theorem and29_t {W : Int} (h0 : 0 ≤ W) (h1 : W < 4294967296) (h : wX W = true) : bits .and .u32 W 536870912 = 536870912 := by
  have := and_pu W 29 (by decide) h0 h1; unfold wX at h; simp at h this; rw [this]; omega
theorem and29_f {W : Int} (h0 : 0 ≤ W) (h1 : W < 4294967296) (h : wX W = false) : bits .and .u32 W 536870912 = 0 := by
  have := and_pu W 29 (by decide) h0 h1; unfold wX at h; simp at h this; rw [this]; omega
theorem fwraps_u32 (n : Int) (h₀ : 0 ≤ n) (h₁ : n < 2 ^ 32) : IntKind.u32.wrap n = n := by rw [IntKind.wrap_u32]; omega
theorem and_id {W : Int} (h0 : 0 ≤ W) (h1 : W < 4294967296) : bits .and .u32 W 536870911 = W % 536870912 :=
  bits_mask .u32 32 (by decide) fwraps_u32 29 (by decide) W h0 (by omega)
theorem oi01 : bits .or .i64 0 1 = 1 := by decide +kernel
theorem oi02 : bits .or .i64 0 2 = 2 := by decide +kernel
theorem oi12 : bits .or .i64 1 2 = 3 := by decide +kernel
theorem oi04 : bits .or .i64 0 4 = 4 := by decide +kernel
theorem oi14 : bits .or .i64 1 4 = 5 := by decide +kernel
theorem oi24 : bits .or .i64 2 4 = 6 := by decide +kernel
theorem oi34 : bits .or .i64 3 4 = 7 := by decide +kernel

set_option maxHeartbeats 4000000 in
theorem of_0t {W I : Int} {d : ByteArray} (h0 : 0 ≤ W) (h1 : W < 4294967296) (he : wE W = false) (hr : wR W = false) (hx : wX W = false) (hI : bits .and .u32 W 536870911 = I) (i0 : 0 ≤ I) (i1 : I ≤ 536870911) (hd : d.size ≤ maxLen) (h : okF I 0 d.size d.size = true) (w : World) (hT : Tabs w) :
    Calls Tryd.prog 46 #[.int .u32 W, .string d] w fun e w' => e = .returned (.tuple #[.agg #[.int .i64 I, .int .i64 0, .int .i64 d.size, .string d], .int .i64 0]) ∧ Below w.heap.size w w' := by
  obtain ⟨⟨t, fr, hg⟩, t', fr', hg'⟩ := hT
  unfold maxLen at hd
  have HT := Lib.hid (show Tabs w from ⟨⟨t, fr, hg⟩, t', fr', hg'⟩)
  have HG := Lib.hid hg'
  have H := Lib.hid h
  have hlt := lt_of_heap hg'
  have a31 := and31_f h0 h1 he
  have a30 := and30_f h0 h1 hr
  have a29 := and29_f h0 h1 hx
  have m0 := mark_0
  have m1 := mark_1
  have m2 := mark_2
  have a2 : bits .and .i64 0 2 = 0 := by decide +kernel
  clear hg hg' h he hr hx
  go_enter Tryd.func46, Tryd.ntmps46
  have HG1 : ∀ o o' : Obj, Hid (((w.alloc o).alloc o').heap[0]? = some (.cells markCells t' fr')) := fun o o' => by
    show ((w.alloc o).alloc o').heap[_]? = _
    rw [Below.heap_alloc _ _ _ (by simp <;> omega), Below.heap_alloc _ _ _ hlt]
    exact HG.out
  go_wp2_with (refine wpList_load_row rfl 70 _ rfl 0 rfl t' markCells fr' _ (HG1 _ _).out Tryd.underlying70 rfl (by kernel_rfl) ?_)
  refine wp_loop_rounds 4 ?_
  iterate 4 (rw [rounds_succ]; go_wp2_with fail)
  refine (right_t H.out _ ((((((HT.out.alloc _).alloc _).alloc _).alloc _).alloc _))).mono ?_
  rintro e w1 ⟨rfl, hb⟩
  obtain ⟨hc, hf⟩ := fbcell hb
  have hz : w.heap.size + 5 ≤ w1.heap.size := by have := hb.size; simp only [World.size_alloc] at this; omega
  have c0 : w1.cell? ⟨w.heap.size, 0, none⟩ = some (.int .i64 0) := by rw [hc _ _ (by simp only [World.size_alloc]; omega)]; simp [go_sem]
  have c1 : w1.cell? ⟨w.heap.size, 1, none⟩ = some (.int .i64 0) := by rw [hc _ _ (by simp only [World.size_alloc]; omega)]; simp [go_sem]
  have c2 : w1.cell? ⟨w.heap.size, 2, none⟩ = some (.int .i64 0) := by rw [hc _ _ (by simp only [World.size_alloc]; omega)]; simp [go_sem]
  have c3 : w1.cell? ⟨w.heap.size, 3, none⟩ = some (.string (ByteArray.mk #[])) := by rw [hc _ _ (by simp only [World.size_alloc]; omega)]; simp [go_sem]
  go_wp2
  refine bodyPost_ret (v := .tuple #[.agg #[.int .i64 I, .int .i64 0, .int .i64 d.size, .string d], .int .i64 0]) (by simp [results, Tryd.results46, go_sem, c0, c1, c2, c3]) rfl ⟨rfl, ?_⟩
  have hbb := fbelow_a _ (fbelow_a _ (fbelow_a _ (fbelow_a _ (fbelow_a _ hb))))
  exact ((((hbb.setCell (p := ⟨w.heap.size, 0, none⟩) (Nat.le_refl _) _).setCell (p := ⟨w.heap.size, 1, none⟩) (Nat.le_refl _) _).setCell (p := ⟨w.heap.size, 2, none⟩) (Nat.le_refl _) _).setCell (p := ⟨w.heap.size, 3, none⟩) (Nat.le_refl _) _)
set_option maxHeartbeats 4000000 in
theorem of_0f {W I : Int} {d : ByteArray} (h0 : 0 ≤ W) (h1 : W < 4294967296) (he : wE W = false) (hr : wR W = false) (hx : wX W = false) (hI : bits .and .u32 W 536870911 = I) (i0 : 0 ≤ I) (i1 : I ≤ 536870911) (hd : d.size ≤ maxLen) (h : okF I 0 d.size d.size = false) (w : World) (hT : Tabs w) :
    Calls Tryd.prog 46 #[.int .u32 W, .string d] w fun e w' => e = .returned (.tuple #[.agg #[.int .i64 0, .int .i64 0, .int .i64 0, .string (ByteArray.mk #[])], .int .i64 4]) ∧ Below w.heap.size w w' := by
  obtain ⟨⟨t, fr, hg⟩, t', fr', hg'⟩ := hT
  unfold maxLen at hd
  have HT := Lib.hid (show Tabs w from ⟨⟨t, fr, hg⟩, t', fr', hg'⟩)
  have HG := Lib.hid hg'
  have H := Lib.hid h
  have hlt := lt_of_heap hg'
  have a31 := and31_f h0 h1 he
  have a30 := and30_f h0 h1 hr
  have a29 := and29_f h0 h1 hx
  have m0 := mark_0
  have m1 := mark_1
  have m2 := mark_2
  have a2 : bits .and .i64 0 2 = 0 := by decide +kernel
  clear hg hg' h he hr hx
  go_enter Tryd.func46, Tryd.ntmps46
  have HG1 : ∀ o o' : Obj, Hid (((w.alloc o).alloc o').heap[0]? = some (.cells markCells t' fr')) := fun o o' => by
    show ((w.alloc o).alloc o').heap[_]? = _
    rw [Below.heap_alloc _ _ _ (by simp <;> omega), Below.heap_alloc _ _ _ hlt]
    exact HG.out
  go_wp2_with (refine wpList_load_row rfl 70 _ rfl 0 rfl t' markCells fr' _ (HG1 _ _).out Tryd.underlying70 rfl (by kernel_rfl) ?_)
  refine wp_loop_rounds 4 ?_
  iterate 4 (rw [rounds_succ]; go_wp2_with fail)
  refine (right_f H.out _ ((((((HT.out.alloc _).alloc _).alloc _).alloc _).alloc _)) (by decide) (by decide)).mono ?_
  rintro e w1 ⟨rfl, hb⟩
  obtain ⟨hc, hf⟩ := fbcell hb
  have hz : w.heap.size + 5 ≤ w1.heap.size := by have := hb.size; simp only [World.size_alloc] at this; omega
  have c0 : w1.cell? ⟨w.heap.size, 0, none⟩ = some (.int .i64 0) := by rw [hc _ _ (by simp only [World.size_alloc]; omega)]; simp [go_sem]
  have c1 : w1.cell? ⟨w.heap.size, 1, none⟩ = some (.int .i64 0) := by rw [hc _ _ (by simp only [World.size_alloc]; omega)]; simp [go_sem]
  have c2 : w1.cell? ⟨w.heap.size, 2, none⟩ = some (.int .i64 0) := by rw [hc _ _ (by simp only [World.size_alloc]; omega)]; simp [go_sem]
  have c3 : w1.cell? ⟨w.heap.size, 3, none⟩ = some (.string (ByteArray.mk #[])) := by rw [hc _ _ (by simp only [World.size_alloc]; omega)]; simp [go_sem]
  go_wp2
  refine bodyPost_ret (v := .tuple #[.agg #[.int .i64 0, .int .i64 0, .int .i64 0, .string (ByteArray.mk #[])], .int .i64 4]) (by simp [results, Tryd.results46, go_sem, c0, c1, c2, c3]) rfl ⟨rfl, ?_⟩
  have hbb := fbelow_a _ (fbelow_a _ (fbelow_a _ (fbelow_a _ (fbelow_a _ hb))))
  exact ((((hbb.setCell (p := ⟨w.heap.size, 0, none⟩) (Nat.le_refl _) _).setCell (p := ⟨w.heap.size, 1, none⟩) (Nat.le_refl _) _).setCell (p := ⟨w.heap.size, 2, none⟩) (Nat.le_refl _) _).setCell (p := ⟨w.heap.size, 3, none⟩) (Nat.le_refl _) _)
set_option maxHeartbeats 4000000 in
theorem of_1t {W I : Int} {d : ByteArray} (h0 : 0 ≤ W) (h1 : W < 4294967296) (he : wE W = true) (hr : wR W = false) (hx : wX W = false) (hI : bits .and .u32 W 536870911 = I) (i0 : 0 ≤ I) (i1 : I ≤ 536870911) (hd : d.size ≤ maxLen) (h : okF I 1 d.size d.size = true) (w : World) (hT : Tabs w) :
    Calls Tryd.prog 46 #[.int .u32 W, .string d] w fun e w' => e = .returned (.tuple #[.agg #[.int .i64 I, .int .i64 1, .int .i64 d.size, .string d], .int .i64 0]) ∧ Below w.heap.size w w' := by
  obtain ⟨⟨t, fr, hg⟩, t', fr', hg'⟩ := hT
  unfold maxLen at hd
  have HT := Lib.hid (show Tabs w from ⟨⟨t, fr, hg⟩, t', fr', hg'⟩)
  have HG := Lib.hid hg'
  have H := Lib.hid h
  have hlt := lt_of_heap hg'
  have a31 := and31_t h0 h1 he
  have a30 := and30_f h0 h1 hr
  have a29 := and29_f h0 h1 hx
  have o1 := oi01
  have m0 := mark_0
  have m1 := mark_1
  have m2 := mark_2
  have a2 : bits .and .i64 1 2 = 0 := by decide +kernel
  clear hg hg' h he hr hx
  go_enter Tryd.func46, Tryd.ntmps46
  have HG1 : ∀ o o' : Obj, Hid (((w.alloc o).alloc o').heap[0]? = some (.cells markCells t' fr')) := fun o o' => by
    show ((w.alloc o).alloc o').heap[_]? = _
    rw [Below.heap_alloc _ _ _ (by simp <;> omega), Below.heap_alloc _ _ _ hlt]
    exact HG.out
  go_wp2_with (refine wpList_load_row rfl 70 _ rfl 0 rfl t' markCells fr' _ (HG1 _ _).out Tryd.underlying70 rfl (by kernel_rfl) ?_)
  refine wp_loop_rounds 4 ?_
  iterate 4 (rw [rounds_succ]; go_wp2_with fail)
  refine (right_t H.out _ ((((((HT.out.alloc _).alloc _).alloc _).alloc _).alloc _))).mono ?_
  rintro e w1 ⟨rfl, hb⟩
  obtain ⟨hc, hf⟩ := fbcell hb
  have hz : w.heap.size + 5 ≤ w1.heap.size := by have := hb.size; simp only [World.size_alloc] at this; omega
  have c0 : w1.cell? ⟨w.heap.size, 0, none⟩ = some (.int .i64 0) := by rw [hc _ _ (by simp only [World.size_alloc]; omega)]; simp [go_sem]
  have c1 : w1.cell? ⟨w.heap.size, 1, none⟩ = some (.int .i64 0) := by rw [hc _ _ (by simp only [World.size_alloc]; omega)]; simp [go_sem]
  have c2 : w1.cell? ⟨w.heap.size, 2, none⟩ = some (.int .i64 0) := by rw [hc _ _ (by simp only [World.size_alloc]; omega)]; simp [go_sem]
  have c3 : w1.cell? ⟨w.heap.size, 3, none⟩ = some (.string (ByteArray.mk #[])) := by rw [hc _ _ (by simp only [World.size_alloc]; omega)]; simp [go_sem]
  go_wp2
  refine bodyPost_ret (v := .tuple #[.agg #[.int .i64 I, .int .i64 1, .int .i64 d.size, .string d], .int .i64 0]) (by simp [results, Tryd.results46, go_sem, c0, c1, c2, c3]) rfl ⟨rfl, ?_⟩
  have hbb := fbelow_a _ (fbelow_a _ (fbelow_a _ (fbelow_a _ (fbelow_a _ hb))))
  exact ((((hbb.setCell (p := ⟨w.heap.size, 0, none⟩) (Nat.le_refl _) _).setCell (p := ⟨w.heap.size, 1, none⟩) (Nat.le_refl _) _).setCell (p := ⟨w.heap.size, 2, none⟩) (Nat.le_refl _) _).setCell (p := ⟨w.heap.size, 3, none⟩) (Nat.le_refl _) _)
set_option maxHeartbeats 4000000 in
theorem of_1f {W I : Int} {d : ByteArray} (h0 : 0 ≤ W) (h1 : W < 4294967296) (he : wE W = true) (hr : wR W = false) (hx : wX W = false) (hI : bits .and .u32 W 536870911 = I) (i0 : 0 ≤ I) (i1 : I ≤ 536870911) (hd : d.size ≤ maxLen) (h : okF I 1 d.size d.size = false) (w : World) (hT : Tabs w) :
    Calls Tryd.prog 46 #[.int .u32 W, .string d] w fun e w' => e = .returned (.tuple #[.agg #[.int .i64 0, .int .i64 0, .int .i64 0, .string (ByteArray.mk #[])], .int .i64 4]) ∧ Below w.heap.size w w' := by
  obtain ⟨⟨t, fr, hg⟩, t', fr', hg'⟩ := hT
  unfold maxLen at hd
  have HT := Lib.hid (show Tabs w from ⟨⟨t, fr, hg⟩, t', fr', hg'⟩)
  have HG := Lib.hid hg'
  have H := Lib.hid h
  have hlt := lt_of_heap hg'
  have a31 := and31_t h0 h1 he
  have a30 := and30_f h0 h1 hr
  have a29 := and29_f h0 h1 hx
  have o1 := oi01
  have m0 := mark_0
  have m1 := mark_1
  have m2 := mark_2
  have a2 : bits .and .i64 1 2 = 0 := by decide +kernel
  clear hg hg' h he hr hx
  go_enter Tryd.func46, Tryd.ntmps46
  have HG1 : ∀ o o' : Obj, Hid (((w.alloc o).alloc o').heap[0]? = some (.cells markCells t' fr')) := fun o o' => by
    show ((w.alloc o).alloc o').heap[_]? = _
    rw [Below.heap_alloc _ _ _ (by simp <;> omega), Below.heap_alloc _ _ _ hlt]
    exact HG.out
  go_wp2_with (refine wpList_load_row rfl 70 _ rfl 0 rfl t' markCells fr' _ (HG1 _ _).out Tryd.underlying70 rfl (by kernel_rfl) ?_)
  refine wp_loop_rounds 4 ?_
  iterate 4 (rw [rounds_succ]; go_wp2_with fail)
  refine (right_f H.out _ ((((((HT.out.alloc _).alloc _).alloc _).alloc _).alloc _)) (by decide) (by decide)).mono ?_
  rintro e w1 ⟨rfl, hb⟩
  obtain ⟨hc, hf⟩ := fbcell hb
  have hz : w.heap.size + 5 ≤ w1.heap.size := by have := hb.size; simp only [World.size_alloc] at this; omega
  have c0 : w1.cell? ⟨w.heap.size, 0, none⟩ = some (.int .i64 0) := by rw [hc _ _ (by simp only [World.size_alloc]; omega)]; simp [go_sem]
  have c1 : w1.cell? ⟨w.heap.size, 1, none⟩ = some (.int .i64 0) := by rw [hc _ _ (by simp only [World.size_alloc]; omega)]; simp [go_sem]
  have c2 : w1.cell? ⟨w.heap.size, 2, none⟩ = some (.int .i64 0) := by rw [hc _ _ (by simp only [World.size_alloc]; omega)]; simp [go_sem]
  have c3 : w1.cell? ⟨w.heap.size, 3, none⟩ = some (.string (ByteArray.mk #[])) := by rw [hc _ _ (by simp only [World.size_alloc]; omega)]; simp [go_sem]
  go_wp2
  refine bodyPost_ret (v := .tuple #[.agg #[.int .i64 0, .int .i64 0, .int .i64 0, .string (ByteArray.mk #[])], .int .i64 4]) (by simp [results, Tryd.results46, go_sem, c0, c1, c2, c3]) rfl ⟨rfl, ?_⟩
  have hbb := fbelow_a _ (fbelow_a _ (fbelow_a _ (fbelow_a _ (fbelow_a _ hb))))
  exact ((((hbb.setCell (p := ⟨w.heap.size, 0, none⟩) (Nat.le_refl _) _).setCell (p := ⟨w.heap.size, 1, none⟩) (Nat.le_refl _) _).setCell (p := ⟨w.heap.size, 2, none⟩) (Nat.le_refl _) _).setCell (p := ⟨w.heap.size, 3, none⟩) (Nat.le_refl _) _)
set_option maxHeartbeats 4000000 in
theorem of_2t {W I : Int} {d : ByteArray} (h0 : 0 ≤ W) (h1 : W < 4294967296) (he : wE W = false) (hr : wR W = true) (hx : wX W = false) (hI : bits .and .u32 W 536870911 = I) (i0 : 0 ≤ I) (i1 : I ≤ 536870911) (hd : d.size ≤ maxLen) (h : okF I 2 d.size (ByteArray.mk #[]).size = true) (w : World) (hT : Tabs w) :
    Calls Tryd.prog 46 #[.int .u32 W, .string d] w fun e w' => e = .returned (.tuple #[.agg #[.int .i64 I, .int .i64 2, .int .i64 d.size, .string (ByteArray.mk #[])], .int .i64 0]) ∧ Below w.heap.size w w' := by
  obtain ⟨⟨t, fr, hg⟩, t', fr', hg'⟩ := hT
  unfold maxLen at hd
  have HT := Lib.hid (show Tabs w from ⟨⟨t, fr, hg⟩, t', fr', hg'⟩)
  have HG := Lib.hid hg'
  have H := Lib.hid h
  have hlt := lt_of_heap hg'
  have a31 := and31_f h0 h1 he
  have a30 := and30_t h0 h1 hr
  have a29 := and29_f h0 h1 hx
  have o1 := oi02
  have m0 := mark_0
  have m1 := mark_1
  have m2 := mark_2
  have a2 : bits .and .i64 2 2 = 2 := by decide +kernel
  clear hg hg' h he hr hx
  go_enter Tryd.func46, Tryd.ntmps46
  have HG1 : ∀ o o' : Obj, Hid (((w.alloc o).alloc o').heap[0]? = some (.cells markCells t' fr')) := fun o o' => by
    show ((w.alloc o).alloc o').heap[_]? = _
    rw [Below.heap_alloc _ _ _ (by simp <;> omega), Below.heap_alloc _ _ _ hlt]
    exact HG.out
  go_wp2_with (refine wpList_load_row rfl 70 _ rfl 0 rfl t' markCells fr' _ (HG1 _ _).out Tryd.underlying70 rfl (by kernel_rfl) ?_)
  refine wp_loop_rounds 4 ?_
  iterate 4 (rw [rounds_succ]; go_wp2_with fail)
  refine (right_t H.out _ ((((((HT.out.alloc _).alloc _).alloc _).alloc _).alloc _))).mono ?_
  rintro e w1 ⟨rfl, hb⟩
  obtain ⟨hc, hf⟩ := fbcell hb
  have hz : w.heap.size + 5 ≤ w1.heap.size := by have := hb.size; simp only [World.size_alloc] at this; omega
  have c0 : w1.cell? ⟨w.heap.size, 0, none⟩ = some (.int .i64 0) := by rw [hc _ _ (by simp only [World.size_alloc]; omega)]; simp [go_sem]
  have c1 : w1.cell? ⟨w.heap.size, 1, none⟩ = some (.int .i64 0) := by rw [hc _ _ (by simp only [World.size_alloc]; omega)]; simp [go_sem]
  have c2 : w1.cell? ⟨w.heap.size, 2, none⟩ = some (.int .i64 0) := by rw [hc _ _ (by simp only [World.size_alloc]; omega)]; simp [go_sem]
  have c3 : w1.cell? ⟨w.heap.size, 3, none⟩ = some (.string (ByteArray.mk #[])) := by rw [hc _ _ (by simp only [World.size_alloc]; omega)]; simp [go_sem]
  go_wp2
  refine bodyPost_ret (v := .tuple #[.agg #[.int .i64 I, .int .i64 2, .int .i64 d.size, .string (ByteArray.mk #[])], .int .i64 0]) (by simp [results, Tryd.results46, go_sem, c0, c1, c2, c3]) rfl ⟨rfl, ?_⟩
  have hbb := fbelow_a _ (fbelow_a _ (fbelow_a _ (fbelow_a _ (fbelow_a _ hb))))
  exact ((((hbb.setCell (p := ⟨w.heap.size, 0, none⟩) (Nat.le_refl _) _).setCell (p := ⟨w.heap.size, 1, none⟩) (Nat.le_refl _) _).setCell (p := ⟨w.heap.size, 2, none⟩) (Nat.le_refl _) _).setCell (p := ⟨w.heap.size, 3, none⟩) (Nat.le_refl _) _)
set_option maxHeartbeats 4000000 in
theorem of_2f {W I : Int} {d : ByteArray} (h0 : 0 ≤ W) (h1 : W < 4294967296) (he : wE W = false) (hr : wR W = true) (hx : wX W = false) (hI : bits .and .u32 W 536870911 = I) (i0 : 0 ≤ I) (i1 : I ≤ 536870911) (hd : d.size ≤ maxLen) (h : okF I 2 d.size (ByteArray.mk #[]).size = false) (w : World) (hT : Tabs w) :
    Calls Tryd.prog 46 #[.int .u32 W, .string d] w fun e w' => e = .returned (.tuple #[.agg #[.int .i64 0, .int .i64 0, .int .i64 0, .string (ByteArray.mk #[])], .int .i64 4]) ∧ Below w.heap.size w w' := by
  obtain ⟨⟨t, fr, hg⟩, t', fr', hg'⟩ := hT
  unfold maxLen at hd
  have HT := Lib.hid (show Tabs w from ⟨⟨t, fr, hg⟩, t', fr', hg'⟩)
  have HG := Lib.hid hg'
  have H := Lib.hid h
  have hlt := lt_of_heap hg'
  have a31 := and31_f h0 h1 he
  have a30 := and30_t h0 h1 hr
  have a29 := and29_f h0 h1 hx
  have o1 := oi02
  have m0 := mark_0
  have m1 := mark_1
  have m2 := mark_2
  have a2 : bits .and .i64 2 2 = 2 := by decide +kernel
  clear hg hg' h he hr hx
  go_enter Tryd.func46, Tryd.ntmps46
  have HG1 : ∀ o o' : Obj, Hid (((w.alloc o).alloc o').heap[0]? = some (.cells markCells t' fr')) := fun o o' => by
    show ((w.alloc o).alloc o').heap[_]? = _
    rw [Below.heap_alloc _ _ _ (by simp <;> omega), Below.heap_alloc _ _ _ hlt]
    exact HG.out
  go_wp2_with (refine wpList_load_row rfl 70 _ rfl 0 rfl t' markCells fr' _ (HG1 _ _).out Tryd.underlying70 rfl (by kernel_rfl) ?_)
  refine wp_loop_rounds 4 ?_
  iterate 4 (rw [rounds_succ]; go_wp2_with fail)
  refine (right_f H.out _ ((((((HT.out.alloc _).alloc _).alloc _).alloc _).alloc _)) (by decide) (by decide)).mono ?_
  rintro e w1 ⟨rfl, hb⟩
  obtain ⟨hc, hf⟩ := fbcell hb
  have hz : w.heap.size + 5 ≤ w1.heap.size := by have := hb.size; simp only [World.size_alloc] at this; omega
  have c0 : w1.cell? ⟨w.heap.size, 0, none⟩ = some (.int .i64 0) := by rw [hc _ _ (by simp only [World.size_alloc]; omega)]; simp [go_sem]
  have c1 : w1.cell? ⟨w.heap.size, 1, none⟩ = some (.int .i64 0) := by rw [hc _ _ (by simp only [World.size_alloc]; omega)]; simp [go_sem]
  have c2 : w1.cell? ⟨w.heap.size, 2, none⟩ = some (.int .i64 0) := by rw [hc _ _ (by simp only [World.size_alloc]; omega)]; simp [go_sem]
  have c3 : w1.cell? ⟨w.heap.size, 3, none⟩ = some (.string (ByteArray.mk #[])) := by rw [hc _ _ (by simp only [World.size_alloc]; omega)]; simp [go_sem]
  go_wp2
  refine bodyPost_ret (v := .tuple #[.agg #[.int .i64 0, .int .i64 0, .int .i64 0, .string (ByteArray.mk #[])], .int .i64 4]) (by simp [results, Tryd.results46, go_sem, c0, c1, c2, c3]) rfl ⟨rfl, ?_⟩
  have hbb := fbelow_a _ (fbelow_a _ (fbelow_a _ (fbelow_a _ (fbelow_a _ hb))))
  exact ((((hbb.setCell (p := ⟨w.heap.size, 0, none⟩) (Nat.le_refl _) _).setCell (p := ⟨w.heap.size, 1, none⟩) (Nat.le_refl _) _).setCell (p := ⟨w.heap.size, 2, none⟩) (Nat.le_refl _) _).setCell (p := ⟨w.heap.size, 3, none⟩) (Nat.le_refl _) _)
set_option maxHeartbeats 4000000 in
theorem of_3t {W I : Int} {d : ByteArray} (h0 : 0 ≤ W) (h1 : W < 4294967296) (he : wE W = true) (hr : wR W = true) (hx : wX W = false) (hI : bits .and .u32 W 536870911 = I) (i0 : 0 ≤ I) (i1 : I ≤ 536870911) (hd : d.size ≤ maxLen) (h : okF I 3 d.size (ByteArray.mk #[]).size = true) (w : World) (hT : Tabs w) :
    Calls Tryd.prog 46 #[.int .u32 W, .string d] w fun e w' => e = .returned (.tuple #[.agg #[.int .i64 I, .int .i64 3, .int .i64 d.size, .string (ByteArray.mk #[])], .int .i64 0]) ∧ Below w.heap.size w w' := by
  obtain ⟨⟨t, fr, hg⟩, t', fr', hg'⟩ := hT
  unfold maxLen at hd
  have HT := Lib.hid (show Tabs w from ⟨⟨t, fr, hg⟩, t', fr', hg'⟩)
  have HG := Lib.hid hg'
  have H := Lib.hid h
  have hlt := lt_of_heap hg'
  have a31 := and31_t h0 h1 he
  have a30 := and30_t h0 h1 hr
  have a29 := and29_f h0 h1 hx
  have o1 := oi01
  have o2 := oi12
  have m0 := mark_0
  have m1 := mark_1
  have m2 := mark_2
  have a2 : bits .and .i64 3 2 = 2 := by decide +kernel
  clear hg hg' h he hr hx
  go_enter Tryd.func46, Tryd.ntmps46
  have HG1 : ∀ o o' : Obj, Hid (((w.alloc o).alloc o').heap[0]? = some (.cells markCells t' fr')) := fun o o' => by
    show ((w.alloc o).alloc o').heap[_]? = _
    rw [Below.heap_alloc _ _ _ (by simp <;> omega), Below.heap_alloc _ _ _ hlt]
    exact HG.out
  go_wp2_with (refine wpList_load_row rfl 70 _ rfl 0 rfl t' markCells fr' _ (HG1 _ _).out Tryd.underlying70 rfl (by kernel_rfl) ?_)
  refine wp_loop_rounds 4 ?_
  iterate 4 (rw [rounds_succ]; go_wp2_with fail)
  refine (right_t H.out _ ((((((HT.out.alloc _).alloc _).alloc _).alloc _).alloc _))).mono ?_
  rintro e w1 ⟨rfl, hb⟩
  obtain ⟨hc, hf⟩ := fbcell hb
  have hz : w.heap.size + 5 ≤ w1.heap.size := by have := hb.size; simp only [World.size_alloc] at this; omega
  have c0 : w1.cell? ⟨w.heap.size, 0, none⟩ = some (.int .i64 0) := by rw [hc _ _ (by simp only [World.size_alloc]; omega)]; simp [go_sem]
  have c1 : w1.cell? ⟨w.heap.size, 1, none⟩ = some (.int .i64 0) := by rw [hc _ _ (by simp only [World.size_alloc]; omega)]; simp [go_sem]
  have c2 : w1.cell? ⟨w.heap.size, 2, none⟩ = some (.int .i64 0) := by rw [hc _ _ (by simp only [World.size_alloc]; omega)]; simp [go_sem]
  have c3 : w1.cell? ⟨w.heap.size, 3, none⟩ = some (.string (ByteArray.mk #[])) := by rw [hc _ _ (by simp only [World.size_alloc]; omega)]; simp [go_sem]
  go_wp2
  refine bodyPost_ret (v := .tuple #[.agg #[.int .i64 I, .int .i64 3, .int .i64 d.size, .string (ByteArray.mk #[])], .int .i64 0]) (by simp [results, Tryd.results46, go_sem, c0, c1, c2, c3]) rfl ⟨rfl, ?_⟩
  have hbb := fbelow_a _ (fbelow_a _ (fbelow_a _ (fbelow_a _ (fbelow_a _ hb))))
  exact ((((hbb.setCell (p := ⟨w.heap.size, 0, none⟩) (Nat.le_refl _) _).setCell (p := ⟨w.heap.size, 1, none⟩) (Nat.le_refl _) _).setCell (p := ⟨w.heap.size, 2, none⟩) (Nat.le_refl _) _).setCell (p := ⟨w.heap.size, 3, none⟩) (Nat.le_refl _) _)
set_option maxHeartbeats 4000000 in
theorem of_3f {W I : Int} {d : ByteArray} (h0 : 0 ≤ W) (h1 : W < 4294967296) (he : wE W = true) (hr : wR W = true) (hx : wX W = false) (hI : bits .and .u32 W 536870911 = I) (i0 : 0 ≤ I) (i1 : I ≤ 536870911) (hd : d.size ≤ maxLen) (h : okF I 3 d.size (ByteArray.mk #[]).size = false) (w : World) (hT : Tabs w) :
    Calls Tryd.prog 46 #[.int .u32 W, .string d] w fun e w' => e = .returned (.tuple #[.agg #[.int .i64 0, .int .i64 0, .int .i64 0, .string (ByteArray.mk #[])], .int .i64 4]) ∧ Below w.heap.size w w' := by
  obtain ⟨⟨t, fr, hg⟩, t', fr', hg'⟩ := hT
  unfold maxLen at hd
  have HT := Lib.hid (show Tabs w from ⟨⟨t, fr, hg⟩, t', fr', hg'⟩)
  have HG := Lib.hid hg'
  have H := Lib.hid h
  have hlt := lt_of_heap hg'
  have a31 := and31_t h0 h1 he
  have a30 := and30_t h0 h1 hr
  have a29 := and29_f h0 h1 hx
  have o1 := oi01
  have o2 := oi12
  have m0 := mark_0
  have m1 := mark_1
  have m2 := mark_2
  have a2 : bits .and .i64 3 2 = 2 := by decide +kernel
  clear hg hg' h he hr hx
  go_enter Tryd.func46, Tryd.ntmps46
  have HG1 : ∀ o o' : Obj, Hid (((w.alloc o).alloc o').heap[0]? = some (.cells markCells t' fr')) := fun o o' => by
    show ((w.alloc o).alloc o').heap[_]? = _
    rw [Below.heap_alloc _ _ _ (by simp <;> omega), Below.heap_alloc _ _ _ hlt]
    exact HG.out
  go_wp2_with (refine wpList_load_row rfl 70 _ rfl 0 rfl t' markCells fr' _ (HG1 _ _).out Tryd.underlying70 rfl (by kernel_rfl) ?_)
  refine wp_loop_rounds 4 ?_
  iterate 4 (rw [rounds_succ]; go_wp2_with fail)
  refine (right_f H.out _ ((((((HT.out.alloc _).alloc _).alloc _).alloc _).alloc _)) (by decide) (by decide)).mono ?_
  rintro e w1 ⟨rfl, hb⟩
  obtain ⟨hc, hf⟩ := fbcell hb
  have hz : w.heap.size + 5 ≤ w1.heap.size := by have := hb.size; simp only [World.size_alloc] at this; omega
  have c0 : w1.cell? ⟨w.heap.size, 0, none⟩ = some (.int .i64 0) := by rw [hc _ _ (by simp only [World.size_alloc]; omega)]; simp [go_sem]
  have c1 : w1.cell? ⟨w.heap.size, 1, none⟩ = some (.int .i64 0) := by rw [hc _ _ (by simp only [World.size_alloc]; omega)]; simp [go_sem]
  have c2 : w1.cell? ⟨w.heap.size, 2, none⟩ = some (.int .i64 0) := by rw [hc _ _ (by simp only [World.size_alloc]; omega)]; simp [go_sem]
  have c3 : w1.cell? ⟨w.heap.size, 3, none⟩ = some (.string (ByteArray.mk #[])) := by rw [hc _ _ (by simp only [World.size_alloc]; omega)]; simp [go_sem]
  go_wp2
  refine bodyPost_ret (v := .tuple #[.agg #[.int .i64 0, .int .i64 0, .int .i64 0, .string (ByteArray.mk #[])], .int .i64 4]) (by simp [results, Tryd.results46, go_sem, c0, c1, c2, c3]) rfl ⟨rfl, ?_⟩
  have hbb := fbelow_a _ (fbelow_a _ (fbelow_a _ (fbelow_a _ (fbelow_a _ hb))))
  exact ((((hbb.setCell (p := ⟨w.heap.size, 0, none⟩) (Nat.le_refl _) _).setCell (p := ⟨w.heap.size, 1, none⟩) (Nat.le_refl _) _).setCell (p := ⟨w.heap.size, 2, none⟩) (Nat.le_refl _) _).setCell (p := ⟨w.heap.size, 3, none⟩) (Nat.le_refl _) _)
set_option maxHeartbeats 4000000 in
theorem of_4t {W I : Int} {d : ByteArray} (h0 : 0 ≤ W) (h1 : W < 4294967296) (he : wE W = false) (hr : wR W = false) (hx : wX W = true) (hI : bits .and .u32 W 536870911 = I) (i0 : 0 ≤ I) (i1 : I ≤ 536870911) (hd : d.size ≤ maxLen) (h : okF I 4 d.size d.size = true) (w : World) (hT : Tabs w) :
    Calls Tryd.prog 46 #[.int .u32 W, .string d] w fun e w' => e = .returned (.tuple #[.agg #[.int .i64 I, .int .i64 4, .int .i64 d.size, .string d], .int .i64 0]) ∧ Below w.heap.size w w' := by
  obtain ⟨⟨t, fr, hg⟩, t', fr', hg'⟩ := hT
  unfold maxLen at hd
  have HT := Lib.hid (show Tabs w from ⟨⟨t, fr, hg⟩, t', fr', hg'⟩)
  have HG := Lib.hid hg'
  have H := Lib.hid h
  have hlt := lt_of_heap hg'
  have a31 := and31_f h0 h1 he
  have a30 := and30_f h0 h1 hr
  have a29 := and29_t h0 h1 hx
  have o1 := oi04
  have m0 := mark_0
  have m1 := mark_1
  have m2 := mark_2
  have a2 : bits .and .i64 4 2 = 0 := by decide +kernel
  clear hg hg' h he hr hx
  go_enter Tryd.func46, Tryd.ntmps46
  have HG1 : ∀ o o' : Obj, Hid (((w.alloc o).alloc o').heap[0]? = some (.cells markCells t' fr')) := fun o o' => by
    show ((w.alloc o).alloc o').heap[_]? = _
    rw [Below.heap_alloc _ _ _ (by simp <;> omega), Below.heap_alloc _ _ _ hlt]
    exact HG.out
  go_wp2_with (refine wpList_load_row rfl 70 _ rfl 0 rfl t' markCells fr' _ (HG1 _ _).out Tryd.underlying70 rfl (by kernel_rfl) ?_)
  refine wp_loop_rounds 4 ?_
  iterate 4 (rw [rounds_succ]; go_wp2_with fail)
  refine (right_t H.out _ ((((((HT.out.alloc _).alloc _).alloc _).alloc _).alloc _))).mono ?_
  rintro e w1 ⟨rfl, hb⟩
  obtain ⟨hc, hf⟩ := fbcell hb
  have hz : w.heap.size + 5 ≤ w1.heap.size := by have := hb.size; simp only [World.size_alloc] at this; omega
  have c0 : w1.cell? ⟨w.heap.size, 0, none⟩ = some (.int .i64 0) := by rw [hc _ _ (by simp only [World.size_alloc]; omega)]; simp [go_sem]
  have c1 : w1.cell? ⟨w.heap.size, 1, none⟩ = some (.int .i64 0) := by rw [hc _ _ (by simp only [World.size_alloc]; omega)]; simp [go_sem]
  have c2 : w1.cell? ⟨w.heap.size, 2, none⟩ = some (.int .i64 0) := by rw [hc _ _ (by simp only [World.size_alloc]; omega)]; simp [go_sem]
  have c3 : w1.cell? ⟨w.heap.size, 3, none⟩ = some (.string (ByteArray.mk #[])) := by rw [hc _ _ (by simp only [World.size_alloc]; omega)]; simp [go_sem]
  go_wp2
  refine bodyPost_ret (v := .tuple #[.agg #[.int .i64 I, .int .i64 4, .int .i64 d.size, .string d], .int .i64 0]) (by simp [results, Tryd.results46, go_sem, c0, c1, c2, c3]) rfl ⟨rfl, ?_⟩
  have hbb := fbelow_a _ (fbelow_a _ (fbelow_a _ (fbelow_a _ (fbelow_a _ hb))))
  exact ((((hbb.setCell (p := ⟨w.heap.size, 0, none⟩) (Nat.le_refl _) _).setCell (p := ⟨w.heap.size, 1, none⟩) (Nat.le_refl _) _).setCell (p := ⟨w.heap.size, 2, none⟩) (Nat.le_refl _) _).setCell (p := ⟨w.heap.size, 3, none⟩) (Nat.le_refl _) _)
set_option maxHeartbeats 4000000 in
theorem of_4f {W I : Int} {d : ByteArray} (h0 : 0 ≤ W) (h1 : W < 4294967296) (he : wE W = false) (hr : wR W = false) (hx : wX W = true) (hI : bits .and .u32 W 536870911 = I) (i0 : 0 ≤ I) (i1 : I ≤ 536870911) (hd : d.size ≤ maxLen) (h : okF I 4 d.size d.size = false) (w : World) (hT : Tabs w) :
    Calls Tryd.prog 46 #[.int .u32 W, .string d] w fun e w' => e = .returned (.tuple #[.agg #[.int .i64 0, .int .i64 0, .int .i64 0, .string (ByteArray.mk #[])], .int .i64 4]) ∧ Below w.heap.size w w' := by
  obtain ⟨⟨t, fr, hg⟩, t', fr', hg'⟩ := hT
  unfold maxLen at hd
  have HT := Lib.hid (show Tabs w from ⟨⟨t, fr, hg⟩, t', fr', hg'⟩)
  have HG := Lib.hid hg'
  have H := Lib.hid h
  have hlt := lt_of_heap hg'
  have a31 := and31_f h0 h1 he
  have a30 := and30_f h0 h1 hr
  have a29 := and29_t h0 h1 hx
  have o1 := oi04
  have m0 := mark_0
  have m1 := mark_1
  have m2 := mark_2
  have a2 : bits .and .i64 4 2 = 0 := by decide +kernel
  clear hg hg' h he hr hx
  go_enter Tryd.func46, Tryd.ntmps46
  have HG1 : ∀ o o' : Obj, Hid (((w.alloc o).alloc o').heap[0]? = some (.cells markCells t' fr')) := fun o o' => by
    show ((w.alloc o).alloc o').heap[_]? = _
    rw [Below.heap_alloc _ _ _ (by simp <;> omega), Below.heap_alloc _ _ _ hlt]
    exact HG.out
  go_wp2_with (refine wpList_load_row rfl 70 _ rfl 0 rfl t' markCells fr' _ (HG1 _ _).out Tryd.underlying70 rfl (by kernel_rfl) ?_)
  refine wp_loop_rounds 4 ?_
  iterate 4 (rw [rounds_succ]; go_wp2_with fail)
  refine (right_f H.out _ ((((((HT.out.alloc _).alloc _).alloc _).alloc _).alloc _)) (by decide) (by decide)).mono ?_
  rintro e w1 ⟨rfl, hb⟩
  obtain ⟨hc, hf⟩ := fbcell hb
  have hz : w.heap.size + 5 ≤ w1.heap.size := by have := hb.size; simp only [World.size_alloc] at this; omega
  have c0 : w1.cell? ⟨w.heap.size, 0, none⟩ = some (.int .i64 0) := by rw [hc _ _ (by simp only [World.size_alloc]; omega)]; simp [go_sem]
  have c1 : w1.cell? ⟨w.heap.size, 1, none⟩ = some (.int .i64 0) := by rw [hc _ _ (by simp only [World.size_alloc]; omega)]; simp [go_sem]
  have c2 : w1.cell? ⟨w.heap.size, 2, none⟩ = some (.int .i64 0) := by rw [hc _ _ (by simp only [World.size_alloc]; omega)]; simp [go_sem]
  have c3 : w1.cell? ⟨w.heap.size, 3, none⟩ = some (.string (ByteArray.mk #[])) := by rw [hc _ _ (by simp only [World.size_alloc]; omega)]; simp [go_sem]
  go_wp2
  refine bodyPost_ret (v := .tuple #[.agg #[.int .i64 0, .int .i64 0, .int .i64 0, .string (ByteArray.mk #[])], .int .i64 4]) (by simp [results, Tryd.results46, go_sem, c0, c1, c2, c3]) rfl ⟨rfl, ?_⟩
  have hbb := fbelow_a _ (fbelow_a _ (fbelow_a _ (fbelow_a _ (fbelow_a _ hb))))
  exact ((((hbb.setCell (p := ⟨w.heap.size, 0, none⟩) (Nat.le_refl _) _).setCell (p := ⟨w.heap.size, 1, none⟩) (Nat.le_refl _) _).setCell (p := ⟨w.heap.size, 2, none⟩) (Nat.le_refl _) _).setCell (p := ⟨w.heap.size, 3, none⟩) (Nat.le_refl _) _)
set_option maxHeartbeats 4000000 in
theorem of_5t {W I : Int} {d : ByteArray} (h0 : 0 ≤ W) (h1 : W < 4294967296) (he : wE W = true) (hr : wR W = false) (hx : wX W = true) (hI : bits .and .u32 W 536870911 = I) (i0 : 0 ≤ I) (i1 : I ≤ 536870911) (hd : d.size ≤ maxLen) (h : okF I 5 d.size d.size = true) (w : World) (hT : Tabs w) :
    Calls Tryd.prog 46 #[.int .u32 W, .string d] w fun e w' => e = .returned (.tuple #[.agg #[.int .i64 I, .int .i64 5, .int .i64 d.size, .string d], .int .i64 0]) ∧ Below w.heap.size w w' := by
  obtain ⟨⟨t, fr, hg⟩, t', fr', hg'⟩ := hT
  unfold maxLen at hd
  have HT := Lib.hid (show Tabs w from ⟨⟨t, fr, hg⟩, t', fr', hg'⟩)
  have HG := Lib.hid hg'
  have H := Lib.hid h
  have hlt := lt_of_heap hg'
  have a31 := and31_t h0 h1 he
  have a30 := and30_f h0 h1 hr
  have a29 := and29_t h0 h1 hx
  have o1 := oi01
  have o2 := oi14
  have m0 := mark_0
  have m1 := mark_1
  have m2 := mark_2
  have a2 : bits .and .i64 5 2 = 0 := by decide +kernel
  clear hg hg' h he hr hx
  go_enter Tryd.func46, Tryd.ntmps46
  have HG1 : ∀ o o' : Obj, Hid (((w.alloc o).alloc o').heap[0]? = some (.cells markCells t' fr')) := fun o o' => by
    show ((w.alloc o).alloc o').heap[_]? = _
    rw [Below.heap_alloc _ _ _ (by simp <;> omega), Below.heap_alloc _ _ _ hlt]
    exact HG.out
  go_wp2_with (refine wpList_load_row rfl 70 _ rfl 0 rfl t' markCells fr' _ (HG1 _ _).out Tryd.underlying70 rfl (by kernel_rfl) ?_)
  refine wp_loop_rounds 4 ?_
  iterate 4 (rw [rounds_succ]; go_wp2_with fail)
  refine (right_t H.out _ ((((((HT.out.alloc _).alloc _).alloc _).alloc _).alloc _))).mono ?_
  rintro e w1 ⟨rfl, hb⟩
  obtain ⟨hc, hf⟩ := fbcell hb
  have hz : w.heap.size + 5 ≤ w1.heap.size := by have := hb.size; simp only [World.size_alloc] at this; omega
  have c0 : w1.cell? ⟨w.heap.size, 0, none⟩ = some (.int .i64 0) := by rw [hc _ _ (by simp only [World.size_alloc]; omega)]; simp [go_sem]
  have c1 : w1.cell? ⟨w.heap.size, 1, none⟩ = some (.int .i64 0) := by rw [hc _ _ (by simp only [World.size_alloc]; omega)]; simp [go_sem]
  have c2 : w1.cell? ⟨w.heap.size, 2, none⟩ = some (.int .i64 0) := by rw [hc _ _ (by simp only [World.size_alloc]; omega)]; simp [go_sem]
  have c3 : w1.cell? ⟨w.heap.size, 3, none⟩ = some (.string (ByteArray.mk #[])) := by rw [hc _ _ (by simp only [World.size_alloc]; omega)]; simp [go_sem]
  go_wp2
  refine bodyPost_ret (v := .tuple #[.agg #[.int .i64 I, .int .i64 5, .int .i64 d.size, .string d], .int .i64 0]) (by simp [results, Tryd.results46, go_sem, c0, c1, c2, c3]) rfl ⟨rfl, ?_⟩
  have hbb := fbelow_a _ (fbelow_a _ (fbelow_a _ (fbelow_a _ (fbelow_a _ hb))))
  exact ((((hbb.setCell (p := ⟨w.heap.size, 0, none⟩) (Nat.le_refl _) _).setCell (p := ⟨w.heap.size, 1, none⟩) (Nat.le_refl _) _).setCell (p := ⟨w.heap.size, 2, none⟩) (Nat.le_refl _) _).setCell (p := ⟨w.heap.size, 3, none⟩) (Nat.le_refl _) _)
set_option maxHeartbeats 4000000 in
theorem of_5f {W I : Int} {d : ByteArray} (h0 : 0 ≤ W) (h1 : W < 4294967296) (he : wE W = true) (hr : wR W = false) (hx : wX W = true) (hI : bits .and .u32 W 536870911 = I) (i0 : 0 ≤ I) (i1 : I ≤ 536870911) (hd : d.size ≤ maxLen) (h : okF I 5 d.size d.size = false) (w : World) (hT : Tabs w) :
    Calls Tryd.prog 46 #[.int .u32 W, .string d] w fun e w' => e = .returned (.tuple #[.agg #[.int .i64 0, .int .i64 0, .int .i64 0, .string (ByteArray.mk #[])], .int .i64 4]) ∧ Below w.heap.size w w' := by
  obtain ⟨⟨t, fr, hg⟩, t', fr', hg'⟩ := hT
  unfold maxLen at hd
  have HT := Lib.hid (show Tabs w from ⟨⟨t, fr, hg⟩, t', fr', hg'⟩)
  have HG := Lib.hid hg'
  have H := Lib.hid h
  have hlt := lt_of_heap hg'
  have a31 := and31_t h0 h1 he
  have a30 := and30_f h0 h1 hr
  have a29 := and29_t h0 h1 hx
  have o1 := oi01
  have o2 := oi14
  have m0 := mark_0
  have m1 := mark_1
  have m2 := mark_2
  have a2 : bits .and .i64 5 2 = 0 := by decide +kernel
  clear hg hg' h he hr hx
  go_enter Tryd.func46, Tryd.ntmps46
  have HG1 : ∀ o o' : Obj, Hid (((w.alloc o).alloc o').heap[0]? = some (.cells markCells t' fr')) := fun o o' => by
    show ((w.alloc o).alloc o').heap[_]? = _
    rw [Below.heap_alloc _ _ _ (by simp <;> omega), Below.heap_alloc _ _ _ hlt]
    exact HG.out
  go_wp2_with (refine wpList_load_row rfl 70 _ rfl 0 rfl t' markCells fr' _ (HG1 _ _).out Tryd.underlying70 rfl (by kernel_rfl) ?_)
  refine wp_loop_rounds 4 ?_
  iterate 4 (rw [rounds_succ]; go_wp2_with fail)
  refine (right_f H.out _ ((((((HT.out.alloc _).alloc _).alloc _).alloc _).alloc _)) (by decide) (by decide)).mono ?_
  rintro e w1 ⟨rfl, hb⟩
  obtain ⟨hc, hf⟩ := fbcell hb
  have hz : w.heap.size + 5 ≤ w1.heap.size := by have := hb.size; simp only [World.size_alloc] at this; omega
  have c0 : w1.cell? ⟨w.heap.size, 0, none⟩ = some (.int .i64 0) := by rw [hc _ _ (by simp only [World.size_alloc]; omega)]; simp [go_sem]
  have c1 : w1.cell? ⟨w.heap.size, 1, none⟩ = some (.int .i64 0) := by rw [hc _ _ (by simp only [World.size_alloc]; omega)]; simp [go_sem]
  have c2 : w1.cell? ⟨w.heap.size, 2, none⟩ = some (.int .i64 0) := by rw [hc _ _ (by simp only [World.size_alloc]; omega)]; simp [go_sem]
  have c3 : w1.cell? ⟨w.heap.size, 3, none⟩ = some (.string (ByteArray.mk #[])) := by rw [hc _ _ (by simp only [World.size_alloc]; omega)]; simp [go_sem]
  go_wp2
  refine bodyPost_ret (v := .tuple #[.agg #[.int .i64 0, .int .i64 0, .int .i64 0, .string (ByteArray.mk #[])], .int .i64 4]) (by simp [results, Tryd.results46, go_sem, c0, c1, c2, c3]) rfl ⟨rfl, ?_⟩
  have hbb := fbelow_a _ (fbelow_a _ (fbelow_a _ (fbelow_a _ (fbelow_a _ hb))))
  exact ((((hbb.setCell (p := ⟨w.heap.size, 0, none⟩) (Nat.le_refl _) _).setCell (p := ⟨w.heap.size, 1, none⟩) (Nat.le_refl _) _).setCell (p := ⟨w.heap.size, 2, none⟩) (Nat.le_refl _) _).setCell (p := ⟨w.heap.size, 3, none⟩) (Nat.le_refl _) _)
set_option maxHeartbeats 4000000 in
theorem of_6t {W I : Int} {d : ByteArray} (h0 : 0 ≤ W) (h1 : W < 4294967296) (he : wE W = false) (hr : wR W = true) (hx : wX W = true) (hI : bits .and .u32 W 536870911 = I) (i0 : 0 ≤ I) (i1 : I ≤ 536870911) (hd : d.size ≤ maxLen) (h : okF I 6 d.size (ByteArray.mk #[]).size = true) (w : World) (hT : Tabs w) :
    Calls Tryd.prog 46 #[.int .u32 W, .string d] w fun e w' => e = .returned (.tuple #[.agg #[.int .i64 I, .int .i64 6, .int .i64 d.size, .string (ByteArray.mk #[])], .int .i64 0]) ∧ Below w.heap.size w w' := by
  obtain ⟨⟨t, fr, hg⟩, t', fr', hg'⟩ := hT
  unfold maxLen at hd
  have HT := Lib.hid (show Tabs w from ⟨⟨t, fr, hg⟩, t', fr', hg'⟩)
  have HG := Lib.hid hg'
  have H := Lib.hid h
  have hlt := lt_of_heap hg'
  have a31 := and31_f h0 h1 he
  have a30 := and30_t h0 h1 hr
  have a29 := and29_t h0 h1 hx
  have o1 := oi02
  have o2 := oi24
  have m0 := mark_0
  have m1 := mark_1
  have m2 := mark_2
  have a2 : bits .and .i64 6 2 = 2 := by decide +kernel
  clear hg hg' h he hr hx
  go_enter Tryd.func46, Tryd.ntmps46
  have HG1 : ∀ o o' : Obj, Hid (((w.alloc o).alloc o').heap[0]? = some (.cells markCells t' fr')) := fun o o' => by
    show ((w.alloc o).alloc o').heap[_]? = _
    rw [Below.heap_alloc _ _ _ (by simp <;> omega), Below.heap_alloc _ _ _ hlt]
    exact HG.out
  go_wp2_with (refine wpList_load_row rfl 70 _ rfl 0 rfl t' markCells fr' _ (HG1 _ _).out Tryd.underlying70 rfl (by kernel_rfl) ?_)
  refine wp_loop_rounds 4 ?_
  iterate 4 (rw [rounds_succ]; go_wp2_with fail)
  refine (right_t H.out _ ((((((HT.out.alloc _).alloc _).alloc _).alloc _).alloc _))).mono ?_
  rintro e w1 ⟨rfl, hb⟩
  obtain ⟨hc, hf⟩ := fbcell hb
  have hz : w.heap.size + 5 ≤ w1.heap.size := by have := hb.size; simp only [World.size_alloc] at this; omega
  have c0 : w1.cell? ⟨w.heap.size, 0, none⟩ = some (.int .i64 0) := by rw [hc _ _ (by simp only [World.size_alloc]; omega)]; simp [go_sem]
  have c1 : w1.cell? ⟨w.heap.size, 1, none⟩ = some (.int .i64 0) := by rw [hc _ _ (by simp only [World.size_alloc]; omega)]; simp [go_sem]
  have c2 : w1.cell? ⟨w.heap.size, 2, none⟩ = some (.int .i64 0) := by rw [hc _ _ (by simp only [World.size_alloc]; omega)]; simp [go_sem]
  have c3 : w1.cell? ⟨w.heap.size, 3, none⟩ = some (.string (ByteArray.mk #[])) := by rw [hc _ _ (by simp only [World.size_alloc]; omega)]; simp [go_sem]
  go_wp2
  refine bodyPost_ret (v := .tuple #[.agg #[.int .i64 I, .int .i64 6, .int .i64 d.size, .string (ByteArray.mk #[])], .int .i64 0]) (by simp [results, Tryd.results46, go_sem, c0, c1, c2, c3]) rfl ⟨rfl, ?_⟩
  have hbb := fbelow_a _ (fbelow_a _ (fbelow_a _ (fbelow_a _ (fbelow_a _ hb))))
  exact ((((hbb.setCell (p := ⟨w.heap.size, 0, none⟩) (Nat.le_refl _) _).setCell (p := ⟨w.heap.size, 1, none⟩) (Nat.le_refl _) _).setCell (p := ⟨w.heap.size, 2, none⟩) (Nat.le_refl _) _).setCell (p := ⟨w.heap.size, 3, none⟩) (Nat.le_refl _) _)
set_option maxHeartbeats 4000000 in
theorem of_6f {W I : Int} {d : ByteArray} (h0 : 0 ≤ W) (h1 : W < 4294967296) (he : wE W = false) (hr : wR W = true) (hx : wX W = true) (hI : bits .and .u32 W 536870911 = I) (i0 : 0 ≤ I) (i1 : I ≤ 536870911) (hd : d.size ≤ maxLen) (h : okF I 6 d.size (ByteArray.mk #[]).size = false) (w : World) (hT : Tabs w) :
    Calls Tryd.prog 46 #[.int .u32 W, .string d] w fun e w' => e = .returned (.tuple #[.agg #[.int .i64 0, .int .i64 0, .int .i64 0, .string (ByteArray.mk #[])], .int .i64 4]) ∧ Below w.heap.size w w' := by
  obtain ⟨⟨t, fr, hg⟩, t', fr', hg'⟩ := hT
  unfold maxLen at hd
  have HT := Lib.hid (show Tabs w from ⟨⟨t, fr, hg⟩, t', fr', hg'⟩)
  have HG := Lib.hid hg'
  have H := Lib.hid h
  have hlt := lt_of_heap hg'
  have a31 := and31_f h0 h1 he
  have a30 := and30_t h0 h1 hr
  have a29 := and29_t h0 h1 hx
  have o1 := oi02
  have o2 := oi24
  have m0 := mark_0
  have m1 := mark_1
  have m2 := mark_2
  have a2 : bits .and .i64 6 2 = 2 := by decide +kernel
  clear hg hg' h he hr hx
  go_enter Tryd.func46, Tryd.ntmps46
  have HG1 : ∀ o o' : Obj, Hid (((w.alloc o).alloc o').heap[0]? = some (.cells markCells t' fr')) := fun o o' => by
    show ((w.alloc o).alloc o').heap[_]? = _
    rw [Below.heap_alloc _ _ _ (by simp <;> omega), Below.heap_alloc _ _ _ hlt]
    exact HG.out
  go_wp2_with (refine wpList_load_row rfl 70 _ rfl 0 rfl t' markCells fr' _ (HG1 _ _).out Tryd.underlying70 rfl (by kernel_rfl) ?_)
  refine wp_loop_rounds 4 ?_
  iterate 4 (rw [rounds_succ]; go_wp2_with fail)
  refine (right_f H.out _ ((((((HT.out.alloc _).alloc _).alloc _).alloc _).alloc _)) (by decide) (by decide)).mono ?_
  rintro e w1 ⟨rfl, hb⟩
  obtain ⟨hc, hf⟩ := fbcell hb
  have hz : w.heap.size + 5 ≤ w1.heap.size := by have := hb.size; simp only [World.size_alloc] at this; omega
  have c0 : w1.cell? ⟨w.heap.size, 0, none⟩ = some (.int .i64 0) := by rw [hc _ _ (by simp only [World.size_alloc]; omega)]; simp [go_sem]
  have c1 : w1.cell? ⟨w.heap.size, 1, none⟩ = some (.int .i64 0) := by rw [hc _ _ (by simp only [World.size_alloc]; omega)]; simp [go_sem]
  have c2 : w1.cell? ⟨w.heap.size, 2, none⟩ = some (.int .i64 0) := by rw [hc _ _ (by simp only [World.size_alloc]; omega)]; simp [go_sem]
  have c3 : w1.cell? ⟨w.heap.size, 3, none⟩ = some (.string (ByteArray.mk #[])) := by rw [hc _ _ (by simp only [World.size_alloc]; omega)]; simp [go_sem]
  go_wp2
  refine bodyPost_ret (v := .tuple #[.agg #[.int .i64 0, .int .i64 0, .int .i64 0, .string (ByteArray.mk #[])], .int .i64 4]) (by simp [results, Tryd.results46, go_sem, c0, c1, c2, c3]) rfl ⟨rfl, ?_⟩
  have hbb := fbelow_a _ (fbelow_a _ (fbelow_a _ (fbelow_a _ (fbelow_a _ hb))))
  exact ((((hbb.setCell (p := ⟨w.heap.size, 0, none⟩) (Nat.le_refl _) _).setCell (p := ⟨w.heap.size, 1, none⟩) (Nat.le_refl _) _).setCell (p := ⟨w.heap.size, 2, none⟩) (Nat.le_refl _) _).setCell (p := ⟨w.heap.size, 3, none⟩) (Nat.le_refl _) _)
set_option maxHeartbeats 4000000 in
theorem of_7t {W I : Int} {d : ByteArray} (h0 : 0 ≤ W) (h1 : W < 4294967296) (he : wE W = true) (hr : wR W = true) (hx : wX W = true) (hI : bits .and .u32 W 536870911 = I) (i0 : 0 ≤ I) (i1 : I ≤ 536870911) (hd : d.size ≤ maxLen) (h : okF I 7 d.size (ByteArray.mk #[]).size = true) (w : World) (hT : Tabs w) :
    Calls Tryd.prog 46 #[.int .u32 W, .string d] w fun e w' => e = .returned (.tuple #[.agg #[.int .i64 I, .int .i64 7, .int .i64 d.size, .string (ByteArray.mk #[])], .int .i64 0]) ∧ Below w.heap.size w w' := by
  obtain ⟨⟨t, fr, hg⟩, t', fr', hg'⟩ := hT
  unfold maxLen at hd
  have HT := Lib.hid (show Tabs w from ⟨⟨t, fr, hg⟩, t', fr', hg'⟩)
  have HG := Lib.hid hg'
  have H := Lib.hid h
  have hlt := lt_of_heap hg'
  have a31 := and31_t h0 h1 he
  have a30 := and30_t h0 h1 hr
  have a29 := and29_t h0 h1 hx
  have o1 := oi01
  have o2 := oi12
  have o3 := oi34
  have m0 := mark_0
  have m1 := mark_1
  have m2 := mark_2
  have a2 : bits .and .i64 7 2 = 2 := by decide +kernel
  clear hg hg' h he hr hx
  go_enter Tryd.func46, Tryd.ntmps46
  have HG1 : ∀ o o' : Obj, Hid (((w.alloc o).alloc o').heap[0]? = some (.cells markCells t' fr')) := fun o o' => by
    show ((w.alloc o).alloc o').heap[_]? = _
    rw [Below.heap_alloc _ _ _ (by simp <;> omega), Below.heap_alloc _ _ _ hlt]
    exact HG.out
  go_wp2_with (refine wpList_load_row rfl 70 _ rfl 0 rfl t' markCells fr' _ (HG1 _ _).out Tryd.underlying70 rfl (by kernel_rfl) ?_)
  refine wp_loop_rounds 4 ?_
  iterate 4 (rw [rounds_succ]; go_wp2_with fail)
  refine (right_t H.out _ ((((((HT.out.alloc _).alloc _).alloc _).alloc _).alloc _))).mono ?_
  rintro e w1 ⟨rfl, hb⟩
  obtain ⟨hc, hf⟩ := fbcell hb
  have hz : w.heap.size + 5 ≤ w1.heap.size := by have := hb.size; simp only [World.size_alloc] at this; omega
  have c0 : w1.cell? ⟨w.heap.size, 0, none⟩ = some (.int .i64 0) := by rw [hc _ _ (by simp only [World.size_alloc]; omega)]; simp [go_sem]
  have c1 : w1.cell? ⟨w.heap.size, 1, none⟩ = some (.int .i64 0) := by rw [hc _ _ (by simp only [World.size_alloc]; omega)]; simp [go_sem]
  have c2 : w1.cell? ⟨w.heap.size, 2, none⟩ = some (.int .i64 0) := by rw [hc _ _ (by simp only [World.size_alloc]; omega)]; simp [go_sem]
  have c3 : w1.cell? ⟨w.heap.size, 3, none⟩ = some (.string (ByteArray.mk #[])) := by rw [hc _ _ (by simp only [World.size_alloc]; omega)]; simp [go_sem]
  go_wp2
  refine bodyPost_ret (v := .tuple #[.agg #[.int .i64 I, .int .i64 7, .int .i64 d.size, .string (ByteArray.mk #[])], .int .i64 0]) (by simp [results, Tryd.results46, go_sem, c0, c1, c2, c3]) rfl ⟨rfl, ?_⟩
  have hbb := fbelow_a _ (fbelow_a _ (fbelow_a _ (fbelow_a _ (fbelow_a _ hb))))
  exact ((((hbb.setCell (p := ⟨w.heap.size, 0, none⟩) (Nat.le_refl _) _).setCell (p := ⟨w.heap.size, 1, none⟩) (Nat.le_refl _) _).setCell (p := ⟨w.heap.size, 2, none⟩) (Nat.le_refl _) _).setCell (p := ⟨w.heap.size, 3, none⟩) (Nat.le_refl _) _)
set_option maxHeartbeats 4000000 in
theorem of_7f {W I : Int} {d : ByteArray} (h0 : 0 ≤ W) (h1 : W < 4294967296) (he : wE W = true) (hr : wR W = true) (hx : wX W = true) (hI : bits .and .u32 W 536870911 = I) (i0 : 0 ≤ I) (i1 : I ≤ 536870911) (hd : d.size ≤ maxLen) (h : okF I 7 d.size (ByteArray.mk #[]).size = false) (w : World) (hT : Tabs w) :
    Calls Tryd.prog 46 #[.int .u32 W, .string d] w fun e w' => e = .returned (.tuple #[.agg #[.int .i64 0, .int .i64 0, .int .i64 0, .string (ByteArray.mk #[])], .int .i64 4]) ∧ Below w.heap.size w w' := by
  obtain ⟨⟨t, fr, hg⟩, t', fr', hg'⟩ := hT
  unfold maxLen at hd
  have HT := Lib.hid (show Tabs w from ⟨⟨t, fr, hg⟩, t', fr', hg'⟩)
  have HG := Lib.hid hg'
  have H := Lib.hid h
  have hlt := lt_of_heap hg'
  have a31 := and31_t h0 h1 he
  have a30 := and30_t h0 h1 hr
  have a29 := and29_t h0 h1 hx
  have o1 := oi01
  have o2 := oi12
  have o3 := oi34
  have m0 := mark_0
  have m1 := mark_1
  have m2 := mark_2
  have a2 : bits .and .i64 7 2 = 2 := by decide +kernel
  clear hg hg' h he hr hx
  go_enter Tryd.func46, Tryd.ntmps46
  have HG1 : ∀ o o' : Obj, Hid (((w.alloc o).alloc o').heap[0]? = some (.cells markCells t' fr')) := fun o o' => by
    show ((w.alloc o).alloc o').heap[_]? = _
    rw [Below.heap_alloc _ _ _ (by simp <;> omega), Below.heap_alloc _ _ _ hlt]
    exact HG.out
  go_wp2_with (refine wpList_load_row rfl 70 _ rfl 0 rfl t' markCells fr' _ (HG1 _ _).out Tryd.underlying70 rfl (by kernel_rfl) ?_)
  refine wp_loop_rounds 4 ?_
  iterate 4 (rw [rounds_succ]; go_wp2_with fail)
  refine (right_f H.out _ ((((((HT.out.alloc _).alloc _).alloc _).alloc _).alloc _)) (by decide) (by decide)).mono ?_
  rintro e w1 ⟨rfl, hb⟩
  obtain ⟨hc, hf⟩ := fbcell hb
  have hz : w.heap.size + 5 ≤ w1.heap.size := by have := hb.size; simp only [World.size_alloc] at this; omega
  have c0 : w1.cell? ⟨w.heap.size, 0, none⟩ = some (.int .i64 0) := by rw [hc _ _ (by simp only [World.size_alloc]; omega)]; simp [go_sem]
  have c1 : w1.cell? ⟨w.heap.size, 1, none⟩ = some (.int .i64 0) := by rw [hc _ _ (by simp only [World.size_alloc]; omega)]; simp [go_sem]
  have c2 : w1.cell? ⟨w.heap.size, 2, none⟩ = some (.int .i64 0) := by rw [hc _ _ (by simp only [World.size_alloc]; omega)]; simp [go_sem]
  have c3 : w1.cell? ⟨w.heap.size, 3, none⟩ = some (.string (ByteArray.mk #[])) := by rw [hc _ _ (by simp only [World.size_alloc]; omega)]; simp [go_sem]
  go_wp2
  refine bodyPost_ret (v := .tuple #[.agg #[.int .i64 0, .int .i64 0, .int .i64 0, .string (ByteArray.mk #[])], .int .i64 4]) (by simp [results, Tryd.results46, go_sem, c0, c1, c2, c3]) rfl ⟨rfl, ?_⟩
  have hbb := fbelow_a _ (fbelow_a _ (fbelow_a _ (fbelow_a _ (fbelow_a _ hb))))
  exact ((((hbb.setCell (p := ⟨w.heap.size, 0, none⟩) (Nat.le_refl _) _).setCell (p := ⟨w.heap.size, 1, none⟩) (Nat.le_refl _) _).setCell (p := ⟨w.heap.size, 2, none⟩) (Nat.le_refl _) _).setCell (p := ⟨w.heap.size, 3, none⟩) (Nat.le_refl _) _)

end Go.Proofs.YtimlaopmhcipmaaDoor
