/- Frame: contracts of the document's Of; Of in two words. -/
import Derived.Test.YtimlaopmhcipmaaDoorFrmW
namespace Go.Proofs.YtimlaopmhcipmaaDoor
open Go.RowKit
set_option linter.unusedVariables false

theorem wE_v {W : Int} (h0 : 0 ≤ W) (h1 : W < 4294967296) {q : Bool} (h : wE W = q) : (W / 2147483648 == 1) = q := by
  rw [← h]; unfold wE; rw [Bool.eq_iff_iff]; simp; omega
theorem wR_v {W : Int} {q : Bool} (h : wR W = q) : (W / 1073741824 % 2 == 1) = q := by
  rw [← h]; unfold wR; rw [Bool.eq_iff_iff]; simp
theorem wX_v {W : Int} {q : Bool} (h : wX W = q) : (W / 536870912 % 2 == 1) = q := by
  rw [← h]; unfold wX; rw [Bool.eq_iff_iff]; simp

set_option maxHeartbeats 4000000 in
theorem rof_0t {W I : Int} {d : ByteArray} (h0 : 0 ≤ W) (h1 : W < 4294967296) (he : wE W = false) (hr : wR W = false) (hx : wX W = false) (hI : W % 536870912 = I) (i0 : 0 ≤ I) (i1 : I ≤ 536870911) (hd : d.size ≤ maxLen) (h : okF I 0 d.size d.size = true) (w : World) :
    Calls Tryd.prog 33 #[.int .u32 W, .string d] w fun e w' => e = .returned (.tuple #[.agg #[.int .i64 I, .int .i64 0, .int .i64 d.size, .string d], .bool true]) ∧ Below w.heap.size w w' := by
  unfold maxLen at hd
  have H := Lib.hid h
  have e1 := wE_v h0 h1 he
  have e2 := wR_v hr
  have e3 := wX_v hx
  clear h he hr hx
  go_enter Tryd.func33, Tryd.ntmps33
  go_wp2_with fail
  refine (rright_v H.out _).mono ?_
  rintro e w1 ⟨rfl, hb⟩
  obtain ⟨hc, hf⟩ := fbcell hb
  have c0 : w1.cell? ⟨w.heap.size, 0, none⟩ = some (.int .i64 0) := by rw [hc _ _ (by simp only [World.size_alloc]; omega)]; simp [go_sem]
  have c1 : w1.cell? ⟨w.heap.size, 1, none⟩ = some (.int .i64 0) := by rw [hc _ _ (by simp only [World.size_alloc]; omega)]; simp [go_sem]
  have c2 : w1.cell? ⟨w.heap.size, 2, none⟩ = some (.int .i64 0) := by rw [hc _ _ (by simp only [World.size_alloc]; omega)]; simp [go_sem]
  have c3 : w1.cell? ⟨w.heap.size, 3, none⟩ = some (.string (ByteArray.mk #[])) := by rw [hc _ _ (by simp only [World.size_alloc]; omega)]; simp [go_sem]
  go_wp2
  refine bodyPost_ret (v := .tuple #[.agg #[.int .i64 I, .int .i64 0, .int .i64 d.size, .string d], .bool true]) (by simp [results, Tryd.results33, go_sem, c0, c1, c2, c3]) rfl ⟨rfl, ?_⟩
  have hbb := fbelow_a _ (fbelow_a _ hb)
  exact ((((hbb.setCell (p := ⟨w.heap.size, 0, none⟩) (Nat.le_refl _) _).setCell (p := ⟨w.heap.size, 1, none⟩) (Nat.le_refl _) _).setCell (p := ⟨w.heap.size, 2, none⟩) (Nat.le_refl _) _).setCell (p := ⟨w.heap.size, 3, none⟩) (Nat.le_refl _) _)
set_option maxHeartbeats 4000000 in
theorem rof_0f {W I : Int} {d : ByteArray} (h0 : 0 ≤ W) (h1 : W < 4294967296) (he : wE W = false) (hr : wR W = false) (hx : wX W = false) (hI : W % 536870912 = I) (i0 : 0 ≤ I) (i1 : I ≤ 536870911) (hd : d.size ≤ maxLen) (h : okF I 0 d.size d.size = false) (w : World) :
    Calls Tryd.prog 33 #[.int .u32 W, .string d] w fun e w' => e = .returned (.tuple #[.agg #[.int .i64 0, .int .i64 0, .int .i64 0, .string (ByteArray.mk #[])], .bool false]) ∧ Below w.heap.size w w' := by
  unfold maxLen at hd
  have H := Lib.hid h
  have e1 := wE_v h0 h1 he
  have e2 := wR_v hr
  have e3 := wX_v hx
  clear h he hr hx
  go_enter Tryd.func33, Tryd.ntmps33
  go_wp2_with fail
  refine (rright_v H.out _).mono ?_
  rintro e w1 ⟨rfl, hb⟩
  obtain ⟨hc, hf⟩ := fbcell hb
  have c0 : w1.cell? ⟨w.heap.size, 0, none⟩ = some (.int .i64 0) := by rw [hc _ _ (by simp only [World.size_alloc]; omega)]; simp [go_sem]
  have c1 : w1.cell? ⟨w.heap.size, 1, none⟩ = some (.int .i64 0) := by rw [hc _ _ (by simp only [World.size_alloc]; omega)]; simp [go_sem]
  have c2 : w1.cell? ⟨w.heap.size, 2, none⟩ = some (.int .i64 0) := by rw [hc _ _ (by simp only [World.size_alloc]; omega)]; simp [go_sem]
  have c3 : w1.cell? ⟨w.heap.size, 3, none⟩ = some (.string (ByteArray.mk #[])) := by rw [hc _ _ (by simp only [World.size_alloc]; omega)]; simp [go_sem]
  go_wp2
  refine bodyPost_ret (v := .tuple #[.agg #[.int .i64 0, .int .i64 0, .int .i64 0, .string (ByteArray.mk #[])], .bool false]) (by simp [results, Tryd.results33, go_sem, c0, c1, c2, c3]) rfl ⟨rfl, ?_⟩
  have hbb := fbelow_a _ (fbelow_a _ hb)
  exact ((((hbb.setCell (p := ⟨w.heap.size, 0, none⟩) (Nat.le_refl _) _).setCell (p := ⟨w.heap.size, 1, none⟩) (Nat.le_refl _) _).setCell (p := ⟨w.heap.size, 2, none⟩) (Nat.le_refl _) _).setCell (p := ⟨w.heap.size, 3, none⟩) (Nat.le_refl _) _)
set_option maxHeartbeats 4000000 in
theorem rof_1t {W I : Int} {d : ByteArray} (h0 : 0 ≤ W) (h1 : W < 4294967296) (he : wE W = true) (hr : wR W = false) (hx : wX W = false) (hI : W % 536870912 = I) (i0 : 0 ≤ I) (i1 : I ≤ 536870911) (hd : d.size ≤ maxLen) (h : okF I 1 d.size d.size = true) (w : World) :
    Calls Tryd.prog 33 #[.int .u32 W, .string d] w fun e w' => e = .returned (.tuple #[.agg #[.int .i64 I, .int .i64 1, .int .i64 d.size, .string d], .bool true]) ∧ Below w.heap.size w w' := by
  unfold maxLen at hd
  have H := Lib.hid h
  have e1 := wE_v h0 h1 he
  have e2 := wR_v hr
  have e3 := wX_v hx
  clear h he hr hx
  go_enter Tryd.func33, Tryd.ntmps33
  go_wp2_with fail
  refine (rright_v H.out _).mono ?_
  rintro e w1 ⟨rfl, hb⟩
  obtain ⟨hc, hf⟩ := fbcell hb
  have c0 : w1.cell? ⟨w.heap.size, 0, none⟩ = some (.int .i64 0) := by rw [hc _ _ (by simp only [World.size_alloc]; omega)]; simp [go_sem]
  have c1 : w1.cell? ⟨w.heap.size, 1, none⟩ = some (.int .i64 0) := by rw [hc _ _ (by simp only [World.size_alloc]; omega)]; simp [go_sem]
  have c2 : w1.cell? ⟨w.heap.size, 2, none⟩ = some (.int .i64 0) := by rw [hc _ _ (by simp only [World.size_alloc]; omega)]; simp [go_sem]
  have c3 : w1.cell? ⟨w.heap.size, 3, none⟩ = some (.string (ByteArray.mk #[])) := by rw [hc _ _ (by simp only [World.size_alloc]; omega)]; simp [go_sem]
  go_wp2
  refine bodyPost_ret (v := .tuple #[.agg #[.int .i64 I, .int .i64 1, .int .i64 d.size, .string d], .bool true]) (by simp [results, Tryd.results33, go_sem, c0, c1, c2, c3]) rfl ⟨rfl, ?_⟩
  have hbb := fbelow_a _ (fbelow_a _ hb)
  exact ((((hbb.setCell (p := ⟨w.heap.size, 0, none⟩) (Nat.le_refl _) _).setCell (p := ⟨w.heap.size, 1, none⟩) (Nat.le_refl _) _).setCell (p := ⟨w.heap.size, 2, none⟩) (Nat.le_refl _) _).setCell (p := ⟨w.heap.size, 3, none⟩) (Nat.le_refl _) _)
set_option maxHeartbeats 4000000 in
theorem rof_1f {W I : Int} {d : ByteArray} (h0 : 0 ≤ W) (h1 : W < 4294967296) (he : wE W = true) (hr : wR W = false) (hx : wX W = false) (hI : W % 536870912 = I) (i0 : 0 ≤ I) (i1 : I ≤ 536870911) (hd : d.size ≤ maxLen) (h : okF I 1 d.size d.size = false) (w : World) :
    Calls Tryd.prog 33 #[.int .u32 W, .string d] w fun e w' => e = .returned (.tuple #[.agg #[.int .i64 0, .int .i64 0, .int .i64 0, .string (ByteArray.mk #[])], .bool false]) ∧ Below w.heap.size w w' := by
  unfold maxLen at hd
  have H := Lib.hid h
  have e1 := wE_v h0 h1 he
  have e2 := wR_v hr
  have e3 := wX_v hx
  clear h he hr hx
  go_enter Tryd.func33, Tryd.ntmps33
  go_wp2_with fail
  refine (rright_v H.out _).mono ?_
  rintro e w1 ⟨rfl, hb⟩
  obtain ⟨hc, hf⟩ := fbcell hb
  have c0 : w1.cell? ⟨w.heap.size, 0, none⟩ = some (.int .i64 0) := by rw [hc _ _ (by simp only [World.size_alloc]; omega)]; simp [go_sem]
  have c1 : w1.cell? ⟨w.heap.size, 1, none⟩ = some (.int .i64 0) := by rw [hc _ _ (by simp only [World.size_alloc]; omega)]; simp [go_sem]
  have c2 : w1.cell? ⟨w.heap.size, 2, none⟩ = some (.int .i64 0) := by rw [hc _ _ (by simp only [World.size_alloc]; omega)]; simp [go_sem]
  have c3 : w1.cell? ⟨w.heap.size, 3, none⟩ = some (.string (ByteArray.mk #[])) := by rw [hc _ _ (by simp only [World.size_alloc]; omega)]; simp [go_sem]
  go_wp2
  refine bodyPost_ret (v := .tuple #[.agg #[.int .i64 0, .int .i64 0, .int .i64 0, .string (ByteArray.mk #[])], .bool false]) (by simp [results, Tryd.results33, go_sem, c0, c1, c2, c3]) rfl ⟨rfl, ?_⟩
  have hbb := fbelow_a _ (fbelow_a _ hb)
  exact ((((hbb.setCell (p := ⟨w.heap.size, 0, none⟩) (Nat.le_refl _) _).setCell (p := ⟨w.heap.size, 1, none⟩) (Nat.le_refl _) _).setCell (p := ⟨w.heap.size, 2, none⟩) (Nat.le_refl _) _).setCell (p := ⟨w.heap.size, 3, none⟩) (Nat.le_refl _) _)
set_option maxHeartbeats 4000000 in
theorem rof_2t {W I : Int} {d : ByteArray} (h0 : 0 ≤ W) (h1 : W < 4294967296) (he : wE W = false) (hr : wR W = true) (hx : wX W = false) (hI : W % 536870912 = I) (i0 : 0 ≤ I) (i1 : I ≤ 536870911) (hd : d.size ≤ maxLen) (h : okF I 2 d.size (ByteArray.mk #[]).size = true) (w : World) :
    Calls Tryd.prog 33 #[.int .u32 W, .string d] w fun e w' => e = .returned (.tuple #[.agg #[.int .i64 I, .int .i64 2, .int .i64 d.size, .string (ByteArray.mk #[])], .bool true]) ∧ Below w.heap.size w w' := by
  unfold maxLen at hd
  have H := Lib.hid h
  have e1 := wE_v h0 h1 he
  have e2 := wR_v hr
  have e3 := wX_v hx
  clear h he hr hx
  go_enter Tryd.func33, Tryd.ntmps33
  go_wp2_with fail
  refine (rright_v H.out _).mono ?_
  rintro e w1 ⟨rfl, hb⟩
  obtain ⟨hc, hf⟩ := fbcell hb
  have c0 : w1.cell? ⟨w.heap.size, 0, none⟩ = some (.int .i64 0) := by rw [hc _ _ (by simp only [World.size_alloc]; omega)]; simp [go_sem]
  have c1 : w1.cell? ⟨w.heap.size, 1, none⟩ = some (.int .i64 0) := by rw [hc _ _ (by simp only [World.size_alloc]; omega)]; simp [go_sem]
  have c2 : w1.cell? ⟨w.heap.size, 2, none⟩ = some (.int .i64 0) := by rw [hc _ _ (by simp only [World.size_alloc]; omega)]; simp [go_sem]
  have c3 : w1.cell? ⟨w.heap.size, 3, none⟩ = some (.string (ByteArray.mk #[])) := by rw [hc _ _ (by simp only [World.size_alloc]; omega)]; simp [go_sem]
  go_wp2
  refine bodyPost_ret (v := .tuple #[.agg #[.int .i64 I, .int .i64 2, .int .i64 d.size, .string (ByteArray.mk #[])], .bool true]) (by simp [results, Tryd.results33, go_sem, c0, c1, c2, c3]) rfl ⟨rfl, ?_⟩
  have hbb := fbelow_a _ (fbelow_a _ hb)
  exact ((((hbb.setCell (p := ⟨w.heap.size, 0, none⟩) (Nat.le_refl _) _).setCell (p := ⟨w.heap.size, 1, none⟩) (Nat.le_refl _) _).setCell (p := ⟨w.heap.size, 2, none⟩) (Nat.le_refl _) _).setCell (p := ⟨w.heap.size, 3, none⟩) (Nat.le_refl _) _)
set_option maxHeartbeats 4000000 in
theorem rof_2f {W I : Int} {d : ByteArray} (h0 : 0 ≤ W) (h1 : W < 4294967296) (he : wE W = false) (hr : wR W = true) (hx : wX W = false) (hI : W % 536870912 = I) (i0 : 0 ≤ I) (i1 : I ≤ 536870911) (hd : d.size ≤ maxLen) (h : okF I 2 d.size (ByteArray.mk #[]).size = false) (w : World) :
    Calls Tryd.prog 33 #[.int .u32 W, .string d] w fun e w' => e = .returned (.tuple #[.agg #[.int .i64 0, .int .i64 0, .int .i64 0, .string (ByteArray.mk #[])], .bool false]) ∧ Below w.heap.size w w' := by
  unfold maxLen at hd
  have H := Lib.hid h
  have e1 := wE_v h0 h1 he
  have e2 := wR_v hr
  have e3 := wX_v hx
  clear h he hr hx
  go_enter Tryd.func33, Tryd.ntmps33
  go_wp2_with fail
  refine (rright_v H.out _).mono ?_
  rintro e w1 ⟨rfl, hb⟩
  obtain ⟨hc, hf⟩ := fbcell hb
  have c0 : w1.cell? ⟨w.heap.size, 0, none⟩ = some (.int .i64 0) := by rw [hc _ _ (by simp only [World.size_alloc]; omega)]; simp [go_sem]
  have c1 : w1.cell? ⟨w.heap.size, 1, none⟩ = some (.int .i64 0) := by rw [hc _ _ (by simp only [World.size_alloc]; omega)]; simp [go_sem]
  have c2 : w1.cell? ⟨w.heap.size, 2, none⟩ = some (.int .i64 0) := by rw [hc _ _ (by simp only [World.size_alloc]; omega)]; simp [go_sem]
  have c3 : w1.cell? ⟨w.heap.size, 3, none⟩ = some (.string (ByteArray.mk #[])) := by rw [hc _ _ (by simp only [World.size_alloc]; omega)]; simp [go_sem]
  go_wp2
  refine bodyPost_ret (v := .tuple #[.agg #[.int .i64 0, .int .i64 0, .int .i64 0, .string (ByteArray.mk #[])], .bool false]) (by simp [results, Tryd.results33, go_sem, c0, c1, c2, c3]) rfl ⟨rfl, ?_⟩
  have hbb := fbelow_a _ (fbelow_a _ hb)
  exact ((((hbb.setCell (p := ⟨w.heap.size, 0, none⟩) (Nat.le_refl _) _).setCell (p := ⟨w.heap.size, 1, none⟩) (Nat.le_refl _) _).setCell (p := ⟨w.heap.size, 2, none⟩) (Nat.le_refl _) _).setCell (p := ⟨w.heap.size, 3, none⟩) (Nat.le_refl _) _)
set_option maxHeartbeats 4000000 in
theorem rof_3t {W I : Int} {d : ByteArray} (h0 : 0 ≤ W) (h1 : W < 4294967296) (he : wE W = true) (hr : wR W = true) (hx : wX W = false) (hI : W % 536870912 = I) (i0 : 0 ≤ I) (i1 : I ≤ 536870911) (hd : d.size ≤ maxLen) (h : okF I 3 d.size (ByteArray.mk #[]).size = true) (w : World) :
    Calls Tryd.prog 33 #[.int .u32 W, .string d] w fun e w' => e = .returned (.tuple #[.agg #[.int .i64 I, .int .i64 3, .int .i64 d.size, .string (ByteArray.mk #[])], .bool true]) ∧ Below w.heap.size w w' := by
  unfold maxLen at hd
  have H := Lib.hid h
  have e1 := wE_v h0 h1 he
  have e2 := wR_v hr
  have e3 := wX_v hx
  clear h he hr hx
  go_enter Tryd.func33, Tryd.ntmps33
  go_wp2_with fail
  refine (rright_v H.out _).mono ?_
  rintro e w1 ⟨rfl, hb⟩
  obtain ⟨hc, hf⟩ := fbcell hb
  have c0 : w1.cell? ⟨w.heap.size, 0, none⟩ = some (.int .i64 0) := by rw [hc _ _ (by simp only [World.size_alloc]; omega)]; simp [go_sem]
  have c1 : w1.cell? ⟨w.heap.size, 1, none⟩ = some (.int .i64 0) := by rw [hc _ _ (by simp only [World.size_alloc]; omega)]; simp [go_sem]
  have c2 : w1.cell? ⟨w.heap.size, 2, none⟩ = some (.int .i64 0) := by rw [hc _ _ (by simp only [World.size_alloc]; omega)]; simp [go_sem]
  have c3 : w1.cell? ⟨w.heap.size, 3, none⟩ = some (.string (ByteArray.mk #[])) := by rw [hc _ _ (by simp only [World.size_alloc]; omega)]; simp [go_sem]
  go_wp2
  refine bodyPost_ret (v := .tuple #[.agg #[.int .i64 I, .int .i64 3, .int .i64 d.size, .string (ByteArray.mk #[])], .bool true]) (by simp [results, Tryd.results33, go_sem, c0, c1, c2, c3]) rfl ⟨rfl, ?_⟩
  have hbb := fbelow_a _ (fbelow_a _ hb)
  exact ((((hbb.setCell (p := ⟨w.heap.size, 0, none⟩) (Nat.le_refl _) _).setCell (p := ⟨w.heap.size, 1, none⟩) (Nat.le_refl _) _).setCell (p := ⟨w.heap.size, 2, none⟩) (Nat.le_refl _) _).setCell (p := ⟨w.heap.size, 3, none⟩) (Nat.le_refl _) _)
set_option maxHeartbeats 4000000 in
theorem rof_3f {W I : Int} {d : ByteArray} (h0 : 0 ≤ W) (h1 : W < 4294967296) (he : wE W = true) (hr : wR W = true) (hx : wX W = false) (hI : W % 536870912 = I) (i0 : 0 ≤ I) (i1 : I ≤ 536870911) (hd : d.size ≤ maxLen) (h : okF I 3 d.size (ByteArray.mk #[]).size = false) (w : World) :
    Calls Tryd.prog 33 #[.int .u32 W, .string d] w fun e w' => e = .returned (.tuple #[.agg #[.int .i64 0, .int .i64 0, .int .i64 0, .string (ByteArray.mk #[])], .bool false]) ∧ Below w.heap.size w w' := by
  unfold maxLen at hd
  have H := Lib.hid h
  have e1 := wE_v h0 h1 he
  have e2 := wR_v hr
  have e3 := wX_v hx
  clear h he hr hx
  go_enter Tryd.func33, Tryd.ntmps33
  go_wp2_with fail
  refine (rright_v H.out _).mono ?_
  rintro e w1 ⟨rfl, hb⟩
  obtain ⟨hc, hf⟩ := fbcell hb
  have c0 : w1.cell? ⟨w.heap.size, 0, none⟩ = some (.int .i64 0) := by rw [hc _ _ (by simp only [World.size_alloc]; omega)]; simp [go_sem]
  have c1 : w1.cell? ⟨w.heap.size, 1, none⟩ = some (.int .i64 0) := by rw [hc _ _ (by simp only [World.size_alloc]; omega)]; simp [go_sem]
  have c2 : w1.cell? ⟨w.heap.size, 2, none⟩ = some (.int .i64 0) := by rw [hc _ _ (by simp only [World.size_alloc]; omega)]; simp [go_sem]
  have c3 : w1.cell? ⟨w.heap.size, 3, none⟩ = some (.string (ByteArray.mk #[])) := by rw [hc _ _ (by simp only [World.size_alloc]; omega)]; simp [go_sem]
  go_wp2
  refine bodyPost_ret (v := .tuple #[.agg #[.int .i64 0, .int .i64 0, .int .i64 0, .string (ByteArray.mk #[])], .bool false]) (by simp [results, Tryd.results33, go_sem, c0, c1, c2, c3]) rfl ⟨rfl, ?_⟩
  have hbb := fbelow_a _ (fbelow_a _ hb)
  exact ((((hbb.setCell (p := ⟨w.heap.size, 0, none⟩) (Nat.le_refl _) _).setCell (p := ⟨w.heap.size, 1, none⟩) (Nat.le_refl _) _).setCell (p := ⟨w.heap.size, 2, none⟩) (Nat.le_refl _) _).setCell (p := ⟨w.heap.size, 3, none⟩) (Nat.le_refl _) _)
set_option maxHeartbeats 4000000 in
theorem rof_4t {W I : Int} {d : ByteArray} (h0 : 0 ≤ W) (h1 : W < 4294967296) (he : wE W = false) (hr : wR W = false) (hx : wX W = true) (hI : W % 536870912 = I) (i0 : 0 ≤ I) (i1 : I ≤ 536870911) (hd : d.size ≤ maxLen) (h : okF I 4 d.size d.size = true) (w : World) :
    Calls Tryd.prog 33 #[.int .u32 W, .string d] w fun e w' => e = .returned (.tuple #[.agg #[.int .i64 I, .int .i64 4, .int .i64 d.size, .string d], .bool true]) ∧ Below w.heap.size w w' := by
  unfold maxLen at hd
  have H := Lib.hid h
  have e1 := wE_v h0 h1 he
  have e2 := wR_v hr
  have e3 := wX_v hx
  clear h he hr hx
  go_enter Tryd.func33, Tryd.ntmps33
  go_wp2_with fail
  refine (rright_v H.out _).mono ?_
  rintro e w1 ⟨rfl, hb⟩
  obtain ⟨hc, hf⟩ := fbcell hb
  have c0 : w1.cell? ⟨w.heap.size, 0, none⟩ = some (.int .i64 0) := by rw [hc _ _ (by simp only [World.size_alloc]; omega)]; simp [go_sem]
  have c1 : w1.cell? ⟨w.heap.size, 1, none⟩ = some (.int .i64 0) := by rw [hc _ _ (by simp only [World.size_alloc]; omega)]; simp [go_sem]
  have c2 : w1.cell? ⟨w.heap.size, 2, none⟩ = some (.int .i64 0) := by rw [hc _ _ (by simp only [World.size_alloc]; omega)]; simp [go_sem]
  have c3 : w1.cell? ⟨w.heap.size, 3, none⟩ = some (.string (ByteArray.mk #[])) := by rw [hc _ _ (by simp only [World.size_alloc]; omega)]; simp [go_sem]
  go_wp2
  refine bodyPost_ret (v := .tuple #[.agg #[.int .i64 I, .int .i64 4, .int .i64 d.size, .string d], .bool true]) (by simp [results, Tryd.results33, go_sem, c0, c1, c2, c3]) rfl ⟨rfl, ?_⟩
  have hbb := fbelow_a _ (fbelow_a _ hb)
  exact ((((hbb.setCell (p := ⟨w.heap.size, 0, none⟩) (Nat.le_refl _) _).setCell (p := ⟨w.heap.size, 1, none⟩) (Nat.le_refl _) _).setCell (p := ⟨w.heap.size, 2, none⟩) (Nat.le_refl _) _).setCell (p := ⟨w.heap.size, 3, none⟩) (Nat.le_refl _) _)
set_option maxHeartbeats 4000000 in
theorem rof_4f {W I : Int} {d : ByteArray} (h0 : 0 ≤ W) (h1 : W < 4294967296) (he : wE W = false) (hr : wR W = false) (hx : wX W = true) (hI : W % 536870912 = I) (i0 : 0 ≤ I) (i1 : I ≤ 536870911) (hd : d.size ≤ maxLen) (h : okF I 4 d.size d.size = false) (w : World) :
    Calls Tryd.prog 33 #[.int .u32 W, .string d] w fun e w' => e = .returned (.tuple #[.agg #[.int .i64 0, .int .i64 0, .int .i64 0, .string (ByteArray.mk #[])], .bool false]) ∧ Below w.heap.size w w' := by
  unfold maxLen at hd
  have H := Lib.hid h
  have e1 := wE_v h0 h1 he
  have e2 := wR_v hr
  have e3 := wX_v hx
  clear h he hr hx
  go_enter Tryd.func33, Tryd.ntmps33
  go_wp2_with fail
  refine (rright_v H.out _).mono ?_
  rintro e w1 ⟨rfl, hb⟩
  obtain ⟨hc, hf⟩ := fbcell hb
  have c0 : w1.cell? ⟨w.heap.size, 0, none⟩ = some (.int .i64 0) := by rw [hc _ _ (by simp only [World.size_alloc]; omega)]; simp [go_sem]
  have c1 : w1.cell? ⟨w.heap.size, 1, none⟩ = some (.int .i64 0) := by rw [hc _ _ (by simp only [World.size_alloc]; omega)]; simp [go_sem]
  have c2 : w1.cell? ⟨w.heap.size, 2, none⟩ = some (.int .i64 0) := by rw [hc _ _ (by simp only [World.size_alloc]; omega)]; simp [go_sem]
  have c3 : w1.cell? ⟨w.heap.size, 3, none⟩ = some (.string (ByteArray.mk #[])) := by rw [hc _ _ (by simp only [World.size_alloc]; omega)]; simp [go_sem]
  go_wp2
  refine bodyPost_ret (v := .tuple #[.agg #[.int .i64 0, .int .i64 0, .int .i64 0, .string (ByteArray.mk #[])], .bool false]) (by simp [results, Tryd.results33, go_sem, c0, c1, c2, c3]) rfl ⟨rfl, ?_⟩
  have hbb := fbelow_a _ (fbelow_a _ hb)
  exact ((((hbb.setCell (p := ⟨w.heap.size, 0, none⟩) (Nat.le_refl _) _).setCell (p := ⟨w.heap.size, 1, none⟩) (Nat.le_refl _) _).setCell (p := ⟨w.heap.size, 2, none⟩) (Nat.le_refl _) _).setCell (p := ⟨w.heap.size, 3, none⟩) (Nat.le_refl _) _)
set_option maxHeartbeats 4000000 in
theorem rof_5t {W I : Int} {d : ByteArray} (h0 : 0 ≤ W) (h1 : W < 4294967296) (he : wE W = true) (hr : wR W = false) (hx : wX W = true) (hI : W % 536870912 = I) (i0 : 0 ≤ I) (i1 : I ≤ 536870911) (hd : d.size ≤ maxLen) (h : okF I 5 d.size d.size = true) (w : World) :
    Calls Tryd.prog 33 #[.int .u32 W, .string d] w fun e w' => e = .returned (.tuple #[.agg #[.int .i64 I, .int .i64 5, .int .i64 d.size, .string d], .bool true]) ∧ Below w.heap.size w w' := by
  unfold maxLen at hd
  have H := Lib.hid h
  have e1 := wE_v h0 h1 he
  have e2 := wR_v hr
  have e3 := wX_v hx
  clear h he hr hx
  go_enter Tryd.func33, Tryd.ntmps33
  go_wp2_with fail
  refine (rright_v H.out _).mono ?_
  rintro e w1 ⟨rfl, hb⟩
  obtain ⟨hc, hf⟩ := fbcell hb
  have c0 : w1.cell? ⟨w.heap.size, 0, none⟩ = some (.int .i64 0) := by rw [hc _ _ (by simp only [World.size_alloc]; omega)]; simp [go_sem]
  have c1 : w1.cell? ⟨w.heap.size, 1, none⟩ = some (.int .i64 0) := by rw [hc _ _ (by simp only [World.size_alloc]; omega)]; simp [go_sem]
  have c2 : w1.cell? ⟨w.heap.size, 2, none⟩ = some (.int .i64 0) := by rw [hc _ _ (by simp only [World.size_alloc]; omega)]; simp [go_sem]
  have c3 : w1.cell? ⟨w.heap.size, 3, none⟩ = some (.string (ByteArray.mk #[])) := by rw [hc _ _ (by simp only [World.size_alloc]; omega)]; simp [go_sem]
  go_wp2
  refine bodyPost_ret (v := .tuple #[.agg #[.int .i64 I, .int .i64 5, .int .i64 d.size, .string d], .bool true]) (by simp [results, Tryd.results33, go_sem, c0, c1, c2, c3]) rfl ⟨rfl, ?_⟩
  have hbb := fbelow_a _ (fbelow_a _ hb)
  exact ((((hbb.setCell (p := ⟨w.heap.size, 0, none⟩) (Nat.le_refl _) _).setCell (p := ⟨w.heap.size, 1, none⟩) (Nat.le_refl _) _).setCell (p := ⟨w.heap.size, 2, none⟩) (Nat.le_refl _) _).setCell (p := ⟨w.heap.size, 3, none⟩) (Nat.le_refl _) _)
set_option maxHeartbeats 4000000 in
theorem rof_5f {W I : Int} {d : ByteArray} (h0 : 0 ≤ W) (h1 : W < 4294967296) (he : wE W = true) (hr : wR W = false) (hx : wX W = true) (hI : W % 536870912 = I) (i0 : 0 ≤ I) (i1 : I ≤ 536870911) (hd : d.size ≤ maxLen) (h : okF I 5 d.size d.size = false) (w : World) :
    Calls Tryd.prog 33 #[.int .u32 W, .string d] w fun e w' => e = .returned (.tuple #[.agg #[.int .i64 0, .int .i64 0, .int .i64 0, .string (ByteArray.mk #[])], .bool false]) ∧ Below w.heap.size w w' := by
  unfold maxLen at hd
  have H := Lib.hid h
  have e1 := wE_v h0 h1 he
  have e2 := wR_v hr
  have e3 := wX_v hx
  clear h he hr hx
  go_enter Tryd.func33, Tryd.ntmps33
  go_wp2_with fail
  refine (rright_v H.out _).mono ?_
  rintro e w1 ⟨rfl, hb⟩
  obtain ⟨hc, hf⟩ := fbcell hb
  have c0 : w1.cell? ⟨w.heap.size, 0, none⟩ = some (.int .i64 0) := by rw [hc _ _ (by simp only [World.size_alloc]; omega)]; simp [go_sem]
  have c1 : w1.cell? ⟨w.heap.size, 1, none⟩ = some (.int .i64 0) := by rw [hc _ _ (by simp only [World.size_alloc]; omega)]; simp [go_sem]
  have c2 : w1.cell? ⟨w.heap.size, 2, none⟩ = some (.int .i64 0) := by rw [hc _ _ (by simp only [World.size_alloc]; omega)]; simp [go_sem]
  have c3 : w1.cell? ⟨w.heap.size, 3, none⟩ = some (.string (ByteArray.mk #[])) := by rw [hc _ _ (by simp only [World.size_alloc]; omega)]; simp [go_sem]
  go_wp2
  refine bodyPost_ret (v := .tuple #[.agg #[.int .i64 0, .int .i64 0, .int .i64 0, .string (ByteArray.mk #[])], .bool false]) (by simp [results, Tryd.results33, go_sem, c0, c1, c2, c3]) rfl ⟨rfl, ?_⟩
  have hbb := fbelow_a _ (fbelow_a _ hb)
  exact ((((hbb.setCell (p := ⟨w.heap.size, 0, none⟩) (Nat.le_refl _) _).setCell (p := ⟨w.heap.size, 1, none⟩) (Nat.le_refl _) _).setCell (p := ⟨w.heap.size, 2, none⟩) (Nat.le_refl _) _).setCell (p := ⟨w.heap.size, 3, none⟩) (Nat.le_refl _) _)
set_option maxHeartbeats 4000000 in
theorem rof_6t {W I : Int} {d : ByteArray} (h0 : 0 ≤ W) (h1 : W < 4294967296) (he : wE W = false) (hr : wR W = true) (hx : wX W = true) (hI : W % 536870912 = I) (i0 : 0 ≤ I) (i1 : I ≤ 536870911) (hd : d.size ≤ maxLen) (h : okF I 6 d.size (ByteArray.mk #[]).size = true) (w : World) :
    Calls Tryd.prog 33 #[.int .u32 W, .string d] w fun e w' => e = .returned (.tuple #[.agg #[.int .i64 I, .int .i64 6, .int .i64 d.size, .string (ByteArray.mk #[])], .bool true]) ∧ Below w.heap.size w w' := by
  unfold maxLen at hd
  have H := Lib.hid h
  have e1 := wE_v h0 h1 he
  have e2 := wR_v hr
  have e3 := wX_v hx
  clear h he hr hx
  go_enter Tryd.func33, Tryd.ntmps33
  go_wp2_with fail
  refine (rright_v H.out _).mono ?_
  rintro e w1 ⟨rfl, hb⟩
  obtain ⟨hc, hf⟩ := fbcell hb
  have c0 : w1.cell? ⟨w.heap.size, 0, none⟩ = some (.int .i64 0) := by rw [hc _ _ (by simp only [World.size_alloc]; omega)]; simp [go_sem]
  have c1 : w1.cell? ⟨w.heap.size, 1, none⟩ = some (.int .i64 0) := by rw [hc _ _ (by simp only [World.size_alloc]; omega)]; simp [go_sem]
  have c2 : w1.cell? ⟨w.heap.size, 2, none⟩ = some (.int .i64 0) := by rw [hc _ _ (by simp only [World.size_alloc]; omega)]; simp [go_sem]
  have c3 : w1.cell? ⟨w.heap.size, 3, none⟩ = some (.string (ByteArray.mk #[])) := by rw [hc _ _ (by simp only [World.size_alloc]; omega)]; simp [go_sem]
  go_wp2
  refine bodyPost_ret (v := .tuple #[.agg #[.int .i64 I, .int .i64 6, .int .i64 d.size, .string (ByteArray.mk #[])], .bool true]) (by simp [results, Tryd.results33, go_sem, c0, c1, c2, c3]) rfl ⟨rfl, ?_⟩
  have hbb := fbelow_a _ (fbelow_a _ hb)
  exact ((((hbb.setCell (p := ⟨w.heap.size, 0, none⟩) (Nat.le_refl _) _).setCell (p := ⟨w.heap.size, 1, none⟩) (Nat.le_refl _) _).setCell (p := ⟨w.heap.size, 2, none⟩) (Nat.le_refl _) _).setCell (p := ⟨w.heap.size, 3, none⟩) (Nat.le_refl _) _)
set_option maxHeartbeats 4000000 in
theorem rof_6f {W I : Int} {d : ByteArray} (h0 : 0 ≤ W) (h1 : W < 4294967296) (he : wE W = false) (hr : wR W = true) (hx : wX W = true) (hI : W % 536870912 = I) (i0 : 0 ≤ I) (i1 : I ≤ 536870911) (hd : d.size ≤ maxLen) (h : okF I 6 d.size (ByteArray.mk #[]).size = false) (w : World) :
    Calls Tryd.prog 33 #[.int .u32 W, .string d] w fun e w' => e = .returned (.tuple #[.agg #[.int .i64 0, .int .i64 0, .int .i64 0, .string (ByteArray.mk #[])], .bool false]) ∧ Below w.heap.size w w' := by
  unfold maxLen at hd
  have H := Lib.hid h
  have e1 := wE_v h0 h1 he
  have e2 := wR_v hr
  have e3 := wX_v hx
  clear h he hr hx
  go_enter Tryd.func33, Tryd.ntmps33
  go_wp2_with fail
  refine (rright_v H.out _).mono ?_
  rintro e w1 ⟨rfl, hb⟩
  obtain ⟨hc, hf⟩ := fbcell hb
  have c0 : w1.cell? ⟨w.heap.size, 0, none⟩ = some (.int .i64 0) := by rw [hc _ _ (by simp only [World.size_alloc]; omega)]; simp [go_sem]
  have c1 : w1.cell? ⟨w.heap.size, 1, none⟩ = some (.int .i64 0) := by rw [hc _ _ (by simp only [World.size_alloc]; omega)]; simp [go_sem]
  have c2 : w1.cell? ⟨w.heap.size, 2, none⟩ = some (.int .i64 0) := by rw [hc _ _ (by simp only [World.size_alloc]; omega)]; simp [go_sem]
  have c3 : w1.cell? ⟨w.heap.size, 3, none⟩ = some (.string (ByteArray.mk #[])) := by rw [hc _ _ (by simp only [World.size_alloc]; omega)]; simp [go_sem]
  go_wp2
  refine bodyPost_ret (v := .tuple #[.agg #[.int .i64 0, .int .i64 0, .int .i64 0, .string (ByteArray.mk #[])], .bool false]) (by simp [results, Tryd.results33, go_sem, c0, c1, c2, c3]) rfl ⟨rfl, ?_⟩
  have hbb := fbelow_a _ (fbelow_a _ hb)
  exact ((((hbb.setCell (p := ⟨w.heap.size, 0, none⟩) (Nat.le_refl _) _).setCell (p := ⟨w.heap.size, 1, none⟩) (Nat.le_refl _) _).setCell (p := ⟨w.heap.size, 2, none⟩) (Nat.le_refl _) _).setCell (p := ⟨w.heap.size, 3, none⟩) (Nat.le_refl _) _)
set_option maxHeartbeats 4000000 in
theorem rof_7t {W I : Int} {d : ByteArray} (h0 : 0 ≤ W) (h1 : W < 4294967296) (he : wE W = true) (hr : wR W = true) (hx : wX W = true) (hI : W % 536870912 = I) (i0 : 0 ≤ I) (i1 : I ≤ 536870911) (hd : d.size ≤ maxLen) (h : okF I 7 d.size (ByteArray.mk #[]).size = true) (w : World) :
    Calls Tryd.prog 33 #[.int .u32 W, .string d] w fun e w' => e = .returned (.tuple #[.agg #[.int .i64 I, .int .i64 7, .int .i64 d.size, .string (ByteArray.mk #[])], .bool true]) ∧ Below w.heap.size w w' := by
  unfold maxLen at hd
  have H := Lib.hid h
  have e1 := wE_v h0 h1 he
  have e2 := wR_v hr
  have e3 := wX_v hx
  clear h he hr hx
  go_enter Tryd.func33, Tryd.ntmps33
  go_wp2_with fail
  refine (rright_v H.out _).mono ?_
  rintro e w1 ⟨rfl, hb⟩
  obtain ⟨hc, hf⟩ := fbcell hb
  have c0 : w1.cell? ⟨w.heap.size, 0, none⟩ = some (.int .i64 0) := by rw [hc _ _ (by simp only [World.size_alloc]; omega)]; simp [go_sem]
  have c1 : w1.cell? ⟨w.heap.size, 1, none⟩ = some (.int .i64 0) := by rw [hc _ _ (by simp only [World.size_alloc]; omega)]; simp [go_sem]
  have c2 : w1.cell? ⟨w.heap.size, 2, none⟩ = some (.int .i64 0) := by rw [hc _ _ (by simp only [World.size_alloc]; omega)]; simp [go_sem]
  have c3 : w1.cell? ⟨w.heap.size, 3, none⟩ = some (.string (ByteArray.mk #[])) := by rw [hc _ _ (by simp only [World.size_alloc]; omega)]; simp [go_sem]
  go_wp2
  refine bodyPost_ret (v := .tuple #[.agg #[.int .i64 I, .int .i64 7, .int .i64 d.size, .string (ByteArray.mk #[])], .bool true]) (by simp [results, Tryd.results33, go_sem, c0, c1, c2, c3]) rfl ⟨rfl, ?_⟩
  have hbb := fbelow_a _ (fbelow_a _ hb)
  exact ((((hbb.setCell (p := ⟨w.heap.size, 0, none⟩) (Nat.le_refl _) _).setCell (p := ⟨w.heap.size, 1, none⟩) (Nat.le_refl _) _).setCell (p := ⟨w.heap.size, 2, none⟩) (Nat.le_refl _) _).setCell (p := ⟨w.heap.size, 3, none⟩) (Nat.le_refl _) _)
set_option maxHeartbeats 4000000 in
theorem rof_7f {W I : Int} {d : ByteArray} (h0 : 0 ≤ W) (h1 : W < 4294967296) (he : wE W = true) (hr : wR W = true) (hx : wX W = true) (hI : W % 536870912 = I) (i0 : 0 ≤ I) (i1 : I ≤ 536870911) (hd : d.size ≤ maxLen) (h : okF I 7 d.size (ByteArray.mk #[]).size = false) (w : World) :
    Calls Tryd.prog 33 #[.int .u32 W, .string d] w fun e w' => e = .returned (.tuple #[.agg #[.int .i64 0, .int .i64 0, .int .i64 0, .string (ByteArray.mk #[])], .bool false]) ∧ Below w.heap.size w w' := by
  unfold maxLen at hd
  have H := Lib.hid h
  have e1 := wE_v h0 h1 he
  have e2 := wR_v hr
  have e3 := wX_v hx
  clear h he hr hx
  go_enter Tryd.func33, Tryd.ntmps33
  go_wp2_with fail
  refine (rright_v H.out _).mono ?_
  rintro e w1 ⟨rfl, hb⟩
  obtain ⟨hc, hf⟩ := fbcell hb
  have c0 : w1.cell? ⟨w.heap.size, 0, none⟩ = some (.int .i64 0) := by rw [hc _ _ (by simp only [World.size_alloc]; omega)]; simp [go_sem]
  have c1 : w1.cell? ⟨w.heap.size, 1, none⟩ = some (.int .i64 0) := by rw [hc _ _ (by simp only [World.size_alloc]; omega)]; simp [go_sem]
  have c2 : w1.cell? ⟨w.heap.size, 2, none⟩ = some (.int .i64 0) := by rw [hc _ _ (by simp only [World.size_alloc]; omega)]; simp [go_sem]
  have c3 : w1.cell? ⟨w.heap.size, 3, none⟩ = some (.string (ByteArray.mk #[])) := by rw [hc _ _ (by simp only [World.size_alloc]; omega)]; simp [go_sem]
  go_wp2
  refine bodyPost_ret (v := .tuple #[.agg #[.int .i64 0, .int .i64 0, .int .i64 0, .string (ByteArray.mk #[])], .bool false]) (by simp [results, Tryd.results33, go_sem, c0, c1, c2, c3]) rfl ⟨rfl, ?_⟩
  have hbb := fbelow_a _ (fbelow_a _ hb)
  exact ((((hbb.setCell (p := ⟨w.heap.size, 0, none⟩) (Nat.le_refl _) _).setCell (p := ⟨w.heap.size, 1, none⟩) (Nat.le_refl _) _).setCell (p := ⟨w.heap.size, 2, none⟩) (Nat.le_refl _) _).setCell (p := ⟨w.heap.size, 3, none⟩) (Nat.le_refl _) _)

/-! ### both in one word each -/
def nOf (W : Int) : Int := b01 (wE W) + 2 * b01 (wR W) + 4 * b01 (wX W)
def dOf (W : Int) (d : ByteArray) : ByteArray := if wR W then ByteArray.mk #[] else d
def okOf (W : Int) (d : ByteArray) : Bool := okF (W % 536870912) (nOf W) d.size (dOf W d).size
def ofV (W : Int) (d : ByteArray) : Value := .agg #[.int .i64 (W % 536870912), .int .i64 (nOf W), .int .i64 d.size, .string (dOf W d)]

theorem of_t {W : Int} {d : ByteArray} (h0 : 0 ≤ W) (h1 : W < 4294967296) (hd : d.size ≤ maxLen) (h : okOf W d = true) (w : World) (hT : Tabs w) :
    Calls Tryd.prog 46 #[.int .u32 W, .string d] w fun e w' => e = .returned (.tuple #[.agg #[.int .i64 (W % 536870912), .int .i64 (nOf W), .int .i64 d.size, .string (dOf W d)], .int .i64 0]) ∧ Below w.heap.size w w' := by
  unfold okOf nOf dOf at h
  unfold nOf dOf
  cases he : wE W <;> cases hr : wR W <;> cases hx : wX W <;> simp only [he, hr, hx, b01, if_true, if_false, Bool.false_eq_true] at h ⊢
  · exact of_0t h0 h1 he hr hx (and_id h0 h1) (by omega) (by omega) hd h w hT
  · exact of_4t h0 h1 he hr hx (and_id h0 h1) (by omega) (by omega) hd h w hT
  · exact of_2t h0 h1 he hr hx (and_id h0 h1) (by omega) (by omega) hd h w hT
  · exact of_6t h0 h1 he hr hx (and_id h0 h1) (by omega) (by omega) hd h w hT
  · exact of_1t h0 h1 he hr hx (and_id h0 h1) (by omega) (by omega) hd h w hT
  · exact of_5t h0 h1 he hr hx (and_id h0 h1) (by omega) (by omega) hd h w hT
  · exact of_3t h0 h1 he hr hx (and_id h0 h1) (by omega) (by omega) hd h w hT
  · exact of_7t h0 h1 he hr hx (and_id h0 h1) (by omega) (by omega) hd h w hT
theorem of_f {W : Int} {d : ByteArray} (h0 : 0 ≤ W) (h1 : W < 4294967296) (hd : d.size ≤ maxLen) (h : okOf W d = false) (w : World) (hT : Tabs w) :
    Calls Tryd.prog 46 #[.int .u32 W, .string d] w fun e w' => e = .returned (.tuple #[.agg #[.int .i64 0, .int .i64 0, .int .i64 0, .string (ByteArray.mk #[])], .int .i64 4]) ∧ Below w.heap.size w w' := by
  unfold okOf nOf dOf at h
  cases he : wE W <;> cases hr : wR W <;> cases hx : wX W <;> simp only [he, hr, hx, b01, if_true, if_false, Bool.false_eq_true] at h ⊢
  · exact of_0f h0 h1 he hr hx (and_id h0 h1) (by omega) (by omega) hd h w hT
  · exact of_4f h0 h1 he hr hx (and_id h0 h1) (by omega) (by omega) hd h w hT
  · exact of_2f h0 h1 he hr hx (and_id h0 h1) (by omega) (by omega) hd h w hT
  · exact of_6f h0 h1 he hr hx (and_id h0 h1) (by omega) (by omega) hd h w hT
  · exact of_1f h0 h1 he hr hx (and_id h0 h1) (by omega) (by omega) hd h w hT
  · exact of_5f h0 h1 he hr hx (and_id h0 h1) (by omega) (by omega) hd h w hT
  · exact of_3f h0 h1 he hr hx (and_id h0 h1) (by omega) (by omega) hd h w hT
  · exact of_7f h0 h1 he hr hx (and_id h0 h1) (by omega) (by omega) hd h w hT
theorem rof_t {W : Int} {d : ByteArray} (h0 : 0 ≤ W) (h1 : W < 4294967296) (hd : d.size ≤ maxLen) (h : okOf W d = true) (w : World) :
    Calls Tryd.prog 33 #[.int .u32 W, .string d] w fun e w' => e = .returned (.tuple #[.agg #[.int .i64 (W % 536870912), .int .i64 (nOf W), .int .i64 d.size, .string (dOf W d)], .bool true]) ∧ Below w.heap.size w w' := by
  unfold okOf nOf dOf at h
  unfold nOf dOf
  cases he : wE W <;> cases hr : wR W <;> cases hx : wX W <;> simp only [he, hr, hx, b01, if_true, if_false, Bool.false_eq_true] at h ⊢
  · exact rof_0t h0 h1 he hr hx rfl (by omega) (by omega) hd h w
  · exact rof_4t h0 h1 he hr hx rfl (by omega) (by omega) hd h w
  · exact rof_2t h0 h1 he hr hx rfl (by omega) (by omega) hd h w
  · exact rof_6t h0 h1 he hr hx rfl (by omega) (by omega) hd h w
  · exact rof_1t h0 h1 he hr hx rfl (by omega) (by omega) hd h w
  · exact rof_5t h0 h1 he hr hx rfl (by omega) (by omega) hd h w
  · exact rof_3t h0 h1 he hr hx rfl (by omega) (by omega) hd h w
  · exact rof_7t h0 h1 he hr hx rfl (by omega) (by omega) hd h w
theorem rof_f {W : Int} {d : ByteArray} (h0 : 0 ≤ W) (h1 : W < 4294967296) (hd : d.size ≤ maxLen) (h : okOf W d = false) (w : World) :
    Calls Tryd.prog 33 #[.int .u32 W, .string d] w fun e w' => e = .returned (.tuple #[.agg #[.int .i64 0, .int .i64 0, .int .i64 0, .string (ByteArray.mk #[])], .bool false]) ∧ Below w.heap.size w w' := by
  unfold okOf nOf dOf at h
  cases he : wE W <;> cases hr : wR W <;> cases hx : wX W <;> simp only [he, hr, hx, b01, if_true, if_false, Bool.false_eq_true] at h ⊢
  · exact rof_0f h0 h1 he hr hx rfl (by omega) (by omega) hd h w
  · exact rof_4f h0 h1 he hr hx rfl (by omega) (by omega) hd h w
  · exact rof_2f h0 h1 he hr hx rfl (by omega) (by omega) hd h w
  · exact rof_6f h0 h1 he hr hx rfl (by omega) (by omega) hd h w
  · exact rof_1f h0 h1 he hr hx rfl (by omega) (by omega) hd h w
  · exact rof_5f h0 h1 he hr hx rfl (by omega) (by omega) hd h w
  · exact rof_3f h0 h1 he hr hx rfl (by omega) (by omega) hd h w
  · exact rof_7f h0 h1 he hr hx rfl (by omega) (by omega) hd h w

end Go.Proofs.YtimlaopmhcipmaaDoor
