/- Dump: for the document's Read: its three blocks in memory; what is asked of the text, piece by piece. -/
import Derived.Test.YtpjlomgiljpadaaDoorDmpS
import Derived.Laws.Rows
namespace Go.Proofs.YtpjlomgiljpadaaDoor
open Go.RowKit
set_option linter.unusedVariables false

def rrPost (s : ByteArray) (w : World) (e : Ending) (w' : World) : Prop :=
  (match readO (byL s) with | some f => e = .returned (.tuple #[.agg #[.int .i64 f.i, .int .i64 f.n, .int .i64 f.l, .string f.d], .bool true]) | none => e = .returned (.tuple #[.agg #[.int .i64 0, .int .i64 0, .int .i64 0, .string (ByteArray.mk #[])], .bool false])) ∧ Below w.heap.size w w'
theorem rrPost_no {s : ByteArray} {w w' : World} (h : readO (byL s) = none) (hb : Below w.heap.size w w') : rrPost s w (.returned (.tuple #[.agg #[.int .i64 0, .int .i64 0, .int .i64 0, .string (ByteArray.mk #[])], .bool false])) w' := by
  unfold rrPost; rw [h]; exact ⟨rfl, hb⟩
theorem rrPost_yes {s : ByteArray} {i n l : Int} {d : ByteArray} {w w' : World} (h : readO (byL s) = some ⟨i, n, l, d⟩) (hb : Below w.heap.size w w') : rrPost s w (.returned (.tuple #[.agg #[.int .i64 i, .int .i64 n, .int .i64 l, .string d], .bool true])) w' := by
  unfold rrPost; rw [h]; exact ⟨rfl, hb⟩

/-! ### three blocks -/
def frCs (i n l : Int) (d : ByteArray) : Obj := .cells #[.int .i64 i, .int .i64 n, .int .i64 l, .string d] 23
structure RB (w wv : World) (i n l : Int) (d : ByteArray) : Prop where
  below : Below w.heap.size w wv
  r : wv.heap[w.heap.size]? = some (frCs 0 0 0 (ByteArray.mk #[]))
  z : wv.heap[w.heap.size + 1]? = some (frCs 0 0 0 (ByteArray.mk #[]))
  f : wv.heap[w.heap.size + 2]? = some (frCs i n l d)
section
variable {w wv wv' : World} {i n l : Int} {d : ByteArray}
theorem RB.start : RB w (((w.alloc (frCs 0 0 0 (ByteArray.mk #[]))).alloc (frCs 0 0 0 (ByteArray.mk #[]))).alloc (frCs i n l d)) i n l d := by
  refine ⟨(((Below.refl _ _).alloc (Nat.le_refl _) _).alloc (by simp) _).alloc (by simp; omega) _, ?_, ?_, ?_⟩
  · rw [Below.heap_alloc _ _ _ (by simp; omega), Below.heap_alloc _ _ _ (by simp)]; exact heap_alloc_new _ _
  · rw [Below.heap_alloc _ _ _ (by simp)]
    have := heap_alloc_new (w.alloc (frCs 0 0 0 (ByteArray.mk #[]))) (frCs 0 0 0 (ByteArray.mk #[]))
    simpa using this
  · have := heap_alloc_new ((w.alloc (frCs 0 0 0 (ByteArray.mk #[]))).alloc (frCs 0 0 0 (ByteArray.mk #[]))) (frCs i n l d)
    simpa using this
/-- the two blocks that are there first -/
structure RB2 (w wv : World) : Prop where
  below : Below w.heap.size w wv
theorem RB2.done (h : RB2 w wv) (a b c e : Value) : Below w.heap.size w ((((wv.setCell ⟨w.heap.size, 0, none⟩ a).setCell ⟨w.heap.size, 1, none⟩ b).setCell ⟨w.heap.size, 2, none⟩ c).setCell ⟨w.heap.size, 3, none⟩ e) :=
  ((((h.below.setCell (p := ⟨w.heap.size, 0, none⟩) (Nat.le_refl _) _).setCell (p := ⟨w.heap.size, 1, none⟩) (Nat.le_refl _) _).setCell (p := ⟨w.heap.size, 2, none⟩) (Nat.le_refl _) _).setCell (p := ⟨w.heap.size, 3, none⟩) (Nat.le_refl _) _)
theorem RB.start0 : RB2 w ((w.alloc (frCs 0 0 0 (ByteArray.mk #[]))).alloc (frCs 0 0 0 (ByteArray.mk #[]))) := ⟨((Below.refl _ _).alloc (Nat.le_refl _) _).alloc (by simp) _⟩
theorem RB.startC {o : Obj} : RB2 w (((w.alloc (frCs 0 0 0 (ByteArray.mk #[]))).alloc (frCs 0 0 0 (ByteArray.mk #[]))).alloc o) := ⟨(((Below.refl _ _).alloc (Nat.le_refl _) _).alloc (by simp) _).alloc (by simp; omega) _⟩
theorem RB.size (h : RB w wv i n l d) : w.heap.size + 2 < wv.heap.size := lt_of_heap h.f
theorem RB.later (h : RB w wv i n l d) (hb : Below wv.heap.size wv wv') : RB w wv' i n l d :=
  ⟨h.below.trans (hb.mono h.below.size), by rw [hb.block _ (lt_of_heap h.r)]; exact h.r, by rw [hb.block _ (lt_of_heap h.z)]; exact h.z, by rw [hb.block _ (lt_of_heap h.f)]; exact h.f⟩
theorem RB.set (h : RB w wv i n l d) (j : Nat) (v : Value) {i' n' l' : Int} {d' : ByteArray} (hj : (#[Value.int .i64 i, .int .i64 n, .int .i64 l, .string d] : Array Value).setIfInBounds j v = #[.int .i64 i', .int .i64 n', .int .i64 l', .string d']) : RB w (wv.setCell ⟨w.heap.size + 2, j, none⟩ v) i' n' l' d' := by
  refine ⟨h.below.setCell (p := ⟨w.heap.size + 2, j, none⟩) (by simp) _, ?_, ?_, ?_⟩
  · rw [Below.heap_setCell _ _ _ _ (by simp)]; exact h.r
  · rw [Below.heap_setCell _ _ _ _ (by simp)]; exact h.z
  · have := heap_setCell_same wv (w.heap.size + 2) j _ _ v h.f
    rw [this, hj]; rfl
theorem cells4 {k : Nat} (h : wv.heap[k]? = some (frCs i n l d)) :
    wv.cell? ⟨k, 0, none⟩ = some (.int .i64 i) ∧ wv.cell? ⟨k, 1, none⟩ = some (.int .i64 n) ∧ wv.cell? ⟨k, 2, none⟩ = some (.int .i64 l) ∧ wv.cell? ⟨k, 3, none⟩ = some (.string d) ∧
    wv.frozen? ⟨k, 0, none⟩ = false ∧ wv.frozen? ⟨k, 1, none⟩ = false ∧ wv.frozen? ⟨k, 2, none⟩ = false ∧ wv.frozen? ⟨k, 3, none⟩ = false := by
  unfold frCs at h
  refine ⟨?_, ?_, ?_, ?_, ?_, ?_, ?_, ?_⟩
  · rw [cell_of_row _ _ _ _ _ _ h]; rfl
  · rw [cell_of_row _ _ _ _ _ _ h]; rfl
  · rw [cell_of_row _ _ _ _ _ _ h]; rfl
  · rw [cell_of_row _ _ _ _ _ _ h]; rfl
  all_goals simp [World.frozen?, h]
theorem RB.done (h : RB w wv i n l d) (a b c e : Value) : Below w.heap.size w ((((wv.setCell ⟨w.heap.size, 0, none⟩ a).setCell ⟨w.heap.size, 1, none⟩ b).setCell ⟨w.heap.size, 2, none⟩ c).setCell ⟨w.heap.size, 3, none⟩ e) :=
  ((((h.below.setCell (p := ⟨w.heap.size, 0, none⟩) (Nat.le_refl _) _).setCell (p := ⟨w.heap.size, 1, none⟩) (Nat.le_refl _) _).setCell (p := ⟨w.heap.size, 2, none⟩) (Nat.le_refl _) _).setCell (p := ⟨w.heap.size, 3, none⟩) (Nat.le_refl _) _)
end

/-! ### the text, piece by piece -/
theorem cut_parts {s : ByteArray} {a b : List Int} (h : cutL 35 (byL s) = some (a, b)) :
    a.length < s.size ∧ bt s a.length = 35 ∧ (∀ j, j < a.length → bt s j ≠ 35) ∧ byL (s.extract 0 a.length) = a ∧ byL (s.extract (a.length + 1) s.size) = b ∧ s.size = a.length + 1 + b.length := by
  obtain ⟨e, hn⟩ := cutL_some h
  have hl : s.size = a.length + 1 + b.length := by rw [← byL_len, e]; simp; omega
  refine ⟨by omega, ?_, ?_, ?_, ?_, hl⟩
  · rw [← byL_getD, e]; simp
  · intro j hj hc
    apply hn
    rw [← byL_getD, e, List.getD_eq_getElem?_getD, List.getElem?_append_left hj, List.getElem?_eq_getElem hj] at hc
    simp only [Option.getD_some] at hc
    rw [← hc]; exact List.getElem_mem hj
  · rw [byL_extract, e]; simp
  · rw [byL_extract, List.take_of_length_le (by rw [byL_len]; exact Nat.le_refl _), e]
    have : a ++ 35 :: b = (a ++ [35]) ++ b := by simp
    rw [this, List.drop_append_of_le_length (by simp), List.drop_of_length_le (by simp)]; rfl
theorem readO_of {s : ByteArray} {a b : List Int} {p : Int × Int} {g : Fr} (h : cutL 35 (byL s) = some (a, b)) (hp : headO a = some p) (hg : bodyO b = some g) {n : Int} (hn : g.n + p.2 = n) :
    readO (byL s) = if okF p.1 n g.l g.d.size then some ⟨p.1, n, g.l, g.d⟩ else none := by
  unfold readO; rw [h]; simp only; rw [hp, hg]; unfold bothO; simp only; rw [hn]
theorem readO_no {s : ByteArray} {a b : List Int} (h : cutL 35 (byL s) = some (a, b)) (hn : headO a = none ∨ bodyO b = none) : readO (byL s) = none := by
  unfold readO; rw [h]; simp only
  rcases hn with hn | hn
  · rw [hn]; rfl
  · rw [hn]; cases headO a <;> rfl
theorem numV_of {s : ByteArray} {a : List Int} (h : byL s = a) : numV s = if digs a then numL a else -1 := by unfold numV; rw [h]
theorem headO_3 {a : List Int} (hl : a.length = 3) (hd : digs a = true) : headO a = some (numL a, 0) := by unfold headO; rw [if_pos ⟨.inl hl, hd⟩, if_pos hl]
theorem headO_8 {a : List Int} (hl : a.length = 8) (hd : digs a = true) : headO a = if numL a / 536870912 % 2 = 1 then some (numL a - 536870912, 4) else some (numL a, 1) := by unfold headO; rw [if_pos ⟨.inr hl, hd⟩, if_neg (by omega)]
theorem headO_len {a : List Int} (h3 : a.length ≠ 3) (h8 : a.length ≠ 8) : headO a = none := by unfold headO; rw [if_neg (fun hc => by rcases hc.1 with h | h; exact h3 h; exact h8 h)]
theorem headO_bad {a : List Int} (hd : digs a = false) : headO a = none := by unfold headO; rw [if_neg (fun hc => by rw [hd] at hc; cases hc.2)]
theorem bodyO_raw {T : ByteArray} (h : T.size = 0 ∨ (bt T 0 ≠ 35 ∧ bt T 0 ≠ 82 ∧ bt T 0 ≠ 114)) : bodyO (byL T) = rawO (byL T) := by
  rcases h with h | ⟨h1, h2, h3⟩
  · have : byL T = [] := List.length_eq_zero_iff.1 (by rw [byL_len, h])
    rw [this]; rfl
  · by_cases hs : 0 < T.size
    · have := byL_drop hs
      rw [List.drop_zero] at this
      rw [this]
      simp only [bodyO]
      rw [if_neg h1, if_neg (by omega)]
    · have : byL T = [] := List.length_eq_zero_iff.1 (by rw [byL_len]; omega)
      rw [this]; rfl
theorem byL_one {T : ByteArray} (hs : 0 < T.size) : byL T = bt T 0 :: byL (T.extract 1 T.size) := by
  have := byL_drop hs
  rw [List.drop_zero] at this
  rw [byL_extract, List.take_of_length_le (by rw [byL_len]; exact Nat.le_refl _)]
  exact this
theorem byL_two {T : ByteArray} (hs : 1 < T.size) : byL T = bt T 0 :: bt T 1 :: byL (T.extract 2 T.size) := by
  have h0 := byL_drop (s := T) (k := 0) (by omega)
  have h1 := byL_drop (s := T) (k := 1) hs
  rw [List.drop_zero, h1] at h0
  rw [byL_extract, List.take_of_length_le (by rw [byL_len]; exact Nat.le_refl _)]
  exact h0
theorem rawO_some {T : ByteArray} {d : List Int} (h : datL (byL T) = some d) : rawO (byL T) = some ⟨0, 0, (strOfNums d).size, strOfNums d⟩ := by unfold rawO; rw [h, strOfNums_size]; rfl
theorem rawO_none {T : ByteArray} (h : datL (byL T) = none) : rawO (byL T) = none := by unfold rawO; rw [h]; rfl
/-- R and nothing, or one byte, or more -/
theorem bodyO_ask1 {T : ByteArray} (hs : T.size = 1) (h : bt T 0 = 82 ∨ bt T 0 = 114) : bodyO (byL T) = some ⟨0, 2, 0, ByteArray.mk #[]⟩ := by
  have e : byL (T.extract 1 T.size) = [] := List.length_eq_zero_iff.1 (by rw [byL_len, sub_size _ _ _ (Nat.le_refl _)]; omega)
  rw [byL_one (by omega), bodyO_ask h, e]; rfl
theorem byL_single {Z : ByteArray} (hs : Z.size = 1) : byL Z = [bt Z 0] := by
  rw [byL_one (by omega)]
  have e : byL (Z.extract 1 Z.size) = [] := List.length_eq_zero_iff.1 (by rw [byL_len, sub_size _ _ _ (Nat.le_refl _)]; omega)
  rw [e]
theorem numV_one {Z : ByteArray} (hs : Z.size = 1) : numV Z = if dig (bt Z 0) < 16 then dig (bt Z 0) else -1 := by
  rw [numV_of (byL_single hs)]
  simp [digs, numL]
theorem bodyO_ask2 {T : ByteArray} (hs : T.size = 2) (h : bt T 0 = 82 ∨ bt T 0 = 114) {v : Int} (hv : numV (T.extract 1 T.size) = v) :
    bodyO (byL T) = if 1 ≤ v then some ⟨0, 2, v, ByteArray.mk #[]⟩ else none := by
  have hz : (T.extract 1 T.size).size = 1 := by rw [sub_size _ _ _ (Nat.le_refl _)]; omega
  rw [byL_one (by omega), bodyO_ask h, byL_single hz, ← hv, numV_one hz]
  unfold askO
  simp only
  have := dig_nn (bt (T.extract 1 T.size) 0)
  by_cases h16 : dig (bt (T.extract 1 T.size) 0) < 16
  · rw [if_pos h16]
    by_cases h0 : 0 < dig (bt (T.extract 1 T.size) 0)
    · rw [if_pos ⟨h0, h16⟩, if_pos (by omega)]
    · rw [if_neg (by omega), if_neg (by omega)]
  · rw [if_neg h16, if_neg (by omega), if_neg (by omega)]
theorem bodyO_ask3 {T : ByteArray} (hs : 2 < T.size) (h : bt T 0 = 82 ∨ bt T 0 = 114) : bodyO (byL T) = none := by
  have e := byL_two (T := T) (by omega)
  rw [e, bodyO_ask h]
  have : 0 < (T.extract 2 T.size).size := by rw [sub_size _ _ _ (Nat.le_refl _)]; omega
  rw [byL_one this]
  rfl
/-- the second # -/
theorem bodyO_fd1 {T : ByteArray} (hs : T.size = 1) (h : bt T 0 = 35) : bodyO (byL T) = none := by
  have e : byL (T.extract 1 T.size) = [] := List.length_eq_zero_iff.1 (by rw [byL_len, sub_size _ _ _ (Nat.le_refl _)]; omega)
  rw [byL_one (by omega), h, bodyO_fd, e]; rfl
theorem bodyO_fd2 {T : ByteArray} (hs : 1 < T.size) (h : bt T 0 = 35) : bodyO (byL T) = if dig (bt T 1) < 4 then (datL (byL (T.extract 2 T.size))).map fun d => ⟨0, 8 + 16 * dig (bt T 1), d.length, strOfNums d⟩ else none := by
  rw [byL_two hs, h, bodyO_fd]; rfl

end Go.Proofs.YtpjlomgiljpadaaDoor
