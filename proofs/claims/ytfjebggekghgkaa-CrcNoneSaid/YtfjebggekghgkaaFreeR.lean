/- Of no program: a row of bytes in a block of the call's own, whoever made it ('[]byte(s)' too): appended to, written into, read. -/
import Derived.Test.YtfjebggekghgkaaGthB
import Derived.Deep.AppendSrc
namespace Go.Proofs.Ytfjebggekghgkaa
open Go.RowKit
set_option linter.unusedVariables false

section
variable {P : Program}
/-- v is a row of the bytes L in a block from B on; all its places can be written -/
def FreeR (B : Nat) (w : World) (v : Value) (L : List Int) : Prop :=
  ∃ g c, v = .slice (some ⟨g, 0, none⟩) L.length c ∧ B ≤ g ∧ g < w.heap.size ∧ L.length ≤ c ∧ c ≤ maxLen ∧ (∀ j, j < L.length → w.cell? ⟨g, j, none⟩ = some (.int .u8 (L.getD j 0))) ∧ ∀ j, j < c → (w.cell? ⟨g, j, none⟩).isSome = true ∧ w.frozen? ⟨g, j, none⟩ = false
theorem getD_app_left {L M : List Int} {j : Nat} (h : j < L.length) : (L ++ M).getD j 0 = L.getD j 0 := by
  rw [List.getD_eq_getElem?_getD, List.getElem?_append_left h, List.getD_eq_getElem?_getD]
theorem getD_app_at (L : List Int) (b : Int) : (L ++ [b]).getD L.length 0 = b := by
  rw [List.getD_eq_getElem?_getD, List.getElem?_append_right (Nat.le_refl _)]; simp

/-- '[]byte(s)' -/
theorem free_bytes (w : World) (e : TypeId) (s : ByteArray) (hs : s.size ≤ maxLen) : FreeR w.heap.size (Lib.bytesWorld w e s) (.slice (some ⟨w.heap.size, 0, none⟩) s.size (grownCap w s.size 0 e)) (byL s) := by
  have hge := grownCap_ge w s.size 0 e
  have hsz : (Lib.bytesCells w e s).size = grownCap w s.size 0 e := by
    unfold Lib.bytesCells
    rw [Array.size_append, Array.size_map, Array.size_replicate]
    show s.size + _ = _
    omega
  refine ⟨w.heap.size, grownCap w s.size 0 e, by rw [byL_len], Nat.le_refl _, by rw [Lib.bytesWorld_size]; omega, by rw [byL_len]; exact hge, grownCap_le_maxLen w s.size 0 e hs, fun j hj => ?_, fun j hj => ?_⟩
  · rw [byL_len] at hj
    rw [Lib.bytesWorld_cell w e s j hj, byL_getD]
    unfold bt
    simp [List.getD_eq_getElem?_getD]
  · refine ⟨?_, ?_⟩
    · unfold World.cell?
      simp only [Lib.bytesWorld_at_new]
      rw [Array.getElem?_eq_getElem (by omega)]
      rfl
    · unfold World.frozen?
      simp only [Lib.bytesWorld_at_new]
      rw [hsz]
      simp; omega

/-- what a loop that appends to such a row knows -/
def GathR (B : Nat) (w : World) (v : Value) (L : List Int) (wr : World) : Prop := FreeR B wr v L ∧ Below B w wr ∧ B ≤ wr.heap.size
theorem free_later {B : Nat} {w w1 : World} {v : Value} {L : List Int} (h : FreeR B w v L) (hb : Below w.heap.size w w1) : FreeR B w1 v L := by
  obtain ⟨g, c, hv, hB, hg, hl, hm, h1, h2⟩ := h
  exact ⟨g, c, hv, hB, Nat.lt_of_lt_of_le hg hb.size, hl, hm, fun j hj => (hb.cell (p := ⟨g, j, none⟩) hg).trans (h1 j hj), fun j hj => ⟨by rw [hb.cell (p := ⟨g, j, none⟩) hg]; exact (h2 j hj).1, (hb.frozen (p := ⟨g, j, none⟩) hg).trans (h2 j hj).2⟩⟩
theorem GathR.later {B : Nat} {w wr w1 : World} {v : Value} {L : List Int} (h : GathR B w v L wr) (hb : Below wr.heap.size wr w1) : GathR B w v L w1 :=
  ⟨free_later h.1 hb, h.2.1.trans (hb.mono h.2.2), Nat.le_trans h.2.2 hb.size⟩

theorem run_append_free (t tx ty e : TypeId) (i : TypeInfo) (ht : P.underlying t = some (.slice e)) (hi : P.info? e = some i) (hz : i.zero = some (.int .u8 0)) (hsize : i.size = 1) (hby : i.bytes = 1)
    {B : Nat} {w : World} {v : Value} {L : List Int} (h : FreeR B w v L) (x : Value) (b : Int) (hs : Src P 1 tx x 1 [.int .u8 b] w) (hB : B ≤ w.heap.size) (hlen : L.length + 1 ≤ 1000000) :
    ∃ v' w', (Builtin.append_ #[t, tx] ty #[v, x]).run P w = .ok v' w' ∧ FreeR B w' v' (L ++ [b]) ∧ Below B w w' := by
  obtain ⟨g, c, rfl, hBg, hg, hl, hm, h1, h2⟩ := h
  have hs' : Src P i.size tx x 1 [.int .u8 b] w := by rw [hsize]; exact hs
  by_cases hroom : L.length + 1 ≤ c
  · have hr := run_append_room_src (P := P) w t tx ty e i ht hi g 0 L.length c x 1 [.int .u8 b] hs' hroom
      (fun j hj => by
        have : j = 0 := by simpa using hj
        subst this
        rw [hsize, Nat.zero_add, Nat.mul_one, Nat.add_zero]
        exact (h2 _ (by omega)).1)
      (fun j hj => by
        have : j = 0 := by simpa using hj
        subst this
        rw [hsize, Nat.zero_add, Nat.mul_one, Nat.add_zero]
        exact (h2 _ (by omega)).2)
    rw [hsize, Nat.zero_add, Nat.mul_one] at hr
    refine ⟨_, _, hr, ⟨g, c, by simp, hBg, by simp [World.setCells, World.setCell]; exact hg, by simp; exact hroom, hm, fun j hj => ?_, fun j hj => ⟨?_, ?_⟩⟩, ?_⟩
    · show (w.setCell ⟨g, L.length, none⟩ (.int .u8 b)).cell? ⟨g, j, none⟩ = _
      simp only [List.length_append, List.length_cons, List.length_nil] at hj
      by_cases hjl : j = L.length
      · subst hjl
        rw [World.cell?_setCell_same' _ _ _ (h2 _ (by omega)).1, getD_app_at]
      · rw [World.cell?_setCell_other _ _ _ _ (by intro e; injection e; omega), h1 j (by omega), getD_app_left (by omega)]
    · show ((w.setCell ⟨g, L.length, none⟩ (.int .u8 b)).cell? ⟨g, j, none⟩).isSome = true
      by_cases hjl : j = L.length
      · subst hjl
        rw [World.cell?_setCell_same' _ _ _ (h2 _ (by omega)).1]; rfl
      · rw [World.cell?_setCell_other _ _ _ _ (by intro e; injection e; omega)]
        exact (h2 j hj).1
    · show (w.setCell ⟨g, L.length, none⟩ (.int .u8 b)).frozen? ⟨g, j, none⟩ = false
      rw [World.frozen?_setCell]
      exact (h2 j hj).2
    · exact (Below.refl B w).setCell (p := ⟨g, L.length, none⟩) hBg _
  · have hold : (Builtin.firstCells i.size L.length (.slice (some ⟨g, 0, none⟩) L.length c)).run P w.drew = .ok (byteRow L).toArray w.drew := by
      refine run_firstCells_some w.drew i.size L.length ⟨g, 0, none⟩ L.length c (byteRow L) (by rw [hsize]; simp [byteRow]) (fun j u hu => ?_)
      have hj : j < L.length := by
        rcases Nat.lt_or_ge j L.length with h | h
        · exact h
        · rw [List.getElem?_eq_none (by simpa [byteRow] using h)] at hu; cases hu
      rw [addr_zero]
      unfold byteRow at hu
      rw [List.getElem?_map, List.getElem?_eq_getElem hj] at hu
      have := h1 j hj
      rw [List.getD_eq_getElem?_getD, List.getElem?_eq_getElem hj] at this
      exact this.trans hu
    have hr := run_append_grow_src (P := P) w t tx ty e i (.int .u8 0) ht hi hz (some ⟨g, 0, none⟩) L.length c (byteRow L) hold x 1 [.int .u8 b] hs' (by omega) (by omega) (growslice_fits (by omega) (by rw [hby]; omega))
    have hge := grownCap_ge w (L.length + 1) c e
    have hzc : (Value.int IntKind.u8 0).cells.size = 1 := rfl
    generalize hC : grownCap w (L.length + 1) c e = C at hr hge
    have hCm : C ≤ maxLen := by rw [← hC]; exact grownCap_le_maxLen _ _ _ _ (by unfold maxLen; omega)
    have hlist : (byteRow L ++ [Value.int .u8 b]) = byteRow (L ++ [b]) := by simp [byteRow]
    rw [hlist] at hr
    have hsz : ((byteRow (L ++ [b])).toArray ++ Builtin.zeroCells (Value.int IntKind.u8 0).cells (C - (L.length + 1))).size = C := by
      rw [Array.size_append, size_zeroCells, hzc]
      simp [byteRow]; omega
    refine ⟨_, _, hr, ⟨w.heap.size, C, by simp, hB, by simp, by simp; exact hge, hCm, fun j hj => ?_, fun j hj => ⟨?_, ?_⟩⟩, ?_⟩
    · simp only [List.length_append, List.length_cons, List.length_nil] at hj
      show (w.drew.alloc _).cell? ⟨w.drew.heap.size, j, none⟩ = _
      rw [World.cell?_alloc_at _ _ _ _ rfl]
      rw [Array.getElem?_append_left (by simp [byteRow]; omega)]
      simp only [byteRow, List.getElem?_toArray, List.getElem?_map, List.getD_eq_getElem?_getD]
      rw [List.getElem?_eq_getElem (by simp; omega)]
      rfl
    · show ((w.drew.alloc _).cell? ⟨w.drew.heap.size, j, none⟩).isSome = true
      rw [World.cell?_alloc_at _ _ _ _ rfl, Array.getElem?_eq_getElem (by rw [hsz]; exact hj)]
      rfl
    · show (w.drew.alloc _).frozen? ⟨w.drew.heap.size, j, none⟩ = false
      unfold World.frozen?
      rw [heap_alloc_new]
      simp
    · exact (Below.refl B w).drew.alloc hB _

theorem wpList_append_free {ops : Array Oper} {rest : List Oper} {o : Oper} {a : Act} {Q : Exit → Act → World → Prop} (hgd : o.guard = none) (s x : Operand) (t tx : TypeId)
    (ho : o.op = .call { callee := .builtin .append, args := #[s, x], argTypes := #[t, tx] })
    (e : TypeId) (i : TypeInfo) (ht : P.underlying t = some (.slice e)) (hi : P.info? e = some i) (hz : i.zero = some (.int .u8 0)) (hsize : i.size = 1) (hby : i.bytes = 1)
    {B : Nat} {w0 w : World} {v : Value} {L : List Int} (hv : a.eval s = v) (h : GathR B w0 v L w) (xv : Value) (b : Int) (hx : a.eval x = xv) (hs : Src P 1 tx xv 1 [.int .u8 b] w) (hlen : L.length + 1 ≤ 1000000)
    (hK : ∀ v' w', GathR B w0 v' (L ++ [b]) w' → wpList P ops Q rest (a.put o.dst v') w') : wpList P ops Q (o :: rest) a w := by
  refine wpList_plain hgd fun K hK' => ?_
  obtain ⟨v', w', hrun, r1, r2⟩ := run_append_free (P := P) t tx o.type e i ht hi hz hsize hby h.1 xv b hs h.2.2 hlen
  unfold Oper.wp
  simp [execOp, ho, resolve, invoke, builtin, hv, hx, hrun, Result.andThen]
  exact hK' _ _ (hK v' w' ⟨r1, h.2.1.trans r2, Nat.le_trans h.2.2 r2.size⟩)
end

end Go.Proofs.Ytfjebggekghgkaa
