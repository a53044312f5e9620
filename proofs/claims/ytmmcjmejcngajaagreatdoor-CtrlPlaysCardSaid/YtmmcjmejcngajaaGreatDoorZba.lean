/- Of no program: rows of numbers that the library's calls turn: an insertion, a cut; what the shelf says of them. The library's calls on rows of numbers, laid at this program: slices.Index, Delete, Insert; over rows in blocks of their own. Box, the code: sort.Search over whatever function; which mailbox is free; a frame's place. Box, the code: a frame's place among those that are ready. -/
import Derived.Test.YtmmcjmejcngajaaGreatDoorZai
import Derived.Test.YtmmcjmejcngajaaGreatDoorZam
import Derived.Laws.LoneSync
import Derived.Test.YtmmcjmejcngajaaGreatDoorZay
import Derived.Shelf.Slices.Turned
import Derived.Shelf.Slices.Cells
import Derived.Shelf.Slices.Empties
import Derived.Shelf.Spec.SlicesInsertGrow
import Derived.Test.YtmmcjmejcngajaaGreatDoorZaz
import Derived.Test.YtmmcjmejcngajaaGreatDoorZaf
import Derived.Shelf.SlicesQ.IndexFunc
import Derived.Deep.LoopGhost
import Derived.BigQuiet
import Derived.Test.YtmmcjmejcngajaaGreatDoorZah
namespace Go.Proofs.YtmmcjmejcngajaaGreatDoor
open Go.RowKit
set_option linter.unusedVariables false

theorem rowI_map (L : List Int) : rowG inC L = L.map (Value.int .i64) := by
  induction L with
  | nil => rfl
  | cons a L ih => rw [show rowG inC (a :: L) = inC a ++ rowG inC L by simp [rowG], ih]; rfl
theorem int_one (L : List Int) : ∀ v ∈ L.map (Value.int .i64), v.oneCell' = true := by
  intro v hv
  obtain ⟨x, _, rfl⟩ := List.mem_map.1 hv
  rfl
/-- a row in a block, as its cells -/
structure RowC (w : World) (g o cap : Nat) (L : List Int) : Prop where
  le : L.length ≤ cap
  mx : cap ≤ maxLen
  lt : g < w.heap.size
  cell : ∀ j u, (L.map (Value.int .i64))[j]? = some u → w.cell? ⟨g, o + j, none⟩ = some u
  live : ∀ j, j < cap → (w.cell? ⟨g, o + j, none⟩).isSome = true ∧ w.frozen? ⟨g, o + j, none⟩ = false
theorem RowC.q {w : World} {g o cap : Nat} {L : List Int} (h : RowC w g o cap L) {n : Nat} (hn : n = L.length) : RowQ inC 1 w (.slice (some ⟨g, o, none⟩) n cap) L :=
  .inr ⟨g, o, cap, by rw [hn], h.le, h.mx, h.lt, fun j u hu => h.cell j u (by rw [rowI_map] at hu; exact hu), fun j hj => h.live j (by omega)⟩
theorem RowQ.c {w : World} {v : Value} {L : List Int} (h : RowQ inC 1 w v L) : (v = .slice none 0 0 ∧ L = []) ∨ ∃ g o cap, v = .slice (some ⟨g, o, none⟩) L.length cap ∧ RowC w g o cap L := by
  rcases h with h | ⟨g, o, cap, hv, h1, h2, h3, h4, h5⟩
  · exact .inl h
  · exact .inr ⟨g, o, cap, hv, h1, h2, h3, fun j u hu => h4 j u (by rw [rowI_map]; exact hu), fun j hj => h5 j (by omega)⟩
theorem some_setCell {w : World} {x : Addr} (h : (w.cell? x).isSome = true) (a : Addr) (u : Value) : ((w.setCell a u).cell? x).isSome = true := by
  by_cases e : a = x
  · subst e; rw [World.cell?_setCell_same' _ _ _ h]; rfl
  · rw [World.cell?_setCell_other _ _ _ _ e]; exact h
theorem some_setCells (g : Nat) : ∀ (vs : List Value) (q : Nat) (w : World) (x : Addr), (w.cell? x).isSome = true → ((w.setCells g q vs).cell? x).isSome = true
  | [], q, w, x, h => h
  | b :: vs, q, w, x, h => some_setCells g vs _ _ _ (some_setCell h _ _)
theorem kept_setCells {w w' : World} {g : Nat} {O : Nat → Prop} (h : Kept O w w') (hg : O g) (o : Nat) (vs : List Value) : Kept O w (w'.setCells g o vs) := by
  obtain ⟨r1, r2, r3⟩ := setCells_rest w' g o vs
  exact ⟨r1.trans h.os, r2.trans h.tape, r3.trans h.output, by rw [setCells_size]; exact h.size, fun k hk hn => (setCells_heap _ _ _ _ (fun e => hn (by rw [e]; exact hg))).trans (h.block k hk hn)⟩
theorem bel_drewN (w : World) (q : Nat) : Below w.heap.size w (w.drewN q) := ⟨rfl, rfl, rfl, Nat.le_refl _, fun k hk => rfl⟩
/-- cells of one piece, read -/
theorem setCells_at {w : World} {g o : Nat} {vs : List Value} (hs : ∀ j, j < vs.length → (w.cell? ⟨g, o + j, none⟩).isSome = true) {p : Nat} {u : Value} :
    (p < o ∨ o + vs.length ≤ p → (w.setCells g o vs).cell? ⟨g, p, none⟩ = w.cell? ⟨g, p, none⟩) ∧ (∀ j, p = o + j → vs[j]? = some u → (w.setCells g o vs).cell? ⟨g, p, none⟩ = some u) := by
  refine ⟨fun h => World.cell?_setCells_out _ _ _ _ _ (fun _ _ => h), ?_⟩
  rintro j rfl hj
  obtain ⟨h1, h2⟩ := List.getElem?_eq_some_iff.1 hj
  rw [World.cell?_setCells_in _ _ _ _ hs j h1, h2]
/-- put in at place i, where there is room -/
theorem RowC.shift {w w' : World} {g o cap i : Nat} {L : List Int} {x : Int} (h : RowC w g o cap L) (hi : i ≤ L.length) (hr : L.length + 1 ≤ cap)
    (hw : w' = (w.drew.setCells g (o + (i + 1)) ((L.map (Value.int .i64)).drop i)).setCells g (o + i) [.int .i64 x]) : RowC w' g o cap (L.take i ++ x :: L.drop i) ∧ Kept (fun k => k = g) w w' := by
  have hl : ((L.map (Value.int .i64)).drop i).length = L.length - i := by simp
  have s0 : ∀ j, j < cap → (w.drew.cell? ⟨g, o + j, none⟩).isSome = true := fun j hj => (h.live j hj).1
  have s1 : ∀ j, j < ((L.map (Value.int .i64)).drop i).length → (w.drew.cell? ⟨g, o + (i + 1) + j, none⟩).isSome = true := fun j hj => by
    rw [hl] at hj
    rw [Nat.add_assoc]
    exact s0 _ (by omega)
  have s2 : ∀ j, j < [Value.int .i64 x].length → ((w.drew.setCells g (o + (i + 1)) ((L.map (Value.int .i64)).drop i)).cell? ⟨g, o + i + j, none⟩).isSome = true := fun j hj => some_setCells _ _ _ _ _ (by
    simp at hj
    subst hj
    exact s0 _ (by omega))
  subst hw
  refine ⟨⟨by simp; omega, h.mx, by rw [setCells_size, setCells_size]; exact h.lt, fun j u hu => ?_, fun j hj => ⟨some_setCells _ _ _ _ _ (some_setCells _ _ _ _ _ (s0 j hj)), ?_⟩⟩, ?_⟩
  · simp only [List.map_append, List.map_cons, List.map_take, List.map_drop] at hu
    have ht : ((L.map (Value.int .i64)).take i).length = i := by simp; omega
    by_cases h1 : j < i
    · rw [List.getElem?_append_left (by omega), List.getElem?_take, if_pos h1] at hu
      rw [(setCells_at s2 (u := u)).1 (.inl (by omega)), (setCells_at s1 (u := u)).1 (.inl (by omega))]
      exact h.cell j u hu
    · rw [List.getElem?_append_right (by omega), ht] at hu
      by_cases h2 : j = i
      · subst h2
        rw [Nat.sub_self] at hu
        exact (setCells_at s2).2 0 rfl hu
      · obtain ⟨d, rfl⟩ : ∃ d, j = i + 1 + d := ⟨j - (i + 1), by omega⟩
        rw [show i + 1 + d - i = d + 1 by omega, List.getElem?_cons_succ] at hu
        rw [(setCells_at s2 (u := u)).1 (.inr (by simp; omega))]
        exact (setCells_at s1).2 d (by omega) hu
  · rw [World.frozen?_setCells, World.frozen?_setCells]
    exact (h.live j hj).2
  · exact kept_setCells (O := fun k => k = g) (kept_setCells (O := fun k => k = g) (.of_below (Below.refl _ w).drew) rfl _ _) rfl _ _
/-- behind all, where there is room -/
theorem RowC.endRoom {w w' : World} {g o cap : Nat} {L : List Int} {x : Int} (h : RowC w g o cap L) (hr : L.length + 1 ≤ cap) (hw : w' = w.setCells g (o + L.length) [.int .i64 x]) : RowC w' g o cap (L ++ [x]) ∧ Kept (fun k => k = g) w w' := by
  have s2 : ∀ j, j < [Value.int .i64 x].length → (w.cell? ⟨g, o + L.length + j, none⟩).isSome = true := fun j hj => by
    simp at hj
    subst hj
    exact (h.live _ (by omega)).1
  subst hw
  refine ⟨⟨by simp; omega, h.mx, by rw [setCells_size]; exact h.lt, fun j u hu => ?_, fun j hj => ⟨some_setCells _ _ _ _ _ (h.live j hj).1, by rw [World.frozen?_setCells]; exact (h.live j hj).2⟩⟩, kept_setCells (O := fun k => k = g) (.refl _ _) rfl _ _⟩
  rw [List.map_append] at hu
  by_cases h1 : j < L.length
  · rw [List.getElem?_append_left (by simpa using h1)] at hu
    rw [(setCells_at s2 (u := u)).1 (.inl (by omega))]
    exact h.cell j u hu
  · rw [List.getElem?_append_right (by simpa using h1)] at hu
    exact (setCells_at s2).2 (j - L.length) (by omega) (by simpa using hu)
/-- a new row of given cells -/
theorem RowC.made {w w' : World} {cap : Nat} {L : List Int} {cs : Array Value} {t : TypeId} (hw : w' = w.drew.alloc (.cells cs t)) (hs : cs.size = cap) (hm : cap ≤ maxLen) (hl : L.length ≤ cap) (hc : ∀ (j : Nat) (u : Value), (L.map (Value.int .i64))[j]? = some u → cs[j]? = some u) : RowC w' w.heap.size 0 cap L ∧ Below w.heap.size w w' := by
  subst hw
  have hh : (w.drew.alloc (.cells cs t)).heap[w.heap.size]? = some (.cells cs t (0, 0)) := heap_alloc_new w.drew _
  refine ⟨⟨hl, hm, by simp, fun j u hu => ?_, fun j hj => ⟨?_, ?_⟩⟩, (Below.refl _ w).drew.alloc (Nat.le_refl _) _⟩
  · rw [Nat.zero_add, Lib.cell_of_heap hh]; exact hc j u hu
  · rw [Nat.zero_add, Lib.cell_of_heap hh, Array.getElem?_eq_getElem (by omega)]; rfl
  · exact Lib.frozen_of_heap hh _
theorem RowC.made2 {w w' : World} {cap i : Nat} {L : List Int} {x : Int} {cs : Array Value} {t : TypeId} (hi : i ≤ L.length) (hs : cs.size = cap) (hm : cap ≤ maxLen) (hl : L.length + 1 ≤ cap) (hc : ∀ j, j < i → cs[j]? = (L.map (Value.int .i64))[j]?)
    (hw : w' = (((w.alloc (.cells cs t)).drew.setCells w.heap.size i [.int .i64 x]).drew).setCells w.heap.size (i + 1) ((L.map (Value.int .i64)).drop i)) : RowC w' w.heap.size 0 cap (L.take i ++ x :: L.drop i) ∧ Below w.heap.size w w' := by
  have hh : (w.alloc (.cells cs t)).drew.heap[w.heap.size]? = some (.cells cs t (0, 0)) := heap_alloc_new w _
  have hb : Below w.heap.size w (w.alloc (.cells cs t)).drew := ((Below.refl _ w).alloc (Nat.le_refl _) _).drew
  have s0 : ∀ j, j < cap → ((w.alloc (.cells cs t)).drew.cell? ⟨w.heap.size, j, none⟩).isSome = true := fun j hj => by
    rw [Lib.cell_of_heap hh, Array.getElem?_eq_getElem (by omega)]; rfl
  generalize (w.alloc (.cells cs t)).drew = w1 at hw hh s0 hb
  have hl2 : ((L.map (Value.int .i64)).drop i).length = L.length - i := by simp
  have s1 : ∀ j, j < [Value.int .i64 x].length → (w1.cell? ⟨w.heap.size, i + j, none⟩).isSome = true := fun j hj => by
    simp at hj
    subst hj
    exact s0 _ (by omega)
  have s2 : ∀ j, j < ((L.map (Value.int .i64)).drop i).length → ((w1.setCells w.heap.size i [.int .i64 x]).drew.cell? ⟨w.heap.size, i + 1 + j, none⟩).isSome = true := fun j hj => by
    rw [hl2] at hj
    exact some_setCells _ _ _ _ _ (s0 _ (by omega))
  subst hw
  refine ⟨⟨by simp; omega, hm, by rw [setCells_size]; show _ < (w1.setCells _ _ _).heap.size; rw [setCells_size]; exact heap_some_lt hh, fun j u hu => ?_, fun j hj => ⟨by rw [Nat.zero_add]; exact some_setCells _ _ _ _ _ (some_setCells _ _ _ _ _ (s0 j hj)), ?_⟩⟩, ?_⟩
  · rw [Nat.zero_add]
    simp only [List.map_append, List.map_cons, List.map_take, List.map_drop] at hu
    have ht : ((L.map (Value.int .i64)).take i).length = i := by simp; omega
    by_cases h1 : j < i
    · rw [List.getElem?_append_left (by omega), List.getElem?_take, if_pos h1] at hu
      rw [(setCells_at s2 (u := u)).1 (.inl (by omega))]
      show (w1.setCells _ _ _).cell? _ = _
      rw [(setCells_at s1 (u := u)).1 (.inl (by omega)), Lib.cell_of_heap hh, hc j h1]
      exact hu
    · rw [List.getElem?_append_right (by omega), ht] at hu
      by_cases h2 : j = i
      · subst h2
        rw [Nat.sub_self] at hu
        rw [(setCells_at s2 (u := u)).1 (.inl (by omega))]
        exact (setCells_at s1).2 0 rfl hu
      · obtain ⟨d, rfl⟩ : ∃ d, j = i + 1 + d := ⟨j - (i + 1), by omega⟩
        rw [show i + 1 + d - i = d + 1 by omega, List.getElem?_cons_succ] at hu
        exact (setCells_at s2).2 d rfl hu
  · rw [World.frozen?_setCells]
    show (w1.setCells _ _ _).frozen? _ = _
    rw [World.frozen?_setCells]
    exact Lib.frozen_of_heap hh _
  · refine (kept_setCells (O := fun k => k = w.heap.size) ?_ rfl _ _).below (Below.refl _ w) (Nat.le_refl _) (fun k h => by omega)
    have k1 := kept_setCells (O := fun k => k = w.heap.size) (.of_below hb) rfl i [.int .i64 x]
    exact ⟨k1.os, k1.tape, k1.output, k1.size, k1.block⟩
/-- one cut out -/
theorem RowC.cutAt {w w' : World} {g o cap i q : Nat} {L : List Int} (h : RowC w g o cap L) (hi : i < L.length) (hw : w' = (w.drewN q).setCells g o ((L.take i ++ L.drop (i + 1) ++ List.replicate 1 0).map (Value.int .i64))) : RowC w' g o cap (L.take i ++ L.drop (i + 1)) ∧ Kept (fun k => k = g) w w' := by
  have hl : ((L.take i ++ L.drop (i + 1) ++ List.replicate 1 (0 : Int)).map (Value.int .i64)).length = L.length := by simp; omega
  have s1 : ∀ j, j < ((L.take i ++ L.drop (i + 1) ++ List.replicate 1 (0 : Int)).map (Value.int .i64)).length → ((w.drewN q).cell? ⟨g, o + j, none⟩).isSome = true := fun j hj => (h.live j (by have := h.le; omega)).1
  subst hw
  refine ⟨⟨by have := h.le; simp; omega, h.mx, by rw [setCells_size]; exact h.lt, fun j u hu => ?_, fun j hj => ⟨some_setCells _ _ _ _ _ (h.live j hj).1, by rw [World.frozen?_setCells]; exact (h.live j hj).2⟩⟩, kept_setCells (O := fun k => k = g) (.of_below (bel_drewN w q)) rfl _ _⟩
  refine (setCells_at s1).2 j rfl ?_
  rw [List.map_append, List.getElem?_append_left ?_]
  · exact hu
  · rcases Nat.lt_or_ge j ((L.take i ++ L.drop (i + 1)).map (Value.int .i64)).length with h1 | h1
    · exact h1
    · rw [List.getElem?_eq_none h1] at hu; cases hu
end Go.Proofs.YtmmcjmejcngajaaGreatDoor

namespace Go.Proofs.YtmmcjmejcngajaaGreatDoor
open Go.RowKit Go.Shelf
set_option linter.unusedVariables false

def lyIx_ren : Go.Shelf.Ren := ⟨fun | 108 => 97 | n => n, fun | 28 => 45 | 3 => 3 | 0 => 0 | 4 => 4 | n => n, fun | n => n⟩
theorem lyIx : Go.Proofs.Lays.n108 Tryz.prog lyIx_ren := {
  mixed := by kernel_rfl
  f108 := Tryz.func97.trans (congrArg some (by kernel_rfl))
  t0 := Tryz.underlying0
  a0 := Tryz.isAgg0
  z0 := Tryz.sizeOf0
  v0 := Tryz.zeroValue0
  t3 := Tryz.underlying3
  a3 := Tryz.isAgg3
  z3 := Tryz.sizeOf3
  v3 := Tryz.zeroValue3
  t4 := Tryz.underlying4
  a4 := Tryz.isAgg4
  z4 := Tryz.sizeOf4
  v4 := Tryz.zeroValue4
  t28 := Tryz.underlying45
  a28 := Tryz.isAgg45
  z28 := Tryz.sizeOf45
  v28 := Tryz.zeroValue45 }
def lyDel_ren : Go.Shelf.Ren := ⟨fun | 23 => 74 | n => n, fun | 22 => 45 | 3 => 3 | 4 => 4 | 0 => 0 | n => n, fun | n => n⟩
theorem lyDel : Go.Proofs.Lays2.n23 Tryz.prog lyDel_ren := {
  mixed := by kernel_rfl
  f23 := Tryz.func74.trans (congrArg some (by kernel_rfl))
  t0 := Tryz.underlying0
  a0 := Tryz.isAgg0
  z0 := Tryz.sizeOf0
  v0 := Tryz.zeroValue0
  t3 := Tryz.underlying3
  a3 := Tryz.isAgg3
  z3 := Tryz.sizeOf3
  v3 := Tryz.zeroValue3
  t4 := Tryz.underlying4
  a4 := Tryz.isAgg4
  z4 := Tryz.sizeOf4
  v4 := Tryz.zeroValue4
  t22 := Tryz.underlying45
  a22 := Tryz.isAgg45
  z22 := Tryz.sizeOf45
  v22 := Tryz.zeroValue45
  i3 := by kernel_rfl }
def lyIns_ren : Go.Shelf.Ren := ⟨fun | 21 => 67 | 27 => 81 | 28 => 82 | 35 => 95 | 39 => 100 | n => n, fun | 22 => 45 | 3 => 3 | 4 => 4 | 0 => 0 | n => n, fun | n => n⟩
theorem lyIns : Go.Proofs.Lays2.n21 Tryz.prog lyIns_ren := {
  mixed := by kernel_rfl
  f21 := Tryz.func67.trans (congrArg some (by kernel_rfl))
  f27 := Tryz.func81.trans (congrArg some (by kernel_rfl))
  f28 := Tryz.func82.trans (congrArg some (by kernel_rfl))
  f35 := Tryz.func95.trans (congrArg some (by kernel_rfl))
  f39 := Tryz.func100.trans (congrArg some (by kernel_rfl))
  t0 := Tryz.underlying0
  a0 := Tryz.isAgg0
  z0 := Tryz.sizeOf0
  v0 := Tryz.zeroValue0
  t3 := Tryz.underlying3
  a3 := Tryz.isAgg3
  z3 := Tryz.sizeOf3
  v3 := Tryz.zeroValue3
  t4 := Tryz.underlying4
  a4 := Tryz.isAgg4
  z4 := Tryz.sizeOf4
  v4 := Tryz.zeroValue4
  t22 := Tryz.underlying45
  a22 := Tryz.isAgg45
  z22 := Tryz.sizeOf45
  v22 := Tryz.zeroValue45
  i3 := by kernel_rfl }
/-- the place of one that stands once -/
theorem sl_index_v {w : World} {v : Value} {L : List Int} {x : Int} {i : Nat} (h : RowQ inC 1 w v L) (hl : L.length ≤ 1000000) (hn : L.Nodup) (hx : L[i]? = some x) :
    Calls Tryz.prog 97 #[v, .int .i64 x] w fun e w' => e = .returned (.int .i64 i) ∧ w' = w := by
  obtain ⟨hi, hx⟩ := List.getElem?_eq_some_iff.1 hx
  rcases h.c with ⟨_, rfl⟩ | ⟨g, o, cap, rfl, hc⟩
  · simp at hi
  · have h0 := Any.slices_Index_int lyIx g o L.length cap L x w (Nat.le_refl _) (by omega) (fun j hj => hc.cell j _ (by rw [List.getElem?_map, List.getElem?_eq_getElem hj, List.getD_eq_getElem?_getD, List.getElem?_eq_getElem hj]; rfl))
    rw [Lib.idxOf_hit L L.length i x hi (Nat.le_refl _) (by rw [List.getD_eq_getElem?_getD, List.getElem?_eq_getElem hi]; exact hx) (fun j hj e => by
      rw [List.getD_eq_getElem?_getD, List.getElem?_eq_getElem (by omega)] at e
      have := (List.getElem_inj hn).1 (show L[j]'(by omega) = L[i] from e.trans hx.symm)
      omega)] at h0
    exact h0
theorem sl_delete_v {w : World} {v : Value} {L : List Int} {i : Nat} (h : RowQ inC 1 w v L) (hi : i < L.length) :
    Calls Tryz.prog 74 #[v, .int .i64 i, .int .i64 ((i : Int) + 1)] w fun e w' => ∃ v', e = .returned v' ∧ RowQ inC 1 w' v' (L.take i ++ L.drop (i + 1)) ∧ Kept (OwnO v) w w' ∧ Grows (OwnO v) w (OwnO v') := by
  rcases h.c with ⟨_, rfl⟩ | ⟨g, o, cap, rfl, hc⟩
  · simp at hi
  · have h0 := Any.slices_Delete_int_cells lyDel g o L.length cap i (i + 1) L w (Nat.le_refl _) hc.le (by have := hc.mx; unfold maxLen at this; omega) (by omega) (by omega) (fun j hj => hc.cell j _ (by rw [List.getElem?_map, List.getElem?_eq_getElem hj, List.getD_eq_getElem?_getD, List.getElem?_eq_getElem hj]; rfl)) (fun j hj => (hc.live j (by have := hc.le; omega)).2)
    rw [List.take_length, show i + 1 - i = 1 by omega, show ((i + 1 : Nat) : Int) = (i : Int) + 1 by omega] at h0
    refine h0.mono ?_
    rintro e w' ⟨rfl, q, hw⟩
    obtain ⟨h1, h2⟩ := hc.cutAt hi hw
    exact ⟨_, rfl, h1.q (by simp; omega), ⟨h2.os, h2.tape, h2.output, h2.size, fun k hk hn => h2.block k hk (fun e => hn (by subst e; rfl))⟩, fun k hk => .inl hk⟩
theorem sl_delete0_v {w : World} {v : Value} {x : Int} {L : List Int} (h : RowQ inC 1 w v (x :: L)) :
    Calls Tryz.prog 74 #[v, .int .i64 0, .int .i64 1] w fun e w' => ∃ v', e = .returned v' ∧ RowQ inC 1 w' v' L ∧ Kept (OwnO v) w w' ∧ Grows (OwnO v) w (OwnO v') := sl_delete_v (i := 0) h (by simp)
theorem zero_cells (n : Nat) : (Builtin.zeroCells (Value.int .i64 0).cells n).size = n := by
  rw [size_zeroCells]
  exact Nat.mul_one n
theorem sl_insert_v {w : World} {v : Value} {L : List Int} {i vb : Nat} {x : Int} {t : TypeId} (h : RowQ inC 1 w v L) (hi : i ≤ L.length) (hl : L.length ≤ 1000000) (hv : w.heap[vb]? = some (.cells #[.int .i64 x] t (0, 0))) (hn : ¬ OwnO v vb) :
    Calls Tryz.prog 67 #[v, .int .i64 i, .slice (some ⟨vb, 0, none⟩) 1 1] w fun e w' => ∃ v', e = .returned v' ∧ RowQ inC 1 w' v' (L.take i ++ x :: L.drop i) ∧ Kept (OwnO v) w w' ∧ Grows (OwnO v) w (OwnO v') := by
  have hvs : ∀ (j : Nat) (u : Value), [Value.int .i64 x][j]? = some u → w.cell? ⟨vb, 0 + j, none⟩ = some u := fun j u hu => by
    rw [Lib.cell_of_heap hv, Nat.zero_add]
    simpa using hu
  have hone : ∀ v ∈ [Value.int .i64 x], v.oneCell' = true := fun v h => by simp at h; subst h; rfl
  have hoc := int_one L
  have hmapl : (L.map (Value.int .i64)).length = L.length := by simp
  have hdone : ∀ {e : Ending} {w' : World} {g cap : Nat} {L' : List Int}, RowC w' w.heap.size 0 cap L' ∧ Below w.heap.size w w' → e = .returned (.slice (some ⟨w.heap.size, 0, none⟩) L'.length cap) → ∃ v', e = .returned v' ∧ RowQ inC 1 w' v' L' ∧ Kept (OwnO v) w w' ∧ Grows (OwnO v) w (OwnO v') := fun ⟨h1, h2⟩ he =>
    ⟨_, he, h1.q rfl, .of_below h2, fun k hk => .inr (by injection hk with hk; have hk : w.heap.size = k := hk; omega)⟩
  have hgl : ∀ n : Nat, n ≤ 1000001 → ∀ (c : Nat), grownCap w n c (lyIns_ren.t 3) ≤ maxLen := fun n hn c => grownCap_le_maxLen _ _ _ _ (by unfold maxLen; omega)
  rcases h.c with ⟨rfl, rfl⟩ | ⟨g, o, cap, rfl, hc⟩
  · obtain rfl : i = 0 := by simpa using hi
    refine (Any2.slices_Insert_int_end_grow lyIns none 0 0 vb 0 1 1 [] [.int .i64 x] w (by decide) (Nat.le_refl _) (by decide) (by decide) rfl rfl (fun _ => rfl) (fun a h => by cases h) hvs hone).mono ?_
    rintro e w' ⟨he, hw⟩
    have hge := grownCap_ge w (0 + 1) 0 (lyIns_ren.t 3)
    refine hdone (g := 0) (RowC.made (cap := grownCap w (0 + 1) 0 (lyIns_ren.t 3)) hw (by rw [Array.size_append, zero_cells]; simp only [List.nil_append, List.size_toArray, List.length_singleton]; omega) (hgl (0 + 1) (by omega) 0) (by simpa using hge) (fun j u hu => ?_)) (by simpa using he)
    have hj : j < 1 := by
      rcases Nat.lt_or_ge j 1 with h | h
      · exact h
      · rw [List.getElem?_eq_none (by simpa using h)] at hu; cases hu
    rw [Array.getElem?_append_left (by simpa using hj)]
    simpa using hu
  · have hroom : ∀ {w' : World} {L' : List Int}, RowC w' g o cap L' ∧ Kept (fun k => k = g) w w' → L'.length = L.length + 1 → ∀ {e : Ending}, e = .returned (.slice (some ⟨g, o, none⟩) (L.length + 1) cap) →
        ∃ v', e = .returned v' ∧ RowQ inC 1 w' v' L' ∧ Kept (OwnO (.slice (some ⟨g, o, none⟩) L.length cap)) w w' ∧ Grows (OwnO (.slice (some ⟨g, o, none⟩) L.length cap)) w (OwnO v') := fun ⟨h1, h2⟩ hlen e he =>
      ⟨_, he, h1.q hlen.symm, ⟨h2.os, h2.tape, h2.output, h2.size, fun k hk hn => h2.block k hk (fun e => hn (by subst e; rfl))⟩, fun k hk => .inl hk⟩
    have hbig : cap ≤ 9223372036854775807 := by have := hc.mx; unfold maxLen at this; omega
    have hne : vb ≠ g := fun e => hn (by subst e; rfl)
    rcases Nat.lt_or_ge i L.length with hlt | hge
    · by_cases hr : L.length + 1 ≤ cap
      · obtain ⟨u, hu⟩ := Option.isSome_iff_exists.1 (hc.live 0 (by omega)).1
        obtain ⟨tB, kB, hsB, hkB, _⟩ := World.shape?_of_cell? hu
        refine (Any2.slices_Insert_int_shift lyIns g o L.length cap i vb 0 1 1 (L.map (Value.int .i64)) [.int .i64 x] w hlt (by decide) hr hbig hne hmapl rfl hc.cell (fun j hj => (hc.live j (by omega)).1) (fun j hj => (hc.live j (by omega)).2) hvs hoc hone t tB 1 kB (by unfold World.shape?; rw [hv]; rfl) hsB (by omega) (Lib.frozen_of_heap hv 0) (Lib.frozen_of_heap hv 1)).mono ?_
        rintro e w' ⟨he, hw⟩
        exact hroom (hc.shift hi hr hw) (by simp; omega) he
      · refine (Any2.slices_Insert_int_grow lyIns g o L.length cap i vb 0 1 1 (L.map (Value.int .i64)) [.int .i64 x] w hlt (by decide) hc.le (by omega) (by omega) hmapl rfl hc.cell hvs hoc hone).mono ?_
        rintro e w' ⟨he, hw⟩
        have hge := grownCap_ge w (L.length + 1) cap (lyIns_ren.t 3)
        have hm := hgl (L.length + 1) (by omega) cap
        refine hdone (g := 0) (RowC.made2 hi ?_ hm hge (fun j hj => ?_) hw) (by rw [he]; congr 3; simp; omega)
        · simp only [Array.size_append, zero_cells, List.size_toArray, List.length_take, hmapl]
          omega
        · rw [Array.append_assoc, Array.getElem?_append_left (by simp; omega)]
          simp [hj]
    · obtain rfl : i = L.length := by omega
      rw [List.take_length, List.drop_length]
      by_cases hr : L.length + 1 ≤ cap
      · refine (Any2.slices_Insert_int_end_room lyIns g o L.length cap vb 0 1 1 [.int .i64 x] w (by decide) hr hbig rfl (fun j hj => by rw [Nat.add_assoc]; exact (hc.live _ (by omega)).1) (fun j hj => by rw [Nat.add_assoc]; exact (hc.live _ (by omega)).2) hvs hone).mono ?_
        rintro e w' ⟨he, hw⟩
        exact hroom (hc.endRoom hr hw) (by simp) he
      · refine (Any2.slices_Insert_int_end_grow lyIns (some ⟨g, o, none⟩) L.length cap vb 0 1 1 (L.map (Value.int .i64)) [.int .i64 x] w (by decide) hc.le (by omega) (by omega) hmapl rfl (fun h => by cases h) (fun a ha j u hu => by injection ha with ha; subst ha; rw [qaddr]; exact hc.cell j u hu) hvs hone).mono ?_
        rintro e w' ⟨he, hw⟩
        have hge := grownCap_ge w (L.length + 1) cap (lyIns_ren.t 3)
        have hm := hgl (L.length + 1) (by omega) cap
        refine hdone (g := 0) (RowC.made hw ?_ hm (by simpa using hge) (fun j u hu => ?_)) (by rw [he]; congr 3; simp)
        · rw [Array.size_append, zero_cells]
          simp only [List.size_toArray, List.length_append, hmapl, List.length_singleton]
          omega
        · have hj : j < L.length + 1 := by
            rcases Nat.lt_or_ge j (L.length + 1) with h | h
            · exact h
            · rw [List.getElem?_eq_none (by simpa using h)] at hu; cases hu
          rw [Array.getElem?_append_left (by simpa using hj)]
          simpa using hu
end Go.Proofs.YtmmcjmejcngajaaGreatDoor

namespace Go.Proofs.YtmmcjmejcngajaaGreatDoor
open Go.RowKit Go.Shelf
set_option linter.unusedVariables false
variable {TB : TypeId} {Y : List Value}

def SrchP (n : Nat) (p : Nat → Bool) (w : World) (e : Ending) (w' : World) : Prop := (∃ k : Nat, k ≤ n ∧ e = .returned (.int .i64 k) ∧ (∀ t, t < k → p t = false) ∧ ∀ t, k ≤ t → t < n → p t = true) ∧ Below w.heap.size w w'
def SrchI (n : Nat) (p : Nat → Bool) (lo hi : Nat) : Prop := (∀ t, t < lo → p t = false) ∧ ∀ t, hi ≤ t → t < n → p t = true
set_option maxHeartbeats 4000000 in
theorem search_v (g : Nat) (cb : Array Value) (n : Nat) (p : Nat → Bool) (w : World) (eg : ∀ args w, (callFunc g args).run Tryz.prog w = .ok (.enter g args) w) (hsz : n ≤ 1000000)
    (hf : ∀ (W : World) (i : Nat), Below w.heap.size w W → i < n → Calls Tryz.prog g (#[.int .i64 i] ++ cb) W fun e w' => e = .returned (.bool (p i)) ∧ Below W.heap.size W w')
    (hmono : ∀ a b, a ≤ b → b < n → p a = true → p b = true) : Calls Tryz.prog 83 #[.int .i64 n, .func (.func g) #[] cb] w (SrchP n p w) := by
  have HF := Lib.hid hf
  have HM := Lib.hid hmono
  have hsz2 : (n : Int) ≤ 1000000 := by omega
  clear hf hmono
  go_enter Tryz.func83, Tryz.ntmps83
  go_wp2
  go_loopg [5, 6] n (fun kx s5 s6 wr => ∃ (lo hi : Nat), s5 = .int .i64 lo ∧ s6 = .int .i64 hi ∧ lo ≤ hi ∧ hi ≤ n ∧ hi - lo ≤ kx ∧ Hid (Below w.heap.size w wr) ∧ Hid (SrchI n p lo hi))
  case atStart => exact ⟨0, n, rfl, rfl, Nat.zero_le _, Nat.le_refl _, by omega, Lib.hid (Below.refl _ w), Lib.hid ⟨fun t ht => absurd ht (Nat.not_lt_zero _), fun t h1 h2 => by omega⟩⟩
  case round =>
    obtain ⟨lo, hi, rfl, rfl, hlh, hin, hg, HB, HI⟩ := hrel
    by_cases hlt : lo < hi
    · have hc := HF.out wr ((lo + hi) / 2) HB.out (by omega)
      rw [show (((lo + hi) / 2 : Nat) : Int) = ((lo : Int) + (hi : Int)) / 2 by omega] at hc
      cases hp : p ((lo + hi) / 2) <;> rw [hp] at hc
      · have HP := Lib.hid hp
        clear hp
        go_wp2_with (go_at_fn g; refine hc.mono ?_; rintro e w' ⟨rfl, hb'⟩; have HB' := Lib.hid (fbelow_t HB.out hb'); clear hb')
        go_roundg (hi - ((lo + hi) / 2 + 1))
        case measure => omega
        case rel =>
          have I2 : Hid (SrchI n p ((lo + hi) / 2 + 1) hi) := Lib.hid ⟨fun t ht => (by
            cases h : p t with
            | false => rfl
            | true => have := HM.out t ((lo + hi) / 2) (by omega) (by omega) h; rw [HP.out] at this; cases this), HI.out.2⟩
          exact ⟨(lo + hi) / 2 + 1, hi, by rw [show ((lo : Int) + (hi : Int)) / 2 + 1 = (((lo + hi) / 2 + 1 : Nat) : Int) by omega], rfl, by omega, hin, Nat.le_refl _, HB', I2⟩
      · have HP := Lib.hid hp
        clear hp
        go_wp2_with (go_at_fn g; refine hc.mono ?_; rintro e w' ⟨rfl, hb'⟩; have HB' := Lib.hid (fbelow_t HB.out hb'); clear hb')
        go_roundg ((lo + hi) / 2 - lo)
        case measure => omega
        case rel =>
          have I2 : Hid (SrchI n p lo ((lo + hi) / 2)) := Lib.hid ⟨HI.out.1, fun t ht htn => HM.out ((lo + hi) / 2) t ht htn HP.out⟩
          exact ⟨lo, (lo + hi) / 2, rfl, by rw [show ((lo : Int) + (hi : Int)) / 2 = (((lo + hi) / 2 : Nat) : Int) by omega], by omega, by omega, Nat.le_refl _, HB', I2⟩
    · obtain rfl : hi = lo := by omega
      go_wp2
      go_ret
      exact ⟨⟨hi, hin, rfl, HI.out.1, HI.out.2⟩, HB.out⟩
/-! ### the first free one -/
instance : Inhabited Pk := ⟨pk0⟩
theorem free_pred (w : World) : PredBelow Tryz.prog 66 #[] (fun x => .agg (mbC x).toArray) (fun x => decide (x.1 = 0)) w := fun W x hb => by
  show Calls Tryz.prog 66 #[.agg #[.int .i64 x.1, .int .i64 x.2.f.i, .int .i64 x.2.f.n, .int .i64 x.2.f.l, .string x.2.f.d, .int .i64 x.2.fr, .int .i64 x.2.tag, .bool x.2.lp]] W _
  go_enter Tryz.func66, Tryz.ntmps66
  go_wp2
  all_goals (go_ret; exact ⟨by simp_all; rfl, hb.alloc hb.size _⟩)
def lyIf_ren : Go.Shelf.Ren := ⟨fun | 6 => 65 | n => n, fun | 22 => 51 | 23 => 95 | 25 => 102 | 3 => 3 | 4 => 4 | 0 => 0 | n => n, fun | n => n⟩
theorem lyIf : Go.Proofs.SlLaysH0.n6 Tryz.prog lyIf_ren := {
  mixed := by kernel_rfl
  f6 := ⟨ "slices.IndexFunc[[]signalbox/box.mailbox,signalbox/box.mailbox]", by kernel_rfl, Tryz.func65.trans (congrArg some (by kernel_rfl))⟩
  t0 := Tryz.underlying0
  a0 := Tryz.isAgg0
  z0 := Tryz.sizeOf0
  v0 := Tryz.zeroValue0
  t3 := Tryz.underlying3
  a3 := Tryz.isAgg3
  z3 := Tryz.sizeOf3
  v3 := Tryz.zeroValue3
  t4 := Tryz.underlying4
  a4 := Tryz.isAgg4
  z4 := Tryz.sizeOf4
  v4 := Tryz.zeroValue4
  t22 := Tryz.underlying51
  a22 := Tryz.isAgg51
  z22 := Tryz.sizeOf51
  v22 := Tryz.zeroValue51
  t25 := Tryz.underlying102
  a25 := Tryz.isAgg102
  z25 := Tryz.sizeOf102
  v25 := Tryz.zeroValue102 }
theorem mail_enters : ∀ args w, (callFunc 66 args).run Tryz.prog w = .ok (.enter 66 args) w := enters_of Tryz.func66 (by kernel_rfl) rfl
theorem first_idx {M : List (Int × Pk)} {s : Bx} (hS : M.map (·.1) = s.S) : Lib.idxBy (fun _ y => decide (y.1 = 0)) M default = match s.first s.S.length with | some i => (i : Int) | none => -1 := by
  have hl : s.S.length = M.length := by rw [← hS]; simp
  have hg : ∀ j, j < M.length → (M[j]!).1 = s.S.getD j 0 := fun j hj => by
    rw [getElem!_pos M j hj, ← hS, List.getD_eq_getElem?_getD, List.getElem?_map, List.getElem?_eq_getElem hj]; rfl
  have hm := Lib.idxBy_miss (fun (_ : Int × Pk) y => decide (y.1 = 0)) M M.length default
  have hh := fun k hk => Lib.idxBy_hit (fun (_ : Int × Pk) y => decide (y.1 = 0)) M M.length k default hk (Nat.le_refl _)
  rw [List.take_length] at hm
  simp only [List.take_length] at hh
  by_cases h : ∃ i, i < s.S.length ∧ s.S.getD i 0 = 0
  · have h2 : ∃ i, (i < s.S.length ∧ s.S.getD i 0 = 0) ∧ ∀ j, j < i → s.S.getD j 0 ≠ 0 := by
      obtain ⟨i, hi⟩ := h
      induction i using Nat.strongRecOn with
      | ind i ih =>
        by_cases hx : ∃ j, j < i ∧ s.S.getD j 0 = 0
        · obtain ⟨j, hj1, hj2⟩ := hx
          exact ih j hj1 ⟨by omega, hj2⟩
        · exact ⟨i, hi, fun j hj e => hx ⟨j, hj, e⟩⟩
    obtain ⟨i, ⟨h3, h4⟩, h5⟩ := h2
    rw [Bx.first_spec h3 h4 h5]
    exact hh i (by omega) (by rw [hg i (by omega)]; simpa using h4) (fun j hj => by rw [hg j (by omega)]; simpa using h5 j hj)
  · rw [Bx.first_none (fun j hj e => h ⟨j, hj, e⟩)]
    exact hm (fun j hj => by rw [hg j hj]; simpa using fun e => h ⟨j, by omega, e⟩)
theorem indexfunc_v {w : World} {b g : Nat} {vt ve : Value} {M : List (Int × Pk)} {T E : List Int} {s : Bx} {r : Int} (h : BmM TB Y w b g vt ve M T E) (hS : M.map (·.1) = s.S) (hl : M.length ≤ 1000) (hr : (match s.first s.S.length with | some i => (i : Int) | none => -1) = r) :
    Calls Tryz.prog 65 #[.slice (some ⟨g, 0, none⟩) M.length M.length, .func (.func 66) #[] #[]] w fun e w' => e = .returned (.int .i64 r) ∧ Below w.heap.size w w' := by
  have h0 := AnyQ.slices_IndexFunc lyIf 8 Tryz.isAgg95 Tryz.sizeOf95 mbC mbC_len (fun x => decide (x.1 = 0)) 66 #[] mail_enters g 0 M.length M.length M w (free_pred w) (Nat.le_refl _) (by omega) (heap_some_lt h.row) (fun j hj i v hi => by
    rw [Lib.cell_of_heap h.row]
    simpa using rowG_get mbC_len M j _ (by rw [getElem!_pos M j hj]; exact List.getElem?_eq_getElem hj) i v hi)
  rw [List.take_length, first_idx hS, hr] at h0
  exact h0
end Go.Proofs.YtmmcjmejcngajaaGreatDoor

namespace Go.Proofs.YtmmcjmejcngajaaGreatDoor
open Go.RowKit Go.Shelf
set_option linter.unusedVariables false
variable {TB : TypeId} {Y : List Value}

/-- who has a key has flags of few bits -/
theorem key_fl {i n l : Int} {sz : Nat} (h : 0 ≤ keyV i n l sz) : -9223372036854775808 ≤ n ∧ n ≤ 9223372036854775807 := by
  unfold keyV at h
  split at h
  · rename_i h1
    simp only [okF, okFl, Bool.and_eq_true, decide_eq_true_eq] at h1
    omega
  · omega
set_option maxHeartbeats 4000000 in
theorem placeC_v {W : World} {b g fb pb : Nat} {vt ve : Value} {M : List (Int × Pk)} {T E : List Int} {f : Fr} {i y : Nat} {x : Int} {p : Pk} {q : Bool} (h : BmM TB Y W b g vt ve M T E) (hT : Tabs W) (hi : T[i]? = some (y : Int)) (hl : T.length ≤ 1000) (hy : M[y]? = some (x, p)) (hM : M.length ≤ 1000)
    (hf : BoxF W fb f.i f.n f.l f.d) (hb : Bx1 W pb (.pointer (some ⟨b, 0, none⟩)) 54) (hq : lessB (keyG f) (keyG p.f) = q) (hn : -9223372036854775808 ≤ f.n ∧ f.n ≤ 9223372036854775807) (hp : -9223372036854775808 ≤ p.f.n ∧ p.f.n ≤ 9223372036854775807) :
    Calls Tryz.prog 84 #[.int .i64 i, .pointer (some ⟨fb, 0, none⟩), .pointer (some ⟨pb, 0, none⟩)] W fun e w' => e = .returned (.bool q) ∧ Below W.heap.size W w' := by
  obtain ⟨hi1, hi2⟩ := List.getElem?_eq_some_iff.1 hi
  have hyl : y < M.length := (List.getElem?_eq_some_iff.1 hy).1
  obtain ⟨A, cap, hv, hxs⟩ : ∃ A cap, vt = .slice A T.length cap ∧ ∃ x, A = some x ∧ x.block < W.heap.size ∧ W.cell? (x.add i) = some (.int .i64 y) := by
    obtain ⟨x, cx, hv1, hxb, hcell⟩ := SlG.at_ (h.turn.sl inC_len (by unfold maxLen; omega)) hi1
    have a0 : W.cell? (x.add (i * 1)) = some (.int .i64 (T[i]'hi1)) := hcell 0 _ rfl
    rw [Nat.mul_one, hi2] at a0
    exact ⟨_, _, hv1, x, rfl, hxb, a0⟩
  subst hv
  obtain ⟨xa, rfl, hxb, hxc⟩ := hxs
  have a1 : ∀ m : Later W, m.w.cell? (xa.add i) = some (.int .i64 y) := fun m => (m.h.cell (by rw [addr_block]; exact hxb)).trans hxc
  obtain ⟨c0, c1, c2⟩ := h.cells
  obtain ⟨m0, m1, m2, m3, m4, m5, m6, m7⟩ := h.mail hy
  obtain ⟨d0, d1, d2, d3⟩ := hf.cells
  have e0 := hb.cell
  have z0 : b < W.heap.size := h.lt b (.inl rfl)
  have z1 : g < W.heap.size := h.lt g (.inr (.inl rfl))
  have z2 := hf.lt
  have z3 := hb.lt
  have l1 : (i : Int) < (T.length : Int) := by omega
  have l2 : (y : Int) < (M.length : Int) := by omega
  have l3 : (T.length : Int) ≤ 1000 := by omega
  have l4 : (M.length : Int) ≤ 1000 := by omega
  have hl := later_cells
  have HQ := Lib.hid hq
  have HT := Lib.hid hT
  have HN := Lib.hid hn
  have HP := Lib.hid hp
  clear h hf hb hq hT hi hi2 hy hxb hxc hn hp
  go_enter Tryz.func84, Tryz.ntmps84
  go_wp2_with fail
  refine wp_region_later (by kernel_rfl) (by kernel_rfl) ?_
  repeat (go_big_quiet_step (fail))
  go_big_quiet_step (exact Later.call (less_v rfl rfl HQ.out _ (Later.tabs _ HT.out) HN.out.1 HN.out.2 HP.out.1 HP.out.2))
  repeat (go_big_quiet_step (fail))
  refine wpQuiet_nil ?_
  rintro w1 ⟨m, rfl⟩
  go_wp2
  go_ret
  exact ⟨rfl, m.h⟩
/-- its place: behind all that it does not win over -/
def PlaceP (s : Bx) (k : Int) (w : World) (e : Ending) (w' : World) : Prop := (∃ n : Nat, n ≤ s.trn.length ∧ e = .returned (.int .i64 n) ∧ (∀ t, t < n → ¬ k < s.key (s.trn.getD t 0)) ∧ ∀ t, n ≤ t → t < s.trn.length → k < s.key (s.trn.getD t 0)) ∧ Below w.heap.size w w'
theorem placeC_ent : ∀ args w, (callFunc 84 args).run Tryz.prog w = .ok (.enter 84 args) w := enters_of Tryz.func84 (by kernel_rfl) rfl
set_option maxHeartbeats 4000000 in
theorem place_v {w : World} {b g : Nat} {vt ve : Value} {M : List (Int × Pk)} {s : Bx} {f : Fr} (h : BmM TB Y w b g vt ve M s.trn s.fin) (hs : BmS M s) (ok : s.Ok) (hT : Tabs w) (h0 : 0 ≤ keyG f) :
    Calls Tryz.prog 68 #[.pointer (some ⟨b, 0, none⟩), .agg #[.int .i64 f.i, .int .i64 f.n, .int .i64 f.l, .string f.d]] w (PlaceP s (keyG f) w) := by
  obtain ⟨w2, e2⟩ : ∃ w2, (w.alloc (.cells #[.pointer (some ⟨b, 0, none⟩)] 54)).alloc (.cells #[.int .i64 f.i, .int .i64 f.n, .int .i64 f.l, .string f.d] 33) = w2 := ⟨_, rfl⟩
  obtain ⟨w1, e1⟩ : ∃ w1, w.alloc (.cells #[.pointer (some ⟨b, 0, none⟩)] 54) = w1 := ⟨_, rfl⟩
  have s1 : w1.heap.size = w.heap.size + 1 := by rw [← e1]; simp
  have hb1 : Below w.heap.size w w1 := by rw [← e1]; exact (Below.refl _ w).alloc (Nat.le_refl _) _
  have hb2 : Below w1.heap.size w1 w2 := by rw [← e2, e1]; exact (Below.refl _ w1).alloc (Nat.le_refl _) _
  have hx : Bx1 w2 w.heap.size (.pointer (some ⟨b, 0, none⟩)) 54 := (by rw [← e1]; exact Bx1.made _ _ _ rfl : Bx1 w1 w.heap.size (.pointer (some ⟨b, 0, none⟩)) 54).later hb2
  have hf : BoxF w2 (w.heap.size + 1) f.i f.n f.l f.d := by rw [← e2, e1, ← s1]; exact BoxF.made _ _ _ _ _
  have hw : Below w.heap.size w w2 := fbelow_t hb1 hb2
  have hm := h.later hw
  have HT := Lib.hid (hT.below hw)
  have hTl : s.trn.length ≤ 1000 := by rw [s.trn_len]; exact ok.ordLe
  obtain ⟨A, cap, hv⟩ := hm.turn.shape
  subst hv
  obtain ⟨c0, c1, c2⟩ := hm.cells
  have x0 := hx.cell
  have HS := Lib.hid (search_v 84 #[.pointer (some ⟨w.heap.size + 1, 0, none⟩), .pointer (some ⟨w.heap.size, 0, none⟩)] s.trn.length (fun t => decide (keyG f < s.key (s.trn.getD t 0))) w2 placeC_ent (by omega) (fun W i hW hi => by
    obtain ⟨k1, k2, k3⟩ := ok.trnOk _ (List.getElem_mem hi)
    have hk4 := ok.key _ (mem_turnK.1 (List.getElem_mem hi))
    have hgd : s.trn.getD i 0 = s.trn[i]'hi := by rw [List.getD_eq_getElem?_getD, List.getElem?_eq_getElem hi]; rfl
    obtain ⟨y, hy⟩ : ∃ y : Nat, (s.trn[i]'hi) = (y : Int) := ⟨(s.trn[i]'hi).toNat, by omega⟩
    rw [hy] at k2 hgd hk4
    have hmy := hs.at_ (i := y) (by omega)
    have hkey : s.key (y : Int) = keyG (s.P.getD y pk0).f := by unfold Bx.key; rw [Int.toNat_natCast]
    rw [hkey] at hk4
    refine (placeC_v (W := W) (f := f) (i := i) (y := y) (q := decide (keyG f < s.key (s.trn.getD i 0))) (hm.later hW) (HT.out.below hW) (by rw [List.getElem?_eq_getElem hi, hy]) hTl hmy (by rw [hs.len]; exact ok.n2) (hf.later hW) (hx.later hW) ?_ (key_fl h0) (key_fl hk4))
    rw [hgd, hkey]
    unfold lessB
    rw [decide_eq_true h0]; rfl) (fun a b' hab hb' ha => by
    simp only [decide_eq_true_eq] at ha ⊢
    exact Bx.trn_mono hab hb' ha))
  have HW := Lib.hid hw
  have htl2 : (s.trn.length : Int) ≤ 1000 := by omega
  clear h hs ok hT h0 hm hf hx hb1 hb2 hw
  subst e1
  go_enter Tryz.func68, Tryz.ntmps68
  go_wp2_with fail
  refine HS.out.mono ?_
  rintro e w' ⟨⟨n, k1, rfl, k2, k3⟩, hb'⟩
  have K2 := Lib.hid k2
  have K3 := Lib.hid k3
  clear k2 k3
  go_wp2
  go_ret
  exact ⟨⟨n, k1, rfl, fun t ht => by simpa using K2.out t ht, fun t h1 h2 => by simpa using K3.out t h1 h2⟩, fbelow_t HW.out hb'⟩
end Go.Proofs.YtmmcjmejcngajaaGreatDoor
