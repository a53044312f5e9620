/- Of no program: a row in a block of its own, from any place of it on (x[1:] of it too), whose spare places can be written: read, cut at its head, appended to; as an object. Bus, the document's side: what a bus is in memory; Fix. Bus, the document's side: New. Bus, the document's side: what is stored into a bus: a row that waits, the log, a node. Bus, the document's side: Offer. Bus, plain: what a slot makes of a bus; what may be of a bus. No program is meant. Of no program: a call that makes new memory, in a region that draws, whose answer is hidden. -/
import Derived.Test.YtmmcjmejcngajaaGreatDoorZah
import Derived.Deep.AppendSrc
import Derived.Laws.IdiomCopy
import Derived.Deep.RegionLaw
import Derived.Test.YtmmcjmejcngajaaGreatDoorZag
import Derived.Deep.RegionWith
import Derived.Test.YtmmcjmejcngajaaGreatDoorZae
namespace Go.Proofs.YtmmcjmejcngajaaGreatDoor
open Go.RowKit
set_option linter.unusedVariables false

section
variable {α : Type} {c : α → List Value} {k bytes : Nat} {T E : TypeId} {P : Program} {w w' : World} {v : Value} {L M : List α}
def RowQ (c : α → List Value) (k : Nat) (w : World) (v : Value) (L : List α) : Prop :=
  (v = .slice none 0 0 ∧ L = []) ∨ ∃ g o cap, v = .slice (some ⟨g, o, none⟩) L.length cap ∧ L.length ≤ cap ∧ cap ≤ maxLen ∧ g < w.heap.size ∧
    (∀ j u, (rowG c L)[j]? = some u → w.cell? ⟨g, o + j, none⟩ = some u) ∧ ∀ j, j < cap * k → (w.cell? ⟨g, o + j, none⟩).isSome = true ∧ w.frozen? ⟨g, o + j, none⟩ = false
theorem RowQ.nil (w : World) : RowQ c k w (.slice none 0 0) [] := .inl ⟨rfl, rfl⟩
theorem RowQ.stay (h : RowQ c k w v L) (hs : ∀ g, OwnO v g → w'.heap[g]? = w.heap[g]?) (hz : w.heap.size ≤ w'.heap.size) : RowQ c k w' v L := by
  rcases h with h | ⟨g, o, cap, rfl, h1, h2, h3, h4, h5⟩
  · exact .inl h
  · have e := hs g rfl
    refine .inr ⟨g, o, cap, rfl, h1, h2, Nat.lt_of_lt_of_le h3 hz, fun j u hu => (World.cell?_of_block (w := w) (a := ⟨g, o + j, none⟩) e).trans (h4 j u hu), fun j hj => ⟨?_, (World.frozen?_of_block (w := w) (a := ⟨g, o + j, none⟩) e).trans (h5 j hj).2⟩⟩
    rw [World.cell?_of_block (w := w) (a := ⟨g, o + j, none⟩) e]
    exact (h5 j hj).1
theorem RowQ.stayL (h : RowQ c k w v L) (hs : ∀ g, OwnO v g → w'.heap[g]? = w.heap[g]?) (hz : ∀ g, OwnO v g → g < w'.heap.size) : RowQ c k w' v L := by
  rcases h with h | ⟨g, o, cap, rfl, h1, h2, h3, h4, h5⟩
  · exact .inl h
  · have e := hs g rfl
    refine .inr ⟨g, o, cap, rfl, h1, h2, hz g rfl, fun j u hu => (World.cell?_of_block (w := w) (a := ⟨g, o + j, none⟩) e).trans (h4 j u hu), fun j hj => ⟨?_, (World.frozen?_of_block (w := w) (a := ⟨g, o + j, none⟩) e).trans (h5 j hj).2⟩⟩
    rw [World.cell?_of_block (w := w) (a := ⟨g, o + j, none⟩) e]
    exact (h5 j hj).1
theorem RowQ.lt (h : RowQ c k w v L) : ∀ g, OwnO v g → g < w.heap.size := by
  rcases h with ⟨rfl, _⟩ | ⟨g, o, cap, rfl, h1, h2, h3, h4, h5⟩
  · intro g hg; cases hg
  · intro g' hg'
    injection hg' with e
    have e : g = g' := e
    subst e
    exact h3
theorem RowQ.later (h : RowQ c k w v L) (hb : Below w.heap.size w w') : RowQ c k w' v L := h.stay (fun g hg => hb.block g (h.lt g hg)) hb.size
theorem qaddr (g o j : Nat) : (⟨g, o, none⟩ : Addr).add j = ⟨g, o + j, none⟩ := by
  unfold Addr.add
  by_cases h0 : j = 0
  · subst h0; simp
  · rw [if_neg h0]
theorem RowQ.sl (h : RowQ c k w v L) (hk : ∀ a, (c a).length = k) (hm : L.length ≤ maxLen) : SlG c k w w.heap.size v L := by
  rcases h with ⟨rfl, rfl⟩ | ⟨g, o, cap, rfl, h1, h2, h3, h4, h5⟩
  · exact SlG.nil _ _ _ _
  · refine ⟨_, cap, rfl, hm, fun i a ha => ⟨_, rfl, h3, fun j u hu => ?_⟩⟩
    rw [qaddr]
    exact h4 _ u (rowG_get hk L i a ha j u hu)
/-- cut at its head -/
theorem RowQ.tail {a : α} {A : Option Addr} {n cap : Nat} (h : RowQ c k w (.slice A n cap) (a :: M)) (hk : ∀ a, (c a).length = k) : ∃ x, A = some x ∧ n = M.length + 1 ∧ M.length + 1 ≤ cap ∧ RowQ c k w (.slice (some (if cap = 1 then x else x.add k)) M.length (cap - 1)) M := by
  rcases h with ⟨_, h0⟩ | ⟨g, o, cap', hv, h1, h2, h3, h4, h5⟩
  · cases h0
  · injection hv with hA hn hcap
    subst hA; subst hcap
    simp only [List.length_cons] at hn h1
    refine ⟨_, rfl, hn, h1, ?_⟩
    have hrow : rowG c (a :: M) = c a ++ rowG c M := by simp [rowG]
    by_cases e : cap = 1
    · have : M = [] := List.eq_nil_of_length_eq_zero (by omega)
      subst this
      subst e
      exact .inr ⟨g, o, 0, rfl, Nat.le_refl _, Nat.zero_le _, h3, fun j u hu => by simp [rowG] at hu, fun j hj => by omega⟩
    · rw [if_neg e, qaddr]
      refine .inr ⟨g, o + k, cap - 1, rfl, by omega, by omega, h3, fun j u hu => ?_, fun j hj => ?_⟩
      · rw [Nat.add_assoc]
        refine h4 (k + j) u ?_
        rw [hrow, List.getElem?_append_right (by rw [hk]; omega), hk, Nat.add_sub_cancel_left]
        exact hu
      · rw [Nat.add_assoc]
        refine h5 (k + j) ?_
        obtain ⟨m, rfl⟩ : ∃ m, cap = m + 1 := ⟨cap - 1, by omega⟩
        rw [Nat.add_sub_cancel] at hj
        rw [Nat.add_mul]; omega
theorem RowQ.src {u : Value} (hr : RdA c k w u M) (hk : ∀ a, (c a).length = k) (hone : ∀ a, ∀ u ∈ c a, u.oneCell' = true) (ht : P.underlying T = some (.slice E)) : Src P k T u M.length (rowG c M) w := by
  obtain ⟨hsl, hsh⟩ := hr
  rcases hsh with rfl | ⟨p, cp, rfl, _⟩
  · obtain ⟨A, cap, hv, _, _⟩ := hsl
    injection hv with _ hl _
    obtain rfl : M = [] := List.eq_nil_of_length_eq_zero hl.symm
    exact Src.ofNil w ht 0
  · refine Src.ofSlice w ht p M.length cp (rowG c M) (rowG_length hk M) (fun j u hu => ?_) (fun u hu => ?_)
    · obtain ⟨i, r, b, h1, h2, rfl⟩ := rowG_cells' hk hu
      obtain ⟨A, cap, hv, _, hc⟩ := hsl
      injection hv with hA _ _
      subst hA
      obtain ⟨x', hx', _, hcell⟩ := hc i b h1
      injection hx' with hx'
      subst hx'
      exact hcell r u h2
    · obtain ⟨j, hj, rfl⟩ := List.getElem_of_mem hu
      obtain ⟨i, r, b, h1, h2, _⟩ := rowG_cells' hk (List.getElem?_eq_getElem hj)
      exact hone b _ (List.mem_of_getElem? h2)
theorem setCells_heap (w : World) (g o : Nat) (vs : List Value) {i : Nat} (hne : i ≠ g) : (w.setCells g o vs).heap[i]? = w.heap[i]? := by
  induction vs generalizing w o with
  | nil => rfl
  | cons v vs ih => rw [World.setCells, ih, Below.heap_setCell _ _ _ _ hne]
theorem setCells_size (w : World) (g o : Nat) (vs : List Value) : (w.setCells g o vs).heap.size = w.heap.size := by
  induction vs generalizing w o with
  | nil => rfl
  | cons v vs ih => rw [World.setCells, ih]; simp [World.setCell]
theorem setCells_rest (w : World) (g o : Nat) (vs : List Value) : (w.setCells g o vs).os = w.os ∧ (w.setCells g o vs).tape = w.tape ∧ (w.setCells g o vs).output = w.output := by
  induction vs generalizing w o with
  | nil => exact ⟨rfl, rfl, rfl⟩
  | cons v vs ih => exact ih _ _
theorem RowQ.run (hT : FlatE P T E k bytes) (hk : ∀ a, (c a).length = k) (h : RowQ c k w v L) {u : Value} (hs : Src P k T u M.length (rowG c M) w) (hsz : L.length + M.length ≤ 1000000) (ty : TypeId) :
    ∃ v' w', (Builtin.append_ #[T, T] ty #[v, u]).run P w = .ok v' w' ∧ RowQ c k w' v' (L ++ M) ∧ Kept (OwnO v) w w' ∧ Grows (OwnO v) w (OwnO v') := by
  obtain ⟨ht, i0, z, hi, hz, hz1, hz2, hz3, hk0, hby⟩ := hT
  have hs' : Src P i0.size T u M.length (rowG c M) w := by rw [hz1]; exact hs
  have grow : ∀ (A : Option Addr) (cap : Nat), v = .slice A L.length cap → (Builtin.firstCells i0.size L.length (.slice A L.length cap)).run P w.drew = .ok (rowG c L).toArray w.drew → cap < L.length + M.length →
      ∃ v' w', (Builtin.append_ #[T, T] ty #[v, u]).run P w = .ok v' w' ∧ RowQ c k w' v' (L ++ M) ∧ Kept (OwnO v) w w' ∧ Grows (OwnO v) w (OwnO v') := by
    intro A cap hv hold hlt
    subst hv
    have hby2 : (L.length + M.length) * bytes ≤ 1000000 * 100 := Nat.mul_le_mul hsz hby
    have hr := run_append_grow_src (P := P) w T T ty E i0 z ht hi hz A L.length cap (rowG c L) hold u M.length (rowG c M) hs' hlt (by omega) (growslice_fits (by omega) (by rw [hz2]; omega))
    have hge := grownCap_ge w (L.length + M.length) cap E
    generalize hC : grownCap w (L.length + M.length) cap E = C at hr hge
    have hCm : C ≤ maxLen := by rw [← hC]; exact grownCap_le_maxLen _ _ _ _ (by unfold maxLen; omega)
    have hl : ((rowG c L ++ rowG c M).toArray ++ Builtin.zeroCells z.cells (C - (L.length + M.length))).size = C * k := by
      rw [Array.size_append, size_zeroCells, hz3]
      simp only [List.size_toArray, List.length_append, rowG_length hk]
      rw [← Nat.add_mul, ← Nat.add_mul]
      congr 1
      omega
    refine ⟨_, _, hr, .inr ⟨w.heap.size, 0, C, by rw [List.length_append], by rw [List.length_append]; exact hge, hCm, by simp, fun j x hx => ?_, fun j hj => ⟨?_, ?_⟩⟩, ?_, ?_⟩
    · show (w.drew.alloc _).cell? ⟨w.drew.heap.size, 0 + j, none⟩ = _
      rw [Nat.zero_add, World.cell?_alloc_at _ _ _ _ rfl]
      rw [rowG_app] at hx
      have hj : j < (rowG c L ++ rowG c M).length := by
        rcases Nat.lt_or_ge j (rowG c L ++ rowG c M).length with h | h
        · exact h
        · rw [List.getElem?_eq_none h] at hx; cases hx
      rw [Array.getElem?_append_left (by simpa using hj)]
      simpa using hx
    · show ((w.drew.alloc _).cell? ⟨w.drew.heap.size, 0 + j, none⟩).isSome = true
      rw [Nat.zero_add, World.cell?_alloc_at _ _ _ _ rfl, Array.getElem?_eq_getElem (by rw [hl]; exact hj)]
      rfl
    · show (w.drew.alloc _).frozen? ⟨w.drew.heap.size, 0 + j, none⟩ = false
      unfold World.frozen?
      rw [heap_alloc_new]
      simp
    · exact .of_below ((Below.refl _ w).drew.alloc (Nat.le_refl _) _)
    · intro g hg
      injection hg with e
      exact .inr (by have e : w.heap.size = g := e; omega)
  rcases h with ⟨rfl, rfl⟩ | ⟨g, o, cap, rfl, h1, h2, h3, h4, h5⟩
  · by_cases hM : M = []
    · subst hM
      have hz0 : (Builtin.append_ #[T, T] ty #[.slice none 0 0, u]).run P w = .ok (.slice none 0 0) w := by
        have hc := hs'.cells
        have hl := hs'.len
        simp only [List.length_nil] at hc hl
        rcases hs'.kind with ⟨e', hk'⟩ | hk' <;> simp [Builtin.append_, run_underlying ht, sizeOf, typeInfo, hi, hl, hc]
      exact ⟨_, _, hz0, .inl ⟨rfl, rfl⟩, Kept.refl _ _, Grows.refl _ _⟩
    · exact grow none 0 rfl (run_firstCells_none w.drew i0.size 0 0 0) (by have := List.length_pos_iff.2 hM; simp; omega)
  · by_cases hroom : L.length + M.length ≤ cap
    · have hml : (rowG c M).length = M.length * k := rowG_length hk M
      have hll : (rowG c L).length = L.length * k := rowG_length hk L
      have hle : L.length * k + M.length * k ≤ cap * k := by rw [← Nat.add_mul]; exact Nat.mul_le_mul_right _ hroom
      have hr := run_append_room_src (P := P) w T T ty E i0 ht hi g o L.length cap u M.length (rowG c M) hs' hroom
        (fun j hj => by rw [hz1, Nat.add_assoc]; exact (h5 _ (by omega)).1) (fun j hj => by rw [hz1, Nat.add_assoc]; exact (h5 _ (by omega)).2)
      rw [hz1] at hr
      refine ⟨_, _, hr, .inr ⟨g, o, cap, by rw [List.length_append], by rw [List.length_append]; exact hroom, h2, by rw [setCells_size]; exact h3, fun j x hx => ?_, fun j hj => ⟨?_, ?_⟩⟩, ?_, Grows.refl _ _⟩
      · rw [rowG_app] at hx
        by_cases hj : j < (rowG c L).length
        · rw [List.getElem?_append_left hj] at hx
          rw [World.cell?_setCells_out g _ _ _ _ (fun _ _ => .inl (by simp only; omega))]
          exact h4 j x hx
        · rw [List.getElem?_append_right (by omega)] at hx
          have hj2 : j - (rowG c L).length < (rowG c M).length := by
            rcases Nat.lt_or_ge (j - (rowG c L).length) (rowG c M).length with h | h
            · exact h
            · rw [List.getElem?_eq_none h] at hx; cases hx
          have := World.cell?_setCells_in g (rowG c M) (o + L.length * k) w (fun j hj => by rw [Nat.add_assoc]; exact (h5 _ (by omega)).1) (j - (rowG c L).length) hj2
          rw [show o + L.length * k + (j - (rowG c L).length) = o + j by omega] at this
          rw [this, ← hx, List.getElem?_eq_getElem hj2]
      · have key : ∀ (vs : List Value) (q : Nat) (w : World) (x : Addr), (w.cell? x).isSome = true → ((w.setCells g q vs).cell? x).isSome = true := by
          intro vs
          induction vs with
          | nil => intro q w x h; exact h
          | cons b vs ih =>
            intro q w x h
            refine ih _ _ _ ?_
            by_cases e : (⟨g, q, none⟩ : Addr) = x
            · subst e; rw [World.cell?_setCell_same' _ _ _ h]; rfl
            · rw [World.cell?_setCell_other _ _ _ _ (by intro h; exact e (by first | exact h | exact h.symm))]; exact h
        exact key _ _ _ _ (h5 j hj).1
      · rw [World.frozen?_setCells]; exact (h5 j hj).2
      · obtain ⟨r1, r2, r3⟩ := setCells_rest w g (o + L.length * k) (rowG c M)
        exact ⟨r1, r2, r3, by rw [setCells_size]; exact Nat.le_refl _, fun i _ hn => setCells_heap _ _ _ _ (fun e => hn (by subst e; rfl))⟩
    · refine grow _ cap rfl ?_ (by omega)
      refine run_firstCells_some w.drew i0.size L.length ⟨g, o, none⟩ L.length cap (rowG c L) (by rw [hz1, rowG_length hk]) (fun j x hx => ?_)
      rw [qaddr]
      exact h4 j x hx
theorem wpList_qO {ops : Array Oper} {rest : List Oper} {o : Oper} {a : Act} {Q : Exit → Act → World → Prop} {W : World} (hT : FlatE P T E k bytes) (hk : ∀ a, (c a).length = k) (hone : ∀ a, ∀ u ∈ c a, u.oneCell' = true) (hgd : o.guard = none) (s x : Operand)
    (ho : o.op = .call { callee := .builtin .append, args := #[s, x], argTypes := #[T, T] }) {v u : Value} (hs : a.eval s = v) (hg : RowQ c k W v L)
    (hx : a.eval x = u) (hr : RdA c k W u M) (hsz : L.length + M.length ≤ 1000000)
    (h : ∀ v' w', RowQ c k w' v' (L ++ M) → Kept (OwnO v) W w' → Grows (OwnO v) W (OwnO v') → wpList P ops Q rest (a.put o.dst v') w') : wpList P ops Q (o :: rest) a W := by
  refine wpList_plain hgd fun K hK' => ?_
  obtain ⟨v', w', hrun, r1, r2, r3⟩ := hg.run hT hk (RowQ.src hr hk hone hT.1) hsz o.type
  unfold Oper.wp
  simp [execOp, ho, resolve, invoke, builtin, hs, hx, hrun, Result.andThen]
  exact hK' _ _ (h v' w' r1 r2 r3)
/-- as a step of a region that draws -/
theorem step_qO {ops : Array Oper} {o : Oper} {a : Act} {K : Act → World → Prop} {Q : Exit → Act → World → Prop} {W : World} {X : Prop} (hT : FlatE P T E k bytes) (hk : ∀ a, (c a).length = k) (hone : ∀ a, ∀ u ∈ c a, u.oneCell' = true) (hgd : o.guard = none) (s x : Operand)
    (ho : o.op = .call { callee := .builtin .append, args := #[s, x], argTypes := #[T, T] }) {v u : Value} (hs : a.eval s = v) (hg : RowQ c k W v L)
    (hx : a.eval x = u) (hr : RdA c k W u M) (hsz : L.length + M.length ≤ 1000000)
    (h : ∀ v' w', RowQ c k w' v' (L ++ M) → Kept (OwnO v) W w' → Grows (OwnO v) W (OwnO v') → K (a.put o.dst v') w') : if Region.wanted o (yielded ops a.tmps) = true then Oper.wp P o a W K Q else X := by
  have hw : Region.wanted o (yielded ops a.tmps) = true := by unfold Region.wanted; rw [hgd]
  rw [if_pos hw]
  obtain ⟨v', w', hrun, r1, r2, r3⟩ := hg.run hT hk (RowQ.src hr hk hone hT.1) hsz o.type
  unfold Oper.wp
  simp [execOp, ho, resolve, invoke, builtin, hs, hx, hrun, Result.andThen]
  exact h v' w' r1 r2 r3
end
end Go.Proofs.YtmmcjmejcngajaaGreatDoor

namespace Go.Proofs.YtmmcjmejcngajaaGreatDoor
open Go.RowKit
set_option linter.unusedVariables false

/-- an entry of the log -/
structure Lg where
  f : Fr
  n : Int
  s : Int
def lgC (e : Lg) : List Value := [.int .i64 e.f.i, .int .i64 e.f.n, .int .i64 e.f.l, .string e.f.d, .int .i64 e.n, .int .i64 e.s]
theorem lgC_len (e : Lg) : (lgC e).length = 6 := rfl
def cfC (c : Cf) : List Value := [.int .i64 c.t, .int .i64 c.r, .bool c.o, .int .i64 c.d]
theorem cfC_len (c : Cf) : (cfC c).length = 4 := rfl
/-- a bus -/
structure Bs where
  N : List Cf
  W : List (List Fr)
  back : Int
  fx : Bool
  sl : Int
  log : List Lg
def busO (b gn gw : Nat) (ws : List Value) (vl : Value) : Nat → Prop := fun k => k = b ∨ k = gn ∨ k = gw ∨ (∃ (i : Nat) (u : Value), ws[i]? = some u ∧ OwnO u k) ∨ OwnO vl k
theorem heap_some_lt {w : World} {k : Nat} {o : Obj} (h : w.heap[k]? = some o) : k < w.heap.size := (Array.getElem?_eq_some_iff.1 h).1
/-! ### Fix -/
def Bs.fix (s : Bs) : Bs := { s with fx := s.fx || (s.N.getD 0 ⟨0, 0, false, 0⟩).o }
end Go.Proofs.YtmmcjmejcngajaaGreatDoor

namespace Go.Proofs.YtmmcjmejcngajaaGreatDoor
open Go.RowKit
set_option linter.unusedVariables false


def bsNew (n : Nat) (back : Int) : Bs := ⟨List.replicate n cf0, List.replicate n [], back, false, 0, []⟩
def nodesN (n : Int) : Nat := if n < 1 then 1 else if 32 < n then 32 else n.toNat
theorem made_rep (z : Array Value) (n : Nat) (hz : 0 < z.size) : madeCells z (n * z.size) = ((List.replicate n z.toList).flatten).toArray := by
  apply Array.ext'
  rw [List.toList_toArray]
  apply List.ext_getElem?
  intro i
  unfold madeCells
  simp only [Array.toList_map, Array.toList_range, List.getElem?_map]
  have hl : ∀ n, ((List.replicate n z.toList).flatten).length = n * z.size := by
    intro n
    induction n with
    | zero => simp
    | succ n ih => rw [List.replicate_succ, List.flatten_cons, List.length_append, ih, Nat.add_mul]; simp; omega
  have hg : ∀ n i, i < n * z.size → ((List.replicate n z.toList).flatten)[i]? = z[i % z.size]? := by
    intro n
    induction n with
    | zero => intro i hi; omega
    | succ n ih =>
      intro i hi
      rw [List.replicate_succ, List.flatten_cons]
      by_cases h : i < z.size
      · rw [List.getElem?_append_left (by simpa using h), Nat.mod_eq_of_lt h]; simp
      · rw [List.getElem?_append_right (by simp; omega)]
        rw [Nat.add_mul] at hi
        have := ih (i - z.size) (by omega)
        simp only [Array.length_toList]
        rw [this, Nat.mod_eq_sub_mod (show i ≥ z.size by omega)]
  by_cases hi : i < n * z.size
  · rw [hg n i hi, List.getElem?_range hi]
    have hm : i % z.size < z.size := Nat.mod_lt _ hz
    simp [hm]
  · rw [List.getElem?_eq_none (by simp; omega), List.getElem?_eq_none (by rw [hl]; omega)]; rfl
theorem info_fs : (Tryz.prog.info? 41).map (fun i => (i.zero, i.size, i.bytes)) = some (some (.slice none 0 0), 1, 24) := by kernel_rfl
theorem rep_conf (n : Nat) : madeCells (Value.agg #[.int .i64 0, .int .i64 0, .bool false, .int .i64 0]).cells (n * 4) = (rowG cfC (List.replicate n cf0)).toArray := by
  have h := made_rep #[.int .i64 0, .int .i64 0, .bool false, .int .i64 0] n (by decide)
  have e : (Value.agg #[.int .i64 0, .int .i64 0, .bool false, .int .i64 0]).cells = #[.int .i64 0, .int .i64 0, .bool false, .int .i64 0] := by kernel_rfl
  rw [e]
  refine Eq.trans h ?_
  congr 1
  unfold rowG
  rw [List.flatMap_def, List.map_replicate]
  rfl
theorem rep_fs (n : Nat) : madeCells (Value.slice none 0 0).cells (n * 1) = (List.replicate n (Value.slice none 0 0)).toArray := by
  have h := made_rep #[Value.slice none 0 0] n (by decide)
  refine Eq.trans h ?_
  congr 1
  clear h
  induction n with
  | zero => rfl
  | succ n ih => rw [List.replicate_succ, List.flatten_cons, ih, List.replicate_succ]; rfl
theorem three_blocks (w : World) (A B C : Obj) : (((w.alloc A).alloc B).alloc C).drew.heap[w.heap.size]? = some A ∧ (((w.alloc A).alloc B).alloc C).drew.heap[w.heap.size + 1]? = some B ∧ (((w.alloc A).alloc B).alloc C).drew.heap[w.heap.size + 1 + 1]? = some C ∧ Below w.heap.size w (((w.alloc A).alloc B).alloc C).drew := by
  have s1 : (w.alloc A).heap.size = w.heap.size + 1 := by simp
  have s2 : ((w.alloc A).alloc B).heap.size = w.heap.size + 1 + 1 := by simp
  have n1 := heap_alloc_new w A
  have n2 := heap_alloc_new (w.alloc A) B
  have n3 := heap_alloc_new ((w.alloc A).alloc B) C
  rw [s1] at n2
  rw [s2] at n3
  refine ⟨?_, ?_, n3, ?_⟩
  · show (((w.alloc A).alloc B).alloc C).heap[w.heap.size]? = _
    rw [Below.heap_alloc _ _ _ (by omega), Below.heap_alloc _ _ _ (by omega)]
    exact n1
  · show (((w.alloc A).alloc B).alloc C).heap[w.heap.size + 1]? = _
    rw [Below.heap_alloc _ _ _ (by omega)]
    exact n2
  · exact ((((Below.refl _ w).alloc (Nat.le_refl _) A).alloc (by omega) B).alloc (by omega) C).drew
end Go.Proofs.YtmmcjmejcngajaaGreatDoor

namespace Go.Proofs.YtmmcjmejcngajaaGreatDoor
open Go.RowKit
set_option linter.unusedVariables false

theorem busO_set {w : World} {b gn gw : Nat} {ws : List Value} {vl : Value} {i : Nat} {u v' : Value} (hu : ws[i]? = some u) (hg : Grows (OwnO u) w (OwnO v')) : Grows (busO b gn gw ws vl) w (busO b gn gw (ws.set i v') vl) := by
  rintro k (h | h | h | ⟨j, x, hx, hk⟩ | h)
  · exact .inl (.inl h)
  · exact .inl (.inr (.inl h))
  · exact .inl (.inr (.inr (.inl h)))
  · rw [List.getElem?_set] at hx
    split at hx
    · split at hx
      · injection hx with hx
        subst hx
        rcases hg k hk with h1 | h1
        · exact .inl (.inr (.inr (.inr (.inl ⟨i, u, hu, h1⟩))))
        · exact .inr h1
      · cases hx
    · exact .inl (.inr (.inr (.inr (.inl ⟨j, x, hx, hk⟩))))
  · exact .inl (.inr (.inr (.inr (.inr h))))
/-- a node's four cells are stored -/
def putN (w : World) (g i : Nat) (c : Cf) : World := (((w.setCell ⟨g, i * 4, none⟩ (.int .i64 c.t)).setCell ⟨g, i * 4 + 1, none⟩ (.int .i64 c.r)).setCell ⟨g, i * 4 + 2, none⟩ (.bool c.o)).setCell ⟨g, i * 4 + 3, none⟩ (.int .i64 c.d)
theorem rowG_setC (c : Cf) : ∀ (N : List Cf) (i : Nat), i < N.length → ((((rowG cfC N).set (i * 4) (.int .i64 c.t)).set (i * 4 + 1) (.int .i64 c.r)).set (i * 4 + 2) (.bool c.o)).set (i * 4 + 3) (.int .i64 c.d) = rowG cfC (N.set i c)
  | [], i, h => by cases h
  | a :: N, 0, h => rfl
  | a :: N, i + 1, h => by
    have ih := rowG_setC c N i (by simpa using h)
    have e : rowG cfC (a :: N) = cfC a ++ rowG cfC N := by simp [rowG]
    have e2 : rowG cfC ((a :: N).set (i + 1) c) = cfC a ++ rowG cfC (N.set i c) := by simp [rowG]
    rw [e, e2, ← ih]
    have l : (cfC a).length = 4 := rfl
    rw [List.set_append_right _ _ (by rw [l]; omega), List.set_append_right _ _ (by rw [l]; omega), List.set_append_right _ _ (by rw [l]; omega), List.set_append_right _ _ (by rw [l]; omega), l]
    congr 1
    rw [show (i + 1) * 4 - 4 = i * 4 by omega, show (i + 1) * 4 + 1 - 4 = i * 4 + 1 by omega, show (i + 1) * 4 + 2 - 4 = i * 4 + 2 by omega, show (i + 1) * 4 + 3 - 4 = i * 4 + 3 by omega]
theorem putN_other {w : World} {g i k : Nat} {c : Cf} (h : k ≠ g) : (putN w g i c).heap[k]? = w.heap[k]? := by
  unfold putN
  rw [Below.heap_setCell _ _ _ _ h, Below.heap_setCell _ _ _ _ h, Below.heap_setCell _ _ _ _ h, Below.heap_setCell _ _ _ _ h]
theorem putN_size (w : World) (g i : Nat) (c : Cf) : (putN w g i c).heap.size = w.heap.size := by unfold putN; simp [World.setCell]
theorem putN_kept {w : World} {b gn gw i : Nat} {ws : List Value} {vl : Value} {c : Cf} : Kept (busO b gn gw ws vl) w (putN w gn i c) :=
  ⟨rfl, rfl, rfl, by rw [putN_size]; exact Nat.le_refl _, fun k _ h => putN_other (fun e => h (.inr (.inl e)))⟩
end Go.Proofs.YtmmcjmejcngajaaGreatDoor

namespace Go.Proofs.YtmmcjmejcngajaaGreatDoor
open Go.RowKit
set_option linter.unusedVariables false

/-- (behind a name: the walk would take it apart) -/
def NthV (ws : List Value) (j : Nat) (u : Value) : Prop := ws[j]? = some u
def keyG (f : Fr) : Int := keyV f.i f.n f.l f.d.size
theorem info_fr2 : (Tryz.prog.info? 33).map (fun i => (i.zero, i.size, i.bytes)) = some (some (.agg #[.int .i64 0, .int .i64 0, .int .i64 0, .string (ByteArray.mk #[])]), 4, 40) := by kernel_rfl
theorem flat_fr : FlatE Tryz.prog 41 33 4 40 := by
  obtain ⟨i0, hi, hz0, hz1, hz2⟩ := info_parts info_fr2
  exact ⟨Tryz.underlying41, i0, _, hi, hz0, hz1, hz2, rfl, by decide, by decide⟩
theorem frC_one : ∀ f : Fr, ∀ u ∈ frC f, u.oneCell' = true := fun f u hu => by
  simp only [frC, List.mem_cons, List.not_mem_nil, or_false] at hu
  rcases hu with rfl | rfl | rfl | rfl <;> rfl
theorem RowQ.form {α : Type} {c : α → List Value} {k : Nat} {w : World} {v : Value} {L : List α} {a : α} (h : RowQ c k w v (L ++ [a])) : ∃ g o cap, v = .slice (some ⟨g, o, none⟩) (L.length + 1) cap := by
  rcases h with ⟨_, h⟩ | ⟨g, o, cap, hv, _⟩
  · simp at h
  · exact ⟨g, o, cap, by rw [hv]; simp⟩
theorem RowQ.shape {α : Type} {c : α → List Value} {k : Nat} {w : World} {v : Value} {L : List α} (h : RowQ c k w v L) : ∃ A cap, v = .slice A L.length cap := by
  rcases h with ⟨rfl, rfl⟩ | ⟨g, o, cap, hv, _⟩
  · exact ⟨none, 0, rfl⟩
  · exact ⟨_, cap, hv⟩
def Bs.offer (s : Bs) (i : Int) (f : Fr) : Bs × Int :=
  if i < 1 ∨ (s.N.length : Int) ≤ i then (s, 2) else if keyG f < 0 then (s, 4) else if 1000 ≤ (s.W.getD i.toNat []).length then (s, 9)
  else ({ s with W := s.W.set i.toNat (s.W.getD i.toNat [] ++ [f]) }, 0)
end Go.Proofs.YtmmcjmejcngajaaGreatDoor

namespace Go.Proofs.YtmmcjmejcngajaaGreatDoor
open Go.RowKit
set_option linter.unusedVariables false

def frz : Fr := ⟨0, 0, 0, ByteArray.mk #[]⟩
def Bs.off (s : Bs) (i : Nat) : Bool := (s.N.getD i cf0).o
/-- does the node offer a frame? -/
def Bs.has (s : Bs) (own : Fr) (has : Bool) (i : Nat) : Bool := if i = 0 then has && decide (0 ≤ keyG own) else !(s.W.getD i []).isEmpty
/-- which one -/
def Bs.x (s : Bs) (own : Fr) (i : Nat) : Fr := if i = 0 then own else (s.W.getD i []).headD own
/-- behind so many nodes: who is the first, and with what -/
def Bs.best (s : Bs) (own : Fr) (has : Bool) : Nat → Int × Fr
  | 0 => (-1, frz)
  | i + 1 => if s.has own has i && (!s.off i && (decide ((s.best own has i).1 < 0) || decide (keyG (s.x own i) < keyG (s.best own has i).2))) then ((i : Int), s.x own i) else s.best own has i
theorem best_rng (s : Bs) (own : Fr) (has : Bool) : ∀ i, -1 ≤ (s.best own has i).1 ∧ (s.best own has i).1 < i
  | 0 => by unfold Bs.best; decide
  | i + 1 => by
    have := best_rng s own has i
    unfold Bs.best
    split
    · simp only; omega
    · omega

theorem Bs.at_zero (s : Bs) (own : Fr) (has : Bool) : s.has own has 0 = (has && decide (0 ≤ keyG own)) ∧ s.x own 0 = own := ⟨rfl, rfl⟩
theorem Bs.at_nil {s : Bs} {k : Nat} (own : Fr) (has : Bool) (hk : ¬ k = 0) (h : s.W.getD k [] = []) : s.has own has k = false ∧ s.x own k = own := by
  unfold Bs.has Bs.x
  rw [if_neg hk, if_neg hk, h]; exact ⟨rfl, rfl⟩
theorem Bs.at_cons {s : Bs} {k : Nat} {f : Fr} {M : List Fr} (own : Fr) (has : Bool) (hk : ¬ k = 0) (h : s.W.getD k [] = f :: M) : s.has own has k = true ∧ s.x own k = f := by
  unfold Bs.has Bs.x
  rw [if_neg hk, if_neg hk, h]; exact ⟨rfl, rfl⟩

/-- who is the first has a frame to send -/
theorem best_has (s : Bs) (own : Fr) (has : Bool) (m : Nat) : ∀ i, (s.best own has i).1 = (m : Int) → s.has own has m = true ∧ (s.best own has i).2 = s.x own m ∧ s.off m = false ∧ m < i
  | 0, h => by unfold Bs.best at h; simp only at h; omega
  | i + 1, h => by
    unfold Bs.best at h ⊢
    split at h
    · rename_i hc
      simp only at h
      obtain rfl : i = m := by omega
      rw [if_pos hc]
      simp only [Bool.and_eq_true, Bool.not_eq_true'] at hc
      exact ⟨hc.1, rfl, hc.2.1, by omega⟩
    · rename_i hc
      rw [if_neg hc]
      obtain ⟨h1, h2, h3, h4⟩ := best_has s own has m i h
      exact ⟨h1, h2, h3, by omega⟩

/-! ### the first k of a row turned -/
def turnN {α : Type} (g : Nat → α → α) : List α → Nat → List α
  | [], _ => []
  | N, 0 => N
  | c :: N, k + 1 => g 0 c :: turnN (fun i => g (i + 1)) N k
theorem turnN_zero {α : Type} (g : Nat → α → α) (N : List α) : turnN g N 0 = N := by cases N <;> rfl
theorem turnN_len {α : Type} : ∀ (N : List α) (g : Nat → α → α) (k : Nat), (turnN g N k).length = N.length
  | [], g, k => by cases k <;> rfl
  | c :: N, g, 0 => rfl
  | c :: N, g, k + 1 => by unfold turnN; simp [turnN_len N]
theorem turnN_get {α : Type} : ∀ (N : List α) (g : Nat → α → α) (k i : Nat), (turnN g N k)[i]? = if i < k then (N[i]?).map (g i) else N[i]?
  | [], g, k, i => by cases k <;> simp [turnN]
  | c :: N, g, 0, i => by simp [turnN]
  | c :: N, g, k + 1, 0 => by simp [turnN]
  | c :: N, g, k + 1, i + 1 => by
    unfold turnN
    simp only [List.getElem?_cons_succ]
    rw [turnN_get N _ k i]
    simp
theorem turnN_set {α : Type} (N : List α) (g : Nat → α → α) (k : Nat) (h : k < N.length) : (turnN g N k).set k (g k N[k]) = turnN g N (k + 1) := by
  apply List.ext_getElem?
  intro i
  rw [List.getElem?_set, turnN_get, turnN_get, turnN_len]
  by_cases e : k = i
  · subst e
    rw [if_pos rfl, if_pos h, if_pos (Nat.lt_succ_self k), List.getElem?_eq_getElem h]; rfl
  · rw [if_neg e]
    by_cases h1 : i < k
    · rw [if_pos h1, if_pos (by omega)]
    · rw [if_neg h1, if_neg (by omega)]
theorem turnN_same {α : Type} (N : List α) (g : Nat → α → α) (k : Nat) (h : k < N.length) (he : g k N[k] = N[k]) : turnN g N k = turnN g N (k + 1) := by
  rw [← turnN_set N g k h, he]
  apply List.ext_getElem?
  intro i
  rw [List.getElem?_set, turnN_len]
  by_cases e : k = i
  · subst e
    rw [if_pos rfl, if_pos h, turnN_get, if_neg (by omega), List.getElem?_eq_getElem h]
  · rw [if_neg e]
theorem turnN_at {α : Type} (N : List α) (g : Nat → α → α) (k : Nat) (h : k < N.length) : (turnN g N k)[k]'(by rw [turnN_len]; exact h) = N[k] := by
  have := turnN_get N g k k
  rw [if_neg (by omega), List.getElem?_eq_getElem (by rw [turnN_len]; exact h), List.getElem?_eq_getElem h] at this
  exact Option.some.inj this

/-! ### a slot -/
/-- who was off is one slot nearer to being back, node 0 only behind a Fix -/
def Bs.gIdle (s : Bs) (i : Nat) (c : Cf) : Cf := if s.off i && (decide (0 < i) || s.fx) then c.do_ 4 s.back else c
/-- those that were not off have sent, failed, heard or missed -/
def Bs.gSent (s : Bs) (bad : Bool) (best : Int) (i : Nat) (c : Cf) : Cf := if s.off i then c else c.do_ (if (i : Int) = best then (if bad then 2 else 0) else if bad then 3 else 1) s.back
def Bs.N1 (s : Bs) : List Cf := turnN s.gIdle s.N s.N.length
def Bs.fx1 (s : Bs) : Bool := s.fx && (s.N1.getD 0 cf0).o
def Bs.N2 (s : Bs) (bad : Bool) (best : Int) : List Cf := turnN (s.gSent bad best) s.N1 s.N.length
/-- a slot: the bus behind it, and the event -/
def Bs.slot (s : Bs) (own : Fr) (has bad : Bool) : Bs × Int × Int × Fr :=
  if (s.best own has s.N.length).1 < 0 then ({ s with N := s.N1, fx := s.fx1, sl := s.sl + 1 }, 0, 0, frz)
  else if bad then ({ s with N := s.N2 true (s.best own has s.N.length).1, fx := s.fx1, sl := s.sl + 1 }, 2, (s.best own has s.N.length).1, (s.best own has s.N.length).2)
  else ({ s with N := s.N2 false (s.best own has s.N.length).1, fx := s.fx1, sl := s.sl + 1,
                 log := s.log ++ [⟨(s.best own has s.N.length).2, (s.best own has s.N.length).1, s.sl⟩],
                 W := if 0 < (s.best own has s.N.length).1 then s.W.set (s.best own has s.N.length).1.toNat (s.W.getD (s.best own has s.N.length).1.toNat []).tail else s.W }, 1, (s.best own has s.N.length).1, (s.best own has s.N.length).2)
end Go.Proofs.YtmmcjmejcngajaaGreatDoor

namespace Go.Proofs.YtmmcjmejcngajaaGreatDoor
open Go.RowKit
set_option linter.unusedVariables false
theorem sec_callF {P : Program} {ops : Array Oper} {W : World} {sec : List Tmp} {F : Tmp → Value → World → Prop} {o : Oper} {h : Act} {rest : List Oper} {Q : Act → Prop} {s : Tmp} {f : FuncId} {args : Array Value}
    (hw : Region.wanted o (yielded ops h.tmps) = true) (hn : noSel o = true) (hl : secOpenL ops sec o = true) (hd : o.dst = some s) (hs : sec.contains s = true)
    (hrun : ∀ w, (execOp h.eval o).run P w = .ok (.enter f args) w) (hc : ∀ q : Later W, Calls P f args q.w fun e w'' => ∃ u, e = .returned u ∧ Below q.w.heap.size q.w w'' ∧ F s u w'')
    (hk : wpSec P ops W sec F Q rest (h.put o.dst undef)) : wpSec P ops W sec F Q (o :: rest) h := by
  unfold wpSec
  rw [if_pos hw]
  refine ⟨undef, fun a w hb hlk => ?_, hk⟩
  rw [eval_open hl (noSel_spec hn) hlk, hrun w]
  refine ⟨rfl, (hc ⟨w, hb⟩).mono ?_⟩
  rintro e w'' ⟨u, he, hb', hF⟩
  refine ⟨u, he, hb', ?_⟩
  unfold secGood
  rw [hd]
  simp only
  rw [if_pos (by simpa using hs)]
  exact hF
/-- an operation that lays a new block, whose place is hidden, and which is newer than the region -/
theorem sec_fresh {P : Program} {ops : Array Oper} {W : World} {sec : List Tmp} {F : Tmp → Value → World → Prop} {o : Oper} {h : Act} {rest : List Oper} {Q : Act → Prop} {s : Tmp} {mk : World → Value} {ob : World → Obj} (hw : Region.wanted o (yielded ops h.tmps) = true) (hn : noSel o = true) (hl : secOpenL ops sec o = true) (hd : o.dst = some s) (hs : sec.contains s = true)
    (hrun : ∀ w, (execOp h.eval o).run P w = .ok (.value (mk w)) (w.alloc (ob w))) (hF : ∀ w, Below W.heap.size W w → F s (mk w) (w.alloc (ob w))) (hk : wpSec P ops W sec F Q rest (h.put o.dst undef)) : wpSec P ops W sec F Q (o :: rest) h := by
  unfold wpSec
  rw [if_pos hw]
  refine ⟨undef, fun a w hb hlk => ?_, hk⟩
  rw [eval_open hl (noSel_spec hn) hlk, hrun w]
  refine ⟨(Below.refl _ _).alloc (Nat.le_refl _) _, ?_⟩
  unfold secGood
  rw [hd]
  simp only
  rw [if_pos (by simpa using hs)]
  exact hF w hb
/-- a call that reads hidden slots, by their facts, makes new memory alone, and answers v -/
theorem sec_callR {P : Program} {ops : Array Oper} {W : World} {sec : List Tmp} {F : Tmp → Value → World → Prop} {o : Oper} {h : Act} {rest : List Oper} {Q : Act → Prop} {v : Value}
    (hw : Region.wanted o (yielded ops h.tmps) = true) (hd : secOpenD sec o = true)
    (hrun : ∀ (a : Act) (w : World), Below W.heap.size W w → secLooks ops sec F o h a w → ∃ f args, (execOp a.eval o).run P w = .ok (.enter f args) w ∧ Calls P f args w fun e w' => e = .returned v ∧ Below w.heap.size w w')
    (hk : wpSec P ops W sec F Q rest (h.put o.dst v)) : wpSec P ops W sec F Q (o :: rest) h := by
  unfold wpSec
  rw [if_pos hw]
  refine ⟨v, fun a w hb hlk => ?_, hk⟩
  obtain ⟨f, args, he, hc⟩ := hrun a w hb hlk
  rw [he]
  refine ⟨rfl, hc.mono ?_⟩
  rintro e w'' ⟨rfl, hb'⟩
  exact ⟨v, rfl, hb', good_open hd rfl⟩
end Go.Proofs.YtmmcjmejcngajaaGreatDoor
