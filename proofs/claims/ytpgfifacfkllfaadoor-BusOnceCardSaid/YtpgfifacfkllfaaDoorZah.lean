/- Of no program: a row in a block of its own, from any place of it on (x[1:] of it too), whose spare places can be written: read, cut at its head, appended to; as an object. Bus, the document's side: what a bus is in memory; Fix. Bus, the document's side: New. -/
import Derived.Test.YtpgfifacfkllfaaDoorZag
import Derived.Deep.AppendSrc
import Derived.Laws.IdiomCopy
import Derived.Deep.RegionLaw
import Derived.Test.YtpgfifacfkllfaaDoorZaf
import Derived.Deep.RegionWith
namespace Go.Proofs.YtpgfifacfkllfaaDoor
open Go.RowKit
set_option linter.unusedVariables false

section
variable {α : Type} {c : α → List Value} {k bytes : Nat} {T E : TypeId} {P : Program} {w w' : World} {v : Value} {L M : List α}
def RowQ (c : α → List Value) (k : Nat) (w : World) (v : Value) (L : List α) : Prop :=
  (v = .slice none 0 0 ∧ L = []) ∨ ∃ g o cap, v = .slice (some ⟨g, o, none⟩) L.length cap ∧ L.length ≤ cap ∧ cap ≤ maxLen ∧ g < w.heap.size ∧
    (∀ j u, (rowG c L)[j]? = some u → w.cell? ⟨g, o + j, none⟩ = some u) ∧ ∀ j, j < cap * k → (w.cell? ⟨g, o + j, none⟩).isSome = true ∧ w.frozen? ⟨g, o + j, none⟩ = false
theorem RowQ.nil (w : World) : RowQ c k w (.slice none 0 0) [] := .inl ⟨rfl, rfl⟩
theorem RowQ.stay (h : RowQ c k w v L) (hs : ∀ g, OwnO v g → w'.heap[g]? = w.heap[g]?) (hz : w.heap.size ≤ w'.heap.size) : RowQ c k w' v L := by
  rcases h with h | ⟨g, o, cap, rfl, h1, h2, h3, h4, h5⟩
  · exact .inl h
  · have e := hs g rfl
    refine .inr ⟨g, o, cap, rfl, h1, h2, Nat.lt_of_lt_of_le h3 hz, fun j u hu => (World.cell?_of_block (w := w) (a := ⟨g, o + j, none⟩) e).trans (h4 j u hu), fun j hj => ⟨?_, (World.frozen?_of_block (w := w) (a := ⟨g, o + j, none⟩) e).trans (h5 j hj).2⟩⟩
    rw [World.cell?_of_block (w := w) (a := ⟨g, o + j, none⟩) e]
    exact (h5 j hj).1
theorem RowQ.stayL (h : RowQ c k w v L) (hs : ∀ g, OwnO v g → w'.heap[g]? = w.heap[g]?) (hz : ∀ g, OwnO v g → g < w'.heap.size) : RowQ c k w' v L := by
  rcases h with h | ⟨g, o, cap, rfl, h1, h2, h3, h4, h5⟩
  · exact .inl h
  · have e := hs g rfl
    refine .inr ⟨g, o, cap, rfl, h1, h2, hz g rfl, fun j u hu => (World.cell?_of_block (w := w) (a := ⟨g, o + j, none⟩) e).trans (h4 j u hu), fun j hj => ⟨?_, (World.frozen?_of_block (w := w) (a := ⟨g, o + j, none⟩) e).trans (h5 j hj).2⟩⟩
    rw [World.cell?_of_block (w := w) (a := ⟨g, o + j, none⟩) e]
    exact (h5 j hj).1
theorem RowQ.lt (h : RowQ c k w v L) : ∀ g, OwnO v g → g < w.heap.size := by
  rcases h with ⟨rfl, _⟩ | ⟨g, o, cap, rfl, h1, h2, h3, h4, h5⟩
  · intro g hg; cases hg
  · intro g' hg'
    injection hg' with e
    have e : g = g' := e
    subst e
    exact h3
theorem RowQ.later (h : RowQ c k w v L) (hb : Below w.heap.size w w') : RowQ c k w' v L := h.stay (fun g hg => hb.block g (h.lt g hg)) hb.size
theorem qaddr (g o j : Nat) : (⟨g, o, none⟩ : Addr).add j = ⟨g, o + j, none⟩ := by
  unfold Addr.add
  by_cases h0 : j = 0
  · subst h0; simp
  · rw [if_neg h0]
theorem RowQ.sl (h : RowQ c k w v L) (hk : ∀ a, (c a).length = k) (hm : L.length ≤ maxLen) : SlG c k w w.heap.size v L := by
  rcases h with ⟨rfl, rfl⟩ | ⟨g, o, cap, rfl, h1, h2, h3, h4, h5⟩
  · exact SlG.nil _ _ _ _
  · refine ⟨_, cap, rfl, hm, fun i a ha => ⟨_, rfl, h3, fun j u hu => ?_⟩⟩
    rw [qaddr]
    exact h4 _ u (rowG_get hk L i a ha j u hu)
/-- cut at its head -/
theorem RowQ.tail {a : α} {A : Option Addr} {n cap : Nat} (h : RowQ c k w (.slice A n cap) (a :: M)) (hk : ∀ a, (c a).length = k) : ∃ x, A = some x ∧ n = M.length + 1 ∧ M.length + 1 ≤ cap ∧ RowQ c k w (.slice (some (if cap = 1 then x else x.add k)) M.length (cap - 1)) M := by
  rcases h with ⟨_, h0⟩ | ⟨g, o, cap', hv, h1, h2, h3, h4, h5⟩
  · cases h0
  · injection hv with hA hn hcap
    subst hA; subst hcap
    simp only [List.length_cons] at hn h1
    refine ⟨_, rfl, hn, h1, ?_⟩
    have hrow : rowG c (a :: M) = c a ++ rowG c M := by simp [rowG]
    by_cases e : cap = 1
    · have : M = [] := List.eq_nil_of_length_eq_zero (by omega)
      subst this
      subst e
      exact .inr ⟨g, o, 0, rfl, Nat.le_refl _, Nat.zero_le _, h3, fun j u hu => by simp [rowG] at hu, fun j hj => by omega⟩
    · rw [if_neg e, qaddr]
      refine .inr ⟨g, o + k, cap - 1, rfl, by omega, by omega, h3, fun j u hu => ?_, fun j hj => ?_⟩
      · rw [Nat.add_assoc]
        refine h4 (k + j) u ?_
        rw [hrow, List.getElem?_append_right (by rw [hk]; omega), hk, Nat.add_sub_cancel_left]
        exact hu
      · rw [Nat.add_assoc]
        refine h5 (k + j) ?_
        obtain ⟨m, rfl⟩ : ∃ m, cap = m + 1 := ⟨cap - 1, by omega⟩
        rw [Nat.add_sub_cancel] at hj
        rw [Nat.add_mul]; omega
theorem RowQ.src {u : Value} (hr : RdA c k w u M) (hk : ∀ a, (c a).length = k) (hone : ∀ a, ∀ u ∈ c a, u.oneCell' = true) (ht : P.underlying T = some (.slice E)) : Src P k T u M.length (rowG c M) w := by
  obtain ⟨hsl, hsh⟩ := hr
  rcases hsh with rfl | ⟨p, cp, rfl, _⟩
  · obtain ⟨A, cap, hv, _, _⟩ := hsl
    injection hv with _ hl _
    obtain rfl : M = [] := List.eq_nil_of_length_eq_zero hl.symm
    exact Src.ofNil w ht 0
  · refine Src.ofSlice w ht p M.length cp (rowG c M) (rowG_length hk M) (fun j u hu => ?_) (fun u hu => ?_)
    · obtain ⟨i, r, b, h1, h2, rfl⟩ := rowG_cells' hk hu
      obtain ⟨A, cap, hv, _, hc⟩ := hsl
      injection hv with hA _ _
      subst hA
      obtain ⟨x', hx', _, hcell⟩ := hc i b h1
      injection hx' with hx'
      subst hx'
      exact hcell r u h2
    · obtain ⟨j, hj, rfl⟩ := List.getElem_of_mem hu
      obtain ⟨i, r, b, h1, h2, _⟩ := rowG_cells' hk (List.getElem?_eq_getElem hj)
      exact hone b _ (List.mem_of_getElem? h2)
theorem setCells_heap (w : World) (g o : Nat) (vs : List Value) {i : Nat} (hne : i ≠ g) : (w.setCells g o vs).heap[i]? = w.heap[i]? := by
  induction vs generalizing w o with
  | nil => rfl
  | cons v vs ih => rw [World.setCells, ih, Below.heap_setCell _ _ _ _ hne]
theorem setCells_size (w : World) (g o : Nat) (vs : List Value) : (w.setCells g o vs).heap.size = w.heap.size := by
  induction vs generalizing w o with
  | nil => rfl
  | cons v vs ih => rw [World.setCells, ih]; simp [World.setCell]
theorem setCells_rest (w : World) (g o : Nat) (vs : List Value) : (w.setCells g o vs).os = w.os ∧ (w.setCells g o vs).tape = w.tape ∧ (w.setCells g o vs).output = w.output := by
  induction vs generalizing w o with
  | nil => exact ⟨rfl, rfl, rfl⟩
  | cons v vs ih => exact ih _ _
theorem RowQ.run (hT : FlatE P T E k bytes) (hk : ∀ a, (c a).length = k) (h : RowQ c k w v L) {u : Value} (hs : Src P k T u M.length (rowG c M) w) (hsz : L.length + M.length ≤ 1000000) (ty : TypeId) :
    ∃ v' w', (Builtin.append_ #[T, T] ty #[v, u]).run P w = .ok v' w' ∧ RowQ c k w' v' (L ++ M) ∧ Kept (OwnO v) w w' ∧ Grows (OwnO v) w (OwnO v') := by
  obtain ⟨ht, i0, z, hi, hz, hz1, hz2, hz3, hk0, hby⟩ := hT
  have hs' : Src P i0.size T u M.length (rowG c M) w := by rw [hz1]; exact hs
  have grow : ∀ (A : Option Addr) (cap : Nat), v = .slice A L.length cap → (Builtin.firstCells i0.size L.length (.slice A L.length cap)).run P w.drew = .ok (rowG c L).toArray w.drew → cap < L.length + M.length →
      ∃ v' w', (Builtin.append_ #[T, T] ty #[v, u]).run P w = .ok v' w' ∧ RowQ c k w' v' (L ++ M) ∧ Kept (OwnO v) w w' ∧ Grows (OwnO v) w (OwnO v') := by
    intro A cap hv hold hlt
    subst hv
    have hby2 : (L.length + M.length) * bytes ≤ 1000000 * 100 := Nat.mul_le_mul hsz hby
    have hr := run_append_grow_src (P := P) w T T ty E i0 z ht hi hz A L.length cap (rowG c L) hold u M.length (rowG c M) hs' hlt (by omega) (growslice_fits (by omega) (by rw [hz2]; omega))
    have hge := grownCap_ge w (L.length + M.length) cap E
    generalize hC : grownCap w (L.length + M.length) cap E = C at hr hge
    have hCm : C ≤ maxLen := by rw [← hC]; exact grownCap_le_maxLen _ _ _ _ (by unfold maxLen; omega)
    have hl : ((rowG c L ++ rowG c M).toArray ++ Builtin.zeroCells z.cells (C - (L.length + M.length))).size = C * k := by
      rw [Array.size_append, size_zeroCells, hz3]
      simp only [List.size_toArray, List.length_append, rowG_length hk]
      rw [← Nat.add_mul, ← Nat.add_mul]
      congr 1
      omega
    refine ⟨_, _, hr, .inr ⟨w.heap.size, 0, C, by rw [List.length_append], by rw [List.length_append]; exact hge, hCm, by simp, fun j x hx => ?_, fun j hj => ⟨?_, ?_⟩⟩, ?_, ?_⟩
    · show (w.drew.alloc _).cell? ⟨w.drew.heap.size, 0 + j, none⟩ = _
      rw [Nat.zero_add, World.cell?_alloc_at _ _ _ _ rfl]
      rw [rowG_app] at hx
      have hj : j < (rowG c L ++ rowG c M).length := by
        rcases Nat.lt_or_ge j (rowG c L ++ rowG c M).length with h | h
        · exact h
        · rw [List.getElem?_eq_none h] at hx; cases hx
      rw [Array.getElem?_append_left (by simpa using hj)]
      simpa using hx
    · show ((w.drew.alloc _).cell? ⟨w.drew.heap.size, 0 + j, none⟩).isSome = true
      rw [Nat.zero_add, World.cell?_alloc_at _ _ _ _ rfl, Array.getElem?_eq_getElem (by rw [hl]; exact hj)]
      rfl
    · show (w.drew.alloc _).frozen? ⟨w.drew.heap.size, 0 + j, none⟩ = false
      unfold World.frozen?
      rw [heap_alloc_new]
      simp
    · exact .of_below ((Below.refl _ w).drew.alloc (Nat.le_refl _) _)
    · intro g hg
      injection hg with e
      exact .inr (by have e : w.heap.size = g := e; omega)
  rcases h with ⟨rfl, rfl⟩ | ⟨g, o, cap, rfl, h1, h2, h3, h4, h5⟩
  · by_cases hM : M = []
    · subst hM
      have hz0 : (Builtin.append_ #[T, T] ty #[.slice none 0 0, u]).run P w = .ok (.slice none 0 0) w := by
        have hc := hs'.cells
        have hl := hs'.len
        simp only [List.length_nil] at hc hl
        rcases hs'.kind with ⟨e', hk'⟩ | hk' <;> simp [Builtin.append_, run_underlying ht, sizeOf, typeInfo, hi, hl, hc]
      exact ⟨_, _, hz0, .inl ⟨rfl, rfl⟩, Kept.refl _ _, Grows.refl _ _⟩
    · exact grow none 0 rfl (run_firstCells_none w.drew i0.size 0 0 0) (by have := List.length_pos_iff.2 hM; simp; omega)
  · by_cases hroom : L.length + M.length ≤ cap
    · have hml : (rowG c M).length = M.length * k := rowG_length hk M
      have hll : (rowG c L).length = L.length * k := rowG_length hk L
      have hle : L.length * k + M.length * k ≤ cap * k := by rw [← Nat.add_mul]; exact Nat.mul_le_mul_right _ hroom
      have hr := run_append_room_src (P := P) w T T ty E i0 ht hi g o L.length cap u M.length (rowG c M) hs' hroom
        (fun j hj => by rw [hz1, Nat.add_assoc]; exact (h5 _ (by omega)).1) (fun j hj => by rw [hz1, Nat.add_assoc]; exact (h5 _ (by omega)).2)
      rw [hz1] at hr
      refine ⟨_, _, hr, .inr ⟨g, o, cap, by rw [List.length_append], by rw [List.length_append]; exact hroom, h2, by rw [setCells_size]; exact h3, fun j x hx => ?_, fun j hj => ⟨?_, ?_⟩⟩, ?_, Grows.refl _ _⟩
      · rw [rowG_app] at hx
        by_cases hj : j < (rowG c L).length
        · rw [List.getElem?_append_left hj] at hx
          rw [World.cell?_setCells_out g _ _ _ _ (fun _ _ => .inl (by simp only; omega))]
          exact h4 j x hx
        · rw [List.getElem?_append_right (by omega)] at hx
          have hj2 : j - (rowG c L).length < (rowG c M).length := by
            rcases Nat.lt_or_ge (j - (rowG c L).length) (rowG c M).length with h | h
            · exact h
            · rw [List.getElem?_eq_none h] at hx; cases hx
          have := World.cell?_setCells_in g (rowG c M) (o + L.length * k) w (fun j hj => by rw [Nat.add_assoc]; exact (h5 _ (by omega)).1) (j - (rowG c L).length) hj2
          rw [show o + L.length * k + (j - (rowG c L).length) = o + j by omega] at this
          rw [this, ← hx, List.getElem?_eq_getElem hj2]
      · have key : ∀ (vs : List Value) (q : Nat) (w : World) (x : Addr), (w.cell? x).isSome = true → ((w.setCells g q vs).cell? x).isSome = true := by
          intro vs
          induction vs with
          | nil => intro q w x h; exact h
          | cons b vs ih =>
            intro q w x h
            refine ih _ _ _ ?_
            by_cases e : (⟨g, q, none⟩ : Addr) = x
            · subst e; rw [World.cell?_setCell_same' _ _ _ h]; rfl
            · rw [World.cell?_setCell_other _ _ _ _ (by intro h; exact e (by first | exact h | exact h.symm))]; exact h
        exact key _ _ _ _ (h5 j hj).1
      · rw [World.frozen?_setCells]; exact (h5 j hj).2
      · obtain ⟨r1, r2, r3⟩ := setCells_rest w g (o + L.length * k) (rowG c M)
        exact ⟨r1, r2, r3, by rw [setCells_size]; exact Nat.le_refl _, fun i _ hn => setCells_heap _ _ _ _ (fun e => hn (by subst e; rfl))⟩
    · refine grow _ cap rfl ?_ (by omega)
      refine run_firstCells_some w.drew i0.size L.length ⟨g, o, none⟩ L.length cap (rowG c L) (by rw [hz1, rowG_length hk]) (fun j x hx => ?_)
      rw [qaddr]
      exact h4 j x hx
theorem wpList_qO {ops : Array Oper} {rest : List Oper} {o : Oper} {a : Act} {Q : Exit → Act → World → Prop} {W : World} (hT : FlatE P T E k bytes) (hk : ∀ a, (c a).length = k) (hone : ∀ a, ∀ u ∈ c a, u.oneCell' = true) (hgd : o.guard = none) (s x : Operand)
    (ho : o.op = .call { callee := .builtin .append, args := #[s, x], argTypes := #[T, T] }) {v u : Value} (hs : a.eval s = v) (hg : RowQ c k W v L)
    (hx : a.eval x = u) (hr : RdA c k W u M) (hsz : L.length + M.length ≤ 1000000)
    (h : ∀ v' w', RowQ c k w' v' (L ++ M) → Kept (OwnO v) W w' → Grows (OwnO v) W (OwnO v') → wpList P ops Q rest (a.put o.dst v') w') : wpList P ops Q (o :: rest) a W := by
  refine wpList_plain hgd fun K hK' => ?_
  obtain ⟨v', w', hrun, r1, r2, r3⟩ := hg.run hT hk (RowQ.src hr hk hone hT.1) hsz o.type
  unfold Oper.wp
  simp [execOp, ho, resolve, invoke, builtin, hs, hx, hrun, Result.andThen]
  exact hK' _ _ (h v' w' r1 r2 r3)
/-- as a step of a region that draws -/
theorem step_qO {ops : Array Oper} {o : Oper} {a : Act} {K : Act → World → Prop} {Q : Exit → Act → World → Prop} {W : World} {X : Prop} (hT : FlatE P T E k bytes) (hk : ∀ a, (c a).length = k) (hone : ∀ a, ∀ u ∈ c a, u.oneCell' = true) (hgd : o.guard = none) (s x : Operand)
    (ho : o.op = .call { callee := .builtin .append, args := #[s, x], argTypes := #[T, T] }) {v u : Value} (hs : a.eval s = v) (hg : RowQ c k W v L)
    (hx : a.eval x = u) (hr : RdA c k W u M) (hsz : L.length + M.length ≤ 1000000)
    (h : ∀ v' w', RowQ c k w' v' (L ++ M) → Kept (OwnO v) W w' → Grows (OwnO v) W (OwnO v') → K (a.put o.dst v') w') : if Region.wanted o (yielded ops a.tmps) = true then Oper.wp P o a W K Q else X := by
  have hw : Region.wanted o (yielded ops a.tmps) = true := by unfold Region.wanted; rw [hgd]
  rw [if_pos hw]
  obtain ⟨v', w', hrun, r1, r2, r3⟩ := hg.run hT hk (RowQ.src hr hk hone hT.1) hsz o.type
  unfold Oper.wp
  simp [execOp, ho, resolve, invoke, builtin, hs, hx, hrun, Result.andThen]
  exact h v' w' r1 r2 r3
end
end Go.Proofs.YtpgfifacfkllfaaDoor

namespace Go.Proofs.YtpgfifacfkllfaaDoor
open Go.RowKit
set_option linter.unusedVariables false

/-- an entry of the log -/
structure Lg where
  f : Fr
  n : Int
  s : Int
def lgC (e : Lg) : List Value := [.int .i64 e.f.i, .int .i64 e.f.n, .int .i64 e.f.l, .string e.f.d, .int .i64 e.n, .int .i64 e.s]
theorem lgC_len (e : Lg) : (lgC e).length = 6 := rfl
def cfC (c : Cf) : List Value := [.int .i64 c.t, .int .i64 c.r, .bool c.o, .int .i64 c.d]
theorem cfC_len (c : Cf) : (cfC c).length = 4 := rfl
/-- a bus -/
structure Bs where
  N : List Cf
  W : List (List Fr)
  back : Int
  fx : Bool
  sl : Int
  log : List Lg
structure BusM (w : World) (b gn gw : Nat) (ws : List Value) (vl : Value) (s : Bs) : Prop where
  box : w.heap[b]? = some (.cells #[.slice (some ⟨gn, 0, none⟩) s.N.length s.N.length, .slice (some ⟨gw, 0, none⟩) s.N.length s.N.length, .int .i64 s.back, .bool s.fx, .int .i64 s.sl, vl] 62 (0, 0))
  nodes : w.heap[gn]? = some (.cells (rowG cfC s.N).toArray 42 (0, 0))
  waits : w.heap[gw]? = some (.cells ws.toArray 39 (0, 0))
  len : ws.length = s.N.length
  lenW : s.W.length = s.N.length
  row : ∀ (i : Nat) (u : Value) (L : List Fr), ws[i]? = some u → s.W[i]? = some L → RowQ frC 4 w u L
  log : RowQ lgC 6 w vl s.log
  h1 : b ≠ gn
  h2 : b ≠ gw
  h3 : gn ≠ gw
  f1 : ∀ (i : Nat) (u : Value), ws[i]? = some u → ¬ OwnO u b ∧ ¬ OwnO u gn ∧ ¬ OwnO u gw ∧ Apart (OwnO u) (OwnO vl)
  f2 : ∀ (i j : Nat) (u u' : Value), ws[i]? = some u → ws[j]? = some u' → i ≠ j → Apart (OwnO u) (OwnO u')
  f3 : ¬ OwnO vl b ∧ ¬ OwnO vl gn ∧ ¬ OwnO vl gw
def busO (b gn gw : Nat) (ws : List Value) (vl : Value) : Nat → Prop := fun k => k = b ∨ k = gn ∨ k = gw ∨ (∃ (i : Nat) (u : Value), ws[i]? = some u ∧ OwnO u k) ∨ OwnO vl k
def BusD (w : World) (v : Value) (s : Bs) (O : Nat → Prop) : Prop := ∃ b gn gw ws vl, v = .pointer (some ⟨b, 0, none⟩) ∧ O = busO b gn gw ws vl ∧ BusM w b gn gw ws vl s
theorem BusM.stay {w w' : World} {b gn gw : Nat} {ws : List Value} {vl : Value} {s : Bs} (h : BusM w b gn gw ws vl s) (hs : ∀ k, busO b gn gw ws vl k → w'.heap[k]? = w.heap[k]?) (hz : w.heap.size ≤ w'.heap.size) : BusM w' b gn gw ws vl s :=
  ⟨(hs b (.inl rfl)).trans h.box, (hs gn (.inr (.inl rfl))).trans h.nodes, (hs gw (.inr (.inr (.inl rfl)))).trans h.waits, h.len, h.lenW,
    fun i u L hu hL => (h.row i u L hu hL).stay (fun g hg => hs g (.inr (.inr (.inr (.inl ⟨i, u, hu, hg⟩))))) hz, h.log.stay (fun g hg => hs g (.inr (.inr (.inr (.inr hg))))) hz, h.h1, h.h2, h.h3, h.f1, h.f2, h.f3⟩
theorem heap_some_lt {w : World} {k : Nat} {o : Obj} (h : w.heap[k]? = some o) : k < w.heap.size := (Array.getElem?_eq_some_iff.1 h).1
theorem BusM.lt {w : World} {b gn gw : Nat} {ws : List Value} {vl : Value} {s : Bs} (h : BusM w b gn gw ws vl s) : ∀ k, busO b gn gw ws vl k → k < w.heap.size := by
  rintro k (rfl | rfl | rfl | ⟨i, u, hu, hk⟩ | hk)
  · exact heap_some_lt h.box
  · exact heap_some_lt h.nodes
  · exact heap_some_lt h.waits
  · have hi : i < ws.length := by
      rcases Nat.lt_or_ge i ws.length with h1 | h1
      · exact h1
      · rw [List.getElem?_eq_none h1] at hu; cases hu
    exact (h.row i u _ hu (List.getElem?_eq_getElem (by rw [h.lenW, ← h.len]; exact hi))).lt k hk
  · exact h.log.lt k hk
theorem BusM.later {w w' : World} {b gn gw : Nat} {ws : List Value} {vl : Value} {s : Bs} (h : BusM w b gn gw ws vl s) (hb : Below w.heap.size w w') : BusM w' b gn gw ws vl s := h.stay (fun k hk => hb.block k (h.lt k hk)) hb.size
/-- what all six cells of the box are -/
theorem BusM.cells {w : World} {b gn gw : Nat} {ws : List Value} {vl : Value} {s : Bs} (h : BusM w b gn gw ws vl s) :
    w.cell? ⟨b, 0, none⟩ = some (.slice (some ⟨gn, 0, none⟩) s.N.length s.N.length) ∧ w.cell? ⟨b, 1, none⟩ = some (.slice (some ⟨gw, 0, none⟩) s.N.length s.N.length) ∧ w.cell? ⟨b, 2, none⟩ = some (.int .i64 s.back) ∧
    w.cell? ⟨b, 3, none⟩ = some (.bool s.fx) ∧ w.cell? ⟨b, 4, none⟩ = some (.int .i64 s.sl) ∧ w.cell? ⟨b, 5, none⟩ = some vl := by
  have hb := h.box
  refine ⟨?_, ?_, ?_, ?_, ?_, ?_⟩ <;> (rw [Lib.cell_of_heap hb]; rfl)
theorem BusM.live {w : World} {b gn gw : Nat} {ws : List Value} {vl : Value} {s : Bs} (h : BusM w b gn gw ws vl s) : ∀ j, w.frozen? ⟨b, j, none⟩ = false := fun j => Lib.frozen_of_heap h.box j
theorem BusM.node {w : World} {b gn gw : Nat} {ws : List Value} {vl : Value} {s : Bs} (h : BusM w b gn gw ws vl s) {i : Nat} (hi : i < s.N.length) :
    w.cell? ⟨gn, i * 4, none⟩ = some (.int .i64 (s.N[i]).t) ∧ w.cell? ⟨gn, i * 4 + 1, none⟩ = some (.int .i64 (s.N[i]).r) ∧ w.cell? ⟨gn, i * 4 + 2, none⟩ = some (.bool (s.N[i]).o) ∧ w.cell? ⟨gn, i * 4 + 3, none⟩ = some (.int .i64 (s.N[i]).d) := by
  have key : ∀ j u, (cfC (s.N[i]))[j]? = some u → w.cell? ⟨gn, i * 4 + j, none⟩ = some u := fun j u hu => by
    rw [Lib.cell_of_heap h.nodes]
    simpa using rowG_get cfC_len s.N i _ (List.getElem?_eq_getElem hi) j u hu
  exact ⟨key 0 _ rfl, key 1 _ rfl, key 2 _ rfl, key 3 _ rfl⟩
theorem BusM.nlive {w : World} {b gn gw : Nat} {ws : List Value} {vl : Value} {s : Bs} (h : BusM w b gn gw ws vl s) : ∀ j, w.frozen? ⟨gn, j, none⟩ = false := fun j => Lib.frozen_of_heap h.nodes j
/-- a cell of the box is stored -/
theorem BusM.setBox {w : World} {b gn gw : Nat} {ws : List Value} {vl : Value} {s s' : Bs} (h : BusM w b gn gw ws vl s) (j : Nat) (u : Value)
    (hc : (#[Value.slice (some ⟨gn, 0, none⟩) s.N.length s.N.length, .slice (some ⟨gw, 0, none⟩) s.N.length s.N.length, .int .i64 s.back, .bool s.fx, .int .i64 s.sl, vl] : Array Value).setIfInBounds j u = #[.slice (some ⟨gn, 0, none⟩) s'.N.length s'.N.length, .slice (some ⟨gw, 0, none⟩) s'.N.length s'.N.length, .int .i64 s'.back, .bool s'.fx, .int .i64 s'.sl, vl])
    (hN : s'.N = s.N) (hW : s'.W = s.W) (hl : s'.log = s.log) : BusM (w.setCell ⟨b, j, none⟩ u) b gn gw ws vl s' := by
  have hz : w.heap.size ≤ (w.setCell ⟨b, j, none⟩ u).heap.size := by simp [World.setCell]
  have ho : ∀ k, k ≠ b → (w.setCell ⟨b, j, none⟩ u).heap[k]? = w.heap[k]? := fun k hk => Below.heap_setCell _ _ _ _ hk
  refine ⟨?_, ?_, ?_, by rw [hN]; exact h.len, by rw [hW, hN]; exact h.lenW, fun i u L hu hL => ?_, ?_, h.h1, h.h2, h.h3, h.f1, h.f2, h.f3⟩
  · rw [heap_setCell_same w b j _ _ _ h.box, ← hc]
  · rw [hN, ho _ (fun e => h.h1 e.symm)]; exact h.nodes
  · rw [ho _ (fun e => h.h2 e.symm)]; exact h.waits
  · rw [hW] at hL
    exact (h.row i u L hu hL).stay (fun g hg => ho g (fun e => (h.f1 i u hu).1 (e ▸ hg))) hz
  · rw [hl]
    exact h.log.stay (fun g hg => ho g (fun e => h.f3.1 (e ▸ hg))) hz
theorem isObj_bus : IsObj BusD where
  stay := by
    rintro w w' v s O ⟨b, gn, gw, ws, vl, rfl, rfl, h⟩ hs
    refine ⟨b, gn, gw, ws, vl, rfl, rfl, ?_⟩
    have key : ∀ k, busO b gn gw ws vl k → k < w'.heap.size := fun k hk => by
      have h1 := h.lt k hk
      have h2 := hs k hk
      rcases Nat.lt_or_ge k w'.heap.size with h3 | h3
      · exact h3
      · rw [Array.getElem?_eq_none h3, Array.getElem?_eq_getElem h1] at h2; cases h2
    refine ⟨(hs b (.inl rfl)).trans h.box, (hs gn (.inr (.inl rfl))).trans h.nodes, (hs gw (.inr (.inr (.inl rfl)))).trans h.waits, h.len, h.lenW, fun i u L hu hL => ?_, ?_, h.h1, h.h2, h.h3, h.f1, h.f2, h.f3⟩
    · exact RowQ.stayL (h.row i u L hu hL) (fun g hg => hs g (.inr (.inr (.inr (.inl ⟨i, u, hu, hg⟩))))) (fun g hg => key g (.inr (.inr (.inr (.inl ⟨i, u, hu, hg⟩)))))
    · exact RowQ.stayL h.log (fun g hg => hs g (.inr (.inr (.inr (.inr hg))))) (fun g hg => key g (.inr (.inr (.inr (.inr hg)))))
  lt := by
    rintro w v s O ⟨b, gn, gw, ws, vl, rfl, rfl, h⟩
    exact h.lt

/-! ### Fix -/
def Bs.fix (s : Bs) : Bs := { s with fx := s.fx || (s.N.getD 0 ⟨0, 0, false, 0⟩).o }
set_option maxHeartbeats 2000000 in
theorem bfix_v {v : Value} {s : Bs} {O : Nat → Prop} (w : World) (h : BusD w v s O) (h0 : 0 < s.N.length) :
    Calls Tryd.prog 27 #[v] w fun e w' => e = .returned (.tuple #[]) ∧ Stp BusD v O w s.fix w' := by
  obtain ⟨b, gn, gw, ws, vl, rfl, rfl, hm⟩ := h
  have HM := Lib.hid hm
  obtain ⟨c0, c1, c2, c3, c4, c5⟩ := hm.cells
  obtain ⟨n0, n1, n2, n3⟩ := hm.node h0
  simp only [Nat.zero_mul, Nat.zero_add] at n0 n1 n2 n3
  have f3 := hm.live 3
  have HO : Hid ((s.N.getD 0 ⟨0, 0, false, 0⟩).o = (s.N[0]).o) := Lib.hid (by rw [List.getD_eq_getElem?_getD, List.getElem?_eq_getElem h0]; rfl)
  have hl0 : (0 : Int) < (s.N.length : Int) := by omega
  cases ho : (s.N[0]).o
  · rw [ho] at n2
    have HF : Hid (s.fix = s) := Lib.hid (by unfold Bs.fix; rw [HO.out, ho, Bool.or_false])
    clear hm ho
    go_enter Tryd.func27, Tryd.ntmps27
    go_wp2
    go_end0
    exact ⟨rfl, _, ⟨b, gn, gw, ws, vl, rfl, rfl, by rw [HF.out]; exact HM.out⟩, Kept.refl _ _, Grows.refl _ _⟩
  · rw [ho] at n2
    have HF : Hid (s.fix = { s with fx := true }) := Lib.hid (by unfold Bs.fix; rw [HO.out, ho, Bool.or_true])
    have HB := Lib.hid (hm.setBox (s' := { s with fx := true }) 3 (.bool true) rfl rfl rfl rfl)
    clear hm ho
    go_enter Tryd.func27, Tryd.ntmps27
    go_wp2
    go_end0
    exact ⟨rfl, _, ⟨b, gn, gw, ws, vl, rfl, rfl, by rw [HF.out]; exact HB.out⟩, ⟨rfl, rfl, rfl, by simp [World.setCell], fun k _ hk => Below.heap_setCell _ _ _ _ (fun e => hk (.inl e))⟩, Grows.refl _ _⟩
end Go.Proofs.YtpgfifacfkllfaaDoor

namespace Go.Proofs.YtpgfifacfkllfaaDoor
open Go.RowKit
set_option linter.unusedVariables false


def bsNew (n : Nat) (back : Int) : Bs := ⟨List.replicate n cf0, List.replicate n [], back, false, 0, []⟩
def nodesN (n : Int) : Nat := if n < 1 then 1 else if 32 < n then 32 else n.toNat
theorem made_rep (z : Array Value) (n : Nat) (hz : 0 < z.size) : madeCells z (n * z.size) = ((List.replicate n z.toList).flatten).toArray := by
  apply Array.ext'
  rw [List.toList_toArray]
  apply List.ext_getElem?
  intro i
  unfold madeCells
  simp only [Array.toList_map, Array.toList_range, List.getElem?_map]
  have hl : ∀ n, ((List.replicate n z.toList).flatten).length = n * z.size := by
    intro n
    induction n with
    | zero => simp
    | succ n ih => rw [List.replicate_succ, List.flatten_cons, List.length_append, ih, Nat.add_mul]; simp; omega
  have hg : ∀ n i, i < n * z.size → ((List.replicate n z.toList).flatten)[i]? = z[i % z.size]? := by
    intro n
    induction n with
    | zero => intro i hi; omega
    | succ n ih =>
      intro i hi
      rw [List.replicate_succ, List.flatten_cons]
      by_cases h : i < z.size
      · rw [List.getElem?_append_left (by simpa using h), Nat.mod_eq_of_lt h]; simp
      · rw [List.getElem?_append_right (by simp; omega)]
        rw [Nat.add_mul] at hi
        have := ih (i - z.size) (by omega)
        simp only [Array.length_toList]
        rw [this, Nat.mod_eq_sub_mod (show i ≥ z.size by omega)]
  by_cases hi : i < n * z.size
  · rw [hg n i hi, List.getElem?_range hi]
    have hm : i % z.size < z.size := Nat.mod_lt _ hz
    simp [hm]
  · rw [List.getElem?_eq_none (by simp; omega), List.getElem?_eq_none (by rw [hl]; omega)]; rfl
theorem info_cf : (Tryd.prog.info? 42).map (fun i => (i.zero, i.size, i.bytes)) = some (some (.agg #[.int .i64 0, .int .i64 0, .bool false, .int .i64 0]), 4, 32) := by kernel_rfl
theorem info_fs : (Tryd.prog.info? 39).map (fun i => (i.zero, i.size, i.bytes)) = some (some (.slice none 0 0), 1, 24) := by kernel_rfl
theorem rep_conf (n : Nat) : madeCells (Value.agg #[.int .i64 0, .int .i64 0, .bool false, .int .i64 0]).cells (n * 4) = (rowG cfC (List.replicate n cf0)).toArray := by
  have h := made_rep #[.int .i64 0, .int .i64 0, .bool false, .int .i64 0] n (by decide)
  have e : (Value.agg #[.int .i64 0, .int .i64 0, .bool false, .int .i64 0]).cells = #[.int .i64 0, .int .i64 0, .bool false, .int .i64 0] := by kernel_rfl
  rw [e]
  refine Eq.trans h ?_
  congr 1
  unfold rowG
  rw [List.flatMap_def, List.map_replicate]
  rfl
theorem rep_fs (n : Nat) : madeCells (Value.slice none 0 0).cells (n * 1) = (List.replicate n (Value.slice none 0 0)).toArray := by
  have h := made_rep #[Value.slice none 0 0] n (by decide)
  refine Eq.trans h ?_
  congr 1
  clear h
  induction n with
  | zero => rfl
  | succ n ih => rw [List.replicate_succ, List.flatten_cons, ih, List.replicate_succ]; rfl
theorem run_mkC (n : Nat) (hn : n ≤ 1000) (w : World) :
    (Instr.makeSlice 57 (.int .i64 n) (.int .i64 n)).run Tryd.prog w = .ok (.slice (some ⟨w.heap.size, 0, none⟩) n n) (w.alloc (.cells (rowG cfC (List.replicate n cf0)).toArray 42)) := by
  obtain ⟨i0, hi, hz0, hz1, hz2⟩ := info_parts info_cf
  have := run_make (P := Tryd.prog) w 57 42 i0 _ Tryd.underlying57 hi hz0 .i64 .i64 (n : Int) (n : Int) (by omega) (Int.le_refl _) (by rw [hz2]; omega) (by omega)
  rw [hz1, Int.toNat_natCast, rep_conf] at this
  exact this
theorem run_mkW (n : Nat) (hn : n ≤ 1000) (w : World) :
    (Instr.makeSlice 48 (.int .i64 n) (.int .i64 n)).run Tryd.prog w = .ok (.slice (some ⟨w.heap.size, 0, none⟩) n n) (w.alloc (.cells (List.replicate n (Value.slice none 0 0)).toArray 39)) := by
  obtain ⟨i0, hi, hz0, hz1, hz2⟩ := info_parts info_fs
  have := run_make (P := Tryd.prog) w 48 39 i0 _ Tryd.underlying48 hi hz0 .i64 .i64 (n : Int) (n : Int) (by omega) (Int.le_refl _) (by rw [hz2]; omega) (by omega)
  rw [hz1, Int.toNat_natCast, rep_fs] at this
  exact this
theorem busM_new {w : World} {b gn gw n : Nat} {back : Int} (hb : w.heap[b]? = some (.cells #[.slice (some ⟨gn, 0, none⟩) n n, .slice (some ⟨gw, 0, none⟩) n n, .int .i64 back, .bool false, .int .i64 0, .slice none 0 0] 62 (0, 0)))
    (hn : w.heap[gn]? = some (.cells (rowG cfC (List.replicate n cf0)).toArray 42 (0, 0))) (hw : w.heap[gw]? = some (.cells (List.replicate n (Value.slice none 0 0)).toArray 39 (0, 0))) (h1 : b ≠ gn) (h2 : b ≠ gw) (h3 : gn ≠ gw) :
    BusM w b gn gw (List.replicate n (Value.slice none 0 0)) (.slice none 0 0) (bsNew n back) := by
  have key : ∀ (i : Nat) (u : Value), (List.replicate n (Value.slice none 0 0))[i]? = some u → u = .slice none 0 0 := fun i u hu => by
    rw [List.getElem?_replicate] at hu
    split at hu
    · injection hu with hu; exact hu.symm
    · cases hu
  have nn : ∀ k, ¬ OwnO (.slice none 0 0) k := fun k h => by cases h
  refine ⟨by simpa [bsNew] using hb, hn, hw, by simp [bsNew], by simp [bsNew], fun i u L hu hL => ?_, RowQ.nil _, h1, h2, h3, fun i u hu => ?_, fun i j u u' hu hu' hij => ?_, ⟨nn _, nn _, nn _⟩⟩
  · rw [key i u hu]
    have : L = [] := by
      simp only [bsNew, List.getElem?_replicate] at hL
      split at hL
      · injection hL with hL; exact hL.symm
      · cases hL
    subst this
    exact RowQ.nil _
  · rw [key i u hu]; exact ⟨nn _, nn _, nn _, fun k h => (nn k h).elim⟩
  · rw [key i u hu]; exact fun k h => (nn k h).elim
theorem busD_new {w w' : World} {b gn gw n : Nat} {back : Int} (h : BusM w' b gn gw (List.replicate n (Value.slice none 0 0)) (.slice none 0 0) (bsNew n back)) (h1 : w.heap.size ≤ b) (h2 : w.heap.size ≤ gn) (h3 : w.heap.size ≤ gw) :
    ∃ O, BusD w' (.pointer (some ⟨b, 0, none⟩)) (bsNew n back) O ∧ ∀ k, O k → w.heap.size ≤ k := by
  refine ⟨_, ⟨b, gn, gw, _, _, rfl, rfl, h⟩, ?_⟩
  rintro k (rfl | rfl | rfl | ⟨i, u, hu, hk⟩ | hk)
  · exact h1
  · exact h2
  · exact h3
  · rw [List.getElem?_replicate] at hu
    split at hu
    · injection hu with hu; subst hu; cases hk
    · cases hu
  · cases hk
theorem bnew_done {w W : World} {b gn gw n : Nat} {back : Int} (hb : W.heap[b]? = some (.cells #[.slice (some ⟨gn, 0, none⟩) n n, .slice (some ⟨gw, 0, none⟩) n n, .int .i64 back, .bool false, .int .i64 0, .slice none 0 0] 62 (0, 0)))
    (hn : W.heap[gn]? = some (.cells (rowG cfC (List.replicate n cf0)).toArray 42 (0, 0))) (hw : W.heap[gw]? = some (.cells (Array.replicate n (Value.slice none 0 0)) 39 (0, 0))) (h1 : b ≠ gn) (h2 : b ≠ gw) (h3 : gn ≠ gw)
    (g1 : w.heap.size ≤ b) (g2 : w.heap.size ≤ gn) (g3 : w.heap.size ≤ gw) (hB : Below w.heap.size w W) :
    ∃ v O, Ending.returned (.pointer (some ⟨b, 0, none⟩)) = .returned v ∧ BusD W v (bsNew n back) O ∧ Below w.heap.size w W ∧ ∀ k, O k → w.heap.size ≤ k := by
  have hw' : W.heap[gw]? = some (.cells (List.replicate n (Value.slice none 0 0)).toArray 39 (0, 0)) := by rw [hw]; simp
  obtain ⟨O, h5, h6⟩ := busD_new (w := w) (busM_new hb hn hw' h1 h2 h3) g1 g2 g3
  exact ⟨_, O, rfl, h5, hB, h6⟩
theorem three_blocks (w : World) (A B C : Obj) : (((w.alloc A).alloc B).alloc C).drew.heap[w.heap.size]? = some A ∧ (((w.alloc A).alloc B).alloc C).drew.heap[w.heap.size + 1]? = some B ∧ (((w.alloc A).alloc B).alloc C).drew.heap[w.heap.size + 1 + 1]? = some C ∧ Below w.heap.size w (((w.alloc A).alloc B).alloc C).drew := by
  have s1 : (w.alloc A).heap.size = w.heap.size + 1 := by simp
  have s2 : ((w.alloc A).alloc B).heap.size = w.heap.size + 1 + 1 := by simp
  have n1 := heap_alloc_new w A
  have n2 := heap_alloc_new (w.alloc A) B
  have n3 := heap_alloc_new ((w.alloc A).alloc B) C
  rw [s1] at n2
  rw [s2] at n3
  refine ⟨?_, ?_, n3, ?_⟩
  · show (((w.alloc A).alloc B).alloc C).heap[w.heap.size]? = _
    rw [Below.heap_alloc _ _ _ (by omega), Below.heap_alloc _ _ _ (by omega)]
    exact n1
  · show (((w.alloc A).alloc B).alloc C).heap[w.heap.size + 1]? = _
    rw [Below.heap_alloc _ _ _ (by omega)]
    exact n2
  · exact ((((Below.refl _ w).alloc (Nat.le_refl _) A).alloc (by omega) B).alloc (by omega) C).drew
set_option maxHeartbeats 2000000 in
theorem bnew_v {n back : Int} (w : World) :
    Calls Tryd.prog 11 #[.int .i64 n, .int .i64 back] w fun e w' => ∃ v O, e = .returned v ∧ BusD w' v (bsNew (nodesN n) back) O ∧ Below w.heap.size w w' ∧ ∀ k, O k → w.heap.size ≤ k := by
  obtain ⟨m, hm⟩ : ∃ m, nodesN n = m := ⟨_, rfl⟩
  have hm2 : m ≤ 32 := by rw [← hm]; unfold nodesN; split <;> (try split) <;> omega
  have HM := Lib.hid hm2
  have mk1 := run_mkC m (by omega)
  have mk2 := run_mkW m (by omega)
  have hc : (1 ≤ n ∧ n ≤ 32 ∧ n = m) ∨ (n < 1 ∧ m = 1) ∨ (32 < n ∧ m = 32) := by
    unfold nodesN at hm
    split at hm
    · omega
    · split at hm <;> omega
  rw [hm]
  clear hm hm2
  rcases hc with ⟨h1, h2, rfl⟩ | ⟨h1, hm1⟩ | ⟨h1, hm1⟩
  · go_enter Tryd.func11, Tryd.ntmps11
    go_wp2_with fail
    go_region
    all_goals (
      go_wp2
      go_ret
      first
        | (obtain ⟨x1, x2, x3, x4⟩ := three_blocks w (.cells (Array.replicate m (Value.slice none 0 0)) 39) (.cells (rowG cfC (List.replicate m cf0)).toArray 42) (.cells #[.slice (some ⟨w.heap.size + 1, 0, none⟩) m m, .slice (some ⟨w.heap.size, 0, none⟩) m m, .int .i64 back, .bool false, .int .i64 0, .slice none 0 0] 62)
           exact bnew_done x3 x2 x1 (by omega) (by omega) (by omega) (by omega) (by omega) (by omega) x4)
        | (obtain ⟨x1, x2, x3, x4⟩ := three_blocks w (.cells (rowG cfC (List.replicate m cf0)).toArray 42) (.cells (Array.replicate m (Value.slice none 0 0)) 39) (.cells #[.slice (some ⟨w.heap.size, 0, none⟩) m m, .slice (some ⟨w.heap.size + 1, 0, none⟩) m m, .int .i64 back, .bool false, .int .i64 0, .slice none 0 0] 62)
           exact bnew_done x3 x1 x2 (by omega) (by omega) (by omega) (by omega) (by omega) (by omega) x4))
  · have e1 : ((m : Nat) : Int) = 1 := by omega
    rw [e1] at mk1 mk2
    clear e1 hm1
    go_enter Tryd.func11, Tryd.ntmps11
    go_wp2_with fail
    go_region
    all_goals (
      go_wp2
      go_ret
      first
        | (obtain ⟨x1, x2, x3, x4⟩ := three_blocks w (.cells (Array.replicate m (Value.slice none 0 0)) 39) (.cells (rowG cfC (List.replicate m cf0)).toArray 42) (.cells #[.slice (some ⟨w.heap.size + 1, 0, none⟩) m m, .slice (some ⟨w.heap.size, 0, none⟩) m m, .int .i64 back, .bool false, .int .i64 0, .slice none 0 0] 62)
           exact bnew_done x3 x2 x1 (by omega) (by omega) (by omega) (by omega) (by omega) (by omega) x4)
        | (obtain ⟨x1, x2, x3, x4⟩ := three_blocks w (.cells (rowG cfC (List.replicate m cf0)).toArray 42) (.cells (Array.replicate m (Value.slice none 0 0)) 39) (.cells #[.slice (some ⟨w.heap.size, 0, none⟩) m m, .slice (some ⟨w.heap.size + 1, 0, none⟩) m m, .int .i64 back, .bool false, .int .i64 0, .slice none 0 0] 62)
           exact bnew_done x3 x1 x2 (by omega) (by omega) (by omega) (by omega) (by omega) (by omega) x4))
  · have e1 : ((m : Nat) : Int) = 32 := by omega
    rw [e1] at mk1 mk2
    clear e1 hm1
    go_enter Tryd.func11, Tryd.ntmps11
    go_wp2_with fail
    go_region
    all_goals (
      go_wp2
      go_ret
      first
        | (obtain ⟨x1, x2, x3, x4⟩ := three_blocks w (.cells (Array.replicate m (Value.slice none 0 0)) 39) (.cells (rowG cfC (List.replicate m cf0)).toArray 42) (.cells #[.slice (some ⟨w.heap.size + 1, 0, none⟩) m m, .slice (some ⟨w.heap.size, 0, none⟩) m m, .int .i64 back, .bool false, .int .i64 0, .slice none 0 0] 62)
           exact bnew_done x3 x2 x1 (by omega) (by omega) (by omega) (by omega) (by omega) (by omega) x4)
        | (obtain ⟨x1, x2, x3, x4⟩ := three_blocks w (.cells (rowG cfC (List.replicate m cf0)).toArray 42) (.cells (Array.replicate m (Value.slice none 0 0)) 39) (.cells #[.slice (some ⟨w.heap.size, 0, none⟩) m m, .slice (some ⟨w.heap.size + 1, 0, none⟩) m m, .int .i64 back, .bool false, .int .i64 0, .slice none 0 0] 62)
           exact bnew_done x3 x1 x2 (by omega) (by omega) (by omega) (by omega) (by omega) (by omega) x4))
end Go.Proofs.YtpgfifacfkllfaaDoor
