/- Of no program: a row in a block of its own, from any place of it on (x[1:] of it too), whose spare places can be written: read, cut at its head, appended to; as an object. Of no program: rows of frames. (Parted from XWirY, so that others have it without wire.) Bus, the document's side: what a bus is in memory; Fix. Box, the document's side: what mailboxes are in memory; Free. Packets in memory: behind an address; a place of a row of packets. Conf: what may be may be behind whatever happens; the order of states; failures again and again. No program is meant here. Bus, the document's side: New. Box, the document's side: New. -/
import Derived.Test.YtmpikfnemhjoeaaZad
import Derived.Deep.AppendSrc
import Derived.Laws.IdiomCopy
import Derived.Deep.RegionLaw
import Derived.Test.YtmpikfnemhjoeaaZab
import Derived.Test.YtmpikfnemhjoeaaZaa
import Derived.Deep.RegionWith
namespace Go.Proofs.Ytmpikfnemhjoeaa
open Go.RowKit
set_option linter.unusedVariables false

section
variable {α : Type} {c : α → List Value} {k bytes : Nat} {T E : TypeId} {P : Program} {w w' : World} {v : Value} {L M : List α}
def RowQ (c : α → List Value) (k : Nat) (w : World) (v : Value) (L : List α) : Prop :=
  (v = .slice none 0 0 ∧ L = []) ∨ ∃ g o cap, v = .slice (some ⟨g, o, none⟩) L.length cap ∧ L.length ≤ cap ∧ cap ≤ maxLen ∧ g < w.heap.size ∧
    (∀ j u, (rowG c L)[j]? = some u → w.cell? ⟨g, o + j, none⟩ = some u) ∧ ∀ j, j < cap * k → (w.cell? ⟨g, o + j, none⟩).isSome = true ∧ w.frozen? ⟨g, o + j, none⟩ = false
theorem RowQ.nil (w : World) : RowQ c k w (.slice none 0 0) [] := .inl ⟨rfl, rfl⟩
theorem RowQ.stay (h : RowQ c k w v L) (hs : ∀ g, OwnO v g → w'.heap[g]? = w.heap[g]?) (hz : w.heap.size ≤ w'.heap.size) : RowQ c k w' v L := by
  rcases h with h | ⟨g, o, cap, rfl, h1, h2, h3, h4, h5⟩
  · exact .inl h
  · have e := hs g rfl
    refine .inr ⟨g, o, cap, rfl, h1, h2, Nat.lt_of_lt_of_le h3 hz, fun j u hu => (World.cell?_of_block (w := w) (a := ⟨g, o + j, none⟩) e).trans (h4 j u hu), fun j hj => ⟨?_, (World.frozen?_of_block (w := w) (a := ⟨g, o + j, none⟩) e).trans (h5 j hj).2⟩⟩
    rw [World.cell?_of_block (w := w) (a := ⟨g, o + j, none⟩) e]
    exact (h5 j hj).1
theorem RowQ.stayL (h : RowQ c k w v L) (hs : ∀ g, OwnO v g → w'.heap[g]? = w.heap[g]?) (hz : ∀ g, OwnO v g → g < w'.heap.size) : RowQ c k w' v L := by
  rcases h with h | ⟨g, o, cap, rfl, h1, h2, h3, h4, h5⟩
  · exact .inl h
  · have e := hs g rfl
    refine .inr ⟨g, o, cap, rfl, h1, h2, hz g rfl, fun j u hu => (World.cell?_of_block (w := w) (a := ⟨g, o + j, none⟩) e).trans (h4 j u hu), fun j hj => ⟨?_, (World.frozen?_of_block (w := w) (a := ⟨g, o + j, none⟩) e).trans (h5 j hj).2⟩⟩
    rw [World.cell?_of_block (w := w) (a := ⟨g, o + j, none⟩) e]
    exact (h5 j hj).1
theorem RowQ.lt (h : RowQ c k w v L) : ∀ g, OwnO v g → g < w.heap.size := by
  rcases h with ⟨rfl, _⟩ | ⟨g, o, cap, rfl, h1, h2, h3, h4, h5⟩
  · intro g hg; cases hg
  · intro g' hg'
    injection hg' with e
    have e : g = g' := e
    subst e
    exact h3
theorem RowQ.later (h : RowQ c k w v L) (hb : Below w.heap.size w w') : RowQ c k w' v L := h.stay (fun g hg => hb.block g (h.lt g hg)) hb.size
theorem qaddr (g o j : Nat) : (⟨g, o, none⟩ : Addr).add j = ⟨g, o + j, none⟩ := by
  unfold Addr.add
  by_cases h0 : j = 0
  · subst h0; simp
  · rw [if_neg h0]
theorem RowQ.sl (h : RowQ c k w v L) (hk : ∀ a, (c a).length = k) (hm : L.length ≤ maxLen) : SlG c k w w.heap.size v L := by
  rcases h with ⟨rfl, rfl⟩ | ⟨g, o, cap, rfl, h1, h2, h3, h4, h5⟩
  · exact SlG.nil _ _ _ _
  · refine ⟨_, cap, rfl, hm, fun i a ha => ⟨_, rfl, h3, fun j u hu => ?_⟩⟩
    rw [qaddr]
    exact h4 _ u (rowG_get hk L i a ha j u hu)
/-- cut at its head -/
theorem RowQ.tail {a : α} {A : Option Addr} {n cap : Nat} (h : RowQ c k w (.slice A n cap) (a :: M)) (hk : ∀ a, (c a).length = k) : ∃ x, A = some x ∧ n = M.length + 1 ∧ M.length + 1 ≤ cap ∧ RowQ c k w (.slice (some (if cap = 1 then x else x.add k)) M.length (cap - 1)) M := by
  rcases h with ⟨_, h0⟩ | ⟨g, o, cap', hv, h1, h2, h3, h4, h5⟩
  · cases h0
  · injection hv with hA hn hcap
    subst hA; subst hcap
    simp only [List.length_cons] at hn h1
    refine ⟨_, rfl, hn, h1, ?_⟩
    have hrow : rowG c (a :: M) = c a ++ rowG c M := by simp [rowG]
    by_cases e : cap = 1
    · have : M = [] := List.eq_nil_of_length_eq_zero (by omega)
      subst this
      subst e
      exact .inr ⟨g, o, 0, rfl, Nat.le_refl _, Nat.zero_le _, h3, fun j u hu => by simp [rowG] at hu, fun j hj => by omega⟩
    · rw [if_neg e, qaddr]
      refine .inr ⟨g, o + k, cap - 1, rfl, by omega, by omega, h3, fun j u hu => ?_, fun j hj => ?_⟩
      · rw [Nat.add_assoc]
        refine h4 (k + j) u ?_
        rw [hrow, List.getElem?_append_right (by rw [hk]; omega), hk, Nat.add_sub_cancel_left]
        exact hu
      · rw [Nat.add_assoc]
        refine h5 (k + j) ?_
        obtain ⟨m, rfl⟩ : ∃ m, cap = m + 1 := ⟨cap - 1, by omega⟩
        rw [Nat.add_sub_cancel] at hj
        rw [Nat.add_mul]; omega
theorem RowQ.src {u : Value} (hr : RdA c k w u M) (hk : ∀ a, (c a).length = k) (hone : ∀ a, ∀ u ∈ c a, u.oneCell' = true) (ht : P.underlying T = some (.slice E)) : Src P k T u M.length (rowG c M) w := by
  obtain ⟨hsl, hsh⟩ := hr
  rcases hsh with rfl | ⟨p, cp, rfl, _⟩
  · obtain ⟨A, cap, hv, _, _⟩ := hsl
    injection hv with _ hl _
    obtain rfl : M = [] := List.eq_nil_of_length_eq_zero hl.symm
    exact Src.ofNil w ht 0
  · refine Src.ofSlice w ht p M.length cp (rowG c M) (rowG_length hk M) (fun j u hu => ?_) (fun u hu => ?_)
    · obtain ⟨i, r, b, h1, h2, rfl⟩ := rowG_cells' hk hu
      obtain ⟨A, cap, hv, _, hc⟩ := hsl
      injection hv with hA _ _
      subst hA
      obtain ⟨x', hx', _, hcell⟩ := hc i b h1
      injection hx' with hx'
      subst hx'
      exact hcell r u h2
    · obtain ⟨j, hj, rfl⟩ := List.getElem_of_mem hu
      obtain ⟨i, r, b, h1, h2, _⟩ := rowG_cells' hk (List.getElem?_eq_getElem hj)
      exact hone b _ (List.mem_of_getElem? h2)
theorem setCells_heap (w : World) (g o : Nat) (vs : List Value) {i : Nat} (hne : i ≠ g) : (w.setCells g o vs).heap[i]? = w.heap[i]? := by
  induction vs generalizing w o with
  | nil => rfl
  | cons v vs ih => rw [World.setCells, ih, Below.heap_setCell _ _ _ _ hne]
theorem setCells_size (w : World) (g o : Nat) (vs : List Value) : (w.setCells g o vs).heap.size = w.heap.size := by
  induction vs generalizing w o with
  | nil => rfl
  | cons v vs ih => rw [World.setCells, ih]; simp [World.setCell]
theorem setCells_rest (w : World) (g o : Nat) (vs : List Value) : (w.setCells g o vs).os = w.os ∧ (w.setCells g o vs).tape = w.tape ∧ (w.setCells g o vs).output = w.output := by
  induction vs generalizing w o with
  | nil => exact ⟨rfl, rfl, rfl⟩
  | cons v vs ih => exact ih _ _
theorem RowQ.run (hT : FlatE P T E k bytes) (hk : ∀ a, (c a).length = k) (h : RowQ c k w v L) {u : Value} (hs : Src P k T u M.length (rowG c M) w) (hsz : L.length + M.length ≤ 1000000) (ty : TypeId) :
    ∃ v' w', (Builtin.append_ #[T, T] ty #[v, u]).run P w = .ok v' w' ∧ RowQ c k w' v' (L ++ M) ∧ Kept (OwnO v) w w' ∧ Grows (OwnO v) w (OwnO v') := by
  obtain ⟨ht, i0, z, hi, hz, hz1, hz2, hz3, hk0, hby⟩ := hT
  have hs' : Src P i0.size T u M.length (rowG c M) w := by rw [hz1]; exact hs
  have grow : ∀ (A : Option Addr) (cap : Nat), v = .slice A L.length cap → (Builtin.firstCells i0.size L.length (.slice A L.length cap)).run P w.drew = .ok (rowG c L).toArray w.drew → cap < L.length + M.length →
      ∃ v' w', (Builtin.append_ #[T, T] ty #[v, u]).run P w = .ok v' w' ∧ RowQ c k w' v' (L ++ M) ∧ Kept (OwnO v) w w' ∧ Grows (OwnO v) w (OwnO v') := by
    intro A cap hv hold hlt
    subst hv
    have hby2 : (L.length + M.length) * bytes ≤ 1000000 * 100 := Nat.mul_le_mul hsz hby
    have hr := run_append_grow_src (P := P) w T T ty E i0 z ht hi hz A L.length cap (rowG c L) hold u M.length (rowG c M) hs' hlt (by omega) (growslice_fits (by omega) (by rw [hz2]; omega))
    have hge := grownCap_ge w (L.length + M.length) cap E
    generalize hC : grownCap w (L.length + M.length) cap E = C at hr hge
    have hCm : C ≤ maxLen := by rw [← hC]; exact grownCap_le_maxLen _ _ _ _ (by unfold maxLen; omega)
    have hl : ((rowG c L ++ rowG c M).toArray ++ Builtin.zeroCells z.cells (C - (L.length + M.length))).size = C * k := by
      rw [Array.size_append, size_zeroCells, hz3]
      simp only [List.size_toArray, List.length_append, rowG_length hk]
      rw [← Nat.add_mul, ← Nat.add_mul]
      congr 1
      omega
    refine ⟨_, _, hr, .inr ⟨w.heap.size, 0, C, by rw [List.length_append], by rw [List.length_append]; exact hge, hCm, by simp, fun j x hx => ?_, fun j hj => ⟨?_, ?_⟩⟩, ?_, ?_⟩
    · show (w.drew.alloc _).cell? ⟨w.drew.heap.size, 0 + j, none⟩ = _
      rw [Nat.zero_add, World.cell?_alloc_at _ _ _ _ rfl]
      rw [rowG_app] at hx
      have hj : j < (rowG c L ++ rowG c M).length := by
        rcases Nat.lt_or_ge j (rowG c L ++ rowG c M).length with h | h
        · exact h
        · rw [List.getElem?_eq_none h] at hx; cases hx
      rw [Array.getElem?_append_left (by simpa using hj)]
      simpa using hx
    · show ((w.drew.alloc _).cell? ⟨w.drew.heap.size, 0 + j, none⟩).isSome = true
      rw [Nat.zero_add, World.cell?_alloc_at _ _ _ _ rfl, Array.getElem?_eq_getElem (by rw [hl]; exact hj)]
      rfl
    · show (w.drew.alloc _).frozen? ⟨w.drew.heap.size, 0 + j, none⟩ = false
      unfold World.frozen?
      rw [heap_alloc_new]
      simp
    · exact .of_below ((Below.refl _ w).drew.alloc (Nat.le_refl _) _)
    · intro g hg
      injection hg with e
      exact .inr (by have e : w.heap.size = g := e; omega)
  rcases h with ⟨rfl, rfl⟩ | ⟨g, o, cap, rfl, h1, h2, h3, h4, h5⟩
  · by_cases hM : M = []
    · subst hM
      have hz0 : (Builtin.append_ #[T, T] ty #[.slice none 0 0, u]).run P w = .ok (.slice none 0 0) w := by
        have hc := hs'.cells
        have hl := hs'.len
        simp only [List.length_nil] at hc hl
        rcases hs'.kind with ⟨e', hk'⟩ | hk' <;> simp [Builtin.append_, run_underlying ht, sizeOf, typeInfo, hi, hl, hc]
      exact ⟨_, _, hz0, .inl ⟨rfl, rfl⟩, Kept.refl _ _, Grows.refl _ _⟩
    · exact grow none 0 rfl (run_firstCells_none w.drew i0.size 0 0 0) (by have := List.length_pos_iff.2 hM; simp; omega)
  · by_cases hroom : L.length + M.length ≤ cap
    · have hml : (rowG c M).length = M.length * k := rowG_length hk M
      have hll : (rowG c L).length = L.length * k := rowG_length hk L
      have hle : L.length * k + M.length * k ≤ cap * k := by rw [← Nat.add_mul]; exact Nat.mul_le_mul_right _ hroom
      have hr := run_append_room_src (P := P) w T T ty E i0 ht hi g o L.length cap u M.length (rowG c M) hs' hroom
        (fun j hj => by rw [hz1, Nat.add_assoc]; exact (h5 _ (by omega)).1) (fun j hj => by rw [hz1, Nat.add_assoc]; exact (h5 _ (by omega)).2)
      rw [hz1] at hr
      refine ⟨_, _, hr, .inr ⟨g, o, cap, by rw [List.length_append], by rw [List.length_append]; exact hroom, h2, by rw [setCells_size]; exact h3, fun j x hx => ?_, fun j hj => ⟨?_, ?_⟩⟩, ?_, Grows.refl _ _⟩
      · rw [rowG_app] at hx
        by_cases hj : j < (rowG c L).length
        · rw [List.getElem?_append_left hj] at hx
          rw [World.cell?_setCells_out g _ _ _ _ (fun _ _ => .inl (by simp only; omega))]
          exact h4 j x hx
        · rw [List.getElem?_append_right (by omega)] at hx
          have hj2 : j - (rowG c L).length < (rowG c M).length := by
            rcases Nat.lt_or_ge (j - (rowG c L).length) (rowG c M).length with h | h
            · exact h
            · rw [List.getElem?_eq_none h] at hx; cases hx
          have := World.cell?_setCells_in g (rowG c M) (o + L.length * k) w (fun j hj => by rw [Nat.add_assoc]; exact (h5 _ (by omega)).1) (j - (rowG c L).length) hj2
          rw [show o + L.length * k + (j - (rowG c L).length) = o + j by omega] at this
          rw [this, ← hx, List.getElem?_eq_getElem hj2]
      · have key : ∀ (vs : List Value) (q : Nat) (w : World) (x : Addr), (w.cell? x).isSome = true → ((w.setCells g q vs).cell? x).isSome = true := by
          intro vs
          induction vs with
          | nil => intro q w x h; exact h
          | cons b vs ih =>
            intro q w x h
            refine ih _ _ _ ?_
            by_cases e : (⟨g, q, none⟩ : Addr) = x
            · subst e; rw [World.cell?_setCell_same' _ _ _ h]; rfl
            · rw [World.cell?_setCell_other _ _ _ _ (by intro h; exact e (by first | exact h | exact h.symm))]; exact h
        exact key _ _ _ _ (h5 j hj).1
      · rw [World.frozen?_setCells]; exact (h5 j hj).2
      · obtain ⟨r1, r2, r3⟩ := setCells_rest w g (o + L.length * k) (rowG c M)
        exact ⟨r1, r2, r3, by rw [setCells_size]; exact Nat.le_refl _, fun i _ hn => setCells_heap _ _ _ _ (fun e => hn (by subst e; rfl))⟩
    · refine grow _ cap rfl ?_ (by omega)
      refine run_firstCells_some w.drew i0.size L.length ⟨g, o, none⟩ L.length cap (rowG c L) (by rw [hz1, rowG_length hk]) (fun j x hx => ?_)
      rw [qaddr]
      exact h4 j x hx
theorem wpList_qO {ops : Array Oper} {rest : List Oper} {o : Oper} {a : Act} {Q : Exit → Act → World → Prop} {W : World} (hT : FlatE P T E k bytes) (hk : ∀ a, (c a).length = k) (hone : ∀ a, ∀ u ∈ c a, u.oneCell' = true) (hgd : o.guard = none) (s x : Operand)
    (ho : o.op = .call { callee := .builtin .append, args := #[s, x], argTypes := #[T, T] }) {v u : Value} (hs : a.eval s = v) (hg : RowQ c k W v L)
    (hx : a.eval x = u) (hr : RdA c k W u M) (hsz : L.length + M.length ≤ 1000000)
    (h : ∀ v' w', RowQ c k w' v' (L ++ M) → Kept (OwnO v) W w' → Grows (OwnO v) W (OwnO v') → wpList P ops Q rest (a.put o.dst v') w') : wpList P ops Q (o :: rest) a W := by
  refine wpList_plain hgd fun K hK' => ?_
  obtain ⟨v', w', hrun, r1, r2, r3⟩ := hg.run hT hk (RowQ.src hr hk hone hT.1) hsz o.type
  unfold Oper.wp
  simp [execOp, ho, resolve, invoke, builtin, hs, hx, hrun, Result.andThen]
  exact hK' _ _ (h v' w' r1 r2 r3)
/-- as a step of a region that draws -/
theorem step_qO {ops : Array Oper} {o : Oper} {a : Act} {K : Act → World → Prop} {Q : Exit → Act → World → Prop} {W : World} {X : Prop} (hT : FlatE P T E k bytes) (hk : ∀ a, (c a).length = k) (hone : ∀ a, ∀ u ∈ c a, u.oneCell' = true) (hgd : o.guard = none) (s x : Operand)
    (ho : o.op = .call { callee := .builtin .append, args := #[s, x], argTypes := #[T, T] }) {v u : Value} (hs : a.eval s = v) (hg : RowQ c k W v L)
    (hx : a.eval x = u) (hr : RdA c k W u M) (hsz : L.length + M.length ≤ 1000000)
    (h : ∀ v' w', RowQ c k w' v' (L ++ M) → Kept (OwnO v) W w' → Grows (OwnO v) W (OwnO v') → K (a.put o.dst v') w') : if Region.wanted o (yielded ops a.tmps) = true then Oper.wp P o a W K Q else X := by
  have hw : Region.wanted o (yielded ops a.tmps) = true := by unfold Region.wanted; rw [hgd]
  rw [if_pos hw]
  obtain ⟨v', w', hrun, r1, r2, r3⟩ := hg.run hT hk (RowQ.src hr hk hone hT.1) hsz o.type
  unfold Oper.wp
  simp [execOp, ho, resolve, invoke, builtin, hs, hx, hrun, Result.andThen]
  exact h v' w' r1 r2 r3
end
end Go.Proofs.Ytmpikfnemhjoeaa

namespace Go.Proofs.Ytmpikfnemhjoeaa
open Go.RowKit
set_option linter.unusedVariables false

def frC (f : Fr) : List Value := [.int .i64 f.i, .int .i64 f.n, .int .i64 f.l, .string f.d]
theorem frC_len (f : Fr) : (frC f).length = 4 := rfl
/-- the slice v reads as the frames L -/
abbrev SlF (w : World) (B : Nat) (v : Value) (L : List Fr) : Prop := SlG frC 4 w B v L
abbrev GathF (B : Nat) (w0 : World) (v : Value) (L : List Fr) (wr : World) : Prop := GathG 30 frC 4 B w0 v L wr
def frOf : List Value → Fr
  | [.int _ i, .int _ n, .int _ l, .string d] => ⟨i, n, l, d⟩
  | _ => ⟨0, 0, 0, ByteArray.mk #[]⟩
theorem frOf_c (l : List Value) (h : FitsAll [.int .i64, .int .i64, .int .i64, .str] l) : frC (frOf l) = l := by
  obtain ⟨v0, l0, rfl, ⟨a0, rfl, _⟩, h0⟩ := FitsAll.cons h
  obtain ⟨v1, l1, rfl, ⟨a1, rfl, _⟩, h1⟩ := FitsAll.cons h0
  obtain ⟨v2, l2, rfl, ⟨a2, rfl, _⟩, h2⟩ := FitsAll.cons h1
  obtain ⟨v3, l3, rfl, ⟨a3, rfl, _⟩, h3⟩ := FitsAll.cons h2
  obtain rfl := FitsAll.nil h3
  rfl
/-- what a frame's fields hold, if they came in -/
def Fr.fits (f : Fr) : Prop := (Lit.int .i64 f.i).wf = true ∧ (Lit.int .i64 f.n).wf = true ∧ (Lit.int .i64 f.l).wf = true ∧ f.d.size ≤ maxLen
theorem fr_fits {f : Fr} (h : FitsAll [.int .i64, .int .i64, .int .i64, .str] (frC f)) : f.fits := by
  obtain ⟨⟨a0, e0, h0⟩, ⟨a1, e1, h1⟩, ⟨a2, e2, h2⟩, ⟨a3, e3, h3⟩, _⟩ := h
  injection e0 with _ e0; injection e1 with _ e1; injection e2 with _ e2; injection e3 with e3
  exact ⟨by rw [e0]; exact h0, by rw [e1]; exact h1, by rw [e2]; exact h2, by rw [e3]; exact h3⟩
/-- a frame of a row, as any later world holds it -/
theorem SlF.facts {w : World} {v : Value} {L : List Fr} (h : SlF w w.heap.size v L) {k : Nat} (hk : k < L.length) : ∃ x cap, v = .slice (some x) L.length cap ∧ x.block < w.heap.size ∧ ∀ m : Later w,
    m.w.cell? (x.add (k * 4)) = some (.int .i64 (L[k]'hk).i) ∧ m.w.cell? ⟨(x.add (k * 4)).block, (x.add (k * 4)).off + 1, none⟩ = some (.int .i64 (L[k]'hk).n) ∧
    m.w.cell? ⟨(x.add (k * 4)).block, (x.add (k * 4)).off + 2, none⟩ = some (.int .i64 (L[k]'hk).l) ∧ m.w.cell? ⟨(x.add (k * 4)).block, (x.add (k * 4)).off + 3, none⟩ = some (.string (L[k]'hk).d) := by
  obtain ⟨x, cap, hv, hxb, hcell⟩ := h.at_ hk
  refine ⟨x, cap, hv, hxb, fun m => ⟨?_, ?_, ?_, ?_⟩⟩
  · exact (m.h.cell (by rw [addr_block]; exact hxb)).trans (hcell 0 _ rfl)
  · exact (m.h.cell (p := ⟨(x.add (k * 4)).block, (x.add (k * 4)).off + 1, none⟩) (by rw [addr_block]; exact hxb)).trans (hcell 1 _ rfl)
  · exact (m.h.cell (p := ⟨(x.add (k * 4)).block, (x.add (k * 4)).off + 2, none⟩) (by rw [addr_block]; exact hxb)).trans (hcell 2 _ rfl)
  · exact (m.h.cell (p := ⟨(x.add (k * 4)).block, (x.add (k * 4)).off + 3, none⟩) (by rw [addr_block]; exact hxb)).trans (hcell 3 _ rfl)
end Go.Proofs.Ytmpikfnemhjoeaa

namespace Go.Proofs.Ytmpikfnemhjoeaa
open Go.RowKit
set_option linter.unusedVariables false

/-- an entry of the log -/
structure Lg where
  f : Fr
  n : Int
  s : Int
def lgC (e : Lg) : List Value := [.int .i64 e.f.i, .int .i64 e.f.n, .int .i64 e.f.l, .string e.f.d, .int .i64 e.n, .int .i64 e.s]
theorem lgC_len (e : Lg) : (lgC e).length = 6 := rfl
def cfC (c : Cf) : List Value := [.int .i64 c.t, .int .i64 c.r, .bool c.o, .int .i64 c.d]
theorem cfC_len (c : Cf) : (cfC c).length = 4 := rfl
/-- a bus -/
structure Bs where
  N : List Cf
  W : List (List Fr)
  back : Int
  fx : Bool
  sl : Int
  log : List Lg
def busO (b gn gw : Nat) (ws : List Value) (vl : Value) : Nat → Prop := fun k => k = b ∨ k = gn ∨ k = gw ∨ (∃ (i : Nat) (u : Value), ws[i]? = some u ∧ OwnO u k) ∨ OwnO vl k
theorem heap_some_lt {w : World} {k : Nat} {o : Obj} (h : w.heap[k]? = some o) : k < w.heap.size := (Array.getElem?_eq_some_iff.1 h).1
/-! ### Fix -/
def Bs.fix (s : Bs) : Bs := { s with fx := s.fx || (s.N.getD 0 ⟨0, 0, false, 0⟩).o }
end Go.Proofs.Ytmpikfnemhjoeaa

namespace Go.Proofs.Ytmpikfnemhjoeaa
open Go.RowKit
set_option linter.unusedVariables false

/-- a packet -/
structure Pk where
  f : Fr
  fr : Int
  tag : Int
  lp : Bool
def pkC (p : Pk) : List Value := [.int .i64 p.f.i, .int .i64 p.f.n, .int .i64 p.f.l, .string p.f.d, .int .i64 p.fr, .int .i64 p.tag, .bool p.lp]
theorem pkC_len (p : Pk) : (pkC p).length = 7 := rfl
def inC (x : Int) : List Value := [.int .i64 x]
theorem inC_len (x : Int) : (inC x).length = 1 := rfl
/-- mailboxes: states, packets, those that are ready as they were put, those that have ended -/
structure Bx where
  S : List Int
  P : List Pk
  ord : List Int
  fin : List Int
def bxO (b gs gp : Nat) (vo ve : Value) : Nat → Prop := fun k => k = b ∨ k = gs ∨ k = gp ∨ OwnO vo k ∨ OwnO ve k
/-- how many are free -/
def Bx.free (s : Bx) (k : Nat) : Nat := ((s.S.take k).filter (· == 0)).length
theorem Bx.free_succ (s : Bx) {k : Nat} (h : k < s.S.length) : s.free (k + 1) = s.free k + (if s.S[k] = 0 then 1 else 0) := by
  unfold Bx.free
  rw [List.take_succ_eq_append_getElem h, List.filter_append, List.length_append]
  by_cases h0 : s.S[k] = 0 <;> simp [h0]
theorem Bx.free_le (s : Bx) (k : Nat) : s.free k ≤ k := by
  unfold Bx.free
  exact Nat.le_trans (List.length_filter_le _ _) (by rw [List.length_take]; omega)
end Go.Proofs.Ytmpikfnemhjoeaa

namespace Go.Proofs.Ytmpikfnemhjoeaa
open Go.RowKit
set_option linter.unusedVariables false

/-- no packet -/
def pk0 : Pk := ⟨⟨0, 0, 0, ByteArray.mk #[]⟩, 0, 0, false⟩
abbrev pkV (p : Pk) : Value := .agg #[.int .i64 p.f.i, .int .i64 p.f.n, .int .i64 p.f.l, .string p.f.d, .int .i64 p.fr, .int .i64 p.tag, .bool p.lp]
/-- a packet behind an address -/
def BoxP (w : World) (b : Nat) (p : Pk) : Prop := w.heap[b]? = some (.cells #[.int .i64 p.f.i, .int .i64 p.f.n, .int .i64 p.f.l, .string p.f.d, .int .i64 p.fr, .int .i64 p.tag, .bool p.lp] 32 (0, 0))
theorem BoxP.made (w : World) (p : Pk) : BoxP (w.alloc (.cells #[.int .i64 p.f.i, .int .i64 p.f.n, .int .i64 p.f.l, .string p.f.d, .int .i64 p.fr, .int .i64 p.tag, .bool p.lp] 32)) w.heap.size p := by unfold BoxP World.alloc; simp
theorem BoxP.lt {w : World} {b : Nat} {p : Pk} (h : BoxP w b p) : b < w.heap.size := (Array.getElem?_eq_some_iff.1 h).1
theorem BoxP.later {w w' : World} {b : Nat} {p : Pk} (h : BoxP w b p) (hb : Below w.heap.size w w') : BoxP w' b p := (hb.block b h.lt).trans h
theorem BoxP.kept {w w' : World} {b : Nat} {p : Pk} {O : Nat → Prop} (h : BoxP w b p) (hk : Kept O w w') (hn : ¬ O b) : BoxP w' b p := (hk.block b h.lt hn).trans h
theorem BoxP.cells {w : World} {b : Nat} {p : Pk} (h : BoxP w b p) : w.cell? ⟨b, 0, none⟩ = some (.int .i64 p.f.i) ∧ w.cell? ⟨b, 1, none⟩ = some (.int .i64 p.f.n) ∧ w.cell? ⟨b, 2, none⟩ = some (.int .i64 p.f.l) ∧ w.cell? ⟨b, 3, none⟩ = some (.string p.f.d) ∧
    w.cell? ⟨b, 4, none⟩ = some (.int .i64 p.fr) ∧ w.cell? ⟨b, 5, none⟩ = some (.int .i64 p.tag) ∧ w.cell? ⟨b, 6, none⟩ = some (.bool p.lp) := by
  unfold BoxP at h
  refine ⟨?_, ?_, ?_, ?_, ?_, ?_, ?_⟩ <;> (rw [Lib.cell_of_heap h]; rfl)
def putP (w : World) (g i : Nat) (p : Pk) : World :=
  ((((((w.setCell ⟨g, i * 7, none⟩ (.int .i64 p.f.i)).setCell ⟨g, i * 7 + 1, none⟩ (.int .i64 p.f.n)).setCell ⟨g, i * 7 + 2, none⟩ (.int .i64 p.f.l)).setCell ⟨g, i * 7 + 3, none⟩ (.string p.f.d)).setCell ⟨g, i * 7 + 4, none⟩ (.int .i64 p.fr)).setCell ⟨g, i * 7 + 5, none⟩ (.int .i64 p.tag)).setCell ⟨g, i * 7 + 6, none⟩ (.bool p.lp)
theorem rowG_setP (c : Pk) : ∀ (N : List Pk) (i : Nat), i < N.length → (((((((rowG pkC N).set (i * 7) (.int .i64 c.f.i)).set (i * 7 + 1) (.int .i64 c.f.n)).set (i * 7 + 2) (.int .i64 c.f.l)).set (i * 7 + 3) (.string c.f.d)).set (i * 7 + 4) (.int .i64 c.fr)).set (i * 7 + 5) (.int .i64 c.tag)).set (i * 7 + 6) (.bool c.lp) = rowG pkC (N.set i c)
  | [], i, h => by cases h
  | a :: N, 0, h => rfl
  | a :: N, i + 1, h => by
    have ih := rowG_setP c N i (by simpa using h)
    have e : rowG pkC (a :: N) = pkC a ++ rowG pkC N := by simp [rowG]
    have e2 : rowG pkC ((a :: N).set (i + 1) c) = pkC a ++ rowG pkC (N.set i c) := by simp [rowG]
    rw [e, e2, ← ih]
    have l : (pkC a).length = 7 := rfl
    iterate 7 rw [List.set_append_right _ _ (by rw [l]; omega)]
    rw [l]
    congr 1
    rw [show (i + 1) * 7 - 7 = i * 7 by omega, show (i + 1) * 7 + 1 - 7 = i * 7 + 1 by omega, show (i + 1) * 7 + 2 - 7 = i * 7 + 2 by omega, show (i + 1) * 7 + 3 - 7 = i * 7 + 3 by omega, show (i + 1) * 7 + 4 - 7 = i * 7 + 4 by omega, show (i + 1) * 7 + 5 - 7 = i * 7 + 5 by omega, show (i + 1) * 7 + 6 - 7 = i * 7 + 6 by omega]
theorem putP_other {w : World} {g i k : Nat} {c : Pk} (h : k ≠ g) : (putP w g i c).heap[k]? = w.heap[k]? := by
  unfold putP
  iterate 7 rw [Below.heap_setCell _ _ _ _ h]
theorem putP_size (w : World) (g i : Nat) (c : Pk) : (putP w g i c).heap.size = w.heap.size := by unfold putP; simp [World.setCell]
theorem setCell_rest1 (w : World) (a : Addr) (u : Value) : (w.setCell a u).os = w.os ∧ (w.setCell a u).tape = w.tape ∧ (w.setCell a u).output = w.output := ⟨rfl, rfl, rfl⟩
theorem putP_rest (w : World) (g i : Nat) (c : Pk) : (putP w g i c).os = w.os ∧ (putP w g i c).tape = w.tape ∧ (putP w g i c).output = w.output := by
  unfold putP
  refine ⟨?_, ?_, ?_⟩
  · iterate 7 rw [(setCell_rest1 _ _ _).1]
  · iterate 7 rw [(setCell_rest1 _ _ _).2.1]
  · iterate 7 rw [(setCell_rest1 _ _ _).2.2]
theorem zeroPk (w : World) : (zeroValue 32).run Try.prog w = .ok (.agg #[.int .i64 0, .int .i64 0, .int .i64 0, .string (ByteArray.mk #[]), .int .i64 0, .int .i64 0, .bool false]) w := by kernel_rfl
/-- a packet's box of the call's own is stored -/
def putB (w : World) (z : Nat) (p : Pk) : World :=
  ((((((w.setCell ⟨z, 0, none⟩ (.int .i64 p.f.i)).setCell ⟨z, 1, none⟩ (.int .i64 p.f.n)).setCell ⟨z, 2, none⟩ (.int .i64 p.f.l)).setCell ⟨z, 3, none⟩ (.string p.f.d)).setCell ⟨z, 4, none⟩ (.int .i64 p.fr)).setCell ⟨z, 5, none⟩ (.int .i64 p.tag)).setCell ⟨z, 6, none⟩ (.bool p.lp)
theorem putB_other {w : World} {z k : Nat} {p : Pk} (h : k ≠ z) : (putB w z p).heap[k]? = w.heap[k]? := by
  unfold putB
  iterate 7 rw [Below.heap_setCell _ _ _ _ h]
theorem putB_size (w : World) (z : Nat) (p : Pk) : (putB w z p).heap.size = w.heap.size := by unfold putB; simp [World.setCell]
theorem putB_rest (w : World) (z : Nat) (c : Pk) : (putB w z c).os = w.os ∧ (putB w z c).tape = w.tape ∧ (putB w z c).output = w.output := by
  unfold putB
  refine ⟨?_, ?_, ?_⟩
  · iterate 7 rw [(setCell_rest1 _ _ _).1]
  · iterate 7 rw [(setCell_rest1 _ _ _).2.1]
  · iterate 7 rw [(setCell_rest1 _ _ _).2.2]
theorem BoxP.put {w : World} {z : Nat} {p0 : Pk} (h : BoxP w z p0) (p : Pk) : BoxP (putB w z p) z p := by
  unfold BoxP at *
  have a0 := heap_setCell_same w z 0 _ _ (.int .i64 p.f.i) h
  have a1 := heap_setCell_same _ z 1 _ _ (.int .i64 p.f.n) a0
  have a2 := heap_setCell_same _ z 2 _ _ (.int .i64 p.f.l) a1
  have a3 := heap_setCell_same _ z 3 _ _ (.string p.f.d) a2
  have a4 := heap_setCell_same _ z 4 _ _ (.int .i64 p.fr) a3
  have a5 := heap_setCell_same _ z 5 _ _ (.int .i64 p.tag) a4
  have a6 := heap_setCell_same _ z 6 _ _ (.bool p.lp) a5
  unfold putB
  rw [a6]
  rfl
theorem putB_below {w a : World} {B z : Nat} (p : Pk) (h : Below B a w) (hz : B ≤ z) : Below B a (putB w z p) := by
  unfold putB
  iterate 7 refine Below.setCell ?_ hz _
  exact h
end Go.Proofs.Ytmpikfnemhjoeaa

namespace Go.Proofs.Ytmpikfnemhjoeaa
open Go.RowKit
set_option linter.unusedVariables false

theorem Cf.ok_iff (c : Cf) : c.ok = true ↔ 0 ≤ c.t ∧ c.t ≤ 263 ∧ 0 ≤ c.r ∧ c.r ≤ 135 ∧ 0 ≤ c.d ∧ (c.o = true → 255 < c.t) ∧ (c.o = false → c.t ≤ 255 ∧ c.d = 0) := by
  unfold Cf.ok
  cases h : c.o <;> simp <;> omega
def cf0 : Cf := ⟨0, 0, false, 0⟩
theorem cf0_ok : cf0.ok = true := rfl
theorem Cf.do_bad {c : Cf} (h : c.ok = false) (what back : Int) : c.do_ what back = c := by unfold Cf.do_; rw [if_pos h]
theorem Cf.do_off {c : Cf} (h : c.ok = true) (ho : c.o = true) (what back : Int) : c.do_ what back = if what = 4 then c.idle back else c := by
  unfold Cf.do_; rw [if_neg (by rw [h]; decide), if_pos ho]
theorem Cf.do_on {c : Cf} (h : c.ok = true) (ho : c.o = false) (what back : Int) : c.do_ what back = if what = 0 then c.sent else if what = 1 then c.heard else if what = 2 then c.failed else if what = 3 then c.missed else c := by
  unfold Cf.do_; rw [if_neg (by rw [h]; decide), if_neg (by rw [ho]; decide)]
theorem Cf.idle_eq (c : Cf) (back : Int) : c.idle back = if (if back < 1 then 1 else back) - 1 ≤ c.d then cf0 else ⟨c.t, c.r, c.o, c.d + 1⟩ := rfl
/-- what may be may be behind whatever happens -/
theorem Cf.do_ok {c : Cf} (h : c.ok = true) (what back : Int) : (c.do_ what back).ok = true := by
  have hb := c.ok_iff.1 h
  obtain ⟨t0, t1, r0, r1, d0, ho1, ho0⟩ := hb
  cases ho : c.o
  · rw [Cf.do_on h ho]
    have := ho0 ho
    split
    · rw [Cf.ok_iff]; unfold Cf.sent; split <;> simp [ho] <;> omega
    · split
      · rw [Cf.ok_iff]; unfold Cf.heard; split
        · simp [ho]; omega
        · split <;> simp [ho] <;> omega
      · split
        · rw [Cf.ok_iff]; unfold Cf.failed; simp [ho]; omega
        · split
          · rw [Cf.ok_iff]; unfold Cf.missed; simp [ho]; split <;> omega
          · exact h
  · rw [Cf.do_off h ho]
    split
    · rw [Cf.idle_eq]
      by_cases hb : (if back < 1 then 1 else back) - 1 ≤ c.d
      · rw [if_pos hb]; rfl
      · rw [if_neg hb, Cf.ok_iff]
        have := ho1 ho
        simp [ho]; omega
    · exact h
theorem Cf.do_same_ok (c : Cf) (what back : Int) : (c.do_ what back).ok = c.ok := by
  cases h : c.ok
  · rw [Cf.do_bad h, h]
  · exact Cf.do_ok h what back
/-- who gets off does so by Failed alone -/
theorem Cf.gets_off {c : Cf} {what back : Int} (h : c.ok = true) (ho : c.o = false) (ho' : (c.do_ what back).o = true) : what = 2 := by
  rw [Cf.do_on h ho] at ho'
  apply Classical.byContradiction
  intro hw
  rw [if_neg hw] at ho'
  unfold Cf.sent Cf.heard Cf.missed at ho'
  split at ho'
  · split at ho' <;> simp [ho] at ho'
  · split at ho'
    · split at ho'
      · simp [ho] at ho'
      · split at ho' <;> simp [ho] at ho'
    · split at ho' <;> simp [ho] at ho'
/-- who is off stays so, or is one idle slot further, or comes back -/
theorem Cf.was_off {c : Cf} (what back : Int) (h : c.ok = true) (ho : c.o = true) :
    (what ≠ 4 ∧ c.do_ what back = c) ∨ (what = 4 ∧ (if back < 1 then 1 else back) - 1 ≤ c.d ∧ c.do_ what back = cf0) ∨ (what = 4 ∧ c.d < (if back < 1 then 1 else back) - 1 ∧ c.do_ what back = ⟨c.t, c.r, true, c.d + 1⟩) := by
  rw [Cf.do_off h ho]
  by_cases hw : what = 4
  · rw [if_pos hw, Cf.idle_eq]
    by_cases hb : (if back < 1 then 1 else back) - 1 ≤ c.d
    · rw [if_pos hb]; exact .inr (.inl ⟨hw, hb, rfl⟩)
    · rw [if_neg hb, ho]; exact .inr (.inr ⟨hw, by omega, rfl⟩)
  · rw [if_neg hw]; exact .inl ⟨hw, rfl⟩
/-- the order of states -/
theorem Cf.state_ok {c : Cf} (h : c.ok = true) : c.state = if c.o then 3 else if 127 < c.t ∨ 127 < c.r then 2 else if 95 < c.t ∨ 95 < c.r then 1 else 0 := by unfold Cf.state; rw [if_pos h]
theorem Cf.state_le {c e : Cf} (h : c.ok = true) (h' : e.ok = true) (ho : c.o = true → e.o = true) (ht : c.t ≤ e.t) (hr : c.r ≤ e.r ∨ (c.r = 119 ∧ 127 < e.r)) : c.state ≤ e.state := by
  rw [Cf.state_ok h, Cf.state_ok h']
  cases hc : c.o <;> cases he : e.o
  · simp only [Bool.false_eq_true, if_false]
    split <;> split <;> (try split) <;> (try split) <;> omega
  · simp only [Bool.false_eq_true, if_false, if_true]
    split <;> (try split) <;> omega
  · rw [ho hc] at he; cases he
  · simp
theorem Cf.order (c : Cf) (back : Int) : (c.do_ 0 back).state ≤ c.state ∧ (c.do_ 1 back).state ≤ c.state ∧ c.state ≤ (c.do_ 2 back).state ∧ c.state ≤ (c.do_ 3 back).state := by
  cases h : c.ok
  · rw [Cf.do_bad h, Cf.do_bad h, Cf.do_bad h, Cf.do_bad h]; omega
  · obtain ⟨t0, t1, r0, r1, d0, ho1, ho0⟩ := c.ok_iff.1 h
    cases ho : c.o
    · refine ⟨Cf.state_le (Cf.do_ok h _ _) h ?_ ?_ ?_, Cf.state_le (Cf.do_ok h _ _) h ?_ ?_ ?_, Cf.state_le h (Cf.do_ok h _ _) ?_ ?_ ?_, Cf.state_le h (Cf.do_ok h _ _) ?_ ?_ ?_⟩ <;> rw [Cf.do_on h ho]
      · unfold Cf.sent; simp [ho]; split <;> simp [ho]
      · unfold Cf.sent; simp; split <;> simp; omega
      · unfold Cf.sent; simp; left; split <;> simp
      · unfold Cf.heard; simp; split <;> (try split) <;> simp [ho]
      · unfold Cf.heard; simp; split <;> (try split) <;> simp
      · unfold Cf.heard; simp
        split
        · right; simp; omega
        · left; split <;> simp; omega
      · simp [ho]
      · show c.t ≤ c.t + 8; omega
      · unfold Cf.failed; simp
      · simp [ho]
      · unfold Cf.missed; simp
      · unfold Cf.missed; simp; left; split <;> omega
    · rw [Cf.do_off h ho, Cf.do_off h ho, Cf.do_off h ho, Cf.do_off h ho]; simp
/-- failures again and again -/
def failN (k : Nat) : Cf := if k ≤ 31 then ⟨8 * k, 0, false, 0⟩ else ⟨256, 0, true, 0⟩
theorem failN_ok (k : Nat) : (failN k).ok = true := by
  unfold failN
  split
  · rw [Cf.ok_iff]; simp; omega
  · rfl
theorem failN_succ (k : Nat) (back : Int) : (failN k).do_ 2 back = failN (k + 1) := by
  have h := failN_ok k
  by_cases hk : k ≤ 31
  · have e : failN k = ⟨8 * k, 0, false, 0⟩ := by unfold failN; rw [if_pos hk]
    rw [Cf.do_on h (by rw [e]), e, if_neg (by decide), if_neg (by decide), if_pos rfl]
    unfold Cf.failed failN
    by_cases h31 : k = 31
    · subst h31; rfl
    · rw [if_pos (show k + 1 ≤ 31 by omega)]
      simp
      omega
  · have e : failN k = ⟨256, 0, true, 0⟩ := by unfold failN; rw [if_neg hk]
    rw [Cf.do_off h (by rw [e]), e, if_neg (by decide)]
    unfold failN
    rw [if_neg (show ¬ k + 1 ≤ 31 by omega)]
theorem failN_state (k : Nat) : (2 ≤ (failN k).state ↔ 16 ≤ k) := by
  rw [Cf.state_ok (failN_ok k)]
  unfold failN
  by_cases hk : k ≤ 31
  · rw [if_pos hk]
    simp
    split
    · omega
    · split <;> omega
  · rw [if_neg hk]
    simp
    omega
theorem failN_off (k : Nat) : (failN k).o = decide (32 ≤ k) := by
  unfold failN
  split
  · rw [decide_eq_false (by omega)]
  · rw [decide_eq_true (by omega)]
/-- and idle slots behind them -/
def idleN (k : Nat) (back i : Nat) : Cf := if k ≤ 31 then failN k else if i < back then ⟨256, 0, true, i⟩ else cf0
theorem idleN_zero (k back : Nat) (hb : 1 ≤ back) : idleN k back 0 = failN k := by
  unfold idleN failN
  by_cases hk : k ≤ 31
  · rw [if_pos hk, if_pos hk]
  · rw [if_neg hk, if_neg hk, if_pos (by omega)]; rfl
theorem idleN_ok (k back i : Nat) : (idleN k back i).ok = true := by
  unfold idleN
  split
  · exact failN_ok k
  · split
    · rw [Cf.ok_iff]; simp
    · rfl
theorem idleN_succ (k back i : Nat) (hi : i < back) : (idleN k back i).do_ 4 back = idleN k back (i + 1) := by
  have h := idleN_ok k back i
  by_cases hk : k ≤ 31
  · have e : idleN k back i = failN k := by unfold idleN; rw [if_pos hk]
    have e2 : idleN k back (i + 1) = failN k := by unfold idleN; rw [if_pos hk]
    rw [e2, Cf.do_on h (by rw [e, failN_off, decide_eq_false (by omega)]), e]
    simp
  · have e : idleN k back i = ⟨256, 0, true, i⟩ := by unfold idleN; rw [if_neg hk, if_pos hi]
    rw [Cf.do_off h (by rw [e]), e, if_pos rfl, Cf.idle_eq, if_neg (show ¬ ((back : Int) < 1) by omega)]
    unfold idleN
    rw [if_neg hk]
    by_cases h1 : i + 1 < back
    · rw [if_pos h1, if_neg (by simp; omega)]; simp
    · rw [if_neg h1, if_pos (by simp; omega)]
theorem idleN_off (k back i : Nat) : (idleN k back i).o = (decide (32 ≤ k) && decide (i < back)) := by
  unfold idleN
  by_cases hk : k ≤ 31
  · rw [if_pos hk, failN_off, decide_eq_false (by omega)]; rfl
  · rw [if_neg hk, decide_eq_true (show 32 ≤ k by omega)]
    by_cases h1 : i < back
    · rw [if_pos h1, decide_eq_true h1]; rfl
    · rw [if_neg h1, decide_eq_false h1]; rfl
end Go.Proofs.Ytmpikfnemhjoeaa

namespace Go.Proofs.Ytmpikfnemhjoeaa
open Go.RowKit
set_option linter.unusedVariables false


def bsNew (n : Nat) (back : Int) : Bs := ⟨List.replicate n cf0, List.replicate n [], back, false, 0, []⟩
def nodesN (n : Int) : Nat := if n < 1 then 1 else if 32 < n then 32 else n.toNat
theorem made_rep (z : Array Value) (n : Nat) (hz : 0 < z.size) : madeCells z (n * z.size) = ((List.replicate n z.toList).flatten).toArray := by
  apply Array.ext'
  rw [List.toList_toArray]
  apply List.ext_getElem?
  intro i
  unfold madeCells
  simp only [Array.toList_map, Array.toList_range, List.getElem?_map]
  have hl : ∀ n, ((List.replicate n z.toList).flatten).length = n * z.size := by
    intro n
    induction n with
    | zero => simp
    | succ n ih => rw [List.replicate_succ, List.flatten_cons, List.length_append, ih, Nat.add_mul]; simp; omega
  have hg : ∀ n i, i < n * z.size → ((List.replicate n z.toList).flatten)[i]? = z[i % z.size]? := by
    intro n
    induction n with
    | zero => intro i hi; omega
    | succ n ih =>
      intro i hi
      rw [List.replicate_succ, List.flatten_cons]
      by_cases h : i < z.size
      · rw [List.getElem?_append_left (by simpa using h), Nat.mod_eq_of_lt h]; simp
      · rw [List.getElem?_append_right (by simp; omega)]
        rw [Nat.add_mul] at hi
        have := ih (i - z.size) (by omega)
        simp only [Array.length_toList]
        rw [this, Nat.mod_eq_sub_mod (show i ≥ z.size by omega)]
  by_cases hi : i < n * z.size
  · rw [hg n i hi, List.getElem?_range hi]
    have hm : i % z.size < z.size := Nat.mod_lt _ hz
    simp [hm]
  · rw [List.getElem?_eq_none (by simp; omega), List.getElem?_eq_none (by rw [hl]; omega)]; rfl
theorem rep_conf (n : Nat) : madeCells (Value.agg #[.int .i64 0, .int .i64 0, .bool false, .int .i64 0]).cells (n * 4) = (rowG cfC (List.replicate n cf0)).toArray := by
  have h := made_rep #[.int .i64 0, .int .i64 0, .bool false, .int .i64 0] n (by decide)
  have e : (Value.agg #[.int .i64 0, .int .i64 0, .bool false, .int .i64 0]).cells = #[.int .i64 0, .int .i64 0, .bool false, .int .i64 0] := by kernel_rfl
  rw [e]
  refine Eq.trans h ?_
  congr 1
  unfold rowG
  rw [List.flatMap_def, List.map_replicate]
  rfl
theorem rep_fs (n : Nat) : madeCells (Value.slice none 0 0).cells (n * 1) = (List.replicate n (Value.slice none 0 0)).toArray := by
  have h := made_rep #[Value.slice none 0 0] n (by decide)
  refine Eq.trans h ?_
  congr 1
  clear h
  induction n with
  | zero => rfl
  | succ n ih => rw [List.replicate_succ, List.flatten_cons, ih, List.replicate_succ]; rfl
theorem three_blocks (w : World) (A B C : Obj) : (((w.alloc A).alloc B).alloc C).drew.heap[w.heap.size]? = some A ∧ (((w.alloc A).alloc B).alloc C).drew.heap[w.heap.size + 1]? = some B ∧ (((w.alloc A).alloc B).alloc C).drew.heap[w.heap.size + 1 + 1]? = some C ∧ Below w.heap.size w (((w.alloc A).alloc B).alloc C).drew := by
  have s1 : (w.alloc A).heap.size = w.heap.size + 1 := by simp
  have s2 : ((w.alloc A).alloc B).heap.size = w.heap.size + 1 + 1 := by simp
  have n1 := heap_alloc_new w A
  have n2 := heap_alloc_new (w.alloc A) B
  have n3 := heap_alloc_new ((w.alloc A).alloc B) C
  rw [s1] at n2
  rw [s2] at n3
  refine ⟨?_, ?_, n3, ?_⟩
  · show (((w.alloc A).alloc B).alloc C).heap[w.heap.size]? = _
    rw [Below.heap_alloc _ _ _ (by omega), Below.heap_alloc _ _ _ (by omega)]
    exact n1
  · show (((w.alloc A).alloc B).alloc C).heap[w.heap.size + 1]? = _
    rw [Below.heap_alloc _ _ _ (by omega)]
    exact n2
  · exact ((((Below.refl _ w).alloc (Nat.le_refl _) A).alloc (by omega) B).alloc (by omega) C).drew
end Go.Proofs.Ytmpikfnemhjoeaa

namespace Go.Proofs.Ytmpikfnemhjoeaa
open Go.RowKit
set_option linter.unusedVariables false

def bxNew (m : Nat) : Bx := ⟨List.replicate m 0, List.replicate m pk0, [], []⟩
def boxesN (n : Int) : Nat := if n < 1 then 1 else if 1000 < n then 1000 else n.toNat
theorem info_pk : (Try.prog.info? 32).map (fun i => (i.zero, i.size, i.bytes)) = some (some (.agg (pkC pk0).toArray), 7, 64) := by kernel_rfl
theorem info_in : (Try.prog.info? 3).map (fun i => (i.zero, i.size, i.bytes)) = some (some (.int .i64 0), 1, 8) := by kernel_rfl
theorem rep_pk (n : Nat) : madeCells (Value.agg (pkC pk0).toArray).cells (n * 7) = (rowG pkC (List.replicate n pk0)).toArray := by
  have h := made_rep (pkC pk0).toArray n (by decide)
  have e : (Value.agg (pkC pk0).toArray).cells = (pkC pk0).toArray := by kernel_rfl
  rw [e]
  refine Eq.trans h ?_
  congr 1
  unfold rowG
  rw [List.flatMap_def, List.map_replicate]
theorem rep_in (n : Nat) : madeCells (Value.int .i64 0).cells (n * 1) = (rowG inC (List.replicate n 0)).toArray := by
  have h := made_rep #[Value.int .i64 0] n (by decide)
  refine Eq.trans h ?_
  congr 1
  unfold rowG
  rw [List.flatMap_def, List.map_replicate]
  rfl
theorem run_mkP (n : Nat) (hn : n ≤ 1000) (w : World) :
    (Instr.makeSlice 27 (.int .i64 n) (.int .i64 n)).run Try.prog w = .ok (.slice (some ⟨w.heap.size, 0, none⟩) n n) (w.alloc (.cells (rowG pkC (List.replicate n pk0)).toArray 32)) := by
  obtain ⟨i0, hi, hz0, hz1, hz2⟩ := info_parts info_pk
  have := run_make (P := Try.prog) w 27 32 i0 _ Try.underlying27 hi hz0 .i64 .i64 (n : Int) (n : Int) (by omega) (Int.le_refl _) (by rw [hz2]; omega) (by omega)
  rw [hz1, Int.toNat_natCast, rep_pk] at this
  exact this
end Go.Proofs.Ytmpikfnemhjoeaa
