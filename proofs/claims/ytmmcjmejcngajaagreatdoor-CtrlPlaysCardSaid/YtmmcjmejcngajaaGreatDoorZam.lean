/- Of no program: two rows of the call's own appended to in one region that draws (in either order); boxes of one cell. Of no program: 'clear' of a slice of one thing of several cells; a row whose head is cleared and cut off. Box, the document's side: what mailboxes are in memory; Free. Packets in memory: behind an address; a place of a row of packets. Box, the document's side: New. -/
import Derived.Test.YtmmcjmejcngajaaGreatDoorZal
import Derived.Test.YtmmcjmejcngajaaGreatDoorZai
import Derived.Laws.IdiomCopy
import Derived.Lib.SliceRun
import Derived.Test.YtmmcjmejcngajaaGreatDoorZag
namespace Go.Proofs.YtmmcjmejcngajaaGreatDoor
open Go.RowKit
set_option linter.unusedVariables false

/-! ### a box of one cell -/
def Bx1 (w : World) (k : Nat) (v : Value) (t : TypeId) : Prop := w.heap[k]? = some (.cells #[v] t (0, 0))
theorem Bx1.cell {w : World} {k : Nat} {v : Value} {t : TypeId} (h : Bx1 w k v t) : w.cell? ⟨k, 0, none⟩ = some v := by rw [Lib.cell_of_heap h]; rfl
theorem Bx1.live {w : World} {k : Nat} {v : Value} {t : TypeId} (h : Bx1 w k v t) : w.frozen? ⟨k, 0, none⟩ = false := Lib.frozen_of_heap h 0
theorem Bx1.lt {w : World} {k : Nat} {v : Value} {t : TypeId} (h : Bx1 w k v t) : k < w.heap.size := (Array.getElem?_eq_some_iff.1 h).1
theorem Bx1.set {w : World} {k : Nat} {v : Value} {t : TypeId} (h : Bx1 w k v t) (u : Value) : Bx1 (w.setCell ⟨k, 0, none⟩ u) k u t := by
  unfold Bx1
  rw [heap_setCell_same w k 0 #[v] t u h]
  rfl
theorem Bx1.other {w : World} {k : Nat} {v : Value} {t : TypeId} (h : Bx1 w k v t) {l : Nat} (hl : k ≠ l) (u : Value) : Bx1 (w.setCell ⟨l, 0, none⟩ u) k v t := by
  unfold Bx1
  rw [Below.heap_setCell _ _ _ _ hl]
  exact h
theorem Bx1.made (w : World) (v : Value) (t : TypeId) {k : Nat} (hk : w.heap.size = k) : Bx1 (w.alloc (.cells #[v] t)) k v t := by
  subst hk
  unfold Bx1 World.alloc
  simp
theorem Bx1.later {w w' : World} {k : Nat} {v : Value} {t : TypeId} (h : Bx1 w k v t) (hb : Below w.heap.size w w') : Bx1 w' k v t := (hb.block k h.lt).trans h
theorem Bx1.kept {w w' : World} {k : Nat} {v : Value} {t : TypeId} {O : Nat → Prop} (h : Bx1 w k v t) (hk : Kept O w w') (hn : ¬ O k) : Bx1 w' k v t := (hk.block k h.lt hn).trans h

/-! ### one of the two rows -/
section
variable {α : Type} {c : α → List Value} {kk : Nat} {u : Value} {f : α} {t : TypeId} {L : List α} {W w w' : World} {tx tr : Tmp} {xs : Tmp → Option Value}
def RowS (c : α → List Value) (kk : Nat) (u : Value) (f : α) (t : TypeId) (L : List α) (W : World) (tx tr : Tmp) (xs : Tmp → Option Value) (w : World) : Prop :=
  (xs tr = none ∧ RowQ c kk w u L ∧ ∀ x, xs tx = some x → ∃ g, x = .slice (some ⟨g, 0, none⟩) 1 1 ∧ W.heap.size ≤ g ∧ w.heap[g]? = some (.cells (c f).toArray t (0, 0))) ∨ ∃ v', xs tr = some v' ∧ RowQ c kk w v' (L ++ [f]) ∧ Grows (OwnO u) W (OwnO v')
theorem RowS.start (h : RowQ c kk W u L) : RowS c kk u f t L W tx tr (fun _ => none) W.drew := .inl ⟨rfl, h.later (Below.refl _ _).drew, fun x hx => by cases hx⟩
theorem RowS.keep {O : Nat → Prop} (h : RowS c kk u f t L W tx tr xs w) (hk : Kept O w w') (hW : W.heap.size ≤ w.heap.size) (hO : ∀ k, O k → k < W.heap.size ∧ ¬ OwnO u k) : RowS c kk u f t L W tx tr xs w' := by
  rcases h with ⟨h0, h1, h2⟩ | ⟨v', h0, h1, h2⟩
  · refine .inl ⟨h0, h1.stay (fun g hg => hk.block g (h1.lt g hg) (fun ho => (hO g ho).2 hg)) hk.size, fun x hx => ?_⟩
    obtain ⟨g, e, hg, hh⟩ := h2 x hx
    exact ⟨g, e, hg, (hk.block g (Array.getElem?_eq_some_iff.1 hh).1 (fun ho => by have := (hO g ho).1; omega)).trans hh⟩
  · refine .inr ⟨v', h0, h1.stay (fun g hg => hk.block g (h1.lt g hg) (fun ho => ?_)) hk.size, h2⟩
    have := hO g ho
    rcases h2 g hg with h3 | h3
    · exact this.2 h3
    · omega
theorem RowS.later (h : RowS c kk u f t L W tx tr xs w) (hb : Below w.heap.size w w') (hW : W.heap.size ≤ w.heap.size) : RowS c kk u f t L W tx tr xs w' := h.keep (O := fun _ => False) (.of_below hb) hW (fun k hk => hk.elim)
theorem RowS.skip (h : RowS c kk u f t L W tx tr xs w) {s : Tmp} (y : Value) (h1 : tx ≠ s) (h2 : tr ≠ s) : RowS c kk u f t L W tx tr (fun r => if r = s then some y else xs r) w := by
  unfold RowS at *
  simp only [if_neg h1, if_neg h2]
  exact h
theorem RowS.one (h : RowS c kk u f t L W tx tr xs w) (hne : tr ≠ tx) (hW : W.heap.size ≤ w.heap.size) : RowS c kk u f t L W tx tr (fun r => if r = tx then some (.slice (some ⟨w.heap.size, 0, none⟩) 1 1) else xs r) (w.alloc (.cells (c f).toArray t)) := by
  have hb : Below w.heap.size w (w.alloc (.cells (c f).toArray t)) := (Below.refl _ _).alloc (Nat.le_refl _) _
  have h' := h.later hb hW
  rcases h' with ⟨h0, h1, h2⟩ | ⟨v', h0, h1, h2⟩
  · refine .inl ⟨by simp only; rw [if_neg hne]; exact h0, h1, fun x hx => ?_⟩
    simp at hx
    subst hx
    exact ⟨_, rfl, hW, by unfold World.alloc; simp⟩
  · exact .inr ⟨v', by simp only; rw [if_neg hne]; exact h0, h1, h2⟩
theorem RdA.block (hkk : ∀ a, (c a).length = kk) {g : Nat} (h : w.heap[g]? = some (.cells (c f).toArray t (0, 0))) : RdA c kk w (.slice (some ⟨g, 0, none⟩) 1 1) [f] := by
  refine ⟨⟨_, _, rfl, by unfold maxLen; simp, fun i a ha => ?_⟩, .inr ⟨_, _, rfl, Nat.le_refl _⟩⟩
  have hi : i = 0 := by
    rcases Nat.lt_or_ge i 1 with h | h
    · omega
    · rw [List.getElem?_eq_none (by simpa using h)] at ha; cases ha
  subst hi
  simp at ha
  subst ha
  refine ⟨_, rfl, (Array.getElem?_eq_some_iff.1 h).1, fun j u hu => ?_⟩
  rw [Nat.zero_mul, Nat.zero_add, qaddr, Lib.cell_of_heap h]
  simpa using hu
theorem RowS.rd (hkk : ∀ a, (c a).length = kk) (h : RowS c kk u f t L W tx tr xs w) (h0 : xs tr = none) {x : Value} (hx : xs tx = some x) : RowQ c kk w u L ∧ RdA c kk w x [f] := by
  rcases h with ⟨_, h1, h2⟩ | ⟨v', h1, _⟩
  · obtain ⟨g, rfl, _, hg⟩ := h2 x hx
    exact ⟨h1, RdA.block hkk hg⟩
  · rw [h0] at h1; cases h1
theorem RowS.app {v' : Value} (hq : RowQ c kk w' v' (L ++ [f])) (hg : Grows (OwnO u) w (OwnO v')) (hW : W.heap.size ≤ w.heap.size) : RowS c kk u f t L W tx tr (fun r => if r = tr then some v' else xs r) w' :=
  .inr ⟨v', by simp, hq, fun k hk => (hg k hk).imp id (Nat.le_trans hW)⟩
theorem RowS.out {v : Value} (h : RowS c kk u f t L W tx tr xs w) (hv : xs tr = some v) : RowQ c kk w v (L ++ [f]) ∧ Grows (OwnO u) W (OwnO v) := by
  rcases h with ⟨h0, _⟩ | ⟨v', h1, h2, h3⟩
  · rw [hv] at h0; cases h0
  · rw [hv] at h1
    injection h1 with h1
    subst h1
    exact ⟨h2, h3⟩
end
/-! ### both -/
section
variable {α β : Type} {c : α → List Value} {kk : Nat} {u : Value} {f : α} {t : TypeId} {L : List α} {c' : β → List Value} {kk' : Nat} {u' : Value} {f' : β} {t' : TypeId} {L' : List β} {W w w' : World} {tx tr tx' tr' : Tmp} {xs : Tmp → Option Value}
structure TwoS (c : α → List Value) (kk : Nat) (u : Value) (f : α) (t : TypeId) (L : List α) (tx tr : Tmp) (c' : β → List Value) (kk' : Nat) (u' : Value) (f' : β) (t' : TypeId) (L' : List β) (tx' tr' : Tmp) (W : World) (xs : Tmp → Option Value) (w : World) : Prop where
  kept : Kept (fun k => OwnO u k ∨ OwnO u' k) W w
  a : RowS c kk u f t L W tx tr xs w
  b : RowS c' kk' u' f' t' L' W tx' tr' xs w
  ap : Apart (OwnO u) (OwnO u')
  lt : ∀ k, OwnO u k ∨ OwnO u' k → k < W.heap.size
  apv : ∀ v v', xs tr = some v → xs tr' = some v' → Apart (OwnO v) (OwnO v')
theorem TwoS.start (h : RowQ c kk W u L) (h' : RowQ c' kk' W u' L') (ap : Apart (OwnO u) (OwnO u')) : TwoS c kk u f t L tx tr c' kk' u' f' t' L' tx' tr' W (fun _ => none) W.drew :=
  ⟨.of_below (Below.refl _ _).drew, RowS.start h, RowS.start h', ap, fun k hk => by rcases hk with h1 | h1; exact h.lt k h1; exact h'.lt k h1, fun v v' h => by cases h⟩
theorem TwoS.oneA (h : TwoS c kk u f t L tx tr c' kk' u' f' t' L' tx' tr' W xs w) (h1 : tr ≠ tx) (h2 : tx' ≠ tx) (h3 : tr' ≠ tx) :
    TwoS c kk u f t L tx tr c' kk' u' f' t' L' tx' tr' W (fun r => if r = tx then some (.slice (some ⟨w.heap.size, 0, none⟩) 1 1) else xs r) (w.alloc (.cells (c f).toArray t)) := by
  have hb : Below w.heap.size w (w.alloc (.cells (c f).toArray t)) := (Below.refl _ _).alloc (Nat.le_refl _) _
  exact ⟨h.kept.trans (.of_below (O := fun k => OwnO u k ∨ OwnO u' k) hb) (Grows.refl _ _), h.a.one h1 h.kept.size, (h.b.later hb h.kept.size).skip _ h2 h3, h.ap, h.lt, fun v v' e1 e2 => by
    simp only [if_neg h1, if_neg h3] at e1 e2
    exact h.apv v v' e1 e2⟩
theorem TwoS.oneB (h : TwoS c kk u f t L tx tr c' kk' u' f' t' L' tx' tr' W xs w) (h1 : tr' ≠ tx') (h2 : tx ≠ tx') (h3 : tr ≠ tx') :
    TwoS c kk u f t L tx tr c' kk' u' f' t' L' tx' tr' W (fun r => if r = tx' then some (.slice (some ⟨w.heap.size, 0, none⟩) 1 1) else xs r) (w.alloc (.cells (c' f').toArray t')) := by
  have hb : Below w.heap.size w (w.alloc (.cells (c' f').toArray t')) := (Below.refl _ _).alloc (Nat.le_refl _) _
  exact ⟨h.kept.trans (.of_below (O := fun k => OwnO u k ∨ OwnO u' k) hb) (Grows.refl _ _), (h.a.later hb h.kept.size).skip _ h2 h3, h.b.one h1 h.kept.size, h.ap, h.lt, fun v v' e1 e2 => by
    simp only [if_neg h1, if_neg h3] at e1 e2
    exact h.apv v v' e1 e2⟩
theorem kept_to {A B : Nat → Prop} (h : Kept A w w') (hs : ∀ k, A k → B k) : Kept B w w' := ⟨h.os, h.tape, h.output, h.size, fun k hk hn => h.block k hk (fun ha => hn (hs k ha))⟩
theorem TwoS.appA {v' : Value} (h : TwoS c kk u f t L tx tr c' kk' u' f' t' L' tx' tr' W xs w) (hq : RowQ c kk w' v' (L ++ [f])) (hk : Kept (OwnO u) w w') (hg : Grows (OwnO u) w (OwnO v')) (h2 : tx' ≠ tr) (h3 : tr' ≠ tr) :
    TwoS c kk u f t L tx tr c' kk' u' f' t' L' tx' tr' W (fun r => if r = tr then some v' else xs r) w' :=
  ⟨h.kept.trans (kept_to hk fun k h => .inl h) (Grows.refl _ _), RowS.app hq hg h.kept.size, (h.b.keep hk h.kept.size (fun k hk' => ⟨h.lt k (.inl hk'), fun h' => h.ap k hk' h'⟩)).skip _ h2 h3, h.ap, h.lt, fun v v2 e1 e2 k k1 k2 => by
    simp only [if_neg h3, if_true] at e1 e2
    injection e1 with e1
    subst e1
    obtain ⟨r2, g2⟩ := h.b.out e2
    have l2 := r2.lt k k2
    rcases hg k k1 with h4 | h4
    · rcases g2 k k2 with h5 | h5
      · exact h.ap k h4 h5
      · have := h.lt k (.inl h4); omega
    · omega⟩
theorem TwoS.appB {v' : Value} (h : TwoS c kk u f t L tx tr c' kk' u' f' t' L' tx' tr' W xs w) (hq : RowQ c' kk' w' v' (L' ++ [f'])) (hk : Kept (OwnO u') w w') (hg : Grows (OwnO u') w (OwnO v')) (h2 : tx ≠ tr') (h3 : tr ≠ tr') :
    TwoS c kk u f t L tx tr c' kk' u' f' t' L' tx' tr' W (fun r => if r = tr' then some v' else xs r) w' :=
  ⟨h.kept.trans (kept_to hk fun k h => .inr h) (Grows.refl _ _), (h.a.keep hk h.kept.size (fun k hk' => ⟨h.lt k (.inr hk'), fun h' => h.ap k h' hk'⟩)).skip _ h2 h3, RowS.app hq hg h.kept.size, h.ap, h.lt, fun v v2 e1 e2 k k1 k2 => by
    simp only [if_neg h3, if_true] at e1 e2
    injection e2 with e2
    subst e2
    obtain ⟨r2, g2⟩ := h.a.out e1
    have l2 := r2.lt k k1
    rcases hg k k2 with h4 | h4
    · rcases g2 k k1 with h5 | h5
      · exact h.ap k h5 h4
      · have := h.lt k (.inr h4); omega
    · omega⟩
end
/-! ### an append outside of the chain -/
section
variable {P : Program} {ops : Array Oper} {st : List Nat} {G : Nat → (Tmp → Option Value) → World → Prop} {sec : List Tmp} {Q : Act → Prop} {o : Oper} {rest : List Oper} {h : Act} {i : Nat}
theorem st_appF {α : Type} {c : α → List Value} {kk bytes : Nat} {T E : TypeId} {L M : List α} {ts tx tr : Tmp} {v : Value} (hT : FlatE P T E kk bytes) (hkk : ∀ a, (c a).length = kk) (hone : ∀ a, ∀ u ∈ c a, u.oneCell' = true)
    (hi : st.contains i = false) (hw : Region.wanted o (yielded ops h.tmps) = true) (ho : o.op = .call { callee := .builtin .append, args := #[.tmp ts, .tmp tx], argTypes := #[T, T] }) (hd : o.dst = some tr)
    (hs1 : sec.contains tr = true) (hs2 : sec.contains tx = true) (hs3 : sec.contains ts = false) (hl1 : ts ∈ o.looksAt ops) (hl2 : tx ∈ o.looksAt ops) (hv : h.tmps.getD ts undef = v)
    (hrd : ∀ j xs w x, G j xs w → xs tr = none → xs tx = some x → RowQ c kk w v L ∧ RdA c kk w x M) (hsz : L.length + M.length ≤ 1000000)
    (hG : ∀ j xs w v' w', G j xs w → RowQ c kk w' v' (L ++ M) → Kept (OwnO v) w w' → Grows (OwnO v) w (OwnO v') → G j (fun t => if t = tr then some v' else xs t) w')
    (hk : wpSt P ops st G sec Q (i + 1) rest (h.put o.dst undef)) : wpSt P ops st G sec Q i (o :: rest) h := by
  unfold wpSt
  rw [if_pos hw]
  refine ⟨undef, fun j xs a w hj hjk hb hfr hlk => ?_, hk⟩
  have hi' : i ∉ st := by simpa using hi
  have h1 := hlk ts hl1
  have h2 := hlk tx hl2
  have s1 : tr ∈ sec := by simpa using hs1
  rw [if_neg (by simpa using hs3), hv] at h1
  rw [if_pos (by simpa using hs2)] at h2
  obtain ⟨x, hx⟩ : ∃ x, a.tmps.getD tx undef = x := ⟨_, rfl⟩
  rw [hx] at h2
  obtain ⟨r1, r2⟩ := hrd j xs w _ hb (hfr tr hd s1) h2
  obtain ⟨v', w', hrun, q1, q2, q3⟩ := r1.run hT hkk (RowQ.src r2 hkk hone hT.1) hsz o.type
  have e1 : a.eval (.tmp ts) = v := h1
  have e2 : a.eval (.tmp tx) = x := hx
  rw [if_neg hi']
  simp [execOp, ho, resolve, invoke, builtin, e1, e2, hrun, Result.andThen, stUpon, hd]
  refine ⟨?_, .inl s1⟩
  have := hG j xs w v' w' hb q1 q2 q3
  unfold hidPut
  simp only
  rw [if_pos s1]
  exact this
end
end Go.Proofs.YtmmcjmejcngajaaGreatDoor

namespace Go.Proofs.YtmmcjmejcngajaaGreatDoor
open Go.RowKit
set_option linter.unusedVariables false

theorem wpList_clearK {P : Program} {w : World} {ops : Array Oper} {rest : List Oper} {o : Oper} {a : Act} {Q : Exit → Act → World → Prop} (hgd : o.guard = none) (x : Operand) (T E : TypeId)
    (ho : o.op = .call { callee := .builtin .clear, args := #[x], argTypes := #[T] }) (ht : P.underlying T = some (.slice E)) (z : Value) (hz : ∀ w, (zeroValue E).run P w = .ok z w) (zs : List Value) (hzs : (Builtin.zeroCells z.cells 1).toList = zs) (hone : ∀ u ∈ zs, u.oneCell' = true)
    (g i c : Nat) (hx : a.eval x = .slice (some ⟨g, i, none⟩) 1 c) (hc : ∀ j, j < zs.length → (w.cell? ⟨g, i + j, none⟩).isSome = true) (hf : ∀ j, j < zs.length → w.frozen? ⟨g, i + j, none⟩ = false)
    (h : wpList P ops Q rest (a.put o.dst (.tuple #[])) (w.setCells g i zs)) : wpList P ops Q (o :: rest) a w := by
  refine wpList_plain hgd fun K hK => ?_
  have hst := run_storeCells_cells (P := P) g i zs 0 w (by simpa using hc) (by simpa using hf) hone
  simp only [Nat.add_zero] at hst
  unfold Oper.wp
  simp [execOp, ho, resolve, invoke, builtin, hx, Builtin.clear_, run_underlying ht, hz, hzs, hst, Result.andThen]
  exact hK _ _ h
section
variable {α : Type} {c : α → List Value} {k : Nat} {w : World} {v : Value} {L M : List α}
theorem RowQ.head {a : α} (h : RowQ c k w v (a :: M)) : ∃ g o cap, v = .slice (some ⟨g, o, none⟩) (M.length + 1) cap ∧ M.length + 1 ≤ cap ∧ ∀ j, j < k → (w.cell? ⟨g, o + j, none⟩).isSome = true ∧ w.frozen? ⟨g, o + j, none⟩ = false := by
  rcases h with ⟨_, h⟩ | ⟨g, o, cap, hv, h1, h2, h3, h4, h5⟩
  · cases h
  · simp only [List.length_cons] at hv h1
    refine ⟨g, o, cap, hv, h1, fun j hj => h5 j ?_⟩
    exact Nat.lt_of_lt_of_le hj (Nat.le_mul_of_pos_left _ (by omega))
theorem RowQ.cut {a : α} {g o n cap : Nat} {zs : List Value} (h : RowQ c k w (.slice (some ⟨g, o, none⟩) n cap) (a :: M)) (hk : ∀ a, (c a).length = k) (hM : 1 ≤ M.length) (hz : zs.length = k) :
    RowQ c k (w.setCells g o zs) (.slice (some ⟨g, o + k, none⟩) M.length (cap - 1)) M := by
  rcases h with ⟨h, _⟩ | ⟨g', o', cap', hv, h1, h2, h3, h4, h5⟩
  · cases h
  · injection hv with hA hn hcap
    injection hA with hA
    injection hA with e1 e2
    subst e1 e2 hcap
    simp only [List.length_cons] at h1
    have hrow : rowG c (a :: M) = c a ++ rowG c M := by simp [rowG]
    refine .inr ⟨g, o + k, cap - 1, rfl, by omega, by omega, by rw [setCells_size]; exact h3, fun j u hu => ?_, fun j hj => ?_⟩
    · rw [World.cell?_setCells_out g _ _ _ _ (fun _ _ => .inr (by simp only; omega)), Nat.add_assoc]
      refine h4 (k + j) u ?_
      rw [hrow, List.getElem?_append_right (by rw [hk]; omega), hk, Nat.add_sub_cancel_left]
      exact hu
    · rw [World.cell?_setCells_out g _ _ _ _ (fun _ _ => .inr (by simp only; omega)), World.frozen?_setCells, Nat.add_assoc]
      refine h5 (k + j) ?_
      obtain ⟨m, rfl⟩ : ∃ m, cap = m + 1 := ⟨cap - 1, by omega⟩
      rw [Nat.add_sub_cancel] at hj
      rw [Nat.add_mul]; omega
theorem cut_kept {g o n cap n' o' cap' : Nat} {zs : List Value} : Kept (OwnO (.slice (some ⟨g, o, none⟩) n cap)) w (w.setCells g o zs) ∧ Grows (OwnO (.slice (some ⟨g, o, none⟩) n cap)) w (OwnO (.slice (some ⟨g, o', none⟩) n' cap')) := by
  obtain ⟨r1, r2, r3⟩ := setCells_rest w g o zs
  exact ⟨⟨r1, r2, r3, by rw [setCells_size]; exact Nat.le_refl _, fun i _ hn => setCells_heap _ _ _ _ (fun e => hn (by subst e; rfl))⟩, fun k hk => .inl hk⟩
end
end Go.Proofs.YtmmcjmejcngajaaGreatDoor

namespace Go.Proofs.YtmmcjmejcngajaaGreatDoor
open Go.RowKit
set_option linter.unusedVariables false

/-- a packet -/
structure Pk where
  f : Fr
  fr : Int
  tag : Int
  lp : Bool
def pkC (p : Pk) : List Value := [.int .i64 p.f.i, .int .i64 p.f.n, .int .i64 p.f.l, .string p.f.d, .int .i64 p.fr, .int .i64 p.tag, .bool p.lp]
theorem pkC_len (p : Pk) : (pkC p).length = 7 := rfl
def inC (x : Int) : List Value := [.int .i64 x]
theorem inC_len (x : Int) : (inC x).length = 1 := rfl
/-- mailboxes: states, packets, those that are ready as they were put, those that have ended -/
structure Bx where
  S : List Int
  P : List Pk
  ord : List Int
  fin : List Int
structure BxM (w : World) (b gs gp : Nat) (vo ve : Value) (s : Bx) : Prop where
  box : w.heap[b]? = some (.cells #[.slice (some ⟨gs, 0, none⟩) s.S.length s.S.length, .slice (some ⟨gp, 0, none⟩) s.S.length s.S.length, vo, ve] 49 (0, 0))
  st : w.heap[gs]? = some (.cells (rowG inC s.S).toArray 3 (0, 0))
  pk : w.heap[gp]? = some (.cells (rowG pkC s.P).toArray 35 (0, 0))
  len : s.P.length = s.S.length
  ord : RowQ inC 1 w vo s.ord
  fin : RowQ inC 1 w ve s.fin
  h1 : b ≠ gs
  h2 : b ≠ gp
  h3 : gs ≠ gp
  f1 : ¬ OwnO vo b ∧ ¬ OwnO vo gs ∧ ¬ OwnO vo gp
  f2 : ¬ OwnO ve b ∧ ¬ OwnO ve gs ∧ ¬ OwnO ve gp
  f3 : Apart (OwnO vo) (OwnO ve)
def bxO (b gs gp : Nat) (vo ve : Value) : Nat → Prop := fun k => k = b ∨ k = gs ∨ k = gp ∨ OwnO vo k ∨ OwnO ve k
def BxD (w : World) (v : Value) (s : Bx) (O : Nat → Prop) : Prop := ∃ b gs gp vo ve, v = .pointer (some ⟨b, 0, none⟩) ∧ O = bxO b gs gp vo ve ∧ BxM w b gs gp vo ve s
section
variable {w w' : World} {b gs gp : Nat} {vo ve : Value} {s : Bx}
theorem BxM.lt (h : BxM w b gs gp vo ve s) : ∀ k, bxO b gs gp vo ve k → k < w.heap.size := by
  rintro k (rfl | rfl | rfl | hk | hk)
  · exact heap_some_lt h.box
  · exact heap_some_lt h.st
  · exact heap_some_lt h.pk
  · exact h.ord.lt k hk
  · exact h.fin.lt k hk
theorem BxM.stay (h : BxM w b gs gp vo ve s) (hs : ∀ k, bxO b gs gp vo ve k → w'.heap[k]? = w.heap[k]?) : BxM w' b gs gp vo ve s := by
  have hz : ∀ k, bxO b gs gp vo ve k → k < w'.heap.size := fun k hk => by
    have h1 := hs k hk
    have h2 := h.lt k hk
    rw [Array.getElem?_eq_getElem h2] at h1
    exact heap_some_lt h1
  exact ⟨(hs b (.inl rfl)).trans h.box, (hs gs (.inr (.inl rfl))).trans h.st, (hs gp (.inr (.inr (.inl rfl)))).trans h.pk, h.len,
    h.ord.stayL (fun k hk => hs k (.inr (.inr (.inr (.inl hk))))) (fun k hk => hz k (.inr (.inr (.inr (.inl hk))))),
    h.fin.stayL (fun k hk => hs k (.inr (.inr (.inr (.inr hk))))) (fun k hk => hz k (.inr (.inr (.inr (.inr hk))))), h.h1, h.h2, h.h3, h.f1, h.f2, h.f3⟩
theorem BxM.later (h : BxM w b gs gp vo ve s) (hb : Below w.heap.size w w') : BxM w' b gs gp vo ve s := h.stay (fun k hk => hb.block k (h.lt k hk))
theorem isObj_box : IsObj BxD where
  stay := by
    rintro w w' v s O ⟨b, gs, gp, vo, ve, rfl, rfl, h⟩ hs
    exact ⟨b, gs, gp, vo, ve, rfl, rfl, h.stay hs⟩
  lt := by
    rintro w v s O ⟨b, gs, gp, vo, ve, rfl, rfl, h⟩
    exact h.lt
theorem BxM.cells (h : BxM w b gs gp vo ve s) : w.cell? ⟨b, 0, none⟩ = some (.slice (some ⟨gs, 0, none⟩) s.S.length s.S.length) ∧ w.cell? ⟨b, 1, none⟩ = some (.slice (some ⟨gp, 0, none⟩) s.S.length s.S.length) ∧ w.cell? ⟨b, 2, none⟩ = some vo ∧ w.cell? ⟨b, 3, none⟩ = some ve := by
  have hb := h.box
  refine ⟨?_, ?_, ?_, ?_⟩ <;> (rw [Lib.cell_of_heap hb]; rfl)
theorem BxM.live (h : BxM w b gs gp vo ve s) (j : Nat) : w.frozen? ⟨b, j, none⟩ = false := Lib.frozen_of_heap h.box j
theorem BxM.state (h : BxM w b gs gp vo ve s) {i : Nat} {x : Int} (hx : s.S[i]? = some x) : w.cell? ⟨gs, i, none⟩ = some (.int .i64 x) ∧ w.frozen? ⟨gs, i, none⟩ = false := by
  refine ⟨?_, Lib.frozen_of_heap h.st i⟩
  rw [Lib.cell_of_heap h.st]
  simpa using rowG_get inC_len s.S i _ hx 0 _ rfl
theorem BxM.packet (h : BxM w b gs gp vo ve s) {i : Nat} {p : Pk} (hp : s.P[i]? = some p) : ∀ j u, (pkC p)[j]? = some u → w.cell? ⟨gp, i * 7 + j, none⟩ = some u := fun j u hu => by
  rw [Lib.cell_of_heap h.pk]
  simpa using rowG_get pkC_len s.P i _ hp j u hu
end
/-- how many are free -/
def Bx.free (s : Bx) (k : Nat) : Nat := ((s.S.take k).filter (· == 0)).length
theorem Bx.free_succ (s : Bx) {k : Nat} (h : k < s.S.length) : s.free (k + 1) = s.free k + (if s.S[k] = 0 then 1 else 0) := by
  unfold Bx.free
  rw [List.take_succ_eq_append_getElem h, List.filter_append, List.length_append]
  by_cases h0 : s.S[k] = 0 <;> simp [h0]
theorem Bx.free_le (s : Bx) (k : Nat) : s.free k ≤ k := by
  unfold Bx.free
  exact Nat.le_trans (List.length_filter_le _ _) (by rw [List.length_take]; omega)
set_option maxHeartbeats 2000000 in
theorem xfree_v {v : Value} {s : Bx} {O : Nat → Prop} (w : World) (h : BxD w v s O) (hl : s.S.length ≤ 1000) : Calls Tryz.prog 13 #[v] w fun e w' => e = .returned (.int .i64 (s.free s.S.length : Nat)) ∧ w = w' := by
  obtain ⟨b, gs, gp, vo, ve, rfl, rfl, h⟩ := h
  have H := Lib.hid h
  obtain ⟨c0, c1, c2, c3⟩ := h.cells
  have hb := heap_some_lt h.box
  have hg := heap_some_lt h.st
  have hl2 : (s.S.length : Int) ≤ 1000 := by omega
  clear h
  go_enter Tryz.func13, Tryz.ntmps13
  go_wp2_with fail
  go_loop [3, 4] (fun n i => ∃ k : Nat, k ≤ s.S.length ∧ i = .int .i64 k ∧ n = .int .i64 (s.free k : Nat)) (fun _ i => s.S.length - (intOf i).toNat)
  case atStart => exact ⟨0, by omega, rfl, rfl⟩
  case round =>
    obtain ⟨k, hk, rfl, rfl⟩ := hrel
    have hf := s.free_le k
    by_cases hlt : k < s.S.length
    · have hkl : (k : Int) < (s.S.length : Int) := by omega
      obtain ⟨x, hx⟩ : ∃ x, s.S[k]? = some x := ⟨_, List.getElem?_eq_getElem hlt⟩
      have hx2 : s.S[k] = x := by rw [List.getElem?_eq_getElem hlt] at hx; exact Option.some.inj hx
      have a0 := (H.out.state hx).1
      have HS := Lib.hid (s.free_succ hlt)
      rw [hx2] at HS
      clear hx hx2
      by_cases h0 : x = 0
      · subst h0
        have hsc : Hid (s.free (k + 1) = s.free k + 1) := Lib.hid (by rw [HS.out]; rfl)
        go_wp2
        exact ⟨⟨k + 1, by omega, by go_num, by rw [hsc.out]; go_num⟩, by simp [intOf]; omega⟩
      · have hsc : Hid (s.free (k + 1) = s.free k) := Lib.hid (by rw [HS.out, if_neg h0]; rfl)
        have e0 : (x == 0) = false := by simp [h0]
        go_wp2
        exact ⟨⟨k + 1, by omega, by go_num, by rw [hsc.out]⟩, by simp [intOf]; omega⟩
    · obtain rfl : k = s.S.length := by omega
      go_wp2
      go_ret
      exact ⟨rfl, rfl⟩
end Go.Proofs.YtmmcjmejcngajaaGreatDoor

namespace Go.Proofs.YtmmcjmejcngajaaGreatDoor
open Go.RowKit
set_option linter.unusedVariables false

/-- no packet -/
def pk0 : Pk := ⟨⟨0, 0, 0, ByteArray.mk #[]⟩, 0, 0, false⟩
abbrev pkV (p : Pk) : Value := .agg #[.int .i64 p.f.i, .int .i64 p.f.n, .int .i64 p.f.l, .string p.f.d, .int .i64 p.fr, .int .i64 p.tag, .bool p.lp]
/-- a packet behind an address -/
def BoxP (w : World) (b : Nat) (p : Pk) : Prop := w.heap[b]? = some (.cells #[.int .i64 p.f.i, .int .i64 p.f.n, .int .i64 p.f.l, .string p.f.d, .int .i64 p.fr, .int .i64 p.tag, .bool p.lp] 35 (0, 0))
theorem BoxP.made (w : World) (p : Pk) : BoxP (w.alloc (.cells #[.int .i64 p.f.i, .int .i64 p.f.n, .int .i64 p.f.l, .string p.f.d, .int .i64 p.fr, .int .i64 p.tag, .bool p.lp] 35)) w.heap.size p := by unfold BoxP World.alloc; simp
theorem BoxP.lt {w : World} {b : Nat} {p : Pk} (h : BoxP w b p) : b < w.heap.size := (Array.getElem?_eq_some_iff.1 h).1
theorem BoxP.later {w w' : World} {b : Nat} {p : Pk} (h : BoxP w b p) (hb : Below w.heap.size w w') : BoxP w' b p := (hb.block b h.lt).trans h
theorem BoxP.kept {w w' : World} {b : Nat} {p : Pk} {O : Nat → Prop} (h : BoxP w b p) (hk : Kept O w w') (hn : ¬ O b) : BoxP w' b p := (hk.block b h.lt hn).trans h
theorem BoxP.cells {w : World} {b : Nat} {p : Pk} (h : BoxP w b p) : w.cell? ⟨b, 0, none⟩ = some (.int .i64 p.f.i) ∧ w.cell? ⟨b, 1, none⟩ = some (.int .i64 p.f.n) ∧ w.cell? ⟨b, 2, none⟩ = some (.int .i64 p.f.l) ∧ w.cell? ⟨b, 3, none⟩ = some (.string p.f.d) ∧
    w.cell? ⟨b, 4, none⟩ = some (.int .i64 p.fr) ∧ w.cell? ⟨b, 5, none⟩ = some (.int .i64 p.tag) ∧ w.cell? ⟨b, 6, none⟩ = some (.bool p.lp) := by
  unfold BoxP at h
  refine ⟨?_, ?_, ?_, ?_, ?_, ?_, ?_⟩ <;> (rw [Lib.cell_of_heap h]; rfl)
def putP (w : World) (g i : Nat) (p : Pk) : World :=
  ((((((w.setCell ⟨g, i * 7, none⟩ (.int .i64 p.f.i)).setCell ⟨g, i * 7 + 1, none⟩ (.int .i64 p.f.n)).setCell ⟨g, i * 7 + 2, none⟩ (.int .i64 p.f.l)).setCell ⟨g, i * 7 + 3, none⟩ (.string p.f.d)).setCell ⟨g, i * 7 + 4, none⟩ (.int .i64 p.fr)).setCell ⟨g, i * 7 + 5, none⟩ (.int .i64 p.tag)).setCell ⟨g, i * 7 + 6, none⟩ (.bool p.lp)
theorem rowG_setP (c : Pk) : ∀ (N : List Pk) (i : Nat), i < N.length → (((((((rowG pkC N).set (i * 7) (.int .i64 c.f.i)).set (i * 7 + 1) (.int .i64 c.f.n)).set (i * 7 + 2) (.int .i64 c.f.l)).set (i * 7 + 3) (.string c.f.d)).set (i * 7 + 4) (.int .i64 c.fr)).set (i * 7 + 5) (.int .i64 c.tag)).set (i * 7 + 6) (.bool c.lp) = rowG pkC (N.set i c)
  | [], i, h => by cases h
  | a :: N, 0, h => rfl
  | a :: N, i + 1, h => by
    have ih := rowG_setP c N i (by simpa using h)
    have e : rowG pkC (a :: N) = pkC a ++ rowG pkC N := by simp [rowG]
    have e2 : rowG pkC ((a :: N).set (i + 1) c) = pkC a ++ rowG pkC (N.set i c) := by simp [rowG]
    rw [e, e2, ← ih]
    have l : (pkC a).length = 7 := rfl
    iterate 7 rw [List.set_append_right _ _ (by rw [l]; omega)]
    rw [l]
    congr 1
    rw [show (i + 1) * 7 - 7 = i * 7 by omega, show (i + 1) * 7 + 1 - 7 = i * 7 + 1 by omega, show (i + 1) * 7 + 2 - 7 = i * 7 + 2 by omega, show (i + 1) * 7 + 3 - 7 = i * 7 + 3 by omega, show (i + 1) * 7 + 4 - 7 = i * 7 + 4 by omega, show (i + 1) * 7 + 5 - 7 = i * 7 + 5 by omega, show (i + 1) * 7 + 6 - 7 = i * 7 + 6 by omega]
theorem putP_other {w : World} {g i k : Nat} {c : Pk} (h : k ≠ g) : (putP w g i c).heap[k]? = w.heap[k]? := by
  unfold putP
  iterate 7 rw [Below.heap_setCell _ _ _ _ h]
theorem putP_size (w : World) (g i : Nat) (c : Pk) : (putP w g i c).heap.size = w.heap.size := by unfold putP; simp [World.setCell]
theorem setCell_rest1 (w : World) (a : Addr) (u : Value) : (w.setCell a u).os = w.os ∧ (w.setCell a u).tape = w.tape ∧ (w.setCell a u).output = w.output := ⟨rfl, rfl, rfl⟩
theorem putP_rest (w : World) (g i : Nat) (c : Pk) : (putP w g i c).os = w.os ∧ (putP w g i c).tape = w.tape ∧ (putP w g i c).output = w.output := by
  unfold putP
  refine ⟨?_, ?_, ?_⟩
  · iterate 7 rw [(setCell_rest1 _ _ _).1]
  · iterate 7 rw [(setCell_rest1 _ _ _).2.1]
  · iterate 7 rw [(setCell_rest1 _ _ _).2.2]
theorem zeroPk (w : World) : (zeroValue 35).run Tryz.prog w = .ok (.agg #[.int .i64 0, .int .i64 0, .int .i64 0, .string (ByteArray.mk #[]), .int .i64 0, .int .i64 0, .bool false]) w := by kernel_rfl
/-- a packet's box of the call's own is stored -/
def putB (w : World) (z : Nat) (p : Pk) : World :=
  ((((((w.setCell ⟨z, 0, none⟩ (.int .i64 p.f.i)).setCell ⟨z, 1, none⟩ (.int .i64 p.f.n)).setCell ⟨z, 2, none⟩ (.int .i64 p.f.l)).setCell ⟨z, 3, none⟩ (.string p.f.d)).setCell ⟨z, 4, none⟩ (.int .i64 p.fr)).setCell ⟨z, 5, none⟩ (.int .i64 p.tag)).setCell ⟨z, 6, none⟩ (.bool p.lp)
theorem putB_other {w : World} {z k : Nat} {p : Pk} (h : k ≠ z) : (putB w z p).heap[k]? = w.heap[k]? := by
  unfold putB
  iterate 7 rw [Below.heap_setCell _ _ _ _ h]
theorem putB_size (w : World) (z : Nat) (p : Pk) : (putB w z p).heap.size = w.heap.size := by unfold putB; simp [World.setCell]
theorem putB_rest (w : World) (z : Nat) (c : Pk) : (putB w z c).os = w.os ∧ (putB w z c).tape = w.tape ∧ (putB w z c).output = w.output := by
  unfold putB
  refine ⟨?_, ?_, ?_⟩
  · iterate 7 rw [(setCell_rest1 _ _ _).1]
  · iterate 7 rw [(setCell_rest1 _ _ _).2.1]
  · iterate 7 rw [(setCell_rest1 _ _ _).2.2]
theorem BoxP.put {w : World} {z : Nat} {p0 : Pk} (h : BoxP w z p0) (p : Pk) : BoxP (putB w z p) z p := by
  unfold BoxP at *
  have a0 := heap_setCell_same w z 0 _ _ (.int .i64 p.f.i) h
  have a1 := heap_setCell_same _ z 1 _ _ (.int .i64 p.f.n) a0
  have a2 := heap_setCell_same _ z 2 _ _ (.int .i64 p.f.l) a1
  have a3 := heap_setCell_same _ z 3 _ _ (.string p.f.d) a2
  have a4 := heap_setCell_same _ z 4 _ _ (.int .i64 p.fr) a3
  have a5 := heap_setCell_same _ z 5 _ _ (.int .i64 p.tag) a4
  have a6 := heap_setCell_same _ z 6 _ _ (.bool p.lp) a5
  unfold putB
  rw [a6]
  rfl
theorem putB_below {w a : World} {B z : Nat} (p : Pk) (h : Below B a w) (hz : B ≤ z) : Below B a (putB w z p) := by
  unfold putB
  iterate 7 refine Below.setCell ?_ hz _
  exact h
end Go.Proofs.YtmmcjmejcngajaaGreatDoor

namespace Go.Proofs.YtmmcjmejcngajaaGreatDoor
open Go.RowKit
set_option linter.unusedVariables false

def bxNew (m : Nat) : Bx := ⟨List.replicate m 0, List.replicate m pk0, [], []⟩
def boxesN (n : Int) : Nat := if n < 1 then 1 else if 1000 < n then 1000 else n.toNat
theorem info_pk : (Tryz.prog.info? 35).map (fun i => (i.zero, i.size, i.bytes)) = some (some (.agg (pkC pk0).toArray), 7, 64) := by kernel_rfl
theorem info_in : (Tryz.prog.info? 3).map (fun i => (i.zero, i.size, i.bytes)) = some (some (.int .i64 0), 1, 8) := by kernel_rfl
theorem rep_pk (n : Nat) : madeCells (Value.agg (pkC pk0).toArray).cells (n * 7) = (rowG pkC (List.replicate n pk0)).toArray := by
  have h := made_rep (pkC pk0).toArray n (by decide)
  have e : (Value.agg (pkC pk0).toArray).cells = (pkC pk0).toArray := by kernel_rfl
  rw [e]
  refine Eq.trans h ?_
  congr 1
  unfold rowG
  rw [List.flatMap_def, List.map_replicate]
theorem rep_in (n : Nat) : madeCells (Value.int .i64 0).cells (n * 1) = (rowG inC (List.replicate n 0)).toArray := by
  have h := made_rep #[Value.int .i64 0] n (by decide)
  refine Eq.trans h ?_
  congr 1
  unfold rowG
  rw [List.flatMap_def, List.map_replicate]
  rfl
theorem run_mkS (n : Nat) (hn : n ≤ 1000) (w : World) :
    (Instr.makeSlice 45 (.int .i64 n) (.int .i64 n)).run Tryz.prog w = .ok (.slice (some ⟨w.heap.size, 0, none⟩) n n) (w.alloc (.cells (rowG inC (List.replicate n 0)).toArray 3)) := by
  obtain ⟨i0, hi, hz0, hz1, hz2⟩ := info_parts info_in
  have := run_make (P := Tryz.prog) w 45 3 i0 _ Tryz.underlying45 hi hz0 .i64 .i64 (n : Int) (n : Int) (by omega) (Int.le_refl _) (by rw [hz2]; omega) (by omega)
  rw [hz1, Int.toNat_natCast, rep_in] at this
  exact this
theorem run_mkP (n : Nat) (hn : n ≤ 1000) (w : World) :
    (Instr.makeSlice 47 (.int .i64 n) (.int .i64 n)).run Tryz.prog w = .ok (.slice (some ⟨w.heap.size, 0, none⟩) n n) (w.alloc (.cells (rowG pkC (List.replicate n pk0)).toArray 35)) := by
  obtain ⟨i0, hi, hz0, hz1, hz2⟩ := info_parts info_pk
  have := run_make (P := Tryz.prog) w 47 35 i0 _ Tryz.underlying47 hi hz0 .i64 .i64 (n : Int) (n : Int) (by omega) (Int.le_refl _) (by rw [hz2]; omega) (by omega)
  rw [hz1, Int.toNat_natCast, rep_pk] at this
  exact this
theorem xnew_done {w w' : World} {b gs gp m : Nat} {ZS ZP : List Value} (hS : rowG inC (List.replicate m 0) = ZS) (hP : rowG pkC (List.replicate m pk0) = ZP) (hb : w'.heap[b]? = some (.cells #[.slice (some ⟨gs, 0, none⟩) m m, .slice (some ⟨gp, 0, none⟩) m m, .slice none 0 0, .slice none 0 0] 49 (0, 0)))
    (hs : w'.heap[gs]? = some (.cells ZS.toArray 3 (0, 0))) (hp : w'.heap[gp]? = some (.cells ZP.toArray 35 (0, 0))) (h1 : b ≠ gs) (h2 : b ≠ gp) (h3 : gs ≠ gp) (g1 : w.heap.size ≤ b) (g2 : w.heap.size ≤ gs) (g3 : w.heap.size ≤ gp) (hw : Below w.heap.size w w') :
    ∃ v O, (Ending.returned (.pointer (some ⟨b, 0, none⟩)) : Ending) = .returned v ∧ BxD w' v (bxNew m) O ∧ Below w.heap.size w w' ∧ ∀ k, O k → w.heap.size ≤ k := by
  have hl : (bxNew m).S.length = m := by simp [bxNew]
  refine ⟨_, _, rfl, ⟨b, gs, gp, .slice none 0 0, .slice none 0 0, rfl, rfl, ⟨by rw [hl]; exact hb, by rw [← hS] at hs; exact hs, by rw [← hP] at hp; exact hp, by simp [bxNew], RowQ.nil _, RowQ.nil _, h1, h2, h3, ⟨nofun, nofun, nofun⟩, ⟨nofun, nofun, nofun⟩, fun k h => nomatch h⟩⟩, hw, ?_⟩
  rintro k (rfl | rfl | rfl | h | h)
  · exact g1
  · exact g2
  · exact g3
  · cases h
  · cases h
set_option maxHeartbeats 2000000 in
theorem xnew_v {n : Int} (w : World) : Calls Tryz.prog 20 #[.int .i64 n] w fun e w' => ∃ v O, e = .returned v ∧ BxD w' v (bxNew (boxesN n)) O ∧ Below w.heap.size w w' ∧ ∀ k, O k → w.heap.size ≤ k := by
  obtain ⟨m, hm⟩ : ∃ m, boxesN n = m := ⟨_, rfl⟩
  have hm2 : m ≤ 1000 := by rw [← hm]; unfold boxesN; split <;> (try split) <;> omega
  have mk1 := run_mkS m hm2
  have mk2 := run_mkP m hm2
  obtain ⟨ZS, hS⟩ : ∃ Z, rowG inC (List.replicate m 0) = Z := ⟨_, rfl⟩
  obtain ⟨ZP, hP⟩ : ∃ Z, rowG pkC (List.replicate m pk0) = Z := ⟨_, rfl⟩
  rw [hS] at mk1
  rw [hP] at mk2
  have HS := Lib.hid hS
  have HP := Lib.hid hP
  have hc : (1 ≤ n ∧ n ≤ 1000 ∧ n = m) ∨ (n < 1 ∧ m = 1) ∨ (1000 < n ∧ m = 1000) := by
    unfold boxesN at hm
    split at hm
    · omega
    · split at hm <;> omega
  rw [hm]
  clear hm hS hP
  rcases hc with ⟨h1, h2, rfl⟩ | ⟨h1, hm1⟩ | ⟨h1, hm1⟩
  · go_enter Tryz.func20, Tryz.ntmps20
    go_wp2_with fail
    go_region
    all_goals (
      go_wp2
      go_ret
      first
        | (obtain ⟨x1, x2, x3, x4⟩ := three_blocks w (.cells ZP.toArray 35) (.cells ZS.toArray 3) (.cells #[.slice (some ⟨w.heap.size + 1, 0, none⟩) m m, .slice (some ⟨w.heap.size, 0, none⟩) m m, .slice none 0 0, .slice none 0 0] 49)
           exact xnew_done HS.out HP.out x3 x2 x1 (by omega) (by omega) (by omega) (by omega) (by omega) (by omega) x4)
        | (obtain ⟨x1, x2, x3, x4⟩ := three_blocks w (.cells ZS.toArray 3) (.cells ZP.toArray 35) (.cells #[.slice (some ⟨w.heap.size, 0, none⟩) m m, .slice (some ⟨w.heap.size + 1, 0, none⟩) m m, .slice none 0 0, .slice none 0 0] 49)
           exact xnew_done HS.out HP.out x3 x1 x2 (by omega) (by omega) (by omega) (by omega) (by omega) (by omega) x4))
  · have e1 : ((m : Nat) : Int) = 1 := by omega
    rw [e1] at mk1 mk2
    clear e1 hm1
    go_enter Tryz.func20, Tryz.ntmps20
    go_wp2_with fail
    go_region
    all_goals (
      go_wp2
      go_ret
      first
        | (obtain ⟨x1, x2, x3, x4⟩ := three_blocks w (.cells ZP.toArray 35) (.cells ZS.toArray 3) (.cells #[.slice (some ⟨w.heap.size + 1, 0, none⟩) m m, .slice (some ⟨w.heap.size, 0, none⟩) m m, .slice none 0 0, .slice none 0 0] 49)
           exact xnew_done HS.out HP.out x3 x2 x1 (by omega) (by omega) (by omega) (by omega) (by omega) (by omega) x4)
        | (obtain ⟨x1, x2, x3, x4⟩ := three_blocks w (.cells ZS.toArray 3) (.cells ZP.toArray 35) (.cells #[.slice (some ⟨w.heap.size, 0, none⟩) m m, .slice (some ⟨w.heap.size + 1, 0, none⟩) m m, .slice none 0 0, .slice none 0 0] 49)
           exact xnew_done HS.out HP.out x3 x1 x2 (by omega) (by omega) (by omega) (by omega) (by omega) (by omega) x4))
  · have e1 : ((m : Nat) : Int) = 1000 := by omega
    rw [e1] at mk1 mk2
    clear e1 hm1
    go_enter Tryz.func20, Tryz.ntmps20
    go_wp2_with fail
    go_region
    all_goals (
      go_wp2
      go_ret
      first
        | (obtain ⟨x1, x2, x3, x4⟩ := three_blocks w (.cells ZP.toArray 35) (.cells ZS.toArray 3) (.cells #[.slice (some ⟨w.heap.size + 1, 0, none⟩) m m, .slice (some ⟨w.heap.size, 0, none⟩) m m, .slice none 0 0, .slice none 0 0] 49)
           exact xnew_done HS.out HP.out x3 x2 x1 (by omega) (by omega) (by omega) (by omega) (by omega) (by omega) x4)
        | (obtain ⟨x1, x2, x3, x4⟩ := three_blocks w (.cells ZS.toArray 3) (.cells ZP.toArray 35) (.cells #[.slice (some ⟨w.heap.size, 0, none⟩) m m, .slice (some ⟨w.heap.size + 1, 0, none⟩) m m, .slice none 0 0, .slice none 0 0] 49)
           exact xnew_done HS.out HP.out x3 x1 x2 (by omega) (by omega) (by omega) (by omega) (by omega) (by omega) x4))
end Go.Proofs.YtmmcjmejcngajaaGreatDoor
