/- Of no program: two objects at once (the code's and the document's), apart; a chain of calls on them in a region that draws its order. Of no program: a row of the call's own appended to in a region that draws: the states of the chain. Of no program: two rows of the call's own appended to in one region that draws (in either order); boxes of one cell. Of no program: a step of the chain that reads hidden slots, and whose answer is hidden. -/
import Derived.Test.YtmpikfnemhjoeaaZai
import Derived.Test.YtmpikfnemhjoeaaZad
import Derived.Test.YtmpikfnemhjoeaaZae
namespace Go.Proofs.Ytmpikfnemhjoeaa
open Go.RowKit
set_option linter.unusedVariables false

theorem SlA.narrow {α : Type} {c : α → List Value} {n : Nat} {w : World} {v : Value} {L : List α} {O O' : Nat → Prop} (h : SlA c n w O v L) (ho : ∀ k, O' k → O k) : SlA c n w O' v L := by
  obtain ⟨A, cap, hv, hm, hc⟩ := h
  refine ⟨A, cap, hv, hm, fun i a ha => ?_⟩
  obtain ⟨x, h1, h2, h3, h4⟩ := hc i a ha
  exact ⟨x, h1, h2, fun h => h3 (ho _ h), h4⟩
section
variable {σ τ : Type} {I : World → Value → σ → (Nat → Prop) → Prop} {J : World → Value → τ → (Nat → Prop) → Prop} {w0 w w' W : World} {v v' : Value} {s s' : σ} {t t' : τ} {O O' O1 U : Nat → Prop}
structure Pair (I : World → Value → σ → (Nat → Prop) → Prop) (J : World → Value → τ → (Nat → Prop) → Prop) (w0 : World) (v v' : Value) (s : σ) (t : τ) (O O' : Nat → Prop) (w : World) : Prop where
  a : Has I w0 v s O w
  b : Has J w0 v' t O' w
  ap : Apart O O'
theorem Has.other (hI : IsObj I) (hJ : IsObj J) (hx : Has I w0 v s O w) (h : Has J w0 v' t O' w) (ha : ∀ k, O k → O' k → False) (hk : Kept O w w') : Has J w0 v' t O' w' :=
  ⟨hJ.stay h.inv (fun k ho => hk.block k (hJ.lt h.inv k ho) (fun hi => ha k hi ho)), hk.below h.below h.below.size hx.new, h.new⟩
theorem Pair.later (hI : IsObj I) (hJ : IsObj J) (h : Pair I J w0 v v' s t O O' w) (hb : Below w.heap.size w w') : Pair I J w0 v v' s t O O' w' := ⟨h.a.later hI hb, h.b.later hJ hb, h.ap⟩
theorem Pair.stepA (hI : IsObj I) (hJ : IsObj J) (h : Pair I J w0 v v' s t O O' w) (hi : I w' v s' O1) (hk : Kept O w w') (hg : Grows O w O1) : Pair I J w0 v v' s' t O1 O' w' :=
  ⟨h.a.step hI hi hk hg, h.a.other hI hJ h.b h.ap hk, h.ap.step (hJ.lt h.b.inv) hg⟩
theorem Pair.stepB (hI : IsObj I) (hJ : IsObj J) (h : Pair I J w0 v v' s t O O' w) (hi : J w' v' t' O1) (hk : Kept O' w w') (hg : Grows O' w O1) : Pair I J w0 v v' s t' O O1 w' :=
  ⟨h.b.other hJ hI h.a (fun k a b => h.ap k b a) hk, h.b.step hJ hi hk hg, (h.ap.symm.step (hI.lt h.a.inv) hg).symm⟩
theorem Pair.own (hI : IsObj I) (hJ : IsObj J) (h : Pair I J w0 v v' s t O O' w) : (∀ k, O k → k < w.heap.size) ∧ ∀ k, O' k → k < w.heap.size := ⟨hI.lt h.a.inv, hJ.lt h.b.inv⟩
/-- a block of the call's own may turn -/
theorem Pair.setCell (hI : IsObj I) (hJ : IsObj J) (h : Pair I J w0 v v' s t O O' w) {p : Addr} (hp : w0.heap.size ≤ p.block) (h1 : ¬ O p.block) (h2 : ¬ O' p.block) (u : Value) : Pair I J w0 v v' s t O O' (w.setCell p u) := ⟨h.a.setCell hI hp h1 u, h.b.setCell hJ hp h2 u, h.ap⟩

/-- six cells of a box of the call's own -/
theorem Pair.set6 (hI : IsObj I) (hJ : IsObj J) (h : Pair I J w0 v v' s t O O' w) {g : Nat} (hg : w0.heap.size ≤ g) (h1 : ¬ O g) (h2 : ¬ O' g) (a b c d e f : Value) :
    Pair I J w0 v v' s t O O' ((((((w.setCell ⟨g, 0, none⟩ a).setCell ⟨g, 1, none⟩ b).setCell ⟨g, 2, none⟩ c).setCell ⟨g, 3, none⟩ d).setCell ⟨g, 4, none⟩ e).setCell ⟨g, 5, none⟩ f) :=
  (((((h.setCell hI hJ (p := ⟨g, 0, none⟩) hg h1 h2 a).setCell hI hJ (p := ⟨g, 1, none⟩) hg h1 h2 b).setCell hI hJ (p := ⟨g, 2, none⟩) hg h1 h2 c).setCell hI hJ (p := ⟨g, 3, none⟩) hg h1 h2 d).setCell hI hJ (p := ⟨g, 4, none⟩) hg h1 h2 e).setCell hI hJ (p := ⟨g, 5, none⟩) hg h1 h2 f
theorem kept_from (hb : Below w.heap.size w w') (h : Kept U w' W) : Kept U w W := (Kept.of_below hb).trans h (Grows.refl _ _)
theorem grows_from (hb : Below w.heap.size w w') (h : Grows U w' O) : Grows U w O := fun k hk => (h k hk).imp_right (Nat.le_trans hb.size)
theorem kept_new (h : Kept U w w') {p : Addr} (hp : w.heap.size ≤ p.block) (u : Value) : Kept U w (w'.setCell p u) :=
  ⟨h.os, h.tape, h.output, by simpa [World.setCell] using h.size, fun k hk hn => (Below.heap_setCell w' p u k (by intro e; omega)).trans (h.block k hk hn)⟩
theorem kept_new6 (h : Kept U w w') {g : Nat} (hg : w.heap.size ≤ g) (a b c d e f : Value) : Kept U w ((((((w'.setCell ⟨g, 0, none⟩ a).setCell ⟨g, 1, none⟩ b).setCell ⟨g, 2, none⟩ c).setCell ⟨g, 3, none⟩ d).setCell ⟨g, 4, none⟩ e).setCell ⟨g, 5, none⟩ f) :=
  kept_new (kept_new (kept_new (kept_new (kept_new (kept_new h (p := ⟨g, 0, none⟩) hg a) (p := ⟨g, 1, none⟩) hg b) (p := ⟨g, 2, none⟩) hg c) (p := ⟨g, 3, none⟩) hg d) (p := ⟨g, 4, none⟩) hg e) (p := ⟨g, 5, none⟩) hg f
/-- boxes of the region's own, whose place is hidden: what they hold -/
def HidB (ob : Tmp → Option Obj) (W : World) (O O' : Nat → Prop) (xs : Tmp → Option Value) (w : World) : Prop :=
  (∀ t u, xs t = some u → ∃ g, u = .pointer (some ⟨g, 0, none⟩) ∧ W.heap.size ≤ g ∧ ¬ O g ∧ ¬ O' g ∧ ∃ b, ob t = some b ∧ w.heap[g]? = some b) ∧ ∀ t t' u, xs t = some u → xs t' = some u → t = t'
theorem HidB.none_ (ob : Tmp → Option Obj) (W : World) (O O' : Nat → Prop) (w : World) : HidB ob W O O' (fun _ => none) w := ⟨fun t u (h : (none : Option Value) = some u) => (by cases h), fun t t' u (h : (none : Option Value) = some u) => (by cases h)⟩
theorem hid_lt {w : World} {g : Nat} {b : Obj} (h : w.heap[g]? = some b) : g < w.heap.size := (Array.getElem?_eq_some_iff.1 h).1
theorem HidB.stepA {ob : Tmp → Option Obj} {xs : Tmp → Option Value} (h : HidB ob W O O' xs w) (hk : Kept O w w') (hg : Grows O w O1) : HidB ob W O1 O' xs w' := by
  refine ⟨fun t u ht => ?_, h.2⟩
  obtain ⟨g, h1, h2, h3, h4, b, h5, h6⟩ := h.1 t u ht
  exact ⟨g, h1, h2, out_step (hid_lt h6) h3 hg, h4, b, h5, (hk.block g (hid_lt h6) h3).trans h6⟩
theorem HidB.stepB {ob : Tmp → Option Obj} {xs : Tmp → Option Value} (h : HidB ob W O O' xs w) (hk : Kept O' w w') (hg : Grows O' w O1) : HidB ob W O O1 xs w' := by
  refine ⟨fun t u ht => ?_, h.2⟩
  obtain ⟨g, h1, h2, h3, h4, b, h5, h6⟩ := h.1 t u ht
  exact ⟨g, h1, h2, h3, out_step (hid_lt h6) h4 hg, b, h5, (hk.block g (hid_lt h6) h4).trans h6⟩
theorem HidB.later {ob : Tmp → Option Obj} {xs : Tmp → Option Value} (h : HidB ob W O O' xs w) (hb : Below w.heap.size w w') : HidB ob W O O' xs w' := by
  refine ⟨fun t u ht => ?_, h.2⟩
  obtain ⟨g, h1, h2, h3, h4, b, h5, h6⟩ := h.1 t u ht
  exact ⟨g, h1, h2, h3, h4, b, h5, (hb.block g (hid_lt h6)).trans h6⟩
theorem HidB.add {ob : Tmp → Option Obj} {xs : Tmp → Option Value} (h : HidB ob W O O' xs w) (hW : W.heap.size ≤ w.heap.size) (hO : ∀ k, O k → k < w.heap.size) (hO' : ∀ k, O' k → k < w.heap.size) (s : Tmp) (b : Obj) (hs : ob s = some b) :
    HidB ob W O O' (fun t => if t = s then some (.pointer (some ⟨w.heap.size, 0, none⟩)) else xs t) (w.alloc b) := by
  have old : ∀ t u, xs t = some u → ∃ g, u = .pointer (some ⟨g, 0, none⟩) ∧ g < w.heap.size := fun t u ht => by
    obtain ⟨g, h1, _, _, _, b, _, h6⟩ := h.1 t u ht
    exact ⟨g, h1, hid_lt h6⟩
  have hbl : Below w.heap.size w (w.alloc b) := (Below.refl _ _).alloc (Nat.le_refl _) b
  refine ⟨fun t u ht => ?_, fun t t' u ht ht' => ?_⟩
  · simp only at ht
    by_cases e : t = s
    · rw [if_pos e] at ht
      injection ht with ht
      subst ht e
      exact ⟨_, rfl, hW, fun hh => by have := hO _ hh; omega, fun hh => by have := hO' _ hh; omega, b, hs, by unfold World.alloc; simp⟩
    · rw [if_neg e] at ht
      exact (h.later hbl).1 t u ht
  · simp only at ht ht'
    by_cases e : t = s
    · by_cases e' : t' = s
      · rw [e, e']
      · rw [if_pos e] at ht
        rw [if_neg e'] at ht'
        injection ht with ht
        subst ht
        obtain ⟨g, h1, h2⟩ := old t' _ ht'
        injection h1 with h1
        injection h1 with h1
        injection h1 with h1
        omega
    · by_cases e' : t' = s
      · rw [if_neg e] at ht
        rw [if_pos e'] at ht'
        injection ht' with ht'
        subst ht'
        obtain ⟨g, h1, h2⟩ := old t _ ht
        injection h1 with h1
        injection h1 with h1
        injection h1 with h1
        omega
      · rw [if_neg e] at ht
        rw [if_neg e'] at ht'
        exact h.2 t t' u ht ht'
/-- in the midst of a region that began in W: of the blocks that were there those of U alone may have turned -/
def PairC (I : World → Value → σ → (Nat → Prop) → Prop) (J : World → Value → τ → (Nat → Prop) → Prop) (w0 W : World) (U : Nat → Prop) (v v' : Value) (ob : Tmp → Option Obj) (s : σ) (t : τ) (xs : Tmp → Option Value) (w : World) : Prop :=
  ∃ O O', Pair I J w0 v v' s t O O' w ∧ Kept U W w ∧ Grows U W O ∧ Grows U W O' ∧ HidB ob W O O' xs w
section
variable {ob : Tmp → Option Obj} {xs : Tmp → Option Value}
theorem PairC.mk (hI : IsObj I) (hJ : IsObj J) (h : Pair I J w0 v v' s t O O' w) : PairC I J w0 w (fun k => O k ∨ O' k) v v' ob s t (fun _ => none) w.drew :=
  ⟨O, O', h.later hI hJ (Below.refl _ _).drew, .of_below (Below.refl _ _).drew, fun k hk => .inl (.inl hk), fun k hk => .inl (.inr hk), HidB.none_ _ _ _ _ _⟩
theorem PairC.later (hI : IsObj I) (hJ : IsObj J) (h : PairC I J w0 W U v v' ob s t xs w) (hb : Below w.heap.size w w') : PairC I J w0 W U v v' ob s t xs w' := by
  obtain ⟨O, O', h1, h2, h3, h4, h5⟩ := h
  exact ⟨O, O', h1.later hI hJ hb, h2.trans (.of_below (O := U) hb) (Grows.refl _ _), h3, h4, h5.later hb⟩
theorem PairC.add (hI : IsObj I) (hJ : IsObj J) (h : PairC I J w0 W U v v' ob s t xs w) (x : Tmp) (b : Obj) (hs : ob x = some b) : PairC I J w0 W U v v' ob s t (fun t => if t = x then some (.pointer (some ⟨w.heap.size, 0, none⟩)) else xs t) (w.alloc b) := by
  obtain ⟨O, O', h1, h2, h3, h4, h5⟩ := h
  have hb : Below w.heap.size w (w.alloc b) := (Below.refl _ _).alloc (Nat.le_refl _) b
  exact ⟨O, O', h1.later hI hJ hb, h2.trans (.of_below (O := U) hb) (Grows.refl _ _), h3, h4, h5.add h2.size (h1.own hI hJ).1 (h1.own hI hJ).2 x b hs⟩
theorem PairC.stepA (hI : IsObj I) (hJ : IsObj J) (h : Pair I J w0 v v' s t O O' w) (h2 : Kept U W w) (h3 : Grows U W O) (h4 : Grows U W O') (h5 : HidB ob W O O' xs w) (hs : Stp I v O w s' w') : PairC I J w0 W U v v' ob s' t xs w' := by
  obtain ⟨O1, hi, hk, hg⟩ := hs
  exact ⟨O1, O', h.stepA hI hJ hi hk hg, h2.trans hk h3, h3.trans hg h2.size, h4, h5.stepA hk hg⟩
theorem PairC.stepB (hI : IsObj I) (hJ : IsObj J) (h : Pair I J w0 v v' s t O O' w) (h2 : Kept U W w) (h3 : Grows U W O) (h4 : Grows U W O') (h5 : HidB ob W O O' xs w) (hs : Stp J v' O' w t' w') : PairC I J w0 W U v v' ob s t' xs w' := by
  obtain ⟨O1, hi, hk, hg⟩ := hs
  exact ⟨O, O1, h.stepB hI hJ hi hk hg, h2.trans hk h4, h3, h4.trans hg h2.size, h5.stepB hk hg⟩
theorem PairC.kept (h : PairC I J w0 W U v v' ob s t xs w) : Kept U W w := by obtain ⟨_, _, _, h, _⟩ := h; exact h
/-- the states behind the first calls of the chain: first the code's, then the document's -/
def PairS (I : World → Value → σ → (Nat → Prop) → Prop) (J : World → Value → τ → (Nat → Prop) → Prop) (w0 W : World) (U : Nat → Prop) (v v' : Value) (ob : Tmp → Option Obj) (s s' : σ) (t t' : τ) : Nat → (Tmp → Option Value) → World → Prop
  | 0 => PairC I J w0 W U v v' ob s t
  | 1 => PairC I J w0 W U v v' ob s' t
  | _ + 2 => PairC I J w0 W U v v' ob s' t'
theorem PairS.kept {j : Nat} (h : PairS I J w0 W U v v' ob s s' t t' j xs w) : Kept U W w := by
  match j, h with
  | 0, h => exact PairC.kept (s := s) (t := t) h
  | 1, h => exact PairC.kept (s := s') (t := t) h
  | _ + 2, h => exact PairC.kept (s := s') (t := t') h
theorem PairS.add (hI : IsObj I) (hJ : IsObj J) (x : Tmp) (b : Obj) (hs : ob x = some b) (j : Nat) (xs : Tmp → Option Value) (w : World) (h : PairS I J w0 W U v v' ob s s' t t' j xs w) :
    PairS I J w0 W U v v' ob s s' t t' j (fun t => if t = x then some (.pointer (some ⟨w.heap.size, 0, none⟩)) else xs t) (w.alloc b) := by
  match j, h with
  | 0, h => exact PairC.add (s := s) (t := t) hI hJ h x b hs
  | 1, h => exact PairC.add (s := s') (t := t) hI hJ h x b hs
  | _ + 2, h => exact PairC.add (s := s') (t := t') hI hJ h x b hs
end
end
end Go.Proofs.Ytmpikfnemhjoeaa

namespace Go.Proofs.Ytmpikfnemhjoeaa
open Go.RowKit
set_option linter.unusedVariables false

section
variable {α : Type} {c : α → List Value} {kk : Nat} {u : Value} {X L : List α} {W w w' : World} {tx tr : Tmp} {j : Nat} {xs : Tmp → Option Value}
def AppQ (c : α → List Value) (kk : Nat) (u : Value) (X L : List α) (W : World) (tx tr : Tmp) (j : Nat) (xs : Tmp → Option Value) (w : World) : Prop :=
  Kept (OwnO u) W w ∧ ((j = 0 ∧ xs tr = none ∧ RowQ c kk w u L ∧ ∀ x, xs tx = some x → RdA c kk w x X) ∨ (j = 1 ∧ ∃ v', xs tr = some v' ∧ RowQ c kk w v' (L ++ X) ∧ Grows (OwnO u) W (OwnO v')))
theorem AppQ.start (h : RowQ c kk W u L) : AppQ c kk u X L W tx tr 0 (fun _ => none) W.drew :=
  ⟨.of_below (Below.refl _ _).drew, .inl ⟨rfl, rfl, h.later (Below.refl _ _).drew, fun x hx => by cases hx⟩⟩
theorem AppQ.one {f : α} {t : TypeId} (hkk : ∀ a, (c a).length = kk) (hne : tr ≠ tx) (j : Nat) (xs : Tmp → Option Value) (w : World) (h : AppQ c kk u [f] L W tx tr j xs w) :
    AppQ c kk u [f] L W tx tr j (fun t => if t = tx then some (.slice (some ⟨w.heap.size, 0, none⟩) 1 1) else xs t) (w.alloc (.cells (c f).toArray t)) := by
  have hb : Below w.heap.size w (w.alloc (.cells (c f).toArray t)) := (Below.refl _ _).alloc (Nat.le_refl _) _
  obtain ⟨h1, h2⟩ := h
  refine ⟨h1.trans (.of_below (O := OwnO u) hb) (Grows.refl _ _), ?_⟩
  rcases h2 with ⟨rfl, h0, h3, h4⟩ | ⟨rfl, v', h3, h4, h5⟩
  · refine .inl ⟨rfl, by simp only; rw [if_neg hne]; exact h0, h3.later hb, fun x hx => ?_⟩
    simp at hx
    rw [← hx]
    exact RdA.one hkk w f t rfl rfl
  · exact .inr ⟨rfl, v', by simp only; rw [if_neg hne]; exact h3, h4.later hb, h5⟩
theorem AppQ.app (xs : Tmp → Option Value) (w : World) (v' : Value) (w' : World) (h : AppQ c kk u X L W tx tr 0 xs w) (hq : RowQ c kk w' v' (L ++ X)) (hk : Kept (OwnO u) w w') (hg : Grows (OwnO u) w (OwnO v')) :
    AppQ c kk u X L W tx tr 1 (fun t => if t = tr then some v' else xs t) w' := by
  obtain ⟨h1, _⟩ := h
  refine ⟨h1.trans hk (Grows.refl _ _), .inr ⟨rfl, v', by simp, hq, fun k hk' => ?_⟩⟩
  rcases hg k hk' with h2 | h2
  · exact .inl h2
  · exact .inr (Nat.le_trans h1.size h2)
theorem AppQ.rd (xs : Tmp → Option Value) (w : World) (x : Value) (h : AppQ c kk u X L W tx tr 0 xs w) (hx : xs tx = some x) : RowQ c kk w u L ∧ RdA c kk w x X := by
  rcases h.2 with ⟨_, _, h1, h2⟩ | ⟨h0, _⟩
  · exact ⟨h1, h2 x hx⟩
  · cases h0
theorem AppQ.out {v : Value} (h : AppQ c kk u X L W tx tr 1 xs w) (hv : xs tr = some v) : Kept (OwnO u) W w ∧ RowQ c kk w v (L ++ X) ∧ Grows (OwnO u) W (OwnO v) := by
  obtain ⟨h1, h2⟩ := h
  rcases h2 with ⟨h0, _⟩ | ⟨_, v', h3, h4, h5⟩
  · cases h0
  · rw [hv] at h3
    injection h3 with h3
    subst h3
    exact ⟨h1, h4, h5⟩
end
end Go.Proofs.Ytmpikfnemhjoeaa

namespace Go.Proofs.Ytmpikfnemhjoeaa
open Go.RowKit
set_option linter.unusedVariables false

/-! ### a box of one cell -/
def Bx1 (w : World) (k : Nat) (v : Value) (t : TypeId) : Prop := w.heap[k]? = some (.cells #[v] t (0, 0))
theorem Bx1.cell {w : World} {k : Nat} {v : Value} {t : TypeId} (h : Bx1 w k v t) : w.cell? ⟨k, 0, none⟩ = some v := by rw [Lib.cell_of_heap h]; rfl
theorem Bx1.live {w : World} {k : Nat} {v : Value} {t : TypeId} (h : Bx1 w k v t) : w.frozen? ⟨k, 0, none⟩ = false := Lib.frozen_of_heap h 0
theorem Bx1.lt {w : World} {k : Nat} {v : Value} {t : TypeId} (h : Bx1 w k v t) : k < w.heap.size := (Array.getElem?_eq_some_iff.1 h).1
theorem Bx1.set {w : World} {k : Nat} {v : Value} {t : TypeId} (h : Bx1 w k v t) (u : Value) : Bx1 (w.setCell ⟨k, 0, none⟩ u) k u t := by
  unfold Bx1
  rw [heap_setCell_same w k 0 #[v] t u h]
  rfl
theorem Bx1.other {w : World} {k : Nat} {v : Value} {t : TypeId} (h : Bx1 w k v t) {l : Nat} (hl : k ≠ l) (u : Value) : Bx1 (w.setCell ⟨l, 0, none⟩ u) k v t := by
  unfold Bx1
  rw [Below.heap_setCell _ _ _ _ hl]
  exact h
theorem Bx1.made (w : World) (v : Value) (t : TypeId) {k : Nat} (hk : w.heap.size = k) : Bx1 (w.alloc (.cells #[v] t)) k v t := by
  subst hk
  unfold Bx1 World.alloc
  simp
theorem Bx1.later {w w' : World} {k : Nat} {v : Value} {t : TypeId} (h : Bx1 w k v t) (hb : Below w.heap.size w w') : Bx1 w' k v t := (hb.block k h.lt).trans h
theorem Bx1.kept {w w' : World} {k : Nat} {v : Value} {t : TypeId} {O : Nat → Prop} (h : Bx1 w k v t) (hk : Kept O w w') (hn : ¬ O k) : Bx1 w' k v t := (hk.block k h.lt hn).trans h

/-! ### one of the two rows -/
section
variable {α : Type} {c : α → List Value} {kk : Nat} {u : Value} {f : α} {t : TypeId} {L : List α} {W w w' : World} {tx tr : Tmp} {xs : Tmp → Option Value}
def RowS (c : α → List Value) (kk : Nat) (u : Value) (f : α) (t : TypeId) (L : List α) (W : World) (tx tr : Tmp) (xs : Tmp → Option Value) (w : World) : Prop :=
  (xs tr = none ∧ RowQ c kk w u L ∧ ∀ x, xs tx = some x → ∃ g, x = .slice (some ⟨g, 0, none⟩) 1 1 ∧ W.heap.size ≤ g ∧ w.heap[g]? = some (.cells (c f).toArray t (0, 0))) ∨ ∃ v', xs tr = some v' ∧ RowQ c kk w v' (L ++ [f]) ∧ Grows (OwnO u) W (OwnO v')
theorem RowS.start (h : RowQ c kk W u L) : RowS c kk u f t L W tx tr (fun _ => none) W.drew := .inl ⟨rfl, h.later (Below.refl _ _).drew, fun x hx => by cases hx⟩
theorem RowS.keep {O : Nat → Prop} (h : RowS c kk u f t L W tx tr xs w) (hk : Kept O w w') (hW : W.heap.size ≤ w.heap.size) (hO : ∀ k, O k → k < W.heap.size ∧ ¬ OwnO u k) : RowS c kk u f t L W tx tr xs w' := by
  rcases h with ⟨h0, h1, h2⟩ | ⟨v', h0, h1, h2⟩
  · refine .inl ⟨h0, h1.stay (fun g hg => hk.block g (h1.lt g hg) (fun ho => (hO g ho).2 hg)) hk.size, fun x hx => ?_⟩
    obtain ⟨g, e, hg, hh⟩ := h2 x hx
    exact ⟨g, e, hg, (hk.block g (Array.getElem?_eq_some_iff.1 hh).1 (fun ho => by have := (hO g ho).1; omega)).trans hh⟩
  · refine .inr ⟨v', h0, h1.stay (fun g hg => hk.block g (h1.lt g hg) (fun ho => ?_)) hk.size, h2⟩
    have := hO g ho
    rcases h2 g hg with h3 | h3
    · exact this.2 h3
    · omega
theorem RowS.later (h : RowS c kk u f t L W tx tr xs w) (hb : Below w.heap.size w w') (hW : W.heap.size ≤ w.heap.size) : RowS c kk u f t L W tx tr xs w' := h.keep (O := fun _ => False) (.of_below hb) hW (fun k hk => hk.elim)
theorem RowS.skip (h : RowS c kk u f t L W tx tr xs w) {s : Tmp} (y : Value) (h1 : tx ≠ s) (h2 : tr ≠ s) : RowS c kk u f t L W tx tr (fun r => if r = s then some y else xs r) w := by
  unfold RowS at *
  simp only [if_neg h1, if_neg h2]
  exact h
theorem RowS.one (h : RowS c kk u f t L W tx tr xs w) (hne : tr ≠ tx) (hW : W.heap.size ≤ w.heap.size) : RowS c kk u f t L W tx tr (fun r => if r = tx then some (.slice (some ⟨w.heap.size, 0, none⟩) 1 1) else xs r) (w.alloc (.cells (c f).toArray t)) := by
  have hb : Below w.heap.size w (w.alloc (.cells (c f).toArray t)) := (Below.refl _ _).alloc (Nat.le_refl _) _
  have h' := h.later hb hW
  rcases h' with ⟨h0, h1, h2⟩ | ⟨v', h0, h1, h2⟩
  · refine .inl ⟨by simp only; rw [if_neg hne]; exact h0, h1, fun x hx => ?_⟩
    simp at hx
    subst hx
    exact ⟨_, rfl, hW, by unfold World.alloc; simp⟩
  · exact .inr ⟨v', by simp only; rw [if_neg hne]; exact h0, h1, h2⟩
theorem RdA.block (hkk : ∀ a, (c a).length = kk) {g : Nat} (h : w.heap[g]? = some (.cells (c f).toArray t (0, 0))) : RdA c kk w (.slice (some ⟨g, 0, none⟩) 1 1) [f] := by
  refine ⟨⟨_, _, rfl, by unfold maxLen; simp, fun i a ha => ?_⟩, .inr ⟨_, _, rfl, Nat.le_refl _⟩⟩
  have hi : i = 0 := by
    rcases Nat.lt_or_ge i 1 with h | h
    · omega
    · rw [List.getElem?_eq_none (by simpa using h)] at ha; cases ha
  subst hi
  simp at ha
  subst ha
  refine ⟨_, rfl, (Array.getElem?_eq_some_iff.1 h).1, fun j u hu => ?_⟩
  rw [Nat.zero_mul, Nat.zero_add, qaddr, Lib.cell_of_heap h]
  simpa using hu
theorem RowS.rd (hkk : ∀ a, (c a).length = kk) (h : RowS c kk u f t L W tx tr xs w) (h0 : xs tr = none) {x : Value} (hx : xs tx = some x) : RowQ c kk w u L ∧ RdA c kk w x [f] := by
  rcases h with ⟨_, h1, h2⟩ | ⟨v', h1, _⟩
  · obtain ⟨g, rfl, _, hg⟩ := h2 x hx
    exact ⟨h1, RdA.block hkk hg⟩
  · rw [h0] at h1; cases h1
theorem RowS.app {v' : Value} (hq : RowQ c kk w' v' (L ++ [f])) (hg : Grows (OwnO u) w (OwnO v')) (hW : W.heap.size ≤ w.heap.size) : RowS c kk u f t L W tx tr (fun r => if r = tr then some v' else xs r) w' :=
  .inr ⟨v', by simp, hq, fun k hk => (hg k hk).imp id (Nat.le_trans hW)⟩
theorem RowS.out {v : Value} (h : RowS c kk u f t L W tx tr xs w) (hv : xs tr = some v) : RowQ c kk w v (L ++ [f]) ∧ Grows (OwnO u) W (OwnO v) := by
  rcases h with ⟨h0, _⟩ | ⟨v', h1, h2, h3⟩
  · rw [hv] at h0; cases h0
  · rw [hv] at h1
    injection h1 with h1
    subst h1
    exact ⟨h2, h3⟩
end
/-! ### both -/
section
variable {α β : Type} {c : α → List Value} {kk : Nat} {u : Value} {f : α} {t : TypeId} {L : List α} {c' : β → List Value} {kk' : Nat} {u' : Value} {f' : β} {t' : TypeId} {L' : List β} {W w w' : World} {tx tr tx' tr' : Tmp} {xs : Tmp → Option Value}
structure TwoS (c : α → List Value) (kk : Nat) (u : Value) (f : α) (t : TypeId) (L : List α) (tx tr : Tmp) (c' : β → List Value) (kk' : Nat) (u' : Value) (f' : β) (t' : TypeId) (L' : List β) (tx' tr' : Tmp) (W : World) (xs : Tmp → Option Value) (w : World) : Prop where
  kept : Kept (fun k => OwnO u k ∨ OwnO u' k) W w
  a : RowS c kk u f t L W tx tr xs w
  b : RowS c' kk' u' f' t' L' W tx' tr' xs w
  ap : Apart (OwnO u) (OwnO u')
  lt : ∀ k, OwnO u k ∨ OwnO u' k → k < W.heap.size
  apv : ∀ v v', xs tr = some v → xs tr' = some v' → Apart (OwnO v) (OwnO v')
theorem TwoS.start (h : RowQ c kk W u L) (h' : RowQ c' kk' W u' L') (ap : Apart (OwnO u) (OwnO u')) : TwoS c kk u f t L tx tr c' kk' u' f' t' L' tx' tr' W (fun _ => none) W.drew :=
  ⟨.of_below (Below.refl _ _).drew, RowS.start h, RowS.start h', ap, fun k hk => by rcases hk with h1 | h1; exact h.lt k h1; exact h'.lt k h1, fun v v' h => by cases h⟩
theorem TwoS.oneA (h : TwoS c kk u f t L tx tr c' kk' u' f' t' L' tx' tr' W xs w) (h1 : tr ≠ tx) (h2 : tx' ≠ tx) (h3 : tr' ≠ tx) :
    TwoS c kk u f t L tx tr c' kk' u' f' t' L' tx' tr' W (fun r => if r = tx then some (.slice (some ⟨w.heap.size, 0, none⟩) 1 1) else xs r) (w.alloc (.cells (c f).toArray t)) := by
  have hb : Below w.heap.size w (w.alloc (.cells (c f).toArray t)) := (Below.refl _ _).alloc (Nat.le_refl _) _
  exact ⟨h.kept.trans (.of_below (O := fun k => OwnO u k ∨ OwnO u' k) hb) (Grows.refl _ _), h.a.one h1 h.kept.size, (h.b.later hb h.kept.size).skip _ h2 h3, h.ap, h.lt, fun v v' e1 e2 => by
    simp only [if_neg h1, if_neg h3] at e1 e2
    exact h.apv v v' e1 e2⟩
theorem TwoS.oneB (h : TwoS c kk u f t L tx tr c' kk' u' f' t' L' tx' tr' W xs w) (h1 : tr' ≠ tx') (h2 : tx ≠ tx') (h3 : tr ≠ tx') :
    TwoS c kk u f t L tx tr c' kk' u' f' t' L' tx' tr' W (fun r => if r = tx' then some (.slice (some ⟨w.heap.size, 0, none⟩) 1 1) else xs r) (w.alloc (.cells (c' f').toArray t')) := by
  have hb : Below w.heap.size w (w.alloc (.cells (c' f').toArray t')) := (Below.refl _ _).alloc (Nat.le_refl _) _
  exact ⟨h.kept.trans (.of_below (O := fun k => OwnO u k ∨ OwnO u' k) hb) (Grows.refl _ _), (h.a.later hb h.kept.size).skip _ h2 h3, h.b.one h1 h.kept.size, h.ap, h.lt, fun v v' e1 e2 => by
    simp only [if_neg h1, if_neg h3] at e1 e2
    exact h.apv v v' e1 e2⟩
theorem kept_to {A B : Nat → Prop} (h : Kept A w w') (hs : ∀ k, A k → B k) : Kept B w w' := ⟨h.os, h.tape, h.output, h.size, fun k hk hn => h.block k hk (fun ha => hn (hs k ha))⟩
theorem TwoS.appA {v' : Value} (h : TwoS c kk u f t L tx tr c' kk' u' f' t' L' tx' tr' W xs w) (hq : RowQ c kk w' v' (L ++ [f])) (hk : Kept (OwnO u) w w') (hg : Grows (OwnO u) w (OwnO v')) (h2 : tx' ≠ tr) (h3 : tr' ≠ tr) :
    TwoS c kk u f t L tx tr c' kk' u' f' t' L' tx' tr' W (fun r => if r = tr then some v' else xs r) w' :=
  ⟨h.kept.trans (kept_to hk fun k h => .inl h) (Grows.refl _ _), RowS.app hq hg h.kept.size, (h.b.keep hk h.kept.size (fun k hk' => ⟨h.lt k (.inl hk'), fun h' => h.ap k hk' h'⟩)).skip _ h2 h3, h.ap, h.lt, fun v v2 e1 e2 k k1 k2 => by
    simp only [if_neg h3, if_true] at e1 e2
    injection e1 with e1
    subst e1
    obtain ⟨r2, g2⟩ := h.b.out e2
    have l2 := r2.lt k k2
    rcases hg k k1 with h4 | h4
    · rcases g2 k k2 with h5 | h5
      · exact h.ap k h4 h5
      · have := h.lt k (.inl h4); omega
    · omega⟩
theorem TwoS.appB {v' : Value} (h : TwoS c kk u f t L tx tr c' kk' u' f' t' L' tx' tr' W xs w) (hq : RowQ c' kk' w' v' (L' ++ [f'])) (hk : Kept (OwnO u') w w') (hg : Grows (OwnO u') w (OwnO v')) (h2 : tx ≠ tr') (h3 : tr ≠ tr') :
    TwoS c kk u f t L tx tr c' kk' u' f' t' L' tx' tr' W (fun r => if r = tr' then some v' else xs r) w' :=
  ⟨h.kept.trans (kept_to hk fun k h => .inr h) (Grows.refl _ _), (h.a.keep hk h.kept.size (fun k hk' => ⟨h.lt k (.inr hk'), fun h' => h.ap k h' hk'⟩)).skip _ h2 h3, RowS.app hq hg h.kept.size, h.ap, h.lt, fun v v2 e1 e2 k k1 k2 => by
    simp only [if_neg h3, if_true] at e1 e2
    injection e2 with e2
    subst e2
    obtain ⟨r2, g2⟩ := h.a.out e1
    have l2 := r2.lt k k1
    rcases hg k k2 with h4 | h4
    · rcases g2 k k1 with h5 | h5
      · exact h.ap k h5 h4
      · have := h.lt k (.inr h4); omega
    · omega⟩
end
/-! ### an append outside of the chain -/
section
variable {P : Program} {ops : Array Oper} {st : List Nat} {G : Nat → (Tmp → Option Value) → World → Prop} {sec : List Tmp} {Q : Act → Prop} {o : Oper} {rest : List Oper} {h : Act} {i : Nat}
theorem st_appF {α : Type} {c : α → List Value} {kk bytes : Nat} {T E : TypeId} {L M : List α} {ts tx tr : Tmp} {v : Value} (hT : FlatE P T E kk bytes) (hkk : ∀ a, (c a).length = kk) (hone : ∀ a, ∀ u ∈ c a, u.oneCell' = true)
    (hi : st.contains i = false) (hw : Region.wanted o (yielded ops h.tmps) = true) (ho : o.op = .call { callee := .builtin .append, args := #[.tmp ts, .tmp tx], argTypes := #[T, T] }) (hd : o.dst = some tr)
    (hs1 : sec.contains tr = true) (hs2 : sec.contains tx = true) (hs3 : sec.contains ts = false) (hl1 : ts ∈ o.looksAt ops) (hl2 : tx ∈ o.looksAt ops) (hv : h.tmps.getD ts undef = v)
    (hrd : ∀ j xs w x, G j xs w → xs tr = none → xs tx = some x → RowQ c kk w v L ∧ RdA c kk w x M) (hsz : L.length + M.length ≤ 1000000)
    (hG : ∀ j xs w v' w', G j xs w → RowQ c kk w' v' (L ++ M) → Kept (OwnO v) w w' → Grows (OwnO v) w (OwnO v') → G j (fun t => if t = tr then some v' else xs t) w')
    (hk : wpSt P ops st G sec Q (i + 1) rest (h.put o.dst undef)) : wpSt P ops st G sec Q i (o :: rest) h := by
  unfold wpSt
  rw [if_pos hw]
  refine ⟨undef, fun j xs a w hj hjk hb hfr hlk => ?_, hk⟩
  have hi' : i ∉ st := by simpa using hi
  have h1 := hlk ts hl1
  have h2 := hlk tx hl2
  have s1 : tr ∈ sec := by simpa using hs1
  rw [if_neg (by simpa using hs3), hv] at h1
  rw [if_pos (by simpa using hs2)] at h2
  obtain ⟨x, hx⟩ : ∃ x, a.tmps.getD tx undef = x := ⟨_, rfl⟩
  rw [hx] at h2
  obtain ⟨r1, r2⟩ := hrd j xs w _ hb (hfr tr hd s1) h2
  obtain ⟨v', w', hrun, q1, q2, q3⟩ := r1.run hT hkk (RowQ.src r2 hkk hone hT.1) hsz o.type
  have e1 : a.eval (.tmp ts) = v := h1
  have e2 : a.eval (.tmp tx) = x := hx
  rw [if_neg hi']
  simp [execOp, ho, resolve, invoke, builtin, e1, e2, hrun, Result.andThen, stUpon, hd]
  refine ⟨?_, .inl s1⟩
  have := hG j xs w v' w' hb q1 q2 q3
  unfold hidPut
  simp only
  rw [if_pos s1]
  exact this
end
end Go.Proofs.Ytmpikfnemhjoeaa

namespace Go.Proofs.Ytmpikfnemhjoeaa
open Go.RowKit
set_option linter.unusedVariables false

theorem st_stepH {P : Program} {ops : Array Oper} {st : List Nat} {G : Nat → (Tmp → Option Value) → World → Prop} {sec : List Tmp} {Q : Act → Prop} {o : Oper} {rest : List Oper} {h : Act} {i : Nat} {s : Tmp} (k : Nat) (hi : st[k]? = some i) (hw : Region.wanted o (yielded ops h.tmps) = true) (hd : o.dst = some s) (hs : sec.contains s = true)
    (hrun : ∀ (xs : Tmp → Option Value) (a : Act) (w : World), G k xs w → xs s = none → stLooks ops sec xs o h a → ∃ f args, (execOp a.eval o).run P w = .ok (.enter f args) w ∧ Calls P f args w fun e w' => ∃ u, e = .returned u ∧ G (k + 1) (fun t => if t = s then some u else xs t) w')
    (hk : wpSt P ops st G sec Q (i + 1) rest (h.put o.dst undef)) : wpSt P ops st G sec Q i (o :: rest) h := by
  unfold wpSt
  rw [if_pos hw]
  refine ⟨undef, fun j xs a w hj hjk hb hfr hlk => ?_, hk⟩
  obtain rfl := hjk k hi
  have hs' : s ∈ sec := by simpa using hs
  obtain ⟨f, args, he, hc⟩ := hrun xs a w hb (hfr s hd hs') hlk
  rw [if_pos (List.mem_of_getElem? hi), he]
  refine ⟨rfl, hc.mono ?_⟩
  rintro e w' ⟨u, h0, h1⟩
  refine ⟨u, h0, ?_, by rw [hd]; exact .inl hs'⟩
  rw [hd]
  unfold hidPut
  simp only
  rw [if_pos hs']
  exact h1
/-- a step of the chain that turns memory by itself (a store) -/
theorem st_turn {P : Program} {ops : Array Oper} {st : List Nat} {G : Nat → (Tmp → Option Value) → World → Prop} {sec : List Tmp} {Q : Act → Prop} {o : Oper} {rest : List Oper} {h : Act} {i : Nat} (k : Nat) (hi : st[k]? = some i) (hw : Region.wanted o (yielded ops h.tmps) = true) (hn : noSel o = true) (hl : secOpenL ops sec o = true) (hd : o.dst = none)
    (hrun : ∀ xs w, G k xs w → ∃ w', ((execOp h.eval o).run P w = .ok .skip w' ∨ ∃ u, (execOp h.eval o).run P w = .ok (.value u) w') ∧ G (k + 1) xs w')
    (hk : wpSt P ops st G sec Q (i + 1) rest (h.put o.dst undef)) : wpSt P ops st G sec Q i (o :: rest) h := by
  unfold wpSt
  rw [if_pos hw]
  refine ⟨undef, fun j xs a w hj hjk hb hfr hlk => ?_, hk⟩
  obtain rfl := hjk k hi
  obtain ⟨w', hr, hG⟩ := hrun xs w hb
  have key : ∀ u, hidPut sec xs o.dst u = xs := fun u => by rw [hd]; rfl
  have good : ∀ u, stGood sec o.dst undef u := fun u => by rw [hd]; trivial
  rw [if_pos (List.mem_of_getElem? hi), eval_open hl (noSel_spec hn) (stLooks_open hl hlk w)]
  rcases hr with hr | ⟨u, hr⟩
  · rw [hr]
    exact ⟨by rw [key]; exact hG, good _⟩
  · rw [hr]
    exact ⟨by rw [key]; exact hG, good _⟩
/-- a hidden slot's value, moved into another hidden slot -/
theorem st_move {P : Program} {ops : Array Oper} {st : List Nat} {G : Nat → (Tmp → Option Value) → World → Prop} {sec : List Tmp} {Q : Act → Prop} {o : Oper} {rest : List Oper} {h : Act} {i : Nat} {s1 s2 : Tmp} (hi : st.contains i = false) (hw : Region.wanted o (yielded ops h.tmps) = true) (hd : o.dst = some s2) (hs1 : sec.contains s1 = true) (hs2 : sec.contains s2 = true) (hl1 : s1 ∈ o.looksAt ops)
    (hrun : ∀ (a : Act) w, (execOp a.eval o).run P w = .ok (.value (a.tmps.getD s1 undef)) w) (hG : ∀ j xs w u, G j xs w → xs s1 = some u → xs s2 = none → G j (fun t => if t = s2 then Option.some u else xs t) w)
    (hk : wpSt P ops st G sec Q (i + 1) rest (h.put o.dst undef)) : wpSt P ops st G sec Q i (o :: rest) h := by
  unfold wpSt
  rw [if_pos hw]
  refine ⟨undef, fun j xs a w hj hjk hb hfr hlk => ?_, hk⟩
  have hi' : i ∉ st := by simpa using hi
  have m1 : s1 ∈ sec := by simpa using hs1
  have m2 : s2 ∈ sec := by simpa using hs2
  have h1 := hlk s1 hl1
  rw [if_pos m1] at h1
  rw [if_neg hi', hrun a w]
  refine ⟨?_, by rw [hd]; exact .inl m2⟩
  rw [hd]
  unfold hidPut
  simp only
  rw [if_pos m2]
  exact hG j xs w _ hb h1 (hfr s2 hd m2)
end Go.Proofs.Ytmpikfnemhjoeaa
