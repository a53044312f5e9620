/- Of no program: two objects at once (the code's and the document's), apart; a chain of calls on them in a region that draws its order. -/
import Derived.Test.YtmmcjmejcngajaaGreatDoorZaj
import Derived.Test.YtmmcjmejcngajaaGreatDoorZah
namespace Go.Proofs.YtmmcjmejcngajaaGreatDoor
open Go.RowKit
set_option linter.unusedVariables false

theorem SlA.narrow {α : Type} {c : α → List Value} {n : Nat} {w : World} {v : Value} {L : List α} {O O' : Nat → Prop} (h : SlA c n w O v L) (ho : ∀ k, O' k → O k) : SlA c n w O' v L := by
  obtain ⟨A, cap, hv, hm, hc⟩ := h
  refine ⟨A, cap, hv, hm, fun i a ha => ?_⟩
  obtain ⟨x, h1, h2, h3, h4⟩ := hc i a ha
  exact ⟨x, h1, h2, fun h => h3 (ho _ h), h4⟩
section
variable {σ τ : Type} {I : World → Value → σ → (Nat → Prop) → Prop} {J : World → Value → τ → (Nat → Prop) → Prop} {w0 w w' W : World} {v v' : Value} {s s' : σ} {t t' : τ} {O O' O1 U : Nat → Prop}
structure Pair (I : World → Value → σ → (Nat → Prop) → Prop) (J : World → Value → τ → (Nat → Prop) → Prop) (w0 : World) (v v' : Value) (s : σ) (t : τ) (O O' : Nat → Prop) (w : World) : Prop where
  a : Has I w0 v s O w
  b : Has J w0 v' t O' w
  ap : Apart O O'
theorem Has.other (hI : IsObj I) (hJ : IsObj J) (hx : Has I w0 v s O w) (h : Has J w0 v' t O' w) (ha : ∀ k, O k → O' k → False) (hk : Kept O w w') : Has J w0 v' t O' w' :=
  ⟨hJ.stay h.inv (fun k ho => hk.block k (hJ.lt h.inv k ho) (fun hi => ha k hi ho)), hk.below h.below h.below.size hx.new, h.new⟩
theorem Pair.later (hI : IsObj I) (hJ : IsObj J) (h : Pair I J w0 v v' s t O O' w) (hb : Below w.heap.size w w') : Pair I J w0 v v' s t O O' w' := ⟨h.a.later hI hb, h.b.later hJ hb, h.ap⟩
theorem Pair.stepA (hI : IsObj I) (hJ : IsObj J) (h : Pair I J w0 v v' s t O O' w) (hi : I w' v s' O1) (hk : Kept O w w') (hg : Grows O w O1) : Pair I J w0 v v' s' t O1 O' w' :=
  ⟨h.a.step hI hi hk hg, h.a.other hI hJ h.b h.ap hk, h.ap.step (hJ.lt h.b.inv) hg⟩
theorem Pair.stepB (hI : IsObj I) (hJ : IsObj J) (h : Pair I J w0 v v' s t O O' w) (hi : J w' v' t' O1) (hk : Kept O' w w') (hg : Grows O' w O1) : Pair I J w0 v v' s t' O O1 w' :=
  ⟨h.b.other hJ hI h.a (fun k a b => h.ap k b a) hk, h.b.step hJ hi hk hg, (h.ap.symm.step (hI.lt h.a.inv) hg).symm⟩
theorem Pair.own (hI : IsObj I) (hJ : IsObj J) (h : Pair I J w0 v v' s t O O' w) : (∀ k, O k → k < w.heap.size) ∧ ∀ k, O' k → k < w.heap.size := ⟨hI.lt h.a.inv, hJ.lt h.b.inv⟩
/-- a block of the call's own may turn -/
theorem Pair.setCell (hI : IsObj I) (hJ : IsObj J) (h : Pair I J w0 v v' s t O O' w) {p : Addr} (hp : w0.heap.size ≤ p.block) (h1 : ¬ O p.block) (h2 : ¬ O' p.block) (u : Value) : Pair I J w0 v v' s t O O' (w.setCell p u) := ⟨h.a.setCell hI hp h1 u, h.b.setCell hJ hp h2 u, h.ap⟩

/-- six cells of a box of the call's own -/
theorem Pair.set6 (hI : IsObj I) (hJ : IsObj J) (h : Pair I J w0 v v' s t O O' w) {g : Nat} (hg : w0.heap.size ≤ g) (h1 : ¬ O g) (h2 : ¬ O' g) (a b c d e f : Value) :
    Pair I J w0 v v' s t O O' ((((((w.setCell ⟨g, 0, none⟩ a).setCell ⟨g, 1, none⟩ b).setCell ⟨g, 2, none⟩ c).setCell ⟨g, 3, none⟩ d).setCell ⟨g, 4, none⟩ e).setCell ⟨g, 5, none⟩ f) :=
  (((((h.setCell hI hJ (p := ⟨g, 0, none⟩) hg h1 h2 a).setCell hI hJ (p := ⟨g, 1, none⟩) hg h1 h2 b).setCell hI hJ (p := ⟨g, 2, none⟩) hg h1 h2 c).setCell hI hJ (p := ⟨g, 3, none⟩) hg h1 h2 d).setCell hI hJ (p := ⟨g, 4, none⟩) hg h1 h2 e).setCell hI hJ (p := ⟨g, 5, none⟩) hg h1 h2 f
theorem kept_from (hb : Below w.heap.size w w') (h : Kept U w' W) : Kept U w W := (Kept.of_below hb).trans h (Grows.refl _ _)
theorem grows_from (hb : Below w.heap.size w w') (h : Grows U w' O) : Grows U w O := fun k hk => (h k hk).imp_right (Nat.le_trans hb.size)
theorem kept_new (h : Kept U w w') {p : Addr} (hp : w.heap.size ≤ p.block) (u : Value) : Kept U w (w'.setCell p u) :=
  ⟨h.os, h.tape, h.output, by simpa [World.setCell] using h.size, fun k hk hn => (Below.heap_setCell w' p u k (by intro e; omega)).trans (h.block k hk hn)⟩
theorem kept_new6 (h : Kept U w w') {g : Nat} (hg : w.heap.size ≤ g) (a b c d e f : Value) : Kept U w ((((((w'.setCell ⟨g, 0, none⟩ a).setCell ⟨g, 1, none⟩ b).setCell ⟨g, 2, none⟩ c).setCell ⟨g, 3, none⟩ d).setCell ⟨g, 4, none⟩ e).setCell ⟨g, 5, none⟩ f) :=
  kept_new (kept_new (kept_new (kept_new (kept_new (kept_new h (p := ⟨g, 0, none⟩) hg a) (p := ⟨g, 1, none⟩) hg b) (p := ⟨g, 2, none⟩) hg c) (p := ⟨g, 3, none⟩) hg d) (p := ⟨g, 4, none⟩) hg e) (p := ⟨g, 5, none⟩) hg f
/-- boxes of the region's own, whose place is hidden: what they hold -/
def HidB (ob : Tmp → Option Obj) (W : World) (O O' : Nat → Prop) (xs : Tmp → Option Value) (w : World) : Prop :=
  (∀ t u, xs t = some u → ∃ g, u = .pointer (some ⟨g, 0, none⟩) ∧ W.heap.size ≤ g ∧ ¬ O g ∧ ¬ O' g ∧ ∃ b, ob t = some b ∧ w.heap[g]? = some b) ∧ ∀ t t' u, xs t = some u → xs t' = some u → t = t'
theorem HidB.none_ (ob : Tmp → Option Obj) (W : World) (O O' : Nat → Prop) (w : World) : HidB ob W O O' (fun _ => none) w := ⟨fun t u (h : (none : Option Value) = some u) => (by cases h), fun t t' u (h : (none : Option Value) = some u) => (by cases h)⟩
theorem hid_lt {w : World} {g : Nat} {b : Obj} (h : w.heap[g]? = some b) : g < w.heap.size := (Array.getElem?_eq_some_iff.1 h).1
theorem HidB.stepA {ob : Tmp → Option Obj} {xs : Tmp → Option Value} (h : HidB ob W O O' xs w) (hk : Kept O w w') (hg : Grows O w O1) : HidB ob W O1 O' xs w' := by
  refine ⟨fun t u ht => ?_, h.2⟩
  obtain ⟨g, h1, h2, h3, h4, b, h5, h6⟩ := h.1 t u ht
  exact ⟨g, h1, h2, out_step (hid_lt h6) h3 hg, h4, b, h5, (hk.block g (hid_lt h6) h3).trans h6⟩
theorem HidB.stepB {ob : Tmp → Option Obj} {xs : Tmp → Option Value} (h : HidB ob W O O' xs w) (hk : Kept O' w w') (hg : Grows O' w O1) : HidB ob W O O1 xs w' := by
  refine ⟨fun t u ht => ?_, h.2⟩
  obtain ⟨g, h1, h2, h3, h4, b, h5, h6⟩ := h.1 t u ht
  exact ⟨g, h1, h2, h3, out_step (hid_lt h6) h4 hg, b, h5, (hk.block g (hid_lt h6) h4).trans h6⟩
theorem HidB.later {ob : Tmp → Option Obj} {xs : Tmp → Option Value} (h : HidB ob W O O' xs w) (hb : Below w.heap.size w w') : HidB ob W O O' xs w' := by
  refine ⟨fun t u ht => ?_, h.2⟩
  obtain ⟨g, h1, h2, h3, h4, b, h5, h6⟩ := h.1 t u ht
  exact ⟨g, h1, h2, h3, h4, b, h5, (hb.block g (hid_lt h6)).trans h6⟩
theorem HidB.add {ob : Tmp → Option Obj} {xs : Tmp → Option Value} (h : HidB ob W O O' xs w) (hW : W.heap.size ≤ w.heap.size) (hO : ∀ k, O k → k < w.heap.size) (hO' : ∀ k, O' k → k < w.heap.size) (s : Tmp) (b : Obj) (hs : ob s = some b) :
    HidB ob W O O' (fun t => if t = s then some (.pointer (some ⟨w.heap.size, 0, none⟩)) else xs t) (w.alloc b) := by
  have old : ∀ t u, xs t = some u → ∃ g, u = .pointer (some ⟨g, 0, none⟩) ∧ g < w.heap.size := fun t u ht => by
    obtain ⟨g, h1, _, _, _, b, _, h6⟩ := h.1 t u ht
    exact ⟨g, h1, hid_lt h6⟩
  have hbl : Below w.heap.size w (w.alloc b) := (Below.refl _ _).alloc (Nat.le_refl _) b
  refine ⟨fun t u ht => ?_, fun t t' u ht ht' => ?_⟩
  · simp only at ht
    by_cases e : t = s
    · rw [if_pos e] at ht
      injection ht with ht
      subst ht e
      exact ⟨_, rfl, hW, fun hh => by have := hO _ hh; omega, fun hh => by have := hO' _ hh; omega, b, hs, by unfold World.alloc; simp⟩
    · rw [if_neg e] at ht
      exact (h.later hbl).1 t u ht
  · simp only at ht ht'
    by_cases e : t = s
    · by_cases e' : t' = s
      · rw [e, e']
      · rw [if_pos e] at ht
        rw [if_neg e'] at ht'
        injection ht with ht
        subst ht
        obtain ⟨g, h1, h2⟩ := old t' _ ht'
        injection h1 with h1
        injection h1 with h1
        injection h1 with h1
        omega
    · by_cases e' : t' = s
      · rw [if_neg e] at ht
        rw [if_pos e'] at ht'
        injection ht' with ht'
        subst ht'
        obtain ⟨g, h1, h2⟩ := old t _ ht
        injection h1 with h1
        injection h1 with h1
        injection h1 with h1
        omega
      · rw [if_neg e] at ht
        rw [if_neg e'] at ht'
        exact h.2 t t' u ht ht'
/-- in the midst of a region that began in W: of the blocks that were there those of U alone may have turned -/
def PairC (I : World → Value → σ → (Nat → Prop) → Prop) (J : World → Value → τ → (Nat → Prop) → Prop) (w0 W : World) (U : Nat → Prop) (v v' : Value) (ob : Tmp → Option Obj) (s : σ) (t : τ) (xs : Tmp → Option Value) (w : World) : Prop :=
  ∃ O O', Pair I J w0 v v' s t O O' w ∧ Kept U W w ∧ Grows U W O ∧ Grows U W O' ∧ HidB ob W O O' xs w
section
variable {ob : Tmp → Option Obj} {xs : Tmp → Option Value}
theorem PairC.mk (hI : IsObj I) (hJ : IsObj J) (h : Pair I J w0 v v' s t O O' w) : PairC I J w0 w (fun k => O k ∨ O' k) v v' ob s t (fun _ => none) w.drew :=
  ⟨O, O', h.later hI hJ (Below.refl _ _).drew, .of_below (Below.refl _ _).drew, fun k hk => .inl (.inl hk), fun k hk => .inl (.inr hk), HidB.none_ _ _ _ _ _⟩
theorem PairC.later (hI : IsObj I) (hJ : IsObj J) (h : PairC I J w0 W U v v' ob s t xs w) (hb : Below w.heap.size w w') : PairC I J w0 W U v v' ob s t xs w' := by
  obtain ⟨O, O', h1, h2, h3, h4, h5⟩ := h
  exact ⟨O, O', h1.later hI hJ hb, h2.trans (.of_below (O := U) hb) (Grows.refl _ _), h3, h4, h5.later hb⟩
theorem PairC.add (hI : IsObj I) (hJ : IsObj J) (h : PairC I J w0 W U v v' ob s t xs w) (x : Tmp) (b : Obj) (hs : ob x = some b) : PairC I J w0 W U v v' ob s t (fun t => if t = x then some (.pointer (some ⟨w.heap.size, 0, none⟩)) else xs t) (w.alloc b) := by
  obtain ⟨O, O', h1, h2, h3, h4, h5⟩ := h
  have hb : Below w.heap.size w (w.alloc b) := (Below.refl _ _).alloc (Nat.le_refl _) b
  exact ⟨O, O', h1.later hI hJ hb, h2.trans (.of_below (O := U) hb) (Grows.refl _ _), h3, h4, h5.add h2.size (h1.own hI hJ).1 (h1.own hI hJ).2 x b hs⟩
theorem PairC.stepA (hI : IsObj I) (hJ : IsObj J) (h : Pair I J w0 v v' s t O O' w) (h2 : Kept U W w) (h3 : Grows U W O) (h4 : Grows U W O') (h5 : HidB ob W O O' xs w) (hs : Stp I v O w s' w') : PairC I J w0 W U v v' ob s' t xs w' := by
  obtain ⟨O1, hi, hk, hg⟩ := hs
  exact ⟨O1, O', h.stepA hI hJ hi hk hg, h2.trans hk h3, h3.trans hg h2.size, h4, h5.stepA hk hg⟩
theorem PairC.stepB (hI : IsObj I) (hJ : IsObj J) (h : Pair I J w0 v v' s t O O' w) (h2 : Kept U W w) (h3 : Grows U W O) (h4 : Grows U W O') (h5 : HidB ob W O O' xs w) (hs : Stp J v' O' w t' w') : PairC I J w0 W U v v' ob s t' xs w' := by
  obtain ⟨O1, hi, hk, hg⟩ := hs
  exact ⟨O, O1, h.stepB hI hJ hi hk hg, h2.trans hk h4, h3, h4.trans hg h2.size, h5.stepB hk hg⟩
theorem PairC.kept (h : PairC I J w0 W U v v' ob s t xs w) : Kept U W w := by obtain ⟨_, _, _, h, _⟩ := h; exact h
/-- the states behind the first calls of the chain: first the code's, then the document's -/
def PairS (I : World → Value → σ → (Nat → Prop) → Prop) (J : World → Value → τ → (Nat → Prop) → Prop) (w0 W : World) (U : Nat → Prop) (v v' : Value) (ob : Tmp → Option Obj) (s s' : σ) (t t' : τ) : Nat → (Tmp → Option Value) → World → Prop
  | 0 => PairC I J w0 W U v v' ob s t
  | 1 => PairC I J w0 W U v v' ob s' t
  | _ + 2 => PairC I J w0 W U v v' ob s' t'
theorem PairS.kept {j : Nat} (h : PairS I J w0 W U v v' ob s s' t t' j xs w) : Kept U W w := by
  match j, h with
  | 0, h => exact PairC.kept (s := s) (t := t) h
  | 1, h => exact PairC.kept (s := s') (t := t) h
  | _ + 2, h => exact PairC.kept (s := s') (t := t') h
theorem PairS.add (hI : IsObj I) (hJ : IsObj J) (x : Tmp) (b : Obj) (hs : ob x = some b) (j : Nat) (xs : Tmp → Option Value) (w : World) (h : PairS I J w0 W U v v' ob s s' t t' j xs w) :
    PairS I J w0 W U v v' ob s s' t t' j (fun t => if t = x then some (.pointer (some ⟨w.heap.size, 0, none⟩)) else xs t) (w.alloc b) := by
  match j, h with
  | 0, h => exact PairC.add (s := s) (t := t) hI hJ h x b hs
  | 1, h => exact PairC.add (s := s') (t := t) hI hJ h x b hs
  | _ + 2, h => exact PairC.add (s := s') (t := t') hI hJ h x b hs
end
end
end Go.Proofs.YtmmcjmejcngajaaGreatDoor
