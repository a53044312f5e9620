/- Ring: of no program: what a row that goes round is in memory, and its plain lists. Ring, the code, rows of int: New, Len, Room, Lost, slot, Peek. Ring, the code, rows of int: pieces, copied. Ring, the code, rows of int: Clear, All, Take. -/
import Derived.Test.YtbjijmdknlopdaaZad
import Derived.Laws.CopyOwn
import Derived.Lib.SliceRun
import Derived.Laws.MakeOwn
import Derived.Test.YtbjijmdknlopdaaZae
import Derived.BigQuiet
import Derived.Deep.RegionWith
import Derived.Test.YtbjijmdknlopdaaZac
import Derived.Deep.Cut
namespace Go.Proofs.Ytbjijmdknlopdaa
open Go.RowKit
set_option linter.unusedVariables false

/-- the slots S from f on hold the members, going round -/
structure RgM {α : Type} (c : α → Value) (T E : TypeId) (w : World) (b : Nat) (p : Option Addr) (S : List α) (f : Nat) (s : Rg α) : Prop where
  box : w.heap[b]? = some (.cells #[.slice p S.length S.length, .int .i64 (f : Int), .int .i64 (s.L.length : Int), .int .i64 (s.m : Int), .int .i64 (s.n : Int)] T (0, 0))
  row : (p = none ∧ S = [] ∧ f = 0) ∨ ∃ g, p = some ⟨g, 0, none⟩ ∧ w.heap[g]? = some (.cells (S.map c).toArray E (0, 0)) ∧ g ≠ b ∧ f < S.length
  len : s.L.length ≤ S.length
  fit : S.length ≤ s.m
  lo : 1 ≤ s.m
  hi : s.m ≤ 1000
  mem : ∀ i, i < s.L.length → S[(f + i) % S.length]? = s.L[i]?
def rgO (b : Nat) (p : Option Addr) : Nat → Prop := fun k => k = b ∨ ∃ a, p = some a ∧ k = a.block
def RgI {α : Type} (c : α → Value) (T E : TypeId) : World → Value → Rg α → (Nat → Prop) → Prop := fun w v s O => ∃ b p S f, v = .pointer (some ⟨b, 0, none⟩) ∧ O = rgO b p ∧ RgM c T E w b p S f s

theorem rheap_lt {w : World} {k : Nat} {o : Obj} (h : w.heap[k]? = some o) : k < w.heap.size := (Array.getElem?_eq_some_iff.1 h).1
section
variable {α : Type} {c : α → Value} {T E : TypeId} {w w' : World} {b f : Nat} {p : Option Addr} {S : List α} {s : Rg α}
theorem RgM.stay (h : RgM c T E w b p S f s) (hs : ∀ k, rgO b p k → w'.heap[k]? = w.heap[k]?) : RgM c T E w' b p S f s := by
  refine ⟨(hs b (.inl rfl)).trans h.box, ?_, h.len, h.fit, h.lo, h.hi, h.mem⟩
  rcases h.row with h1 | ⟨g, rfl, h2, h3, h4⟩
  · exact .inl h1
  · exact .inr ⟨g, rfl, (hs g (.inr ⟨_, rfl, rfl⟩)).trans h2, h3, h4⟩
theorem RgM.lt (h : RgM c T E w b p S f s) : ∀ k, rgO b p k → k < w.heap.size := by
  rintro k (rfl | ⟨a, rfl, rfl⟩)
  · exact rheap_lt h.box
  · rcases h.row with ⟨h1, _⟩ | ⟨g, h1, h2, _⟩
    · cases h1
    · injection h1 with h1; subst h1; exact rheap_lt h2
theorem rgI_obj (c : α → Value) (T E : TypeId) : IsObj (RgI c T E) where
  stay := by
    rintro w w' v s O ⟨b, p, S, f, rfl, rfl, h⟩ hs
    exact ⟨b, p, S, f, rfl, rfl, h.stay hs⟩
  lt := by
    rintro w v s O ⟨b, p, S, f, rfl, rfl, h⟩
    exact h.lt
theorem rgI_rng {v : Value} {O : Nat → Prop} (h : RgI c T E w v s O) : s.L.length ≤ s.m ∧ 1 ≤ s.m ∧ s.m ≤ 1000 := by
  obtain ⟨b, p, S, f, rfl, rfl, h⟩ := h
  exact ⟨Nat.le_trans h.len h.fit, h.lo, h.hi⟩
theorem RgM.cells (h : RgM c T E w b p S f s) : w.cell? ⟨b, 0, none⟩ = some (.slice p S.length S.length) ∧ w.cell? ⟨b, 1, none⟩ = some (.int .i64 (f : Int)) ∧ w.cell? ⟨b, 2, none⟩ = some (.int .i64 (s.L.length : Int)) ∧ w.cell? ⟨b, 3, none⟩ = some (.int .i64 (s.m : Int)) ∧ w.cell? ⟨b, 4, none⟩ = some (.int .i64 (s.n : Int)) := by
  have h := h.box
  refine ⟨?_, ?_, ?_, ?_, ?_⟩ <;> (rw [Lib.cell_of_heap h]; rfl)
theorem RgM.live (h : RgM c T E w b p S f s) (i : Nat) : w.frozen? ⟨b, i, none⟩ = false := Lib.frozen_of_heap h.box i
theorem RgM.blt (h : RgM c T E w b p S f s) : b < w.heap.size := rheap_lt h.box
theorem row_cell {g : Nat} (h : w.heap[g]? = some (.cells (S.map c).toArray E (0, 0))) {i : Nat} {x : α} (hx : S[i]? = some x) : w.cell? ⟨g, i, none⟩ = some (c x) := by
  rw [Lib.cell_of_heap h]
  simp [hx]
end

/-! ### plain lists -/
theorem mod_two {x k : Nat} (h1 : k ≤ x) (h2 : x < k + k) : x % k = x - k := by
  rw [Nat.mod_eq_sub_mod h1, Nat.mod_eq_of_lt (by omega)]
theorem mod_cut {x k : Nat} (h : x < k + k) : x % k = if x < k then x else x - k := by
  by_cases h1 : x < k
  · rw [if_pos h1, Nat.mod_eq_of_lt h1]
  · rw [if_neg h1, mod_two (by omega) h]
section
variable {α : Type} {S L : List α} {f : Nat}
/-- one behind all -/
theorem round_put (hf : f < S.length) (hl : L.length < S.length) (hm : ∀ i, i < L.length → S[(f + i) % S.length]? = L[i]?) (x : α) :
    ∀ i, i < (L ++ [x]).length → (S.set ((f + L.length) % S.length) x)[(f + i) % (S.set ((f + L.length) % S.length) x).length]? = (L ++ [x])[i]? := by
  intro i hi
  rw [List.length_append] at hi
  simp at hi
  rw [List.length_set, List.getElem?_set]
  have e1 := mod_cut (x := f + L.length) (k := S.length) (by omega)
  have e2 := mod_cut (x := f + i) (k := S.length) (by omega)
  by_cases h : i = L.length
  · subst h
    rw [if_pos rfl, if_pos (Nat.mod_lt _ (by omega)), List.getElem?_append_right (Nat.le_refl _)]
    simp
  · have hne : (f + L.length) % S.length ≠ (f + i) % S.length := by
      rw [e1, e2]
      split <;> split <;> omega
    rw [if_neg hne, List.getElem?_append_left (by omega)]
    exact hm i (by omega)
/-- the first one goes -/
theorem round_take {x : α} (hf : f < S.length) (hl : (x :: L).length ≤ S.length) (hm : ∀ i, i < (x :: L).length → S[(f + i) % S.length]? = (x :: L)[i]?) (z : α) :
    ∀ i, i < L.length → (S.set f z)[((f + 1) % S.length + i) % (S.set f z).length]? = L[i]? := by
  intro i hi
  simp at hl
  rw [List.length_set, List.getElem?_set]
  have e1 := mod_cut (x := f + 1) (k := S.length) (by omega)
  have e3 := mod_cut (x := f + (i + 1)) (k := S.length) (by omega)
  have e4 : ((f + 1) % S.length + i) % S.length = (f + (i + 1)) % S.length := by
    rw [Nat.mod_add_mod]
    congr 1
    omega
  have hne : f ≠ (f + (i + 1)) % S.length := by
    rw [e3]
    split <;> omega
  rw [e4, if_neg hne, hm (i + 1) (by simp; omega)]
  simp
theorem round_first {x : α} (hf : f < S.length) (hm : ∀ i, i < (x :: L).length → S[(f + i) % S.length]? = (x :: L)[i]?) : S[f]? = some x := by
  have := hm 0 (by simp)
  rwa [Nat.add_zero, Nat.mod_eq_of_lt hf] at this
/-- all in two pieces -/
theorem round_pieces (hf : f < S.length) (hl : L.length ≤ S.length) (hm : ∀ i, i < L.length → S[(f + i) % S.length]? = L[i]?) :
    L = (S.drop f).take (f + L.length - (f + L.length - S.length) - f) ++ S.take (f + L.length - S.length) := by
  apply List.ext_getElem?
  intro i
  by_cases hi : i < L.length
  · rw [← hm i hi, mod_cut (by omega), List.getElem?_append]
    simp only [List.length_take, List.length_drop, List.getElem?_take, List.getElem?_drop]
    by_cases h : f + i < S.length
    · rw [if_pos h, if_pos (by omega), if_pos (by omega)]
    · rw [if_neg h, if_neg (by omega), if_pos (by omega)]
      congr 1
      omega
  · rw [List.getElem?_eq_none (by omega), List.getElem?_eq_none (by simp; omega)]
/-- new slots, with the members in front -/
theorem round_new (z : α) {k : Nat} (hk : L.length ≤ k) : ∀ i, i < L.length → (L ++ List.replicate (k - L.length) z)[(0 + i) % (L ++ List.replicate (k - L.length) z).length]? = L[i]? := by
  intro i hi
  rw [Nat.mod_eq_of_lt (by simp; omega), Nat.zero_add, List.getElem?_append_left hi]
end
/-! ### memory -/
theorem Kept.setCell {O : Nat → Prop} {w w' : World} (h : Kept O w w') {p : Addr} (hp : O p.block) (u : Value) : Kept O w (w'.setCell p u) :=
  ⟨h.os, h.tape, h.output, by simpa [World.setCell] using h.size, fun k hk hn => (Below.heap_setCell w' p u k (by intro e; exact hn (by rw [e]; exact hp))).trans (h.block k hk hn)⟩
theorem Kept.drewN {O : Nat → Prop} {w w' : World} (h : Kept O w w') (n : Nat) : Kept O w (w'.drewN n) := ⟨h.os, h.tape, h.output, h.size, h.block⟩
/-! ### all in two pieces, as slices -/
section
variable {α : Type} {c : α → Value} {T E : TypeId} {w w' : World} {b f : Nat} {p : Option Addr} {S : List α} {s : Rg α}
def SlP (c : α → Value) (w : World) (p : Option Addr) (A : List α) : Prop := 0 < A.length → ∃ ad, p = some ad ∧ ad.block < w.heap.size ∧ ∀ j a, A[j]? = some a → w.cell? (ad.add j) = some (c a)
def PcG (c : α → Value) (w : World) (v : Value) (L : List α) : Prop := ∃ A B p1 p2, v = .tuple #[.slice p1 A.length A.length, .slice p2 B.length B.length] ∧ L = A ++ B ∧ SlP c w p1 A ∧ SlP c w p2 B
theorem SlP.none_ (c : α → Value) (w : World) (p : Option Addr) : SlP c w p [] := fun h => by simp at h
theorem SlP.row {g i n : Nat} (hg : w.heap[g]? = some (.cells (S.map c).toArray E (0, 0))) : SlP c w (some ⟨g, i, none⟩) ((S.drop i).take n) := fun _ => by
  refine ⟨_, rfl, rheap_lt hg, fun j a ha => ?_⟩
  have e : (⟨g, i, none⟩ : Addr).add j = ⟨g, i + j, none⟩ := by
    unfold Addr.add
    by_cases h0 : j = 0
    · subst h0; simp
    · rw [if_neg h0]
  rw [e]
  refine row_cell hg ?_
  rw [List.getElem?_take] at ha
  split at ha
  · rwa [List.getElem?_drop] at ha
  · cases ha
theorem SlP.later (h : SlP c w p S) (hb : Below w.heap.size w w') : SlP c w' p S := fun h0 => by
  obtain ⟨ad, h1, h2, h3⟩ := h h0
  exact ⟨ad, h1, Nat.lt_of_lt_of_le h2 hb.size, fun j a ha => (hb.cell (by rw [addr_block]; exact h2)).trans (h3 j a ha)⟩
theorem SlP.src (h : SlP c w p S) (hb : Below w.heap.size w w') {X : List Value} (hX : S.map c = X) (h0 : 0 < X.length) : ∃ ad, p = some ad ∧ ∀ j v, X[j]? = some v → w'.cell? (ad.add j) = some v := by
  subst hX
  obtain ⟨ad, h1, _, h3⟩ := (h.later hb) (by simpa using h0)
  refine ⟨ad, h1, fun j v hv => ?_⟩
  rw [List.getElem?_map] at hv
  obtain ⟨a, ha, rfl⟩ := Option.map_eq_some_iff.1 hv
  exact h3 j a ha
theorem RgM.later (h : RgM c T E w b p S f s) (hb : Below w.heap.size w w') : RgM c T E w' b p S f s := h.stay (fun k hk => hb.block k (h.lt k hk))
end
/-! ### made slots -/
theorem rmade_rep (z : Value) (h : z.cells = #[z]) (n : Nat) : madeCells z.cells (n * 1) = (List.replicate n z).toArray := by
  rw [h, Nat.mul_one]
  apply Array.ext'
  rw [List.toList_toArray]
  apply List.ext_getElem?
  intro i
  unfold madeCells
  simp only [Array.toList_map, Array.toList_range, List.getElem?_map, List.getElem?_replicate]
  by_cases hi : i < n
  · rw [List.getElem?_range hi, if_pos hi]
    simp [Nat.mod_one]
  · rw [List.getElem?_eq_none (by simp; omega), if_neg hi]; rfl
theorem splice_rep {α : Type} (z : α) (k : Nat) (A B : List α) (h : A.length + B.length ≤ k) : splice (splice (List.replicate k z) 0 A) A.length B = (A ++ B) ++ List.replicate (k - (A ++ B).length) z := by
  unfold splice
  have e1 : (List.take 0 (List.replicate k z) ++ (A ++ List.drop (0 + A.length) (List.replicate k z))) = A ++ List.replicate (k - A.length) z := by simp
  rw [e1]
  have e2 : (A ++ List.replicate (k - A.length) z).take A.length = A := by simp
  have e3 : (A ++ List.replicate (k - A.length) z).drop (A.length + B.length) = List.replicate (k - A.length - B.length) z := by
    rw [List.drop_append]; simp
  rw [e2, e3, List.append_assoc, List.length_append, Nat.sub_sub]
theorem Kept.setNew {O : Nat → Prop} {w w' : World} (h : Kept O w w') {p : Addr} (hp : w.heap.size ≤ p.block) (u : Value) : Kept O w (w'.setCell p u) :=
  ⟨h.os, h.tape, h.output, by simpa [World.setCell] using h.size, fun k hk hn => (Below.heap_setCell w' p u k (by intro e; omega)).trans (h.block k hk hn)⟩
theorem Kept.below_ {O : Nat → Prop} {w w' w2 : World} (h : Kept O w w') (hb : Below w'.heap.size w' w2) : Kept O w w2 :=
  ⟨hb.os.trans h.os, hb.tape.trans h.tape, hb.output.trans h.output, Nat.le_trans h.size hb.size, fun k hk hn => (hb.block k (Nat.lt_of_lt_of_le hk h.size)).trans (h.block k hk hn)⟩
/-! ### in the midst of a call -/
structure RgW {α : Type} (c : α → Value) (T E : TypeId) (O : Nat → Prop) (w0 w : World) (b g : Nat) (S : List α) (f l m n : Int) : Prop where
  box : w.heap[b]? = some (.cells #[.slice (some ⟨g, 0, none⟩) S.length S.length, .int .i64 f, .int .i64 l, .int .i64 m, .int .i64 n] T (0, 0))
  row : w.heap[g]? = some (.cells (S.map c).toArray E (0, 0))
  gb : g ≠ b
  kept : Kept O w0 w
  ob : O b
  og : O g ∨ w0.heap.size ≤ g
section
variable {α : Type} {c : α → Value} {T E : TypeId} {O : Nat → Prop} {w0 w w' : World} {b g : Nat} {S : List α} {f l m n : Int}
theorem RgM.mid {f : Nat} {s : Rg α} (h : RgM c T E w b (some ⟨g, 0, none⟩) S f s) : RgW c T E (rgO b (some ⟨g, 0, none⟩)) w w b g S f s.L.length s.m s.n ∧ f < S.length := by
  rcases h.row with ⟨h1, _⟩ | ⟨g', h1, h2, h3, h4⟩
  · cases h1
  · injection h1 with h1
    injection h1 with h1
    subst h1
    exact ⟨⟨h.box, h2, h3, Kept.refl _ _, .inl rfl, .inl (.inr ⟨_, rfl, rfl⟩)⟩, h4⟩
theorem RgW.cells (h : RgW c T E O w0 w b g S f l m n) : w.cell? ⟨b, 0, none⟩ = some (.slice (some ⟨g, 0, none⟩) S.length S.length) ∧ w.cell? ⟨b, 1, none⟩ = some (.int .i64 f) ∧ w.cell? ⟨b, 2, none⟩ = some (.int .i64 l) ∧ w.cell? ⟨b, 3, none⟩ = some (.int .i64 m) ∧ w.cell? ⟨b, 4, none⟩ = some (.int .i64 n) := by
  have h := h.box
  refine ⟨?_, ?_, ?_, ?_, ?_⟩ <;> (rw [Lib.cell_of_heap h]; rfl)
theorem RgW.live (h : RgW c T E O w0 w b g S f l m n) (i : Nat) : w.frozen? ⟨b, i, none⟩ = false := Lib.frozen_of_heap h.box i
theorem RgW.liveG (h : RgW c T E O w0 w b g S f l m n) (i : Nat) : w.frozen? ⟨g, i, none⟩ = false := Lib.frozen_of_heap h.row i
theorem RgW.slot (h : RgW c T E O w0 w b g S f l m n) {i : Nat} {x : α} (hx : S[i]? = some x) : w.cell? ⟨g, i, none⟩ = some (c x) := row_cell h.row hx
theorem RgW.blt (h : RgW c T E O w0 w b g S f l m n) : b < w.heap.size := rheap_lt h.box
theorem RgW.glt (h : RgW c T E O w0 w b g S f l m n) : g < w.heap.size := rheap_lt h.row
theorem RgW.later (h : RgW c T E O w0 w b g S f l m n) (hb : Below w.heap.size w w') : RgW c T E O w0 w' b g S f l m n :=
  ⟨(hb.block _ h.blt).trans h.box, (hb.block _ h.glt).trans h.row, h.gb, h.kept.below_ hb, h.ob, h.og⟩
theorem RgW.drewN (h : RgW c T E O w0 w b g S f l m n) (k : Nat) : RgW c T E O w0 (w.drewN k) b g S f l m n := h.later (below_drewN (Below.refl _ _) k)
theorem RgW.setSlot (h : RgW c T E O w0 w b g S f l m n) (i : Nat) (x : α) : RgW c T E O w0 (w.setCell ⟨g, i, none⟩ (c x)) b g (S.set i x) f l m n := by
  refine ⟨?_, ?_, h.gb, ?_, h.ob, h.og⟩
  · rw [Below.heap_setCell _ _ _ _ (fun e => h.gb e.symm), List.length_set]; exact h.box
  · rw [heap_setCell_same w g i _ _ _ h.row, List.map_set]; simp
  · rcases h.og with h1 | h1
    · exact h.kept.setCell (p := ⟨g, i, none⟩) h1 _
    · exact h.kept.setNew (p := ⟨g, i, none⟩) h1 _
theorem RgW.setBox (h : RgW c T E O w0 w b g S f l m n) (i : Nat) (v : Value) : (w.setCell ⟨b, i, none⟩ v).heap[b]? = some (.cells ((#[.slice (some ⟨g, 0, none⟩) S.length S.length, .int .i64 f, .int .i64 l, .int .i64 m, .int .i64 n] : Array Value).setIfInBounds i v) T (0, 0)) := heap_setCell_same w b i _ _ _ h.box
theorem RgW.setF (h : RgW c T E O w0 w b g S f l m n) (f' : Int) : RgW c T E O w0 (w.setCell ⟨b, 1, none⟩ (.int .i64 f')) b g S f' l m n :=
  ⟨h.setBox 1 _, (Below.heap_setCell w ⟨b, 1, none⟩ _ g h.gb).trans h.row, h.gb, h.kept.setCell (p := ⟨b, 1, none⟩) h.ob _, h.ob, h.og⟩
theorem RgW.setL (h : RgW c T E O w0 w b g S f l m n) (l' : Int) : RgW c T E O w0 (w.setCell ⟨b, 2, none⟩ (.int .i64 l')) b g S f l' m n :=
  ⟨h.setBox 2 _, (Below.heap_setCell w ⟨b, 2, none⟩ _ g h.gb).trans h.row, h.gb, h.kept.setCell (p := ⟨b, 2, none⟩) h.ob _, h.ob, h.og⟩
theorem RgW.setN (h : RgW c T E O w0 w b g S f l m n) (n' : Int) : RgW c T E O w0 (w.setCell ⟨b, 4, none⟩ (.int .i64 n')) b g S f l m n' :=
  ⟨h.setBox 4 _, (Below.heap_setCell w ⟨b, 4, none⟩ _ g h.gb).trans h.row, h.gb, h.kept.setCell (p := ⟨b, 4, none⟩) h.ob _, h.ob, h.og⟩
theorem RgW.stp {f' m' n' : Nat} {L : List α} (h : RgW c T E O w0 w b g S f l m n) (hf : f = f') (hl : l = L.length) (hm : m = m') (hn : n = n') (hS : f' < S.length) (hL : L.length ≤ S.length) (hz : S.length ≤ m') (h1 : 1 ≤ m') (h2 : m' ≤ 1000)
    (hmem : ∀ i, i < L.length → S[(f' + i) % S.length]? = L[i]?) : Stp (RgI c T E) (.pointer (some ⟨b, 0, none⟩)) O w0 ⟨L, m', n'⟩ w := by
  subst hf hl hm hn
  refine ⟨rgO b (some ⟨g, 0, none⟩), ⟨b, _, S, f', rfl, rfl, ⟨h.box, .inr ⟨g, rfl, h.row, h.gb, hS⟩, hL, hz, h1, h2, hmem⟩⟩, h.kept, ?_⟩
  rintro k (rfl | ⟨a, h3, rfl⟩)
  · exact .inl h.ob
  · injection h3 with h3
    subst h3
    exact h.og
end
/-- clear of a slice of one -/
theorem wpList_clear1 {P : Program} {w : World} {ops : Array Oper} {rest : List Oper} {o : Oper} {a : Act} {Q : Exit → Act → World → Prop} (hgd : o.guard = none) (x : Operand) (T E : TypeId)
    (ho : o.op = .call { callee := .builtin .clear, args := #[x], argTypes := #[T] }) (ht : P.underlying T = some (.slice E)) (z : Value) (hz : ∀ w, (zeroValue E).run P w = .ok z w) (hz1 : z.cells = #[z]) (hz2 : z.oneCell' = true)
    (g i c : Nat) (hx : a.eval x = .slice (some ⟨g, i, none⟩) 1 c) (hc : (w.cell? ⟨g, i, none⟩).isSome = true) (hf : w.frozen? ⟨g, i, none⟩ = false)
    (h : wpList P ops Q rest (a.put o.dst (.tuple #[])) (w.setCell ⟨g, i, none⟩ z)) : wpList P ops Q (o :: rest) a w := by
  refine wpList_plain hgd fun K hK => ?_
  have hrun := Lib.run_clear_slice (P := P) w T E o.type z ht hz hz1 hz2 g i 1 c (by omega) (fun j hj => by obtain rfl : j = 0 := (by omega); exact hc) (fun j hj => by obtain rfl : j = 0 := (by omega); exact hf)
  unfold Oper.wp
  simp [execOp, ho, resolve, invoke, builtin, hx, hrun, Result.andThen]
  exact hK _ _ h
end Go.Proofs.Ytbjijmdknlopdaa

namespace Go.Proofs.Ytbjijmdknlopdaa
open Go.RowKit
set_option linter.unusedVariables false

abbrev cI : Int → Value := fun x => .int .i64 x
abbrev RgII : World → Value → Rg Int → (Nat → Prop) → Prop := RgI cI 54 3
abbrev RgMI := RgM cI 54 3

theorem rgM_newI {w : World} {b m : Nat} (h : w.heap[b]? = some (.cells #[.slice none 0 0, .int .i64 0, .int .i64 0, .int .i64 (m : Int), .int .i64 0] 54 (0, 0))) (h1 : 1 ≤ m) (h2 : m ≤ 1000) : RgMI w b none [] 0 ⟨[], m, 0⟩ :=
  ⟨h, .inl ⟨rfl, rfl, rfl⟩, Nat.le_refl _, Nat.zero_le _, h1, h2, fun i hi => by simp at hi⟩
set_option maxHeartbeats 2000000 in
theorem rnewI_v (room : Int) (w : World) : Calls Try.prog 8 #[.int .i64 room] w fun e w' => ∃ v O, e = .returned v ∧ RgII w' v ⟨[], (roomN room).toNat, 0⟩ O ∧ Below w.heap.size w w' ∧ ∀ k, O k → w.heap.size ≤ k := by
  obtain ⟨m, hm⟩ : ∃ m, (roomN room).toNat = m := ⟨_, rfl⟩
  have HM := Lib.hid hm
  rw [hm]
  clear hm
  go_enter Try.func8, Try.ntmps8
  go_wp2
  all_goals (
    go_ret
    have hm := HM.out
    unfold roomN at hm)
  · have hv : (m : Int) = 1 := by rw [if_pos (by assumption)] at hm; omega
    refine ⟨_, rfl, _, ⟨w.heap.size, none, [], 0, rfl, rfl, rgM_newI (by rw [hv]; exact heap_alloc_new w _) (by omega) (by omega)⟩, (Below.refl _ _).alloc (Nat.le_refl _) _, ?_⟩
    rintro k (rfl | ⟨_, h, _⟩)
    · exact Nat.le_refl _
    · cases h
  · have hv : (m : Int) = 1000 := by rw [if_neg (by omega), if_pos (by assumption)] at hm; omega
    refine ⟨_, rfl, _, ⟨w.heap.size, none, [], 0, rfl, rfl, rgM_newI (by rw [hv]; exact heap_alloc_new w _) (by omega) (by omega)⟩, (Below.refl _ _).alloc (Nat.le_refl _) _, ?_⟩
    rintro k (rfl | ⟨_, h, _⟩)
    · exact Nat.le_refl _
    · cases h
  · have hv : (m : Int) = room := by rw [if_neg (by omega), if_neg (by omega)] at hm; omega
    refine ⟨_, rfl, _, ⟨w.heap.size, none, [], 0, rfl, rfl, rgM_newI (by rw [hv]; exact heap_alloc_new w _) (by omega) (by omega)⟩, (Below.refl _ _).alloc (Nat.le_refl _) _, ?_⟩
    rintro k (rfl | ⟨_, h, _⟩)
    · exact Nat.le_refl _
    · cases h
set_option maxHeartbeats 2000000 in
theorem rlenI_v {w : World} {v : Value} {s : Rg Int} {O : Nat → Prop} (h : RgII w v s O) : Calls Try.prog 16 #[v] w (Reads w (.int .i64 s.L.length)) := by
  obtain ⟨b, p, S, f, rfl, rfl, h⟩ := h
  have H := Lib.hid h
  obtain ⟨a0, a1, a2, a3, a4⟩ := h.cells
  clear h
  unfold Reads
  go_enter Try.func16, Try.ntmps16
  go_wp2
  go_ret
  exact ⟨rfl, 0, rfl⟩
set_option maxHeartbeats 2000000 in
theorem rroomI_v {w : World} {v : Value} {s : Rg Int} {O : Nat → Prop} (h : RgII w v s O) : Calls Try.prog 17 #[v] w (Reads w (.int .i64 s.m)) := by
  obtain ⟨b, p, S, f, rfl, rfl, h⟩ := h
  have H := Lib.hid h
  obtain ⟨a0, a1, a2, a3, a4⟩ := h.cells
  clear h
  unfold Reads
  go_enter Try.func17, Try.ntmps17
  go_wp2
  go_ret
  exact ⟨rfl, 0, rfl⟩
set_option maxHeartbeats 2000000 in
theorem rlostI_v {w : World} {v : Value} {s : Rg Int} {O : Nat → Prop} (h : RgII w v s O) : Calls Try.prog 18 #[v] w (Reads w (.int .i64 s.n)) := by
  obtain ⟨b, p, S, f, rfl, rfl, h⟩ := h
  have H := Lib.hid h
  obtain ⟨a0, a1, a2, a3, a4⟩ := h.cells
  clear h
  unfold Reads
  go_enter Try.func18, Try.ntmps18
  go_wp2
  go_ret
  exact ⟨rfl, 0, rfl⟩
set_option maxHeartbeats 4000000 in
theorem rslotI_v {w : World} {b f k i : Nat} {p : Option Addr} (hf : f < k) (hz : k ≤ 1000) (hi : i ≤ 1000) (hb : b < w.heap.size) (a0 : w.cell? ⟨b, 0, none⟩ = some (.slice p k k)) (a1 : w.cell? ⟨b, 1, none⟩ = some (.int .i64 (f : Int))) {r : Nat} (hr : (f + i) % k = r) : Calls Try.prog 29 #[.pointer (some ⟨b, 0, none⟩), .int .i64 (i : Int)] w (Reads w (.int .i64 (r : Int))) := by
  have hm : Int.tmod ((f : Int) + (i : Int)) (k : Int) = (r : Int) := by rw [← hr]; simp [← Int.natCast_add, ← Int.ofNat_tmod]
  have h0 : (k : Int) ≠ 0 := by omega
  clear hr
  unfold Reads
  go_enter Try.func29, Try.ntmps29
  go_wp2
  go_quiet (fail)
  go_wp2
  go_ret
  exact ⟨rfl, nq, rfl⟩
set_option maxHeartbeats 4000000 in
theorem rpeekI_f {w : World} {v : Value} {m n : Nat} {O : Nat → Prop} (h : RgII w v ⟨[], m, n⟩ O) : Calls Try.prog 13 #[v] w (Reads w (.tuple #[.int .i64 0, .int .i64 6])) := by
  obtain ⟨b, p, S, f, rfl, rfl, h⟩ := h
  have H := Lib.hid h
  obtain ⟨a0, a1, a2, a3, a4⟩ := h.cells
  simp only [List.length_nil, Int.natCast_zero] at a2
  clear h
  unfold Reads
  go_enter Try.func13, Try.ntmps13
  go_wp2
  go_ret2
  exact ⟨rfl, 0, rfl⟩
set_option maxHeartbeats 4000000 in
theorem rpeekI_t {w : World} {v : Value} {x : Int} {L : List Int} {m n : Nat} {O : Nat → Prop} (h : RgII w v ⟨x :: L, m, n⟩ O) : Calls Try.prog 13 #[v] w (Reads w (.tuple #[.int .i64 x, .int .i64 0])) := by
  obtain ⟨b, p, S, f, rfl, rfl, h⟩ := h
  rcases h.row with ⟨rfl, rfl, rfl⟩ | ⟨g, rfl, hg, hgb, hf⟩
  · have := h.len; simp at this
  have hx : w.cell? ⟨g, f, none⟩ = some (.int .i64 x) := row_cell hg (round_first hf h.mem)
  have h0 : (((x :: L).length : Nat) : Int) ≠ 0 := by simp; omega
  obtain ⟨k, hk⟩ : ∃ k, S.length = k := ⟨_, rfl⟩
  obtain ⟨r, hr⟩ : ∃ r, (x :: L).length = r := ⟨_, rfl⟩
  have hz : k ≤ 1000 := by have := h.fit; have := h.hi; omega
  have hb : b < w.heap.size := h.blt
  have hgl : g < w.heap.size := rheap_lt hg
  obtain ⟨a0, a1, a2, a3, a4⟩ := h.cells
  rw [hk] at a0 hf
  simp only [hr] at a2 h0
  clear h hk hg hr
  unfold Reads
  go_enter Try.func13, Try.ntmps13
  go_wp2
  go_quiet (fail)
  go_wp2
  go_ret2
  exact ⟨rfl, nq, rfl⟩
end Go.Proofs.Ytbjijmdknlopdaa

namespace Go.Proofs.Ytbjijmdknlopdaa
open Go.RowKit
set_option linter.unusedVariables false

set_option maxHeartbeats 4000000 in
theorem rpiecesI_x1 {w : World} {b g k f l : Nat} (hf : f < k) (hz : k ≤ 1000) (hl : l ≤ k) (hb : b < w.heap.size) (hgl : g < w.heap.size)
   (a0 : w.cell? ⟨b, 0, none⟩ = some (.slice (some ⟨g, 0, none⟩) k k)) (a1 : w.cell? ⟨b, 1, none⟩ = some (.int .i64 (f : Int))) (a2 : w.cell? ⟨b, 2, none⟩ = some (.int .i64 (l : Int))) (h : f + l ≤ k) (h0 : 0 < l) : Calls Try.prog 33 #[.pointer (some ⟨b, 0, none⟩)] w (Reads w (.tuple #[.slice (some ⟨g, f, none⟩) l l, .slice (some ⟨g, 0, none⟩) 0 0])) := by
  unfold Reads
  go_enter Try.func33, Try.ntmps33
  go_wp2
  go_quiet (fail)
  have hr : ¬ (0 < (f : Int) + (l : Int) - (k : Int)) := by omega
  go_wp2
  all_goals (
    go_quiet (fail)
    go_wp2
    go_ret2
    refine ⟨?_, _, World.drewN_drewN _ _ _⟩
    first | rfl | (try simp); try omega)
set_option maxHeartbeats 4000000 in
theorem rpiecesI_x2 {w : World} {b g k f l : Nat} (hf : f < k) (hz : k ≤ 1000) (hl : l ≤ k) (hb : b < w.heap.size) (hgl : g < w.heap.size)
   (a0 : w.cell? ⟨b, 0, none⟩ = some (.slice (some ⟨g, 0, none⟩) k k)) (a1 : w.cell? ⟨b, 1, none⟩ = some (.int .i64 (f : Int))) (a2 : w.cell? ⟨b, 2, none⟩ = some (.int .i64 (l : Int))) (h : k < f + l) : Calls Try.prog 33 #[.pointer (some ⟨b, 0, none⟩)] w (Reads w (.tuple #[.slice (some ⟨g, f, none⟩) (k - f) (k - f), .slice (some ⟨g, 0, none⟩) (f + l - k) (f + l - k)])) := by
  unfold Reads
  go_enter Try.func33, Try.ntmps33
  go_wp2
  go_quiet (fail)
  have hr : 0 < (f : Int) + (l : Int) - (k : Int) := by omega
  go_wp2
  all_goals (
    go_quiet (fail)
    go_wp2
    go_ret2
    refine ⟨?_, _, World.drewN_drewN _ _ _⟩
    first | rfl | (try simp); try omega)
set_option maxHeartbeats 4000000 in
theorem rpiecesI_x3 {w : World} {b g k f l : Nat} (hf : f < k) (hz : k ≤ 1000) (hl : l ≤ k) (hb : b < w.heap.size) (hgl : g < w.heap.size)
   (a0 : w.cell? ⟨b, 0, none⟩ = some (.slice (some ⟨g, 0, none⟩) k k)) (a1 : w.cell? ⟨b, 1, none⟩ = some (.int .i64 (f : Int))) (a2 : w.cell? ⟨b, 2, none⟩ = some (.int .i64 (l : Int))) (h0 : l = 0) : Calls Try.prog 33 #[.pointer (some ⟨b, 0, none⟩)] w (Reads w (.tuple #[.slice (some ⟨g, 0, none⟩) 0 0, .slice (some ⟨g, 0, none⟩) 0 0])) := by
  subst h0
  simp only [Int.natCast_zero] at a2
  unfold Reads
  go_enter Try.func33, Try.ntmps33
  go_wp2
  go_quiet (fail)
  have hr : ¬ (0 < (f : Int) - (k : Int)) := by omega
  go_wp2
  all_goals (
    go_quiet (fail)
    go_wp2
    go_ret2
    refine ⟨?_, _, World.drewN_drewN _ _ _⟩
    first | rfl | (try simp); try omega)
set_option maxHeartbeats 4000000 in
theorem rpiecesI_x0 {w : World} {b : Nat} (hb : b < w.heap.size)
   (a0 : w.cell? ⟨b, 0, none⟩ = some (.slice none 0 0)) (a1 : w.cell? ⟨b, 1, none⟩ = some (.int .i64 0)) (a2 : w.cell? ⟨b, 2, none⟩ = some (.int .i64 0)) : Calls Try.prog 33 #[.pointer (some ⟨b, 0, none⟩)] w (Reads w (.tuple #[.slice none 0 0, .slice none 0 0])) := by
  unfold Reads
  go_enter Try.func33, Try.ntmps33
  go_wp2
  go_quiet (fail)
  go_wp2
  all_goals (
    go_quiet (fail)
    go_wp2
    go_ret2
    exact ⟨rfl, _, World.drewN_drewN _ _ _⟩)
theorem rpiecesI_v {w : World} {b : Nat} {p : Option Addr} {S : List Int} {f : Nat} {s : Rg Int} (h : RgMI w b p S f s) : ∃ v, PcG cI w v s.L ∧ ∀ w', Below w.heap.size w w' → Calls Try.prog 33 #[.pointer (some ⟨b, 0, none⟩)] w' (Reads w' v) := by
  have hl := h.len
  have hz : S.length ≤ 1000 := Nat.le_trans h.fit h.hi
  rcases h.row with ⟨rfl, rfl, rfl⟩ | ⟨g, rfl, hg, hgb, hf⟩
  · have h0 : s.L = [] := List.eq_nil_of_length_eq_zero (by simpa using hl)
    refine ⟨.tuple #[.slice none 0 0, .slice none 0 0], ?_, fun w' hb => ?_⟩
    · rw [h0]; exact ⟨[], [], none, none, rfl, rfl, SlP.none_ _ _ _, SlP.none_ _ _ _⟩
    · obtain ⟨a0, a1, a2, a3, a4⟩ := (h.later hb).cells
      rw [h0] at a2
      exact rpiecesI_x0 (h.later hb).blt a0 a1 a2
  · have hgl := rheap_lt hg
    have hp := round_pieces hf hl h.mem
    by_cases h0 : s.L.length = 0
    · have h0' : s.L = [] := List.eq_nil_of_length_eq_zero h0
      refine ⟨_, ?_, fun w' hb => by obtain ⟨a0, a1, a2, _, _⟩ := (h.later hb).cells; exact rpiecesI_x3 hf hz hl (h.later hb).blt (Nat.lt_of_lt_of_le (rheap_lt hg) hb.size) a0 a1 a2 h0⟩
      rw [h0']
      exact ⟨[], [], _, _, rfl, rfl, SlP.none_ _ _ _, SlP.none_ _ _ _⟩
    · by_cases h1 : f + s.L.length ≤ S.length
      · refine ⟨_, ?_, fun w' hb => by obtain ⟨a0, a1, a2, _, _⟩ := (h.later hb).cells; exact rpiecesI_x1 hf hz hl (h.later hb).blt (Nat.lt_of_lt_of_le (rheap_lt hg) hb.size) a0 a1 a2 h1 (by omega)⟩
        have e : f + s.L.length - S.length = 0 := by omega
        refine ⟨_, _, some ⟨g, f, none⟩, some ⟨g, 0, none⟩, ?_, hp, SlP.row hg, SlP.row (i := 0) hg⟩
        rw [e]
        simp
        omega
      · refine ⟨_, ?_, fun w' hb => by obtain ⟨a0, a1, a2, _, _⟩ := (h.later hb).cells; exact rpiecesI_x2 hf hz hl (h.later hb).blt (Nat.lt_of_lt_of_le (rheap_lt hg) hb.size) a0 a1 a2 (by omega)⟩
        refine ⟨_, _, some ⟨g, f, none⟩, some ⟨g, 0, none⟩, ?_, hp, SlP.row hg, SlP.row (i := 0) hg⟩
        simp
        omega
theorem info_rI : (Try.prog.info? 3).map (fun i => (i.zero, i.size, i.bytes)) = some (some (.int .i64 0), 1, 8) := by kernel_rfl
theorem run_mkrI (n : Nat) (hn : n ≤ 1000) (w : World) :
    (Instr.makeSlice 26 (.int .i64 n) (.int .i64 n)).run Try.prog w = .ok (.slice (some ⟨w.heap.size, 0, none⟩) n n) (w.alloc (.cells (List.replicate n (cI 0)).toArray 3)) := by
  obtain ⟨i0, hi, hz0, hz1, hz2⟩ := info_parts info_rI
  have := run_make (P := Try.prog) w 26 3 i0 _ Try.underlying26 hi hz0 .i64 .i64 (n : Int) (n : Int) (by omega) (Int.le_refl _) (by rw [hz2]; omega) (by omega)
  rw [hz1, Int.toNat_natCast, rmade_rep _ rfl] at this
  exact this
set_option maxHeartbeats 8000000 in
theorem rcopiedI_v {w : World} {b : Nat} {p : Option Addr} {S : List Int} {f k : Nat} {s : Rg Int} (h : RgMI w b p S f s) (hk : s.L.length ≤ k) (hk2 : k ≤ 1000) :
    Calls Try.prog 28 #[.pointer (some ⟨b, 0, none⟩), .int .i64 (k : Int)] w fun e w' => ∃ g, e = .returned (.slice (some ⟨g, 0, none⟩) k k) ∧ w.heap.size ≤ g ∧ w'.heap[g]? = some (.cells ((s.L ++ List.replicate (k - s.L.length) 0).map cI).toArray 3 (0, 0)) ∧ Below w.heap.size w w' := by
  have H := Lib.hid h
  have hmk := run_mkrI k hk2
  obtain ⟨Z, hZ⟩ : ∃ Z, List.replicate k (cI 0) = Z := ⟨_, rfl⟩
  have hZl : Z.length = k := by rw [← hZ]; simp
  have HZ := Lib.hid hZ
  have HZl := Lib.hid hZl
  rw [hZ] at hmk
  obtain ⟨L, hL⟩ : ∃ L, s.L = L := ⟨_, rfl⟩
  have HL := Lib.hid hL
  rw [hL] at hk ⊢
  have HK := Lib.hid hk
  clear h hZ hZl hL hk
  go_enter Try.func28, Try.ntmps28
  go_wp2_with fail
  obtain ⟨v, hv, hc⟩ := rpiecesI_v H.out
  refine (hc _ ((Below.refl _ _).alloc (Nat.le_refl _) (.cells Z.toArray 3))).mono ?_
  rw [HL.out] at hv
  obtain ⟨A, B, p1, p2, rfl, hAB, hA, hB⟩ := hv
  rintro e w1 ⟨rfl, n, hw⟩
  have HG : Hid (w1.heap[w.heap.size]? = some (.cells Z.toArray 3 (0, 0))) := Lib.hid (by rw [hw]; exact heap_alloc_new w _)
  have HB : Hid (Below w.heap.size w w1) := Lib.hid (by rw [hw]; exact below_drewN ((Below.refl _ _).alloc (Nat.le_refl _) _) n)
  have HA := Lib.hid hA
  have HS := Lib.hid hB
  have HAB := Lib.hid hAB
  obtain ⟨na, hna⟩ : ∃ n, A.length = n := ⟨_, rfl⟩
  obtain ⟨nb, hnb⟩ : ∃ n, B.length = n := ⟨_, rfl⟩
  have hab : na + nb ≤ k := by have := HK.out; rw [hAB, List.length_append] at this; omega
  have HNA := Lib.hid hna
  have HNB := Lib.hid hnb
  obtain ⟨X, hX⟩ : ∃ X, A.map cI = X := ⟨_, rfl⟩
  obtain ⟨Y, hY⟩ : ∃ Y, B.map cI = Y := ⟨_, rfl⟩
  have HX := Lib.hid hX
  have HY := Lib.hid hY
  have hXl : X.length = na := by rw [← hX]; simpa using hna
  have hYl : Y.length = nb := by rw [← hY]; simpa using hnb
  have hXo : ∀ v ∈ X, v.oneCell' = true := by rw [← hX]; intro v hv; obtain ⟨a, _, rfl⟩ := List.mem_map.1 hv; rfl
  have hYo : ∀ v ∈ Y, v.oneCell' = true := by rw [← hY]; intro v hv; obtain ⟨a, _, rfl⟩ := List.mem_map.1 hv; rfl
  have HXl := Lib.hid hXl
  have HYl := Lib.hid hYl
  have HXo := Lib.hid hXo
  have HYo := Lib.hid hYo
  rw [hna, hnb]
  have hg1 : w.heap.size < w1.heap.size := rheap_lt HG.out
  clear hA hB hw hAB hna hnb hX hY hXo hYo hYl hc hmk
  have hfin : splice (splice Z 0 X) na Y = (L ++ List.replicate (k - L.length) 0).map cI := by
    have h1 := splice_rep (cI 0) k X Y (by rw [hXl, HYl.out]; exact hab)
    rw [hXl, HZ.out] at h1
    rw [h1, List.map_append, HAB.out, List.map_append, HX.out, HY.out, List.map_replicate, List.length_append, List.length_append, HXl.out, HYl.out, HNA.out, HNB.out]
  have HF := Lib.hid hfin
  clear hfin
  by_cases hkn : k = na
  · subst hkn
    go_wp2_with (first | (refine wpList_copy_splice rfl (.tmp 16) (.tmp 17) 26 26 rfl 3 Try.underlying26 (by kernel_rfl) (some ⟨w.heap.size, 0, none⟩) p1 k k k k rfl rfl w.heap.size 0 Z 3 HG.out X (by rw [HXl.out]; exact (Nat.min_eq_left (by omega)).symm) (fun h0 => ⟨rfl, HA.out.src HB.out HX.out h0⟩) (by rw [HXl.out, HZl.out]; omega) HXo.out w.heap.size w HB.out (Nat.le_refl _) ?_; intro w2 hg2 hb2) | (refine wpList_copy_splice rfl (.tmp 19) (.tmp 20) 26 26 rfl 3 Try.underlying26 (by kernel_rfl) (some ⟨w.heap.size, 0, none⟩) p2 0 0 nb nb rfl rfl w.heap.size k (splice Z 0 X) 3 hg2.out Y (by rw [HYl.out]; exact (Nat.min_eq_left (by omega)).symm) (fun h0 => by rw [HYl.out] at h0; omega) (by rw [length_splice Z 0 X (by rw [HXl.out, HZl.out]; omega), HYl.out, HZl.out]; omega) HYo.out w.heap.size w hb2 (Nat.le_refl _) ?_; intro w3 hg3 hb3))
    go_ret
    exact ⟨w.heap.size, rfl, Nat.le_refl _, by rw [← HF.out]; exact hg3.out, hb3⟩
  · go_wp2_with (first | (refine wpList_copy_splice rfl (.tmp 16) (.tmp 17) 26 26 rfl 3 Try.underlying26 (by kernel_rfl) (some ⟨w.heap.size, 0, none⟩) p1 k k na na rfl rfl w.heap.size 0 Z 3 HG.out X (by rw [HXl.out]; exact (Nat.min_eq_left (by omega)).symm) (fun h0 => ⟨rfl, HA.out.src HB.out HX.out h0⟩) (by rw [HXl.out, HZl.out]; omega) HXo.out w.heap.size w HB.out (Nat.le_refl _) ?_; intro w2 hg2 hb2) | (refine wpList_copy_splice rfl (.tmp 19) (.tmp 20) 26 26 rfl 3 Try.underlying26 (by kernel_rfl) (some ⟨w.heap.size, na, none⟩) p2 (k - na) (k - na) nb nb rfl rfl w.heap.size na (splice Z 0 X) 3 hg2.out Y (by rw [HYl.out]; exact (Nat.min_eq_left (by omega)).symm) (fun h0 => ⟨rfl, HS.out.src hb2 HY.out h0⟩) (by rw [length_splice Z 0 X (by rw [HXl.out, HZl.out]; omega), HYl.out, HZl.out]; omega) HYo.out w.heap.size w hb2 (Nat.le_refl _) ?_; intro w3 hg3 hb3))
    go_ret
    exact ⟨w.heap.size, rfl, Nat.le_refl _, by rw [← HF.out]; exact hg3.out, hb3⟩
end Go.Proofs.Ytbjijmdknlopdaa

namespace Go.Proofs.Ytbjijmdknlopdaa
open Go.RowKit
set_option linter.unusedVariables false

set_option maxHeartbeats 4000000 in
theorem rclearI_v {w : World} {v : Value} {s : Rg Int} {O : Nat → Prop} (h : RgII w v s O) : Calls Try.prog 15 #[v] w fun e w' => e = .returned (.int .i64 s.L.length) ∧ Stp RgII v O w ⟨[], s.m, s.n⟩ w' := by
  obtain ⟨b, p, S, f, rfl, rfl, h⟩ := h
  have H := Lib.hid h
  obtain ⟨a0, a1, a2, a3, a4⟩ := h.cells
  have f0 := h.live 0
  have f1 := h.live 1
  have f2 := h.live 2
  have hb := h.blt
  clear h
  go_enter Try.func15, Try.ntmps15
  go_wp2
  go_ret
  have h1 := heap_setCell_same w b 0 _ _ (.slice none 0 0) H.out.box
  have h2 := heap_setCell_same _ b 1 _ _ (.int .i64 0) h1
  have h3 := heap_setCell_same _ b 2 _ _ (.int .i64 0) h2
  refine ⟨rfl, rgO b none, ⟨b, none, [], 0, rfl, rfl, ⟨h3, .inl ⟨rfl, rfl, rfl⟩, Nat.le_refl _, Nat.zero_le _, H.out.lo, H.out.hi, fun i hi => by simp at hi⟩⟩, ?_, ?_⟩
  · exact (((Kept.refl _ _).setCell (p := ⟨b, 0, none⟩) (.inl rfl) _).setCell (p := ⟨b, 1, none⟩) (.inl rfl) _).setCell (p := ⟨b, 2, none⟩) (.inl rfl) _
  · rintro k (rfl | ⟨_, h, _⟩)
    · exact .inl (.inl rfl)
    · cases h
set_option maxHeartbeats 4000000 in
theorem rallI_v {w : World} {v : Value} {s : Rg Int} {O : Nat → Prop} (h : RgII w v s O) : Calls Try.prog 20 #[v] w fun e w' => ∃ u, e = .returned u ∧ FreeA cI w.heap.size w' u s.L ∧ Below w.heap.size w w' := by
  obtain ⟨b, p, S, f, rfl, rfl, h⟩ := h
  have H := Lib.hid h
  obtain ⟨a0, a1, a2, a3, a4⟩ := h.cells
  have hb := h.blt
  clear h
  go_enter Try.func20, Try.ntmps20
  go_wp2_with fail
  refine (rcopiedI_v H.out (Nat.le_refl _) (Nat.le_trans H.out.len (Nat.le_trans H.out.fit H.out.hi))).mono ?_
  rintro e w1 ⟨g, rfl, hg1, hg2, hb2⟩
  have HG := Lib.hid hg2
  clear hg2
  go_wp2
  go_ret
  refine ⟨_, rfl, .inr ⟨g, 0, s.L.length, rfl, Nat.le_refl _, hg1, rheap_lt HG.out, fun i a ha => ?_⟩, hb2⟩
  rw [Nat.zero_add]
  refine ⟨row_cell HG.out ?_, Lib.frozen_of_heap HG.out i⟩
  rw [Nat.sub_self, List.replicate_zero, List.append_nil]
  exact ha
set_option maxHeartbeats 4000000 in
theorem rtakeI_f {w : World} {v : Value} {m n : Nat} {O : Nat → Prop} (h : RgII w v ⟨[], m, n⟩ O) : Calls Try.prog 14 #[v] w fun e w' => e = .returned (.tuple #[.int .i64 0, .int .i64 6]) ∧ Stp RgII v O w ⟨[], m, n⟩ w' := by
  have H := Lib.hid h
  clear h
  go_enter Try.func14, Try.ntmps14
  go_wp2_with fail
  refine (rpeekI_f H.out).mono ?_
  rintro e w1 ⟨rfl, k, rfl⟩
  go_wp2
  go_ret2
  exact ⟨rfl, O, (rgI_obj _ _ _).stay H.out (fun _ _ => rfl), (Kept.refl _ _).drewN k, Grows.refl _ _⟩
set_option maxHeartbeats 4000000 in
theorem rtakeI_t {w : World} {v : Value} {x : Int} {L : List Int} {m n : Nat} {O : Nat → Prop} (h : RgII w v ⟨x :: L, m, n⟩ O) : Calls Try.prog 14 #[v] w fun e w' => e = .returned (.tuple #[.int .i64 x, .int .i64 0]) ∧ Stp RgII v O w ⟨L, m, n⟩ w' := by
  have HI := Lib.hid h
  obtain ⟨b, p, S, f, rfl, rfl, h⟩ := h
  rcases h.row with ⟨rfl, rfl, rfl⟩ | ⟨g, rfl, _, _, hf⟩
  · have := h.len; simp at this
  have H := Lib.hid h
  have hz : S.length ≤ 1000 := Nat.le_trans h.fit h.hi
  obtain ⟨k, hk⟩ : ∃ k, S.length = k := ⟨_, rfl⟩
  have HK := Lib.hid hk
  rw [hk] at hf hz
  clear h hk
  go_enter Try.func14, Try.ntmps14
  go_wp2_with fail
  refine (rpeekI_t HI.out).mono ?_
  rintro e w1 ⟨rfl, k1, rfl⟩
  have HW : Hid (RgW cI 54 3 (rgO b (some ⟨g, 0, none⟩)) w (w.drewN k1) b g S (f : Int) ((x :: L).length : Nat) m n) := Lib.hid (H.out.mid.1.drewN k1)
  generalize w.drewN k1 = w1 at HW ⊢
  obtain ⟨l, hl⟩ : ∃ l, (x :: L).length = l := ⟨_, rfl⟩
  have HL := Lib.hid hl
  rw [hl] at HW
  clear hl
  obtain ⟨a0, a1, a2, a3, a4⟩ := HW.out.cells
  rw [HK.out] at a0
  have f1 := HW.out.live 1
  have f2 := HW.out.live 2
  have hb := HW.out.blt
  have hg := HW.out.glt
  go_upto_region 4 with fail
  have hcl : ∀ (n : Later w1) (b o : Nat), b < w1.heap.size → n.w.cell? ⟨b, o, none⟩ = w1.cell? ⟨b, o, none⟩ := later_cells w1
  refine wp_region_sec 14 [] (fun _ _ _ => True) (fun _ _ _ _ _ _ => True.intro) (by kernel_rfl) (by kernel_rfl) (by kernel_rfl) (by kernel_rfl) (by kernel_rfl) ?_
  simp only [List.take_succ_cons, List.take_zero, List.drop_succ_cons, List.drop_zero]
  repeat ((first | refine sec_plain (by rfl) (by rfl) (by rfl) (by rfl) ?_ | refine sec_nil (by rfl) (by rfl) (by rfl) (by rfl) (by rfl) ?_); intro K hK; go_big_quiet_op; go_big_quiet_on)
  intro xs m9 hF
  simp only [secFill]
  clear hF xs hcl
  have HW2 := Lib.hid (HW.out.later m9.h)
  generalize m9.w = w2 at HW2 ⊢
  clear a0 a1 a2 a3 a4 f1 f2 hb hg
  have hx2 : S[f]? = some x := round_first (by rw [HK.out]; exact hf) H.out.mem
  have HX2 := Lib.hid hx2
  clear hx2
  refine wpList_clear1 rfl (.tmp 28) 26 3 rfl Try.underlying26 (cI 0) (fun w => rfl) rfl rfl g f (k - f) rfl (by rw [HW2.out.slot HX2.out]; rfl) (HW2.out.liveG f) ?_
  have HW3 := Lib.hid (HW2.out.setSlot f 0)
  generalize w2.setCell ⟨g, f, none⟩ (cI 0) = w3 at HW3 ⊢
  obtain ⟨a0, a1, a2, a3, a4⟩ := HW3.out.cells
  rw [List.length_set, HK.out] at a0
  have f1 := HW3.out.live 1
  have f2 := HW3.out.live 2
  have hb := HW3.out.blt
  have hzr : (f + 1) % k < k := Nat.mod_lt _ (by omega)
  obtain ⟨r, hr⟩ : ∃ r, (f + 1) % k = r := ⟨_, rfl⟩
  rw [hr] at hzr
  have HR := Lib.hid (And.intro hr hzr)
  have hl1 : 1 ≤ l := by have := HL.out; simp at this; omega
  have hl2 : l ≤ 1000 := by have := H.out.len; have e := HL.out; have e2 := HK.out; simp only at this; omega
  go_wp2_with fail
  refine (rslotI_v (i := 1) hf hz (by omega) hb a0 a1 hr).mono ?_
  clear hr hzr
  rintro e w4 ⟨rfl, k2, rfl⟩
  go_wp2
  go_ret2
  refine ⟨rfl, ((((HW3.out.drewN k2).setF (r : Int)).setL ((l : Int) - 1))).stp rfl ?_ rfl rfl ?_ ?_ ?_ H.out.lo H.out.hi ?_⟩
  · have := HL.out; simp at this; omega
  · rw [List.length_set, HK.out]; exact HR.out.2
  · have := H.out.len; rw [List.length_set]; simp at this; omega
  · rw [List.length_set]; exact H.out.fit
  · rw [← HR.out.1, ← HK.out]
    exact round_take (by rw [HK.out]; exact hf) H.out.len H.out.mem 0
end Go.Proofs.Ytbjijmdknlopdaa
