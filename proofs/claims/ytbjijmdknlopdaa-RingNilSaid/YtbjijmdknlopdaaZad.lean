/- Of no program: an object behind a pointer: its calls may turn the blocks that it owns, and make new ones; all others stay. Of no program: a row of the call's own as an object: what it owns is its block; appended to, all others stay. Ring, the document's side: New, Put, Take. Ring: what the walks ask of the code. No program is meant but by its functions' numbers. -/
import Derived.Test.YtbjijmdknlopdaaZac
import Derived.Maps.AppendAt
import Derived.Laws.AppendOwnNone
import Derived.Test.YtbjijmdknlopdaaZab
namespace Go.Proofs.Ytbjijmdknlopdaa
open Go.RowKit
set_option linter.unusedVariables false

/-- of the blocks that were there those alone may have turned that O names -/
structure Kept (O : Nat → Prop) (w w' : World) : Prop where
  os : w'.os = w.os
  tape : w'.tape = w.tape
  output : w'.output = w.output
  size : w.heap.size ≤ w'.heap.size
  block : ∀ k, k < w.heap.size → ¬ O k → w'.heap[k]? = w.heap[k]?
theorem Kept.of_below {O : Nat → Prop} {w w' : World} (h : Below w.heap.size w w') : Kept O w w' := ⟨h.os, h.tape, h.output, h.size, fun k hk _ => h.block k hk⟩
theorem Kept.refl (O : Nat → Prop) (w : World) : Kept O w w := .of_below (Below.refl _ _)
/-- what a call leaves of what the object owns: what it owned, or what is new -/
def Grows (O : Nat → Prop) (w : World) (O' : Nat → Prop) : Prop := ∀ k, O' k → O k ∨ w.heap.size ≤ k
theorem Grows.refl (O : Nat → Prop) (w : World) : Grows O w O := fun k h => .inl h
theorem Kept.trans {O O' : Nat → Prop} {w w1 w2 : World} (h : Kept O w w1) (h' : Kept O' w1 w2) (hg : Grows O w O') : Kept O w w2 :=
  ⟨h'.os.trans h.os, h'.tape.trans h.tape, h'.output.trans h.output, Nat.le_trans h.size h'.size, fun k hk hn =>
    (h'.block k (Nat.lt_of_lt_of_le hk h.size) (fun ho => by rcases hg k ho with h1 | h1; exact hn h1; omega)).trans (h.block k hk hn)⟩
theorem Grows.trans {O O' O2 : Nat → Prop} {w w1 : World} (h : Grows O w O') (h' : Grows O' w1 O2) (hs : w.heap.size ≤ w1.heap.size) : Grows O w O2 := fun k hk => by
  rcases h' k hk with h1 | h1
  · exact h k h1
  · exact .inr (Nat.le_trans hs h1)
theorem Kept.below {O : Nat → Prop} {B : Nat} {a w w' : World} (h : Kept O w w') (hb : Below B a w) (hB : B ≤ w.heap.size) (ho : ∀ k, O k → B ≤ k) : Below B a w' :=
  hb.trans ⟨h.os, h.tape, h.output, h.size, fun k hk => h.block k (by omega) (fun h1 => by have := ho k h1; omega)⟩
theorem Kept.cell {O : Nat → Prop} {w w' : World} (h : Kept O w w') {p : Addr} (hp : p.block < w.heap.size) (hn : ¬ O p.block) : w'.cell? p = w.cell? p := World.cell?_of_block (w := w) (h.block p.block hp hn)
theorem Kept.frozen {O : Nat → Prop} {w w' : World} (h : Kept O w w') {p : Addr} (hp : p.block < w.heap.size) (hn : ¬ O p.block) : w'.frozen? p = w.frozen? p := World.frozen?_of_block (w := w) (h.block p.block hp hn)

/-- an object's invariant speaks of the blocks alone that it owns, and they are there -/
structure IsObj {σ : Type} (I : World → Value → σ → (Nat → Prop) → Prop) : Prop where
  stay : ∀ {w w' : World} {v : Value} {s : σ} {O : Nat → Prop}, I w v s O → (∀ k, O k → w'.heap[k]? = w.heap[k]?) → I w' v s O
  lt : ∀ {w : World} {v : Value} {s : σ} {O : Nat → Prop}, I w v s O → ∀ k, O k → k < w.heap.size
/-- behind a call of the object's -/
def Stp {σ : Type} (I : World → Value → σ → (Nat → Prop) → Prop) (v : Value) (O : Nat → Prop) (w : World) (s' : σ) (w' : World) : Prop := ∃ O', I w' v s' O' ∧ Kept O w w' ∧ Grows O w O'
/-- what a caller knows: the object, and that what was there when the caller began is as it was -/
structure Has {σ : Type} (I : World → Value → σ → (Nat → Prop) → Prop) (w0 : World) (v : Value) (s : σ) (O : Nat → Prop) (w : World) : Prop where
  inv : I w v s O
  below : Below w0.heap.size w0 w
  new : ∀ k, O k → w0.heap.size ≤ k
section
variable {σ : Type} {I : World → Value → σ → (Nat → Prop) → Prop} {w0 w w' : World} {v : Value} {s s' : σ} {O O' : Nat → Prop}
theorem Has.step (hI : IsObj I) (h : Has I w0 v s O w) (hi : I w' v s' O') (hk : Kept O w w') (hg : Grows O w O') : Has I w0 v s' O' w' :=
  ⟨hi, hk.below h.below h.below.size h.new, fun k ho => by rcases hg k ho with h1 | h1; exact h.new k h1; exact Nat.le_trans h.below.size h1⟩
theorem Has.later (hI : IsObj I) (h : Has I w0 v s O w) (hb : Below w.heap.size w w') : Has I w0 v s O w' :=
  ⟨hI.stay h.inv (fun k hk => hb.block k (hI.lt h.inv k hk)), fbelow_t' h.below hb, h.new⟩
  where fbelow_t' {a b c : World} (h : Below a.heap.size a b) (h' : Below b.heap.size b c) : Below a.heap.size a c := h.trans (h'.mono h.size)
/-- a block of the caller's own may turn -/
theorem Has.setCell (hI : IsObj I) (h : Has I w0 v s O w) {p : Addr} (hp : w0.heap.size ≤ p.block) (hn : ¬ O p.block) (u : Value) : Has I w0 v s O (w.setCell p u) :=
  ⟨hI.stay h.inv (fun k hk => Below.heap_setCell _ _ _ _ (fun e => hn (e ▸ hk))), h.below.setCell hp u, h.new⟩
/-- a block outside what the object owns -/
theorem out_step {k : Nat} (h : k < w.heap.size) (hn : ¬ O k) (hg : Grows O w O') : ¬ O' k := fun ho => by
  rcases hg k ho with h1 | h1
  · exact hn h1
  · omega
end

/-! ### a slice that reads as L, outside of what an object owns -/
section
variable {α : Type} {c : α → List Value} {n : Nat} {w w' : World} {v : Value} {L : List α} {O O' : Nat → Prop}
def SlA (c : α → List Value) (n : Nat) (w : World) (O : Nat → Prop) (v : Value) (L : List α) : Prop :=
  ∃ A cap, v = .slice A L.length cap ∧ L.length ≤ maxLen ∧ ∀ i a, L[i]? = some a → ∃ x, A = some x ∧ x.block < w.heap.size ∧ ¬ O x.block ∧ ∀ j u, (c a)[j]? = some u → w.cell? (x.add (i * n + j)) = some u
theorem SlA.sl (h : SlA c n w O v L) : SlG c n w w.heap.size v L := by
  obtain ⟨A, cap, hv, hm, hc⟩ := h
  refine ⟨A, cap, hv, hm, fun i a ha => ?_⟩
  obtain ⟨x, h1, h2, _, h4⟩ := hc i a ha
  exact ⟨x, h1, h2, h4⟩
theorem SlA.step (h : SlA c n w O v L) (hk : Kept O w w') (hg : Grows O w O') : SlA c n w' O' v L := by
  obtain ⟨A, cap, hv, hm, hc⟩ := h
  refine ⟨A, cap, hv, hm, fun i a ha => ?_⟩
  obtain ⟨x, h1, h2, h3, h4⟩ := hc i a ha
  exact ⟨x, h1, Nat.lt_of_lt_of_le h2 hk.size, out_step h2 h3 hg, fun j u hu => (hk.cell (by rw [addr_block]; exact h2) (by rw [addr_block]; exact h3)).trans (h4 j u hu)⟩
theorem SlA.later (h : SlA c n w O v L) (hb : Below w.heap.size w w') : SlA c n w' O v L := by
  obtain ⟨A, cap, hv, hm, hc⟩ := h
  refine ⟨A, cap, hv, hm, fun i a ha => ?_⟩
  obtain ⟨x, h1, h2, h3, h4⟩ := hc i a ha
  exact ⟨x, h1, Nat.lt_of_lt_of_le h2 hb.size, h3, fun j u hu => (hb.cell (by rw [addr_block]; exact h2)).trans (h4 j u hu)⟩
/-- made by a call that leaves the object as it is: new, or old and outside -/
theorem SlA.of_sl (h : SlG c n w w.heap.size v L) (hn : ∀ x k c', v = .slice (some x) k c' → L ≠ [] → ¬ O x.block) : SlA c n w O v L := by
  obtain ⟨A, cap, hv, hm, hc⟩ := h
  refine ⟨A, cap, hv, hm, fun i a ha => ?_⟩
  obtain ⟨x, h1, h2, h4⟩ := hc i a ha
  subst h1
  exact ⟨x, rfl, h2, hn x _ _ hv (fun e => by subst e; simp at ha), h4⟩
theorem SlA.nil (c : α → List Value) (n : Nat) (w : World) (O : Nat → Prop) : SlA c n w O (.slice none 0 0) [] := ⟨none, 0, rfl, Nat.zero_le _, fun i a h => by simp at h⟩
end
end Go.Proofs.Ytbjijmdknlopdaa

namespace Go.Proofs.Ytbjijmdknlopdaa
open Go.RowKit
set_option linter.unusedVariables false

def OwnO (v : Value) : Nat → Prop := fun k => v.ownBlock = some k
def Apart (O O' : Nat → Prop) : Prop := ∀ k, O k → O' k → False
theorem Apart.symm {O O' : Nat → Prop} (h : Apart O O') : Apart O' O := fun k a b => h k b a
theorem Apart.step {O O' P : Nat → Prop} {w : World} (h : Apart O P) (hP : ∀ k, P k → k < w.heap.size) (hg : Grows O w O') : Apart O' P := fun k a b => by
  rcases hg k a with h1 | h1
  · exact h k h1 b
  · have := hP k b; omega
theorem apart_nil (O : Nat → Prop) : Apart O (OwnO (.slice none 0 0)) := fun k _ h => by cases h
theorem own_stay {base : Nat} {e : TypeId} {k n : Nat} {w w' : World} {v : Value} {xs : List Value} (h : w.ownsRow base e k v n xs) (hs : ∀ g, OwnO v g → w'.heap[g]? = w.heap[g]?) : w'.ownsRow base e k v n xs := by
  refine ⟨h.1, ?_⟩
  rcases h.2 with h0 | ⟨g, cap, cur, rfl, hb, hg, r⟩
  · exact .inl h0
  · exact .inr ⟨g, cap, cur, rfl, hb, (hs g rfl).trans hg, r⟩
theorem own_lt {base : Nat} {e : TypeId} {k n : Nat} {w : World} {v : Value} {xs : List Value} (h : w.ownsRow base e k v n xs) : ∀ g, OwnO v g → g < w.heap.size := by
  rcases h.2 with ⟨rfl, _⟩ | ⟨g, cap, cur, rfl, hb, hg, r⟩
  · intro g hg; cases hg
  · intro g' hg'
    injection hg' with e
    have e : g = g' := e
    subst e
    exact (Array.getElem?_eq_some_iff.1 hg).1
theorem own_ge {base : Nat} {e : TypeId} {k n : Nat} {w : World} {v : Value} {xs : List Value} (h : w.ownsRow base e k v n xs) : ∀ g, OwnO v g → base ≤ g := by
  rcases h.2 with ⟨rfl, _⟩ | ⟨g, cap, cur, rfl, hb, hg, r⟩
  · intro g hg; cases hg
  · intro g' hg'
    injection hg' with e
    have e : g = g' := e
    subst e
    exact hb
theorem kept_grown {w w' : World} {v : Value} (h : w.grownBy w' v.ownBlock) : Kept (OwnO v) w w' := ⟨h.os, h.tape, h.output, h.size, fun k hk hn => h.block k hk (fun e => hn e.symm)⟩
theorem grows_at {w : World} {v v' : Value} (h : v'.ownBlock = v.ownBlock ∨ v'.ownBlock = some w.heap.size) : Grows (OwnO v) w (OwnO v') := fun k hk => by
  unfold OwnO at hk ⊢
  rcases h with h | h
  · exact .inl (by rw [← h]; exact hk)
  · rw [h] at hk; injection hk with hk; exact .inr (by omega)
/-- the facts of a type that an append asks: laid flat in k cells, of so many bytes -/
def FlatE (P : Program) (T E : TypeId) (k bytes : Nat) : Prop := P.underlying T = some (.slice E) ∧ ∃ i z, P.info? E = some i ∧ i.zero = some z ∧ i.size = k ∧ i.bytes = bytes ∧ z.cells.size = k ∧ 0 < k ∧ bytes ≤ 100
section
variable {α : Type} {c : α → List Value} {k bytes : Nat} {T E : TypeId} {P : Program}
/-- a row's own cells as a list, the nil kept apart -/
def RdA (c : α → List Value) (k : Nat) (w : World) (v : Value) (L : List α) : Prop := SlG c k w w.heap.size v L ∧ (v = .slice none 0 0 ∨ ∃ x cap, v = .slice (some x) L.length cap ∧ L.length ≤ cap)
theorem rowG_cells' (hk : ∀ a, (c a).length = k) {L : List α} {j : Nat} {u : Value} (h : (rowG c L)[j]? = some u) : ∃ i r a, L[i]? = some a ∧ (c a)[r]? = some u ∧ j = i * k + r := by
  induction L generalizing j with
  | nil => simp [rowG] at h
  | cons a L ih =>
    by_cases hj : j < k
    · refine ⟨0, j, a, rfl, ?_, by simp⟩
      unfold rowG at h
      rw [List.flatMap_cons, List.getElem?_append_left (by rw [hk]; exact hj)] at h
      exact h
    · unfold rowG at h
      rw [List.flatMap_cons, List.getElem?_append_right (by rw [hk]; omega), hk] at h
      obtain ⟨i, r, b, h1, h2, h3⟩ := ih h
      refine ⟨i + 1, r, b, by simpa using h1, h2, ?_⟩
      rw [Nat.add_mul]; omega
theorem wpList_growO {ops : Array Oper} {rest : List Oper} {o : Oper} {a : Act} {Q : Exit → Act → World → Prop} {W : World} (hT : FlatE P T E k bytes) (hk : ∀ a, (c a).length = k) (hone : ∀ a, ∀ u ∈ c a, u.oneCell' = true) (hgd : o.guard = none) (s x : Operand)
    (ho : o.op = .call { callee := .builtin .append, args := #[s, x], argTypes := #[T, T] }) {B : Nat} {v u : Value} {L M : List α} (hs : a.eval s = v) (hg : W.ownsRow B E k v L.length (rowG c L)) (hB : B ≤ W.heap.size)
    (hx : a.eval x = u) (hr : RdA c k W u M) (hsz : L.length + M.length ≤ 1000000)
    (h : ∀ v' w', w'.ownsRow B E k v' (L ++ M).length (rowG c (L ++ M)) → Kept (OwnO v) W w' → Grows (OwnO v) W (OwnO v') → wpList P ops Q rest (a.put o.dst v') w') : wpList P ops Q (o :: rest) a W := by
  obtain ⟨ht, i0, z, hi, hz, hz1, hz2, hz3, hk0, hby⟩ := hT
  obtain ⟨hsl, hshape⟩ := hr
  rcases hshape with rfl | ⟨p, cp, rfl, _⟩
  · obtain ⟨A, cap, hv, _, _⟩ := hsl
    injection hv with _ hl _
    obtain rfl : M = [] := List.eq_nil_of_length_eq_zero hl.symm
    refine wpList_append_own_none hgd s x T ho B E i0 k ht hi v L.length (rowG c L) hs hg hx ?_
    exact h v W (by rw [List.append_nil]; exact hg) (Kept.refl _ _) (Grows.refl _ _)
  · have hby2 : (L.length + M.length) * bytes ≤ 1000000 * 100 := Nat.mul_le_mul hsz hby
    refine wpList_append_own_at _ hgd s x T ho B E i0 z k bytes ht hi hz hz1 hz2 hz3 hk0 v L.length (rowG c L) hs hg p M.length cp (rowG c M) hx (rowG_length hk M) (fun j u hu => ?_) (fun u hu => ?_) ?_ ?_ hB ?_
    · obtain ⟨i, r, b, h1, h2, rfl⟩ := rowG_cells' hk hu
      obtain ⟨A, cap, hv, _, hc⟩ := hsl
      injection hv with hA _ _
      subst hA
      obtain ⟨x', hx', _, hcell⟩ := hc i b h1
      injection hx' with hx'
      subst hx'
      exact hcell r u h2
    · obtain ⟨j, hj, rfl⟩ := List.getElem_of_mem hu
      obtain ⟨i, r, b, h1, h2, _⟩ := rowG_cells' hk (List.getElem?_eq_getElem hj)
      exact hone b _ (List.mem_of_getElem? h2)
    · unfold maxLen; omega
    · omega
    · intro v' w' hown hgr _ hat
      exact h v' w' (by rw [List.length_append, rowG_app]; exact hown) (kept_grown hgr) (grows_at hat)
/-- the one thing of a new block that 'append(l, x)' reads -/
theorem RdA.one (hk : ∀ a, (c a).length = k) (w : World) (b : α) (t : TypeId) {g : Nat} {w' : World} (hg : w.heap.size = g) (hw : w' = w.alloc (.cells (c b).toArray t)) : RdA c k w' (.slice (some ⟨g, 0, none⟩) 1 1) [b] := by
  subst hg hw
  refine ⟨⟨_, _, rfl, by unfold maxLen; simp, fun i a ha => ?_⟩, .inr ⟨_, _, rfl, Nat.le_refl _⟩⟩
  have hi : i = 0 := by
    rcases Nat.lt_or_ge i 1 with h | h
    · omega
    · rw [List.getElem?_eq_none (by simpa using h)] at ha; cases ha
  subst hi
  simp at ha
  subst ha
  refine ⟨_, rfl, by simp, fun j u hu => ?_⟩
  rw [Nat.zero_mul, Nat.zero_add]
  exact World.news_of_block (B := w.heap.size) (cs := (c b).toArray) (t := t) (fr := (0, 0)) (by unfold World.alloc; simp) j u (by simpa using hu)
end
end Go.Proofs.Ytbjijmdknlopdaa

namespace Go.Proofs.Ytbjijmdknlopdaa
open Go.RowKit
set_option linter.unusedVariables false

def roomN (n : Int) : Int := if n < 1 then 1 else if 1000 < n then 1000 else n
set_option maxHeartbeats 1000000 in
theorem rgnew_v {n m : Int} (h : roomN n = m) (w : World) :
    Calls Try.prog 9 #[.int .i64 n] w fun e w' => e = .returned (.agg #[.slice none 0 0, .int .i64 m, .int .i64 0]) ∧ Below w.heap.size w w' := by
  have H := Lib.hid h
  clear h
  go_enter Try.func9, Try.ntmps9
  go_wp2
  all_goals (
    refine bodyPost_ret (v := .agg #[.slice none 0 0, .int .i64 m, .int .i64 0]) (by
      simp [results, Try.results9, go_sem]
      have hm := H.out
      unfold roomN at hm
      try (split at hm <;> try split at hm)
      all_goals omega) rfl ⟨rfl, (Below.refl _ _).alloc (Nat.le_refl _) _⟩)

theorem own_low {w : World} {B B' : Nat} {e : TypeId} {s n : Nat} {v : Value} {xs : List Value} (h : w.ownsRow B e s v n xs) (hB : B' ≤ B) : w.ownsRow B' e s v n xs := by
  refine ⟨h.1, ?_⟩
  rcases h.2 with h0 | ⟨g, cap, cur, hv, hg, r⟩
  · exact .inl h0
  · exact .inr ⟨g, cap, cur, hv, Nat.le_trans hB hg, r⟩
theorem RdI.of_own {B : Nat} {w : World} {v : Value} {L : List Int} (h : w.ownsRow B 3 1 v L.length (rowG intC L)) (hm : L.length ≤ 1000000) : RdI w v L := RdI.of_row (B := 0) (w0 := w) ⟨own_low h (Nat.zero_le _), Below.refl _ _, Nat.zero_le _⟩ hm
/-- a struct of a row behind an address -/
def BoxR (w : World) (b : Nat) (v : Value) (m n : Int) : Prop := w.heap[b]? = some (.cells #[v, .int .i64 m, .int .i64 n] 28 (0, 0))
theorem BoxR.lt {w : World} {b : Nat} {v : Value} {m n : Int} (h : BoxR w b v m n) : b < w.heap.size := (Array.getElem?_eq_some_iff.1 h).1
theorem BoxR.made (w : World) (v : Value) (m n : Int) {k : Nat} (hk : w.heap.size = k) : BoxR (w.alloc (.cells #[v, .int .i64 m, .int .i64 n] 28)) k v m n := by subst hk; unfold BoxR World.alloc; simp
theorem BoxR.later {w w' : World} {b : Nat} {v : Value} {m n : Int} (h : BoxR w b v m n) (hb : Below w.heap.size w w') : BoxR w' b v m n := (hb.block b h.lt).trans h
theorem BoxR.other {w : World} {b g j : Nat} {v : Value} {m n : Int} (h : BoxR w b v m n) (hbg : b ≠ g) (u : Value) : BoxR (w.setCell ⟨g, j, none⟩ u) b v m n := by
  unfold BoxR at h ⊢
  rw [Below.heap_setCell _ _ _ _ hbg]
  exact h
theorem BoxR.cells {w : World} {b : Nat} {v : Value} {m n : Int} (h : BoxR w b v m n) : w.cell? ⟨b, 0, none⟩ = some v ∧ w.cell? ⟨b, 1, none⟩ = some (.int .i64 m) ∧ w.cell? ⟨b, 2, none⟩ = some (.int .i64 n) := by
  unfold BoxR at h
  refine ⟨?_, ?_, ?_⟩ <;> (rw [Lib.cell_of_heap h]; rfl)
theorem BoxR.live {w : World} {b : Nat} {v : Value} {m n : Int} (h : BoxR w b v m n) : w.frozen? ⟨b, 0, none⟩ = false ∧ w.frozen? ⟨b, 1, none⟩ = false ∧ w.frozen? ⟨b, 2, none⟩ = false := by
  unfold BoxR at h
  exact ⟨Lib.frozen_of_heap h 0, Lib.frozen_of_heap h 1, Lib.frozen_of_heap h 2⟩

set_option maxHeartbeats 2000000 in
theorem rgput_f {v : Value} {L : List Int} {m n x : Int} (w : World) (hr : RdI w v L) (hm : (L.length : Int) = m) (hn0 : 0 ≤ n) (hn1 : n ≤ 1000000000) :
    Calls Try.prog 10 #[.agg #[v, .int .i64 m, .int .i64 n], .int .i64 x] w fun e w' => e = .returned (.tuple #[.agg #[v, .int .i64 m, .int .i64 (n + 1)], .bool false]) ∧ Below w.heap.size w w' := by
  obtain ⟨⟨A, cap, rfl, _, _⟩, _⟩ := hr
  subst hm
  go_enter Try.func10, Try.ntmps10
  go_wp2
  refine bodyPost_ret (v := .tuple #[.agg #[.slice A L.length cap, .int .i64 L.length, .int .i64 (n + 1)], .bool false]) (by simp [results, Try.results10, go_sem]) rfl ⟨rfl, ?_⟩
  exact ((Below.refl _ _).alloc (Nat.le_refl _) _).alloc (by simp) _

set_option maxHeartbeats 2000000 in
theorem rgput_t {v : Value} {L : List Int} {m n x : Int} (w : World) (hr : RdI w v L) (hm : (L.length : Int) ≠ m) (hl : L.length ≤ 100000) :
    Calls Try.prog 10 #[.agg #[v, .int .i64 m, .int .i64 n], .int .i64 x] w fun e w' => ∃ u, e = .returned (.tuple #[.agg #[u, .int .i64 m, .int .i64 n], .bool true]) ∧ RdI w' u (L ++ [x]) ∧ Below w.heap.size w w' ∧ ∀ g, OwnO u g → w.heap.size ≤ g ∧ g < w'.heap.size := by
  have HR := Lib.hid hr
  obtain ⟨⟨A, cap, rfl, _, _⟩, _⟩ := hr
  have he : ((L.length : Int) == m) = false := by simpa using hm
  clear hm
  obtain ⟨W1, hW1⟩ : ∃ W1, w.alloc (.cells #[.slice A L.length cap, .int .i64 m, .int .i64 n] 28) = W1 := ⟨_, rfl⟩
  obtain ⟨W2, hW2⟩ : ∃ W2, W1.alloc (.cells #[.slice none 0 0, .int .i64 0, .int .i64 0] 28) = W2 := ⟨_, rfl⟩
  have hs2 : W2.heap.size = w.heap.size + 1 + 1 := by rw [← hW2, ← hW1]; simp
  have b2 : Below w.heap.size w W2 := by rw [← hW2, ← hW1]; exact ((Below.refl _ _).alloc (Nat.le_refl _) _).alloc (by simp) _
  have x1 : BoxR W2 w.heap.size (.slice A L.length cap) m n := by rw [← hW2, ← hW1]; exact (BoxR.made w _ m n rfl).later ((Below.refl _ _).alloc (Nat.le_refl _) _)
  have x2 : BoxR W2 (w.heap.size + 1) (.slice none 0 0) 0 0 := by rw [← hW2, ← hW1]; exact BoxR.made _ _ 0 0 (by simp)
  have HS := Lib.hid hs2
  have HX := Lib.hid (And.intro x1 (And.intro x2 b2))
  have hb3 : Below W2.heap.size W2 (W2.alloc (.cells #[] 3)) := (Below.refl _ _).alloc (Nat.le_refl _) _
  have HOW := Lib.hid (own_empty W2 3 1 W2.heap.size (Nat.le_refl _))
  have HR3 := Lib.hid ((HR.out.later b2).later hb3)
  have HB3 := Lib.hid hb3
  have hw2e : (w.alloc (.cells #[.slice A L.length cap, .int .i64 m, .int .i64 n] 28)).alloc (.cells #[.slice none 0 0, .int .i64 0, .int .i64 0] 28) = W2 := by rw [hW1, hW2]
  rw [hs2] at HOW
  clear hW1 hW2 b2 x1 x2 hb3
  have HWE := Lib.hid hw2e
  clear hw2e
  go_enter Try.func10, Try.ntmps10
  go_wp2_with (at_builtin; rw [HWE.out]; refine wpList_catI rfl _ _ rfl (L := []) rfl HOW.out (by rw [← HS.out]; exact HB3.out.size) rfl HR3.out (by simp; omega) ?_)
  intro v1 w1 hown hb1
  have hlt3 : w.heap.size + 1 + 1 ≤ (W2.alloc (.cells #[] 3)).heap.size := by rw [← HS.out]; exact HB3.out.size
  have hb23 : Below W2.heap.size W2 w1 := HB3.out.trans (by rw [HS.out]; exact hb1)
  have hsz1 : w.heap.size + 1 + 1 ≤ w1.heap.size := Nat.le_trans hlt3 hb1.size
  have HX1 := Lib.hid (And.intro (HX.out.1.later hb23) (And.intro (HX.out.2.1.later hb23) (fbelow_t HX.out.2.2 hb23)))
  have HN := Lib.hid (one_cell w1 (.int .i64 x) 3)
  have HO1 := Lib.hid (ownG_below hown ((Below.refl _ w1).alloc (Nat.le_refl _) (.cells #[.int .i64 x] 3)))
  have HZ1 := Lib.hid hsz1
  obtain ⟨r0, r1, r2⟩ := HX1.out.1.cells
  have hz1 : w.heap.size < w1.heap.size := HX1.out.1.lt
  clear hown hb1 hlt3 hb23 hsz1
  go_wp2_with (at_builtin; refine wpList_rowI rfl _ _ rfl rfl HO1.out (by have := HZ1.out; simp; omega) w1.heap.size _ x rfl HN.out (by omega) ?_)
  intro v2 w2 hown hb2
  have hb12 : Below w1.heap.size w1 (w1.alloc (.cells #[.int .i64 x] 3)) := (Below.refl _ w1).alloc (Nat.le_refl _) _
  have y1 := HX1.out.1.later hb12
  have y2 := HX1.out.2.1.later hb12
  have z1 : BoxR w2 w.heap.size (.slice A L.length cap) m n := (hb2.block _ (by omega)).trans y1
  have z2 : BoxR w2 (w.heap.size + 1) (.slice none 0 0) 0 0 := (hb2.block _ (by omega)).trans y2
  have zb : Below w.heap.size w w2 := (fbelow_t HX1.out.2.2 hb12).trans (hb2.mono (by omega))
  have HX2 := Lib.hid (And.intro z1 (And.intro z2 zb))
  have HO2 := Lib.hid hown
  clear y1 y2 z1 z2 zb hb2 hown hb12 r0 r1 r2
  obtain ⟨g, cap2, rfl⟩ : ∃ g cap2, v2 = .slice (some ⟨g, 0, none⟩) (L.length + 1) cap2 := by
    rcases HO2.out.2 with ⟨_, h0⟩ | ⟨g, cap2, cur, h0, _⟩
    · simp at h0
    · exact ⟨g, cap2, h0⟩
  have HG : Hid (w2.ownsRow (w.heap.size + 1 + 1) 3 1 (.slice (some ⟨g, 0, none⟩) (L.length + 1) cap2) (L ++ [x]).length (rowG intC (L ++ [x]))) := Lib.hid (by rw [List.length_append]; exact HO2.out)
  obtain ⟨r0, r1, r2⟩ := HX2.out.1.cells
  obtain ⟨f0, f1, f2⟩ := HX2.out.1.live
  obtain ⟨s0, s1, s2⟩ := HX2.out.2.1.cells
  obtain ⟨g0, g1, g2⟩ := HX2.out.2.1.live
  have hz2 : w.heap.size < w2.heap.size := HX2.out.1.lt
  have hy2 : w.heap.size + 1 < w2.heap.size := HX2.out.2.1.lt
  go_wp2
  refine bodyPost_ret (v := .tuple #[.agg #[.slice (some ⟨g, 0, none⟩) (L.length + 1) cap2, .int .i64 m, .int .i64 n], .bool true]) (by simp [results, Try.results10, go_sem, s0, s1, s2]) rfl ⟨_, rfl, ?_, ?_, ?_⟩
  · refine RdI.of_own (B := w.heap.size + 1 + 1) ?_ (by simp; omega)
    refine ownsRow_setCell_below (ownsRow_setCell_below (ownsRow_setCell_below (ownsRow_setCell_below HG.out ?_ _) ?_ _) ?_ _) ?_ _ <;> (simp only; omega)
  · exact (((HX2.out.2.2.setCell (p := ⟨w.heap.size, 0, none⟩) (Nat.le_refl _) _).setCell (p := ⟨w.heap.size + 1, 0, none⟩) (Nat.le_succ _) _).setCell (p := ⟨w.heap.size + 1, 1, none⟩) (Nat.le_succ _) _).setCell (p := ⟨w.heap.size + 1, 2, none⟩) (Nat.le_succ _) _
  · intro k hk
    have h1 := own_ge HG.out k hk
    have h2 := own_lt HG.out k hk
    refine ⟨by omega, ?_⟩
    simp only [World.setCell, Array.size_modify]
    exact h2

set_option maxHeartbeats 2000000 in
theorem rgtake_no {v : Value} {m n : Int} (w : World) (hr : RdI w v []) :
    Calls Try.prog 12 #[.agg #[v, .int .i64 m, .int .i64 n]] w fun e w' => e = .returned (.tuple #[.agg #[v, .int .i64 m, .int .i64 n], .int .i64 0, .bool false]) ∧ Below w.heap.size w w' := by
  obtain ⟨⟨A, cap, rfl, _, _⟩, _⟩ := hr
  simp only [List.length_nil]
  go_enter Try.func12, Try.ntmps12
  go_wp2
  refine bodyPost_ret (v := .tuple #[.agg #[.slice A 0 cap, .int .i64 m, .int .i64 n], .int .i64 0, .bool false]) (by simp [results, Try.results12, go_sem]) rfl ⟨rfl, ?_⟩
  exact ((Below.refl _ _).alloc (Nat.le_refl _) _).alloc (by simp) _

set_option maxHeartbeats 2000000 in
theorem rgtake_yes {v : Value} {y : Int} {M : List Int} {m n : Int} (w : World) (hr : RdI w v (y :: M)) :
    Calls Try.prog 12 #[.agg #[v, .int .i64 m, .int .i64 n]] w fun e w' => ∃ u, e = .returned (.tuple #[.agg #[u, .int .i64 m, .int .i64 n], .int .i64 y, .bool true]) ∧ RdI w' u M ∧ Below w.heap.size w w' ∧ ∀ g, OwnO u g → OwnO v g := by
  have HR := Lib.hid hr
  obtain ⟨x, cap, hv, hxb, c0⟩ := SlG.at1 hr.1 (k := 0) (by simp) rfl
  subst hv
  have hx0 : x.add 0 = x := by unfold Addr.add; simp
  rw [hx0] at c0
  simp only [List.getElem_cons_zero, List.length_cons] at c0 ⊢
  have hne : ((M.length : Int) + 1 == 0) = false := by simp; omega
  go_enter Try.func12, Try.ntmps12
  have HT := Lib.hid (RdI.tail HR.out)
  have HXB := Lib.hid hxb
  by_cases hc : cap = 1
  · subst hc
    have hM := HT.out.1 rfl
    subst hM
    clear HT
    go_wp2
    refine bodyPost_ret (v := .tuple #[.agg #[.slice (some x) 0 0, .int .i64 m, .int .i64 n], .int .i64 y, .bool true]) (by simp [results, Try.results12, go_sem]) rfl ⟨_, rfl, RdI.none_left _ (by have := HXB.out; simp; omega), ((Below.refl _ _).alloc (Nat.le_refl _) _).alloc (by simp) _, fun g hg => hg⟩
  · have HT2 := Lib.hid (HT.out.2 hc)
    clear HT
    go_wp2
    have hbb : ∀ o1 o2, Below w.heap.size w ((w.alloc o1).alloc o2) := fun o1 o2 => ((Below.refl _ _).alloc (Nat.le_refl _) _).alloc (by simp) _
    refine bodyPost_ret (v := .tuple #[.agg #[.slice (some ⟨x.block, x.off + 1, none⟩) M.length (cap - 1), .int .i64 m, .int .i64 n], .int .i64 y, .bool true]) (by simp [results, Try.results12, go_sem]) rfl ⟨_, rfl, HT2.out.later (hbb _ _), hbb _ _, fun g hg => hg⟩
end Go.Proofs.Ytbjijmdknlopdaa

namespace Go.Proofs.Ytbjijmdknlopdaa
open Go.RowKit
set_option linter.unusedVariables false

/-- what a row holds: its members, its room, how many were lost -/
structure Rg (α : Type) where
  L : List α
  m : Nat
  n : Nat
/-- a slice of the call's own: new cells that can be written, nil only as nil is -/
def FreeA {α : Type} (c : α → Value) (B : Nat) (w : World) (v : Value) (L : List α) : Prop :=
  (v = .slice none 0 0 ∧ L = []) ∨ ∃ g o cap, v = .slice (some ⟨g, o, none⟩) L.length cap ∧ L.length ≤ cap ∧ B ≤ g ∧ g < w.heap.size ∧ ∀ i a, L[i]? = some a → w.cell? ⟨g, o + i, none⟩ = some (c a) ∧ w.frozen? ⟨g, o + i, none⟩ = false
/-- reads alone -/
def Reads (w : World) (v : Value) (e : Ending) (w' : World) : Prop := e = .returned v ∧ ∃ n, w' = w.drewN n
structure RingApi {α : Type} (P : Program) (c : α → Value) (z : Value) (fN fP fT fK fL fR fX fA fC : Nat) (I : World → Value → Rg α → (Nat → Prop) → Prop) : Prop where
  obj : IsObj I
  ptr : ∀ {w v s O}, I w v s O → ∃ a, v = .pointer (some a)
  rng : ∀ {w v s O}, I w v s O → s.L.length ≤ s.m ∧ 1 ≤ s.m ∧ s.m ≤ 1000
  new : ∀ (room : Int) (w : World), Calls P fN #[.int .i64 room] w fun e w' => ∃ v O, e = .returned v ∧ I w' v ⟨[], (roomN room).toNat, 0⟩ O ∧ Below w.heap.size w w' ∧ ∀ k, O k → w.heap.size ≤ k
  put_t : ∀ {w v s O} (x : α), I w v s O → s.L.length < s.m → Calls P fP #[v, c x] w fun e w' => e = .returned (.bool true) ∧ Stp I v O w ⟨s.L ++ [x], s.m, s.n⟩ w'
  put_f : ∀ {w v s O} (x : α), I w v s O → s.L.length = s.m → s.n ≤ 1000000 → Calls P fP #[v, c x] w fun e w' => e = .returned (.bool false) ∧ Stp I v O w ⟨s.L, s.m, s.n + 1⟩ w'
  take_t : ∀ {w v x L m n O}, I w v ⟨x :: L, m, n⟩ O → Calls P fT #[v] w fun e w' => e = .returned (.tuple #[c x, .int .i64 0]) ∧ Stp I v O w ⟨L, m, n⟩ w'
  take_f : ∀ {w v m n O}, I w v ⟨[], m, n⟩ O → Calls P fT #[v] w fun e w' => e = .returned (.tuple #[z, .int .i64 6]) ∧ Stp I v O w ⟨[], m, n⟩ w'
  peek_t : ∀ {w v x L m n O}, I w v ⟨x :: L, m, n⟩ O → Calls P fK #[v] w (Reads w (.tuple #[c x, .int .i64 0]))
  peek_f : ∀ {w v m n O}, I w v ⟨[], m, n⟩ O → Calls P fK #[v] w (Reads w (.tuple #[z, .int .i64 6]))
  len : ∀ {w v s O}, I w v s O → Calls P fL #[v] w (Reads w (.int .i64 s.L.length))
  lost : ∀ {w v s O}, I w v s O → Calls P fX #[v] w (Reads w (.int .i64 s.n))
  all : ∀ {w v s O}, I w v s O → Calls P fA #[v] w fun e w' => ∃ u, e = .returned u ∧ FreeA c w.heap.size w' u s.L ∧ Below w.heap.size w w'
  clear : ∀ {w v s O}, I w v s O → Calls P fC #[v] w fun e w' => e = .returned (.int .i64 s.L.length) ∧ Stp I v O w ⟨[], s.m, s.n⟩ w'
structure RingApiR {α : Type} (P : Program) (c : α → Value) (z : Value) (fN fP fT fK fL fR fX fA fC : Nat) (I : World → Value → Rg α → (Nat → Prop) → Prop) : Prop extends RingApi P c z fN fP fT fK fL fR fX fA fC I where
  room : ∀ {w v s O}, I w v s O → Calls P fR #[v] w (Reads w (.int .i64 s.m))
/-- of nil -/
structure RingNone {α : Type} (P : Program) (c : α → Value) (z : Value) (fP fT fK fL fR fX fA fC : Nat) : Prop where
  put : ∀ (x : α) w, Calls P fP #[.pointer none, c x] w fun e w' => e = .returned (.bool false) ∧ Below w.heap.size w w'
  take : ∀ w, Calls P fT #[.pointer none] w fun e w' => e = .returned (.tuple #[z, .int .i64 1]) ∧ Below w.heap.size w w'
  peek : ∀ w, Calls P fK #[.pointer none] w fun e w' => e = .returned (.tuple #[z, .int .i64 1]) ∧ Below w.heap.size w w'
  len : ∀ w, Calls P fL #[.pointer none] w fun e w' => e = .returned (.int .i64 0) ∧ Below w.heap.size w w'
  room : ∀ w, Calls P fR #[.pointer none] w fun e w' => e = .returned (.int .i64 0) ∧ Below w.heap.size w w'
  lost : ∀ w, Calls P fX #[.pointer none] w fun e w' => e = .returned (.int .i64 0) ∧ Below w.heap.size w w'
  all : ∀ w, Calls P fA #[.pointer none] w fun e w' => (∃ A c, e = .returned (.slice A 0 c)) ∧ Below w.heap.size w w'
  clear : ∀ w, Calls P fC #[.pointer none] w fun e w' => e = .returned (.int .i64 0) ∧ Below w.heap.size w w'

theorem FreeA.sla {α : Type} {c : α → Value} {cc : α → List Value} (hcc : ∀ a, cc a = [c a]) {B : Nat} {w : World} {v : Value} {L : List α} {O : Nat → Prop} (h : FreeA c B w v L) (hm : L.length ≤ maxLen) (ho : ∀ k, O k → k < B) : SlA cc 1 w O v L := by
  rcases h with ⟨rfl, rfl⟩ | ⟨g, o, cap, rfl, _, hB, hg, hc⟩
  · exact SlA.nil _ _ _ _
  · refine ⟨_, cap, rfl, hm, fun i a ha => ⟨⟨g, o, none⟩, rfl, hg, fun h => by have := ho g h; omega, fun j u hu => ?_⟩⟩
    rw [hcc] at hu
    match j, hu with
    | 0, hu =>
      simp at hu
      subst hu
      rw [Nat.mul_one, Nat.add_zero]
      have : (⟨g, o, none⟩ : Addr).add i = ⟨g, o + i, none⟩ := by
        unfold Addr.add
        by_cases h0 : i = 0
        · subst h0; simp
        · rw [if_neg h0]
      rw [this]
      exact (hc i a ha).1
theorem SlA.set {α : Type} {c : α → List Value} {n : Nat} {w : World} {v : Value} {L : List α} {O : Nat → Prop} (h : SlA c n w O v L) {p : Addr} (hp : O p.block) (u : Value) : SlA c n (w.setCell p u) O v L := by
  obtain ⟨A, cap, hv, hm, hc⟩ := h
  refine ⟨A, cap, hv, hm, fun i a ha => ?_⟩
  obtain ⟨x, h1, h2, h3, h4⟩ := hc i a ha
  refine ⟨x, h1, by simpa [World.setCell] using h2, h3, fun j t ht => ?_⟩
  rw [World.cell?_setCell_other _ _ _ _ (by intro e; apply h3; have := congrArg Addr.block e; rw [addr_block] at this; rw [← this]; exact hp)]
  exact h4 j t ht
theorem SlA.anti {α : Type} {c : α → List Value} {n : Nat} {w : World} {v : Value} {L : List α} {O O' : Nat → Prop} (h : SlA c n w O v L) (ho : ∀ k, O' k → O k) : SlA c n w O' v L := by
  obtain ⟨A, cap, hv, hm, hc⟩ := h
  refine ⟨A, cap, hv, hm, fun i a ha => ?_⟩
  obtain ⟨x, h1, h2, h3, h4⟩ := hc i a ha
  exact ⟨x, h1, h2, fun h => h3 (ho _ h), h4⟩
/-- whole numbers that can be written -/
def WrI (B : Nat) (w : World) (A : Option Addr) (n : Nat) : Prop := ∀ i, i < n → ∃ g o x, A = some ⟨g, o, none⟩ ∧ B ≤ g ∧ g < w.heap.size ∧ w.cell? ⟨g, o + i, none⟩ = some (.int .i64 x) ∧ w.frozen? ⟨g, o + i, none⟩ = false
theorem FreeA.wr {B : Nat} {w : World} {A : Option Addr} {n cap : Nat} {L : List Int} (h : FreeA (fun x : Int => .int .i64 x) B w (.slice A n cap) L) : n = L.length ∧ WrI B w A n := by
  rcases h with ⟨h1, rfl⟩ | ⟨g, o, cap', h1, _, hB, hg, hc⟩
  · injection h1 with _ hn _
    exact ⟨hn, fun i hi => by omega⟩
  · injection h1 with hA hn _
    refine ⟨hn, fun i hi => ⟨g, o, L[i]'(by omega), hA, hB, hg, ?_⟩⟩
    exact hc i _ (List.getElem?_eq_getElem (by omega))
theorem WrI.set {B : Nat} {w : World} {A : Option Addr} {n i : Nat} {g o : Nat} {x y : Int} (h : WrI B w A n) (hA : A = some ⟨g, o, none⟩) (hx : w.cell? ⟨g, o + i, none⟩ = some (.int .i64 x)) : WrI B (w.setCell ⟨g, o + i, none⟩ (.int .i64 y)) A n := by
  intro j hj
  obtain ⟨g', o', z, hA', hB, hg, hc, hf⟩ := h j hj
  rw [hA] at hA'
  injection hA' with e
  injection e with e1 e2
  subst e1 e2
  by_cases e : j = i
  · subst e
    exact ⟨g, o, y, hA, hB, by simpa [World.setCell] using hg, by rw [World.cell?_setCell_same' _ _ _ (by rw [hx]; rfl)], by rw [World.frozen?_setCell]; exact hf⟩
  · exact ⟨g, o, z, hA, hB, by simpa [World.setCell] using hg, by rw [World.cell?_setCell_other _ _ _ _ (by intro e; injection e; omega)]; exact hc, by rw [World.frozen?_setCell]; exact hf⟩
theorem WrI.later {B : Nat} {w w' : World} {A : Option Addr} {n : Nat} (h : WrI B w A n) (hb : Below w.heap.size w w') : WrI B w' A n := fun i hi => by
  obtain ⟨g, o, x, hA, hB, hg, hc, hf⟩ := h i hi
  exact ⟨g, o, x, hA, hB, Nat.lt_of_lt_of_le hg hb.size, (hb.cell (p := ⟨g, o + i, none⟩) hg).trans hc, (hb.frozen (p := ⟨g, o + i, none⟩) hg).trans hf⟩
end Go.Proofs.Ytbjijmdknlopdaa
