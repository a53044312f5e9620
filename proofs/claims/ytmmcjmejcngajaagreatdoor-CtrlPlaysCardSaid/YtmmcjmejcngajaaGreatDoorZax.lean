/- Of no program: 'copy' of things of several cells, into a row that is known whole. Ring: of no program: plain lists that go round; what a row holds. (Parted from XRngB, XRngG.) Ring of frames, standing within a greater block from place o on: what it is in memory. Ring, the code, rows of frames within a greater block: New, Len, Lost, slot, Peek. -/
import Derived.Laws.CopyOwn
import Derived.Test.YtmmcjmejcngajaaGreatDoorZaf
import Derived.Test.YtmmcjmejcngajaaGreatDoorZah
import Derived.Test.YtmmcjmejcngajaaGreatDoorZai
import Derived.Laws.MakeOwn
import Derived.BigQuiet
namespace Go.Proofs.YtmmcjmejcngajaaGreatDoor
open Go.RowKit
set_option linter.unusedVariables false

section
variable {P : Program}
theorem run_copy_rowK (w : World) (dT sT ty elem : TypeId) (g o dLen dCap : Nat) (a : Addr) (sLen sCap : Nat) (cur : Array Value) (t : TypeId) (cs : List Value) (k n : Nat)
    (hu : P.underlying dT = some (.slice elem)) (hs : (P.info? elem).map (·.size) = some k)
    (hg : w.heap[g]? = some (.cells cur t (0, 0))) (hn : n = Nat.min sLen dLen) (hcl : cs.length = n * k)
    (hsrc : ∀ j v, cs[j]? = some v → w.cell? (a.add j) = some v) (hfit : o + cs.length ≤ cur.size) (h1 : ∀ v ∈ cs, v.oneCell' = true) :
    (Builtin.copy_ #[dT, sT] ty #[.slice (some ⟨g, o, none⟩) dLen dCap, .slice (some a) sLen sCap]).run P w =
      .ok (goInt n) (w.setRow g (cur.toList.take o ++ cs ++ cur.toList.drop (o + cs.length)).toArray) := by
  have hl := run_loadCells_list (P := P) w a cs hsrc
  have hst := run_storeCells_at P g o t cs 0 cur w hg (by simpa using hfit) h1
  cases hq : P.info? elem with
  | none => simp [hq] at hs
  | some i =>
    have hi : i.size = k := by simpa [hq] using hs
    rw [hcl] at hl
    simp [Builtin.copy_, run_underlying hu, Builtin.lenOf, Builtin.firstCells, sizeOf, typeInfo, hq, hi, ← hn, hl, hst]
theorem run_copy_noneK (w : World) (dT sT ty elem : TypeId) (d a : Option Addr) (dLen dCap sLen sCap k : Nat) (hu : P.underlying dT = some (.slice elem)) (hs : (P.info? elem).map (·.size) = some k) (hn : Nat.min sLen dLen = 0) :
    (Builtin.copy_ #[dT, sT] ty #[.slice d dLen dCap, .slice a sLen sCap]).run P w = .ok (goInt 0) w := by
  cases hq : P.info? elem with
  | none => simp [hq] at hs
  | some i =>
    have hl : ∀ (x : Addr), (loadCells x 0).run P w = .ok #[] w := fun x => by simpa using run_loadCells_list (P := P) w x [] (by simp)
    cases d <;> cases a <;> simp [Builtin.copy_, run_underlying hu, Builtin.lenOf, Builtin.firstCells, sizeOf, typeInfo, hq, hn, storeCells, hl]
theorem wpList_copy_spliceK {w : World} {ops : Array Oper} {rest : List Oper} {o : Oper} {a : Act} {Q : Exit → Act → World → Prop} (hgd : o.guard = none) (d s : Operand) (dT sT : TypeId)
    (ho : o.op = .call { callee := .builtin .copy, args := #[d, s], argTypes := #[dT, sT] }) (elem : TypeId) (k n : Nat) (hu : P.underlying dT = some (.slice elem)) (hsz : (P.info? elem).map (·.size) = some k) (hk : 0 < k)
    (dp sp : Option Addr) (dLen dCap sLen sCap : Nat) (hd : a.eval d = .slice dp dLen dCap) (hs : a.eval s = .slice sp sLen sCap)
    (g off : Nat) (cur : List Value) (t : TypeId) (hg : w.heap[g]? = some (.cells cur.toArray t (0, 0))) (cs : List Value) (hn : n = Nat.min sLen dLen) (hcl : cs.length = n * k)
    (hpos : 0 < n → dp = some ⟨g, off, none⟩ ∧ ∃ ad, sp = some ad ∧ ∀ j v, cs[j]? = some v → w.cell? (ad.add j) = some v)
    (hfit : off + cs.length ≤ cur.length) (h1 : ∀ v ∈ cs, v.oneCell' = true) (B : Nat) (w0 : World) (hb : Below B w0 w) (hBg : B ≤ g)
    (h : ∀ w', Hid (w'.heap[g]? = some (.cells (splice cur off cs).toArray t (0, 0))) → Below B w0 w' → wpList P ops Q rest (a.put o.dst (goInt n)) w') :
    wpList P ops Q (o :: rest) a w := by
  refine wpList_plain hgd fun K hK => ?_
  by_cases h0 : n = 0
  · subst h0
    obtain rfl : cs = [] := List.eq_nil_of_length_eq_zero (by simpa using hcl)
    have hrun := run_copy_noneK (P := P) w dT sT o.type elem dp sp dLen dCap sLen sCap k hu hsz hn.symm
    unfold Oper.wp
    simp [execOp, ho, resolve, invoke, builtin, hd, hs, hrun, Result.andThen]
    exact hK _ _ (h w (show _ = _ by simpa [splice] using hg) hb)
  · obtain ⟨rfl, ad, rfl, hsrc⟩ := hpos (by omega)
    have hrun := run_copy_rowK (P := P) w dT sT o.type elem g off dLen dCap ad sLen sCap cur.toArray t cs k n hu hsz hg hn hcl hsrc (by simpa using hfit) h1
    unfold Oper.wp
    simp [execOp, ho, resolve, invoke, builtin, hd, hs, hrun, Result.andThen]
    exact hK _ _ (h _ (show _ = _ by simpa [splice] using setRow_heap w g _ _ t _ hg) (below_setRow hb hBg _))
end
end Go.Proofs.YtmmcjmejcngajaaGreatDoor

namespace Go.Proofs.YtmmcjmejcngajaaGreatDoor
open Go.RowKit
set_option linter.unusedVariables false

/-- what a row holds: its members, its room, how many were lost -/
structure Rg (α : Type) where
  L : List α
  m : Nat
  n : Nat
/-- reads alone -/
def Reads (w : World) (v : Value) (e : Ending) (w' : World) : Prop := e = .returned v ∧ ∃ n, w' = w.drewN n
def rgO (b : Nat) (p : Option Addr) : Nat → Prop := fun k => k = b ∨ ∃ a, p = some a ∧ k = a.block
theorem rheap_lt {w : World} {k : Nat} {o : Obj} (h : w.heap[k]? = some o) : k < w.heap.size := (Array.getElem?_eq_some_iff.1 h).1
/-! ### plain lists -/
theorem mod_two {x k : Nat} (h1 : k ≤ x) (h2 : x < k + k) : x % k = x - k := by
  rw [Nat.mod_eq_sub_mod h1, Nat.mod_eq_of_lt (by omega)]
theorem mod_cut {x k : Nat} (h : x < k + k) : x % k = if x < k then x else x - k := by
  by_cases h1 : x < k
  · rw [if_pos h1, Nat.mod_eq_of_lt h1]
  · rw [if_neg h1, mod_two (by omega) h]
section
variable {α : Type} {S L : List α} {f : Nat}
/-- one behind all -/
theorem round_put (hf : f < S.length) (hl : L.length < S.length) (hm : ∀ i, i < L.length → S[(f + i) % S.length]? = L[i]?) (x : α) :
    ∀ i, i < (L ++ [x]).length → (S.set ((f + L.length) % S.length) x)[(f + i) % (S.set ((f + L.length) % S.length) x).length]? = (L ++ [x])[i]? := by
  intro i hi
  rw [List.length_append] at hi
  simp at hi
  rw [List.length_set, List.getElem?_set]
  have e1 := mod_cut (x := f + L.length) (k := S.length) (by omega)
  have e2 := mod_cut (x := f + i) (k := S.length) (by omega)
  by_cases h : i = L.length
  · subst h
    rw [if_pos rfl, if_pos (Nat.mod_lt _ (by omega)), List.getElem?_append_right (Nat.le_refl _)]
    simp
  · have hne : (f + L.length) % S.length ≠ (f + i) % S.length := by
      rw [e1, e2]
      split <;> split <;> omega
    rw [if_neg hne, List.getElem?_append_left (by omega)]
    exact hm i (by omega)
/-- the first one goes -/
theorem round_take {x : α} (hf : f < S.length) (hl : (x :: L).length ≤ S.length) (hm : ∀ i, i < (x :: L).length → S[(f + i) % S.length]? = (x :: L)[i]?) (z : α) :
    ∀ i, i < L.length → (S.set f z)[((f + 1) % S.length + i) % (S.set f z).length]? = L[i]? := by
  intro i hi
  simp at hl
  rw [List.length_set, List.getElem?_set]
  have e1 := mod_cut (x := f + 1) (k := S.length) (by omega)
  have e3 := mod_cut (x := f + (i + 1)) (k := S.length) (by omega)
  have e4 : ((f + 1) % S.length + i) % S.length = (f + (i + 1)) % S.length := by
    rw [Nat.mod_add_mod]
    congr 1
    omega
  have hne : f ≠ (f + (i + 1)) % S.length := by
    rw [e3]
    split <;> omega
  rw [e4, if_neg hne, hm (i + 1) (by simp; omega)]
  simp
theorem round_first {x : α} (hf : f < S.length) (hm : ∀ i, i < (x :: L).length → S[(f + i) % S.length]? = (x :: L)[i]?) : S[f]? = some x := by
  have := hm 0 (by simp)
  rwa [Nat.add_zero, Nat.mod_eq_of_lt hf] at this
/-- all in two pieces -/
theorem round_pieces (hf : f < S.length) (hl : L.length ≤ S.length) (hm : ∀ i, i < L.length → S[(f + i) % S.length]? = L[i]?) :
    L = (S.drop f).take (f + L.length - (f + L.length - S.length) - f) ++ S.take (f + L.length - S.length) := by
  apply List.ext_getElem?
  intro i
  by_cases hi : i < L.length
  · rw [← hm i hi, mod_cut (by omega), List.getElem?_append]
    simp only [List.length_take, List.length_drop, List.getElem?_take, List.getElem?_drop]
    by_cases h : f + i < S.length
    · rw [if_pos h, if_pos (by omega), if_pos (by omega)]
    · rw [if_neg h, if_neg (by omega), if_pos (by omega)]
      congr 1
      omega
  · rw [List.getElem?_eq_none (by omega), List.getElem?_eq_none (by simp; omega)]
/-- new slots, with the members in front -/
theorem round_new (z : α) {k : Nat} (hk : L.length ≤ k) : ∀ i, i < L.length → (L ++ List.replicate (k - L.length) z)[(0 + i) % (L ++ List.replicate (k - L.length) z).length]? = L[i]? := by
  intro i hi
  rw [Nat.mod_eq_of_lt (by simp; omega), Nat.zero_add, List.getElem?_append_left hi]
end
theorem Kept.setCell {O : Nat → Prop} {w w' : World} (h : Kept O w w') {p : Addr} (hp : O p.block) (u : Value) : Kept O w (w'.setCell p u) :=
  ⟨h.os, h.tape, h.output, by simpa [World.setCell] using h.size, fun k hk hn => (Below.heap_setCell w' p u k (by intro e; exact hn (by rw [e]; exact hp))).trans (h.block k hk hn)⟩
theorem Kept.drewN {O : Nat → Prop} {w w' : World} (h : Kept O w w') (n : Nat) : Kept O w (w'.drewN n) := ⟨h.os, h.tape, h.output, h.size, h.block⟩
theorem Kept.setNew {O : Nat → Prop} {w w' : World} (h : Kept O w w') {p : Addr} (hp : w.heap.size ≤ p.block) (u : Value) : Kept O w (w'.setCell p u) :=
  ⟨h.os, h.tape, h.output, by simpa [World.setCell] using h.size, fun k hk hn => (Below.heap_setCell w' p u k (by intro e; omega)).trans (h.block k hk hn)⟩
theorem Kept.below_ {O : Nat → Prop} {w w' w2 : World} (h : Kept O w w') (hb : Below w'.heap.size w' w2) : Kept O w w2 :=
  ⟨hb.os.trans h.os, hb.tape.trans h.tape, hb.output.trans h.output, Nat.le_trans h.size hb.size, fun k hk hn => (hb.block k (Nat.lt_of_lt_of_le hk h.size)).trans (h.block k hk hn)⟩
end Go.Proofs.YtmmcjmejcngajaaGreatDoor

namespace Go.Proofs.YtmmcjmejcngajaaGreatDoor
open Go.RowKit
set_option linter.unusedVariables false

/-- its five cells -/
abbrev fr0 : Fr := ⟨0, 0, 0, ByteArray.mk #[]⟩
def rfC (p : Option Addr) (k : Nat) (f l m n : Int) : List Value := [.slice p k k, .int .i64 f, .int .i64 l, .int .i64 m, .int .i64 n]
theorem getX {X Z : List Value} {o : Nat} (h : X.length = o) (j : Nat) : (X ++ Z).toArray[o + j]? = Z[j]? := by
  subst h
  simp [List.getElem?_append_right]
theorem setX {X Z : List Value} {o : Nat} (h : X.length = o) (j : Nat) (u : Value) : (X ++ Z).toArray.setIfInBounds (o + j) u = (X ++ Z.set j u).toArray := by
  subst h
  rw [List.setIfInBounds_toArray, List.set_append_right _ _ (by omega)]
  simp
structure RfM (TB : TypeId) (o : Nat) (X Y : List Value) (w : World) (b : Nat) (p : Option Addr) (S : List Fr) (f : Nat) (s : Rg Fr) : Prop where
  box : w.heap[b]? = some (.cells (X ++ (rfC p S.length (f : Int) (s.L.length : Int) (s.m : Int) (s.n : Int) ++ Y)).toArray TB (0, 0))
  off : X.length = o
  row : (p = none ∧ S = [] ∧ f = 0) ∨ ∃ g, p = some ⟨g, 0, none⟩ ∧ w.heap[g]? = some (.cells (rowG frC S).toArray 33 (0, 0)) ∧ g ≠ b ∧ f < S.length
  len : s.L.length ≤ S.length
  fit : S.length ≤ s.m
  lo : 1 ≤ s.m
  hi : s.m ≤ 1000
  mem : ∀ i, i < s.L.length → S[(f + i) % S.length]? = s.L[i]?
def RfI (TB : TypeId) (o : Nat) (X Y : List Value) : World → Value → Rg Fr → (Nat → Prop) → Prop := fun w v s O => ∃ b p S f, v = .pointer (some ⟨b, o, none⟩) ∧ O = rgO b p ∧ RfM TB o X Y w b p S f s
section
variable {TB : TypeId} {o : Nat} {X Y : List Value} {w w' : World} {b f : Nat} {p : Option Addr} {S : List Fr} {s : Rg Fr}
theorem RfM.stay (h : RfM TB o X Y w b p S f s) (hs : ∀ k, rgO b p k → w'.heap[k]? = w.heap[k]?) : RfM TB o X Y w' b p S f s := by
  refine ⟨(hs b (.inl rfl)).trans h.box, h.off, ?_, h.len, h.fit, h.lo, h.hi, h.mem⟩
  rcases h.row with h1 | ⟨g, rfl, h2, h3, h4⟩
  · exact .inl h1
  · exact .inr ⟨g, rfl, (hs g (.inr ⟨_, rfl, rfl⟩)).trans h2, h3, h4⟩
theorem RfM.lt (h : RfM TB o X Y w b p S f s) : ∀ k, rgO b p k → k < w.heap.size := by
  rintro k (rfl | ⟨a, rfl, rfl⟩)
  · exact rheap_lt h.box
  · rcases h.row with ⟨h1, _⟩ | ⟨g, h1, h2, _⟩
    · cases h1
    · injection h1 with h1; subst h1; exact rheap_lt h2
theorem RfM.later (h : RfM TB o X Y w b p S f s) (hb : Below w.heap.size w w') : RfM TB o X Y w' b p S f s := h.stay (fun k hk => hb.block k (h.lt k hk))
theorem rfI_obj (TB : TypeId) (o : Nat) (X Y : List Value) : IsObj (RfI TB o X Y) where
  stay := by
    rintro w w' v s O ⟨b, p, S, f, rfl, rfl, h⟩ hs
    exact ⟨b, p, S, f, rfl, rfl, h.stay hs⟩
  lt := by
    rintro w v s O ⟨b, p, S, f, rfl, rfl, h⟩
    exact h.lt
theorem rf_cells {k : Nat} {f l m n : Int} (hb : w.heap[b]? = some (.cells (X ++ (rfC p k f l m n ++ Y)).toArray TB (0, 0))) (ho : X.length = o) : w.cell? ⟨b, o, none⟩ = some (.slice p k k) ∧ w.cell? ⟨b, o + 1, none⟩ = some (.int .i64 f) ∧ w.cell? ⟨b, o + 2, none⟩ = some (.int .i64 l) ∧ w.cell? ⟨b, o + 3, none⟩ = some (.int .i64 m) ∧ w.cell? ⟨b, o + 4, none⟩ = some (.int .i64 n) := by
  have e0 : w.cell? ⟨b, o + 0, none⟩ = some (.slice p k k) := by rw [Lib.cell_of_heap hb, getX ho]; rfl
  refine ⟨by simpa using e0, ?_, ?_, ?_, ?_⟩ <;> (rw [Lib.cell_of_heap hb, getX ho]; rfl)
theorem RfM.cells (h : RfM TB o X Y w b p S f s) : w.cell? ⟨b, o, none⟩ = some (.slice p S.length S.length) ∧ w.cell? ⟨b, o + 1, none⟩ = some (.int .i64 (f : Int)) ∧ w.cell? ⟨b, o + 2, none⟩ = some (.int .i64 (s.L.length : Int)) ∧ w.cell? ⟨b, o + 3, none⟩ = some (.int .i64 (s.m : Int)) ∧ w.cell? ⟨b, o + 4, none⟩ = some (.int .i64 (s.n : Int)) := rf_cells h.box h.off
theorem RfM.live (h : RfM TB o X Y w b p S f s) (i : Nat) : w.frozen? ⟨b, i, none⟩ = false := Lib.frozen_of_heap h.box i
theorem RfM.blt (h : RfM TB o X Y w b p S f s) : b < w.heap.size := rheap_lt h.box
theorem rowF_cell {g : Nat} (h : w.heap[g]? = some (.cells (rowG frC S).toArray 33 (0, 0))) {i : Nat} {x : Fr} (hx : S[i]? = some x) : w.cell? ⟨g, i * 4, none⟩ = some (.int .i64 x.i) ∧ w.cell? ⟨g, i * 4 + 1, none⟩ = some (.int .i64 x.n) ∧ w.cell? ⟨g, i * 4 + 2, none⟩ = some (.int .i64 x.l) ∧ w.cell? ⟨g, i * 4 + 3, none⟩ = some (.string x.d) := by
  have key : ∀ j u, (frC x)[j]? = some u → w.cell? ⟨g, i * 4 + j, none⟩ = some u := fun j u hu => by
    rw [Lib.cell_of_heap h]
    simpa using rowG_get frC_len S i _ hx j u hu
  exact ⟨key 0 _ rfl, key 1 _ rfl, key 2 _ rfl, key 3 _ rfl⟩
end
/-! ### a frame is stored into a slot -/
def putS (w : World) (g i : Nat) (x : Fr) : World := (((w.setCell ⟨g, i * 4, none⟩ (.int .i64 x.i)).setCell ⟨g, i * 4 + 1, none⟩ (.int .i64 x.n)).setCell ⟨g, i * 4 + 2, none⟩ (.int .i64 x.l)).setCell ⟨g, i * 4 + 3, none⟩ (.string x.d)
theorem fr_split (m : Fr) (L : List Fr) : rowG frC (m :: L) = frC m ++ rowG frC L := by simp [rowG]
theorem rowG_setFr (x : Fr) : ∀ (N : List Fr) (i : Nat), i < N.length → ((((rowG frC N).set (i * 4) (.int .i64 x.i)).set (i * 4 + 1) (.int .i64 x.n)).set (i * 4 + 2) (.int .i64 x.l)).set (i * 4 + 3) (.string x.d) = rowG frC (N.set i x)
  | [], i, h => by cases h
  | a :: N, 0, h => rfl
  | a :: N, i + 1, h => by
    have ih := rowG_setFr x N i (by simpa using h)
    rw [List.set_cons_succ, fr_split, fr_split, ← ih]
    have l : (frC a).length = 4 := rfl
    iterate 4 rw [List.set_append_right _ _ (by rw [l]; omega)]
    rw [l]
    congr 1
    rw [show (i + 1) * 4 - 4 = i * 4 by omega, show (i + 1) * 4 + 1 - 4 = i * 4 + 1 by omega, show (i + 1) * 4 + 2 - 4 = i * 4 + 2 by omega, show (i + 1) * 4 + 3 - 4 = i * 4 + 3 by omega]
theorem putS_other {w : World} {g i k : Nat} {x : Fr} (h : k ≠ g) : (putS w g i x).heap[k]? = w.heap[k]? := by
  unfold putS
  iterate 4 rw [Below.heap_setCell _ _ _ _ h]
theorem putS_row {w : World} {g i : Nat} {S : List Fr} {x : Fr} (h : w.heap[g]? = some (.cells (rowG frC S).toArray 33 (0, 0))) (hi : i < S.length) : (putS w g i x).heap[g]? = some (.cells (rowG frC (S.set i x)).toArray 33 (0, 0)) := by
  have a0 := heap_setCell_same w g (i * 4) _ _ (.int .i64 x.i) h
  have a1 := heap_setCell_same _ g (i * 4 + 1) _ _ (.int .i64 x.n) a0
  have a2 := heap_setCell_same _ g (i * 4 + 2) _ _ (.int .i64 x.l) a1
  have a3 := heap_setCell_same _ g (i * 4 + 3) _ _ (.string x.d) a2
  unfold putS
  rw [a3]
  simp only [List.setIfInBounds_toArray]
  rw [rowG_setFr x S i hi]
/-! ### in the midst of a call -/
structure RfW (TB : TypeId) (o : Nat) (X Y : List Value) (O : Nat → Prop) (w0 w : World) (b g : Nat) (S : List Fr) (f l m n : Int) : Prop where
  box : w.heap[b]? = some (.cells (X ++ (rfC (some ⟨g, 0, none⟩) S.length f l m n ++ Y)).toArray TB (0, 0))
  off : X.length = o
  row : w.heap[g]? = some (.cells (rowG frC S).toArray 33 (0, 0))
  gb : g ≠ b
  kept : Kept O w0 w
  ob : O b
  og : O g ∨ w0.heap.size ≤ g
section
variable {TB : TypeId} {o : Nat} {X Y : List Value} {O : Nat → Prop} {w0 w w' : World} {b g : Nat} {S : List Fr} {f l m n : Int}
theorem RfM.mid {f : Nat} {s : Rg Fr} (h : RfM TB o X Y w b (some ⟨g, 0, none⟩) S f s) : RfW TB o X Y (rgO b (some ⟨g, 0, none⟩)) w w b g S f s.L.length s.m s.n ∧ f < S.length := by
  rcases h.row with ⟨h1, _⟩ | ⟨g', h1, h2, h3, h4⟩
  · cases h1
  · injection h1 with h1
    injection h1 with h1
    subst h1
    exact ⟨⟨h.box, h.off, h2, h3, Kept.refl _ _, .inl rfl, .inl (.inr ⟨_, rfl, rfl⟩)⟩, h4⟩
theorem RfW.cells (h : RfW TB o X Y O w0 w b g S f l m n) : w.cell? ⟨b, o, none⟩ = some (.slice (some ⟨g, 0, none⟩) S.length S.length) ∧ w.cell? ⟨b, o + 1, none⟩ = some (.int .i64 f) ∧ w.cell? ⟨b, o + 2, none⟩ = some (.int .i64 l) ∧ w.cell? ⟨b, o + 3, none⟩ = some (.int .i64 m) ∧ w.cell? ⟨b, o + 4, none⟩ = some (.int .i64 n) := rf_cells h.box h.off
theorem RfW.live (h : RfW TB o X Y O w0 w b g S f l m n) (i : Nat) : w.frozen? ⟨b, i, none⟩ = false := Lib.frozen_of_heap h.box i
theorem RfW.liveG (h : RfW TB o X Y O w0 w b g S f l m n) (i : Nat) : w.frozen? ⟨g, i, none⟩ = false := Lib.frozen_of_heap h.row i
theorem RfW.slot (h : RfW TB o X Y O w0 w b g S f l m n) {i : Nat} {x : Fr} (hx : S[i]? = some x) : w.cell? ⟨g, i * 4, none⟩ = some (.int .i64 x.i) ∧ w.cell? ⟨g, i * 4 + 1, none⟩ = some (.int .i64 x.n) ∧ w.cell? ⟨g, i * 4 + 2, none⟩ = some (.int .i64 x.l) ∧ w.cell? ⟨g, i * 4 + 3, none⟩ = some (.string x.d) := rowF_cell h.row hx
theorem RfW.blt (h : RfW TB o X Y O w0 w b g S f l m n) : b < w.heap.size := rheap_lt h.box
theorem RfW.glt (h : RfW TB o X Y O w0 w b g S f l m n) : g < w.heap.size := rheap_lt h.row
theorem RfW.later (h : RfW TB o X Y O w0 w b g S f l m n) (hb : Below w.heap.size w w') : RfW TB o X Y O w0 w' b g S f l m n :=
  ⟨(hb.block _ h.blt).trans h.box, h.off, (hb.block _ h.glt).trans h.row, h.gb, h.kept.below_ hb, h.ob, h.og⟩
theorem RfW.drewN (h : RfW TB o X Y O w0 w b g S f l m n) (k : Nat) : RfW TB o X Y O w0 (w.drewN k) b g S f l m n := h.later (below_drewN (Below.refl _ _) k)
theorem kept_row {w1 : World} (hk : Kept O w0 w) (hg : O g ∨ w0.heap.size ≤ g) (e1 : w1.heap.size = w.heap.size) (e2 : w1.os = w.os ∧ w1.tape = w.tape ∧ w1.output = w.output) (ho : ∀ k, k ≠ g → w1.heap[k]? = w.heap[k]?) : Kept O w0 w1 :=
  ⟨e2.1.trans hk.os, e2.2.1.trans hk.tape, e2.2.2.trans hk.output, by rw [e1]; exact hk.size, fun k h1 h2 => (ho k (fun e => by rcases hg with h3 | h3; exact h2 (e ▸ h3); omega)).trans (hk.block k h1 h2)⟩
theorem RfW.setSlot (h : RfW TB o X Y O w0 w b g S f l m n) {i : Nat} (hi : i < S.length) (x : Fr) : RfW TB o X Y O w0 (putS w g i x) b g (S.set i x) f l m n :=
  ⟨by rw [putS_other (fun e => h.gb e.symm), List.length_set]; exact h.box, h.off, putS_row h.row hi, h.gb,
    kept_row h.kept h.og (by unfold putS; simp [World.setCell]) ⟨rfl, rfl, rfl⟩ (fun k hk => putS_other hk), h.ob, h.og⟩
theorem RfW.setBox (h : RfW TB o X Y O w0 w b g S f l m n) (i : Nat) (v : Value) : (w.setCell ⟨b, o + i, none⟩ v).heap[b]? = some (.cells (X ++ (rfC (some ⟨g, 0, none⟩) S.length f l m n ++ Y).set i v).toArray TB (0, 0)) := by
  rw [heap_setCell_same w b (o + i) _ _ _ h.box, setX h.off]
theorem RfW.setF (h : RfW TB o X Y O w0 w b g S f l m n) (f' : Int) : RfW TB o X Y O w0 (w.setCell ⟨b, o + 1, none⟩ (.int .i64 f')) b g S f' l m n :=
  ⟨h.setBox 1 _, h.off, (Below.heap_setCell w ⟨b, o + 1, none⟩ _ g h.gb).trans h.row, h.gb, h.kept.setCell (p := ⟨b, o + 1, none⟩) h.ob _, h.ob, h.og⟩
theorem RfW.setL (h : RfW TB o X Y O w0 w b g S f l m n) (l' : Int) : RfW TB o X Y O w0 (w.setCell ⟨b, o + 2, none⟩ (.int .i64 l')) b g S f l' m n :=
  ⟨h.setBox 2 _, h.off, (Below.heap_setCell w ⟨b, o + 2, none⟩ _ g h.gb).trans h.row, h.gb, h.kept.setCell (p := ⟨b, o + 2, none⟩) h.ob _, h.ob, h.og⟩
theorem RfW.setN (h : RfW TB o X Y O w0 w b g S f l m n) (n' : Int) : RfW TB o X Y O w0 (w.setCell ⟨b, o + 4, none⟩ (.int .i64 n')) b g S f l m n' :=
  ⟨h.setBox 4 _, h.off, (Below.heap_setCell w ⟨b, o + 4, none⟩ _ g h.gb).trans h.row, h.gb, h.kept.setCell (p := ⟨b, o + 4, none⟩) h.ob _, h.ob, h.og⟩
theorem RfW.stp {f' m' n' : Nat} {L : List Fr} (h : RfW TB o X Y O w0 w b g S f l m n) (hf : f = f') (hl : l = L.length) (hm : m = m') (hn : n = n') (hS : f' < S.length) (hL : L.length ≤ S.length) (hz : S.length ≤ m') (h1 : 1 ≤ m') (h2 : m' ≤ 1000)
    (hmem : ∀ i, i < L.length → S[(f' + i) % S.length]? = L[i]?) : Stp (RfI TB o X Y) (.pointer (some ⟨b, o, none⟩)) O w0 ⟨L, m', n'⟩ w := by
  subst hf hl hm hn
  refine ⟨rgO b (some ⟨g, 0, none⟩), ⟨b, _, S, f', rfl, rfl, ⟨h.box, h.off, .inr ⟨g, rfl, h.row, h.gb, hS⟩, hL, hz, h1, h2, hmem⟩⟩, h.kept, ?_⟩
  rintro k (rfl | ⟨a, h3, rfl⟩)
  · exact .inl h.ob
  · injection h3 with h3
    subst h3
    exact h.og
end
/-! ### all in two pieces, as slices -/
section
variable {TB : TypeId} {o : Nat} {X Y : List Value} {w w' : World} {b f : Nat} {p : Option Addr} {S A : List Fr}
def SfP (w : World) (p : Option Addr) (A : List Fr) : Prop := 0 < A.length → ∃ ad, p = some ad ∧ ad.block < w.heap.size ∧ ∀ j u, (rowG frC A)[j]? = some u → w.cell? (ad.add j) = some u
def PcF (w : World) (v : Value) (L : List Fr) : Prop := ∃ A B p1 p2, v = .tuple #[.slice p1 A.length A.length, .slice p2 B.length B.length] ∧ L = A ++ B ∧ SfP w p1 A ∧ SfP w p2 B
theorem SfP.none_ (w : World) (p : Option Addr) : SfP w p [] := fun h => by simp at h
theorem SfP.row {g i n : Nat} (hg : w.heap[g]? = some (.cells (rowG frC S).toArray 33 (0, 0))) : SfP w (some ⟨g, i * 4, none⟩) ((S.drop i).take n) := fun _ => by
  refine ⟨_, rfl, rheap_lt hg, fun j u hu => ?_⟩
  rw [qaddr, Lib.cell_of_heap hg]
  obtain ⟨q, r, x, h1, h2, rfl⟩ := rowG_cells' frC_len hu
  rw [List.getElem?_take] at h1
  split at h1
  · rw [List.getElem?_drop] at h1
    have := rowG_get frC_len S (i + q) x h1 r u h2
    rw [show i * 4 + (q * 4 + r) = (i + q) * 4 + r by omega]
    simpa using this
  · cases h1
theorem SfP.later (h : SfP w p A) (hb : Below w.heap.size w w') : SfP w' p A := fun h0 => by
  obtain ⟨ad, h1, h2, h3⟩ := h h0
  exact ⟨ad, h1, Nat.lt_of_lt_of_le h2 hb.size, fun j u hu => (hb.cell (by rw [addr_block]; exact h2)).trans (h3 j u hu)⟩
theorem SfP.src (h : SfP w p A) (hb : Below w.heap.size w w') {Z : List Value} {n : Nat} (hX : rowG frC A = Z) (hn : A.length = n) (h0 : 0 < n) : ∃ ad, p = some ad ∧ ∀ j v, Z[j]? = some v → w'.cell? (ad.add j) = some v := by
  subst hX
  obtain ⟨ad, h1, _, h3⟩ := (h.later hb) (by omega)
  exact ⟨ad, h1, h3⟩
end
theorem splice_repF (z : Fr) (k : Nat) (A B : List Fr) (h : A.length + B.length ≤ k) : splice (splice (rowG frC (List.replicate k z)) 0 (rowG frC A)) (A.length * 4) (rowG frC B) = rowG frC ((A ++ B) ++ List.replicate (k - (A ++ B).length) z) := by
  have lA : (rowG frC A).length = A.length * 4 := rowG_length frC_len A
  have lB : (rowG frC B).length = B.length * 4 := rowG_length frC_len B
  obtain ⟨d, rfl⟩ : ∃ d, k = A.length + (B.length + d) := ⟨k - A.length - B.length, by omega⟩
  have e : List.replicate (A.length + (B.length + d)) z = List.replicate A.length z ++ (List.replicate B.length z ++ List.replicate d z) := by simp [List.replicate_append_replicate]
  have r1 : (rowG frC (List.replicate A.length z)).length = A.length * 4 := by rw [rowG_length frC_len]; simp
  have r2 : (rowG frC (List.replicate B.length z)).length = B.length * 4 := by rw [rowG_length frC_len]; simp
  unfold splice
  rw [e, rowG_app, rowG_app, lA, lB]
  have e1 : List.take 0 (rowG frC (List.replicate A.length z) ++ (rowG frC (List.replicate B.length z) ++ rowG frC (List.replicate d z))) ++ (rowG frC A ++ List.drop (0 + A.length * 4) (rowG frC (List.replicate A.length z) ++ (rowG frC (List.replicate B.length z) ++ rowG frC (List.replicate d z)))) = rowG frC A ++ (rowG frC (List.replicate B.length z) ++ rowG frC (List.replicate d z)) := by
    rw [Nat.zero_add, ← r1, List.drop_left]; simp
  rw [e1]
  have e2 : (rowG frC A ++ (rowG frC (List.replicate B.length z) ++ rowG frC (List.replicate d z))).take (A.length * 4) = rowG frC A := by rw [← lA, List.take_left]
  have e3 : (rowG frC A ++ (rowG frC (List.replicate B.length z) ++ rowG frC (List.replicate d z))).drop (A.length * 4 + B.length * 4) = rowG frC (List.replicate d z) := by
    rw [← lA, ← r2, List.drop_append, List.drop_append]; simp
  rw [e2, e3, rowG_app, rowG_app, List.append_assoc]
  congr 3
  simp; omega
end Go.Proofs.YtmmcjmejcngajaaGreatDoor

namespace Go.Proofs.YtmmcjmejcngajaaGreatDoor
open Go.RowKit
set_option linter.unusedVariables false
variable {TB : TypeId} {o : Nat} {X Y : List Value}


theorem rfM_new {w : World} {b m : Nat} (h : w.heap[b]? = some (.cells #[.slice none 0 0, .int .i64 0, .int .i64 0, .int .i64 (m : Int), .int .i64 0] 60 (0, 0))) (h1 : 1 ≤ m) (h2 : m ≤ 1000) : RfM 60 0 [] [] w b none [] 0 ⟨[], m, 0⟩ :=
  ⟨h, rfl, .inl ⟨rfl, rfl, rfl⟩, Nat.le_refl _, Nat.zero_le _, h1, h2, fun i hi => by simp at hi⟩
set_option maxHeartbeats 2000000 in
theorem rfnew_v (room : Int) (w : World) : Calls Tryz.prog 19 #[.int .i64 room] w fun e w' => ∃ b, e = .returned (.pointer (some ⟨b, 0, none⟩)) ∧ w.heap.size ≤ b ∧ RfM 60 0 [] [] w' b none [] 0 ⟨[], (roomN room).toNat, 0⟩ ∧ Below w.heap.size w w' := by
  obtain ⟨m, hm⟩ : ∃ m, (roomN room).toNat = m := ⟨_, rfl⟩
  have HM := Lib.hid hm
  rw [hm]
  clear hm
  go_enter Tryz.func19, Tryz.ntmps19
  go_wp2
  all_goals (
    go_ret
    have hm := HM.out
    unfold roomN at hm)
  · have hv : (m : Int) = 1 := by rw [if_pos (by assumption)] at hm; omega
    exact ⟨w.heap.size, rfl, Nat.le_refl _, rfM_new (by rw [hv]; exact heap_alloc_new w _) (by omega) (by omega), (Below.refl _ _).alloc (Nat.le_refl _) _⟩
  · have hv : (m : Int) = 1000 := by rw [if_neg (by omega), if_pos (by assumption)] at hm; omega
    exact ⟨w.heap.size, rfl, Nat.le_refl _, rfM_new (by rw [hv]; exact heap_alloc_new w _) (by omega) (by omega), (Below.refl _ _).alloc (Nat.le_refl _) _⟩
  · have hv : (m : Int) = room := by rw [if_neg (by omega), if_neg (by omega)] at hm; omega
    exact ⟨w.heap.size, rfl, Nat.le_refl _, rfM_new (by rw [hv]; exact heap_alloc_new w _) (by omega) (by omega), (Below.refl _ _).alloc (Nat.le_refl _) _⟩
set_option maxHeartbeats 2000000 in
theorem rflen_v {w : World} {v : Value} {s : Rg Fr} {O : Nat → Prop} (h : RfI TB o X Y w v s O) : Calls Tryz.prog 39 #[v] w (Reads w (.int .i64 s.L.length)) := by
  obtain ⟨b, p, S, f, rfl, rfl, h⟩ := h
  have H := Lib.hid h
  obtain ⟨a0, a1, a2, a3, a4⟩ := h.cells
  have hb := h.blt
  clear h
  unfold Reads
  go_enter Tryz.func39, Tryz.ntmps39
  go_wp2
  go_ret
  exact ⟨rfl, 0, rfl⟩
set_option maxHeartbeats 2000000 in
theorem rflost_v {w : World} {v : Value} {s : Rg Fr} {O : Nat → Prop} (h : RfI TB o X Y w v s O) : Calls Tryz.prog 40 #[v] w (Reads w (.int .i64 s.n)) := by
  obtain ⟨b, p, S, f, rfl, rfl, h⟩ := h
  have H := Lib.hid h
  obtain ⟨a0, a1, a2, a3, a4⟩ := h.cells
  have hb := h.blt
  clear h
  unfold Reads
  go_enter Tryz.func40, Tryz.ntmps40
  go_wp2
  go_ret
  exact ⟨rfl, 0, rfl⟩
set_option maxHeartbeats 4000000 in
theorem rfslot_v {w : World} {b f k i : Nat} {p : Option Addr} (hf : f < k) (hz : k ≤ 1000) (hi : i ≤ 1000) (hb : b < w.heap.size) (a0 : w.cell? ⟨b, o, none⟩ = some (.slice p k k)) (a1 : w.cell? ⟨b, o + 1, none⟩ = some (.int .i64 (f : Int))) {r : Nat} (hr : (f + i) % k = r) : Calls Tryz.prog 61 #[.pointer (some ⟨b, o, none⟩), .int .i64 (i : Int)] w (Reads w (.int .i64 (r : Int))) := by
  have hm : Int.tmod ((f : Int) + (i : Int)) (k : Int) = (r : Int) := by rw [← hr]; simp [← Int.natCast_add, ← Int.ofNat_tmod]
  have h0 : (k : Int) ≠ 0 := by omega
  clear hr
  unfold Reads
  go_enter Tryz.func61, Tryz.ntmps61
  go_wp2
  go_quiet (fail)
  go_wp2
  go_ret
  exact ⟨rfl, nq, rfl⟩
abbrev zfO : Obj := .cells #[.int .i64 0, .int .i64 0, .int .i64 0, .string (ByteArray.mk #[])] 33
abbrev frV (f : Fr) : Value := .agg #[.int .i64 f.i, .int .i64 f.n, .int .i64 f.l, .string f.d]
set_option maxHeartbeats 4000000 in
theorem rfpeek_f {w : World} {v : Value} {m n : Nat} {O : Nat → Prop} (h : RfI TB o X Y w v ⟨[], m, n⟩ O) : Calls Tryz.prog 75 #[v] w fun e w' => e = .returned (.tuple #[frV fr0, .int .i64 6]) ∧ Below w.heap.size w w' := by
  obtain ⟨b, p, S, f, rfl, rfl, h⟩ := h
  obtain ⟨a0, a1, a2, a3, a4⟩ := h.cells
  simp only [List.length_nil, Int.natCast_zero] at a2
  have hb := h.blt
  clear h
  go_enter Tryz.func75, Tryz.ntmps75
  go_wp2
  refine bodyPost_ret (v := .tuple #[frV fr0, .int .i64 6]) ?_ rfl ⟨rfl, ((Below.refl _ w).alloc (Nat.le_refl _) _).alloc (by simp) _⟩
  simp [results, Tryz.results75, go_sem]
set_option maxHeartbeats 4000000 in
theorem rfpeek_t {w : World} {v : Value} {x : Fr} {L : List Fr} {m n : Nat} {O : Nat → Prop} (h : RfI TB o X Y w v ⟨x :: L, m, n⟩ O) : Calls Tryz.prog 75 #[v] w fun e w' => e = .returned (.tuple #[frV x, .int .i64 0]) ∧ Below w.heap.size w w' := by
  obtain ⟨b, p, S, f, rfl, rfl, h⟩ := h
  rcases h.row with ⟨rfl, rfl, rfl⟩ | ⟨g, rfl, hg, hgb, hf⟩
  · have := h.len; simp at this
  obtain ⟨x0, x1, x2, x3⟩ := rowF_cell hg (round_first hf h.mem)
  have h0 : (((x :: L).length : Nat) : Int) ≠ 0 := by simp; omega
  obtain ⟨k, hk⟩ : ∃ k, S.length = k := ⟨_, rfl⟩
  obtain ⟨r, hr⟩ : ∃ r, (x :: L).length = r := ⟨_, rfl⟩
  have hz : k ≤ 1000 := by have := h.fit; have := h.hi; omega
  have hb : b < w.heap.size := h.blt
  have hgl : g < w.heap.size := rheap_lt hg
  obtain ⟨a0, a1, a2, a3, a4⟩ := h.cells
  rw [hk] at a0 hf
  simp only [hr] at a2 h0
  clear h hk hg hr
  go_enter Tryz.func75, Tryz.ntmps75
  go_wp2
  go_region
  go_wp2
  refine bodyPost_ret (v := .tuple #[frV x, .int .i64 0]) ?_ rfl ⟨rfl, (((Below.refl _ w).alloc (Nat.le_refl _) _).alloc (by simp) _).drew⟩
  simp [results, Tryz.results75, go_sem]
end Go.Proofs.YtmmcjmejcngajaaGreatDoor
