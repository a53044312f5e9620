/- Of no program: a map from int to whatever values, by ownsMap with the values themselves as the elements' data: looked up, stored into, struck from. Of no program: a row of the call's own appended to in a region that draws: the states of the chain. Of no program: two rows of the call's own appended to in one region that draws (in either order); boxes of one cell. Of no program: 'clear' of a slice of one thing of several cells; a row whose head is cleared and cut off. Arb: Least alone: plain, and the code (so that layers above need nothing else of arb). -/
import Derived.Maps.OwnSet
import Derived.Test.YtpgfifacfkllfaaDoorZap
import Derived.Test.YtpgfifacfkllfaaDoorZah
import Derived.Test.YtpgfifacfkllfaaDoorZaq
import Derived.Laws.IdiomCopy
import Derived.Lib.SliceRun
import Derived.Test.YtpgfifacfkllfaaDoorZae
import Derived.Test.YtpgfifacfkllfaaDoorZag
namespace Go.Proofs.YtpgfifacfkllfaaDoor
open Go.RowKit
open Go.Maps (Keyed IsMap Tidy)
set_option linter.unusedVariables false

def heldR (v : Value) : Option (DataW Value × List MemPlace) := some (.held v, [])
/-- what stands at the key i is u (z, where nothing stands) -/
def AtM (z : Value) (D : DataW Value) (i : Int) (u : Value) : Prop := D.atKey (.int .i64 i) (.held z) = .held u
/-- block b is a map that reads as D -/
def MapH (P : Program) (k : TypeId) (w : World) (b : Nat) (D : DataW Value) : Prop := w.ownsMap P k heldR b (Maps.size D) D
/-- the keys that are there are from 0 to 31 -/
def cntM (D : DataW Value) : Nat := (List.range 32).countP fun i : Nat => Maps.has D (.int .i64 (i : Int))
def SzM (D : DataW Value) : Prop := Maps.size D ≤ cntM D
theorem SzM.le {D : DataW Value} (h : SzM D) : Maps.size D ≤ 32 := Nat.le_trans h (by unfold cntM; exact Nat.le_trans List.countP_le_length (by simp))
theorem keyLit (i : Int) : WideAt.IsKeyLit (.int .i64 i) := trivial
theorem AtM.inj {z u u' : Value} {D : DataW Value} {i : Int} (h : AtM z D i u) (h' : AtM z D i u') : u = u' := by
  unfold AtM at h h'
  rw [h] at h'
  injection h'
theorem litInt_inj {i j : Int} (h : Lit.int .i64 i = Lit.int .i64 j) : i = j := by injection h
theorem countP_turn {p q : Nat → Bool} (i : Nat) : ∀ n, (∀ j, j ≠ i → q j = p j) → (i < n → p i = false → q i = true → (List.range n).countP q = (List.range n).countP p + 1) ∧ (n ≤ i ∨ q i = p i → (List.range n).countP q = (List.range n).countP p)
  | 0, _ => ⟨fun h => by omega, fun _ => rfl⟩
  | n + 1, h => by
    obtain ⟨h1, h2⟩ := countP_turn i n h
    rw [List.range_succ, List.countP_append, List.countP_append]
    simp only [List.countP_cons, List.countP_nil]
    constructor
    · intro hi hp hq
      by_cases e : n = i
      · subst e
        rw [h2 (.inl (Nat.le_refl _)), hp, hq]; simp
      · rw [h1 (by omega) hp hq, h n e]; omega
    · intro hi
      by_cases e : n = i
      · subst e
        rcases hi with hi | hi
        · omega
        · rw [h2 (.inl (Nat.le_refl _)), hi]
      · rw [h2 (by rcases hi with hi | hi; exact .inl (by omega); exact .inr hi), h n e]
theorem SzM.put {D : DataW Value} (h : SzM D) (hD : Tidy D) {i : Nat} (hi : i < 32) (u : DataW Value) : SzM (D.put (.int .i64 i) u) := by
  have hs := Maps.size_put hD (k := .int .i64 (i : Int)) u
  have hc := countP_turn (p := fun j : Nat => Maps.has D (.int .i64 (j : Int))) (q := fun j : Nat => Maps.has (D.put (.int .i64 (i : Int)) u) (.int .i64 (j : Int))) i 32 (fun j hj => Maps.has_put_other (fun e => hj (by have := litInt_inj e; omega)) u)
  have hq : Maps.has (D.put (.int .i64 (i : Int)) u) (.int .i64 (i : Int)) = true := Maps.has_put_same hD.isMap (keyLit _) u
  unfold SzM cntM at *
  rw [hs]
  cases hp : Maps.has D (.int .i64 (i : Int))
  · rw [hc.1 hi hp hq]; simp; omega
  · rw [hc.2 (.inr (hq.trans hp.symm))]; simp; omega
theorem SzM.del {D : DataW Value} (h : SzM D) (hD : Tidy D) (i : Nat) (hi : i < 32) : SzM (D.del (.int .i64 i)) := by
  have hs := Maps.size_del (k := .int .i64 (i : Int)) hD
  have hc := countP_turn (q := fun j : Nat => Maps.has D (.int .i64 (j : Int))) (p := fun j : Nat => Maps.has (D.del (.int .i64 (i : Int))) (.int .i64 (j : Int))) i 32 (fun j hj => (Maps.has_del_other (fun e => hj (by have := litInt_inj e; omega))).symm)
  have hq : Maps.has (D.del (.int .i64 (i : Int))) (.int .i64 (i : Int)) = false := Maps.has_del_same
  unfold SzM cntM at *
  cases hp : Maps.has D (.int .i64 (i : Int))
  · rw [hp] at hs
    have := hc.2 (.inr (hp.trans hq.symm))
    simp at hs; omega
  · rw [hp] at hs
    have := hc.1 hi hq hp
    simp at hs; omega
theorem AtM.put_same {D : DataW Value} (hD : Tidy D) (z v : Value) (i : Int) : AtM z (D.put (.int .i64 i) (.held v)) i v := Maps.atKey_put_same hD.isMap (keyLit _) _ _
theorem AtM.put_other {D : DataW Value} {z u : Value} {i j : Int} (h : AtM z D j u) (hne : j ≠ i) (d : DataW Value) : AtM z (D.put (.int .i64 i) d) j u := (Maps.atKey_put_other (fun e => hne (litInt_inj e)) d _).trans h
theorem AtM.del_same (D : DataW Value) (z : Value) (i : Int) : AtM z (D.del (.int .i64 i)) i z := Maps.atKey_del_same _
theorem AtM.del_other {D : DataW Value} {z u : Value} {i j : Int} (h : AtM z D j u) (hne : j ≠ i) : AtM z (D.del (.int .i64 i)) j u := (Maps.atKey_del_other (fun e => hne (litInt_inj e)) _).trans h
theorem AtM.empty (z : Value) (i : Int) : AtM z (.map []) i z := rfl
theorem SzM.empty : SzM (.map []) := Nat.zero_le _
theorem Kept.of_turned {w w' : World} {b : Nat} (h : w.mapTurned w' b) : Kept (fun k => k = b) w w' := by
  obtain ⟨es, clock, es', clock', hb, rfl⟩ := h
  exact ⟨rfl, rfl, rfl, by simp [ChangeMaps.setBlock], fun k _ hk => ChangeMaps.heap_setBlock_other hb _ hk⟩
section
variable {P : Program} {k : TypeId} {w w' : World} {b : Nat} {D : DataW Value}
theorem ownsMap_tight {R : Value → Option (DataW Value × List MemPlace)} {n : Nat} (h : w.ownsMap P k R b n D) : w.ownsMap P k R b (Maps.size D) D := by
  obtain ⟨es, clock, hb, F, hs, rfl⟩ := h
  exact ⟨es, clock, hb, F, by simp [Maps.size, length_sorted], rfl⟩
theorem MapH.made (w : World) (P : Program) (k : TypeId) : MapH P k (w.alloc (.map #[] 0)) w.heap.size (.map []) := World.ownsMap_made w P k heldR
theorem MapH.stay (h : MapH P k w b D) (hs : w'.heap[b]? = w.heap[b]?) : MapH P k w' b D := by
  obtain ⟨es, clock, hb, r⟩ := h
  exact ⟨es, clock, hs.trans hb, r⟩
theorem MapH.lt (h : MapH P k w b D) : b < w.heap.size := World.ownsMap.lt h
theorem MapH.tidy (h : MapH P k w b D) (K : Keyed P k) : Tidy D := World.ownsMap.tidy h K
theorem MapH.look {t e : TypeId} {z u : Value} {i : Int} (h : MapH P k w b D) (K : Keyed P k) (ht : P.underlying t = some (.map k e)) (hz : (zeroValue e).run P w = .ok z w) (hkey : keyOf P k (.int .i64 i) = some (.int .i64 i)) (hu : AtM z D i u) :
    (Instr.lookup t (.map (some b)) (.int .i64 i) false).run P w = .ok u w := by
  obtain ⟨v, ps, hrun, hv⟩ := World.ownsMap.lookup h K ht hz (zd := .held z) (zp := []) rfl hkey
  unfold heldR at hv
  rw [show D.atKey (.int .i64 i) (.held z) = .held u from hu] at hv
  simp only [Option.some.injEq, Prod.mk.injEq, DataW.held.injEq] at hv
  rw [hrun, hv.1]
theorem MapH.store {t e : TypeId} {i : Int} (h : MapH P k w b D) (K : Keyed P k) (ht : P.underlying t = some (.map k e)) (hn : Maps.size D < maxLen) (hkey : keyOf P k (.int .i64 i) = some (.int .i64 i)) (v : Value) :
    ∃ w', (Instr.mapUpdate t (.map (some b)) (.int .i64 i) v).run P w = .ok () w' ∧ MapH P k w' b (D.put (.int .i64 i) (.held v)) ∧ w.mapTurned w' b := by
  obtain ⟨w', hrun, h1, h2⟩ := World.ownsMap.store h K ht hn hkey (val := v) (d := .held v) (ps := []) rfl
  exact ⟨w', hrun, ownsMap_tight h1, h2⟩
theorem MapH.drop {t e : TypeId} {i : Int} (h : MapH P k w b D) (K : Keyed P k) (ht : P.underlying t = some (.map k e)) (hkey : keyOf P k (.int .i64 i) = some (.int .i64 i)) (ty : TypeId) :
    ∃ w', (Builtin.delete_ #[t, k] ty #[.map (some b), .int .i64 i]).run P w = .ok (.tuple #[]) w' ∧ MapH P k w' b (D.del (.int .i64 i)) ∧ w.mapTurned w' b := by
  obtain ⟨w', hrun, h1, h2⟩ := World.ownsMap.drop h K ht hkey ty
  exact ⟨w', hrun, ownsMap_tight h1, h2⟩
end

/-! ### at the operation -/
section
variable {P : Program} (w : World) {ops : Array Oper} {rest : List Oper} {o : Oper} {a : Act} {Q : Exit → Act → World → Prop} {k e t : TypeId} {b : Nat} {D : DataW Value}
theorem wpList_storeH (hg : o.guard = none) (m x v : Operand) (hop : o.op = Op.mapUpdate t m x v) (K : Keyed P k) (ht : P.underlying t = some (.map k e)) (i : Int) (val : Value)
    (hm : a.eval m = .map (some b)) (h : MapH P k w b D) (hn : Maps.size D < maxLen) (hx : a.eval x = .int .i64 i) (hv : a.eval v = val) (hkey : keyOf P k (.int .i64 i) = some (.int .i64 i))
    (hK : ∀ w', MapH P k w' b (D.put (.int .i64 i) (.held val)) → w.mapTurned w' b → wpList P ops Q rest (a.put o.dst undef) w') : wpList P ops Q (o :: rest) a w := by
  refine wpList_plain hg fun K' hK' => ?_
  obtain ⟨w', hrun, r1, r2⟩ := h.store K ht hn hkey val
  unfold Oper.wp
  simp [execOp, hop, hm, hx, hv, hrun, Result.andThen]
  exact hK' _ _ (hK w' r1 r2)
theorem wpList_dropH (hg : o.guard = none) (m x : Operand) (hop : o.op = Op.call { callee := Callee.builtin Builtin.delete, args := #[m, x], argTypes := #[t, k] }) (K : Keyed P k) (ht : P.underlying t = some (.map k e)) (i : Int)
    (hm : a.eval m = .map (some b)) (h : MapH P k w b D) (hx : a.eval x = .int .i64 i) (hkey : keyOf P k (.int .i64 i) = some (.int .i64 i))
    (hK : ∀ w', MapH P k w' b (D.del (.int .i64 i)) → w.mapTurned w' b → wpList P ops Q rest (a.put o.dst (.tuple #[])) w') : wpList P ops Q (o :: rest) a w := by
  refine wpList_plain hg fun K' hK' => ?_
  obtain ⟨w', hrun, r1, r2⟩ := h.drop K ht hkey o.type
  unfold Oper.wp
  simp [execOp, hop, resolve, invoke, builtin, hm, hx, hrun, Result.andThen]
  exact hK' _ _ (hK w' r1 r2)
/-- a look-up in a region that draws, walked once -/
theorem st_look {st : List Nat} {G : Nat → (Tmp → Option Value) → World → Prop} {sec : List Tmp} {Q : Act → Prop} {h : Act} {n : Nat} (m x : Operand) (u : Value) (hi : st.contains n = false) (hw : Region.wanted o (yielded ops h.tmps) = true) (hl : secOpenL ops sec o = true) (hd : secOpenD sec o = true)
    (ho : o.op = Op.lookup t m x false) (mv xv : Value) (hm : h.eval m = mv) (hx : h.eval x = xv) (hrun : ∀ j xs w, G j xs w → (Instr.lookup t mv xv false).run P w = .ok u w)
    (hk : wpSt P ops st G sec Q (n + 1) rest (h.put o.dst u)) : wpSt P ops st G sec Q n (o :: rest) h := by
  unfold wpSt
  rw [if_pos hw]
  refine ⟨u, fun j xs a w hj hjk hb hfr hlk => ?_, hk⟩
  have hi' : n ∉ st := by simpa using hi
  have e : (execOp h.eval o).run P w = .ok (.value u) w := by simp [execOp, ho, hm, hx, hrun j xs w hb, Result.andThen]
  rw [if_neg hi', eval_open hl (fun cs b => by rw [ho]; simp) (stLooks_open hl hlk w), e]
  simp only [hidPut_open hd, stUpon]
  exact ⟨hb, stGood_open _ rfl⟩
end
end Go.Proofs.YtpgfifacfkllfaaDoor

namespace Go.Proofs.YtpgfifacfkllfaaDoor
open Go.RowKit
set_option linter.unusedVariables false

section
variable {α : Type} {c : α → List Value} {kk : Nat} {u : Value} {X L : List α} {W w w' : World} {tx tr : Tmp} {j : Nat} {xs : Tmp → Option Value}
def AppQ (c : α → List Value) (kk : Nat) (u : Value) (X L : List α) (W : World) (tx tr : Tmp) (j : Nat) (xs : Tmp → Option Value) (w : World) : Prop :=
  Kept (OwnO u) W w ∧ ((j = 0 ∧ xs tr = none ∧ RowQ c kk w u L ∧ ∀ x, xs tx = some x → RdA c kk w x X) ∨ (j = 1 ∧ ∃ v', xs tr = some v' ∧ RowQ c kk w v' (L ++ X) ∧ Grows (OwnO u) W (OwnO v')))
theorem AppQ.start (h : RowQ c kk W u L) : AppQ c kk u X L W tx tr 0 (fun _ => none) W.drew :=
  ⟨.of_below (Below.refl _ _).drew, .inl ⟨rfl, rfl, h.later (Below.refl _ _).drew, fun x hx => by cases hx⟩⟩
theorem AppQ.one {f : α} {t : TypeId} (hkk : ∀ a, (c a).length = kk) (hne : tr ≠ tx) (j : Nat) (xs : Tmp → Option Value) (w : World) (h : AppQ c kk u [f] L W tx tr j xs w) :
    AppQ c kk u [f] L W tx tr j (fun t => if t = tx then some (.slice (some ⟨w.heap.size, 0, none⟩) 1 1) else xs t) (w.alloc (.cells (c f).toArray t)) := by
  have hb : Below w.heap.size w (w.alloc (.cells (c f).toArray t)) := (Below.refl _ _).alloc (Nat.le_refl _) _
  obtain ⟨h1, h2⟩ := h
  refine ⟨h1.trans (.of_below (O := OwnO u) hb) (Grows.refl _ _), ?_⟩
  rcases h2 with ⟨rfl, h0, h3, h4⟩ | ⟨rfl, v', h3, h4, h5⟩
  · refine .inl ⟨rfl, by simp only; rw [if_neg hne]; exact h0, h3.later hb, fun x hx => ?_⟩
    simp at hx
    rw [← hx]
    exact RdA.one hkk w f t rfl rfl
  · exact .inr ⟨rfl, v', by simp only; rw [if_neg hne]; exact h3, h4.later hb, h5⟩
theorem AppQ.app (xs : Tmp → Option Value) (w : World) (v' : Value) (w' : World) (h : AppQ c kk u X L W tx tr 0 xs w) (hq : RowQ c kk w' v' (L ++ X)) (hk : Kept (OwnO u) w w') (hg : Grows (OwnO u) w (OwnO v')) :
    AppQ c kk u X L W tx tr 1 (fun t => if t = tr then some v' else xs t) w' := by
  obtain ⟨h1, _⟩ := h
  refine ⟨h1.trans hk (Grows.refl _ _), .inr ⟨rfl, v', by simp, hq, fun k hk' => ?_⟩⟩
  rcases hg k hk' with h2 | h2
  · exact .inl h2
  · exact .inr (Nat.le_trans h1.size h2)
theorem AppQ.rd (xs : Tmp → Option Value) (w : World) (x : Value) (h : AppQ c kk u X L W tx tr 0 xs w) (hx : xs tx = some x) : RowQ c kk w u L ∧ RdA c kk w x X := by
  rcases h.2 with ⟨_, _, h1, h2⟩ | ⟨h0, _⟩
  · exact ⟨h1, h2 x hx⟩
  · cases h0
theorem AppQ.out {v : Value} (h : AppQ c kk u X L W tx tr 1 xs w) (hv : xs tr = some v) : Kept (OwnO u) W w ∧ RowQ c kk w v (L ++ X) ∧ Grows (OwnO u) W (OwnO v) := by
  obtain ⟨h1, h2⟩ := h
  rcases h2 with ⟨h0, _⟩ | ⟨_, v', h3, h4, h5⟩
  · cases h0
  · rw [hv] at h3
    injection h3 with h3
    subst h3
    exact ⟨h1, h4, h5⟩
end
end Go.Proofs.YtpgfifacfkllfaaDoor

namespace Go.Proofs.YtpgfifacfkllfaaDoor
open Go.RowKit
set_option linter.unusedVariables false

/-! ### a box of one cell -/
def Bx1 (w : World) (k : Nat) (v : Value) (t : TypeId) : Prop := w.heap[k]? = some (.cells #[v] t (0, 0))
theorem Bx1.cell {w : World} {k : Nat} {v : Value} {t : TypeId} (h : Bx1 w k v t) : w.cell? ⟨k, 0, none⟩ = some v := by rw [Lib.cell_of_heap h]; rfl
theorem Bx1.live {w : World} {k : Nat} {v : Value} {t : TypeId} (h : Bx1 w k v t) : w.frozen? ⟨k, 0, none⟩ = false := Lib.frozen_of_heap h 0
theorem Bx1.lt {w : World} {k : Nat} {v : Value} {t : TypeId} (h : Bx1 w k v t) : k < w.heap.size := (Array.getElem?_eq_some_iff.1 h).1
theorem Bx1.set {w : World} {k : Nat} {v : Value} {t : TypeId} (h : Bx1 w k v t) (u : Value) : Bx1 (w.setCell ⟨k, 0, none⟩ u) k u t := by
  unfold Bx1
  rw [heap_setCell_same w k 0 #[v] t u h]
  rfl
theorem Bx1.other {w : World} {k : Nat} {v : Value} {t : TypeId} (h : Bx1 w k v t) {l : Nat} (hl : k ≠ l) (u : Value) : Bx1 (w.setCell ⟨l, 0, none⟩ u) k v t := by
  unfold Bx1
  rw [Below.heap_setCell _ _ _ _ hl]
  exact h
theorem Bx1.made (w : World) (v : Value) (t : TypeId) {k : Nat} (hk : w.heap.size = k) : Bx1 (w.alloc (.cells #[v] t)) k v t := by
  subst hk
  unfold Bx1 World.alloc
  simp
theorem Bx1.later {w w' : World} {k : Nat} {v : Value} {t : TypeId} (h : Bx1 w k v t) (hb : Below w.heap.size w w') : Bx1 w' k v t := (hb.block k h.lt).trans h
theorem Bx1.kept {w w' : World} {k : Nat} {v : Value} {t : TypeId} {O : Nat → Prop} (h : Bx1 w k v t) (hk : Kept O w w') (hn : ¬ O k) : Bx1 w' k v t := (hk.block k h.lt hn).trans h

/-! ### one of the two rows -/
section
variable {α : Type} {c : α → List Value} {kk : Nat} {u : Value} {f : α} {t : TypeId} {L : List α} {W w w' : World} {tx tr : Tmp} {xs : Tmp → Option Value}
def RowS (c : α → List Value) (kk : Nat) (u : Value) (f : α) (t : TypeId) (L : List α) (W : World) (tx tr : Tmp) (xs : Tmp → Option Value) (w : World) : Prop :=
  (xs tr = none ∧ RowQ c kk w u L ∧ ∀ x, xs tx = some x → ∃ g, x = .slice (some ⟨g, 0, none⟩) 1 1 ∧ W.heap.size ≤ g ∧ w.heap[g]? = some (.cells (c f).toArray t (0, 0))) ∨ ∃ v', xs tr = some v' ∧ RowQ c kk w v' (L ++ [f]) ∧ Grows (OwnO u) W (OwnO v')
theorem RowS.start (h : RowQ c kk W u L) : RowS c kk u f t L W tx tr (fun _ => none) W.drew := .inl ⟨rfl, h.later (Below.refl _ _).drew, fun x hx => by cases hx⟩
theorem RowS.keep {O : Nat → Prop} (h : RowS c kk u f t L W tx tr xs w) (hk : Kept O w w') (hW : W.heap.size ≤ w.heap.size) (hO : ∀ k, O k → k < W.heap.size ∧ ¬ OwnO u k) : RowS c kk u f t L W tx tr xs w' := by
  rcases h with ⟨h0, h1, h2⟩ | ⟨v', h0, h1, h2⟩
  · refine .inl ⟨h0, h1.stay (fun g hg => hk.block g (h1.lt g hg) (fun ho => (hO g ho).2 hg)) hk.size, fun x hx => ?_⟩
    obtain ⟨g, e, hg, hh⟩ := h2 x hx
    exact ⟨g, e, hg, (hk.block g (Array.getElem?_eq_some_iff.1 hh).1 (fun ho => by have := (hO g ho).1; omega)).trans hh⟩
  · refine .inr ⟨v', h0, h1.stay (fun g hg => hk.block g (h1.lt g hg) (fun ho => ?_)) hk.size, h2⟩
    have := hO g ho
    rcases h2 g hg with h3 | h3
    · exact this.2 h3
    · omega
theorem RowS.later (h : RowS c kk u f t L W tx tr xs w) (hb : Below w.heap.size w w') (hW : W.heap.size ≤ w.heap.size) : RowS c kk u f t L W tx tr xs w' := h.keep (O := fun _ => False) (.of_below hb) hW (fun k hk => hk.elim)
theorem RowS.skip (h : RowS c kk u f t L W tx tr xs w) {s : Tmp} (y : Value) (h1 : tx ≠ s) (h2 : tr ≠ s) : RowS c kk u f t L W tx tr (fun r => if r = s then some y else xs r) w := by
  unfold RowS at *
  simp only [if_neg h1, if_neg h2]
  exact h
theorem RowS.one (h : RowS c kk u f t L W tx tr xs w) (hne : tr ≠ tx) (hW : W.heap.size ≤ w.heap.size) : RowS c kk u f t L W tx tr (fun r => if r = tx then some (.slice (some ⟨w.heap.size, 0, none⟩) 1 1) else xs r) (w.alloc (.cells (c f).toArray t)) := by
  have hb : Below w.heap.size w (w.alloc (.cells (c f).toArray t)) := (Below.refl _ _).alloc (Nat.le_refl _) _
  have h' := h.later hb hW
  rcases h' with ⟨h0, h1, h2⟩ | ⟨v', h0, h1, h2⟩
  · refine .inl ⟨by simp only; rw [if_neg hne]; exact h0, h1, fun x hx => ?_⟩
    simp at hx
    subst hx
    exact ⟨_, rfl, hW, by unfold World.alloc; simp⟩
  · exact .inr ⟨v', by simp only; rw [if_neg hne]; exact h0, h1, h2⟩
theorem RdA.block (hkk : ∀ a, (c a).length = kk) {g : Nat} (h : w.heap[g]? = some (.cells (c f).toArray t (0, 0))) : RdA c kk w (.slice (some ⟨g, 0, none⟩) 1 1) [f] := by
  refine ⟨⟨_, _, rfl, by unfold maxLen; simp, fun i a ha => ?_⟩, .inr ⟨_, _, rfl, Nat.le_refl _⟩⟩
  have hi : i = 0 := by
    rcases Nat.lt_or_ge i 1 with h | h
    · omega
    · rw [List.getElem?_eq_none (by simpa using h)] at ha; cases ha
  subst hi
  simp at ha
  subst ha
  refine ⟨_, rfl, (Array.getElem?_eq_some_iff.1 h).1, fun j u hu => ?_⟩
  rw [Nat.zero_mul, Nat.zero_add, qaddr, Lib.cell_of_heap h]
  simpa using hu
theorem RowS.rd (hkk : ∀ a, (c a).length = kk) (h : RowS c kk u f t L W tx tr xs w) (h0 : xs tr = none) {x : Value} (hx : xs tx = some x) : RowQ c kk w u L ∧ RdA c kk w x [f] := by
  rcases h with ⟨_, h1, h2⟩ | ⟨v', h1, _⟩
  · obtain ⟨g, rfl, _, hg⟩ := h2 x hx
    exact ⟨h1, RdA.block hkk hg⟩
  · rw [h0] at h1; cases h1
theorem RowS.app {v' : Value} (hq : RowQ c kk w' v' (L ++ [f])) (hg : Grows (OwnO u) w (OwnO v')) (hW : W.heap.size ≤ w.heap.size) : RowS c kk u f t L W tx tr (fun r => if r = tr then some v' else xs r) w' :=
  .inr ⟨v', by simp, hq, fun k hk => (hg k hk).imp id (Nat.le_trans hW)⟩
theorem RowS.out {v : Value} (h : RowS c kk u f t L W tx tr xs w) (hv : xs tr = some v) : RowQ c kk w v (L ++ [f]) ∧ Grows (OwnO u) W (OwnO v) := by
  rcases h with ⟨h0, _⟩ | ⟨v', h1, h2, h3⟩
  · rw [hv] at h0; cases h0
  · rw [hv] at h1
    injection h1 with h1
    subst h1
    exact ⟨h2, h3⟩
end
/-! ### both -/
section
variable {α β : Type} {c : α → List Value} {kk : Nat} {u : Value} {f : α} {t : TypeId} {L : List α} {c' : β → List Value} {kk' : Nat} {u' : Value} {f' : β} {t' : TypeId} {L' : List β} {W w w' : World} {tx tr tx' tr' : Tmp} {xs : Tmp → Option Value}
structure TwoS (c : α → List Value) (kk : Nat) (u : Value) (f : α) (t : TypeId) (L : List α) (tx tr : Tmp) (c' : β → List Value) (kk' : Nat) (u' : Value) (f' : β) (t' : TypeId) (L' : List β) (tx' tr' : Tmp) (W : World) (xs : Tmp → Option Value) (w : World) : Prop where
  kept : Kept (fun k => OwnO u k ∨ OwnO u' k) W w
  a : RowS c kk u f t L W tx tr xs w
  b : RowS c' kk' u' f' t' L' W tx' tr' xs w
  ap : Apart (OwnO u) (OwnO u')
  lt : ∀ k, OwnO u k ∨ OwnO u' k → k < W.heap.size
  apv : ∀ v v', xs tr = some v → xs tr' = some v' → Apart (OwnO v) (OwnO v')
theorem TwoS.start (h : RowQ c kk W u L) (h' : RowQ c' kk' W u' L') (ap : Apart (OwnO u) (OwnO u')) : TwoS c kk u f t L tx tr c' kk' u' f' t' L' tx' tr' W (fun _ => none) W.drew :=
  ⟨.of_below (Below.refl _ _).drew, RowS.start h, RowS.start h', ap, fun k hk => by rcases hk with h1 | h1; exact h.lt k h1; exact h'.lt k h1, fun v v' h => by cases h⟩
theorem TwoS.oneA (h : TwoS c kk u f t L tx tr c' kk' u' f' t' L' tx' tr' W xs w) (h1 : tr ≠ tx) (h2 : tx' ≠ tx) (h3 : tr' ≠ tx) :
    TwoS c kk u f t L tx tr c' kk' u' f' t' L' tx' tr' W (fun r => if r = tx then some (.slice (some ⟨w.heap.size, 0, none⟩) 1 1) else xs r) (w.alloc (.cells (c f).toArray t)) := by
  have hb : Below w.heap.size w (w.alloc (.cells (c f).toArray t)) := (Below.refl _ _).alloc (Nat.le_refl _) _
  exact ⟨h.kept.trans (.of_below (O := fun k => OwnO u k ∨ OwnO u' k) hb) (Grows.refl _ _), h.a.one h1 h.kept.size, (h.b.later hb h.kept.size).skip _ h2 h3, h.ap, h.lt, fun v v' e1 e2 => by
    simp only [if_neg h1, if_neg h3] at e1 e2
    exact h.apv v v' e1 e2⟩
theorem TwoS.oneB (h : TwoS c kk u f t L tx tr c' kk' u' f' t' L' tx' tr' W xs w) (h1 : tr' ≠ tx') (h2 : tx ≠ tx') (h3 : tr ≠ tx') :
    TwoS c kk u f t L tx tr c' kk' u' f' t' L' tx' tr' W (fun r => if r = tx' then some (.slice (some ⟨w.heap.size, 0, none⟩) 1 1) else xs r) (w.alloc (.cells (c' f').toArray t')) := by
  have hb : Below w.heap.size w (w.alloc (.cells (c' f').toArray t')) := (Below.refl _ _).alloc (Nat.le_refl _) _
  exact ⟨h.kept.trans (.of_below (O := fun k => OwnO u k ∨ OwnO u' k) hb) (Grows.refl _ _), (h.a.later hb h.kept.size).skip _ h2 h3, h.b.one h1 h.kept.size, h.ap, h.lt, fun v v' e1 e2 => by
    simp only [if_neg h1, if_neg h3] at e1 e2
    exact h.apv v v' e1 e2⟩
theorem kept_to {A B : Nat → Prop} (h : Kept A w w') (hs : ∀ k, A k → B k) : Kept B w w' := ⟨h.os, h.tape, h.output, h.size, fun k hk hn => h.block k hk (fun ha => hn (hs k ha))⟩
theorem TwoS.appA {v' : Value} (h : TwoS c kk u f t L tx tr c' kk' u' f' t' L' tx' tr' W xs w) (hq : RowQ c kk w' v' (L ++ [f])) (hk : Kept (OwnO u) w w') (hg : Grows (OwnO u) w (OwnO v')) (h2 : tx' ≠ tr) (h3 : tr' ≠ tr) :
    TwoS c kk u f t L tx tr c' kk' u' f' t' L' tx' tr' W (fun r => if r = tr then some v' else xs r) w' :=
  ⟨h.kept.trans (kept_to hk fun k h => .inl h) (Grows.refl _ _), RowS.app hq hg h.kept.size, (h.b.keep hk h.kept.size (fun k hk' => ⟨h.lt k (.inl hk'), fun h' => h.ap k hk' h'⟩)).skip _ h2 h3, h.ap, h.lt, fun v v2 e1 e2 k k1 k2 => by
    simp only [if_neg h3, if_true] at e1 e2
    injection e1 with e1
    subst e1
    obtain ⟨r2, g2⟩ := h.b.out e2
    have l2 := r2.lt k k2
    rcases hg k k1 with h4 | h4
    · rcases g2 k k2 with h5 | h5
      · exact h.ap k h4 h5
      · have := h.lt k (.inl h4); omega
    · omega⟩
theorem TwoS.appB {v' : Value} (h : TwoS c kk u f t L tx tr c' kk' u' f' t' L' tx' tr' W xs w) (hq : RowQ c' kk' w' v' (L' ++ [f'])) (hk : Kept (OwnO u') w w') (hg : Grows (OwnO u') w (OwnO v')) (h2 : tx ≠ tr') (h3 : tr ≠ tr') :
    TwoS c kk u f t L tx tr c' kk' u' f' t' L' tx' tr' W (fun r => if r = tr' then some v' else xs r) w' :=
  ⟨h.kept.trans (kept_to hk fun k h => .inr h) (Grows.refl _ _), (h.a.keep hk h.kept.size (fun k hk' => ⟨h.lt k (.inr hk'), fun h' => h.ap k h' hk'⟩)).skip _ h2 h3, RowS.app hq hg h.kept.size, h.ap, h.lt, fun v v2 e1 e2 k k1 k2 => by
    simp only [if_neg h3, if_true] at e1 e2
    injection e2 with e2
    subst e2
    obtain ⟨r2, g2⟩ := h.a.out e1
    have l2 := r2.lt k k1
    rcases hg k k2 with h4 | h4
    · rcases g2 k k1 with h5 | h5
      · exact h.ap k h5 h4
      · have := h.lt k (.inr h4); omega
    · omega⟩
end
/-! ### an append outside of the chain -/
section
variable {P : Program} {ops : Array Oper} {st : List Nat} {G : Nat → (Tmp → Option Value) → World → Prop} {sec : List Tmp} {Q : Act → Prop} {o : Oper} {rest : List Oper} {h : Act} {i : Nat}
theorem st_appF {α : Type} {c : α → List Value} {kk bytes : Nat} {T E : TypeId} {L M : List α} {ts tx tr : Tmp} {v : Value} (hT : FlatE P T E kk bytes) (hkk : ∀ a, (c a).length = kk) (hone : ∀ a, ∀ u ∈ c a, u.oneCell' = true)
    (hi : st.contains i = false) (hw : Region.wanted o (yielded ops h.tmps) = true) (ho : o.op = .call { callee := .builtin .append, args := #[.tmp ts, .tmp tx], argTypes := #[T, T] }) (hd : o.dst = some tr)
    (hs1 : sec.contains tr = true) (hs2 : sec.contains tx = true) (hs3 : sec.contains ts = false) (hl1 : ts ∈ o.looksAt ops) (hl2 : tx ∈ o.looksAt ops) (hv : h.tmps.getD ts undef = v)
    (hrd : ∀ j xs w x, G j xs w → xs tr = none → xs tx = some x → RowQ c kk w v L ∧ RdA c kk w x M) (hsz : L.length + M.length ≤ 1000000)
    (hG : ∀ j xs w v' w', G j xs w → RowQ c kk w' v' (L ++ M) → Kept (OwnO v) w w' → Grows (OwnO v) w (OwnO v') → G j (fun t => if t = tr then some v' else xs t) w')
    (hk : wpSt P ops st G sec Q (i + 1) rest (h.put o.dst undef)) : wpSt P ops st G sec Q i (o :: rest) h := by
  unfold wpSt
  rw [if_pos hw]
  refine ⟨undef, fun j xs a w hj hjk hb hfr hlk => ?_, hk⟩
  have hi' : i ∉ st := by simpa using hi
  have h1 := hlk ts hl1
  have h2 := hlk tx hl2
  have s1 : tr ∈ sec := by simpa using hs1
  rw [if_neg (by simpa using hs3), hv] at h1
  rw [if_pos (by simpa using hs2)] at h2
  obtain ⟨x, hx⟩ : ∃ x, a.tmps.getD tx undef = x := ⟨_, rfl⟩
  rw [hx] at h2
  obtain ⟨r1, r2⟩ := hrd j xs w _ hb (hfr tr hd s1) h2
  obtain ⟨v', w', hrun, q1, q2, q3⟩ := r1.run hT hkk (RowQ.src r2 hkk hone hT.1) hsz o.type
  have e1 : a.eval (.tmp ts) = v := h1
  have e2 : a.eval (.tmp tx) = x := hx
  rw [if_neg hi']
  simp [execOp, ho, resolve, invoke, builtin, e1, e2, hrun, Result.andThen, stUpon, hd]
  refine ⟨?_, .inl s1⟩
  have := hG j xs w v' w' hb q1 q2 q3
  unfold hidPut
  simp only
  rw [if_pos s1]
  exact this
end
end Go.Proofs.YtpgfifacfkllfaaDoor

namespace Go.Proofs.YtpgfifacfkllfaaDoor
open Go.RowKit
set_option linter.unusedVariables false

theorem wpList_clearK {P : Program} {w : World} {ops : Array Oper} {rest : List Oper} {o : Oper} {a : Act} {Q : Exit → Act → World → Prop} (hgd : o.guard = none) (x : Operand) (T E : TypeId)
    (ho : o.op = .call { callee := .builtin .clear, args := #[x], argTypes := #[T] }) (ht : P.underlying T = some (.slice E)) (z : Value) (hz : ∀ w, (zeroValue E).run P w = .ok z w) (zs : List Value) (hzs : (Builtin.zeroCells z.cells 1).toList = zs) (hone : ∀ u ∈ zs, u.oneCell' = true)
    (g i c : Nat) (hx : a.eval x = .slice (some ⟨g, i, none⟩) 1 c) (hc : ∀ j, j < zs.length → (w.cell? ⟨g, i + j, none⟩).isSome = true) (hf : ∀ j, j < zs.length → w.frozen? ⟨g, i + j, none⟩ = false)
    (h : wpList P ops Q rest (a.put o.dst (.tuple #[])) (w.setCells g i zs)) : wpList P ops Q (o :: rest) a w := by
  refine wpList_plain hgd fun K hK => ?_
  have hst := run_storeCells_cells (P := P) g i zs 0 w (by simpa using hc) (by simpa using hf) hone
  simp only [Nat.add_zero] at hst
  unfold Oper.wp
  simp [execOp, ho, resolve, invoke, builtin, hx, Builtin.clear_, run_underlying ht, hz, hzs, hst, Result.andThen]
  exact hK _ _ h
section
variable {α : Type} {c : α → List Value} {k : Nat} {w : World} {v : Value} {L M : List α}
theorem RowQ.head {a : α} (h : RowQ c k w v (a :: M)) : ∃ g o cap, v = .slice (some ⟨g, o, none⟩) (M.length + 1) cap ∧ M.length + 1 ≤ cap ∧ ∀ j, j < k → (w.cell? ⟨g, o + j, none⟩).isSome = true ∧ w.frozen? ⟨g, o + j, none⟩ = false := by
  rcases h with ⟨_, h⟩ | ⟨g, o, cap, hv, h1, h2, h3, h4, h5⟩
  · cases h
  · simp only [List.length_cons] at hv h1
    refine ⟨g, o, cap, hv, h1, fun j hj => h5 j ?_⟩
    exact Nat.lt_of_lt_of_le hj (Nat.le_mul_of_pos_left _ (by omega))
theorem RowQ.cut {a : α} {g o n cap : Nat} {zs : List Value} (h : RowQ c k w (.slice (some ⟨g, o, none⟩) n cap) (a :: M)) (hk : ∀ a, (c a).length = k) (hM : 1 ≤ M.length) (hz : zs.length = k) :
    RowQ c k (w.setCells g o zs) (.slice (some ⟨g, o + k, none⟩) M.length (cap - 1)) M := by
  rcases h with ⟨h, _⟩ | ⟨g', o', cap', hv, h1, h2, h3, h4, h5⟩
  · cases h
  · injection hv with hA hn hcap
    injection hA with hA
    injection hA with e1 e2
    subst e1 e2 hcap
    simp only [List.length_cons] at h1
    have hrow : rowG c (a :: M) = c a ++ rowG c M := by simp [rowG]
    refine .inr ⟨g, o + k, cap - 1, rfl, by omega, by omega, by rw [setCells_size]; exact h3, fun j u hu => ?_, fun j hj => ?_⟩
    · rw [World.cell?_setCells_out g _ _ _ _ (fun _ _ => .inr (by simp only; omega)), Nat.add_assoc]
      refine h4 (k + j) u ?_
      rw [hrow, List.getElem?_append_right (by rw [hk]; omega), hk, Nat.add_sub_cancel_left]
      exact hu
    · rw [World.cell?_setCells_out g _ _ _ _ (fun _ _ => .inr (by simp only; omega)), World.frozen?_setCells, Nat.add_assoc]
      refine h5 (k + j) ?_
      obtain ⟨m, rfl⟩ : ∃ m, cap = m + 1 := ⟨cap - 1, by omega⟩
      rw [Nat.add_sub_cancel] at hj
      rw [Nat.add_mul]; omega
theorem cut_kept {g o n cap n' o' cap' : Nat} {zs : List Value} : Kept (OwnO (.slice (some ⟨g, o, none⟩) n cap)) w (w.setCells g o zs) ∧ Grows (OwnO (.slice (some ⟨g, o, none⟩) n cap)) w (OwnO (.slice (some ⟨g, o', none⟩) n' cap')) := by
  obtain ⟨r1, r2, r3⟩ := setCells_rest w g o zs
  exact ⟨⟨r1, r2, r3, by rw [setCells_size]; exact Nat.le_refl _, fun i _ hn => setCells_heap _ _ _ _ (fun e => hn (by subst e; rfl))⟩, fun k hk => .inl hk⟩
end
end Go.Proofs.YtpgfifacfkllfaaDoor

namespace Go.Proofs.YtpgfifacfkllfaaDoor
open Go.RowKit
set_option linter.unusedVariables false

def fr0 : Fr := ⟨0, 0, 0, ByteArray.mk #[]⟩
def keyF (f : Fr) : Int := keyV f.i f.n f.l f.d.size
def keyAt (L : List Fr) (k : Nat) : Int := keyF (L.getD k fr0)
/-- of two the first one is ahead -/
def aheadB (L : List Fr) (i k : Nat) : Bool := decide (keyAt L k < 0) || decide (keyAt L i < keyAt L k) || (keyAt L i == keyAt L k && decide (i ≤ k))
def lsB (L : List Fr) (i y : Nat) : Bool := decide (0 ≤ keyAt L i) && (List.range y).all fun k => aheadB L i k
theorem lsB_succ (L : List Fr) (i y : Nat) : lsB L i (y + 1) = (lsB L i y && aheadB L i y) := by unfold lsB; rw [List.range_succ, List.all_append]; simp [Bool.and_assoc]
theorem lsB_more {L : List Fr} {i y : Nat} (h : lsB L i y = false) : ∀ n, y ≤ n → lsB L i n = false := by
  intro n hn
  unfold lsB at h ⊢
  rw [Bool.and_eq_false_iff] at h ⊢
  rcases h with h | h
  · exact .inl h
  · refine .inr ?_
    rw [List.all_eq_false] at h ⊢
    obtain ⟨k, hk, hq⟩ := h
    exact ⟨k, List.mem_range.2 (Nat.lt_of_lt_of_le (List.mem_range.1 hk) hn), hq⟩
def leastIx (L : List Fr) (x : Nat) : Option Nat := (List.range x).find? fun i => lsB L i L.length
theorem leastIx_succ {L : List Fr} {x : Nat} (h : leastIx L x = none) : leastIx L (x + 1) = if lsB L x L.length then some x else none := by
  unfold leastIx at h ⊢
  rw [List.range_succ, List.find?_append, h]
  simp only [List.find?_cons, List.find?_nil, Option.none_or]
  split <;> simp_all
theorem leastIx_found {L : List Fr} {x : Nat} (h : leastIx L x = none) (hl : lsB L x L.length = true) : ∀ n, x < n → leastIx L n = some x := by
  intro n
  induction n with
  | zero => intro hx; omega
  | succ n ih =>
    intro hx
    by_cases e : x = n
    · subst e; rw [leastIx_succ h, if_pos hl]
    · have := ih (by omega)
      unfold leastIx at this ⊢
      rw [List.range_succ, List.find?_append, this]
      rfl
def leastPost (o : Option Nat) (w : World) (e : Ending) (w' : World) : Prop :=
  (match o with | some i => e = .returned (.tuple #[.int .i64 i, .bool true]) | none => e = .returned (.tuple #[.int .i64 0, .bool false])) ∧ Below w.heap.size w w'
theorem leastPost_y {o : Option Nat} {i : Nat} {w w' : World} (h : o = some i) (hb : Below w.heap.size w w') : leastPost o w (.returned (.tuple #[.int .i64 i, .bool true])) w' := by subst h; exact ⟨rfl, hb⟩
theorem leastPost_n {o : Option Nat} {w w' : World} (h : o = none) (hb : Below w.heap.size w w') : leastPost o w (.returned (.tuple #[.int .i64 0, .bool false])) w' := by subst h; exact ⟨rfl, hb⟩
theorem keyAt_get {L : List Fr} {k : Nat} (h : k < L.length) : keyAt L k = keyV (L[k]).i (L[k]).n (L[k]).l (L[k]).d.size := by unfold keyAt keyF; rw [List.getD_eq_getElem?_getD, List.getElem?_eq_getElem h]; rfl

def ATab (w : World) : Prop := Tabs w
theorem ATab.below {w w' : World} (h : ATab w) (hb : Below w.heap.size w w') : ATab w' := Tabs.below h hb
theorem fret_of {u v : Value} (h : u = v) : Ending.returned u = .returned v := by rw [h]

theorem keyV_cases (i n l : Int) (sz : Nat) : ((okF i n l sz && !fX n) = true ∧ keyV i n l sz = keyN i n) ∨ ((okF i n l sz && !fX n) = false ∧ keyV i n l sz = -1) := by
  unfold keyV
  cases h : (okF i n l sz && !fX n)
  · exact .inr ⟨rfl, rfl⟩
  · exact .inl ⟨rfl, rfl⟩

theorem key_bd (f : Fr) : keyF f < 8589934592 := by
  unfold keyF
  rcases keyV_cases f.i f.n f.l f.d.size with ⟨h, e⟩ | ⟨h, e⟩
  · rw [e]
    simp only [Bool.and_eq_true, Bool.not_eq_true'] at h
    have g := good h.1
    have h1 := g.top
    have h0 := g.i0
    have b1 : b01 (fR f.n) = 0 ∨ b01 (fR f.n) = 1 := by cases fR f.n <;> simp [b01]
    have b2 : b01 (fD f.n) = 0 ∨ b01 (fD f.n) = 1 := by cases fD f.n <;> simp [b01]
    unfold keyN
    cases hE : fE f.n
    · have h2 := g.i1
      rw [topN_v hE h.2] at h2
      simp at h2
      simp only [Bool.false_eq_true, if_false]
      omega
    · simp only [if_true]
      omega
  · rw [e]; decide
theorem wf_n {n : Int} (h : (Lit.int .i64 n).wf = true) : -9223372036854775808 ≤ n ∧ n ≤ 9223372036854775807 := by
  simp [Lit.wf, IntKind.min, IntKind.max, IntKind.signed, IntKind.bits] at h
  omega
def Best (L : List Fr) (k : Nat) (i least : Int) : Prop := (i = 0 ∧ least = -1 ∧ ∀ j < k, keyAt L j < 0) ∨ (∃ m : Nat, m < k ∧ i = m ∧ least = keyAt L m ∧ lsB L m k = true)
theorem lsB_iff {L : List Fr} {i y : Nat} : lsB L i y = true ↔ 0 ≤ keyAt L i ∧ ∀ j < y, keyAt L j < 0 ∨ keyAt L i < keyAt L j ∨ (keyAt L i = keyAt L j ∧ i ≤ j) := by
  unfold lsB aheadB
  rw [Bool.and_eq_true, decide_eq_true_eq, List.all_eq_true]
  constructor
  · rintro ⟨h0, h⟩
    refine ⟨h0, fun j hj => ?_⟩
    have := h j (List.mem_range.2 hj)
    simpa [or_assoc] using this
  · rintro ⟨h0, h⟩
    refine ⟨h0, fun j hj => ?_⟩
    have := h j (List.mem_range.1 hj)
    simpa [or_assoc] using this
theorem Best.zero (L : List Fr) : Best L 0 0 (-1) := .inl ⟨rfl, rfl, fun j hj => by omega⟩
theorem Best.rng {L : List Fr} {k : Nat} {i least : Int} (h : Best L k i least) (hk : k ≤ 9223372036854775807) : -1 ≤ least ∧ least < 8589934592 := by
  rcases h with ⟨_, rfl, _⟩ | ⟨m, _, _, rfl, hl⟩
  · decide
  · have := (lsB_iff.1 hl).1
    have := key_bd (L.getD m fr0)
    unfold keyAt at *
    omega
theorem Best.turn {L : List Fr} {k : Nat} {i least : Int} (h : Best L k i least) (h0 : 0 ≤ keyAt L k) (hl : least < 0 ∨ keyAt L k < least) : Best L (k + 1) k (keyAt L k) := by
  refine .inr ⟨k, by omega, rfl, rfl, lsB_iff.2 ⟨h0, fun j hj => ?_⟩⟩
  by_cases e : j = k
  · subst e; right; right; exact ⟨rfl, Nat.le_refl _⟩
  · rcases h with ⟨_, rfl, hn⟩ | ⟨m, hm, _, rfl, hl2⟩
    · left; exact hn j (by omega)
    · have hm2 := lsB_iff.1 hl2
      have := hm2.2 j (by omega)
      omega
theorem Best.keep {L : List Fr} {k : Nat} {i least : Int} (h : Best L k i least) (h0 : keyAt L k < 0 ∨ (0 ≤ least ∧ least ≤ keyAt L k)) : Best L (k + 1) i least := by
  rcases h with ⟨rfl, rfl, hn⟩ | ⟨m, hm, rfl, rfl, hl⟩
  · refine .inl ⟨rfl, rfl, fun j hj => ?_⟩
    by_cases e : j = k
    · subst e; omega
    · exact hn j (by omega)
  · refine .inr ⟨m, by omega, rfl, rfl, ?_⟩
    have hm2 := lsB_iff.1 hl
    refine lsB_iff.2 ⟨hm2.1, fun j hj => ?_⟩
    by_cases e : j = k
    · subst e; omega
    · exact hm2.2 j (by omega)
theorem least_first {L : List Fr} : ∀ x, (∀ j < x, lsB L j L.length = false) → leastIx L x = none := by
  intro x h
  unfold leastIx
  rw [List.find?_eq_none]
  intro j hj
  rw [h j (List.mem_range.1 hj)]
  decide
theorem Best.done {L : List Fr} {i least : Int} (h : Best L L.length i least) {w w' : World} (hb : Below w.heap.size w w') {b : Bool} (he : decide (0 ≤ least) = b) :
    leastPost (leastIx L L.length) w (.returned (.tuple #[.int .i64 i, .bool b])) w' := by
  rcases h with ⟨rfl, rfl, hn⟩ | ⟨m, hm, rfl, rfl, hl⟩
  · have e : leastIx L L.length = none := least_first _ fun j hj => by
      cases hq : lsB L j L.length
      · rfl
      · have := (lsB_iff.1 hq).1
        have := hn j hj
        omega
    subst he
    exact leastPost_n e hb
  · have hm2 := lsB_iff.1 hl
    have e : leastIx L m = none := least_first _ fun j hj => by
      cases hq : lsB L j L.length
      · rfl
      · have h3 := lsB_iff.1 hq
        have h4 := h3.2 m hm
        have h5 := hm2.2 j (by omega)
        omega
    have e2 := leastIx_found e hl L.length hm
    rw [decide_eq_true hm2.1] at he
    subst he
    exact leastPost_y e2 hb

set_option maxHeartbeats 2000000 in
theorem kaleast_n {v : Value} {L : List Fr} (w : World) (hv : SlF w w.heap.size v L) (hf : ∀ f ∈ L, (Lit.int .i64 f.n).wf = true) (hT : ATab w) :
    Calls Tryd.prog 36 #[v] w (leastPost (leastIx L L.length) w) := by
  have HV := Lib.hid hv
  have HX := Lib.hid hf
  have HT := Lib.hid hT
  obtain ⟨A, cap, rfl, hlen, _⟩ := hv
  unfold maxLen at hlen
  clear hf hT
  go_enter Tryd.func36, Tryd.ntmps36
  go_wp2
  go_loopw [4, 5, 11] (fun a b i wr => ∃ k : Nat, ∃ x y : Int, k ≤ L.length ∧ i = .int .i64 k ∧ a = .int .i64 x ∧ b = .int .i64 y ∧ Hid (Best L k x y ∧ Below w.heap.size w wr)) (fun _ _ i _ => L.length - (intOf i).toNat)
  case atStart => exact ⟨0, 0, -1, Nat.zero_le _, rfl, rfl, rfl, Lib.hid ⟨Best.zero L, Below.refl _ _⟩⟩
  case round =>
    obtain ⟨k, x, y, hk, rfl, rfl, rfl, HI⟩ := hrel
    have hy := HI.out.1.rng (by omega)
    by_cases hlt : k < L.length
    · have HVr := Lib.hid (HV.out.later HI.out.2)
      obtain ⟨p, c1, hv1, hpb, hf⟩ := SlF.facts HVr.out hlt
      injection hv1 with hA _ hcap
      subst hA
      subst hcap
      obtain ⟨a0, a1, a2, a3⟩ := hf ⟨wr, Below.refl _ _⟩
      obtain ⟨kx, hkx⟩ : ∃ kx, keyAt L k = kx := ⟨_, rfl⟩
      have HKX : Hid (keyV (L[k]).i (L[k]).n (L[k]).l (L[k]).d.size = kx) := Lib.hid (by rw [← hkx, keyAt_get hlt])
      have HN := Lib.hid (wf_n (HX.out _ (List.getElem_mem hlt)))
      have HTU := Lib.hid (HI.out.1.turn (k := k))
      have HKE := Lib.hid (HI.out.1.keep (k := k))
      rw [hkx] at HTU HKE
      simp only at a0 a1 a2 a3
      clear hf hkx
      generalize L[k] = f at a0 a1 a2 a3 HKX HN
      have HF := Lib.hid (BoxF.made wr f.i f.n f.l f.d)
      have HB1 := Lib.hid (fbelow_t HI.out.2 ((Below.refl wr.heap.size wr).alloc (Nat.le_refl _) (.cells #[.int .i64 f.i, .int .i64 f.n, .int .i64 f.l, .string f.d] 30)))
      obtain ⟨d0, d1, d2, d3⟩ := HF.out.cells
      go_wp2_with fail
      refine (key_v HKX.out _ (HT.out.below HB1.out) HN.out.1 HN.out.2).mono ?_
      rintro e w1 ⟨rfl, hb1⟩
      have HB2 := Lib.hid (fbelow_t HB1.out hb1)
      clear hb1 a0 a1 a2 a3 d0 d1 d2 d3
      by_cases h0 : 0 ≤ kx
      · by_cases hn : y < 0
        · have HR := Lib.hid (HTU.out h0 (.inl hn))
          go_wp2
          go_roundw
          case rel => exact ⟨k + 1, k, kx, by omega, by go_num, rfl, rfl, Lib.hid ⟨HR.out, HB2.out⟩⟩
          case measure => simp [intOf]; omega
        · by_cases hl : kx < y
          · have HR := Lib.hid (HTU.out h0 (.inr hl))
            go_wp2
            go_roundw
            case rel => exact ⟨k + 1, k, kx, by omega, by go_num, rfl, rfl, Lib.hid ⟨HR.out, HB2.out⟩⟩
            case measure => simp [intOf]; omega
          · have HR := Lib.hid (HKE.out (.inr ⟨by omega, by omega⟩))
            go_wp2
            go_roundw
            case rel => exact ⟨k + 1, x, y, by omega, by go_num, rfl, rfl, Lib.hid ⟨HR.out, HB2.out⟩⟩
            case measure => simp [intOf]; omega
      · have HR := Lib.hid (HKE.out (.inl (by omega)))
        go_wp2
        go_roundw
        case rel => exact ⟨k + 1, x, y, by omega, by go_num, rfl, rfl, Lib.hid ⟨HR.out, HB2.out⟩⟩
        case measure => simp [intOf]; omega
    · obtain rfl : k = L.length := by omega
      obtain ⟨b, hb⟩ : ∃ b, decide (0 ≤ y) = b := ⟨_, rfl⟩
      have HD := Lib.hid (HI.out.1.done HI.out.2 hb)
      go_wp2
      go_ret2
      exact HD.out
theorem kaleast_v {v : Value} {L : List Fr} (w : World) (hv : SlF w w.heap.size v L) (hf : ∀ f ∈ L, f.fits) (hT : ATab w) :
    Calls Tryd.prog 36 #[v] w (leastPost (leastIx L L.length) w) := kaleast_n w hv (fun f h => (hf f h).2.1) hT
end Go.Proofs.YtpgfifacfkllfaaDoor
