/- Of no program: a map from int to whatever values, by ownsMap with the values themselves as the elements' data: looked up, stored into, struck from. Of no program: a map whose keys stand below a bound; a map that is cleared. Conf: what is known of a node; contracts of the document's Right, State, Do. Conf: the contract of the document's Do. Of no program: rows of whole numbers, of texts: read, gathered by append. Of no program: a row of the call's own as an object: what it owns is its block; appended to, all others stay. -/
import Derived.Maps.OwnSet
import Derived.Test.YtpljlpfoalcfmaaZad
import Derived.Test.YtpljlpfoalcfmaaZaa
import Derived.Test.YtpljlpfoalcfmaaZac
import Derived.Lib.Hide
import Derived.OwnWalk
import Derived.Maps.AppendAt
import Derived.Laws.AppendOwnNone
namespace Go.Proofs.Ytpljlpfoalcfmaa
open Go.RowKit
open Go.Maps (Keyed IsMap Tidy)
set_option linter.unusedVariables false

def heldR (v : Value) : Option (DataW Value × List MemPlace) := some (.held v, [])
/-- what stands at the key i is u (z, where nothing stands) -/
def AtM (z : Value) (D : DataW Value) (i : Int) (u : Value) : Prop := D.atKey (.int .i64 i) (.held z) = .held u
/-- block b is a map that reads as D -/
def MapH (P : Program) (k : TypeId) (w : World) (b : Nat) (D : DataW Value) : Prop := w.ownsMap P k heldR b (Maps.size D) D
/-- the keys that are there are from 0 to 31 -/
def cntM (D : DataW Value) : Nat := (List.range 32).countP fun i : Nat => Maps.has D (.int .i64 (i : Int))
def SzM (D : DataW Value) : Prop := Maps.size D ≤ cntM D
theorem SzM.le {D : DataW Value} (h : SzM D) : Maps.size D ≤ 32 := Nat.le_trans h (by unfold cntM; exact Nat.le_trans List.countP_le_length (by simp))
theorem keyLit (i : Int) : WideAt.IsKeyLit (.int .i64 i) := trivial
theorem AtM.inj {z u u' : Value} {D : DataW Value} {i : Int} (h : AtM z D i u) (h' : AtM z D i u') : u = u' := by
  unfold AtM at h h'
  rw [h] at h'
  injection h'
theorem litInt_inj {i j : Int} (h : Lit.int .i64 i = Lit.int .i64 j) : i = j := by injection h
theorem countP_turn {p q : Nat → Bool} (i : Nat) : ∀ n, (∀ j, j ≠ i → q j = p j) → (i < n → p i = false → q i = true → (List.range n).countP q = (List.range n).countP p + 1) ∧ (n ≤ i ∨ q i = p i → (List.range n).countP q = (List.range n).countP p)
  | 0, _ => ⟨fun h => by omega, fun _ => rfl⟩
  | n + 1, h => by
    obtain ⟨h1, h2⟩ := countP_turn i n h
    rw [List.range_succ, List.countP_append, List.countP_append]
    simp only [List.countP_cons, List.countP_nil]
    constructor
    · intro hi hp hq
      by_cases e : n = i
      · subst e
        rw [h2 (.inl (Nat.le_refl _)), hp, hq]; simp
      · rw [h1 (by omega) hp hq, h n e]; omega
    · intro hi
      by_cases e : n = i
      · subst e
        rcases hi with hi | hi
        · omega
        · rw [h2 (.inl (Nat.le_refl _)), hi]
      · rw [h2 (by rcases hi with hi | hi; exact .inl (by omega); exact .inr hi), h n e]
theorem SzM.put {D : DataW Value} (h : SzM D) (hD : Tidy D) {i : Nat} (hi : i < 32) (u : DataW Value) : SzM (D.put (.int .i64 i) u) := by
  have hs := Maps.size_put hD (k := .int .i64 (i : Int)) u
  have hc := countP_turn (p := fun j : Nat => Maps.has D (.int .i64 (j : Int))) (q := fun j : Nat => Maps.has (D.put (.int .i64 (i : Int)) u) (.int .i64 (j : Int))) i 32 (fun j hj => Maps.has_put_other (fun e => hj (by have := litInt_inj e; omega)) u)
  have hq : Maps.has (D.put (.int .i64 (i : Int)) u) (.int .i64 (i : Int)) = true := Maps.has_put_same hD.isMap (keyLit _) u
  unfold SzM cntM at *
  rw [hs]
  cases hp : Maps.has D (.int .i64 (i : Int))
  · rw [hc.1 hi hp hq]; simp; omega
  · rw [hc.2 (.inr (hq.trans hp.symm))]; simp; omega
theorem SzM.del {D : DataW Value} (h : SzM D) (hD : Tidy D) (i : Nat) (hi : i < 32) : SzM (D.del (.int .i64 i)) := by
  have hs := Maps.size_del (k := .int .i64 (i : Int)) hD
  have hc := countP_turn (q := fun j : Nat => Maps.has D (.int .i64 (j : Int))) (p := fun j : Nat => Maps.has (D.del (.int .i64 (i : Int))) (.int .i64 (j : Int))) i 32 (fun j hj => (Maps.has_del_other (fun e => hj (by have := litInt_inj e; omega))).symm)
  have hq : Maps.has (D.del (.int .i64 (i : Int))) (.int .i64 (i : Int)) = false := Maps.has_del_same
  unfold SzM cntM at *
  cases hp : Maps.has D (.int .i64 (i : Int))
  · rw [hp] at hs
    have := hc.2 (.inr (hp.trans hq.symm))
    simp at hs; omega
  · rw [hp] at hs
    have := hc.1 hi hq hp
    simp at hs; omega
theorem AtM.put_same {D : DataW Value} (hD : Tidy D) (z v : Value) (i : Int) : AtM z (D.put (.int .i64 i) (.held v)) i v := Maps.atKey_put_same hD.isMap (keyLit _) _ _
theorem AtM.put_other {D : DataW Value} {z u : Value} {i j : Int} (h : AtM z D j u) (hne : j ≠ i) (d : DataW Value) : AtM z (D.put (.int .i64 i) d) j u := (Maps.atKey_put_other (fun e => hne (litInt_inj e)) d _).trans h
theorem AtM.del_same (D : DataW Value) (z : Value) (i : Int) : AtM z (D.del (.int .i64 i)) i z := Maps.atKey_del_same _
theorem AtM.del_other {D : DataW Value} {z u : Value} {i j : Int} (h : AtM z D j u) (hne : j ≠ i) : AtM z (D.del (.int .i64 i)) j u := (Maps.atKey_del_other (fun e => hne (litInt_inj e)) _).trans h
theorem AtM.empty (z : Value) (i : Int) : AtM z (.map []) i z := rfl
theorem SzM.empty : SzM (.map []) := Nat.zero_le _
theorem Kept.of_turned {w w' : World} {b : Nat} (h : w.mapTurned w' b) : Kept (fun k => k = b) w w' := by
  obtain ⟨es, clock, es', clock', hb, rfl⟩ := h
  exact ⟨rfl, rfl, rfl, by simp [ChangeMaps.setBlock], fun k _ hk => ChangeMaps.heap_setBlock_other hb _ hk⟩
section
variable {P : Program} {k : TypeId} {w w' : World} {b : Nat} {D : DataW Value}
theorem ownsMap_tight {R : Value → Option (DataW Value × List MemPlace)} {n : Nat} (h : w.ownsMap P k R b n D) : w.ownsMap P k R b (Maps.size D) D := by
  obtain ⟨es, clock, hb, F, hs, rfl⟩ := h
  exact ⟨es, clock, hb, F, by simp [Maps.size, length_sorted], rfl⟩
theorem MapH.made (w : World) (P : Program) (k : TypeId) : MapH P k (w.alloc (.map #[] 0)) w.heap.size (.map []) := World.ownsMap_made w P k heldR
theorem MapH.stay (h : MapH P k w b D) (hs : w'.heap[b]? = w.heap[b]?) : MapH P k w' b D := by
  obtain ⟨es, clock, hb, r⟩ := h
  exact ⟨es, clock, hs.trans hb, r⟩
theorem MapH.lt (h : MapH P k w b D) : b < w.heap.size := World.ownsMap.lt h
theorem MapH.tidy (h : MapH P k w b D) (K : Keyed P k) : Tidy D := World.ownsMap.tidy h K
theorem MapH.look {t e : TypeId} {z u : Value} {i : Int} (h : MapH P k w b D) (K : Keyed P k) (ht : P.underlying t = some (.map k e)) (hz : (zeroValue e).run P w = .ok z w) (hkey : keyOf P k (.int .i64 i) = some (.int .i64 i)) (hu : AtM z D i u) :
    (Instr.lookup t (.map (some b)) (.int .i64 i) false).run P w = .ok u w := by
  obtain ⟨v, ps, hrun, hv⟩ := World.ownsMap.lookup h K ht hz (zd := .held z) (zp := []) rfl hkey
  unfold heldR at hv
  rw [show D.atKey (.int .i64 i) (.held z) = .held u from hu] at hv
  simp only [Option.some.injEq, Prod.mk.injEq, DataW.held.injEq] at hv
  rw [hrun, hv.1]
theorem MapH.store {t e : TypeId} {i : Int} (h : MapH P k w b D) (K : Keyed P k) (ht : P.underlying t = some (.map k e)) (hn : Maps.size D < maxLen) (hkey : keyOf P k (.int .i64 i) = some (.int .i64 i)) (v : Value) :
    ∃ w', (Instr.mapUpdate t (.map (some b)) (.int .i64 i) v).run P w = .ok () w' ∧ MapH P k w' b (D.put (.int .i64 i) (.held v)) ∧ w.mapTurned w' b := by
  obtain ⟨w', hrun, h1, h2⟩ := World.ownsMap.store h K ht hn hkey (val := v) (d := .held v) (ps := []) rfl
  exact ⟨w', hrun, ownsMap_tight h1, h2⟩
theorem MapH.drop {t e : TypeId} {i : Int} (h : MapH P k w b D) (K : Keyed P k) (ht : P.underlying t = some (.map k e)) (hkey : keyOf P k (.int .i64 i) = some (.int .i64 i)) (ty : TypeId) :
    ∃ w', (Builtin.delete_ #[t, k] ty #[.map (some b), .int .i64 i]).run P w = .ok (.tuple #[]) w' ∧ MapH P k w' b (D.del (.int .i64 i)) ∧ w.mapTurned w' b := by
  obtain ⟨w', hrun, h1, h2⟩ := World.ownsMap.drop h K ht hkey ty
  exact ⟨w', hrun, ownsMap_tight h1, h2⟩
end

/-! ### at the operation -/
section
variable {P : Program} (w : World) {ops : Array Oper} {rest : List Oper} {o : Oper} {a : Act} {Q : Exit → Act → World → Prop} {k e t : TypeId} {b : Nat} {D : DataW Value}
theorem wpList_storeH (hg : o.guard = none) (m x v : Operand) (hop : o.op = Op.mapUpdate t m x v) (K : Keyed P k) (ht : P.underlying t = some (.map k e)) (i : Int) (val : Value)
    (hm : a.eval m = .map (some b)) (h : MapH P k w b D) (hn : Maps.size D < maxLen) (hx : a.eval x = .int .i64 i) (hv : a.eval v = val) (hkey : keyOf P k (.int .i64 i) = some (.int .i64 i))
    (hK : ∀ w', MapH P k w' b (D.put (.int .i64 i) (.held val)) → w.mapTurned w' b → wpList P ops Q rest (a.put o.dst undef) w') : wpList P ops Q (o :: rest) a w := by
  refine wpList_plain hg fun K' hK' => ?_
  obtain ⟨w', hrun, r1, r2⟩ := h.store K ht hn hkey val
  unfold Oper.wp
  simp [execOp, hop, hm, hx, hv, hrun, Result.andThen]
  exact hK' _ _ (hK w' r1 r2)
theorem wpList_dropH (hg : o.guard = none) (m x : Operand) (hop : o.op = Op.call { callee := Callee.builtin Builtin.delete, args := #[m, x], argTypes := #[t, k] }) (K : Keyed P k) (ht : P.underlying t = some (.map k e)) (i : Int)
    (hm : a.eval m = .map (some b)) (h : MapH P k w b D) (hx : a.eval x = .int .i64 i) (hkey : keyOf P k (.int .i64 i) = some (.int .i64 i))
    (hK : ∀ w', MapH P k w' b (D.del (.int .i64 i)) → w.mapTurned w' b → wpList P ops Q rest (a.put o.dst (.tuple #[])) w') : wpList P ops Q (o :: rest) a w := by
  refine wpList_plain hg fun K' hK' => ?_
  obtain ⟨w', hrun, r1, r2⟩ := h.drop K ht hkey o.type
  unfold Oper.wp
  simp [execOp, hop, resolve, invoke, builtin, hm, hx, hrun, Result.andThen]
  exact hK' _ _ (hK w' r1 r2)
/-- a look-up in a region that draws, walked once -/
theorem st_look {st : List Nat} {G : Nat → (Tmp → Option Value) → World → Prop} {sec : List Tmp} {Q : Act → Prop} {h : Act} {n : Nat} (m x : Operand) (u : Value) (hi : st.contains n = false) (hw : Region.wanted o (yielded ops h.tmps) = true) (hl : secOpenL ops sec o = true) (hd : secOpenD sec o = true)
    (ho : o.op = Op.lookup t m x false) (mv xv : Value) (hm : h.eval m = mv) (hx : h.eval x = xv) (hrun : ∀ j xs w, G j xs w → (Instr.lookup t mv xv false).run P w = .ok u w)
    (hk : wpSt P ops st G sec Q (n + 1) rest (h.put o.dst u)) : wpSt P ops st G sec Q n (o :: rest) h := by
  unfold wpSt
  rw [if_pos hw]
  refine ⟨u, fun j xs a w hj hjk hb hfr hlk => ?_, hk⟩
  have hi' : n ∉ st := by simpa using hi
  have e : (execOp h.eval o).run P w = .ok (.value u) w := by simp [execOp, ho, hm, hx, hrun j xs w hb, Result.andThen]
  rw [if_neg hi', eval_open hl (fun cs b => by rw [ho]; simp) (stLooks_open hl hlk w), e]
  simp only [hidPut_open hd, stUpon]
  exact ⟨hb, stGood_open _ rfl⟩
end
end Go.Proofs.Ytpljlpfoalcfmaa

namespace Go.Proofs.Ytpljlpfoalcfmaa
open Go.RowKit
open Go.Maps (Keyed IsMap Tidy)
set_option linter.unusedVariables false

/-- the keys that are there are from 0 on, below n -/
def cntN (n : Nat) (D : DataW Value) : Nat := (List.range n).countP fun i : Nat => Maps.has D (.int .i64 (i : Int))
def SzN (n : Nat) (D : DataW Value) : Prop := Maps.size D ≤ cntN n D
section
variable {n : Nat} {D : DataW Value}
theorem SzN.le (h : SzN n D) : Maps.size D ≤ n := Nat.le_trans h (by unfold cntN; exact Nat.le_trans List.countP_le_length (by simp))
theorem SzN.put (h : SzN n D) (hD : Tidy D) {i : Nat} (hi : i < n) (u : DataW Value) : SzN n (D.put (.int .i64 i) u) := by
  have hs := Maps.size_put hD (k := .int .i64 (i : Int)) u
  have hc := countP_turn (p := fun j : Nat => Maps.has D (.int .i64 (j : Int))) (q := fun j : Nat => Maps.has (D.put (.int .i64 (i : Int)) u) (.int .i64 (j : Int))) i n (fun j hj => Maps.has_put_other (fun e => hj (by have := litInt_inj e; omega)) u)
  have hq : Maps.has (D.put (.int .i64 (i : Int)) u) (.int .i64 (i : Int)) = true := Maps.has_put_same hD.isMap (keyLit _) u
  unfold SzN cntN at *
  rw [hs]
  cases hp : Maps.has D (.int .i64 (i : Int))
  · rw [hc.1 hi hp hq]; simp; omega
  · rw [hc.2 (.inr (hq.trans hp.symm))]; simp; omega
theorem SzN.del (h : SzN n D) (hD : Tidy D) (i : Nat) (hi : i < n) : SzN n (D.del (.int .i64 i)) := by
  have hs := Maps.size_del (k := .int .i64 (i : Int)) hD
  have hc := countP_turn (q := fun j : Nat => Maps.has D (.int .i64 (j : Int))) (p := fun j : Nat => Maps.has (D.del (.int .i64 (i : Int))) (.int .i64 (j : Int))) i n (fun j hj => (Maps.has_del_other (fun e => hj (by have := litInt_inj e; omega))).symm)
  have hq : Maps.has (D.del (.int .i64 (i : Int))) (.int .i64 (i : Int)) = false := Maps.has_del_same
  unfold SzN cntN at *
  cases hp : Maps.has D (.int .i64 (i : Int))
  · rw [hp] at hs
    have := hc.2 (.inr (hp.trans hq.symm))
    simp at hs; omega
  · rw [hp] at hs
    have := hc.1 hi hq hp
    simp at hs; omega
theorem SzN.empty (n : Nat) : SzN n (.map []) := Nat.zero_le _
end
section
variable {P : Program} {k : TypeId} {w : World} {b : Nat} {D : DataW Value}
/-- 'clear(m)' -/
theorem MapH.clear {t e : TypeId} (h : MapH P k w b D) (ht : P.underlying t = some (.map k e)) (ty : TypeId) :
    ∃ w', (Builtin.clear_ #[t] ty #[.map (some b)]).run P w = .ok (.tuple #[]) w' ∧ MapH P k w' b (.map []) ∧ w.mapTurned w' b := by
  obtain ⟨es, clock, hb, F, hs, _⟩ := h
  refine ⟨ChangeMaps.setBlock w b (.map #[] clock), ?_, ⟨#[], clock, ChangeMaps.heap_setBlock_same hb _, ?_, ?_, rfl⟩, ⟨es, clock, #[], clock, hb, rfl⟩⟩
  · simp [Builtin.clear_, run_underlying ht, MapKept.run_getObj_map hb, MapKept.run_setObj_map _ hb, Result.andThen]
    rfl
  · exact ⟨by simp, MapKept.stamped_empty clock, by simp⟩
  · exact Nat.zero_le _
end
section
variable {P : Program} (w : World) {ops : Array Oper} {rest : List Oper} {o : Oper} {a : Act} {Q : Exit → Act → World → Prop} {k e t : TypeId} {b : Nat} {D : DataW Value}
theorem wpList_clearH (hg : o.guard = none) (m : Operand) (hop : o.op = Op.call { callee := Callee.builtin Builtin.clear, args := #[m], argTypes := #[t] }) (ht : P.underlying t = some (.map k e))
    (hm : a.eval m = .map (some b)) (h : MapH P k w b D)
    (hK : ∀ w', MapH P k w' b (.map []) → w.mapTurned w' b → wpList P ops Q rest (a.put o.dst (.tuple #[])) w') : wpList P ops Q (o :: rest) a w := by
  refine wpList_plain hg fun K' hK' => ?_
  obtain ⟨w', hrun, r1, r2⟩ := h.clear ht o.type
  unfold Oper.wp
  simp [execOp, hop, resolve, invoke, builtin, hm, hrun, Result.andThen]
  exact hK' _ _ (hK w' r1 r2)
end
end Go.Proofs.Ytpljlpfoalcfmaa

namespace Go.Proofs.Ytpljlpfoalcfmaa
open Go.RowKit
set_option linter.unusedVariables false

structure Cf where
  t : Int
  r : Int
  o : Bool
  d : Int
def Cf.ok (c : Cf) : Bool := decide (0 ≤ c.t) && decide (c.t ≤ 263) && decide (0 ≤ c.r) && decide (c.r ≤ 135) && decide (0 ≤ c.d) && (if c.o then decide (255 < c.t) else decide (c.t ≤ 255) && decide (c.d = 0))
def Cf.state (c : Cf) : Int := if c.ok then (if c.o then 3 else if 127 < c.t ∨ 127 < c.r then 2 else if 95 < c.t ∨ 95 < c.r then 1 else 0) else -1
abbrev cfV (c : Cf) : Value := .agg #[.int .i64 c.t, .int .i64 c.r, .bool c.o, .int .i64 c.d]

end Go.Proofs.Ytpljlpfoalcfmaa

namespace Go.Proofs.Ytpljlpfoalcfmaa
open Go.RowKit
set_option linter.unusedVariables false

def Cf.sent (c : Cf) : Cf := if 0 < c.t then ⟨c.t - 1, c.r, c.o, c.d⟩ else c
def Cf.heard (c : Cf) : Cf := if 127 < c.r then ⟨c.t, 119, c.o, c.d⟩ else if 0 < c.r then ⟨c.t, c.r - 1, c.o, c.d⟩ else c
def Cf.failed (c : Cf) : Cf := ⟨c.t + 8, c.r, c.o || decide (255 < c.t + 8), c.d⟩
def Cf.missed (c : Cf) : Cf := ⟨c.t, min (if c.state = 2 then c.r + 1 else c.r + 8) 135, c.o, c.d⟩
def Cf.idle (c : Cf) (back : Int) : Cf := if (if back < 1 then 1 else back) - 1 ≤ c.d then ⟨0, 0, false, 0⟩ else ⟨c.t, c.r, c.o, c.d + 1⟩
/-- what is known of a node behind whatever happens -/
def Cf.do_ (c : Cf) (what back : Int) : Cf :=
  if c.ok = false then c else if c.o then (if what = 4 then c.idle back else c)
  else if what = 0 then c.sent else if what = 1 then c.heard else if what = 2 then c.failed else if what = 3 then c.missed else c

theorem cfV_eq {a b c : Int} {o : Bool} {x : Cf} (h : (⟨a, b, o, c⟩ : Cf) = x) : Ending.returned (.agg #[.int .i64 a, .int .i64 b, .bool o, .int .i64 c]) = .returned (cfV x) := by subst h; rfl
theorem cf_done {w w1 : World} (h : Below w.heap.size w w1) (a b c e : Value) : Below w.heap.size w ((((w1.setCell ⟨w.heap.size + 1, 0, none⟩ a).setCell ⟨w.heap.size + 1, 1, none⟩ b).setCell ⟨w.heap.size + 1, 2, none⟩ c).setCell ⟨w.heap.size + 1, 3, none⟩ e) :=
  ((((h.setCell (p := ⟨w.heap.size + 1, 0, none⟩) (Nat.le_succ _) _).setCell (p := ⟨w.heap.size + 1, 1, none⟩) (Nat.le_succ _) _).setCell (p := ⟨w.heap.size + 1, 2, none⟩) (Nat.le_succ _) _).setCell (p := ⟨w.heap.size + 1, 3, none⟩) (Nat.le_succ _) _)

end Go.Proofs.Ytpljlpfoalcfmaa

namespace Go.Proofs.Ytpljlpfoalcfmaa
open Go.RowKit
set_option linter.unusedVariables false

def strC (s : ByteArray) : List Value := [.string s]
def intC (n : Int) : List Value := [.int .i64 n]
theorem strC_len (s : ByteArray) : (strC s).length = 1 := rfl
theorem intC_len (n : Int) : (intC n).length = 1 := rfl
abbrev SlS (w : World) (v : Value) (L : List ByteArray) : Prop := SlG strC 1 w w.heap.size v L
abbrev SlI (w : World) (v : Value) (L : List Int) : Prop := SlG intC 1 w w.heap.size v L
abbrev GathI (B : Nat) (w0 : World) (v : Value) (L : List Int) (wr : World) : Prop := GathG 3 intC 1 B w0 v L wr
abbrev GathS (B : Nat) (w0 : World) (v : Value) (L : List ByteArray) (wr : World) : Prop := GathG 9 strC 1 B w0 v L wr
theorem SlG.at1 {α : Type} {c : α → List Value} {w : World} {B : Nat} {v : Value} {L : List α} (h : SlG c 1 w B v L) {k : Nat} (hk : k < L.length) {u : Value} (hu : c (L[k]'hk) = [u]) :
    ∃ x cap, v = .slice (some x) L.length cap ∧ x.block < B ∧ w.cell? (x.add k) = some u := by
  obtain ⟨x, cap, hv, hb, hc⟩ := h.at_ hk
  have := hc 0 u (by rw [hu]; rfl)
  rw [addr_add, Nat.mul_one, Nat.add_zero] at this
  exact ⟨x, cap, hv, hb, this⟩
theorem take_snoc {α : Type} {L : List α} {k : Nat} (h : k < L.length) : L.take (k + 1) = L.take k ++ [L[k]] := List.take_succ_eq_append_getElem h
theorem one_cell (w : World) (u : Value) (t : TypeId) : ∀ j x, [u][j]? = some x → (w.alloc (.cells #[u] t)).cell? ((⟨w.heap.size, 0, none⟩ : Addr).add j) = some x := by
  intro j x hj
  match j, hj with
  | 0, hj => simp at hj; subst hj; simp [Addr.add]

theorem info_int : (Try.prog.info? 3).map (fun i => (i.zero, i.size, i.bytes)) = some (some (.int .i64 0), 1, 8) := by kernel_rfl
theorem wpList_rowI {ops : Array Oper} {rest : List Oper} {o : Oper} {a : Act} {Q : Exit → Act → World → Prop} {W : World} (hgd : o.guard = none) (s x : Operand)
    (ho : o.op = .call { callee := .builtin .append, args := #[s, x], argTypes := #[52, 52] }) {B : Nat} {v : Value} {L : List Int} (hs : a.eval s = v) (hg : W.ownsRow B 3 1 v L.length (rowG intC L)) (hB : B ≤ W.heap.size)
    (g c : Nat) (e : Int) (hx : a.eval x = .slice (some ⟨g, 0, none⟩) 1 c) (hn : ∀ j u, (intC e)[j]? = some u → W.cell? ((⟨g, 0, none⟩ : Addr).add j) = some u) (hsz : L.length ≤ 1000000)
    (h : ∀ v' w', w'.ownsRow B 3 1 v' (L ++ [e]).length (rowG intC (L ++ [e])) → Below B W w' → wpList Try.prog ops Q rest (a.put o.dst v') w') : wpList Try.prog ops Q (o :: rest) a W := by
  obtain ⟨i0, hi, hz0, hz1, hz2⟩ := info_parts info_int
  refine wpList_append_own _ hgd s x 52 ho B 3 i0 _ 1 8 Try.underlying52 hi hz0 hz1 hz2 rfl (by decide) v L.length (rowG intC L) hs hg ⟨g, 0, none⟩ 1 c (intC e) hx rfl hn (fun u hu => ?_) ?_ ?_ hB ?_
  · simp only [intC, List.mem_cons, List.not_mem_nil, or_false] at hu
    subst hu; rfl
  · unfold maxLen; omega
  · omega
  · intro v' w' hown hgr _
    refine h v' w' ?_ ((Below.refl _ _).grown hgr hB ?_)
    · rw [List.length_append, rowG_app, rowG_one]; exact hown
    · intro k hk
      rcases hg.2 with ⟨rfl, _⟩ | ⟨g, cap, cur, rfl, hgg, _⟩
      · cases hk
      · cases hk; exact hgg
theorem info_str : (Try.prog.info? 9).map (fun i => (i.zero, i.size, i.bytes)) = some (some (.string (ByteArray.mk #[])), 1, 16) := by kernel_rfl
theorem GathG.slI {B : Nat} {w0 wr : World} {v : Value} {L : List Int} (h : GathI B w0 v L wr) (hm : L.length ≤ 1000000) : SlI wr v L := GathG.slice intC_len (by decide) h (by unfold maxLen; omega)
theorem GathG.slS {B : Nat} {w0 wr : World} {v : Value} {L : List ByteArray} (h : GathS B w0 v L wr) (hm : L.length ≤ 1000000) : SlS wr v L := GathG.slice strC_len (by decide) h (by unfold maxLen; omega)
def strOf : List Value → ByteArray
  | [.string s] => s
  | _ => ByteArray.mk #[]
theorem strOf_c (l : List Value) (h : FitsAll [.str] l) : strC (strOf l) = l := by
  obtain ⟨v0, l0, rfl, ⟨a0, rfl, _⟩, h0⟩ := FitsAll.cons h
  obtain rfl := FitsAll.nil h0
  rfl
def numOf : List Value → Int | [.int _ q] => q | _ => 0
theorem numOf_c (l : List Value) (h : FitsAll [.int .i64] l) : intC (numOf l) = l := by
  obtain ⟨v0, l0, rfl, ⟨a0, rfl, _⟩, h0⟩ := FitsAll.cons h
  obtain rfl := FitsAll.nil h0
  rfl
end Go.Proofs.Ytpljlpfoalcfmaa

namespace Go.Proofs.Ytpljlpfoalcfmaa
open Go.RowKit
set_option linter.unusedVariables false

def OwnO (v : Value) : Nat → Prop := fun k => v.ownBlock = some k
def Apart (O O' : Nat → Prop) : Prop := ∀ k, O k → O' k → False
theorem Apart.symm {O O' : Nat → Prop} (h : Apart O O') : Apart O' O := fun k a b => h k b a
theorem Apart.step {O O' P : Nat → Prop} {w : World} (h : Apart O P) (hP : ∀ k, P k → k < w.heap.size) (hg : Grows O w O') : Apart O' P := fun k a b => by
  rcases hg k a with h1 | h1
  · exact h k h1 b
  · have := hP k b; omega
theorem apart_nil (O : Nat → Prop) : Apart O (OwnO (.slice none 0 0)) := fun k _ h => by cases h
theorem own_stay {base : Nat} {e : TypeId} {k n : Nat} {w w' : World} {v : Value} {xs : List Value} (h : w.ownsRow base e k v n xs) (hs : ∀ g, OwnO v g → w'.heap[g]? = w.heap[g]?) : w'.ownsRow base e k v n xs := by
  refine ⟨h.1, ?_⟩
  rcases h.2 with h0 | ⟨g, cap, cur, rfl, hb, hg, r⟩
  · exact .inl h0
  · exact .inr ⟨g, cap, cur, rfl, hb, (hs g rfl).trans hg, r⟩
theorem own_lt {base : Nat} {e : TypeId} {k n : Nat} {w : World} {v : Value} {xs : List Value} (h : w.ownsRow base e k v n xs) : ∀ g, OwnO v g → g < w.heap.size := by
  rcases h.2 with ⟨rfl, _⟩ | ⟨g, cap, cur, rfl, hb, hg, r⟩
  · intro g hg; cases hg
  · intro g' hg'
    injection hg' with e
    have e : g = g' := e
    subst e
    exact (Array.getElem?_eq_some_iff.1 hg).1
theorem own_ge {base : Nat} {e : TypeId} {k n : Nat} {w : World} {v : Value} {xs : List Value} (h : w.ownsRow base e k v n xs) : ∀ g, OwnO v g → base ≤ g := by
  rcases h.2 with ⟨rfl, _⟩ | ⟨g, cap, cur, rfl, hb, hg, r⟩
  · intro g hg; cases hg
  · intro g' hg'
    injection hg' with e
    have e : g = g' := e
    subst e
    exact hb
theorem kept_grown {w w' : World} {v : Value} (h : w.grownBy w' v.ownBlock) : Kept (OwnO v) w w' := ⟨h.os, h.tape, h.output, h.size, fun k hk hn => h.block k hk (fun e => hn e.symm)⟩
theorem grows_at {w : World} {v v' : Value} (h : v'.ownBlock = v.ownBlock ∨ v'.ownBlock = some w.heap.size) : Grows (OwnO v) w (OwnO v') := fun k hk => by
  unfold OwnO at hk ⊢
  rcases h with h | h
  · exact .inl (by rw [← h]; exact hk)
  · rw [h] at hk; injection hk with hk; exact .inr (by omega)
/-- the facts of a type that an append asks: laid flat in k cells, of so many bytes -/
def FlatE (P : Program) (T E : TypeId) (k bytes : Nat) : Prop := P.underlying T = some (.slice E) ∧ ∃ i z, P.info? E = some i ∧ i.zero = some z ∧ i.size = k ∧ i.bytes = bytes ∧ z.cells.size = k ∧ 0 < k ∧ bytes ≤ 100
section
variable {α : Type} {c : α → List Value} {k bytes : Nat} {T E : TypeId} {P : Program}
/-- a row's own cells as a list, the nil kept apart -/
def RdA (c : α → List Value) (k : Nat) (w : World) (v : Value) (L : List α) : Prop := SlG c k w w.heap.size v L ∧ (v = .slice none 0 0 ∨ ∃ x cap, v = .slice (some x) L.length cap ∧ L.length ≤ cap)
theorem rowG_cells' (hk : ∀ a, (c a).length = k) {L : List α} {j : Nat} {u : Value} (h : (rowG c L)[j]? = some u) : ∃ i r a, L[i]? = some a ∧ (c a)[r]? = some u ∧ j = i * k + r := by
  induction L generalizing j with
  | nil => simp [rowG] at h
  | cons a L ih =>
    by_cases hj : j < k
    · refine ⟨0, j, a, rfl, ?_, by simp⟩
      unfold rowG at h
      rw [List.flatMap_cons, List.getElem?_append_left (by rw [hk]; exact hj)] at h
      exact h
    · unfold rowG at h
      rw [List.flatMap_cons, List.getElem?_append_right (by rw [hk]; omega), hk] at h
      obtain ⟨i, r, b, h1, h2, h3⟩ := ih h
      refine ⟨i + 1, r, b, by simpa using h1, h2, ?_⟩
      rw [Nat.add_mul]; omega
theorem wpList_growO {ops : Array Oper} {rest : List Oper} {o : Oper} {a : Act} {Q : Exit → Act → World → Prop} {W : World} (hT : FlatE P T E k bytes) (hk : ∀ a, (c a).length = k) (hone : ∀ a, ∀ u ∈ c a, u.oneCell' = true) (hgd : o.guard = none) (s x : Operand)
    (ho : o.op = .call { callee := .builtin .append, args := #[s, x], argTypes := #[T, T] }) {B : Nat} {v u : Value} {L M : List α} (hs : a.eval s = v) (hg : W.ownsRow B E k v L.length (rowG c L)) (hB : B ≤ W.heap.size)
    (hx : a.eval x = u) (hr : RdA c k W u M) (hsz : L.length + M.length ≤ 1000000)
    (h : ∀ v' w', w'.ownsRow B E k v' (L ++ M).length (rowG c (L ++ M)) → Kept (OwnO v) W w' → Grows (OwnO v) W (OwnO v') → wpList P ops Q rest (a.put o.dst v') w') : wpList P ops Q (o :: rest) a W := by
  obtain ⟨ht, i0, z, hi, hz, hz1, hz2, hz3, hk0, hby⟩ := hT
  obtain ⟨hsl, hshape⟩ := hr
  rcases hshape with rfl | ⟨p, cp, rfl, _⟩
  · obtain ⟨A, cap, hv, _, _⟩ := hsl
    injection hv with _ hl _
    obtain rfl : M = [] := List.eq_nil_of_length_eq_zero hl.symm
    refine wpList_append_own_none hgd s x T ho B E i0 k ht hi v L.length (rowG c L) hs hg hx ?_
    exact h v W (by rw [List.append_nil]; exact hg) (Kept.refl _ _) (Grows.refl _ _)
  · have hby2 : (L.length + M.length) * bytes ≤ 1000000 * 100 := Nat.mul_le_mul hsz hby
    refine wpList_append_own_at _ hgd s x T ho B E i0 z k bytes ht hi hz hz1 hz2 hz3 hk0 v L.length (rowG c L) hs hg p M.length cp (rowG c M) hx (rowG_length hk M) (fun j u hu => ?_) (fun u hu => ?_) ?_ ?_ hB ?_
    · obtain ⟨i, r, b, h1, h2, rfl⟩ := rowG_cells' hk hu
      obtain ⟨A, cap, hv, _, hc⟩ := hsl
      injection hv with hA _ _
      subst hA
      obtain ⟨x', hx', _, hcell⟩ := hc i b h1
      injection hx' with hx'
      subst hx'
      exact hcell r u h2
    · obtain ⟨j, hj, rfl⟩ := List.getElem_of_mem hu
      obtain ⟨i, r, b, h1, h2, _⟩ := rowG_cells' hk (List.getElem?_eq_getElem hj)
      exact hone b _ (List.mem_of_getElem? h2)
    · unfold maxLen; omega
    · omega
    · intro v' w' hown hgr _ hat
      exact h v' w' (by rw [List.length_append, rowG_app]; exact hown) (kept_grown hgr) (grows_at hat)
/-- the one thing of a new block that 'append(l, x)' reads -/
theorem RdA.one (hk : ∀ a, (c a).length = k) (w : World) (b : α) (t : TypeId) {g : Nat} {w' : World} (hg : w.heap.size = g) (hw : w' = w.alloc (.cells (c b).toArray t)) : RdA c k w' (.slice (some ⟨g, 0, none⟩) 1 1) [b] := by
  subst hg hw
  refine ⟨⟨_, _, rfl, by unfold maxLen; simp, fun i a ha => ?_⟩, .inr ⟨_, _, rfl, Nat.le_refl _⟩⟩
  have hi : i = 0 := by
    rcases Nat.lt_or_ge i 1 with h | h
    · omega
    · rw [List.getElem?_eq_none (by simpa using h)] at ha; cases ha
  subst hi
  simp at ha
  subst ha
  refine ⟨_, rfl, by simp, fun j u hu => ?_⟩
  rw [Nat.zero_mul, Nat.zero_add]
  exact World.news_of_block (B := w.heap.size) (cs := (c b).toArray) (t := t) (fr := (0, 0)) (by unfold World.alloc; simp) j u (by simpa using hu)
end
end Go.Proofs.Ytpljlpfoalcfmaa
