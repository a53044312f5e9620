/- Later worlds: a region that draws its order, whose operations read what lay there before and whose callees make new memory alone ('Below'), walked once, in the order of the text. Of no program. Of no program: two rows of cells of a type without pointers that read alike are alike; a frame among the arguments. Of no program: the cells of a type without pointers, one by one, by the type's shape: an argument that is such a struct, or a slice of such. Octet: contracts of Digit (both), Sign: what each returns, the world as it was. Octet: contracts of Put and Get. Lemmas of no program: owned rows of bytes turned to strings; iterators beside owned rows; made rows. Octet: contracts of Unhex (octet): at digits, and else. Octet: contracts of Hex. Octet: contracts of Ones; of what every statement asks at its end (alive). Octet: the walks of OctetDigits, OctetWords. -/
import Derived.Test.YtlfhomahbacmpaaDoorRows
import Derived.WalkKit
import Derived.BigQuiet
import Derived.Deep.Quiet
import Derived.Deep.QuietTactic
import Derived.Lib.Hide
import Derived.Below
import Derived.ProofKit
import Derived.OpenShut
import Derived.ChangeArms
import Derived.ChangeOld
import Derived.Lib.SmallJoins
import Derived.LaidMore
import Derived.Deep.Slices
import Derived.WalkSpells
import Derived.WalkLawsBesides
import Derived.Laws.BytesArg
import Derived.LoopTactic
import Derived.LoopN
import Derived.Laws.MakeOwn
import Derived.Deep.AppendLies
import Derived.Lib.OthersKept
import Derived.Deep.RegionLaw
namespace Go.Proofs.YtlfhomahbacmpaaDoor
open Go.RowKit
set_option linter.unusedVariables false

/-- a world that is W but for new memory -/
structure Later (W : World) where
  w : World
  h : Below W.heap.size W w
instance laterOne (W : World) : Nonempty (Later W) := ⟨⟨W, Below.refl _ _⟩⟩
theorem Later.cell {W : World} (n : Later W) (b o : Nat) (h : b < W.heap.size) : n.w.cell? ⟨b, o, none⟩ = W.cell? ⟨b, o, none⟩ := n.h.cell (p := ⟨b, o, none⟩) h
theorem Later.frozen {W : World} (n : Later W) (b o : Nat) (h : b < W.heap.size) : n.w.frozen? ⟨b, o, none⟩ = W.frozen? ⟨b, o, none⟩ := n.h.frozen (p := ⟨b, o, none⟩) h
theorem later_cells : ∀ (W : World) (n : Later W) (b o : Nat), b < W.heap.size → n.w.cell? ⟨b, o, none⟩ = W.cell? ⟨b, o, none⟩ := fun _ n b o h => n.cell b o h

theorem wp_region_later {P : Program} {id : Nat} {Q : Exit → Act → World → Prop} {a : Act} {w : World} {l : List Oper} (hm : P.follows .mixedOrders = true) (hB : Region.lexB .any l.toArray = true)
    (h : wpQuiet P l.toArray (fun w' => ∃ n : Later w, w' = n.w) (fun a' => ∀ w', (∃ n : Later w, w' = n.w) → Q .normal a' w') l a) : (Code.region id l.toArray true).wp P Q a w :=
  wp_region_quiet (C := fun w' => ∃ n : Later w, w' = n.w) hm hB ⟨⟨w.drew, (Below.refl _ _).drew⟩, rfl⟩ (by simpa using h)

/-- a callee that makes new memory alone -/
theorem Later.call {P : Program} {f : FuncId} {args : Array Value} {W : World} {n : Later W} {v : Value}
    (h : Calls P f args n.w fun e w' => e = .returned v ∧ Below n.w.heap.size n.w w') : Calls P f args n.w fun e w'' => e = .returned v ∧ ∃ m : Later W, w'' = m.w :=
  h.mono fun _ w' ⟨he, hb⟩ => ⟨he, ⟨w', n.h.trans (hb.mono n.h.size)⟩, rfl⟩
/-- a callee that leaves the world as it was -/
theorem Later.same {P : Program} {f : FuncId} {args : Array Value} {W : World} {n : Later W} {v : Value}
    (h : Calls P f args n.w fun e w' => e = .returned v ∧ n.w = w') : Calls P f args n.w fun e w'' => e = .returned v ∧ ∃ m : Later W, w'' = m.w :=
  h.mono fun _ w' ⟨he, hb⟩ => ⟨he, n, hb.symm⟩
/-- a callee that draws -/
theorem Later.drew {P : Program} {f : FuncId} {args : Array Value} {W : World} {n : Later W} {v : Value}
    (h : Calls P f args n.w fun e w' => e = .returned v ∧ ∃ k, w' = n.w.drewN k) : Calls P f args n.w fun e w'' => e = .returned v ∧ ∃ m : Later W, w'' = m.w :=
  h.mono fun _ w' ⟨he, k, hb⟩ => ⟨he, ⟨w', by rw [hb]; exact n.h.trans ⟨rfl, rfl, rfl, Nat.le_refl _, fun _ _ => rfl⟩⟩, rfl⟩

end Go.Proofs.YtlfhomahbacmpaaDoor

namespace Go.Proofs.YtlfhomahbacmpaaDoor
open Go.RowKit Go.ChangeShapes Go.WideShapes Go.Joins
set_option linter.unusedVariables false

def flatB (P : Program) : Nat → TypeId → Bool
  | 0, _ => false
  | k + 1, t => match P.underlying t with
    | some .bool => true
    | some (.int _) => true
    | some .string => true
    | some (.struct fs) => (fs.toList.all fun f => flatB P k f.type) && ((List.range (P.cellsOf t)).all fun i => fs.toList.any fun f => decide (f.offset ≤ i) && decide (i < f.offset + P.cellsOf f.type))
    | some (.array n e) => flatB P k e && decide (P.cellsOf t = n * P.cellsOf e)
    | _ => false

theorem seg_get {l : List Value} {off c i : Nat} (h0 : off ≤ i) (h1 : i < off + c) : l[i]? = ((l.drop off).take c)[i - off]? := by
  rw [List.getElem?_take_of_lt (by omega), List.getElem?_drop]
  congr 1
  omega

section
variable {H : Type} {enc enc' : TypeId × Value → H} {P : Program} {w w' : World} {base base' : Nat} {sp sp' : Nat → Bool} {held held' : Bool}
theorem flat_inj : ∀ (k : Nat) (t : TypeId) (n n' : Nat) (cs cs' : List Value) (x x' : DataW H × List MemPlace), flatB P k t = true →
    DataW.trod enc P w base sp held n t cs = some x → DataW.trod enc' P w' base' sp' held' n' t cs' = some x' → x.1 = x'.1 → cs = cs'
  | 0, t, n, n', cs, cs', x, x', hf, _, _, _ => by cases hf
  | k + 1, t, n, n', cs, cs', x, x', hf, h, h', he => by
    unfold flatB at hf
    split at hf
    · rename_i ht
      obtain ⟨b, rfl, rfl⟩ := DataW.trod_bool ht h
      obtain ⟨b', rfl, rfl⟩ := DataW.trod_bool ht h'
      cases he; rfl
    · rename_i ht
      obtain ⟨b, rfl, rfl, _⟩ := DataW.trod_int ht h
      obtain ⟨b', rfl, rfl, _⟩ := DataW.trod_int ht h'
      cases he; rfl
    · rename_i ht
      obtain ⟨b, rfl, rfl, _⟩ := DataW.trod_string ht h
      obtain ⟨b', rfl, rfl, _⟩ := DataW.trod_string ht h'
      obtain ⟨⟨b⟩⟩ := b
      obtain ⟨⟨b'⟩⟩ := b'
      simp at he
      rw [he]
    · rename_i fs ht
      obtain ⟨xs, m, _, rfl, hl, hxl, hx⟩ := DataW.trod_struct ht h
      obtain ⟨xs', m', _, rfl, hl', hxl', hx'⟩ := DataW.trod_struct ht h'
      simp only [Bool.and_eq_true, List.all_eq_true, List.any_eq_true, List.mem_range, decide_eq_true_eq] at hf
      obtain ⟨hf1, hf2⟩ := hf
      have he' : xs.map (·.1) = xs'.map (·.1) := by simpa using he
      apply List.ext_getElem?
      intro i
      by_cases hi : i < P.cellsOf t
      · obtain ⟨f, hfm, h0, h1⟩ := hf2 i hi
        obtain ⟨j, hj, hjf⟩ := List.getElem_of_mem hfm
        have hj' : j < fs.size := by simpa using hj
        have hjf' : fs[j]? = some f := by rw [Array.getElem?_eq_getElem hj']; simpa using hjf
        have e1 := hx j f hjf'
        have e2 := hx' j f hjf'
        have g1 : xs[j]? = some xs[j] := List.getElem?_eq_getElem (by omega)
        have g2 : xs'[j]? = some xs'[j] := List.getElem?_eq_getElem (by omega)
        have he2 : (xs[j]).1 = (xs'[j]).1 := by
          have := congrArg (·[j]?) he'
          simpa [g1, g2] using this
        rw [seg_get h0 h1, seg_get (l := cs') h0 h1]
        rw [flat_inj k f.type m m' _ _ _ _ (hf1 f hfm) (e1.trans g1) (e2.trans g2) he2]
      · rw [List.getElem?_eq_none (by omega), List.getElem?_eq_none (by omega)]
    · rename_i len e ht
      obtain ⟨xs, m, _, rfl, hl, hxl, hx⟩ := DataW.trod_array ht h
      obtain ⟨xs', m', _, rfl, hl', hxl', hx'⟩ := DataW.trod_array ht h'
      simp only [Bool.and_eq_true, decide_eq_true_eq] at hf
      obtain ⟨hf1, hf2⟩ := hf
      have he' : xs.map (·.1) = xs'.map (·.1) := by simpa using he
      apply List.ext_getElem?
      intro i
      by_cases hi : i < P.cellsOf t
      · have hc : 0 < P.cellsOf e := by
          rcases Nat.eq_zero_or_pos (P.cellsOf e) with h | h
          · rw [hf2, h] at hi; simp at hi
          · exact h
        have hj : i / P.cellsOf e < len := (Nat.div_lt_iff_lt_mul hc).2 (by omega)
        have e1 := hx (i / P.cellsOf e) hj
        have e2 := hx' (i / P.cellsOf e) hj
        have g1 : xs[i / P.cellsOf e]? = some (xs[i / P.cellsOf e]'(by omega)) := List.getElem?_eq_getElem (by omega)
        have g2 : xs'[i / P.cellsOf e]? = some (xs'[i / P.cellsOf e]'(by omega)) := List.getElem?_eq_getElem (by omega)
        have he2 : (xs[i / P.cellsOf e]'(by omega)).1 = (xs'[i / P.cellsOf e]'(by omega)).1 := by
          have := congrArg (·[i / P.cellsOf e]?) he'
          simpa [g1, g2] using this
        have h0 : i / P.cellsOf e * P.cellsOf e ≤ i := Nat.div_mul_le_self _ _
        have h1 : i < i / P.cellsOf e * P.cellsOf e + P.cellsOf e := by have := Nat.lt_div_mul_add (a := i) hc; omega
        rw [seg_get h0 h1, seg_get (l := cs') h0 h1]
        rw [flat_inj k e m m' _ _ _ _ hf1 (e1.trans g1) (e2.trans g2) he2]
      · rw [List.getElem?_eq_none (by omega), List.getElem?_eq_none (by omega)]
    · cases hf
end

/-- a variable that reads as a known datum holds known cells -/
theorem var_cells {P : Program} {W : World} {cs : Array Value} {name : String} {k g : Nat} {t : TypeId} {fuel m : Nat} {d : DataW Unit} {p q : List MemPlace} {known : Array Value} (hf : flatB P k t = true) (hg : P.globalNamed name = some g)
    (hv : W.var? P name = some cs) (h : DataW.trod (fun _ => ()) P W 0 (fun _ => true) false fuel t cs.toList = some (d, p))
    (hk : DataW.trod (fun _ => ()) P W 0 (fun _ => true) false m t known.toList = some (d, q)) : ∃ t fr, W.heap[g]? = some (.cells known t fr) := by
  have e : cs = known := Array.toList_inj.1 (flat_inj k t _ _ _ _ _ _ hf h hk rfl)
  subst e
  unfold World.var? at hv
  simp only [hg, Option.bind_some] at hv
  split at hv
  · rename_i c t fr hh
    cases hv
    exact ⟨t, fr, hh⟩
  · cases hv

end Go.Proofs.YtlfhomahbacmpaaDoor

namespace Go.Proofs.YtlfhomahbacmpaaDoor
open Go.RowKit Go.ChangeShapes Go.WideShapes Go.Deep
set_option linter.unusedVariables false

inductive Sh where
  | int (k : IntKind)
  | bool
  | str
def Sh.fits : Sh → Value → Prop
  | .int k, v => ∃ n, v = .int k n ∧ (Lit.int k n).wf = true
  | .bool, v => ∃ b, v = .bool b
  | .str, v => ∃ s, v = .string s ∧ s.size ≤ maxLen
def FitsAll : List Sh → List Value → Prop
  | [], [] => True
  | s :: ss, v :: vs => s.fits v ∧ FitsAll ss vs
  | _, _ => False
theorem FitsAll.cons {s : Sh} {ss : List Sh} {l : List Value} (h : FitsAll (s :: ss) l) : ∃ v vs, l = v :: vs ∧ s.fits v ∧ FitsAll ss vs := by
  cases l with
  | nil => cases h
  | cons v vs => exact ⟨v, vs, rfl, h.1, h.2⟩
theorem FitsAll.nil {l : List Value} (h : FitsAll [] l) : l = [] := by
  cases l with
  | nil => rfl
  | cons v vs => cases h
theorem FitsAll.length : ∀ {ss : List Sh} {l : List Value}, FitsAll ss l → l.length = ss.length
  | [], [], _ => rfl
  | _ :: ss, _ :: l, h => by simp [FitsAll.length h.2]
  | [], _ :: _, h => by cases h
  | _ :: _, [], h => by cases h
theorem FitsAll.app : ∀ {a b : List Sh} {l m : List Value}, FitsAll a l → FitsAll b m → FitsAll (a ++ b) (l ++ m)
  | [], _, [], _, _, h => h
  | _ :: a, _, _ :: l, _, h, h' => ⟨h.1, FitsAll.app h.2 h'⟩
  | [], _, _ :: _, _, h, _ => by cases h
  | _ :: _, _, [], _, h, _ => by cases h

def goSh (P : Program) (sub : TypeId → Option (List Sh)) : Nat → List Field → Option (List Sh)
  | _, [] => some []
  | off, f :: fs => (sub f.type).bind fun s => if f.offset = off ∧ s.length = P.cellsOf f.type then (goSh P sub (off + s.length) fs).map (s ++ ·) else none
def shapeOf (P : Program) : Nat → TypeId → Option (List Sh)
  | 0, _ => none
  | k + 1, t => match P.underlying t with
    | some .bool => some [.bool]
    | some (.int i) => some [.int i]
    | some .string => some [.str]
    | some (.struct fs) => (goSh P (shapeOf P k) 0 fs.toList).bind fun s => if s.length = P.cellsOf t then some s else none
    | some (.array n e) => (shapeOf P k e).bind fun s => if s.length = P.cellsOf e ∧ P.cellsOf t = n * P.cellsOf e then some ((List.replicate n s).flatten) else none
    | _ => none

section
variable {H : Type} {enc : TypeId × Value → H} {P : Program} {w : World} {base : Nat} {sp : Nat → Bool} {held : Bool}

theorem goSh_fits {sub : TypeId → Option (List Sh)} {cs : List Value} : ∀ (fs : List Field) (off : Nat) (s : List Sh), goSh P sub off fs = some s →
    (∀ f ∈ fs, ∀ s', sub f.type = some s' → FitsAll s' ((cs.drop f.offset).take (P.cellsOf f.type))) → cs.length = off + s.length → FitsAll s (cs.drop off)
  | [], off, s, h, _, hl => by
    cases h
    rw [List.drop_eq_nil_of_le (by simp at hl; omega)]
    trivial
  | f :: fs, off, s, h, hf, hl => by
    unfold goSh at h
    obtain ⟨s1, h1, h2⟩ := Option.bind_eq_some_iff.1 h
    split at h2
    · rename_i hc
      obtain ⟨s2, h3, rfl⟩ := Option.map_eq_some_iff.1 h2
      have a1 := hf f (List.mem_cons_self ..) s1 h1
      have a2 := goSh_fits fs (off + s1.length) s2 h3 (fun g hg => hf g (List.mem_cons_of_mem _ hg)) (by simp at hl; omega)
      rw [hc.1, ← hc.2] at a1
      have e : cs.drop off = (cs.drop off).take s1.length ++ cs.drop (off + s1.length) := by
        rw [← List.drop_drop, List.take_append_drop]
      rw [e]
      exact a1.app a2
    · cases h2
theorem rep_fits {s : List Sh} {c : Nat} {cs : List Value} (hs : s.length = c) : ∀ (n i : Nat), (∀ j, i ≤ j → j < i + n → FitsAll s ((cs.drop (j * c)).take c)) → cs.length = (i + n) * c → FitsAll ((List.replicate n s).flatten) (cs.drop (i * c))
  | 0, i, _, hl => by
    rw [List.drop_eq_nil_of_le (by simp at hl; omega)]
    trivial
  | n + 1, i, h, hl => by
    rw [List.replicate_succ, List.flatten_cons]
    have a1 := h i (Nat.le_refl _) (by omega)
    have a2 := rep_fits hs n (i + 1) (fun j h1 h2 => h j (by omega) (by omega)) (by rw [hl]; congr 1; omega)
    have e : cs.drop (i * c) = (cs.drop (i * c)).take c ++ cs.drop ((i + 1) * c) := by
      rw [Nat.add_mul, Nat.one_mul, ← List.drop_drop, List.take_append_drop]
    rw [e]
    exact a1.app a2

theorem fits_of : ∀ (k : Nat) (t : TypeId) (n : Nat) (s : List Sh) (cs : List Value) (x : DataW H × List MemPlace), shapeOf P k t = some s →
    DataW.trod enc P w base sp held n t cs = some x → FitsAll s cs
  | 0, _, _, _, _, _, h, _ => by cases h
  | k + 1, t, n, s, cs, x, hs, h => by
    unfold shapeOf at hs
    split at hs
    · rename_i ht
      cases hs
      obtain ⟨b, rfl, rfl⟩ := DataW.trod_bool ht h
      exact ⟨⟨b, rfl⟩, trivial⟩
    · rename_i ht
      cases hs
      obtain ⟨b, rfl, rfl, hw⟩ := DataW.trod_int ht h
      exact ⟨⟨b, rfl, hw⟩, trivial⟩
    · rename_i ht
      cases hs
      obtain ⟨b, rfl, rfl, hw⟩ := DataW.trod_string ht h
      exact ⟨⟨b, rfl, hw⟩, trivial⟩
    · rename_i fs ht
      obtain ⟨s', h1, h2⟩ := Option.bind_eq_some_iff.1 hs
      split at h2
      · rename_i hc
        cases h2
        obtain ⟨xs, m, _, rfl, hl, hxl, hx⟩ := DataW.trod_struct ht h
        have := goSh_fits (P := P) (sub := shapeOf P k) (cs := cs) fs.toList 0 s h1 (fun f hf s1 hs1 => ?_) (by omega)
        · simpa using this
        · obtain ⟨j, hj, hjf⟩ := List.getElem_of_mem hf
          have hj' : j < fs.size := by simpa using hj
          have hjf' : fs[j]? = some f := by rw [Array.getElem?_eq_getElem hj']; simpa using hjf
          exact fits_of k f.type m s1 _ _ hs1 ((hx j f hjf').trans (List.getElem?_eq_getElem (by omega)))
      · cases h2
    · rename_i len e ht
      obtain ⟨s', h1, h2⟩ := Option.bind_eq_some_iff.1 hs
      split at h2
      · rename_i hc
        cases h2
        obtain ⟨xs, m, _, rfl, hl, hxl, hx⟩ := DataW.trod_array ht h
        have := rep_fits (cs := cs) hc.1 len 0 (fun j _ hj => fits_of k e m s' _ _ h1 ((hx j (by omega)).trans (List.getElem?_eq_getElem (by omega)))) (by rw [hl, hc.2, Nat.zero_add])
        simpa using this
      · cases h2
    · cases hs

/-- an argument that is a struct without pointers: its cells, one by one -/
theorem open_flat {r : Reach} {b0 k : Nat} {t : TypeId} {fs : Array Field} {v : Value} {d : DataW H} {p : List MemPlace} {s : List Sh} (hs : P.underlying t = some (.struct fs)) (hsh : shapeOf P k t = some s)
    (hv : Value.okWide P w r b0 t v) (h : DataW.Trod enc P w base sp held t v d p) : ∃ l : List Value, v = .agg l.toArray ∧ FitsAll s l := by
  obtain ⟨cs, rfl, _⟩ := okWide_struct hs hv
  obtain ⟨n, hn⟩ := h
  refine ⟨cs.toList, by simp, ?_⟩
  have := fits_of k t n s _ _ hsh hn
  simpa [Value.cells] using this

/-- what is known of a slice of such: nil, or its cells up to the capacity -/
def IsRowOf (w : World) (s : List Sh) (a : Option Addr) (len cap : Nat) (F : Nat → List Value) : Prop :=
  (a = none ∧ len = 0 ∧ cap = 0) ∨
  ∃ x, a = some x ∧ len ≤ cap ∧ cap ≤ maxLen ∧ ∀ i, i < cap → FitsAll s (F i) ∧ ∀ j, j < s.length → w.cell? (x.add (i * s.length + j)) = (F i)[j]?
theorem open_slice_flat {r : Reach} {b0 k : Nat} {t e : TypeId} {v : Value} {d : DataW H} {p : List MemPlace} {s : List Sh} (ht : P.underlying t = some (.slice e)) (hsh : shapeOf P k e = some s) (hc : P.cellsOf e = s.length)
    (hv : Value.okWide P w r b0 t v) (h : DataW.Trod enc P w base (fun _ => true) held t v d p) : ∃ a len cap F, v = .slice a len cap ∧ IsRowOf w s a len cap F := by
  obtain ⟨a, len, cap, rfl⟩ := okWide_slice ht hv
  obtain ⟨n, hn⟩ := h
  rcases Go.Deep.open_slice ht hn with ⟨hcs, _⟩ | ⟨x, len', cap', m, n', D, Pl, hcs, hb, hl, hm, hmm, hx, hi⟩
  · simp [Value.cells] at hcs
    obtain ⟨rfl, rfl, rfl⟩ := hcs
    exact ⟨none, 0, 0, fun _ => [], rfl, .inl ⟨rfl, rfl, rfl⟩⟩
  · simp [Value.cells] at hcs
    obtain ⟨rfl, rfl, rfl⟩ := hcs
    have hmc : m = cap := by simpa using hmm
    subst hmc
    refine ⟨some x, len, m, fun i => if h : i < m then (hi i h).choose else [], rfl, .inr ⟨x, rfl, hl, hm, fun i h => ?_⟩⟩
    simp only [h, dif_pos]
    have hsp := (hi i h).choose_spec
    refine ⟨fits_of k e n' s _ _ hsh hsp.2, fun j hj => ?_⟩
    have := (World.cells?_some hsp.1).2.2 j (by omega)
    rw [Go.Deep.add_add] at this
    rw [← hc]
    exact this
end

end Go.Proofs.YtlfhomahbacmpaaDoor

namespace Go.Proofs.YtlfhomahbacmpaaDoor
open Go.RowKit

/-- what a digit is worth; 16: it is none -/
def dig (r : Int) : Int := if 48 ≤ r ∧ r ≤ 57 then r - 48 else if 65 ≤ r ∧ r ≤ 70 then r - 55 else if 97 ≤ r ∧ r ≤ 102 then r - 87 else 16
def digN (r : Int) : Int := if dig r < 16 then dig r else 0
def digB (r : Int) : Bool := decide (dig r < 16)

theorem dig_bd (r : Int) : 0 ≤ dig r ∧ dig r ≤ 16 := by unfold dig; (repeat' split) <;> omega
theorem dig_0 {r : Int} (h : 48 ≤ r ∧ r ≤ 57) : dig r = r - 48 := by unfold dig; rw [if_pos h]
theorem dig_A {r : Int} (h : 65 ≤ r ∧ r ≤ 70) : dig r = r - 55 := by unfold dig; rw [if_neg (by omega), if_pos h]
theorem dig_a {r : Int} (h : 97 ≤ r ∧ r ≤ 102) : dig r = r - 87 := by unfold dig; rw [if_neg (by omega), if_neg (by omega), if_pos h]
theorem dig_no {r : Int} (h : r < 48 ∨ (57 < r ∧ r < 65) ∨ (70 < r ∧ r < 97) ∨ 102 < r) : dig r = 16 := by
  unfold dig; rw [if_neg (by omega), if_neg (by omega), if_neg (by omega)]

theorem ret_two {k : IntKind} {a b : Int} {c d : Bool} (h : a = b) (h' : c = d) : Ending.returned (.tuple #[.int k a, .bool c]) = .returned (.tuple #[.int k b, .bool d]) := by rw [h, h']
theorem ret_int {k : IntKind} {a b : Int} (h : a = b) : Ending.returned (.int k a) = .returned (.int k b) := by rw [h]

end Go.Proofs.YtlfhomahbacmpaaDoor

namespace Go.Proofs.YtlfhomahbacmpaaDoor
open Go.RowKit
set_option linter.unusedVariables false

/-- byte k of a string, as a number; none: 0 -/
def bt (s : ByteArray) (k : Nat) : Int := ((s.data.toList[k]?.getD 0).toNat : Int)
/-- the number of the four bytes from k on -/
def num4 (s : ByteArray) (k : Nat) : Int := bt s k + 256 * bt s (k + 1) + 65536 * bt s (k + 2) + 16777216 * bt s (k + 3)

theorem conv4 (w : World) (a b c d : Int) :
    (convert 44 9 (.slice (some ⟨w.heap.size, 0, none⟩) 4 4)).run Tryd.prog (w.alloc (.cells #[.int .u8 a, .int .u8 b, .int .u8 c, .int .u8 d] 5)) = .ok (.string (strOfNums [a, b, c, d])) (w.alloc (.cells #[.int .u8 a, .int .u8 b, .int .u8 c, .int .u8 d] 5)) := by
  refine run_convert_bytes_arg _ 44 5 Tryd.underlying44 Tryd.underlying5 _ 0 4 4 [a, b, c, d] rfl (fun i hi => ?_) 9 Tryd.underlying9
  rw [Nat.zero_add, World.cell?_alloc_at _ _ _ _ rfl]
  rcases (show i = 0 ∨ i = 1 ∨ i = 2 ∨ i = 3 by omega) with rfl | rfl | rfl | rfl <;> rfl

theorem bt_lt (s : ByteArray) (k : Nat) : 0 ≤ bt s k ∧ bt s k < 256 := by unfold bt; have := UInt8.toNat_lt (s.data.toList[k]?.getD 0); omega
theorem bt_eq (s : ByteArray) (k : Nat) (h : k < s.size) : ((s[k]'h).toNat : Int) = bt s k := by
  unfold bt
  rw [List.getElem?_eq_getElem (by simpa using h)]
  rfl
theorem num4_lt (s : ByteArray) (k : Nat) : 0 ≤ num4 s k ∧ num4 s k ≤ 4294967295 := by
  unfold num4; have h0 := bt_lt s k; have h1 := bt_lt s (k + 1); have h2 := bt_lt s (k + 2); have h3 := bt_lt s (k + 3); omega

theorem wraps_u32 (n : Int) (h₀ : 0 ≤ n) (h₁ : n < 2 ^ 32) : IntKind.u32.wrap n = n := by rw [IntKind.wrap_u32']; omega
theorem or32 (i : Nat) (x y : Int) (hx0 : 0 ≤ x) (hx : x < 2 ^ i) (hx1 : x < 2 ^ 32) (hy0 : 0 ≤ y) (hy : y % 2 ^ i = 0) (hy1 : y < 2 ^ 32) : bits .or .u32 x y = x + y := by
  have hc : bits .or .u32 x y = bits .or .u32 y x := by simp only [bits, BitVec.or_comm]
  rw [hc, bits_join .u32 32 (by decide) wraps_u32 i y x hy0 hy hy1 hx0 hx hx1, Int.add_comm]
theorem or_all (a b c d : Int) (ha : 0 ≤ a ∧ a < 256) (hb : 0 ≤ b ∧ b < 256) (hc : 0 ≤ c ∧ c < 256) (hd : 0 ≤ d ∧ d < 256) :
    bits BinOp.or IntKind.u32 (bits BinOp.or IntKind.u32 (bits BinOp.or IntKind.u32 (bits BinOp.or IntKind.u32 0 (a % 4294967296)) (b % 4294967296 * 256 % 4294967296)) (c % 4294967296 * 65536 % 4294967296)) (d % 4294967296 * 16777216 % 4294967296) = a + 256 * b + 65536 * c + 16777216 * d := by
  have e1 : a % 4294967296 = a := by omega
  have e2 : b % 4294967296 * 256 % 4294967296 = 256 * b := by omega
  have e3 : c % 4294967296 * 65536 % 4294967296 = 65536 * c := by omega
  have e4 : d % 4294967296 * 16777216 % 4294967296 = 16777216 * d := by omega
  rw [e1, e2, e3, e4, or32 0 0 a (by omega) (by omega) (by omega) (by omega) (by omega) (by omega), Int.zero_add,
    or32 8 a (256 * b) (by omega) (by omega) (by omega) (by omega) (by omega) (by omega),
    or32 16 (a + 256 * b) (65536 * c) (by omega) (by omega) (by omega) (by omega) (by omega) (by omega),
    or32 24 (a + 256 * b + 65536 * c) (16777216 * d) (by omega) (by omega) (by omega) (by omega) (by omega) (by omega)]

end Go.Proofs.YtlfhomahbacmpaaDoor

namespace Go.Proofs.YtlfhomahbacmpaaDoor
open Go.RowKit
set_option linter.unusedVariables false

section
variable {P : Program}

/-- a row of bytes that the call owns, as a string -/
theorem conv_own (w : World) (src dst e : TypeId) (hs : P.underlying src = some (.slice e)) (he : P.underlying e = some (.int .u8)) (hd : P.underlying dst = some .string)
    {base : Nat} {et : TypeId} {v : Value} {n : Nat} {xs : List Int} (hown : w.ownsRow base et 1 v n (xs.map (Value.int .u8))) :
    (convert src dst v).run P w = .ok (.string (strOfNums xs)) w := by
  have hl : xs.length = n := by simpa using hown.1
  rcases hown.2 with ⟨rfl, hn⟩ | ⟨g, cap, cur, rfl, hrest⟩
  · have : xs = [] := List.length_eq_zero_iff.1 (by omega)
    subst this
    exact run_convert_bytes_nil w src e hs he 0 0 dst hd
  · refine run_convert_bytes_arg w src e hs he g 0 n cap xs hl (fun i hi => ?_) dst hd
    rw [Nat.zero_add, hown.cellAt i (by omega), List.getElem?_map, List.getElem?_eq_getElem (by omega)]
    simp [List.getD, List.getElem?_eq_getElem (show i < xs.length by omega)]

/-- the block of an owned row holds cells -/
theorem own_ne_iter {w : World} {base : Nat} {e : TypeId} {size : Nat} {v : Value} {n : Nat} {xs : List Value} (h : w.ownsRow base e size v n xs) {k : Nat} {s : ByteArray} {pos : Nat}
    (hk : w.heap[k]? = some (.stringIter s pos)) : some k ≠ v.ownBlock := by
  rcases h.2 with ⟨rfl, _⟩ | ⟨g, cap, cur, rfl, _, hg, _⟩
  · simp [Value.ownBlock]
  · intro e1
    simp only [Value.ownBlock, Option.some.injEq] at e1
    rw [e1, hg] at hk
    cases hk

/-- an owned row stays one while an iterator moves on -/
theorem own_iterAt {w : World} {base : Nat} {e : TypeId} {size : Nat} {v : Value} {n : Nat} {xs : List Value} (h : w.ownsRow base e size v n xs) {k : Nat} {s : ByteArray} {pos : Nat}
    (hk : w.heap[k]? = some (.stringIter s pos)) (pos' : Nat) : (w.iterAt k s pos').ownsRow base e size v n xs := by
  have hne := own_ne_iter h hk
  refine ⟨h.1, ?_⟩
  rcases h.2 with hn | ⟨g, cap, cur, rfl, hb, hg, rest⟩
  · exact .inl hn
  · refine .inr ⟨g, cap, cur, rfl, hb, ?_, rest⟩
    rw [Lib.iterAt_other _ _ _ _ _ (by intro e1; apply hne; simp [Value.ownBlock, e1])]
    exact hg

theorem iterPos_at (w : World) (k : Nat) (s : ByteArray) (pos : Nat) (hk : w.heap[k]? = some (.stringIter s pos)) : w.iterPos k = pos := by simp [World.iterPos, hk]

/-- the new one-cell block that 'append(out, x)' reads -/
theorem news_one (w : World) (v : Value) (t : TypeId) : ∀ j u, [v][j]? = some u → (w.alloc (.cells #[v] t)).cell? ((⟨w.heap.size, 0, none⟩ : Addr).add j) = some u := by
  intro j u hj
  have : j = 0 := by
    rcases Nat.lt_or_ge j 1 with h | h
    · omega
    · rw [List.getElem?_eq_none (by simpa using h)] at hj; cases hj
  subst this
  simp only [List.getElem?_cons_zero, Option.some.injEq] at hj
  subst hj
  simp [Addr.add, World.cell?_alloc_at _ _ _ _ rfl]

theorem news_two (w : World) (v u : Value) (t : TypeId) : ∀ j x, [v, u][j]? = some x → (w.alloc (.cells #[v, u] t)).cell? ((⟨w.heap.size, 0, none⟩ : Addr).add j) = some x := by
  intro j x hj
  rcases Nat.lt_or_ge j 2 with h | h
  · rcases (show j = 0 ∨ j = 1 by omega) with rfl | rfl
    · simp only [List.getElem?_cons_zero, Option.some.injEq] at hj
      subst hj
      simp [Addr.add, World.cell?_alloc_at _ _ _ _ rfl]
    · simp only [List.getElem?_cons_succ, List.getElem?_cons_zero, Option.some.injEq] at hj
      subst hj
      simp [Addr.add, World.cell?_alloc_at _ _ _ _ rfl]
  · rw [List.getElem?_eq_none (by simpa using h)] at hj; cases hj

end

theorem info8 : (Tryd.prog.info? 5).map (fun i => (i.zero, i.size, i.bytes)) = some (some (.int .u8 0), 1, 1) := by kernel_rfl

theorem run_make8 (n : Int) (h0 : 0 ≤ n) (h1 : n ≤ 140737488355328) (w : World) :
    (Instr.makeSlice 44 (.int .i64 0) (.int .i64 n)).run Tryd.prog w = .ok (.slice (some ⟨w.heap.size, 0, none⟩) 0 n.toNat) (w.alloc (.cells (madeCells #[.int .u8 0] n.toNat) 5)) := by
  obtain ⟨i0, hi, hz0, hz1, hz2⟩ := info_parts info8
  have := run_make (P := Tryd.prog) w 44 5 i0 (.int .u8 0) Tryd.underlying44 hi hz0 .i64 .i64 0 n (Int.le_refl _) h0 (by rw [hz2]; omega) (by omega)
  rw [hz1, Nat.mul_one] at this
  exact this

end Go.Proofs.YtlfhomahbacmpaaDoor

namespace Go.Proofs.YtlfhomahbacmpaaDoor
open Go.RowKit
set_option linter.unusedVariables false

/-- the worth of byte k of s, as a digit -/
def dg (s : ByteArray) (k : Nat) : Int := dig (bt s k)
/-- the i-th byte that the digits of s make -/
def unb (s : ByteArray) (i : Nat) : Int := 16 * dg s (2 * i) + dg s (2 * i + 1)
def unl (s : ByteArray) (n : Nat) : List Int := (List.range n).map (unb s)
/-- the first k bytes of s are digits -/
def isdig (s : ByteArray) (k : Nat) : Prop := ∀ i, i < k → dg s i < 16

theorem unl_succ (s : ByteArray) (n : Nat) : unl s (n + 1) = unl s n ++ [unb s n] := by simp [unl, List.range_succ]
theorem unl_len (s : ByteArray) (n : Nat) : (unl s n).length = n := by simp [unl]

theorem wraps_i64p (n : Int) (h₀ : 0 ≤ n) (h₁ : n < 2 ^ 63) : IntKind.i64.wrap n = n := by rw [IntKind.wrap_i64]; omega
theorem or_dig (a b : Int) (ha : 0 ≤ a ∧ a < 16) (hb : 0 ≤ b ∧ b < 16) : bits BinOp.or IntKind.i64 (a * 16) b = 16 * a + b := by
  rw [bits_join .i64 63 (by decide) wraps_i64p 4 (a * 16) b (by omega) (by omega) (by omega) (by omega) (by omega) (by omega)]; omega

/-- what Unhex holds at the head of a round -/
def unRel (B : Nat) (s : ByteArray) (w : World) (high half v : Value) (wr : World) : Prop :=
  ∃ pos : Nat, pos ≤ s.size ∧ isdig s pos ∧ wr.heap[B + 1]? = some (.stringIter s pos) ∧ Below B w wr ∧
    half = .bool (decide (pos % 2 = 1)) ∧ (pos % 2 = 1 → high = .int .i64 (dg s (pos - 1))) ∧ (∃ h, high = .int .i64 h) ∧
    wr.ownsRow B 5 1 v (pos / 2) ((unl s (pos / 2)).map (Value.int .u8))


def unOk (s : ByteArray) : Prop := isdig s s.size ∧ s.size % 2 = 0
def UnPost (s : ByteArray) (w : World) (e : Ending) (w' : World) : Prop :=
  ((unOk s ∧ e = .returned (.tuple #[.string (strOfNums (unl s (s.size / 2))), .bool true])) ∨ (¬ unOk s ∧ e = .returned (.tuple #[.string ⟨#[]⟩, .bool false]))) ∧ Below w.heap.size w w'

theorem dg_bd (s : ByteArray) (k : Nat) : 0 ≤ dg s k ∧ dg s k ≤ 16 := dig_bd _
theorem bt_of_dg {s : ByteArray} {k : Nat} (h : dg s k < 16) : (48 ≤ bt s k ∧ bt s k ≤ 57) ∨ (65 ≤ bt s k ∧ bt s k ≤ 70) ∨ (97 ≤ bt s k ∧ bt s k ≤ 102) := by
  have := fun h => dig_no (r := bt s k) h
  unfold dg at h
  omega
theorem bt_of_no {s : ByteArray} {k : Nat} (h : ¬ dg s k < 16) : bt s k < 48 ∨ (57 < bt s k ∧ bt s k < 65) ∨ (70 < bt s k ∧ bt s k < 97) ∨ 102 < bt s k := by
  have h0 := fun h => dig_0 (r := bt s k) h
  have h1 := fun h => dig_A (r := bt s k) h
  have h2 := fun h => dig_a (r := bt s k) h
  unfold dg at h
  omega

theorem next_dg (s : ByteArray) (pos k : Nat) (wr : World) (hp : pos < s.size) (h : dg s pos < 16) (hit : wr.heap[k]? = some (.stringIter s pos)) (ty : TypeId) :
    (Instr.next (.pointer (some ⟨k, 0, none⟩)) true ty).run Tryd.prog wr = .ok (.tuple #[.bool true, .int .i64 pos, .int .i32 (bt s pos)]) (wr.iterAt k s (pos + 1)) := by
  have hb := bt_of_dg h
  rw [← bt_eq s pos hp] at hb ⊢
  exact Lib.run_next_ascii_at wr k s pos ty hit hp (by omega)

/-- at a byte that is no digit the next rune is none either -/
theorem next_no (s : ByteArray) (pos k : Nat) (wr : World) (hp : pos < s.size) (h : ¬ dg s pos < 16) (hit : wr.heap[k]? = some (.stringIter s pos)) :
    ∃ (r : Int) (d : Nat), (r < 48 ∨ (57 < r ∧ r < 65) ∨ (70 < r ∧ r < 97) ∨ 102 < r) ∧
      ∀ ty, (Instr.next (.pointer (some ⟨k, 0, none⟩)) true ty).run Tryd.prog wr = .ok (.tuple #[.bool true, .int .i64 pos, .int .i32 r]) (wr.iterAt k s (pos + d)) := by
  refine ⟨_, _, ?_, fun ty => Lib.run_next_any_at wr k s pos ty hit hp⟩
  by_cases ha : (s[pos]'hp).toNat < 128
  · rw [decode_ascii s pos hp ha]
    have := bt_of_no h
    rw [← bt_eq s pos hp] at this
    exact this
  · have := (decode_high s pos hp (by omega)).1
    omega

theorem un_step0 {B : Nat} {s : ByteArray} {w wr : World} {pos : Nat} {v half : Value} (hp : pos < s.size) (hd : isdig s pos) (h : dg s pos < 16) (h2 : ¬ pos % 2 = 1)
    (hit : wr.heap[B + 1]? = some (.stringIter s pos)) (hB : Below B w wr) (hown : wr.ownsRow B 5 1 v (pos / 2) ((unl s (pos / 2)).map (Value.int .u8))) :
    unRel B s w (.int .i64 (dg s pos)) (.bool true) v (wr.iterAt (B + 1) s (pos + 1)) := by
  refine ⟨pos + 1, by omega, fun i hi => ?_, Lib.iterAt_heap _ _ _ _ _ hit, Lib.below_iterAt hB (by omega) _ _, ?_, fun _ => ?_, ⟨_, rfl⟩, ?_⟩
  · rcases Nat.lt_or_ge i pos with h' | h'
    · exact hd i h'
    · rw [show i = pos by omega]; exact h
  · rw [decide_eq_true (by omega)]
  · rw [Nat.add_sub_cancel]
  · rw [show (pos + 1) / 2 = pos / 2 by omega]
    exact own_iterAt hown hit _

theorem un_step1 {B : Nat} {s : ByteArray} {w wr w1 : World} {pos : Nat} {v v' : Value} {o : Obj} (hp : pos < s.size) (hd : isdig s pos) (h : dg s pos < 16) (h2 : pos % 2 = 1)
    (hit : wr.heap[B + 1]? = some (.stringIter s pos)) (hB : Below B w wr) (hsz : B + 1 < wr.heap.size) (hown : wr.ownsRow B 5 1 v (pos / 2) ((unl s (pos / 2)).map (Value.int .u8)))
    (hown1 : w1.ownsRow B 5 1 v' (pos / 2 + 1) ((unl s (pos / 2)).map (Value.int .u8) ++ [.int .u8 (16 * dg s (pos - 1) + dg s pos)]))
    (hgrow : ((wr.iterAt (B + 1) s (pos + 1)).alloc o).grownBy w1 v.ownBlock) :
    unRel B s w (.int .i64 (dg s pos)) (.bool false) v' w1 ∧ w1.heap[B + 1]? = some (.stringIter s (pos + 1)) := by
  have hit2 := Lib.iterAt_heap wr (B + 1) s pos (pos + 1) hit
  have hne := own_ne_iter hown hit
  have hit3 : w1.heap[B + 1]? = some (.stringIter s (pos + 1)) := by
    rw [hgrow.block (B + 1) (by simp [Lib.iterAt_size]; omega) hne, Below.heap_alloc _ _ _ (by rw [Lib.iterAt_size]; exact hsz)]
    exact hit2
  have hB2 := Lib.below_iterAt hB (k := B + 1) (by omega) s (pos + 1)
  refine ⟨⟨pos + 1, by omega, fun i hi => ?_, hit3, ?_, ?_, fun _ => ?_, ⟨_, rfl⟩, ?_⟩, hit3⟩
  · rcases Nat.lt_or_ge i pos with h' | h'
    · exact hd i h'
    · rw [show i = pos by omega]; exact h
  · refine (hB2.alloc (by rw [Lib.iterAt_size]; omega) o).grown hgrow (by simp [Lib.iterAt_size]; omega) (fun k hk => (hown.lt k hk).1)
  · rw [decide_eq_false (by omega)]
  · rw [Nat.add_sub_cancel]
  · rw [show (pos + 1) / 2 = pos / 2 + 1 by omega, unl_succ, List.map_append]
    have e : unb s (pos / 2) = 16 * dg s (pos - 1) + dg s pos := by
      unfold unb; rw [show 2 * (pos / 2) = pos - 1 by omega, show pos - 1 + 1 = pos by omega]
    rw [List.map_cons, List.map_nil, e]
    exact hown1

end Go.Proofs.YtlfhomahbacmpaaDoor

namespace Go.Proofs.YtlfhomahbacmpaaDoor
open Go.RowKit
set_option linter.unusedVariables false

/-- the sign of a worth -/
def hx (d : Int) : Int := if d < 10 then 48 + d else 55 + d
def hexl (s : ByteArray) (n : Nat) : List Int := (List.range n).flatMap fun i => [hx (bt s i / 16), hx (bt s i % 16)]
theorem hexl_succ (s : ByteArray) (n : Nat) : hexl s (n + 1) = hexl s n ++ [hx (bt s n / 16), hx (bt s n % 16)] := by simp [hexl, List.range_succ]
theorem hexl_len (s : ByteArray) (n : Nat) : (hexl s n).length = 2 * n := by
  induction n with
  | zero => rfl
  | succ n ih => rw [hexl_succ, List.length_append, ih]; simp; omega

theorem index_digs (d : Int) (h0 : 0 ≤ d) (h1 : d < 16) (h : d.toNat < (⟨#[48, 49, 50, 51, 52, 53, 54, 55, 56, 57, 65, 66, 67, 68, 69, 70]⟩ : ByteArray).size) :
    (((⟨#[48, 49, 50, 51, 52, 53, 54, 55, 56, 57, 65, 66, 67, 68, 69, 70]⟩ : ByteArray)[d.toNat]'h).toNat : Int) = hx d := by
  rcases (show d = 0 ∨ d = 1 ∨ d = 2 ∨ d = 3 ∨ d = 4 ∨ d = 5 ∨ d = 6 ∨ d = 7 ∨ d = 8 ∨ d = 9 ∨ d = 10 ∨ d = 11 ∨ d = 12 ∨ d = 13 ∨ d = 14 ∨ d = 15 from by omega) with rfl | rfl | rfl | rfl | rfl | rfl | rfl | rfl | rfl | rfl | rfl | rfl | rfl | rfl | rfl | rfl <;> rfl

def hexRel (B : Nat) (s : ByteArray) (w : World) (v i : Value) (wr : World) : Prop :=
  ∃ k : Nat, k ≤ s.size ∧ i = .int .i64 k ∧ Below B w wr ∧ B < wr.heap.size ∧ wr.ownsRow B 5 1 v (2 * k) ((hexl s k).map (Value.int .u8))

theorem hexstep {B : Nat} {s : ByteArray} {w wr w1 : World} (k : Nat) {u v : Value} {o : Obj} (hbw : Below B w wr) (hsz : B < wr.heap.size) (hp : k < s.size)
    (hown : wr.ownsRow B 5 1 u (2 * k) ((hexl s k).map (Value.int .u8)))
    (hown1 : w1.ownsRow B 5 1 v (2 * k + 2) ((hexl s k).map (Value.int .u8) ++ [.int .u8 (hx (bt s k / 16)), .int .u8 (hx (bt s k % 16))]))
    (hgrow : ((wr.alloc o).drew).grownBy w1 u.ownBlock) : hexRel B s w v (.int .i64 ((k : Int) + 1)) w1 := by
  have hgrow' : (wr.alloc o).grownBy w1 u.ownBlock := ⟨hgrow.os, hgrow.tape, hgrow.output, hgrow.size, hgrow.block⟩
  have hsz1 : wr.heap.size + 1 ≤ w1.heap.size := by have := hgrow'.size; simpa using this
  refine ⟨k + 1, by omega, by simp, (hbw.alloc (by omega) o).grown hgrow' (by simp; omega) (fun j hj => (hown.lt j hj).1), by omega, ?_⟩
  rw [hexl_succ, List.map_append]
  exact hown1

end Go.Proofs.YtlfhomahbacmpaaDoor

namespace Go.Proofs.YtlfhomahbacmpaaDoor
open Go.RowKit
set_option linter.unusedVariables false

/-- how many bits of a byte are set -/
def pc (x : Int) : Int := x % 2 + x / 2 % 2 + x / 4 % 2 + x / 8 % 2 + x / 16 % 2 + x / 32 % 2 + x / 64 % 2 + x / 128 % 2
def ones (s : ByteArray) : Nat → Int
  | 0 => 0
  | n + 1 => ones s n + pc (bt s n)
theorem pc_bd (x : Int) : 0 ≤ pc x ∧ pc x ≤ 8 := by unfold pc; omega
theorem ones_bd (s : ByteArray) : ∀ n, 0 ≤ ones s n ∧ ones s n ≤ 8 * n
  | 0 => by simp [ones]
  | n + 1 => by have h := ones_bd s n; have h' := pc_bd (bt s n); simp only [ones]; omega

end Go.Proofs.YtlfhomahbacmpaaDoor

namespace Go.Proofs.YtlfhomahbacmpaaDoor
open Go.RowKit
set_option linter.unusedVariables false


theorem bt_ofNums (xs : List Int) (k : Nat) (hx : ∀ x ∈ xs, 0 ≤ x ∧ x < 256) (hk : k < xs.length) : bt (strOfNums xs) k = xs.getD k 0 := by
  have hm := hx xs[k] (List.getElem_mem hk)
  unfold bt
  rw [strOfNums_data, List.getElem?_map, List.getElem?_eq_getElem hk]
  simp only [Option.map_some, Option.getD_some, List.getD_eq_getElem?_getD, List.getElem?_eq_getElem hk]
  have : (xs[k].toNat) % 256 = xs[k].toNat := by omega
  simp only [UInt8.toNat_ofNat']
  omega

theorem num4_put (n : Int) (h0 : 0 ≤ n) (h1 : n ≤ 4294967295) : num4 (strOfNums [n % 256, n / 256 % 256, n / 65536 % 256, n / 16777216]) 0 = n := by
  have hx : ∀ x ∈ [n % 256, n / 256 % 256, n / 65536 % 256, n / 16777216], 0 ≤ x ∧ x < 256 := by
    intro x hx
    simp only [List.mem_cons, List.not_mem_nil, or_false] at hx
    rcases hx with rfl | rfl | rfl | rfl <;> omega
  unfold num4
  rw [bt_ofNums _ 0 hx (by simp), bt_ofNums _ 1 hx (by simp), bt_ofNums _ 2 hx (by simp), bt_ofNums _ 3 hx (by simp)]
  simp
  omega

end Go.Proofs.YtlfhomahbacmpaaDoor
