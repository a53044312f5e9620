/- Of no program: the cells of a type without pointers, one by one, by the type's shape: an argument that is such a struct, or a slice of such. -/
import Derived.Test.YtfjebggekghgkaaRows
import Derived.WalkKit
import Derived.ProofKit
import Derived.OpenShut
import Derived.ChangeArms
import Derived.ChangeOld
import Derived.Deep.Slices
namespace Go.Proofs.Ytfjebggekghgkaa
open Go.RowKit Go.ChangeShapes Go.WideShapes Go.Deep
set_option linter.unusedVariables false

inductive Sh where
  | int (k : IntKind)
  | bool
  | str
def Sh.fits : Sh → Value → Prop
  | .int k, v => ∃ n, v = .int k n ∧ (Lit.int k n).wf = true
  | .bool, v => ∃ b, v = .bool b
  | .str, v => ∃ s, v = .string s ∧ s.size ≤ maxLen
def FitsAll : List Sh → List Value → Prop
  | [], [] => True
  | s :: ss, v :: vs => s.fits v ∧ FitsAll ss vs
  | _, _ => False
theorem FitsAll.cons {s : Sh} {ss : List Sh} {l : List Value} (h : FitsAll (s :: ss) l) : ∃ v vs, l = v :: vs ∧ s.fits v ∧ FitsAll ss vs := by
  cases l with
  | nil => cases h
  | cons v vs => exact ⟨v, vs, rfl, h.1, h.2⟩
theorem FitsAll.nil {l : List Value} (h : FitsAll [] l) : l = [] := by
  cases l with
  | nil => rfl
  | cons v vs => cases h
theorem FitsAll.length : ∀ {ss : List Sh} {l : List Value}, FitsAll ss l → l.length = ss.length
  | [], [], _ => rfl
  | _ :: ss, _ :: l, h => by simp [FitsAll.length h.2]
  | [], _ :: _, h => by cases h
  | _ :: _, [], h => by cases h
theorem FitsAll.app : ∀ {a b : List Sh} {l m : List Value}, FitsAll a l → FitsAll b m → FitsAll (a ++ b) (l ++ m)
  | [], _, [], _, _, h => h
  | _ :: a, _, _ :: l, _, h, h' => ⟨h.1, FitsAll.app h.2 h'⟩
  | [], _, _ :: _, _, h, _ => by cases h
  | _ :: _, _, [], _, h, _ => by cases h

def goSh (P : Program) (sub : TypeId → Option (List Sh)) : Nat → List Field → Option (List Sh)
  | _, [] => some []
  | off, f :: fs => (sub f.type).bind fun s => if f.offset = off ∧ s.length = P.cellsOf f.type then (goSh P sub (off + s.length) fs).map (s ++ ·) else none
def shapeOf (P : Program) : Nat → TypeId → Option (List Sh)
  | 0, _ => none
  | k + 1, t => match P.underlying t with
    | some .bool => some [.bool]
    | some (.int i) => some [.int i]
    | some .string => some [.str]
    | some (.struct fs) => (goSh P (shapeOf P k) 0 fs.toList).bind fun s => if s.length = P.cellsOf t then some s else none
    | some (.array n e) => (shapeOf P k e).bind fun s => if s.length = P.cellsOf e ∧ P.cellsOf t = n * P.cellsOf e then some ((List.replicate n s).flatten) else none
    | _ => none

section
variable {H : Type} {enc : TypeId × Value → H} {P : Program} {w : World} {base : Nat} {sp : Nat → Bool} {held : Bool}

theorem goSh_fits {sub : TypeId → Option (List Sh)} {cs : List Value} : ∀ (fs : List Field) (off : Nat) (s : List Sh), goSh P sub off fs = some s →
    (∀ f ∈ fs, ∀ s', sub f.type = some s' → FitsAll s' ((cs.drop f.offset).take (P.cellsOf f.type))) → cs.length = off + s.length → FitsAll s (cs.drop off)
  | [], off, s, h, _, hl => by
    cases h
    rw [List.drop_eq_nil_of_le (by simp at hl; omega)]
    trivial
  | f :: fs, off, s, h, hf, hl => by
    unfold goSh at h
    obtain ⟨s1, h1, h2⟩ := Option.bind_eq_some_iff.1 h
    split at h2
    · rename_i hc
      obtain ⟨s2, h3, rfl⟩ := Option.map_eq_some_iff.1 h2
      have a1 := hf f (List.mem_cons_self ..) s1 h1
      have a2 := goSh_fits fs (off + s1.length) s2 h3 (fun g hg => hf g (List.mem_cons_of_mem _ hg)) (by simp at hl; omega)
      rw [hc.1, ← hc.2] at a1
      have e : cs.drop off = (cs.drop off).take s1.length ++ cs.drop (off + s1.length) := by
        rw [← List.drop_drop, List.take_append_drop]
      rw [e]
      exact a1.app a2
    · cases h2
theorem rep_fits {s : List Sh} {c : Nat} {cs : List Value} (hs : s.length = c) : ∀ (n i : Nat), (∀ j, i ≤ j → j < i + n → FitsAll s ((cs.drop (j * c)).take c)) → cs.length = (i + n) * c → FitsAll ((List.replicate n s).flatten) (cs.drop (i * c))
  | 0, i, _, hl => by
    rw [List.drop_eq_nil_of_le (by simp at hl; omega)]
    trivial
  | n + 1, i, h, hl => by
    rw [List.replicate_succ, List.flatten_cons]
    have a1 := h i (Nat.le_refl _) (by omega)
    have a2 := rep_fits hs n (i + 1) (fun j h1 h2 => h j (by omega) (by omega)) (by rw [hl]; congr 1; omega)
    have e : cs.drop (i * c) = (cs.drop (i * c)).take c ++ cs.drop ((i + 1) * c) := by
      rw [Nat.add_mul, Nat.one_mul, ← List.drop_drop, List.take_append_drop]
    rw [e]
    exact a1.app a2

theorem fits_of : ∀ (k : Nat) (t : TypeId) (n : Nat) (s : List Sh) (cs : List Value) (x : DataW H × List MemPlace), shapeOf P k t = some s →
    DataW.trod enc P w base sp held n t cs = some x → FitsAll s cs
  | 0, _, _, _, _, _, h, _ => by cases h
  | k + 1, t, n, s, cs, x, hs, h => by
    unfold shapeOf at hs
    split at hs
    · rename_i ht
      cases hs
      obtain ⟨b, rfl, rfl⟩ := DataW.trod_bool ht h
      exact ⟨⟨b, rfl⟩, trivial⟩
    · rename_i ht
      cases hs
      obtain ⟨b, rfl, rfl, hw⟩ := DataW.trod_int ht h
      exact ⟨⟨b, rfl, hw⟩, trivial⟩
    · rename_i ht
      cases hs
      obtain ⟨b, rfl, rfl, hw⟩ := DataW.trod_string ht h
      exact ⟨⟨b, rfl, hw⟩, trivial⟩
    · rename_i fs ht
      obtain ⟨s', h1, h2⟩ := Option.bind_eq_some_iff.1 hs
      split at h2
      · rename_i hc
        cases h2
        obtain ⟨xs, m, _, rfl, hl, hxl, hx⟩ := DataW.trod_struct ht h
        have := goSh_fits (P := P) (sub := shapeOf P k) (cs := cs) fs.toList 0 s h1 (fun f hf s1 hs1 => ?_) (by omega)
        · simpa using this
        · obtain ⟨j, hj, hjf⟩ := List.getElem_of_mem hf
          have hj' : j < fs.size := by simpa using hj
          have hjf' : fs[j]? = some f := by rw [Array.getElem?_eq_getElem hj']; simpa using hjf
          exact fits_of k f.type m s1 _ _ hs1 ((hx j f hjf').trans (List.getElem?_eq_getElem (by omega)))
      · cases h2
    · rename_i len e ht
      obtain ⟨s', h1, h2⟩ := Option.bind_eq_some_iff.1 hs
      split at h2
      · rename_i hc
        cases h2
        obtain ⟨xs, m, _, rfl, hl, hxl, hx⟩ := DataW.trod_array ht h
        have := rep_fits (cs := cs) hc.1 len 0 (fun j _ hj => fits_of k e m s' _ _ h1 ((hx j (by omega)).trans (List.getElem?_eq_getElem (by omega)))) (by rw [hl, hc.2, Nat.zero_add])
        simpa using this
      · cases h2
    · cases hs

/-- an argument that is a struct without pointers: its cells, one by one -/
theorem open_flat {r : Reach} {b0 k : Nat} {t : TypeId} {fs : Array Field} {v : Value} {d : DataW H} {p : List MemPlace} {s : List Sh} (hs : P.underlying t = some (.struct fs)) (hsh : shapeOf P k t = some s)
    (hv : Value.okWide P w r b0 t v) (h : DataW.Trod enc P w base sp held t v d p) : ∃ l : List Value, v = .agg l.toArray ∧ FitsAll s l := by
  obtain ⟨cs, rfl, _⟩ := okWide_struct hs hv
  obtain ⟨n, hn⟩ := h
  refine ⟨cs.toList, by simp, ?_⟩
  have := fits_of k t n s _ _ hsh hn
  simpa [Value.cells] using this

/-- what is known of a slice of such: nil, or its cells up to the capacity -/
def IsRowOf (w : World) (s : List Sh) (a : Option Addr) (len cap : Nat) (F : Nat → List Value) : Prop :=
  (a = none ∧ len = 0 ∧ cap = 0) ∨
  ∃ x, a = some x ∧ len ≤ cap ∧ cap ≤ maxLen ∧ ∀ i, i < cap → FitsAll s (F i) ∧ ∀ j, j < s.length → w.cell? (x.add (i * s.length + j)) = (F i)[j]?
theorem open_slice_flat {r : Reach} {b0 k : Nat} {t e : TypeId} {v : Value} {d : DataW H} {p : List MemPlace} {s : List Sh} (ht : P.underlying t = some (.slice e)) (hsh : shapeOf P k e = some s) (hc : P.cellsOf e = s.length)
    (hv : Value.okWide P w r b0 t v) (h : DataW.Trod enc P w base (fun _ => true) held t v d p) : ∃ a len cap F, v = .slice a len cap ∧ IsRowOf w s a len cap F := by
  obtain ⟨a, len, cap, rfl⟩ := okWide_slice ht hv
  obtain ⟨n, hn⟩ := h
  rcases Go.Deep.open_slice ht hn with ⟨hcs, _⟩ | ⟨x, len', cap', m, n', D, Pl, hcs, hb, hl, hm, hmm, hx, hi⟩
  · simp [Value.cells] at hcs
    obtain ⟨rfl, rfl, rfl⟩ := hcs
    exact ⟨none, 0, 0, fun _ => [], rfl, .inl ⟨rfl, rfl, rfl⟩⟩
  · simp [Value.cells] at hcs
    obtain ⟨rfl, rfl, rfl⟩ := hcs
    have hmc : m = cap := by simpa using hmm
    subst hmc
    refine ⟨some x, len, m, fun i => if h : i < m then (hi i h).choose else [], rfl, .inr ⟨x, rfl, hl, hm, fun i h => ?_⟩⟩
    simp only [h, dif_pos]
    have hsp := (hi i h).choose_spec
    refine ⟨fits_of k e n' s _ _ hsh hsp.2, fun j hj => ?_⟩
    have := (World.cells?_some hsp.1).2.2 j (by omega)
    rw [Go.Deep.add_add] at this
    rw [← hc]
    exact this
end

end Go.Proofs.Ytfjebggekghgkaa
