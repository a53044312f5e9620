/- Of no program: two rows of cells of a type without pointers that read alike are alike; a frame among the arguments. -/
import Derived.Test.YtfjebggekghgkaaRows
import Derived.WalkKit
import Derived.ProofKit
import Derived.OpenShut
import Derived.ChangeArms
import Derived.ChangeOld
import Derived.Lib.SmallJoins
import Derived.LaidMore
namespace Go.Proofs.Ytfjebggekghgkaa
open Go.RowKit Go.ChangeShapes Go.WideShapes Go.Joins
set_option linter.unusedVariables false

def flatB (P : Program) : Nat → TypeId → Bool
  | 0, _ => false
  | k + 1, t => match P.underlying t with
    | some .bool => true
    | some (.int _) => true
    | some .string => true
    | some (.struct fs) => (fs.toList.all fun f => flatB P k f.type) && ((List.range (P.cellsOf t)).all fun i => fs.toList.any fun f => decide (f.offset ≤ i) && decide (i < f.offset + P.cellsOf f.type))
    | some (.array n e) => flatB P k e && decide (P.cellsOf t = n * P.cellsOf e)
    | _ => false

theorem seg_get {l : List Value} {off c i : Nat} (h0 : off ≤ i) (h1 : i < off + c) : l[i]? = ((l.drop off).take c)[i - off]? := by
  rw [List.getElem?_take_of_lt (by omega), List.getElem?_drop]
  congr 1
  omega

section
variable {H : Type} {enc enc' : TypeId × Value → H} {P : Program} {w w' : World} {base base' : Nat} {sp sp' : Nat → Bool} {held held' : Bool}
theorem flat_inj : ∀ (k : Nat) (t : TypeId) (n n' : Nat) (cs cs' : List Value) (x x' : DataW H × List MemPlace), flatB P k t = true →
    DataW.trod enc P w base sp held n t cs = some x → DataW.trod enc' P w' base' sp' held' n' t cs' = some x' → x.1 = x'.1 → cs = cs'
  | 0, t, n, n', cs, cs', x, x', hf, _, _, _ => by cases hf
  | k + 1, t, n, n', cs, cs', x, x', hf, h, h', he => by
    unfold flatB at hf
    split at hf
    · rename_i ht
      obtain ⟨b, rfl, rfl⟩ := DataW.trod_bool ht h
      obtain ⟨b', rfl, rfl⟩ := DataW.trod_bool ht h'
      cases he; rfl
    · rename_i ht
      obtain ⟨b, rfl, rfl, _⟩ := DataW.trod_int ht h
      obtain ⟨b', rfl, rfl, _⟩ := DataW.trod_int ht h'
      cases he; rfl
    · rename_i ht
      obtain ⟨b, rfl, rfl, _⟩ := DataW.trod_string ht h
      obtain ⟨b', rfl, rfl, _⟩ := DataW.trod_string ht h'
      obtain ⟨⟨b⟩⟩ := b
      obtain ⟨⟨b'⟩⟩ := b'
      simp at he
      rw [he]
    · rename_i fs ht
      obtain ⟨xs, m, _, rfl, hl, hxl, hx⟩ := DataW.trod_struct ht h
      obtain ⟨xs', m', _, rfl, hl', hxl', hx'⟩ := DataW.trod_struct ht h'
      simp only [Bool.and_eq_true, List.all_eq_true, List.any_eq_true, List.mem_range, decide_eq_true_eq] at hf
      obtain ⟨hf1, hf2⟩ := hf
      have he' : xs.map (·.1) = xs'.map (·.1) := by simpa using he
      apply List.ext_getElem?
      intro i
      by_cases hi : i < P.cellsOf t
      · obtain ⟨f, hfm, h0, h1⟩ := hf2 i hi
        obtain ⟨j, hj, hjf⟩ := List.getElem_of_mem hfm
        have hj' : j < fs.size := by simpa using hj
        have hjf' : fs[j]? = some f := by rw [Array.getElem?_eq_getElem hj']; simpa using hjf
        have e1 := hx j f hjf'
        have e2 := hx' j f hjf'
        have g1 : xs[j]? = some xs[j] := List.getElem?_eq_getElem (by omega)
        have g2 : xs'[j]? = some xs'[j] := List.getElem?_eq_getElem (by omega)
        have he2 : (xs[j]).1 = (xs'[j]).1 := by
          have := congrArg (·[j]?) he'
          simpa [g1, g2] using this
        rw [seg_get h0 h1, seg_get (l := cs') h0 h1]
        rw [flat_inj k f.type m m' _ _ _ _ (hf1 f hfm) (e1.trans g1) (e2.trans g2) he2]
      · rw [List.getElem?_eq_none (by omega), List.getElem?_eq_none (by omega)]
    · rename_i len e ht
      obtain ⟨xs, m, _, rfl, hl, hxl, hx⟩ := DataW.trod_array ht h
      obtain ⟨xs', m', _, rfl, hl', hxl', hx'⟩ := DataW.trod_array ht h'
      simp only [Bool.and_eq_true, decide_eq_true_eq] at hf
      obtain ⟨hf1, hf2⟩ := hf
      have he' : xs.map (·.1) = xs'.map (·.1) := by simpa using he
      apply List.ext_getElem?
      intro i
      by_cases hi : i < P.cellsOf t
      · have hc : 0 < P.cellsOf e := by
          rcases Nat.eq_zero_or_pos (P.cellsOf e) with h | h
          · rw [hf2, h] at hi; simp at hi
          · exact h
        have hj : i / P.cellsOf e < len := (Nat.div_lt_iff_lt_mul hc).2 (by omega)
        have e1 := hx (i / P.cellsOf e) hj
        have e2 := hx' (i / P.cellsOf e) hj
        have g1 : xs[i / P.cellsOf e]? = some (xs[i / P.cellsOf e]'(by omega)) := List.getElem?_eq_getElem (by omega)
        have g2 : xs'[i / P.cellsOf e]? = some (xs'[i / P.cellsOf e]'(by omega)) := List.getElem?_eq_getElem (by omega)
        have he2 : (xs[i / P.cellsOf e]'(by omega)).1 = (xs'[i / P.cellsOf e]'(by omega)).1 := by
          have := congrArg (·[i / P.cellsOf e]?) he'
          simpa [g1, g2] using this
        have h0 : i / P.cellsOf e * P.cellsOf e ≤ i := Nat.div_mul_le_self _ _
        have h1 : i < i / P.cellsOf e * P.cellsOf e + P.cellsOf e := by have := Nat.lt_div_mul_add (a := i) hc; omega
        rw [seg_get h0 h1, seg_get (l := cs') h0 h1]
        rw [flat_inj k e m m' _ _ _ _ hf1 (e1.trans g1) (e2.trans g2) he2]
      · rw [List.getElem?_eq_none (by omega), List.getElem?_eq_none (by omega)]
    · cases hf
end

/-- a variable that reads as a known datum holds known cells -/
theorem var_cells {P : Program} {W : World} {cs : Array Value} {name : String} {k g : Nat} {t : TypeId} {fuel m : Nat} {d : DataW Unit} {p q : List MemPlace} {known : Array Value} (hf : flatB P k t = true) (hg : P.globalNamed name = some g)
    (hv : W.var? P name = some cs) (h : DataW.trod (fun _ => ()) P W 0 (fun _ => true) false fuel t cs.toList = some (d, p))
    (hk : DataW.trod (fun _ => ()) P W 0 (fun _ => true) false m t known.toList = some (d, q)) : ∃ t fr, W.heap[g]? = some (.cells known t fr) := by
  have e : cs = known := Array.toList_inj.1 (flat_inj k t _ _ _ _ _ _ hf h hk rfl)
  subst e
  unfold World.var? at hv
  simp only [hg, Option.bind_some] at hv
  split at hv
  · rename_i c t fr hh
    cases hv
    exact ⟨t, fr, hh⟩
  · cases hv

end Go.Proofs.Ytfjebggekghgkaa
