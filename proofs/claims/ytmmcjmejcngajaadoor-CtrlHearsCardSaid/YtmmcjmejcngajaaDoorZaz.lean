/- Ctrl: what the walk of CtrlHears knows: the controller, and two rows gathered beside it. -/
import Derived.Test.YtmmcjmejcngajaaDoorZaw
import Derived.Test.YtmmcjmejcngajaaDoorZay
namespace Go.Proofs.YtmmcjmejcngajaaDoor
open Go.RowKit
set_option linter.unusedVariables false

structure HrS (I : World → Value → Ct → (Nat → Prop) → Prop) (W : World) (v : Value) (s : Ct) (O : Nat → Prop) (vi vo : Value) (A B : List Fr) (wr : World) : Prop where
  has : Has I W v s O wr
  ri : RowQ frC 4 wr vi A
  ro : RowQ frC 4 wr vo B
  ni : ∀ g, OwnO vi g → W.heap.size ≤ g
  no : ∀ g, OwnO vo g → W.heap.size ≤ g
  ap : Apart (OwnO vi) (OwnO vo)
  a1 : ∀ g, OwnO vi g → ¬ O g
  a2 : ∀ g, OwnO vo g → ¬ O g
section
variable {I : World → Value → Ct → (Nat → Prop) → Prop} {W wr w' : World} {v vi vo v' : Value} {s s' : Ct} {O O' : Nat → Prop} {A B L : List Fr} {f : Fr} {z : Nat}
theorem HrS.later (hI : IsObj I) (h : HrS I W v s O vi vo A B wr) (hb : Below wr.heap.size wr w') : HrS I W v s O vi vo A B w' := ⟨h.has.later hI hb, h.ri.later hb, h.ro.later hb, h.ni, h.no, h.ap, h.a1, h.a2⟩
theorem HrS.call (hI : IsObj I) (h : HrS I W v s O vi vo A B wr) (hi : I w' v s' O') (hk : Kept O wr w') (hg : Grows O wr O') : HrS I W v s' O' vi vo A B w' :=
  ⟨h.has.step hI hi hk hg, h.ri.stay (fun g hg' => hk.block g (h.ri.lt g hg') (h.a1 g hg')) hk.size, h.ro.stay (fun g hg' => hk.block g (h.ro.lt g hg') (h.a2 g hg')) hk.size, h.ni, h.no, h.ap,
    fun g hg' => out_step (h.ri.lt g hg') (h.a1 g hg') hg, fun g hg' => out_step (h.ro.lt g hg') (h.a2 g hg') hg⟩
theorem HrS.pushI (hI : IsObj I) (h : HrS I W v s O vi vo A B wr) (hq : RowQ frC 4 w' v' L) (hk : Kept (OwnO vi) wr w') (hg : Grows (OwnO vi) wr (OwnO v')) : HrS I W v s O v' vo L B w' := by
  have hl := hI.lt h.has.inv
  refine ⟨⟨hI.stay h.has.inv (fun k ho => hk.block k (hl k ho) (fun hi => h.a1 k hi ho)), hk.below h.has.below h.has.below.size h.ni, h.has.new⟩, hq, h.ro.stay (fun g hg' => hk.block g (h.ro.lt g hg') (fun hi => h.ap g hi hg')) hk.size, fun g hg' => ?_, h.no, fun g h1 h2 => ?_, fun g hg' ho => ?_, h.a2⟩
  · rcases hg g hg' with h1 | h1
    · exact h.ni g h1
    · exact Nat.le_trans h.has.below.size h1
  · rcases hg g h1 with h3 | h3
    · exact h.ap g h3 h2
    · have := h.ro.lt g h2; omega
  · rcases hg g hg' with h3 | h3
    · exact h.a1 g h3 ho
    · have := hl g ho; omega
theorem HrS.pushO (hI : IsObj I) (h : HrS I W v s O vi vo A B wr) (hq : RowQ frC 4 w' v' L) (hk : Kept (OwnO vo) wr w') (hg : Grows (OwnO vo) wr (OwnO v')) : HrS I W v s O vi v' A L w' := by
  have hl := hI.lt h.has.inv
  refine ⟨⟨hI.stay h.has.inv (fun k ho => hk.block k (hl k ho) (fun hi => h.a2 k hi ho)), hk.below h.has.below h.has.below.size h.no, h.has.new⟩, h.ri.stay (fun g hg' => hk.block g (h.ri.lt g hg') (fun hi => h.ap g hg' hi)) hk.size, hq, h.ni, fun g hg' => ?_, fun g h1 h2 => ?_, h.a1, fun g hg' ho => ?_⟩
  · rcases hg g hg' with h1 | h1
    · exact h.no g h1
    · exact Nat.le_trans h.has.below.size h1
  · rcases hg g h2 with h3 | h3
    · exact h.ap g h1 h3
    · have := h.ri.lt g h1; omega
  · rcases hg g hg' with h3 | h3
    · exact h.a2 g h3 ho
    · have := hl g ho; omega
/-- a frame's box of the call's own besides -/
structure HrZ (I : World → Value → Ct → (Nat → Prop) → Prop) (W : World) (v : Value) (s : Ct) (O : Nat → Prop) (vi vo : Value) (A B : List Fr) (z : Nat) (f : Fr) (wr : World) : Prop where
  h : HrS I W v s O vi vo A B wr
  bz : BoxF wr z f.i f.n f.l f.d
  z1 : ¬ O z
  z2 : ¬ OwnO vi z
  z3 : ¬ OwnO vo z
theorem HrZ.made (hI : IsObj I) (h : HrS I W v s O vi vo A B wr) (f : Fr) : HrZ I W v s O vi vo A B wr.heap.size f (wr.alloc (.cells #[.int .i64 f.i, .int .i64 f.n, .int .i64 f.l, .string f.d] 27)) :=
  ⟨h.later hI ((Below.refl _ _).alloc (Nat.le_refl _) _), BoxF.made _ _ _ _ _, fun h1 => absurd (hI.lt h.has.inv _ h1) (Nat.lt_irrefl _), fun h1 => absurd (h.ri.lt _ h1) (Nat.lt_irrefl _), fun h1 => absurd (h.ro.lt _ h1) (Nat.lt_irrefl _)⟩
theorem HrZ.later (hI : IsObj I) (h : HrZ I W v s O vi vo A B z f wr) (hb : Below wr.heap.size wr w') : HrZ I W v s O vi vo A B z f w' := ⟨h.h.later hI hb, h.bz.later hb, h.z1, h.z2, h.z3⟩
theorem HrZ.call (hI : IsObj I) (h : HrZ I W v s O vi vo A B z f wr) (hi : I w' v s' O') (hk : Kept O wr w') (hg : Grows O wr O') : HrZ I W v s' O' vi vo A B z f w' :=
  ⟨h.h.call hI hi hk hg, (hk.block z h.bz.lt h.z1).trans h.bz, out_step h.bz.lt h.z1 hg, h.z2, h.z3⟩
theorem HrZ.pushO (hI : IsObj I) (h : HrZ I W v s O vi vo A B z f wr) (hq : RowQ frC 4 w' v' L) (hk : Kept (OwnO vo) wr w') (hg : Grows (OwnO vo) wr (OwnO v')) : HrZ I W v s O vi v' A L z f w' :=
  ⟨h.h.pushO hI hq hk hg, (hk.block z h.bz.lt h.z3).trans h.bz, h.z1, h.z2, out_step h.bz.lt h.z3 hg⟩
end
/-- what is heard, what is fetched -/
structure HrP (s : Ct) (A B : List Fr) (t : Int) (k : Nat) : Prop where
  ok : s.Ok
  q : A = B ++ s.fifo
  t : t = A.length + s.lost
  l : A.length ≤ k ∧ s.lost ≤ k
theorem HrP.fetch0 {s : Ct} {A B : List Fr} {t : Int} {k : Nat} (h : HrP s A B t k) (hf : s.fifo = []) : s.fetch = (s, frz, false) := by unfold Ct.fetch; rw [hf]
theorem HrP.fetch1 {s : Ct} {A B r : List Fr} {t : Int} {k : Nat} {f : Fr} (h : HrP s A B t k) (hf : s.fifo = f :: r) : s.fetch = ({ s with fifo := r }, f, true) ∧ HrP { s with fifo := r } A (B ++ [f]) t k := by
  have h1 : s.fetch = ({ s with fifo := r }, f, true) := by unfold Ct.fetch; rw [hf]
  have h2 := h.ok.fetch
  rw [h1] at h2
  exact ⟨h1, h2, by rw [h.q, hf]; simp, h.t, h.l⟩
theorem HrP.no {s : Ct} {A B : List Fr} {t : Int} {k : Nat} {f : Fr} (h : HrP s A B t k) (hl : letF s.acc f = false) : s.hear f = (s, false) ∧ HrP s A B t (k + 1) := by
  refine ⟨by unfold Ct.hear; rw [hl, if_pos rfl], h.ok, h.q, h.t, ?_⟩
  have := h.l
  omega
theorem HrP.full {s : Ct} {A B : List Fr} {t : Int} {k : Nat} {f : Fr} (h : HrP s A B t k) (hl : letF s.acc f = true) (hf : (s.fifo.length : Int) = s.room) : ∃ s', s.hear f = (s', false) ∧ s'.va = s.va ∧ s'.acc = s.acc ∧ HrP s' A B (t + 1) (k + 1) := by
  have h1 : s.hear f = ({ s with lost := s.lost + 1, asks := setB s.asks 4 }, false) := by unfold Ct.hear; rw [hl, if_neg (by decide), if_pos hf]
  have h2 := h.ok.hear f
  rw [h1] at h2
  have h3 := h.t
  have h4 := h.l
  exact ⟨_, h1, rfl, rfl, h2, h.q, by show t + 1 = A.length + (s.lost + 1); omega, by show A.length ≤ k + 1 ∧ s.lost + 1 ≤ (k + 1 : Nat); omega⟩
theorem HrP.into {s : Ct} {A B : List Fr} {t : Int} {k : Nat} {f : Fr} (h : HrP s A B t k) (hl : letF s.acc f = true) (hf : ¬ (s.fifo.length : Int) = s.room) : ∃ s', s.hear f = (s', true) ∧ s'.va = s.va ∧ s'.acc = s.acc ∧ HrP s' (A ++ [f]) B (t + 1) (k + 1) := by
  have h1 : s.hear f = ({ s with fifo := s.fifo ++ [f], asks := setB s.asks 2 }, true) := by unfold Ct.hear; rw [hl, if_neg (by decide), if_neg hf]
  have h2 := h.ok.hear f
  rw [h1] at h2
  have h3 := h.t
  have h4 := h.l
  exact ⟨_, h1, rfl, rfl, h2, by rw [h.q]; simp, by show t + 1 = ((A ++ [f]).length : Nat) + s.lost; simp; omega, by show (A ++ [f]).length ≤ k + 1 ∧ s.lost ≤ (k + 1 : Nat); simp; omega⟩
/-! ### how much data -/
def fh5 (f : Fr) : Nat := min f.d.size 5000
def fhN (L : List Fr) (k : Nat) : Nat := ((L.take k).map fh5).sum
theorem fhN_succ (L : List Fr) (k : Nat) (h : k < L.length) : fhN L (k + 1) = fhN L k + fh5 L[k] := by
  unfold fhN
  rw [List.take_succ_eq_append_getElem h, List.map_append, List.sum_append]
  simp only [List.map_cons, List.map_nil, List.sum_cons, List.sum_nil, Nat.add_zero]
theorem fh5_le (f : Fr) : fh5 f ≤ 5000 := Nat.min_le_right _ _
theorem fhN_le (L : List Fr) : ∀ k, fhN L k ≤ 5000 * k
  | 0 => by simp [fhN]
  | k + 1 => by
    have := fhN_le L k
    by_cases h : k < L.length
    · rw [fhN_succ L k h]; have := fh5_le L[k]; omega
    · have e : fhN L (k + 1) = fhN L k := by unfold fhN; rw [List.take_of_length_le (by omega), List.take_of_length_le (by omega)]
      omega
theorem fh_min (n : Nat) : min (n : Int) 5000 = ((min n 5000 : Nat) : Int) := by omega
end Go.Proofs.YtmmcjmejcngajaaDoor
