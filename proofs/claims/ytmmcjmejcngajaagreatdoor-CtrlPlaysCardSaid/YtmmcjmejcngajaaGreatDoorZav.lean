/- Ctrl: what the walks of CtrlPlays and CtrlBits share. Printed by gen_walks.py. -/
import Derived.Test.YtmmcjmejcngajaaGreatDoorZau
import Derived.Test.YtmmcjmejcngajaaGreatDoorZal
import Derived.Test.YtmmcjmejcngajaaGreatDoorZah
namespace Go.Proofs.YtmmcjmejcngajaaGreatDoor
open Go.RowKit
set_option linter.unusedVariables false

def cfOf : List Value → Flt
  | [.int _ i, .int _ m, .bool v] => ⟨i.toNat, m.toNat, v⟩
  | _ => ⟨0, 0, false⟩
abbrev cfSh : List Sh := [.int .u32, .int .u32, .bool]
theorem cfOf_c (l : List Value) (h : FitsAll cfSh l) : flC (cfOf l) = l := by
  obtain ⟨v0, l0, rfl, ⟨a0, rfl, w0⟩, h0⟩ := FitsAll.cons h
  obtain ⟨v1, l1, rfl, ⟨a1, rfl, w1⟩, h1⟩ := FitsAll.cons h0
  obtain ⟨v2, l2, rfl, ⟨a2, rfl⟩, h2⟩ := FitsAll.cons h1
  obtain rfl := FitsAll.nil h2
  have e : ∀ a : Int, (Lit.int .u32 a).wf = true → ((a.toNat : Nat) : Int) = a := fun a h => by
    simp [Lit.wf, IntKind.min, IntKind.max, IntKind.signed, IntKind.bits] at h; omega
  simp only [cfOf, flC, e a0 w0, e a1 w1]
theorem cf_fits {f : Flt} (h : FitsAll cfSh (flC f)) : f.fits := by
  obtain ⟨v0, l0, e0, ⟨a0, rfl, w0⟩, h0⟩ := FitsAll.cons h
  obtain ⟨v1, l1, e1, ⟨a1, rfl, w1⟩, h1⟩ := FitsAll.cons h0
  unfold flC at e0
  injection e0 with e2 e3
  rw [← e3] at e1
  injection e1 with e4 e5
  injection e2 with _ e2
  injection e4 with _ e4
  simp [Lit.wf, IntKind.min, IntKind.max, IntKind.signed, IntKind.bits] at w0 w1
  unfold Flt.fits
  omega
def op9Oc : List Value → Op9
  | [.int _ k, .int _ m, .int _ i, .int _ n, .int _ l, .string d, .int _ fr, .int _ t, .bool lp] => ⟨k, m, ⟨⟨i, n, l, d⟩, fr, t, lp⟩⟩
  | _ => ⟨0, 0, pk0⟩
abbrev op9Sc : List Sh := [.int .i64, .int .i64, .int .i64, .int .i64, .int .i64, .str, .int .i64, .int .i64, .bool]
theorem op9Oc_c (l : List Value) (h : FitsAll op9Sc l) : opC9 (op9Oc l) = l := by
  obtain ⟨v0, l0, rfl, ⟨a0, rfl, _⟩, h0⟩ := FitsAll.cons h
  obtain ⟨v1, l1, rfl, ⟨a1, rfl, _⟩, h1⟩ := FitsAll.cons h0
  obtain ⟨v2, l2, rfl, ⟨a2, rfl, _⟩, h2⟩ := FitsAll.cons h1
  obtain ⟨v3, l3, rfl, ⟨a3, rfl, _⟩, h3⟩ := FitsAll.cons h2
  obtain ⟨v4, l4, rfl, ⟨a4, rfl, _⟩, h4⟩ := FitsAll.cons h3
  obtain ⟨v5, l5, rfl, ⟨a5, rfl, _⟩, h5⟩ := FitsAll.cons h4
  obtain ⟨v6, l6, rfl, ⟨a6, rfl, _⟩, h6⟩ := FitsAll.cons h5
  obtain ⟨v7, l7, rfl, ⟨a7, rfl, _⟩, h7⟩ := FitsAll.cons h6
  obtain ⟨v8, l8, rfl, ⟨a8, rfl⟩, h8⟩ := FitsAll.cons h7
  obtain rfl := FitsAll.nil h8
  rfl
theorem wf_i64c {n : Int} (h : (Lit.int .i64 n).wf = true) : -9223372036854775808 ≤ n ∧ n ≤ 9223372036854775807 := by
  simpa [Lit.wf, show IntKind.i64.min = -9223372036854775808 from rfl] using h
theorem op9c_fits {o : Op9} (h : FitsAll op9Sc (opC9 o)) : o.p.ok ∧ (-9223372036854775808 ≤ o.b ∧ o.b ≤ 9223372036854775807) := by
  obtain ⟨⟨a0, e0, h0⟩, ⟨a1, e1, h1⟩, ⟨a2, e2, h2⟩, ⟨a3, e3, h3⟩, _⟩ := h
  injection e3 with _ e3
  injection e1 with _ e1
  have h4 := wf_i64c h3
  have h5 := wf_i64c h1
  unfold Pk.ok
  omega
theorem fcB_len {c : Cg} {L : List Op9} (h : fcB c L = true) : L.length ≤ 300 := by
  unfold fcB at h
  simp only [Bool.and_eq_true, decide_eq_true_eq] at h
  exact h.1.1
theorem fcB_n {c : Cg} {L : List Op9} (h : fcB c L = true) : c.n ≤ 50 := by
  unfold fcB at h
  simp only [Bool.and_eq_true, decide_eq_true_eq] at h
  exact h.2
/-- in the region that makes both -/
def NewG (I : World → Value → Ct → (Nat → Prop) → Prop) (w0 W : World) (s0 : Ct) (a b c : Tmp) (k : Nat) (xs : Tmp → Option Value) (w : World) : Prop := Below W.heap.size W w ∧
  ((k = 0 ∧ xs a = none ∧ xs b = none ∧ xs c = none) ∨ (k = 1 ∧ xs b = none ∧ ∃ u O, Has I w0 u s0 O w ∧ xs a = some u ∧ ∀ x, xs c = some x → x = u) ∨
   (k = 2 ∧ ∃ u g O O', Pair I CtD w0 u (.pointer (some ⟨g, 0, none⟩)) s0 s0 O O' w ∧ xs a = some u ∧ xs b = some (.pointer (some ⟨g, 0, none⟩)) ∧ ∀ x, xs c = some x → x = u))
section
variable {I : World → Value → Ct → (Nat → Prop) → Prop} {w0 W w w' : World} {s0 : Ct} {a b c : Tmp} {k : Nat} {xs : Tmp → Option Value}
theorem NewG.kept (h : NewG I w0 W s0 a b c k xs w) : Kept (fun _ => False) W w := .of_below h.1
theorem NewG.one (hI : IsObj I) (h : NewG I w0 W s0 a b c 0 xs w) (hW : Below w0.heap.size w0 W) (hac : c ≠ a) (hab : b ≠ a) {u : Value} {O : Nat → Prop} (hi : I w' u s0 O) (hb : Below w.heap.size w w') (hn : ∀ k, O k → w.heap.size ≤ k) : NewG I w0 W s0 a b c 1 (fun t => if t = a then some u else xs t) w' := by
  obtain ⟨hb0, h1⟩ := h
  have hbb := fbelow_t hb0 hb
  refine ⟨hbb, .inr (.inl ⟨rfl, ?_, u, O, ⟨hi, fbelow_t hW hbb, fun k hk => Nat.le_trans hW.size (Nat.le_trans hb0.size (hn k hk))⟩, by simp, fun x hx => ?_⟩)⟩
  · rcases h1 with ⟨_, h2, h3, h4⟩ | ⟨h, _⟩ | ⟨h, _⟩
    · simp only [if_neg hab]; exact h3
    · cases h
    · cases h
  · rcases h1 with ⟨_, h2, h3, h4⟩ | ⟨h, _⟩ | ⟨h, _⟩
    · simp only [if_neg hac] at hx; rw [h4] at hx; cases hx
    · cases h
    · cases h
theorem NewG.two (hI : IsObj I) (h : NewG I w0 W s0 a b c 1 xs w) (hW : Below w0.heap.size w0 W) (hab : a ≠ b) (hcb : c ≠ b) {v : Value} {O' : Nat → Prop} (hi : CtD w' v s0 O') (hb : Below w.heap.size w w') (hn : ∀ k, O' k → w.heap.size ≤ k) : NewG I w0 W s0 a b c 2 (fun t => if t = b then some v else xs t) w' := by
  obtain ⟨hb0, h1⟩ := h
  have hbb := fbelow_t hb0 hb
  rcases h1 with ⟨h, _⟩ | ⟨_, h2, u, O, h3, h4, h5⟩ | ⟨h, _⟩
  · cases h
  · have hi2 := hi
    obtain ⟨g, bv, Ob, vf, rfl, _, _⟩ := hi2
    refine ⟨hbb, .inr (.inr ⟨rfl, u, g, O, O', ⟨h3.later hI hb, ⟨hi, fbelow_t hW hbb, fun k hk => Nat.le_trans hW.size (Nat.le_trans hb0.size (hn k hk))⟩, fun k k1 k2 => ?_⟩, by simp only [if_neg hab]; exact h4, by simp, fun x hx => ?_⟩)⟩
    · have := hI.lt h3.inv k k1
      have := hn k k2
      omega
    · simp only [if_neg hcb] at hx
      exact h5 x hx
  · cases h
theorem NewG.move (h : NewG I w0 W s0 a b c k xs w) {u : Value} (ha : xs a = some u) (hca : a ≠ c) (hcb : b ≠ c) : NewG I w0 W s0 a b c k (fun t => if t = c then some u else xs t) w := by
  obtain ⟨hb0, h1⟩ := h
  refine ⟨hb0, ?_⟩
  rcases h1 with ⟨_, h2, _⟩ | ⟨rfl, h2, u', O, h3, h4, h5⟩ | ⟨rfl, u', g, O, O', h3, h4, h5, h6⟩
  · rw [ha] at h2; cases h2
  · rw [ha] at h4
    injection h4 with h4
    subst h4
    exact .inr (.inl ⟨rfl, by simp only [if_neg hcb]; exact h2, u, O, h3, by simp only [if_neg hca]; exact ha, fun x hx => by simp at hx; exact hx.symm⟩)
  · rw [ha] at h4
    injection h4 with h4
    subst h4
    exact .inr (.inr ⟨rfl, u, g, O, O', h3, by simp only [if_neg hca]; exact ha, by simp only [if_neg hcb]; exact h5, fun x hx => by simp at hx; exact hx.symm⟩)
theorem NewG.out {ua ub uc : Value} (h : NewG I w0 W s0 a b c 2 xs w) (ha : xs a = some ua) (hb : xs b = some ub) (hc : xs c = some uc) : ∃ g O O', uc = ua ∧ ub = .pointer (some ⟨g, 0, none⟩) ∧ Pair I CtD w0 ua (.pointer (some ⟨g, 0, none⟩)) s0 s0 O O' w := by
  obtain ⟨_, ⟨h, _⟩ | ⟨h, _⟩ | ⟨_, u, g, O, O', h1, h2, h3, h4⟩⟩ := h
  · cases h
  · cases h
  · rw [ha] at h2
    rw [hb] at h3
    injection h2 with h2
    injection h3 with h3
    subst h2 h3
    exact ⟨g, O, O', h4 uc hc, rfl, h1⟩
end
/-- in a region that calls do, and asks then -/
def DoG (I : World → Value → Ct → (Nat → Prop) → Prop) (w0 W : World) (v v' : Value) (O O' : Nat → Prop) (s s' : Ct) (a b : Tmp) (k : Nat) (xs : Tmp → Option Value) (w : World) : Prop := Kept (fun k => O k ∨ O' k) W w ∧
  ((k = 0 ∧ Pair I CtD w0 v v' s s O O' w ∧ xs a = none ∧ xs b = none) ∨ (k = 1 ∧ ∃ O1 O2, Pair I CtD w0 v v' s' s' O1 O2 w ∧ (∀ u, xs a = some u → ∃ A c, u = .slice A s'.fifo.length c) ∧ ∀ u, xs b = some u → ∃ Ob, BxD w u s'.bx Ob))
section
variable {I : World → Value → Ct → (Nat → Prop) → Prop} {w0 W w w' : World} {v v' : Value} {O O' : Nat → Prop} {s s' : Ct} {a b : Tmp} {k : Nat} {xs : Tmp → Option Value}
theorem DoG.kept (h : DoG I w0 W v v' O O' s s' a b k xs w) : Kept (fun k => O k ∨ O' k) W w := h.1
theorem DoG.zero (h : DoG I w0 W v v' O O' s s' a b 0 xs w) : Pair I CtD w0 v v' s s O O' w ∧ xs a = none ∧ xs b = none := by
  rcases h.2 with ⟨_, h⟩ | ⟨h, _⟩
  · exact h
  · cases h
theorem DoG.one (h : DoG I w0 W v v' O O' s s' a b k xs w) (hk : 1 ≤ k) : ∃ O1 O2, Pair I CtD w0 v v' s' s' O1 O2 w := by
  rcases h.2 with ⟨h, _⟩ | ⟨_, O1, O2, h, _⟩
  · omega
  · exact ⟨O1, O2, h⟩
theorem DoG.later (hI : IsObj I) (h : DoG I w0 W v v' O O' s s' a b k xs w) (hb : Below w.heap.size w w') : DoG I w0 W v v' O O' s s' a b k xs w' := by
  obtain ⟨h1, h2⟩ := h
  refine ⟨h1.trans (.of_below (O := fun k => O k ∨ O' k) hb) (Grows.refl _ _), ?_⟩
  rcases h2 with ⟨rfl, h, e⟩ | ⟨rfl, O1, O2, h, e1, e2⟩
  · exact .inl ⟨rfl, h.later hI isObj_ct hb, e⟩
  · refine .inr ⟨rfl, O1, O2, h.later hI isObj_ct hb, e1, fun u hu => ?_⟩
    obtain ⟨Ob, h⟩ := e2 u hu
    exact ⟨Ob, isObj_box.stay h (fun k hk => hb.block k (isObj_box.lt h k hk))⟩
theorem DoG.hidA (h : DoG I w0 W v v' O O' s s' a b k xs w) (hk : 1 ≤ k) (hab : b ≠ a) {A : Option Addr} {c : Nat} : DoG I w0 W v v' O O' s s' a b k (fun t => if t = a then some (.slice A s'.fifo.length c) else xs t) w := by
  obtain ⟨h1, ⟨h, _⟩ | ⟨rfl, O1, O2, h, e1, e2⟩⟩ := h
  · omega
  · exact ⟨h1, .inr ⟨rfl, O1, O2, h, fun u hu => by simp at hu; exact ⟨A, c, hu.symm⟩, fun u hu => by simp only [if_neg hab] at hu; exact e2 u hu⟩⟩
theorem DoG.hidB (h : DoG I w0 W v v' O O' s s' a b k xs w) (hk : 1 ≤ k) (hab : a ≠ b) {y : Value} {Oy : Nat → Prop} (hy : BxD w y s'.bx Oy) : DoG I w0 W v v' O O' s s' a b k (fun t => if t = b then some y else xs t) w := by
  obtain ⟨h1, ⟨h, _⟩ | ⟨rfl, O1, O2, h, e1, e2⟩⟩ := h
  · omega
  · exact ⟨h1, .inr ⟨rfl, O1, O2, h, fun u hu => by simp only [if_neg hab] at hu; exact e1 u hu, fun u hu => by simp at hu; subst hu; exact ⟨Oy, hy⟩⟩⟩
theorem DoG.getA (h : DoG I w0 W v v' O O' s s' a b k xs w) {u : Value} (hu : xs a = some u) : ∃ A c, u = .slice A s'.fifo.length c := by
  obtain ⟨h1, ⟨_, _, h, _⟩ | ⟨rfl, O1, O2, h, e1, e2⟩⟩ := h
  · rw [h] at hu; cases hu
  · exact e1 u hu
theorem DoG.getB (h : DoG I w0 W v v' O O' s s' a b k xs w) {u : Value} (hu : xs b = some u) : ∃ Ob, BxD w u s'.bx Ob := by
  obtain ⟨h1, ⟨_, _, _, h⟩ | ⟨rfl, O1, O2, h, e1, e2⟩⟩ := h
  · rw [h] at hu; cases hu
  · exact e2 u hu
end
theorem BxM.slSc {w : World} {b gs gp : Nat} {vo ve : Value} {s : Bx} (h : BxM w b gs gp vo ve s) (hl : s.S.length ≤ 1000) : SlG inC 1 w w.heap.size (.slice (some ⟨gs, 0, none⟩) s.S.length s.S.length) s.S := by
  refine ⟨_, _, rfl, by unfold maxLen; omega, fun i a ha => ⟨_, rfl, heap_some_lt h.st, fun j u hu => ?_⟩⟩
  rw [qaddr]
  match j, hu with
  | 0, hu =>
    simp [inC] at hu
    subst hu
    simpa using (h.state ha).1
/-- in the midst of the last region -/
def StC (t : Tmp) (W : World) (S : List Int) (j : Nat) (xs : Tmp → Option Value) (w : World) : Prop := Below W.heap.size W w ∧ ∀ u, xs t = some u → SlG inC 1 w w.heap.size u S
theorem StC.later {t : Tmp} {W w w' : World} {S : List Int} {j : Nat} {xs : Tmp → Option Value} (h : StC t W S j xs w) (hb : Below w.heap.size w w') : StC t W S j xs w' := ⟨fbelow_t h.1 hb, fun u hu => (h.2 u hu).later hb⟩
end Go.Proofs.YtmmcjmejcngajaaGreatDoor
