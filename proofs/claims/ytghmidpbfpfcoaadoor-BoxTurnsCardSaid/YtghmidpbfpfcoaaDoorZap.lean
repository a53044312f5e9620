/- Box: the law's do. Printed by gen_do.py. -/
import Derived.Test.YtghmidpbfpfcoaaDoorZao
import Derived.Test.YtghmidpbfpfcoaaDoorZal
import Derived.Test.YtghmidpbfpfcoaaDoorZaj
import Derived.Deep.RegionWith
namespace Go.Proofs.YtghmidpbfpfcoaaDoor
open Go.RowKit
set_option linter.unusedVariables false

/-- a call behind an address -/
def BoxO9 (w : World) (b : Nat) (o : Op9) : Prop := w.heap[b]? = some (.cells #[.int .i64 o.k, .int .i64 o.b, .int .i64 o.p.f.i, .int .i64 o.p.f.n, .int .i64 o.p.f.l, .string o.p.f.d, .int .i64 o.p.fr, .int .i64 o.p.tag, .bool o.p.lp] 34 (0, 0))
theorem BoxO9.made (w : World) (o : Op9) : BoxO9 (w.alloc (.cells #[.int .i64 o.k, .int .i64 o.b, .int .i64 o.p.f.i, .int .i64 o.p.f.n, .int .i64 o.p.f.l, .string o.p.f.d, .int .i64 o.p.fr, .int .i64 o.p.tag, .bool o.p.lp] 34)) w.heap.size o := by unfold BoxO9 World.alloc; simp
theorem BoxO9.lt {w : World} {b : Nat} {o : Op9} (h : BoxO9 w b o) : b < w.heap.size := (Array.getElem?_eq_some_iff.1 h).1
theorem BoxO9.kept {w w' : World} {b : Nat} {o : Op9} {O : Nat → Prop} (h : BoxO9 w b o) (hk : Kept O w w') (hn : ¬ O b) : BoxO9 w' b o := (hk.block b h.lt hn).trans h
theorem BoxO9.later {w w' : World} {b : Nat} {o : Op9} (h : BoxO9 w b o) (hb : Below w.heap.size w w') : BoxO9 w' b o := (hb.block b h.lt).trans h
theorem BoxO9.cells {w : World} {b : Nat} {o : Op9} (h : BoxO9 w b o) : w.cell? ⟨b, 0, none⟩ = some (.int .i64 o.k) ∧ w.cell? ⟨b, 1, none⟩ = some (.int .i64 o.b) ∧ w.cell? ⟨b, 2, none⟩ = some (.int .i64 o.p.f.i) ∧ w.cell? ⟨b, 3, none⟩ = some (.int .i64 o.p.f.n) ∧ w.cell? ⟨b, 4, none⟩ = some (.int .i64 o.p.f.l) ∧
    w.cell? ⟨b, 5, none⟩ = some (.string o.p.f.d) ∧ w.cell? ⟨b, 6, none⟩ = some (.int .i64 o.p.fr) ∧ w.cell? ⟨b, 7, none⟩ = some (.int .i64 o.p.tag) ∧ w.cell? ⟨b, 8, none⟩ = some (.bool o.p.lp) := by
  unfold BoxO9 at h
  refine ⟨?_, ?_, ?_, ?_, ?_, ?_, ?_, ?_, ?_⟩ <;> (rw [Lib.cell_of_heap h]; rfl)
/-- what a call makes of mailboxes -/
def Bx.doOp (s : Bx) (o : Op9) : Bx :=
  if o.k = 0 then (s.put o.p).1 else if o.k = 2 then (s.end_ o.b 2).1 else if o.k = 3 then (s.end_ o.b 3).1 else if o.k = 4 then s.take.1
  else if o.k = 5 then (if s.best s.ord.length < 0 then s else (s.end_ (s.best s.ord.length) 2).1) else s
abbrev opV9 (o : Op9) : Value := .agg #[.int .i64 o.k, .int .i64 o.b, .int .i64 o.p.f.i, .int .i64 o.p.f.n, .int .i64 o.p.f.l, .string o.p.f.d, .int .i64 o.p.fr, .int .i64 o.p.tag, .bool o.p.lp]
/-- behind the law's do -/
def DoPost9 (I : World → Value → Bx → (Nat → Prop) → Prop) (w0 : World) (v v' : Value) (s : Bx) (o : Op9) (U : Nat → Prop) (w : World) (e : Ending) (w' : World) : Prop :=
  ∃ O1 O2, e = .returned (.bool true) ∧ Pair I BxD w0 v v' (s.doOp o) (s.doOp o) O1 O2 w' ∧ Kept U w w' ∧ Grows U w O1 ∧ Grows U w O2
theorem kept_or2 {A B : Nat → Prop} {w w' : World} (h : Kept A w w') (hs : ∀ k, A k → B k) : Kept B w w' := ⟨h.os, h.tape, h.output, h.size, fun k hk hn => h.block k hk (fun ha => hn (hs k ha))⟩
/-- a pair behind a call of the first, of the second, with what has turned since the call's beginning -/
structure PairK (I : World → Value → Bx → (Nat → Prop) → Prop) (w0 : World) (v v' : Value) (s t : Bx) (U : Nat → Prop) (O O' : Nat → Prop) (w wb : World) : Prop where
  pr : Pair I BxD w0 v v' s t O O' w
  kp : Kept U wb w
  g1 : Grows U wb O
  g2 : Grows U wb O'
section
variable {I : World → Value → Bx → (Nat → Prop) → Prop} {w0 w w' wb : World} {v v' : Value} {s s' t t' : Bx} {U O O' O1 : Nat → Prop}
theorem PairK.start (hI : IsObj I) (h : Pair I BxD w0 v v' s t O O' w) (hb : Below wb.heap.size wb w) : PairK I w0 v v' s t (fun k => O k ∨ O' k) O O' w wb := ⟨h, .of_below hb, fun k h => .inl (.inl h), fun k h => .inl (.inr h)⟩
theorem PairK.later (hI : IsObj I) (h : PairK I w0 v v' s t U O O' w wb) (hb : Below w.heap.size w w') : PairK I w0 v v' s t U O O' w' wb := ⟨h.pr.later hI isObj_box hb, h.kp.trans (.of_below (O := U) hb) (Grows.refl _ _), h.g1, h.g2⟩
theorem PairK.stepA (hI : IsObj I) (h : PairK I w0 v v' s t U O O' w wb) (hi : I w' v s' O1) (hk : Kept O w w') (hg : Grows O w O1) : PairK I w0 v v' s' t U O1 O' w' wb :=
  ⟨h.pr.stepA hI isObj_box hi hk hg, h.kp.trans hk h.g1, h.g1.trans hg h.kp.size, h.g2⟩
theorem PairK.stepB (hI : IsObj I) (h : PairK I w0 v v' s t U O O' w wb) (hi : BxD w' v' t' O1) (hk : Kept O' w w') (hg : Grows O' w O1) : PairK I w0 v v' s t' U O O1 w' wb :=
  ⟨h.pr.stepB hI isObj_box hi hk hg, h.kp.trans hk h.g2, h.g1, h.g2.trans hg h.kp.size⟩
theorem PairK.lt (hI : IsObj I) (h : PairK I w0 v v' s t U O O' w wb) : (∀ k, O k → k < w.heap.size) ∧ ∀ k, O' k → k < w.heap.size := ⟨hI.lt h.pr.a.inv, isObj_box.lt h.pr.b.inv⟩
end
set_option maxRecDepth 4000 in
set_option maxHeartbeats 8000000 in
theorem do_put {T : World → Prop} {I : World → Value → Bx → (Nat → Prop) → Prop} (A : BoxI T I) {w0 w : World} {v v' : Value} {s : Bx} {O O' : Nat → Prop} {m : Int} {p : Pk} (h : Pair I BxD w0 v v' s s O O' w) (hs : s.Ok) (hT : T w0) (hp : p.ok) :
    Calls Tryd.prog 10 #[v, v', opV9 ⟨0, m, p⟩] w (DoPost9 I w0 v v' s ⟨0, m, p⟩ (fun k => O k ∨ O' k) w) := by
  have HA := Lib.hid A
  have HT := Lib.hid hT
  have HS := Lib.hid hs
  have HPO := Lib.hid hp
  have hb0 := (Below.refl w.heap.size w).alloc (Nat.le_refl _) (.cells #[.int .i64 0, .int .i64 m, .int .i64 p.f.i, .int .i64 p.f.n, .int .i64 p.f.l, .string p.f.d, .int .i64 p.fr, .int .i64 p.tag, .bool p.lp] 34)
  have H0 := Lib.hid (h.later A.obj isObj_box hb0)
  have HW1 := Lib.hid hb0
  have HB0 := Lib.hid (BoxO9.made w ⟨0, m, p⟩)
  have HNO : Hid (¬ (O w.heap.size ∨ O' w.heap.size)) := Lib.hid (fun hh => by
    rcases hh with hh | hh
    · have := A.obj.lt h.a.inv _ hh; omega
    · have := isObj_box.lt h.b.inv _ hh; omega)
  have HZ : Hid (w.heap.size < (w.alloc (.cells #[.int .i64 0, .int .i64 m, .int .i64 p.f.i, .int .i64 p.f.n, .int .i64 p.f.l, .string p.f.d, .int .i64 p.fr, .int .i64 p.tag, .bool p.lp] 34)).heap.size) := Lib.hid (by simp)
  clear A hT hs hp h hb0
  go_enter Tryd.func10, Tryd.ntmps10
  have HK0 := Lib.hid (PairK.start HA.out.obj H0.out HW1.out)
  obtain ⟨a0, a1, a2, a3, a4, a5, a6, a7, a8⟩ := HB0.out.cells
  simp only at a0 a1 a2 a3 a4 a5 a6 a7 a8
  obtain ⟨X, hX⟩ : ∃ X, s.put p = X := ⟨_, rfl⟩
  have HX := Lib.hid hX
  obtain ⟨sX, iX, eX⟩ := X
  have HD : Hid (s.doOp ⟨0, m, p⟩ = sX) := Lib.hid (by unfold Bx.doOp; rw [if_pos rfl]; exact congrArg Prod.fst hX)
  clear hX
  go_wp2_with fail
  refine (HA.out.put p HK0.out.pr.a.inv HS.out (HA.out.tab HT.out HK0.out.pr.a.below) HPO.out).mono ?_
  rintro e w2 ⟨he, O1, hi, hk, hg⟩
  rw [HX.out] at he hi
  simp only at he hi
  subst he
  have HB1 := Lib.hid (HB0.out.kept hk (fun h => HNO.out (.inl h)))
  have HK1 := Lib.hid (HK0.out.stepA HA.out.obj hi hk hg)
  clear a0 a1 a2 a3 a4 a5 a6 a7 a8 hi hk hg
  obtain ⟨a0, a1, a2, a3, a4, a5, a6, a7, a8⟩ := HB1.out.cells
  simp only at a0 a1 a2 a3 a4 a5 a6 a7 a8
  go_wp2_with fail
  refine (xput_v (p := p) _ HK1.out.pr.b.inv (congrArg Prod.snd HX.out) HS.out.n2 HS.out.ordLe).mono ?_
  rintro e w3 ⟨rfl, O2, hi, hk, hg⟩
  rw [HX.out] at hi
  simp only at hi
  have HK2 := Lib.hid (HK1.out.stepB HA.out.obj hi hk hg)
  clear a0 a1 a2 a3 a4 a5 a6 a7 a8 hi hk hg
  go_wp2
  go_ret
  exact ⟨O1, O2, by simp, by rw [HD.out]; exact HK2.out.pr, HK2.out.kp, HK2.out.g1, HK2.out.g2⟩
set_option maxRecDepth 4000 in
set_option maxHeartbeats 8000000 in
theorem do_sent {T : World → Prop} {I : World → Value → Bx → (Nat → Prop) → Prop} (A : BoxI T I) {w0 w : World} {v v' : Value} {s : Bx} {O O' : Nat → Prop} {m : Int} {p : Pk} (h : Pair I BxD w0 v v' s s O O' w) (hs : s.Ok) (hT : T w0) (hp : p.ok) :
    Calls Tryd.prog 10 #[v, v', opV9 ⟨2, m, p⟩] w (DoPost9 I w0 v v' s ⟨2, m, p⟩ (fun k => O k ∨ O' k) w) := by
  have HA := Lib.hid A
  have HT := Lib.hid hT
  have HS := Lib.hid hs
  have HPO := Lib.hid hp
  have hb0 := (Below.refl w.heap.size w).alloc (Nat.le_refl _) (.cells #[.int .i64 2, .int .i64 m, .int .i64 p.f.i, .int .i64 p.f.n, .int .i64 p.f.l, .string p.f.d, .int .i64 p.fr, .int .i64 p.tag, .bool p.lp] 34)
  have H0 := Lib.hid (h.later A.obj isObj_box hb0)
  have HW1 := Lib.hid hb0
  have HB0 := Lib.hid (BoxO9.made w ⟨2, m, p⟩)
  have HNO : Hid (¬ (O w.heap.size ∨ O' w.heap.size)) := Lib.hid (fun hh => by
    rcases hh with hh | hh
    · have := A.obj.lt h.a.inv _ hh; omega
    · have := isObj_box.lt h.b.inv _ hh; omega)
  have HZ : Hid (w.heap.size < (w.alloc (.cells #[.int .i64 2, .int .i64 m, .int .i64 p.f.i, .int .i64 p.f.n, .int .i64 p.f.l, .string p.f.d, .int .i64 p.fr, .int .i64 p.tag, .bool p.lp] 34)).heap.size) := Lib.hid (by simp)
  clear A hT hs hp h hb0
  go_enter Tryd.func10, Tryd.ntmps10
  go_upto_region 11 with fail
  generalize w.alloc (.cells #[.int .i64 2, .int .i64 m, .int .i64 p.f.i, .int .i64 p.f.n, .int .i64 p.f.l, .string p.f.d, .int .i64 p.fr, .int .i64 p.tag, .bool p.lp] 34) = w1 at H0 HB0 HZ HW1 ⊢
  generalize w.heap.size = b at HB0 HNO HZ ⊢
  obtain ⟨a0, a1, a2, a3, a4, a5, a6, a7, a8⟩ := HB0.out.cells
  simp only at a0 a1 a2 a3 a4 a5 a6 a7 a8
  have hcl : ∀ (n : KLater (fun k => O k ∨ O' k) w1) (o : Nat), n.w.cell? ⟨b, o, none⟩ = w1.cell? ⟨b, o, none⟩ := fun n o => n.cell b o HZ.out HNO.out
  obtain ⟨X, hX⟩ : ∃ X, s.end_ m 2 = X := ⟨_, rfl⟩
  have HX := Lib.hid hX
  obtain ⟨sX, eX⟩ := X
  have HD : Hid (s.doOp ⟨2, m, p⟩ = sX) := Lib.hid (by unfold Bx.doOp; simp only [show (2 : Int) ≠ 0 by decide, if_true, if_false]; exact congrArg Prod.fst hX)
  clear hX
  refine wp_region_st 8 [3, 7] (PairS I BxD w0 w1 (fun k => O k ∨ O' k) v v' (fun _ => none) s sX s sX) [] (PairC.mk HA.out.obj isObj_box H0.out) (by kernel_rfl) (by kernel_rfl) (by kernel_rfl) (by kernel_rfl) (by kernel_rfl) (by kernel_rfl) (by kernel_rfl) ?_
  simp only [List.take_succ_cons, List.take_zero, List.drop_succ_cons, List.drop_zero]
  repeat (refine st_plain (fun h => PairS.kept h) (by rfl) (by rfl) (by rfl) (by rfl) (by rfl) ?_; intro K hK; go_big_quiet_op; go_big_quiet_on)
  refine st_step (f := 18) (args := #[v, .int .i64 m]) (v := .int .i64 eX) 0 (by rfl) (by rfl) (by rfl) (by rfl) (by rfl) (fun w => by simp [go_sem]) (fun xs9 w9 h9 => ?_) ?_
  · obtain ⟨O1, O2, hp, hk, hg1, hg2, hh⟩ := h9
    refine (HA.out.sent m hp.a.inv HS.out).mono ?_
    rintro e w' ⟨he, hs⟩
    rw [HX.out] at he hs
    exact ⟨he, PairC.stepA HA.out.obj isObj_box hp hk hg1 hg2 hh hs⟩
  simp only [Act.put, List.setIfInBounds_toArray, List.set_cons_succ, List.set_cons_zero]
  repeat (refine st_plain (fun h => PairS.kept h) (by rfl) (by rfl) (by rfl) (by rfl) (by rfl) ?_; intro K hK; go_big_quiet_op; go_big_quiet_on)
  refine st_step (f := 24) (args := #[v', .int .i64 m, .int .i64 2]) (v := .int .i64 eX) 1 (by rfl) (by rfl) (by rfl) (by rfl) (by rfl) (fun w => by simp [go_sem]) (fun xs9 w9 h9 => ?_) ?_
  · obtain ⟨O1, O2, hp, hk, hg1, hg2, hh⟩ := h9
    refine (xend_v _ hp.b.inv (congrArg Prod.snd HX.out) HS.out.n2 HS.out.ordLe HS.out.finLe).mono ?_
    rintro e w' ⟨he, hs⟩
    rw [HX.out] at hs
    exact ⟨he, PairC.stepB HA.out.obj isObj_box hp hk hg1 hg2 hh hs⟩
  simp only [Act.put, List.setIfInBounds_toArray, List.set_cons_succ, List.set_cons_zero]
  intro ys xs w9 hF h9
  simp only [secFill]
  clear hF hcl a0 a1 a2 a3 a4 a5 a6 a7 a8
  have H9 := Lib.hid h9
  clear h9
  go_wp2
  go_ret
  obtain ⟨O1, O2, hp, hkp, hg1, hg2, _⟩ := H9.out
  exact ⟨O1, O2, by simp, by rw [HD.out]; exact hp, kept_from HW1.out hkp, grows_from HW1.out hg1, grows_from HW1.out hg2⟩
set_option maxRecDepth 4000 in
set_option maxHeartbeats 8000000 in
theorem do_abort {T : World → Prop} {I : World → Value → Bx → (Nat → Prop) → Prop} (A : BoxI T I) {w0 w : World} {v v' : Value} {s : Bx} {O O' : Nat → Prop} {m : Int} {p : Pk} (h : Pair I BxD w0 v v' s s O O' w) (hs : s.Ok) (hT : T w0) (hp : p.ok) :
    Calls Tryd.prog 10 #[v, v', opV9 ⟨3, m, p⟩] w (DoPost9 I w0 v v' s ⟨3, m, p⟩ (fun k => O k ∨ O' k) w) := by
  have HA := Lib.hid A
  have HT := Lib.hid hT
  have HS := Lib.hid hs
  have HPO := Lib.hid hp
  have hb0 := (Below.refl w.heap.size w).alloc (Nat.le_refl _) (.cells #[.int .i64 3, .int .i64 m, .int .i64 p.f.i, .int .i64 p.f.n, .int .i64 p.f.l, .string p.f.d, .int .i64 p.fr, .int .i64 p.tag, .bool p.lp] 34)
  have H0 := Lib.hid (h.later A.obj isObj_box hb0)
  have HW1 := Lib.hid hb0
  have HB0 := Lib.hid (BoxO9.made w ⟨3, m, p⟩)
  have HNO : Hid (¬ (O w.heap.size ∨ O' w.heap.size)) := Lib.hid (fun hh => by
    rcases hh with hh | hh
    · have := A.obj.lt h.a.inv _ hh; omega
    · have := isObj_box.lt h.b.inv _ hh; omega)
  have HZ : Hid (w.heap.size < (w.alloc (.cells #[.int .i64 3, .int .i64 m, .int .i64 p.f.i, .int .i64 p.f.n, .int .i64 p.f.l, .string p.f.d, .int .i64 p.fr, .int .i64 p.tag, .bool p.lp] 34)).heap.size) := Lib.hid (by simp)
  clear A hT hs hp h hb0
  go_enter Tryd.func10, Tryd.ntmps10
  go_upto_region 13 with fail
  generalize w.alloc (.cells #[.int .i64 3, .int .i64 m, .int .i64 p.f.i, .int .i64 p.f.n, .int .i64 p.f.l, .string p.f.d, .int .i64 p.fr, .int .i64 p.tag, .bool p.lp] 34) = w1 at H0 HB0 HZ HW1 ⊢
  generalize w.heap.size = b at HB0 HNO HZ ⊢
  obtain ⟨a0, a1, a2, a3, a4, a5, a6, a7, a8⟩ := HB0.out.cells
  simp only at a0 a1 a2 a3 a4 a5 a6 a7 a8
  have hcl : ∀ (n : KLater (fun k => O k ∨ O' k) w1) (o : Nat), n.w.cell? ⟨b, o, none⟩ = w1.cell? ⟨b, o, none⟩ := fun n o => n.cell b o HZ.out HNO.out
  obtain ⟨X, hX⟩ : ∃ X, s.end_ m 3 = X := ⟨_, rfl⟩
  have HX := Lib.hid hX
  obtain ⟨sX, eX⟩ := X
  have HD : Hid (s.doOp ⟨3, m, p⟩ = sX) := Lib.hid (by unfold Bx.doOp; simp only [show (3 : Int) ≠ 0 by decide, show (3 : Int) ≠ 2 by decide, if_true, if_false]; exact congrArg Prod.fst hX)
  clear hX
  refine wp_region_st 8 [3, 7] (PairS I BxD w0 w1 (fun k => O k ∨ O' k) v v' (fun _ => none) s sX s sX) [] (PairC.mk HA.out.obj isObj_box H0.out) (by kernel_rfl) (by kernel_rfl) (by kernel_rfl) (by kernel_rfl) (by kernel_rfl) (by kernel_rfl) (by kernel_rfl) ?_
  simp only [List.take_succ_cons, List.take_zero, List.drop_succ_cons, List.drop_zero]
  repeat (refine st_plain (fun h => PairS.kept h) (by rfl) (by rfl) (by rfl) (by rfl) (by rfl) ?_; intro K hK; go_big_quiet_op; go_big_quiet_on)
  refine st_step (f := 20) (args := #[v, .int .i64 m]) (v := .int .i64 eX) 0 (by rfl) (by rfl) (by rfl) (by rfl) (by rfl) (fun w => by simp [go_sem]) (fun xs9 w9 h9 => ?_) ?_
  · obtain ⟨O1, O2, hp, hk, hg1, hg2, hh⟩ := h9
    refine (HA.out.abort m hp.a.inv HS.out).mono ?_
    rintro e w' ⟨he, hs⟩
    rw [HX.out] at he hs
    exact ⟨he, PairC.stepA HA.out.obj isObj_box hp hk hg1 hg2 hh hs⟩
  simp only [Act.put, List.setIfInBounds_toArray, List.set_cons_succ, List.set_cons_zero]
  repeat (refine st_plain (fun h => PairS.kept h) (by rfl) (by rfl) (by rfl) (by rfl) (by rfl) ?_; intro K hK; go_big_quiet_op; go_big_quiet_on)
  refine st_step (f := 24) (args := #[v', .int .i64 m, .int .i64 3]) (v := .int .i64 eX) 1 (by rfl) (by rfl) (by rfl) (by rfl) (by rfl) (fun w => by simp [go_sem]) (fun xs9 w9 h9 => ?_) ?_
  · obtain ⟨O1, O2, hp, hk, hg1, hg2, hh⟩ := h9
    refine (xend_v _ hp.b.inv (congrArg Prod.snd HX.out) HS.out.n2 HS.out.ordLe HS.out.finLe).mono ?_
    rintro e w' ⟨he, hs⟩
    rw [HX.out] at hs
    exact ⟨he, PairC.stepB HA.out.obj isObj_box hp hk hg1 hg2 hh hs⟩
  simp only [Act.put, List.setIfInBounds_toArray, List.set_cons_succ, List.set_cons_zero]
  intro ys xs w9 hF h9
  simp only [secFill]
  clear hF hcl a0 a1 a2 a3 a4 a5 a6 a7 a8
  have H9 := Lib.hid h9
  clear h9
  go_wp2
  go_ret
  obtain ⟨O1, O2, hp, hkp, hg1, hg2, _⟩ := H9.out
  exact ⟨O1, O2, by simp, by rw [HD.out]; exact hp, kept_from HW1.out hkp, grows_from HW1.out hg1, grows_from HW1.out hg2⟩
set_option maxRecDepth 4000 in
set_option maxHeartbeats 8000000 in
theorem do_best0 {T : World → Prop} {I : World → Value → Bx → (Nat → Prop) → Prop} (A : BoxI T I) {w0 w : World} {v v' : Value} {s : Bx} {O O' : Nat → Prop} {m : Int} {p : Pk} (h : Pair I BxD w0 v v' s s O O' w) (hs : s.Ok) (hT : T w0) (hp : p.ok) (hneg : s.best s.ord.length < 0) :
    Calls Tryd.prog 10 #[v, v', opV9 ⟨1, m, p⟩] w (DoPost9 I w0 v v' s ⟨1, m, p⟩ (fun k => O k ∨ O' k) w) := by
  have HA := Lib.hid A
  have HT := Lib.hid hT
  have HS := Lib.hid hs
  have HPO := Lib.hid hp
  have hb0 := (Below.refl w.heap.size w).alloc (Nat.le_refl _) (.cells #[.int .i64 1, .int .i64 m, .int .i64 p.f.i, .int .i64 p.f.n, .int .i64 p.f.l, .string p.f.d, .int .i64 p.fr, .int .i64 p.tag, .bool p.lp] 34)
  have H0 := Lib.hid (h.later A.obj isObj_box hb0)
  have HW1 := Lib.hid hb0
  have HB0 := Lib.hid (BoxO9.made w ⟨1, m, p⟩)
  have HNO : Hid (¬ (O w.heap.size ∨ O' w.heap.size)) := Lib.hid (fun hh => by
    rcases hh with hh | hh
    · have := A.obj.lt h.a.inv _ hh; omega
    · have := isObj_box.lt h.b.inv _ hh; omega)
  have HZ : Hid (w.heap.size < (w.alloc (.cells #[.int .i64 1, .int .i64 m, .int .i64 p.f.i, .int .i64 p.f.n, .int .i64 p.f.l, .string p.f.d, .int .i64 p.fr, .int .i64 p.tag, .bool p.lp] 34)).heap.size) := Lib.hid (by simp)
  have HBS : Hid (s.bst = (0, pk0, false)) := Lib.hid (by unfold Bx.bst; rw [if_pos hneg])
  have HBV : Hid (s.best s.ord.length = -1) := Lib.hid (by have := (Bx.best_rng hs.ordOk s.ord.length (Nat.le_refl _)).1; omega)
  clear hneg
  clear A hT hs hp h hb0
  go_enter Tryd.func10, Tryd.ntmps10
  have HK0 := Lib.hid (PairK.start HA.out.obj H0.out HW1.out)
  obtain ⟨a0, a1, a2, a3, a4, a5, a6, a7, a8⟩ := HB0.out.cells
  simp only at a0 a1 a2 a3 a4 a5 a6 a7 a8
  have HD : Hid (s.doOp ⟨1, m, p⟩ = s) := Lib.hid (by unfold Bx.doOp; simp)
  go_wp2_with fail
  refine (HA.out.best HK0.out.pr.a.inv HS.out (HA.out.tab HT.out HK0.out.pr.a.below)).mono ?_
  rintro e w2 ⟨he, hb⟩
  rw [HBS.out] at he
  simp only at he
  subst he
  have HK1 := Lib.hid (HK0.out.later HA.out.obj hb)
  have hbl := (Below.refl w2.heap.size w2).alloc (Nat.le_refl _) (.cells #[.int .i64 pk0.f.i, .int .i64 pk0.f.n, .int .i64 pk0.f.l, .string pk0.f.d, .int .i64 pk0.fr, .int .i64 pk0.tag, .bool pk0.lp] 32)
  have HK2 := Lib.hid (HK1.out.later HA.out.obj hbl)
  have HP2 := Lib.hid (BoxP.made w2 pk0)
  clear hb hbl a0 a1 a2 a3 a4 a5 a6 a7 a8
  go_wp2_with fail
  refine (xbest_v _ HK2.out.pr.b.inv HS.out.ordOk HS.out.n2 (by have := HS.out.ordLe; omega)).mono ?_
  rintro e w3 ⟨he, hb⟩
  rw [HBV.out] at he
  subst he
  have HK3 := Lib.hid (HK2.out.later HA.out.obj hb)
  have HP3 := Lib.hid (HP2.out.later hb)
  obtain ⟨d0, d1, d2, d3, d4, d5, d6⟩ := HP3.out.cells
  have hpz := HP3.out.lt
  clear hb
  simp only [pk0] at d0 d1 d2 d3 d4 d5 d6
  have HE : Hid (∀ w', Below w3.heap.size w3 w' → DoPost9 I w0 v v' s ⟨1, m, p⟩ (fun k => O k ∨ O' k) w (.returned (.bool true)) w') := Lib.hid (fun w' hb => by
    have h4 := HK3.out.later HA.out.obj hb
    exact ⟨O, O', rfl, by rw [HD.out]; exact h4.pr, h4.kp, h4.g1, h4.g2⟩)
  go_wp2_with fail
  go_quiet (fail)
  go_wp2
  go_ret
  exact HE.out _ (below_drewN (Below.refl _ _) _)
set_option maxRecDepth 4000 in
set_option maxHeartbeats 8000000 in
theorem do_best1 {T : World → Prop} {I : World → Value → Bx → (Nat → Prop) → Prop} (A : BoxI T I) {w0 w : World} {v v' : Value} {s : Bx} {O O' : Nat → Prop} {m : Int} {p : Pk} (h : Pair I BxD w0 v v' s s O O' w) (hs : s.Ok) (hT : T w0) (hp : p.ok) {n : Nat} (hbn : s.best s.ord.length = n) :
    Calls Tryd.prog 10 #[v, v', opV9 ⟨1, m, p⟩] w (DoPost9 I w0 v v' s ⟨1, m, p⟩ (fun k => O k ∨ O' k) w) := by
  have HA := Lib.hid A
  have HT := Lib.hid hT
  have HS := Lib.hid hs
  have HPO := Lib.hid hp
  have hb0 := (Below.refl w.heap.size w).alloc (Nat.le_refl _) (.cells #[.int .i64 1, .int .i64 m, .int .i64 p.f.i, .int .i64 p.f.n, .int .i64 p.f.l, .string p.f.d, .int .i64 p.fr, .int .i64 p.tag, .bool p.lp] 34)
  have H0 := Lib.hid (h.later A.obj isObj_box hb0)
  have HW1 := Lib.hid hb0
  have HB0 := Lib.hid (BoxO9.made w ⟨1, m, p⟩)
  have HNO : Hid (¬ (O w.heap.size ∨ O' w.heap.size)) := Lib.hid (fun hh => by
    rcases hh with hh | hh
    · have := A.obj.lt h.a.inv _ hh; omega
    · have := isObj_box.lt h.b.inv _ hh; omega)
  have HZ : Hid (w.heap.size < (w.alloc (.cells #[.int .i64 1, .int .i64 m, .int .i64 p.f.i, .int .i64 p.f.n, .int .i64 p.f.l, .string p.f.d, .int .i64 p.fr, .int .i64 p.tag, .bool p.lp] 34)).heap.size) := Lib.hid (by simp)
  have hnl : n < s.S.length := by have := (Bx.best_rng hs.ordOk s.ord.length (Nat.le_refl _)).2; omega
  obtain ⟨pn, hpn⟩ : ∃ pn, s.P[n]? = some pn := ⟨_, List.getElem?_eq_getElem (by rw [hs.lp]; exact hnl)⟩
  have HPN := Lib.hid hpn
  have HBS : Hid (s.bst = ((n : Int), pn, true)) := Lib.hid (by unfold Bx.bst; rw [if_neg (by omega), hbn, Int.toNat_natCast, List.getD_eq_getElem?_getD, hpn]; rfl)
  have HBV : Hid (s.best s.ord.length = (n : Int)) := Lib.hid hbn
  have HSL : Hid (s.S.length ≤ 1000) := Lib.hid hs.n2
  clear hbn hpn
  clear A hT hs hp h hb0
  go_enter Tryd.func10, Tryd.ntmps10
  have HK0 := Lib.hid (PairK.start HA.out.obj H0.out HW1.out)
  obtain ⟨a0, a1, a2, a3, a4, a5, a6, a7, a8⟩ := HB0.out.cells
  simp only at a0 a1 a2 a3 a4 a5 a6 a7 a8
  have HD : Hid (s.doOp ⟨1, m, p⟩ = s) := Lib.hid (by unfold Bx.doOp; simp)
  go_wp2_with fail
  refine (HA.out.best HK0.out.pr.a.inv HS.out (HA.out.tab HT.out HK0.out.pr.a.below)).mono ?_
  rintro e w2 ⟨he, hb⟩
  rw [HBS.out] at he
  simp only at he
  subst he
  have HK1 := Lib.hid (HK0.out.later HA.out.obj hb)
  have hbl := (Below.refl w2.heap.size w2).alloc (Nat.le_refl _) (.cells #[.int .i64 pn.f.i, .int .i64 pn.f.n, .int .i64 pn.f.l, .string pn.f.d, .int .i64 pn.fr, .int .i64 pn.tag, .bool pn.lp] 32)
  have HK2 := Lib.hid (HK1.out.later HA.out.obj hbl)
  have HP2 := Lib.hid (BoxP.made w2 pn)
  clear hb hbl a0 a1 a2 a3 a4 a5 a6 a7 a8
  go_wp2_with fail
  refine (xbest_v _ HK2.out.pr.b.inv HS.out.ordOk HS.out.n2 (by have := HS.out.ordLe; omega)).mono ?_
  rintro e w3 ⟨he, hb⟩
  rw [HBV.out] at he
  subst he
  have HK3 := Lib.hid (HK2.out.later HA.out.obj hb)
  have HP3 := Lib.hid (HP2.out.later hb)
  obtain ⟨d0, d1, d2, d3, d4, d5, d6⟩ := HP3.out.cells
  have hpz := HP3.out.lt
  clear hb
  obtain ⟨b, gs, gp, vo, ve, hv', _, hm⟩ := HK3.out.pr.b.inv
  obtain ⟨c0, c1, c2, c3⟩ := hm.cells
  have hnl2 : (n : Int) < (s.S.length : Int) := by omega
  have hsl := HSL.out
  have m0 := hm.packet HPN.out 0 _ rfl
  rw [Nat.add_zero] at m0
  have m1 := hm.packet HPN.out 1 _ rfl
  have m2 := hm.packet HPN.out 2 _ rfl
  have m3 := hm.packet HPN.out 3 _ rfl
  have m4 := hm.packet HPN.out 4 _ rfl
  have m5 := hm.packet HPN.out 5 _ rfl
  have m6 := hm.packet HPN.out 6 _ rfl
  clear hm
  have HE : Hid (∀ w', Below w3.heap.size w3 w' → DoPost9 I w0 v v' s ⟨1, m, p⟩ (fun k => O k ∨ O' k) w (.returned (.bool true)) w') := Lib.hid (fun w' hb => by
    have h4 := HK3.out.later HA.out.obj hb
    exact ⟨O, O', rfl, by rw [HD.out]; exact h4.pr, h4.kp, h4.g1, h4.g2⟩)
  rw [hv']
  go_wp2_with fail
  go_quiet (fail)
  go_wp2
  go_ret
  exact HE.out _ (below_drewN (Below.refl _ _) _)
set_option maxRecDepth 4000 in
set_option maxHeartbeats 8000000 in
theorem do_take0 {T : World → Prop} {I : World → Value → Bx → (Nat → Prop) → Prop} (A : BoxI T I) {w0 w : World} {v v' : Value} {s : Bx} {O O' : Nat → Prop} {m : Int} {p : Pk} (h : Pair I BxD w0 v v' s s O O' w) (hs : s.Ok) (hT : T w0) (hp : p.ok) (hf : s.fin = []) :
    Calls Tryd.prog 10 #[v, v', opV9 ⟨4, m, p⟩] w (DoPost9 I w0 v v' s ⟨4, m, p⟩ (fun k => O k ∨ O' k) w) := by
  have HA := Lib.hid A
  have HT := Lib.hid hT
  have HS := Lib.hid hs
  have HPO := Lib.hid hp
  have hb0 := (Below.refl w.heap.size w).alloc (Nat.le_refl _) (.cells #[.int .i64 4, .int .i64 m, .int .i64 p.f.i, .int .i64 p.f.n, .int .i64 p.f.l, .string p.f.d, .int .i64 p.fr, .int .i64 p.tag, .bool p.lp] 34)
  have H0 := Lib.hid (h.later A.obj isObj_box hb0)
  have HW1 := Lib.hid hb0
  have HB0 := Lib.hid (BoxO9.made w ⟨4, m, p⟩)
  have HNO : Hid (¬ (O w.heap.size ∨ O' w.heap.size)) := Lib.hid (fun hh => by
    rcases hh with hh | hh
    · have := A.obj.lt h.a.inv _ hh; omega
    · have := isObj_box.lt h.b.inv _ hh; omega)
  have HZ : Hid (w.heap.size < (w.alloc (.cells #[.int .i64 4, .int .i64 m, .int .i64 p.f.i, .int .i64 p.f.n, .int .i64 p.f.l, .string p.f.d, .int .i64 p.fr, .int .i64 p.tag, .bool p.lp] 34)).heap.size) := Lib.hid (by simp)
  have HTA : Hid (s.take = (s, -1, pk0, false)) := Lib.hid (by unfold Bx.take; rw [hf])
  have HTK : Hid (s.tk = (0, pk0, false, 6)) := Lib.hid (by unfold Bx.tk; rw [hf])
  clear hf
  clear A hT hs hp h hb0
  go_enter Tryd.func10, Tryd.ntmps10
  have HK0 := Lib.hid (PairK.start HA.out.obj H0.out HW1.out)
  obtain ⟨a0, a1, a2, a3, a4, a5, a6, a7, a8⟩ := HB0.out.cells
  simp only at a0 a1 a2 a3 a4 a5 a6 a7 a8
  have HD : Hid (s.doOp ⟨4, m, p⟩ = s) := Lib.hid (by unfold Bx.doOp; simp only [show (4 : Int) ≠ 0 by decide, show (4 : Int) ≠ 2 by decide, show (4 : Int) ≠ 3 by decide, if_true, if_false]; rw [HTA.out])
  go_wp2_with fail
  refine (HA.out.take HK0.out.pr.a.inv HS.out).mono ?_
  rintro e w2 ⟨he, O1, hi, hk, hg⟩
  rw [HTK.out] at he
  rw [HTA.out] at hi
  simp only at he hi
  subst he
  have HK1 := Lib.hid (HK0.out.stepA HA.out.obj hi hk hg)
  clear hi hk hg a0 a1 a2 a3 a4 a5 a6 a7 a8
  have hbl := (Below.refl w2.heap.size w2).alloc (Nat.le_refl _) (.cells #[.int .i64 0, .int .i64 pk0.f.i, .int .i64 pk0.f.n, .int .i64 pk0.f.l, .string pk0.f.d, .int .i64 pk0.fr, .int .i64 pk0.tag, .bool pk0.lp, .bool false] 53)
  have HK2 := Lib.hid (HK1.out.later HA.out.obj hbl)
  have HX2 : Hid ((w2.alloc (.cells #[.int .i64 0, .int .i64 pk0.f.i, .int .i64 pk0.f.n, .int .i64 pk0.f.l, .string pk0.f.d, .int .i64 pk0.fr, .int .i64 pk0.tag, .bool pk0.lp, .bool false] 53)).heap[w2.heap.size]? = some (.cells #[.int .i64 0, .int .i64 pk0.f.i, .int .i64 pk0.f.n, .int .i64 pk0.f.l, .string pk0.f.d, .int .i64 pk0.fr, .int .i64 pk0.tag, .bool pk0.lp, .bool false] 53 (0, 0))) := Lib.hid (by unfold World.alloc; simp)
  have HNZ : Hid (¬ O' w2.heap.size) := Lib.hid (fun h => absurd ((HK1.out.lt HA.out.obj).2 _ h) (Nat.lt_irrefl _))
  clear hbl
  go_wp2_with fail
  refine (xtake_v _ HK2.out.pr.b.inv HS.out (congrArg Prod.snd HTA.out)).mono ?_
  rintro e w3 ⟨he, O2, hi, hk, hg⟩
  rw [HTA.out] at hi
  simp only at he hi
  subst he
  have HK3 := Lib.hid (HK2.out.stepB HA.out.obj hi hk hg)
  have HX3 := Lib.hid ((hk.block _ (heap_some_lt HX2.out) HNZ.out).trans HX2.out)
  have hz3 : w2.heap.size < w3.heap.size := heap_some_lt HX3.out
  have x0 : w3.cell? ⟨w2.heap.size, 0, none⟩ = some (.int .i64 0) := by rw [Lib.cell_of_heap HX3.out]; rfl
  have x1 : w3.cell? ⟨w2.heap.size, 1, none⟩ = some (.int .i64 pk0.f.i) := by rw [Lib.cell_of_heap HX3.out]; rfl
  have x2 : w3.cell? ⟨w2.heap.size, 2, none⟩ = some (.int .i64 pk0.f.n) := by rw [Lib.cell_of_heap HX3.out]; rfl
  have x3 : w3.cell? ⟨w2.heap.size, 3, none⟩ = some (.int .i64 pk0.f.l) := by rw [Lib.cell_of_heap HX3.out]; rfl
  have x4 : w3.cell? ⟨w2.heap.size, 4, none⟩ = some (.string pk0.f.d) := by rw [Lib.cell_of_heap HX3.out]; rfl
  have x5 : w3.cell? ⟨w2.heap.size, 5, none⟩ = some (.int .i64 pk0.fr) := by rw [Lib.cell_of_heap HX3.out]; rfl
  have x6 : w3.cell? ⟨w2.heap.size, 6, none⟩ = some (.int .i64 pk0.tag) := by rw [Lib.cell_of_heap HX3.out]; rfl
  have x7 : w3.cell? ⟨w2.heap.size, 7, none⟩ = some (.bool pk0.lp) := by rw [Lib.cell_of_heap HX3.out]; rfl
  have x8 : w3.cell? ⟨w2.heap.size, 8, none⟩ = some (.bool false) := by rw [Lib.cell_of_heap HX3.out]; rfl
  clear hi hk hg
  have k3 : pk0.f.d = ByteArray.mk #[] := rfl
  have k4 : pk0.fr = 0 := rfl
  have k5 : pk0.tag = 0 := rfl
  have k6 : pk0.lp = false := rfl
  have k0 : pk0.f.i = 0 := rfl
  have k1 : pk0.f.n = 0 := rfl
  have k2 : pk0.f.l = 0 := rfl
  have HK4 := Lib.hid (HK3.out.later HA.out.obj ((Below.refl w3.heap.size w3).alloc (Nat.le_refl _) (.cells #[.int .i64 pk0.f.i, .int .i64 pk0.f.n, .int .i64 pk0.f.l, .string pk0.f.d, .int .i64 pk0.fr, .int .i64 pk0.tag, .bool pk0.lp] 32)))
  have HE : Hid (DoPost9 I w0 v v' s ⟨4, m, p⟩ (fun k => O k ∨ O' k) w (.returned (.bool true)) (w3.alloc (.cells #[.int .i64 pk0.f.i, .int .i64 pk0.f.n, .int .i64 pk0.f.l, .string pk0.f.d, .int .i64 pk0.fr, .int .i64 pk0.tag, .bool pk0.lp] 32))) := Lib.hid
    ⟨O1, O2, rfl, by rw [HD.out]; exact HK4.out.pr, HK4.out.kp, HK4.out.g1, HK4.out.g2⟩
  go_wp2
  go_ret
  exact HE.out
set_option maxRecDepth 4000 in
set_option maxHeartbeats 8000000 in
theorem do_take1 {T : World → Prop} {I : World → Value → Bx → (Nat → Prop) → Prop} (A : BoxI T I) {w0 w : World} {v v' : Value} {s : Bx} {O O' : Nat → Prop} {m : Int} {p : Pk} (h : Pair I BxD w0 v v' s s O O' w) (hs : s.Ok) (hT : T w0) (hp : p.ok) {n : Nat} {sX : Bx} {tp : Pk} {tb : Bool} (hf : s.fin ≠ []) (ht : s.take = (sX, (n : Int), tp, tb)) :
    Calls Tryd.prog 10 #[v, v', opV9 ⟨4, m, p⟩] w (DoPost9 I w0 v v' s ⟨4, m, p⟩ (fun k => O k ∨ O' k) w) := by
  have HA := Lib.hid A
  have HT := Lib.hid hT
  have HS := Lib.hid hs
  have HPO := Lib.hid hp
  have hb0 := (Below.refl w.heap.size w).alloc (Nat.le_refl _) (.cells #[.int .i64 4, .int .i64 m, .int .i64 p.f.i, .int .i64 p.f.n, .int .i64 p.f.l, .string p.f.d, .int .i64 p.fr, .int .i64 p.tag, .bool p.lp] 34)
  have H0 := Lib.hid (h.later A.obj isObj_box hb0)
  have HW1 := Lib.hid hb0
  have HB0 := Lib.hid (BoxO9.made w ⟨4, m, p⟩)
  have HNO : Hid (¬ (O w.heap.size ∨ O' w.heap.size)) := Lib.hid (fun hh => by
    rcases hh with hh | hh
    · have := A.obj.lt h.a.inv _ hh; omega
    · have := isObj_box.lt h.b.inv _ hh; omega)
  have HZ : Hid (w.heap.size < (w.alloc (.cells #[.int .i64 4, .int .i64 m, .int .i64 p.f.i, .int .i64 p.f.n, .int .i64 p.f.l, .string p.f.d, .int .i64 p.fr, .int .i64 p.tag, .bool p.lp] 34)).heap.size) := Lib.hid (by simp)
  have HTA := Lib.hid ht
  have HTK : Hid (s.tk = ((n : Int), tp, tb, 0)) := Lib.hid (by
    unfold Bx.tk
    cases hc : s.fin with
    | nil => exact absurd hc hf
    | cons y r => simp only; rw [ht])
  clear hf ht
  clear A hT hs hp h hb0
  go_enter Tryd.func10, Tryd.ntmps10
  have HK0 := Lib.hid (PairK.start HA.out.obj H0.out HW1.out)
  obtain ⟨a0, a1, a2, a3, a4, a5, a6, a7, a8⟩ := HB0.out.cells
  simp only at a0 a1 a2 a3 a4 a5 a6 a7 a8
  have HD : Hid (s.doOp ⟨4, m, p⟩ = sX) := Lib.hid (by unfold Bx.doOp; simp only [show (4 : Int) ≠ 0 by decide, show (4 : Int) ≠ 2 by decide, show (4 : Int) ≠ 3 by decide, if_true, if_false]; rw [HTA.out])
  go_wp2_with fail
  refine (HA.out.take HK0.out.pr.a.inv HS.out).mono ?_
  rintro e w2 ⟨he, O1, hi, hk, hg⟩
  rw [HTK.out] at he
  rw [HTA.out] at hi
  simp only at he hi
  subst he
  have HK1 := Lib.hid (HK0.out.stepA HA.out.obj hi hk hg)
  clear hi hk hg a0 a1 a2 a3 a4 a5 a6 a7 a8
  have hbl := (Below.refl w2.heap.size w2).alloc (Nat.le_refl _) (.cells #[.int .i64 n, .int .i64 tp.f.i, .int .i64 tp.f.n, .int .i64 tp.f.l, .string tp.f.d, .int .i64 tp.fr, .int .i64 tp.tag, .bool tp.lp, .bool tb] 53)
  have HK2 := Lib.hid (HK1.out.later HA.out.obj hbl)
  have HX2 : Hid ((w2.alloc (.cells #[.int .i64 n, .int .i64 tp.f.i, .int .i64 tp.f.n, .int .i64 tp.f.l, .string tp.f.d, .int .i64 tp.fr, .int .i64 tp.tag, .bool tp.lp, .bool tb] 53)).heap[w2.heap.size]? = some (.cells #[.int .i64 n, .int .i64 tp.f.i, .int .i64 tp.f.n, .int .i64 tp.f.l, .string tp.f.d, .int .i64 tp.fr, .int .i64 tp.tag, .bool tp.lp, .bool tb] 53 (0, 0))) := Lib.hid (by unfold World.alloc; simp)
  have HNZ : Hid (¬ O' w2.heap.size) := Lib.hid (fun h => absurd ((HK1.out.lt HA.out.obj).2 _ h) (Nat.lt_irrefl _))
  clear hbl
  go_wp2_with fail
  refine (xtake_v _ HK2.out.pr.b.inv HS.out (congrArg Prod.snd HTA.out)).mono ?_
  rintro e w3 ⟨he, O2, hi, hk, hg⟩
  rw [HTA.out] at hi
  simp only at he hi
  subst he
  have HK3 := Lib.hid (HK2.out.stepB HA.out.obj hi hk hg)
  have HX3 := Lib.hid ((hk.block _ (heap_some_lt HX2.out) HNZ.out).trans HX2.out)
  have hz3 : w2.heap.size < w3.heap.size := heap_some_lt HX3.out
  have x0 : w3.cell? ⟨w2.heap.size, 0, none⟩ = some (.int .i64 n) := by rw [Lib.cell_of_heap HX3.out]; rfl
  have x1 : w3.cell? ⟨w2.heap.size, 1, none⟩ = some (.int .i64 tp.f.i) := by rw [Lib.cell_of_heap HX3.out]; rfl
  have x2 : w3.cell? ⟨w2.heap.size, 2, none⟩ = some (.int .i64 tp.f.n) := by rw [Lib.cell_of_heap HX3.out]; rfl
  have x3 : w3.cell? ⟨w2.heap.size, 3, none⟩ = some (.int .i64 tp.f.l) := by rw [Lib.cell_of_heap HX3.out]; rfl
  have x4 : w3.cell? ⟨w2.heap.size, 4, none⟩ = some (.string tp.f.d) := by rw [Lib.cell_of_heap HX3.out]; rfl
  have x5 : w3.cell? ⟨w2.heap.size, 5, none⟩ = some (.int .i64 tp.fr) := by rw [Lib.cell_of_heap HX3.out]; rfl
  have x6 : w3.cell? ⟨w2.heap.size, 6, none⟩ = some (.int .i64 tp.tag) := by rw [Lib.cell_of_heap HX3.out]; rfl
  have x7 : w3.cell? ⟨w2.heap.size, 7, none⟩ = some (.bool tp.lp) := by rw [Lib.cell_of_heap HX3.out]; rfl
  have x8 : w3.cell? ⟨w2.heap.size, 8, none⟩ = some (.bool tb) := by rw [Lib.cell_of_heap HX3.out]; rfl
  clear hi hk hg
  have HK4 := Lib.hid (HK3.out.later HA.out.obj ((Below.refl w3.heap.size w3).alloc (Nat.le_refl _) (.cells #[.int .i64 tp.f.i, .int .i64 tp.f.n, .int .i64 tp.f.l, .string tp.f.d, .int .i64 tp.fr, .int .i64 tp.tag, .bool tp.lp] 32)))
  have HE : Hid (DoPost9 I w0 v v' s ⟨4, m, p⟩ (fun k => O k ∨ O' k) w (.returned (.bool true)) (w3.alloc (.cells #[.int .i64 tp.f.i, .int .i64 tp.f.n, .int .i64 tp.f.l, .string tp.f.d, .int .i64 tp.fr, .int .i64 tp.tag, .bool tp.lp] 32))) := Lib.hid
    ⟨O1, O2, rfl, by rw [HD.out]; exact HK4.out.pr, HK4.out.kp, HK4.out.g1, HK4.out.g2⟩
  go_wp2
  go_ret
  exact HE.out
set_option maxRecDepth 4000 in
set_option maxHeartbeats 8000000 in
theorem do_best50 {T : World → Prop} {I : World → Value → Bx → (Nat → Prop) → Prop} (A : BoxI T I) {w0 w : World} {v v' : Value} {s : Bx} {O O' : Nat → Prop} {m : Int} {p : Pk} (h : Pair I BxD w0 v v' s s O O' w) (hs : s.Ok) (hT : T w0) (hp : p.ok) (hneg : s.best s.ord.length < 0) :
    Calls Tryd.prog 10 #[v, v', opV9 ⟨5, m, p⟩] w (DoPost9 I w0 v v' s ⟨5, m, p⟩ (fun k => O k ∨ O' k) w) := by
  have HA := Lib.hid A
  have HT := Lib.hid hT
  have HS := Lib.hid hs
  have HPO := Lib.hid hp
  have hb0 := (Below.refl w.heap.size w).alloc (Nat.le_refl _) (.cells #[.int .i64 5, .int .i64 m, .int .i64 p.f.i, .int .i64 p.f.n, .int .i64 p.f.l, .string p.f.d, .int .i64 p.fr, .int .i64 p.tag, .bool p.lp] 34)
  have H0 := Lib.hid (h.later A.obj isObj_box hb0)
  have HW1 := Lib.hid hb0
  have HB0 := Lib.hid (BoxO9.made w ⟨5, m, p⟩)
  have HNO : Hid (¬ (O w.heap.size ∨ O' w.heap.size)) := Lib.hid (fun hh => by
    rcases hh with hh | hh
    · have := A.obj.lt h.a.inv _ hh; omega
    · have := isObj_box.lt h.b.inv _ hh; omega)
  have HZ : Hid (w.heap.size < (w.alloc (.cells #[.int .i64 5, .int .i64 m, .int .i64 p.f.i, .int .i64 p.f.n, .int .i64 p.f.l, .string p.f.d, .int .i64 p.fr, .int .i64 p.tag, .bool p.lp] 34)).heap.size) := Lib.hid (by simp)
  have HBS : Hid (s.bst = (0, pk0, false)) := Lib.hid (by unfold Bx.bst; rw [if_pos hneg])
  have HBV : Hid (s.best s.ord.length = -1) := Lib.hid (by have := (Bx.best_rng hs.ordOk s.ord.length (Nat.le_refl _)).1; omega)
  clear hneg
  clear A hT hs hp h hb0
  go_enter Tryd.func10, Tryd.ntmps10
  have HK0 := Lib.hid (PairK.start HA.out.obj H0.out HW1.out)
  obtain ⟨a0, a1, a2, a3, a4, a5, a6, a7, a8⟩ := HB0.out.cells
  simp only at a0 a1 a2 a3 a4 a5 a6 a7 a8
  have HD : Hid (s.doOp ⟨5, m, p⟩ = s) := Lib.hid (by unfold Bx.doOp; simp only [show (5 : Int) ≠ 0 by decide, show (5 : Int) ≠ 2 by decide, show (5 : Int) ≠ 3 by decide, show (5 : Int) ≠ 4 by decide, if_true, if_false]; rw [if_pos (by rw [HBV.out]; decide)])
  go_wp2_with fail
  refine (HA.out.best HK0.out.pr.a.inv HS.out (HA.out.tab HT.out HK0.out.pr.a.below)).mono ?_
  rintro e w2 ⟨he, hb⟩
  rw [HBS.out] at he
  simp only at he
  subst he
  have HK1 := Lib.hid (HK0.out.later HA.out.obj hb)
  have hbl := (Below.refl w2.heap.size w2).alloc (Nat.le_refl _) (.cells #[.int .i64 pk0.f.i, .int .i64 pk0.f.n, .int .i64 pk0.f.l, .string pk0.f.d, .int .i64 pk0.fr, .int .i64 pk0.tag, .bool pk0.lp] 32)
  have HK2 := Lib.hid (HK1.out.later HA.out.obj hbl)
  have HP2 := Lib.hid (BoxP.made w2 pk0)
  clear hb hbl a0 a1 a2 a3 a4 a5 a6 a7 a8
  go_wp2_with fail
  refine (xbest_v _ HK2.out.pr.b.inv HS.out.ordOk HS.out.n2 (by have := HS.out.ordLe; omega)).mono ?_
  rintro e w3 ⟨he, hb⟩
  rw [HBV.out] at he
  subst he
  have HK3 := Lib.hid (HK2.out.later HA.out.obj hb)
  have HP3 := Lib.hid (HP2.out.later hb)
  obtain ⟨d0, d1, d2, d3, d4, d5, d6⟩ := HP3.out.cells
  have hpz := HP3.out.lt
  clear hb
  simp only [pk0] at d0 d1 d2 d3 d4 d5 d6
  have HE : Hid (∀ w', Below w3.heap.size w3 w' → DoPost9 I w0 v v' s ⟨5, m, p⟩ (fun k => O k ∨ O' k) w (.returned (.bool true)) w') := Lib.hid (fun w' hb => by
    have h4 := HK3.out.later HA.out.obj hb
    exact ⟨O, O', rfl, by rw [HD.out]; exact h4.pr, h4.kp, h4.g1, h4.g2⟩)
  go_wp2
  go_ret
  exact HE.out _ (Below.refl _ _)
set_option maxRecDepth 4000 in
set_option maxHeartbeats 8000000 in
theorem do_best51 {T : World → Prop} {I : World → Value → Bx → (Nat → Prop) → Prop} (A : BoxI T I) {w0 w : World} {v v' : Value} {s : Bx} {O O' : Nat → Prop} {m : Int} {p : Pk} (h : Pair I BxD w0 v v' s s O O' w) (hs : s.Ok) (hT : T w0) (hp : p.ok) {n : Nat} (hbn : s.best s.ord.length = n) :
    Calls Tryd.prog 10 #[v, v', opV9 ⟨5, m, p⟩] w (DoPost9 I w0 v v' s ⟨5, m, p⟩ (fun k => O k ∨ O' k) w) := by
  have HA := Lib.hid A
  have HT := Lib.hid hT
  have HS := Lib.hid hs
  have HPO := Lib.hid hp
  have hb0 := (Below.refl w.heap.size w).alloc (Nat.le_refl _) (.cells #[.int .i64 5, .int .i64 m, .int .i64 p.f.i, .int .i64 p.f.n, .int .i64 p.f.l, .string p.f.d, .int .i64 p.fr, .int .i64 p.tag, .bool p.lp] 34)
  have H0 := Lib.hid (h.later A.obj isObj_box hb0)
  have HW1 := Lib.hid hb0
  have HB0 := Lib.hid (BoxO9.made w ⟨5, m, p⟩)
  have HNO : Hid (¬ (O w.heap.size ∨ O' w.heap.size)) := Lib.hid (fun hh => by
    rcases hh with hh | hh
    · have := A.obj.lt h.a.inv _ hh; omega
    · have := isObj_box.lt h.b.inv _ hh; omega)
  have HZ : Hid (w.heap.size < (w.alloc (.cells #[.int .i64 5, .int .i64 m, .int .i64 p.f.i, .int .i64 p.f.n, .int .i64 p.f.l, .string p.f.d, .int .i64 p.fr, .int .i64 p.tag, .bool p.lp] 34)).heap.size) := Lib.hid (by simp)
  have hnl : n < s.S.length := by have := (Bx.best_rng hs.ordOk s.ord.length (Nat.le_refl _)).2; omega
  obtain ⟨pn, hpn⟩ : ∃ pn, s.P[n]? = some pn := ⟨_, List.getElem?_eq_getElem (by rw [hs.lp]; exact hnl)⟩
  have HPN := Lib.hid hpn
  have HBS : Hid (s.bst = ((n : Int), pn, true)) := Lib.hid (by unfold Bx.bst; rw [if_neg (by omega), hbn, Int.toNat_natCast, List.getD_eq_getElem?_getD, hpn]; rfl)
  have HBV : Hid (s.best s.ord.length = (n : Int)) := Lib.hid hbn
  have HSL : Hid (s.S.length ≤ 1000) := Lib.hid hs.n2
  clear hbn hpn
  clear A hT hs hp h hb0
  go_enter Tryd.func10, Tryd.ntmps10
  have HK0 := Lib.hid (PairK.start HA.out.obj H0.out HW1.out)
  obtain ⟨a0, a1, a2, a3, a4, a5, a6, a7, a8⟩ := HB0.out.cells
  simp only at a0 a1 a2 a3 a4 a5 a6 a7 a8
  obtain ⟨X, hX⟩ : ∃ X, s.end_ (n : Int) 2 = X := ⟨_, rfl⟩
  have HX := Lib.hid hX
  obtain ⟨sX, eX⟩ := X
  have HD : Hid (s.doOp ⟨5, m, p⟩ = sX) := Lib.hid (by unfold Bx.doOp; simp only [show (5 : Int) ≠ 0 by decide, show (5 : Int) ≠ 2 by decide, show (5 : Int) ≠ 3 by decide, show (5 : Int) ≠ 4 by decide, if_true, if_false]; rw [if_neg (by rw [HBV.out]; omega), HBV.out]; exact congrArg Prod.fst hX)
  clear hX
  go_wp2_with fail
  refine (HA.out.best HK0.out.pr.a.inv HS.out (HA.out.tab HT.out HK0.out.pr.a.below)).mono ?_
  rintro e w2 ⟨he, hb⟩
  rw [HBS.out] at he
  simp only at he
  subst he
  have HK1 := Lib.hid (HK0.out.later HA.out.obj hb)
  have hbl := (Below.refl w2.heap.size w2).alloc (Nat.le_refl _) (.cells #[.int .i64 pn.f.i, .int .i64 pn.f.n, .int .i64 pn.f.l, .string pn.f.d, .int .i64 pn.fr, .int .i64 pn.tag, .bool pn.lp] 32)
  have HK2 := Lib.hid (HK1.out.later HA.out.obj hbl)
  have HP2 := Lib.hid (BoxP.made w2 pn)
  clear hb hbl a0 a1 a2 a3 a4 a5 a6 a7 a8
  go_wp2_with fail
  refine (xbest_v _ HK2.out.pr.b.inv HS.out.ordOk HS.out.n2 (by have := HS.out.ordLe; omega)).mono ?_
  rintro e w3 ⟨he, hb⟩
  rw [HBV.out] at he
  subst he
  have HK3 := Lib.hid (HK2.out.later HA.out.obj hb)
  have HP3 := Lib.hid (HP2.out.later hb)
  obtain ⟨d0, d1, d2, d3, d4, d5, d6⟩ := HP3.out.cells
  have hpz := HP3.out.lt
  clear hb
  go_wp2_with fail
  refine (HA.out.sent (n : Int) HK3.out.pr.a.inv HS.out).mono ?_
  rintro e w4 ⟨he, O1, hi, hk, hg⟩
  rw [HX.out] at he hi
  simp only at he hi
  subst he
  have HK4 := Lib.hid (HK3.out.stepA HA.out.obj hi hk hg)
  clear hi hk hg d0 d1 d2 d3 d4 d5 d6
  go_wp2_with fail
  refine (xend_v _ HK4.out.pr.b.inv (congrArg Prod.snd HX.out) HS.out.n2 HS.out.ordLe HS.out.finLe).mono ?_
  rintro e w5 ⟨he, O2, hi, hk, hg⟩
  rw [HX.out] at hi
  simp only at he hi
  subst he
  have HK5 := Lib.hid (HK4.out.stepB HA.out.obj hi hk hg)
  clear hi hk hg
  go_wp2
  go_ret
  exact ⟨O1, O2, by simp, by rw [HD.out]; exact HK5.out.pr, HK5.out.kp, HK5.out.g1, HK5.out.g2⟩
set_option maxRecDepth 4000 in
set_option maxHeartbeats 8000000 in
theorem do_none9 {T : World → Prop} {I : World → Value → Bx → (Nat → Prop) → Prop} (A : BoxI T I) {w0 w : World} {v v' : Value} {s : Bx} {O O' : Nat → Prop} {m : Int} {p : Pk} {k : Int} (h : Pair I BxD w0 v v' s s O O' w) (hs : s.Ok) (hT : T w0) (hp : p.ok) (hk : k < 0 ∨ 5 < k) :
    Calls Tryd.prog 10 #[v, v', opV9 ⟨k, m, p⟩] w (DoPost9 I w0 v v' s ⟨k, m, p⟩ (fun k => O k ∨ O' k) w) := by
  have HA := Lib.hid A
  have HT := Lib.hid hT
  have HS := Lib.hid hs
  have HPO := Lib.hid hp
  have hb0 := (Below.refl w.heap.size w).alloc (Nat.le_refl _) (.cells #[.int .i64 k, .int .i64 m, .int .i64 p.f.i, .int .i64 p.f.n, .int .i64 p.f.l, .string p.f.d, .int .i64 p.fr, .int .i64 p.tag, .bool p.lp] 34)
  have H0 := Lib.hid (h.later A.obj isObj_box hb0)
  have HW1 := Lib.hid hb0
  have HB0 := Lib.hid (BoxO9.made w ⟨k, m, p⟩)
  have HNO : Hid (¬ (O w.heap.size ∨ O' w.heap.size)) := Lib.hid (fun hh => by
    rcases hh with hh | hh
    · have := A.obj.lt h.a.inv _ hh; omega
    · have := isObj_box.lt h.b.inv _ hh; omega)
  have HZ : Hid (w.heap.size < (w.alloc (.cells #[.int .i64 k, .int .i64 m, .int .i64 p.f.i, .int .i64 p.f.n, .int .i64 p.f.l, .string p.f.d, .int .i64 p.fr, .int .i64 p.tag, .bool p.lp] 34)).heap.size) := Lib.hid (by simp)
  clear A hT hs hp h hb0
  go_enter Tryd.func10, Tryd.ntmps10
  have HK0 := Lib.hid (PairK.start HA.out.obj H0.out HW1.out)
  have k0 : (k == 0) = false := by simp; omega
  have k1 : (k == 1) = false := by simp; omega
  have k2 : (k == 2) = false := by simp; omega
  have k3 : (k == 3) = false := by simp; omega
  have k4 : (k == 4) = false := by simp; omega
  have k5 : (k == 5) = false := by simp; omega
  have HD : Hid (s.doOp ⟨k, m, p⟩ = s) := Lib.hid (by unfold Bx.doOp; rw [if_neg (by simp only; omega), if_neg (by simp only; omega), if_neg (by simp only; omega), if_neg (by simp only; omega), if_neg (by simp only; omega)])
  clear hk
  go_wp2
  go_ret
  exact ⟨O, O', rfl, by rw [HD.out]; exact HK0.out.pr, HK0.out.kp, HK0.out.g1, HK0.out.g2⟩
theorem do_any9 {T : World → Prop} {I : World → Value → Bx → (Nat → Prop) → Prop} (A : BoxI T I) {w0 w : World} {v v' : Value} {s : Bx} {O O' : Nat → Prop} {o : Op9} (h : Pair I BxD w0 v v' s s O O' w) (hs : s.Ok) (hT : T w0) (hp : o.p.ok) :
    Calls Tryd.prog 10 #[v, v', opV9 o] w (DoPost9 I w0 v v' s o (fun k => O k ∨ O' k) w) := by
  obtain ⟨k, m, p⟩ := o
  have hb := Bx.best_rng hs.ordOk s.ord.length (Nat.le_refl _)
  by_cases h0 : k = 0
  · subst h0; exact do_put A h hs hT hp
  by_cases h1 : k = 1
  · subst h1
    by_cases hn : s.best s.ord.length < 0
    · exact do_best0 A h hs hT hp hn
    · obtain ⟨n, hn'⟩ := Int.eq_ofNat_of_zero_le (show 0 ≤ s.best s.ord.length by omega)
      exact do_best1 A h hs hT hp hn'
  by_cases h2 : k = 2
  · subst h2; exact do_sent A h hs hT hp
  by_cases h3 : k = 3
  · subst h3; exact do_abort A h hs hT hp
  by_cases h4 : k = 4
  · subst h4
    cases hf : s.fin with
    | nil => exact do_take0 A h hs hT hp hf
    | cons x r =>
      obtain ⟨h1, h2, _⟩ := hs.fin x (by rw [hf]; simp)
      obtain ⟨n, rfl⟩ := Int.eq_ofNat_of_zero_le h1
      have ht : s.take = (s.take.1, (n : Int), s.take.2.2.1, s.take.2.2.2) := by unfold Bx.take; rw [hf]
      exact do_take1 A h hs hT hp (by rw [hf]; simp) ht
  by_cases h5 : k = 5
  · subst h5
    by_cases hn : s.best s.ord.length < 0
    · exact do_best50 A h hs hT hp hn
    · obtain ⟨n, hn'⟩ := Int.eq_ofNat_of_zero_le (show 0 ≤ s.best s.ord.length by omega)
      exact do_best51 A h hs hT hp hn'
  exact do_none9 A h hs hT hp (by omega)
theorem Bx.Ok.doOp {s : Bx} (h : s.Ok) (o : Op9) : (s.doOp o).Ok := by
  unfold Bx.doOp
  split
  · exact h.put _
  · split
    · exact h.end_ _ (.inl rfl)
    · split
      · exact h.end_ _ (.inr rfl)
      · split
        · exact h.take
        · split
          · split
            · exact h
            · exact h.end_ _ (.inl rfl)
          · exact h
end Go.Proofs.YtghmidpbfpfcoaaDoor
