/- Ctrl: the law's do. Printed by gen_do.py. -/
import Derived.Test.YtmmcjmejcngajaaGreatDoorZat
import Derived.Deep.RegionWith
namespace Go.Proofs.YtmmcjmejcngajaaGreatDoor
open Go.RowKit
set_option linter.unusedVariables false

/-- a call behind an address -/
def CtlO9 (w : World) (b : Nat) (o : Op9) : Prop := w.heap[b]? = some (.cells #[.int .i64 o.k, .int .i64 o.b, .int .i64 o.p.f.i, .int .i64 o.p.f.n, .int .i64 o.p.f.l, .string o.p.f.d, .int .i64 o.p.fr, .int .i64 o.p.tag, .bool o.p.lp] 37 (0, 0))
theorem CtlO9.made (w : World) (o : Op9) : CtlO9 (w.alloc (.cells #[.int .i64 o.k, .int .i64 o.b, .int .i64 o.p.f.i, .int .i64 o.p.f.n, .int .i64 o.p.f.l, .string o.p.f.d, .int .i64 o.p.fr, .int .i64 o.p.tag, .bool o.p.lp] 37)) w.heap.size o := by unfold CtlO9 World.alloc; simp
theorem CtlO9.lt {w : World} {b : Nat} {o : Op9} (h : CtlO9 w b o) : b < w.heap.size := (Array.getElem?_eq_some_iff.1 h).1
theorem CtlO9.kept {w w' : World} {b : Nat} {o : Op9} {O : Nat → Prop} (h : CtlO9 w b o) (hk : Kept O w w') (hn : ¬ O b) : CtlO9 w' b o := (hk.block b h.lt hn).trans h
theorem CtlO9.later {w w' : World} {b : Nat} {o : Op9} (h : CtlO9 w b o) (hb : Below w.heap.size w w') : CtlO9 w' b o := (hb.block b h.lt).trans h
theorem CtlO9.cells {w : World} {b : Nat} {o : Op9} (h : CtlO9 w b o) : w.cell? ⟨b, 0, none⟩ = some (.int .i64 o.k) ∧ w.cell? ⟨b, 1, none⟩ = some (.int .i64 o.b) ∧ w.cell? ⟨b, 2, none⟩ = some (.int .i64 o.p.f.i) ∧ w.cell? ⟨b, 3, none⟩ = some (.int .i64 o.p.f.n) ∧ w.cell? ⟨b, 4, none⟩ = some (.int .i64 o.p.f.l) ∧
    w.cell? ⟨b, 5, none⟩ = some (.string o.p.f.d) ∧ w.cell? ⟨b, 6, none⟩ = some (.int .i64 o.p.fr) ∧ w.cell? ⟨b, 7, none⟩ = some (.int .i64 o.p.tag) ∧ w.cell? ⟨b, 8, none⟩ = some (.bool o.p.lp) := by
  unfold CtlO9 at h
  refine ⟨?_, ?_, ?_, ?_, ?_, ?_, ?_, ?_, ?_⟩ <;> (rw [Lib.cell_of_heap h]; rfl)
/-- what a call makes of a controller -/
def Ct.doOp (s : Ct) (o : Op9) : Ct :=
  if o.k = 0 then { s with bx := (s.bx.put o.p).1 } else if o.k = 2 then s.won else if o.k = 3 then (s.hear o.p.f).1 else if o.k = 4 then { s with asks := setB s.asks 8 }
  else if o.k = 5 then { s with asks := clrK s.asks o.b 4 } else if o.k = 6 then { s with bx := s.bx.take.1 } else if o.k = 7 then s.fetch.1 else if o.k = 8 then s.abort.1 else s
abbrev opV9 (o : Op9) : Value := .agg #[.int .i64 o.k, .int .i64 o.b, .int .i64 o.p.f.i, .int .i64 o.p.f.n, .int .i64 o.p.f.l, .string o.p.f.d, .int .i64 o.p.fr, .int .i64 o.p.tag, .bool o.p.lp]
/-- what do asks of a controller, of the caller's filters -/
structure DoPre (w0 : World) (s : Ct) : Prop where
  ok : s.Ok
  ls : s.lost ≤ 1000000
  sl : SlG flC 3 w0 w0.heap.size s.va s.acc
  fit : ∀ x ∈ s.acc, x.fits
/-- behind the law's do -/
def DoPostC (I : World → Value → Ct → (Nat → Prop) → Prop) (w0 : World) (v v' : Value) (s : Ct) (o : Op9) (U : Nat → Prop) (w : World) (e : Ending) (w' : World) : Prop :=
  ∃ O1 O2, e = .returned (.bool true) ∧ Pair I CtD w0 v v' (s.doOp o) (s.doOp o) O1 O2 w' ∧ Kept U w w' ∧ Grows U w O1 ∧ Grows U w O2
/-- a region with one call that turns memory -/
def OneS (W : World) (O : Nat → Prop) (S : World → Prop) (k : Nat) (xs : Tmp → Option Value) (w : World) : Prop := Kept O W w ∧ ((k = 0 ∧ Below W.heap.size W w) ∨ (k = 1 ∧ S w))
theorem OneS.start {W w : World} {O : Nat → Prop} {S : World → Prop} {xs : Tmp → Option Value} (h : Below W.heap.size W w) : OneS W O S 0 xs w := ⟨.of_below h, .inl ⟨rfl, h⟩⟩
theorem OneS.one {σ : Type} {I : World → Value → σ → (Nat → Prop) → Prop} {W w : World} {v : Value} {O : Nat → Prop} {s' : σ} {xs : Tmp → Option Value} (h : Stp I v O W s' w) : OneS W O (fun w' => Stp I v O W s' w') 1 xs w :=
  ⟨by obtain ⟨_, _, h, _⟩ := h; exact h, .inr ⟨rfl, h⟩⟩
theorem OneS.kept {W w : World} {O : Nat → Prop} {S : World → Prop} {k : Nat} {xs : Tmp → Option Value} (h : OneS W O S k xs w) : Kept O W w := h.1
theorem OneS.zero {W w : World} {O : Nat → Prop} {S : World → Prop} {xs : Tmp → Option Value} (h : OneS W O S 0 xs w) : Below W.heap.size W w := by
  rcases h.2 with ⟨_, h⟩ | ⟨h, _⟩
  · exact h
  · cases h
theorem OneS.out {W w : World} {O : Nat → Prop} {S : World → Prop} {xs : Tmp → Option Value} (h : OneS W O S 1 xs w) : S w := by
  rcases h.2 with ⟨h, _⟩ | ⟨_, h⟩
  · cases h
  · exact h
theorem CtM.boxesD {w w' : World} {b : Nat} {bv vf : Value} {Ob : Nat → Prop} {s : Ct} {bx' : Bx} (h : CtM w b bv Ob vf s) (hs : Stp BxD bv Ob w bx' w') : Stp CtD (.pointer (some ⟨b, 0, none⟩)) (ctO b Ob vf) w { s with bx := bx' } w' := by
  obtain ⟨Ob', h1, h2, h3⟩ := h.boxes hs
  exact ⟨_, ⟨b, bv, Ob', vf, rfl, rfl, h1⟩, h2, h3⟩
theorem CtD.parts {w : World} {g : Nat} {s : Ct} {O : Nat → Prop} (h : CtD w (.pointer (some ⟨g, 0, none⟩)) s O) : ∃ bv Ob vf, O = ctO g Ob vf ∧ CtM w g bv Ob vf s := by
  obtain ⟨b, bv, Ob, vf, h1, h2, h3⟩ := h
  injection h1 with h1
  injection h1 with h1
  injection h1 with h1
  subst h1
  exact ⟨bv, Ob, vf, h2, h3⟩
set_option maxRecDepth 4000 in
set_option maxHeartbeats 8000000 in
theorem cdo_load {T : World → Prop} {I : World → Value → Ct → (Nat → Prop) → Prop} (A : CtrlI T I) {w0 w : World} {v : Value} {g : Nat} {s : Ct} {O O' : Nat → Prop} {m : Int} {p : Pk} (h : Pair I CtD w0 v (.pointer (some ⟨g, 0, none⟩)) s s O O' w) (hs : DoPre w0 s) (hT : T w0) (hp : p.ok) (hm : -9223372036854775808 ≤ m ∧ m ≤ 9223372036854775807) :
    Calls Tryz.prog 8 #[v, .pointer (some ⟨g, 0, none⟩), opV9 ⟨0, m, p⟩] w (DoPostC I w0 v (.pointer (some ⟨g, 0, none⟩)) s ⟨0, m, p⟩ (fun k => O k ∨ O' k) w) := by
  have HA := Lib.hid A
  have HT := Lib.hid hT
  have HS := Lib.hid hs
  have HPO := Lib.hid hp
  have HMO := Lib.hid hm
  have hb0 := (Below.refl w.heap.size w).alloc (Nat.le_refl _) (.cells #[.int .i64 0, .int .i64 m, .int .i64 p.f.i, .int .i64 p.f.n, .int .i64 p.f.l, .string p.f.d, .int .i64 p.fr, .int .i64 p.tag, .bool p.lp] 37)
  have H0 := Lib.hid (h.later A.obj isObj_ct hb0)
  have HW1 := Lib.hid hb0
  have HB0 := Lib.hid (CtlO9.made w ⟨0, m, p⟩)
  have HNO : Hid (¬ (O w.heap.size ∨ O' w.heap.size)) := Lib.hid (fun hh => by
    rcases hh with hh | hh
    · have := A.obj.lt h.a.inv _ hh; omega
    · have := isObj_ct.lt h.b.inv _ hh; omega)
  have HZ : Hid (w.heap.size < (w.alloc (.cells #[.int .i64 0, .int .i64 m, .int .i64 p.f.i, .int .i64 p.f.n, .int .i64 p.f.l, .string p.f.d, .int .i64 p.fr, .int .i64 p.tag, .bool p.lp] 37)).heap.size) := Lib.hid (by simp)
  clear A hT hs hp h hb0 hm
  go_enter Tryz.func8, Tryz.ntmps8
  have HK0 := Lib.hid (PairJ.start HA.out.obj isObj_ct H0.out HW1.out)
  obtain ⟨a0, a1, a2, a3, a4, a5, a6, a7, a8⟩ := HB0.out.cells
  simp only at a0 a1 a2 a3 a4 a5 a6 a7 a8
  obtain ⟨X, hX⟩ : ∃ X, s.bx.put p = X := ⟨_, rfl⟩
  have HX := Lib.hid hX
  obtain ⟨sX, iX, eX⟩ := X
  have HD : Hid (s.doOp ⟨0, m, p⟩ = { s with bx := sX }) := Lib.hid (by unfold Ct.doOp; simp only [if_true]; rw [hX])
  clear hX
  go_wp2_with fail
  refine (HA.out.load p HK0.out.pr.a.inv HS.out.ok (HA.out.tab HT.out HK0.out.pr.a.below) HPO.out).mono ?_
  rintro e w2 ⟨he, O1, hi, hk, hg⟩
  rw [HX.out] at he hi
  simp only at he hi
  subst he
  have HB1 := Lib.hid (HB0.out.kept hk (fun h => HNO.out (.inl h)))
  have HK1 := Lib.hid (HK0.out.stepA HA.out.obj isObj_ct hi hk hg)
  clear a0 a1 a2 a3 a4 a5 a6 a7 a8 hi hk hg
  obtain ⟨bv, Ob, vf, hOO, hm⟩ := HK1.out.pr.b.inv.parts
  have HM := Lib.hid hm
  obtain ⟨q0, q1, q2, q3, q4, q5⟩ := hm.cells
  have hgz := heap_some_lt hm.box
  have hoz := HB1.out.lt
  have HOO := Lib.hid hOO
  clear hm hOO
  obtain ⟨a0, a1, a2, a3, a4, a5, a6, a7, a8⟩ := HB1.out.cells
  simp only at a0 a1 a2 a3 a4 a5 a6 a7 a8
  go_upto_region 4 with fail
  have hcl : ∀ (n : KLater Ob w2) (o : Nat), n.w.cell? ⟨w.heap.size, o, none⟩ = w2.cell? ⟨w.heap.size, o, none⟩ := fun n o => n.cell w.heap.size o hoz (fun h => HNO.out (.inr (by rw [HOO.out]; exact .inr (.inl h))))
  have hcg : ∀ (n : KLater Ob w2) (o : Nat), n.w.cell? ⟨g, o, none⟩ = w2.cell? ⟨g, o, none⟩ := fun n o => n.cell g o hgz HM.out.h1
  refine wp_region_st 11 [6] (OneS w2 Ob (fun w' => Stp BxD bv Ob w2 sX w')) [] (OneS.start (Below.refl _ _).drew) (by kernel_rfl) (by kernel_rfl) (by kernel_rfl) (by kernel_rfl) (by kernel_rfl) (by kernel_rfl) (by kernel_rfl) ?_
  simp only [List.take_succ_cons, List.take_zero, List.drop_succ_cons, List.drop_zero]
  repeat ((first | refine st_plain (fun h => OneS.kept h) (by rfl) (by rfl) (by rfl) (by rfl) (by rfl) ?_ | refine st_nil (fun h => OneS.kept h) (by rfl) (by rfl) (by rfl) (by rfl) (by rfl) (by rfl) ?_); intro K hK; go_big_quiet_op; go_big_quiet_on)
  refine st_step (f := 23) (args := #[bv, pkV p]) (v := .tuple #[.int .i64 iX, .int .i64 eX]) 0 (by rfl) (by rfl) (by rfl) (by rfl) (by rfl) (fun w => by simp [go_sem]) (fun xs9 w9 h9 => ?_) ?_
  · have hb9 := h9.zero
    refine (xput_v (p := p) _ (HM.out.later hb9).bx (congrArg Prod.snd HX.out) HS.out.ok.bx.n2 HS.out.ok.bx.ordLe).mono ?_
    rintro e w' ⟨he, hs4⟩
    rw [HX.out] at hs4
    exact ⟨he, OneS.one (stp_comb (.of_below hb9) (Grows.refl _ _) hs4)⟩
  simp only [Act.put, List.setIfInBounds_toArray, List.set_cons_succ, List.set_cons_zero]
  repeat ((first | refine st_plain (fun h => OneS.kept h) (by rfl) (by rfl) (by rfl) (by rfl) (by rfl) ?_ | refine st_nil (fun h => OneS.kept h) (by rfl) (by rfl) (by rfl) (by rfl) (by rfl) (by rfl) ?_); intro K hK; go_big_quiet_op; go_big_quiet_on)
  intro ys xs w9 hF h9
  simp only [secFill]
  obtain ⟨O2, hi, hk, hg⟩ := HM.out.boxesD h9.out
  rw [← HOO.out] at hk hg
  have HK3 := Lib.hid (HK1.out.stepB HA.out.obj isObj_ct hi hk hg)
  clear a0 a1 a2 a3 a4 a5 a6 a7 a8 hi hk hg h9 hF hcl hcg q0 q1 q2 q3 q4 q5 hgz hoz
  go_wp2
  go_ret
  exact ⟨O1, O2, by simp, by rw [HD.out]; exact HK3.out.pr, HK3.out.kp, HK3.out.g1, HK3.out.g2⟩
set_option maxRecDepth 4000 in
set_option maxHeartbeats 8000000 in
theorem cdo_offer {T : World → Prop} {I : World → Value → Ct → (Nat → Prop) → Prop} (A : CtrlI T I) {w0 w : World} {v : Value} {g : Nat} {s : Ct} {O O' : Nat → Prop} {m : Int} {p : Pk} (h : Pair I CtD w0 v (.pointer (some ⟨g, 0, none⟩)) s s O O' w) (hs : DoPre w0 s) (hT : T w0) (hp : p.ok) (hm : -9223372036854775808 ≤ m ∧ m ≤ 9223372036854775807) :
    Calls Tryz.prog 8 #[v, .pointer (some ⟨g, 0, none⟩), opV9 ⟨1, m, p⟩] w (DoPostC I w0 v (.pointer (some ⟨g, 0, none⟩)) s ⟨1, m, p⟩ (fun k => O k ∨ O' k) w) := by
  have HA := Lib.hid A
  have HT := Lib.hid hT
  have HS := Lib.hid hs
  have HPO := Lib.hid hp
  have HMO := Lib.hid hm
  have hb0 := (Below.refl w.heap.size w).alloc (Nat.le_refl _) (.cells #[.int .i64 1, .int .i64 m, .int .i64 p.f.i, .int .i64 p.f.n, .int .i64 p.f.l, .string p.f.d, .int .i64 p.fr, .int .i64 p.tag, .bool p.lp] 37)
  have H0 := Lib.hid (h.later A.obj isObj_ct hb0)
  have HW1 := Lib.hid hb0
  have HB0 := Lib.hid (CtlO9.made w ⟨1, m, p⟩)
  have HNO : Hid (¬ (O w.heap.size ∨ O' w.heap.size)) := Lib.hid (fun hh => by
    rcases hh with hh | hh
    · have := A.obj.lt h.a.inv _ hh; omega
    · have := isObj_ct.lt h.b.inv _ hh; omega)
  have HZ : Hid (w.heap.size < (w.alloc (.cells #[.int .i64 1, .int .i64 m, .int .i64 p.f.i, .int .i64 p.f.n, .int .i64 p.f.l, .string p.f.d, .int .i64 p.fr, .int .i64 p.tag, .bool p.lp] 37)).heap.size) := Lib.hid (by simp)
  clear A hT hs hp h hb0 hm
  go_enter Tryz.func8, Tryz.ntmps8
  have HK0 := Lib.hid (PairJ.start HA.out.obj isObj_ct H0.out HW1.out)
  obtain ⟨a0, a1, a2, a3, a4, a5, a6, a7, a8⟩ := HB0.out.cells
  simp only at a0 a1 a2 a3 a4 a5 a6 a7 a8
  have HD : Hid (s.doOp ⟨1, m, p⟩ = s) := Lib.hid (by unfold Ct.doOp; simp only [show (1 : Int) ≠ 0 by decide, show (1 : Int) ≠ 2 by decide, show (1 : Int) ≠ 3 by decide, show (1 : Int) ≠ 4 by decide, show (1 : Int) ≠ 5 by decide, show (1 : Int) ≠ 6 by decide, show (1 : Int) ≠ 7 by decide, show (1 : Int) ≠ 8 by decide, if_false])
  obtain ⟨X, hX⟩ : ∃ X, s.off = X := ⟨_, rfl⟩
  have HX := Lib.hid hX
  obtain ⟨fo, bo⟩ := X
  clear hX
  go_wp2_with fail
  refine (HA.out.offer HK0.out.pr.a.inv HS.out.ok (HA.out.tab HT.out HK0.out.pr.a.below)).mono ?_
  rintro e w2 ⟨he, hb⟩
  rw [HX.out] at he
  simp only at he
  subst he
  have HK1 := Lib.hid (HK0.out.later HA.out.obj isObj_ct hb)
  have hbl := (Below.refl w2.heap.size w2).alloc (Nat.le_refl _) (.cells #[.int .i64 fo.i, .int .i64 fo.n, .int .i64 fo.l, .string fo.d] 33)
  have HK2 := Lib.hid (HK1.out.later HA.out.obj isObj_ct hbl)
  have HF2 := Lib.hid (BoxF.made w2 fo.i fo.n fo.l fo.d)
  clear a0 a1 a2 a3 a4 a5 a6 a7 a8 hb hbl
  go_wp2_with fail
  refine (xoffer_v _ HK2.out.pr.b.inv HS.out.ok).mono ?_
  rintro e w3 ⟨he, hb⟩
  rw [HX.out] at he
  simp only at he
  subst he
  have HK3 := Lib.hid (HK2.out.later HA.out.obj isObj_ct hb)
  have HF3 := Lib.hid (HF2.out.later hb)
  obtain ⟨d0, d1, d2, d3⟩ := HF3.out.cells
  have hpz := HF3.out.lt
  clear hb
  have HK4 := Lib.hid (HK3.out.later HA.out.obj isObj_ct ((Below.refl w3.heap.size w3).alloc (Nat.le_refl _) (.cells #[.int .i64 fo.i, .int .i64 fo.n, .int .i64 fo.l, .string fo.d] 33)))
  go_wp2
  go_ret
  exact ⟨O, O', by simp, by rw [HD.out]; exact HK4.out.pr, HK4.out.kp, HK4.out.g1, HK4.out.g2⟩
set_option maxRecDepth 4000 in
set_option maxHeartbeats 8000000 in
theorem cdo_won {T : World → Prop} {I : World → Value → Ct → (Nat → Prop) → Prop} (A : CtrlI T I) {w0 w : World} {v : Value} {g : Nat} {s : Ct} {O O' : Nat → Prop} {m : Int} {p : Pk} (h : Pair I CtD w0 v (.pointer (some ⟨g, 0, none⟩)) s s O O' w) (hs : DoPre w0 s) (hT : T w0) (hp : p.ok) (hm : -9223372036854775808 ≤ m ∧ m ≤ 9223372036854775807) :
    Calls Tryz.prog 8 #[v, .pointer (some ⟨g, 0, none⟩), opV9 ⟨2, m, p⟩] w (DoPostC I w0 v (.pointer (some ⟨g, 0, none⟩)) s ⟨2, m, p⟩ (fun k => O k ∨ O' k) w) := by
  have HA := Lib.hid A
  have HT := Lib.hid hT
  have HS := Lib.hid hs
  have HPO := Lib.hid hp
  have HMO := Lib.hid hm
  have hb0 := (Below.refl w.heap.size w).alloc (Nat.le_refl _) (.cells #[.int .i64 2, .int .i64 m, .int .i64 p.f.i, .int .i64 p.f.n, .int .i64 p.f.l, .string p.f.d, .int .i64 p.fr, .int .i64 p.tag, .bool p.lp] 37)
  have H0 := Lib.hid (h.later A.obj isObj_ct hb0)
  have HW1 := Lib.hid hb0
  have HB0 := Lib.hid (CtlO9.made w ⟨2, m, p⟩)
  have HNO : Hid (¬ (O w.heap.size ∨ O' w.heap.size)) := Lib.hid (fun hh => by
    rcases hh with hh | hh
    · have := A.obj.lt h.a.inv _ hh; omega
    · have := isObj_ct.lt h.b.inv _ hh; omega)
  have HZ : Hid (w.heap.size < (w.alloc (.cells #[.int .i64 2, .int .i64 m, .int .i64 p.f.i, .int .i64 p.f.n, .int .i64 p.f.l, .string p.f.d, .int .i64 p.fr, .int .i64 p.tag, .bool p.lp] 37)).heap.size) := Lib.hid (by simp)
  clear A hT hs hp h hb0 hm
  go_enter Tryz.func8, Tryz.ntmps8
  have HK0 := Lib.hid (PairJ.start HA.out.obj isObj_ct H0.out HW1.out)
  obtain ⟨a0, a1, a2, a3, a4, a5, a6, a7, a8⟩ := HB0.out.cells
  simp only at a0 a1 a2 a3 a4 a5 a6 a7 a8
  have HD : Hid (s.doOp ⟨2, m, p⟩ = s.won) := Lib.hid (by unfold Ct.doOp; simp only [show (2 : Int) ≠ 0 by decide, if_true, if_false])
  obtain ⟨q, hq⟩ : ∃ q, s.off.2 = q := ⟨_, rfl⟩
  have HQ := Lib.hid hq
  clear hq
  go_wp2_with fail
  refine (HA.out.won HK0.out.pr.a.inv HS.out.ok (HA.out.tab HT.out HK0.out.pr.a.below)).mono ?_
  rintro e w2 ⟨he, O1, hi, hk, hg⟩
  rw [HQ.out] at he
  subst he
  have HK1 := Lib.hid (HK0.out.stepA HA.out.obj isObj_ct hi hk hg)
  clear a0 a1 a2 a3 a4 a5 a6 a7 a8 hi hk hg
  go_wp2_with fail
  refine (xwon_v _ HK1.out.pr.b.inv HS.out.ok).mono ?_
  rintro e w3 ⟨he, O2, hi, hk, hg⟩
  rw [HQ.out] at he
  subst he
  have HK2 := Lib.hid (HK1.out.stepB HA.out.obj isObj_ct hi hk hg)
  clear hi hk hg
  go_wp2
  go_ret
  exact ⟨O1, O2, by simp, by rw [HD.out]; exact HK2.out.pr, HK2.out.kp, HK2.out.g1, HK2.out.g2⟩
set_option maxRecDepth 4000 in
set_option maxHeartbeats 8000000 in
theorem cdo_hear {T : World → Prop} {I : World → Value → Ct → (Nat → Prop) → Prop} (A : CtrlI T I) {w0 w : World} {v : Value} {g : Nat} {s : Ct} {O O' : Nat → Prop} {m : Int} {p : Pk} (h : Pair I CtD w0 v (.pointer (some ⟨g, 0, none⟩)) s s O O' w) (hs : DoPre w0 s) (hT : T w0) (hp : p.ok) (hm : -9223372036854775808 ≤ m ∧ m ≤ 9223372036854775807) :
    Calls Tryz.prog 8 #[v, .pointer (some ⟨g, 0, none⟩), opV9 ⟨3, m, p⟩] w (DoPostC I w0 v (.pointer (some ⟨g, 0, none⟩)) s ⟨3, m, p⟩ (fun k => O k ∨ O' k) w) := by
  have HA := Lib.hid A
  have HT := Lib.hid hT
  have HS := Lib.hid hs
  have HPO := Lib.hid hp
  have HMO := Lib.hid hm
  have hb0 := (Below.refl w.heap.size w).alloc (Nat.le_refl _) (.cells #[.int .i64 3, .int .i64 m, .int .i64 p.f.i, .int .i64 p.f.n, .int .i64 p.f.l, .string p.f.d, .int .i64 p.fr, .int .i64 p.tag, .bool p.lp] 37)
  have H0 := Lib.hid (h.later A.obj isObj_ct hb0)
  have HW1 := Lib.hid hb0
  have HB0 := Lib.hid (CtlO9.made w ⟨3, m, p⟩)
  have HNO : Hid (¬ (O w.heap.size ∨ O' w.heap.size)) := Lib.hid (fun hh => by
    rcases hh with hh | hh
    · have := A.obj.lt h.a.inv _ hh; omega
    · have := isObj_ct.lt h.b.inv _ hh; omega)
  have HZ : Hid (w.heap.size < (w.alloc (.cells #[.int .i64 3, .int .i64 m, .int .i64 p.f.i, .int .i64 p.f.n, .int .i64 p.f.l, .string p.f.d, .int .i64 p.fr, .int .i64 p.tag, .bool p.lp] 37)).heap.size) := Lib.hid (by simp)
  clear A hT hs hp h hb0 hm
  go_enter Tryz.func8, Tryz.ntmps8
  go_upto_region 13 with fail
  generalize w.alloc (.cells #[.int .i64 3, .int .i64 m, .int .i64 p.f.i, .int .i64 p.f.n, .int .i64 p.f.l, .string p.f.d, .int .i64 p.fr, .int .i64 p.tag, .bool p.lp] 37) = w1 at H0 HB0 HZ HW1 ⊢
  generalize w.heap.size = b at HB0 HNO HZ ⊢
  obtain ⟨a0, a1, a2, a3, a4, a5, a6, a7, a8⟩ := HB0.out.cells
  simp only at a0 a1 a2 a3 a4 a5 a6 a7 a8
  have hcl : ∀ (n : KLater (fun k => O k ∨ O' k) w1) (o : Nat), n.w.cell? ⟨b, o, none⟩ = w1.cell? ⟨b, o, none⟩ := fun n o => n.cell b o HZ.out HNO.out
  obtain ⟨X, hX⟩ : ∃ X, s.hear p.f = X := ⟨_, rfl⟩
  have HX := Lib.hid hX
  obtain ⟨sX, eX⟩ := X
  have HD : Hid (s.doOp ⟨3, m, p⟩ = sX) := Lib.hid (by unfold Ct.doOp; simp only [show (3 : Int) ≠ 0 by decide, show (3 : Int) ≠ 2 by decide, if_true, if_false]; exact congrArg Prod.fst hX)
  clear hX
  refine wp_region_st 10 [4, 9] (PairS I CtD w0 w1 (fun k => O k ∨ O' k) v (.pointer (some ⟨g, 0, none⟩)) (fun _ => none) s sX s sX) [] (PairC.mk HA.out.obj isObj_ct H0.out) (by kernel_rfl) (by kernel_rfl) (by kernel_rfl) (by kernel_rfl) (by kernel_rfl) (by kernel_rfl) (by kernel_rfl) ?_
  simp only [List.take_succ_cons, List.take_zero, List.drop_succ_cons, List.drop_zero]
  repeat (refine st_plain (fun h => PairS.kept h) (by rfl) (by rfl) (by rfl) (by rfl) (by rfl) ?_; intro K hK; go_big_quiet_op; go_big_quiet_on)
  refine st_step (f := 16) (args := #[v, fmV p.f]) (v := .bool eX) 0 (by rfl) (by rfl) (by rfl) (by rfl) (by rfl) (fun w => by simp [go_sem]) (fun xs9 w9 h9 => ?_) ?_
  · obtain ⟨O1, O2, hp, hk, hg1, hg2, hh⟩ := h9
    refine (HA.out.hear p.f hp.a.inv HS.out.ok HS.out.ls (HA.out.tab HT.out hp.a.below) HPO.out ⟨slA_old HS.out.sl hp.a.below hp.a.new, HS.out.fit⟩).mono ?_
    rintro e w' ⟨he, hs⟩
    rw [HX.out] at he hs
    exact ⟨he, PairC.stepA HA.out.obj isObj_ct hp hk hg1 hg2 hh hs⟩
  simp only [Act.put, List.setIfInBounds_toArray, List.set_cons_succ, List.set_cons_zero]
  repeat (refine st_plain (fun h => PairS.kept h) (by rfl) (by rfl) (by rfl) (by rfl) (by rfl) ?_; intro K hK; go_big_quiet_op; go_big_quiet_on)
  refine st_step (f := 28) (args := #[.pointer (some ⟨g, 0, none⟩), fmV p.f]) (v := .bool eX) 1 (by rfl) (by rfl) (by rfl) (by rfl) (by rfl) (fun w => by simp [go_sem]) (fun xs9 w9 h9 => ?_) ?_
  · obtain ⟨O1, O2, hp, hk, hg1, hg2, hh⟩ := h9
    refine (xhear_v (f := p.f) _ hp.b.inv HS.out.ok HS.out.ls (slA_old HS.out.sl hp.b.below hp.b.new).sl HS.out.fit).mono ?_
    rintro e w' ⟨he, hs⟩
    rw [HX.out] at he hs
    exact ⟨he, PairC.stepB HA.out.obj isObj_ct hp hk hg1 hg2 hh hs⟩
  simp only [Act.put, List.setIfInBounds_toArray, List.set_cons_succ, List.set_cons_zero]
  intro ys xs w9 hF h9
  simp only [secFill]
  clear hF hcl a0 a1 a2 a3 a4 a5 a6 a7 a8
  have H9 := Lib.hid h9
  clear h9
  go_wp2
  go_ret
  obtain ⟨O1, O2, hp, hkp, hg1, hg2, _⟩ := H9.out
  exact ⟨O1, O2, by simp, by rw [HD.out]; exact hp, kept_from HW1.out hkp, grows_from HW1.out hg1, grows_from HW1.out hg2⟩
set_option maxRecDepth 4000 in
set_option maxHeartbeats 8000000 in
theorem cdo_off {T : World → Prop} {I : World → Value → Ct → (Nat → Prop) → Prop} (A : CtrlI T I) {w0 w : World} {v : Value} {g : Nat} {s : Ct} {O O' : Nat → Prop} {m : Int} {p : Pk} (h : Pair I CtD w0 v (.pointer (some ⟨g, 0, none⟩)) s s O O' w) (hs : DoPre w0 s) (hT : T w0) (hp : p.ok) (hm : -9223372036854775808 ≤ m ∧ m ≤ 9223372036854775807) :
    Calls Tryz.prog 8 #[v, .pointer (some ⟨g, 0, none⟩), opV9 ⟨4, m, p⟩] w (DoPostC I w0 v (.pointer (some ⟨g, 0, none⟩)) s ⟨4, m, p⟩ (fun k => O k ∨ O' k) w) := by
  have HA := Lib.hid A
  have HT := Lib.hid hT
  have HS := Lib.hid hs
  have HPO := Lib.hid hp
  have HMO := Lib.hid hm
  have hb0 := (Below.refl w.heap.size w).alloc (Nat.le_refl _) (.cells #[.int .i64 4, .int .i64 m, .int .i64 p.f.i, .int .i64 p.f.n, .int .i64 p.f.l, .string p.f.d, .int .i64 p.fr, .int .i64 p.tag, .bool p.lp] 37)
  have H0 := Lib.hid (h.later A.obj isObj_ct hb0)
  have HW1 := Lib.hid hb0
  have HB0 := Lib.hid (CtlO9.made w ⟨4, m, p⟩)
  have HNO : Hid (¬ (O w.heap.size ∨ O' w.heap.size)) := Lib.hid (fun hh => by
    rcases hh with hh | hh
    · have := A.obj.lt h.a.inv _ hh; omega
    · have := isObj_ct.lt h.b.inv _ hh; omega)
  have HZ : Hid (w.heap.size < (w.alloc (.cells #[.int .i64 4, .int .i64 m, .int .i64 p.f.i, .int .i64 p.f.n, .int .i64 p.f.l, .string p.f.d, .int .i64 p.fr, .int .i64 p.tag, .bool p.lp] 37)).heap.size) := Lib.hid (by simp)
  clear A hT hs hp h hb0 hm
  go_enter Tryz.func8, Tryz.ntmps8
  have HK0 := Lib.hid (PairJ.start HA.out.obj isObj_ct H0.out HW1.out)
  obtain ⟨a0, a1, a2, a3, a4, a5, a6, a7, a8⟩ := HB0.out.cells
  simp only at a0 a1 a2 a3 a4 a5 a6 a7 a8
  have HD : Hid (s.doOp ⟨4, m, p⟩ = { s with asks := setB s.asks 8 }) := Lib.hid (by unfold Ct.doOp; simp only [show (4 : Int) ≠ 0 by decide, show (4 : Int) ≠ 2 by decide, show (4 : Int) ≠ 3 by decide, if_true, if_false])
  go_wp2_with fail
  refine (HA.out.off HK0.out.pr.a.inv HS.out.ok).mono ?_
  rintro e w2 ⟨rfl, O1, hi, hk, hg⟩
  have HK1 := Lib.hid (HK0.out.stepA HA.out.obj isObj_ct hi hk hg)
  have HB1 := Lib.hid (HB0.out.kept hk (fun h => HNO.out (.inl h)))
  clear a0 a1 a2 a3 a4 a5 a6 a7 a8 hi hk hg
  obtain ⟨a0, a1, a2, a3, a4, a5, a6, a7, a8⟩ := HB1.out.cells
  simp only at a0 a1 a2 a3 a4 a5 a6 a7 a8
  go_wp2_with fail
  refine (xset_v _ HK1.out.pr.b.inv HS.out.ok.ak (by decide)).mono ?_
  rintro e w3 ⟨rfl, O2, hi, hk, hg⟩
  have HK2 := Lib.hid (HK1.out.stepB HA.out.obj isObj_ct hi hk hg)
  clear a0 a1 a2 a3 a4 a5 a6 a7 a8 hi hk hg
  go_wp2
  go_ret
  exact ⟨O1, O2, by simp, by rw [HD.out]; exact HK2.out.pr, HK2.out.kp, HK2.out.g1, HK2.out.g2⟩
set_option maxRecDepth 4000 in
set_option maxHeartbeats 8000000 in
theorem cdo_clear {T : World → Prop} {I : World → Value → Ct → (Nat → Prop) → Prop} (A : CtrlI T I) {w0 w : World} {v : Value} {g : Nat} {s : Ct} {O O' : Nat → Prop} {m : Int} {p : Pk} (h : Pair I CtD w0 v (.pointer (some ⟨g, 0, none⟩)) s s O O' w) (hs : DoPre w0 s) (hT : T w0) (hp : p.ok) (hm : -9223372036854775808 ≤ m ∧ m ≤ 9223372036854775807) :
    Calls Tryz.prog 8 #[v, .pointer (some ⟨g, 0, none⟩), opV9 ⟨5, m, p⟩] w (DoPostC I w0 v (.pointer (some ⟨g, 0, none⟩)) s ⟨5, m, p⟩ (fun k => O k ∨ O' k) w) := by
  have HA := Lib.hid A
  have HT := Lib.hid hT
  have HS := Lib.hid hs
  have HPO := Lib.hid hp
  have HMO := Lib.hid hm
  have hb0 := (Below.refl w.heap.size w).alloc (Nat.le_refl _) (.cells #[.int .i64 5, .int .i64 m, .int .i64 p.f.i, .int .i64 p.f.n, .int .i64 p.f.l, .string p.f.d, .int .i64 p.fr, .int .i64 p.tag, .bool p.lp] 37)
  have H0 := Lib.hid (h.later A.obj isObj_ct hb0)
  have HW1 := Lib.hid hb0
  have HB0 := Lib.hid (CtlO9.made w ⟨5, m, p⟩)
  have HNO : Hid (¬ (O w.heap.size ∨ O' w.heap.size)) := Lib.hid (fun hh => by
    rcases hh with hh | hh
    · have := A.obj.lt h.a.inv _ hh; omega
    · have := isObj_ct.lt h.b.inv _ hh; omega)
  have HZ : Hid (w.heap.size < (w.alloc (.cells #[.int .i64 5, .int .i64 m, .int .i64 p.f.i, .int .i64 p.f.n, .int .i64 p.f.l, .string p.f.d, .int .i64 p.fr, .int .i64 p.tag, .bool p.lp] 37)).heap.size) := Lib.hid (by simp)
  clear A hT hs hp h hb0 hm
  go_enter Tryz.func8, Tryz.ntmps8
  have HK0 := Lib.hid (PairJ.start HA.out.obj isObj_ct H0.out HW1.out)
  obtain ⟨a0, a1, a2, a3, a4, a5, a6, a7, a8⟩ := HB0.out.cells
  simp only at a0 a1 a2 a3 a4 a5 a6 a7 a8
  have HD : Hid (s.doOp ⟨5, m, p⟩ = { s with asks := clrK s.asks m 4 }) := Lib.hid (by unfold Ct.doOp; simp only [show (5 : Int) ≠ 0 by decide, show (5 : Int) ≠ 2 by decide, show (5 : Int) ≠ 3 by decide, show (5 : Int) ≠ 4 by decide, if_true, if_false])
  go_wp2_with fail
  refine (HA.out.clear m HK0.out.pr.a.inv HS.out.ok HMO.out).mono ?_
  rintro e w2 ⟨rfl, O1, hi, hk, hg⟩
  have HK1 := Lib.hid (HK0.out.stepA HA.out.obj isObj_ct hi hk hg)
  have HB1 := Lib.hid (HB0.out.kept hk (fun h => HNO.out (.inl h)))
  clear a0 a1 a2 a3 a4 a5 a6 a7 a8 hi hk hg
  obtain ⟨a0, a1, a2, a3, a4, a5, a6, a7, a8⟩ := HB1.out.cells
  simp only at a0 a1 a2 a3 a4 a5 a6 a7 a8
  go_wp2_with fail
  refine (xclear_v _ HK1.out.pr.b.inv HS.out.ok.ak).mono ?_
  rintro e w3 ⟨rfl, O2, hi, hk, hg⟩
  have HK2 := Lib.hid (HK1.out.stepB HA.out.obj isObj_ct hi hk hg)
  clear a0 a1 a2 a3 a4 a5 a6 a7 a8 hi hk hg
  go_wp2
  go_ret
  exact ⟨O1, O2, by simp, by rw [HD.out]; exact HK2.out.pr, HK2.out.kp, HK2.out.g1, HK2.out.g2⟩
set_option maxRecDepth 4000 in
set_option maxHeartbeats 8000000 in
theorem cdo_ended0 {T : World → Prop} {I : World → Value → Ct → (Nat → Prop) → Prop} (A : CtrlI T I) {w0 w : World} {v : Value} {g : Nat} {s : Ct} {O O' : Nat → Prop} {m : Int} {p : Pk} (h : Pair I CtD w0 v (.pointer (some ⟨g, 0, none⟩)) s s O O' w) (hs : DoPre w0 s) (hT : T w0) (hp : p.ok) (hm : -9223372036854775808 ≤ m ∧ m ≤ 9223372036854775807) (hf : s.bx.fin = []) :
    Calls Tryz.prog 8 #[v, .pointer (some ⟨g, 0, none⟩), opV9 ⟨6, m, p⟩] w (DoPostC I w0 v (.pointer (some ⟨g, 0, none⟩)) s ⟨6, m, p⟩ (fun k => O k ∨ O' k) w) := by
  have HA := Lib.hid A
  have HT := Lib.hid hT
  have HS := Lib.hid hs
  have HPO := Lib.hid hp
  have HMO := Lib.hid hm
  have hb0 := (Below.refl w.heap.size w).alloc (Nat.le_refl _) (.cells #[.int .i64 6, .int .i64 m, .int .i64 p.f.i, .int .i64 p.f.n, .int .i64 p.f.l, .string p.f.d, .int .i64 p.fr, .int .i64 p.tag, .bool p.lp] 37)
  have H0 := Lib.hid (h.later A.obj isObj_ct hb0)
  have HW1 := Lib.hid hb0
  have HB0 := Lib.hid (CtlO9.made w ⟨6, m, p⟩)
  have HNO : Hid (¬ (O w.heap.size ∨ O' w.heap.size)) := Lib.hid (fun hh => by
    rcases hh with hh | hh
    · have := A.obj.lt h.a.inv _ hh; omega
    · have := isObj_ct.lt h.b.inv _ hh; omega)
  have HZ : Hid (w.heap.size < (w.alloc (.cells #[.int .i64 6, .int .i64 m, .int .i64 p.f.i, .int .i64 p.f.n, .int .i64 p.f.l, .string p.f.d, .int .i64 p.fr, .int .i64 p.tag, .bool p.lp] 37)).heap.size) := Lib.hid (by simp)
  have HTA : Hid (s.bx.take = (s.bx, -1, pk0, false)) := Lib.hid (by unfold Bx.take; rw [hf])
  have HTK : Hid (s.bx.tk = (0, pk0, false, 6)) := Lib.hid (by unfold Bx.tk; rw [hf])
  clear hf
  clear A hT hs hp h hb0 hm
  go_enter Tryz.func8, Tryz.ntmps8
  have HK0 := Lib.hid (PairJ.start HA.out.obj isObj_ct H0.out HW1.out)
  obtain ⟨a0, a1, a2, a3, a4, a5, a6, a7, a8⟩ := HB0.out.cells
  simp only at a0 a1 a2 a3 a4 a5 a6 a7 a8
  have HD : Hid (s.doOp ⟨6, m, p⟩ = s) := Lib.hid (by unfold Ct.doOp; simp only [show (6 : Int) ≠ 0 by decide, show (6 : Int) ≠ 2 by decide, show (6 : Int) ≠ 3 by decide, show (6 : Int) ≠ 4 by decide, show (6 : Int) ≠ 5 by decide, if_true, if_false]; rw [HTA.out])
  go_wp2_with fail
  refine (HA.out.ended HK0.out.pr.a.inv HS.out.ok).mono ?_
  rintro e w2 ⟨he, O1, hi, hk, hg⟩
  rw [HTK.out] at he
  rw [HTA.out] at hi
  simp only at he hi
  subst he
  have HK1 := Lib.hid (HK0.out.stepA HA.out.obj isObj_ct hi hk hg)
  clear a0 a1 a2 a3 a4 a5 a6 a7 a8 hi hk hg
  have hbl := (Below.refl w2.heap.size w2).alloc (Nat.le_refl _) (.cells #[.int .i64 0, .int .i64 pk0.f.i, .int .i64 pk0.f.n, .int .i64 pk0.f.l, .string pk0.f.d, .int .i64 pk0.fr, .int .i64 pk0.tag, .bool pk0.lp, .bool false] 80)
  have HK2 := Lib.hid (HK1.out.later HA.out.obj isObj_ct hbl)
  have HX2 : Hid ((w2.alloc (.cells #[.int .i64 0, .int .i64 pk0.f.i, .int .i64 pk0.f.n, .int .i64 pk0.f.l, .string pk0.f.d, .int .i64 pk0.fr, .int .i64 pk0.tag, .bool pk0.lp, .bool false] 80)).heap[w2.heap.size]? = some (.cells #[.int .i64 0, .int .i64 pk0.f.i, .int .i64 pk0.f.n, .int .i64 pk0.f.l, .string pk0.f.d, .int .i64 pk0.fr, .int .i64 pk0.tag, .bool pk0.lp, .bool false] 80 (0, 0))) := Lib.hid (by unfold World.alloc; simp)
  have HNZ : Hid (¬ O' w2.heap.size) := Lib.hid (fun h => absurd ((HK1.out.lt HA.out.obj isObj_ct).2 _ h) (Nat.lt_irrefl _))
  clear hbl
  obtain ⟨bv, Ob, vf, hOO, hm⟩ := HK1.out.pr.b.inv.parts
  have HM := Lib.hid hm
  have HM2 := Lib.hid (hm.later ((Below.refl w2.heap.size w2).alloc (Nat.le_refl _) (.cells #[.int .i64 0, .int .i64 pk0.f.i, .int .i64 pk0.f.n, .int .i64 pk0.f.l, .string pk0.f.d, .int .i64 pk0.fr, .int .i64 pk0.tag, .bool pk0.lp, .bool false] 80)))
  obtain ⟨q0, q1, q2, q3, q4, q5⟩ := hm.cells
  have hgz := heap_some_lt hm.box
  have HOO := Lib.hid hOO
  clear hm hOO
  have k3 : pk0.f.d = ByteArray.mk #[] := rfl
  have k4 : pk0.fr = 0 := rfl
  have k5 : pk0.tag = 0 := rfl
  have k6 : pk0.lp = false := rfl
  have k0 : pk0.f.i = 0 := rfl
  have k1 : pk0.f.n = 0 := rfl
  have k2 : pk0.f.l = 0 := rfl
  go_wp2_with fail
  refine (xtake_v _ HM2.out.bx HS.out.ok.bx (congrArg Prod.snd HTA.out)).mono ?_
  rintro e w3 ⟨he, hs3⟩
  rw [HTA.out] at hs3
  simp only at he hs3
  subst he
  obtain ⟨O2, hi, hk, hg⟩ := HM2.out.boxesD hs3
  rw [← HOO.out] at hk hg
  have HK3 := Lib.hid (HK2.out.stepB HA.out.obj isObj_ct hi hk hg)
  have HX3 := Lib.hid ((hk.block _ (heap_some_lt HX2.out) HNZ.out).trans HX2.out)
  clear q0 q1 q2 q3 q4 q5 hgz
  have hz3 : w2.heap.size < w3.heap.size := heap_some_lt HX3.out
  have x0 : w3.cell? ⟨w2.heap.size, 0, none⟩ = some (.int .i64 0) := by rw [Lib.cell_of_heap HX3.out]; rfl
  have x1 : w3.cell? ⟨w2.heap.size, 1, none⟩ = some (.int .i64 pk0.f.i) := by rw [Lib.cell_of_heap HX3.out]; rfl
  have x2 : w3.cell? ⟨w2.heap.size, 2, none⟩ = some (.int .i64 pk0.f.n) := by rw [Lib.cell_of_heap HX3.out]; rfl
  have x3 : w3.cell? ⟨w2.heap.size, 3, none⟩ = some (.int .i64 pk0.f.l) := by rw [Lib.cell_of_heap HX3.out]; rfl
  have x4 : w3.cell? ⟨w2.heap.size, 4, none⟩ = some (.string pk0.f.d) := by rw [Lib.cell_of_heap HX3.out]; rfl
  have x5 : w3.cell? ⟨w2.heap.size, 5, none⟩ = some (.int .i64 pk0.fr) := by rw [Lib.cell_of_heap HX3.out]; rfl
  have x6 : w3.cell? ⟨w2.heap.size, 6, none⟩ = some (.int .i64 pk0.tag) := by rw [Lib.cell_of_heap HX3.out]; rfl
  have x7 : w3.cell? ⟨w2.heap.size, 7, none⟩ = some (.bool pk0.lp) := by rw [Lib.cell_of_heap HX3.out]; rfl
  have x8 : w3.cell? ⟨w2.heap.size, 8, none⟩ = some (.bool false) := by rw [Lib.cell_of_heap HX3.out]; rfl
  clear hi hk hg hs3
  have HK4 := Lib.hid (HK3.out.later HA.out.obj isObj_ct ((Below.refl w3.heap.size w3).alloc (Nat.le_refl _) (.cells #[.int .i64 pk0.f.i, .int .i64 pk0.f.n, .int .i64 pk0.f.l, .string pk0.f.d, .int .i64 pk0.fr, .int .i64 pk0.tag, .bool pk0.lp] 35)))
  have HE : Hid (DoPostC I w0 v (.pointer (some ⟨g, 0, none⟩)) s ⟨6, m, p⟩ (fun k => O k ∨ O' k) w (.returned (.bool true)) (w3.alloc (.cells #[.int .i64 pk0.f.i, .int .i64 pk0.f.n, .int .i64 pk0.f.l, .string pk0.f.d, .int .i64 pk0.fr, .int .i64 pk0.tag, .bool pk0.lp] 35))) := Lib.hid
    ⟨O1, O2, rfl, by rw [HD.out]; exact HK4.out.pr, HK4.out.kp, HK4.out.g1, HK4.out.g2⟩
  go_wp2
  go_ret
  exact HE.out
set_option maxRecDepth 4000 in
set_option maxHeartbeats 8000000 in
theorem cdo_ended1 {T : World → Prop} {I : World → Value → Ct → (Nat → Prop) → Prop} (A : CtrlI T I) {w0 w : World} {v : Value} {g : Nat} {s : Ct} {O O' : Nat → Prop} {m : Int} {p : Pk} {n : Nat} {sX : Bx} {tp : Pk} {tb : Bool} (h : Pair I CtD w0 v (.pointer (some ⟨g, 0, none⟩)) s s O O' w) (hs : DoPre w0 s) (hT : T w0) (hp : p.ok) (hm : -9223372036854775808 ≤ m ∧ m ≤ 9223372036854775807) (hf : s.bx.fin ≠ []) (ht : s.bx.take = (sX, (n : Int), tp, tb)) :
    Calls Tryz.prog 8 #[v, .pointer (some ⟨g, 0, none⟩), opV9 ⟨6, m, p⟩] w (DoPostC I w0 v (.pointer (some ⟨g, 0, none⟩)) s ⟨6, m, p⟩ (fun k => O k ∨ O' k) w) := by
  have HA := Lib.hid A
  have HT := Lib.hid hT
  have HS := Lib.hid hs
  have HPO := Lib.hid hp
  have HMO := Lib.hid hm
  have hb0 := (Below.refl w.heap.size w).alloc (Nat.le_refl _) (.cells #[.int .i64 6, .int .i64 m, .int .i64 p.f.i, .int .i64 p.f.n, .int .i64 p.f.l, .string p.f.d, .int .i64 p.fr, .int .i64 p.tag, .bool p.lp] 37)
  have H0 := Lib.hid (h.later A.obj isObj_ct hb0)
  have HW1 := Lib.hid hb0
  have HB0 := Lib.hid (CtlO9.made w ⟨6, m, p⟩)
  have HNO : Hid (¬ (O w.heap.size ∨ O' w.heap.size)) := Lib.hid (fun hh => by
    rcases hh with hh | hh
    · have := A.obj.lt h.a.inv _ hh; omega
    · have := isObj_ct.lt h.b.inv _ hh; omega)
  have HZ : Hid (w.heap.size < (w.alloc (.cells #[.int .i64 6, .int .i64 m, .int .i64 p.f.i, .int .i64 p.f.n, .int .i64 p.f.l, .string p.f.d, .int .i64 p.fr, .int .i64 p.tag, .bool p.lp] 37)).heap.size) := Lib.hid (by simp)
  have HTA := Lib.hid ht
  have HTK : Hid (s.bx.tk = ((n : Int), tp, tb, 0)) := Lib.hid (by
    unfold Bx.tk
    cases hc : s.bx.fin with
    | nil => exact absurd hc hf
    | cons y r => simp only; rw [ht])
  clear hf ht
  clear A hT hs hp h hb0 hm
  go_enter Tryz.func8, Tryz.ntmps8
  have HK0 := Lib.hid (PairJ.start HA.out.obj isObj_ct H0.out HW1.out)
  obtain ⟨a0, a1, a2, a3, a4, a5, a6, a7, a8⟩ := HB0.out.cells
  simp only at a0 a1 a2 a3 a4 a5 a6 a7 a8
  have HD : Hid (s.doOp ⟨6, m, p⟩ = { s with bx := sX }) := Lib.hid (by unfold Ct.doOp; simp only [show (6 : Int) ≠ 0 by decide, show (6 : Int) ≠ 2 by decide, show (6 : Int) ≠ 3 by decide, show (6 : Int) ≠ 4 by decide, show (6 : Int) ≠ 5 by decide, if_true, if_false]; rw [HTA.out])
  go_wp2_with fail
  refine (HA.out.ended HK0.out.pr.a.inv HS.out.ok).mono ?_
  rintro e w2 ⟨he, O1, hi, hk, hg⟩
  rw [HTK.out] at he
  rw [HTA.out] at hi
  simp only at he hi
  subst he
  have HK1 := Lib.hid (HK0.out.stepA HA.out.obj isObj_ct hi hk hg)
  clear a0 a1 a2 a3 a4 a5 a6 a7 a8 hi hk hg
  have hbl := (Below.refl w2.heap.size w2).alloc (Nat.le_refl _) (.cells #[.int .i64 n, .int .i64 tp.f.i, .int .i64 tp.f.n, .int .i64 tp.f.l, .string tp.f.d, .int .i64 tp.fr, .int .i64 tp.tag, .bool tp.lp, .bool tb] 80)
  have HK2 := Lib.hid (HK1.out.later HA.out.obj isObj_ct hbl)
  have HX2 : Hid ((w2.alloc (.cells #[.int .i64 n, .int .i64 tp.f.i, .int .i64 tp.f.n, .int .i64 tp.f.l, .string tp.f.d, .int .i64 tp.fr, .int .i64 tp.tag, .bool tp.lp, .bool tb] 80)).heap[w2.heap.size]? = some (.cells #[.int .i64 n, .int .i64 tp.f.i, .int .i64 tp.f.n, .int .i64 tp.f.l, .string tp.f.d, .int .i64 tp.fr, .int .i64 tp.tag, .bool tp.lp, .bool tb] 80 (0, 0))) := Lib.hid (by unfold World.alloc; simp)
  have HNZ : Hid (¬ O' w2.heap.size) := Lib.hid (fun h => absurd ((HK1.out.lt HA.out.obj isObj_ct).2 _ h) (Nat.lt_irrefl _))
  clear hbl
  obtain ⟨bv, Ob, vf, hOO, hm⟩ := HK1.out.pr.b.inv.parts
  have HM := Lib.hid hm
  have HM2 := Lib.hid (hm.later ((Below.refl w2.heap.size w2).alloc (Nat.le_refl _) (.cells #[.int .i64 n, .int .i64 tp.f.i, .int .i64 tp.f.n, .int .i64 tp.f.l, .string tp.f.d, .int .i64 tp.fr, .int .i64 tp.tag, .bool tp.lp, .bool tb] 80)))
  obtain ⟨q0, q1, q2, q3, q4, q5⟩ := hm.cells
  have hgz := heap_some_lt hm.box
  have HOO := Lib.hid hOO
  clear hm hOO
  go_wp2_with fail
  refine (xtake_v _ HM2.out.bx HS.out.ok.bx (congrArg Prod.snd HTA.out)).mono ?_
  rintro e w3 ⟨he, hs3⟩
  rw [HTA.out] at hs3
  simp only at he hs3
  subst he
  obtain ⟨O2, hi, hk, hg⟩ := HM2.out.boxesD hs3
  rw [← HOO.out] at hk hg
  have HK3 := Lib.hid (HK2.out.stepB HA.out.obj isObj_ct hi hk hg)
  have HX3 := Lib.hid ((hk.block _ (heap_some_lt HX2.out) HNZ.out).trans HX2.out)
  clear q0 q1 q2 q3 q4 q5 hgz
  have hz3 : w2.heap.size < w3.heap.size := heap_some_lt HX3.out
  have x0 : w3.cell? ⟨w2.heap.size, 0, none⟩ = some (.int .i64 n) := by rw [Lib.cell_of_heap HX3.out]; rfl
  have x1 : w3.cell? ⟨w2.heap.size, 1, none⟩ = some (.int .i64 tp.f.i) := by rw [Lib.cell_of_heap HX3.out]; rfl
  have x2 : w3.cell? ⟨w2.heap.size, 2, none⟩ = some (.int .i64 tp.f.n) := by rw [Lib.cell_of_heap HX3.out]; rfl
  have x3 : w3.cell? ⟨w2.heap.size, 3, none⟩ = some (.int .i64 tp.f.l) := by rw [Lib.cell_of_heap HX3.out]; rfl
  have x4 : w3.cell? ⟨w2.heap.size, 4, none⟩ = some (.string tp.f.d) := by rw [Lib.cell_of_heap HX3.out]; rfl
  have x5 : w3.cell? ⟨w2.heap.size, 5, none⟩ = some (.int .i64 tp.fr) := by rw [Lib.cell_of_heap HX3.out]; rfl
  have x6 : w3.cell? ⟨w2.heap.size, 6, none⟩ = some (.int .i64 tp.tag) := by rw [Lib.cell_of_heap HX3.out]; rfl
  have x7 : w3.cell? ⟨w2.heap.size, 7, none⟩ = some (.bool tp.lp) := by rw [Lib.cell_of_heap HX3.out]; rfl
  have x8 : w3.cell? ⟨w2.heap.size, 8, none⟩ = some (.bool tb) := by rw [Lib.cell_of_heap HX3.out]; rfl
  clear hi hk hg hs3
  have HK4 := Lib.hid (HK3.out.later HA.out.obj isObj_ct ((Below.refl w3.heap.size w3).alloc (Nat.le_refl _) (.cells #[.int .i64 tp.f.i, .int .i64 tp.f.n, .int .i64 tp.f.l, .string tp.f.d, .int .i64 tp.fr, .int .i64 tp.tag, .bool tp.lp] 35)))
  have HE : Hid (DoPostC I w0 v (.pointer (some ⟨g, 0, none⟩)) s ⟨6, m, p⟩ (fun k => O k ∨ O' k) w (.returned (.bool true)) (w3.alloc (.cells #[.int .i64 tp.f.i, .int .i64 tp.f.n, .int .i64 tp.f.l, .string tp.f.d, .int .i64 tp.fr, .int .i64 tp.tag, .bool tp.lp] 35))) := Lib.hid
    ⟨O1, O2, rfl, by rw [HD.out]; exact HK4.out.pr, HK4.out.kp, HK4.out.g1, HK4.out.g2⟩
  go_wp2
  go_ret
  exact HE.out
set_option maxRecDepth 4000 in
set_option maxHeartbeats 8000000 in
theorem cdo_fetch {T : World → Prop} {I : World → Value → Ct → (Nat → Prop) → Prop} (A : CtrlI T I) {w0 w : World} {v : Value} {g : Nat} {s : Ct} {O O' : Nat → Prop} {m : Int} {p : Pk} (h : Pair I CtD w0 v (.pointer (some ⟨g, 0, none⟩)) s s O O' w) (hs : DoPre w0 s) (hT : T w0) (hp : p.ok) (hm : -9223372036854775808 ≤ m ∧ m ≤ 9223372036854775807) :
    Calls Tryz.prog 8 #[v, .pointer (some ⟨g, 0, none⟩), opV9 ⟨7, m, p⟩] w (DoPostC I w0 v (.pointer (some ⟨g, 0, none⟩)) s ⟨7, m, p⟩ (fun k => O k ∨ O' k) w) := by
  have HA := Lib.hid A
  have HT := Lib.hid hT
  have HS := Lib.hid hs
  have HPO := Lib.hid hp
  have HMO := Lib.hid hm
  have hb0 := (Below.refl w.heap.size w).alloc (Nat.le_refl _) (.cells #[.int .i64 7, .int .i64 m, .int .i64 p.f.i, .int .i64 p.f.n, .int .i64 p.f.l, .string p.f.d, .int .i64 p.fr, .int .i64 p.tag, .bool p.lp] 37)
  have H0 := Lib.hid (h.later A.obj isObj_ct hb0)
  have HW1 := Lib.hid hb0
  have HB0 := Lib.hid (CtlO9.made w ⟨7, m, p⟩)
  have HNO : Hid (¬ (O w.heap.size ∨ O' w.heap.size)) := Lib.hid (fun hh => by
    rcases hh with hh | hh
    · have := A.obj.lt h.a.inv _ hh; omega
    · have := isObj_ct.lt h.b.inv _ hh; omega)
  have HZ : Hid (w.heap.size < (w.alloc (.cells #[.int .i64 7, .int .i64 m, .int .i64 p.f.i, .int .i64 p.f.n, .int .i64 p.f.l, .string p.f.d, .int .i64 p.fr, .int .i64 p.tag, .bool p.lp] 37)).heap.size) := Lib.hid (by simp)
  clear A hT hs hp h hb0 hm
  go_enter Tryz.func8, Tryz.ntmps8
  have HK0 := Lib.hid (PairJ.start HA.out.obj isObj_ct H0.out HW1.out)
  obtain ⟨a0, a1, a2, a3, a4, a5, a6, a7, a8⟩ := HB0.out.cells
  simp only at a0 a1 a2 a3 a4 a5 a6 a7 a8
  have HD : Hid (s.doOp ⟨7, m, p⟩ = s.fetch.1) := Lib.hid (by unfold Ct.doOp; simp only [show (7 : Int) ≠ 0 by decide, show (7 : Int) ≠ 2 by decide, show (7 : Int) ≠ 3 by decide, show (7 : Int) ≠ 4 by decide, show (7 : Int) ≠ 5 by decide, show (7 : Int) ≠ 6 by decide, if_true, if_false])
  obtain ⟨X, hX⟩ : ∃ X, s.fetch.2 = X := ⟨_, rfl⟩
  have HX := Lib.hid hX
  obtain ⟨fo, bo⟩ := X
  clear hX
  cases bo
  · go_wp2_with fail
    refine (HA.out.fetch HK0.out.pr.a.inv HS.out.ok).mono ?_
    rintro e w2 ⟨he, O1, hi, hk, hg⟩
    rw [HX.out] at he
    replace he : e = .returned (.tuple #[fmV fo, .int .i64 6]) := he
    subst he
    have HK1 := Lib.hid (HK0.out.stepA HA.out.obj isObj_ct hi hk hg)
    have hbl := (Below.refl w2.heap.size w2).alloc (Nat.le_refl _) (.cells #[.int .i64 fo.i, .int .i64 fo.n, .int .i64 fo.l, .string fo.d] 33)
    have HK2 := Lib.hid (HK1.out.later HA.out.obj isObj_ct hbl)
    have HF2 := Lib.hid (BoxF.made w2 fo.i fo.n fo.l fo.d)
    have HNZ : Hid (¬ O' w2.heap.size) := Lib.hid (fun h => absurd ((HK1.out.lt HA.out.obj isObj_ct).2 _ h) (Nat.lt_irrefl _))
    clear a0 a1 a2 a3 a4 a5 a6 a7 a8 hi hk hg hbl
    go_wp2_with fail
    refine (xfetch_v _ HK2.out.pr.b.inv HS.out.ok).mono ?_
    rintro e w3 ⟨he, O2, hi, hk, hg⟩
    rw [HX.out] at he
    simp only at he
    subst he
    have HK3 := Lib.hid (HK2.out.stepB HA.out.obj isObj_ct hi hk hg)
    have HF3 : Hid (BoxF w3 w2.heap.size fo.i fo.n fo.l fo.d) := Lib.hid ((hk.block _ HF2.out.lt HNZ.out).trans HF2.out)
    obtain ⟨d0, d1, d2, d3⟩ := HF3.out.cells
    have hpz := HF3.out.lt
    clear hi hk hg
    have HK4 := Lib.hid (HK3.out.later HA.out.obj isObj_ct ((Below.refl w3.heap.size w3).alloc (Nat.le_refl _) (.cells #[.int .i64 fo.i, .int .i64 fo.n, .int .i64 fo.l, .string fo.d] 33)))
    go_wp2
    go_ret
    exact ⟨O1, O2, by simp, by rw [HD.out]; exact HK4.out.pr, HK4.out.kp, HK4.out.g1, HK4.out.g2⟩
  · go_wp2_with fail
    refine (HA.out.fetch HK0.out.pr.a.inv HS.out.ok).mono ?_
    rintro e w2 ⟨he, O1, hi, hk, hg⟩
    rw [HX.out] at he
    replace he : e = .returned (.tuple #[fmV fo, .int .i64 0]) := he
    subst he
    have HK1 := Lib.hid (HK0.out.stepA HA.out.obj isObj_ct hi hk hg)
    have hbl := (Below.refl w2.heap.size w2).alloc (Nat.le_refl _) (.cells #[.int .i64 fo.i, .int .i64 fo.n, .int .i64 fo.l, .string fo.d] 33)
    have HK2 := Lib.hid (HK1.out.later HA.out.obj isObj_ct hbl)
    have HF2 := Lib.hid (BoxF.made w2 fo.i fo.n fo.l fo.d)
    have HNZ : Hid (¬ O' w2.heap.size) := Lib.hid (fun h => absurd ((HK1.out.lt HA.out.obj isObj_ct).2 _ h) (Nat.lt_irrefl _))
    clear a0 a1 a2 a3 a4 a5 a6 a7 a8 hi hk hg hbl
    go_wp2_with fail
    refine (xfetch_v _ HK2.out.pr.b.inv HS.out.ok).mono ?_
    rintro e w3 ⟨he, O2, hi, hk, hg⟩
    rw [HX.out] at he
    simp only at he
    subst he
    have HK3 := Lib.hid (HK2.out.stepB HA.out.obj isObj_ct hi hk hg)
    have HF3 : Hid (BoxF w3 w2.heap.size fo.i fo.n fo.l fo.d) := Lib.hid ((hk.block _ HF2.out.lt HNZ.out).trans HF2.out)
    obtain ⟨d0, d1, d2, d3⟩ := HF3.out.cells
    have hpz := HF3.out.lt
    clear hi hk hg
    have HK4 := Lib.hid (HK3.out.later HA.out.obj isObj_ct ((Below.refl w3.heap.size w3).alloc (Nat.le_refl _) (.cells #[.int .i64 fo.i, .int .i64 fo.n, .int .i64 fo.l, .string fo.d] 33)))
    go_wp2
    go_ret
    exact ⟨O1, O2, by simp, by rw [HD.out]; exact HK4.out.pr, HK4.out.kp, HK4.out.g1, HK4.out.g2⟩
set_option maxRecDepth 4000 in
set_option maxHeartbeats 8000000 in
theorem cdo_abort {T : World → Prop} {I : World → Value → Ct → (Nat → Prop) → Prop} (A : CtrlI T I) {w0 w : World} {v : Value} {g : Nat} {s : Ct} {O O' : Nat → Prop} {m : Int} {p : Pk} (h : Pair I CtD w0 v (.pointer (some ⟨g, 0, none⟩)) s s O O' w) (hs : DoPre w0 s) (hT : T w0) (hp : p.ok) (hm : -9223372036854775808 ≤ m ∧ m ≤ 9223372036854775807) :
    Calls Tryz.prog 8 #[v, .pointer (some ⟨g, 0, none⟩), opV9 ⟨8, m, p⟩] w (DoPostC I w0 v (.pointer (some ⟨g, 0, none⟩)) s ⟨8, m, p⟩ (fun k => O k ∨ O' k) w) := by
  have HA := Lib.hid A
  have HT := Lib.hid hT
  have HS := Lib.hid hs
  have HPO := Lib.hid hp
  have HMO := Lib.hid hm
  have hb0 := (Below.refl w.heap.size w).alloc (Nat.le_refl _) (.cells #[.int .i64 8, .int .i64 m, .int .i64 p.f.i, .int .i64 p.f.n, .int .i64 p.f.l, .string p.f.d, .int .i64 p.fr, .int .i64 p.tag, .bool p.lp] 37)
  have H0 := Lib.hid (h.later A.obj isObj_ct hb0)
  have HW1 := Lib.hid hb0
  have HB0 := Lib.hid (CtlO9.made w ⟨8, m, p⟩)
  have HNO : Hid (¬ (O w.heap.size ∨ O' w.heap.size)) := Lib.hid (fun hh => by
    rcases hh with hh | hh
    · have := A.obj.lt h.a.inv _ hh; omega
    · have := isObj_ct.lt h.b.inv _ hh; omega)
  have HZ : Hid (w.heap.size < (w.alloc (.cells #[.int .i64 8, .int .i64 m, .int .i64 p.f.i, .int .i64 p.f.n, .int .i64 p.f.l, .string p.f.d, .int .i64 p.fr, .int .i64 p.tag, .bool p.lp] 37)).heap.size) := Lib.hid (by simp)
  clear A hT hs hp h hb0 hm
  go_enter Tryz.func8, Tryz.ntmps8
  have HK0 := Lib.hid (PairJ.start HA.out.obj isObj_ct H0.out HW1.out)
  obtain ⟨a0, a1, a2, a3, a4, a5, a6, a7, a8⟩ := HB0.out.cells
  simp only at a0 a1 a2 a3 a4 a5 a6 a7 a8
  have HD : Hid (s.doOp ⟨8, m, p⟩ = s.abort.1) := Lib.hid (by unfold Ct.doOp; simp only [show (8 : Int) ≠ 0 by decide, show (8 : Int) ≠ 2 by decide, show (8 : Int) ≠ 3 by decide, show (8 : Int) ≠ 4 by decide, show (8 : Int) ≠ 5 by decide, show (8 : Int) ≠ 6 by decide, show (8 : Int) ≠ 7 by decide, if_true, if_false])
  obtain ⟨q, hq⟩ : ∃ q, s.abort.2 = q := ⟨_, rfl⟩
  have HQ := Lib.hid hq
  clear hq
  go_wp2_with fail
  refine (HA.out.abort HK0.out.pr.a.inv HS.out.ok).mono ?_
  rintro e w2 ⟨he, O1, hi, hk, hg⟩
  rw [HQ.out] at he
  subst he
  have HK1 := Lib.hid (HK0.out.stepA HA.out.obj isObj_ct hi hk hg)
  clear a0 a1 a2 a3 a4 a5 a6 a7 a8 hi hk hg
  go_wp2_with fail
  refine (xabort_v _ HK1.out.pr.b.inv HS.out.ok).mono ?_
  rintro e w3 ⟨he, O2, hi, hk, hg⟩
  rw [HQ.out] at he
  subst he
  have HK2 := Lib.hid (HK1.out.stepB HA.out.obj isObj_ct hi hk hg)
  clear hi hk hg
  go_wp2
  go_ret
  exact ⟨O1, O2, by simp, by rw [HD.out]; exact HK2.out.pr, HK2.out.kp, HK2.out.g1, HK2.out.g2⟩
set_option maxRecDepth 4000 in
set_option maxHeartbeats 8000000 in
theorem cdo_none {T : World → Prop} {I : World → Value → Ct → (Nat → Prop) → Prop} (A : CtrlI T I) {w0 w : World} {v : Value} {g : Nat} {s : Ct} {O O' : Nat → Prop} {m : Int} {p : Pk} {k : Int} (h : Pair I CtD w0 v (.pointer (some ⟨g, 0, none⟩)) s s O O' w) (hs : DoPre w0 s) (hT : T w0) (hp : p.ok) (hm : -9223372036854775808 ≤ m ∧ m ≤ 9223372036854775807) (hk : k < 0 ∨ 8 < k) :
    Calls Tryz.prog 8 #[v, .pointer (some ⟨g, 0, none⟩), opV9 ⟨k, m, p⟩] w (DoPostC I w0 v (.pointer (some ⟨g, 0, none⟩)) s ⟨k, m, p⟩ (fun k => O k ∨ O' k) w) := by
  have HA := Lib.hid A
  have HT := Lib.hid hT
  have HS := Lib.hid hs
  have HPO := Lib.hid hp
  have HMO := Lib.hid hm
  have hb0 := (Below.refl w.heap.size w).alloc (Nat.le_refl _) (.cells #[.int .i64 k, .int .i64 m, .int .i64 p.f.i, .int .i64 p.f.n, .int .i64 p.f.l, .string p.f.d, .int .i64 p.fr, .int .i64 p.tag, .bool p.lp] 37)
  have H0 := Lib.hid (h.later A.obj isObj_ct hb0)
  have HW1 := Lib.hid hb0
  have HB0 := Lib.hid (CtlO9.made w ⟨k, m, p⟩)
  have HNO : Hid (¬ (O w.heap.size ∨ O' w.heap.size)) := Lib.hid (fun hh => by
    rcases hh with hh | hh
    · have := A.obj.lt h.a.inv _ hh; omega
    · have := isObj_ct.lt h.b.inv _ hh; omega)
  have HZ : Hid (w.heap.size < (w.alloc (.cells #[.int .i64 k, .int .i64 m, .int .i64 p.f.i, .int .i64 p.f.n, .int .i64 p.f.l, .string p.f.d, .int .i64 p.fr, .int .i64 p.tag, .bool p.lp] 37)).heap.size) := Lib.hid (by simp)
  clear A hT hs hp h hb0 hm
  go_enter Tryz.func8, Tryz.ntmps8
  have HK0 := Lib.hid (PairJ.start HA.out.obj isObj_ct H0.out HW1.out)
  obtain ⟨a0, a1, a2, a3, a4, a5, a6, a7, a8⟩ := HB0.out.cells
  simp only at a0 a1 a2 a3 a4 a5 a6 a7 a8
  have k0 : (k == 0) = false := by simp; omega
  have k1 : (k == 1) = false := by simp; omega
  have k2 : (k == 2) = false := by simp; omega
  have k3 : (k == 3) = false := by simp; omega
  have k4 : (k == 4) = false := by simp; omega
  have k5 : (k == 5) = false := by simp; omega
  have k6 : (k == 6) = false := by simp; omega
  have k7 : (k == 7) = false := by simp; omega
  have k8 : (k == 8) = false := by simp; omega
  have HD : Hid (s.doOp ⟨k, m, p⟩ = s) := Lib.hid (by unfold Ct.doOp; rw [if_neg (by simp only; omega), if_neg (by simp only; omega), if_neg (by simp only; omega), if_neg (by simp only; omega), if_neg (by simp only; omega), if_neg (by simp only; omega), if_neg (by simp only; omega), if_neg (by simp only; omega)])
  clear hk
  go_wp2
  go_ret
  exact ⟨O, O', rfl, by rw [HD.out]; exact HK0.out.pr, HK0.out.kp, HK0.out.g1, HK0.out.g2⟩
theorem cdo_any {T : World → Prop} {I : World → Value → Ct → (Nat → Prop) → Prop} (A : CtrlI T I) {w0 w : World} {v : Value} {g : Nat} {s : Ct} {O O' : Nat → Prop} {o : Op9} (h : Pair I CtD w0 v (.pointer (some ⟨g, 0, none⟩)) s s O O' w) (hs : DoPre w0 s) (hT : T w0) (hp : o.p.ok) (hm : -9223372036854775808 ≤ o.b ∧ o.b ≤ 9223372036854775807) :
    Calls Tryz.prog 8 #[v, .pointer (some ⟨g, 0, none⟩), opV9 o] w (DoPostC I w0 v (.pointer (some ⟨g, 0, none⟩)) s o (fun k => O k ∨ O' k) w) := by
  obtain ⟨k, m, p⟩ := o
  by_cases h0 : k = 0
  · subst h0; exact cdo_load A h hs hT hp hm
  by_cases h1 : k = 1
  · subst h1; exact cdo_offer A h hs hT hp hm
  by_cases h2 : k = 2
  · subst h2; exact cdo_won A h hs hT hp hm
  by_cases h3 : k = 3
  · subst h3; exact cdo_hear A h hs hT hp hm
  by_cases h4 : k = 4
  · subst h4; exact cdo_off A h hs hT hp hm
  by_cases h5 : k = 5
  · subst h5; exact cdo_clear A h hs hT hp hm
  by_cases h6 : k = 6
  · subst h6
    cases hf : s.bx.fin with
    | nil => exact cdo_ended0 A h hs hT hp hm hf
    | cons x r =>
      obtain ⟨h1, h2, _⟩ := hs.ok.bx.fin x (by rw [hf]; simp)
      obtain ⟨n, rfl⟩ := Int.eq_ofNat_of_zero_le h1
      have ht : s.bx.take = (s.bx.take.1, (n : Int), s.bx.take.2.2.1, s.bx.take.2.2.2) := by unfold Bx.take; rw [hf]
      exact cdo_ended1 A h hs hT hp hm (by rw [hf]; simp) ht
  by_cases h7 : k = 7
  · subst h7; exact cdo_fetch A h hs hT hp hm
  by_cases h8 : k = 8
  · subst h8; exact cdo_abort A h hs hT hp hm
  exact cdo_none A h hs hT hp hm (by omega)
theorem Ct.Ok.doOp {s : Ct} (h : s.Ok) (o : Op9) : (s.doOp o).Ok := by
  unfold Ct.doOp
  split
  · exact h.load _
  split
  · exact h.won
  split
  · exact h.hear _
  split
  · exact h.set (.inr (.inr (.inr rfl)))
  split
  · exact h.clear _
  split
  · exact h.ended
  split
  · exact h.fetch
  split
  · exact h.abort
  · exact h
theorem Ct.doOp_acc (s : Ct) (o : Op9) : (s.doOp o).va = s.va ∧ (s.doOp o).acc = s.acc ∧ (s.doOp o).lost ≤ s.lost + 1 := by
  unfold Ct.doOp
  split
  · exact ⟨rfl, rfl, by simp only; omega⟩
  split
  · obtain ⟨h1, h2, h3⟩ := s.won_acc; exact ⟨h1, h2, by omega⟩
  split
  · obtain ⟨h1, h2, h3, h4⟩ := s.hear_acc o.p.f; exact ⟨h1, h2, h4⟩
  split
  · exact ⟨rfl, rfl, by simp only; omega⟩
  split
  · exact ⟨rfl, rfl, by simp only; omega⟩
  split
  · exact ⟨rfl, rfl, by simp only; omega⟩
  split
  · obtain ⟨h1, h2, h3⟩ := s.fetch_acc; exact ⟨h1, h2, by omega⟩
  split
  · obtain ⟨h1, h2, h3⟩ := s.abort_acc; exact ⟨h1, h2, by omega⟩
  · exact ⟨rfl, rfl, by omega⟩
end Go.Proofs.YtmmcjmejcngajaaGreatDoor
