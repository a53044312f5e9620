/- Bus: the law's do, of a slot. Printed by gen_do.py. -/
import Derived.Test.YtpgfifacfkllfaaDoorZaq
namespace Go.Proofs.YtpgfifacfkllfaaDoor
open Go.RowKit
set_option linter.unusedVariables false

def evZ : Array Value := #[.int .i64 0, .int .i64 0, .int .i64 0, .int .i64 0, .int .i64 0, .string (ByteArray.mk #[])]
def obD : Tmp → Option Obj := fun t => if t = 7 then some (.cells evZ 46) else if t = 8 then some (.cells evZ 64) else none
theorem slotEv (s : Bs) (own : Fr) (has bad : Bool) : evV (s.slot own has bad).2.1 (s.slot own has bad).2.2.1 (s.slot own has bad).2.2.2 = .agg #[.int .i64 (s.slot own has bad).2.1, .int .i64 (s.slot own has bad).2.2.1, .int .i64 (s.slot own has bad).2.2.2.i, .int .i64 (s.slot own has bad).2.2.2.n, .int .i64 (s.slot own has bad).2.2.2.l, .string (s.slot own has bad).2.2.2.d] := rfl
set_option maxHeartbeats 8000000 in
theorem do_slot1 {T : World → Prop} {I : World → Value → Bs → (Nat → Prop) → Prop} (A : BusI T I) {w0 w : World} {v v' : Value} {s t : Bs} {O O' : Nat → Prop} {m : Int} {f : Fr} (h : Pair I BusD w0 v v' s t O O' w) (hs : s.Ok) (ht : t.Ok) (hsl : s.sl ≤ 100000) (htl : t.sl ≤ 100000) (hT : T w0) (hf : -9223372036854775808 ≤ f.n ∧ f.n ≤ 9223372036854775807) :
    Calls Tryd.prog 12 #[v, v', opV ⟨1, m, f⟩] w (DoPost I w0 v v' s t ⟨1, m, f⟩ (fun k => O k ∨ O' k) w) := by
  have HA := Lib.hid A
  have HT := Lib.hid hT
  have HS := Lib.hid hs
  have HTT := Lib.hid ht
  have HF := Lib.hid hf
  have HSL := Lib.hid hsl
  have HTL := Lib.hid htl
  have H0 := Lib.hid (h.later A.obj isObj_bus ((Below.refl w.heap.size w).alloc (Nat.le_refl _) (.cells #[.int .i64 1, .int .i64 m, .int .i64 f.i, .int .i64 f.n, .int .i64 f.l, .string f.d] 32)))
  have HB0 := Lib.hid (BoxO.made w ⟨1, m, f⟩)
  have hno : ¬ (O w.heap.size ∨ O' w.heap.size) := fun hh => by
    rcases hh with hh | hh
    · have := A.obj.lt h.a.inv _ hh; omega
    · have := isObj_bus.lt h.b.inv _ hh; omega
  have HNO := Lib.hid hno
  have hz : w.heap.size < (w.alloc (.cells #[.int .i64 1, .int .i64 m, .int .i64 f.i, .int .i64 f.n, .int .i64 f.l, .string f.d] 32)).heap.size := by simp
  have HZ := Lib.hid hz
  clear A hT hs ht hf h hno hz hsl htl
  go_enter Tryd.func12, Tryd.ntmps12
  go_upto_region 8 with fail
  have HW1 := Lib.hid ((Below.refl w.heap.size w).alloc (Nat.le_refl _) (.cells #[.int .i64 1, .int .i64 m, .int .i64 f.i, .int .i64 f.n, .int .i64 f.l, .string f.d] 32))
  generalize w.alloc (.cells #[.int .i64 1, .int .i64 m, .int .i64 f.i, .int .i64 f.n, .int .i64 f.l, .string f.d] 32) = w1 at H0 HB0 HZ HW1 ⊢
  generalize w.heap.size = b at HB0 HNO HZ ⊢
  obtain ⟨a0, a1, a2, a3, a4, a5⟩ := HB0.out.cells
  simp only at a0 a1 a2 a3 a4 a5
  have hcl : ∀ (n : KLater (fun k => O k ∨ O' k) w1) (o : Nat), n.w.cell? ⟨b, o, none⟩ = w1.cell? ⟨b, o, none⟩ := fun n o => n.cell b o HZ.out HNO.out
  obtain ⟨X, hX⟩ : ∃ X, s.slot f true false = X := ⟨_, rfl⟩
  obtain ⟨Y, hY⟩ : ∃ Y, t.slot f true false = Y := ⟨_, rfl⟩
  have HX := Lib.hid hX
  have HY := Lib.hid hY
  clear hX hY
  obtain ⟨sX, kX, nX, iX, mX, lX, dX⟩ := X
  obtain ⟨sY, kY, nY, iY, mY, lY, dY⟩ := Y
  have HDX : Hid (s.doOp ⟨1, m, f⟩ = sX) := Lib.hid (by unfold Bs.doOp; rw [if_neg (by simp), if_pos (by simp)]; exact congrArg Prod.fst HX.out)
  have HDY : Hid (t.doOp ⟨1, m, f⟩ = sY) := Lib.hid (by unfold Bs.doOp; rw [if_neg (by simp), if_pos (by simp)]; exact congrArg Prod.fst HY.out)
  refine wp_region_st 24 [10, 21] (PairS I BusD w0 w1 (fun k => O k ∨ O' k) v v' obD s sX t sY) [7, 8] (PairC.mk HA.out.obj isObj_bus H0.out) (by kernel_rfl) (by kernel_rfl) (by kernel_rfl) (by kernel_rfl) (by kernel_rfl) (by kernel_rfl) (by kernel_rfl) ?_
  simp only [List.take_succ_cons, List.take_zero, List.drop_succ_cons, List.drop_zero]
  repeat (refine st_plain (fun h => PairS.kept h) (by rfl) (by rfl) (by rfl) (by rfl) (by rfl) ?_; intro K hK; go_big_quiet_op; go_big_quiet_on)
  refine st_step (f := 19) (args := #[v, frV f, .bool true, .bool false]) (v := .agg #[.int .i64 kX, .int .i64 nX, .int .i64 iX, .int .i64 mX, .int .i64 lX, .string dX]) 0 (by rfl) (by rfl) (by rfl) (by rfl) (by rfl) (fun w => by simp [go_sem]) (fun xs9 w9 h9 => ?_) ?_
  · obtain ⟨O1, O2, hp, hk, hg1, hg2, hh⟩ := h9
    refine (HA.out.slot f true false hp.a.inv HS.out HSL.out (HA.out.tab HT.out hp.a.below) HF.out).mono ?_
    rintro e w' ⟨he, hs⟩
    rw [HX.out] at he hs
    exact ⟨he, PairC.stepA HA.out.obj isObj_bus hp hk hg1 hg2 hh hs⟩
  simp only [Act.put, List.setIfInBounds_toArray, List.set_cons_succ, List.set_cons_zero]
  repeat (refine st_plain (fun h => PairS.kept h) (by rfl) (by rfl) (by rfl) (by rfl) (by rfl) ?_; intro K hK; go_big_quiet_op; go_big_quiet_on)
  refine st_step (f := 26) (args := #[v', frV f, .bool true, .bool false]) (v := .agg #[.int .i64 kY, .int .i64 nY, .int .i64 iY, .int .i64 mY, .int .i64 lY, .string dY]) 1 (by rfl) (by rfl) (by rfl) (by rfl) (by rfl) (fun w => by simp [go_sem]) (fun xs9 w9 h9 => ?_) ?_
  · obtain ⟨O1, O2, hp, hk, hg1, hg2, hh⟩ := h9
    refine (bslot_v _ hp.b.inv (by have := HTT.out.n1; omega) HTT.out.n2 HTT.out.back ⟨HTT.out.sl0, by have := HTL.out; omega⟩ (by have h1 := HTT.out.lg; have h2 := HTL.out; omega)).mono ?_
    rintro e w' ⟨he, hs⟩
    rw [HY.out] at he hs
    exact ⟨he, PairC.stepB HA.out.obj isObj_bus hp hk hg1 hg2 hh hs⟩
  simp only [Act.put, List.setIfInBounds_toArray, List.set_cons_succ, List.set_cons_zero]
  refine st_new (s := 7) (mk := fun w => .pointer (some ⟨w.heap.size, 0, none⟩)) (ob := fun _ => .cells evZ 46) (by rfl) (by rfl) (by rfl) (by rfl) (by rfl) (by rfl) (fun _ => by kernel_rfl) (PairS.add HA.out.obj isObj_bus 7 _ rfl) ?_
  simp only [Act.put, List.setIfInBounds_toArray, List.set_cons_succ, List.set_cons_zero]
  refine st_new (s := 8) (mk := fun w => .pointer (some ⟨w.heap.size, 0, none⟩)) (ob := fun _ => .cells evZ 64) (by rfl) (by rfl) (by rfl) (by rfl) (by rfl) (by rfl) (fun _ => by kernel_rfl) (PairS.add HA.out.obj isObj_bus 8 _ rfl) ?_
  simp only [Act.put, List.setIfInBounds_toArray, List.set_cons_succ, List.set_cons_zero]
  intro ys xs w9 hF h9
  have e7 := hF 7 (by simp)
  have e8 := hF 8 (by simp)
  obtain ⟨O1, O2, hp, hkp, hgr1, hgr2, hh⟩ := h9
  obtain ⟨g, q7, gW, gO1, gO2, b7, hb7, hc7⟩ := hh.1 7 _ e7
  obtain ⟨g', q8, gW', gO1', gO2', b8, hb8, hc8⟩ := hh.1 8 _ e8
  have hgg : g ≠ g' := by
    rintro rfl
    have := hh.2 7 8 _ e7 (by rw [e8, q8, q7])
    exact absurd this (by decide)
  obtain rfl : b7 = .cells evZ 46 := (Option.some.inj hb7).symm
  obtain rfl : b8 = .cells evZ 64 := (Option.some.inj hb8).symm
  simp only [secFill, q7, q8]
  simp only [Act.put, List.setIfInBounds_toArray, List.set_cons_succ, List.set_cons_zero]
  clear hF hh hcl a0 a1 a2 a3 a4 a5 hb7 hb8 e7 e8 q7 q8 ys xs
  have hg := hid_lt hc7
  have hg' := hid_lt hc8
  have hgg' : g' ≠ g := fun e => hgg e.symm
  have x0 : ∀ i, w9.cell? ⟨g, i, none⟩ = evZ[i]? := fun i => cell_of_row _ _ _ _ _ _ hc7
  have y0 : ∀ i, w9.cell? ⟨g', i, none⟩ = evZ[i]? := fun i => cell_of_row _ _ _ _ _ _ hc8
  have c0 := x0 0
  have c1 := x0 1
  have c2 := x0 2
  have c3 := x0 3
  have c4 := x0 4
  have c5 := x0 5
  have d0 := y0 0
  have d1 := y0 1
  have d2 := y0 2
  have d3 := y0 3
  have d4 := y0 4
  have d5 := y0 5
  simp [evZ] at c0 c1 c2 c3 c4 c5 d0 d1 d2 d3 d4 d5
  have u0 : ∀ i, w9.frozen? ⟨g, i, none⟩ = false := Lib.frozen_of_heap hc7
  have v0 : ∀ i, w9.frozen? ⟨g', i, none⟩ = false := Lib.frozen_of_heap hc8
  clear x0 y0 hc7 hc8
  have hw0 : w0.heap.size ≤ g := Nat.le_trans H0.out.a.below.size gW
  have hw0' : w0.heap.size ≤ g' := Nat.le_trans H0.out.a.below.size gW'
  have HP := Lib.hid hp
  have HKP := Lib.hid (And.intro (And.intro (kept_from HW1.out hkp) (And.intro (grows_from HW1.out hgr1) (grows_from HW1.out hgr2))) (And.intro (Nat.le_trans HW1.out.size gW) (Nat.le_trans HW1.out.size gW')))
  clear hkp hgr1 hgr2
  have HG := Lib.hid (And.intro hw0 (And.intro hw0' (And.intro (And.intro gO1 gO2) (And.intro gO1' gO2'))))
  clear hp hw0 hw0' gO1 gO2 gO1' gO2' gW gW'
  by_cases he : s = t
  · subst he
    have hxy := HX.out.symm.trans HY.out
    injection hxy with h1 h2
    injection h2 with h2 h3
    injection h3 with h3 h4
    injection h4 with h4 h5 h6 h7
    subst h1 h2 h3 h4 h5 h6 h7
    have hd := seq_self dX
    go_wp2
    go_ret
    refine ⟨true, O1, O2, rfl, fun _ => rfl, ?_, kept_new6 (kept_new6 HKP.out.1.1 HKP.out.2.1 _ _ _ _ _ _) HKP.out.2.2 _ _ _ _ _ _, HKP.out.1.2.1, HKP.out.1.2.2⟩
    rw [HDX.out]
    exact (HP.out.set6 HA.out.obj isObj_bus HG.out.1 HG.out.2.2.1.1 HG.out.2.2.1.2 _ _ _ _ _ _).set6 HA.out.obj isObj_bus HG.out.2.1 HG.out.2.2.2.1 HG.out.2.2.2.2 _ _ _ _ _ _
  · go_wp2
    all_goals (
      go_ret
      refine ⟨_, O1, O2, rfl, fun h => absurd h he, ?_, kept_new6 (kept_new6 HKP.out.1.1 HKP.out.2.1 _ _ _ _ _ _) HKP.out.2.2 _ _ _ _ _ _, HKP.out.1.2.1, HKP.out.1.2.2⟩
      rw [HDX.out, HDY.out]
      exact (HP.out.set6 HA.out.obj isObj_bus HG.out.1 HG.out.2.2.1.1 HG.out.2.2.1.2 _ _ _ _ _ _).set6 HA.out.obj isObj_bus HG.out.2.1 HG.out.2.2.2.1 HG.out.2.2.2.2 _ _ _ _ _ _)
set_option maxHeartbeats 8000000 in
theorem do_slot2 {T : World → Prop} {I : World → Value → Bs → (Nat → Prop) → Prop} (A : BusI T I) {w0 w : World} {v v' : Value} {s t : Bs} {O O' : Nat → Prop} {m : Int} {f : Fr} (h : Pair I BusD w0 v v' s t O O' w) (hs : s.Ok) (ht : t.Ok) (hsl : s.sl ≤ 100000) (htl : t.sl ≤ 100000) (hT : T w0) (hf : -9223372036854775808 ≤ f.n ∧ f.n ≤ 9223372036854775807) :
    Calls Tryd.prog 12 #[v, v', opV ⟨2, m, f⟩] w (DoPost I w0 v v' s t ⟨2, m, f⟩ (fun k => O k ∨ O' k) w) := by
  have HA := Lib.hid A
  have HT := Lib.hid hT
  have HS := Lib.hid hs
  have HTT := Lib.hid ht
  have HF := Lib.hid hf
  have HSL := Lib.hid hsl
  have HTL := Lib.hid htl
  have H0 := Lib.hid (h.later A.obj isObj_bus ((Below.refl w.heap.size w).alloc (Nat.le_refl _) (.cells #[.int .i64 2, .int .i64 m, .int .i64 f.i, .int .i64 f.n, .int .i64 f.l, .string f.d] 32)))
  have HB0 := Lib.hid (BoxO.made w ⟨2, m, f⟩)
  have hno : ¬ (O w.heap.size ∨ O' w.heap.size) := fun hh => by
    rcases hh with hh | hh
    · have := A.obj.lt h.a.inv _ hh; omega
    · have := isObj_bus.lt h.b.inv _ hh; omega
  have HNO := Lib.hid hno
  have hz : w.heap.size < (w.alloc (.cells #[.int .i64 2, .int .i64 m, .int .i64 f.i, .int .i64 f.n, .int .i64 f.l, .string f.d] 32)).heap.size := by simp
  have HZ := Lib.hid hz
  clear A hT hs ht hf h hno hz hsl htl
  go_enter Tryd.func12, Tryd.ntmps12
  go_upto_region 8 with fail
  have HW1 := Lib.hid ((Below.refl w.heap.size w).alloc (Nat.le_refl _) (.cells #[.int .i64 2, .int .i64 m, .int .i64 f.i, .int .i64 f.n, .int .i64 f.l, .string f.d] 32))
  generalize w.alloc (.cells #[.int .i64 2, .int .i64 m, .int .i64 f.i, .int .i64 f.n, .int .i64 f.l, .string f.d] 32) = w1 at H0 HB0 HZ HW1 ⊢
  generalize w.heap.size = b at HB0 HNO HZ ⊢
  obtain ⟨a0, a1, a2, a3, a4, a5⟩ := HB0.out.cells
  simp only at a0 a1 a2 a3 a4 a5
  have hcl : ∀ (n : KLater (fun k => O k ∨ O' k) w1) (o : Nat), n.w.cell? ⟨b, o, none⟩ = w1.cell? ⟨b, o, none⟩ := fun n o => n.cell b o HZ.out HNO.out
  obtain ⟨X, hX⟩ : ∃ X, s.slot f false false = X := ⟨_, rfl⟩
  obtain ⟨Y, hY⟩ : ∃ Y, t.slot f false false = Y := ⟨_, rfl⟩
  have HX := Lib.hid hX
  have HY := Lib.hid hY
  clear hX hY
  obtain ⟨sX, kX, nX, iX, mX, lX, dX⟩ := X
  obtain ⟨sY, kY, nY, iY, mY, lY, dY⟩ := Y
  have HDX : Hid (s.doOp ⟨2, m, f⟩ = sX) := Lib.hid (by unfold Bs.doOp; rw [if_neg (by simp), if_pos (by simp)]; exact congrArg Prod.fst HX.out)
  have HDY : Hid (t.doOp ⟨2, m, f⟩ = sY) := Lib.hid (by unfold Bs.doOp; rw [if_neg (by simp), if_pos (by simp)]; exact congrArg Prod.fst HY.out)
  refine wp_region_st 24 [10, 21] (PairS I BusD w0 w1 (fun k => O k ∨ O' k) v v' obD s sX t sY) [7, 8] (PairC.mk HA.out.obj isObj_bus H0.out) (by kernel_rfl) (by kernel_rfl) (by kernel_rfl) (by kernel_rfl) (by kernel_rfl) (by kernel_rfl) (by kernel_rfl) ?_
  simp only [List.take_succ_cons, List.take_zero, List.drop_succ_cons, List.drop_zero]
  repeat (refine st_plain (fun h => PairS.kept h) (by rfl) (by rfl) (by rfl) (by rfl) (by rfl) ?_; intro K hK; go_big_quiet_op; go_big_quiet_on)
  refine st_step (f := 19) (args := #[v, frV f, .bool false, .bool false]) (v := .agg #[.int .i64 kX, .int .i64 nX, .int .i64 iX, .int .i64 mX, .int .i64 lX, .string dX]) 0 (by rfl) (by rfl) (by rfl) (by rfl) (by rfl) (fun w => by simp [go_sem]) (fun xs9 w9 h9 => ?_) ?_
  · obtain ⟨O1, O2, hp, hk, hg1, hg2, hh⟩ := h9
    refine (HA.out.slot f false false hp.a.inv HS.out HSL.out (HA.out.tab HT.out hp.a.below) HF.out).mono ?_
    rintro e w' ⟨he, hs⟩
    rw [HX.out] at he hs
    exact ⟨he, PairC.stepA HA.out.obj isObj_bus hp hk hg1 hg2 hh hs⟩
  simp only [Act.put, List.setIfInBounds_toArray, List.set_cons_succ, List.set_cons_zero]
  repeat (refine st_plain (fun h => PairS.kept h) (by rfl) (by rfl) (by rfl) (by rfl) (by rfl) ?_; intro K hK; go_big_quiet_op; go_big_quiet_on)
  refine st_step (f := 26) (args := #[v', frV f, .bool false, .bool false]) (v := .agg #[.int .i64 kY, .int .i64 nY, .int .i64 iY, .int .i64 mY, .int .i64 lY, .string dY]) 1 (by rfl) (by rfl) (by rfl) (by rfl) (by rfl) (fun w => by simp [go_sem]) (fun xs9 w9 h9 => ?_) ?_
  · obtain ⟨O1, O2, hp, hk, hg1, hg2, hh⟩ := h9
    refine (bslot_v _ hp.b.inv (by have := HTT.out.n1; omega) HTT.out.n2 HTT.out.back ⟨HTT.out.sl0, by have := HTL.out; omega⟩ (by have h1 := HTT.out.lg; have h2 := HTL.out; omega)).mono ?_
    rintro e w' ⟨he, hs⟩
    rw [HY.out] at he hs
    exact ⟨he, PairC.stepB HA.out.obj isObj_bus hp hk hg1 hg2 hh hs⟩
  simp only [Act.put, List.setIfInBounds_toArray, List.set_cons_succ, List.set_cons_zero]
  refine st_new (s := 7) (mk := fun w => .pointer (some ⟨w.heap.size, 0, none⟩)) (ob := fun _ => .cells evZ 46) (by rfl) (by rfl) (by rfl) (by rfl) (by rfl) (by rfl) (fun _ => by kernel_rfl) (PairS.add HA.out.obj isObj_bus 7 _ rfl) ?_
  simp only [Act.put, List.setIfInBounds_toArray, List.set_cons_succ, List.set_cons_zero]
  refine st_new (s := 8) (mk := fun w => .pointer (some ⟨w.heap.size, 0, none⟩)) (ob := fun _ => .cells evZ 64) (by rfl) (by rfl) (by rfl) (by rfl) (by rfl) (by rfl) (fun _ => by kernel_rfl) (PairS.add HA.out.obj isObj_bus 8 _ rfl) ?_
  simp only [Act.put, List.setIfInBounds_toArray, List.set_cons_succ, List.set_cons_zero]
  intro ys xs w9 hF h9
  have e7 := hF 7 (by simp)
  have e8 := hF 8 (by simp)
  obtain ⟨O1, O2, hp, hkp, hgr1, hgr2, hh⟩ := h9
  obtain ⟨g, q7, gW, gO1, gO2, b7, hb7, hc7⟩ := hh.1 7 _ e7
  obtain ⟨g', q8, gW', gO1', gO2', b8, hb8, hc8⟩ := hh.1 8 _ e8
  have hgg : g ≠ g' := by
    rintro rfl
    have := hh.2 7 8 _ e7 (by rw [e8, q8, q7])
    exact absurd this (by decide)
  obtain rfl : b7 = .cells evZ 46 := (Option.some.inj hb7).symm
  obtain rfl : b8 = .cells evZ 64 := (Option.some.inj hb8).symm
  simp only [secFill, q7, q8]
  simp only [Act.put, List.setIfInBounds_toArray, List.set_cons_succ, List.set_cons_zero]
  clear hF hh hcl a0 a1 a2 a3 a4 a5 hb7 hb8 e7 e8 q7 q8 ys xs
  have hg := hid_lt hc7
  have hg' := hid_lt hc8
  have hgg' : g' ≠ g := fun e => hgg e.symm
  have x0 : ∀ i, w9.cell? ⟨g, i, none⟩ = evZ[i]? := fun i => cell_of_row _ _ _ _ _ _ hc7
  have y0 : ∀ i, w9.cell? ⟨g', i, none⟩ = evZ[i]? := fun i => cell_of_row _ _ _ _ _ _ hc8
  have c0 := x0 0
  have c1 := x0 1
  have c2 := x0 2
  have c3 := x0 3
  have c4 := x0 4
  have c5 := x0 5
  have d0 := y0 0
  have d1 := y0 1
  have d2 := y0 2
  have d3 := y0 3
  have d4 := y0 4
  have d5 := y0 5
  simp [evZ] at c0 c1 c2 c3 c4 c5 d0 d1 d2 d3 d4 d5
  have u0 : ∀ i, w9.frozen? ⟨g, i, none⟩ = false := Lib.frozen_of_heap hc7
  have v0 : ∀ i, w9.frozen? ⟨g', i, none⟩ = false := Lib.frozen_of_heap hc8
  clear x0 y0 hc7 hc8
  have hw0 : w0.heap.size ≤ g := Nat.le_trans H0.out.a.below.size gW
  have hw0' : w0.heap.size ≤ g' := Nat.le_trans H0.out.a.below.size gW'
  have HP := Lib.hid hp
  have HKP := Lib.hid (And.intro (And.intro (kept_from HW1.out hkp) (And.intro (grows_from HW1.out hgr1) (grows_from HW1.out hgr2))) (And.intro (Nat.le_trans HW1.out.size gW) (Nat.le_trans HW1.out.size gW')))
  clear hkp hgr1 hgr2
  have HG := Lib.hid (And.intro hw0 (And.intro hw0' (And.intro (And.intro gO1 gO2) (And.intro gO1' gO2'))))
  clear hp hw0 hw0' gO1 gO2 gO1' gO2' gW gW'
  by_cases he : s = t
  · subst he
    have hxy := HX.out.symm.trans HY.out
    injection hxy with h1 h2
    injection h2 with h2 h3
    injection h3 with h3 h4
    injection h4 with h4 h5 h6 h7
    subst h1 h2 h3 h4 h5 h6 h7
    have hd := seq_self dX
    go_wp2
    go_ret
    refine ⟨true, O1, O2, rfl, fun _ => rfl, ?_, kept_new6 (kept_new6 HKP.out.1.1 HKP.out.2.1 _ _ _ _ _ _) HKP.out.2.2 _ _ _ _ _ _, HKP.out.1.2.1, HKP.out.1.2.2⟩
    rw [HDX.out]
    exact (HP.out.set6 HA.out.obj isObj_bus HG.out.1 HG.out.2.2.1.1 HG.out.2.2.1.2 _ _ _ _ _ _).set6 HA.out.obj isObj_bus HG.out.2.1 HG.out.2.2.2.1 HG.out.2.2.2.2 _ _ _ _ _ _
  · go_wp2
    all_goals (
      go_ret
      refine ⟨_, O1, O2, rfl, fun h => absurd h he, ?_, kept_new6 (kept_new6 HKP.out.1.1 HKP.out.2.1 _ _ _ _ _ _) HKP.out.2.2 _ _ _ _ _ _, HKP.out.1.2.1, HKP.out.1.2.2⟩
      rw [HDX.out, HDY.out]
      exact (HP.out.set6 HA.out.obj isObj_bus HG.out.1 HG.out.2.2.1.1 HG.out.2.2.1.2 _ _ _ _ _ _).set6 HA.out.obj isObj_bus HG.out.2.1 HG.out.2.2.2.1 HG.out.2.2.2.2 _ _ _ _ _ _)
set_option maxHeartbeats 8000000 in
theorem do_slot3 {T : World → Prop} {I : World → Value → Bs → (Nat → Prop) → Prop} (A : BusI T I) {w0 w : World} {v v' : Value} {s t : Bs} {O O' : Nat → Prop} {m : Int} {f : Fr} (h : Pair I BusD w0 v v' s t O O' w) (hs : s.Ok) (ht : t.Ok) (hsl : s.sl ≤ 100000) (htl : t.sl ≤ 100000) (hT : T w0) (hf : -9223372036854775808 ≤ f.n ∧ f.n ≤ 9223372036854775807) :
    Calls Tryd.prog 12 #[v, v', opV ⟨3, m, f⟩] w (DoPost I w0 v v' s t ⟨3, m, f⟩ (fun k => O k ∨ O' k) w) := by
  have HA := Lib.hid A
  have HT := Lib.hid hT
  have HS := Lib.hid hs
  have HTT := Lib.hid ht
  have HF := Lib.hid hf
  have HSL := Lib.hid hsl
  have HTL := Lib.hid htl
  have H0 := Lib.hid (h.later A.obj isObj_bus ((Below.refl w.heap.size w).alloc (Nat.le_refl _) (.cells #[.int .i64 3, .int .i64 m, .int .i64 f.i, .int .i64 f.n, .int .i64 f.l, .string f.d] 32)))
  have HB0 := Lib.hid (BoxO.made w ⟨3, m, f⟩)
  have hno : ¬ (O w.heap.size ∨ O' w.heap.size) := fun hh => by
    rcases hh with hh | hh
    · have := A.obj.lt h.a.inv _ hh; omega
    · have := isObj_bus.lt h.b.inv _ hh; omega
  have HNO := Lib.hid hno
  have hz : w.heap.size < (w.alloc (.cells #[.int .i64 3, .int .i64 m, .int .i64 f.i, .int .i64 f.n, .int .i64 f.l, .string f.d] 32)).heap.size := by simp
  have HZ := Lib.hid hz
  clear A hT hs ht hf h hno hz hsl htl
  go_enter Tryd.func12, Tryd.ntmps12
  go_upto_region 8 with fail
  have HW1 := Lib.hid ((Below.refl w.heap.size w).alloc (Nat.le_refl _) (.cells #[.int .i64 3, .int .i64 m, .int .i64 f.i, .int .i64 f.n, .int .i64 f.l, .string f.d] 32))
  generalize w.alloc (.cells #[.int .i64 3, .int .i64 m, .int .i64 f.i, .int .i64 f.n, .int .i64 f.l, .string f.d] 32) = w1 at H0 HB0 HZ HW1 ⊢
  generalize w.heap.size = b at HB0 HNO HZ ⊢
  obtain ⟨a0, a1, a2, a3, a4, a5⟩ := HB0.out.cells
  simp only at a0 a1 a2 a3 a4 a5
  have hcl : ∀ (n : KLater (fun k => O k ∨ O' k) w1) (o : Nat), n.w.cell? ⟨b, o, none⟩ = w1.cell? ⟨b, o, none⟩ := fun n o => n.cell b o HZ.out HNO.out
  obtain ⟨X, hX⟩ : ∃ X, s.slot f true true = X := ⟨_, rfl⟩
  obtain ⟨Y, hY⟩ : ∃ Y, t.slot f true true = Y := ⟨_, rfl⟩
  have HX := Lib.hid hX
  have HY := Lib.hid hY
  clear hX hY
  obtain ⟨sX, kX, nX, iX, mX, lX, dX⟩ := X
  obtain ⟨sY, kY, nY, iY, mY, lY, dY⟩ := Y
  have HDX : Hid (s.doOp ⟨3, m, f⟩ = sX) := Lib.hid (by unfold Bs.doOp; rw [if_neg (by simp), if_pos (by simp)]; exact congrArg Prod.fst HX.out)
  have HDY : Hid (t.doOp ⟨3, m, f⟩ = sY) := Lib.hid (by unfold Bs.doOp; rw [if_neg (by simp), if_pos (by simp)]; exact congrArg Prod.fst HY.out)
  refine wp_region_st 24 [10, 21] (PairS I BusD w0 w1 (fun k => O k ∨ O' k) v v' obD s sX t sY) [7, 8] (PairC.mk HA.out.obj isObj_bus H0.out) (by kernel_rfl) (by kernel_rfl) (by kernel_rfl) (by kernel_rfl) (by kernel_rfl) (by kernel_rfl) (by kernel_rfl) ?_
  simp only [List.take_succ_cons, List.take_zero, List.drop_succ_cons, List.drop_zero]
  repeat (refine st_plain (fun h => PairS.kept h) (by rfl) (by rfl) (by rfl) (by rfl) (by rfl) ?_; intro K hK; go_big_quiet_op; go_big_quiet_on)
  refine st_step (f := 19) (args := #[v, frV f, .bool true, .bool true]) (v := .agg #[.int .i64 kX, .int .i64 nX, .int .i64 iX, .int .i64 mX, .int .i64 lX, .string dX]) 0 (by rfl) (by rfl) (by rfl) (by rfl) (by rfl) (fun w => by simp [go_sem]) (fun xs9 w9 h9 => ?_) ?_
  · obtain ⟨O1, O2, hp, hk, hg1, hg2, hh⟩ := h9
    refine (HA.out.slot f true true hp.a.inv HS.out HSL.out (HA.out.tab HT.out hp.a.below) HF.out).mono ?_
    rintro e w' ⟨he, hs⟩
    rw [HX.out] at he hs
    exact ⟨he, PairC.stepA HA.out.obj isObj_bus hp hk hg1 hg2 hh hs⟩
  simp only [Act.put, List.setIfInBounds_toArray, List.set_cons_succ, List.set_cons_zero]
  repeat (refine st_plain (fun h => PairS.kept h) (by rfl) (by rfl) (by rfl) (by rfl) (by rfl) ?_; intro K hK; go_big_quiet_op; go_big_quiet_on)
  refine st_step (f := 26) (args := #[v', frV f, .bool true, .bool true]) (v := .agg #[.int .i64 kY, .int .i64 nY, .int .i64 iY, .int .i64 mY, .int .i64 lY, .string dY]) 1 (by rfl) (by rfl) (by rfl) (by rfl) (by rfl) (fun w => by simp [go_sem]) (fun xs9 w9 h9 => ?_) ?_
  · obtain ⟨O1, O2, hp, hk, hg1, hg2, hh⟩ := h9
    refine (bslot_v _ hp.b.inv (by have := HTT.out.n1; omega) HTT.out.n2 HTT.out.back ⟨HTT.out.sl0, by have := HTL.out; omega⟩ (by have h1 := HTT.out.lg; have h2 := HTL.out; omega)).mono ?_
    rintro e w' ⟨he, hs⟩
    rw [HY.out] at he hs
    exact ⟨he, PairC.stepB HA.out.obj isObj_bus hp hk hg1 hg2 hh hs⟩
  simp only [Act.put, List.setIfInBounds_toArray, List.set_cons_succ, List.set_cons_zero]
  refine st_new (s := 7) (mk := fun w => .pointer (some ⟨w.heap.size, 0, none⟩)) (ob := fun _ => .cells evZ 46) (by rfl) (by rfl) (by rfl) (by rfl) (by rfl) (by rfl) (fun _ => by kernel_rfl) (PairS.add HA.out.obj isObj_bus 7 _ rfl) ?_
  simp only [Act.put, List.setIfInBounds_toArray, List.set_cons_succ, List.set_cons_zero]
  refine st_new (s := 8) (mk := fun w => .pointer (some ⟨w.heap.size, 0, none⟩)) (ob := fun _ => .cells evZ 64) (by rfl) (by rfl) (by rfl) (by rfl) (by rfl) (by rfl) (fun _ => by kernel_rfl) (PairS.add HA.out.obj isObj_bus 8 _ rfl) ?_
  simp only [Act.put, List.setIfInBounds_toArray, List.set_cons_succ, List.set_cons_zero]
  intro ys xs w9 hF h9
  have e7 := hF 7 (by simp)
  have e8 := hF 8 (by simp)
  obtain ⟨O1, O2, hp, hkp, hgr1, hgr2, hh⟩ := h9
  obtain ⟨g, q7, gW, gO1, gO2, b7, hb7, hc7⟩ := hh.1 7 _ e7
  obtain ⟨g', q8, gW', gO1', gO2', b8, hb8, hc8⟩ := hh.1 8 _ e8
  have hgg : g ≠ g' := by
    rintro rfl
    have := hh.2 7 8 _ e7 (by rw [e8, q8, q7])
    exact absurd this (by decide)
  obtain rfl : b7 = .cells evZ 46 := (Option.some.inj hb7).symm
  obtain rfl : b8 = .cells evZ 64 := (Option.some.inj hb8).symm
  simp only [secFill, q7, q8]
  simp only [Act.put, List.setIfInBounds_toArray, List.set_cons_succ, List.set_cons_zero]
  clear hF hh hcl a0 a1 a2 a3 a4 a5 hb7 hb8 e7 e8 q7 q8 ys xs
  have hg := hid_lt hc7
  have hg' := hid_lt hc8
  have hgg' : g' ≠ g := fun e => hgg e.symm
  have x0 : ∀ i, w9.cell? ⟨g, i, none⟩ = evZ[i]? := fun i => cell_of_row _ _ _ _ _ _ hc7
  have y0 : ∀ i, w9.cell? ⟨g', i, none⟩ = evZ[i]? := fun i => cell_of_row _ _ _ _ _ _ hc8
  have c0 := x0 0
  have c1 := x0 1
  have c2 := x0 2
  have c3 := x0 3
  have c4 := x0 4
  have c5 := x0 5
  have d0 := y0 0
  have d1 := y0 1
  have d2 := y0 2
  have d3 := y0 3
  have d4 := y0 4
  have d5 := y0 5
  simp [evZ] at c0 c1 c2 c3 c4 c5 d0 d1 d2 d3 d4 d5
  have u0 : ∀ i, w9.frozen? ⟨g, i, none⟩ = false := Lib.frozen_of_heap hc7
  have v0 : ∀ i, w9.frozen? ⟨g', i, none⟩ = false := Lib.frozen_of_heap hc8
  clear x0 y0 hc7 hc8
  have hw0 : w0.heap.size ≤ g := Nat.le_trans H0.out.a.below.size gW
  have hw0' : w0.heap.size ≤ g' := Nat.le_trans H0.out.a.below.size gW'
  have HP := Lib.hid hp
  have HKP := Lib.hid (And.intro (And.intro (kept_from HW1.out hkp) (And.intro (grows_from HW1.out hgr1) (grows_from HW1.out hgr2))) (And.intro (Nat.le_trans HW1.out.size gW) (Nat.le_trans HW1.out.size gW')))
  clear hkp hgr1 hgr2
  have HG := Lib.hid (And.intro hw0 (And.intro hw0' (And.intro (And.intro gO1 gO2) (And.intro gO1' gO2'))))
  clear hp hw0 hw0' gO1 gO2 gO1' gO2' gW gW'
  by_cases he : s = t
  · subst he
    have hxy := HX.out.symm.trans HY.out
    injection hxy with h1 h2
    injection h2 with h2 h3
    injection h3 with h3 h4
    injection h4 with h4 h5 h6 h7
    subst h1 h2 h3 h4 h5 h6 h7
    have hd := seq_self dX
    go_wp2
    go_ret
    refine ⟨true, O1, O2, rfl, fun _ => rfl, ?_, kept_new6 (kept_new6 HKP.out.1.1 HKP.out.2.1 _ _ _ _ _ _) HKP.out.2.2 _ _ _ _ _ _, HKP.out.1.2.1, HKP.out.1.2.2⟩
    rw [HDX.out]
    exact (HP.out.set6 HA.out.obj isObj_bus HG.out.1 HG.out.2.2.1.1 HG.out.2.2.1.2 _ _ _ _ _ _).set6 HA.out.obj isObj_bus HG.out.2.1 HG.out.2.2.2.1 HG.out.2.2.2.2 _ _ _ _ _ _
  · go_wp2
    all_goals (
      go_ret
      refine ⟨_, O1, O2, rfl, fun h => absurd h he, ?_, kept_new6 (kept_new6 HKP.out.1.1 HKP.out.2.1 _ _ _ _ _ _) HKP.out.2.2 _ _ _ _ _ _, HKP.out.1.2.1, HKP.out.1.2.2⟩
      rw [HDX.out, HDY.out]
      exact (HP.out.set6 HA.out.obj isObj_bus HG.out.1 HG.out.2.2.1.1 HG.out.2.2.1.2 _ _ _ _ _ _).set6 HA.out.obj isObj_bus HG.out.2.1 HG.out.2.2.2.1 HG.out.2.2.2.2 _ _ _ _ _ _)
set_option maxHeartbeats 8000000 in
theorem do_slot4 {T : World → Prop} {I : World → Value → Bs → (Nat → Prop) → Prop} (A : BusI T I) {w0 w : World} {v v' : Value} {s t : Bs} {O O' : Nat → Prop} {m : Int} {f : Fr} (h : Pair I BusD w0 v v' s t O O' w) (hs : s.Ok) (ht : t.Ok) (hsl : s.sl ≤ 100000) (htl : t.sl ≤ 100000) (hT : T w0) (hf : -9223372036854775808 ≤ f.n ∧ f.n ≤ 9223372036854775807) :
    Calls Tryd.prog 12 #[v, v', opV ⟨4, m, f⟩] w (DoPost I w0 v v' s t ⟨4, m, f⟩ (fun k => O k ∨ O' k) w) := by
  have HA := Lib.hid A
  have HT := Lib.hid hT
  have HS := Lib.hid hs
  have HTT := Lib.hid ht
  have HF := Lib.hid hf
  have HSL := Lib.hid hsl
  have HTL := Lib.hid htl
  have H0 := Lib.hid (h.later A.obj isObj_bus ((Below.refl w.heap.size w).alloc (Nat.le_refl _) (.cells #[.int .i64 4, .int .i64 m, .int .i64 f.i, .int .i64 f.n, .int .i64 f.l, .string f.d] 32)))
  have HB0 := Lib.hid (BoxO.made w ⟨4, m, f⟩)
  have hno : ¬ (O w.heap.size ∨ O' w.heap.size) := fun hh => by
    rcases hh with hh | hh
    · have := A.obj.lt h.a.inv _ hh; omega
    · have := isObj_bus.lt h.b.inv _ hh; omega
  have HNO := Lib.hid hno
  have hz : w.heap.size < (w.alloc (.cells #[.int .i64 4, .int .i64 m, .int .i64 f.i, .int .i64 f.n, .int .i64 f.l, .string f.d] 32)).heap.size := by simp
  have HZ := Lib.hid hz
  clear A hT hs ht hf h hno hz hsl htl
  go_enter Tryd.func12, Tryd.ntmps12
  go_upto_region 8 with fail
  have HW1 := Lib.hid ((Below.refl w.heap.size w).alloc (Nat.le_refl _) (.cells #[.int .i64 4, .int .i64 m, .int .i64 f.i, .int .i64 f.n, .int .i64 f.l, .string f.d] 32))
  generalize w.alloc (.cells #[.int .i64 4, .int .i64 m, .int .i64 f.i, .int .i64 f.n, .int .i64 f.l, .string f.d] 32) = w1 at H0 HB0 HZ HW1 ⊢
  generalize w.heap.size = b at HB0 HNO HZ ⊢
  obtain ⟨a0, a1, a2, a3, a4, a5⟩ := HB0.out.cells
  simp only at a0 a1 a2 a3 a4 a5
  have hcl : ∀ (n : KLater (fun k => O k ∨ O' k) w1) (o : Nat), n.w.cell? ⟨b, o, none⟩ = w1.cell? ⟨b, o, none⟩ := fun n o => n.cell b o HZ.out HNO.out
  obtain ⟨X, hX⟩ : ∃ X, s.slot f false true = X := ⟨_, rfl⟩
  obtain ⟨Y, hY⟩ : ∃ Y, t.slot f false true = Y := ⟨_, rfl⟩
  have HX := Lib.hid hX
  have HY := Lib.hid hY
  clear hX hY
  obtain ⟨sX, kX, nX, iX, mX, lX, dX⟩ := X
  obtain ⟨sY, kY, nY, iY, mY, lY, dY⟩ := Y
  have HDX : Hid (s.doOp ⟨4, m, f⟩ = sX) := Lib.hid (by unfold Bs.doOp; rw [if_neg (by simp), if_pos (by simp)]; exact congrArg Prod.fst HX.out)
  have HDY : Hid (t.doOp ⟨4, m, f⟩ = sY) := Lib.hid (by unfold Bs.doOp; rw [if_neg (by simp), if_pos (by simp)]; exact congrArg Prod.fst HY.out)
  refine wp_region_st 24 [10, 21] (PairS I BusD w0 w1 (fun k => O k ∨ O' k) v v' obD s sX t sY) [7, 8] (PairC.mk HA.out.obj isObj_bus H0.out) (by kernel_rfl) (by kernel_rfl) (by kernel_rfl) (by kernel_rfl) (by kernel_rfl) (by kernel_rfl) (by kernel_rfl) ?_
  simp only [List.take_succ_cons, List.take_zero, List.drop_succ_cons, List.drop_zero]
  repeat (refine st_plain (fun h => PairS.kept h) (by rfl) (by rfl) (by rfl) (by rfl) (by rfl) ?_; intro K hK; go_big_quiet_op; go_big_quiet_on)
  refine st_step (f := 19) (args := #[v, frV f, .bool false, .bool true]) (v := .agg #[.int .i64 kX, .int .i64 nX, .int .i64 iX, .int .i64 mX, .int .i64 lX, .string dX]) 0 (by rfl) (by rfl) (by rfl) (by rfl) (by rfl) (fun w => by simp [go_sem]) (fun xs9 w9 h9 => ?_) ?_
  · obtain ⟨O1, O2, hp, hk, hg1, hg2, hh⟩ := h9
    refine (HA.out.slot f false true hp.a.inv HS.out HSL.out (HA.out.tab HT.out hp.a.below) HF.out).mono ?_
    rintro e w' ⟨he, hs⟩
    rw [HX.out] at he hs
    exact ⟨he, PairC.stepA HA.out.obj isObj_bus hp hk hg1 hg2 hh hs⟩
  simp only [Act.put, List.setIfInBounds_toArray, List.set_cons_succ, List.set_cons_zero]
  repeat (refine st_plain (fun h => PairS.kept h) (by rfl) (by rfl) (by rfl) (by rfl) (by rfl) ?_; intro K hK; go_big_quiet_op; go_big_quiet_on)
  refine st_step (f := 26) (args := #[v', frV f, .bool false, .bool true]) (v := .agg #[.int .i64 kY, .int .i64 nY, .int .i64 iY, .int .i64 mY, .int .i64 lY, .string dY]) 1 (by rfl) (by rfl) (by rfl) (by rfl) (by rfl) (fun w => by simp [go_sem]) (fun xs9 w9 h9 => ?_) ?_
  · obtain ⟨O1, O2, hp, hk, hg1, hg2, hh⟩ := h9
    refine (bslot_v _ hp.b.inv (by have := HTT.out.n1; omega) HTT.out.n2 HTT.out.back ⟨HTT.out.sl0, by have := HTL.out; omega⟩ (by have h1 := HTT.out.lg; have h2 := HTL.out; omega)).mono ?_
    rintro e w' ⟨he, hs⟩
    rw [HY.out] at he hs
    exact ⟨he, PairC.stepB HA.out.obj isObj_bus hp hk hg1 hg2 hh hs⟩
  simp only [Act.put, List.setIfInBounds_toArray, List.set_cons_succ, List.set_cons_zero]
  refine st_new (s := 7) (mk := fun w => .pointer (some ⟨w.heap.size, 0, none⟩)) (ob := fun _ => .cells evZ 46) (by rfl) (by rfl) (by rfl) (by rfl) (by rfl) (by rfl) (fun _ => by kernel_rfl) (PairS.add HA.out.obj isObj_bus 7 _ rfl) ?_
  simp only [Act.put, List.setIfInBounds_toArray, List.set_cons_succ, List.set_cons_zero]
  refine st_new (s := 8) (mk := fun w => .pointer (some ⟨w.heap.size, 0, none⟩)) (ob := fun _ => .cells evZ 64) (by rfl) (by rfl) (by rfl) (by rfl) (by rfl) (by rfl) (fun _ => by kernel_rfl) (PairS.add HA.out.obj isObj_bus 8 _ rfl) ?_
  simp only [Act.put, List.setIfInBounds_toArray, List.set_cons_succ, List.set_cons_zero]
  intro ys xs w9 hF h9
  have e7 := hF 7 (by simp)
  have e8 := hF 8 (by simp)
  obtain ⟨O1, O2, hp, hkp, hgr1, hgr2, hh⟩ := h9
  obtain ⟨g, q7, gW, gO1, gO2, b7, hb7, hc7⟩ := hh.1 7 _ e7
  obtain ⟨g', q8, gW', gO1', gO2', b8, hb8, hc8⟩ := hh.1 8 _ e8
  have hgg : g ≠ g' := by
    rintro rfl
    have := hh.2 7 8 _ e7 (by rw [e8, q8, q7])
    exact absurd this (by decide)
  obtain rfl : b7 = .cells evZ 46 := (Option.some.inj hb7).symm
  obtain rfl : b8 = .cells evZ 64 := (Option.some.inj hb8).symm
  simp only [secFill, q7, q8]
  simp only [Act.put, List.setIfInBounds_toArray, List.set_cons_succ, List.set_cons_zero]
  clear hF hh hcl a0 a1 a2 a3 a4 a5 hb7 hb8 e7 e8 q7 q8 ys xs
  have hg := hid_lt hc7
  have hg' := hid_lt hc8
  have hgg' : g' ≠ g := fun e => hgg e.symm
  have x0 : ∀ i, w9.cell? ⟨g, i, none⟩ = evZ[i]? := fun i => cell_of_row _ _ _ _ _ _ hc7
  have y0 : ∀ i, w9.cell? ⟨g', i, none⟩ = evZ[i]? := fun i => cell_of_row _ _ _ _ _ _ hc8
  have c0 := x0 0
  have c1 := x0 1
  have c2 := x0 2
  have c3 := x0 3
  have c4 := x0 4
  have c5 := x0 5
  have d0 := y0 0
  have d1 := y0 1
  have d2 := y0 2
  have d3 := y0 3
  have d4 := y0 4
  have d5 := y0 5
  simp [evZ] at c0 c1 c2 c3 c4 c5 d0 d1 d2 d3 d4 d5
  have u0 : ∀ i, w9.frozen? ⟨g, i, none⟩ = false := Lib.frozen_of_heap hc7
  have v0 : ∀ i, w9.frozen? ⟨g', i, none⟩ = false := Lib.frozen_of_heap hc8
  clear x0 y0 hc7 hc8
  have hw0 : w0.heap.size ≤ g := Nat.le_trans H0.out.a.below.size gW
  have hw0' : w0.heap.size ≤ g' := Nat.le_trans H0.out.a.below.size gW'
  have HP := Lib.hid hp
  have HKP := Lib.hid (And.intro (And.intro (kept_from HW1.out hkp) (And.intro (grows_from HW1.out hgr1) (grows_from HW1.out hgr2))) (And.intro (Nat.le_trans HW1.out.size gW) (Nat.le_trans HW1.out.size gW')))
  clear hkp hgr1 hgr2
  have HG := Lib.hid (And.intro hw0 (And.intro hw0' (And.intro (And.intro gO1 gO2) (And.intro gO1' gO2'))))
  clear hp hw0 hw0' gO1 gO2 gO1' gO2' gW gW'
  by_cases he : s = t
  · subst he
    have hxy := HX.out.symm.trans HY.out
    injection hxy with h1 h2
    injection h2 with h2 h3
    injection h3 with h3 h4
    injection h4 with h4 h5 h6 h7
    subst h1 h2 h3 h4 h5 h6 h7
    have hd := seq_self dX
    go_wp2
    go_ret
    refine ⟨true, O1, O2, rfl, fun _ => rfl, ?_, kept_new6 (kept_new6 HKP.out.1.1 HKP.out.2.1 _ _ _ _ _ _) HKP.out.2.2 _ _ _ _ _ _, HKP.out.1.2.1, HKP.out.1.2.2⟩
    rw [HDX.out]
    exact (HP.out.set6 HA.out.obj isObj_bus HG.out.1 HG.out.2.2.1.1 HG.out.2.2.1.2 _ _ _ _ _ _).set6 HA.out.obj isObj_bus HG.out.2.1 HG.out.2.2.2.1 HG.out.2.2.2.2 _ _ _ _ _ _
  · go_wp2
    all_goals (
      go_ret
      refine ⟨_, O1, O2, rfl, fun h => absurd h he, ?_, kept_new6 (kept_new6 HKP.out.1.1 HKP.out.2.1 _ _ _ _ _ _) HKP.out.2.2 _ _ _ _ _ _, HKP.out.1.2.1, HKP.out.1.2.2⟩
      rw [HDX.out, HDY.out]
      exact (HP.out.set6 HA.out.obj isObj_bus HG.out.1 HG.out.2.2.1.1 HG.out.2.2.1.2 _ _ _ _ _ _).set6 HA.out.obj isObj_bus HG.out.2.1 HG.out.2.2.2.1 HG.out.2.2.2.2 _ _ _ _ _ _)
end Go.Proofs.YtpgfifacfkllfaaDoor
