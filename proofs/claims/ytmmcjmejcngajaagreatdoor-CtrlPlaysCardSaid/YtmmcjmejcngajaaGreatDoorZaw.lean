/- Ctrl: walk of CtrlPlays. Printed by gen_walks.py. -/
import Derived.Test.YtmmcjmejcngajaaGreatDoorZav
namespace Go.Proofs.YtmmcjmejcngajaaGreatDoor
open Go.RowKit
set_option linter.unusedVariables false

set_option maxRecDepth 8000 in
set_option maxHeartbeats 16000000 in
theorem ctrlPlays_walk {T : World → Prop} {I : World → Value → Ct → (Nat → Prop) → Prop} (A : CtrlI T I) (c : Cg) (F0 : Nat → List Value) (a : Option Addr) (len cap : Nat) (F : Nat → List Value) (w : World) (hr0 : IsRowOf w cfSh c.A c.n c.cp F0) (hr : IsRowOf w op9Sc a len cap F) (hT : T w) :
    Calls Tryz.prog 3 #[cgV c, .slice a len cap] w fun e w' => e = .returned (.bool true) ∧ Below w.heap.size w w' := by
  obtain ⟨LA, hLA, hlenA, hfA⟩ := slice_of_row hr0 cfOf cfOf_c rfl (by decide)
  obtain ⟨L, hL, hlen, hf⟩ := slice_of_row hr op9Oc op9Oc_c rfl (by decide)
  have HA := Lib.hid A
  have HT := Lib.hid hT
  have HVA : Hid (SlG flC 3 w w.heap.size c.va LA) := Lib.hid hLA
  have HV := Lib.hid hL
  have HFA : Hid (∀ x ∈ LA, x.fits) := Lib.hid (fun x h => cf_fits (hfA x h))
  have HX : Hid (∀ o ∈ L, o.p.ok ∧ (-9223372036854775808 ≤ o.b ∧ o.b ≤ 9223372036854775807)) := Lib.hid (fun o h => op9c_fits (hf o h))
  have HCN : Hid (c.n ≤ maxLen) := Lib.hid (by obtain ⟨A1, c1, hv, hm, _⟩ := hLA; injection hv with _ h2 _; omega)
  subst hlen
  obtain ⟨w1, e1⟩ : ∃ w1, w.alloc (cgO c) = w1 := ⟨_, rfl⟩
  have hb1 : Below w.heap.size w w1 := by rw [← e1]; exact (Below.refl _ _).alloc (Nat.le_refl _) _
  have HB1 := Lib.hid hb1
  have hx1 : w1.heap[w.heap.size]? = some (.cells #[.int .i64 c.bo, .int .i64 c.fi, .int .i64 c.ba, .int .i64 c.de, .int .i64 c.qu, .int .i64 c.no, .int .i64 c.re, .slice c.A c.n c.cp] 24 (0, 0)) := by rw [← e1]; unfold World.alloc; simp
  have HXC := Lib.hid hx1
  clear A hT hL hr hf hLA hr0 hfA hb1 hx1 hlenA
  obtain ⟨q, hq⟩ : ∃ q, fcB c L = q := ⟨_, rfl⟩
  have HQ := Lib.hid hq
  clear hq
  go_enter Tryz.func3, Tryz.ntmps3
  have d := fun j => Lib.cell_of_heap HXC.out j
  have d0 := d 0
  have d1 := d 1
  have d2 := d 2
  have d3 := d 3
  have d4 := d 4
  have d5 := d 5
  have d6 := d 6
  have d7 := d 7
  simp at d0 d1 d2 d3 d4 d5 d6 d7
  clear d
  go_wp2_with fail
  refine (fc_any w1 (HV.out.later HB1.out) HCN.out).mono ?_
  rintro e w2 ⟨he, hb⟩
  rw [HQ.out] at he
  subst he
  have HB2 := Lib.hid (fbelow_t HB1.out hb)
  have HXC2 := Lib.hid ((hb.block w.heap.size (heap_some_lt HXC.out)).trans HXC.out)
  clear hb d0 d1 d2 d3 d4 d5 d6 d7
  cases q
  · go_wp2_with fail
    refine (ctrlalive HA.out _ (HA.out.tab HT.out HB2.out)).mono ?_
    rintro e w3 ⟨rfl, hb⟩
    have HB3 := Lib.hid (fbelow_t HB2.out hb)
    clear hb
    go_wp2
    go_ret
    exact ⟨rfl, HB3.out⟩
  have hl4 := fcB_len HQ.out
  go_upto_region 3 with fail
  have d := fun j => Lib.cell_of_heap HXC2.out j
  have d0 := d 0
  have d1 := d 1
  have d2 := d 2
  have d3 := d 3
  have d4 := d 4
  have d5 := d 5
  have d6 := d 6
  have d7 := d 7
  simp at d0 d1 d2 d3 d4 d5 d6 d7
  have hz2 := heap_some_lt HXC2.out
  have hcl : ∀ (n : KLater (fun _ => False) w2) (o : Nat), n.w.cell? ⟨w.heap.size, o, none⟩ = w2.cell? ⟨w.heap.size, o, none⟩ := fun n o => n.cell w.heap.size o hz2 (fun h => h)
  refine wp_region_sl 5 [1, 3] [] (NewG I w w2 (ctNew c LA) 15 17 5) [15, 17, 5] ⟨(Below.refl _ _).drew, .inl ⟨rfl, rfl, rfl, rfl⟩⟩ (by kernel_rfl) (by kernel_rfl) (by kernel_rfl) (by kernel_rfl) (by kernel_rfl) (by kernel_rfl) (by kernel_rfl) (by kernel_rfl) ?_
  simp only [List.take_succ_cons, List.take_zero, List.drop_succ_cons, List.drop_zero]
  repeat ((first | refine sl_plain (O := fun _ => False) (fun h => h.kept) (by rfl) (by rfl) (by rfl) (by rfl) (by rfl) ?_ | refine sl_nil (O := fun _ => False) (fun h => h.kept) (by rfl) (by rfl) (by rfl) (by rfl) (by rfl) (by rfl) ?_); intro K hK; go_big_quiet_op; go_big_quiet_on)
  refine sl_stepF (s := 15) (f := 6) (args := #[cgV c]) 0 (by rfl) (by rfl) (by rfl) (by rfl) (by rfl) (by rfl) (fun w => by simp [go_sem]) (fun xs9 w9 h9 hx9 => ?_) ?_
  · have hb9 := fbelow_t HB2.out h9.1
    refine (HA.out.new c LA w9 (HA.out.tab HT.out hb9) (HVA.out.later hb9) HFA.out (fcB_n HQ.out)).mono ?_
    rintro e w' ⟨v, O, he, hi, hb, hn⟩
    exact ⟨v, he, h9.one HA.out.obj HB2.out (by decide) (by decide) hi hb hn⟩
  simp only [Act.put, List.setIfInBounds_toArray, List.set_cons_succ, List.set_cons_zero]
  repeat ((first | refine sl_plain (O := fun _ => False) (fun h => h.kept) (by rfl) (by rfl) (by rfl) (by rfl) (by rfl) ?_ | refine sl_nil (O := fun _ => False) (fun h => h.kept) (by rfl) (by rfl) (by rfl) (by rfl) (by rfl) (by rfl) ?_); intro K hK; go_big_quiet_op; go_big_quiet_on)
  refine sl_stepF (s := 17) (f := 7) (args := #[cgV c]) 1 (by rfl) (by rfl) (by rfl) (by rfl) (by rfl) (by rfl) (fun w => by simp [go_sem]) (fun xs9 w9 h9 hx9 => ?_) ?_
  · refine (xcnew_v c LA w9).mono ?_
    rintro e w' ⟨v, O, he, hi, hb, hn⟩
    exact ⟨v, he, h9.two HA.out.obj HB2.out (by decide) (by decide) hi hb hn⟩
  simp only [Act.put, List.setIfInBounds_toArray, List.set_cons_succ, List.set_cons_zero]
  refine sl_move (s1 := 15) (s2 := 5) (by rfl) (by rfl) (by rfl) (by rfl) (by rfl) (by decide) (fun a w => by simp [execOp, go_sem]) (fun j xs w u hG h1 h2 => hG.move h1 (by decide) (by decide)) ?_
  simp only [Act.put, List.setIfInBounds_toArray, List.set_cons_succ, List.set_cons_zero]
  intro ys xs w3 hF h3
  have f1 := hF 15 (by simp)
  have f2 := hF 17 (by simp)
  have f3 := hF 5 (by simp)
  have h3b := h3.1
  obtain ⟨g, O, O', e5, eb, hp⟩ := h3.out f1 f2 f3
  simp only [secFill, Act.put, List.setIfInBounds_toArray, List.set_cons_succ, List.set_cons_zero]
  rw [e5, eb]
  generalize ys 15 = v at hp
  have HP := Lib.hid hp
  have HB3 := Lib.hid (fbelow_t HB2.out h3b)
  have HXC3 := Lib.hid ((h3b.block w.heap.size (heap_some_lt HXC2.out)).trans HXC2.out)
  obtain ⟨pv, rfl⟩ := HA.out.ptr hp.a.inv
  have HOK := Lib.hid (Ct.Ok.new c LA)
  clear hF f1 f2 f3 h3 h3b e5 eb hp ys xs hcl d d0 d1 d2 d3 d4 d5 d6 d7 hz2
  go_wp2_with fail
  go_loopw [20] (fun i wr => ∃ (k : Nat) (s : Ct) (O O' : Nat → Prop), k ≤ L.length ∧ i = .int .i64 k ∧ Hid (s.Ok ∧ s.lost ≤ k ∧ s.va = c.va ∧ s.acc = LA) ∧ Hid (Pair I CtD w (.pointer (some pv)) (.pointer (some ⟨g, 0, none⟩)) s s O O' wr)) (fun i _ => L.length - (intOf i).toNat)
  case atStart => exact ⟨0, _, O, O', by omega, rfl, Lib.hid ⟨HOK.out, Int.le_refl _, rfl, rfl⟩, HP⟩
  case round =>
    obtain ⟨k, s, O1, O2, hk, rfl, HS, HP⟩ := hrel
    by_cases hlt : k < L.length
    · have hkl : (k : Int) < (L.length : Int) := by omega
      obtain ⟨x, c1, hv1, hxb, hcell⟩ := SlG.at_ (HV.out.later HP.out.a.below) hlt
      injection hv1 with hAA _ hcap
      subst hAA hcap
      have a0 : wr.cell? (x.add (k * 9)) = some (.int .i64 (L[k]'hlt).k) := hcell 0 _ rfl
      have a1 : wr.cell? ⟨(x.add (k * 9)).block, (x.add (k * 9)).off + 1, none⟩ = some (.int .i64 (L[k]'hlt).b) := hcell 1 _ rfl
      have a2 : wr.cell? ⟨(x.add (k * 9)).block, (x.add (k * 9)).off + 2, none⟩ = some (.int .i64 (L[k]'hlt).p.f.i) := hcell 2 _ rfl
      have a3 : wr.cell? ⟨(x.add (k * 9)).block, (x.add (k * 9)).off + 3, none⟩ = some (.int .i64 (L[k]'hlt).p.f.n) := hcell 3 _ rfl
      have a4 : wr.cell? ⟨(x.add (k * 9)).block, (x.add (k * 9)).off + 4, none⟩ = some (.int .i64 (L[k]'hlt).p.f.l) := hcell 4 _ rfl
      have a5 : wr.cell? ⟨(x.add (k * 9)).block, (x.add (k * 9)).off + 5, none⟩ = some (.string (L[k]'hlt).p.f.d) := hcell 5 _ rfl
      have a6 : wr.cell? ⟨(x.add (k * 9)).block, (x.add (k * 9)).off + 6, none⟩ = some (.int .i64 (L[k]'hlt).p.fr) := hcell 6 _ rfl
      have a7 : wr.cell? ⟨(x.add (k * 9)).block, (x.add (k * 9)).off + 7, none⟩ = some (.int .i64 (L[k]'hlt).p.tag) := hcell 7 _ rfl
      have a8 : wr.cell? ⟨(x.add (k * 9)).block, (x.add (k * 9)).off + 8, none⟩ = some (.bool (L[k]'hlt).p.lp) := hcell 8 _ rfl
      have HFX := Lib.hid (HX.out _ (List.getElem_mem hlt))
      generalize L[k]'hlt = o at a0 a1 a2 a3 a4 a5 a6 a7 a8 HFX
      clear hcell hxb
      have HPR : Hid (DoPre w s) := Lib.hid ⟨HS.out.1, by have := HS.out.2.1; omega, by rw [HS.out.2.2.1, HS.out.2.2.2]; exact HVA.out, by rw [HS.out.2.2.2]; exact HFA.out⟩
      obtain ⟨sN, hsN⟩ : ∃ sN, s.doOp o = sN := ⟨_, rfl⟩
      have HSN := Lib.hid hsN
      have HS2 : Hid (sN.Ok ∧ sN.lost ≤ (k + 1 : Nat) ∧ sN.va = c.va ∧ sN.acc = LA) := Lib.hid (by
        obtain ⟨h1, h2, h3⟩ := s.doOp_acc o
        rw [hsN] at h1 h2 h3
        refine ⟨by rw [← hsN]; exact HS.out.1.doOp o, by have := HS.out.2.1; omega, h1.trans HS.out.2.2.1, h2.trans HS.out.2.2.2⟩)
      clear hsN
      go_upto_region 7 with fail
      obtain ⟨wa, hwa⟩ : ∃ wa, wr.alloc (.cells #[.int .i64 o.k, .int .i64 o.b, .int .i64 o.p.f.i, .int .i64 o.p.f.n, .int .i64 o.p.f.l, .string o.p.f.d, .int .i64 o.p.fr, .int .i64 o.p.tag, .bool o.p.lp] 37) = wa := ⟨_, rfl⟩
      have HPa := Lib.hid (HP.out.later HA.out.obj isObj_ct ((Below.refl wr.heap.size wr).alloc (Nat.le_refl _) (.cells #[.int .i64 o.k, .int .i64 o.b, .int .i64 o.p.f.i, .int .i64 o.p.f.n, .int .i64 o.p.f.l, .string o.p.f.d, .int .i64 o.p.fr, .int .i64 o.p.tag, .bool o.p.lp] 37)))
      have HB0 := Lib.hid (CtlO9.made wr o)
      have HZ : Hid (wr.heap.size < (wr.alloc (.cells #[.int .i64 o.k, .int .i64 o.b, .int .i64 o.p.f.i, .int .i64 o.p.f.n, .int .i64 o.p.f.l, .string o.p.f.d, .int .i64 o.p.fr, .int .i64 o.p.tag, .bool o.p.lp] 37)).heap.size) := Lib.hid (by simp)
      have HNO : Hid (¬ (O1 wr.heap.size ∨ O2 wr.heap.size)) := Lib.hid (fun hh => by
        rcases hh with hh | hh
        · have := HA.out.obj.lt HP.out.a.inv _ hh; omega
        · have := isObj_ct.lt HP.out.b.inv _ hh; omega)
      rw [hwa] at HPa HB0 HZ ⊢
      clear hwa
      have HBW := Lib.hid HPa.out.a.below
      obtain ⟨b0, b1, b2, b3, b4, b5, b6, b7, b8⟩ := HB0.out.cells
      generalize wr.heap.size = z at b0 b1 b2 b3 b4 b5 b6 b7 b8 HB0 HZ HNO ⊢
      clear a0 a1 a2 a3 a4 a5 a6 a7 a8
      have hcl : ∀ (n : KLater (fun k => O1 k ∨ O2 k) wa) (o : Nat), n.w.cell? ⟨z, o, none⟩ = wa.cell? ⟨z, o, none⟩ := fun n o => n.cell z o HZ.out HNO.out
      refine wp_region_sl 42 [3] [0, 0, 0, 0, 1, 1, 1, 1, 1, 1, 1, 1, 1, 1, 1, 1, 1, 1, 1, 1, 1, 1, 1, 1, 1, 1, 1, 1, 1, 1, 1, 1, 1, 1, 1, 1, 1, 1, 1, 1, 1, 1, 1] (DoG I w wa (.pointer (some pv)) (.pointer (some ⟨g, 0, none⟩)) O1 O2 s sN 44 63) [44, 63] ⟨.of_below (Below.refl _ _).drew, .inl ⟨rfl, HPa.out.later HA.out.obj isObj_ct (Below.refl _ _).drew, rfl, rfl⟩⟩ (by kernel_rfl) (by kernel_rfl) (by kernel_rfl) (by kernel_rfl) (by kernel_rfl) (by kernel_rfl) (by kernel_rfl) (by kernel_rfl) ?_
      simp only [List.take_succ_cons, List.take_zero, List.drop_succ_cons, List.drop_zero]
      repeat ((first | refine sl_plain (O := fun k => O1 k ∨ O2 k) (fun h => h.kept) (by rfl) (by rfl) (by rfl) (by rfl) (by rfl) ?_ | refine sl_nil (O := fun k => O1 k ∨ O2 k) (fun h => h.kept) (by rfl) (by rfl) (by rfl) (by rfl) (by rfl) (by rfl) ?_); intro K hK; go_big_quiet_op; go_big_quiet_on)
      refine sl_step (f := 8) (args := #[.pointer (some pv), .pointer (some ⟨g, 0, none⟩), opV9 o]) (v := .bool true) 0 (by rfl) (by rfl) (by rfl) (by rfl) (by rfl) (fun w => by simp [go_sem]) (fun xs9 w9 h9 => ?_) ?_
      · obtain ⟨hp, e1, e2⟩ := h9.zero
        refine (cdo_any (o := o) HA.out hp HPR.out HT.out HFX.out.1 HFX.out.2).mono ?_
        rintro e w' ⟨O3, O4, he, hp', hk', _, _⟩
        rw [HSN.out] at hp'
        exact ⟨he, h9.kept.trans hk' (Grows.refl _ _), .inr ⟨rfl, O3, O4, hp', fun u hu => (by rw [e1] at hu; cases hu), fun u hu => (by rw [e2] at hu; cases hu)⟩⟩
      simp only [Act.put, List.setIfInBounds_toArray, List.set_cons_succ, List.set_cons_zero]
      repeat ((first | refine sl_plain (O := fun k => O1 k ∨ O2 k) (fun h => h.kept) (by rfl) (by rfl) (by rfl) (by rfl) (by rfl) ?_ | refine sl_nil (O := fun k => O1 k ∨ O2 k) (fun h => h.kept) (by rfl) (by rfl) (by rfl) (by rfl) (by rfl) (by rfl) ?_); intro K hK; go_big_quiet_op; go_big_quiet_on)
      refine sl_callL (f := 9) (args := #[.pointer (some pv)]) (v := .int .i64 sN.asks) (by rfl) (by rfl) (by rfl) (by rfl) (by rfl) (fun w => by simp [go_sem]) (fun j xs w hj hlj hG => ?_) ?_
      · obtain ⟨O3, O4, hp⟩ := hG.one hlj
        refine (HA.out.asks hp.a.inv HS2.out.1).mono ?_
        rintro e w' ⟨he, hb⟩
        exact ⟨he, hG.later HA.out.obj hb⟩
      simp only [Act.put, List.setIfInBounds_toArray, List.set_cons_succ, List.set_cons_zero]
      repeat ((first | refine sl_plain (O := fun k => O1 k ∨ O2 k) (fun h => h.kept) (by rfl) (by rfl) (by rfl) (by rfl) (by rfl) ?_ | refine sl_nil (O := fun k => O1 k ∨ O2 k) (fun h => h.kept) (by rfl) (by rfl) (by rfl) (by rfl) (by rfl) (by rfl) ?_); intro K hK; go_big_quiet_op; go_big_quiet_on)
      refine sl_read (v := .int .i64 sN.asks) (by rfl) (by rfl) (by rfl) (by rfl) (by rfl) (fun j xs w hj hlj hG => ?_) ?_
      · obtain ⟨O3, O4, hp⟩ := hG.one hlj
        obtain ⟨bv, Ob, vf, _, hm⟩ := hp.b.inv.parts
        obtain ⟨q0, q1, q2, q3, q4, q5⟩ := hm.cells
        simp [execOp, go_sem, q5]
      simp only [Act.put, List.setIfInBounds_toArray, List.set_cons_succ, List.set_cons_zero]
      repeat ((first | refine sl_plain (O := fun k => O1 k ∨ O2 k) (fun h => h.kept) (by rfl) (by rfl) (by rfl) (by rfl) (by rfl) ?_ | refine sl_nil (O := fun k => O1 k ∨ O2 k) (fun h => h.kept) (by rfl) (by rfl) (by rfl) (by rfl) (by rfl) (by rfl) ?_); intro K hK; go_big_quiet_op; go_big_quiet_on)
      refine sl_callL (f := 10) (args := #[.pointer (some pv)]) (v := .int .i64 (sN.fifo.length : Nat)) (by rfl) (by rfl) (by rfl) (by rfl) (by rfl) (fun w => by simp [go_sem]) (fun j xs w hj hlj hG => ?_) ?_
      · obtain ⟨O3, O4, hp⟩ := hG.one hlj
        refine (HA.out.kept hp.a.inv HS2.out.1).mono ?_
        rintro e w' ⟨he, hb⟩
        exact ⟨he, hG.later HA.out.obj hb⟩
      simp only [Act.put, List.setIfInBounds_toArray, List.set_cons_succ, List.set_cons_zero]
      repeat ((first | refine sl_plain (O := fun k => O1 k ∨ O2 k) (fun h => h.kept) (by rfl) (by rfl) (by rfl) (by rfl) (by rfl) ?_ | refine sl_nil (O := fun k => O1 k ∨ O2 k) (fun h => h.kept) (by rfl) (by rfl) (by rfl) (by rfl) (by rfl) (by rfl) ?_); intro K hK; go_big_quiet_op; go_big_quiet_on)
      refine sl_readF (s := 44) (by rfl) (by rfl) (by rfl) (by rfl) (by rfl) (by rfl) (fun j xs w hj hlj hG hx => ?_) ?_
      · obtain ⟨O3, O4, hp⟩ := hG.one hlj
        obtain ⟨bv, Ob, vf, _, hm⟩ := hp.b.inv.parts
        obtain ⟨q0, q1, q2, q3, q4, q5⟩ := hm.cells
        obtain ⟨A5, c5, hsh⟩ := hm.fifo.shape
        subst hsh
        exact ⟨.slice A5 sN.fifo.length c5, by simp [execOp, go_sem, q1], hG.hidA hlj (by decide)⟩
      simp only [Act.put, List.setIfInBounds_toArray, List.set_cons_succ, List.set_cons_zero]
      refine sl_readH (v := .int .i64 (sN.fifo.length : Nat)) (by rfl) (by rfl) (by rfl) (fun j xs a w hj hlj hG hlk => ?_) ?_
      · have h44 := hlk 44 (by decide)
        rw [if_pos (by decide)] at h44
        obtain ⟨A5, c5, e⟩ := hG.getA h44
        simp [Act.eval, go_sem, e]
      simp only [Act.put, List.setIfInBounds_toArray, List.set_cons_succ, List.set_cons_zero]
      repeat ((first | refine sl_plain (O := fun k => O1 k ∨ O2 k) (fun h => h.kept) (by rfl) (by rfl) (by rfl) (by rfl) (by rfl) ?_ | refine sl_nil (O := fun k => O1 k ∨ O2 k) (fun h => h.kept) (by rfl) (by rfl) (by rfl) (by rfl) (by rfl) (by rfl) ?_); intro K hK; go_big_quiet_op; go_big_quiet_on)
      refine sl_callL (f := 11) (args := #[.pointer (some pv)]) (v := .int .i64 sN.lost) (by rfl) (by rfl) (by rfl) (by rfl) (by rfl) (fun w => by simp [go_sem]) (fun j xs w hj hlj hG => ?_) ?_
      · obtain ⟨O3, O4, hp⟩ := hG.one hlj
        refine (HA.out.lost hp.a.inv HS2.out.1).mono ?_
        rintro e w' ⟨he, hb⟩
        exact ⟨he, hG.later HA.out.obj hb⟩
      simp only [Act.put, List.setIfInBounds_toArray, List.set_cons_succ, List.set_cons_zero]
      repeat ((first | refine sl_plain (O := fun k => O1 k ∨ O2 k) (fun h => h.kept) (by rfl) (by rfl) (by rfl) (by rfl) (by rfl) ?_ | refine sl_nil (O := fun k => O1 k ∨ O2 k) (fun h => h.kept) (by rfl) (by rfl) (by rfl) (by rfl) (by rfl) (by rfl) ?_); intro K hK; go_big_quiet_op; go_big_quiet_on)
      refine sl_read (v := .int .i64 sN.lost) (by rfl) (by rfl) (by rfl) (by rfl) (by rfl) (fun j xs w hj hlj hG => ?_) ?_
      · obtain ⟨O3, O4, hp⟩ := hG.one hlj
        obtain ⟨bv, Ob, vf, _, hm⟩ := hp.b.inv.parts
        obtain ⟨q0, q1, q2, q3, q4, q5⟩ := hm.cells
        simp [execOp, go_sem, q4]
      simp only [Act.put, List.setIfInBounds_toArray, List.set_cons_succ, List.set_cons_zero]
      repeat ((first | refine sl_plain (O := fun k => O1 k ∨ O2 k) (fun h => h.kept) (by rfl) (by rfl) (by rfl) (by rfl) (by rfl) ?_ | refine sl_nil (O := fun k => O1 k ∨ O2 k) (fun h => h.kept) (by rfl) (by rfl) (by rfl) (by rfl) (by rfl) (by rfl) ?_); intro K hK; go_big_quiet_op; go_big_quiet_on)
      refine sl_callL (f := 12) (args := #[.pointer (some pv)]) (v := .int .i64 (sN.bx.free sN.bx.S.length : Nat)) (by rfl) (by rfl) (by rfl) (by rfl) (by rfl) (fun w => by simp [go_sem]) (fun j xs w hj hlj hG => ?_) ?_
      · obtain ⟨O3, O4, hp⟩ := hG.one hlj
        refine (HA.out.free hp.a.inv HS2.out.1).mono ?_
        rintro e w' ⟨he, hb⟩
        exact ⟨he, hG.later HA.out.obj hb⟩
      simp only [Act.put, List.setIfInBounds_toArray, List.set_cons_succ, List.set_cons_zero]
      repeat ((first | refine sl_plain (O := fun k => O1 k ∨ O2 k) (fun h => h.kept) (by rfl) (by rfl) (by rfl) (by rfl) (by rfl) ?_ | refine sl_nil (O := fun k => O1 k ∨ O2 k) (fun h => h.kept) (by rfl) (by rfl) (by rfl) (by rfl) (by rfl) (by rfl) ?_); intro K hK; go_big_quiet_op; go_big_quiet_on)
      refine sl_readF (s := 63) (by rfl) (by rfl) (by rfl) (by rfl) (by rfl) (by rfl) (fun j xs w hj hlj hG hx => ?_) ?_
      · obtain ⟨O3, O4, hp⟩ := hG.one hlj
        obtain ⟨bv, Ob, vf, _, hm⟩ := hp.b.inv.parts
        obtain ⟨q0, q1, q2, q3, q4, q5⟩ := hm.cells
        exact ⟨bv, by simp [execOp, go_sem, q0], hG.hidB hlj (by decide) hm.bx⟩
      simp only [Act.put, List.setIfInBounds_toArray, List.set_cons_succ, List.set_cons_zero]
      refine sl_callH (v := .int .i64 (sN.bx.free sN.bx.S.length : Nat)) (by rfl) (by rfl) (by rfl) (fun j xs a w hj hlj hG hlk => ?_) ?_
      · have h63 := hlk 63 (by decide)
        rw [if_pos (by decide)] at h63
        obtain ⟨Ob, hB⟩ := hG.getB h63
        refine ⟨13, #[a.tmps.getD 63 undef], by simp [go_sem], ?_⟩
        refine (xfree_v w hB HS2.out.1.bx.n2).mono ?_
        rintro e w' ⟨he, rfl⟩
        exact ⟨he, hG⟩
      simp only [Act.put, List.setIfInBounds_toArray, List.set_cons_succ, List.set_cons_zero]
      repeat ((first | refine sl_plain (O := fun k => O1 k ∨ O2 k) (fun h => h.kept) (by rfl) (by rfl) (by rfl) (by rfl) (by rfl) ?_ | refine sl_nil (O := fun k => O1 k ∨ O2 k) (fun h => h.kept) (by rfl) (by rfl) (by rfl) (by rfl) (by rfl) (by rfl) ?_); intro K hK; go_big_quiet_op; go_big_quiet_on)
      intro ys xs w9 hF h9
      simp only [secFill, Act.put, List.setIfInBounds_toArray, List.set_cons_succ, List.set_cons_zero]
      obtain ⟨O3, O4, hp9⟩ := h9.one (Nat.le_refl 1)
      have HP9 := Lib.hid hp9
      clear hF h9 hp9 hcl b0 b1 b2 b3 b4 b5 b6 b7 b8
      generalize ys 44 = y44
      generalize ys 63 = y63
      go_wp2
      go_roundw
      case rel => exact ⟨k + 1, sN, O3, O4, by omega, by go_num, HS2, HP9⟩
      case measure => simp [intOf]; omega
    · obtain rfl : k = L.length := by omega
      obtain ⟨bv, Ob, vf, hO2, hm⟩ := HP.out.b.inv.parts
      obtain ⟨q0, q1, q2, q3, q4, q5⟩ := hm.cells
      have hgz := heap_some_lt hm.box
      have hbx := hm.bx
      obtain ⟨b5, gs, gp, vo, ve, rfl, hOb, hbm⟩ := hbx
      have HBM := Lib.hid hbm
      obtain ⟨c0, c1, c2, c3⟩ := hbm.cells
      have hbz := heap_some_lt hbm.box
      clear hm hbm hOb
      go_upto_region 10 with fail
      have hcl : ∀ (n : KLater (fun _ => False) wr) (o : Nat), n.w.cell? ⟨g, o, none⟩ = wr.cell? ⟨g, o, none⟩ := fun n o => n.cell g o hgz (fun h => h)
      have hcb : ∀ (n : KLater (fun _ => False) wr) (o : Nat), n.w.cell? ⟨b5, o, none⟩ = wr.cell? ⟨b5, o, none⟩ := fun n o => n.cell b5 o hbz (fun h => h)
      refine wp_region_st 12 [] (StC 69 wr s.bx.S) [69] ⟨(Below.refl _ _).drew, fun u h => by cases h⟩ (by kernel_rfl) (by kernel_rfl) (by kernel_rfl) (by kernel_rfl) (by kernel_rfl) (by kernel_rfl) (by kernel_rfl) ?_
      simp only [List.take_succ_cons, List.take_zero, List.drop_succ_cons, List.drop_zero]
      repeat ((first | refine st_plain (O := fun _ => False) (fun h => .of_below h.1) (by rfl) (by rfl) (by rfl) (by rfl) (by rfl) ?_ | refine st_nil (O := fun _ => False) (fun h => .of_below h.1) (by rfl) (by rfl) (by rfl) (by rfl) (by rfl) (by rfl) ?_); intro K hK; go_big_quiet_op; go_big_quiet_on)
      refine st_callF (f := 15) (args := #[.pointer (some pv)]) (by rfl) (by rfl) (by rfl) (by rfl) (by rfl) (by rfl) (fun w => by simp [go_sem]) (fun j xs w' hG => ?_) ?_
      · refine (HA.out.states (HP.out.a.later HA.out.obj hG.1).inv HS.out.1).mono ?_
        rintro e w'' ⟨u, he, ⟨hu, _⟩, hb⟩
        refine ⟨u, he, fbelow_t hG.1 hb, fun y hy => ?_⟩
        simp at hy
        subst hy
        exact hu.sl
      simp only [Act.put, List.setIfInBounds_toArray, List.set_cons_succ, List.set_cons_zero]
      repeat ((first | refine st_plain (O := fun _ => False) (fun h => .of_below h.1) (by rfl) (by rfl) (by rfl) (by rfl) (by rfl) ?_ | refine st_nil (O := fun _ => False) (fun h => .of_below h.1) (by rfl) (by rfl) (by rfl) (by rfl) (by rfl) (by rfl) ?_); intro K hK; go_big_quiet_op; go_big_quiet_on)
      refine st_callR (v := .bool true) (by rfl) (by rfl) (by rfl) (fun j xs a w' hG hlk => ?_) ?_
      · have h30 := hlk 69 (by decide)
        have h34 := hlk 76 (by decide)
        rw [if_pos (by decide)] at h30
        rw [if_neg (by decide)] at h34
        refine ⟨14, #[a.tmps.getD 69 undef, a.tmps.getD 76 undef], by simp [go_sem], ?_⟩
        rw [h34]
        refine (sints_v (L := s.bx.S) (L' := s.bx.S) (q := true) (decide_eq_true rfl) w' (hG.2 _ h30) ((HBM.out.later hG.1).slSc HS.out.1.bx.n2)).mono ?_
        rintro e w'' ⟨rfl, n, rfl⟩
        exact ⟨rfl, hG.later (below_drewN (Below.refl _ _) _)⟩
      simp only [Act.put, List.setIfInBounds_toArray, List.set_cons_succ, List.set_cons_zero]
      repeat ((first | refine st_plain (O := fun _ => False) (fun h => .of_below h.1) (by rfl) (by rfl) (by rfl) (by rfl) (by rfl) ?_ | refine st_nil (O := fun _ => False) (fun h => .of_below h.1) (by rfl) (by rfl) (by rfl) (by rfl) (by rfl) (by rfl) ?_); intro K hK; go_big_quiet_op; go_big_quiet_on)
      refine st_call (f := 5) (args := #[]) (v := .bool true) (by rfl) (by rfl) (by rfl) (by rfl) (by rfl) (fun w => by simp [go_sem]) (fun j xs w' hG => ?_) ?_
      · refine (ctrlalive HA.out w' (HA.out.tab HT.out (fbelow_t HP.out.a.below hG.1))).mono ?_
        rintro e w'' ⟨he, hb⟩
        exact ⟨he, hG.later hb⟩
      simp only [Act.put, List.setIfInBounds_toArray, List.set_cons_succ, List.set_cons_zero]
      intro ys xs w9 hF h9
      simp only [secFill]
      have H9 := Lib.hid (fbelow_t HP.out.a.below h9.1)
      clear hF h9 hcl hcb
      go_wp2
      go_ret
      exact ⟨rfl, H9.out⟩
end Go.Proofs.YtmmcjmejcngajaaGreatDoor
