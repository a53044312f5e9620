/- Ctrl: walk of CtrlBits. Printed by gen_walks.py. -/
import Derived.Test.YtmmcjmejcngajaaDoorZaw
import Derived.Test.YtmmcjmejcngajaaDoorZas
namespace Go.Proofs.YtmmcjmejcngajaaDoor
open Go.RowKit
set_option linter.unusedVariables false

theorem doOp_keeps {s : Ct} (h : s.Ok) {o : Op9} (hk : o.k ≠ 5) : bits .andNot .i64 s.asks (s.doOp o).asks = 0 := by
  have h0 := same_keeps h.ak
  unfold Ct.doOp
  split
  · exact h0
  split
  · unfold Ct.won
    split
    · exact h0
    · exact setB_keeps h.ak (.inl rfl)
  split
  · unfold Ct.hear
    split
    · exact h0
    · split
      · exact setB_keeps h.ak (.inr (.inr (.inl rfl)))
      · exact setB_keeps h.ak (.inr (.inl rfl))
  split
  · exact setB_keeps h.ak (.inr (.inr (.inr rfl)))
  split
  · exact h0
  split
  · unfold Ct.fetch
    split <;> exact h0
  split
  · unfold Ct.abort
    split
    · exact setB_keeps h.ak (.inl rfl)
    · exact h0
  · exact h0
theorem doOp_clear {s : Ct} {o : Op9} (hk : o.k = 5) : (s.doOp o).asks = clrK s.asks o.b 4 := by
  unfold Ct.doOp
  rw [hk]
  rfl

set_option maxRecDepth 8000 in
set_option maxHeartbeats 16000000 in
theorem ctrlBits_walk {T : World → Prop} {I : World → Value → Ct → (Nat → Prop) → Prop} (A : CtrlI T I) (c : Cg) (F0 : Nat → List Value) (a : Option Addr) (len cap : Nat) (F : Nat → List Value) (w : World) (hr0 : IsRowOf w cfSh c.A c.n c.cp F0) (hr : IsRowOf w op9Sc a len cap F) (hT : T w) :
    Calls Tryd.prog 4 #[cgV c, .slice a len cap] w fun e w' => e = .returned (.bool true) ∧ Below w.heap.size w w' := by
  obtain ⟨LA, hLA, hlenA, hfA⟩ := slice_of_row hr0 cfOf cfOf_c rfl (by decide)
  obtain ⟨L, hL, hlen, hf⟩ := slice_of_row hr op9Oc op9Oc_c rfl (by decide)
  have HA := Lib.hid A
  have HT := Lib.hid hT
  have HVA : Hid (SlG flC 3 w w.heap.size c.va LA) := Lib.hid hLA
  have HV := Lib.hid hL
  have HFA : Hid (∀ x ∈ LA, x.fits) := Lib.hid (fun x h => cf_fits (hfA x h))
  have HX : Hid (∀ o ∈ L, o.p.ok ∧ (-9223372036854775808 ≤ o.b ∧ o.b ≤ 9223372036854775807)) := Lib.hid (fun o h => op9c_fits (hf o h))
  have HCN : Hid (c.n ≤ maxLen) := Lib.hid (by obtain ⟨A1, c1, hv, hm, _⟩ := hLA; injection hv with _ h2 _; omega)
  subst hlen
  obtain ⟨w1, e1⟩ : ∃ w1, w.alloc (cgO c) = w1 := ⟨_, rfl⟩
  have hb1 : Below w.heap.size w w1 := by rw [← e1]; exact (Below.refl _ _).alloc (Nat.le_refl _) _
  have HB1 := Lib.hid hb1
  have hx1 : w1.heap[w.heap.size]? = some (.cells #[.int .i64 c.bo, .int .i64 c.fi, .int .i64 c.ba, .int .i64 c.de, .int .i64 c.qu, .int .i64 c.no, .int .i64 c.re, .slice c.A c.n c.cp] 24 (0, 0)) := by rw [← e1]; unfold World.alloc; simp
  have HXC := Lib.hid hx1
  clear A hT hL hr hf hLA hr0 hfA hb1 hx1 hlenA
  obtain ⟨q, hq⟩ : ∃ q, fcB c L = q := ⟨_, rfl⟩
  have HQ := Lib.hid hq
  clear hq
  go_enter Tryd.func4, Tryd.ntmps4
  have d := fun j => Lib.cell_of_heap HXC.out j
  have d0 := d 0
  have d1 := d 1
  have d2 := d 2
  have d3 := d 3
  have d4 := d 4
  have d5 := d 5
  have d6 := d 6
  have d7 := d 7
  simp at d0 d1 d2 d3 d4 d5 d6 d7
  clear d
  go_wp2_with fail
  refine (fc_any w1 (HV.out.later HB1.out) HCN.out).mono ?_
  rintro e w2 ⟨he, hb⟩
  rw [HQ.out] at he
  subst he
  have HB2 := Lib.hid (fbelow_t HB1.out hb)
  have HXC2 := Lib.hid ((hb.block w.heap.size (heap_some_lt HXC.out)).trans HXC.out)
  clear hb d0 d1 d2 d3 d4 d5 d6 d7
  cases q
  · go_wp2_with fail
    refine (ctrlalive HA.out _ (HA.out.tab HT.out HB2.out)).mono ?_
    rintro e w3 ⟨rfl, hb⟩
    have HB3 := Lib.hid (fbelow_t HB2.out hb)
    clear hb
    go_wp2
    go_ret
    exact ⟨rfl, HB3.out⟩
  have hl4 := fcB_len HQ.out
  go_upto_region 3 with fail
  have d := fun j => Lib.cell_of_heap HXC2.out j
  have d0 := d 0
  have d1 := d 1
  have d2 := d 2
  have d3 := d 3
  have d4 := d 4
  have d5 := d 5
  have d6 := d 6
  have d7 := d 7
  simp at d0 d1 d2 d3 d4 d5 d6 d7
  have hz2 := heap_some_lt HXC2.out
  have hcl : ∀ (n : KLater (fun _ => False) w2) (o : Nat), n.w.cell? ⟨w.heap.size, o, none⟩ = w2.cell? ⟨w.heap.size, o, none⟩ := fun n o => n.cell w.heap.size o hz2 (fun h => h)
  refine wp_region_sl 5 [1, 3] [] (NewG I w w2 (ctNew c LA) 18 20 5) [18, 20, 5] ⟨(Below.refl _ _).drew, .inl ⟨rfl, rfl, rfl, rfl⟩⟩ (by kernel_rfl) (by kernel_rfl) (by kernel_rfl) (by kernel_rfl) (by kernel_rfl) (by kernel_rfl) (by kernel_rfl) (by kernel_rfl) ?_
  simp only [List.take_succ_cons, List.take_zero, List.drop_succ_cons, List.drop_zero]
  repeat ((first | refine sl_plain (O := fun _ => False) (fun h => h.kept) (by rfl) (by rfl) (by rfl) (by rfl) (by rfl) ?_ | refine sl_nil (O := fun _ => False) (fun h => h.kept) (by rfl) (by rfl) (by rfl) (by rfl) (by rfl) (by rfl) ?_); intro K hK; go_big_quiet_op; go_big_quiet_on)
  refine sl_stepF (s := 18) (f := 7) (args := #[cgV c]) 0 (by rfl) (by rfl) (by rfl) (by rfl) (by rfl) (by rfl) (fun w => by simp [go_sem]) (fun xs9 w9 h9 hx9 => ?_) ?_
  · have hb9 := fbelow_t HB2.out h9.1
    refine (HA.out.new c LA w9 (HA.out.tab HT.out hb9) (HVA.out.later hb9) HFA.out (fcB_n HQ.out)).mono ?_
    rintro e w' ⟨v, O, he, hi, hb, hn⟩
    exact ⟨v, he, h9.one HA.out.obj HB2.out (by decide) (by decide) hi hb hn⟩
  simp only [Act.put, List.setIfInBounds_toArray, List.set_cons_succ, List.set_cons_zero]
  repeat ((first | refine sl_plain (O := fun _ => False) (fun h => h.kept) (by rfl) (by rfl) (by rfl) (by rfl) (by rfl) ?_ | refine sl_nil (O := fun _ => False) (fun h => h.kept) (by rfl) (by rfl) (by rfl) (by rfl) (by rfl) (by rfl) ?_); intro K hK; go_big_quiet_op; go_big_quiet_on)
  refine sl_stepF (s := 20) (f := 16) (args := #[cgV c]) 1 (by rfl) (by rfl) (by rfl) (by rfl) (by rfl) (by rfl) (fun w => by simp [go_sem]) (fun xs9 w9 h9 hx9 => ?_) ?_
  · refine (xcnew_v c LA w9).mono ?_
    rintro e w' ⟨v, O, he, hi, hb, hn⟩
    exact ⟨v, he, h9.two HA.out.obj HB2.out (by decide) (by decide) hi hb hn⟩
  simp only [Act.put, List.setIfInBounds_toArray, List.set_cons_succ, List.set_cons_zero]
  refine sl_move (s1 := 18) (s2 := 5) (by rfl) (by rfl) (by rfl) (by rfl) (by rfl) (by decide) (fun a w => by simp [execOp, go_sem]) (fun j xs w u hG h1 h2 => hG.move h1 (by decide) (by decide)) ?_
  simp only [Act.put, List.setIfInBounds_toArray, List.set_cons_succ, List.set_cons_zero]
  intro ys xs w3 hF h3
  have f1 := hF 18 (by simp)
  have f2 := hF 20 (by simp)
  have f3 := hF 5 (by simp)
  have h3b := h3.1
  obtain ⟨g, O, O', e5, eb, hp⟩ := h3.out f1 f2 f3
  simp only [secFill, Act.put, List.setIfInBounds_toArray, List.set_cons_succ, List.set_cons_zero]
  rw [e5, eb]
  generalize ys 18 = v at hp
  have HP := Lib.hid hp
  have HB3 := Lib.hid (fbelow_t HB2.out h3b)
  have HXC3 := Lib.hid ((h3b.block w.heap.size (heap_some_lt HXC2.out)).trans HXC2.out)
  obtain ⟨pv, rfl⟩ := HA.out.ptr hp.a.inv
  have HOK := Lib.hid (Ct.Ok.new c LA)
  clear hF f1 f2 f3 h3 h3b e5 eb hp ys xs hcl d d0 d1 d2 d3 d4 d5 d6 d7 hz2
  go_wp2_with fail
  go_loopw [23] (fun i wr => ∃ (k : Nat) (s : Ct) (O O' : Nat → Prop), k ≤ L.length ∧ i = .int .i64 k ∧ Hid (s.Ok ∧ s.lost ≤ k ∧ s.va = c.va ∧ s.acc = LA) ∧ Hid (Pair I CtD w (.pointer (some pv)) (.pointer (some ⟨g, 0, none⟩)) s s O O' wr)) (fun i _ => L.length - (intOf i).toNat)
  case atStart => exact ⟨0, _, O, O', by omega, rfl, Lib.hid ⟨HOK.out, Int.le_refl _, rfl, rfl⟩, HP⟩
  case round =>
    obtain ⟨k, s, O1, O2, hk, rfl, HS, HP⟩ := hrel
    by_cases hlt : k < L.length
    · have hkl : (k : Int) < (L.length : Int) := by omega
      obtain ⟨x, c1, hv1, hxb, hcell⟩ := SlG.at_ (HV.out.later HP.out.a.below) hlt
      injection hv1 with hAA _ hcap
      subst hAA hcap
      have a0 : wr.cell? (x.add (k * 9)) = some (.int .i64 (L[k]'hlt).k) := hcell 0 _ rfl
      have a1 : wr.cell? ⟨(x.add (k * 9)).block, (x.add (k * 9)).off + 1, none⟩ = some (.int .i64 (L[k]'hlt).b) := hcell 1 _ rfl
      have a2 : wr.cell? ⟨(x.add (k * 9)).block, (x.add (k * 9)).off + 2, none⟩ = some (.int .i64 (L[k]'hlt).p.f.i) := hcell 2 _ rfl
      have a3 : wr.cell? ⟨(x.add (k * 9)).block, (x.add (k * 9)).off + 3, none⟩ = some (.int .i64 (L[k]'hlt).p.f.n) := hcell 3 _ rfl
      have a4 : wr.cell? ⟨(x.add (k * 9)).block, (x.add (k * 9)).off + 4, none⟩ = some (.int .i64 (L[k]'hlt).p.f.l) := hcell 4 _ rfl
      have a5 : wr.cell? ⟨(x.add (k * 9)).block, (x.add (k * 9)).off + 5, none⟩ = some (.string (L[k]'hlt).p.f.d) := hcell 5 _ rfl
      have a6 : wr.cell? ⟨(x.add (k * 9)).block, (x.add (k * 9)).off + 6, none⟩ = some (.int .i64 (L[k]'hlt).p.fr) := hcell 6 _ rfl
      have a7 : wr.cell? ⟨(x.add (k * 9)).block, (x.add (k * 9)).off + 7, none⟩ = some (.int .i64 (L[k]'hlt).p.tag) := hcell 7 _ rfl
      have a8 : wr.cell? ⟨(x.add (k * 9)).block, (x.add (k * 9)).off + 8, none⟩ = some (.bool (L[k]'hlt).p.lp) := hcell 8 _ rfl
      have HFX := Lib.hid (HX.out _ (List.getElem_mem hlt))
      generalize L[k]'hlt = o at a0 a1 a2 a3 a4 a5 a6 a7 a8 HFX
      clear hcell hxb
      have HPR : Hid (DoPre w s) := Lib.hid ⟨HS.out.1, by have := HS.out.2.1; omega, by rw [HS.out.2.2.1, HS.out.2.2.2]; exact HVA.out, by rw [HS.out.2.2.2]; exact HFA.out⟩
      have HKE : Hid (o.k ≠ 5 → bits .andNot .i64 s.asks (s.doOp o).asks = 0) := Lib.hid (doOp_keeps HS.out.1)
      have HCE : Hid (o.k = 5 → (s.doOp o).asks = clrK s.asks o.b 4) := Lib.hid doOp_clear
      have HAK := Lib.hid HS.out.1.ak
      obtain ⟨sN, hsN⟩ : ∃ sN, s.doOp o = sN := ⟨_, rfl⟩
      have HSN := Lib.hid hsN
      have HS2 : Hid (sN.Ok ∧ sN.lost ≤ (k + 1 : Nat) ∧ sN.va = c.va ∧ sN.acc = LA) := Lib.hid (by
        obtain ⟨h1, h2, h3⟩ := s.doOp_acc o
        rw [hsN] at h1 h2 h3
        refine ⟨by rw [← hsN]; exact HS.out.1.doOp o, by have := HS.out.2.1; omega, h1.trans HS.out.2.2.1, h2.trans HS.out.2.2.2⟩)
      rw [hsN] at HKE HCE
      clear hsN
      obtain ⟨wv, hwv⟩ : ∃ wv, s.asks = wv := ⟨_, rfl⟩
      obtain ⟨nw, hnw⟩ : ∃ nw, sN.asks = nw := ⟨_, rfl⟩
      have HWV := Lib.hid hwv
      have HNW := Lib.hid hnw
      have f3 : decide (nw < 0) = false := decide_eq_false (by have := HS2.out.1.ak; omega)
      have f4 : decide (15 < nw) = false := decide_eq_false (by have := HS2.out.1.ak; omega)
      rw [hwv, hnw] at HKE HCE
      rw [hwv] at HAK
      clear hwv hnw
      have HPa := Lib.hid (HP.out.later HA.out.obj isObj_ct ((Below.refl wr.heap.size wr).alloc (Nat.le_refl _) (.cells #[.int .i64 o.k, .int .i64 o.b, .int .i64 o.p.f.i, .int .i64 o.p.f.n, .int .i64 o.p.f.l, .string o.p.f.d, .int .i64 o.p.fr, .int .i64 o.p.tag, .bool o.p.lp] 47)))
      have HB0 := Lib.hid (CtlO9.made wr o)
      have HNO : Hid (¬ (O1 wr.heap.size ∨ O2 wr.heap.size)) := Lib.hid (fun hh => by
        rcases hh with hh | hh
        · have := HA.out.obj.lt HP.out.a.inv _ hh; omega
        · have := isObj_ct.lt HP.out.b.inv _ hh; omega)
      go_wp2_with fail
      refine (HA.out.asks HPa.out.a.inv HS.out.1).mono ?_
      rintro e w4 ⟨rfl, hb⟩
      rw [HWV.out]
      have HPb := Lib.hid (HPa.out.later HA.out.obj isObj_ct hb)
      have HBb := Lib.hid (HB0.out.later hb)
      clear hb a0 a1 a2 a3 a4 a5 a6 a7 a8
      obtain ⟨a0, a1, a2, a3, a4, a5, a6, a7, a8⟩ := HBb.out.cells
      go_wp2_with fail
      refine (cdo_any (o := o) HA.out HPb.out HPR.out HT.out HFX.out.1 HFX.out.2).mono ?_
      rintro e w5 ⟨O3, O4, rfl, hp, hk5, _, _⟩
      rw [HSN.out] at hp
      have HPc := Lib.hid hp
      have HBc := Lib.hid (HBb.out.kept hk5 HNO.out)
      clear hp hk5 a0 a1 a2 a3 a4 a5 a6 a7 a8
      go_wp2_with fail
      refine (HA.out.asks HPc.out.a.inv HS2.out.1).mono ?_
      rintro e w6 ⟨rfl, hb⟩
      rw [HNW.out]
      have HPd := Lib.hid (HPc.out.later HA.out.obj isObj_ct hb)
      have HBd := Lib.hid (HBc.out.later hb)
      clear hb
      obtain ⟨a0, a1, a2, a3, a4, a5, a6, a7, a8⟩ := HBd.out.cells
      by_cases h5 : o.k = 5
      · have f5 : (o.k == 5) = true := by simp [h5]
        have hcf := clr_facts (n := o.b) HAK.out
        rw [← HCE.out h5] at hcf
        obtain ⟨f1, f2⟩ := hcf
        obtain ⟨y, hy⟩ : ∃ y, bits .andNot .i64 wv o.b = y := ⟨_, rfl⟩
        rw [hy] at f1
        clear h5
        go_wp2_with fail
        go_roundw
        case rel => exact ⟨k + 1, sN, O3, O4, by omega, by go_num, HS2, HPd⟩
        case measure => simp [intOf]; omega
      · have f5 : (o.k == 5) = false := by simp [h5]
        have f1 := HKE.out h5
        clear h5
        go_wp2_with fail
        go_roundw
        case rel => exact ⟨k + 1, sN, O3, O4, by omega, by go_num, HS2, HPd⟩
        case measure => simp [intOf]; omega
    · obtain rfl : k = L.length := by omega
      go_wp2_with fail
      refine (ctrlalive HA.out _ (HA.out.tab HT.out HP.out.a.below)).mono ?_
      rintro e w7 ⟨rfl, hb⟩
      have HB7 := Lib.hid (fbelow_t HP.out.a.below hb)
      clear hb
      go_wp2
      go_ret
      exact ⟨rfl, HB7.out⟩
end Go.Proofs.YtmmcjmejcngajaaDoor
