/- Bus, the code: Slot, a frame that fails. Bus, the code: Slot, a frame that is sent. Bus, the code: the instance, but for Slot. Bus, plain: a slot by its cases, as the code has them. Bus: the instance, whole. -/
import Derived.Test.YtpgfifacfkllfaaDoorZbd
namespace Go.Proofs.YtpgfifacfkllfaaDoor
open Go.RowKit
set_option linter.unusedVariables false

theorem keyG_wf {f : Fr} (h : 0 ≤ keyG f) : (Lit.int .i64 f.n).wf = true := by
  have h1 : 0 ≤ keyV f.i f.n f.l f.d.size := h
  unfold keyV at h1
  by_cases hc : (okF f.i f.n f.l f.d.size && !fX f.n) = true
  · simp only [okF, okFl, Bool.and_eq_true, decide_eq_true_eq] at hc
    obtain ⟨⟨⟨⟨⟨⟨⟨⟨a1, a2⟩, _⟩, _⟩, _⟩, _⟩, _⟩, _⟩, _⟩ := hc
    simp [Lit.wf, IntKind.min, IntKind.max, IntKind.signed, IntKind.bits]; omega
  · rw [if_neg hc] at h1; omega
theorem ofF_wf {s : Bs} (ok : s.Ok) (own : Fr) (has : Bool) : ∀ i, ∀ f ∈ s.ofF own has i, (Lit.int .i64 f.n).wf = true
  | 0, f, h => by cases h
  | i + 1, f, h => by
    have ih := ofF_wf ok own has i
    unfold Bs.ofF at h ih
    unfold Bs.offs at h
    rw [List.map_append, List.mem_append] at h
    rcases h with h | h
    · exact ih f h
    · split at h
      · rename_i hc
        simp only [Bool.and_eq_true] at hc
        simp only [List.map_cons, List.map_nil, List.mem_singleton] at h
        subst h
        exact keyG_wf (ok.key hc.1)
      · cases h
theorem boxF_lay {w : World} {b : Nat} {i n l i' n' l' : Int} {d d' : ByteArray} (h : BoxF w b i n l d) : BoxF ((((w.setCell ⟨b, 0, none⟩ (.int .i64 i')).setCell ⟨b, 1, none⟩ (.int .i64 n')).setCell ⟨b, 2, none⟩ (.int .i64 l')).setCell ⟨b, 3, none⟩ (.string d')) b i' n' l' d' := by
  unfold BoxF at h
  have h0 := heap_setCell_same w b 0 _ _ (.int .i64 i') h
  have h1 := heap_setCell_same _ b 1 _ _ (.int .i64 n') h0
  have h2 := heap_setCell_same _ b 2 _ _ (.int .i64 l') h1
  exact heap_setCell_same _ b 3 _ _ (.string d') h2
theorem boxF_kept {w : World} {a : Nat} {x0 x1 x2 x3 : Value} : Kept (fun k => k = a) w ((((w.setCell ⟨a, 0, none⟩ x0).setCell ⟨a, 1, none⟩ x1).setCell ⟨a, 2, none⟩ x2).setCell ⟨a, 3, none⟩ x3) :=
  ((set_kept1.trans set_kept1 (Grows.refl _ _)).trans set_kept1 (Grows.refl _ _)).trans set_kept1 (Grows.refl _ _)
theorem ent_failed : ∀ args w, (callFunc 38 args).run Tryd.prog w = .ok (.enter 38 args) w := fun _ _ => by kernel_rfl
theorem ent_missed : ∀ args w, (callFunc 39 args).run Tryd.prog w = .ok (.enter 39 args) w := fun _ _ => by kernel_rfl
theorem ent_sent : ∀ args w, (callFunc 40 args).run Tryd.prog w = .ok (.enter 40 args) w := fun _ _ => by kernel_rfl
theorem ent_heard : ∀ args w, (callFunc 41 args).run Tryd.prog w = .ok (.enter 41 args) w := fun _ _ => by kernel_rfl
set_option maxHeartbeats 8000000 in
theorem kbslot2_v {v : Value} {s : Bs} {O : Nat → Prop} (own : Fr) (has : Bool) {m a : Nat} {f : Fr} (w : World) (h : BkD w v s O) (ok : s.Ok) (hT : Tabs w) (hsl : s.sl ≤ 100000) (hn : -9223372036854775808 ≤ own.n ∧ own.n ≤ 9223372036854775807)
    (hO : TabO O) (h0 : (s.offs own has s.N.length)[m]? = some (a, f)) (ha : a < s.N.length) (hl : leastIx (s.ofF own has s.N.length) (s.ofF own has s.N.length).length = some m) :
    Calls Tryd.prog 19 #[v, frV own, .bool has, .bool true] w fun e w' => e = .returned (evV 2 a f) ∧ Stp BkD v O w { s with N := s.N2 true a, fx := s.fx1, sl := s.sl + 1 } w' := by
  obtain ⟨b, gn, gm, D, ws, vl, rfl, rfl, hm⟩ := h
  have HOK := Lib.hid ok
  have HN := Lib.hid hn
  obtain ⟨w1, e1⟩ : ∃ w1, (w.alloc (.cells #[.int .i64 own.i, .int .i64 own.n, .int .i64 own.l, .string own.d] 30)).alloc (.cells #[.int .i64 0, .int .i64 0, .int .i64 0, .int .i64 0, .int .i64 0, .string (ByteArray.mk #[])] 46) = w1 := ⟨_, rfl⟩
  have hb0 : Below w.heap.size w w1 := by rw [← e1]; exact ((Below.refl w.heap.size w).alloc (Nat.le_refl _) _).alloc (by simp) _
  have HB0 := Lib.hid hb0
  have HT0 := Lib.hid (hT.below hb0)
  have HM0 := Lib.hid (hm.later hb0)
  have HF0 : Hid (BoxF w1 w.heap.size own.i own.n own.l own.d) := Lib.hid (by rw [← e1]; exact (BoxF.made w own.i own.n own.l own.d).later ((Below.refl _ _).alloc (Nat.le_refl _) _))
  obtain ⟨w2, e2⟩ : ∃ w2, w1.setCell ⟨b, 5, none⟩ (.int .i64 (s.sl + 1)) = w2 := ⟨_, rfl⟩
  have HM1 : Hid (BkM w2 b gn gm D ws vl { s with sl := s.sl + 1 }) := Lib.hid (by rw [← e2]; exact HM0.out.setBox (s' := { s with sl := s.sl + 1 }) 5 (.int .i64 (s.sl + 1)) rfl rfl rfl rfl)
  have HK1 : Hid (Kept (busO b gn gm ws vl) w w2) := Lib.hid (by rw [← e2]; exact (Kept.of_below HB0.out).trans setBox_kept (Grows.refl _ _))
  obtain ⟨c0, c1, c2, c3, c4, c5⟩ := HM0.out.cells
  obtain ⟨d0, d1, d2, d3⟩ := HF0.out.cells
  have f5 := HM0.out.live 5
  have hs0 := HOK.out.sl0
  have x0 : (w2.cell? ⟨w.heap.size, 0, none⟩ = some (.int .i64 own.i) ∧ w2.cell? ⟨w.heap.size, 1, none⟩ = some (.int .i64 own.n) ∧ w2.cell? ⟨w.heap.size, 2, none⟩ = some (.int .i64 own.l) ∧ w2.cell? ⟨w.heap.size, 3, none⟩ = some (.string own.d)) := by
    have hne : (w.heap.size : Nat) ≠ b := fun e => absurd (hm.lt b (.inl rfl)) (by omega)
    have key : ∀ o, w2.cell? ⟨w.heap.size, o, none⟩ = w1.cell? ⟨w.heap.size, o, none⟩ := fun o => by rw [← e2]; exact World.cell?_setCell_other _ _ _ _ (fun e => hne (congrArg Addr.block e).symm)
    rw [key, key, key, key]; exact ⟨d0, d1, d2, d3⟩
  have HE1 : Hid (EvB w1 (w.heap.size + 1) 0 0 frz) := Lib.hid (by rw [← e1]; exact EvB.made _ (by simp))
  have HE2 : Hid (EvB w2 (w.heap.size + 1) 0 0 frz) := Lib.hid (by rw [← e2]; exact HE1.out.put (by have := hm.lt b (.inl rfl); omega))
  have HLT : Hid (∀ k, busO b gn gm ws vl k → k < w.heap.size) := Lib.hid hm.lt
  obtain ⟨x0, x1, x2, x3⟩ := x0
  have HTA : Hid (Tabs w2) := Lib.hid (hT.kept HK1.out hO)
  have hT0 := Lib.hid hT
  have hO0 := Lib.hid hO
  clear hm hb0 ok hT hn hO
  go_enter Tryd.func19, Tryd.ntmps19
  go_wp2_with fail
  refine (kbpresent_v (s := { s with sl := s.sl + 1 }) HM1.out (by exact HOK.out.n2)).mono ?_
  rintro e wp ⟨u0, rfl, hpr, hbp, hop⟩
  have hpr : RowQ intC 1 wp u0 (natI (s.prs s.N.length)) := by have h5 := hpr; rw [prs_sl] at h5; exact h5
  have HPM : Hid ((∀ a ∈ s.prs s.N.length, a < s.N.length) ∧ (s.prs s.N.length).Nodup ∧ (s.prs s.N.length).length ≤ 32) := Lib.hid ⟨fun a h => ((prs_in _ a).1 h).1, prs_nodup _, Nat.le_trans (prs_len _) HOK.out.n2⟩
  have HE1P := Lib.hid (op_ofN (s := s) (own := own) (has := has) (i := s.N.length))
  have HE2P := Lib.hid (op_ofF (s := s) (own := own) (has := has) (i := s.N.length))
  have HN2 : Hid (hapL (s.prs s.N.length) a 2 3 s.N1 = s.N2 true a) := Lib.hid (hapL_N2 rfl rfl)
  generalize s.prs s.N.length = P at hpr HPM HE1P HE2P HN2
  have HPR := Lib.hid hpr
  have HBP := Lib.hid hbp
  have HOP := Lib.hid hop
  have HMP := Lib.hid (HM1.out.later hbp)
  have HTP := Lib.hid (HTA.out.below hbp)
  have HSP : Hid (SlI wp u0 (natI P)) := Lib.hid (hpr.sl intC_len (by rw [natI_len]; have := HPM.out.2.2; unfold maxLen; omega))
  have hxc : ∀ o, wp.cell? ⟨w.heap.size, o, none⟩ = w2.cell? ⟨w.heap.size, o, none⟩ := fun o => hbp.cell (by have := HB0.out.size; have := HE2.out.lt; show w.heap.size < _; omega)
  have v0 := (hxc 0).trans x0
  have v1 := (hxc 1).trans x1
  have v2 := (hxc 2).trans x2
  have v3 := (hxc 3).trans x3
  clear hpr hbp hop hxc x0 x1 x2 x3
  go_wp2_with fail
  refine (kboffered_v (s := { s with sl := s.sl + 1 }) P own has HMP.out HTP.out (by exact HOK.out.n2) (by exact HPM.out.1) HPM.out.2.2 HSP.out (by exact HOK.out.w0) HN.out).mono ?_
  rintro e w3 ⟨u1, u2, rfl, hq1, hq2, hb3, ho3⟩
  have HM3 := Lib.hid (HMP.out.later hb3)
  clear HSP
  have hq1 : RowQ intC 1 w3 u1 (s.ofN own has s.N.length) := by have h5 := hq1; rw [opN_sl, HE1P.out] at h5; exact h5
  have hq2 : RowQ frC 4 w3 u2 (s.ofF own has s.N.length) := by have h5 := hq2; rw [opF_sl, HE2P.out] at h5; exact h5
  have hf1 : (s.ofN own has s.N.length)[m]? = some (a : Int) := by unfold Bs.ofN; rw [List.getElem?_map, h0]; rfl
  have hf2 : (s.ofF own has s.N.length)[m]? = some f := by unfold Bs.ofF; rw [List.getElem?_map, h0]; rfl
  have hf3 : (s.ofN own has s.N.length).length ≤ 32 ∧ (s.ofF own has s.N.length).length ≤ 32 := by
    have := offs_len (s := s) (own := own) (has := has) s.N.length
    have := HOK.out.n2
    unfold Bs.ofN Bs.ofF
    simp only [List.length_map]
    omega
  have HWF : Hid (∀ f ∈ s.ofF own has s.N.length, (Lit.int .i64 f.n).wf = true) := Lib.hid (ofF_wf HOK.out own has _)
  generalize s.ofN own has s.N.length = LN at hq1 hf1 hf3
  generalize s.ofF own has s.N.length = LF at hq2 hf2 hf3 hl HWF
  clear h0
  obtain ⟨hm1, hf1⟩ := List.getElem?_eq_some_iff.1 hf1
  obtain ⟨hm2, hf2⟩ := List.getElem?_eq_some_iff.1 hf2
  have HF1 := Lib.hid hf1
  have HF2 := Lib.hid hf2
  have HF3 := Lib.hid hf3
  have HL := Lib.hid hl
  clear hf1 hf2 hf3 hl
  have HQ1 := Lib.hid hq1
  have HQ2 := Lib.hid hq2
  have HB3 := Lib.hid (fbelow_t HBP.out hb3)
  have HP3 := Lib.hid (HPR.out.later hb3)
  have HO3 : Hid (∀ k, OwnO u1 k ∨ OwnO u2 k → w2.heap.size ≤ k) := Lib.hid (fun k hk => Nat.le_trans HBP.out.size (ho3 k hk))
  clear hq1 hq2 hb3 ho3 c0 c1 c2 c3 c4 c5 d0 d1 d2 d3 f5 v0 v1 v2 v3
  go_wp2_with fail
  refine (kbrest_v HM3.out (by exact HOK.out.n2) (by exact HOK.out.n1) (by exact HOK.out.okN) (by exact HOK.out.back)).mono ?_
  rintro e w4 ⟨rfl, hm4, hk4⟩
  have HM4 := Lib.hid hm4
  have HK4 := Lib.hid hk4
  clear hm4 hk4
  have HK3 := Lib.hid (((HK1.out.trans (Kept.of_below HB3.out) (Grows.refl _ _))).trans HK4.out (Grows.refl _ _))
  have HT4 : Hid (ATab w4) := Lib.hid (hT0.out.kept HK3.out hO0.out)
  have hq4 : RowQ frC 4 w4 u2 LF := HQ2.out.stay (fun g hg => HK4.out.block g (HQ2.out.lt g hg) (fun h => by have := HLT.out g h; have := HO3.out g (.inr hg); have := HK1.out.size; omega)) HK4.out.size
  have HP4 : Hid (RowQ intC 1 w4 u0 (natI P)) := Lib.hid (HP3.out.stay (fun g hg => HK4.out.block g (HP3.out.lt g hg) (fun h => by have := HLT.out g h; have := HOP.out g hg; have := HK1.out.size; omega)) HK4.out.size)
  have HE4 := Lib.hid ((HE2.out.later HB3.out).kept HK4.out (fun h => by have := HLT.out _ h; omega))
  have m0 := hq4.sl frC_len (by have := HF3.out.2; unfold maxLen; omega)
  have hq1' : RowQ intC 1 w4 u1 LN := HQ1.out.stay (fun g hg => HK4.out.block g (HQ1.out.lt g hg) (fun h => by have := HLT.out g h; have := HO3.out g (.inl hg); have := HK1.out.size; omega)) HK4.out.size
  have hn0 := hq1'.sl (fun _ => rfl) (by have := HF3.out.1; unfold maxLen; omega)
  have HM0 := Lib.hid m0
  have HN0 := Lib.hid hn0
  go_wp2_with fail
  refine (kaleast_n w4 HM0.out HWF.out HT4.out).mono ?_
  rw [HL.out]
  rintro e w5 ⟨rfl, hb5⟩
  have HB5 := Lib.hid hb5
  obtain ⟨wa, ea⟩ : ∃ wa, w5.alloc (.cells #[.int .i64 0, .int .i64 0, .int .i64 0, .string (ByteArray.mk #[])] 30) = wa := ⟨_, rfl⟩
  have hba : Below w5.heap.size w5 wa := by rw [← ea]; exact (Below.refl _ _).alloc (Nat.le_refl _) _
  have HBA := Lib.hid hba
  have HFA : Hid (BoxF wa w5.heap.size 0 0 0 (ByteArray.mk #[])) := Lib.hid (by rw [← ea]; exact BoxF.made w5 0 0 0 (ByteArray.mk #[]))
  obtain ⟨x1, k1, hv1, hx1, y1⟩ := SlG.at1 (HN0.out.later hb5) hm1 (u := .int .i64 a) (by rw [HF1.out]; rfl)
  obtain ⟨x2, k2, hv2, hx2, y2⟩ := SlF.facts (HM0.out.later hb5) hm2
  have y1' : ∀ m' : Later w5, m'.w.cell? (x1.add m) = some (.int .i64 a) := fun m' => (m'.h.cell (by rw [addr_block]; exact hx1)).trans y1
  simp only [HF2.out] at y2
  obtain ⟨z0, z1, z2, z3⟩ := y2 ⟨w5, Below.refl _ _⟩
  obtain ⟨q0, q1, q2, q3⟩ := y2 ⟨wa, hba⟩
  have q4 := y1' ⟨wa, hba⟩
  simp only at q0 q1 q2 q3 q4
  subst hv1 hv2
  clear y2 y1' hn0 hq1' hq4 m0 hb5 hba
  have HE5 := Lib.hid (HE4.out.later HB5.out)
  obtain ⟨g0, g1, g2, g3⟩ := HFA.out.cells
  have gl : ∀ j, wa.frozen? ⟨w5.heap.size, j, none⟩ = false := fun j => Lib.frozen_of_heap HFA.out j
  go_wp2_with fail
  clear HM0 HN0 HQ1 HQ2
  go_region
  go_wp2_with fail
  generalize hwb : World.drew _ = wb
  have HFB : Hid (BoxF wb w5.heap.size f.i f.n f.l f.d) := Lib.hid (by rw [← hwb]; exact boxF_lay HFA.out)
  have hkb : Kept (fun k => k = w5.heap.size) wa wb := by rw [← hwb]; exact boxF_kept.trans (Kept.of_below (Below.refl _ _).drew) (Grows.refl _ _)
  have HBB : Hid (Below w5.heap.size w5 wb) := Lib.hid (hkb.below HBA.out HBA.out.size (fun k h => by omega))
  clear hwb hkb g0 g1 g2 g3 gl z0 z1 z2 z3 q0 q1 q2 q3 q4
  have HM5 := Lib.hid ((HM4.out.later HB5.out).later HBB.out)
  have HKB := Lib.hid ((HK3.out.trans (Kept.of_below (O := busO b gn gm ws vl) HB5.out) (Grows.refl _ _)).trans (Kept.of_below (O := busO b gn gm ws vl) HBB.out) (Grows.refl _ _))
  have HSI : Hid (SlI wb u0 (natI P)) := Lib.hid ((((HP4.out.later HB5.out).later HBB.out)).sl intC_len (by rw [natI_len]; have := HPM.out.2.2; unfold maxLen; omega))
  refine (kbhap_v (k1 := 2) (k2 := 3) ent_failed ent_missed (fun c e h => kcfailed_v h) (fun c e h => kcmissed_v h) a P HM5.out (by show s.N1.length ≤ 32; unfold Bs.N1; rw [turnN_len]; exact HOK.out.n2) (by intro x hx; show x < s.N1.length; unfold Bs.N1; rw [turnN_len]; exact HPM.out.1 x hx) HPM.out.2.1 HPM.out.2.2 HSI.out (fun x L c hx hb => by have := HLT.out _ hb; have := HOP.out x.block (by rw [hx]; rfl); have := HK1.out.size; omega)).mono ?_
  rintro e w6 ⟨rfl, hm6, hk6⟩
  have hm6 : BkM w6 b gn gm D ws vl { s with N := hapL P a 2 3 s.N1, fx := s.fx1, sl := s.sl + 1 } := hm6
  rw [HN2.out] at hm6
  have HM6 := Lib.hid hm6
  have HK6 := Lib.hid hk6
  clear hm6 hk6
  have HE6 := Lib.hid (((HE4.out.later HB5.out).later HBB.out).kept HK6.out (fun h => by have := HLT.out _ h; omega))
  have HF6 : Hid (BoxF w6 w5.heap.size f.i f.n f.l f.d) := Lib.hid ((HK6.out.block _ HFB.out.lt (fun h => by have := HLT.out _ h; have := HK3.out.size; have := HB5.out.size; omega)).trans HFB.out)
  obtain ⟨d0, d1, d2, d3⟩ := HF6.out.cells
  obtain ⟨g0, g1, g2, g3, g4, g5⟩ := HE6.out.cells
  have gl := HE6.out.live
  have HFIN : Hid (∀ w7, Kept (fun k => k = w.heap.size + 1) w6 w7 → Stp BkD (.pointer (some ⟨b, 0, none⟩)) (busO b gn gm ws vl) w { s with N := s.N2 true a, fx := s.fx1, sl := s.sl + 1 } w7) := Lib.hid (fun w7 hk7 => ⟨_, ⟨b, gn, gm, D, ws, vl, rfl, rfl, HM6.out.stay (fun k hk => by
      have := HLT.out k hk
      exact hk7.block k (by have := HKB.out.size; have := HK6.out.size; omega) (by omega))⟩,
    (HKB.out.trans HK6.out (Grows.refl _ _)).trans hk7 (fun k hk => .inr (by omega)), Grows.refl _ _⟩)
  go_wp2_with fail
  generalize hw7 : (World.setCell _ ⟨w.heap.size + 1, 5, none⟩ _) = w7
  have HE7 : Hid (EvB w7 (w.heap.size + 1) 2 a f) := Lib.hid (by rw [← hw7]; exact ev_put HE6.out 2 a f)
  have HK7 : Hid (Kept (fun k => k = w.heap.size + 1) w6 w7) := Lib.hid (by rw [← hw7]; exact ev_kept _ _ _ _ _ _ _ _)
  clear hw7 g0 g1 g2 g3 g4 g5 gl d0 d1 d2 d3
  obtain ⟨g0, g1, g2, g3, g4, g5⟩ := HE7.out.cells
  refine bodyPost_ret (v := evV 2 a f) ?_ rfl ⟨rfl, HFIN.out _ HK7.out⟩
  simp [results, Tryd.results19, go_sem, g0, g1, g2, g3, g4, g5]
end Go.Proofs.YtpgfifacfkllfaaDoor

namespace Go.Proofs.YtpgfifacfkllfaaDoor
open Go.RowKit
set_option linter.unusedVariables false

set_option maxHeartbeats 8000000 in
theorem kbslot1_v {v : Value} {s : Bs} {O : Nat → Prop} (own : Fr) (has : Bool) {m a : Nat} {f : Fr} (w : World) (h : BkD w v s O) (ok : s.Ok) (hT : Tabs w) (hsl : s.sl ≤ 100000) (hn : -9223372036854775808 ≤ own.n ∧ own.n ≤ 9223372036854775807)
    (hO : TabO O) (h0 : (s.offs own has s.N.length)[m]? = some (a, f)) (ha : a < s.N.length) (hl : leastIx (s.ofF own has s.N.length) (s.ofF own has s.N.length).length = some m) :
    Calls Tryd.prog 19 #[v, frV own, .bool has, .bool false] w fun e w' => e = .returned (evV 1 a f) ∧ Stp BkD v O w { s with N := s.N2 false a, fx := s.fx1, sl := s.sl + 1, W := s.W.set a (s.W.getD a []).tail, log := s.log ++ [⟨f, a, s.sl⟩] } w' := by
  obtain ⟨b, gn, gm, D, ws, vl, rfl, rfl, hm⟩ := h
  have HOK := Lib.hid ok
  have HN := Lib.hid hn
  obtain ⟨w1, e1⟩ : ∃ w1, (w.alloc (.cells #[.int .i64 own.i, .int .i64 own.n, .int .i64 own.l, .string own.d] 30)).alloc (.cells #[.int .i64 0, .int .i64 0, .int .i64 0, .int .i64 0, .int .i64 0, .string (ByteArray.mk #[])] 46) = w1 := ⟨_, rfl⟩
  have hb0 : Below w.heap.size w w1 := by rw [← e1]; exact ((Below.refl w.heap.size w).alloc (Nat.le_refl _) _).alloc (by simp) _
  have HB0 := Lib.hid hb0
  have HT0 := Lib.hid (hT.below hb0)
  have HM0 := Lib.hid (hm.later hb0)
  have HF0 : Hid (BoxF w1 w.heap.size own.i own.n own.l own.d) := Lib.hid (by rw [← e1]; exact (BoxF.made w own.i own.n own.l own.d).later ((Below.refl _ _).alloc (Nat.le_refl _) _))
  obtain ⟨w2, e2⟩ : ∃ w2, w1.setCell ⟨b, 5, none⟩ (.int .i64 (s.sl + 1)) = w2 := ⟨_, rfl⟩
  have HM1 : Hid (BkM w2 b gn gm D ws vl { s with sl := s.sl + 1 }) := Lib.hid (by rw [← e2]; exact HM0.out.setBox (s' := { s with sl := s.sl + 1 }) 5 (.int .i64 (s.sl + 1)) rfl rfl rfl rfl)
  have HK1 : Hid (Kept (busO b gn gm ws vl) w w2) := Lib.hid (by rw [← e2]; exact (Kept.of_below HB0.out).trans setBox_kept (Grows.refl _ _))
  obtain ⟨c0, c1, c2, c3, c4, c5⟩ := HM0.out.cells
  obtain ⟨d0, d1, d2, d3⟩ := HF0.out.cells
  have f5 := HM0.out.live 5
  have hs0 := HOK.out.sl0
  have x0 : (w2.cell? ⟨w.heap.size, 0, none⟩ = some (.int .i64 own.i) ∧ w2.cell? ⟨w.heap.size, 1, none⟩ = some (.int .i64 own.n) ∧ w2.cell? ⟨w.heap.size, 2, none⟩ = some (.int .i64 own.l) ∧ w2.cell? ⟨w.heap.size, 3, none⟩ = some (.string own.d)) := by
    have hne : (w.heap.size : Nat) ≠ b := fun e => absurd (hm.lt b (.inl rfl)) (by omega)
    have key : ∀ o, w2.cell? ⟨w.heap.size, o, none⟩ = w1.cell? ⟨w.heap.size, o, none⟩ := fun o => by rw [← e2]; exact World.cell?_setCell_other _ _ _ _ (fun e => hne (congrArg Addr.block e).symm)
    rw [key, key, key, key]; exact ⟨d0, d1, d2, d3⟩
  have HE1 : Hid (EvB w1 (w.heap.size + 1) 0 0 frz) := Lib.hid (by rw [← e1]; exact EvB.made _ (by simp))
  have HE2 : Hid (EvB w2 (w.heap.size + 1) 0 0 frz) := Lib.hid (by rw [← e2]; exact HE1.out.put (by have := hm.lt b (.inl rfl); omega))
  have HLT : Hid (∀ k, busO b gn gm ws vl k → k < w.heap.size) := Lib.hid hm.lt
  obtain ⟨x0, x1, x2, x3⟩ := x0
  have HTA : Hid (Tabs w2) := Lib.hid (hT.kept HK1.out hO)
  have hT0 := Lib.hid hT
  have hO0 := Lib.hid hO
  clear hm hb0 ok hT hn hO
  go_enter Tryd.func19, Tryd.ntmps19
  go_wp2_with fail
  refine (kbpresent_v (s := { s with sl := s.sl + 1 }) HM1.out (by exact HOK.out.n2)).mono ?_
  rintro e wp ⟨u0, rfl, hpr, hbp, hop⟩
  have hpr : RowQ intC 1 wp u0 (natI (s.prs s.N.length)) := by have h5 := hpr; rw [prs_sl] at h5; exact h5
  have HPM : Hid ((∀ a ∈ s.prs s.N.length, a < s.N.length) ∧ (s.prs s.N.length).Nodup ∧ (s.prs s.N.length).length ≤ 32) := Lib.hid ⟨fun a h => ((prs_in _ a).1 h).1, prs_nodup _, Nat.le_trans (prs_len _) HOK.out.n2⟩
  have HE1P := Lib.hid (op_ofN (s := s) (own := own) (has := has) (i := s.N.length))
  have HE2P := Lib.hid (op_ofF (s := s) (own := own) (has := has) (i := s.N.length))
  have HN2 : Hid (hapL (s.prs s.N.length) a 0 1 s.N1 = s.N2 false a) := Lib.hid (hapL_N2 rfl rfl)
  generalize s.prs s.N.length = P at hpr HPM HE1P HE2P HN2
  have HPR := Lib.hid hpr
  have HBP := Lib.hid hbp
  have HOP := Lib.hid hop
  have HMP := Lib.hid (HM1.out.later hbp)
  have HTP := Lib.hid (HTA.out.below hbp)
  have HSP : Hid (SlI wp u0 (natI P)) := Lib.hid (hpr.sl intC_len (by rw [natI_len]; have := HPM.out.2.2; unfold maxLen; omega))
  have hxc : ∀ o, wp.cell? ⟨w.heap.size, o, none⟩ = w2.cell? ⟨w.heap.size, o, none⟩ := fun o => hbp.cell (by have := HB0.out.size; have := HE2.out.lt; show w.heap.size < _; omega)
  have v0 := (hxc 0).trans x0
  have v1 := (hxc 1).trans x1
  have v2 := (hxc 2).trans x2
  have v3 := (hxc 3).trans x3
  clear hpr hbp hop hxc x0 x1 x2 x3
  go_wp2_with fail
  refine (kboffered_v (s := { s with sl := s.sl + 1 }) P own has HMP.out HTP.out (by exact HOK.out.n2) (by exact HPM.out.1) HPM.out.2.2 HSP.out (by exact HOK.out.w0) HN.out).mono ?_
  rintro e w3 ⟨u1, u2, rfl, hq1, hq2, hb3, ho3⟩
  have HM3 := Lib.hid (HMP.out.later hb3)
  clear HSP
  have hq1 : RowQ intC 1 w3 u1 (s.ofN own has s.N.length) := by have h5 := hq1; rw [opN_sl, HE1P.out] at h5; exact h5
  have hq2 : RowQ frC 4 w3 u2 (s.ofF own has s.N.length) := by have h5 := hq2; rw [opF_sl, HE2P.out] at h5; exact h5
  have hf1 : (s.ofN own has s.N.length)[m]? = some (a : Int) := by unfold Bs.ofN; rw [List.getElem?_map, h0]; rfl
  have hf2 : (s.ofF own has s.N.length)[m]? = some f := by unfold Bs.ofF; rw [List.getElem?_map, h0]; rfl
  have hf3 : (s.ofN own has s.N.length).length ≤ 32 ∧ (s.ofF own has s.N.length).length ≤ 32 := by
    have := offs_len (s := s) (own := own) (has := has) s.N.length
    have := HOK.out.n2
    unfold Bs.ofN Bs.ofF
    simp only [List.length_map]
    omega
  have HWF : Hid (∀ f ∈ s.ofF own has s.N.length, (Lit.int .i64 f.n).wf = true) := Lib.hid (ofF_wf HOK.out own has _)
  generalize s.ofN own has s.N.length = LN at hq1 hf1 hf3
  generalize s.ofF own has s.N.length = LF at hq2 hf2 hf3 hl HWF
  clear h0
  obtain ⟨hm1, hf1⟩ := List.getElem?_eq_some_iff.1 hf1
  obtain ⟨hm2, hf2⟩ := List.getElem?_eq_some_iff.1 hf2
  have HF1 := Lib.hid hf1
  have HF2 := Lib.hid hf2
  have HF3 := Lib.hid hf3
  have HL := Lib.hid hl
  clear hf1 hf2 hf3 hl
  have HQ1 := Lib.hid hq1
  have HQ2 := Lib.hid hq2
  have HB3 := Lib.hid (fbelow_t HBP.out hb3)
  have HP3 := Lib.hid (HPR.out.later hb3)
  have HO3 : Hid (∀ k, OwnO u1 k ∨ OwnO u2 k → w2.heap.size ≤ k) := Lib.hid (fun k hk => Nat.le_trans HBP.out.size (ho3 k hk))
  clear hq1 hq2 hb3 ho3 c0 c1 c2 c3 c4 c5 d0 d1 d2 d3 f5 v0 v1 v2 v3
  go_wp2_with fail
  refine (kbrest_v HM3.out (by exact HOK.out.n2) (by exact HOK.out.n1) (by exact HOK.out.okN) (by exact HOK.out.back)).mono ?_
  rintro e w4 ⟨rfl, hm4, hk4⟩
  have HM4 := Lib.hid hm4
  have HK4 := Lib.hid hk4
  clear hm4 hk4
  have HK3 := Lib.hid (((HK1.out.trans (Kept.of_below HB3.out) (Grows.refl _ _))).trans HK4.out (Grows.refl _ _))
  have HT4 : Hid (ATab w4) := Lib.hid (hT0.out.kept HK3.out hO0.out)
  have hq4 : RowQ frC 4 w4 u2 LF := HQ2.out.stay (fun g hg => HK4.out.block g (HQ2.out.lt g hg) (fun h => by have := HLT.out g h; have := HO3.out g (.inr hg); have := HK1.out.size; omega)) HK4.out.size
  have HP4 : Hid (RowQ intC 1 w4 u0 (natI P)) := Lib.hid (HP3.out.stay (fun g hg => HK4.out.block g (HP3.out.lt g hg) (fun h => by have := HLT.out g h; have := HOP.out g hg; have := HK1.out.size; omega)) HK4.out.size)
  have HE4 := Lib.hid ((HE2.out.later HB3.out).kept HK4.out (fun h => by have := HLT.out _ h; omega))
  have m0 := hq4.sl frC_len (by have := HF3.out.2; unfold maxLen; omega)
  have hq1' : RowQ intC 1 w4 u1 LN := HQ1.out.stay (fun g hg => HK4.out.block g (HQ1.out.lt g hg) (fun h => by have := HLT.out g h; have := HO3.out g (.inl hg); have := HK1.out.size; omega)) HK4.out.size
  have hn0 := hq1'.sl (fun _ => rfl) (by have := HF3.out.1; unfold maxLen; omega)
  have HM0 := Lib.hid m0
  have HN0 := Lib.hid hn0
  go_wp2_with fail
  refine (kaleast_n w4 HM0.out HWF.out HT4.out).mono ?_
  rw [HL.out]
  rintro e w5 ⟨rfl, hb5⟩
  have HB5 := Lib.hid hb5
  obtain ⟨wa, ea⟩ : ∃ wa, w5.alloc (.cells #[.int .i64 0, .int .i64 0, .int .i64 0, .string (ByteArray.mk #[])] 30) = wa := ⟨_, rfl⟩
  have hba : Below w5.heap.size w5 wa := by rw [← ea]; exact (Below.refl _ _).alloc (Nat.le_refl _) _
  have HBA := Lib.hid hba
  have HFA : Hid (BoxF wa w5.heap.size 0 0 0 (ByteArray.mk #[])) := Lib.hid (by rw [← ea]; exact BoxF.made w5 0 0 0 (ByteArray.mk #[]))
  obtain ⟨x1, k1, hv1, hx1, y1⟩ := SlG.at1 (HN0.out.later hb5) hm1 (u := .int .i64 a) (by rw [HF1.out]; rfl)
  obtain ⟨x2, k2, hv2, hx2, y2⟩ := SlF.facts (HM0.out.later hb5) hm2
  have y1' : ∀ m' : Later w5, m'.w.cell? (x1.add m) = some (.int .i64 a) := fun m' => (m'.h.cell (by rw [addr_block]; exact hx1)).trans y1
  simp only [HF2.out] at y2
  obtain ⟨z0, z1, z2, z3⟩ := y2 ⟨w5, Below.refl _ _⟩
  obtain ⟨q0, q1, q2, q3⟩ := y2 ⟨wa, hba⟩
  have q4 := y1' ⟨wa, hba⟩
  simp only at q0 q1 q2 q3 q4
  subst hv1 hv2
  clear y2 y1' hn0 hq1' hq4 m0 hb5 hba
  have HE5 := Lib.hid (HE4.out.later HB5.out)
  obtain ⟨g0, g1, g2, g3⟩ := HFA.out.cells
  have gl : ∀ j, wa.frozen? ⟨w5.heap.size, j, none⟩ = false := fun j => Lib.frozen_of_heap HFA.out j
  go_wp2_with fail
  clear HM0 HN0 HQ1 HQ2
  go_region
  go_wp2_with fail
  generalize hwb : World.drew _ = wb
  have HFB : Hid (BoxF wb w5.heap.size f.i f.n f.l f.d) := Lib.hid (by rw [← hwb]; exact boxF_lay HFA.out)
  have hkb : Kept (fun k => k = w5.heap.size) wa wb := by rw [← hwb]; exact boxF_kept.trans (Kept.of_below (Below.refl _ _).drew) (Grows.refl _ _)
  have HBB : Hid (Below w5.heap.size w5 wb) := Lib.hid (hkb.below HBA.out HBA.out.size (fun k h => by omega))
  clear hwb hkb g0 g1 g2 g3 gl z0 z1 z2 z3 q0 q1 q2 q3 q4
  have HM5 := Lib.hid ((HM4.out.later HB5.out).later HBB.out)
  have HKB := Lib.hid ((HK3.out.trans (Kept.of_below (O := busO b gn gm ws vl) HB5.out) (Grows.refl _ _)).trans (Kept.of_below (O := busO b gn gm ws vl) HBB.out) (Grows.refl _ _))
  have HSI : Hid (SlI wb u0 (natI P)) := Lib.hid ((((HP4.out.later HB5.out).later HBB.out)).sl intC_len (by rw [natI_len]; have := HPM.out.2.2; unfold maxLen; omega))
  refine (kbhap_v (k1 := 0) (k2 := 1) ent_sent ent_heard (fun c e h => kcsent_v h) (fun c e h => kcheard_v h) a P HM5.out (by show s.N1.length ≤ 32; unfold Bs.N1; rw [turnN_len]; exact HOK.out.n2) (by intro x hx; show x < s.N1.length; unfold Bs.N1; rw [turnN_len]; exact HPM.out.1 x hx) HPM.out.2.1 HPM.out.2.2 HSI.out (fun x L c hx hb => by have := HLT.out _ hb; have := HOP.out x.block (by rw [hx]; rfl); have := HK1.out.size; omega)).mono ?_
  rintro e w6 ⟨rfl, hm6, hk6⟩
  have hm6 : BkM w6 b gn gm D ws vl { s with N := hapL P a 0 1 s.N1, fx := s.fx1, sl := s.sl + 1 } := hm6
  rw [HN2.out] at hm6
  have HM6 := Lib.hid hm6
  have HK6 := Lib.hid hk6
  clear hm6 hk6
  have HE6 := Lib.hid (((HE4.out.later HB5.out).later HBB.out).kept HK6.out (fun h => by have := HLT.out _ h; omega))
  have HF6 : Hid (BoxF w6 w5.heap.size f.i f.n f.l f.d) := Lib.hid ((HK6.out.block _ HFB.out.lt (fun h => by have := HLT.out _ h; have := HK3.out.size; have := HB5.out.size; omega)).trans HFB.out)
  go_wp2_with fail
  refine (kbdrop_v w6 ⟨b, gn, gm, D, ws, vl, rfl, rfl, HM6.out⟩ a (by show a < (s.N2 false a).length; unfold Bs.N2 Bs.N1; rw [turnN_len, turnN_len]; exact ha) (by show (s.N2 false a).length ≤ 32; unfold Bs.N2 Bs.N1; rw [turnN_len, turnN_len]; exact HOK.out.n2)).mono ?_
  rintro e w7 ⟨rfl, O7, ⟨b', gn', gm', D', ws', vl', hp', rfl, hm7⟩, hk7, hg7⟩
  injection hp' with hp'
  injection hp' with hp'
  injection hp' with hp'
  subst hp'
  have HM7 := Lib.hid hm7
  have HK7 := Lib.hid hk7
  have HG7 := Lib.hid hg7
  have hz6 : w.heap.size ≤ w6.heap.size ∧ w5.heap.size < w6.heap.size ∧ w.heap.size + 1 < w6.heap.size := by
    have := HKB.out.size; have := HK6.out.size; have := HF6.out.lt; have := HE6.out.lt
    omega
  have HE7 := Lib.hid (HE6.out.kept hk7 (fun h => by have := HLT.out _ h; omega))
  have HF7 : Hid (BoxF w7 w5.heap.size f.i f.n f.l f.d) := Lib.hid ((hk7.block _ HF6.out.lt (fun h => by have := HLT.out _ h; have := HK3.out.size; have := HB5.out.size; omega)).trans HF6.out)
  have hno : ∀ k, w.heap.size ≤ k → k < w6.heap.size → ¬ busO b gn' gm' ws' vl' k := fun k h1 h2 h3 => by
    rcases hg7 k h3 with h4 | h4
    · have := HLT.out k h4; omega
    · omega
  have HNO := Lib.hid hno
  obtain ⟨A5, c5', hsh⟩ : ∃ A c, vl' = .slice A s.log.length c := hm7.log.shape
  subst hsh
  obtain ⟨c0, c1, c2, c3, c4, c5⟩ := hm7.cells
  obtain ⟨d0, d1, d2, d3⟩ := HF7.out.cells
  have fb := hm7.live 4
  have HRQ : Hid (RowQ lgC 6 w7 (.slice A5 s.log.length c5') s.log) := Lib.hid hm7.log
  have hzb : b < w7.heap.size := hm7.lt b (.inl rfl)
  have hnb : ¬ OwnO (Value.slice A5 s.log.length c5') b := hm7.f3.1
  have hzf := HF7.out.lt
  have hnf : ¬ OwnO (Value.slice A5 s.log.length c5') w5.heap.size := fun h => HNO.out w5.heap.size (by have := HK3.out.size; have := HB5.out.size; omega) hz6.2.1 (.inr (.inr (.inr (.inr h))))
  have HLL : Hid (s.log.length ≤ 100000) := Lib.hid (by have := HOK.out.lg; omega)
  clear hm7 hk7 hg7 hno
  clear hz6
  go_upto_region 17 with fail
  have hcb : ∀ (q : KLater (OwnO (.slice A5 s.log.length c5')) w7) (o : Nat), q.w.cell? ⟨b, o, none⟩ = w7.cell? ⟨b, o, none⟩ := fun q o => q.cell b o hzb hnb
  have hcf : ∀ (q : KLater (OwnO (.slice A5 s.log.length c5')) w7) (o : Nat), q.w.cell? ⟨w5.heap.size, o, none⟩ = w7.cell? ⟨w5.heap.size, o, none⟩ := fun q o => q.cell w5.heap.size o hzf hnf
  refine wp_region_st 13 [10] (AppQ lgC 6 (.slice A5 s.log.length c5') [⟨f, a, s.sl⟩] s.log w7 83 84) [83, 84] (AppQ.start HRQ.out) (by kernel_rfl) (by kernel_rfl) (by kernel_rfl) (by kernel_rfl) (by kernel_rfl) (by kernel_rfl) (by kernel_rfl) ?_
  simp only [List.take_succ_cons, List.take_zero, List.drop_succ_cons, List.drop_zero]
  repeat (refine st_plain (fun h => h.1) (by rfl) (by rfl) (by rfl) (by rfl) (by rfl) ?_; intro K hK; go_big_quiet_op; go_big_quiet_on)
  refine st_nil (fun h => h.1) (by rfl) (by rfl) (by rfl) (by rfl) (by rfl) (by rfl) ?_; intro K hK; go_big_quiet_op; go_big_quiet_on
  repeat (refine st_plain (fun h => h.1) (by rfl) (by rfl) (by rfl) (by rfl) (by rfl) ?_; intro K hK; go_big_quiet_op; go_big_quiet_on)
  refine st_new (s := 83) (mk := fun w => .slice (some ⟨w.heap.size, 0, none⟩) 1 1) (ob := fun _ => .cells (lgC ⟨f, a, s.sl⟩).toArray 53) (by rfl) (by rfl) (by rfl) (by rfl) (by rfl) (by rfl) (fun _ => by kernel_rfl) (AppQ.one lgC_len (by decide)) ?_
  simp only [Act.put, List.setIfInBounds_toArray, List.set_cons_succ, List.set_cons_zero]
  refine st_app (ts := 78) (tx := 83) (tr := 84) (L := s.log) (M := [⟨f, a, s.sl⟩]) flat_lg lgC_len lgC_one 0 (by rfl) (by rfl) (by rfl) (by rfl) (by rfl) (by rfl) (by rfl) (by decide) (by decide) (by rfl) AppQ.rd (by have := HLL.out; simp; omega) (fun xs w v' w' hG => AppQ.app xs w v' w' hG) ?_
  simp only [Act.put, List.setIfInBounds_toArray, List.set_cons_succ, List.set_cons_zero]
  refine st_nil (fun h => h.1) (by rfl) (by rfl) (by rfl) (by rfl) (by rfl) (by rfl) ?_; intro K hK; go_big_quiet_op; go_big_quiet_on
  repeat (refine st_plain (fun h => h.1) (by rfl) (by rfl) (by rfl) (by rfl) (by rfl) ?_; intro K hK; go_big_quiet_op; go_big_quiet_on)
  intro ys xs w8 hF h2
  have e84 := hF 84 (by simp)
  obtain ⟨k1', k2', k3'⟩ := AppQ.out h2 e84
  simp only [secFill]
  simp only [Act.put, List.setIfInBounds_toArray, List.set_cons_succ, List.set_cons_zero]
  generalize ys 84 = v8 at k2' k3' e84
  obtain ⟨A8, c8, h8⟩ : ∃ A c, v8 = .slice A (s.log.length + 1) c := by
    obtain ⟨A, c, h⟩ := k2'.shape
    exact ⟨A, c, by rw [h]; simp⟩
  subst h8
  obtain ⟨q1, q2, q3⟩ := HM7.out.setLog k2' k1' k3'
  obtain ⟨w9, e9⟩ : ∃ w9, w8.setCell ⟨b, 4, none⟩ (.slice A8 (s.log.length + 1) c8) = w9 := ⟨_, rfl⟩
  rw [e9] at q1 q2
  have HQ1' := Lib.hid q1
  have HQ2' := Lib.hid q2
  have HQ3' := Lib.hid q3
  have b4 : w8.cell? ⟨b, 4, none⟩ = some (.slice A5 s.log.length c5') := (k1'.cell (p := ⟨b, 4, none⟩) hzb hnb).trans c4
  have fb8 : w8.frozen? ⟨b, 4, none⟩ = false := (k1'.frozen (p := ⟨b, 4, none⟩) hzb hnb).trans fb
  have HE9 : Hid (EvB w9 (w.heap.size + 1) 0 0 frz) := Lib.hid (HE7.out.kept q2 (HNO.out _ (by omega) (by have := HE6.out.lt; omega)))
  have HF9 : Hid (BoxF w9 w5.heap.size f.i f.n f.l f.d) := Lib.hid ((q2.block _ HF7.out.lt (HNO.out _ (by have := HK3.out.size; have := HB5.out.size; omega) HF6.out.lt)).trans HF7.out)
  clear q1 q2 q3 k1' k2' k3' h2 hF e84 hcb hcf c0 c1 c2 c3 c4 c5 d0 d1 d2 d3 fb hzb hnb hzf hnf
  obtain ⟨d0, d1, d2, d3⟩ := HF9.out.cells
  obtain ⟨g0, g1, g2, g3, g4, g5⟩ := HE9.out.cells
  have gl := HE9.out.live
  have HFIN : Hid (∀ w', Kept (fun k => k = w.heap.size + 1) w9 w' → Stp BkD (.pointer (some ⟨b, 0, none⟩)) (busO b gn gm ws vl) w { s with N := s.N2 false a, fx := s.fx1, sl := s.sl + 1, W := s.W.set a (s.W.getD a []).tail, log := s.log ++ [⟨f, a, s.sl⟩] } w') := Lib.hid (fun w' hk' => by
    have s1 := HKB.out.size
    have s2 := HK6.out.size
    have s3 := HK7.out.size
    have s4 := HQ2'.out.size
    have s5 := HE6.out.lt
    have hgr : Grows (busO b gn gm ws vl) w (busO b gn' gm' ws' (.slice A8 (s.log.length + 1) c8)) := fun k hk => by
      rcases HQ3'.out k hk with h1 | h1
      · rcases HG7.out k h1 with h2 | h2
        · exact .inl h2
        · exact .inr (by omega)
      · exact .inr (by omega)
    have hno : ¬ busO b gn' gm' ws' (.slice A8 (s.log.length + 1) c8) (w.heap.size + 1) := fun h => by
      rcases HQ3'.out _ h with h1 | h1
      · exact HNO.out _ (by omega) (by omega) h1
      · omega
    refine ⟨_, ⟨b, gn', gm', D', ws', _, rfl, rfl, HQ1'.out.stay (fun k hk => hk'.block k (HQ1'.out.lt k hk) (fun e => hno (e ▸ hk)))⟩, ?_, hgr⟩
    refine ((((HKB.out.trans HK6.out (Grows.refl _ _)).trans HK7.out (Grows.refl _ _)).trans HQ2'.out (fun k hk => ?_))).trans hk' (fun k hk => .inr (by omega))
    rcases HG7.out k hk with h2 | h2
    · exact .inl h2
    · exact .inr (by omega))
  go_wp2_with fail
  generalize hw10 : (World.setCell _ ⟨w.heap.size + 1, 5, none⟩ _) = w10
  have HE10 : Hid (EvB w10 (w.heap.size + 1) 1 a f) := Lib.hid (by rw [← hw10]; exact ev_put HE9.out 1 a f)
  have HK10 : Hid (Kept (fun k => k = w.heap.size + 1) w9 w10) := Lib.hid (by rw [← hw10]; exact ev_kept _ _ _ _ _ _ _ _)
  clear hw10 g0 g1 g2 g3 g4 g5 gl d0 d1 d2 d3
  obtain ⟨g0, g1, g2, g3, g4, g5⟩ := HE10.out.cells
  refine bodyPost_ret (v := evV 1 a f) ?_ rfl ⟨rfl, HFIN.out _ HK10.out⟩
  simp [results, Tryd.results19, go_sem, g0, g1, g2, g3, g4, g5]
end Go.Proofs.YtpgfifacfkllfaaDoor

namespace Go.Proofs.YtpgfifacfkllfaaDoor
open Go.RowKit
set_option linter.unusedVariables false

/-- a bus, as the walks have it -/
def BkI (w : World) (v : Value) (s : Bs) (O : Nat → Prop) : Prop := BkD w v s O ∧ s.Ok ∧ s.sl ≤ 100001 ∧ TabO O
theorem isObj_bki : IsObj BkI where
  stay := by
    rintro w w' v s O ⟨h1, h2⟩ hs
    exact ⟨isObj_bk.stay h1 hs, h2⟩
  lt := by
    rintro w v s O ⟨h1, _⟩
    exact isObj_bk.lt h1
theorem TabO.fresh {O : Nat → Prop} {w : World} (hT : Tabs w) (h : ∀ k, O k → w.heap.size ≤ k) : TabO O := TabO.grows (O := fun _ => False) (by unfold TabO; simp) hT (fun k hk => .inr (h k hk))
theorem stp_bki {v : Value} {O : Nat → Prop} {w w' : World} {s' : Bs} (h : Stp BkD v O w s' w') (ok : s'.Ok) (hl : s'.sl ≤ 100001) (ho : TabO O) (hT : Tabs w) : Stp BkI v O w s' w' := by
  obtain ⟨O', h1, h2, h3⟩ := h
  exact ⟨O', ⟨h1, ok, hl, ho.grows hT h3⟩, h2, h3⟩
theorem busInst (hslot : ∀ {w v s O} (own : Fr) (has bad : Bool), BkI w v s O → s.Ok → s.sl ≤ 100000 → Tabs w → (-9223372036854775808 ≤ own.n ∧ own.n ≤ 9223372036854775807) → Calls Tryd.prog 19 #[v, frV own, .bool has, .bool bad] w fun e w' => e = .returned (evV (s.slot own has bad).2.1 (s.slot own has bad).2.2.1 (s.slot own has bad).2.2.2) ∧ Stp BkI v O w (s.slot own has bad).1 w') : BusI Tabs BkI where
  tab := fun h hb => h.below hb
  obj := isObj_bki
  ptr := by
    rintro w v s O ⟨⟨b, gn, gm, D, ws, vl, rfl, _, _⟩, _⟩
    exact ⟨_, rfl⟩
  new := fun n back w hb hT => (kbnew_v w).mono (by
    rintro e w' ⟨v, O, rfl, h1, h2, h3⟩
    exact ⟨v, O, rfl, ⟨h1, Bs.Ok.new n back hb, by show (0 : Int) ≤ 100001; omega, TabO.fresh hT h3⟩, h2, h3⟩)
  offer := by
    rintro w v s O i f ⟨h1, h2, h3, h4⟩ _ hT hn
    refine (kboffer_v w h1 hT rfl h2.n2 hn).mono ?_
    rintro e w' ⟨rfl, hs⟩
    exact ⟨rfl, stp_bki hs (h2.offer i f) (by unfold Bs.offer; split <;> (try split) <;> (try split) <;> exact h3) h4 hT⟩
  slot := hslot
  fix := by
    rintro w v s O ⟨h1, h2, h3, h4⟩ _ hT
    refine (kbfix_v w h1 (by have := h2.n1; omega) h2.n2).mono ?_
    rintro e w' ⟨rfl, hs⟩
    exact ⟨rfl, stp_bki hs h2.fix h3 h4 hT⟩
  conf := by
    rintro w v s O i c ⟨h1, h2, h3, h4⟩ hi
    exact kbconf_v w h1 i c hi h2.n2
  waits := by
    rintro w v s O i L ⟨h1, h2, h3, h4⟩ hi
    exact (kbwaits_v w h1 i L hi h2.n2 (h2.lenW L (List.mem_of_getElem? hi))).mono fun e w' ⟨u, he, ⟨x1, x2, _⟩, hb⟩ => ⟨u, he, ⟨x1, x2⟩, hb⟩
  log := by
    rintro w v s O ⟨h1, h2, h3, h4⟩
    exact (kblog_v w h1 (h2.log_le h3)).mono fun e w' ⟨u, he, ⟨x1, _, x3⟩, hb⟩ => ⟨u, he, ⟨x1, x3⟩, hb⟩
  slots := by
    rintro w v s O ⟨h1, h2, h3, h4⟩
    exact kbslots_v w h1
  nodes := by
    rintro w v s O ⟨h1, h2, h3, h4⟩
    exact kbnodes_v w h1
end Go.Proofs.YtpgfifacfkllfaaDoor

namespace Go.Proofs.YtpgfifacfkllfaaDoor
open Go.RowKit
set_option linter.unusedVariables false

theorem slot_cases {s : Bs} (ok : s.Ok) (own : Fr) (has : Bool) :
    (s.offs own has s.N.length = [] ∧ ∀ bad, s.slot own has bad = ({ s with N := s.N1, fx := s.fx1, sl := s.sl + 1 }, 0, 0, frz)) ∨
    ∃ (m a : Nat) (f : Fr), (s.offs own has s.N.length)[m]? = some (a, f) ∧ a < s.N.length ∧ leastIx (s.ofF own has s.N.length) (s.ofF own has s.N.length).length = some m ∧
      s.slot own has true = ({ s with N := s.N2 true a, fx := s.fx1, sl := s.sl + 1 }, (2 : Int), (a : Int), f) ∧
      s.slot own has false = ({ s with N := s.N2 false a, fx := s.fx1, sl := s.sl + 1, W := s.W.set a (s.W.getD a []).tail, log := s.log ++ [(⟨f, (a : Int), s.sl⟩ : Lg)] }, (1 : Int), (a : Int), f) := by
  rcases best_at own has (fun i h => ok.key h) s.N.length with ⟨h1, h2⟩ | ⟨m, a, f, h1, h2, h3, h4⟩
  · refine .inl ⟨h1, fun bad => ?_⟩
    unfold Bs.slot
    rw [h2, if_pos (by decide)]
  · refine .inr ⟨m, a, f, h1, h3, leastIx_of ?_ h4, ?_, ?_⟩
    · have hm : m < (s.offs own has s.N.length).length := (List.getElem?_eq_some_iff.1 h1).1
      unfold Bs.ofF; simpa using hm
    · unfold Bs.slot
      rw [h2, if_neg (by simp), if_pos rfl]
    · unfold Bs.slot
      rw [h2, if_neg (by simp), if_neg (by decide)]
      by_cases ha : 0 < a
      · simp only [Int.toNat_natCast]
        rw [if_pos (by omega)]
      · obtain rfl : a = 0 := by omega
        simp only [Int.toNat_natCast]
        rw [if_neg (by omega), ok.w0]
        have e : s.W.set 0 ([] : List Fr).tail = s.W := by
          have hw := ok.w0
          cases hW : s.W with
          | nil => rfl
          | cons x M => rw [hW] at hw; simp at hw; subst hw; rfl
        rw [e]
end Go.Proofs.YtpgfifacfkllfaaDoor

namespace Go.Proofs.YtpgfifacfkllfaaDoor
open Go.RowKit
set_option linter.unusedVariables false

theorem hslot_bki {w : World} {v : Value} {s : Bs} {O : Nat → Prop} (own : Fr) (has bad : Bool) (h : BkI w v s O) (ok : s.Ok) (hsl : s.sl ≤ 100000) (hT : Tabs w) (hn : -9223372036854775808 ≤ own.n ∧ own.n ≤ 9223372036854775807) :
    Calls Tryd.prog 19 #[v, frV own, .bool has, .bool bad] w fun e w' => e = .returned (evV (s.slot own has bad).2.1 (s.slot own has bad).2.2.1 (s.slot own has bad).2.2.2) ∧ Stp BkI v O w (s.slot own has bad).1 w' := by
  obtain ⟨h1, _, _, h4⟩ := h
  have hok := ok.slot own has bad
  rcases slot_cases ok own has with ⟨h0, h5⟩ | ⟨m, a, f, h5, h6, h7, h8, h9⟩
  · rw [h5 bad] at hok ⊢
    exact (kbslot0_v own has bad w h1 ok hT hsl hn h4 h0).mono (fun e w' h => ⟨h.1, stp_bki h.2 hok (by show s.sl + 1 ≤ 100001; omega) h4 hT⟩)
  · cases bad
    · rw [h9] at hok ⊢
      exact (kbslot1_v own has w h1 ok hT hsl hn h4 h5 h6 h7).mono (fun e w' h => ⟨h.1, stp_bki h.2 hok (by show s.sl + 1 ≤ 100001; omega) h4 hT⟩)
    · rw [h8] at hok ⊢
      exact (kbslot2_v own has w h1 ok hT hsl hn h4 h5 h6 h7).mono (fun e w' h => ⟨h.1, stp_bki h.2 hok (by show s.sl + 1 ≤ 100001; omega) h4 hT⟩)
theorem busReal : BusI Tabs BkI := busInst hslot_bki
end Go.Proofs.YtpgfifacfkllfaaDoor
