/- Drv: the law's do, the kinds whose region draws its order. Printed by gen_do.py. Drv: the law's do: of any kind; what it keeps. Printed by gen_do.py. Drv, pl .. -/
import Derived.Test.YtimdkcchjanpaaaGreatDoorZbh
import Derived.Test.YtimdkcchjanpaaaGreatDoorZay
import Derived.Test.YtimdkcchjanpaaaGreatDoorZba
set_option maxHeartbeats 8000000
namespace Go.Proofs.YtimdkcchjanpaaaGreatDoor
open Go.RowKit
set_option linter.unusedVariables false
section
variable {I:World → Value → Dr → (Nat → Prop) → Prop} {w0 w1 w:World} {v cp qp:Value} {g:Nat} {s s' t:Dr} {ct':Ct} {O Oc Oq:Nat → Prop} {xs:Tmp → Option Value}
theorem DrM.pairC (h:Pair I DrD w0 v (.pointer (some ⟨g,0,none⟩)) s t O (drO g Oc Oq) w1) (hm:DrM w1 g cp qp Oc Oq t):Pair I CtD w0 v cp s t.ct O Oc w1 :=
  ⟨h.a,⟨hm.ct,h.b.below,fun k hk => h.b.new k (.inr (.inl hk))⟩,fun k a b => h.ap k a (.inr (.inl b))⟩
theorem DrM.pairD (hI:IsObj I) (h:Pair I DrD w0 v (.pointer (some ⟨g,0,none⟩)) s t O (drO g Oc Oq) w1) (hm:DrM w1 g cp qp Oc Oq t) (h9:PairC I CtD w0 w1 (fun k => O k ∨ Oc k) v cp (fun _ => none) s' ct' xs w) :
    ∃ O1 O2,Pair I DrD w0 v (.pointer (some ⟨g,0,none⟩)) s' { t with ct:=ct' } O1 O2 w ∧ Kept (fun k => O k ∨ drO g Oc Oq k) w1 w ∧ Grows (fun k => O k ∨ drO g Oc Oq k) w1 O1 ∧ Grows (fun k => O k ∨ drO g Oc Oq k) w1 O2:=by
  obtain ⟨O1,Oc1,hp,hk,hg1,hg2, -⟩:=h9
  have lg:=hm.blt
  have lq:=isObj_bq.lt hm.q
  have ng:¬ (O g ∨ Oc g):=fun hh => by
    rcases hh with hh | hh
    · exact h.ap g hh (.inl rfl)
    · exact hm.h1 hh
  have nq:∀ k,Oq k → ¬ (O k ∨ Oc k):=fun k hq hh => by
    rcases hh with hh | hh
    · exact h.ap k hh (.inr (.inr hq))
    · exact hm.h3 k hh hq
  have hw:∀ k,(O k ∨ Oc k) → (O k ∨ drO g Oc Oq k):=fun k hh => hh.imp id (fun h => .inr (.inl h))
  have hk2:Kept (fun k => O k ∨ drO g Oc Oq k) w1 w:=⟨hk.os,hk.tape,hk.output,hk.size,fun k h1 h2 => hk.block k h1 (fun h3 => h2 (hw k h3))⟩
  have hM:DrM w g cp qp Oc1 Oq { t with ct:=ct' }:=⟨(hk.block g lg ng).trans hm.box,hp.b.inv,isObj_bq.stay hm.q (fun k hq => hk.block k (lq k hq) (nq k hq)),fun hh => by
      rcases hg2 g hh with h1 | h1
      · exact ng h1
      · omega,hm.h2,fun k a b => by
      rcases hg2 k a with h1 | h1
      · exact nq k b h1
      · have:=lq k b; omega⟩
  refine ⟨O1,drO g Oc1 Oq,⟨hp.a,⟨⟨g,cp,qp,Oc1,Oq,rfl,rfl,hM⟩,hp.b.below,fun k hh => ?_⟩,fun k a b => ?_⟩,hk2,fun k hh => (hg1 k hh).imp (hw k) id,fun k hh => ?_⟩
  · rcases hh with rfl | hh | hh
    · exact h.b.new k (.inl rfl)
    · exact hp.b.new k hh
    · exact h.b.new k (.inr (.inr hh))
  · rcases b with rfl | b | b
    · rcases hg1 k a with h1 | h1
      · exact ng h1
      · omega
    · exact hp.ap k a b
    · rcases hg1 k a with h1 | h1
      · exact nq k b h1
      · have:=lq k b; omega
  · rcases hh with rfl | hh | hh
    · exact .inl (.inr (.inl rfl))
    · exact (hg2 k hh).imp (hw k) id
    · exact .inl (.inr (.inr (.inr hh)))
end
set_option maxRecDepth 4000 in
theorem ddo_send {T:World → Prop} {I:World → Value → Dr → (Nat → Prop) → Prop} (A:DrvI T I) {w0 w:World} {v:Value} {g:Nat} {s t:Dr} {O O':Nat → Prop} {m B:Int} {p:Pk} (h:Pair I DrD w0 v (.pointer (some ⟨g,0,none⟩)) s t O O' w) (hs:DoPre w0 s B) (ht:DoPre w0 t B) (hB:B ≤ 1000000) (hT:T w0) (hp:p.ok) (hm : -9223372036854775808 ≤ m ∧ m ≤ 9223372036854775807) :
    Calls Tryz.prog 12 #[v, .pointer (some ⟨g,0,none⟩),opV9 ⟨0,m,p⟩] w (DoPostD I w0 v (.pointer (some ⟨g,0,none⟩)) s t ⟨0,m,p⟩ (fun k => O k ∨ O' k) w):=by
  have HA:=Lib.hid A
  have HT:=Lib.hid hT
  have HS:=Lib.hid hs
  have HS2:=Lib.hid ht
  have HB:=Lib.hid hB
  have HPO:=Lib.hid hp
  have HMO:=Lib.hid hm
  have hb0:=(Below.refl w.heap.size w).alloc (Nat.le_refl _) (.cells #[.int .i64 0, .int .i64 m, .int .i64 p.f.i, .int .i64 p.f.n, .int .i64 p.f.l, .string p.f.d, .int .i64 p.fr, .int .i64 p.tag, .bool p.lp] 39)
  have H0:=Lib.hid (h.later A.obj isObj_dr hb0)
  have HW1:=Lib.hid hb0
  have HB0:=Lib.hid (DrvO9.made w ⟨0,m,p⟩)
  have HNO:Hid (¬ (O w.heap.size ∨ O' w.heap.size)):=Lib.hid (fun hh => by
    rcases hh with hh | hh
    · have:=A.obj.lt h.a.inv _ hh; omega
    · have:=isObj_dr.lt h.b.inv _ hh; omega)
  have HZ:Hid (w.heap.size < (w.alloc (.cells #[.int .i64 0, .int .i64 m, .int .i64 p.f.i, .int .i64 p.f.n, .int .i64 p.f.l, .string p.f.d, .int .i64 p.fr, .int .i64 p.tag, .bool p.lp] 39)).heap.size):=Lib.hid (by simp)
  clear A hT hs ht hB hp h hb0 hm
  go_enter Tryz.func12,Tryz.ntmps12
  go_upto_region 3 with fail
  generalize w.alloc (.cells #[.int .i64 0, .int .i64 m, .int .i64 p.f.i, .int .i64 p.f.n, .int .i64 p.f.l, .string p.f.d, .int .i64 p.fr, .int .i64 p.tag, .bool p.lp] 39) = w1 at H0 HB0 HZ HW1 ⊢
  generalize w.heap.size = b at HB0 HNO HZ ⊢
  obtain ⟨a0,a1,a2,a3,a4,a5,a6,a7,a8⟩:=HB0.out.cells
  simp only at a0 a1 a2 a3 a4 a5 a6 a7 a8
  have hcl:∀ (n:KLater (fun k => O k ∨ O' k) w1) (o:Nat),n.w.cell? ⟨b,o,none⟩ = w1.cell? ⟨b,o,none⟩:=fun n o => n.cell b o HZ.out HNO.out
  obtain ⟨X,hX⟩:∃ X,s.send m p = X:=⟨_,rfl⟩
  have HX:=Lib.hid hX
  obtain ⟨sX,eX⟩:=X
  obtain ⟨Y,hY⟩:∃ Y,t.send m p = Y:=⟨_,rfl⟩
  have HY:=Lib.hid hY
  obtain ⟨sY,eY⟩:=Y
  clear hX hY
  have HD:Hid (s.doOp ⟨0,m,p⟩ = (s.send m p).1):=Lib.hid (by unfold Dr.doOp; simp only [if_true])
  have HE:Hid (t.doOp ⟨0,m,p⟩ = (t.send m p).1):=Lib.hid (by unfold Dr.doOp; simp only [if_true])
  refine wp_region_st 12 [5,11] (PairS I DrD w0 w1 (fun k => O k ∨ O' k) v (.pointer (some ⟨g,0,none⟩)) (fun _ => none) s sX t sY) [] (PairC.mk HA.out.obj isObj_dr H0.out) (by kernel_rfl) (by kernel_rfl) (by kernel_rfl) (by kernel_rfl) (by kernel_rfl) (by kernel_rfl) (by kernel_rfl) ?_
  simp only [List.take_succ_cons,List.take_zero,List.drop_succ_cons,List.drop_zero]
  repeat ((first | refine st_plain (fun h => PairS.kept h) (by rfl) (by rfl) (by rfl) (by rfl) (by rfl) ?_ | refine st_nil (fun h => PairS.kept h) (by rfl) (by rfl) (by rfl) (by rfl) (by rfl) (by rfl) ?_); intro K hK; go_big_quiet_op; go_big_quiet_on)
  refine st_step (f:=10) (args := #[v, .int .i64 m,pkV p]) (v := .int .i64 eX) 0 (by rfl) (by rfl) (by rfl) (by rfl) (by rfl) (fun w => by simp [go_sem]) (fun xs9 w9 h9 => ?_) ?_
  · obtain ⟨O1,O2,hp,hk,hg1,hg2,hh⟩:=h9
    refine (HA.out.send m p hp.a.inv HS.out.ok (HA.out.tab HT.out hp.a.below) HPO.out).mono ?_
    rintro e w' ⟨he,hs⟩
    rw [HX.out] at he hs
    exact ⟨he,PairC.stepA HA.out.obj isObj_dr hp hk hg1 hg2 hh hs⟩
  simp only [Act.put,List.setIfInBounds_toArray,List.set_cons_succ,List.set_cons_zero]
  repeat ((first | refine st_plain (fun h => PairS.kept h) (by rfl) (by rfl) (by rfl) (by rfl) (by rfl) ?_ | refine st_nil (fun h => PairS.kept h) (by rfl) (by rfl) (by rfl) (by rfl) (by rfl) (by rfl) ?_); intro K hK; go_big_quiet_op; go_big_quiet_on)
  refine st_step (f:=42) (args := #[.pointer (some ⟨g,0,none⟩), .int .i64 m,pkV p]) (v := .int .i64 eY) 1 (by rfl) (by rfl) (by rfl) (by rfl) (by rfl) (fun w => by simp [go_sem]) (fun xs9 w9 h9 => ?_) ?_
  · obtain ⟨O1,O2,hp,hk,hg1,hg2,hh⟩:=h9
    refine (xdsend_v m p hp.b.inv HS2.out.ok).mono ?_
    rintro e w' ⟨he,hs⟩
    rw [HY.out] at he hs
    exact ⟨he,PairC.stepB HA.out.obj isObj_dr hp hk hg1 hg2 hh hs⟩
  simp only [Act.put,List.setIfInBounds_toArray,List.set_cons_succ,List.set_cons_zero]
  repeat ((first | refine st_plain (fun h => PairS.kept h) (by rfl) (by rfl) (by rfl) (by rfl) (by rfl) ?_ | refine st_nil (fun h => PairS.kept h) (by rfl) (by rfl) (by rfl) (by rfl) (by rfl) (by rfl) ?_); intro K hK; go_big_quiet_op; go_big_quiet_on)
  intro ys xs w9 hF h9
  simp only [secFill]
  clear hF hcl a0 a1 a2 a3 a4 a5 a6 a7 a8
  have H9:=Lib.hid h9
  clear h9
  go_wp2
  go_ret
  obtain ⟨O1,O2,hp,hkp,hg1,hg2,_⟩:=H9.out
  exact ⟨_,O1,O2,rfl,fun hh => by subst hh; have e:=HX.out.symm.trans HY.out; simp only [Prod.mk.injEq] at e; simp [e.2],by rw [HD.out,HE.out,HX.out,HY.out]; exact hp,kept_from HW1.out hkp,grows_from HW1.out hg1,grows_from HW1.out hg2⟩
set_option maxRecDepth 4000 in
theorem ddo_won {T:World → Prop} {I:World → Value → Dr → (Nat → Prop) → Prop} (A:DrvI T I) {w0 w:World} {v:Value} {g:Nat} {s t:Dr} {O O':Nat → Prop} {m B:Int} {p:Pk} (h:Pair I DrD w0 v (.pointer (some ⟨g,0,none⟩)) s t O O' w) (hs:DoPre w0 s B) (ht:DoPre w0 t B) (hB:B ≤ 1000000) (hT:T w0) (hp:p.ok) (hm : -9223372036854775808 ≤ m ∧ m ≤ 9223372036854775807) :
    Calls Tryz.prog 12 #[v, .pointer (some ⟨g,0,none⟩),opV9 ⟨3,m,p⟩] w (DoPostD I w0 v (.pointer (some ⟨g,0,none⟩)) s t ⟨3,m,p⟩ (fun k => O k ∨ O' k) w):=by
  have HA:=Lib.hid A
  have HT:=Lib.hid hT
  have HS:=Lib.hid hs
  have HS2:=Lib.hid ht
  have HB:=Lib.hid hB
  have HPO:=Lib.hid hp
  have HMO:=Lib.hid hm
  have hb0:=(Below.refl w.heap.size w).alloc (Nat.le_refl _) (.cells #[.int .i64 3, .int .i64 m, .int .i64 p.f.i, .int .i64 p.f.n, .int .i64 p.f.l, .string p.f.d, .int .i64 p.fr, .int .i64 p.tag, .bool p.lp] 39)
  have H0:=Lib.hid (h.later A.obj isObj_dr hb0)
  have HW1:=Lib.hid hb0
  have HB0:=Lib.hid (DrvO9.made w ⟨3,m,p⟩)
  have HNO:Hid (¬ (O w.heap.size ∨ O' w.heap.size)):=Lib.hid (fun hh => by
    rcases hh with hh | hh
    · have:=A.obj.lt h.a.inv _ hh; omega
    · have:=isObj_dr.lt h.b.inv _ hh; omega)
  have HZ:Hid (w.heap.size < (w.alloc (.cells #[.int .i64 3, .int .i64 m, .int .i64 p.f.i, .int .i64 p.f.n, .int .i64 p.f.l, .string p.f.d, .int .i64 p.fr, .int .i64 p.tag, .bool p.lp] 39)).heap.size):=Lib.hid (by simp)
  clear A hT hs ht hB hp h hb0 hm
  go_enter Tryz.func12,Tryz.ntmps12
  go_upto_region 13 with fail
  generalize w.alloc (.cells #[.int .i64 3, .int .i64 m, .int .i64 p.f.i, .int .i64 p.f.n, .int .i64 p.f.l, .string p.f.d, .int .i64 p.fr, .int .i64 p.tag, .bool p.lp] 39) = w1 at H0 HB0 HZ HW1 ⊢
  generalize w.heap.size = b at HB0 HNO HZ ⊢
  obtain ⟨a0,a1,a2,a3,a4,a5,a6,a7,a8⟩:=HB0.out.cells
  simp only at a0 a1 a2 a3 a4 a5 a6 a7 a8
  obtain ⟨cp,qp,Oc,Oq,rfl,hm⟩:=H0.out.b.inv.parts
  have HM:=Lib.hid hm
  obtain ⟨q8,q9,q10, -⟩:=hm.cells
  have hgz:=Lib.hid hm.blt
  have hng:Hid (¬ (O g ∨ Oc g)):=Lib.hid (fun hh => by
    rcases hh with hh | hh
    · exact H0.out.ap g hh (.inl rfl)
    · exact hm.h1 hh)
  have hnb:Hid (¬ (O b ∨ Oc b)):=Lib.hid (fun hh => HNO.out (hh.imp id (fun h => .inr (.inl h))))
  clear hm
  have hcl:∀ (n:KLater (fun k => O k ∨ Oc k) w1) (o:Nat),n.w.cell? ⟨b,o,none⟩ = w1.cell? ⟨b,o,none⟩:=fun n o => n.cell b o HZ.out hnb.out
  have hcg:∀ (n:KLater (fun k => O k ∨ Oc k) w1) (o:Nat),n.w.cell? ⟨g,o,none⟩ = w1.cell? ⟨g,o,none⟩:=fun n o => n.cell g o hgz.out hng.out
  have HP:=Lib.hid (HM.out.pairC H0.out)
  obtain ⟨X,hX⟩:∃ X,s.won = X:=⟨_,rfl⟩
  have HX:=Lib.hid hX
  obtain ⟨sX,eX⟩:=X
  obtain ⟨sY,hY1⟩:∃ Y,t.ct.won = Y:=⟨_,rfl⟩
  have HY1:=Lib.hid hY1
  obtain ⟨eY,hY2⟩:∃ Y,t.ct.off.2 = Y:=⟨_,rfl⟩
  have HY2:=Lib.hid hY2
  clear hX hY1 hY2
  have HD:Hid (s.doOp ⟨3,m,p⟩ = s.won.1):=Lib.hid (by unfold Dr.doOp; simp only [show ¬ ((3:Int) = 0) by decide,show ¬ ((3:Int) = 1) by decide,show ¬ ((3:Int) = 2) by decide,if_true,if_false])
  have HE:Hid (t.doOp ⟨3,m,p⟩ = t.won.1):=Lib.hid (by unfold Dr.doOp; simp only [show ¬ ((3:Int) = 0) by decide,show ¬ ((3:Int) = 1) by decide,show ¬ ((3:Int) = 2) by decide,if_true,if_false])
  by_cases hst:t.st = 1
  · rw [hst] at q10
    refine wp_region_sl 13 [1,12] [0,0,0,0,0,0,0,1,1,1,1,1,1] (PairS I CtD w0 w1 (fun k => O k ∨ Oc k) v cp (fun _ => none) s sX t.ct sY) [] (PairC.mk HA.out.obj isObj_ct HP.out) (by kernel_rfl) (by kernel_rfl) (by kernel_rfl) (by kernel_rfl) (by kernel_rfl) (by kernel_rfl) (by kernel_rfl) (by kernel_rfl) ?_
    simp only [List.take_succ_cons,List.take_zero,List.drop_succ_cons,List.drop_zero]
    repeat ((first | refine sl_plain (O:=fun k => O k ∨ Oc k) (fun h => PairS.kept h) (by rfl) (by rfl) (by rfl) (by rfl) (by rfl) ?_ | refine sl_nil (O:=fun k => O k ∨ Oc k) (fun h => PairS.kept h) (by rfl) (by rfl) (by rfl) (by rfl) (by rfl) (by rfl) ?_); intro K hK; go_big_quiet_op; go_big_quiet_on)
    refine sl_step (f:=17) (args := #[v]) (v := .bool eX) 0 (by rfl) (by rfl) (by rfl) (by rfl) (by rfl) (fun w => by simp [go_sem]) (fun xs9 w9 h9 => ?_) ?_
    · obtain ⟨O1,O2,hp,hk,hg1,hg2,hh⟩:=h9
      refine (HA.out.won hp.a.inv HS.out.ok (HA.out.tab HT.out hp.a.below)).mono ?_
      rintro e w' ⟨he,hs⟩
      rw [HX.out] at he hs
      exact ⟨he,PairC.stepA HA.out.obj isObj_ct hp hk hg1 hg2 hh hs⟩
    simp only [Act.put,List.setIfInBounds_toArray,List.set_cons_succ,List.set_cons_zero]
    repeat ((first | refine sl_plain (O:=fun k => O k ∨ Oc k) (fun h => PairS.kept h) (by rfl) (by rfl) (by rfl) (by rfl) (by rfl) ?_ | refine sl_nil (O:=fun k => O k ∨ Oc k) (fun h => PairS.kept h) (by rfl) (by rfl) (by rfl) (by rfl) (by rfl) (by rfl) ?_); intro K hK; go_big_quiet_op; go_big_quiet_on)
    refine sl_step (f:=45) (args := #[cp]) (v := .bool eY) 1 (by rfl) (by rfl) (by rfl) (by rfl) (by rfl) (fun w => by simp [go_sem]) (fun xs9 w9 h9 => ?_) ?_
    · obtain ⟨O1,O2,hp,hk,hg1,hg2,hh⟩:=h9
      refine (xwon_v _ hp.b.inv HS2.out.ok.ct).mono ?_
      rintro e w' ⟨he,hs⟩
      rw [HY1.out] at hs; rw [HY2.out] at he
      exact ⟨he,PairC.stepB HA.out.obj isObj_ct hp hk hg1 hg2 hh hs⟩
    simp only [Act.put,List.setIfInBounds_toArray,List.set_cons_succ,List.set_cons_zero]
    repeat ((first | refine sl_plain (O:=fun k => O k ∨ Oc k) (fun h => PairS.kept h) (by rfl) (by rfl) (by rfl) (by rfl) (by rfl) ?_ | refine sl_nil (O:=fun k => O k ∨ Oc k) (fun h => PairS.kept h) (by rfl) (by rfl) (by rfl) (by rfl) (by rfl) (by rfl) ?_); intro K hK; go_big_quiet_op; go_big_quiet_on)
    intro ys xs w9 hF h9
    simp only [secFill]
    clear hF hcl hcg a0 a1 a2 a3 a4 a5 a6 a7 a8 q8 q9 q10
    have H9:=Lib.hid h9
    clear h9
    go_wp2
    go_ret
    obtain ⟨O1,O2,hp,hkp,hg1,hg2⟩:=DrM.pairD HA.out.obj H0.out HM.out H9.out
    have et:t.won = (({ t with ct:=sY }:Dr),eY):=by unfold Dr.won; rw [if_pos hst]; simp only [HY1.out,HY2.out]
    exact ⟨_,O1,O2,rfl,fun hh => by subst hh; have e:=HX.out.symm.trans et; simp only [Prod.mk.injEq] at e; simp [e.2],by rw [HD.out,HE.out,HX.out,et]; exact hp,kept_from HW1.out hkp,grows_from HW1.out hg1,grows_from HW1.out hg2⟩
  · refine wp_region_sl 13 [1] [0,0,0,0,0,0,0,1,1,1,1,1,1] (PairS I CtD w0 w1 (fun k => O k ∨ Oc k) v cp (fun _ => none) s sX t.ct sY) [] (PairC.mk HA.out.obj isObj_ct HP.out) (by kernel_rfl) (by kernel_rfl) (by kernel_rfl) (by kernel_rfl) (by kernel_rfl) (by kernel_rfl) (by kernel_rfl) (by kernel_rfl) ?_
    simp only [List.take_succ_cons,List.take_zero,List.drop_succ_cons,List.drop_zero]
    repeat ((first | refine sl_plain (O:=fun k => O k ∨ Oc k) (fun h => PairS.kept h) (by rfl) (by rfl) (by rfl) (by rfl) (by rfl) ?_ | refine sl_nil (O:=fun k => O k ∨ Oc k) (fun h => PairS.kept h) (by rfl) (by rfl) (by rfl) (by rfl) (by rfl) (by rfl) ?_); intro K hK; go_big_quiet_op; go_big_quiet_on)
    refine sl_step (f:=17) (args := #[v]) (v := .bool eX) 0 (by rfl) (by rfl) (by rfl) (by rfl) (by rfl) (fun w => by simp [go_sem]) (fun xs9 w9 h9 => ?_) ?_
    · obtain ⟨O1,O2,hp,hk,hg1,hg2,hh⟩:=h9
      refine (HA.out.won hp.a.inv HS.out.ok (HA.out.tab HT.out hp.a.below)).mono ?_
      rintro e w' ⟨he,hs⟩
      rw [HX.out] at he hs
      exact ⟨he,PairC.stepA HA.out.obj isObj_ct hp hk hg1 hg2 hh hs⟩
    simp only [Act.put,List.setIfInBounds_toArray,List.set_cons_succ,List.set_cons_zero]
    repeat ((first | refine sl_plain (O:=fun k => O k ∨ Oc k) (fun h => PairS.kept h) (by rfl) (by rfl) (by rfl) (by rfl) (by rfl) ?_ | refine sl_nil (O:=fun k => O k ∨ Oc k) (fun h => PairS.kept h) (by rfl) (by rfl) (by rfl) (by rfl) (by rfl) (by rfl) ?_); intro K hK; go_big_quiet_op; go_big_quiet_on)
    have hbf:(t.st == 1) = false:=by simpa using hst
    first | simp only [hbf] | simp only [decide_eq_false hst] | skip
    repeat (refine sl_skip (by rfl) (by rfl) (by rfl) ?_; simp only [Act.put,List.setIfInBounds_toArray,List.set_cons_succ,List.set_cons_zero])
    intro ys xs w9 hF h9
    simp only [secFill]
    clear hF hcl hcg a0 a1 a2 a3 a4 a5 a6 a7 a8 q8 q9 q10
    have H9:=Lib.hid h9
    clear h9
    go_wp2
    go_ret
    obtain ⟨O1,O2,hp,hkp,hg1,hg2⟩:=DrM.pairD HA.out.obj H0.out HM.out H9.out
    have et:t.won = (t,false):=by unfold Dr.won; rw [if_neg hst]
    exact ⟨_,O1,O2,rfl,fun hh => by subst hh; have e:=HX.out.symm.trans et; simp only [Prod.mk.injEq] at e; simp [e.2],by rw [HD.out,HE.out,HX.out,et]; exact hp,kept_from HW1.out hkp,grows_from HW1.out hg1,grows_from HW1.out hg2⟩
set_option maxRecDepth 4000 in
theorem ddo_hear {T:World → Prop} {I:World → Value → Dr → (Nat → Prop) → Prop} (A:DrvI T I) {w0 w:World} {v:Value} {g:Nat} {s t:Dr} {O O':Nat → Prop} {m B:Int} {p:Pk} (h:Pair I DrD w0 v (.pointer (some ⟨g,0,none⟩)) s t O O' w) (hs:DoPre w0 s B) (ht:DoPre w0 t B) (hB:B ≤ 1000000) (hT:T w0) (hp:p.ok) (hm : -9223372036854775808 ≤ m ∧ m ≤ 9223372036854775807) :
    Calls Tryz.prog 12 #[v, .pointer (some ⟨g,0,none⟩),opV9 ⟨4,m,p⟩] w (DoPostD I w0 v (.pointer (some ⟨g,0,none⟩)) s t ⟨4,m,p⟩ (fun k => O k ∨ O' k) w):=by
  have HA:=Lib.hid A
  have HT:=Lib.hid hT
  have HS:=Lib.hid hs
  have HS2:=Lib.hid ht
  have HB:=Lib.hid hB
  have HPO:=Lib.hid hp
  have HMO:=Lib.hid hm
  have hb0:=(Below.refl w.heap.size w).alloc (Nat.le_refl _) (.cells #[.int .i64 4, .int .i64 m, .int .i64 p.f.i, .int .i64 p.f.n, .int .i64 p.f.l, .string p.f.d, .int .i64 p.fr, .int .i64 p.tag, .bool p.lp] 39)
  have H0:=Lib.hid (h.later A.obj isObj_dr hb0)
  have HW1:=Lib.hid hb0
  have HB0:=Lib.hid (DrvO9.made w ⟨4,m,p⟩)
  have HNO:Hid (¬ (O w.heap.size ∨ O' w.heap.size)):=Lib.hid (fun hh => by
    rcases hh with hh | hh
    · have:=A.obj.lt h.a.inv _ hh; omega
    · have:=isObj_dr.lt h.b.inv _ hh; omega)
  have HZ:Hid (w.heap.size < (w.alloc (.cells #[.int .i64 4, .int .i64 m, .int .i64 p.f.i, .int .i64 p.f.n, .int .i64 p.f.l, .string p.f.d, .int .i64 p.fr, .int .i64 p.tag, .bool p.lp] 39)).heap.size):=Lib.hid (by simp)
  clear A hT hs ht hB hp h hb0 hm
  go_enter Tryz.func12,Tryz.ntmps12
  go_upto_region 15 with fail
  generalize w.alloc (.cells #[.int .i64 4, .int .i64 m, .int .i64 p.f.i, .int .i64 p.f.n, .int .i64 p.f.l, .string p.f.d, .int .i64 p.fr, .int .i64 p.tag, .bool p.lp] 39) = w1 at H0 HB0 HZ HW1 ⊢
  generalize w.heap.size = b at HB0 HNO HZ ⊢
  obtain ⟨a0,a1,a2,a3,a4,a5,a6,a7,a8⟩:=HB0.out.cells
  simp only at a0 a1 a2 a3 a4 a5 a6 a7 a8
  obtain ⟨cp,qp,Oc,Oq,rfl,hm⟩:=H0.out.b.inv.parts
  have HM:=Lib.hid hm
  obtain ⟨q8,q9,q10, -⟩:=hm.cells
  have hgz:=Lib.hid hm.blt
  have hng:Hid (¬ (O g ∨ Oc g)):=Lib.hid (fun hh => by
    rcases hh with hh | hh
    · exact H0.out.ap g hh (.inl rfl)
    · exact hm.h1 hh)
  have hnb:Hid (¬ (O b ∨ Oc b)):=Lib.hid (fun hh => HNO.out (hh.imp id (fun h => .inr (.inl h))))
  clear hm
  have hcl:∀ (n:KLater (fun k => O k ∨ Oc k) w1) (o:Nat),n.w.cell? ⟨b,o,none⟩ = w1.cell? ⟨b,o,none⟩:=fun n o => n.cell b o HZ.out hnb.out
  have hcg:∀ (n:KLater (fun k => O k ∨ Oc k) w1) (o:Nat),n.w.cell? ⟨g,o,none⟩ = w1.cell? ⟨g,o,none⟩:=fun n o => n.cell g o hgz.out hng.out
  have HP:=Lib.hid (HM.out.pairC H0.out)
  obtain ⟨X,hX⟩:∃ X,s.hear p.f = X:=⟨_,rfl⟩
  have HX:=Lib.hid hX
  obtain ⟨sX,eX⟩:=X
  obtain ⟨sY,hY1⟩:∃ Y,(t.ct.hear p.f).1 = Y:=⟨_,rfl⟩
  have HY1:=Lib.hid hY1
  obtain ⟨eY,hY2⟩:∃ Y,(t.ct.hear p.f).2 = Y:=⟨_,rfl⟩
  have HY2:=Lib.hid hY2
  clear hX hY1 hY2
  have HD:Hid (s.doOp ⟨4,m,p⟩ = (s.hear p.f).1):=Lib.hid (by unfold Dr.doOp; simp only [show ¬ ((4:Int) = 0) by decide,show ¬ ((4:Int) = 1) by decide,show ¬ ((4:Int) = 2) by decide,show ¬ ((4:Int) = 3) by decide,if_true,if_false])
  have HE:Hid (t.doOp ⟨4,m,p⟩ = (t.hear p.f).1):=Lib.hid (by unfold Dr.doOp; simp only [show ¬ ((4:Int) = 0) by decide,show ¬ ((4:Int) = 1) by decide,show ¬ ((4:Int) = 2) by decide,show ¬ ((4:Int) = 3) by decide,if_true,if_false])
  by_cases hst:t.st = 1
  · rw [hst] at q10
    refine wp_region_sl 19 [4,18] [0,0,0,0,0,0,0,0,0,0,1,1,1,1,1,1,1,1,1] (PairS I CtD w0 w1 (fun k => O k ∨ Oc k) v cp (fun _ => none) s sX t.ct sY) [] (PairC.mk HA.out.obj isObj_ct HP.out) (by kernel_rfl) (by kernel_rfl) (by kernel_rfl) (by kernel_rfl) (by kernel_rfl) (by kernel_rfl) (by kernel_rfl) (by kernel_rfl) ?_
    simp only [List.take_succ_cons,List.take_zero,List.drop_succ_cons,List.drop_zero]
    repeat ((first | refine sl_plain (O:=fun k => O k ∨ Oc k) (fun h => PairS.kept h) (by rfl) (by rfl) (by rfl) (by rfl) (by rfl) ?_ | refine sl_nil (O:=fun k => O k ∨ Oc k) (fun h => PairS.kept h) (by rfl) (by rfl) (by rfl) (by rfl) (by rfl) (by rfl) ?_); intro K hK; go_big_quiet_op; go_big_quiet_on)
    refine sl_step (f:=18) (args := #[v,fmV p.f]) (v := .bool eX) 0 (by rfl) (by rfl) (by rfl) (by rfl) (by rfl) (fun w => by simp [go_sem]) (fun xs9 w9 h9 => ?_) ?_
    · obtain ⟨O1,O2,hp,hk,hg1,hg2,hh⟩:=h9
      refine (HA.out.hear p.f hp.a.inv HS.out.ok HB.out (HA.out.tab HT.out hp.a.below) HPO.out (HS.out.acc hp.a.below hp.a.new)).mono ?_
      rintro e w' ⟨he,hs⟩
      rw [HX.out] at he hs
      exact ⟨he,PairC.stepA HA.out.obj isObj_ct hp hk hg1 hg2 hh hs⟩
    simp only [Act.put,List.setIfInBounds_toArray,List.set_cons_succ,List.set_cons_zero]
    repeat ((first | refine sl_plain (O:=fun k => O k ∨ Oc k) (fun h => PairS.kept h) (by rfl) (by rfl) (by rfl) (by rfl) (by rfl) ?_ | refine sl_nil (O:=fun k => O k ∨ Oc k) (fun h => PairS.kept h) (by rfl) (by rfl) (by rfl) (by rfl) (by rfl) (by rfl) ?_); intro K hK; go_big_quiet_op; go_big_quiet_on)
    refine sl_step (f:=46) (args := #[cp,fmV p.f]) (v := .bool eY) 1 (by rfl) (by rfl) (by rfl) (by rfl) (by rfl) (fun w => by simp [go_sem]) (fun xs9 w9 h9 => ?_) ?_
    · obtain ⟨O1,O2,hp,hk,hg1,hg2,hh⟩:=h9
      refine (xhear_v (f:=p.f) _ hp.b.inv HS2.out.ok.ct (by have:=HS2.out.ok.ls; have:=HB.out; omega) (by rw [HS2.out.ok.va.1,HS2.out.ok.va.2]; exact (slA_old HS2.out.sl hp.b.below hp.b.new).sl) (by rw [HS2.out.ok.va.2]; exact HS2.out.fit)).mono ?_
      rintro e w' ⟨he,hs⟩
      rw [HY1.out] at hs; rw [HY2.out] at he
      exact ⟨he,PairC.stepB HA.out.obj isObj_ct hp hk hg1 hg2 hh hs⟩
    simp only [Act.put,List.setIfInBounds_toArray,List.set_cons_succ,List.set_cons_zero]
    repeat ((first | refine sl_plain (O:=fun k => O k ∨ Oc k) (fun h => PairS.kept h) (by rfl) (by rfl) (by rfl) (by rfl) (by rfl) ?_ | refine sl_nil (O:=fun k => O k ∨ Oc k) (fun h => PairS.kept h) (by rfl) (by rfl) (by rfl) (by rfl) (by rfl) (by rfl) ?_); intro K hK; go_big_quiet_op; go_big_quiet_on)
    intro ys xs w9 hF h9
    simp only [secFill]
    clear hF hcl hcg a0 a1 a2 a3 a4 a5 a6 a7 a8 q8 q9 q10
    have H9:=Lib.hid h9
    clear h9
    go_wp2
    go_ret
    obtain ⟨O1,O2,hp,hkp,hg1,hg2⟩:=DrM.pairD HA.out.obj H0.out HM.out H9.out
    have et:t.hear p.f = (({ t with ct:=sY }:Dr),eY):=by unfold Dr.hear; rw [if_pos hst]; simp only [HY1.out,HY2.out]
    exact ⟨_,O1,O2,rfl,fun hh => by subst hh; have e:=HX.out.symm.trans et; simp only [Prod.mk.injEq] at e; simp [e.2],by rw [HD.out,HE.out,HX.out,et]; exact hp,kept_from HW1.out hkp,grows_from HW1.out hg1,grows_from HW1.out hg2⟩
  · refine wp_region_sl 19 [4] [0,0,0,0,0,0,0,0,0,0,1,1,1,1,1,1,1,1,1] (PairS I CtD w0 w1 (fun k => O k ∨ Oc k) v cp (fun _ => none) s sX t.ct sY) [] (PairC.mk HA.out.obj isObj_ct HP.out) (by kernel_rfl) (by kernel_rfl) (by kernel_rfl) (by kernel_rfl) (by kernel_rfl) (by kernel_rfl) (by kernel_rfl) (by kernel_rfl) ?_
    simp only [List.take_succ_cons,List.take_zero,List.drop_succ_cons,List.drop_zero]
    repeat ((first | refine sl_plain (O:=fun k => O k ∨ Oc k) (fun h => PairS.kept h) (by rfl) (by rfl) (by rfl) (by rfl) (by rfl) ?_ | refine sl_nil (O:=fun k => O k ∨ Oc k) (fun h => PairS.kept h) (by rfl) (by rfl) (by rfl) (by rfl) (by rfl) (by rfl) ?_); intro K hK; go_big_quiet_op; go_big_quiet_on)
    refine sl_step (f:=18) (args := #[v,fmV p.f]) (v := .bool eX) 0 (by rfl) (by rfl) (by rfl) (by rfl) (by rfl) (fun w => by simp [go_sem]) (fun xs9 w9 h9 => ?_) ?_
    · obtain ⟨O1,O2,hp,hk,hg1,hg2,hh⟩:=h9
      refine (HA.out.hear p.f hp.a.inv HS.out.ok HB.out (HA.out.tab HT.out hp.a.below) HPO.out (HS.out.acc hp.a.below hp.a.new)).mono ?_
      rintro e w' ⟨he,hs⟩
      rw [HX.out] at he hs
      exact ⟨he,PairC.stepA HA.out.obj isObj_ct hp hk hg1 hg2 hh hs⟩
    simp only [Act.put,List.setIfInBounds_toArray,List.set_cons_succ,List.set_cons_zero]
    repeat ((first | refine sl_plain (O:=fun k => O k ∨ Oc k) (fun h => PairS.kept h) (by rfl) (by rfl) (by rfl) (by rfl) (by rfl) ?_ | refine sl_nil (O:=fun k => O k ∨ Oc k) (fun h => PairS.kept h) (by rfl) (by rfl) (by rfl) (by rfl) (by rfl) (by rfl) ?_); intro K hK; go_big_quiet_op; go_big_quiet_on)
    have hbf:(t.st == 1) = false:=by simpa using hst
    first | simp only [hbf] | simp only [decide_eq_false hst] | skip
    repeat (refine sl_skip (by rfl) (by rfl) (by rfl) ?_; simp only [Act.put,List.setIfInBounds_toArray,List.set_cons_succ,List.set_cons_zero])
    intro ys xs w9 hF h9
    simp only [secFill]
    clear hF hcl hcg a0 a1 a2 a3 a4 a5 a6 a7 a8 q8 q9 q10
    have H9:=Lib.hid h9
    clear h9
    go_wp2
    go_ret
    obtain ⟨O1,O2,hp,hkp,hg1,hg2⟩:=DrM.pairD HA.out.obj H0.out HM.out H9.out
    have et:t.hear p.f = (t,false):=by unfold Dr.hear; rw [if_neg hst]
    exact ⟨_,O1,O2,rfl,fun hh => by subst hh; have e:=HX.out.symm.trans et; simp only [Prod.mk.injEq] at e; simp [e.2],by rw [HD.out,HE.out,HX.out,et]; exact hp,kept_from HW1.out hkp,grows_from HW1.out hg1,grows_from HW1.out hg2⟩
end Go.Proofs.YtimdkcchjanpaaaGreatDoor
namespace Go.Proofs.YtimdkcchjanpaaaGreatDoor
open Go.RowKit
set_option linter.unusedVariables false
set_option maxRecDepth 4000 in
theorem ddo_none {T:World → Prop} {I:World → Value → Dr → (Nat → Prop) → Prop} (A:DrvI T I) {w0 w:World} {v:Value} {g:Nat} {s t:Dr} {O O':Nat → Prop} {m B:Int} {p:Pk} {k:Int} (h:Pair I DrD w0 v (.pointer (some ⟨g,0,none⟩)) s t O O' w) (hs:DoPre w0 s B) (ht:DoPre w0 t B) (hB:B ≤ 1000000) (hT:T w0) (hp:p.ok) (hm : -9223372036854775808 ≤ m ∧ m ≤ 9223372036854775807) (hk:k < 0 ∨ 10 < k) :
    Calls Tryz.prog 12 #[v, .pointer (some ⟨g,0,none⟩),opV9 ⟨k,m,p⟩] w (DoPostD I w0 v (.pointer (some ⟨g,0,none⟩)) s t ⟨k,m,p⟩ (fun k => O k ∨ O' k) w):=by
  have HA:=Lib.hid A
  have HT:=Lib.hid hT
  have HS:=Lib.hid hs
  have HS2:=Lib.hid ht
  have HB:=Lib.hid hB
  have HPO:=Lib.hid hp
  have HMO:=Lib.hid hm
  have hb0:=(Below.refl w.heap.size w).alloc (Nat.le_refl _) (.cells #[.int .i64 k, .int .i64 m, .int .i64 p.f.i, .int .i64 p.f.n, .int .i64 p.f.l, .string p.f.d, .int .i64 p.fr, .int .i64 p.tag, .bool p.lp] 39)
  have H0:=Lib.hid (h.later A.obj isObj_dr hb0)
  have HW1:=Lib.hid hb0
  have HB0:=Lib.hid (DrvO9.made w ⟨k,m,p⟩)
  have HNO:Hid (¬ (O w.heap.size ∨ O' w.heap.size)):=Lib.hid (fun hh => by
    rcases hh with hh | hh
    · have:=A.obj.lt h.a.inv _ hh; omega
    · have:=isObj_dr.lt h.b.inv _ hh; omega)
  have HZ:Hid (w.heap.size < (w.alloc (.cells #[.int .i64 k, .int .i64 m, .int .i64 p.f.i, .int .i64 p.f.n, .int .i64 p.f.l, .string p.f.d, .int .i64 p.fr, .int .i64 p.tag, .bool p.lp] 39)).heap.size):=Lib.hid (by simp)
  clear A hT hs ht hB hp h hb0 hm
  go_enter Tryz.func12,Tryz.ntmps12
  have HK0:=Lib.hid (PairJ.start HA.out.obj isObj_dr H0.out HW1.out)
  obtain ⟨a0,a1,a2,a3,a4,a5,a6,a7,a8⟩:=HB0.out.cells
  simp only at a0 a1 a2 a3 a4 a5 a6 a7 a8
  have k0:(k == 0) = false:=by simp; omega
  have k1:(k == 1) = false:=by simp; omega
  have k2:(k == 2) = false:=by simp; omega
  have k3:(k == 3) = false:=by simp; omega
  have k4:(k == 4) = false:=by simp; omega
  have k5:(k == 5) = false:=by simp; omega
  have k6:(k == 6) = false:=by simp; omega
  have k7:(k == 7) = false:=by simp; omega
  have k8:(k == 8) = false:=by simp; omega
  have k9:(k == 9) = false:=by simp; omega
  have k10:(k == 10) = false:=by simp; omega
  have HD:Hid (s.doOp ⟨k,m,p⟩ = s):=Lib.hid (by unfold Dr.doOp; simp only [show ¬ (k = 0) by omega,show ¬ (k = 1) by omega,show ¬ (k = 2) by omega,show ¬ (k = 3) by omega,show ¬ (k = 4) by omega,show ¬ (k = 5) by omega,show ¬ (k = 6) by omega,show ¬ (k = 7) by omega,show ¬ (k = 8) by omega,show ¬ (k = 9) by omega,if_false])
  have HE:Hid (t.doOp ⟨k,m,p⟩ = t):=Lib.hid (by unfold Dr.doOp; simp only [show ¬ (k = 0) by omega,show ¬ (k = 1) by omega,show ¬ (k = 2) by omega,show ¬ (k = 3) by omega,show ¬ (k = 4) by omega,show ¬ (k = 5) by omega,show ¬ (k = 6) by omega,show ¬ (k = 7) by omega,show ¬ (k = 8) by omega,show ¬ (k = 9) by omega,if_false])
  clear hk
  go_wp2
  go_ret
  exact ⟨_,O,O',rfl,fun _ => rfl,by rw [HD.out,HE.out]; exact HK0.out.pr,HK0.out.kp,HK0.out.g1,HK0.out.g2⟩
theorem ddo_any {T:World → Prop} {I:World → Value → Dr → (Nat → Prop) → Prop} (A:DrvI T I) {w0 w:World} {v:Value} {g:Nat} {s t:Dr} {O O':Nat → Prop} {o:Op9} {B:Int} (h:Pair I DrD w0 v (.pointer (some ⟨g,0,none⟩)) s t O O' w) (hs:DoPre w0 s B) (ht:DoPre w0 t B) (hB:B ≤ 1000000) (hT:T w0) (hp:o.p.ok) (hm : -9223372036854775808 ≤ o.b ∧ o.b ≤ 9223372036854775807) :
    Calls Tryz.prog 12 #[v, .pointer (some ⟨g,0,none⟩),opV9 o] w (DoPostD I w0 v (.pointer (some ⟨g,0,none⟩)) s t o (fun k => O k ∨ O' k) w):=by
  obtain ⟨k,m,p⟩:=o
  by_cases h0:k = 0
  · subst h0; exact ddo_send A h hs ht hB hT hp hm
  by_cases h1:k = 1
  · subst h1; exact ddo_tx A h hs ht hB hT hp hm
  by_cases h2:k = 2
  · subst h2; exact ddo_rx A h hs ht hB hT hp hm
  by_cases h3:k = 3
  · subst h3; exact ddo_won A h hs ht hB hT hp hm
  by_cases h4:k = 4
  · subst h4; exact ddo_hear A h hs ht hB hT hp hm
  by_cases h5:k = 5
  · subst h5; exact ddo_off A h hs ht hB hT hp hm
  by_cases h6:k = 6
  · subst h6; exact ddo_fix A h hs ht hB hT hp hm
  by_cases h7:k = 7
  · subst h7; exact ddo_back A h hs ht hB hT hp hm
  by_cases h8:k = 8
  · subst h8; exact ddo_up A h hs ht hB hT hp hm
  by_cases h9:k = 9
  · subst h9; exact ddo_down A h hs ht hB hT hp hm
  by_cases h10:k = 10
  · subst h10; exact ddo_offer A h hs ht hB hT hp hm
  exact ddo_none A h hs ht hB hT hp hm (by omega)
theorem Dr.Ok.doOp {s:Dr} {B:Int} (h:s.Ok B) (hB:0 ≤ B) (o:Op9):(s.doOp o).Ok (B + 64):=by
  have hm:∀ {x:Dr},x.Ok B → x.Ok (B + 64):=fun hx => hx.mono (by omega)
  unfold Dr.doOp
  split
  · exact hm (h.send _ _)
  split
  · exact h.tx
  split
  · exact h.rx
  split
  · exact hm h.won
  split
  · exact h.hear _
  split
  · exact hm h.off
  split
  · exact h.fix
  split
  · exact hm h.back
  split
  · exact hm (h.up hB)
  split
  · exact hm (h.down hB)
  · exact hm h
theorem Dr.push_c (s:Dr):s.push.c = s.c ∧ s.push.la = s.la:=by
  unfold Dr.push Dr.pushTo
  split <;> exact ⟨rfl,rfl⟩
theorem Dr.doOp_c (s:Dr) (o:Op9):(s.doOp o).c = s.c ∧ (s.doOp o).la = s.la:=by
  unfold Dr.doOp
  split
  · unfold Dr.send; repeat' split
    all_goals first | exact Dr.push_c _ | exact ⟨rfl,rfl⟩
  split
  · unfold Dr.tx; repeat' split
    all_goals first | exact Dr.push_c _ | exact ⟨rfl,rfl⟩
  split
  · unfold Dr.rx; repeat' split
    all_goals exact ⟨rfl,rfl⟩
  split
  · unfold Dr.won; split <;> exact ⟨rfl,rfl⟩
  split
  · unfold Dr.hear; split <;> exact ⟨rfl,rfl⟩
  split
  · unfold Dr.off; repeat' split
    all_goals exact ⟨rfl,rfl⟩
  split
  · unfold Dr.fix; repeat' split
    all_goals exact ⟨rfl,rfl⟩
  split
  · unfold Dr.back; repeat' split
    all_goals first | exact Dr.push_c _ | exact ⟨rfl,rfl⟩
  split
  · unfold Dr.up; split <;> exact ⟨rfl,rfl⟩
  split
  · unfold Dr.down; split <;> exact ⟨rfl,rfl⟩
  · exact ⟨rfl,rfl⟩
theorem DoPre.step {w0:World} {s:Dr} {B:Int} (h:DoPre w0 s B) (hB:0 ≤ B) (o:Op9):DoPre w0 (s.doOp o) (B + 64):=by
  obtain ⟨h1,h2⟩:=s.doOp_c o
  exact ⟨h.ok.doOp hB o,by rw [h1,h2]; exact h.sl,by rw [h2]; exact h.fit,by rw [h1]; exact h.few⟩
end Go.Proofs.YtimdkcchjanpaaaGreatDoor
namespace Go.Proofs.YtimdkcchjanpaaaGreatDoor
open Go.RowKit
set_option linter.unusedVariables false
theorem cnt_set1:∀ (S:List Int) (i:Nat),i < S.length → S.getD i 1 = 0 → ((S.set i 1).filter (· == 0)).length + 1 = (S.filter (· == 0)).length
  | [],i,h,_ => by simp at h
  | a :: S,0,_,h0 => by
    have:a = 0:=by simpa using h0
    subst this
    simp
  | a :: S,i + 1,h,h0 => by
    have ih:=cnt_set1 S i (by simpa using h) (by simpa using h0)
    rw [List.set_cons_succ,List.filter_cons,List.filter_cons]
    split
    · simp only [List.length_cons]; omega
    · exact ih
theorem put_free {s:Bx} {p:Pk} (hk:0 ≤ keyG p.f) (hf:s.free s.S.length ≠ 0):(s.put p).1.free (s.put p).1.S.length + 1 = s.free s.S.length:=by
  unfold Bx.put
  rw [if_neg (by omega)]
  cases hi:s.first s.S.length with
  | none => exact absurd (free_no (Nat.le_refl _) hi) hf
  | some i =>
    obtain ⟨h1,h2⟩:=Bx.first_some hi
    simp only
    unfold Bx.free Bx.putAt
    simp only [List.take_length]
    exact cnt_set1 s.S i h1 h2
theorem psh_less {x:Bx × Bq} {k:Nat} (h:PshI x) (hf:(psh x k).1.free (psh x k).1.S.length ≠ 0) (ht:(psh x k).2.take.2.2 = true):(psh x (k + 1)).1.free (psh x (k + 1)).1.S.length + 1 = (psh x k).1.free (psh x k).1.S.length:=by
  rw [psh_more hf ht]
  exact put_free ((q_take (h.psh k).qk).1 ht) hf
def PshD (x:Bx × Bq):Prop:=x.1.free x.1.S.length = 0 ∨ x.2.take.2.2 = false
theorem psh_cnt {x:Bx × Bq} (h:PshI x):∀ k,k ≤ pshN → PshD (psh x pshN) ∨ (psh x k).1.free (psh x k).1.S.length + k ≤ x.1.free x.1.S.length
  | 0,_ => .inr (Nat.le_refl _)
  | k + 1,hk => by
    rcases psh_cnt h k (by omega) with d | hle
    · exact .inl d
    by_cases hf:(psh x k).1.free (psh x k).1.S.length = 0
    · rw [psh_full hf (by omega)]; exact .inl (.inl hf)
    by_cases ht:(psh x k).2.take.2.2 = false
    · rw [psh_none ht (by omega)]; exact .inl (.inr ht)
    have:=psh_less h hf (by simpa using ht)
    exact .inr (by omega)
theorem pshN_eq:pshN = 1001:=rfl
theorem psh_end {x:Bx × Bq} (h:PshI x):PshD (psh x pshN):=by
  rcases psh_cnt h pshN (Nat.le_refl _) with d | hle
  · exact d
  · have h1:=Bx.free_le x.1 x.1.S.length
    have h2:=h.bx.n2
    have h3:=pshN_eq
    generalize psh x pshN = y at hle ⊢
    omega
theorem take_nil {q:Bq} (hs:q.st = false) (h:q.take.2.2 = false):q.L = []:=by
  unfold Bq.take at h
  split at h
  · rename_i hn
    exact List.length_eq_zero_iff.1 (Bq.first_none hn)
  · rw [if_neg (by rw [hs]; decide)] at h
    cases h
structure Dr.Busy (s:Dr):Prop where
  up:s.st = 1 → s.ct.bx.free s.ct.bx.S.length = 0 ∨ s.q.L = []
  down:s.st = 0 → s.q.L = [] ∧ s.ct.bx.free s.ct.bx.S.length = s.ct.bx.S.length
theorem busy_pushTo {s:Dr} {y:Bx × Bq} (hy:y.2.st = false) (hd:PshD y) (h0:s.st ≠ 0):(s.pushTo y).Busy:=by
  unfold Dr.pushTo
  split
  · rename_i h1
    exact ⟨fun h2 => absurd h2 h1,fun h2 => absurd h2 h0⟩
  · refine ⟨fun _ => ?_,fun h2 => absurd h2 h0⟩
    rcases hd with hd | hd
    · exact .inl hd
    · exact .inr (show y.2.L = [] from take_nil hy hd)
theorem Dr.Ok.pshd_end {s:Dr} {B:Int} (h:s.Ok B):PshD s.pshd:=by
  unfold Dr.pshd
  exact psh_end h.pshI
theorem Dr.Ok.busy_push {s:Dr} {B:Int} (h:s.Ok B) (h0:s.st ≠ 0):s.push.Busy:=by
  unfold Dr.push
  exact busy_pushTo h.pshd.st h.pshd_end h0
theorem cnt_set0:∀ (S:List Int) (i:Nat) (a:Int),i < S.length → S.getD i 0 ≠ 0 → a ≠ 0 → ((S.set i a).filter (· == 0)).length = (S.filter (· == 0)).length
  | [],i,a,h,_,_ => by simp at h
  | x :: S,0,a,_,h0,ha => by
    have hx:x ≠ 0:=by simpa using h0
    rw [List.set_cons_zero,List.filter_cons,List.filter_cons,if_neg (by simpa using ha),if_neg (by simpa using hx)]
  | x :: S,i + 1,a,h,h0,ha => by
    have ih:=cnt_set0 S i a (by simpa using h) (by simpa using h0) ha
    rw [List.set_cons_succ,List.filter_cons,List.filter_cons]
    split
    · simp only [List.length_cons]; omega
    · exact ih
theorem end_free {s:Bx} {b st:Int} (hst:st ≠ 0):(s.end_ b st).1.free (s.end_ b st).1.S.length = s.free s.S.length:=by
  unfold Bx.end_
  split
  · rfl
  · rename_i h
    have h1:¬ b < 0:=fun hh => h (.inl hh)
    have h2:¬ (s.S.length:Int) ≤ b:=fun hh => h (.inr (.inl hh))
    have h3:s.S.getD b.toNat 0 = 1:=Classical.byContradiction fun hh => h (.inr (.inr hh))
    unfold Bx.free Bx.endAt
    simp only [List.take_length]
    exact cnt_set0 s.S b.toNat st (by omega) (by rw [h3]; decide) hst
theorem new_free (n:Nat):(bxNew n).free (bxNew n).S.length = (bxNew n).S.length:=by
  unfold Bx.free bxNew
  simp only [List.take_length]
  rw [List.filter_eq_self.2 (fun a ha => by rw [List.eq_of_mem_replicate ha]; rfl)]
theorem Dr.fresh_free (s:Dr) (st:Int):(s.fresh st).q.L = [] ∧ (s.fresh st).ct.bx.free (s.fresh st).ct.bx.S.length = (s.fresh st).ct.bx.S.length:=⟨rfl,new_free _⟩
theorem drNew_busy (c:Cg) (L:List Flt):(drNew c L).Busy :=
  ⟨fun h => by have:(0:Int) = 1:=h; omega,fun _ => (drNew c L).fresh_free 0⟩
theorem Dr.Busy.same {s t:Dr} (h:s.Busy) (h1:t.st = s.st) (h2:t.q.L = s.q.L) (h3:t.ct.bx.free t.ct.bx.S.length = s.ct.bx.free s.ct.bx.S.length) (h4:t.ct.bx.S.length = s.ct.bx.S.length):t.Busy :=
  ⟨fun hh => by rw [h2,h3]; exact h.up (h1 ▸ hh),fun hh => by rw [h2,h3,h4]; exact h.down (h1 ▸ hh)⟩
theorem Dr.Busy.mid {s:Dr} (h1:s.st ≠ 1) (h0:s.st ≠ 0):s.Busy:=⟨fun h => absurd h h1,fun h => absurd h h0⟩
section
variable {s:Dr} {B:Int}
theorem Dr.Busy.up_ (hb:s.Busy):s.up.1.Busy:=by
  unfold Dr.up
  split
  · exact hb
  · exact ⟨fun _ => .inr rfl,fun h => by have:(1:Int) = 0:=h; omega⟩
theorem Dr.Busy.down_ (hb:s.Busy):s.down.1.Busy:=by
  unfold Dr.down
  split
  · exact hb
  · exact ⟨fun h => by have:(0:Int) = 1:=h; omega,fun _ => s.fresh_free 0⟩
theorem Dr.Busy.send (hb:s.Busy) (h:s.Ok B) (b:Int) (p:Pk):(s.send b p).1.Busy:=by
  unfold Dr.send
  split
  · exact hb
  · rename_i h0
    split
    · exact hb
    · rename_i hk
      split
      · refine Dr.Ok.busy_push (B:=B) ⟨h.ct,h.q.put b p,h.ls,h.st,h.sx,fun o ho => ?_,h.bk,h.fk,h.va⟩ h0
        simp only at ho
        unfold Bq.put at ho
        split at ho
        · exact h.qk o ho
        · simp only [List.mem_append,List.mem_singleton] at ho
          rcases ho with ho | rfl
          · exact h.qk o ho
          · show 0 ≤ keyG p.f
            omega
      · exact hb
theorem Dr.Busy.tx (hb:s.Busy) (h:s.Ok B):s.tx.1.Busy:=by
  unfold Dr.tx
  split
  · exact hb
  · rename_i h0
    split
    · exact hb
    · obtain ⟨e1,e2,e3,e4,e5⟩:=s.ct.told_same
      exact Dr.Ok.busy_push (B:=B + 64) ⟨h.ct.told,h.q,by simp only; rw [e3]; have:=h.ls; omega,h.st,h.sx.tx (tk_ln h.bk) _,h.qk,by simp only; rw [e1]; exact bk_take h.bk,by simp only; rw [e2]; exact h.fk,by simp only; rw [e4,e5]; exact h.va⟩ h0
theorem Dr.Busy.rx (hb:s.Busy):s.rx.1.Busy:=by
  unfold Dr.rx
  split
  · exact hb
  · split
    · exact hb
    · refine hb.same rfl rfl ?_ ?_ <;> (simp only; split <;> rfl)
theorem Dr.Busy.off (hb:s.Busy):s.off.Busy:=by
  unfold Dr.off
  split
  · exact .mid (by show (2:Int) ≠ 1; decide) (by show (2:Int) ≠ 0; decide)
  · exact hb
theorem Dr.Busy.fix (hb:s.Busy):s.fix.1.Busy:=by
  unfold Dr.fix
  split
  · exact hb
  · exact .mid (by show (3:Int) ≠ 1; decide) (by show (3:Int) ≠ 0; decide)
theorem Dr.Busy.back (hb:s.Busy) (h:s.Ok B):s.back.Busy:=by
  unfold Dr.back
  split
  · exact Dr.Ok.busy_push (B:=B) ⟨h.ct.clear 8,h.q,h.ls,⟨by show (0:Int) ≤ 1; decide,by show (1:Int) ≤ 3; decide⟩,h.sx,h.qk,h.bk,h.fk,h.va⟩ (by show (1:Int) ≠ 0; decide)
  · exact hb
theorem Dr.Busy.won (hb:s.Busy):s.won.1.Busy:=by
  unfold Dr.won
  split
  · unfold Ct.won
    split
    · exact hb
    · refine hb.same rfl rfl (end_free (by decide)) ?_
      show (s.ct.bx.end_ _ 2).1.S.length = _
      unfold Bx.end_
      split
      · rfl
      · simp [Bx.endAt]
  · exact hb
theorem Dr.Busy.hear (hb:s.Busy) (f:Fr):(s.hear f).1.Busy:=by
  unfold Dr.hear
  split
  · refine hb.same rfl rfl ?_ ?_ <;> (simp only; unfold Ct.hear; repeat' split) <;> rfl
  · exact hb
theorem Dr.Busy.doOp (hb:s.Busy) (h:s.Ok B) (o:Op9):(s.doOp o).Busy:=by
  unfold Dr.doOp
  split
  · exact hb.send h _ _
  split
  · exact hb.tx h
  split
  · exact hb.rx
  split
  · exact hb.won
  split
  · exact hb.hear _
  split
  · exact hb.off
  split
  · exact hb.fix
  split
  · exact hb.back h
  split
  · exact hb.up_
  split
  · exact hb.down_
  · exact hb
end
end Go.Proofs.YtimdkcchjanpaaaGreatDoor
