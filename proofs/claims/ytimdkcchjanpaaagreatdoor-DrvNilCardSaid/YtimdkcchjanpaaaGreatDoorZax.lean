/- Drv, the document's side: pushing. Printed by gen_drv.py. -/
import Derived.Test.YtimdkcchjanpaaaGreatDoorZaw
set_option maxHeartbeats 16000000
namespace Go.Proofs.YtimdkcchjanpaaaGreatDoor
open Go.RowKit
set_option linter.unusedVariables false
structure PuS (W:World) (b bb b5 bq:Nat) (vf:Value) (O:Nat → Prop) (s:Dr) (x:Bx × Bq) (Ob:Nat → Prop) (vl:Value) (w:World):Prop where
  ct:CtM w bb (.pointer (some ⟨b5,0,none⟩)) Ob vf { s.ct with bx:=x.1 }
  dr:DrM w b (.pointer (some ⟨bb,0,none⟩)) (.pointer (some ⟨bq,0,none⟩)) (ctO bb Ob vf) (bqO bq vl) { s with ct := { s.ct with bx:=x.1 },q:=x.2 }
  q:BqM w bq vl x.2
  kept:Kept O W w
  grows:Grows O W (drO b (ctO bb Ob vf) (bqO bq vl))
section
variable {W w w':World} {b bb b5 bq:Nat} {vf vl:Value} {O Ob:Nat → Prop} {s:Dr} {x:Bx × Bq}
theorem PuS.later (h:PuS W b bb b5 bq vf O s x Ob vl w) (hb:Below w.heap.size w w'):PuS W b bb b5 bq vf O s x Ob vl w' :=
  ⟨h.ct.later hb,h.dr.later hb,h.q.stay (fun k hk => hb.block k (h.q.lt k hk)),h.kept.trans (.of_below (O:=O) hb) (Grows.refl _ _),h.grows⟩
theorem PuS.take {q':Bq} (h:PuS W b bb b5 bq vf O s x Ob vl w) (hs:Stp BqD (.pointer (some ⟨bq,0,none⟩)) (bqO bq vl) w q' w'):∃ vl',PuS W b bb b5 bq vf O s (x.1,q') Ob vl' w':=by
  obtain ⟨O',⟨b',vl',hv,rfl,hq⟩,hk,hg⟩:=hs
  injection hv with hv; injection hv with hv; injection hv with hv
  subst hv
  have lc:=h.ct.lt
  obtain ⟨Oq',hm,hk2,hg2⟩:=h.dr.queue (q':=q') ⟨bqO bq vl',⟨bq,vl',rfl,rfl,hq⟩,hk,hg⟩
  refine ⟨vl',h.ct.stay (fun k hk' => hk.block k (lc k hk') (fun h2 => h.dr.h3 k hk' h2)), ?_,hq,h.kept.trans hk2 h.grows, ?_⟩
  · refine ⟨hm.box,hm.ct,⟨bq,vl',rfl,rfl,hq⟩,hm.h1,fun h2 => ?_,fun k h2 h3 => ?_⟩
    · rcases hg b h2 with h3 | h3
      · exact h.dr.h2 h3
      · have:=h.dr.blt; omega
    · rcases hg k h3 with h4 | h4
      · exact h.dr.h3 k h2 h4
      · have:=lc k h2; omega
  · refine h.grows.trans (fun k h2 => ?_) h.kept.size
    rcases h2 with h2 | h2 | h2
    · exact .inl (.inl h2)
    · exact .inl (.inr (.inl h2))
    · exact (hg k h2).imp (fun h => .inr (.inr h)) id
theorem PuS.put {bx':Bx} (h:PuS W b bb b5 bq vf O s x Ob vl w) (hs:Stp BxD (.pointer (some ⟨b5,0,none⟩)) Ob w bx' w'):∃ Ob',PuS W b bb b5 bq vf O s (bx',x.2) Ob' vl w':=by
  obtain ⟨Ob',h1,h2,h3⟩:=h.ct.boxes hs
  have lq:=h.q.lt
  refine ⟨Ob',h1, ?_,h.q.stay (fun k hk => h2.block k (lq k hk) (fun h4 => h.dr.h3 k h4 hk)), ?_, ?_⟩
  · refine ⟨(h2.block b h.dr.blt h.dr.h1).trans h.dr.box,⟨bb,_,Ob',vf,rfl,rfl,h1⟩,⟨bq,vl,rfl,rfl,h.q.stay (fun k hk => h2.block k (lq k hk) (fun h4 => h.dr.h3 k h4 hk))⟩,fun h4 => ?_,h.dr.h2,h.dr.h3.step lq h3⟩
    rcases h3 b h4 with h5 | h5
    · exact h.dr.h1 h5
    · have:=h.dr.blt; omega
  · exact h.kept.trans (O':=drO b (ctO bb Ob vf) (bqO bq vl)) ⟨h2.os,h2.tape,h2.output,h2.size,fun k h4 h5 => h2.block k h4 (fun h6 => h5 (.inr (.inl h6)))⟩ h.grows
  · refine h.grows.trans (fun k h4 => ?_) h.kept.size
    rcases h4 with h4 | h4 | h4
    · exact .inl (.inl h4)
    · exact (h3 k h4).imp (fun h => .inr (.inl h)) id
    · exact .inl (.inr (.inr h4))
end
set_option maxRecDepth 4000 in
theorem xdpush_v {w:World} {v:Value} {s:Dr} {O:Nat → Prop} {B:Int} (h:DrD w v s O) (ok:s.Ok B):Calls Tryz.prog 86 #[v] w fun e w' => e = .returned (.tuple #[]) ∧ Stp DrD v O w s.push w':=by
  obtain ⟨b,cp,qp,Oc,Oq,rfl,rfl,h⟩:=h
  have H:=Lib.hid h
  obtain ⟨c8,c9,c10,_⟩:=h.cells
  have hbz:=h.blt
  have hci:=h.ct
  have hqi:=h.q
  obtain ⟨bb,bv,Ob,vf,rfl,rfl,hcm⟩:=hci
  obtain ⟨bq,vl,rfl,rfl,hqm⟩:=hqi
  have hbi:=hcm.bx
  obtain ⟨b5,gs,gp,vo,ve,rfl,rfl,_⟩:=hbi
  by_cases h1:s.st = 1
  · obtain ⟨q0,q1,q2,q3⟩:=hqm.cells
    have hqz:bq < w.heap.size:=hqm.lt bq (.inl rfl)
    have hqf:=Lib.frozen_of_heap hqm.box 3
    have hne:b ≠ bq:=fun e => h.h2 (.inl e)
    obtain ⟨m1,k1⟩:=h.setStop hqm false
    have hd:(s.st != 1) = false:=by simp [h1]
    have HPI:=Lib.hid ok.pshI
    have HPU:Hid (∀ y,s.pshd = y → s.push = { s with ct := { s.ct with bx:=y.1 },q := { y.2 with st:=decide (y.1.free y.1.S.length = 0) } }):=Lib.hid (by rintro y rfl; unfold Dr.push Dr.pushTo; rw [if_neg (fun h => h h1)])
    have HPD:Hid (s.pshd = psh (s.ct.bx, { s.q with st:=false }) pshN):=Lib.hid rfl
    obtain ⟨sp,hsp⟩:∃ x,s.push = x:=⟨_,rfl⟩
    rw [hsp] at HPU ⊢
    obtain ⟨x0,hx0⟩:∃ x,(s.ct.bx,({ s.q with st:=false }:Bq)) = x:=⟨_,rfl⟩
    rw [hx0] at HPI HPD
    have HS0:Hid (PuS w b bb b5 bq vf (drO b (ctO bb _ vf) (bqO bq vl)) s x0 _ vl (w.setCell ⟨bq,3,none⟩ (.bool false))):=Lib.hid (by
      have ho:∀ k,k ≠ bq → (w.setCell ⟨bq,3,none⟩ (.bool false)).heap[k]? = w.heap[k]?:=fun k hk => Below.heap_setCell _ _ _ _ hk
      subst hx0
      exact ⟨hcm.stay (fun k hk => ho k (fun e => h.h3 k hk (.inl e))),m1,(hqm.setStop false).1,k1,Grows.refl _ _⟩)
    clear h ok hcm hqm m1 k1 hsp hx0 h1
    go_enter Tryz.func86,Tryz.ntmps86
    go_wp2
    generalize w.setCell ⟨bq,3,none⟩ (.bool false) = w1 at HS0 ⊢
    clear q0 q1 q2 q3 hqf hqz c8 c9 c10 hd hbz
    go_loopw [2] (fun i wr => ∃ (k:Nat) (Ob':Nat → Prop) (vl':Value),k ≤ pshN ∧ i = .int .i64 k ∧ Hid (PuS w b bb b5 bq vf (drO b (ctO bb (bxO b5 gs gp vo ve) vf) (bqO bq vl)) s (psh x0 k) Ob' vl' wr)) (fun i _ => 1001 - (intOf i).toNat)
    case atStart => exact ⟨0,_,_,Nat.zero_le _,rfl,HS0⟩
    case round =>
      obtain ⟨k,Ob',vl',hk,rfl,HI⟩:=hrel
      have HPK:=Lib.hid (HPI.out.psh k)
      obtain ⟨e8,e9,e10,_⟩:=HI.out.dr.cells
      have hbz:=HI.out.dr.blt
      obtain ⟨t0,_⟩:=HI.out.ct.cells
      have htz:bb < wr.heap.size:=HI.out.ct.lt bb (.inl rfl)
      have HCT:Hid ((psh x0 k).1.S.length ≤ 1000):=Lib.hid HPK.out.bx.n2
      have HFU:Hid ((psh x0 k).1.free (psh x0 k).1.S.length = 0 → k ≤ pshN → psh x0 pshN = psh x0 k):=Lib.hid (fun h1 h2 => psh_full h1 h2)
      have HNO:Hid ((psh x0 k).2.take.2.2 = false → k ≤ pshN → psh x0 pshN = psh x0 k):=Lib.hid (fun h1 h2 => psh_none h1 h2)
      have HMO:Hid ((psh x0 k).1.free (psh x0 k).1.S.length ≠ 0 → (psh x0 k).2.take.2.2 = true → psh x0 (k + 1) = (((psh x0 k).1.put (psh x0 k).2.take.2.1).1,(psh x0 k).2.take.1)):=Lib.hid (fun h1 h2 => psh_more h1 h2)
      have hN:pshN = 1001:=rfl
      have HEN:Hid (k = pshN → psh x0 pshN = psh x0 k):=Lib.hid (fun h => by rw [h])
      obtain ⟨y,hy⟩:∃ y,psh x0 k = y:=⟨_,rfl⟩
      rw [hy] at HI HPK HCT HFU HNO HMO HEN
      have HY:=Lib.hid hy
      clear hy
      obtain ⟨yb,yq⟩:=y
      simp only at HPK HCT HFU HNO HMO
      obtain ⟨fr,hfr⟩:∃ f,yb.free yb.S.length = f:=⟨_,rfl⟩
      have HFR:=Lib.hid hfr
      rw [hfr] at HFU HMO
      have hle:fr ≤ 1000:=by rw [← hfr]; exact Nat.le_trans (Bx.free_le _ _) HCT.out
      clear hfr
      by_cases hlt:k ≤ 1000
      · have hk1:decide ((k:Int) ≤ 1000) = true:=decide_eq_true (by omega)
        by_cases hf0:fr = 0
        · subst hf0
          have HSP:Hid (sp = { s with ct := { s.ct with bx:=yb },q := { yq with st:=true } }):=Lib.hid (by
            have h1:=HPU.out (yb,yq) (HPD.out.trans (HFU.out rfl hk))
            rw [h1]
            simp only [HFR.out]
            rfl)
          go_wp2_with fail
          refine (xfree_v _ HI.out.ct.bx HCT.out).mono ?_
          rintro e w2 ⟨rfl,rfl⟩
          simp only [HFR.out]
          clear e8 e9 e10 t0 htz hbz
          generalize hwr:wr = wz at HI ⊢
          go_upto_region 8 with fail
          obtain ⟨e8,e9,_⟩:=HI.out.dr.cells
          have hbz:=HI.out.dr.blt
          obtain ⟨t0,_⟩:=HI.out.ct.cells
          have htz:bb < wz.heap.size:=HI.out.ct.lt bb (.inl rfl)
          have hcl:∀ (n:Later wz) (b o:Nat),b < wz.heap.size → n.w.cell? ⟨b,o,none⟩ = wz.cell? ⟨b,o,none⟩:=later_cells wz
          have HCF:Hid (∀ q:Later wz,Calls Tryz.prog 128 #[.pointer (some ⟨b5,0,none⟩)] q.w fun e w' => e = .returned (.int .i64 (0:Nat)) ∧ Below q.w.heap.size q.w w'):=Lib.hid (fun q => (xfree_v q.w (HI.out.later q.h).ct.bx HCT.out).mono fun e w' h => ⟨by rw [h.1,HFR.out],h.2 ▸ Below.refl _ _⟩)
          refine wp_region_sec 15 [] (fun _ _ _ => True) (fun _ _ _ _ _ _ => True.intro) (by kernel_rfl) (by kernel_rfl) (by kernel_rfl) (by kernel_rfl) (by kernel_rfl) ?_
          simp only [List.take_succ_cons,List.take_zero,List.drop_succ_cons,List.drop_zero]
          repeat ((first | refine sec_plain (by rfl) (by rfl) (by rfl) (by rfl) ?_ | refine sec_nil (by rfl) (by rfl) (by rfl) (by rfl) (by rfl) ?_); intro K hK; go_big_quiet_op; go_big_quiet_on)
          refine sec_call (v := .int .i64 (0:Nat)) (by rfl) (by rfl) (by rfl) (by rfl) (by rfl) ?_ ?_
          · intro q K hK
            go_big_quiet_op
            exact ⟨_,fun q2 => Later.call (HCF.out ⟨q2.w,fbelow_t q.h q2.h⟩),hK⟩
          simp only [Act.put,List.setIfInBounds_toArray,List.set_cons_succ,List.set_cons_zero]
          repeat ((first | refine sec_plain (by rfl) (by rfl) (by rfl) (by rfl) ?_ | refine sec_nil (by rfl) (by rfl) (by rfl) (by rfl) (by rfl) ?_); intro K hK; go_big_quiet_op; go_big_quiet_on)
          intro xs m9 hF
          simp only [secFill]
          clear hF xs hcl e8 e9 t0 htz hbz
          have HI9:=Lib.hid (HI.out.later m9.h)
          generalize m9.w = w9 at HI9 ⊢
          have qf:w9.frozen? ⟨bq,3,none⟩ = false:=Lib.frozen_of_heap HI9.out.q.box 3
          obtain ⟨_,_,_,q3⟩:=HI9.out.q.cells
          have hqz:bq < w9.heap.size:=HI9.out.q.lt bq (.inl rfl)
          obtain ⟨m5,k5⟩:=HI9.out.dr.setStop HI9.out.q true
          have HM5:=Lib.hid m5
          have HK5:=Lib.hid (HI9.out.kept.trans k5 HI9.out.grows)
          clear m5 k5
          go_wp2
          go_end0
          rw [HSP.out]
          exact ⟨rfl,xqdone HM5.out HK5.out HI9.out.grows⟩
        · have hf1:(0:Int) < (fr:Int):=by omega
          have hf2:0 < fr:=by omega
          go_wp2_with fail
          refine (xfree_v _ HI.out.ct.bx HCT.out).mono ?_
          rintro e w2 ⟨rfl,rfl⟩
          simp only [HFR.out]
          obtain ⟨qb,hqb⟩:∃ x,yq.take = x:=⟨_,rfl⟩
          have HQB:=Lib.hid hqb
          obtain ⟨q',p',is'⟩:=qb
          rw [hqb] at HNO HMO
          simp only at HNO HMO
          clear hqb
          go_wp2_with fail
          refine (xqtake_v (p:=p') (is:=is') _ ⟨bq,vl',rfl,rfl,HI.out.q⟩ (by rw [HQB.out]) HPK.out.q).mono ?_
          rintro e w3 ⟨rfl,hs3⟩
          rw [HQB.out] at hs3
          obtain ⟨vl3,h3⟩:=HI.out.take hs3
          have hbx:=(Below.refl w3.heap.size w3).alloc (Nat.le_refl _) (.cells #[.int .i64 p'.f.i, .int .i64 p'.f.n, .int .i64 p'.f.l, .string p'.f.d, .int .i64 p'.fr, .int .i64 p'.tag, .bool p'.lp] 37)
          have HI4:=Lib.hid (h3.later hbx)
          have HP4:=Lib.hid (BoxP.made w3 p')
          clear hs3 h3 hbx e8 e9 e10 t0 htz hbz
          cases is'
          · have HSP:Hid (sp = { s with ct := { s.ct with bx:=yb },q := { yq with st:=false } }):=Lib.hid (by
              have h1:=HPU.out (yb,yq) (HPD.out.trans (HNO.out rfl hk))
              rw [h1]
              simp only [HFR.out,decide_eq_false hf0])
            have hqs:q'.st = false ∧ q' = { yq with st:=false }:=by
              have h1:=HQB.out
              have h2:=HPK.out.st
              simp only at h2
              unfold Bq.take at h1
              split at h1
              · injection h1 with h1 _; subst h1; exact ⟨h2,by cases yq; simp at h2; subst h2; rfl⟩
              · rw [h2] at h1
                simp at h1
            go_wp2
            refine bodyPost_ret (v := .tuple #[]) (by simp [results,Tryz.results86,go_sem]) rfl ?_
            rw [HSP.out,← hqs.2]
            exact ⟨rfl,xqdone HI4.out.dr HI4.out.kept HI4.out.grows⟩
          · have hm2:=HMO.out (by omega) rfl
            have HM2:=Lib.hid hm2
            clear hm2
            go_upto_region 7 with fail
            generalize hw4:w3.alloc (.cells #[.int .i64 p'.f.i, .int .i64 p'.f.n, .int .i64 p'.f.l, .string p'.f.d, .int .i64 p'.fr, .int .i64 p'.tag, .bool p'.lp] 37) = w4 at HI4 HP4
            generalize hpz:w3.heap.size = pz at HP4
            obtain ⟨e8,e9,_⟩:=HI4.out.dr.cells
            have hbz:=HI4.out.dr.blt
            obtain ⟨t0,_⟩:=HI4.out.ct.cells
            have htz:bb < w4.heap.size:=HI4.out.ct.lt bb (.inl rfl)
            obtain ⟨d0,d1,d2,d3,d4,d5,d6⟩:=HP4.out.cells
            have hpl:=HP4.out.lt
            have hcl:∀ (n:Later w4) (b o:Nat),b < w4.heap.size → n.w.cell? ⟨b,o,none⟩ = w4.cell? ⟨b,o,none⟩:=later_cells w4
            refine wp_region_sec 8 [] (fun _ _ _ => True) (fun _ _ _ _ _ _ => True.intro) (by kernel_rfl) (by kernel_rfl) (by kernel_rfl) (by kernel_rfl) (by kernel_rfl) ?_
            simp only [List.take_succ_cons,List.take_zero,List.drop_succ_cons,List.drop_zero]
            repeat ((first | refine sec_plain (by rfl) (by rfl) (by rfl) (by rfl) ?_ | refine sec_nil (by rfl) (by rfl) (by rfl) (by rfl) (by rfl) ?_); intro K hK; go_big_quiet_op; go_big_quiet_on)
            intro xs m9 hF
            simp only [secFill]
            clear hF xs hcl e8 e9 t0 htz hbz d0 d1 d2 d3 d4 d5 d6 hpl
            have HI9:=Lib.hid (HI4.out.later m9.h)
            generalize m9.w = w9 at HI9 ⊢
            obtain ⟨r,hr⟩:∃ r,(yb.put p').2 = r:=⟨_,rfl⟩
            obtain ⟨r1,r2⟩:=r
            have HR:=Lib.hid hr
            have HOL:Hid (yb.ord.length ≤ 1000):=Lib.hid HPK.out.bx.ordLe
            clear hr
            go_wp2_with fail
            refine (xput_v w9 HI9.out.ct.bx HR.out HCT.out HOL.out).mono ?_
            rintro e w10 ⟨rfl,hs⟩
            obtain ⟨Ob10,h10⟩:=HI9.out.put hs
            have H10:=Lib.hid h10
            clear hs h10
            go_wp2
            go_roundw
            case rel => exact ⟨k + 1,Ob10,vl3,by omega,by go_num,by rw [HM2.out]; exact H10⟩
            case measure => simp [intOf]; omega
      · obtain rfl:k = 1001:=by omega
        have hk1:decide (((1001:Nat):Int) ≤ 1000) = false:=by decide
        by_cases hf0:fr = 0
        · subst hf0
          have HSP:Hid (sp = { s with ct := { s.ct with bx:=yb },q := { yq with st:=true } }):=Lib.hid (by
            have h1:=HPU.out (yb,yq) (HPD.out.trans (HEN.out hN.symm))
            rw [h1]
            simp only [HFR.out]
            rfl)
          clear e8 e9 e10 t0 htz hbz
          generalize hwr:wr = wz at HI ⊢
          go_upto_region 8 with fail
          obtain ⟨e8,e9,_⟩:=HI.out.dr.cells
          have hbz:=HI.out.dr.blt
          obtain ⟨t0,_⟩:=HI.out.ct.cells
          have htz:bb < wz.heap.size:=HI.out.ct.lt bb (.inl rfl)
          have hcl:∀ (n:Later wz) (b o:Nat),b < wz.heap.size → n.w.cell? ⟨b,o,none⟩ = wz.cell? ⟨b,o,none⟩:=later_cells wz
          have HCF:Hid (∀ q:Later wz,Calls Tryz.prog 128 #[.pointer (some ⟨b5,0,none⟩)] q.w fun e w' => e = .returned (.int .i64 (0:Nat)) ∧ Below q.w.heap.size q.w w'):=Lib.hid (fun q => (xfree_v q.w (HI.out.later q.h).ct.bx HCT.out).mono fun e w' h => ⟨by rw [h.1,HFR.out],h.2 ▸ Below.refl _ _⟩)
          refine wp_region_sec 15 [] (fun _ _ _ => True) (fun _ _ _ _ _ _ => True.intro) (by kernel_rfl) (by kernel_rfl) (by kernel_rfl) (by kernel_rfl) (by kernel_rfl) ?_
          simp only [List.take_succ_cons,List.take_zero,List.drop_succ_cons,List.drop_zero]
          repeat ((first | refine sec_plain (by rfl) (by rfl) (by rfl) (by rfl) ?_ | refine sec_nil (by rfl) (by rfl) (by rfl) (by rfl) (by rfl) ?_); intro K hK; go_big_quiet_op; go_big_quiet_on)
          refine sec_call (v := .int .i64 (0:Nat)) (by rfl) (by rfl) (by rfl) (by rfl) (by rfl) ?_ ?_
          · intro q K hK
            go_big_quiet_op
            exact ⟨_,fun q2 => Later.call (HCF.out ⟨q2.w,fbelow_t q.h q2.h⟩),hK⟩
          simp only [Act.put,List.setIfInBounds_toArray,List.set_cons_succ,List.set_cons_zero]
          repeat ((first | refine sec_plain (by rfl) (by rfl) (by rfl) (by rfl) ?_ | refine sec_nil (by rfl) (by rfl) (by rfl) (by rfl) (by rfl) ?_); intro K hK; go_big_quiet_op; go_big_quiet_on)
          intro xs m9 hF
          simp only [secFill]
          clear hF xs hcl e8 e9 t0 htz hbz
          have HI9:=Lib.hid (HI.out.later m9.h)
          generalize m9.w = w9 at HI9 ⊢
          have qf:w9.frozen? ⟨bq,3,none⟩ = false:=Lib.frozen_of_heap HI9.out.q.box 3
          obtain ⟨_,_,_,q3⟩:=HI9.out.q.cells
          have hqz:bq < w9.heap.size:=HI9.out.q.lt bq (.inl rfl)
          obtain ⟨m5,k5⟩:=HI9.out.dr.setStop HI9.out.q true
          have HM5:=Lib.hid m5
          have HK5:=Lib.hid (HI9.out.kept.trans k5 HI9.out.grows)
          clear m5 k5
          go_wp2
          go_end0
          rw [HSP.out]
          exact ⟨rfl,xqdone HM5.out HK5.out HI9.out.grows⟩
        · have HSP:Hid (sp = { s with ct := { s.ct with bx:=yb },q := { yq with st:=false } }):=Lib.hid (by
            have h1:=HPU.out (yb,yq) (HPD.out.trans (HEN.out hN.symm))
            rw [h1]
            simp only [HFR.out,decide_eq_false hf0])
          have hf3:((fr:Int) == 0) = false:=by simp; omega
          clear e8 e9 e10 t0 htz hbz
          generalize hwr:wr = wz at HI ⊢
          go_upto_region 8 with fail
          obtain ⟨e8,e9,_⟩:=HI.out.dr.cells
          have hbz:=HI.out.dr.blt
          obtain ⟨t0,_⟩:=HI.out.ct.cells
          have htz:bb < wz.heap.size:=HI.out.ct.lt bb (.inl rfl)
          have hcl:∀ (n:Later wz) (b o:Nat),b < wz.heap.size → n.w.cell? ⟨b,o,none⟩ = wz.cell? ⟨b,o,none⟩:=later_cells wz
          have HCF:Hid (∀ q:Later wz,Calls Tryz.prog 128 #[.pointer (some ⟨b5,0,none⟩)] q.w fun e w' => e = .returned (.int .i64 (fr:Nat)) ∧ Below q.w.heap.size q.w w'):=Lib.hid (fun q => (xfree_v q.w (HI.out.later q.h).ct.bx HCT.out).mono fun e w' h => ⟨by rw [h.1,HFR.out],h.2 ▸ Below.refl _ _⟩)
          refine wp_region_sec 15 [] (fun _ _ _ => True) (fun _ _ _ _ _ _ => True.intro) (by kernel_rfl) (by kernel_rfl) (by kernel_rfl) (by kernel_rfl) (by kernel_rfl) ?_
          simp only [List.take_succ_cons,List.take_zero,List.drop_succ_cons,List.drop_zero]
          repeat ((first | refine sec_plain (by rfl) (by rfl) (by rfl) (by rfl) ?_ | refine sec_nil (by rfl) (by rfl) (by rfl) (by rfl) (by rfl) ?_); intro K hK; go_big_quiet_op; go_big_quiet_on)
          refine sec_call (v := .int .i64 (fr:Nat)) (by rfl) (by rfl) (by rfl) (by rfl) (by rfl) ?_ ?_
          · intro q K hK
            go_big_quiet_op
            exact ⟨_,fun q2 => Later.call (HCF.out ⟨q2.w,fbelow_t q.h q2.h⟩),hK⟩
          simp only [Act.put,List.setIfInBounds_toArray,List.set_cons_succ,List.set_cons_zero]
          repeat ((first | refine sec_plain (by rfl) (by rfl) (by rfl) (by rfl) ?_ | refine sec_nil (by rfl) (by rfl) (by rfl) (by rfl) (by rfl) ?_); intro K hK; go_big_quiet_op; go_big_quiet_on)
          intro xs m9 hF
          simp only [secFill]
          clear hF xs hcl e8 e9 t0 htz hbz
          have HI9:=Lib.hid (HI.out.later m9.h)
          generalize m9.w = w9 at HI9 ⊢
          have qf:w9.frozen? ⟨bq,3,none⟩ = false:=Lib.frozen_of_heap HI9.out.q.box 3
          obtain ⟨_,_,_,q3⟩:=HI9.out.q.cells
          have hqz:bq < w9.heap.size:=HI9.out.q.lt bq (.inl rfl)
          obtain ⟨m5,k5⟩:=HI9.out.dr.setStop HI9.out.q false
          have HM5:=Lib.hid m5
          have HK5:=Lib.hid (HI9.out.kept.trans k5 HI9.out.grows)
          clear m5 k5
          go_wp2
          go_end0
          rw [HSP.out]
          exact ⟨rfl,xqdone HM5.out HK5.out HI9.out.grows⟩
  · have hd:(s.st != 1) = true:=by simp [h1]
    have HE:Hid (s.push = s):=Lib.hid (by unfold Dr.push Dr.pushTo; rw [if_pos h1])
    rw [HE.out]
    have HST:=Lib.hid (H.out.stp (Below.refl _ w))
    clear h hcm hqm h1
    go_enter Tryz.func86,Tryz.ntmps86
    go_wp2
    refine bodyPost_ret (v := .tuple #[]) (by simp [results,Tryz.results86,go_sem]) rfl ⟨rfl,HST.out⟩
end Go.Proofs.YtimdkcchjanpaaaGreatDoor
