/- Drv, the code: push, Send, Back. Printed by gen_dkf.py. Drv, the code: moreEnded, ended. Of no program: steps of the chain: a store that reads hidden slots;  .. -/
import Derived.Test.YtimdkcchjanpaaaGreatDoorZbb
import Derived.Test.YtimdkcchjanpaaaGreatDoorZag
import Derived.Test.YtimdkcchjanpaaaGreatDoorZad
import Derived.Test.YtimdkcchjanpaaaGreatDoorZal
set_option maxHeartbeats 16000000
namespace Go.Proofs.YtimdkcchjanpaaaGreatDoor
open Go.RowKit
set_option linter.unusedVariables false
theorem DkW.count {W w:World} {O:Nat → Prop} {b:Nat} {st:Int} {cg:Cg} {sx:Sx} {L:List Flt} {q:Bq} {c:Ct} {e:Ec} (h:DkW W O b st cg sx L q c e w):w.cell? ⟨b,4,none⟩ = some (.int .i64 (q.L.length:Nat)):=by
  obtain ⟨Y,Oq,hq,_⟩:=h.atQ
  obtain ⟨b',gm,D,V,hv,_,hm⟩:=hq
  injection hv with hv; injection hv with hv; injection hv with hv
  subst hv
  exact hm.cells.2.2.2.1
theorem Bq.take_len {s:Bq} (h:s.take.2.2 = true):s.take.1.L.length + 1 = s.L.length:=by
  unfold Bq.take at h ⊢
  split
  · rename_i hf; rw [hf] at h; cases h
  · rename_i i hf
    rw [hf] at h
    simp only at h ⊢
    split
    · rename_i hs; rw [if_pos hs] at h; cases h
    · have:=Bq.first_lt hf
      simp only
      rw [List.length_eraseIdx,if_pos this]
      omega
theorem pshN_v:pshN = 1001:=rfl
structure PuK (W:World) (O:Nat → Prop) (b:Nat) (cg:Cg) (sx:Sx) (L:List Flt) (c0:Ct) (x0:Bx × Bq) (k:Nat) (q:Bq) (x:Bx) (e:Ec) (w:World):Prop where
  dk:DkW W O b 1 cg sx L q { c0 with bx:=x } e w
  ps:psh x0 k = (x,q)
  te:TabE e x
  cn:k + q.L.length = x0.2.L.length
def pushJ (W:World) (O:Nat → Prop) (b:Nat) (cg:Cg) (sx:Sx) (L:List Flt) (c0:Ct) (x0:Bx × Bq) (a:Act) (w:World):Prop :=
  (∃ (x1 x2 x3 x4 x5 x6 x7 x8 x9 x10 x11 x12 x13 x14 x15 x16 x17 x18 x19 x20 x21 x22 x23 x24 x25 x26 x27 x28 x29 x30 x31 x32 x33 x34 x35 x36 x37 x38 x39 x40:Value),a = { tmps := #[.pointer (some ⟨b,0,none⟩),x1,x2,x3,x4,x5,x6,x7,x8,x9,x10,x11,x12,x13,x14,x15,x16,x17,x18,x19,x20,x21,x22,x23,x24,x25,x26,x27,x28,x29,x30,x31,x32,x33,x34,x35,x36,x37,x38,x39,x40],defers := [] }) ∧ ∃ k q x e,PuK W O b cg sx L c0 x0 k q x e w
theorem PuK.later {W w w':World} {O:Nat → Prop} {b:Nat} {cg:Cg} {sx:Sx} {L:List Flt} {c0:Ct} {x0:Bx × Bq} {k:Nat} {q:Bq} {x:Bx} {e:Ec} (h:PuK W O b cg sx L c0 x0 k q x e w) (hb:Below w.heap.size w w'):PuK W O b cg sx L c0 x0 k q x e w':=⟨h.dk.later hb,h.ps,h.te,h.cn⟩
def dnum:Option Value → Nat
  | some (.int _ n) => n.toNat
  | _ => 0
theorem Ct.Ok.withBx {c:Ct} (h:c.Ok) {x:Bx} (hx:x.Ok):({ c with bx:=x }:Ct).Ok:=⟨hx,h.ak,h.room,h.fifo,h.ls⟩
theorem DkS.pushTo {s:Dr} {cg:Cg} {L:List Flt} {q q':Bq} {c:Ct} {e e':Ec} {y:Bx × Bq} (h:DkS s cg L q c e) (h1:s.st = 1) (hq:q'.L = y.2.L) (hb:q'.bands = q.bands) (hr:q'.room = q.room) (hb2:y.2.bands = s.q.bands) (hr2:y.2.room = s.q.room) (hn:y.1.S.length = c.bx.S.length) (ht:TabE e' y.1) :
    DkS (s.pushTo y) cg L q' { c with bx:=y.1 } e':=by
  unfold Dr.pushTo
  rw [if_neg (fun h => h h1)]
  exact { h with qL:=hq,qb:=hb.trans (h.qb.trans hb2.symm),qr:=hr.trans (h.qr.trans hr2.symm),cx:=rfl,te:=ht,nb:=hn.trans h.nb,nq:=hb.trans h.nq,nr:=hr.trans h.nr,dn:=fun h0 => absurd (show s.st = 0 from h0) (by omega) }
theorem put_len (x:Bx) (p:Pk):(x.put p).1.S.length = x.S.length:=by
  unfold Bx.put
  split
  · rfl
  · split
    · simp [Bx.putAt]
    · rfl
theorem psh_inv (x:Bx × Bq):∀ k,(psh x k).2.bands = x.2.bands ∧ (psh x k).2.room = x.2.room ∧ (psh x k).1.S.length = x.1.S.length
  | 0 => ⟨rfl,rfl,rfl⟩
  | k + 1 => by
    obtain ⟨h1,h2,h3⟩:=psh_inv x k
    show (pshR (psh x k)).2.bands = _ ∧ (pshR (psh x k)).2.room = _ ∧ (pshR (psh x k)).1.S.length = _
    unfold pshR
    split
    · exact ⟨h1,h2,h3⟩
    · split
      · exact ⟨h1,h2,h3⟩
      · have ht:∀ s:Bq,s.take.1.bands = s.bands ∧ s.take.1.room = s.room:=fun s => by
          unfold Bq.take
          split
          · exact ⟨rfl,rfl⟩
          · split <;> exact ⟨rfl,rfl⟩
        exact ⟨(ht _).1.trans h1,(ht _).2.trans h2,(put_len _ _).trans h3⟩
set_option maxRecDepth 4000 in
theorem dkpush_v {W w:World} {O:Nat → Prop} {b:Nat} {s:Dr} {cg:Cg} {L:List Flt} {q:Bq} {c:Ct} {e:Ec} {B:Int} (h:DkW W O b s.st cg s.sx L q c e w) (hs:DkS s cg L q c e) (ok:s.Ok B) (hT:Tabs W) (hO:TabO O) :
    Calls Tryz.prog 39 #[.pointer (some ⟨b,0,none⟩)] w fun r w' => r = .returned (.tuple #[]) ∧ ∃ q' c' e',DkW W O b s.push.st cg s.push.sx L q' c' e' w' ∧ DkS s.push cg L q' c' e':=by
  have H:=Lib.hid h
  have c0:=h.cell0
  by_cases h1:s.st = 1
  case neg =>
    have HS:Hid (DkS s.push cg L q c e):=Lib.hid (by unfold Dr.push Dr.pushTo; rw [if_pos h1]; exact hs)
    have HW:Hid (DkW W O b s.push.st cg s.push.sx L q c e w):=Lib.hid (by unfold Dr.push Dr.pushTo; rw [if_pos h1]; exact h)
    have hd:(s.st != 1) = true:=by simpa using h1
    clear h hs ok hT hO h1
    go_enter Tryz.func39,Tryz.ntmps39
    refine (fun pass => wp_scope_label 0 (fun _ _ => False) (fun _ _ => 0) rfl pass ?_) (fun _ _ h => h.elim)
    intro _
    go_wp2
    simp only [Exit.jump]
    exact bodyPost_ret (results_none rfl _ _ _) rfl ⟨rfl,_,_,_,HW.out,HS.out⟩
  case pos =>
    obtain ⟨x0,hx0⟩:∃ x,(c.bx,({ q with st:=false }:Bq)) = x:=⟨_,rfl⟩
    have hqe:({ q with st:=false }:Bq) = { s.q with st:=false }:=by
      have h2:=hs.qL; have h3:=hs.qb; have h4:=hs.qr
      cases q; cases hq:s.q
      rw [hq] at h2 h3 h4
      simp only at h2 h3 h4
      subst h2 h3 h4
      rfl
    have HPI:Hid (PshI x0):=Lib.hid (by rw [← hx0,hqe,hs.cx]; exact ok.pshI)
    have HPD:Hid (s.pshd = psh x0 pshN):=Lib.hid (by unfold Dr.pshd; rw [← hx0,hqe,hs.cx])
    have HOK:=Lib.hid (hs.cOk ok)
    have HQOK:=Lib.hid (hs.qOk ok)
    have HDS:=Lib.hid hs
    have HT:=Lib.hid hT
    have HO:=Lib.hid hO
    have H1:=Lib.hid h1
    have HX0:Hid (x0.1 = c.bx ∧ x0.2 = { q with st:=false } ∧ x0.2.L.length ≤ 1000):=Lib.hid (by
      rw [← hx0]
      refine ⟨rfl,rfl, ?_⟩
      have:=HQOK.out.len; have:=HQOK.out.room
      show q.L.length ≤ 1000
      omega)
    have HEND:Hid (∀ k y q' e' w',psh x0 pshN = psh x0 k → psh x0 k = y → q'.L = y.2.L → q'.bands = y.2.bands → q'.room = y.2.room → TabE e' y.1 → DkW W O b 1 cg s.sx L q' { c with bx:=y.1 } e' w' → ∃ q' c' e',DkW W O b s.push.st cg s.push.sx L q' c' e' w' ∧ DkS s.push cg L q' c' e'):=Lib.hid (by
      intro k y q' e' w' h2 h3 h4 h5 h6 h7 h8
      have e1:s.push = s.pushTo y:=by unfold Dr.push; rw [HPD.out,h2,h3]
      obtain ⟨i1,i2,i3⟩:=psh_inv x0 k
      rw [h3,HX0.out.2.1] at i1 i2
      rw [h3,HX0.out.1] at i3
      refine ⟨q', { c with bx:=y.1 },e', ?_, ?_⟩
      · rw [e1]
        have e2:(s.pushTo y).st = 1 ∧ (s.pushTo y).sx = s.sx:=by unfold Dr.pushTo; rw [if_neg (fun h => h h1)]; exact ⟨h1,rfl⟩
        rw [e2.1,e2.2]; exact h8
      · rw [e1]
        exact DkS.pushTo HDS.out h1 h4 (h5.trans i1) (h6.trans i2) (i1.trans HDS.out.qb) (i2.trans HDS.out.qr) i3 h7)
    rw [h1] at H c0
    obtain ⟨Y,Oq,hq,hk⟩:=H.out.atQ
    have HQ:=Lib.hid (kqwake_v w hq)
    have HK0:Hid (∀ w',Stp (BdD dkT 1 [.int .i64 1] Y) (.pointer (some ⟨b,1,none⟩)) Oq w { q with st:=false } w' → PuK W O b cg s.sx L c x0 0 { q with st:=false } c.bx e w'):=Lib.hid (fun w' hw => ⟨hk _ _ hw,hx0.symm,hs.te,by rw [← hx0]; simp⟩)
    clear h hs ok hT hO h1 hx0 hqe hq hk
    have hd:((1:Int) != 1) = false:=rfl
    go_enter Tryz.func39,Tryz.ntmps39
    refine (fun pass => wp_scope_label 0 (pushJ W O b cg s.sx L c x0) (fun a' w' => dnum (w'.cell? ⟨b,4,none⟩)) rfl pass ?_) ?_
    · intro hpass
      go_wp2_with fail
      refine HQ.out.mono ?_
      rintro r w1 ⟨rfl,hw⟩
      have HP1:=Lib.hid (HK0.out _ hw)
      clear hw c0 HQ HK0
      go_wp2_with fail
      go_step3
      rename_i K hK
      exact hK _ _ (hpass _ _ ⟨⟨_,_,_,_,_,_,_,_,_,_,_,_,_,_,_,_,_,_,_,_,_,_,_,_,_,_,_,_,_,_,_,_,_,_,_,_,_,_,_,_,rfl⟩,0,_,_,_,HP1.out⟩)
    · rintro a' wr ⟨⟨x1,x2,x3,x4,x5,x6,x7,x8,x9,x10,x11,x12,x13,x14,x15,x16,x17,x18,x19,x20,x21,x22,x23,x24,x25,x26,x27,x28,x29,x30,x31,x32,x33,x34,x35,x36,x37,x38,x39,x40,rfl⟩,k,q,x,e,hS⟩
      have hpi:=HPI.out.psh k
      rw [hS.ps] at hpi
      have HPK:=Lib.hid hpi
      have hcn:k + q.L.length ≤ 1000:=by rw [hS.cn]; exact HX0.out.2.2
      have HKN:Hid (k ≤ pshN):=Lib.hid (by rw [pshN_v]; omega)
      have HCN:Hid (q.L.length ≤ 1000):=Lib.hid (by omega)
      have HCT:=Lib.hid hS.dk.count
      obtain ⟨X1,Y1,Oc,hc,_⟩:=hS.dk.atC
      have HC:=Lib.hid (kkfree_v hc (HOK.out.withBx hpi.bx))
      have HS:=Lib.hid hS
      obtain ⟨fr,hfr⟩:∃ f,x.free x.S.length = f:=⟨_,rfl⟩
      have HFR:=Lib.hid hfr
      simp only [hfr] at HC
      have hle:fr ≤ 1000:=by rw [← hfr]; exact Nat.le_trans (Bx.free_le _ _) hpi.bx.n2
      clear hS hpi hcn hc hfr c0 HQ HK0
      go_wp2_with fail
      refine HC.out.mono ?_
      rintro r w2 ⟨rfl,hb2⟩
      have HS2:=Lib.hid (HS.out.later hb2)
      clear hb2
      by_cases hf:fr = 0
      · subst hf
        obtain ⟨Y,Oq,hq,hk⟩:=HS2.out.dk.atQ
        have HQ:=Lib.hid (kqstop_v w2 hq)
        have HK:=Lib.hid hk
        have HFU:Hid (psh x0 pshN = psh x0 k):=Lib.hid (psh_full (by rw [HS2.out.ps]; exact HFR.out) HKN.out)
        clear hq hk
        go_wp2_with fail
        refine HQ.out.mono ?_
        rintro r w3 ⟨rfl,hw⟩
        have HW3:=Lib.hid (HK.out _ _ hw)
        clear hw
        go_wp2
        simp only [Exit.jump]
        exact bodyPost_ret (results_none rfl _ _ _) rfl ⟨rfl,HEND.out k (x,q) { q with st:=true } e _ HFU.out HS2.out.ps rfl rfl rfl HS2.out.te HW3.out⟩
      · have hf0:((fr:Int) == 0) = false:=by simpa using hf
        have HF0:Hid (x.free x.S.length ≠ 0):=Lib.hid (by rw [HFR.out]; exact hf)
        clear hf hle
        obtain ⟨Y,Oq,hq,hk⟩:=HS2.out.dk.atQ
        have HQ:=Lib.hid (kqtake_v w2 hq HPK.out.q)
        have HK:=Lib.hid hk
        clear hq hk
        cases ht:q.take.2.2
        · have HTK:Hid (q.tk = (q.take.2.1,6)):=Lib.hid (by unfold Bq.tk; rw [ht]; rfl)
          have HNO:Hid (psh x0 pshN = psh x0 k):=Lib.hid (psh_none (by rw [HS2.out.ps]; exact ht) HKN.out)
          have HQE:Hid (q.take.1.L = q.L ∧ q.take.1.bands = q.bands ∧ q.take.1.room = q.room):=Lib.hid (by
            unfold Bq.take at ht ⊢
            split
            · exact ⟨rfl,rfl,rfl⟩
            · rename_i i hi
              rw [hi] at ht
              simp only at ht ⊢
              split
              · exact ⟨rfl,rfl,rfl⟩
              · rename_i h; rw [if_neg h] at ht; cases ht)
          rw [HTK.out] at HQ
          generalize q.take.2.1 = p at HQ
          clear ht
          go_wp2_with fail
          refine HQ.out.mono ?_
          rintro r w3 ⟨rfl,hw⟩
          have HW3:=Lib.hid (HK.out _ _ hw)
          clear hw
          go_wp2
          simp only [Exit.jump]
          have hb4:=(Below.refl w3.heap.size w3).alloc (Nat.le_refl _) (.cells #[.int .i64 p.f.i, .int .i64 p.f.n, .int .i64 p.f.l, .string p.f.d, .int .i64 p.fr, .int .i64 p.tag, .bool p.lp] 37)
          exact bodyPost_end (results_none rfl _ _ _) rfl ⟨rfl,HEND.out k (x,q) _ e _ HNO.out HS2.out.ps HQE.out.1 HQE.out.2.1 HQE.out.2.2 HS2.out.te (HW3.out.later hb4)⟩
        · have HTK:Hid (q.tk = (q.take.2.1,0)):=Lib.hid (by unfold Bq.tk; rw [ht]; rfl)
          have HTL:=Lib.hid (Bq.take_len ht)
          have HMO:Hid (psh x0 (k + 1) = ((x.put q.take.2.1).1,q.take.1)):=Lib.hid (by
            have:=psh_more (x:=x0) (k:=k) (by rw [HS2.out.ps]; exact HF0.out) (by rw [HS2.out.ps]; exact ht)
            rw [this,HS2.out.ps])
          have HKY:Hid (0 ≤ keyG q.take.2.1.f):=Lib.hid ((q_take HPK.out.qk).1 ht)
          rw [HTK.out] at HQ
          generalize q.take.2.1 = p at HQ HMO HKY
          generalize q.take.1 = q' at HQ HMO HTL
          clear ht HTK
          go_wp2_with fail
          refine HQ.out.mono ?_
          rintro r w3 ⟨rfl,hw⟩
          have HW3:=Lib.hid (HK.out _ _ hw)
          clear hw
          go_upto_region 6 with fail
          have hb4:=(Below.refl w3.heap.size w3).alloc (Nat.le_refl _) (.cells #[.int .i64 p.f.i, .int .i64 p.f.n, .int .i64 p.f.l, .string p.f.d, .int .i64 p.fr, .int .i64 p.tag, .bool p.lp] 37)
          have hp4:=BoxP.made w3 p
          obtain ⟨w4,e4⟩:∃ w4,w3.alloc (.cells #[.int .i64 p.f.i, .int .i64 p.f.n, .int .i64 p.f.l, .string p.f.d, .int .i64 p.fr, .int .i64 p.tag, .bool p.lp] 37) = w4:=⟨_,rfl⟩
          rw [e4] at hb4 hp4 ⊢
          have HW4:=Lib.hid (HW3.out.later hb4)
          obtain ⟨d0,d1,d2,d3,d4,d5,d6⟩:=hp4.cells
          have hz4:=hp4.lt
          clear hb4 hp4 e4
          have hcl:∀ (n:Later w4) (b o:Nat),b < w4.heap.size → n.w.cell? ⟨b,o,none⟩ = w4.cell? ⟨b,o,none⟩:=later_cells w4
          refine wp_region_sec 4 [] (fun _ _ _ => True) (fun _ _ _ _ _ _ => True.intro) (by kernel_rfl) (by kernel_rfl) (by kernel_rfl) (by kernel_rfl) (by kernel_rfl) ?_
          simp only [List.take_succ_cons,List.take_zero,List.drop_succ_cons,List.drop_zero]
          repeat ((first | refine sec_plain (by rfl) (by rfl) (by rfl) (by rfl) ?_ | refine sec_nil (by rfl) (by rfl) (by rfl) (by rfl) (by rfl) ?_); intro K hK; go_big_quiet_op; go_big_quiet_on)
          intro xs m9 hF
          simp only [secFill]
          have HW5:=Lib.hid (HW4.out.later m9.h)
          clear hF xs hcl d0 d1 d2 d3 d4 d5 d6 hz4
          generalize m9.w = w5 at HW5 ⊢
          go_wp2_with fail
          refine (dkload_v p HW5.out (HOK.out.withBx HPK.out.bx) HS2.out.te (HW5.out.tabs HT.out HO.out) HO.out HT.out HKY.out HF0.out).mono ?_
          rintro r w6 ⟨rfl,e',hw6,ht6⟩
          have HW6:=Lib.hid hw6
          have HT6:=Lib.hid ht6
          clear hw6 ht6
          go_wp2
          go_step3
          refine ⟨rfl,⟨⟨_,_,_,_,_,_,_,_,_,_,_,_,_,_,_,_,_,_,_,_,_,_,_,_,_,_,_,_,_,_,_,_,_,_,_,_,_,_,_,_,rfl⟩,k + 1,q',(x.put p).1,e',HW6.out,HMO.out,HT6.out, ?_⟩, ?_⟩
          · have:=HS2.out.cn; have:=HTL.out; omega
          · rw [HW6.out.count,HCT.out]
            have:=HTL.out
            simp only [dnum]
            omega
theorem DkS.put {s:Dr} {cg:Cg} {L:List Flt} {q:Bq} {c:Ct} {e:Ec} (h:DkS s cg L q c e) (h0:s.st ≠ 0) (i:Int) (p:Pk):DkS { s with q:=(s.q.put i p).1 } cg L (q.put i p).1 c e ∧ (q.put i p).2 = (s.q.put i p).2:=by
  have h1:=h.qL; have h2:=h.qb; have h3:=h.qr
  unfold Bq.put Bq.at_
  rw [h1,h2,h3]
  split
  · exact ⟨h,rfl⟩
  · exact ⟨{ h with qL:=rfl,qb:=rfl,qr:=rfl,nq:=h2 ▸ h.nq,nr:=h3 ▸ h.nr,dn:=fun hx => absurd hx h0 },rfl⟩
theorem dksend_v {w:World} {v:Value} {s:Dr} {O:Nat → Prop} {B:Int} (i:Int) (p:Pk) (h:DkD w v s O) (ok:s.Ok B) (hT:Tabs w) (hp:p.ok):Calls Tryz.prog 10 #[v, .int .i64 i,pkV p] w fun e w' => e = .returned (.int .i64 (s.send i p).2) ∧ Stp DkD v O w (s.send i p).1 w':=by
  obtain ⟨b,cg,L,q,c,e,R,rfl,rfl,hd,hs,hO⟩:=h
  have hb0:=(Below.refl w.heap.size w).alloc (Nat.le_refl _) (.cells #[.int .i64 p.f.i, .int .i64 p.f.n, .int .i64 p.f.l, .string p.f.d, .int .i64 p.fr, .int .i64 p.tag, .bool p.lp] 37)
  have hp0:=BoxP.made w p
  obtain ⟨w0,e0⟩:∃ w0,w.alloc (.cells #[.int .i64 p.f.i, .int .i64 p.f.n, .int .i64 p.f.l, .string p.f.d, .int .i64 p.fr, .int .i64 p.tag, .bool p.lp] 37) = w0:=⟨_,rfl⟩
  rw [e0] at hb0 hp0
  have HW0:=Lib.hid (hd.start.later hb0)
  have HP0:=Lib.hid hp0
  have HO:=Lib.hid hO
  have HT:=Lib.hid hT
  have HT0:=Lib.hid (hT.below hb0)
  obtain ⟨d0,d1,d2,d3,d4,d5,d6⟩:=hp0.cells
  have hz0:=hp0.lt
  have c0:=HW0.out.cell0
  have HST:Hid (∀ w',DkW w (ownR b R) b s.st cg s.sx L q c e w' → Stp DkD (.pointer (some ⟨b,0,none⟩)) (ownR b R) w s w'):=Lib.hid (fun w' h => h.stp hs hO hT)
  by_cases h0:s.st = 0
  · have HE:Hid (s.send i p = (s,7)):=Lib.hid (by unfold Dr.send; rw [if_pos h0])
    rw [HE.out]
    have HK:=Lib.hid (dkworks_v c0 (r:=7) (by rw [if_pos h0]))
    clear hd hs ok h0 hT hp hb0 hp0 hO
    go_enter Tryz.func10,Tryz.ntmps10
    go_wp2_with fail
    refine HK.out.mono ?_
    rintro r w1 ⟨rfl,rfl⟩
    go_wp2
    go_ret
    exact ⟨rfl,HST.out _ HW0.out⟩
  · have HK:=Lib.hid (dkworks_v c0 (r:=0) (by rw [if_neg h0]))
    have HKY:=Lib.hid (key_v (i:=p.f.i) (n:=p.f.n) (l:=p.f.l) (d:=p.f.d) rfl w0 HT0.out hp.1 hp.2)
    by_cases hk:keyG p.f < 0
    · have HE:Hid (s.send i p = (s,4)):=Lib.hid (by unfold Dr.send; rw [if_neg h0,if_pos hk])
      rw [HE.out]
      have hkd:decide (keyV p.f.i p.f.n p.f.l p.f.d.size < 0) = true:=decide_eq_true hk
      generalize keyV p.f.i p.f.n p.f.l p.f.d.size = ky at HKY hkd
      clear hd hs ok h0 hT hp hb0 hp0 hO hk
      go_enter Tryz.func10,Tryz.ntmps10
      go_wp2_with fail
      refine HK.out.mono ?_
      rintro r w1 ⟨rfl,rfl⟩
      go_wp2_with fail
      refine HKY.out.mono ?_
      rintro r w1 ⟨rfl,hb1⟩
      have HW1:=Lib.hid (HW0.out.later hb1)
      clear hb1
      go_wp2
      go_ret
      exact ⟨rfl,HST.out _ HW1.out⟩
    · have hkd:decide (keyV p.f.i p.f.n p.f.l p.f.d.size < 0) = false:=decide_eq_false hk
      obtain ⟨hs2,he2⟩:=hs.put h0 i p
      have HQK:=Lib.hid (hs.qOk ok)
      have HS2:=Lib.hid hs2
      have HE2:=Lib.hid he2
      have HOK2:Hid (({ s with q:=(s.q.put i p).1 }:Dr).Ok B):=Lib.hid (⟨ok.ct,ok.q.put i p,ok.ls,ok.st,ok.sx,fun o ho => by
        simp only at ho
        unfold Bq.put at ho
        split at ho
        · exact ok.qk o ho
        · simp only [List.mem_append,List.mem_singleton] at ho
          rcases ho with ho | rfl
          · exact ok.qk o ho
          · show 0 ≤ keyG p.f
            omega,ok.bk,ok.fk,ok.va⟩)
      obtain ⟨sp,hsp⟩:∃ x,s.send i p = x:=⟨_,rfl⟩
      have HSN:Hid (sp = if (s.q.put i p).2 = 0 then (({ s with q:=(s.q.put i p).1 }:Dr).push,0) else (s,(s.q.put i p).2)):=Lib.hid (by rw [← hsp]; unfold Dr.send; rw [if_neg h0,if_neg hk])
      rw [hsp]
      have HER:Hid ((s.q.put i p).2 ≠ 0 → (s.q.put i p).1 = s.q):=Lib.hid (fun h => by
        unfold Bq.put at h ⊢
        split
        · rfl
        · rename_i h9; rw [if_neg h9] at h; exact (h rfl).elim)
      have HER2:Hid ((q.put i p).2 ≠ 0 → (q.put i p).1 = q):=Lib.hid (fun h => by
        unfold Bq.put at h ⊢
        split
        · rfl
        · rename_i h9; rw [if_neg h9] at h; exact (h rfl).elim)
      generalize keyV p.f.i p.f.n p.f.l p.f.d.size = ky at HKY hkd
      clear hd hs ok h0 hT hp hb0 hp0 hO hk hs2 he2 hsp
      go_enter Tryz.func10,Tryz.ntmps10
      go_wp2_with fail
      refine HK.out.mono ?_
      rintro r w1 ⟨rfl,rfl⟩
      go_wp2_with fail
      refine HKY.out.mono ?_
      rintro r w1 ⟨rfl,hb1⟩
      have HW1:=Lib.hid (HW0.out.later hb1)
      have HP1:=Lib.hid (HP0.out.later hb1)
      clear hb1 d0 d1 d2 d3 d4 d5 d6 hz0 c0 e0
      obtain ⟨d0,d1,d2,d3,d4,d5,d6⟩:=HP1.out.cells
      have hz1:=HP1.out.lt
      go_upto_region 6 with fail
      have hcl:∀ (n:Later w1) (b o:Nat),b < w1.heap.size → n.w.cell? ⟨b,o,none⟩ = w1.cell? ⟨b,o,none⟩:=later_cells w1
      refine wp_region_sec 6 [] (fun _ _ _ => True) (fun _ _ _ _ _ _ => True.intro) (by kernel_rfl) (by kernel_rfl) (by kernel_rfl) (by kernel_rfl) (by kernel_rfl) ?_
      simp only [List.take_succ_cons,List.take_zero,List.drop_succ_cons,List.drop_zero]
      repeat ((first | refine sec_plain (by rfl) (by rfl) (by rfl) (by rfl) ?_ | refine sec_nil (by rfl) (by rfl) (by rfl) (by rfl) (by rfl) ?_); intro K hK; go_big_quiet_op; go_big_quiet_on)
      intro xs m9 hF
      simp only [secFill]
      have HW2:=Lib.hid (HW1.out.later m9.h)
      clear hF xs hcl d0 d1 d2 d3 d4 d5 d6 hz1
      generalize m9.w = w2 at HW2 ⊢
      obtain ⟨Y,Oq,hq,hk⟩:=HW2.out.atQ
      have HC:=Lib.hid (kqput_v w2 i p hq HQK.out)
      have HKK:=Lib.hid hk
      clear hq hk
      rw [HE2.out] at HC
      obtain ⟨er,her⟩:∃ r,(s.q.put i p).2 = r:=⟨_,rfl⟩
      rw [her] at HC HSN HER
      by_cases h5:er = 0
      · subst h5
        obtain rfl:(({ s with q:=(s.q.put i p).1 }:Dr).push,0) = sp:=by rw [HSN.out,if_pos rfl]
        clear HSN HER her
        go_wp2_with fail
        refine HC.out.mono ?_
        rintro r w3 ⟨rfl,hw⟩
        have HW3:=Lib.hid (HKK.out _ _ hw)
        clear hw
        go_wp2_with fail
        refine (dkpush_v (s := { s with q:=(s.q.put i p).1 }) HW3.out HS2.out HOK2.out HT.out HO.out).mono ?_
        rintro r w4 ⟨rfl,q',c',e',hw4,hs4⟩
        have HW4:=Lib.hid hw4
        have HS4:=Lib.hid hs4
        clear hw4 hs4
        go_wp2
        go_ret
        exact ⟨rfl,DkW.stp HW4.out HS4.out HO.out HT.out⟩
      · obtain rfl:(s,er) = sp:=by rw [HSN.out,if_neg h5]
        have hd5:(er != 0) = true:=by simpa using h5
        have HQ5:=Lib.hid (HER2.out (by rw [HE2.out,her]; exact h5))
        clear HSN HER her h5
        go_wp2_with fail
        refine HC.out.mono ?_
        rintro r w3 ⟨rfl,hw⟩
        have HW3:=Lib.hid (HKK.out _ _ hw)
        rw [HQ5.out] at HW3
        clear hw
        go_wp2
        go_ret
        exact ⟨rfl,HST.out _ HW3.out⟩
theorem dkback_v {w:World} {v:Value} {s:Dr} {O:Nat → Prop} {B:Int} (h:DkD w v s O) (ok:s.Ok B) (hT:Tabs w):Calls Tryz.prog 21 #[v] w fun e w' => e = .returned (.tuple #[]) ∧ Stp DkD v O w s.back w':=by
  obtain ⟨b,cg,L,q,c,e,R,rfl,rfl,hd,hs,hO⟩:=h
  have HW0:=Lib.hid hd.start
  have c0:=HW0.out.cell0
  have f0:=HW0.out.live 0
  by_cases h3:s.st = 3
  · have HE:Hid (s.back = ({ s with st:=1,ct := { s.ct with asks:=clrK s.ct.asks 8 4 } }:Dr).push):=Lib.hid (by unfold Dr.back; rw [if_pos h3])
    rw [HE.out]
    have HS:Hid (DkS ({ s with st:=1,ct := { s.ct with asks:=clrK s.ct.asks 8 4 } }:Dr) cg L q { c with asks:=clrK c.asks 8 4 } e):=Lib.hid { hs.clr 8 with ls:=fun _ => hs.ls (by omega),dn:=fun h => by cases h }
    have HOK2:Hid (({ s with st:=1,ct := { s.ct with asks:=clrK s.ct.asks 8 4 } }:Dr).Ok B):=Lib.hid ⟨ok.ct.clear 8,ok.q,ok.ls,⟨by show (0:Int) ≤ 1; decide,by show (1:Int) ≤ 3; decide⟩,ok.sx,ok.qk,ok.bk,ok.fk,ok.va⟩
    have HO:=Lib.hid hO
    have HT:=Lib.hid hT
    have HOK:=Lib.hid (hs.cOk ok)
    have HW1:=Lib.hid (HW0.out.setSt 1)
    rw [h3] at c0
    have HP:=Lib.hid (dkpass_t (to:=1) c0 f0)
    clear hd hs hO hT ok c0 f0 h3
    go_enter Tryz.func21,Tryz.ntmps21
    go_wp2_with fail
    refine HP.out.mono ?_
    rintro e w1 ⟨rfl,hw⟩
    rw [← hw] at HW1
    obtain ⟨X',Y',Oc,hc,hk⟩:=HW1.out.atC
    have HC:=Lib.hid (kkclear_v 8 hc HOK.out)
    have HN:=Lib.hid hk
    clear hw hc hk
    go_wp2_with fail
    refine HC.out.mono ?_
    rintro e w2 ⟨rfl,hw⟩
    have HW2:=Lib.hid (HN.out _ _ hw)
    clear hw
    go_wp2_with fail
    refine (dkpush_v (s := { s with st:=1,ct := { s.ct with asks:=clrK s.ct.asks 8 4 } }) HW2.out HS.out HOK2.out HT.out HO.out).mono ?_
    rintro r w4 ⟨rfl,q',c',e',hw4,hs4⟩
    have HW4:=Lib.hid hw4
    have HS4:=Lib.hid hs4
    clear hw4 hs4
    go_wp2
    go_end0
    exact ⟨rfl,DkW.stp HW4.out HS4.out HO.out HT.out⟩
  · have HE:Hid (s.back = s):=Lib.hid (by unfold Dr.back; rw [if_neg h3])
    rw [HE.out]
    have HS:=Lib.hid (DkW.stp HW0.out hs hO hT)
    have HP:=Lib.hid (dkpass_f (fr:=3) (to:=1) c0 h3)
    clear hd hs hO ok h3 hT c0 f0
    go_enter Tryz.func21,Tryz.ntmps21
    go_wp2_with fail
    refine HP.out.mono ?_
    rintro e w1 ⟨rfl,rfl⟩
    go_wp2
    refine bodyPost_ret (results_none rfl _ _ _) rfl ⟨rfl,HS.out⟩
end Go.Proofs.YtimdkcchjanpaaaGreatDoor
namespace Go.Proofs.YtimdkcchjanpaaaGreatDoor
open Go.RowKit
set_option linter.unusedVariables false
theorem free_range (x:Bx):∀ k,k ≤ x.S.length → x.free k = ((List.range k).filter fun j => x.S.getD j 0 == 0).length
  | 0,_ => by simp [Bx.free]
  | k + 1,hk => by
    have ih:=free_range x k (by omega)
    rw [Bx.free_succ x (by omega),List.range_succ,List.filter_append,List.length_append,ih]
    have e:x.S.getD k 0 = x.S[k]'(by omega):=by rw [List.getD_eq_getElem?_getD,List.getElem?_eq_getElem (by omega)]; rfl
    congr 1
    rw [List.filter_cons,e]
    by_cases h:x.S[k]'(by omega) = 0
    · simp [h]
    · simp [h]
def anyEnd (S:List Int):Prop := ∃ i,i < S.length ∧ 2 ≤ S.getD i 0
theorem end_more {x:Bx} (ok:x.Ok) (hf:x.Full):anyEnd x.S ↔ x.fin ≠ []:=by
  constructor
  · rintro ⟨i,hi,h2⟩ h0
    have hc:=hf.cnt
    rw [h0,free_range x _ (Nat.le_refl _)] at hc
    simp only [List.length_nil,Nat.add_zero] at hc
    have hz:∀ y ∈ ((List.range x.S.length).filter fun j => x.S.getD j 0 == 0).map Int.ofNat,0 ≤ y ∧ y < (x.S.length:Int) ∧ x.S.getD y.toNat 0 = 0:=fun y hy => by
      obtain ⟨j,hj,rfl⟩:=List.mem_map.1 hy
      obtain ⟨h3,h4⟩:=List.mem_filter.1 hj
      rw [List.mem_range] at h3
      exact ⟨Int.natCast_nonneg _,by show (j:Int) < _; omega,by simpa using h4⟩
    have hnd:(((List.range x.S.length).filter fun j => x.S.getD j 0 == 0).map Int.ofNat).Nodup:=by
      refine List.Pairwise.map (R:=fun a b:Nat => a ≠ b) _ (fun a b hab h => hab (Int.ofNat.inj h)) ?_
      exact (List.nodup_range (n:=x.S.length)).filter _
    have hall:((i:Int) :: (x.ord ++ ((List.range x.S.length).filter fun j => x.S.getD j 0 == 0).map Int.ofNat)).Nodup:=by
      rw [List.nodup_cons,List.nodup_append]
      refine ⟨fun hm => ?_,ok.nd1,hnd,fun a ha c hc' e => ?_⟩
      · rcases List.mem_append.1 hm with hm | hm
        · have:=(ok.ord _ hm).2.2
          rw [Int.toNat_natCast] at this
          omega
        · have:=(hz _ hm).2.2
          rw [Int.toNat_natCast] at this
          omega
      · subst e
        have h3:=(ok.ord _ ha).2.2
        have h4:=(hz _ hc').2.2
        omega
    have hl:=nodup_le x.S.length _ hall (fun y hy => by
      rcases List.mem_cons.1 hy with rfl | hy
      · exact ⟨by omega,by omega⟩
      · rcases List.mem_append.1 hy with hy | hy
        · exact ⟨(ok.ord _ hy).1,(ok.ord _ hy).2.1⟩
        · exact ⟨(hz _ hy).1,(hz _ hy).2.1⟩)
    simp only [List.length_cons,List.length_append,List.length_map] at hl
    omega
  · intro h0
    cases hx:x.fin with
    | nil => exact absurd hx h0
    | cons y r =>
      obtain ⟨h1,h2,h3⟩:=ok.fin y (by rw [hx]; simp)
      exact ⟨y.toNat,by omega,by omega⟩
def noEnd (S:List Int) (k:Nat):Prop := ∀ i,i < k → S.getD i 0 < 2
theorem endClos (z:Int) (w:World):Calls Tryz.prog 122 #[.int .i64 z] w fun e w' => e = .returned (.bool (decide (2 ≤ z))) ∧ w = w':=by
  go_enter Tryz.func122,Tryz.ntmps122
  go_wp2
  go_ret
  exact ⟨rfl,rfl⟩
theorem ixEnd_v {w:World} {u:Value} {S:List Int} (h:SlG inC 1 w w.heap.size u S) (hl:S.length ≤ 1000) :
    Calls Tryz.prog 145 #[u, .func (.func 122) #[] #[]] w fun e w' => (∃ r:Int,e = .returned (.int .i64 r) ∧ (0 ≤ r ↔ anyEnd S)) ∧ w = w':=by
  have H:=Lib.hid h
  obtain ⟨A,cap,rfl,hm,_⟩:=h
  have eg:∀ args w,(callFunc 122 args).run Tryz.prog w = .ok (.enter 122 args) w:=fun _ _ => by kernel_rfl
  have l1:(S.length:Int) ≤ 1000:=by omega
  clear hm
  go_enter Tryz.func145,Tryz.ntmps145
  go_wp2
  go_loopw [8] (fun x wr => wr = w ∧ ∃ k:Nat,k ≤ S.length ∧ x = .int .i64 k ∧ Hid (noEnd S k)) (fun x _ => S.length - (intOf x).toNat)
  case atStart => exact ⟨rfl,0,Nat.zero_le _,rfl,Lib.hid (fun i h => absurd h (Nat.not_lt_zero _))⟩
  case round =>
    obtain ⟨rfl,k,hk,rfl,HN⟩:=hrel
    by_cases hlt:k < S.length
    · have hd:decide (k < S.length) = true:=decide_eq_true hlt
      have hlt2:(k:Int) < (S.length:Int):=by omega
      obtain ⟨x,cap',hv,hxb,c0⟩:=H.out.at1 hlt rfl
      injection hv with hA _ hcap
      subst hA
      subst hcap
      have HG:Hid (S.getD k 0 = S[k]'hlt):=Lib.hid (by rw [List.getD_eq_getElem?_getD,List.getElem?_eq_getElem hlt]; rfl)
      have HK:=Lib.hid hlt
      generalize S[k]'hlt = z at c0 HG
      go_wp2_with (refine (endClos z _).mono ?_; rintro e w2 ⟨rfl,rfl⟩)
      · go_ret
        exact ⟨⟨_,rfl,⟨fun _ => ⟨k,HK.out,by rw [HG.out]; omega⟩,fun _ => by omega⟩⟩,rfl⟩
      · go_roundw
        case rel => exact ⟨by trivial,k + 1,by omega,by go_num,Lib.hid (fun i hi => by
          rcases Nat.lt_or_ge i k with h1 | h1
          · exact HN.out i h1
          · obtain rfl:i = k:=by omega
            rw [HG.out]; omega)⟩
        case measure => simp [intOf]; omega
    · have hd:decide (k < S.length) = false:=decide_eq_false hlt
      obtain rfl:k = S.length:=by omega
      go_wp2
      go_ret
      refine ⟨⟨-1,rfl,⟨fun h => absurd h (by decide),fun ⟨i,h1,h2⟩ => ?_⟩⟩,rfl⟩
      have:=HN.out i h1
      omega
theorem hasEnd_v {w:World} {u:Value} {S:List Int} {r:Bool} (h:SlG inC 1 w w.heap.size u S) (hl:S.length ≤ 1000) (hr:r = true ↔ anyEnd S) :
    Calls Tryz.prog 121 #[u, .func (.func 122) #[] #[]] w fun e w' => e = .returned (.bool r) ∧ w = w':=by
  have HC:=Lib.hid (ixEnd_v h hl)
  have HR:=Lib.hid hr
  obtain ⟨A,cap,rfl,hm,_⟩:=h
  clear hl hm hr
  go_enter Tryz.func121,Tryz.ntmps121
  go_wp2_with fail
  refine HC.out.mono ?_
  rintro e w1 ⟨⟨z,rfl,hz⟩,rfl⟩
  have HZ:=Lib.hid hz
  clear hz
  go_wp2
  go_ret
  refine ⟨?_,rfl⟩
  have:decide (0 ≤ z) = r:=by
    rw [Bool.eq_iff_iff,HR.out,decide_eq_true_iff]; exact HZ.out
  rw [this]; rfl
theorem dkmore_v {W w:World} {O:Nat → Prop} {b:Nat} {st:Int} {cg:Cg} {sx:Sx} {L:List Flt} {q:Bq} {c:Ct} {e:Ec} {r:Bool} (h:DkW W O b st cg sx L q c e w) (cok:c.Ok) (hr:r = true ↔ c.bx.fin ≠ []) :
    Calls Tryz.prog 82 #[.pointer (some ⟨b,6,none⟩)] w fun e w' => e = .returned (.bool r) ∧ Below w.heap.size w w':=by
  have HR:Hid (r = true ↔ anyEnd c.bx.S):=Lib.hid (hr.trans (end_more cok.bx h.full).symm)
  obtain ⟨X,Y,Oc,hc,_⟩:=h.atC
  have HC:=Lib.hid (kkstates_v hc cok)
  have HN:Hid (c.bx.S.length ≤ 1000):=Lib.hid cok.bx.n2
  generalize c.bx.S = S at HC HR HN
  clear h cok hr hc
  go_enter Tryz.func82,Tryz.ntmps82
  go_wp2_with fail
  refine HC.out.mono ?_
  rintro e w1 ⟨u,rfl,⟨h1,h2⟩,hb⟩
  have H1:=Lib.hid h1.sl
  have HB:=Lib.hid hb
  obtain ⟨A,cap,rfl,_,_⟩:=h1
  clear h2 hb
  go_wp2_with fail
  refine (hasEnd_v H1.out HN.out HR.out).mono ?_
  rintro e w2 ⟨rfl,rfl⟩
  go_wp2
  go_ret
  exact ⟨rfl,HB.out⟩
end Go.Proofs.YtimdkcchjanpaaaGreatDoor
namespace Go.Proofs.YtimdkcchjanpaaaGreatDoor
open Go.RowKit
set_option linter.unusedVariables false
section
variable {P:Program} {ops:Array Oper} {st:List Nat} {G:Nat → (Tmp → Option Value) → World → Prop} {sec:List Tmp} {Q:Act → Prop} {o:Oper} {rest:List Oper} {h:Act} {i:Nat}
theorem st_turnH (k:Nat) (hi:st[k]? = some i) (hw:Region.wanted o (yielded ops h.tmps) = true) (hd:o.dst = none)
    (hrun:∀ (xs:Tmp → Option Value) (a:Act) (w:World),G k xs w → stLooks ops sec xs o h a → ∃ w',((execOp a.eval o).run P w = .ok .skip w' ∨ ∃ u,(execOp a.eval o).run P w = .ok (.value u) w') ∧ G (k + 1) xs w')
    (hk:wpSt P ops st G sec Q (i + 1) rest (h.put o.dst undef)):wpSt P ops st G sec Q i (o :: rest) h:=by
  unfold wpSt
  rw [if_pos hw]
  refine ⟨undef,fun j xs a w hj hjk hb hfr hlk => ?_,hk⟩
  obtain rfl:=hjk k hi
  obtain ⟨w',hr,hG⟩:=hrun xs a w hb hlk
  have key:∀ u,hidPut sec xs o.dst u = xs:=fun u => by rw [hd]; rfl
  have good:∀ u,stGood sec o.dst undef u:=fun u => by rw [hd]; trivial
  rw [if_pos (List.mem_of_getElem? hi)]
  rcases hr with hr | ⟨u,hr⟩
  · rw [hr]
    exact ⟨by rw [key]; exact hG,good _⟩
  · rw [hr]
    exact ⟨by rw [key]; exact hG,good _⟩
theorem st_newF {s:Tmp} {mk:World → Value} {ob:World → Obj} (hi:st.contains i = false) (hw:Region.wanted o (yielded ops h.tmps) = true) (hn:noSel o = true) (hl:secOpenL ops sec o = true) (hd:o.dst = some s) (hs:sec.contains s = true)
    (hrun:∀ w,(execOp h.eval o).run P w = .ok (.value (mk w)) (w.alloc (ob w))) (hG:∀ j xs w,G j xs w → xs s = none → G j (fun t => if t = s then Option.some (mk w) else xs t) (w.alloc (ob w)))
    (hk:wpSt P ops st G sec Q (i + 1) rest (h.put o.dst undef)):wpSt P ops st G sec Q i (o :: rest) h:=by
  unfold wpSt
  rw [if_pos hw]
  refine ⟨undef,fun j xs a w hj hjk hb hfr hlk => ?_,hk⟩
  have hi':i ∉ st:=by simpa using hi
  have hs':s ∈ sec:=by simpa using hs
  rw [if_neg hi',eval_open hl (noSel_spec hn) (stLooks_open hl hlk w),hrun w,hd]
  refine ⟨?_, .inl hs'⟩
  have:=hG j xs w hb (hfr s hd hs')
  unfold hidPut
  simp only
  rw [if_pos hs']
  exact this
theorem st_anyF {s:Tmp} (hi:st.contains i = false) (hw:Region.wanted o (yielded ops h.tmps) = true) (hd:o.dst = some s) (hs:sec.contains s = true)
    (hrun:∀ (j:Nat) (xs:Tmp → Option Value) (a:Act) (w:World),G j xs w → xs s = none → stLooks ops sec xs o h a → ∃ u,(execOp a.eval o).run P w = .ok (.value u) w ∧ G j (fun t => if t = s then Option.some u else xs t) w)
    (hk:wpSt P ops st G sec Q (i + 1) rest (h.put o.dst undef)):wpSt P ops st G sec Q i (o :: rest) h:=by
  unfold wpSt
  rw [if_pos hw]
  refine ⟨undef,fun j xs a w hj hjk hb hfr hlk => ?_,hk⟩
  have hi':i ∉ st:=by simpa using hi
  have hs':s ∈ sec:=by simpa using hs
  obtain ⟨u,hr,hG⟩:=hrun j xs a w hb (hfr s hd hs') hlk
  rw [if_neg hi',hr,hd]
  refine ⟨?_, .inl hs'⟩
  unfold hidPut
  simp only
  rw [if_pos hs']
  exact hG
theorem st_callFF {f:FuncId} {args:Array Value} {s:Tmp} (hi:st.contains i = false) (hw:Region.wanted o (yielded ops h.tmps) = true) (hn:noSel o = true) (hl:secOpenL ops sec o = true) (hd:o.dst = some s) (hs:sec.contains s = true)
    (hrun:∀ w,(execOp h.eval o).run P w = .ok (.enter f args) w) (hc:∀ j xs w,G j xs w → xs s = none → Calls P f args w fun e w' => ∃ u,e = .returned u ∧ G j (fun t => if t = s then Option.some u else xs t) w')
    (hk:wpSt P ops st G sec Q (i + 1) rest (h.put o.dst undef)):wpSt P ops st G sec Q i (o :: rest) h:=by
  unfold wpSt
  rw [if_pos hw]
  refine ⟨undef,fun j xs a w hj hjk hb hfr hlk => ?_,hk⟩
  have hi':i ∉ st:=by simpa using hi
  have hs':s ∈ sec:=by simpa using hs
  rw [if_neg hi',eval_open hl (noSel_spec hn) (stLooks_open hl hlk w),hrun w]
  refine ⟨rfl,(hc j xs w hb (hfr s hd hs')).mono ?_⟩
  rintro e w' ⟨u,h0,h1⟩
  refine ⟨u,h0, ?_,by rw [hd]; exact .inl hs'⟩
  rw [hd]
  unfold hidPut
  simp only
  rw [if_pos hs']
  exact h1
end
end Go.Proofs.YtimdkcchjanpaaaGreatDoor
