/- Drv, the document's side: Rx, and what its calls have in common with Tx. Printed by gen_drv.py. Drv, the document's side: Tx. Printed by gen_drv.py. Drv: wha .. -/
import Derived.Test.YtimdkcchjanpaaaGreatDoorZay
import Derived.Test.YtimdkcchjanpaaaGreatDoorZah
set_option maxHeartbeats 32000000
namespace Go.Proofs.YtimdkcchjanpaaaGreatDoor
open Go.RowKit
set_option linter.unusedVariables false
structure DwS (w0:World) (b:Nat) (cp qp:Value) (Oc Oq O:Nat → Prop) (s:Dr) (z:Nat) (o1:Obj) (y:Nat) (o2:Obj) (w:World):Prop where
  dr:DrM w b cp qp Oc Oq s
  kept:Kept O w0 w
  grows:Grows O w0 (drO b Oc Oq)
  hz:w.heap[z]? = some o1
  nz:w0.heap.size ≤ z
  oz:¬ drO b Oc Oq z
  hy:w.heap[y]? = some o2
  ny:w0.heap.size ≤ y
  oy:¬ drO b Oc Oq y
section
variable {w0 w w':World} {b z y:Nat} {cp qp:Value} {Oc Oq O:Nat → Prop} {s s':Dr} {o1 o2:Obj}
theorem DwS.later (h:DwS w0 b cp qp Oc Oq O s z o1 y o2 w) (hb:Below w.heap.size w w'):DwS w0 b cp qp Oc Oq O s z o1 y o2 w' :=
  ⟨h.dr.later hb,h.kept.trans (.of_below (O:=O) hb) (Grows.refl _ _),h.grows,(hb.block z (heap_some_lt h.hz)).trans h.hz,h.nz,h.oz,(hb.block y (heap_some_lt h.hy)).trans h.hy,h.ny,h.oy⟩
theorem DwS.ctrl {ct':Ct} (h:DwS w0 b cp qp Oc Oq O s z o1 y o2 w) (hs:Stp CtD cp Oc w ct' w'):∃ Oc',DwS w0 b cp qp Oc' Oq O { s with ct:=ct' } z o1 y o2 w':=by
  obtain ⟨Oc',m,k,g⟩:=h.dr.ctrl hs
  have lz:=heap_some_lt h.hz
  have ly:=heap_some_lt h.hy
  exact ⟨Oc',m,h.kept.trans k h.grows,h.grows.trans g h.kept.size,(k.block z lz h.oz).trans h.hz,h.nz,out_step lz h.oz g,(k.block y ly h.oy).trans h.hy,h.ny,out_step ly h.oy g⟩
theorem DwS.num (h:DwS w0 b cp qp Oc Oq O s z o1 y o2 w) (j:Nat) (u:Value) (hc:(drC s.c cp qp s.st s.sx).setIfInBounds j u = drC s'.c cp qp s'.st s'.sx) (h1:s'.ct = s.ct) (h2:s'.q = s.q):DwS w0 b cp qp Oc Oq O s' z o1 y o2 (w.setCell ⟨b,j,none⟩ u):=by
  obtain ⟨m,k⟩:=h.dr.setNum (s':=s') j u hc h1 h2
  have lz:=heap_some_lt h.hz
  have ly:=heap_some_lt h.hy
  exact ⟨m,h.kept.trans k h.grows,h.grows,(k.block z lz h.oz).trans h.hz,h.nz,h.oz,(k.block y ly h.oy).trans h.hy,h.ny,h.oy⟩
theorem DwS.whole (h:DwS w0 b cp qp Oc Oq O s z o1 y o2 w) (hs:Stp DrD (.pointer (some ⟨b,0,none⟩)) (drO b Oc Oq) w s' w'):∃ cp' qp' Oc' Oq',DwS w0 b cp' qp' Oc' Oq' O s' z o1 y o2 w':=by
  obtain ⟨O',⟨b',cp',qp',Oc',Oq',hv,rfl,m⟩,k,g⟩:=hs
  injection hv with hv; injection hv with hv; injection hv with hv
  subst hv
  have lz:=heap_some_lt h.hz
  have ly:=heap_some_lt h.hy
  exact ⟨cp',qp',Oc',Oq',m,h.kept.trans k h.grows,h.grows.trans g h.kept.size,(k.block z lz h.oz).trans h.hz,h.nz,out_step lz h.oz g,(k.block y ly h.oy).trans h.hy,h.ny,out_step ly h.oy g⟩
theorem DwS.done (h:DwS w0 b cp qp Oc Oq O s z o1 y o2 w) (ho:∀ k,k ≠ z → w'.heap[k]? = w.heap[k]?) (hr:w'.os = w.os ∧ w'.tape = w.tape ∧ w'.output = w.output ∧ w'.heap.size = w.heap.size):Stp DrD (.pointer (some ⟨b,0,none⟩)) O w0 s w':=by
  have nz:=h.nz
  exact ⟨_,⟨b,cp,qp,Oc,Oq,rfl,rfl,h.dr.stay (fun k hk => ho k (fun e => h.oz (e ▸ hk)))⟩,⟨hr.1.trans h.kept.os,hr.2.1.trans h.kept.tape,hr.2.2.1.trans h.kept.output,by rw [hr.2.2.2]; exact h.kept.size,fun k hk hn => (ho k (by omega)).trans (h.kept.block k hk hn)⟩,h.grows⟩
end
abbrev frZO:Obj := .cells #[.int .i64 0, .int .i64 0, .int .i64 0, .string (ByteArray.mk #[])] 35
abbrev frO (f:Fr):Obj := .cells #[.int .i64 f.i, .int .i64 f.n, .int .i64 f.l, .string f.d] 35
theorem xdrx_v {w:World} {v:Value} {s:Dr} {O:Nat → Prop} {B:Int} (h:DrD w v s O) (ok:s.Ok B) (hB:B ≤ 100000000):Calls Tryz.prog 44 #[v] w fun e w' => e = .returned (.tuple #[fmV s.rx.2.1, .int .i64 s.rx.2.2]) ∧ Stp DrD v O w s.rx.1 w':=by
  obtain ⟨b,cp,qp,Oc,Oq,rfl,rfl,h⟩:=h
  have H:=Lib.hid h
  have hb0:=(Below.refl w.heap.size w).alloc (Nat.le_refl _) frZO
  have hf0:=BoxF.made w 0 0 0 (ByteArray.mk #[])
  have HB0:=Lib.hid hb0
  obtain ⟨c8,c9,c10,_⟩:=(h.later hb0).cells
  have hbz:=(h.later hb0).blt
  by_cases h1:s.st = 0
  · have hd:(s.st == 0) = true:=by simp [h1]
    have HE:Hid (s.rx = (s,frz,7)):=Lib.hid (by unfold Dr.rx; rw [if_pos h1])
    rw [HE.out]
    clear h h1 hb0 hf0
    go_enter Tryz.func44,Tryz.ntmps44
    go_wp2
    refine bodyPost_ret (v := .tuple #[fmV frz, .int .i64 7]) ?_ rfl ⟨rfl,H.out.stp HB0.out⟩
    simp [results,Tryz.results44,go_sem,frz]
  have hd:(s.st == 0) = false:=by simp [h1]
  have HF0:=Lib.hid hf0
  have HOK:=Lib.hid ok
  have HM0:=Lib.hid (h.later hb0)
  have HNO:Hid (¬ drO b Oc Oq w.heap.size):=Lib.hid (fun h2 => absurd (h.lt _ h2) (by omega))
  have HFE:=Lib.hid (xfetch_v _ HM0.out.ct ok.ct)
  have hci:=h.ct
  obtain ⟨bb,bv,Ob,vf0,rfl,rfl,_⟩:=hci
  cases hff:s.ct.fifo with
  | nil =>
    have HE:Hid (s.rx = (s,frz,6)):=Lib.hid (by unfold Dr.rx; rw [if_neg h1,hff])
    have hfe:s.ct.fetch = (s.ct,⟨0,0,0,ByteArray.mk #[]⟩,false):=by unfold Ct.fetch; rw [hff]; rfl
    rw [HE.out]
    rw [hfe] at HFE
    clear h h1 hb0 hf0 ok hff hfe HE
    go_enter Tryz.func44,Tryz.ntmps44
    go_wp2_with fail
    refine HFE.out.mono ?_
    rintro e w1 ⟨rfl,hs⟩
    obtain ⟨Oc',m1,k1,g1⟩:=HM0.out.ctrl hs
    have HM1:=Lib.hid (m1.stp ((Below.refl w1.heap.size w1).alloc (Nat.le_refl _) frZO))
    have hk:=k1.block _ HF0.out.lt HNO.out
    have HF1:Hid (BoxF w1 w.heap.size 0 0 0 (ByteArray.mk #[])):=Lib.hid (hk.trans HF0.out)
    have z1:w.heap.size < w1.heap.size:=HF1.out.lt
    obtain ⟨d0,d1,d2,d3⟩:=HF1.out.cells
    have ff:∀ j,w1.frozen? ⟨w.heap.size,j,none⟩ = false:=fun j => Lib.frozen_of_heap HF1.out j
    have HDW:Hid (DwS w b (.pointer (some ⟨bb,0,none⟩)) qp Oc' Oq (drO b (ctO bb Ob vf0) Oq) { s with ct:=s.ct } w.heap.size frZO w1.heap.size frZO (w1.alloc frZO)):=Lib.hid (by
      have hbx:=(Below.refl w1.heap.size w1).alloc (Nat.le_refl _) frZO
      exact ⟨m1.later hbx,((Kept.of_below HB0.out).trans k1 (Grows.refl _ _)).trans (.of_below (O:=drO b (ctO bb Ob vf0) Oq) hbx) (Grows.refl _ _),fun k hk => (g1 k hk).imp id (fun h => Nat.le_trans HB0.out.size h),(hbx.block _ z1).trans HF1.out,Nat.le_refl _,out_step HF0.out.lt HNO.out g1,heap_alloc_new _ _,by omega,fun h => by have:=m1.lt _ h; omega⟩)
    clear hs m1 k1 g1 hk HFE c8 c9 c10 hbz
    clear d0 d1 d2 d3 ff HM1
    go_upto_region 5 with fail
    generalize hw2:w1.alloc frZO = w2 at HDW ⊢
    generalize w1.heap.size = y at HDW z1 ⊢
    have HZ2:Hid (BoxF w2 w.heap.size 0 0 0 (ByteArray.mk #[])):=Lib.hid HDW.out.hz
    have HY2:Hid (BoxF w2 y 0 0 0 (ByteArray.mk #[])):=Lib.hid HDW.out.hy
    obtain ⟨d0,d1,d2,d3⟩:=HZ2.out.cells
    obtain ⟨x0,x1,x2,x3⟩:=HY2.out.cells
    have ff:∀ j,w2.frozen? ⟨w.heap.size,j,none⟩ = false:=fun j => Lib.frozen_of_heap HZ2.out j
    have z2:=HZ2.out.lt
    have zy:=HY2.out.lt
    obtain ⟨wz,ez⟩:∃ wz,(((w2.setCell ⟨w.heap.size,0,none⟩ (.int .i64 0)).setCell ⟨w.heap.size,1,none⟩ (.int .i64 0)).setCell ⟨w.heap.size,2,none⟩ (.int .i64 0)).setCell ⟨w.heap.size,3,none⟩ (.string (ByteArray.mk #[])) = wz:=⟨_,rfl⟩
    have HP:Hid (BoxF wz w.heap.size 0 0 0 (ByteArray.mk #[])):=Lib.hid (by rw [← ez]; exact boxF_set HZ2.out)
    have HST:Hid (Stp DrD (.pointer (some ⟨b,0,none⟩)) (drO b (ctO bb Ob vf0) Oq) w s wz):=Lib.hid (HDW.out.done (fun k hk => by rw [← ez]; iterate 4 rw [Below.heap_setCell _ _ _ _ hk]) (by rw [← ez]; exact ⟨rfl,rfl,rfl,by simp [World.setCell]⟩))
    clear hw2
    go_wp2
    obtain ⟨g0,g1,g2,g3⟩:=HP.out.cells
    refine bodyPost_ret (v := .tuple #[fmV frz, .int .i64 6]) ?_ rfl ⟨rfl,HST.out⟩
    simp [results,Tryz.results44,go_sem,g0,g1,g2,g3,frz]
  | cons f r =>
    obtain ⟨ct1,hct1⟩:∃ c,({ s.ct with fifo:=r }:Ct) = c:=⟨_,rfl⟩
    have hfe:s.ct.fetch = (ct1,f,true):=by unfold Ct.fetch; rw [hff,← hct1]
    have HR0:Hid (s.rx = ({ s with ct:=if r = [] then { ct1 with asks:=clrK ct1.asks 6 4 } else ct1,sx := { s.sx with rf:=s.sx.rf + 1,rb:=s.sx.rb + f.l } },f,0)):=Lib.hid (by unfold Dr.rx; rw [if_neg h1,hff,← hct1])
    have HC1:Hid (ct1.fifo = r ∧ ct1.asks = s.ct.asks):=Lib.hid (by rw [← hct1]; exact ⟨rfl,rfl⟩)
    obtain ⟨sx,hsx⟩:∃ x,s.rx = x:=⟨_,rfl⟩
    rw [hsx] at HR0 ⊢
    rw [hfe] at HFE
    have hfl:=ok.fk f (by rw [hff]; simp)
    have HFL:=Lib.hid hfl
    have HBB:=Lib.hid hB
    have HRF:=Lib.hid ok.sx.rf
    have HRB:=Lib.hid ok.sx.rb
    have HAK:Hid (0 ≤ ct1.asks ∧ ct1.asks < 16):=Lib.hid (by rw [HC1.out.2]; exact ok.ct.ak)
    have HLF:Hid (ct1.fifo.length ≤ 1000):=Lib.hid (by rw [HC1.out.1]; have h2:=ok.ct.fifo; have h3:=ok.ct.room; rw [hff] at h2; simp at h2; omega)
    clear h h1 hb0 hf0 ok hff hfe hct1 hsx hfl hB
    go_enter Tryz.func44,Tryz.ntmps44
    go_wp2_with fail
    refine HFE.out.mono ?_
    rintro e w1 ⟨rfl,hs⟩
    obtain ⟨Oc',m1,k1,g1⟩:=HM0.out.ctrl hs
    have hk:=k1.block _ HF0.out.lt HNO.out
    have HF1:Hid (BoxF w1 w.heap.size 0 0 0 (ByteArray.mk #[])):=Lib.hid (hk.trans HF0.out)
    have z1:w.heap.size < w1.heap.size:=HF1.out.lt
    have HDW:Hid (DwS w b (.pointer (some ⟨bb,0,none⟩)) qp Oc' Oq (drO b (ctO bb Ob vf0) Oq) { s with ct:=ct1 } w.heap.size frZO w1.heap.size (frO f) (w1.alloc (frO f))):=Lib.hid (by
      have hbx:=(Below.refl w1.heap.size w1).alloc (Nat.le_refl _) (frO f)
      exact ⟨m1.later hbx,((Kept.of_below HB0.out).trans k1 (Grows.refl _ _)).trans (.of_below (O:=drO b (ctO bb Ob vf0) Oq) hbx) (Grows.refl _ _),fun k hk => (g1 k hk).imp id (fun h => Nat.le_trans HB0.out.size h),(hbx.block _ z1).trans HF1.out,Nat.le_refl _,out_step HF0.out.lt HNO.out g1,heap_alloc_new _ _,by omega,fun h => by have:=m1.lt _ h; omega⟩)
    clear hs m1 k1 g1 hk HFE c8 c9 c10 hbz HF1
    go_upto_region 6 with fail
    generalize hw2:w1.alloc (frO f) = w2 at HDW ⊢
    generalize w1.heap.size = y at HDW z1 ⊢
    obtain ⟨c8,c9,c10,c11,c12,c13,c14,_⟩:=HDW.out.dr.cells
    have f13:=HDW.out.dr.live 13
    have hbz:=HDW.out.dr.blt
    obtain ⟨r1,r2⟩:=HRF.out
    obtain ⟨r3,r4⟩:=HRB.out
    obtain ⟨l1,l2⟩:=HFL.out
    have hBB:=HBB.out
    have HD3:=Lib.hid (HDW.out.num (s' := { s with ct:=ct1,sx := { s.sx with rf:=s.sx.rf + 1 } }) 13 (.int .i64 (s.sx.rf + 1)) rfl rfl rfl)
    clear hw2
    go_upto_region 7 with fail
    generalize hw3:w2.setCell ⟨b,13,none⟩ (.int .i64 (s.sx.rf + 1)) = w3 at HD3 ⊢
    clear c8 c9 c10 c11 c12 c13 c14 f13 hbz
    obtain ⟨c8,c9,c10,c11,c12,c13,c14,_⟩:=HD3.out.dr.cells
    have f14:=HD3.out.dr.live 14
    have hbz:=HD3.out.dr.blt
    have HY3:Hid (BoxF w3 y f.i f.n f.l f.d):=Lib.hid HD3.out.hy
    obtain ⟨x0,x1,x2,x3⟩:=HY3.out.cells
    have zy:=HY3.out.lt
    clear hw3
    have hcl:∀ (n:Later w3) (b o:Nat),b < w3.heap.size → n.w.cell? ⟨b,o,none⟩ = w3.cell? ⟨b,o,none⟩:=later_cells w3
    refine wp_region_sec 12 [] (fun _ _ _ => True) (fun _ _ _ _ _ _ => True.intro) (by kernel_rfl) (by kernel_rfl) (by kernel_rfl) (by kernel_rfl) (by kernel_rfl) ?_
    simp only [List.take_succ_cons,List.take_zero,List.drop_succ_cons,List.drop_zero]
    repeat ((first | refine sec_plain (by rfl) (by rfl) (by rfl) (by rfl) ?_ | refine sec_nil (by rfl) (by rfl) (by rfl) (by rfl) (by rfl) ?_); intro K hK; go_big_quiet_op; go_big_quiet_on)
    intro xs m9 hF
    simp only [secFill]
    clear hF xs hcl c8 c9 c10 c11 c12 c13 c14 f14 hbz x0 x1 x2 x3 zy
    have HD4:=Lib.hid (HD3.out.later m9.h)
    generalize m9.w = w4 at HD4 ⊢
    obtain ⟨c8,c9,c10,c11,c12,c13,c14,_⟩:=HD4.out.dr.cells
    have f14:=HD4.out.dr.live 14
    have hbz:=HD4.out.dr.blt
    have HD5:=Lib.hid (HD4.out.num (s' := { s with ct:=ct1,sx := { s.sx with rf:=s.sx.rf + 1,rb:=s.sx.rb + f.l } }) 14 (.int .i64 (s.sx.rb + f.l)) rfl rfl rfl)
    go_upto_region 8 with fail
    generalize hw5:w4.setCell ⟨b,14,none⟩ (.int .i64 (s.sx.rb + f.l)) = w5 at HD5 ⊢
    clear c8 c9 c10 c11 c12 c13 c14 f14 hbz hw5
    obtain ⟨c8,c9,c10,_⟩:=HD5.out.dr.cells
    have hbz:=HD5.out.dr.blt
    have hci:=HD5.out.dr.ct
    obtain ⟨bb2,bv2,Ob2,vf2,hv2,rfl,hcm⟩:=hci
    injection hv2 with hv2; injection hv2 with hv2; injection hv2 with hv2
    subst hv2
    obtain ⟨A2,k2,hsh⟩:=hcm.fifo.shape
    subst hsh
    obtain ⟨t0,t1,_⟩:=hcm.cells
    have htz:bb < w5.heap.size:=hcm.lt bb (.inl rfl)
    have hlf:=HLF.out
    clear hcm
    by_cases h0:r = []
    · have HX:Hid (sx = ({ s with ct := { ct1 with asks:=clrK ct1.asks 6 4 },sx := { s.sx with rf:=s.sx.rf + 1,rb:=s.sx.rb + f.l } },f,0)):=Lib.hid (by rw [HR0.out,if_pos h0])
      have h0l:ct1.fifo.length = 0:=by rw [HC1.out.1,h0]; rfl
      rw [h0l] at t1
      clear h0 hlf
      go_wp2_with fail
      refine (xclear_v (n:=6) w5 HD5.out.dr.ct HAK.out).mono ?_
      rintro e w6 ⟨rfl,hs⟩
      obtain ⟨Oc6,h6⟩:=HD5.out.ctrl hs
      have HD6:=Lib.hid h6
      clear hs h6 c8 c9 c10 hbz t0 t1 htz
      have HZ9:Hid (BoxF w6 w.heap.size 0 0 0 (ByteArray.mk #[])):=Lib.hid HD6.out.hz
      have HY9:Hid (BoxF w6 y f.i f.n f.l f.d):=Lib.hid HD6.out.hy
      obtain ⟨d0,d1,d2,d3⟩:=HZ9.out.cells
      obtain ⟨x0,x1,x2,x3⟩:=HY9.out.cells
      have ff:∀ j,w6.frozen? ⟨w.heap.size,j,none⟩ = false:=fun j => Lib.frozen_of_heap HZ9.out j
      have z9:=HZ9.out.lt
      have zy9:=HY9.out.lt
      obtain ⟨wz,ez⟩:∃ wz,(((w6.setCell ⟨w.heap.size,0,none⟩ (.int .i64 f.i)).setCell ⟨w.heap.size,1,none⟩ (.int .i64 f.n)).setCell ⟨w.heap.size,2,none⟩ (.int .i64 f.l)).setCell ⟨w.heap.size,3,none⟩ (.string f.d) = wz:=⟨_,rfl⟩
      have HP:Hid (BoxF wz w.heap.size f.i f.n f.l f.d):=Lib.hid (by rw [← ez]; exact boxF_set HZ9.out)
      have HST:Hid (Stp DrD (.pointer (some ⟨b,0,none⟩)) (drO b (ctO bb Ob vf0) Oq) w ({ s with ct := { ct1 with asks:=clrK ct1.asks 6 4 },sx := { s.sx with rf:=s.sx.rf + 1,rb:=s.sx.rb + f.l } }) wz):=Lib.hid (HD6.out.done (fun k hk => by rw [← ez]; iterate 4 rw [Below.heap_setCell _ _ _ _ hk]) (by rw [← ez]; exact ⟨rfl,rfl,rfl,by simp [World.setCell]⟩))
      go_wp2
      obtain ⟨g0,g1,g2,g3⟩:=HP.out.cells
      refine bodyPost_ret (v := .tuple #[fmV f, .int .i64 0]) ?_ rfl ⟨by rw [HX.out],by rw [HX.out]; exact HST.out⟩
      simp [results,Tryz.results44,go_sem,g0,g1,g2,g3]
    · have HX:Hid (sx = ({ s with ct:=ct1,sx := { s.sx with rf:=s.sx.rf + 1,rb:=s.sx.rb + f.l } },f,0)):=Lib.hid (by rw [HR0.out,if_neg h0])
      have h0l:((ct1.fifo.length:Int) == 0) = false:=by rw [HC1.out.1]; simp; exact fun h => h0 h
      have h0n:(ct1.fifo.length == 0) = false:=by rw [HC1.out.1]; simp; exact h0
      clear h0
      have HZ9:Hid (BoxF w5 w.heap.size 0 0 0 (ByteArray.mk #[])):=Lib.hid HD5.out.hz
      have HY9:Hid (BoxF w5 y f.i f.n f.l f.d):=Lib.hid HD5.out.hy
      obtain ⟨d0,d1,d2,d3⟩:=HZ9.out.cells
      obtain ⟨x0,x1,x2,x3⟩:=HY9.out.cells
      have ff:∀ j,w5.frozen? ⟨w.heap.size,j,none⟩ = false:=fun j => Lib.frozen_of_heap HZ9.out j
      have z9:=HZ9.out.lt
      have zy9:=HY9.out.lt
      obtain ⟨wz,ez⟩:∃ wz,(((w5.setCell ⟨w.heap.size,0,none⟩ (.int .i64 f.i)).setCell ⟨w.heap.size,1,none⟩ (.int .i64 f.n)).setCell ⟨w.heap.size,2,none⟩ (.int .i64 f.l)).setCell ⟨w.heap.size,3,none⟩ (.string f.d) = wz:=⟨_,rfl⟩
      have HP:Hid (BoxF wz w.heap.size f.i f.n f.l f.d):=Lib.hid (by rw [← ez]; exact boxF_set HZ9.out)
      have HST:Hid (Stp DrD (.pointer (some ⟨b,0,none⟩)) (drO b (ctO bb Ob vf0) Oq) w ({ s with ct:=ct1,sx := { s.sx with rf:=s.sx.rf + 1,rb:=s.sx.rb + f.l } }) wz):=Lib.hid (HD5.out.done (fun k hk => by rw [← ez]; iterate 4 rw [Below.heap_setCell _ _ _ _ hk]) (by rw [← ez]; exact ⟨rfl,rfl,rfl,by simp [World.setCell]⟩))
      go_wp2
      obtain ⟨g0,g1,g2,g3⟩:=HP.out.cells
      refine bodyPost_ret (v := .tuple #[fmV f, .int .i64 0]) ?_ rfl ⟨by rw [HX.out],by rw [HX.out]; exact HST.out⟩
      simp [results,Tryz.results44,go_sem,g0,g1,g2,g3]
end Go.Proofs.YtimdkcchjanpaaaGreatDoor
namespace Go.Proofs.YtimdkcchjanpaaaGreatDoor
open Go.RowKit
set_option linter.unusedVariables false
theorem Dr.Ok.txq {s:Dr} {B:Int} (h:s.Ok B) {p:Pk} (hp:lnOk p.f) (is:Bool):({ s with ct:=s.ct.told,sx:=s.sx.tx p is }:Dr).Ok (B + 64):=by
  have hm:=h.mono (C:=B + 64) (by omega)
  obtain ⟨e1,e2,e3,e4,e5⟩:=s.ct.told_same
  exact ⟨h.ct.told,h.q,by simp only; rw [e3]; have:=h.ls; omega,h.st,h.sx.tx hp is,h.qk,by simp only; rw [e1]; exact bk_take h.bk,by simp only; rw [e2]; exact h.fk,by simp only; rw [e4,e5]; exact h.va⟩
abbrev pkO (p:Pk):Obj := .cells #[.int .i64 p.f.i, .int .i64 p.f.n, .int .i64 p.f.l, .string p.f.d, .int .i64 p.fr, .int .i64 p.tag, .bool p.lp] 37
abbrev pkZO:Obj := .cells #[.int .i64 0, .int .i64 0, .int .i64 0, .string (ByteArray.mk #[]), .int .i64 0, .int .i64 0, .bool false] 37
theorem CtM.told_box {w:World} {bb b5:Nat} {Ob:Nat → Prop} {vf:Value} {c:Ct} (h:CtM w bb (.pointer (some ⟨b5,0,none⟩)) Ob vf c):∃ A k,w.cell? ⟨b5,3,none⟩ = some (.slice A c.bx.fin.length k) ∧ b5 < w.heap.size:=by
  obtain ⟨b6,gs,gp,vo,ve,hv,_,hm⟩:=h.bx
  injection hv with hv; injection hv with hv; injection hv with hv
  subst hv
  obtain ⟨_,_,_,c3⟩:=hm.cells
  obtain ⟨A,k,hsh⟩:=hm.fin.shape
  subst hsh
  exact ⟨A,k,c3,heap_some_lt hm.box⟩
set_option maxRecDepth 4000 in
theorem xdtx_v {w:World} {v:Value} {s:Dr} {O:Nat → Prop} {B:Int} (h:DrD w v s O) (ok:s.Ok B) (hB:B ≤ 100000000):Calls Tryz.prog 43 #[v] w fun e w' => e = .returned (.tuple #[pkV s.tx.2.1, .bool s.tx.2.2.1, .int .i64 s.tx.2.2.2]) ∧ Stp DrD v O w s.tx.1 w':=by
  obtain ⟨b,cp,qp,Oc,Oq,rfl,rfl,h⟩:=h
  have H:=Lib.hid h
  have hb0:=(Below.refl w.heap.size w).alloc (Nat.le_refl _) pkZO
  have hf0:=BoxP.made w pk0
  have hzr:=zeroPk
  have HB0:=Lib.hid hb0
  obtain ⟨c8,c9,c10,_⟩:=(h.later hb0).cells
  have hbz:=(h.later hb0).blt
  have HF0:Hid (BoxP (w.alloc pkZO) w.heap.size pk0):=Lib.hid hf0
  obtain ⟨d0,d1,d2,d3,d4,d5,d6⟩:=HF0.out.cells
  by_cases h1:s.st = 0
  · have hd:(s.st == 0) = true:=by simp [h1]
    have HE:Hid (s.tx = (s,pk0,false,7)):=Lib.hid (by unfold Dr.tx; rw [if_pos h1])
    rw [HE.out]
    clear h h1 hb0 hf0
    go_enter Tryz.func43,Tryz.ntmps43
    go_wp2
    refine bodyPost_ret (v := .tuple #[pkV pk0, .bool false, .int .i64 7]) ?_ rfl ⟨rfl,H.out.stp HB0.out⟩
    simp [results,Tryz.results43,go_sem,pk0]
  have hd:(s.st == 0) = false:=by simp [h1]
  have HOK:=Lib.hid ok
  have HM0:=Lib.hid (h.later hb0)
  have HNO:Hid (¬ drO b Oc Oq w.heap.size):=Lib.hid (fun h2 => absurd (h.lt _ h2) (by omega))
  have hci:=HM0.out.ct
  obtain ⟨bb,bv,Ob,vf0,rfl,rfl,hcm⟩:=hci
  have hbi:=hcm.bx
  obtain ⟨b5,gs,gp,vo,ve,rfl,rfl,_⟩:=hbi
  obtain ⟨t0,_⟩:=hcm.cells
  have htz:bb < (w.alloc pkZO).heap.size:=hcm.lt bb (.inl rfl)
  have HCM:=Lib.hid hcm
  obtain ⟨Ob,hOb⟩:∃ O,bxO b5 gs gp vo ve = O:=⟨_,rfl⟩
  rw [hOb] at HCM HNO HM0 H
  rw [hOb]
  obtain ⟨r,hr⟩:∃ r,s.ct.bx.take.2 = r:=⟨_,rfl⟩
  obtain ⟨ri,p,is'⟩:=r
  have HTK:=Lib.hid hr
  obtain ⟨bx1,hbx1⟩:∃ x,s.ct.bx.take.1 = x:=⟨_,rfl⟩
  obtain ⟨ct1,hct1⟩:∃ c,({ s.ct with bx:=bx1 }:Ct) = c:=⟨_,rfl⟩
  have HCT:Hid (({ s.ct with bx:=bx1 }:Ct) = ct1):=Lib.hid hct1
  have HBX:=Lib.hid hbx1
  have HKI:Hid ((s.ct.bx.fin = [] ∧ ri = -1 ∧ bx1 = s.ct.bx) ∨ (s.ct.bx.fin ≠ [] ∧ 0 ≤ ri)):=Lib.hid (by
    unfold Bx.take at hr hbx1
    cases hff:s.ct.bx.fin with
    | nil =>
      rw [hff] at hr hbx1
      injection hr with h2 _
      exact .inl ⟨rfl,h2.symm,hbx1.symm⟩
    | cons x rr =>
      rw [hff] at hr
      injection hr with h2 _
      have h3:=(ok.ct.bx.fin x (by rw [hff]; simp)).1
      exact .inr ⟨by simp,by rw [← h2]; exact h3⟩)
  have HTX:Hid (s.ct.bx.fin = [] → s.tx = (s,pk0,false,6)):=Lib.hid (fun hff => by unfold Dr.tx; rw [if_neg h1,hff])
  have HTY:Hid (s.ct.bx.fin ≠ [] → s.tx = (({ s with ct:=if ct1.bx.fin = [] then { ct1 with asks:=clrK ct1.asks 1 4 } else ct1,sx:=s.sx.tx p is' }:Dr).push,p,is',0)):=Lib.hid (fun hff => by
    have htold:s.ct.told = if ct1.bx.fin = [] then { ct1 with asks:=clrK ct1.asks 1 4 } else ct1:=by
      unfold Ct.told
      rw [hbx1,← hct1]
    have hp2:s.ct.bx.take.2.2.1 = p ∧ s.ct.bx.take.2.2.2 = is':=by rw [hr]; exact ⟨rfl,rfl⟩
    unfold Dr.tx
    rw [if_neg h1]
    split
    · rename_i h2; exact absurd h2 hff
    · rw [htold,hp2.1,hp2.2])
  have HOX0:Hid (({ s with ct:=if ct1.bx.fin = [] then { ct1 with asks:=clrK ct1.asks 1 4 } else ct1,sx:=s.sx.tx p is' }:Dr).Ok (B + 64)):=Lib.hid (by
    have htold:s.ct.told = if ct1.bx.fin = [] then { ct1 with asks:=clrK ct1.asks 1 4 } else ct1:=by
      unfold Ct.told
      rw [hbx1,← hct1]
    rw [← htold]
    have hp2:s.ct.bx.take.2.2.1 = p:=by rw [hr]
    exact ok.txq (by rw [← hp2]; exact tk_ln ok.bk) is')
  have hpl:lnOk p.f:=by
    have hp2:s.ct.bx.take.2.2.1 = p:=by rw [hr]
    rw [← hp2]; exact tk_ln ok.bk
  have HPL:=Lib.hid hpl
  have HAK:Hid (0 ≤ ct1.asks ∧ ct1.asks < 16):=Lib.hid (by rw [← hct1]; exact ok.ct.ak)
  have HLF:Hid (ct1.bx.fin.length ≤ 1000):=Lib.hid (by rw [← hct1]; have h2:=ok.ct.bx.take.finLe; rw [hbx1] at h2; exact h2)
  have HBB:=Lib.hid hB
  have HTF:=Lib.hid ok.sx.tf
  have HTB:=Lib.hid ok.sx.tb
  have HAB:=Lib.hid ok.sx.ab
  obtain ⟨sx,hsx⟩:∃ x,s.tx = x:=⟨_,rfl⟩
  rw [hsx] at HTX HTY ⊢
  clear h h1 hb0 hf0 ok hcm hr hOb hct1 hbx1 hpl hB hsx
  go_enter Tryz.func43,Tryz.ntmps43
  go_wp2_with fail
  refine (xtake_v _ HCM.out.bx HOK.out.ct.bx HTK.out).mono ?_
  rintro e w1 ⟨rfl,hs⟩
  rw [HBX.out] at hs
  have hs2:=ctd_boxes HCM.out hs
  rw [HCT.out] at hs2
  obtain ⟨Oc',m1,k1,g1⟩:=HM0.out.ctrl hs2
  have hk:=k1.block _ HF0.out.lt HNO.out
  have HF1:Hid (BoxP w1 w.heap.size pk0):=Lib.hid (hk.trans HF0.out)
  have z1:w.heap.size < w1.heap.size:=HF1.out.lt
  have HDW:Hid (DwS w b (.pointer (some ⟨bb,0,none⟩)) qp Oc' Oq (drO b (ctO bb Ob vf0) Oq) { s with ct:=ct1 } w.heap.size pkZO w1.heap.size (pkO p) (w1.alloc (pkO p))):=Lib.hid (by
    have hbx:=(Below.refl w1.heap.size w1).alloc (Nat.le_refl _) (pkO p)
    exact ⟨m1.later hbx,((Kept.of_below HB0.out).trans k1 (Grows.refl _ _)).trans (.of_below (O:=drO b (ctO bb Ob vf0) Oq) hbx) (Grows.refl _ _),fun k hk => (g1 k hk).imp id (fun h => Nat.le_trans HB0.out.size h),(hbx.block _ z1).trans HF1.out,Nat.le_refl _,out_step HF0.out.lt HNO.out g1,heap_alloc_new _ _,by omega,fun h => by have:=m1.lt _ h; omega⟩)
  clear hs hs2 m1 k1 g1 hk c8 c9 c10 hbz HF1 d0 d1 d2 d3 d4 d5 d6 t0 htz
  rcases HKI.out with ⟨hff,rfl,hb1⟩ | ⟨hff,hri⟩
  · obtain rfl:(s,pk0,false,6) = sx:=(HTX.out hff).symm
    have HSS:Hid (({ s with ct:=ct1 }:Dr) = s):=Lib.hid (by rw [← HCT.out,hb1])
    clear hff hb1
    go_upto_region 5 with fail
    generalize hw2:w1.alloc (pkO p) = w2 at HDW ⊢
    generalize w1.heap.size = y at HDW z1 ⊢
    rw [HSS.out] at HDW
    have HZ9:Hid (BoxP w2 w.heap.size pk0):=Lib.hid HDW.out.hz
    obtain ⟨d0,d1,d2,d3,d4,d5,d6⟩:=HZ9.out.cells
    have ff:∀ j,w2.frozen? ⟨w.heap.size,j,none⟩ = false:=fun j => Lib.frozen_of_heap HZ9.out j
    have z9:=HZ9.out.lt
    have HP:Hid (BoxP (putB w2 w.heap.size pk0) w.heap.size pk0):=Lib.hid (HZ9.out.put pk0)
    have HST:Hid (Stp DrD (.pointer (some ⟨b,0,none⟩)) (drO b (ctO bb Ob vf0) Oq) w s (putB w2 w.heap.size pk0)):=Lib.hid (HDW.out.done (fun k hk => putB_other hk) ⟨(putB_rest _ _ _).1,(putB_rest _ _ _).2.1,(putB_rest _ _ _).2.2,putB_size _ _ _⟩)
    obtain ⟨wz,ez⟩:∃ wz,putB w2 w.heap.size pk0 = wz:=⟨_,rfl⟩
    rw [ez] at HP HST
    have hfold:((((((w2.setCell ⟨w.heap.size,0,none⟩ (.int .i64 0)).setCell ⟨w.heap.size,1,none⟩ (.int .i64 0)).setCell ⟨w.heap.size,2,none⟩ (.int .i64 0)).setCell ⟨w.heap.size,3,none⟩ (.string (ByteArray.mk #[]))).setCell ⟨w.heap.size,4,none⟩ (.int .i64 0)).setCell ⟨w.heap.size,5,none⟩ (.int .i64 0)).setCell ⟨w.heap.size,6,none⟩ (.bool false) = wz:=ez
    clear ez hw2
    go_wp2
    obtain ⟨g0,g1,g2,g3,g4,g5,g6⟩:=HP.out.cells
    refine bodyPost_ret (v := .tuple #[pkV pk0, .bool false, .int .i64 6]) ?_ rfl ⟨rfl,HST.out⟩
    simp [results,Tryz.results43,go_sem,g0,g1,g2,g3,g4,g5,g6]
  · have HR0:=Lib.hid (HTY.out hff)
    have hri2:¬ ri < 0:=by omega
    have hri3:decide (ri < 0) = false:=decide_eq_false hri2
    clear hff
    obtain ⟨r1,r2⟩:=HTF.out
    obtain ⟨r3,r4⟩:=HTB.out
    obtain ⟨r5,r6⟩:=HAB.out
    obtain ⟨l1,l2⟩:=HPL.out
    have hBB:=HBB.out
    cases is'
    · have HOX:Hid (({ s with ct:=if ct1.bx.fin = [] then { ct1 with asks:=clrK ct1.asks 1 4 } else ct1,sx := { s.sx with ab:=s.sx.ab + 1 } }:Dr).Ok (B + 64)):=Lib.hid HOX0.out
      go_upto_region 9 with fail
      generalize hw2:w1.alloc (pkO p) = w2 at HDW ⊢
      generalize w1.heap.size = y at HDW z1 ⊢
      obtain ⟨c8,c9,c10,c11,c12,c13,c14,c15,c16⟩:=HDW.out.dr.cells
      have f15:=HDW.out.dr.live 15
      have hbz:=HDW.out.dr.blt
      have HD3:=Lib.hid (HDW.out.num (s' := { s with ct:=ct1,sx := { s.sx with ab:=s.sx.ab + 1 } }) 15 (.int .i64 (s.sx.ab + 1)) rfl rfl rfl)
      clear hw2
      go_upto_region 10 with fail
      generalize w2.setCell ⟨b,15,none⟩ (.int .i64 (s.sx.ab + 1)) = w3 at HD3 ⊢
      clear c8 c9 c10 c11 c12 c13 c14 c15 c16 f15 hbz
      obtain ⟨c8,c9,c10,_⟩:=HD3.out.dr.cells
      have hbz:=HD3.out.dr.blt
      have hci:=HD3.out.dr.ct
      obtain ⟨bb2,bv2,Ob2,vf2,hv2,rfl,hcm⟩:=hci
      injection hv2 with hv2; injection hv2 with hv2; injection hv2 with hv2
      subst hv2
      have hbi:=hcm.bx
      obtain ⟨b7,gs7,gp7,vo7,ve7,rfl,rfl,_⟩:=hbi
      obtain ⟨t0,_⟩:=hcm.cells
      have htz:bb < w3.heap.size:=hcm.lt bb (.inl rfl)
      obtain ⟨A7,k7,t3,h7z⟩:=hcm.told_box
      have hlf:=HLF.out
      clear hcm
      by_cases h0:ct1.bx.fin = []
      · have HX:Hid (sx = (({ s with ct := { ct1 with asks:=clrK ct1.asks 1 4 },sx := { s.sx with ab:=s.sx.ab + 1 } }:Dr).push,p,false,0)):=Lib.hid (by rw [HR0.out,if_pos h0]; rfl)
        have HOA:Hid (({ s with ct := { ct1 with asks:=clrK ct1.asks 1 4 },sx := { s.sx with ab:=s.sx.ab + 1 } }:Dr).Ok (B + 64)):=Lib.hid (by have h2:=HOX.out; rw [if_pos h0] at h2; exact h2)
        have h0l:ct1.bx.fin.length = 0:=by rw [h0]; rfl
        rw [h0l] at t3
        clear h0 hlf
        go_wp2_with fail
        refine (xclear_v (n:=1) w3 HD3.out.dr.ct HAK.out).mono ?_
        rintro e w6 ⟨rfl,hs⟩
        obtain ⟨Oc6,h6⟩:=HD3.out.ctrl hs
        have HD6:=Lib.hid h6
        clear hs h6 c8 c9 c10 hbz t0 t3 htz h7z
        go_wp2_with fail
        refine (xdpush_v ⟨b,_,_,_,_,rfl,rfl,HD6.out.dr⟩ HOA.out).mono ?_
        rintro e w8 ⟨rfl,hs⟩
        obtain ⟨cp8,qp8,Oc8,Oq8,h8⟩:=HD6.out.whole hs
        have HD8:=Lib.hid h8
        clear hs h8
        have HZ9:Hid (BoxP w8 w.heap.size pk0):=Lib.hid HD8.out.hz
        have HY9:Hid (BoxP w8 y p):=Lib.hid HD8.out.hy
        obtain ⟨d0,d1,d2,d3,d4,d5,d6⟩:=HZ9.out.cells
        obtain ⟨x0,x1,x2,x3,x4,x5,x6⟩:=HY9.out.cells
        have ff:∀ j,w8.frozen? ⟨w.heap.size,j,none⟩ = false:=fun j => Lib.frozen_of_heap HZ9.out j
        have z9:=HZ9.out.lt
        have zy9:=HY9.out.lt
        have HP:Hid (BoxP (putB w8 w.heap.size p) w.heap.size p):=Lib.hid (HZ9.out.put p)
        have HST:Hid (Stp DrD (.pointer (some ⟨b,0,none⟩)) (drO b (ctO bb Ob vf0) Oq) w (({ s with ct := { ct1 with asks:=clrK ct1.asks 1 4 },sx := { s.sx with ab:=s.sx.ab + 1 } }:Dr).push) (putB w8 w.heap.size p)):=Lib.hid (HD8.out.done (fun k hk => putB_other hk) ⟨(putB_rest _ _ _).1,(putB_rest _ _ _).2.1,(putB_rest _ _ _).2.2,putB_size _ _ _⟩)
        obtain ⟨wz,ez⟩:∃ wz,putB w8 w.heap.size p = wz:=⟨_,rfl⟩
        rw [ez] at HP HST
        have hfold:((((((w8.setCell ⟨w.heap.size,0,none⟩ (.int .i64 p.f.i)).setCell ⟨w.heap.size,1,none⟩ (.int .i64 p.f.n)).setCell ⟨w.heap.size,2,none⟩ (.int .i64 p.f.l)).setCell ⟨w.heap.size,3,none⟩ (.string p.f.d)).setCell ⟨w.heap.size,4,none⟩ (.int .i64 p.fr)).setCell ⟨w.heap.size,5,none⟩ (.int .i64 p.tag)).setCell ⟨w.heap.size,6,none⟩ (.bool p.lp) = wz:=ez
        clear ez
        go_wp2
        obtain ⟨g0,g1,g2,g3,g4,g5,g6⟩:=HP.out.cells
        refine bodyPost_ret (v := .tuple #[pkV p, .bool false, .int .i64 0]) ?_ rfl ⟨by rw [HX.out],by rw [HX.out]; exact HST.out⟩
        simp [results,Tryz.results43,go_sem,g0,g1,g2,g3,g4,g5,g6]
      · have HX:Hid (sx = (({ s with ct:=ct1,sx := { s.sx with ab:=s.sx.ab + 1 } }:Dr).push,p,false,0)):=Lib.hid (by rw [HR0.out,if_neg h0]; rfl)
        have HOA:Hid (({ s with ct:=ct1,sx := { s.sx with ab:=s.sx.ab + 1 } }:Dr).Ok (B + 64)):=Lib.hid (by have h2:=HOX.out; rw [if_neg h0] at h2; exact h2)
        have h0l:((ct1.bx.fin.length:Int) == 0) = false:=by simp; exact h0
        have h0n:(ct1.bx.fin.length == 0) = false:=by simp; exact h0
        clear h0
        go_wp2_with fail
        refine (xdpush_v ⟨b,_,_,_,_,rfl,rfl,HD3.out.dr⟩ HOA.out).mono ?_
        rintro e w8 ⟨rfl,hs⟩
        obtain ⟨cp8,qp8,Oc8,Oq8,h8⟩:=HD3.out.whole hs
        have HD8:=Lib.hid h8
        clear hs h8 c8 c9 c10 hbz t0 t3 htz h7z hlf h0l h0n
        have HZ9:Hid (BoxP w8 w.heap.size pk0):=Lib.hid HD8.out.hz
        have HY9:Hid (BoxP w8 y p):=Lib.hid HD8.out.hy
        obtain ⟨d0,d1,d2,d3,d4,d5,d6⟩:=HZ9.out.cells
        obtain ⟨x0,x1,x2,x3,x4,x5,x6⟩:=HY9.out.cells
        have ff:∀ j,w8.frozen? ⟨w.heap.size,j,none⟩ = false:=fun j => Lib.frozen_of_heap HZ9.out j
        have z9:=HZ9.out.lt
        have zy9:=HY9.out.lt
        have HP:Hid (BoxP (putB w8 w.heap.size p) w.heap.size p):=Lib.hid (HZ9.out.put p)
        have HST:Hid (Stp DrD (.pointer (some ⟨b,0,none⟩)) (drO b (ctO bb Ob vf0) Oq) w (({ s with ct:=ct1,sx := { s.sx with ab:=s.sx.ab + 1 } }:Dr).push) (putB w8 w.heap.size p)):=Lib.hid (HD8.out.done (fun k hk => putB_other hk) ⟨(putB_rest _ _ _).1,(putB_rest _ _ _).2.1,(putB_rest _ _ _).2.2,putB_size _ _ _⟩)
        obtain ⟨wz,ez⟩:∃ wz,putB w8 w.heap.size p = wz:=⟨_,rfl⟩
        rw [ez] at HP HST
        have hfold:((((((w8.setCell ⟨w.heap.size,0,none⟩ (.int .i64 p.f.i)).setCell ⟨w.heap.size,1,none⟩ (.int .i64 p.f.n)).setCell ⟨w.heap.size,2,none⟩ (.int .i64 p.f.l)).setCell ⟨w.heap.size,3,none⟩ (.string p.f.d)).setCell ⟨w.heap.size,4,none⟩ (.int .i64 p.fr)).setCell ⟨w.heap.size,5,none⟩ (.int .i64 p.tag)).setCell ⟨w.heap.size,6,none⟩ (.bool p.lp) = wz:=ez
        clear ez
        go_wp2
        obtain ⟨g0,g1,g2,g3,g4,g5,g6⟩:=HP.out.cells
        refine bodyPost_ret (v := .tuple #[pkV p, .bool false, .int .i64 0]) ?_ rfl ⟨by rw [HX.out],by rw [HX.out]; exact HST.out⟩
        simp [results,Tryz.results43,go_sem,g0,g1,g2,g3,g4,g5,g6]
    · have HOX:Hid (({ s with ct:=if ct1.bx.fin = [] then { ct1 with asks:=clrK ct1.asks 1 4 } else ct1,sx := { s.sx with tf:=s.sx.tf + 1,tb:=s.sx.tb + p.f.l } }:Dr).Ok (B + 64)):=Lib.hid HOX0.out
      go_upto_region 7 with fail
      generalize hw2:w1.alloc (pkO p) = w2 at HDW ⊢
      generalize w1.heap.size = y at HDW z1 ⊢
      obtain ⟨c8,c9,c10,c11,c12,c13,c14,c15,c16⟩:=HDW.out.dr.cells
      have f11:=HDW.out.dr.live 11
      have hbz:=HDW.out.dr.blt
      have HD3:=Lib.hid (HDW.out.num (s' := { s with ct:=ct1,sx := { s.sx with tf:=s.sx.tf + 1 } }) 11 (.int .i64 (s.sx.tf + 1)) rfl rfl rfl)
      clear hw2
      go_upto_region 8 with fail
      generalize w2.setCell ⟨b,11,none⟩ (.int .i64 (s.sx.tf + 1)) = w3 at HD3 ⊢
      clear c8 c9 c10 c11 c12 c13 c14 c15 c16 f11 hbz
      obtain ⟨c8,c9,c10,c11,c12,_⟩:=HD3.out.dr.cells
      have hbz:=HD3.out.dr.blt
      have HY3:Hid (BoxP w3 y p):=Lib.hid HD3.out.hy
      obtain ⟨x0,x1,x2,x3,x4,x5,x6⟩:=HY3.out.cells
      have zy:=HY3.out.lt
      have hcl:∀ (n:Later w3) (b o:Nat),b < w3.heap.size → n.w.cell? ⟨b,o,none⟩ = w3.cell? ⟨b,o,none⟩:=later_cells w3
      refine wp_region_sec 13 [] (fun _ _ _ => True) (fun _ _ _ _ _ _ => True.intro) (by kernel_rfl) (by kernel_rfl) (by kernel_rfl) (by kernel_rfl) (by kernel_rfl) ?_
      simp only [List.take_succ_cons,List.take_zero,List.drop_succ_cons,List.drop_zero]
      repeat ((first | refine sec_plain (by rfl) (by rfl) (by rfl) (by rfl) ?_ | refine sec_nil (by rfl) (by rfl) (by rfl) (by rfl) (by rfl) ?_); intro K hK; go_big_quiet_op; go_big_quiet_on)
      intro xs m9 hF
      simp only [secFill]
      clear hF xs hcl c8 c9 c10 c11 c12 hbz x0 x1 x2 x3 x4 x5 x6 zy
      have HD4:=Lib.hid (HD3.out.later m9.h)
      generalize m9.w = w4 at HD4 ⊢
      obtain ⟨c8,c9,c10,c11,c12,_⟩:=HD4.out.dr.cells
      have f12:=HD4.out.dr.live 12
      have hbz:=HD4.out.dr.blt
      have HD5:=Lib.hid (HD4.out.num (s' := { s with ct:=ct1,sx := { s.sx with tf:=s.sx.tf + 1,tb:=s.sx.tb + p.f.l } }) 12 (.int .i64 (s.sx.tb + p.f.l)) rfl rfl rfl)
      go_upto_region 10 with fail
      generalize w4.setCell ⟨b,12,none⟩ (.int .i64 (s.sx.tb + p.f.l)) = w5 at HD5 ⊢
      clear c8 c9 c10 c11 c12 f12 hbz
      obtain ⟨c8,c9,c10,_⟩:=HD5.out.dr.cells
      have hbz:=HD5.out.dr.blt
      have hci:=HD5.out.dr.ct
      obtain ⟨bb2,bv2,Ob2,vf2,hv2,rfl,hcm⟩:=hci
      injection hv2 with hv2; injection hv2 with hv2; injection hv2 with hv2
      subst hv2
      have hbi:=hcm.bx
      obtain ⟨b7,gs7,gp7,vo7,ve7,rfl,rfl,_⟩:=hbi
      obtain ⟨t0,_⟩:=hcm.cells
      have htz:bb < w5.heap.size:=hcm.lt bb (.inl rfl)
      obtain ⟨A7,k7,t3,h7z⟩:=hcm.told_box
      have hlf:=HLF.out
      clear hcm
      by_cases h0:ct1.bx.fin = []
      · have HX:Hid (sx = (({ s with ct := { ct1 with asks:=clrK ct1.asks 1 4 },sx := { s.sx with tf:=s.sx.tf + 1,tb:=s.sx.tb + p.f.l } }:Dr).push,p,true,0)):=Lib.hid (by rw [HR0.out,if_pos h0]; rfl)
        have HOA:Hid (({ s with ct := { ct1 with asks:=clrK ct1.asks 1 4 },sx := { s.sx with tf:=s.sx.tf + 1,tb:=s.sx.tb + p.f.l } }:Dr).Ok (B + 64)):=Lib.hid (by have h2:=HOX.out; rw [if_pos h0] at h2; exact h2)
        have h0l:ct1.bx.fin.length = 0:=by rw [h0]; rfl
        rw [h0l] at t3
        clear h0 hlf
        go_wp2_with fail
        refine (xclear_v (n:=1) w5 HD5.out.dr.ct HAK.out).mono ?_
        rintro e w6 ⟨rfl,hs⟩
        obtain ⟨Oc6,h6⟩:=HD5.out.ctrl hs
        have HD6:=Lib.hid h6
        clear hs h6 c8 c9 c10 hbz t0 t3 htz h7z
        go_wp2_with fail
        refine (xdpush_v ⟨b,_,_,_,_,rfl,rfl,HD6.out.dr⟩ HOA.out).mono ?_
        rintro e w8 ⟨rfl,hs⟩
        obtain ⟨cp8,qp8,Oc8,Oq8,h8⟩:=HD6.out.whole hs
        have HD8:=Lib.hid h8
        clear hs h8
        have HZ9:Hid (BoxP w8 w.heap.size pk0):=Lib.hid HD8.out.hz
        have HY9:Hid (BoxP w8 y p):=Lib.hid HD8.out.hy
        obtain ⟨d0,d1,d2,d3,d4,d5,d6⟩:=HZ9.out.cells
        obtain ⟨x0,x1,x2,x3,x4,x5,x6⟩:=HY9.out.cells
        have ff:∀ j,w8.frozen? ⟨w.heap.size,j,none⟩ = false:=fun j => Lib.frozen_of_heap HZ9.out j
        have z9:=HZ9.out.lt
        have zy9:=HY9.out.lt
        have HP:Hid (BoxP (putB w8 w.heap.size p) w.heap.size p):=Lib.hid (HZ9.out.put p)
        have HST:Hid (Stp DrD (.pointer (some ⟨b,0,none⟩)) (drO b (ctO bb Ob vf0) Oq) w (({ s with ct := { ct1 with asks:=clrK ct1.asks 1 4 },sx := { s.sx with tf:=s.sx.tf + 1,tb:=s.sx.tb + p.f.l } }:Dr).push) (putB w8 w.heap.size p)):=Lib.hid (HD8.out.done (fun k hk => putB_other hk) ⟨(putB_rest _ _ _).1,(putB_rest _ _ _).2.1,(putB_rest _ _ _).2.2,putB_size _ _ _⟩)
        obtain ⟨wz,ez⟩:∃ wz,putB w8 w.heap.size p = wz:=⟨_,rfl⟩
        rw [ez] at HP HST
        have hfold:((((((w8.setCell ⟨w.heap.size,0,none⟩ (.int .i64 p.f.i)).setCell ⟨w.heap.size,1,none⟩ (.int .i64 p.f.n)).setCell ⟨w.heap.size,2,none⟩ (.int .i64 p.f.l)).setCell ⟨w.heap.size,3,none⟩ (.string p.f.d)).setCell ⟨w.heap.size,4,none⟩ (.int .i64 p.fr)).setCell ⟨w.heap.size,5,none⟩ (.int .i64 p.tag)).setCell ⟨w.heap.size,6,none⟩ (.bool p.lp) = wz:=ez
        clear ez
        go_wp2
        obtain ⟨g0,g1,g2,g3,g4,g5,g6⟩:=HP.out.cells
        refine bodyPost_ret (v := .tuple #[pkV p, .bool true, .int .i64 0]) ?_ rfl ⟨by rw [HX.out],by rw [HX.out]; exact HST.out⟩
        simp [results,Tryz.results43,go_sem,g0,g1,g2,g3,g4,g5,g6]
      · have HX:Hid (sx = (({ s with ct:=ct1,sx := { s.sx with tf:=s.sx.tf + 1,tb:=s.sx.tb + p.f.l } }:Dr).push,p,true,0)):=Lib.hid (by rw [HR0.out,if_neg h0]; rfl)
        have HOA:Hid (({ s with ct:=ct1,sx := { s.sx with tf:=s.sx.tf + 1,tb:=s.sx.tb + p.f.l } }:Dr).Ok (B + 64)):=Lib.hid (by have h2:=HOX.out; rw [if_neg h0] at h2; exact h2)
        have h0l:((ct1.bx.fin.length:Int) == 0) = false:=by simp; exact h0
        have h0n:(ct1.bx.fin.length == 0) = false:=by simp; exact h0
        clear h0
        go_wp2_with fail
        refine (xdpush_v ⟨b,_,_,_,_,rfl,rfl,HD5.out.dr⟩ HOA.out).mono ?_
        rintro e w8 ⟨rfl,hs⟩
        obtain ⟨cp8,qp8,Oc8,Oq8,h8⟩:=HD5.out.whole hs
        have HD8:=Lib.hid h8
        clear hs h8 c8 c9 c10 hbz t0 t3 htz h7z hlf h0l h0n
        have HZ9:Hid (BoxP w8 w.heap.size pk0):=Lib.hid HD8.out.hz
        have HY9:Hid (BoxP w8 y p):=Lib.hid HD8.out.hy
        obtain ⟨d0,d1,d2,d3,d4,d5,d6⟩:=HZ9.out.cells
        obtain ⟨x0,x1,x2,x3,x4,x5,x6⟩:=HY9.out.cells
        have ff:∀ j,w8.frozen? ⟨w.heap.size,j,none⟩ = false:=fun j => Lib.frozen_of_heap HZ9.out j
        have z9:=HZ9.out.lt
        have zy9:=HY9.out.lt
        have HP:Hid (BoxP (putB w8 w.heap.size p) w.heap.size p):=Lib.hid (HZ9.out.put p)
        have HST:Hid (Stp DrD (.pointer (some ⟨b,0,none⟩)) (drO b (ctO bb Ob vf0) Oq) w (({ s with ct:=ct1,sx := { s.sx with tf:=s.sx.tf + 1,tb:=s.sx.tb + p.f.l } }:Dr).push) (putB w8 w.heap.size p)):=Lib.hid (HD8.out.done (fun k hk => putB_other hk) ⟨(putB_rest _ _ _).1,(putB_rest _ _ _).2.1,(putB_rest _ _ _).2.2,putB_size _ _ _⟩)
        obtain ⟨wz,ez⟩:∃ wz,putB w8 w.heap.size p = wz:=⟨_,rfl⟩
        rw [ez] at HP HST
        have hfold:((((((w8.setCell ⟨w.heap.size,0,none⟩ (.int .i64 p.f.i)).setCell ⟨w.heap.size,1,none⟩ (.int .i64 p.f.n)).setCell ⟨w.heap.size,2,none⟩ (.int .i64 p.f.l)).setCell ⟨w.heap.size,3,none⟩ (.string p.f.d)).setCell ⟨w.heap.size,4,none⟩ (.int .i64 p.fr)).setCell ⟨w.heap.size,5,none⟩ (.int .i64 p.tag)).setCell ⟨w.heap.size,6,none⟩ (.bool p.lp) = wz:=ez
        clear ez
        go_wp2
        obtain ⟨g0,g1,g2,g3,g4,g5,g6⟩:=HP.out.cells
        refine bodyPost_ret (v := .tuple #[pkV p, .bool true, .int .i64 0]) ?_ rfl ⟨by rw [HX.out],by rw [HX.out]; exact HST.out⟩
        simp [results,Tryz.results43,go_sem,g0,g1,g2,g3,g4,g5,g6]
end Go.Proofs.YtimdkcchjanpaaaGreatDoor
namespace Go.Proofs.YtimdkcchjanpaaaGreatDoor
open Go.RowKit
set_option linter.unusedVariables false
abbrev sxV (x:Sx):Value := .agg #[.int .i64 x.tf, .int .i64 x.tb, .int .i64 x.rf, .int .i64 x.rb, .int .i64 x.ab, .int .i64 x.fx]
abbrev ehV (p:Pk) (t:Bool):Value := .agg #[.int .i64 p.f.i, .int .i64 p.f.n, .int .i64 p.f.l, .string p.f.d, .int .i64 p.fr, .int .i64 p.tag, .bool p.lp, .bool t]
structure AccD (w:World) (s:Dr) (O:Nat → Prop):Prop where
  sl:SlA flC 3 w O s.c.va s.la
  fit:∀ x ∈ s.la,x.fits
  few:s.c.n ≤ 50
structure DrvApi (P:Program) (fN fU fD fS fE fO fW fH fT fR fF fX fB fA fQ fM fK fL:Nat) (T:World → Prop) (I:World → Value → Dr → (Nat → Prop) → Prop):Prop where
  tab:∀ {w w'},T w → Below w.heap.size w w' → T w'
  obj:IsObj I
  ptr:∀ {w v s O},I w v s O → ∃ a,v = .pointer (some a)
  new:∀ (c:Cg) (L:List Flt) (w:World),T w → SlG flC 3 w w.heap.size c.va L → (∀ x ∈ L,x.fits) → c.n ≤ 50 → Calls P fN #[cgV c] w fun e w' => ∃ v O,e = .returned v ∧ I w' v (drNew c L) O ∧ Below w.heap.size w w' ∧ ∀ k,O k → w.heap.size ≤ k
  up:∀ {w v s O B},I w v s O → s.Ok B → T w → AccD w s O → Calls P fU #[v] w fun e w' => e = .returned (.int .i64 s.up.2) ∧ Stp I v O w s.up.1 w'
  down:∀ {w v s O B},I w v s O → s.Ok B → T w → AccD w s O → Calls P fD #[v] w fun e w' => e = .returned (.int .i64 s.down.2) ∧ Stp I v O w s.down.1 w'
  state:∀ {w v s O B},I w v s O → s.Ok B → Calls P fS #[v] w fun e w' => e = .returned (.int .i64 s.st) ∧ Below w.heap.size w w'
  send:∀ {w v s O B} (b:Int) (p:Pk),I w v s O → s.Ok B → T w → p.ok → Calls P fE #[v, .int .i64 b,pkV p] w fun e w' => e = .returned (.int .i64 (s.send b p).2) ∧ Stp I v O w (s.send b p).1 w'
  offer:∀ {w v s O B},I w v s O → s.Ok B → T w → Calls P fO #[v] w fun e w' => e = .returned (.tuple #[fmV s.offer.1, .bool s.offer.2]) ∧ Below w.heap.size w w'
  won:∀ {w v s O B},I w v s O → s.Ok B → T w → Calls P fW #[v] w fun e w' => e = .returned (.bool s.won.2) ∧ Stp I v O w s.won.1 w'
  hear:∀ {w v s O B} (f:Fr),I w v s O → s.Ok B → B ≤ 1000000 → T w → f.n64 → AccD w s O → Calls P fH #[v,fmV f] w fun e w' => e = .returned (.bool (s.hear f).2) ∧ Stp I v O w (s.hear f).1 w'
  tx:∀ {w v s O B},I w v s O → s.Ok B → B ≤ 1000000 → T w → Calls P fT #[v] w fun e w' => e = .returned (.tuple #[ehV s.tx.2.1 s.tx.2.2.1, .int .i64 s.tx.2.2.2]) ∧ Stp I v O w s.tx.1 w'
  rx:∀ {w v s O B},I w v s O → s.Ok B → B ≤ 1000000 → T w → Calls P fR #[v] w fun e w' => e = .returned (.tuple #[fmV s.rx.2.1, .int .i64 s.rx.2.2]) ∧ Stp I v O w s.rx.1 w'
  off:∀ {w v s O B},I w v s O → s.Ok B → T w → Calls P fF #[v] w fun e w' => e = .returned (.tuple #[]) ∧ Stp I v O w s.off w'
  fix:∀ {w v s O B},I w v s O → s.Ok B → B ≤ 1000000 → T w → Calls P fX #[v] w fun e w' => e = .returned (.int .i64 s.fix.2) ∧ Stp I v O w s.fix.1 w'
  back:∀ {w v s O B},I w v s O → s.Ok B → T w → Calls P fB #[v] w fun e w' => e = .returned (.tuple #[]) ∧ Stp I v O w s.back w'
  stats:∀ {w v s O B},I w v s O → s.Ok B → Calls P fA #[v] w fun e w' => e = .returned (sxV s.sx) ∧ Below w.heap.size w w'
  queued:∀ {w v s O B},I w v s O → s.Ok B → Calls P fQ #[v] w (Gives w fun w' u => SlA pkC 7 w' (fun k => k < w.heap.size) u s.q.all ∧ ShapeOk u)
  boxes:∀ {w v s O B},I w v s O → s.Ok B → Calls P fM #[v] w (Gives w fun w' u => SlA inC 1 w' (fun k => k < w.heap.size) u s.ct.bx.S ∧ ShapeOk u)
  kept:∀ {w v s O B},I w v s O → s.Ok B → Calls P fK #[v] w fun e w' => e = .returned (.int .i64 (s.ct.fifo.length:Nat)) ∧ Below w.heap.size w w'
  lost:∀ {w v s O B},I w v s O → s.Ok B → s.st ≠ 0 → Calls P fL #[v] w fun e w' => e = .returned (.int .i64 s.ct.lost) ∧ Below w.heap.size w w'
structure DrvNone (P:Program) (fU fD fS fE fO fW fH fT fR fF fX fB fA fQ fM fK fL:Nat):Prop where
  up:∀ w,Calls P fU #[.pointer none] w fun e w' => e = .returned (.int .i64 1) ∧ Below w.heap.size w w'
  down:∀ w,Calls P fD #[.pointer none] w fun e w' => e = .returned (.int .i64 1) ∧ Below w.heap.size w w'
  state:∀ w,Calls P fS #[.pointer none] w fun e w' => e = .returned (.int .i64 (-1)) ∧ Below w.heap.size w w'
  send:∀ (b:Int) (p:Pk) w,Calls P fE #[.pointer none, .int .i64 b,pkV p] w fun e w' => e = .returned (.int .i64 1) ∧ Below w.heap.size w w'
  offer:∀ w,Calls P fO #[.pointer none] w fun e w' => e = .returned (.tuple #[fmV frz, .bool false]) ∧ Below w.heap.size w w'
  won:∀ w,Calls P fW #[.pointer none] w fun e w' => e = .returned (.bool false) ∧ Below w.heap.size w w'
  hear:∀ (f:Fr) w,Calls P fH #[.pointer none,fmV f] w fun e w' => e = .returned (.bool false) ∧ Below w.heap.size w w'
  tx:∀ w,Calls P fT #[.pointer none] w fun e w' => e = .returned (.tuple #[ehV pk0 false, .int .i64 1]) ∧ Below w.heap.size w w'
  rx:∀ w,Calls P fR #[.pointer none] w fun e w' => e = .returned (.tuple #[fmV frz, .int .i64 1]) ∧ Below w.heap.size w w'
  off:∀ w,Calls P fF #[.pointer none] w fun e w' => e = .returned (.tuple #[]) ∧ Below w.heap.size w w'
  fix:∀ w,Calls P fX #[.pointer none] w fun e w' => e = .returned (.int .i64 1) ∧ Below w.heap.size w w'
  back:∀ w,Calls P fB #[.pointer none] w fun e w' => e = .returned (.tuple #[]) ∧ Below w.heap.size w w'
  stats:∀ w,Calls P fA #[.pointer none] w fun e w' => e = .returned (sxV sx0) ∧ Below w.heap.size w w'
  queued:∀ w,Calls P fQ #[.pointer none] w fun e w' => (∃ A c,e = .returned (.slice A 0 c)) ∧ Below w.heap.size w w'
  boxes:∀ w,Calls P fM #[.pointer none] w fun e w' => (∃ A c,e = .returned (.slice A 0 c)) ∧ Below w.heap.size w w'
  kept:∀ w,Calls P fK #[.pointer none] w fun e w' => e = .returned (.int .i64 0) ∧ Below w.heap.size w w'
  lost:∀ w,Calls P fL #[.pointer none] w fun e w' => e = .returned (.int .i64 0) ∧ Below w.heap.size w w'
abbrev DrvI (T:World → Prop) (I:World → Value → Dr → (Nat → Prop) → Prop):Prop:=DrvApi Tryz.prog 8 9 23 16 10 19 17 18 11 22 20 24 21 25 15 14 27 26 T I
abbrev DrvNo:Prop:=DrvNone Tryz.prog 9 23 16 10 19 17 18 11 22 20 24 21 25 15 14 27 26
end Go.Proofs.YtimdkcchjanpaaaGreatDoor
