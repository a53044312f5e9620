/- Drv: walk of DrvOnce. Printed by gen_once.py. -/
import Derived.Test.YtimdkcchjanpaaaGreatDoorZbq
import Derived.Deep.DeepCutAuto
import Derived.Deep.CutBlock
set_option maxHeartbeats 64000000
namespace Go.Proofs.YtimdkcchjanpaaaGreatDoor
open Go.RowKit
set_option linter.unusedVariables false
structure OnR (w:World) (s:Dr) (M:List Pk) (U:Nat → Bool) (n k:Nat):Prop where
  pre:DoPre w s (64 * k)
  once:OnceP s M U n
  ln:M.length ≤ k
theorem OnR.nle {w:World} {s:Dr} {M:List Pk} {U:Nat → Bool} {n k:Nat} (h:OnR w s M U n k):n ≤ k:=by have:=h.once.cnt; have:=h.ln; omega
theorem DoPre.more {w:World} {s:Dr} {k:Nat} (h:DoPre w s (64 * (k:Int))) (o:Op9):DoPre w (s.doOp o) (64 * ((k + 1:Nat):Int)):=by
  rw [show (64 * ((k + 1:Nat):Int)) = 64 * (k:Int) + 64 by omega]
  exact h.step (by omega) o
theorem DoPre.mono {w:World} {s:Dr} {B C:Int} (h:DoPre w s B) (hc:B ≤ C):DoPre w s C:=⟨h.ok.mono hc,h.sl,h.fit,h.few⟩
theorem doOp0 (s:Dr) (b:Int) (p:Pk):s.doOp ⟨0,b,p⟩ = (s.send b p).1:=rfl
theorem doOp1 (s:Dr) (b:Int) (p:Pk):s.doOp ⟨1,b,p⟩ = s.tx.1:=rfl
theorem OnR.send {w:World} {s:Dr} {M:List Pk} {U:Nat → Bool} {n k:Nat} (h:OnR w s M U n k) (b:Int) (p:Pk) (ht:p.tag = M.length) (h0:(s.send b p).2 = 0):OnR w (s.send b p).1 (M ++ [p]) U n (k + 1) :=
  ⟨by rw [← doOp0]; exact h.pre.more _,h.once.send (send_held h.pre.ok b p h0) ht,by have:=h.ln; simp; omega⟩
theorem OnR.same {w:World} {s:Dr} {M:List Pk} {U:Nat → Bool} {n k:Nat} (h:OnR w s M U n k):OnR w s M U n (k + 1):=⟨h.pre.mono (by omega),h.once,by have:=h.ln; omega⟩
theorem OnR.tx {w:World} {s:Dr} {M:List Pk} {U:Nat → Bool} {n k:Nat} (h:OnR w s M U n k) (h0:s.tx.2.2.2 = 0):∃ j:Nat,s.tx.2.1.tag = j ∧ M[j]? = some s.tx.2.1 ∧ U j = false ∧ OnR w s.tx.1 M (fun i => if i = j then true else U i) (n + 1) (k + 1):=by
  obtain ⟨j,h1,h2,h3,h4⟩:=h.once.tx (tx_held h.pre.ok h0)
  exact ⟨j,h1,h2,h3,by rw [← doOp1 s 0 pk0]; exact h.pre.more _,h4,by have:=h.ln; omega⟩
theorem OnR.other {w:World} {s:Dr} {M:List Pk} {U:Nat → Bool} {n k:Nat} (h:OnR w s M U n k) (o:Op9) (k0:o.k ≠ 0) (k1:o.k ≠ 1) (k8:o.k ≠ 8) (k9:o.k ≠ 9):OnR w (s.doOp o) M U n (k + 1) :=
  ⟨h.pre.more o,h.once.perm (doOp_held h.pre.ok o k0 k1 k8 k9),by have:=h.ln; omega⟩
theorem OnR.sum {w:World} {s:Dr} {M:List Pk} {U:Nat → Bool} {n k:Nat} (h:OnR w s M U n k):M.length = n + (s.ct.bx.S.length - s.ct.bx.free s.ct.bx.S.length) + s.q.all.length:=by
  rw [h.once.cnt,held_len h.pre.ok]; omega
theorem OnR.queued {w:World} {s:Dr} {M:List Pk} {U:Nat → Bool} {n k:Nat} (h:OnR w s M U n k) {p:Pk} (hp:p ∈ s.q.all):∃ j:Nat,p.tag = j ∧ M[j]? = some p ∧ U j = false:=h.once.mem p (List.mem_append_left _ (mem_all hp))
theorem up_new (c:Cg) (L:List Flt):(drNew c L).up = ((drNew c L).fresh 1,0):=by
  unfold Dr.up
  rw [if_neg (show ¬ ((drNew c L).st ≠ 0) from fun h => h rfl)]
set_option maxRecDepth 8000 in
theorem drvOnce_walk {T:World → Prop} {I:World → Value → Dr → (Nat → Prop) → Prop} (A:DrvI T I) (c:Cg) (F0:Nat → List Value) (a:Option Addr) (len cap:Nat) (F:Nat → List Value) (w:World) (hr0:IsRowOf w cfSh c.A c.n c.cp F0) (hr:IsRowOf w op9Sc a len cap F) (hT:T w) :
    Calls Tryz.prog 3 #[cgV c, .slice a len cap] w fun e w' => e = .returned (.bool true) ∧ Below w.heap.size w w':=by
  obtain ⟨LA,hLA,hlenA,hfA⟩:=slice_of_row hr0 cfOf cfOf_c rfl (by decide)
  obtain ⟨L,hL,hlen,hf⟩:=slice_of_row hr op9Oc op9Oc_c rfl (by decide)
  have HA:=Lib.hid A
  have HT:=Lib.hid hT
  have HVA:Hid (SlG flC 3 w w.heap.size c.va LA):=Lib.hid hLA
  have HV:=Lib.hid hL
  have HFA:Hid (∀ x ∈ LA,x.fits):=Lib.hid (fun x h => cf_fits (hfA x h))
  have HX:Hid (∀ o ∈ L,o.p.ok ∧ (-9223372036854775808 ≤ o.b ∧ o.b ≤ 9223372036854775807)):=Lib.hid (fun o h => op9c_fits (hf o h))
  have HCN:Hid (c.n ≤ maxLen):=Lib.hid (by obtain ⟨A1,c1,hv,hm,_⟩:=hLA; injection hv with _ h2 _; omega)
  subst hlen
  obtain ⟨w1,e1⟩:∃ w1,w.alloc (cgO c) = w1:=⟨_,rfl⟩
  have hb1:Below w.heap.size w w1:=by rw [← e1]; exact (Below.refl _ _).alloc (Nat.le_refl _) _
  have HB1:=Lib.hid hb1
  have hx1:w1.heap[w.heap.size]? = some (.cells #[.int .i64 c.bo, .int .i64 c.fi, .int .i64 c.ba, .int .i64 c.de, .int .i64 c.qu, .int .i64 c.no, .int .i64 c.re, .slice c.A c.n c.cp] 24 (0,0)):=by rw [← e1]; unfold World.alloc; simp
  have HXC:=Lib.hid hx1
  clear A hT hL hr hf hLA hr0 hfA hb1 hx1 hlenA
  obtain ⟨q,hq⟩:∃ q,fdB c L = q:=⟨_,rfl⟩
  have HQ:=Lib.hid hq
  clear hq
  go_enter Tryz.func3,Tryz.ntmps3
  have d:=fun j => Lib.cell_of_heap HXC.out j
  have d0:=d 0
  have d1:=d 1
  have d2:=d 2
  have d3:=d 3
  have d4:=d 4
  have d5:=d 5
  have d6:=d 6
  have d7:=d 7
  simp at d0 d1 d2 d3 d4 d5 d6 d7
  clear d
  go_wp2_with fail
  refine (fd_any w1 (HV.out.later HB1.out) HCN.out).mono ?_
  rintro e w2 ⟨he,hb⟩
  rw [HQ.out] at he
  subst he
  have HB2:=Lib.hid (fbelow_t HB1.out hb)
  have HXC2:=Lib.hid ((hb.block w.heap.size (heap_some_lt HXC.out)).trans HXC.out)
  clear hb d0 d1 d2 d3 d4 d5 d6 d7
  cases q
  · go_wp2_with fail
    refine (drvalive HA.out _ (HA.out.tab HT.out HB2.out)).mono ?_
    rintro e w3 ⟨rfl,hb⟩
    have HB3:=Lib.hid (fbelow_t HB2.out hb)
    clear hb
    go_wp2
    go_ret
    exact ⟨rfl,HB3.out⟩
  have hl4:=fdB_len HQ.out
  have d:=fun j => Lib.cell_of_heap HXC2.out j
  have d0:=d 0
  have d1:=d 1
  have d2:=d 2
  have d3:=d 3
  have d4:=d 4
  have d5:=d 5
  have d6:=d 6
  have d7:=d 7
  simp at d0 d1 d2 d3 d4 d5 d6 d7
  go_wp2_with fail
  refine (HA.out.new c LA w2 (HA.out.tab HT.out HB2.out) (HVA.out.later HB2.out) HFA.out (fdB_n HQ.out)).mono ?_
  rintro e w3 ⟨v,O,rfl,hi,hb,hn⟩
  have HH3:Hid (Has I w v (drNew c LA) O w3):=Lib.hid ⟨hi,fbelow_t HB2.out hb,fun k hk => Nat.le_trans HB2.out.size (hn k hk)⟩
  have HXC3:=Lib.hid ((hb.block w.heap.size (heap_some_lt HXC2.out)).trans HXC2.out)
  have HNC:Hid (¬ O w.heap.size):=Lib.hid (fun h => by have:=hn _ h; have:=heap_some_lt HXC2.out; omega)
  have HP0:Hid (DoPre w (drNew c LA) 0):=Lib.hid ⟨Dr.Ok.new c LA,HVA.out,HFA.out,fdB_n HQ.out⟩
  obtain ⟨pv,rfl⟩:=HA.out.ptr hi
  clear d d0 d1 d2 d3 d4 d5 d6 d7 hi hb hn
  go_wp2_with fail
  refine (HA.out.up HH3.out.inv HP0.out.ok (HA.out.tab HT.out HH3.out.below) (HP0.out.acc HH3.out.below HH3.out.new)).mono ?_
  rintro e w4 ⟨rfl,O1,hi,hkk,hg⟩
  rw [up_new] at hi ⊢
  have HH4:Hid (Has I w (.pointer (some pv)) ((drNew c LA).fresh 1) O1 w4):=Lib.hid (HH3.out.step HA.out.obj hi hkk hg)
  have HXC4:=Lib.hid ((hkk.block w.heap.size (heap_some_lt HXC3.out) HNC.out).trans HXC3.out)
  have HNC4:Hid (¬ O1 w.heap.size):=Lib.hid (out_step (heap_some_lt HXC3.out) HNC.out hg)
  have hmk:=run_mkB L.length (by omega) w4
  obtain ⟨w5,hw5⟩:∃ w5,w4.alloc (.cells (madeCells #[.bool false] L.length) 4) = w5:=⟨_,rfl⟩
  have HM5:Hid (OnM I w (.pointer (some pv)) ((drNew c LA).fresh 1) O1 w.heap.size w4.heap.size L.length c (.slice none 0 0) [] (fun _ => false) w5):=Lib.hid (by
    have hb5:Below w4.heap.size w4 w5:=by rw [← hw5]; exact (Below.refl _ _).alloc (Nat.le_refl _) _
    exact ⟨HH4.out.later HA.out.obj hb5,RowQ.nil _,fun g h => (by cases h),by rw [← hw5]; exact BoolR.made w4 L.length,HH4.out.below.size,by rw [← hw5]; simp,fun h => by have:=HA.out.obj.lt HH4.out.inv _ h; omega,fun e => by have:=heap_some_lt HXC4.out; omega,(hb5.block _ (heap_some_lt HXC4.out)).trans HXC4.out,HNC4.out⟩)
  have HR5:Hid (OnR w ((drNew c LA).fresh 1) [] (fun _ => false) 0 0):=Lib.hid ⟨⟨(Dr.Ok.new c LA).fresh (by decide) (by decide),HVA.out,HFA.out,fdB_n HQ.out⟩,OnceP.new_ (fresh_held _ _),Nat.le_refl _⟩
  rw [hw5] at hmk
  clear hi hkk hg hw5 HH3 HH4 HXC3 HXC4 HNC HNC4 HP0
  obtain ⟨tb,htb⟩:∃ tb,w4.heap.size = tb:=⟨_,rfl⟩
  rw [htb] at HM5 hmk
  go_wp2_with fail
  clear htb hmk
  go_loopw [35,6,8] (fun i u n wr => ∃ (k nn:Nat) (M:List Pk) (U:Nat → Bool) (s:Dr) (O:Nat → Prop),k ≤ L.length ∧ i = .int .i64 k ∧ n = .int .i64 nn ∧ Hid (OnR w s M U nn k) ∧ Hid (OnM I w (.pointer (some pv)) s O w.heap.size tb L.length c u M U wr)) (fun i _ _ _ => L.length - (intOf i).toNat)
  case atStart => exact ⟨0,0, [],_,_,O1,by omega,rfl,rfl,HR5,HM5⟩
  case round =>
    clear HR5 HM5
    obtain ⟨k,nn,M,U,s,O1,hk,rfl,rfl,HR,HM⟩:=hrel
    obtain ⟨A5,c5,hu5⟩:=HM.out.row.shape
    subst hu5
    by_cases hlt:k < L.length
    · have hkl:(k:Int) < (L.length:Int):=by omega
      obtain ⟨x,c1,hv1,hxb,hcell⟩:=SlG.at_ (HV.out.later HM.out.has.below) hlt
      have hv1':=hv1
      injection hv1 with hAA _ hcap
      subst hAA hcap
      have a0:wr.cell? (x.add (k * 9)) = some (.int .i64 (L[k]'hlt).k):=hcell 0 _ rfl
      have a1:wr.cell? ⟨(x.add (k * 9)).block,(x.add (k * 9)).off + 1,none⟩ = some (.int .i64 (L[k]'hlt).b):=hcell 1 _ rfl
      have a2:wr.cell? ⟨(x.add (k * 9)).block,(x.add (k * 9)).off + 2,none⟩ = some (.int .i64 (L[k]'hlt).p.f.i):=hcell 2 _ rfl
      have a3:wr.cell? ⟨(x.add (k * 9)).block,(x.add (k * 9)).off + 3,none⟩ = some (.int .i64 (L[k]'hlt).p.f.n):=hcell 3 _ rfl
      have a4:wr.cell? ⟨(x.add (k * 9)).block,(x.add (k * 9)).off + 4,none⟩ = some (.int .i64 (L[k]'hlt).p.f.l):=hcell 4 _ rfl
      have a5:wr.cell? ⟨(x.add (k * 9)).block,(x.add (k * 9)).off + 5,none⟩ = some (.string (L[k]'hlt).p.f.d):=hcell 5 _ rfl
      have a6:wr.cell? ⟨(x.add (k * 9)).block,(x.add (k * 9)).off + 6,none⟩ = some (.int .i64 (L[k]'hlt).p.fr):=hcell 6 _ rfl
      have a7:wr.cell? ⟨(x.add (k * 9)).block,(x.add (k * 9)).off + 7,none⟩ = some (.int .i64 (L[k]'hlt).p.tag):=hcell 7 _ rfl
      have a8:wr.cell? ⟨(x.add (k * 9)).block,(x.add (k * 9)).off + 8,none⟩ = some (.bool (L[k]'hlt).p.lp):=hcell 8 _ rfl
      have HFX:=Lib.hid (HX.out _ (List.getElem_mem hlt))
      generalize hog:L[k]'hlt = o at a0 a1 a2 a3 a4 a5 a6 a7 a8 HFX
      have HOG:=Lib.hid hog
      clear hcell hxb hog
      have HKB:Hid (64 * (k:Int) ≤ 1000000):=Lib.hid (by omega)
      have hmk:=HR.out.ln
      have hnk:=HR.out.nle
      have HLT:=Lib.hid hlt
      have HMa:=Lib.hid (HM.out.later HA.out.obj ((Below.refl wr.heap.size wr).alloc (Nat.le_refl _) (.cells #[.int .i64 o.k, .int .i64 o.b, .int .i64 o.p.f.i, .int .i64 o.p.f.n, .int .i64 o.p.f.l, .string o.p.f.d, .int .i64 o.p.fr, .int .i64 o.p.tag, .bool o.p.lp] 39)))
      have HB0:=Lib.hid (DrvO9.made wr o)
      obtain ⟨wa,hwa⟩:∃ wa,wr.alloc (.cells #[.int .i64 o.k, .int .i64 o.b, .int .i64 o.p.f.i, .int .i64 o.p.f.n, .int .i64 o.p.f.l, .string o.p.f.d, .int .i64 o.p.fr, .int .i64 o.p.tag, .bool o.p.lp] 39) = wa:=⟨_,rfl⟩
      rw [hwa] at HMa HB0
      have HFR:=Lib.hid (HM.out.fresh HA.out.obj (Nat.le_refl wr.heap.size))
      go_upto_region 12 with fail
      clear hwa a0 a1 a2 a3 a4 a5 a6 a7 a8
      obtain ⟨a0,a1,a2,a3,a4,a5,a6,a7,a8⟩:=HB0.out.cells
      have hblk:=HB0.out.lt
      go_upto_block 2 with fail
      go_cut [6,8] (fun u6 u8 wx => ∃ (sN:Dr) (O3:Nat → Prop) (MN:List Pk) (UN:Nat → Bool) (nN:Nat) (A6:Option Addr) (c6:Nat),u6 = .slice A6 MN.length c6 ∧ u8 = .int .i64 nN ∧ Hid (OnR w sN MN UN nN (k + 1)) ∧ Hid (OnM I w (.pointer (some pv)) sN O3 w.heap.size tb L.length c (.slice A6 MN.length c6) MN UN wx))
      case first =>
        by_cases h0:o.k = 0
        · have f0:(o.k == 0) = true:=by simp [h0]
          clear h0
          have HPG:=Lib.hid (BoxP.made wa o.p)
          obtain ⟨wb,hwb⟩:∃ wb,wa.alloc (.cells #[.int .i64 o.p.f.i, .int .i64 o.p.f.n, .int .i64 o.p.f.l, .string o.p.f.d, .int .i64 o.p.fr, .int .i64 o.p.tag, .bool o.p.lp] 37) = wb:=⟨_,rfl⟩
          have HBW:Hid (Below wa.heap.size wa wb):=Lib.hid (by rw [← hwb]; exact (Below.refl _ _).alloc (Nat.le_refl _) _)
          have HMb0:=Lib.hid (HMa.out.later HA.out.obj HBW.out)
          rw [hwb] at HPG
          have HG:=Lib.hid (HMa.out.fresh HA.out.obj (Nat.le_refl wa.heap.size))
          go_upto_region 16 with fail
          clear hwb a0 a1 a2 a3 a4 a5 a6 a7 a8 hblk
          obtain ⟨d0,d1,d2,d3,d4,d5,d6⟩:=HPG.out.cells
          have fl5:=Lib.frozen_of_heap HPG.out 5
          go_upto_region 17 with fail
          obtain ⟨wc,hwc⟩:∃ wc,wb.setCell ⟨wa.heap.size,5,none⟩ (.int .i64 (M.length:Nat)) = wc:=⟨_,rfl⟩
          rw [hwc]
          have HMc:Hid (OnM I w (.pointer (some pv)) s O1 w.heap.size tb L.length c (.slice A5 M.length c5) M U wc):=Lib.hid (by rw [← hwc]; exact HMb0.out.turn HA.out.obj HG.out.1 HG.out.2.1 HG.out.2.2.1 HG.out.2.2.2.1 HG.out.2.2.2.2 _)
          have HPc:Hid (BoxP wc wa.heap.size (o.p.tagged (M.length:Nat))):=Lib.hid (by rw [← hwc]; exact HPG.out.tag _)
          have HBc:Hid (DrvO9 wc wr.heap.size o):=Lib.hid (by
            rw [← hwc]
            have h1:=HB0.out.lt
            refine (Below.heap_setCell _ _ _ _ (fun e => ?_)).trans ?_
            · have e:wr.heap.size = wa.heap.size:=e
              omega
            · exact HB0.out.later HBW.out)
          clear hwc d0 d1 d2 d3 d4 d5 d6 fl5 HMb0 HMa HPG HB0
          obtain ⟨a0,a1,a2,a3,a4,a5,a6,a7,a8⟩:=HBc.out.cells
          obtain ⟨d0,d1,d2,d3,d4,d5,d6⟩:=HPc.out.cells
          dsimp only [Pk.tagged] at d0 d1 d2 d3 d4 d5 d6
          go_wp2_with fail
          refine (HA.out.send o.b (o.p.tagged (M.length:Nat)) HMc.out.has.inv HR.out.pre.ok (HA.out.tab HT.out HMc.out.has.below) HFX.out.1).mono ?_
          rintro e w5 ⟨rfl,O3,hi,hkk,hg⟩
          have HMe0:=Lib.hid (HMc.out.call HA.out.obj hi hkk hg)
          have HPe:=Lib.hid (HPc.out.kept hkk HG.out.2.1)
          have HSD:=Lib.hid (HR.out.send o.b (o.p.tagged (M.length:Nat)) rfl)
          have HSS:=Lib.hid (send_same (s:=s) o.b (o.p.tagged (M.length:Nat)))
          clear hi hkk hg a0 a1 a2 a3 a4 a5 a6 a7 a8 d0 d1 d2 d3 d4 d5 d6 HMc HPc HBc
          generalize s.send o.b (o.p.tagged (M.length:Nat)) = X at HMe0 HSD HSS ⊢
          obtain ⟨sN,es⟩:=X
          simp only at HMe0 HSD HSS ⊢
          by_cases hes:es = 0
          · subst hes
            have HRN:=Lib.hid (HSD.out rfl)
            clear HSD HSS
            have HGE:=Lib.hid HG.out
            obtain ⟨d0,d1,d2,d3,d4,d5,d6⟩:=HPe.out.cells
            dsimp only [Pk.tagged] at d0 d1 d2 d3 d4 d5 d6
            have hdz:=HPe.out.lt
            have hrb:=(Below.refl w5.heap.size w5).alloc (Nat.le_refl _) (.cells #[.int .i64 o.p.f.i, .int .i64 o.p.f.n, .int .i64 o.p.f.l, .string o.p.f.d, .int .i64 o.p.fr, .int .i64 (M.length:Nat), .bool o.p.lp] 37)
            have HMe1:=Lib.hid (HMe0.out.later HA.out.obj hrb)
            have HRQ:Hid (RowQ pkC 7 (w5.alloc (.cells #[.int .i64 o.p.f.i, .int .i64 o.p.f.n, .int .i64 o.p.f.l, .string o.p.f.d, .int .i64 o.p.fr, .int .i64 (M.length:Nat), .bool o.p.lp] 37)) (.slice A5 M.length c5) M):=Lib.hid HMe1.out.row
            have HR1:Hid (RdA pkC 7 (w5.alloc (.cells #[.int .i64 o.p.f.i, .int .i64 o.p.f.n, .int .i64 o.p.f.l, .string o.p.f.d, .int .i64 o.p.fr, .int .i64 (M.length:Nat), .bool o.p.lp] 37)) (.slice (some ⟨w5.heap.size,0,none⟩) 1 1) [o.p.tagged (M.length:Nat)]):=Lib.hid (RdA.one pkC_len _ _ _ rfl rfl)
            clear hrb
            obtain ⟨MN,hMN⟩:∃ MN,M ++ [o.p.tagged (M.length:Nat)] = MN:=⟨_,rfl⟩
            have HMN:=Lib.hid hMN
            rw [hMN] at HRN
            clear hMN
            go_wp2_with (at_builtin; refine wpList_qO (c:=pkC) (L:=M) (M := [o.p.tagged (M.length:Nat)]) flat_pk pkC_len pkC_one rfl (.tmp 63) (.tmp 65) rfl (by rfl) HRQ.out (by rfl) HR1.out (by simp; omega) ?_; rintro v4 w4 hq4 hk4 hg4; have hm4:=HMe1.out.app HA.out.obj hq4 hk4 hg4; rw [HMN.out] at hm4; obtain ⟨A4,c4,hv4⟩:=hm4.row.shape; subst hv4; have HMT:=Lib.hid hm4; clear hq4 hk4 hg4 hm4)
            clear d0 d1 d2 d3 d4 d5 d6 hdz HMe1 HRQ HR1 HMe0 HPe
            go_meet
            exact ⟨sN,O3,MN,U,nn,A4,c4,rfl,rfl,HRN,HMT⟩
          · have f4:(es == 0) = false:=by simp [hes]
            obtain rfl:=HSS.out hes
            have HRN:=Lib.hid HR.out.same
            have HMT:=Lib.hid HMe0.out
            clear HSD HSS hes HMe0 HPe
            go_wp2_with fail
            go_meet
            exact ⟨sN,O3,M,U,nn,A5,c5,rfl,rfl,HRN,HMT⟩
        by_cases h1:o.k = 1
        · have f0:(o.k == 0) = false:=by simp [h0]
          have f1:(o.k == 1) = true:=by simp [h1]
          clear h0 h1
          have HTX:=Lib.hid HR.out.tx
          have HTS:=Lib.hid (tx_same (s:=s))
          go_wp2_with fail
          refine (HA.out.tx HMa.out.has.inv HR.out.pre.ok HKB.out (HA.out.tab HT.out HMa.out.has.below)).mono ?_
          rintro e w5 ⟨he,O3,hi,hkk,hg⟩
          generalize s.tx = X at he hi HTX HTS
          obtain ⟨sN,px,bx,ex⟩:=X
          simp only at he hi HTX HTS
          subst he
          have HM5:=Lib.hid (HMa.out.call HA.out.obj hi hkk hg)
          have HBk:=Lib.hid (HB0.out.kept hkk HFR.out.2.1)
          clear hi hkk hg a0 a1 a2 a3 a4 a5 a6 a7 a8 HMa HB0 hblk
          obtain ⟨⟨xi,xn,xl,xd⟩,xfr,xt,xlp⟩:=px
          simp only at HTX ⊢
          have HM6:=Lib.hid (HM5.out.later HA.out.obj ((Below.refl w5.heap.size w5).alloc (Nat.le_refl _) (.cells #[.int .i64 xi, .int .i64 xn, .int .i64 xl, .string xd, .int .i64 xfr, .int .i64 xt, .bool xlp, .bool bx] 42)))
          have HE6:=Lib.hid (BoxE.made w5 ⟨⟨xi,xn,xl,xd⟩,xfr,xt,xlp⟩ bx)
          simp only at HE6
          obtain ⟨w6,hw6⟩:∃ w6,w5.alloc (.cells #[.int .i64 xi, .int .i64 xn, .int .i64 xl, .string xd, .int .i64 xfr, .int .i64 xt, .bool xlp, .bool bx] 42) = w6:=⟨_,rfl⟩
          rw [hw6] at HM6 HE6
          by_cases hex:ex = 0
          · subst hex
            obtain ⟨jt,ht1,ht2,ht3,hrn⟩:=HTX.out rfl
            subst ht1
            have HRN:=Lib.hid hrn
            obtain ⟨hjM,hGT⟩:=List.getElem?_eq_some_iff.1 ht2
            have HGT:=Lib.hid hGT
            have hjN:jt < L.length:=by omega
            clear HTX HTS hrn
            go_upto_region 22 with fail
            clear hw6
            obtain ⟨d0,d1,d2,d3,d4,d5,d6,d7⟩:=HE6.out.cells
            simp only at d0 d1 d2 d3 d4 d5 d6 d7
            have hdz:=HE6.out.lt
            have g1:decide ((jt:Int) < 0) = false:=decide_eq_false (by omega)
            have g2:decide (M.length ≤ jt) = false:=decide_eq_false (by omega)
            have g3:=(HM6.out.tab jt hjN).1
            have g4:=(HM6.out.tab jt hjN).2
            rw [ht3] at g3
            obtain ⟨yM,cM,hvM,hyM,hcM⟩:=(HM6.out.row.sl pkC_len (by unfold maxLen; omega)).at_ hjM
            rw [HGT.out] at hcM
            injection hvM with hAA _ hcap
            subst hAA hcap
            have e0:w6.cell? (yM.add (jt * 7)) = some (.int .i64 xi):=hcM 0 _ rfl
            have e1:w6.cell? ⟨(yM.add (jt * 7)).block,(yM.add (jt * 7)).off + 1,none⟩ = some (.int .i64 xn):=hcM 1 _ rfl
            have e2:w6.cell? ⟨(yM.add (jt * 7)).block,(yM.add (jt * 7)).off + 2,none⟩ = some (.int .i64 xl):=hcM 2 _ rfl
            have e3:w6.cell? ⟨(yM.add (jt * 7)).block,(yM.add (jt * 7)).off + 3,none⟩ = some (.string xd):=hcM 3 _ rfl
            have e4:w6.cell? ⟨(yM.add (jt * 7)).block,(yM.add (jt * 7)).off + 4,none⟩ = some (.int .i64 xfr):=hcM 4 _ rfl
            have e5:w6.cell? ⟨(yM.add (jt * 7)).block,(yM.add (jt * 7)).off + 5,none⟩ = some (.int .i64 (jt:Int)):=hcM 5 _ rfl
            have e6:w6.cell? ⟨(yM.add (jt * 7)).block,(yM.add (jt * 7)).off + 6,none⟩ = some (.bool xlp):=hcM 6 _ rfl
            have htz:=HM6.out.t1
            clear hcM HGT hGT
            go_wp2_with fail
            go_quiet (fail)
            generalize hw7:w6.drewN _ = w7
            have HM7:=Lib.hid (HM6.out.later HA.out.obj (w':=w7) (by rw [← hw7]; exact below_drewN (Below.refl w6.heap.size w6) _))
            clear hw7
            have g5:=(HM7.out.tab jt hjN).1
            have g6:=(HM7.out.tab jt hjN).2
            have HM8:=Lib.hid (HM7.out.tell HA.out.obj hjN)
            clear d0 d1 d2 d3 d4 d5 d6 d7 e0 e1 e2 e3 e4 e5 e6 g3 g4 hdz htz HM6 HE6 HM5 HBk ht2
            obtain ⟨nN,hnN⟩:∃ nN:Nat,nn + 1 = nN:=⟨_,rfl⟩
            rw [hnN] at HRN
            have hnI:(nn:Int) + 1 = (nN:Int):=by omega
            obtain ⟨w8,hw8⟩:∃ w8,w7.setCell ⟨tb,jt,none⟩ (.bool true) = w8:=⟨_,rfl⟩
            rw [hw8] at HM8
            go_wp2_with fail
            try rw [hnI]
            have HMT:=Lib.hid HM8.out
            obtain ⟨UN,hUN⟩:∃ UN,(fun i => if i = jt then true else U i) = UN:=⟨_,rfl⟩
            rw [hUN] at HRN HMT
            go_meet
            exact ⟨sN,O3,M,UN,nN,_,c5,rfl,rfl,HRN,HMT⟩
          · have f4:(ex != 0) = true:=by simp [hex]
            obtain rfl:=HTS.out hex
            have HRN:=Lib.hid HR.out.same
            subst hw6
            clear hex HTX HTS
            go_wp2_with fail
            go_roundw
            case rel => exact ⟨k + 1,nn,M,U,sN,_,by omega,by go_num,by go_num,HRN,HM6⟩
            case measure => simp [intOf]; omega
        by_cases h8:o.k = 8
        · have f0:(o.k == 0) = false:=by simp [h0]
          have f1:(o.k == 1) = false:=by simp [h1]
          have f8:(o.k == 8) = true:=by simp [h8]
          have HRN:=Lib.hid HR.out.same
          clear h0 h1 h8
          go_wp2_with fail
          go_meet
          exact ⟨s,O1,M,U,nn,A5,c5,rfl,rfl,HRN,HMa⟩
        by_cases h9:o.k = 9
        · have f0:(o.k == 0) = false:=by simp [h0]
          have f1:(o.k == 1) = false:=by simp [h1]
          have f8:(o.k == 8) = false:=by simp [h8]
          have f9:(o.k == 9) = true:=by simp [h9]
          have HRN:=Lib.hid HR.out.same
          clear h0 h1 h8 h9
          go_wp2_with fail
          go_meet
          exact ⟨s,O1,M,U,nn,A5,c5,rfl,rfl,HRN,HMa⟩
        have f0:(o.k == 0) = false:=by simp [h0]
        have f1:(o.k == 1) = false:=by simp [h1]
        have f8:(o.k == 8) = false:=by simp [h8]
        have f9:(o.k == 9) = false:=by simp [h9]
        have HRN:=Lib.hid (HR.out.other o h0 h1 h8 h9)
        clear h0 h1 h8 h9
        go_upto_region 13 with fail
        have hcb:∀ (q:KLater O1 wa) (j:Nat),q.w.cell? ⟨w.heap.size,j,none⟩ = wa.cell? ⟨w.heap.size,j,none⟩:=fun q j => q.cell w.heap.size j (heap_some_lt HMa.out.cfg) HMa.out.c1
        have d:=fun j => Lib.cell_of_heap HMa.out.cfg j
        have d0:=d 0
        have d1:=d 1
        have d2:=d 2
        have d3:=d 3
        have d4:=d 4
        have d5:=d 5
        have d6:=d 6
        have d7:=d 7
        simp at d0 d1 d2 d3 d4 d5 d6 d7
        clear d
        obtain ⟨x2,c2,hv2,hxb2,hcell2⟩:=SlG.at_ (HV.out.later HMa.out.has.below) HLT.out
        have hv2e:=hv2
        simp only [Value.slice.injEq,Option.some.injEq] at hv2e
        obtain ⟨hAA, -, -⟩:=hv2e
        subst hAA
        clear hv2
        rw [HOG.out] at hcell2
        have hxw:x.block < w.heap.size:=by
          obtain ⟨x3,c3,hv3,hxb3,_⟩:=HV.out.at_ HLT.out
          simp only [Value.slice.injEq,Option.some.injEq] at hv3
          rw [hv3.1]
          exact hxb3
        have hcx:∀ (q:KLater O1 wa) (j:Nat) (y:Value),(opC9 o)[j]? = some y → q.w.cell? ((x.add (k * 9)).add j) = some y:=fun q j y hy => (q.h.cell (p:=(x.add (k * 9)).add j) (by rw [addr_block,addr_block]; have:=HMa.out.has.below.size; omega) (fun h => by rw [addr_block,addr_block] at h; have:=HMa.out.has.new _ h; omega)).trans (hcell2 j y hy)
        have y0:∀ q:KLater O1 wa,q.w.cell? (x.add (k * 9)) = some (.int .i64 o.k):=fun q => hcx q 0 _ rfl
        have y1:∀ q:KLater O1 wa,q.w.cell? ⟨(x.add (k * 9)).block,(x.add (k * 9)).off + 1,none⟩ = some (.int .i64 o.b):=fun q => hcx q 1 _ rfl
        have y2:∀ q:KLater O1 wa,q.w.cell? ⟨(x.add (k * 9)).block,(x.add (k * 9)).off + 2,none⟩ = some (.int .i64 o.p.f.i):=fun q => hcx q 2 _ rfl
        have y3:∀ q:KLater O1 wa,q.w.cell? ⟨(x.add (k * 9)).block,(x.add (k * 9)).off + 3,none⟩ = some (.int .i64 o.p.f.n):=fun q => hcx q 3 _ rfl
        have y4:∀ q:KLater O1 wa,q.w.cell? ⟨(x.add (k * 9)).block,(x.add (k * 9)).off + 4,none⟩ = some (.int .i64 o.p.f.l):=fun q => hcx q 4 _ rfl
        have y5:∀ q:KLater O1 wa,q.w.cell? ⟨(x.add (k * 9)).block,(x.add (k * 9)).off + 5,none⟩ = some (.string o.p.f.d):=fun q => hcx q 5 _ rfl
        have y6:∀ q:KLater O1 wa,q.w.cell? ⟨(x.add (k * 9)).block,(x.add (k * 9)).off + 6,none⟩ = some (.int .i64 o.p.fr):=fun q => hcx q 6 _ rfl
        have y7:∀ q:KLater O1 wa,q.w.cell? ⟨(x.add (k * 9)).block,(x.add (k * 9)).off + 7,none⟩ = some (.int .i64 o.p.tag):=fun q => hcx q 7 _ rfl
        have y8:∀ q:KLater O1 wa,q.w.cell? ⟨(x.add (k * 9)).block,(x.add (k * 9)).off + 8,none⟩ = some (.bool o.p.lp):=fun q => hcx q 8 _ rfl
        clear hcx hcell2 hxb2
        obtain ⟨sN,hsN⟩:∃ sN,s.doOp o = sN:=⟨_,rfl⟩
        have HSN0:=Lib.hid hsN
        rw [hsN] at HRN
        clear hsN
        refine wp_region_st 7 [2] (OnG I w wa (.pointer (some pv)) s sN (drNew c LA) O1 44 49) [44] (OnG.start HA.out.obj HMa.out.has) (by kernel_rfl) (by kernel_rfl) (by kernel_rfl) (by kernel_rfl) (by kernel_rfl) (by kernel_rfl) (by kernel_rfl) ?_
        simp only [List.take_succ_cons,List.take_zero,List.drop_succ_cons,List.drop_zero]
        repeat (refine st_plain (fun h => h.1) (by rfl) (by rfl) (by rfl) (by rfl) (by rfl) ?_; intro K hK; go_big_quiet_op; go_big_quiet_on)
        refine st_stepH (s:=44) 0 (by rfl) (by rfl) (by rfl) (by rfl) (fun xs9 a9 w9 h9 hx9 hlk => ?_) ?_
        · have h43:=hlk 43 (by decide)
          rw [if_neg (by decide)] at h43
          refine ⟨13, #[a9.tmps.getD 43 undef],by simp [go_sem], ?_⟩
          rw [h43]
          refine (xdnew_v c LA w9).mono ?_
          rintro e w' ⟨u9,O9,he,hi,hb,hn⟩
          exact ⟨u9,he,h9.one HA.out.obj hi hb hn⟩
        simp only [Act.put,List.setIfInBounds_toArray,List.set_cons_succ,List.set_cons_zero]
        repeat (refine st_plain (fun h => h.1) (by rfl) (by rfl) (by rfl) (by rfl) (by rfl) ?_; intro K hK; go_big_quiet_op; go_big_quiet_on)
        intro ys xs w5 hF h5
        have h44:=hF 44 (by simp)
        obtain ⟨g9,O9,e9,hp9,hn9⟩:=h5.get h44
        simp only [secFill,Act.put,List.setIfInBounds_toArray,List.set_cons_succ,List.set_cons_zero]
        rw [e9]
        have HP9:=Lib.hid hp9
        have H59:=Lib.hid h5
        have HN9:=Lib.hid hn9
        have HPT:Hid (DoPre w (drNew c LA) (64 * (k:Int))):=Lib.hid ⟨(Dr.Ok.new c LA).mono (by omega),HVA.out,HFA.out,fdB_n HQ.out⟩
        clear hcb y0 y1 y2 y3 y4 y5 y6 y7 y8 d0 d1 d2 d3 d4 d5 d6 d7 a0 a1 a2 a3 a4 a5 a6 a7 a8 hp9 hn9 h44 e9 hF h5
        go_wp2_with fail
        refine (ddo_any (o:=o) HA.out HP9.out HR.out.pre HPT.out HKB.out HT.out HFX.out.1 HFX.out.2).mono ?_
        rintro e w6 ⟨bo,O3,O4,rfl, -,hp,hk5,hg3,_⟩
        rw [HSN0.out] at hp
        obtain ⟨O5,hi5,hk6,hg5⟩:=(H59.out.two (ys:=xs) hp.a.inv HN9.out hk5 hg3).out
        have HMT:=Lib.hid (HMa.out.call HA.out.obj hi5 hk6 hg5)
        clear hp hk5 hg3 hi5 hk6 hg5 H59 HP9 HN9 HMa HB0 xs ys
        clear hblk
        go_wp2
        go_meet
        exact ⟨sN,O5,M,U,nn,A5,c5,rfl,rfl,HRN,HMT⟩
      case rest =>
        obtain ⟨sN,O3,MN,UN,nN,A6,c6,rfl,rfl,HRN,HMT⟩:=hcut
        clear HMa HB0 a0 a1 a2 a3 a4 a5 a6 a7 a8 HR HM hmk hnk
        clear hblk
        have HSN:Hid (sN.ct.bx.S.length ≤ 1000):=Lib.hid HRN.out.pre.ok.ct.bx.n2
        have hsn:=HSN.out
        go_wp2_with fail
        refine (HA.out.boxes HMT.out.has.inv HRN.out.pre.ok).mono ?_
        rintro e w6 ⟨u6,rfl,⟨hsl,hso⟩,hb⟩
        have HSL:=Lib.hid hsl.sl
        obtain ⟨A6,c6,hu,hlm,_⟩:=hsl
        subst hu
        have HMd:=Lib.hid (HMT.out.later HA.out.obj hb)
        clear hb hso hlm HMT
        go_wp2_with fail
        go_loop [15,113] (fun n i => ∃ j:Nat,j ≤ sN.ct.bx.S.length ∧ i = .int .i64 j ∧ n = .int .i64 (j - sN.ct.bx.free j:Nat)) (fun _ i => sN.ct.bx.S.length - (intOf i).toNat)
        case atStart => exact ⟨0,Nat.zero_le _,rfl,rfl⟩
        case round =>
          obtain ⟨j,hj,rfl,rfl⟩:=hrel
          have hfl:=sN.ct.bx.free_le j
          obtain ⟨fj,hfj⟩:∃ fj,j - sN.ct.bx.free j = fj:=⟨_,rfl⟩
          have HFJ:=Lib.hid hfj
          by_cases hjl:j < sN.ct.bx.S.length
          · have hjl2:(j:Int) < (sN.ct.bx.S.length:Int):=by omega
            obtain ⟨y,c7,hv7,hyb,hcell⟩:=HSL.out.at_ hjl
            injection hv7 with hAA _ hcap
            subst hAA hcap
            have b0:w6.cell? (y.add (j * 1)) = some (.int .i64 (sN.ct.bx.S[j]'hjl)):=hcell 0 _ rfl
            rw [Nat.mul_one] at b0
            have HFS:=Lib.hid (sN.ct.bx.free_succ hjl)
            generalize sN.ct.bx.S[j]'hjl = z at b0 HFS
            rw [hfj]
            have hfb:fj ≤ j:=by omega
            clear hcell hyb
            by_cases h0:z = 0
            · subst h0
              have hsc:Hid (j + 1 - sN.ct.bx.free (j + 1) = fj):=Lib.hid (by rw [HFS.out]; simp; omega)
              clear hfj hfl
              go_wp2
              go_round
              case rel => exact ⟨j + 1,by omega,by go_num,by rw [hsc.out]⟩
              case measure => simp [intOf]; omega
            · have hsc:Hid (j + 1 - sN.ct.bx.free (j + 1) = fj + 1):=Lib.hid (by rw [HFS.out,if_neg h0]; omega)
              have e0:(z == 0) = false:=by simp [h0]
              have e1:(z != 0) = true:=by simp [h0]
              clear h0 hfj hfl
              go_wp2
              go_round
              case rel => exact ⟨j + 1,by omega,by go_num,by rw [hsc.out]; go_num⟩
              case measure => simp [intOf]; omega
          · obtain rfl:j = sN.ct.bx.S.length:=by omega
            rw [hfj]
            have HSUM:=Lib.hid HRN.out.sum
            rw [hfj] at HSUM
            have hfb:fj ≤ 1000:=by omega
            clear hjl hj HSL hfj hfl HFJ
            go_wp2_with fail
            refine (HA.out.queued HMd.out.has.inv HRN.out.pre.ok).mono ?_
            rintro e w7 ⟨u7,rfl,⟨hsl,hso⟩,hb⟩
            have HQL:=Lib.hid hsl.sl
            obtain ⟨A7,c7,hu,hlm,_⟩:=hsl
            subst hu
            have HMe:=Lib.hid (HMd.out.later HA.out.obj hb)
            have HQB:Hid (sN.q.all.length ≤ 1000):=Lib.hid (by rw [all_len HRN.out.pre.ok.q]; have:=HRN.out.pre.ok.q.room; have:=HRN.out.pre.ok.q.len; omega)
            have hqb:=HQB.out
            clear hb hso hlm HMd
            go_wp2_with fail
            go_loopw [125] (fun i wq => ∃ j:Nat,j ≤ sN.q.all.length ∧ i = .int .i64 j ∧ Hid (Below w7.heap.size w7 wq)) (fun i _ => sN.q.all.length - (intOf i).toNat)
            case atStart => exact ⟨0,Nat.zero_le _,rfl,Lib.hid (Below.refl _ _)⟩
            case round =>
              obtain ⟨j,hj,rfl,HBQ⟩:=hrel
              by_cases hjl:j < sN.q.all.length
              · have hjl2:(j:Int) < (sN.q.all.length:Int):=by omega
                obtain ⟨y,c8,hv8,hyb,hcell⟩:=(HQL.out.later HBQ.out).at_ hjl
                injection hv8 with hAA _ hcap
                subst hAA hcap
                have HPM:=Lib.hid (HRN.out.queued (List.getElem_mem hjl))
                have b0:wr.cell? (y.add (j * 7)) = some (.int .i64 (sN.q.all[j]'hjl).f.i):=hcell 0 _ rfl
                have b1:wr.cell? ⟨(y.add (j * 7)).block,(y.add (j * 7)).off + 1,none⟩ = some (.int .i64 (sN.q.all[j]'hjl).f.n):=hcell 1 _ rfl
                have b2:wr.cell? ⟨(y.add (j * 7)).block,(y.add (j * 7)).off + 2,none⟩ = some (.int .i64 (sN.q.all[j]'hjl).f.l):=hcell 2 _ rfl
                have b3:wr.cell? ⟨(y.add (j * 7)).block,(y.add (j * 7)).off + 3,none⟩ = some (.string (sN.q.all[j]'hjl).f.d):=hcell 3 _ rfl
                have b4:wr.cell? ⟨(y.add (j * 7)).block,(y.add (j * 7)).off + 4,none⟩ = some (.int .i64 (sN.q.all[j]'hjl).fr):=hcell 4 _ rfl
                have b5:wr.cell? ⟨(y.add (j * 7)).block,(y.add (j * 7)).off + 5,none⟩ = some (.int .i64 (sN.q.all[j]'hjl).tag):=hcell 5 _ rfl
                have b6:wr.cell? ⟨(y.add (j * 7)).block,(y.add (j * 7)).off + 6,none⟩ = some (.bool (sN.q.all[j]'hjl).lp):=hcell 6 _ rfl
                generalize sN.q.all[j]'hjl = pq at b0 b1 b2 b3 b4 b5 b6 HPM
                obtain ⟨jt,ht1,ht2,ht3⟩:=HPM.out
                obtain ⟨⟨qi,qn,ql,qd⟩,qfr,qt,qlp⟩:=pq
                simp only at b0 b1 b2 b3 b4 b5 b6 ht1
                subst ht1
                have hbq:=(Below.refl wr.heap.size wr).alloc (Nat.le_refl _) (.cells #[.int .i64 qi, .int .i64 qn, .int .i64 ql, .string qd, .int .i64 qfr, .int .i64 (jt:Int), .bool qlp] 37)
                have HBQ2:=Lib.hid (fbelow_t HBQ.out hbq)
                have HMq:=Lib.hid (HMe.out.later HA.out.obj HBQ2.out)
                have HBP:=Lib.hid (BoxP.made wr ⟨⟨qi,qn,ql,qd⟩,qfr,(jt:Int),qlp⟩)
                obtain ⟨wq,hwq⟩:∃ wq,wr.alloc (.cells #[.int .i64 qi, .int .i64 qn, .int .i64 ql, .string qd, .int .i64 qfr, .int .i64 (jt:Int), .bool qlp] 37) = wq:=⟨_,rfl⟩
                simp only at HBP
                rw [hwq] at HMq HBP HBQ2
                obtain ⟨hjM,hGT⟩:=List.getElem?_eq_some_iff.1 ht2
                have HGT:=Lib.hid hGT
                have hjN:jt < L.length:=by have:=HRN.out.ln; have:=HLT.out; omega
                have HJM:=Lib.hid hjM
                have g1:decide ((jt:Int) < 0) = false:=decide_eq_false (by omega)
                have g2:decide (MN.length ≤ jt) = false:=decide_eq_false (by omega)
                have g3:=(HMq.out.tab jt hjN).1
                rw [ht3] at g3
                clear hcell hyb hbq ht2 ht3 HPM hGT
                go_upto_region 39 with fail
                clear hwq b0 b1 b2 b3 b4 b5 b6
                obtain ⟨d0,d1,d2,d3,d4,d5,d6⟩:=HBP.out.cells
                simp only at d0 d1 d2 d3 d4 d5 d6
                have hdz:=HBP.out.lt
                obtain ⟨yM,cM,hvM,hyM,hcM⟩:=(HMq.out.row.sl pkC_len (by have:=HRN.out.ln; have:=HLT.out; unfold maxLen; omega)).at_ hjM
                rw [HGT.out] at hcM
                injection hvM with hAA _ hcap
                first | subst hAA | (injection hAA with hAA; subst hAA)
                subst hcap
                have e0:wq.cell? (yM.add (jt * 7)) = some (.int .i64 qi):=hcM 0 _ rfl
                have e1:wq.cell? ⟨(yM.add (jt * 7)).block,(yM.add (jt * 7)).off + 1,none⟩ = some (.int .i64 qn):=hcM 1 _ rfl
                have e2:wq.cell? ⟨(yM.add (jt * 7)).block,(yM.add (jt * 7)).off + 2,none⟩ = some (.int .i64 ql):=hcM 2 _ rfl
                have e3:wq.cell? ⟨(yM.add (jt * 7)).block,(yM.add (jt * 7)).off + 3,none⟩ = some (.string qd):=hcM 3 _ rfl
                have e4:wq.cell? ⟨(yM.add (jt * 7)).block,(yM.add (jt * 7)).off + 4,none⟩ = some (.int .i64 qfr):=hcM 4 _ rfl
                have e5:wq.cell? ⟨(yM.add (jt * 7)).block,(yM.add (jt * 7)).off + 5,none⟩ = some (.int .i64 (jt:Int)):=hcM 5 _ rfl
                have e6:wq.cell? ⟨(yM.add (jt * 7)).block,(yM.add (jt * 7)).off + 6,none⟩ = some (.bool qlp):=hcM 6 _ rfl
                have htz:=HMq.out.t1
                have hjM2:=HJM.out
                clear hcM HGT HJM hjM
                go_quiet (fail)
                go_wp2
                go_roundw
                case rel => exact ⟨j + 1,by omega,by go_num,Lib.hid (below_drewN HBQ2.out _)⟩
                case measure => simp [intOf]; omega
              · obtain rfl:j = sN.q.all.length:=by omega
                have HMf:=Lib.hid (HMe.out.later HA.out.obj HBQ.out)
                clear hjl hj HQL HMe
                go_wp2_with fail
                refine (HA.out.queued HMf.out.has.inv HRN.out.pre.ok).mono ?_
                rintro e w8 ⟨u8,rfl,⟨hsl,hso⟩,hb⟩
                obtain ⟨A9,c9,hu,hlm,_⟩:=hsl
                subst hu
                have HMg:=Lib.hid (HMf.out.later HA.out.obj hb)
                have hne:((MN.length:Int) != (nN:Int) + (fj:Int) + (sN.q.all.length:Int)) = false:=by have:=HSUM.out; simp; omega
                have hnb:=HRN.out.nle
                have hnb2:(nN:Int) ≤ 301:=by omega
                have hfb2:(fj:Int) ≤ 1000:=by omega
                have hqb2:(sN.q.all.length:Int) ≤ 1000:=by omega
                have hnf:wrap64 ((nN:Int) + (fj:Int)) = (nN:Int) + (fj:Int):=by unfold wrap64; omega
                have hnq:wrap64 ((nN:Int) + (fj:Int) + (sN.q.all.length:Int)) = (nN:Int) + (fj:Int) + (sN.q.all.length:Int):=by unfold wrap64; omega
                clear hb hso hlm HMf HSUM
                go_wp2_with fail
                go_roundw
                case rel => exact ⟨k + 1,nN,MN,UN,sN,_,by omega,by go_num,by go_num,HRN,HMg⟩
                case measure => simp [intOf]; omega
    · obtain rfl:k = L.length:=by omega
      go_wp2_with fail
      refine (drvalive HA.out _ (HA.out.tab HT.out HM.out.has.below)).mono ?_
      rintro e w7 ⟨rfl,hb⟩
      have HB7:=Lib.hid (fbelow_t HM.out.has.below hb)
      clear hb
      go_wp2
      go_ret
      exact ⟨rfl,HB7.out⟩
end Go.Proofs.YtimdkcchjanpaaaGreatDoor
