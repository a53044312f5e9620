/- Drv: walk of DrvBusy. -/
import Derived.Test.YtimdkcchjanpaaaGreatDoorZbk
set_option maxHeartbeats 64000000
namespace Go.Proofs.YtimdkcchjanpaaaGreatDoor
open Go.RowKit
set_option linter.unusedVariables false
set_option maxRecDepth 8000 in
theorem drvBusy_walk {T:World → Prop} {I:World → Value → Dr → (Nat → Prop) → Prop} (A:DrvI T I) (c:Cg) (F0:Nat → List Value) (a:Option Addr) (len cap:Nat) (F:Nat → List Value) (w:World) (hr0:IsRowOf w cfSh c.A c.n c.cp F0) (hr:IsRowOf w op9Sc a len cap F) (hT:T w) :
    Calls Tryz.prog 4 #[cgV c, .slice a len cap] w fun e w' => e = .returned (.bool true) ∧ Below w.heap.size w w':=by
  obtain ⟨LA,hLA,hlenA,hfA⟩:=slice_of_row hr0 cfOf cfOf_c rfl (by decide)
  obtain ⟨L,hL,hlen,hf⟩:=slice_of_row hr op9Oc op9Oc_c rfl (by decide)
  have HA:=Lib.hid A
  have HT:=Lib.hid hT
  have HVA:Hid (SlG flC 3 w w.heap.size c.va LA):=Lib.hid hLA
  have HV:=Lib.hid hL
  have HFA:Hid (∀ x ∈ LA,x.fits):=Lib.hid (fun x h => cf_fits (hfA x h))
  have HX:Hid (∀ o ∈ L,o.p.ok ∧ (-9223372036854775808 ≤ o.b ∧ o.b ≤ 9223372036854775807)):=Lib.hid (fun o h => op9c_fits (hf o h))
  have HCN:Hid (c.n ≤ maxLen):=Lib.hid (by obtain ⟨A1,c1,hv,hm,_⟩:=hLA; injection hv with _ h2 _; omega)
  subst hlen
  obtain ⟨w1,e1⟩:∃ w1,w.alloc (cgO c) = w1:=⟨_,rfl⟩
  have hb1:Below w.heap.size w w1:=by rw [← e1]; exact (Below.refl _ _).alloc (Nat.le_refl _) _
  have HB1:=Lib.hid hb1
  have hx1:w1.heap[w.heap.size]? = some (.cells #[.int .i64 c.bo, .int .i64 c.fi, .int .i64 c.ba, .int .i64 c.de, .int .i64 c.qu, .int .i64 c.no, .int .i64 c.re, .slice c.A c.n c.cp] 24 (0,0)):=by rw [← e1]; unfold World.alloc; simp
  have HXC:=Lib.hid hx1
  clear A hT hL hr hf hLA hr0 hfA hb1 hx1 hlenA
  obtain ⟨q,hq⟩:∃ q,fdB c L = q:=⟨_,rfl⟩
  have HQ:=Lib.hid hq
  clear hq
  go_enter Tryz.func4,Tryz.ntmps4
  have d:=fun j => Lib.cell_of_heap HXC.out j
  have d0:=d 0
  have d1:=d 1
  have d2:=d 2
  have d3:=d 3
  have d4:=d 4
  have d5:=d 5
  have d6:=d 6
  have d7:=d 7
  simp at d0 d1 d2 d3 d4 d5 d6 d7
  clear d
  go_wp2_with fail
  refine (fd_any w1 (HV.out.later HB1.out) HCN.out).mono ?_
  rintro e w2 ⟨he,hb⟩
  rw [HQ.out] at he
  subst he
  have HB2:=Lib.hid (fbelow_t HB1.out hb)
  have HXC2:=Lib.hid ((hb.block w.heap.size (heap_some_lt HXC.out)).trans HXC.out)
  clear hb d0 d1 d2 d3 d4 d5 d6 d7
  cases q
  · go_wp2_with fail
    refine (drvalive HA.out _ (HA.out.tab HT.out HB2.out)).mono ?_
    rintro e w3 ⟨rfl,hb⟩
    have HB3:=Lib.hid (fbelow_t HB2.out hb)
    clear hb
    go_wp2
    go_ret
    exact ⟨rfl,HB3.out⟩
  have hl4:=fdB_len HQ.out
  go_upto_region 3 with fail
  have d:=fun j => Lib.cell_of_heap HXC2.out j
  have d0:=d 0
  have d1:=d 1
  have d2:=d 2
  have d3:=d 3
  have d4:=d 4
  have d5:=d 5
  have d6:=d 6
  have d7:=d 7
  simp at d0 d1 d2 d3 d4 d5 d6 d7
  have hz2:=heap_some_lt HXC2.out
  have hcl:∀ (n:KLater (fun _ => False) w2) (o:Nat),n.w.cell? ⟨w.heap.size,o,none⟩ = w2.cell? ⟨w.heap.size,o,none⟩:=fun n o => n.cell w.heap.size o hz2 (fun h => h)
  refine wp_region_sl 5 [1,3] [] (NewJ I DrD w w2 (drNew c LA) (drNew c LA) 22 24 5) [22,24,5] NewJ.start (by kernel_rfl) (by kernel_rfl) (by kernel_rfl) (by kernel_rfl) (by kernel_rfl) (by kernel_rfl) (by kernel_rfl) (by kernel_rfl) ?_
  simp only [List.take_succ_cons,List.take_zero,List.drop_succ_cons,List.drop_zero]
  repeat ((first | refine sl_plain (O:=fun _ => False) (fun h => h.kept) (by rfl) (by rfl) (by rfl) (by rfl) (by rfl) ?_ | refine sl_nil (O:=fun _ => False) (fun h => h.kept) (by rfl) (by rfl) (by rfl) (by rfl) (by rfl) (by rfl) ?_); intro K hK; go_big_quiet_op; go_big_quiet_on)
  refine sl_stepF (s:=22) (f:=8) (args := #[cgV c]) 0 (by rfl) (by rfl) (by rfl) (by rfl) (by rfl) (by rfl) (fun w => by simp [go_sem]) (fun xs9 w9 h9 hx9 => ?_) ?_
  · have hb9:=fbelow_t HB2.out h9.1
    refine (HA.out.new c LA w9 (HA.out.tab HT.out hb9) (HVA.out.later hb9) HFA.out (fdB_n HQ.out)).mono ?_
    rintro e w' ⟨v,O,he,hi,hb,hn⟩
    exact ⟨v,he,h9.one HB2.out (by decide) (by decide) hi hb hn⟩
  simp only [Act.put,List.setIfInBounds_toArray,List.set_cons_succ,List.set_cons_zero]
  repeat ((first | refine sl_plain (O:=fun _ => False) (fun h => h.kept) (by rfl) (by rfl) (by rfl) (by rfl) (by rfl) ?_ | refine sl_nil (O:=fun _ => False) (fun h => h.kept) (by rfl) (by rfl) (by rfl) (by rfl) (by rfl) (by rfl) ?_); intro K hK; go_big_quiet_op; go_big_quiet_on)
  refine sl_stepF (s:=24) (f:=13) (args := #[cgV c]) 1 (by rfl) (by rfl) (by rfl) (by rfl) (by rfl) (by rfl) (fun w => by simp [go_sem]) (fun xs9 w9 h9 hx9 => ?_) ?_
  · refine (xdnew_v c LA w9).mono ?_
    rintro e w' ⟨v,O,he,hi,hb,hn⟩
    exact ⟨v,he,h9.two HA.out.obj HB2.out (by decide) (by decide) hi hb hn⟩
  simp only [Act.put,List.setIfInBounds_toArray,List.set_cons_succ,List.set_cons_zero]
  refine sl_move (s1:=22) (s2:=5) (by rfl) (by rfl) (by rfl) (by rfl) (by rfl) (by decide) (fun a w => by simp [execOp,go_sem]) (fun j xs w u hG h1 h2 => hG.move h1 (by decide) (by decide)) ?_
  simp only [Act.put,List.setIfInBounds_toArray,List.set_cons_succ,List.set_cons_zero]
  intro ys xs w3 hF h3
  have f1:=hF 22 (by simp)
  have f2:=hF 24 (by simp)
  have f3:=hF 5 (by simp)
  have h3b:=h3.1
  obtain ⟨O,O',e5,hp⟩:=h3.out f1 f2 f3
  simp only [secFill,Act.put,List.setIfInBounds_toArray,List.set_cons_succ,List.set_cons_zero]
  rw [e5]
  generalize ys 22 = v at hp
  obtain ⟨g,eb⟩:∃ g,ys 24 = .pointer (some ⟨g,0,none⟩):=by obtain ⟨g,cp,qp,Oc,Oq,h,_,_⟩:=hp.b.inv; exact ⟨g,h⟩
  rw [eb] at hp ⊢
  have HP:=Lib.hid hp
  have HB3:=Lib.hid (fbelow_t HB2.out h3b)
  obtain ⟨pv,rfl⟩:=HA.out.ptr hp.a.inv
  have HBR:Hid (BusyR w (drNew c LA) (drNew c LA) 0):=Lib.hid ⟨⟨Dr.Ok.new c LA,HVA.out,HFA.out,fdB_n HQ.out⟩,⟨Dr.Ok.new c LA,HVA.out,HFA.out,fdB_n HQ.out⟩,drNew_busy c LA⟩
  clear hF f1 f2 f3 h3 h3b e5 eb hp ys xs hcl d d0 d1 d2 d3 d4 d5 d6 d7 hz2
  go_wp2_with fail
  go_loopw [27] (fun i wr => ∃ (k:Nat) (s t:Dr) (O O':Nat → Prop),k ≤ L.length ∧ i = .int .i64 k ∧ Hid (BusyR w s t k) ∧ Hid (Pair I DrD w (.pointer (some pv)) (.pointer (some ⟨g,0,none⟩)) s t O O' wr)) (fun i _ => L.length - (intOf i).toNat)
  case atStart => exact ⟨0,_,_,O,O',by omega,rfl,HBR,HP⟩
  case round =>
    clear HBR HP
    obtain ⟨k,s,t,O1,O2,hk,rfl,HS,HP⟩:=hrel
    by_cases hlt:k < L.length
    · have hkl:(k:Int) < (L.length:Int):=by omega
      obtain ⟨x,c1,hv1,hxb,hcell⟩:=SlG.at_ (HV.out.later HP.out.a.below) hlt
      injection hv1 with hAA _ hcap
      subst hAA hcap
      have a0:wr.cell? (x.add (k * 9)) = some (.int .i64 (L[k]'hlt).k):=hcell 0 _ rfl
      have a1:wr.cell? ⟨(x.add (k * 9)).block,(x.add (k * 9)).off + 1,none⟩ = some (.int .i64 (L[k]'hlt).b):=hcell 1 _ rfl
      have a2:wr.cell? ⟨(x.add (k * 9)).block,(x.add (k * 9)).off + 2,none⟩ = some (.int .i64 (L[k]'hlt).p.f.i):=hcell 2 _ rfl
      have a3:wr.cell? ⟨(x.add (k * 9)).block,(x.add (k * 9)).off + 3,none⟩ = some (.int .i64 (L[k]'hlt).p.f.n):=hcell 3 _ rfl
      have a4:wr.cell? ⟨(x.add (k * 9)).block,(x.add (k * 9)).off + 4,none⟩ = some (.int .i64 (L[k]'hlt).p.f.l):=hcell 4 _ rfl
      have a5:wr.cell? ⟨(x.add (k * 9)).block,(x.add (k * 9)).off + 5,none⟩ = some (.string (L[k]'hlt).p.f.d):=hcell 5 _ rfl
      have a6:wr.cell? ⟨(x.add (k * 9)).block,(x.add (k * 9)).off + 6,none⟩ = some (.int .i64 (L[k]'hlt).p.fr):=hcell 6 _ rfl
      have a7:wr.cell? ⟨(x.add (k * 9)).block,(x.add (k * 9)).off + 7,none⟩ = some (.int .i64 (L[k]'hlt).p.tag):=hcell 7 _ rfl
      have a8:wr.cell? ⟨(x.add (k * 9)).block,(x.add (k * 9)).off + 8,none⟩ = some (.bool (L[k]'hlt).p.lp):=hcell 8 _ rfl
      have HFX:=Lib.hid (HX.out _ (List.getElem_mem hlt))
      generalize L[k]'hlt = o at a0 a1 a2 a3 a4 a5 a6 a7 a8 HFX
      clear hcell hxb
      have HKB:Hid (64 * (k:Int) ≤ 1000000):=Lib.hid (by omega)
      have HPa:=Lib.hid (HP.out.later HA.out.obj isObj_dr ((Below.refl wr.heap.size wr).alloc (Nat.le_refl _) (.cells #[.int .i64 o.k, .int .i64 o.b, .int .i64 o.p.f.i, .int .i64 o.p.f.n, .int .i64 o.p.f.l, .string o.p.f.d, .int .i64 o.p.fr, .int .i64 o.p.tag, .bool o.p.lp] 39)))
      have HB0:=Lib.hid (DrvO9.made wr o)
      have HNO:Hid (¬ (O1 wr.heap.size ∨ O2 wr.heap.size)):=Lib.hid (fun hh => by
        rcases hh with hh | hh
        · have:=HA.out.obj.lt HP.out.a.inv _ hh; omega
        · have:=isObj_dr.lt HP.out.b.inv _ hh; omega)
      obtain ⟨up,hup⟩:∃ up,(s.st == 1) = up:=⟨_,rfl⟩
      have HUP:Hid (s.st = 1 → up = true):=Lib.hid (fun h => by rw [← hup,h]; rfl)
      go_wp2_with fail
      refine (HA.out.state HPa.out.a.inv HS.out.ps.ok).mono ?_
      rintro e w4 ⟨rfl,hb⟩
      have HPb:=Lib.hid (HPa.out.later HA.out.obj isObj_dr hb)
      have HBb:=Lib.hid (HB0.out.later hb)
      clear hb a0 a1 a2 a3 a4 a5 a6 a7 a8 HPa HB0
      obtain ⟨a0,a1,a2,a3,a4,a5,a6,a7,a8⟩:=HBb.out.cells
      have hblk:=HBb.out.lt
      by_cases h3:o.k = 3
      · have HD:Hid (s.doOp o = s.won.1):=Lib.hid (doOp3 h3)
        have f3:(o.k == 3) = true:=by simp [h3]
        have f4:(o.k == 4) = false:=by simp [h3]
        clear h3
        go_wp2_with fail
        refine (HA.out.won HPb.out.a.inv HS.out.ps.ok (HA.out.tab HT.out HPb.out.a.below)).mono ?_
        rintro e w5 ⟨rfl,O3,hi,hkk,hg⟩
        rw [← HD.out] at hi
        have HPc:=Lib.hid (HPb.out.stepA HA.out.obj isObj_dr hi hkk hg)
        have HBc:=Lib.hid (HBb.out.kept hkk (fun h => HNO.out (.inl h)))
        have HS2:=Lib.hid (HS.out.more o (.inl rfl))
        obtain ⟨sN,hsN⟩:∃ sN,s.doOp o = sN:=⟨_,rfl⟩
        have HUB:Hid (s.won.2 = true → up = true):=Lib.hid (fun h => HUP.out (won_up h))
        rw [hsN] at HS2 HPc
        clear hi hkk hg HD hsN HPb HBb a0 a1 a2 a3 a4 a5 a6 a7 a8 hup HUP
        generalize s.won.2 = bo at HUB
        obtain ⟨a0, -, -, -, -, -, -, -, -⟩:=HBc.out.cells
        cases bo
        · clear HUB
          clear HNO hblk
          go_wp2_with fail
          refine (HA.out.boxes HPc.out.a.inv HS2.out.ps.ok).mono ?_
          rintro e w6 ⟨u,rfl,⟨hsl,hso⟩,hb⟩
          have HSL:=Lib.hid hsl.sl
          obtain ⟨A6,c6,hu,hlm,_⟩:=hsl
          subst hu
          have HPd:=Lib.hid (HPc.out.later HA.out.obj isObj_dr hb)
          have HSN:Hid (sN.ct.bx.S.length ≤ 1000):=Lib.hid HS2.out.ps.ok.ct.bx.n2
          have hsn:=HSN.out
          clear hb hso hlm HBc HPc
          go_wp2_with fail
          go_loop [11,73] (fun n i => ∃ j:Nat,j ≤ sN.ct.bx.S.length ∧ i = .int .i64 j ∧ n = .int .i64 (sN.ct.bx.free j:Nat)) (fun _ i => sN.ct.bx.S.length - (intOf i).toNat)
          case atStart => exact ⟨0,Nat.zero_le _,rfl,rfl⟩
          case round =>
            obtain ⟨j,hj,rfl,rfl⟩:=hrel
            have hfl:=sN.ct.bx.free_le j
            by_cases hjl:j < sN.ct.bx.S.length
            · have hjl2:(j:Int) < (sN.ct.bx.S.length:Int):=by omega
              obtain ⟨y,c7,hv7,hyb,hcell⟩:=HSL.out.at_ hjl
              injection hv7 with hAA _ hcap
              subst hAA hcap
              have b0:w6.cell? (y.add (j * 1)) = some (.int .i64 (sN.ct.bx.S[j]'hjl)):=hcell 0 _ rfl
              rw [Nat.mul_one] at b0
              have HFS:=Lib.hid (sN.ct.bx.free_succ hjl)
              generalize sN.ct.bx.S[j]'hjl = z at b0 HFS
              clear hcell hyb
              by_cases h0:z = 0
              · subst h0
                have hsc:Hid (sN.ct.bx.free (j + 1) = sN.ct.bx.free j + 1):=Lib.hid (by rw [HFS.out]; rfl)
                go_wp2
                go_round
                case rel => exact ⟨j + 1,by omega,by go_num,by rw [hsc.out]; go_num⟩
                case measure => simp [intOf]; omega
              · have hsc:Hid (sN.ct.bx.free (j + 1) = sN.ct.bx.free j):=Lib.hid (by rw [HFS.out,if_neg h0]; rfl)
                have e0:(z == 0) = false:=by simp [h0]
                clear h0
                go_wp2
                go_round
                case rel => exact ⟨j + 1,by omega,by go_num,by rw [hsc.out]⟩
                case measure => simp [intOf]; omega
            · obtain rfl:j = sN.ct.bx.S.length:=by omega
              have HBU:=Lib.hid HS2.out.busy
              clear hjl hj HSL
              obtain ⟨fr,hfr⟩:∃ fr,sN.ct.bx.free sN.ct.bx.S.length = fr:=⟨_,rfl⟩
              have HFR:=Lib.hid hfr
              rw [hfr] at hfl ⊢
              clear hfr
              by_cases hst:sN.st = 1
              · have g1:(sN.st == 1) = true:=by simp [hst]
                have g0:(sN.st == 0) = false:=by simp [hst]
                have gn:(sN.st != 1) = false:=by simp [hst]
                have hcase:=HBU.out.up hst
                rw [HFR.out] at hcase
                by_cases hf0:fr = 0
                · subst hf0
                  clear hcase hst
                  go_wp2_with fail
                  refine (HA.out.state HPd.out.a.inv HS2.out.ps.ok).mono ?_
                  rintro e w7 ⟨rfl,hb⟩
                  have HPe:=Lib.hid (HPd.out.later HA.out.obj isObj_dr hb)
                  clear hb HPd
                  go_wp2_with fail
                  refine (HA.out.offer HPe.out.a.inv HS2.out.ps.ok (HA.out.tab HT.out HPe.out.a.below)).mono ?_
                  rintro e w9 ⟨rfl,hb⟩
                  generalize sN.offer.1 = ff
                  generalize sN.offer.2 = oo
                  have HPf0:=Lib.hid (HPe.out.later HA.out.obj isObj_dr hb)
                  have HPf:=Lib.hid (HPf0.out.later HA.out.obj isObj_dr ((Below.refl w9.heap.size w9).alloc (Nat.le_refl _) (.cells #[.int .i64 ff.i, .int .i64 ff.n, .int .i64 ff.l, .string ff.d] 35)))
                  clear hb HPe HPf0
                  cases oo
                  · go_wp2_with fail
                    refine (HA.out.state HPf.out.a.inv HS2.out.ps.ok).mono ?_
                    rintro e w10 ⟨rfl,hb⟩
                    have HPg:=Lib.hid (HPf.out.later HA.out.obj isObj_dr hb)
                    clear hb HPf
                    go_wp2_with fail
                    go_roundw
                    case rel => exact ⟨k + 1,sN,_,O3,_,by omega,by go_num,HS2,HPg⟩
                    case measure => simp [intOf]; omega
                  · go_wp2_with fail
                    refine (HA.out.state HPf.out.a.inv HS2.out.ps.ok).mono ?_
                    rintro e w10 ⟨rfl,hb⟩
                    have HPg0:=Lib.hid (HPf.out.later HA.out.obj isObj_dr hb)
                    clear hb HPf
                    go_wp2_with fail
                    refine (HA.out.state HPg0.out.a.inv HS2.out.ps.ok).mono ?_
                    rintro e w11 ⟨rfl,hb⟩
                    have HPg:=Lib.hid (HPg0.out.later HA.out.obj isObj_dr hb)
                    clear hb HPg0
                    go_wp2_with fail
                    go_roundw
                    case rel => exact ⟨k + 1,sN,_,O3,_,by omega,by go_num,HS2,HPg⟩
                    case measure => simp [intOf]; omega
                · have hq:sN.q.L = []:=hcase.resolve_left hf0
                  have HQN:=Lib.hid (Bq.all_nil hq)
                  have hfp:(0:Int) < (fr:Int):=by omega
                  clear hcase hst hq hf0
                  go_wp2_with fail
                  refine (HA.out.state HPd.out.a.inv HS2.out.ps.ok).mono ?_
                  rintro e w7 ⟨rfl,hb⟩
                  have HPe0:=Lib.hid (HPd.out.later HA.out.obj isObj_dr hb)
                  clear hb HPd
                  go_wp2_with fail
                  refine (HA.out.queued HPe0.out.a.inv HS2.out.ps.ok).mono ?_
                  rintro e w8 ⟨u,rfl,⟨hsl,hso⟩,hb⟩
                  obtain ⟨A8,c8,hu,hlm,_⟩:=hsl
                  rw [HQN.out,List.length_nil] at hu
                  subst hu
                  have HPe:=Lib.hid (HPe0.out.later HA.out.obj isObj_dr hb)
                  clear hb hso hlm HPe0
                  go_wp2_with fail
                  refine (HA.out.offer HPe.out.a.inv HS2.out.ps.ok (HA.out.tab HT.out HPe.out.a.below)).mono ?_
                  rintro e w9 ⟨rfl,hb⟩
                  generalize sN.offer.1 = ff
                  generalize sN.offer.2 = oo
                  have HPf0:=Lib.hid (HPe.out.later HA.out.obj isObj_dr hb)
                  have HPf:=Lib.hid (HPf0.out.later HA.out.obj isObj_dr ((Below.refl w9.heap.size w9).alloc (Nat.le_refl _) (.cells #[.int .i64 ff.i, .int .i64 ff.n, .int .i64 ff.l, .string ff.d] 35)))
                  clear hb HPe HPf0
                  cases oo
                  · go_wp2_with fail
                    refine (HA.out.state HPf.out.a.inv HS2.out.ps.ok).mono ?_
                    rintro e w10 ⟨rfl,hb⟩
                    have HPg:=Lib.hid (HPf.out.later HA.out.obj isObj_dr hb)
                    clear hb HPf
                    go_wp2_with fail
                    go_roundw
                    case rel => exact ⟨k + 1,sN,_,O3,_,by omega,by go_num,HS2,HPg⟩
                    case measure => simp [intOf]; omega
                  · go_wp2_with fail
                    refine (HA.out.state HPf.out.a.inv HS2.out.ps.ok).mono ?_
                    rintro e w10 ⟨rfl,hb⟩
                    have HPg0:=Lib.hid (HPf.out.later HA.out.obj isObj_dr hb)
                    clear hb HPf
                    go_wp2_with fail
                    refine (HA.out.state HPg0.out.a.inv HS2.out.ps.ok).mono ?_
                    rintro e w11 ⟨rfl,hb⟩
                    have HPg:=Lib.hid (HPg0.out.later HA.out.obj isObj_dr hb)
                    clear hb HPg0
                    go_wp2_with fail
                    go_roundw
                    case rel => exact ⟨k + 1,sN,_,O3,_,by omega,by go_num,HS2,HPg⟩
                    case measure => simp [intOf]; omega
              · have g1:(sN.st == 1) = false:=by simp [hst]
                have gn:(sN.st != 1) = true:=by simp [hst]
                have HOF:Hid (sN.offer.2 = false):=Lib.hid (by unfold Dr.offer; rw [if_neg hst])
                go_wp2_with fail
                refine (HA.out.state HPd.out.a.inv HS2.out.ps.ok).mono ?_
                rintro e w7 ⟨rfl,hb⟩
                have HPe:=Lib.hid (HPd.out.later HA.out.obj isObj_dr hb)
                clear hb HPd
                go_wp2_with fail
                refine (HA.out.offer HPe.out.a.inv HS2.out.ps.ok (HA.out.tab HT.out HPe.out.a.below)).mono ?_
                rintro e w8 ⟨rfl,hb⟩
                rw [HOF.out]
                generalize sN.offer.1 = ff
                have HPf0:=Lib.hid (HPe.out.later HA.out.obj isObj_dr hb)
                have HPf:=Lib.hid (HPf0.out.later HA.out.obj isObj_dr ((Below.refl w8.heap.size w8).alloc (Nat.le_refl _) (.cells #[.int .i64 ff.i, .int .i64 ff.n, .int .i64 ff.l, .string ff.d] 35)))
                clear hb HPe HOF HPf0
                by_cases hs0:sN.st = 0
                · have g0:(sN.st == 0) = true:=by simp [hs0]
                  obtain ⟨hd1,hd2⟩:=HBU.out.down hs0
                  rw [HFR.out] at hd2
                  subst hd2
                  have HQN:=Lib.hid (Bq.all_nil hd1)
                  have hff:decide ((sN.ct.bx.S.length:Int) < (sN.ct.bx.S.length:Int)) = false:=decide_eq_false (by omega)
                  clear hst hs0 hd1 HFR
                  go_wp2_with fail
                  refine (HA.out.state HPf.out.a.inv HS2.out.ps.ok).mono ?_
                  rintro e w9 ⟨rfl,hb⟩
                  have HPg:=Lib.hid (HPf.out.later HA.out.obj isObj_dr hb)
                  clear hb HPf
                  go_wp2_with fail
                  refine (HA.out.queued HPg.out.a.inv HS2.out.ps.ok).mono ?_
                  rintro e w10 ⟨u,rfl,⟨hsl,hso⟩,hb⟩
                  obtain ⟨A8,c8,hu,hlm,_⟩:=hsl
                  rw [HQN.out,List.length_nil] at hu
                  subst hu
                  have HPh:=Lib.hid (HPg.out.later HA.out.obj isObj_dr hb)
                  clear hb hso hlm HPg
                  go_wp2_with fail
                  refine (HA.out.boxes HPh.out.a.inv HS2.out.ps.ok).mono ?_
                  rintro e w11 ⟨u,rfl,⟨hsl,hso⟩,hb⟩
                  obtain ⟨A9,c9,hu,hlm,_⟩:=hsl
                  subst hu
                  have HPi:=Lib.hid (HPh.out.later HA.out.obj isObj_dr hb)
                  clear hb hso hlm HPh
                  go_wp2_with fail
                  go_roundw
                  case rel => exact ⟨k + 1,sN,_,O3,_,by omega,by go_num,HS2,HPi⟩
                  case measure => simp [intOf]; omega
                · have g0:(sN.st == 0) = false:=by simp [hs0]
                  clear hst hs0
                  go_wp2_with fail
                  refine (HA.out.state HPf.out.a.inv HS2.out.ps.ok).mono ?_
                  rintro e w9 ⟨rfl,hb⟩
                  have HPg:=Lib.hid (HPf.out.later HA.out.obj isObj_dr hb)
                  clear hb HPf
                  go_wp2_with fail
                  go_roundw
                  case rel => exact ⟨k + 1,sN,_,O3,_,by omega,by go_num,HS2,HPg⟩
                  case measure => simp [intOf]; omega
        · obtain rfl:up = true:=HUB.out rfl
          clear HUB
          clear HNO hblk
          go_wp2_with fail
          refine (HA.out.boxes HPc.out.a.inv HS2.out.ps.ok).mono ?_
          rintro e w6 ⟨u,rfl,⟨hsl,hso⟩,hb⟩
          have HSL:=Lib.hid hsl.sl
          obtain ⟨A6,c6,hu,hlm,_⟩:=hsl
          subst hu
          have HPd:=Lib.hid (HPc.out.later HA.out.obj isObj_dr hb)
          have HSN:Hid (sN.ct.bx.S.length ≤ 1000):=Lib.hid HS2.out.ps.ok.ct.bx.n2
          have hsn:=HSN.out
          clear hb hso hlm HBc HPc
          go_wp2_with fail
          go_loop [11,73] (fun n i => ∃ j:Nat,j ≤ sN.ct.bx.S.length ∧ i = .int .i64 j ∧ n = .int .i64 (sN.ct.bx.free j:Nat)) (fun _ i => sN.ct.bx.S.length - (intOf i).toNat)
          case atStart => exact ⟨0,Nat.zero_le _,rfl,rfl⟩
          case round =>
            obtain ⟨j,hj,rfl,rfl⟩:=hrel
            have hfl:=sN.ct.bx.free_le j
            by_cases hjl:j < sN.ct.bx.S.length
            · have hjl2:(j:Int) < (sN.ct.bx.S.length:Int):=by omega
              obtain ⟨y,c7,hv7,hyb,hcell⟩:=HSL.out.at_ hjl
              injection hv7 with hAA _ hcap
              subst hAA hcap
              have b0:w6.cell? (y.add (j * 1)) = some (.int .i64 (sN.ct.bx.S[j]'hjl)):=hcell 0 _ rfl
              rw [Nat.mul_one] at b0
              have HFS:=Lib.hid (sN.ct.bx.free_succ hjl)
              generalize sN.ct.bx.S[j]'hjl = z at b0 HFS
              clear hcell hyb
              by_cases h0:z = 0
              · subst h0
                have hsc:Hid (sN.ct.bx.free (j + 1) = sN.ct.bx.free j + 1):=Lib.hid (by rw [HFS.out]; rfl)
                go_wp2
                go_round
                case rel => exact ⟨j + 1,by omega,by go_num,by rw [hsc.out]; go_num⟩
                case measure => simp [intOf]; omega
              · have hsc:Hid (sN.ct.bx.free (j + 1) = sN.ct.bx.free j):=Lib.hid (by rw [HFS.out,if_neg h0]; rfl)
                have e0:(z == 0) = false:=by simp [h0]
                clear h0
                go_wp2
                go_round
                case rel => exact ⟨j + 1,by omega,by go_num,by rw [hsc.out]⟩
                case measure => simp [intOf]; omega
            · obtain rfl:j = sN.ct.bx.S.length:=by omega
              have HBU:=Lib.hid HS2.out.busy
              clear hjl hj HSL
              obtain ⟨fr,hfr⟩:∃ fr,sN.ct.bx.free sN.ct.bx.S.length = fr:=⟨_,rfl⟩
              have HFR:=Lib.hid hfr
              rw [hfr] at hfl ⊢
              clear hfr
              by_cases hst:sN.st = 1
              · have g1:(sN.st == 1) = true:=by simp [hst]
                have g0:(sN.st == 0) = false:=by simp [hst]
                have gn:(sN.st != 1) = false:=by simp [hst]
                have hcase:=HBU.out.up hst
                rw [HFR.out] at hcase
                by_cases hf0:fr = 0
                · subst hf0
                  clear hcase hst
                  go_wp2_with fail
                  refine (HA.out.state HPd.out.a.inv HS2.out.ps.ok).mono ?_
                  rintro e w7 ⟨rfl,hb⟩
                  have HPe:=Lib.hid (HPd.out.later HA.out.obj isObj_dr hb)
                  clear hb HPd
                  go_wp2_with fail
                  refine (HA.out.offer HPe.out.a.inv HS2.out.ps.ok (HA.out.tab HT.out HPe.out.a.below)).mono ?_
                  rintro e w9 ⟨rfl,hb⟩
                  generalize sN.offer.1 = ff
                  generalize sN.offer.2 = oo
                  have HPf0:=Lib.hid (HPe.out.later HA.out.obj isObj_dr hb)
                  have HPf:=Lib.hid (HPf0.out.later HA.out.obj isObj_dr ((Below.refl w9.heap.size w9).alloc (Nat.le_refl _) (.cells #[.int .i64 ff.i, .int .i64 ff.n, .int .i64 ff.l, .string ff.d] 35)))
                  clear hb HPe HPf0
                  cases oo
                  · go_wp2_with fail
                    refine (HA.out.state HPf.out.a.inv HS2.out.ps.ok).mono ?_
                    rintro e w10 ⟨rfl,hb⟩
                    have HPg:=Lib.hid (HPf.out.later HA.out.obj isObj_dr hb)
                    clear hb HPf
                    go_wp2_with fail
                    go_roundw
                    case rel => exact ⟨k + 1,sN,_,O3,_,by omega,by go_num,HS2,HPg⟩
                    case measure => simp [intOf]; omega
                  · go_wp2_with fail
                    refine (HA.out.state HPf.out.a.inv HS2.out.ps.ok).mono ?_
                    rintro e w10 ⟨rfl,hb⟩
                    have HPg0:=Lib.hid (HPf.out.later HA.out.obj isObj_dr hb)
                    clear hb HPf
                    go_wp2_with fail
                    refine (HA.out.state HPg0.out.a.inv HS2.out.ps.ok).mono ?_
                    rintro e w11 ⟨rfl,hb⟩
                    have HPg:=Lib.hid (HPg0.out.later HA.out.obj isObj_dr hb)
                    clear hb HPg0
                    go_wp2_with fail
                    go_roundw
                    case rel => exact ⟨k + 1,sN,_,O3,_,by omega,by go_num,HS2,HPg⟩
                    case measure => simp [intOf]; omega
                · have hq:sN.q.L = []:=hcase.resolve_left hf0
                  have HQN:=Lib.hid (Bq.all_nil hq)
                  have hfp:(0:Int) < (fr:Int):=by omega
                  clear hcase hst hq hf0
                  go_wp2_with fail
                  refine (HA.out.state HPd.out.a.inv HS2.out.ps.ok).mono ?_
                  rintro e w7 ⟨rfl,hb⟩
                  have HPe0:=Lib.hid (HPd.out.later HA.out.obj isObj_dr hb)
                  clear hb HPd
                  go_wp2_with fail
                  refine (HA.out.queued HPe0.out.a.inv HS2.out.ps.ok).mono ?_
                  rintro e w8 ⟨u,rfl,⟨hsl,hso⟩,hb⟩
                  obtain ⟨A8,c8,hu,hlm,_⟩:=hsl
                  rw [HQN.out,List.length_nil] at hu
                  subst hu
                  have HPe:=Lib.hid (HPe0.out.later HA.out.obj isObj_dr hb)
                  clear hb hso hlm HPe0
                  go_wp2_with fail
                  refine (HA.out.offer HPe.out.a.inv HS2.out.ps.ok (HA.out.tab HT.out HPe.out.a.below)).mono ?_
                  rintro e w9 ⟨rfl,hb⟩
                  generalize sN.offer.1 = ff
                  generalize sN.offer.2 = oo
                  have HPf0:=Lib.hid (HPe.out.later HA.out.obj isObj_dr hb)
                  have HPf:=Lib.hid (HPf0.out.later HA.out.obj isObj_dr ((Below.refl w9.heap.size w9).alloc (Nat.le_refl _) (.cells #[.int .i64 ff.i, .int .i64 ff.n, .int .i64 ff.l, .string ff.d] 35)))
                  clear hb HPe HPf0
                  cases oo
                  · go_wp2_with fail
                    refine (HA.out.state HPf.out.a.inv HS2.out.ps.ok).mono ?_
                    rintro e w10 ⟨rfl,hb⟩
                    have HPg:=Lib.hid (HPf.out.later HA.out.obj isObj_dr hb)
                    clear hb HPf
                    go_wp2_with fail
                    go_roundw
                    case rel => exact ⟨k + 1,sN,_,O3,_,by omega,by go_num,HS2,HPg⟩
                    case measure => simp [intOf]; omega
                  · go_wp2_with fail
                    refine (HA.out.state HPf.out.a.inv HS2.out.ps.ok).mono ?_
                    rintro e w10 ⟨rfl,hb⟩
                    have HPg0:=Lib.hid (HPf.out.later HA.out.obj isObj_dr hb)
                    clear hb HPf
                    go_wp2_with fail
                    refine (HA.out.state HPg0.out.a.inv HS2.out.ps.ok).mono ?_
                    rintro e w11 ⟨rfl,hb⟩
                    have HPg:=Lib.hid (HPg0.out.later HA.out.obj isObj_dr hb)
                    clear hb HPg0
                    go_wp2_with fail
                    go_roundw
                    case rel => exact ⟨k + 1,sN,_,O3,_,by omega,by go_num,HS2,HPg⟩
                    case measure => simp [intOf]; omega
              · have g1:(sN.st == 1) = false:=by simp [hst]
                have gn:(sN.st != 1) = true:=by simp [hst]
                have HOF:Hid (sN.offer.2 = false):=Lib.hid (by unfold Dr.offer; rw [if_neg hst])
                go_wp2_with fail
                refine (HA.out.state HPd.out.a.inv HS2.out.ps.ok).mono ?_
                rintro e w7 ⟨rfl,hb⟩
                have HPe:=Lib.hid (HPd.out.later HA.out.obj isObj_dr hb)
                clear hb HPd
                go_wp2_with fail
                refine (HA.out.offer HPe.out.a.inv HS2.out.ps.ok (HA.out.tab HT.out HPe.out.a.below)).mono ?_
                rintro e w8 ⟨rfl,hb⟩
                rw [HOF.out]
                generalize sN.offer.1 = ff
                have HPf0:=Lib.hid (HPe.out.later HA.out.obj isObj_dr hb)
                have HPf:=Lib.hid (HPf0.out.later HA.out.obj isObj_dr ((Below.refl w8.heap.size w8).alloc (Nat.le_refl _) (.cells #[.int .i64 ff.i, .int .i64 ff.n, .int .i64 ff.l, .string ff.d] 35)))
                clear hb HPe HOF HPf0
                by_cases hs0:sN.st = 0
                · have g0:(sN.st == 0) = true:=by simp [hs0]
                  obtain ⟨hd1,hd2⟩:=HBU.out.down hs0
                  rw [HFR.out] at hd2
                  subst hd2
                  have HQN:=Lib.hid (Bq.all_nil hd1)
                  have hff:decide ((sN.ct.bx.S.length:Int) < (sN.ct.bx.S.length:Int)) = false:=decide_eq_false (by omega)
                  clear hst hs0 hd1 HFR
                  go_wp2_with fail
                  refine (HA.out.state HPf.out.a.inv HS2.out.ps.ok).mono ?_
                  rintro e w9 ⟨rfl,hb⟩
                  have HPg:=Lib.hid (HPf.out.later HA.out.obj isObj_dr hb)
                  clear hb HPf
                  go_wp2_with fail
                  refine (HA.out.queued HPg.out.a.inv HS2.out.ps.ok).mono ?_
                  rintro e w10 ⟨u,rfl,⟨hsl,hso⟩,hb⟩
                  obtain ⟨A8,c8,hu,hlm,_⟩:=hsl
                  rw [HQN.out,List.length_nil] at hu
                  subst hu
                  have HPh:=Lib.hid (HPg.out.later HA.out.obj isObj_dr hb)
                  clear hb hso hlm HPg
                  go_wp2_with fail
                  refine (HA.out.boxes HPh.out.a.inv HS2.out.ps.ok).mono ?_
                  rintro e w11 ⟨u,rfl,⟨hsl,hso⟩,hb⟩
                  obtain ⟨A9,c9,hu,hlm,_⟩:=hsl
                  subst hu
                  have HPi:=Lib.hid (HPh.out.later HA.out.obj isObj_dr hb)
                  clear hb hso hlm HPh
                  go_wp2_with fail
                  go_roundw
                  case rel => exact ⟨k + 1,sN,_,O3,_,by omega,by go_num,HS2,HPi⟩
                  case measure => simp [intOf]; omega
                · have g0:(sN.st == 0) = false:=by simp [hs0]
                  clear hst hs0
                  go_wp2_with fail
                  refine (HA.out.state HPf.out.a.inv HS2.out.ps.ok).mono ?_
                  rintro e w9 ⟨rfl,hb⟩
                  have HPg:=Lib.hid (HPf.out.later HA.out.obj isObj_dr hb)
                  clear hb HPf
                  go_wp2_with fail
                  go_roundw
                  case rel => exact ⟨k + 1,sN,_,O3,_,by omega,by go_num,HS2,HPg⟩
                  case measure => simp [intOf]; omega
      by_cases h4:o.k = 4
      · have HD:Hid (s.doOp o = (s.hear o.p.f).1):=Lib.hid (doOp4 h4)
        have f3:(o.k == 3) = false:=by simp [h3]
        have f4:(o.k == 4) = true:=by simp [h4]
        clear h3 h4
        go_wp2_with fail
        refine (HA.out.hear o.p.f HPb.out.a.inv HS.out.ps.ok HKB.out (HA.out.tab HT.out HPb.out.a.below) HFX.out.1 (HS.out.ps.acc HPb.out.a.below HPb.out.a.new)).mono ?_
        rintro e w5 ⟨rfl,O3,hi,hkk,hg⟩
        rw [← HD.out] at hi
        have HPc:=Lib.hid (HPb.out.stepA HA.out.obj isObj_dr hi hkk hg)
        have HBc:=Lib.hid (HBb.out.kept hkk (fun h => HNO.out (.inl h)))
        have HS2:=Lib.hid (HS.out.more o (.inl rfl))
        obtain ⟨sN,hsN⟩:∃ sN,s.doOp o = sN:=⟨_,rfl⟩
        have HUB:Hid ((s.hear o.p.f).2 = true → up = true):=Lib.hid (fun h => HUP.out (hear_up h))
        rw [hsN] at HS2 HPc
        clear hi hkk hg HD hsN HPb HBb a0 a1 a2 a3 a4 a5 a6 a7 a8 hup HUP
        generalize (s.hear o.p.f).2 = bo at HUB
        obtain ⟨a0, -, -, -, -, -, -, -, -⟩:=HBc.out.cells
        cases bo
        · clear HUB
          clear HNO hblk
          go_wp2_with fail
          refine (HA.out.boxes HPc.out.a.inv HS2.out.ps.ok).mono ?_
          rintro e w6 ⟨u,rfl,⟨hsl,hso⟩,hb⟩
          have HSL:=Lib.hid hsl.sl
          obtain ⟨A6,c6,hu,hlm,_⟩:=hsl
          subst hu
          have HPd:=Lib.hid (HPc.out.later HA.out.obj isObj_dr hb)
          have HSN:Hid (sN.ct.bx.S.length ≤ 1000):=Lib.hid HS2.out.ps.ok.ct.bx.n2
          have hsn:=HSN.out
          clear hb hso hlm HBc HPc
          go_wp2_with fail
          go_loop [11,73] (fun n i => ∃ j:Nat,j ≤ sN.ct.bx.S.length ∧ i = .int .i64 j ∧ n = .int .i64 (sN.ct.bx.free j:Nat)) (fun _ i => sN.ct.bx.S.length - (intOf i).toNat)
          case atStart => exact ⟨0,Nat.zero_le _,rfl,rfl⟩
          case round =>
            obtain ⟨j,hj,rfl,rfl⟩:=hrel
            have hfl:=sN.ct.bx.free_le j
            by_cases hjl:j < sN.ct.bx.S.length
            · have hjl2:(j:Int) < (sN.ct.bx.S.length:Int):=by omega
              obtain ⟨y,c7,hv7,hyb,hcell⟩:=HSL.out.at_ hjl
              injection hv7 with hAA _ hcap
              subst hAA hcap
              have b0:w6.cell? (y.add (j * 1)) = some (.int .i64 (sN.ct.bx.S[j]'hjl)):=hcell 0 _ rfl
              rw [Nat.mul_one] at b0
              have HFS:=Lib.hid (sN.ct.bx.free_succ hjl)
              generalize sN.ct.bx.S[j]'hjl = z at b0 HFS
              clear hcell hyb
              by_cases h0:z = 0
              · subst h0
                have hsc:Hid (sN.ct.bx.free (j + 1) = sN.ct.bx.free j + 1):=Lib.hid (by rw [HFS.out]; rfl)
                go_wp2
                go_round
                case rel => exact ⟨j + 1,by omega,by go_num,by rw [hsc.out]; go_num⟩
                case measure => simp [intOf]; omega
              · have hsc:Hid (sN.ct.bx.free (j + 1) = sN.ct.bx.free j):=Lib.hid (by rw [HFS.out,if_neg h0]; rfl)
                have e0:(z == 0) = false:=by simp [h0]
                clear h0
                go_wp2
                go_round
                case rel => exact ⟨j + 1,by omega,by go_num,by rw [hsc.out]⟩
                case measure => simp [intOf]; omega
            · obtain rfl:j = sN.ct.bx.S.length:=by omega
              have HBU:=Lib.hid HS2.out.busy
              clear hjl hj HSL
              obtain ⟨fr,hfr⟩:∃ fr,sN.ct.bx.free sN.ct.bx.S.length = fr:=⟨_,rfl⟩
              have HFR:=Lib.hid hfr
              rw [hfr] at hfl ⊢
              clear hfr
              by_cases hst:sN.st = 1
              · have g1:(sN.st == 1) = true:=by simp [hst]
                have g0:(sN.st == 0) = false:=by simp [hst]
                have gn:(sN.st != 1) = false:=by simp [hst]
                have hcase:=HBU.out.up hst
                rw [HFR.out] at hcase
                by_cases hf0:fr = 0
                · subst hf0
                  clear hcase hst
                  go_wp2_with fail
                  refine (HA.out.state HPd.out.a.inv HS2.out.ps.ok).mono ?_
                  rintro e w7 ⟨rfl,hb⟩
                  have HPe:=Lib.hid (HPd.out.later HA.out.obj isObj_dr hb)
                  clear hb HPd
                  go_wp2_with fail
                  refine (HA.out.offer HPe.out.a.inv HS2.out.ps.ok (HA.out.tab HT.out HPe.out.a.below)).mono ?_
                  rintro e w9 ⟨rfl,hb⟩
                  generalize sN.offer.1 = ff
                  generalize sN.offer.2 = oo
                  have HPf0:=Lib.hid (HPe.out.later HA.out.obj isObj_dr hb)
                  have HPf:=Lib.hid (HPf0.out.later HA.out.obj isObj_dr ((Below.refl w9.heap.size w9).alloc (Nat.le_refl _) (.cells #[.int .i64 ff.i, .int .i64 ff.n, .int .i64 ff.l, .string ff.d] 35)))
                  clear hb HPe HPf0
                  cases oo
                  · go_wp2_with fail
                    refine (HA.out.state HPf.out.a.inv HS2.out.ps.ok).mono ?_
                    rintro e w10 ⟨rfl,hb⟩
                    have HPg:=Lib.hid (HPf.out.later HA.out.obj isObj_dr hb)
                    clear hb HPf
                    go_wp2_with fail
                    go_roundw
                    case rel => exact ⟨k + 1,sN,_,O3,_,by omega,by go_num,HS2,HPg⟩
                    case measure => simp [intOf]; omega
                  · go_wp2_with fail
                    refine (HA.out.state HPf.out.a.inv HS2.out.ps.ok).mono ?_
                    rintro e w10 ⟨rfl,hb⟩
                    have HPg0:=Lib.hid (HPf.out.later HA.out.obj isObj_dr hb)
                    clear hb HPf
                    go_wp2_with fail
                    refine (HA.out.state HPg0.out.a.inv HS2.out.ps.ok).mono ?_
                    rintro e w11 ⟨rfl,hb⟩
                    have HPg:=Lib.hid (HPg0.out.later HA.out.obj isObj_dr hb)
                    clear hb HPg0
                    go_wp2_with fail
                    go_roundw
                    case rel => exact ⟨k + 1,sN,_,O3,_,by omega,by go_num,HS2,HPg⟩
                    case measure => simp [intOf]; omega
                · have hq:sN.q.L = []:=hcase.resolve_left hf0
                  have HQN:=Lib.hid (Bq.all_nil hq)
                  have hfp:(0:Int) < (fr:Int):=by omega
                  clear hcase hst hq hf0
                  go_wp2_with fail
                  refine (HA.out.state HPd.out.a.inv HS2.out.ps.ok).mono ?_
                  rintro e w7 ⟨rfl,hb⟩
                  have HPe0:=Lib.hid (HPd.out.later HA.out.obj isObj_dr hb)
                  clear hb HPd
                  go_wp2_with fail
                  refine (HA.out.queued HPe0.out.a.inv HS2.out.ps.ok).mono ?_
                  rintro e w8 ⟨u,rfl,⟨hsl,hso⟩,hb⟩
                  obtain ⟨A8,c8,hu,hlm,_⟩:=hsl
                  rw [HQN.out,List.length_nil] at hu
                  subst hu
                  have HPe:=Lib.hid (HPe0.out.later HA.out.obj isObj_dr hb)
                  clear hb hso hlm HPe0
                  go_wp2_with fail
                  refine (HA.out.offer HPe.out.a.inv HS2.out.ps.ok (HA.out.tab HT.out HPe.out.a.below)).mono ?_
                  rintro e w9 ⟨rfl,hb⟩
                  generalize sN.offer.1 = ff
                  generalize sN.offer.2 = oo
                  have HPf0:=Lib.hid (HPe.out.later HA.out.obj isObj_dr hb)
                  have HPf:=Lib.hid (HPf0.out.later HA.out.obj isObj_dr ((Below.refl w9.heap.size w9).alloc (Nat.le_refl _) (.cells #[.int .i64 ff.i, .int .i64 ff.n, .int .i64 ff.l, .string ff.d] 35)))
                  clear hb HPe HPf0
                  cases oo
                  · go_wp2_with fail
                    refine (HA.out.state HPf.out.a.inv HS2.out.ps.ok).mono ?_
                    rintro e w10 ⟨rfl,hb⟩
                    have HPg:=Lib.hid (HPf.out.later HA.out.obj isObj_dr hb)
                    clear hb HPf
                    go_wp2_with fail
                    go_roundw
                    case rel => exact ⟨k + 1,sN,_,O3,_,by omega,by go_num,HS2,HPg⟩
                    case measure => simp [intOf]; omega
                  · go_wp2_with fail
                    refine (HA.out.state HPf.out.a.inv HS2.out.ps.ok).mono ?_
                    rintro e w10 ⟨rfl,hb⟩
                    have HPg0:=Lib.hid (HPf.out.later HA.out.obj isObj_dr hb)
                    clear hb HPf
                    go_wp2_with fail
                    refine (HA.out.state HPg0.out.a.inv HS2.out.ps.ok).mono ?_
                    rintro e w11 ⟨rfl,hb⟩
                    have HPg:=Lib.hid (HPg0.out.later HA.out.obj isObj_dr hb)
                    clear hb HPg0
                    go_wp2_with fail
                    go_roundw
                    case rel => exact ⟨k + 1,sN,_,O3,_,by omega,by go_num,HS2,HPg⟩
                    case measure => simp [intOf]; omega
              · have g1:(sN.st == 1) = false:=by simp [hst]
                have gn:(sN.st != 1) = true:=by simp [hst]
                have HOF:Hid (sN.offer.2 = false):=Lib.hid (by unfold Dr.offer; rw [if_neg hst])
                go_wp2_with fail
                refine (HA.out.state HPd.out.a.inv HS2.out.ps.ok).mono ?_
                rintro e w7 ⟨rfl,hb⟩
                have HPe:=Lib.hid (HPd.out.later HA.out.obj isObj_dr hb)
                clear hb HPd
                go_wp2_with fail
                refine (HA.out.offer HPe.out.a.inv HS2.out.ps.ok (HA.out.tab HT.out HPe.out.a.below)).mono ?_
                rintro e w8 ⟨rfl,hb⟩
                rw [HOF.out]
                generalize sN.offer.1 = ff
                have HPf0:=Lib.hid (HPe.out.later HA.out.obj isObj_dr hb)
                have HPf:=Lib.hid (HPf0.out.later HA.out.obj isObj_dr ((Below.refl w8.heap.size w8).alloc (Nat.le_refl _) (.cells #[.int .i64 ff.i, .int .i64 ff.n, .int .i64 ff.l, .string ff.d] 35)))
                clear hb HPe HOF HPf0
                by_cases hs0:sN.st = 0
                · have g0:(sN.st == 0) = true:=by simp [hs0]
                  obtain ⟨hd1,hd2⟩:=HBU.out.down hs0
                  rw [HFR.out] at hd2
                  subst hd2
                  have HQN:=Lib.hid (Bq.all_nil hd1)
                  have hff:decide ((sN.ct.bx.S.length:Int) < (sN.ct.bx.S.length:Int)) = false:=decide_eq_false (by omega)
                  clear hst hs0 hd1 HFR
                  go_wp2_with fail
                  refine (HA.out.state HPf.out.a.inv HS2.out.ps.ok).mono ?_
                  rintro e w9 ⟨rfl,hb⟩
                  have HPg:=Lib.hid (HPf.out.later HA.out.obj isObj_dr hb)
                  clear hb HPf
                  go_wp2_with fail
                  refine (HA.out.queued HPg.out.a.inv HS2.out.ps.ok).mono ?_
                  rintro e w10 ⟨u,rfl,⟨hsl,hso⟩,hb⟩
                  obtain ⟨A8,c8,hu,hlm,_⟩:=hsl
                  rw [HQN.out,List.length_nil] at hu
                  subst hu
                  have HPh:=Lib.hid (HPg.out.later HA.out.obj isObj_dr hb)
                  clear hb hso hlm HPg
                  go_wp2_with fail
                  refine (HA.out.boxes HPh.out.a.inv HS2.out.ps.ok).mono ?_
                  rintro e w11 ⟨u,rfl,⟨hsl,hso⟩,hb⟩
                  obtain ⟨A9,c9,hu,hlm,_⟩:=hsl
                  subst hu
                  have HPi:=Lib.hid (HPh.out.later HA.out.obj isObj_dr hb)
                  clear hb hso hlm HPh
                  go_wp2_with fail
                  go_roundw
                  case rel => exact ⟨k + 1,sN,_,O3,_,by omega,by go_num,HS2,HPi⟩
                  case measure => simp [intOf]; omega
                · have g0:(sN.st == 0) = false:=by simp [hs0]
                  clear hst hs0
                  go_wp2_with fail
                  refine (HA.out.state HPf.out.a.inv HS2.out.ps.ok).mono ?_
                  rintro e w9 ⟨rfl,hb⟩
                  have HPg:=Lib.hid (HPf.out.later HA.out.obj isObj_dr hb)
                  clear hb HPf
                  go_wp2_with fail
                  go_roundw
                  case rel => exact ⟨k + 1,sN,_,O3,_,by omega,by go_num,HS2,HPg⟩
                  case measure => simp [intOf]; omega
        · obtain rfl:up = true:=HUB.out rfl
          clear HUB
          clear HNO hblk
          go_wp2_with fail
          refine (HA.out.boxes HPc.out.a.inv HS2.out.ps.ok).mono ?_
          rintro e w6 ⟨u,rfl,⟨hsl,hso⟩,hb⟩
          have HSL:=Lib.hid hsl.sl
          obtain ⟨A6,c6,hu,hlm,_⟩:=hsl
          subst hu
          have HPd:=Lib.hid (HPc.out.later HA.out.obj isObj_dr hb)
          have HSN:Hid (sN.ct.bx.S.length ≤ 1000):=Lib.hid HS2.out.ps.ok.ct.bx.n2
          have hsn:=HSN.out
          clear hb hso hlm HBc HPc
          go_wp2_with fail
          go_loop [11,73] (fun n i => ∃ j:Nat,j ≤ sN.ct.bx.S.length ∧ i = .int .i64 j ∧ n = .int .i64 (sN.ct.bx.free j:Nat)) (fun _ i => sN.ct.bx.S.length - (intOf i).toNat)
          case atStart => exact ⟨0,Nat.zero_le _,rfl,rfl⟩
          case round =>
            obtain ⟨j,hj,rfl,rfl⟩:=hrel
            have hfl:=sN.ct.bx.free_le j
            by_cases hjl:j < sN.ct.bx.S.length
            · have hjl2:(j:Int) < (sN.ct.bx.S.length:Int):=by omega
              obtain ⟨y,c7,hv7,hyb,hcell⟩:=HSL.out.at_ hjl
              injection hv7 with hAA _ hcap
              subst hAA hcap
              have b0:w6.cell? (y.add (j * 1)) = some (.int .i64 (sN.ct.bx.S[j]'hjl)):=hcell 0 _ rfl
              rw [Nat.mul_one] at b0
              have HFS:=Lib.hid (sN.ct.bx.free_succ hjl)
              generalize sN.ct.bx.S[j]'hjl = z at b0 HFS
              clear hcell hyb
              by_cases h0:z = 0
              · subst h0
                have hsc:Hid (sN.ct.bx.free (j + 1) = sN.ct.bx.free j + 1):=Lib.hid (by rw [HFS.out]; rfl)
                go_wp2
                go_round
                case rel => exact ⟨j + 1,by omega,by go_num,by rw [hsc.out]; go_num⟩
                case measure => simp [intOf]; omega
              · have hsc:Hid (sN.ct.bx.free (j + 1) = sN.ct.bx.free j):=Lib.hid (by rw [HFS.out,if_neg h0]; rfl)
                have e0:(z == 0) = false:=by simp [h0]
                clear h0
                go_wp2
                go_round
                case rel => exact ⟨j + 1,by omega,by go_num,by rw [hsc.out]⟩
                case measure => simp [intOf]; omega
            · obtain rfl:j = sN.ct.bx.S.length:=by omega
              have HBU:=Lib.hid HS2.out.busy
              clear hjl hj HSL
              obtain ⟨fr,hfr⟩:∃ fr,sN.ct.bx.free sN.ct.bx.S.length = fr:=⟨_,rfl⟩
              have HFR:=Lib.hid hfr
              rw [hfr] at hfl ⊢
              clear hfr
              by_cases hst:sN.st = 1
              · have g1:(sN.st == 1) = true:=by simp [hst]
                have g0:(sN.st == 0) = false:=by simp [hst]
                have gn:(sN.st != 1) = false:=by simp [hst]
                have hcase:=HBU.out.up hst
                rw [HFR.out] at hcase
                by_cases hf0:fr = 0
                · subst hf0
                  clear hcase hst
                  go_wp2_with fail
                  refine (HA.out.state HPd.out.a.inv HS2.out.ps.ok).mono ?_
                  rintro e w7 ⟨rfl,hb⟩
                  have HPe:=Lib.hid (HPd.out.later HA.out.obj isObj_dr hb)
                  clear hb HPd
                  go_wp2_with fail
                  refine (HA.out.offer HPe.out.a.inv HS2.out.ps.ok (HA.out.tab HT.out HPe.out.a.below)).mono ?_
                  rintro e w9 ⟨rfl,hb⟩
                  generalize sN.offer.1 = ff
                  generalize sN.offer.2 = oo
                  have HPf0:=Lib.hid (HPe.out.later HA.out.obj isObj_dr hb)
                  have HPf:=Lib.hid (HPf0.out.later HA.out.obj isObj_dr ((Below.refl w9.heap.size w9).alloc (Nat.le_refl _) (.cells #[.int .i64 ff.i, .int .i64 ff.n, .int .i64 ff.l, .string ff.d] 35)))
                  clear hb HPe HPf0
                  cases oo
                  · go_wp2_with fail
                    refine (HA.out.state HPf.out.a.inv HS2.out.ps.ok).mono ?_
                    rintro e w10 ⟨rfl,hb⟩
                    have HPg:=Lib.hid (HPf.out.later HA.out.obj isObj_dr hb)
                    clear hb HPf
                    go_wp2_with fail
                    go_roundw
                    case rel => exact ⟨k + 1,sN,_,O3,_,by omega,by go_num,HS2,HPg⟩
                    case measure => simp [intOf]; omega
                  · go_wp2_with fail
                    refine (HA.out.state HPf.out.a.inv HS2.out.ps.ok).mono ?_
                    rintro e w10 ⟨rfl,hb⟩
                    have HPg0:=Lib.hid (HPf.out.later HA.out.obj isObj_dr hb)
                    clear hb HPf
                    go_wp2_with fail
                    refine (HA.out.state HPg0.out.a.inv HS2.out.ps.ok).mono ?_
                    rintro e w11 ⟨rfl,hb⟩
                    have HPg:=Lib.hid (HPg0.out.later HA.out.obj isObj_dr hb)
                    clear hb HPg0
                    go_wp2_with fail
                    go_roundw
                    case rel => exact ⟨k + 1,sN,_,O3,_,by omega,by go_num,HS2,HPg⟩
                    case measure => simp [intOf]; omega
                · have hq:sN.q.L = []:=hcase.resolve_left hf0
                  have HQN:=Lib.hid (Bq.all_nil hq)
                  have hfp:(0:Int) < (fr:Int):=by omega
                  clear hcase hst hq hf0
                  go_wp2_with fail
                  refine (HA.out.state HPd.out.a.inv HS2.out.ps.ok).mono ?_
                  rintro e w7 ⟨rfl,hb⟩
                  have HPe0:=Lib.hid (HPd.out.later HA.out.obj isObj_dr hb)
                  clear hb HPd
                  go_wp2_with fail
                  refine (HA.out.queued HPe0.out.a.inv HS2.out.ps.ok).mono ?_
                  rintro e w8 ⟨u,rfl,⟨hsl,hso⟩,hb⟩
                  obtain ⟨A8,c8,hu,hlm,_⟩:=hsl
                  rw [HQN.out,List.length_nil] at hu
                  subst hu
                  have HPe:=Lib.hid (HPe0.out.later HA.out.obj isObj_dr hb)
                  clear hb hso hlm HPe0
                  go_wp2_with fail
                  refine (HA.out.offer HPe.out.a.inv HS2.out.ps.ok (HA.out.tab HT.out HPe.out.a.below)).mono ?_
                  rintro e w9 ⟨rfl,hb⟩
                  generalize sN.offer.1 = ff
                  generalize sN.offer.2 = oo
                  have HPf0:=Lib.hid (HPe.out.later HA.out.obj isObj_dr hb)
                  have HPf:=Lib.hid (HPf0.out.later HA.out.obj isObj_dr ((Below.refl w9.heap.size w9).alloc (Nat.le_refl _) (.cells #[.int .i64 ff.i, .int .i64 ff.n, .int .i64 ff.l, .string ff.d] 35)))
                  clear hb HPe HPf0
                  cases oo
                  · go_wp2_with fail
                    refine (HA.out.state HPf.out.a.inv HS2.out.ps.ok).mono ?_
                    rintro e w10 ⟨rfl,hb⟩
                    have HPg:=Lib.hid (HPf.out.later HA.out.obj isObj_dr hb)
                    clear hb HPf
                    go_wp2_with fail
                    go_roundw
                    case rel => exact ⟨k + 1,sN,_,O3,_,by omega,by go_num,HS2,HPg⟩
                    case measure => simp [intOf]; omega
                  · go_wp2_with fail
                    refine (HA.out.state HPf.out.a.inv HS2.out.ps.ok).mono ?_
                    rintro e w10 ⟨rfl,hb⟩
                    have HPg0:=Lib.hid (HPf.out.later HA.out.obj isObj_dr hb)
                    clear hb HPf
                    go_wp2_with fail
                    refine (HA.out.state HPg0.out.a.inv HS2.out.ps.ok).mono ?_
                    rintro e w11 ⟨rfl,hb⟩
                    have HPg:=Lib.hid (HPg0.out.later HA.out.obj isObj_dr hb)
                    clear hb HPg0
                    go_wp2_with fail
                    go_roundw
                    case rel => exact ⟨k + 1,sN,_,O3,_,by omega,by go_num,HS2,HPg⟩
                    case measure => simp [intOf]; omega
              · have g1:(sN.st == 1) = false:=by simp [hst]
                have gn:(sN.st != 1) = true:=by simp [hst]
                have HOF:Hid (sN.offer.2 = false):=Lib.hid (by unfold Dr.offer; rw [if_neg hst])
                go_wp2_with fail
                refine (HA.out.state HPd.out.a.inv HS2.out.ps.ok).mono ?_
                rintro e w7 ⟨rfl,hb⟩
                have HPe:=Lib.hid (HPd.out.later HA.out.obj isObj_dr hb)
                clear hb HPd
                go_wp2_with fail
                refine (HA.out.offer HPe.out.a.inv HS2.out.ps.ok (HA.out.tab HT.out HPe.out.a.below)).mono ?_
                rintro e w8 ⟨rfl,hb⟩
                rw [HOF.out]
                generalize sN.offer.1 = ff
                have HPf0:=Lib.hid (HPe.out.later HA.out.obj isObj_dr hb)
                have HPf:=Lib.hid (HPf0.out.later HA.out.obj isObj_dr ((Below.refl w8.heap.size w8).alloc (Nat.le_refl _) (.cells #[.int .i64 ff.i, .int .i64 ff.n, .int .i64 ff.l, .string ff.d] 35)))
                clear hb HPe HOF HPf0
                by_cases hs0:sN.st = 0
                · have g0:(sN.st == 0) = true:=by simp [hs0]
                  obtain ⟨hd1,hd2⟩:=HBU.out.down hs0
                  rw [HFR.out] at hd2
                  subst hd2
                  have HQN:=Lib.hid (Bq.all_nil hd1)
                  have hff:decide ((sN.ct.bx.S.length:Int) < (sN.ct.bx.S.length:Int)) = false:=decide_eq_false (by omega)
                  clear hst hs0 hd1 HFR
                  go_wp2_with fail
                  refine (HA.out.state HPf.out.a.inv HS2.out.ps.ok).mono ?_
                  rintro e w9 ⟨rfl,hb⟩
                  have HPg:=Lib.hid (HPf.out.later HA.out.obj isObj_dr hb)
                  clear hb HPf
                  go_wp2_with fail
                  refine (HA.out.queued HPg.out.a.inv HS2.out.ps.ok).mono ?_
                  rintro e w10 ⟨u,rfl,⟨hsl,hso⟩,hb⟩
                  obtain ⟨A8,c8,hu,hlm,_⟩:=hsl
                  rw [HQN.out,List.length_nil] at hu
                  subst hu
                  have HPh:=Lib.hid (HPg.out.later HA.out.obj isObj_dr hb)
                  clear hb hso hlm HPg
                  go_wp2_with fail
                  refine (HA.out.boxes HPh.out.a.inv HS2.out.ps.ok).mono ?_
                  rintro e w11 ⟨u,rfl,⟨hsl,hso⟩,hb⟩
                  obtain ⟨A9,c9,hu,hlm,_⟩:=hsl
                  subst hu
                  have HPi:=Lib.hid (HPh.out.later HA.out.obj isObj_dr hb)
                  clear hb hso hlm HPh
                  go_wp2_with fail
                  go_roundw
                  case rel => exact ⟨k + 1,sN,_,O3,_,by omega,by go_num,HS2,HPi⟩
                  case measure => simp [intOf]; omega
                · have g0:(sN.st == 0) = false:=by simp [hs0]
                  clear hst hs0
                  go_wp2_with fail
                  refine (HA.out.state HPf.out.a.inv HS2.out.ps.ok).mono ?_
                  rintro e w9 ⟨rfl,hb⟩
                  have HPg:=Lib.hid (HPf.out.later HA.out.obj isObj_dr hb)
                  clear hb HPf
                  go_wp2_with fail
                  go_roundw
                  case rel => exact ⟨k + 1,sN,_,O3,_,by omega,by go_num,HS2,HPg⟩
                  case measure => simp [intOf]; omega
      have f3:(o.k == 3) = false:=by simp [h3]
      have f4:(o.k == 4) = false:=by simp [h4]
      clear h3 h4
      go_wp2_with fail
      refine (ddo_any (o:=o) HA.out HPb.out HS.out.ps HS.out.pt HKB.out HT.out HFX.out.1 HFX.out.2).mono ?_
      rintro e w5 ⟨bo,O3,O4,rfl, -,hp,hk5,_,_⟩
      have HPc:=Lib.hid hp
      have HBc:=Lib.hid (HBb.out.kept hk5 HNO.out)
      have HS2:=Lib.hid (HS.out.more o (.inr rfl))
      obtain ⟨sN,hsN⟩:∃ sN,s.doOp o = sN:=⟨_,rfl⟩
      rw [hsN] at HS2 HPc
      clear hp hk5 HPb HBb a0 a1 a2 a3 a4 a5 a6 a7 a8 hup HUP hsN
      clear HNO hblk
      go_wp2_with fail
      refine (HA.out.boxes HPc.out.a.inv HS2.out.ps.ok).mono ?_
      rintro e w6 ⟨u,rfl,⟨hsl,hso⟩,hb⟩
      have HSL:=Lib.hid hsl.sl
      obtain ⟨A6,c6,hu,hlm,_⟩:=hsl
      subst hu
      have HPd:=Lib.hid (HPc.out.later HA.out.obj isObj_dr hb)
      have HSN:Hid (sN.ct.bx.S.length ≤ 1000):=Lib.hid HS2.out.ps.ok.ct.bx.n2
      have hsn:=HSN.out
      clear hb hso hlm HBc HPc
      go_wp2_with fail
      go_loop [11,73] (fun n i => ∃ j:Nat,j ≤ sN.ct.bx.S.length ∧ i = .int .i64 j ∧ n = .int .i64 (sN.ct.bx.free j:Nat)) (fun _ i => sN.ct.bx.S.length - (intOf i).toNat)
      case atStart => exact ⟨0,Nat.zero_le _,rfl,rfl⟩
      case round =>
        obtain ⟨j,hj,rfl,rfl⟩:=hrel
        have hfl:=sN.ct.bx.free_le j
        by_cases hjl:j < sN.ct.bx.S.length
        · have hjl2:(j:Int) < (sN.ct.bx.S.length:Int):=by omega
          obtain ⟨y,c7,hv7,hyb,hcell⟩:=HSL.out.at_ hjl
          injection hv7 with hAA _ hcap
          subst hAA hcap
          have b0:w6.cell? (y.add (j * 1)) = some (.int .i64 (sN.ct.bx.S[j]'hjl)):=hcell 0 _ rfl
          rw [Nat.mul_one] at b0
          have HFS:=Lib.hid (sN.ct.bx.free_succ hjl)
          generalize sN.ct.bx.S[j]'hjl = z at b0 HFS
          clear hcell hyb
          by_cases h0:z = 0
          · subst h0
            have hsc:Hid (sN.ct.bx.free (j + 1) = sN.ct.bx.free j + 1):=Lib.hid (by rw [HFS.out]; rfl)
            go_wp2
            go_round
            case rel => exact ⟨j + 1,by omega,by go_num,by rw [hsc.out]; go_num⟩
            case measure => simp [intOf]; omega
          · have hsc:Hid (sN.ct.bx.free (j + 1) = sN.ct.bx.free j):=Lib.hid (by rw [HFS.out,if_neg h0]; rfl)
            have e0:(z == 0) = false:=by simp [h0]
            clear h0
            go_wp2
            go_round
            case rel => exact ⟨j + 1,by omega,by go_num,by rw [hsc.out]⟩
            case measure => simp [intOf]; omega
        · obtain rfl:j = sN.ct.bx.S.length:=by omega
          have HBU:=Lib.hid HS2.out.busy
          clear hjl hj HSL
          obtain ⟨fr,hfr⟩:∃ fr,sN.ct.bx.free sN.ct.bx.S.length = fr:=⟨_,rfl⟩
          have HFR:=Lib.hid hfr
          rw [hfr] at hfl ⊢
          clear hfr
          by_cases hst:sN.st = 1
          · have g1:(sN.st == 1) = true:=by simp [hst]
            have g0:(sN.st == 0) = false:=by simp [hst]
            have gn:(sN.st != 1) = false:=by simp [hst]
            have hcase:=HBU.out.up hst
            rw [HFR.out] at hcase
            by_cases hf0:fr = 0
            · subst hf0
              clear hcase hst
              go_wp2_with fail
              refine (HA.out.state HPd.out.a.inv HS2.out.ps.ok).mono ?_
              rintro e w7 ⟨rfl,hb⟩
              have HPe:=Lib.hid (HPd.out.later HA.out.obj isObj_dr hb)
              clear hb HPd
              go_wp2_with fail
              refine (HA.out.offer HPe.out.a.inv HS2.out.ps.ok (HA.out.tab HT.out HPe.out.a.below)).mono ?_
              rintro e w9 ⟨rfl,hb⟩
              generalize sN.offer.1 = ff
              generalize sN.offer.2 = oo
              have HPf0:=Lib.hid (HPe.out.later HA.out.obj isObj_dr hb)
              have HPf:=Lib.hid (HPf0.out.later HA.out.obj isObj_dr ((Below.refl w9.heap.size w9).alloc (Nat.le_refl _) (.cells #[.int .i64 ff.i, .int .i64 ff.n, .int .i64 ff.l, .string ff.d] 35)))
              clear hb HPe HPf0
              cases oo
              · go_wp2_with fail
                refine (HA.out.state HPf.out.a.inv HS2.out.ps.ok).mono ?_
                rintro e w10 ⟨rfl,hb⟩
                have HPg:=Lib.hid (HPf.out.later HA.out.obj isObj_dr hb)
                clear hb HPf
                go_wp2_with fail
                go_roundw
                case rel => exact ⟨k + 1,sN,_,O3,_,by omega,by go_num,HS2,HPg⟩
                case measure => simp [intOf]; omega
              · go_wp2_with fail
                refine (HA.out.state HPf.out.a.inv HS2.out.ps.ok).mono ?_
                rintro e w10 ⟨rfl,hb⟩
                have HPg0:=Lib.hid (HPf.out.later HA.out.obj isObj_dr hb)
                clear hb HPf
                go_wp2_with fail
                refine (HA.out.state HPg0.out.a.inv HS2.out.ps.ok).mono ?_
                rintro e w11 ⟨rfl,hb⟩
                have HPg:=Lib.hid (HPg0.out.later HA.out.obj isObj_dr hb)
                clear hb HPg0
                go_wp2_with fail
                go_roundw
                case rel => exact ⟨k + 1,sN,_,O3,_,by omega,by go_num,HS2,HPg⟩
                case measure => simp [intOf]; omega
            · have hq:sN.q.L = []:=hcase.resolve_left hf0
              have HQN:=Lib.hid (Bq.all_nil hq)
              have hfp:(0:Int) < (fr:Int):=by omega
              clear hcase hst hq hf0
              go_wp2_with fail
              refine (HA.out.state HPd.out.a.inv HS2.out.ps.ok).mono ?_
              rintro e w7 ⟨rfl,hb⟩
              have HPe0:=Lib.hid (HPd.out.later HA.out.obj isObj_dr hb)
              clear hb HPd
              go_wp2_with fail
              refine (HA.out.queued HPe0.out.a.inv HS2.out.ps.ok).mono ?_
              rintro e w8 ⟨u,rfl,⟨hsl,hso⟩,hb⟩
              obtain ⟨A8,c8,hu,hlm,_⟩:=hsl
              rw [HQN.out,List.length_nil] at hu
              subst hu
              have HPe:=Lib.hid (HPe0.out.later HA.out.obj isObj_dr hb)
              clear hb hso hlm HPe0
              go_wp2_with fail
              refine (HA.out.offer HPe.out.a.inv HS2.out.ps.ok (HA.out.tab HT.out HPe.out.a.below)).mono ?_
              rintro e w9 ⟨rfl,hb⟩
              generalize sN.offer.1 = ff
              generalize sN.offer.2 = oo
              have HPf0:=Lib.hid (HPe.out.later HA.out.obj isObj_dr hb)
              have HPf:=Lib.hid (HPf0.out.later HA.out.obj isObj_dr ((Below.refl w9.heap.size w9).alloc (Nat.le_refl _) (.cells #[.int .i64 ff.i, .int .i64 ff.n, .int .i64 ff.l, .string ff.d] 35)))
              clear hb HPe HPf0
              cases oo
              · go_wp2_with fail
                refine (HA.out.state HPf.out.a.inv HS2.out.ps.ok).mono ?_
                rintro e w10 ⟨rfl,hb⟩
                have HPg:=Lib.hid (HPf.out.later HA.out.obj isObj_dr hb)
                clear hb HPf
                go_wp2_with fail
                go_roundw
                case rel => exact ⟨k + 1,sN,_,O3,_,by omega,by go_num,HS2,HPg⟩
                case measure => simp [intOf]; omega
              · go_wp2_with fail
                refine (HA.out.state HPf.out.a.inv HS2.out.ps.ok).mono ?_
                rintro e w10 ⟨rfl,hb⟩
                have HPg0:=Lib.hid (HPf.out.later HA.out.obj isObj_dr hb)
                clear hb HPf
                go_wp2_with fail
                refine (HA.out.state HPg0.out.a.inv HS2.out.ps.ok).mono ?_
                rintro e w11 ⟨rfl,hb⟩
                have HPg:=Lib.hid (HPg0.out.later HA.out.obj isObj_dr hb)
                clear hb HPg0
                go_wp2_with fail
                go_roundw
                case rel => exact ⟨k + 1,sN,_,O3,_,by omega,by go_num,HS2,HPg⟩
                case measure => simp [intOf]; omega
          · have g1:(sN.st == 1) = false:=by simp [hst]
            have gn:(sN.st != 1) = true:=by simp [hst]
            have HOF:Hid (sN.offer.2 = false):=Lib.hid (by unfold Dr.offer; rw [if_neg hst])
            go_wp2_with fail
            refine (HA.out.state HPd.out.a.inv HS2.out.ps.ok).mono ?_
            rintro e w7 ⟨rfl,hb⟩
            have HPe:=Lib.hid (HPd.out.later HA.out.obj isObj_dr hb)
            clear hb HPd
            go_wp2_with fail
            refine (HA.out.offer HPe.out.a.inv HS2.out.ps.ok (HA.out.tab HT.out HPe.out.a.below)).mono ?_
            rintro e w8 ⟨rfl,hb⟩
            rw [HOF.out]
            generalize sN.offer.1 = ff
            have HPf0:=Lib.hid (HPe.out.later HA.out.obj isObj_dr hb)
            have HPf:=Lib.hid (HPf0.out.later HA.out.obj isObj_dr ((Below.refl w8.heap.size w8).alloc (Nat.le_refl _) (.cells #[.int .i64 ff.i, .int .i64 ff.n, .int .i64 ff.l, .string ff.d] 35)))
            clear hb HPe HOF HPf0
            by_cases hs0:sN.st = 0
            · have g0:(sN.st == 0) = true:=by simp [hs0]
              obtain ⟨hd1,hd2⟩:=HBU.out.down hs0
              rw [HFR.out] at hd2
              subst hd2
              have HQN:=Lib.hid (Bq.all_nil hd1)
              have hff:decide ((sN.ct.bx.S.length:Int) < (sN.ct.bx.S.length:Int)) = false:=decide_eq_false (by omega)
              clear hst hs0 hd1 HFR
              go_wp2_with fail
              refine (HA.out.state HPf.out.a.inv HS2.out.ps.ok).mono ?_
              rintro e w9 ⟨rfl,hb⟩
              have HPg:=Lib.hid (HPf.out.later HA.out.obj isObj_dr hb)
              clear hb HPf
              go_wp2_with fail
              refine (HA.out.queued HPg.out.a.inv HS2.out.ps.ok).mono ?_
              rintro e w10 ⟨u,rfl,⟨hsl,hso⟩,hb⟩
              obtain ⟨A8,c8,hu,hlm,_⟩:=hsl
              rw [HQN.out,List.length_nil] at hu
              subst hu
              have HPh:=Lib.hid (HPg.out.later HA.out.obj isObj_dr hb)
              clear hb hso hlm HPg
              go_wp2_with fail
              refine (HA.out.boxes HPh.out.a.inv HS2.out.ps.ok).mono ?_
              rintro e w11 ⟨u,rfl,⟨hsl,hso⟩,hb⟩
              obtain ⟨A9,c9,hu,hlm,_⟩:=hsl
              subst hu
              have HPi:=Lib.hid (HPh.out.later HA.out.obj isObj_dr hb)
              clear hb hso hlm HPh
              go_wp2_with fail
              go_roundw
              case rel => exact ⟨k + 1,sN,_,O3,_,by omega,by go_num,HS2,HPi⟩
              case measure => simp [intOf]; omega
            · have g0:(sN.st == 0) = false:=by simp [hs0]
              clear hst hs0
              go_wp2_with fail
              refine (HA.out.state HPf.out.a.inv HS2.out.ps.ok).mono ?_
              rintro e w9 ⟨rfl,hb⟩
              have HPg:=Lib.hid (HPf.out.later HA.out.obj isObj_dr hb)
              clear hb HPf
              go_wp2_with fail
              go_roundw
              case rel => exact ⟨k + 1,sN,_,O3,_,by omega,by go_num,HS2,HPg⟩
              case measure => simp [intOf]; omega
    · obtain rfl:k = L.length:=by omega
      go_wp2_with fail
      refine (drvalive HA.out _ (HA.out.tab HT.out HP.out.a.below)).mono ?_
      rintro e w7 ⟨rfl,hb⟩
      have HB7:=Lib.hid (fbelow_t HP.out.a.below hb)
      clear hb
      go_wp2
      go_ret
      exact ⟨rfl,HB7.out⟩
end Go.Proofs.YtimdkcchjanpaaaGreatDoor
