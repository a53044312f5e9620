/- Drv, the code: Offer, Won, Hear, Off, Fix. Of no program: a scope in which the run jumps back to one label, the code behind it walked once. (Parted from XWir .. -/
import Derived.Test.YtimdkcchjanpaaaGreatDoorZba
import Derived.Test.YtimdkcchjanpaaaGreatDoorZad
import Derived.WalkMore
import Derived.ScopeJumps
import Derived.Test.YtimdkcchjanpaaaGreatDoorZav
set_option maxHeartbeats 8000000
namespace Go.Proofs.YtimdkcchjanpaaaGreatDoor
open Go.RowKit
set_option linter.unusedVariables false
section
variable {s:Dr} {cg:Cg} {L:List Flt} {q:Bq} {c:Ct} {e:Ec} {B:Int}
theorem DkS.offEq (h:DkS s cg L q c e):c.off = s.ct.off:=by unfold Ct.off; rw [h.cx]
theorem DkS.won (h:DkS s cg L q c e) (h1:s.st ≠ 0):DkS { s with ct:=s.ct.won } cg L q c.won e:=by
  unfold Ct.won
  rw [h.cx]
  split
  · exact h
  · exact { h with cx:=rfl,ak:=setB_rng h.ak (.inl rfl),te:=(by have:=h.te.end_ (c.bx.best c.bx.ord.length) (st:=2) (by decide); rwa [h.cx] at this),nb:=(by rw [Bx.end_len,← h.cx]; exact h.nb),dn:=fun h0 => absurd h0 h1 }
theorem DkS.hear (h:DkS s cg L q c e) (h1:s.st ≠ 0) (f:Fr):DkS { s with ct:=(s.ct.hear f).1 } cg L q (c.hear f).1 e ∧ (c.hear f).2 = (s.ct.hear f).2:=by
  unfold Ct.hear
  rw [h.ca,h.cf,h.cr]
  split
  · exact ⟨h,rfl⟩
  · split
    · exact ⟨{ h with cf:=rfl,cr:=rfl,ca:=rfl,nf:=h.cr ▸ h.nf,ls:=fun h0 => (by show c.lost + 1 = s.ct.lost + 1; rw [h.ls h1]),ak:=setB_rng h.ak (.inr (.inr (.inl rfl))),l0:=(by have:=h.l0; show 0 ≤ c.lost + 1; omega) },rfl⟩
    · exact ⟨{ h with cf:=rfl,cr:=rfl,ca:=rfl,nf:=h.cr ▸ h.nf,ak:=setB_rng h.ak (.inr (.inl rfl)) },rfl⟩
theorem DkS.off (h:DkS s cg L q c e) (h1:s.st ≠ 0):DkS { s with st:=2,q := { s.q with st:=true },ct := { s.ct with asks:=setB s.ct.asks 8 } } cg L { q with st:=true } { c with asks:=setB c.asks 8 } e :=
  { h with ls:=fun _ => h.ls h1,ak:=setB_rng h.ak (.inr (.inr (.inr rfl))),dn:=fun h0 => by cases h0 }
theorem DkS.abort (h:DkS s cg L q c e) (h1:s.st ≠ 0) (sx':Sx):DkS { s with st:=3,ct:=s.ct.abort.1,sx:=sx' } cg L q c.abort.1 e:=by
  have ht:=h.te.abs s.ct.bx.S.length
  rw [h.cx] at ht
  have hl:(s.ct.bx.abs s.ct.bx.S.length).1.S.length = boxesN s.c.bo:=by rw [Bx.abs_len,← h.cx]; exact h.nb
  unfold Ct.abort
  rw [h.cx]
  split
  · exact { h with cx:=rfl,ls:=fun _ => h.ls h1,ak:=setB_rng h.ak (.inl rfl),te:=ht,nb:=hl,dn:=fun h0 => by cases h0 }
  · exact { h with cx:=rfl,ls:=fun _ => h.ls h1,te:=ht,nb:=hl,dn:=fun h0 => by cases h0 }
theorem DkS.clr (h:DkS s cg L q c e) (n:Int):DkS { s with ct := { s.ct with asks:=clrK s.ct.asks n 4 } } cg L q { c with asks:=clrK c.asks n 4 } e :=
  { h with ak:=clrK_rng h.ak 4 (Nat.le_refl _) }
end
theorem dkoffer_v {w:World} {v:Value} {s:Dr} {O:Nat → Prop} {B:Int} (h:DkD w v s O) (ok:s.Ok B):Calls Tryz.prog 19 #[v] w fun e w' => e = .returned (.tuple #[fmV s.offer.1, .bool s.offer.2]) ∧ Below w.heap.size w w':=by
  obtain ⟨b,cg,L,q,c,e,R,rfl,rfl,hd,hs,hO⟩:=h
  have hb0:=(Below.refl w.heap.size w).alloc (Nat.le_refl _) zfO
  have hf0:=BoxF.made w 0 0 0 (ByteArray.mk #[])
  obtain ⟨w0,e0⟩:∃ w0,w.alloc zfO = w0:=⟨_,rfl⟩
  rw [e0] at hb0 hf0
  have HF0:=Lib.hid hf0
  have HB0:=Lib.hid hb0
  have HW0:=Lib.hid (hd.start.later hb0)
  have c0:=HW0.out.cell0
  obtain ⟨X,Y,Oc,hc,_⟩:=HW0.out.atC
  have HC:=Lib.hid (kkoffer_v hc (hs.cOk ok))
  rw [hs.offEq] at HC
  by_cases h1:s.st = 1
  · have HE:Hid (s.offer = s.ct.off):=Lib.hid (by unfold Dr.offer; rw [if_pos h1])
    rw [HE.out]
    generalize s.ct.off = r at HC
    obtain ⟨r1,r2⟩:=r
    have hup:(s.st == 1) = true:=by simp [h1]
    have HU:=Lib.hid (dkisup_v c0 hup)
    clear hd hs hO hc hb0 hf0 c0 ok h1 hup
    go_enter Tryz.func19,Tryz.ntmps19
    go_wp2_with fail
    refine HU.out.mono ?_
    rintro e w1 ⟨rfl,rfl⟩
    go_wp2_with fail
    refine HC.out.mono ?_
    rintro e w2 ⟨rfl,hb⟩
    have HF2:=Lib.hid (HF0.out.later hb)
    have HB2:=Lib.hid (fbelow_t HB0.out hb)
    have hz:=HF2.out.lt
    obtain ⟨d0,d1,d2,d3⟩:=HF2.out.cells
    have ff:∀ j,w2.frozen? ⟨w.heap.size,j,none⟩ = false:=fun j => Lib.frozen_of_heap HF2.out j
    have HP:=Lib.hid (boxF_set (i':=r1.i) (n':=r1.n) (l':=r1.l) (d':=r1.d) HF2.out)
    clear hb
    go_wp2_with fail
    obtain ⟨g0,g1,g2,g3⟩:=HP.out.cells
    refine bodyPost_ret (v := .tuple #[fmV r1, .bool r2]) ?_ rfl ⟨rfl,boxF_below HB2.out (Nat.le_refl _)⟩
    simp [results,Tryz.results19,go_sem,g0,g1,g2,g3]
  · have HE:Hid (s.offer = (frz,false)):=Lib.hid (by unfold Dr.offer; rw [if_neg h1])
    rw [HE.out]
    have hup:(s.st == 1) = false:=by simp [h1]
    have HU:=Lib.hid (dkisup_v c0 hup)
    obtain ⟨d0,d1,d2,d3⟩:=HF0.out.cells
    have ff:∀ j,w0.frozen? ⟨w.heap.size,j,none⟩ = false:=fun j => Lib.frozen_of_heap HF0.out j
    have HP:=Lib.hid (boxF_set (i':=0) (n':=0) (l':=0) (d':=ByteArray.mk #[]) HF0.out)
    have hz:=HF0.out.lt
    clear hd hs hO hc hb0 hf0 c0 ok h1 hup HC
    go_enter Tryz.func19,Tryz.ntmps19
    go_wp2_with fail
    refine HU.out.mono ?_
    rintro e w1 ⟨rfl,rfl⟩
    go_wp2_with fail
    obtain ⟨g0,g1,g2,g3⟩:=HP.out.cells
    refine bodyPost_ret (v := .tuple #[fmV frz, .bool false]) ?_ rfl ⟨rfl,boxF_below HB0.out (Nat.le_refl _)⟩
    simp [results,Tryz.results19,go_sem,g0,g1,g2,g3]
    exact ⟨rfl,rfl,rfl,rfl⟩
theorem dkwon_v {w:World} {v:Value} {s:Dr} {O:Nat → Prop} {B:Int} (h:DkD w v s O) (ok:s.Ok B) (hT:Tabs w):Calls Tryz.prog 17 #[v] w fun e w' => e = .returned (.bool s.won.2) ∧ Stp DkD v O w s.won.1 w':=by
  obtain ⟨b,cg,L,q,c,e,R,rfl,rfl,hd,hs,hO⟩:=h
  have HW0:=Lib.hid hd.start
  have c0:=HW0.out.cell0
  by_cases h1:s.st = 1
  · have HE:Hid (s.won = ({ s with ct:=s.ct.won },s.ct.off.2)):=Lib.hid (by unfold Dr.won; rw [if_pos h1])
    rw [HE.out,← hs.offEq]
    obtain ⟨X,Y,Oc,hc,hk⟩:=HW0.out.atC
    have HC:=Lib.hid (kkwon_v hc (hs.cOk ok))
    have HN:Hid (∀ w',Stp (CkD dkT 14 X Y) (.pointer (some ⟨b,14,none⟩)) Oc w c.won w' → Stp DkD (.pointer (some ⟨b,0,none⟩)) (ownR b R) w { s with ct:=s.ct.won } w'):=Lib.hid (fun w' hw => DkW.stp (s' := { s with ct:=s.ct.won }) (hk _ _ hw) (hs.won (by omega)) hO hT)
    have hup:(s.st == 1) = true:=by simp [h1]
    have HU:=Lib.hid (dkisup_v c0 hup)
    clear hd hs hO hc c0 ok h1 hup hk hT
    go_enter Tryz.func17,Tryz.ntmps17
    go_wp2_with fail
    refine HU.out.mono ?_
    rintro e w1 ⟨rfl,rfl⟩
    go_wp2_with fail
    refine HC.out.mono ?_
    rintro e w2 ⟨rfl,hw⟩
    have HS:=Lib.hid (HN.out _ hw)
    clear hw
    go_wp2
    go_ret
    exact ⟨rfl,HS.out⟩
  · have HE:Hid (s.won = (s,false)):=Lib.hid (by unfold Dr.won; rw [if_neg h1])
    rw [HE.out]
    have HS:=Lib.hid (DkW.stp HW0.out hs hO hT)
    have hup:(s.st == 1) = false:=by simp [h1]
    have HU:=Lib.hid (dkisup_v c0 hup)
    clear hd hs hO c0 ok h1 hup hT
    go_enter Tryz.func17,Tryz.ntmps17
    go_wp2_with fail
    refine HU.out.mono ?_
    rintro e w1 ⟨rfl,rfl⟩
    go_wp2
    go_ret
    exact ⟨rfl,HS.out⟩
theorem dkoff_v {w:World} {v:Value} {s:Dr} {O:Nat → Prop} {B:Int} (h:DkD w v s O) (ok:s.Ok B) (hT:Tabs w):Calls Tryz.prog 20 #[v] w fun e w' => e = .returned (.tuple #[]) ∧ Stp DkD v O w s.off w':=by
  obtain ⟨b,cg,L,q,c,e,R,rfl,rfl,hd,hs,hO⟩:=h
  have HW0:=Lib.hid hd.start
  have c0:=HW0.out.cell0
  have f0:=HW0.out.live 0
  by_cases h1:s.st = 1 ∨ s.st = 3
  · have HE:Hid (s.off = { s with st:=2,q := { s.q with st:=true },ct := { s.ct with asks:=setB s.ct.asks 8 } }):=Lib.hid (by unfold Dr.off; rw [if_pos h1])
    rw [HE.out]
    have HS:=Lib.hid (hs.off (by omega))
    have HO:=Lib.hid hO
    have HT:=Lib.hid hT
    have HOK:=Lib.hid (hs.cOk ok)
    have HW1:=Lib.hid (HW0.out.setSt 2)
    generalize s.st = a at *
    obtain ⟨w1,e1⟩:∃ w1,w.setCell ⟨b,0,none⟩ (.int .i64 2) = w1:=⟨_,rfl⟩
    rw [e1] at HW1
    obtain ⟨Y,Oq,hq,hk⟩:=HW1.out.atQ
    have HQ:=Lib.hid (kqstop_v w1 hq)
    have HK:Hid (∀ w',Stp (BdD dkT 1 [.int .i64 2] Y) (.pointer (some ⟨b,1,none⟩)) Oq w1 { q with st:=true } w' → DkW w (ownR b R) b 2 cg s.sx L { q with st:=true } c e w'):=Lib.hid (fun w' hw => hk _ _ hw)
    clear hd hs hO hT ok hq hk
    rcases h1 with rfl | rfl
    all_goals (
      go_enter Tryz.func20,Tryz.ntmps20
      go_wp2_with fail
      refine HQ.out.mono ?_
      rintro e w2 ⟨rfl,hw⟩
      have HW2:=Lib.hid (HK.out _ hw)
      obtain ⟨X',Y',Oc,hc,hk⟩:=HW2.out.atC
      have HC:=Lib.hid (kkoff_v hc HOK.out)
      have HN:=Lib.hid hk
      clear hw hc hk c0 f0 e1
      go_wp2_with fail
      refine HC.out.mono ?_
      rintro e w3 ⟨rfl,hw⟩
      have HW3:=Lib.hid (HN.out _ _ hw)
      clear hw
      go_wp2
      go_end0
      exact ⟨rfl,DkW.stp (s' := { s with st:=2,q := { s.q with st:=true },ct := { s.ct with asks:=setB s.ct.asks 8 } }) HW3.out HS.out HO.out HT.out⟩)
  · have HE:Hid (s.off = s):=Lib.hid (by unfold Dr.off; rw [if_neg h1])
    rw [HE.out]
    have HS:=Lib.hid (DkW.stp HW0.out hs hO hT)
    have d1:(s.st == 1) = false:=by simp; omega
    have d3:(s.st == 3) = false:=by simp; omega
    clear hd hs hO ok h1 hT
    go_enter Tryz.func20,Tryz.ntmps20
    go_wp2
    go_end0
    exact ⟨rfl,HS.out⟩
theorem dkfix_v {w:World} {v:Value} {s:Dr} {O:Nat → Prop} {B:Int} (h:DkD w v s O) (ok:s.Ok B) (hB:B ≤ 1000000) (hT:Tabs w):Calls Tryz.prog 24 #[v] w fun e w' => e = .returned (.int .i64 s.fix.2) ∧ Stp DkD v O w s.fix.1 w':=by
  obtain ⟨b,cg,L,q,c,e,R,rfl,rfl,hd,hs,hO⟩:=h
  have HW0:=Lib.hid hd.start
  have c0:=HW0.out.cell0
  have f0:=HW0.out.live 0
  by_cases h1:s.st ≠ 2
  · have HE:Hid (s.fix = (s,2)):=Lib.hid (by unfold Dr.fix; rw [if_pos h1])
    rw [HE.out]
    have HS:=Lib.hid (DkW.stp HW0.out hs hO hT)
    have HP:=Lib.hid (dkpass_f (fr:=2) (to:=3) c0 h1)
    clear hd hs hO ok h1 hT c0 f0
    go_enter Tryz.func24,Tryz.ntmps24
    go_wp2_with fail
    refine HP.out.mono ?_
    rintro e w1 ⟨rfl,rfl⟩
    go_wp2
    go_ret
    exact ⟨rfl,HS.out⟩
  · have h2:s.st = 2:=by omega
    have HE:Hid (s.fix = ({ s with st:=3,ct:=s.ct.abort.1,sx := { s.sx with fx:=s.sx.fx + 1 } },0)):=Lib.hid (by unfold Dr.fix; rw [if_neg h1])
    rw [HE.out]
    have HS:=Lib.hid (hs.abort (by omega) { s.sx with fx:=s.sx.fx + 1 })
    have HO:=Lib.hid hO
    have HT:=Lib.hid hT
    have HOK:=Lib.hid (hs.cOk ok)
    have HX:Hid (0 ≤ s.sx.fx ∧ s.sx.fx ≤ 1000000):=Lib.hid (by have:=ok.sx.fx; omega)
    have HW1:=Lib.hid (HW0.out.setSt 3)
    rw [h2] at c0
    have HP:=Lib.hid (dkpass_t (to:=3) c0 f0)
    clear hd hs hO hT ok h1 c0 f0 h2 hB
    go_enter Tryz.func24,Tryz.ntmps24
    go_wp2_with fail
    refine HP.out.mono ?_
    rintro e w1 ⟨rfl,hw⟩
    rw [← hw] at HW1
    obtain ⟨X',Y',Oc,hc,hk⟩:=HW1.out.atC
    have HC:=Lib.hid (kkabort_v hc HOK.out)
    have HN:=Lib.hid hk
    clear hw hc hk
    go_wp2_with fail
    refine HC.out.mono ?_
    rintro e w2 ⟨rfl,hw⟩
    have HW2:=Lib.hid (HN.out _ _ hw)
    obtain ⟨_,_,_,_,_,c30⟩:=HW2.out.cells25
    have f30:=HW2.out.live 30
    have hx:=HX.out
    have HW3:=Lib.hid (HW2.out.setSx 5 (.int .i64 (s.sx.fx + 1)) { s.sx with fx:=s.sx.fx + 1 } rfl)
    clear hw
    go_wp2
    go_ret
    exact ⟨rfl,DkW.stp (s' := { s with st:=3,ct:=s.ct.abort.1,sx := { s.sx with fx:=s.sx.fx + 1 } }) HW3.out HS.out HO.out HT.out⟩
end Go.Proofs.YtimdkcchjanpaaaGreatDoor
namespace Go.Proofs.YtimdkcchjanpaaaGreatDoor
open Go.RowKit
set_option linter.unusedVariables false
theorem wp_scope_label {P:Program} {a:Act} {w:World} {Q:Exit → Act → World → Prop} {c rest:Code} (l:Nat) (J:Act → World → Prop) (μ:Act → World → Nat) (hf:findLabel c l = some (.seq .skip rest))
    (pass:∀ a w,J a w → rest.wp P (Exit.jump l (fun a' w' => J a' w' ∧ μ a' w' < μ a w) Q) a w)
    (first:(∀ a w,J a w → rest.wp P (Exit.jump l J Q) a w) → c.wp P (Exit.jump l J Q) a w):(Code.scope c).wp P Q a w:=by
  refine wp_scope_jumps l J μ hf (first fun a w hJ => wp_mono (pass a w hJ) fun e a' w' h => ?_) fun a w hJ => wp_seq (wp_skip (pass a w hJ))
  cases e with
  | goto l' => exact ⟨h.1,h.2.1⟩
  | normal => exact h
  | exit id => exact h
  | ret => exact h
  | panic ch => exact h
  | outgrown => exact h
end Go.Proofs.YtimdkcchjanpaaaGreatDoor
namespace Go.Proofs.YtimdkcchjanpaaaGreatDoor
open Go.RowKit
set_option linter.unusedVariables false
section
variable {W w w0 w1:World} {O:Nat → Prop} {b:Nat} {R:Nat → Nat → Prop} {st:Int} {cg:Cg} {sx:Sx} {L:List Flt} {q:Bq} {c:Ct} {e:Ec}
theorem DkW.kept (h:DkW W O b st cg sx L q c e w):Kept O W w:=by
  obtain ⟨R,h1,h2,h3⟩:=h
  exact h2
theorem DkW.after (hk:Kept O W w) (hg:Grows O W (ownR b R)) (hb:Below w.heap.size w w0) (h:DkW w0 (ownR b R) b st cg sx L q c e w1):DkW W O b st cg sx L q c e w1:=by
  obtain ⟨R',h1,h2,h3⟩:=h
  refine ⟨R',h1,hk.trans ((Kept.of_below (O:=ownR b R) hb).trans h2 (Grows.refl _ _)) hg,hg.trans (fun k hk' => ?_) hk.size⟩
  exact (h3 k hk').imp id (fun h => Nat.le_trans hb.size h)
theorem Dk.lt (h:Dk w b st cg sx L q c e R):∀ k,ownR b R k → k < w.heap.size:=by
  obtain ⟨Cq,Cc,Ce,h⟩:=h
  exact h.pt.ownLt
theorem Dk.later (h:Dk w b st cg sx L q c e R) (hb:Below w.heap.size w w0):Dk w0 b st cg sx L q c e R:=by
  obtain ⟨Cq,Cc,Ce,h⟩:=h
  exact ⟨Cq,Cc,Ce,h.later hb⟩
end
theorem dkhear_v {w:World} {v:Value} {s:Dr} {O:Nat → Prop} {B:Int} (f:Fr) (h:DkD w v s O) (ok:s.Ok B) (hB:B ≤ 1000000) (hT:Tabs w) (hn:f.n64):Calls Tryz.prog 18 #[v,fmV f] w fun e w' => e = .returned (.bool (s.hear f).2) ∧ Stp DkD v O w (s.hear f).1 w':=by
  obtain ⟨b,cg,L,q,c,e,R,rfl,rfl,hd,hs,hO⟩:=h
  have hb0:=(Below.refl w.heap.size w).alloc (Nat.le_refl _) (.cells #[.int .i64 f.i, .int .i64 f.n, .int .i64 f.l, .string f.d] 35)
  have hf0:=BoxF.made w f.i f.n f.l f.d
  obtain ⟨w0,e0⟩:∃ w0,w.alloc (.cells #[.int .i64 f.i, .int .i64 f.n, .int .i64 f.l, .string f.d] 35) = w0:=⟨_,rfl⟩
  rw [e0] at hb0 hf0
  have HW0:=Lib.hid ((hd.later hb0).start)
  have HB0:=Lib.hid hb0
  obtain ⟨d0,d1,d2,d3⟩:=hf0.cells
  have hz0:=hf0.lt
  have HO:=Lib.hid hO
  have HT:=Lib.hid hT
  have HNO:Hid (¬ ownR b R w.heap.size):=Lib.hid (fun h1 => absurd (hd.lt _ h1) (Nat.lt_irrefl _))
  have HA:Hid (∀ w1 q c e,DkW w0 (ownR b R) b s.st cg s.sx L q c e w1 → DkW w (ownR b R) b s.st cg s.sx L q c e w1):=Lib.hid (fun w1 q c e h => DkW.after (Kept.refl _ _) (Grows.refl _ _) hb0 h)
  by_cases h1:s.st = 1
  · have HE:Hid (s.hear f = ({ s with ct:=(s.ct.hear f).1 },(s.ct.hear f).2)):=Lib.hid (by unfold Dr.hear; rw [if_pos h1])
    rw [HE.out]
    obtain ⟨hs2,he2⟩:=hs.hear (by omega) f
    rw [← he2]
    have HS2:=Lib.hid hs2
    have HOK:=Lib.hid (hs.cOk ok)
    have HLS:Hid (c.lost ≤ 1000000):=Lib.hid (by rw [hs.ls (by omega)]; have:=ok.ls; omega)
    have HNF:=Lib.hid hn
    have hup:(s.st == 1) = true:=by simp [h1]
    have HU:Hid (∀ w',w'.cell? ⟨b,0,none⟩ = some (.int .i64 s.st) → Calls Tryz.prog 57 #[.pointer (some ⟨b,0,none⟩)] w' fun e w2 => e = .returned (.bool true) ∧ w' = w2):=Lib.hid (fun w' h => dkisup_v h hup)
    obtain ⟨r,hr⟩:∃ r,c.hear f = r:=⟨_,rfl⟩
    have HR:=Lib.hid hr
    rw [hr] at HS2 ⊢
    obtain ⟨c',r2⟩:=r
    have HKP:Hid (∀ w1,DkW w0 (ownR b R) b s.st cg s.sx L q c' e w1 → Kept (ownR b R) w0 w1):=Lib.hid (fun w1 h => h.kept)
    clear hd hs hO hT hn ok h1 hup hb0 hf0 hr hs2 he2 hB
    go_enter Tryz.func18,Tryz.ntmps18
    go_upto_region 1 with fail
    have hcl:∀ (n:KLater (ownR b R) w0) (o:Nat),n.w.cell? ⟨w.heap.size,o,none⟩ = w0.cell? ⟨w.heap.size,o,none⟩:=fun n o => n.cell w.heap.size o hz0 HNO.out
    refine wp_region_st 9 [8] (OneG w0 (fun w1 => DkW w0 (ownR b R) b s.st cg s.sx L q c' e w1)) [] (.inl ⟨rfl,(Below.refl _ _).drew⟩) (by kernel_rfl) (by kernel_rfl) (by kernel_rfl) (by kernel_rfl) (by kernel_rfl) (by kernel_rfl) (by kernel_rfl) ?_
    simp only [List.take_succ_cons,List.take_zero,List.drop_succ_cons,List.drop_zero]
    repeat ((first | refine st_plain (fun h => h.kept HKP.out) (by rfl) (by rfl) (by rfl) (by rfl) (by rfl) ?_ | refine st_nil (fun h => h.kept HKP.out) (by rfl) (by rfl) (by rfl) (by rfl) (by rfl) (by rfl) ?_); intro K hK; go_big_quiet_op; go_big_quiet_on)
    refine st_call (f:=57) (args := #[.pointer (some ⟨b,0,none⟩)]) (v := .bool true) (by rfl) (by rfl) (by rfl) (by rfl) (by rfl) (fun w => by simp [go_sem]) (fun j xs w' hG => ?_) ?_
    · rcases hG with ⟨h1,h2⟩ | ⟨h1,h2⟩
      · refine (HU.out _ (HW0.out.later h2).cell0).mono ?_
        rintro e w'' ⟨he,rfl⟩
        exact ⟨he, .inl ⟨h1,h2⟩⟩
      · refine (HU.out _ h2.cell0).mono ?_
        rintro e w'' ⟨he,rfl⟩
        exact ⟨he, .inr ⟨h1,h2⟩⟩
    simp only [Act.put,List.setIfInBounds_toArray,List.set_cons_succ,List.set_cons_zero]
    repeat ((first | refine st_plain (fun h => h.kept HKP.out) (by rfl) (by rfl) (by rfl) (by rfl) (by rfl) ?_ | refine st_nil (fun h => h.kept HKP.out) (by rfl) (by rfl) (by rfl) (by rfl) (by rfl) (by rfl) ?_); intro K hK; go_big_quiet_op; go_big_quiet_on)
    refine st_step (f:=59) (args := #[.pointer (some ⟨b,14,none⟩),fmV f]) (v := .bool r2) 0 (by rfl) (by rfl) (by rfl) (by rfl) (by rfl) (fun w => by simp [go_sem]) (fun xs9 w9 h9 => ?_) ?_
    · have hw9:=HW0.out.later h9.start
      obtain ⟨X,Y,Oc,hc,hk⟩:=hw9.atC
      refine (kkhear_v f hc HOK.out HLS.out ((HT.out.below HB0.out).below h9.start) HNF.out).mono ?_
      rintro e w' ⟨he,hs⟩
      rw [HR.out] at he hs
      exact ⟨he, .inr ⟨rfl,hk _ _ hs⟩⟩
    simp only [Act.put,List.setIfInBounds_toArray,List.set_cons_succ,List.set_cons_zero]
    intro ys xs w9 hF h9
    simp only [secFill]
    have H9:=Lib.hid (HA.out _ _ _ _ (OneG.done h9))
    clear hF hcl d0 d1 d2 d3 h9
    go_wp2
    go_ret
    exact ⟨rfl,DkW.stp (s' := { s with ct:=(s.ct.hear f).1 }) H9.out HS2.out HO.out HT.out⟩
  · have HE:Hid (s.hear f = (s,false)):=Lib.hid (by unfold Dr.hear; rw [if_neg h1])
    rw [HE.out]
    have HS2:=Lib.hid hs
    have hup:(s.st == 1) = false:=by simp [h1]
    have HU:Hid (∀ w',w'.cell? ⟨b,0,none⟩ = some (.int .i64 s.st) → Calls Tryz.prog 57 #[.pointer (some ⟨b,0,none⟩)] w' fun e w2 => e = .returned (.bool false) ∧ w' = w2):=Lib.hid (fun w' h => dkisup_v h hup)
    clear hd hs hO hT hn ok h1 hup hb0 hf0 hB
    go_enter Tryz.func18,Tryz.ntmps18
    go_upto_region 1 with fail
    have hcl:∀ (n:KLater (fun _ => False) w0) (o:Nat),n.w.cell? ⟨w.heap.size,o,none⟩ = w0.cell? ⟨w.heap.size,o,none⟩:=fun n o => n.cell w.heap.size o hz0 (fun h => h)
    refine wp_region_st 9 [] (fun _ _ w' => Below w0.heap.size w0 w') [] (Below.refl _ _).drew (by kernel_rfl) (by kernel_rfl) (by kernel_rfl) (by kernel_rfl) (by kernel_rfl) (by kernel_rfl) (by kernel_rfl) ?_
    simp only [List.take_succ_cons,List.take_zero,List.drop_succ_cons,List.drop_zero]
    repeat ((first | refine st_plain (O:=fun _ => False) (fun h => .of_below h) (by rfl) (by rfl) (by rfl) (by rfl) (by rfl) ?_ | refine st_nil (O:=fun _ => False) (fun h => .of_below h) (by rfl) (by rfl) (by rfl) (by rfl) (by rfl) (by rfl) ?_); intro K hK; go_big_quiet_op; go_big_quiet_on)
    refine st_call (f:=57) (args := #[.pointer (some ⟨b,0,none⟩)]) (v := .bool false) (by rfl) (by rfl) (by rfl) (by rfl) (by rfl) (fun w => by simp [go_sem]) (fun j xs w' hG => ?_) ?_
    · refine (HU.out _ (HW0.out.later hG).cell0).mono ?_
      rintro e w'' ⟨he,rfl⟩
      exact ⟨he,hG⟩
    simp only [Act.put,List.setIfInBounds_toArray,List.set_cons_succ,List.set_cons_zero]
    repeat (refine st_plain (O:=fun _ => False) (fun h => .of_below h) (by rfl) (by rfl) (by rfl) (by rfl) (by rfl) ?_; intro K hK; go_big_quiet_op; go_big_quiet_on)
    repeat (refine st_skip (by rfl) (by rfl) (by rfl) ?_; simp only [Act.put,List.setIfInBounds_toArray,List.set_cons_succ,List.set_cons_zero])
    intro ys xs w9 hF h9
    simp only [secFill]
    have H9:=Lib.hid (HA.out _ _ _ _ (HW0.out.later h9))
    clear hF hcl d0 d1 d2 d3 h9
    go_wp2
    go_ret
    exact ⟨rfl,DkW.stp H9.out HS2.out HO.out HT.out⟩
theorem key_n64 {f:Fr} (h:0 ≤ keyG f) : -9223372036854775808 ≤ f.n ∧ f.n ≤ 9223372036854775807:=by
  unfold keyG keyV at h
  split at h
  · rename_i h1
    simp only [Bool.and_eq_true,okF,okFl,decide_eq_true_eq] at h1
    omega
  · omega
theorem dkload_v {W w:World} {O:Nat → Prop} {b:Nat} {st:Int} {cg:Cg} {sx:Sx} {L:List Flt} {q:Bq} {c:Ct} {e:Ec} (p:Pk) (h:DkW W O b st cg sx L q c e w) (cok:c.Ok) (te:TabE e c.bx) (hT:Tabs w) (hO:TabO O) (hTW:Tabs W) (hp:0 ≤ keyG p.f) (hf:c.bx.free c.bx.S.length ≠ 0) :
    Calls Tryz.prog 80 #[.pointer (some ⟨b,6,none⟩),pkV p] w fun r w' => r = .returned (.tuple #[]) ∧ ∃ e',DkW W O b st cg sx L q { c with bx:=(c.bx.put p).1 } e' w' ∧ TabE e' (c.bx.put p).1:=by
  obtain ⟨R,hd,hk,hg⟩:=h
  obtain ⟨i,hput,hpe,hte⟩:=te.put hp hf cok.bx
  have hb0:=(Below.refl w.heap.size w).alloc (Nat.le_refl _) (.cells #[.int .i64 p.f.i, .int .i64 p.f.n, .int .i64 p.f.l, .string p.f.d, .int .i64 p.fr, .int .i64 p.tag, .bool p.lp] 37)
  have hp0:=BoxP.made w p
  obtain ⟨w0,e0⟩:∃ w0,w.alloc (.cells #[.int .i64 p.f.i, .int .i64 p.f.n, .int .i64 p.f.l, .string p.f.d, .int .i64 p.fr, .int .i64 p.tag, .bool p.lp] 37) = w0:=⟨_,rfl⟩
  rw [e0] at hb0 hp0
  have HW0:=Lib.hid ((hd.later hb0).start)
  have HB0:=Lib.hid hb0
  have HP0:=Lib.hid hp0
  obtain ⟨d0,d1,d2,d3,d4,d5,d6⟩:=hp0.cells
  have hz0:=hp0.lt
  have HT:=Lib.hid hT
  have HOK:=Lib.hid cok
  have HEK:=Lib.hid (te.ok cok.bx)
  have HPO:Hid p.ok:=Lib.hid (key_n64 hp)
  have HNO:Hid (¬ ownR b R w.heap.size):=Lib.hid (fun h1 => absurd (hd.lt _ h1) (Nat.lt_irrefl _))
  have HA:Hid (∀ w1 c e,DkW w0 (ownR b R) b st cg sx L q c e w1 → DkW W O b st cg sx L q c e w1):=Lib.hid (fun w1 c e h => DkW.after hk hg hb0 h)
  rw [hput]
  have HPU:=Lib.hid hput
  have HPE:=Lib.hid hpe
  have HTE:=Lib.hid hte
  generalize c.bx.putAt i p = x' at HPU HTE ⊢
  have HKP:Hid (∀ w1,DkW w0 (ownR b R) b st cg sx L q { c with bx:=x' } e w1 → Kept (ownR b R) w0 w1):=Lib.hid (fun w1 h => h.kept)
  clear hd hk hg hput hpe hte hb0 hp0 hT cok te hp hf hO hTW
  go_enter Tryz.func80,Tryz.ntmps80
  go_upto_region 1 with fail
  have hcl:∀ (n:KLater (ownR b R) w0) (o:Nat),n.w.cell? ⟨w.heap.size,o,none⟩ = w0.cell? ⟨w.heap.size,o,none⟩:=fun n o => n.cell w.heap.size o hz0 HNO.out
  refine wp_region_st 9 [4] (OneG w0 (fun w1 => DkW w0 (ownR b R) b st cg sx L q { c with bx:=x' } e w1)) [] (.inl ⟨rfl,(Below.refl _ _).drew⟩) (by kernel_rfl) (by kernel_rfl) (by kernel_rfl) (by kernel_rfl) (by kernel_rfl) (by kernel_rfl) (by kernel_rfl) ?_
  simp only [List.take_succ_cons,List.take_zero,List.drop_succ_cons,List.drop_zero]
  repeat ((first | refine st_plain (fun h => h.kept HKP.out) (by rfl) (by rfl) (by rfl) (by rfl) (by rfl) ?_ | refine st_nil (fun h => h.kept HKP.out) (by rfl) (by rfl) (by rfl) (by rfl) (by rfl) (by rfl) ?_); intro K hK; go_big_quiet_op; go_big_quiet_on)
  refine st_step (f:=118) (args := #[.pointer (some ⟨b,14,none⟩),pkV p]) (v := .tuple #[.int .i64 (i:Int), .int .i64 0]) 0 (by rfl) (by rfl) (by rfl) (by rfl) (by rfl) (fun w => by simp [go_sem]) (fun xs9 w9 h9 => ?_) ?_
  · have hw9:=HW0.out.later h9.start
    obtain ⟨X,Y,Oc,hc,hk⟩:=hw9.atC
    refine (kkload_v p hc HOK.out ((HT.out.below HB0.out).below h9.start) HPO.out).mono ?_
    rintro e w' ⟨he,hs⟩
    rw [HPU.out] at he hs
    exact ⟨he, .inr ⟨rfl,hk _ _ hs⟩⟩
  simp only [Act.put,List.setIfInBounds_toArray,List.set_cons_succ,List.set_cons_zero]
  repeat (refine st_plain (fun h => h.kept HKP.out) (by rfl) (by rfl) (by rfl) (by rfl) (by rfl) ?_; intro K hK; go_big_quiet_op; go_big_quiet_on)
  intro ys xs w9 hF h9
  simp only [secFill]
  have h9':=OneG.done h9
  have H9:=Lib.hid h9'
  have HP9:Hid (BoxP w9 w.heap.size p):=Lib.hid ((h9'.kept.block _ hz0 HNO.out).trans HP0.out)
  clear hF hcl d0 d1 d2 d3 d4 d5 d6 h9 h9' hz0
  obtain ⟨d0,d1,d2,d3,d4,d5,d6⟩:=HP9.out.cells
  have hz9:=HP9.out.lt
  go_upto_region 3 with fail
  have hcl:∀ (n:Later w9) (b o:Nat),b < w9.heap.size → n.w.cell? ⟨b,o,none⟩ = w9.cell? ⟨b,o,none⟩:=later_cells w9
  refine wp_region_sec 5 [] (fun _ _ _ => True) (fun _ _ _ _ _ _ => True.intro) (by kernel_rfl) (by kernel_rfl) (by kernel_rfl) (by kernel_rfl) (by kernel_rfl) ?_
  simp only [List.take_succ_cons,List.take_zero,List.drop_succ_cons,List.drop_zero]
  repeat ((first | refine sec_plain (by rfl) (by rfl) (by rfl) (by rfl) ?_ | refine sec_nil (by rfl) (by rfl) (by rfl) (by rfl) (by rfl) ?_); intro K hK; go_big_quiet_op; go_big_quiet_on)
  intro xs m9 hF
  simp only [secFill]
  have HW2:=Lib.hid (HA.out _ _ _ (H9.out.later m9.h))
  clear hF xs hcl d0 d1 d2 d3 d4 d5 d6 hz9
  generalize m9.w = w2 at HW2 ⊢
  obtain ⟨X,Y,Oe,he,hk⟩:=HW2.out.atE
  have HC:=Lib.hid (keput_v w2 (i:Int) p he HEK.out)
  have HK:=Lib.hid hk
  clear he hk
  go_wp2_with fail
  refine HC.out.mono ?_
  rintro r w3 ⟨rfl,hs⟩
  have HW3:=Lib.hid (HK.out _ _ hs)
  clear hs
  go_wp2
  go_end0
  exact ⟨rfl,_,HW3.out,HTE.out⟩
end Go.Proofs.YtimdkcchjanpaaaGreatDoor
