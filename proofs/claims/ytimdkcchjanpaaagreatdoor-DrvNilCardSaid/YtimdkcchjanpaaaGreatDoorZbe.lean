/- Drv, the code: fetched, Rx. Drv, the code: drain, Down. Drv, the code: renew, Up. Drv, the code: Up; a config of the call's own; the parts as they are made. -/
import Derived.Test.YtimdkcchjanpaaaGreatDoorZbd
import Derived.Deep.LoopGhost
import Derived.Laws.EntriesVeiled
set_option maxHeartbeats 8000000
namespace Go.Proofs.YtimdkcchjanpaaaGreatDoor
open Go.RowKit
set_option linter.unusedVariables false
def putFr (w:World) (z:Nat) (f:Fr):World:=(((w.setCell ⟨z,0,none⟩ (.int .i64 f.i)).setCell ⟨z,1,none⟩ (.int .i64 f.n)).setCell ⟨z,2,none⟩ (.int .i64 f.l)).setCell ⟨z,3,none⟩ (.string f.d)
theorem putFr_kept (w:World) (z:Nat) (f:Fr):Kept (fun k => k = z) w (putFr w z f):=by
  unfold putFr
  have h0:Kept (fun k => k = z) w w:=Kept.refl _ w
  have h1:=h0.setCell (p:=⟨z,0,none⟩) (rfl:z = z) (.int .i64 f.i)
  have h2:=h1.setCell (p:=⟨z,1,none⟩) (rfl:z = z) (.int .i64 f.n)
  have h3:=h2.setCell (p:=⟨z,2,none⟩) (rfl:z = z) (.int .i64 f.l)
  exact h3.setCell (p:=⟨z,3,none⟩) (rfl:z = z) (.string f.d)
theorem BoxF.putFr {w:World} {z:Nat} {i n l:Int} {d:ByteArray} (h:BoxF w z i n l d) (f:Fr):BoxF (putFr w z f) z f.i f.n f.l f.d:=boxF_set h
theorem BoxF.kept2 {w w':World} {b:Nat} {i n l:Int} {d:ByteArray} {O:Nat → Prop} (h:BoxF w b i n l d) (hk:Kept O w w') (hn:¬ O b):BoxF w' b i n l d:=(hk.block b h.lt hn).trans h
def Ct.ftd (c:Ct) (r:List Fr):Ct:=if r = [] then { c with fifo:=r,asks:=clrK c.asks 6 4 } else { c with fifo:=r }
theorem dkfetched_v {W w:World} {O:Nat → Prop} {b:Nat} {st:Int} {cg:Cg} {sx:Sx} {L:List Flt} {q:Bq} {c:Ct} {e:Ec} (h:DkW W O b st cg sx L q c e w) (cok:c.Ok) :
    Calls Tryz.prog 64 #[.pointer (some ⟨b,6,none⟩)] w fun r w' => match c.fifo with
      | [] => r = .returned (.tuple #[fmV frz, .int .i64 6]) ∧ DkW W O b st cg sx L q c e w'
      | f :: l => r = .returned (.tuple #[fmV f, .int .i64 0]) ∧ DkW W O b st cg sx L q (c.ftd l) e w':=by
  obtain ⟨R,hd,hk,hg⟩:=h
  have hb0:=(Below.refl w.heap.size w).alloc (Nat.le_refl _) zfO
  have hx0:=BoxF.made w 0 0 0 (ByteArray.mk #[])
  obtain ⟨w0,e0⟩:∃ w0,w.alloc zfO = w0:=⟨_,rfl⟩
  rw [e0] at hb0 hx0
  have HX0:=Lib.hid hx0
  have HW0:=Lib.hid ((hd.later hb0).start)
  have HNO:Hid (¬ ownR b R w.heap.size):=Lib.hid (fun h1 => absurd (hd.lt _ h1) (Nat.lt_irrefl _))
  have HBX:Hid (∀ w1 w2 c e,DkW w0 (ownR b R) b st cg sx L q c e w1 → Kept (fun k => k = w.heap.size) w1 w2 → DkW W O b st cg sx L q c e w2):=Lib.hid (fun w1 w2 c e h1 h2 => DkW.box hk hg hb0 h1 (Nat.le_refl _) hx0.lt HNO.out h2)
  have HOK:=Lib.hid cok
  obtain ⟨X,Y,Oc,hc,hn⟩:=HW0.out.atC
  have HC:=Lib.hid (kkfetch_v hc cok)
  have HN:=Lib.hid (fun w' => hn c.fetch.1 w')
  have HE0:w.alloc (.cells #[.int .i64 0, .int .i64 0, .int .i64 0, .string (ByteArray.mk #[])] 35) = w0:=e0
  clear hd hk hg hb0 hx0 e0 cok hc hn
  cases hf:c.fifo with
  | nil =>
    have HFT:Hid (c.fetch = (c,frz,false)):=Lib.hid (by unfold Ct.fetch; rw [hf])
    rw [HFT.out] at HC HN
    simp only [frz] at HC
    clear hf
    go_enter Tryz.func64,Tryz.ntmps64
    go_wp2_with fail
    refine HC.out.mono ?_
    rintro r w1 ⟨rfl,hs⟩
    have hw1:=HN.out _ hs
    have HX1:=Lib.hid (HX0.out.kept2 hw1.kept HNO.out)
    have HW1:=Lib.hid hw1
    have hz1:=HX1.out.lt
    have hb1:=(Below.refl w1.heap.size w1).alloc (Nat.le_refl _) zfO
    have hy1:=BoxF.made w1 0 0 0 (ByteArray.mk #[])
    clear hs hw1 HE0 HC HN
    go_upto_region 2 with fail
    obtain ⟨w2,e2⟩:∃ w2,w1.alloc zfO = w2:=⟨_,rfl⟩
    rw [e2] at hb1 hy1
    have HE2:w1.alloc (.cells #[.int .i64 0, .int .i64 0, .int .i64 0, .string (ByteArray.mk #[])] 35) = w2:=e2
    rw [HE2]
    have HX2:=Lib.hid (HX1.out.later hb1)
    have HW2:=Lib.hid (HW1.out.later hb1)
    obtain ⟨x0,x1,x2,x3⟩:=HX2.out.cells
    obtain ⟨y0,y1,y2,y3⟩:=hy1.cells
    have hzy:=hy1.lt
    have ff:∀ j,w2.frozen? ⟨w.heap.size,j,none⟩ = false:=fun j => Lib.frozen_of_heap HX2.out j
    have hz2:=HX2.out.lt
    have HP:=Lib.hid (HX2.out.putFr frz)
    have HPK:=Lib.hid (putFr_kept w2 w.heap.size frz)
    clear hb1 hy1 e2 HE2 hz1
    go_wp2_with fail
    obtain ⟨g0,g1,g2,g3⟩:=HP.out.cells
    unfold putFr frz at g0 g1 g2 g3
    unfold putFr frz at HPK
    refine bodyPost_ret (v := .tuple #[fmV frz, .int .i64 6]) ?_ rfl ?_
    · simp [results,Tryz.results64,go_sem,frz,g0,g1,g2,g3]
    · exact ⟨rfl,HBX.out _ _ _ _ HW2.out HPK.out⟩
  | cons f l =>
    have HFT:Hid (c.fetch = ({ c with fifo:=l },f,true)):=Lib.hid (by unfold Ct.fetch; rw [hf])
    rw [HFT.out] at HC HN
    simp only [if_true] at HC
    have HOK1:Hid (({ c with fifo:=l }:Ct).Ok):=Lib.hid ⟨HOK.out.bx,HOK.out.ak,HOK.out.room,by have:=HOK.out.fifo; rw [hf] at this; simp at this ⊢; omega,HOK.out.ls⟩
    have HFD:Hid (c.ftd l = if l = [] then { c with fifo:=l,asks:=clrK c.asks 6 4 } else { c with fifo:=l }):=Lib.hid rfl
    have hfl:l.length ≤ 1000:=by
      have h9:=HOK1.out.fifo
      have h8:=HOK1.out.room
      change (l.length:Int) ≤ c.room at h9
      change 1 ≤ c.room ∧ c.room ≤ 1000 at h8
      omega
    clear hf
    go_enter Tryz.func64,Tryz.ntmps64
    go_wp2_with fail
    refine HC.out.mono ?_
    rintro r w1 ⟨rfl,hs⟩
    have hw1:=HN.out _ hs
    have HX1:=Lib.hid (HX0.out.kept2 hw1.kept HNO.out)
    obtain ⟨R1,hd1,hg1,ha1⟩:=hw1.cut
    have HNZ:Hid (¬ ownR b R1 w.heap.size):=Lib.hid (fun h => by
      rcases hg1 _ h with h1 | h1
      · exact HNO.out h1
      · have:=HX0.out.lt; omega)
    have HND:Hid (¬ ownR b R1 w1.heap.size):=Lib.hid (fun h1 => absurd (hd1.lt _ h1) (Nat.lt_irrefl _))
    have hb1:=(Below.refl w1.heap.size w1).alloc (Nat.le_refl _) (.cells #[.int .i64 f.i, .int .i64 f.n, .int .i64 f.l, .string f.d] 35)
    have hy1:=BoxF.made w1 f.i f.n f.l f.d
    have hz1:=HX1.out.lt
    obtain ⟨w2,e2⟩:∃ w2,w1.alloc (.cells #[.int .i64 f.i, .int .i64 f.n, .int .i64 f.l, .string f.d] 35) = w2:=⟨_,rfl⟩
    rw [e2] at hb1 hy1
    have HX2:=Lib.hid (HX1.out.later hb1)
    have HY2:=Lib.hid hy1
    have HW2:=Lib.hid (hd1.later hb1).start
    have HA1:Hid (∀ w5 c e,DkW w2 (ownR b R1) b st cg sx L q c e w5 → DkW w0 (ownR b R) b st cg sx L q c e w5):=Lib.hid (fun w5 c e h => ha1 w2 w5 st sx q c e hb1 h)
    obtain ⟨X2,Y2,O2,hc2,_⟩:=HW2.out.atC
    have HC2:=Lib.hid (kkkept_v hc2)
    simp only at HC2
    clear hs hw1 hd1 hg1 ha1 hb1 hy1 HC HN HE0 hc2
    go_upto_region 2 with fail
    by_cases hl:l = []
    · have HF2:Hid (c.ftd l = { c with fifo:=l,asks:=clrK c.asks 6 4 }):=Lib.hid (by rw [HFD.out,if_pos hl])
      have hll:((l.length:Int) == 0) = true:=by rw [hl]; rfl
      clear e2 hl
      go_wp2_with fail
      refine HC2.out.mono ?_
      rintro r w3 ⟨rfl,hb⟩
      have HW3:=Lib.hid (HW2.out.later hb)
      obtain ⟨X3,Y3,O3,hc3,hn3⟩:=HW3.out.atC
      have HC3:=Lib.hid (kkclear_v 6 hc3 HOK1.out)
      have HN3:=Lib.hid hn3
      clear hb hc3 hn3
      go_wp2_with fail
      refine HC3.out.mono ?_
      rintro r w4 ⟨rfl,hs⟩
      have HW4:=Lib.hid (HN3.out _ _ hs)
      have hk4:=HW4.out.kept
      have HX4:=Lib.hid (HX2.out.kept2 hk4 HNZ.out)
      have HY4:=Lib.hid (HY2.out.kept2 hk4 HND.out)
      clear hs hk4
      obtain ⟨x0,x1,x2,x3⟩:=HX4.out.cells
      obtain ⟨y0,y1,y2,y3⟩:=HY4.out.cells
      have hzy:=HY4.out.lt
      have ff:∀ j,w4.frozen? ⟨w.heap.size,j,none⟩ = false:=fun j => Lib.frozen_of_heap HX4.out j
      have hz4:=HX4.out.lt
      have HP:=Lib.hid (HX4.out.putFr f)
      have HPK:=Lib.hid (putFr_kept w4 w.heap.size f)
      have HFW:=Lib.hid (HA1.out _ _ _ HW4.out)
      go_wp2_with fail
      obtain ⟨g0,g1,g2,g3⟩:=HP.out.cells
      unfold putFr at g0 g1 g2 g3
      refine bodyPost_ret (v := .tuple #[fmV f, .int .i64 0]) ?_ rfl ?_
      · simp [results,Tryz.results64,go_sem,g0,g1,g2,g3]
      · refine ⟨rfl, ?_⟩
        rw [HF2.out]
        exact HBX.out _ _ _ _ HFW.out HPK.out
    · have HF2:Hid (c.ftd l = { c with fifo:=l }):=Lib.hid (by rw [HFD.out,if_neg hl])
      have hll:((l.length:Int) == 0) = false:=by
        have:l.length ≠ 0:=fun h => hl (List.eq_nil_of_length_eq_zero h)
        simp; omega
      clear e2 hl
      go_wp2_with fail
      refine HC2.out.mono ?_
      rintro r w4 ⟨rfl,hb⟩
      have HW4:=Lib.hid (HW2.out.later hb)
      have HX4:=Lib.hid (HX2.out.later hb)
      have HY4:=Lib.hid (HY2.out.later hb)
      clear hb
      obtain ⟨x0,x1,x2,x3⟩:=HX4.out.cells
      obtain ⟨y0,y1,y2,y3⟩:=HY4.out.cells
      have hzy:=HY4.out.lt
      have ff:∀ j,w4.frozen? ⟨w.heap.size,j,none⟩ = false:=fun j => Lib.frozen_of_heap HX4.out j
      have hz4:=HX4.out.lt
      have HP:=Lib.hid (HX4.out.putFr f)
      have HPK:=Lib.hid (putFr_kept w4 w.heap.size f)
      have HFW:=Lib.hid (HA1.out _ _ _ HW4.out)
      go_wp2_with fail
      obtain ⟨g0,g1,g2,g3⟩:=HP.out.cells
      unfold putFr at g0 g1 g2 g3
      refine bodyPost_ret (v := .tuple #[fmV f, .int .i64 0]) ?_ rfl ?_
      · simp [results,Tryz.results64,go_sem,g0,g1,g2,g3]
      · refine ⟨rfl, ?_⟩
        rw [HF2.out]
        exact HBX.out _ _ _ _ HFW.out HPK.out
theorem DkS.ftd {s:Dr} {cg:Cg} {L:List Flt} {q:Bq} {c:Ct} {e:Ec} (h:DkS s cg L q c e) {f:Fr} {l:List Fr} (hf:c.fifo = f :: l) (sx':Sx):DkS { s with ct:=if l = [] then { s.ct with fifo:=l,asks:=clrK s.ct.asks 6 4 } else { s.ct with fifo:=l },sx:=sx' } cg L q (c.ftd l) e:=by
  unfold Ct.ftd
  have hk:=clrK_rng (n:=6) h.ak 4 (Nat.le_refl _)
  generalize clrK c.asks 6 4 = a at hk ⊢
  generalize clrK s.ct.asks 6 4 = a2
  by_cases hl:l = []
  · rw [if_pos hl,if_pos hl]
    exact ⟨h.bo,h.fi,h.la,h.qL,h.qb,h.qr,h.cx,rfl,h.cr,h.ca,h.ls,hk,h.l0,h.te,h.nb,h.nq,h.nr,h.nf,h.dn⟩
  · rw [if_neg hl,if_neg hl]
    exact ⟨h.bo,h.fi,h.la,h.qL,h.qb,h.qr,h.cx,rfl,h.cr,h.ca,h.ls,h.ak,h.l0,h.te,h.nb,h.nq,h.nr,h.nf,h.dn⟩
theorem dkrx_v {w:World} {v:Value} {s:Dr} {O:Nat → Prop} {B:Int} (h:DkD w v s O) (ok:s.Ok B) (hB:B ≤ 1000000) (hT:Tabs w):Calls Tryz.prog 22 #[v] w fun e w' => e = .returned (.tuple #[fmV s.rx.2.1, .int .i64 s.rx.2.2]) ∧ Stp DkD v O w s.rx.1 w':=by
  obtain ⟨b,cg,L,q,c,e,R,rfl,rfl,hd,hs,hO⟩:=h
  have hb0:=(Below.refl w.heap.size w).alloc (Nat.le_refl _) zfO
  have hx0:=BoxF.made w 0 0 0 (ByteArray.mk #[])
  obtain ⟨w0,e0⟩:∃ w0,w.alloc zfO = w0:=⟨_,rfl⟩
  rw [e0] at hb0 hx0
  have HX0:=Lib.hid hx0
  have HW0:=Lib.hid ((hd.later hb0).start)
  have HNO:Hid (¬ ownR b R w.heap.size):=Lib.hid (fun h1 => absurd (hd.lt _ h1) (Nat.lt_irrefl _))
  have HBX:Hid (∀ w1 w2 sx c e,DkW w0 (ownR b R) b s.st cg sx L q c e w1 → Kept (fun k => k = w.heap.size) w1 w2 → DkW w (ownR b R) b s.st cg sx L q c e w2):=Lib.hid (fun w1 w2 sx c e h1 h2 => DkW.box (Kept.refl _ _) (Grows.refl _ _) hb0 h1 (Nat.le_refl _) hx0.lt HNO.out h2)
  have HE0:w.alloc (.cells #[.int .i64 0, .int .i64 0, .int .i64 0, .string (ByteArray.mk #[])] 35) = w0:=e0
  have HO:=Lib.hid hO
  have HT:=Lib.hid hT
  have HS:=Lib.hid hs
  have HCO:=Lib.hid (hs.cOk ok)
  have c0:=HW0.out.cell0
  by_cases h0:s.st = 0
  · have HE:Hid (s.rx = (s,frz,7)):=Lib.hid (by unfold Dr.rx; rw [if_pos h0])
    rw [HE.out]
    have HK:=Lib.hid (dkworks_v c0 (r:=7) (by rw [if_pos h0]))
    obtain ⟨x0,x1,x2,x3⟩:=HX0.out.cells
    have ff:∀ j,w0.frozen? ⟨w.heap.size,j,none⟩ = false:=fun j => Lib.frozen_of_heap HX0.out j
    have hz0:=HX0.out.lt
    have HP:=Lib.hid (HX0.out.putFr frz)
    have HPK:=Lib.hid (putFr_kept w0 w.heap.size frz)
    clear hd hs ok h0 hT hb0 hx0 hO c0 e0
    go_enter Tryz.func22,Tryz.ntmps22
    go_wp2_with fail
    refine HK.out.mono ?_
    rintro r w1 ⟨rfl,rfl⟩
    go_wp2_with fail
    obtain ⟨g0,g1,g2,g3⟩:=HP.out.cells
    unfold putFr frz at g0 g1 g2 g3
    unfold putFr frz at HPK
    refine bodyPost_ret (v := .tuple #[fmV frz, .int .i64 7]) ?_ rfl ⟨rfl,(HBX.out _ _ _ _ _ HW0.out HPK.out).stp HS.out HO.out HT.out⟩
    simp [results,Tryz.results22,go_sem,frz,g0,g1,g2,g3]
  · have HK:=Lib.hid (dkworks_v c0 (r:=0) (by rw [if_neg h0]))
    have HC:=dkfetched_v HW0.out HCO.out
    cases hf:c.fifo with
    | nil =>
      have HE:Hid (s.rx = (s,frz,6)):=Lib.hid (by
        have hf2:s.ct.fifo = []:=by rw [← hs.cf]; exact hf
        unfold Dr.rx; rw [if_neg h0,hf2])
      rw [HE.out]
      rw [hf] at HC
      simp only [frz] at HC
      have HC2:=Lib.hid HC
      clear hd hs ok h0 hT hb0 hx0 hO c0 e0 hf HC
      go_enter Tryz.func22,Tryz.ntmps22
      go_wp2_with fail
      refine HK.out.mono ?_
      rintro r w1 ⟨rfl,rfl⟩
      go_wp2_with fail
      refine HC2.out.mono ?_
      rintro r w1 ⟨rfl,hw1⟩
      have HW1:=Lib.hid hw1
      have HX1:=Lib.hid (HX0.out.kept2 hw1.kept HNO.out)
      have hz1:=HX1.out.lt
      have hb1:=(Below.refl w1.heap.size w1).alloc (Nat.le_refl _) zfO
      have hy1:=BoxF.made w1 0 0 0 (ByteArray.mk #[])
      clear hw1 HE0
      go_upto_region 5 with fail
      obtain ⟨w2,e2⟩:∃ w2,w1.alloc zfO = w2:=⟨_,rfl⟩
      rw [e2] at hb1 hy1
      have HE2:w1.alloc (.cells #[.int .i64 0, .int .i64 0, .int .i64 0, .string (ByteArray.mk #[])] 35) = w2:=e2
      rw [HE2]
      have HX2:=Lib.hid (HX1.out.later hb1)
      have HW2:=Lib.hid (HW1.out.later hb1)
      obtain ⟨x0,x1,x2,x3⟩:=HX2.out.cells
      obtain ⟨y0,y1,y2,y3⟩:=hy1.cells
      have hzy:=hy1.lt
      have ff:∀ j,w2.frozen? ⟨w.heap.size,j,none⟩ = false:=fun j => Lib.frozen_of_heap HX2.out j
      have hz2:=HX2.out.lt
      have HP:=Lib.hid (HX2.out.putFr frz)
      have HPK:=Lib.hid (putFr_kept w2 w.heap.size frz)
      clear hb1 hy1 e2 HE2 hz1
      go_wp2_with fail
      obtain ⟨g0,g1,g2,g3⟩:=HP.out.cells
      unfold putFr frz at g0 g1 g2 g3
      unfold putFr frz at HPK
      refine bodyPost_ret (v := .tuple #[fmV frz, .int .i64 6]) ?_ rfl ⟨rfl,(HBX.out _ _ _ _ _ HW2.out HPK.out).stp HS.out HO.out HT.out⟩
      simp [results,Tryz.results22,go_sem,frz,g0,g1,g2,g3]
    | cons f l =>
      have HE:Hid (s.rx = ({ s with ct:=if l = [] then { s.ct with fifo:=l,asks:=clrK s.ct.asks 6 4 } else { s.ct with fifo:=l },sx := { s.sx with rf:=s.sx.rf + 1,rb:=s.sx.rb + f.l } },f,0)):=Lib.hid (by
        have hf2:s.ct.fifo = f :: l:=by rw [← hs.cf]; exact hf
        unfold Dr.rx; rw [if_neg h0,hf2])
      rw [HE.out]
      rw [hf] at HC
      simp only at HC
      have HC2:=Lib.hid HC
      have HDS:=Lib.hid (hs.ftd hf { s.sx with rf:=s.sx.rf + 1,rb:=s.sx.rb + f.l })
      have HLN:Hid (lnOk f):=Lib.hid (ok.fk f (by rw [← hs.cf,hf]; simp))
      have HSX:Hid (s.sx.Ok B):=Lib.hid ok.sx
      have HB:=Lib.hid hB
      generalize c.ftd l = c2 at HC2 HDS
      generalize (if l = [] then ({ s.ct with fifo:=l,asks:=clrK s.ct.asks 6 4 }:Ct) else { s.ct with fifo:=l }) = t2 at HDS ⊢
      clear hd hs ok h0 hT hb0 hx0 hO c0 e0 hf HC hB
      go_enter Tryz.func22,Tryz.ntmps22
      go_wp2_with fail
      refine HK.out.mono ?_
      rintro r w1 ⟨rfl,rfl⟩
      go_wp2_with fail
      refine HC2.out.mono ?_
      rintro r w1 ⟨rfl,hw1⟩
      have HX1:=Lib.hid (HX0.out.kept2 hw1.kept HNO.out)
      obtain ⟨R1,hd1,hg1,ha1⟩:=hw1.cut
      have HNZ:Hid (¬ ownR b R1 w.heap.size):=Lib.hid (fun h => by
        rcases hg1 _ h with h1 | h1
        · exact HNO.out h1
        · have:=HX0.out.lt; omega)
      have HND:Hid (¬ ownR b R1 w1.heap.size):=Lib.hid (fun h1 => absurd (hd1.lt _ h1) (Nat.lt_irrefl _))
      have hb1:=(Below.refl w1.heap.size w1).alloc (Nat.le_refl _) (.cells #[.int .i64 f.i, .int .i64 f.n, .int .i64 f.l, .string f.d] 35)
      have hy1:=BoxF.made w1 f.i f.n f.l f.d
      have hz1:=HX1.out.lt
      obtain ⟨w2,e2⟩:∃ w2,w1.alloc (.cells #[.int .i64 f.i, .int .i64 f.n, .int .i64 f.l, .string f.d] 35) = w2:=⟨_,rfl⟩
      rw [e2] at hb1 hy1
      have HX2:=Lib.hid (HX1.out.later hb1)
      have HY2:=Lib.hid hy1
      have HW2:=Lib.hid (hd1.later hb1).start
      have HA1:Hid (∀ w5 sx c e,DkW w2 (ownR b R1) b s.st cg sx L q c e w5 → DkW w0 (ownR b R) b s.st cg sx L q c e w5):=Lib.hid (fun w5 sx c e h => ha1 w2 w5 s.st sx q c e hb1 h)
      clear hw1 hd1 hg1 ha1 hb1 hy1 HE0 HC2
      go_upto_region 6 with fail
      clear e2 hz1
      obtain ⟨y0,y1,y2,y3⟩:=HY2.out.cells
      have hz2:=HY2.out.lt
      have hcl:∀ (n:Later w2) (b o:Nat),b < w2.heap.size → n.w.cell? ⟨b,o,none⟩ = w2.cell? ⟨b,o,none⟩:=later_cells w2
      refine wp_region_sec 4 [] (fun _ _ _ => True) (fun _ _ _ _ _ _ => True.intro) (by kernel_rfl) (by kernel_rfl) (by kernel_rfl) (by kernel_rfl) (by kernel_rfl) ?_
      simp only [List.take_succ_cons,List.take_zero,List.drop_succ_cons,List.drop_zero]
      repeat ((first | refine sec_plain (by rfl) (by rfl) (by rfl) (by rfl) ?_ | refine sec_nil (by rfl) (by rfl) (by rfl) (by rfl) (by rfl) ?_); intro K hK; go_big_quiet_op; go_big_quiet_on)
      intro xs m9 hF
      simp only [secFill]
      have HW3:=Lib.hid (HW2.out.later m9.h)
      clear hF xs hcl y0 y1 y2 y3 hz2
      generalize m9.w = w3 at HW3 ⊢
      go_wp2_with fail
      refine (dkcountRx_v f HW3.out HSX.out HB.out HLN.out).mono ?_
      rintro r w5 ⟨rfl,hw5⟩
      have hk5:=hw5.kept
      have HX5:=Lib.hid (HX2.out.kept2 hk5 HNZ.out)
      have HY5:=Lib.hid (HY2.out.kept2 hk5 HND.out)
      have HW5:=Lib.hid (HA1.out _ _ _ _ hw5)
      clear hw5 hk5
      obtain ⟨y0,y1,y2,y3⟩:=HY5.out.cells
      obtain ⟨x0,x1,x2,x3⟩:=HX5.out.cells
      have hzy:=HY5.out.lt
      have hz5:=HX5.out.lt
      have ff:∀ j,w5.frozen? ⟨w.heap.size,j,none⟩ = false:=fun j => Lib.frozen_of_heap HX5.out j
      have HP:=Lib.hid (HX5.out.putFr f)
      have HPK:=Lib.hid (putFr_kept w5 w.heap.size f)
      go_wp2_with fail
      obtain ⟨g0,g1,g2,g3⟩:=HP.out.cells
      unfold putFr at g0 g1 g2 g3
      refine bodyPost_ret (v := .tuple #[fmV f, .int .i64 0]) ?_ rfl ?_
      · simp [results,Tryz.results22,go_sem,g0,g1,g2,g3]
      · exact ⟨rfl,(HBX.out _ _ _ _ _ HW5.out HPK.out).stp HDS.out HO.out HT.out⟩
end Go.Proofs.YtimdkcchjanpaaaGreatDoor
namespace Go.Proofs.YtimdkcchjanpaaaGreatDoor
open Go.RowKit
set_option linter.unusedVariables false
structure DrA (W:World) (O:Nat → Prop) (b:Nat) (st:Int) (cg:Cg) (sx:Sx) (L:List Flt) (q:Bq) (c1:Ct) (e:Ec) (x:Bx) (r:Int) (wr:World):Prop where
  dk:DkW W O b st cg sx L q { c1 with bx:=x } e wr
  ok:x.Ok
  ord:x.ord = []
  ln:x.S.length = c1.bx.S.length
  gh:∃ e',TabE e' x
  re:r = 0 ∨ r = 6 ∧ x.fin = []
structure DrB (W:World) (O:Nat → Prop) (b:Nat) (st:Int) (cg:Cg) (sx:Sx) (L:List Flt) (q:Bq) (c1:Ct) (e:Ec) (l:List Fr) (r:Int) (wr:World):Prop where
  dk:DkW W O b st cg sx L q { c1 with fifo:=l } e wr
  re:r = 0 ∨ r = 6 ∧ l = []
theorem TabE.flush {e:Ec} {n:Nat} (h1:e.H.length = n) (h2:e.F.length = n):TabE e.flush (bxNew n):=by
  refine ⟨by simp [Ec.flush,bxNew,h1],by simp [Ec.flush,bxNew,h2],fun i => ?_,fun i h => (h (getD_rep _ _ _)).elim,fun i _ => getD_rep _ _ _⟩
  show (List.replicate e.F.length false).getD i false = decide ((List.replicate n (0:Int)).getD i 0 ≠ 0)
  rw [getD_rep,getD_rep]; rfl
theorem dkdrain_v {W w:World} {O:Nat → Prop} {b:Nat} {st:Int} {cg:Cg} {sx:Sx} {L:List Flt} {q:Bq} {c:Ct} {e:Ec} (h:DkW W O b st cg sx L q c e w) (cok:c.Ok) (te:TabE e c.bx) :
    Calls Tryz.prog 67 #[.pointer (some ⟨b,6,none⟩)] w fun r w' => r = .returned (.tuple #[]) ∧ ∃ c',DkW W O b st cg sx L q c' e.flush w' ∧ c'.bx = bxNew c.bx.S.length ∧ c'.fifo = [] ∧ c'.room = c.room ∧ c'.acc = c.acc ∧ 0 ≤ c'.lost ∧ (0 ≤ c'.asks ∧ c'.asks < 16):=by
  obtain ⟨X,Y,Oc,hc,hn⟩:=h.atC
  have HC:=Lib.hid (kkabort_v hc cok)
  have HN:=Lib.hid (fun w' => hn c.abort.1 w')
  have HTE:=Lib.hid te
  have HEK:=Lib.hid (te.ok cok.bx)
  have HCK:=Lib.hid cok.abort
  have HAB:Hid (c.abort.1.bx = (c.bx.abs c.bx.S.length).1 ∧ c.abort.1.fifo = c.fifo ∧ c.abort.1.room = c.room ∧ c.abort.1.acc = c.acc):=Lib.hid (by unfold Ct.abort; split <;> exact ⟨rfl,rfl,rfl,rfl⟩)
  have HAO:=Lib.hid (abs_ord cok.bx)
  have HLN:Hid (c.abort.1.bx.S.length = c.bx.S.length):=Lib.hid (by rw [HAB.out.1,Bx.abs_len])
  have HTA:=Lib.hid (te.abs c.bx.S.length)
  have HN1:Hid (c.bx.S.length ≤ 1000):=Lib.hid cok.bx.n2
  rw [← HAB.out.1] at HAO HTA
  obtain ⟨c1,hc1⟩:∃ x,c.abort.1 = x:=⟨_,rfl⟩
  rw [hc1] at HC HN HCK HAB HAO HLN HTA
  generalize c.abort.2 = n0 at HC
  clear h cok te hc hn hc1
  go_enter Tryz.func67,Tryz.ntmps67
  go_wp2_with fail
  refine HC.out.mono ?_
  rintro r w1 ⟨rfl,hs⟩
  have HS1:Hid (DrA W O b st cg sx L q c1 e c1.bx 0 w1):=Lib.hid ⟨HN.out _ hs,HCK.out.bx,HAO.out,rfl,⟨_,HTA.out⟩, .inl rfl⟩
  have HF1:Hid (c1.bx.fin.length ≤ 1000):=Lib.hid HCK.out.bx.finLe
  clear hs HC HN
  go_wp2_with fail
  go_loopg [2] 1001 (fun kx s2 wr => ∃ (x:Bx) (r:Int),s2 = .int .i64 r ∧ x.fin.length + (if r = 0 then 1 else 0) ≤ kx ∧ Hid (DrA W O b st cg sx L q c1 e x r wr))
  case atStart => exact ⟨c1.bx,0,rfl,by have:=HF1.out; simp; omega,HS1⟩
  case round =>
    obtain ⟨x,r,rfl,hk,HI⟩:=hrel
    rcases HI.out.re with rfl | ⟨rfl,hfin⟩
    · rw [if_pos rfl] at hk
      have hxok:=HCK.out.withBx HI.out.ok
      obtain ⟨X1,Y1,O1,hc1,hn1⟩:=HI.out.dk.atC
      have HC1:=kkended_v hc1 hxok
      cases hf:x.fin with
      | nil =>
        have HTK:Hid (x.tk = (0,pk0,false,6)):=Lib.hid (by unfold Bx.tk; rw [hf])
        have HT1:Hid (x.take.1 = x):=Lib.hid (by unfold Bx.take; rw [hf])
        simp only [HTK.out,HT1.out] at HC1
        have HC2:=Lib.hid HC1
        have HN2:=Lib.hid (fun w' => hn1 { c1 with bx:=x } w')
        have HF:=Lib.hid hf
        have HKP:Hid (0 < gk):=Lib.hid (by omega)
        clear hc1 hn1 HC1 hxok hk hf
        go_wp2_with fail
        refine HC2.out.mono ?_
        rintro r w2 ⟨rfl,hs⟩
        have HS2:Hid (DrA W O b st cg sx L q c1 e x 6 w2):=Lib.hid ⟨HN2.out _ hs,HI.out.ok,HI.out.ord,HI.out.ln,HI.out.gh, .inr ⟨rfl,HF.out⟩⟩
        clear hs
        go_wp2
        go_roundg 0
        case measure => exact HKP.out
        case rel => exact ⟨x,6,rfl,by rw [HF.out]; simp,HS2⟩
      | cons y l =>
        obtain ⟨e',ht⟩:=HI.out.gh
        obtain ⟨_,_,t3,t4⟩:=ht.take HI.out.ok hf
        have HT1:Hid (x.take.1.fin = l):=Lib.hid (by unfold Bx.take; rw [hf])
        have HT3:=Lib.hid t3
        have HL:Hid (l.length + 1 + 1 ≤ gk):=Lib.hid (by rw [hf] at hk; simpa using hk)
        have h4:x.tk.2.2.2 = 0:=by rw [t4]
        rw [h4] at HC1
        generalize x.tk.1 = j0 at HC1
        generalize x.tk.2.1 = j1 at HC1
        generalize x.tk.2.2.1 = j2 at HC1
        have HC2:=Lib.hid HC1
        have HN2:=Lib.hid (fun w' => hn1 { c1 with bx:=x.take.1 } w')
        clear hc1 hn1 HC1 hxok hk hf t3 t4 h4 ht
        go_wp2_with fail
        refine HC2.out.mono ?_
        rintro r w2 ⟨rfl,hs⟩
        have HS2:Hid (DrA W O b st cg sx L q c1 e x.take.1 0 w2):=Lib.hid ⟨HN2.out _ hs,HI.out.ok.take,(take_ord x).1.trans HI.out.ord,(take_ord x).2.trans HI.out.ln,⟨_,HT3.out⟩, .inl rfl⟩
        clear hs
        go_wp2
        go_roundg (l.length + 1)
        case measure => have:=HL.out; omega
        case rel => exact ⟨x.take.1,0,rfl,by rw [HT1.out]; simp,HS2⟩
    · rw [if_neg (by decide)] at hk
      have HFIN:=Lib.hid hfin
      have HB0:Hid (DrB W O b st cg sx L q { c1 with bx:=x } e c1.fifo 0 wr):=Lib.hid ⟨HI.out.dk, .inl rfl⟩
      have HFL:Hid (c1.fifo.length ≤ 1000):=Lib.hid (by have:=HCK.out.fifo; have:=HCK.out.room; omega)
      have HXK:=Lib.hid (HCK.out.withBx HI.out.ok)
      clear hk hfin
      go_wp2_with fail
      go_loopg [3] 1001 (fun kx s3 wq => ∃ (l:List Fr) (r:Int),s3 = .int .i64 r ∧ l.length + (if r = 0 then 1 else 0) ≤ kx ∧ l.length ≤ c1.fifo.length ∧ Hid (DrB W O b st cg sx L q { c1 with bx:=x } e l r wq))
      case atStart => exact ⟨c1.fifo,0,rfl,by have:=HFL.out; simp; omega,Nat.le_refl _,HB0⟩
      case round =>
        obtain ⟨l,r,rfl,hk,hle,HJ⟩:=hrel
        rcases HJ.out.re with rfl | ⟨rfl,rfl⟩
        · rw [if_pos rfl] at hk
          have hxok:({ c1 with bx:=x,fifo:=l }:Ct).Ok:=⟨HXK.out.bx,HXK.out.ak,HXK.out.room,by have:=HCK.out.fifo; show (l.length:Int) ≤ c1.room; omega,HXK.out.ls⟩
          obtain ⟨X1,Y1,O1,hc1,hn1⟩:=HJ.out.dk.atC
          have HC1:=kkfetch_v hc1 hxok
          cases l with
          | nil =>
            have HFT:Hid (({ c1 with bx:=x,fifo := [] }:Ct).fetch = ({ c1 with bx:=x,fifo := [] },frz,false)):=Lib.hid rfl
            rw [HFT.out] at HC1
            have HC2:=Lib.hid HC1
            have HN2:=Lib.hid (fun w' => hn1 { c1 with bx:=x,fifo := [] } w')
            have HKP:Hid (0 < gk):=Lib.hid (by omega)
            clear hc1 hn1 HC1 hxok hk
            go_wp2_with fail
            refine HC2.out.mono ?_
            rintro r w2 ⟨rfl,hs⟩
            have HS2:Hid (DrB W O b st cg sx L q { c1 with bx:=x } e [] 6 w2):=Lib.hid ⟨HN2.out _ hs, .inr ⟨rfl,rfl⟩⟩
            clear hs
            go_wp2
            go_roundg 0
            case measure => exact HKP.out
            case rel => exact ⟨[],6,rfl,by simp,Nat.zero_le _,HS2⟩
          | cons f l =>
            have HFT:Hid (({ c1 with bx:=x,fifo:=f :: l }:Ct).fetch = ({ c1 with bx:=x,fifo:=l },f,true)):=Lib.hid rfl
            rw [HFT.out] at HC1
            simp only [if_true] at HC1
            have HC2:=Lib.hid HC1
            have HN2:=Lib.hid (fun w' => hn1 { c1 with bx:=x,fifo:=l } w')
            have HKP:Hid (l.length + 1 + 1 ≤ gk):=Lib.hid (by simpa using hk)
            have HLE:Hid (l.length ≤ c1.fifo.length):=Lib.hid (by simp at hle; omega)
            clear hc1 hn1 HC1 hxok hk hle
            go_wp2_with fail
            refine HC2.out.mono ?_
            rintro r w2 ⟨rfl,hs⟩
            have HS2:Hid (DrB W O b st cg sx L q { c1 with bx:=x } e l 0 w2):=Lib.hid ⟨HN2.out _ hs, .inl rfl⟩
            clear hs
            go_wp2
            go_roundg (l.length + 1)
            case measure => have:=HKP.out; omega
            case rel => exact ⟨l,0,rfl,by simp,HLE.out,HS2⟩
        · obtain ⟨X1,Y1,O1,he1,hn1⟩:=HJ.out.dk.atE
          have HC2:=Lib.hid (keflush_v _ he1 HEK.out)
          have HN2:=Lib.hid hn1
          have HX:Hid (x = bxNew c.bx.S.length):=Lib.hid (by
            obtain ⟨e',ht⟩:=HI.out.gh
            have hfu:x.Full:=HJ.out.dk.full
            have:=ht.all0 HI.out.ok (full_free hfu HI.out.ord HFIN.out) HI.out.ord HFIN.out
            rw [HI.out.ln,HLN.out] at this
            exact this)
          clear he1 hn1 hk hle
          go_wp2_with fail
          refine HC2.out.mono ?_
          rintro r w2 ⟨u,rfl,_,hs⟩
          have HW2:=Lib.hid (HN2.out _ _ hs)
          clear hs
          go_wp2
          go_end0
          exact ⟨rfl, { c1 with bx:=x,fifo := [] },HW2.out,HX.out,rfl,HAB.out.2.2.1,HAB.out.2.2.2,HCK.out.ls,HCK.out.ak⟩
theorem dkdown_v {w:World} {v:Value} {s:Dr} {O:Nat → Prop} {B:Int} (h:DkD w v s O) (ok:s.Ok B) (hT:Tabs w):Calls Tryz.prog 23 #[v] w fun e w' => e = .returned (.int .i64 s.down.2) ∧ Stp DkD v O w s.down.1 w':=by
  obtain ⟨b,cg,L,q,c,e,R,rfl,rfl,hd,hs,hO⟩:=h
  have HW0:=Lib.hid hd.start
  have c0:=HW0.out.cell0
  have f0:=HW0.out.live 0
  by_cases h0:s.st = 0
  · have HE:Hid (s.down = (s,7)):=Lib.hid (by unfold Dr.down; rw [if_pos h0])
    rw [HE.out]
    have HS:=Lib.hid (DkW.stp HW0.out hs hO hT)
    have HK:=Lib.hid (dkworks_v c0 (r:=7) (by rw [if_pos h0]))
    clear hd hs hO ok h0 hT c0 f0
    go_enter Tryz.func23,Tryz.ntmps23
    go_wp2_with fail
    refine HK.out.mono ?_
    rintro e w1 ⟨rfl,rfl⟩
    go_wp2
    go_ret
    exact ⟨rfl,HS.out⟩
  · have HE:Hid (s.down = (s.fresh 0,0)):=Lib.hid (by unfold Dr.down; rw [if_neg h0])
    rw [HE.out]
    have HK:=Lib.hid (dkworks_v c0 (r:=0) (by rw [if_neg h0]))
    have HCO:=Lib.hid (hs.cOk ok)
    have HTE:=Lib.hid hs.te
    have HO:=Lib.hid hO
    have HT:=Lib.hid hT
    have HW1:=Lib.hid (HW0.out.setSt 0)
    have HDS:Hid (∀ c',c'.bx = bxNew c.bx.S.length ∧ c'.fifo = [] ∧ c'.room = c.room ∧ c'.acc = c.acc ∧ 0 ≤ c'.lost ∧ (0 ≤ c'.asks ∧ c'.asks < 16) → DkS (s.fresh 0) cg L { q with L := [] } c' e.flush):=Lib.hid (fun c' ⟨h1,h2,h3,h4,h5,h6⟩ => by
      have hl:=hs.te.lH
      have hl2:=hs.te.lF
      have ht:TabE e.flush c'.bx:=by rw [h1]; exact TabE.flush hl hl2
      refine ⟨hs.bo,hs.fi,hs.la,rfl,hs.nq,hs.nr, ?_,h2,h3.trans hs.nf,h4.trans (hs.ca.trans ok.va.2),fun h => absurd rfl h,h6,h5,ht, ?_,hs.nq,hs.nr,h3.trans hs.nf,fun _ => ⟨rfl,fun i => ?_⟩⟩
      · rw [h1,hs.nb]; rfl
      · rw [h1]; simp [bxNew,hs.nb]; rfl
      · rw [h1]; exact getD_rep _ _ _)
    obtain ⟨w1,e1⟩:∃ w1,w.setCell ⟨b,0,none⟩ (.int .i64 0) = w1:=⟨_,rfl⟩
    rw [e1] at HW1
    obtain ⟨Y,Oq,hq,hk⟩:=HW1.out.atQ
    have HQ:=Lib.hid (kqflush_v w1 hq)
    have HN:=Lib.hid (fun w' => hk { q with L := [] } w')
    clear hd hs hO ok h0 hT hq hk
    go_enter Tryz.func23,Tryz.ntmps23
    go_wp2_with fail
    refine HK.out.mono ?_
    rintro e w2 ⟨rfl,rfl⟩
    go_wp2_with fail
    refine HQ.out.mono ?_
    rintro e w2 ⟨rfl,hs⟩
    have HW2:=Lib.hid (HN.out _ hs)
    clear hs e1 c0 f0
    go_wp2_with fail
    refine (dkdrain_v HW2.out HCO.out HTE.out).mono ?_
    rintro e w3 ⟨rfl,c',hw3,hcc⟩
    have HW3:=Lib.hid hw3
    have HS3:=Lib.hid (HDS.out _ hcc)
    clear hw3 hcc
    go_wp2
    go_ret
    exact ⟨rfl,DkW.stp (s':=s.fresh 0) HW3.out HS3.out HO.out HT.out⟩
end Go.Proofs.YtimdkcchjanpaaaGreatDoor
namespace Go.Proofs.YtimdkcchjanpaaaGreatDoor
open Go.RowKit
set_option linter.unusedVariables false
def putC (w:World) (b:Nat) (v0 v1 v2 v3 v4 v5 v6 v7 v8 v9:Value):World:=(((((((((w.setCell ⟨b,14,none⟩ v0).setCell ⟨b,15,none⟩ v1).setCell ⟨b,16,none⟩ v2).setCell ⟨b,17,none⟩ v3).setCell ⟨b,18,none⟩ v4).setCell ⟨b,19,none⟩ v5).setCell ⟨b,20,none⟩ v6).setCell ⟨b,21,none⟩ v7).setCell ⟨b,22,none⟩ v8).setCell ⟨b,23,none⟩ v9
theorem putC_kept (w:World) (b:Nat) (v0 v1 v2 v3 v4 v5 v6 v7 v8 v9:Value):Kept (fun k => k = b) w (putC w b v0 v1 v2 v3 v4 v5 v6 v7 v8 v9):=by
  unfold putC
  have h:Kept (fun k => k = b) w w:=Kept.refl _ w
  replace h:=h.setCell (p:=⟨b,14,none⟩) (rfl:b = b) v0
  replace h:=h.setCell (p:=⟨b,15,none⟩) (rfl:b = b) v1
  replace h:=h.setCell (p:=⟨b,16,none⟩) (rfl:b = b) v2
  replace h:=h.setCell (p:=⟨b,17,none⟩) (rfl:b = b) v3
  replace h:=h.setCell (p:=⟨b,18,none⟩) (rfl:b = b) v4
  replace h:=h.setCell (p:=⟨b,19,none⟩) (rfl:b = b) v5
  replace h:=h.setCell (p:=⟨b,20,none⟩) (rfl:b = b) v6
  replace h:=h.setCell (p:=⟨b,21,none⟩) (rfl:b = b) v7
  replace h:=h.setCell (p:=⟨b,22,none⟩) (rfl:b = b) v8
  replace h:=h.setCell (p:=⟨b,23,none⟩) (rfl:b = b) v9
  exact h
theorem putC_box {TB:TypeId} {w:World} {b:Nat} {X Y C:List Value} (v0 v1 v2 v3 v4 v5 v6 v7 v8 v9:Value) (h:w.heap[b]? = some (.cells (X ++ (C ++ Y)).toArray TB (0,0))) (hX:X.length = 14) (hC:C.length = 10) :
    (putC w b v0 v1 v2 v3 v4 v5 v6 v7 v8 v9).heap[b]? = some (.cells (X ++ ([v0,v1,v2,v3,v4,v5,v6,v7,v8,v9] ++ Y)).toArray TB (0,0)):=by
  have hs:∀ (w:World) (Z:List Value) (j:Nat) (u:Value),w.heap[b]? = some (.cells (X ++ Z).toArray TB (0,0)) → (w.setCell ⟨b,14 + j,none⟩ u).heap[b]? = some (.cells (X ++ Z.set j u).toArray TB (0,0)):=fun w Z j u h => by
    rw [heap_setCell_same w b (14 + j) _ _ u h,setX hX]
  have a0:=hs _ _ 0 v0 h
  have a1:=hs _ _ 1 v1 a0
  have a2:=hs _ _ 2 v2 a1
  have a3:=hs _ _ 3 v3 a2
  have a4:=hs _ _ 4 v4 a3
  have a5:=hs _ _ 5 v5 a4
  have a6:=hs _ _ 6 v6 a5
  have a7:=hs _ _ 7 v7 a6
  have a8:=hs _ _ 8 v8 a7
  have a9:=hs _ _ 9 v9 a8
  have e:((((((((((C ++ Y).set 0 v0).set 1 v1).set 2 v2).set 3 v3).set 4 v4).set 5 v5).set 6 v6).set 7 v7).set 8 v8).set 9 v9 = [v0,v1,v2,v3,v4,v5,v6,v7,v8,v9] ++ Y:=by
    obtain ⟨c0,C,rfl⟩:=List.exists_cons_of_length_eq_add_one hC
    replace hC:C.length = 9:=by simpa using hC
    obtain ⟨c1,C,rfl⟩:=List.exists_cons_of_length_eq_add_one hC
    replace hC:C.length = 8:=by simpa using hC
    obtain ⟨c2,C,rfl⟩:=List.exists_cons_of_length_eq_add_one hC
    replace hC:C.length = 7:=by simpa using hC
    obtain ⟨c3,C,rfl⟩:=List.exists_cons_of_length_eq_add_one hC
    replace hC:C.length = 6:=by simpa using hC
    obtain ⟨c4,C,rfl⟩:=List.exists_cons_of_length_eq_add_one hC
    replace hC:C.length = 5:=by simpa using hC
    obtain ⟨c5,C,rfl⟩:=List.exists_cons_of_length_eq_add_one hC
    replace hC:C.length = 4:=by simpa using hC
    obtain ⟨c6,C,rfl⟩:=List.exists_cons_of_length_eq_add_one hC
    replace hC:C.length = 3:=by simpa using hC
    obtain ⟨c7,C,rfl⟩:=List.exists_cons_of_length_eq_add_one hC
    replace hC:C.length = 2:=by simpa using hC
    obtain ⟨c8,C,rfl⟩:=List.exists_cons_of_length_eq_add_one hC
    replace hC:C.length = 1:=by simpa using hC
    obtain ⟨c9,C,rfl⟩:=List.exists_cons_of_length_eq_add_one hC
    replace hC:C.length = 0:=by simpa using hC
    obtain rfl:C = []:=List.eq_nil_of_length_eq_zero hC
    rfl
  unfold putC
  rw [← e]
  exact a9
section
variable {W w w1:World} {O:Nat → Prop} {b:Nat} {st:Int} {cg:Cg} {sx:Sx} {L:List Flt} {q:Bq} {c:Ct} {e:Ec}
theorem DkW.row (h:DkW W O b st cg sx L q c e w):SlG flC 3 w w.heap.size cg.va L ∧ (∀ x ∈ L,x.fits) ∧ cg.n ≤ 50:=by
  obtain ⟨R,⟨Cq,Cc,Ce,h1⟩,_⟩:=h
  refine ⟨h1.k.sl flC_len ?_,h1.fit,h1.few⟩
  obtain ⟨A,k,hv⟩:=h1.k.shape
  have hn:=h1.few
  injection hv with _ h2 _
  unfold maxLen
  omega
theorem DkW.cells14 (h:DkW W O b st cg sx L q c e w):∀ j,j < 10 → ∃ v,w.cell? ⟨b,14 + j,none⟩ = some v:=fun j hj => by
  obtain ⟨R,⟨Cq,Cc,Ce,h1⟩,_⟩:=h
  rw [Lib.cell_of_heap h1.box,show Value.int .i64 st :: (Cq ++ (cgC cg ++ (Cc ++ (Ce ++ sxC sx)))) = (Value.int .i64 st :: (Cq ++ cgC cg)) ++ (Cc ++ (Ce ++ sxC sx)) by simp,getX (by simp [h1.lenQ,cgC])]
  rw [List.getElem?_append_left (by rw [h1.lenC]; exact hj)]
  exact ⟨_,List.getElem?_eq_getElem (by rw [h1.lenC]; exact hj)⟩
theorem DkW.newC {c':Ct} {R0:Nat → Prop} {v0 v1 v2 v3 v4 v5 v6 v7 v8 v9:Value} (h:DkW W O b st cg sx L q c e w) (hb:Below w.heap.size w w1) (hP:CkP [v0,v1,v2,v3,v4,v5,v6,v7,v8,v9] w1 c' R0) (hn:∀ k,R0 k → w.heap.size ≤ k):DkW W O b st cg sx L q c' e (putC w1 b v0 v1 v2 v3 v4 v5 v6 v7 v8 v9):=by
  obtain ⟨R,⟨Cq,Cc,Ce,h1⟩,h2,h3⟩:=h
  have h4:=h1.later hb
  have hk:=putC_kept w1 b v0 v1 v2 v3 v4 v5 v6 v7 v8 v9
  have hbx:=putC_box (TB:=dkT) (X:=Value.int .i64 st :: (Cq ++ cgC cg)) (Y:=Ce ++ sxC sx) (C:=Cc) v0 v1 v2 v3 v4 v5 v6 v7 v8 v9 (by
    rw [show (Value.int .i64 st :: (Cq ++ cgC cg)) ++ (Cc ++ (Ce ++ sxC sx)) = .int .i64 st :: (Cq ++ (cgC cg ++ (Cc ++ (Ce ++ sxC sx)))) by simp]
    exact h4.box) (by simp [h4.lenQ,cgC]) h4.lenC
  have hbn:¬ R0 b:=fun h => by have:=hn b h; have:=h1.pt.blk; omega
  have hR:∀ i k,R i k → (putC w1 b v0 v1 v2 v3 v4 v5 v6 v7 v8 v9).heap[k]? = w1.heap[k]?:=fun i k hk' => hk.block k (h4.pt.lt i k hk') (fun e => h4.pt.nb i (e ▸ hk'))
  have hg0:∀ k,R0 k → R 1 k ∨ w.heap.size ≤ k:=fun k h => .inr (hn k h)
  refine ⟨setR R 1 R0,⟨Cq,_,Ce, ?_,isPart_bd.stay h4.q (hR 0),isPart_ck.stay hP (fun k hk' => hk.block k (isPart_ck.lt hP k hk') (fun e => hbn (e ▸ hk'))),isPart_ek.stay h4.e (hR 2),h4.k.stay (fun k hk' => hR 3 k (by rw [h4.hk]; exact hk')) hk.size,h4.hk, ?_,h4.fit,h4.few⟩, ?_,h3.trans (ownR_set hg0) h2.size⟩
  · rw [show ∀ C',Value.int .i64 st :: (Cq ++ (cgC cg ++ (C' ++ (Ce ++ sxC sx)))) = (Value.int .i64 st :: (Cq ++ cgC cg)) ++ (C' ++ (Ce ++ sxC sx)) from fun C' => by simp]
    exact hbx
  · exact h1.pt.set (Nat.le_trans hb.size hk.size) (fun k h => Nat.lt_of_lt_of_le (isPart_ck.lt hP k h) hk.size) hbn hg0
  · exact h2.trans (O':=ownR b R) ⟨hk.os.trans hb.os,hk.tape.trans hb.tape,hk.output.trans hb.output,Nat.le_trans hb.size hk.size,fun k h5 h6 => (hk.block k (Nat.lt_of_lt_of_le h5 hb.size) (fun e => h6 (.inl e))).trans (hb.block k h5)⟩ h3
end
theorem dkrenew_v {W w:World} {O:Nat → Prop} {b:Nat} {st:Int} {cg:Cg} {sx:Sx} {L:List Flt} {q:Bq} {c:Ct} {e:Ec} (h:DkW W O b st cg sx L q c e w) :
    Calls Tryz.prog 35 #[.pointer (some ⟨b,6,none⟩)] w fun r w' => r = .returned (.tuple #[]) ∧ DkW W O b st cg sx L q (ctNew cg L) e w':=by
  have H:=Lib.hid h
  obtain ⟨h1,h2,h3⟩:=h.row
  have HC:=Lib.hid (kknew_v cg L w h1 h2 h3)
  obtain ⟨k0,k1,k2,k3,k4,k5,k6,k7⟩:=h.cells6
  have hbz:=h.blt
  clear h h1 h2 h3
  go_enter Tryz.func35,Tryz.ntmps35
  go_wp2_with fail
  refine HC.out.mono ?_
  rintro r w1 ⟨v,O1,rfl,hck,hb,hnew⟩
  have hck:=hck.d
  rw [ck_eq] at hck
  obtain ⟨b0,C0,R0,rfl,rfl,hbox,_,hP,hn0⟩:=hck
  obtain ⟨g,vt,ve,fa,M,Of,p,S,f,m,n,rfl,hR0,hr⟩:=id hP
  obtain ⟨A1,n1,hv1⟩:=hr.turn.shape
  obtain ⟨A2,n2,hv2⟩:=hr.fin.shape
  have hfa:fa = .nilFunc ∨ ∃ k1 c1,fa = .func (.func k1) #[] c1:=by
    rcases hr.ac with ⟨h,_⟩ | ⟨kb,u,_,h,_⟩
    · exact .inl h
    · exact .inr ⟨_,_,h⟩
  have H1:=Lib.hid (H.out.later hb)
  have HB:=Lib.hid hb
  have HNW:Hid (∀ k,R0 k → w.heap.size ≤ k):=Lib.hid (fun k h => hnew k (.inr h))
  have HP:=Lib.hid hP
  have hb0z:b0 < w1.heap.size:=heap_some_lt hbox
  subst hv1 hv2
  have n10:=Lib.cell_of_heap hbox 0
  have n11:=Lib.cell_of_heap hbox 1
  have n12:=Lib.cell_of_heap hbox 2
  have n13:=Lib.cell_of_heap hbox 3
  have n14:=Lib.cell_of_heap hbox 4
  have n15:=Lib.cell_of_heap hbox 5
  have n16:=Lib.cell_of_heap hbox 6
  have n17:=Lib.cell_of_heap hbox 7
  have n18:=Lib.cell_of_heap hbox 8
  have n19:=Lib.cell_of_heap hbox 9
  simp [ckY,rfC] at n10 n11 n12 n13 n14 n15 n16 n17 n18 n19
  have fl:=H1.out.live
  obtain ⟨u0,t0⟩:=H1.out.cells14 0 (by decide)
  obtain ⟨u1,t1⟩:=H1.out.cells14 1 (by decide)
  obtain ⟨u2,t2⟩:=H1.out.cells14 2 (by decide)
  obtain ⟨u3,t3⟩:=H1.out.cells14 3 (by decide)
  obtain ⟨u4,t4⟩:=H1.out.cells14 4 (by decide)
  obtain ⟨u5,t5⟩:=H1.out.cells14 5 (by decide)
  obtain ⟨u6,t6⟩:=H1.out.cells14 6 (by decide)
  obtain ⟨u7,t7⟩:=H1.out.cells14 7 (by decide)
  obtain ⟨u8,t8⟩:=H1.out.cells14 8 (by decide)
  obtain ⟨u9,t9⟩:=H1.out.cells14 9 (by decide)
  simp only [Nat.reduceAdd] at t0 t1 t2 t3 t4 t5 t6 t7 t8 t9
  clear hbox hP hn0 hnew hb hr hR0 HC k0 k1 k2 k3 k4 k5 k6 k7
  rcases hfa with rfl | ⟨fk,fc,rfl⟩
  · obtain ⟨w2,hfold⟩:∃ w2,((((((((((w1.setCell ⟨b,14,none⟩ (ckS g M)).setCell ⟨b,15,none⟩ (.slice A1 (ctNew cg L).bx.trn.length n1)).setCell ⟨b,16,none⟩ (.slice A2 (ctNew cg L).bx.fin.length n2)).setCell ⟨b,17,none⟩ (.nilFunc)).setCell ⟨b,18,none⟩ (.slice p S.length S.length)).setCell ⟨b,19,none⟩ (.int .i64 (f:Int))).setCell ⟨b,20,none⟩ (.int .i64 ((ctNew cg L).fifo.length:Int))).setCell ⟨b,21,none⟩ (.int .i64 (m:Int))).setCell ⟨b,22,none⟩ (.int .i64 (n:Int))).setCell ⟨b,23,none⟩ (.int .i64 (ctNew cg L).asks)) = w2:=⟨_,rfl⟩
    have HF:=Lib.hid hfold
    go_wp2
    go_end0
    refine ⟨rfl, ?_⟩
    rw [← HF.out]
    exact DkW.newC H.out HB.out HP.out HNW.out
  · obtain ⟨w2,hfold⟩:∃ w2,((((((((((w1.setCell ⟨b,14,none⟩ (ckS g M)).setCell ⟨b,15,none⟩ (.slice A1 (ctNew cg L).bx.trn.length n1)).setCell ⟨b,16,none⟩ (.slice A2 (ctNew cg L).bx.fin.length n2)).setCell ⟨b,17,none⟩ (.func (.func fk) #[] fc)).setCell ⟨b,18,none⟩ (.slice p S.length S.length)).setCell ⟨b,19,none⟩ (.int .i64 (f:Int))).setCell ⟨b,20,none⟩ (.int .i64 ((ctNew cg L).fifo.length:Int))).setCell ⟨b,21,none⟩ (.int .i64 (m:Int))).setCell ⟨b,22,none⟩ (.int .i64 (n:Int))).setCell ⟨b,23,none⟩ (.int .i64 (ctNew cg L).asks)) = w2:=⟨_,rfl⟩
    have HF:=Lib.hid hfold
    go_wp2
    go_end0
    refine ⟨rfl, ?_⟩
    rw [← HF.out]
    exact DkW.newC H.out HB.out HP.out HNW.out
end Go.Proofs.YtimdkcchjanpaaaGreatDoor
namespace Go.Proofs.YtimdkcchjanpaaaGreatDoor
open Go.RowKit
open Go.Maps (Keyed IsMap Tidy)
set_option linter.unusedVariables false
theorem DkS.up {s:Dr} {cg:Cg} {L:List Flt} {q:Bq} {c:Ct} {e:Ec} (h:DkS s cg L q c e) (h0:s.st = 0):DkS (s.fresh 1) cg L q (ctNew cg L) e:=by
  obtain ⟨h1,h2⟩:=h.dn h0
  have hn:(ctNew cg L).bx = bxNew (boxesN s.c.bo):=by unfold ctNew; rw [h.bo]
  have hl:c.bx.S.length = boxesN s.c.bo:=h.nb
  have te:TabE e (bxNew (boxesN s.c.bo)):=by
    refine ⟨h.te.lH.trans (by simp [bxNew,hl]),h.te.lF.trans (by simp [bxNew,hl]),fun i => ?_,fun i hi => (hi (getD_rep _ _ _)).elim,fun i _ => getD_rep _ _ _⟩
    rw [h.te.F i,h2 i]
    show decide ((0:Int) ≠ 0) = decide ((List.replicate _ (0:Int)).getD i 0 ≠ 0)
    rw [getD_rep]
  exact ⟨h.bo,h.fi,h.la,h1,h.nq,h.nr,hn,rfl,by show roomN cg.fi = roomN s.c.fi; rw [h.fi],h.la,fun _ => rfl,⟨by show (0:Int) ≤ 0; decide,by show (0:Int) < 16; decide⟩,by show (0:Int) ≤ 0; decide,by rw [hn]; exact te,by rw [hn]; simp [bxNew]; rfl,h.nq,h.nr,by show roomN cg.fi = roomN s.c.fi; rw [h.fi],fun h => by cases h⟩
theorem dkup_v {w:World} {v:Value} {s:Dr} {O:Nat → Prop} {B:Int} (h:DkD w v s O) (ok:s.Ok B) (hT:Tabs w):Calls Tryz.prog 9 #[v] w fun e w' => e = .returned (.int .i64 s.up.2) ∧ Stp DkD v O w s.up.1 w':=by
  obtain ⟨b,cg,L,q,c,e,R,rfl,rfl,hd,hs,hO⟩:=h
  have HW0:=Lib.hid hd.start
  have c0:=HW0.out.cell0
  have f0:=HW0.out.live 0
  by_cases h0:s.st ≠ 0
  · have HE:Hid (s.up = (s,2)):=Lib.hid (by unfold Dr.up; rw [if_pos h0])
    rw [HE.out]
    have HS:=Lib.hid (DkW.stp HW0.out hs hO hT)
    have HP:=Lib.hid (dkpass_f (fr:=0) (to:=1) c0 h0)
    clear hd hs hO ok h0 hT c0 f0
    go_enter Tryz.func9,Tryz.ntmps9
    go_wp2_with fail
    refine HP.out.mono ?_
    rintro e w1 ⟨rfl,rfl⟩
    go_wp2
    go_ret
    exact ⟨rfl,HS.out⟩
  · have h2:s.st = 0:=by omega
    have HE:Hid (s.up = (s.fresh 1,0)):=Lib.hid (by unfold Dr.up; rw [if_neg h0])
    rw [HE.out]
    have HS:=Lib.hid (hs.up h2)
    have HO:=Lib.hid hO
    have HT:=Lib.hid hT
    have HW1:=Lib.hid (HW0.out.setSt 1)
    rw [h2] at c0
    have HP:=Lib.hid (dkpass_t (to:=1) c0 f0)
    clear hd hs hO hT ok h0 c0 f0 h2
    go_enter Tryz.func9,Tryz.ntmps9
    go_wp2_with fail
    refine HP.out.mono ?_
    rintro e w1 ⟨rfl,hw⟩
    rw [← hw] at HW1
    clear hw
    go_wp2_with fail
    refine (dkrenew_v HW1.out).mono ?_
    rintro e w2 ⟨rfl,hw2⟩
    have HW2:=Lib.hid hw2
    clear hw2
    go_wp2
    go_ret
    exact ⟨rfl,DkW.stp (s':=s.fresh 1) HW2.out HS.out HO.out HT.out⟩
theorem nil_eqFl (n cp:Nat) (w:World):(binOp .eql 22 (.slice none n cp) (.slice none 0 0)).run Tryz.prog w = .ok (.bool true) w:=by kernel_rfl
theorem cloneAny_v {w:World} {A:Option Addr} {n cp:Nat} {L:List Flt} (h:SlG flC 3 w w.heap.size (.slice A n cp) L) (hn:n ≤ 50) :
    Calls Tryz.prog 30 #[.slice A n cp] w fun e w' => ∃ v,e = .returned v ∧ RowQ flC 3 w' v L ∧ (∀ k,OwnO v k → w.heap.size ≤ k) ∧ Below w.heap.size w w':=by
  cases A with
  | none =>
    have HL:Hid (L = []):=Lib.hid (by
      obtain ⟨A,cap,hv,_,hc⟩:=h
      cases L with
      | nil => rfl
      | cons x l =>
        obtain ⟨y,hy,_⟩:=hc 0 x rfl
        injection hv with hA _ _
        rw [← hA] at hy
        cases hy)
    have hq:=nil_eqFl
    clear h hn
    go_enter Tryz.func30,Tryz.ntmps30
    go_wp2
    go_ret
    exact ⟨_,rfl,by rw [HL.out]; exact RowQ.nil _,(fun k h => by cases h),Below.refl _ _⟩
  | some x => exact clonefl_v h hn
theorem kqnewN_v (bands room:Int) (w:World):Calls Tryz.prog 31 #[.int .i64 bands, .int .i64 room] w fun e w' => ∃ b gm,e = .returned (.pointer (some ⟨b,0,none⟩)) ∧ w'.heap[b]? = some (.cells (bdC gm (roomN bands) (roomN room) 0 false).toArray 69 (0,0)) ∧ MapH Tryz.prog 3 w' gm (.map []) ∧ (∃ x y,w'.heap[gm]? = some (.map x y)) ∧ w.heap.size ≤ gm ∧ Below w.heap.size w w':=by
  have hmm := @run_makeMap Tryz.prog
  go_enter Tryz.func31,Tryz.ntmps31
  go_wp2_with fail
  refine (kqwithin_v rfl _).mono ?_
  rintro e w1 ⟨rfl,rfl⟩
  go_wp2_with fail
  refine (kqwithin_v rfl _).mono ?_
  rintro e w1 ⟨rfl,rfl⟩
  go_wp2
  go_ret
  have m1:=MapH.made w Tryz.prog 3
  have hb1:Below w.heap.size w (w.alloc (.map #[] 0)):=(Below.refl _ w).alloc (Nat.le_refl _) _
  have hb2:=(Below.refl (w.alloc (.map #[] 0)).heap.size (w.alloc (.map #[] 0))).alloc (Nat.le_refl _) (.cells #[.map (some w.heap.size), .int .i64 (roomN bands), .int .i64 (roomN room), .int .i64 0, .bool false] 69)
  have n2:=heap_alloc_new (w.alloc (.map #[] 0)) (.cells #[.map (some w.heap.size), .int .i64 (roomN bands), .int .i64 (roomN room), .int .i64 0, .bool false] 69)
  have s1:(w.alloc (.map #[] 0)).heap.size = w.heap.size + 1:=by simp
  rw [s1] at n2
  have n1:(w.alloc (.map #[] 0)).heap[w.heap.size]? = some (.map #[] 0):=heap_alloc_new w _
  exact ⟨w.heap.size + 1,w.heap.size,rfl,n2,m1.stay (hb2.block _ (by omega)),⟨_,_,(hb2.block _ (by omega)).trans n1⟩,Nat.le_refl _,fbelow_t hb1 hb2⟩
end Go.Proofs.YtimdkcchjanpaaaGreatDoor
