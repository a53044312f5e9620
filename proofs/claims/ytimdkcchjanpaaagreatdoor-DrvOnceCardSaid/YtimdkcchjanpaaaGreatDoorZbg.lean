/- Drv: the chapter's example; walk of DrvNil, over what the walks ask of the code (XDrvN). Of no program: an argument that is a struct whose last field is a sl .. -/
import Derived.Test.YtimdkcchjanpaaaGreatDoorZaz
import Derived.Test.YtimdkcchjanpaaaGreatDoorZaq
import Derived.Test.YtimdkcchjanpaaaGreatDoorZaa
set_option maxHeartbeats 8000000
namespace Go.Proofs.YtimdkcchjanpaaaGreatDoor
open Go.RowKit
set_option linter.unusedVariables false
theorem push_full {s:Dr} {k:Nat} (h:(psh (s.ct.bx, { s.q with st:=false }) k).1.free (psh (s.ct.bx, { s.q with st:=false }) k).1.S.length = 0) (hk:k ≤ pshN):s.push = s.pushTo (psh (s.ct.bx, { s.q with st:=false }) k):=by
  unfold Dr.push Dr.pshd
  rw [psh_full h hk]
def cE:Cg:=⟨1,0,1,4,0,0,0,none,0,0⟩
def pE (i t:Int):Pk:=⟨⟨i,0,0,ByteArray.mk #[]⟩,0,t,false⟩
def dE0:Dr:=drNew cE []
def dE1:Dr:=dE0.fresh 1
def dE1q:Dr := { dE1 with q:=(dE1.q.put 0 (pE 1 1)).1 }
def dE2:Dr:=dE1q.pushTo (psh (dE1q.ct.bx, { dE1q.q with st:=false }) 1)
def dE2q:Dr := { dE2 with q:=(dE2.q.put 0 (pE 2 2)).1 }
def dE3:Dr:=dE2q.pushTo (psh (dE2q.ct.bx, { dE2q.q with st:=false }) 0)
def dE4:Dr:=dE3.won.1
def dE4t:Dr := { dE4 with ct:=dE4.ct.told,sx:=dE4.sx.tx (pE 1 1) true }
def dE5:Dr:=dE4t.pushTo (psh (dE4t.ct.bx, { dE4t.q with st:=false }) 1)
theorem pshN_1:1 ≤ pshN:=by decide
theorem eE1:dE0.up = (dE1,0):=by
  unfold Dr.up
  rw [if_neg (by decide +kernel)]
  rfl
theorem eE2:dE1.send 0 (pE 1 1) = (dE2,0):=by
  unfold Dr.send
  rw [if_neg (by decide +kernel),if_neg (by decide +kernel),if_pos (by decide +kernel)]
  have:=push_full (s:=dE1q) (k:=1) (by decide +kernel) pshN_1
  show (dE1q.push,(0:Int)) = _
  rw [this]
  rfl
theorem eE3:dE2.send 0 (pE 2 2) = (dE3,0):=by
  unfold Dr.send
  rw [if_neg (by decide +kernel),if_neg (by decide +kernel),if_pos (by decide +kernel)]
  have:=push_full (s:=dE2q) (k:=0) (by decide +kernel) (Nat.zero_le _)
  show (dE2q.push,(0:Int)) = _
  rw [this]
  rfl
theorem eE4:dE3.q.all.length = 1 ∧ dE3.won.2 = true:=by decide +kernel
theorem eE5:dE4.tx = (dE5,pE 1 1,true,0):=by
  have h1:dE4.ct.bx.fin = [0]:=by decide +kernel
  have h2:dE4.ct.bx.take.2.2.2 = true:=by decide +kernel
  have h3:dE4.ct.bx.take.2.2.1 = pE 1 1:=rfl
  unfold Dr.tx
  rw [if_neg (by decide +kernel),h1]
  simp only
  rw [h2,h3]
  have:=push_full (s:=dE4t) (k:=1) (by decide +kernel) pshN_1
  show (dE4t.push,_) = _
  rw [this]
  rfl
theorem eE6:dE5.q.all.length = 0 ∧ dE5.ct.bx.S = [1]:=by decide +kernel
theorem okE0:dE0.Ok 0:=Dr.Ok.new cE []
theorem okE1:dE1.Ok 0:=okE0.fresh (by decide) (Int.le_refl _)
theorem okE2:dE2.Ok 0:=by have:=okE1.send 0 (pE 1 1); rw [eE2] at this; exact this
theorem okE3:dE3.Ok 0:=by have:=okE2.send 0 (pE 2 2); rw [eE3] at this; exact this
theorem okE4:dE4.Ok 0:=okE3.won
theorem okE5:dE5.Ok 64:=by have:=okE4.tx; rw [eE5] at this; exact this
theorem pE_ok (i t:Int):(pE i t).ok:=⟨by show (-9223372036854775808:Int) ≤ 0; decide,by show (0:Int) ≤ 9223372036854775807; decide⟩
theorem accD_nil (w:World) (s:Dr) (O:Nat → Prop) (h1:s.c = cE) (h2:s.la = []):AccD w s O:=by
  refine ⟨?_, ?_, ?_⟩
  · rw [h1,h2]; exact SlA.nil _ _ _ _
  · rw [h2]; nofun
  · rw [h1]; decide
theorem pack17_v (i t:Int) (w:World):Calls Tryz.prog 28 #[.int .i64 i, .int .i64 t] w fun e w' => e = .returned (pkV (pE i t)) ∧ Below w.heap.size w w':=by
  go_enter Tryz.func28,Tryz.ntmps28
  go_wp2
  refine bodyPost_ret (v:=pkV (pE i t)) ?_ rfl ⟨rfl,(Below.refl _ w).alloc (Nat.le_refl _) _⟩
  simp [results,Tryz.results28,go_sem,pE]
theorem drvalive {T:World → Prop} {I:World → Value → Dr → (Nat → Prop) → Prop} (A:DrvI T I) (w:World) (hT:T w) :
    Calls Tryz.prog 7 #[] w fun e w' => e = .returned (.bool true) ∧ Below w.heap.size w w':=by
  have HA:=Lib.hid A
  have HT:=Lib.hid hT
  clear hT A
  go_enter Tryz.func7,Tryz.ntmps7
  go_wp2_with fail
  refine (HA.out.new cE [] _ HT.out (SlG.nil _ _ _ _) nofun (by decide)).mono ?_
  rintro e w0 ⟨v,O0,rfl,hi,hb,hn⟩
  obtain ⟨a,rfl⟩:=HA.out.ptr hi
  have H1:Hid (Has I w (.pointer (some a)) dE0 O0 w0):=Lib.hid ⟨hi,hb,hn⟩
  clear hi hb hn
  go_wp2_with fail
  refine (HA.out.up H1.out.inv okE0 (HA.out.tab HT.out H1.out.below) (accD_nil _ _ _ rfl rfl)).mono ?_
  rintro e w1 ⟨he,O1,hi,hk,hg⟩
  rw [eE1] at he hi
  subst he
  have H2:Hid (Has I w (.pointer (some a)) dE1 O1 w1):=Lib.hid (H1.out.step HA.out.obj hi hk hg)
  clear hi hk hg
  go_wp2_with fail
  refine (pack17_v 1 1 _).mono ?_
  rintro e w2 ⟨rfl,hb⟩
  have H3:=Lib.hid (H2.out.later HA.out.obj hb)
  clear hb
  go_wp2_with fail
  refine (HA.out.send 0 (pE 1 1) H3.out.inv okE1 (HA.out.tab HT.out H3.out.below) (pE_ok _ _)).mono ?_
  rintro e w3 ⟨he,O3,hi,hk,hg⟩
  rw [eE2] at he hi
  subst he
  have H4:Hid (Has I w (.pointer (some a)) dE2 O3 w3):=Lib.hid (H3.out.step HA.out.obj hi hk hg)
  clear hi hk hg
  go_wp2_with fail
  refine (pack17_v 2 2 _).mono ?_
  rintro e w4 ⟨rfl,hb⟩
  have H5:=Lib.hid (H4.out.later HA.out.obj hb)
  clear hb
  go_wp2_with fail
  refine (HA.out.send 0 (pE 2 2) H5.out.inv okE2 (HA.out.tab HT.out H5.out.below) (pE_ok _ _)).mono ?_
  rintro e w5 ⟨he,O5,hi,hk,hg⟩
  rw [eE3] at he hi
  subst he
  have H6:Hid (Has I w (.pointer (some a)) dE3 O5 w5):=Lib.hid (H5.out.step HA.out.obj hi hk hg)
  clear hi hk hg
  go_wp2_with fail
  refine (HA.out.queued H6.out.inv okE3).mono ?_
  rintro e w6 ⟨u,rfl,⟨⟨A6,c6,rfl,_⟩,_⟩,hb⟩
  rw [eE4.1]
  have H7:=Lib.hid (H6.out.later HA.out.obj hb)
  clear hb
  go_wp2_with fail
  refine (HA.out.won H7.out.inv okE3 (HA.out.tab HT.out H7.out.below)).mono ?_
  rintro e w7 ⟨he,O7,hi,hk,hg⟩
  rw [eE4.2] at he
  subst he
  have H8:Hid (Has I w (.pointer (some a)) dE4 O7 w7):=Lib.hid (H7.out.step HA.out.obj hi hk hg)
  clear hi hk hg
  go_wp2_with fail
  refine (HA.out.tx H8.out.inv okE4 (by decide) (HA.out.tab HT.out H8.out.below)).mono ?_
  rintro e w8 ⟨he,O8,hi,hk,hg⟩
  rw [eE5] at he hi
  subst he
  have hb9:=(Below.refl w8.heap.size w8).alloc (Nat.le_refl _) (.cells #[.int .i64 1, .int .i64 0, .int .i64 0, .string (ByteArray.mk #[]), .int .i64 0, .int .i64 1, .bool false, .bool true] 42)
  have H9:Hid (Has I w (.pointer (some a)) dE5 O8 (w8.alloc (.cells #[.int .i64 1, .int .i64 0, .int .i64 0, .string (ByteArray.mk #[]), .int .i64 0, .int .i64 1, .bool false, .bool true] 42))):=Lib.hid ((H8.out.step HA.out.obj hi hk hg).later HA.out.obj hb9)
  have HE:Hid ((w8.alloc (.cells #[.int .i64 1, .int .i64 0, .int .i64 0, .string (ByteArray.mk #[]), .int .i64 0, .int .i64 1, .bool false, .bool true] 42)).heap[w8.heap.size]? = some (.cells #[.int .i64 1, .int .i64 0, .int .i64 0, .string (ByteArray.mk #[]), .int .i64 0, .int .i64 1, .bool false, .bool true] 42 (0,0))):=Lib.hid (heap_alloc_new _ _)
  clear hi hk hg hb9
  simp only [ehV,pE]
  go_wp2_with fail
  refine (HA.out.queued H9.out.inv okE5).mono ?_
  rintro e w9 ⟨u,rfl,⟨⟨A9,c9,rfl,_⟩,_⟩,hb⟩
  rw [eE6.1]
  have H10:=Lib.hid (H9.out.later HA.out.obj hb)
  have HE2:=Lib.hid ((hb.block _ (heap_some_lt HE.out)).trans HE.out)
  clear hb
  go_wp2_with fail
  refine (HA.out.boxes H10.out.inv okE5).mono ?_
  rintro e w10 ⟨u,rfl,⟨h1,_⟩,hb⟩
  have hs:SlG inC 1 w10 w10.heap.size u [1]:=by have:=h1.sl; rw [eE6.2] at this; exact this
  have hb2:=(Below.refl w10.heap.size w10).alloc (Nat.le_refl _) (.cells #[.int .i64 1] 3)
  have HS:=Lib.hid (hs.later hb2)
  obtain ⟨A10,c10,hu,_⟩:=hs
  subst hu
  have H11:=Lib.hid ((H10.out.later HA.out.obj hb).later HA.out.obj hb2)
  have HR:Hid (SlG intC 1 (w10.alloc (.cells #[.int .i64 1] 3)) (w10.alloc (.cells #[.int .i64 1] 3)).heap.size (.slice (some ⟨w10.heap.size,0,none⟩) 1 1) [1]):=Lib.hid (by
    refine ⟨_,1,rfl,by unfold maxLen; simp,fun i a ha => ?_⟩
    match i,ha with
    | 0,ha =>
      simp at ha
      subst ha
      refine ⟨_,rfl,by simp,fun j u hu => ?_⟩
      match j,hu with
      | 0,hu =>
        simp [intC] at hu
        subst hu
        rw [qaddr,World.cell?_alloc_at _ _ _ _ rfl]
        rfl)
  clear h1 hb hb2
  go_wp2_with fail
  refine (sints_v (L := [1]) (L' := [1]) (q:=true) (by decide) _ HS.out HR.out).mono ?_
  rintro e w12 ⟨rfl,mm,rfl⟩
  go_wp2
  go_ret
  exact ⟨rfl,below_drewN H11.out.below _⟩
theorem drvNil_walk {T:World → Prop} {I:World → Value → Dr → (Nat → Prop) → Prop} (A:DrvI T I) (N:DrvNo) (n:Int) (p:Pk) (w:World) (hT:T w) :
    Calls Tryz.prog 5 #[.int .i64 n,pkV p] w fun e w' => e = .returned (.bool true) ∧ Below w.heap.size w w':=by
  have HA:=Lib.hid A
  have HN:=Lib.hid N
  have HT:=Lib.hid hT
  have HB0:=Lib.hid ((Below.refl w.heap.size w).alloc (Nat.le_refl _) (.cells #[.int .i64 p.f.i, .int .i64 p.f.n, .int .i64 p.f.l, .string p.f.d, .int .i64 p.fr, .int .i64 p.tag, .bool p.lp] 37))
  have HP0:=Lib.hid (BoxP.made w p)
  clear hT A N
  go_enter Tryz.func5,Tryz.ntmps5
  go_wp2_with fail
  refine (HN.out.off _).mono ?_
  rintro e w1 ⟨rfl,hb⟩
  have HB1:=Lib.hid (fbelow_t HB0.out hb)
  have HP1:=Lib.hid (HP0.out.later hb)
  clear hb
  go_wp2_with fail
  refine (HN.out.back _).mono ?_
  rintro e w2 ⟨rfl,hb⟩
  have HB2:=Lib.hid (fbelow_t HB1.out hb)
  have HP2:=Lib.hid (HP1.out.later hb)
  clear hb
  go_wp2_with fail
  refine (HN.out.tx _).mono ?_
  rintro e w3 ⟨rfl,hb⟩
  have hb3:=fbelow_t hb ((Below.refl w3.heap.size w3).alloc (Nat.le_refl _) (.cells #[.int .i64 0, .int .i64 0, .int .i64 0, .string (ByteArray.mk #[]), .int .i64 0, .int .i64 0, .bool false, .bool false] 42))
  have HB3:=Lib.hid (fbelow_t HB2.out hb3)
  have HP3:=Lib.hid (HP2.out.later hb3)
  have HE3:Hid ((w3.alloc (.cells #[.int .i64 0, .int .i64 0, .int .i64 0, .string (ByteArray.mk #[]), .int .i64 0, .int .i64 0, .bool false, .bool false] 42)).heap[w3.heap.size]? = some (.cells #[.int .i64 0, .int .i64 0, .int .i64 0, .string (ByteArray.mk #[]), .int .i64 0, .int .i64 0, .bool false, .bool false] 42 (0,0))):=Lib.hid (heap_alloc_new _ _)
  clear hb hb3
  simp only [ehV,pk0]
  go_wp2_with fail
  refine (HN.out.rx _).mono ?_
  rintro e w4 ⟨rfl,hb⟩
  have hbx:=(Below.refl w4.heap.size w4).alloc (Nat.le_refl _) (.cells #[.int .i64 0, .int .i64 0, .int .i64 0, .string (ByteArray.mk #[])] 35)
  have hb4:=fbelow_t hb hbx
  have HB4:=Lib.hid (fbelow_t HB3.out hb4)
  have HP4:=Lib.hid (HP3.out.later hb4)
  have HE4:=Lib.hid ((hb4.block _ (heap_some_lt HE3.out)).trans HE3.out)
  have HF4:=Lib.hid (BoxF.made w4 0 0 0 (ByteArray.mk #[]))
  clear hb hb4 hbx
  simp only [fmV,frz]
  go_wp2_with fail
  refine (HN.out.offer _).mono ?_
  rintro e w5 ⟨rfl,hb⟩
  have hbx:=(Below.refl w5.heap.size w5).alloc (Nat.le_refl _) (.cells #[.int .i64 0, .int .i64 0, .int .i64 0, .string (ByteArray.mk #[])] 35)
  have hb5:=fbelow_t hb hbx
  have HB5:=Lib.hid (fbelow_t HB4.out hb5)
  have HP5:=Lib.hid (HP4.out.later hb5)
  have HE5:=Lib.hid ((hb5.block _ (heap_some_lt HE4.out)).trans HE4.out)
  have HF5:=Lib.hid (HF4.out.later hb5)
  have HG5:=Lib.hid (BoxF.made w5 0 0 0 (ByteArray.mk #[]))
  clear hb hb5 hbx
  simp only [fmV,frz]
  obtain ⟨d0,d1,d2,d3,d4,d5,d6⟩:=HP5.out.cells
  obtain ⟨x0,x1,x2,x3⟩:=HF5.out.cells
  obtain ⟨y0,y1,y2,y3⟩:=HG5.out.cells
  have ee:=fun j => Lib.cell_of_heap HE5.out j
  have e0:=ee 0
  have e1:=ee 1
  have e2:=ee 2
  have e3:=ee 3
  have e4:=ee 4
  have e5:=ee 5
  have e6:=ee 6
  have e7:=ee 7
  simp at e0 e1 e2 e3 e4 e5 e6 e7
  have z1:=HP5.out.lt
  have z2:=HF5.out.lt
  have z3:=HG5.out.lt
  have z4:=heap_some_lt HE5.out
  clear ee
  go_wp2_with fail
  refine (HN.out.state _).mono ?_
  rintro e w6 ⟨rfl,hb⟩
  have HB6:=Lib.hid (fbelow_t HB5.out hb)
  have HP6:=Lib.hid (HP5.out.later hb)
  have HE6:=Lib.hid ((hb.block _ (heap_some_lt HE5.out)).trans HE5.out)
  have HF6:=Lib.hid (HF5.out.later hb)
  have HG6:=Lib.hid (HG5.out.later hb)
  clear hb
  clear d0 d1 d2 d3 d4 d5 d6 x0 x1 x2 x3 y0 y1 y2 y3 e0 e1 e2 e3 e4 e5 e6 e7 z1 z2 z3 z4
  obtain ⟨d0,d1,d2,d3,d4,d5,d6⟩:=HP6.out.cells
  obtain ⟨x0,x1,x2,x3⟩:=HF6.out.cells
  obtain ⟨y0,y1,y2,y3⟩:=HG6.out.cells
  have ee:=fun j => Lib.cell_of_heap HE6.out j
  have e0:=ee 0
  have e1:=ee 1
  have e2:=ee 2
  have e3:=ee 3
  have e4:=ee 4
  have e5:=ee 5
  have e6:=ee 6
  have e7:=ee 7
  simp at e0 e1 e2 e3 e4 e5 e6 e7
  have z1:=HP6.out.lt
  have z2:=HF6.out.lt
  have z3:=HG6.out.lt
  have z4:=heap_some_lt HE6.out
  clear ee
  go_wp2_with fail
  refine (HN.out.up _).mono ?_
  rintro e w7 ⟨rfl,hb⟩
  have HB7:=Lib.hid (fbelow_t HB6.out hb)
  have HP7:=Lib.hid (HP6.out.later hb)
  have HE7:=Lib.hid ((hb.block _ (heap_some_lt HE6.out)).trans HE6.out)
  have HF7:=Lib.hid (HF6.out.later hb)
  have HG7:=Lib.hid (HG6.out.later hb)
  clear hb
  clear d0 d1 d2 d3 d4 d5 d6 x0 x1 x2 x3 y0 y1 y2 y3 e0 e1 e2 e3 e4 e5 e6 e7 z1 z2 z3 z4
  obtain ⟨d0,d1,d2,d3,d4,d5,d6⟩:=HP7.out.cells
  obtain ⟨x0,x1,x2,x3⟩:=HF7.out.cells
  obtain ⟨y0,y1,y2,y3⟩:=HG7.out.cells
  have ee:=fun j => Lib.cell_of_heap HE7.out j
  have e0:=ee 0
  have e1:=ee 1
  have e2:=ee 2
  have e3:=ee 3
  have e4:=ee 4
  have e5:=ee 5
  have e6:=ee 6
  have e7:=ee 7
  simp at e0 e1 e2 e3 e4 e5 e6 e7
  have z1:=HP7.out.lt
  have z2:=HF7.out.lt
  have z3:=HG7.out.lt
  have z4:=heap_some_lt HE7.out
  clear ee
  go_wp2_with fail
  refine (HN.out.down _).mono ?_
  rintro e w8 ⟨rfl,hb⟩
  have HB8:=Lib.hid (fbelow_t HB7.out hb)
  have HP8:=Lib.hid (HP7.out.later hb)
  have HE8:=Lib.hid ((hb.block _ (heap_some_lt HE7.out)).trans HE7.out)
  have HF8:=Lib.hid (HF7.out.later hb)
  have HG8:=Lib.hid (HG7.out.later hb)
  clear hb
  clear d0 d1 d2 d3 d4 d5 d6 x0 x1 x2 x3 y0 y1 y2 y3 e0 e1 e2 e3 e4 e5 e6 e7 z1 z2 z3 z4
  obtain ⟨d0,d1,d2,d3,d4,d5,d6⟩:=HP8.out.cells
  obtain ⟨x0,x1,x2,x3⟩:=HF8.out.cells
  obtain ⟨y0,y1,y2,y3⟩:=HG8.out.cells
  have ee:=fun j => Lib.cell_of_heap HE8.out j
  have e0:=ee 0
  have e1:=ee 1
  have e2:=ee 2
  have e3:=ee 3
  have e4:=ee 4
  have e5:=ee 5
  have e6:=ee 6
  have e7:=ee 7
  simp at e0 e1 e2 e3 e4 e5 e6 e7
  have z1:=HP8.out.lt
  have z2:=HF8.out.lt
  have z3:=HG8.out.lt
  have z4:=heap_some_lt HE8.out
  clear ee
  go_wp2_with fail
  refine (HN.out.send n p _).mono ?_
  rintro e w9 ⟨rfl,hb⟩
  have HB9:=Lib.hid (fbelow_t HB8.out hb)
  have HP9:=Lib.hid (HP8.out.later hb)
  have HE9:=Lib.hid ((hb.block _ (heap_some_lt HE8.out)).trans HE8.out)
  have HF9:=Lib.hid (HF8.out.later hb)
  have HG9:=Lib.hid (HG8.out.later hb)
  clear hb
  clear d0 d1 d2 d3 d4 d5 d6 x0 x1 x2 x3 y0 y1 y2 y3 e0 e1 e2 e3 e4 e5 e6 e7 z1 z2 z3 z4
  obtain ⟨d0,d1,d2,d3,d4,d5,d6⟩:=HP9.out.cells
  obtain ⟨x0,x1,x2,x3⟩:=HF9.out.cells
  obtain ⟨y0,y1,y2,y3⟩:=HG9.out.cells
  have ee:=fun j => Lib.cell_of_heap HE9.out j
  have e0:=ee 0
  have e1:=ee 1
  have e2:=ee 2
  have e3:=ee 3
  have e4:=ee 4
  have e5:=ee 5
  have e6:=ee 6
  have e7:=ee 7
  simp at e0 e1 e2 e3 e4 e5 e6 e7
  have z1:=HP9.out.lt
  have z2:=HF9.out.lt
  have z3:=HG9.out.lt
  have z4:=heap_some_lt HE9.out
  clear ee
  go_wp2_with fail
  refine (HN.out.fix _).mono ?_
  rintro e w10 ⟨rfl,hb⟩
  have HB10:=Lib.hid (fbelow_t HB9.out hb)
  have HP10:=Lib.hid (HP9.out.later hb)
  have HE10:=Lib.hid ((hb.block _ (heap_some_lt HE9.out)).trans HE9.out)
  have HF10:=Lib.hid (HF9.out.later hb)
  have HG10:=Lib.hid (HG9.out.later hb)
  clear hb
  clear d0 d1 d2 d3 d4 d5 d6 x0 x1 x2 x3 y0 y1 y2 y3 e0 e1 e2 e3 e4 e5 e6 e7 z1 z2 z3 z4
  obtain ⟨d0,d1,d2,d3,d4,d5,d6⟩:=HP10.out.cells
  obtain ⟨x0,x1,x2,x3⟩:=HF10.out.cells
  obtain ⟨y0,y1,y2,y3⟩:=HG10.out.cells
  have ee:=fun j => Lib.cell_of_heap HE10.out j
  have e0:=ee 0
  have e1:=ee 1
  have e2:=ee 2
  have e3:=ee 3
  have e4:=ee 4
  have e5:=ee 5
  have e6:=ee 6
  have e7:=ee 7
  simp at e0 e1 e2 e3 e4 e5 e6 e7
  have z1:=HP10.out.lt
  have z2:=HF10.out.lt
  have z3:=HG10.out.lt
  have z4:=heap_some_lt HE10.out
  clear ee
  go_wp2_with fail
  refine (HN.out.won _).mono ?_
  rintro e w11 ⟨rfl,hb⟩
  have HB11:=Lib.hid (fbelow_t HB10.out hb)
  have HP11:=Lib.hid (HP10.out.later hb)
  have HE11:=Lib.hid ((hb.block _ (heap_some_lt HE10.out)).trans HE10.out)
  have HF11:=Lib.hid (HF10.out.later hb)
  have HG11:=Lib.hid (HG10.out.later hb)
  clear hb
  clear d0 d1 d2 d3 d4 d5 d6 x0 x1 x2 x3 y0 y1 y2 y3 e0 e1 e2 e3 e4 e5 e6 e7 z1 z2 z3 z4
  obtain ⟨d0,d1,d2,d3,d4,d5,d6⟩:=HP11.out.cells
  obtain ⟨x0,x1,x2,x3⟩:=HF11.out.cells
  obtain ⟨y0,y1,y2,y3⟩:=HG11.out.cells
  have ee:=fun j => Lib.cell_of_heap HE11.out j
  have e0:=ee 0
  have e1:=ee 1
  have e2:=ee 2
  have e3:=ee 3
  have e4:=ee 4
  have e5:=ee 5
  have e6:=ee 6
  have e7:=ee 7
  simp at e0 e1 e2 e3 e4 e5 e6 e7
  have z1:=HP11.out.lt
  have z2:=HF11.out.lt
  have z3:=HG11.out.lt
  have z4:=heap_some_lt HE11.out
  clear ee
  go_wp2_with fail
  refine (HN.out.hear p.f _).mono ?_
  rintro e w12 ⟨rfl,hb⟩
  have HB12:=Lib.hid (fbelow_t HB11.out hb)
  have HP12:=Lib.hid (HP11.out.later hb)
  have HE12:=Lib.hid ((hb.block _ (heap_some_lt HE11.out)).trans HE11.out)
  have HF12:=Lib.hid (HF11.out.later hb)
  have HG12:=Lib.hid (HG11.out.later hb)
  clear hb
  clear d0 d1 d2 d3 d4 d5 d6 x0 x1 x2 x3 y0 y1 y2 y3 e0 e1 e2 e3 e4 e5 e6 e7 z1 z2 z3 z4
  obtain ⟨d0,d1,d2,d3,d4,d5,d6⟩:=HP12.out.cells
  obtain ⟨x0,x1,x2,x3⟩:=HF12.out.cells
  obtain ⟨y0,y1,y2,y3⟩:=HG12.out.cells
  have ee:=fun j => Lib.cell_of_heap HE12.out j
  have e0:=ee 0
  have e1:=ee 1
  have e2:=ee 2
  have e3:=ee 3
  have e4:=ee 4
  have e5:=ee 5
  have e6:=ee 6
  have e7:=ee 7
  simp at e0 e1 e2 e3 e4 e5 e6 e7
  have z1:=HP12.out.lt
  have z2:=HF12.out.lt
  have z3:=HG12.out.lt
  have z4:=heap_some_lt HE12.out
  clear ee
  go_wp2_with fail
  refine (HN.out.stats _).mono ?_
  rintro e w13 ⟨rfl,hb⟩
  have HB13:=Lib.hid (fbelow_t HB12.out hb)
  have HP13:=Lib.hid (HP12.out.later hb)
  have HE13:=Lib.hid ((hb.block _ (heap_some_lt HE12.out)).trans HE12.out)
  have HF13:=Lib.hid (HF12.out.later hb)
  have HG13:=Lib.hid (HG12.out.later hb)
  clear hb
  clear d0 d1 d2 d3 d4 d5 d6 x0 x1 x2 x3 y0 y1 y2 y3 e0 e1 e2 e3 e4 e5 e6 e7 z1 z2 z3 z4
  obtain ⟨d0,d1,d2,d3,d4,d5,d6⟩:=HP13.out.cells
  obtain ⟨x0,x1,x2,x3⟩:=HF13.out.cells
  obtain ⟨y0,y1,y2,y3⟩:=HG13.out.cells
  have ee:=fun j => Lib.cell_of_heap HE13.out j
  have e0:=ee 0
  have e1:=ee 1
  have e2:=ee 2
  have e3:=ee 3
  have e4:=ee 4
  have e5:=ee 5
  have e6:=ee 6
  have e7:=ee 7
  simp at e0 e1 e2 e3 e4 e5 e6 e7
  have z1:=HP13.out.lt
  have z2:=HF13.out.lt
  have z3:=HG13.out.lt
  have z4:=heap_some_lt HE13.out
  clear ee
  go_wp2_with fail
  refine (HN.out.queued _).mono ?_
  rintro e w14 ⟨⟨A1,c1,rfl⟩,hb⟩
  have HB14:=Lib.hid (fbelow_t HB13.out hb)
  have HP14:=Lib.hid (HP13.out.later hb)
  have HE14:=Lib.hid ((hb.block _ (heap_some_lt HE13.out)).trans HE13.out)
  have HF14:=Lib.hid (HF13.out.later hb)
  have HG14:=Lib.hid (HG13.out.later hb)
  clear hb
  clear d0 d1 d2 d3 d4 d5 d6 x0 x1 x2 x3 y0 y1 y2 y3 e0 e1 e2 e3 e4 e5 e6 e7 z1 z2 z3 z4
  obtain ⟨d0,d1,d2,d3,d4,d5,d6⟩:=HP14.out.cells
  obtain ⟨x0,x1,x2,x3⟩:=HF14.out.cells
  obtain ⟨y0,y1,y2,y3⟩:=HG14.out.cells
  have ee:=fun j => Lib.cell_of_heap HE14.out j
  have e0:=ee 0
  have e1:=ee 1
  have e2:=ee 2
  have e3:=ee 3
  have e4:=ee 4
  have e5:=ee 5
  have e6:=ee 6
  have e7:=ee 7
  simp at e0 e1 e2 e3 e4 e5 e6 e7
  have z1:=HP14.out.lt
  have z2:=HF14.out.lt
  have z3:=HG14.out.lt
  have z4:=heap_some_lt HE14.out
  clear ee
  go_wp2_with fail
  refine (HN.out.boxes _).mono ?_
  rintro e w15 ⟨⟨A2,c2,rfl⟩,hb⟩
  have HB15:=Lib.hid (fbelow_t HB14.out hb)
  have HP15:=Lib.hid (HP14.out.later hb)
  have HE15:=Lib.hid ((hb.block _ (heap_some_lt HE14.out)).trans HE14.out)
  have HF15:=Lib.hid (HF14.out.later hb)
  have HG15:=Lib.hid (HG14.out.later hb)
  clear hb
  clear d0 d1 d2 d3 d4 d5 d6 x0 x1 x2 x3 y0 y1 y2 y3 e0 e1 e2 e3 e4 e5 e6 e7 z1 z2 z3 z4
  obtain ⟨d0,d1,d2,d3,d4,d5,d6⟩:=HP15.out.cells
  obtain ⟨x0,x1,x2,x3⟩:=HF15.out.cells
  obtain ⟨y0,y1,y2,y3⟩:=HG15.out.cells
  have ee:=fun j => Lib.cell_of_heap HE15.out j
  have e0:=ee 0
  have e1:=ee 1
  have e2:=ee 2
  have e3:=ee 3
  have e4:=ee 4
  have e5:=ee 5
  have e6:=ee 6
  have e7:=ee 7
  simp at e0 e1 e2 e3 e4 e5 e6 e7
  have z1:=HP15.out.lt
  have z2:=HF15.out.lt
  have z3:=HG15.out.lt
  have z4:=heap_some_lt HE15.out
  clear ee
  go_wp2_with fail
  refine (HN.out.lost _).mono ?_
  rintro e w16 ⟨rfl,hb⟩
  have HB16:=Lib.hid (fbelow_t HB15.out hb)
  have HP16:=Lib.hid (HP15.out.later hb)
  have HE16:=Lib.hid ((hb.block _ (heap_some_lt HE15.out)).trans HE15.out)
  have HF16:=Lib.hid (HF15.out.later hb)
  have HG16:=Lib.hid (HG15.out.later hb)
  clear hb
  clear d0 d1 d2 d3 d4 d5 d6 x0 x1 x2 x3 y0 y1 y2 y3 e0 e1 e2 e3 e4 e5 e6 e7 z1 z2 z3 z4
  obtain ⟨d0,d1,d2,d3,d4,d5,d6⟩:=HP16.out.cells
  obtain ⟨x0,x1,x2,x3⟩:=HF16.out.cells
  obtain ⟨y0,y1,y2,y3⟩:=HG16.out.cells
  have ee:=fun j => Lib.cell_of_heap HE16.out j
  have e0:=ee 0
  have e1:=ee 1
  have e2:=ee 2
  have e3:=ee 3
  have e4:=ee 4
  have e5:=ee 5
  have e6:=ee 6
  have e7:=ee 7
  simp at e0 e1 e2 e3 e4 e5 e6 e7
  have z1:=HP16.out.lt
  have z2:=HF16.out.lt
  have z3:=HG16.out.lt
  have z4:=heap_some_lt HE16.out
  clear ee
  go_wp2_with fail
  refine (HN.out.kept _).mono ?_
  rintro e w17 ⟨rfl,hb⟩
  have HB17:=Lib.hid (fbelow_t HB16.out hb)
  have HP17:=Lib.hid (HP16.out.later hb)
  have HE17:=Lib.hid ((hb.block _ (heap_some_lt HE16.out)).trans HE16.out)
  have HF17:=Lib.hid (HF16.out.later hb)
  have HG17:=Lib.hid (HG16.out.later hb)
  clear hb
  clear d0 d1 d2 d3 d4 d5 d6 x0 x1 x2 x3 y0 y1 y2 y3 e0 e1 e2 e3 e4 e5 e6 e7 z1 z2 z3 z4
  go_wp2_with fail
  refine (drvalive HA.out _ (HA.out.tab HT.out HB17.out)).mono ?_
  rintro e w18 ⟨rfl,hb⟩
  have HB18:=Lib.hid (fbelow_t HB17.out hb)
  clear hb
  go_wp2
  go_ret
  exact ⟨rfl,HB18.out⟩
end Go.Proofs.YtimdkcchjanpaaaGreatDoor
namespace Go.Proofs.YtimdkcchjanpaaaGreatDoor
open Go.RowKit Go.ChangeShapes Go.WideShapes Go.Deep
set_option linter.unusedVariables false
section
variable {H:Type} {enc:TypeId × Value → H} {P:Program} {w:World} {base:Nat} {held:Bool}
theorem goSh_fits2 {sub:TypeId → Option (List Sh)} {cs:List Value}:∀ (fs:List Field) (off:Nat) (s:List Sh),goSh P sub off fs = some s →
    (∀ f ∈ fs, ∀ s',sub f.type = some s' → FitsAll s' ((cs.drop f.offset).take (P.cellsOf f.type))) → off + s.length ≤ cs.length → FitsAll s ((cs.drop off).take s.length)
  | [],off,s,h,_,hl => by
    cases h
    trivial
  | f :: fs,off,s,h,hf,hl => by
    unfold goSh at h
    obtain ⟨s1,h1,h2⟩:=Option.bind_eq_some_iff.1 h
    split at h2
    · rename_i hc
      obtain ⟨s2,h3,rfl⟩:=Option.map_eq_some_iff.1 h2
      have a1:=hf f (List.mem_cons_self ..) s1 h1
      have a2:=goSh_fits2 fs (off + s1.length) s2 h3 (fun g hg => hf g (List.mem_cons_of_mem _ hg)) (by simp at hl; omega)
      rw [hc.1,← hc.2] at a1
      rw [List.length_append,List.take_add,List.drop_drop]
      exact a1.app a2
    · cases h2
theorem slice_of_trod {k n:Nat} {t e:TypeId} {cs:List Value} {x:DataW H × List MemPlace} {s:List Sh} (ht:P.underlying t = some (.slice e)) (hsh:shapeOf P k e = some s) (hc:P.cellsOf e = s.length)
    (hn:DataW.trod enc P w base (fun _ => true) held n t cs = some x):∃ a len cap F,cs = [.slice a len cap] ∧ IsRowOf w s a len cap F:=by
  rcases Go.Deep.open_slice ht hn with ⟨hcs,_⟩ | ⟨x,len,cap,m,n',D,Pl,hcs,hb,hl,hm,hmm,hx,hi⟩
  · exact ⟨none,0,0,fun _ => [],hcs, .inl ⟨rfl,rfl,rfl⟩⟩
  · have hmc:m = cap:=by simpa using hmm
    subst hmc
    refine ⟨some x,len,m,fun i => if h:i < m then (hi i h).choose else [],hcs, .inr ⟨x,rfl,hl,hm,fun i h => ?_⟩⟩
    simp only [h,dif_pos]
    have hsp:=(hi i h).choose_spec
    refine ⟨fits_of k e n' s _ _ hsh hsp.2,fun j hj => ?_⟩
    have:=(World.cells?_some hsp.1).2.2 j (by omega)
    rw [Go.Deep.add_add] at this
    rw [← hc]
    exact this
theorem open_flat_slice {r:Reach} {b0 k:Nat} {t e:TypeId} {fs:Array Field} {gs:List Field} {f:Field} {v:Value} {d:DataW H} {p:List MemPlace} {s0 s:List Sh} (hs:P.underlying t = some (.struct fs)) (hg:fs.toList = gs ++ [f]) (h0:goSh P (shapeOf P k) 0 gs = some s0)
    (ho:f.offset = s0.length) (h1:P.cellsOf f.type = 1) (ht:P.cellsOf t = s0.length + 1) (hf:P.underlying f.type = some (.slice e)) (hsh:shapeOf P k e = some s) (hc:P.cellsOf e = s.length)
    (hv:Value.okWide P w r b0 t v) (h:DataW.Trod enc P w base (fun _ => true) held t v d p):∃ (l:List Value) (a:Option Addr) (len cap:Nat) (F:Nat → List Value),v = .agg (l ++ [Value.slice a len cap]).toArray ∧ FitsAll s0 l ∧ IsRowOf w s a len cap F:=by
  obtain ⟨cs,rfl,hcz⟩:=okWide_struct hs hv
  obtain ⟨n,hn⟩:=h
  have hn:DataW.trod enc P w base (fun _ => true) held n t cs.toList = some (d,p):=by simpa [Value.cells] using hn
  obtain ⟨xs,m,_,_,hl,hxl,hx⟩:=DataW.trod_struct hs hn
  have fld:∀ (j:Nat) (g:Field),fs[j]? = some g → ∃ y,DataW.trod enc P w base (fun _ => true) held m g.type ((cs.toList.drop g.offset).take (P.cellsOf g.type)) = some y:=fun j g hj => by
    have hj2:j < fs.size:=(Array.getElem?_eq_some_iff.1 hj).1
    exact ⟨_,(hx j g hj).trans (List.getElem?_eq_getElem (by omega))⟩
  have a1:=goSh_fits2 (P:=P) (sub:=shapeOf P k) (cs:=cs.toList) gs 0 s0 h0 (fun g hgm s1 hs1 => by
    obtain ⟨j,hj,hjf⟩:=List.getElem_of_mem hgm
    have hjf':fs[j]? = some g:=by rw [← Array.getElem?_toList,hg,List.getElem?_append_left hj,List.getElem?_eq_getElem hj,hjf]
    obtain ⟨y,hy⟩:=fld j g hjf'
    exact fits_of k g.type m s1 _ _ hs1 hy) (by omega)
  have hfl:fs[gs.length]? = some f:=by rw [← Array.getElem?_toList,hg]; simp
  obtain ⟨y,hy⟩:=fld gs.length f hfl
  obtain ⟨a,len,cap,F,e1,e2⟩:=slice_of_trod hf hsh hc hy
  refine ⟨(cs.toList.drop 0).take s0.length,a,len,cap,F, ?_,a1,e2⟩
  rw [ho,h1] at e1
  congr 1
  have e3:cs.toList = cs.toList.take s0.length ++ cs.toList.drop s0.length:=(List.take_append_drop _ _).symm
  have e4:(cs.toList.drop s0.length).take 1 = cs.toList.drop s0.length:=List.take_of_length_le (by simp; simp at hl; omega)
  rw [e4] at e1
  rw [List.drop_zero,← e1,← e3]
theorem open_last_slice {r:Reach} {b0 k:Nat} {t ft e:TypeId} {fs:Array Field} {v:Value} {d:DataW H} {p:List MemPlace} {s0 s:List Sh} (hs:P.underlying t = some (.struct fs)) (h0:goSh P (shapeOf P k) 0 fs.toList.dropLast = some s0)
    (hl:(fs.toList.getLast?).map (fun f => (f.offset,f.type)) = some (s0.length,ft)) (h1:P.cellsOf ft = 1) (ht:P.cellsOf t = s0.length + 1) (hf:P.underlying ft = some (.slice e)) (hsh:shapeOf P k e = some s) (hc:P.cellsOf e = s.length)
    (hv:Value.okWide P w r b0 t v) (h:DataW.Trod enc P w base (fun _ => true) held t v d p):∃ (l:List Value) (a:Option Addr) (len cap:Nat) (F:Nat → List Value),v = .agg (l ++ [Value.slice a len cap]).toArray ∧ FitsAll s0 l ∧ IsRowOf w s a len cap F:=by
  obtain ⟨f,e1,e2⟩:=Option.map_eq_some_iff.1 hl
  injection e2 with e2 e3
  subst e3
  have hne:fs.toList ≠ []:=fun h => by rw [h] at e1; cases e1
  have hg:fs.toList = fs.toList.dropLast ++ [f]:=by
    rw [List.getLast?_eq_some_getLast hne] at e1
    injection e1 with e1
    rw [← e1,List.dropLast_concat_getLast]
  exact open_flat_slice hs hg h0 e2 h1 ht hf hsh hc hv h
end
end Go.Proofs.YtimdkcchjanpaaaGreatDoor
namespace Go.Proofs.YtimdkcchjanpaaaGreatDoor
open Go.RowKit
set_option linter.unusedVariables false
def fdB (c:Cg) (L:List Op9):Bool:=decide (L.length ≤ 300) && decide (fxN L (min L.length 301) ≤ 6000) && decide (c.n ≤ 50)
theorem fd_any {c:Cg} {L:List Op9} {v:Value} (w:World) (h:SlG opC9 9 w w.heap.size v L) (hc:c.n ≤ maxLen) :
    Calls Tryz.prog 6 #[cgV c,v] w fun e w' => e = .returned (.bool (fdB c L)) ∧ Below w.heap.size w w':=by
  obtain ⟨w1,e1⟩:∃ w1,w.alloc (cgO c) = w1:=⟨_,rfl⟩
  have hb1:Below w.heap.size w w1:=by rw [← e1]; exact (Below.refl _ _).alloc (Nat.le_refl _) _
  have HB1:=Lib.hid hb1
  have H:=Lib.hid (h.later hb1)
  obtain ⟨d0,d1,d7⟩:=cg_cells w c
  rw [e1] at d7
  unfold maxLen at hc
  have hcn:(c.n:Int) ≤ 9223372036854775807:=by omega
  obtain ⟨A,cap,rfl,hm,_⟩:=h
  unfold maxLen at hm
  clear hb1 d0 d1
  go_enter Tryz.func6,Tryz.ntmps6
  go_wp2_with fail
  go_loop [5,6] (fun n i => ∃ k:Nat,k ≤ L.length ∧ k ≤ 301 ∧ i = .int .i64 k ∧ n = .int .i64 (fxN L k)) (fun _ i => L.length - (intOf i).toNat)
  case atStart => exact ⟨0,by omega,by omega,rfl,rfl⟩
  case round =>
    obtain ⟨k,hk,hk41,rfl,rfl⟩:=hrel
    have hN:=fxN_le L k
    have HN:(fxN L k:Int) ≤ 1505000:=by omega
    clear hN
    by_cases hlt:k < L.length ∧ k ≤ 300
    · obtain ⟨h1,h2⟩:=hlt
      obtain ⟨x,cap',hv,hxb,hcell⟩:=H.out.at_ h1
      injection hv with hA hn hc
      subst hA hc
      have hc3:w1.cell? ⟨(x.add (k * 9)).block,(x.add (k * 9)).off + 5,none⟩ = some (.string (L[k]'h1).p.f.d):=hcell 5 _ rfl
      have hk1:(k:Int) < (L.length:Int):=by omega
      have hk2:(k:Int) ≤ 300:=by omega
      have hsucc:=Lib.hid (fxN_succ L k h1)
      have hmin:=fx_min (L[k]'h1).p.f.d.size
      have h5:=fx5_le (L[k]'h1)
      have h6:((fx5 (L[k]'h1):Nat):Int) ≤ 5000:=by omega
      have hmn:min ((L[k]'h1).p.f.d.size:Int) 5000 = ((fx5 (L[k]'h1):Nat):Int):=hmin
      clear hcell hmin h5 hxb
      generalize fx5 (L[k]'h1) = m at hsucc h6 hmn
      generalize (L[k]'h1).p.f.d = d at hc3 hmn
      go_wp2
      exact ⟨⟨k + 1,by omega,by omega,by go_num,by rw [hsucc.out]; go_num⟩,by simp [intOf]; omega⟩
    · have hkm:min L.length 301 = k:=by omega
      have HF:Hid (fdB c L = (decide (L.length ≤ 300) && decide (fxN L k ≤ 6000) && decide (c.n ≤ 50))):=Lib.hid (by unfold fdB; rw [hkm])
      clear hkm H
      generalize fxN L k = m at HN HF
      by_cases ha:L.length ≤ 300
      · obtain rfl:k = L.length:=by omega
        have ha':(L.length:Int) ≤ 300:=by omega
        clear hlt hk hk41
        by_cases hb:m ≤ 6000
        · have hb':(m:Int) ≤ 6000:=by omega
          by_cases hg:c.n ≤ 50
          · have hg':decide (c.n ≤ 50) = true:=decide_eq_true hg
            have hg2:(c.n:Int) ≤ 50:=by omega
            go_wp2
            go_ret
            exact ⟨by rw [HF.out,decide_eq_true ha,decide_eq_true hb,decide_eq_true hg]; rfl,HB1.out⟩
          · have hg':decide (c.n ≤ 50) = false:=decide_eq_false hg
            have hg2:¬ (c.n:Int) ≤ 50:=by omega
            go_wp2
            go_ret
            exact ⟨by rw [HF.out,decide_eq_true ha,decide_eq_true hb,decide_eq_false hg]; rfl,HB1.out⟩
        · have hb':¬ (m:Int) ≤ 6000:=by omega
          go_wp2
          go_ret
          exact ⟨by rw [HF.out,decide_eq_true ha,decide_eq_false hb]; rfl,HB1.out⟩
      · obtain rfl:k = 301:=by omega
        have ha':¬ (L.length:Int) ≤ 300:=by omega
        have ha2:(301:Int) < (L.length:Int) ∨ ¬ (301:Int) < (L.length:Int):=by omega
        have HFF:Hid (fdB c L = false):=Lib.hid (by rw [HF.out,decide_eq_false ha]; rfl)
        clear HF HN hlt hk hk41
        rcases ha2 with ha2 | ha2
        · go_wp2
          go_ret
          exact ⟨by rw [HFF.out]; rfl,HB1.out⟩
        · go_wp2
          go_ret
          exact ⟨by rw [HFF.out]; rfl,HB1.out⟩
end Go.Proofs.YtimdkcchjanpaaaGreatDoor
