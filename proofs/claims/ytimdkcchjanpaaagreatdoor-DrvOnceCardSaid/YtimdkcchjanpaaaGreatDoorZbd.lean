/- Drv, the code: ended. Drv, the code: countTx, Tx, countRx. -/
import Derived.Test.YtimdkcchjanpaaaGreatDoorZbc
set_option maxHeartbeats 8000000
namespace Go.Proofs.YtimdkcchjanpaaaGreatDoor
open Go.RowKit
set_option linter.unusedVariables false
abbrev ehO (p:Pk) (t:Bool):Obj := .cells #[.int .i64 p.f.i, .int .i64 p.f.n, .int .i64 p.f.l, .string p.f.d, .int .i64 p.fr, .int .i64 p.tag, .bool p.lp, .bool t] 42
def BoxEh (w:World) (z:Nat) (p:Pk) (t:Bool):Prop:=w.heap[z]? = some (.cells #[.int .i64 p.f.i, .int .i64 p.f.n, .int .i64 p.f.l, .string p.f.d, .int .i64 p.fr, .int .i64 p.tag, .bool p.lp, .bool t] 42 (0,0))
theorem BoxEh.lt {w:World} {z:Nat} {p:Pk} {t:Bool} (h:BoxEh w z p t):z < w.heap.size:=heap_some_lt h
theorem BoxEh.later {w w':World} {z:Nat} {p:Pk} {t:Bool} (h:BoxEh w z p t) (hb:Below w.heap.size w w'):BoxEh w' z p t:=(hb.block z h.lt).trans h
theorem BoxEh.kept {w w':World} {z:Nat} {p:Pk} {t:Bool} {O:Nat → Prop} (h:BoxEh w z p t) (hk:Kept O w w') (hn:¬ O z):BoxEh w' z p t:=(hk.block z h.lt hn).trans h
theorem BoxEh.cells {w:World} {z:Nat} {p:Pk} {t:Bool} (h:BoxEh w z p t):w.cell? ⟨z,0,none⟩ = some (.int .i64 p.f.i) ∧ w.cell? ⟨z,1,none⟩ = some (.int .i64 p.f.n) ∧ w.cell? ⟨z,2,none⟩ = some (.int .i64 p.f.l) ∧ w.cell? ⟨z,3,none⟩ = some (.string p.f.d) ∧ w.cell? ⟨z,4,none⟩ = some (.int .i64 p.fr) ∧
    w.cell? ⟨z,5,none⟩ = some (.int .i64 p.tag) ∧ w.cell? ⟨z,6,none⟩ = some (.bool p.lp) ∧ w.cell? ⟨z,7,none⟩ = some (.bool t):=by
  unfold BoxEh at h
  refine ⟨?_, ?_, ?_, ?_, ?_, ?_, ?_, ?_⟩ <;> (rw [Lib.cell_of_heap h]; rfl)
def putEh (w:World) (z:Nat) (p:Pk) (t:Bool):World :=
  (((((((w.setCell ⟨z,0,none⟩ (.int .i64 p.f.i)).setCell ⟨z,1,none⟩ (.int .i64 p.f.n)).setCell ⟨z,2,none⟩ (.int .i64 p.f.l)).setCell ⟨z,3,none⟩ (.string p.f.d)).setCell ⟨z,4,none⟩ (.int .i64 p.fr)).setCell ⟨z,5,none⟩ (.int .i64 p.tag)).setCell ⟨z,6,none⟩ (.bool p.lp)).setCell ⟨z,7,none⟩ (.bool t)
theorem BoxEh.put {w:World} {z:Nat} {p0:Pk} {t0:Bool} (h:BoxEh w z p0 t0) (p:Pk) (t:Bool):BoxEh (putEh w z p t) z p t:=by
  unfold BoxEh at h
  have a0:=heap_setCell_same w z 0 _ _ (.int .i64 p.f.i) h
  have a1:=heap_setCell_same _ z 1 _ _ (.int .i64 p.f.n) a0
  have a2:=heap_setCell_same _ z 2 _ _ (.int .i64 p.f.l) a1
  have a3:=heap_setCell_same _ z 3 _ _ (.string p.f.d) a2
  have a4:=heap_setCell_same _ z 4 _ _ (.int .i64 p.fr) a3
  have a5:=heap_setCell_same _ z 5 _ _ (.int .i64 p.tag) a4
  have a6:=heap_setCell_same _ z 6 _ _ (.bool p.lp) a5
  have a7:=heap_setCell_same _ z 7 _ _ (.bool t) a6
  unfold BoxEh putEh
  rw [a7]; simp
theorem putEh_kept (w:World) (z:Nat) (p:Pk) (t:Bool):Kept (fun k => k = z) w (putEh w z p t):=by
  unfold putEh
  have h0:Kept (fun k => k = z) w w:=Kept.refl _ w
  have h1:=h0.setCell (p:=⟨z,0,none⟩) (rfl:z = z) (.int .i64 p.f.i)
  have h2:=h1.setCell (p:=⟨z,1,none⟩) (rfl:z = z) (.int .i64 p.f.n)
  have h3:=h2.setCell (p:=⟨z,2,none⟩) (rfl:z = z) (.int .i64 p.f.l)
  have h4:=h3.setCell (p:=⟨z,3,none⟩) (rfl:z = z) (.string p.f.d)
  have h5:=h4.setCell (p:=⟨z,4,none⟩) (rfl:z = z) (.int .i64 p.fr)
  have h6:=h5.setCell (p:=⟨z,5,none⟩) (rfl:z = z) (.int .i64 p.tag)
  have h7:=h6.setCell (p:=⟨z,6,none⟩) (rfl:z = z) (.bool p.lp)
  exact h7.setCell (p:=⟨z,7,none⟩) (rfl:z = z) (.bool t)
section
variable {W w w0 w1 w2:World} {O:Nat → Prop} {b z:Nat} {R:Nat → Nat → Prop} {st:Int} {cg:Cg} {sx:Sx} {L:List Flt} {q:Bq} {c:Ct} {e:Ec}
theorem DkW.cut (h:DkW W O b st cg sx L q c e w):∃ R,Dk w b st cg sx L q c e R ∧ Grows O W (ownR b R) ∧ ∀ w0 w1 st' sx' q' c' e',Below w.heap.size w w0 → DkW w0 (ownR b R) b st' cg sx' L q' c' e' w1 → DkW W O b st' cg sx' L q' c' e' w1:=by
  obtain ⟨R,h1,h2,h3⟩:=h
  exact ⟨R,h1,h3,fun w0 w1 st' sx' q' c' e' hb hw => DkW.after h2 h3 hb hw⟩
theorem DkW.box (hk:Kept O W w) (hg:Grows O W (ownR b R)) (hb:Below w.heap.size w w0) (h:DkW w0 (ownR b R) b st cg sx L q c e w1) (hz:w.heap.size ≤ z) (hz0:z < w0.heap.size) (hn:¬ ownR b R z) (h2:Kept (fun k => k = z) w1 w2):DkW W O b st cg sx L q c e w2:=by
  obtain ⟨R',⟨Cq,Cc,Ce,h3⟩,h4,h5⟩:=h
  have hn':¬ ownR b R' z:=fun h6 => by
    rcases h5 z h6 with h7 | h7
    · exact hn h7
    · omega
  refine ⟨R',⟨Cq,Cc,Ce,h3.stay h2.size (fun k hk' => h2.block k (h3.pt.ownLt k hk') (fun e => hn' (e ▸ hk')))⟩, ?_,hg.trans (fun k hk' => (h5 k hk').imp id (fun h => Nat.le_trans hb.size h)) hk.size⟩
  refine hk.trans (O':=ownR b R) ⟨(h2.os.trans h4.os).trans hb.os,(h2.tape.trans h4.tape).trans hb.tape,(h2.output.trans h4.output).trans hb.output,Nat.le_trans hb.size (Nat.le_trans h4.size h2.size),fun k h6 h7 => ?_⟩ hg
  have h8:=hb.size
  have h9:=h4.size
  rw [h2.block k (by omega) (by omega),h4.block k (by omega) h7,hb.block k h6]
end
theorem zeroEh (w:World):(zeroValue 42).run Tryz.prog w = .ok (.agg #[.int .i64 0, .int .i64 0, .int .i64 0, .string (ByteArray.mk #[]), .int .i64 0, .int .i64 0, .bool false, .bool false]) w:=by kernel_rfl
def EndG (W:World) (O:Nat → Prop) (b:Nat) (st:Int) (cg:Cg) (sx:Sx) (L:List Flt) (q:Bq) (c:Ct) (e e':Ec) (p:Pk) (k:Nat) (xs:Tmp → Option Value) (w:World):Prop :=
  ∃ R,Dk w b st cg sx L q c (if k = 0 then e else e') R ∧ Kept O W w ∧ Grows O W (ownR b R) ∧ (∀ v,xs 6 = some v → ∃ z,v = .pointer (some ⟨z,0,none⟩) ∧ W.heap.size ≤ z ∧ BoxP w z (if k = 2 then p else pk0) ∧ ¬ ownR b R z) ∧ (k = 2 → xs 6 ≠ none)
theorem Dk.only {w w':World} {b z:Nat} {R:Nat → Nat → Prop} {st:Int} {cg:Cg} {sx:Sx} {L:List Flt} {q:Bq} {c:Ct} {e:Ec} (h:Dk w b st cg sx L q c e R) (hk:Kept (fun k => k = z) w w') (hn:¬ ownR b R z):Dk w' b st cg sx L q c e R:=by
  obtain ⟨Cq,Cc,Ce,h⟩:=h
  exact ⟨Cq,Cc,Ce,h.stay hk.size (fun k hk' => hk.block k (h.pt.ownLt k hk') (fun e => hn (e ▸ hk')))⟩
theorem putB_kept (w:World) (z:Nat) (p:Pk):Kept (fun k => k = z) w (putB w z p):=by
  obtain ⟨r1,r2,r3⟩:=putB_rest w z p
  exact ⟨r1,r2,r3,Nat.le_of_eq (putB_size w z p).symm,fun k _ hk => putB_other hk⟩
section
variable {W w w':World} {O:Nat → Prop} {b k:Nat} {R:Nat → Nat → Prop} {st:Int} {cg:Cg} {sx:Sx} {L:List Flt} {q:Bq} {c:Ct} {e e':Ec} {p:Pk} {xs:Tmp → Option Value}
theorem EndG.start (h:Dk W b st cg sx L q c e R):EndG W (ownR b R) b st cg sx L q c e e' p 0 (fun _ => none) W.drew :=
  ⟨R,h.later (Below.refl _ _).drew, .of_below (Below.refl _ _).drew,Grows.refl _ _,(fun v h => by cases h),fun h => by cases h⟩
theorem EndG.kept (h:EndG W O b st cg sx L q c e e' p k xs w):Kept O W w:=by
  obtain ⟨R,_,h2,_⟩:=h
  exact h2
theorem EndG.new (h:EndG W O b st cg sx L q c e e' p k xs w) (h0:xs 6 = none):EndG W O b st cg sx L q c e e' p k (fun r => if r = 6 then some (.pointer (some ⟨w.heap.size,0,none⟩)) else xs r) (w.alloc (.cells (pkC pk0).toArray 37)):=by
  obtain ⟨R,h1,h2,h3,_,h5⟩:=h
  have hb:=(Below.refl w.heap.size w).alloc (Nat.le_refl _) (.cells (pkC pk0).toArray 37)
  refine ⟨R,h1.later hb,h2.trans (.of_below (O:=O) hb) (Grows.refl _ _),h3,fun v hv => ?_,fun h => (h5 h h0).elim⟩
  have hv:some (Value.pointer (some ⟨w.heap.size,0,none⟩)) = some v:=hv
  injection hv with hv
  exact ⟨_,hv.symm,h2.size,by rw [if_neg (fun h => h5 h h0)]; exact BoxP.made w pk0,fun h => absurd (h1.lt _ h) (Nat.lt_irrefl _)⟩
theorem EndG.get {i:Int} (h:EndG W O b st cg sx L q c e e' p 0 xs w) (ok:e.Ok) (hp:(e.get i).1 = e') :
    Calls Tryz.prog 83 #[.pointer (some ⟨b,24,none⟩), .int .i64 i] w fun r w' => r = .returned (.tuple #[pkV (e.get i).2.1, .int .i64 (e.get i).2.2]) ∧ EndG W O b st cg sx L q c e e' p 1 xs w':=by
  obtain ⟨R,h1,h2,h3,h4,_⟩:=h
  rw [if_pos rfl] at h1
  obtain ⟨Cq,Cc,Ce,hm⟩:=h1
  refine (keget_v w i hm.atE ok).mono ?_
  rintro r w' ⟨he,hs⟩
  refine ⟨he, ?_⟩
  obtain ⟨R',h5,h6,h7⟩:=hm.onE hs
  rw [hp] at h5
  refine ⟨R',h5,h2.trans h6 h3,h3.trans h7 h2.size,fun v hv => ?_,fun h => by cases h⟩
  obtain ⟨z,h8,h9,h10,h11⟩:=h4 v hv
  refine ⟨z,h8,h9,h10.kept h6 h11,fun h => ?_⟩
  rcases h7 z h with h12 | h12
  · exact h11 h12
  · have:=h10.lt; omega
theorem store_pkB {w:World} {z:Nat} {p p0:Pk} {ev:Operand → Value} {o:Oper} {sa sb:Operand} (ho:o.op = .store 37 sa sb) (e1:ev sa = .pointer (some ⟨z,0,none⟩)) (e2:ev sb = pkV p) (hb:BoxP w z p0) :
    (execOp ev o).run Tryz.prog w = .ok .skip (putB w z p):=by
  obtain ⟨c0,c1,c2,c3,c4,c5,c6⟩:=hb.cells
  have cl:∀ j,w.frozen? ⟨z,j,none⟩ = false:=fun j => Lib.frozen_of_heap hb j
  simp [execOp,ho,e1,e2,go_sem,c0,c1,c2,c3,c4,c5,c6,cl,putB]
theorem EndG.put {a:Act} {o:Oper} (h:EndG W O b st cg sx L q c e e' p 1 xs w) (ho:o.op = .store 37 (.tmp 6) (.tmp 32)) (e6:xs 6 = some (a.tmps.getD 6 undef)) (e32:a.tmps.getD 32 undef = pkV p) :
    ∃ w',((execOp a.eval o).run Tryz.prog w = .ok .skip w' ∨ ∃ u,(execOp a.eval o).run Tryz.prog w = .ok (.value u) w') ∧ EndG W O b st cg sx L q c e e' p 2 xs w':=by
  obtain ⟨R,h1,h2,h3,h4,_⟩:=h
  obtain ⟨z,h8,h9,h10,h11⟩:=h4 _ e6
  rw [if_neg (by decide)] at h10
  have hk:=putB_kept w z p
  refine ⟨putB w z p, .inl (store_pkB ho h8 e32 h10),R,h1.only hk h11, ?_,h3,fun v hv => ?_,fun _ h => by rw [h] at e6; cases e6⟩
  · exact ⟨hk.os.trans h2.os,hk.tape.trans h2.tape,hk.output.trans h2.output,Nat.le_trans h2.size hk.size,fun k h5 h6 => (hk.block k (Nat.lt_of_lt_of_le h5 h2.size) (by omega)).trans (h2.block k h5 h6)⟩
  · rw [e6] at hv
    injection hv with hv
    rw [← hv]
    exact ⟨z,h8,h9,h10.put p,h11⟩
end
theorem fin_more {x:Bx}:(!decide (x.fin = [])) = true ↔ x.fin ≠ []:=by simp
theorem dkended_v {W w:World} {O:Nat → Prop} {b:Nat} {st:Int} {cg:Cg} {sx:Sx} {L:List Flt} {q:Bq} {c:Ct} {e:Ec} (h:DkW W O b st cg sx L q c e w) (cok:c.Ok) (te:TabE e c.bx) :
    Calls Tryz.prog 40 #[.pointer (some ⟨b,6,none⟩)] w fun r w' => (c.bx.fin = [] ∧ r = .returned (.tuple #[ehV pk0 false, .int .i64 6]) ∧ DkW W O b st cg sx L q c e w') ∨
      (c.bx.fin ≠ [] ∧ r = .returned (.tuple #[ehV c.bx.take.2.2.1 c.bx.take.2.2.2, .int .i64 0]) ∧ ∃ e',DkW W O b st cg sx L q c.told e' w' ∧ TabE e' c.told.bx):=by
  obtain ⟨R,hd,hk,hg⟩:=h
  have hb0:=(Below.refl w.heap.size w).alloc (Nat.le_refl _) (ehO pk0 false)
  have hx0:BoxEh (w.alloc (ehO pk0 false)) w.heap.size pk0 false:=heap_alloc_new w _
  obtain ⟨w0,e0⟩:∃ w0,w.alloc (ehO pk0 false) = w0:=⟨_,rfl⟩
  rw [e0] at hb0 hx0
  have HE0:w.alloc (.cells #[.int .i64 0, .int .i64 0, .int .i64 0, .string (ByteArray.mk #[]), .int .i64 0, .int .i64 0, .bool false, .bool false] 42) = w0:=e0
  have HX0:=Lib.hid hx0
  have HW0:=Lib.hid ((hd.later hb0).start)
  have HNO:Hid (¬ ownR b R w.heap.size):=Lib.hid (fun h1 => absurd (hd.lt _ h1) (Nat.lt_irrefl _))
  have HBX:Hid (∀ w1 w2 c e,DkW w0 (ownR b R) b st cg sx L q c e w1 → Kept (fun k => k = w.heap.size) w1 w2 → DkW W O b st cg sx L q c e w2):=Lib.hid (fun w1 w2 c e h1 h2 => DkW.box hk hg hb0 h1 (Nat.le_refl _) hx0.lt HNO.out h2)
  have HOK:=Lib.hid cok
  have HTE:=Lib.hid te
  obtain ⟨X,Y,Oc,hc,hn⟩:=HW0.out.atC
  have HC:=Lib.hid (kkended_v hc cok)
  have HN:=Lib.hid (fun w' => hn { c with bx:=c.bx.take.1 } w')
  clear hd hk hg hb0 hx0 e0 cok te hc hn
  cases hf:c.bx.fin with
  | nil =>
    have HTK:Hid (c.bx.tk = (0,pk0,false,6)):=Lib.hid (by unfold Bx.tk; rw [hf])
    have HT1:Hid (({ c with bx:=c.bx.take.1 }:Ct) = c):=Lib.hid (by unfold Bx.take; rw [hf])
    simp only [HTK.out,pk0] at HC
    have HF:=Lib.hid hf
    clear hf
    go_enter Tryz.func40,Tryz.ntmps40
    go_wp2_with fail
    refine HC.out.mono ?_
    rintro r w1 ⟨rfl,hs⟩
    have hw1:=HN.out _ hs
    rw [HT1.out] at hw1
    have hx1:=HX0.out.kept hw1.kept HNO.out
    have hb1:=(Below.refl w1.heap.size w1).alloc (Nat.le_refl _) (dnO 0 pk0 false)
    have HX1:=Lib.hid hx1
    have HW1:=Lib.hid hw1
    have hz1:=hx1.lt
    clear hs hw1 hx1 HC HN HE0
    go_upto_region 2 with fail
    obtain ⟨w2,e2⟩:∃ w2,w1.alloc (dnO 0 pk0 false) = w2:=⟨_,rfl⟩
    rw [e2] at hb1
    have HE2:w1.alloc (.cells #[.int .i64 0, .int .i64 0, .int .i64 0, .int .i64 0, .string (ByteArray.mk #[]), .int .i64 0, .int .i64 0, .bool false, .bool false] 135) = w2:=e2
    rw [HE2]
    have HX2:=Lib.hid (HX1.out.later hb1)
    have HW2:=Lib.hid (HW1.out.later hb1)
    obtain ⟨x0,x1,x2,x3,x4,x5,x6,x7⟩:=HX2.out.cells
    have ff:∀ j,w2.frozen? ⟨w.heap.size,j,none⟩ = false:=fun j => Lib.frozen_of_heap HX2.out j
    have hz2:=HX2.out.lt
    have HP:=Lib.hid (HX2.out.put pk0 false)
    have HPK:=Lib.hid (putEh_kept w2 w.heap.size pk0 false)
    have hzr:=zeroEh
    unfold pk0 at x0 x1 x2 x3 x4 x5 x6
    clear hb1 e2 HE2 hz1
    go_wp2_with fail
    obtain ⟨g0,g1,g2,g3,g4,g5,g6,g7⟩:=HP.out.cells
    unfold putEh pk0 at g0 g1 g2 g3 g4 g5 g6 g7
    unfold putEh pk0 at HPK
    refine bodyPost_ret (v := .tuple #[ehV pk0 false, .int .i64 6]) ?_ rfl ?_
    · simp [results,Tryz.results40,go_sem,pk0,g0,g1,g2,g3,g4,g5,g6,g7]
    · exact ⟨rfl,HBX.out _ _ _ _ HW2.out HPK.out⟩
  | cons y r =>
    obtain ⟨t1,t2,t3,t4⟩:=HTE.out.take HOK.out.bx hf
    have HOK1:Hid (({ c with bx:=c.bx.take.1 }:Ct).Ok):=Lib.hid (HOK.out.withBx HOK.out.bx.take)
    have HEK:=Lib.hid (HTE.out.ok HOK.out.bx)
    have HTOLD:Hid (c.told = if c.bx.take.1.fin = [] then { c with bx:=c.bx.take.1,asks:=clrK c.asks 1 4 } else { c with bx:=c.bx.take.1 }):=Lib.hid rfl
    have HTB:Hid (c.told.bx = c.bx.take.1):=Lib.hid c.told_same.1
    have HKX:=Lib.hid (fun w' => (HN.out w'))
    obtain ⟨i,hi⟩:∃ i,c.bx.tk.1 = i:=⟨_,rfl⟩
    have h2:c.bx.tk.2.1 = c.bx.take.2.2.1:=by rw [t4]
    have h3:c.bx.tk.2.2.1 = c.bx.take.2.2.2:=by rw [t4]
    have h4:c.bx.tk.2.2.2 = 0:=by rw [t4]
    rw [hi,h2] at t1
    rw [hi] at t2 t3
    rw [hi,h2,h3,h4] at HC
    have HG1:=Lib.hid t1
    have HG2:=Lib.hid t2
    have HTE2:Hid (TabE (e.get i).1 c.told.bx):=Lib.hid (by rw [HTB.out]; exact t3)
    generalize c.bx.take.2.2.1 = p at HC HG1 ⊢
    generalize c.bx.take.2.2.2 = t at HC ⊢
    generalize c.told = c2 at HTOLD HTE2 ⊢
    clear hf t1 t2 t3 t4 hi h2 h3 h4 HN HTB
    go_enter Tryz.func40,Tryz.ntmps40
    go_wp2_with fail
    refine HC.out.mono ?_
    rintro r w1 ⟨rfl,hs⟩
    have hw1:=HKX.out _ hs
    have HX1:=Lib.hid (HX0.out.kept hw1.kept HNO.out)
    obtain ⟨R1,hd1,hg1,ha1⟩:=hw1.cut
    have hb1:=(Below.refl w1.heap.size w1).alloc (Nat.le_refl _) (dnO i p t)
    have hdn:BoxDn (w1.alloc (dnO i p t)) w1.heap.size i p t:=heap_alloc_new w1 _
    have HNZ:Hid (¬ ownR b R1 w.heap.size):=Lib.hid (fun h => by
      rcases hg1 _ h with h1 | h1
      · exact HNO.out h1
      · have:=HX0.out.lt; omega)
    have HND:Hid (¬ ownR b R1 w1.heap.size):=Lib.hid (fun h1 => absurd (hd1.lt _ h1) (Nat.lt_irrefl _))
    have hz1:=HX1.out.lt
    obtain ⟨w2,e2⟩:∃ w2,w1.alloc (dnO i p t) = w2:=⟨_,rfl⟩
    have HE2:w1.alloc (.cells #[.int .i64 i, .int .i64 p.f.i, .int .i64 p.f.n, .int .i64 p.f.l, .string p.f.d, .int .i64 p.fr, .int .i64 p.tag, .bool p.lp, .bool t] 135) = w2:=e2
    rw [e2] at hb1 hdn
    have HA1:Hid (∀ w5 c e,DkW w2 (ownR b R1) b st cg sx L q c e w5 → DkW w0 (ownR b R) b st cg sx L q c e w5):=Lib.hid (fun w5 c e h => ha1 w2 w5 st sx q c e hb1 h)
    have HX2:=Lib.hid (HX1.out.later hb1)
    have HD2:=Lib.hid hdn
    have HW2:=Lib.hid (hd1.later hb1).start
    clear hs hw1 hd1 hg1 ha1 hb1 hdn HC HKX HE0
    go_upto_region 2 with fail
    clear e2 HE2 hz1
    have hmr:=dkmore_v HW2.out HOK1.out (fin_more (x:=c.bx.take.1))
    have HMR:=Lib.hid hmr
    by_cases hfe:c.bx.take.1.fin = []
    · have hz:(!decide (c.bx.take.1.fin = [])) = false:=by simp [hfe]
      rw [hz] at HMR
      obtain rfl:({ c with bx:=c.bx.take.1,asks:=clrK c.asks 1 4 }:Ct) = c2:=by rw [HTOLD.out,if_pos hfe]
      clear hmr hz hfe HTOLD
      go_wp2_with fail
      refine HMR.out.mono ?_
      rintro r w3 ⟨rfl,hb⟩
      have HW3:=Lib.hid (HW2.out.later hb)
      obtain ⟨X3,Y3,O3,hc3,hn3⟩:=HW3.out.atC
      have HC3:=Lib.hid (kkclear_v 1 hc3 HOK1.out)
      have HN3:=Lib.hid hn3
      clear hb hc3 hn3
      go_wp2_with fail
      refine HC3.out.mono ?_
      rintro r w4 ⟨rfl,hs⟩
      have HW4:=Lib.hid (HN3.out _ _ hs)
      clear hs
      go_upto_region 6 with fail
      obtain ⟨R4,hd4,hg4,ha4⟩:=HW4.out.cut
      have HX4:=Lib.hid (HX2.out.kept HW4.out.kept HNZ.out)
      have HD4:Hid (BoxDn w4 w1.heap.size i p t):=Lib.hid ((HW4.out.kept.block _ (heap_some_lt HD2.out) HND.out).trans HD2.out)
      have HN4:Hid (¬ ownR b R4 w.heap.size ∧ ¬ ownR b R4 w1.heap.size):=Lib.hid ⟨fun h => by
        rcases hg4 _ h with h1 | h1
        · exact HNZ.out h1
        · have:=HX2.out.lt; omega,fun h => by
        rcases hg4 _ h with h1 | h1
        · exact HND.out h1
        · have:=heap_some_lt HD2.out; omega⟩
      have HA4:Hid (∀ w5 c e,DkW w4 (ownR b R4) b st cg sx L q c e w5 → DkW w2 (ownR b R1) b st cg sx L q c e w5):=Lib.hid (fun w5 c e h => ha4 w4 w5 st sx q c e (Below.refl _ _) h)
      obtain ⟨d0,d1,d2,d3,d4,d5,d6,d7,d8⟩:=HD4.out.cells
      have hz4:w1.heap.size < w4.heap.size:=heap_some_lt HD4.out
      have hnd4:=HN4.out.2
      have HS4:=Lib.hid (EndG.start (e':=(e.get i).1) (p:=p) hd4)
      clear hd4 hg4 ha4
      have hzr:=zeroPk
      have hcl:∀ (n:KLater (ownR b R4) w4) (o:Nat),n.w.cell? ⟨w1.heap.size,o,none⟩ = w4.cell? ⟨w1.heap.size,o,none⟩:=fun n o => n.cell w1.heap.size o hz4 hnd4
      refine wp_region_st 11 [5,10] (EndG w4 (ownR b R4) b st cg sx L q ({ c with bx:=c.bx.take.1,asks:=clrK c.asks 1 4 }:Ct) e (e.get i).1 p) [6] HS4.out (by kernel_rfl) (by kernel_rfl) (by kernel_rfl) (by kernel_rfl) (by kernel_rfl) (by kernel_rfl) (by kernel_rfl) ?_
      simp only [List.take_succ_cons,List.take_zero,List.drop_succ_cons,List.drop_zero]
      repeat ((first | refine st_plain (fun h => h.kept) (by rfl) (by rfl) (by rfl) (by rfl) (by rfl) ?_ | refine st_nil (fun h => h.kept) (by rfl) (by rfl) (by rfl) (by rfl) (by rfl) (by rfl) ?_); intro K hK; go_big_quiet_op; go_big_quiet_on)
      refine st_step (f:=83) (args := #[.pointer (some ⟨b,24,none⟩), .int .i64 i]) (v := .tuple #[pkV p, .int .i64 0]) 0 (by rfl) (by rfl) (by rfl) (by rfl) (by rfl) (fun w => by simp [go_sem]) (fun xs9 w9 h9 => ?_) ?_
      · have hc9:=EndG.get (i:=i) h9 HEK.out rfl
        rw [HG1.out,HG2.out] at hc9
        exact hc9
      simp only [Act.put,List.setIfInBounds_toArray,List.set_cons_succ,List.set_cons_zero]
      repeat (refine st_plain (fun h => h.kept) (by rfl) (by rfl) (by rfl) (by rfl) (by rfl) ?_; intro K hK; go_big_quiet_op; go_big_quiet_on)
      refine st_newF (s:=6) (mk:=fun w => .pointer (some ⟨w.heap.size,0,none⟩)) (ob:=fun _ => .cells (pkC pk0).toArray 37) (by rfl) (by rfl) (by rfl) (by rfl) (by rfl) (by rfl) (fun _ => by kernel_rfl) (fun j xs w h h0 => h.new h0) ?_
      simp only [Act.put,List.setIfInBounds_toArray,List.set_cons_succ,List.set_cons_zero]
      refine st_turnH 1 (by rfl) (by rfl) (by rfl) (fun xs9 a9 w9 h9 hl => ?_) ?_
      · have l6:=hl 6 (by decide)
        have l32:=hl 32 (by decide)
        rw [if_pos (by decide)] at l6
        rw [if_neg (by decide)] at l32
        exact h9.put rfl l6 l32
      simp only [Act.put]
      intro ys xs w5 hF h5
      have e6:=hF 6 (by simp)
      obtain ⟨R5,k1,k2,k3,k4,_⟩:=h5
      obtain ⟨zp,hy6,hzp,hbp,hnp⟩:=k4 _ e6
      simp only [secFill]
      simp only [Act.put,List.setIfInBounds_toArray,List.set_cons_succ,List.set_cons_zero,hy6]
      have k1:Dk w5 b st cg sx L q _ (e.get i).1 R5:=k1
      have hbp:BoxP w5 zp p:=hbp
      have HX5:=Lib.hid (HX4.out.kept k2 HN4.out.1)
      have HD5:Hid (BoxDn w5 w1.heap.size i p t):=Lib.hid ((k2.block _ hz4 HN4.out.2).trans HD4.out)
      have HFW:=Lib.hid (HA1.out _ _ _ (HA4.out _ _ _ ⟨R5,k1,k2,k3⟩))
      have hz5:=HX5.out.lt
      have hzd5:w1.heap.size < w5.heap.size:=heap_some_lt HD5.out
      clear d0 d1 d2 d3 d4 d5 d6 d7 d8 hz4 hnd4 hcl k1 k2 k3 k4 hF hy6 e6 hzp hnp
      obtain ⟨x0,x1,x2,x3,x4,x5,x6,x7⟩:=HX5.out.cells
      unfold pk0 at x0 x1 x2 x3 x4 x5 x6
      obtain ⟨_,_,_,_,_,_,_,_,d8⟩:=HD5.out.cells
      obtain ⟨m0,m1,m2,m3,m4,m5,m6⟩:=hbp.cells
      have hzp5:=hbp.lt
      have ff:∀ j,w5.frozen? ⟨w.heap.size,j,none⟩ = false:=fun j => Lib.frozen_of_heap HX5.out j
      have HP:=Lib.hid (HX5.out.put p t)
      have HPK:=Lib.hid (putEh_kept w5 w.heap.size p t)
      obtain ⟨w6,e6⟩:∃ w6,putEh w5 w.heap.size p t = w6:=⟨_,rfl⟩
      rw [e6] at HP HPK
      have hfold:(((((((w5.setCell ⟨w.heap.size,0,none⟩ (.int .i64 p.f.i)).setCell ⟨w.heap.size,1,none⟩ (.int .i64 p.f.n)).setCell ⟨w.heap.size,2,none⟩ (.int .i64 p.f.l)).setCell ⟨w.heap.size,3,none⟩ (.string p.f.d)).setCell ⟨w.heap.size,4,none⟩ (.int .i64 p.fr)).setCell ⟨w.heap.size,5,none⟩ (.int .i64 p.tag)).setCell ⟨w.heap.size,6,none⟩ (.bool p.lp)).setCell ⟨w.heap.size,7,none⟩ (.bool t) = w6:=e6
      clear e6 hbp
      go_wp2_with fail
      obtain ⟨g0,g1,g2,g3,g4,g5,g6,g7⟩:=HP.out.cells
      refine bodyPost_ret (v := .tuple #[ehV p t, .int .i64 0]) ?_ rfl ?_
      · simp [results,Tryz.results40,go_sem,g0,g1,g2,g3,g4,g5,g6,g7]
      · exact ⟨rfl,(e.get i).1,HBX.out _ _ _ _ HFW.out HPK.out,HTE2.out⟩
    · have hz:(!decide (c.bx.take.1.fin = [])) = true:=by simp [hfe]
      rw [hz] at HMR
      obtain rfl:({ c with bx:=c.bx.take.1 }:Ct) = c2:=by rw [HTOLD.out,if_neg hfe]
      clear hmr hz hfe HTOLD
      go_wp2_with fail
      refine HMR.out.mono ?_
      rintro r w4 ⟨rfl,hb⟩
      have HW4:=Lib.hid (HW2.out.later hb)
      clear hb
      go_upto_region 6 with fail
      obtain ⟨R4,hd4,hg4,ha4⟩:=HW4.out.cut
      have HX4:=Lib.hid (HX2.out.kept HW4.out.kept HNZ.out)
      have HD4:Hid (BoxDn w4 w1.heap.size i p t):=Lib.hid ((HW4.out.kept.block _ (heap_some_lt HD2.out) HND.out).trans HD2.out)
      have HN4:Hid (¬ ownR b R4 w.heap.size ∧ ¬ ownR b R4 w1.heap.size):=Lib.hid ⟨fun h => by
        rcases hg4 _ h with h1 | h1
        · exact HNZ.out h1
        · have:=HX2.out.lt; omega,fun h => by
        rcases hg4 _ h with h1 | h1
        · exact HND.out h1
        · have:=heap_some_lt HD2.out; omega⟩
      have HA4:Hid (∀ w5 c e,DkW w4 (ownR b R4) b st cg sx L q c e w5 → DkW w2 (ownR b R1) b st cg sx L q c e w5):=Lib.hid (fun w5 c e h => ha4 w4 w5 st sx q c e (Below.refl _ _) h)
      obtain ⟨d0,d1,d2,d3,d4,d5,d6,d7,d8⟩:=HD4.out.cells
      have hz4:w1.heap.size < w4.heap.size:=heap_some_lt HD4.out
      have hnd4:=HN4.out.2
      have HS4:=Lib.hid (EndG.start (e':=(e.get i).1) (p:=p) hd4)
      clear hd4 hg4 ha4
      have hzr:=zeroPk
      have hcl:∀ (n:KLater (ownR b R4) w4) (o:Nat),n.w.cell? ⟨w1.heap.size,o,none⟩ = w4.cell? ⟨w1.heap.size,o,none⟩:=fun n o => n.cell w1.heap.size o hz4 hnd4
      refine wp_region_st 11 [5,10] (EndG w4 (ownR b R4) b st cg sx L q ({ c with bx:=c.bx.take.1 }:Ct) e (e.get i).1 p) [6] HS4.out (by kernel_rfl) (by kernel_rfl) (by kernel_rfl) (by kernel_rfl) (by kernel_rfl) (by kernel_rfl) (by kernel_rfl) ?_
      simp only [List.take_succ_cons,List.take_zero,List.drop_succ_cons,List.drop_zero]
      repeat ((first | refine st_plain (fun h => h.kept) (by rfl) (by rfl) (by rfl) (by rfl) (by rfl) ?_ | refine st_nil (fun h => h.kept) (by rfl) (by rfl) (by rfl) (by rfl) (by rfl) (by rfl) ?_); intro K hK; go_big_quiet_op; go_big_quiet_on)
      refine st_step (f:=83) (args := #[.pointer (some ⟨b,24,none⟩), .int .i64 i]) (v := .tuple #[pkV p, .int .i64 0]) 0 (by rfl) (by rfl) (by rfl) (by rfl) (by rfl) (fun w => by simp [go_sem]) (fun xs9 w9 h9 => ?_) ?_
      · have hc9:=EndG.get (i:=i) h9 HEK.out rfl
        rw [HG1.out,HG2.out] at hc9
        exact hc9
      simp only [Act.put,List.setIfInBounds_toArray,List.set_cons_succ,List.set_cons_zero]
      repeat (refine st_plain (fun h => h.kept) (by rfl) (by rfl) (by rfl) (by rfl) (by rfl) ?_; intro K hK; go_big_quiet_op; go_big_quiet_on)
      refine st_newF (s:=6) (mk:=fun w => .pointer (some ⟨w.heap.size,0,none⟩)) (ob:=fun _ => .cells (pkC pk0).toArray 37) (by rfl) (by rfl) (by rfl) (by rfl) (by rfl) (by rfl) (fun _ => by kernel_rfl) (fun j xs w h h0 => h.new h0) ?_
      simp only [Act.put,List.setIfInBounds_toArray,List.set_cons_succ,List.set_cons_zero]
      refine st_turnH 1 (by rfl) (by rfl) (by rfl) (fun xs9 a9 w9 h9 hl => ?_) ?_
      · have l6:=hl 6 (by decide)
        have l32:=hl 32 (by decide)
        rw [if_pos (by decide)] at l6
        rw [if_neg (by decide)] at l32
        exact h9.put rfl l6 l32
      simp only [Act.put]
      intro ys xs w5 hF h5
      have e6:=hF 6 (by simp)
      obtain ⟨R5,k1,k2,k3,k4,_⟩:=h5
      obtain ⟨zp,hy6,hzp,hbp,hnp⟩:=k4 _ e6
      simp only [secFill]
      simp only [Act.put,List.setIfInBounds_toArray,List.set_cons_succ,List.set_cons_zero,hy6]
      have k1:Dk w5 b st cg sx L q _ (e.get i).1 R5:=k1
      have hbp:BoxP w5 zp p:=hbp
      have HX5:=Lib.hid (HX4.out.kept k2 HN4.out.1)
      have HD5:Hid (BoxDn w5 w1.heap.size i p t):=Lib.hid ((k2.block _ hz4 HN4.out.2).trans HD4.out)
      have HFW:=Lib.hid (HA1.out _ _ _ (HA4.out _ _ _ ⟨R5,k1,k2,k3⟩))
      have hz5:=HX5.out.lt
      have hzd5:w1.heap.size < w5.heap.size:=heap_some_lt HD5.out
      clear d0 d1 d2 d3 d4 d5 d6 d7 d8 hz4 hnd4 hcl k1 k2 k3 k4 hF hy6 e6 hzp hnp
      obtain ⟨x0,x1,x2,x3,x4,x5,x6,x7⟩:=HX5.out.cells
      unfold pk0 at x0 x1 x2 x3 x4 x5 x6
      obtain ⟨_,_,_,_,_,_,_,_,d8⟩:=HD5.out.cells
      obtain ⟨m0,m1,m2,m3,m4,m5,m6⟩:=hbp.cells
      have hzp5:=hbp.lt
      have ff:∀ j,w5.frozen? ⟨w.heap.size,j,none⟩ = false:=fun j => Lib.frozen_of_heap HX5.out j
      have HP:=Lib.hid (HX5.out.put p t)
      have HPK:=Lib.hid (putEh_kept w5 w.heap.size p t)
      obtain ⟨w6,e6⟩:∃ w6,putEh w5 w.heap.size p t = w6:=⟨_,rfl⟩
      rw [e6] at HP HPK
      have hfold:(((((((w5.setCell ⟨w.heap.size,0,none⟩ (.int .i64 p.f.i)).setCell ⟨w.heap.size,1,none⟩ (.int .i64 p.f.n)).setCell ⟨w.heap.size,2,none⟩ (.int .i64 p.f.l)).setCell ⟨w.heap.size,3,none⟩ (.string p.f.d)).setCell ⟨w.heap.size,4,none⟩ (.int .i64 p.fr)).setCell ⟨w.heap.size,5,none⟩ (.int .i64 p.tag)).setCell ⟨w.heap.size,6,none⟩ (.bool p.lp)).setCell ⟨w.heap.size,7,none⟩ (.bool t) = w6:=e6
      clear e6 hbp
      go_wp2_with fail
      obtain ⟨g0,g1,g2,g3,g4,g5,g6,g7⟩:=HP.out.cells
      refine bodyPost_ret (v := .tuple #[ehV p t, .int .i64 0]) ?_ rfl ?_
      · simp [results,Tryz.results40,go_sem,g0,g1,g2,g3,g4,g5,g6,g7]
      · exact ⟨rfl,(e.get i).1,HBX.out _ _ _ _ HFW.out HPK.out,HTE2.out⟩
end Go.Proofs.YtimdkcchjanpaaaGreatDoor
namespace Go.Proofs.YtimdkcchjanpaaaGreatDoor
open Go.RowKit
set_option linter.unusedVariables false
theorem dkcountTx_v {W w:World} {O:Nat → Prop} {b:Nat} {st:Int} {cg:Cg} {sx:Sx} {L:List Flt} {q:Bq} {c:Ct} {e:Ec} {B:Int} (p:Pk) (t:Bool) (h:DkW W O b st cg sx L q c e w) (ok:sx.Ok B) (hB:B ≤ 1000000) (hp:lnOk p.f) :
    Calls Tryz.prog 41 #[.pointer (some ⟨b,25,none⟩),ehV p t] w fun r w' => r = .returned (.tuple #[]) ∧ DkW W O b st cg (sx.tx p t) L q c e w':=by
  have hb0:=(Below.refl w.heap.size w).alloc (Nat.le_refl _) (ehO p t)
  have hx0:BoxEh (w.alloc (ehO p t)) w.heap.size p t:=heap_alloc_new w _
  obtain ⟨w0,e0⟩:∃ w0,w.alloc (ehO p t) = w0:=⟨_,rfl⟩
  rw [e0] at hb0 hx0
  have HE0:w.alloc (.cells #[.int .i64 p.f.i, .int .i64 p.f.n, .int .i64 p.f.l, .string p.f.d, .int .i64 p.fr, .int .i64 p.tag, .bool p.lp, .bool t] 42) = w0:=e0
  have HW0:=Lib.hid (h.later hb0)
  obtain ⟨c25,c26,c27,c28,c29,c30⟩:=HW0.out.cells25
  have fl:=HW0.out.live
  obtain ⟨x0,x1,x2,x3,x4,x5,x6,x7⟩:=hx0.cells
  have hz0:=hx0.lt
  have hbz:=HW0.out.blt
  have HZB:Hid (b < w.heap.size):=Lib.hid h.blt
  have b1:=ok.tf
  have b2:=ok.tb
  have b3:=ok.ab
  obtain ⟨l1,l2⟩:=hp
  have hne:b ≠ w.heap.size:=by have:=h.blt; omega
  have hne2:w.heap.size ≠ b:=fun e => hne e.symm
  cases t
  · have HW1:=Lib.hid (HW0.out.setSx 4 (.int .i64 (sx.ab + 1)) (sx.tx p false) rfl)
    clear h hb0 hx0 e0 ok
    go_enter Tryz.func41,Tryz.ntmps41
    go_wp2
    refine bodyPost_ret (results_none rfl _ _ _) rfl ⟨rfl,HW1.out⟩
  · have HW1:=Lib.hid (HW0.out.setSx 0 (.int .i64 (sx.tf + 1)) { sx with tf:=sx.tf + 1 } rfl)
    have HW2:=Lib.hid (HW1.out.setSx 1 (.int .i64 (sx.tb + p.f.l)) (sx.tx p true) rfl)
    clear h hb0 hx0 e0 ok
    go_enter Tryz.func41,Tryz.ntmps41
    go_upto_region 4 with fail
    obtain ⟨w1,e1⟩:∃ w1,w0.setCell ⟨b,25,none⟩ (.int .i64 (sx.tf + 1)) = w1:=⟨_,rfl⟩
    have d26:w1.cell? ⟨b,26,none⟩ = some (.int .i64 sx.tb):=by rw [← e1,World.cell?_setCell_other _ _ _ _ (by intro e; injection e with e1 e2; omega)]; exact c26
    have dx:w1.cell? ⟨w.heap.size,2,none⟩ = some (.int .i64 p.f.l):=by rw [← e1,World.cell?_setCell_other _ _ _ _ (by intro e; injection e with e1 e2; omega)]; exact x2
    have fl1:∀ j,w1.frozen? ⟨b,j,none⟩ = false:=fun j => by rw [← e1]; exact (HW1.out.live j)
    have hz1:w.heap.size < w1.heap.size:=by rw [← e1]; simpa [World.setCell] using hz0
    have hbz1:b < w1.heap.size:=by rw [← e1]; simpa [World.setCell] using hbz
    have e1':w0.setCell ⟨b,25 + 0,none⟩ (.int .i64 (sx.tf + 1)) = w1:=e1
    rw [e1'] at HW2
    rw [e1]
    clear e1 e1' c25 c26 c27 c28 c29 c30 x0 x1 x2 x3 x4 x5 x6 x7 fl hz0 hbz HW1 HE0
    go_region
    go_wp2
    go_end0
    exact ⟨rfl,HW2.out.later (Below.refl _ _).drew⟩
theorem dkcountRx_v {W w:World} {O:Nat → Prop} {b:Nat} {st:Int} {cg:Cg} {sx:Sx} {L:List Flt} {q:Bq} {c:Ct} {e:Ec} {B:Int} (f:Fr) (h:DkW W O b st cg sx L q c e w) (ok:sx.Ok B) (hB:B ≤ 1000000) (hp:lnOk f) :
    Calls Tryz.prog 65 #[.pointer (some ⟨b,25,none⟩),fmV f] w fun r w' => r = .returned (.tuple #[]) ∧ DkW W O b st cg { sx with rf:=sx.rf + 1,rb:=sx.rb + f.l } L q c e w':=by
  have hb0:=(Below.refl w.heap.size w).alloc (Nat.le_refl _) (.cells #[.int .i64 f.i, .int .i64 f.n, .int .i64 f.l, .string f.d] 35)
  have hf0:=BoxF.made w f.i f.n f.l f.d
  obtain ⟨w0,e0⟩:∃ w0,w.alloc (.cells #[.int .i64 f.i, .int .i64 f.n, .int .i64 f.l, .string f.d] 35) = w0:=⟨_,rfl⟩
  rw [e0] at hb0 hf0
  have HW0:=Lib.hid (h.later hb0)
  obtain ⟨c25,c26,c27,c28,c29,c30⟩:=HW0.out.cells25
  have fl:=HW0.out.live
  obtain ⟨x0,x1,x2,x3⟩:=hf0.cells
  have hz0:=hf0.lt
  have hbz:=HW0.out.blt
  have b1:=ok.rf
  have b2:=ok.rb
  obtain ⟨l1,l2⟩:=hp
  have hne:b ≠ w.heap.size:=by have:=h.blt; omega
  have hne2:w.heap.size ≠ b:=fun e => hne e.symm
  have HW1:=Lib.hid (HW0.out.setSx 2 (.int .i64 (sx.rf + 1)) { sx with rf:=sx.rf + 1 } rfl)
  have HW2:=Lib.hid (HW1.out.setSx 3 (.int .i64 (sx.rb + f.l)) { sx with rf:=sx.rf + 1,rb:=sx.rb + f.l } rfl)
  clear h hb0 hf0 ok
  go_enter Tryz.func65,Tryz.ntmps65
  go_upto_region 2 with fail
  obtain ⟨w1,e1⟩:∃ w1,w0.setCell ⟨b,27,none⟩ (.int .i64 (sx.rf + 1)) = w1:=⟨_,rfl⟩
  have d28:w1.cell? ⟨b,28,none⟩ = some (.int .i64 sx.rb):=by rw [← e1,World.cell?_setCell_other _ _ _ _ (by intro e; injection e with e1 e2; omega)]; exact c28
  have dx:w1.cell? ⟨w.heap.size,2,none⟩ = some (.int .i64 f.l):=by rw [← e1,World.cell?_setCell_other _ _ _ _ (by intro e; injection e with e1 e2; omega)]; exact x2
  have fl1:∀ j,w1.frozen? ⟨b,j,none⟩ = false:=fun j => by rw [← e1]; exact (HW1.out.live j)
  have hz1:w.heap.size < w1.heap.size:=by rw [← e1]; simpa [World.setCell] using hz0
  have hbz1:b < w1.heap.size:=by rw [← e1]; simpa [World.setCell] using hbz
  have e1':w0.setCell ⟨b,25 + 2,none⟩ (.int .i64 (sx.rf + 1)) = w1:=e1
  rw [e1'] at HW2
  rw [e1]
  clear e1 e1' c25 c26 c27 c28 c29 c30 x0 x1 x2 x3 fl hz0 hbz HW1 e0
  go_region
  go_wp2
  go_end0
  exact ⟨rfl,HW2.out.later (Below.refl _ _).drew⟩
theorem told_room (c:Ct):c.told.room = c.room:=by
  unfold Ct.told
  split <;> rfl
theorem told_ak {c:Ct} (h:0 ≤ c.asks ∧ c.asks < 16):0 ≤ c.told.asks ∧ c.told.asks < 16:=by
  have hk:=clrK_rng (n:=1) h 4 (Nat.le_refl _)
  unfold Ct.told
  generalize clrK c.asks 1 4 = a at hk ⊢
  split
  · exact hk
  · exact h
theorem DkS.told {s:Dr} {cg:Cg} {L:List Flt} {q:Bq} {c:Ct} {e e':Ec} (h:DkS s cg L q c e) (h0:s.st ≠ 0) (te:TabE e' c.told.bx) (sx':Sx):DkS { s with ct:=s.ct.told,sx:=sx' } cg L q c.told e':=by
  obtain ⟨e1,e2,e3,e4,e5⟩:=s.ct.told_same
  obtain ⟨f1,f2,f3,f4,f5⟩:=c.told_same
  have r1:=told_room s.ct
  have r2:=told_room c
  have a1:=told_ak h.ak
  generalize c.told = c2 at *
  generalize s.ct.told = t2 at *
  exact ⟨h.bo,h.fi,h.la,h.qL,h.qb,h.qr,f1.trans ((congrArg (fun x:Bx => x.take.1) h.cx).trans e1.symm),f2.trans (h.cf.trans e2.symm),r2.trans (h.cr.trans r1.symm),f5.trans (h.ca.trans e5.symm),fun _ => f3.trans ((h.ls h0).trans e3.symm),a1,by rw [f3]; exact h.l0,te,by rw [f1]; exact (take_ord c.bx).2.trans h.nb,h.nq,h.nr,r2.trans h.nf,fun hx => absurd hx h0⟩
theorem Dr.Ok.toldOk {s:Dr} {B:Int} (h:s.Ok B):({ s with ct:=s.ct.told,sx:=s.sx.tx s.ct.bx.take.2.2.1 s.ct.bx.take.2.2.2 }:Dr).Ok (B + 64):=by
  obtain ⟨e1,e2,e3,e4,e5⟩:=s.ct.told_same
  exact ⟨h.ct.told,h.q,by simp only; rw [e3]; have:=h.ls; omega,h.st,h.sx.tx (tk_ln h.bk) _,h.qk,by simp only; rw [e1]; exact bk_take h.bk,by simp only; rw [e2]; exact h.fk,by simp only; rw [e4,e5]; exact h.va⟩
theorem dktx_v {w:World} {v:Value} {s:Dr} {O:Nat → Prop} {B:Int} (h:DkD w v s O) (ok:s.Ok B) (hB:B ≤ 1000000) (hT:Tabs w):Calls Tryz.prog 11 #[v] w fun e w' => e = .returned (.tuple #[ehV s.tx.2.1 s.tx.2.2.1, .int .i64 s.tx.2.2.2]) ∧ Stp DkD v O w s.tx.1 w':=by
  obtain ⟨b,cg,L,q,c,e,R,rfl,rfl,hd,hs,hO⟩:=h
  have hb0:=(Below.refl w.heap.size w).alloc (Nat.le_refl _) (ehO pk0 false)
  have hx0:BoxEh (w.alloc (ehO pk0 false)) w.heap.size pk0 false:=heap_alloc_new w _
  obtain ⟨w0,e0⟩:∃ w0,w.alloc (ehO pk0 false) = w0:=⟨_,rfl⟩
  rw [e0] at hb0 hx0
  have HE0:w.alloc (.cells #[.int .i64 0, .int .i64 0, .int .i64 0, .string (ByteArray.mk #[]), .int .i64 0, .int .i64 0, .bool false, .bool false] 42) = w0:=e0
  have HX0:=Lib.hid hx0
  have HW0:=Lib.hid ((hd.later hb0).start)
  have HNO:Hid (¬ ownR b R w.heap.size):=Lib.hid (fun h1 => absurd (hd.lt _ h1) (Nat.lt_irrefl _))
  have HBX:Hid (∀ w1 w2 sx c q e,DkW w0 (ownR b R) b s.st cg sx L q c e w1 → Kept (fun k => k = w.heap.size) w1 w2 → DkW w (ownR b R) b s.st cg sx L q c e w2):=Lib.hid (fun w1 w2 sx c q e h1 h2 => DkW.box (Kept.refl _ _) (Grows.refl _ _) hb0 h1 (Nat.le_refl _) hx0.lt HNO.out h2)
  have HO:=Lib.hid hO
  have HT:=Lib.hid hT
  have HT0:=Lib.hid (hT.below hb0)
  have HS:=Lib.hid hs
  have HOK:=Lib.hid ok
  have HCO:=Lib.hid (hs.cOk ok)
  have c0:=HW0.out.cell0
  have hzr:=zeroEh
  by_cases h0:s.st = 0
  · have HE:Hid (s.tx = (s,pk0,false,7)):=Lib.hid (by unfold Dr.tx; rw [if_pos h0])
    rw [HE.out]
    have HK:=Lib.hid (dkworks_v c0 (r:=7) (by rw [if_pos h0]))
    obtain ⟨x0,x1,x2,x3,x4,x5,x6,x7⟩:=HX0.out.cells
    unfold pk0 at x0 x1 x2 x3 x4 x5 x6
    have ff:∀ j,w0.frozen? ⟨w.heap.size,j,none⟩ = false:=fun j => Lib.frozen_of_heap HX0.out j
    have hz0:=HX0.out.lt
    have HP:=Lib.hid (HX0.out.put pk0 false)
    have HPK:=Lib.hid (putEh_kept w0 w.heap.size pk0 false)
    clear hd hs ok h0 hT hb0 hx0 hO c0 e0
    go_enter Tryz.func11,Tryz.ntmps11
    go_wp2_with fail
    refine HK.out.mono ?_
    rintro r w1 ⟨rfl,rfl⟩
    go_wp2_with fail
    obtain ⟨g0,g1,g2,g3,g4,g5,g6,g7⟩:=HP.out.cells
    unfold putEh pk0 at g0 g1 g2 g3 g4 g5 g6 g7
    unfold putEh pk0 at HPK
    refine bodyPost_ret (v := .tuple #[ehV pk0 false, .int .i64 7]) ?_ rfl ⟨rfl,(HBX.out _ _ _ _ _ _ HW0.out HPK.out).stp HS.out HO.out HT.out⟩
    simp [results,Tryz.results11,go_sem,pk0,g0,g1,g2,g3,g4,g5,g6,g7]
  · have HK:=Lib.hid (dkworks_v c0 (r:=0) (by rw [if_neg h0]))
    have HC:=Lib.hid (dkended_v HW0.out HCO.out hs.te)
    have H0:=Lib.hid h0
    by_cases hf:c.bx.fin = []
    · have HE:Hid (s.tx = (s,pk0,false,6)):=Lib.hid (by
        have hf2:s.ct.bx.fin = []:=by rw [← hs.cx]; exact hf
        unfold Dr.tx; rw [if_neg h0,hf2])
      rw [HE.out]
      have HC2:Hid (Calls Tryz.prog 40 #[.pointer (some ⟨b,6,none⟩)] w0 fun r w' => r = .returned (.tuple #[ehV pk0 false, .int .i64 6]) ∧ DkW w0 (ownR b R) b s.st cg s.sx L q c e w'):=Lib.hid (HC.out.mono (fun r w' h => by
        rcases h with ⟨_,h1,h2⟩ | ⟨h1,_⟩
        · exact ⟨h1,h2⟩
        · exact absurd hf h1))
      simp only [pk0] at HC2
      clear hd hs ok h0 hT hb0 hx0 hO c0 e0 hf HC
      go_enter Tryz.func11,Tryz.ntmps11
      go_wp2_with fail
      refine HK.out.mono ?_
      rintro r w1 ⟨rfl,rfl⟩
      go_wp2_with fail
      refine HC2.out.mono ?_
      rintro r w1 ⟨rfl,hw1⟩
      have HW1:=Lib.hid hw1
      have HX1:=Lib.hid (HX0.out.kept hw1.kept HNO.out)
      have hz1:=HX1.out.lt
      have hb1:=(Below.refl w1.heap.size w1).alloc (Nat.le_refl _) (ehO pk0 false)
      clear hw1 HE0
      go_upto_region 5 with fail
      obtain ⟨w2,e2⟩:∃ w2,w1.alloc (ehO pk0 false) = w2:=⟨_,rfl⟩
      rw [e2] at hb1
      have HE2:w1.alloc (.cells #[.int .i64 0, .int .i64 0, .int .i64 0, .string (ByteArray.mk #[]), .int .i64 0, .int .i64 0, .bool false, .bool false] 42) = w2:=e2
      rw [HE2]
      have HX2:=Lib.hid (HX1.out.later hb1)
      have HW2:=Lib.hid (HW1.out.later hb1)
      obtain ⟨x0,x1,x2,x3,x4,x5,x6,x7⟩:=HX2.out.cells
      have ff:∀ j,w2.frozen? ⟨w.heap.size,j,none⟩ = false:=fun j => Lib.frozen_of_heap HX2.out j
      have hz2:=HX2.out.lt
      have HP:=Lib.hid (HX2.out.put pk0 false)
      have HPK:=Lib.hid (putEh_kept w2 w.heap.size pk0 false)
      unfold pk0 at x0 x1 x2 x3 x4 x5 x6
      clear hb1 e2 HE2 hz1
      go_wp2_with fail
      obtain ⟨g0,g1,g2,g3,g4,g5,g6,g7⟩:=HP.out.cells
      unfold putEh pk0 at g0 g1 g2 g3 g4 g5 g6 g7
      unfold putEh pk0 at HPK
      refine bodyPost_ret (v := .tuple #[ehV pk0 false, .int .i64 6]) ?_ rfl ⟨rfl,(HBX.out _ _ _ _ _ _ HW2.out HPK.out).stp HS.out HO.out HT.out⟩
      simp [results,Tryz.results11,go_sem,pk0,g0,g1,g2,g3,g4,g5,g6,g7]
    · have HE:Hid (s.tx = (({ s with ct:=s.ct.told,sx:=s.sx.tx s.ct.bx.take.2.2.1 s.ct.bx.take.2.2.2 }:Dr).push,s.ct.bx.take.2.2.1,s.ct.bx.take.2.2.2,0)):=Lib.hid (by
        have hf2:s.ct.bx.fin ≠ []:=by rw [← hs.cx]; exact hf
        unfold Dr.tx
        rw [if_neg h0]
        cases hx:s.ct.bx.fin with
        | nil => exact absurd hx hf2
        | cons y r => rfl)
      rw [HE.out]
      have HC2:Hid (Calls Tryz.prog 40 #[.pointer (some ⟨b,6,none⟩)] w0 fun r w' => r = .returned (.tuple #[ehV c.bx.take.2.2.1 c.bx.take.2.2.2, .int .i64 0]) ∧ ∃ e',DkW w0 (ownR b R) b s.st cg s.sx L q c.told e' w' ∧ TabE e' c.told.bx):=Lib.hid (HC.out.mono (fun r w' h => by
        rcases h with ⟨h1,_⟩ | ⟨_,h1,h2⟩
        · exact absurd h1 hf
        · exact ⟨h1,h2⟩))
      have HOK2:=Lib.hid ok.toldOk
      have HLN:Hid (lnOk s.ct.bx.take.2.2.1.f):=Lib.hid (tk_ln ok.bk)
      have HSX:Hid (s.sx.Ok B):=Lib.hid ok.sx
      have HDT:Hid (∀ e',TabE e' c.told.bx → DkS { s with ct:=s.ct.told,sx:=s.sx.tx s.ct.bx.take.2.2.1 s.ct.bx.take.2.2.2 } cg L q c.told e'):=Lib.hid (fun e' h => hs.told h0 h _)
      rw [hs.cx] at HC2
      generalize s.ct.bx.take.2.2.1 = p at HC2 HOK2 HLN HDT ⊢
      generalize s.ct.bx.take.2.2.2 = t at HC2 HOK2 HDT ⊢
      generalize c.told = c2 at HC2 HDT
      have HB:=Lib.hid hB
      clear hd hs ok h0 hT hb0 hx0 hO c0 e0 hf HC hB
      go_enter Tryz.func11,Tryz.ntmps11
      go_wp2_with fail
      refine HK.out.mono ?_
      rintro r w1 ⟨rfl,rfl⟩
      go_wp2_with fail
      refine HC2.out.mono ?_
      rintro r w1 ⟨rfl,e',hw1,ht1⟩
      have HX1:=Lib.hid (HX0.out.kept hw1.kept HNO.out)
      have HDS:=Lib.hid (HDT.out _ ht1)
      obtain ⟨R1,hd1,hg1,ha1⟩:=hw1.cut
      have HNZ:Hid (¬ ownR b R1 w.heap.size):=Lib.hid (fun h => by
        rcases hg1 _ h with h1 | h1
        · exact HNO.out h1
        · have:=HX0.out.lt; omega)
      have HND:Hid (¬ ownR b R1 w1.heap.size):=Lib.hid (fun h1 => absurd (hd1.lt _ h1) (Nat.lt_irrefl _))
      have hb1:=(Below.refl w1.heap.size w1).alloc (Nat.le_refl _) (ehO p t)
      have hxn:BoxEh (w1.alloc (ehO p t)) w1.heap.size p t:=heap_alloc_new w1 _
      have hz1:=HX1.out.lt
      obtain ⟨w2,e2⟩:∃ w2,w1.alloc (ehO p t) = w2:=⟨_,rfl⟩
      rw [e2] at hb1 hxn
      have HE2:w1.alloc (.cells #[.int .i64 p.f.i, .int .i64 p.f.n, .int .i64 p.f.l, .string p.f.d, .int .i64 p.fr, .int .i64 p.tag, .bool p.lp, .bool t] 42) = w2:=e2
      have HX2:=Lib.hid (HX1.out.later hb1)
      have HY2:=Lib.hid hxn
      have HW2:=Lib.hid (hd1.later hb1).start
      have HA1:Hid (∀ w5 sx q c e,DkW w2 (ownR b R1) b s.st cg sx L q c e w5 → DkW w0 (ownR b R) b s.st cg sx L q c e w5):=Lib.hid (fun w5 sx q c e h => ha1 w2 w5 s.st sx q c e hb1 h)
      have HB0:Hid (Below w1.heap.size w1 w2):=Lib.hid hb1
      have HT2:Hid (Tabs w2):=Lib.hid ((hw1.tabs HT0.out HO.out).below hb1)
      have HO2:Hid (TabO (ownR b R1)):=Lib.hid (HO.out.grows HT0.out hg1)
      clear hw1 ht1 hd1 hg1 ha1 hb1 hxn HE0 HC2
      go_upto_region 7 with fail
      clear e2 HE2 hz1
      obtain ⟨y0,y1,y2,y3,y4,y5,y6,y7⟩:=HY2.out.cells
      have hz2:=HY2.out.lt
      have hcl:∀ (n:Later w2) (b o:Nat),b < w2.heap.size → n.w.cell? ⟨b,o,none⟩ = w2.cell? ⟨b,o,none⟩:=later_cells w2
      refine wp_region_sec 4 [] (fun _ _ _ => True) (fun _ _ _ _ _ _ => True.intro) (by kernel_rfl) (by kernel_rfl) (by kernel_rfl) (by kernel_rfl) (by kernel_rfl) ?_
      simp only [List.take_succ_cons,List.take_zero,List.drop_succ_cons,List.drop_zero]
      repeat ((first | refine sec_plain (by rfl) (by rfl) (by rfl) (by rfl) ?_ | refine sec_nil (by rfl) (by rfl) (by rfl) (by rfl) (by rfl) ?_); intro K hK; go_big_quiet_op; go_big_quiet_on)
      intro xs m9 hF
      simp only [secFill]
      have HW3:=Lib.hid (HW2.out.later m9.h)
      clear hF xs hcl y0 y1 y2 y3 y4 y5 y6 y7 hz2
      generalize m9.w = w3 at HW3 ⊢
      go_wp2_with fail
      refine (dkcountTx_v p t HW3.out HSX.out HB.out HLN.out).mono ?_
      rintro r w4 ⟨rfl,hw4⟩
      have HW4:=Lib.hid hw4
      clear hw4
      go_wp2_with fail
      refine (dkpush_v (s := { s with ct:=s.ct.told,sx:=s.sx.tx p t }) HW4.out HDS.out HOK2.out HT2.out HO2.out).mono ?_
      rintro r w5 ⟨rfl,q5,c5,e5,hw5,hs5⟩
      have hk5:=hw5.kept
      have HX5:=Lib.hid (HX2.out.kept hk5 HNZ.out)
      have HY5:=Lib.hid (HY2.out.kept hk5 HND.out)
      have HS5:=Lib.hid hs5
      have hst:({ s with ct:=s.ct.told,sx:=s.sx.tx p t }:Dr).push.st = s.st:=by
        unfold Dr.push Dr.pushTo
        split <;> rfl
      rw [hst] at hw5
      have HW5:=Lib.hid (HA1.out _ _ _ _ _ hw5)
      have HST:=Lib.hid hst
      clear hw5 hs5 hk5 hst
      obtain ⟨y0,y1,y2,y3,y4,y5,y6,y7⟩:=HY5.out.cells
      obtain ⟨x0,x1,x2,x3,x4,x5,x6,x7⟩:=HX5.out.cells
      unfold pk0 at x0 x1 x2 x3 x4 x5 x6
      have hzy:=HY5.out.lt
      have hz5:=HX5.out.lt
      have ff:∀ j,w5.frozen? ⟨w.heap.size,j,none⟩ = false:=fun j => Lib.frozen_of_heap HX5.out j
      have HP:=Lib.hid (HX5.out.put p t)
      have HPK:=Lib.hid (putEh_kept w5 w.heap.size p t)
      obtain ⟨w6,e6⟩:∃ w6,putEh w5 w.heap.size p t = w6:=⟨_,rfl⟩
      rw [e6] at HP HPK
      have hfold:(((((((w5.setCell ⟨w.heap.size,0,none⟩ (.int .i64 p.f.i)).setCell ⟨w.heap.size,1,none⟩ (.int .i64 p.f.n)).setCell ⟨w.heap.size,2,none⟩ (.int .i64 p.f.l)).setCell ⟨w.heap.size,3,none⟩ (.string p.f.d)).setCell ⟨w.heap.size,4,none⟩ (.int .i64 p.fr)).setCell ⟨w.heap.size,5,none⟩ (.int .i64 p.tag)).setCell ⟨w.heap.size,6,none⟩ (.bool p.lp)).setCell ⟨w.heap.size,7,none⟩ (.bool t) = w6:=e6
      clear e6
      go_wp2_with fail
      obtain ⟨g0,g1,g2,g3,g4,g5,g6,g7⟩:=HP.out.cells
      refine bodyPost_ret (v := .tuple #[ehV p t, .int .i64 0]) ?_ rfl ?_
      · simp [results,Tryz.results11,go_sem,g0,g1,g2,g3,g4,g5,g6,g7]
      · have h9:=HBX.out _ _ _ _ _ _ HW5.out HPK.out
        have h10:DkW w (ownR b R) b ({ s with ct:=s.ct.told,sx:=s.sx.tx p t }:Dr).push.st cg ({ s with ct:=s.ct.told,sx:=s.sx.tx p t }:Dr).push.sx L q5 c5 e5 w6:=by rw [HST.out]; exact h9
        exact ⟨rfl,h10.stp HS5.out HO.out HT.out⟩
end Go.Proofs.YtimdkcchjanpaaaGreatDoor
