/- Drv: the law's do. Printed by gen_do.py. -/
import Derived.Test.YtimdkcchjanpaaaGreatDoorZbg
import Derived.Test.YtimdkcchjanpaaaGreatDoorZat
import Derived.Deep.RegionWith
set_option maxHeartbeats 8000000
namespace Go.Proofs.YtimdkcchjanpaaaGreatDoor
open Go.RowKit
set_option linter.unusedVariables false
def DrvO9 (w:World) (b:Nat) (o:Op9):Prop:=w.heap[b]? = some (.cells #[.int .i64 o.k, .int .i64 o.b, .int .i64 o.p.f.i, .int .i64 o.p.f.n, .int .i64 o.p.f.l, .string o.p.f.d, .int .i64 o.p.fr, .int .i64 o.p.tag, .bool o.p.lp] 39 (0,0))
theorem DrvO9.made (w:World) (o:Op9):DrvO9 (w.alloc (.cells #[.int .i64 o.k, .int .i64 o.b, .int .i64 o.p.f.i, .int .i64 o.p.f.n, .int .i64 o.p.f.l, .string o.p.f.d, .int .i64 o.p.fr, .int .i64 o.p.tag, .bool o.p.lp] 39)) w.heap.size o:=by unfold DrvO9 World.alloc; simp
theorem DrvO9.lt {w:World} {b:Nat} {o:Op9} (h:DrvO9 w b o):b < w.heap.size:=(Array.getElem?_eq_some_iff.1 h).1
theorem DrvO9.kept {w w':World} {b:Nat} {o:Op9} {O:Nat → Prop} (h:DrvO9 w b o) (hk:Kept O w w') (hn:¬ O b):DrvO9 w' b o:=(hk.block b h.lt hn).trans h
theorem DrvO9.later {w w':World} {b:Nat} {o:Op9} (h:DrvO9 w b o) (hb:Below w.heap.size w w'):DrvO9 w' b o:=(hb.block b h.lt).trans h
theorem DrvO9.cells {w:World} {b:Nat} {o:Op9} (h:DrvO9 w b o):w.cell? ⟨b,0,none⟩ = some (.int .i64 o.k) ∧ w.cell? ⟨b,1,none⟩ = some (.int .i64 o.b) ∧ w.cell? ⟨b,2,none⟩ = some (.int .i64 o.p.f.i) ∧ w.cell? ⟨b,3,none⟩ = some (.int .i64 o.p.f.n) ∧ w.cell? ⟨b,4,none⟩ = some (.int .i64 o.p.f.l) ∧
    w.cell? ⟨b,5,none⟩ = some (.string o.p.f.d) ∧ w.cell? ⟨b,6,none⟩ = some (.int .i64 o.p.fr) ∧ w.cell? ⟨b,7,none⟩ = some (.int .i64 o.p.tag) ∧ w.cell? ⟨b,8,none⟩ = some (.bool o.p.lp):=by
  unfold DrvO9 at h
  refine ⟨?_, ?_, ?_, ?_, ?_, ?_, ?_, ?_, ?_⟩ <;> (rw [Lib.cell_of_heap h]; rfl)
def Dr.doOp (s:Dr) (o:Op9):Dr :=
  if o.k = 0 then (s.send o.b o.p).1 else if o.k = 1 then s.tx.1 else if o.k = 2 then s.rx.1 else if o.k = 3 then s.won.1 else if o.k = 4 then (s.hear o.p.f).1 else if o.k = 5 then s.off else if o.k = 6 then s.fix.1
  else if o.k = 7 then s.back else if o.k = 8 then s.up.1 else if o.k = 9 then s.down.1 else s
abbrev opV9 (o:Op9):Value := .agg #[.int .i64 o.k, .int .i64 o.b, .int .i64 o.p.f.i, .int .i64 o.p.f.n, .int .i64 o.p.f.l, .string o.p.f.d, .int .i64 o.p.fr, .int .i64 o.p.tag, .bool o.p.lp]
structure DoPre (w0:World) (s:Dr) (B:Int):Prop where
  ok:s.Ok B
  sl:SlG flC 3 w0 w0.heap.size s.c.va s.la
  fit:∀ x ∈ s.la,x.fits
  few:s.c.n ≤ 50
theorem DoPre.acc {w0 w:World} {s:Dr} {B:Int} {O:Nat → Prop} (h:DoPre w0 s B) (hb:Below w0.heap.size w0 w) (hn:∀ k,O k → w0.heap.size ≤ k):AccD w s O:=⟨slA_old h.sl hb hn,h.fit,h.few⟩
theorem DrD.parts {w:World} {g:Nat} {s:Dr} {O:Nat → Prop} (h:DrD w (.pointer (some ⟨g,0,none⟩)) s O):∃ cp qp Oc Oq,O = drO g Oc Oq ∧ DrM w g cp qp Oc Oq s:=by
  obtain ⟨b,cp,qp,Oc,Oq,h1,h2,h3⟩:=h
  injection h1 with h1
  injection h1 with h1
  injection h1 with h1
  subst h1
  exact ⟨cp,qp,Oc,Oq,h2,h3⟩
theorem BoxF.kept {w w':World} {b:Nat} {i n l:Int} {d:ByteArray} {O:Nat → Prop} (h:BoxF w b i n l d) (hk:Kept O w w') (hn:¬ O b):BoxF w' b i n l d:=(hk.block b h.lt hn).trans h
def BoxE (w:World) (b:Nat) (p:Pk) (x:Bool):Prop:=w.heap[b]? = some (.cells #[.int .i64 p.f.i, .int .i64 p.f.n, .int .i64 p.f.l, .string p.f.d, .int .i64 p.fr, .int .i64 p.tag, .bool p.lp, .bool x] 42 (0,0))
theorem BoxE.made (w:World) (p:Pk) (x:Bool):BoxE (w.alloc (.cells #[.int .i64 p.f.i, .int .i64 p.f.n, .int .i64 p.f.l, .string p.f.d, .int .i64 p.fr, .int .i64 p.tag, .bool p.lp, .bool x] 42)) w.heap.size p x:=by unfold BoxE World.alloc; simp
theorem BoxE.lt {w:World} {b:Nat} {p:Pk} {x:Bool} (h:BoxE w b p x):b < w.heap.size:=(Array.getElem?_eq_some_iff.1 h).1
theorem BoxE.kept {w w':World} {b:Nat} {p:Pk} {x:Bool} {O:Nat → Prop} (h:BoxE w b p x) (hk:Kept O w w') (hn:¬ O b):BoxE w' b p x:=(hk.block b h.lt hn).trans h
theorem BoxE.cells {w:World} {b:Nat} {p:Pk} {x:Bool} (h:BoxE w b p x):w.cell? ⟨b,0,none⟩ = some (.int .i64 p.f.i) ∧ w.cell? ⟨b,1,none⟩ = some (.int .i64 p.f.n) ∧ w.cell? ⟨b,2,none⟩ = some (.int .i64 p.f.l) ∧ w.cell? ⟨b,3,none⟩ = some (.string p.f.d) ∧
    w.cell? ⟨b,4,none⟩ = some (.int .i64 p.fr) ∧ w.cell? ⟨b,5,none⟩ = some (.int .i64 p.tag) ∧ w.cell? ⟨b,6,none⟩ = some (.bool p.lp) ∧ w.cell? ⟨b,7,none⟩ = some (.bool x):=by
  unfold BoxE at h
  refine ⟨?_, ?_, ?_, ?_, ?_, ?_, ?_, ?_⟩ <;> (rw [Lib.cell_of_heap h]; rfl)
def DoPostD (I:World → Value → Dr → (Nat → Prop) → Prop) (w0:World) (v v':Value) (s t:Dr) (o:Op9) (U:Nat → Prop) (w:World) (e:Ending) (w':World):Prop :=
  ∃ bo O1 O2,e = .returned (.bool bo) ∧ (s = t → bo = true) ∧ Pair I DrD w0 v v' (s.doOp o) (t.doOp o) O1 O2 w' ∧ Kept U w w' ∧ Grows U w O1 ∧ Grows U w O2
set_option maxRecDepth 4000 in
theorem ddo_off {T:World → Prop} {I:World → Value → Dr → (Nat → Prop) → Prop} (A:DrvI T I) {w0 w:World} {v:Value} {g:Nat} {s t:Dr} {O O':Nat → Prop} {m B:Int} {p:Pk} (h:Pair I DrD w0 v (.pointer (some ⟨g,0,none⟩)) s t O O' w) (hs:DoPre w0 s B) (ht:DoPre w0 t B) (hB:B ≤ 1000000) (hT:T w0) (hp:p.ok) (hm : -9223372036854775808 ≤ m ∧ m ≤ 9223372036854775807) :
    Calls Tryz.prog 12 #[v, .pointer (some ⟨g,0,none⟩),opV9 ⟨5,m,p⟩] w (DoPostD I w0 v (.pointer (some ⟨g,0,none⟩)) s t ⟨5,m,p⟩ (fun k => O k ∨ O' k) w):=by
  have HA:=Lib.hid A
  have HT:=Lib.hid hT
  have HS:=Lib.hid hs
  have HS2:=Lib.hid ht
  have HB:=Lib.hid hB
  have HPO:=Lib.hid hp
  have HMO:=Lib.hid hm
  have hb0:=(Below.refl w.heap.size w).alloc (Nat.le_refl _) (.cells #[.int .i64 5, .int .i64 m, .int .i64 p.f.i, .int .i64 p.f.n, .int .i64 p.f.l, .string p.f.d, .int .i64 p.fr, .int .i64 p.tag, .bool p.lp] 39)
  have H0:=Lib.hid (h.later A.obj isObj_dr hb0)
  have HW1:=Lib.hid hb0
  have HB0:=Lib.hid (DrvO9.made w ⟨5,m,p⟩)
  have HNO:Hid (¬ (O w.heap.size ∨ O' w.heap.size)):=Lib.hid (fun hh => by
    rcases hh with hh | hh
    · have:=A.obj.lt h.a.inv _ hh; omega
    · have:=isObj_dr.lt h.b.inv _ hh; omega)
  have HZ:Hid (w.heap.size < (w.alloc (.cells #[.int .i64 5, .int .i64 m, .int .i64 p.f.i, .int .i64 p.f.n, .int .i64 p.f.l, .string p.f.d, .int .i64 p.fr, .int .i64 p.tag, .bool p.lp] 39)).heap.size):=Lib.hid (by simp)
  clear A hT hs ht hB hp h hb0 hm
  go_enter Tryz.func12,Tryz.ntmps12
  have HK0:=Lib.hid (PairJ.start HA.out.obj isObj_dr H0.out HW1.out)
  obtain ⟨a0,a1,a2,a3,a4,a5,a6,a7,a8⟩:=HB0.out.cells
  simp only at a0 a1 a2 a3 a4 a5 a6 a7 a8
  have HD:Hid (s.doOp ⟨5,m,p⟩ = s.off):=Lib.hid (by unfold Dr.doOp; simp only [show ¬ ((5:Int) = 0) by decide,show ¬ ((5:Int) = 1) by decide,show ¬ ((5:Int) = 2) by decide,show ¬ ((5:Int) = 3) by decide,show ¬ ((5:Int) = 4) by decide,if_true,if_false])
  have HE:Hid (t.doOp ⟨5,m,p⟩ = t.off):=Lib.hid (by unfold Dr.doOp; simp only [show ¬ ((5:Int) = 0) by decide,show ¬ ((5:Int) = 1) by decide,show ¬ ((5:Int) = 2) by decide,show ¬ ((5:Int) = 3) by decide,show ¬ ((5:Int) = 4) by decide,if_true,if_false])
  go_wp2_with fail
  refine (HA.out.off HK0.out.pr.a.inv HS.out.ok (HA.out.tab HT.out HK0.out.pr.a.below)).mono ?_
  rintro e w2 ⟨rfl,O1,hi,hk,hg⟩
  have HK1:=Lib.hid (HK0.out.stepA HA.out.obj isObj_dr hi hk hg)
  clear a0 a1 a2 a3 a4 a5 a6 a7 a8 hi hk hg
  go_wp2_with fail
  refine (xdoff_v HK1.out.pr.b.inv HS2.out.ok).mono ?_
  rintro e w3 ⟨rfl,O2,hi,hk,hg⟩
  have HK2:=Lib.hid (HK1.out.stepB HA.out.obj isObj_dr hi hk hg)
  clear hi hk hg
  go_wp2
  go_ret
  exact ⟨_,O1,O2,rfl,fun _ => rfl,by rw [HD.out,HE.out]; exact HK2.out.pr,HK2.out.kp,HK2.out.g1,HK2.out.g2⟩
set_option maxRecDepth 4000 in
theorem ddo_fix {T:World → Prop} {I:World → Value → Dr → (Nat → Prop) → Prop} (A:DrvI T I) {w0 w:World} {v:Value} {g:Nat} {s t:Dr} {O O':Nat → Prop} {m B:Int} {p:Pk} (h:Pair I DrD w0 v (.pointer (some ⟨g,0,none⟩)) s t O O' w) (hs:DoPre w0 s B) (ht:DoPre w0 t B) (hB:B ≤ 1000000) (hT:T w0) (hp:p.ok) (hm : -9223372036854775808 ≤ m ∧ m ≤ 9223372036854775807) :
    Calls Tryz.prog 12 #[v, .pointer (some ⟨g,0,none⟩),opV9 ⟨6,m,p⟩] w (DoPostD I w0 v (.pointer (some ⟨g,0,none⟩)) s t ⟨6,m,p⟩ (fun k => O k ∨ O' k) w):=by
  have HA:=Lib.hid A
  have HT:=Lib.hid hT
  have HS:=Lib.hid hs
  have HS2:=Lib.hid ht
  have HB:=Lib.hid hB
  have HPO:=Lib.hid hp
  have HMO:=Lib.hid hm
  have hb0:=(Below.refl w.heap.size w).alloc (Nat.le_refl _) (.cells #[.int .i64 6, .int .i64 m, .int .i64 p.f.i, .int .i64 p.f.n, .int .i64 p.f.l, .string p.f.d, .int .i64 p.fr, .int .i64 p.tag, .bool p.lp] 39)
  have H0:=Lib.hid (h.later A.obj isObj_dr hb0)
  have HW1:=Lib.hid hb0
  have HB0:=Lib.hid (DrvO9.made w ⟨6,m,p⟩)
  have HNO:Hid (¬ (O w.heap.size ∨ O' w.heap.size)):=Lib.hid (fun hh => by
    rcases hh with hh | hh
    · have:=A.obj.lt h.a.inv _ hh; omega
    · have:=isObj_dr.lt h.b.inv _ hh; omega)
  have HZ:Hid (w.heap.size < (w.alloc (.cells #[.int .i64 6, .int .i64 m, .int .i64 p.f.i, .int .i64 p.f.n, .int .i64 p.f.l, .string p.f.d, .int .i64 p.fr, .int .i64 p.tag, .bool p.lp] 39)).heap.size):=Lib.hid (by simp)
  clear A hT hs ht hB hp h hb0 hm
  go_enter Tryz.func12,Tryz.ntmps12
  have HK0:=Lib.hid (PairJ.start HA.out.obj isObj_dr H0.out HW1.out)
  obtain ⟨a0,a1,a2,a3,a4,a5,a6,a7,a8⟩:=HB0.out.cells
  simp only at a0 a1 a2 a3 a4 a5 a6 a7 a8
  have HD:Hid (s.doOp ⟨6,m,p⟩ = s.fix.1):=Lib.hid (by unfold Dr.doOp; simp only [show ¬ ((6:Int) = 0) by decide,show ¬ ((6:Int) = 1) by decide,show ¬ ((6:Int) = 2) by decide,show ¬ ((6:Int) = 3) by decide,show ¬ ((6:Int) = 4) by decide,show ¬ ((6:Int) = 5) by decide,if_true,if_false])
  have HE:Hid (t.doOp ⟨6,m,p⟩ = t.fix.1):=Lib.hid (by unfold Dr.doOp; simp only [show ¬ ((6:Int) = 0) by decide,show ¬ ((6:Int) = 1) by decide,show ¬ ((6:Int) = 2) by decide,show ¬ ((6:Int) = 3) by decide,show ¬ ((6:Int) = 4) by decide,show ¬ ((6:Int) = 5) by decide,if_true,if_false])
  go_wp2_with fail
  refine (HA.out.fix HK0.out.pr.a.inv HS.out.ok HB.out (HA.out.tab HT.out HK0.out.pr.a.below)).mono ?_
  rintro e w2 ⟨rfl,O1,hi,hk,hg⟩
  have HK1:=Lib.hid (HK0.out.stepA HA.out.obj isObj_dr hi hk hg)
  clear a0 a1 a2 a3 a4 a5 a6 a7 a8 hi hk hg
  go_wp2_with fail
  refine (xdfix_v HK1.out.pr.b.inv HS2.out.ok (by have:=HB.out; omega)).mono ?_
  rintro e w3 ⟨rfl,O2,hi,hk,hg⟩
  have HK2:=Lib.hid (HK1.out.stepB HA.out.obj isObj_dr hi hk hg)
  clear hi hk hg
  go_wp2
  go_ret
  exact ⟨_,O1,O2,rfl,fun hh => by subst hh; simp,by rw [HD.out,HE.out]; exact HK2.out.pr,HK2.out.kp,HK2.out.g1,HK2.out.g2⟩
set_option maxRecDepth 4000 in
theorem ddo_back {T:World → Prop} {I:World → Value → Dr → (Nat → Prop) → Prop} (A:DrvI T I) {w0 w:World} {v:Value} {g:Nat} {s t:Dr} {O O':Nat → Prop} {m B:Int} {p:Pk} (h:Pair I DrD w0 v (.pointer (some ⟨g,0,none⟩)) s t O O' w) (hs:DoPre w0 s B) (ht:DoPre w0 t B) (hB:B ≤ 1000000) (hT:T w0) (hp:p.ok) (hm : -9223372036854775808 ≤ m ∧ m ≤ 9223372036854775807) :
    Calls Tryz.prog 12 #[v, .pointer (some ⟨g,0,none⟩),opV9 ⟨7,m,p⟩] w (DoPostD I w0 v (.pointer (some ⟨g,0,none⟩)) s t ⟨7,m,p⟩ (fun k => O k ∨ O' k) w):=by
  have HA:=Lib.hid A
  have HT:=Lib.hid hT
  have HS:=Lib.hid hs
  have HS2:=Lib.hid ht
  have HB:=Lib.hid hB
  have HPO:=Lib.hid hp
  have HMO:=Lib.hid hm
  have hb0:=(Below.refl w.heap.size w).alloc (Nat.le_refl _) (.cells #[.int .i64 7, .int .i64 m, .int .i64 p.f.i, .int .i64 p.f.n, .int .i64 p.f.l, .string p.f.d, .int .i64 p.fr, .int .i64 p.tag, .bool p.lp] 39)
  have H0:=Lib.hid (h.later A.obj isObj_dr hb0)
  have HW1:=Lib.hid hb0
  have HB0:=Lib.hid (DrvO9.made w ⟨7,m,p⟩)
  have HNO:Hid (¬ (O w.heap.size ∨ O' w.heap.size)):=Lib.hid (fun hh => by
    rcases hh with hh | hh
    · have:=A.obj.lt h.a.inv _ hh; omega
    · have:=isObj_dr.lt h.b.inv _ hh; omega)
  have HZ:Hid (w.heap.size < (w.alloc (.cells #[.int .i64 7, .int .i64 m, .int .i64 p.f.i, .int .i64 p.f.n, .int .i64 p.f.l, .string p.f.d, .int .i64 p.fr, .int .i64 p.tag, .bool p.lp] 39)).heap.size):=Lib.hid (by simp)
  clear A hT hs ht hB hp h hb0 hm
  go_enter Tryz.func12,Tryz.ntmps12
  have HK0:=Lib.hid (PairJ.start HA.out.obj isObj_dr H0.out HW1.out)
  obtain ⟨a0,a1,a2,a3,a4,a5,a6,a7,a8⟩:=HB0.out.cells
  simp only at a0 a1 a2 a3 a4 a5 a6 a7 a8
  have HD:Hid (s.doOp ⟨7,m,p⟩ = s.back):=Lib.hid (by unfold Dr.doOp; simp only [show ¬ ((7:Int) = 0) by decide,show ¬ ((7:Int) = 1) by decide,show ¬ ((7:Int) = 2) by decide,show ¬ ((7:Int) = 3) by decide,show ¬ ((7:Int) = 4) by decide,show ¬ ((7:Int) = 5) by decide,show ¬ ((7:Int) = 6) by decide,if_true,if_false])
  have HE:Hid (t.doOp ⟨7,m,p⟩ = t.back):=Lib.hid (by unfold Dr.doOp; simp only [show ¬ ((7:Int) = 0) by decide,show ¬ ((7:Int) = 1) by decide,show ¬ ((7:Int) = 2) by decide,show ¬ ((7:Int) = 3) by decide,show ¬ ((7:Int) = 4) by decide,show ¬ ((7:Int) = 5) by decide,show ¬ ((7:Int) = 6) by decide,if_true,if_false])
  go_wp2_with fail
  refine (HA.out.back HK0.out.pr.a.inv HS.out.ok (HA.out.tab HT.out HK0.out.pr.a.below)).mono ?_
  rintro e w2 ⟨rfl,O1,hi,hk,hg⟩
  have HK1:=Lib.hid (HK0.out.stepA HA.out.obj isObj_dr hi hk hg)
  clear a0 a1 a2 a3 a4 a5 a6 a7 a8 hi hk hg
  go_wp2_with fail
  refine (xdback_v HK1.out.pr.b.inv HS2.out.ok).mono ?_
  rintro e w3 ⟨rfl,O2,hi,hk,hg⟩
  have HK2:=Lib.hid (HK1.out.stepB HA.out.obj isObj_dr hi hk hg)
  clear hi hk hg
  go_wp2
  go_ret
  exact ⟨_,O1,O2,rfl,fun _ => rfl,by rw [HD.out,HE.out]; exact HK2.out.pr,HK2.out.kp,HK2.out.g1,HK2.out.g2⟩
set_option maxRecDepth 4000 in
theorem ddo_up {T:World → Prop} {I:World → Value → Dr → (Nat → Prop) → Prop} (A:DrvI T I) {w0 w:World} {v:Value} {g:Nat} {s t:Dr} {O O':Nat → Prop} {m B:Int} {p:Pk} (h:Pair I DrD w0 v (.pointer (some ⟨g,0,none⟩)) s t O O' w) (hs:DoPre w0 s B) (ht:DoPre w0 t B) (hB:B ≤ 1000000) (hT:T w0) (hp:p.ok) (hm : -9223372036854775808 ≤ m ∧ m ≤ 9223372036854775807) :
    Calls Tryz.prog 12 #[v, .pointer (some ⟨g,0,none⟩),opV9 ⟨8,m,p⟩] w (DoPostD I w0 v (.pointer (some ⟨g,0,none⟩)) s t ⟨8,m,p⟩ (fun k => O k ∨ O' k) w):=by
  have HA:=Lib.hid A
  have HT:=Lib.hid hT
  have HS:=Lib.hid hs
  have HS2:=Lib.hid ht
  have HB:=Lib.hid hB
  have HPO:=Lib.hid hp
  have HMO:=Lib.hid hm
  have hb0:=(Below.refl w.heap.size w).alloc (Nat.le_refl _) (.cells #[.int .i64 8, .int .i64 m, .int .i64 p.f.i, .int .i64 p.f.n, .int .i64 p.f.l, .string p.f.d, .int .i64 p.fr, .int .i64 p.tag, .bool p.lp] 39)
  have H0:=Lib.hid (h.later A.obj isObj_dr hb0)
  have HW1:=Lib.hid hb0
  have HB0:=Lib.hid (DrvO9.made w ⟨8,m,p⟩)
  have HNO:Hid (¬ (O w.heap.size ∨ O' w.heap.size)):=Lib.hid (fun hh => by
    rcases hh with hh | hh
    · have:=A.obj.lt h.a.inv _ hh; omega
    · have:=isObj_dr.lt h.b.inv _ hh; omega)
  have HZ:Hid (w.heap.size < (w.alloc (.cells #[.int .i64 8, .int .i64 m, .int .i64 p.f.i, .int .i64 p.f.n, .int .i64 p.f.l, .string p.f.d, .int .i64 p.fr, .int .i64 p.tag, .bool p.lp] 39)).heap.size):=Lib.hid (by simp)
  clear A hT hs ht hB hp h hb0 hm
  go_enter Tryz.func12,Tryz.ntmps12
  have HK0:=Lib.hid (PairJ.start HA.out.obj isObj_dr H0.out HW1.out)
  obtain ⟨a0,a1,a2,a3,a4,a5,a6,a7,a8⟩:=HB0.out.cells
  simp only at a0 a1 a2 a3 a4 a5 a6 a7 a8
  have HD:Hid (s.doOp ⟨8,m,p⟩ = s.up.1):=Lib.hid (by unfold Dr.doOp; simp only [show ¬ ((8:Int) = 0) by decide,show ¬ ((8:Int) = 1) by decide,show ¬ ((8:Int) = 2) by decide,show ¬ ((8:Int) = 3) by decide,show ¬ ((8:Int) = 4) by decide,show ¬ ((8:Int) = 5) by decide,show ¬ ((8:Int) = 6) by decide,show ¬ ((8:Int) = 7) by decide,if_true,if_false])
  have HE:Hid (t.doOp ⟨8,m,p⟩ = t.up.1):=Lib.hid (by unfold Dr.doOp; simp only [show ¬ ((8:Int) = 0) by decide,show ¬ ((8:Int) = 1) by decide,show ¬ ((8:Int) = 2) by decide,show ¬ ((8:Int) = 3) by decide,show ¬ ((8:Int) = 4) by decide,show ¬ ((8:Int) = 5) by decide,show ¬ ((8:Int) = 6) by decide,show ¬ ((8:Int) = 7) by decide,if_true,if_false])
  go_wp2_with fail
  refine (HA.out.up HK0.out.pr.a.inv HS.out.ok (HA.out.tab HT.out HK0.out.pr.a.below) (HS.out.acc HK0.out.pr.a.below HK0.out.pr.a.new)).mono ?_
  rintro e w2 ⟨rfl,O1,hi,hk,hg⟩
  have HK1:=Lib.hid (HK0.out.stepA HA.out.obj isObj_dr hi hk hg)
  clear a0 a1 a2 a3 a4 a5 a6 a7 a8 hi hk hg
  go_wp2_with fail
  refine (xdup_v HK1.out.pr.b.inv).mono ?_
  rintro e w3 ⟨rfl,O2,hi,hk,hg⟩
  have HK2:=Lib.hid (HK1.out.stepB HA.out.obj isObj_dr hi hk hg)
  clear hi hk hg
  go_wp2
  go_ret
  exact ⟨_,O1,O2,rfl,fun hh => by subst hh; simp,by rw [HD.out,HE.out]; exact HK2.out.pr,HK2.out.kp,HK2.out.g1,HK2.out.g2⟩
set_option maxRecDepth 4000 in
theorem ddo_down {T:World → Prop} {I:World → Value → Dr → (Nat → Prop) → Prop} (A:DrvI T I) {w0 w:World} {v:Value} {g:Nat} {s t:Dr} {O O':Nat → Prop} {m B:Int} {p:Pk} (h:Pair I DrD w0 v (.pointer (some ⟨g,0,none⟩)) s t O O' w) (hs:DoPre w0 s B) (ht:DoPre w0 t B) (hB:B ≤ 1000000) (hT:T w0) (hp:p.ok) (hm : -9223372036854775808 ≤ m ∧ m ≤ 9223372036854775807) :
    Calls Tryz.prog 12 #[v, .pointer (some ⟨g,0,none⟩),opV9 ⟨9,m,p⟩] w (DoPostD I w0 v (.pointer (some ⟨g,0,none⟩)) s t ⟨9,m,p⟩ (fun k => O k ∨ O' k) w):=by
  have HA:=Lib.hid A
  have HT:=Lib.hid hT
  have HS:=Lib.hid hs
  have HS2:=Lib.hid ht
  have HB:=Lib.hid hB
  have HPO:=Lib.hid hp
  have HMO:=Lib.hid hm
  have hb0:=(Below.refl w.heap.size w).alloc (Nat.le_refl _) (.cells #[.int .i64 9, .int .i64 m, .int .i64 p.f.i, .int .i64 p.f.n, .int .i64 p.f.l, .string p.f.d, .int .i64 p.fr, .int .i64 p.tag, .bool p.lp] 39)
  have H0:=Lib.hid (h.later A.obj isObj_dr hb0)
  have HW1:=Lib.hid hb0
  have HB0:=Lib.hid (DrvO9.made w ⟨9,m,p⟩)
  have HNO:Hid (¬ (O w.heap.size ∨ O' w.heap.size)):=Lib.hid (fun hh => by
    rcases hh with hh | hh
    · have:=A.obj.lt h.a.inv _ hh; omega
    · have:=isObj_dr.lt h.b.inv _ hh; omega)
  have HZ:Hid (w.heap.size < (w.alloc (.cells #[.int .i64 9, .int .i64 m, .int .i64 p.f.i, .int .i64 p.f.n, .int .i64 p.f.l, .string p.f.d, .int .i64 p.fr, .int .i64 p.tag, .bool p.lp] 39)).heap.size):=Lib.hid (by simp)
  clear A hT hs ht hB hp h hb0 hm
  go_enter Tryz.func12,Tryz.ntmps12
  have HK0:=Lib.hid (PairJ.start HA.out.obj isObj_dr H0.out HW1.out)
  obtain ⟨a0,a1,a2,a3,a4,a5,a6,a7,a8⟩:=HB0.out.cells
  simp only at a0 a1 a2 a3 a4 a5 a6 a7 a8
  have HD:Hid (s.doOp ⟨9,m,p⟩ = s.down.1):=Lib.hid (by unfold Dr.doOp; simp only [show ¬ ((9:Int) = 0) by decide,show ¬ ((9:Int) = 1) by decide,show ¬ ((9:Int) = 2) by decide,show ¬ ((9:Int) = 3) by decide,show ¬ ((9:Int) = 4) by decide,show ¬ ((9:Int) = 5) by decide,show ¬ ((9:Int) = 6) by decide,show ¬ ((9:Int) = 7) by decide,show ¬ ((9:Int) = 8) by decide,if_true,if_false])
  have HE:Hid (t.doOp ⟨9,m,p⟩ = t.down.1):=Lib.hid (by unfold Dr.doOp; simp only [show ¬ ((9:Int) = 0) by decide,show ¬ ((9:Int) = 1) by decide,show ¬ ((9:Int) = 2) by decide,show ¬ ((9:Int) = 3) by decide,show ¬ ((9:Int) = 4) by decide,show ¬ ((9:Int) = 5) by decide,show ¬ ((9:Int) = 6) by decide,show ¬ ((9:Int) = 7) by decide,show ¬ ((9:Int) = 8) by decide,if_true,if_false])
  go_wp2_with fail
  refine (HA.out.down HK0.out.pr.a.inv HS.out.ok (HA.out.tab HT.out HK0.out.pr.a.below) (HS.out.acc HK0.out.pr.a.below HK0.out.pr.a.new)).mono ?_
  rintro e w2 ⟨rfl,O1,hi,hk,hg⟩
  have HK1:=Lib.hid (HK0.out.stepA HA.out.obj isObj_dr hi hk hg)
  clear a0 a1 a2 a3 a4 a5 a6 a7 a8 hi hk hg
  go_wp2_with fail
  refine (xddown_v HK1.out.pr.b.inv).mono ?_
  rintro e w3 ⟨rfl,O2,hi,hk,hg⟩
  have HK2:=Lib.hid (HK1.out.stepB HA.out.obj isObj_dr hi hk hg)
  clear hi hk hg
  go_wp2
  go_ret
  exact ⟨_,O1,O2,rfl,fun hh => by subst hh; simp,by rw [HD.out,HE.out]; exact HK2.out.pr,HK2.out.kp,HK2.out.g1,HK2.out.g2⟩
set_option maxRecDepth 4000 in
theorem ddo_rx {T:World → Prop} {I:World → Value → Dr → (Nat → Prop) → Prop} (A:DrvI T I) {w0 w:World} {v:Value} {g:Nat} {s t:Dr} {O O':Nat → Prop} {m B:Int} {p:Pk} (h:Pair I DrD w0 v (.pointer (some ⟨g,0,none⟩)) s t O O' w) (hs:DoPre w0 s B) (ht:DoPre w0 t B) (hB:B ≤ 1000000) (hT:T w0) (hp:p.ok) (hm : -9223372036854775808 ≤ m ∧ m ≤ 9223372036854775807) :
    Calls Tryz.prog 12 #[v, .pointer (some ⟨g,0,none⟩),opV9 ⟨2,m,p⟩] w (DoPostD I w0 v (.pointer (some ⟨g,0,none⟩)) s t ⟨2,m,p⟩ (fun k => O k ∨ O' k) w):=by
  have HA:=Lib.hid A
  have HT:=Lib.hid hT
  have HS:=Lib.hid hs
  have HS2:=Lib.hid ht
  have HB:=Lib.hid hB
  have HPO:=Lib.hid hp
  have HMO:=Lib.hid hm
  have hb0:=(Below.refl w.heap.size w).alloc (Nat.le_refl _) (.cells #[.int .i64 2, .int .i64 m, .int .i64 p.f.i, .int .i64 p.f.n, .int .i64 p.f.l, .string p.f.d, .int .i64 p.fr, .int .i64 p.tag, .bool p.lp] 39)
  have H0:=Lib.hid (h.later A.obj isObj_dr hb0)
  have HW1:=Lib.hid hb0
  have HB0:=Lib.hid (DrvO9.made w ⟨2,m,p⟩)
  have HNO:Hid (¬ (O w.heap.size ∨ O' w.heap.size)):=Lib.hid (fun hh => by
    rcases hh with hh | hh
    · have:=A.obj.lt h.a.inv _ hh; omega
    · have:=isObj_dr.lt h.b.inv _ hh; omega)
  have HZ:Hid (w.heap.size < (w.alloc (.cells #[.int .i64 2, .int .i64 m, .int .i64 p.f.i, .int .i64 p.f.n, .int .i64 p.f.l, .string p.f.d, .int .i64 p.fr, .int .i64 p.tag, .bool p.lp] 39)).heap.size):=Lib.hid (by simp)
  clear A hT hs ht hB hp h hb0 hm
  go_enter Tryz.func12,Tryz.ntmps12
  have HK0:=Lib.hid (PairJ.start HA.out.obj isObj_dr H0.out HW1.out)
  obtain ⟨a0,a1,a2,a3,a4,a5,a6,a7,a8⟩:=HB0.out.cells
  simp only at a0 a1 a2 a3 a4 a5 a6 a7 a8
  have HD:Hid (s.doOp ⟨2,m,p⟩ = s.rx.1):=Lib.hid (by unfold Dr.doOp; simp only [show ¬ ((2:Int) = 0) by decide,show ¬ ((2:Int) = 1) by decide,if_true,if_false])
  have HE:Hid (t.doOp ⟨2,m,p⟩ = t.rx.1):=Lib.hid (by unfold Dr.doOp; simp only [show ¬ ((2:Int) = 0) by decide,show ¬ ((2:Int) = 1) by decide,if_true,if_false])
  obtain ⟨X,hX⟩:∃ X,s.rx = X:=⟨_,rfl⟩
  have HX:=Lib.hid hX
  obtain ⟨sx,fx,ex⟩:=X
  obtain ⟨Y,hY⟩:∃ Y,t.rx = Y:=⟨_,rfl⟩
  have HY:=Lib.hid hY
  obtain ⟨tx,fy,ey⟩:=Y
  clear hX hY
  go_wp2_with fail
  refine (HA.out.rx HK0.out.pr.a.inv HS.out.ok HB.out (HA.out.tab HT.out HK0.out.pr.a.below)).mono ?_
  rintro e w2 ⟨he,O1,hi,hk,hg⟩
  rw [HX.out] at he hi
  simp only at he hi
  subst he
  have HK1:=Lib.hid (HK0.out.stepA HA.out.obj isObj_dr hi hk hg)
  have HK2:=Lib.hid (HK1.out.later HA.out.obj isObj_dr ((Below.refl w2.heap.size w2).alloc (Nat.le_refl _) (.cells #[.int .i64 fx.i, .int .i64 fx.n, .int .i64 fx.l, .string fx.d] 35)))
  have HF2:=Lib.hid (BoxF.made w2 fx.i fx.n fx.l fx.d)
  have HN2:Hid (¬ O' w2.heap.size):=Lib.hid (fun hh => by have:=isObj_dr.lt HK1.out.pr.b.inv _ hh; omega)
  clear a0 a1 a2 a3 a4 a5 a6 a7 a8 hi hk hg
  go_wp2_with fail
  refine (xdrx_v HK2.out.pr.b.inv HS2.out.ok (by have:=HB.out; omega)).mono ?_
  rintro e w3 ⟨he,O2,hi,hk,hg⟩
  rw [HY.out] at he hi
  simp only at he hi
  subst he
  have HK3:=Lib.hid (HK2.out.stepB HA.out.obj isObj_dr hi hk hg)
  have HF3:=Lib.hid (HF2.out.kept hk HN2.out)
  clear hi hk hg
  have HK4:=Lib.hid (HK3.out.later HA.out.obj isObj_dr ((Below.refl w3.heap.size w3).alloc (Nat.le_refl _) (.cells #[.int .i64 fy.i, .int .i64 fy.n, .int .i64 fy.l, .string fy.d] 35)))
  obtain ⟨d0,d1,d2,d3⟩:=HF3.out.cells
  have hpz:=HF3.out.lt
  go_wp2
  all_goals go_ret
  all_goals refine ⟨_,O1,O2,rfl,fun hh => ?_,by rw [HD.out,HE.out,HX.out,HY.out]; exact HK4.out.pr,HK4.out.kp,HK4.out.g1,HK4.out.g2⟩
  all_goals (subst hh; have e:=HX.out.symm.trans HY.out; clear HX HY HD HE HK1 HK2 HK3 HK4 HF2 HF3 d0 d1 d2 d3; cases e; simp_all)
set_option maxRecDepth 4000 in
theorem ddo_tx {T:World → Prop} {I:World → Value → Dr → (Nat → Prop) → Prop} (A:DrvI T I) {w0 w:World} {v:Value} {g:Nat} {s t:Dr} {O O':Nat → Prop} {m B:Int} {p:Pk} (h:Pair I DrD w0 v (.pointer (some ⟨g,0,none⟩)) s t O O' w) (hs:DoPre w0 s B) (ht:DoPre w0 t B) (hB:B ≤ 1000000) (hT:T w0) (hp:p.ok) (hm : -9223372036854775808 ≤ m ∧ m ≤ 9223372036854775807) :
    Calls Tryz.prog 12 #[v, .pointer (some ⟨g,0,none⟩),opV9 ⟨1,m,p⟩] w (DoPostD I w0 v (.pointer (some ⟨g,0,none⟩)) s t ⟨1,m,p⟩ (fun k => O k ∨ O' k) w):=by
  have HA:=Lib.hid A
  have HT:=Lib.hid hT
  have HS:=Lib.hid hs
  have HS2:=Lib.hid ht
  have HB:=Lib.hid hB
  have HPO:=Lib.hid hp
  have HMO:=Lib.hid hm
  have hb0:=(Below.refl w.heap.size w).alloc (Nat.le_refl _) (.cells #[.int .i64 1, .int .i64 m, .int .i64 p.f.i, .int .i64 p.f.n, .int .i64 p.f.l, .string p.f.d, .int .i64 p.fr, .int .i64 p.tag, .bool p.lp] 39)
  have H0:=Lib.hid (h.later A.obj isObj_dr hb0)
  have HW1:=Lib.hid hb0
  have HB0:=Lib.hid (DrvO9.made w ⟨1,m,p⟩)
  have HNO:Hid (¬ (O w.heap.size ∨ O' w.heap.size)):=Lib.hid (fun hh => by
    rcases hh with hh | hh
    · have:=A.obj.lt h.a.inv _ hh; omega
    · have:=isObj_dr.lt h.b.inv _ hh; omega)
  have HZ:Hid (w.heap.size < (w.alloc (.cells #[.int .i64 1, .int .i64 m, .int .i64 p.f.i, .int .i64 p.f.n, .int .i64 p.f.l, .string p.f.d, .int .i64 p.fr, .int .i64 p.tag, .bool p.lp] 39)).heap.size):=Lib.hid (by simp)
  clear A hT hs ht hB hp h hb0 hm
  go_enter Tryz.func12,Tryz.ntmps12
  have HK0:=Lib.hid (PairJ.start HA.out.obj isObj_dr H0.out HW1.out)
  obtain ⟨a0,a1,a2,a3,a4,a5,a6,a7,a8⟩:=HB0.out.cells
  simp only at a0 a1 a2 a3 a4 a5 a6 a7 a8
  have HD:Hid (s.doOp ⟨1,m,p⟩ = s.tx.1):=Lib.hid (by unfold Dr.doOp; simp only [show ¬ ((1:Int) = 0) by decide,if_true,if_false])
  have HE:Hid (t.doOp ⟨1,m,p⟩ = t.tx.1):=Lib.hid (by unfold Dr.doOp; simp only [show ¬ ((1:Int) = 0) by decide,if_true,if_false])
  obtain ⟨X,hX⟩:∃ X,s.tx = X:=⟨_,rfl⟩
  have HX:=Lib.hid hX
  obtain ⟨sx,px,bx,ex⟩:=X
  obtain ⟨Y,hY⟩:∃ Y,t.tx = Y:=⟨_,rfl⟩
  have HY:=Lib.hid hY
  obtain ⟨tx,py,by_,ey⟩:=Y
  clear hX hY
  go_wp2_with fail
  refine (HA.out.tx HK0.out.pr.a.inv HS.out.ok HB.out (HA.out.tab HT.out HK0.out.pr.a.below)).mono ?_
  rintro e w2 ⟨he,O1,hi,hk,hg⟩
  rw [HX.out] at he hi
  simp only at he hi
  subst he
  have HK1:=Lib.hid (HK0.out.stepA HA.out.obj isObj_dr hi hk hg)
  have HK2:=Lib.hid (HK1.out.later HA.out.obj isObj_dr ((Below.refl w2.heap.size w2).alloc (Nat.le_refl _) (.cells #[.int .i64 px.f.i, .int .i64 px.f.n, .int .i64 px.f.l, .string px.f.d, .int .i64 px.fr, .int .i64 px.tag, .bool px.lp, .bool bx] 42)))
  have HF2:=Lib.hid (BoxE.made w2 px bx)
  have HN2:Hid (¬ O' w2.heap.size):=Lib.hid (fun hh => by have:=isObj_dr.lt HK1.out.pr.b.inv _ hh; omega)
  clear a0 a1 a2 a3 a4 a5 a6 a7 a8 hi hk hg
  go_wp2_with fail
  refine (xdtx_v HK2.out.pr.b.inv HS2.out.ok (by have:=HB.out; omega)).mono ?_
  rintro e w3 ⟨he,O2,hi,hk,hg⟩
  rw [HY.out] at he hi
  simp only at he hi
  subst he
  have HK3:=Lib.hid (HK2.out.stepB HA.out.obj isObj_dr hi hk hg)
  have HF3:=Lib.hid (HF2.out.kept hk HN2.out)
  clear hi hk hg
  have HK4:=Lib.hid (HK3.out.later HA.out.obj isObj_dr ((Below.refl w3.heap.size w3).alloc (Nat.le_refl _) (.cells #[.int .i64 py.f.i, .int .i64 py.f.n, .int .i64 py.f.l, .string py.f.d, .int .i64 py.fr, .int .i64 py.tag, .bool py.lp] 37)))
  obtain ⟨d0,d1,d2,d3,d4,d5,d6,d7⟩:=HF3.out.cells
  have hpz:=HF3.out.lt
  go_wp2
  all_goals go_ret
  all_goals refine ⟨_,O1,O2,rfl,fun hh => ?_,by rw [HD.out,HE.out,HX.out,HY.out]; exact HK4.out.pr,HK4.out.kp,HK4.out.g1,HK4.out.g2⟩
  all_goals (subst hh; have e:=HX.out.symm.trans HY.out; clear HX HY HD HE HK1 HK2 HK3 HK4 HF2 HF3 d0 d1 d2 d3 d4 d5 d6 d7; cases e; simp_all)
set_option maxRecDepth 4000 in
theorem ddo_offer {T:World → Prop} {I:World → Value → Dr → (Nat → Prop) → Prop} (A:DrvI T I) {w0 w:World} {v:Value} {g:Nat} {s t:Dr} {O O':Nat → Prop} {m B:Int} {p:Pk} (h:Pair I DrD w0 v (.pointer (some ⟨g,0,none⟩)) s t O O' w) (hs:DoPre w0 s B) (ht:DoPre w0 t B) (hB:B ≤ 1000000) (hT:T w0) (hp:p.ok) (hm : -9223372036854775808 ≤ m ∧ m ≤ 9223372036854775807) :
    Calls Tryz.prog 12 #[v, .pointer (some ⟨g,0,none⟩),opV9 ⟨10,m,p⟩] w (DoPostD I w0 v (.pointer (some ⟨g,0,none⟩)) s t ⟨10,m,p⟩ (fun k => O k ∨ O' k) w):=by
  have HA:=Lib.hid A
  have HT:=Lib.hid hT
  have HS:=Lib.hid hs
  have HS2:=Lib.hid ht
  have HB:=Lib.hid hB
  have HPO:=Lib.hid hp
  have HMO:=Lib.hid hm
  have hb0:=(Below.refl w.heap.size w).alloc (Nat.le_refl _) (.cells #[.int .i64 10, .int .i64 m, .int .i64 p.f.i, .int .i64 p.f.n, .int .i64 p.f.l, .string p.f.d, .int .i64 p.fr, .int .i64 p.tag, .bool p.lp] 39)
  have H0:=Lib.hid (h.later A.obj isObj_dr hb0)
  have HW1:=Lib.hid hb0
  have HB0:=Lib.hid (DrvO9.made w ⟨10,m,p⟩)
  have HNO:Hid (¬ (O w.heap.size ∨ O' w.heap.size)):=Lib.hid (fun hh => by
    rcases hh with hh | hh
    · have:=A.obj.lt h.a.inv _ hh; omega
    · have:=isObj_dr.lt h.b.inv _ hh; omega)
  have HZ:Hid (w.heap.size < (w.alloc (.cells #[.int .i64 10, .int .i64 m, .int .i64 p.f.i, .int .i64 p.f.n, .int .i64 p.f.l, .string p.f.d, .int .i64 p.fr, .int .i64 p.tag, .bool p.lp] 39)).heap.size):=Lib.hid (by simp)
  clear A hT hs ht hB hp h hb0 hm
  go_enter Tryz.func12,Tryz.ntmps12
  have HK0:=Lib.hid (PairJ.start HA.out.obj isObj_dr H0.out HW1.out)
  obtain ⟨a0,a1,a2,a3,a4,a5,a6,a7,a8⟩:=HB0.out.cells
  simp only at a0 a1 a2 a3 a4 a5 a6 a7 a8
  have HD:Hid (s.doOp ⟨10,m,p⟩ = s):=Lib.hid (by unfold Dr.doOp; simp only [show ¬ ((10:Int) = 0) by decide,show ¬ ((10:Int) = 1) by decide,show ¬ ((10:Int) = 2) by decide,show ¬ ((10:Int) = 3) by decide,show ¬ ((10:Int) = 4) by decide,show ¬ ((10:Int) = 5) by decide,show ¬ ((10:Int) = 6) by decide,show ¬ ((10:Int) = 7) by decide,show ¬ ((10:Int) = 8) by decide,show ¬ ((10:Int) = 9) by decide,if_false])
  have HE:Hid (t.doOp ⟨10,m,p⟩ = t):=Lib.hid (by unfold Dr.doOp; simp only [show ¬ ((10:Int) = 0) by decide,show ¬ ((10:Int) = 1) by decide,show ¬ ((10:Int) = 2) by decide,show ¬ ((10:Int) = 3) by decide,show ¬ ((10:Int) = 4) by decide,show ¬ ((10:Int) = 5) by decide,show ¬ ((10:Int) = 6) by decide,show ¬ ((10:Int) = 7) by decide,show ¬ ((10:Int) = 8) by decide,show ¬ ((10:Int) = 9) by decide,if_false])
  obtain ⟨X,hX⟩:∃ X,s.offer = X:=⟨_,rfl⟩
  have HX:=Lib.hid hX
  obtain ⟨fx,bx⟩:=X
  obtain ⟨Y,hY⟩:∃ Y,t.ct.off = Y:=⟨_,rfl⟩
  have HY:=Lib.hid hY
  obtain ⟨fy,by_⟩:=Y
  clear hX hY
  go_wp2_with fail
  refine (HA.out.offer HK0.out.pr.a.inv HS.out.ok (HA.out.tab HT.out HK0.out.pr.a.below)).mono ?_
  rintro e w2 ⟨he,hb⟩
  rw [HX.out] at he
  simp only at he
  subst he
  have HK1:=Lib.hid (HK0.out.later HA.out.obj isObj_dr hb)
  have HK2:=Lib.hid (HK1.out.later HA.out.obj isObj_dr ((Below.refl w2.heap.size w2).alloc (Nat.le_refl _) (.cells #[.int .i64 fx.i, .int .i64 fx.n, .int .i64 fx.l, .string fx.d] 35)))
  have HF2:=Lib.hid (BoxF.made w2 fx.i fx.n fx.l fx.d)
  clear a0 a1 a2 a3 a4 a5 a6 a7 a8 hb
  obtain ⟨cp,qp,Oc,Oq,hOO,hm⟩:=HK2.out.pr.b.inv.parts
  have HM:=Lib.hid hm
  obtain ⟨q8,q9,q10, -⟩:=hm.cells
  have hgz:=hm.blt
  clear hm hOO
  go_wp2_with fail
  refine (xoffer_v _ HM.out.ct HS2.out.ok.ct).mono ?_
  rintro e w3 ⟨he,hb⟩
  rw [HY.out] at he
  simp only at he
  subst he
  have HK3:=Lib.hid (HK2.out.later HA.out.obj isObj_dr hb)
  have HF3:=Lib.hid (HF2.out.later hb)
  have HM3:=Lib.hid (HM.out.later hb)
  have HK4:=Lib.hid (HK3.out.later HA.out.obj isObj_dr ((Below.refl w3.heap.size w3).alloc (Nat.le_refl _) (.cells #[.int .i64 fy.i, .int .i64 fy.n, .int .i64 fy.l, .string fy.d] 35)))
  clear hb q8 q9 q10 hgz
  obtain ⟨d0,d1,d2,d3⟩:=HF3.out.cells
  have hpz:=HF3.out.lt
  obtain ⟨q8,q9,q10, -⟩:=HM3.out.cells
  have hgz:=HM3.out.blt
  by_cases hst:t.st = 1
  · go_wp2
    all_goals go_ret
    all_goals refine ⟨_,O,O',rfl,fun hh => ?_,by rw [HD.out,HE.out]; exact HK4.out.pr,HK4.out.kp,HK4.out.g1,HK4.out.g2⟩
    all_goals (subst hh; have e:=HX.out.symm.trans (show s.offer = (fy,by_) by unfold Dr.offer; rw [if_pos hst]; exact HY.out); clear HX HY HD HE HK1 HK2 HK3 HK4 HF2 HF3 HM HM3 q8 q9 q10 d0 d1 d2 d3; cases e; simp_all)
  · go_wp2
    all_goals go_ret
    all_goals refine ⟨_,O,O',rfl,fun hh => ?_,by rw [HD.out,HE.out]; exact HK4.out.pr,HK4.out.kp,HK4.out.g1,HK4.out.g2⟩
    all_goals (subst hh; have e:=HX.out.symm.trans (show s.offer = (frz,false) by unfold Dr.offer; rw [if_neg hst]); clear HX HY HD HE HK1 HK2 HK3 HK4 HF2 HF3 HM HM3 q8 q9 q10 d0 d1 d2 d3; cases e; simp_all [frz])
end Go.Proofs.YtimdkcchjanpaaaGreatDoor
