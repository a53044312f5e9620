/- Ctrl, the code: the register, Load, Offer, Won, Ended, Fetch, Abort, and what is told. Printed by gen_ck.py. Ctrl, the code: Hear. Printed by gen_ck.py. -/
import Derived.Test.YtimdkcchjanpaaaGreatDoorZat
import Derived.Test.YtimdkcchjanpaaaGreatDoorZaf
import Derived.Test.YtimdkcchjanpaaaGreatDoorZae
import Derived.Test.YtimdkcchjanpaaaGreatDoorZas
import Derived.Test.YtimdkcchjanpaaaGreatDoorZag
set_option maxHeartbeats 8000000
namespace Go.Proofs.YtimdkcchjanpaaaGreatDoor
open Go.RowKit
set_option linter.unusedVariables false
variable {TB:TypeId} {od:Nat} {X Y:List Value}
theorem or_setB {a bit:Int} (ha:0 ≤ a ∧ a < 16) (hb:bit = 1 ∨ bit = 2 ∨ bit = 4 ∨ bit = 8):bits .or .i64 a bit = setB a bit:=by
  have key:∀ x:Fin 16, ∀ b ∈ [(1:Int),2,4,8],bits .or .i64 (x:Int) b = setB (x:Int) b:=by decide +kernel
  obtain ⟨n,rfl⟩:=Int.eq_ofNat_of_zero_le ha.1
  exact key ⟨n,by omega⟩ bit (by simp; exact hb)
theorem kkask_v {w:World} {b:Nat} {a bit:Int} (hc:w.cell? ⟨b,od + 9,none⟩ = some (.int .i64 a)) (hf:w.frozen? ⟨b,od + 9,none⟩ = false) (ha:0 ≤ a ∧ a < 16) (hb:bit = 1 ∨ bit = 2 ∨ bit = 4 ∨ bit = 8) :
    Calls Tryz.prog 100 #[.pointer (some ⟨b,od + 9,none⟩), .int .i64 bit] w fun e w' => e = .returned (.tuple #[]) ∧ w' = w.setCell ⟨b,od + 9,none⟩ (.int .i64 (setB a bit)):=by
  rw [← or_setB ha hb]
  clear ha hb
  go_enter Tryz.func100,Tryz.ntmps100
  go_wp2
  go_end0
  exact ⟨rfl,rfl⟩
theorem kkclear_v {w:World} {v:Value} {s:Ct} {O:Nat → Prop} (n:Int) (h:CkD TB od X Y w v s O) (ok:s.Ok):Calls Tryz.prog 63 #[v, .int .i64 n] w fun e w' => e = .returned (.tuple #[]) ∧ Stp (CkD TB od X Y) v O w { s with asks:=clrK s.asks n 4 } w':=by
  obtain ⟨b,g,vt,ve,fa,M,Of,p,S,f,m,n9,rfl,rfl,h⟩:=h
  have H:=Lib.hid h
  obtain ⟨c9,f9⟩:=h.reg
  have HR:=Lib.hid (h.setReg (bits .andNot .i64 s.asks n))
  rw [clr_andNot ok.ak]
  clear h ok
  go_enter Tryz.func63,Tryz.ntmps63
  go_wp2
  go_end0
  exact ⟨rfl,_,⟨b,g,vt,ve,fa,M,Of,p,S,f,m,n9,rfl,rfl,HR.out.1⟩,HR.out.2,Grows.refl _ _⟩
theorem kkoff_v {w:World} {v:Value} {s:Ct} {O:Nat → Prop} (h:CkD TB od X Y w v s O) (ok:s.Ok):Calls Tryz.prog 62 #[v] w fun e w' => e = .returned (.tuple #[]) ∧ Stp (CkD TB od X Y) v O w { s with asks:=setB s.asks 8 } w':=by
  obtain ⟨b,g,vt,ve,fa,M,Of,p,S,f,m,n,rfl,rfl,h⟩:=h
  have H:=Lib.hid h
  obtain ⟨c9,f9⟩:=h.reg
  have HR:=Lib.hid (h.setReg (setB s.asks 8))
  have HA:=Lib.hid ok.ak
  clear h ok
  go_enter Tryz.func62,Tryz.ntmps62
  go_wp2_with fail
  refine (kkask_v c9 f9 HA.out (by simp)).mono ?_
  rintro e w1 ⟨rfl,rfl⟩
  go_wp2
  go_end0
  exact ⟨rfl,_,⟨b,g,vt,ve,fa,M,Of,p,S,f,m,n,rfl,rfl,HR.out.1⟩,HR.out.2,Grows.refl _ _⟩
theorem kkfree_v {w:World} {v:Value} {s:Ct} {O:Nat → Prop} (h:CkD TB od X Y w v s O) (ok:s.Ok):Calls Tryz.prog 78 #[v] w fun e w' => e = .returned (.int .i64 (s.bx.free s.bx.S.length:Nat)) ∧ Below w.heap.size w w':=by
  obtain ⟨b,g,vt,ve,fa,M,Of,p,S,f,m,n,rfl,rfl,h⟩:=h
  have H:=Lib.hid h
  have HC:=Lib.hid (kxfree_v H.out.bd ok.bx)
  clear h ok
  go_enter Tryz.func78,Tryz.ntmps78
  go_wp2_with fail
  refine HC.out.mono ?_
  rintro e w1 ⟨rfl,hb⟩
  go_wp2
  go_ret
  exact ⟨rfl,hb⟩
theorem kkstates_v {w:World} {v:Value} {s:Ct} {O:Nat → Prop} (h:CkD TB od X Y w v s O) (ok:s.Ok):Calls Tryz.prog 55 #[v] w (Gives w fun w' u => SlA inC 1 w' (fun k => k < w.heap.size) u s.bx.S ∧ ShapeOk u):=by
  obtain ⟨b,g,vt,ve,fa,M,Of,p,S,f,m,n,rfl,rfl,h⟩:=h
  have H:=Lib.hid h
  have HC:=Lib.hid (kxstates_v H.out.bd ok.bx)
  clear h ok
  go_enter Tryz.func55,Tryz.ntmps55
  go_wp2_with fail
  refine HC.out.mono ?_
  rintro e w1 ⟨u,rfl,h1,hb⟩
  have H1:=Lib.hid h1
  clear h1
  go_wp2
  go_ret
  exact ⟨_,rfl,H1.out,hb⟩
theorem kkkept_v {w:World} {v:Value} {s:Ct} {O:Nat → Prop} (h:CkD TB od X Y w v s O):Calls Tryz.prog 70 #[v] w fun e w' => e = .returned (.int .i64 (s.fifo.length:Nat)) ∧ Below w.heap.size w w':=by
  obtain ⟨b,g,vt,ve,fa,M,Of,p,S,f,m,n,rfl,rfl,h⟩:=h
  have H:=Lib.hid h
  have HC:=Lib.hid (rflen_v H.out.rd)
  clear h
  go_enter Tryz.func70,Tryz.ntmps70
  go_wp2_with fail
  refine HC.out.mono ?_
  rintro e w1 ⟨rfl,k,rfl⟩
  go_wp2
  go_ret
  exact ⟨rfl,below_drewN (Below.refl _ _) _⟩
theorem kklost_v {w:World} {v:Value} {s:Ct} {O:Nat → Prop} (h:CkD TB od X Y w v s O):Calls Tryz.prog 69 #[v] w fun e w' => e = .returned (.int .i64 s.lost) ∧ Below w.heap.size w w':=by
  obtain ⟨b,g,vt,ve,fa,M,Of,p,S,f,m,n,rfl,rfl,h⟩:=h
  have H:=Lib.hid h
  rw [h.hn]
  have HC:=Lib.hid (rflost_v H.out.rd)
  clear h
  go_enter Tryz.func69,Tryz.ntmps69
  go_wp2_with fail
  refine HC.out.mono ?_
  rintro e w1 ⟨rfl,k,rfl⟩
  go_wp2
  go_ret
  exact ⟨rfl,below_drewN (Below.refl _ _) _⟩
def OneG (W:World) (Q:World → Prop) (k:Nat) (xs:Tmp → Option Value) (w:World):Prop:=(k = 0 ∧ Below W.heap.size W w) ∨ (k = 1 ∧ Q w)
theorem OneG.kept {W w:World} {Q:World → Prop} {O:Nat → Prop} {k:Nat} {xs:Tmp → Option Value} (hQ:∀ w,Q w → Kept O W w) (h:OneG W Q k xs w):Kept O W w:=by
  rcases h with ⟨_,h⟩ | ⟨_,h⟩
  · exact .of_below h
  · exact hQ _ h
theorem OneG.done {W w:World} {Q:World → Prop} {xs:Tmp → Option Value} (h:OneG W Q 1 xs w):Q w:=by
  rcases h with ⟨h,_⟩ | ⟨_,h⟩
  · cases h
  · exact h
theorem OneG.start {W w:World} {Q:World → Prop} {xs:Tmp → Option Value} (h:OneG W Q 0 xs w):Below W.heap.size W w:=by
  rcases h with ⟨_,h⟩ | ⟨h,_⟩
  · exact h
  · cases h
theorem CkM.behind {w w1 w2:World} {b g:Nat} {vt ve fa:Value} {M:List (Int × Pk)} {Of:Nat → Prop} {p:Option Addr} {S:List Fr} {f m n:Nat} {s:Ct} {bx':Bx} (H:CkM TB od X Y w b g vt ve fa M Of p S f m n s) (hb:Below w.heap.size w w1)
    (hs:Stp (BmD TB od X (ckY fa p S.length (f:Int) (s.fifo.length:Int) (m:Int) (n:Int) s.asks ++ Y)) (.pointer (some ⟨b,od,none⟩)) (bmO b g vt ve) w1 bx' w2):Stp (CkD TB od X Y) (.pointer (some ⟨b,od,none⟩)) (ckO b g vt ve p Of) w { s with bx:=bx' } w2:=by
  obtain ⟨g',vt',ve',M',hm,hk,hg⟩:=(H.later hb).boxes hs
  exact ⟨_,⟨b,g',vt',ve',fa,M',Of,p,S,f,m,n,rfl,rfl,hm⟩,(Kept.of_below hb).trans hk (Grows.refl _ _),fun k h1 => (hg k h1).imp id (fun h2 => Nat.le_trans hb.size h2)⟩
theorem CkM.behindF {w w1 w2:World} {b g:Nat} {vt ve fa:Value} {M:List (Int × Pk)} {Of:Nat → Prop} {p:Option Addr} {S:List Fr} {f m n n':Nat} {s:Ct} {L':List Fr} (H:CkM TB od X Y w b g vt ve fa M Of p S f m n s) (hb:Below w.heap.size w w1)
    (hs:Stp (RfI TB (od + 4) (X ++ [ckS g M,vt,ve,fa]) (.int .i64 s.asks :: Y)) (.pointer (some ⟨b,od + 4,none⟩)) (rgO b p) w1 ⟨L',m,n'⟩ w2):∃ p' S' f',CkM TB od X Y w2 b g vt ve fa M Of p' S' f' m n' { s with fifo:=L',lost:=(n':Int) } ∧ Kept (ckO b g vt ve p Of) w w2 ∧ Grows (ckO b g vt ve p Of) w (ckO b g vt ve p' Of):=by
  obtain ⟨p',S',f',hm,hk,hg⟩:=(H.later hb).fifos hs
  exact ⟨p',S',f',hm,(Kept.of_below hb).trans hk (Grows.refl _ _),fun k h1 => (hg k h1).imp id (fun h2 => Nat.le_trans hb.size h2)⟩
theorem kkload_v {w:World} {v:Value} {s:Ct} {O:Nat → Prop} (q:Pk) (h:CkD TB od X Y w v s O) (ok:s.Ok) (hT:Tabs w) (hq:q.ok):Calls Tryz.prog 118 #[v,pkV q] w fun e w' => e = .returned (.tuple #[.int .i64 (s.bx.put q).2.1, .int .i64 (s.bx.put q).2.2]) ∧ Stp (CkD TB od X Y) v O w { s with bx:=(s.bx.put q).1 } w':=by
  obtain ⟨b,g,vt,ve,fa,M,Of,p,S,f,m,n,rfl,rfl,h⟩:=h
  have H:=Lib.hid h
  have hb0:=(Below.refl w.heap.size w).alloc (Nat.le_refl _) (.cells #[.int .i64 q.f.i, .int .i64 q.f.n, .int .i64 q.f.l, .string q.f.d, .int .i64 q.fr, .int .i64 q.tag, .bool q.lp] 37)
  obtain ⟨w0,e0⟩:∃ w0,w.alloc (.cells #[.int .i64 q.f.i, .int .i64 q.f.n, .int .i64 q.f.l, .string q.f.d, .int .i64 q.fr, .int .i64 q.tag, .bool q.lp] 37) = w0:=⟨_,rfl⟩
  have hp0:BoxP w0 w.heap.size q:=by rw [← e0]; exact BoxP.made w q
  rw [e0] at hb0
  obtain ⟨d0,d1,d2,d3,d4,d5,d6⟩:=hp0.cells
  have hz0:=hp0.lt
  have HB0:=Lib.hid hb0
  have HT:=Lib.hid hT
  have HOK:=Lib.hid ok
  have HQ:=Lib.hid hq
  have HNO:Hid (¬ ckO b g vt ve p Of w.heap.size):=Lib.hid (fun h1 => absurd (h.lt _ h1) (by omega))
  have HKP:Hid (∀ w1,Stp (CkD TB od X Y) (.pointer (some ⟨b,od,none⟩)) (ckO b g vt ve p Of) w0 { s with bx:=(s.bx.put q).1 } w1 → Kept (ckO b g vt ve p Of) w0 w1):=Lib.hid (fun w1 ⟨_,_,h2,_⟩ => h2)
  have HM0:=Lib.hid (h.later hb0)
  obtain ⟨r,hr⟩:∃ r,s.bx.put q = r:=⟨_,rfl⟩
  have HR:=Lib.hid hr
  obtain ⟨r0,r1,r2⟩:=r
  rw [hr] at HKP ⊢
  clear h hb0 hp0 hT ok hq hr
  go_enter Tryz.func118,Tryz.ntmps118
  go_upto_region 3 with fail
  have hcl:∀ (n:KLater (ckO b g vt ve p Of) w0) (o:Nat),n.w.cell? ⟨w.heap.size,o,none⟩ = w0.cell? ⟨w.heap.size,o,none⟩:=fun n o => n.cell w.heap.size o hz0 HNO.out
  refine wp_region_st 8 [5] (OneG w0 (fun w1 => Stp (CkD TB od X Y) (.pointer (some ⟨b,od,none⟩)) (ckO b g vt ve p Of) w0 { s with bx:=r0 } w1)) [] (.inl ⟨rfl,(Below.refl _ _).drew⟩) (by kernel_rfl) (by kernel_rfl) (by kernel_rfl) (by kernel_rfl) (by kernel_rfl) (by kernel_rfl) (by kernel_rfl) ?_
  simp only [List.take_succ_cons,List.take_zero,List.drop_succ_cons,List.drop_zero]
  repeat ((first | refine st_plain (fun h => h.kept HKP.out) (by rfl) (by rfl) (by rfl) (by rfl) (by rfl) ?_ | refine st_nil (fun h => h.kept HKP.out) (by rfl) (by rfl) (by rfl) (by rfl) (by rfl) (by rfl) ?_); intro K hK; go_big_quiet_op; go_big_quiet_on)
  refine st_step (f:=143) (args := #[.pointer (some ⟨b,od,none⟩),pkV q]) (v := .tuple #[.int .i64 r1, .int .i64 r2]) 0 (by rfl) (by rfl) (by rfl) (by rfl) (by rfl) (fun w => by simp [go_sem]) (fun xs9 w9 h9 => ?_) ?_
  · refine (kxput_v q (HM0.out.later h9.start).bd HOK.out.bx (HT.out.below (fbelow_t HB0.out h9.start)) HQ.out).mono ?_
    rintro e w' ⟨he,hs⟩
    rw [HR.out] at he hs
    exact ⟨he, .inr ⟨rfl,HM0.out.behind h9.start hs⟩⟩
  simp only [Act.put,List.setIfInBounds_toArray,List.set_cons_succ,List.set_cons_zero]
  repeat (refine st_plain (fun h => h.kept HKP.out) (by rfl) (by rfl) (by rfl) (by rfl) (by rfl) ?_; intro K hK; go_big_quiet_op; go_big_quiet_on)
  intro ys xs w9 hF h9
  simp only [secFill]
  have H9:=Lib.hid (OneG.done h9)
  clear hF hcl d0 d1 d2 d3 d4 d5 d6 h9
  go_wp2
  go_ret2
  obtain ⟨O',h1,h2,h3⟩:=H9.out
  exact ⟨rfl,O',h1,(Kept.of_below HB0.out).trans h2 (Grows.refl _ _),fun k hk => (h3 k hk).imp id (fun h4 => Nat.le_trans HB0.out.size h4)⟩
theorem Ct.off_bst (s:Ct):s.off = (s.bx.bst.2.1.f,s.bx.bst.2.2):=by
  unfold Ct.off Bx.bst
  split <;> rfl
theorem kkoffer_v {w:World} {v:Value} {s:Ct} {O:Nat → Prop} (h:CkD TB od X Y w v s O) (ok:s.Ok):Calls Tryz.prog 60 #[v] w fun e w' => e = .returned (.tuple #[fmV s.off.1, .bool s.off.2]) ∧ Below w.heap.size w w':=by
  obtain ⟨b,g,vt,ve,fa,M,Of,p,S,f,m,n,rfl,rfl,h⟩:=h
  have H:=Lib.hid h
  have hb0:=(Below.refl w.heap.size w).alloc (Nat.le_refl _) zfO
  have HC:=Lib.hid (kxbest_v (h.later hb0).bd ok.bx)
  rw [Ct.off_bst]
  obtain ⟨r,hr⟩:∃ r,s.bx.bst = r:=⟨_,rfl⟩
  rw [hr] at HC ⊢
  obtain ⟨r0,r1,r2⟩:=r
  clear h ok hr
  go_enter Tryz.func60,Tryz.ntmps60
  go_wp2_with fail
  refine HC.out.mono ?_
  rintro e w1 ⟨rfl,hb1⟩
  have hf1:=(BoxF.made w 0 0 0 (ByteArray.mk #[])).later hb1
  have HB2:=Lib.hid (fbelow_t hb0 hb1)
  have z1:w.heap.size < w1.heap.size:=hf1.lt
  have HF1:=Lib.hid hf1
  obtain ⟨d0,d1,d2,d3⟩:=hf1.cells
  have ff:∀ j,w1.frozen? ⟨w.heap.size,j,none⟩ = false:=fun j => Lib.frozen_of_heap HF1.out j
  clear hb0 hb1 hf1 HC
  have HP:Hid (BoxF (((((w1.setCell ⟨w.heap.size,0,none⟩ (.int .i64 r1.f.i)).setCell ⟨w.heap.size,1,none⟩ (.int .i64 r1.f.n)).setCell ⟨w.heap.size,2,none⟩ (.int .i64 r1.f.l)).setCell ⟨w.heap.size,3,none⟩ (.string r1.f.d)).alloc (.cells #[.int .i64 r1.f.i, .int .i64 r1.f.n, .int .i64 r1.f.l, .string r1.f.d, .int .i64 r1.fr, .int .i64 r1.tag, .bool r1.lp] 37)) w.heap.size r1.f.i r1.f.n r1.f.l r1.f.d):=Lib.hid (BoxF.later (boxF_set HF1.out) ((Below.refl _ _).alloc (Nat.le_refl _) _))
  have HPB:Hid (Below w.heap.size w (((((w1.setCell ⟨w.heap.size,0,none⟩ (.int .i64 r1.f.i)).setCell ⟨w.heap.size,1,none⟩ (.int .i64 r1.f.n)).setCell ⟨w.heap.size,2,none⟩ (.int .i64 r1.f.l)).setCell ⟨w.heap.size,3,none⟩ (.string r1.f.d)).alloc (.cells #[.int .i64 r1.f.i, .int .i64 r1.f.n, .int .i64 r1.f.l, .string r1.f.d, .int .i64 r1.fr, .int .i64 r1.tag, .bool r1.lp] 37))):=Lib.hid (fbelow_t (boxF_below HB2.out (Nat.le_refl _)) ((Below.refl _ _).alloc (Nat.le_refl _) _))
  go_wp2
  obtain ⟨g0,g1,g2,g3⟩:=HP.out.cells
  refine bodyPost_ret (v := .tuple #[fmV r1.f, .bool r2]) ?_ rfl ⟨rfl,HPB.out⟩
  simp [results,Tryz.results60,go_sem,g0,g1,g2,g3]
theorem Bx.bst_end {s:Bx} (ok:s.Ok) (h:s.bst.2.2 = true):(s.end_ s.bst.1 2).2 = 0:=by
  cases hT:s.trn with
  | nil => rw [Bx.bst_nil ok.ordOk hT] at h; cases h
  | cons y l =>
    rw [Bx.bst_cons ok.ordOk hT]
    obtain ⟨k1,k2,k3⟩:=ok.trnOk y (by rw [hT]; simp)
    unfold Bx.end_
    rw [if_neg (by rintro (h1 | h1 | h1); omega; omega; exact h1 k3)]
def Bx.sb (s:Bx):Bx:=if s.bst.2.2 then (s.end_ s.bst.1 2).1 else s
theorem kksend_v {w:World} {v:Value} {s:Bx} {O:Nat → Prop} (h:BmD TB od X Y w v s O) (ok:s.Ok):Calls Tryz.prog 99 #[v] w fun e w' => e = .returned (.bool s.bst.2.2) ∧ Stp (BmD TB od X Y) v O w s.sb w':=by
  have H:=Lib.hid h
  have HOK:=Lib.hid ok
  have HC:=Lib.hid (kxbest_v h ok)
  have HE:=Lib.hid (fun h => Bx.bst_end ok h)
  have HSB:Hid (s.sb = if s.bst.2.2 then (s.end_ s.bst.1 2).1 else s):=Lib.hid rfl
  obtain ⟨b,g,vt,ve,M,rfl,rfl,hm,hs⟩:=h
  obtain ⟨r,hr⟩:∃ r,s.bst = r:=⟨_,rfl⟩
  rw [hr] at HC HE HSB ⊢
  obtain ⟨r0,r1,r2⟩:=r
  simp only at HE HSB
  obtain ⟨sx,hsx⟩:∃ x,s.sb = x:=⟨_,rfl⟩
  rw [hsx] at HSB ⊢
  clear ok hm hs hr hsx
  go_enter Tryz.func99,Tryz.ntmps99
  go_wp2_with fail
  refine HC.out.mono ?_
  rintro e w1 ⟨rfl,hb1⟩
  have HB1:=Lib.hid hb1
  have HB2:=Lib.hid (fbelow_t hb1 ((Below.refl _ w1).alloc (Nat.le_refl _) (.cells #[.int .i64 r1.f.i, .int .i64 r1.f.n, .int .i64 r1.f.l, .string r1.f.d, .int .i64 r1.fr, .int .i64 r1.tag, .bool r1.lp] 37)))
  clear hb1 HC
  cases r2
  · obtain rfl:sx = s:=HSB.out
    go_wp2
    go_ret
    exact ⟨rfl,_,isObj_bm.stay H.out (fun k hk => HB2.out.block k (isObj_bm.lt H.out k hk)), .of_below HB2.out,Grows.refl _ _⟩
  · obtain rfl:sx = (s.end_ r0 2).1:=HSB.out
    have HE0:=Lib.hid (HE.out rfl)
    go_wp2_with fail
    refine (kxsent_v r0 (isObj_bm.stay H.out (fun k hk => HB2.out.block k (isObj_bm.lt H.out k hk))) HOK.out).mono ?_
    rintro e w2 ⟨rfl,hs⟩
    rw [HE0.out]
    have HS:=Lib.hid hs
    clear hs
    go_wp2
    go_ret
    obtain ⟨O',h1,h2,h3⟩:=HS.out
    exact ⟨rfl,O',h1,(Kept.of_below HB2.out).trans h2 (Grows.refl _ _),fun k hk => (h3 k hk).imp id (fun h4 => Nat.le_trans HB2.out.size h4)⟩
theorem Ct.won_sb (s:Ct):s.won = if s.bx.bst.2.2 then { s with bx:=s.bx.sb,asks:=setB s.asks 1 } else s:=by
  unfold Ct.won Bx.sb Bx.bst
  split
  · rfl
  · rfl
theorem kkwon_v {w:World} {v:Value} {s:Ct} {O:Nat → Prop} (h:CkD TB od X Y w v s O) (ok:s.Ok):Calls Tryz.prog 58 #[v] w fun e w' => e = .returned (.bool s.off.2) ∧ Stp (CkD TB od X Y) v O w s.won w':=by
  obtain ⟨b,g,vt,ve,fa,M,Of,p,S,f,m,n,rfl,rfl,h⟩:=h
  have H:=Lib.hid h
  have HC:=Lib.hid (kksend_v h.bd ok.bx)
  have HA:=Lib.hid ok.ak
  have HW:=Lib.hid (Ct.won_sb s)
  have HB:Hid (s.bx.bst.2.2 = false → s.bx.sb = s.bx):=Lib.hid (fun e => by unfold Bx.sb; rw [e]; rfl)
  rw [Ct.off_bst]
  simp only
  obtain ⟨r,hr⟩:∃ r,s.bx.bst.2.2 = r:=⟨_,rfl⟩
  rw [hr] at HC HW HB ⊢
  obtain ⟨sx,hsx⟩:∃ x,s.won = x:=⟨_,rfl⟩
  rw [hsx] at HW ⊢
  clear h ok hr hsx
  go_enter Tryz.func58,Tryz.ntmps58
  go_wp2_with fail
  refine HC.out.mono ?_
  rintro e w1 ⟨rfl,hs⟩
  obtain ⟨g',vt',ve',M',hm,hk,hg⟩:=H.out.boxes hs
  have HM:=Lib.hid hm
  have HK:=Lib.hid hk
  have HG:=Lib.hid hg
  clear hs hm hk hg HC
  cases r
  · obtain rfl:s = sx:=HW.out.symm
    go_wp2
    go_ret
    have hm:=HM.out
    have hbx:s.bx.sb = s.bx:=by simpa using HB.out
    rw [hbx] at hm
    exact ⟨rfl,_,⟨b,g',vt',ve',fa,M',Of,p,S,f,m,n,rfl,rfl,hm⟩,HK.out,HG.out⟩
  · obtain rfl:sx = { s with bx:=s.bx.sb,asks:=setB s.asks 1 }:=HW.out
    obtain ⟨c9,f9⟩:=HM.out.reg
    simp only at c9
    go_wp2_with fail
    refine (kkask_v c9 f9 HA.out (by simp)).mono ?_
    rintro e w2 ⟨rfl,rfl⟩
    go_wp2
    go_ret
    obtain ⟨h1,h2⟩:=HM.out.setReg (setB s.asks 1)
    exact ⟨rfl,_,⟨b,g',vt',ve',fa,M',Of,p,S,f,m,n,rfl,rfl,h1⟩,HK.out.trans h2 HG.out,HG.out⟩
theorem kkabortall_v {w:World} {v:Value} {s:Bx} {O:Nat → Prop} (h:BmD TB od X Y w v s O) (ok:s.Ok):Calls Tryz.prog 106 #[v] w fun e w' => e = .returned (.int .i64 ((s.abs s.S.length).2:Nat)) ∧ Stp (BmD TB od X Y) v O w (s.abs s.S.length).1 w':=by
  have H:=Lib.hid h
  have HOK:=Lib.hid ok
  have HC:=Lib.hid (kxstates_v h ok)
  have hl:s.S.length ≤ 1000:=ok.n2
  obtain ⟨b,g,vt,ve,M,rfl,rfl,hm,hs⟩:=h
  obtain ⟨N,hN⟩:∃ N,s.S.length = N:=⟨_,rfl⟩
  have HN:=Lib.hid hN
  rw [hN] at hl ⊢
  clear ok hm hs hN
  go_enter Tryz.func106,Tryz.ntmps106
  go_wp2_with fail
  refine HC.out.mono ?_
  rintro e w1 ⟨u,rfl,⟨⟨A,cap,rfl,_⟩,_⟩,hb1⟩
  rw [HN.out]
  have HB1:=Lib.hid hb1
  clear hb1 HC
  go_wp2
  go_loopw [3,10] (fun q i wr => ∃ k:Nat,k ≤ N ∧ i = .int .i64 k ∧ q = .int .i64 ((s.abs k).2:Nat) ∧ Hid (Stp (BmD TB od X Y) (.pointer (some ⟨b,od,none⟩)) (bmO b g vt ve) w (s.abs k).1 wr)) (fun _ i _ => N - (intOf i).toNat)
  case atStart => exact ⟨0,Nat.zero_le _,rfl,rfl,Lib.hid ⟨_,isObj_bm.stay H.out (fun k hk => HB1.out.block k (isObj_bm.lt H.out k hk)), .of_below HB1.out,Grows.refl _ _⟩⟩
  case round =>
    obtain ⟨k,hk,rfl,rfl,HI⟩:=hrel
    by_cases hlt:k < N
    · have hkl:(k:Int) < (N:Int):=by omega
      have HA:Hid ((s.abs k).2 ≤ k):=Lib.hid (Bx.abs_le s k)
      have HST:Hid (s.abs (k + 1) = (((s.abs k).1.end_ (k:Int) 3).1,(s.abs k).2 + if ((s.abs k).1.end_ (k:Int) 3).2 = 0 then 1 else 0)):=Lib.hid rfl
      have HO:=Lib.hid (HOK.out.abs k)
      generalize s.abs k = x at HI HA HST HO
      obtain ⟨x0,x1⟩:=x
      simp only at HI HA HST HO
      obtain ⟨O1,hi,hk1,hg1⟩:=HI.out
      have HK1:=Lib.hid hk1
      have HG1:=Lib.hid hg1
      have hx1:x1 ≤ 1000:=by have:=HA.out; omega
      have HCA:=Lib.hid (kxabort_v (k:Int) hi HO.out)
      obtain ⟨y,hy⟩:∃ y,x0.end_ (k:Int) 3 = y:=⟨_,rfl⟩
      rw [hy] at HCA HST
      obtain ⟨y0,y1⟩:=y
      simp only at HCA HST
      clear hi hk1 hg1 HI hy
      go_wp2_with fail
      refine HCA.out.mono ?_
      rintro e w2 ⟨rfl,hs⟩
      have HS2:Hid (Stp (BmD TB od X Y) (.pointer (some ⟨b,od,none⟩)) (bmO b g vt ve) w y0 w2):=Lib.hid (by
        obtain ⟨O2,h1,h2,h3⟩:=hs
        exact ⟨O2,h1,HK1.out.trans h2 HG1.out,HG1.out.trans h3 HK1.out.size⟩)
      clear hs HCA
      by_cases h0:y1 = 0
      · subst h0
        rw [if_pos rfl] at HST
        go_wp2
        go_roundw
        case rel => exact ⟨k + 1,by omega,by go_num,by rw [HST.out]; go_num,by rw [HST.out]; exact HS2⟩
        case measure => simp [intOf]; omega
      · rw [if_neg h0] at HST
        have h0b:(y1 == 0) = false:=by simp [h0]
        go_wp2
        go_roundw
        case rel => exact ⟨k + 1,by omega,by go_num,by rw [HST.out]; go_num,by rw [HST.out]; exact HS2⟩
        case measure => simp [intOf]; omega
    · obtain rfl:k = N:=by omega
      go_wp2
      go_ret
      exact ⟨rfl,HI.out⟩
theorem kkabort_v {w:World} {v:Value} {s:Ct} {O:Nat → Prop} (h:CkD TB od X Y w v s O) (ok:s.Ok):Calls Tryz.prog 68 #[v] w fun e w' => e = .returned (.int .i64 (s.abort.2:Nat)) ∧ Stp (CkD TB od X Y) v O w s.abort.1 w':=by
  obtain ⟨b,g,vt,ve,fa,M,Of,p,S,f,m,n,rfl,rfl,h⟩:=h
  have H:=Lib.hid h
  have HC:=Lib.hid (kkabortall_v h.bd ok.bx)
  have HA:=Lib.hid ok.ak
  have HE:Hid (s.abort = if 0 < (s.bx.abs s.bx.S.length).2 then ({ s with bx:=(s.bx.abs s.bx.S.length).1,asks:=setB s.asks 1 },(s.bx.abs s.bx.S.length).2) else ({ s with bx:=(s.bx.abs s.bx.S.length).1 },0)):=Lib.hid rfl
  have hle:(s.bx.abs s.bx.S.length).2 ≤ 1000:=Nat.le_trans (Bx.abs_le _ _) ok.bx.n2
  obtain ⟨x,hx⟩:∃ x,s.bx.abs s.bx.S.length = x:=⟨_,rfl⟩
  rw [hx] at HC HE hle
  obtain ⟨x0,x1⟩:=x
  simp only at HC HE hle
  obtain ⟨sx,hsx⟩:∃ x,s.abort = x:=⟨_,rfl⟩
  rw [hsx] at HE ⊢
  clear h ok hx hsx
  go_enter Tryz.func68,Tryz.ntmps68
  go_wp2_with fail
  refine HC.out.mono ?_
  rintro e w1 ⟨rfl,hs⟩
  obtain ⟨g',vt',ve',M',hm,hk,hg⟩:=H.out.boxes hs
  have HM:=Lib.hid hm
  have HK:=Lib.hid hk
  have HG:=Lib.hid hg
  clear hs hm hk hg HC
  by_cases h0:0 < x1
  · obtain rfl:sx = ({ s with bx:=x0,asks:=setB s.asks 1 },x1):=by rw [HE.out,if_pos h0]
    obtain ⟨c9,f9⟩:=HM.out.reg
    simp only at c9
    have h0d:(0:Int) < (x1:Int):=by omega
    go_wp2_with fail
    refine (kkask_v c9 f9 HA.out (by simp)).mono ?_
    rintro e w2 ⟨rfl,rfl⟩
    go_wp2
    go_ret
    obtain ⟨h1,h2⟩:=HM.out.setReg (setB s.asks 1)
    exact ⟨rfl,_,⟨b,g',vt',ve',fa,M',Of,p,S,f,m,n,rfl,rfl,h1⟩,HK.out.trans h2 HG.out,HG.out⟩
  · obtain rfl:x1 = 0:=by omega
    obtain rfl:sx = ({ s with bx:=x0 },0):=by rw [HE.out,if_neg (by omega)]
    go_wp2
    go_ret
    exact ⟨rfl,_,⟨b,g',vt',ve',fa,M',Of,p,S,f,m,n,rfl,rfl,HM.out⟩,HK.out,HG.out⟩
abbrev dnO (i:Int) (q:Pk) (t:Bool):Obj := .cells #[.int .i64 i, .int .i64 q.f.i, .int .i64 q.f.n, .int .i64 q.f.l, .string q.f.d, .int .i64 q.fr, .int .i64 q.tag, .bool q.lp, .bool t] 135
def BoxDn (w:World) (z:Nat) (i:Int) (q:Pk) (t:Bool):Prop:=w.heap[z]? = some (.cells #[.int .i64 i, .int .i64 q.f.i, .int .i64 q.f.n, .int .i64 q.f.l, .string q.f.d, .int .i64 q.fr, .int .i64 q.tag, .bool q.lp, .bool t] 135 (0,0))
def putDn (w:World) (z:Nat) (i:Int) (q:Pk) (t:Bool):World :=
  ((((((((w.setCell ⟨z,0,none⟩ (.int .i64 i)).setCell ⟨z,1,none⟩ (.int .i64 q.f.i)).setCell ⟨z,2,none⟩ (.int .i64 q.f.n)).setCell ⟨z,3,none⟩ (.int .i64 q.f.l)).setCell ⟨z,4,none⟩ (.string q.f.d)).setCell ⟨z,5,none⟩ (.int .i64 q.fr)).setCell ⟨z,6,none⟩ (.int .i64 q.tag)).setCell ⟨z,7,none⟩ (.bool q.lp)).setCell ⟨z,8,none⟩ (.bool t)
theorem BoxDn.cells {w:World} {z:Nat} {i:Int} {q:Pk} {t:Bool} (h:BoxDn w z i q t):w.cell? ⟨z,0,none⟩ = some (.int .i64 i) ∧ w.cell? ⟨z,1,none⟩ = some (.int .i64 q.f.i) ∧ w.cell? ⟨z,2,none⟩ = some (.int .i64 q.f.n) ∧ w.cell? ⟨z,3,none⟩ = some (.int .i64 q.f.l) ∧ w.cell? ⟨z,4,none⟩ = some (.string q.f.d) ∧
    w.cell? ⟨z,5,none⟩ = some (.int .i64 q.fr) ∧ w.cell? ⟨z,6,none⟩ = some (.int .i64 q.tag) ∧ w.cell? ⟨z,7,none⟩ = some (.bool q.lp) ∧ w.cell? ⟨z,8,none⟩ = some (.bool t):=by
  unfold BoxDn at h
  refine ⟨?_, ?_, ?_, ?_, ?_, ?_, ?_, ?_, ?_⟩ <;> (rw [Lib.cell_of_heap h]; rfl)
theorem BoxDn.put {w:World} {z:Nat} {i0 i:Int} {q0 q:Pk} {t0 t:Bool} (h:BoxDn w z i0 q0 t0):BoxDn (putDn w z i q t) z i q t:=by
  unfold BoxDn at h
  have a0:=heap_setCell_same w z 0 _ _ (.int .i64 i) h
  have a1:=heap_setCell_same _ z 1 _ _ (.int .i64 q.f.i) a0
  have a2:=heap_setCell_same _ z 2 _ _ (.int .i64 q.f.n) a1
  have a3:=heap_setCell_same _ z 3 _ _ (.int .i64 q.f.l) a2
  have a4:=heap_setCell_same _ z 4 _ _ (.string q.f.d) a3
  have a5:=heap_setCell_same _ z 5 _ _ (.int .i64 q.fr) a4
  have a6:=heap_setCell_same _ z 6 _ _ (.int .i64 q.tag) a5
  have a7:=heap_setCell_same _ z 7 _ _ (.bool q.lp) a6
  have a8:=heap_setCell_same _ z 8 _ _ (.bool t) a7
  unfold BoxDn putDn
  rw [a8]
  simp
theorem putDn_other {w:World} {z k:Nat} {i:Int} {q:Pk} {t:Bool} (h:k ≠ z):(putDn w z i q t).heap[k]? = w.heap[k]?:=by
  unfold putDn
  iterate 9 rw [Below.heap_setCell _ _ _ _ h]
theorem putDn_rest (w:World) (z:Nat) (i:Int) (q:Pk) (t:Bool):(putDn w z i q t).os = w.os ∧ (putDn w z i q t).tape = w.tape ∧ (putDn w z i q t).output = w.output ∧ (putDn w z i q t).heap.size = w.heap.size:=by
  unfold putDn
  refine ⟨?_, ?_, ?_,by simp [World.setCell]⟩
  · iterate 9 rw [(setCell_rest1 _ _ _).1]
  · iterate 9 rw [(setCell_rest1 _ _ _).2.1]
  · iterate 9 rw [(setCell_rest1 _ _ _).2.2]
theorem stp_new {w w1 w2:World} {v:Value} {s':Ct} {O:Nat → Prop} {z:Nat} (hz:w.heap.size ≤ z) (hz1:z < w1.heap.size) (hs:∃ O',CkD TB od X Y w1 v s' O' ∧ Kept O w w1 ∧ Grows O w O' ∧ ¬ O' z) (ho:∀ k,k ≠ z → w2.heap[k]? = w1.heap[k]?) (hr:w2.os = w1.os ∧ w2.tape = w1.tape ∧ w2.output = w1.output ∧ w2.heap.size = w1.heap.size):Stp (CkD TB od X Y) v O w s' w2:=by
  obtain ⟨O',h1,h2,h3,h4⟩:=hs
  refine ⟨O',isObj_ck.stay h1 (fun k hk => ho k (fun e => h4 (e ▸ hk))),⟨hr.1.trans h2.os,hr.2.1.trans h2.tape,hr.2.2.1.trans h2.output,by rw [hr.2.2.2]; exact h2.size,fun k hk hn => (ho k (by omega)).trans (h2.block k hk hn)⟩,h3⟩
theorem kkended_v {w:World} {v:Value} {s:Ct} {O:Nat → Prop} (h:CkD TB od X Y w v s O) (ok:s.Ok):Calls Tryz.prog 81 #[v] w fun e w' => e = .returned (.tuple #[dnV s.bx.tk.1 s.bx.tk.2.1 s.bx.tk.2.2.1, .int .i64 s.bx.tk.2.2.2]) ∧ Stp (CkD TB od X Y) v O w { s with bx:=s.bx.take.1 } w':=by
  obtain ⟨b,g,vt,ve,fa,M,Of,p,S,f,m,n,rfl,rfl,h⟩:=h
  have H:=Lib.hid h
  have hb0:=(Below.refl w.heap.size w).alloc (Nat.le_refl _) (dnO 0 pk0 false)
  have hd0:BoxDn (w.alloc (dnO 0 pk0 false)) w.heap.size 0 pk0 false:=heap_alloc_new w _
  have HB0:=Lib.hid hb0
  have HD0:=Lib.hid hd0
  have HM0:=Lib.hid (h.later hb0)
  have HC:=Lib.hid (kxtake_v HM0.out.bd ok.bx)
  have HNO:Hid (¬ ckO b g vt ve p Of w.heap.size):=Lib.hid (fun h1 => absurd (h.lt _ h1) (by omega))
  obtain ⟨r,hr⟩:∃ r,s.bx.tk = r:=⟨_,rfl⟩
  rw [hr] at HC ⊢
  obtain ⟨r0,r1,r2,r3⟩:=r
  obtain ⟨bx',hbx⟩:∃ x,s.bx.take.1 = x:=⟨_,rfl⟩
  rw [hbx] at HC ⊢
  obtain ⟨w0,e0⟩:∃ w0,w.alloc (dnO 0 pk0 false) = w0:=⟨_,rfl⟩
  have HE0:w.alloc (.cells #[.int .i64 0, .int .i64 0, .int .i64 0, .int .i64 0, .string (ByteArray.mk #[]), .int .i64 0, .int .i64 0, .bool false, .bool false] 135) = w0:=e0
  rw [e0] at HC HB0 HD0 HM0
  clear h ok hr hbx hb0 hd0 e0
  go_enter Tryz.func81,Tryz.ntmps81
  go_wp2_with fail
  refine HC.out.mono ?_
  rintro e w1 ⟨rfl,hs⟩
  have HZ:Hid (w.heap.size < w0.heap.size):=Lib.hid (heap_some_lt HD0.out)
  have HS:Hid (∃ O',CkD TB od X Y w1 (.pointer (some ⟨b,od,none⟩)) { s with bx:=bx' } O' ∧ Kept (ckO b g vt ve p Of) w w1 ∧ Grows (ckO b g vt ve p Of) w O' ∧ ¬ O' w.heap.size):=Lib.hid (by
    obtain ⟨g',vt',ve',M',hm,hk,hg⟩:=HM0.out.boxes hs
    refine ⟨_,⟨b,g',vt',ve',fa,M',Of,p,S,f,m,n,rfl,rfl,hm⟩,(Kept.of_below HB0.out).trans hk (Grows.refl _ _),fun k h1 => (hg k h1).imp id (fun h2 => Nat.le_trans HB0.out.size h2),fun h1 => ?_⟩
    rcases hg _ h1 with h2 | h2
    · exact HNO.out h2
    · have:=HZ.out; omega)
  have HD1:Hid (BoxDn w1 w.heap.size 0 pk0 false):=Lib.hid (by
    obtain ⟨g',vt',ve',M',hm,hk,hg⟩:=HM0.out.boxes hs
    exact (hk.block _ HZ.out HNO.out).trans HD0.out)
  have HP:Hid (BoxDn (putDn w1 w.heap.size r0 r1 r2) w.heap.size r0 r1 r2):=Lib.hid HD1.out.put
  have z1:w.heap.size < w1.heap.size:=heap_some_lt HD1.out
  obtain ⟨d0,d1,d2,d3,d4,d5,d6,d7,d8⟩:=HD1.out.cells
  have ff:∀ j,w1.frozen? ⟨w.heap.size,j,none⟩ = false:=fun j => Lib.frozen_of_heap HD1.out j
  have HST:Hid (Stp (CkD TB od X Y) (.pointer (some ⟨b,od,none⟩)) (ckO b g vt ve p Of) w { s with bx:=bx' } (putDn w1 w.heap.size r0 r1 r2)):=Lib.hid (stp_new (Nat.le_refl _) z1 HS.out (fun k hk => putDn_other hk) (putDn_rest _ _ _ _ _))
  obtain ⟨wz,ez⟩:∃ wz,putDn w1 w.heap.size r0 r1 r2 = wz:=⟨_,rfl⟩
  rw [ez] at HP HST
  have hfold:((((((((w1.setCell ⟨w.heap.size,0,none⟩ (.int .i64 r0)).setCell ⟨w.heap.size,1,none⟩ (.int .i64 r1.f.i)).setCell ⟨w.heap.size,2,none⟩ (.int .i64 r1.f.n)).setCell ⟨w.heap.size,3,none⟩ (.int .i64 r1.f.l)).setCell ⟨w.heap.size,4,none⟩ (.string r1.f.d)).setCell ⟨w.heap.size,5,none⟩ (.int .i64 r1.fr)).setCell ⟨w.heap.size,6,none⟩ (.int .i64 r1.tag)).setCell ⟨w.heap.size,7,none⟩ (.bool r1.lp)).setCell ⟨w.heap.size,8,none⟩ (.bool r2) = wz:=ez
  clear hs HC ez HS HD0 HB0 HM0 HE0
  go_wp2
  obtain ⟨g0,g1,g2,g3,g4,g5,g6,g7,g8⟩:=HP.out.cells
  refine bodyPost_ret (v := .tuple #[dnV r0 r1 r2, .int .i64 r3]) ?_ rfl ⟨rfl,HST.out⟩
  simp [results,Tryz.results81,go_sem,g0,g1,g2,g3,g4,g5,g6,g7,g8]
theorem rftake_v {TB:TypeId} {o:Nat} {X Y:List Value} {w:World} {v:Value} {L:List Fr} {m n:Nat} {O:Nat → Prop} (h:RfI TB o X Y w v ⟨L,m,n⟩ O) :
    Calls Tryz.prog 135 #[v] w fun e w' => e = .returned (.tuple #[frV (L.headD fr0), .int .i64 (if L.isEmpty then 6 else 0)]) ∧ Stp (RfI TB o X Y) v O w ⟨L.tail,m,n⟩ w':=by
  cases L with
  | nil => exact rftake_f h
  | cons x L => exact rftake_t h
theorem Ct.fetch_eq (s:Ct):s.fetch = ({ s with fifo:=s.fifo.tail },s.fifo.headD fr0, !s.fifo.isEmpty):=by
  unfold Ct.fetch
  cases h:s.fifo with
  | nil => cases s; cases h; rfl
  | cons f r => rfl
theorem kkfetch_v {w:World} {v:Value} {s:Ct} {O:Nat → Prop} (h:CkD TB od X Y w v s O) (ok:s.Ok):Calls Tryz.prog 104 #[v] w fun e w' => e = .returned (.tuple #[fmV s.fetch.2.1, .int .i64 (if s.fetch.2.2 then 0 else 6)]) ∧ Stp (CkD TB od X Y) v O w s.fetch.1 w':=by
  obtain ⟨b,g,vt,ve,fa,M,Of,p,S,f,m,n,rfl,rfl,h⟩:=h
  have H:=Lib.hid h
  have hb0:=(Below.refl w.heap.size w).alloc (Nat.le_refl _) zfO
  have hd0:=BoxF.made w 0 0 0 (ByteArray.mk #[])
  have HB0:=Lib.hid hb0
  have HD0:=Lib.hid hd0
  have HM0:=Lib.hid (h.later hb0)
  have HC:=Lib.hid (rftake_v HM0.out.rd)
  have HNO:Hid (¬ ckO b g vt ve p Of w.heap.size):=Lib.hid (fun h1 => absurd (h.lt _ h1) (by omega))
  have HLN:Hid (s.lost = n):=Lib.hid h.hn
  rw [Ct.fetch_eq]
  simp only
  obtain ⟨r1,hr1⟩:∃ r,s.fifo.headD fr0 = r:=⟨_,rfl⟩
  obtain ⟨r3,hr3⟩:∃ r:Int,(if (!s.fifo.isEmpty) = true then 0 else 6) = r:=⟨_,rfl⟩
  have e3:(if s.fifo.isEmpty = true then (6:Int) else 0) = r3:=by rw [← hr3]; cases s.fifo.isEmpty <;> rfl
  rw [hr1,e3] at HC
  rw [hr1,hr3]
  obtain ⟨ft,hft⟩:∃ x,s.fifo.tail = x:=⟨_,rfl⟩
  rw [hft] at HC ⊢
  obtain ⟨w0,e0⟩:∃ w0,w.alloc zfO = w0:=⟨_,rfl⟩
  rw [e0] at HC HB0 HD0 HM0
  clear h ok hr1 hr3 e3 hft hb0 hd0
  go_enter Tryz.func104,Tryz.ntmps104
  go_wp2_with fail
  refine HC.out.mono ?_
  rintro e w1 ⟨rfl,hs⟩
  have HZ:Hid (w.heap.size < w0.heap.size):=Lib.hid HD0.out.lt
  have HS:Hid (∃ O',CkD TB od X Y w1 (.pointer (some ⟨b,od,none⟩)) { s with fifo:=ft } O' ∧ Kept (ckO b g vt ve p Of) w w1 ∧ Grows (ckO b g vt ve p Of) w O' ∧ ¬ O' w.heap.size):=Lib.hid (by
    obtain ⟨p',S',f',hm,hk,hg⟩:=HM0.out.fifos hs
    rw [← HLN.out] at hm
    refine ⟨_,⟨b,g,vt,ve,fa,M,Of,p',S',f',m,n,rfl,rfl,hm⟩,(Kept.of_below HB0.out).trans hk (Grows.refl _ _),fun k h1 => (hg k h1).imp id (fun h2 => Nat.le_trans HB0.out.size h2),fun h1 => ?_⟩
    rcases hg _ h1 with h2 | h2
    · exact HNO.out h2
    · have:=HZ.out; omega)
  have HD1:Hid (BoxF w1 w.heap.size 0 0 0 (ByteArray.mk #[])):=Lib.hid (by
    obtain ⟨p',S',f',hm,hk,hg⟩:=HM0.out.fifos hs
    exact (hk.block _ HZ.out HNO.out).trans HD0.out)
  have z1:w.heap.size < w1.heap.size:=HD1.out.lt
  obtain ⟨d0,d1,d2,d3⟩:=HD1.out.cells
  have ff:∀ j,w1.frozen? ⟨w.heap.size,j,none⟩ = false:=fun j => Lib.frozen_of_heap HD1.out j
  obtain ⟨wz,ez⟩:∃ wz,(((w1.setCell ⟨w.heap.size,0,none⟩ (.int .i64 r1.i)).setCell ⟨w.heap.size,1,none⟩ (.int .i64 r1.n)).setCell ⟨w.heap.size,2,none⟩ (.int .i64 r1.l)).setCell ⟨w.heap.size,3,none⟩ (.string r1.d) = wz:=⟨_,rfl⟩
  have HP:Hid (BoxF wz w.heap.size r1.i r1.n r1.l r1.d):=Lib.hid (by rw [← ez]; exact boxF_set HD1.out)
  have HST:Hid (Stp (CkD TB od X Y) (.pointer (some ⟨b,od,none⟩)) (ckO b g vt ve p Of) w { s with fifo:=ft } wz):=Lib.hid (stp_new (Nat.le_refl _) z1 HS.out (fun k hk => by rw [← ez]; iterate 4 rw [Below.heap_setCell _ _ _ _ hk]) (by rw [← ez]; exact ⟨rfl,rfl,rfl,by simp [World.setCell]⟩))
  clear hs HC HS HD0 HB0 HM0 e0
  go_wp2
  obtain ⟨g0,g1,g2,g3⟩:=HP.out.cells
  refine bodyPost_ret (v := .tuple #[fmV r1, .int .i64 r3]) ?_ rfl ⟨rfl,HST.out⟩
  simp [results,Tryz.results104,go_sem,g0,g1,g2,g3]
end Go.Proofs.YtimdkcchjanpaaaGreatDoor
namespace Go.Proofs.YtimdkcchjanpaaaGreatDoor
open Go.RowKit
set_option linter.unusedVariables false
variable {TB:TypeId} {od:Nat} {X Y:List Value}
theorem kkaccept_v {w:World} {kb:Nat} {u:Value} {L:List Flt} {f:Fr} (h1:Bx1 w kb u 22) (h2:RowQ flC 3 w u L) (hfit:∀ x ∈ L,x.fits) (hlen:L.length ≤ 50) (hT:Tabs w) (hn:f.n64) {q:Bool} (hq:anyB (carB f.i f.n f.l f.d.size) L false (wordV f.i f.n f.l f.d.size).toNat = q) :
    Calls Tryz.prog 109 #[frV f, .pointer (some ⟨kb,0,none⟩)] w fun e w' => e = .returned (.bool q) ∧ Below w.heap.size w w':=by
  obtain ⟨vn,hv,hvl⟩:=word_nat f.i f.n f.l f.d.size
  rw [hv,Int.toNat_natCast] at hq
  have hb0:=(Below.refl w.heap.size w).alloc (Nat.le_refl _) (.cells #[.int .i64 f.i, .int .i64 f.n, .int .i64 f.l, .string f.d] 35)
  have HB0:=Lib.hid hb0
  have HC:=Lib.hid (any_v _ rfl hv hvl hq hfit _ ((h2.later hb0).sl flC_len (by unfold maxLen; omega)) (hT.below hb0) hn.1 hn.2)
  have c0:=h1.cell
  have z0:=h1.lt
  clear h1 h2 hfit hlen hT hn hq hv hvl hb0
  go_enter Tryz.func109,Tryz.ntmps109
  go_wp2_with fail
  refine HC.out.mono ?_
  rintro e w1 ⟨rfl,hb⟩
  go_wp2
  go_ret
  exact ⟨rfl,fbelow_t HB0.out hb⟩
theorem func_nil (k:FuncId) (c:Array Value) (w:World):(binOp .eql 52 (.func (.func k) #[] c) .nilFunc).run Tryz.prog w = .ok (.bool false) w:=by kernel_rfl
theorem nil_nil (w:World):(binOp .eql 52 .nilFunc .nilFunc).run Tryz.prog w = .ok (.bool true) w:=by kernel_rfl
theorem kklets_v {w:World} {b g:Nat} {vt ve fa:Value} {M:List (Int × Pk)} {Of:Nat → Prop} {p:Option Addr} {S:List Fr} {fs m n:Nat} {s:Ct} {f:Fr} {r:Bool} (h:CkM TB od X Y w b g vt ve fa M Of p S fs m n s) (hT:Tabs w) (hn:f.n64) (hr:letF s.acc f = r) :
    Calls Tryz.prog 101 #[.pointer (some ⟨b,od + 3,none⟩),frV f] w fun e w' => e = .returned (.bool r) ∧ Below w.heap.size w w':=by
  have hb0:=(Below.refl w.heap.size w).alloc (Nat.le_refl _) (.cells #[.int .i64 f.i, .int .i64 f.n, .int .i64 f.l, .string f.d] 35)
  have hf0:=BoxF.made w f.i f.n f.l f.d
  obtain ⟨w0,e0⟩:∃ w0,w.alloc (.cells #[.int .i64 f.i, .int .i64 f.n, .int .i64 f.l, .string f.d] 35) = w0:=⟨_,rfl⟩
  rw [e0] at hb0 hf0
  have HB0:=Lib.hid hb0
  have hm0:=h.later hb0
  have c3:w0.cell? ⟨b,od + 3,none⟩ = some fa:=by rw [Lib.cell_of_heap hm0.bm.box,getX hm0.bm.off]; rfl
  have hbz:=hm0.rf.blt
  have HA:=Lib.hid hm0.ac
  obtain ⟨d0,d1,d2,d3⟩:=hf0.cells
  have hz0:=hf0.lt
  have HT:=Lib.hid (hT.below hb0)
  have HN:=Lib.hid hn
  obtain ⟨q,hq⟩:∃ q,keyG f = q:=⟨_,rfl⟩
  have HQ:Hid (keyV f.i f.n f.l f.d.size = q):=Lib.hid hq
  have HR:=Lib.hid hr
  unfold letF at HR
  rw [hq] at HR
  have hl:=later_cells
  clear h hb0 hf0 hm0 hT hn hq hr
  by_cases h2:q < 0
  · have hk:decide (0 ≤ q) = false:=decide_eq_false (by omega)
    rw [decide_eq_true h2] at HR
    obtain rfl:r = false:=HR.out.symm
    clear h2
    go_enter Tryz.func101,Tryz.ntmps101
    go_wp2_with fail
    refine wp_region_later (by kernel_rfl) (by kernel_rfl) ?_
    repeat (go_big_quiet_step (fail))
    go_big_quiet_step (exact Later.call (key_v HQ.out _ (Later.tabs _ HT.out) HN.out.1 HN.out.2))
    repeat (go_big_quiet_step (fail))
    refine wpQuiet_nil ?_
    rintro w1 ⟨mm,rfl⟩
    go_wp2
    go_ret
    exact ⟨rfl,fbelow_t HB0.out mm.h⟩
  · have hk:decide (0 ≤ q) = true:=decide_eq_true (by omega)
    rw [decide_eq_false h2] at HR
    clear h2
    rcases HA.out with ⟨rfl,hL,_⟩ | ⟨kb,u,hL,rfl,h1,h3,h4,h5,_⟩
    · obtain rfl:r = true:=by have:=HR.out; rw [hL] at this; simpa using this.symm
      have hnn:=nil_nil
      clear hL
      go_enter Tryz.func101,Tryz.ntmps101
      go_wp2_with fail
      refine wp_region_later (by kernel_rfl) (by kernel_rfl) ?_
      repeat (go_big_quiet_step (fail))
      go_big_quiet_step (exact Later.call (key_v HQ.out _ (Later.tabs _ HT.out) HN.out.1 HN.out.2))
      repeat (go_big_quiet_step (fail))
      refine wpQuiet_nil ?_
      rintro w1 ⟨mm,rfl⟩
      go_wp2
      go_ret
      exact ⟨rfl,fbelow_t HB0.out mm.h⟩
    · have HAN:Hid (anyB (carB f.i f.n f.l f.d.size) s.acc false (wordV f.i f.n f.l f.d.size).toNat = r):=Lib.hid (by
        have h6:=HR.out
        rw [decide_eq_false (fun h => hL (List.eq_nil_of_length_eq_zero h))] at h6
        simpa using h6)
      have HCC:Hid (∀ n:Later w0,Calls Tryz.prog 109 #[frV f, .pointer (some ⟨kb,0,none⟩)] n.w fun e w' => e = .returned (.bool r) ∧ Below n.w.heap.size n.w w'):=Lib.hid (fun n => kkaccept_v (h1.later n.h) (h3.later n.h) h4 h5 (Later.tabs n HT.out) HN.out HAN.out)
      have hfn:=func_nil
      clear hL h1 h3 h4 h5
      go_enter Tryz.func101,Tryz.ntmps101
      go_wp2_with fail
      refine wp_region_later (by kernel_rfl) (by kernel_rfl) ?_
      repeat (go_big_quiet_step (fail))
      go_big_quiet_step (exact Later.call (key_v HQ.out _ (Later.tabs _ HT.out) HN.out.1 HN.out.2))
      repeat (go_big_quiet_step (fail))
      go_big_quiet_step (exact Later.call (HCC.out _))
      repeat (go_big_quiet_step (fail))
      refine wpQuiet_nil ?_
      rintro w1 ⟨mm,rfl⟩
      go_wp2
      go_ret
      exact ⟨rfl,fbelow_t HB0.out mm.h⟩
theorem kkhear_v {w:World} {v:Value} {s:Ct} {O:Nat → Prop} (f:Fr) (h:CkD TB od X Y w v s O) (ok:s.Ok) (hl1:s.lost ≤ 1000000) (hT:Tabs w) (hn:f.n64):Calls Tryz.prog 59 #[v,fmV f] w fun e w' => e = .returned (.bool (s.hear f).2) ∧ Stp (CkD TB od X Y) v O w (s.hear f).1 w':=by
  obtain ⟨b,g,vt,ve,fa,M,Of,p,S,fs,m,n,rfl,rfl,h⟩:=h
  have H:=Lib.hid h
  have hb0:=(Below.refl w.heap.size w).alloc (Nat.le_refl _) (.cells #[.int .i64 f.i, .int .i64 f.n, .int .i64 f.l, .string f.d] 35)
  have hf0:=BoxF.made w f.i f.n f.l f.d
  obtain ⟨w0,e0⟩:∃ w0,w.alloc (.cells #[.int .i64 f.i, .int .i64 f.n, .int .i64 f.l, .string f.d] 35) = w0:=⟨_,rfl⟩
  rw [e0] at hb0 hf0
  have HB0:=Lib.hid hb0
  have HF0:=Lib.hid hf0
  have HM0:=Lib.hid (h.later hb0)
  obtain ⟨d0,d1,d2,d3⟩:=hf0.cells
  have hz0:=hf0.lt
  have hbz:=HM0.out.rf.blt
  have HT:=Lib.hid (hT.below hb0)
  have HN:=Lib.hid hn
  have HOK:=Lib.hid ok
  have HL1:=Lib.hid hl1
  obtain ⟨q,hq⟩:∃ q,letF s.acc f = q:=⟨_,rfl⟩
  have HLE:Hid (∀ n':Later w0,Calls Tryz.prog 101 #[.pointer (some ⟨b,od + 3,none⟩),frV f] n'.w fun e w' => e = .returned (.bool q) ∧ Below n'.w.heap.size n'.w w'):=Lib.hid (fun n' => kklets_v (HM0.out.later n'.h) (Later.tabs n' HT.out) hn hq)
  have HX:Hid (s.hear f = if q = false then (s,false) else if (s.fifo.length:Int) = s.room then ({ s with lost:=s.lost + 1,asks:=setB s.asks 4 },false) else ({ s with fifo:=s.fifo ++ [f],asks:=setB s.asks 2 },true)):=Lib.hid (by unfold Ct.hear; rw [hq])
  obtain ⟨sx,hsx⟩:∃ x,s.hear f = x:=⟨_,rfl⟩
  rw [hsx] at HX ⊢
  have hl:=later_cells
  clear h hb0 hf0 hT hn hq hsx ok hl1
  go_enter Tryz.func59,Tryz.ntmps59
  go_wp2_with fail
  refine wp_region_later (by kernel_rfl) (by kernel_rfl) ?_
  repeat (go_big_quiet_step (fail))
  go_big_quiet_step (exact Later.call (HLE.out _))
  repeat (go_big_quiet_step (fail))
  refine wpQuiet_nil ?_
  rintro w1 ⟨mm,rfl⟩
  have HB1:=Lib.hid (fbelow_t HB0.out mm.h)
  have HF1:=Lib.hid (HF0.out.later mm.h)
  clear d0 d1 d2 d3 hz0 hbz hl e0
  generalize mm.w = w1 at HB1 HF1 ⊢
  cases q
  · obtain rfl:(s,false) = sx:=by rw [HX.out]; rfl
    go_wp2
    go_ret
    exact ⟨rfl,H.out.stp HB1.out⟩
  · have HX2:Hid (sx = if (s.fifo.length:Int) = s.room then ({ s with lost:=s.lost + 1,asks:=setB s.asks 4 },false) else ({ s with fifo:=s.fifo ++ [f],asks:=setB s.asks 2 },true)):=Lib.hid (by rw [HX.out]; rfl)
    have hlt:=(H.out.later HB1.out).rf.blt
    obtain ⟨d0,d1,d2,d3⟩:=HF1.out.cells
    have hz1:=HF1.out.lt
    clear HX
    go_upto_region 3 with fail
    have hcl:∀ (n:Later w1) (b o:Nat),b < w1.heap.size → n.w.cell? ⟨b,o,none⟩ = w1.cell? ⟨b,o,none⟩:=later_cells w1
    refine wp_region_sec 5 [] (fun _ _ _ => True) (fun _ _ _ _ _ _ => True.intro) (by kernel_rfl) (by kernel_rfl) (by kernel_rfl) (by kernel_rfl) (by kernel_rfl) ?_
    simp only [List.take_succ_cons,List.take_zero,List.drop_succ_cons,List.drop_zero]
    repeat ((first | refine sec_plain (by rfl) (by rfl) (by rfl) (by rfl) ?_ | refine sec_nil (by rfl) (by rfl) (by rfl) (by rfl) (by rfl) ?_); intro K hK; go_big_quiet_op; go_big_quiet_on)
    intro xs m9 hF
    simp only [secFill]
    have HB2:=Lib.hid (fbelow_t HB1.out m9.h)
    clear hF xs hcl d0 d1 d2 d3 hz1 hlt
    generalize m9.w = w2 at HB2 ⊢
    have HM2:=Lib.hid (H.out.later HB2.out)
    by_cases h3:(s.fifo.length:Int) = s.room
    · obtain rfl:({ s with lost:=s.lost + 1,asks:=setB s.asks 4 },false) = sx:=by rw [HX2.out,if_pos h3]
      have HFL:Hid (s.fifo.length = m):=Lib.hid (by have:=H.out.hm; omega)
      have HNL:Hid (n ≤ 1000000):=Lib.hid (by have:=H.out.hn; have:=HL1.out; omega)
      clear h3
      go_wp2_with fail
      refine (rfput_f f HM2.out.rd HFL.out HNL.out).mono ?_
      rintro e w3 ⟨rfl,hs⟩
      obtain ⟨p',S',f',hm,hk,hg⟩:=H.out.behindF HB2.out hs
      have HM:=Lib.hid hm
      have HK:=Lib.hid hk
      have HG:=Lib.hid hg
      clear hs hm hk hg
      obtain ⟨c9,f9⟩:=HM.out.reg
      simp only at c9
      go_wp2_with fail
      refine (kkask_v c9 f9 HOK.out.ak (by simp)).mono ?_
      rintro e w4 ⟨rfl,rfl⟩
      go_wp2
      go_ret
      obtain ⟨h1,h2⟩:=HM.out.setReg (setB s.asks 4)
      have hln:s.lost + 1 = ((n + 1:Nat):Int):=by have:=H.out.hn; omega
      rw [← hln] at h1
      exact ⟨rfl,_,⟨b,g,vt,ve,fa,M,Of,p',S',f',m,n + 1,rfl,rfl,h1⟩,HK.out.trans h2 HG.out,HG.out⟩
    · obtain rfl:({ s with fifo:=s.fifo ++ [f],asks:=setB s.asks 2 },true) = sx:=by rw [HX2.out,if_neg h3]
      have HFL:Hid (s.fifo.length < m):=Lib.hid (by have:=H.out.hm; have:=HOK.out.fifo; omega)
      have HLN:Hid (s.lost = n):=Lib.hid H.out.hn
      clear h3
      go_wp2_with fail
      refine (rfput_t f HM2.out.rd HFL.out).mono ?_
      rintro e w3 ⟨rfl,hs⟩
      obtain ⟨p',S',f',hm,hk,hg⟩:=H.out.behindF HB2.out hs
      rw [← HLN.out] at hm
      have HM:=Lib.hid hm
      have HK:=Lib.hid hk
      have HG:=Lib.hid hg
      clear hs hm hk hg
      obtain ⟨c9,f9⟩:=HM.out.reg
      simp only at c9
      go_wp2_with fail
      refine (kkask_v c9 f9 HOK.out.ak (by simp)).mono ?_
      rintro e w4 ⟨rfl,rfl⟩
      go_wp2
      go_ret
      obtain ⟨h1,h2⟩:=HM.out.setReg (setB s.asks 2)
      exact ⟨rfl,_,⟨b,g,vt,ve,fa,M,Of,p',S',f',m,n,rfl,rfl,h1⟩,HK.out.trans h2 HG.out,HG.out⟩
end Go.Proofs.YtimdkcchjanpaaaGreatDoor
