/- Box, the code: end, Sent, Abort. Box, the code: Take. Ctrl, the document's side: Room, Set, Clear. Ctrl, the document's side: New, Offer, Won. -/
import Derived.Test.YtimdkcchjanpaaaGreatDoorZaq
import Derived.Test.YtimdkcchjanpaaaGreatDoorZam
import Derived.Test.YtimdkcchjanpaaaGreatDoorZan
import Derived.Test.YtimdkcchjanpaaaGreatDoorZag
import Derived.Test.YtimdkcchjanpaaaGreatDoorZaf
set_option maxHeartbeats 8000000
namespace Go.Proofs.YtimdkcchjanpaaaGreatDoor
open Go.RowKit Go.Shelf
set_option linter.unusedVariables false
variable {TB:TypeId} {od:Nat} {X Y:List Value}
set_option maxRecDepth 8000 in
theorem kxend_v {w:World} {v:Value} {s:Bx} {O:Nat → Prop} {i st:Int} (h:BmD TB od X Y w v s O) (ok:s.Ok) (hst:st = 2 ∨ st = 3):Calls Tryz.prog 151 #[v, .int .i64 i, .int .i64 st] w fun e w' => e = .returned (.int .i64 (s.end_ i st).2) ∧ Stp (BmD TB od X Y) v O w (s.end_ i st).1 w':=by
  obtain ⟨b,g,vt,ve,M,rfl,rfl,hm,hs⟩:=h
  have hMl:M.length ≤ 1000:=by rw [hs.len]; exact ok.n2
  have l5:(M.length:Int) ≤ 1000:=by omega
  obtain ⟨c0,c1,c2⟩:=hm.cells
  have z0:b < w.heap.size:=hm.lt b (.inl rfl)
  by_cases h1:i < 0
  · have HE:Hid (s.end_ i st = (s,2)):=Lib.hid (by unfold Bx.end_; rw [if_pos (.inl h1)])
    have HS:Hid (Stp (BmD TB od X Y) (.pointer (some ⟨b,od,none⟩)) (bmO b g vt ve) w s w):=Lib.hid ⟨_,⟨b,g,vt,ve,M,rfl,rfl,hm,hs⟩,Kept.refl _ _,Grows.refl _ _⟩
    rw [HE.out]
    have d1:decide (i < 0) = true:=decide_eq_true h1
    clear hm hs ok
    go_enter Tryz.func151,Tryz.ntmps151
    go_wp2
    go_ret
    exact ⟨rfl,HS.out⟩
  obtain ⟨n,rfl⟩:∃ n:Nat,i = (n:Int):=⟨i.toNat,by omega⟩
  by_cases h2:s.S.length ≤ n
  · have HE:Hid (s.end_ n st = (s,2)):=Lib.hid (by unfold Bx.end_; rw [if_pos (.inr (.inl (by omega)))])
    have HS:Hid (Stp (BmD TB od X Y) (.pointer (some ⟨b,od,none⟩)) (bmO b g vt ve) w s w):=Lib.hid ⟨_,⟨b,g,vt,ve,M,rfl,rfl,hm,hs⟩,Kept.refl _ _,Grows.refl _ _⟩
    rw [HE.out]
    have d1:decide ((n:Int) < 0) = false:=decide_eq_false (by omega)
    have d2:decide (M.length ≤ n) = true:=decide_eq_true (by have:=hs.len; omega)
    clear hm hs ok h1 h2
    go_enter Tryz.func151,Tryz.ntmps151
    go_wp2
    go_ret
    exact ⟨rfl,HS.out⟩
  have hn:n < s.S.length:=by omega
  have hmy:=hs.at_ hn
  have d1:decide ((n:Int) < 0) = false:=decide_eq_false (by omega)
  have d2:decide (M.length ≤ n) = false:=decide_eq_false (by have:=hs.len; omega)
  have l2:(n:Int) < (M.length:Int):=by have:=hs.len; omega
  obtain ⟨m0,_⟩:=hm.mail hmy
  by_cases h3:s.S.getD n 0 = 1
  case neg =>
    have HE:Hid (s.end_ n st = (s,2)):=Lib.hid (by unfold Bx.end_; rw [if_pos (.inr (.inr (by rw [Int.toNat_natCast]; exact h3)))])
    have HS:Hid (Stp (BmD TB od X Y) (.pointer (some ⟨b,od,none⟩)) (bmO b g vt ve) w s w):=Lib.hid ⟨_,⟨b,g,vt,ve,M,rfl,rfl,hm,hs⟩,Kept.refl _ _,Grows.refl _ _⟩
    rw [HE.out]
    generalize s.S.getD n 0 = x at *
    have d3:(x != 1) = true:=by simpa using h3
    clear hm hs ok h1 h2 h3 hmy
    go_enter Tryz.func151,Tryz.ntmps151
    go_wp2
    go_ret
    exact ⟨rfl,HS.out⟩
  case pos =>
    have HE:Hid (s.end_ n st = (s.endAt n st,0)):=Lib.hid (by unfold Bx.end_; rw [if_neg (by rw [Int.toNat_natCast]; omega),Int.toNat_natCast])
    rw [HE.out]
    obtain ⟨A1,k1,hve⟩:=hm.fin.shape
    subst hve
    have hin:=hs.full.mem n hn h3
    obtain ⟨k,hk,hk2⟩:=List.getElem_of_mem (mem_turnK (key:=s.key).2 hin)
    have hk:k < s.trn.length:=hk
    have hkx:s.trn[k]? = some (n:Int):=by rw [List.getElem?_eq_getElem hk]; exact congrArg some hk2
    have htl:s.trn.length ≤ 1000:=by rw [s.trn_len]; exact ok.ordLe
    have hfl:s.fin.length ≤ 1000:=ok.finLe
    have HT:Hid ((s.endAt n st).trn = s.trn.take k ++ s.trn.drop (k + 1) ∧ (s.endAt n st).fin = s.fin ++ [(n:Int)]):=Lib.hid ⟨Bx.trn_end ok st hkx,rfl⟩
    have HS:Hid (BmS (M.set n (st,s.P.getD n pk0)) (s.endAt n st)):=Lib.hid (by
      refine ⟨?_, ?_,hs.full.endAt ok hn h3 hst⟩
      · rw [List.map_set,hs.hS]; rfl
      · rw [List.map_set,hs.hP]
        show s.P.set n (s.P.getD n pk0) = s.P
        have hnP:n < s.P.length:=by rw [ok.lp]; exact hn
        rw [List.getD_eq_getElem?_getD,List.getElem?_eq_getElem hnP]
        exact List.set_getElem_self hnP)
    generalize s.P.getD n pk0 = p at hmy HS
    rw [h3] at hmy m0
    have HIX:=Lib.hid (sl_index_v hm.turn (by omega) ok.trnNd hkx)
    have HM:=Lib.hid hm
    have n1:=hm.f1.1
    have b1l:=hm.live (od + 1)
    have HMY:=Lib.hid hmy
    have HOW:=Lib.hid hm.lt
    have hkl:(k:Int) + 1 ≤ 1000:=by omega
    have HKL:=Lib.hid hk
    have HFL:=Lib.hid hfl
    have HNL:Hid (n < M.length):=Lib.hid (by rw [hs.len]; exact hn)
    clear hm hs ok h1 h2 h3 hmy hkx hk2 hin hk htl hfl hn hMl
    go_enter Tryz.func151,Tryz.ntmps151
    go_wp2_with fail
    refine HIX.out.mono ?_
    rintro e w' ⟨rfl,rfl⟩
    go_wp2_with fail
    refine (sl_delete_v HM.out.turn HKL.out).mono ?_
    rintro e w1 ⟨v',rfl,hq,hk1,hg1⟩
    obtain ⟨A2,k2,hv2⟩:=hq.shape
    subst hv2
    have b1:=(hk1.cell (p:=⟨b,od + 1,none⟩) z0 n1).trans c1
    have b1f:=(hk1.frozen (p:=⟨b,od + 1,none⟩) z0 n1).trans b1l
    obtain ⟨r1,r2,r3⟩:=HM.out.setTurn hq hk1 hg1
    generalize (List.take k s.trn ++ List.drop (k + 1) s.trn).length = tl at *
    obtain ⟨w2,e2⟩:∃ w2,w1.setCell ⟨b,od + 1,none⟩ (.slice A2 tl k2) = w2:=⟨_,rfl⟩
    rw [e2] at r1 r2
    have HM2:=Lib.hid r1
    have HK2:=Lib.hid r2
    have HG2:=Lib.hid r3
    clear hq hk1 hg1 r1 r2 r3 c0 c1 c2
    go_upto_region 8 with fail
    clear e2 b1 b1f b1l n1
    obtain ⟨c0,c1,c2⟩:=HM2.out.cells
    have z2:b < w2.heap.size:=HM2.out.lt b (.inl rfl)
    have zg:g < w2.heap.size:=HM2.out.lt g (.inr (.inl rfl))
    have n2:=HM2.out.f2
    have b2l:=HM2.out.live (od + 2)
    have ml:=HM2.out.liveR
    have hbg:b ≠ g:=HM2.out.h1
    have hgb:g ≠ b:=fun e => hbg e.symm
    obtain ⟨m0,_⟩:=HM2.out.mail HMY.out
    have HBL:=Lib.hid ((Below.refl w2.heap.size w2).alloc (Nat.le_refl _) (.cells #[.int .i64 (n:Int)] 3))
    have HRQ:Hid (RowQ inC 1 (w2.alloc (.cells #[.int .i64 (n:Int)] 3)) (.slice A1 s.fin.length k1) s.fin):=Lib.hid (HM2.out.fin.later HBL.out)
    have HRD:Hid (RdA inC 1 (w2.alloc (.cells #[.int .i64 (n:Int)] 3)) (.slice (some ⟨w2.heap.size,0,none⟩) 1 1) [(n:Int)]):=Lib.hid (RdA.one inC_len _ _ _ rfl rfl)
    have HCB:Hid (∀ (w3:World),Kept (OwnO (.slice A1 s.fin.length k1)) (w2.alloc (.cells #[.int .i64 (n:Int)] 3)) w3 → (∀ o,w3.cell? ⟨b,o,none⟩ = w2.cell? ⟨b,o,none⟩ ∧ w3.frozen? ⟨b,o,none⟩ = w2.frozen? ⟨b,o,none⟩) ∧ ∀ o,w3.cell? ⟨g,o,none⟩ = w2.cell? ⟨g,o,none⟩ ∧ w3.frozen? ⟨g,o,none⟩ = w2.frozen? ⟨g,o,none⟩):=Lib.hid (fun w3 hk3 =>
      ⟨fun o => ⟨(hk3.cell (p:=⟨b,o,none⟩) (Nat.lt_of_lt_of_le z2 HBL.out.size) n2.1).trans (HBL.out.cell (p:=⟨b,o,none⟩) z2),(hk3.frozen (p:=⟨b,o,none⟩) (Nat.lt_of_lt_of_le z2 HBL.out.size) n2.1).trans (HBL.out.frozen (p:=⟨b,o,none⟩) z2)⟩,
       fun o => ⟨(hk3.cell (p:=⟨g,o,none⟩) (Nat.lt_of_lt_of_le zg HBL.out.size) n2.2).trans (HBL.out.cell (p:=⟨g,o,none⟩) zg),(hk3.frozen (p:=⟨g,o,none⟩) (Nat.lt_of_lt_of_le zg HBL.out.size) n2.2).trans (HBL.out.frozen (p:=⟨g,o,none⟩) zg)⟩⟩)
    go_wp2_with (at_builtin; refine wpList_qO (c:=inC) (L:=s.fin) (M := [(n:Int)]) flat_in inC_len inC_one rfl (.tmp 54) (.tmp 56) rfl (by rfl) HRQ.out (by rfl) HRD.out (by have:=HFL.out; simp; omega) ?_; rintro v3 w3 hq3 hk3 hg3; obtain ⟨g3,o3,cap3,rfl⟩:=hq3.form; have HQ3:=Lib.hid hq3; have HK3:=Lib.hid hk3; have HG3:=Lib.hid hg3; have y0:=((HCB.out w3 hk3).1 od).1.trans c0; have y2:=((HCB.out w3 hk3).1 (od + 2)).1.trans c2; have y2f:=((HCB.out w3 hk3).1 (od + 2)).2.trans b2l; have y3:=((HCB.out w3 hk3).2 (n * 8)).1.trans m0; have y3f:=((HCB.out w3 hk3).2 (n * 8)).2.trans (ml _); clear hq3 hk3 hg3)
    go_wp2
    go_ret
    refine ⟨rfl, ?_⟩
    obtain ⟨r1,r2,r3⟩:=(HM2.out.later HBL.out).setFin HQ3.out HK3.out HG3.out
    obtain ⟨r4,r5⟩:=r1.setState HMY.out st
    refine ⟨bmO b g (.slice A2 tl k2) (.slice (some ⟨g3,o3,none⟩) (s.fin.length + 1) cap3),⟨b,g, .slice A2 tl k2, .slice (some ⟨g3,o3,none⟩) (s.fin.length + 1) cap3,M.set n (st,p),rfl,rfl, ?_,HS.out⟩, ?_,fun k hk => ?_⟩
    · rw [HT.out.1,HT.out.2]; exact r4
    · exact ((HK2.out.trans (.of_below (O:=bmO b g (.slice A2 tl k2) (.slice A1 s.fin.length k1)) HBL.out) HG2.out).trans r2 HG2.out).trans r5 (fun k hk => by
        have h1:=HK2.out.size
        have h2:=HBL.out.size
        rcases r3 k hk with h | h
        · exact HG2.out k h
        · exact .inr (by omega))
    · have h1:=HK2.out.size
      have h2:=HBL.out.size
      rcases r3 k hk with h | h
      · exact HG2.out k h
      · exact .inr (by omega)
theorem kxsent_v {w:World} {v:Value} {s:Bx} {O:Nat → Prop} (i:Int) (h:BmD TB od X Y w v s O) (ok:s.Ok):Calls Tryz.prog 132 #[v, .int .i64 i] w fun e w' => e = .returned (.int .i64 (s.end_ i 2).2) ∧ Stp (BmD TB od X Y) v O w (s.end_ i 2).1 w':=by
  have hc:=kxend_v (i:=i) h ok (.inl rfl)
  clear h ok
  go_enter Tryz.func132,Tryz.ntmps132
  go_wp2_with fail
  refine hc.mono ?_
  rintro e w' ⟨rfl,h'⟩
  have H:=Lib.hid h'
  clear h'
  go_wp2
  go_ret
  exact ⟨rfl,H.out⟩
theorem kxabort_v {w:World} {v:Value} {s:Bx} {O:Nat → Prop} (i:Int) (h:BmD TB od X Y w v s O) (ok:s.Ok):Calls Tryz.prog 138 #[v, .int .i64 i] w fun e w' => e = .returned (.int .i64 (s.end_ i 3).2) ∧ Stp (BmD TB od X Y) v O w (s.end_ i 3).1 w':=by
  have hc:=kxend_v (i:=i) h ok (.inr rfl)
  clear h ok
  go_enter Tryz.func138,Tryz.ntmps138
  go_wp2_with fail
  refine hc.mono ?_
  rintro e w' ⟨rfl,h'⟩
  have H:=Lib.hid h'
  clear h'
  go_wp2
  go_ret
  exact ⟨rfl,H.out⟩
end Go.Proofs.YtimdkcchjanpaaaGreatDoor
namespace Go.Proofs.YtimdkcchjanpaaaGreatDoor
open Go.RowKit Go.Shelf
set_option linter.unusedVariables false
variable {TB:TypeId} {od:Nat} {X Y:List Value}
def DnB (w:World) (z:Nat) (i:Int) (p:Pk) (q:Bool):Prop:=w.heap[z]? = some (.cells #[.int .i64 i, .int .i64 p.f.i, .int .i64 p.f.n, .int .i64 p.f.l, .string p.f.d, .int .i64 p.fr, .int .i64 p.tag, .bool p.lp, .bool q] 135 (0,0))
theorem DnB.lt {w:World} {z:Nat} {i:Int} {p:Pk} {q:Bool} (h:DnB w z i p q):z < w.heap.size:=heap_some_lt h
theorem DnB.later {w w':World} {z:Nat} {i:Int} {p:Pk} {q:Bool} (h:DnB w z i p q) (hb:Below w.heap.size w w'):DnB w' z i p q:=(hb.block z h.lt).trans h
theorem DnB.kept {w w':World} {z:Nat} {i:Int} {p:Pk} {q:Bool} {O:Nat → Prop} (h:DnB w z i p q) (hk:Kept O w w') (hn:¬ O z):DnB w' z i p q:=(hk.block z h.lt hn).trans h
theorem DnB.cells {w:World} {z:Nat} {i:Int} {p:Pk} {q:Bool} (h:DnB w z i p q):w.cell? ⟨z,0,none⟩ = some (.int .i64 i) ∧ w.cell? ⟨z,1,none⟩ = some (.int .i64 p.f.i) ∧ w.cell? ⟨z,2,none⟩ = some (.int .i64 p.f.n) ∧ w.cell? ⟨z,3,none⟩ = some (.int .i64 p.f.l) ∧ w.cell? ⟨z,4,none⟩ = some (.string p.f.d) ∧
    w.cell? ⟨z,5,none⟩ = some (.int .i64 p.fr) ∧ w.cell? ⟨z,6,none⟩ = some (.int .i64 p.tag) ∧ w.cell? ⟨z,7,none⟩ = some (.bool p.lp) ∧ w.cell? ⟨z,8,none⟩ = some (.bool q):=by
  unfold DnB at h
  refine ⟨?_, ?_, ?_, ?_, ?_, ?_, ?_, ?_, ?_⟩ <;> (rw [Lib.cell_of_heap h]; rfl)
def putD (w:World) (z:Nat) (i:Int) (p:Pk) (q:Bool):World :=
  ((((((((w.setCell ⟨z,0,none⟩ (.int .i64 i)).setCell ⟨z,1,none⟩ (.int .i64 p.f.i)).setCell ⟨z,2,none⟩ (.int .i64 p.f.n)).setCell ⟨z,3,none⟩ (.int .i64 p.f.l)).setCell ⟨z,4,none⟩ (.string p.f.d)).setCell ⟨z,5,none⟩ (.int .i64 p.fr)).setCell ⟨z,6,none⟩ (.int .i64 p.tag)).setCell ⟨z,7,none⟩ (.bool p.lp)).setCell ⟨z,8,none⟩ (.bool q)
theorem DnB.put {w:World} {z:Nat} {i0:Int} {p0:Pk} {q0:Bool} (h:DnB w z i0 p0 q0) (i:Int) (p:Pk) (q:Bool):DnB (putD w z i p q) z i p q:=by
  unfold DnB at *
  have a0:=heap_setCell_same w z 0 _ _ (.int .i64 i) h
  have a1:=heap_setCell_same _ z 1 _ _ (.int .i64 p.f.i) a0
  have a2:=heap_setCell_same _ z 2 _ _ (.int .i64 p.f.n) a1
  have a3:=heap_setCell_same _ z 3 _ _ (.int .i64 p.f.l) a2
  have a4:=heap_setCell_same _ z 4 _ _ (.string p.f.d) a3
  have a5:=heap_setCell_same _ z 5 _ _ (.int .i64 p.fr) a4
  have a6:=heap_setCell_same _ z 6 _ _ (.int .i64 p.tag) a5
  have a7:=heap_setCell_same _ z 7 _ _ (.bool p.lp) a6
  have a8:=heap_setCell_same _ z 8 _ _ (.bool q) a7
  unfold putD
  rw [a8]
  simp only [List.setIfInBounds_toArray,List.set_cons_zero,List.set_cons_succ]
theorem putD_other {w:World} {z k:Nat} {i:Int} {p:Pk} {q:Bool} (h:k ≠ z):(putD w z i p q).heap[k]? = w.heap[k]?:=by
  unfold putD
  iterate 9 rw [Below.heap_setCell _ _ _ _ h]
theorem putD_kept (w:World) (z:Nat) (i:Int) (p:Pk) (q:Bool):Kept (fun k => k = z) w (putD w z i p q):=by
  refine ⟨?_, ?_, ?_, ?_,fun k _ hk => putD_other hk⟩
  · unfold putD; iterate 9 rw [(setCell_rest1 _ _ _).1]
  · unfold putD; iterate 9 rw [(setCell_rest1 _ _ _).2.1]
  · unfold putD; iterate 9 rw [(setCell_rest1 _ _ _).2.2]
  · unfold putD; simp [World.setCell]
theorem DnB.made (w:World):DnB (w.alloc (.cells #[.int .i64 0, .int .i64 0, .int .i64 0, .int .i64 0, .string (ByteArray.mk #[]), .int .i64 0, .int .i64 0, .bool false, .bool false] 135)) w.heap.size 0 pk0 false:=heap_alloc_new w _
theorem kxtake_v {w:World} {v:Value} {s:Bx} {O:Nat → Prop} (h:BmD TB od X Y w v s O) (ok:s.Ok):Calls Tryz.prog 120 #[v] w fun e w' => e = .returned (.tuple #[dnV s.tk.1 s.tk.2.1 s.tk.2.2.1, .int .i64 s.tk.2.2.2]) ∧ Stp (BmD TB od X Y) v O w s.take.1 w':=by
  obtain ⟨b,g,vt,ve,M,rfl,rfl,hm,hs⟩:=h
  obtain ⟨A1,k1,hv1⟩:=hm.fin.shape
  subst hv1
  have hb0:=(Below.refl w.heap.size w).alloc (Nat.le_refl _) (.cells #[.int .i64 0, .int .i64 0, .int .i64 0, .int .i64 0, .string (ByteArray.mk #[]), .int .i64 0, .int .i64 0, .bool false, .bool false] 135)
  cases hf:s.fin with
  | nil =>
    have HM0:=Lib.hid (hm.later hb0)
    obtain ⟨c0,c1,c2⟩:=HM0.out.cells
    have HE:Hid (s.tk = (0,pk0,false,6)):=Lib.hid (by unfold Bx.tk; rw [hf])
    have HE2:Hid (s.take.1 = s):=Lib.hid (by unfold Bx.take; rw [hf])
    have HS:Hid (Stp (BmD TB od X Y) (.pointer (some ⟨b,od,none⟩)) (bmO b g vt (.slice A1 s.fin.length k1)) w s (w.alloc (.cells #[.int .i64 0, .int .i64 0, .int .i64 0, .int .i64 0, .string (ByteArray.mk #[]), .int .i64 0, .int .i64 0, .bool false, .bool false] 135))):=Lib.hid ⟨_,⟨b,g,vt,_,M,rfl,rfl,hm.later hb0,hs⟩, .of_below hb0,Grows.refl _ _⟩
    rw [HE.out,HE2.out]
    rw [hf,List.length_nil] at c2 HS
    clear hm hs ok hf hb0 HM0 c0 c1
    go_enter Tryz.func120,Tryz.ntmps120
    go_wp2
    refine bodyPost_ret (v := .tuple #[dnV 0 pk0 false, .int .i64 6]) ?_ rfl ⟨rfl,HS.out⟩
    simp [results,Tryz.results120,go_sem,pk0]
  | cons x r =>
    obtain ⟨h1,h2,h3⟩:=ok.fin x (by rw [hf]; simp)
    obtain ⟨n,rfl⟩:=Int.eq_ofNat_of_zero_le h1
    have hn:n < s.S.length:=by omega
    have hmy:=hs.at_ hn
    have HS:Hid (BmS (M.set n (0,pk0)) s.take.1):=Lib.hid (by
      refine ⟨?_, ?_,hs.full.take ok⟩
      · unfold Bx.take; rw [hf,List.map_set,hs.hS]; simp
      · unfold Bx.take; rw [hf,List.map_set,hs.hP]; simp)
    have HE:Hid (s.tk = ((n:Int),s.P.getD n pk0,s.S.getD n 0 == 2,0) ∧ s.take.1.trn = s.trn ∧ s.take.1.fin = r):=Lib.hid ⟨by
      unfold Bx.tk Bx.take; rw [hf]; simp,Bx.trn_take ok hf,by unfold Bx.take; rw [hf]⟩
    generalize s.S.getD n 0 = st at hmy HE
    generalize s.P.getD n pk0 = pp at hmy HE
    rw [HE.out.1]
    have hMl:M.length ≤ 1000:=by rw [hs.len]; exact ok.n2
    have hnl:n < M.length:=by rw [hs.len]; omega
    have hfl:s.fin.length ≤ 1000:=ok.finLe
    obtain ⟨w0,e0⟩:∃ w0,w.alloc (.cells #[.int .i64 0, .int .i64 0, .int .i64 0, .int .i64 0, .string (ByteArray.mk #[]), .int .i64 0, .int .i64 0, .bool false, .bool false] 135) = w0:=⟨_,rfl⟩
    have HB0:Hid (Below w.heap.size w w0):=Lib.hid (by rw [← e0]; exact hb0)
    have hm0:=hm.later HB0.out
    have HM0:=Lib.hid hm0
    have HD0:Hid (DnB w0 w.heap.size 0 pk0 false):=Lib.hid (by rw [← e0]; exact DnB.made w)
    obtain ⟨xa,ca,hv1,hxb,hcell⟩:=SlG.at_ (hm0.fin.sl inC_len (by unfold maxLen; omega)) (i:=0) (by rw [hf]; simp)
    have a0:w0.cell? (xa.add (0 * 1)) = some (.int .i64 n):=hcell 0 _ (by simp [hf,inC])
    rw [Nat.mul_one,show xa.add 0 = xa by unfold Addr.add; simp] at a0
    injection hv1 with hA _ hcap
    subst hA hcap
    have l0:0 < s.fin.length:=by rw [hf]; simp
    have l1:(0:Int) < (s.fin.length:Int):=by omega
    have l2:(n:Int) < (M.length:Int):=by omega
    have l3:((s.fin.length:Int) == 0) = false:=beq_eq_false_iff_ne.2 (by omega)
    have l4:(s.fin.length:Int) ≤ 1000:=by omega
    have l5:(M.length:Int) ≤ 1000:=by omega
    obtain ⟨c0,c1,c2⟩:=hm0.cells
    have z0:b < w0.heap.size:=hm0.lt b (.inl rfl)
    have HOW:Hid (∀ k,bmO b g vt (.slice (some xa) s.fin.length k1) k → k < w.heap.size):=Lib.hid hm.lt
    have n1:=hm0.f2.1
    have HQ0:Hid (RowQ inC 1 w0 (.slice (some xa) s.fin.length k1) ((n:Int) :: r)):=Lib.hid (by rw [← hf]; exact hm0.fin)
    have b2l:=hm0.live (od + 2)
    have HMY:=Lib.hid hmy
    clear hm hs hm0 hf hb0 hcell h1 h2 h3 hmy hn ok
    go_enter Tryz.func120,Tryz.ntmps120
    go_wp2_with fail
    refine (sl_delete0_v HQ0.out).mono ?_
    rintro e w1 ⟨v',rfl,hq,hk,hg⟩
    obtain ⟨A2,k2,hv2⟩:=hq.shape
    subst hv2
    have b2:=(hk.cell (p:=⟨b,od + 2,none⟩) z0 n1).trans c2
    have b2f:=(hk.frozen (p:=⟨b,od + 2,none⟩) z0 n1).trans b2l
    obtain ⟨w2,e2⟩:∃ w2,w1.setCell ⟨b,od + 2,none⟩ (.slice A2 r.length k2) = w2:=⟨_,rfl⟩
    obtain ⟨r1,r2,r3⟩:=HM0.out.setFin hq hk hg
    rw [e2] at r1 r2
    have HM2:=Lib.hid r1
    have HK2:=Lib.hid ((Kept.of_below (O:=bmO b g vt (.slice (some xa) s.fin.length k1)) HB0.out).trans r2 (Grows.refl _ _))
    have HG2:Hid (Grows (bmO b g vt (.slice (some xa) s.fin.length k1)) w (bmO b g vt (.slice A2 r.length k2))):=Lib.hid (fun k hk => (r3 k hk).imp id (fun h => Nat.le_trans HB0.out.size h))
    have HG3:=Lib.hid r3
    have HD2:Hid (DnB w2 w.heap.size 0 pk0 false):=Lib.hid (HD0.out.kept r2 (fun h => by have:=HOW.out _ h; omega))
    clear hq hk hg r1 r2 r3 c0 c1 c2 a0
    go_upto_region 7 with fail
    clear e2 b2 b2f b2l n1
    obtain ⟨c0,c1,c2⟩:=HM2.out.cells
    obtain ⟨m0,m1,m2,m3,m4,m5,m6,m7⟩:=HM2.out.mail HMY.out
    have z2:w.heap.size < w2.heap.size:=HD2.out.lt
    have HB3:=Lib.hid ((Below.refl w2.heap.size w2).alloc (Nat.le_refl _) (.cells #[.int .i64 st, .int .i64 pp.f.i, .int .i64 pp.f.n, .int .i64 pp.f.l, .string pp.f.d, .int .i64 pp.fr, .int .i64 pp.tag, .bool pp.lp] 170))
    have hx3:=heap_alloc_new w2 (.cells #[.int .i64 st, .int .i64 pp.f.i, .int .i64 pp.f.n, .int .i64 pp.f.l, .string pp.f.d, .int .i64 pp.fr, .int .i64 pp.tag, .bool pp.lp] 170)
    obtain ⟨w3,e3⟩:∃ w3,w2.alloc (.cells #[.int .i64 st, .int .i64 pp.f.i, .int .i64 pp.f.n, .int .i64 pp.f.l, .string pp.f.d, .int .i64 pp.fr, .int .i64 pp.tag, .bool pp.lp] 170) = w3:=⟨_,rfl⟩
    rw [e3] at HB3 hx3
    go_upto_region 8 with fail
    clear e3 m0 m1 m2 m3 m4 m5 m6 m7 c0 c1 c2
    have HM3:=Lib.hid (HM2.out.later HB3.out)
    have HD3:=Lib.hid (HD2.out.later HB3.out)
    obtain ⟨c0,c1,c2⟩:=HM3.out.cells
    obtain ⟨m0,m1,m2,m3,m4,m5,m6,m7⟩:=HM3.out.mail HMY.out
    have ml:=HM3.out.liveR
    have HW:=Lib.hid (HM3.out.setMail (i:=n) hnl 0 pk0)
    obtain ⟨wp,ep⟩:∃ wp,putM w3 g n 0 pk0 = wp:=⟨_,rfl⟩
    rw [ep] at HW
    have hfold:(((((((w3.setCell ⟨g,n * 8,none⟩ (.int .i64 0)).setCell ⟨g,n * 8 + 1,none⟩ (.int .i64 0)).setCell ⟨g,n * 8 + 2,none⟩ (.int .i64 0)).setCell ⟨g,n * 8 + 3,none⟩ (.int .i64 0)).setCell ⟨g,n * 8 + 4,none⟩ (.string (ByteArray.mk #[]))).setCell ⟨g,n * 8 + 5,none⟩ (.int .i64 0)).setCell ⟨g,n * 8 + 6,none⟩ (.int .i64 0)).setCell ⟨g,n * 8 + 7,none⟩ (.bool false) = wp:=ep
    have HX:Hid (wp.heap[w2.heap.size]? = some (.cells #[.int .i64 st, .int .i64 pp.f.i, .int .i64 pp.f.n, .int .i64 pp.f.l, .string pp.f.d, .int .i64 pp.fr, .int .i64 pp.tag, .bool pp.lp] 170 (0,0))):=Lib.hid (by
      rw [← ep,putM_other (fun e => by have:=HM2.out.lt g (.inr (.inl rfl)); omega)]; exact hx3)
    have HD4:Hid (DnB wp w.heap.size 0 pk0 false):=Lib.hid ((by
      unfold DnB
      rw [← ep,putM_other (fun e => by have:=HOW.out g (.inr (.inl rfl)); omega)]; exact HD3.out))
    clear ep hx3
    go_upto_region 9 with fail
    clear hfold ml m0 m1 m2 m3 m4 m5 m6 m7 c0 c1 c2
    have x0:=Lib.cell_of_heap HX.out 0
    have x1:=Lib.cell_of_heap HX.out 1
    have x2:=Lib.cell_of_heap HX.out 2
    have x3:=Lib.cell_of_heap HX.out 3
    have x4:=Lib.cell_of_heap HX.out 4
    have x5:=Lib.cell_of_heap HX.out 5
    have x6:=Lib.cell_of_heap HX.out 6
    have x7:=Lib.cell_of_heap HX.out 7
    simp only [List.getElem?_toArray,List.getElem?_cons_zero,List.getElem?_cons_succ] at x0 x1 x2 x3 x4 x5 x6 x7
    obtain ⟨d0,d1,d2,d3,d4,d5,d6,d7,d8⟩:=HD4.out.cells
    have dl:∀ j,wp.frozen? ⟨w.heap.size,j,none⟩ = false:=fun j => Lib.frozen_of_heap HD4.out j
    obtain ⟨wd,ed⟩:∃ wd,putD wp w.heap.size n pp (st == 2) = wd:=⟨_,rfl⟩
    have hfold:((((((((wp.setCell ⟨w.heap.size,0,none⟩ (.int .i64 n)).setCell ⟨w.heap.size,1,none⟩ (.int .i64 pp.f.i)).setCell ⟨w.heap.size,2,none⟩ (.int .i64 pp.f.n)).setCell ⟨w.heap.size,3,none⟩ (.int .i64 pp.f.l)).setCell ⟨w.heap.size,4,none⟩ (.string pp.f.d)).setCell ⟨w.heap.size,5,none⟩ (.int .i64 pp.fr)).setCell ⟨w.heap.size,6,none⟩ (.int .i64 pp.tag)).setCell ⟨w.heap.size,7,none⟩ (.bool pp.lp)).setCell ⟨w.heap.size,8,none⟩ (.bool (st == 2)) = wd:=ed
    have HDD:Hid (DnB wd w.heap.size n pp (st == 2)):=Lib.hid (by rw [← ed]; exact HD4.out.put n pp (st == 2))
    have HKD:Hid (Kept (fun k => k = w.heap.size) wp wd):=Lib.hid (by rw [← ed]; exact putD_kept _ _ _ _ _)
    clear ed
    generalize hq2:(st == 2) = q2 at *
    have HFIN:Hid (Stp (BmD TB od X Y) (.pointer (some ⟨b,od,none⟩)) (bmO b g vt (.slice (some xa) s.fin.length k1)) w s.take.1 wd):=Lib.hid (by
      have hno:¬ bmO b g vt (.slice A2 r.length k2) w.heap.size:=fun h => by
        have h1:=HG3.out _ h
        rcases h1 with h1 | h1
        · have:=HOW.out _ h1; omega
        · have:=HD0.out.lt; omega
      refine ⟨_,⟨b,g,vt,_,M.set n (0,pk0),rfl,rfl, ?_,HS.out⟩, ?_,HG2.out⟩
      · rw [HE.out.2.1,HE.out.2.2]
        exact HW.out.1.stay (fun k hk => HKD.out.block k (HW.out.1.lt k hk) (fun e => hno (e ▸ hk)))
      · refine (((HK2.out.trans (.of_below (O:=bmO b g vt (.slice (some xa) s.fin.length k1)) HB3.out) (Grows.refl _ _)).trans HW.out.2 HG2.out)).trans HKD.out (fun k hk => .inr (by omega)))
    go_wp2
    obtain ⟨g0,g1,g2,g3,g4,g5,g6,g7,g8⟩:=HDD.out.cells
    refine bodyPost_ret (v := .tuple #[dnV n pp q2, .int .i64 0]) ?_ rfl ⟨by rw [← hq2],HFIN.out⟩
    simp [results,Tryz.results120,go_sem,g0,g1,g2,g3,g4,g5,g6,g7,g8]
end Go.Proofs.YtimdkcchjanpaaaGreatDoor
namespace Go.Proofs.YtimdkcchjanpaaaGreatDoor
open Go.RowKit
set_option linter.unusedVariables false
def setB (a bit:Int):Int:=if a / bit % 2 = 0 then a + bit else a
theorem div_rng {a b:Int} (ha:0 ≤ a ∧ a < 16) (hb:1 ≤ b):0 ≤ a / b ∧ a / b < 16 ∧ a.tdiv b = a / b ∧ (a / b).tmod 2 = a / b % 2:=by
  have h0:0 ≤ a / b:=Int.ediv_nonneg ha.1 (by omega)
  exact ⟨h0,Int.lt_of_le_of_lt (Int.ediv_le_self b ha.1) ha.2,Int.tdiv_eq_ediv_of_nonneg ha.1,Int.tmod_eq_emod_of_nonneg h0⟩
theorem xset_v {v:Value} {s:Ct} {O:Nat → Prop} {bit:Int} (w:World) (h:CtD w v s O) (ha:0 ≤ s.asks ∧ s.asks < 16) (hb:1 ≤ bit ∧ bit ≤ 8) :
    Calls Tryz.prog 92 #[v, .int .i64 bit] w fun e w' => e = .returned (.tuple #[]) ∧ Stp CtD v O w { s with asks:=setB s.asks bit } w':=by
  obtain ⟨b,bv,Ob,vf,rfl,rfl,hm⟩:=h
  obtain ⟨c0,c1,c2,c3,c4,c5⟩:=hm.cells
  have f5:=hm.live 5
  obtain ⟨q0,q1,q2,q3⟩:=div_rng ha hb.1
  have hne:(bit == 0) = false:=by simp; omega
  have HS1:Hid (Stp CtD (.pointer (some ⟨b,0,none⟩)) (ctO b Ob vf) w { s with asks:=s.asks + bit } (w.setCell ⟨b,5,none⟩ (.int .i64 (s.asks + bit)))):=Lib.hid (hm.stpNum (s' := { s with asks:=s.asks + bit }) 5 _ rfl rfl rfl)
  have HS2:Hid (Stp CtD (.pointer (some ⟨b,0,none⟩)) (ctO b Ob vf) w s w):=Lib.hid (hm.stp (Below.refl _ _))
  clear hm
  by_cases h0:s.asks / bit % 2 = 0
  · have e0:setB s.asks bit = s.asks + bit:=by unfold setB; rw [if_pos h0]
    rw [e0]
    have hd:(s.asks / bit % 2 == 0) = true:=by simp [h0]
    clear e0 h0
    go_enter Tryz.func92,Tryz.ntmps92
    go_wp2
    go_end0
    exact ⟨rfl,HS1.out⟩
  · have e0:setB s.asks bit = s.asks:=by unfold setB; rw [if_neg h0]
    rw [e0]
    have hd:(s.asks / bit % 2 == 0) = false:=by simp [h0]
    clear e0 h0
    go_enter Tryz.func92,Tryz.ntmps92
    go_wp2
    go_end0
    exact ⟨rfl,HS2.out⟩
def clrS (a n b:Int):Int:=if bits .and .i64 n b ≠ 0 ∧ a / b % 2 = 1 then a - b else a
def pwB:Nat → Int
  | 0 => 1
  | 1 => 2
  | 2 => 4
  | 3 => 8
  | _ => 16
def clrK (a n:Int):Nat → Int
  | 0 => a
  | k + 1 => clrS (clrK a n k) n (pwB k)
theorem pwB_lt {k:Nat} (h:k < 4):1 ≤ pwB k ∧ pwB k ≤ 8 ∧ 2 * pwB k = pwB (k + 1):=by
  rcases (by omega:k = 0 ∨ k = 1 ∨ k = 2 ∨ k = 3) with rfl | rfl | rfl | rfl <;> decide
theorem clrS_rng {a n b:Int} (ha:0 ≤ a ∧ a < 16) (hb:1 ≤ b):0 ≤ clrS a n b ∧ clrS a n b < 16:=by
  unfold clrS
  split
  · rename_i h
    have h1:a / b ≠ 0:=fun e => by rw [e] at h; simp at h
    have h2:b ≤ a:=by
      rcases Int.lt_or_le a b with h3 | h3
      · exact absurd (Int.ediv_eq_zero_of_lt ha.1 h3) h1
      · exact h3
    omega
  · exact ha
theorem clrK_rng {a n:Int} (ha:0 ≤ a ∧ a < 16):∀ k,k ≤ 4 → 0 ≤ clrK a n k ∧ clrK a n k < 16
  | 0,_ => ha
  | k + 1,h => clrS_rng (clrK_rng ha k (by omega)) (pwB_lt (by omega)).1
theorem xclear_v {v:Value} {s:Ct} {O:Nat → Prop} {n:Int} (w:World) (h:CtD w v s O) (ha:0 ≤ s.asks ∧ s.asks < 16) :
    Calls Tryz.prog 88 #[v, .int .i64 n] w fun e w' => e = .returned (.tuple #[]) ∧ Stp CtD v O w { s with asks:=clrK s.asks n 4 } w':=by
  obtain ⟨b,bv,Ob,vf,rfl,rfl,hm⟩:=h
  have HM:=Lib.hid hm
  have HA:=Lib.hid ha
  clear hm ha
  go_enter Tryz.func88,Tryz.ntmps88
  go_wp2
  go_loopw [4] (fun i wr => ∃ k:Nat,k ≤ 4 ∧ i = .int .i64 (pwB k) ∧ Hid (CtM wr b bv Ob vf { s with asks:=clrK s.asks n k } ∧ Kept (ctO b Ob vf) w wr)) (fun i _ => 16 - (intOf i).toNat)
  case atStart => exact ⟨0,by omega,rfl,Lib.hid ⟨HM.out,Kept.refl _ _⟩⟩
  case round =>
    obtain ⟨k,hk,rfl,HI⟩:=hrel
    by_cases hlt:k < 4
    · obtain ⟨p1,p2,p3⟩:=pwB_lt hlt
      have HR:=Lib.hid (clrK_rng (n:=n) HA.out k hk)
      have HSU:Hid (clrK s.asks n (k + 1) = clrS (clrK s.asks n k) n (pwB k)):=Lib.hid rfl
      have HKP:Hid (∀ i,i = pwB k → 2 * i = pwB (k + 1)):=Lib.hid (fun i h => by rw [h]; exact p3)
      have hm:=HI.out.1
      have hkp:=HI.out.2
      generalize clrK s.asks n k = a at hm HR HSU
      have hbe:∃ bt,pwB k = bt:=⟨_,rfl⟩
      obtain ⟨bt,hbt⟩:=hbe
      rw [hbt] at p1 p2 p3 HSU ⊢
      have HP3:=Lib.hid p3
      obtain ⟨q0,q1,q2,q3⟩:=div_rng HR.out p1
      obtain ⟨c0,c1,c2,c3,c4,c5⟩:=hm.cells
      have f5:=hm.live 5
      have hne:(bt == 0) = false:=by simp; omega
      have hd8:decide (bt ≤ 8) = true:=decide_eq_true p2
      obtain ⟨r0,r1⟩:=HR.out
      obtain ⟨y,hy⟩:∃ y,bits .and .i64 n bt = y:=⟨_,rfl⟩
      have HST:Hid (CtM (wr.setCell ⟨b,5,none⟩ (.int .i64 (a - bt))) b bv Ob vf { s with asks:=a - bt } ∧ Kept (ctO b Ob vf) w (wr.setCell ⟨b,5,none⟩ (.int .i64 (a - bt)))):=Lib.hid
        ⟨hm.setNum (s' := { s with asks:=a - bt }) 5 _ rfl rfl rfl,hkp.trans setNum_kept (Grows.refl _ _)⟩
      have HSK:Hid (CtM wr b bv Ob vf { s with asks:=a } ∧ Kept (ctO b Ob vf) w wr):=Lib.hid ⟨hm,hkp⟩
      clear hm hkp HI p3 hbt
      by_cases hy0:y = 0
      · have e1:clrK s.asks n (k + 1) = a:=by rw [HSU.out]; unfold clrS; rw [hy,if_neg (fun h => h.1 hy0)]
        have HE1:=Lib.hid e1
        have hyb:(y != 0) = false:=by simp [hy0]
        clear e1 hy0
        go_wp2_with fail
        go_roundw
        case rel => exact ⟨k + 1,by omega,by rw [← HP3.out],by rw [HE1.out]; exact HSK⟩
        case measure => simp [intOf]; omega
      · have hyb:(y != 0) = true:=by simp [hy0]
        by_cases hr:a / bt % 2 = 1
        · have e1:clrK s.asks n (k + 1) = a - bt:=by rw [HSU.out]; unfold clrS; rw [hy,if_pos ⟨hy0,hr⟩]
          have HE1:=Lib.hid e1
          have hrb:(a / bt % 2 == 1) = true:=by simp [hr]
          clear e1 hy0 hr
          go_wp2_with fail
          go_roundw
          case rel => exact ⟨k + 1,by omega,by rw [← HP3.out],by rw [HE1.out]; exact HST⟩
          case measure => simp [intOf]; omega
        · have e1:clrK s.asks n (k + 1) = a:=by rw [HSU.out]; unfold clrS; rw [if_neg (fun h => hr h.2)]
          have HE1:=Lib.hid e1
          have hrb:(a / bt % 2 == 1) = false:=by simp [hr]
          clear e1 hy0 hr
          go_wp2_with fail
          go_roundw
          case rel => exact ⟨k + 1,by omega,by rw [← HP3.out],by rw [HE1.out]; exact HSK⟩
          case measure => simp [intOf]; omega
    · obtain rfl:k = 4:=by omega
      have e16:pwB 4 = 16:=rfl
      rw [e16]
      go_wp2
      go_end0
      exact ⟨rfl,_,⟨b,bv,Ob,vf,rfl,rfl,HI.out.1⟩,HI.out.2,Grows.refl _ _⟩
end Go.Proofs.YtimdkcchjanpaaaGreatDoor
namespace Go.Proofs.YtimdkcchjanpaaaGreatDoor
open Go.RowKit
set_option linter.unusedVariables false
structure Cg where
  bo:Int
  fi:Int
  ba:Int
  de:Int
  qu:Int
  no:Int
  re:Int
  A:Option Addr
  n:Nat
  cp:Nat
abbrev Cg.va (c:Cg):Value := .slice c.A c.n c.cp
abbrev cgV (c:Cg):Value := .agg #[.int .i64 c.bo, .int .i64 c.fi, .int .i64 c.ba, .int .i64 c.de, .int .i64 c.qu, .int .i64 c.no, .int .i64 c.re, .slice c.A c.n c.cp]
abbrev cgO (c:Cg):Obj := .cells #[.int .i64 c.bo, .int .i64 c.fi, .int .i64 c.ba, .int .i64 c.de, .int .i64 c.qu, .int .i64 c.no, .int .i64 c.re, .slice c.A c.n c.cp] 24
def ctNew (c:Cg) (L:List Flt):Ct:=⟨bxNew (boxesN c.bo), [],roomN c.fi,c.va,L,0,0⟩
theorem cg_cells (w:World) (c:Cg):(w.alloc (cgO c)).cell? ⟨w.heap.size,0,none⟩ = some (.int .i64 c.bo) ∧ (w.alloc (cgO c)).cell? ⟨w.heap.size,1,none⟩ = some (.int .i64 c.fi) ∧ (w.alloc (cgO c)).cell? ⟨w.heap.size,7,none⟩ = some (.slice c.A c.n c.cp):=by
  refine ⟨?_, ?_, ?_⟩ <;> (rw [World.cell?_alloc_at _ _ _ _ rfl]; rfl)
theorem ctNew_done {w w0 w1:World} {b5:Nat} {O5:Nat → Prop} {c:Cg} {L:List Flt} (hb0:Below w.heap.size w w0) (hb1:Below w0.heap.size w0 w1) (h5:BxD w1 (.pointer (some ⟨b5,0,none⟩)) (bxNew (boxesN c.bo)) O5) (ho:∀ k,O5 k → w.heap.size ≤ k) :
    ∃ O,CtD (w1.alloc (.cells #[.pointer (some ⟨b5,0,none⟩), .slice none 0 0, .int .i64 (roomN c.fi), .slice c.A c.n c.cp, .int .i64 0, .int .i64 0] 143)) (.pointer (some ⟨w1.heap.size,0,none⟩)) (ctNew c L) O ∧
      Below w.heap.size w (w1.alloc (.cells #[.pointer (some ⟨b5,0,none⟩), .slice none 0 0, .int .i64 (roomN c.fi), .slice c.A c.n c.cp, .int .i64 0, .int .i64 0] 143)) ∧ ∀ k,O k → w.heap.size ≤ k:=by
  have hb2:=(Below.refl w1.heap.size w1).alloc (Nat.le_refl _) (.cells #[.pointer (some ⟨b5,0,none⟩), .slice none 0 0, .int .i64 (roomN c.fi), .slice c.A c.n c.cp, .int .i64 0, .int .i64 0] 143)
  have hl:=isObj_box.lt h5
  refine ⟨_,⟨w1.heap.size,_,O5, .slice none 0 0,rfl,rfl,⟨by unfold World.alloc; simp; exact ⟨rfl,rfl,rfl,rfl⟩,isObj_box.stay h5 (fun k hk => hb2.block k (hl k hk)),RowQ.nil _,fun h => by have:=hl _ h; omega,nofun,fun k _ h => nomatch h⟩⟩,fbelow_t (fbelow_t hb0 hb1) hb2, ?_⟩
  have s1:=hb0.size
  have s2:=hb1.size
  rintro k (rfl | h | h)
  · omega
  · exact ho k h
  · cases h
theorem xcnew_v (c:Cg) (L:List Flt) (w:World):Calls Tryz.prog 53 #[cgV c] w fun e w' => ∃ v O,e = .returned v ∧ CtD w' v (ctNew c L) O ∧ Below w.heap.size w w' ∧ ∀ k,O k → w.heap.size ≤ k:=by
  obtain ⟨w0,e0⟩:∃ w0,w.alloc (cgO c) = w0:=⟨_,rfl⟩
  have hb0:Below w.heap.size w w0:=by rw [← e0]; exact (Below.refl _ _).alloc (Nat.le_refl _) _
  have HB0:=Lib.hid hb0
  have hz0:w.heap.size < w0.heap.size:=by rw [← e0]; simp
  obtain ⟨d0,d1,d7⟩:=cg_cells w c
  rw [e0] at d0 d1 d7
  have HR:Hid (roomN c.fi = roomN c.fi):=Lib.hid rfl
  clear hb0
  go_enter Tryz.func53,Tryz.ntmps53
  go_upto_region 1 with fail
  have hcl:∀ (n:Later w0) (b o:Nat),b < w0.heap.size → n.w.cell? ⟨b,o,none⟩ = w0.cell? ⟨b,o,none⟩:=later_cells w0
  refine wp_region_sec 8 [5] (fun _ u w' => ∃ O,BxD w' u (bxNew (boxesN c.bo)) O ∧ ∀ k,O k → w.heap.size ≤ k) (fun _ _ _ _ ⟨O,h,ho⟩ hb => ⟨O,isObj_box.stay h (fun k hk => hb.block k (isObj_box.lt h k hk)),ho⟩) (by kernel_rfl) (by kernel_rfl) (by kernel_rfl) (by kernel_rfl) (by kernel_rfl) ?_
  simp only [List.take_succ_cons,List.take_zero,List.drop_succ_cons,List.drop_zero]
  repeat ((first | refine sec_plain (by rfl) (by rfl) (by rfl) (by rfl) ?_ | refine sec_nil (by rfl) (by rfl) (by rfl) (by rfl) (by rfl) ?_); intro K hK; go_big_quiet_op; go_big_quiet_on)
  refine sec_callF (f:=96) (args := #[.int .i64 c.bo]) (by rfl) (by rfl) (by rfl) (by rfl) (by rfl) (fun w => by simp [go_sem]) ?_ ?_
  · intro q
    refine (xnew_v q.w).mono ?_
    rintro e w' ⟨v,O,he,h1,h2,h3⟩
    exact ⟨v,he,h2,O,h1,fun k hk => Nat.le_trans HB0.out.size (Nat.le_trans q.h.size (h3 k hk))⟩
  simp only [Act.put,List.setIfInBounds_toArray,List.set_cons_succ,List.set_cons_zero]
  repeat ((first | refine sec_plain (by rfl) (by rfl) (by rfl) (by rfl) ?_ | refine sec_nil (by rfl) (by rfl) (by rfl) (by rfl) (by rfl) ?_); intro K hK; go_big_quiet_op; go_big_quiet_on)
  refine sec_call (v := .int .i64 (roomN c.fi)) (by rfl) (by rfl) (by rfl) (by rfl) (by rfl) ?_ ?_
  · intro q K hK
    go_big_quiet_op
    exact ⟨_,fun q2 => Later.call ((xroom_v rfl q2.w).mono fun e w' h => ⟨h.1,h.2 ▸ Below.refl _ _⟩),hK⟩
  simp only [Act.put,List.setIfInBounds_toArray,List.set_cons_succ,List.set_cons_zero]
  repeat ((first | refine sec_plain (by rfl) (by rfl) (by rfl) (by rfl) ?_ | refine sec_nil (by rfl) (by rfl) (by rfl) (by rfl) (by rfl) ?_); intro K hK; go_big_quiet_op; go_big_quiet_on)
  intro xs m9 hF
  obtain ⟨O5,h5,ho5⟩:=hF 5 (by simp)
  simp only [secFill,Act.put,List.setIfInBounds_toArray,List.set_cons_succ,List.set_cons_zero]
  generalize xs 5 = v5 at h5
  have h5':=h5
  obtain ⟨b5,gs,gp,vo,ve,rfl,_,_⟩:=h5'
  clear hF xs hcl d0 d1 d7
  have HB9:=Lib.hid m9.h
  generalize m9.w = w9 at HB9 h5 ⊢
  obtain ⟨O9,x1,x2,x3⟩:=ctNew_done (L:=L) HB0.out HB9.out h5 ho5
  have X1:=Lib.hid x1
  have X2:=Lib.hid x2
  have X3:=Lib.hid x3
  clear x1 x2 x3 h5 ho5
  go_wp2_with fail
  go_ret
  exact ⟨_,rfl,_,X1.out,X2.out,X3.out⟩
structure Ct.Ok (s:Ct):Prop where
  bx:s.bx.Ok
  ak:0 ≤ s.asks ∧ s.asks < 16
  room:1 ≤ s.room ∧ s.room ≤ 1000
  fifo:s.fifo.length ≤ s.room
  ls:0 ≤ s.lost
def Ct.off (s:Ct):Fr × Bool:=if s.bx.best s.bx.ord.length < 0 then (frz,false) else ((s.bx.P.getD (s.bx.best s.bx.ord.length).toNat pk0).f,true)
def Ct.won (s:Ct):Ct:=if s.bx.best s.bx.ord.length < 0 then s else { s with bx:=(s.bx.end_ (s.bx.best s.bx.ord.length) 2).1,asks:=setB s.asks 1 }
theorem xoffer_v {v:Value} {s:Ct} {O:Nat → Prop} (w:World) (h:CtD w v s O) (hok:s.Ok) :
    Calls Tryz.prog 52 #[v] w fun e w' => e = .returned (.tuple #[.agg #[.int .i64 s.off.1.i, .int .i64 s.off.1.n, .int .i64 s.off.1.l, .string s.off.1.d], .bool s.off.2]) ∧ Below w.heap.size w w':=by
  obtain ⟨b,bv,Ob,vf,rfl,rfl,hm⟩:=h
  obtain ⟨w0,e0⟩:∃ w0,w.alloc (.cells #[.int .i64 0, .int .i64 0, .int .i64 0, .string (ByteArray.mk #[])] 35) = w0:=⟨_,rfl⟩
  have hb0:Below w.heap.size w w0:=by rw [← e0]; exact (Below.refl _ _).alloc (Nat.le_refl _) _
  have HB0:=Lib.hid hb0
  have hF0:BoxF w0 w.heap.size 0 0 0 (ByteArray.mk #[]):=by rw [← e0]; exact BoxF.made _ _ _ _ _
  have HF0:=Lib.hid hF0
  have HM:=Lib.hid (hm.later hb0)
  have HOK:=Lib.hid hok
  obtain ⟨c0,c1,c2,c3,c4,c5⟩:=HM.out.cells
  have hbx:=HM.out.bx
  obtain ⟨b5,gs,gp,vo,ve,rfl,rfl,hbm⟩:=hbx
  have HBM:=Lib.hid hbm
  have HRG:=Lib.hid (Bx.best_rng hok.bx.ordOk s.bx.ord.length (Nat.le_refl _))
  have HS:Hid (s.off = if s.bx.best s.bx.ord.length < 0 then (frz,false) else ((s.bx.P.getD (s.bx.best s.bx.ord.length).toNat pk0).f,true)):=Lib.hid rfl
  obtain ⟨r,hr⟩:∃ r,s.off = r:=⟨_,rfl⟩
  rw [hr] at HS ⊢
  clear hm hb0 hok hbm hF0 hr
  go_enter Tryz.func52,Tryz.ntmps52
  go_wp2_with fail
  refine (xbest_v w0 ⟨b5,gs,gp,vo,ve,rfl,rfl,HBM.out⟩ HOK.out.bx.ordOk HOK.out.bx.n2 (by have:=HOK.out.bx.ordLe; omega)).mono ?_
  rintro e w1 ⟨rfl,hb1⟩
  have HB1:=Lib.hid hb1
  have HBM1:=Lib.hid (HBM.out.later hb1)
  have HM1:=Lib.hid (HM.out.later hb1)
  have HF1:=Lib.hid (HF0.out.later hb1)
  clear hb1 c0 c1 c2 c3 c4 c5
  obtain ⟨g0,g1,g2,g3⟩:=HF1.out.cells
  have fl:∀ j,w1.frozen? ⟨w.heap.size,j,none⟩ = false:=fun j => Lib.frozen_of_heap HF1.out j
  have HBW:Hid (Below w.heap.size w w1):=Lib.hid (fbelow_t HB0.out HB1.out)
  generalize s.bx.best s.bx.ord.length = k at HS HRG ⊢
  by_cases hk:k < 0
  · have hd:decide (k < 0) = true:=decide_eq_true hk
    have hS:=HS.out
    rw [if_pos hk] at hS
    subst hS
    clear hk
    go_wp2
    generalize hw2:(World.setCell _ ⟨w.heap.size,3,none⟩ _) = w2
    have HF2:BoxF w2 w.heap.size 0 0 0 (ByteArray.mk #[]):=by rw [← hw2]; exact boxF_set HF1.out
    have HB2:Below w.heap.size w w2:=by rw [← hw2]; exact boxF_below HBW.out (Nat.le_refl _)
    clear hw2 g0 g1 g2 g3
    obtain ⟨d0,d1,d2,d3⟩:=HF2.cells
    refine bodyPost_ret (v := .tuple #[.agg #[.int .i64 0, .int .i64 0, .int .i64 0, .string (ByteArray.mk #[])], .bool false]) ?_ rfl ⟨rfl,HB2⟩
    simp [results,Tryz.results52,go_sem,d0,d1,d2,d3]
  · have hd:decide (k < 0) = false:=decide_eq_false hk
    obtain ⟨n,rfl⟩:=Int.eq_ofNat_of_zero_le (Int.not_lt.1 hk)
    have hn:n < s.bx.S.length:=by have:=HRG.out.2; omega
    have hnP:n < s.bx.P.length:=by rw [HBM1.out.len]; exact hn
    obtain ⟨pp,hpp⟩:∃ pp,s.bx.P[n]? = some pp:=⟨_,List.getElem?_eq_getElem hnP⟩
    have hS:=HS.out
    rw [if_neg hk,Int.toNat_natCast,List.getD_eq_getElem?_getD,hpp] at hS
    subst hS
    obtain ⟨c0,c1,c2,c3,c4,c5⟩:=HM1.out.cells
    obtain ⟨a0,a1,a2,a3⟩:=HBM1.out.cells
    have m0:=HBM1.out.packet hpp 0 _ rfl
    rw [Nat.add_zero] at m0
    have m1:=HBM1.out.packet hpp 1 _ rfl
    have m2:=HBM1.out.packet hpp 2 _ rfl
    have m3:=HBM1.out.packet hpp 3 _ rfl
    have hnl:(n:Int) < (s.bx.S.length:Int):=by omega
    clear hk hpp
    go_wp2
    generalize hw2:(World.setCell _ ⟨w.heap.size,3,none⟩ _) = w2
    have HF2:BoxF w2 w.heap.size pp.f.i pp.f.n pp.f.l pp.f.d:=by rw [← hw2]; exact boxF_set HF1.out
    have HB2:Below w.heap.size w w2:=by rw [← hw2]; exact boxF_below HBW.out (Nat.le_refl _)
    clear hw2 g0 g1 g2 g3
    obtain ⟨d0,d1,d2,d3⟩:=HF2.cells
    refine bodyPost_ret (v := .tuple #[.agg #[.int .i64 pp.f.i, .int .i64 pp.f.n, .int .i64 pp.f.l, .string pp.f.d], .bool true]) ?_ rfl ⟨rfl,HB2⟩
    simp [results,Tryz.results52,go_sem,d0,d1,d2,d3]
end Go.Proofs.YtimdkcchjanpaaaGreatDoor
