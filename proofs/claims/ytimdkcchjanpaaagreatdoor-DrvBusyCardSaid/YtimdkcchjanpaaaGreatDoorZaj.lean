/- Band, the code: first, takeFrom, Take. Band, the code: All; of nil; the interface. Box, the document's side: New. Bus, plain: what a slot makes of a bus; wha .. -/
import Derived.Test.YtimdkcchjanpaaaGreatDoorZai
import Derived.Test.YtimdkcchjanpaaaGreatDoorZah
import Derived.Test.YtimdkcchjanpaaaGreatDoorZaf
import Derived.Test.YtimdkcchjanpaaaGreatDoorZag
import Derived.BigQuiet
import Derived.Deep.Cut
set_option maxHeartbeats 8000000
namespace Go.Proofs.YtimdkcchjanpaaaGreatDoor
open Go.RowKit
open Go.Maps (Keyed IsMap Tidy)
set_option linter.unusedVariables false
variable {TB:TypeId} {od:Nat} {X Y:List Value}
set_option maxRecDepth 8000 in
theorem kqfirst_t {w:World} {b gm:Nat} {D:DataW Value} {V:Nat → Value} {s:Bq} {n:Int} {i c:Nat} {p:Pk} {M:List Pk} (hm:BdM TB od X Y w b gm D V s n) (ht:TakeAt s i c p M) (hok:s.Ok) :
    Calls Tryz.prog 116 #[.pointer (some ⟨b,od,none⟩)] w fun e w' => e = .returned (.tuple #[.int .i64 c, .bool true]) ∧ w = w':=by
  have HM:=Lib.hid hm
  have HT:=Lib.hid ht
  obtain ⟨B,hB⟩:=Int.eq_ofNat_of_zero_le (show 0 ≤ s.bands by have:=hok.bands; omega)
  have hB2:B ≤ 1000:=by have:=hok.bands; omega
  have hcB:c < B:=by have:=ht.lt; omega
  obtain ⟨c0,c1,c2,c3,c4⟩:=hm.cells
  rw [hB] at c1
  clear hm ht hok hB
  go_enter Tryz.func116,Tryz.ntmps116
  go_wp2
  go_loopw [9] (fun x wr => wr = w ∧ ∃ k:Nat,k ≤ c ∧ x = .int .i64 k) (fun x _ => c - (intOf x).toNat)
  case atStart => exact ⟨rfl,0,Nat.zero_le _,rfl⟩
  case round =>
    obtain ⟨rfl,k,hk,rfl⟩:=hrel
    have hd:decide ((k:Int) < (B:Int)) = true:=decide_eq_true (by omega)
    have hlk:=HM.out.look k (by omega)
    obtain ⟨A,cp,hv⟩:=(HM.out.row k).shape
    rw [hv] at hlk
    by_cases hkc:k < c
    · rw [HT.out.least k hkc,List.length_nil] at hlk
      clear hv
      go_wp2
      go_roundw
      case rel => exact ⟨by trivial,k + 1,by omega,by go_num⟩
      case measure => simp [intOf]; omega
    · obtain rfl:k = c:=by omega
      rw [HT.out.row,List.length_cons] at hlk
      clear hv
      go_wp2
      go_ret2
      exact ⟨rfl,rfl⟩
theorem kqfirst_f {w:World} {b gm:Nat} {D:DataW Value} {V:Nat → Value} {s:Bq} {n:Int} (hm:BdM TB od X Y w b gm D V s n) (hL:s.L = []) (hok:s.Ok) :
    Calls Tryz.prog 116 #[.pointer (some ⟨b,od,none⟩)] w fun e w' => e = .returned (.tuple #[.int .i64 0, .bool false]) ∧ w = w':=by
  have HM:=Lib.hid hm
  have HL:Hid (∀ k,bandF s.L k = []):=Lib.hid (fun k => by rw [hL]; rfl)
  obtain ⟨B,hB⟩:=Int.eq_ofNat_of_zero_le (show 0 ≤ s.bands by have:=hok.bands; omega)
  have hB2:B ≤ 1000:=by have:=hok.bands; omega
  obtain ⟨c0,c1,c2,c3,c4⟩:=hm.cells
  rw [hB] at c1
  clear hm hL hok hB
  go_enter Tryz.func116,Tryz.ntmps116
  go_wp2
  go_loopw [9] (fun x wr => wr = w ∧ ∃ k:Nat,k ≤ B ∧ x = .int .i64 k) (fun x _ => B - (intOf x).toNat)
  case atStart => exact ⟨rfl,0,Nat.zero_le _,rfl⟩
  case round =>
    obtain ⟨rfl,k,hk,rfl⟩:=hrel
    by_cases hkB:k < B
    · have hd:decide ((k:Int) < (B:Int)) = true:=decide_eq_true (by omega)
      have hlk:=HM.out.look k (by omega)
      obtain ⟨A,cp,hv⟩:=(HM.out.row k).shape
      rw [hv,HL.out k,List.length_nil] at hlk
      clear hv
      go_wp2
      go_roundw
      case rel => exact ⟨by trivial,k + 1,by omega,by go_num⟩
      case measure => simp [intOf]; omega
    · obtain rfl:k = B:=by omega
      go_wp2
      go_ret2
      exact ⟨rfl,rfl⟩
theorem RowQ.atHead {α:Type} {c:α → List Value} {k:Nat} {w:World} {a:α} {M:List α} {g o n cap:Nat} (h:RowQ c k w (.slice (some ⟨g,o,none⟩) n cap) (a :: M)):∀ j u,(c a)[j]? = some u → w.cell? ⟨g,o + j,none⟩ = some u:=by
  rcases h with ⟨h,_⟩ | ⟨g',o',cap',hv,h1,h2,h3,h4,h5⟩
  · cases h
  · injection hv with hA hn hcap
    injection hA with hA
    injection hA with e1 e2
    subst e1 e2
    intro j u hu
    refine h4 j u ?_
    have hrow:rowG c (a :: M) = c a ++ rowG c M:=by simp [rowG]
    rw [hrow,List.getElem?_append_left (by
      rcases Nat.lt_or_ge j (c a).length with h | h
      · exact h
      · rw [List.getElem?_eq_none h] at hu; cases hu)]
    exact hu
theorem zeroPkC:(Builtin.zeroCells (Value.agg #[.int .i64 0, .int .i64 0, .int .i64 0, .string (ByteArray.mk #[]), .int .i64 0, .int .i64 0, .bool false]).cells 1).toList = pkC pk0:=by kernel_rfl
theorem tf_done {w w8:World} {b gm z:Nat} {D':DataW Value} {V V':Nat → Value} {s':Bq} {p0:Pk} (p:Pk) (hk:Kept (bdO b gm V) w w8) (hz:w.heap.size ≤ z) (hm:BdM TB od X Y w8 b gm D' V' s' s'.L.length) (hl:∀ k,bdO b gm V' k → k ≠ z)
    (hg:Grows (bdO b gm V) w (bdO b gm V')) (hb:BoxP w8 z p0):BoxP (putB w8 z p) z p ∧ Stp (BdD TB od X Y) (.pointer (some ⟨b,od,none⟩)) (bdO b gm V) w s' (putB w8 z p):=by
  have hP:=hb.put p
  have hO:∀ k,k ≠ z → (putB w8 z p).heap[k]? = w8.heap[k]?:=fun k h => putB_other h
  have hS:=putB_size w8 z p
  obtain ⟨r1,r2,r3⟩:=putB_rest w8 z p
  generalize putB w8 z p = W at hP hO hS r1 r2 r3 ⊢
  exact ⟨hP,_,⟨b,gm,D',V',rfl,rfl,hm.stay (fun k hk' => hO k (hl k hk'))⟩,
    ⟨r1.trans hk.os,r2.trans hk.tape,r3.trans hk.output,by rw [hS]; exact hk.size,fun k h1 h2 => (hO k (by omega)).trans (hk.block k h1 h2)⟩,hg⟩
theorem kqtakefrom_v {w:World} {b gm:Nat} {D:DataW Value} {V:Nat → Value} {s:Bq} {i c:Nat} {p:Pk} {M:List Pk} (hm:BdM TB od X Y w b gm D V s s.L.length) (ht:TakeAt s i c p M) (hok:s.Ok) :
    Calls Tryz.prog 117 #[.pointer (some ⟨b,od,none⟩), .int .i64 c] w fun e w' => e = .returned (pkV p) ∧ Stp (BdD TB od X Y) (.pointer (some ⟨b,od,none⟩)) (bdO b gm V) w { s with L:=s.L.eraseIdx i } w':=by
  have HM:=Lib.hid hm
  have HT:=Lib.hid ht
  have hc:c < 1000:=by have:=hok.bands; have:=ht.lt; omega
  have hll:s.L.length ≤ 1000:=by have:=hok.room; have:=hok.len; omega
  have hl1:1 ≤ s.L.length:=by have:=ht.len; omega
  have HN:Hid ((s.L.length:Int) - 1 = ((s.L.eraseIdx i).length:Nat)):=Lib.hid (by have:=ht.len; omega)
  have hb0:=(Below.refl w.heap.size w).alloc (Nat.le_refl _) (.cells #[.int .i64 0, .int .i64 0, .int .i64 0, .string (ByteArray.mk #[]), .int .i64 0, .int .i64 0, .bool false] 37)
  have HB0:=Lib.hid hb0
  have HZ0:=Lib.hid (BoxP.made w pk0)
  have hm0:=hm.later hb0
  have HM0:=Lib.hid hm0
  have hrow:=hm0.row c
  rw [ht.row] at hrow
  obtain ⟨g,o,cap,hv,hcap,hcell⟩:=hrow.head
  have HV:=Lib.hid hv
  rw [hv] at hrow
  have HROW:=Lib.hid hrow
  have m0:=hrow.atHead 0 _ rfl
  rw [Nat.add_zero] at m0
  have m1:=hrow.atHead 1 _ rfl
  have m2:=hrow.atHead 2 _ rfl
  have m3:=hrow.atHead 3 _ rfl
  have m4:=hrow.atHead 4 _ rfl
  have m5:=hrow.atHead 5 _ rfl
  have m6:=hrow.atHead 6 _ rfl
  have hlk:=hm0.look c hc
  rw [hv] at hlk
  obtain ⟨c0,c1,c2,c3,c4⟩:=hm0.cells
  have HC:=Lib.hid hc
  have hzr:=zeroPk
  clear hm ht hb0 hm0 hrow hv hcell hok
  go_enter Tryz.func117,Tryz.ntmps117
  go_upto_region 3 with fail
  obtain ⟨w1,hw1⟩:∃ w1,(w.alloc (.cells #[.int .i64 0, .int .i64 0, .int .i64 0, .string (ByteArray.mk #[]), .int .i64 0, .int .i64 0, .bool false] 37)).alloc (.cells #[.int .i64 p.f.i, .int .i64 p.f.n, .int .i64 p.f.l, .string p.f.d, .int .i64 p.fr, .int .i64 p.tag, .bool p.lp] 37) = w1:=⟨_,rfl⟩
  rw [hw1]
  have hb1:Below (w.alloc (.cells #[.int .i64 0, .int .i64 0, .int .i64 0, .string (ByteArray.mk #[]), .int .i64 0, .int .i64 0, .bool false] 37)).heap.size (w.alloc (.cells #[.int .i64 0, .int .i64 0, .int .i64 0, .string (ByteArray.mk #[]), .int .i64 0, .int .i64 0, .bool false] 37)) w1:=by rw [← hw1]; exact (Below.refl _ _).alloc (Nat.le_refl _) _
  have HB1:=Lib.hid (fbelow_t HB0.out hb1)
  have HZ1:Hid (BoxP w1 w.heap.size pk0):=Lib.hid (HZ0.out.later hb1)
  have HP1:Hid (BoxP w1 (w.heap.size + 1) p):=Lib.hid (by have:=BoxP.made (w.alloc (.cells #[.int .i64 0, .int .i64 0, .int .i64 0, .string (ByteArray.mk #[]), .int .i64 0, .int .i64 0, .bool false] 37)) p; rw [hw1,World.size_alloc] at this; exact this)
  have HM1:=Lib.hid (HM.out.later HB1.out)
  have HR1:=Lib.hid (HROW.out.later hb1)
  clear c0 c1 c2 c3 c4 m0 m1 m2 m3 m4 m5 m6 hlk hw1 hb1
  clear HROW HM0 HB0 HZ0
  have HS2:=Lib.hid (HM1.out.setCount ((s.L.length:Int) - 1))
  obtain ⟨c0,c1,c2,c3,c4⟩:=HM1.out.cells
  have f3:=HM1.out.live (od + 3)
  obtain ⟨w2,hw2⟩:∃ w2,w1.setCell ⟨b,od + 3,none⟩ (.int .i64 ((s.L.length:Int) - 1)) = w2:=⟨_,rfl⟩
  have hbz:=HM.out.lt b (.inl rfl)
  have hp:∀ k q,BoxP w1 k q → w.heap.size ≤ k → BoxP w2 k q:=fun k q h hk => by rw [← hw2]; exact (Below.heap_setCell _ _ _ _ (fun e => by have e:k = b:=e; omega)).trans h
  have HZ2:=Lib.hid (hp _ _ HZ1.out (Nat.le_refl _))
  have HP2:=Lib.hid (hp _ _ HP1.out (by omega))
  have HK2:Hid (Kept (bdO b gm V) w w2):=Lib.hid ((Kept.of_below (O:=bdO b gm V) HB1.out).trans (by rw [← hw2]; exact bdSet_kept) (Grows.refl _ _))
  have hgb:g ≠ b:=fun e => (HM.out.f1 c).1 (by rw [HV.out,e]; rfl)
  have HGM:Hid (g ≠ gm):=Lib.hid (fun e => (HM.out.f1 c).2 (by rw [HV.out,e]; rfl))
  have HR2:Hid (RowQ pkC 7 w2 (.slice (some ⟨g,o,none⟩) (M.length + 1) cap) (p :: M)):=Lib.hid (HR1.out.stay (fun k hk => by
    injection hk with hk
    have hk:g = k:=hk
    rw [← hw2]; exact Below.heap_setCell _ _ _ _ (fun e => hgb (hk.trans e))) (by rw [← hw2]; simp [World.setCell]))
  rw [hw2] at HS2
  rw [HN.out] at HS2
  clear hp HZ1 HP1 HR1 HM1
  have HTD:Hid (∀ w8 D' V',BdM TB od X Y w8 b gm D' V' { s with L:=s.L.eraseIdx i } (s.L.eraseIdx i).length → Kept (bdO b gm V) w w8 → Grows (bdO b gm V) w (bdO b gm V') → BoxP w8 w.heap.size pk0 → (∀ k,bdO b gm V' k → k ≠ w.heap.size) →
      BoxP (putB w8 w.heap.size p) w.heap.size p ∧ Stp (BdD TB od X Y) (.pointer (some ⟨b,od,none⟩)) (bdO b gm V) w { s with L:=s.L.eraseIdx i } (putB w8 w.heap.size p)):=Lib.hid (fun w8 D' V' h1 h2 h3 h4 h5 => tf_done p h2 (Nat.le_refl _) h1 h5 h3 h4)
  have HHP:Hid (∀ w3,w2.mapTurned w3 gm → BoxP w3 w.heap.size pk0 ∧ BoxP w3 (w.heap.size + 1) p):=Lib.hid (fun w3 ht3 => by
    have kt:=Kept.of_turned ht3
    have hgm:=HM.out.lt gm (.inr (.inl rfl))
    exact ⟨HZ2.out.kept kt (by omega),HP2.out.kept kt (by omega)⟩)
  by_cases hM:M = []
  · subst hM
    have hrest:RowQ pkC 7 w2 nilP (bandF (s.L.eraseIdx i) c):=by rw [HT.out.rest]; exact RowQ.nil w2
    have HREST:=Lib.hid hrest
    have htd:=HS2.out.map.tidy lawJ
    have HTDY:=Lib.hid htd
    simp only [List.length_nil,Nat.zero_add]
    clear hrest htd
    go_upto_region 5 with fail
    clear hw2 c0 c1 c2 c3 c4 f3
    obtain ⟨c0,c1,c2,c3,c4⟩:=HS2.out.cells
    go_upto_region 6 with (at_delete; refine wpList_dropH _ rfl (.tmp 29) (.tmp 30) rfl lawJ Tryz.underlying67 (c:Int) rfl HS2.out.map rfl (keyJ (by have:=HC.out; omega)) ?_; intro w3 hm3 ht3; have HM3:=Lib.hid hm3; have HT3:=Lib.hid ht3; clear hm3 ht3)
    obtain ⟨q1,q2,q3⟩:=HS2.out.setRow (v':=nilP) HREST.out HT.out.other (Kept.refl _ _) (fun k hk => by cases hk) HM3.out (HS2.out.size.del HTDY.out c HC.out) (AtM.del_same _ _ _) (fun m x hne hx => hx.del_other (by omega)) HT3.out
    obtain ⟨x1,x2⟩:=HHP.out _ HT3.out
    have hg3:Grows (bdO b gm V) w (bdO b gm (rowOf V c nilP)):=fun k hk => (q3 k hk).imp id (fun h => Nat.le_trans HK2.out.size h)
    have hne:∀ k,bdO b gm (rowOf V c nilP) k → k ≠ w.heap.size:=fun k hk e => by
      rcases q3 k hk with h | h
      · have:=HM.out.lt k h; omega
      · have:=HP2.out.lt; omega
    have HFIN:=Lib.hid (HTD.out _ _ _ q1 (HK2.out.trans q2 (Grows.refl _ _)) hg3 x1 hne)
    obtain ⟨d0,d1,d2,d3,d4,d5,d6⟩:=x2.cells
    obtain ⟨e0,e1,e2,e3,e4,e5,e6⟩:=x1.cells
    have fl:∀ j,w3.frozen? ⟨w.heap.size,j,none⟩ = false:=fun j => Lib.frozen_of_heap x1 j
    clear q1 q2 q3 hg3 hne x1 x2 c0 c1 c2 c3 c4
    go_wp2_with fail
    obtain ⟨r0,r1,r2,r3,r4,r5,r6⟩:=HFIN.out.1.cells
    unfold putB at r0 r1 r2 r3 r4 r5 r6
    refine bodyPost_ret (v:=pkV p) ?_ rfl ⟨rfl,HFIN.out.2⟩
    simp [results,Tryz.results117,go_sem,r0,r1,r2,r3,r4,r5,r6]
  · have hM1:1 ≤ M.length:=List.length_pos_iff.2 hM
    have HM1:=Lib.hid hM1
    have hd:((M.length:Int) + 1 == 1) = false:=by simp; omega
    have hcell:∀ j,j < 7 → (w2.cell? ⟨g,o + j,none⟩).isSome = true ∧ w2.frozen? ⟨g,o + j,none⟩ = false:=by
      obtain ⟨g',o',cap',hsh',_,hcell⟩:=HR2.out.head
      injection hsh' with hA _ _
      injection hA with hA
      injection hA with e1 e2
      subst e1 e2
      exact hcell
    have HCL:=Lib.hid hcell
    have HK:=Lib.hid (cut_kept (w:=w2) (g:=g) (o:=o) (n:=M.length + 1) (cap:=cap) (n':=M.length) (o':=o + 7) (cap':=cap - 1) (zs:=pkC pk0))
    have hcut:=HR2.out.cut pkC_len hM1 (zs:=pkC pk0) rfl
    have HRT:Hid (RowQ pkC 7 (w2.setCells g o (pkC pk0)) (.slice (some ⟨g,o + 7,none⟩) M.length (cap - 1)) (bandF (s.L.eraseIdx i) c)):=Lib.hid (by rw [HT.out.rest]; exact hcut)
    have HTDY:=Lib.hid (HS2.out.map.tidy lawJ)
    clear hcell hcut hM
    go_upto_region 7 with fail
    clear hw2 c0 c1 c2 c3 c4 f3
    have hc2:2 ≤ cap:=by omega
    go_wp2_with (refine wpList_clearK rfl (.tmp 33) 32 37 rfl Tryz.underlying32 _ zeroPk _ zeroPkC (pkC_one pk0) g o cap (by simp [Act.eval]) (fun j hj => (HCL.out j hj).1) (fun j hj => (HCL.out j hj).2) ?_)
    simp only [Act.put]
    generalize hW:w2.setCells g o (pkC pk0) = W at HK HRT ⊢
    have HB:=Lib.hid (HS2.out.cells.1)
    have hws:W.heap.size = w2.heap.size:=by rw [← hW,setCells_size]
    have hWb:∀ k,k ≠ g → W.heap[k]? = w2.heap[k]?:=fun k hk => by rw [← hW]; exact setCells_heap _ _ _ _ hk
    have HWB:=Lib.hid hWb
    have hcb:∀ (q:KLater (fun _ => False) W),q.w.cell? ⟨b,od,none⟩ = some (.map (some gm)):=fun q => (q.cell b od (by rw [hws]; exact HS2.out.lt b (.inl rfl)) (fun h => h)).trans ((World.cell?_of_block (w:=w2) (a:=⟨b,od,none⟩) (HWB.out b (fun e => hgb e.symm))).trans HB.out)
    refine wp_region_st 7 [] (fun _ _ w' => Below W.heap.size W w') [] (Below.refl _ _).drew (by kernel_rfl) (by kernel_rfl) (by kernel_rfl) (by kernel_rfl) (by kernel_rfl) (by kernel_rfl) (by kernel_rfl) ?_
    simp only [List.take_succ_cons,List.take_zero,List.drop_succ_cons,List.drop_zero]
    repeat (refine st_plain (O:=fun _ => False) (fun h => .of_below h) (by rfl) (by rfl) (by rfl) (by rfl) (by rfl) ?_; intro K hK; go_big_quiet_op; go_big_quiet_on)
    refine st_nil (O:=fun _ => False) (fun h => .of_below h) (by rfl) (by rfl) (by rfl) (by rfl) (by rfl) (by rfl) ?_; intro K hK; go_big_quiet_op; go_big_quiet_on
    repeat (refine st_plain (O:=fun _ => False) (fun h => .of_below h) (by rfl) (by rfl) (by rfl) (by rfl) (by rfl) ?_; intro K hK; go_big_quiet_op; go_big_quiet_on)
    intro ys xs w3 hF h3
    simp only [secFill]
    have k3:Kept (OwnO (.slice (some ⟨g,o,none⟩) (M.length + 1) cap)) w2 w3:=HK.out.1.trans (.of_below (O:=OwnO (.slice (some ⟨g,o,none⟩) (M.length + 1) cap)) h3) (Grows.refl _ _)
    have hno:∀ k,k ≠ g → ¬ OwnO (.slice (some ⟨g,o,none⟩) (M.length + 1) cap) k:=fun k hk h => by
      injection h with h
      exact hk h.symm
    have hm3:MapH Tryz.prog 3 w3 gm D:=HS2.out.map.stay (k3.block gm HS2.out.map.lt (hno gm (fun e => HGM.out e.symm)))
    refine wpList_storeH _ rfl (.tmp 37) (.tmp 38) (.tmp 40) rfl lawJ Tryz.underlying67 (c:Int) (.slice (some ⟨g,o + 7,none⟩) M.length (cap - 1)) rfl hm3 (by have:=HS2.out.size.le; unfold maxLen; omega) rfl rfl (keyJ (by have:=HC.out; omega)) ?_
    intro w4 hm4 ht4
    have k3':=k3
    rw [← HV.out] at k3
    have hgr:Grows (OwnO (V c)) w2 (OwnO (.slice (some ⟨g,o + 7,none⟩) M.length (cap - 1))):=by rw [HV.out]; exact HK.out.2
    obtain ⟨q1,q2,q3⟩:=HS2.out.setRow (v' := .slice (some ⟨g,o + 7,none⟩) M.length (cap - 1)) (HRT.out.later h3) HT.out.other k3 hgr hm4 (HS2.out.size.put HTDY.out HC.out _) (AtM.put_same HTDY.out _ _ _) (fun m x hne hx => hx.put_other (by omega) _) ht4
    have kt:=Kept.of_turned ht4
    have hgm:=HM.out.lt gm (.inr (.inl rfl))
    have hgz:g < w.heap.size:=HM.out.lt g (.inr (.inr ⟨c,by rw [HV.out]; rfl⟩))
    have hx:∀ k q,BoxP w2 k q → w.heap.size ≤ k → BoxP w4 k q:=fun k q h hk => (h.kept k3' (hno k (fun e => by omega))).kept kt (by omega)
    have x1:=hx _ _ HZ2.out (Nat.le_refl _)
    have x2:=hx _ _ HP2.out (by omega)
    have hg3:Grows (bdO b gm V) w (bdO b gm (rowOf V c (.slice (some ⟨g,o + 7,none⟩) M.length (cap - 1)))):=fun k hk => (q3 k hk).imp id (fun h => Nat.le_trans HK2.out.size h)
    have hne:∀ k,bdO b gm (rowOf V c (.slice (some ⟨g,o + 7,none⟩) M.length (cap - 1))) k → k ≠ w.heap.size:=fun k hk e => by
      rcases q3 k hk with h | h
      · have:=HM.out.lt k h; omega
      · have:=HP2.out.lt; omega
    have HFIN:=Lib.hid (HTD.out _ _ _ q1 (HK2.out.trans q2 (Grows.refl _ _)) hg3 x1 hne)
    obtain ⟨d0,d1,d2,d3,d4,d5,d6⟩:=x2.cells
    obtain ⟨e0,e1,e2,e3,e4,e5,e6⟩:=x1.cells
    have fl:∀ j,w4.frozen? ⟨w.heap.size,j,none⟩ = false:=fun j => Lib.frozen_of_heap x1 j
    clear q1 q2 q3 hg3 hne x1 x2 kt hgm hgz hx hgr k3 k3' hno hm3 hm4 ht4 hF h3 hcb hW hws hWb
    go_wp2_with fail
    obtain ⟨r0,r1,r2,r3,r4,r5,r6⟩:=HFIN.out.1.cells
    unfold putB at r0 r1 r2 r3 r4 r5 r6
    refine bodyPost_ret (v:=pkV p) ?_ rfl ⟨rfl,HFIN.out.2⟩
    simp [results,Tryz.results117,go_sem,r0,r1,r2,r3,r4,r5,r6]
theorem tk_done {w w8:World} {v:Value} {O O1:Nat → Prop} {s':Bq} {p0:Pk} (p:Pk) (hD:BdD TB od X Y w8 v s' O1) (hk:Kept O w w8) (hg:Grows O w O1) (hl:∀ k,O1 k → k ≠ w.heap.size) (hb:BoxP w8 w.heap.size p0) :
    BoxP (putB w8 w.heap.size p) w.heap.size p ∧ Stp (BdD TB od X Y) v O w s' (putB w8 w.heap.size p):=by
  have hP:=hb.put p
  have hO:∀ k,k ≠ w.heap.size → (putB w8 w.heap.size p).heap[k]? = w8.heap[k]?:=fun k h => putB_other h
  have hS:=putB_size w8 w.heap.size p
  obtain ⟨r1,r2,r3⟩:=putB_rest w8 w.heap.size p
  generalize putB w8 w.heap.size p = W at hP hO hS r1 r2 r3 ⊢
  exact ⟨hP,O1,isObj_bd.stay hD (fun k hk' => hO k (hl k hk')),
    ⟨r1.trans hk.os,r2.trans hk.tape,r3.trans hk.output,by rw [hS]; exact hk.size,fun k h1 h2 => (hO k (by omega)).trans (hk.block k h1 h2)⟩,hg⟩
theorem kqtake_v {v:Value} {s:Bq} {O:Nat → Prop} (w:World) (h:BdD TB od X Y w v s O) (hok:s.Ok) :
    Calls Tryz.prog 79 #[v] w fun e w' => e = .returned (.tuple #[pkV s.tk.1, .int .i64 s.tk.2]) ∧ Stp (BdD TB od X Y) v O w s.take.1 w':=by
  obtain ⟨b,gm,D,V,rfl,rfl,hm⟩:=h
  have hb0:=(Below.refl w.heap.size w).alloc (Nat.le_refl _) (.cells #[.int .i64 0, .int .i64 0, .int .i64 0, .string (ByteArray.mk #[]), .int .i64 0, .int .i64 0, .bool false] 37)
  have HB0:=Lib.hid hb0
  have HZ0:=Lib.hid (BoxP.made w pk0)
  have HM:=Lib.hid hm
  have HM0:=Lib.hid (hm.later hb0)
  have HOK:=Lib.hid hok
  have hzr:=zeroPk
  have HNO:Hid (s.take = (s,pk0,false) → s.tk = (pk0,6) ∧ s.take.1 = s):=Lib.hid (fun h => by unfold Bq.tk; rw [h]; exact ⟨rfl,rfl⟩)
  by_cases hL:s.L = []
  · obtain ⟨t1,t2⟩:=HNO.out (Bq.take_nil hL)
    rw [t1,t2]
    have HL:=Lib.hid hL
    clear hm hb0 hok t1 t2 hL
    go_enter Tryz.func79,Tryz.ntmps79
    go_wp2_with fail
    refine (kqfirst_f HM0.out HL.out HOK.out).mono ?_
    rintro x w1 ⟨rfl,hw1⟩
    rw [hw1] at HB0 HM0
    have hz:=HZ0.out
    unfold pk0 at hz
    have HZ1:Hid (BoxP w1 w.heap.size pk0):=Lib.hid (by rw [← hw1]; exact HZ0.out)
    clear hz HZ0 hw1
    obtain ⟨c0,c1,c2,c3,c4⟩:=HM0.out.cells
    obtain ⟨d0,d1,d2,d3,d4,d5,d6⟩:=HZ1.out.cells
    have fl:∀ j,w1.frozen? ⟨w.heap.size,j,none⟩ = false:=fun j => Lib.frozen_of_heap HZ1.out j
    have HD:=Lib.hid (HM.out.stp (putB_below pk0 HB0.out (Nat.le_refl _)))
    have HPR:=Lib.hid (HZ1.out.put pk0)
    obtain ⟨r0,r1,r2,r3,r4,r5,r6⟩:=HPR.out.cells
    unfold putB pk0 at r0 r1 r2 r3 r4 r5 r6
    unfold putB pk0 at HD
    generalize s.st = q at c4
    cases q
    all_goals (
      go_wp2_with fail
      refine bodyPost_ret (v := .tuple #[pkV pk0, .int .i64 6]) ?_ rfl ⟨rfl,HD.out⟩
      simp [results,Tryz.results79,go_sem,pk0,r0,r1,r2,r3,r4,r5,r6])
  · obtain ⟨i,c,p,M,hT⟩:=take_at hok hL
    have HT:=Lib.hid hT
    cases hst:s.st
    · have ht:=hT.take hst
      have HE1:Hid (s.tk = (p,0)):=Lib.hid (by unfold Bq.tk; rw [ht]; rfl)
      have HE2:Hid (s.take.1 = { s with L:=s.L.eraseIdx i }):=Lib.hid (by rw [ht])
      rw [HE1.out,HE2.out]
      have hbz:=hm.lt b (.inl rfl)
      clear hm hb0 hok hT ht hL
      go_enter Tryz.func79,Tryz.ntmps79
      go_wp2_with fail
      refine (kqfirst_t HM0.out HT.out HOK.out).mono ?_
      rintro x w1 ⟨rfl,hw1⟩
      rw [hw1] at HB0 HM0
      have HZ1:Hid (BoxP w1 w.heap.size pk0):=Lib.hid (by rw [← hw1]; exact HZ0.out)
      clear HZ0 hw1
      obtain ⟨c0,c1,c2,c3,c4⟩:=HM0.out.cells
      rw [hst] at c4
      have HST:=Lib.hid hst
      clear hst
      go_wp2_with fail
      refine (kqtakefrom_v HM0.out HT.out HOK.out).mono ?_
      rintro x w2 ⟨rfl,hS⟩
      obtain ⟨O1,hD,hk1,hg1⟩:=hS
      have hno:¬ bdO b gm V w.heap.size:=fun h => absurd (HM.out.lt _ h) (Nat.lt_irrefl _)
      have hO1:∀ k,O1 k → k ≠ w.heap.size:=fun k h e => by
        subst e
        rcases hg1 _ h with h1 | h1
        · exact hno h1
        · have:=HZ1.out.lt; omega
      have hz2:BoxP w2 w.heap.size pk0:=HZ1.out.kept hk1 hno
      have hkk:=(Kept.of_below (O:=bdO b gm V) HB0.out).trans hk1 (Grows.refl _ _)
      have HFIN:=Lib.hid (tk_done p hD hkk (fun k h => (hg1 k h).imp id (fun h => Nat.le_trans HB0.out.size h)) hO1 hz2)
      obtain ⟨d0,d1,d2,d3,d4,d5,d6⟩:=hz2.cells
      have fl:∀ j,w2.frozen? ⟨w.heap.size,j,none⟩ = false:=fun j => Lib.frozen_of_heap hz2 j
      clear hD hk1 hg1 hO1 hkk hno c0 c1 c2 c3 c4 hz2
      obtain ⟨r0,r1,r2,r3,r4,r5,r6⟩:=HFIN.out.1.cells
      unfold putB at r0 r1 r2 r3 r4 r5 r6
      go_wp2_with fail
      refine bodyPost_ret (v := .tuple #[pkV p, .int .i64 0]) ?_ rfl ⟨rfl,HFIN.out.2⟩
      simp [results,Tryz.results79,go_sem,r0,r1,r2,r3,r4,r5,r6]
    · obtain ⟨t1,t2⟩:=HNO.out (Bq.take_stop hst)
      rw [t1,t2]
      clear hm hb0 hok t1 t2 hL
      go_enter Tryz.func79,Tryz.ntmps79
      go_wp2_with fail
      refine (kqfirst_t HM0.out HT.out HOK.out).mono ?_
      rintro x w1 ⟨rfl,hw1⟩
      rw [hw1] at HB0 HM0
      have HZ1:Hid (BoxP w1 w.heap.size pk0):=Lib.hid (by rw [← hw1]; exact HZ0.out)
      clear HZ0 hw1
      obtain ⟨c0,c1,c2,c3,c4⟩:=HM0.out.cells
      rw [hst] at c4
      have HST:=Lib.hid hst
      clear hst
      obtain ⟨d0,d1,d2,d3,d4,d5,d6⟩:=HZ1.out.cells
      have fl:∀ j,w1.frozen? ⟨w.heap.size,j,none⟩ = false:=fun j => Lib.frozen_of_heap HZ1.out j
      have HD:=Lib.hid (HM.out.stp (putB_below pk0 HB0.out (Nat.le_refl _)))
      have HPR:=Lib.hid (HZ1.out.put pk0)
      obtain ⟨r0,r1,r2,r3,r4,r5,r6⟩:=HPR.out.cells
      unfold putB pk0 at r0 r1 r2 r3 r4 r5 r6
      unfold putB pk0 at HD
      go_wp2_with fail
      refine bodyPost_ret (v := .tuple #[pkV pk0, .int .i64 6]) ?_ rfl ⟨rfl,HD.out⟩
      simp [results,Tryz.results79,go_sem,pk0,r0,r1,r2,r3,r4,r5,r6]
end Go.Proofs.YtimdkcchjanpaaaGreatDoor
namespace Go.Proofs.YtimdkcchjanpaaaGreatDoor
open Go.RowKit
open Go.Maps (Keyed IsMap Tidy)
set_option linter.unusedVariables false
variable {TB:TypeId} {od:Nat} {X Y:List Value}
theorem info_pz:(Tryz.prog.info? 37).map (fun i => (i.zero,i.size,i.bytes)) = some (some (.agg (pkC pk0).toArray),7,64):=by kernel_rfl
theorem rep_pz (n:Nat):madeCells (Value.agg (pkC pk0).toArray).cells (n * 7) = (rowG pkC (List.replicate n pk0)).toArray:=by
  have h:=made_rep (pkC pk0).toArray n (by decide)
  have e:(Value.agg (pkC pk0).toArray).cells = (pkC pk0).toArray:=by kernel_rfl
  rw [e]
  refine Eq.trans h ?_
  congr 1
  unfold rowG
  rw [List.flatMap_def,List.map_replicate]
theorem run_mkR (n:Nat) (hn:n ≤ 1000) (w:World) :
    (Instr.makeSlice 32 (.int .i64 0) (.int .i64 n)).run Tryz.prog w = .ok (.slice (some ⟨w.heap.size,0,none⟩) 0 n) (w.alloc (.cells (rowG pkC (List.replicate n pk0)).toArray 37)):=by
  obtain ⟨i0,hi,hz0,hz1,hz2⟩:=info_parts info_pz
  have:=run_make (P:=Tryz.prog) w 32 37 i0 _ Tryz.underlying32 hi hz0 .i64 .i64 (0:Int) (n:Int) (by omega) (by omega) (by rw [hz2]; omega) (by omega)
  rw [hz1,Int.toNat_natCast,rep_pz] at this
  exact this
theorem RowQ.room {α:Type} {c:α → List Value} {k:Nat} (hk:∀ a,(c a).length = k) (w:World) (t:TypeId) (n:Nat) (hn:n ≤ 1000) (z:α):RowQ c k (w.alloc (.cells (rowG c (List.replicate n z)).toArray t)) (.slice (some ⟨w.heap.size,0,none⟩) 0 n) ([]:List α):=by
  refine .inr ⟨_,0,n,rfl,Nat.zero_le _,by unfold maxLen; omega,by simp,fun j u h => by simp [rowG] at h,fun j hj => ?_⟩
  have hh:=heap_alloc_new w (.cells (rowG c (List.replicate n z)).toArray t)
  refine ⟨?_,Lib.frozen_of_heap hh _⟩
  rw [Lib.cell_of_heap hh,Nat.zero_add,Array.getElem?_eq_getElem (by simp only [List.size_toArray]; rw [rowG_length hk,List.length_replicate]; exact hj)]
  rfl
structure AllK (s:Bq) (w:World) (k:Nat) (u:Value) (wr:World):Prop where
  row:RowQ pkC 7 wr u (allF s.L k)
  below:Below w.heap.size w wr
  own:∀ g,OwnO u g → w.heap.size ≤ g
theorem AllK.more {s:Bq} {w wr w':World} {k:Nat} {u u':Value} (h:AllK s w k u wr) (hq:RowQ pkC 7 w' u' (allF s.L k ++ bandF s.L k)) (hk:Kept (OwnO u) wr w') (hg:Grows (OwnO u) wr (OwnO u')):AllK s w (k + 1) u' w':=by
  obtain ⟨h1,h2⟩:=own_app2 h.below h.own hk hg
  exact ⟨by rw [allF_succ]; exact hq,h1,h2⟩
theorem allF_len (L:List On):∀ k,(allF L k).length ≤ k * L.length
  | 0 => by simp [allF]
  | k + 1 => by
    rw [allF_succ,List.length_append,Nat.add_mul,Nat.one_mul]
    exact Nat.add_le_add (allF_len L k) (bandF_len L k)
theorem RowQ.shapeOk {α:Type} {c:α → List Value} {k:Nat} {w:World} {v:Value} {L:List α} (h:RowQ c k w v L):ShapeOk v:=by
  rcases h with ⟨h,_⟩ | ⟨g,o,cap,hv,h1,_⟩
  · exact .inl h
  · exact .inr ⟨_,_,_,hv,h1⟩
theorem AllK.fin {s:Bq} {w wr:World} {B:Nat} {u:Value} (h:AllK s w B u wr) (hal:s.all = allF s.L B) (hB:B ≤ 1000) (hl:s.L.length ≤ 1000):SlA pkC 7 wr (fun k => k < w.heap.size) u s.all ∧ ShapeOk u:=by
  refine ⟨?_,h.row.shapeOk⟩
  rw [hal]
  refine SlA.of_sl (h.row.sl pkC_len (by have h1:=allF_len s.L B; have h5:B * s.L.length ≤ 1000 * 1000:=Nat.mul_le_mul hB hl; unfold maxLen; omega)) (fun x n c' hv _ h' => ?_)
  have:=h.own x.block (by rw [hv]; rfl)
  omega
theorem kqall_v {v:Value} {s:Bq} {O:Nat → Prop} (w:World) (h:BdD TB od X Y w v s O) (hok:s.Ok) :
    Calls Tryz.prog 56 #[v] w (Gives w fun w' u => SlA pkC 7 w' (fun k => k < w.heap.size) u s.all ∧ ShapeOk u):=by
  obtain ⟨b,gm,D,V,rfl,rfl,hm⟩:=h
  have HM:=Lib.hid hm
  have hll:s.L.length ≤ 1000:=by have:=hok.room; have:=hok.len; omega
  obtain ⟨B,hB⟩:=Int.eq_ofNat_of_zero_le (show 0 ≤ s.bands by have:=hok.bands; omega)
  have hB2:B ≤ 1000:=by have:=hok.bands; omega
  have HN:=Lib.hid hB
  have HAL:Hid (s.all = allF s.L B):=Lib.hid (by rw [Bq.all_F,hB]; rfl)
  have hmk:=run_mkR s.L.length hll w
  obtain ⟨c0,c1,c2,c3,c4⟩:=hm.cells
  obtain ⟨w0,hw0⟩:∃ w0,w.alloc (.cells (rowG pkC (List.replicate s.L.length pk0)).toArray 37) = w0:=⟨_,rfl⟩
  rw [hw0] at hmk
  have HB0:Hid (Below w.heap.size w w0):=Lib.hid (by rw [← hw0]; exact (Below.refl _ w).alloc (Nat.le_refl _) _)
  have HA0:Hid (AllK s w 0 (.slice (some ⟨w.heap.size,0,none⟩) 0 s.L.length) w0):=Lib.hid ⟨by rw [← hw0]; exact RowQ.room pkC_len w _ _ hll pk0,HB0.out,fun g h => by
    injection h with h
    have h:w.heap.size = g:=h
    omega⟩
  have HLL:=Lib.hid hll
  obtain ⟨x0,x1,x2,x3,x4⟩:=(hm.later HB0.out).cells
  rw [hB] at x1
  clear hm hok hB hw0
  go_enter Tryz.func56,Tryz.ntmps56
  go_wp2
  go_loopw [16,3] (fun x u wr => ∃ k:Nat,k ≤ B ∧ x = .int .i64 k ∧ Hid (AllK s w k u wr)) (fun x _ _ => B - (intOf x).toNat)
  case atStart => exact ⟨0,Nat.zero_le _,rfl,HA0⟩
  case round =>
    obtain ⟨k,hk,rfl,HI⟩:=hrel
    have HMR:=Lib.hid (HM.out.later HI.out.below)
    by_cases hlt:k < B
    · have hd:decide ((k:Int) < (B:Int)) = true:=decide_eq_true (by omega)
      clear c0 c1 c2 c3 c4 x0 x1 x2 x3 x4
      obtain ⟨c0,c1,c2,c3,c4⟩:=HMR.out.cells
      have hlk:=HMR.out.look k (by omega)
      have HSZ:Hid ((allF s.L k).length + (bandF s.L k).length ≤ 1000000):=Lib.hid (by
        have h1:=allF_len s.L k
        have h2:=bandF_len s.L k
        have h5:(k + 1) * s.L.length ≤ 1000 * 1000:=Nat.mul_le_mul (by omega) hll
        rw [Nat.add_mul,Nat.one_mul] at h5
        omega)
      have HRD:Hid (RdA pkC 7 wr (V k) (bandF s.L k)):=Lib.hid ((HMR.out.row k).rda pkC_len (by have:=bandF_len s.L k; unfold maxLen; omega))
      go_wp2_with (at_builtin; refine wpList_qO (c:=pkC) (L:=allF s.L k) (M:=bandF s.L k) flat_pk pkC_len pkC_one rfl (.tmp 19) (.tmp 25) rfl (by rfl) HI.out.row (by rfl) HRD.out HSZ.out ?_; rintro v4 w4 hq4 hk4 hg4; have HR4:=Lib.hid (HI.out.more hq4 hk4 hg4); clear hq4 hk4 hg4)
      go_roundw
      case rel => exact ⟨k + 1,by omega,by go_num,HR4⟩
      case measure => simp [intOf]; omega
    · obtain rfl:k = B:=by omega
      have HF:=Lib.hid (HI.out.fin HAL.out hB2 hll)
      clear c0 c1 c2 c3 c4 x0 x1 x2 x3 x4 HMR
      go_wp2
      go_ret
      exact ⟨_,rfl,HF.out,HI.out.below⟩
end Go.Proofs.YtimdkcchjanpaaaGreatDoor
namespace Go.Proofs.YtimdkcchjanpaaaGreatDoor
open Go.RowKit
set_option linter.unusedVariables false
def bxNew (m:Nat):Bx:=⟨List.replicate m 0,List.replicate m pk0, [], []⟩
def boxesN (n:Int):Nat:=if n < 1 then 1 else if 1000 < n then 1000 else n.toNat
theorem info_pk:(Tryz.prog.info? 37).map (fun i => (i.zero,i.size,i.bytes)) = some (some (.agg (pkC pk0).toArray),7,64):=by kernel_rfl
theorem info_in:(Tryz.prog.info? 3).map (fun i => (i.zero,i.size,i.bytes)) = some (some (.int .i64 0),1,8):=by kernel_rfl
theorem rep_pk (n:Nat):madeCells (Value.agg (pkC pk0).toArray).cells (n * 7) = (rowG pkC (List.replicate n pk0)).toArray:=by
  have h:=made_rep (pkC pk0).toArray n (by decide)
  have e:(Value.agg (pkC pk0).toArray).cells = (pkC pk0).toArray:=by kernel_rfl
  rw [e]
  refine Eq.trans h ?_
  congr 1
  unfold rowG
  rw [List.flatMap_def,List.map_replicate]
theorem rep_in (n:Nat):madeCells (Value.int .i64 0).cells (n * 1) = (rowG inC (List.replicate n 0)).toArray:=by
  have h:=made_rep #[Value.int .i64 0] n (by decide)
  refine Eq.trans h ?_
  congr 1
  unfold rowG
  rw [List.flatMap_def,List.map_replicate]
  rfl
theorem run_mkS (n:Nat) (hn:n ≤ 1000) (w:World) :
    (Instr.makeSlice 48 (.int .i64 n) (.int .i64 n)).run Tryz.prog w = .ok (.slice (some ⟨w.heap.size,0,none⟩) n n) (w.alloc (.cells (rowG inC (List.replicate n 0)).toArray 3)):=by
  obtain ⟨i0,hi,hz0,hz1,hz2⟩:=info_parts info_in
  have:=run_make (P:=Tryz.prog) w 48 3 i0 _ Tryz.underlying48 hi hz0 .i64 .i64 (n:Int) (n:Int) (by omega) (Int.le_refl _) (by rw [hz2]; omega) (by omega)
  rw [hz1,Int.toNat_natCast,rep_in] at this
  exact this
theorem run_mkP (n:Nat) (hn:n ≤ 1000) (w:World) :
    (Instr.makeSlice 32 (.int .i64 n) (.int .i64 n)).run Tryz.prog w = .ok (.slice (some ⟨w.heap.size,0,none⟩) n n) (w.alloc (.cells (rowG pkC (List.replicate n pk0)).toArray 37)):=by
  obtain ⟨i0,hi,hz0,hz1,hz2⟩:=info_parts info_pk
  have:=run_make (P:=Tryz.prog) w 32 37 i0 _ Tryz.underlying32 hi hz0 .i64 .i64 (n:Int) (n:Int) (by omega) (Int.le_refl _) (by rw [hz2]; omega) (by omega)
  rw [hz1,Int.toNat_natCast,rep_pk] at this
  exact this
theorem xnew_done {w w':World} {b gs gp m:Nat} {ZS ZP:List Value} (hS:rowG inC (List.replicate m 0) = ZS) (hP:rowG pkC (List.replicate m pk0) = ZP) (hb:w'.heap[b]? = some (.cells #[.slice (some ⟨gs,0,none⟩) m m, .slice (some ⟨gp,0,none⟩) m m, .slice none 0 0, .slice none 0 0] 146 (0,0)))
    (hs:w'.heap[gs]? = some (.cells ZS.toArray 3 (0,0))) (hp:w'.heap[gp]? = some (.cells ZP.toArray 37 (0,0))) (h1:b ≠ gs) (h2:b ≠ gp) (h3:gs ≠ gp) (g1:w.heap.size ≤ b) (g2:w.heap.size ≤ gs) (g3:w.heap.size ≤ gp) (hw:Below w.heap.size w w') :
    ∃ v O,(Ending.returned (.pointer (some ⟨b,0,none⟩)):Ending) = .returned v ∧ BxD w' v (bxNew m) O ∧ Below w.heap.size w w' ∧ ∀ k,O k → w.heap.size ≤ k:=by
  have hl:(bxNew m).S.length = m:=by simp [bxNew]
  refine ⟨_,_,rfl,⟨b,gs,gp, .slice none 0 0, .slice none 0 0,rfl,rfl,⟨by rw [hl]; exact hb,by rw [← hS] at hs; exact hs,by rw [← hP] at hp; exact hp,by simp [bxNew],RowQ.nil _,RowQ.nil _,h1,h2,h3,⟨nofun,nofun,nofun⟩,⟨nofun,nofun,nofun⟩,fun k h => nomatch h⟩⟩,hw, ?_⟩
  rintro k (rfl | rfl | rfl | h | h)
  · exact g1
  · exact g2
  · exact g3
  · cases h
  · cases h
theorem xnew_v {n:Int} (w:World):Calls Tryz.prog 96 #[.int .i64 n] w fun e w' => ∃ v O,e = .returned v ∧ BxD w' v (bxNew (boxesN n)) O ∧ Below w.heap.size w w' ∧ ∀ k,O k → w.heap.size ≤ k:=by
  obtain ⟨m,hm⟩:∃ m,boxesN n = m:=⟨_,rfl⟩
  have hm2:m ≤ 1000:=by rw [← hm]; unfold boxesN; split <;> (try split) <;> omega
  have mk1:=run_mkS m hm2
  have mk2:=run_mkP m hm2
  obtain ⟨ZS,hS⟩:∃ Z,rowG inC (List.replicate m 0) = Z:=⟨_,rfl⟩
  obtain ⟨ZP,hP⟩:∃ Z,rowG pkC (List.replicate m pk0) = Z:=⟨_,rfl⟩
  rw [hS] at mk1
  rw [hP] at mk2
  have HS:=Lib.hid hS
  have HP:=Lib.hid hP
  have hc:(1 ≤ n ∧ n ≤ 1000 ∧ n = m) ∨ (n < 1 ∧ m = 1) ∨ (1000 < n ∧ m = 1000):=by
    unfold boxesN at hm
    split at hm
    · omega
    · split at hm <;> omega
  rw [hm]
  clear hm hS hP
  rcases hc with ⟨h1,h2,rfl⟩ | ⟨h1,hm1⟩ | ⟨h1,hm1⟩
  · go_enter Tryz.func96,Tryz.ntmps96
    go_wp2_with fail
    go_region
    all_goals (
      go_wp2
      go_ret
      first
        | (obtain ⟨x1,x2,x3,x4⟩:=three_blocks w (.cells ZP.toArray 37) (.cells ZS.toArray 3) (.cells #[.slice (some ⟨w.heap.size + 1,0,none⟩) m m, .slice (some ⟨w.heap.size,0,none⟩) m m, .slice none 0 0, .slice none 0 0] 146)
           exact xnew_done HS.out HP.out x3 x2 x1 (by omega) (by omega) (by omega) (by omega) (by omega) (by omega) x4)
        | (obtain ⟨x1,x2,x3,x4⟩:=three_blocks w (.cells ZS.toArray 3) (.cells ZP.toArray 37) (.cells #[.slice (some ⟨w.heap.size,0,none⟩) m m, .slice (some ⟨w.heap.size + 1,0,none⟩) m m, .slice none 0 0, .slice none 0 0] 146)
           exact xnew_done HS.out HP.out x3 x1 x2 (by omega) (by omega) (by omega) (by omega) (by omega) (by omega) x4))
  · have e1:((m:Nat):Int) = 1:=by omega
    rw [e1] at mk1 mk2
    clear e1 hm1
    go_enter Tryz.func96,Tryz.ntmps96
    go_wp2_with fail
    go_region
    all_goals (
      go_wp2
      go_ret
      first
        | (obtain ⟨x1,x2,x3,x4⟩:=three_blocks w (.cells ZP.toArray 37) (.cells ZS.toArray 3) (.cells #[.slice (some ⟨w.heap.size + 1,0,none⟩) m m, .slice (some ⟨w.heap.size,0,none⟩) m m, .slice none 0 0, .slice none 0 0] 146)
           exact xnew_done HS.out HP.out x3 x2 x1 (by omega) (by omega) (by omega) (by omega) (by omega) (by omega) x4)
        | (obtain ⟨x1,x2,x3,x4⟩:=three_blocks w (.cells ZS.toArray 3) (.cells ZP.toArray 37) (.cells #[.slice (some ⟨w.heap.size,0,none⟩) m m, .slice (some ⟨w.heap.size + 1,0,none⟩) m m, .slice none 0 0, .slice none 0 0] 146)
           exact xnew_done HS.out HP.out x3 x1 x2 (by omega) (by omega) (by omega) (by omega) (by omega) (by omega) x4))
  · have e1:((m:Nat):Int) = 1000:=by omega
    rw [e1] at mk1 mk2
    clear e1 hm1
    go_enter Tryz.func96,Tryz.ntmps96
    go_wp2_with fail
    go_region
    all_goals (
      go_wp2
      go_ret
      first
        | (obtain ⟨x1,x2,x3,x4⟩:=three_blocks w (.cells ZP.toArray 37) (.cells ZS.toArray 3) (.cells #[.slice (some ⟨w.heap.size + 1,0,none⟩) m m, .slice (some ⟨w.heap.size,0,none⟩) m m, .slice none 0 0, .slice none 0 0] 146)
           exact xnew_done HS.out HP.out x3 x2 x1 (by omega) (by omega) (by omega) (by omega) (by omega) (by omega) x4)
        | (obtain ⟨x1,x2,x3,x4⟩:=three_blocks w (.cells ZS.toArray 3) (.cells ZP.toArray 37) (.cells #[.slice (some ⟨w.heap.size,0,none⟩) m m, .slice (some ⟨w.heap.size + 1,0,none⟩) m m, .slice none 0 0, .slice none 0 0] 146)
           exact xnew_done HS.out HP.out x3 x1 x2 (by omega) (by omega) (by omega) (by omega) (by omega) (by omega) x4))
end Go.Proofs.YtimdkcchjanpaaaGreatDoor
namespace Go.Proofs.YtimdkcchjanpaaaGreatDoor
open Go.RowKit
set_option linter.unusedVariables false
def frz:Fr:=⟨0,0,0,ByteArray.mk #[]⟩
end Go.Proofs.YtimdkcchjanpaaaGreatDoor
namespace Go.Proofs.YtimdkcchjanpaaaGreatDoor
open Go.RowKit
set_option linter.unusedVariables false
def Bx.key (s:Bx) (i:Int):Int:=keyG (s.P.getD i.toNat pk0).f
def Bx.best (s:Bx):Nat → Int
  | 0 => -1
  | k + 1 => if s.best k < 0 ∨ s.key (s.ord.getD k 0) < s.key (s.best k) then s.ord.getD k 0 else s.best k
def Bx.ordOk (s:Bx):Prop := ∀ x ∈ s.ord,0 ≤ x ∧ x < s.S.length
theorem Bx.best_rng {s:Bx} (h:s.ordOk):∀ k,k ≤ s.ord.length → -1 ≤ s.best k ∧ s.best k < s.S.length
  | 0,_ => by unfold Bx.best; exact ⟨Int.le_refl _,by omega⟩
  | k + 1,hk => by
    have h1:=Bx.best_rng h k (by omega)
    have h2:0 ≤ s.ord.getD k 0 ∧ s.ord.getD k 0 < s.S.length:=by
      rw [List.getD_eq_getElem?_getD,List.getElem?_eq_getElem (by omega)]
      exact h _ (List.getElem_mem _)
    unfold Bx.best
    split <;> omega
theorem BxM.frame {w:World} {b gs gp:Nat} {vo ve:Value} {s:Bx} (h:BxM w b gs gp vo ve s) {n:Nat} (hn:n < s.S.length) :
    w.cell? ⟨gp,n * 7,none⟩ = some (.int .i64 (s.P.getD n pk0).f.i) ∧ w.cell? ⟨gp,n * 7 + 1,none⟩ = some (.int .i64 (s.P.getD n pk0).f.n) ∧ w.cell? ⟨gp,n * 7 + 2,none⟩ = some (.int .i64 (s.P.getD n pk0).f.l) ∧ w.cell? ⟨gp,n * 7 + 3,none⟩ = some (.string (s.P.getD n pk0).f.d):=by
  obtain ⟨p,hp⟩:∃ p,s.P[n]? = some p:=⟨_,List.getElem?_eq_getElem (by rw [h.len]; exact hn)⟩
  rw [List.getD_eq_getElem?_getD,hp]
  exact ⟨h.packet hp 0 _ rfl,h.packet hp 1 _ rfl,h.packet hp 2 _ rfl,h.packet hp 3 _ rfl⟩
theorem xbest_v {v:Value} {s:Bx} {O:Nat → Prop} (w:World) (h:BxD w v s O) (ho:s.ordOk) (hl:s.S.length ≤ 1000) (hol:s.ord.length ≤ 100000):Calls Tryz.prog 90 #[v] w fun e w' => e = .returned (.int .i64 (s.best s.ord.length)) ∧ Below w.heap.size w w':=by
  obtain ⟨b,gs,gp,vo,ve,rfl,rfl,h⟩:=h
  have H:=Lib.hid h
  have HO:=Lib.hid ho
  obtain ⟨AO,co,hv⟩:=h.ord.shape
  subst hv
  have hol2:(s.ord.length:Int) ≤ 100000:=by omega
  have hl2:(s.S.length:Int) ≤ 1000:=by omega
  clear h ho
  have HB0:=Lib.hid (Below.refl w.heap.size w)
  go_enter Tryz.func90,Tryz.ntmps90
  go_wp2_with fail
  go_loopw [3,4] (fun m i wr => ∃ k:Nat,k ≤ s.ord.length ∧ i = .int .i64 k ∧ m = .int .i64 (s.best k) ∧ Hid (Below w.heap.size w wr)) (fun _ i _ => s.ord.length - (intOf i).toNat)
  case atStart => exact ⟨0,by omega,rfl,rfl,HB0⟩
  case round =>
    obtain ⟨k,hk,rfl,rfl,HB⟩:=hrel
    have HM:=Lib.hid (H.out.later HB.out)
    obtain ⟨c0,c1,c2,c3⟩:=HM.out.cells
    have hb:=heap_some_lt HM.out.box
    by_cases hlt:k < s.ord.length
    · have hkl:(k:Int) < (s.ord.length:Int):=by omega
      obtain ⟨x,cx,hv1,hxb,hcell⟩:=SlG.at_ (HM.out.ord.sl inC_len (by unfold maxLen; omega)) hlt
      injection hv1 with hAA _ hcap
      subst hAA hcap
      have a0:wr.cell? (x.add (k * 1)) = some (.int .i64 (s.ord[k]'hlt)):=hcell 0 _ rfl
      rw [Nat.mul_one] at a0
      obtain ⟨y1,y2⟩:=HO.out _ (List.getElem_mem hlt)
      have hgd:s.ord.getD k 0 = s.ord[k]'hlt:=by rw [List.getD_eq_getElem?_getD,List.getElem?_eq_getElem hlt]; rfl
      have HSU:Hid (s.best (k + 1) = if s.best k < 0 ∨ s.key (s.ord[k]'hlt) < s.key (s.best k) then s.ord[k]'hlt else s.best k):=Lib.hid (by rw [← hgd]; rfl)
      obtain ⟨r1,r2⟩:=Bx.best_rng HO.out k (by omega)
      generalize s.ord[k]'hlt = o at a0 y1 y2 HSU
      obtain ⟨n,rfl⟩:∃ n:Nat,o = n:=⟨o.toNat,by omega⟩
      generalize s.best k = bk at r1 r2 HSU
      clear hcell hgd
      by_cases hneg:bk < 0
      · have HS2:Hid (s.best (k + 1) = n):=Lib.hid (by rw [HSU.out,if_pos (.inl hneg)])
        go_wp2
        go_quiet (fail)
        go_wp2
        go_roundw
        case rel => exact ⟨k + 1,by omega,by go_num,by rw [HS2.out],Lib.hid (fbelow_t HB.out (below_drewN (Below.refl _ _) _))⟩
        case measure => simp [intOf]; omega
      · obtain ⟨m,rfl⟩:∃ m:Nat,bk = m:=⟨bk.toNat,by omega⟩
        go_upto_region 6 with fail
        have hn0:(n:Int) < (s.S.length:Int):=by omega
        have hm0:(m:Int) < (s.S.length:Int):=by omega
        obtain ⟨p0,p1,p2,p3⟩:=HM.out.frame (n:=n) (by omega)
        obtain ⟨q0,q1,q2,q3⟩:=HM.out.frame (n:=m) (by omega)
        have hgp:=heap_some_lt HM.out.pk
        obtain ⟨kn,hkn⟩:∃ z,s.key n = z:=⟨_,rfl⟩
        obtain ⟨km,hkm⟩:∃ z,s.key m = z:=⟨_,rfl⟩
        rw [hkn,hkm] at HSU
        have HKN:Hid (keyG (s.P.getD n pk0).f = kn):=Lib.hid (by rw [← hkn]; rfl)
        have HKM:Hid (keyG (s.P.getD m pk0).f = km):=Lib.hid (by rw [← hkm]; rfl)
        generalize (s.P.getD n pk0).f = fn at p0 p1 p2 p3 HKN
        generalize (s.P.getD m pk0).f = fm at q0 q1 q2 q3 HKM
        clear hkn hkm
        have hcl:∀ (n:Later wr) (b o:Nat),b < wr.heap.size → n.w.cell? ⟨b,o,none⟩ = wr.cell? ⟨b,o,none⟩:=later_cells wr
        refine wp_region_sec 22 [] (fun _ _ _ => True) (fun _ _ _ _ _ _ => True.intro) (by kernel_rfl) (by kernel_rfl) (by kernel_rfl) (by kernel_rfl) (by kernel_rfl) ?_
        simp only [List.take_succ_cons,List.take_zero,List.drop_succ_cons,List.drop_zero]
        repeat ((first | refine sec_plain (by rfl) (by rfl) (by rfl) (by rfl) ?_ | refine sec_nil (by rfl) (by rfl) (by rfl) (by rfl) (by rfl) ?_); intro K hK; go_big_quiet_op; go_big_quiet_on)
        refine sec_call (v := .int .i64 kn) (by rfl) (by rfl) (by rfl) (by rfl) (by rfl) ?_ ?_
        · intro q K hK
          go_big_quiet_op
          exact ⟨_,fun q2 => Later.call (rkey_v HKN.out _),hK⟩
        simp only [Act.put,List.setIfInBounds_toArray,List.set_cons_succ,List.set_cons_zero]
        repeat ((first | refine sec_plain (by rfl) (by rfl) (by rfl) (by rfl) ?_ | refine sec_nil (by rfl) (by rfl) (by rfl) (by rfl) (by rfl) ?_); intro K hK; go_big_quiet_op; go_big_quiet_on)
        refine sec_call (v := .int .i64 km) (by rfl) (by rfl) (by rfl) (by rfl) (by rfl) ?_ ?_
        · intro q K hK
          go_big_quiet_op
          exact ⟨_,fun q2 => Later.call (rkey_v HKM.out _),hK⟩
        simp only [Act.put,List.setIfInBounds_toArray,List.set_cons_succ,List.set_cons_zero]
        repeat ((first | refine sec_plain (by rfl) (by rfl) (by rfl) (by rfl) ?_ | refine sec_nil (by rfl) (by rfl) (by rfl) (by rfl) (by rfl) ?_); intro K hK; go_big_quiet_op; go_big_quiet_on)
        intro xs m9 hF
        simp only [secFill]
        clear hF xs hcl a0 c0 c1 c2 c3 hb p0 p1 p2 p3 q0 q1 q2 q3
        have HB9:=Lib.hid (fbelow_t HB.out m9.h)
        generalize m9.w = w9 at HB9 ⊢
        by_cases hkk:kn < km
        · have HS2:Hid (s.best (k + 1) = n):=Lib.hid (by rw [HSU.out,if_pos (.inr hkk)])
          go_wp2
          go_roundw
          case rel => exact ⟨k + 1,by omega,by go_num,by rw [HS2.out],HB9⟩
          case measure => simp [intOf]; omega
        · have HS2:Hid (s.best (k + 1) = m):=Lib.hid (by rw [HSU.out,if_neg (by omega)])
          go_wp2
          go_roundw
          case rel => exact ⟨k + 1,by omega,by go_num,by rw [HS2.out],HB9⟩
          case measure => simp [intOf]; omega
    · obtain rfl:k = s.ord.length:=by omega
      go_wp2
      go_ret
      exact ⟨rfl,HB.out⟩
end Go.Proofs.YtimdkcchjanpaaaGreatDoor
