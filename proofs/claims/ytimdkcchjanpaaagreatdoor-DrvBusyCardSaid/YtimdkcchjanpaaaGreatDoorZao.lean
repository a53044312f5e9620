/- Ring, the code, rows of frames within a greater block: Take. Ring, the code, rows of frames within a greater block: Put. Box: what the walks ask of the code. .. -/
import Derived.Test.YtimdkcchjanpaaaGreatDoorZam
import Derived.Test.YtimdkcchjanpaaaGreatDoorZai
import Derived.Test.YtimdkcchjanpaaaGreatDoorZan
import Derived.Lib.SliceRun
import Derived.Deep.RegionWith
import Derived.Test.YtimdkcchjanpaaaGreatDoorZad
import Derived.Deep.Cut
import Derived.Test.YtimdkcchjanpaaaGreatDoorZaf
import Derived.Test.YtimdkcchjanpaaaGreatDoorZah
import Derived.Test.YtimdkcchjanpaaaGreatDoorZak
set_option maxHeartbeats 8000000
namespace Go.Proofs.YtimdkcchjanpaaaGreatDoor
open Go.RowKit
set_option linter.unusedVariables false
variable {TB:TypeId} {o:Nat} {X Y:List Value}
theorem RfW.setNew {O:Nat → Prop} {w0 w:World} {b g:Nat} {S:List Fr} {f l m n:Int} (h:RfW TB o X Y O w0 w b g S f l m n) {k:Nat} (hk:w0.heap.size ≤ k) (hb:k ≠ b) (hg:k ≠ g) (j:Nat) (u:Value):RfW TB o X Y O w0 (w.setCell ⟨k,j,none⟩ u) b g S f l m n :=
  ⟨(Below.heap_setCell w ⟨k,j,none⟩ u b (fun e => hb e.symm)).trans h.box,h.off,(Below.heap_setCell w ⟨k,j,none⟩ u g (fun e => hg e.symm)).trans h.row,h.gb,h.kept.setNew (p:=⟨k,j,none⟩) hk u,h.ob,h.og⟩
theorem rftake_f {w:World} {v:Value} {m n:Nat} {O:Nat → Prop} (h:RfI TB o X Y w v ⟨[],m,n⟩ O):Calls Tryz.prog 135 #[v] w fun e w' => e = .returned (.tuple #[frV fr0, .int .i64 6]) ∧ Stp (RfI TB o X Y) v O w ⟨[],m,n⟩ w':=by
  have H:=Lib.hid h
  clear h
  go_enter Tryz.func135,Tryz.ntmps135
  go_wp2_with fail
  have hb0:=(Below.refl w.heap.size w).alloc (Nat.le_refl _) zfO
  refine (rfpeek_f ((rfI_obj TB o X Y).stay H.out (fun k hk => hb0.block k ((rfI_obj TB o X Y).lt H.out k hk)))).mono ?_
  rintro e w1 ⟨rfl,hb1⟩
  have HB1:=Lib.hid (fbelow_t hb0 hb1)
  have HF1:=Lib.hid ((BoxF.made w 0 0 0 (ByteArray.mk #[])).later hb1)
  have z1:w.heap.size < w1.heap.size:=HF1.out.lt
  obtain ⟨d0,d1,d2,d3⟩:=HF1.out.cells
  have ff:∀ j,w1.frozen? ⟨w.heap.size,j,none⟩ = false:=fun j => Lib.frozen_of_heap HF1.out j
  clear hb0 hb1
  have HP:Hid (BoxF (((((w1.setCell ⟨w.heap.size,0,none⟩ (.int .i64 0)).setCell ⟨w.heap.size,1,none⟩ (.int .i64 0)).setCell ⟨w.heap.size,2,none⟩ (.int .i64 0)).setCell ⟨w.heap.size,3,none⟩ (.string (ByteArray.mk #[]))).alloc zfO) w.heap.size 0 0 0 (ByteArray.mk #[])):=Lib.hid (BoxF.later (boxF_set HF1.out) ((Below.refl _ _).alloc (Nat.le_refl _) _))
  have HPB:Hid (Below w.heap.size w (((((w1.setCell ⟨w.heap.size,0,none⟩ (.int .i64 0)).setCell ⟨w.heap.size,1,none⟩ (.int .i64 0)).setCell ⟨w.heap.size,2,none⟩ (.int .i64 0)).setCell ⟨w.heap.size,3,none⟩ (.string (ByteArray.mk #[]))).alloc zfO)):=Lib.hid (fbelow_t (boxF_below HB1.out (Nat.le_refl _)) ((Below.refl _ _).alloc (Nat.le_refl _) _))
  go_wp2
  obtain ⟨g0,g1,g2,g3⟩:=HP.out.cells
  refine bodyPost_ret (v := .tuple #[frV fr0, .int .i64 6]) ?_ rfl ⟨rfl,O,(rfI_obj TB o X Y).stay H.out (fun k hk => HPB.out.block k ((rfI_obj TB o X Y).lt H.out k hk)),Kept.of_below HPB.out,Grows.refl _ _⟩
  simp [results,Tryz.results135,go_sem,g0,g1,g2,g3]
theorem rftake_t {w:World} {v:Value} {x:Fr} {L:List Fr} {m n:Nat} {O:Nat → Prop} (h:RfI TB o X Y w v ⟨x :: L,m,n⟩ O):Calls Tryz.prog 135 #[v] w fun e w' => e = .returned (.tuple #[frV x, .int .i64 0]) ∧ Stp (RfI TB o X Y) v O w ⟨L,m,n⟩ w':=by
  have HI:=Lib.hid h
  obtain ⟨b,p,S,f,rfl,rfl,h⟩:=h
  rcases h.row with ⟨rfl,rfl,rfl⟩ | ⟨g,rfl,_,_,hf⟩
  · have:=h.len; simp at this
  have H:=Lib.hid h
  have hz:S.length ≤ 1000:=Nat.le_trans h.fit h.hi
  obtain ⟨k,hk⟩:∃ k,S.length = k:=⟨_,rfl⟩
  have HK:=Lib.hid hk
  rw [hk] at hf hz
  clear h hk
  go_enter Tryz.func135,Tryz.ntmps135
  go_wp2_with fail
  have hb0:=(Below.refl w.heap.size w).alloc (Nat.le_refl _) zfO
  refine (rfpeek_t ((rfI_obj TB o X Y).stay HI.out (fun k hk => hb0.block k ((rfI_obj TB o X Y).lt HI.out k hk)))).mono ?_
  rintro e w1 ⟨rfl,hb1⟩
  have HB1:=Lib.hid (fbelow_t hb0 hb1)
  have hbx:=(Below.refl w1.heap.size w1).alloc (Nat.le_refl _) (.cells #[.int .i64 x.i, .int .i64 x.n, .int .i64 x.l, .string x.d] 35)
  have HF1:=Lib.hid (((BoxF.made w 0 0 0 (ByteArray.mk #[])).later hb1).later hbx)
  have HX1:=Lib.hid (BoxF.made w1 x.i x.n x.l x.d)
  have HB2:=Lib.hid (fbelow_t HB1.out hbx)
  have z1:w.heap.size < w1.heap.size:=((BoxF.made w 0 0 0 (ByteArray.mk #[])).later hb1).lt
  obtain ⟨l,hl⟩:∃ l,(x :: L).length = l:=⟨_,rfl⟩
  have HL:=Lib.hid hl
  have HW:Hid (RfW TB o X Y (rgO b (some ⟨g,0,none⟩)) w (w1.alloc (.cells #[.int .i64 x.i, .int .i64 x.n, .int .i64 x.l, .string x.d] 35)) b g S (f:Int) (l:Int) m n):=Lib.hid (by rw [← hl]; exact H.out.mid.1.later HB2.out)
  clear hl hb0 hb1 hbx
  obtain ⟨a0,a1,a2,a3,a4⟩:=HW.out.cells
  rw [HK.out] at a0
  have zb:b < w.heap.size:=H.out.blt
  have zg:g < w.heap.size:=H.out.lt g (.inr ⟨_,rfl,rfl⟩)
  generalize hw2:w1.alloc (.cells #[.int .i64 x.i, .int .i64 x.n, .int .i64 x.l, .string x.d] 35) = w2 at HW HF1 HX1 HB2 a0 a1 a2 a3 a4
  have hb:=HW.out.blt
  have hg:=HW.out.glt
  go_upto_region 4 with fail
  clear hw2
  have hcl:∀ (n:Later w2) (b o:Nat),b < w2.heap.size → n.w.cell? ⟨b,o,none⟩ = w2.cell? ⟨b,o,none⟩:=later_cells w2
  refine wp_region_sec 14 [] (fun _ _ _ => True) (fun _ _ _ _ _ _ => True.intro) (by kernel_rfl) (by kernel_rfl) (by kernel_rfl) (by kernel_rfl) (by kernel_rfl) ?_
  simp only [List.take_succ_cons,List.take_zero,List.drop_succ_cons,List.drop_zero]
  repeat ((first | refine sec_plain (by rfl) (by rfl) (by rfl) (by rfl) ?_ | refine sec_nil (by rfl) (by rfl) (by rfl) (by rfl) (by rfl) ?_); intro K hK; go_big_quiet_op; go_big_quiet_on)
  intro xs m9 hF
  simp only [secFill]
  clear hF xs hcl
  have HW2:=Lib.hid (HW.out.later m9.h)
  have HF2:=Lib.hid (HF1.out.later m9.h)
  have HX2:=Lib.hid (HX1.out.later m9.h)
  have HB3:=Lib.hid (fbelow_t HB2.out m9.h)
  generalize m9.w = w3 at HW2 HF2 HX2 HB3 ⊢
  clear a0 a1 a2 a3 a4 hb hg
  have hx2:S[f]? = some x:=round_first (by rw [HK.out]; exact hf) H.out.mem
  obtain ⟨y0,y1,y2,y3⟩:=HW2.out.slot hx2
  have yl:=HW2.out.liveG
  refine wpList_clearK rfl (.tmp 28) 79 35 rfl Tryz.underlying79 _ zero_rf _ zero_rfC (frC_oneC fr0) g (f * 4) (k - f) rfl (fun j hj => ?_) (fun j _ => yl _) ?_
  · have hj4:j < 4:=hj
    rcases (by omega:j = 0 ∨ j = 1 ∨ j = 2 ∨ j = 3) with rfl | rfl | rfl | rfl
    · rw [Nat.add_zero,y0]; rfl
    · rw [y1]; rfl
    · rw [y2]; rfl
    · rw [y3]; rfl
  have hset:w3.setCells g (f * 4) (frC fr0) = putS w3 g f fr0:=rfl
  rw [hset]
  have zx:w.heap.size ≠ w1.heap.size:=by omega
  have HW3:=Lib.hid (HW2.out.setSlot (i:=f) (by rw [HK.out]; exact hf) fr0)
  have HF3:Hid (BoxF (putS w3 g f fr0) w.heap.size 0 0 0 (ByteArray.mk #[])):=Lib.hid ((putS_other (by omega)).trans HF2.out)
  have HX3:Hid (BoxF (putS w3 g f fr0) w1.heap.size x.i x.n x.l x.d):=Lib.hid ((putS_other (by omega)).trans HX2.out)
  clear y0 y1 y2 y3 yl hset
  generalize putS w3 g f fr0 = w4 at HW3 HF3 HX3 ⊢
  obtain ⟨a0,a1,a2,a3,a4⟩:=HW3.out.cells
  rw [List.length_set,HK.out] at a0
  have f1:=HW3.out.live (o + 1)
  have f2:=HW3.out.live (o + 2)
  have hb:=HW3.out.blt
  have hzr:(f + 1) % k < k:=Nat.mod_lt _ (by omega)
  obtain ⟨r,hr⟩:∃ r,(f + 1) % k = r:=⟨_,rfl⟩
  rw [hr] at hzr
  have HR:=Lib.hid (And.intro hr hzr)
  have hl1:1 ≤ l:=by have:=HL.out; simp at this; omega
  have hl2:l ≤ 1000:=by have:=H.out.len; have e:=HL.out; have e2:=HK.out; simp only at this; omega
  go_wp2_with fail
  refine (rfslot_v (i:=1) hf hz (by omega) hb a0 a1 hr).mono ?_
  clear hr hzr hx2
  rintro e w5 ⟨rfl,k2,rfl⟩
  have HW4:=Lib.hid (HW3.out.drewN k2)
  have HF4:Hid (BoxF (w4.drewN k2) w.heap.size 0 0 0 (ByteArray.mk #[])):=Lib.hid HF3.out
  have HX4:Hid (BoxF (w4.drewN k2) w1.heap.size x.i x.n x.l x.d):=Lib.hid HX3.out
  generalize w4.drewN k2 = w6 at HW4 HF4 HX4 ⊢
  clear a0 a1 a2 a3 a4 f1 f2 hb
  obtain ⟨a0,a1,a2,a3,a4⟩:=HW4.out.cells
  have f1:=HW4.out.live (o + 1)
  have f2:=HW4.out.live (o + 2)
  go_upto_region 7 with fail
  have HW7:=Lib.hid ((HW4.out.setF (r:Int)).setL ((l:Int) - 1))
  have HF7:Hid (BoxF ((w6.setCell ⟨b,o + 1,none⟩ (.int .i64 (r:Int))).setCell ⟨b,o + 2,none⟩ (.int .i64 ((l:Int) - 1))) w.heap.size 0 0 0 (ByteArray.mk #[])):=Lib.hid (((Below.heap_setCell _ _ _ _ (by simp only; omega)).trans (Below.heap_setCell _ _ _ _ (by simp only; omega))).trans HF4.out)
  have HX7:Hid (BoxF ((w6.setCell ⟨b,o + 1,none⟩ (.int .i64 (r:Int))).setCell ⟨b,o + 2,none⟩ (.int .i64 ((l:Int) - 1))) w1.heap.size x.i x.n x.l x.d):=Lib.hid (((Below.heap_setCell _ _ _ _ (by simp only; omega)).trans (Below.heap_setCell _ _ _ _ (by simp only; omega))).trans HX4.out)
  clear a0 a1 a2 a3 a4 f1 f2
  generalize ((w6.setCell ⟨b,o + 1,none⟩ (.int .i64 (r:Int))).setCell ⟨b,o + 2,none⟩ (.int .i64 ((l:Int) - 1))) = w7 at HW7 HF7 HX7 ⊢
  obtain ⟨d0,d1,d2,d3⟩:=HF7.out.cells
  obtain ⟨x0,x1,x2,x3⟩:=HX7.out.cells
  have ff:∀ j,w7.frozen? ⟨w.heap.size,j,none⟩ = false:=fun j => Lib.frozen_of_heap HF7.out j
  have HP:Hid (BoxF ((((w7.setCell ⟨w.heap.size,0,none⟩ (.int .i64 x.i)).setCell ⟨w.heap.size,1,none⟩ (.int .i64 x.n)).setCell ⟨w.heap.size,2,none⟩ (.int .i64 x.l)).setCell ⟨w.heap.size,3,none⟩ (.string x.d)) w.heap.size x.i x.n x.l x.d):=Lib.hid (boxF_set HF7.out)
  have HWP:=Lib.hid ((((HW7.out.setNew (k:=w.heap.size) (Nat.le_refl _) (by omega) (by omega) 0 (.int .i64 x.i)).setNew (k:=w.heap.size) (Nat.le_refl _) (by omega) (by omega) 1 (.int .i64 x.n)).setNew (k:=w.heap.size) (Nat.le_refl _) (by omega) (by omega) 2 (.int .i64 x.l)).setNew (k:=w.heap.size) (Nat.le_refl _) (by omega) (by omega) 3 (.string x.d))
  go_wp2
  obtain ⟨g0,g1,g2,g3⟩:=HP.out.cells
  refine bodyPost_ret (v := .tuple #[frV x, .int .i64 0]) ?_ rfl ⟨rfl,HWP.out.stp rfl ?_ rfl rfl ?_ ?_ ?_ H.out.lo H.out.hi ?_⟩
  · simp [results,Tryz.results135,go_sem,g0,g1,g2,g3]
  · have:=HL.out; simp at this; omega
  · rw [List.length_set,HK.out]; exact HR.out.2
  · have:=H.out.len; rw [List.length_set]; simp at this; omega
  · rw [List.length_set]; exact H.out.fit
  · rw [← HR.out.1,← HK.out]
    exact round_take (by rw [HK.out]; exact hf) H.out.len H.out.mem fr0
end Go.Proofs.YtimdkcchjanpaaaGreatDoor
namespace Go.Proofs.YtimdkcchjanpaaaGreatDoor
open Go.RowKit
set_option linter.unusedVariables false
variable {TB:TypeId} {o:Nat} {X Y:List Value}
theorem rfput_f {w:World} {v:Value} {s:Rg Fr} {O:Nat → Prop} (x:Fr) (h:RfI TB o X Y w v s O) (hm:s.L.length = s.m) (hn:s.n ≤ 1000000):Calls Tryz.prog 102 #[v,frV x] w fun e w' => e = .returned (.bool false) ∧ Stp (RfI TB o X Y) v O w ⟨s.L,s.m,s.n + 1⟩ w':=by
  obtain ⟨b,p,S,f,rfl,rfl,h⟩:=h
  obtain ⟨L,m,n⟩:=s
  simp only at hm hn ⊢
  rcases h.row with ⟨rfl,rfl,rfl⟩ | ⟨g,rfl,_,_,hf⟩
  · have h1:=h.len; have h2:=h.lo; simp at h1 h2; rw [h1] at hm; simp at hm; omega
  have H:=Lib.hid h
  have hb0:=(Below.refl w.heap.size w).alloc (Nat.le_refl _) (.cells #[.int .i64 x.i, .int .i64 x.n, .int .i64 x.l, .string x.d] 35)
  have hx0:=BoxF.made w x.i x.n x.l x.d
  obtain ⟨w0,e0⟩:∃ w0,w.alloc (.cells #[.int .i64 x.i, .int .i64 x.n, .int .i64 x.l, .string x.d] 35) = w0:=⟨_,rfl⟩
  rw [e0] at hb0 hx0
  have HX0:=Lib.hid hx0
  have HB0:=Lib.hid hb0
  have HW:=Lib.hid (h.mid.1.later hb0)
  obtain ⟨a0,a1,a2,a3,a4⟩:=HW.out.cells
  have f4:=HW.out.live (o + 4)
  have hb:=HW.out.blt
  have hz:m ≤ 1000:=h.hi
  simp only [hm] at a2 a3 a4
  have HM:=Lib.hid hm
  clear h hm hb0 hx0
  go_enter Tryz.func102,Tryz.ntmps102
  go_wp2
  go_quiet (fail)
  go_wp2
  go_ret
  exact ⟨rfl,((HW.out.drewN nq).setN ((n:Int) + 1)).stp rfl rfl rfl (by simp) hf H.out.len H.out.fit H.out.lo H.out.hi H.out.mem⟩
theorem rfput_x {w:World} {b g f m n:Nat} {S L:List Fr} (x:Fr) (h:RfM TB o X Y w b (some ⟨g,0,none⟩) S f ⟨L,m,n⟩) (hl:L.length < S.length):Calls Tryz.prog 102 #[.pointer (some ⟨b,o,none⟩),frV x] w fun e w' => e = .returned (.bool true) ∧ Stp (RfI TB o X Y) (.pointer (some ⟨b,o,none⟩)) (rgO b (some ⟨g,0,none⟩)) w ⟨L ++ [x],m,n⟩ w':=by
  have H:=Lib.hid h
  obtain ⟨h1,hf⟩:=h.mid
  have hb0:=(Below.refl w.heap.size w).alloc (Nat.le_refl _) (.cells #[.int .i64 x.i, .int .i64 x.n, .int .i64 x.l, .string x.d] 35)
  have hx0:=BoxF.made w x.i x.n x.l x.d
  obtain ⟨w0,e0⟩:∃ w0,w.alloc (.cells #[.int .i64 x.i, .int .i64 x.n, .int .i64 x.l, .string x.d] 35) = w0:=⟨_,rfl⟩
  rw [e0] at hb0 hx0
  have HX0:=Lib.hid hx0
  have HB0:=Lib.hid hb0
  have HW:=Lib.hid (h1.later hb0)
  simp only at HW
  obtain ⟨l,hll⟩:∃ l,L.length = l:=⟨_,rfl⟩
  obtain ⟨k,hk⟩:∃ k,S.length = k:=⟨_,rfl⟩
  have HL:=Lib.hid hll
  have HK:=Lib.hid hk
  obtain ⟨a0,a1,a2,a3,a4⟩:=HW.out.cells
  have hb:=HW.out.blt
  have hkm:k ≤ m:=by rw [← hk]; exact h.fit
  have hz:m ≤ 1000:=h.hi
  rw [hk] at a0 hl hf
  rw [hll] at a2 hl
  rw [hll] at HW
  clear h h1 hk hll hb0 hx0
  go_enter Tryz.func102,Tryz.ntmps102
  have hlm:¬ (m:Int) ≤ (l:Int):=by omega
  have hlk:((l:Int) == (k:Int)) = false:=by simp; omega
  go_wp2
  go_quiet (fail)
  go_wp2
  go_quiet (fail)
  go_upto_region 9 with fail
  have hzr:(f + l) % k < k:=Nat.mod_lt _ (by omega)
  obtain ⟨r,hr⟩:∃ r,(f + l) % k = r:=⟨_,rfl⟩
  rw [hr] at hzr
  have HR:=Lib.hid hr
  clear hlk
  generalize hwd:(w0.drewN _).drewN _ = wd
  have HWD:=Lib.hid (hwd ▸ (HW.out.drewN _).drewN _)
  have HXD:Hid (BoxF wd w.heap.size x.i x.n x.l x.d):=Lib.hid (by rw [← hwd]; exact HX0.out)
  clear hwd a0 a1 a2 a3 a4 e0
  clear hb
  obtain ⟨a0,a1,a2,a3,a4⟩:=HWD.out.cells
  obtain ⟨d0,d1,d2,d3⟩:=HXD.out.cells
  have hb:=HWD.out.blt
  have hxb:=HXD.out.lt
  rw [HK.out] at a0
  have hcl:∀ (n:Later wd) (b o:Nat),b < wd.heap.size → n.w.cell? ⟨b,o,none⟩ = wd.cell? ⟨b,o,none⟩:=later_cells wd
  have HCS:Hid (∀ (q:Later wd),Calls Tryz.prog 134 #[.pointer (some ⟨b,o,none⟩), .int .i64 (l:Int)] q.w (Reads q.w (.int .i64 (r:Int)))) :=
    Lib.hid (fun q => rfslot_v (i:=l) hf (by omega) (by omega) (Nat.lt_of_lt_of_le hb q.h.size) ((hcl q b o hb).trans a0) ((hcl q b (o + 1) hb).trans a1) hr)
  clear hr
  refine wp_region_sec 12 [] (fun _ _ _ => True) (fun _ _ _ _ _ _ => True.intro) (by kernel_rfl) (by kernel_rfl) (by kernel_rfl) (by kernel_rfl) (by kernel_rfl) ?_
  simp only [List.take_succ_cons,List.take_zero,List.drop_succ_cons,List.drop_zero]
  repeat ((first | refine sec_plain (by rfl) (by rfl) (by rfl) (by rfl) ?_ | refine sec_nil (by rfl) (by rfl) (by rfl) (by rfl) (by rfl) ?_); intro K hK; go_big_quiet_op; go_big_quiet_on)
  refine sec_call (v := .int .i64 (r:Int)) (by rfl) (by rfl) (by rfl) (by rfl) (by rfl) ?_ ?_
  · intro q K hK
    go_big_quiet_op
    exact ⟨_,fun q2 => Later.drew (HCS.out ⟨q2.w,fbelow_t q.h q2.h⟩),hK⟩
  simp only [Act.put,List.setIfInBounds_toArray,List.set_cons_succ,List.set_cons_zero]
  repeat (refine sec_plain (by rfl) (by rfl) (by rfl) (by rfl) ?_; intro K hK; go_big_quiet_op; go_big_quiet_on)
  intro xs m9 hF
  simp only [secFill]
  clear hF xs hcl a0 a1 a2 a3 a4 hb d0 d1 d2 d3 hxb
  have HW2:=Lib.hid (HWD.out.later m9.h)
  generalize m9.w = w2 at HW2 ⊢
  obtain ⟨y,hy⟩:∃ y,S[r]? = some y:=⟨_,List.getElem?_eq_getElem (by rw [HK.out]; exact hzr)⟩
  obtain ⟨y0,y1,y2,y3⟩:=HW2.out.slot hy
  have yl:=HW2.out.liveG
  have HS2:=Lib.hid (HW2.out.setSlot (i:=r) (by rw [HK.out]; exact hzr) x)
  obtain ⟨wp,ep⟩:∃ wp,putS w2 g r x = wp:=⟨_,rfl⟩
  rw [ep] at HS2
  have hfold:(((w2.setCell ⟨g,r * 4,none⟩ (.int .i64 x.i)).setCell ⟨g,r * 4 + 1,none⟩ (.int .i64 x.n)).setCell ⟨g,r * 4 + 2,none⟩ (.int .i64 x.l)).setCell ⟨g,r * 4 + 3,none⟩ (.string x.d) = wp:=ep
  obtain ⟨a0,a1,a2,a3,a4⟩:=HS2.out.cells
  have f2:=HS2.out.live (o + 2)
  have hgb:=HW2.out.gb
  have hb:=HS2.out.blt
  have hg:=HW2.out.glt
  clear hy ep
  go_wp2
  go_ret
  refine ⟨rfl,(HS2.out.setL ((l:Int) + 1)).stp rfl ?_ rfl rfl ?_ ?_ ?_ H.out.lo H.out.hi ?_⟩
  · rw [List.length_append]; simp [HL.out]
  · rw [List.length_set,HK.out]; exact hf
  · rw [List.length_append,List.length_set,HL.out,HK.out]; exact hl
  · rw [List.length_set]; exact H.out.fit
  · rw [← HR.out,← HK.out,← HL.out]
    exact round_put (by rw [HK.out]; exact hf) (by rw [HK.out,HL.out]; exact hl) H.out.mem x
theorem rfgrown {w w':World} {b g k:Nat} {p:Option Addr} {S Z:List Fr} {f l m n:Nat} {L:List Fr} (h:RfM TB o X Y w b p S f ⟨L,m,n⟩) (hl:L.length = l) (hb:Below w.heap.size w w') (hg:w.heap.size ≤ g) (hX:Z.length = k) (hx:w'.heap[g]? = some (.cells (rowG frC Z).toArray 35 (0,0))) :
    RfW TB o X Y (rgO b p) w ((w'.setCell ⟨b,o,none⟩ (.slice (some ⟨g,0,none⟩) k k)).setCell ⟨b,o + 1,none⟩ (.int .i64 0)) b g Z 0 (l:Int) (m:Int) (n:Int):=by
  subst hX hl
  have h0:=(hb.block b h.blt).trans h.box
  have hgb:g ≠ b:=by have:=h.blt; omega
  have h1:=heap_setCell_same w' b (o + 0) _ _ (.slice (some ⟨g,0,none⟩) Z.length Z.length) h0
  have h2:=heap_setCell_same _ b (o + 1) _ _ (.int .i64 0) h1
  rw [setX h.off,setX h.off] at h2
  refine ⟨h2,h.off, ?_,hgb, ?_, .inl rfl, .inr hg⟩
  · exact (Below.heap_setCell _ ⟨b,o + 1,none⟩ _ g hgb).trans ((Below.heap_setCell w' ⟨b,o,none⟩ _ g hgb).trans hx)
  · exact ((Kept.of_below hb).setCell (p:=⟨b,o,none⟩) (.inl rfl) _).setCell (p:=⟨b,o + 1,none⟩) (.inl rfl) _
def NewF (W:World) (k:Nat) (Z:List Fr) (v:Value) (w:World):Prop := ∃ g,v = .slice (some ⟨g,0,none⟩) k k ∧ W.heap.size ≤ g ∧ w.heap[g]? = some (.cells (rowG frC Z).toArray 35 (0,0))
theorem NewF.later {W w w':World} {k:Nat} {Z:List Fr} {v:Value} (h:NewF W k Z v w) (hb:Below w.heap.size w w'):NewF W k Z v w':=by
  obtain ⟨g,h1,h2,h3⟩:=h
  exact ⟨g,h1,h2,(hb.block g (rheap_lt h3)).trans h3⟩
theorem rfput_g {w:World} {b f m n k:Nat} {p:Option Addr} {S L:List Fr} (x:Fr) (h:RfM TB o X Y w b p S f ⟨L,m,n⟩) (hl:L.length = S.length) (hm:L.length < m) (hk:k = min (2 * L.length + 1) m):Calls Tryz.prog 102 #[.pointer (some ⟨b,o,none⟩),frV x] w fun e w' => e = .returned (.bool true) ∧ Stp (RfI TB o X Y) (.pointer (some ⟨b,o,none⟩)) (rgO b p) w ⟨L ++ [x],m,n⟩ w':=by
  have H:=Lib.hid h
  obtain ⟨Z,hX⟩:∃ Z,L ++ List.replicate (k - L.length) fr0 = Z:=⟨_,rfl⟩
  have HXX:=Lib.hid hX
  obtain ⟨l,hll⟩:∃ l,L.length = l:=⟨_,rfl⟩
  have hz:m ≤ 1000:=h.hi
  have HK:Hid (Z.length = k):=Lib.hid (by rw [← hX,List.length_append,List.length_replicate]; omega)
  have HMEM:Hid (∀ i,i < L.length → Z[(0 + i) % Z.length]? = L[i]?):=Lib.hid (by rw [← hX]; exact round_new fr0 (by omega))
  have HFIT:Hid (Z.length ≤ m):=Lib.hid (by rw [HK.out]; omega)
  rw [hll] at hk hm
  have hlk:l < k:=by omega
  have hkm:k ≤ m:=by omega
  have HL:=Lib.hid hll
  have hb0:=(Below.refl w.heap.size w).alloc (Nat.le_refl _) (.cells #[.int .i64 x.i, .int .i64 x.n, .int .i64 x.l, .string x.d] 35)
  have hx0:=BoxF.made w x.i x.n x.l x.d
  obtain ⟨w0,e0⟩:∃ w0,w.alloc (.cells #[.int .i64 x.i, .int .i64 x.n, .int .i64 x.l, .string x.d] 35) = w0:=⟨_,rfl⟩
  rw [e0] at hb0 hx0
  have HX0:=Lib.hid hx0
  have HB0:=Lib.hid hb0
  have h0:=h.later hb0
  have hb:=h0.blt
  obtain ⟨a0,a1,a2,a3,a4⟩:=h0.cells
  rw [← hl,hll] at a0
  simp only [hll] at a2 a3
  clear h h0 hX hl hll hb0 hx0
  have HKK:=Lib.hid hk
  clear hk
  go_enter Tryz.func102,Tryz.ntmps102
  have hlm:¬ (m:Int) ≤ (l:Int):=by omega
  go_wp2
  go_quiet (fail)
  go_wp2
  go_quiet (fail)
  go_upto_region 7 with fail
  generalize hwd:(w0.drewN _).drewN _ = wd
  have HB:Hid (Below w.heap.size w wd):=Lib.hid (by rw [← hwd]; exact below_drewN (below_drewN HB0.out _) _)
  have HXD:Hid (BoxF wd w.heap.size x.i x.n x.l x.d):=Lib.hid (by rw [← hwd]; exact HX0.out)
  have HD:=Lib.hid (H.out.later HB.out)
  clear hwd a0 a1 a2 a3 a4 hb e0
  obtain ⟨a0,a1,a2,a3,a4⟩:=HD.out.cells
  have hb:=HD.out.blt
  simp only [HL.out] at a2 a3
  have hcl:∀ (n:Later wd) (b o:Nat),b < wd.heap.size → n.w.cell? ⟨b,o,none⟩ = wd.cell? ⟨b,o,none⟩:=later_cells wd
  refine wp_region_sec 14 [46] (fun _ v w' => NewF w k Z v w') (fun _ _ _ _ h hb => h.later hb) (by kernel_rfl) (by kernel_rfl) (by kernel_rfl) (by kernel_rfl) (by kernel_rfl) ?_
  simp only [List.take_succ_cons,List.take_zero,List.drop_succ_cons,List.drop_zero]
  repeat ((first | refine sec_plain (by rfl) (by rfl) (by rfl) (by rfl) ?_ | refine sec_nil (by rfl) (by rfl) (by rfl) (by rfl) (by rfl) ?_); intro K hK; go_big_quiet_op; go_big_quiet_on)
  have hkm2:(if (m:Int) < 2 * (l:Int) + 1 then (m:Int) else 2 * (l:Int) + 1) = (k:Int):=by
    rw [HKK.out]
    by_cases h:(m:Int) < 2 * (l:Int) + 1
    · rw [if_pos h,Nat.min_eq_right (by omega)]
    · rw [if_neg h,Nat.min_eq_left (by omega)]; omega
  refine sec_callF (f:=133) (args := #[.pointer (some ⟨b,o,none⟩), .int .i64 (k:Int)]) (by rfl) (by rfl) (by rfl) (by rfl) (by rfl) (fun w => by rw [← hkm2]; simp [go_sem]) ?_ ?_
  · intro q
    refine (rfcopied_v (HD.out.later q.h) (by rw [HL.out]; omega) (by omega)).mono ?_
    rintro e w4 ⟨g,rfl,hg1,hg2,hb2⟩
    refine ⟨_,rfl,hb2,g,rfl,Nat.le_trans HB.out.size (Nat.le_trans q.h.size hg1), ?_⟩
    rw [← HXX.out]; exact hg2
  clear hkm2
  simp only [Act.put,List.setIfInBounds_toArray,List.set_cons_succ,List.set_cons_zero]
  intro xs m9 hF
  obtain ⟨g,hxs,hg1,hg2⟩:=hF 46 (by simp)
  simp only [secFill,hxs]
  simp only [Act.put,List.setIfInBounds_toArray,List.set_cons_succ,List.set_cons_zero]
  clear hF hxs xs hcl a0 a1 a2 a3 a4 hb
  have HB2:=Lib.hid (fbelow_t HB.out m9.h)
  have HXE:=Lib.hid (HXD.out.later m9.h)
  generalize m9.w = w1 at HB2 HXE hg2 ⊢
  obtain ⟨a0,a1,a2,a3,a4⟩:=(H.out.later HB2.out).cells
  have f0:=(H.out.later HB2.out).live o
  have f1:=(H.out.later HB2.out).live (o + 1)
  have hb:=(H.out.later HB2.out).blt
  have hbw:=H.out.blt
  have HWD:=Lib.hid (rfgrown H.out HL.out HB2.out hg1 HK.out hg2)
  have HXD:Hid (BoxF ((w1.setCell ⟨b,o,none⟩ (.slice (some ⟨g,0,none⟩) k k)).setCell ⟨b,o + 1,none⟩ (.int .i64 0)) w.heap.size x.i x.n x.l x.d):=Lib.hid (((Below.heap_setCell _ _ _ _ (by simp only; omega)).trans (Below.heap_setCell _ _ _ _ (by simp only; omega))).trans HXE.out)
  clear hg2
  go_upto_region 9 with fail
  have hzr:(0 + l) % k < k:=Nat.mod_lt _ (by omega)
  obtain ⟨r,hr⟩:∃ r,(0 + l) % k = r:=⟨_,rfl⟩
  rw [hr] at hzr
  have HR:=Lib.hid hr
  clear a0 a1 a2 a3 a4 hb f0 f1
  generalize ((w1.setCell _ _).setCell _ _) = wd at HWD HXD ⊢
  obtain ⟨a0,a1,a2,a3,a4⟩:=HWD.out.cells
  obtain ⟨d0,d1,d2,d3⟩:=HXD.out.cells
  have hb:=HWD.out.blt
  have hxb:=HXD.out.lt
  rw [HK.out] at a0
  have hcl:∀ (n:Later wd) (b o:Nat),b < wd.heap.size → n.w.cell? ⟨b,o,none⟩ = wd.cell? ⟨b,o,none⟩:=later_cells wd
  have HCS:Hid (∀ (q:Later wd),Calls Tryz.prog 134 #[.pointer (some ⟨b,o,none⟩), .int .i64 (l:Int)] q.w (Reads q.w (.int .i64 (r:Int)))) :=
    Lib.hid (fun q => rfslot_v (f:=0) (i:=l) (by omega) (by omega) (by omega) (Nat.lt_of_lt_of_le hb q.h.size) ((hcl q b o hb).trans a0) ((hcl q b (o + 1) hb).trans a1) hr)
  clear hr
  refine wp_region_sec 12 [] (fun _ _ _ => True) (fun _ _ _ _ _ _ => True.intro) (by kernel_rfl) (by kernel_rfl) (by kernel_rfl) (by kernel_rfl) (by kernel_rfl) ?_
  simp only [List.take_succ_cons,List.take_zero,List.drop_succ_cons,List.drop_zero]
  repeat ((first | refine sec_plain (by rfl) (by rfl) (by rfl) (by rfl) ?_ | refine sec_nil (by rfl) (by rfl) (by rfl) (by rfl) (by rfl) ?_); intro K hK; go_big_quiet_op; go_big_quiet_on)
  refine sec_call (v := .int .i64 (r:Int)) (by rfl) (by rfl) (by rfl) (by rfl) (by rfl) ?_ ?_
  · intro q K hK
    go_big_quiet_op
    exact ⟨_,fun q2 => Later.drew (HCS.out ⟨q2.w,fbelow_t q.h q2.h⟩),hK⟩
  simp only [Act.put,List.setIfInBounds_toArray,List.set_cons_succ,List.set_cons_zero]
  repeat (refine sec_plain (by rfl) (by rfl) (by rfl) (by rfl) ?_; intro K hK; go_big_quiet_op; go_big_quiet_on)
  intro xs m9 hF
  simp only [secFill]
  clear hF xs hcl a0 a1 a2 a3 a4 hb d0 d1 d2 d3 hxb
  have HW2:=Lib.hid (HWD.out.later m9.h)
  generalize m9.w = w2 at HW2 ⊢
  obtain ⟨y,hy⟩:∃ y,Z[r]? = some y:=⟨_,List.getElem?_eq_getElem (by rw [HK.out]; exact hzr)⟩
  obtain ⟨y0,y1,y2,y3⟩:=HW2.out.slot hy
  have yl:=HW2.out.liveG
  have HS2:=Lib.hid (HW2.out.setSlot (i:=r) (by rw [HK.out]; exact hzr) x)
  obtain ⟨wp,ep⟩:∃ wp,putS w2 g r x = wp:=⟨_,rfl⟩
  rw [ep] at HS2
  have hfold:(((w2.setCell ⟨g,r * 4,none⟩ (.int .i64 x.i)).setCell ⟨g,r * 4 + 1,none⟩ (.int .i64 x.n)).setCell ⟨g,r * 4 + 2,none⟩ (.int .i64 x.l)).setCell ⟨g,r * 4 + 3,none⟩ (.string x.d) = wp:=ep
  obtain ⟨a0,a1,a2,a3,a4⟩:=HS2.out.cells
  have f2:=HS2.out.live (o + 2)
  have hgb:=HW2.out.gb
  have hb:=HS2.out.blt
  have hg:=HW2.out.glt
  clear hy ep
  go_wp2
  all_goals (
    go_ret
    refine ⟨rfl,(HS2.out.setL ((l:Int) + 1)).stp (f':=0) (m':=m) (n':=n) rfl ?_ rfl rfl ?_ ?_ ?_ H.out.lo H.out.hi ?_⟩
    · rw [List.length_append]; simp [HL.out]
    · rw [List.length_set,HK.out]; omega
    · rw [List.length_append,List.length_set,HL.out,HK.out]; exact hlk
    · rw [List.length_set]; exact HFIT.out
    · rw [← HR.out,← HK.out,← HL.out]
      exact round_put (by rw [HK.out]; omega) (by rw [HK.out,HL.out]; omega) HMEM.out x)
theorem rfput_t {w:World} {v:Value} {s:Rg Fr} {O:Nat → Prop} (x:Fr) (h:RfI TB o X Y w v s O) (hm:s.L.length < s.m):Calls Tryz.prog 102 #[v,frV x] w fun e w' => e = .returned (.bool true) ∧ Stp (RfI TB o X Y) v O w ⟨s.L ++ [x],s.m,s.n⟩ w':=by
  obtain ⟨b,p,S,f,rfl,rfl,h⟩:=h
  obtain ⟨L,m,n⟩:=s
  simp only at hm ⊢
  by_cases hl:L.length = S.length
  · exact rfput_g x h hl hm rfl
  · have h1:L.length < S.length:=by have:=h.len; simp only at this; omega
    rcases h.row with ⟨rfl,rfl,rfl⟩ | ⟨g,rfl,_,_,hf⟩
    · simp at h1
    · exact rfput_x x h h1
end Go.Proofs.YtimdkcchjanpaaaGreatDoor
namespace Go.Proofs.YtimdkcchjanpaaaGreatDoor
open Go.RowKit
set_option linter.unusedVariables false
def Bx.bst (s:Bx):Int × Pk × Bool:=if s.best s.ord.length < 0 then (0,pk0,false) else (s.best s.ord.length,s.P.getD (s.best s.ord.length).toNat pk0,true)
abbrev dnV (i:Int) (p:Pk) (b:Bool):Value := .agg #[.int .i64 i, .int .i64 p.f.i, .int .i64 p.f.n, .int .i64 p.f.l, .string p.f.d, .int .i64 p.fr, .int .i64 p.tag, .bool p.lp, .bool b]
def Bx.tk (s:Bx):Int × Pk × Bool × Int:=match s.fin with
  | [] => (0,pk0,false,6)
  | _ :: _ => (s.take.2.1,s.take.2.2.1,s.take.2.2.2,0)
def Pk.ok (p:Pk):Prop := -9223372036854775808 ≤ p.f.n ∧ p.f.n ≤ 9223372036854775807
end Go.Proofs.YtimdkcchjanpaaaGreatDoor
namespace Go.Proofs.YtimdkcchjanpaaaGreatDoor
open Go.RowKit
set_option linter.unusedVariables false
def insK (key:Int → Int) (x:Int):List Int → List Int
  | [] => [x]
  | y :: l => if key x < key y then x :: y :: l else y :: insK key x l
def turnK (key:Int → Int) (L:List Int):List Int:=L.foldl (fun l x => insK key x l) []
section
variable {key key':Int → Int} {x y:Int} {l L:List Int}
theorem mem_insK:∀ {l:List Int},y ∈ insK key x l ↔ y = x ∨ y ∈ l
  | [] => by simp [insK]
  | z :: l => by
    unfold insK
    split
    · simp
    · simp only [List.mem_cons,mem_insK]
      constructor
      · rintro (h | h | h)
        · exact .inr (.inl h)
        · exact .inl h
        · exact .inr (.inr h)
      · rintro (h | h | h)
        · exact .inr (.inl h)
        · exact .inl h
        · exact .inr (.inr h)
theorem insK_len:∀ {l:List Int},(insK key x l).length = l.length + 1
  | [] => rfl
  | z :: l => by
    unfold insK
    split
    · rfl
    · simp [insK_len]
def SortK (key:Int → Int) (l:List Int):Prop:=l.Pairwise (fun a b => key a ≤ key b)
theorem insK_sort:∀ {l:List Int},SortK key l → SortK key (insK key x l)
  | [],_ => by simp [insK,SortK]
  | z :: l,h => by
    unfold SortK at h
    rw [List.pairwise_cons] at h
    unfold insK
    split
    · rename_i hx
      unfold SortK
      rw [List.pairwise_cons,List.pairwise_cons]
      refine ⟨fun a ha => ?_,h⟩
      rcases List.mem_cons.1 ha with rfl | ha
      · omega
      · have:=h.1 a ha; omega
    · unfold SortK
      rw [List.pairwise_cons]
      refine ⟨fun a ha => ?_,insK_sort h.2⟩
      rcases mem_insK.1 ha with rfl | ha
      · omega
      · exact h.1 a ha
theorem insK_nodup:∀ {l:List Int},l.Nodup → x ∉ l → (insK key x l).Nodup
  | [],_,_ => by simp [insK]
  | z :: l,h,hx => by
    rw [List.nodup_cons] at h
    simp only [List.mem_cons,not_or] at hx
    unfold insK
    split
    · rw [List.nodup_cons,List.nodup_cons]
      exact ⟨by simp only [List.mem_cons,not_or]; exact hx,h⟩
    · rw [List.nodup_cons]
      refine ⟨fun hm => ?_,insK_nodup h.2 hx.2⟩
      rcases mem_insK.1 hm with e | hm
      · exact hx.1 e.symm
      · exact h.1 hm
theorem turnK_app:turnK key (L ++ [x]) = insK key x (turnK key L):=by unfold turnK; rw [List.foldl_append]; rfl
theorem rev_ind {p:List Int → Prop} (h0:p []) (h1:∀ L x,p L → p (L ++ [x])) (L:List Int):p L:=by
  have:∀ (n:Nat) (L:List Int),L.length = n → p L:=by
    intro n
    induction n with
    | zero => intro L h; rw [List.eq_nil_of_length_eq_zero h]; exact h0
    | succ n ih =>
      intro L h
      have hne:L ≠ []:=by rintro rfl; simp at h
      rw [← List.dropLast_concat_getLast hne]
      exact h1 _ _ (ih _ (by simp; omega))
  exact this _ L rfl
theorem mem_turnK:y ∈ turnK key L ↔ y ∈ L:=by
  induction L using rev_ind with
  | h0 => simp [turnK]
  | h1 L x ih =>
    rw [turnK_app,mem_insK,ih]
    simp [or_comm]
theorem turnK_len:(turnK key L).length = L.length:=by
  induction L using rev_ind with
  | h0 => simp [turnK]
  | h1 L x ih =>
    rw [turnK_app,insK_len,ih]
    simp
theorem turnK_sort:SortK key (turnK key L):=by
  induction L using rev_ind with
  | h0 => simp [turnK,SortK]
  | h1 L x ih =>
    rw [turnK_app]
    exact insK_sort ih
theorem turnK_nodup:L.Nodup → (turnK key L).Nodup:=by
  induction L using rev_ind with
  | h0 => simp [turnK]
  | h1 L x ih =>
    intro h
    rw [List.nodup_append] at h
    rw [turnK_app]
    exact insK_nodup (ih h.1) (fun hm => (h.2.2 x (mem_turnK.1 hm) x (by simp)) rfl)
theorem insK_congr:∀ {l:List Int},key x = key' x → (∀ y ∈ l,key y = key' y) → insK key x l = insK key' x l
  | [],_,_ => rfl
  | z :: l,hx,h => by
    unfold insK
    rw [hx,h z (by simp),insK_congr hx (fun y hy => h y (by simp [hy]))]
theorem turnK_congr:(∀ y ∈ L,key y = key' y) → turnK key L = turnK key' L:=by
  induction L using rev_ind with
  | h0 => exact fun _ => rfl
  | h1 L x ih =>
    intro h
    have e:=ih (fun y hy => h y (by simp [hy]))
    rw [turnK_app,turnK_app,← e]
    exact insK_congr (h x (by simp)) (fun y hy => h y (by simp [mem_turnK.1 hy]))
theorem insK_ahead:(∀ y ∈ l,key x < key y) → insK key x l = x :: l:=by
  intro h
  cases l with
  | nil => rfl
  | cons z l => unfold insK; rw [if_pos (h z (by simp))]
theorem insK_filter (p:Int → Bool):∀ {l:List Int},SortK key l → (insK key x l).filter p = if p x then insK key x (l.filter p) else l.filter p
  | [],_ => by simp [insK,List.filter_cons]
  | z :: l,h => by
    unfold SortK at h
    have h':=List.pairwise_cons.1 h
    have e:insK key x (z :: l) = if key x < key z then x :: z :: l else z :: insK key x l:=rfl
    rw [e]
    by_cases hx:key x < key z
    · rw [if_pos hx,List.filter_cons]
      by_cases hp:p x = true
      · rw [if_pos hp,if_pos hp,insK_ahead]
        intro y hy
        rcases List.mem_cons.1 (List.mem_filter.1 hy).1 with rfl | hy
        · exact hx
        · have:=h'.1 y hy; omega
      · rw [if_neg hp,if_neg hp]
    · rw [if_neg hx,List.filter_cons,insK_filter p h'.2]
      by_cases hz:p z = true
      · rw [if_pos hz,List.filter_cons,if_pos hz]
        by_cases hp:p x = true
        · rw [if_pos hp,if_pos hp]
          have e2:insK key x (z :: l.filter p) = if key x < key z then x :: z :: l.filter p else z :: insK key x (l.filter p):=rfl
          rw [e2,if_neg hx]
        · rw [if_neg hp,if_neg hp]
      · rw [if_neg hz,List.filter_cons,if_neg hz]
theorem turnK_filter (p:Int → Bool):turnK key (L.filter p) = (turnK key L).filter p:=by
  induction L using rev_ind with
  | h0 => rfl
  | h1 L x ih =>
    rw [List.filter_append,turnK_app,insK_filter p turnK_sort,← ih]
    by_cases hp:p x = true
    · rw [if_pos hp,List.filter_cons,if_pos hp]
      exact turnK_app
    · rw [if_neg hp,List.filter_cons,if_neg hp]
      simp
theorem insK_at:∀ {l:List Int} {n:Nat},n ≤ l.length → (∀ t,t < n → ¬ key x < key (l.getD t 0)) → (∀ t,n ≤ t → t < l.length → key x < key (l.getD t 0)) → insK key x l = l.take n ++ x :: l.drop n
  | [],n,_,_,_ => by simp [insK]
  | z :: l,0,_,_,h => by
    have:=h 0 (Nat.le_refl _) (by simp)
    unfold insK
    rw [if_pos (by simpa using this)]
    simp
  | z :: l,n + 1,hn,h1,h2 => by
    have:=h1 0 (by omega)
    unfold insK
    rw [if_neg (by simpa using this),insK_at (n:=n) (by simpa using hn) (fun t ht => by simpa using h1 (t + 1) (by omega)) (fun t h3 h4 => by simpa using h2 (t + 1) (by omega) (by simpa using h4))]
    simp
theorem filter_cut:∀ {l:List Int} {i:Nat},l.Nodup → l[i]? = some x → l.filter (fun y => y != x) = l.take i ++ l.drop (i + 1)
  | [],i,_,h => by simp at h
  | z :: l,0,hn,h => by
    simp at h
    subst h
    rw [List.nodup_cons] at hn
    rw [List.filter_cons,if_neg (by simp)]
    simp only [List.take_zero,List.nil_append,List.drop_succ_cons,List.drop_zero]
    exact List.filter_eq_self.2 fun y hy => by simp; rintro rfl; exact hn.1 hy
  | z :: l,i + 1,hn,h => by
    rw [List.nodup_cons] at hn
    have hx:l[i]? = some x:=by simpa using h
    have hz:z ≠ x:=by rintro rfl; exact hn.1 (List.mem_of_getElem? hx)
    rw [List.filter_cons,if_pos (by simpa using hz),filter_cut hn.2 hx]
    simp
end
def Bx.trn (s:Bx):List Int:=turnK s.key s.ord
theorem Bx.best_turn {s:Bx} (ho:s.ordOk):∀ k,k ≤ s.ord.length → s.best k = match turnK s.key (s.ord.take k) with | [] => -1 | y :: _ => y
  | 0,_ => by simp [Bx.best,turnK]
  | k + 1,hk => by
    have ih:=Bx.best_turn ho k (by omega)
    have hx:s.ord.getD k 0 = s.ord[k]'(by omega):=by rw [List.getD_eq_getElem?_getD,List.getElem?_eq_getElem (by omega)]; rfl
    rw [List.take_succ_eq_append_getElem (by omega),turnK_app,← hx]
    unfold Bx.best
    have hm:∀ y ∈ turnK s.key (s.ord.take k),0 ≤ y:=fun y hy => (ho y (List.mem_of_mem_take (mem_turnK.1 hy))).1
    cases hT:turnK s.key (s.ord.take k) with
    | nil =>
      rw [hT] at ih
      simp only at ih
      rw [ih,if_pos (.inl (by decide))]
      rfl
    | cons y l =>
      rw [hT] at ih hm
      simp only at ih
      have hy:=hm y (by simp)
      rw [ih]
      unfold insK
      by_cases hlt:s.key (s.ord.getD k 0) < s.key y
      · rw [if_pos hlt,if_pos (.inr hlt)]
      · rw [if_neg hlt,if_neg (by omega)]
theorem Bx.best_head {s:Bx} (ho:s.ordOk):s.best s.ord.length = match s.trn with | [] => -1 | y :: _ => y:=by
  have:=Bx.best_turn ho s.ord.length (Nat.le_refl _)
  rw [List.take_length] at this
  exact this
theorem Bx.bst_nil {s:Bx} (ho:s.ordOk) (h:s.trn = []):s.bst = (0,pk0,false):=by
  have e:=Bx.best_head ho
  rw [h] at e
  simp only at e
  unfold Bx.bst
  rw [e,if_pos (by decide)]
theorem Bx.bst_cons {s:Bx} (ho:s.ordOk) {y:Int} {l:List Int} (h:s.trn = y :: l):s.bst = (y,s.P.getD y.toNat pk0,true):=by
  have e:=Bx.best_head ho
  rw [h] at e
  simp only at e
  have hy:=(ho y (mem_turnK.1 (by unfold Bx.trn at h; rw [h]; simp))).1
  unfold Bx.bst
  rw [e,if_neg (by omega)]
theorem Bx.trn_len (s:Bx):s.trn.length = s.ord.length:=turnK_len
theorem Bx.Ok.trnOk {s:Bx} (h:s.Ok):∀ x ∈ s.trn,0 ≤ x ∧ x < s.S.length ∧ s.S.getD x.toNat 0 = 1:=fun x hx => h.ord x (mem_turnK.1 hx)
theorem Bx.Ok.trnNd {s:Bx} (h:s.Ok):s.trn.Nodup:=turnK_nodup h.nd1
theorem Bx.Ok.free_new {s:Bx} (h:s.Ok) {i:Nat} (h0:s.S.getD i 0 = 0):(i:Int) ∉ s.ord:=fun hm => by
  have:=(h.ord _ hm).2.2
  rw [Int.toNat_natCast,h0] at this
  omega
theorem Bx.trn_put {s:Bx} (h:s.Ok) {i n:Nat} {p:Pk} (hi:i < s.S.length) (h0:s.S.getD i 0 = 0) (hn:n ≤ s.trn.length) (h1:∀ t,t < n → ¬ keyG p.f < s.key (s.trn.getD t 0)) (h2:∀ t,n ≤ t → t < s.trn.length → keyG p.f < s.key (s.trn.getD t 0)) :
    (s.putAt i p).trn = s.trn.take n ++ (i:Int) :: s.trn.drop n:=by
  have hno:=h.free_new h0
  have hk:∀ y ∈ s.ord,(s.putAt i p).key y = s.key y:=fun y hy => by
    unfold Bx.key Bx.putAt
    simp only [getD_set']
    rw [if_neg (fun h' => hno (by rw [h'.1,Int.toNat_of_nonneg (h.ord y hy).1]; exact hy))]
  have hki:(s.putAt i p).key (i:Int) = keyG p.f:=by
    unfold Bx.key Bx.putAt
    simp only [getD_set',Int.toNat_natCast]
    rw [if_pos (by simp [h.lp,hi])]
  have e:(s.putAt i p).trn = insK (s.putAt i p).key (i:Int) s.trn:=by
    unfold Bx.trn
    rw [show (s.putAt i p).ord = s.ord ++ [(i:Int)] from rfl,turnK_app,turnK_congr hk]
  rw [e]
  have hm:∀ t,t < s.trn.length → (s.putAt i p).key (s.trn.getD t 0) = s.key (s.trn.getD t 0):=fun t ht => hk _ (by
    rw [List.getD_eq_getElem?_getD,List.getElem?_eq_getElem ht]
    exact mem_turnK.1 (List.getElem_mem ht))
  refine insK_at hn (fun t ht => ?_) (fun t h3 h4 => ?_)
  · rw [hki,hm t (by omega)]; exact h1 t ht
  · rw [hki,hm t h4]; exact h2 t h3 h4
theorem Bx.trn_mono {s:Bx} {k:Int} {a b:Nat} (hab:a ≤ b) (hb:b < s.trn.length) (h:k < s.key (s.trn.getD a 0)):k < s.key (s.trn.getD b 0):=by
  rcases Nat.lt_or_ge a b with h1 | h1
  · have hs:SortK s.key s.trn:=turnK_sort
    have:=List.pairwise_iff_getElem.1 hs a b (by omega) hb h1
    rw [List.getD_eq_getElem?_getD,List.getElem?_eq_getElem (by omega)] at h
    rw [List.getD_eq_getElem?_getD,List.getElem?_eq_getElem hb]
    simp only [Option.getD_some] at h ⊢
    omega
  · obtain rfl:a = b:=by omega
    exact h
theorem Bx.trn_end {s:Bx} (h:s.Ok) {i n:Nat} (st:Int) (hx:s.trn[n]? = some (i:Int)):(s.endAt i st).trn = s.trn.take n ++ s.trn.drop (n + 1):=by
  have e:(s.endAt i st).trn = s.trn.filter (fun y => y != (i:Int)):=by
    unfold Bx.trn
    rw [show (s.endAt i st).ord = s.ord.filter (fun y => y != (i:Int)) from rfl,show (s.endAt i st).key = s.key from rfl,turnK_filter]
  rw [e]
  exact filter_cut h.trnNd hx
theorem Bx.trn_take {s:Bx} (h:s.Ok) {x:Int} {r:List Int} (hf:s.fin = x :: r):s.take.1.trn = s.trn:=by
  obtain ⟨h1,h2,h3⟩:=h.fin x (by rw [hf]; simp)
  unfold Bx.trn Bx.take
  rw [hf]
  refine turnK_congr fun y hy => ?_
  unfold Bx.key
  simp only [getD_set']
  rw [if_neg]
  intro h'
  have:=(h.ord y hy).2.2
  rw [← h'.1] at this
  omega
theorem Bx.first_spec {s:Bx} {i:Nat} (hi:i < s.S.length) (h0:s.S.getD i 0 = 0) (h1:∀ j,j < i → s.S.getD j 0 ≠ 0):s.first s.S.length = some i:=by
  have key:∀ k,k ≤ i → s.first k = none:=by
    intro k
    induction k with
    | zero => intro _; rfl
    | succ k ih =>
      intro hk
      exact Bx.first_more (ih (by omega)) (by rw [Bx.getD_01 (by omega)]; exact h1 k (by omega))
  exact Bx.first_at (key i (Nat.le_refl _)) (by rw [Bx.getD_01 hi]; exact h0) _ hi
theorem Bx.first_none {s:Bx} (h1:∀ j,j < s.S.length → s.S.getD j 0 ≠ 0):s.first s.S.length = none:=by
  have key:∀ k,k ≤ s.S.length → s.first k = none:=by
    intro k
    induction k with
    | zero => intro _; rfl
    | succ k ih =>
      intro hk
      exact Bx.first_more (ih (by omega)) (by rw [Bx.getD_01 (by omega)]; exact h1 k (by omega))
  exact key _ (Nat.le_refl _)
structure Bx.Full (s:Bx):Prop where
  mem:∀ i:Nat,i < s.S.length → s.S.getD i 0 = 1 → (i:Int) ∈ s.ord
  cnt:s.free s.S.length + s.ord.length + s.fin.length = s.S.length
theorem free_set (S:List Int):∀ (i:Nat) (a:Int),i < S.length → ((S.set i a).filter (· == 0)).length + (if S.getD i 0 = 0 then 1 else 0) = (S.filter (· == 0)).length + (if a = 0 then 1 else 0):=by
  induction S with
  | nil => intro i a h; cases h
  | cons z S ih =>
    intro i a h
    cases i with
    | zero =>
      simp only [List.set_cons_zero,List.filter_cons,List.getD_cons_zero,beq_iff_eq]
      by_cases h1:a = 0 <;> by_cases h2:z = 0 <;> simp [h1,h2]
    | succ i =>
      have:=ih i a (by simpa using h)
      simp only [List.set_cons_succ,List.filter_cons,List.getD_cons_succ,beq_iff_eq]
      generalize (if S.getD i 0 = 0 then 1 else 0) = q at this ⊢
      by_cases h2:z = 0
      · simp only [if_pos h2,List.length_cons]; omega
      · simp only [if_neg h2]; omega
theorem Bx.free_all (s:Bx):s.free s.S.length = (s.S.filter (· == 0)).length:=by unfold Bx.free; rw [List.take_length]
theorem Bx.Full.new (n:Nat):(bxNew n).Full:=by
  refine ⟨fun i hi h => ?_, ?_⟩
  · simp only [bxNew,List.length_replicate] at hi
    simp only [bxNew,List.getD_eq_getElem?_getD,List.getElem?_replicate,if_pos hi,Option.getD_some] at h
    omega
  · rw [Bx.free_all]
    simp [bxNew]
theorem Bx.Full.putAt {s:Bx} (h:s.Full) {i:Nat} (hi:i < s.S.length) (h0:s.S.getD i 0 = 0) (p:Pk):(s.putAt i p).Full:=by
  refine ⟨fun j hj hs => ?_, ?_⟩
  · simp only [Bx.putAt,List.length_set] at hj
    simp only [Bx.putAt,getD_set'] at hs
    simp only [Bx.putAt,List.mem_append,List.mem_singleton]
    by_cases e:i = j
    · exact .inr (by rw [e])
    · rw [if_neg (fun h' => e h'.1)] at hs
      exact .inl (h.mem j hj hs)
  · have hc:=h.cnt
    rw [Bx.free_all] at hc ⊢
    have:=free_set s.S i 1 hi
    rw [if_pos h0,if_neg (by decide)] at this
    simp only [Bx.putAt,List.length_append,List.length_singleton,List.length_set]
    omega
theorem Bx.Full.endAt {s:Bx} (h:s.Full) (ok:s.Ok) {i:Nat} (hi:i < s.S.length) (h1:s.S.getD i 0 = 1) {st:Int} (hst:st = 2 ∨ st = 3):(s.endAt i st).Full:=by
  have hm:=h.mem i hi h1
  refine ⟨fun j hj hs => ?_, ?_⟩
  · simp only [Bx.endAt,List.length_set] at hj
    simp only [Bx.endAt,getD_set'] at hs
    simp only [Bx.endAt,List.mem_filter,bne_iff_ne,ne_eq]
    by_cases e:i = j
    · rw [if_pos ⟨e,by omega⟩] at hs
      omega
    · rw [if_neg (fun h' => e h'.1)] at hs
      exact ⟨h.mem j hj hs,by omega⟩
  · have hc:=h.cnt
    rw [Bx.free_all] at hc ⊢
    have:=free_set s.S i st hi
    rw [if_neg (by omega),if_neg (by omega)] at this
    obtain ⟨k,hk,hk2⟩:=List.getElem_of_mem hm
    have e:=filter_cut ok.nd1 (by rw [List.getElem?_eq_getElem hk,hk2])
    simp only [Bx.endAt,List.length_append,List.length_singleton,List.length_set]
    rw [e,List.length_append,List.length_take,List.length_drop]
    omega
theorem Bx.Full.take {s:Bx} (h:s.Full) (ok:s.Ok):s.take.1.Full:=by
  unfold Bx.take
  cases hf:s.fin with
  | nil => exact h
  | cons x r =>
    obtain ⟨h1,h2,h3⟩:=ok.fin x (by rw [hf]; simp)
    have hx:x.toNat < s.S.length:=by omega
    refine ⟨fun j hj hs => ?_, ?_⟩
    · simp only [List.length_set] at hj
      simp only [getD_set'] at hs
      by_cases e:x.toNat = j
      · rw [if_pos ⟨e,hx⟩] at hs
        omega
      · rw [if_neg (fun h' => e h'.1)] at hs
        exact h.mem j hj hs
    · have hc:=h.cnt
      rw [Bx.free_all] at hc ⊢
      have:=free_set s.S x.toNat 0 hx
      rw [if_neg (by omega),if_pos rfl] at this
      rw [hf,List.length_cons] at hc
      simp only [List.length_set]
      omega
end Go.Proofs.YtimdkcchjanpaaaGreatDoor
