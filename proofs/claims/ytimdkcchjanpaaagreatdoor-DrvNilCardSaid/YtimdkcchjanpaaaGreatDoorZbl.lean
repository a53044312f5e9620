/- Drv, the code: of nil. Printed by drv/gen_dkq.py. -/
import Derived.Test.YtimdkcchjanpaaaGreatDoorZbe
set_option maxHeartbeats 4000000
namespace Go.Proofs.YtimdkcchjanpaaaGreatDoor
open Go.RowKit
set_option linter.unusedVariables false
theorem below_box {w w0 w1:World} (h:Kept (fun k => k = w.heap.size) w0 w1) (hb:Below w.heap.size w w0):Below w.heap.size w w1 :=
  ⟨h.os.trans hb.os,h.tape.trans hb.tape,h.output.trans hb.output,Nat.le_trans hb.size h.size,fun k hk => (h.block k (Nat.lt_of_lt_of_le hk hb.size) (by omega)).trans (hb.block k hk)⟩
theorem dkworks_n (w:World):Calls Tryz.prog 36 #[.pointer none] w fun e w' => e = .returned (.int .i64 1) ∧ w = w':=by
  go_enter Tryz.func36,Tryz.ntmps36
  go_wp2
  go_ret
  exact ⟨rfl,rfl⟩
theorem dkisup_n (w:World):Calls Tryz.prog 57 #[.pointer none] w fun e w' => e = .returned (.bool false) ∧ w = w':=by
  go_enter Tryz.func57,Tryz.ntmps57
  go_wp2
  go_ret
  exact ⟨rfl,rfl⟩
theorem dkn_up (w:World):Calls Tryz.prog 9 #[.pointer none] w fun e w' => e = .returned (.int .i64 1) ∧ Below w.heap.size w w':=by
  go_enter Tryz.func9,Tryz.ntmps9
  go_wp2
  go_ret
  exact ⟨rfl,Below.refl _ _⟩
theorem dkn_down (w:World):Calls Tryz.prog 23 #[.pointer none] w fun e w' => e = .returned (.int .i64 1) ∧ Below w.heap.size w w':=by
  have HK:=Lib.hid (dkworks_n w)
  go_enter Tryz.func23,Tryz.ntmps23
  go_wp2_with fail
  refine HK.out.mono ?_
  rintro r w1 ⟨rfl,rfl⟩
  go_wp2
  go_ret
  exact ⟨rfl,Below.refl _ _⟩
theorem dkn_state (w:World):Calls Tryz.prog 16 #[.pointer none] w fun e w' => e = .returned (.int .i64 (-1)) ∧ Below w.heap.size w w':=by
  go_enter Tryz.func16,Tryz.ntmps16
  go_wp2
  go_ret
  exact ⟨rfl,Below.refl _ _⟩
theorem dkn_send (b:Int) (p:Pk) (w:World):Calls Tryz.prog 10 #[.pointer none, .int .i64 b,pkV p] w fun e w' => e = .returned (.int .i64 1) ∧ Below w.heap.size w w':=by
  have hb0:=(Below.refl w.heap.size w).alloc (Nat.le_refl _) (.cells #[.int .i64 p.f.i, .int .i64 p.f.n, .int .i64 p.f.l, .string p.f.d, .int .i64 p.fr, .int .i64 p.tag, .bool p.lp] 37)
  obtain ⟨w0,e0⟩:∃ w0,w.alloc (.cells #[.int .i64 p.f.i, .int .i64 p.f.n, .int .i64 p.f.l, .string p.f.d, .int .i64 p.fr, .int .i64 p.tag, .bool p.lp] 37) = w0:=⟨_,rfl⟩
  rw [e0] at hb0
  have HB:=Lib.hid hb0
  have HK:=Lib.hid (dkworks_n w0)
  clear hb0
  go_enter Tryz.func10,Tryz.ntmps10
  go_wp2_with fail
  refine HK.out.mono ?_
  rintro r w1 ⟨rfl,rfl⟩
  go_wp2
  go_ret
  exact ⟨rfl,HB.out⟩
theorem dkn_offer (w:World):Calls Tryz.prog 19 #[.pointer none] w fun e w' => e = .returned (.tuple #[fmV frz, .bool false]) ∧ Below w.heap.size w w':=by
  have hb0:=(Below.refl w.heap.size w).alloc (Nat.le_refl _) zfO
  have hx0:=BoxF.made w 0 0 0 (ByteArray.mk #[])
  obtain ⟨w0,e0⟩:∃ w0,w.alloc zfO = w0:=⟨_,rfl⟩
  rw [e0] at hb0 hx0
  have HX0:=Lib.hid hx0
  have HB0:=Lib.hid hb0
  have HK:=Lib.hid (dkisup_n w0)
  obtain ⟨x0,x1,x2,x3⟩:=HX0.out.cells
  have ff:∀ j,w0.frozen? ⟨w.heap.size,j,none⟩ = false:=fun j => Lib.frozen_of_heap HX0.out j
  have hz0:=HX0.out.lt
  have HP:=Lib.hid (boxF_set (i':=0) (n':=0) (l':=0) (d':=ByteArray.mk #[]) HX0.out)
  clear hb0 hx0
  go_enter Tryz.func19,Tryz.ntmps19
  go_wp2_with fail
  refine HK.out.mono ?_
  rintro r w1 ⟨rfl,rfl⟩
  go_wp2_with fail
  obtain ⟨g0,g1,g2,g3⟩:=HP.out.cells
  refine bodyPost_ret (v := .tuple #[fmV frz, .bool false]) ?_ rfl ⟨rfl,boxF_below HB0.out (Nat.le_refl _)⟩
  simp [results,Tryz.results19,go_sem,g0,g1,g2,g3]
  exact ⟨rfl,rfl,rfl,rfl⟩
theorem dkn_won (w:World):Calls Tryz.prog 17 #[.pointer none] w fun e w' => e = .returned (.bool false) ∧ Below w.heap.size w w':=by
  have HK:=Lib.hid (dkisup_n w)
  go_enter Tryz.func17,Tryz.ntmps17
  go_wp2_with fail
  refine HK.out.mono ?_
  rintro r w1 ⟨rfl,rfl⟩
  go_wp2
  go_ret
  exact ⟨rfl,Below.refl _ _⟩
theorem dkn_hear (f:Fr) (w:World):Calls Tryz.prog 18 #[.pointer none,fmV f] w fun e w' => e = .returned (.bool false) ∧ Below w.heap.size w w':=by
  have hb0:=(Below.refl w.heap.size w).alloc (Nat.le_refl _) (.cells #[.int .i64 f.i, .int .i64 f.n, .int .i64 f.l, .string f.d] 35)
  obtain ⟨w0,e0⟩:∃ w0,w.alloc (.cells #[.int .i64 f.i, .int .i64 f.n, .int .i64 f.l, .string f.d] 35) = w0:=⟨_,rfl⟩
  rw [e0] at hb0
  have HB:=Lib.hid hb0
  have HK:=Lib.hid (dkisup_n w0)
  have hf0:=BoxF.made w f.i f.n f.l f.d
  rw [e0] at hf0
  obtain ⟨d0,d1,d2,d3⟩:=hf0.cells
  have hz0:=hf0.lt
  clear hb0 hf0
  go_enter Tryz.func18,Tryz.ntmps18
  go_upto_region 1 with fail
  have hcl:∀ (n:KLater (fun _ => False) w0) (o:Nat),n.w.cell? ⟨w.heap.size,o,none⟩ = w0.cell? ⟨w.heap.size,o,none⟩:=fun n o => n.cell w.heap.size o hz0 (fun h => h)
  refine wp_region_st 9 [] (fun _ _ w' => Below w0.heap.size w0 w') [] (Below.refl _ _).drew (by kernel_rfl) (by kernel_rfl) (by kernel_rfl) (by kernel_rfl) (by kernel_rfl) (by kernel_rfl) (by kernel_rfl) ?_
  simp only [List.take_succ_cons,List.take_zero,List.drop_succ_cons,List.drop_zero]
  repeat ((first | refine st_plain (O:=fun _ => False) (fun h => .of_below h) (by rfl) (by rfl) (by rfl) (by rfl) (by rfl) ?_ | refine st_nil (O:=fun _ => False) (fun h => .of_below h) (by rfl) (by rfl) (by rfl) (by rfl) (by rfl) (by rfl) ?_); intro K hK; go_big_quiet_op; go_big_quiet_on)
  refine st_call (f:=57) (args := #[.pointer none]) (v := .bool false) (by rfl) (by rfl) (by rfl) (by rfl) (by rfl) (fun w => by simp [go_sem]) (fun j xs w' hG => ?_) ?_
  · refine (dkisup_n w').mono ?_
    rintro e w'' ⟨he,rfl⟩
    exact ⟨he,hG⟩
  simp only [Act.put,List.setIfInBounds_toArray,List.set_cons_succ,List.set_cons_zero]
  repeat (refine st_plain (O:=fun _ => False) (fun h => .of_below h) (by rfl) (by rfl) (by rfl) (by rfl) (by rfl) ?_; intro K hK; go_big_quiet_op; go_big_quiet_on)
  repeat (refine st_skip (by rfl) (by rfl) (by rfl) ?_; simp only [Act.put,List.setIfInBounds_toArray,List.set_cons_succ,List.set_cons_zero])
  intro ys xs w9 hF h9
  simp only [secFill]
  have H9:=Lib.hid h9
  clear hF hcl d0 d1 d2 d3 h9
  go_wp2
  go_ret
  exact ⟨rfl,fbelow_t HB.out H9.out⟩
theorem dkn_tx (w:World):Calls Tryz.prog 11 #[.pointer none] w fun e w' => e = .returned (.tuple #[ehV pk0 false, .int .i64 1]) ∧ Below w.heap.size w w':=by
  have hb0:=(Below.refl w.heap.size w).alloc (Nat.le_refl _) (ehO pk0 false)
  have hx0:BoxEh (w.alloc (ehO pk0 false)) w.heap.size pk0 false:=heap_alloc_new w _
  obtain ⟨w0,e0⟩:∃ w0,w.alloc (ehO pk0 false) = w0:=⟨_,rfl⟩
  rw [e0] at hb0 hx0
  have HE0:w.alloc (.cells #[.int .i64 0, .int .i64 0, .int .i64 0, .string (ByteArray.mk #[]), .int .i64 0, .int .i64 0, .bool false, .bool false] 42) = w0:=e0
  have HX0:=Lib.hid hx0
  have HB0:=Lib.hid hb0
  have HK:=Lib.hid (dkworks_n w0)
  have hzr:=zeroEh
  obtain ⟨x0,x1,x2,x3,x4,x5,x6,x7⟩:=HX0.out.cells
  unfold pk0 at x0 x1 x2 x3 x4 x5 x6
  have ff:∀ j,w0.frozen? ⟨w.heap.size,j,none⟩ = false:=fun j => Lib.frozen_of_heap HX0.out j
  have hz0:=HX0.out.lt
  have HP:=Lib.hid (HX0.out.put pk0 false)
  have HPK:=Lib.hid (putEh_kept w0 w.heap.size pk0 false)
  clear hb0 hx0 e0
  go_enter Tryz.func11,Tryz.ntmps11
  go_wp2_with fail
  refine HK.out.mono ?_
  rintro r w1 ⟨rfl,rfl⟩
  go_wp2_with fail
  obtain ⟨g0,g1,g2,g3,g4,g5,g6,g7⟩:=HP.out.cells
  unfold putEh pk0 at g0 g1 g2 g3 g4 g5 g6 g7
  unfold putEh pk0 at HPK
  refine bodyPost_ret (v := .tuple #[ehV pk0 false, .int .i64 1]) ?_ rfl ⟨rfl,below_box HPK.out HB0.out⟩
  simp [results,Tryz.results11,go_sem,pk0,g0,g1,g2,g3,g4,g5,g6,g7]
theorem dkn_rx (w:World):Calls Tryz.prog 22 #[.pointer none] w fun e w' => e = .returned (.tuple #[fmV frz, .int .i64 1]) ∧ Below w.heap.size w w':=by
  have hb0:=(Below.refl w.heap.size w).alloc (Nat.le_refl _) zfO
  have hx0:=BoxF.made w 0 0 0 (ByteArray.mk #[])
  obtain ⟨w0,e0⟩:∃ w0,w.alloc zfO = w0:=⟨_,rfl⟩
  rw [e0] at hb0 hx0
  have HX0:=Lib.hid hx0
  have HB0:=Lib.hid hb0
  have HK:=Lib.hid (dkworks_n w0)
  obtain ⟨x0,x1,x2,x3⟩:=HX0.out.cells
  have ff:∀ j,w0.frozen? ⟨w.heap.size,j,none⟩ = false:=fun j => Lib.frozen_of_heap HX0.out j
  have hz0:=HX0.out.lt
  have HE0:w.alloc (.cells #[.int .i64 0, .int .i64 0, .int .i64 0, .string (ByteArray.mk #[])] 35) = w0:=e0
  have HP:=Lib.hid (HX0.out.putFr frz)
  have HPK:=Lib.hid (putFr_kept w0 w.heap.size frz)
  clear hb0 hx0 e0
  go_enter Tryz.func22,Tryz.ntmps22
  go_wp2_with fail
  refine HK.out.mono ?_
  rintro r w1 ⟨rfl,rfl⟩
  go_wp2_with fail
  obtain ⟨g0,g1,g2,g3⟩:=HP.out.cells
  unfold putFr frz at g0 g1 g2 g3
  unfold putFr frz at HPK
  refine bodyPost_ret (v := .tuple #[fmV frz, .int .i64 1]) ?_ rfl ⟨rfl,below_box HPK.out HB0.out⟩
  simp [results,Tryz.results22,go_sem,frz,g0,g1,g2,g3]
theorem dkn_off (w:World):Calls Tryz.prog 20 #[.pointer none] w fun e w' => e = .returned (.tuple #[]) ∧ Below w.heap.size w w':=by
  go_enter Tryz.func20,Tryz.ntmps20
  go_wp2
  exact bodyPost_ret (results_none rfl _ _ _) rfl ⟨rfl,Below.refl _ _⟩
theorem dkn_fix (w:World):Calls Tryz.prog 24 #[.pointer none] w fun e w' => e = .returned (.int .i64 1) ∧ Below w.heap.size w w':=by
  go_enter Tryz.func24,Tryz.ntmps24
  go_wp2
  go_ret
  exact ⟨rfl,Below.refl _ _⟩
theorem dkn_back (w:World):Calls Tryz.prog 21 #[.pointer none] w fun e w' => e = .returned (.tuple #[]) ∧ Below w.heap.size w w':=by
  go_enter Tryz.func21,Tryz.ntmps21
  go_wp2
  exact bodyPost_ret (results_none rfl _ _ _) rfl ⟨rfl,Below.refl _ _⟩
theorem dkn_stats (w:World):Calls Tryz.prog 25 #[.pointer none] w fun e w' => e = .returned (sxV sx0) ∧ Below w.heap.size w w':=by
  have hb0:=(Below.refl w.heap.size w).alloc (Nat.le_refl _) (.cells #[.int .i64 0, .int .i64 0, .int .i64 0, .int .i64 0, .int .i64 0, .int .i64 0] 58)
  have hx:=heap_alloc_new w (.cells #[.int .i64 0, .int .i64 0, .int .i64 0, .int .i64 0, .int .i64 0, .int .i64 0] 58)
  obtain ⟨w0,e0⟩:∃ w0,w.alloc (.cells #[.int .i64 0, .int .i64 0, .int .i64 0, .int .i64 0, .int .i64 0, .int .i64 0] 58) = w0:=⟨_,rfl⟩
  rw [e0] at hb0 hx
  have HB0:=Lib.hid hb0
  have fl:∀ j,w0.frozen? ⟨w.heap.size,j,none⟩ = false:=fun j => Lib.frozen_of_heap hx j
  have x0:=Lib.cell_of_heap hx 0
  have x1:=Lib.cell_of_heap hx 1
  have x2:=Lib.cell_of_heap hx 2
  have x3:=Lib.cell_of_heap hx 3
  have x4:=Lib.cell_of_heap hx 4
  have x5:=Lib.cell_of_heap hx 5
  simp only [List.getElem?_toArray,List.getElem?_cons_zero,List.getElem?_cons_succ] at x0 x1 x2 x3 x4 x5
  have HX:=Lib.hid hx
  have hlt:=heap_some_lt hx
  clear hb0 hx
  go_enter Tryz.func25,Tryz.ntmps25
  go_wp2_with fail
  have a0:=heap_setCell_same w0 w.heap.size 0 _ _ (.int .i64 0) HX.out
  have a1:=heap_setCell_same _ w.heap.size 1 _ _ (.int .i64 0) a0
  have a2:=heap_setCell_same _ w.heap.size 2 _ _ (.int .i64 0) a1
  have a3:=heap_setCell_same _ w.heap.size 3 _ _ (.int .i64 0) a2
  have a4:=heap_setCell_same _ w.heap.size 4 _ _ (.int .i64 0) a3
  have a5:=heap_setCell_same _ w.heap.size 5 _ _ (.int .i64 0) a4
  have g0:=Lib.cell_of_heap a5 0
  have g1:=Lib.cell_of_heap a5 1
  have g2:=Lib.cell_of_heap a5 2
  have g3:=Lib.cell_of_heap a5 3
  have g4:=Lib.cell_of_heap a5 4
  have g5:=Lib.cell_of_heap a5 5
  simp at g0 g1 g2 g3 g4 g5
  refine bodyPost_ret (v:=sxV sx0) ?_ rfl ⟨rfl,(((((HB0.out.setCell (Nat.le_refl _) _).setCell (Nat.le_refl _) _).setCell (Nat.le_refl _) _).setCell (Nat.le_refl _) _).setCell (Nat.le_refl _) _).setCell (Nat.le_refl _) _⟩
  simp [results,Tryz.results25,go_sem,g0,g1,g2,g3,g4,g5,sx0]
theorem dkn_queued (w:World):Calls Tryz.prog 15 #[.pointer none] w fun e w' => (∃ A c,e = .returned (.slice A 0 c)) ∧ Below w.heap.size w w':=by
  go_enter Tryz.func15,Tryz.ntmps15
  go_wp2
  go_ret
  exact ⟨⟨_,_,rfl⟩,Below.refl _ _⟩
theorem dkn_boxes (w:World):Calls Tryz.prog 14 #[.pointer none] w fun e w' => (∃ A c,e = .returned (.slice A 0 c)) ∧ Below w.heap.size w w':=by
  go_enter Tryz.func14,Tryz.ntmps14
  go_wp2
  go_ret
  exact ⟨⟨_,_,rfl⟩,Below.refl _ _⟩
theorem dkn_kept (w:World):Calls Tryz.prog 27 #[.pointer none] w fun e w' => e = .returned (.int .i64 0) ∧ Below w.heap.size w w':=by
  go_enter Tryz.func27,Tryz.ntmps27
  go_wp2
  go_ret
  exact ⟨rfl,Below.refl _ _⟩
theorem dkn_lost (w:World):Calls Tryz.prog 26 #[.pointer none] w fun e w' => e = .returned (.int .i64 0) ∧ Below w.heap.size w w':=by
  go_enter Tryz.func26,Tryz.ntmps26
  go_wp2
  go_ret
  exact ⟨rfl,Below.refl _ _⟩
theorem dknil:DrvNo where
  up:=dkn_up
  down:=dkn_down
  state:=dkn_state
  send:=dkn_send
  offer:=dkn_offer
  won:=dkn_won
  hear:=dkn_hear
  tx:=dkn_tx
  rx:=dkn_rx
  off:=dkn_off
  fix:=dkn_fix
  back:=dkn_back
  stats:=dkn_stats
  queued:=dkn_queued
  boxes:=dkn_boxes
  kept:=dkn_kept
  lost:=dkn_lost
end Go.Proofs.YtimdkcchjanpaaaGreatDoor
