/- Ctrl, the document's side: Hear. Printed by gen_hear.py. Ctrl, the document's side: Abort. Of no program: two objects behind calls of the one and of the othe .. -/
import Derived.Test.YtimdkcchjanpaaaGreatDoorZas
import Derived.Test.YtimdkcchjanpaaaGreatDoorZaf
import Derived.Test.YtimdkcchjanpaaaGreatDoorZao
import Derived.Test.YtimdkcchjanpaaaGreatDoorZaq
import Derived.Test.YtimdkcchjanpaaaGreatDoorZar
set_option maxHeartbeats 16000000
namespace Go.Proofs.YtimdkcchjanpaaaGreatDoor
open Go.RowKit
set_option linter.unusedVariables false
def letF (L:List Flt) (f:Fr):Bool := !decide (keyG f < 0) && (decide (L.length = 0) || anyB (carB f.i f.n f.l f.d.size) L false (wordV f.i f.n f.l f.d.size).toNat)
def Ct.hear (s:Ct) (f:Fr):Ct × Bool :=
  if letF s.acc f = false then (s,false) else if (s.fifo.length:Int) = s.room then ({ s with lost:=s.lost + 1,asks:=setB s.asks 4 },false)
  else ({ s with fifo:=s.fifo ++ [f],asks:=setB s.asks 2 },true)
theorem ctEmpty {α:Type} {c:α → List Value} {k:Nat} (w:World) (o:Obj):RowQ c k (w.alloc o) (.slice (some ⟨w.heap.size,0,none⟩) 0 0) ([]:List α) :=
  .inr ⟨_,0,0,rfl,Nat.le_refl _,Nat.zero_le _,by simp,fun j u h => by simp [rowG] at h,fun j hj => by omega⟩
theorem ctRda {α:Type} {c:α → List Value} {k:Nat} {w:World} {v:Value} {L:List α} (h:RowQ c k w v L) (hk:∀ a,(c a).length = k) (hm:L.length ≤ maxLen):RdA c k w v L:=by
  refine ⟨h.sl hk hm, ?_⟩
  rcases h with ⟨h,_⟩ | ⟨g,o,cap,hv,h1,_⟩
  · exact .inl h
  · exact .inr ⟨_,cap,hv,h1⟩
theorem ctOwn {w W w':World} {v v':Value} {o:Obj} (hb:Below w.heap.size w W) (hv:∀ g,OwnO v g → w.heap.size ≤ g) (hk:Kept (OwnO v) (W.alloc o) w') (hg:Grows (OwnO v) (W.alloc o) (OwnO v')) :
    Below w.heap.size w w' ∧ ∀ g,OwnO v' g → w.heap.size ≤ g:=by
  have h1:=fbelow_t hb ((Below.refl W.heap.size W).alloc (Nat.le_refl _) o)
  refine ⟨hk.below h1 h1.size hv,fun g h => ?_⟩
  rcases hg g h with h2 | h2
  · exact hv g h2
  · exact Nat.le_trans h1.size h2
theorem ctOwnE (w:World):∀ g,OwnO (.slice (some ⟨w.heap.size,0,none⟩) 0 0) g → w.heap.size ≤ g:=fun g h => by
  injection h with h
  exact Nat.le_of_eq h
set_option maxRecDepth 8000 in
theorem xhear_v {v:Value} {s:Ct} {O:Nat → Prop} {f:Fr} (w:World) (h:CtD w v s O) (hok:s.Ok) (hls:s.lost ≤ 1000000) (hL:SlL w w.heap.size s.va s.acc) (hfit:∀ x ∈ s.acc,x.fits) :
    Calls Tryz.prog 46 #[v, .agg #[.int .i64 f.i, .int .i64 f.n, .int .i64 f.l, .string f.d]] w fun e w' => e = .returned (.bool (s.hear f).2) ∧ Stp CtD v O w (s.hear f).1 w':=by
  obtain ⟨b,bv,Ob,vf,rfl,rfl,hm⟩:=h
  obtain ⟨x,hx⟩:∃ x,s.hear f = x:=⟨_,rfl⟩
  rw [hx]
  obtain ⟨L,hacc⟩:∃ L,s.acc = L:=⟨_,rfl⟩
  rw [hacc] at hL hfit
  have HAC:=Lib.hid hacc
  clear hacc
  have HX:=Lib.hid hx
  clear hx
  obtain ⟨vn,hvn,hvl⟩:=word_nat f.i f.n f.l f.d.size
  have HVN:=Lib.hid hvn
  have HVL:=Lib.hid hvl
  have HFT:=Lib.hid hfit
  have HOK:=Lib.hid hok
  have HLS:=Lib.hid hls
  obtain ⟨w0,e0⟩:∃ w0,w.alloc (.cells #[.int .i64 f.i, .int .i64 f.n, .int .i64 f.l, .string f.d] 35) = w0:=⟨_,rfl⟩
  have hb0:Below w.heap.size w w0:=by rw [← e0]; exact (Below.refl _ _).alloc (Nat.le_refl _) _
  have HB0:=Lib.hid hb0
  have HF0:Hid (BoxF w0 w.heap.size f.i f.n f.l f.d):=Lib.hid (by rw [← e0]; exact BoxF.made _ _ _ _ _)
  have HMW:=Lib.hid hm
  have HM0:=Lib.hid (hm.later hb0)
  have HSA:Hid (∀ q:Later w0,SlL q.w q.w.heap.size s.va L):=Lib.hid (fun q => (hL.later hb0).later q.h)
  obtain ⟨A0,cap0,hva,hLm,_⟩:=hL
  unfold maxLen at hLm
  obtain ⟨c0,c1,c2,c3,c4,c5⟩:=HM0.out.cells
  obtain ⟨d0,d1,d2,d3⟩:=HF0.out.cells
  have hz0:=HF0.out.lt
  have hbz:b < w0.heap.size:=heap_some_lt HM0.out.box
  rw [hva] at c3
  have HVA:=Lib.hid hva
  clear hva
  obtain ⟨q,hq⟩:∃ q,keyG f = q:=⟨_,rfl⟩
  have HQ:Hid (keyV f.i f.n f.l f.d.size = q):=Lib.hid hq
  have hl:=later_cells
  have HFRL:Hid (s.fifo.length ≤ 1000):=Lib.hid (by have:=hok.fifo; have:=hok.room; omega)
  clear hm hb0 hvn hvl hfit hok hls
  by_cases h1:q < 0
  · have hd:decide (q < 0) = true:=decide_eq_true h1
    have HE:Hid (s.hear f = (s,false)):=Lib.hid (by unfold Ct.hear letF; rw [hq,hd]; rfl)
    obtain rfl:=HE.out.symm.trans HX.out
    clear h1 hq
    go_enter Tryz.func46,Tryz.ntmps46
    go_wp2_with fail
    refine wp_region_later (by kernel_rfl) (by kernel_rfl) ?_
    repeat (go_big_quiet_step (fail))
    go_big_quiet_step (exact Later.call (rkey_v HQ.out _))
    repeat (go_big_quiet_step (fail))
    refine wpQuiet_nil ?_
    rintro w1 ⟨m,rfl⟩
    go_wp2
    go_ret
    exact ⟨rfl,HMW.out.stp (fbelow_t HB0.out m.h)⟩
  have hd:decide (q < 0) = false:=decide_eq_false h1
  by_cases h2:L.length = 0
  · have HLT:Hid (letF L f = true):=Lib.hid (by unfold letF; rw [hq,hd,decide_eq_true h2]; rfl)
    obtain rfl:L = []:=List.eq_nil_of_length_eq_zero h2
    rw [List.length_nil] at c3
    clear h1 hq h2
    go_enter Tryz.func46,Tryz.ntmps46
    go_wp2_with fail
    refine wp_region_later (by kernel_rfl) (by kernel_rfl) ?_
    repeat (go_big_quiet_step (fail))
    go_big_quiet_step (exact Later.call (rkey_v HQ.out _))
    repeat (go_big_quiet_step (fail))
    refine wpQuiet_nil ?_
    rintro w1 ⟨m,rfl⟩
    have HB1:Hid (Below w.heap.size w m.w):=Lib.hid (fbelow_t HB0.out m.h)
    have HM1:=Lib.hid (HM0.out.later m.h)
    have HF1:=Lib.hid (HF0.out.later m.h)
    clear c0 c1 c2 c3 c4 c5 d0 d1 d2 d3 hz0 hbz hl HSA
    generalize m.w = w1 at *
    obtain ⟨A5,c5',hsh⟩:=HM1.out.fifo.shape
    subst hsh
    obtain ⟨c0,c1,c2,c3,c4,c5⟩:=HM1.out.cells
    rw [HVA.out] at c3
    by_cases h3:(s.fifo.length:Int) = s.room
    · have HE:Hid (s.hear f = ({ s with lost:=s.lost + 1,asks:=setB s.asks 4 },false)):=Lib.hid (by unfold Ct.hear; rw [HAC.out,HLT.out,if_neg (by decide),if_pos h3])
      obtain rfl:=HE.out.symm.trans HX.out
      have hfu:((s.fifo.length:Int) == s.room) = true:=by simp [h3]
      have hls:=HLS.out
      have hl0:=HOK.out.ls
      clear h3
      go_wp2_with fail
      go_quiet (fail)
      generalize hwd:w1.drewN _ = wd
      have hbd:Below w1.heap.size w1 wd:=by rw [← hwd]; exact below_drewN (Below.refl _ w1) _
      clear hwd
      have HMD:=Lib.hid (HM1.out.later hbd)
      obtain ⟨q0,q1,q2,q3,q4,q5⟩:=HMD.out.cells
      have f4:=HMD.out.live 4
      have HBD:=Lib.hid (fbelow_t HB1.out hbd)
      clear c0 c1 c2 c3 c4 c5 hbd
      have HM2:=Lib.hid (HMD.out.setNum (s' := { s with lost:=s.lost + 1 }) 4 (.int .i64 (s.lost + 1)) rfl rfl rfl)
      go_wp2_with fail
      refine (xset_v (s := { s with lost:=s.lost + 1 }) _ ⟨_,_,_,_,rfl,rfl,HM2.out⟩ HOK.out.ak (by decide)).mono ?_
      rintro e w3 ⟨rfl,hs3⟩
      have HF:Hid (Stp CtD (.pointer (some ⟨b,0,none⟩)) (ctO b Ob (.slice A5 s.fifo.length c5')) w { s with lost:=s.lost + 1,asks:=setB s.asks 4 } w3):=Lib.hid
        (stp_comb ((Kept.of_below HBD.out).trans setNum_kept (Grows.refl _ _)) (Grows.refl _ _) hs3)
      clear hs3
      go_wp2
      go_ret
      exact ⟨rfl,HF.out⟩
    · have HE:Hid (s.hear f = ({ s with fifo:=s.fifo ++ [f],asks:=setB s.asks 2 },true)):=Lib.hid (by unfold Ct.hear; rw [HAC.out,HLT.out,if_neg (by decide),if_neg h3])
      obtain rfl:=HE.out.symm.trans HX.out
      have hfu:((s.fifo.length:Int) == s.room) = false:=by simp [h3]
      clear h3
      go_wp2_with fail
      go_quiet (fail)
      generalize hwd:w1.drewN _ = wd
      have hbd:Below w1.heap.size w1 wd:=by rw [← hwd]; exact below_drewN (Below.refl _ w1) _
      clear hwd
      have HMD:=Lib.hid (HM1.out.later hbd)
      have HFD:=Lib.hid (HF1.out.later hbd)
      obtain ⟨q0,q1,q2,q3,q4,q5⟩:=HMD.out.cells
      have HBD:=Lib.hid (fbelow_t HB1.out hbd)
      clear c0 c1 c2 c3 c4 c5 hbd
      have HBE:=fun o:Obj => (Below.refl wd.heap.size wd).alloc (Nat.le_refl _) o
      have HRE:=Lib.hid HBE
      clear HBE
      have hbb:=heap_some_lt HMD.out.box
      go_wp2_with (at_builtin; first | (refine wpList_qO (c:=frC) (L:=s.fifo) (M := [f]) flat_fr frC_len frC_one rfl (.tmp 53) (.tmp 55) rfl (by rfl) HQ4.out (by rfl) HRD.out (by have:=HFRL.out; simp; omega) ?_; rintro v4 w4 hq4 hk4 hg4; obtain ⟨g4,o4,cap4,rfl⟩:=hq4.form; have HQ5:=Lib.hid hq4; obtain ⟨hb4,ho4⟩:=ctOwn (w:=wd) HB3.out HO3.out hk4 hg4; have HB4:=Lib.hid hb4; have HO4:=Lib.hid ho4; obtain ⟨q0,q1,q2,q3,q4,q5⟩:=(HMD.out.later hb4).cells; have yf:=(HMD.out.later hb4).live 1; clear hq4 hk4 hg4 hb4 ho4 d0 d1 d2 d3) | (refine wpList_qO (c:=frC) (L := []) (M:=s.fifo) flat_fr frC_len frC_one rfl (.tmp 46) (.tmp 50) rfl (by simp [Act.eval]) (ctEmpty wd _) (by simp [Act.eval]) (ctRda (HMD.out.fifo.later (HRE.out _)) frC_len (by have:=HFRL.out; unfold maxLen; omega)) (by have:=HFRL.out; simp; omega) ?_; rintro v3 w3 hq3 hk3 hg3; have HQ3:=Lib.hid hq3; have HK3:=Lib.hid hk3; have HG3:=Lib.hid hg3; obtain ⟨hb3,ho3⟩:=ctOwn (Below.refl _ wd) (ctOwnE wd) hk3 hg3; have HB3:=Lib.hid hb3; have HO3:=Lib.hid ho3; obtain ⟨d0,d1,d2,d3⟩:=(HFD.out.later hb3).cells; clear hq3 hk3 hg3 hb3 ho3 q0 q1 q2 q3 q4 q5; have HBL:Hid (Below w3.heap.size w3 (w3.alloc (.cells #[.int .i64 f.i, .int .i64 f.n, .int .i64 f.l, .string f.d] 35))):=Lib.hid ((Below.refl _ _).alloc (Nat.le_refl _) _); have HQ4:Hid (RowQ frC 4 (w3.alloc (.cells #[.int .i64 f.i, .int .i64 f.n, .int .i64 f.l, .string f.d] 35)) v3 s.fifo):=Lib.hid (RowQ.later (L:=s.fifo) HQ3.out HBL.out); have HRD:Hid (RdA frC 4 (w3.alloc (.cells #[.int .i64 f.i, .int .i64 f.n, .int .i64 f.l, .string f.d] 35)) (.slice (some ⟨w3.heap.size,0,none⟩) 1 1) [f]):=Lib.hid (RdA.one frC_len _ _ _ rfl rfl)))
      obtain ⟨hm5,hk5,hg5⟩:=HMD.out.setFifo HB4.out HQ5.out (fun k hk => .inr (HO4.out k hk))
      refine (xset_v (s := { s with fifo:=s.fifo ++ [f] }) _ ⟨_,_,_,_,rfl,rfl,hm5⟩ HOK.out.ak (by decide)).mono ?_
      rintro e w6 ⟨rfl,hs6⟩
      have HF:Hid (Stp CtD (.pointer (some ⟨b,0,none⟩)) (ctO b Ob (.slice A5 s.fifo.length c5')) w { s with fifo:=s.fifo ++ [f],asks:=setB s.asks 2 } w6):=Lib.hid
        (stp_comb ((Kept.of_below HBD.out).trans hk5 (Grows.refl _ _)) (fun k hk => (hg5 k hk).imp id (fun h => Nat.le_trans HBD.out.size h)) hs6)
      clear hs6 hm5 hk5 hg5
      go_wp2
      go_ret
      exact ⟨rfl,HF.out⟩
  · have hpl:decide (0 < L.length) = true:=decide_eq_true (by omega)
    obtain ⟨c,hc⟩:∃ c,carB f.i f.n f.l f.d.size = c:=⟨_,rfl⟩
    obtain ⟨r,hr⟩:∃ r,anyB c L false vn = r:=⟨_,rfl⟩
    have HLT:Hid (letF L f = r):=Lib.hid (by unfold letF; rw [hq,hd,decide_eq_false h2,HVN.out,Int.toNat_natCast,hc,hr]; rfl)
    have HC:=Lib.hid hc
    have HR:=Lib.hid hr
    clear h1 hq h2 hc hr
    go_enter Tryz.func46,Tryz.ntmps46
    go_wp2_with fail
    refine wp_region_later (by kernel_rfl) (by kernel_rfl) ?_
    repeat (go_big_quiet_step (fail))
    go_big_quiet_step (exact Later.call (rkey_v HQ.out _))
    repeat (go_big_quiet_step (fail))
    go_big_quiet_step (exact Later.call (rany_v c HC.out HVN.out HVL.out HR.out HFT.out _ (by rw [← HVA.out]; exact HSA.out _)))
    repeat (go_big_quiet_step (fail))
    refine wpQuiet_nil ?_
    rintro w1 ⟨m,rfl⟩
    cases r
    · have HE:Hid (s.hear f = (s,false)):=Lib.hid (by unfold Ct.hear; rw [HAC.out,HLT.out,if_pos rfl])
      obtain rfl:=HE.out.symm.trans HX.out
      go_wp2
      go_ret
      exact ⟨rfl,HMW.out.stp (fbelow_t HB0.out m.h)⟩
    · have HB1:Hid (Below w.heap.size w m.w):=Lib.hid (fbelow_t HB0.out m.h)
      have HM1:=Lib.hid (HM0.out.later m.h)
      have HF1:=Lib.hid (HF0.out.later m.h)
      clear c0 c1 c2 c3 c4 c5 d0 d1 d2 d3 hz0 hbz hl HSA
      generalize m.w = w1 at *
      obtain ⟨A5,c5',hsh⟩:=HM1.out.fifo.shape
      subst hsh
      obtain ⟨c0,c1,c2,c3,c4,c5⟩:=HM1.out.cells
      rw [HVA.out] at c3
      by_cases h3:(s.fifo.length:Int) = s.room
      · have HE:Hid (s.hear f = ({ s with lost:=s.lost + 1,asks:=setB s.asks 4 },false)):=Lib.hid (by unfold Ct.hear; rw [HAC.out,HLT.out,if_neg (by decide),if_pos h3])
        obtain rfl:=HE.out.symm.trans HX.out
        have hfu:((s.fifo.length:Int) == s.room) = true:=by simp [h3]
        have hls:=HLS.out
        have hl0:=HOK.out.ls
        clear h3
        go_wp2_with fail
        go_quiet (fail)
        generalize hwd:w1.drewN _ = wd
        have hbd:Below w1.heap.size w1 wd:=by rw [← hwd]; exact below_drewN (Below.refl _ w1) _
        clear hwd
        have HMD:=Lib.hid (HM1.out.later hbd)
        obtain ⟨q0,q1,q2,q3,q4,q5⟩:=HMD.out.cells
        have f4:=HMD.out.live 4
        have HBD:=Lib.hid (fbelow_t HB1.out hbd)
        clear c0 c1 c2 c3 c4 c5 hbd
        have HM2:=Lib.hid (HMD.out.setNum (s' := { s with lost:=s.lost + 1 }) 4 (.int .i64 (s.lost + 1)) rfl rfl rfl)
        go_wp2_with fail
        refine (xset_v (s := { s with lost:=s.lost + 1 }) _ ⟨_,_,_,_,rfl,rfl,HM2.out⟩ HOK.out.ak (by decide)).mono ?_
        rintro e w3 ⟨rfl,hs3⟩
        have HF:Hid (Stp CtD (.pointer (some ⟨b,0,none⟩)) (ctO b Ob (.slice A5 s.fifo.length c5')) w { s with lost:=s.lost + 1,asks:=setB s.asks 4 } w3):=Lib.hid
          (stp_comb ((Kept.of_below HBD.out).trans setNum_kept (Grows.refl _ _)) (Grows.refl _ _) hs3)
        clear hs3
        go_wp2
        go_ret
        exact ⟨rfl,HF.out⟩
      · have HE:Hid (s.hear f = ({ s with fifo:=s.fifo ++ [f],asks:=setB s.asks 2 },true)):=Lib.hid (by unfold Ct.hear; rw [HAC.out,HLT.out,if_neg (by decide),if_neg h3])
        obtain rfl:=HE.out.symm.trans HX.out
        have hfu:((s.fifo.length:Int) == s.room) = false:=by simp [h3]
        clear h3
        go_wp2_with fail
        go_quiet (fail)
        generalize hwd:w1.drewN _ = wd
        have hbd:Below w1.heap.size w1 wd:=by rw [← hwd]; exact below_drewN (Below.refl _ w1) _
        clear hwd
        have HMD:=Lib.hid (HM1.out.later hbd)
        have HFD:=Lib.hid (HF1.out.later hbd)
        obtain ⟨q0,q1,q2,q3,q4,q5⟩:=HMD.out.cells
        have HBD:=Lib.hid (fbelow_t HB1.out hbd)
        clear c0 c1 c2 c3 c4 c5 hbd
        have HBE:=fun o:Obj => (Below.refl wd.heap.size wd).alloc (Nat.le_refl _) o
        have HRE:=Lib.hid HBE
        clear HBE
        have hbb:=heap_some_lt HMD.out.box
        go_wp2_with (at_builtin; first | (refine wpList_qO (c:=frC) (L:=s.fifo) (M := [f]) flat_fr frC_len frC_one rfl (.tmp 53) (.tmp 55) rfl (by rfl) HQ4.out (by rfl) HRD.out (by have:=HFRL.out; simp; omega) ?_; rintro v4 w4 hq4 hk4 hg4; obtain ⟨g4,o4,cap4,rfl⟩:=hq4.form; have HQ5:=Lib.hid hq4; obtain ⟨hb4,ho4⟩:=ctOwn (w:=wd) HB3.out HO3.out hk4 hg4; have HB4:=Lib.hid hb4; have HO4:=Lib.hid ho4; obtain ⟨q0,q1,q2,q3,q4,q5⟩:=(HMD.out.later hb4).cells; have yf:=(HMD.out.later hb4).live 1; clear hq4 hk4 hg4 hb4 ho4 d0 d1 d2 d3) | (refine wpList_qO (c:=frC) (L := []) (M:=s.fifo) flat_fr frC_len frC_one rfl (.tmp 46) (.tmp 50) rfl (by simp [Act.eval]) (ctEmpty wd _) (by simp [Act.eval]) (ctRda (HMD.out.fifo.later (HRE.out _)) frC_len (by have:=HFRL.out; unfold maxLen; omega)) (by have:=HFRL.out; simp; omega) ?_; rintro v3 w3 hq3 hk3 hg3; have HQ3:=Lib.hid hq3; have HK3:=Lib.hid hk3; have HG3:=Lib.hid hg3; obtain ⟨hb3,ho3⟩:=ctOwn (Below.refl _ wd) (ctOwnE wd) hk3 hg3; have HB3:=Lib.hid hb3; have HO3:=Lib.hid ho3; obtain ⟨d0,d1,d2,d3⟩:=(HFD.out.later hb3).cells; clear hq3 hk3 hg3 hb3 ho3 q0 q1 q2 q3 q4 q5; have HBL:Hid (Below w3.heap.size w3 (w3.alloc (.cells #[.int .i64 f.i, .int .i64 f.n, .int .i64 f.l, .string f.d] 35))):=Lib.hid ((Below.refl _ _).alloc (Nat.le_refl _) _); have HQ4:Hid (RowQ frC 4 (w3.alloc (.cells #[.int .i64 f.i, .int .i64 f.n, .int .i64 f.l, .string f.d] 35)) v3 s.fifo):=Lib.hid (RowQ.later (L:=s.fifo) HQ3.out HBL.out); have HRD:Hid (RdA frC 4 (w3.alloc (.cells #[.int .i64 f.i, .int .i64 f.n, .int .i64 f.l, .string f.d] 35)) (.slice (some ⟨w3.heap.size,0,none⟩) 1 1) [f]):=Lib.hid (RdA.one frC_len _ _ _ rfl rfl)))
        obtain ⟨hm5,hk5,hg5⟩:=HMD.out.setFifo HB4.out HQ5.out (fun k hk => .inr (HO4.out k hk))
        refine (xset_v (s := { s with fifo:=s.fifo ++ [f] }) _ ⟨_,_,_,_,rfl,rfl,hm5⟩ HOK.out.ak (by decide)).mono ?_
        rintro e w6 ⟨rfl,hs6⟩
        have HF:Hid (Stp CtD (.pointer (some ⟨b,0,none⟩)) (ctO b Ob (.slice A5 s.fifo.length c5')) w { s with fifo:=s.fifo ++ [f],asks:=setB s.asks 2 } w6):=Lib.hid
          (stp_comb ((Kept.of_below HBD.out).trans hk5 (Grows.refl _ _)) (fun k hk => (hg5 k hk).imp id (fun h => Nat.le_trans HBD.out.size h)) hs6)
        clear hs6 hm5 hk5 hg5
        go_wp2
        go_ret
        exact ⟨rfl,HF.out⟩
end Go.Proofs.YtimdkcchjanpaaaGreatDoor
namespace Go.Proofs.YtimdkcchjanpaaaGreatDoor
open Go.RowKit
set_option linter.unusedVariables false
def Bx.abs (s:Bx):Nat → Bx × Nat
  | 0 => (s,0)
  | k + 1 => (((s.abs k).1.end_ (k:Int) 3).1,(s.abs k).2 + if ((s.abs k).1.end_ (k:Int) 3).2 = 0 then 1 else 0)
theorem Bx.end_len (s:Bx) (i st:Int):(s.end_ i st).1.S.length = s.S.length:=by
  unfold Bx.end_
  split
  · rfl
  · simp [Bx.endAt]
theorem Bx.abs_len (s:Bx):∀ k,(s.abs k).1.S.length = s.S.length
  | 0 => rfl
  | k + 1 => by unfold Bx.abs; rw [Bx.end_len,Bx.abs_len s k]
theorem Bx.abs_le (s:Bx):∀ k,(s.abs k).2 ≤ k
  | 0 => Nat.le_refl _
  | k + 1 => by
    have:=Bx.abs_le s k
    unfold Bx.abs
    simp only
    split <;> omega
theorem Bx.Ok.abs {s:Bx} (h:s.Ok):∀ k,(s.abs k).1.Ok
  | 0 => h
  | k + 1 => (h.abs k).end_ _ (.inr rfl)
def Ct.abort (s:Ct):Ct × Nat :=
  if 0 < (s.bx.abs s.bx.S.length).2 then ({ s with bx:=(s.bx.abs s.bx.S.length).1,asks:=setB s.asks 1 },(s.bx.abs s.bx.S.length).2) else ({ s with bx:=(s.bx.abs s.bx.S.length).1 },0)
theorem Ct.abort_n (s:Ct):s.abort.2 = (s.bx.abs s.bx.S.length).2:=by
  unfold Ct.abort
  split
  · rfl
  · simp only; omega
def AbS (w:World) (b:Nat) (bv vf:Value) (Ob:Nat → Prop) (s:Ct) (k:Nat) (wr:World):Prop := ∃ Ob',CtM wr b bv Ob' vf { s with bx:=(s.bx.abs k).1 } ∧ Kept (ctO b Ob vf) w wr ∧ Grows (ctO b Ob vf) w (ctO b Ob' vf)
theorem xabort_v {v:Value} {s:Ct} {O:Nat → Prop} (w:World) (h:CtD w v s O) (hok:s.Ok) :
    Calls Tryz.prog 94 #[v] w fun e w' => e = .returned (.int .i64 (s.abort.2:Nat)) ∧ Stp CtD v O w s.abort.1 w':=by
  obtain ⟨b,bv,Ob,vf,rfl,rfl,hm⟩:=h
  have HM:=Lib.hid hm
  have HOK:=Lib.hid hok
  have hl2:(s.bx.S.length:Int) ≤ 1000:=by have:=hok.bx.n2; omega
  rw [Ct.abort_n]
  clear hm hok
  go_enter Tryz.func94,Tryz.ntmps94
  go_wp2
  go_loopw [3,4] (fun n i wr => ∃ k:Nat,k ≤ s.bx.S.length ∧ i = .int .i64 k ∧ n = .int .i64 ((s.bx.abs k).2:Nat) ∧ Hid (AbS w b bv vf Ob s k wr)) (fun _ i _ => s.bx.S.length - (intOf i).toNat)
  case atStart => exact ⟨0,Nat.zero_le _,rfl,rfl,Lib.hid ⟨Ob,HM.out,Kept.refl _ _,Grows.refl _ _⟩⟩
  case round =>
    obtain ⟨k,hk,rfl,rfl,HI⟩:=hrel
    obtain ⟨Ob',hm1,hk1,hg1⟩:=HI.out
    have HM1:=Lib.hid hm1
    have HK1:=Lib.hid hk1
    have HG1:=Lib.hid hg1
    obtain ⟨c0,c1,c2,c3,c4,c5⟩:=hm1.cells
    have hbx:=hm1.bx
    obtain ⟨b5,gs,gp,vo,ve,rfl,hOb,hbm⟩:=hbx
    obtain ⟨a0,a1,a2,a3⟩:=hbm.cells
    have hal:=s.bx.abs_len k
    simp only at a0 a1
    rw [hal] at a0 a1
    have hle:=s.bx.abs_le k
    have HBO:=Lib.hid (HOK.out.bx.abs k)
    clear hm1 hk1 hg1 hbm hOb hal
    by_cases hlt:k < s.bx.S.length
    · have hkl:(k:Int) < (s.bx.S.length:Int):=by omega
      obtain ⟨e,he⟩:∃ e,((s.bx.abs k).1.end_ (k:Int) 3).2 = e:=⟨_,rfl⟩
      have HE:=Lib.hid he
      have HSU:Hid ((s.bx.abs (k + 1)).1 = ((s.bx.abs k).1.end_ (k:Int) 3).1 ∧ (s.bx.abs (k + 1)).2 = (s.bx.abs k).2 + if e = 0 then 1 else 0):=Lib.hid ⟨rfl,by rw [← he]; rfl⟩
      clear he
      go_wp2_with fail
      refine (xend_v wr HM1.out.bx HE.out HBO.out.n2 HBO.out.ordLe HBO.out.finLe).mono ?_
      rintro x w2 ⟨rfl,hs2⟩
      obtain ⟨Ob2,hm2,hk2,hg2⟩:=HM1.out.boxes hs2
      have HR:Hid (AbS w b (.pointer (some ⟨b5,0,none⟩)) vf Ob s (k + 1) w2):=Lib.hid ⟨Ob2,by rw [HSU.out.1]; exact hm2,HK1.out.trans hk2 HG1.out,HG1.out.trans hg2 HK1.out.size⟩
      clear hs2 hm2 hk2 hg2 c0 c1 c2 c3 c4 c5 a0 a1 a2 a3
      by_cases h0:e = 0
      · subst h0
        have HN:Hid ((s.bx.abs (k + 1)).2 = (s.bx.abs k).2 + 1):=Lib.hid HSU.out.2
        go_wp2_with fail
        go_roundw
        case rel => exact ⟨k + 1,by omega,by go_num,by rw [HN.out]; go_num,HR⟩
        case measure => simp [intOf]; omega
      · have HN:Hid ((s.bx.abs (k + 1)).2 = (s.bx.abs k).2):=Lib.hid (by rw [HSU.out.2,if_neg h0]; rfl)
        have e0:(e == 0) = false:=by simp [h0]
        clear h0
        go_wp2_with fail
        go_roundw
        case rel => exact ⟨k + 1,by omega,by go_num,by rw [HN.out],HR⟩
        case measure => simp [intOf]; omega
    · obtain rfl:k = s.bx.S.length:=by omega
      by_cases hp:0 < (s.bx.abs s.bx.S.length).2
      · have HA:Hid (s.abort.1 = { s with bx:=(s.bx.abs s.bx.S.length).1,asks:=setB s.asks 1 }):=Lib.hid (by unfold Ct.abort; rw [if_pos hp])
        have hd:decide (0 < (s.bx.abs s.bx.S.length).2) = true:=decide_eq_true hp
        clear hp
        go_wp2_with fail
        refine (xset_v (s := { s with bx:=(s.bx.abs s.bx.S.length).1 }) wr ⟨_,_,_,_,rfl,rfl,HM1.out⟩ HOK.out.ak (by decide)).mono ?_
        rintro e w3 ⟨rfl,hs3⟩
        have HF:Hid (Stp CtD (.pointer (some ⟨b,0,none⟩)) (ctO b Ob vf) w s.abort.1 w3):=Lib.hid (by rw [HA.out]; exact stp_comb HK1.out HG1.out hs3)
        clear hs3
        go_wp2
        go_ret
        exact ⟨rfl,HF.out⟩
      · have HA:Hid (s.abort.1 = { s with bx:=(s.bx.abs s.bx.S.length).1 }):=Lib.hid (by unfold Ct.abort; rw [if_neg hp])
        have hd:decide (0 < (s.bx.abs s.bx.S.length).2) = false:=decide_eq_false hp
        have HF:Hid (Stp CtD (.pointer (some ⟨b,0,none⟩)) (ctO b Ob vf) w s.abort.1 wr):=Lib.hid (by rw [HA.out]; exact ⟨_,⟨_,_,_,_,rfl,rfl,HM1.out⟩,HK1.out,HG1.out⟩)
        clear hp
        go_wp2_with fail
        go_ret
        exact ⟨rfl,HF.out⟩
end Go.Proofs.YtimdkcchjanpaaaGreatDoor
namespace Go.Proofs.YtimdkcchjanpaaaGreatDoor
open Go.RowKit
set_option linter.unusedVariables false
section
variable {σ τ:Type} {I:World → Value → σ → (Nat → Prop) → Prop} {J:World → Value → τ → (Nat → Prop) → Prop} {w0 w w' wb:World} {v v':Value} {s s':σ} {t t':τ} {U O O' O1:Nat → Prop}
structure PairJ (I:World → Value → σ → (Nat → Prop) → Prop) (J:World → Value → τ → (Nat → Prop) → Prop) (w0:World) (v v':Value) (s:σ) (t:τ) (U O O':Nat → Prop) (w wb:World):Prop where
  pr:Pair I J w0 v v' s t O O' w
  kp:Kept U wb w
  g1:Grows U wb O
  g2:Grows U wb O'
theorem PairJ.start (hI:IsObj I) (hJ:IsObj J) (h:Pair I J w0 v v' s t O O' w) (hb:Below wb.heap.size wb w):PairJ I J w0 v v' s t (fun k => O k ∨ O' k) O O' w wb:=⟨h, .of_below hb,fun k h => .inl (.inl h),fun k h => .inl (.inr h)⟩
theorem PairJ.later (hI:IsObj I) (hJ:IsObj J) (h:PairJ I J w0 v v' s t U O O' w wb) (hb:Below w.heap.size w w'):PairJ I J w0 v v' s t U O O' w' wb:=⟨h.pr.later hI hJ hb,h.kp.trans (.of_below (O:=U) hb) (Grows.refl _ _),h.g1,h.g2⟩
theorem PairJ.stepA (hI:IsObj I) (hJ:IsObj J) (h:PairJ I J w0 v v' s t U O O' w wb) (hi:I w' v s' O1) (hk:Kept O w w') (hg:Grows O w O1):PairJ I J w0 v v' s' t U O1 O' w' wb :=
  ⟨h.pr.stepA hI hJ hi hk hg,h.kp.trans hk h.g1,h.g1.trans hg h.kp.size,h.g2⟩
theorem PairJ.stepB (hI:IsObj I) (hJ:IsObj J) (h:PairJ I J w0 v v' s t U O O' w wb) (hi:J w' v' t' O1) (hk:Kept O' w w') (hg:Grows O' w O1):PairJ I J w0 v v' s t' U O O1 w' wb :=
  ⟨h.pr.stepB hI hJ hi hk hg,h.kp.trans hk h.g2,h.g1,h.g2.trans hg h.kp.size⟩
end
theorem slA_old {α:Type} {c:α → List Value} {n:Nat} {w0 w:World} {v:Value} {L:List α} {O:Nat → Prop} (h:SlG c n w0 w0.heap.size v L) (hb:Below w0.heap.size w0 w) (hO:∀ k,O k → w0.heap.size ≤ k):SlA c n w O v L:=by
  obtain ⟨A,cap,hv,hm,hc⟩:=h
  refine ⟨A,cap,hv,hm,fun i a ha => ?_⟩
  obtain ⟨x,h1,h2,h4⟩:=hc i a ha
  exact ⟨x,h1,Nat.lt_of_lt_of_le h2 hb.size,fun h => by have:=hO _ h; omega,fun j u hu => (hb.cell (by rw [addr_block]; exact h2)).trans (h4 j u hu)⟩
end Go.Proofs.YtimdkcchjanpaaaGreatDoor
namespace Go.Proofs.YtimdkcchjanpaaaGreatDoor
open Go.RowKit
set_option linter.unusedVariables false
abbrev fmV (f:Fr):Value := .agg #[.int .i64 f.i, .int .i64 f.n, .int .i64 f.l, .string f.d]
def Fr.n64 (f:Fr):Prop := -9223372036854775808 ≤ f.n ∧ f.n ≤ 9223372036854775807
theorem setB_rng {a bit:Int} (ha:0 ≤ a ∧ a < 16) (hb:bit = 1 ∨ bit = 2 ∨ bit = 4 ∨ bit = 8):0 ≤ setB a bit ∧ setB a bit < 16:=by
  have key:∀ x:Fin 16, ∀ b ∈ [(1:Int),2,4,8],0 ≤ setB (x:Int) b ∧ setB (x:Int) b < 16:=by decide +kernel
  obtain ⟨n,rfl⟩:=Int.eq_ofNat_of_zero_le ha.1
  have:=key ⟨n,by omega⟩ bit (by simp; exact hb)
  exact this
theorem Ct.Ok.new (c:Cg) (L:List Flt):(ctNew c L).Ok:=by
  have:=roomN_rng c.fi
  exact ⟨Bx.Ok.new c.bo,⟨Int.le_refl _,by show (0:Int) < 16; decide⟩,this,by show ((([]:List Fr).length:Nat):Int) ≤ roomN c.fi; simp; omega,Int.le_refl _⟩
section
variable {s:Ct} (h:s.Ok)
include h
theorem Ct.Ok.set {bit:Int} (hb:bit = 1 ∨ bit = 2 ∨ bit = 4 ∨ bit = 8):({ s with asks:=setB s.asks bit }:Ct).Ok:=⟨h.bx,setB_rng h.ak hb,h.room,h.fifo,h.ls⟩
theorem Ct.Ok.won:s.won.Ok:=by
  unfold Ct.won
  split
  · exact h
  · exact ⟨h.bx.end_ _ (.inl rfl),setB_rng h.ak (.inl rfl),h.room,h.fifo,h.ls⟩
theorem Ct.Ok.hear (f:Fr):(s.hear f).1.Ok:=by
  unfold Ct.hear
  split
  · exact h
  · split
    · exact ⟨h.bx,setB_rng h.ak (.inr (.inr (.inl rfl))),h.room,h.fifo,by show 0 ≤ s.lost + 1; have:=h.ls; omega⟩
    · rename_i h2
      exact ⟨h.bx,setB_rng h.ak (.inr (.inl rfl)),h.room,by show (((s.fifo ++ [f]).length:Nat):Int) ≤ s.room; have:=h.fifo; simp; omega,h.ls⟩
theorem Ct.Ok.clear (n:Int):({ s with asks:=clrK s.asks n 4 }:Ct).Ok:=⟨h.bx,clrK_rng h.ak 4 (Nat.le_refl _),h.room,h.fifo,h.ls⟩
theorem Ct.Ok.abort:s.abort.1.Ok:=by
  unfold Ct.abort
  split
  · exact ⟨h.bx.abs _,setB_rng h.ak (.inl rfl),h.room,h.fifo,h.ls⟩
  · exact ⟨h.bx.abs _,h.ak,h.room,h.fifo,h.ls⟩
end
theorem Ct.won_acc (s:Ct):s.won.va = s.va ∧ s.won.acc = s.acc ∧ s.won.lost = s.lost:=by unfold Ct.won; split <;> exact ⟨rfl,rfl,rfl⟩
theorem Ct.abort_acc (s:Ct):s.abort.1.va = s.va ∧ s.abort.1.acc = s.acc ∧ s.abort.1.lost = s.lost:=by unfold Ct.abort; split <;> exact ⟨rfl,rfl,rfl⟩
theorem Ct.hear_acc (s:Ct) (f:Fr):(s.hear f).1.va = s.va ∧ (s.hear f).1.acc = s.acc ∧ s.lost ≤ (s.hear f).1.lost ∧ (s.hear f).1.lost ≤ s.lost + 1:=by
  unfold Ct.hear
  split
  · exact ⟨rfl,rfl,by simp only; omega,by simp only; omega⟩
  · split
    · exact ⟨rfl,rfl,by simp only; omega,by simp only; omega⟩
    · exact ⟨rfl,rfl,by simp only; omega,by simp only; omega⟩
end Go.Proofs.YtimdkcchjanpaaaGreatDoor
namespace Go.Proofs.YtimdkcchjanpaaaGreatDoor
open Go.RowKit
set_option linter.unusedVariables false
def aY (y:BitVec 64) (b:Int):Int:=IntKind.i64.wrap ((y &&& BitVec.ofInt 64 b).toNat:Int)
def nY (a:Int) (y:BitVec 64):Int:=IntKind.i64.wrap ((BitVec.ofInt 64 a &&& ~~~y).toNat:Int)
def bY (a:Int) (y:BitVec 64):Int:=IntKind.i64.wrap ((BitVec.ofInt 64 a &&& y).toNat:Int)
theorem nY_bits (a n:Int):bits .andNot .i64 a n = nY a (BitVec.ofInt 64 n):=rfl
theorem low15 {a:Int} (h:0 ≤ a ∧ a < 16):BitVec.ofInt 64 a &&& 15#64 = BitVec.ofInt 64 a:=by
  have key:∀ x:Fin 16,BitVec.ofInt 64 (x:Int) &&& 15#64 = BitVec.ofInt 64 (x:Int):=by decide +kernel
  obtain ⟨n,rfl⟩:=Int.eq_ofNat_of_zero_le h.1
  exact key ⟨n,by omega⟩
theorem and_low (x y:BitVec 64) (h:x &&& 15#64 = x):x &&& y = x &&& (y &&& 15#64):=by
  rw [← BitVec.and_assoc,BitVec.and_assoc x y,BitVec.and_comm y,← BitVec.and_assoc,h]
theorem not_low (x y:BitVec 64) (h:x &&& 15#64 = x):x &&& ~~~y = x &&& ~~~(y &&& 15#64):=by
  apply BitVec.eq_of_getLsbD_eq
  intro i hi
  have hb:x.getLsbD i = (x.getLsbD i && (15#64).getLsbD i):=by
    have:=congrArg (fun v => BitVec.getLsbD v i) h
    simp only [BitVec.getLsbD_and] at this
    exact this.symm
  simp only [BitVec.getLsbD_and,BitVec.getLsbD_not]
  rw [hb]
  cases x.getLsbD i <;> cases y.getLsbD i <;> cases (15#64).getLsbD i <;> simp [hi]
theorem aY_low {b:Int} (h:0 ≤ b ∧ b < 16) (y:BitVec 64):aY y b = aY (y &&& 15#64) b:=by
  unfold aY
  rw [BitVec.and_comm,and_low _ _ (low15 h),BitVec.and_comm]
theorem nY_low {a:Int} (h:0 ≤ a ∧ a < 16) (y:BitVec 64):nY a y = nY a (y &&& 15#64):=by
  unfold nY
  rw [not_low _ _ (low15 h)]
def cY (a:Int) (y:BitVec 64) (b:Int):Int:=if aY y b ≠ 0 ∧ a / b % 2 = 1 then a - b else a
def cYK (a:Int) (y:BitVec 64):Int:=cY (cY (cY (cY a y 1) y 2) y 4) y 8
theorem clrK_y (a n:Int):clrK a n 4 = cYK a (BitVec.ofInt 64 n):=rfl
theorem cYK_low (a:Int) (y:BitVec 64):cYK a y = cYK a (y &&& 15#64):=by
  unfold cYK cY
  rw [← aY_low (b:=1) (by decide),← aY_low (b:=2) (by decide),← aY_low (b:=4) (by decide),← aY_low (b:=8) (by decide)]
theorem y_fin (y:BitVec 64):∃ m:Fin 16,y &&& 15#64 = BitVec.ofNat 64 m.val:=by
  have h:(y &&& 15#64).toNat < 16:=by
    rw [BitVec.toNat_and]
    exact Nat.lt_of_le_of_lt Nat.and_le_right (by decide)
  exact ⟨⟨_,h⟩,by simp⟩
theorem y_key:∀ (x m:Fin 16),cYK (x:Int) (BitVec.ofNat 64 m.val) = nY (x:Int) (BitVec.ofNat 64 m.val) ∧ nY (nY (x:Int) (BitVec.ofNat 64 m.val)) (BitVec.ofInt 64 (cYK (x:Int) (BitVec.ofNat 64 m.val))) = 0 ∧ bY (cYK (x:Int) (BitVec.ofNat 64 m.val)) (BitVec.ofNat 64 m.val) = 0:=by decide +kernel
theorem clr_andNot {a n:Int} (h:0 ≤ a ∧ a < 16):clrK a n 4 = bits .andNot .i64 a n:=by
  rw [clrK_y,nY_bits,cYK_low,nY_low h]
  obtain ⟨m,hm⟩:=y_fin (BitVec.ofInt 64 n)
  obtain ⟨x,rfl⟩:=Int.eq_ofNat_of_zero_le h.1
  rw [hm]
  exact (y_key ⟨x,by omega⟩ m).1
end Go.Proofs.YtimdkcchjanpaaaGreatDoor
namespace Go.Proofs.YtimdkcchjanpaaaGreatDoor
open Go.RowKit
set_option linter.unusedVariables false
variable {TB:TypeId} {od:Nat} {X Y:List Value}
abbrev ckS (g:Nat) (M:List (Int × Pk)):Value := .slice (some ⟨g,0,none⟩) M.length M.length
abbrev ckY (fa:Value) (p:Option Addr) (k:Nat) (f l m n a:Int):List Value:=fa :: (rfC p k f l m n ++ [.int .i64 a])
theorem ck_box {X Y:List Value} {a b c fa:Value} {p:Option Addr} {k:Nat} {f l m n e:Int}:(X ++ [a,b,c,fa]) ++ (rfC p k f l m n ++ (.int .i64 e :: Y)) = X ++ (a :: b :: c :: (ckY fa p k f l m n e ++ Y)):=by simp
def AccK (w:World) (fa:Value) (L:List Flt) (Of:Nat → Prop):Prop :=
  (fa = .nilFunc ∧ L = [] ∧ Of = fun _ => False) ∨ (∃ kb u,L ≠ [] ∧ fa = .func (.func 109) #[] #[.pointer (some ⟨kb,0,none⟩)] ∧ Bx1 w kb u 22 ∧ RowQ flC 3 w u L ∧ (∀ x ∈ L,x.fits) ∧ L.length ≤ 50 ∧ Of = fun k => k = kb ∨ OwnO u k)
def rO (p:Option Addr):Nat → Prop:=fun k => ∃ a,p = some a ∧ k = a.block
structure CkM (TB:TypeId) (od:Nat) (X Y:List Value) (w:World) (b g:Nat) (vt ve fa:Value) (M:List (Int × Pk)) (Of:Nat → Prop) (p:Option Addr) (S:List Fr) (f m n:Nat) (s:Ct):Prop where
  bm:BmM TB od X (ckY fa p S.length (f:Int) (s.fifo.length:Int) (m:Int) (n:Int) s.asks ++ Y) w b g vt ve M s.bx.trn s.bx.fin
  bs:BmS M s.bx
  rf:RfM TB (od + 4) (X ++ [ckS g M,vt,ve,fa]) (.int .i64 s.asks :: Y) w b p S f ⟨s.fifo,m,n⟩
  ac:AccK w fa s.acc Of
  hm:s.room = m
  hn:s.lost = n
  a1:Apart (bmO b g vt ve) (rO p)
  a2:Apart (bmO b g vt ve) Of
  a3:Apart (rO p) Of
def ckO (b g:Nat) (vt ve:Value) (p:Option Addr) (Of:Nat → Prop):Nat → Prop:=fun k => bmO b g vt ve k ∨ rO p k ∨ Of k
def CkD (TB:TypeId) (od:Nat) (X Y:List Value) (w:World) (v:Value) (s:Ct) (O:Nat → Prop):Prop := ∃ b g vt ve fa M Of p S f m n,v = .pointer (some ⟨b,od,none⟩) ∧ O = ckO b g vt ve p Of ∧ CkM TB od X Y w b g vt ve fa M Of p S f m n s
section
variable {w w':World} {fa:Value} {L:List Flt} {Of:Nat → Prop}
theorem AccK.lt (h:AccK w fa L Of):∀ k,Of k → k < w.heap.size:=by
  rcases h with ⟨_,_,rfl⟩ | ⟨kb,u,_,_,h1,h2,_,_,rfl⟩
  · exact fun k hk => hk.elim
  · rintro k (rfl | hk)
    · exact h1.lt
    · exact h2.lt k hk
theorem AccK.stay (h:AccK w fa L Of) (hs:∀ k,Of k → w'.heap[k]? = w.heap[k]?):AccK w' fa L Of:=by
  have hz:∀ k,Of k → k < w'.heap.size:=fun k hk => by
    have h1:=hs k hk
    have h2:=h.lt k hk
    rw [Array.getElem?_eq_getElem h2] at h1
    exact heap_some_lt h1
  rcases h with h | ⟨kb,u,h0,hf,h1,h2,h3,h4,rfl⟩
  · exact .inl h
  · exact .inr ⟨kb,u,h0,hf,(hs kb (.inl rfl)).trans h1,h2.stayL (fun k hk => hs k (.inr hk)) (fun k hk => hz k (.inr hk)),h3,h4,rfl⟩
end
section
variable {w w':World} {b g:Nat} {vt ve fa:Value} {M:List (Int × Pk)} {Of:Nat → Prop} {p:Option Addr} {S:List Fr} {f m n:Nat} {s:Ct}
theorem rgO_r {k:Nat} (h:rO p k):rgO b p k := .inr h
theorem CkM.lt (h:CkM TB od X Y w b g vt ve fa M Of p S f m n s):∀ k,ckO b g vt ve p Of k → k < w.heap.size:=by
  rintro k (hk | hk | hk)
  · exact h.bm.lt k hk
  · exact h.rf.lt k (rgO_r hk)
  · exact h.ac.lt k hk
theorem CkM.stay (h:CkM TB od X Y w b g vt ve fa M Of p S f m n s) (hs:∀ k,ckO b g vt ve p Of k → w'.heap[k]? = w.heap[k]?):CkM TB od X Y w' b g vt ve fa M Of p S f m n s :=
  ⟨h.bm.stay (fun k hk => hs k (.inl hk)),h.bs,h.rf.stay (fun k hk => by
    rcases hk with rfl | hk
    · exact hs k (.inl (.inl rfl))
    · exact hs k (.inr (.inl hk))),h.ac.stay (fun k hk => hs k (.inr (.inr hk))),h.hm,h.hn,h.a1,h.a2,h.a3⟩
theorem CkM.later (h:CkM TB od X Y w b g vt ve fa M Of p S f m n s) (hb:Below w.heap.size w w'):CkM TB od X Y w' b g vt ve fa M Of p S f m n s:=h.stay (fun k hk => hb.block k (h.lt k hk))
theorem isObj_ck:IsObj (CkD TB od X Y) where
  stay:=by
    rintro w w' v s O ⟨b,g,vt,ve,fa,M,Of,p,S,f,m,n,rfl,rfl,h⟩ hs
    exact ⟨b,g,vt,ve,fa,M,Of,p,S,f,m,n,rfl,rfl,h.stay hs⟩
  lt:=by
    rintro w v s O ⟨b,g,vt,ve,fa,M,Of,p,S,f,m,n,rfl,rfl,h⟩
    exact h.lt
theorem CkM.stp (h:CkM TB od X Y w b g vt ve fa M Of p S f m n s) (hb:Below w.heap.size w w'):Stp (CkD TB od X Y) (.pointer (some ⟨b,od,none⟩)) (ckO b g vt ve p Of) w s w' :=
  ⟨_,⟨b,g,vt,ve,fa,M,Of,p,S,f,m,n,rfl,rfl,h.later hb⟩, .of_below hb,Grows.refl _ _⟩
theorem CkM.bd (h:CkM TB od X Y w b g vt ve fa M Of p S f m n s):BmD TB od X (ckY fa p S.length (f:Int) (s.fifo.length:Int) (m:Int) (n:Int) s.asks ++ Y) w (.pointer (some ⟨b,od,none⟩)) s.bx (bmO b g vt ve):=⟨b,g,vt,ve,M,rfl,rfl,h.bm,h.bs⟩
theorem CkM.rd (h:CkM TB od X Y w b g vt ve fa M Of p S f m n s):RfI TB (od + 4) (X ++ [ckS g M,vt,ve,fa]) (.int .i64 s.asks :: Y) w (.pointer (some ⟨b,od + 4,none⟩)) ⟨s.fifo,m,n⟩ (rgO b p):=⟨b,p,S,f,rfl,rfl,h.rf⟩
theorem BmM.move {TB TB':TypeId} {od od':Nat} {X Y X' Y':List Value} {b':Nat} {T E:List Int} (h:BmM TB od X Y w b g vt ve M T E) (hb:w'.heap[b']? = some (.cells (X' ++ (Value.slice (some ⟨g,0,none⟩) M.length M.length :: vt :: ve :: Y')).toArray TB' (0,0))) (ho:X'.length = od')
    (hs:∀ k,k = g ∨ OwnO vt k ∨ OwnO ve k → w'.heap[k]? = w.heap[k]?) (hz:w.heap.size ≤ w'.heap.size) (hn:b' = b ∨ w.heap.size ≤ b'):BmM TB' od' X' Y' w' b' g vt ve M T E:=by
  have key:∀ k,k = g ∨ OwnO vt k ∨ OwnO ve k → b' ≠ k:=fun k hk e => by
    rcases hn with rfl | hn
    · rcases hk with hk | hk | hk
      · exact h.h1 (e.trans hk)
      · exact h.f1.1 (e ▸ hk)
      · exact h.f2.1 (e ▸ hk)
    · have:k < w.heap.size:=by
        rcases hk with rfl | hk | hk
        · exact h.lt k (.inr (.inl rfl))
        · exact h.turn.lt k hk
        · exact h.fin.lt k hk
      omega
  exact ⟨hb,ho,(hs g (.inl rfl)).trans h.row,h.turn.stay (fun k hk => hs k (.inr (.inl hk))) hz,h.fin.stay (fun k hk => hs k (.inr (.inr hk))) hz,key g (.inl rfl),⟨fun hk => key b' (.inr (.inl hk)) rfl,h.f1.2⟩,⟨fun hk => key b' (.inr (.inr hk)) rfl,h.f2.2⟩,h.f3⟩
theorem CkM.boxes {bx':Bx} (h:CkM TB od X Y w b g vt ve fa M Of p S f m n s) (hs:Stp (BmD TB od X (ckY fa p S.length (f:Int) (s.fifo.length:Int) (m:Int) (n:Int) s.asks ++ Y)) (.pointer (some ⟨b,od,none⟩)) (bmO b g vt ve) w bx' w') :
    ∃ g' vt' ve' M',CkM TB od X Y w' b g' vt' ve' fa M' Of p S f m n { s with bx:=bx' } ∧ Kept (ckO b g vt ve p Of) w w' ∧ Grows (ckO b g vt ve p Of) w (ckO b g' vt' ve' p Of):=by
  obtain ⟨O',⟨b',g',vt',ve',M',hv,rfl,hm,hS⟩,hk,hg⟩:=hs
  injection hv with hv; injection hv with hv; injection hv with hv
  subst hv
  have hr:=h.rf.lt
  have ho:=h.ac.lt
  refine ⟨g',vt',ve',M',⟨hm,hS,⟨by rw [ck_box]; exact hm.box,by simp [hm.off], ?_,h.rf.len,h.rf.fit,h.rf.lo,h.rf.hi,h.rf.mem⟩,h.ac.stay (fun k hk' => hk.block k (ho k hk') (fun h1 => h.a2 k h1 hk')),h.hm,h.hn,h.a1.step (fun k hk' => hr k (rgO_r hk')) hg,h.a2.step ho hg,h.a3⟩, ?_, ?_⟩
  · rcases h.rf.row with h1 | ⟨q,rfl,h2,h3,h4⟩
    · exact .inl h1
    · exact .inr ⟨q,rfl,(hk.block q (heap_some_lt h2) (fun h5 => h.a1 q h5 ⟨_,rfl,rfl⟩)).trans h2,h3,h4⟩
  · exact ⟨hk.os,hk.tape,hk.output,hk.size,fun k h1 h2 => hk.block k h1 (fun h3 => h2 (.inl h3))⟩
  · rintro k (h1 | h1)
    · exact (hg k h1).imp .inl id
    · exact .inl (.inr h1)
theorem CkM.fifos {L':List Fr} {n':Nat} (h:CkM TB od X Y w b g vt ve fa M Of p S f m n s) (hs:Stp (RfI TB (od + 4) (X ++ [ckS g M,vt,ve,fa]) (.int .i64 s.asks :: Y)) (.pointer (some ⟨b,od + 4,none⟩)) (rgO b p) w ⟨L',m,n'⟩ w') :
    ∃ p' S' f',CkM TB od X Y w' b g vt ve fa M Of p' S' f' m n' { s with fifo:=L',lost:=(n':Int) } ∧ Kept (ckO b g vt ve p Of) w w' ∧ Grows (ckO b g vt ve p Of) w (ckO b g vt ve p' Of):=by
  obtain ⟨O',⟨b',p',S',f',hv,rfl,hr⟩,hk,hg⟩:=hs
  injection hv with hv; injection hv with hv; injection hv with hv
  subst hv
  have ho:=h.ac.lt
  have hl:=h.bm.lt
  have hrow:∀ k,rO p' k → rO p k ∨ w.heap.size ≤ k:=fun k hk' => by
    have hne:k ≠ b:=by
      obtain ⟨a,rfl,rfl⟩:=hk'
      rcases hr.row with ⟨h1,_⟩ | ⟨q,h1,_,h3,_⟩
      · cases h1
      · injection h1 with h1; subst h1; exact h3
    rcases hg k (.inr hk') with h1 | h1
    · rcases h1 with h1 | h1
      · exact absurd h1 hne
      · exact .inl h1
    · exact .inr h1
  have out:∀ k,k ≠ b → bmO b g vt ve k ∨ Of k → w'.heap[k]? = w.heap[k]?:=fun k hne hk' => by
    have hlt:k < w.heap.size:=by rcases hk' with h1 | h1; exact hl k h1; exact ho k h1
    refine hk.block k hlt (fun h1 => ?_)
    rcases h1 with h1 | h1
    · exact hne h1
    · rcases hk' with h2 | h2
      · exact h.a1 k h2 h1
      · exact h.a3 k h1 h2
  refine ⟨p',S',f',⟨h.bm.move (by have:=hr.box; rw [ck_box] at this; exact this) h.bm.off ?_ hk.size (.inl rfl),h.bs,hr,h.ac.stay (fun k hk' => out k (fun e => h.a2 b (.inl rfl) (e ▸ hk')) (.inr hk')),h.hm,rfl,fun k h1 h2 => ?_,h.a2,fun k h1 h2 => ?_⟩, ?_, ?_⟩
  · rintro k (rfl | h1 | h1)
    · exact out k (fun e => h.bm.h1 e.symm) (.inl (.inr (.inl rfl)))
    · exact out k (fun e => h.bm.f1.1 (e ▸ h1)) (.inl (.inr (.inr (.inl h1))))
    · exact out k (fun e => h.bm.f2.1 (e ▸ h1)) (.inl (.inr (.inr (.inr h1))))
  · rcases hrow k h2 with h3 | h3
    · exact h.a1 k h1 h3
    · have:=hl k h1; omega
  · rcases hrow k h1 with h3 | h3
    · exact h.a3 k h3 h2
    · have:=ho k h2; omega
  · refine ⟨hk.os,hk.tape,hk.output,hk.size,fun k h1 h2 => hk.block k h1 (fun h3 => ?_)⟩
    rcases h3 with h3 | h3
    · exact h2 (.inl (.inl h3))
    · exact h2 (.inr (.inl h3))
  · rintro k (h1 | h1 | h1)
    · exact .inl (.inl h1)
    · exact (hrow k h1).imp (fun h => .inr (.inl h)) id
    · exact .inl (.inr (.inr h1))
theorem CkM.reg (h:CkM TB od X Y w b g vt ve fa M Of p S f m n s):w.cell? ⟨b,od + 9,none⟩ = some (.int .i64 s.asks) ∧ w.frozen? ⟨b,od + 9,none⟩ = false:=by
  refine ⟨?_,Lib.frozen_of_heap h.rf.box _⟩
  rw [Lib.cell_of_heap h.bm.box,getX h.bm.off]
  rfl
theorem CkM.setReg (h:CkM TB od X Y w b g vt ve fa M Of p S f m n s) (a:Int):CkM TB od X Y (w.setCell ⟨b,od + 9,none⟩ (.int .i64 a)) b g vt ve fa M Of p S f m n { s with asks:=a } ∧ Kept (ckO b g vt ve p Of) w (w.setCell ⟨b,od + 9,none⟩ (.int .i64 a)):=by
  have hz:w.heap.size ≤ (w.setCell ⟨b,od + 9,none⟩ (.int .i64 a)).heap.size:=by simp [World.setCell]
  have ho:∀ k,k ≠ b → (w.setCell ⟨b,od + 9,none⟩ (.int .i64 a)).heap[k]? = w.heap[k]?:=fun k hk => Below.heap_setCell _ _ _ _ hk
  have hb:(w.setCell ⟨b,od + 9,none⟩ (.int .i64 a)).heap[b]? = some (.cells (X ++ (ckS g M :: vt :: ve :: (ckY fa p S.length (f:Int) (s.fifo.length:Int) (m:Int) (n:Int) a ++ Y))).toArray TB (0,0)):=by rw [heap_setCell_same w b (od + 9) _ _ _ h.bm.box,setX h.bm.off]; rfl
  refine ⟨⟨h.bm.move hb h.bm.off ?_ hz (.inl rfl),h.bs,⟨by rw [ck_box]; exact hb,by simp [h.bm.off], ?_,h.rf.len,h.rf.fit,h.rf.lo,h.rf.hi,h.rf.mem⟩,h.ac.stay (fun k hk => ho k (fun e => h.a2 b (.inl rfl) (e ▸ hk))),h.hm,h.hn,h.a1,h.a2,h.a3⟩, ?_⟩
  · rintro k (rfl | h1 | h1)
    · exact ho k (fun e => h.bm.h1 e.symm)
    · exact ho k (fun e => h.bm.f1.1 (e ▸ h1))
    · exact ho k (fun e => h.bm.f2.1 (e ▸ h1))
  · rcases h.rf.row with h1 | ⟨q,rfl,h2,h3,h4⟩
    · exact .inl h1
    · exact .inr ⟨q,rfl,(ho q h3).trans h2,h3,h4⟩
  · exact ⟨rfl,rfl,rfl,hz,fun k _ hk => ho k (fun e => hk (.inl (.inl e)))⟩
end
end Go.Proofs.YtimdkcchjanpaaaGreatDoor
