/- Ctrl, the document's side: Hear. Printed by gen_hear.py. Ctrl, the document's side: Abort. Of no program: two objects behind calls of the one and of the other, with what has turned since a call's beginning; a slice of the caller's, outside of what an object owns. Ctrl: what the walks ask of the code; what may be of a controller. No program is meant but by its functions' numbers. Ctrl, plain: the register's bits. -/
import Derived.Test.YtmmcjmejcngajaaGreatDoorZar
import Derived.Test.YtmmcjmejcngajaaGreatDoorZaq
import Derived.Test.YtmmcjmejcngajaaGreatDoorZak
import Derived.Test.YtmmcjmejcngajaaGreatDoorZao
namespace Go.Proofs.YtmmcjmejcngajaaGreatDoor
open Go.RowKit
set_option linter.unusedVariables false

/-- is the frame let through? -/
def letF (L : List Flt) (f : Fr) : Bool := !decide (keyG f < 0) && (decide (L.length = 0) || anyB (carB f.i f.n f.l f.d.size) L false (wordV f.i f.n f.l f.d.size).toNat)
def Ct.hear (s : Ct) (f : Fr) : Ct × Bool :=
  if letF s.acc f = false then (s, false) else if (s.fifo.length : Int) = s.room then ({ s with lost := s.lost + 1, asks := setB s.asks 4 }, false)
  else ({ s with fifo := s.fifo ++ [f], asks := setB s.asks 2 }, true)
theorem ctEmpty {α : Type} {c : α → List Value} {k : Nat} (w : World) (o : Obj) : RowQ c k (w.alloc o) (.slice (some ⟨w.heap.size, 0, none⟩) 0 0) ([] : List α) :=
  .inr ⟨_, 0, 0, rfl, Nat.le_refl _, Nat.zero_le _, by simp, fun j u h => by simp [rowG] at h, fun j hj => by omega⟩
theorem ctRda {α : Type} {c : α → List Value} {k : Nat} {w : World} {v : Value} {L : List α} (h : RowQ c k w v L) (hk : ∀ a, (c a).length = k) (hm : L.length ≤ maxLen) : RdA c k w v L := by
  refine ⟨h.sl hk hm, ?_⟩
  rcases h with ⟨h, _⟩ | ⟨g, o, cap, hv, h1, _⟩
  · exact .inl h
  · exact .inr ⟨_, cap, hv, h1⟩
/-- a row of the call's own, behind an append -/
theorem ctOwn {w W w' : World} {v v' : Value} {o : Obj} (hb : Below w.heap.size w W) (hv : ∀ g, OwnO v g → w.heap.size ≤ g) (hk : Kept (OwnO v) (W.alloc o) w') (hg : Grows (OwnO v) (W.alloc o) (OwnO v')) :
    Below w.heap.size w w' ∧ ∀ g, OwnO v' g → w.heap.size ≤ g := by
  have h1 := fbelow_t hb ((Below.refl W.heap.size W).alloc (Nat.le_refl _) o)
  refine ⟨hk.below h1 h1.size hv, fun g h => ?_⟩
  rcases hg g h with h2 | h2
  · exact hv g h2
  · exact Nat.le_trans h1.size h2
theorem ctOwnE (w : World) : ∀ g, OwnO (.slice (some ⟨w.heap.size, 0, none⟩) 0 0) g → w.heap.size ≤ g := fun g h => by
  injection h with h
  exact Nat.le_of_eq h
set_option maxRecDepth 8000 in
set_option maxHeartbeats 16000000 in
theorem xhear_v {v : Value} {s : Ct} {O : Nat → Prop} {f : Fr} (w : World) (h : CtD w v s O) (hok : s.Ok) (hls : s.lost ≤ 1000000) (hL : SlL w w.heap.size s.va s.acc) (hfit : ∀ x ∈ s.acc, x.fits) :
    Calls Tryz.prog 28 #[v, .agg #[.int .i64 f.i, .int .i64 f.n, .int .i64 f.l, .string f.d]] w fun e w' => e = .returned (.bool (s.hear f).2) ∧ Stp CtD v O w (s.hear f).1 w' := by
  obtain ⟨b, bv, Ob, vf, rfl, rfl, hm⟩ := h
  obtain ⟨x, hx⟩ : ∃ x, s.hear f = x := ⟨_, rfl⟩
  rw [hx]
  obtain ⟨L, hacc⟩ : ∃ L, s.acc = L := ⟨_, rfl⟩
  rw [hacc] at hL hfit
  have HAC := Lib.hid hacc
  clear hacc
  have HX := Lib.hid hx
  clear hx
  obtain ⟨vn, hvn, hvl⟩ := word_nat f.i f.n f.l f.d.size
  have HVN := Lib.hid hvn
  have HVL := Lib.hid hvl
  have HFT := Lib.hid hfit
  have HOK := Lib.hid hok
  have HLS := Lib.hid hls
  obtain ⟨w0, e0⟩ : ∃ w0, w.alloc (.cells #[.int .i64 f.i, .int .i64 f.n, .int .i64 f.l, .string f.d] 33) = w0 := ⟨_, rfl⟩
  have hb0 : Below w.heap.size w w0 := by rw [← e0]; exact (Below.refl _ _).alloc (Nat.le_refl _) _
  have HB0 := Lib.hid hb0
  have HF0 : Hid (BoxF w0 w.heap.size f.i f.n f.l f.d) := Lib.hid (by rw [← e0]; exact BoxF.made _ _ _ _ _)
  have HMW := Lib.hid hm
  have HM0 := Lib.hid (hm.later hb0)
  have HSA : Hid (∀ q : Later w0, SlL q.w q.w.heap.size s.va L) := Lib.hid (fun q => (hL.later hb0).later q.h)
  obtain ⟨A0, cap0, hva, hLm, _⟩ := hL
  unfold maxLen at hLm
  obtain ⟨c0, c1, c2, c3, c4, c5⟩ := HM0.out.cells
  obtain ⟨d0, d1, d2, d3⟩ := HF0.out.cells
  have hz0 := HF0.out.lt
  have hbz : b < w0.heap.size := heap_some_lt HM0.out.box
  rw [hva] at c3
  have HVA := Lib.hid hva
  clear hva
  obtain ⟨q, hq⟩ : ∃ q, keyG f = q := ⟨_, rfl⟩
  have HQ : Hid (keyV f.i f.n f.l f.d.size = q) := Lib.hid hq
  have hl := later_cells
  have HFRL : Hid (s.fifo.length ≤ 1000) := Lib.hid (by have := hok.fifo; have := hok.room; omega)
  clear hm hb0 hvn hvl hfit hok hls
  by_cases h1 : q < 0
  · have hd : decide (q < 0) = true := decide_eq_true h1
    have HE : Hid (s.hear f = (s, false)) := Lib.hid (by unfold Ct.hear letF; rw [hq, hd]; rfl)
    obtain rfl := HE.out.symm.trans HX.out
    clear h1 hq
    go_enter Tryz.func28, Tryz.ntmps28
    go_wp2_with fail
    refine wp_region_later (by kernel_rfl) (by kernel_rfl) ?_
    repeat (go_big_quiet_step (fail))
    go_big_quiet_step (exact Later.call (rkey_v HQ.out _))
    repeat (go_big_quiet_step (fail))
    refine wpQuiet_nil ?_
    rintro w1 ⟨m, rfl⟩
    go_wp2
    go_ret
    exact ⟨rfl, HMW.out.stp (fbelow_t HB0.out m.h)⟩
  have hd : decide (q < 0) = false := decide_eq_false h1
  by_cases h2 : L.length = 0
  · have HLT : Hid (letF L f = true) := Lib.hid (by unfold letF; rw [hq, hd, decide_eq_true h2]; rfl)
    obtain rfl : L = [] := List.eq_nil_of_length_eq_zero h2
    rw [List.length_nil] at c3
    clear h1 hq h2
    go_enter Tryz.func28, Tryz.ntmps28
    go_wp2_with fail
    refine wp_region_later (by kernel_rfl) (by kernel_rfl) ?_
    repeat (go_big_quiet_step (fail))
    go_big_quiet_step (exact Later.call (rkey_v HQ.out _))
    repeat (go_big_quiet_step (fail))
    refine wpQuiet_nil ?_
    rintro w1 ⟨m, rfl⟩
    have HB1 : Hid (Below w.heap.size w m.w) := Lib.hid (fbelow_t HB0.out m.h)
    have HM1 := Lib.hid (HM0.out.later m.h)
    have HF1 := Lib.hid (HF0.out.later m.h)
    clear c0 c1 c2 c3 c4 c5 d0 d1 d2 d3 hz0 hbz hl HSA
    generalize m.w = w1 at *
    obtain ⟨A5, c5', hsh⟩ := HM1.out.fifo.shape
    subst hsh
    obtain ⟨c0, c1, c2, c3, c4, c5⟩ := HM1.out.cells
    rw [HVA.out] at c3
    by_cases h3 : (s.fifo.length : Int) = s.room
    · have HE : Hid (s.hear f = ({ s with lost := s.lost + 1, asks := setB s.asks 4 }, false)) := Lib.hid (by unfold Ct.hear; rw [HAC.out, HLT.out, if_neg (by decide), if_pos h3])
      obtain rfl := HE.out.symm.trans HX.out
      have hfu : ((s.fifo.length : Int) == s.room) = true := by simp [h3]
      have hls := HLS.out
      have hl0 := HOK.out.ls
      clear h3
      go_wp2_with fail
      go_quiet (fail)
      generalize hwd : w1.drewN _ = wd
      have hbd : Below w1.heap.size w1 wd := by rw [← hwd]; exact below_drewN (Below.refl _ w1) _
      clear hwd
      have HMD := Lib.hid (HM1.out.later hbd)
      obtain ⟨q0, q1, q2, q3, q4, q5⟩ := HMD.out.cells
      have f4 := HMD.out.live 4
      have HBD := Lib.hid (fbelow_t HB1.out hbd)
      clear c0 c1 c2 c3 c4 c5 hbd
      have HM2 := Lib.hid (HMD.out.setNum (s' := { s with lost := s.lost + 1 }) 4 (.int .i64 (s.lost + 1)) rfl rfl rfl)
      go_wp2_with fail
      refine (xset_v (s := { s with lost := s.lost + 1 }) _ ⟨_, _, _, _, rfl, rfl, HM2.out⟩ HOK.out.ak (by decide)).mono ?_
      rintro e w3 ⟨rfl, hs3⟩
      have HF : Hid (Stp CtD (.pointer (some ⟨b, 0, none⟩)) (ctO b Ob (.slice A5 s.fifo.length c5')) w { s with lost := s.lost + 1, asks := setB s.asks 4 } w3) := Lib.hid
        (stp_comb ((Kept.of_below HBD.out).trans setNum_kept (Grows.refl _ _)) (Grows.refl _ _) hs3)
      clear hs3
      go_wp2
      go_ret
      exact ⟨rfl, HF.out⟩
    · have HE : Hid (s.hear f = ({ s with fifo := s.fifo ++ [f], asks := setB s.asks 2 }, true)) := Lib.hid (by unfold Ct.hear; rw [HAC.out, HLT.out, if_neg (by decide), if_neg h3])
      obtain rfl := HE.out.symm.trans HX.out
      have hfu : ((s.fifo.length : Int) == s.room) = false := by simp [h3]
      clear h3
      go_wp2_with fail
      go_quiet (fail)
      generalize hwd : w1.drewN _ = wd
      have hbd : Below w1.heap.size w1 wd := by rw [← hwd]; exact below_drewN (Below.refl _ w1) _
      clear hwd
      have HMD := Lib.hid (HM1.out.later hbd)
      have HFD := Lib.hid (HF1.out.later hbd)
      obtain ⟨q0, q1, q2, q3, q4, q5⟩ := HMD.out.cells
      have HBD := Lib.hid (fbelow_t HB1.out hbd)
      clear c0 c1 c2 c3 c4 c5 hbd
      have HBE := fun o : Obj => (Below.refl wd.heap.size wd).alloc (Nat.le_refl _) o
      have HRE := Lib.hid HBE
      clear HBE
      have hbb := heap_some_lt HMD.out.box
      go_wp2_with (at_builtin; first | (refine wpList_qO (c := frC) (L := s.fifo) (M := [f]) flat_fr frC_len frC_one rfl (.tmp 53) (.tmp 55) rfl (by rfl) HQ4.out (by rfl) HRD.out (by have := HFRL.out; simp; omega) ?_; rintro v4 w4 hq4 hk4 hg4; obtain ⟨g4, o4, cap4, rfl⟩ := hq4.form; have HQ5 := Lib.hid hq4; obtain ⟨hb4, ho4⟩ := ctOwn (w := wd) HB3.out HO3.out hk4 hg4; have HB4 := Lib.hid hb4; have HO4 := Lib.hid ho4; obtain ⟨q0, q1, q2, q3, q4, q5⟩ := (HMD.out.later hb4).cells; have yf := (HMD.out.later hb4).live 1; clear hq4 hk4 hg4 hb4 ho4 d0 d1 d2 d3) | (refine wpList_qO (c := frC) (L := []) (M := s.fifo) flat_fr frC_len frC_one rfl (.tmp 46) (.tmp 50) rfl (by simp [Act.eval]) (ctEmpty wd _) (by simp [Act.eval]) (ctRda (HMD.out.fifo.later (HRE.out _)) frC_len (by have := HFRL.out; unfold maxLen; omega)) (by have := HFRL.out; simp; omega) ?_; rintro v3 w3 hq3 hk3 hg3; have HQ3 := Lib.hid hq3; have HK3 := Lib.hid hk3; have HG3 := Lib.hid hg3; obtain ⟨hb3, ho3⟩ := ctOwn (Below.refl _ wd) (ctOwnE wd) hk3 hg3; have HB3 := Lib.hid hb3; have HO3 := Lib.hid ho3; obtain ⟨d0, d1, d2, d3⟩ := (HFD.out.later hb3).cells; clear hq3 hk3 hg3 hb3 ho3 q0 q1 q2 q3 q4 q5; have HBL : Hid (Below w3.heap.size w3 (w3.alloc (.cells #[.int .i64 f.i, .int .i64 f.n, .int .i64 f.l, .string f.d] 33))) := Lib.hid ((Below.refl _ _).alloc (Nat.le_refl _) _); have HQ4 : Hid (RowQ frC 4 (w3.alloc (.cells #[.int .i64 f.i, .int .i64 f.n, .int .i64 f.l, .string f.d] 33)) v3 s.fifo) := Lib.hid (RowQ.later (L := s.fifo) HQ3.out HBL.out); have HRD : Hid (RdA frC 4 (w3.alloc (.cells #[.int .i64 f.i, .int .i64 f.n, .int .i64 f.l, .string f.d] 33)) (.slice (some ⟨w3.heap.size, 0, none⟩) 1 1) [f]) := Lib.hid (RdA.one frC_len _ _ _ rfl rfl)))
      obtain ⟨hm5, hk5, hg5⟩ := HMD.out.setFifo HB4.out HQ5.out (fun k hk => .inr (HO4.out k hk))
      refine (xset_v (s := { s with fifo := s.fifo ++ [f] }) _ ⟨_, _, _, _, rfl, rfl, hm5⟩ HOK.out.ak (by decide)).mono ?_
      rintro e w6 ⟨rfl, hs6⟩
      have HF : Hid (Stp CtD (.pointer (some ⟨b, 0, none⟩)) (ctO b Ob (.slice A5 s.fifo.length c5')) w { s with fifo := s.fifo ++ [f], asks := setB s.asks 2 } w6) := Lib.hid
        (stp_comb ((Kept.of_below HBD.out).trans hk5 (Grows.refl _ _)) (fun k hk => (hg5 k hk).imp id (fun h => Nat.le_trans HBD.out.size h)) hs6)
      clear hs6 hm5 hk5 hg5
      go_wp2
      go_ret
      exact ⟨rfl, HF.out⟩

  · have hpl : decide (0 < L.length) = true := decide_eq_true (by omega)
    obtain ⟨c, hc⟩ : ∃ c, carB f.i f.n f.l f.d.size = c := ⟨_, rfl⟩
    obtain ⟨r, hr⟩ : ∃ r, anyB c L false vn = r := ⟨_, rfl⟩
    have HLT : Hid (letF L f = r) := Lib.hid (by unfold letF; rw [hq, hd, decide_eq_false h2, HVN.out, Int.toNat_natCast, hc, hr]; rfl)
    have HC := Lib.hid hc
    have HR := Lib.hid hr
    clear h1 hq h2 hc hr
    go_enter Tryz.func28, Tryz.ntmps28
    go_wp2_with fail
    refine wp_region_later (by kernel_rfl) (by kernel_rfl) ?_
    repeat (go_big_quiet_step (fail))
    go_big_quiet_step (exact Later.call (rkey_v HQ.out _))
    repeat (go_big_quiet_step (fail))
    go_big_quiet_step (exact Later.call (rany_v c HC.out HVN.out HVL.out HR.out HFT.out _ (by rw [← HVA.out]; exact HSA.out _)))
    repeat (go_big_quiet_step (fail))
    refine wpQuiet_nil ?_
    rintro w1 ⟨m, rfl⟩
    cases r
    · have HE : Hid (s.hear f = (s, false)) := Lib.hid (by unfold Ct.hear; rw [HAC.out, HLT.out, if_pos rfl])
      obtain rfl := HE.out.symm.trans HX.out
      go_wp2
      go_ret
      exact ⟨rfl, HMW.out.stp (fbelow_t HB0.out m.h)⟩
    · have HB1 : Hid (Below w.heap.size w m.w) := Lib.hid (fbelow_t HB0.out m.h)
      have HM1 := Lib.hid (HM0.out.later m.h)
      have HF1 := Lib.hid (HF0.out.later m.h)
      clear c0 c1 c2 c3 c4 c5 d0 d1 d2 d3 hz0 hbz hl HSA
      generalize m.w = w1 at *
      obtain ⟨A5, c5', hsh⟩ := HM1.out.fifo.shape
      subst hsh
      obtain ⟨c0, c1, c2, c3, c4, c5⟩ := HM1.out.cells
      rw [HVA.out] at c3
      by_cases h3 : (s.fifo.length : Int) = s.room
      · have HE : Hid (s.hear f = ({ s with lost := s.lost + 1, asks := setB s.asks 4 }, false)) := Lib.hid (by unfold Ct.hear; rw [HAC.out, HLT.out, if_neg (by decide), if_pos h3])
        obtain rfl := HE.out.symm.trans HX.out
        have hfu : ((s.fifo.length : Int) == s.room) = true := by simp [h3]
        have hls := HLS.out
        have hl0 := HOK.out.ls
        clear h3
        go_wp2_with fail
        go_quiet (fail)
        generalize hwd : w1.drewN _ = wd
        have hbd : Below w1.heap.size w1 wd := by rw [← hwd]; exact below_drewN (Below.refl _ w1) _
        clear hwd
        have HMD := Lib.hid (HM1.out.later hbd)
        obtain ⟨q0, q1, q2, q3, q4, q5⟩ := HMD.out.cells
        have f4 := HMD.out.live 4
        have HBD := Lib.hid (fbelow_t HB1.out hbd)
        clear c0 c1 c2 c3 c4 c5 hbd
        have HM2 := Lib.hid (HMD.out.setNum (s' := { s with lost := s.lost + 1 }) 4 (.int .i64 (s.lost + 1)) rfl rfl rfl)
        go_wp2_with fail
        refine (xset_v (s := { s with lost := s.lost + 1 }) _ ⟨_, _, _, _, rfl, rfl, HM2.out⟩ HOK.out.ak (by decide)).mono ?_
        rintro e w3 ⟨rfl, hs3⟩
        have HF : Hid (Stp CtD (.pointer (some ⟨b, 0, none⟩)) (ctO b Ob (.slice A5 s.fifo.length c5')) w { s with lost := s.lost + 1, asks := setB s.asks 4 } w3) := Lib.hid
          (stp_comb ((Kept.of_below HBD.out).trans setNum_kept (Grows.refl _ _)) (Grows.refl _ _) hs3)
        clear hs3
        go_wp2
        go_ret
        exact ⟨rfl, HF.out⟩
      · have HE : Hid (s.hear f = ({ s with fifo := s.fifo ++ [f], asks := setB s.asks 2 }, true)) := Lib.hid (by unfold Ct.hear; rw [HAC.out, HLT.out, if_neg (by decide), if_neg h3])
        obtain rfl := HE.out.symm.trans HX.out
        have hfu : ((s.fifo.length : Int) == s.room) = false := by simp [h3]
        clear h3
        go_wp2_with fail
        go_quiet (fail)
        generalize hwd : w1.drewN _ = wd
        have hbd : Below w1.heap.size w1 wd := by rw [← hwd]; exact below_drewN (Below.refl _ w1) _
        clear hwd
        have HMD := Lib.hid (HM1.out.later hbd)
        have HFD := Lib.hid (HF1.out.later hbd)
        obtain ⟨q0, q1, q2, q3, q4, q5⟩ := HMD.out.cells
        have HBD := Lib.hid (fbelow_t HB1.out hbd)
        clear c0 c1 c2 c3 c4 c5 hbd
        have HBE := fun o : Obj => (Below.refl wd.heap.size wd).alloc (Nat.le_refl _) o
        have HRE := Lib.hid HBE
        clear HBE
        have hbb := heap_some_lt HMD.out.box
        go_wp2_with (at_builtin; first | (refine wpList_qO (c := frC) (L := s.fifo) (M := [f]) flat_fr frC_len frC_one rfl (.tmp 53) (.tmp 55) rfl (by rfl) HQ4.out (by rfl) HRD.out (by have := HFRL.out; simp; omega) ?_; rintro v4 w4 hq4 hk4 hg4; obtain ⟨g4, o4, cap4, rfl⟩ := hq4.form; have HQ5 := Lib.hid hq4; obtain ⟨hb4, ho4⟩ := ctOwn (w := wd) HB3.out HO3.out hk4 hg4; have HB4 := Lib.hid hb4; have HO4 := Lib.hid ho4; obtain ⟨q0, q1, q2, q3, q4, q5⟩ := (HMD.out.later hb4).cells; have yf := (HMD.out.later hb4).live 1; clear hq4 hk4 hg4 hb4 ho4 d0 d1 d2 d3) | (refine wpList_qO (c := frC) (L := []) (M := s.fifo) flat_fr frC_len frC_one rfl (.tmp 46) (.tmp 50) rfl (by simp [Act.eval]) (ctEmpty wd _) (by simp [Act.eval]) (ctRda (HMD.out.fifo.later (HRE.out _)) frC_len (by have := HFRL.out; unfold maxLen; omega)) (by have := HFRL.out; simp; omega) ?_; rintro v3 w3 hq3 hk3 hg3; have HQ3 := Lib.hid hq3; have HK3 := Lib.hid hk3; have HG3 := Lib.hid hg3; obtain ⟨hb3, ho3⟩ := ctOwn (Below.refl _ wd) (ctOwnE wd) hk3 hg3; have HB3 := Lib.hid hb3; have HO3 := Lib.hid ho3; obtain ⟨d0, d1, d2, d3⟩ := (HFD.out.later hb3).cells; clear hq3 hk3 hg3 hb3 ho3 q0 q1 q2 q3 q4 q5; have HBL : Hid (Below w3.heap.size w3 (w3.alloc (.cells #[.int .i64 f.i, .int .i64 f.n, .int .i64 f.l, .string f.d] 33))) := Lib.hid ((Below.refl _ _).alloc (Nat.le_refl _) _); have HQ4 : Hid (RowQ frC 4 (w3.alloc (.cells #[.int .i64 f.i, .int .i64 f.n, .int .i64 f.l, .string f.d] 33)) v3 s.fifo) := Lib.hid (RowQ.later (L := s.fifo) HQ3.out HBL.out); have HRD : Hid (RdA frC 4 (w3.alloc (.cells #[.int .i64 f.i, .int .i64 f.n, .int .i64 f.l, .string f.d] 33)) (.slice (some ⟨w3.heap.size, 0, none⟩) 1 1) [f]) := Lib.hid (RdA.one frC_len _ _ _ rfl rfl)))
        obtain ⟨hm5, hk5, hg5⟩ := HMD.out.setFifo HB4.out HQ5.out (fun k hk => .inr (HO4.out k hk))
        refine (xset_v (s := { s with fifo := s.fifo ++ [f] }) _ ⟨_, _, _, _, rfl, rfl, hm5⟩ HOK.out.ak (by decide)).mono ?_
        rintro e w6 ⟨rfl, hs6⟩
        have HF : Hid (Stp CtD (.pointer (some ⟨b, 0, none⟩)) (ctO b Ob (.slice A5 s.fifo.length c5')) w { s with fifo := s.fifo ++ [f], asks := setB s.asks 2 } w6) := Lib.hid
          (stp_comb ((Kept.of_below HBD.out).trans hk5 (Grows.refl _ _)) (fun k hk => (hg5 k hk).imp id (fun h => Nat.le_trans HBD.out.size h)) hs6)
        clear hs6 hm5 hk5 hg5
        go_wp2
        go_ret
        exact ⟨rfl, HF.out⟩

end Go.Proofs.YtmmcjmejcngajaaGreatDoor

namespace Go.Proofs.YtmmcjmejcngajaaGreatDoor
open Go.RowKit
set_option linter.unusedVariables false

/-- the first k mailboxes aborted, if they are ready; how many -/
def Bx.abs (s : Bx) : Nat → Bx × Nat
  | 0 => (s, 0)
  | k + 1 => (((s.abs k).1.end_ (k : Int) 3).1, (s.abs k).2 + if ((s.abs k).1.end_ (k : Int) 3).2 = 0 then 1 else 0)
theorem Bx.end_len (s : Bx) (i st : Int) : (s.end_ i st).1.S.length = s.S.length := by
  unfold Bx.end_
  split
  · rfl
  · simp [Bx.endAt]
theorem Bx.abs_len (s : Bx) : ∀ k, (s.abs k).1.S.length = s.S.length
  | 0 => rfl
  | k + 1 => by unfold Bx.abs; rw [Bx.end_len, Bx.abs_len s k]
theorem Bx.abs_le (s : Bx) : ∀ k, (s.abs k).2 ≤ k
  | 0 => Nat.le_refl _
  | k + 1 => by
    have := Bx.abs_le s k
    unfold Bx.abs
    simp only
    split <;> omega
theorem Bx.Ok.abs {s : Bx} (h : s.Ok) : ∀ k, (s.abs k).1.Ok
  | 0 => h
  | k + 1 => (h.abs k).end_ _ (.inr rfl)
def Ct.abort (s : Ct) : Ct × Nat :=
  if 0 < (s.bx.abs s.bx.S.length).2 then ({ s with bx := (s.bx.abs s.bx.S.length).1, asks := setB s.asks 1 }, (s.bx.abs s.bx.S.length).2) else ({ s with bx := (s.bx.abs s.bx.S.length).1 }, 0)
theorem Ct.abort_n (s : Ct) : s.abort.2 = (s.bx.abs s.bx.S.length).2 := by
  unfold Ct.abort
  split
  · rfl
  · simp only; omega
/-- in the midst of the loop -/
def AbS (w : World) (b : Nat) (bv vf : Value) (Ob : Nat → Prop) (s : Ct) (k : Nat) (wr : World) : Prop := ∃ Ob', CtM wr b bv Ob' vf { s with bx := (s.bx.abs k).1 } ∧ Kept (ctO b Ob vf) w wr ∧ Grows (ctO b Ob vf) w (ctO b Ob' vf)
set_option maxHeartbeats 8000000 in
theorem xabort_v {v : Value} {s : Ct} {O : Nat → Prop} (w : World) (h : CtD w v s O) (hok : s.Ok) :
    Calls Tryz.prog 38 #[v] w fun e w' => e = .returned (.int .i64 (s.abort.2 : Nat)) ∧ Stp CtD v O w s.abort.1 w' := by
  obtain ⟨b, bv, Ob, vf, rfl, rfl, hm⟩ := h
  have HM := Lib.hid hm
  have HOK := Lib.hid hok
  have hl2 : (s.bx.S.length : Int) ≤ 1000 := by have := hok.bx.n2; omega
  rw [Ct.abort_n]
  clear hm hok
  go_enter Tryz.func38, Tryz.ntmps38
  go_wp2
  go_loopw [3, 4] (fun n i wr => ∃ k : Nat, k ≤ s.bx.S.length ∧ i = .int .i64 k ∧ n = .int .i64 ((s.bx.abs k).2 : Nat) ∧ Hid (AbS w b bv vf Ob s k wr)) (fun _ i _ => s.bx.S.length - (intOf i).toNat)
  case atStart => exact ⟨0, Nat.zero_le _, rfl, rfl, Lib.hid ⟨Ob, HM.out, Kept.refl _ _, Grows.refl _ _⟩⟩
  case round =>
    obtain ⟨k, hk, rfl, rfl, HI⟩ := hrel
    obtain ⟨Ob', hm1, hk1, hg1⟩ := HI.out
    have HM1 := Lib.hid hm1
    have HK1 := Lib.hid hk1
    have HG1 := Lib.hid hg1
    obtain ⟨c0, c1, c2, c3, c4, c5⟩ := hm1.cells
    have hbx := hm1.bx
    obtain ⟨b5, gs, gp, vo, ve, rfl, hOb, hbm⟩ := hbx
    obtain ⟨a0, a1, a2, a3⟩ := hbm.cells
    have hal := s.bx.abs_len k
    simp only at a0 a1
    rw [hal] at a0 a1
    have hle := s.bx.abs_le k
    have HBO := Lib.hid (HOK.out.bx.abs k)
    clear hm1 hk1 hg1 hbm hOb hal
    by_cases hlt : k < s.bx.S.length
    · have hkl : (k : Int) < (s.bx.S.length : Int) := by omega
      obtain ⟨e, he⟩ : ∃ e, ((s.bx.abs k).1.end_ (k : Int) 3).2 = e := ⟨_, rfl⟩
      have HE := Lib.hid he
      have HSU : Hid ((s.bx.abs (k + 1)).1 = ((s.bx.abs k).1.end_ (k : Int) 3).1 ∧ (s.bx.abs (k + 1)).2 = (s.bx.abs k).2 + if e = 0 then 1 else 0) := Lib.hid ⟨rfl, by rw [← he]; rfl⟩
      clear he
      go_wp2_with fail
      refine (xend_v wr HM1.out.bx HE.out HBO.out.n2 HBO.out.ordLe HBO.out.finLe).mono ?_
      rintro x w2 ⟨rfl, hs2⟩
      obtain ⟨Ob2, hm2, hk2, hg2⟩ := HM1.out.boxes hs2
      have HR : Hid (AbS w b (.pointer (some ⟨b5, 0, none⟩)) vf Ob s (k + 1) w2) := Lib.hid ⟨Ob2, by rw [HSU.out.1]; exact hm2, HK1.out.trans hk2 HG1.out, HG1.out.trans hg2 HK1.out.size⟩
      clear hs2 hm2 hk2 hg2 c0 c1 c2 c3 c4 c5 a0 a1 a2 a3
      by_cases h0 : e = 0
      · subst h0
        have HN : Hid ((s.bx.abs (k + 1)).2 = (s.bx.abs k).2 + 1) := Lib.hid HSU.out.2
        go_wp2_with fail
        go_roundw
        case rel => exact ⟨k + 1, by omega, by go_num, by rw [HN.out]; go_num, HR⟩
        case measure => simp [intOf]; omega
      · have HN : Hid ((s.bx.abs (k + 1)).2 = (s.bx.abs k).2) := Lib.hid (by rw [HSU.out.2, if_neg h0]; rfl)
        have e0 : (e == 0) = false := by simp [h0]
        clear h0
        go_wp2_with fail
        go_roundw
        case rel => exact ⟨k + 1, by omega, by go_num, by rw [HN.out], HR⟩
        case measure => simp [intOf]; omega
    · obtain rfl : k = s.bx.S.length := by omega
      by_cases hp : 0 < (s.bx.abs s.bx.S.length).2
      · have HA : Hid (s.abort.1 = { s with bx := (s.bx.abs s.bx.S.length).1, asks := setB s.asks 1 }) := Lib.hid (by unfold Ct.abort; rw [if_pos hp])
        have hd : decide (0 < (s.bx.abs s.bx.S.length).2) = true := decide_eq_true hp
        clear hp
        go_wp2_with fail
        refine (xset_v (s := { s with bx := (s.bx.abs s.bx.S.length).1 }) wr ⟨_, _, _, _, rfl, rfl, HM1.out⟩ HOK.out.ak (by decide)).mono ?_
        rintro e w3 ⟨rfl, hs3⟩
        have HF : Hid (Stp CtD (.pointer (some ⟨b, 0, none⟩)) (ctO b Ob vf) w s.abort.1 w3) := Lib.hid (by rw [HA.out]; exact stp_comb HK1.out HG1.out hs3)
        clear hs3
        go_wp2
        go_ret
        exact ⟨rfl, HF.out⟩
      · have HA : Hid (s.abort.1 = { s with bx := (s.bx.abs s.bx.S.length).1 }) := Lib.hid (by unfold Ct.abort; rw [if_neg hp])
        have hd : decide (0 < (s.bx.abs s.bx.S.length).2) = false := decide_eq_false hp
        have HF : Hid (Stp CtD (.pointer (some ⟨b, 0, none⟩)) (ctO b Ob vf) w s.abort.1 wr) := Lib.hid (by rw [HA.out]; exact ⟨_, ⟨_, _, _, _, rfl, rfl, HM1.out⟩, HK1.out, HG1.out⟩)
        clear hp
        go_wp2_with fail
        go_ret
        exact ⟨rfl, HF.out⟩
end Go.Proofs.YtmmcjmejcngajaaGreatDoor

namespace Go.Proofs.YtmmcjmejcngajaaGreatDoor
open Go.RowKit
set_option linter.unusedVariables false

section
variable {σ τ : Type} {I : World → Value → σ → (Nat → Prop) → Prop} {J : World → Value → τ → (Nat → Prop) → Prop} {w0 w w' wb : World} {v v' : Value} {s s' : σ} {t t' : τ} {U O O' O1 : Nat → Prop}
structure PairJ (I : World → Value → σ → (Nat → Prop) → Prop) (J : World → Value → τ → (Nat → Prop) → Prop) (w0 : World) (v v' : Value) (s : σ) (t : τ) (U O O' : Nat → Prop) (w wb : World) : Prop where
  pr : Pair I J w0 v v' s t O O' w
  kp : Kept U wb w
  g1 : Grows U wb O
  g2 : Grows U wb O'
theorem PairJ.start (hI : IsObj I) (hJ : IsObj J) (h : Pair I J w0 v v' s t O O' w) (hb : Below wb.heap.size wb w) : PairJ I J w0 v v' s t (fun k => O k ∨ O' k) O O' w wb := ⟨h, .of_below hb, fun k h => .inl (.inl h), fun k h => .inl (.inr h)⟩
theorem PairJ.later (hI : IsObj I) (hJ : IsObj J) (h : PairJ I J w0 v v' s t U O O' w wb) (hb : Below w.heap.size w w') : PairJ I J w0 v v' s t U O O' w' wb := ⟨h.pr.later hI hJ hb, h.kp.trans (.of_below (O := U) hb) (Grows.refl _ _), h.g1, h.g2⟩
theorem PairJ.stepA (hI : IsObj I) (hJ : IsObj J) (h : PairJ I J w0 v v' s t U O O' w wb) (hi : I w' v s' O1) (hk : Kept O w w') (hg : Grows O w O1) : PairJ I J w0 v v' s' t U O1 O' w' wb :=
  ⟨h.pr.stepA hI hJ hi hk hg, h.kp.trans hk h.g1, h.g1.trans hg h.kp.size, h.g2⟩
theorem PairJ.stepB (hI : IsObj I) (hJ : IsObj J) (h : PairJ I J w0 v v' s t U O O' w wb) (hi : J w' v' t' O1) (hk : Kept O' w w') (hg : Grows O' w O1) : PairJ I J w0 v v' s t' U O O1 w' wb :=
  ⟨h.pr.stepB hI hJ hi hk hg, h.kp.trans hk h.g2, h.g1, h.g2.trans hg h.kp.size⟩
theorem PairJ.lt (hI : IsObj I) (hJ : IsObj J) (h : PairJ I J w0 v v' s t U O O' w wb) : (∀ k, O k → k < w.heap.size) ∧ ∀ k, O' k → k < w.heap.size := ⟨hI.lt h.pr.a.inv, hJ.lt h.pr.b.inv⟩
end
/-- a slice that was there when the caller began is outside of what is new -/
theorem slA_old {α : Type} {c : α → List Value} {n : Nat} {w0 w : World} {v : Value} {L : List α} {O : Nat → Prop} (h : SlG c n w0 w0.heap.size v L) (hb : Below w0.heap.size w0 w) (hO : ∀ k, O k → w0.heap.size ≤ k) : SlA c n w O v L := by
  obtain ⟨A, cap, hv, hm, hc⟩ := h
  refine ⟨A, cap, hv, hm, fun i a ha => ?_⟩
  obtain ⟨x, h1, h2, h4⟩ := hc i a ha
  exact ⟨x, h1, Nat.lt_of_lt_of_le h2 hb.size, fun h => by have := hO _ h; omega, fun j u hu => (hb.cell (by rw [addr_block]; exact h2)).trans (h4 j u hu)⟩
end Go.Proofs.YtmmcjmejcngajaaGreatDoor

namespace Go.Proofs.YtmmcjmejcngajaaGreatDoor
open Go.RowKit
set_option linter.unusedVariables false

abbrev fmV (f : Fr) : Value := .agg #[.int .i64 f.i, .int .i64 f.n, .int .i64 f.l, .string f.d]
/-- the filters' slice reads as they are, and they fit -/
def AccOk (w : World) (s : Ct) : Prop := SlG flC 3 w w.heap.size s.va s.acc ∧ ∀ x ∈ s.acc, x.fits
/-- the same, outside of what the controller owns -/
def AccA (w : World) (s : Ct) (O : Nat → Prop) : Prop := SlA flC 3 w O s.va s.acc ∧ ∀ x ∈ s.acc, x.fits
def Fr.n64 (f : Fr) : Prop := -9223372036854775808 ≤ f.n ∧ f.n ≤ 9223372036854775807
structure CtrlApi (P : Program) (fN fL fO fW fH fF fA fC fE fT fB fR fS fX fK : Nat) (T : World → Prop) (I : World → Value → Ct → (Nat → Prop) → Prop) : Prop where
  tab : ∀ {w w'}, T w → Below w.heap.size w w' → T w'
  obj : IsObj I
  ptr : ∀ {w v s O}, I w v s O → ∃ a, v = .pointer (some a)
  new : ∀ (c : Cg) (L : List Flt) (w : World), T w → SlG flC 3 w w.heap.size c.va L → (∀ x ∈ L, x.fits) → c.n ≤ 50 → Calls P fN #[cgV c] w fun e w' => ∃ v O, e = .returned v ∧ I w' v (ctNew c L) O ∧ Below w.heap.size w w' ∧ ∀ k, O k → w.heap.size ≤ k
  load : ∀ {w v s O} (p : Pk), I w v s O → s.Ok → T w → p.ok → Calls P fL #[v, pkV p] w fun e w' => e = .returned (.tuple #[.int .i64 (s.bx.put p).2.1, .int .i64 (s.bx.put p).2.2]) ∧ Stp I v O w { s with bx := (s.bx.put p).1 } w'
  offer : ∀ {w v s O}, I w v s O → s.Ok → T w → Calls P fO #[v] w fun e w' => e = .returned (.tuple #[fmV s.off.1, .bool s.off.2]) ∧ Below w.heap.size w w'
  won : ∀ {w v s O}, I w v s O → s.Ok → T w → Calls P fW #[v] w fun e w' => e = .returned (.bool s.off.2) ∧ Stp I v O w s.won w'
  hear : ∀ {w v s O} (f : Fr), I w v s O → s.Ok → s.lost ≤ 1000000 → T w → f.n64 → AccA w s O → Calls P fH #[v, fmV f] w fun e w' => e = .returned (.bool (s.hear f).2) ∧ Stp I v O w (s.hear f).1 w'
  off : ∀ {w v s O}, I w v s O → s.Ok → Calls P fF #[v] w fun e w' => e = .returned (.tuple #[]) ∧ Stp I v O w { s with asks := setB s.asks 8 } w'
  asks : ∀ {w v s O}, I w v s O → s.Ok → Calls P fA #[v] w fun e w' => e = .returned (.int .i64 s.asks) ∧ Below w.heap.size w w'
  clear : ∀ {w v s O} (n : Int), I w v s O → s.Ok → (-9223372036854775808 ≤ n ∧ n ≤ 9223372036854775807) → Calls P fC #[v, .int .i64 n] w fun e w' => e = .returned (.tuple #[]) ∧ Stp I v O w { s with asks := clrK s.asks n 4 } w'
  ended : ∀ {w v s O}, I w v s O → s.Ok → Calls P fE #[v] w fun e w' => e = .returned (.tuple #[dnV s.bx.tk.1 s.bx.tk.2.1 s.bx.tk.2.2.1, .int .i64 s.bx.tk.2.2.2]) ∧ Stp I v O w { s with bx := s.bx.take.1 } w'
  fetch : ∀ {w v s O}, I w v s O → s.Ok → Calls P fT #[v] w fun e w' => e = .returned (.tuple #[fmV s.fetch.2.1, .int .i64 (if s.fetch.2.2 then 0 else 6)]) ∧ Stp I v O w s.fetch.1 w'
  abort : ∀ {w v s O}, I w v s O → s.Ok → Calls P fB #[v] w fun e w' => e = .returned (.int .i64 (s.abort.2 : Nat)) ∧ Stp I v O w s.abort.1 w'
  free : ∀ {w v s O}, I w v s O → s.Ok → Calls P fR #[v] w fun e w' => e = .returned (.int .i64 (s.bx.free s.bx.S.length : Nat)) ∧ Below w.heap.size w w'
  states : ∀ {w v s O}, I w v s O → s.Ok → Calls P fS #[v] w (Gives w fun w' u => SlA inC 1 w' (fun k => k < w.heap.size) u s.bx.S ∧ ShapeOk u)
  lost : ∀ {w v s O}, I w v s O → s.Ok → Calls P fX #[v] w fun e w' => e = .returned (.int .i64 s.lost) ∧ Below w.heap.size w w'
  kept : ∀ {w v s O}, I w v s O → s.Ok → Calls P fK #[v] w fun e w' => e = .returned (.int .i64 (s.fifo.length : Nat)) ∧ Below w.heap.size w w'
/-- of nil -/
structure CtrlNone (P : Program) (fL fO fW fH fF fA fC fE fT fB fR fS fX fK : Nat) : Prop where
  load : ∀ (p : Pk) w, Calls P fL #[.pointer none, pkV p] w fun e w' => e = .returned (.tuple #[.int .i64 0, .int .i64 1]) ∧ Below w.heap.size w w'
  offer : ∀ w, Calls P fO #[.pointer none] w fun e w' => e = .returned (.tuple #[fmV frz, .bool false]) ∧ Below w.heap.size w w'
  won : ∀ w, Calls P fW #[.pointer none] w fun e w' => e = .returned (.bool false) ∧ Below w.heap.size w w'
  hear : ∀ (f : Fr) w, Calls P fH #[.pointer none, fmV f] w fun e w' => e = .returned (.bool false) ∧ Below w.heap.size w w'
  off : ∀ w, Calls P fF #[.pointer none] w fun e w' => e = .returned (.tuple #[]) ∧ Below w.heap.size w w'
  asks : ∀ w, Calls P fA #[.pointer none] w fun e w' => e = .returned (.int .i64 0) ∧ Below w.heap.size w w'
  clear : ∀ (n : Int) w, Calls P fC #[.pointer none, .int .i64 n] w fun e w' => e = .returned (.tuple #[]) ∧ Below w.heap.size w w'
  ended : ∀ w, Calls P fE #[.pointer none] w fun e w' => e = .returned (.tuple #[dnV 0 pk0 false, .int .i64 1]) ∧ Below w.heap.size w w'
  fetch : ∀ w, Calls P fT #[.pointer none] w fun e w' => e = .returned (.tuple #[fmV frz, .int .i64 1]) ∧ Below w.heap.size w w'
  abort : ∀ w, Calls P fB #[.pointer none] w fun e w' => e = .returned (.int .i64 0) ∧ Below w.heap.size w w'
  free : ∀ w, Calls P fR #[.pointer none] w fun e w' => e = .returned (.int .i64 0) ∧ Below w.heap.size w w'
  states : ∀ w, Calls P fS #[.pointer none] w fun e w' => (∃ A c, e = .returned (.slice A 0 c)) ∧ Below w.heap.size w w'
  lost : ∀ w, Calls P fX #[.pointer none] w fun e w' => e = .returned (.int .i64 0) ∧ Below w.heap.size w w'
  kept : ∀ w, Calls P fK #[.pointer none] w fun e w' => e = .returned (.int .i64 0) ∧ Below w.heap.size w w'
abbrev CtrlI (T : World → Prop) (I : World → Value → Ct → (Nat → Prop) → Prop) : Prop := CtrlApi Tryz.prog 6 22 24 26 16 29 9 31 33 35 37 12 15 11 10 T I
abbrev CtrlNo : Prop := CtrlNone Tryz.prog 22 24 26 16 29 9 31 33 35 37 12 15 11 10

/-! ### what may be -/
theorem setB_rng {a bit : Int} (ha : 0 ≤ a ∧ a < 16) (hb : bit = 1 ∨ bit = 2 ∨ bit = 4 ∨ bit = 8) : 0 ≤ setB a bit ∧ setB a bit < 16 := by
  have key : ∀ x : Fin 16, ∀ b ∈ [(1 : Int), 2, 4, 8], 0 ≤ setB (x : Int) b ∧ setB (x : Int) b < 16 := by decide +kernel
  obtain ⟨n, rfl⟩ := Int.eq_ofNat_of_zero_le ha.1
  have := key ⟨n, by omega⟩ bit (by simp; exact hb)
  exact this
theorem Ct.Ok.new (c : Cg) (L : List Flt) : (ctNew c L).Ok := by
  have := roomN_rng c.fi
  exact ⟨Bx.Ok.new c.bo, ⟨Int.le_refl _, by show (0 : Int) < 16; decide⟩, this, by show ((([] : List Fr).length : Nat) : Int) ≤ roomN c.fi; simp; omega, Int.le_refl _⟩
section
variable {s : Ct} (h : s.Ok)
include h
theorem Ct.Ok.load (p : Pk) : ({ s with bx := (s.bx.put p).1 } : Ct).Ok := ⟨h.bx.put p, h.ak, h.room, h.fifo, h.ls⟩
theorem Ct.Ok.set {bit : Int} (hb : bit = 1 ∨ bit = 2 ∨ bit = 4 ∨ bit = 8) : ({ s with asks := setB s.asks bit } : Ct).Ok := ⟨h.bx, setB_rng h.ak hb, h.room, h.fifo, h.ls⟩
theorem Ct.Ok.won : s.won.Ok := by
  unfold Ct.won
  split
  · exact h
  · exact ⟨h.bx.end_ _ (.inl rfl), setB_rng h.ak (.inl rfl), h.room, h.fifo, h.ls⟩
theorem Ct.Ok.hear (f : Fr) : (s.hear f).1.Ok := by
  unfold Ct.hear
  split
  · exact h
  · split
    · exact ⟨h.bx, setB_rng h.ak (.inr (.inr (.inl rfl))), h.room, h.fifo, by show 0 ≤ s.lost + 1; have := h.ls; omega⟩
    · rename_i h2
      exact ⟨h.bx, setB_rng h.ak (.inr (.inl rfl)), h.room, by show (((s.fifo ++ [f]).length : Nat) : Int) ≤ s.room; have := h.fifo; simp; omega, h.ls⟩
theorem Ct.Ok.clear (n : Int) : ({ s with asks := clrK s.asks n 4 } : Ct).Ok := ⟨h.bx, clrK_rng h.ak 4 (Nat.le_refl _), h.room, h.fifo, h.ls⟩
theorem Ct.Ok.ended : ({ s with bx := s.bx.take.1 } : Ct).Ok := ⟨h.bx.take, h.ak, h.room, h.fifo, h.ls⟩
theorem Ct.Ok.fetch : s.fetch.1.Ok := by
  unfold Ct.fetch
  cases hf : s.fifo with
  | nil => exact h
  | cons f r => exact ⟨h.bx, h.ak, h.room, by have := h.fifo; rw [hf] at this; show ((r.length : Nat) : Int) ≤ s.room; simp at this; omega, h.ls⟩
theorem Ct.Ok.abort : s.abort.1.Ok := by
  unfold Ct.abort
  split
  · exact ⟨h.bx.abs _, setB_rng h.ak (.inl rfl), h.room, h.fifo, h.ls⟩
  · exact ⟨h.bx.abs _, h.ak, h.room, h.fifo, h.ls⟩
end
theorem Ct.fetch_acc (s : Ct) : s.fetch.1.va = s.va ∧ s.fetch.1.acc = s.acc ∧ s.fetch.1.lost = s.lost := by unfold Ct.fetch; split <;> exact ⟨rfl, rfl, rfl⟩
theorem Ct.won_acc (s : Ct) : s.won.va = s.va ∧ s.won.acc = s.acc ∧ s.won.lost = s.lost := by unfold Ct.won; split <;> exact ⟨rfl, rfl, rfl⟩
theorem Ct.abort_acc (s : Ct) : s.abort.1.va = s.va ∧ s.abort.1.acc = s.acc ∧ s.abort.1.lost = s.lost := by unfold Ct.abort; split <;> exact ⟨rfl, rfl, rfl⟩
theorem Ct.hear_acc (s : Ct) (f : Fr) : (s.hear f).1.va = s.va ∧ (s.hear f).1.acc = s.acc ∧ s.lost ≤ (s.hear f).1.lost ∧ (s.hear f).1.lost ≤ s.lost + 1 := by
  unfold Ct.hear
  split
  · exact ⟨rfl, rfl, by simp only; omega, by simp only; omega⟩
  · split
    · exact ⟨rfl, rfl, by simp only; omega, by simp only; omega⟩
    · exact ⟨rfl, rfl, by simp only; omega, by simp only; omega⟩
end Go.Proofs.YtmmcjmejcngajaaGreatDoor

namespace Go.Proofs.YtmmcjmejcngajaaGreatDoor
open Go.RowKit
set_option linter.unusedVariables false

def aY (y : BitVec 64) (b : Int) : Int := IntKind.i64.wrap ((y &&& BitVec.ofInt 64 b).toNat : Int)
def nY (a : Int) (y : BitVec 64) : Int := IntKind.i64.wrap ((BitVec.ofInt 64 a &&& ~~~y).toNat : Int)
def bY (a : Int) (y : BitVec 64) : Int := IntKind.i64.wrap ((BitVec.ofInt 64 a &&& y).toNat : Int)
theorem aY_bits (n b : Int) : bits .and .i64 n b = aY (BitVec.ofInt 64 n) b := rfl
theorem nY_bits (a n : Int) : bits .andNot .i64 a n = nY a (BitVec.ofInt 64 n) := rfl
theorem bY_bits (a n : Int) : bits .and .i64 a n = bY a (BitVec.ofInt 64 n) := rfl
theorem low15 {a : Int} (h : 0 ≤ a ∧ a < 16) : BitVec.ofInt 64 a &&& 15#64 = BitVec.ofInt 64 a := by
  have key : ∀ x : Fin 16, BitVec.ofInt 64 (x : Int) &&& 15#64 = BitVec.ofInt 64 (x : Int) := by decide +kernel
  obtain ⟨n, rfl⟩ := Int.eq_ofNat_of_zero_le h.1
  exact key ⟨n, by omega⟩
theorem and_low (x y : BitVec 64) (h : x &&& 15#64 = x) : x &&& y = x &&& (y &&& 15#64) := by
  rw [← BitVec.and_assoc, BitVec.and_assoc x y, BitVec.and_comm y, ← BitVec.and_assoc, h]
theorem not_low (x y : BitVec 64) (h : x &&& 15#64 = x) : x &&& ~~~y = x &&& ~~~(y &&& 15#64) := by
  apply BitVec.eq_of_getLsbD_eq
  intro i hi
  have hb : x.getLsbD i = (x.getLsbD i && (15#64).getLsbD i) := by
    have := congrArg (fun v => BitVec.getLsbD v i) h
    simp only [BitVec.getLsbD_and] at this
    exact this.symm
  simp only [BitVec.getLsbD_and, BitVec.getLsbD_not]
  rw [hb]
  cases x.getLsbD i <;> cases y.getLsbD i <;> cases (15#64).getLsbD i <;> simp [hi]
theorem aY_low {b : Int} (h : 0 ≤ b ∧ b < 16) (y : BitVec 64) : aY y b = aY (y &&& 15#64) b := by
  unfold aY
  rw [BitVec.and_comm, and_low _ _ (low15 h), BitVec.and_comm]
theorem nY_low {a : Int} (h : 0 ≤ a ∧ a < 16) (y : BitVec 64) : nY a y = nY a (y &&& 15#64) := by
  unfold nY
  rw [not_low _ _ (low15 h)]
theorem bY_low {a : Int} (h : 0 ≤ a ∧ a < 16) (y : BitVec 64) : bY a y = bY a (y &&& 15#64) := by
  unfold bY
  rw [and_low _ _ (low15 h)]
def cY (a : Int) (y : BitVec 64) (b : Int) : Int := if aY y b ≠ 0 ∧ a / b % 2 = 1 then a - b else a
def cYK (a : Int) (y : BitVec 64) : Int := cY (cY (cY (cY a y 1) y 2) y 4) y 8
theorem clrK_y (a n : Int) : clrK a n 4 = cYK a (BitVec.ofInt 64 n) := rfl
theorem cYK_low (a : Int) (y : BitVec 64) : cYK a y = cYK a (y &&& 15#64) := by
  unfold cYK cY
  rw [← aY_low (b := 1) (by decide), ← aY_low (b := 2) (by decide), ← aY_low (b := 4) (by decide), ← aY_low (b := 8) (by decide)]
theorem y_fin (y : BitVec 64) : ∃ m : Fin 16, y &&& 15#64 = BitVec.ofNat 64 m.val := by
  have h : (y &&& 15#64).toNat < 16 := by
    rw [BitVec.toNat_and]
    exact Nat.lt_of_le_of_lt Nat.and_le_right (by decide)
  exact ⟨⟨_, h⟩, by simp⟩
theorem y_key : ∀ (x m : Fin 16), cYK (x : Int) (BitVec.ofNat 64 m.val) = nY (x : Int) (BitVec.ofNat 64 m.val) ∧ nY (nY (x : Int) (BitVec.ofNat 64 m.val)) (BitVec.ofInt 64 (cYK (x : Int) (BitVec.ofNat 64 m.val))) = 0 ∧ bY (cYK (x : Int) (BitVec.ofNat 64 m.val)) (BitVec.ofNat 64 m.val) = 0 := by decide +kernel
/-- bits taken, as Go's '&^' has it -/
theorem clr_andNot {a n : Int} (h : 0 ≤ a ∧ a < 16) : clrK a n 4 = bits .andNot .i64 a n := by
  rw [clrK_y, nY_bits, cYK_low, nY_low h]
  obtain ⟨m, hm⟩ := y_fin (BitVec.ofInt 64 n)
  obtain ⟨x, rfl⟩ := Int.eq_ofNat_of_zero_le h.1
  rw [hm]
  exact (y_key ⟨x, by omega⟩ m).1
theorem clr_facts {a n : Int} (h : 0 ≤ a ∧ a < 16) : bits .andNot .i64 (bits .andNot .i64 a n) (clrK a n 4) = 0 ∧ bits .and .i64 (clrK a n 4) n = 0 := by
  have hr := clrK_rng (n := n) h 4 (Nat.le_refl _)
  rw [nY_bits a n, nY_bits _ (clrK a n 4), bY_bits, bY_low hr, clrK_y, cYK_low, nY_low h]
  obtain ⟨m, hm⟩ := y_fin (BitVec.ofInt 64 n)
  obtain ⟨x, rfl⟩ := Int.eq_ofNat_of_zero_le h.1
  rw [hm]
  exact (y_key ⟨x, by omega⟩ m).2
theorem setB_keeps {a bit : Int} (ha : 0 ≤ a ∧ a < 16) (hb : bit = 1 ∨ bit = 2 ∨ bit = 4 ∨ bit = 8) : bits .andNot .i64 a (setB a bit) = 0 := by
  have key : ∀ x : Fin 16, ∀ b ∈ [(1 : Int), 2, 4, 8], bits .andNot .i64 (x : Int) (setB (x : Int) b) = 0 := by decide +kernel
  obtain ⟨n, rfl⟩ := Int.eq_ofNat_of_zero_le ha.1
  exact key ⟨n, by omega⟩ bit (by simp; exact hb)
theorem same_keeps {a : Int} (ha : 0 ≤ a ∧ a < 16) : bits .andNot .i64 a a = 0 := by
  have key : ∀ x : Fin 16, bits .andNot .i64 (x : Int) (x : Int) = 0 := by decide +kernel
  obtain ⟨n, rfl⟩ := Int.eq_ofNat_of_zero_le ha.1
  exact key ⟨n, by omega⟩
end Go.Proofs.YtmmcjmejcngajaaGreatDoor
