/- Ring: walk of RingPlays, over what the walks ask of the code (XRngB). Printed by gen_f.py out of RngF.head.txt. Of no program: a call that makes new memory, in a region that draws, whose answer is hidden. -/
import Derived.Test.YtbjijmdknlopdaaZae
import Derived.Deep.RegionWith
import Derived.Test.YtbjijmdknlopdaaZac
namespace Go.Proofs.Ytbjijmdknlopdaa
open Go.RowKit
set_option linter.unusedVariables false

def BoxO (w : World) (b : Nat) (x y : Int) : Prop := w.heap[b]? = some (.cells #[.int .i64 x, .int .i64 y] 31 (0, 0))
theorem BoxO.made (w : World) (x y : Int) : BoxO (w.alloc (.cells #[.int .i64 x, .int .i64 y] 31)) w.heap.size x y := by unfold BoxO World.alloc; simp
theorem BoxO.lt {w : World} {b : Nat} {x y : Int} (h : BoxO w b x y) : b < w.heap.size := (Array.getElem?_eq_some_iff.1 h).1
theorem BoxO.later {w w' : World} {b : Nat} {x y : Int} (h : BoxO w b x y) (hb : Below w.heap.size w w') : BoxO w' b x y := (hb.block b h.lt).trans h
theorem BoxO.cells {w : World} {b : Nat} {x y : Int} (h : BoxO w b x y) : w.cell? ⟨b, 0, none⟩ = some (.int .i64 x) ∧ w.cell? ⟨b, 1, none⟩ = some (.int .i64 y) := by
  unfold BoxO at h
  refine ⟨?_, ?_⟩ <;> (rw [Lib.cell_of_heap h]; rfl)

set_option maxRecDepth 4000 in
set_option maxHeartbeats 8000000 in
theorem ringPlays_walk {I : World → Value → Rg Int → (Nat → Prop) → Prop} (H : RingI I)
    (a0 : Int) (a : Option Addr) (len cap : Nat) (F : Nat → List Value) (w : World) (w0 : (Lit.int .i64 a0).wf = true) (hr : IsRowOf w [.int .i64, .int .i64] a len cap F) :
    Calls Try.prog 3 #[.int .i64 a0, .slice a len cap] w fun e w' => e = .returned (.bool true) ∧ Below w.heap.size w w' := by
  obtain ⟨L, hL, hlen, hf⟩ := slice_of_row hr opOf opOf_c rfl (by decide)
  have HA := Lib.hid H
  have HV := Lib.hid hL
  subst hlen
  have hlen2 : L.length ≤ maxLen := by obtain ⟨_, _, _, h, _⟩ := hL; exact h
  unfold maxLen at hlen2
  clear hL hr hf
  by_cases h6 : L.length ≤ 600
  · have hd : decide (600 < L.length) = false := by simp; omega
    obtain ⟨m, hm⟩ : ∃ m : Nat, roomN a0 = m := ⟨(roomN a0).toNat, by unfold roomN; split <;> (try split) <;> omega⟩
    have HMM := Lib.hid hm
    go_enter Try.func3, Try.ntmps3
    go_wp2_with fail
    refine (HA.out.new a0 _).mono ?_
    rintro e w1 ⟨r, O, rfl, hi, hb, hn⟩
    rw [hm, Int.toNat_natCast] at hi
    have HS := Lib.hid (has_made (Below.refl w.heap.size w) hi hb hn)
    obtain ⟨p, rfl⟩ := HA.out.ptr hi
    clear hi hb hn hm
    go_wp2_with fail
    refine (rgnew_v HMM.out _).mono ?_
    rintro e w2 ⟨rfl, hb⟩
    have HS2 := Lib.hid (HS.out.later HA.out.obj hb)
    clear hb
    have HM0 : Hid (PlM I w (.pointer (some p)) w2.heap.size (.slice none 0 0) [] m (0 : Nat) ⟨[], m, 0⟩ O (w2.alloc (.cells #[.slice none 0 0, .int .i64 m, .int .i64 0] 28))) := Lib.hid
      ⟨HS2.out.later HA.out.obj ((Below.refl _ w2).alloc (Nat.le_refl _) _), BoxR.made w2 _ m 0 rfl, RdI.nil _, fun g hg => by (cases hg), apart_nil _, fun ho => by (have := HA.out.obj.lt HS2.out.inv _ ho; omega), fun hg => by (cases hg), HS2.out.below.size⟩
    go_wp2_with fail
    generalize w2.alloc (.cells #[.slice none 0 0, .int .i64 m, .int .i64 0] 28) = w3 at HM0 ⊢
    generalize w2.heap.size = bd at HM0 ⊢
    go_loopw [26] (fun i wr => ∃ (k : Nat) (v : Value) (s : Rg Int) (O : Nat → Prop), k ≤ L.length ∧ i = .int .i64 k ∧ s.n ≤ k ∧ Hid (PlM I w (.pointer (some p)) bd v s.L s.m s.n s O wr)) (fun i _ => L.length - (intOf i).toNat)
    case atStart => exact ⟨0, _, ⟨[], m, 0⟩, O, Nat.zero_le _, rfl, Nat.le_refl _, HM0⟩
    case round =>
      obtain ⟨wo, rfl⟩ : ∃ wo : World, wo = wr := ⟨_, rfl⟩
      obtain ⟨k, v, s, O1, hk, rfl, hsn, HI⟩ := hrel
      obtain ⟨SL, SM, SN⟩ := s
      simp only at hsn HI
      have HRG := Lib.hid (HA.out.rng HI.out.has.inv)
      by_cases hlt : k < L.length
      · obtain ⟨x, c1, hv1, hxb, hcell⟩ := SlG.at_ (HV.out.later HI.out.has.below) hlt
        injection hv1 with hAA _ hcap
        subst hAA
        subst hcap
        have c0 : wo.cell? (x.add (k * 2)) = some (.int .i64 (L[k]).1) := hcell 0 _ rfl
        have c1 : wo.cell? ⟨(x.add (k * 2)).block, (x.add (k * 2)).off + 1, none⟩ = some (.int .i64 (L[k]).2) := hcell 1 _ rfl
        clear hcell
        generalize L[k] = o at c0 c1
        obtain ⟨kd, y⟩ := o
        simp only at c0 c1
        have HBO := Lib.hid (BoxO.made wo kd y)
        have hbo := (Below.refl wo.heap.size wo).alloc (Nat.le_refl _) (.cells #[.int .i64 kd, .int .i64 y] 31)
        have HI1 := Lib.hid (HI.out.later HA.out.obj hbo)
        have hbd : bd < wo.heap.size := HI.out.box.lt
        have hnb : ¬ wo.heap.size = bd := by omega
        have hnb2 : ¬ bd = wo.heap.size := by omega
        have HNO : Hid (¬ O1 wo.heap.size) := Lib.hid (fun h => by have := HA.out.obj.lt HI.out.has.inv _ h; omega)
        clear hbo
        obtain ⟨⟨A5, c5, hv5, -, -⟩, -⟩ := HI.out.rd
        subst hv5
        by_cases h0 : kd = 0
        · subst h0
          by_cases hfull : SL.length = SM
          · subst hfull
            obtain ⟨r0, r1, r2⟩ := HI1.out.box.cells
            go_wp2_with fail
            refine (rgput_f (x := y) _ HI1.out.rd rfl (by omega) (by omega)).mono ?_
            rintro e w2 ⟨rfl, hb2⟩
            have HI2 := Lib.hid (HI1.out.later HA.out.obj hb2)
            have HBO2 := Lib.hid (HBO.out.later hb2)
            have HP := Lib.hid ((HI2.out.put HA.out.obj (m' := (SL.length : Int)) (n' := (SN : Int) + 1) HI2.out.rd HI2.out.lt HI2.out.ap HI2.out.nv).later HA.out.obj ((Below.refl _ _).alloc (Nat.le_refl _) (.cells #[.slice A5 SL.length c5, .int .i64 SL.length, .int .i64 ((SN : Int) + 1)] 28)))
            clear r0 r1 r2
            obtain ⟨r0, r1, r2⟩ := HI2.out.box.cells
            obtain ⟨f0, f1, f2⟩ := HI2.out.box.live
            obtain ⟨e0, e1⟩ := HBO2.out.cells
            have hz1 : wo.heap.size < w2.heap.size := HBO2.out.lt
            have hz2 : bd < w2.heap.size := HI2.out.box.lt
            clear hb2
            go_wp2_with fail
            obtain ⟨w4, hw4⟩ : ∃ w4, (putR w2 bd (.slice A5 SL.length c5) SL.length ((SN : Int) + 1)).alloc (.cells #[.slice A5 SL.length c5, .int .i64 SL.length, .int .i64 ((SN : Int) + 1)] 28) = w4 := ⟨_, rfl⟩
            rw [hw4] at HP
            unfold putR at hw4
            rw [hw4]
            clear hw4 r0 r1 r2 f0 f1 f2 e0 e1 hz1 hz2
            refine (HA.out.put_f y HP.out.has.inv rfl (by simp only; omega)).mono ?_
            rintro e wz ⟨rfl, hs⟩
            obtain ⟨OZ, h5⟩ := HP.out.step HA.out.obj hs
            have HZ := Lib.hid h5
            clear h5 hs
            obtain ⟨q0, q1, q2⟩ := HZ.out.box.cells
            have HQ : Hid (∀ n, I (wz.drewN n) (.pointer (some p)) ⟨SL, SL.length, SN + 1⟩ OZ) := Lib.hid (fun n => (HZ.out.has.drewN HA.out.obj n).inv)
            have q0' : ∀ n, (wz.drewN n).cell? ⟨bd, 0, none⟩ = some (.slice A5 SL.length c5) := fun _ => q0
            have q1' : ∀ n, (wz.drewN n).cell? ⟨bd, 1, none⟩ = some (.int .i64 ((SL.length : Nat) : Int)) := fun _ => q1
            have q2' : ∀ n, (wz.drewN n).cell? ⟨bd, 2, none⟩ = some (.int .i64 ((SN : Int) + 1)) := fun _ => q2
            clear q0 q1 q2
            go_wp2_with fail
            refine wp_region_quiet_lit (by kernel_rfl) (by kernel_rfl) ?_
            repeat (go_big_quiet_step (fail))
            go_big_quiet_step (exact Reads.quiet (HA.out.len (HQ.out _)))
            repeat (go_big_quiet_step (fail))
            go_big_quiet_step (exact Reads.quiet (HA.out.room (HQ.out _)))
            repeat (go_big_quiet_step (fail))
            go_big_quiet_step (exact Reads.quiet (HA.out.lost (HQ.out _)))
            repeat (go_big_quiet_step (fail))
            refine wpQuiet_nil ?_
            rintro _ ⟨nq, rfl⟩
            have HZ2 := Lib.hid (HZ.out.later HA.out.obj (below_drewN (Below.refl _ _) nq))
            go_wp2_with fail
            go_roundw
            case rel => exact ⟨k + 1, _, ⟨SL, SL.length, SN + 1⟩, OZ, by omega, by go_num, by show SN + 1 ≤ k + 1; omega, Lib.hid HZ2.out⟩
            case measure => simp [intOf]; omega
          · obtain ⟨r0, r1, r2⟩ := HI1.out.box.cells
            have hlm := HRG.out
            simp only at hlm
            go_wp2_with fail
            refine (rgput_t (x := y) _ HI1.out.rd (by omega) (by omega)).mono ?_
            rintro e w2 ⟨u, rfl, hru, hb2, hnew⟩
            have HI2 := Lib.hid (HI1.out.later HA.out.obj hb2)
            have HBO2 := Lib.hid (HBO.out.later hb2)
            have HNW := Lib.hid hnew
            obtain ⟨A6, c6, hu6, -, -⟩ := hru.1
            rw [List.length_append, List.length_singleton] at hu6
            subst hu6
            have HO1 : Hid (∀ g, O1 g → g < wo.heap.size) := Lib.hid (HA.out.obj.lt HI.out.has.inv)
            have HP := Lib.hid ((HI2.out.put HA.out.obj (m' := (SM : Int)) (n' := (SN : Int)) hru (fun g hg => (HNW.out g hg).2) (fun g h1 h2 => by have := HO1.out g h1; have := (HNW.out g h2).1; simp at this; omega) (fun hg => by have := (HNW.out _ hg).1; simp at this; omega)).later HA.out.obj ((Below.refl _ _).alloc (Nat.le_refl _) (.cells #[.slice A6 (SL.length + 1) c6, .int .i64 SM, .int .i64 SN] 28)))
            clear r0 r1 r2 hru hnew
            obtain ⟨r0, r1, r2⟩ := HI2.out.box.cells
            obtain ⟨f0, f1, f2⟩ := HI2.out.box.live
            obtain ⟨e0, e1⟩ := HBO2.out.cells
            have hz1 : wo.heap.size < w2.heap.size := HBO2.out.lt
            have hz2 : bd < w2.heap.size := HI2.out.box.lt
            clear hb2
            go_wp2_with fail
            obtain ⟨w4, hw4⟩ : ∃ w4, (putR w2 bd (.slice A6 (SL.length + 1) c6) SM SN).alloc (.cells #[.slice A6 (SL.length + 1) c6, .int .i64 SM, .int .i64 SN] 28) = w4 := ⟨_, rfl⟩
            rw [hw4] at HP
            unfold putR at hw4
            rw [hw4]
            clear hw4 r0 r1 r2 f0 f1 f2 e0 e1 hz1 hz2
            refine (HA.out.put_t y HP.out.has.inv (by simp only; omega)).mono ?_
            rintro e wz ⟨rfl, hs⟩
            obtain ⟨OZ, h5⟩ := HP.out.step HA.out.obj hs
            have HZ := Lib.hid h5
            clear h5 hs
            obtain ⟨A5, hA5⟩ : ∃ A5, A5 = A6 := ⟨_, rfl⟩
            obtain ⟨c5, hc5⟩ : ∃ c5, c5 = c6 := ⟨_, rfl⟩
            rw [← hA5, ← hc5] at HZ ⊢
            clear hA5 hc5
            obtain ⟨q0, q1, q2⟩ := HZ.out.box.cells
            have HQ : Hid (∀ n, I (wz.drewN n) (.pointer (some p)) ⟨SL ++ [y], SM, SN⟩ OZ) := Lib.hid (fun n => (HZ.out.has.drewN HA.out.obj n).inv)
            have q0' : ∀ n, (wz.drewN n).cell? ⟨bd, 0, none⟩ = some (.slice A5 (SL.length + 1) c5) := fun _ => q0
            have q1' : ∀ n, (wz.drewN n).cell? ⟨bd, 1, none⟩ = some (.int .i64 ((SM : Nat) : Int)) := fun _ => q1
            have q2' : ∀ n, (wz.drewN n).cell? ⟨bd, 2, none⟩ = some (.int .i64 ((SN : Nat) : Int)) := fun _ => q2
            clear q0 q1 q2
            go_wp2_with fail
            refine wp_region_quiet_lit (by kernel_rfl) (by kernel_rfl) ?_
            repeat (go_big_quiet_step (fail))
            go_big_quiet_step (exact Reads.quiet (HA.out.len (HQ.out _)))
            repeat (go_big_quiet_step (fail))
            go_big_quiet_step (exact Reads.quiet (HA.out.room (HQ.out _)))
            repeat (go_big_quiet_step (fail))
            go_big_quiet_step (exact Reads.quiet (HA.out.lost (HQ.out _)))
            repeat (go_big_quiet_step (fail))
            refine wpQuiet_nil ?_
            rintro _ ⟨nq, rfl⟩
            have HZ2 := Lib.hid (HZ.out.later HA.out.obj (below_drewN (Below.refl _ _) nq))
            go_wp2_with fail
            go_roundw
            case rel => exact ⟨k + 1, _, ⟨SL ++ [y], SM, SN⟩, OZ, by omega, by go_num, by show SN ≤ k + 1; omega, Lib.hid HZ2.out⟩
            case measure => simp [intOf]; omega
        · have hk0 : (kd == 0) = false := by simpa using h0
          by_cases h1 : kd = 1
          · subst h1
            clear h0 hk0
            cases SL with
            | nil =>
              obtain ⟨r0, r1, r2⟩ := HI1.out.box.cells
              simp only [List.length_nil] at r0
              go_wp2_with fail
              refine (rgtake_no _ HI1.out.rd).mono ?_
              rintro e w2 ⟨rfl, hb2⟩
              have HI2 := Lib.hid (HI1.out.later HA.out.obj hb2)
              have HBO2 := Lib.hid (HBO.out.later hb2)
              have hb3 := (Below.refl w2.heap.size w2).alloc (Nat.le_refl _) (.cells #[.slice A5 0 c5, .int .i64 SM, .int .i64 SN] 28)
              have HI3 := Lib.hid (HI2.out.later HA.out.obj hb3)
              have HBO3 := Lib.hid (HBO2.out.later hb3)
              have HX3 := Lib.hid (BoxR.made w2 (.slice A5 0 c5) SM SN rfl)
              clear r0 r1 r2 hb2 hb3
              go_wp2_with fail
              refine (HA.out.peek_f HI3.out.has.inv).mono ?_
              rintro e w3 ⟨rfl, n3, rfl⟩
              have hbn := below_drewN (Below.refl (w2.alloc (.cells #[.slice A5 0 c5, .int .i64 SM, .int .i64 SN] 28)).heap.size (w2.alloc (.cells #[.slice A5 0 c5, .int .i64 SM, .int .i64 SN] 28))) n3
              have HI4 := Lib.hid (HI3.out.later HA.out.obj hbn)
              have HBO4 := Lib.hid (HBO3.out.later hbn)
              have HX4 := Lib.hid (HX3.out.later hbn)
              clear hbn HX3
              have HNX : Hid (wo.heap.size < w2.heap.size ∧ bd < w2.heap.size) := Lib.hid ⟨HBO2.out.lt, HI2.out.box.lt⟩
              generalize (w2.alloc (.cells #[.slice A5 0 c5, .int .i64 SM, .int .i64 SN] 28)).drewN n3 = w3 at HI4 HBO4 HX4 ⊢
              obtain ⟨e0, e1⟩ := HBO4.out.cells
              have hx1 : wo.heap.size < w2.heap.size := HNX.out.1
              have hx2 : bd < w2.heap.size := HNX.out.2
              obtain ⟨r0, r1, r2⟩ := HI4.out.box.cells
              obtain ⟨f0, f1, f2⟩ := HI4.out.box.live
              obtain ⟨s0, s1, s2⟩ := HX4.out.cells
              have HP := Lib.hid (HI4.out.put HA.out.obj (m' := (SM : Int)) (n' := (SN : Int)) HI4.out.rd HI4.out.lt HI4.out.ap HI4.out.nv)
              go_wp2_with fail
              obtain ⟨w4, hw4⟩ : ∃ w4, putR w3 bd (.slice A5 0 c5) SM SN = w4 := ⟨_, rfl⟩
              have HP : Hid (PlM I w (.pointer (some p)) bd (.slice A5 0 c5) [] SM SN ⟨[], SM, SN⟩ O1 w4) := Lib.hid (by rw [← hw4]; exact HP.out)
              unfold putR at hw4
              rw [hw4]
              clear hw4 r0 r1 r2 f0 f1 f2 s0 s1 s2 e0 e1 hx1 hx2
              refine (HA.out.take_f HP.out.has.inv).mono ?_
              rintro e wz ⟨rfl, hs⟩
              obtain ⟨OZ, h5⟩ := HP.out.step HA.out.obj hs
              have HZ := Lib.hid h5
              clear h5 hs
              obtain ⟨q0, q1, q2⟩ := HZ.out.box.cells
              have HQ : Hid (∀ n, I (wz.drewN n) (.pointer (some p)) ⟨[], SM, SN⟩ OZ) := Lib.hid (fun n => (HZ.out.has.drewN HA.out.obj n).inv)
              have q0' : ∀ n, (wz.drewN n).cell? ⟨bd, 0, none⟩ = some (.slice A5 0 c5) := fun _ => q0
              have q1' : ∀ n, (wz.drewN n).cell? ⟨bd, 1, none⟩ = some (.int .i64 ((SM : Nat) : Int)) := fun _ => q1
              have q2' : ∀ n, (wz.drewN n).cell? ⟨bd, 2, none⟩ = some (.int .i64 ((SN : Nat) : Int)) := fun _ => q2
              clear q0 q1 q2
              go_wp2_with fail
              refine wp_region_quiet_lit (by kernel_rfl) (by kernel_rfl) ?_
              repeat (go_big_quiet_step (fail))
              go_big_quiet_step (exact Reads.quiet (HA.out.len (HQ.out _)))
              repeat (go_big_quiet_step (fail))
              go_big_quiet_step (exact Reads.quiet (HA.out.room (HQ.out _)))
              repeat (go_big_quiet_step (fail))
              go_big_quiet_step (exact Reads.quiet (HA.out.lost (HQ.out _)))
              repeat (go_big_quiet_step (fail))
              refine wpQuiet_nil ?_
              rintro _ ⟨nq, rfl⟩
              have HZ2 := Lib.hid (HZ.out.later HA.out.obj (below_drewN (Below.refl _ _) nq))
              go_wp2_with fail
              go_roundw
              case rel => exact ⟨k + 1, _, ⟨[], SM, SN⟩, OZ, by omega, by go_num, by show SN ≤ k + 1; omega, Lib.hid HZ2.out⟩
              case measure => simp [intOf]; omega
            | cons z SL =>
              obtain ⟨r0, r1, r2⟩ := HI1.out.box.cells
              simp only [List.length_cons] at r0
              go_wp2_with fail
              refine (rgtake_yes _ HI1.out.rd).mono ?_
              rintro e w2 ⟨u, rfl, hru, hb2, hsub⟩
              have HSB := Lib.hid hsub
              obtain ⟨A6, c6, hu6, -, -⟩ := hru.1
              subst hu6
              have HI2 := Lib.hid (HI1.out.later HA.out.obj hb2)
              have HBO2 := Lib.hid (HBO.out.later hb2)
              have hb3 := (Below.refl w2.heap.size w2).alloc (Nat.le_refl _) (.cells #[.slice A6 SL.length c6, .int .i64 SM, .int .i64 SN] 28)
              have HI3 := Lib.hid (HI2.out.later HA.out.obj hb3)
              have HBO3 := Lib.hid (HBO2.out.later hb3)
              have HX3 := Lib.hid (BoxR.made w2 (.slice A6 SL.length c6) SM SN rfl)
              have HRU := Lib.hid (hru.later hb3)
              clear r0 r1 r2 hb2 hb3 hru hsub
              go_wp2_with fail
              refine (HA.out.peek_t HI3.out.has.inv).mono ?_
              rintro e w3 ⟨rfl, n3, rfl⟩
              have hbn := below_drewN (Below.refl (w2.alloc (.cells #[.slice A6 SL.length c6, .int .i64 SM, .int .i64 SN] 28)).heap.size (w2.alloc (.cells #[.slice A6 SL.length c6, .int .i64 SM, .int .i64 SN] 28))) n3
              have HI4 := Lib.hid (HI3.out.later HA.out.obj hbn)
              have HBO4 := Lib.hid (HBO3.out.later hbn)
              have HX4 := Lib.hid (HX3.out.later hbn)
              have HRU4 := Lib.hid (HRU.out.later hbn)
              clear hbn HX3
              have HNX : Hid (wo.heap.size < w2.heap.size ∧ bd < w2.heap.size) := Lib.hid ⟨HBO2.out.lt, HI2.out.box.lt⟩
              generalize (w2.alloc (.cells #[.slice A6 SL.length c6, .int .i64 SM, .int .i64 SN] 28)).drewN n3 = w3 at HI4 HBO4 HX4 HRU4 ⊢
              obtain ⟨e0, e1⟩ := HBO4.out.cells
              have hx1 : wo.heap.size < w2.heap.size := HNX.out.1
              have hx2 : bd < w2.heap.size := HNX.out.2
              obtain ⟨r0, r1, r2⟩ := HI4.out.box.cells
              obtain ⟨f0, f1, f2⟩ := HI4.out.box.live
              obtain ⟨s0, s1, s2⟩ := HX4.out.cells
              have HP := Lib.hid (HI4.out.put HA.out.obj (m' := (SM : Int)) (n' := (SN : Int)) HRU4.out (fun g hg => HI4.out.lt g (HSB.out g hg)) (fun g h1 h2 => HI4.out.ap g h1 (HSB.out g h2)) (fun hg => HI4.out.nv (HSB.out _ hg)))
              go_wp2_with fail
              obtain ⟨w4, hw4⟩ : ∃ w4, putR w3 bd (.slice A6 SL.length c6) SM SN = w4 := ⟨_, rfl⟩
              rw [hw4] at HP
              unfold putR at hw4
              rw [hw4]
              clear hw4 r0 r1 r2 f0 f1 f2 s0 s1 s2 e0 e1 hx1 hx2
              refine (HA.out.take_t HP.out.has.inv).mono ?_
              rintro e wz ⟨rfl, hs⟩
              obtain ⟨OZ, h5⟩ := HP.out.step HA.out.obj hs
              have HZ := Lib.hid h5
              clear h5 hs
              obtain ⟨A5, hA5⟩ : ∃ A5, A5 = A6 := ⟨_, rfl⟩
              obtain ⟨c5, hc5⟩ : ∃ c5, c5 = c6 := ⟨_, rfl⟩
              rw [← hA5, ← hc5] at HZ ⊢
              clear hA5 hc5
              obtain ⟨q0, q1, q2⟩ := HZ.out.box.cells
              have HQ : Hid (∀ n, I (wz.drewN n) (.pointer (some p)) ⟨SL, SM, SN⟩ OZ) := Lib.hid (fun n => (HZ.out.has.drewN HA.out.obj n).inv)
              have q0' : ∀ n, (wz.drewN n).cell? ⟨bd, 0, none⟩ = some (.slice A5 SL.length c5) := fun _ => q0
              have q1' : ∀ n, (wz.drewN n).cell? ⟨bd, 1, none⟩ = some (.int .i64 ((SM : Nat) : Int)) := fun _ => q1
              have q2' : ∀ n, (wz.drewN n).cell? ⟨bd, 2, none⟩ = some (.int .i64 ((SN : Nat) : Int)) := fun _ => q2
              clear q0 q1 q2
              go_wp2_with fail
              refine wp_region_quiet_lit (by kernel_rfl) (by kernel_rfl) ?_
              repeat (go_big_quiet_step (fail))
              go_big_quiet_step (exact Reads.quiet (HA.out.len (HQ.out _)))
              repeat (go_big_quiet_step (fail))
              go_big_quiet_step (exact Reads.quiet (HA.out.room (HQ.out _)))
              repeat (go_big_quiet_step (fail))
              go_big_quiet_step (exact Reads.quiet (HA.out.lost (HQ.out _)))
              repeat (go_big_quiet_step (fail))
              refine wpQuiet_nil ?_
              rintro _ ⟨nq, rfl⟩
              have HZ2 := Lib.hid (HZ.out.later HA.out.obj (below_drewN (Below.refl _ _) nq))
              go_wp2_with fail
              go_roundw
              case rel => exact ⟨k + 1, _, ⟨SL, SM, SN⟩, OZ, by omega, by go_num, by show SN ≤ k + 1; omega, Lib.hid HZ2.out⟩
              case measure => simp [intOf]; omega
          · have hk1 : (kd == 1) = false := by simpa using h1
            by_cases h2 : kd = 2
            · subst h2
              clear h0 hk0 h1 hk1
              cases SL with
              | nil =>
                obtain ⟨r0, r1, r2⟩ := HI1.out.box.cells
                simp only [List.length_nil] at r0
                go_wp2_with fail
                refine (rgtake_no _ HI1.out.rd).mono ?_
                rintro e w2 ⟨rfl, hb2⟩
                have HI2 := Lib.hid (HI1.out.later HA.out.obj hb2)
                have HBO2 := Lib.hid (HBO.out.later hb2)
                have hb3 := (Below.refl w2.heap.size w2).alloc (Nat.le_refl _) (.cells #[.slice A5 0 c5, .int .i64 SM, .int .i64 SN] 28)
                have HI3 := Lib.hid (HI2.out.later HA.out.obj hb3)
                have HBO3 := Lib.hid (HBO2.out.later hb3)
                have HX3 := Lib.hid (BoxR.made w2 (.slice A5 0 c5) SM SN rfl)
                clear r0 r1 r2 hb2 hb3
                go_wp2_with fail
                refine (HA.out.peek_f HI3.out.has.inv).mono ?_
                rintro e w3 ⟨rfl, n3, rfl⟩
                have hbn := below_drewN (Below.refl (w2.alloc (.cells #[.slice A5 0 c5, .int .i64 SM, .int .i64 SN] 28)).heap.size (w2.alloc (.cells #[.slice A5 0 c5, .int .i64 SM, .int .i64 SN] 28))) n3
                have HI4 := Lib.hid (HI3.out.later HA.out.obj hbn)
                have HBO4 := Lib.hid (HBO3.out.later hbn)
                have HX4 := Lib.hid (HX3.out.later hbn)
                clear hbn HX3
                have HNX : Hid (wo.heap.size < w2.heap.size ∧ bd < w2.heap.size) := Lib.hid ⟨HBO2.out.lt, HI2.out.box.lt⟩
                generalize (w2.alloc (.cells #[.slice A5 0 c5, .int .i64 SM, .int .i64 SN] 28)).drewN n3 = wz at HI4 HBO4 HX4 ⊢
                obtain ⟨e0, e1⟩ := HBO4.out.cells
                have HZ := HI4
                obtain ⟨OZ, hOZ⟩ : ∃ OZ, OZ = O1 := ⟨_, rfl⟩
                rw [← hOZ] at HZ
                clear hOZ
                obtain ⟨q0, q1, q2⟩ := HZ.out.box.cells
                have HQ : Hid (∀ n, I (wz.drewN n) (.pointer (some p)) ⟨[], SM, SN⟩ OZ) := Lib.hid (fun n => (HZ.out.has.drewN HA.out.obj n).inv)
                have q0' : ∀ n, (wz.drewN n).cell? ⟨bd, 0, none⟩ = some (.slice A5 0 c5) := fun _ => q0
                have q1' : ∀ n, (wz.drewN n).cell? ⟨bd, 1, none⟩ = some (.int .i64 ((SM : Nat) : Int)) := fun _ => q1
                have q2' : ∀ n, (wz.drewN n).cell? ⟨bd, 2, none⟩ = some (.int .i64 ((SN : Nat) : Int)) := fun _ => q2
                clear q0 q1 q2
                go_wp2_with fail
                refine wp_region_quiet_lit (by kernel_rfl) (by kernel_rfl) ?_
                repeat (go_big_quiet_step (fail))
                go_big_quiet_step (exact Reads.quiet (HA.out.len (HQ.out _)))
                repeat (go_big_quiet_step (fail))
                go_big_quiet_step (exact Reads.quiet (HA.out.room (HQ.out _)))
                repeat (go_big_quiet_step (fail))
                go_big_quiet_step (exact Reads.quiet (HA.out.lost (HQ.out _)))
                repeat (go_big_quiet_step (fail))
                refine wpQuiet_nil ?_
                rintro _ ⟨nq, rfl⟩
                have HZ2 := Lib.hid (HZ.out.later HA.out.obj (below_drewN (Below.refl _ _) nq))
                go_wp2_with fail
                go_roundw
                case rel => exact ⟨k + 1, _, ⟨[], SM, SN⟩, OZ, by omega, by go_num, by show SN ≤ k + 1; omega, Lib.hid HZ2.out⟩
                case measure => simp [intOf]; omega
              | cons z SL =>
                obtain ⟨r0, r1, r2⟩ := HI1.out.box.cells
                simp only [List.length_cons] at r0
                go_wp2_with fail
                refine (rgtake_yes _ HI1.out.rd).mono ?_
                rintro e w2 ⟨u, rfl, hru, hb2, hsub⟩
                have HSB := Lib.hid hsub
                obtain ⟨A6, c6, hu6, -, -⟩ := hru.1
                subst hu6
                have HI2 := Lib.hid (HI1.out.later HA.out.obj hb2)
                have HBO2 := Lib.hid (HBO.out.later hb2)
                have hb3 := (Below.refl w2.heap.size w2).alloc (Nat.le_refl _) (.cells #[.slice A6 SL.length c6, .int .i64 SM, .int .i64 SN] 28)
                have HI3 := Lib.hid (HI2.out.later HA.out.obj hb3)
                have HBO3 := Lib.hid (HBO2.out.later hb3)
                have HX3 := Lib.hid (BoxR.made w2 (.slice A6 SL.length c6) SM SN rfl)
                have HRU := Lib.hid (hru.later hb3)
                clear r0 r1 r2 hb2 hb3 hru hsub
                go_wp2_with fail
                refine (HA.out.peek_t HI3.out.has.inv).mono ?_
                rintro e w3 ⟨rfl, n3, rfl⟩
                have hbn := below_drewN (Below.refl (w2.alloc (.cells #[.slice A6 SL.length c6, .int .i64 SM, .int .i64 SN] 28)).heap.size (w2.alloc (.cells #[.slice A6 SL.length c6, .int .i64 SM, .int .i64 SN] 28))) n3
                have HI4 := Lib.hid (HI3.out.later HA.out.obj hbn)
                have HBO4 := Lib.hid (HBO3.out.later hbn)
                have HX4 := Lib.hid (HX3.out.later hbn)
                have HRU4 := Lib.hid (HRU.out.later hbn)
                clear hbn HX3
                have HNX : Hid (wo.heap.size < w2.heap.size ∧ bd < w2.heap.size) := Lib.hid ⟨HBO2.out.lt, HI2.out.box.lt⟩
                generalize (w2.alloc (.cells #[.slice A6 SL.length c6, .int .i64 SM, .int .i64 SN] 28)).drewN n3 = wz at HI4 HBO4 HX4 HRU4 ⊢
                obtain ⟨e0, e1⟩ := HBO4.out.cells
                have HZ := HI4
                obtain ⟨OZ, hOZ⟩ : ∃ OZ, OZ = O1 := ⟨_, rfl⟩
                rw [← hOZ] at HZ
                clear hOZ
                obtain ⟨q0, q1, q2⟩ := HZ.out.box.cells
                have HQ : Hid (∀ n, I (wz.drewN n) (.pointer (some p)) ⟨z :: SL, SM, SN⟩ OZ) := Lib.hid (fun n => (HZ.out.has.drewN HA.out.obj n).inv)
                have q0' : ∀ n, (wz.drewN n).cell? ⟨bd, 0, none⟩ = some (.slice A5 (SL.length + 1) c5) := fun _ => q0
                have q1' : ∀ n, (wz.drewN n).cell? ⟨bd, 1, none⟩ = some (.int .i64 ((SM : Nat) : Int)) := fun _ => q1
                have q2' : ∀ n, (wz.drewN n).cell? ⟨bd, 2, none⟩ = some (.int .i64 ((SN : Nat) : Int)) := fun _ => q2
                clear q0 q1 q2
                go_wp2_with fail
                refine wp_region_quiet_lit (by kernel_rfl) (by kernel_rfl) ?_
                repeat (go_big_quiet_step (fail))
                go_big_quiet_step (exact Reads.quiet (HA.out.len (HQ.out _)))
                repeat (go_big_quiet_step (fail))
                go_big_quiet_step (exact Reads.quiet (HA.out.room (HQ.out _)))
                repeat (go_big_quiet_step (fail))
                go_big_quiet_step (exact Reads.quiet (HA.out.lost (HQ.out _)))
                repeat (go_big_quiet_step (fail))
                refine wpQuiet_nil ?_
                rintro _ ⟨nq, rfl⟩
                have HZ2 := Lib.hid (HZ.out.later HA.out.obj (below_drewN (Below.refl _ _) nq))
                go_wp2_with fail
                go_roundw
                case rel => exact ⟨k + 1, _, ⟨z :: SL, SM, SN⟩, OZ, by omega, by go_num, by show SN ≤ k + 1; omega, Lib.hid HZ2.out⟩
                case measure => simp [intOf]; omega
            · have hk2 : (kd == 2) = false := by simpa using h2
              by_cases h3 : kd = 3
              · subst h3
                clear h0 hk0 h1 hk1 h2 hk2
                obtain ⟨r0, r1, r2⟩ := HI1.out.box.cells
                have HD := Lib.hid (HI1.out.later HA.out.obj (Below.refl _ _).drew)
                go_wp2_with fail
                go_region_with (go_at_call 15; refine (HA.out.clear HD.out.has.inv).mono ?_; rintro e w2 ⟨rfl, hs⟩; obtain ⟨O2, h2⟩ := HD.out.step HA.out.obj hs; have HC := Lib.hid h2; clear h2 hs; obtain ⟨s0, s1, s2⟩ := HC.out.box.cells)
                all_goals (
                  clear r0 r1 r2 s0 s1 s2
                  obtain ⟨r0, r1, r2⟩ := HC.out.box.cells
                  obtain ⟨f0, f1, f2⟩ := HC.out.box.live
                  have HZ := Lib.hid (plM_nil HA.out.obj HC.out)
                  go_wp2_with fail
                  obtain ⟨wz, hwz⟩ : ∃ wz, w2.setCell ⟨bd, 0, none⟩ (.slice none 0 0) = wz := ⟨_, rfl⟩
                  rw [hwz] at HZ ⊢
                  clear hwz r0 r1 r2 f0 f1 f2
                  obtain ⟨OZ, hOZ⟩ : ∃ OZ, OZ = O2 := ⟨_, rfl⟩
                  rw [← hOZ] at HZ
                  clear hOZ
                  obtain ⟨q0, q1, q2⟩ := HZ.out.box.cells
                  have HQ : Hid (∀ n, I (wz.drewN n) (.pointer (some p)) ⟨[], SM, SN⟩ OZ) := Lib.hid (fun n => (HZ.out.has.drewN HA.out.obj n).inv)
                  have q0' : ∀ n, (wz.drewN n).cell? ⟨bd, 0, none⟩ = some (.slice none 0 0) := fun _ => q0
                  have q1' : ∀ n, (wz.drewN n).cell? ⟨bd, 1, none⟩ = some (.int .i64 ((SM : Nat) : Int)) := fun _ => q1
                  have q2' : ∀ n, (wz.drewN n).cell? ⟨bd, 2, none⟩ = some (.int .i64 ((SN : Nat) : Int)) := fun _ => q2
                  clear q0 q1 q2
                  refine wp_region_quiet_lit (by kernel_rfl) (by kernel_rfl) ?_
                  repeat (go_big_quiet_step (fail))
                  go_big_quiet_step (exact Reads.quiet (HA.out.len (HQ.out _)))
                  repeat (go_big_quiet_step (fail))
                  go_big_quiet_step (exact Reads.quiet (HA.out.room (HQ.out _)))
                  repeat (go_big_quiet_step (fail))
                  go_big_quiet_step (exact Reads.quiet (HA.out.lost (HQ.out _)))
                  repeat (go_big_quiet_step (fail))
                  refine wpQuiet_nil ?_
                  rintro _ ⟨nq, rfl⟩
                  have HZ2 := Lib.hid (HZ.out.later HA.out.obj (below_drewN (Below.refl _ _) nq))
                  go_wp2_with fail
                  go_roundw
                  case rel => exact ⟨k + 1, _, ⟨[], SM, SN⟩, OZ, by omega, by go_num, by show SN ≤ k + 1; omega, Lib.hid HZ2.out⟩
                  case measure => simp [intOf]; omega
                  )
              · have hk3 : (kd == 3) = false := by simpa using h3
                clear h0 h1 h2 h3
                go_wp2_with fail
                generalize wo.alloc (.cells #[.int .i64 kd, .int .i64 y] 31) = wz at HI1 ⊢
                have HZ := HI1
                obtain ⟨OZ, hOZ⟩ : ∃ OZ, OZ = O1 := ⟨_, rfl⟩
                rw [← hOZ] at HZ
                clear hOZ
                obtain ⟨q0, q1, q2⟩ := HZ.out.box.cells
                have HQ : Hid (∀ n, I (wz.drewN n) (.pointer (some p)) ⟨SL, SM, SN⟩ OZ) := Lib.hid (fun n => (HZ.out.has.drewN HA.out.obj n).inv)
                have q0' : ∀ n, (wz.drewN n).cell? ⟨bd, 0, none⟩ = some (.slice A5 SL.length c5) := fun _ => q0
                have q1' : ∀ n, (wz.drewN n).cell? ⟨bd, 1, none⟩ = some (.int .i64 ((SM : Nat) : Int)) := fun _ => q1
                have q2' : ∀ n, (wz.drewN n).cell? ⟨bd, 2, none⟩ = some (.int .i64 ((SN : Nat) : Int)) := fun _ => q2
                clear q0 q1 q2
                refine wp_region_quiet_lit (by kernel_rfl) (by kernel_rfl) ?_
                repeat (go_big_quiet_step (fail))
                go_big_quiet_step (exact Reads.quiet (HA.out.len (HQ.out _)))
                repeat (go_big_quiet_step (fail))
                go_big_quiet_step (exact Reads.quiet (HA.out.room (HQ.out _)))
                repeat (go_big_quiet_step (fail))
                go_big_quiet_step (exact Reads.quiet (HA.out.lost (HQ.out _)))
                repeat (go_big_quiet_step (fail))
                refine wpQuiet_nil ?_
                rintro _ ⟨nq, rfl⟩
                have HZ2 := Lib.hid (HZ.out.later HA.out.obj (below_drewN (Below.refl _ _) nq))
                go_wp2_with fail
                go_roundw
                case rel => exact ⟨k + 1, _, ⟨SL, SM, SN⟩, OZ, by omega, by go_num, by show SN ≤ k + 1; omega, Lib.hid HZ2.out⟩
                case measure => simp [intOf]; omega
      · obtain rfl : k = L.length := by omega
        obtain ⟨⟨A5, c5, hv5, -, -⟩, -⟩ := HI.out.rd
        subst hv5
        obtain ⟨r0, r1, r2⟩ := HI.out.box.cells
        have HSL : Hid (SL.length ≤ 1000) := Lib.hid (by have := HRG.out; simp only at this; omega)
        have HD := Lib.hid (HI.out.later HA.out.obj (Below.refl _ _).drew)
        go_wp2_with fail
        go_region_with (first
          | (go_at_call 20; refine (HA.out.all HD.out.has.inv).mono ?_; rintro e w4 ⟨u4, rfl, hf4, hb4⟩; have HI4 := Lib.hid (HD.out.later HA.out.obj hb4); have HL4 : Hid (SlI w4 u4 SL) := Lib.hid (FreeA.sla (O := fun _ => False) (fun _ => rfl) hf4 (by have h := HSL.out; have e : SL.length ≤ maxLen := (by unfold maxLen; omega); exact e) (fun k h => h.elim)).sl; obtain ⟨A4, c4, rfl, -, -⟩ := HL4.out; clear hf4 hb4; obtain ⟨s0, s1, s2⟩ := HI4.out.box.cells)
          | (go_at_call 19; refine (sints_v (q := true) (by simp) _ HL4.out HI4.out.rd.1).mono ?_; rintro e w5 ⟨rfl, n5, rfl⟩; have HB5 := Lib.hid (below_drewN HI4.out.has.below n5); generalize w4.drewN n5 = w5 at HB5 ⊢)
          | (go_at_call 7; refine (ralive_any HA.out _).mono ?_; rintro e w6 ⟨rfl, hb6⟩; have HB6 := Lib.hid (fbelow_t HB5.out hb6); clear hb6))
        all_goals (
          go_wp2
          go_ret
          exact ⟨rfl, HB6.out⟩)
  · have hd : decide (600 < L.length) = true := by simp; omega
    go_enter Try.func3, Try.ntmps3
    go_wp2_with fail
    refine (ralive_any HA.out _).mono ?_
    rintro e w2 ⟨rfl, hb⟩
    go_wp2
    go_ret
    exact ⟨rfl, hb⟩
end Go.Proofs.Ytbjijmdknlopdaa

namespace Go.Proofs.Ytbjijmdknlopdaa
open Go.RowKit
set_option linter.unusedVariables false
theorem sec_callF {P : Program} {ops : Array Oper} {W : World} {sec : List Tmp} {F : Tmp → Value → World → Prop} {o : Oper} {h : Act} {rest : List Oper} {Q : Act → Prop} {s : Tmp} {f : FuncId} {args : Array Value}
    (hw : Region.wanted o (yielded ops h.tmps) = true) (hn : noSel o = true) (hl : secOpenL ops sec o = true) (hd : o.dst = some s) (hs : sec.contains s = true)
    (hrun : ∀ w, (execOp h.eval o).run P w = .ok (.enter f args) w) (hc : ∀ q : Later W, Calls P f args q.w fun e w'' => ∃ u, e = .returned u ∧ Below q.w.heap.size q.w w'' ∧ F s u w'')
    (hk : wpSec P ops W sec F Q rest (h.put o.dst undef)) : wpSec P ops W sec F Q (o :: rest) h := by
  unfold wpSec
  rw [if_pos hw]
  refine ⟨undef, fun a w hb hlk => ?_, hk⟩
  rw [eval_open hl (noSel_spec hn) hlk, hrun w]
  refine ⟨rfl, (hc ⟨w, hb⟩).mono ?_⟩
  rintro e w'' ⟨u, he, hb', hF⟩
  refine ⟨u, he, hb', ?_⟩
  unfold secGood
  rw [hd]
  simp only
  rw [if_pos (by simpa using hs)]
  exact hF
end Go.Proofs.Ytbjijmdknlopdaa
