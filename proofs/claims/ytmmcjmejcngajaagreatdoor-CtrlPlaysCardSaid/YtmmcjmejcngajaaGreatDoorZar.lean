/- Ctrl, the document's side: Room, Set, Clear. Ctrl, the document's side: New, Offer, Won. Ctrl, the document's side: Won, Fetch. -/
import Derived.Test.YtmmcjmejcngajaaGreatDoorZaq
import Derived.Test.YtmmcjmejcngajaaGreatDoorZaf
import Derived.Test.YtmmcjmejcngajaaGreatDoorZai
namespace Go.Proofs.YtmmcjmejcngajaaGreatDoor
open Go.RowKit
set_option linter.unusedVariables false

/-- the register with a bit more -/
def setB (a bit : Int) : Int := if a / bit % 2 = 0 then a + bit else a
theorem div_rng {a b : Int} (ha : 0 ≤ a ∧ a < 16) (hb : 1 ≤ b) : 0 ≤ a / b ∧ a / b < 16 ∧ a.tdiv b = a / b ∧ (a / b).tmod 2 = a / b % 2 := by
  have h0 : 0 ≤ a / b := Int.ediv_nonneg ha.1 (by omega)
  exact ⟨h0, Int.lt_of_le_of_lt (Int.ediv_le_self b ha.1) ha.2, Int.tdiv_eq_ediv_of_nonneg ha.1, Int.tmod_eq_emod_of_nonneg h0⟩
set_option maxHeartbeats 2000000 in
theorem xset_v {v : Value} {s : Ct} {O : Nat → Prop} {bit : Int} (w : World) (h : CtD w v s O) (ha : 0 ≤ s.asks ∧ s.asks < 16) (hb : 1 ≤ bit ∧ bit ≤ 8) :
    Calls Tryz.prog 30 #[v, .int .i64 bit] w fun e w' => e = .returned (.tuple #[]) ∧ Stp CtD v O w { s with asks := setB s.asks bit } w' := by
  obtain ⟨b, bv, Ob, vf, rfl, rfl, hm⟩ := h
  obtain ⟨c0, c1, c2, c3, c4, c5⟩ := hm.cells
  have f5 := hm.live 5
  obtain ⟨q0, q1, q2, q3⟩ := div_rng ha hb.1
  have hne : (bit == 0) = false := by simp; omega
  have HS1 : Hid (Stp CtD (.pointer (some ⟨b, 0, none⟩)) (ctO b Ob vf) w { s with asks := s.asks + bit } (w.setCell ⟨b, 5, none⟩ (.int .i64 (s.asks + bit)))) := Lib.hid (hm.stpNum (s' := { s with asks := s.asks + bit }) 5 _ rfl rfl rfl)
  have HS2 : Hid (Stp CtD (.pointer (some ⟨b, 0, none⟩)) (ctO b Ob vf) w s w) := Lib.hid (hm.stp (Below.refl _ _))
  clear hm
  by_cases h0 : s.asks / bit % 2 = 0
  · have e0 : setB s.asks bit = s.asks + bit := by unfold setB; rw [if_pos h0]
    rw [e0]
    have hd : (s.asks / bit % 2 == 0) = true := by simp [h0]
    clear e0 h0
    go_enter Tryz.func30, Tryz.ntmps30
    go_wp2
    go_end0
    exact ⟨rfl, HS1.out⟩
  · have e0 : setB s.asks bit = s.asks := by unfold setB; rw [if_neg h0]
    rw [e0]
    have hd : (s.asks / bit % 2 == 0) = false := by simp [h0]
    clear e0 h0
    go_enter Tryz.func30, Tryz.ntmps30
    go_wp2
    go_end0
    exact ⟨rfl, HS2.out⟩
/-- the register without some bits -/
def clrS (a n b : Int) : Int := if bits .and .i64 n b ≠ 0 ∧ a / b % 2 = 1 then a - b else a
def pwB : Nat → Int
  | 0 => 1
  | 1 => 2
  | 2 => 4
  | 3 => 8
  | _ => 16
def clrK (a n : Int) : Nat → Int
  | 0 => a
  | k + 1 => clrS (clrK a n k) n (pwB k)
theorem pwB_lt {k : Nat} (h : k < 4) : 1 ≤ pwB k ∧ pwB k ≤ 8 ∧ 2 * pwB k = pwB (k + 1) := by
  rcases (by omega : k = 0 ∨ k = 1 ∨ k = 2 ∨ k = 3) with rfl | rfl | rfl | rfl <;> decide
theorem clrS_rng {a n b : Int} (ha : 0 ≤ a ∧ a < 16) (hb : 1 ≤ b) : 0 ≤ clrS a n b ∧ clrS a n b < 16 := by
  unfold clrS
  split
  · rename_i h
    have h1 : a / b ≠ 0 := fun e => by rw [e] at h; simp at h
    have h2 : b ≤ a := by
      rcases Int.lt_or_le a b with h3 | h3
      · exact absurd (Int.ediv_eq_zero_of_lt ha.1 h3) h1
      · exact h3
    omega
  · exact ha
theorem clrK_rng {a n : Int} (ha : 0 ≤ a ∧ a < 16) : ∀ k, k ≤ 4 → 0 ≤ clrK a n k ∧ clrK a n k < 16
  | 0, _ => ha
  | k + 1, h => clrS_rng (clrK_rng ha k (by omega)) (pwB_lt (by omega)).1
set_option maxHeartbeats 4000000 in
theorem xclear_v {v : Value} {s : Ct} {O : Nat → Prop} {n : Int} (w : World) (h : CtD w v s O) (ha : 0 ≤ s.asks ∧ s.asks < 16) :
    Calls Tryz.prog 32 #[v, .int .i64 n] w fun e w' => e = .returned (.tuple #[]) ∧ Stp CtD v O w { s with asks := clrK s.asks n 4 } w' := by
  obtain ⟨b, bv, Ob, vf, rfl, rfl, hm⟩ := h
  have HM := Lib.hid hm
  have HA := Lib.hid ha
  clear hm ha
  go_enter Tryz.func32, Tryz.ntmps32
  go_wp2
  go_loopw [4] (fun i wr => ∃ k : Nat, k ≤ 4 ∧ i = .int .i64 (pwB k) ∧ Hid (CtM wr b bv Ob vf { s with asks := clrK s.asks n k } ∧ Kept (ctO b Ob vf) w wr)) (fun i _ => 16 - (intOf i).toNat)
  case atStart => exact ⟨0, by omega, rfl, Lib.hid ⟨HM.out, Kept.refl _ _⟩⟩
  case round =>
    obtain ⟨k, hk, rfl, HI⟩ := hrel
    by_cases hlt : k < 4
    · obtain ⟨p1, p2, p3⟩ := pwB_lt hlt
      have HR := Lib.hid (clrK_rng (n := n) HA.out k hk)
      have HSU : Hid (clrK s.asks n (k + 1) = clrS (clrK s.asks n k) n (pwB k)) := Lib.hid rfl
      have HKP : Hid (∀ i, i = pwB k → 2 * i = pwB (k + 1)) := Lib.hid (fun i h => by rw [h]; exact p3)
      have hm := HI.out.1
      have hkp := HI.out.2
      generalize clrK s.asks n k = a at hm HR HSU
      have hbe : ∃ bt, pwB k = bt := ⟨_, rfl⟩
      obtain ⟨bt, hbt⟩ := hbe
      rw [hbt] at p1 p2 p3 HSU ⊢
      have HP3 := Lib.hid p3
      obtain ⟨q0, q1, q2, q3⟩ := div_rng HR.out p1
      obtain ⟨c0, c1, c2, c3, c4, c5⟩ := hm.cells
      have f5 := hm.live 5
      have hne : (bt == 0) = false := by simp; omega
      have hd8 : decide (bt ≤ 8) = true := decide_eq_true p2
      obtain ⟨r0, r1⟩ := HR.out
      obtain ⟨y, hy⟩ : ∃ y, bits .and .i64 n bt = y := ⟨_, rfl⟩
      have HST : Hid (CtM (wr.setCell ⟨b, 5, none⟩ (.int .i64 (a - bt))) b bv Ob vf { s with asks := a - bt } ∧ Kept (ctO b Ob vf) w (wr.setCell ⟨b, 5, none⟩ (.int .i64 (a - bt)))) := Lib.hid
        ⟨hm.setNum (s' := { s with asks := a - bt }) 5 _ rfl rfl rfl, hkp.trans setNum_kept (Grows.refl _ _)⟩
      have HSK : Hid (CtM wr b bv Ob vf { s with asks := a } ∧ Kept (ctO b Ob vf) w wr) := Lib.hid ⟨hm, hkp⟩
      clear hm hkp HI p3 hbt
      by_cases hy0 : y = 0
      · have e1 : clrK s.asks n (k + 1) = a := by rw [HSU.out]; unfold clrS; rw [hy, if_neg (fun h => h.1 hy0)]
        have HE1 := Lib.hid e1
        have hyb : (y != 0) = false := by simp [hy0]
        clear e1 hy0
        go_wp2_with fail
        go_roundw
        case rel => exact ⟨k + 1, by omega, by rw [← HP3.out], by rw [HE1.out]; exact HSK⟩
        case measure => simp [intOf]; omega
      · have hyb : (y != 0) = true := by simp [hy0]
        by_cases hr : a / bt % 2 = 1
        · have e1 : clrK s.asks n (k + 1) = a - bt := by rw [HSU.out]; unfold clrS; rw [hy, if_pos ⟨hy0, hr⟩]
          have HE1 := Lib.hid e1
          have hrb : (a / bt % 2 == 1) = true := by simp [hr]
          clear e1 hy0 hr
          go_wp2_with fail
          go_roundw
          case rel => exact ⟨k + 1, by omega, by rw [← HP3.out], by rw [HE1.out]; exact HST⟩
          case measure => simp [intOf]; omega
        · have e1 : clrK s.asks n (k + 1) = a := by rw [HSU.out]; unfold clrS; rw [if_neg (fun h => hr h.2)]
          have HE1 := Lib.hid e1
          have hrb : (a / bt % 2 == 1) = false := by simp [hr]
          clear e1 hy0 hr
          go_wp2_with fail
          go_roundw
          case rel => exact ⟨k + 1, by omega, by rw [← HP3.out], by rw [HE1.out]; exact HSK⟩
          case measure => simp [intOf]; omega
    · obtain rfl : k = 4 := by omega
      have e16 : pwB 4 = 16 := rfl
      rw [e16]
      go_wp2
      go_end0
      exact ⟨rfl, _, ⟨b, bv, Ob, vf, rfl, rfl, HI.out.1⟩, HI.out.2, Grows.refl _ _⟩
end Go.Proofs.YtmmcjmejcngajaaGreatDoor

namespace Go.Proofs.YtmmcjmejcngajaaGreatDoor
open Go.RowKit
set_option linter.unusedVariables false

/-- a config; its filters' slice -/
structure Cg where
  bo : Int
  fi : Int
  ba : Int
  de : Int
  qu : Int
  no : Int
  re : Int
  A : Option Addr
  n : Nat
  cp : Nat
abbrev Cg.va (c : Cg) : Value := .slice c.A c.n c.cp
abbrev cgV (c : Cg) : Value := .agg #[.int .i64 c.bo, .int .i64 c.fi, .int .i64 c.ba, .int .i64 c.de, .int .i64 c.qu, .int .i64 c.no, .int .i64 c.re, .slice c.A c.n c.cp]
abbrev cgO (c : Cg) : Obj := .cells #[.int .i64 c.bo, .int .i64 c.fi, .int .i64 c.ba, .int .i64 c.de, .int .i64 c.qu, .int .i64 c.no, .int .i64 c.re, .slice c.A c.n c.cp] 24
def ctNew (c : Cg) (L : List Flt) : Ct := ⟨bxNew (boxesN c.bo), [], roomN c.fi, c.va, L, 0, 0⟩
theorem cg_cells (w : World) (c : Cg) : (w.alloc (cgO c)).cell? ⟨w.heap.size, 0, none⟩ = some (.int .i64 c.bo) ∧ (w.alloc (cgO c)).cell? ⟨w.heap.size, 1, none⟩ = some (.int .i64 c.fi) ∧ (w.alloc (cgO c)).cell? ⟨w.heap.size, 7, none⟩ = some (.slice c.A c.n c.cp) := by
  refine ⟨?_, ?_, ?_⟩ <;> (rw [World.cell?_alloc_at _ _ _ _ rfl]; rfl)
theorem ctNew_done {w w0 w1 : World} {b5 : Nat} {O5 : Nat → Prop} {c : Cg} {L : List Flt} (hb0 : Below w.heap.size w w0) (hb1 : Below w0.heap.size w0 w1) (h5 : BxD w1 (.pointer (some ⟨b5, 0, none⟩)) (bxNew (boxesN c.bo)) O5) (ho : ∀ k, O5 k → w.heap.size ≤ k) :
    ∃ O, CtD (w1.alloc (.cells #[.pointer (some ⟨b5, 0, none⟩), .slice none 0 0, .int .i64 (roomN c.fi), .slice c.A c.n c.cp, .int .i64 0, .int .i64 0] 43)) (.pointer (some ⟨w1.heap.size, 0, none⟩)) (ctNew c L) O ∧
      Below w.heap.size w (w1.alloc (.cells #[.pointer (some ⟨b5, 0, none⟩), .slice none 0 0, .int .i64 (roomN c.fi), .slice c.A c.n c.cp, .int .i64 0, .int .i64 0] 43)) ∧ ∀ k, O k → w.heap.size ≤ k := by
  have hb2 := (Below.refl w1.heap.size w1).alloc (Nat.le_refl _) (.cells #[.pointer (some ⟨b5, 0, none⟩), .slice none 0 0, .int .i64 (roomN c.fi), .slice c.A c.n c.cp, .int .i64 0, .int .i64 0] 43)
  have hl := isObj_box.lt h5
  refine ⟨_, ⟨w1.heap.size, _, O5, .slice none 0 0, rfl, rfl, ⟨by unfold World.alloc; simp; exact ⟨rfl, rfl, rfl, rfl⟩, isObj_box.stay h5 (fun k hk => hb2.block k (hl k hk)), RowQ.nil _, fun h => by have := hl _ h; omega, nofun, fun k _ h => nomatch h⟩⟩, fbelow_t (fbelow_t hb0 hb1) hb2, ?_⟩
  have s1 := hb0.size
  have s2 := hb1.size
  rintro k (rfl | h | h)
  · omega
  · exact ho k h
  · cases h
set_option maxHeartbeats 4000000 in
theorem xcnew_v (c : Cg) (L : List Flt) (w : World) : Calls Tryz.prog 7 #[cgV c] w fun e w' => ∃ v O, e = .returned v ∧ CtD w' v (ctNew c L) O ∧ Below w.heap.size w w' ∧ ∀ k, O k → w.heap.size ≤ k := by
  obtain ⟨w0, e0⟩ : ∃ w0, w.alloc (cgO c) = w0 := ⟨_, rfl⟩
  have hb0 : Below w.heap.size w w0 := by rw [← e0]; exact (Below.refl _ _).alloc (Nat.le_refl _) _
  have HB0 := Lib.hid hb0
  have hz0 : w.heap.size < w0.heap.size := by rw [← e0]; simp
  obtain ⟨d0, d1, d7⟩ := cg_cells w c
  rw [e0] at d0 d1 d7
  have HR : Hid (roomN c.fi = roomN c.fi) := Lib.hid rfl
  clear hb0
  go_enter Tryz.func7, Tryz.ntmps7
  go_upto_region 1 with fail
  have hcl : ∀ (n : Later w0) (b o : Nat), b < w0.heap.size → n.w.cell? ⟨b, o, none⟩ = w0.cell? ⟨b, o, none⟩ := later_cells w0
  refine wp_region_sec 8 [5] (fun _ u w' => ∃ O, BxD w' u (bxNew (boxesN c.bo)) O ∧ ∀ k, O k → w.heap.size ≤ k) (fun _ _ _ _ ⟨O, h, ho⟩ hb => ⟨O, isObj_box.stay h (fun k hk => hb.block k (isObj_box.lt h k hk)), ho⟩) (by kernel_rfl) (by kernel_rfl) (by kernel_rfl) (by kernel_rfl) (by kernel_rfl) ?_
  simp only [List.take_succ_cons, List.take_zero, List.drop_succ_cons, List.drop_zero]
  repeat ((first | refine sec_plain (by rfl) (by rfl) (by rfl) (by rfl) ?_ | refine sec_nil (by rfl) (by rfl) (by rfl) (by rfl) (by rfl) ?_); intro K hK; go_big_quiet_op; go_big_quiet_on)
  refine sec_callF (f := 20) (args := #[.int .i64 c.bo]) (by rfl) (by rfl) (by rfl) (by rfl) (by rfl) (fun w => by simp [go_sem]) ?_ ?_
  · intro q
    refine (xnew_v q.w).mono ?_
    rintro e w' ⟨v, O, he, h1, h2, h3⟩
    exact ⟨v, he, h2, O, h1, fun k hk => Nat.le_trans HB0.out.size (Nat.le_trans q.h.size (h3 k hk))⟩
  simp only [Act.put, List.setIfInBounds_toArray, List.set_cons_succ, List.set_cons_zero]
  repeat ((first | refine sec_plain (by rfl) (by rfl) (by rfl) (by rfl) ?_ | refine sec_nil (by rfl) (by rfl) (by rfl) (by rfl) (by rfl) ?_); intro K hK; go_big_quiet_op; go_big_quiet_on)
  refine sec_call (v := .int .i64 (roomN c.fi)) (by rfl) (by rfl) (by rfl) (by rfl) (by rfl) ?_ ?_
  · intro q K hK
    go_big_quiet_op
    exact ⟨_, fun q2 => Later.call ((xroom_v rfl q2.w).mono fun e w' h => ⟨h.1, h.2 ▸ Below.refl _ _⟩), hK⟩
  simp only [Act.put, List.setIfInBounds_toArray, List.set_cons_succ, List.set_cons_zero]
  repeat ((first | refine sec_plain (by rfl) (by rfl) (by rfl) (by rfl) ?_ | refine sec_nil (by rfl) (by rfl) (by rfl) (by rfl) (by rfl) ?_); intro K hK; go_big_quiet_op; go_big_quiet_on)
  intro xs m9 hF
  obtain ⟨O5, h5, ho5⟩ := hF 5 (by simp)
  simp only [secFill, Act.put, List.setIfInBounds_toArray, List.set_cons_succ, List.set_cons_zero]
  generalize xs 5 = v5 at h5
  have h5' := h5
  obtain ⟨b5, gs, gp, vo, ve, rfl, _, _⟩ := h5'
  clear hF xs hcl d0 d1 d7
  have HB9 := Lib.hid m9.h
  generalize m9.w = w9 at HB9 h5 ⊢
  obtain ⟨O9, x1, x2, x3⟩ := ctNew_done (L := L) HB0.out HB9.out h5 ho5
  have X1 := Lib.hid x1
  have X2 := Lib.hid x2
  have X3 := Lib.hid x3
  clear x1 x2 x3 h5 ho5
  go_wp2_with fail
  go_ret
  exact ⟨_, rfl, _, X1.out, X2.out, X3.out⟩
/-- what may be of a controller -/
structure Ct.Ok (s : Ct) : Prop where
  bx : s.bx.Ok
  ak : 0 ≤ s.asks ∧ s.asks < 16
  room : 1 ≤ s.room ∧ s.room ≤ 1000
  fifo : s.fifo.length ≤ s.room
  ls : 0 ≤ s.lost
/-- who is the best: its frame -/
def Ct.off (s : Ct) : Fr × Bool := if s.bx.best s.bx.ord.length < 0 then (frz, false) else ((s.bx.P.getD (s.bx.best s.bx.ord.length).toNat pk0).f, true)
def Ct.won (s : Ct) : Ct := if s.bx.best s.bx.ord.length < 0 then s else { s with bx := (s.bx.end_ (s.bx.best s.bx.ord.length) 2).1, asks := setB s.asks 1 }
set_option maxHeartbeats 4000000 in
theorem xoffer_v {v : Value} {s : Ct} {O : Nat → Prop} (w : World) (h : CtD w v s O) (hok : s.Ok) :
    Calls Tryz.prog 25 #[v] w fun e w' => e = .returned (.tuple #[.agg #[.int .i64 s.off.1.i, .int .i64 s.off.1.n, .int .i64 s.off.1.l, .string s.off.1.d], .bool s.off.2]) ∧ Below w.heap.size w w' := by
  obtain ⟨b, bv, Ob, vf, rfl, rfl, hm⟩ := h
  obtain ⟨w0, e0⟩ : ∃ w0, w.alloc (.cells #[.int .i64 0, .int .i64 0, .int .i64 0, .string (ByteArray.mk #[])] 33) = w0 := ⟨_, rfl⟩
  have hb0 : Below w.heap.size w w0 := by rw [← e0]; exact (Below.refl _ _).alloc (Nat.le_refl _) _
  have HB0 := Lib.hid hb0
  have hF0 : BoxF w0 w.heap.size 0 0 0 (ByteArray.mk #[]) := by rw [← e0]; exact BoxF.made _ _ _ _ _
  have HF0 := Lib.hid hF0
  have HM := Lib.hid (hm.later hb0)
  have HOK := Lib.hid hok
  obtain ⟨c0, c1, c2, c3, c4, c5⟩ := HM.out.cells
  have hbx := HM.out.bx
  obtain ⟨b5, gs, gp, vo, ve, rfl, rfl, hbm⟩ := hbx
  have HBM := Lib.hid hbm
  have HRG := Lib.hid (Bx.best_rng hok.bx.ordOk s.bx.ord.length (Nat.le_refl _))
  have HS : Hid (s.off = if s.bx.best s.bx.ord.length < 0 then (frz, false) else ((s.bx.P.getD (s.bx.best s.bx.ord.length).toNat pk0).f, true)) := Lib.hid rfl
  obtain ⟨r, hr⟩ : ∃ r, s.off = r := ⟨_, rfl⟩
  rw [hr] at HS ⊢
  clear hm hb0 hok hbm hF0 hr
  go_enter Tryz.func25, Tryz.ntmps25
  go_wp2_with fail
  refine (xbest_v w0 ⟨b5, gs, gp, vo, ve, rfl, rfl, HBM.out⟩ HOK.out.bx.ordOk HOK.out.bx.n2 (by have := HOK.out.bx.ordLe; omega)).mono ?_
  rintro e w1 ⟨rfl, hb1⟩
  have HB1 := Lib.hid hb1
  have HBM1 := Lib.hid (HBM.out.later hb1)
  have HM1 := Lib.hid (HM.out.later hb1)
  have HF1 := Lib.hid (HF0.out.later hb1)
  clear hb1 c0 c1 c2 c3 c4 c5
  obtain ⟨g0, g1, g2, g3⟩ := HF1.out.cells
  have fl : ∀ j, w1.frozen? ⟨w.heap.size, j, none⟩ = false := fun j => Lib.frozen_of_heap HF1.out j
  have HBW : Hid (Below w.heap.size w w1) := Lib.hid (fbelow_t HB0.out HB1.out)
  generalize s.bx.best s.bx.ord.length = k at HS HRG ⊢
  by_cases hk : k < 0
  · have hd : decide (k < 0) = true := decide_eq_true hk
    have hS := HS.out
    rw [if_pos hk] at hS
    subst hS
    clear hk
    go_wp2
    generalize hw2 : (World.setCell _ ⟨w.heap.size, 3, none⟩ _) = w2
    have HF2 : BoxF w2 w.heap.size 0 0 0 (ByteArray.mk #[]) := by rw [← hw2]; exact boxF_set HF1.out
    have HB2 : Below w.heap.size w w2 := by rw [← hw2]; exact boxF_below HBW.out (Nat.le_refl _)
    clear hw2 g0 g1 g2 g3
    obtain ⟨d0, d1, d2, d3⟩ := HF2.cells
    refine bodyPost_ret (v := .tuple #[.agg #[.int .i64 0, .int .i64 0, .int .i64 0, .string (ByteArray.mk #[])], .bool false]) ?_ rfl ⟨rfl, HB2⟩
    simp [results, Tryz.results25, go_sem, d0, d1, d2, d3]
  · have hd : decide (k < 0) = false := decide_eq_false hk
    obtain ⟨n, rfl⟩ := Int.eq_ofNat_of_zero_le (Int.not_lt.1 hk)
    have hn : n < s.bx.S.length := by have := HRG.out.2; omega
    have hnP : n < s.bx.P.length := by rw [HBM1.out.len]; exact hn
    obtain ⟨pp, hpp⟩ : ∃ pp, s.bx.P[n]? = some pp := ⟨_, List.getElem?_eq_getElem hnP⟩
    have hS := HS.out
    rw [if_neg hk, Int.toNat_natCast, List.getD_eq_getElem?_getD, hpp] at hS
    subst hS
    obtain ⟨c0, c1, c2, c3, c4, c5⟩ := HM1.out.cells
    obtain ⟨a0, a1, a2, a3⟩ := HBM1.out.cells
    have m0 := HBM1.out.packet hpp 0 _ rfl
    rw [Nat.add_zero] at m0
    have m1 := HBM1.out.packet hpp 1 _ rfl
    have m2 := HBM1.out.packet hpp 2 _ rfl
    have m3 := HBM1.out.packet hpp 3 _ rfl
    have hnl : (n : Int) < (s.bx.S.length : Int) := by omega
    clear hk hpp
    go_wp2
    generalize hw2 : (World.setCell _ ⟨w.heap.size, 3, none⟩ _) = w2
    have HF2 : BoxF w2 w.heap.size pp.f.i pp.f.n pp.f.l pp.f.d := by rw [← hw2]; exact boxF_set HF1.out
    have HB2 : Below w.heap.size w w2 := by rw [← hw2]; exact boxF_below HBW.out (Nat.le_refl _)
    clear hw2 g0 g1 g2 g3
    obtain ⟨d0, d1, d2, d3⟩ := HF2.cells
    refine bodyPost_ret (v := .tuple #[.agg #[.int .i64 pp.f.i, .int .i64 pp.f.n, .int .i64 pp.f.l, .string pp.f.d], .bool true]) ?_ rfl ⟨rfl, HB2⟩
    simp [results, Tryz.results25, go_sem, d0, d1, d2, d3]
end Go.Proofs.YtmmcjmejcngajaaGreatDoor

namespace Go.Proofs.YtmmcjmejcngajaaGreatDoor
open Go.RowKit
set_option linter.unusedVariables false

theorem stp_comb {σ : Type} {I : World → Value → σ → (Nat → Prop) → Prop} {v : Value} {O O1 : Nat → Prop} {w w1 w2 : World} {s2 : σ} (hk : Kept O w w1) (hg : Grows O w O1) (h2 : Stp I v O1 w1 s2 w2) : Stp I v O w s2 w2 := by
  obtain ⟨O2, h, k2, g2⟩ := h2
  exact ⟨O2, h, hk.trans k2 hg, hg.trans g2 hk.size⟩
theorem Ct.won_yes {s : Ct} {k : Int} (h : s.bx.best s.bx.ord.length = k) (hk : ¬ k < 0) : s.won = { s with bx := (s.bx.end_ k 2).1, asks := setB s.asks 1 } := by unfold Ct.won; rw [h, if_neg hk]
theorem Ct.won_no {s : Ct} {k : Int} (h : s.bx.best s.bx.ord.length = k) (hk : k < 0) : s.won = s := by unfold Ct.won; rw [h, if_pos hk]
set_option maxHeartbeats 4000000 in
theorem xwon_v {v : Value} {s : Ct} {O : Nat → Prop} (w : World) (h : CtD w v s O) (hok : s.Ok) :
    Calls Tryz.prog 27 #[v] w fun e w' => e = .returned (.bool s.off.2) ∧ Stp CtD v O w s.won w' := by
  obtain ⟨b, bv, Ob, vf, rfl, rfl, hm⟩ := h
  have HM := Lib.hid hm
  have HOK := Lib.hid hok
  obtain ⟨c0, c1, c2, c3, c4, c5⟩ := HM.out.cells
  have hbx := HM.out.bx
  obtain ⟨b5, gs, gp, vo, ve, rfl, rfl, hbm⟩ := hbx
  have HBM := Lib.hid hbm
  have HOF : Hid (s.off.2 = !decide (s.bx.best s.bx.ord.length < 0)) := Lib.hid (by unfold Ct.off; split <;> rename_i h1 <;> simp [h1])
  obtain ⟨q, hq⟩ : ∃ q, s.off.2 = q := ⟨_, rfl⟩
  rw [hq] at HOF ⊢
  clear hm hok hbm hq
  go_enter Tryz.func27, Tryz.ntmps27
  go_wp2_with fail
  refine (xbest_v w ⟨b5, gs, gp, vo, ve, rfl, rfl, HBM.out⟩ HOK.out.bx.ordOk HOK.out.bx.n2 (by have := HOK.out.bx.ordLe; omega)).mono ?_
  rintro e w1 ⟨rfl, hb1⟩
  have HB1 := Lib.hid hb1
  have HM1 := Lib.hid (HM.out.later hb1)
  clear hb1 c0 c1 c2 c3 c4 c5
  obtain ⟨k, hk⟩ : ∃ k, s.bx.best s.bx.ord.length = k := ⟨_, rfl⟩
  have HK := Lib.hid hk
  rw [hk] at HOF ⊢
  clear hk
  by_cases h0 : k < 0
  · have hd : decide (k < 0) = true := decide_eq_true h0
    have hQ := HOF.out
    rw [hd] at hQ
    subst hQ
    have HF : Hid (Stp CtD (.pointer (some ⟨b, 0, none⟩)) (ctO b (bxO b5 gs gp vo ve) vf) w s.won w1) := Lib.hid (by rw [Ct.won_no HK.out h0]; exact HM.out.stp HB1.out)
    clear h0
    go_wp2
    go_ret
    exact ⟨rfl, HF.out⟩
  · have hd : decide (k < 0) = false := decide_eq_false h0
    have hQ := HOF.out
    rw [hd] at hQ
    subst hQ
    obtain ⟨c0, c1, c2, c3, c4, c5⟩ := HM1.out.cells
    have HWY := Lib.hid (Ct.won_yes HK.out h0)
    clear h0
    go_wp2_with fail
    refine (xend_v w1 HM1.out.bx rfl HOK.out.bx.n2 HOK.out.bx.ordLe HOK.out.bx.finLe).mono ?_
    rintro e w2 ⟨rfl, hs2⟩
    obtain ⟨Ob', hm2, hk2, hg2⟩ := HM1.out.boxes hs2
    have HM2 := Lib.hid hm2
    have HK2 := Lib.hid hk2
    have HG2 := Lib.hid hg2
    clear hs2 hm2 hk2 hg2 c0 c1 c2 c3 c4 c5
    go_wp2_with fail
    refine (xset_v (s := { s with bx := (s.bx.end_ k 2).1 }) w2 ⟨_, _, _, _, rfl, rfl, HM2.out⟩ HOK.out.ak (by decide)).mono ?_
    rintro e w3 ⟨rfl, hs3⟩
    have HF : Hid (Stp CtD (.pointer (some ⟨b, 0, none⟩)) (ctO b (bxO b5 gs gp vo ve) vf) w s.won w3) := Lib.hid (by
      rw [HWY.out]
      exact stp_comb ((Kept.of_below HB1.out).trans HK2.out (Grows.refl _ _)) (fun k hk => (HG2.out k hk).imp id (fun h => Nat.le_trans HB1.out.size h)) hs3)
    clear hs3
    go_wp2
    go_ret
    exact ⟨rfl, HF.out⟩
/-- the fifo's first -/
def Ct.fetch (s : Ct) : Ct × Fr × Bool := match s.fifo with
  | [] => (s, frz, false)
  | f :: r => ({ s with fifo := r }, f, true)
theorem RowQ.ctFirst4 {w : World} {g o n cap : Nat} {f : Fr} {M : List Fr} (h : RowQ frC 4 w (.slice (some ⟨g, o, none⟩) n cap) (f :: M)) :
    w.cell? ⟨g, o, none⟩ = some (.int .i64 f.i) ∧ w.cell? ⟨g, o + 1, none⟩ = some (.int .i64 f.n) ∧ w.cell? ⟨g, o + 2, none⟩ = some (.int .i64 f.l) ∧ w.cell? ⟨g, o + 3, none⟩ = some (.string f.d) := by
  rcases h with ⟨h, _⟩ | ⟨g', o', cap', hv, h1, h2, h3, h4, h5⟩
  · cases h
  · injection hv with hA _ _
    injection hA with hA
    injection hA with e1 e2
    subst e1 e2
    exact ⟨h4 0 _ rfl, h4 1 _ rfl, h4 2 _ rfl, h4 3 _ rfl⟩
theorem CtM.cutFifo {w w' : World} {b : Nat} {bv : Value} {Ob : Nat → Prop} {s : Ct} {g o cap : Nat} {f : Fr} {r : List Fr} (h : CtM w b bv Ob (.slice (some ⟨g, o, none⟩) (r.length + 1) cap) s) (hf : s.fifo = f :: r) (hb : Below w.heap.size w w') :
    CtM (w'.setCell ⟨b, 1, none⟩ (.slice (some (if cap = 1 then ⟨g, o, none⟩ else (⟨g, o, none⟩ : Addr).add 4)) r.length (cap - 1))) b bv Ob (.slice (some (if cap = 1 then ⟨g, o, none⟩ else (⟨g, o, none⟩ : Addr).add 4)) r.length (cap - 1)) { s with fifo := r } ∧
    Kept (ctO b Ob (.slice (some ⟨g, o, none⟩) (r.length + 1) cap)) w (w'.setCell ⟨b, 1, none⟩ (.slice (some (if cap = 1 then ⟨g, o, none⟩ else (⟨g, o, none⟩ : Addr).add 4)) r.length (cap - 1))) ∧
    Grows (ctO b Ob (.slice (some ⟨g, o, none⟩) (r.length + 1) cap)) w (ctO b Ob (.slice (some (if cap = 1 then ⟨g, o, none⟩ else (⟨g, o, none⟩ : Addr).add 4)) r.length (cap - 1))) := by
  have h1 := h.fifo
  rw [hf] at h1
  obtain ⟨y, hy, _, _, hq⟩ := h1.tail frC_len
  injection hy with hy
  subst hy
  refine h.setFifo hb (hq.later hb) (fun k hk => .inl ?_)
  split at hk
  · exact hk
  · rw [qaddr] at hk; exact hk
theorem boxF_kept4 {w : World} {a : Nat} {x0 x1 x2 x3 : Value} : Kept (fun k => k = a) w ((((w.setCell ⟨a, 0, none⟩ x0).setCell ⟨a, 1, none⟩ x1).setCell ⟨a, 2, none⟩ x2).setCell ⟨a, 3, none⟩ x3) :=
  ⟨rfl, rfl, rfl, by simp [World.setCell], fun k _ hk => by
    rw [Below.heap_setCell _ _ _ _ hk, Below.heap_setCell _ _ _ _ hk, Below.heap_setCell _ _ _ _ hk, Below.heap_setCell _ _ _ _ hk]⟩
theorem fetch_done {w W0 w2 : World} {b z : Nat} {bv V u : Value} {Ob O : Nat → Prop} {s' : Ct} {f : Fr} {i n l : Int} {d : ByteArray} (hm : CtM (W0.setCell ⟨b, 1, none⟩ u) b bv Ob V s') (hk : Kept O w (W0.setCell ⟨b, 1, none⟩ u)) (hg : Grows O w (ctO b Ob V)) (hz : BoxF W0 z i n l d) (hb : b < z) (hwz : w.heap.size ≤ z) (hno : ∀ k, ctO b Ob V k → k < z)
    (hw : (((((W0.setCell ⟨b, 1, none⟩ u).setCell ⟨z, 0, none⟩ (.int .i64 f.i)).setCell ⟨z, 1, none⟩ (.int .i64 f.n)).setCell ⟨z, 2, none⟩ (.int .i64 f.l)).setCell ⟨z, 3, none⟩ (.string f.d)) = w2) : BoxF w2 z f.i f.n f.l f.d ∧ Stp CtD (.pointer (some ⟨b, 0, none⟩)) O w s' w2 := by
  have hz1 : BoxF (W0.setCell ⟨b, 1, none⟩ u) z i n l d := (Below.heap_setCell _ _ _ _ (by omega : z ≠ b)).trans hz
  have h4 : Kept (fun k => k = z) (W0.setCell ⟨b, 1, none⟩ u) w2 := by rw [← hw]; exact boxF_kept4
  refine ⟨by rw [← hw]; exact boxF_set hz1, _, ⟨b, bv, Ob, V, rfl, rfl, hm.stay (fun k hk' => h4.block k (hm.lt k hk') (fun e => by have := hno k hk'; omega))⟩, hk.trans h4 (fun k e => .inr (by omega)), hg⟩
set_option maxHeartbeats 4000000 in
theorem xfetch_v {v : Value} {s : Ct} {O : Nat → Prop} (w : World) (h : CtD w v s O) (hok : s.Ok) :
    Calls Tryz.prog 36 #[v] w fun e w' => e = .returned (.tuple #[.agg #[.int .i64 s.fetch.2.1.i, .int .i64 s.fetch.2.1.n, .int .i64 s.fetch.2.1.l, .string s.fetch.2.1.d], .bool s.fetch.2.2]) ∧ Stp CtD v O w s.fetch.1 w' := by
  obtain ⟨b, bv, Ob, vf, rfl, rfl, hm⟩ := h
  obtain ⟨w0, e0⟩ : ∃ w0, w.alloc (.cells #[.int .i64 0, .int .i64 0, .int .i64 0, .string (ByteArray.mk #[])] 33) = w0 := ⟨_, rfl⟩
  have hb0 : Below w.heap.size w w0 := by rw [← e0]; exact (Below.refl _ _).alloc (Nat.le_refl _) _
  have HB0 := Lib.hid hb0
  have HF0 : Hid (BoxF w0 w.heap.size 0 0 0 (ByteArray.mk #[])) := Lib.hid (by rw [← e0]; exact BoxF.made _ _ _ _ _)
  have hz0 : w0.heap.size = w.heap.size + 1 := by rw [← e0]; simp
  have HM := Lib.hid hm
  have HM0 := Lib.hid (hm.later hb0)
  obtain ⟨c0, c1, c2, c3, c4, c5⟩ := HM0.out.cells
  obtain ⟨g0, g1, g2, g3⟩ := HF0.out.cells
  have fl : ∀ j, w0.frozen? ⟨w.heap.size, j, none⟩ = false := fun j => Lib.frozen_of_heap HF0.out j
  have hrl : s.fifo.length ≤ 1000 := by have := hok.fifo; have := hok.room; omega
  have hrow := hm.fifo
  cases hf : s.fifo with
  | nil =>
    have HE : Hid (s.fetch = (s, frz, false)) := Lib.hid (by unfold Ct.fetch; rw [hf])
    rw [hf] at hrow
    obtain ⟨A5, c5', hsh⟩ := hrow.shape
    rw [List.length_nil] at hsh
    subst hsh
    rw [HE.out]
    clear hm hb0 hok hf hrow hrl hz0
    go_enter Tryz.func36, Tryz.ntmps36
    go_wp2
    generalize hw2 : (World.setCell _ ⟨w.heap.size, 3, none⟩ _) = w2
    have HF2 : BoxF w2 w.heap.size 0 0 0 (ByteArray.mk #[]) := by rw [← hw2]; exact boxF_set HF0.out
    have HB2 : Below w.heap.size w w2 := by rw [← hw2]; exact boxF_below HB0.out (Nat.le_refl _)
    clear hw2 g0 g1 g2 g3
    obtain ⟨d0, d1, d2, d3⟩ := HF2.cells
    refine bodyPost_ret (v := .tuple #[.agg #[.int .i64 0, .int .i64 0, .int .i64 0, .string (ByteArray.mk #[])], .bool false]) ?_ rfl ⟨rfl, ?_⟩
    · simp [results, Tryz.results36, go_sem, d0, d1, d2, d3]
    · exact ⟨_, ⟨b, bv, Ob, _, rfl, rfl, HM.out.later HB2⟩, .of_below HB2, Grows.refl _ _⟩
  | cons f r =>
    have HE : Hid (s.fetch = ({ s with fifo := r }, f, true)) := Lib.hid (by unfold Ct.fetch; rw [hf])
    rw [hf] at hrow hrl
    obtain ⟨g, o, cap, hsh, hcap, _⟩ := hrow.head
    subst hsh
    have hgb : g < w.heap.size := hrow.lt g rfl
    have hb1 : Below w0.heap.size w0 (w0.alloc (.cells #[.int .i64 f.i, .int .i64 f.n, .int .i64 f.l, .string f.d] 33)) := (Below.refl _ _).alloc (Nat.le_refl _) _
    have HB1 := Lib.hid (fbelow_t hb0 hb1)
    have HC := Lib.hid (hm.cutFifo hf HB1.out)
    have HLT := Lib.hid hm.lt
    have HF1 := Lib.hid (BoxF.made w0 f.i f.n f.l f.d)
    have HZ1 := Lib.hid (HF0.out.later hb1)
    have HM1 := Lib.hid (hm.later HB1.out)
    obtain ⟨x0, x1, x2, x3⟩ := (hrow.later hb0).ctFirst4
    have hbz : b < w.heap.size := heap_some_lt hm.box
    have hn1 : ¬ w.heap.size = b := by omega
    have hn2 : ¬ w0.heap.size = b := by omega
    have hn3 : ¬ w0.heap.size = w.heap.size := by omega
    have hn4 : ¬ w.heap.size = w0.heap.size := by omega
    have hpos : ((r.length : Int) + 1 == 0) = false := by simp; omega
    have hpos2 : (0 : Int) < (r.length : Int) + 1 := by omega
    rw [HE.out]
    clear c0 c1 c2 c3 c4 c5 g0 g1 g2 g3 fl
    obtain ⟨c0, c1, c2, c3, c4, c5⟩ := HM0.out.cells
    obtain ⟨q0, q1, q2, q3, q4, q5⟩ := HM1.out.cells
    have qf := HM1.out.live
    obtain ⟨y0, y1, y2, y3⟩ := HF1.out.cells
    obtain ⟨g0, g1, g2, g3⟩ := HZ1.out.cells
    have fl : ∀ j, (w0.alloc (.cells #[.int .i64 f.i, .int .i64 f.n, .int .i64 f.l, .string f.d] 33)).frozen? ⟨w.heap.size, j, none⟩ = false := fun j => Lib.frozen_of_heap HZ1.out j
    have HZZ : Hid (w0.heap.size = w.heap.size + 1) := Lib.hid hz0
    clear hm hb0 hb1 hok hf hrow hz0
    go_enter Tryz.func36, Tryz.ntmps36
    by_cases hc1 : cap = 1
    · subst hc1
      rw [if_pos rfl] at HC
      obtain rfl : r = [] := List.eq_nil_of_length_eq_zero (by omega)
      simp only [List.length_nil, Nat.sub_self] at HC
      go_wp2
      generalize hw2 : (World.setCell _ ⟨w.heap.size, 3, none⟩ _) = w2
      obtain ⟨k1, k2⟩ := fetch_done HC.out.1 HC.out.2.1 HC.out.2.2 HZ1.out hbz (Nat.le_refl _) (fun k hk => HLT.out k hk) hw2
      clear hw2 c0 c1 c2 c3 c4 c5 q0 q1 q2 q3 q4 q5 y0 y1 y2 y3 g0 g1 g2 g3 fl qf x0 x1 x2 x3
      obtain ⟨d0, d1, d2, d3⟩ := k1.cells
      refine bodyPost_ret (v := .tuple #[.agg #[.int .i64 f.i, .int .i64 f.n, .int .i64 f.l, .string f.d], .bool true]) ?_ rfl ⟨rfl, k2⟩
      simp [results, Tryz.results36, go_sem, d0, d1, d2, d3]
    · rw [if_neg hc1, qaddr] at HC
      go_wp2
      generalize hw2 : (World.setCell _ ⟨w.heap.size, 3, none⟩ _) = w2
      obtain ⟨k1, k2⟩ := fetch_done HC.out.1 HC.out.2.1 HC.out.2.2 HZ1.out hbz (Nat.le_refl _) (fun k hk => HLT.out k hk) hw2
      clear hw2 c0 c1 c2 c3 c4 c5 q0 q1 q2 q3 q4 q5 y0 y1 y2 y3 g0 g1 g2 g3 fl qf x0 x1 x2 x3
      obtain ⟨d0, d1, d2, d3⟩ := k1.cells
      refine bodyPost_ret (v := .tuple #[.agg #[.int .i64 f.i, .int .i64 f.n, .int .i64 f.l, .string f.d], .bool true]) ?_ rfl ⟨rfl, k2⟩
      simp [results, Tryz.results36, go_sem, d0, d1, d2, d3]
end Go.Proofs.YtmmcjmejcngajaaGreatDoor
