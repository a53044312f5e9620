/- Box, the code: Put, whole. Box, the code: Take. Ctrl, the code: what a controller is in memory: its mailboxes and its fifo stand within one block. -/
import Derived.Test.YtmmcjmejcngajaaGreatDoorZbb
import Derived.Test.YtmmcjmejcngajaaGreatDoorZay
import Derived.Test.YtmmcjmejcngajaaGreatDoorZas
namespace Go.Proofs.YtmmcjmejcngajaaGreatDoor
open Go.RowKit Go.Shelf
set_option linter.unusedVariables false
variable {TB : TypeId} {Y : List Value}

set_option maxHeartbeats 8000000 in
set_option maxRecDepth 8000 in
theorem kxput_v {w : World} {v : Value} {s : Bx} {O : Nat → Prop} (p : Pk) (h : BmD TB Y w v s O) (ok : s.Ok) (hT : Tabs w) (hp : p.ok) : Calls Tryz.prog 49 #[v, pkV p] w fun e w' => e = .returned (.tuple #[.int .i64 (s.put p).2.1, .int .i64 (s.put p).2.2]) ∧ Stp (BmD TB Y) v O w (s.put p).1 w' := by
  obtain ⟨b, g, vt, ve, M, rfl, rfl, hm, hs⟩ := h
  have hb0 := (Below.refl w.heap.size w).alloc (Nat.le_refl _) (.cells #[.int .i64 p.f.i, .int .i64 p.f.n, .int .i64 p.f.l, .string p.f.d, .int .i64 p.fr, .int .i64 p.tag, .bool p.lp] 35)
  obtain ⟨w0, e0⟩ : ∃ w0, w.alloc (.cells #[.int .i64 p.f.i, .int .i64 p.f.n, .int .i64 p.f.l, .string p.f.d, .int .i64 p.fr, .int .i64 p.tag, .bool p.lp] 35) = w0 := ⟨_, rfl⟩
  have HB0 : Hid (Below w.heap.size w w0) := Lib.hid (by rw [← e0]; exact hb0)
  have HP0 : Hid (BoxP w0 w.heap.size p) := Lib.hid (by rw [← e0]; exact BoxP.made w p)
  have HM := Lib.hid hm
  have HSS := Lib.hid hs
  have HOK := Lib.hid ok
  have HTT := Lib.hid hT
  have HN := Lib.hid hp
  have HS : Hid (∀ w' : World, Below w.heap.size w w' → Stp (BmD TB Y) (.pointer (some ⟨b, 0, none⟩)) (bmO b g vt ve) w s w') := Lib.hid (fun w' hb => ⟨_, ⟨b, g, vt, ve, M, rfl, rfl, HM.out.later hb, HSS.out⟩, .of_below hb, Grows.refl _ _⟩)
  obtain ⟨q, hq⟩ : ∃ q, keyG p.f = q := ⟨_, rfl⟩
  have HQ : Hid (keyV p.f.i p.f.n p.f.l p.f.d.size = q) := Lib.hid hq
  have HKQ := Lib.hid hq
  obtain ⟨d0, d1, d2, d3, d4, d5, d6⟩ := HP0.out.cells
  have HPU : Hid (s.put p = if q < 0 then (s, (0 : Int), (4 : Int)) else match s.first s.S.length with | some i => (s.putAt i p, (i : Int), (0 : Int)) | none => (s, (0 : Int), (5 : Int))) := Lib.hid (by unfold Bx.put; rw [hq]; rfl)
  clear hb0 hm hs ok hT hp hq
  by_cases h3 : q < 0
  · have HE : Hid (s.put p = (s, 0, 4)) := Lib.hid (by rw [HPU.out, if_pos h3])
    rw [HE.out]
    have d9 : decide (q < 0) = true := decide_eq_true h3
    clear h3
    go_enter Tryz.func49, Tryz.ntmps49
    go_wp2_with fail
    refine (key_v HQ.out w0 (HTT.out.below HB0.out) HN.out.1 HN.out.2).mono ?_
    rintro e w1 ⟨rfl, hb⟩
    go_wp2
    go_ret2
    exact ⟨rfl, HS.out _ (fbelow_t HB0.out hb)⟩
  have d9 : decide (q < 0) = false := decide_eq_false h3
  have HQ0 : Hid (0 ≤ q) := Lib.hid (by omega)
  have HPV : Hid (s.put p = match s.first s.S.length with | some i => (s.putAt i p, (i : Int), (0 : Int)) | none => (s, (0 : Int), (5 : Int))) := Lib.hid (by rw [HPU.out, if_neg h3])
  have HML : Hid (M.length ≤ 1000) := Lib.hid (by rw [HSS.out.len]; exact HOK.out.n2)
  clear h3 HPU
  cases hfi : s.first s.S.length with
  | none =>
    have HE : Hid (s.put p = (s, 0, 5)) := Lib.hid (by rw [HPV.out, hfi])
    rw [HE.out]
    have HF := Lib.hid hfi
    clear hfi
    go_enter Tryz.func49, Tryz.ntmps49
    go_wp2_with fail
    refine (key_v HQ.out w0 (HTT.out.below HB0.out) HN.out.1 HN.out.2).mono ?_
    rintro e w1 ⟨rfl, hb⟩
    have HB1 := Lib.hid (fbelow_t HB0.out hb)
    have HM1 := Lib.hid (HM.out.later HB1.out)
    clear hb d0 d1 d2 d3 d4 d5 d6
    obtain ⟨c0, c1, c2⟩ := HM1.out.cells
    go_wp2_with fail
    refine (indexfunc_v (r := -1) HM1.out HSS.out.hS HML.out (by rw [HF.out])).mono ?_
    rintro e w2 ⟨rfl, hb⟩
    go_wp2
    go_ret2
    exact ⟨rfl, HS.out _ (fbelow_t HB1.out hb)⟩
  | some n =>
    obtain ⟨hn, h01⟩ := Bx.first_some hfi
    have hz : s.S.getD n 0 = 0 := by rw [← Bx.getD_01 hn]; exact h01
    have HE : Hid (s.put p = (s.putAt n p, (n : Int), 0)) := Lib.hid (by rw [HPV.out, hfi])
    rw [HE.out]
    have HF := Lib.hid hfi
    have HNW : Hid (BmS (M.set n (1, p)) (s.putAt n p)) := Lib.hid ⟨by rw [List.map_set, HSS.out.hS]; rfl, by rw [List.map_set, HSS.out.hP]; rfl, HSS.out.full.putAt hn hz p⟩
    obtain ⟨j1, j2, j3⟩ := plc_spec (s := s) q
    have HTR : Hid ((s.putAt n p).trn = s.trn.take (s.plc q) ++ (n : Int) :: s.trn.drop (s.plc q) ∧ (s.putAt n p).fin = s.fin) := Lib.hid ⟨Bx.trn_put HOK.out hn hz j1 (by rw [HKQ.out]; exact j2) (by rw [HKQ.out]; exact j3), rfl⟩
    have HPL := Lib.hid j1
    have HNL : Hid (n < M.length) := Lib.hid (by rw [HSS.out.len]; exact hn)
    have HMY := Lib.hid (HSS.out.at_ hn)
    have HTL : Hid (s.trn.length ≤ 1000) := Lib.hid (by rw [s.trn_len]; exact HOK.out.ordLe)
    have hnl : (n : Int) < 1000 := by have := HNL.out; have := HML.out; omega
    clear hfi hn h01 hz j1 j2 j3 HPV
    go_enter Tryz.func49, Tryz.ntmps49
    go_wp2_with fail
    refine (key_v HQ.out w0 (HTT.out.below HB0.out) HN.out.1 HN.out.2).mono ?_
    rintro e w1 ⟨rfl, hb⟩
    have HB1 := Lib.hid (fbelow_t HB0.out hb)
    have HM1 := Lib.hid (HM.out.later HB1.out)
    have HP1 := Lib.hid (HP0.out.later hb)
    clear hb d0 d1 d2 d3 d4 d5 d6
    obtain ⟨c0, c1, c2⟩ := HM1.out.cells
    go_wp2_with fail
    refine (indexfunc_v (r := n) HM1.out HSS.out.hS HML.out (by rw [HF.out])).mono ?_
    rintro e w2 ⟨rfl, hb⟩
    have HB2 := Lib.hid (fbelow_t HB1.out hb)
    have HM2 := Lib.hid (HM1.out.later hb)
    have HP2 := Lib.hid (HP1.out.later hb)
    have HT2 := Lib.hid (HTT.out.below HB2.out)
    clear hb c0 c1 c2 e0
    obtain ⟨c0, c1, c2⟩ := HM2.out.cells
    obtain ⟨d0, d1, d2, d3, d4, d5, d6⟩ := HP2.out.cells
    have z0 : b < w2.heap.size := HM2.out.lt b (.inl rfl)
    have n1 : ¬ OwnO vt b := HM2.out.f1.1
    have zp : w.heap.size < w2.heap.size := HP2.out.lt
    have np : ¬ OwnO vt w.heap.size := fun h => by have := HM.out.lt _ (.inr (.inr (.inl h))); omega
    go_upto_region 8 with fail
    have hcb : ∀ (r : KLater (OwnO vt) w2) (o : Nat), r.w.cell? ⟨b, o, none⟩ = w2.cell? ⟨b, o, none⟩ := fun r o => r.cell b o z0 n1
    have hcp : ∀ (r : KLater (OwnO vt) w2) (o : Nat), r.w.cell? ⟨w.heap.size, o, none⟩ = w2.cell? ⟨w.heap.size, o, none⟩ := fun r o => r.cell w.heap.size o zp np
    refine wp_region_st 14 [8, 11] (InsQ vt n (s.trn.take (s.plc q) ++ (n : Int) :: s.trn.drop (s.plc q)) w2 32 33) [32, 33] InsQ.start (by kernel_rfl) (by kernel_rfl) (by kernel_rfl) (by kernel_rfl) (by kernel_rfl) (by kernel_rfl) (by kernel_rfl) ?_
    simp only [List.take_succ_cons, List.take_zero, List.drop_succ_cons, List.drop_zero]
    repeat (refine st_plain (fun h => h.1) (by rfl) (by rfl) (by rfl) (by rfl) (by rfl) ?_; intro K hK; go_big_quiet_op; go_big_quiet_on)
    refine st_nil (fun h => h.1) (by rfl) (by rfl) (by rfl) (by rfl) (by rfl) (by rfl) ?_; intro K hK; go_big_quiet_op; go_big_quiet_on
    repeat (refine st_plain (fun h => h.1) (by rfl) (by rfl) (by rfl) (by rfl) (by rfl) ?_; intro K hK; go_big_quiet_op; go_big_quiet_on)
    refine st_step (f := 68) (args := #[.pointer (some ⟨b, 0, none⟩), .agg #[.int .i64 p.f.i, .int .i64 p.f.n, .int .i64 p.f.l, .string p.f.d]]) (v := .int .i64 (s.plc q : Nat)) 0 (by rfl) (by rfl) (by rfl) (by rfl) (by rfl) (fun w => by simp [go_sem]) (fun xs9 w9 h9 => ?_) ?_
    · have hz := h9.zero
      refine (place_w (f := p.f) (HM2.out.later hz) HSS.out HOK.out (HT2.out.below hz) (by rw [HKQ.out]; exact HQ0.out)).mono ?_
      rw [HKQ.out]
      rintro e w' ⟨rfl, hb⟩
      exact ⟨rfl, h9.step hb⟩
    simp only [Act.put, List.setIfInBounds_toArray, List.set_cons_succ, List.set_cons_zero]
    repeat (refine st_plain (fun h => h.1) (by rfl) (by rfl) (by rfl) (by rfl) (by rfl) ?_; intro K hK; go_big_quiet_op; go_big_quiet_on)
    refine st_new (s := 32) (mk := fun w => .slice (some ⟨w.heap.size, 0, none⟩) 1 1) (ob := fun _ => .cells #[.int .i64 n] 3) (by rfl) (by rfl) (by rfl) (by rfl) (by rfl) (by rfl) (fun _ => by kernel_rfl) (InsQ.one (by decide)) ?_
    simp only [Act.put, List.setIfInBounds_toArray, List.set_cons_succ, List.set_cons_zero]
    refine st_stepH (s := 33) 1 (by rfl) (by rfl) (by rfl) (by rfl) (fun xs9 a9 w9 h9 hx9 hlk => ?_) ?_
    · have h26 := hlk 26 (by decide)
      have h30 := hlk 30 (by decide)
      have h32 := hlk 32 (by decide)
      rw [if_neg (by decide)] at h26
      rw [if_neg (by decide)] at h30
      rw [if_pos (by decide)] at h32
      refine ⟨67, #[a9.tmps.getD 26 undef, a9.tmps.getD 30 undef, a9.tmps.getD 32 undef], by simp [go_sem], ?_⟩
      obtain ⟨hb9, g9, e9, l9, hh9⟩ := h9.rd h32
      rw [h26, h30, e9]
      refine (sl_insert_v (HM2.out.later hb9).turn HPL.out (by have := HTL.out; omega) hh9 (fun ho => by have := HM2.out.lt _ (.inr (.inr (.inl ho))); omega)).mono ?_
      rintro e w' ⟨v', he, hq1, hq2, hq3⟩
      exact ⟨v', he, h9.app hq1 hq2 hq3⟩
    simp only [Act.put, List.setIfInBounds_toArray, List.set_cons_succ, List.set_cons_zero]
    refine st_nil (fun h => h.1) (by rfl) (by rfl) (by rfl) (by rfl) (by rfl) (by rfl) ?_; intro K hK; go_big_quiet_op; go_big_quiet_on
    repeat (refine st_plain (fun h => h.1) (by rfl) (by rfl) (by rfl) (by rfl) (by rfl) ?_; intro K hK; go_big_quiet_op; go_big_quiet_on)
    intro ys xs w3 hF h2
    have e33 := hF 33 (by simp)
    obtain ⟨k1', k2', k3'⟩ := InsQ.out h2 e33
    simp only [secFill]
    simp only [Act.put, List.setIfInBounds_toArray, List.set_cons_succ, List.set_cons_zero]
    generalize ys 33 = v3 at k2' k3' e33
    obtain ⟨A8, c8, h8⟩ := k2'.shape
    subst h8
    obtain ⟨q1, q2, q3⟩ := HM2.out.setTurn k2' k1' k3'
    generalize (List.take (s.plc q) s.trn ++ (n : Int) :: List.drop (s.plc q) s.trn).length = tl at *
    have b1 : w3.cell? ⟨b, 1, none⟩ = some vt := (k1'.cell (p := ⟨b, 1, none⟩) z0 n1).trans c1
    have b1f : w3.frozen? ⟨b, 1, none⟩ = false := (k1'.frozen (p := ⟨b, 1, none⟩) z0 n1).trans (HM2.out.live 1)
    obtain ⟨w4, e4⟩ : ∃ w4, w3.setCell ⟨b, 1, none⟩ (.slice A8 tl c8) = w4 := ⟨_, rfl⟩
    rw [e4] at q1 q2
    have HM4 := Lib.hid q1
    have HK4 := Lib.hid ((Kept.of_below (O := bmO b g vt ve) HB2.out).trans q2 (Grows.refl _ _))
    have HG4 : Hid (Grows (bmO b g vt ve) w (bmO b g (.slice A8 tl c8) ve)) := Lib.hid (fun k hk => (q3 k hk).imp id (fun h => Nat.le_trans HB2.out.size h))
    have HP4 : Hid (BoxP w4 w.heap.size p) := Lib.hid (HP2.out.kept q2 (fun h => by have := HM.out.lt _ h; omega))
    clear q1 q2 q3 k1' k2' k3' h2 hF e33 hcb hcp c0 c1 c2 d0 d1 d2 d3 d4 d5 d6 z0 zp n1 np
    go_upto_region 9 with fail
    clear e4 b1 b1f
    obtain ⟨c0, c1, c2⟩ := HM4.out.cells
    obtain ⟨d0, d1, d2, d3, d4, d5, d6⟩ := HP4.out.cells
    obtain ⟨m0, m1, m2, m3, m4, m5, m6, m7⟩ := HM4.out.mail HMY.out
    have ml := HM4.out.liveR
    have l2 : (n : Int) < (M.length : Int) := by have := HNL.out; omega
    have l5 : (M.length : Int) ≤ 1000 := by have := HML.out; omega
    have HW := Lib.hid (HM4.out.setMail (i := n) HNL.out 1 p)
    obtain ⟨wp, ep⟩ : ∃ wp, putM w4 g n 1 p = wp := ⟨_, rfl⟩
    rw [ep] at HW
    have hfold : (((((((w4.setCell ⟨g, n * 8, none⟩ (.int .i64 1)).setCell ⟨g, n * 8 + 1, none⟩ (.int .i64 p.f.i)).setCell ⟨g, n * 8 + 2, none⟩ (.int .i64 p.f.n)).setCell ⟨g, n * 8 + 3, none⟩ (.int .i64 p.f.l)).setCell ⟨g, n * 8 + 4, none⟩ (.string p.f.d)).setCell ⟨g, n * 8 + 5, none⟩ (.int .i64 p.fr)).setCell ⟨g, n * 8 + 6, none⟩ (.int .i64 p.tag)).setCell ⟨g, n * 8 + 7, none⟩ (.bool p.lp) = wp := ep
    have HFIN : Hid (Stp (BmD TB Y) (.pointer (some ⟨b, 0, none⟩)) (bmO b g vt ve) w (s.putAt n p) wp.drew) := Lib.hid (by
      refine ⟨_, ⟨b, g, _, ve, M.set n (1, p), rfl, rfl, ?_, HNW.out⟩, ?_, HG4.out⟩
      · rw [HTR.out.1, HTR.out.2]
        exact HW.out.1.later (Below.refl _ _).drew
      · exact (HK4.out.trans HW.out.2 HG4.out).trans (.of_below (Below.refl _ _).drew) (Grows.refl _ _))
    clear ep
    go_region
    go_wp2
    go_ret2
    exact ⟨rfl, HFIN.out⟩
end Go.Proofs.YtmmcjmejcngajaaGreatDoor

namespace Go.Proofs.YtmmcjmejcngajaaGreatDoor
open Go.RowKit Go.Shelf
set_option linter.unusedVariables false
variable {TB : TypeId} {Y : List Value}

/-- a Done behind an address -/
def DnB (w : World) (z : Nat) (i : Int) (p : Pk) (q : Bool) : Prop := w.heap[z]? = some (.cells #[.int .i64 i, .int .i64 p.f.i, .int .i64 p.f.n, .int .i64 p.f.l, .string p.f.d, .int .i64 p.fr, .int .i64 p.tag, .bool p.lp, .bool q] 80 (0, 0))
theorem DnB.lt {w : World} {z : Nat} {i : Int} {p : Pk} {q : Bool} (h : DnB w z i p q) : z < w.heap.size := heap_some_lt h
theorem DnB.later {w w' : World} {z : Nat} {i : Int} {p : Pk} {q : Bool} (h : DnB w z i p q) (hb : Below w.heap.size w w') : DnB w' z i p q := (hb.block z h.lt).trans h
theorem DnB.kept {w w' : World} {z : Nat} {i : Int} {p : Pk} {q : Bool} {O : Nat → Prop} (h : DnB w z i p q) (hk : Kept O w w') (hn : ¬ O z) : DnB w' z i p q := (hk.block z h.lt hn).trans h
theorem DnB.cells {w : World} {z : Nat} {i : Int} {p : Pk} {q : Bool} (h : DnB w z i p q) : w.cell? ⟨z, 0, none⟩ = some (.int .i64 i) ∧ w.cell? ⟨z, 1, none⟩ = some (.int .i64 p.f.i) ∧ w.cell? ⟨z, 2, none⟩ = some (.int .i64 p.f.n) ∧ w.cell? ⟨z, 3, none⟩ = some (.int .i64 p.f.l) ∧ w.cell? ⟨z, 4, none⟩ = some (.string p.f.d) ∧
    w.cell? ⟨z, 5, none⟩ = some (.int .i64 p.fr) ∧ w.cell? ⟨z, 6, none⟩ = some (.int .i64 p.tag) ∧ w.cell? ⟨z, 7, none⟩ = some (.bool p.lp) ∧ w.cell? ⟨z, 8, none⟩ = some (.bool q) := by
  unfold DnB at h
  refine ⟨?_, ?_, ?_, ?_, ?_, ?_, ?_, ?_, ?_⟩ <;> (rw [Lib.cell_of_heap h]; rfl)
def putD (w : World) (z : Nat) (i : Int) (p : Pk) (q : Bool) : World :=
  ((((((((w.setCell ⟨z, 0, none⟩ (.int .i64 i)).setCell ⟨z, 1, none⟩ (.int .i64 p.f.i)).setCell ⟨z, 2, none⟩ (.int .i64 p.f.n)).setCell ⟨z, 3, none⟩ (.int .i64 p.f.l)).setCell ⟨z, 4, none⟩ (.string p.f.d)).setCell ⟨z, 5, none⟩ (.int .i64 p.fr)).setCell ⟨z, 6, none⟩ (.int .i64 p.tag)).setCell ⟨z, 7, none⟩ (.bool p.lp)).setCell ⟨z, 8, none⟩ (.bool q)
set_option maxHeartbeats 2000000 in
theorem DnB.put {w : World} {z : Nat} {i0 : Int} {p0 : Pk} {q0 : Bool} (h : DnB w z i0 p0 q0) (i : Int) (p : Pk) (q : Bool) : DnB (putD w z i p q) z i p q := by
  unfold DnB at *
  have a0 := heap_setCell_same w z 0 _ _ (.int .i64 i) h
  have a1 := heap_setCell_same _ z 1 _ _ (.int .i64 p.f.i) a0
  have a2 := heap_setCell_same _ z 2 _ _ (.int .i64 p.f.n) a1
  have a3 := heap_setCell_same _ z 3 _ _ (.int .i64 p.f.l) a2
  have a4 := heap_setCell_same _ z 4 _ _ (.string p.f.d) a3
  have a5 := heap_setCell_same _ z 5 _ _ (.int .i64 p.fr) a4
  have a6 := heap_setCell_same _ z 6 _ _ (.int .i64 p.tag) a5
  have a7 := heap_setCell_same _ z 7 _ _ (.bool p.lp) a6
  have a8 := heap_setCell_same _ z 8 _ _ (.bool q) a7
  unfold putD
  rw [a8]
  simp only [List.setIfInBounds_toArray, List.set_cons_zero, List.set_cons_succ]
theorem putD_other {w : World} {z k : Nat} {i : Int} {p : Pk} {q : Bool} (h : k ≠ z) : (putD w z i p q).heap[k]? = w.heap[k]? := by
  unfold putD
  iterate 9 rw [Below.heap_setCell _ _ _ _ h]
theorem putD_kept (w : World) (z : Nat) (i : Int) (p : Pk) (q : Bool) : Kept (fun k => k = z) w (putD w z i p q) := by
  refine ⟨?_, ?_, ?_, ?_, fun k _ hk => putD_other hk⟩
  · unfold putD; iterate 9 rw [(setCell_rest1 _ _ _).1]
  · unfold putD; iterate 9 rw [(setCell_rest1 _ _ _).2.1]
  · unfold putD; iterate 9 rw [(setCell_rest1 _ _ _).2.2]
  · unfold putD; simp [World.setCell]
theorem DnB.made (w : World) : DnB (w.alloc (.cells #[.int .i64 0, .int .i64 0, .int .i64 0, .int .i64 0, .string (ByteArray.mk #[]), .int .i64 0, .int .i64 0, .bool false, .bool false] 80)) w.heap.size 0 pk0 false := heap_alloc_new w _
set_option maxHeartbeats 8000000 in
theorem kxtake_v {w : World} {v : Value} {s : Bx} {O : Nat → Prop} (h : BmD TB Y w v s O) (ok : s.Ok) : Calls Tryz.prog 56 #[v] w fun e w' => e = .returned (.tuple #[dnV s.tk.1 s.tk.2.1 s.tk.2.2.1, .int .i64 s.tk.2.2.2]) ∧ Stp (BmD TB Y) v O w s.take.1 w' := by
  obtain ⟨b, g, vt, ve, M, rfl, rfl, hm, hs⟩ := h
  obtain ⟨A1, k1, hv1⟩ := hm.fin.shape
  subst hv1
  have hb0 := (Below.refl w.heap.size w).alloc (Nat.le_refl _) (.cells #[.int .i64 0, .int .i64 0, .int .i64 0, .int .i64 0, .string (ByteArray.mk #[]), .int .i64 0, .int .i64 0, .bool false, .bool false] 80)
  cases hf : s.fin with
  | nil =>
    have HM0 := Lib.hid (hm.later hb0)
    obtain ⟨c0, c1, c2⟩ := HM0.out.cells
    have HE : Hid (s.tk = (0, pk0, false, 6)) := Lib.hid (by unfold Bx.tk; rw [hf])
    have HE2 : Hid (s.take.1 = s) := Lib.hid (by unfold Bx.take; rw [hf])
    have HS : Hid (Stp (BmD TB Y) (.pointer (some ⟨b, 0, none⟩)) (bmO b g vt (.slice A1 s.fin.length k1)) w s (w.alloc (.cells #[.int .i64 0, .int .i64 0, .int .i64 0, .int .i64 0, .string (ByteArray.mk #[]), .int .i64 0, .int .i64 0, .bool false, .bool false] 80))) := Lib.hid ⟨_, ⟨b, g, vt, _, M, rfl, rfl, hm.later hb0, hs⟩, .of_below hb0, Grows.refl _ _⟩
    rw [HE.out, HE2.out]
    rw [hf, List.length_nil] at c2 HS
    clear hm hs ok hf hb0 HM0 c0 c1
    go_enter Tryz.func56, Tryz.ntmps56
    go_wp2
    refine bodyPost_ret (v := .tuple #[dnV 0 pk0 false, .int .i64 6]) ?_ rfl ⟨rfl, HS.out⟩
    simp [results, Tryz.results56, go_sem, pk0]
  | cons x r =>
    obtain ⟨h1, h2, h3⟩ := ok.fin x (by rw [hf]; simp)
    obtain ⟨n, rfl⟩ := Int.eq_ofNat_of_zero_le h1
    have hn : n < s.S.length := by omega
    have hmy := hs.at_ hn
    have HS : Hid (BmS (M.set n (0, pk0)) s.take.1) := Lib.hid (by
      refine ⟨?_, ?_, hs.full.take ok⟩
      · unfold Bx.take; rw [hf, List.map_set, hs.hS]; simp
      · unfold Bx.take; rw [hf, List.map_set, hs.hP]; simp)
    have HE : Hid (s.tk = ((n : Int), s.P.getD n pk0, s.S.getD n 0 == 2, 0) ∧ s.take.1.trn = s.trn ∧ s.take.1.fin = r) := Lib.hid ⟨by
      unfold Bx.tk Bx.take; rw [hf]; simp, Bx.trn_take ok hf, by unfold Bx.take; rw [hf]⟩
    generalize s.S.getD n 0 = st at hmy HE
    generalize s.P.getD n pk0 = pp at hmy HE
    rw [HE.out.1]
    have hMl : M.length ≤ 1000 := by rw [hs.len]; exact ok.n2
    have hnl : n < M.length := by rw [hs.len]; omega
    have hfl : s.fin.length ≤ 1000 := ok.finLe
    obtain ⟨w0, e0⟩ : ∃ w0, w.alloc (.cells #[.int .i64 0, .int .i64 0, .int .i64 0, .int .i64 0, .string (ByteArray.mk #[]), .int .i64 0, .int .i64 0, .bool false, .bool false] 80) = w0 := ⟨_, rfl⟩
    have HB0 : Hid (Below w.heap.size w w0) := Lib.hid (by rw [← e0]; exact hb0)
    have hm0 := hm.later HB0.out
    have HM0 := Lib.hid hm0
    have HD0 : Hid (DnB w0 w.heap.size 0 pk0 false) := Lib.hid (by rw [← e0]; exact DnB.made w)
    obtain ⟨xa, ca, hv1, hxb, hcell⟩ := SlG.at_ (hm0.fin.sl inC_len (by unfold maxLen; omega)) (i := 0) (by rw [hf]; simp)
    have a0 : w0.cell? (xa.add (0 * 1)) = some (.int .i64 n) := hcell 0 _ (by simp [hf, inC])
    rw [Nat.mul_one, show xa.add 0 = xa by unfold Addr.add; simp] at a0
    injection hv1 with hA _ hcap
    subst hA hcap
    have l0 : 0 < s.fin.length := by rw [hf]; simp
    have l1 : (0 : Int) < (s.fin.length : Int) := by omega
    have l2 : (n : Int) < (M.length : Int) := by omega
    have l3 : ((s.fin.length : Int) == 0) = false := beq_eq_false_iff_ne.2 (by omega)
    have l4 : (s.fin.length : Int) ≤ 1000 := by omega
    have l5 : (M.length : Int) ≤ 1000 := by omega
    obtain ⟨c0, c1, c2⟩ := hm0.cells
    have z0 : b < w0.heap.size := hm0.lt b (.inl rfl)
    have HOW : Hid (∀ k, bmO b g vt (.slice (some xa) s.fin.length k1) k → k < w.heap.size) := Lib.hid hm.lt
    have n1 := hm0.f2.1
    have HQ0 : Hid (RowQ inC 1 w0 (.slice (some xa) s.fin.length k1) ((n : Int) :: r)) := Lib.hid (by rw [← hf]; exact hm0.fin)
    have b2l := hm0.live 2
    have HMY := Lib.hid hmy
    clear hm hs hm0 hf hb0 hcell h1 h2 h3 hmy hn ok
    go_enter Tryz.func56, Tryz.ntmps56
    go_wp2_with fail
    refine (sl_delete0_v HQ0.out).mono ?_
    rintro e w1 ⟨v', rfl, hq, hk, hg⟩
    obtain ⟨A2, k2, hv2⟩ := hq.shape
    subst hv2
    have b2 := (hk.cell (p := ⟨b, 2, none⟩) z0 n1).trans c2
    have b2f := (hk.frozen (p := ⟨b, 2, none⟩) z0 n1).trans b2l
    obtain ⟨w2, e2⟩ : ∃ w2, w1.setCell ⟨b, 2, none⟩ (.slice A2 r.length k2) = w2 := ⟨_, rfl⟩
    obtain ⟨r1, r2, r3⟩ := HM0.out.setFin hq hk hg
    rw [e2] at r1 r2
    have HM2 := Lib.hid r1
    have HK2 := Lib.hid ((Kept.of_below (O := bmO b g vt (.slice (some xa) s.fin.length k1)) HB0.out).trans r2 (Grows.refl _ _))
    have HG2 : Hid (Grows (bmO b g vt (.slice (some xa) s.fin.length k1)) w (bmO b g vt (.slice A2 r.length k2))) := Lib.hid (fun k hk => (r3 k hk).imp id (fun h => Nat.le_trans HB0.out.size h))
    have HG3 := Lib.hid r3
    have HD2 : Hid (DnB w2 w.heap.size 0 pk0 false) := Lib.hid (HD0.out.kept r2 (fun h => by have := HOW.out _ h; omega))
    clear hq hk hg r1 r2 r3 c0 c1 c2 a0
    go_upto_region 7 with fail
    clear e2 b2 b2f b2l n1
    obtain ⟨c0, c1, c2⟩ := HM2.out.cells
    obtain ⟨m0, m1, m2, m3, m4, m5, m6, m7⟩ := HM2.out.mail HMY.out
    have z2 : w.heap.size < w2.heap.size := HD2.out.lt
    have HB3 := Lib.hid ((Below.refl w2.heap.size w2).alloc (Nat.le_refl _) (.cells #[.int .i64 st, .int .i64 pp.f.i, .int .i64 pp.f.n, .int .i64 pp.f.l, .string pp.f.d, .int .i64 pp.fr, .int .i64 pp.tag, .bool pp.lp] 95))
    have hx3 := heap_alloc_new w2 (.cells #[.int .i64 st, .int .i64 pp.f.i, .int .i64 pp.f.n, .int .i64 pp.f.l, .string pp.f.d, .int .i64 pp.fr, .int .i64 pp.tag, .bool pp.lp] 95)
    obtain ⟨w3, e3⟩ : ∃ w3, w2.alloc (.cells #[.int .i64 st, .int .i64 pp.f.i, .int .i64 pp.f.n, .int .i64 pp.f.l, .string pp.f.d, .int .i64 pp.fr, .int .i64 pp.tag, .bool pp.lp] 95) = w3 := ⟨_, rfl⟩
    rw [e3] at HB3 hx3
    go_upto_region 8 with fail
    clear e3 m0 m1 m2 m3 m4 m5 m6 m7 c0 c1 c2
    have HM3 := Lib.hid (HM2.out.later HB3.out)
    have HD3 := Lib.hid (HD2.out.later HB3.out)
    obtain ⟨c0, c1, c2⟩ := HM3.out.cells
    obtain ⟨m0, m1, m2, m3, m4, m5, m6, m7⟩ := HM3.out.mail HMY.out
    have ml := HM3.out.liveR
    have HW := Lib.hid (HM3.out.setMail (i := n) hnl 0 pk0)
    obtain ⟨wp, ep⟩ : ∃ wp, putM w3 g n 0 pk0 = wp := ⟨_, rfl⟩
    rw [ep] at HW
    have hfold : (((((((w3.setCell ⟨g, n * 8, none⟩ (.int .i64 0)).setCell ⟨g, n * 8 + 1, none⟩ (.int .i64 0)).setCell ⟨g, n * 8 + 2, none⟩ (.int .i64 0)).setCell ⟨g, n * 8 + 3, none⟩ (.int .i64 0)).setCell ⟨g, n * 8 + 4, none⟩ (.string (ByteArray.mk #[]))).setCell ⟨g, n * 8 + 5, none⟩ (.int .i64 0)).setCell ⟨g, n * 8 + 6, none⟩ (.int .i64 0)).setCell ⟨g, n * 8 + 7, none⟩ (.bool false) = wp := ep
    have HX : Hid (wp.heap[w2.heap.size]? = some (.cells #[.int .i64 st, .int .i64 pp.f.i, .int .i64 pp.f.n, .int .i64 pp.f.l, .string pp.f.d, .int .i64 pp.fr, .int .i64 pp.tag, .bool pp.lp] 95 (0, 0))) := Lib.hid (by
      rw [← ep, putM_other (fun e => by have := HM2.out.lt g (.inr (.inl rfl)); omega)]; exact hx3)
    have HD4 : Hid (DnB wp w.heap.size 0 pk0 false) := Lib.hid ((by
      unfold DnB
      rw [← ep, putM_other (fun e => by have := HOW.out g (.inr (.inl rfl)); omega)]; exact HD3.out))
    clear ep hx3
    go_upto_region 9 with fail
    clear hfold ml m0 m1 m2 m3 m4 m5 m6 m7 c0 c1 c2
    have x0 := Lib.cell_of_heap HX.out 0
    have x1 := Lib.cell_of_heap HX.out 1
    have x2 := Lib.cell_of_heap HX.out 2
    have x3 := Lib.cell_of_heap HX.out 3
    have x4 := Lib.cell_of_heap HX.out 4
    have x5 := Lib.cell_of_heap HX.out 5
    have x6 := Lib.cell_of_heap HX.out 6
    have x7 := Lib.cell_of_heap HX.out 7
    simp only [List.getElem?_toArray, List.getElem?_cons_zero, List.getElem?_cons_succ] at x0 x1 x2 x3 x4 x5 x6 x7
    obtain ⟨d0, d1, d2, d3, d4, d5, d6, d7, d8⟩ := HD4.out.cells
    have dl : ∀ j, wp.frozen? ⟨w.heap.size, j, none⟩ = false := fun j => Lib.frozen_of_heap HD4.out j
    obtain ⟨wd, ed⟩ : ∃ wd, putD wp w.heap.size n pp (st == 2) = wd := ⟨_, rfl⟩
    have hfold : ((((((((wp.setCell ⟨w.heap.size, 0, none⟩ (.int .i64 n)).setCell ⟨w.heap.size, 1, none⟩ (.int .i64 pp.f.i)).setCell ⟨w.heap.size, 2, none⟩ (.int .i64 pp.f.n)).setCell ⟨w.heap.size, 3, none⟩ (.int .i64 pp.f.l)).setCell ⟨w.heap.size, 4, none⟩ (.string pp.f.d)).setCell ⟨w.heap.size, 5, none⟩ (.int .i64 pp.fr)).setCell ⟨w.heap.size, 6, none⟩ (.int .i64 pp.tag)).setCell ⟨w.heap.size, 7, none⟩ (.bool pp.lp)).setCell ⟨w.heap.size, 8, none⟩ (.bool (st == 2)) = wd := ed
    have HDD : Hid (DnB wd w.heap.size n pp (st == 2)) := Lib.hid (by rw [← ed]; exact HD4.out.put n pp (st == 2))
    have HKD : Hid (Kept (fun k => k = w.heap.size) wp wd) := Lib.hid (by rw [← ed]; exact putD_kept _ _ _ _ _)
    clear ed
    generalize hq2 : (st == 2) = q2 at *
    have HFIN : Hid (Stp (BmD TB Y) (.pointer (some ⟨b, 0, none⟩)) (bmO b g vt (.slice (some xa) s.fin.length k1)) w s.take.1 wd) := Lib.hid (by
      have hno : ¬ bmO b g vt (.slice A2 r.length k2) w.heap.size := fun h => by
        have h1 := HG3.out _ h
        rcases h1 with h1 | h1
        · have := HOW.out _ h1; omega
        · have := HD0.out.lt; omega
      refine ⟨_, ⟨b, g, vt, _, M.set n (0, pk0), rfl, rfl, ?_, HS.out⟩, ?_, HG2.out⟩
      · rw [HE.out.2.1, HE.out.2.2]
        exact HW.out.1.stay (fun k hk => HKD.out.block k (HW.out.1.lt k hk) (fun e => hno (e ▸ hk)))
      · refine (((HK2.out.trans (.of_below (O := bmO b g vt (.slice (some xa) s.fin.length k1)) HB3.out) (Grows.refl _ _)).trans HW.out.2 HG2.out)).trans HKD.out (fun k hk => .inr (by omega)))
    go_wp2
    obtain ⟨g0, g1, g2, g3, g4, g5, g6, g7, g8⟩ := HDD.out.cells
    refine bodyPost_ret (v := .tuple #[dnV n pp q2, .int .i64 0]) ?_ rfl ⟨by rw [← hq2], HFIN.out⟩
    simp [results, Tryz.results56, go_sem, g0, g1, g2, g3, g4, g5, g6, g7, g8]
end Go.Proofs.YtmmcjmejcngajaaGreatDoor

namespace Go.Proofs.YtmmcjmejcngajaaGreatDoor
open Go.RowKit
set_option linter.unusedVariables false

abbrev ckS (g : Nat) (M : List (Int × Pk)) : Value := .slice (some ⟨g, 0, none⟩) M.length M.length
abbrev ckY (fa : Value) (p : Option Addr) (k : Nat) (f l m n a : Int) : List Value := fa :: (rfC p k f l m n ++ [.int .i64 a])
/-- the filters' closure: none, or one with a row of its own -/
def AccK (w : World) (fa : Value) (L : List Flt) (Of : Nat → Prop) : Prop :=
  (fa = .nilFunc ∧ L = [] ∧ Of = fun _ => False) ∨ (∃ kb u, L ≠ [] ∧ fa = .func (.func 47) #[] #[.pointer (some ⟨kb, 0, none⟩)] ∧ Bx1 w kb u 22 ∧ RowQ flC 3 w u L ∧ (∀ x ∈ L, x.fits) ∧ L.length ≤ 50 ∧ Of = fun k => k = kb ∨ OwnO u k)
def rO (p : Option Addr) : Nat → Prop := fun k => ∃ a, p = some a ∧ k = a.block
structure CkM (w : World) (b g : Nat) (vt ve fa : Value) (M : List (Int × Pk)) (Of : Nat → Prop) (p : Option Addr) (S : List Fr) (f m n : Nat) (s : Ct) : Prop where
  bm : BmM 68 (ckY fa p S.length (f : Int) (s.fifo.length : Int) (m : Int) (n : Int) s.asks) w b g vt ve M s.bx.trn s.bx.fin
  bs : BmS M s.bx
  rf : RfM 68 4 [ckS g M, vt, ve, fa] [.int .i64 s.asks] w b p S f ⟨s.fifo, m, n⟩
  ac : AccK w fa s.acc Of
  hm : s.room = m
  hn : s.lost = n
  a1 : Apart (bmO b g vt ve) (rO p)
  a2 : Apart (bmO b g vt ve) Of
  a3 : Apart (rO p) Of
def ckO (b g : Nat) (vt ve : Value) (p : Option Addr) (Of : Nat → Prop) : Nat → Prop := fun k => bmO b g vt ve k ∨ rO p k ∨ Of k
def CkD (w : World) (v : Value) (s : Ct) (O : Nat → Prop) : Prop := ∃ b g vt ve fa M Of p S f m n, v = .pointer (some ⟨b, 0, none⟩) ∧ O = ckO b g vt ve p Of ∧ CkM w b g vt ve fa M Of p S f m n s
section
variable {w w' : World} {fa : Value} {L : List Flt} {Of : Nat → Prop}
theorem AccK.lt (h : AccK w fa L Of) : ∀ k, Of k → k < w.heap.size := by
  rcases h with ⟨_, _, rfl⟩ | ⟨kb, u, _, _, h1, h2, _, _, rfl⟩
  · exact fun k hk => hk.elim
  · rintro k (rfl | hk)
    · exact h1.lt
    · exact h2.lt k hk
theorem AccK.stay (h : AccK w fa L Of) (hs : ∀ k, Of k → w'.heap[k]? = w.heap[k]?) : AccK w' fa L Of := by
  have hz : ∀ k, Of k → k < w'.heap.size := fun k hk => by
    have h1 := hs k hk
    have h2 := h.lt k hk
    rw [Array.getElem?_eq_getElem h2] at h1
    exact heap_some_lt h1
  rcases h with h | ⟨kb, u, h0, hf, h1, h2, h3, h4, rfl⟩
  · exact .inl h
  · exact .inr ⟨kb, u, h0, hf, (hs kb (.inl rfl)).trans h1, h2.stayL (fun k hk => hs k (.inr hk)) (fun k hk => hz k (.inr hk)), h3, h4, rfl⟩
end
section
variable {w w' : World} {b g : Nat} {vt ve fa : Value} {M : List (Int × Pk)} {Of : Nat → Prop} {p : Option Addr} {S : List Fr} {f m n : Nat} {s : Ct}
theorem rgO_r {k : Nat} (h : rO p k) : rgO b p k := .inr h
theorem CkM.lt (h : CkM w b g vt ve fa M Of p S f m n s) : ∀ k, ckO b g vt ve p Of k → k < w.heap.size := by
  rintro k (hk | hk | hk)
  · exact h.bm.lt k hk
  · exact h.rf.lt k (rgO_r hk)
  · exact h.ac.lt k hk
theorem CkM.stay (h : CkM w b g vt ve fa M Of p S f m n s) (hs : ∀ k, ckO b g vt ve p Of k → w'.heap[k]? = w.heap[k]?) : CkM w' b g vt ve fa M Of p S f m n s :=
  ⟨h.bm.stay (fun k hk => hs k (.inl hk)), h.bs, h.rf.stay (fun k hk => by
    rcases hk with rfl | hk
    · exact hs k (.inl (.inl rfl))
    · exact hs k (.inr (.inl hk))), h.ac.stay (fun k hk => hs k (.inr (.inr hk))), h.hm, h.hn, h.a1, h.a2, h.a3⟩
theorem CkM.later (h : CkM w b g vt ve fa M Of p S f m n s) (hb : Below w.heap.size w w') : CkM w' b g vt ve fa M Of p S f m n s := h.stay (fun k hk => hb.block k (h.lt k hk))
theorem isObj_ck : IsObj CkD where
  stay := by
    rintro w w' v s O ⟨b, g, vt, ve, fa, M, Of, p, S, f, m, n, rfl, rfl, h⟩ hs
    exact ⟨b, g, vt, ve, fa, M, Of, p, S, f, m, n, rfl, rfl, h.stay hs⟩
  lt := by
    rintro w v s O ⟨b, g, vt, ve, fa, M, Of, p, S, f, m, n, rfl, rfl, h⟩
    exact h.lt
theorem CkM.stp (h : CkM w b g vt ve fa M Of p S f m n s) (hb : Below w.heap.size w w') : Stp CkD (.pointer (some ⟨b, 0, none⟩)) (ckO b g vt ve p Of) w s w' :=
  ⟨_, ⟨b, g, vt, ve, fa, M, Of, p, S, f, m, n, rfl, rfl, h.later hb⟩, .of_below hb, Grows.refl _ _⟩
theorem CkM.bd (h : CkM w b g vt ve fa M Of p S f m n s) : BmD 68 (ckY fa p S.length (f : Int) (s.fifo.length : Int) (m : Int) (n : Int) s.asks) w (.pointer (some ⟨b, 0, none⟩)) s.bx (bmO b g vt ve) := ⟨b, g, vt, ve, M, rfl, rfl, h.bm, h.bs⟩
theorem CkM.rd (h : CkM w b g vt ve fa M Of p S f m n s) : RfI 68 4 [ckS g M, vt, ve, fa] [.int .i64 s.asks] w (.pointer (some ⟨b, 4, none⟩)) ⟨s.fifo, m, n⟩ (rgO b p) := ⟨b, p, S, f, rfl, rfl, h.rf⟩
theorem BmM.move {TB TB' : TypeId} {Y Y' : List Value} {b' : Nat} {T E : List Int} (h : BmM TB Y w b g vt ve M T E) (hb : w'.heap[b']? = some (.cells (Value.slice (some ⟨g, 0, none⟩) M.length M.length :: vt :: ve :: Y').toArray TB' (0, 0)))
    (hs : ∀ k, k = g ∨ OwnO vt k ∨ OwnO ve k → w'.heap[k]? = w.heap[k]?) (hz : w.heap.size ≤ w'.heap.size) (hn : b' = b ∨ w.heap.size ≤ b') : BmM TB' Y' w' b' g vt ve M T E := by
  have key : ∀ k, k = g ∨ OwnO vt k ∨ OwnO ve k → b' ≠ k := fun k hk e => by
    rcases hn with rfl | hn
    · rcases hk with hk | hk | hk
      · exact h.h1 (e.trans hk)
      · exact h.f1.1 (e ▸ hk)
      · exact h.f2.1 (e ▸ hk)
    · have : k < w.heap.size := by
        rcases hk with rfl | hk | hk
        · exact h.lt k (.inr (.inl rfl))
        · exact h.turn.lt k hk
        · exact h.fin.lt k hk
      omega
  exact ⟨hb, (hs g (.inl rfl)).trans h.row, h.turn.stay (fun k hk => hs k (.inr (.inl hk))) hz, h.fin.stay (fun k hk => hs k (.inr (.inr hk))) hz, key g (.inl rfl), ⟨fun hk => key b' (.inr (.inl hk)) rfl, h.f1.2⟩, ⟨fun hk => key b' (.inr (.inr hk)) rfl, h.f2.2⟩, h.f3⟩
/-- behind a call of the mailboxes -/
theorem CkM.boxes {bx' : Bx} (h : CkM w b g vt ve fa M Of p S f m n s) (hs : Stp (BmD 68 (ckY fa p S.length (f : Int) (s.fifo.length : Int) (m : Int) (n : Int) s.asks)) (.pointer (some ⟨b, 0, none⟩)) (bmO b g vt ve) w bx' w') :
    ∃ g' vt' ve' M', CkM w' b g' vt' ve' fa M' Of p S f m n { s with bx := bx' } ∧ Kept (ckO b g vt ve p Of) w w' ∧ Grows (ckO b g vt ve p Of) w (ckO b g' vt' ve' p Of) := by
  obtain ⟨O', ⟨b', g', vt', ve', M', hv, rfl, hm, hS⟩, hk, hg⟩ := hs
  injection hv with hv; injection hv with hv; injection hv with hv
  subst hv
  have hr := h.rf.lt
  have ho := h.ac.lt
  refine ⟨g', vt', ve', M', ⟨hm, hS, ⟨hm.box, rfl, ?_, h.rf.len, h.rf.fit, h.rf.lo, h.rf.hi, h.rf.mem⟩, h.ac.stay (fun k hk' => hk.block k (ho k hk') (fun h1 => h.a2 k h1 hk')), h.hm, h.hn, h.a1.step (fun k hk' => hr k (rgO_r hk')) hg, h.a2.step ho hg, h.a3⟩, ?_, ?_⟩
  · rcases h.rf.row with h1 | ⟨q, rfl, h2, h3, h4⟩
    · exact .inl h1
    · exact .inr ⟨q, rfl, (hk.block q (heap_some_lt h2) (fun h5 => h.a1 q h5 ⟨_, rfl, rfl⟩)).trans h2, h3, h4⟩
  · exact ⟨hk.os, hk.tape, hk.output, hk.size, fun k h1 h2 => hk.block k h1 (fun h3 => h2 (.inl h3))⟩
  · rintro k (h1 | h1)
    · exact (hg k h1).imp .inl id
    · exact .inl (.inr h1)
/-- behind a call of the fifo -/
theorem CkM.fifos {L' : List Fr} {n' : Nat} (h : CkM w b g vt ve fa M Of p S f m n s) (hs : Stp (RfI 68 4 [ckS g M, vt, ve, fa] [.int .i64 s.asks]) (.pointer (some ⟨b, 4, none⟩)) (rgO b p) w ⟨L', m, n'⟩ w') :
    ∃ p' S' f', CkM w' b g vt ve fa M Of p' S' f' m n' { s with fifo := L', lost := (n' : Int) } ∧ Kept (ckO b g vt ve p Of) w w' ∧ Grows (ckO b g vt ve p Of) w (ckO b g vt ve p' Of) := by
  obtain ⟨O', ⟨b', p', S', f', hv, rfl, hr⟩, hk, hg⟩ := hs
  injection hv with hv; injection hv with hv; injection hv with hv
  subst hv
  have ho := h.ac.lt
  have hl := h.bm.lt
  have hrow : ∀ k, rO p' k → rO p k ∨ w.heap.size ≤ k := fun k hk' => by
    have hne : k ≠ b := by
      obtain ⟨a, rfl, rfl⟩ := hk'
      rcases hr.row with ⟨h1, _⟩ | ⟨q, h1, _, h3, _⟩
      · cases h1
      · injection h1 with h1; subst h1; exact h3
    rcases hg k (.inr hk') with h1 | h1
    · rcases h1 with h1 | h1
      · exact absurd h1 hne
      · exact .inl h1
    · exact .inr h1
  have out : ∀ k, k ≠ b → bmO b g vt ve k ∨ Of k → w'.heap[k]? = w.heap[k]? := fun k hne hk' => by
    have hlt : k < w.heap.size := by rcases hk' with h1 | h1; exact hl k h1; exact ho k h1
    refine hk.block k hlt (fun h1 => ?_)
    rcases h1 with h1 | h1
    · exact hne h1
    · rcases hk' with h2 | h2
      · exact h.a1 k h2 h1
      · exact h.a3 k h1 h2
  refine ⟨p', S', f', ⟨h.bm.move hr.box ?_ hk.size (.inl rfl), h.bs, hr, h.ac.stay (fun k hk' => out k (fun e => h.a2 b (.inl rfl) (e ▸ hk')) (.inr hk')), h.hm, rfl, fun k h1 h2 => ?_, h.a2, fun k h1 h2 => ?_⟩, ?_, ?_⟩
  · rintro k (rfl | h1 | h1)
    · exact out k (fun e => h.bm.h1 e.symm) (.inl (.inr (.inl rfl)))
    · exact out k (fun e => h.bm.f1.1 (e ▸ h1)) (.inl (.inr (.inr (.inl h1))))
    · exact out k (fun e => h.bm.f2.1 (e ▸ h1)) (.inl (.inr (.inr (.inr h1))))
  · rcases hrow k h2 with h3 | h3
    · exact h.a1 k h1 h3
    · have := hl k h1; omega
  · rcases hrow k h1 with h3 | h3
    · exact h.a3 k h3 h2
    · have := ho k h2; omega
  · refine ⟨hk.os, hk.tape, hk.output, hk.size, fun k h1 h2 => hk.block k h1 (fun h3 => ?_)⟩
    rcases h3 with h3 | h3
    · exact h2 (.inl (.inl h3))
    · exact h2 (.inr (.inl h3))
  · rintro k (h1 | h1 | h1)
    · exact .inl (.inl h1)
    · exact (hrow k h1).imp (fun h => .inr (.inl h)) id
    · exact .inl (.inr (.inr h1))
theorem CkM.reg (h : CkM w b g vt ve fa M Of p S f m n s) : w.cell? ⟨b, 9, none⟩ = some (.int .i64 s.asks) ∧ w.frozen? ⟨b, 9, none⟩ = false := by
  refine ⟨?_, Lib.frozen_of_heap h.rf.box 9⟩
  rw [Lib.cell_of_heap h.rf.box]
  rfl
/-- the register is stored -/
theorem CkM.setReg (h : CkM w b g vt ve fa M Of p S f m n s) (a : Int) : CkM (w.setCell ⟨b, 9, none⟩ (.int .i64 a)) b g vt ve fa M Of p S f m n { s with asks := a } ∧ Kept (ckO b g vt ve p Of) w (w.setCell ⟨b, 9, none⟩ (.int .i64 a)) := by
  have hz : w.heap.size ≤ (w.setCell ⟨b, 9, none⟩ (.int .i64 a)).heap.size := by simp [World.setCell]
  have ho : ∀ k, k ≠ b → (w.setCell ⟨b, 9, none⟩ (.int .i64 a)).heap[k]? = w.heap[k]? := fun k hk => Below.heap_setCell _ _ _ _ hk
  have hb := heap_setCell_same w b 9 _ _ (.int .i64 a) h.rf.box
  refine ⟨⟨h.bm.move hb ?_ hz (.inl rfl), h.bs, ⟨hb, rfl, ?_, h.rf.len, h.rf.fit, h.rf.lo, h.rf.hi, h.rf.mem⟩, h.ac.stay (fun k hk => ho k (fun e => h.a2 b (.inl rfl) (e ▸ hk))), h.hm, h.hn, h.a1, h.a2, h.a3⟩, ?_⟩
  · rintro k (rfl | h1 | h1)
    · exact ho k (fun e => h.bm.h1 e.symm)
    · exact ho k (fun e => h.bm.f1.1 (e ▸ h1))
    · exact ho k (fun e => h.bm.f2.1 (e ▸ h1))
  · rcases h.rf.row with h1 | ⟨q, rfl, h2, h3, h4⟩
    · exact .inl h1
    · exact .inr ⟨q, rfl, (ho q h3).trans h2, h3, h4⟩
  · exact ⟨rfl, rfl, rfl, hz, fun k _ hk => ho k (fun e => hk (.inl (.inl e)))⟩
end
end Go.Proofs.YtmmcjmejcngajaaGreatDoor
