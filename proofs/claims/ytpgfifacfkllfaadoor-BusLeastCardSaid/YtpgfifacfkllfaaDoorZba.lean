/- Conf: contracts of the code's Right, State, counts, Word; the table of words. Conf: contracts of the code's Sent, Heard, Failed, Missed, Idle. Bus, the code: what a bus is in memory; what is stored into it: a cell of its box, a node, the log, a row that waits. -/
import Derived.Test.YtpgfifacfkllfaaDoorZag
import Derived.Test.YtpgfifacfkllfaaDoorZai
import Derived.Test.YtpgfifacfkllfaaDoorZaz
namespace Go.Proofs.YtpgfifacfkllfaaDoor
open Go.RowKit
set_option linter.unusedVariables false

theorem Cf.do_back {c : Cf} {what : Int} (h : what ≠ 4) (a b : Int) : c.do_ what a = c.do_ what b := by
  unfold Cf.do_
  rw [if_neg h, if_neg h]

/-! ### the words -/
def wordCells : Array Value := #[.string (ByteArray.mk #[97, 99, 116, 105, 118, 101]), .string (ByteArray.mk #[119, 97, 114, 110, 101, 100]), .string (ByteArray.mk #[112, 97, 115, 115, 105, 118, 101]), .string (ByteArray.mk #[111, 102, 102])]
def TabC (w : World) : Prop := True
theorem TabC.below {w w' : World} (_h : TabC w) (_hb : Below w.heap.size w w') : TabC w' := trivial
theorem TabC.alloc {w : World} (h : TabC w) (o : Obj) : TabC (w.alloc o) := h.below ((Below.refl _ _).alloc (Nat.le_refl _) o)
theorem TabC.drewN {w : World} (h : TabC w) (n : Nat) : TabC (w.drewN n) := h
theorem TabC.setCell {w : World} (h : TabC w) {B : Nat} {w0 : World} (h0 : TabC w0) (hb : Below w0.heap.size w0 w) : TabC w := h0.below hb
def wordS (n : Int) : ByteArray := if n = 0 then ByteArray.mk #[97, 99, 116, 105, 118, 101] else if n = 1 then ByteArray.mk #[119, 97, 114, 110, 101, 100] else if n = 2 then ByteArray.mk #[112, 97, 115, 115, 105, 118, 101] else if n = 3 then ByteArray.mk #[111, 102, 102] else ByteArray.mk #[]
/-! ### Right, State, counts -/
set_option maxHeartbeats 4000000 in
theorem kcright_v {c : Cf} {q : Bool} (h : c.ok = q) (w : World) : Calls Tryd.prog 60 #[cfV c] w fun e w' => e = .returned (.bool q) ∧ Below w.heap.size w w' := by
  have H := Lib.hid h
  clear h
  obtain ⟨t, r, o, d⟩ := c
  cases o
  all_goals (
    go_enter Tryd.func60, Tryd.ntmps60
    go_wp2
    all_goals (
      go_ret
      refine ⟨fret_bool ?_, (Below.refl _ _).alloc (Nat.le_refl _) _⟩
      rw [← H.out, Bool.eq_iff_iff]
      unfold Cf.ok
      simp only [Bool.not_eq_true', Bool.not_eq_false', decide_eq_true_eq, decide_eq_false_iff_not] at *
      simp <;> omega))
set_option maxHeartbeats 4000000 in
theorem kcstate_v {c : Cf} {v : Int} (h : c.state = v) (w : World) : Calls Tryd.prog 52 #[cfV c] w fun e w' => e = .returned (.int .i64 v) ∧ Below w.heap.size w w' := by
  have H := Lib.hid h
  clear h
  obtain ⟨t, r, o, d⟩ := c
  obtain ⟨q, hq⟩ : ∃ q, Cf.ok ⟨t, r, o, d⟩ = q := ⟨_, rfl⟩
  have HQ := Lib.hid hq
  clear hq
  cases q
  · have HV : Hid (-1 = v) := Lib.hid (by rw [← H.out]; unfold Cf.state; rw [HQ.out]; rfl)
    go_enter Tryd.func52, Tryd.ntmps52
    go_wp2_with fail
    refine (kcright_v (c := ⟨t, r, o, d⟩) HQ.out _).mono ?_
    rintro e w1 ⟨rfl, hb1⟩
    go_wp2
    go_ret
    exact ⟨fret_int HV.out, fbelow_a _ hb1⟩
  · have HV : Hid ((if o = true then 3 else if 127 < t ∨ 127 < r then 2 else if 95 < t ∨ 95 < r then 1 else 0) = v) := Lib.hid (by rw [← H.out]; unfold Cf.state; rw [HQ.out]; rfl)
    clear H
    have HO : Hid (o = true → 255 < t) := Lib.hid ((Cf.ok_iff _).1 HQ.out).2.2.2.2.2.1
    cases o
    all_goals (
      go_enter Tryd.func52, Tryd.ntmps52
      go_wp2_with fail
      refine (kcright_v (c := ⟨t, r, _, d⟩) HQ.out _).mono ?_
      rintro e w1 ⟨rfl, hb1⟩
      have HB := Lib.hid (fbelow_a _ hb1)
      obtain ⟨hc, hf⟩ := fbcell hb1
      have hz : w.heap.size < w1.heap.size := by have := hb1.size; simp only [World.size_alloc] at this; omega
      clear hb1
      go_wp2
      all_goals (
        go_ret
        refine ⟨fret_int ?_, HB.out⟩
        have hv := HV.out
        have ho := HO.out
        rw [← hv]
        simp at ho ⊢
        try omega))
def Cf.counts (c : Cf) : Bool := c.ok && !c.o
theorem Cf.counts_state (c : Cf) : c.counts = (decide (0 ≤ c.state) && decide (c.state < 3)) := by
  unfold Cf.counts Cf.state
  cases c.ok <;> cases c.o <;> simp <;> (repeat' split) <;> omega
set_option maxHeartbeats 2000000 in
theorem kccounts_v {c : Cf} {q : Bool} (h : c.counts = q) (w : World) : Calls Tryd.prog 51 #[cfV c] w fun e w' => e = .returned (.bool q) ∧ Below w.heap.size w w' := by
  rw [Cf.counts_state] at h
  have H := Lib.hid h
  clear h
  obtain ⟨v, hv⟩ : ∃ v, c.state = v := ⟨_, rfl⟩
  rw [hv] at H
  have HV := Lib.hid hv
  clear hv
  obtain ⟨t, r, o, d⟩ := c
  go_enter Tryd.func51, Tryd.ntmps51
  go_wp2_with fail
  refine (kcstate_v (c := ⟨t, r, o, d⟩) HV.out _).mono ?_
  rintro e w1 ⟨rfl, hb⟩
  have HB := Lib.hid (fbelow_a _ hb)
  clear hb
  go_wp2
  all_goals (
    go_ret
    refine ⟨fret_bool ?_, HB.out⟩
    rw [← H.out]
    simp <;> omega)
end Go.Proofs.YtpgfifacfkllfaaDoor

namespace Go.Proofs.YtpgfifacfkllfaaDoor
open Go.RowKit
set_option linter.unusedVariables false

theorem Cf.counts_f {c : Cf} {what : Int} (h : c.counts = false) (hw : what ≠ 4) (back : Int) : c.do_ what back = c := by
  unfold Cf.counts at h
  unfold Cf.do_
  by_cases hk : c.ok = false
  · rw [if_pos hk]
  · have hk' : c.ok = true := by simpa using hk
    rw [hk'] at h
    have ho : c.o = true := by simpa using h
    rw [if_neg hk, if_pos ho, if_neg hw]
theorem Cf.counts_t {c : Cf} (h : c.counts = true) : c.ok = true ∧ c.o = false := by
  unfold Cf.counts at h
  simpa using h
set_option maxHeartbeats 4000000 in
theorem kcsent_v {c e : Cf} (h : c.do_ 0 0 = e) (w : World) : Calls Tryd.prog 40 #[cfV c] w fun x w' => x = .returned (cfV e) ∧ Below w.heap.size w w' := by
  obtain ⟨t, r, o, d⟩ := c
  obtain ⟨q, hq⟩ : ∃ q, Cf.counts ⟨t, r, o, d⟩ = q := ⟨_, rfl⟩
  have HQ := Lib.hid hq
  have HX := Lib.hid h
  clear h
  cases q
  · clear hq
    go_enter Tryd.func40, Tryd.ntmps40
    go_wp2_with fail
    refine (kccounts_v (c := ⟨t, r, o, d⟩) HQ.out _).mono ?_
    rintro e w1 ⟨rfl, hb⟩
    have HB := Lib.hid (BoxC.two w t r o d hb)
    clear hb
    obtain ⟨a0, a1, a2, a3⟩ := HB.out.1.cells
    obtain ⟨r0, r1, r2, r3⟩ := HB.out.2.1.cells
    obtain ⟨f0, f1, f2, f3⟩ := HB.out.1.live
    obtain ⟨g0, g1, g2, g3⟩ := HB.out.2.1.live
    have hz : w.heap.size < w1.heap.size := HB.out.1.lt
    have hy : w.heap.size + 1 < w1.heap.size := HB.out.2.1.lt
    go_wp2
    all_goals (
      refine bodyPost_ret (v := _) (by simp [results, Tryd.results40, go_sem, r0, r1, r2, r3]; exact ⟨rfl, rfl, rfl, rfl⟩) rfl ⟨cfV_eq ?_, ?_⟩
      · have hx := HX.out
        rw [← hx]
        rw [Cf.counts_f HQ.out (by decide)]
        try rfl
        try first
        | omega
        | (intros; omega)
        | (split <;> simp <;> omega)
        | (split <;> omega)
        | (refine ⟨?_, ?_⟩ <;> intros <;> omega)
      · exact cf_done (by first | exact HB.out.2.2 | exact HB.out.2.2.setCell (p := ⟨w.heap.size, _, none⟩) (Nat.le_refl _) _ | exact (HB.out.2.2.setCell (p := ⟨w.heap.size, _, none⟩) (Nat.le_refl _) _).setCell (p := ⟨w.heap.size, _, none⟩) (Nat.le_refl _) _) _ _ _ _)
  · obtain ⟨hk, ho⟩ := Cf.counts_t hq
    simp only at ho
    subst ho
    have HK := Lib.hid hk
    obtain ⟨t0, t1, q0, q1, d0, _, z1⟩ := (Cf.ok_iff _).1 hk
    simp only at t0 t1 q0 q1 d0 z1
    clear hq
    have z2 := ((Cf.ok_iff _).1 hk).2.2.2.2.2.2 rfl |>.1
    simp only at z2
    clear z1
    go_enter Tryd.func40, Tryd.ntmps40
    go_wp2_with fail
    refine (kccounts_v (c := ⟨t, r, false, d⟩) HQ.out _).mono ?_
    rintro e w1 ⟨rfl, hb⟩
    have HB := Lib.hid (BoxC.two w t r false d hb)
    clear hb
    obtain ⟨a0, a1, a2, a3⟩ := HB.out.1.cells
    obtain ⟨r0, r1, r2, r3⟩ := HB.out.2.1.cells
    obtain ⟨f0, f1, f2, f3⟩ := HB.out.1.live
    obtain ⟨g0, g1, g2, g3⟩ := HB.out.2.1.live
    have hz : w.heap.size < w1.heap.size := HB.out.1.lt
    have hy : w.heap.size + 1 < w1.heap.size := HB.out.2.1.lt
    go_wp2
    all_goals (
      refine bodyPost_ret (v := _) (by simp [results, Tryd.results40, go_sem, r0, r1, r2, r3]; exact ⟨rfl, rfl, rfl, rfl⟩) rfl ⟨cfV_eq ?_, ?_⟩
      · have hx := HX.out
        rw [← hx]
        rw [Cf.do_on HK.out rfl, if_pos rfl]
        simp [Cf.sent]
        try first
        | omega
        | (intros; omega)
        | (split <;> simp <;> omega)
        | (split <;> omega)
        | (refine ⟨?_, ?_⟩ <;> intros <;> omega)
      · exact cf_done (by first | exact HB.out.2.2 | exact HB.out.2.2.setCell (p := ⟨w.heap.size, _, none⟩) (Nat.le_refl _) _ | exact (HB.out.2.2.setCell (p := ⟨w.heap.size, _, none⟩) (Nat.le_refl _) _).setCell (p := ⟨w.heap.size, _, none⟩) (Nat.le_refl _) _) _ _ _ _)
set_option maxHeartbeats 4000000 in
theorem kcheard_v {c e : Cf} (h : c.do_ 1 0 = e) (w : World) : Calls Tryd.prog 41 #[cfV c] w fun x w' => x = .returned (cfV e) ∧ Below w.heap.size w w' := by
  obtain ⟨t, r, o, d⟩ := c
  obtain ⟨q, hq⟩ : ∃ q, Cf.counts ⟨t, r, o, d⟩ = q := ⟨_, rfl⟩
  have HQ := Lib.hid hq
  have HX := Lib.hid h
  clear h
  cases q
  · clear hq
    go_enter Tryd.func41, Tryd.ntmps41
    go_wp2_with fail
    refine (kccounts_v (c := ⟨t, r, o, d⟩) HQ.out _).mono ?_
    rintro e w1 ⟨rfl, hb⟩
    have HB := Lib.hid (BoxC.two w t r o d hb)
    clear hb
    obtain ⟨a0, a1, a2, a3⟩ := HB.out.1.cells
    obtain ⟨r0, r1, r2, r3⟩ := HB.out.2.1.cells
    obtain ⟨f0, f1, f2, f3⟩ := HB.out.1.live
    obtain ⟨g0, g1, g2, g3⟩ := HB.out.2.1.live
    have hz : w.heap.size < w1.heap.size := HB.out.1.lt
    have hy : w.heap.size + 1 < w1.heap.size := HB.out.2.1.lt
    go_wp2
    all_goals (
      refine bodyPost_ret (v := _) (by simp [results, Tryd.results41, go_sem, r0, r1, r2, r3]; exact ⟨rfl, rfl, rfl, rfl⟩) rfl ⟨cfV_eq ?_, ?_⟩
      · have hx := HX.out
        rw [← hx]
        rw [Cf.counts_f HQ.out (by decide)]
        try rfl
        try first
        | omega
        | (intros; omega)
        | (split <;> simp <;> omega)
        | (split <;> omega)
        | (refine ⟨?_, ?_⟩ <;> intros <;> omega)
      · exact cf_done (by first | exact HB.out.2.2 | exact HB.out.2.2.setCell (p := ⟨w.heap.size, _, none⟩) (Nat.le_refl _) _ | exact (HB.out.2.2.setCell (p := ⟨w.heap.size, _, none⟩) (Nat.le_refl _) _).setCell (p := ⟨w.heap.size, _, none⟩) (Nat.le_refl _) _) _ _ _ _)
  · obtain ⟨hk, ho⟩ := Cf.counts_t hq
    simp only at ho
    subst ho
    have HK := Lib.hid hk
    obtain ⟨t0, t1, q0, q1, d0, _, z1⟩ := (Cf.ok_iff _).1 hk
    simp only at t0 t1 q0 q1 d0 z1
    clear hq
    have z2 := ((Cf.ok_iff _).1 hk).2.2.2.2.2.2 rfl |>.1
    simp only at z2
    clear z1
    go_enter Tryd.func41, Tryd.ntmps41
    go_wp2_with fail
    refine (kccounts_v (c := ⟨t, r, false, d⟩) HQ.out _).mono ?_
    rintro e w1 ⟨rfl, hb⟩
    have HB := Lib.hid (BoxC.two w t r false d hb)
    clear hb
    obtain ⟨a0, a1, a2, a3⟩ := HB.out.1.cells
    obtain ⟨r0, r1, r2, r3⟩ := HB.out.2.1.cells
    obtain ⟨f0, f1, f2, f3⟩ := HB.out.1.live
    obtain ⟨g0, g1, g2, g3⟩ := HB.out.2.1.live
    have hz : w.heap.size < w1.heap.size := HB.out.1.lt
    have hy : w.heap.size + 1 < w1.heap.size := HB.out.2.1.lt
    go_wp2
    all_goals (
      refine bodyPost_ret (v := _) (by simp [results, Tryd.results41, go_sem, r0, r1, r2, r3]; exact ⟨rfl, rfl, rfl, rfl⟩) rfl ⟨cfV_eq ?_, ?_⟩
      · have hx := HX.out
        rw [← hx]
        rw [Cf.do_on HK.out rfl, if_neg (by decide), if_pos rfl]
        simp [Cf.heard]
        try first
        | omega
        | (intros; omega)
        | (split <;> simp <;> omega)
        | (split <;> omega)
        | (refine ⟨?_, ?_⟩ <;> intros <;> omega)
      · exact cf_done (by first | exact HB.out.2.2 | exact HB.out.2.2.setCell (p := ⟨w.heap.size, _, none⟩) (Nat.le_refl _) _ | exact (HB.out.2.2.setCell (p := ⟨w.heap.size, _, none⟩) (Nat.le_refl _) _).setCell (p := ⟨w.heap.size, _, none⟩) (Nat.le_refl _) _) _ _ _ _)
set_option maxHeartbeats 4000000 in
theorem kcfailed_v {c e : Cf} (h : c.do_ 2 0 = e) (w : World) : Calls Tryd.prog 38 #[cfV c] w fun x w' => x = .returned (cfV e) ∧ Below w.heap.size w w' := by
  obtain ⟨t, r, o, d⟩ := c
  obtain ⟨q, hq⟩ : ∃ q, Cf.counts ⟨t, r, o, d⟩ = q := ⟨_, rfl⟩
  have HQ := Lib.hid hq
  have HX := Lib.hid h
  clear h
  cases q
  · clear hq
    go_enter Tryd.func38, Tryd.ntmps38
    go_wp2_with fail
    refine (kccounts_v (c := ⟨t, r, o, d⟩) HQ.out _).mono ?_
    rintro e w1 ⟨rfl, hb⟩
    have HB := Lib.hid (BoxC.two w t r o d hb)
    clear hb
    obtain ⟨a0, a1, a2, a3⟩ := HB.out.1.cells
    obtain ⟨r0, r1, r2, r3⟩ := HB.out.2.1.cells
    obtain ⟨f0, f1, f2, f3⟩ := HB.out.1.live
    obtain ⟨g0, g1, g2, g3⟩ := HB.out.2.1.live
    have hz : w.heap.size < w1.heap.size := HB.out.1.lt
    have hy : w.heap.size + 1 < w1.heap.size := HB.out.2.1.lt
    go_wp2
    all_goals (
      refine bodyPost_ret (v := _) (by simp [results, Tryd.results38, go_sem, r0, r1, r2, r3]; exact ⟨rfl, rfl, rfl, rfl⟩) rfl ⟨cfV_eq ?_, ?_⟩
      · have hx := HX.out
        rw [← hx]
        rw [Cf.counts_f HQ.out (by decide)]
        try rfl
        try first
        | omega
        | (intros; omega)
        | (split <;> simp <;> omega)
        | (split <;> omega)
        | (refine ⟨?_, ?_⟩ <;> intros <;> omega)
      · exact cf_done (by first | exact HB.out.2.2 | exact HB.out.2.2.setCell (p := ⟨w.heap.size, _, none⟩) (Nat.le_refl _) _ | exact (HB.out.2.2.setCell (p := ⟨w.heap.size, _, none⟩) (Nat.le_refl _) _).setCell (p := ⟨w.heap.size, _, none⟩) (Nat.le_refl _) _) _ _ _ _)
  · obtain ⟨hk, ho⟩ := Cf.counts_t hq
    simp only at ho
    subst ho
    have HK := Lib.hid hk
    obtain ⟨t0, t1, q0, q1, d0, _, z1⟩ := (Cf.ok_iff _).1 hk
    simp only at t0 t1 q0 q1 d0 z1
    clear hq
    have z2 := ((Cf.ok_iff _).1 hk).2.2.2.2.2.2 rfl |>.1
    simp only at z2
    clear z1
    go_enter Tryd.func38, Tryd.ntmps38
    go_wp2_with fail
    refine (kccounts_v (c := ⟨t, r, false, d⟩) HQ.out _).mono ?_
    rintro e w1 ⟨rfl, hb⟩
    have HB := Lib.hid (BoxC.two w t r false d hb)
    clear hb
    obtain ⟨a0, a1, a2, a3⟩ := HB.out.1.cells
    obtain ⟨r0, r1, r2, r3⟩ := HB.out.2.1.cells
    obtain ⟨f0, f1, f2, f3⟩ := HB.out.1.live
    obtain ⟨g0, g1, g2, g3⟩ := HB.out.2.1.live
    have hz : w.heap.size < w1.heap.size := HB.out.1.lt
    have hy : w.heap.size + 1 < w1.heap.size := HB.out.2.1.lt
    go_wp2
    all_goals (
      refine bodyPost_ret (v := _) (by simp [results, Tryd.results38, go_sem, r0, r1, r2, r3]; exact ⟨rfl, rfl, rfl, rfl⟩) rfl ⟨cfV_eq ?_, ?_⟩
      · have hx := HX.out
        rw [← hx]
        rw [Cf.do_on HK.out rfl, if_neg (by decide), if_neg (by decide), if_pos rfl]
        simp [Cf.failed]
        try first
        | omega
        | (intros; omega)
        | (split <;> simp <;> omega)
        | (split <;> omega)
        | (refine ⟨?_, ?_⟩ <;> intros <;> omega)
      · exact cf_done (by first | exact HB.out.2.2 | exact HB.out.2.2.setCell (p := ⟨w.heap.size, _, none⟩) (Nat.le_refl _) _ | exact (HB.out.2.2.setCell (p := ⟨w.heap.size, _, none⟩) (Nat.le_refl _) _).setCell (p := ⟨w.heap.size, _, none⟩) (Nat.le_refl _) _) _ _ _ _)
set_option maxHeartbeats 4000000 in
theorem kcmissed_v {c e : Cf} (h : c.do_ 3 0 = e) (w : World) : Calls Tryd.prog 39 #[cfV c] w fun x w' => x = .returned (cfV e) ∧ Below w.heap.size w w' := by
  obtain ⟨t, r, o, d⟩ := c
  obtain ⟨q, hq⟩ : ∃ q, Cf.counts ⟨t, r, o, d⟩ = q := ⟨_, rfl⟩
  have HQ := Lib.hid hq
  have HX := Lib.hid h
  clear h
  cases q
  · clear hq
    go_enter Tryd.func39, Tryd.ntmps39
    go_wp2_with fail
    refine (kccounts_v (c := ⟨t, r, o, d⟩) HQ.out _).mono ?_
    rintro e w1 ⟨rfl, hb⟩
    have HB := Lib.hid (BoxC.two w t r o d hb)
    clear hb
    obtain ⟨a0, a1, a2, a3⟩ := HB.out.1.cells
    obtain ⟨r0, r1, r2, r3⟩ := HB.out.2.1.cells
    obtain ⟨f0, f1, f2, f3⟩ := HB.out.1.live
    obtain ⟨g0, g1, g2, g3⟩ := HB.out.2.1.live
    have hz : w.heap.size < w1.heap.size := HB.out.1.lt
    have hy : w.heap.size + 1 < w1.heap.size := HB.out.2.1.lt
    go_wp2
    all_goals (
      refine bodyPost_ret (v := _) (by simp [results, Tryd.results39, go_sem, r0, r1, r2, r3]; exact ⟨rfl, rfl, rfl, rfl⟩) rfl ⟨cfV_eq ?_, ?_⟩
      · have hx := HX.out
        rw [← hx]
        rw [Cf.counts_f HQ.out (by decide)]
        try rfl
        try first
        | omega
        | (intros; omega)
        | (split <;> simp <;> omega)
        | (split <;> omega)
        | (refine ⟨?_, ?_⟩ <;> intros <;> omega)
      · exact cf_done (by first | exact HB.out.2.2 | exact HB.out.2.2.setCell (p := ⟨w.heap.size, _, none⟩) (Nat.le_refl _) _ | exact (HB.out.2.2.setCell (p := ⟨w.heap.size, _, none⟩) (Nat.le_refl _) _).setCell (p := ⟨w.heap.size, _, none⟩) (Nat.le_refl _) _) _ _ _ _)
  · obtain ⟨hk, ho⟩ := Cf.counts_t hq
    simp only at ho
    subst ho
    have HK := Lib.hid hk
    obtain ⟨t0, t1, q0, q1, d0, _, z1⟩ := (Cf.ok_iff _).1 hk
    simp only at t0 t1 q0 q1 d0 z1
    clear hq
    have z2 := ((Cf.ok_iff _).1 hk).2.2.2.2.2.2 rfl |>.1
    simp only at z2
    clear z1
    obtain ⟨v, hv⟩ : ∃ v, Cf.state ⟨t, r, false, d⟩ = v := ⟨_, rfl⟩
    have HV := Lib.hid hv
    clear hv hk
    go_enter Tryd.func39, Tryd.ntmps39
    go_wp2_with fail
    refine (kccounts_v (c := ⟨t, r, false, d⟩) HQ.out _).mono ?_
    rintro e w1 ⟨rfl, hb⟩
    have HB := Lib.hid (BoxC.two w t r false d hb)
    clear hb
    obtain ⟨a0, a1, a2, a3⟩ := HB.out.1.cells
    obtain ⟨r0, r1, r2, r3⟩ := HB.out.2.1.cells
    obtain ⟨f0, f1, f2, f3⟩ := HB.out.1.live
    obtain ⟨g0, g1, g2, g3⟩ := HB.out.2.1.live
    have hz : w.heap.size < w1.heap.size := HB.out.1.lt
    have hy : w.heap.size + 1 < w1.heap.size := HB.out.2.1.lt
    go_wp2_with fail
    refine (kcstate_v (c := ⟨t, r, false, d⟩) HV.out _).mono ?_
    rintro e w2 ⟨rfl, hb⟩
    have HB2 : Hid (BoxC w2 w.heap.size t r false d ∧ BoxC w2 (w.heap.size + 1) 0 0 false 0 ∧ Below w.heap.size w w2) := Lib.hid ⟨HB.out.1.later hb, HB.out.2.1.later hb, fbelow_t HB.out.2.2 hb⟩
    clear hb a0 a1 a2 a3 r0 r1 r2 r3 f0 f1 f2 f3 g0 g1 g2 g3 hz hy
    obtain ⟨a0, a1, a2, a3⟩ := HB2.out.1.cells
    obtain ⟨r0, r1, r2, r3⟩ := HB2.out.2.1.cells
    obtain ⟨f0, f1, f2, f3⟩ := HB2.out.1.live
    obtain ⟨g0, g1, g2, g3⟩ := HB2.out.2.1.live
    have hz : w.heap.size < w2.heap.size := HB2.out.1.lt
    have hy : w.heap.size + 1 < w2.heap.size := HB2.out.2.1.lt
    by_cases hv2 : v = 2
    · subst hv2
      go_wp2
      all_goals (
        refine bodyPost_ret (v := _) (by simp [results, Tryd.results39, go_sem, r0, r1, r2, r3]; exact ⟨rfl, rfl, rfl, rfl⟩) rfl ⟨cfV_eq ?_, ?_⟩
        · have hx := HX.out
          rw [← hx]
          rw [Cf.do_on HK.out rfl, if_neg (by decide), if_neg (by decide), if_neg (by decide), if_pos rfl]
          simp [HV.out, Cf.missed]
          try first
          | omega
          | (intros; omega)
          | (split <;> simp <;> omega)
          | (split <;> omega)
          | (refine ⟨?_, ?_⟩ <;> intros <;> omega)
        · exact cf_done (by first | exact HB2.out.2.2 | exact HB2.out.2.2.setCell (p := ⟨w.heap.size, _, none⟩) (Nat.le_refl _) _ | exact (HB2.out.2.2.setCell (p := ⟨w.heap.size, _, none⟩) (Nat.le_refl _) _).setCell (p := ⟨w.heap.size, _, none⟩) (Nat.le_refl _) _) _ _ _ _)
    · go_wp2
      all_goals (
        refine bodyPost_ret (v := _) (by simp [results, Tryd.results39, go_sem, r0, r1, r2, r3]; exact ⟨rfl, rfl, rfl, rfl⟩) rfl ⟨cfV_eq ?_, ?_⟩
        · have hx := HX.out
          rw [← hx]
          rw [Cf.do_on HK.out rfl, if_neg (by decide), if_neg (by decide), if_neg (by decide), if_pos rfl]
          simp [HV.out, hv2, Cf.missed]
          try first
          | omega
          | (intros; omega)
          | (split <;> simp <;> omega)
          | (split <;> omega)
          | (refine ⟨?_, ?_⟩ <;> intros <;> omega)
        · exact cf_done (by first | exact HB2.out.2.2 | exact HB2.out.2.2.setCell (p := ⟨w.heap.size, _, none⟩) (Nat.le_refl _) _ | exact (HB2.out.2.2.setCell (p := ⟨w.heap.size, _, none⟩) (Nat.le_refl _) _).setCell (p := ⟨w.heap.size, _, none⟩) (Nat.le_refl _) _) _ _ _ _)
set_option maxHeartbeats 4000000 in
theorem kcidle_v {c e : Cf} {back : Int} (h : c.do_ 4 back = e) (hk : c.ok = true) (hb1 : -9223372036854775808 ≤ back) (hb2 : back ≤ 9223372036854775807) (w : World) : Calls Tryd.prog 50 #[cfV c, .int .i64 back] w fun x w' => x = .returned (cfV e) ∧ Below w.heap.size w w' := by
  obtain ⟨t, r, o, d⟩ := c
  have HX := Lib.hid h
  have HK := Lib.hid hk
  obtain ⟨t0, t1, q0, q1, d0, _, z1⟩ := (Cf.ok_iff _).1 hk
  simp only at t0 t1 q0 q1 d0 z1
  clear h hk
  by_cases hbk : back < 1
  all_goals (cases o)
  all_goals (
    clear z1
    go_enter Tryd.func50, Tryd.ntmps50
    go_wp2
    all_goals (
      refine bodyPost_ret (v := _) (by simp [results, Tryd.results50, go_sem]; exact ⟨rfl, rfl, rfl, rfl⟩) rfl ⟨cfV_eq ?_, ?_⟩
      · have hx := HX.out
        rw [← hx]
        first
        | rw [Cf.do_on HK.out rfl, if_neg (by decide), if_neg (by decide), if_neg (by decide), if_neg (by decide)]
        | (rw [Cf.do_off HK.out rfl, if_pos rfl]
           simp [Cf.idle, hbk]
           try first
           | omega
           | (intros; omega))
      · exact ((Below.refl _ _).alloc (Nat.le_refl _) _).alloc (by rw [World.size_alloc]; omega) _))
end Go.Proofs.YtpgfifacfkllfaaDoor

namespace Go.Proofs.YtpgfifacfkllfaaDoor
open Go.RowKit
open Go.Maps (Keyed)
set_option linter.unusedVariables false

theorem lawI : Keyed Tryd.prog 3 := Maps.int_keyed Tryd.underlying3
theorem keyI {i : Int} (h : -9223372036854775808 ≤ i ∧ i ≤ 9223372036854775807) : keyOf Tryd.prog 3 (.int .i64 i) = some (.int .i64 i) :=
  Maps.keyOf_int_mk Tryd.underlying3 (by simp [Lit.wf, IntKind.min, IntKind.max, IntKind.signed, IntKind.bits]; omega)
theorem zeroFs (w : World) : (zeroValue 39).run Tryd.prog w = .ok (.slice none 0 0) w := by kernel_rfl
abbrev nilS : Value := .slice none 0 0
/-- a bus -/
structure BkM (w : World) (b gn gm : Nat) (D : DataW Value) (ws : List Value) (vl : Value) (s : Bs) : Prop where
  box : w.heap[b]? = some (.cells #[.slice (some ⟨gn, 0, none⟩) s.N.length s.N.length, .int .i64 s.back, .bool s.fx, .map (some gm), vl, .int .i64 s.sl] 60 (0, 0))
  nodes : w.heap[gn]? = some (.cells (rowG cfC s.N).toArray 42 (0, 0))
  map : MapH Tryd.prog 3 w gm D
  size : SzM D
  here : ∀ (i : Nat) (u : Value), ws[i]? = some u → AtM nilS D i u
  len : ws.length = s.N.length
  lenW : s.W.length = s.N.length
  row : ∀ (i : Nat) (u : Value) (L : List Fr), ws[i]? = some u → s.W[i]? = some L → RowQ frC 4 w u L
  log : RowQ lgC 6 w vl s.log
  h1 : b ≠ gn
  h2 : b ≠ gm
  h3 : gn ≠ gm
  f1 : ∀ (i : Nat) (u : Value), ws[i]? = some u → ¬ OwnO u b ∧ ¬ OwnO u gn ∧ ¬ OwnO u gm ∧ Apart (OwnO u) (OwnO vl)
  f2 : ∀ (i j : Nat) (u u' : Value), ws[i]? = some u → ws[j]? = some u' → i ≠ j → Apart (OwnO u) (OwnO u')
  f3 : ¬ OwnO vl b ∧ ¬ OwnO vl gn ∧ ¬ OwnO vl gm
/-- what it owns (its map's block in the place of the document's row of rows) -/
def BkD (w : World) (v : Value) (s : Bs) (O : Nat → Prop) : Prop := ∃ b gn gm D ws vl, v = .pointer (some ⟨b, 0, none⟩) ∧ O = busO b gn gm ws vl ∧ BkM w b gn gm D ws vl s
section
variable {w w' : World} {b gn gm : Nat} {D : DataW Value} {ws : List Value} {vl : Value} {s : Bs}
theorem BkM.lt (h : BkM w b gn gm D ws vl s) : ∀ k, busO b gn gm ws vl k → k < w.heap.size := by
  rintro k (rfl | rfl | rfl | ⟨i, u, hu, hk⟩ | hk)
  · exact heap_some_lt h.box
  · exact heap_some_lt h.nodes
  · exact h.map.lt
  · have hi : i < ws.length := by
      rcases Nat.lt_or_ge i ws.length with h1 | h1
      · exact h1
      · rw [List.getElem?_eq_none h1] at hu; cases hu
    exact (h.row i u _ hu (List.getElem?_eq_getElem (by rw [h.lenW, ← h.len]; exact hi))).lt k hk
  · exact h.log.lt k hk
theorem BkM.stay (h : BkM w b gn gm D ws vl s) (hs : ∀ k, busO b gn gm ws vl k → w'.heap[k]? = w.heap[k]?) : BkM w' b gn gm D ws vl s := by
  have key : ∀ k, busO b gn gm ws vl k → k < w'.heap.size := fun k hk => by
    have h1 := h.lt k hk
    have h2 := hs k hk
    rcases Nat.lt_or_ge k w'.heap.size with h3 | h3
    · exact h3
    · rw [Array.getElem?_eq_none h3, Array.getElem?_eq_getElem h1] at h2; cases h2
  exact ⟨(hs b (.inl rfl)).trans h.box, (hs gn (.inr (.inl rfl))).trans h.nodes, h.map.stay (hs gm (.inr (.inr (.inl rfl)))), h.size, h.here, h.len, h.lenW,
    fun i u L hu hL => (h.row i u L hu hL).stayL (fun g hg => hs g (.inr (.inr (.inr (.inl ⟨i, u, hu, hg⟩))))) (fun g hg => key g (.inr (.inr (.inr (.inl ⟨i, u, hu, hg⟩))))),
    h.log.stayL (fun g hg => hs g (.inr (.inr (.inr (.inr hg))))) (fun g hg => key g (.inr (.inr (.inr (.inr hg))))), h.h1, h.h2, h.h3, h.f1, h.f2, h.f3⟩
theorem BkM.later (h : BkM w b gn gm D ws vl s) (hb : Below w.heap.size w w') : BkM w' b gn gm D ws vl s := h.stay (fun k hk => hb.block k (h.lt k hk))
theorem BkM.cells (h : BkM w b gn gm D ws vl s) :
    w.cell? ⟨b, 0, none⟩ = some (.slice (some ⟨gn, 0, none⟩) s.N.length s.N.length) ∧ w.cell? ⟨b, 1, none⟩ = some (.int .i64 s.back) ∧ w.cell? ⟨b, 2, none⟩ = some (.bool s.fx) ∧
    w.cell? ⟨b, 3, none⟩ = some (.map (some gm)) ∧ w.cell? ⟨b, 4, none⟩ = some vl ∧ w.cell? ⟨b, 5, none⟩ = some (.int .i64 s.sl) := by
  have hb := h.box
  refine ⟨?_, ?_, ?_, ?_, ?_, ?_⟩ <;> (rw [Lib.cell_of_heap hb]; rfl)
theorem BkM.live (h : BkM w b gn gm D ws vl s) : ∀ j, w.frozen? ⟨b, j, none⟩ = false := fun j => Lib.frozen_of_heap h.box j
theorem BkM.node (h : BkM w b gn gm D ws vl s) {i : Nat} (hi : i < s.N.length) :
    w.cell? ⟨gn, i * 4, none⟩ = some (.int .i64 (s.N[i]).t) ∧ w.cell? ⟨gn, i * 4 + 1, none⟩ = some (.int .i64 (s.N[i]).r) ∧ w.cell? ⟨gn, i * 4 + 2, none⟩ = some (.bool (s.N[i]).o) ∧ w.cell? ⟨gn, i * 4 + 3, none⟩ = some (.int .i64 (s.N[i]).d) := by
  have key : ∀ j u, (cfC (s.N[i]))[j]? = some u → w.cell? ⟨gn, i * 4 + j, none⟩ = some u := fun j u hu => by
    rw [Lib.cell_of_heap h.nodes]
    simpa using rowG_get cfC_len s.N i _ (List.getElem?_eq_getElem hi) j u hu
  exact ⟨key 0 _ rfl, key 1 _ rfl, key 2 _ rfl, key 3 _ rfl⟩
theorem BkM.nlive (h : BkM w b gn gm D ws vl s) : ∀ j, w.frozen? ⟨gn, j, none⟩ = false := fun j => Lib.frozen_of_heap h.nodes j
theorem BkM.look (h : BkM w b gn gm D ws vl s) {i : Nat} {u : Value} (hu : ws[i]? = some u) (hi : i < 1000) : (Instr.lookup 58 (.map (some gm)) (.int .i64 i) false).run Tryd.prog w = .ok u w :=
  h.map.look lawI Tryd.underlying58 (zeroFs w) (keyI (by omega)) (h.here i u hu)
/-- a cell of the box is stored -/
theorem BkM.setBox {s' : Bs} (h : BkM w b gn gm D ws vl s) (j : Nat) (u : Value)
    (hc : (#[Value.slice (some ⟨gn, 0, none⟩) s.N.length s.N.length, .int .i64 s.back, .bool s.fx, .map (some gm), vl, .int .i64 s.sl] : Array Value).setIfInBounds j u = #[.slice (some ⟨gn, 0, none⟩) s'.N.length s'.N.length, .int .i64 s'.back, .bool s'.fx, .map (some gm), vl, .int .i64 s'.sl])
    (hN : s'.N = s.N) (hW : s'.W = s.W) (hl : s'.log = s.log) : BkM (w.setCell ⟨b, j, none⟩ u) b gn gm D ws vl s' := by
  have hz : w.heap.size ≤ (w.setCell ⟨b, j, none⟩ u).heap.size := by simp [World.setCell]
  have ho : ∀ k, k ≠ b → (w.setCell ⟨b, j, none⟩ u).heap[k]? = w.heap[k]? := fun k hk => Below.heap_setCell _ _ _ _ hk
  refine ⟨?_, ?_, ?_, h.size, h.here, by rw [hN]; exact h.len, by rw [hW, hN]; exact h.lenW, fun i u L hu hL => ?_, ?_, h.h1, h.h2, h.h3, h.f1, h.f2, h.f3⟩
  · rw [heap_setCell_same w b j _ _ _ h.box, ← hc]
  · rw [hN, ho _ (fun e => h.h1 e.symm)]; exact h.nodes
  · exact h.map.stay (ho _ (fun e => h.h2 e.symm))
  · rw [hW] at hL
    exact (h.row i u L hu hL).stay (fun g hg => ho g (fun e => (h.f1 i u hu).1 (e ▸ hg))) hz
  · rw [hl]
    exact h.log.stay (fun g hg => ho g (fun e => h.f3.1 (e ▸ hg))) hz
theorem setBox_kept {j : Nat} {u : Value} : Kept (busO b gn gm ws vl) w (w.setCell ⟨b, j, none⟩ u) := ⟨rfl, rfl, rfl, by simp [World.setCell], fun k _ hk => Below.heap_setCell _ _ _ _ (fun e => hk (.inl e))⟩
/-- a node is stored -/
theorem BkM.setNode (h : BkM w b gn gm D ws vl s) {i : Nat} (hi : i < s.N.length) (c : Cf) : BkM (putN w gn i c) b gn gm D ws vl { s with N := s.N.set i c } := by
  have hz : w.heap.size ≤ (putN w gn i c).heap.size := by rw [putN_size]; exact Nat.le_refl _
  refine ⟨?_, ?_, ?_, h.size, h.here, by simpa using h.len, by simpa using h.lenW, fun j x L hx hL => ?_, ?_, h.h1, h.h2, h.h3, h.f1, h.f2, h.f3⟩
  · rw [putN_other h.h1, h.box]; simp
  · have hn := h.nodes
    have a0 := heap_setCell_same w gn (i * 4) _ _ (.int .i64 c.t) hn
    have a1 := heap_setCell_same _ gn (i * 4 + 1) _ _ (.int .i64 c.r) a0
    have a2 := heap_setCell_same _ gn (i * 4 + 2) _ _ (.bool c.o) a1
    have a3 := heap_setCell_same _ gn (i * 4 + 3) _ _ (.int .i64 c.d) a2
    unfold putN
    rw [a3]
    simp only [List.setIfInBounds_toArray]
    rw [rowG_setC c s.N i hi]
  · exact h.map.stay (putN_other (fun e => h.h3 e.symm))
  · exact (h.row j x L hx hL).stay (fun g hg => putN_other (fun e => (h.f1 j x hx).2.1 (e ▸ hg))) hz
  · exact h.log.stay (fun g hg => putN_other (fun e => h.f3.2.1 (e ▸ hg))) hz
/-- the log is another one now -/
theorem BkM.setLog {v' : Value} (h : BkM w b gn gm D ws vl s) {L' : List Lg} (hq : RowQ lgC 6 w' v' L') (hk : Kept (OwnO vl) w w') (hg : Grows (OwnO vl) w (OwnO v')) :
    BkM (w'.setCell ⟨b, 4, none⟩ v') b gn gm D ws v' { s with log := L' } ∧ Kept (busO b gn gm ws vl) w (w'.setCell ⟨b, 4, none⟩ v') ∧ Grows (busO b gn gm ws vl) w (busO b gn gm ws v') := by
  have hz : w'.heap.size ≤ (w'.setCell ⟨b, 4, none⟩ v').heap.size := by simp [World.setCell]
  have ho : ∀ k, k ≠ b → (w'.setCell ⟨b, 4, none⟩ v').heap[k]? = w'.heap[k]? := fun k hk => Below.heap_setCell _ _ _ _ hk
  have hlt := h.lt
  obtain ⟨u1, u2, u3⟩ := h.f3
  have nv : ∀ k, k < w.heap.size → ¬ OwnO vl k → ¬ OwnO v' k := fun k h1 h2 h3 => by rcases hg k h3 with h4 | h4; exact h2 h4; omega
  have lb := hlt b (.inl rfl)
  have ln := hlt gn (.inr (.inl rfl))
  have lw := hlt gm (.inr (.inr (.inl rfl)))
  have hb' : w'.heap[b]? = _ := (hk.block b lb u1).trans h.box
  refine ⟨⟨?_, ?_, ?_, h.size, h.here, h.len, h.lenW, fun j x L hx hL => ?_, ?_, h.h1, h.h2, h.h3, fun j x hx => ?_, h.f2, ⟨nv b lb u1, nv gn ln u2, nv gm lw u3⟩⟩, ?_, ?_⟩
  · rw [heap_setCell_same w' b 4 _ _ _ hb']; rfl
  · rw [ho gn (fun e => h.h1 e.symm), hk.block gn ln u2]; exact h.nodes
  · exact h.map.stay ((ho gm (fun e => h.h2 e.symm)).trans (hk.block gm lw u3))
  · have h5 := h.row j x L hx hL
    exact (h5.stay (fun g hg' => hk.block g (h5.lt g hg') (fun h6 => (h.f1 j x hx).2.2.2 g hg' h6)) hk.size).stay (fun g hg' => ho g (fun e => (h.f1 j x hx).1 (e ▸ hg'))) hz
  · exact hq.stay (fun g hg' => ho g (fun e => nv b lb u1 (e ▸ hg'))) hz
  · obtain ⟨x1, x2, x3, x4⟩ := h.f1 j x hx
    have hj : j < ws.length := by
      rcases Nat.lt_or_ge j ws.length with h1 | h1
      · exact h1
      · rw [List.getElem?_eq_none h1] at hx; cases hx
    have h5 := h.row j x _ hx (List.getElem?_eq_getElem (by rw [h.lenW, ← h.len]; exact hj))
    exact ⟨x1, x2, x3, fun k h1 h2 => nv k (h5.lt k h1) (fun h3 => x4 k h1 h3) h2⟩
  · refine ⟨hk.os, hk.tape, hk.output, Nat.le_trans hk.size hz, fun k h1 h2 => ?_⟩
    rw [ho k (fun e => h2 (.inl e))]
    exact hk.block k h1 (fun h3 => h2 (.inr (.inr (.inr (.inr h3)))))
  · rintro k (h1 | h1 | h1 | h1 | h1)
    · exact .inl (.inl h1)
    · exact .inl (.inr (.inl h1))
    · exact .inl (.inr (.inr (.inl h1)))
    · exact .inl (.inr (.inr (.inr (.inl h1))))
    · rcases hg k h1 with h2 | h2
      · exact .inl (.inr (.inr (.inr (.inr h2))))
      · exact .inr h2
/-- a row that waits is another one now -/
theorem BkM.setWait {w2 : World} {D' : DataW Value} (h : BkM w b gn gm D ws vl s) {i : Nat} {u v' : Value} {L' : List Fr} (hu : ws[i]? = some u) (hq : RowQ frC 4 w' v' L') (hk : Kept (OwnO u) w w') (hg : Grows (OwnO u) w (OwnO v'))
    (hm : MapH Tryd.prog 3 w2 gm D') (hz' : SzM D') (ha : AtM nilS D' i v') (hn : ∀ (j : Nat) (x : Value), j ≠ i → AtM nilS D j x → AtM nilS D' j x) (ht : w'.mapTurned w2 gm) :
    BkM w2 b gn gm D' (ws.set i v') vl { s with W := s.W.set i L' } ∧ Kept (busO b gn gm ws vl) w w2 ∧ Grows (busO b gn gm ws vl) w (busO b gn gm (ws.set i v') vl) := by
  have kt := Kept.of_turned ht
  have hz := kt.size
  have hlt := h.lt
  obtain ⟨u1, u2, u3, u4⟩ := h.f1 i u hu
  have nv : ∀ k, k < w.heap.size → ¬ OwnO u k → ¬ OwnO v' k := fun k h1 h2 h3 => by rcases hg k h3 with h4 | h4; exact h2 h4; omega
  have lb := hlt b (.inl rfl)
  have ln := hlt gn (.inr (.inl rfl))
  have lw := hlt gm (.inr (.inr (.inl rfl)))
  have ho : ∀ k, k < w'.heap.size → k ≠ gm → w2.heap[k]? = w'.heap[k]? := fun k h1 hk => kt.block k h1 hk
  have l2 : ∀ k, k < w.heap.size → k < w'.heap.size := fun k h1 => Nat.lt_of_lt_of_le h1 hk.size
  refine ⟨⟨?_, ?_, hm, hz', fun j x hx => ?_, by simpa using h.len, by simpa using h.lenW, fun j x L hx hL => ?_, ?_, h.h1, h.h2, h.h3, fun j x hx => ?_, fun j l x x' hx hx' hjl => ?_, h.f3⟩, ?_, busO_set hu hg⟩
  · rw [ho b (l2 b lb) h.h2, hk.block b lb u1]; exact h.box
  · rw [ho gn (l2 gn ln) h.h3, hk.block gn ln u2]; exact h.nodes
  · rw [List.getElem?_set] at hx
    by_cases e : i = j
    · subst e
      rw [if_pos rfl] at hx
      split at hx
      · injection hx with hx; subst hx; exact ha
      · cases hx
    · rw [if_neg e] at hx
      exact hn j x (fun h => e h.symm) (h.here j x hx)
  · rw [List.getElem?_set] at hx
    simp only [List.getElem?_set] at hL
    by_cases e : i = j
    · subst e
      have hi : i < ws.length := by
        rcases Nat.lt_or_ge i ws.length with h1 | h1
        · exact h1
        · rw [List.getElem?_eq_none h1] at hu; cases hu
      have hi2 : i < s.W.length := by rw [h.lenW, ← h.len]; exact hi
      rw [if_pos rfl, if_pos hi] at hx
      rw [if_pos rfl, if_pos hi2] at hL
      injection hx with hx
      injection hL with hL
      subst hx hL
      exact hq.stay (fun g hg' => ho g (hq.lt g hg') (fun e => nv gm lw u3 (e ▸ hg'))) hz
    · rw [if_neg e] at hx hL
      have h5 := h.row j x L hx hL
      exact (h5.stay (fun g hg' => hk.block g (h5.lt g hg') (fun h6 => h.f2 i j u x hu hx e g h6 hg')) hk.size).stay (fun g hg' => ho g (l2 g (h5.lt g hg')) (fun e => (h.f1 j x hx).2.2.1 (e ▸ hg'))) hz
  · exact (h.log.stay (fun g hg' => hk.block g (h.log.lt g hg') (fun h6 => u4 g h6 hg')) hk.size).stay (fun g hg' => ho g (l2 g (h.log.lt g hg')) (fun e => h.f3.2.2 (e ▸ hg'))) hz
  · rw [List.getElem?_set] at hx
    split at hx
    · split at hx
      · injection hx with hx
        subst hx
        exact ⟨nv b lb u1, nv gn ln u2, nv gm lw u3, fun k h1 h2 => nv k (h.log.lt k h2) (fun h3 => u4 k h3 h2) h1⟩
      · cases hx
    · exact h.f1 j x hx
  · rw [List.getElem?_set] at hx hx'
    have other : ∀ (m : Nat) (y : Value), ws[m]? = some y → i ≠ m → Apart (OwnO v') (OwnO y) := fun m y hy hm k h1 h2 => by
      have hmm : m < ws.length := by
        rcases Nat.lt_or_ge m ws.length with h1 | h1
        · exact h1
        · rw [List.getElem?_eq_none h1] at hy; cases hy
      have h5 := h.row m y _ hy (List.getElem?_eq_getElem (by rw [h.lenW, ← h.len]; exact hmm))
      exact nv k (h5.lt k h2) (fun h3 => h.f2 i m u y hu hy hm k h3 h2) h1
    by_cases e : i = j
    · rw [if_pos e] at hx
      split at hx
      · injection hx with hx
        subst hx
        by_cases e2 : i = l
        · omega
        · rw [if_neg e2] at hx'
          exact other l x' hx' e2
      · cases hx
    · rw [if_neg e] at hx
      by_cases e2 : i = l
      · rw [if_pos e2] at hx'
        split at hx'
        · injection hx' with hx'
          subst hx'
          exact (other j x hx e).symm
        · cases hx'
      · rw [if_neg e2] at hx'
        exact h.f2 j l x x' hx hx' hjl
  · refine ⟨kt.os.trans hk.os, kt.tape.trans hk.tape, kt.output.trans hk.output, Nat.le_trans hk.size hz, fun k h1 h2 => ?_⟩
    rw [ho k (l2 k h1) (fun e => h2 (.inr (.inr (.inl e))))]
    exact hk.block k h1 (fun h3 => h2 (.inr (.inr (.inr (.inl ⟨i, u, hu, h3⟩)))))
end
theorem isObj_bk : IsObj BkD where
  stay := by
    rintro w w' v s O ⟨b, gn, gm, D, ws, vl, rfl, rfl, h⟩ hs
    exact ⟨b, gn, gm, D, ws, vl, rfl, rfl, h.stay hs⟩
  lt := by
    rintro w v s O ⟨b, gn, gm, D, ws, vl, rfl, rfl, h⟩
    exact h.lt
end Go.Proofs.YtpgfifacfkllfaaDoor
