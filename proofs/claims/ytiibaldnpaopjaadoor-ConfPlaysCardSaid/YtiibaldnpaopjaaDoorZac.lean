/- Conf: what may be may be behind whatever happens; the order of states; failures again and again. No program is meant here. Conf: contracts of the code's Right, State, counts, Word; the table of words. Conf: contracts of the code's Sent, Heard, Failed, Missed, Idle. -/
import Derived.Test.YtiibaldnpaopjaaDoorZab
namespace Go.Proofs.YtiibaldnpaopjaaDoor
open Go.RowKit
set_option linter.unusedVariables false

theorem Cf.ok_iff (c : Cf) : c.ok = true ↔ 0 ≤ c.t ∧ c.t ≤ 263 ∧ 0 ≤ c.r ∧ c.r ≤ 135 ∧ 0 ≤ c.d ∧ (c.o = true → 255 < c.t) ∧ (c.o = false → c.t ≤ 255 ∧ c.d = 0) := by
  unfold Cf.ok
  cases h : c.o <;> simp <;> omega
def cf0 : Cf := ⟨0, 0, false, 0⟩
theorem cf0_ok : cf0.ok = true := rfl
theorem Cf.do_bad {c : Cf} (h : c.ok = false) (what back : Int) : c.do_ what back = c := by unfold Cf.do_; rw [if_pos h]
theorem Cf.do_off {c : Cf} (h : c.ok = true) (ho : c.o = true) (what back : Int) : c.do_ what back = if what = 4 then c.idle back else c := by
  unfold Cf.do_; rw [if_neg (by rw [h]; decide), if_pos ho]
theorem Cf.do_on {c : Cf} (h : c.ok = true) (ho : c.o = false) (what back : Int) : c.do_ what back = if what = 0 then c.sent else if what = 1 then c.heard else if what = 2 then c.failed else if what = 3 then c.missed else c := by
  unfold Cf.do_; rw [if_neg (by rw [h]; decide), if_neg (by rw [ho]; decide)]
theorem Cf.idle_eq (c : Cf) (back : Int) : c.idle back = if (if back < 1 then 1 else back) - 1 ≤ c.d then cf0 else ⟨c.t, c.r, c.o, c.d + 1⟩ := rfl
/-- what may be may be behind whatever happens -/
theorem Cf.do_ok {c : Cf} (h : c.ok = true) (what back : Int) : (c.do_ what back).ok = true := by
  have hb := c.ok_iff.1 h
  obtain ⟨t0, t1, r0, r1, d0, ho1, ho0⟩ := hb
  cases ho : c.o
  · rw [Cf.do_on h ho]
    have := ho0 ho
    split
    · rw [Cf.ok_iff]; unfold Cf.sent; split <;> simp [ho] <;> omega
    · split
      · rw [Cf.ok_iff]; unfold Cf.heard; split
        · simp [ho]; omega
        · split <;> simp [ho] <;> omega
      · split
        · rw [Cf.ok_iff]; unfold Cf.failed; simp [ho]; omega
        · split
          · rw [Cf.ok_iff]; unfold Cf.missed; simp [ho]; split <;> omega
          · exact h
  · rw [Cf.do_off h ho]
    split
    · rw [Cf.idle_eq]
      by_cases hb : (if back < 1 then 1 else back) - 1 ≤ c.d
      · rw [if_pos hb]; rfl
      · rw [if_neg hb, Cf.ok_iff]
        have := ho1 ho
        simp [ho]; omega
    · exact h
theorem Cf.do_same_ok (c : Cf) (what back : Int) : (c.do_ what back).ok = c.ok := by
  cases h : c.ok
  · rw [Cf.do_bad h, h]
  · exact Cf.do_ok h what back
/-- who gets off does so by Failed alone -/
theorem Cf.gets_off {c : Cf} {what back : Int} (h : c.ok = true) (ho : c.o = false) (ho' : (c.do_ what back).o = true) : what = 2 := by
  rw [Cf.do_on h ho] at ho'
  apply Classical.byContradiction
  intro hw
  rw [if_neg hw] at ho'
  unfold Cf.sent Cf.heard Cf.missed at ho'
  split at ho'
  · split at ho' <;> simp [ho] at ho'
  · split at ho'
    · split at ho'
      · simp [ho] at ho'
      · split at ho' <;> simp [ho] at ho'
    · split at ho' <;> simp [ho] at ho'
/-- who is off stays so, or is one idle slot further, or comes back -/
theorem Cf.was_off {c : Cf} (what back : Int) (h : c.ok = true) (ho : c.o = true) :
    (what ≠ 4 ∧ c.do_ what back = c) ∨ (what = 4 ∧ (if back < 1 then 1 else back) - 1 ≤ c.d ∧ c.do_ what back = cf0) ∨ (what = 4 ∧ c.d < (if back < 1 then 1 else back) - 1 ∧ c.do_ what back = ⟨c.t, c.r, true, c.d + 1⟩) := by
  rw [Cf.do_off h ho]
  by_cases hw : what = 4
  · rw [if_pos hw, Cf.idle_eq]
    by_cases hb : (if back < 1 then 1 else back) - 1 ≤ c.d
    · rw [if_pos hb]; exact .inr (.inl ⟨hw, hb, rfl⟩)
    · rw [if_neg hb, ho]; exact .inr (.inr ⟨hw, by omega, rfl⟩)
  · rw [if_neg hw]; exact .inl ⟨hw, rfl⟩
/-- the order of states -/
theorem Cf.state_ok {c : Cf} (h : c.ok = true) : c.state = if c.o then 3 else if 127 < c.t ∨ 127 < c.r then 2 else if 95 < c.t ∨ 95 < c.r then 1 else 0 := by unfold Cf.state; rw [if_pos h]
theorem Cf.state_le {c e : Cf} (h : c.ok = true) (h' : e.ok = true) (ho : c.o = true → e.o = true) (ht : c.t ≤ e.t) (hr : c.r ≤ e.r ∨ (c.r = 119 ∧ 127 < e.r)) : c.state ≤ e.state := by
  rw [Cf.state_ok h, Cf.state_ok h']
  cases hc : c.o <;> cases he : e.o
  · simp only [Bool.false_eq_true, if_false]
    split <;> split <;> (try split) <;> (try split) <;> omega
  · simp only [Bool.false_eq_true, if_false, if_true]
    split <;> (try split) <;> omega
  · rw [ho hc] at he; cases he
  · simp
theorem Cf.order (c : Cf) (back : Int) : (c.do_ 0 back).state ≤ c.state ∧ (c.do_ 1 back).state ≤ c.state ∧ c.state ≤ (c.do_ 2 back).state ∧ c.state ≤ (c.do_ 3 back).state := by
  cases h : c.ok
  · rw [Cf.do_bad h, Cf.do_bad h, Cf.do_bad h, Cf.do_bad h]; omega
  · obtain ⟨t0, t1, r0, r1, d0, ho1, ho0⟩ := c.ok_iff.1 h
    cases ho : c.o
    · refine ⟨Cf.state_le (Cf.do_ok h _ _) h ?_ ?_ ?_, Cf.state_le (Cf.do_ok h _ _) h ?_ ?_ ?_, Cf.state_le h (Cf.do_ok h _ _) ?_ ?_ ?_, Cf.state_le h (Cf.do_ok h _ _) ?_ ?_ ?_⟩ <;> rw [Cf.do_on h ho]
      · unfold Cf.sent; simp [ho]; split <;> simp [ho]
      · unfold Cf.sent; simp; split <;> simp; omega
      · unfold Cf.sent; simp; left; split <;> simp
      · unfold Cf.heard; simp; split <;> (try split) <;> simp [ho]
      · unfold Cf.heard; simp; split <;> (try split) <;> simp
      · unfold Cf.heard; simp
        split
        · right; simp; omega
        · left; split <;> simp; omega
      · simp [ho]
      · show c.t ≤ c.t + 8; omega
      · unfold Cf.failed; simp
      · simp [ho]
      · unfold Cf.missed; simp
      · unfold Cf.missed; simp; left; split <;> omega
    · rw [Cf.do_off h ho, Cf.do_off h ho, Cf.do_off h ho, Cf.do_off h ho]; simp
/-- failures again and again -/
def failN (k : Nat) : Cf := if k ≤ 31 then ⟨8 * k, 0, false, 0⟩ else ⟨256, 0, true, 0⟩
theorem failN_ok (k : Nat) : (failN k).ok = true := by
  unfold failN
  split
  · rw [Cf.ok_iff]; simp; omega
  · rfl
theorem failN_succ (k : Nat) (back : Int) : (failN k).do_ 2 back = failN (k + 1) := by
  have h := failN_ok k
  by_cases hk : k ≤ 31
  · have e : failN k = ⟨8 * k, 0, false, 0⟩ := by unfold failN; rw [if_pos hk]
    rw [Cf.do_on h (by rw [e]), e, if_neg (by decide), if_neg (by decide), if_pos rfl]
    unfold Cf.failed failN
    by_cases h31 : k = 31
    · subst h31; rfl
    · rw [if_pos (show k + 1 ≤ 31 by omega)]
      simp
      omega
  · have e : failN k = ⟨256, 0, true, 0⟩ := by unfold failN; rw [if_neg hk]
    rw [Cf.do_off h (by rw [e]), e, if_neg (by decide)]
    unfold failN
    rw [if_neg (show ¬ k + 1 ≤ 31 by omega)]
theorem failN_state (k : Nat) : (2 ≤ (failN k).state ↔ 16 ≤ k) := by
  rw [Cf.state_ok (failN_ok k)]
  unfold failN
  by_cases hk : k ≤ 31
  · rw [if_pos hk]
    simp
    split
    · omega
    · split <;> omega
  · rw [if_neg hk]
    simp
    omega
theorem failN_off (k : Nat) : (failN k).o = decide (32 ≤ k) := by
  unfold failN
  split
  · rw [decide_eq_false (by omega)]
  · rw [decide_eq_true (by omega)]
/-- and idle slots behind them -/
def idleN (k : Nat) (back i : Nat) : Cf := if k ≤ 31 then failN k else if i < back then ⟨256, 0, true, i⟩ else cf0
theorem idleN_zero (k back : Nat) (hb : 1 ≤ back) : idleN k back 0 = failN k := by
  unfold idleN failN
  by_cases hk : k ≤ 31
  · rw [if_pos hk, if_pos hk]
  · rw [if_neg hk, if_neg hk, if_pos (by omega)]; rfl
theorem idleN_ok (k back i : Nat) : (idleN k back i).ok = true := by
  unfold idleN
  split
  · exact failN_ok k
  · split
    · rw [Cf.ok_iff]; simp
    · rfl
theorem idleN_succ (k back i : Nat) (hi : i < back) : (idleN k back i).do_ 4 back = idleN k back (i + 1) := by
  have h := idleN_ok k back i
  by_cases hk : k ≤ 31
  · have e : idleN k back i = failN k := by unfold idleN; rw [if_pos hk]
    have e2 : idleN k back (i + 1) = failN k := by unfold idleN; rw [if_pos hk]
    rw [e2, Cf.do_on h (by rw [e, failN_off, decide_eq_false (by omega)]), e]
    simp
  · have e : idleN k back i = ⟨256, 0, true, i⟩ := by unfold idleN; rw [if_neg hk, if_pos hi]
    rw [Cf.do_off h (by rw [e]), e, if_pos rfl, Cf.idle_eq, if_neg (show ¬ ((back : Int) < 1) by omega)]
    unfold idleN
    rw [if_neg hk]
    by_cases h1 : i + 1 < back
    · rw [if_pos h1, if_neg (by simp; omega)]; simp
    · rw [if_neg h1, if_pos (by simp; omega)]
theorem idleN_off (k back i : Nat) : (idleN k back i).o = (decide (32 ≤ k) && decide (i < back)) := by
  unfold idleN
  by_cases hk : k ≤ 31
  · rw [if_pos hk, failN_off, decide_eq_false (by omega)]; rfl
  · rw [if_neg hk, decide_eq_true (show 32 ≤ k by omega)]
    by_cases h1 : i < back
    · rw [if_pos h1, decide_eq_true h1]; rfl
    · rw [if_neg h1, decide_eq_false h1]; rfl
end Go.Proofs.YtiibaldnpaopjaaDoor

namespace Go.Proofs.YtiibaldnpaopjaaDoor
open Go.RowKit
set_option linter.unusedVariables false

theorem Cf.do_back {c : Cf} {what : Int} (h : what ≠ 4) (a b : Int) : c.do_ what a = c.do_ what b := by
  unfold Cf.do_
  rw [if_neg h, if_neg h]

/-! ### the words -/
def wordCells : Array Value := #[.string (ByteArray.mk #[97, 99, 116, 105, 118, 101]), .string (ByteArray.mk #[119, 97, 114, 110, 101, 100]), .string (ByteArray.mk #[112, 97, 115, 115, 105, 118, 101]), .string (ByteArray.mk #[111, 102, 102])]
def TabC (w : World) : Prop := ∃ t fr, w.heap[0]? = some (.cells wordCells t fr)
theorem TabC.below {w w' : World} (h : TabC w) (hb : Below w.heap.size w w') : TabC w' := by obtain ⟨t, fr, h1⟩ := h; exact ⟨t, fr, by rw [hb.block _ (Array.getElem?_eq_some_iff.1 h1).1]; exact h1⟩
theorem TabC.lt {w : World} (h : TabC w) : 0 < w.heap.size := by obtain ⟨t, fr, h1⟩ := h; exact (Array.getElem?_eq_some_iff.1 h1).1
theorem TabC.cell {w : World} (h : TabC w) (i : Nat) : w.cell? ⟨0, i, none⟩ = wordCells[i]? := by
  obtain ⟨t, fr, h1⟩ := h
  exact cell_of_row _ _ _ _ _ _ h1
theorem TabC.alloc {w : World} (h : TabC w) (o : Obj) : TabC (w.alloc o) := h.below ((Below.refl _ _).alloc (Nat.le_refl _) o)
theorem TabC.drewN {w : World} (h : TabC w) (n : Nat) : TabC (w.drewN n) := h
theorem TabC.setCell {w : World} (h : TabC w) {B : Nat} {w0 : World} (h0 : TabC w0) (hb : Below w0.heap.size w0 w) : TabC w := h0.below hb
def wordS (n : Int) : ByteArray := if n = 0 then ByteArray.mk #[97, 99, 116, 105, 118, 101] else if n = 1 then ByteArray.mk #[119, 97, 114, 110, 101, 100] else if n = 2 then ByteArray.mk #[112, 97, 115, 115, 105, 118, 101] else if n = 3 then ByteArray.mk #[111, 102, 102] else ByteArray.mk #[]
set_option maxHeartbeats 2000000 in
theorem kcword_v {n : Int} {t : ByteArray} (h : wordS n = t) (w : World) (hT : TabC w) : Calls Tryd.prog 11 #[.int .i64 n] w fun x w' => x = .returned (.string t) ∧ Below w.heap.size w w' := by
  have HT := Lib.hid hT
  by_cases hin : 0 ≤ n ∧ n ≤ 3
  · obtain hn | hn | hn | hn : n = 0 ∨ n = 1 ∨ n = 2 ∨ n = 3 := by omega
    all_goals (
      subst hn
      subst h
      have hc := hT.cell
      have hlt := hT.lt
      have hc0 := hc 0
      have hc1 := hc 1
      have hc2 := hc 2
      have hc3 := hc 3
      simp [wordCells] at hc0 hc1 hc2 hc3
      clear hc hT hin
      go_enter Tryd.func11, Tryd.ntmps11
      go_wp2
      go_ret
      exact ⟨rfl, Below.refl _ _⟩)
  · have e : wordS n = ByteArray.mk #[] := by unfold wordS; rw [if_neg (by omega), if_neg (by omega), if_neg (by omega), if_neg (by omega)]
    rw [e] at h
    subst h
    clear e hT
    go_enter Tryd.func11, Tryd.ntmps11
    by_cases h0 : n < 0
    · go_wp2
      go_ret
      exact ⟨rfl, Below.refl _ _⟩
    · have h3 : 3 < n := by omega
      go_wp2
      go_ret
      exact ⟨rfl, Below.refl _ _⟩

/-! ### Right, State, counts -/
set_option maxHeartbeats 4000000 in
theorem kcright_v {c : Cf} {q : Bool} (h : c.ok = q) (w : World) : Calls Tryd.prog 7 #[cfV c] w fun e w' => e = .returned (.bool q) ∧ Below w.heap.size w w' := by
  have H := Lib.hid h
  clear h
  obtain ⟨t, r, o, d⟩ := c
  cases o
  all_goals (
    go_enter Tryd.func7, Tryd.ntmps7
    go_wp2
    all_goals (
      go_ret
      refine ⟨fret_bool ?_, (Below.refl _ _).alloc (Nat.le_refl _) _⟩
      rw [← H.out, Bool.eq_iff_iff]
      unfold Cf.ok
      simp only [Bool.not_eq_true', Bool.not_eq_false', decide_eq_true_eq, decide_eq_false_iff_not] at *
      simp <;> omega))
set_option maxHeartbeats 4000000 in
theorem kcstate_v {c : Cf} {v : Int} (h : c.state = v) (w : World) : Calls Tryd.prog 9 #[cfV c] w fun e w' => e = .returned (.int .i64 v) ∧ Below w.heap.size w w' := by
  have H := Lib.hid h
  clear h
  obtain ⟨t, r, o, d⟩ := c
  obtain ⟨q, hq⟩ : ∃ q, Cf.ok ⟨t, r, o, d⟩ = q := ⟨_, rfl⟩
  have HQ := Lib.hid hq
  clear hq
  cases q
  · have HV : Hid (-1 = v) := Lib.hid (by rw [← H.out]; unfold Cf.state; rw [HQ.out]; rfl)
    go_enter Tryd.func9, Tryd.ntmps9
    go_wp2_with fail
    refine (kcright_v (c := ⟨t, r, o, d⟩) HQ.out _).mono ?_
    rintro e w1 ⟨rfl, hb1⟩
    go_wp2
    go_ret
    exact ⟨fret_int HV.out, fbelow_a _ hb1⟩
  · have HV : Hid ((if o = true then 3 else if 127 < t ∨ 127 < r then 2 else if 95 < t ∨ 95 < r then 1 else 0) = v) := Lib.hid (by rw [← H.out]; unfold Cf.state; rw [HQ.out]; rfl)
    clear H
    have HO : Hid (o = true → 255 < t) := Lib.hid ((Cf.ok_iff _).1 HQ.out).2.2.2.2.2.1
    cases o
    all_goals (
      go_enter Tryd.func9, Tryd.ntmps9
      go_wp2_with fail
      refine (kcright_v (c := ⟨t, r, _, d⟩) HQ.out _).mono ?_
      rintro e w1 ⟨rfl, hb1⟩
      have HB := Lib.hid (fbelow_a _ hb1)
      obtain ⟨hc, hf⟩ := fbcell hb1
      have hz : w.heap.size < w1.heap.size := by have := hb1.size; simp only [World.size_alloc] at this; omega
      clear hb1
      go_wp2
      all_goals (
        go_ret
        refine ⟨fret_int ?_, HB.out⟩
        have hv := HV.out
        have ho := HO.out
        rw [← hv]
        simp at ho ⊢
        try omega))
def Cf.counts (c : Cf) : Bool := c.ok && !c.o
theorem Cf.counts_state (c : Cf) : c.counts = (decide (0 ≤ c.state) && decide (c.state < 3)) := by
  unfold Cf.counts Cf.state
  cases c.ok <;> cases c.o <;> simp <;> (repeat' split) <;> omega
set_option maxHeartbeats 2000000 in
theorem kccounts_v {c : Cf} {q : Bool} (h : c.counts = q) (w : World) : Calls Tryd.prog 20 #[cfV c] w fun e w' => e = .returned (.bool q) ∧ Below w.heap.size w w' := by
  rw [Cf.counts_state] at h
  have H := Lib.hid h
  clear h
  obtain ⟨v, hv⟩ : ∃ v, c.state = v := ⟨_, rfl⟩
  rw [hv] at H
  have HV := Lib.hid hv
  clear hv
  obtain ⟨t, r, o, d⟩ := c
  go_enter Tryd.func20, Tryd.ntmps20
  go_wp2_with fail
  refine (kcstate_v (c := ⟨t, r, o, d⟩) HV.out _).mono ?_
  rintro e w1 ⟨rfl, hb⟩
  have HB := Lib.hid (fbelow_a _ hb)
  clear hb
  go_wp2
  all_goals (
    go_ret
    refine ⟨fret_bool ?_, HB.out⟩
    rw [← H.out]
    simp <;> omega)
end Go.Proofs.YtiibaldnpaopjaaDoor

namespace Go.Proofs.YtiibaldnpaopjaaDoor
open Go.RowKit
set_option linter.unusedVariables false

theorem Cf.counts_f {c : Cf} {what : Int} (h : c.counts = false) (hw : what ≠ 4) (back : Int) : c.do_ what back = c := by
  unfold Cf.counts at h
  unfold Cf.do_
  by_cases hk : c.ok = false
  · rw [if_pos hk]
  · have hk' : c.ok = true := by simpa using hk
    rw [hk'] at h
    have ho : c.o = true := by simpa using h
    rw [if_neg hk, if_pos ho, if_neg hw]
theorem Cf.counts_t {c : Cf} (h : c.counts = true) : c.ok = true ∧ c.o = false := by
  unfold Cf.counts at h
  simpa using h
set_option maxHeartbeats 4000000 in
theorem kcsent_v {c e : Cf} (h : c.do_ 0 0 = e) (w : World) : Calls Tryd.prog 15 #[cfV c] w fun x w' => x = .returned (cfV e) ∧ Below w.heap.size w w' := by
  obtain ⟨t, r, o, d⟩ := c
  obtain ⟨q, hq⟩ : ∃ q, Cf.counts ⟨t, r, o, d⟩ = q := ⟨_, rfl⟩
  have HQ := Lib.hid hq
  have HX := Lib.hid h
  clear h
  cases q
  · clear hq
    go_enter Tryd.func15, Tryd.ntmps15
    go_wp2_with fail
    refine (kccounts_v (c := ⟨t, r, o, d⟩) HQ.out _).mono ?_
    rintro e w1 ⟨rfl, hb⟩
    have HB := Lib.hid (BoxC.two w t r o d hb)
    clear hb
    obtain ⟨a0, a1, a2, a3⟩ := HB.out.1.cells
    obtain ⟨r0, r1, r2, r3⟩ := HB.out.2.1.cells
    obtain ⟨f0, f1, f2, f3⟩ := HB.out.1.live
    obtain ⟨g0, g1, g2, g3⟩ := HB.out.2.1.live
    have hz : w.heap.size < w1.heap.size := HB.out.1.lt
    have hy : w.heap.size + 1 < w1.heap.size := HB.out.2.1.lt
    go_wp2
    all_goals (
      refine bodyPost_ret (v := _) (by simp [results, Tryd.results15, go_sem, r0, r1, r2, r3]; exact ⟨rfl, rfl, rfl, rfl⟩) rfl ⟨cfV_eq ?_, ?_⟩
      · have hx := HX.out
        rw [← hx]
        rw [Cf.counts_f HQ.out (by decide)]
        try rfl
        try first
        | omega
        | (intros; omega)
        | (split <;> simp <;> omega)
        | (split <;> omega)
        | (refine ⟨?_, ?_⟩ <;> intros <;> omega)
      · exact cf_done (by first | exact HB.out.2.2 | exact HB.out.2.2.setCell (p := ⟨w.heap.size, _, none⟩) (Nat.le_refl _) _ | exact (HB.out.2.2.setCell (p := ⟨w.heap.size, _, none⟩) (Nat.le_refl _) _).setCell (p := ⟨w.heap.size, _, none⟩) (Nat.le_refl _) _) _ _ _ _)
  · obtain ⟨hk, ho⟩ := Cf.counts_t hq
    simp only at ho
    subst ho
    have HK := Lib.hid hk
    obtain ⟨t0, t1, q0, q1, d0, _, z1⟩ := (Cf.ok_iff _).1 hk
    simp only at t0 t1 q0 q1 d0 z1
    clear hq
    have z2 := ((Cf.ok_iff _).1 hk).2.2.2.2.2.2 rfl |>.1
    simp only at z2
    clear z1
    go_enter Tryd.func15, Tryd.ntmps15
    go_wp2_with fail
    refine (kccounts_v (c := ⟨t, r, false, d⟩) HQ.out _).mono ?_
    rintro e w1 ⟨rfl, hb⟩
    have HB := Lib.hid (BoxC.two w t r false d hb)
    clear hb
    obtain ⟨a0, a1, a2, a3⟩ := HB.out.1.cells
    obtain ⟨r0, r1, r2, r3⟩ := HB.out.2.1.cells
    obtain ⟨f0, f1, f2, f3⟩ := HB.out.1.live
    obtain ⟨g0, g1, g2, g3⟩ := HB.out.2.1.live
    have hz : w.heap.size < w1.heap.size := HB.out.1.lt
    have hy : w.heap.size + 1 < w1.heap.size := HB.out.2.1.lt
    go_wp2
    all_goals (
      refine bodyPost_ret (v := _) (by simp [results, Tryd.results15, go_sem, r0, r1, r2, r3]; exact ⟨rfl, rfl, rfl, rfl⟩) rfl ⟨cfV_eq ?_, ?_⟩
      · have hx := HX.out
        rw [← hx]
        rw [Cf.do_on HK.out rfl, if_pos rfl]
        simp [Cf.sent, Cf.heard, Cf.failed, Cf.missed]
        try first
        | omega
        | (intros; omega)
        | (split <;> simp <;> omega)
        | (split <;> omega)
        | (refine ⟨?_, ?_⟩ <;> intros <;> omega)
      · exact cf_done (by first | exact HB.out.2.2 | exact HB.out.2.2.setCell (p := ⟨w.heap.size, _, none⟩) (Nat.le_refl _) _ | exact (HB.out.2.2.setCell (p := ⟨w.heap.size, _, none⟩) (Nat.le_refl _) _).setCell (p := ⟨w.heap.size, _, none⟩) (Nat.le_refl _) _) _ _ _ _)
set_option maxHeartbeats 4000000 in
theorem kcheard_v {c e : Cf} (h : c.do_ 1 0 = e) (w : World) : Calls Tryd.prog 16 #[cfV c] w fun x w' => x = .returned (cfV e) ∧ Below w.heap.size w w' := by
  obtain ⟨t, r, o, d⟩ := c
  obtain ⟨q, hq⟩ : ∃ q, Cf.counts ⟨t, r, o, d⟩ = q := ⟨_, rfl⟩
  have HQ := Lib.hid hq
  have HX := Lib.hid h
  clear h
  cases q
  · clear hq
    go_enter Tryd.func16, Tryd.ntmps16
    go_wp2_with fail
    refine (kccounts_v (c := ⟨t, r, o, d⟩) HQ.out _).mono ?_
    rintro e w1 ⟨rfl, hb⟩
    have HB := Lib.hid (BoxC.two w t r o d hb)
    clear hb
    obtain ⟨a0, a1, a2, a3⟩ := HB.out.1.cells
    obtain ⟨r0, r1, r2, r3⟩ := HB.out.2.1.cells
    obtain ⟨f0, f1, f2, f3⟩ := HB.out.1.live
    obtain ⟨g0, g1, g2, g3⟩ := HB.out.2.1.live
    have hz : w.heap.size < w1.heap.size := HB.out.1.lt
    have hy : w.heap.size + 1 < w1.heap.size := HB.out.2.1.lt
    go_wp2
    all_goals (
      refine bodyPost_ret (v := _) (by simp [results, Tryd.results16, go_sem, r0, r1, r2, r3]; exact ⟨rfl, rfl, rfl, rfl⟩) rfl ⟨cfV_eq ?_, ?_⟩
      · have hx := HX.out
        rw [← hx]
        rw [Cf.counts_f HQ.out (by decide)]
        try rfl
        try first
        | omega
        | (intros; omega)
        | (split <;> simp <;> omega)
        | (split <;> omega)
        | (refine ⟨?_, ?_⟩ <;> intros <;> omega)
      · exact cf_done (by first | exact HB.out.2.2 | exact HB.out.2.2.setCell (p := ⟨w.heap.size, _, none⟩) (Nat.le_refl _) _ | exact (HB.out.2.2.setCell (p := ⟨w.heap.size, _, none⟩) (Nat.le_refl _) _).setCell (p := ⟨w.heap.size, _, none⟩) (Nat.le_refl _) _) _ _ _ _)
  · obtain ⟨hk, ho⟩ := Cf.counts_t hq
    simp only at ho
    subst ho
    have HK := Lib.hid hk
    obtain ⟨t0, t1, q0, q1, d0, _, z1⟩ := (Cf.ok_iff _).1 hk
    simp only at t0 t1 q0 q1 d0 z1
    clear hq
    have z2 := ((Cf.ok_iff _).1 hk).2.2.2.2.2.2 rfl |>.1
    simp only at z2
    clear z1
    go_enter Tryd.func16, Tryd.ntmps16
    go_wp2_with fail
    refine (kccounts_v (c := ⟨t, r, false, d⟩) HQ.out _).mono ?_
    rintro e w1 ⟨rfl, hb⟩
    have HB := Lib.hid (BoxC.two w t r false d hb)
    clear hb
    obtain ⟨a0, a1, a2, a3⟩ := HB.out.1.cells
    obtain ⟨r0, r1, r2, r3⟩ := HB.out.2.1.cells
    obtain ⟨f0, f1, f2, f3⟩ := HB.out.1.live
    obtain ⟨g0, g1, g2, g3⟩ := HB.out.2.1.live
    have hz : w.heap.size < w1.heap.size := HB.out.1.lt
    have hy : w.heap.size + 1 < w1.heap.size := HB.out.2.1.lt
    go_wp2
    all_goals (
      refine bodyPost_ret (v := _) (by simp [results, Tryd.results16, go_sem, r0, r1, r2, r3]; exact ⟨rfl, rfl, rfl, rfl⟩) rfl ⟨cfV_eq ?_, ?_⟩
      · have hx := HX.out
        rw [← hx]
        rw [Cf.do_on HK.out rfl, if_neg (by decide), if_pos rfl]
        simp [Cf.sent, Cf.heard, Cf.failed, Cf.missed]
        try first
        | omega
        | (intros; omega)
        | (split <;> simp <;> omega)
        | (split <;> omega)
        | (refine ⟨?_, ?_⟩ <;> intros <;> omega)
      · exact cf_done (by first | exact HB.out.2.2 | exact HB.out.2.2.setCell (p := ⟨w.heap.size, _, none⟩) (Nat.le_refl _) _ | exact (HB.out.2.2.setCell (p := ⟨w.heap.size, _, none⟩) (Nat.le_refl _) _).setCell (p := ⟨w.heap.size, _, none⟩) (Nat.le_refl _) _) _ _ _ _)
set_option maxHeartbeats 4000000 in
theorem kcfailed_v {c e : Cf} (h : c.do_ 2 0 = e) (w : World) : Calls Tryd.prog 17 #[cfV c] w fun x w' => x = .returned (cfV e) ∧ Below w.heap.size w w' := by
  obtain ⟨t, r, o, d⟩ := c
  obtain ⟨q, hq⟩ : ∃ q, Cf.counts ⟨t, r, o, d⟩ = q := ⟨_, rfl⟩
  have HQ := Lib.hid hq
  have HX := Lib.hid h
  clear h
  cases q
  · clear hq
    go_enter Tryd.func17, Tryd.ntmps17
    go_wp2_with fail
    refine (kccounts_v (c := ⟨t, r, o, d⟩) HQ.out _).mono ?_
    rintro e w1 ⟨rfl, hb⟩
    have HB := Lib.hid (BoxC.two w t r o d hb)
    clear hb
    obtain ⟨a0, a1, a2, a3⟩ := HB.out.1.cells
    obtain ⟨r0, r1, r2, r3⟩ := HB.out.2.1.cells
    obtain ⟨f0, f1, f2, f3⟩ := HB.out.1.live
    obtain ⟨g0, g1, g2, g3⟩ := HB.out.2.1.live
    have hz : w.heap.size < w1.heap.size := HB.out.1.lt
    have hy : w.heap.size + 1 < w1.heap.size := HB.out.2.1.lt
    go_wp2
    all_goals (
      refine bodyPost_ret (v := _) (by simp [results, Tryd.results17, go_sem, r0, r1, r2, r3]; exact ⟨rfl, rfl, rfl, rfl⟩) rfl ⟨cfV_eq ?_, ?_⟩
      · have hx := HX.out
        rw [← hx]
        rw [Cf.counts_f HQ.out (by decide)]
        try rfl
        try first
        | omega
        | (intros; omega)
        | (split <;> simp <;> omega)
        | (split <;> omega)
        | (refine ⟨?_, ?_⟩ <;> intros <;> omega)
      · exact cf_done (by first | exact HB.out.2.2 | exact HB.out.2.2.setCell (p := ⟨w.heap.size, _, none⟩) (Nat.le_refl _) _ | exact (HB.out.2.2.setCell (p := ⟨w.heap.size, _, none⟩) (Nat.le_refl _) _).setCell (p := ⟨w.heap.size, _, none⟩) (Nat.le_refl _) _) _ _ _ _)
  · obtain ⟨hk, ho⟩ := Cf.counts_t hq
    simp only at ho
    subst ho
    have HK := Lib.hid hk
    obtain ⟨t0, t1, q0, q1, d0, _, z1⟩ := (Cf.ok_iff _).1 hk
    simp only at t0 t1 q0 q1 d0 z1
    clear hq
    have z2 := ((Cf.ok_iff _).1 hk).2.2.2.2.2.2 rfl |>.1
    simp only at z2
    clear z1
    go_enter Tryd.func17, Tryd.ntmps17
    go_wp2_with fail
    refine (kccounts_v (c := ⟨t, r, false, d⟩) HQ.out _).mono ?_
    rintro e w1 ⟨rfl, hb⟩
    have HB := Lib.hid (BoxC.two w t r false d hb)
    clear hb
    obtain ⟨a0, a1, a2, a3⟩ := HB.out.1.cells
    obtain ⟨r0, r1, r2, r3⟩ := HB.out.2.1.cells
    obtain ⟨f0, f1, f2, f3⟩ := HB.out.1.live
    obtain ⟨g0, g1, g2, g3⟩ := HB.out.2.1.live
    have hz : w.heap.size < w1.heap.size := HB.out.1.lt
    have hy : w.heap.size + 1 < w1.heap.size := HB.out.2.1.lt
    go_wp2
    all_goals (
      refine bodyPost_ret (v := _) (by simp [results, Tryd.results17, go_sem, r0, r1, r2, r3]; exact ⟨rfl, rfl, rfl, rfl⟩) rfl ⟨cfV_eq ?_, ?_⟩
      · have hx := HX.out
        rw [← hx]
        rw [Cf.do_on HK.out rfl, if_neg (by decide), if_neg (by decide), if_pos rfl]
        simp [Cf.sent, Cf.heard, Cf.failed, Cf.missed]
        try first
        | omega
        | (intros; omega)
        | (split <;> simp <;> omega)
        | (split <;> omega)
        | (refine ⟨?_, ?_⟩ <;> intros <;> omega)
      · exact cf_done (by first | exact HB.out.2.2 | exact HB.out.2.2.setCell (p := ⟨w.heap.size, _, none⟩) (Nat.le_refl _) _ | exact (HB.out.2.2.setCell (p := ⟨w.heap.size, _, none⟩) (Nat.le_refl _) _).setCell (p := ⟨w.heap.size, _, none⟩) (Nat.le_refl _) _) _ _ _ _)
set_option maxHeartbeats 4000000 in
theorem kcmissed_v {c e : Cf} (h : c.do_ 3 0 = e) (w : World) : Calls Tryd.prog 18 #[cfV c] w fun x w' => x = .returned (cfV e) ∧ Below w.heap.size w w' := by
  obtain ⟨t, r, o, d⟩ := c
  obtain ⟨q, hq⟩ : ∃ q, Cf.counts ⟨t, r, o, d⟩ = q := ⟨_, rfl⟩
  have HQ := Lib.hid hq
  have HX := Lib.hid h
  clear h
  cases q
  · clear hq
    go_enter Tryd.func18, Tryd.ntmps18
    go_wp2_with fail
    refine (kccounts_v (c := ⟨t, r, o, d⟩) HQ.out _).mono ?_
    rintro e w1 ⟨rfl, hb⟩
    have HB := Lib.hid (BoxC.two w t r o d hb)
    clear hb
    obtain ⟨a0, a1, a2, a3⟩ := HB.out.1.cells
    obtain ⟨r0, r1, r2, r3⟩ := HB.out.2.1.cells
    obtain ⟨f0, f1, f2, f3⟩ := HB.out.1.live
    obtain ⟨g0, g1, g2, g3⟩ := HB.out.2.1.live
    have hz : w.heap.size < w1.heap.size := HB.out.1.lt
    have hy : w.heap.size + 1 < w1.heap.size := HB.out.2.1.lt
    go_wp2
    all_goals (
      refine bodyPost_ret (v := _) (by simp [results, Tryd.results18, go_sem, r0, r1, r2, r3]; exact ⟨rfl, rfl, rfl, rfl⟩) rfl ⟨cfV_eq ?_, ?_⟩
      · have hx := HX.out
        rw [← hx]
        rw [Cf.counts_f HQ.out (by decide)]
        try rfl
        try first
        | omega
        | (intros; omega)
        | (split <;> simp <;> omega)
        | (split <;> omega)
        | (refine ⟨?_, ?_⟩ <;> intros <;> omega)
      · exact cf_done (by first | exact HB.out.2.2 | exact HB.out.2.2.setCell (p := ⟨w.heap.size, _, none⟩) (Nat.le_refl _) _ | exact (HB.out.2.2.setCell (p := ⟨w.heap.size, _, none⟩) (Nat.le_refl _) _).setCell (p := ⟨w.heap.size, _, none⟩) (Nat.le_refl _) _) _ _ _ _)
  · obtain ⟨hk, ho⟩ := Cf.counts_t hq
    simp only at ho
    subst ho
    have HK := Lib.hid hk
    obtain ⟨t0, t1, q0, q1, d0, _, z1⟩ := (Cf.ok_iff _).1 hk
    simp only at t0 t1 q0 q1 d0 z1
    clear hq
    have z2 := ((Cf.ok_iff _).1 hk).2.2.2.2.2.2 rfl |>.1
    simp only at z2
    clear z1
    obtain ⟨v, hv⟩ : ∃ v, Cf.state ⟨t, r, false, d⟩ = v := ⟨_, rfl⟩
    have HV := Lib.hid hv
    clear hv hk
    go_enter Tryd.func18, Tryd.ntmps18
    go_wp2_with fail
    refine (kccounts_v (c := ⟨t, r, false, d⟩) HQ.out _).mono ?_
    rintro e w1 ⟨rfl, hb⟩
    have HB := Lib.hid (BoxC.two w t r false d hb)
    clear hb
    obtain ⟨a0, a1, a2, a3⟩ := HB.out.1.cells
    obtain ⟨r0, r1, r2, r3⟩ := HB.out.2.1.cells
    obtain ⟨f0, f1, f2, f3⟩ := HB.out.1.live
    obtain ⟨g0, g1, g2, g3⟩ := HB.out.2.1.live
    have hz : w.heap.size < w1.heap.size := HB.out.1.lt
    have hy : w.heap.size + 1 < w1.heap.size := HB.out.2.1.lt
    go_wp2_with fail
    refine (kcstate_v (c := ⟨t, r, false, d⟩) HV.out _).mono ?_
    rintro e w2 ⟨rfl, hb⟩
    have HB2 : Hid (BoxC w2 w.heap.size t r false d ∧ BoxC w2 (w.heap.size + 1) 0 0 false 0 ∧ Below w.heap.size w w2) := Lib.hid ⟨HB.out.1.later hb, HB.out.2.1.later hb, fbelow_t HB.out.2.2 hb⟩
    clear hb a0 a1 a2 a3 r0 r1 r2 r3 f0 f1 f2 f3 g0 g1 g2 g3 hz hy
    obtain ⟨a0, a1, a2, a3⟩ := HB2.out.1.cells
    obtain ⟨r0, r1, r2, r3⟩ := HB2.out.2.1.cells
    obtain ⟨f0, f1, f2, f3⟩ := HB2.out.1.live
    obtain ⟨g0, g1, g2, g3⟩ := HB2.out.2.1.live
    have hz : w.heap.size < w2.heap.size := HB2.out.1.lt
    have hy : w.heap.size + 1 < w2.heap.size := HB2.out.2.1.lt
    by_cases hv2 : v = 2
    · subst hv2
      go_wp2
      all_goals (
        refine bodyPost_ret (v := _) (by simp [results, Tryd.results18, go_sem, r0, r1, r2, r3]; exact ⟨rfl, rfl, rfl, rfl⟩) rfl ⟨cfV_eq ?_, ?_⟩
        · have hx := HX.out
          rw [← hx]
          rw [Cf.do_on HK.out rfl, if_neg (by decide), if_neg (by decide), if_neg (by decide), if_pos rfl]
          simp [HV.out, Cf.sent, Cf.heard, Cf.failed, Cf.missed]
          try first
          | omega
          | (intros; omega)
          | (split <;> simp <;> omega)
          | (split <;> omega)
          | (refine ⟨?_, ?_⟩ <;> intros <;> omega)
        · exact cf_done (by first | exact HB2.out.2.2 | exact HB2.out.2.2.setCell (p := ⟨w.heap.size, _, none⟩) (Nat.le_refl _) _ | exact (HB2.out.2.2.setCell (p := ⟨w.heap.size, _, none⟩) (Nat.le_refl _) _).setCell (p := ⟨w.heap.size, _, none⟩) (Nat.le_refl _) _) _ _ _ _)
    · go_wp2
      all_goals (
        refine bodyPost_ret (v := _) (by simp [results, Tryd.results18, go_sem, r0, r1, r2, r3]; exact ⟨rfl, rfl, rfl, rfl⟩) rfl ⟨cfV_eq ?_, ?_⟩
        · have hx := HX.out
          rw [← hx]
          rw [Cf.do_on HK.out rfl, if_neg (by decide), if_neg (by decide), if_neg (by decide), if_pos rfl]
          simp [HV.out, hv2, Cf.sent, Cf.heard, Cf.failed, Cf.missed]
          try first
          | omega
          | (intros; omega)
          | (split <;> simp <;> omega)
          | (split <;> omega)
          | (refine ⟨?_, ?_⟩ <;> intros <;> omega)
        · exact cf_done (by first | exact HB2.out.2.2 | exact HB2.out.2.2.setCell (p := ⟨w.heap.size, _, none⟩) (Nat.le_refl _) _ | exact (HB2.out.2.2.setCell (p := ⟨w.heap.size, _, none⟩) (Nat.le_refl _) _).setCell (p := ⟨w.heap.size, _, none⟩) (Nat.le_refl _) _) _ _ _ _)
set_option maxHeartbeats 4000000 in
theorem kcidle_v {c e : Cf} {back : Int} (h : c.do_ 4 back = e) (hk : c.ok = true) (hb1 : -9223372036854775808 ≤ back) (hb2 : back ≤ 9223372036854775807) (w : World) : Calls Tryd.prog 19 #[cfV c, .int .i64 back] w fun x w' => x = .returned (cfV e) ∧ Below w.heap.size w w' := by
  obtain ⟨t, r, o, d⟩ := c
  have HX := Lib.hid h
  have HK := Lib.hid hk
  obtain ⟨t0, t1, q0, q1, d0, _, z1⟩ := (Cf.ok_iff _).1 hk
  simp only at t0 t1 q0 q1 d0 z1
  clear h hk
  by_cases hbk : back < 1
  all_goals (cases o)
  all_goals (
    clear z1
    go_enter Tryd.func19, Tryd.ntmps19
    go_wp2
    all_goals (
      refine bodyPost_ret (v := _) (by simp [results, Tryd.results19, go_sem]; exact ⟨rfl, rfl, rfl, rfl⟩) rfl ⟨cfV_eq ?_, ?_⟩
      · have hx := HX.out
        rw [← hx]
        first
        | rw [Cf.do_on HK.out rfl, if_neg (by decide), if_neg (by decide), if_neg (by decide), if_neg (by decide)]
        | (rw [Cf.do_off HK.out rfl, if_pos rfl]
           simp [Cf.idle, hbk]
           try first
           | omega
           | (intros; omega))
      · exact ((Below.refl _ _).alloc (Nat.le_refl _) _).alloc (by rw [World.size_alloc]; omega) _))
end Go.Proofs.YtiibaldnpaopjaaDoor
