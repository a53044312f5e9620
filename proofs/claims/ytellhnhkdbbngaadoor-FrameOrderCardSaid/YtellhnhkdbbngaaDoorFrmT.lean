/- Frame: the walks of FrameKeys, FrameOrder. -/
import Derived.Test.YtellhnhkdbbngaaDoorFrmS
namespace Go.Proofs.YtellhnhkdbbngaaDoor
open Go.RowKit
set_option linter.unusedVariables false

set_option maxHeartbeats 4000000 in
theorem frameKeys_walk (i n l : Int) (d : ByteArray) (i' n' l' : Int) (d' : ByteArray) (_wi : (Lit.int .i64 i).wf = true) (wn : (Lit.int .i64 n).wf = true) (_wl : (Lit.int .i64 l).wf = true) (_wd : d.size ≤ maxLen)
    (_wi' : (Lit.int .i64 i').wf = true) (wn' : (Lit.int .i64 n').wf = true) (_wl' : (Lit.int .i64 l').wf = true) (_wd' : d'.size ≤ maxLen) (w : World) (hT : Tabs w) :
    Calls Tryd.prog 7 #[.agg #[.int .i64 i, .int .i64 n, .int .i64 l, .string d], .agg #[.int .i64 i', .int .i64 n', .int .i64 l', .string d']] w fun e w' => e = .returned (.bool true) ∧ Below w.heap.size w w' := by
  have HN := Lib.hid (Go.bounds_i64 wn)
  have HM := Lib.hid (Go.bounds_i64 wn')
  have HT := Lib.hid hT
  have hl := later_cells
  obtain ⟨a, ha⟩ : ∃ a, keyV i n l d.size = a := ⟨_, rfl⟩
  obtain ⟨b, hb⟩ : ∃ b, keyV i' n' l' d'.size = b := ⟨_, rfl⟩
  have HA := Lib.hid ha
  have HB := Lib.hid hb
  clear hT wn wn' _wi _wl _wd _wi' _wl' _wd' ha hb
  by_cases a0 : 0 ≤ a
  · by_cases b0 : 0 ≤ b
    · by_cases ab : a < b
      · have HQ : Hid (lessB a b = true) := Lib.hid (by unfold lessB; simp; omega)
        go_enter Tryd.func7, Tryd.ntmps7
        go_wp2_with fail
        refine wp_region_later (by kernel_rfl) (by kernel_rfl) ?_
        repeat (go_big_quiet_step (fail))
        go_big_quiet_step (exact Later.call (rkey_v HA.out _))
        repeat (go_big_quiet_step (fail))
        go_big_quiet_step (exact Later.call (rkey_v HB.out _))
        repeat (go_big_quiet_step (fail))
        refine wpQuiet_nil ?_
        rintro w1 ⟨m, rfl⟩
        have T1 := Lib.hid (Later.tabs m ((HT.out.alloc _).alloc _))
        have z1 : w.heap.size < m.w.heap.size := by have := m.h.size; simp only [World.size_alloc] at this; omega
        have z1' : w.heap.size + 1 < m.w.heap.size := by have := m.h.size; simp only [World.size_alloc] at this; omega
        go_wp2_with fail
        refine (key_v HA.out _ T1.out HN.out.1 HN.out.2).mono ?_
        rintro e w2 ⟨rfl, hb2⟩
        have T2 := Lib.hid (T1.out.below hb2)
        obtain ⟨hc2, hf2⟩ := fbcell hb2
        have z2 : w.heap.size < w2.heap.size := Nat.lt_of_lt_of_le z1 hb2.size
        have z2' : w.heap.size + 1 < w2.heap.size := Nat.lt_of_lt_of_le z1' hb2.size
        go_wp2_with fail
        refine (key_v HB.out _ T2.out HM.out.1 HM.out.2).mono ?_
        rintro e w3 ⟨rfl, hb3⟩
        have T3 := Lib.hid (T2.out.below hb3)
        obtain ⟨hc3, hf3⟩ := fbcell hb3
        go_wp2_with fail
        refine (less_v HA.out HB.out HQ.out _ T3.out HN.out.1 HN.out.2 HM.out.1 HM.out.2).mono ?_
        rintro e w4 ⟨rfl, hb4⟩
        have T4 := Lib.hid (T3.out.below hb4)
        go_wp2_with fail
        refine (falive_any _ T4.out).mono ?_
        rintro e w5 ⟨rfl, hb5⟩
        go_wp2
        go_ret
        exact ⟨rfl, fbelow_t (fbelow_t (fbelow_t (fbelow_t (fbelow_a _ (fbelow_a _ m.h)) hb2) hb3) hb4) hb5⟩
      · have HQ : Hid (lessB a b = false) := Lib.hid (by unfold lessB; simp; omega)
        have ab' : decide (a < b) = false := by simp; omega
        go_enter Tryd.func7, Tryd.ntmps7
        go_wp2_with fail
        refine wp_region_later (by kernel_rfl) (by kernel_rfl) ?_
        repeat (go_big_quiet_step (fail))
        go_big_quiet_step (exact Later.call (rkey_v HA.out _))
        repeat (go_big_quiet_step (fail))
        go_big_quiet_step (exact Later.call (rkey_v HB.out _))
        repeat (go_big_quiet_step (fail))
        refine wpQuiet_nil ?_
        rintro w1 ⟨m, rfl⟩
        have T1 := Lib.hid (Later.tabs m ((HT.out.alloc _).alloc _))
        have z1 : w.heap.size < m.w.heap.size := by have := m.h.size; simp only [World.size_alloc] at this; omega
        have z1' : w.heap.size + 1 < m.w.heap.size := by have := m.h.size; simp only [World.size_alloc] at this; omega
        go_wp2_with fail
        refine (key_v HA.out _ T1.out HN.out.1 HN.out.2).mono ?_
        rintro e w2 ⟨rfl, hb2⟩
        have T2 := Lib.hid (T1.out.below hb2)
        obtain ⟨hc2, hf2⟩ := fbcell hb2
        have z2 : w.heap.size < w2.heap.size := Nat.lt_of_lt_of_le z1 hb2.size
        have z2' : w.heap.size + 1 < w2.heap.size := Nat.lt_of_lt_of_le z1' hb2.size
        go_wp2_with fail
        refine (key_v HB.out _ T2.out HM.out.1 HM.out.2).mono ?_
        rintro e w3 ⟨rfl, hb3⟩
        have T3 := Lib.hid (T2.out.below hb3)
        obtain ⟨hc3, hf3⟩ := fbcell hb3
        go_wp2_with fail
        refine (less_v HA.out HB.out HQ.out _ T3.out HN.out.1 HN.out.2 HM.out.1 HM.out.2).mono ?_
        rintro e w4 ⟨rfl, hb4⟩
        have T4 := Lib.hid (T3.out.below hb4)
        go_wp2_with fail
        refine (falive_any _ T4.out).mono ?_
        rintro e w5 ⟨rfl, hb5⟩
        go_wp2
        go_ret
        exact ⟨rfl, fbelow_t (fbelow_t (fbelow_t (fbelow_t (fbelow_a _ (fbelow_a _ m.h)) hb2) hb3) hb4) hb5⟩
    · have HQ : Hid (lessB a b = false) := Lib.hid (by unfold lessB; simp; omega)
      have b0' : decide (0 ≤ b) = false := by simp; omega
      go_enter Tryd.func7, Tryd.ntmps7
      go_wp2_with fail
      refine wp_region_later (by kernel_rfl) (by kernel_rfl) ?_
      repeat (go_big_quiet_step (fail))
      go_big_quiet_step (exact Later.call (rkey_v HA.out _))
      repeat (go_big_quiet_step (fail))
      go_big_quiet_step (exact Later.call (rkey_v HB.out _))
      repeat (go_big_quiet_step (fail))
      refine wpQuiet_nil ?_
      rintro w1 ⟨m, rfl⟩
      have T1 := Lib.hid (Later.tabs m ((HT.out.alloc _).alloc _))
      have z1 : w.heap.size < m.w.heap.size := by have := m.h.size; simp only [World.size_alloc] at this; omega
      have z1' : w.heap.size + 1 < m.w.heap.size := by have := m.h.size; simp only [World.size_alloc] at this; omega
      go_wp2_with fail
      refine (key_v HA.out _ T1.out HN.out.1 HN.out.2).mono ?_
      rintro e w2 ⟨rfl, hb2⟩
      have T2 := Lib.hid (T1.out.below hb2)
      obtain ⟨hc2, hf2⟩ := fbcell hb2
      have z2 : w.heap.size < w2.heap.size := Nat.lt_of_lt_of_le z1 hb2.size
      have z2' : w.heap.size + 1 < w2.heap.size := Nat.lt_of_lt_of_le z1' hb2.size
      go_wp2_with fail
      refine (key_v HB.out _ T2.out HM.out.1 HM.out.2).mono ?_
      rintro e w3 ⟨rfl, hb3⟩
      have T3 := Lib.hid (T2.out.below hb3)
      obtain ⟨hc3, hf3⟩ := fbcell hb3
      go_wp2_with fail
      refine (less_v HA.out HB.out HQ.out _ T3.out HN.out.1 HN.out.2 HM.out.1 HM.out.2).mono ?_
      rintro e w4 ⟨rfl, hb4⟩
      have T4 := Lib.hid (T3.out.below hb4)
      go_wp2_with fail
      refine (falive_any _ T4.out).mono ?_
      rintro e w5 ⟨rfl, hb5⟩
      go_wp2
      go_ret
      exact ⟨rfl, fbelow_t (fbelow_t (fbelow_t (fbelow_t (fbelow_a _ (fbelow_a _ m.h)) hb2) hb3) hb4) hb5⟩
  · have HQ : Hid (lessB a b = false) := Lib.hid (by unfold lessB; simp; omega)
    have a0' : decide (0 ≤ a) = false := by simp; omega
    go_enter Tryd.func7, Tryd.ntmps7
    go_wp2_with fail
    refine wp_region_later (by kernel_rfl) (by kernel_rfl) ?_
    repeat (go_big_quiet_step (fail))
    go_big_quiet_step (exact Later.call (rkey_v HA.out _))
    repeat (go_big_quiet_step (fail))
    go_big_quiet_step (exact Later.call (rkey_v HB.out _))
    repeat (go_big_quiet_step (fail))
    refine wpQuiet_nil ?_
    rintro w1 ⟨m, rfl⟩
    have T1 := Lib.hid (Later.tabs m ((HT.out.alloc _).alloc _))
    have z1 : w.heap.size < m.w.heap.size := by have := m.h.size; simp only [World.size_alloc] at this; omega
    have z1' : w.heap.size + 1 < m.w.heap.size := by have := m.h.size; simp only [World.size_alloc] at this; omega
    go_wp2_with fail
    refine (key_v HA.out _ T1.out HN.out.1 HN.out.2).mono ?_
    rintro e w2 ⟨rfl, hb2⟩
    have T2 := Lib.hid (T1.out.below hb2)
    obtain ⟨hc2, hf2⟩ := fbcell hb2
    have z2 : w.heap.size < w2.heap.size := Nat.lt_of_lt_of_le z1 hb2.size
    have z2' : w.heap.size + 1 < w2.heap.size := Nat.lt_of_lt_of_le z1' hb2.size
    go_wp2_with fail
    refine (key_v HB.out _ T2.out HM.out.1 HM.out.2).mono ?_
    rintro e w3 ⟨rfl, hb3⟩
    have T3 := Lib.hid (T2.out.below hb3)
    obtain ⟨hc3, hf3⟩ := fbcell hb3
    go_wp2_with fail
    refine (less_v HA.out HB.out HQ.out _ T3.out HN.out.1 HN.out.2 HM.out.1 HM.out.2).mono ?_
    rintro e w4 ⟨rfl, hb4⟩
    have T4 := Lib.hid (T3.out.below hb4)
    go_wp2_with fail
    refine (falive_any _ T4.out).mono ?_
    rintro e w5 ⟨rfl, hb5⟩
    go_wp2
    go_ret
    exact ⟨rfl, fbelow_t (fbelow_t (fbelow_t (fbelow_t (fbelow_a _ (fbelow_a _ m.h)) hb2) hb3) hb4) hb5⟩

end Go.Proofs.YtellhnhkdbbngaaDoor
