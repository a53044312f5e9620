/- Frame: the walk of FrameRight. -/
import Derived.Test.YtellhnhkdbbngaaDoorFrmL
import Derived.OpenShut
namespace Go.Proofs.YtellhnhkdbbngaaDoor
open Go.RowKit
set_option linter.unusedVariables false

theorem Later.tabs {W : World} (n : Later W) (h : Tabs W) : Tabs n.w := h.below n.h

set_option maxHeartbeats 4000000 in
theorem frameRight_walk (i n l : Int) (d : ByteArray) (_wi : (Lit.int .i64 i).wf = true) (wn : (Lit.int .i64 n).wf = true) (_wl : (Lit.int .i64 l).wf = true) (_wd : d.size ≤ maxLen) (w : World) (hT : Tabs w) :
    Calls Tryd.prog 3 #[.agg #[.int .i64 i, .int .i64 n, .int .i64 l, .string d]] w fun e w' => e = .returned (.bool true) ∧ Below w.heap.size w w' := by
  obtain ⟨hn1, hn2⟩ := Go.bounds_i64 wn
  have HN := Lib.hid (And.intro hn1 hn2)
  have HT := Lib.hid hT
  have hl := later_cells
  obtain ⟨v, hv⟩ : ∃ v, wordV i n l d.size = v := ⟨_, rfl⟩
  have HV := Lib.hid hv
  clear hT wn _wi _wl _wd hn1 hn2 hv
  cases ho : okF i n l d.size
  · have HO := Lib.hid ho
    clear ho
    go_enter Tryd.func3, Tryd.ntmps3
    go_wp2_with fail
    refine wp_region_later (by kernel_rfl) (by kernel_rfl) ?_
    repeat (go_big_quiet_step (fail))
    go_big_quiet_step (exact Later.call (right_f HO.out _ (Later.tabs _ (HT.out.alloc _)) HN.out.1 HN.out.2))
    repeat (go_big_quiet_step (fail))
    go_big_quiet_step (exact Later.call (rright_v HO.out _))
    repeat (go_big_quiet_step (fail))
    go_big_quiet_step (exact Later.call (rright_v HO.out _))
    repeat (go_big_quiet_step (fail))
    go_big_quiet_step (exact Later.call (right_f HO.out _ (Later.tabs _ (HT.out.alloc _)) HN.out.1 HN.out.2))
    repeat (go_big_quiet_step (fail))
    go_big_quiet_step (exact Later.call (word_v HV.out _ (Later.tabs _ (HT.out.alloc _)) HN.out.1 HN.out.2))
    repeat (go_big_quiet_step (fail))
    go_big_quiet_step (exact Later.call (rword_v HV.out _))
    repeat (go_big_quiet_step (fail))
    go_big_quiet_step (exact Later.call (falive_any _ (Later.tabs _ (HT.out.alloc _))))
    repeat (go_big_quiet_step (fail))
    refine wpQuiet_nil ?_
    rintro w1 ⟨m, rfl⟩
    go_wp2
    go_ret
    exact ⟨rfl, fbelow_a _ m.h⟩
  · have HO := Lib.hid ho
    clear ho
    go_enter Tryd.func3, Tryd.ntmps3
    go_wp2_with fail
    refine wp_region_later (by kernel_rfl) (by kernel_rfl) ?_
    repeat (go_big_quiet_step (fail))
    go_big_quiet_step (exact Later.call (right_t HO.out _ (Later.tabs _ (HT.out.alloc _))))
    repeat (go_big_quiet_step (fail))
    go_big_quiet_step (exact Later.call (rright_v HO.out _))
    repeat (go_big_quiet_step (fail))
    go_big_quiet_step (exact Later.call (rright_v HO.out _))
    repeat (go_big_quiet_step (fail))
    go_big_quiet_step (exact Later.call (word_v HV.out _ (Later.tabs _ (HT.out.alloc _)) HN.out.1 HN.out.2))
    repeat (go_big_quiet_step (fail))
    go_big_quiet_step (exact Later.call (rword_v HV.out _))
    repeat (go_big_quiet_step (fail))
    go_big_quiet_step (exact Later.call (falive_any _ (Later.tabs _ (HT.out.alloc _))))
    repeat (go_big_quiet_step (fail))
    refine wpQuiet_nil ?_
    rintro w1 ⟨m, rfl⟩
    go_wp2
    go_ret
    exact ⟨rfl, fbelow_a _ m.h⟩

end Go.Proofs.YtellhnhkdbbngaaDoor
