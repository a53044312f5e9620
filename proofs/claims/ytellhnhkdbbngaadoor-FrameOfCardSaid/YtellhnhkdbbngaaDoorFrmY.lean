/- Frame: the walks of FrameOf, FrameBack. -/
import Derived.Test.YtellhnhkdbbngaaDoorFrmX
namespace Go.Proofs.YtellhnhkdbbngaaDoor
open Go.RowKit
set_option linter.unusedVariables false

theorem wordN_of {W : Int} (h0 : 0 ≤ W) (h1 : W < 4294967296) : wordN (W % 536870912) (nOf W) = W := by
  unfold wordN nOf
  have e1 : wE W = decide (W / 2147483648 % 2 = 1) := rfl
  have e2 : wR W = decide (W / 1073741824 % 2 = 1) := rfl
  have e3 : wX W = decide (W / 536870912 % 2 = 1) := rfl
  cases he : wE W <;> cases hr : wR W <;> cases hx : wX W <;> rw [he] at e1 <;> rw [hr] at e2 <;> rw [hx] at e3 <;> have e1 := e1.symm <;> have e2 := e2.symm <;> have e3 := e3.symm <;> simp at e1 e2 e3 <;> simp [b01, fE, fR, fX] <;> omega

set_option maxHeartbeats 4000000 in
theorem frameOf_walk (W : Int) (d : ByteArray) (wW : (Lit.int .u32 W).wf = true) (wd : d.size ≤ maxLen) (w : World) (hT : Tabs w) :
    Calls Tryd.prog 5 #[.int .u32 W, .string d] w fun e w' => e = .returned (.bool true) ∧ Below w.heap.size w w' := by
  obtain ⟨h0, h1⟩ : 0 ≤ W ∧ W < 4294967296 := by have := Go.bounds_u32 wW; omega
  have HT := Lib.hid hT
  have HD := Lib.hid wd
  clear hT wW wd
  by_cases hl : (100 : Int) < d.size
  · go_enter Tryd.func5, Tryd.ntmps5
    go_wp2_with fail
    refine (falive_any _ HT.out).mono ?_
    rintro e w1 ⟨rfl, hb1⟩
    go_wp2
    go_ret
    exact ⟨rfl, hb1⟩
  · have HW : Hid (wordN (W % 536870912) (nOf W) = W) := Lib.hid (wordN_of h0 h1)
    cases ho : okOf W d
    · have HO := Lib.hid ho
      clear ho
      go_enter Tryd.func5, Tryd.ntmps5
      go_wp2_with fail
      refine (of_f h0 h1 HD.out HO.out _ HT.out).mono ?_
      rintro e w1 ⟨rfl, hb1⟩
      have T1 := Lib.hid (HT.out.below hb1)
      go_wp2_with fail
      refine (rof_f h0 h1 HD.out HO.out _).mono ?_
      rintro e w2 ⟨rfl, hb2⟩
      obtain ⟨hc2, hf2⟩ := fbcell hb2
      have T2 := Lib.hid ((T1.out.alloc _).below hb2)
      have z2 : w1.heap.size < w2.heap.size := by have := hb2.size; simp only [World.size_alloc] at this; omega
      go_wp2_with fail
      refine (falive_any _ (T2.out.alloc _)).mono ?_
      rintro e w3 ⟨rfl, hb3⟩
      go_wp2
      go_ret
      exact ⟨rfl, fbelow_t (fbelow_t hb1 (fbelow_a _ hb2)) (fbelow_a _ hb3)⟩
    · have HO := Lib.hid ho
      have hok : okF (W % 536870912) (nOf W) d.size (dOf W d).size = true := ho
      have HK := Lib.hid hok
      have HF := Lib.hid (of_t h0 h1 HD.out ho)
      have HR := Lib.hid (rof_t h0 h1 HD.out ho)
      obtain ⟨I, hI⟩ : ∃ I, W % 536870912 = I := ⟨_, rfl⟩
      obtain ⟨n, hn⟩ : ∃ n, nOf W = n := ⟨_, rfl⟩
      obtain ⟨dd, hdd⟩ : ∃ dd, dOf W d = dd := ⟨_, rfl⟩
      rw [hI, hn, hdd] at HK HF HR
      rw [hI, hn] at HW
      clear ho hok hI hn hdd
      go_enter Tryd.func5, Tryd.ntmps5
      go_wp2_with fail
      refine (HF.out _ HT.out).mono ?_
      rintro e w1 ⟨rfl, hb1⟩
      have T1 := Lib.hid (HT.out.below hb1)
      go_wp2_with fail
      refine (HR.out _).mono ?_
      rintro e w2 ⟨rfl, hb2⟩
      obtain ⟨hc2, hf2⟩ := fbcell hb2
      have T2 := Lib.hid ((T1.out.alloc _).below hb2)
      have z2 : w1.heap.size < w2.heap.size := by have := hb2.size; simp only [World.size_alloc] at this; omega
      go_wp2_with fail
      refine (word_t HK.out _ (T2.out.alloc _)).mono ?_
      rw [HW.out]
      rintro e w3 ⟨rfl, hb3⟩
      have T3 := Lib.hid ((T2.out.alloc _).below hb3)
      go_wp2_with fail
      refine (falive_any _ T3.out).mono ?_
      rintro e w4 ⟨rfl, hb4⟩
      go_wp2
      go_ret
      exact ⟨rfl, fbelow_t (fbelow_t (fbelow_t hb1 (fbelow_a _ hb2)) (fbelow_a _ hb3)) hb4⟩

end Go.Proofs.YtellhnhkdbbngaaDoor
