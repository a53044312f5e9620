/- Wire: the walk of WireDecodes. -/
import Derived.Test.YtimlaopmhcipmaaDoorWirW
namespace Go.Proofs.YtimlaopmhcipmaaDoor
open Go.RowKit
set_option linter.unusedVariables false

set_option maxHeartbeats 2000000 in
theorem wireDecodes_walk (s : ByteArray) (ws : s.size ≤ maxLen) (w : World) (hT1 : Tabs w) (hT2 : TabW w) :
    Calls Tryd.prog 4 #[.string s] w fun e w' => e = .returned (.bool true) ∧ Below w.heap.size w w' := by
  have HT : Hid (TabA w) := Lib.hid ⟨hT1, hT2⟩
  have HS := Lib.hid ws
  clear hT1 hT2
  by_cases hl : (200 : Int) < s.size
  · clear ws
    go_enter Tryd.func4, Tryd.ntmps4
    go_wp2_with fail
    refine (walive_any _ HT.out).mono ?_
    rintro e w1 ⟨rfl, hb1⟩
    go_wp2
    go_ret
    exact ⟨rfl, hb1⟩
  have hl2 : (s.size : Int) ≤ 200 := by omega
  clear hl
  cases ho : decOk s
  · clear ws
    have HO := Lib.hid ho
    obtain ⟨v, hv⟩ : ∃ v, longN s = v := ⟨_, rfl⟩
    have HV := Lib.hid hv
    have vv : (v == v) = true := by simp
    have vn : (v != v) = false := by simp
    have es := seq_self s
    clear ho hv
    go_enter Tryd.func4, Tryd.ntmps4
    go_wp2_with fail
    refine (decode_f HS.out HO.out _ HT.out).mono ?_
    rintro e w1 ⟨rfl, hb1⟩
    have HB1 := Lib.hid hb1
    have T1 : Hid (TabA w1) := Lib.hid (HT.out.below hb1)
    go_wp2_with fail
    refine (rdec_f HS.out HO.out _).mono ?_
    rintro e w2 ⟨rfl, hb2⟩
    obtain ⟨hc2, hf2⟩ := fbcell hb2
    have hz2 : w1.heap.size < w2.heap.size := by have := hb2.size; simp only [World.size_alloc] at this; omega
    have HB2 := Lib.hid (fbelow_t (Below.allocL HB1.out _) hb2)
    have T2 : Hid (TabA w2) := Lib.hid ((T1.out.alloc _).below hb2)
    go_wp2_with fail
    refine (long_v HV.out HS.out _).mono ?_
    rintro e w3 ⟨rfl, rfl⟩
    go_wp2_with fail
    refine (rlong_v HV.out HS.out _).mono ?_
    rintro e w3 ⟨rfl, rfl⟩
    go_wp2_with fail
    refine (walive_any _ (T2.out.alloc _)).mono ?_
    rintro e w4 ⟨rfl, hb4⟩
    go_wp2
    go_ret
    exact ⟨rfl, fbelow_t (Below.allocL HB2.out _) hb4⟩
  · have HO := Lib.hid ho
    obtain ⟨v, hv⟩ : ∃ v, longN s = v := ⟨_, rfl⟩
    have HV := Lib.hid hv
    have vv : (v == v) = true := by simp
    have vn : (v != v) = false := by simp
    have es := seq_self s
    have HK : Hid ((decF s).ok = true) := Lib.hid (dec_ok ho)
    have HE : Hid (encS (decF s) = s) := Lib.hid (dec_enc ho)
    obtain ⟨f, hf⟩ : ∃ f, decF s = f := ⟨_, rfl⟩
    have hd := decode_t ho
    have hr := rdec_t ws ho
    rw [hf] at hd hr HK HE
    have HD := Lib.hid hd
    have HR := Lib.hid hr
    have ed := seq_self f.d
    clear hd hr hf
    clear ho hv
    go_enter Tryd.func4, Tryd.ntmps4
    go_wp2_with fail
    refine (HD.out _ HT.out).mono ?_
    rintro e w1 ⟨rfl, hb1⟩
    have HB1 := Lib.hid hb1
    have T1 : Hid (TabA w1) := Lib.hid (HT.out.below hb1)
    go_wp2_with fail
    refine (HR.out _).mono ?_
    rintro e w2 ⟨rfl, hb2⟩
    obtain ⟨hc2, hf2⟩ := fbcell hb2
    have hz2 : w1.heap.size < w2.heap.size := by have := hb2.size; simp only [World.size_alloc] at this; omega
    have HB2 := Lib.hid (fbelow_t (Below.allocL HB1.out _) hb2)
    have T2 : Hid (TabA w2) := Lib.hid ((T1.out.alloc _).below hb2)
    go_wp2_with fail
    refine (long_v HV.out HS.out _).mono ?_
    rintro e w3 ⟨rfl, rfl⟩
    go_wp2_with fail
    refine (rlong_v HV.out HS.out _).mono ?_
    rintro e w3 ⟨rfl, rfl⟩
    go_wp2_with fail
    refine (encode_v (f := f) HK.out HE.out _ (T2.out.alloc _)).mono ?_
    rintro e w3 ⟨rfl, hb3⟩
    have HB3 := Lib.hid (fbelow_t (Below.allocL HB2.out _) hb3)
    have T3 : Hid (TabA w3) := Lib.hid ((T2.out.alloc _).below hb3)
    go_wp2_with fail
    refine (walive_any _ T3.out).mono ?_
    rintro e w4 ⟨rfl, hb4⟩
    go_wp2
    go_ret
    exact ⟨rfl, fbelow_t HB3.out hb4⟩

end Go.Proofs.YtimlaopmhcipmaaDoor
