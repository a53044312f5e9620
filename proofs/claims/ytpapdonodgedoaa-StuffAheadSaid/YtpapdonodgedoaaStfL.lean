/- Stuff: walk of StuffAhead. -/
import Derived.Test.YtpapdonodgedoaaStfK
namespace Go.Proofs.Ytpapdonodgedoaa
open Go.RowKit
set_option linter.unusedVariables false

set_option maxHeartbeats 4000000 in
theorem stuffAhead_walk (s t : ByteArray) (ws : s.size ≤ maxLen) (wt : t.size ≤ maxLen) (w : World) :
    Calls Try.prog 7 #[.string s, .string t] w fun e w' => e = .returned (.bool true) ∧ Below w.heap.size w w' := by
  by_cases hl : (500 : Int) < s.size
  · go_enter Try.func7, Try.ntmps7
    go_wp2_with fail
    refine (salive_any _).mono ?_
    rintro e w1 ⟨rfl, hb1⟩
    go_wp2
    go_ret
    exact ⟨rfl, hb1⟩
  have hl2 : (s.size : Int) ≤ 500 := by omega
  clear hl ws
  by_cases hl : (500 : Int) < t.size
  · go_enter Try.func7, Try.ntmps7
    go_wp2_with fail
    refine (salive_any _).mono ?_
    rintro e w1 ⟨rfl, hb1⟩
    go_wp2
    go_ret
    exact ⟨rfl, hb1⟩
  have hl3 : (t.size : Int) ≤ 500 := by omega
  clear hl wt
  cases hq : bitsB (byL s)
  · have HQ := Lib.hid hq
    clear hq
    go_enter Try.func7, Try.ntmps7
    go_wp2_with fail
    refine (cright_v HQ.out _).mono ?_
    rintro e w1 ⟨rfl, hb1⟩
    have HB1 := Lib.hid hb1
    clear hb1
    go_wp2_with fail
    refine (salive_any _).mono ?_
    rintro e w9 ⟨rfl, hb9⟩
    go_wp2
    go_ret
    exact ⟨rfl, fbelow_t HB1.out hb9⟩
  cases hr : bitsB (byL t)
  · have HQ := Lib.hid hq
    have HR := Lib.hid hr
    clear hq hr
    go_enter Try.func7, Try.ntmps7
    go_wp2_with fail
    refine (cright_v HQ.out _).mono ?_
    rintro e w1 ⟨rfl, hb1⟩
    have HB1 := Lib.hid hb1
    clear hb1
    go_wp2_with fail
    refine (cright_v HR.out _).mono ?_
    rintro e w2 ⟨rfl, hb2⟩
    have HB2 := Lib.hid (fbelow_t HB1.out hb2)
    clear hb2
    go_wp2_with fail
    refine (salive_any _).mono ?_
    rintro e w9 ⟨rfl, hb9⟩
    go_wp2
    go_ret
    exact ⟨rfl, fbelow_t HB2.out hb9⟩
  have HQ := Lib.hid hq
  have HR := Lib.hid hr
  have hqr : bitsB (byL (s ++ t)) = true := by rw [byL_app, bitsB_app, hq, hr]; rfl
  obtain ⟨a, ha⟩ : ∃ a, stuffS (byL s) = a := ⟨_, rfl⟩
  have HA := Lib.hid ha
  have hba : byL a = stuffL (byL s) := by rw [← ha, ← stuffS_t hq, byL_nums (isBy_bits (stuffL_bits hq))]
  obtain ⟨b, hb⟩ : ∃ b, stuffS (byL (s ++ t)) = b := ⟨_, rfl⟩
  have HB := Lib.hid hb
  have hbb : byL b = stuffL (byL s ++ byL t) := by rw [← hb, ← stuffS_t hqr, byL_nums (isBy_bits (stuffL_bits hqr)), byL_app]
  obtain ⟨R, hR, hRl⟩ := stuff_ahead (byL s) (byL t)
  rw [hR, ← hba] at hbb
  have h1 := (stuff_len (byL s)).1
  rw [← hba, byL_len, byL_len] at h1
  have h2 := (stuff_len (byL (s ++ t))).1
  rw [show stuffL (byL (s ++ t)) = byL b by rw [byL_app, hbb, hR, hba]] at h2
  have h3 := congrArg List.length hbb
  rw [List.length_append, byL_len, byL_len] at h3
  rw [byL_len] at hRl
  rw [byL_len, byL_len] at h2
  have hst : (s ++ t).size = s.size + t.size := by rw [← byL_len, byL_app, List.length_append, byL_len, byL_len]
  rw [hst] at h2
  have hx : b.extract 0 a.size = a := byL_inj (by rw [byL_extract, List.drop_zero, hbb, ← byL_len, List.take_left])
  have hle : a.size ≤ b.size := by omega
  have hcut : ∀ w, (Instr.sliceAt 9 (.string b) none (some (.int .i64 (a.size : Int))) none).run Try.prog w = .ok (.string (b.extract 0 a.size)) w := fun w => cut_ahead (k := a.size) hle w
  rw [hx] at hcut
  have d1 : decide ((a.size : Int) + t.size ≤ b.size) = true := by simp; omega
  have hz1 : (a.size : Int) ≤ 625 := by omega
  have hz2 : (b.size : Int) ≤ 1250 := by omega
  have HZ : Hid ((s ++ t).size ≤ 1000000) := Lib.hid (by omega)
  have HZ1 : Hid (s.size ≤ 1000000) := Lib.hid (by omega)
  have ea := seq_self a
  clear ha hba hb hbb hR hRl h1 h2 h3 hst hx hle hq hr hqr
  go_enter Try.func7, Try.ntmps7
  go_wp2_with fail
  refine (cright_v HQ.out _).mono ?_
  rintro e w1 ⟨rfl, hb1⟩
  have HB1 := Lib.hid hb1
  clear hb1
  go_wp2_with fail
  refine (cright_v HR.out _).mono ?_
  rintro e w2 ⟨rfl, hb2⟩
  have HB2 := Lib.hid (fbelow_t HB1.out hb2)
  clear hb2
  go_wp2_with fail
  refine (cstuff_v HA.out HZ1.out _).mono ?_
  rintro e w3 ⟨rfl, hb3⟩
  have HB3 := Lib.hid (fbelow_t HB2.out hb3)
  clear hb3
  go_wp2_with fail
  refine (cstuff_v HB.out HZ.out _).mono ?_
  rintro e w4 ⟨rfl, hb4⟩
  have HB4 := Lib.hid (fbelow_t HB3.out hb4)
  clear hb4
  go_wp2_with fail
  refine (salive_any _).mono ?_
  rintro e w9 ⟨rfl, hb9⟩
  go_wp2
  go_ret
  exact ⟨rfl, fbelow_t HB4.out hb9⟩

end Go.Proofs.Ytpapdonodgedoaa
