/- Stuff: the chapter's examples; walks of the five laws. -/
import Derived.Test.YtpapdonodgedoaaStfH
import Derived.Test.YtpapdonodgedoaaStfI
namespace Go.Proofs.Ytpapdonodgedoaa
open Go.RowKit
set_option linter.unusedVariables false

theorem cun_t {s u : ByteArray} {L : List Int} {n : Int} (h : unL (byL s) = (L, n)) (hu : strOfNums L = u) (hs : s.size ≤ 1000000) (w : World) :
    Calls Try.prog 17 #[.string s] w fun e w' => e = .returned (.tuple #[.string u, .int .i64 n]) ∧ Below w.heap.size w w' := by
  subst hu
  exact cunstuff_v h hs w
theorem sun_t {s u : ByteArray} {L : List Int} {n : Int} (h : unL (byL s) = (L, n)) (hu : strOfNums L = u) (hs : s.size ≤ 200000) (w : World) :
    Calls Try.prog 18 #[.string s] w fun e w' => e = .returned (.tuple #[.string u, .int .i64 n]) ∧ Below w.heap.size w w' := by
  subst hu
  exact sunstuff_v h hs w
set_option maxRecDepth 100000 in
theorem ex_un : unL (byL (ByteArray.mk #[49, 49, 49, 49, 49, 49])) = ([], 5) := by decide +kernel
set_option maxRecDepth 100000 in
theorem ex_st1 : stuffS (byL (ByteArray.mk #[49, 49, 49, 49, 49])) = ByteArray.mk #[49, 49, 49, 49, 49, 48] := by decide +kernel
set_option maxRecDepth 100000 in
theorem ex_st2 : stuffS (byL (ByteArray.mk #[48, 48, 48, 48, 48, 49, 49, 49, 49])) = ByteArray.mk #[48, 48, 48, 48, 48, 49, 49, 49, 49, 49, 48] := by decide +kernel

set_option maxHeartbeats 2000000 in
theorem salive_any (w : World) : Calls Try.prog 8 #[] w fun e w' => e = .returned (.bool true) ∧ Below w.heap.size w w' := by
  have e1 := seq_self (ByteArray.mk #[49, 49, 49, 49, 49, 48])
  have e2 := seq_self (ByteArray.mk #[48, 48, 48, 48, 48, 49, 49, 49, 49, 49, 48])
  go_enter Try.func8, Try.ntmps8
  go_wp2_with fail
  refine (cun_t ex_un (u := ByteArray.mk #[]) rfl (by decide) _).mono ?_
  rintro e w1 ⟨rfl, hb1⟩
  have HB1 := Lib.hid hb1
  clear hb1
  go_wp2_with fail
  refine (cstuff_v ex_st1 (by decide) _).mono ?_
  rintro e w2 ⟨rfl, hb2⟩
  have HB2 := Lib.hid (fbelow_t HB1.out hb2)
  clear hb2
  go_wp2_with fail
  refine (cstuff_v ex_st2 (by decide) _).mono ?_
  rintro e w3 ⟨rfl, hb3⟩
  have HB3 := Lib.hid (fbelow_t HB2.out hb3)
  clear hb3
  go_wp2
  go_ret
  exact ⟨rfl, HB3.out⟩

theorem turnS_eq (L : List Int) : (if bitsB L then strOfNums (L.map oth) else ByteArray.mk #[]) = turnS L := rfl

set_option maxHeartbeats 4000000 in
theorem stuffPuts_walk (s : ByteArray) (ws : s.size ≤ maxLen) (w : World) :
    Calls Try.prog 3 #[.string s] w fun e w' => e = .returned (.bool true) ∧ Below w.heap.size w w' := by
  by_cases hl : (400 : Int) < s.size
  · go_enter Try.func3, Try.ntmps3
    go_wp2_with fail
    refine (salive_any _).mono ?_
    rintro e w1 ⟨rfl, hb1⟩
    go_wp2
    go_ret
    exact ⟨rfl, hb1⟩
  have HS : Hid (s.size ≤ 100000) := Lib.hid (by omega)
  have HM := Lib.hid ws
  have hl2 : (s.size : Int) ≤ 400 := by omega
  clear hl ws
  obtain ⟨t, ht⟩ : ∃ t, stuffS (byL s) = t := ⟨_, rfl⟩
  have HT := Lib.hid ht
  obtain ⟨u, hu⟩ : ∃ u, turnS (byL s) = u := ⟨_, rfl⟩
  have HU := Lib.hid hu
  obtain ⟨n, hn⟩ : ∃ n, runL (byL s) = n := ⟨_, rfl⟩
  have HN := Lib.hid hn
  have et := seq_self t
  have eu := seq_self u
  have en : ((n : Int) == (n : Int)) = true := by simp
  clear ht hu hn
  cases hq : bitsB (byL s)
  · have HQ := Lib.hid hq
    clear hq
    go_enter Try.func3, Try.ntmps3
    go_wp2_with fail
    refine (cright_v HQ.out _).mono ?_
    rintro e w1 ⟨rfl, hb1⟩
    have HB1 := Lib.hid hb1
    clear hb1
    go_wp2_with fail
    refine (sright_v HQ.out HM.out _).mono ?_
    rintro e w2 ⟨rfl, rfl⟩
    go_wp2_with fail
    refine (cstuff_v HT.out (by have := HS.out; omega) _).mono ?_
    rintro e w3 ⟨rfl, hb3⟩
    have HB3 := Lib.hid (fbelow_t HB1.out hb3)
    clear hb3
    go_wp2_with fail
    refine (sstuff_v HT.out HS.out _).mono ?_
    rintro e w4 ⟨rfl, hb4⟩
    have HB4 := Lib.hid (fbelow_t HB3.out hb4)
    clear hb4
    go_wp2_with fail
    refine (cturn_v HU.out (by have := HS.out; omega) _).mono ?_
    rintro e w5 ⟨rfl, hb5⟩
    have HB5 := Lib.hid (fbelow_t HB4.out hb5)
    clear hb5
    go_wp2_with fail
    refine (sturn_v (turnS_eq _ ▸ HU.out) HS.out _).mono ?_
    rintro e w6 ⟨rfl, hb6⟩
    have HB6 := Lib.hid (fbelow_t HB5.out hb6)
    clear hb6
    go_wp2_with fail
    refine (sright_v HQ.out HM.out _).mono ?_
    rintro e w7 ⟨rfl, rfl⟩
    go_wp2_with fail
    refine (salive_any _).mono ?_
    rintro e w9 ⟨rfl, hb9⟩
    go_wp2
    go_ret
    exact ⟨rfl, fbelow_t HB6.out hb9⟩
  · have HQ := Lib.hid hq
    clear hq
    go_enter Try.func3, Try.ntmps3
    go_wp2_with fail
    refine (cright_v HQ.out _).mono ?_
    rintro e w1 ⟨rfl, hb1⟩
    have HB1 := Lib.hid hb1
    clear hb1
    go_wp2_with fail
    refine (sright_v HQ.out HM.out _).mono ?_
    rintro e w2 ⟨rfl, rfl⟩
    go_wp2_with fail
    refine (cstuff_v HT.out (by have := HS.out; omega) _).mono ?_
    rintro e w3 ⟨rfl, hb3⟩
    have HB3 := Lib.hid (fbelow_t HB1.out hb3)
    clear hb3
    go_wp2_with fail
    refine (sstuff_v HT.out HS.out _).mono ?_
    rintro e w4 ⟨rfl, hb4⟩
    have HB4 := Lib.hid (fbelow_t HB3.out hb4)
    clear hb4
    go_wp2_with fail
    refine (cturn_v HU.out (by have := HS.out; omega) _).mono ?_
    rintro e w5 ⟨rfl, hb5⟩
    have HB5 := Lib.hid (fbelow_t HB4.out hb5)
    clear hb5
    go_wp2_with fail
    refine (sturn_v (turnS_eq _ ▸ HU.out) HS.out _).mono ?_
    rintro e w6 ⟨rfl, hb6⟩
    have HB6 := Lib.hid (fbelow_t HB5.out hb6)
    clear hb6
    go_wp2_with fail
    refine (sright_v HQ.out HM.out _).mono ?_
    rintro e w7 ⟨rfl, rfl⟩
    go_wp2_with fail
    refine (crun_v HN.out HQ.out (by have := HS.out; omega) _).mono ?_
    rintro e w7 ⟨rfl, hb7⟩
    have HB7 := Lib.hid (fbelow_t HB6.out hb7)
    clear hb7
    go_wp2_with fail
    refine (srun_v HN.out (by have := HS.out; omega) _).mono ?_
    rintro e w8 ⟨rfl, hb8⟩
    have HB8 := Lib.hid (fbelow_t HB7.out hb8)
    clear hb8
    go_wp2_with fail
    refine (salive_any _).mono ?_
    rintro e w9 ⟨rfl, hb9⟩
    go_wp2
    go_ret
    exact ⟨rfl, fbelow_t HB8.out hb9⟩

end Go.Proofs.Ytpapdonodgedoaa
