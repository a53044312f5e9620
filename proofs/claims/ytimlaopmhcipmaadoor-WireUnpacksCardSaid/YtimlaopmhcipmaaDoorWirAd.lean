/- Wire: the walk of WireUnpacks. -/
import Derived.Test.YtimlaopmhcipmaaDoorWirAc
namespace Go.Proofs.YtimlaopmhcipmaaDoor
open Go.RowKit
set_option linter.unusedVariables false

theorem unpack_t {s : ByteArray} {L : List Fr} {q : Nat} (hs : s.size ≤ 3000) (h : unpR s = (L, q, true)) (w : World) (hT : TabA w) :
    Calls Tryd.prog 18 #[.string s] w fun e w' => Below w.heap.size w w' ∧ ∃ v, e = .returned (.tuple #[v, .int .i64 0, .int .i64 0]) ∧ SlF w' w'.heap.size v L := by
  refine (unpack_any hs w hT).mono ?_
  rw [h]
  rintro e w' ⟨hb, ⟨_, v, he, hv⟩ | ⟨hn, _⟩⟩
  · exact ⟨hb, v, he, hv⟩
  · cases hn
theorem unpack_f {s : ByteArray} {L : List Fr} {q : Nat} (hs : s.size ≤ 3000) (h : unpR s = (L, q, false)) (w : World) (hT : TabA w) :
    Calls Tryd.prog 18 #[.string s] w fun e w' => Below w.heap.size w w' ∧ e = .returned (.tuple #[.slice none 0 0, .int .i64 q, .int .i64 3]) := by
  refine (unpack_any hs w hT).mono ?_
  rw [h]
  rintro e w' ⟨hb, ⟨hn, _⟩ | ⟨_, he⟩⟩
  · cases hn
  · exact ⟨hb, he⟩
theorem runp_t {s : ByteArray} {L : List Fr} {q : Nat} (hs : s.size ≤ 3000) (h : unpR s = (L, q, true)) (w : World) :
    Calls Tryd.prog 20 #[.string s] w fun e w' => Below w.heap.size w w' ∧ ∃ v, e = .returned (.tuple #[v, .int .i64 0, .bool true]) ∧ SlF w' w'.heap.size v L := by
  refine (runp_any hs w).mono ?_
  rw [h]
  rintro e w' ⟨hb, ⟨_, v, he, hv⟩ | ⟨hn, _⟩⟩
  · exact ⟨hb, v, he, hv⟩
  · cases hn
theorem runp_f {s : ByteArray} {L : List Fr} {q : Nat} (hs : s.size ≤ 3000) (h : unpR s = (L, q, false)) (w : World) :
    Calls Tryd.prog 20 #[.string s] w fun e w' => Below w.heap.size w w' ∧ e = .returned (.tuple #[.slice none 0 0, .int .i64 q, .bool false]) := by
  refine (runp_any hs w).mono ?_
  rw [h]
  rintro e w' ⟨hb, ⟨hn, _⟩ | ⟨_, he⟩⟩
  · cases hn
  · exact ⟨hb, he⟩
theorem pack_v {L : List Fr} {v : Value} {S : ByteArray} (hS : packS L = S) (w : World) (hT : TabA w) (h : SlF w w.heap.size v L) (hok : ∀ f ∈ L, f.ok = true) (hlen : L.length ≤ 1000) :
    Calls Tryd.prog 17 #[v] w fun e w' => e = .returned (.tuple #[.string S, .int .i64 0, .int .i64 0]) ∧ Below w.heap.size w w' := by rw [← hS]; exact pack_t w hT h hok hlen

set_option maxHeartbeats 2000000 in
theorem wireUnpacks_walk (s : ByteArray) (ws : s.size ≤ maxLen) (w : World) (hT1 : Tabs w) (hT2 : TabW w) :
    Calls Tryd.prog 7 #[.string s] w fun e w' => e = .returned (.bool true) ∧ Below w.heap.size w w' := by
  have HT : Hid (TabA w) := Lib.hid ⟨hT1, hT2⟩
  clear hT1 hT2 ws
  by_cases hl : (1000 : Int) < s.size
  · go_enter Tryd.func7, Tryd.ntmps7
    go_wp2_with fail
    refine (walive_any _ HT.out).mono ?_
    rintro e w1 ⟨rfl, hb1⟩
    go_wp2
    go_ret
    exact ⟨rfl, hb1⟩
  have hl2 : (s.size : Int) ≤ 1000 := by omega
  have HS : Hid (s.size ≤ 3000) := Lib.hid (by omega)
  clear hl
  obtain ⟨L, q, ok, hR⟩ : ∃ L q ok, unpR s = (L, q, ok) := ⟨_, _, _, rfl⟩
  cases ok
  · have HR := Lib.hid hR
    have eq : ((q : Int) != (q : Int)) = false := by simp
    have eq2 : ((q : Int) == (q : Int)) = true := by simp
    clear hR
    go_enter Tryd.func7, Tryd.ntmps7
    go_wp2_with fail
    refine (unpack_f HS.out HR.out _ HT.out).mono ?_
    rintro e w1 ⟨hb1, rfl⟩
    have HB1 := Lib.hid hb1
    have T1 : Hid (TabA w1) := Lib.hid (HT.out.below hb1)
    clear hb1
    go_wp2_with fail
    refine (runp_f HS.out HR.out _).mono ?_
    rintro e w2 ⟨hb2, rfl⟩
    have HB2 := Lib.hid (fbelow_t HB1.out hb2)
    have T2 : Hid (TabA w2) := Lib.hid (T1.out.below hb2)
    clear hb2
    go_wp2_with fail
    refine (same_t (L := []) _ (SlG.nil _ _ _ 0) (SlG.nil _ _ _ 0)).mono ?_
    rintro e w3 ⟨rfl, m, rfl⟩
    go_wp2_with fail
    refine (walive_any _ (T2.out.drewN _)).mono ?_
    rintro e w4 ⟨rfl, hb4⟩
    have HB4 := Lib.hid (fbelow_t (below_drewN HB2.out _) hb4)
    clear hb4
    go_wp2
    go_ret
    exact ⟨rfl, HB4.out⟩
  · have HR := Lib.hid hR
    obtain ⟨hp, hk⟩ := unp_packs hR
    have HP := Lib.hid hp
    have HK := Lib.hid hk
    have HL : Hid (L.length ≤ 1000) := Lib.hid (by have h1 := packL_ge L; have h2 := packS_size L; rw [hp] at h2; omega)
    have es := seq_self s
    clear hR hp hk
    go_enter Tryd.func7, Tryd.ntmps7
    go_wp2_with fail
    refine (unpack_t HS.out HR.out _ HT.out).mono ?_
    rintro e w1 ⟨hb1, v1, rfl, hv1⟩
    have HB1 := Lib.hid hb1
    have T1 : Hid (TabA w1) := Lib.hid (HT.out.below hb1)
    have V1 := Lib.hid hv1
    clear hb1 hv1
    go_wp2_with fail
    refine (runp_t HS.out HR.out _).mono ?_
    rintro e w2 ⟨hb2, v2, rfl, hv2⟩
    have HB2 := Lib.hid (fbelow_t HB1.out hb2)
    have T2 : Hid (TabA w2) := Lib.hid (T1.out.below hb2)
    have V2 := Lib.hid (V1.out.later hb2)
    have U2 := Lib.hid hv2
    clear hb2 hv2
    go_wp2_with fail
    refine (same_t _ V2.out U2.out).mono ?_
    rintro e w3 ⟨rfl, m, rfl⟩
    go_wp2_with fail
    refine (pack_v HP.out _ (T2.out.drewN _) (V2.out.drewN _) HK.out HL.out).mono ?_
    rintro e w4 ⟨rfl, hb4⟩
    have HB4 := Lib.hid (fbelow_t (below_drewN HB2.out m) hb4)
    have T4 : Hid (TabA w4) := Lib.hid ((T2.out.drewN m).below hb4)
    clear hb4
    go_wp2_with fail
    refine (walive_any _ T4.out).mono ?_
    rintro e w5 ⟨rfl, hb5⟩
    have HB5 := Lib.hid (fbelow_t HB4.out hb5)
    clear hb5
    go_wp2
    go_ret
    exact ⟨rfl, HB5.out⟩

end Go.Proofs.YtimlaopmhcipmaaDoor
