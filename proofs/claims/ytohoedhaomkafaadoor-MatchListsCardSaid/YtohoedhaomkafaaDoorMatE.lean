/- Match: the chapter's example; walks of MatchWitness, MatchCovers, MatchOrder. (Printed by gen_e.py.) -/
import Derived.Test.YtohoedhaomkafaaDoorMatD
namespace Go.Proofs.YtohoedhaomkafaaDoor
open Go.RowKit
set_option linter.unusedVariables false

theorem least_no {P : Nat → Bool} (h : ∀ u, u < 4294967296 → P u = false) : Least P 0 false := .inr ⟨rfl, rfl, h⟩
theorem Least.no {P : Nat → Bool} {c : Nat} (h : Least P c false) : c = 0 ∧ ∀ u, u < 4294967296 → P u = false := by
  rcases h with ⟨hq, _⟩ | ⟨_, hc, hl⟩
  · cases hq
  · exact ⟨hc, hl⟩
theorem Least.yes {P : Nat → Bool} {c : Nat} (h : Least P c true) : c < 4294967296 ∧ P c = true ∧ ∀ u, u < c → P u = false := by
  rcases h with ⟨_, hc, hp, hl⟩ | ⟨hq, _⟩
  · exact ⟨hc, hp, hl⟩
  · cases hq
theorem ex_some : Least (bothN (turnF ⟨257, 2047, false⟩) ⟨256, 1792, false⟩) 256 true := by
  refine .inl ⟨rfl, by decide, by decide, fun u hu => ?_⟩
  rw [both_turn]
  cases h : hitN ⟨256, 1792, false⟩ u
  · rfl
  · exfalso
    have := (hit_pos (f := ⟨256, 1792, false⟩) rfl u).1 h 8 (by decide)
    have h2 := Nat.ge_two_pow_of_testBit (x := u) (i := 8) (this.trans (by decide))
    omega
theorem ex_none : Least (bothN (turnF ⟨256, 1792, false⟩) ⟨257, 2047, false⟩) 0 false := by
  refine least_no fun u hu => ?_
  rw [both_turn]
  cases h : hitN ⟨257, 2047, false⟩ u
  · rfl
  · have hs := (hit_pos (f := ⟨257, 2047, false⟩) rfl u).1 h
    have : hitN ⟨256, 1792, false⟩ u = true := by
      refine (hit_pos (f := ⟨256, 1792, false⟩) rfl u).2 fun k hk => ?_
      have hk' : (1792).testBit k = true := hk
      have hlt : k < 11 := by
        apply Decidable.byContradiction
        intro hn
        have h1 := Nat.ge_two_pow_of_testBit hk'
        have h2 : 2 ^ 11 ≤ 2 ^ k := Nat.pow_le_pow_right (by decide) (by omega)
        omega
      have key : ∀ k : Fin 11, (1792).testBit k.val = true → (2047).testBit k.val = true ∧ (257).testBit k.val = (256).testBit k.val := by decide
      have := key ⟨k, hlt⟩ hk'
      exact (hs k this.1).trans this.2
    rw [this]
    rfl

set_option maxRecDepth 100000 in
set_option maxHeartbeats 2000000 in
theorem malive_any (w : World) : Calls Tryd.prog 10 #[] w fun e w' => e = .returned (.bool true) ∧ Below w.heap.size w w' := by
  go_enter Tryd.func10, Tryd.ntmps10
  go_wp2_with fail
  refine (witness_v (a := ⟨257, 2047, false⟩) (b := ⟨256, 1792, false⟩) (c := 256) (q := true) ex_some ⟨by decide, by decide⟩ ⟨by decide, by decide⟩ _).mono ?_
  rintro e w1 ⟨rfl, hb1⟩
  obtain ⟨hc1, hf1⟩ := fbcell hb1
  have z1_0 : w.heap.size < w1.heap.size := by have := hb1.size; simp only [World.size_alloc] at this; omega
  have z1_1 : w.heap.size + 1 < w1.heap.size := by have := hb1.size; simp only [World.size_alloc] at this; omega
  have HB1 : Hid (Below w.heap.size w w1) := Lib.hid (fbelow_a _ (fbelow_a _ (hb1)))
  go_wp2_with fail
  refine (mhit_v (f := ⟨256, 1792, false⟩) (u := 256) (q := true) (by decide) ⟨by decide, by decide⟩ (by decide) _).mono ?_
  rintro e w2 ⟨rfl, hb2⟩
  obtain ⟨hc2, hf2⟩ := fbcell hb2
  have z2_0 : w.heap.size < w2.heap.size := Nat.lt_of_lt_of_le z1_0 hb2.size
  have z2_1 : w.heap.size + 1 < w2.heap.size := Nat.lt_of_lt_of_le z1_1 hb2.size
  have HB2 : Hid (Below w.heap.size w w2) := Lib.hid (fbelow_t HB1.out hb2)
  clear hb2
  go_wp2_with fail
  refine (mhit_v (f := ⟨256, 1792, false⟩) (u := 511) (q := true) (by decide) ⟨by decide, by decide⟩ (by decide) _).mono ?_
  rintro e w3 ⟨rfl, hb3⟩
  obtain ⟨hc3, hf3⟩ := fbcell hb3
  have z3_0 : w.heap.size < w3.heap.size := Nat.lt_of_lt_of_le z2_0 hb3.size
  have z3_1 : w.heap.size + 1 < w3.heap.size := Nat.lt_of_lt_of_le z2_1 hb3.size
  have HB3 : Hid (Below w.heap.size w w3) := Lib.hid (fbelow_t HB2.out hb3)
  clear hb3
  go_wp2_with fail
  refine (mhit_v (f := ⟨256, 1792, false⟩) (u := 512) (q := false) (by decide) ⟨by decide, by decide⟩ (by decide) _).mono ?_
  rintro e w4 ⟨rfl, hb4⟩
  obtain ⟨hc4, hf4⟩ := fbcell hb4
  have z4_0 : w.heap.size < w4.heap.size := Nat.lt_of_lt_of_le z3_0 hb4.size
  have z4_1 : w.heap.size + 1 < w4.heap.size := Nat.lt_of_lt_of_le z3_1 hb4.size
  have HB4 : Hid (Below w.heap.size w w4) := Lib.hid (fbelow_t HB3.out hb4)
  clear hb4
  go_wp2_with fail
  refine (covers_v (a := ⟨256, 1792, false⟩) (b := ⟨257, 2047, false⟩) (c := 0) (q := false) ex_none ⟨by decide, by decide⟩ ⟨by decide, by decide⟩ _).mono ?_
  rintro e w5 ⟨rfl, hb5⟩
  obtain ⟨hc5, hf5⟩ := fbcell hb5
  have z5_0 : w.heap.size < w5.heap.size := Nat.lt_of_lt_of_le z4_0 hb5.size
  have z5_1 : w.heap.size + 1 < w5.heap.size := Nat.lt_of_lt_of_le z4_1 hb5.size
  have HB5 : Hid (Below w.heap.size w w5) := Lib.hid (fbelow_t HB4.out hb5)
  clear hb5
  go_wp2
  go_ret
  exact ⟨rfl, HB5.out⟩

theorem cover_self (a : Flt) : Least (bothN (turnF a) a) 0 false := least_no fun u _ => by rw [both_turn]; cases hitN a u <;> rfl
theorem cover_all (a : Flt) : Least (bothN (turnF ⟨0, 0, false⟩) a) 0 false := least_no fun u _ => by
  rw [both_turn]
  have : hitN ⟨0, 0, false⟩ u = true := by unfold hitN; simp
  rw [this]; cases hitN a u <;> rfl
theorem cover_none (a : Flt) : Least (bothN (turnF a) ⟨0, 0, true⟩) 0 false := least_no fun u _ => by
  rw [both_turn]
  have : hitN ⟨0, 0, true⟩ u = false := by unfold hitN; simp
  rw [this]; rfl
theorem cover_on {a b c : Flt} {x y : Nat} (h : Least (bothN (turnF a) b) x false) (h' : Least (bothN (turnF b) c) y false) : Least (bothN (turnF a) c) 0 false := least_no fun u hu => by
  have h1 := h.no.2 u hu
  have h2 := h'.no.2 u hu
  rw [both_turn] at h1 h2 ⊢
  revert h1 h2
  cases hitN a u <;> cases hitN b u <;> cases hitN c u <;> simp

end Go.Proofs.YtohoedhaomkafaaDoor
