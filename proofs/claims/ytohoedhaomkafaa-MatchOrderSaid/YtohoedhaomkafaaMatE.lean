/- Match: the chapter's example; walks of MatchWitness, MatchCovers, MatchOrder. (Printed by gen_e.py.) -/
import Derived.Test.YtohoedhaomkafaaMatD
namespace Go.Proofs.Ytohoedhaomkafaa
open Go.RowKit
set_option linter.unusedVariables false

theorem least_no {P : Nat → Bool} (h : ∀ u, u < 4294967296 → P u = false) : Least P 0 false := .inr ⟨rfl, rfl, h⟩
theorem Least.no {P : Nat → Bool} {c : Nat} (h : Least P c false) : c = 0 ∧ ∀ u, u < 4294967296 → P u = false := by
  rcases h with ⟨hq, _⟩ | ⟨_, hc, hl⟩
  · cases hq
  · exact ⟨hc, hl⟩
theorem Least.yes {P : Nat → Bool} {c : Nat} (h : Least P c true) : c < 4294967296 ∧ P c = true ∧ ∀ u, u < c → P u = false := by
  rcases h with ⟨_, hc, hp, hl⟩ | ⟨hq, _⟩
  · exact ⟨hc, hp, hl⟩
  · cases hq
theorem ex_some : Least (bothN (turnF ⟨257, 2047, false⟩) ⟨256, 1792, false⟩) 256 true := by
  refine .inl ⟨rfl, by decide, by decide, fun u hu => ?_⟩
  rw [both_turn]
  cases h : hitN ⟨256, 1792, false⟩ u
  · rfl
  · exfalso
    have := (hit_pos (f := ⟨256, 1792, false⟩) rfl u).1 h 8 (by decide)
    have h2 := Nat.ge_two_pow_of_testBit (x := u) (i := 8) (this.trans (by decide))
    omega
theorem ex_none : Least (bothN (turnF ⟨256, 1792, false⟩) ⟨257, 2047, false⟩) 0 false := by
  refine least_no fun u hu => ?_
  rw [both_turn]
  cases h : hitN ⟨257, 2047, false⟩ u
  · rfl
  · have hs := (hit_pos (f := ⟨257, 2047, false⟩) rfl u).1 h
    have : hitN ⟨256, 1792, false⟩ u = true := by
      refine (hit_pos (f := ⟨256, 1792, false⟩) rfl u).2 fun k hk => ?_
      have hk' : (1792).testBit k = true := hk
      have hlt : k < 11 := by
        apply Decidable.byContradiction
        intro hn
        have h1 := Nat.ge_two_pow_of_testBit hk'
        have h2 : 2 ^ 11 ≤ 2 ^ k := Nat.pow_le_pow_right (by decide) (by omega)
        omega
      have key : ∀ k : Fin 11, (1792).testBit k.val = true → (2047).testBit k.val = true ∧ (257).testBit k.val = (256).testBit k.val := by decide
      have := key ⟨k, hlt⟩ hk'
      exact (hs k this.1).trans this.2
    rw [this]
    rfl

set_option maxRecDepth 100000 in
set_option maxHeartbeats 2000000 in
theorem malive_any (w : World) : Calls Try.prog 9 #[] w fun e w' => e = .returned (.bool true) ∧ Below w.heap.size w w' := by
  go_enter Try.func9, Try.ntmps9
  go_wp2_with fail
  refine (witness_v (a := ⟨257, 2047, false⟩) (b := ⟨256, 1792, false⟩) (c := 256) (q := true) ex_some ⟨by decide, by decide⟩ ⟨by decide, by decide⟩ _).mono ?_
  rintro e w1 ⟨rfl, hb1⟩
  obtain ⟨hc1, hf1⟩ := fbcell hb1
  have z1_0 : w.heap.size < w1.heap.size := by have := hb1.size; simp only [World.size_alloc] at this; omega
  have z1_1 : w.heap.size + 1 < w1.heap.size := by have := hb1.size; simp only [World.size_alloc] at this; omega
  have HB1 : Hid (Below w.heap.size w w1) := Lib.hid (fbelow_a _ (fbelow_a _ (hb1)))
  go_wp2_with fail
  refine (mhit_v (f := ⟨256, 1792, false⟩) (u := 256) (q := true) (by decide) ⟨by decide, by decide⟩ (by decide) _).mono ?_
  rintro e w2 ⟨rfl, hb2⟩
  obtain ⟨hc2, hf2⟩ := fbcell hb2
  have z2_0 : w.heap.size < w2.heap.size := Nat.lt_of_lt_of_le z1_0 hb2.size
  have z2_1 : w.heap.size + 1 < w2.heap.size := Nat.lt_of_lt_of_le z1_1 hb2.size
  have HB2 : Hid (Below w.heap.size w w2) := Lib.hid (fbelow_t HB1.out hb2)
  clear hb2
  go_wp2_with fail
  refine (mhit_v (f := ⟨256, 1792, false⟩) (u := 511) (q := true) (by decide) ⟨by decide, by decide⟩ (by decide) _).mono ?_
  rintro e w3 ⟨rfl, hb3⟩
  obtain ⟨hc3, hf3⟩ := fbcell hb3
  have z3_0 : w.heap.size < w3.heap.size := Nat.lt_of_lt_of_le z2_0 hb3.size
  have z3_1 : w.heap.size + 1 < w3.heap.size := Nat.lt_of_lt_of_le z2_1 hb3.size
  have HB3 : Hid (Below w.heap.size w w3) := Lib.hid (fbelow_t HB2.out hb3)
  clear hb3
  go_wp2_with fail
  refine (mhit_v (f := ⟨256, 1792, false⟩) (u := 512) (q := false) (by decide) ⟨by decide, by decide⟩ (by decide) _).mono ?_
  rintro e w4 ⟨rfl, hb4⟩
  obtain ⟨hc4, hf4⟩ := fbcell hb4
  have z4_0 : w.heap.size < w4.heap.size := Nat.lt_of_lt_of_le z3_0 hb4.size
  have z4_1 : w.heap.size + 1 < w4.heap.size := Nat.lt_of_lt_of_le z3_1 hb4.size
  have HB4 : Hid (Below w.heap.size w w4) := Lib.hid (fbelow_t HB3.out hb4)
  clear hb4
  go_wp2_with fail
  refine (covers_v (a := ⟨256, 1792, false⟩) (b := ⟨257, 2047, false⟩) (c := 0) (q := false) ex_none ⟨by decide, by decide⟩ ⟨by decide, by decide⟩ _).mono ?_
  rintro e w5 ⟨rfl, hb5⟩
  obtain ⟨hc5, hf5⟩ := fbcell hb5
  have z5_0 : w.heap.size < w5.heap.size := Nat.lt_of_lt_of_le z4_0 hb5.size
  have z5_1 : w.heap.size + 1 < w5.heap.size := Nat.lt_of_lt_of_le z4_1 hb5.size
  have HB5 : Hid (Below w.heap.size w w5) := Lib.hid (fbelow_t HB4.out hb5)
  clear hb5
  go_wp2
  go_ret
  exact ⟨rfl, HB5.out⟩

set_option maxRecDepth 100000 in
set_option maxHeartbeats 2000000 in
theorem matchWitness_n {a b : Flt} (c : Nat) (q : Bool) (HL : Hid (Least (bothN (turnF a) b) c q)) (HA : Hid a.fits) (HB : Hid b.fits) (w : World) :
    Calls Try.prog 3 #[.agg #[.int .u32 a.i, .int .u32 a.m, .bool a.v], .agg #[.int .u32 b.i, .int .u32 b.m, .bool b.v]] w fun e w' => e = .returned (.bool true) ∧ Below w.heap.size w w' := by
  obtain ⟨ai, am, av⟩ := a
  obtain ⟨bi, bm, bv⟩ := b
  go_enter Try.func3, Try.ntmps3
  go_wp2_with fail
  refine (witness_v HL.out HA.out HB.out _).mono ?_
  rintro e w1 ⟨rfl, hb1⟩
  obtain ⟨hc1, hf1⟩ := fbcell hb1
  have z1_0 : w.heap.size < w1.heap.size := by have := hb1.size; simp only [World.size_alloc] at this; omega
  have z1_1 : w.heap.size + 1 < w1.heap.size := by have := hb1.size; simp only [World.size_alloc] at this; omega
  have HB1 : Hid (Below w.heap.size w w1) := Lib.hid (fbelow_a _ (fbelow_a _ (hb1)))
  go_wp2_with fail
  refine (rwitness_v HL.out HA.out HB.out _).mono ?_
  rintro e w2 ⟨rfl, hb2⟩
  obtain ⟨hc2, hf2⟩ := fbcell hb2
  have z2_0 : w.heap.size < w2.heap.size := Nat.lt_of_lt_of_le z1_0 hb2.size
  have z2_1 : w.heap.size + 1 < w2.heap.size := Nat.lt_of_lt_of_le z1_1 hb2.size
  have HB2 : Hid (Below w.heap.size w w2) := Lib.hid (fbelow_t HB1.out hb2)
  clear hb2
  cases q <;>
  · go_wp2_with fail
    refine (covers_v HL.out HA.out HB.out _).mono ?_
    rintro e w3 ⟨rfl, hb3⟩
    obtain ⟨hc3, hf3⟩ := fbcell hb3
    have z3_0 : w.heap.size < w3.heap.size := Nat.lt_of_lt_of_le z2_0 hb3.size
    have z3_1 : w.heap.size + 1 < w3.heap.size := Nat.lt_of_lt_of_le z2_1 hb3.size
    have HB3 : Hid (Below w.heap.size w w3) := Lib.hid (fbelow_t HB2.out hb3)
    clear hb3
    go_wp2_with fail
    refine (malive_any _).mono ?_
    rintro e w4 ⟨rfl, hb4⟩
    obtain ⟨hc4, hf4⟩ := fbcell hb4
    have z4_0 : w.heap.size < w4.heap.size := Nat.lt_of_lt_of_le z3_0 hb4.size
    have z4_1 : w.heap.size + 1 < w4.heap.size := Nat.lt_of_lt_of_le z3_1 hb4.size
    have HB4 : Hid (Below w.heap.size w w4) := Lib.hid (fbelow_t HB3.out hb4)
    clear hb4
    go_wp2
    go_ret
    exact ⟨rfl, HB4.out⟩
theorem matchWitness_walk (a0_0 a0_1 : Int) (a0_2 : Bool) (a1_0 a1_1 : Int) (a1_2 : Bool) (w0_0 : (Lit.int .u32 a0_0).wf = true) (w0_1 : (Lit.int .u32 a0_1).wf = true) (w1_0 : (Lit.int .u32 a1_0).wf = true) (w1_1 : (Lit.int .u32 a1_1).wf = true) (w : World) :
    Calls Try.prog 3 #[.agg #[.int .u32 a0_0, .int .u32 a0_1, .bool a0_2], .agg #[.int .u32 a1_0, .int .u32 a1_1, .bool a1_2]] w fun e w' => e = .returned (.bool true) ∧ Below w.heap.size w w' := by
  have b_a0_0 := Go.bounds_u32 w0_0
  obtain ⟨n0, rfl⟩ := Int.eq_ofNat_of_zero_le b_a0_0.1
  have b_a0_1 := Go.bounds_u32 w0_1
  obtain ⟨m0, rfl⟩ := Int.eq_ofNat_of_zero_le b_a0_1.1
  have b_a1_0 := Go.bounds_u32 w1_0
  obtain ⟨n1, rfl⟩ := Int.eq_ofNat_of_zero_le b_a1_0.1
  have b_a1_1 := Go.bounds_u32 w1_1
  obtain ⟨m1, rfl⟩ := Int.eq_ofNat_of_zero_le b_a1_1.1
  obtain ⟨c, q, hL⟩ := least_some (bothN (turnF ⟨n0, m0, a0_2⟩) ⟨n1, m1, a1_2⟩)
  exact matchWitness_n (a := ⟨n0, m0, a0_2⟩) (b := ⟨n1, m1, a1_2⟩) c q (Lib.hid hL) (Lib.hid ⟨by simp only; omega, by simp only; omega⟩) (Lib.hid ⟨by simp only; omega, by simp only; omega⟩) w

set_option maxRecDepth 100000 in
set_option maxHeartbeats 2000000 in
theorem matchCovers_y {a b : Flt} (c u : Nat) (HL : Hid (Least (bothN (turnF a) b) c false)) (HA : Hid a.fits) (HB : Hid b.fits) (HU : Hid (u < 4294967296)) (w : World) :
    Calls Try.prog 4 #[.agg #[.int .u32 a.i, .int .u32 a.m, .bool a.v], .agg #[.int .u32 b.i, .int .u32 b.m, .bool b.v], .int .u32 u] w fun e w' => e = .returned (.bool true) ∧ Below w.heap.size w w' := by
  have HP := Lib.hid (fun x => both_turn a b x)
  obtain ⟨ai, am, av⟩ := a
  obtain ⟨bi, bm, bv⟩ := b
  generalize hqb : hitN ⟨bi, bm, bv⟩ u = qb
  have HQB := Lib.hid hqb
  have HQA : Hid (qb = true → hitN ⟨ai, am, av⟩ u = true) := Lib.hid (fun h => by
    have := HL.out.no.2 u HU.out
    rw [HP.out, hqb, h] at this
    simpa using this)
  clear hqb
  go_enter Try.func4, Try.ntmps4
  go_wp2_with fail
  refine (covers_v HL.out HA.out HB.out _).mono ?_
  rintro e w1 ⟨rfl, hb1⟩
  obtain ⟨hc1, hf1⟩ := fbcell hb1
  have z1_0 : w.heap.size < w1.heap.size := by have := hb1.size; simp only [World.size_alloc] at this; omega
  have z1_1 : w.heap.size + 1 < w1.heap.size := by have := hb1.size; simp only [World.size_alloc] at this; omega
  have HB1 : Hid (Below w.heap.size w w1) := Lib.hid (fbelow_a _ (fbelow_a _ (hb1)))
  go_wp2_with fail
  refine (mhit_v (f := ⟨bi, bm, bv⟩) HQB.out HB.out HU.out _).mono ?_
  rintro e w2 ⟨rfl, hb2⟩
  obtain ⟨hc2, hf2⟩ := fbcell hb2
  have z2_0 : w.heap.size < w2.heap.size := Nat.lt_of_lt_of_le z1_0 hb2.size
  have z2_1 : w.heap.size + 1 < w2.heap.size := Nat.lt_of_lt_of_le z1_1 hb2.size
  have HB2 : Hid (Below w.heap.size w w2) := Lib.hid (fbelow_t HB1.out hb2)
  clear hb2
  cases qb
  · go_wp2_with fail
    refine (malive_any _).mono ?_
    rintro e w3 ⟨rfl, hb3⟩
    obtain ⟨hc3, hf3⟩ := fbcell hb3
    have z3_0 : w.heap.size < w3.heap.size := Nat.lt_of_lt_of_le z2_0 hb3.size
    have z3_1 : w.heap.size + 1 < w3.heap.size := Nat.lt_of_lt_of_le z2_1 hb3.size
    have HB3 : Hid (Below w.heap.size w w3) := Lib.hid (fbelow_t HB2.out hb3)
    clear hb3
    go_wp2
    go_ret
    exact ⟨rfl, HB3.out⟩
  · go_wp2_with fail
    refine (mhit_v (f := ⟨ai, am, av⟩) (q := true) (HQA.out (by trivial)) HA.out HU.out _).mono ?_
    rintro e w4 ⟨rfl, hb4⟩
    obtain ⟨hc4, hf4⟩ := fbcell hb4
    have z4_0 : w.heap.size < w4.heap.size := Nat.lt_of_lt_of_le z2_0 hb4.size
    have z4_1 : w.heap.size + 1 < w4.heap.size := Nat.lt_of_lt_of_le z2_1 hb4.size
    have HB4 : Hid (Below w.heap.size w w4) := Lib.hid (fbelow_t HB2.out hb4)
    clear hb4
    go_wp2_with fail
    refine (malive_any _).mono ?_
    rintro e w5 ⟨rfl, hb5⟩
    obtain ⟨hc5, hf5⟩ := fbcell hb5
    have z5_0 : w.heap.size < w5.heap.size := Nat.lt_of_lt_of_le z4_0 hb5.size
    have z5_1 : w.heap.size + 1 < w5.heap.size := Nat.lt_of_lt_of_le z4_1 hb5.size
    have HB5 : Hid (Below w.heap.size w w5) := Lib.hid (fbelow_t HB4.out hb5)
    clear hb5
    go_wp2
    go_ret
    exact ⟨rfl, HB5.out⟩

set_option maxRecDepth 100000 in
set_option maxHeartbeats 2000000 in
theorem matchCovers_n {a b : Flt} (c u : Nat) (HL : Hid (Least (bothN (turnF a) b) c true)) (HA : Hid a.fits) (HB : Hid b.fits) (HU : Hid (u < 4294967296)) (w : World) :
    Calls Try.prog 4 #[.agg #[.int .u32 a.i, .int .u32 a.m, .bool a.v], .agg #[.int .u32 b.i, .int .u32 b.m, .bool b.v], .int .u32 u] w fun e w' => e = .returned (.bool true) ∧ Below w.heap.size w w' := by
  have HP := Lib.hid (fun x => both_turn a b x)
  obtain ⟨ai, am, av⟩ := a
  obtain ⟨bi, bm, bv⟩ := b
  have hy := HL.out.yes
  have hpc := hy.2.1
  rw [HP.out, Bool.and_eq_true, Bool.not_eq_true'] at hpc
  have HCB : Hid (hitN ⟨bi, bm, bv⟩ c = true) := Lib.hid hpc.1
  have HCA : Hid (hitN ⟨ai, am, av⟩ c = false) := Lib.hid hpc.2
  have HC : Hid (c < 4294967296) := Lib.hid hy.1
  generalize hqb : hitN ⟨bi, bm, bv⟩ u = qb
  have HQB := Lib.hid hqb
  have HQA : Hid (u < c → qb = true → hitN ⟨ai, am, av⟩ u = true) := Lib.hid (fun hlt h => by
    have := hy.2.2 u hlt
    rw [HP.out, hqb, h] at this
    simpa using this)
  clear hqb hpc hy
  go_enter Try.func4, Try.ntmps4
  go_wp2_with fail
  refine (covers_v HL.out HA.out HB.out _).mono ?_
  rintro e w1 ⟨rfl, hb1⟩
  obtain ⟨hc1, hf1⟩ := fbcell hb1
  have z1_0 : w.heap.size < w1.heap.size := by have := hb1.size; simp only [World.size_alloc] at this; omega
  have z1_1 : w.heap.size + 1 < w1.heap.size := by have := hb1.size; simp only [World.size_alloc] at this; omega
  have HB1 : Hid (Below w.heap.size w w1) := Lib.hid (fbelow_a _ (fbelow_a _ (hb1)))
  go_wp2_with fail
  refine (witness_v HL.out HA.out HB.out _).mono ?_
  rintro e w2 ⟨rfl, hb2⟩
  obtain ⟨hc2, hf2⟩ := fbcell hb2
  have z2_0 : w.heap.size < w2.heap.size := Nat.lt_of_lt_of_le z1_0 hb2.size
  have z2_1 : w.heap.size + 1 < w2.heap.size := Nat.lt_of_lt_of_le z1_1 hb2.size
  have HB2 : Hid (Below w.heap.size w w2) := Lib.hid (fbelow_t HB1.out hb2)
  clear hb2
  go_wp2_with fail
  refine (mhit_v (f := ⟨bi, bm, bv⟩) HCB.out HB.out HC.out _).mono ?_
  rintro e w3 ⟨rfl, hb3⟩
  obtain ⟨hc3, hf3⟩ := fbcell hb3
  have z3_0 : w.heap.size < w3.heap.size := Nat.lt_of_lt_of_le z2_0 hb3.size
  have z3_1 : w.heap.size + 1 < w3.heap.size := Nat.lt_of_lt_of_le z2_1 hb3.size
  have HB3 : Hid (Below w.heap.size w w3) := Lib.hid (fbelow_t HB2.out hb3)
  clear hb3
  go_wp2_with fail
  refine (mhit_v (f := ⟨ai, am, av⟩) HCA.out HA.out HC.out _).mono ?_
  rintro e w4 ⟨rfl, hb4⟩
  obtain ⟨hc4, hf4⟩ := fbcell hb4
  have z4_0 : w.heap.size < w4.heap.size := Nat.lt_of_lt_of_le z3_0 hb4.size
  have z4_1 : w.heap.size + 1 < w4.heap.size := Nat.lt_of_lt_of_le z3_1 hb4.size
  have HB4 : Hid (Below w.heap.size w w4) := Lib.hid (fbelow_t HB3.out hb4)
  clear hb4
  by_cases hge : c ≤ u
  · have hd : decide ((c : Int) ≤ (u : Int)) = true := by simp; omega
    go_wp2_with fail
    refine (malive_any _).mono ?_
    rintro e w5 ⟨rfl, hb5⟩
    obtain ⟨hc5, hf5⟩ := fbcell hb5
    have z5_0 : w.heap.size < w5.heap.size := Nat.lt_of_lt_of_le z4_0 hb5.size
    have z5_1 : w.heap.size + 1 < w5.heap.size := Nat.lt_of_lt_of_le z4_1 hb5.size
    have HB5 : Hid (Below w.heap.size w w5) := Lib.hid (fbelow_t HB4.out hb5)
    clear hb5
    go_wp2
    go_ret
    exact ⟨rfl, HB5.out⟩
  · have hd : decide ((c : Int) ≤ (u : Int)) = false := by simp; omega
    have hlt : u < c := by omega
    have HLT := Lib.hid hlt
    go_wp2_with fail
    refine (mhit_v (f := ⟨bi, bm, bv⟩) HQB.out HB.out HU.out _).mono ?_
    rintro e w6 ⟨rfl, hb6⟩
    obtain ⟨hc6, hf6⟩ := fbcell hb6
    have z6_0 : w.heap.size < w6.heap.size := Nat.lt_of_lt_of_le z4_0 hb6.size
    have z6_1 : w.heap.size + 1 < w6.heap.size := Nat.lt_of_lt_of_le z4_1 hb6.size
    have HB6 : Hid (Below w.heap.size w w6) := Lib.hid (fbelow_t HB4.out hb6)
    clear hb6
    cases qb
    · go_wp2_with fail
      refine (malive_any _).mono ?_
      rintro e w7 ⟨rfl, hb7⟩
      obtain ⟨hc7, hf7⟩ := fbcell hb7
      have z7_0 : w.heap.size < w7.heap.size := Nat.lt_of_lt_of_le z6_0 hb7.size
      have z7_1 : w.heap.size + 1 < w7.heap.size := Nat.lt_of_lt_of_le z6_1 hb7.size
      have HB7 : Hid (Below w.heap.size w w7) := Lib.hid (fbelow_t HB6.out hb7)
      clear hb7
      go_wp2
      go_ret
      exact ⟨rfl, HB7.out⟩
    · go_wp2_with fail
      refine (mhit_v (f := ⟨ai, am, av⟩) (q := true) (HQA.out HLT.out (by trivial)) HA.out HU.out _).mono ?_
      rintro e w8 ⟨rfl, hb8⟩
      obtain ⟨hc8, hf8⟩ := fbcell hb8
      have z8_0 : w.heap.size < w8.heap.size := Nat.lt_of_lt_of_le z6_0 hb8.size
      have z8_1 : w.heap.size + 1 < w8.heap.size := Nat.lt_of_lt_of_le z6_1 hb8.size
      have HB8 : Hid (Below w.heap.size w w8) := Lib.hid (fbelow_t HB6.out hb8)
      clear hb8
      go_wp2_with fail
      refine (malive_any _).mono ?_
      rintro e w9 ⟨rfl, hb9⟩
      obtain ⟨hc9, hf9⟩ := fbcell hb9
      have z9_0 : w.heap.size < w9.heap.size := Nat.lt_of_lt_of_le z8_0 hb9.size
      have z9_1 : w.heap.size + 1 < w9.heap.size := Nat.lt_of_lt_of_le z8_1 hb9.size
      have HB9 : Hid (Below w.heap.size w w9) := Lib.hid (fbelow_t HB8.out hb9)
      clear hb9
      go_wp2
      go_ret
      exact ⟨rfl, HB9.out⟩
theorem matchCovers_walk (a0_0 a0_1 : Int) (a0_2 : Bool) (a1_0 a1_1 : Int) (a1_2 : Bool) (a2 : Int) (w0_0 : (Lit.int .u32 a0_0).wf = true) (w0_1 : (Lit.int .u32 a0_1).wf = true) (w1_0 : (Lit.int .u32 a1_0).wf = true) (w1_1 : (Lit.int .u32 a1_1).wf = true) (w2 : (Lit.int .u32 a2).wf = true) (w : World) :
    Calls Try.prog 4 #[.agg #[.int .u32 a0_0, .int .u32 a0_1, .bool a0_2], .agg #[.int .u32 a1_0, .int .u32 a1_1, .bool a1_2], .int .u32 a2] w fun e w' => e = .returned (.bool true) ∧ Below w.heap.size w w' := by
  have b_a0_0 := Go.bounds_u32 w0_0
  obtain ⟨n0, rfl⟩ := Int.eq_ofNat_of_zero_le b_a0_0.1
  have b_a0_1 := Go.bounds_u32 w0_1
  obtain ⟨m0, rfl⟩ := Int.eq_ofNat_of_zero_le b_a0_1.1
  have b_a1_0 := Go.bounds_u32 w1_0
  obtain ⟨n1, rfl⟩ := Int.eq_ofNat_of_zero_le b_a1_0.1
  have b_a1_1 := Go.bounds_u32 w1_1
  obtain ⟨m1, rfl⟩ := Int.eq_ofNat_of_zero_le b_a1_1.1
  have b_a2 := Go.bounds_u32 w2
  obtain ⟨u, rfl⟩ := Int.eq_ofNat_of_zero_le b_a2.1
  obtain ⟨c, q, hL⟩ := least_some (bothN (turnF ⟨n0, m0, a0_2⟩) ⟨n1, m1, a1_2⟩)
  have fa : Hid (Flt.fits ⟨n0, m0, a0_2⟩) := Lib.hid ⟨by simp only; omega, by simp only; omega⟩
  have fb : Hid (Flt.fits ⟨n1, m1, a1_2⟩) := Lib.hid ⟨by simp only; omega, by simp only; omega⟩
  cases q
  · exact matchCovers_y (a := ⟨n0, m0, a0_2⟩) (b := ⟨n1, m1, a1_2⟩) c u (Lib.hid hL) fa fb (Lib.hid (by omega)) w
  · exact matchCovers_n (a := ⟨n0, m0, a0_2⟩) (b := ⟨n1, m1, a1_2⟩) c u (Lib.hid hL) fa fb (Lib.hid (by omega)) w

theorem cover_self (a : Flt) : Least (bothN (turnF a) a) 0 false := least_no fun u _ => by rw [both_turn]; cases hitN a u <;> rfl
theorem cover_all (a : Flt) : Least (bothN (turnF ⟨0, 0, false⟩) a) 0 false := least_no fun u _ => by
  rw [both_turn]
  have : hitN ⟨0, 0, false⟩ u = true := by unfold hitN; simp
  rw [this]; cases hitN a u <;> rfl
theorem cover_none (a : Flt) : Least (bothN (turnF a) ⟨0, 0, true⟩) 0 false := least_no fun u _ => by
  rw [both_turn]
  have : hitN ⟨0, 0, true⟩ u = false := by unfold hitN; simp
  rw [this]; rfl
theorem cover_on {a b c : Flt} {x y : Nat} (h : Least (bothN (turnF a) b) x false) (h' : Least (bothN (turnF b) c) y false) : Least (bothN (turnF a) c) 0 false := least_no fun u hu => by
  have h1 := h.no.2 u hu
  have h2 := h'.no.2 u hu
  rw [both_turn] at h1 h2 ⊢
  revert h1 h2
  cases hitN a u <;> cases hitN b u <;> cases hitN c u <;> simp

set_option maxRecDepth 100000 in
set_option maxHeartbeats 2000000 in
theorem matchOrder_n {a b c : Flt} (x y : Nat) (q r : Bool) (HQ : Hid (Least (bothN (turnF a) b) x q)) (HR : Hid (Least (bothN (turnF b) c) y r)) (HA : Hid a.fits) (HB : Hid b.fits) (HC : Hid c.fits) (w : World) :
    Calls Try.prog 5 #[.agg #[.int .u32 a.i, .int .u32 a.m, .bool a.v], .agg #[.int .u32 b.i, .int .u32 b.m, .bool b.v], .agg #[.int .u32 c.i, .int .u32 c.m, .bool c.v]] w fun e w' => e = .returned (.bool true) ∧ Below w.heap.size w w' := by
  have HAA := Lib.hid (cover_self a)
  have HEA := Lib.hid (cover_all a)
  have HAN := Lib.hid (cover_none a)
  have HAC : Hid (q = false → r = false → Least (bothN (turnF a) c) 0 false) := Lib.hid (fun hq hr => cover_on (hq ▸ HQ.out) (hr ▸ HR.out))
  obtain ⟨ai, am, av⟩ := a
  obtain ⟨bi, bm, bv⟩ := b
  obtain ⟨ci, cm, cv⟩ := c
  go_enter Try.func5, Try.ntmps5
  go_wp2_with fail
  refine (covers_v HAA.out HA.out HA.out _).mono ?_
  rintro e w1 ⟨rfl, hb1⟩
  obtain ⟨hc1, hf1⟩ := fbcell hb1
  have z1_0 : w.heap.size < w1.heap.size := by have := hb1.size; simp only [World.size_alloc] at this; omega
  have z1_1 : w.heap.size + 1 < w1.heap.size := by have := hb1.size; simp only [World.size_alloc] at this; omega
  have z1_2 : w.heap.size + 1 + 1 < w1.heap.size := by have := hb1.size; simp only [World.size_alloc] at this; omega
  have z1_3 : w.heap.size + 1 + 1 + 1 < w1.heap.size := by have := hb1.size; simp only [World.size_alloc] at this; omega
  have z1_4 : w.heap.size + 1 + 1 + 1 + 1 < w1.heap.size := by have := hb1.size; simp only [World.size_alloc] at this; omega
  have HB1 : Hid (Below w.heap.size w w1) := Lib.hid (fbelow_a _ (fbelow_a _ (fbelow_a _ (fbelow_a _ (fbelow_a _ (hb1))))))
  go_wp2_with fail
  refine (covers_v HQ.out HA.out HB.out _).mono ?_
  rintro e w2 ⟨rfl, hb2⟩
  obtain ⟨hc2, hf2⟩ := fbcell hb2
  have z2_0 : w.heap.size < w2.heap.size := Nat.lt_of_lt_of_le z1_0 hb2.size
  have z2_1 : w.heap.size + 1 < w2.heap.size := Nat.lt_of_lt_of_le z1_1 hb2.size
  have z2_2 : w.heap.size + 1 + 1 < w2.heap.size := Nat.lt_of_lt_of_le z1_2 hb2.size
  have z2_3 : w.heap.size + 1 + 1 + 1 < w2.heap.size := Nat.lt_of_lt_of_le z1_3 hb2.size
  have z2_4 : w.heap.size + 1 + 1 + 1 + 1 < w2.heap.size := Nat.lt_of_lt_of_le z1_4 hb2.size
  have HB2 : Hid (Below w.heap.size w w2) := Lib.hid (fbelow_t HB1.out hb2)
  clear hb2
  cases q
  · go_wp2_with fail
    refine (covers_v HR.out HB.out HC.out _).mono ?_
    rintro e w3 ⟨rfl, hb3⟩
    obtain ⟨hc3, hf3⟩ := fbcell hb3
    have z3_0 : w.heap.size < w3.heap.size := Nat.lt_of_lt_of_le z2_0 hb3.size
    have z3_1 : w.heap.size + 1 < w3.heap.size := Nat.lt_of_lt_of_le z2_1 hb3.size
    have z3_2 : w.heap.size + 1 + 1 < w3.heap.size := Nat.lt_of_lt_of_le z2_2 hb3.size
    have z3_3 : w.heap.size + 1 + 1 + 1 < w3.heap.size := Nat.lt_of_lt_of_le z2_3 hb3.size
    have z3_4 : w.heap.size + 1 + 1 + 1 + 1 < w3.heap.size := Nat.lt_of_lt_of_le z2_4 hb3.size
    have HB3 : Hid (Below w.heap.size w w3) := Lib.hid (fbelow_t HB2.out hb3)
    clear hb3
    cases r
    · go_wp2_with fail
      refine (covers_v (HAC.out (by trivial) (by trivial)) HA.out HC.out _).mono ?_
      rintro e w4 ⟨rfl, hb4⟩
      obtain ⟨hc4, hf4⟩ := fbcell hb4
      have z4_0 : w.heap.size < w4.heap.size := Nat.lt_of_lt_of_le z3_0 hb4.size
      have z4_1 : w.heap.size + 1 < w4.heap.size := Nat.lt_of_lt_of_le z3_1 hb4.size
      have z4_2 : w.heap.size + 1 + 1 < w4.heap.size := Nat.lt_of_lt_of_le z3_2 hb4.size
      have z4_3 : w.heap.size + 1 + 1 + 1 < w4.heap.size := Nat.lt_of_lt_of_le z3_3 hb4.size
      have z4_4 : w.heap.size + 1 + 1 + 1 + 1 < w4.heap.size := Nat.lt_of_lt_of_le z3_4 hb4.size
      have HB4 : Hid (Below w.heap.size w w4) := Lib.hid (fbelow_t HB3.out hb4)
      clear hb4
      go_wp2_with fail
      refine (covers_v (a := ⟨0, 0, false⟩) HEA.out ⟨by decide, by decide⟩ HA.out _).mono ?_
      rintro e w5 ⟨rfl, hb5⟩
      obtain ⟨hc5, hf5⟩ := fbcell hb5
      have z5_0 : w.heap.size < w5.heap.size := Nat.lt_of_lt_of_le z4_0 hb5.size
      have z5_1 : w.heap.size + 1 < w5.heap.size := Nat.lt_of_lt_of_le z4_1 hb5.size
      have z5_2 : w.heap.size + 1 + 1 < w5.heap.size := Nat.lt_of_lt_of_le z4_2 hb5.size
      have z5_3 : w.heap.size + 1 + 1 + 1 < w5.heap.size := Nat.lt_of_lt_of_le z4_3 hb5.size
      have z5_4 : w.heap.size + 1 + 1 + 1 + 1 < w5.heap.size := Nat.lt_of_lt_of_le z4_4 hb5.size
      have HB5 : Hid (Below w.heap.size w w5) := Lib.hid (fbelow_t HB4.out hb5)
      clear hb5
      go_wp2_with fail
      refine (covers_v (b := ⟨0, 0, true⟩) HAN.out HA.out ⟨by decide, by decide⟩ _).mono ?_
      rintro e w6 ⟨rfl, hb6⟩
      obtain ⟨hc6, hf6⟩ := fbcell hb6
      have z6_0 : w.heap.size < w6.heap.size := Nat.lt_of_lt_of_le z5_0 hb6.size
      have z6_1 : w.heap.size + 1 < w6.heap.size := Nat.lt_of_lt_of_le z5_1 hb6.size
      have z6_2 : w.heap.size + 1 + 1 < w6.heap.size := Nat.lt_of_lt_of_le z5_2 hb6.size
      have z6_3 : w.heap.size + 1 + 1 + 1 < w6.heap.size := Nat.lt_of_lt_of_le z5_3 hb6.size
      have z6_4 : w.heap.size + 1 + 1 + 1 + 1 < w6.heap.size := Nat.lt_of_lt_of_le z5_4 hb6.size
      have HB6 : Hid (Below w.heap.size w w6) := Lib.hid (fbelow_t HB5.out hb6)
      clear hb6
      go_wp2_with fail
      refine (malive_any _).mono ?_
      rintro e w7 ⟨rfl, hb7⟩
      obtain ⟨hc7, hf7⟩ := fbcell hb7
      have z7_0 : w.heap.size < w7.heap.size := Nat.lt_of_lt_of_le z6_0 hb7.size
      have z7_1 : w.heap.size + 1 < w7.heap.size := Nat.lt_of_lt_of_le z6_1 hb7.size
      have z7_2 : w.heap.size + 1 + 1 < w7.heap.size := Nat.lt_of_lt_of_le z6_2 hb7.size
      have z7_3 : w.heap.size + 1 + 1 + 1 < w7.heap.size := Nat.lt_of_lt_of_le z6_3 hb7.size
      have z7_4 : w.heap.size + 1 + 1 + 1 + 1 < w7.heap.size := Nat.lt_of_lt_of_le z6_4 hb7.size
      have HB7 : Hid (Below w.heap.size w w7) := Lib.hid (fbelow_t HB6.out hb7)
      clear hb7
      go_wp2
      go_ret
      exact ⟨rfl, HB7.out⟩
    · go_wp2_with fail
      refine (covers_v (a := ⟨0, 0, false⟩) HEA.out ⟨by decide, by decide⟩ HA.out _).mono ?_
      rintro e w8 ⟨rfl, hb8⟩
      obtain ⟨hc8, hf8⟩ := fbcell hb8
      have z8_0 : w.heap.size < w8.heap.size := Nat.lt_of_lt_of_le z3_0 hb8.size
      have z8_1 : w.heap.size + 1 < w8.heap.size := Nat.lt_of_lt_of_le z3_1 hb8.size
      have z8_2 : w.heap.size + 1 + 1 < w8.heap.size := Nat.lt_of_lt_of_le z3_2 hb8.size
      have z8_3 : w.heap.size + 1 + 1 + 1 < w8.heap.size := Nat.lt_of_lt_of_le z3_3 hb8.size
      have z8_4 : w.heap.size + 1 + 1 + 1 + 1 < w8.heap.size := Nat.lt_of_lt_of_le z3_4 hb8.size
      have HB8 : Hid (Below w.heap.size w w8) := Lib.hid (fbelow_t HB3.out hb8)
      clear hb8
      go_wp2_with fail
      refine (covers_v (b := ⟨0, 0, true⟩) HAN.out HA.out ⟨by decide, by decide⟩ _).mono ?_
      rintro e w9 ⟨rfl, hb9⟩
      obtain ⟨hc9, hf9⟩ := fbcell hb9
      have z9_0 : w.heap.size < w9.heap.size := Nat.lt_of_lt_of_le z8_0 hb9.size
      have z9_1 : w.heap.size + 1 < w9.heap.size := Nat.lt_of_lt_of_le z8_1 hb9.size
      have z9_2 : w.heap.size + 1 + 1 < w9.heap.size := Nat.lt_of_lt_of_le z8_2 hb9.size
      have z9_3 : w.heap.size + 1 + 1 + 1 < w9.heap.size := Nat.lt_of_lt_of_le z8_3 hb9.size
      have z9_4 : w.heap.size + 1 + 1 + 1 + 1 < w9.heap.size := Nat.lt_of_lt_of_le z8_4 hb9.size
      have HB9 : Hid (Below w.heap.size w w9) := Lib.hid (fbelow_t HB8.out hb9)
      clear hb9
      go_wp2_with fail
      refine (malive_any _).mono ?_
      rintro e w10 ⟨rfl, hb10⟩
      obtain ⟨hc10, hf10⟩ := fbcell hb10
      have z10_0 : w.heap.size < w10.heap.size := Nat.lt_of_lt_of_le z9_0 hb10.size
      have z10_1 : w.heap.size + 1 < w10.heap.size := Nat.lt_of_lt_of_le z9_1 hb10.size
      have z10_2 : w.heap.size + 1 + 1 < w10.heap.size := Nat.lt_of_lt_of_le z9_2 hb10.size
      have z10_3 : w.heap.size + 1 + 1 + 1 < w10.heap.size := Nat.lt_of_lt_of_le z9_3 hb10.size
      have z10_4 : w.heap.size + 1 + 1 + 1 + 1 < w10.heap.size := Nat.lt_of_lt_of_le z9_4 hb10.size
      have HB10 : Hid (Below w.heap.size w w10) := Lib.hid (fbelow_t HB9.out hb10)
      clear hb10
      go_wp2
      go_ret
      exact ⟨rfl, HB10.out⟩
  · go_wp2_with fail
    refine (covers_v (a := ⟨0, 0, false⟩) HEA.out ⟨by decide, by decide⟩ HA.out _).mono ?_
    rintro e w11 ⟨rfl, hb11⟩
    obtain ⟨hc11, hf11⟩ := fbcell hb11
    have z11_0 : w.heap.size < w11.heap.size := Nat.lt_of_lt_of_le z2_0 hb11.size
    have z11_1 : w.heap.size + 1 < w11.heap.size := Nat.lt_of_lt_of_le z2_1 hb11.size
    have z11_2 : w.heap.size + 1 + 1 < w11.heap.size := Nat.lt_of_lt_of_le z2_2 hb11.size
    have z11_3 : w.heap.size + 1 + 1 + 1 < w11.heap.size := Nat.lt_of_lt_of_le z2_3 hb11.size
    have z11_4 : w.heap.size + 1 + 1 + 1 + 1 < w11.heap.size := Nat.lt_of_lt_of_le z2_4 hb11.size
    have HB11 : Hid (Below w.heap.size w w11) := Lib.hid (fbelow_t HB2.out hb11)
    clear hb11
    go_wp2_with fail
    refine (covers_v (b := ⟨0, 0, true⟩) HAN.out HA.out ⟨by decide, by decide⟩ _).mono ?_
    rintro e w12 ⟨rfl, hb12⟩
    obtain ⟨hc12, hf12⟩ := fbcell hb12
    have z12_0 : w.heap.size < w12.heap.size := Nat.lt_of_lt_of_le z11_0 hb12.size
    have z12_1 : w.heap.size + 1 < w12.heap.size := Nat.lt_of_lt_of_le z11_1 hb12.size
    have z12_2 : w.heap.size + 1 + 1 < w12.heap.size := Nat.lt_of_lt_of_le z11_2 hb12.size
    have z12_3 : w.heap.size + 1 + 1 + 1 < w12.heap.size := Nat.lt_of_lt_of_le z11_3 hb12.size
    have z12_4 : w.heap.size + 1 + 1 + 1 + 1 < w12.heap.size := Nat.lt_of_lt_of_le z11_4 hb12.size
    have HB12 : Hid (Below w.heap.size w w12) := Lib.hid (fbelow_t HB11.out hb12)
    clear hb12
    go_wp2_with fail
    refine (malive_any _).mono ?_
    rintro e w13 ⟨rfl, hb13⟩
    obtain ⟨hc13, hf13⟩ := fbcell hb13
    have z13_0 : w.heap.size < w13.heap.size := Nat.lt_of_lt_of_le z12_0 hb13.size
    have z13_1 : w.heap.size + 1 < w13.heap.size := Nat.lt_of_lt_of_le z12_1 hb13.size
    have z13_2 : w.heap.size + 1 + 1 < w13.heap.size := Nat.lt_of_lt_of_le z12_2 hb13.size
    have z13_3 : w.heap.size + 1 + 1 + 1 < w13.heap.size := Nat.lt_of_lt_of_le z12_3 hb13.size
    have z13_4 : w.heap.size + 1 + 1 + 1 + 1 < w13.heap.size := Nat.lt_of_lt_of_le z12_4 hb13.size
    have HB13 : Hid (Below w.heap.size w w13) := Lib.hid (fbelow_t HB12.out hb13)
    clear hb13
    go_wp2
    go_ret
    exact ⟨rfl, HB13.out⟩
theorem matchOrder_walk (a0_0 a0_1 : Int) (a0_2 : Bool) (a1_0 a1_1 : Int) (a1_2 : Bool) (a2_0 a2_1 : Int) (a2_2 : Bool) (w0_0 : (Lit.int .u32 a0_0).wf = true) (w0_1 : (Lit.int .u32 a0_1).wf = true) (w1_0 : (Lit.int .u32 a1_0).wf = true) (w1_1 : (Lit.int .u32 a1_1).wf = true) (w2_0 : (Lit.int .u32 a2_0).wf = true) (w2_1 : (Lit.int .u32 a2_1).wf = true) (w : World) :
    Calls Try.prog 5 #[.agg #[.int .u32 a0_0, .int .u32 a0_1, .bool a0_2], .agg #[.int .u32 a1_0, .int .u32 a1_1, .bool a1_2], .agg #[.int .u32 a2_0, .int .u32 a2_1, .bool a2_2]] w fun e w' => e = .returned (.bool true) ∧ Below w.heap.size w w' := by
  have b_a0_0 := Go.bounds_u32 w0_0
  obtain ⟨n0, rfl⟩ := Int.eq_ofNat_of_zero_le b_a0_0.1
  have b_a0_1 := Go.bounds_u32 w0_1
  obtain ⟨m0, rfl⟩ := Int.eq_ofNat_of_zero_le b_a0_1.1
  have b_a1_0 := Go.bounds_u32 w1_0
  obtain ⟨n1, rfl⟩ := Int.eq_ofNat_of_zero_le b_a1_0.1
  have b_a1_1 := Go.bounds_u32 w1_1
  obtain ⟨m1, rfl⟩ := Int.eq_ofNat_of_zero_le b_a1_1.1
  have b_a2_0 := Go.bounds_u32 w2_0
  obtain ⟨n2, rfl⟩ := Int.eq_ofNat_of_zero_le b_a2_0.1
  have b_a2_1 := Go.bounds_u32 w2_1
  obtain ⟨m2, rfl⟩ := Int.eq_ofNat_of_zero_le b_a2_1.1
  obtain ⟨x, q, hQ⟩ := least_some (bothN (turnF ⟨n0, m0, a0_2⟩) ⟨n1, m1, a1_2⟩)
  obtain ⟨y, r, hR⟩ := least_some (bothN (turnF ⟨n1, m1, a1_2⟩) ⟨n2, m2, a2_2⟩)
  exact matchOrder_n (a := ⟨n0, m0, a0_2⟩) (b := ⟨n1, m1, a1_2⟩) (c := ⟨n2, m2, a2_2⟩) x y q r (Lib.hid hQ) (Lib.hid hR) (Lib.hid ⟨by simp only; omega, by simp only; omega⟩) (Lib.hid ⟨by simp only; omega, by simp only; omega⟩) (Lib.hid ⟨by simp only; omega, by simp only; omega⟩) w

end Go.Proofs.Ytohoedhaomkafaa
