/- Frame: the walk of FrameWins. -/
import Derived.Test.YtellhnhkdbbngaaDoorFrmU
namespace Go.Proofs.YtellhnhkdbbngaaDoor
open Go.RowKit
set_option linter.unusedVariables false

theorem and_mask {x : Int} (m : Nat) (hm : m < 9223372036854775808) : 0 ≤ bits .and .i64 x (m : Int) ∧ bits .and .i64 x (m : Int) ≤ m := by
  have hle : (BitVec.ofInt 64 x).toNat &&& m ≤ m := Nat.and_le_right
  have e2 : (BitVec.ofInt 64 (m : Int)).toNat = m := by rw [BitVec.ofInt_natCast, BitVec.toNat_ofNat]; exact Nat.mod_eq_of_lt (by omega)
  have hv : bits .and .i64 x (m : Int) = (((BitVec.ofInt 64 x).toNat &&& m : Nat) : Int) := by
    show IntKind.i64.wrap (((BitVec.ofInt 64 x) &&& (BitVec.ofInt 64 (m : Int))).toNat : Int) = _
    rw [BitVec.toNat_and, e2, IntKind.wrap_i64]
    omega
  rw [hv]
  omega
theorem kv_nar {i n : Int} (hn : n = 0 ∨ n = 2) (h0 : 0 ≤ i) (h1 : i ≤ 2047) : keyV i n 0 (ByteArray.mk #[]).size = i * 4194304 + b01 (fR n) * 2097152 := by
  unfold keyV okF idOk keyN
  rcases hn with rfl | rfl
  · rw [show okFl 0 = true from by decide, show topN 0 = 2047 from by decide, show lenOk 0 0 = true from by decide, show datOk 0 0 (ByteArray.mk #[]).size = true from by decide, show fX 0 = false from by decide, show fE 0 = false from by decide, show fD 0 = false from by decide, decide_eq_true h0, decide_eq_true h1]
    simp [b01]
  · rw [show okFl 2 = true from by decide, show topN 2 = 2047 from by decide, show lenOk 2 0 = true from by decide, show datOk 2 0 (ByteArray.mk #[]).size = true from by decide, show fX 2 = false from by decide, show fE 2 = false from by decide, show fD 2 = false from by decide, decide_eq_true h0, decide_eq_true h1]
    simp [b01]
theorem kv_wid {i n : Int} (hn : n = 1 ∨ n = 3) (h0 : 0 ≤ i) (h1 : i ≤ 536870911) : keyV i n 0 (ByteArray.mk #[]).size = i / 262144 * 4194304 + 3145728 + i % 262144 * 4 + b01 (fR n) * 2 := by
  unfold keyV okF idOk keyN
  rcases hn with rfl | rfl
  · rw [show okFl 1 = true from by decide, show topN 1 = 536870911 from by decide, show lenOk 1 0 = true from by decide, show datOk 1 0 (ByteArray.mk #[]).size = true from by decide, show fX 1 = false from by decide, show fE 1 = true from by decide, show fD 1 = false from by decide, decide_eq_true h0, decide_eq_true h1]
    simp [b01]
  · rw [show okFl 3 = true from by decide, show topN 3 = 536870911 from by decide, show lenOk 3 0 = true from by decide, show datOk 3 0 (ByteArray.mk #[]).size = true from by decide, show fX 3 = false from by decide, show fE 3 = true from by decide, show fD 3 = false from by decide, decide_eq_true h0, decide_eq_true h1]
    simp [b01]

set_option maxHeartbeats 4000000 in
theorem wins_lt (a b c A B L X Y : Int) (hA : bits .and .i64 a 2047 = A) (hB : bits .and .i64 b 2047 = B) (hL : bits .and .i64 c 262143 = L) (a0 : 0 ≤ A) (a1 : A ≤ 2047) (b0 : 0 ≤ B) (b1 : B ≤ 2047)
    (hX : bits .or .i64 (A * 262144) L = X) (hY : bits .or .i64 (B * 262144) L = Y) (k0 k2 k1 k3 kb ky : Int) (K0 : Hid (keyV A 0 0 (ByteArray.mk #[]).size = k0)) (K2 : Hid (keyV A 2 0 (ByteArray.mk #[]).size = k2)) (K1 : Hid (keyV X 1 0 (ByteArray.mk #[]).size = k1)) (K3 : Hid (keyV X 3 0 (ByteArray.mk #[]).size = k3))
    (KB : Hid (keyV B 0 0 (ByteArray.mk #[]).size = kb)) (KY : Hid (keyV Y 1 0 (ByteArray.mk #[]).size = ky)) (Q02 : Hid (lessB k0 k2 = true)) (Q01 : Hid (lessB k0 k1 = true)) (Q21 : Hid (lessB k2 k1 = true)) (Q13 : Hid (lessB k1 k3 = true)) (Q0B : Hid (lessB k0 kb = true)) (Q1Y : Hid (lessB k1 ky = true)) (ab : A < B) (w : World) (hT : Tabs w) :
    Calls Tryd.prog 9 #[.int .i64 a, .int .i64 b, .int .i64 c] w fun e w' => e = .returned (.bool true) ∧ Below w.heap.size w w' := by
  have HT := Lib.hid hT
  have F0 : Hid ((-9223372036854775808 : Int) ≤ 0 ∧ (0 : Int) ≤ 9223372036854775807) := Lib.hid (by decide)
  have F1 : Hid ((-9223372036854775808 : Int) ≤ 1 ∧ (1 : Int) ≤ 9223372036854775807) := Lib.hid (by decide)
  have F2 : Hid ((-9223372036854775808 : Int) ≤ 2 ∧ (2 : Int) ≤ 9223372036854775807) := Lib.hid (by decide)
  have F3 : Hid ((-9223372036854775808 : Int) ≤ 3 ∧ (3 : Int) ≤ 9223372036854775807) := Lib.hid (by decide)
  have ab' : decide (A < B) = true := by simp; omega
  clear hT
  go_enter Tryd.func9, Tryd.ntmps9
  go_wp2_with fail
  refine (less_v K0.out K2.out Q02.out _ ((((HT.out.alloc _).alloc _).alloc _).alloc _) F0.out.1 F0.out.2 F2.out.1 F2.out.2).mono ?_
  rintro e w1 ⟨rfl, hb1⟩
  have T1 := Lib.hid (((((HT.out.alloc _).alloc _).alloc _).alloc _).below hb1)
  obtain ⟨hc1, hf1⟩ := fbcell hb1
  have z1 : w.heap.size < w1.heap.size := by have := hb1.size; simp only [World.size_alloc] at this; omega
  have za1 : w.heap.size + 1 < w1.heap.size := by have := hb1.size; simp only [World.size_alloc] at this; omega
  have zb1 : w.heap.size + 1 + 1 < w1.heap.size := by have := hb1.size; simp only [World.size_alloc] at this; omega
  have zc1 : w.heap.size + 1 + 1 + 1 < w1.heap.size := by have := hb1.size; simp only [World.size_alloc] at this; omega
  go_wp2_with fail
  refine (less_v K0.out K1.out Q01.out _ T1.out F0.out.1 F0.out.2 F1.out.1 F1.out.2).mono ?_
  rintro e w2 ⟨rfl, hb2⟩
  have T2 := Lib.hid (T1.out.below hb2)
  obtain ⟨hc2, hf2⟩ := fbcell hb2
  have z2 : w.heap.size < w2.heap.size := Nat.lt_of_lt_of_le z1 hb2.size
  have za2 : w.heap.size + 1 < w2.heap.size := Nat.lt_of_lt_of_le za1 hb2.size
  have zb2 : w.heap.size + 1 + 1 < w2.heap.size := Nat.lt_of_lt_of_le zb1 hb2.size
  have zc2 : w.heap.size + 1 + 1 + 1 < w2.heap.size := Nat.lt_of_lt_of_le zc1 hb2.size
  go_wp2_with fail
  refine (less_v K2.out K1.out Q21.out _ T2.out F2.out.1 F2.out.2 F1.out.1 F1.out.2).mono ?_
  rintro e w3 ⟨rfl, hb3⟩
  have T3 := Lib.hid (T2.out.below hb3)
  obtain ⟨hc3, hf3⟩ := fbcell hb3
  have z3 : w.heap.size < w3.heap.size := Nat.lt_of_lt_of_le z2 hb3.size
  have za3 : w.heap.size + 1 < w3.heap.size := Nat.lt_of_lt_of_le za2 hb3.size
  have zb3 : w.heap.size + 1 + 1 < w3.heap.size := Nat.lt_of_lt_of_le zb2 hb3.size
  have zc3 : w.heap.size + 1 + 1 + 1 < w3.heap.size := Nat.lt_of_lt_of_le zc2 hb3.size
  go_wp2_with fail
  refine (less_v K1.out K3.out Q13.out _ T3.out F1.out.1 F1.out.2 F3.out.1 F3.out.2).mono ?_
  rintro e w4 ⟨rfl, hb4⟩
  have T4 := Lib.hid (T3.out.below hb4)
  obtain ⟨hc4, hf4⟩ := fbcell hb4
  have z4 : w.heap.size < w4.heap.size := Nat.lt_of_lt_of_le z3 hb4.size
  have za4 : w.heap.size + 1 < w4.heap.size := Nat.lt_of_lt_of_le za3 hb4.size
  have zb4 : w.heap.size + 1 + 1 < w4.heap.size := Nat.lt_of_lt_of_le zb3 hb4.size
  have zc4 : w.heap.size + 1 + 1 + 1 < w4.heap.size := Nat.lt_of_lt_of_le zc3 hb4.size
  go_wp2_with fail
  refine (less_v K0.out KB.out Q0B.out _ T4.out F0.out.1 F0.out.2 F0.out.1 F0.out.2).mono ?_
  rintro e w5 ⟨rfl, hb5⟩
  have T5 := Lib.hid (T4.out.below hb5)
  obtain ⟨hc5, hf5⟩ := fbcell hb5
  have z5 : w.heap.size < w5.heap.size := Nat.lt_of_lt_of_le z4 hb5.size
  have za5 : w.heap.size + 1 < w5.heap.size := Nat.lt_of_lt_of_le za4 hb5.size
  have zb5 : w.heap.size + 1 + 1 < w5.heap.size := Nat.lt_of_lt_of_le zb4 hb5.size
  have zc5 : w.heap.size + 1 + 1 + 1 < w5.heap.size := Nat.lt_of_lt_of_le zc4 hb5.size
  go_wp2_with fail
  refine (less_v K1.out KY.out Q1Y.out _ T5.out F1.out.1 F1.out.2 F1.out.1 F1.out.2).mono ?_
  rintro e w6 ⟨rfl, hb6⟩
  have T6 := Lib.hid (T5.out.below hb6)
  obtain ⟨hc6, hf6⟩ := fbcell hb6
  have z6 : w.heap.size < w6.heap.size := Nat.lt_of_lt_of_le z5 hb6.size
  have za6 : w.heap.size + 1 < w6.heap.size := Nat.lt_of_lt_of_le za5 hb6.size
  have zb6 : w.heap.size + 1 + 1 < w6.heap.size := Nat.lt_of_lt_of_le zb5 hb6.size
  have zc6 : w.heap.size + 1 + 1 + 1 < w6.heap.size := Nat.lt_of_lt_of_le zc5 hb6.size
  go_wp2_with fail
  refine (falive_any _ T6.out).mono ?_
  rintro e w7 ⟨rfl, hb7⟩
  have T7 := Lib.hid (T6.out.below hb7)
  obtain ⟨hc7, hf7⟩ := fbcell hb7
  have z7 : w.heap.size < w7.heap.size := Nat.lt_of_lt_of_le z6 hb7.size
  have za7 : w.heap.size + 1 < w7.heap.size := Nat.lt_of_lt_of_le za6 hb7.size
  have zb7 : w.heap.size + 1 + 1 < w7.heap.size := Nat.lt_of_lt_of_le zb6 hb7.size
  have zc7 : w.heap.size + 1 + 1 + 1 < w7.heap.size := Nat.lt_of_lt_of_le zc6 hb7.size
  go_wp2
  go_ret
  exact ⟨rfl, fbelow_t (fbelow_t (fbelow_t (fbelow_t (fbelow_t (fbelow_t (fbelow_a _ (fbelow_a _ (fbelow_a _ (fbelow_a _ hb1)))) hb2) hb3) hb4) hb5) hb6) hb7⟩

set_option maxHeartbeats 4000000 in
theorem wins_ge (a b c A B L X Y : Int) (hA : bits .and .i64 a 2047 = A) (hB : bits .and .i64 b 2047 = B) (hL : bits .and .i64 c 262143 = L) (a0 : 0 ≤ A) (a1 : A ≤ 2047) (b0 : 0 ≤ B) (b1 : B ≤ 2047)
    (hX : bits .or .i64 (A * 262144) L = X) (hY : bits .or .i64 (B * 262144) L = Y) (k0 k2 k1 k3 kb ky : Int) (K0 : Hid (keyV A 0 0 (ByteArray.mk #[]).size = k0)) (K2 : Hid (keyV A 2 0 (ByteArray.mk #[]).size = k2)) (K1 : Hid (keyV X 1 0 (ByteArray.mk #[]).size = k1)) (K3 : Hid (keyV X 3 0 (ByteArray.mk #[]).size = k3))
    (KB : Hid (keyV B 0 0 (ByteArray.mk #[]).size = kb)) (KY : Hid (keyV Y 1 0 (ByteArray.mk #[]).size = ky)) (Q02 : Hid (lessB k0 k2 = true)) (Q01 : Hid (lessB k0 k1 = true)) (Q21 : Hid (lessB k2 k1 = true)) (Q13 : Hid (lessB k1 k3 = true)) (Q0B : Hid (lessB k0 kb = false)) (Q1Y : Hid (lessB k1 ky = false)) (ab : ¬ A < B) (w : World) (hT : Tabs w) :
    Calls Tryd.prog 9 #[.int .i64 a, .int .i64 b, .int .i64 c] w fun e w' => e = .returned (.bool true) ∧ Below w.heap.size w w' := by
  have HT := Lib.hid hT
  have F0 : Hid ((-9223372036854775808 : Int) ≤ 0 ∧ (0 : Int) ≤ 9223372036854775807) := Lib.hid (by decide)
  have F1 : Hid ((-9223372036854775808 : Int) ≤ 1 ∧ (1 : Int) ≤ 9223372036854775807) := Lib.hid (by decide)
  have F2 : Hid ((-9223372036854775808 : Int) ≤ 2 ∧ (2 : Int) ≤ 9223372036854775807) := Lib.hid (by decide)
  have F3 : Hid ((-9223372036854775808 : Int) ≤ 3 ∧ (3 : Int) ≤ 9223372036854775807) := Lib.hid (by decide)
  have ab' : decide (A < B) = false := by simp; omega
  clear hT
  go_enter Tryd.func9, Tryd.ntmps9
  go_wp2_with fail
  refine (less_v K0.out K2.out Q02.out _ ((((HT.out.alloc _).alloc _).alloc _).alloc _) F0.out.1 F0.out.2 F2.out.1 F2.out.2).mono ?_
  rintro e w1 ⟨rfl, hb1⟩
  have T1 := Lib.hid (((((HT.out.alloc _).alloc _).alloc _).alloc _).below hb1)
  obtain ⟨hc1, hf1⟩ := fbcell hb1
  have z1 : w.heap.size < w1.heap.size := by have := hb1.size; simp only [World.size_alloc] at this; omega
  have za1 : w.heap.size + 1 < w1.heap.size := by have := hb1.size; simp only [World.size_alloc] at this; omega
  have zb1 : w.heap.size + 1 + 1 < w1.heap.size := by have := hb1.size; simp only [World.size_alloc] at this; omega
  have zc1 : w.heap.size + 1 + 1 + 1 < w1.heap.size := by have := hb1.size; simp only [World.size_alloc] at this; omega
  go_wp2_with fail
  refine (less_v K0.out K1.out Q01.out _ T1.out F0.out.1 F0.out.2 F1.out.1 F1.out.2).mono ?_
  rintro e w2 ⟨rfl, hb2⟩
  have T2 := Lib.hid (T1.out.below hb2)
  obtain ⟨hc2, hf2⟩ := fbcell hb2
  have z2 : w.heap.size < w2.heap.size := Nat.lt_of_lt_of_le z1 hb2.size
  have za2 : w.heap.size + 1 < w2.heap.size := Nat.lt_of_lt_of_le za1 hb2.size
  have zb2 : w.heap.size + 1 + 1 < w2.heap.size := Nat.lt_of_lt_of_le zb1 hb2.size
  have zc2 : w.heap.size + 1 + 1 + 1 < w2.heap.size := Nat.lt_of_lt_of_le zc1 hb2.size
  go_wp2_with fail
  refine (less_v K2.out K1.out Q21.out _ T2.out F2.out.1 F2.out.2 F1.out.1 F1.out.2).mono ?_
  rintro e w3 ⟨rfl, hb3⟩
  have T3 := Lib.hid (T2.out.below hb3)
  obtain ⟨hc3, hf3⟩ := fbcell hb3
  have z3 : w.heap.size < w3.heap.size := Nat.lt_of_lt_of_le z2 hb3.size
  have za3 : w.heap.size + 1 < w3.heap.size := Nat.lt_of_lt_of_le za2 hb3.size
  have zb3 : w.heap.size + 1 + 1 < w3.heap.size := Nat.lt_of_lt_of_le zb2 hb3.size
  have zc3 : w.heap.size + 1 + 1 + 1 < w3.heap.size := Nat.lt_of_lt_of_le zc2 hb3.size
  go_wp2_with fail
  refine (less_v K1.out K3.out Q13.out _ T3.out F1.out.1 F1.out.2 F3.out.1 F3.out.2).mono ?_
  rintro e w4 ⟨rfl, hb4⟩
  have T4 := Lib.hid (T3.out.below hb4)
  obtain ⟨hc4, hf4⟩ := fbcell hb4
  have z4 : w.heap.size < w4.heap.size := Nat.lt_of_lt_of_le z3 hb4.size
  have za4 : w.heap.size + 1 < w4.heap.size := Nat.lt_of_lt_of_le za3 hb4.size
  have zb4 : w.heap.size + 1 + 1 < w4.heap.size := Nat.lt_of_lt_of_le zb3 hb4.size
  have zc4 : w.heap.size + 1 + 1 + 1 < w4.heap.size := Nat.lt_of_lt_of_le zc3 hb4.size
  go_wp2_with fail
  refine (less_v K0.out KB.out Q0B.out _ T4.out F0.out.1 F0.out.2 F0.out.1 F0.out.2).mono ?_
  rintro e w5 ⟨rfl, hb5⟩
  have T5 := Lib.hid (T4.out.below hb5)
  obtain ⟨hc5, hf5⟩ := fbcell hb5
  have z5 : w.heap.size < w5.heap.size := Nat.lt_of_lt_of_le z4 hb5.size
  have za5 : w.heap.size + 1 < w5.heap.size := Nat.lt_of_lt_of_le za4 hb5.size
  have zb5 : w.heap.size + 1 + 1 < w5.heap.size := Nat.lt_of_lt_of_le zb4 hb5.size
  have zc5 : w.heap.size + 1 + 1 + 1 < w5.heap.size := Nat.lt_of_lt_of_le zc4 hb5.size
  go_wp2_with fail
  refine (less_v K1.out KY.out Q1Y.out _ T5.out F1.out.1 F1.out.2 F1.out.1 F1.out.2).mono ?_
  rintro e w6 ⟨rfl, hb6⟩
  have T6 := Lib.hid (T5.out.below hb6)
  obtain ⟨hc6, hf6⟩ := fbcell hb6
  have z6 : w.heap.size < w6.heap.size := Nat.lt_of_lt_of_le z5 hb6.size
  have za6 : w.heap.size + 1 < w6.heap.size := Nat.lt_of_lt_of_le za5 hb6.size
  have zb6 : w.heap.size + 1 + 1 < w6.heap.size := Nat.lt_of_lt_of_le zb5 hb6.size
  have zc6 : w.heap.size + 1 + 1 + 1 < w6.heap.size := Nat.lt_of_lt_of_le zc5 hb6.size
  go_wp2_with fail
  refine (falive_any _ T6.out).mono ?_
  rintro e w7 ⟨rfl, hb7⟩
  have T7 := Lib.hid (T6.out.below hb7)
  obtain ⟨hc7, hf7⟩ := fbcell hb7
  have z7 : w.heap.size < w7.heap.size := Nat.lt_of_lt_of_le z6 hb7.size
  have za7 : w.heap.size + 1 < w7.heap.size := Nat.lt_of_lt_of_le za6 hb7.size
  have zb7 : w.heap.size + 1 + 1 < w7.heap.size := Nat.lt_of_lt_of_le zb6 hb7.size
  have zc7 : w.heap.size + 1 + 1 + 1 < w7.heap.size := Nat.lt_of_lt_of_le zc6 hb7.size
  go_wp2
  go_ret
  exact ⟨rfl, fbelow_t (fbelow_t (fbelow_t (fbelow_t (fbelow_t (fbelow_t (fbelow_a _ (fbelow_a _ (fbelow_a _ (fbelow_a _ hb1)))) hb2) hb3) hb4) hb5) hb6) hb7⟩

theorem lessB_t {a b : Int} (h0 : 0 ≤ a) (h1 : a < b) : lessB a b = true := by unfold lessB; simp; omega
theorem lessB_f {a b : Int} (h1 : ¬ a < b) : lessB a b = false := by unfold lessB; simp; omega
theorem frameWins_walk (a b c : Int) (_wa : (Lit.int .i64 a).wf = true) (_wb : (Lit.int .i64 b).wf = true) (_wc : (Lit.int .i64 c).wf = true) (w : World) (hT : Tabs w) :
    Calls Tryd.prog 9 #[.int .i64 a, .int .i64 b, .int .i64 c] w fun e w' => e = .returned (.bool true) ∧ Below w.heap.size w w' := by
  have ha := and_mask (x := a) 2047 (by decide)
  have hb := and_mask (x := b) 2047 (by decide)
  have hc := and_mask (x := c) 262143 (by decide)
  obtain ⟨A, hA⟩ : ∃ A, bits .and .i64 a 2047 = A := ⟨_, rfl⟩
  obtain ⟨B, hB⟩ : ∃ B, bits .and .i64 b 2047 = B := ⟨_, rfl⟩
  obtain ⟨L, hL⟩ : ∃ L, bits .and .i64 c 262143 = L := ⟨_, rfl⟩
  have ha' : 0 ≤ A ∧ A ≤ 2047 := by rw [← hA]; exact ha
  have hb' : 0 ≤ B ∧ B ≤ 2047 := by rw [← hB]; exact hb
  have hc' : 0 ≤ L ∧ L ≤ 262143 := by rw [← hL]; exact hc
  clear ha hb hc
  have hX := or_join (A * 262144) L 18 (by omega) (by omega) (by omega) (by omega) (by omega) (by omega)
  have hY := or_join (B * 262144) L 18 (by omega) (by omega) (by omega) (by omega) (by omega) (by omega)
  have k0 := kv_nar (n := 0) (.inl rfl) ha'.1 ha'.2
  have k2 := kv_nar (n := 2) (.inr rfl) ha'.1 ha'.2
  have kb := kv_nar (n := 0) (.inl rfl) hb'.1 hb'.2
  have k1 := kv_wid (i := A * 262144 + L) (n := 1) (.inl rfl) (by omega) (by omega)
  have k3 := kv_wid (i := A * 262144 + L) (n := 3) (.inr rfl) (by omega) (by omega)
  have ky := kv_wid (i := B * 262144 + L) (n := 1) (.inl rfl) (by omega) (by omega)
  rw [show b01 (fR 0) = 0 from by decide] at k0 kb
  rw [show b01 (fR 2) = 1 from by decide] at k2
  rw [show b01 (fR 1) = 0 from by decide] at k1 ky
  rw [show b01 (fR 3) = 1 from by decide] at k3
  by_cases ab : A < B
  · exact wins_lt a b c A B L _ _ hA hB hL ha'.1 ha'.2 hb'.1 hb'.2 hX hY _ _ _ _ _ _ (Lib.hid k0) (Lib.hid k2) (Lib.hid k1) (Lib.hid k3) (Lib.hid kb) (Lib.hid ky) (Lib.hid (lessB_t (by omega) (by omega))) (Lib.hid (lessB_t (by omega) (by omega))) (Lib.hid (lessB_t (by omega) (by omega))) (Lib.hid (lessB_t (by omega) (by omega)))
      (Lib.hid (lessB_t (by omega) (by omega))) (Lib.hid (lessB_t (by omega) (by omega))) ab w hT
  · exact wins_ge a b c A B L _ _ hA hB hL ha'.1 ha'.2 hb'.1 hb'.2 hX hY _ _ _ _ _ _ (Lib.hid k0) (Lib.hid k2) (Lib.hid k1) (Lib.hid k3) (Lib.hid kb) (Lib.hid ky) (Lib.hid (lessB_t (by omega) (by omega))) (Lib.hid (lessB_t (by omega) (by omega))) (Lib.hid (lessB_t (by omega) (by omega))) (Lib.hid (lessB_t (by omega) (by omega)))
      (Lib.hid (lessB_f (by omega))) (Lib.hid (lessB_f (by omega))) ab w hT

end Go.Proofs.YtellhnhkdbbngaaDoor
