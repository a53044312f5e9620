/- Match: the contract of the document's Witness. -/
import Derived.Test.YtohoedhaomkafaaDoorMatC
namespace Go.Proofs.YtohoedhaomkafaaDoor
open Go.RowKit
set_option linter.unusedVariables false

/-- the bit of the document's base -/
def wbN (a b : Flt) (k : Nat) : Bool := if !b.v && b.m.testBit k then b.i.testBit k else a.v && a.m.testBit k && a.i.testBit k
/-- the base, behind so many rounds -/
def baseN (a b : Flt) : Nat → Nat
  | 0 => 0
  | s + 1 => 2 * baseN a b s + (if wbN a b (31 - s) then 1 else 0)
theorem baseN_bd (a b : Flt) : ∀ s, s ≤ 32 → baseN a b s < 2 ^ s
  | 0, _ => by simp [baseN]
  | s + 1, h => by
    have ih := baseN_bd a b s (by omega)
    unfold baseN
    rw [Nat.pow_succ]
    split <;> omega
theorem baseN_lt (a b : Flt) {s : Nat} (h : s ≤ 32) : baseN a b s < 4294967296 := by
  have h1 := baseN_bd a b s h
  have : 2 ^ s ≤ 2 ^ 32 := Nat.pow_le_pow_right (by decide) h
  omega
theorem baseN_bit (a b : Flt) : ∀ s k, s ≤ 32 → (baseN a b s).testBit k = (decide (k < s) && wbN a b (32 - s + k))
  | 0, k, _ => by simp [baseN]
  | s + 1, 0, h => by
    unfold baseN
    rw [Nat.testBit_zero, show 32 - (s + 1) + 0 = 31 - s by omega]
    cases wbN a b (31 - s) <;> simp <;> omega
  | s + 1, k + 1, h => by
    have ih := baseN_bit a b s k (by omega)
    unfold baseN
    rw [Nat.testBit_succ, show (2 * baseN a b s + (if wbN a b (31 - s) then 1 else 0)) / 2 = baseN a b s by split <;> omega, ih, show 32 - (s + 1) + (k + 1) = 32 - s + k by omega]
    simp
theorem base_bit (a b : Flt) (k : Nat) : (baseN a b 32).testBit k = (decide (k < 32) && wbN a b k) := by
  have := baseN_bit a b 32 k (by omega)
  simpa using this
/-- if any word is hit by b, and not by a, the base is what none may lack -/
theorem base_low {a b : Flt} {u : Nat} (ha : a.fits) (hb : b.fits) (h : bothN (turnF a) b u = true) : baseN a b 32 = lowN (turnF a) b := by
  have hab := h
  unfold bothN at hab
  rw [Bool.and_eq_true] at hab
  apply Nat.eq_of_testBit_eq
  intro k
  rw [base_bit, Bool.eq_iff_iff, low_bit, ask_bit, ask_bit]
  have hA : (turnF a).v = (!a.v) := rfl
  have hA1 : (turnF a).i = a.i := rfl
  have hA2 : (turnF a).m = a.m := rfl
  rw [hA, hA1, hA2]
  unfold wbN
  rw [Bool.and_eq_true, decide_eq_true_eq]
  constructor
  · rintro ⟨hk, hw⟩
    cases hv : b.v <;> rw [hv] at hw <;> cases hm : b.m.testBit k <;> rw [hm] at hw <;> simp at hw
    · exact .inl ⟨by simp [hw.1.1], hw.2, hw.1.2⟩
    · exact .inr ⟨rfl, hw, rfl⟩
    · exact .inl ⟨by simp [hw.1.1], hw.2, hw.1.2⟩
    · exact .inl ⟨by simp [hw.1.1], hw.2, hw.1.2⟩
  · rintro (⟨hv, hi, hm⟩ | ⟨hv, hi, hm⟩)
    · refine ⟨bit_lt ha.2 hm, ?_⟩
      have hv' : a.v = true := by simpa using hv
      have hu := (hit_pos (f := turnF a) hv u).1 hab.1 k hm
      rw [hA1, hi] at hu
      cases hbv : b.v
      · cases hbm : b.m.testBit k
        · simp [hv', hi, hm]
        · have := (hit_pos hbv u).1 hab.2 k hbm
          rw [hu] at this
          simp [← this]
      · simp [hv', hi, hm]
    · exact ⟨bit_lt hb.2 hm, by simp [hv, hi, hm]⟩

/-- the document's candidate -/
def candN (n i k : Nat) : Nat := flipN (flipN n i) k
theorem cand_lt {n i k : Nat} (h : n < 4294967296) : candN n i k < 4294967296 := flip_lt (flip_lt h)
theorem cand_0 (n : Nat) : candN n 32 32 = n := rfl
theorem cand_1 {n i : Nat} (hi : i < 32) (h : n.testBit i = false) : candN n i 32 = n + 2 ^ i := by
  unfold candN flipN
  rw [if_pos (show 31 < 32 by decide), if_neg (by omega), h]
  rfl
theorem cand_2 {n i j : Nat} (hi : i < 32) (hj : j < i) (h : n.testBit i = false) (h' : n.testBit j = false) : candN n i j = n + 2 ^ i + 2 ^ j := by
  have hb : (n + 2 ^ i).testBit j = false := by
    rw [← or_pow_add _ _ h, Nat.testBit_or, h', Nat.testBit_two_pow]
    simp; omega
  unfold candN flipN
  rw [if_neg (show ¬ 31 < j by omega), if_neg (show ¬ 31 < i by omega), h]
  simp only [Bool.false_eq_true, if_false]
  rw [hb]
  simp

/-- what was found among the first t candidates -/
def Best (P : Nat → Bool) (n t c : Nat) (q : Bool) : Prop :=
  (q = true ∧ c < 4294967296 ∧ P c = true ∧ ∀ i k, k ≤ 32 → i * 33 + k < t → P (candN n i k) = true → c ≤ candN n i k) ∨
  (q = false ∧ c = 0 ∧ ∀ i k, k ≤ 32 → i * 33 + k < t → P (candN n i k) = false)
theorem Best.start (P : Nat → Bool) (n : Nat) : Best P n 0 0 false := .inr ⟨rfl, rfl, fun _ _ _ h => absurd h (Nat.not_lt_zero _)⟩
theorem Best.miss {P : Nat → Bool} {n t c i k : Nat} {q : Bool} (h : Best P n t c q) (ht : t = i * 33 + k) (hk : k ≤ 32) (hp : P (candN n i k) = false) : Best P n (t + 1) c q := by
  subst ht
  have hcase : ∀ i' k', k' ≤ 32 → i' * 33 + k' < i * 33 + k + 1 → i' * 33 + k' < i * 33 + k ∨ (i' = i ∧ k' = k) := by omega
  rcases h with ⟨hq, hc, hpc, hl⟩ | ⟨hq, hc, hl⟩
  · refine .inl ⟨hq, hc, hpc, fun i' k' hk' hlt hp' => ?_⟩
    rcases hcase i' k' hk' hlt with h | ⟨rfl, rfl⟩
    · exact hl i' k' hk' h hp'
    · rw [hp] at hp'; cases hp'
  · refine .inr ⟨hq, hc, fun i' k' hk' hlt => ?_⟩
    rcases hcase i' k' hk' hlt with h | ⟨rfl, rfl⟩
    · exact hl i' k' hk' h
    · exact hp
theorem Best.first {P : Nat → Bool} {n t c i k : Nat} (h : Best P n t c false) (ht : t = i * 33 + k) (hk : k ≤ 32) (hn : n < 4294967296) (hp : P (candN n i k) = true) : Best P n (t + 1) (candN n i k) true := by
  subst ht
  have hcase : ∀ i' k', k' ≤ 32 → i' * 33 + k' < i * 33 + k + 1 → i' * 33 + k' < i * 33 + k ∨ (i' = i ∧ k' = k) := by omega
  rcases h with ⟨hq, _⟩ | ⟨hq, hc, hl⟩
  · cases hq
  · refine .inl ⟨rfl, cand_lt hn, hp, fun i' k' hk' hlt hp' => ?_⟩
    rcases hcase i' k' hk' hlt with h | ⟨rfl, rfl⟩
    · rw [hl i' k' hk' h] at hp'; cases hp'
    · exact Nat.le_refl _
theorem Best.less {P : Nat → Bool} {n t c i k : Nat} (h : Best P n t c true) (ht : t = i * 33 + k) (hk : k ≤ 32) (hn : n < 4294967296) (hp : P (candN n i k) = true) (hlt : candN n i k < c) : Best P n (t + 1) (candN n i k) true := by
  subst ht
  have hcase : ∀ i' k', k' ≤ 32 → i' * 33 + k' < i * 33 + k + 1 → i' * 33 + k' < i * 33 + k ∨ (i' = i ∧ k' = k) := by omega
  rcases h with ⟨hq, hc, hpc, hl⟩ | ⟨hq, _⟩
  · refine .inl ⟨rfl, cand_lt hn, hp, fun i' k' hk' hlt' hp' => ?_⟩
    rcases hcase i' k' hk' hlt' with h | ⟨rfl, rfl⟩
    · have := hl i' k' hk' h hp'; omega
    · exact Nat.le_refl _
  · cases hq
theorem Best.more {P : Nat → Bool} {n t c i k : Nat} (h : Best P n t c true) (ht : t = i * 33 + k) (hk : k ≤ 32) (hge : c ≤ candN n i k) : Best P n (t + 1) c true := by
  subst ht
  have hcase : ∀ i' k', k' ≤ 32 → i' * 33 + k' < i * 33 + k + 1 → i' * 33 + k' < i * 33 + k ∨ (i' = i ∧ k' = k) := by omega
  rcases h with ⟨hq, hc, hpc, hl⟩ | ⟨hq, _⟩
  · refine .inl ⟨rfl, hc, hpc, fun i' k' hk' hlt' hp' => ?_⟩
    rcases hcase i' k' hk' hlt' with h | ⟨rfl, rfl⟩
    · exact hl i' k' hk' h hp'
    · exact hge
  · cases hq
theorem Best.bd {P : Nat → Bool} {n t c : Nat} {q : Bool} (h : Best P n t c q) : c < 4294967296 := by
  rcases h with ⟨_, hc, _⟩ | ⟨_, hc, _⟩
  · exact hc
  · omega
/-- the least word is among the candidates -/
theorem Best.least {a b : Flt} {c : Nat} {q : Bool} (ha : a.fits) (hb : b.fits) (h : Best (bothN (turnF a) b) (baseN a b 32) 1089 c q) : Least (bothN (turnF a) b) c q := by
  have key : ∀ u, u < 4294967296 → bothN (turnF a) b u = true → (∀ x, x < u → bothN (turnF a) b x = false) → ∃ i k, k ≤ 32 ∧ i * 33 + k < 1089 ∧ u = candN (baseN a b 32) i k := by
    intro u hu hp hl
    rw [base_low ha hb hp]
    rcases least_form hu hp hl with e | ⟨i, hi, hil, e | ⟨j, hj, hjl, e⟩⟩
    · exact ⟨32, 32, by omega, by omega, by rw [cand_0]; exact e⟩
    · exact ⟨i, 32, by omega, by omega, by rw [cand_1 hi hil]; exact e⟩
    · exact ⟨i, j, by omega, by omega, by rw [cand_2 hi hj hil hjl]; exact e⟩
  rcases h with ⟨hq, hc, hpc, hl⟩ | ⟨hq, hc, hl⟩
  · obtain ⟨u, hu, hpu, hlu⟩ := least_below (c + 1) c (by omega) hpc
    obtain ⟨i, k, hk, hlt, e⟩ := key u (by omega) hpu hlu
    have := hl i k hk hlt (by rw [← e]; exact hpu)
    have : u = c := by omega
    subst this
    exact .inl ⟨hq, hc, hpu, hlu⟩
  · refine .inr ⟨hq, hc, fun x hx => ?_⟩
    cases hpx : bothN (turnF a) b x
    · rfl
    · exfalso
      obtain ⟨u, hu, hpu, hlu⟩ := least_below (x + 1) x (by omega) hpx
      obtain ⟨i, k, hk, hlt, e⟩ := key u (by omega) hpu hlu
      rw [e, hl i k hk hlt] at hpu
      cases hpu
theorem Boxes.two (w : World) (a b : Flt) (t t' : TypeId) : Boxes ((w.alloc (.cells #[.int .u32 a.i, .int .u32 a.m, .bool a.v] t)).alloc (.cells #[.int .u32 b.i, .int .u32 b.m, .bool b.v] t')) w.heap.size a b ∧
    Below w.heap.size w ((w.alloc (.cells #[.int .u32 a.i, .int .u32 a.m, .bool a.v] t)).alloc (.cells #[.int .u32 b.i, .int .u32 b.m, .bool b.v] t')) :=
  ⟨⟨(FlAt.made w a _ _ rfl).below (fbelow_a _ (Below.refl _ _)) (by simp), FlAt.made _ b _ _ (by simp), by simp⟩, fbelow_a _ (fbelow_a _ (Below.refl _ _))⟩
theorem both_turn (a b : Flt) (u : Nat) : bothN (turnF a) b u = (hitN b u && !hitN a u) := by
  unfold bothN; rw [hit_turn, Bool.and_comm]

theorem base_next (a b : Flt) (s k : Nat) (h : s + (k + 1) = 32) : ((baseN a b (s + 1) : Nat) : Int) = 2 * (baseN a b s : Int) + (if (if !b.v && b.m.testBit k then b.i.testBit k else a.v && a.m.testBit k && a.i.testBit k) = true then 1 else 0) := by
  have : baseN a b (s + 1) = 2 * baseN a b s + (if wbN a b (31 - s) then 1 else 0) := rfl
  rw [this, show 31 - s = k by omega]
  show _ = 2 * (baseN a b s : Int) + (if wbN a b k = true then 1 else 0)
  cases wbN a b k <;> simp

end Go.Proofs.YtohoedhaomkafaaDoor
