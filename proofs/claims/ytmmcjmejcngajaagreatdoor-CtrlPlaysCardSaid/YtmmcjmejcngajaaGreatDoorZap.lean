/- Match: the plain numbers: filters, which words they hit, the least word that two hit. No program is meant here. Match: filters in memory; contracts of Hit, hits, floor. Match: contracts of Witness and its closure, Covers. Match: contracts of the document's bit, Hit, flip. -/
import Derived.Test.YtmmcjmejcngajaaGreatDoorZaa
import Derived.Test.YtmmcjmejcngajaaGreatDoorZad
import Derived.Test.YtmmcjmejcngajaaGreatDoorZaf
namespace Go.Proofs.YtmmcjmejcngajaaGreatDoor
open Go.RowKit
set_option linter.unusedVariables false

/-- a filter: its ID, its mask, and whether it is turned -/
structure Flt where
  i : Nat
  m : Nat
  v : Bool
/-- does the filter hit the word? -/
def hitN (f : Flt) (w : Nat) : Bool := (((w ^^^ f.i) &&& f.m) == 0) != f.v
/-- are the word and the filter's ID the same in all bits of its mask? -/
def SameN (f : Flt) (w : Nat) : Prop := ∀ k, f.m.testBit k = true → w.testBit k = f.i.testBit k
theorem same_iff (f : Flt) (w : Nat) : ((((w ^^^ f.i) &&& f.m) == 0) = true) ↔ SameN f w := by
  rw [beq_iff_eq]
  constructor
  · intro h k hk
    have : ((w ^^^ f.i) &&& f.m).testBit k = false := by rw [h]; exact Nat.zero_testBit k
    rw [Nat.testBit_and, Nat.testBit_xor, hk, Bool.and_true] at this
    revert this
    cases w.testBit k <;> cases f.i.testBit k <;> simp
  · intro h
    apply Nat.eq_of_testBit_eq
    intro k
    rw [Nat.testBit_and, Nat.testBit_xor, Nat.zero_testBit]
    cases hk : f.m.testBit k
    · simp
    · rw [h k hk]; simp
theorem hit_pos {f : Flt} (hv : f.v = false) (w : Nat) : hitN f w = true ↔ SameN f w := by
  unfold hitN; rw [hv, ← same_iff]; simp
theorem hit_neg {f : Flt} (hv : f.v = true) (w : Nat) : hitN f w = true ↔ ¬ SameN f w := by
  unfold hitN; rw [hv, ← same_iff]; simp
theorem hit_neg' {f : Flt} (hv : f.v = true) (w : Nat) : hitN f w = false ↔ SameN f w := by
  unfold hitN; rw [hv, ← same_iff]; simp
/-- the filter, turned -/
def turnF (f : Flt) : Flt := { f with v := !f.v }
theorem hit_turn (f : Flt) (w : Nat) : hitN (turnF f) w = !hitN f w := by
  unfold hitN turnF; cases f.v <;> cases (((w ^^^ f.i) &&& f.m) == 0) <;> rfl

/-- w is the least word of which P is true, and q: or there is none -/
def Least (P : Nat → Bool) (w : Nat) (q : Bool) : Prop :=
  (q = true ∧ w < 4294967296 ∧ P w = true ∧ ∀ u, u < w → P u = false) ∨ (q = false ∧ w = 0 ∧ ∀ u, u < 4294967296 → P u = false)
theorem Least.same {P : Nat → Bool} {w w' : Nat} {q q' : Bool} (h : Least P w q) (h' : Least P w' q') : w = w' ∧ q = q' := by
  rcases h with ⟨hq, hw, hp, hl⟩ | ⟨hq, hw, hl⟩ <;> rcases h' with ⟨hq', hw', hp', hl'⟩ | ⟨hq', hw', hl'⟩
  · refine ⟨?_, by rw [hq, hq']⟩
    rcases Nat.lt_trichotomy w w' with h | h | h
    · rw [hl' _ h] at hp; cases hp
    · exact h
    · rw [hl _ h] at hp'; cases hp'
  · rw [hl' _ hw] at hp; cases hp
  · rw [hl _ hw'] at hp'; cases hp'
  · exact ⟨by rw [hw, hw'], by rw [hq, hq']⟩
theorem least_below {P : Nat → Bool} : ∀ (n u : Nat), u < n → P u = true → ∃ v, v ≤ u ∧ P v = true ∧ ∀ x, x < v → P x = false
  | 0, u, hu, _ => absurd hu (Nat.not_lt_zero _)
  | n + 1, u, hu, hp => by
    by_cases h : ∃ x, x < u ∧ P x = true
    · obtain ⟨x, hx, hpx⟩ := h
      obtain ⟨v, hv, hpv, hl⟩ := least_below n x (by omega) hpx
      exact ⟨v, by omega, hpv, hl⟩
    · refine ⟨u, Nat.le_refl _, hp, fun x hx => ?_⟩
      cases hpx : P x
      · rfl
      · exact absurd ⟨x, hx, hpx⟩ h
theorem least_some (P : Nat → Bool) : ∃ w q, Least P w q := by
  by_cases h : ∃ u, u < 4294967296 ∧ P u = true
  · obtain ⟨u, hu, hp⟩ := h
    obtain ⟨v, hv, hpv, hl⟩ := least_below (u + 1) u (by omega) hp
    exact ⟨v, true, .inl ⟨rfl, by omega, hpv, hl⟩⟩
  · refine ⟨0, false, .inr ⟨rfl, rfl, fun u hu => ?_⟩⟩
    cases hpu : P u
    · rfl
    · exact absurd ⟨u, hu, hpu⟩ h

/-- do both hit it? -/
def bothN (a b : Flt) (w : Nat) : Bool := hitN a w && hitN b w
/-- what one filter asks to be 1 -/
def askN (f : Flt) : Nat := if f.v then 0 else f.i &&& f.m
/-- what no word may lack that both hit -/
def lowN (a b : Flt) : Nat := askN a ||| askN b
theorem ask_bit (f : Flt) (k : Nat) : (askN f).testBit k = true ↔ f.v = false ∧ f.i.testBit k = true ∧ f.m.testBit k = true := by
  unfold askN
  cases hv : f.v <;> simp
theorem low_bit (a b : Flt) (k : Nat) : (lowN a b).testBit k = true ↔ (askN a).testBit k = true ∨ (askN b).testBit k = true := by
  unfold lowN; rw [Nat.testBit_or, Bool.or_eq_true]
theorem ask_in {f : Flt} {u k : Nat} (h : hitN f u = true) (hk : (askN f).testBit k = true) : u.testBit k = true := by
  obtain ⟨hv, hi, hm⟩ := (ask_bit f k).1 hk
  rw [(hit_pos hv u).1 h k hm, hi]
theorem low_in {a b : Flt} {u k : Nat} (h : bothN a b u = true) (hk : (lowN a b).testBit k = true) : u.testBit k = true := by
  unfold bothN at h
  rw [Bool.and_eq_true] at h
  rcases (low_bit a b k).1 hk with hk | hk
  · exact ask_in h.1 hk
  · exact ask_in h.2 hk

/-- taken away one bit k of u, the filter does not hit any more: just there it differs -/
def Crit (f : Flt) (u k : Nat) : Prop := f.i.testBit k = false ∧ ∀ j, f.m.testBit j = true → j ≠ k → u.testBit j = f.i.testBit j
theorem Crit.one {f : Flt} {u k k' : Nat} (h : Crit f u k) (h' : Crit f u k') (hm : f.m.testBit k = true) (hu : u.testBit k = true) : k = k' := by
  apply Decidable.byContradiction
  intro hne
  have := h'.2 k hm hne
  rw [hu, h.1] at this
  cases this

theorem or_pow_add (n k : Nat) (h : n.testBit k = false) : n ||| 2 ^ k = n + 2 ^ k := by
  have h1 : n % 2 ^ (k + 1) < 2 ^ k := by
    have := Nat.testBit_eq_decide_div_mod_eq (x := n) (i := k)
    rw [h] at this
    have h2 : n / 2 ^ k % 2 = 0 := by
      have : ¬ n / 2 ^ k % 2 = 1 := by intro e; rw [decide_eq_true e] at this; cases this
      omega
    have h3 := Nat.mod_mul (x := n) (a := 2 ^ k) (b := 2)
    rw [← Nat.pow_succ] at h3
    rw [h3, h2, Nat.mul_zero, Nat.add_zero]
    exact Nat.mod_lt _ (Nat.two_pow_pos k)
  apply Nat.eq_of_testBit_eq
  intro j
  have hd := Nat.div_add_mod n (2 ^ (k + 1))
  have e1 : n = 2 ^ (k + 1) * (n / 2 ^ (k + 1)) ||| n % 2 ^ (k + 1) := by
    rw [← Nat.two_pow_add_eq_or_of_lt (Nat.mod_lt _ (Nat.two_pow_pos _))]; exact hd.symm
  have e2 : 2 ^ k ||| n % 2 ^ (k + 1) = 2 ^ k + n % 2 ^ (k + 1) := by
    have := Nat.two_pow_add_eq_or_of_lt h1 1
    rw [Nat.mul_one] at this; exact this.symm
  have hlt : 2 ^ k + n % 2 ^ (k + 1) < 2 ^ (k + 1) := by have h5 := Nat.pow_succ 2 k; omega
  have e3 : n + 2 ^ k = 2 ^ (k + 1) * (n / 2 ^ (k + 1)) ||| (2 ^ k + n % 2 ^ (k + 1)) := by
    rw [← Nat.two_pow_add_eq_or_of_lt hlt, Nat.add_left_comm, hd, Nat.add_comm]
  rw [e3, ← e2, Nat.testBit_or, Nat.testBit_or, Nat.testBit_or]
  conv => lhs; rw [e1]
  rw [Nat.testBit_or]
  cases (2 ^ (k + 1) * (n / 2 ^ (k + 1))).testBit j <;> cases (n % 2 ^ (k + 1)).testBit j <;> simp
theorem sub_pow_bit (u k j : Nat) (h : u.testBit k = true) : (u - 2 ^ k).testBit j = (decide (j ≠ k) && u.testBit j) := by
  have hx : (u ^^^ 2 ^ k).testBit k = false := by rw [Nat.testBit_xor, h, Nat.testBit_two_pow_self]; rfl
  have he : u = (u ^^^ 2 ^ k) + 2 ^ k := by
    rw [← or_pow_add _ _ hx]
    apply Nat.eq_of_testBit_eq
    intro i
    rw [Nat.testBit_or, Nat.testBit_xor, Nat.testBit_two_pow]
    by_cases hi : k = i
    · subst hi; rw [h]; simp
    · simp [hi]
  have hs : u - 2 ^ k = u ^^^ 2 ^ k := by omega
  rw [hs, Nat.testBit_xor, Nat.testBit_two_pow]
  by_cases hj : j = k
  · subst hj; rw [h]; simp
  · have : ¬ k = j := fun e => hj e.symm
    simp [hj, this]
theorem crit_of {f : Flt} {u k : Nat} (h : hitN f u = true) (hk : u.testBit k = true) (ha : (askN f).testBit k = false) (hn : hitN f (u - 2 ^ k) = false) : f.m.testBit k = true ∧ Crit f u k := by
  cases hv : f.v
  · exfalso
    have hs := (hit_pos hv u).1 h
    have : SameN f (u - 2 ^ k) := by
      intro j hj
      rw [sub_pow_bit u k j hk]
      by_cases e : j = k
      · subst e
        have h1 := hs j hj
        rw [hk] at h1
        have : (askN f).testBit j = true := (ask_bit f j).2 ⟨hv, h1.symm, hj⟩
        rw [ha] at this; cases this
      · simp [e, hs j hj]
    rw [(hit_pos hv _).2 this] at hn
    cases hn
  · have hs := (hit_neg hv u).1 h
    have hn' := (hit_neg' hv _).1 hn
    have hm : f.m.testBit k = true := by
      apply Decidable.byContradiction
      intro hm
      apply hs
      intro j hj
      have := hn' j hj
      rw [sub_pow_bit u k j hk] at this
      have hne : j ≠ k := by intro e; subst e; exact hm hj
      simpa [hne] using this
    refine ⟨hm, ?_, fun j hj hne => ?_⟩
    · have := hn' k hm
      rw [sub_pow_bit u k k hk] at this
      simpa using this.symm
    · have := hn' j hj
      rw [sub_pow_bit u k j hk] at this
      simpa [hne] using this

theorem bit_lt {u k : Nat} (hu : u < 4294967296) (hk : u.testBit k = true) : k < 32 := by
  apply Decidable.byContradiction
  intro h
  have : 2 ^ 32 ≤ 2 ^ k := Nat.pow_le_pow_right (by decide) (by omega)
  have h2 := Nat.ge_two_pow_of_testBit hk
  omega

/-- the least word that both hit has two bits at most beside the lowest -/
theorem least_form {a b : Flt} {u : Nat} (hu : u < 4294967296) (hp : bothN a b u = true) (hl : ∀ x, x < u → bothN a b x = false) :
    u = lowN a b ∨ ∃ i, i < 32 ∧ (lowN a b).testBit i = false ∧ (u = lowN a b + 2 ^ i ∨ ∃ j, j < i ∧ (lowN a b).testBit j = false ∧ u = lowN a b + 2 ^ i + 2 ^ j) := by
  have hcr : ∀ k, u.testBit k = true → (lowN a b).testBit k = false → (a.m.testBit k = true ∧ Crit a u k) ∨ (b.m.testBit k = true ∧ Crit b u k) := by
    intro k hk hlo
    have hlt : u - 2 ^ k < u := by have := Nat.ge_two_pow_of_testBit hk; have := Nat.two_pow_pos k; omega
    have hf := hl _ hlt
    have hab := hp
    unfold bothN at hf hab
    rw [Bool.and_eq_true] at hab
    have hna : (askN a).testBit k = false := by
      cases h : (askN a).testBit k
      · rfl
      · rw [(low_bit a b k).2 (.inl h)] at hlo; cases hlo
    have hnb : (askN b).testBit k = false := by
      cases h : (askN b).testBit k
      · rfl
      · rw [(low_bit a b k).2 (.inr h)] at hlo; cases hlo
    rw [Bool.and_eq_false_iff] at hf
    rcases hf with hf | hf
    · exact .inl (crit_of hab.1 hk hna hf)
    · exact .inr (crit_of hab.2 hk hnb hf)
  by_cases h1 : ∃ k, u.testBit k = true ∧ (lowN a b).testBit k = false
  · right
    obtain ⟨k, hk, hkl⟩ := h1
    by_cases h2 : ∃ k', u.testBit k' = true ∧ (lowN a b).testBit k' = false ∧ k' ≠ k
    · obtain ⟨k', hk', hkl', hne⟩ := h2
      have hall : ∀ x, u.testBit x = true → (lowN a b).testBit x = false → x = k ∨ x = k' := by
        intro x hx hxl
        rcases hcr k hk hkl with ⟨m1, c1⟩ | ⟨m1, c1⟩ <;> rcases hcr k' hk' hkl' with ⟨m2, c2⟩ | ⟨m2, c2⟩ <;> rcases hcr x hx hxl with ⟨m3, c3⟩ | ⟨m3, c3⟩
        · exact absurd (c2.one c1 m2 hk') hne
        · exact absurd (c2.one c1 m2 hk') hne
        · exact .inl (c3.one c1 m3 hx)
        · exact .inr (c3.one c2 m3 hx)
        · exact .inr (c3.one c2 m3 hx)
        · exact .inl (c3.one c1 m3 hx)
        · exact absurd (c2.one c1 m2 hk') hne
        · exact absurd (c2.one c1 m2 hk') hne
      have key : ∀ p q : Nat, q < p → u.testBit p = true → u.testBit q = true → (lowN a b).testBit p = false → (lowN a b).testBit q = false → (∀ x, u.testBit x = true → (lowN a b).testBit x = false → x = p ∨ x = q) →
          ∃ i, i < 32 ∧ (lowN a b).testBit i = false ∧ (u = lowN a b + 2 ^ i ∨ ∃ j, j < i ∧ (lowN a b).testBit j = false ∧ u = lowN a b + 2 ^ i + 2 ^ j) := by
        intro p q hqp up uq lp lq hx
        refine ⟨p, bit_lt hu up, lp, .inr ⟨q, hqp, lq, ?_⟩⟩
        rw [← or_pow_add _ _ lp, ← or_pow_add _ _ (show (lowN a b ||| 2 ^ p).testBit q = false by rw [Nat.testBit_or, lq, Nat.testBit_two_pow]; simp; omega)]
        apply Nat.eq_of_testBit_eq
        intro x
        rw [Nat.testBit_or, Nat.testBit_or, Nat.testBit_two_pow, Nat.testBit_two_pow]
        cases hlx : (lowN a b).testBit x
        · cases hux : u.testBit x
          · have h1 : ¬ p = x := by intro e; subst e; rw [up] at hux; cases hux
            have h2 : ¬ q = x := by intro e; subst e; rw [uq] at hux; cases hux
            simp [h1, h2]
          · rcases hx x hux hlx with e | e <;> simp [e]
        · rw [low_in hp hlx]; simp
      rcases Nat.lt_or_gt_of_ne hne with hlt | hlt
      · exact key k k' hlt hk hk' hkl hkl' hall
      · exact key k' k hlt hk' hk hkl' hkl (fun x hx hxl => (hall x hx hxl).symm)
    · refine ⟨k, bit_lt hu hk, hkl, .inl ?_⟩
      rw [← or_pow_add _ _ hkl]
      apply Nat.eq_of_testBit_eq
      intro x
      rw [Nat.testBit_or, Nat.testBit_two_pow]
      cases hlx : (lowN a b).testBit x
      · cases hux : u.testBit x
        · have h1 : ¬ k = x := by intro e; subst e; rw [hk] at hux; cases hux
          simp [h1]
        · have : x = k := by
            apply Decidable.byContradiction
            intro hne
            exact h2 ⟨x, hux, hlx, hne⟩
          simp [this]
      · rw [low_in hp hlx]; simp
  · left
    apply Nat.eq_of_testBit_eq
    intro x
    cases hlx : (lowN a b).testBit x
    · cases hux : u.testBit x
      · rfl
      · exact absurd ⟨x, hux, hlx⟩ h1
    · exact low_in hp hlx

/-- what was tried ahead of place i, in vain -/
def Tried (a b : Flt) (i : Nat) : Prop :=
  bothN a b (lowN a b) = false ∧ ∀ i', i' < i → bothN a b (lowN a b ||| 2 ^ i') = false ∧ ∀ j', j' < i' → bothN a b (lowN a b ||| 2 ^ i' ||| 2 ^ j') = false
/-- and at place i ahead of place j -/
def Tried2 (a b : Flt) (i j : Nat) : Prop :=
  Tried a b i ∧ bothN a b (lowN a b ||| 2 ^ i) = false ∧ ∀ j', j' < j → bothN a b (lowN a b ||| 2 ^ i ||| 2 ^ j') = false

theorem or_lt {n k : Nat} (hn : n < 4294967296) (hk : k < 32) : n ||| 2 ^ k < 4294967296 := by
  have : 2 ^ k < 2 ^ 32 := Nat.pow_lt_pow_right (by decide) hk
  exact Nat.or_lt_two_pow (n := 32) hn (by omega)
theorem ask_lt {f : Flt} (h : f.i < 4294967296) : askN f < 4294967296 := by
  unfold askN
  split
  · decide
  · exact Nat.lt_of_le_of_lt Nat.and_le_left h
theorem low_lt {a b : Flt} (ha : a.i < 4294967296) (hb : b.i < 4294967296) : lowN a b < 4294967296 :=
  Nat.or_lt_two_pow (n := 32) (ask_lt ha) (ask_lt hb)

theorem least_zero {a b : Flt} (ha : a.i < 4294967296) (hb : b.i < 4294967296) (h : bothN a b (lowN a b) = true) : Least (bothN a b) (lowN a b) true := by
  refine .inl ⟨rfl, low_lt ha hb, h, fun u hu => ?_⟩
  cases hp : bothN a b u
  · rfl
  · have : lowN a b ≤ u := by
      apply Nat.le_of_testBit
      intro k hk
      exact low_in hp hk
    omega
theorem or_le_add (n k : Nat) : n ||| 2 ^ k ≤ n + 2 ^ k := by
  cases h : n.testBit k
  · rw [or_pow_add n k h]; exact Nat.le_refl _
  · have : n ||| 2 ^ k = n := by
      apply Nat.eq_of_testBit_eq
      intro j
      rw [Nat.testBit_or, Nat.testBit_two_pow]
      by_cases e : k = j
      · subst e; rw [h]; simp
      · simp [e]
    rw [this]
    exact Nat.le_add_right _ _
/-- what is less than the found one, and hit, would have been tried -/
theorem least_found {a b : Flt} {c : Nat} (hc : c < 4294967296) (hp : bothN a b c = true)
    (h0 : bothN a b (lowN a b) = false)
    (h1 : ∀ i, i < 32 → (lowN a b).testBit i = false → lowN a b + 2 ^ i < c → bothN a b (lowN a b + 2 ^ i) = false)
    (h2 : ∀ i j, i < 32 → j < i → (lowN a b).testBit i = false → (lowN a b).testBit j = false → lowN a b + 2 ^ i + 2 ^ j < c → bothN a b (lowN a b + 2 ^ i + 2 ^ j) = false) :
    Least (bothN a b) c true := by
  obtain ⟨u, hu, hpu, hl⟩ := least_below (c + 1) c (by omega) hp
  have hf := least_form (by omega) hpu hl
  have : u = c := by
    apply Decidable.byContradiction
    intro hne
    rcases hf with e | ⟨i, hi, hil, e | ⟨j, hj, hjl, e⟩⟩
    · rw [← e, hpu] at h0; cases h0
    · have := h1 i hi hil (by omega)
      rw [← e, hpu] at this; cases this
    · have := h2 i j hi hj hil hjl (by omega)
      rw [← e, hpu] at this; cases this
  subst this
  exact .inl ⟨rfl, hc, hp, hl⟩
theorem or_pow2 {n i j : Nat} (hi : n.testBit i = false) (hj : n.testBit j = false) (h : j < i) : n ||| 2 ^ i ||| 2 ^ j = n + 2 ^ i + 2 ^ j := by
  rw [← or_pow_add _ _ hi, ← or_pow_add _ _ (show (n ||| 2 ^ i).testBit j = false by rw [Nat.testBit_or, hj, Nat.testBit_two_pow]; simp; omega)]
theorem pow_lt_of {i j : Nat} (h : 2 ^ i < 2 ^ j) : i < j := by
  apply Decidable.byContradiction
  intro hn
  have : 2 ^ j ≤ 2 ^ i := Nat.pow_le_pow_right (by decide) (by omega)
  omega
theorem least_one {a b : Flt} {i : Nat} (ha : a.i < 4294967296) (hb : b.i < 4294967296) (hi : i < 32) (ht : Tried a b i) (hp : bothN a b (lowN a b ||| 2 ^ i) = true) : Least (bothN a b) (lowN a b ||| 2 ^ i) true := by
  have hle := or_le_add (lowN a b) i
  refine least_found (or_lt (low_lt ha hb) hi) hp ht.1 (fun i' hi' hl hlt => ?_) (fun i' j' hi' hj' hl hl' hlt => ?_)
  · rw [← or_pow_add _ _ hl]
    exact (ht.2 i' (pow_lt_of (by omega))).1
  · rw [← or_pow2 hl hl' hj']
    have := Nat.two_pow_pos j'
    exact (ht.2 i' (pow_lt_of (by omega))).2 j' hj'
theorem least_two {a b : Flt} {i j : Nat} (ha : a.i < 4294967296) (hb : b.i < 4294967296) (hi : i < 32) (hj : j < i) (ht : Tried2 a b i j) (hp : bothN a b (lowN a b ||| 2 ^ i ||| 2 ^ j) = true) : Least (bothN a b) (lowN a b ||| 2 ^ i ||| 2 ^ j) true := by
  have hle := or_le_add (lowN a b) i
  have hle2 := or_le_add (lowN a b ||| 2 ^ i) j
  have hij : 2 ^ j < 2 ^ i := Nat.pow_lt_pow_right (by decide) hj
  have hcase : ∀ x, 2 ^ x < 2 ^ i + 2 ^ j → x < i ∨ x = i := by
    intro x hx
    have : x < i + 1 := pow_lt_of (by rw [Nat.pow_succ]; omega)
    omega
  refine least_found (or_lt (or_lt (low_lt ha hb) hi) (by omega)) hp ht.1.1 (fun i' hi' hl hlt => ?_) (fun i' j' hi' hj' hl hl' hlt => ?_)
  · rw [← or_pow_add _ _ hl]
    rcases hcase i' (by omega) with h | rfl
    · exact (ht.1.2 i' h).1
    · exact ht.2.1
  · rw [← or_pow2 hl hl' hj']
    have := Nat.two_pow_pos j'
    rcases hcase i' (by omega) with h | rfl
    · exact (ht.1.2 i' h).2 j' hj'
    · exact ht.2.2 j' (pow_lt_of (by omega))
theorem least_none {a b : Flt} (ht : Tried a b 32) : Least (bothN a b) 0 false := by
  refine .inr ⟨rfl, rfl, fun u hu => ?_⟩
  cases hp : bothN a b u
  · rfl
  · exfalso
    obtain ⟨v, hv, hpv, hl⟩ := least_below (u + 1) u (by omega) hp
    rcases least_form (by omega) hpv hl with e | ⟨i, hi, hil, e | ⟨j, hj, hjl, e⟩⟩
    · rw [e, ht.1] at hpv; cases hpv
    · have := (ht.2 i hi).1
      rw [or_pow_add _ _ hil, ← e, hpv] at this; cases this
    · have := (ht.2 i hi).2 j hj
      rw [or_pow2 hil hjl hj, ← e, hpv] at this; cases this
theorem Tried.next {a b : Flt} {i : Nat} (h : Tried2 a b i i) : Tried a b (i + 1) := by
  refine ⟨h.1.1, fun i' hi' => ?_⟩
  by_cases e : i' = i
  · subst e; exact h.2
  · exact h.1.2 i' (by omega)
theorem Tried2.next {a b : Flt} {i j : Nat} (h : Tried2 a b i j) (hf : bothN a b (lowN a b ||| 2 ^ i ||| 2 ^ j) = false) : Tried2 a b i (j + 1) := by
  refine ⟨h.1, h.2.1, fun j' hj' => ?_⟩
  by_cases e : j' = j
  · subst e; exact hf
  · exact h.2.2 j' (by omega)

end Go.Proofs.YtmmcjmejcngajaaGreatDoor

namespace Go.Proofs.YtmmcjmejcngajaaGreatDoor
open Go.RowKit
set_option linter.unusedVariables false

/-! ### bits of words -/
theorem u32_nat (a : Nat) (ha : a < 4294967296) : (BitVec.ofInt 32 (a : Int)).toNat = a := by rw [BitVec.ofInt_natCast, BitVec.toNat_ofNat]; exact Nat.mod_eq_of_lt (by omega)
theorem u32_xor (a b : Nat) (ha : a < 4294967296) (hb : b < 4294967296) : bits .xor .u32 (a : Int) (b : Int) = ((a ^^^ b : Nat) : Int) := by
  show IntKind.u32.wrap (((BitVec.ofInt 32 (a : Int)) ^^^ (BitVec.ofInt 32 (b : Int))).toNat : Int) = _
  have := Nat.xor_lt_two_pow (n := 32) ha hb
  rw [BitVec.toNat_xor, u32_nat a ha, u32_nat b hb, IntKind.wrap_u32]
  omega
theorem u32_and (a b : Nat) (ha : a < 4294967296) (hb : b < 4294967296) : bits .and .u32 (a : Int) (b : Int) = ((a &&& b : Nat) : Int) := by
  show IntKind.u32.wrap (((BitVec.ofInt 32 (a : Int)) &&& (BitVec.ofInt 32 (b : Int))).toNat : Int) = _
  have := Nat.and_lt_two_pow (n := 32) a hb
  rw [BitVec.toNat_and, u32_nat a ha, u32_nat b hb, IntKind.wrap_u32]
  omega
theorem u32_or (a b : Nat) (ha : a < 4294967296) (hb : b < 4294967296) : bits .or .u32 (a : Int) (b : Int) = ((a ||| b : Nat) : Int) := by
  show IntKind.u32.wrap (((BitVec.ofInt 32 (a : Int)) ||| (BitVec.ofInt 32 (b : Int))).toNat : Int) = _
  have := Nat.or_lt_two_pow (n := 32) ha hb
  rw [BitVec.toNat_or, u32_nat a ha, u32_nat b hb, IntKind.wrap_u32]
  omega

/-! ### filters in memory -/
/-- a filter's fields fit -/
def Flt.fits (f : Flt) : Prop := f.i < 4294967296 ∧ f.m < 4294967296
theorem Flt.fits.turn {f : Flt} (h : f.fits) : (turnF f).fits := h
def flC (f : Flt) : List Value := [.int .u32 f.i, .int .u32 f.m, .bool f.v]
theorem flC_len (f : Flt) : (flC f).length = 3 := rfl
abbrev SlL (w : World) (B : Nat) (v : Value) (L : List Flt) : Prop := SlG flC 3 w B v L

set_option maxHeartbeats 1000000 in
theorem mhit_v {f : Flt} {u : Nat} {q : Bool} (h : hitN f u = q) (hf : f.fits) (hu : u < 4294967296) (w : World) :
    Calls Tryz.prog 80 #[.agg #[.int .u32 f.i, .int .u32 f.m, .bool f.v], .int .u32 u] w fun e w' => e = .returned (.bool q) ∧ Below w.heap.size w w' := by
  have H := Lib.hid h
  obtain ⟨h1, h2⟩ := hf
  have e1 := u32_xor u f.i hu h1
  have e2 := u32_and (u ^^^ f.i) f.m (Nat.xor_lt_two_pow (n := 32) hu h1) h2
  have H2 := Lib.hid (And.intro hu (And.intro h1 h2))
  clear h h1 h2 hu
  go_enter Tryz.func80, Tryz.ntmps80
  go_wp2
  go_ret
  exact ⟨fret_bool (by rw [← H.out]; unfold hitN; rw [Bool.eq_iff_iff]; cases f.v <;> simp <;> omega), (Below.refl _ _).alloc (Nat.le_refl _) _⟩

/-- how many of the filters hit the word -/
def cntN (L : List Flt) (u : Nat) : Nat := (L.filter fun f => hitN f u).length
theorem cntN_snoc (L : List Flt) (f : Flt) (u : Nat) : cntN (L ++ [f]) u = cntN L u + (if hitN f u then 1 else 0) := by
  unfold cntN
  rw [List.filter_append, List.length_append]
  cases h : hitN f u <;> simp [h]
theorem cntN_le (L : List Flt) (u : Nat) : cntN L u ≤ L.length := List.length_filter_le _ _

set_option maxHeartbeats 1000000 in
theorem hits_any {L : List Flt} {v : Value} {u : Nat} (w : World) (h : SlL w w.heap.size v L) (hfit : ∀ f ∈ L, f.fits) (hu : u < 4294967296) :
    Calls Tryz.prog 63 #[.int .u32 u, v] w fun e w' => e = .returned (.int .i64 (cntN L u)) ∧ Below w.heap.size w w' := by
  have H := Lib.hid h
  have HF := Lib.hid hfit
  have HU := Lib.hid hu
  obtain ⟨A, cap, rfl, hm, _⟩ := h
  unfold maxLen at hm
  clear hfit hu
  go_enter Tryz.func63, Tryz.ntmps63
  go_wp2_with fail
  go_loopw [5, 10] (fun n i wr => ∃ k : Nat, k ≤ L.length ∧ i = .int .i64 k ∧ n = .int .i64 (cntN (L.take k) u) ∧ Below w.heap.size w wr) (fun _ i _ => L.length - (intOf i).toNat)
  case atStart => exact ⟨0, by omega, rfl, rfl, Below.refl _ _⟩
  case round =>
    obtain ⟨k, hk, rfl, rfl, hbw⟩ := hrel
    have HBW := Lib.hid hbw
    clear hbw
    by_cases hlt : k < L.length
    · obtain ⟨x, cap1, hv, hxb, hcell⟩ := (H.out.later HBW.out).at_ hlt
      injection hv with hA hn hc
      subst hA hc
      have a0 : wr.cell? (x.add (k * 3)) = some (.int .u32 (L[k]'hlt).i) := hcell 0 _ rfl
      have a1 : wr.cell? ⟨(x.add (k * 3)).block, (x.add (k * 3)).off + 1, none⟩ = some (.int .u32 (L[k]'hlt).m) := hcell 1 _ rfl
      have a2 : wr.cell? ⟨(x.add (k * 3)).block, (x.add (k * 3)).off + 2, none⟩ = some (.bool (L[k]'hlt).v) := hcell 2 _ rfl
      have hk1 : (k : Int) < (L.length : Int) := by omega
      have hk0 : (0 : Int) ≤ (k : Int) := by omega
      have HFi : Hid ((L[k]'hlt).fits) := Lib.hid (HF.out _ (List.getElem_mem hlt))
      have HS : Hid (cntN (L.take (k + 1)) u = cntN (L.take k) u + (if hitN (L[k]'hlt) u then 1 else 0)) := Lib.hid (by rw [List.take_succ_eq_append_getElem hlt, cntN_snoc])
      have hcl := cntN_le (L.take k) u
      have HCL : cntN (L.take k) u < 9223372036854775807 := by have := List.length_take_le k L; omega
      clear hcell hxb hcl
      generalize L[k]'hlt = f at a0 a1 a2 HFi HS
      generalize hq : hitN f u = q at HS
      have HQ := Lib.hid hq
      clear hq
      go_wp2_with fail
      refine (mhit_v HQ.out HFi.out HU.out _).mono ?_
      rintro e w2 ⟨rfl, hb2⟩
      have hB2 := Lib.hid (fbelow_t (Below.allocL HBW.out _) hb2)
      clear hb2
      cases q
      · go_wp2
        go_roundw
        case rel => exact ⟨k + 1, by omega, by go_num, by rw [HS.out]; go_num, hB2.out⟩
        case measure => simp [intOf]; omega
      · go_wp2
        go_roundw
        case rel => exact ⟨k + 1, by omega, by go_num, by rw [HS.out]; go_num, hB2.out⟩
        case measure => simp [intOf]; omega
    · obtain rfl : k = L.length := by omega
      rw [List.take_length]
      go_wp2
      go_ret
      exact ⟨rfl, HBW.out⟩

/-- what filters ask to be 1 -/
def askL (L : List Flt) : Nat := L.foldl (fun n f => n ||| askN f) 0
theorem askL_snoc (L : List Flt) (f : Flt) : askL (L ++ [f]) = askL L ||| askN f := by unfold askL; rw [List.foldl_append]; rfl
theorem askL_lt : ∀ (L : List Flt) (n : Nat), n < 4294967296 → (∀ f ∈ L, f.fits) → L.foldl (fun n f => n ||| askN f) n < 4294967296
  | [], n, h, _ => h
  | f :: L, n, h, hf => askL_lt L _ (Nat.or_lt_two_pow (n := 32) h (ask_lt (hf f (List.mem_cons_self ..)).1)) (fun g hg => hf g (List.mem_cons_of_mem _ hg))

end Go.Proofs.YtmmcjmejcngajaaGreatDoor

namespace Go.Proofs.YtmmcjmejcngajaaGreatDoor
open Go.RowKit
set_option linter.unusedVariables false

/-- the cells of a filter in block b -/
def FlAt (w : World) (b : Nat) (f : Flt) : Prop := w.cell? ⟨b, 0, none⟩ = some (.int .u32 f.i) ∧ w.cell? ⟨b, 1, none⟩ = some (.int .u32 f.m) ∧ w.cell? ⟨b, 2, none⟩ = some (.bool f.v)
theorem FlAt.below {w w1 : World} {b B : Nat} {f : Flt} (h : FlAt w b f) (hb : Below B w w1) (hB : b < B) : FlAt w1 b f :=
  ⟨(hb.cell (p := ⟨b, 0, none⟩) hB).trans h.1, (hb.cell (p := ⟨b, 1, none⟩) hB).trans h.2.1, (hb.cell (p := ⟨b, 2, none⟩) hB).trans h.2.2⟩

theorem FlAt.made (w : World) (f : Flt) (t : TypeId) (k : Nat) (hk : w.heap.size = k) : FlAt (w.alloc (.cells #[.int .u32 f.i, .int .u32 f.m, .bool f.v] t)) k f := by
  subst hk
  refine ⟨?_, ?_, ?_⟩ <;> (rw [World.cell?_alloc_at _ _ _ _ rfl]; rfl)

/-- a slice of two filters that a call makes -/
theorem sl_two (w : World) (a b : Flt) (t : TypeId) (k : Nat) (hk : w.heap.size = k) :
    SlL (w.alloc (.cells #[.int .u32 a.i, .int .u32 a.m, .bool a.v, .int .u32 b.i, .int .u32 b.m, .bool b.v] t)) (w.alloc (.cells #[.int .u32 a.i, .int .u32 a.m, .bool a.v, .int .u32 b.i, .int .u32 b.m, .bool b.v] t)).heap.size
      (.slice (some ⟨k, 0, none⟩) 2 2) [a, b] := by
  subst hk
  refine ⟨some ⟨w.heap.size, 0, none⟩, 2, rfl, by simp [maxLen], fun i f hf => ⟨_, rfl, by simp, fun j u hu => ?_⟩⟩
  rw [addr_zero, World.cell?_alloc_at _ _ _ _ rfl]
  match i, j with
  | 0, 0 => cases hf; cases hu; rfl
  | 0, 1 => cases hf; cases hu; rfl
  | 0, 2 => cases hf; cases hu; rfl
  | 1, 0 => cases hf; cases hu; rfl
  | 1, 1 => cases hf; cases hu; rfl
  | 1, 2 => cases hf; cases hu; rfl
  | 0, j + 3 => cases hf; cases hu
  | 1, j + 3 => cases hf; cases hu
  | i + 2, j => cases hf
theorem fits_two {a b : Flt} (ha : a.fits) (hb : b.fits) : ∀ f ∈ [a, b], f.fits := by
  intro f hf
  rcases List.mem_cons.1 hf with rfl | hf
  · exact ha
  · rcases List.mem_cons.1 hf with rfl | hf
    · exact hb
    · cases hf
theorem cnt_two (a b : Flt) (u : Nat) : ((cntN [a, b] u : Int) == 2) = bothN a b u := by
  unfold cntN bothN
  cases ha : hitN a u <;> cases hb : hitN b u <;> simp [ha, hb]
theorem ask_two (a b : Flt) : askL [a, b] = lowN a b := by unfold askL lowN; simp

/-- both filters' boxes stand, and something may have been made behind them -/
def Boxes (w : World) (k : Nat) (a b : Flt) : Prop := FlAt w k a ∧ FlAt w (k + 1) b ∧ k + 1 < w.heap.size
theorem Boxes.below {w w1 : World} {k : Nat} {a b : Flt} (h : Boxes w k a b) (hb : Below w.heap.size w w1) : Boxes w1 k a b :=
  ⟨h.1.below hb (by have := h.2.2; omega), h.2.1.below hb h.2.2, Nat.lt_of_lt_of_le h.2.2 hb.size⟩
theorem Boxes.made {w w1 : World} {a b : Flt} {t t' : TypeId} {o : Obj}
    (hb : Below (((w.alloc (.cells #[.int .u32 a.i, .int .u32 a.m, .bool a.v] t)).alloc (.cells #[.int .u32 b.i, .int .u32 b.m, .bool b.v] t')).alloc o).heap.size
      (((w.alloc (.cells #[.int .u32 a.i, .int .u32 a.m, .bool a.v] t)).alloc (.cells #[.int .u32 b.i, .int .u32 b.m, .bool b.v] t')).alloc o) w1) : Boxes w1 w.heap.size a b ∧ Below w.heap.size w w1 := by
  have h2 := fbelow_a _ hb
  have h1 := fbelow_a _ h2
  have hz := h2.size
  simp only [World.size_alloc] at hz
  refine ⟨⟨(FlAt.made w a _ _ rfl).below h1 (by simp), (FlAt.made _ b _ _ (by simp)).below h2 (by simp), by omega⟩, fbelow_a _ h1⟩
theorem or_shl (n k : Nat) (hn : n < 4294967296) (hk : k < 32) : bits .or .u32 (n : Int) ((2 : Int) ^ k % 4294967296) = ((n ||| 2 ^ k : Nat) : Int) := by
  have hp : 2 ^ k < 4294967296 := by
    have : 2 ^ k < 2 ^ 32 := Nat.pow_lt_pow_right (by decide) hk
    omega
  have e : ((2 : Int) ^ k % 4294967296) = ((2 ^ k : Nat) : Int) := by
    have h2 : ((2 ^ k : Nat) : Int) = (2 : Int) ^ k := by simp
    rw [← h2]
    exact Int.emod_eq_of_lt (Int.natCast_nonneg _) (Int.ofNat_lt.2 hp)
  rw [e]
  exact u32_or _ _ hn hp
theorem fret_tuple {a b : Nat} {q r : Bool} (h : a = b ∧ q = r) : Ending.returned (.tuple #[.int .u32 (a : Int), .bool q]) = .returned (.tuple #[.int .u32 (b : Int), .bool r]) := by rw [h.1, h.2]

end Go.Proofs.YtmmcjmejcngajaaGreatDoor

namespace Go.Proofs.YtmmcjmejcngajaaGreatDoor
open Go.RowKit
set_option linter.unusedVariables false

def shW (u j : Nat) : Int := ((u / 2 ^ j : Nat) : Int)
theorem shW_succ (u j : Nat) : shW u j / 2 = shW u (j + 1) := by
  unfold shW
  rw [Nat.pow_succ, ← Nat.div_div_eq_div_mul]
  omega
theorem shW_bd (u j : Nat) (h : u < 4294967296) : 0 ≤ shW u j ∧ shW u j < 4294967296 := by
  exact ⟨Int.natCast_nonneg _, Int.ofNat_lt.2 (Nat.lt_of_le_of_lt (Nat.div_le_self _ _) h)⟩
theorem shW_bit (u j : Nat) : (shW u j % 2 == 1) = u.testBit j := by
  unfold shW
  rw [Nat.testBit_eq_decide_div_mod_eq, Bool.eq_iff_iff]
  simp only [beq_iff_eq, decide_eq_true_eq]
  omega

set_option maxHeartbeats 1000000 in
theorem rbit_v {u k : Nat} {q : Bool} (h : u.testBit k = q) (hu : u < 4294967296) (hk : k ≤ 31) (w : World) :
    Calls Tryz.prog 98 #[.int .u32 u, .int .i64 k] w fun e w' => e = .returned (.bool q) ∧ w = w' := by
  have H := Lib.hid (show (shW u k % 2 == 1) = q by rw [shW_bit]; exact h)
  have HU := Lib.hid hu
  have h0 : (u : Int) = shW u 0 := by simp [shW]
  rw [h0]
  clear h hu h0
  go_enter Tryz.func98, Tryz.ntmps98
  go_wp2
  go_loop [0, 5] (fun n i => ∃ j : Nat, j ≤ k ∧ i = .int .i64 j ∧ n = .int .u32 (shW u j)) (fun _ i => k - (intOf i).toNat)
  case atStart => exact ⟨0, Nat.zero_le _, rfl, rfl⟩
  case round =>
    obtain ⟨j, hj, rfl, rfl⟩ := hrel
    have hsb := shW_bd u j HU.out
    by_cases hlt : j < k
    · have HS := Lib.hid (shW_succ u j)
      go_wp2
      go_round
      case rel => exact ⟨j + 1, by omega, by go_num, by rw [HS.out]⟩
      case measure => simp [intOf]; omega
    · obtain rfl : j = k := by omega
      go_wp2
      go_ret
      exact ⟨fret_bool H.out, rfl⟩

/-- are the word and the filter's ID the same in those of the first bits that its mask has? -/
def sameTo (f : Flt) (u : Nat) : Nat → Bool
  | 0 => true
  | j + 1 => if f.m.testBit j && (f.i.testBit j != u.testBit j) then false else sameTo f u j
theorem sameTo_iff (f : Flt) (u : Nat) : ∀ j, sameTo f u j = true ↔ ∀ k, k < j → f.m.testBit k = true → u.testBit k = f.i.testBit k
  | 0 => by simp [sameTo]
  | j + 1 => by
    have ih := sameTo_iff f u j
    unfold sameTo
    constructor
    · intro h k hk hm
      by_cases e : k = j
      · subst e
        rw [hm] at h
        revert h
        cases f.i.testBit k <;> cases u.testBit k <;> simp
      · split at h
        · cases h
        · exact ih.1 h k (by omega) hm
    · intro h
      have h1 := ih.2 fun k hk => h k (by omega)
      have h2 := h j (by omega)
      rw [h1]
      cases hm : f.m.testBit j
      · simp
      · rw [h2 hm]; simp
theorem sameTo_32 (f : Flt) (u : Nat) (hf : f.fits) : (sameTo f u 32 != f.v) = hitN f u := by
  have : sameTo f u 32 = (((u ^^^ f.i) &&& f.m) == 0) := by
    rw [Bool.eq_iff_iff, same_iff, sameTo_iff]
    exact ⟨fun h k hk => h k (bit_lt hf.2 hk) hk, fun h k _ hk => h k hk⟩
  unfold hitN
  rw [this]

set_option maxHeartbeats 1000000 in
theorem rhit_v {f : Flt} {u : Nat} {q : Bool} (h : hitN f u = q) (hf : f.fits) (hu : u < 4294967296) (w : World) :
    Calls Tryz.prog 89 #[.agg #[.int .u32 f.i, .int .u32 f.m, .bool f.v], .int .u32 u] w fun e w' => e = .returned (.bool q) ∧ Below w.heap.size w w' := by
  have H := Lib.hid ((sameTo_32 f u hf).trans h)
  have HF := Lib.hid hf
  have HU := Lib.hid hu
  clear h hf hu
  go_enter Tryz.func89, Tryz.ntmps89
  go_wp2
  go_loop [5, 6] (fun s i => ∃ j : Nat, j ≤ 32 ∧ i = .int .i64 j ∧ s = .bool (sameTo f u j)) (fun _ i => 32 - (intOf i).toNat)
  case atStart => exact ⟨0, Nat.zero_le _, rfl, rfl⟩
  case round =>
    obtain ⟨j, hj, rfl, rfl⟩ := hrel
    by_cases hlt : j < 32
    · have HS : Hid (sameTo f u (j + 1) = if f.m.testBit j && (f.i.testBit j != u.testBit j) then false else sameTo f u j) := Lib.hid rfl
      generalize hm : f.m.testBit j = qm at HS
      have HM := Lib.hid hm
      generalize hi : f.i.testBit j = qi at HS
      have HI := Lib.hid hi
      generalize hw : u.testBit j = qw at HS
      have HW := Lib.hid hw
      clear hm hi hw
      generalize sameTo f u j = sj at HS
      go_wp2_with fail
      refine (rbit_v HM.out HF.out.2 (by omega) _).mono ?_
      rintro e w1 ⟨rfl, rfl⟩
      cases qm
      · go_wp2
        go_round
        case rel => exact ⟨j + 1, by omega, by go_num, by rw [HS.out]; rfl⟩
        case measure => simp [intOf]; omega
      · go_wp2_with fail
        refine (rbit_v HI.out HF.out.1 (by omega) _).mono ?_
        rintro e w1 ⟨rfl, rfl⟩
        go_wp2_with fail
        refine (rbit_v HW.out HU.out (by omega) _).mono ?_
        rintro e w1 ⟨rfl, rfl⟩
        cases qi <;> cases qw <;>
        · go_wp2
          go_round
          case rel => exact ⟨j + 1, by omega, by go_num, by rw [HS.out]; rfl⟩
          case measure => simp [intOf]; omega
    · obtain rfl : j = 32 := by omega
      generalize hs : sameTo f u 32 = s32 at H
      go_wp2
      go_ret
      exact ⟨fret_bool H.out, (Below.refl _ _).alloc (Nat.le_refl _) _⟩

/-- a word with one bit turned; of 32 none -/
def flipN (u k : Nat) : Nat := if 31 < k then u else if u.testBit k then u - 2 ^ k else u + 2 ^ k
theorem pow_lt32 {k : Nat} (hk : k < 32) : 2 ^ k ≤ 2147483648 := by
  have : 2 ^ k ≤ 2 ^ 31 := Nat.pow_le_pow_right (by decide) (by omega)
  omega
theorem flip_lt {u k : Nat} (hu : u < 4294967296) : flipN u k < 4294967296 := by
  unfold flipN
  split
  · exact hu
  · rename_i hk
    split
    · exact Nat.lt_of_le_of_lt (Nat.sub_le _ _) hu
    · rename_i hb
      rw [← or_pow_add _ _ (by simpa using hb)]
      exact or_lt hu (by omega)

end Go.Proofs.YtmmcjmejcngajaaGreatDoor
