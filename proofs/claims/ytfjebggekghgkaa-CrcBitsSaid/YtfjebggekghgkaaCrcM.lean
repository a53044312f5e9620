/- Crc: the plain numbers: a check bit by bit; that it is linear, that its own bits leave nothing, and that what is turned within its width is found. No program is meant here. -/
import Derived.Test.YtfjebggekghgkaaRows
import Derived.WalkKit
namespace Go.Proofs.Ytfjebggekghgkaa
open Go.RowKit
set_option linter.unusedVariables false

/-- one bit more: the number is doubled within its width; if its highest bit and the bit are unlike, it is xored with poly -/
def stepC (w p n : Nat) (b : Bool) : Nat := (2 * n) % 2 ^ w ^^^ (if (n.testBit (w - 1) != b) then p else 0)
def feedC (w p : Nat) (n : Nat) (L : List Bool) : Nat := L.foldl (stepC w p) n
theorem feedC_app (w p n : Nat) (L M : List Bool) : feedC w p n (L ++ M) = feedC w p (feedC w p n L) M := by unfold feedC; rw [List.foldl_append]
theorem feedC_cons (w p n : Nat) (b : Bool) (L : List Bool) : feedC w p n (b :: L) = feedC w p (stepC w p n b) L := rfl
theorem dbl_bit (n j : Nat) : (2 * n).testBit j = (decide (1 ≤ j) && n.testBit (j - 1)) := by
  cases j with
  | zero => rw [Nat.testBit_zero]; simp
  | succ j => rw [Nat.testBit_succ, Nat.mul_div_cancel_left n (by decide)]; simp
theorem step_bit (w p n j : Nat) (b : Bool) : (stepC w p n b).testBit j = ((decide (j < w) && (decide (1 ≤ j) && n.testBit (j - 1))) ^^ ((n.testBit (w - 1) ^^ b) && p.testBit j)) := by
  unfold stepC
  rw [Nat.testBit_xor, Nat.testBit_mod_two_pow, dbl_bit]
  congr 1
  cases n.testBit (w - 1) <;> cases b <;> simp
theorem step_lt {w p n : Nat} (hp : p < 2 ^ w) (b : Bool) : stepC w p n b < 2 ^ w := by
  unfold stepC
  apply Nat.xor_lt_two_pow
  · exact Nat.mod_lt _ (Nat.two_pow_pos w)
  · split
    · exact hp
    · exact Nat.two_pow_pos w
theorem feed_lt {w p : Nat} (hp : p < 2 ^ w) : ∀ (L : List Bool) (n : Nat), n < 2 ^ w → feedC w p n L < 2 ^ w
  | [], n, h => h
  | b :: L, n, _ => feed_lt hp L _ (step_lt hp b)
theorem step_xor (w p n m : Nat) (b c : Bool) : stepC w p (n ^^^ m) (b ^^ c) = stepC w p n b ^^^ stepC w p m c := by
  apply Nat.eq_of_testBit_eq
  intro j
  rw [Nat.testBit_xor, step_bit, step_bit, step_bit, Nat.testBit_xor, Nat.testBit_xor]
  cases decide (j < w) <;> cases decide (1 ≤ j) <;> cases n.testBit (j - 1) <;> cases m.testBit (j - 1) <;> cases n.testBit (w - 1) <;> cases m.testBit (w - 1) <;> cases b <;> cases c <;> cases p.testBit j <;> rfl
theorem feed_xor (w p : Nat) : ∀ (L M : List Bool) (n m : Nat), L.length = M.length → feedC w p (n ^^^ m) (List.zipWith (fun a b => a ^^ b) L M) = feedC w p n L ^^^ feedC w p m M
  | [], [], n, m, _ => rfl
  | b :: L, c :: M, n, m, h => by
    rw [List.zipWith_cons_cons, feedC_cons, feedC_cons, feedC_cons, step_xor]
    exact feed_xor w p L M _ _ (by simpa using h)
  | [], _ :: _, _, _, h => by cases h
  | _ :: _, [], _, _, h => by cases h
theorem step_00 (w p : Nat) : stepC w p 0 false = 0 := by unfold stepC; simp
theorem feed_zeros (w p : Nat) : ∀ k : Nat, feedC w p 0 (List.replicate k false) = 0
  | 0 => rfl
  | k + 1 => by rw [List.replicate_succ, feedC_cons, step_00]; exact feed_zeros w p k

/-- the lowest r bits of a number, the highest first -/
def bitsT (n : Nat) : Nat → List Bool
  | 0 => []
  | r + 1 => n.testBit r :: bitsT n r
theorem bitsT_len (n : Nat) : ∀ r, (bitsT n r).length = r
  | 0 => rfl
  | r + 1 => by simp [bitsT, bitsT_len n r]
/-- its own bits leave nothing -/
theorem feed_own (w p n : Nat) : ∀ r, r ≤ w → feedC w p ((n * 2 ^ (w - r)) % 2 ^ w) (bitsT n r) = 0
  | 0, _ => by
    show (n * 2 ^ (w - 0)) % 2 ^ w = 0
    rw [Nat.sub_zero, Nat.mul_mod_left]
  | r + 1, h => by
    have ih := feed_own w p n r (by omega)
    rw [bitsT, feedC_cons]
    have ht : ((n * 2 ^ (w - (r + 1))) % 2 ^ w).testBit (w - 1) = n.testBit r := by
      rw [Nat.testBit_mod_two_pow, Nat.testBit_mul_two_pow]
      have e1 : decide (w - 1 < w) = true := by simp; omega
      have e2 : decide (w - (r + 1) ≤ w - 1) = true := by simp; omega
      rw [e1, e2, show w - 1 - (w - (r + 1)) = r by omega]; rfl
    have hs : stepC w p ((n * 2 ^ (w - (r + 1))) % 2 ^ w) (n.testBit r) = (n * 2 ^ (w - r)) % 2 ^ w := by
      unfold stepC
      rw [ht]
      have e : w - r = (w - (r + 1)) + 1 := by omega
      rw [e, Nat.pow_succ]
      have : (2 * (n * 2 ^ (w - (r + 1)) % 2 ^ w)) % 2 ^ w = (n * (2 ^ (w - (r + 1)) * 2)) % 2 ^ w := by
        rw [Nat.mul_mod, Nat.mod_mod, ← Nat.mul_mod]
        congr 1
        rw [Nat.mul_comm 2, Nat.mul_assoc]
      rw [this]
      simp
    rw [hs]
    exact ih
theorem feed_bits {w p n : Nat} (hn : n < 2 ^ w) : feedC w p n (bitsT n w) = 0 := by
  have := feed_own w p n w (Nat.le_refl _)
  rwa [Nat.sub_self, Nat.pow_zero, Nat.mul_one, Nat.mod_eq_of_lt hn] at this

theorem step_0_inj {w p z : Nat} (hw : 1 ≤ w) (hp : p % 2 = 1) (hz : z < 2 ^ w) (h : stepC w p z false = 0) : z = 0 := by
  have ht : z.testBit (w - 1) = false := by
    have := step_bit w p z 0 false
    rw [h, Nat.zero_testBit] at this
    have hp0 : p.testBit 0 = true := by rw [Nat.testBit_zero]; simpa using hp
    rw [hp0] at this
    revert this
    cases z.testBit (w - 1) <;> simp
  have hlt : z < 2 ^ (w - 1) := by
    apply Nat.lt_pow_two_of_testBit
    intro i hi
    rcases Nat.lt_or_ge i w with h1 | h1
    · have : i = w - 1 := by omega
      rw [this]; exact ht
    · apply Nat.testBit_lt_two_pow
      exact Nat.lt_of_lt_of_le hz (Nat.pow_le_pow_right (by decide) h1)
  have h2 : 2 ^ w = 2 * 2 ^ (w - 1) := by
    have e : w = (w - 1) + 1 := by omega
    conv => lhs; rw [e]
    rw [Nat.pow_succ, Nat.mul_comm]
  unfold stepC at h
  rw [ht] at h
  have h3 : 2 * z % 2 ^ w = 2 * z := Nat.mod_eq_of_lt (by rw [h2]; omega)
  rw [h3] at h
  simp at h
  omega
theorem step_inj {w p n m : Nat} (hw : 1 ≤ w) (hp : p % 2 = 1) (hn : n < 2 ^ w) (hm : m < 2 ^ w) (b : Bool) (h : stepC w p n b = stepC w p m b) : n = m := by
  have h0 : stepC w p (n ^^^ m) false = 0 := by
    have := step_xor w p n m b b
    rw [Bool.xor_self, h, Nat.xor_self] at this
    exact this
  have hz := step_0_inj hw hp (Nat.xor_lt_two_pow hn hm) h0
  apply Nat.eq_of_testBit_eq
  intro j
  have := Nat.testBit_xor n m j
  rw [hz, Nat.zero_testBit] at this
  revert this
  cases n.testBit j <;> cases m.testBit j <;> simp
theorem feed_inj {w p : Nat} (hw : 1 ≤ w) (hp : p % 2 = 1) (hpl : p < 2 ^ w) : ∀ (L : List Bool) (n m : Nat), n < 2 ^ w → m < 2 ^ w → feedC w p n L = feedC w p m L → n = m
  | [], n, m, _, _, h => h
  | b :: L, n, m, hn, hm, h => step_inj hw hp hn hm b (feed_inj hw hp hpl L _ _ (step_lt hpl b) (step_lt hpl b) h)

/-- the bits as a number, at the top of the width -/
def topV (w : Nat) : List Bool → Nat
  | [] => 0
  | b :: L => (if b then 2 ^ (w - 1) else 0) ^^^ (topV w L) / 2
theorem topV_bit (w : Nat) (b : Bool) (L : List Bool) (j : Nat) : (topV w (b :: L)).testBit j = ((b && decide (w - 1 = j)) ^^ (topV w L).testBit (j + 1)) := by
  rw [topV, Nat.testBit_xor, Nat.testBit_succ]
  congr 1
  cases b
  · simp
  · simp [Nat.testBit_two_pow]
theorem topV_lt {w : Nat} (hw : 1 ≤ w) : ∀ L : List Bool, topV w L < 2 ^ w
  | [] => Nat.two_pow_pos w
  | b :: L => by
    rw [topV]
    apply Nat.xor_lt_two_pow
    · split
      · exact Nat.pow_lt_pow_right (by decide) (by omega)
      · exact Nat.two_pow_pos w
    · have := topV_lt hw L; omega
theorem topV_low (w : Nat) : ∀ (L : List Bool) (j : Nat), L.length ≤ w → j < w - L.length → (topV w L).testBit j = false
  | [], j, _, _ => Nat.zero_testBit j
  | b :: L, j, hl, hj => by
    simp only [List.length_cons] at hl hj
    rw [topV_bit, topV_low w L (j + 1) (by omega) (by omega)]
    have : decide (w - 1 = j) = false := by simp; omega
    rw [this]; simp
theorem step_top {w p n : Nat} (hw : 1 ≤ w) (b : Bool) : stepC w p n b = stepC w p (n ^^^ (if b then 2 ^ (w - 1) else 0)) false := by
  cases b
  · simp
  · have h := step_xor w p n (2 ^ (w - 1)) true true
    have h0 : stepC w p (2 ^ (w - 1)) true = 0 := by
      apply Nat.eq_of_testBit_eq
      intro j
      rw [step_bit, Nat.zero_testBit, Nat.testBit_two_pow_self, Nat.testBit_two_pow]
      have : (decide (j < w) && (decide (1 ≤ j) && decide (w - 1 = j - 1))) = false := by
        rcases Nat.lt_or_ge j w with h1 | h1
        · rcases Nat.lt_or_ge j 1 with h2 | h2
          · simp; omega
          · have : decide (w - 1 = j - 1) = false := by simp; omega
            rw [this]; simp
        · have : decide (j < w) = false := by simp; omega
          rw [this]; simp
      rw [this]; rfl
    rw [h0, Nat.xor_zero] at h
    rw [if_pos rfl]
    exact h.symm
theorem step_half {w p x : Nat} (hw : 1 ≤ w) (hx : x < 2 ^ w) (h0 : x.testBit 0 = false) : stepC w p (x / 2) false = x := by
  have h2 : 2 ^ w = 2 * 2 ^ (w - 1) := by
    have e : w = (w - 1) + 1 := by omega
    conv => lhs; rw [e]
    rw [Nat.pow_succ, Nat.mul_comm]
  have ht : (x / 2).testBit (w - 1) = false := Nat.testBit_lt_two_pow (by omega)
  have he : x % 2 = 0 := by
    rw [Nat.testBit_zero] at h0
    simpa using h0
  unfold stepC
  rw [ht, Nat.mod_eq_of_lt (by omega)]
  simp
  omega
theorem feed_top {w p : Nat} (hw : 1 ≤ w) : ∀ (L : List Bool) (n : Nat), L.length ≤ w → feedC w p n L = feedC w p (n ^^^ topV w L) (List.replicate L.length false)
  | [], n, _ => by simp [feedC, topV]
  | b :: L, n, hl => by
    simp only [List.length_cons] at hl
    rw [feedC_cons, feed_top hw L _ (by omega), List.length_cons, List.replicate_succ, feedC_cons]
    congr 1
    rw [step_top hw b]
    have hh := step_half (p := p) hw (topV_lt hw L) (topV_low w L 0 (by omega) (by omega))
    have hx := step_xor w p (n ^^^ (if b then 2 ^ (w - 1) else 0)) (topV w L / 2) false false
    rw [hh] at hx
    rw [topV, ← Nat.xor_assoc]
    exact hx.symm
theorem topV_none {w : Nat} (hw : 1 ≤ w) : ∀ L : List Bool, L.length ≤ w → topV w L = 0 → ∀ b ∈ L, b = false
  | [], _, _, b, hb => by cases hb
  | c :: L, hl, h, b, hb => by
    simp only [List.length_cons] at hl
    have hc : c = false := by
      have := topV_bit w c L (w - 1)
      rw [h, Nat.zero_testBit, Nat.testBit_lt_two_pow (x := topV w L) (i := w - 1 + 1) (by rw [show w - 1 + 1 = w by omega]; exact topV_lt hw L)] at this
      revert this
      cases c <;> simp
    subst hc
    rcases List.mem_cons.1 hb with rfl | hb
    · rfl
    · refine topV_none hw L (by omega) ?_ b hb
      rw [topV] at h
      simp at h
      have h0 := topV_low w L 0 (by omega) (by omega)
      rw [Nat.testBit_zero] at h0
      have : topV w L % 2 = 0 := by simpa using h0
      omega
/-- bits as many as the width, or less, from nothing on: they leave nothing only if all are nought -/
theorem feed_none {w p : Nat} (hw : 1 ≤ w) (hp : p % 2 = 1) (hpl : p < 2 ^ w) (D : List Bool) (hd : D.length ≤ w) (h : feedC w p 0 D = 0) : ∀ b ∈ D, b = false := by
  rw [feed_top hw D 0 hd, Nat.zero_xor] at h
  have h0 := feed_zeros w p D.length
  exact topV_none hw D hd (feed_inj hw hp hpl _ _ _ (topV_lt hw D) (Nat.two_pow_pos w) (h.trans h0.symm))
theorem zip_same : ∀ B B' : List Bool, B.length = B'.length → (∀ b ∈ List.zipWith (fun a b => a ^^ b) B B', b = false) → B = B'
  | [], [], _, _ => rfl
  | b :: B, c :: B', h, hz => by
    rw [List.zipWith_cons_cons] at hz
    have h1 := hz _ (List.mem_cons_self ..)
    have h2 := zip_same B B' (by simpa using h) fun x hx => hz x (List.mem_cons_of_mem _ hx)
    have : b = c := by revert h1; cases b <;> cases c <;> simp
    rw [this, h2]
  | [], _ :: _, h, _ => by cases h
  | _ :: _, [], h, _ => by cases h
/-- what is turned within the width is found -/
theorem feed_found {w p : Nat} (hw : 1 ≤ w) (hp : p % 2 = 1) (hpl : p < 2 ^ w) (A B B' C : List Bool) (hl : B.length = B'.length) (hb : B.length ≤ w) :
    feedC w p 0 (A ++ B ++ C) = feedC w p 0 (A ++ B' ++ C) ↔ B = B' := by
  constructor
  · intro h
    rw [feedC_app, feedC_app, feedC_app, feedC_app] at h
    have hA := feed_lt hpl A 0 (Nat.two_pow_pos w)
    have h1 := feed_inj hw hp hpl C _ _ (feed_lt hpl B _ hA) (feed_lt hpl B' _ hA) h
    have h2 := feed_xor w p B B' (feedC w p 0 A) (feedC w p 0 A) hl
    rw [Nat.xor_self, h1, Nat.xor_self] at h2
    exact zip_same B B' hl (feed_none hw hp hpl _ (by rw [List.length_zipWith]; omega) h2)
  · intro h; rw [h]

end Go.Proofs.Ytfjebggekghgkaa
