/- Frame: the plain numbers: what single bits of a frame's flags are, which flags may be, lengths' codes, words, keys. No program is meant here. -/
import Derived.Test.YtfjebggekghgkaaRows
import Derived.WalkKit
import Derived.Laws.BitsLemmas
import Derived.Lib.Hide
namespace Go.Proofs.Ytfjebggekghgkaa
open Go.RowKit
set_option linter.unusedVariables false

/-! ### single bits -/
theorem ofInt_toNat (n : Int) : (BitVec.ofInt 64 n).toNat = (n % 18446744073709551616).toNat := by
  rw [BitVec.toNat_ofInt]; rfl
theorem nat_and_pow (N i : Nat) : N &&& 2 ^ i = N / 2 ^ i % 2 * 2 ^ i := by
  apply Nat.eq_of_testBit_eq
  intro j
  rw [Nat.testBit_and, Nat.testBit_two_pow]
  by_cases hij : i = j
  · subst hij
    rw [Nat.testBit_eq_decide_div_mod_eq]
    rcases Nat.mod_two_eq_zero_or_one (N / 2 ^ i) with h | h <;> simp [h, Nat.testBit_two_pow_self]
  · rcases Nat.mod_two_eq_zero_or_one (N / 2 ^ i) with h | h <;> simp [h, hij]
theorem and_p (n : Int) (i : Nat) (hi : i < 63) : bits .and .i64 n ((2 ^ i : Nat) : Int) = (((n % 18446744073709551616).toNat / 2 ^ i % 2 * 2 ^ i : Nat) : Int) := by
  have hp : 2 ^ i < 2 ^ 63 := Nat.pow_lt_pow_right (by decide) hi
  have e2 : (BitVec.ofInt 64 ((2 ^ i : Nat) : Int)).toNat = 2 ^ i := by
    rw [BitVec.ofInt_natCast, BitVec.toNat_ofNat]; exact Nat.mod_eq_of_lt (by omega)
  have hb : ((n % 18446744073709551616).toNat &&& 2 ^ i) = (n % 18446744073709551616).toNat / 2 ^ i % 2 * 2 ^ i := by
    exact nat_and_pow _ _
  have hle : (n % 18446744073709551616).toNat / 2 ^ i % 2 * 2 ^ i ≤ 2 ^ i := by
    rcases Nat.mod_two_eq_zero_or_one ((n % 18446744073709551616).toNat / 2 ^ i) with h | h <;> simp [h]
  show IntKind.i64.wrap (((BitVec.ofInt 64 n) &&& (BitVec.ofInt 64 ((2 ^ i : Nat) : Int))).toNat : Int) = _
  rw [BitVec.toNat_and, ofInt_toNat, e2, hb, IntKind.wrap_i64]
  omega

def fE (n : Int) : Bool := decide (n % 2 = 1)
def fR (n : Int) : Bool := decide (n / 2 % 2 = 1)
def fX (n : Int) : Bool := decide (n / 4 % 2 = 1)
def fD (n : Int) : Bool := decide (n / 8 % 2 = 1)
def fB (n : Int) : Bool := decide (n / 16 % 2 = 1)
def fS (n : Int) : Bool := decide (n / 32 % 2 = 1)

theorem and1 (n : Int) : bits .and .i64 n 1 = if fE n then 1 else 0 := by
  have := and_p n 0 (by decide); unfold fE; simp at this; rw [this]; by_cases h : n % 2 = 1 <;> simp [h] <;> omega
theorem and2 (n : Int) : bits .and .i64 n 2 = if fR n then 2 else 0 := by
  have := and_p n 1 (by decide); unfold fR; simp at this; rw [this]; by_cases h : n / 2 % 2 = 1 <;> simp [h] <;> omega
theorem and4 (n : Int) : bits .and .i64 n 4 = if fX n then 4 else 0 := by
  have := and_p n 2 (by decide); unfold fX; simp at this; rw [this]; by_cases h : n / 4 % 2 = 1 <;> simp [h] <;> omega
theorem and8 (n : Int) : bits .and .i64 n 8 = if fD n then 8 else 0 := by
  have := and_p n 3 (by decide); unfold fD; simp at this; rw [this]; by_cases h : n / 8 % 2 = 1 <;> simp [h] <;> omega

theorem and1_t {n : Int} (h : fE n = true) : bits .and .i64 n 1 = 1 := by rw [and1, h]; rfl
theorem and1_f {n : Int} (h : fE n = false) : bits .and .i64 n 1 = 0 := by rw [and1, h]; rfl
theorem and2_t {n : Int} (h : fR n = true) : bits .and .i64 n 2 = 2 := by rw [and2, h]; rfl
theorem and2_f {n : Int} (h : fR n = false) : bits .and .i64 n 2 = 0 := by rw [and2, h]; rfl
theorem and4_t {n : Int} (h : fX n = true) : bits .and .i64 n 4 = 4 := by rw [and4, h]; rfl
theorem and4_f {n : Int} (h : fX n = false) : bits .and .i64 n 4 = 0 := by rw [and4, h]; rfl
theorem and8_t {n : Int} (h : fD n = true) : bits .and .i64 n 8 = 8 := by rw [and8, h]; rfl
theorem and8_f {n : Int} (h : fD n = false) : bits .and .i64 n 8 = 0 := by rw [and8, h]; rfl

/-! ### which flags may be -/
def okFl (n : Int) : Bool := decide (0 ≤ n) && decide (n ≤ 63) && !(fX n && (fE n || fR n || fD n)) && !(fD n && fR n) && !((fB n || fS n) && !fD n)
def barN (n : Int) : Int := if fX n then -5 else if fD n then -62 else -16
def topN (n : Int) : Int := if fE n || fX n then 536870911 else 2047

theorem wrap_zero (r : BitVec 64) (h : IntKind.i64.wrap (r.toNat : Int) = 0) : r = 0#64 := by
  rw [IntKind.wrap_i64] at h
  have := r.isLt
  apply BitVec.eq_of_toNat_eq
  show r.toNat = 0
  omega
theorem and_high (n b : Int) (h1 : -9223372036854775808 ≤ n) (h2 : n ≤ 9223372036854775807) (hb : BitVec.ofInt 64 b &&& 18446744073709551552#64 = 18446744073709551552#64) (h : bits .and .i64 n b = 0) : 0 ≤ n ∧ n ≤ 63 := by
  have h0 := wrap_zero _ (show IntKind.i64.wrap (((BitVec.ofInt 64 n) &&& (BitVec.ofInt 64 b)).toNat : Int) = 0 from h)
  have h3 : BitVec.ofInt 64 n &&& 18446744073709551552#64 = 0#64 := by rw [← hb, ← BitVec.and_assoc, h0]; simp
  have h5 := congrArg BitVec.toNat h3
  have h4 : (BitVec.ofInt 64 n).toNat ≤ 63 := by
    rw [BitVec.toNat_and] at h5
    have h6 : ((BitVec.ofInt 64 n).toNat &&& 18446744073709551552) = 0 := h5
    apply Classical.byContradiction
    intro hc
    obtain ⟨i, hi, ht⟩ := Nat.exists_ge_and_testBit_of_ge_two_pow (n := 6) (show 2 ^ 6 ≤ (BitVec.ofInt 64 n).toNat by omega)
    have h64 : i < 64 := by
      apply Classical.byContradiction
      intro h7
      have hlt := (BitVec.ofInt 64 n).isLt
      rw [Nat.testBit_lt_two_pow (Nat.lt_of_lt_of_le hlt (Nat.pow_le_pow_right (by decide) (by omega)))] at ht
      cases ht
    have h8 : (18446744073709551552 : Nat).testBit i = true := by
      have : ∀ j : Fin 64, 6 ≤ j.val → (18446744073709551552 : Nat).testBit j.val = true := by decide +kernel
      exact this ⟨i, h64⟩ hi
    have h9 := congrArg (fun x => x.testBit i) h6
    simp only [Nat.testBit_and, ht, h8, Bool.and_self, Nat.zero_testBit] at h9
    cases h9
  rw [ofInt_toNat] at h4
  omega
theorem flag_cases {n : Int} (h0 : 0 ≤ n) (h1 : n ≤ 63) : ∃ k : Fin 64, n = ((k.val : Nat) : Int) := ⟨⟨n.toNat, by omega⟩, by simp; omega⟩
theorem bar_small : ∀ k : Fin 64, (bits .and .i64 ((k.val : Nat) : Int) (barN ((k.val : Nat) : Int)) = 0) ↔ okFl ((k.val : Nat) : Int) = true := by decide +kernel
theorem bar_ok (n : Int) (h1 : -9223372036854775808 ≤ n) (h2 : n ≤ 9223372036854775807) : bits .and .i64 n (barN n) = 0 ↔ okFl n = true := by
  by_cases h : 0 ≤ n ∧ n ≤ 63
  · obtain ⟨k, rfl⟩ := flag_cases h.1 h.2
    exact bar_small k
  · constructor
    · intro h0
      refine absurd (and_high n _ h1 h2 ?_ h0) h
      unfold barN
      split
      · decide +kernel
      · split <;> decide +kernel
    · intro h0
      unfold okFl at h0
      simp only [Bool.and_eq_true, decide_eq_true_eq] at h0
      exact absurd ⟨h0.1.1.1.1, h0.1.1.1.2⟩ h

/-! ### lengths -/
def lens : List Int := [0, 1, 2, 3, 4, 5, 6, 7, 8, 12, 16, 20, 24, 32, 48, 64]
/-- the code of a length of Fd; -1: it has none -/
def codeN (n : Int) : Int := if 0 ≤ n ∧ n ≤ 8 then n else if n = 12 then 9 else if n = 16 then 10 else if n = 20 then 11 else if n = 24 then 12 else if n = 32 then 13 else if n = 48 then 14 else if n = 64 then 15 else -1
def isLen (n : Int) : Bool := decide (0 ≤ codeN n)
/-- the code of the least length that is not below n; -1: there is none -/
def fitC (n : Int) : Int := if n < 0 then -1 else if n ≤ 8 then n else if n ≤ 12 then 9 else if n ≤ 16 then 10 else if n ≤ 20 then 11 else if n ≤ 24 then 12 else if n ≤ 32 then 13 else if n ≤ 48 then 14 else if n ≤ 64 then 15 else -1

def lenOk (n l : Int) : Bool := if fX n then decide (l = 8) else if fD n then isLen l else decide (0 ≤ l) && decide (l ≤ 8)
def datOk (n l : Int) (sz : Nat) : Bool := if fR n then decide (sz = 0) else decide ((sz : Int) = l)
def idOk (i n : Int) : Bool := decide (0 ≤ i) && decide (i ≤ topN n)
/-- which frames may be -/
def okF (i n l : Int) (sz : Nat) : Bool := okFl n && idOk i n && lenOk n l && datOk n l sz

/-! ### words and keys -/
def b01 (b : Bool) : Int := if b then 1 else 0
def wordN (i n : Int) : Int := i + 2147483648 * b01 (fE n) + 1073741824 * b01 (fR n) + 536870912 * b01 (fX n)
def keyN (i n : Int) : Int :=
  if fE n then i / 262144 * 4194304 + 3145728 + i % 262144 * 4 + b01 (fR n) * 2 + b01 (fD n)
  else i * 4194304 + b01 (fR n) * 2097152 + b01 (fD n)

end Go.Proofs.Ytfjebggekghgkaa
