/- Match: contracts of the document's bit, Hit, flip. -/
import Derived.Test.YtohoedhaomkafaaDoorMatB
namespace Go.Proofs.YtohoedhaomkafaaDoor
open Go.RowKit
set_option linter.unusedVariables false

def shW (u j : Nat) : Int := ((u / 2 ^ j : Nat) : Int)
theorem shW_succ (u j : Nat) : shW u j / 2 = shW u (j + 1) := by
  unfold shW
  rw [Nat.pow_succ, ← Nat.div_div_eq_div_mul]
  omega
theorem shW_bd (u j : Nat) (h : u < 4294967296) : 0 ≤ shW u j ∧ shW u j < 4294967296 := by
  exact ⟨Int.natCast_nonneg _, Int.ofNat_lt.2 (Nat.lt_of_le_of_lt (Nat.div_le_self _ _) h)⟩
theorem shW_bit (u j : Nat) : (shW u j % 2 == 1) = u.testBit j := by
  unfold shW
  rw [Nat.testBit_eq_decide_div_mod_eq, Bool.eq_iff_iff]
  simp only [beq_iff_eq, decide_eq_true_eq]
  omega

set_option maxHeartbeats 1000000 in
theorem rbit_v {u k : Nat} {q : Bool} (h : u.testBit k = q) (hu : u < 4294967296) (hk : k ≤ 31) (w : World) :
    Calls Tryd.prog 19 #[.int .u32 u, .int .i64 k] w fun e w' => e = .returned (.bool q) ∧ w = w' := by
  have H := Lib.hid (show (shW u k % 2 == 1) = q by rw [shW_bit]; exact h)
  have HU := Lib.hid hu
  have h0 : (u : Int) = shW u 0 := by simp [shW]
  rw [h0]
  clear h hu h0
  go_enter Tryd.func19, Tryd.ntmps19
  go_wp2
  go_loop [0, 5] (fun n i => ∃ j : Nat, j ≤ k ∧ i = .int .i64 j ∧ n = .int .u32 (shW u j)) (fun _ i => k - (intOf i).toNat)
  case atStart => exact ⟨0, Nat.zero_le _, rfl, rfl⟩
  case round =>
    obtain ⟨j, hj, rfl, rfl⟩ := hrel
    have hsb := shW_bd u j HU.out
    by_cases hlt : j < k
    · have HS := Lib.hid (shW_succ u j)
      go_wp2
      go_round
      case rel => exact ⟨j + 1, by omega, by go_num, by rw [HS.out]⟩
      case measure => simp [intOf]; omega
    · obtain rfl : j = k := by omega
      go_wp2
      go_ret
      exact ⟨fret_bool H.out, rfl⟩

/-- are the word and the filter's ID the same in those of the first bits that its mask has? -/
def sameTo (f : Flt) (u : Nat) : Nat → Bool
  | 0 => true
  | j + 1 => if f.m.testBit j && (f.i.testBit j != u.testBit j) then false else sameTo f u j
theorem sameTo_iff (f : Flt) (u : Nat) : ∀ j, sameTo f u j = true ↔ ∀ k, k < j → f.m.testBit k = true → u.testBit k = f.i.testBit k
  | 0 => by simp [sameTo]
  | j + 1 => by
    have ih := sameTo_iff f u j
    unfold sameTo
    constructor
    · intro h k hk hm
      by_cases e : k = j
      · subst e
        rw [hm] at h
        revert h
        cases f.i.testBit k <;> cases u.testBit k <;> simp
      · split at h
        · cases h
        · exact ih.1 h k (by omega) hm
    · intro h
      have h1 := ih.2 fun k hk => h k (by omega)
      have h2 := h j (by omega)
      rw [h1]
      cases hm : f.m.testBit j
      · simp
      · rw [h2 hm]; simp
theorem sameTo_32 (f : Flt) (u : Nat) (hf : f.fits) : (sameTo f u 32 != f.v) = hitN f u := by
  have : sameTo f u 32 = (((u ^^^ f.i) &&& f.m) == 0) := by
    rw [Bool.eq_iff_iff, same_iff, sameTo_iff]
    exact ⟨fun h k hk => h k (bit_lt hf.2 hk) hk, fun h k _ hk => h k hk⟩
  unfold hitN
  rw [this]

set_option maxHeartbeats 1000000 in
theorem rhit_v {f : Flt} {u : Nat} {q : Bool} (h : hitN f u = q) (hf : f.fits) (hu : u < 4294967296) (w : World) :
    Calls Tryd.prog 7 #[.agg #[.int .u32 f.i, .int .u32 f.m, .bool f.v], .int .u32 u] w fun e w' => e = .returned (.bool q) ∧ Below w.heap.size w w' := by
  have H := Lib.hid ((sameTo_32 f u hf).trans h)
  have HF := Lib.hid hf
  have HU := Lib.hid hu
  clear h hf hu
  go_enter Tryd.func7, Tryd.ntmps7
  go_wp2
  go_loop [5, 6] (fun s i => ∃ j : Nat, j ≤ 32 ∧ i = .int .i64 j ∧ s = .bool (sameTo f u j)) (fun _ i => 32 - (intOf i).toNat)
  case atStart => exact ⟨0, Nat.zero_le _, rfl, rfl⟩
  case round =>
    obtain ⟨j, hj, rfl, rfl⟩ := hrel
    by_cases hlt : j < 32
    · have HS : Hid (sameTo f u (j + 1) = if f.m.testBit j && (f.i.testBit j != u.testBit j) then false else sameTo f u j) := Lib.hid rfl
      generalize hm : f.m.testBit j = qm at HS
      have HM := Lib.hid hm
      generalize hi : f.i.testBit j = qi at HS
      have HI := Lib.hid hi
      generalize hw : u.testBit j = qw at HS
      have HW := Lib.hid hw
      clear hm hi hw
      generalize sameTo f u j = sj at HS
      go_wp2_with fail
      refine (rbit_v HM.out HF.out.2 (by omega) _).mono ?_
      rintro e w1 ⟨rfl, rfl⟩
      cases qm
      · go_wp2
        go_round
        case rel => exact ⟨j + 1, by omega, by go_num, by rw [HS.out]; rfl⟩
        case measure => simp [intOf]; omega
      · go_wp2_with fail
        refine (rbit_v HI.out HF.out.1 (by omega) _).mono ?_
        rintro e w1 ⟨rfl, rfl⟩
        go_wp2_with fail
        refine (rbit_v HW.out HU.out (by omega) _).mono ?_
        rintro e w1 ⟨rfl, rfl⟩
        cases qi <;> cases qw <;>
        · go_wp2
          go_round
          case rel => exact ⟨j + 1, by omega, by go_num, by rw [HS.out]; rfl⟩
          case measure => simp [intOf]; omega
    · obtain rfl : j = 32 := by omega
      generalize hs : sameTo f u 32 = s32 at H
      go_wp2
      go_ret
      exact ⟨fret_bool H.out, (Below.refl _ _).alloc (Nat.le_refl _) _⟩

/-- a word with one bit turned; of 32 none -/
def flipN (u k : Nat) : Nat := if 31 < k then u else if u.testBit k then u - 2 ^ k else u + 2 ^ k
theorem pow_lt32 {k : Nat} (hk : k < 32) : 2 ^ k ≤ 2147483648 := by
  have : 2 ^ k ≤ 2 ^ 31 := Nat.pow_le_pow_right (by decide) (by omega)
  omega
theorem flip_lt {u k : Nat} (hu : u < 4294967296) : flipN u k < 4294967296 := by
  unfold flipN
  split
  · exact hu
  · rename_i hk
    split
    · exact Nat.lt_of_le_of_lt (Nat.sub_le _ _) hu
    · rename_i hb
      rw [← or_pow_add _ _ (by simpa using hb)]
      exact or_lt hu (by omega)

end Go.Proofs.YtohoedhaomkafaaDoor
