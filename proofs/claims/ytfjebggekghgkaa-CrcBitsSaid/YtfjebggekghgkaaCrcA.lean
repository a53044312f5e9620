/- Crc: bits as numbers and as texts; contracts of the document's Bits, Number, Right, Add. -/
import Derived.Test.YtfjebggekghgkaaCrcM
import Derived.Test.YtfjebggekghgkaaStfD
import Derived.Test.YtfjebggekghgkaaOctH
namespace Go.Proofs.Ytfjebggekghgkaa
open Go.RowKit
set_option linter.unusedVariables false

def bitC (b : Bool) : Int := if b then 49 else 48
theorem bitC_bit (b : Bool) : isBit (bitC b) = true := by cases b <;> rfl
theorem bitC_inj {a b : Bool} : bitC a = bitC b ↔ a = b := by cases a <;> cases b <;> decide
def toB (L : List Int) : List Bool := L.map fun c => c == 49
theorem toB_len (L : List Int) : (toB L).length = L.length := by simp [toB]
theorem toB_app (a b : List Int) : toB (a ++ b) = toB a ++ toB b := by simp [toB]
theorem toB_C (L : List Bool) : toB (L.map bitC) = L := by
  unfold toB
  rw [List.map_map]
  conv => rhs; rw [← List.map_id L]
  exact List.map_congr_left fun b _ => by cases b <;> rfl
theorem C_toB {L : List Int} (h : bitsB L = true) : (toB L).map bitC = L := by
  unfold toB
  rw [List.map_map]
  conv => rhs; rw [← List.map_id L]
  refine List.map_congr_left fun c hc => ?_
  have := (isBit_iff c).1 (List.all_eq_true.1 h c hc)
  rcases this with rfl | rfl <;> rfl
theorem bitsB_C (L : List Bool) : bitsB (L.map bitC) = true := by
  unfold bitsB
  rw [List.all_eq_true]
  intro x hx
  obtain ⟨b, _, rfl⟩ := List.mem_map.1 hx
  exact bitC_bit b
/-- the bits of a number, as they are told -/
def bitsI (n w : Nat) : List Int := (bitsT n w).map bitC
theorem bitsI_len (n w : Nat) : (bitsI n w).length = w := by unfold bitsI; rw [List.length_map, bitsT_len]
theorem bitsI_succ (n w : Nat) : bitsI n (w + 1) = bitC (n.testBit w) :: bitsI n w := rfl
theorem bitsI_bits (n w : Nat) : bitsB (bitsI n w) = true := bitsB_C _
/-- the number of bits -/
def numA : Nat → List Bool → Nat
  | a, [] => a
  | a, b :: L => numA (2 * a + (if b then 1 else 0)) L
theorem numA_app : ∀ (L : List Bool) (a : Nat) (b : Bool), numA a (L ++ [b]) = 2 * numA a L + (if b then 1 else 0)
  | [], a, b => rfl
  | c :: L, a, b => by simp only [List.cons_append, numA]; exact numA_app L _ b
theorem numA_lt : ∀ (L : List Bool) (a k : Nat), a < 2 ^ k → numA a L < 2 ^ (k + L.length)
  | [], a, k, h => h
  | b :: L, a, k, h => by
    have := numA_lt L (2 * a + (if b then 1 else 0)) (k + 1) (by rw [Nat.pow_succ]; split <;> omega)
    simp only [numA, List.length_cons]
    rwa [show k + (L.length + 1) = k + 1 + L.length by omega]
theorem numA_bits (n : Nat) : ∀ (r a : Nat), numA a (bitsT n r) = a * 2 ^ r + n % 2 ^ r
  | 0, a => by simp [bitsT, numA, Nat.mod_one]
  | r + 1, a => by
    simp only [bitsT, numA]
    rw [numA_bits n r]
    have h1 := Nat.mod_mul (x := n) (a := 2 ^ r) (b := 2)
    rw [← Nat.pow_succ] at h1
    rw [h1, Nat.testBit_eq_decide_div_mod_eq, Nat.pow_succ]
    rcases Nat.mod_two_eq_zero_or_one (n / 2 ^ r) with h | h
    · simp only [h]; simp [Nat.mul_comm, Nat.mul_assoc]
    · simp only [h]
      simp only [decide_true, if_true, Nat.mul_one]
      rw [Nat.add_mul, Nat.one_mul, Nat.mul_comm 2 a, Nat.mul_assoc, Nat.mul_comm (2 ^ r) 2]
      omega
theorem num_bits {n r : Nat} (h : n < 2 ^ r) : numA 0 (bitsT n r) = n := by
  rw [numA_bits, Nat.mod_eq_of_lt h]; omega
theorem bits_num : ∀ (L : List Bool) (a : Nat), bitsT (numA a L) L.length = L
  | [], a => rfl
  | b :: L, a => by
    have key : ∀ (L : List Bool) (a : Nat), numA a L = a * 2 ^ L.length + numA 0 L := by
      intro L
      induction L with
      | nil => intro a; simp [numA]
      | cons c L ih =>
        intro a
        simp only [numA, List.length_cons]
        rw [ih (2 * a + _), ih (2 * 0 + _), Nat.pow_succ]
        simp only [Nat.mul_zero, Nat.zero_add]
        rw [Nat.add_mul, Nat.mul_comm 2 a, Nat.mul_assoc, Nat.mul_comm (2 ^ L.length) 2]
        omega
    have hl := numA_lt L 0 0 (by decide)
    rw [Nat.zero_add] at hl
    simp only [List.length_cons, bitsT, numA]
    rw [bits_num L]
    congr 1
    rw [key L, Nat.testBit_eq_decide_div_mod_eq, Nat.mul_comm, Nat.mul_add_div (Nat.two_pow_pos _), Nat.div_eq_of_lt hl]
    cases b <;> simp <;> omega

def shN (n j : Nat) : Int := ((n / 2 ^ j : Nat) : Int)
theorem shN_succ (n j : Nat) : shN n j / 2 = shN n (j + 1) := by
  unfold shN
  rw [Nat.pow_succ, ← Nat.div_div_eq_div_mul]
  omega
theorem shN_bd (n j : Nat) (h : n < 9223372036854775808) : 0 ≤ shN n j ∧ shN n j < 9223372036854775808 := by
  unfold shN
  exact ⟨Int.natCast_nonneg _, Int.ofNat_lt.2 (Nat.lt_of_le_of_lt (Nat.div_le_self _ _) h)⟩
theorem shN_bit (n j : Nat) : shN n j % 2 = if n.testBit j then 1 else 0 := by
  unfold shN
  rw [Nat.testBit_eq_decide_div_mod_eq]
  generalize n / 2 ^ j = x
  rcases Nat.mod_two_eq_zero_or_one x with h | h
  · simp only [h]; simp; omega
  · simp only [h]; simp; omega

theorem numsz (L : List Int) : (strOfNums L).size = L.length := by
  have h : (strOfNums L).data.toList.length = L.length := by rw [strOfNums_data]; simp
  simpa using h

theorem cbits_no {n w : Int} (h : n < 0 ∨ w < 0 ∨ 60 < w) (W : World) :
    Calls Try.prog 15 #[.int .i64 n, .int .i64 w] W fun e w' => e = .returned (.string (ByteArray.mk #[])) ∧ W = w' := by
  by_cases h0 : n < 0
  · go_enter Try.func15, Try.ntmps15
    go_wp2
    go_ret
    exact ⟨rfl, rfl⟩
  · by_cases h1 : w < 0
    · go_enter Try.func15, Try.ntmps15
      go_wp2
      go_ret
      exact ⟨rfl, rfl⟩
    · have h2 : 60 < w := by omega
      go_enter Try.func15, Try.ntmps15
      go_wp2
      go_ret
      exact ⟨rfl, rfl⟩

set_option maxHeartbeats 1000000 in
theorem cbits_t {n m : Nat} {t : ByteArray} (h : strOfNums (bitsI n m) = t) (hn : n < 9223372036854775808) (hm : m ≤ 60) (W : World) :
    Calls Try.prog 15 #[.int .i64 n, .int .i64 m] W fun e w' => e = .returned (.string t) ∧ Below W.heap.size W w' := by
  have H := Lib.hid h
  have HN := Lib.hid hn
  have h0 : (n : Int) = shN n 0 := by unfold shN; simp
  have hb0 := shN_bd n 0 hn
  have hcv := conv1
  rw [h0]
  clear h hn h0
  go_enter Try.func15, Try.ntmps15
  go_wp2
  go_loopw [0, 5, 6] (fun x s i wr => ∃ k : Nat, k ≤ m ∧ i = .int .i64 k ∧ x = .int .i64 (shN n k) ∧ s = .string (strOfNums (bitsI n k)) ∧ Hid (Below W.heap.size W wr)) (fun _ _ i _ => m - (intOf i).toNat)
  case atStart => exact ⟨0, Nat.zero_le _, rfl, rfl, rfl, Lib.hid (Below.refl _ _)⟩
  case round =>
    obtain ⟨k, hk, rfl, rfl, rfl, HB⟩ := hrel
    by_cases hlt : k < m
    · have hx := shN_bd n k HN.out
      have hbit := shN_bit n k
      have HS := Lib.hid (shN_succ n k)
      have HT : Hid (strOfNums (bitsI n (k + 1)) = strOfNums [bitC (n.testBit k)] ++ strOfNums (bitsI n k)) := Lib.hid (by rw [← nums_app, bitsI_succ]; rfl)
      generalize shN n k = x at hx hbit HS
      have z0 : (strOfNums [48]).size = 1 := rfl
      have z1 : (strOfNums [49]).size = 1 := rfl
      have z2 : (strOfNums (bitsI n k)).size ≤ 60 := by rw [numsz, bitsI_len]; omega
      generalize strOfNums (bitsI n k) = s at HT z2
      cases hb : n.testBit k
      · rw [hb] at hbit HT
        simp only [Bool.false_eq_true, if_false] at hbit
        go_wp2
        go_roundw
        case rel => exact ⟨k + 1, by omega, by go_num, by rw [HS.out], by rw [HT.out]; rfl, Lib.hid (Below.allocL HB.out _)⟩
        case measure => simp [intOf]; omega
      · rw [hb] at hbit HT
        simp only [if_true] at hbit
        go_wp2
        go_roundw
        case rel => exact ⟨k + 1, by omega, by go_num, by rw [HS.out], by rw [HT.out]; rfl, Lib.hid (Below.allocL HB.out _)⟩
        case measure => simp [intOf]; omega
    · obtain rfl : k = m := by omega
      go_wp2
      go_ret
      exact ⟨fret_str H.out, HB.out⟩

/-- the document's Number -/
def numOk (L : List Int) : Bool := bitsB L && decide (L.length ≤ 60)

set_option maxHeartbeats 1000000 in
theorem cnum_f {s : ByteArray} (h : numOk (byL s) = false) (hs : s.size ≤ maxLen) (W : World) :
    Calls Try.prog 14 #[.string s] W fun e w' => e = .returned (.tuple #[.int .i64 0, .bool false]) ∧ W = w' := by
  cases hb : bitsB (byL s)
  · have HB := Lib.hid hb
    clear hb h
    go_enter Try.func14, Try.ntmps14
    go_wp2_with fail
    refine (sright_v HB.out hs _).mono ?_
    rintro e w1 ⟨rfl, rfl⟩
    go_wp2
    go_ret2
    exact ⟨rfl, rfl⟩
  · have HB := Lib.hid hb
    have hlen : 60 < s.size := by
      unfold numOk at h
      rw [hb, byL_len] at h
      simp at h; omega
    have hsm : (s.size : Int) ≤ 9223372036854775807 := by unfold maxLen at hs; omega
    clear hb h
    go_enter Try.func14, Try.ntmps14
    go_wp2_with fail
    refine (sright_v HB.out hs _).mono ?_
    rintro e w1 ⟨rfl, rfl⟩
    go_wp2
    go_ret2
    exact ⟨rfl, rfl⟩

set_option maxHeartbeats 1000000 in
theorem cnum_t {s : ByteArray} {n : Nat} (hn : numA 0 (toB (byL s)) = n) (h : numOk (byL s) = true) (W : World) :
    Calls Try.prog 14 #[.string s] W fun e w' => e = .returned (.tuple #[.int .i64 n, .bool true]) ∧ W = w' := by
  unfold numOk at h
  rw [Bool.and_eq_true, decide_eq_true_eq, byL_len] at h
  have HB := Lib.hid h.1
  have hlen := h.2
  have HN := Lib.hid hn
  clear h hn
  go_enter Try.func14, Try.ntmps14
  go_wp2_with fail
  refine (sright_v HB.out (by unfold maxLen; omega) _).mono ?_
  rintro e w1 ⟨rfl, rfl⟩
  go_wp2_with fail
  go_loop [4, 5] (fun x i => ∃ k : Nat, k ≤ s.size ∧ i = .int .i64 k ∧ x = .int .i64 (numA 0 (toB ((byL s).take k)))) (fun _ i => s.size - (intOf i).toNat)
  case atStart => exact ⟨0, Nat.zero_le _, rfl, rfl⟩
  case round =>
    obtain ⟨k, hk, rfl, rfl⟩ := hrel
    by_cases hlt : k < s.size
    · have hix : ∀ w, (Instr.index 9 (.string s) (.int .i64 k)).run Try.prog w = .ok (.int .u8 (bt s k)) w := fun w => index_bt Try.underlying9 hlt w
      have hbk := (isBit_iff _).1 (List.all_eq_true.1 HB.out (bt s k) (by rw [← byL_get hlt]; exact List.getElem_mem _))
      have HT : Hid (numA 0 (toB ((byL s).take (k + 1))) = 2 * numA 0 (toB ((byL s).take k)) + (if (bt s k == 49) = true then 1 else 0)) := Lib.hid (by rw [byL_take hlt, toB_app]; exact numA_app _ _ _)
      have hlt2 : numA 0 (toB ((byL s).take k)) < 1152921504606846976 := by
        have h1 := numA_lt (toB ((byL s).take k)) 0 0 (by decide)
        have h2 : 2 ^ (0 + (toB ((byL s).take k)).length) ≤ 2 ^ 60 := Nat.pow_le_pow_right (by decide) (by rw [toB_len, List.length_take, byL_len]; omega)
        omega
      generalize numA 0 (toB ((byL s).take k)) = y at HT hlt2
      generalize bt s k = x at hix hbk HT
      rcases hbk with rfl | rfl
      · go_wp2
        go_round
        case rel => exact ⟨k + 1, by omega, by go_num, by rw [HT.out]; go_num⟩
        case measure => simp [intOf]; omega
      · go_wp2
        go_round
        case rel => exact ⟨k + 1, by omega, by go_num, by rw [HT.out]; go_num⟩
        case measure => simp [intOf]; omega
    · obtain rfl : k = s.size := by omega
      have HQ : Hid (numA 0 (toB ((byL s).take s.size)) = n) := Lib.hid (by rw [← HN.out, ← byL_len s, List.take_length])
      go_wp2
      go_ret2
      exact ⟨by rw [← HQ.out]; rfl, rfl⟩

/-- may a width and a poly be? -/
def rightC (w p : Int) : Bool := decide (1 ≤ w) && decide (w ≤ 30) && decide (0 ≤ p) && decide (p < ((2 ^ w.toNat : Nat) : Int))

set_option maxHeartbeats 1000000 in
theorem wright_v {w p : Int} {q : Bool} (h : rightC w p = q) (W : World) :
    Calls Try.prog 19 #[.int .i64 w, .int .i64 p] W fun e w' => e = .returned (.bool q) ∧ W = w' := by
  by_cases h1 : w < 1
  · have HQ : Hid (false = q) := Lib.hid (by rw [← h]; unfold rightC; rw [decide_eq_false (by omega)]; simp)
    go_enter Try.func19, Try.ntmps19
    go_wp2
    go_ret
    exact ⟨fret_bool HQ.out, rfl⟩
  · by_cases h2 : 30 < w
    · have HQ : Hid (false = q) := Lib.hid (by rw [← h]; unfold rightC; rw [decide_eq_false (show ¬ w ≤ 30 by omega)]; simp)
      go_enter Try.func19, Try.ntmps19
      go_wp2
      go_ret
      exact ⟨fret_bool HQ.out, rfl⟩
    · by_cases h3 : p < 0
      · have HQ : Hid (false = q) := Lib.hid (by rw [← h]; unfold rightC; rw [decide_eq_false (show ¬ 0 ≤ p by omega)]; simp)
        go_enter Try.func19, Try.ntmps19
        go_wp2
        go_ret
        exact ⟨fret_bool HQ.out, rfl⟩
      · obtain ⟨m, rfl⟩ := Int.eq_ofNat_of_zero_le (show 0 ≤ w by omega)
        have HQ : Hid (decide (p < ((2 ^ m : Nat) : Int)) = q) := Lib.hid (by rw [← h]; unfold rightC; rw [decide_eq_true (show 1 ≤ (m : Int) by omega), decide_eq_true (show (m : Int) ≤ 30 by omega), decide_eq_true (show 0 ≤ p by omega), Int.toNat_natCast]; simp)
        clear h
        go_enter Try.func19, Try.ntmps19
        go_wp2
        go_loop [5, 6] (fun x i => ∃ k y : Nat, k ≤ m ∧ i = .int .i64 k ∧ x = .int .i64 y ∧ Hid (2 ^ k = y)) (fun _ i => m - (intOf i).toNat)
        case atStart => exact ⟨0, 1, Nat.zero_le _, rfl, rfl, Lib.hid rfl⟩
        case round =>
          obtain ⟨k, y, hk, rfl, rfl, HY⟩ := hrel
          have hy : y ≤ 1073741824 := by
            have : 2 ^ k ≤ 2 ^ 30 := Nat.pow_le_pow_right (by decide) (by omega)
            have := HY.out; omega
          by_cases hlt : k < m
          · go_wp2
            go_round
            case rel => exact ⟨k + 1, 2 * y, by omega, by go_num, by go_num, Lib.hid (by rw [Nat.pow_succ, HY.out]; omega)⟩
            case measure => simp [intOf]; omega
          · obtain rfl : k = m := by omega
            rw [HY.out] at HQ
            go_wp2
            go_ret
            exact ⟨fret_bool HQ.out, rfl⟩

/-- where two texts of bits are unlike -/
def addI (A B : List Int) : List Int := List.zipWith (fun a b => if a = b then 48 else 49) A B
def addOk (A B : List Int) : Bool := bitsB A && bitsB B && decide (A.length = B.length)
theorem addI_take {a b : ByteArray} {k : Nat} (h1 : k < a.size) (h2 : k < b.size) : addI ((byL a).take (k + 1)) ((byL b).take (k + 1)) = addI ((byL a).take k) ((byL b).take k) ++ [if bt a k = bt b k then 48 else 49] := by
  unfold addI
  rw [byL_take h1, byL_take h2, List.zipWith_append (by rw [List.length_take, List.length_take, byL_len, byL_len]; omega)]
  rfl

set_option maxHeartbeats 1000000 in
theorem cadd_v {a b t : ByteArray} (h : (if addOk (byL a) (byL b) then strOfNums (addI (byL a) (byL b)) else ByteArray.mk #[]) = t) (ha : a.size ≤ 100000) (hb : b.size ≤ 100000) (W : World) :
    Calls Try.prog 17 #[.string a, .string b] W fun e w' => e = .returned (.string t) ∧ ∃ m, w' = W.drewN m := by
  have H := Lib.hid h
  clear h
  cases h1 : bitsB (byL a)
  · have H1 := Lib.hid h1
    have HQ : Hid (ByteArray.mk #[] = t) := Lib.hid (by rw [← H.out]; unfold addOk; rw [h1]; rfl)
    clear h1
    go_enter Try.func17, Try.ntmps17
    go_wp2_with fail
    refine (sright_v H1.out (by unfold maxLen; omega) _).mono ?_
    rintro e w1 ⟨rfl, rfl⟩
    go_wp2
    go_ret
    exact ⟨fret_str HQ.out, 0, rfl⟩
  · have H1 := Lib.hid h1
    cases h2 : bitsB (byL b)
    · have H2 := Lib.hid h2
      have HQ : Hid (ByteArray.mk #[] = t) := Lib.hid (by rw [← H.out]; unfold addOk; rw [h1, h2]; rfl)
      clear h1 h2
      go_enter Try.func17, Try.ntmps17
      go_wp2_with fail
      refine (sright_v H1.out (by unfold maxLen; omega) _).mono ?_
      rintro e w1 ⟨rfl, rfl⟩
      go_wp2_with fail
      refine (sright_v H2.out (by unfold maxLen; omega) _).mono ?_
      rintro e w1 ⟨rfl, rfl⟩
      go_wp2
      go_ret
      exact ⟨fret_str HQ.out, 0, rfl⟩
    · have H2 := Lib.hid h2
      by_cases h3 : a.size = b.size
      · have HQ : Hid (strOfNums (addI (byL a) (byL b)) = t) := Lib.hid (by rw [← H.out]; unfold addOk; rw [h1, h2, byL_len, byL_len, decide_eq_true h3]; rfl)
        clear h1 h2 H
        go_enter Try.func17, Try.ntmps17
        go_wp2_with fail
        refine (sright_v H1.out (by unfold maxLen; omega) _).mono ?_
        rintro e w1 ⟨rfl, rfl⟩
        go_wp2_with fail
        refine (sright_v H2.out (by unfold maxLen; omega) _).mono ?_
        rintro e w1 ⟨rfl, rfl⟩
        go_wp2_with fail
        go_loopw [5, 6] (fun s i wr => ∃ k : Nat, k ≤ a.size ∧ i = .int .i64 k ∧ s = .string (strOfNums (addI ((byL a).take k) ((byL b).take k))) ∧ ∃ m, wr = W.drewN m) (fun _ i _ => a.size - (intOf i).toNat)
        case atStart => exact ⟨0, Nat.zero_le _, rfl, rfl, 0, rfl⟩
        case round =>
          obtain ⟨k, hk, rfl, rfl, m, rfl⟩ := hrel
          by_cases hlt : k < a.size
          · have hlt2 : k < b.size := by omega
            have hix : ∀ w, (Instr.index 9 (.string a) (.int .i64 k)).run Try.prog w = .ok (.int .u8 (bt a k)) w := fun w => index_bt Try.underlying9 hlt w
            have hiy : ∀ w, (Instr.index 9 (.string b) (.int .i64 k)).run Try.prog w = .ok (.int .u8 (bt b k)) w := fun w => index_bt Try.underlying9 hlt2 w
            have HT : Hid (strOfNums (addI ((byL a).take (k + 1)) ((byL b).take (k + 1))) = strOfNums (addI ((byL a).take k) ((byL b).take k)) ++ strOfNums [if bt a k = bt b k then 48 else 49]) := Lib.hid (by rw [addI_take hlt hlt2, nums_app])
            have z0 : (ByteArray.mk #[48]).size = 1 := rfl
            have z1 : (ByteArray.mk #[49]).size = 1 := rfl
            have z2 : (strOfNums (addI ((byL a).take k) ((byL b).take k))).size ≤ 100000 := by
              unfold addI
              rw [numsz, List.length_zipWith, List.length_take, byL_len]; omega
            generalize strOfNums (addI ((byL a).take k) ((byL b).take k)) = s at HT z2
            generalize bt a k = x at hix HT
            generalize bt b k = y at hiy HT
            by_cases hxy : x = y
            · subst hxy
              go_wp2_with fail
              go_quiet (fail)
              go_wp2
              go_roundw
              case rel => exact ⟨k + 1, by omega, by go_num, by rw [HT.out, if_pos True.intro]; rfl, _, rfl⟩
              case measure => simp [intOf]; omega
            · have hne : (x == y) = false := by simp [hxy]
              rw [if_neg hxy] at HT
              go_wp2_with fail
              go_quiet (fail)
              go_wp2
              go_roundw
              case rel => exact ⟨k + 1, by omega, by go_num, by rw [HT.out]; rfl, _, rfl⟩
              case measure => simp [intOf]; omega
          · obtain rfl : k = a.size := by omega
            have HQ2 : Hid (strOfNums (addI ((byL a).take a.size) ((byL b).take a.size)) = t) := Lib.hid (by
              rw [← HQ.out]
              conv => lhs; rw [List.take_of_length_le (by rw [byL_len]; omega), List.take_of_length_le (by rw [byL_len]; omega)])
            go_wp2
            go_ret
            exact ⟨fret_str HQ2.out, _, rfl⟩
      · have HQ : Hid (ByteArray.mk #[] = t) := Lib.hid (by rw [← H.out]; unfold addOk; rw [h1, h2, byL_len, byL_len, decide_eq_false h3]; rfl)
        have hne : ((a.size : Int) != (b.size : Int)) = true := by simp; omega
        clear h1 h2
        go_enter Try.func17, Try.ntmps17
        go_wp2_with fail
        refine (sright_v H1.out (by unfold maxLen; omega) _).mono ?_
        rintro e w1 ⟨rfl, rfl⟩
        go_wp2_with fail
        refine (sright_v H2.out (by unfold maxLen; omega) _).mono ?_
        rintro e w1 ⟨rfl, rfl⟩
        go_wp2
        go_ret
        exact ⟨fret_str HQ.out, 0, rfl⟩

end Go.Proofs.Ytfjebggekghgkaa
