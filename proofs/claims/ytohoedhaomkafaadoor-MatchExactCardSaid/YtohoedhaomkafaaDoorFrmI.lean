/- Frame: the document's Right whole; Right in two words; ors of numbers. -/
import Derived.Test.YtohoedhaomkafaaDoorFrmH
namespace Go.Proofs.YtohoedhaomkafaaDoor
open Go.RowKit
set_option linter.unusedVariables false

/-! ### ors -/
theorem or_u32 (a b : Nat) (ha : a < 4294967296) (hb : b < 4294967296) (hab : a + b < 4294967296) (h : a &&& b = 0) : bits .or .u32 (a : Int) (b : Int) = (a : Int) + b := by
  have e1 : (BitVec.ofInt 32 (a : Int)).toNat = a := by rw [BitVec.ofInt_natCast, BitVec.toNat_ofNat]; exact Nat.mod_eq_of_lt (by omega)
  have e2 : (BitVec.ofInt 32 (b : Int)).toNat = b := by rw [BitVec.ofInt_natCast, BitVec.toNat_ofNat]; exact Nat.mod_eq_of_lt (by omega)
  have hz : BitVec.ofInt 32 (a : Int) &&& BitVec.ofInt 32 (b : Int) = 0#32 := by
    apply BitVec.eq_of_toNat_eq
    rw [BitVec.toNat_and, e1, e2, h]; rfl
  show IntKind.u32.wrap (((BitVec.ofInt 32 (a : Int)) ||| (BitVec.ofInt 32 (b : Int))).toNat : Int) = _
  rw [← BitVec.add_eq_or_of_and_eq_zero _ _ hz, BitVec.toNat_add, e1, e2, IntKind.wrap_u32]
  omega
theorem or_pow (a i : Nat) (hi : i < 32) (ha : a + 2 ^ i < 4294967296) (h : a / 2 ^ i % 2 = 0) : bits .or .u32 (a : Int) ((2 ^ i : Nat) : Int) = (a : Int) + ((2 ^ i : Nat) : Int) :=
  or_u32 a (2 ^ i) (Nat.lt_of_le_of_lt (Nat.le_add_right _ _) ha) (Nat.lt_of_le_of_lt (Nat.le_add_left _ _) ha) ha (by rw [nat_and_pow, h, Nat.zero_mul])
theorem or31 (a : Int) (h0 : 0 ≤ a) (h1 : a < 2147483648) : bits .or .u32 a 2147483648 = a + 2147483648 := by
  obtain ⟨k, rfl⟩ := Int.eq_ofNat_of_zero_le h0
  exact or_pow k 31 (by decide) (by omega) (by omega)
theorem or30 (a : Int) (h0 : 0 ≤ a) (h1 : a < 3221225472) (h : a / 1073741824 % 2 = 0) : bits .or .u32 a 1073741824 = a + 1073741824 := by
  obtain ⟨k, rfl⟩ := Int.eq_ofNat_of_zero_le h0
  exact or_pow k 30 (by decide) (by omega) (by omega)
theorem or29 (a : Int) (h0 : 0 ≤ a) (h1 : a < 536870912) : bits .or .u32 a 536870912 = a + 536870912 := by
  obtain ⟨k, rfl⟩ := Int.eq_ofNat_of_zero_le h0
  exact or_pow k 29 (by decide) (by omega) (by omega)

/-! ### the document's Right -/
theorem okFl_parts {n : Int} (h0 : 0 ≤ n) (h1 : n ≤ 63) : okFl n = (!(fX n && (fE n || fR n || fD n)) && !(fD n && fR n) && !((fB n || fS n) && !fD n)) := by
  unfold okFl
  rw [decide_eq_true h0, decide_eq_true h1]
  simp
theorem okF_out {i n l : Int} {sz : Nat} (h : n < 0 ∨ 63 < n ∨ i < 0 ∨ 536870911 < i) : okF i n l sz = false := by
  unfold okF okFl idOk
  rcases h with h | h | h | h
  · rw [decide_eq_false (show ¬ 0 ≤ n by omega)]; simp
  · rw [decide_eq_false (show ¬ n ≤ 63 by omega)]; simp
  · rw [decide_eq_false (show ¬ 0 ≤ i by omega)]; simp
  · have ht : topN n ≤ 536870911 := by unfold topN; split <;> omega
    rw [decide_eq_false (show ¬ i ≤ topN n by omega)]; simp

set_option maxHeartbeats 1000000 in
theorem rright_out (i n l : Int) (d : ByteArray) (w : World) (h : n < 0 ∨ 63 < n ∨ i < 0 ∨ 536870911 < i) :
    Calls Tryd.prog 15 #[.agg #[.int .i64 i, .int .i64 n, .int .i64 l, .string d]] w fun e w' => e = .returned (.bool false) ∧ Below w.heap.size w w' := by
  by_cases a : n < 0
  · have t1 : decide (n < 0) = true := by simp; omega
    clear h
    go_enter Tryd.func15, Tryd.ntmps15
    go_wp2
    go_ret
    exact ⟨rfl, (Below.refl _ _).alloc (Nat.le_refl _) _⟩
  have t1 : decide (n < 0) = false := by simp; omega
  by_cases b : 63 < n
  · have t2 : decide (63 < n) = true := by simp; omega
    clear h
    go_enter Tryd.func15, Tryd.ntmps15
    go_wp2
    go_ret
    exact ⟨rfl, (Below.refl _ _).alloc (Nat.le_refl _) _⟩
  have t2 : decide (63 < n) = false := by simp; omega
  by_cases c : i < 0
  · have t3 : decide (i < 0) = true := by simp; omega
    clear h
    go_enter Tryd.func15, Tryd.ntmps15
    go_wp2
    go_ret
    exact ⟨rfl, (Below.refl _ _).alloc (Nat.le_refl _) _⟩
  have t3 : decide (i < 0) = false := by simp; omega
  have t4 : decide (536870911 < i) = true := by simp; omega
  have c4 : 536870911 < i := by omega
  clear h
  go_enter Tryd.func15, Tryd.ntmps15
  go_wp2
  go_ret
  exact ⟨rfl, (Below.refl _ _).alloc (Nat.le_refl _) _⟩

theorem topN_v {n : Int} {e x : Bool} (he : fE n = e) (hx : fX n = x) : topN n = if e || x then 536870911 else 2047 := by unfold topN; rw [he, hx]
theorem rright_any (i n l : Int) (d : ByteArray) (w : World) :
    Calls Tryd.prog 15 #[.agg #[.int .i64 i, .int .i64 n, .int .i64 l, .string d]] w fun e w' => e = .returned (.bool (okF i n l d.size)) ∧ Below w.heap.size w w' := by
  by_cases h : n < 0 ∨ 63 < n ∨ i < 0 ∨ 536870911 < i
  · rw [okF_out h]
    exact rright_out i n l d w h
  have h0 : 0 ≤ n := by omega
  have h1 : n ≤ 63 := by omega
  have h2 : 0 ≤ i := by omega
  have h3 : i ≤ 536870911 := by omega
  have hp := okFl_parts h0 h1
  cases ho : okFl n
  · have : okF i n l d.size = false := by unfold okF; rw [ho]; rfl
    rw [this]
    refine rright_bad i n l d w h0 h1 h2 h3 _ _ _ _ _ _ (Lib.hid rfl) (Lib.hid rfl) (Lib.hid rfl) (Lib.hid rfl) (Lib.hid rfl) (Lib.hid rfl) (Lib.hid ?_)
    rw [hp] at ho
    revert ho
    cases fX n <;> cases fE n <;> cases fR n <;> cases fD n <;> cases fB n <;> cases fS n <;> decide
  · rw [hp] at ho
    have hok : okF i n l d.size = (idOk i n && lenOk n l && datOk n l d.size) := by unfold okF; rw [hp, ho]; rfl
    rw [hok]
    cases hX : fX n
    · cases hD : fD n
      · have hB : fB n = false := by revert ho; rw [hX, hD]; cases fE n <;> cases fR n <;> cases fB n <;> cases fS n <;> decide
        have hS : fS n = false := by revert ho; rw [hX, hD]; cases fE n <;> cases fR n <;> cases fB n <;> cases fS n <;> decide
        have e : (idOk i n && lenOk n l && datOk n l d.size) = resC (fE n) (fR n) i l d.size := by
          unfold idOk lenOk datOk resC resD
          rw [topN_v rfl hX, hX, hD, decide_eq_true h2]
          cases fE n
          · simp
          · simp [h3]
        rw [e]
        exact rright_C i n l d w h0 h1 h2 h3 _ _ (Lib.hid rfl) (Lib.hid rfl) (Lib.hid hX) (Lib.hid hD) (Lib.hid hB) (Lib.hid hS)
      · have hR : fR n = false := by revert ho; rw [hX, hD]; cases fE n <;> cases fR n <;> cases fB n <;> cases fS n <;> decide
        have e : (idOk i n && lenOk n l && datOk n l d.size) = resB (fE n) i l d.size := by
          unfold idOk lenOk datOk resB resD
          rw [topN_v rfl hX, hX, hD, hR, decide_eq_true h2]
          cases fE n
          · simp
          · simp [h3]
        rw [e]
        cases hB : fB n
        · cases hS : fS n
          · exact rright_Bff i n l d w h0 h1 h2 h3 _ (Lib.hid rfl) (Lib.hid hR) (Lib.hid hX) (Lib.hid hD) (Lib.hid hB) (Lib.hid hS)
          · exact rright_Bft i n l d w h0 h1 h2 h3 _ (Lib.hid rfl) (Lib.hid hR) (Lib.hid hX) (Lib.hid hD) (Lib.hid hB) (Lib.hid hS)
        · exact rright_Bt i n l d w h0 h1 h2 h3 _ _ (Lib.hid rfl) (Lib.hid hR) (Lib.hid hX) (Lib.hid hD) (Lib.hid hB) (Lib.hid rfl)
    · have hE : fE n = false := by revert ho; rw [hX]; cases fE n <;> cases fR n <;> cases fD n <;> cases fB n <;> cases fS n <;> decide
      have hR : fR n = false := by revert ho; rw [hX]; cases fE n <;> cases fR n <;> cases fD n <;> cases fB n <;> cases fS n <;> decide
      have hD : fD n = false := by revert ho; rw [hX]; cases fE n <;> cases fR n <;> cases fD n <;> cases fB n <;> cases fS n <;> decide
      have hB : fB n = false := by revert ho; rw [hX, hD]; cases fE n <;> cases fR n <;> cases fB n <;> cases fS n <;> decide
      have hS : fS n = false := by revert ho; rw [hX, hD]; cases fE n <;> cases fR n <;> cases fB n <;> cases fS n <;> decide
      have e : (idOk i n && lenOk n l && datOk n l d.size) = resA l d.size := by
        unfold idOk lenOk datOk resA resD
        rw [topN_v hE hX, hX, hR, decide_eq_true h2]
        simp [h3]
      rw [e]
      exact rright_A i n l d w h0 h1 h2 h3 (Lib.hid hE) (Lib.hid hR) (Lib.hid hX) (Lib.hid hD) (Lib.hid hB) (Lib.hid hS)

theorem rright_v {i n l : Int} {d : ByteArray} {q : Bool} (h : okF i n l d.size = q) (w : World) :
    Calls Tryd.prog 15 #[.agg #[.int .i64 i, .int .i64 n, .int .i64 l, .string d]] w fun e w' => e = .returned (.bool q) ∧ Below w.heap.size w w' := by rw [← h]; exact rright_any i n l d w
theorem right_t {i n l : Int} {d : ByteArray} (h : okF i n l d.size = true) (w : World) (hT : Tabs w) :
    Calls Tryd.prog 25 #[.agg #[.int .i64 i, .int .i64 n, .int .i64 l, .string d]] w fun e w' => e = .returned (.int .i64 0) ∧ Below w.heap.size w w' := by
  have hn : 0 ≤ n ∧ n ≤ 63 := by
    apply Classical.byContradiction
    intro hc
    rw [okF_out (by omega)] at h
    cases h
  have := right_any i n l d w hT (by omega) (by omega)
  rw [h] at this
  exact this
theorem right_f {i n l : Int} {d : ByteArray} (h : okF i n l d.size = false) (w : World) (hT : Tabs w) (hn1 : -9223372036854775808 ≤ n) (hn2 : n ≤ 9223372036854775807) :
    Calls Tryd.prog 25 #[.agg #[.int .i64 i, .int .i64 n, .int .i64 l, .string d]] w fun e w' => e = .returned (.int .i64 4) ∧ Below w.heap.size w w' := by
  have := right_any i n l d w hT hn1 hn2
  rw [h] at this
  exact this

/-- what follows from that a frame may be -/
structure Good (i n l : Int) (sz : Nat) : Prop where
  n0 : 0 ≤ n
  n1 : n ≤ 63
  i0 : 0 ≤ i
  i1 : i ≤ topN n
  fl : okFl n = true
  ln : lenOk n l = true
  dt : datOk n l sz = true
theorem good {i n l : Int} {sz : Nat} (h : okF i n l sz = true) : Good i n l sz := by
  have h' := h
  unfold okF idOk at h'
  simp only [Bool.and_eq_true, decide_eq_true_eq] at h'
  have hn : 0 ≤ n ∧ n ≤ 63 := by
    apply Classical.byContradiction
    intro hc
    rw [okF_out (by omega)] at h
    cases h
  exact ⟨hn.1, hn.2, h'.1.1.2.1, h'.1.1.2.2, h'.1.1.1, h'.1.2, h'.2⟩
theorem Good.top {i n l : Int} {sz : Nat} (h : Good i n l sz) : i ≤ 536870911 := by
  have := h.i1; unfold topN at this; split at this <;> omega
theorem Good.noXE {i n l : Int} {sz : Nat} (h : Good i n l sz) (hx : fX n = true) : fE n = false ∧ fR n = false ∧ fD n = false := by
  have h1 := h.fl
  rw [okFl_parts h.n0 h.n1, hx] at h1
  revert h1
  cases fE n <;> cases fR n <;> cases fD n <;> cases fB n <;> cases fS n <;> decide
theorem Good.noDR {i n l : Int} {sz : Nat} (h : Good i n l sz) (hx : fD n = true) : fR n = false ∧ fX n = false := by
  have h1 := h.fl
  rw [okFl_parts h.n0 h.n1, hx] at h1
  revert h1
  cases fE n <;> cases fR n <;> cases fX n <;> cases fB n <;> cases fS n <;> decide

end Go.Proofs.YtohoedhaomkafaaDoor
