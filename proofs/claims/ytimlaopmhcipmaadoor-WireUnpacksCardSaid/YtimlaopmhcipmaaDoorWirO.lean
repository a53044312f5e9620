/- Wire: the third table; contracts of marksOf, flagsOf, Long; of the document's Long, zero. -/
import Derived.Test.YtimlaopmhcipmaaDoorWirN
namespace Go.Proofs.YtimlaopmhcipmaaDoor
open Go.RowKit
set_option linter.unusedVariables false

/-! ### the table -/
def wmCells : Array Value := #[.int .i64 16, .int .u8 1, .int .i64 32, .int .u8 2, .int .i64 8, .int .u8 4]
def TabW (w : World) : Prop := ∃ t fr, w.heap[1]? = some (.cells wmCells t fr)
theorem TabW.below {w w' : World} (h : TabW w) (hb : Below w.heap.size w w') : TabW w' := by obtain ⟨t, fr, h1⟩ := h; exact ⟨t, fr, by rw [hb.block _ (lt_of_heap h1)]; exact h1⟩
/-- all three tables -/
def TabA (w : World) : Prop := Tabs w ∧ TabW w
theorem TabA.below {w w' : World} (h : TabA w) (hb : Below w.heap.size w w') : TabA w' := ⟨h.1.below hb, h.2.below hb⟩
theorem TabA.alloc {w : World} (h : TabA w) (o : Obj) : TabA (w.alloc o) := h.below ((Below.refl _ _).alloc (Nat.le_refl _) o)
theorem TabA.drew {w : World} (h : TabA w) : TabA w.drew := h
theorem TabA.drewN {w : World} (h : TabA w) (n : Nat) : TabA (w.drewN n) := h

theorem wmark_0 : ∀ w : World, (Instr.index 73 (.agg wmCells) (.int .i64 0)).run Tryd.prog w = .ok (.agg #[.int .i64 16, .int .u8 1]) w := fun _ => by kernel_rfl
theorem wmark_1 : ∀ w : World, (Instr.index 73 (.agg wmCells) (.int .i64 1)).run Tryd.prog w = .ok (.agg #[.int .i64 32, .int .u8 2]) w := fun _ => by kernel_rfl
theorem wmark_2 : ∀ w : World, (Instr.index 73 (.agg wmCells) (.int .i64 2)).run Tryd.prog w = .ok (.agg #[.int .i64 8, .int .u8 4]) w := fun _ => by kernel_rfl

theorem and16 (n : Int) : bits .and .i64 n 16 = if fB n then 16 else 0 := by
  have := and_p n 4 (by decide); unfold fB; simp at this ⊢; rw [this]; split <;> omega
theorem and32 (n : Int) : bits .and .i64 n 32 = if fS n then 32 else 0 := by
  have := and_p n 5 (by decide); unfold fS; simp at this ⊢; rw [this]; split <;> omega
theorem bor_00 : bits .or .u8 0 1 = 1 := by decide +kernel
theorem bor_02 : bits .or .u8 0 2 = 2 := by decide +kernel
theorem bor_12 : bits .or .u8 1 2 = 3 := by decide +kernel
theorem bor_04 : bits .or .u8 0 4 = 4 := by decide +kernel
theorem bor_14 : bits .or .u8 1 4 = 5 := by decide +kernel
theorem bor_24 : bits .or .u8 2 4 = 6 := by decide +kernel
theorem bor_34 : bits .or .u8 3 4 = 7 := by decide +kernel
theorem mark_eq {n : Int} {b s d : Bool} (hb : fB n = b) (hs : fS n = s) (hd : fD n = d) : markN n = b01 b + 2 * b01 s + 4 * b01 d := by unfold markN; rw [hb, hs, hd]

set_option maxHeartbeats 4000000 in
theorem marksOf_any (n : Int) (w : World) (hT : TabW w) :
    Calls Tryd.prog 24 #[.int .i64 n] w fun e w' => e = .returned (.int .u8 (markN n)) ∧ Below w.heap.size w w' := by
  obtain ⟨t, fr, hg⟩ := hT
  have HG := Lib.hid hg
  clear hg
  have m0 := wmark_0
  have m1 := wmark_1
  have m2 := wmark_2
  have o1 := bor_00
  have o2 := bor_02
  have o3 := bor_12
  have o4 := bor_04
  have o5 := bor_14
  have o6 := bor_24
  have o7 := bor_34
  have a16 := and16 n
  have a32 := and32 n
  have a8 := and8 n
  cases hb : fB n <;> cases hs : fS n <;> cases hd : fD n
  all_goals
    have HM := Lib.hid (mark_eq hb hs hd)
    rw [hb] at a16
    rw [hs] at a32
    rw [hd] at a8
    clear hb hs hd
    simp only [if_true, Bool.false_eq_true, if_false] at a16 a32 a8
    go_enter Tryd.func24, Tryd.ntmps24
    go_wp2_with (refine wpList_load_row rfl 73 _ rfl 1 rfl t wmCells fr _ HG.out Tryd.underlying73 rfl (by kernel_rfl) ?_)
    refine wp_loop_rounds 4 ?_
    iterate 4 (rw [rounds_succ]; go_wp2_with fail)
    go_ret
    exact ⟨fret_int (by rw [HM.out]; decide +kernel), (((Below.refl _ _).alloc (Nat.le_refl _) _).alloc (by simp) _).alloc (by simp; omega) _⟩

/-- what a byte of marks says of flags -/
def flagN (b : Int) : Int := 16 * b01 (fE b) + 32 * b01 (fR b) + 8 * b01 (fX b)
theorem u8_and (W : Int) (i : Nat) (hi : i < 8) (h0 : 0 ≤ W) (h1 : W < 256) : bits .and .u8 W ((2 ^ i : Nat) : Int) = ((W.toNat / 2 ^ i % 2 * 2 ^ i : Nat) : Int) := by
  have hp : 2 ^ i < 2 ^ 8 := Nat.pow_lt_pow_right (by decide) hi
  have e1 : (BitVec.ofInt 8 W).toNat = W.toNat := by rw [BitVec.toNat_ofInt]; omega
  have e2 : (BitVec.ofInt 8 ((2 ^ i : Nat) : Int)).toNat = 2 ^ i := by rw [BitVec.ofInt_natCast, BitVec.toNat_ofNat]; exact Nat.mod_eq_of_lt (by omega)
  have hle : W.toNat / 2 ^ i % 2 * 2 ^ i ≤ 2 ^ i := by
    rcases Nat.mod_two_eq_zero_or_one (W.toNat / 2 ^ i) with h | h <;> simp [h]
  show IntKind.u8.wrap (((BitVec.ofInt 8 W) &&& (BitVec.ofInt 8 ((2 ^ i : Nat) : Int))).toNat : Int) = _
  rw [BitVec.toNat_and, e1, e2, nat_and_pow, IntKind.wrap_u8]
  omega
theorem band1 {b : Int} (h0 : 0 ≤ b) (h1 : b < 256) : bits .and .u8 b 1 = if fE b then 1 else 0 := by
  have := u8_and b 0 (by decide) h0 h1; unfold fE; simp at this ⊢; rw [this]; split <;> omega
theorem band2 {b : Int} (h0 : 0 ≤ b) (h1 : b < 256) : bits .and .u8 b 2 = if fR b then 2 else 0 := by
  have := u8_and b 1 (by decide) h0 h1; unfold fR; simp at this ⊢; rw [this]; split <;> omega
theorem band4 {b : Int} (h0 : 0 ≤ b) (h1 : b < 256) : bits .and .u8 b 4 = if fX b then 4 else 0 := by
  have := u8_and b 2 (by decide) h0 h1; unfold fX; simp at this ⊢; rw [this]; split <;> omega
theorem oj1 : bits .or .i64 0 16 = 16 := by decide +kernel
theorem oj2 : bits .or .i64 0 32 = 32 := by decide +kernel
theorem oj3 : bits .or .i64 16 32 = 48 := by decide +kernel
theorem oj4 : bits .or .i64 0 8 = 8 := by decide +kernel
theorem oj5 : bits .or .i64 16 8 = 24 := by decide +kernel
theorem oj6 : bits .or .i64 32 8 = 40 := by decide +kernel
theorem oj7 : bits .or .i64 48 8 = 56 := by decide +kernel
theorem flag_eq {n : Int} {b s d : Bool} (hb : fE n = b) (hs : fR n = s) (hd : fX n = d) : flagN n = 16 * b01 b + 32 * b01 s + 8 * b01 d := by unfold flagN; rw [hb, hs, hd]

set_option maxHeartbeats 4000000 in
theorem flagsOf_any (n : Int) (h0 : 0 ≤ n) (h1 : n < 256) (w : World) (hT : TabW w) :
    Calls Tryd.prog 47 #[.int .u8 n] w fun e w' => e = .returned (.int .i64 (flagN n)) ∧ Below w.heap.size w w' := by
  obtain ⟨t, fr, hg⟩ := hT
  have HG := Lib.hid hg
  clear hg
  have m0 := wmark_0
  have m1 := wmark_1
  have m2 := wmark_2
  have o1 := oj1
  have o2 := oj2
  have o3 := oj3
  have o4 := oj4
  have o5 := oj5
  have o6 := oj6
  have o7 := oj7
  have a16 := band1 h0 h1
  have a32 := band2 h0 h1
  have a8 := band4 h0 h1
  cases hb : fE n <;> cases hs : fR n <;> cases hd : fX n
  all_goals
    have HM := Lib.hid (flag_eq hb hs hd)
    rw [hb] at a16
    rw [hs] at a32
    rw [hd] at a8
    clear hb hs hd
    simp only [if_true, Bool.false_eq_true, if_false] at a16 a32 a8
    go_enter Tryd.func47, Tryd.ntmps47
    go_wp2_with (refine wpList_load_row rfl 73 _ rfl 1 rfl t wmCells fr _ HG.out Tryd.underlying73 rfl (by kernel_rfl) ?_)
    refine wp_loop_rounds 4 ?_
    iterate 4 (rw [rounds_succ]; go_wp2_with fail)
    go_ret
    exact ⟨fret_int (by rw [HM.out]; decide +kernel), (((Below.refl _ _).alloc (Nat.le_refl _) _).alloc (by simp) _).alloc (by simp; omega) _⟩

/-! ### Long, zero -/
def longN (s : ByteArray) : Int := if s.size < 6 then 0 else if fX (bt s 5) then 72 else 16
set_option maxHeartbeats 1000000 in
theorem long_v {s : ByteArray} {v : Int} (hv : longN s = v) (hs : s.size ≤ maxLen) (w : World) :
    Calls Tryd.prog 14 #[.string s] w fun e w' => e = .returned (.int .i64 v) ∧ w = w' := by
  subst hv
  unfold maxLen at hs
  unfold longN
  by_cases h5 : s.size ≤ 5
  · rw [if_pos (by omega)]
    go_enter Tryd.func14, Tryd.ntmps14
    go_wp2
    go_ret
    exact ⟨rfl, rfl⟩
  · rw [if_neg (by omega)]
    have h6 : 5 < s.size := by omega
    have hb := bt_eq s 5 h6
    have hl := bt_lt s 5
    have h4 := band4 hl.1 hl.2
    rw [← hb] at h4
    clear hl
    rw [← hb]
    clear hb h5
    cases hx : fX ((s[5]'h6).toNat : Int)
    all_goals
      rw [hx] at h4
      simp only [if_true, Bool.false_eq_true, if_false] at h4 ⊢
      clear hx
      go_enter Tryd.func14, Tryd.ntmps14
      go_wp2
      go_ret
      exact ⟨rfl, rfl⟩
theorem index_bt {t : TypeId} {s : ByteArray} {k : Nat} (ht : Tryd.prog.underlying t = some .string) (hk : k < s.size) (w : World) : (Instr.index t (.string s) (.int .i64 k)).run Tryd.prog w = .ok (.int .u8 (bt s k)) w := by
  rw [← bt_eq s k hk]
  simp [go_sem, ht, hk]
set_option maxHeartbeats 1000000 in
theorem rlong_v {s : ByteArray} {v : Int} (hv : longN s = v) (hs : s.size ≤ maxLen) (w : World) :
    Calls Tryd.prog 15 #[.string s] w fun e w' => e = .returned (.int .i64 v) ∧ w = w' := by
  subst hv
  unfold maxLen at hs
  unfold longN
  by_cases h5 : s.size < 6
  · rw [if_pos h5]
    go_enter Tryd.func15, Tryd.ntmps15
    go_wp2
    go_ret
    exact ⟨rfl, rfl⟩
  · rw [if_neg h5]
    have h6 : 5 < s.size := by omega
    have hi : ∀ w, (Instr.index 9 (.string s) (.int .i64 5)).run Tryd.prog w = .ok (.int .u8 (bt s 5)) w := index_bt Tryd.underlying9 h6
    have hx0 := (bt_lt s 5).1
    have hx1 := (bt_lt s 5).2
    clear h5
    generalize bt s 5 = x at hi hx0 hx1 ⊢
    cases hx : fX x
    · have h4 : (x / 4 % 2 == 1) = false := by unfold fX at hx; simp at hx; simp; omega
      simp only [Bool.false_eq_true, if_false]
      clear hx
      go_enter Tryd.func15, Tryd.ntmps15
      go_wp2
      go_ret
      exact ⟨rfl, rfl⟩
    · have h4 : (x / 4 % 2 == 1) = true := by unfold fX at hx; simp at hx; simp; omega
      simp only [if_true]
      clear hx
      go_enter Tryd.func15, Tryd.ntmps15
      go_wp2
      go_ret
      exact ⟨rfl, rfl⟩

theorem zeroB_v {s : ByteArray} {a b : Nat} (k : Nat) (h1 : a ≤ k) (h2 : k < b) (h : bt s k ≠ 0) : zeroB s a b = false := by
  cases hz : zeroB s a b
  · rfl
  · exact absurd ((zeroB_iff s a b).1 hz k h1 h2) h
theorem zeroB_all {s : ByteArray} {a b : Nat} (h : ∀ k, a ≤ k → k < b → bt s k = 0) : zeroB s a b = true := (zeroB_iff s a b).2 h
set_option maxHeartbeats 1000000 in
theorem rzero_any (s : ByteArray) (a b : Nat) (hab : b ≤ s.size) (hs : s.size ≤ maxLen) (ha : a ≤ maxLen) (w : World) :
    Calls Tryd.prog 32 #[.string s, .int .i64 a, .int .i64 b] w fun e w' => e = .returned (.bool (zeroB s a b)) ∧ w = w' := by
  unfold maxLen at hs ha
  go_enter Tryd.func32, Tryd.ntmps32
  go_wp2
  go_loop [7] (fun i => ∃ k : Nat, a ≤ k ∧ (k ≤ b ∨ k = a) ∧ i = .int .i64 k ∧ (∀ j, a ≤ j → j < k → bt s j = 0)) (fun i => b - (intOf i).toNat)
  case atStart => exact ⟨a, Nat.le_refl _, .inr rfl, rfl, fun j h1 h2 => by omega⟩
  case round =>
    obtain ⟨k, hk1, hk2, rfl, hz⟩ := hrel
    by_cases hlt : k < b
    · have hks : k < s.size := by omega
      have hb := bt_eq s k hks
      by_cases h0 : bt s k = 0
      · have hc : (((s[k]'hks).toNat : Int) == 0) = true := by rw [hb, h0]; rfl
        have hc' : (((s[k]'hks).toNat : Int) != 0) = false := by rw [hb, h0]; rfl
        have HZ : Hid (∀ j, a ≤ j → j < k + 1 → bt s j = 0) := Lib.hid (fun j h1 h2 => by
          by_cases e : j = k
          · subst e; exact h0
          · exact hz j h1 (by omega))
        clear hz hb h0
        go_wp2
        go_round
        case rel => exact ⟨k + 1, by omega, by omega, by go_num, HZ.out⟩
        case measure => simp [intOf]; omega
      · have hc : (((s[k]'hks).toNat : Int) == 0) = false := by rw [hb]; simpa using h0
        have hc' : (((s[k]'hks).toNat : Int) != 0) = true := by rw [hb]; simpa using h0
        have HZ := Lib.hid (zeroB_v k hk1 hlt h0)
        clear hz hb h0
        go_wp2
        go_ret
        exact ⟨fret_bool HZ.out.symm, rfl⟩
    · have HZ : Hid (zeroB s a b = true) := Lib.hid (zeroB_all fun j h1 h2 => hz j h1 (by omega))
      clear hz
      go_wp2
      go_ret
      exact ⟨fret_bool HZ.out.symm, rfl⟩

end Go.Proofs.YtimlaopmhcipmaaDoor
