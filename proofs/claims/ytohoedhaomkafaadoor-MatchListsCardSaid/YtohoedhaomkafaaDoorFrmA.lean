/- Frame: contracts of barred, top, one, Has, dataFit; the two tables. -/
import Derived.Test.YtohoedhaomkafaaDoorFrmM
import Derived.WalkSpells
import Derived.WalkLawsBesides
import Derived.BigQuiet
import Derived.Deep.QuietTactic
import Derived.Laws.Rows
import Derived.WalkSmall
namespace Go.Proofs.YtohoedhaomkafaaDoor
open Go.RowKit
set_option linter.unusedVariables false

theorem fret_two {k : IntKind} {a b : Int} {c d : Bool} (h : a = b) (h' : c = d) : Ending.returned (.tuple #[.int k a, .bool c]) = .returned (.tuple #[.int k b, .bool d]) := by rw [h, h']
theorem fret_int {k : IntKind} {a b : Int} (h : a = b) : Ending.returned (.int k a) = .returned (.int k b) := by rw [h]
theorem fret_bool {a b : Bool} (h : a = b) : Ending.returned (.bool a) = .returned (.bool b) := by rw [h]

/-! ### the tables -/
def lenCells : Array Value := #[.int .i64 0, .int .i64 1, .int .i64 2, .int .i64 3, .int .i64 4, .int .i64 5, .int .i64 6, .int .i64 7, .int .i64 8, .int .i64 12, .int .i64 16, .int .i64 20, .int .i64 24, .int .i64 32, .int .i64 48, .int .i64 64]
def markCells : Array Value := #[.int .i64 1, .int .u32 2147483648, .int .i64 2, .int .u32 1073741824, .int .i64 4, .int .u32 536870912]
theorem lt_of_heap {w : World} {k : Nat} {o : Obj} (h : w.heap[k]? = some o) : k < w.heap.size := (Array.getElem?_eq_some_iff.1 h).1
def TabL (w : World) : Prop := ∃ t fr, w.heap[1]? = some (.cells lenCells t fr)
def TabM (w : World) : Prop := ∃ t fr, w.heap[0]? = some (.cells markCells t fr)
theorem TabM.below {w w' : World} (h : TabM w) (hb : Below w.heap.size w w') : TabM w' := by obtain ⟨t, fr, h1⟩ := h; exact ⟨t, fr, by rw [hb.block _ (lt_of_heap h1)]; exact h1⟩
def Tabs (w : World) : Prop := TabL w ∧ TabM w
theorem Tabs.below {w w' : World} (h : Tabs w) (hb : Below w.heap.size w w') : Tabs w' := by
  obtain ⟨⟨t, fr, h1⟩, h2⟩ := h
  exact ⟨⟨t, fr, by rw [hb.block _ (lt_of_heap h1)]; exact h1⟩, h2.below hb⟩
theorem Tabs.alloc {w : World} (h : Tabs w) (o : Obj) : Tabs (w.alloc o) := h.below ((Below.refl _ _).alloc (Nat.le_refl _) o)
theorem Tabs.drew {w : World} (h : Tabs w) : Tabs w.drew := h
theorem Tabs.drewN {w : World} (h : Tabs w) (n : Nat) : Tabs (w.drewN n) := h
theorem Tabs.cell {w : World} (h : Tabs w) (i : Nat) : w.cell? ⟨1, i, none⟩ = lenCells[i]? := by
  obtain ⟨⟨t, fr, h1⟩, _⟩ := h
  exact cell_of_row _ _ _ _ _ _ h1

/-! ### barred, top, one -/
set_option maxHeartbeats 1000000 in
theorem barred_any (n : Int) (w : World) :
    Calls Tryd.prog 29 #[.int .i64 n] w fun e w' => e = .returned (.int .i64 (barN n)) ∧ w = w' := by
  unfold barN
  cases hX : fX n
  · have h4 := and4_f hX
    clear hX
    cases hD : fD n
    · have h8 := and8_f hD
      clear hD
      simp only [Bool.false_eq_true, if_false]
      go_enter Tryd.func29, Tryd.ntmps29
      go_wp2
      go_ret
      exact ⟨fret_int (by decide +kernel), rfl⟩
    · have h8 := and8_t hD
      clear hD
      simp only [Bool.false_eq_true, if_false, if_true]
      go_enter Tryd.func29, Tryd.ntmps29
      go_wp2
      go_ret
      exact ⟨fret_int (by decide +kernel), rfl⟩
  · have h4 := and4_t hX
    clear hX
    simp only [if_true]
    go_enter Tryd.func29, Tryd.ntmps29
    go_wp2
    go_ret
    exact ⟨fret_int (by decide +kernel), rfl⟩

theorem and5 (n : Int) : bits .and .i64 n 5 ≠ 0 ↔ (fE n || fX n) = true := by
  have e : (BitVec.ofInt 64 n).toNat &&& 5 = ((BitVec.ofInt 64 n).toNat &&& 1) ||| ((BitVec.ofInt 64 n).toNat &&& 4) := by
    rw [← Nat.and_or_distrib_left]; rfl
  have h1 := nat_and_pow (BitVec.ofInt 64 n).toNat 0
  have h4 := nat_and_pow (BitVec.ofInt 64 n).toNat 2
  have hv : bits .and .i64 n 5 = (((BitVec.ofInt 64 n).toNat &&& 5 : Nat) : Int) := by
    have hle : (BitVec.ofInt 64 n).toNat &&& 5 ≤ 5 := Nat.and_le_right
    show IntKind.i64.wrap (((BitVec.ofInt 64 n) &&& (BitVec.ofInt 64 5)).toNat : Int) = _
    rw [BitVec.toNat_and]
    show IntKind.i64.wrap (((BitVec.ofInt 64 n).toNat &&& 5 : Nat) : Int) = _
    rw [IntKind.wrap_i64]
    omega
  rw [hv, e]
  simp only [Nat.pow_zero, Nat.div_one, Nat.mul_one] at h1
  rw [h1, h4, ofInt_toNat]
  unfold fE fX
  simp only [Bool.or_eq_true, decide_eq_true_eq, ne_eq, Int.natCast_eq_zero, Nat.or_eq_zero_iff]
  omega

set_option maxHeartbeats 1000000 in
theorem top_any (n : Int) (w : World) :
    Calls Tryd.prog 30 #[.int .i64 n] w fun e w' => e = .returned (.int .i64 (topN n)) ∧ w = w' := by
  unfold topN
  have h5 := and5 n
  cases hq : (fE n || fX n)
  · have h0 : bits .and .i64 n 5 = 0 := Classical.byContradiction fun h => by have h6 := h5.1 h; rw [hq] at h6; cases h6
    clear h5 hq
    simp only [Bool.false_eq_true, if_false]
    go_enter Tryd.func30, Tryd.ntmps30
    go_wp2
    go_ret
    exact ⟨rfl, rfl⟩
  · have h0 : (bits .and .i64 n 5 != 0) = true := by rw [bne_iff_ne]; exact h5.2 hq
    clear h5 hq
    simp only [if_true]
    go_enter Tryd.func30, Tryd.ntmps30
    go_wp2
    go_ret
    exact ⟨rfl, rfl⟩

/-! ### dataFit -/
theorem nilB (d : ByteArray) : d.toList.isEmpty = decide (d.size = 0) := by
  rw [ByteArray.toList_eq]
  obtain ⟨⟨l⟩⟩ := d
  cases l <;> rfl

set_option maxHeartbeats 1000000 in
theorem dataFit_any (i n l : Int) (d : ByteArray) (w : World) :
    Calls Tryd.prog 32 #[.agg #[.int .i64 i, .int .i64 n, .int .i64 l, .string d]] w fun e w' => e = .returned (.bool (datOk n l d.size)) ∧ Below w.heap.size w w' := by
  unfold datOk
  cases hq : fR n
  · have h2 := and2_f hq
    clear hq
    simp only [Bool.false_eq_true, if_false]
    go_enter Tryd.func32, Tryd.ntmps32
    go_wp2
    go_ret
    exact ⟨fret_bool (by rw [Bool.eq_iff_iff]; simp), (Below.refl _ _).alloc (Nat.le_refl _) _⟩
  · have h2 := and2_t hq
    clear hq
    simp only [if_true]
    go_enter Tryd.func32, Tryd.ntmps32
    go_wp2
    go_ret
    exact ⟨fret_bool (nilB d), (Below.refl _ _).alloc (Nat.le_refl _) _⟩

end Go.Proofs.YtohoedhaomkafaaDoor
