/- Frame: contracts of barred, top, one, Has, dataFit; the two tables. -/
import Derived.Test.YtfjebggekghgkaaFrmM
import Derived.WalkSpells
import Derived.WalkLawsBesides
import Derived.BigQuiet
import Derived.Deep.QuietTactic
import Derived.Laws.Rows
import Derived.WalkSmall
namespace Go.Proofs.Ytfjebggekghgkaa
open Go.RowKit
set_option linter.unusedVariables false

theorem fret_two {k : IntKind} {a b : Int} {c d : Bool} (h : a = b) (h' : c = d) : Ending.returned (.tuple #[.int k a, .bool c]) = .returned (.tuple #[.int k b, .bool d]) := by rw [h, h']
theorem fret_int {k : IntKind} {a b : Int} (h : a = b) : Ending.returned (.int k a) = .returned (.int k b) := by rw [h]
theorem fret_bool {a b : Bool} (h : a = b) : Ending.returned (.bool a) = .returned (.bool b) := by rw [h]

/-! ### the tables -/
def lenCells : Array Value := #[.int .i64 0, .int .i64 1, .int .i64 2, .int .i64 3, .int .i64 4, .int .i64 5, .int .i64 6, .int .i64 7, .int .i64 8, .int .i64 12, .int .i64 16, .int .i64 20, .int .i64 24, .int .i64 32, .int .i64 48, .int .i64 64]
def markCells : Array Value := #[.int .i64 1, .int .u32 2147483648, .int .i64 2, .int .u32 1073741824, .int .i64 4, .int .u32 536870912]
theorem lt_of_heap {w : World} {k : Nat} {o : Obj} (h : w.heap[k]? = some o) : k < w.heap.size := (Array.getElem?_eq_some_iff.1 h).1
def TabM (w : World) : Prop := True
theorem TabM.below {w w' : World} (_h : TabM w) (_hb : Below w.heap.size w w') : TabM w' := trivial
/-! ### barred, top, one -/
theorem and5 (n : Int) : bits .and .i64 n 5 ≠ 0 ↔ (fE n || fX n) = true := by
  have e : (BitVec.ofInt 64 n).toNat &&& 5 = ((BitVec.ofInt 64 n).toNat &&& 1) ||| ((BitVec.ofInt 64 n).toNat &&& 4) := by
    rw [← Nat.and_or_distrib_left]; rfl
  have h1 := nat_and_pow (BitVec.ofInt 64 n).toNat 0
  have h4 := nat_and_pow (BitVec.ofInt 64 n).toNat 2
  have hv : bits .and .i64 n 5 = (((BitVec.ofInt 64 n).toNat &&& 5 : Nat) : Int) := by
    have hle : (BitVec.ofInt 64 n).toNat &&& 5 ≤ 5 := Nat.and_le_right
    show IntKind.i64.wrap (((BitVec.ofInt 64 n) &&& (BitVec.ofInt 64 5)).toNat : Int) = _
    rw [BitVec.toNat_and]
    show IntKind.i64.wrap (((BitVec.ofInt 64 n).toNat &&& 5 : Nat) : Int) = _
    rw [IntKind.wrap_i64]
    omega
  rw [hv, e]
  simp only [Nat.pow_zero, Nat.div_one, Nat.mul_one] at h1
  rw [h1, h4, ofInt_toNat]
  unfold fE fX
  simp only [Bool.or_eq_true, decide_eq_true_eq, ne_eq, Int.natCast_eq_zero, Nat.or_eq_zero_iff]
  omega

/-! ### dataFit -/
theorem nilB (d : ByteArray) : d.toList.isEmpty = decide (d.size = 0) := by
  rw [ByteArray.toList_eq]
  obtain ⟨⟨l⟩⟩ := d
  cases l <;> rfl

end Go.Proofs.Ytfjebggekghgkaa
