/- Octet: contracts of Put and Get. -/
import Derived.Test.YtfjebggekghgkaaOctA
import Derived.Laws.BytesArg
import Derived.LoopTactic
import Derived.LoopN
namespace Go.Proofs.Ytfjebggekghgkaa
open Go.RowKit
set_option linter.unusedVariables false

/-- byte k of a string, as a number; none: 0 -/
def bt (s : ByteArray) (k : Nat) : Int := ((s.data.toList[k]?.getD 0).toNat : Int)
/-- the number of the four bytes from k on -/
def num4 (s : ByteArray) (k : Nat) : Int := bt s k + 256 * bt s (k + 1) + 65536 * bt s (k + 2) + 16777216 * bt s (k + 3)

theorem conv4 (w : World) (a b c d : Int) :
    (convert 39 9 (.slice (some ⟨w.heap.size, 0, none⟩) 4 4)).run Try.prog (w.alloc (.cells #[.int .u8 a, .int .u8 b, .int .u8 c, .int .u8 d] 5)) = .ok (.string (strOfNums [a, b, c, d])) (w.alloc (.cells #[.int .u8 a, .int .u8 b, .int .u8 c, .int .u8 d] 5)) := by
  refine run_convert_bytes_arg _ 39 5 Try.underlying39 Try.underlying5 _ 0 4 4 [a, b, c, d] rfl (fun i hi => ?_) 9 Try.underlying9
  rw [Nat.zero_add, World.cell?_alloc_at _ _ _ _ rfl]
  rcases (show i = 0 ∨ i = 1 ∨ i = 2 ∨ i = 3 by omega) with rfl | rfl | rfl | rfl <;> rfl

theorem bt_lt (s : ByteArray) (k : Nat) : 0 ≤ bt s k ∧ bt s k < 256 := by unfold bt; have := UInt8.toNat_lt (s.data.toList[k]?.getD 0); omega
theorem bt_eq (s : ByteArray) (k : Nat) (h : k < s.size) : ((s[k]'h).toNat : Int) = bt s k := by
  unfold bt
  rw [List.getElem?_eq_getElem (by simpa using h)]
  rfl
theorem num4_lt (s : ByteArray) (k : Nat) : 0 ≤ num4 s k ∧ num4 s k ≤ 4294967295 := by
  unfold num4; have h0 := bt_lt s k; have h1 := bt_lt s (k + 1); have h2 := bt_lt s (k + 2); have h3 := bt_lt s (k + 3); omega

theorem wraps_u32 (n : Int) (h₀ : 0 ≤ n) (h₁ : n < 2 ^ 32) : IntKind.u32.wrap n = n := by rw [IntKind.wrap_u32']; omega
theorem or32 (i : Nat) (x y : Int) (hx0 : 0 ≤ x) (hx : x < 2 ^ i) (hx1 : x < 2 ^ 32) (hy0 : 0 ≤ y) (hy : y % 2 ^ i = 0) (hy1 : y < 2 ^ 32) : bits .or .u32 x y = x + y := by
  have hc : bits .or .u32 x y = bits .or .u32 y x := by simp only [bits, BitVec.or_comm]
  rw [hc, bits_join .u32 32 (by decide) wraps_u32 i y x hy0 hy hy1 hx0 hx hx1, Int.add_comm]
theorem or_all (a b c d : Int) (ha : 0 ≤ a ∧ a < 256) (hb : 0 ≤ b ∧ b < 256) (hc : 0 ≤ c ∧ c < 256) (hd : 0 ≤ d ∧ d < 256) :
    bits BinOp.or IntKind.u32 (bits BinOp.or IntKind.u32 (bits BinOp.or IntKind.u32 (bits BinOp.or IntKind.u32 0 (a % 4294967296)) (b % 4294967296 * 256 % 4294967296)) (c % 4294967296 * 65536 % 4294967296)) (d % 4294967296 * 16777216 % 4294967296) = a + 256 * b + 65536 * c + 16777216 * d := by
  have e1 : a % 4294967296 = a := by omega
  have e2 : b % 4294967296 * 256 % 4294967296 = 256 * b := by omega
  have e3 : c % 4294967296 * 65536 % 4294967296 = 65536 * c := by omega
  have e4 : d % 4294967296 * 16777216 % 4294967296 = 16777216 * d := by omega
  rw [e1, e2, e3, e4, or32 0 0 a (by omega) (by omega) (by omega) (by omega) (by omega) (by omega), Int.zero_add,
    or32 8 a (256 * b) (by omega) (by omega) (by omega) (by omega) (by omega) (by omega),
    or32 16 (a + 256 * b) (65536 * c) (by omega) (by omega) (by omega) (by omega) (by omega) (by omega),
    or32 24 (a + 256 * b + 65536 * c) (16777216 * d) (by omega) (by omega) (by omega) (by omega) (by omega) (by omega)]

end Go.Proofs.Ytfjebggekghgkaa
