/- Octet: contracts of Unhex (octet): at digits, and else. -/
import Derived.Test.YtfjebggekghgkaaOctB
import Derived.Test.YtfjebggekghgkaaGen
import Derived.LoopTactic
namespace Go.Proofs.Ytfjebggekghgkaa
open Go.RowKit
set_option linter.unusedVariables false

/-- the worth of byte k of s, as a digit -/
def dg (s : ByteArray) (k : Nat) : Int := dig (bt s k)
/-- the i-th byte that the digits of s make -/
def unb (s : ByteArray) (i : Nat) : Int := 16 * dg s (2 * i) + dg s (2 * i + 1)
def unl (s : ByteArray) (n : Nat) : List Int := (List.range n).map (unb s)
/-- the first k bytes of s are digits -/
def isdig (s : ByteArray) (k : Nat) : Prop := ∀ i, i < k → dg s i < 16

theorem unl_succ (s : ByteArray) (n : Nat) : unl s (n + 1) = unl s n ++ [unb s n] := by simp [unl, List.range_succ]
theorem unl_len (s : ByteArray) (n : Nat) : (unl s n).length = n := by simp [unl]

theorem wraps_i64p (n : Int) (h₀ : 0 ≤ n) (h₁ : n < 2 ^ 63) : IntKind.i64.wrap n = n := by rw [IntKind.wrap_i64]; omega
theorem or_dig (a b : Int) (ha : 0 ≤ a ∧ a < 16) (hb : 0 ≤ b ∧ b < 16) : bits BinOp.or IntKind.i64 (a * 16) b = 16 * a + b := by
  rw [bits_join .i64 63 (by decide) wraps_i64p 4 (a * 16) b (by omega) (by omega) (by omega) (by omega) (by omega) (by omega)]; omega

/-- what Unhex holds at the head of a round -/
def unRel (B : Nat) (s : ByteArray) (w : World) (high half v : Value) (wr : World) : Prop :=
  ∃ pos : Nat, pos ≤ s.size ∧ isdig s pos ∧ wr.heap[B + 1]? = some (.stringIter s pos) ∧ Below B w wr ∧
    half = .bool (decide (pos % 2 = 1)) ∧ (pos % 2 = 1 → high = .int .i64 (dg s (pos - 1))) ∧ (∃ h, high = .int .i64 h) ∧
    wr.ownsRow B 5 1 v (pos / 2) ((unl s (pos / 2)).map (Value.int .u8))


def unOk (s : ByteArray) : Prop := isdig s s.size ∧ s.size % 2 = 0
def UnPost (s : ByteArray) (w : World) (e : Ending) (w' : World) : Prop :=
  ((unOk s ∧ e = .returned (.tuple #[.string (strOfNums (unl s (s.size / 2))), .bool true])) ∨ (¬ unOk s ∧ e = .returned (.tuple #[.string ⟨#[]⟩, .bool false]))) ∧ Below w.heap.size w w'

theorem dg_bd (s : ByteArray) (k : Nat) : 0 ≤ dg s k ∧ dg s k ≤ 16 := dig_bd _
theorem bt_of_dg {s : ByteArray} {k : Nat} (h : dg s k < 16) : (48 ≤ bt s k ∧ bt s k ≤ 57) ∨ (65 ≤ bt s k ∧ bt s k ≤ 70) ∨ (97 ≤ bt s k ∧ bt s k ≤ 102) := by
  have := fun h => dig_no (r := bt s k) h
  unfold dg at h
  omega
theorem bt_of_no {s : ByteArray} {k : Nat} (h : ¬ dg s k < 16) : bt s k < 48 ∨ (57 < bt s k ∧ bt s k < 65) ∨ (70 < bt s k ∧ bt s k < 97) ∨ 102 < bt s k := by
  have h0 := fun h => dig_0 (r := bt s k) h
  have h1 := fun h => dig_A (r := bt s k) h
  have h2 := fun h => dig_a (r := bt s k) h
  unfold dg at h
  omega

theorem next_dg (s : ByteArray) (pos k : Nat) (wr : World) (hp : pos < s.size) (h : dg s pos < 16) (hit : wr.heap[k]? = some (.stringIter s pos)) (ty : TypeId) :
    (Instr.next (.pointer (some ⟨k, 0, none⟩)) true ty).run Try.prog wr = .ok (.tuple #[.bool true, .int .i64 pos, .int .i32 (bt s pos)]) (wr.iterAt k s (pos + 1)) := by
  have hb := bt_of_dg h
  rw [← bt_eq s pos hp] at hb ⊢
  exact Lib.run_next_ascii_at wr k s pos ty hit hp (by omega)

/-- at a byte that is no digit the next rune is none either -/
theorem next_no (s : ByteArray) (pos k : Nat) (wr : World) (hp : pos < s.size) (h : ¬ dg s pos < 16) (hit : wr.heap[k]? = some (.stringIter s pos)) :
    ∃ (r : Int) (d : Nat), (r < 48 ∨ (57 < r ∧ r < 65) ∨ (70 < r ∧ r < 97) ∨ 102 < r) ∧
      ∀ ty, (Instr.next (.pointer (some ⟨k, 0, none⟩)) true ty).run Try.prog wr = .ok (.tuple #[.bool true, .int .i64 pos, .int .i32 r]) (wr.iterAt k s (pos + d)) := by
  refine ⟨_, _, ?_, fun ty => Lib.run_next_any_at wr k s pos ty hit hp⟩
  by_cases ha : (s[pos]'hp).toNat < 128
  · rw [decode_ascii s pos hp ha]
    have := bt_of_no h
    rw [← bt_eq s pos hp] at this
    exact this
  · have := (decode_high s pos hp (by omega)).1
    omega

theorem un_step0 {B : Nat} {s : ByteArray} {w wr : World} {pos : Nat} {v half : Value} (hp : pos < s.size) (hd : isdig s pos) (h : dg s pos < 16) (h2 : ¬ pos % 2 = 1)
    (hit : wr.heap[B + 1]? = some (.stringIter s pos)) (hB : Below B w wr) (hown : wr.ownsRow B 5 1 v (pos / 2) ((unl s (pos / 2)).map (Value.int .u8))) :
    unRel B s w (.int .i64 (dg s pos)) (.bool true) v (wr.iterAt (B + 1) s (pos + 1)) := by
  refine ⟨pos + 1, by omega, fun i hi => ?_, Lib.iterAt_heap _ _ _ _ _ hit, Lib.below_iterAt hB (by omega) _ _, ?_, fun _ => ?_, ⟨_, rfl⟩, ?_⟩
  · rcases Nat.lt_or_ge i pos with h' | h'
    · exact hd i h'
    · rw [show i = pos by omega]; exact h
  · rw [decide_eq_true (by omega)]
  · rw [Nat.add_sub_cancel]
  · rw [show (pos + 1) / 2 = pos / 2 by omega]
    exact own_iterAt hown hit _

theorem un_step1 {B : Nat} {s : ByteArray} {w wr w1 : World} {pos : Nat} {v v' : Value} {o : Obj} (hp : pos < s.size) (hd : isdig s pos) (h : dg s pos < 16) (h2 : pos % 2 = 1)
    (hit : wr.heap[B + 1]? = some (.stringIter s pos)) (hB : Below B w wr) (hsz : B + 1 < wr.heap.size) (hown : wr.ownsRow B 5 1 v (pos / 2) ((unl s (pos / 2)).map (Value.int .u8)))
    (hown1 : w1.ownsRow B 5 1 v' (pos / 2 + 1) ((unl s (pos / 2)).map (Value.int .u8) ++ [.int .u8 (16 * dg s (pos - 1) + dg s pos)]))
    (hgrow : ((wr.iterAt (B + 1) s (pos + 1)).alloc o).grownBy w1 v.ownBlock) :
    unRel B s w (.int .i64 (dg s pos)) (.bool false) v' w1 ∧ w1.heap[B + 1]? = some (.stringIter s (pos + 1)) := by
  have hit2 := Lib.iterAt_heap wr (B + 1) s pos (pos + 1) hit
  have hne := own_ne_iter hown hit
  have hit3 : w1.heap[B + 1]? = some (.stringIter s (pos + 1)) := by
    rw [hgrow.block (B + 1) (by simp [Lib.iterAt_size]; omega) hne, Below.heap_alloc _ _ _ (by rw [Lib.iterAt_size]; exact hsz)]
    exact hit2
  have hB2 := Lib.below_iterAt hB (k := B + 1) (by omega) s (pos + 1)
  refine ⟨⟨pos + 1, by omega, fun i hi => ?_, hit3, ?_, ?_, fun _ => ?_, ⟨_, rfl⟩, ?_⟩, hit3⟩
  · rcases Nat.lt_or_ge i pos with h' | h'
    · exact hd i h'
    · rw [show i = pos by omega]; exact h
  · refine (hB2.alloc (by rw [Lib.iterAt_size]; omega) o).grown hgrow (by simp [Lib.iterAt_size]; omega) (fun k hk => (hown.lt k hk).1)
  · rw [decide_eq_false (by omega)]
  · rw [Nat.add_sub_cancel]
  · rw [show (pos + 1) / 2 = pos / 2 + 1 by omega, unl_succ, List.map_append]
    have e : unb s (pos / 2) = 16 * dg s (pos - 1) + dg s pos := by
      unfold unb; rw [show 2 * (pos / 2) = pos - 1 by omega, show pos - 1 + 1 = pos by omega]
    rw [List.map_cons, List.map_nil, e]
    exact hown1

end Go.Proofs.Ytfjebggekghgkaa
