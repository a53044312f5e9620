/- Stuff: the contract of the document's Unstuff. -/
import Derived.Test.YtfjebggekghgkaaStfC
namespace Go.Proofs.Ytfjebggekghgkaa
open Go.RowKit
set_option linter.unusedVariables false

theorem tl_le_len : ∀ (L : List Int) (p : Int × Nat), (L.foldl nxt p).2 ≤ p.2 + L.length
  | [], p => Nat.le_refl _
  | x :: L, p => by
    have h1 := tl_le_len L (nxt p x)
    have h2 := nxt_le p x
    simp only [List.foldl_cons, List.length_cons]
    omega
theorem nxt_new {p : Int × Nat} {x : Int} (h : x ≠ p.1) : nxt p x = (x, 1) := by unfold nxt; rw [if_neg h]
/-- the last one of some -/
theorem tl_take_last {s : ByteArray} {k : Nat} (h : k < s.size) : (tl ((byL s).take (k + 1))).1 = bt s k := by rw [byL_take h, tl_snoc]; rfl
/-- what is taken out so far is no longer than what was read -/
theorem unA_len : ∀ (T out : List Int) (p : Int × Nat) (i : Nat), (unA out p i T).1.length ≤ out.length + T.length
  | [], out, p, i => by simp only [unA]; split <;> simp
  | x :: T, out, p, i => by
    simp only [unA]
    split
    · simp
    · split
      · split
        · simp
        · have := unA_len T out (x, 1) (i + 1); simp only [List.length_cons]; omega
      · have := unA_len T (out ++ [x]) (nxt p x) (i + 1); simp only [List.length_append, List.length_cons, List.length_nil] at this ⊢; omega

def unstRel (s : ByteArray) (w : World) (R : List Int × Int) (v i : Value) (wr : World) : Prop :=
  ∃ (k : Nat) (O : List Int), k ≤ s.size ∧ i = .int .i64 k ∧ Hid (gathB w.heap.size w v O wr ∧ O.length ≤ k ∧ (tl ((byL s).take k)).2 ≤ 5 ∧ unA O (tl ((byL s).take k)) k ((byL s).drop k) = R)

end Go.Proofs.Ytfjebggekghgkaa
