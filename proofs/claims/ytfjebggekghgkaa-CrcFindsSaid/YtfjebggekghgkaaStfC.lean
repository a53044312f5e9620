/- Stuff: contracts of the document's Stuff, Run. -/
import Derived.Test.YtfjebggekghgkaaStfB
namespace Go.Proofs.Ytfjebggekghgkaa
open Go.RowKit
set_option linter.unusedVariables false

def stuffS (L : List Int) : ByteArray := if bitsB L then strOfNums (stuffL L) else ByteArray.mk #[]
theorem stuff_round {L : List Int} {x : Int} (h : bitsB L = true) : stuffL (L ++ [x]) = (if (tl (stuffL L ++ [x])).2 = 5 then (stuffL L ++ [x]) ++ [oth x] else stuffL L ++ [x]) := by
  rw [stuffL_snoc, tl_snoc, tl_stuff h]
  split <;> simp
theorem bits_take {L : List Int} (h : bitsB L = true) (k : Nat) : bitsB (L.take k) = true := by
  rw [← List.take_append_drop k L, bitsB_app, Bool.and_eq_true] at h
  exact h.1

end Go.Proofs.Ytfjebggekghgkaa
