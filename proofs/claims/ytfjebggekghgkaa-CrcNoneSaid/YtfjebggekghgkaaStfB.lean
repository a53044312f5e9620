/- Stuff: contracts of the document's Turn, Stuff, Run, Unstuff. -/
import Derived.Test.YtfjebggekghgkaaStfA
namespace Go.Proofs.Ytfjebggekghgkaa
open Go.RowKit
set_option linter.unusedVariables false

theorem isBy_bits {L : List Int} (h : bitsB L = true) : isBy L := fun x hx => by
  have := (isBit_iff x).1 ((List.all_eq_true.1 h) x hx)
  omega
theorem fret_str {a b : ByteArray} (h : a = b) : Ending.returned (.string a) = .returned (.string b) := by rw [h]

end Go.Proofs.Ytfjebggekghgkaa
