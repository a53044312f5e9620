/- Frame: the contract of the document's Right, at flags that may be. -/
import Derived.Test.YtohoedhaomkafaaFrmE
namespace Go.Proofs.Ytohoedhaomkafaa
open Go.RowKit
set_option linter.unusedVariables false

def resD (r : Bool) (l : Int) (sz : Nat) : Bool := if r then decide (sz = 0) else decide ((sz : Int) = l)
def resC (e r : Bool) (i l : Int) (sz : Nat) : Bool := (e || decide (i ≤ 2047)) && (decide (0 ≤ l) && decide (l ≤ 8)) && resD r l sz
theorem resD_t (l : Int) (d : ByteArray) : d.toList.isEmpty = resD true l d.size := nilB d
theorem resD_f (l : Int) (d : ByteArray) : ((d.size : Int) == l) = resD false l d.size := by unfold resD; rw [Bool.eq_iff_iff]; simp

end Go.Proofs.Ytohoedhaomkafaa
