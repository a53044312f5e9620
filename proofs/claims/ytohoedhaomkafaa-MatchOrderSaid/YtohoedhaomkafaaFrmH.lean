/- Frame: the contract of the document's Right, at flags that may be: errors, Fd. -/
import Derived.Test.YtohoedhaomkafaaFrmG
namespace Go.Proofs.Ytohoedhaomkafaa
open Go.RowKit
set_option linter.unusedVariables false

def resA (l : Int) (sz : Nat) : Bool := decide (l = 8) && resD false l sz
def resB (e : Bool) (i l : Int) (sz : Nat) : Bool := (e || decide (i ≤ 2047)) && isLen l && resD false l sz

theorem isLen_lo {l : Int} (h : l < 0) : isLen l = false := by
  unfold isLen codeN; simp; repeat (rw [if_neg (by omega)])
  decide
theorem isLen_hi {l : Int} (h : 64 < l) : isLen l = false := by
  unfold isLen codeN; simp; repeat (rw [if_neg (by omega)])
  decide

end Go.Proofs.Ytohoedhaomkafaa
