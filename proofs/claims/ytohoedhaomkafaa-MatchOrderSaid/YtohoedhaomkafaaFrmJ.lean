/- Frame: contracts of Word, and of the document's Word. -/
import Derived.Test.YtohoedhaomkafaaFrmI
namespace Go.Proofs.Ytohoedhaomkafaa
open Go.RowKit
set_option linter.unusedVariables false

def wordV (i n l : Int) (sz : Nat) : Int := if okF i n l sz then wordN i n else 0

end Go.Proofs.Ytohoedhaomkafaa
