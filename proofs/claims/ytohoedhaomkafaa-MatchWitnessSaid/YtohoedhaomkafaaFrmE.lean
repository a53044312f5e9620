/- Frame: contracts of the document's Has, Right. -/
import Derived.Test.YtohoedhaomkafaaFrmD
import Derived.Test.YtohoedhaomkafaaLater
namespace Go.Proofs.Ytohoedhaomkafaa
open Go.RowKit
set_option linter.unusedVariables false

end Go.Proofs.Ytohoedhaomkafaa
