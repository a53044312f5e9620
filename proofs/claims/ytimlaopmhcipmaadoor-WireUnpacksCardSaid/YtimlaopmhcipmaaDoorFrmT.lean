/- Frame: the walks of FrameKeys, FrameOrder. -/
import Derived.Test.YtimlaopmhcipmaaDoorFrmS
namespace Go.Proofs.YtimlaopmhcipmaaDoor
open Go.RowKit
set_option linter.unusedVariables false

end Go.Proofs.YtimlaopmhcipmaaDoor
