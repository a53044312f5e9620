/- Frame: the walk of FrameRight. -/
import Derived.Test.YtimlaopmhcipmaaDoorFrmL
import Derived.OpenShut
namespace Go.Proofs.YtimlaopmhcipmaaDoor
open Go.RowKit
set_option linter.unusedVariables false

theorem Later.tabs {W : World} (n : Later W) (h : Tabs W) : Tabs n.w := h.below n.h

end Go.Proofs.YtimlaopmhcipmaaDoor
