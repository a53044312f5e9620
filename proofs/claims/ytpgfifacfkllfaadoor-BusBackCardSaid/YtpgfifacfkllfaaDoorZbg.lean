/- Bus: the walk of BusBack, over the code itself. -/
import Derived.Test.YtpgfifacfkllfaaDoorZbe
import Derived.Test.YtpgfifacfkllfaaDoorZat
namespace Go.Proofs.YtpgfifacfkllfaaDoor
open Go.RowKit
set_option linter.unusedVariables false

theorem busBack_real (back late : Int) (wn : (Lit.int .i64 back).wf = true) (wl : (Lit.int .i64 late).wf = true) (w : World) (hT : Tabs w) :
    Calls Tryd.prog 6 #[.int .i64 back, .int .i64 late] w fun e w' => e = .returned (.bool true) ∧ Below w.heap.size w w' := busBack_walk busReal back late wn wl w hT
end Go.Proofs.YtpgfifacfkllfaaDoor
