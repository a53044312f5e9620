/- Bus: the walk of BusLeast, over the code itself. -/
import Derived.Test.YtpgfifacfkllfaaDoorZbe
import Derived.Test.YtpgfifacfkllfaaDoorZaw
namespace Go.Proofs.YtpgfifacfkllfaaDoor
open Go.RowKit
set_option linter.unusedVariables false

theorem busLeast_real (nodes back : Int) (a : Option Addr) (len cap : Nat) (F : Nat → List Value) (w : World) (wn : (Lit.int .i64 nodes).wf = true) (wb : (Lit.int .i64 back).wf = true) (hr : IsRowOf w op6Sh a len cap F) (hT : Tabs w) :
    Calls Tryd.prog 4 #[.int .i64 nodes, .int .i64 back, .slice a len cap] w fun e w' => e = .returned (.bool true) ∧ Below w.heap.size w w' := busLeast_walk busReal nodes back a len cap F w wn wb hr hT
end Go.Proofs.YtpgfifacfkllfaaDoor
