/- Box: the walk of BoxTurns, over the code itself. -/
import Derived.Test.YtghmidpbfpfcoaaDoorZaw
import Derived.Test.YtghmidpbfpfcoaaDoorZas
namespace Go.Proofs.YtghmidpbfpfcoaaDoor
open Go.RowKit
set_option linter.unusedVariables false

theorem boxTurns_real (a : Option Addr) (len cap : Nat) (F : Nat → List Value) (w : World) (hr : IsRowOf w pkSh a len cap F) (hT : Tabs w) :
    Calls Tryd.prog 4 #[.slice a len cap] w fun e w' => e = .returned (.bool true) ∧ Below w.heap.size w w' := boxTurns_walk boxReal a len cap F w hr hT
end Go.Proofs.YtghmidpbfpfcoaaDoor
