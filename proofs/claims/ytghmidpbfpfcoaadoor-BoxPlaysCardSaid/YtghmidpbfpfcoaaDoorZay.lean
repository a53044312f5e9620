/- Box: the walk of BoxPlays, over the code itself. -/
import Derived.Test.YtghmidpbfpfcoaaDoorZaw
import Derived.Test.YtghmidpbfpfcoaaDoorZaq
namespace Go.Proofs.YtghmidpbfpfcoaaDoor
open Go.RowKit
set_option linter.unusedVariables false

theorem boxPlays_real (many : Int) (a : Option Addr) (len cap : Nat) (F : Nat → List Value) (w : World) (wn : (Lit.int .i64 many).wf = true) (hr : IsRowOf w op9Sh a len cap F) (hT : Tabs w) :
    Calls Tryd.prog 3 #[.int .i64 many, .slice a len cap] w fun e w' => e = .returned (.bool true) ∧ Below w.heap.size w w' := boxPlays_walk boxReal many a len cap F w wn hr hT
end Go.Proofs.YtghmidpbfpfcoaaDoor
