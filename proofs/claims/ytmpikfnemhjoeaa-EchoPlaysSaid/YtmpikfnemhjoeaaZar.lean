/- Echo: the walk of EchoPlays, over the code itself. -/
import Derived.Test.YtmpikfnemhjoeaaZan
import Derived.Test.YtmpikfnemhjoeaaZaq
namespace Go.Proofs.Ytmpikfnemhjoeaa
open Go.RowKit
set_option linter.unusedVariables false

theorem echoPlays_real (many : Int) (a : Option Addr) (len cap : Nat) (F : Nat → List Value) (w : World) (wn : (Lit.int .i64 many).wf = true) (hr : IsRowOf w op9Sh a len cap F) :
    Calls Try.prog 3 #[.int .i64 many, .slice a len cap] w fun e w' => e = .returned (.bool true) ∧ Below w.heap.size w w' := echoPlays_walk echoReal many a len cap F w wn hr
end Go.Proofs.Ytmpikfnemhjoeaa
