/- Band: the walk of BandPlays, over the code itself. -/
import Derived.Test.YtpljlpfoalcfmaaZak
import Derived.Test.YtpljlpfoalcfmaaZap
namespace Go.Proofs.Ytpljlpfoalcfmaa
open Go.RowKit
set_option linter.unusedVariables false

theorem bandPlays_real (bands room : Int) (a : Option Addr) (len cap : Nat) (F : Nat → List Value) (w : World) (wb : (Lit.int .i64 bands).wf = true) (wr : (Lit.int .i64 room).wf = true) (hr : IsRowOf w opShB a len cap F) :
    Calls Try.prog 3 #[.int .i64 bands, .int .i64 room, .slice a len cap] w fun e w' => e = .returned (.bool true) ∧ Below w.heap.size w w' := bandPlays_walk bandReal bands room a len cap F w wb wr hr
end Go.Proofs.Ytpljlpfoalcfmaa
