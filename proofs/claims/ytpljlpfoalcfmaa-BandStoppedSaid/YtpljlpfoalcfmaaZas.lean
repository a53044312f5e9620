/- Band: the walk of BandStopped, over the code itself. -/
import Derived.Test.YtpljlpfoalcfmaaZak
import Derived.Test.YtpljlpfoalcfmaaZar
namespace Go.Proofs.Ytpljlpfoalcfmaa
open Go.RowKit
set_option linter.unusedVariables false

theorem bandStopped_real (bands room : Int) (a : Option Addr) (len cap : Nat) (F : Nat → List Value) (ask : Int) (w : World) (wb : (Lit.int .i64 bands).wf = true) (wr : (Lit.int .i64 room).wf = true) (hr : IsRowOf w opShB a len cap F) (wa : (Lit.int .i64 ask).wf = true) :
    Calls Try.prog 5 #[.int .i64 bands, .int .i64 room, .slice a len cap, .int .i64 ask] w fun e w' => e = .returned (.bool true) ∧ Below w.heap.size w w' := bandStopped_walk bandReal bands room a len cap F ask w wb wr hr wa
end Go.Proofs.Ytpljlpfoalcfmaa
