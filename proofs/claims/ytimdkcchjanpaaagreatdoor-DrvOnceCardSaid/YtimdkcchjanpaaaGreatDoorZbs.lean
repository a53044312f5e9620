/- Drv: the walk of DrvOnce, over the code itself. -/
import Derived.Test.YtimdkcchjanpaaaGreatDoorZbf
import Derived.Test.YtimdkcchjanpaaaGreatDoorZbr
namespace Go.Proofs.YtimdkcchjanpaaaGreatDoor
open Go.RowKit
set_option linter.unusedVariables false
theorem drvOnce_real (b0 b1 b2 b3 b4 b5 b6:Int) (A:Option Addr) (n cp:Nat) (F0:Nat → List Value) (a:Option Addr) (len cap:Nat) (F:Nat → List Value) (w:World) (_:(Lit.int .i64 b0).wf = true) (_:(Lit.int .i64 b1).wf = true) (_:(Lit.int .i64 b2).wf = true) (_:(Lit.int .i64 b3).wf = true) (_:(Lit.int .i64 b4).wf = true) (_:(Lit.int .i64 b5).wf = true) (_:(Lit.int .i64 b6).wf = true) (hr0:IsRowOf w cfSh A n cp F0) (hr:IsRowOf w op9Sc a len cap F) (hT:Tabs w) :
    Calls Tryz.prog 3 #[cgV ⟨b0,b1,b2,b3,b4,b5,b6,A,n,cp⟩, .slice a len cap] w fun e w' => e = .returned (.bool true) ∧ Below w.heap.size w w':=drvOnce_walk drvReal ⟨b0,b1,b2,b3,b4,b5,b6,A,n,cp⟩ F0 a len cap F w hr0 hr hT
end Go.Proofs.YtimdkcchjanpaaaGreatDoor
