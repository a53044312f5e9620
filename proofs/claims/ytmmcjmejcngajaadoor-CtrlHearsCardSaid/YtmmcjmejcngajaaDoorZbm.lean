/- Ctrl: the walk of CtrlHears, over the code itself. -/
import Derived.Test.YtmmcjmejcngajaaDoorZbj
import Derived.Test.YtmmcjmejcngajaaDoorZba
namespace Go.Proofs.YtmmcjmejcngajaaDoor
open Go.RowKit
set_option linter.unusedVariables false

theorem ctrlHears_real (b0 b1 b2 b3 b4 b5 b6 : Int) (A : Option Addr) (n cp : Nat) (F0 : Nat → List Value) (a : Option Addr) (len cap : Nat) (F : Nat → List Value) (fetch : Int) (w : World) (_ : (Lit.int .i64 b0).wf = true) (_ : (Lit.int .i64 b1).wf = true) (_ : (Lit.int .i64 b2).wf = true) (_ : (Lit.int .i64 b3).wf = true) (_ : (Lit.int .i64 b4).wf = true) (_ : (Lit.int .i64 b5).wf = true) (_ : (Lit.int .i64 b6).wf = true) (hr0 : IsRowOf w cfSh A n cp F0) (hr : IsRowOf w frSc a len cap F) (wf : (Lit.int .i64 fetch).wf = true) (hT : Tabs w) :
    Calls Tryd.prog 3 #[cgV ⟨b0, b1, b2, b3, b4, b5, b6, A, n, cp⟩, .slice a len cap, .int .i64 fetch] w fun e w' => e = .returned (.bool true) ∧ Below w.heap.size w w' := ctrlHears_walk ctrlReal ⟨b0, b1, b2, b3, b4, b5, b6, A, n, cp⟩ F0 a len cap F fetch w hr0 hr wf hT
end Go.Proofs.YtmmcjmejcngajaaDoor
