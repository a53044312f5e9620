/- Ctrl: the walk of CtrlNil, over the code itself. -/
import Derived.Test.YtmmcjmejcngajaaDoorZbj
import Derived.Test.YtmmcjmejcngajaaDoorZat
import Derived.Test.YtmmcjmejcngajaaDoorZbi
namespace Go.Proofs.YtmmcjmejcngajaaDoor
open Go.RowKit
set_option linter.unusedVariables false

theorem ctrlNil_real (i n l : Int) (d : ByteArray) (fr tag : Int) (lp : Bool) (_ : (Lit.int .i64 i).wf = true) (_ : (Lit.int .i64 n).wf = true) (_ : (Lit.int .i64 l).wf = true) (_ : d.size ≤ maxLen) (_ : (Lit.int .i64 fr).wf = true) (_ : (Lit.int .i64 tag).wf = true) (w : World)  (hT : Tabs w) :
    Calls Tryd.prog 5 #[.agg #[.int .i64 i, .int .i64 n, .int .i64 l, .string d, .int .i64 fr, .int .i64 tag, .bool lp]] w fun e w' => e = .returned (.bool true) ∧ Below w.heap.size w w' := ctrlNil_walk ctrlReal kknil ⟨⟨i, n, l, d⟩, fr, tag, lp⟩ w hT
end Go.Proofs.YtmmcjmejcngajaaDoor
