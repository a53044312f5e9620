/- Bus: the walk of BusNil, over the code itself. -/
import Derived.Test.YtpgfifacfkllfaaDoorZbe
import Derived.Test.YtpgfifacfkllfaaDoorZan
namespace Go.Proofs.YtpgfifacfkllfaaDoor
open Go.RowKit
set_option linter.unusedVariables false

theorem busNil_real (node : Int) (i n l : Int) (d : ByteArray) (wn : (Lit.int .i64 node).wf = true) (wi : (Lit.int .i64 i).wf = true) (wk : (Lit.int .i64 n).wf = true) (wl : (Lit.int .i64 l).wf = true) (_ : d.size ≤ maxLen) (w : World) (hT : Tabs w) :
    Calls Tryd.prog 7 #[.int .i64 node, .agg #[.int .i64 i, .int .i64 n, .int .i64 l, .string d]] w fun e w' => e = .returned (.bool true) ∧ Below w.heap.size w w' := busNil_walk busReal busNone node i n l d wn wi wk wl w hT
end Go.Proofs.YtpgfifacfkllfaaDoor
