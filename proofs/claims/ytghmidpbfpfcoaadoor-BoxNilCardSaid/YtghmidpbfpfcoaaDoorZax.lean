/- Box: the walk of BoxNil, over the code itself. -/
import Derived.Test.YtghmidpbfpfcoaaDoorZaw
import Derived.Test.YtghmidpbfpfcoaaDoorZan
namespace Go.Proofs.YtghmidpbfpfcoaaDoor
open Go.RowKit
set_option linter.unusedVariables false

theorem boxNil_real (i n l : Int) (d : ByteArray) (fr tag : Int) (lp : Bool) (m : Int) (_ : (Lit.int .i64 i).wf = true) (_ : (Lit.int .i64 n).wf = true) (_ : (Lit.int .i64 l).wf = true) (_ : d.size ≤ maxLen) (_ : (Lit.int .i64 fr).wf = true) (_ : (Lit.int .i64 tag).wf = true) (_ : (Lit.int .i64 m).wf = true) (w : World) (hT : Tabs w) :
    Calls Tryd.prog 5 #[.agg #[.int .i64 i, .int .i64 n, .int .i64 l, .string d, .int .i64 fr, .int .i64 tag, .bool lp], .int .i64 m] w fun e w' => e = .returned (.bool true) ∧ Below w.heap.size w w' := boxNil_walk boxReal kxnil ⟨⟨i, n, l, d⟩, fr, tag, lp⟩ m w hT
end Go.Proofs.YtghmidpbfpfcoaaDoor
