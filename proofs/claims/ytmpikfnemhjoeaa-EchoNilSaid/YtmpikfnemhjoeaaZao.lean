/- Echo: the walk of EchoNil, over the code itself. -/
import Derived.Test.YtmpikfnemhjoeaaZan
import Derived.Test.YtmpikfnemhjoeaaZah
namespace Go.Proofs.Ytmpikfnemhjoeaa
open Go.RowKit
set_option linter.unusedVariables false

theorem echoNil_real (m : Int) (i n l : Int) (d : ByteArray) (fr tag : Int) (lp : Bool) (_ : (Lit.int .i64 m).wf = true) (_ : (Lit.int .i64 i).wf = true) (_ : (Lit.int .i64 n).wf = true) (_ : (Lit.int .i64 l).wf = true) (_ : d.size ≤ maxLen) (_ : (Lit.int .i64 fr).wf = true) (_ : (Lit.int .i64 tag).wf = true) (w : World) :
    Calls Try.prog 5 #[.int .i64 m, .agg #[.int .i64 i, .int .i64 n, .int .i64 l, .string d, .int .i64 fr, .int .i64 tag, .bool lp]] w fun e w' => e = .returned (.bool true) ∧ Below w.heap.size w w' := echoNil_walk echoReal kenil m ⟨⟨i, n, l, d⟩, fr, tag, lp⟩ w
end Go.Proofs.Ytmpikfnemhjoeaa
