/- Echo: the walk of EchoApart, over the code itself. -/
import Derived.Test.YtmpikfnemhjoeaaZan
import Derived.Test.YtmpikfnemhjoeaaZaj
namespace Go.Proofs.Ytmpikfnemhjoeaa
open Go.RowKit
set_option linter.unusedVariables false

theorem echoApart_real (many x y : Int) (i n l : Int) (d : ByteArray) (fr tag : Int) (lp : Bool) (i' n' l' : Int) (d' : ByteArray) (fr' tag' : Int) (lp' : Bool) (_ : (Lit.int .i64 many).wf = true) (_ : (Lit.int .i64 x).wf = true) (_ : (Lit.int .i64 y).wf = true)
    (_ : (Lit.int .i64 i).wf = true) (_ : (Lit.int .i64 n).wf = true) (_ : (Lit.int .i64 l).wf = true) (_ : d.size ≤ maxLen) (_ : (Lit.int .i64 fr).wf = true) (_ : (Lit.int .i64 tag).wf = true)
    (_ : (Lit.int .i64 i').wf = true) (_ : (Lit.int .i64 n').wf = true) (_ : (Lit.int .i64 l').wf = true) (_ : d'.size ≤ maxLen) (_ : (Lit.int .i64 fr').wf = true) (_ : (Lit.int .i64 tag').wf = true) (w : World) :
    Calls Try.prog 4 #[.int .i64 many, .int .i64 x, .int .i64 y, .agg #[.int .i64 i, .int .i64 n, .int .i64 l, .string d, .int .i64 fr, .int .i64 tag, .bool lp], .agg #[.int .i64 i', .int .i64 n', .int .i64 l', .string d', .int .i64 fr', .int .i64 tag', .bool lp']] w fun e w' => e = .returned (.bool true) ∧ Below w.heap.size w w' := echoApart_walk echoReal many x y ⟨⟨i, n, l, d⟩, fr, tag, lp⟩ ⟨⟨i', n', l', d'⟩, fr', tag', lp'⟩ w
end Go.Proofs.Ytmpikfnemhjoeaa
