/- Drv: the walk of DrvNil, over the code itself. -/
import Derived.Test.YtimdkcchjanpaaaGreatDoorZbf
import Derived.Test.YtimdkcchjanpaaaGreatDoorZbg
import Derived.Test.YtimdkcchjanpaaaGreatDoorZbl
namespace Go.Proofs.YtimdkcchjanpaaaGreatDoor
open Go.RowKit
set_option linter.unusedVariables false
theorem drvNil_real (b i n l:Int) (d:ByteArray) (fr tag:Int) (lp:Bool) (_:(Lit.int .i64 b).wf = true) (_:(Lit.int .i64 i).wf = true) (_:(Lit.int .i64 n).wf = true) (_:(Lit.int .i64 l).wf = true) (_:d.size ≤ maxLen) (_:(Lit.int .i64 fr).wf = true) (_:(Lit.int .i64 tag).wf = true) (w:World)  (hT:Tabs w) :
    Calls Tryz.prog 5 #[.int .i64 b, .agg #[.int .i64 i, .int .i64 n, .int .i64 l, .string d, .int .i64 fr, .int .i64 tag, .bool lp]] w fun e w' => e = .returned (.bool true) ∧ Below w.heap.size w w':=drvNil_walk drvReal dknil b ⟨⟨i,n,l,d⟩,fr,tag,lp⟩ w hT
end Go.Proofs.YtimdkcchjanpaaaGreatDoor
