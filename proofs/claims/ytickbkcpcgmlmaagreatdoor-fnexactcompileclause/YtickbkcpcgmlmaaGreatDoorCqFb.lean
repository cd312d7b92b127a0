/- Closed facts of the row of FnExactCompileClause. Own work of the verifier. Made by wip/draft/cqt.py. -/
import Derived.Test.YtickbkcpcgmlmaaGreatDoorRows
import Derived.JoinedOf
import Derived.SevenTiedAt
import Derived.ProofKit
import Derived.OpenShut
namespace Go.Proofs.YtickbkcpcgmlmaaGreatDoor
open Go Go.ChangeShapes Go.WideShapes Go.WideMaps Go.WideElems Go.RowKit
set_option maxRecDepth 100000
theorem jf10 : ((Rows.fnExactCompileClauseRow.unfollowed == Tryz.prog.unfollowed 3)) = true := by kernel_rfl
end Go.Proofs.YtickbkcpcgmlmaaGreatDoor
