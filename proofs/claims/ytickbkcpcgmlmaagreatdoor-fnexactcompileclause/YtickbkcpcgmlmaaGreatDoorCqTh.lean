/- The tie of the row of FnExactCompileClause. Own work of the verifier. Made by wip/draft/cqt.py. -/
import Derived.Test.YtickbkcpcgmlmaaGreatDoorCqTa
import Derived.Test.YtickbkcpcgmlmaaGreatDoorCqTb
import Derived.Test.YtickbkcpcgmlmaaGreatDoorCqTc
import Derived.Test.YtickbkcpcgmlmaaGreatDoorCqTd
import Derived.Test.YtickbkcpcgmlmaaGreatDoorCqTe
import Derived.Test.YtickbkcpcgmlmaaGreatDoorCqTf
import Derived.Test.YtickbkcpcgmlmaaGreatDoorCqTg
import Derived.Test.YtickbkcpcgmlmaaGreatDoorCqTi
namespace Go.Proofs.YtickbkcpcgmlmaaGreatDoor
open Go
set_option linter.unusedVariables false
set_option maxRecDepth 100000
theorem tieV : Tryz.prog.laidByTextLater laidV kindsV true :=
 Program.laidByTextLater_by_run_h 400 8 tv1 tv2 tv3 tv4 tv5 tv6 tv7 tv8 tv9 tv10
theorem fnExactCompileClause_row_tieV : Rows.fnExactCompileClauseRow.laidByTextAt .later Tryz.pinned kindsV true :=
 OpenClaim.laidByTextAt_later rfl rfl tieV tv12 tv11
end Go.Proofs.YtickbkcpcgmlmaaGreatDoor
