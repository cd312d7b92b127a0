/- The tie of the row of FnOrder. Own work of the verifier. Made by wip/draft/qt.py. -/
import Derived.Test.YtdmmchoicngblaaGreatDoorFwTa
import Derived.Test.YtdmmchoicngblaaGreatDoorFwTb
import Derived.Test.YtdmmchoicngblaaGreatDoorFwTc
import Derived.Test.YtdmmchoicngblaaGreatDoorFwTd
import Derived.Test.YtdmmchoicngblaaGreatDoorFwTe
import Derived.Test.YtdmmchoicngblaaGreatDoorFwTf
import Derived.Test.YtdmmchoicngblaaGreatDoorFwTg
import Derived.Test.YtdmmchoicngblaaGreatDoorFwTi
namespace Go.Proofs.YtdmmchoicngblaaGreatDoor
open Go
set_option linter.unusedVariables false
set_option maxRecDepth 100000
theorem tieV : Tryz.prog.laidByTextLater laidV kindsV true :=
 Program.laidByTextLater_by_run_h 400 8 tv1 tv2 tv3 tv4 tv5 tv6 tv7 tv8 tv9 tv10
theorem fnOrder_row_tieV : Rows.fnOrderRow.laidByTextAt .later Tryz.pinned kindsV true :=
 OpenClaim.laidByTextAt_later rfl rfl tieV tv12 tv11
end Go.Proofs.YtdmmchoicngblaaGreatDoor
