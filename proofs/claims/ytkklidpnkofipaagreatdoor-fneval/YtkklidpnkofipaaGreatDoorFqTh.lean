/- The tie of the row of FnEval. Own work of the verifier. Made by wip/draft/qt.py. -/
import Derived.Test.YtkklidpnkofipaaGreatDoorFqTa
import Derived.Test.YtkklidpnkofipaaGreatDoorFqTb
import Derived.Test.YtkklidpnkofipaaGreatDoorFqTc
import Derived.Test.YtkklidpnkofipaaGreatDoorFqTd
import Derived.Test.YtkklidpnkofipaaGreatDoorFqTe
import Derived.Test.YtkklidpnkofipaaGreatDoorFqTf
import Derived.Test.YtkklidpnkofipaaGreatDoorFqTg
import Derived.Test.YtkklidpnkofipaaGreatDoorFqTi
namespace Go.Proofs.YtkklidpnkofipaaGreatDoor
open Go
set_option linter.unusedVariables false
set_option maxRecDepth 100000
theorem tieV : Tryz.prog.laidByTextLater laidV kindsV true :=
 Program.laidByTextLater_by_run_h 400 8 tv1 tv2 tv3 tv4 tv5 tv6 tv7 tv8 tv9 tv10
theorem fnEval_row_tieV : Rows.fnEvalRow.laidByTextAt .later Tryz.pinned kindsV true :=
 OpenClaim.laidByTextAt_later rfl rfl tieV tv12 tv11
end Go.Proofs.YtkklidpnkofipaaGreatDoor
