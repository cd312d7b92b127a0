/- The tie of the row of FnParts. Own work of the verifier. Made by wip/draft/qt.py. -/
import Derived.Test.YtnfnddnffoigfaaGreatDoorFzTa
import Derived.Test.YtnfnddnffoigfaaGreatDoorFzTb
import Derived.Test.YtnfnddnffoigfaaGreatDoorFzTc
import Derived.Test.YtnfnddnffoigfaaGreatDoorFzTd
import Derived.Test.YtnfnddnffoigfaaGreatDoorFzTe
import Derived.Test.YtnfnddnffoigfaaGreatDoorFzTf
import Derived.Test.YtnfnddnffoigfaaGreatDoorFzTg
import Derived.Test.YtnfnddnffoigfaaGreatDoorFzTi
namespace Go.Proofs.YtnfnddnffoigfaaGreatDoor
set_option maxHeartbeats 2000000
open Go
set_option linter.unusedVariables false
set_option maxRecDepth 100000
theorem tieV:Tryz.prog.laidByTextLater laidV kindsV true:=
 Program.laidByTextLater_by_run_h 400 8 tv1 tv2 tv3 tv4 tv5 tv6 tv7 tv8 tv9 tv10
theorem fnParts_row_tieV:Rows.fnPartsRow.laidByTextAt .later Tryz.pinned kindsV true:=
 OpenClaim.laidByTextAt_later rfl rfl tieV tv12 tv11
end Go.Proofs.YtnfnddnffoigfaaGreatDoor
