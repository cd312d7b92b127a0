/- The tie of the row of FnExactValidProgram. Own work of the verifier. Made by wip/draft/vqt.py. -/
import Derived.Test.YtfgaenggbbgboaaGreatDoorVqTa
import Derived.Test.YtfgaenggbbgboaaGreatDoorVqTb
import Derived.Test.YtfgaenggbbgboaaGreatDoorVqTc
import Derived.Test.YtfgaenggbbgboaaGreatDoorVqTd
import Derived.Test.YtfgaenggbbgboaaGreatDoorVqTe
import Derived.Test.YtfgaenggbbgboaaGreatDoorVqTf
import Derived.Test.YtfgaenggbbgboaaGreatDoorVqTg
import Derived.Test.YtfgaenggbbgboaaGreatDoorVqTi
namespace Go.Proofs.YtfgaenggbbgboaaGreatDoor
open Go
set_option linter.unusedVariables false
set_option maxRecDepth 100000
theorem tieV : Tryz.prog.laidByTextLater laidV kindsV true :=
  Program.laidByTextLater_by_run_h 400 8 tv1 tv2 tv3 tv4 tv5 tv6 tv7 tv8 tv9 tv10
theorem fnExactValidProgram_row_tieV : Rows.fnExactValidProgramRow.laidByTextAt .later Tryz.pinned kindsV true :=
  OpenClaim.laidByTextAt_later rfl rfl tieV tv12 tv11
end Go.Proofs.YtfgaenggbbgboaaGreatDoor
