/- Closed facts of the tie. Own work of the verifier. Made by wip/draft/qt.py. -/
import Derived.Test.YtnfnddnffoigfaaGreatDoorFzT0
namespace Go.Proofs.YtnfnddnffoigfaaGreatDoor
set_option maxHeartbeats 2000000
open Go
set_option linter.unusedVariables false
set_option maxRecDepth 100000
theorem tv1:Tryz.prog.worded (varsWordLater true)=true:=by kernel_rfl
theorem tv2:Tryz.prog.worded (varsWordLater !true)=false:=by kernel_rfl
theorem tv3:Tryz.prog.worded rootWordLater=true:=by kernel_rfl
end Go.Proofs.YtnfnddnffoigfaaGreatDoor
