/- Closed facts of the tie. Own work of the verifier. Made by wip/draft/qt.py. -/
import Derived.Test.YtnfnddnffoigfaaGreatDoorFzT0
namespace Go.Proofs.YtnfnddnffoigfaaGreatDoor
set_option maxHeartbeats 2000000
open Go
set_option linter.unusedVariables false
set_option maxRecDepth 100000
theorem tv8 (b:Os)(a:Tape):(DataW.laidRun Tryz.prog (varsWorld Tryz.prog 400 (varsId Tryz.prog) b a).memory 8 ((laidV.filter fun x=>x.2.handleName?.isNone).map (·.1))).map (·.1)=some (laidV.filter fun x=>x.2.handleName?.isNone):=by kernel_rfl
end Go.Proofs.YtnfnddnffoigfaaGreatDoor
