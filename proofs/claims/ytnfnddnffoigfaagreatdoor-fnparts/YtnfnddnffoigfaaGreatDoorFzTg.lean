/- Closed facts of the tie. Own work of the verifier. Made by wip/draft/qt.py. -/
import Derived.Test.YtnfnddnffoigfaaGreatDoorFzT0
namespace Go.Proofs.YtnfnddnffoigfaaGreatDoor
set_option maxHeartbeats 2000000
open Go
set_option linter.unusedVariables false
set_option maxRecDepth 100000
theorem tv10 (b:Os)(a:Tape):(laidV.filter fun x=>x.2.handleName?.isSome).all (handleAtB Tryz.prog (varsWorld Tryz.prog 400 (varsId Tryz.prog) b a).memory)=true:=by kernel_rfl
end Go.Proofs.YtnfnddnffoigfaaGreatDoor
