/- Closed facts of the tie. Own work of the verifier. Made by wip/draft/qt.py. -/
import Derived.Test.YtnfnddnffoigfaaGreatDoorFzT0
namespace Go.Proofs.YtnfnddnffoigfaaGreatDoor
set_option maxHeartbeats 2000000
open Go
set_option linter.unusedVariables false
set_option maxRecDepth 100000
theorem tv4:laidV.map (fun x=>Tryz.prog.kindOfLater x.1)=kindsV.map some:=by kernel_rfl
theorem tv5:(Tryz.prog.funcNamed "gosem.cut.vars").isSome=true:=by kernel_rfl
end Go.Proofs.YtnfnddnffoigfaaGreatDoor
