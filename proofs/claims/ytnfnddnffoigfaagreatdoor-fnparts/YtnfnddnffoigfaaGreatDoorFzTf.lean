/- Closed facts of the tie. Own work of the verifier. Made by wip/draft/qt.py. -/
import Derived.Test.YtnfnddnffoigfaaGreatDoorFzT0
import Derived.Test.YtnfnddnffoigfaaGreatDoorNoD
namespace Go.Proofs.YtnfnddnffoigfaaGreatDoor
set_option maxHeartbeats 2000000
open Go
set_option linter.unusedVariables false
set_option maxRecDepth 100000
theorem tv9q (b:Os)(a:Tape):(DataW.laidRun Tryz.prog (varsWorld Tryz.prog 400 (varsId Tryz.prog) b a).memory 8 ((laidV.filter fun x=>x.2.handleName?.isNone).map (·.1))).map (fun x=>okAll x.2 && laidRowsB Tryz.prog (varsWorld Tryz.prog 400 (varsId Tryz.prog) b a).memory x.2)=some true:=by kernel_rfl
theorem tv9 (b:Os)(a:Tape):(DataW.laidRun Tryz.prog (varsWorld Tryz.prog 400 (varsId Tryz.prog) b a).memory 8 ((laidV.filter fun x=>x.2.handleName?.isNone).map (·.1))).map (fun x=>decide x.2.Nodup && laidRowsB Tryz.prog (varsWorld Tryz.prog 400 (varsId Tryz.prog) b a).memory x.2)=some true:=nodup_quick (f:=laidRowsB Tryz.prog (varsWorld Tryz.prog 400 (varsId Tryz.prog) b a).memory) (tv9q b a)
end Go.Proofs.YtnfnddnffoigfaaGreatDoor
