/- What is laid is met at the door. Own work of the verifier. -/
import Derived.Test.YtnfnddnffoigfaaGreatDoorFzT0
import Derived.Test.YtnfnddnffoigfaaGreatDoorNoD
import Derived.ProofKit
import Derived.OpenShut
import Derived.OpenVars
import Derived.Stop.Joined
import Derived.LaidMore
import Derived.LaidHandle
namespace Go.Proofs.YtnfnddnffoigfaaGreatDoor
set_option maxHeartbeats 2000000
open Go Go.ChangeShapes Go.WideShapes Go.ChangeAt Go.WideMaps Go.WideElems Go.RowKit
set_option linter.unusedVariables false
set_option maxRecDepth 100000
theorem door_metV (b:Os)(a:Array Value):laidMetH Tryz.prog laidV ((World.doorLaid Tryz.prog 400 b).forCall (fun _ _=>0) ⟨#[],a,[]⟩).memory:=
 laidMetH_of_parts3 (fuel:=8) (laidMet_of_run' 8 (by kernel_rfl) (nodup_quick (by kernel_rfl))) (by kernel_rfl) (by kernel_rfl)
end Go.Proofs.YtnfnddnffoigfaaGreatDoor
