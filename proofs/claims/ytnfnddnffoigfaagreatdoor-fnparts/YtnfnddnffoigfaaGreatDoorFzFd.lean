/- Closed facts of the row of FnParts. Own work of the verifier. Made by wip/draft/qt.py. -/
import Derived.Test.YtnfnddnffoigfaaGreatDoorRows
import Derived.JoinedOf
import Derived.SevenTiedAt
import Derived.ProofKit
import Derived.OpenShut
namespace Go.Proofs.YtnfnddnffoigfaaGreatDoor
set_option maxHeartbeats 2000000
open Go Go.ChangeShapes Go.WideShapes Go.WideMaps Go.WideElems Go.RowKit
set_option maxRecDepth 100000
theorem jf12:((Rows.fnPartsRow.named == Tryz.prog.varsNamed 3))=true:=by kernel_rfl
end Go.Proofs.YtnfnddnffoigfaaGreatDoor
