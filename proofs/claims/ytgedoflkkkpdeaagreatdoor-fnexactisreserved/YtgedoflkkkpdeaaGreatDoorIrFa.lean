/- Closed facts of the row of FnExactIsReserved. Own work of the verifier. Made by wip/draft/ibf.py, with the other name. -/
import Derived.Test.YtgedoflkkkpdeaaGreatDoorRows
import Derived.JoinedOf
import Derived.SevenTiedAt
import Derived.ProofKit
import Derived.OpenShut
namespace Go.Proofs.YtgedoflkkkpdeaaGreatDoor
open Go Go.ChangeShapes Go.WideShapes Go.WideMaps Go.WideElems Go.RowKit
set_option maxRecDepth 100000

theorem jf9 : ((Rows.fnExactIsReservedRow.inPlace == Tryz.prog.inPlace 4)) = true := by kernel_rfl

end Go.Proofs.YtgedoflkkkpdeaaGreatDoor
