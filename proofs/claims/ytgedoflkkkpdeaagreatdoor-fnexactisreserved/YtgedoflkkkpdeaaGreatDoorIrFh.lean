/- Closed facts of the row of FnExactIsReserved. Own work of the verifier. Made by wip/draft/ibf.py, with the other name. -/
import Derived.Test.YtgedoflkkkpdeaaGreatDoorRows
import Derived.JoinedOf
import Derived.SevenTiedAt
import Derived.ProofKit
import Derived.OpenShut
namespace Go.Proofs.YtgedoflkkkpdeaaGreatDoor
open Go Go.ChangeShapes Go.WideShapes Go.WideMaps Go.WideElems Go.RowKit
set_option maxRecDepth 100000

theorem cf4 : false = Rows.fnExactIsReservedRow.goesBy Tryz.prog := by kernel_rfl
theorem cf5 : Tryz.prog.funcNamed "loop.example/s00095/laws.FnExactIsReserved" = some 4 := by kernel_rfl

end Go.Proofs.YtgedoflkkkpdeaaGreatDoor
