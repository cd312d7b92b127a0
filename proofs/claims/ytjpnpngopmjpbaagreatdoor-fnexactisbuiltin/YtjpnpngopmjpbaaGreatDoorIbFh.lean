/- Closed facts of the row of FnExactIsBuiltin. Own work of the verifier. Made by wip/draft/ibf.py. -/
import Derived.Test.YtjpnpngopmjpbaaGreatDoorRows
import Derived.JoinedOf
import Derived.SevenTiedAt
import Derived.ProofKit
import Derived.OpenShut
namespace Go.Proofs.YtjpnpngopmjpbaaGreatDoor
open Go Go.ChangeShapes Go.WideShapes Go.WideMaps Go.WideElems Go.RowKit
set_option maxRecDepth 100000

theorem cf4 : false = Rows.fnExactIsBuiltinRow.goesBy Tryz.prog := by kernel_rfl
theorem cf5 : Tryz.prog.funcNamed "loop.example/s00095/laws.FnExactIsBuiltin" = some 3 := by kernel_rfl

end Go.Proofs.YtjpnpngopmjpbaaGreatDoor
