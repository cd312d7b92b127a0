/- Closed facts of the row of FnExactIsBuiltin. Own work of the verifier. Made by wip/draft/ibf.py. -/
import Derived.Test.YtjpnpngopmjpbaaGreatDoorRows
import Derived.JoinedOf
import Derived.SevenTiedAt
import Derived.ProofKit
import Derived.OpenShut
namespace Go.Proofs.YtjpnpngopmjpbaaGreatDoor
open Go Go.ChangeShapes Go.WideShapes Go.WideMaps Go.WideElems Go.RowKit
set_option maxRecDepth 100000

theorem cf1 : Rows.fnExactIsBuiltinRow.wfByText (OpenSpec.ofChange Rows.fnExactIsBuiltinSpec) = true := by kernel_rfl

end Go.Proofs.YtjpnpngopmjpbaaGreatDoor
