/- Closed facts of the row of FnOrder. Own work of the verifier. Made by wip/draft/qt.py. -/
import Derived.Test.YtdmmchoicngblaaGreatDoorRows
import Derived.JoinedOf
import Derived.SevenTiedAt
import Derived.ProofKit
import Derived.OpenShut
namespace Go.Proofs.YtdmmchoicngblaaGreatDoor
open Go Go.ChangeShapes Go.WideShapes Go.WideMaps Go.WideElems Go.RowKit
set_option maxRecDepth 100000
theorem cf3 : true = Tryz.prog.looks [] := by kernel_rfl
end Go.Proofs.YtdmmchoicngblaaGreatDoor
