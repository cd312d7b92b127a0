/- Closed facts of the row of FnExactValidProgram. Own work of the verifier. Made by wip/draft/vqt.py. -/
import Derived.Test.YtfgaenggbbgboaaGreatDoorRows
import Derived.JoinedOf
import Derived.SevenTiedAt
import Derived.ProofKit
import Derived.OpenShut
namespace Go.Proofs.YtfgaenggbbgboaaGreatDoor
open Go Go.ChangeShapes Go.WideShapes Go.WideMaps Go.WideElems Go.RowKit
set_option maxRecDepth 100000
theorem jf12 : ((Rows.fnExactValidProgramRow.named == Tryz.prog.varsNamed 3)) = true := by kernel_rfl
end Go.Proofs.YtfgaenggbbgboaaGreatDoor
