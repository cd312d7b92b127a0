/- Closed facts of the row of FnExactIsReserved. Own work of the verifier. Made by wip/draft/ibf.py, with the other name. -/
import Derived.Test.YtgedoflkkkpdeaaGreatDoorRows
import Derived.JoinedOf
import Derived.SevenTiedAt
import Derived.ProofKit
import Derived.OpenShut
namespace Go.Proofs.YtgedoflkkkpdeaaGreatDoor
open Go Go.ChangeShapes Go.WideShapes Go.WideMaps Go.WideElems Go.RowKit
set_option maxRecDepth 100000

theorem jfi : Tryz.f4.isInstance Tryz.prog Rows.fnExactIsReservedRow.origin Rows.fnExactIsReservedRow.targs := of_decide_eq_true (by kernel_rfl)
theorem jfw : Tryz.f4.isWrapper Tryz.prog Rows.fnExactIsReservedRow.wrapper Rows.fnExactIsReservedRow.mainSum := by unfold Func.isWrapper; first | (rw [if_pos (by decide +kernel)]; kernel_rfl) | (rw [if_neg (by decide +kernel)]; exact ⟨rfl, rfl⟩)
theorem jfs : ([22, 3].all fun u => !Tryz.prog.wantsStandIn u) = true := by kernel_rfl

end Go.Proofs.YtgedoflkkkpdeaaGreatDoor
