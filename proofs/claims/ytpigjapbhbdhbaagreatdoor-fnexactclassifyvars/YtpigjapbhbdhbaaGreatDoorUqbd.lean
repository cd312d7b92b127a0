/- Texts of ClFi. Own work of the verifier. -/
import Derived.Test.YtpigjapbhbdhbaaGreatDoorRows
import Derived.JoinedOf
import Derived.SevenTiedAt
import Derived.ProofKit
import Derived.OpenShut
namespace Go.Proofs.YtpigjapbhbdhbaaGreatDoor
open Go Go.ChangeShapes Go.WideShapes Go.WideMaps Go.WideElems Go.RowKit
set_option maxRecDepth 100000
theorem jfi : Tryz.f3.isInstance Tryz.prog Rows.fnExactClassifyVarsRow.origin Rows.fnExactClassifyVarsRow.targs := of_decide_eq_true (by kernel_rfl)
theorem jfw : Tryz.f3.isWrapper Tryz.prog Rows.fnExactClassifyVarsRow.wrapper Rows.fnExactClassifyVarsRow.mainSum := by unfold Func.isWrapper; first | (rw [if_pos (by decide +kernel)]; kernel_rfl) | (rw [if_neg (by decide +kernel)]; exact ⟨rfl, rfl⟩)
theorem jfs : ([22].all fun u => !Tryz.prog.wantsStandIn u) = true := by kernel_rfl
end Go.Proofs.YtpigjapbhbdhbaaGreatDoor

