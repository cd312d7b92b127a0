/- Closed facts of the row of FnParts. Own work of the verifier. Made by wip/draft/qt.py. -/
import Derived.Test.YtnfnddnffoigfaaGreatDoorRows
import Derived.JoinedOf
import Derived.SevenTiedAt
import Derived.ProofKit
import Derived.OpenShut
namespace Go.Proofs.YtnfnddnffoigfaaGreatDoor
set_option maxHeartbeats 2000000
open Go Go.ChangeShapes Go.WideShapes Go.WideMaps Go.WideElems Go.RowKit
set_option maxRecDepth 100000
theorem jfi:Tryz.f3.isInstance Tryz.prog Rows.fnPartsRow.origin Rows.fnPartsRow.targs:=of_decide_eq_true (by kernel_rfl)
theorem jfw:Tryz.f3.isWrapper Tryz.prog Rows.fnPartsRow.wrapper Rows.fnPartsRow.mainSum:=by unfold Func.isWrapper;first | (rw[if_pos (by decide +kernel)];kernel_rfl) | (rw[if_neg (by decide +kernel)];exact⟨rfl,rfl⟩)
theorem jfs:([22].all fun u=>!Tryz.prog.wantsStandIn u)=true:=by kernel_rfl
end Go.Proofs.YtnfnddnffoigfaaGreatDoor
