/- Texts of KeyP, OpsM1, OpsM2, OpsM3. Own work of the verifier. -/
import Derived.Maps.OwnSet
import Derived.Maps.OwnOps
import Derived.Maps.RangeWalk
import Derived.DeepKeys4
import Derived.Test.YtfgmenkoeflhaaaGreatDoorUqay
namespace Go.Proofs.YtfgmenkoeflhaaaGreatDoor
open Go Go.RowKit Go.Maps
set_option linter.unusedVariables false
def Apart (T : List Cel) : Prop := T.Pairwise (fun x y => keyC x ≠ keyC y)
def dropK (T : List Cel) (k : List UInt8 × Int) : List Cel := T.filter (fun x => decide (keyC x ≠ k))
theorem mem_dropK {T : List Cel} {k : List UInt8 × Int} {x : Cel} : x ∈ dropK T k ↔ x ∈ T ∧ keyC x ≠ k := by simp [dropK]
def postB (t : Int) : Bool := t == 5 || t == 6
end Go.Proofs.YtfgmenkoeflhaaaGreatDoor
