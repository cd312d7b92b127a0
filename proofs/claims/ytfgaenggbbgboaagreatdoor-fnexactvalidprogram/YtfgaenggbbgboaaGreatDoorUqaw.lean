/- Texts of Plain2, Tab0, WiA, WiB, WiC. Own work of the verifier. -/
import Derived.Test.YtfgaenggbbgboaaGreatDoorUqav
import Derived.Test.YtfgaenggbbgboaaGreatDoorUqaa
import Derived.Test.YtfgaenggbbgboaaGreatDoorUqad
import Derived.Lib.AppendStr
namespace Go.Proofs.YtfgaenggbbgboaaGreatDoor
open Go Go.RowKit
set_option linter.unusedVariables false
end Go.Proofs.YtfgaenggbbgboaaGreatDoor

namespace Go.Proofs.YtfgaenggbbgboaaGreatDoor
open Go Go.RowKit
set_option linter.unusedVariables false
def Tab (W : World) : Prop := ∀ i, i < 128 → W.cell? ⟨5, i, none⟩ = some (.int .u8 (tab.getD i 0))
theorem Tab.below {W W' : World} (h : Tab W) (hb : Below W.heap.size W W') : Tab W' := fun i hi => (hb.cell (World.block_lt_of_cell? _ _ (h i hi))).trans (h i hi)
end Go.Proofs.YtfgaenggbbgboaaGreatDoor

namespace Go.Proofs.YtfgaenggbbgboaaGreatDoor
open Go Go.RowKit
set_option linter.unusedVariables false
end Go.Proofs.YtfgaenggbbgboaaGreatDoor

namespace Go.Proofs.YtfgaenggbbgboaaGreatDoor
open Go Go.RowKit
set_option linter.unusedVariables false
end Go.Proofs.YtfgaenggbbgboaaGreatDoor

namespace Go.Proofs.YtfgaenggbbgboaaGreatDoor
open Go Go.RowKit
set_option linter.unusedVariables false
end Go.Proofs.YtfgaenggbbgboaaGreatDoor

