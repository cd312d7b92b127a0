/- Texts of Plain2, Tab0, WiA, WiB. Own work of the verifier. -/
import Derived.Test.YtbnmmcegjlmdmaaGreatDoorUqbe
import Derived.Test.YtbnmmcegjlmdmaaGreatDoorUqaa
namespace Go.Proofs.YtbnmmcegjlmdmaaGreatDoor
open Go Go.RowKit
set_option linter.unusedVariables false
end Go.Proofs.YtbnmmcegjlmdmaaGreatDoor

namespace Go.Proofs.YtbnmmcegjlmdmaaGreatDoor
open Go Go.RowKit
set_option linter.unusedVariables false
end Go.Proofs.YtbnmmcegjlmdmaaGreatDoor

namespace Go.Proofs.YtbnmmcegjlmdmaaGreatDoor
open Go Go.RowKit
set_option linter.unusedVariables false
end Go.Proofs.YtbnmmcegjlmdmaaGreatDoor

namespace Go.Proofs.YtbnmmcegjlmdmaaGreatDoor
open Go Go.RowKit
set_option linter.unusedVariables false
end Go.Proofs.YtbnmmcegjlmdmaaGreatDoor

