/- Texts of RenG, Vars3, IntM, Vars4. Own work of the verifier. -/
import Derived.Test.YtbnmmcegjlmdmaaGreatDoorUqat
import Derived.Test.YtbnmmcegjlmdmaaGreatDoorUqas
import Derived.Test.YtbnmmcegjlmdmaaGreatDoorUqal
import Derived.Test.YtbnmmcegjlmdmaaGreatDoorUqao
import Derived.Test.YtbnmmcegjlmdmaaGreatDoorUqan
import Derived.LoopN
import Derived.Test.YtbnmmcegjlmdmaaGreatDoorUqaq
namespace Go.Proofs.YtbnmmcegjlmdmaaGreatDoor
end Go.Proofs.YtbnmmcegjlmdmaaGreatDoor

namespace Go.Proofs.YtbnmmcegjlmdmaaGreatDoor
open Go Go.RowKit Go.Maps
set_option linter.unusedVariables false
end Go.Proofs.YtbnmmcegjlmdmaaGreatDoor

namespace Go.Proofs.YtbnmmcegjlmdmaaGreatDoor
open Go Go.RowKit Go.Maps
set_option linter.unusedVariables false
end Go.Proofs.YtbnmmcegjlmdmaaGreatDoor

namespace Go.Proofs.YtbnmmcegjlmdmaaGreatDoor
open Go Go.RowKit Go.Maps
set_option linter.unusedVariables false
end Go.Proofs.YtbnmmcegjlmdmaaGreatDoor

