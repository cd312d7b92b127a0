/- Texts of Base, Base2, Strs, Plain. Own work of the verifier. -/
import Derived.Test.YtbnmmcegjlmdmaaGreatDoorUqaa
import Derived.Test.YtbnmmcegjlmdmaaGreatDoorUqbd
import Derived.Laws.BytesArg
import Derived.Lib.Strings
import Derived.WideShapes
import Derived.Lib.SlBytesConst
import Derived.Deep.Light
namespace Go.Proofs.YtbnmmcegjlmdmaaGreatDoor
open Go Go.RowKit
end Go.Proofs.YtbnmmcegjlmdmaaGreatDoor

namespace Go.Proofs.YtbnmmcegjlmdmaaGreatDoor
open Go Go.RowKit
set_option linter.unusedVariables false
end Go.Proofs.YtbnmmcegjlmdmaaGreatDoor

namespace Go.Proofs.YtbnmmcegjlmdmaaGreatDoor
open Go Go.RowKit
end Go.Proofs.YtbnmmcegjlmdmaaGreatDoor

namespace Go.Proofs.YtbnmmcegjlmdmaaGreatDoor
open Go Go.RowKit
set_option linter.unusedVariables false
end Go.Proofs.YtbnmmcegjlmdmaaGreatDoor

