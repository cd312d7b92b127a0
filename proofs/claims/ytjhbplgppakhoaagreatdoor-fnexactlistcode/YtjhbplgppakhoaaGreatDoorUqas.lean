/- Texts of WiI, RegK3, WiJ, WiK. Own work of the verifier. -/
import Derived.Test.YtjhbplgppakhoaaGreatDoorUqar
import Derived.Test.YtjhbplgppakhoaaGreatDoorUqao
import Derived.Deep.RegionLaw
import Derived.Deep.Cut
import Derived.Test.YtjhbplgppakhoaaGreatDoorUqaf
namespace Go.Proofs.YtjhbplgppakhoaaGreatDoor
open Go Go.RowKit
set_option linter.unusedVariables false
end Go.Proofs.YtjhbplgppakhoaaGreatDoor

namespace Go.Proofs.YtjhbplgppakhoaaGreatDoor
open Go
end Go.Proofs.YtjhbplgppakhoaaGreatDoor

namespace Go.Proofs.YtjhbplgppakhoaaGreatDoor
open Go Go.RowKit
set_option linter.unusedVariables false
end Go.Proofs.YtjhbplgppakhoaaGreatDoor

namespace Go.Proofs.YtjhbplgppakhoaaGreatDoor
open Go Go.RowKit
set_option linter.unusedVariables false
end Go.Proofs.YtjhbplgppakhoaaGreatDoor

