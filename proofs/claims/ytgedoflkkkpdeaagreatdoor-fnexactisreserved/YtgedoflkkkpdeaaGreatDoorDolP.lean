/- Names that begin with a dollar sign. Own work of the verifier. -/
import Derived.Test.YtgedoflkkkpdeaaGreatDoorPre
namespace Go.Proofs.YtgedoflkkkpdeaaGreatDoor
open Go Go.RowKit
set_option linter.unusedVariables false

/-- Whether a name begins with a dollar sign. -/
def dolL (s : List Int) : Bool := s.head? == some 36

end Go.Proofs.YtgedoflkkkpdeaaGreatDoor
