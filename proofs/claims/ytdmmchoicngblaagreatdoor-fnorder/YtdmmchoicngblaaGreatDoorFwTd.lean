/- Closed facts of the tie. Own work of the verifier. Made by wip/draft/qt.py. -/
import Derived.Test.YtdmmchoicngblaaGreatDoorFwT0
namespace Go.Proofs.YtdmmchoicngblaaGreatDoor
open Go
set_option linter.unusedVariables false
set_option maxRecDepth 100000
theorem tv7 (os : Os) (tape : Tape) : varsDone Tryz.prog 400 (varsId Tryz.prog) os tape = true := by kernel_rfl
end Go.Proofs.YtdmmchoicngblaaGreatDoor
