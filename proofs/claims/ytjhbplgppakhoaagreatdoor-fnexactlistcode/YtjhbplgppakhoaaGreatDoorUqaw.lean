/- Texts of WiU, SpL, WiV, WiW. Own work of the verifier. -/
import Derived.Test.YtjhbplgppakhoaaGreatDoorUqav
import Derived.Test.YtjhbplgppakhoaaGreatDoorUqau
namespace Go.Proofs.YtjhbplgppakhoaaGreatDoor
open Go Go.RowKit
set_option linter.unusedVariables false
theorem ROut.txt {W0 : Bas} {w : World} {wb : Nat} {K : WK} {R X : List Int} {k : Nat} {e : Ending} {w' : World} (h : ROut W0 w wb K (putR R k X) e w') (hX : X ≠ []) : TxtOut W0 w wb K R k X e w' := by
  obtain ⟨h1, ⟨k', h2⟩, h3⟩ := h
  exact ⟨h1, ⟨k', fun h => absurd h hX, h2⟩, h3⟩
end Go.Proofs.YtjhbplgppakhoaaGreatDoor

namespace Go.Proofs.YtjhbplgppakhoaaGreatDoor
open Go Go.RowKit
set_option linter.unusedVariables false
end Go.Proofs.YtjhbplgppakhoaaGreatDoor

namespace Go.Proofs.YtjhbplgppakhoaaGreatDoor
open Go Go.RowKit
set_option linter.unusedVariables false
end Go.Proofs.YtjhbplgppakhoaaGreatDoor

namespace Go.Proofs.YtjhbplgppakhoaaGreatDoor
open Go Go.RowKit
set_option linter.unusedVariables false
end Go.Proofs.YtjhbplgppakhoaaGreatDoor

