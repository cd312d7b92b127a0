/- Texts of WiQ, WiR, WiS, WiT. Own work of the verifier. -/
import Derived.Test.YtjhbplgppakhoaaGreatDoorUqau
namespace Go.Proofs.YtjhbplgppakhoaaGreatDoor
open Go Go.RowKit
set_option linter.unusedVariables false
def ROut (W0 : Bas) (w : World) (wb : Nat) (K : WK) (R' : List Int) (e : Ending) (w' : World) : Prop := e = .returned (.tuple #[]) ∧ (∃ k' p n c, WS W0 w' wb K p n c R' k') ∧ Kept w w' wb
end Go.Proofs.YtjhbplgppakhoaaGreatDoor

namespace Go.Proofs.YtjhbplgppakhoaaGreatDoor
open Go Go.RowKit
set_option linter.unusedVariables false
end Go.Proofs.YtjhbplgppakhoaaGreatDoor

namespace Go.Proofs.YtjhbplgppakhoaaGreatDoor
open Go Go.RowKit
set_option linter.unusedVariables false
theorem WSx.gr {W0 : Bas} {W : World} {wb : Nat} {K : WK} {R : List Int} {k : Nat} (h : ∃ p n c, WS W0 W wb K p n c R k) : W0.grownBy W (some wb) := by obtain ⟨_, _, _, h⟩ := h; exact h.gr
theorem WSx.below {W0 : Bas} {W W' : World} {wb : Nat} {K : WK} {R : List Int} {k : Nat} (h : ∃ p n c, WS W0 W wb K p n c R k) (hb : Below W.heap.size W W') : ∃ p n c, WS W0 W' wb K p n c R k := by obtain ⟨p, n, c, h⟩ := h; exact ⟨p, n, c, h.below hb⟩
end Go.Proofs.YtjhbplgppakhoaaGreatDoor

namespace Go.Proofs.YtjhbplgppakhoaaGreatDoor
open Go Go.RowKit
set_option linter.unusedVariables false
end Go.Proofs.YtjhbplgppakhoaaGreatDoor

