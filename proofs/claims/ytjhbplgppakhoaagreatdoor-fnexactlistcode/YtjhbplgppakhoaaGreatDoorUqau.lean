/- Texts of FoS, WiN, WiO, WiP. Own work of the verifier. -/
import Derived.Test.YtjhbplgppakhoaaGreatDoorUqat
namespace Go.Proofs.YtjhbplgppakhoaaGreatDoor
open Go Go.RowKit
set_option linter.unusedVariables false
open Classical in
noncomputable def strikeA (A : Nat → Prop) (W : World) : World := { W with heap := W.heap.mapIdx fun i o => if A i then .deferred none else o }
def FoA (A : Nat → Prop) (W : World) (F : Fo) (vs : List Value) : Prop := FoIn (strikeA A W) 0 F vs
theorem FoA.cat {A : Nat → Prop} {W : World} {F G : Fo} {vs us : List Value} (h : FoA A W F vs) (h' : FoA A W G us) : FoA A W (F.cat G) (vs ++ us) := FoIn.cat _ _ _ _ h h'
end Go.Proofs.YtjhbplgppakhoaaGreatDoor

namespace Go.Proofs.YtjhbplgppakhoaaGreatDoor
open Go Go.RowKit
set_option linter.unusedVariables false
end Go.Proofs.YtjhbplgppakhoaaGreatDoor

namespace Go.Proofs.YtjhbplgppakhoaaGreatDoor
open Go Go.RowKit
set_option linter.unusedVariables false
theorem TxtOut.behind {W0 : Bas} {w w1 : World} {wb : Nat} {K : WK} {R X : List Int} {k : Nat} {e : Ending} {w' : World} (h : TxtOut W0 w1 wb K R k X e w') (hb : Below w.heap.size w w1) : TxtOut W0 w wb K R k X e w' := ⟨h.1, h.2.1, (Kept.below hb).trans h.2.2⟩
end Go.Proofs.YtjhbplgppakhoaaGreatDoor

namespace Go.Proofs.YtjhbplgppakhoaaGreatDoor
open Go Go.RowKit
set_option linter.unusedVariables false
end Go.Proofs.YtjhbplgppakhoaaGreatDoor

