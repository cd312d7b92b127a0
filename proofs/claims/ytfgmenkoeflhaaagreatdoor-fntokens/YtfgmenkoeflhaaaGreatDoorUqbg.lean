/- Texts of FunG, IntG, VarF, VarG. Own work of the verifier. -/
import Derived.Test.YtfgmenkoeflhaaaGreatDoorUqbf
namespace Go.Proofs.YtfgmenkoeflhaaaGreatDoor
set_option linter.unusedVariables false
section
open Go Go.RowKit
end
section
open Go Go.RowKit Go.Maps
def OwnI (w : World) (B : Nat) (t : TypeId) (p : Option Addr) (n c : Nat) (zs : List Int) : Prop := n = zs.length ∧ w.ownsRow B t 1 (.slice p n c) n (zs.map (Value.int .i64))
def IIn (w : World) (p : Option Addr) (zs : List Int) : Prop := 0 < zs.length → ∃ b o, p = some ⟨b, o, none⟩ ∧ ∀ i, i < zs.length → w.cell? ⟨b, o + i, none⟩ = some (.int .i64 (zs.getD i 0))
theorem IIn.below {W W' : World} {p : Option Addr} {zs : List Int} (h : IIn W p zs) (hb : Below W.heap.size W W') : IIn W' p zs := fun hn => by
 obtain ⟨b, o, rfl, hc⟩ := h hn; exact ⟨b, o, rfl, fun i hi => (hb.cell (World.block_lt_of_cell? _ _ (hc i hi))).trans (hc i hi)⟩
theorem OwnI.nil (w : World) (B : Nat) (t : TypeId) : OwnI w B t none 0 0 [] := ⟨rfl, World.ownsRow_nil _ _ _ _⟩
theorem OwnI.below {w w' : World} {B : Nat} {t : TypeId} {p : Option Addr} {n c : Nat} {zs : List Int} (h : OwnI w B t p n c zs) (hb : Below w.heap.size w w') : OwnI w' B t p n c zs := ⟨h.1, row_below h.2 hb⟩
theorem OwnI.mono {w : World} {B B' : Nat} {t : TypeId} {p : Option Addr} {n c : Nat} {zs : List Int} (h : OwnI w B t p n c zs) (hB : B' ≤ B) : OwnI w B' t p n c zs := ⟨h.1, ownsRow_down h.2 hB⟩
end
end Go.Proofs.YtfgmenkoeflhaaaGreatDoor
