/- Texts of StL, StD, StW, StM. Own work of the verifier. -/
import Derived.Test.YtjhbplgppakhoaaGreatDoorUqbg
import Derived.Maps.OwnSet
import Derived.Maps.OwnOps
import Derived.ProofKit
import Derived.Deep.AppendLies
import Derived.Deep.Upon
namespace Go.Proofs.YtjhbplgppakhoaaGreatDoor
open Go Go.RowKit Go.Maps
set_option linter.unusedVariables false
def anyP (v : Value) : Option (DataW Value × List MemPlace) := some (.held v, [])
def SMap (w : World) (b N : Nat) (m : Nat → Nat) : Prop := ∃ D : DataW Value, w.ownsMap Tryz.prog 3 anyP b N D ∧ ∀ x : Nat, D.atKey (.int .i64 x) (.held (.int .i64 0)) = .held (.int .i64 (m x))
theorem SMap.lt {w : World} {b N : Nat} {m : Nat → Nat} (h : SMap w b N m) : b < w.heap.size := by obtain ⟨D, h, _⟩ := h; exact h.lt
theorem SMap.of_block {w w' : World} {b N : Nat} {m : Nat → Nat} (h : SMap w b N m) (hb : w'.heap[b]? = w.heap[b]?) : SMap w' b N m := by
  obtain ⟨D, ⟨es, clock, h1, r⟩, h2⟩ := h
  exact ⟨D, ⟨es, clock, hb.trans h1, r⟩, h2⟩
theorem SMap.below {w w' : World} {b N : Nat} {m : Nat → Nat} (h : SMap w b N m) (hb : Below w.heap.size w w') : SMap w' b N m := h.of_block (hb.block _ h.lt)
theorem SMap.made (w : World) : SMap (w.alloc (.map #[] 0)) w.heap.size 0 (fun _ => 0) := ⟨_, World.ownsMap_made _ _ _ _, fun x => rfl⟩
end Go.Proofs.YtjhbplgppakhoaaGreatDoor

namespace Go.Proofs.YtjhbplgppakhoaaGreatDoor
open Go Go.RowKit Go.Maps
set_option linter.unusedVariables false
theorem Below.grows {b : Nat} {w w1 w2 : World} (h : Below b w w1) (hg : w1.grownBy w2 (some b)) (hlt : b < w1.heap.size) : Below b w w2 := h.grown hg (by omega) (fun k e => by cases e; exact Nat.le_refl _)
end Go.Proofs.YtjhbplgppakhoaaGreatDoor

namespace Go.Proofs.YtjhbplgppakhoaaGreatDoor
open Go Go.RowKit Go.Maps
set_option linter.unusedVariables false
end Go.Proofs.YtjhbplgppakhoaaGreatDoor

namespace Go.Proofs.YtjhbplgppakhoaaGreatDoor
open Go Go.RowKit
set_option linter.unusedVariables false
end Go.Proofs.YtjhbplgppakhoaaGreatDoor

