/- Texts of StN, StX, StY, StO. Own work of the verifier. -/
import Derived.Test.YtjhbplgppakhoaaGreatDoorUqbh
import Derived.Test.YtjhbplgppakhoaaGreatDoorUqbf
namespace Go.Proofs.YtjhbplgppakhoaaGreatDoor
open Go Go.RowKit
set_option linter.unusedVariables false
def mkV (L : Nat) (m : Nat → Nat) : List Value := (List.range L).map (fun i => Value.int .i64 (m i))
def RowM (w : World) (b L : Nat) (m : Nat → Nat) : Prop := w.ownsRow b 3 1 (.slice (some ⟨b, 0, none⟩) L L) L (mkV L m)
theorem mkV_at (L : Nat) (m : Nat → Nat) (i : Nat) (h : i < L) : (mkV L m)[i]? = some (.int .i64 (m i)) := by simp [mkV, h]
theorem mkV_set (L : Nat) (m : Nat → Nat) (i v : Nat) : (mkV L m).set i (.int .i64 v) = mkV L (setM m i v) := by
  apply List.ext_getElem?
  intro j
  rw [List.getElem?_set]
  by_cases e : i = j
  · subst e
    by_cases h : i < L
    · simp [mkV, h, setM]
    · simp [mkV, h]
  · rw [if_neg e]
    have e' : ¬ j = i := fun h => e h.symm
    by_cases h : j < L
    · simp [mkV, h, setM, e']
    · simp [mkV, h]
theorem RowM.cell {w : World} {b L : Nat} {m : Nat → Nat} (h : RowM w b L m) (i : Nat) (hi : i < L) : w.cell? ⟨b, i, none⟩ = some (.int .i64 (m i)) := by
  rw [World.ownsRow.cellAt h i (by omega)]; exact mkV_at L m i hi
theorem RowM.lt {w : World} {b L : Nat} {m : Nat → Nat} (h : RowM w b L m) : b < w.heap.size := (World.ownsRow.lt h b rfl).2
theorem RowM.below {w w' : World} {b L : Nat} {m : Nat → Nat} (h : RowM w b L m) (hb : Below w.heap.size w w') : RowM w' b L m := row_below h hb
theorem RowM.put {w : World} {b L : Nat} {m : Nat → Nat} (h : RowM w b L m) (i v : Nat) : RowM (w.setCell ⟨b, i, none⟩ (.int .i64 v)) b L (setM m i v) := by
  have := (World.ownsRow.stored h i (.int .i64 v)).1
  rw [mkV_set] at this
  exact this
def WordK (xs : List Cel) (k n : Int) : Prop := (k = 0 → 0 ≤ n ∧ n < xs.length ∧ kndA xs n.toNat ≠ 3) ∧ (k = 4 → 0 ≤ n ∧ n < xs.length ∧ kndA xs n.toNat = 3)
theorem Shp.word {xs : List Cel} (hs : Shp xs) {a : Nat} (ha : a < xs.length) : WordK xs (kndA xs a) (numA xs a) := ⟨hs.refs a ha, hs.stru a ha⟩
end Go.Proofs.YtjhbplgppakhoaaGreatDoor

namespace Go.Proofs.YtjhbplgppakhoaaGreatDoor
open Go Go.RowKit Go.Maps
set_option linter.unusedVariables false
end Go.Proofs.YtjhbplgppakhoaaGreatDoor

namespace Go.Proofs.YtjhbplgppakhoaaGreatDoor
open Go Go.RowKit Go.Maps
set_option linter.unusedVariables false
end Go.Proofs.YtjhbplgppakhoaaGreatDoor

namespace Go.Proofs.YtjhbplgppakhoaaGreatDoor
open Go Go.RowKit
set_option linter.unusedVariables false
end Go.Proofs.YtjhbplgppakhoaaGreatDoor

