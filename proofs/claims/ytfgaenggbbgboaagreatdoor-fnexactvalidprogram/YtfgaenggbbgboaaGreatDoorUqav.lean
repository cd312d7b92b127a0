/- Texts of Pure, Base, Base2, Strs, Plain. Own work of the verifier. -/
import Derived.WalkKit
import Derived.Test.YtfgaenggbbgboaaGreatDoorUqaa
import Derived.Laws.BytesArg
import Derived.Lib.Strings
import Derived.WideShapes
import Derived.Lib.SlBytesConst
import Derived.Deep.Light
namespace Go.Proofs.YtfgaenggbbgboaaGreatDoor
open Go
def tab : List Int := [0, 0, 0, 0, 0, 0, 0, 0, 0, 16, 16, 0, 0, 16, 0, 0, 0, 0, 0, 0, 0, 0, 0, 0, 0, 0, 0, 0, 0, 0, 0, 0,
  16, 32, 0, 8, 8, 0, 8, 0, 64, 64, 8, 8, 64, 8, 8, 8, 4, 4, 4, 4, 4, 4, 4, 4, 4, 4, 8, 32, 8, 8, 8, 8,
  8, 2, 2, 2, 2, 2, 2, 2, 2, 2, 2, 2, 2, 2, 2, 2, 2, 2, 2, 2, 2, 2, 2, 2, 2, 2, 2, 64, 8, 64, 8, 2,
  0, 1, 1, 1, 1, 1, 1, 1, 1, 1, 1, 1, 1, 1, 1, 1, 1, 1, 1, 1, 1, 1, 1, 1, 1, 1, 1, 64, 64, 64, 8, 0]
def Bytes (xs : List Int) : Prop := ∀ x ∈ xs, 0 ≤ x ∧ x < 256
theorem Bytes.at {xs : List Int} (h : Bytes xs) (i : Nat) : 0 ≤ xs.getD i 0 ∧ xs.getD i 0 < 256 := by
  by_cases hi : i < xs.length
  · have := h xs[i] (List.getElem_mem hi)
    simpa [List.getD, hi] using this
  · simp [List.getD, List.getElem?_eq_none (Nat.le_of_not_lt hi)]
theorem Bytes.take {xs : List Int} (h : Bytes xs) (n : Nat) : Bytes (xs.take n) := fun x hx => h x (List.mem_of_mem_take hx)
theorem Bytes.drop {xs : List Int} (h : Bytes xs) (n : Nat) : Bytes (xs.drop n) := fun x hx => h x (List.mem_of_mem_drop hx)
end Go.Proofs.YtfgaenggbbgboaaGreatDoor

namespace Go.Proofs.YtfgaenggbbgboaaGreatDoor
open Go Go.RowKit
end Go.Proofs.YtfgaenggbbgboaaGreatDoor

namespace Go.Proofs.YtfgaenggbbgboaaGreatDoor
open Go Go.RowKit
set_option linter.unusedVariables false
end Go.Proofs.YtfgaenggbbgboaaGreatDoor

namespace Go.Proofs.YtfgaenggbbgboaaGreatDoor
open Go Go.RowKit
end Go.Proofs.YtfgaenggbbgboaaGreatDoor

namespace Go.Proofs.YtfgaenggbbgboaaGreatDoor
open Go Go.RowKit
set_option linter.unusedVariables false
end Go.Proofs.YtfgaenggbbgboaaGreatDoor

