/- The builtins' names and arities, as lists. Own work of the verifier. Made by wip/draft/ibn.py. -/
import Derived.Test.YtgedoflkkkpdeaaGreatDoorDefW
namespace Go.Proofs.YtgedoflkkkpdeaaGreatDoor
open Go Go.RowKit
set_option linter.unusedVariables false

/-- The names by arities. -/
def bRows : List (List UInt8) := [[116, 114, 117, 101, 32, 102, 97, 105, 108, 32, 102, 97, 108, 115, 101, 32, 110, 108],
  [118, 97, 114, 32, 110, 111, 110, 118, 97, 114, 32, 97, 116, 111, 109, 32, 105, 110, 116, 101, 103, 101, 114, 32, 97, 116, 111, 109, 105, 99, 32, 99, 111, 109, 112, 111, 117, 110, 100, 32, 99, 97, 108, 108, 97, 98, 108, 101, 32, 105, 115, 95, 108, 105, 115, 116, 32, 103, 114, 111, 117, 110, 100, 32, 119, 114, 105, 116, 101, 32, 119, 114, 105, 116, 101, 113, 32, 112, 114, 105, 110, 116, 32, 116, 97, 98],
  [61, 32, 92, 61, 32, 61, 61, 32, 92, 61, 61, 32, 64, 60, 32, 64, 61, 60, 32, 64, 62, 32, 64, 62, 61, 32, 105, 115, 32, 61, 58, 61, 32, 61, 92, 61, 32, 60, 32, 61, 60, 32, 62, 32, 62, 61, 32, 61, 46, 46, 32, 99, 111, 112, 121, 95, 116, 101, 114, 109, 32, 108, 101, 110, 103, 116, 104, 32, 97, 116, 111, 109, 95, 108, 101, 110, 103, 116, 104, 32, 97, 116, 111, 109, 95, 99, 111, 100, 101, 115, 32, 97, 116, 111, 109, 95, 99, 104, 97, 114, 115, 32, 99, 104, 97, 114, 95, 99, 111, 100, 101, 32, 110, 117, 109, 98, 101, 114, 95, 99, 111, 100, 101, 115, 32, 109, 115, 111, 114, 116, 32, 115, 111, 114, 116],
  [99, 111, 109, 112, 97, 114, 101, 32, 102, 117, 110, 99, 116, 111, 114, 32, 97, 114, 103]]
def bRow (k : Nat) : List UInt8 := bRows.getD k []
/-- The first rows: names with arities. -/
def bTab (k : Nat) : List (List UInt8 × Int) := (List.range k).flatMap fun j => (wd [] (bRow j)).map fun x => (x, (j : Int))
theorem bTab_next (k : Nat) : bTab (k + 1) = bTab k ++ (wd [] (bRow k)).map fun x => (x, (k : Int)) := by simp [bTab, List.range_succ]
set_option maxRecDepth 100000 in
theorem bTab_len : (bTab 4).length = 45 ∧ (List.range 4).all (fun k => decide ((bRow k).length ≤ 400 ∧ (wd [] (bRow k)).length ≤ 45 ∧ (bTab k).length + (wd [] (bRow k)).length ≤ 45)) = true := by decide
/-- Whether this is one of them. -/
def isBu (x : List UInt8) (a : Int) : Bool := (bTab 4).any fun p => decide (p.1 = x) && decide (p.2 = a)
/-- The entries in the program's order. -/
def bEnts : List (List UInt8 × Int) := [
  ([116, 114, 117, 101], 0),
  ([102, 97, 105, 108], 0),
  ([102, 97, 108, 115, 101], 0),
  ([61], 2),
  ([92, 61], 2),
  ([61, 61], 2),
  ([92, 61, 61], 2),
  ([64, 60], 2),
  ([64, 61, 60], 2),
  ([64, 62], 2),
  ([64, 62, 61], 2),
  ([99, 111, 109, 112, 97, 114, 101], 3),
  ([118, 97, 114], 1),
  ([110, 111, 110, 118, 97, 114], 1),
  ([97, 116, 111, 109], 1),
  ([105, 110, 116, 101, 103, 101, 114], 1),
  ([97, 116, 111, 109, 105, 99], 1),
  ([99, 111, 109, 112, 111, 117, 110, 100], 1),
  ([99, 97, 108, 108, 97, 98, 108, 101], 1),
  ([105, 115, 95, 108, 105, 115, 116], 1),
  ([103, 114, 111, 117, 110, 100], 1),
  ([105, 115], 2),
  ([61, 58, 61], 2),
  ([61, 92, 61], 2),
  ([60], 2),
  ([61, 60], 2),
  ([62], 2),
  ([62, 61], 2),
  ([102, 117, 110, 99, 116, 111, 114], 3),
  ([97, 114, 103], 3),
  ([61, 46, 46], 2),
  ([99, 111, 112, 121, 95, 116, 101, 114, 109], 2),
  ([108, 101, 110, 103, 116, 104], 2),
  ([97, 116, 111, 109, 95, 108, 101, 110, 103, 116, 104], 2),
  ([97, 116, 111, 109, 95, 99, 111, 100, 101, 115], 2),
  ([97, 116, 111, 109, 95, 99, 104, 97, 114, 115], 2),
  ([99, 104, 97, 114, 95, 99, 111, 100, 101], 2),
  ([110, 117, 109, 98, 101, 114, 95, 99, 111, 100, 101, 115], 2),
  ([109, 115, 111, 114, 116], 2),
  ([115, 111, 114, 116], 2),
  ([119, 114, 105, 116, 101], 1),
  ([119, 114, 105, 116, 101, 113], 1),
  ([112, 114, 105, 110, 116], 1),
  ([110, 108], 0),
  ([116, 97, 98], 1)]
set_option maxRecDepth 100000 in
theorem bEnts_tab : (bEnts.all fun p => (bTab 4).any fun q => decide (q.1 = p.1) && decide (q.2 = p.2)) = true := by decide
set_option maxRecDepth 100000 in
theorem bTab_ents : ((bTab 4).all fun p => bEnts.any fun q => decide (q.1 = p.1) && decide (q.2 = p.2)) = true := by decide
theorem isBu_ents (x : List UInt8) (a : Int) : isBu x a = bEnts.any fun q => decide (q.1 = x) && decide (q.2 = a) := by
  have key : ∀ l l' : List (List UInt8 × Int), (l.all fun p => l'.any fun q => decide (q.1 = p.1) && decide (q.2 = p.2)) = true → (l.any fun q => decide (q.1 = x) && decide (q.2 = a)) = true → (l'.any fun q => decide (q.1 = x) && decide (q.2 = a)) = true := by
    intro l l' h h1
    obtain ⟨p, hp, h2⟩ := List.any_eq_true.1 h1
    simp only [Bool.and_eq_true, decide_eq_true_eq] at h2
    have h3 := List.all_eq_true.1 h p hp
    rw [h2.1, h2.2] at h3
    exact h3
  unfold isBu
  cases h : (bTab 4).any fun p => decide (p.1 = x) && decide (p.2 = a) with
  | true => exact (key _ _ bTab_ents h).symm
  | false =>
    cases h2 : bEnts.any fun q => decide (q.1 = x) && decide (q.2 = a) with
    | false => rfl
    | true => rw [key _ _ bEnts_tab h2] at h; cases h

end Go.Proofs.YtgedoflkkkpdeaaGreatDoor
