/-
  DERIVED. GIVEN WITH THE SEED: THE CARDS: each row of YtkklidpnkofipaaGreatDoorRows.lean that lists a variable, with what it lists TIED to the program's text (the seventh form; the later family's looks); each row that meets fmt, with fmt's text TOLD by the authors' own Lean function (tested against real Go, not proved from fmt's source: count such statements apart). THE CARD IS WHAT COUNTS. Prove the row's statement (the work); the ties are given (YtkklidpnkofipaaGreatDoorTie.lean); close each card by the builder's one call (the guide's Derived/Test/ToyasCard.lean, 'card_holds'). Laid BY PROGRAM, IN A SANDBOX (cutbox-door.mjs). By AI agents, Wed Nov 11 2026. No macro, syntax, notation, axiom, sorry.
-/
import Derived.Test.YtkklidpnkofipaaGreatDoorRows
import GoSem.ClaimSeven
namespace Go.Proofs.YtkklidpnkofipaaGreatDoor
namespace Rows

/-- THE TIED CARD OF 'laws.FnEval'. -/
def fnEvalCard : Claim7 := { stood := { row := fnEvalRow, standIns := [], harness := (true, "86111d7e625c32e173c918691f15d1f5373c23b49b8fbc4df67ff0c50abf66ce"), looks := true }, kinds := [], alts := [], laidByText := true, laidKinds := [.handle, .data, .listed, .sentinel, .sentinel, .data, .data, .data, .data], laidTests := true, laidLooks := .later }
def FnEvalCardSaid : Prop := Claim7.holds Tryz.pinned (.plain (OpenSpec.ofChange fnEvalSpec)) fnEvalCard

/-- THE SECOND FORM's CARD OF 'laws.FnEval'. -/
def fnEvalUptoCard : Claim7 := { stood := { row := fnEvalUptoRow, standIns := [], harness := (true, "86111d7e625c32e173c918691f15d1f5373c23b49b8fbc4df67ff0c50abf66ce"), looks := true }, kinds := [], alts := [], laidByText := true, laidKinds := [.handle, .data, .listed, .sentinel, .sentinel, .data, .data, .data, .data], laidTests := true, laidLooks := .later }
def FnEvalUptoCardSaid : Prop := Claim7.holds Tryz.pinned (.plain (OpenSpec.upto fnEvalSpec)) fnEvalUptoCard
end Rows
end Go.Proofs.YtkklidpnkofipaaGreatDoor
