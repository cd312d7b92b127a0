/-
  DERIVED. GIVEN WITH THE SEED: THE CARDS: each row of YtfgaenggbbgboaaGreatDoorRows.lean that lists a variable, with what it lists TIED to the program's text (the seventh form; the later family's looks); each row that meets fmt, with fmt's text TOLD by the authors' own Lean function (tested against real Go, not proved from fmt's source: count such statements apart). THE CARD IS WHAT COUNTS. Prove the row's statement (the work); the ties are given (YtfgaenggbbgboaaGreatDoorTie.lean); close each card by the builder's one call (the guide's Derived/Test/ToyasCard.lean, 'card_holds'). Laid BY PROGRAM, IN A SANDBOX (cutbox-door.mjs). By AI agents, Wed Nov 11 2026. No macro, syntax, notation, axiom, sorry.
-/
import Derived.Test.YtfgaenggbbgboaaGreatDoorRows
import GoSem.ClaimSeven
namespace Go.Proofs.YtfgaenggbbgboaaGreatDoor
namespace Rows

/-- THE TIED CARD OF 'laws.FnExactValidProgram'. -/
def fnExactValidProgramCard : Claim7 := { stood := { row := fnExactValidProgramRow, standIns := [], harness := (true, "78f8032e08dc9c93634033c215cb4cda2a665ce828e1fc48a27ff2ef97ca6165"), looks := true }, kinds := [], alts := [], laidByText := true, laidKinds := [.sentinel, .sentinel, .handle, .data, .data, .data, .data], laidTests := true, laidLooks := .later }
def FnExactValidProgramCardSaid : Prop := Claim7.holds Tryz.pinned (.plain (OpenSpec.ofChange fnExactValidProgramSpec)) fnExactValidProgramCard

/-- THE SECOND FORM's CARD OF 'laws.FnExactValidProgram'. -/
def fnExactValidProgramUptoCard : Claim7 := { stood := { row := fnExactValidProgramUptoRow, standIns := [], harness := (true, "78f8032e08dc9c93634033c215cb4cda2a665ce828e1fc48a27ff2ef97ca6165"), looks := true }, kinds := [], alts := [], laidByText := true, laidKinds := [.sentinel, .sentinel, .handle, .data, .data, .data, .data], laidTests := true, laidLooks := .later }
def FnExactValidProgramUptoCardSaid : Prop := Claim7.holds Tryz.pinned (.plain (OpenSpec.upto fnExactValidProgramSpec)) fnExactValidProgramUptoCard
end Rows
end Go.Proofs.YtfgaenggbbgboaaGreatDoor
