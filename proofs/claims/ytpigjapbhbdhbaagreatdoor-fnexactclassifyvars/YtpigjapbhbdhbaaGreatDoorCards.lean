/-
  DERIVED. GIVEN WITH THE SEED: THE CARDS: each row of YtpigjapbhbdhbaaGreatDoorRows.lean that lists a variable, with what it lists TIED to the program's text (the seventh form; the later family's looks); each row that meets fmt, with fmt's text TOLD by the authors' own Lean function (tested against real Go, not proved from fmt's source: count such statements apart). THE CARD IS WHAT COUNTS. Prove the row's statement (the work); the ties are given (YtpigjapbhbdhbaaGreatDoorTie.lean); close each card by the builder's one call (the guide's Derived/Test/ToyasCard.lean, 'card_holds'). Laid BY PROGRAM, IN A SANDBOX (cutbox-door.mjs). By AI agents, Wed Nov 11 2026. No macro, syntax, notation, axiom, sorry.
-/
import Derived.Test.YtpigjapbhbdhbaaGreatDoorRows
import GoSem.ClaimSeven
namespace Go.Proofs.YtpigjapbhbdhbaaGreatDoor
namespace Rows

/-- THE TIED CARD OF 'laws.FnExactClassifyVars'. -/
def fnExactClassifyVarsCard : Claim7 := { stood := { row := fnExactClassifyVarsRow, standIns := [], harness := (true, "0e26bc6732802af15f7c6595822260383b8f9d2534d4fd774a4a78f0e385fef5"), looks := true }, kinds := [], alts := [], laidByText := true, laidKinds := [.data, .data, .data, .handle, .data, .sentinel, .sentinel], laidTests := true, laidLooks := .later }
def FnExactClassifyVarsCardSaid : Prop := Claim7.holds Tryz.pinned (.plain (OpenSpec.ofChange fnExactClassifyVarsSpec)) fnExactClassifyVarsCard

/-- THE SECOND FORM's CARD OF 'laws.FnExactClassifyVars'. -/
def fnExactClassifyVarsUptoCard : Claim7 := { stood := { row := fnExactClassifyVarsUptoRow, standIns := [], harness := (true, "0e26bc6732802af15f7c6595822260383b8f9d2534d4fd774a4a78f0e385fef5"), looks := true }, kinds := [], alts := [], laidByText := true, laidKinds := [.data, .data, .data, .handle, .data, .sentinel, .sentinel], laidTests := true, laidLooks := .later }
def FnExactClassifyVarsUptoCardSaid : Prop := Claim7.holds Tryz.pinned (.plain (OpenSpec.upto fnExactClassifyVarsSpec)) fnExactClassifyVarsUptoCard
end Rows
end Go.Proofs.YtpigjapbhbdhbaaGreatDoor
