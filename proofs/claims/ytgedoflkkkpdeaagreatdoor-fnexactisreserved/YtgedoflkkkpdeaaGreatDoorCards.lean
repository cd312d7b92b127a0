/-
  DERIVED. GIVEN WITH THE SEED: THE CARDS: each row of YtgedoflkkkpdeaaGreatDoorRows.lean that lists a variable, with what it lists TIED to the program's text (the seventh form; the later family's looks); each row that meets fmt, with fmt's text TOLD by the authors' own Lean function (tested against real Go, not proved from fmt's source: count such statements apart). THE CARD IS WHAT COUNTS. Prove the row's statement (the work); the ties are given (YtgedoflkkkpdeaaGreatDoorTie.lean); close each card by the builder's one call (the guide's Derived/Test/ToyasCard.lean, 'card_holds'). Laid BY PROGRAM, IN A SANDBOX (cutbox-door.mjs). By AI agents, Wed Nov 11 2026. No macro, syntax, notation, axiom, sorry.
-/
import Derived.Test.YtgedoflkkkpdeaaGreatDoorRows
import GoSem.ClaimSeven
namespace Go.Proofs.YtgedoflkkkpdeaaGreatDoor
namespace Rows

/-- THE TIED CARD OF 'laws.FnExactIsBuiltin'. -/
def fnExactIsBuiltinCard : Claim7 := { stood := { row := fnExactIsBuiltinRow, standIns := [], harness := (true, "8b683c867a10434f5964784eacff397891644fe39743187b3510bab285c72256"), looks := true }, kinds := [], alts := [], laidByText := true, laidKinds := [.data, .data, .data, .handle, .data, .sentinel, .sentinel], laidTests := true, laidLooks := .later }
def FnExactIsBuiltinCardSaid : Prop := Claim7.holds Tryz.pinned (.plain (OpenSpec.ofChange fnExactIsBuiltinSpec)) fnExactIsBuiltinCard

/-- THE TIED CARD OF 'laws.FnExactIsReserved'. -/
def fnExactIsReservedCard : Claim7 := { stood := { row := fnExactIsReservedRow, standIns := [], harness := (true, "8b683c867a10434f5964784eacff397891644fe39743187b3510bab285c72256"), looks := true }, kinds := [], alts := [], laidByText := true, laidKinds := [.data, .data, .data, .handle, .data, .sentinel, .sentinel], laidTests := true, laidLooks := .later }
def FnExactIsReservedCardSaid : Prop := Claim7.holds Tryz.pinned (.plain (OpenSpec.ofChange fnExactIsReservedSpec)) fnExactIsReservedCard

/-- THE SECOND FORM's CARD OF 'laws.FnExactIsBuiltin'. -/
def fnExactIsBuiltinUptoCard : Claim7 := { stood := { row := fnExactIsBuiltinUptoRow, standIns := [], harness := (true, "8b683c867a10434f5964784eacff397891644fe39743187b3510bab285c72256"), looks := true }, kinds := [], alts := [], laidByText := true, laidKinds := [.data, .data, .data, .handle, .data, .sentinel, .sentinel], laidTests := true, laidLooks := .later }
def FnExactIsBuiltinUptoCardSaid : Prop := Claim7.holds Tryz.pinned (.plain (OpenSpec.upto fnExactIsBuiltinSpec)) fnExactIsBuiltinUptoCard

/-- THE SECOND FORM's CARD OF 'laws.FnExactIsReserved'. -/
def fnExactIsReservedUptoCard : Claim7 := { stood := { row := fnExactIsReservedUptoRow, standIns := [], harness := (true, "8b683c867a10434f5964784eacff397891644fe39743187b3510bab285c72256"), looks := true }, kinds := [], alts := [], laidByText := true, laidKinds := [.data, .data, .data, .handle, .data, .sentinel, .sentinel], laidTests := true, laidLooks := .later }
def FnExactIsReservedUptoCardSaid : Prop := Claim7.holds Tryz.pinned (.plain (OpenSpec.upto fnExactIsReservedSpec)) fnExactIsReservedUptoCard
end Rows
end Go.Proofs.YtgedoflkkkpdeaaGreatDoor
