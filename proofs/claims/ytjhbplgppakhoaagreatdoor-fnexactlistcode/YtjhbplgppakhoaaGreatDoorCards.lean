/-
  DERIVED. GIVEN WITH THE SEED: THE CARDS: each row of YtjhbplgppakhoaaGreatDoorRows.lean that lists a variable, with what it lists TIED to the program's text (the seventh form; the later family's looks); each row that meets fmt, with fmt's text TOLD by the authors' own Lean function (tested against real Go, not proved from fmt's source: count such statements apart). THE CARD IS WHAT COUNTS. Prove the row's statement (the work); the ties are given (YtjhbplgppakhoaaGreatDoorTie.lean); close each card by the builder's one call (the guide's Derived/Test/ToyasCard.lean, 'card_holds'). Laid BY PROGRAM, IN A SANDBOX (cutbox-door.mjs). By AI agents, Wed Nov 11 2026. No macro, syntax, notation, axiom, sorry.
-/
import Derived.Test.YtjhbplgppakhoaaGreatDoorRows
import GoSem.ClaimSeven
namespace Go.Proofs.YtjhbplgppakhoaaGreatDoor
namespace Rows

/-- THE TIED CARD OF 'laws.FnExactWriteTerm'. -/
def fnExactWriteTermCard : Claim7 := { stood := { row := fnExactWriteTermRow, standIns := [], harness := (true, "76a12befc68492ee3d7aa456ba7a1cd888b9217ced8284c0fc57bc2dd86b0aae"), looks := true }, kinds := [], alts := [], laidByText := true, laidKinds := [.data, .data, .data, .data], laidTests := true, laidLooks := .later }
def FnExactWriteTermCardSaid : Prop := Claim7.holds Tryz.pinned (.plain (OpenSpec.ofChange fnExactWriteTermSpec)) fnExactWriteTermCard

/-- THE TIED CARD OF 'laws.FnExactListCode'. -/
def fnExactListCodeCard : Claim7 := { stood := { row := fnExactListCodeRow, standIns := [], harness := (true, "76a12befc68492ee3d7aa456ba7a1cd888b9217ced8284c0fc57bc2dd86b0aae"), looks := true }, kinds := [], alts := [], laidByText := true, laidKinds := [.data, .data, .data, .data], laidTests := true, laidLooks := .later }
def FnExactListCodeCardSaid : Prop := Claim7.holds Tryz.pinned (.plain (OpenSpec.ofChange fnExactListCodeSpec)) fnExactListCodeCard

/-- THE SECOND FORM's CARD OF 'laws.FnExactWriteTerm'. -/
def fnExactWriteTermUptoCard : Claim7 := { stood := { row := fnExactWriteTermUptoRow, standIns := [], harness := (true, "76a12befc68492ee3d7aa456ba7a1cd888b9217ced8284c0fc57bc2dd86b0aae"), looks := true }, kinds := [], alts := [], laidByText := true, laidKinds := [.data, .data, .data, .data], laidTests := true, laidLooks := .later }
def FnExactWriteTermUptoCardSaid : Prop := Claim7.holds Tryz.pinned (.plain (OpenSpec.upto fnExactWriteTermSpec)) fnExactWriteTermUptoCard

/-- THE SECOND FORM's CARD OF 'laws.FnExactListCode'. -/
def fnExactListCodeUptoCard : Claim7 := { stood := { row := fnExactListCodeUptoRow, standIns := [], harness := (true, "76a12befc68492ee3d7aa456ba7a1cd888b9217ced8284c0fc57bc2dd86b0aae"), looks := true }, kinds := [], alts := [], laidByText := true, laidKinds := [.data, .data, .data, .data], laidTests := true, laidLooks := .later }
def FnExactListCodeUptoCardSaid : Prop := Claim7.holds Tryz.pinned (.plain (OpenSpec.upto fnExactListCodeSpec)) fnExactListCodeUptoCard
end Rows
end Go.Proofs.YtjhbplgppakhoaaGreatDoor
