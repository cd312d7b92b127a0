/-
  DERIVED. GIVEN WITH THE SEED: THE CARDS: each row of YtelcfcgdnebdgaaGreatDoorRows.lean that lists a variable, with what it lists TIED to the program's text (the seventh form; the later family's looks); each row that meets fmt, with fmt's text TOLD by the authors' own Lean function (tested against real Go, not proved from fmt's source: count such statements apart). THE CARD IS WHAT COUNTS. Prove the row's statement (the work); the ties are given (YtelcfcgdnebdgaaGreatDoorTie.lean); close each card by the builder's one call (the guide's Derived/Test/ToyasCard.lean, 'card_holds'). Laid BY PROGRAM, IN A SANDBOX (cutbox-door.mjs). By AI agents, Wed Nov 11 2026. No macro, syntax, notation, axiom, sorry.
-/
import Derived.Test.YtelcfcgdnebdgaaGreatDoorRows
import GoSem.ClaimSeven
namespace Go.Proofs.YtelcfcgdnebdgaaGreatDoor
namespace Rows

/-- THE TIED CARD OF 'laws.FnExactWriteTerm'. -/
def fnExactWriteTermCard : Claim7 := { stood := { row := fnExactWriteTermRow, standIns := [], harness := (true, "e8d5216d741ed23a69e38b97fb828463ac903c63b0cbca06457fbdb83e0f3fd8"), looks := true }, kinds := [], alts := [], laidByText := true, laidKinds := [.data, .data, .data, .data], laidTests := true, laidLooks := .later }
def FnExactWriteTermCardSaid : Prop := Claim7.holds Tryz.pinned (.plain (OpenSpec.ofChange fnExactWriteTermSpec)) fnExactWriteTermCard

/-- THE TIED CARD OF 'laws.FnExactFormatAnswer'. -/
def fnExactFormatAnswerCard : Claim7 := { stood := { row := fnExactFormatAnswerRow, standIns := [], harness := (true, "e8d5216d741ed23a69e38b97fb828463ac903c63b0cbca06457fbdb83e0f3fd8"), looks := true }, kinds := [], alts := [], laidByText := true, laidKinds := [.data, .data, .data, .data], laidTests := true, laidLooks := .later }
def FnExactFormatAnswerCardSaid : Prop := Claim7.holds Tryz.pinned (.plain (OpenSpec.ofChange fnExactFormatAnswerSpec)) fnExactFormatAnswerCard

/-- THE SECOND FORM's CARD OF 'laws.FnExactWriteTerm'. -/
def fnExactWriteTermUptoCard : Claim7 := { stood := { row := fnExactWriteTermUptoRow, standIns := [], harness := (true, "e8d5216d741ed23a69e38b97fb828463ac903c63b0cbca06457fbdb83e0f3fd8"), looks := true }, kinds := [], alts := [], laidByText := true, laidKinds := [.data, .data, .data, .data], laidTests := true, laidLooks := .later }
def FnExactWriteTermUptoCardSaid : Prop := Claim7.holds Tryz.pinned (.plain (OpenSpec.upto fnExactWriteTermSpec)) fnExactWriteTermUptoCard

/-- THE SECOND FORM's CARD OF 'laws.FnExactFormatAnswer'. -/
def fnExactFormatAnswerUptoCard : Claim7 := { stood := { row := fnExactFormatAnswerUptoRow, standIns := [], harness := (true, "e8d5216d741ed23a69e38b97fb828463ac903c63b0cbca06457fbdb83e0f3fd8"), looks := true }, kinds := [], alts := [], laidByText := true, laidKinds := [.data, .data, .data, .data], laidTests := true, laidLooks := .later }
def FnExactFormatAnswerUptoCardSaid : Prop := Claim7.holds Tryz.pinned (.plain (OpenSpec.upto fnExactFormatAnswerSpec)) fnExactFormatAnswerUptoCard
end Rows
end Go.Proofs.YtelcfcgdnebdgaaGreatDoor
