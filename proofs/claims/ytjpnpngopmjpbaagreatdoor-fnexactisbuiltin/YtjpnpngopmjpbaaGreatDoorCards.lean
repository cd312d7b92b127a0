/-
  DERIVED. GIVEN WITH THE SEED: THE CARDS: each row of YtjpnpngopmjpbaaGreatDoorRows.lean that lists a variable, with what it lists TIED to the program's text (the seventh form; the later family's looks); each row that meets fmt, with fmt's text TOLD by the authors' own Lean function (tested against real Go, not proved from fmt's source: count such statements apart). THE CARD IS WHAT COUNTS. Prove the row's statement (the work); the ties are given (YtjpnpngopmjpbaaGreatDoorTie.lean); close each card by the builder's one call (the guide's Derived/Test/ToyasCard.lean, 'card_holds'). Laid BY PROGRAM, IN A SANDBOX (cutbox-door.mjs). By AI agents, Wed Nov 11 2026. No macro, syntax, notation, axiom, sorry.
-/
import Derived.Test.YtjpnpngopmjpbaaGreatDoorRows
import GoSem.ClaimSeven
namespace Go.Proofs.YtjpnpngopmjpbaaGreatDoor
namespace Rows

/-- THE TIED CARD OF 'laws.FnExactIsBuiltin'. -/
def fnExactIsBuiltinCard : Claim7 := { stood := { row := fnExactIsBuiltinRow, standIns := [], harness := (true, "e5199a4d8a737222c4aa8bfbcf251216427fa64e403d53c1969631200ace1cf3"), looks := true }, kinds := [], alts := [], laidByText := true, laidKinds := [.data, .data, .data, .handle, .data, .sentinel, .sentinel], laidTests := true, laidLooks := .later }
def FnExactIsBuiltinCardSaid : Prop := Claim7.holds Tryz.pinned (.plain (OpenSpec.ofChange fnExactIsBuiltinSpec)) fnExactIsBuiltinCard

/-- THE SECOND FORM's CARD OF 'laws.FnExactIsBuiltin'. -/
def fnExactIsBuiltinUptoCard : Claim7 := { stood := { row := fnExactIsBuiltinUptoRow, standIns := [], harness := (true, "e5199a4d8a737222c4aa8bfbcf251216427fa64e403d53c1969631200ace1cf3"), looks := true }, kinds := [], alts := [], laidByText := true, laidKinds := [.data, .data, .data, .handle, .data, .sentinel, .sentinel], laidTests := true, laidLooks := .later }
def FnExactIsBuiltinUptoCardSaid : Prop := Claim7.holds Tryz.pinned (.plain (OpenSpec.upto fnExactIsBuiltinSpec)) fnExactIsBuiltinUptoCard
end Rows
end Go.Proofs.YtjpnpngopmjpbaaGreatDoor
