/-
  DERIVED. GIVEN WITH THE SEED: THE CARDS: each row of YtickbkcpcgmlmaaGreatDoorRows.lean that lists a variable, with what it lists TIED to the program's text (the seventh form; the later family's looks); each row that meets fmt, with fmt's text TOLD by the authors' own Lean function (tested against real Go, not proved from fmt's source: count such statements apart). THE CARD IS WHAT COUNTS. Prove the row's statement (the work); the ties are given (YtickbkcpcgmlmaaGreatDoorTie.lean); close each card by the builder's one call (the guide's Derived/Test/ToyasCard.lean, 'card_holds'). Laid BY PROGRAM, IN A SANDBOX (cutbox-door.mjs). By AI agents, Wed Nov 11 2026. No macro, syntax, notation, axiom, sorry.
-/
import Derived.Test.YtickbkcpcgmlmaaGreatDoorRows
import GoSem.ClaimSeven
namespace Go.Proofs.YtickbkcpcgmlmaaGreatDoor
namespace Rows

/-- THE TIED CARD OF 'laws.FnExactCompileClause'. -/
def fnExactCompileClauseCard : Claim7 := { stood := { row := fnExactCompileClauseRow, standIns := [], harness := (true, "0b25a18399b8a111ad66f10aa745314f4f0bd90b01af0a623962407e2d419c1b"), looks := true }, kinds := [], alts := [], laidByText := true, laidKinds := [.sentinel, .sentinel, .handle, .data, .data, .data, .data], laidTests := true, laidLooks := .later }
def FnExactCompileClauseCardSaid : Prop := Claim7.holds Tryz.pinned (.plain (OpenSpec.ofChange fnExactCompileClauseSpec)) fnExactCompileClauseCard

/-- THE SECOND FORM's CARD OF 'laws.FnExactCompileClause'. -/
def fnExactCompileClauseUptoCard : Claim7 := { stood := { row := fnExactCompileClauseUptoRow, standIns := [], harness := (true, "0b25a18399b8a111ad66f10aa745314f4f0bd90b01af0a623962407e2d419c1b"), looks := true }, kinds := [], alts := [], laidByText := true, laidKinds := [.sentinel, .sentinel, .handle, .data, .data, .data, .data], laidTests := true, laidLooks := .later }
def FnExactCompileClauseUptoCardSaid : Prop := Claim7.holds Tryz.pinned (.plain (OpenSpec.upto fnExactCompileClauseSpec)) fnExactCompileClauseUptoCard
end Rows
end Go.Proofs.YtickbkcpcgmlmaaGreatDoor
