/-
  DERIVED. GIVEN WITH THE SEED: THE CARDS: each row of YtbnmmcegjlmdmaaGreatDoorRows.lean that lists a variable, with what it lists TIED to the program's text (the seventh form; the later family's looks); each row that meets fmt, with fmt's text TOLD by the authors' own Lean function (tested against real Go, not proved from fmt's source: count such statements apart). THE CARD IS WHAT COUNTS. Prove the row's statement (the work); the ties are given (YtbnmmcegjlmdmaaGreatDoorTie.lean); close each card by the builder's one call (the guide's Derived/Test/ToyasCard.lean, 'card_holds'). Laid BY PROGRAM, IN A SANDBOX (cutbox-door.mjs). By AI agents, Wed Nov 11 2026. No macro, syntax, notation, axiom, sorry.
-/
import Derived.Test.YtbnmmcegjlmdmaaGreatDoorRows
import GoSem.ClaimSeven
namespace Go.Proofs.YtbnmmcegjlmdmaaGreatDoor
namespace Rows

/-- THE TIED CARD OF 'laws.FnExactTranslateGrammar'. -/
def fnExactTranslateGrammarCard : Claim7 := { stood := { row := fnExactTranslateGrammarRow, standIns := [], harness := (true, "e12979dc538dc91c0188d1db104b96ed254563e6ad6fdd798f579a90baecca93"), looks := true }, kinds := [], alts := [], laidByText := true, laidKinds := [.sentinel, .sentinel], laidTests := true, laidLooks := .later }
def FnExactTranslateGrammarCardSaid : Prop := Claim7.holds Tryz.pinned (.plain (OpenSpec.ofChange fnExactTranslateGrammarSpec)) fnExactTranslateGrammarCard

/-- THE SECOND FORM's CARD OF 'laws.FnExactTranslateGrammar'. -/
def fnExactTranslateGrammarUptoCard : Claim7 := { stood := { row := fnExactTranslateGrammarUptoRow, standIns := [], harness := (true, "e12979dc538dc91c0188d1db104b96ed254563e6ad6fdd798f579a90baecca93"), looks := true }, kinds := [], alts := [], laidByText := true, laidKinds := [.sentinel, .sentinel], laidTests := true, laidLooks := .later }
def FnExactTranslateGrammarUptoCardSaid : Prop := Claim7.holds Tryz.pinned (.plain (OpenSpec.upto fnExactTranslateGrammarSpec)) fnExactTranslateGrammarUptoCard
end Rows
end Go.Proofs.YtbnmmcegjlmdmaaGreatDoor
