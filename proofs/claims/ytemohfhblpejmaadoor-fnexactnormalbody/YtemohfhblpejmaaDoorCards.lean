/-
  DERIVED. GIVEN WITH THE SEED: THE CARDS: each row of YtemohfhblpejmaaDoorRows.lean that lists a variable, with what it lists TIED to the program's text (the seventh form; the later family's looks); each row that meets fmt, with fmt's text TOLD by the authors' own Lean function (tested against real Go, not proved from fmt's source: count such statements apart). THE CARD IS WHAT COUNTS. Prove the row's statement (the work); the ties are given (YtemohfhblpejmaaDoorTie.lean); close each card by the builder's one call (the guide's Derived/Test/ToyasCard.lean, 'card_holds'). Laid BY PROGRAM, IN A SANDBOX (cutbox-door.mjs). By AI agents, Wed Nov 11 2026. No macro, syntax, notation, axiom, sorry.
-/
import Derived.Test.YtemohfhblpejmaaDoorRows
import GoSem.ClaimSeven
namespace Go.Proofs.YtemohfhblpejmaaDoor
namespace Rows

/-- THE TIED CARD OF 'laws.FnExactNormalBody'. -/
def fnExactNormalBodyCard : Claim7 := { stood := { row := fnExactNormalBodyRow, standIns := [], harness := (true, "894c543d90e6973ca18f751fd21b5f2a625c68f1a45f69fc9a2870c6fa1e4585"), looks := true }, kinds := [], alts := [], laidByText := true, laidKinds := [.sentinel, .sentinel], laidTests := true, laidLooks := .later }
def FnExactNormalBodyCardSaid : Prop := Claim7.holds Tryd.pinned (.plain (OpenSpec.ofChange fnExactNormalBodySpec)) fnExactNormalBodyCard

/-- THE TIED CARD OF 'laws.FnExactTranslateGrammar'. -/
def fnExactTranslateGrammarCard : Claim7 := { stood := { row := fnExactTranslateGrammarRow, standIns := [], harness := (true, "894c543d90e6973ca18f751fd21b5f2a625c68f1a45f69fc9a2870c6fa1e4585"), looks := true }, kinds := [], alts := [], laidByText := true, laidKinds := [.sentinel, .sentinel], laidTests := true, laidLooks := .later }
def FnExactTranslateGrammarCardSaid : Prop := Claim7.holds Tryd.pinned (.plain (OpenSpec.ofChange fnExactTranslateGrammarSpec)) fnExactTranslateGrammarCard

/-- THE SECOND FORM's CARD OF 'laws.FnExactNormalBody'. -/
def fnExactNormalBodyUptoCard : Claim7 := { stood := { row := fnExactNormalBodyUptoRow, standIns := [], harness := (true, "894c543d90e6973ca18f751fd21b5f2a625c68f1a45f69fc9a2870c6fa1e4585"), looks := true }, kinds := [], alts := [], laidByText := true, laidKinds := [.sentinel, .sentinel], laidTests := true, laidLooks := .later }
def FnExactNormalBodyUptoCardSaid : Prop := Claim7.holds Tryd.pinned (.plain (OpenSpec.upto fnExactNormalBodySpec)) fnExactNormalBodyUptoCard

/-- THE SECOND FORM's CARD OF 'laws.FnExactTranslateGrammar'. -/
def fnExactTranslateGrammarUptoCard : Claim7 := { stood := { row := fnExactTranslateGrammarUptoRow, standIns := [], harness := (true, "894c543d90e6973ca18f751fd21b5f2a625c68f1a45f69fc9a2870c6fa1e4585"), looks := true }, kinds := [], alts := [], laidByText := true, laidKinds := [.sentinel, .sentinel], laidTests := true, laidLooks := .later }
def FnExactTranslateGrammarUptoCardSaid : Prop := Claim7.holds Tryd.pinned (.plain (OpenSpec.upto fnExactTranslateGrammarSpec)) fnExactTranslateGrammarUptoCard
end Rows
end Go.Proofs.YtemohfhblpejmaaDoor
