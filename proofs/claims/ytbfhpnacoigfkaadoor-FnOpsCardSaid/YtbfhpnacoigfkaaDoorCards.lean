/-
  DERIVED. GIVEN WITH THE SEED: THE CARDS: each row of YtbfhpnacoigfkaaDoorRows.lean that lists a variable, with what it lists TIED to the program's text (the seventh form; the later family's looks); each row that meets fmt, with fmt's text TOLD by the authors' own Lean function (tested against real Go, not proved from fmt's source: count such statements apart). THE CARD IS WHAT COUNTS. Prove the row's statement (the work); the ties are given (YtbfhpnacoigfkaaDoorTie.lean); close each card by the builder's one call (the guide's Derived/Test/ToyasCard.lean, 'card_holds'). Laid BY PROGRAM, IN A SANDBOX (cutbox-door.mjs). By AI agents, Wed Nov 11 2026. No macro, syntax, notation, axiom, sorry.
-/
import Derived.Test.YtbfhpnacoigfkaaDoorRows
import GoSem.ClaimSeven
namespace Go.Proofs.YtbfhpnacoigfkaaDoor
namespace Rows

/-- THE TIED CARD OF 'laws.FnExactDefaultOps'. -/
def fnExactDefaultOpsCard : Claim7 := { stood := { row := fnExactDefaultOpsRow, standIns := [], harness := (true, "899e0f6cc89170d63d4f990f109fec5e19b9ead0a606b415544780e7ab6d1f41"), looks := false }, kinds := [], alts := [], laidByText := true, laidKinds := [.listed, .data], laidTests := true, laidLooks := .later }
def FnExactDefaultOpsCardSaid : Prop := Claim7.holds Tryd.pinned (.plain (OpenSpec.ofChange fnExactDefaultOpsSpec)) fnExactDefaultOpsCard

/-- THE TIED CARD OF 'laws.FnOps'. -/
def fnOpsCard : Claim7 := { stood := { row := fnOpsRow, standIns := [], harness := (true, "899e0f6cc89170d63d4f990f109fec5e19b9ead0a606b415544780e7ab6d1f41"), looks := false }, kinds := [], alts := [], laidByText := true, laidKinds := [.listed, .data], laidTests := true, laidLooks := .later }
def FnOpsCardSaid : Prop := Claim7.holds Tryd.pinned (.plain (OpenSpec.ofChange fnOpsSpec)) fnOpsCard

/-- THE SECOND FORM's CARD OF 'laws.FnExactDefaultOps'. -/
def fnExactDefaultOpsUptoCard : Claim7 := { stood := { row := fnExactDefaultOpsUptoRow, standIns := [], harness := (true, "899e0f6cc89170d63d4f990f109fec5e19b9ead0a606b415544780e7ab6d1f41"), looks := false }, kinds := [], alts := [], laidByText := true, laidKinds := [.listed, .data], laidTests := true, laidLooks := .later }
def FnExactDefaultOpsUptoCardSaid : Prop := Claim7.holds Tryd.pinned (.plain (OpenSpec.upto fnExactDefaultOpsSpec)) fnExactDefaultOpsUptoCard

/-- THE SECOND FORM's CARD OF 'laws.FnOps'. -/
def fnOpsUptoCard : Claim7 := { stood := { row := fnOpsUptoRow, standIns := [], harness := (true, "899e0f6cc89170d63d4f990f109fec5e19b9ead0a606b415544780e7ab6d1f41"), looks := false }, kinds := [], alts := [], laidByText := true, laidKinds := [.listed, .data], laidTests := true, laidLooks := .later }
def FnOpsUptoCardSaid : Prop := Claim7.holds Tryd.pinned (.plain (OpenSpec.upto fnOpsSpec)) fnOpsUptoCard
end Rows
end Go.Proofs.YtbfhpnacoigfkaaDoor
