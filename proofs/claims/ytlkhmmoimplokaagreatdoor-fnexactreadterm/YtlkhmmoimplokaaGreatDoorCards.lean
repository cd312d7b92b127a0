/-
  DERIVED. GIVEN WITH THE SEED: THE CARDS: each row of YtlkhmmoimplokaaGreatDoorRows.lean that lists a variable, with what it lists TIED to the program's text (the seventh form; the later family's looks); each row that meets fmt, with fmt's text TOLD by the authors' own Lean function (tested against real Go, not proved from fmt's source: count such statements apart). THE CARD IS WHAT COUNTS. Prove the row's statement (the work); the ties are given (YtlkhmmoimplokaaGreatDoorTie.lean); close each card by the builder's one call (the guide's Derived/Test/ToyasCard.lean, 'card_holds'). Laid BY PROGRAM, IN A SANDBOX (cutbox-door.mjs). By AI agents, Wed Nov 11 2026. No macro, syntax, notation, axiom, sorry.
-/
import Derived.Test.YtlkhmmoimplokaaGreatDoorRows
import GoSem.ClaimSeven
namespace Go.Proofs.YtlkhmmoimplokaaGreatDoor
namespace Rows

/-- THE TIED CARD OF 'laws.FnExactReadTerm'. -/
def fnExactReadTermCard : Claim7 := { stood := { row := fnExactReadTermRow, standIns := [], harness := (true, "d9c7f0b0b394e091afc08308fa01ab39771232362e02a0b2cecb4111a832e437"), looks := true }, kinds := [], alts := [], laidByText := true, laidKinds := [.handle, .data], laidTests := true, laidLooks := .later }
def FnExactReadTermCardSaid : Prop := Claim7.holds Tryz.pinned (.plain (OpenSpec.ofChange fnExactReadTermSpec)) fnExactReadTermCard

/-- THE TIED CARD OF 'laws.FnExactReadClauses'. -/
def fnExactReadClausesCard : Claim7 := { stood := { row := fnExactReadClausesRow, standIns := [], harness := (true, "d9c7f0b0b394e091afc08308fa01ab39771232362e02a0b2cecb4111a832e437"), looks := true }, kinds := [], alts := [], laidByText := true, laidKinds := [.handle, .data, .data], laidTests := true, laidLooks := .later }
def FnExactReadClausesCardSaid : Prop := Claim7.holds Tryz.pinned (.plain (OpenSpec.ofChange fnExactReadClausesSpec)) fnExactReadClausesCard

/-- THE SECOND FORM's CARD OF 'laws.FnExactReadTerm'. -/
def fnExactReadTermUptoCard : Claim7 := { stood := { row := fnExactReadTermUptoRow, standIns := [], harness := (true, "d9c7f0b0b394e091afc08308fa01ab39771232362e02a0b2cecb4111a832e437"), looks := true }, kinds := [], alts := [], laidByText := true, laidKinds := [.handle, .data], laidTests := true, laidLooks := .later }
def FnExactReadTermUptoCardSaid : Prop := Claim7.holds Tryz.pinned (.plain (OpenSpec.upto fnExactReadTermSpec)) fnExactReadTermUptoCard

/-- THE SECOND FORM's CARD OF 'laws.FnExactReadClauses'. -/
def fnExactReadClausesUptoCard : Claim7 := { stood := { row := fnExactReadClausesUptoRow, standIns := [], harness := (true, "d9c7f0b0b394e091afc08308fa01ab39771232362e02a0b2cecb4111a832e437"), looks := true }, kinds := [], alts := [], laidByText := true, laidKinds := [.handle, .data, .data], laidTests := true, laidLooks := .later }
def FnExactReadClausesUptoCardSaid : Prop := Claim7.holds Tryz.pinned (.plain (OpenSpec.upto fnExactReadClausesSpec)) fnExactReadClausesUptoCard
end Rows
end Go.Proofs.YtlkhmmoimplokaaGreatDoor
