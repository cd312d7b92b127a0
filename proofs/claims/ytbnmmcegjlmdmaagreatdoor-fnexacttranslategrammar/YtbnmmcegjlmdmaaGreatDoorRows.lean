/-
  NARROWER THAN 'FOR EVERY INPUT', by the rows' own cells (each row's printed sentence says how): FnExactTranslateGrammar: ifaces, laid.
  DERIVED. THE GIVEN ROWS OF THIS SEAT. 1 by the template 'for every input the law returns true; each argument reads behind the call as it read before'; 0 by the template 'total and deterministic' (their statements: YtbnmmcegjlmdmaaGreatDoorTotals.lean).
  GIVEN WITH THE SEED: the statements are not yours to turn. If you find one false, say at which input.
  Laid BY PROGRAM, IN A SANDBOX (cutbox-rows.mjs): the forced cells as the released guide's own fill.sh prints them over the translation 45c705d3ba618085… (all of the seat's roots in one cut). By AI agents, Wed Nov 11 2026. No macro, syntax, notation, axiom, sorry.
-/
import Derived.Test.YtbnmmcegjlmdmaaGreatDoorChecked
import GoSem.Claim
import GoSem.ClaimJoined
import GoSem.ClaimMapViews
import Derived.JoinedTies
import Derived.KernelRfl
namespace Go.Proofs.YtbnmmcegjlmdmaaGreatDoor
/- THE CELL 'sum', in the pinned program and in every row, IS THE sha256 OF THE DUMP (.gsa) THAT YtbnmmcegjlmdmaaGreatDoorProg.lean LOADS. Nothing in Lean hashes anything: it is a label: what it is worth is what the hold of that sum in a sandbox is worth. -/
noncomputable def Tryz.pinned : Pinned := { name := "ytbnmmcegjlmdmaagreatdoor", sum := "45c705d3ba618085beba0c77d44efd188c6ef20345522205f965f979a0b1c15c", checked := Tryz.checked }
namespace Rows
def none {H : Type} : Left H := { results := [], args := [] }

/- WHAT THE LISTED PACKAGE-LEVEL VARIABLES READ AS WHEN THE CALL BEGINS. Each datum BY PROGRAM (the guide's laid-datum.mjs) off the statement by which the dump's own 'gosem.cut.vars' lays the variable. In a bare row this is a premise. The card (YtbnmmcegjlmdmaaGreatDoorCards.lean) ties it to the program's text. -/
def laid_loop_example_s00095_impl_errFails {H : Type} : DataW H := .iface "*errors.errorString" (.ptr (.agg [.lit (.string [105, 116, 32, 100, 111, 101, 115, 32, 110, 111, 116, 32, 104, 111, 108, 100])]))
def laid_loop_example_s00095_impl_errBeyond {H : Type} : DataW H := .iface "*errors.errorString" (.ptr (.agg [.lit (.string [97, 32, 115, 116, 97, 116, 101, 100, 32, 108, 105, 109, 105, 116, 32, 105, 115, 32, 98, 114, 111, 107, 101, 110])]))

/-- 'laws.FnExactTranslateGrammar': WHATEVER THE INPUT: true; the input reads as it did. -/
def fnExactTranslateGrammarSpec : ChangeSpec := { name := "fnExactTranslateGrammar", vars := ["loop.example/s00095/impl.errBeyond", "loop.example/s00095/impl.errFails"], fn := fun _ => fun
  | [d, g1, g2] => { results := [.lit (.bool true)], args := [d], vars := [g1, g2] }
  | _ => none }
def fnExactTranslateGrammarRow : OpenClaim := { program := "ytbnmmcegjlmdmaagreatdoor", sum := "45c705d3ba618085beba0c77d44efd188c6ef20345522205f965f979a0b1c15c", func := "loop.example/s00095/laws.FnExactTranslateGrammar", spec := "fnExactTranslateGrammar", inPlace := ["internal/reflectlite.TypeOf"], unfollowed := true, recurses := true, named := ["loop.example/s00095/impl.errBeyond", "loop.example/s00095/impl.errFails"], ifaces := true, plainKeys := false, apart := false, laid := [("loop.example/s00095/impl.errFails", laid_loop_example_s00095_impl_errFails), ("loop.example/s00095/impl.errBeyond", laid_loop_example_s00095_impl_errBeyond)] }
def FnExactTranslateGrammarSaid : Prop := fnExactTranslateGrammarRow.holds Tryz.pinned (OpenSpec.ofChange fnExactTranslateGrammarSpec)

/-- ITS FALSE NEIGHBOUR: 'it returns false'. Refute it at one input. -/
def fnExactTranslateGrammarWrong : ChangeSpec := { name := "fnExactTranslateGrammar", vars := ["loop.example/s00095/impl.errBeyond", "loop.example/s00095/impl.errFails"], fn := fun _ => fun
  | [d, g1, g2] => { results := [.lit (.bool false)], args := [d], vars := [g1, g2] }
  | _ => none }
def FnExactTranslateGrammarWrongFalsely : Prop := fnExactTranslateGrammarRow.holds Tryz.pinned (OpenSpec.ofChange fnExactTranslateGrammarWrong)

/- THE SECOND FORM. 'bulk': how many values and letters a reading holds, each counted each time it is reached (what is shared counts as often as it is met; a slice's spare places count too). A statement '..UptoSaid' is the law's where the arguments, and the package variables that the reading takes, are together of bulk at most 1048576: NARROWER than '..Said'. Prove '..Said' where nothing that the law and all that it calls make is longer than what came in: it says more and counts as full. Else prove '..UptoSaid'. A law counts once. -/
mutual
def uptoBulk {H : Type} : DataW H → Nat
  | .lit (.string bytes) => bytes.length + 1
  | .lit _ => 1
  | .nil => 1
  | .ptr d => uptoBulk d + 1
  | .slice elems spare => uptoBulkAll elems + uptoBulkAll spare + 1
  | .agg parts => uptoBulkAll parts + 1
  | .iface _ d => uptoBulk d + 1
  | .map entries => uptoBulkEntries entries + 1
  | .held _ => 1
def uptoBulkAll {H : Type} : List (DataW H) → Nat
  | [] => 0
  | d :: r => uptoBulk d + uptoBulkAll r
def uptoBulkEntries {H : Type} : List (Lit × DataW H) → Nat
  | [] => 0
  | x :: r => uptoBulkEntry x + uptoBulkEntries r
def uptoBulkEntry {H : Type} : Lit × DataW H → Nat
  | (.string bytes, d) => bytes.length + uptoBulk d + 1
  | (_, d) => uptoBulk d + 1
 end
def uptoSmall : (H : Type) → List (DataW H) → Bool := fun _ ds => decide (uptoBulkAll ds ≤ 1048576)
def OpenSpec.upto (s : _root_.Go.ChangeSpec) : _root_.Go.OpenSpec := { _root_.Go.OpenSpec.ofChange s with cond := some uptoSmall }

/-- 'laws.FnExactTranslateGrammar', WHERE WHAT IT READS IS OF BULK AT MOST 1048576: true; the input reads as it did. -/
def fnExactTranslateGrammarUptoRow : OpenClaim := { program := "ytbnmmcegjlmdmaagreatdoor", sum := "45c705d3ba618085beba0c77d44efd188c6ef20345522205f965f979a0b1c15c", func := "loop.example/s00095/laws.FnExactTranslateGrammar", spec := "fnExactTranslateGrammar", inPlace := ["internal/reflectlite.TypeOf"], unfollowed := true, recurses := true, named := ["loop.example/s00095/impl.errBeyond", "loop.example/s00095/impl.errFails"], ifaces := true, plainKeys := false, apart := false, laid := [("loop.example/s00095/impl.errFails", laid_loop_example_s00095_impl_errFails), ("loop.example/s00095/impl.errBeyond", laid_loop_example_s00095_impl_errBeyond)], narrowed := true }
def FnExactTranslateGrammarUptoSaid : Prop := fnExactTranslateGrammarUptoRow.holds Tryz.pinned (OpenSpec.upto fnExactTranslateGrammarSpec)

end Rows
end Go.Proofs.YtbnmmcegjlmdmaaGreatDoor
