/-
  NARROWER THAN 'FOR EVERY INPUT', by the rows' own cells (each row's printed sentence says how): FnExactReadTerm: laid · FnExactReadClauses: laid.
  DERIVED. THE GIVEN ROWS OF THIS SEAT. 2 by the template 'for every input the law returns true; each argument reads behind the call as it read before'; 0 by the template 'total and deterministic' (their statements: YtlkhmmoimplokaaGreatDoorTotals.lean).
  GIVEN WITH THE SEED: the statements are not yours to turn. If you find one false, say at which input.
  Laid BY PROGRAM, IN A SANDBOX (cutbox-rows.mjs): the forced cells as the released guide's own fill.sh prints them over the translation 3a0e7706bde8aad7… (all of the seat's roots in one cut). By AI agents, Wed Nov 11 2026. No macro, syntax, notation, axiom, sorry.
-/
import Derived.Test.YtlkhmmoimplokaaGreatDoorChecked
import GoSem.Claim
import GoSem.ClaimJoined
import GoSem.ClaimMapViews
import Derived.JoinedTies
import Derived.KernelRfl
namespace Go.Proofs.YtlkhmmoimplokaaGreatDoor
/- THE CELL 'sum', in the pinned program and in every row, IS THE sha256 OF THE DUMP (.gsa) THAT YtlkhmmoimplokaaGreatDoorProg.lean LOADS. Nothing in Lean hashes anything: it is a label: what it is worth is what the hold of that sum in a sandbox is worth. -/
noncomputable def Tryz.pinned : Pinned := { name := "ytlkhmmoimplokaagreatdoor", sum := "3a0e7706bde8aad7fe99abcf37f8c1dcbf1b147613b466b29fe0fe5e6baaa5d9", checked := Tryz.checked }
namespace Rows
def none {H : Type} : Left H := { results := [], args := [] }

/- WHAT THE LISTED PACKAGE-LEVEL VARIABLES READ AS WHEN THE CALL BEGINS. Each datum BY PROGRAM (the guide's laid-datum.mjs) off the statement by which the dump's own 'gosem.cut.vars' lays the variable. In a bare row this is a premise. The card (YtlkhmmoimplokaaGreatDoorCards.lean) ties it to the program's text. -/
def laid_errors_errorType {H : Type} : DataW H := .iface "internal/reflectlite.rtype" (.agg [.ptr (.lit (.string [101, 114, 114, 111, 114]))])
def laid_loop_example_s00095_impl_charKinds {H : Type} : DataW H := .agg [.lit (.int .u8 0), .lit (.int .u8 0), .lit (.int .u8 0), .lit (.int .u8 0), .lit (.int .u8 0), .lit (.int .u8 0), .lit (.int .u8 0), .lit (.int .u8 0), .lit (.int .u8 0), .lit (.int .u8 16), .lit (.int .u8 16), .lit (.int .u8 0), .lit (.int .u8 0), .lit (.int .u8 16), .lit (.int .u8 0), .lit (.int .u8 0), .lit (.int .u8 0), .lit (.int .u8 0), .lit (.int .u8 0), .lit (.int .u8 0), .lit (.int .u8 0), .lit (.int .u8 0), .lit (.int .u8 0), .lit (.int .u8 0), .lit (.int .u8 0), .lit (.int .u8 0), .lit (.int .u8 0), .lit (.int .u8 0), .lit (.int .u8 0), .lit (.int .u8 0), .lit (.int .u8 0), .lit (.int .u8 0), .lit (.int .u8 16), .lit (.int .u8 32), .lit (.int .u8 0), .lit (.int .u8 8), .lit (.int .u8 8), .lit (.int .u8 0), .lit (.int .u8 8), .lit (.int .u8 0), .lit (.int .u8 64), .lit (.int .u8 64), .lit (.int .u8 8), .lit (.int .u8 8), .lit (.int .u8 64), .lit (.int .u8 8), .lit (.int .u8 8), .lit (.int .u8 8), .lit (.int .u8 4), .lit (.int .u8 4), .lit (.int .u8 4), .lit (.int .u8 4), .lit (.int .u8 4), .lit (.int .u8 4), .lit (.int .u8 4), .lit (.int .u8 4), .lit (.int .u8 4), .lit (.int .u8 4), .lit (.int .u8 8), .lit (.int .u8 32), .lit (.int .u8 8), .lit (.int .u8 8), .lit (.int .u8 8), .lit (.int .u8 8), .lit (.int .u8 8), .lit (.int .u8 2), .lit (.int .u8 2), .lit (.int .u8 2), .lit (.int .u8 2), .lit (.int .u8 2), .lit (.int .u8 2), .lit (.int .u8 2), .lit (.int .u8 2), .lit (.int .u8 2), .lit (.int .u8 2), .lit (.int .u8 2), .lit (.int .u8 2), .lit (.int .u8 2), .lit (.int .u8 2), .lit (.int .u8 2), .lit (.int .u8 2), .lit (.int .u8 2), .lit (.int .u8 2), .lit (.int .u8 2), .lit (.int .u8 2), .lit (.int .u8 2), .lit (.int .u8 2), .lit (.int .u8 2), .lit (.int .u8 2), .lit (.int .u8 2), .lit (.int .u8 2), .lit (.int .u8 64), .lit (.int .u8 8), .lit (.int .u8 64), .lit (.int .u8 8), .lit (.int .u8 2), .lit (.int .u8 0), .lit (.int .u8 1), .lit (.int .u8 1), .lit (.int .u8 1), .lit (.int .u8 1), .lit (.int .u8 1), .lit (.int .u8 1), .lit (.int .u8 1), .lit (.int .u8 1), .lit (.int .u8 1), .lit (.int .u8 1), .lit (.int .u8 1), .lit (.int .u8 1), .lit (.int .u8 1), .lit (.int .u8 1), .lit (.int .u8 1), .lit (.int .u8 1), .lit (.int .u8 1), .lit (.int .u8 1), .lit (.int .u8 1), .lit (.int .u8 1), .lit (.int .u8 1), .lit (.int .u8 1), .lit (.int .u8 1), .lit (.int .u8 1), .lit (.int .u8 1), .lit (.int .u8 1), .lit (.int .u8 64), .lit (.int .u8 64), .lit (.int .u8 64), .lit (.int .u8 8), .lit (.int .u8 0)]
def laid_loop_example_s00095_impl_opTypeNames {H : Type} : DataW H := .agg [.lit (.string [120, 102, 120]), .lit (.string [120, 102, 121]), .lit (.string [121, 102, 120]), .lit (.string [102, 121]), .lit (.string [102, 120]), .lit (.string [120, 102]), .lit (.string [121, 102])]

/-- 'laws.FnExactReadTerm': WHATEVER THE INPUT: true; the input reads as it did. -/
def fnExactReadTermSpec : ChangeSpec := { name := "fnExactReadTerm", vars := ["loop.example/s00095/impl.charKinds"], fn := fun _ => fun
  | [d1, d2, g1] => { results := [.lit (.bool true)], args := [d1, d2], vars := [g1] }
  | _ => none }
def fnExactReadTermRow : OpenClaim := { program := "ytlkhmmoimplokaagreatdoor", sum := "3a0e7706bde8aad7fe99abcf37f8c1dcbf1b147613b466b29fe0fe5e6baaa5d9", func := "loop.example/s00095/laws.FnExactReadTerm", spec := "fnExactReadTerm", inPlace := ["internal/bytealg.Compare", "internal/reflectlite.ValueOf", "(internal/reflectlite.Value).Type", "(internal/reflectlite.Value).IsNil", "internal/reflectlite.TypeOf", "(internal/reflectlite.Value).Elem", "(internal/reflectlite.Value).Set", "internal/bytealg.IndexByte", "internal/bytealg.Index"], unfollowed := true, recurses := true, named := ["errors.errorType", "loop.example/s00095/impl.charKinds", "internal/bytealg.MaxLen"], plainKeys := false, apart := false, laid := [("errors.errorType", laid_errors_errorType), ("loop.example/s00095/impl.charKinds", laid_loop_example_s00095_impl_charKinds)] }
def FnExactReadTermSaid : Prop := fnExactReadTermRow.holds Tryz.pinned (OpenSpec.ofChange fnExactReadTermSpec)

/-- ITS FALSE NEIGHBOUR: 'it returns false'. Refute it at one input. -/
def fnExactReadTermWrong : ChangeSpec := { name := "fnExactReadTerm", vars := ["loop.example/s00095/impl.charKinds"], fn := fun _ => fun
  | [d1, d2, g1] => { results := [.lit (.bool false)], args := [d1, d2], vars := [g1] }
  | _ => none }
def FnExactReadTermWrongFalsely : Prop := fnExactReadTermRow.holds Tryz.pinned (OpenSpec.ofChange fnExactReadTermWrong)

/-- 'laws.FnExactReadClauses': WHATEVER THE INPUT: true; the input reads as it did. -/
def fnExactReadClausesSpec : ChangeSpec := { name := "fnExactReadClauses", vars := ["loop.example/s00095/impl.charKinds", "loop.example/s00095/impl.opTypeNames"], fn := fun _ => fun
  | [d1, d2, g1, g2] => { results := [.lit (.bool true)], args := [d1, d2], vars := [g1, g2] }
  | _ => none }
def fnExactReadClausesRow : OpenClaim := { program := "ytlkhmmoimplokaagreatdoor", sum := "3a0e7706bde8aad7fe99abcf37f8c1dcbf1b147613b466b29fe0fe5e6baaa5d9", func := "loop.example/s00095/laws.FnExactReadClauses", spec := "fnExactReadClauses", inPlace := ["internal/bytealg.Compare", "internal/reflectlite.ValueOf", "(internal/reflectlite.Value).Type", "(internal/reflectlite.Value).IsNil", "internal/reflectlite.TypeOf", "(internal/reflectlite.Value).Elem", "(internal/reflectlite.Value).Set", "internal/bytealg.IndexByte", "internal/bytealg.Index"], unfollowed := true, recurses := true, named := ["errors.errorType", "loop.example/s00095/impl.charKinds", "internal/bytealg.MaxLen", "loop.example/s00095/impl.opTypeNames"], plainKeys := false, apart := false, laid := [("errors.errorType", laid_errors_errorType), ("loop.example/s00095/impl.charKinds", laid_loop_example_s00095_impl_charKinds), ("loop.example/s00095/impl.opTypeNames", laid_loop_example_s00095_impl_opTypeNames)] }
def FnExactReadClausesSaid : Prop := fnExactReadClausesRow.holds Tryz.pinned (OpenSpec.ofChange fnExactReadClausesSpec)

/-- ITS FALSE NEIGHBOUR: 'it returns false'. Refute it at one input. -/
def fnExactReadClausesWrong : ChangeSpec := { name := "fnExactReadClauses", vars := ["loop.example/s00095/impl.charKinds", "loop.example/s00095/impl.opTypeNames"], fn := fun _ => fun
  | [d1, d2, g1, g2] => { results := [.lit (.bool false)], args := [d1, d2], vars := [g1, g2] }
  | _ => none }
def FnExactReadClausesWrongFalsely : Prop := fnExactReadClausesRow.holds Tryz.pinned (OpenSpec.ofChange fnExactReadClausesWrong)

/- THE SECOND FORM. 'bulk': how many values and letters a reading holds, each counted each time it is reached (what is shared counts as often as it is met; a slice's spare places count too). A statement '..UptoSaid' is the law's where the arguments, and the package variables that the reading takes, are together of bulk at most 1048576: NARROWER than '..Said'. Prove '..Said' where nothing that the law and all that it calls make is longer than what came in: it says more and counts as full. Else prove '..UptoSaid'. A law counts once. -/
mutual
def uptoBulk {H : Type} : DataW H → Nat
  | .lit (.string bytes) => bytes.length + 1
  | .lit _ => 1
  | .nil => 1
  | .ptr d => uptoBulk d + 1
  | .slice elems spare => uptoBulkAll elems + uptoBulkAll spare + 1
  | .agg parts => uptoBulkAll parts + 1
  | .iface _ d => uptoBulk d + 1
  | .map entries => uptoBulkEntries entries + 1
  | .held _ => 1
def uptoBulkAll {H : Type} : List (DataW H) → Nat
  | [] => 0
  | d :: r => uptoBulk d + uptoBulkAll r
def uptoBulkEntries {H : Type} : List (Lit × DataW H) → Nat
  | [] => 0
  | x :: r => uptoBulkEntry x + uptoBulkEntries r
def uptoBulkEntry {H : Type} : Lit × DataW H → Nat
  | (.string bytes, d) => bytes.length + uptoBulk d + 1
  | (_, d) => uptoBulk d + 1
 end
def uptoSmall : (H : Type) → List (DataW H) → Bool := fun _ ds => decide (uptoBulkAll ds ≤ 1048576)
def OpenSpec.upto (s : _root_.Go.ChangeSpec) : _root_.Go.OpenSpec := { _root_.Go.OpenSpec.ofChange s with cond := some uptoSmall }

/-- 'laws.FnExactReadTerm', WHERE WHAT IT READS IS OF BULK AT MOST 1048576: true; the input reads as it did. -/
def fnExactReadTermUptoRow : OpenClaim := { program := "ytlkhmmoimplokaagreatdoor", sum := "3a0e7706bde8aad7fe99abcf37f8c1dcbf1b147613b466b29fe0fe5e6baaa5d9", func := "loop.example/s00095/laws.FnExactReadTerm", spec := "fnExactReadTerm", inPlace := ["internal/bytealg.Compare", "internal/reflectlite.ValueOf", "(internal/reflectlite.Value).Type", "(internal/reflectlite.Value).IsNil", "internal/reflectlite.TypeOf", "(internal/reflectlite.Value).Elem", "(internal/reflectlite.Value).Set", "internal/bytealg.IndexByte", "internal/bytealg.Index"], unfollowed := true, recurses := true, named := ["errors.errorType", "loop.example/s00095/impl.charKinds", "internal/bytealg.MaxLen"], plainKeys := false, apart := false, laid := [("errors.errorType", laid_errors_errorType), ("loop.example/s00095/impl.charKinds", laid_loop_example_s00095_impl_charKinds)], narrowed := true }
def FnExactReadTermUptoSaid : Prop := fnExactReadTermUptoRow.holds Tryz.pinned (OpenSpec.upto fnExactReadTermSpec)

/-- 'laws.FnExactReadClauses', WHERE WHAT IT READS IS OF BULK AT MOST 1048576: true; the input reads as it did. -/
def fnExactReadClausesUptoRow : OpenClaim := { program := "ytlkhmmoimplokaagreatdoor", sum := "3a0e7706bde8aad7fe99abcf37f8c1dcbf1b147613b466b29fe0fe5e6baaa5d9", func := "loop.example/s00095/laws.FnExactReadClauses", spec := "fnExactReadClauses", inPlace := ["internal/bytealg.Compare", "internal/reflectlite.ValueOf", "(internal/reflectlite.Value).Type", "(internal/reflectlite.Value).IsNil", "internal/reflectlite.TypeOf", "(internal/reflectlite.Value).Elem", "(internal/reflectlite.Value).Set", "internal/bytealg.IndexByte", "internal/bytealg.Index"], unfollowed := true, recurses := true, named := ["errors.errorType", "loop.example/s00095/impl.charKinds", "internal/bytealg.MaxLen", "loop.example/s00095/impl.opTypeNames"], plainKeys := false, apart := false, laid := [("errors.errorType", laid_errors_errorType), ("loop.example/s00095/impl.charKinds", laid_loop_example_s00095_impl_charKinds), ("loop.example/s00095/impl.opTypeNames", laid_loop_example_s00095_impl_opTypeNames)], narrowed := true }
def FnExactReadClausesUptoSaid : Prop := fnExactReadClausesUptoRow.holds Tryz.pinned (OpenSpec.upto fnExactReadClausesSpec)

end Rows
end Go.Proofs.YtlkhmmoimplokaaGreatDoor
