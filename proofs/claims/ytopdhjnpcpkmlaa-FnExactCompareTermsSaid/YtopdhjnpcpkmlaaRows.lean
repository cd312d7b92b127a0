/-
  No cell of these rows narrows 'for every input' (looked for: loops, veiled, ifaces, maps, wideKeys, modest, calm, conditions, laid).
  DERIVED. THE GIVEN ROWS OF THIS SEAT. 6 by the template 'for every input the law returns true; each argument reads behind the call as it read before'; 0 by the template 'total and deterministic' (their statements: YtopdhjnpcpkmlaaTotals.lean).
  GIVEN WITH THE SEED: the statements are not yours to turn. If you find one false, say at which input.
  Laid BY PROGRAM, IN A SANDBOX (cutbox-rows.mjs): the forced cells as the released guide's own fill.sh prints them over the translation 8bfc11dfba9bca76… (all of the seat's roots in one cut). By AI agents, Wed Nov 11 2026. No macro, syntax, notation, axiom, sorry.
-/
import Derived.Test.YtopdhjnpcpkmlaaChecked
import GoSem.Claim
import GoSem.ClaimJoined
import GoSem.ClaimMapViews
import Derived.JoinedTies
import Derived.KernelRfl
namespace Go.Proofs.Ytopdhjnpcpkmlaa
/- THE CELL 'sum', in the pinned program and in every row, IS THE sha256 OF THE DUMP (.gsa) THAT YtopdhjnpcpkmlaaProg.lean LOADS. Nothing in Lean hashes anything: it is a label: what it is worth is what the hold of that sum in a sandbox is worth. -/
noncomputable def Try.pinned : Pinned := { name := "ytopdhjnpcpkmlaa", sum := "8bfc11dfba9bca7679bff97375f70714b9409315b7f3f110d26e7b0a3936ee82", checked := Try.checked }
namespace Rows
def none {H : Type} : Left H := { results := [], args := [] }

/-- 'laws.FnExactValidTerm': WHATEVER THE INPUT: true; the input reads as it did. -/
def fnExactValidTermSpec : ChangeSpec := { name := "fnExactValidTerm", fn := fun _ => fun
  | [d] => { results := [.lit (.bool true)], args := [d] }
  | _ => none }
def fnExactValidTermRow : OpenClaim := { program := "ytopdhjnpcpkmlaa", sum := "8bfc11dfba9bca7679bff97375f70714b9409315b7f3f110d26e7b0a3936ee82", func := "loop.example/s00095/laws.FnExactValidTerm", spec := "fnExactValidTerm", plainKeys := false, apart := false }
def FnExactValidTermSaid : Prop := fnExactValidTermRow.holds Try.pinned (OpenSpec.ofChange fnExactValidTermSpec)

/-- ITS FALSE NEIGHBOUR: 'it returns false'. Refute it at one input. -/
def fnExactValidTermWrong : ChangeSpec := { name := "fnExactValidTerm", fn := fun _ => fun
  | [d] => { results := [.lit (.bool false)], args := [d] }
  | _ => none }
def FnExactValidTermWrongFalsely : Prop := fnExactValidTermRow.holds Try.pinned (OpenSpec.ofChange fnExactValidTermWrong)

/-- 'laws.FnExactCompareTerms': WHATEVER THE INPUT: true; the input reads as it did. -/
def fnExactCompareTermsSpec : ChangeSpec := { name := "fnExactCompareTerms", fn := fun _ => fun
  | [d1, d2] => { results := [.lit (.bool true)], args := [d1, d2] }
  | _ => none }
def fnExactCompareTermsRow : OpenClaim := { program := "ytopdhjnpcpkmlaa", sum := "8bfc11dfba9bca7679bff97375f70714b9409315b7f3f110d26e7b0a3936ee82", func := "loop.example/s00095/laws.FnExactCompareTerms", spec := "fnExactCompareTerms", unfollowed := true, recurses := true, plainKeys := false, apart := false }
def FnExactCompareTermsSaid : Prop := fnExactCompareTermsRow.holds Try.pinned (OpenSpec.ofChange fnExactCompareTermsSpec)

/-- ITS FALSE NEIGHBOUR: 'it returns false'. Refute it at one input. -/
def fnExactCompareTermsWrong : ChangeSpec := { name := "fnExactCompareTerms", fn := fun _ => fun
  | [d1, d2] => { results := [.lit (.bool false)], args := [d1, d2] }
  | _ => none }
def FnExactCompareTermsWrongFalsely : Prop := fnExactCompareTermsRow.holds Try.pinned (OpenSpec.ofChange fnExactCompareTermsWrong)

/-- 'laws.FnExactTermVars': WHATEVER THE INPUT: true; the input reads as it did. -/
def fnExactTermVarsSpec : ChangeSpec := { name := "fnExactTermVars", fn := fun _ => fun
  | [d] => { results := [.lit (.bool true)], args := [d] }
  | _ => none }
def fnExactTermVarsRow : OpenClaim := { program := "ytopdhjnpcpkmlaa", sum := "8bfc11dfba9bca7679bff97375f70714b9409315b7f3f110d26e7b0a3936ee82", func := "loop.example/s00095/laws.FnExactTermVars", spec := "fnExactTermVars", unfollowed := true, recurses := true, plainKeys := false, apart := false }
def FnExactTermVarsSaid : Prop := fnExactTermVarsRow.holds Try.pinned (OpenSpec.ofChange fnExactTermVarsSpec)

/-- ITS FALSE NEIGHBOUR: 'it returns false'. Refute it at one input. -/
def fnExactTermVarsWrong : ChangeSpec := { name := "fnExactTermVars", fn := fun _ => fun
  | [d] => { results := [.lit (.bool false)], args := [d] }
  | _ => none }
def FnExactTermVarsWrongFalsely : Prop := fnExactTermVarsRow.holds Try.pinned (OpenSpec.ofChange fnExactTermVarsWrong)

/-- 'laws.FnExactRenumber': WHATEVER THE INPUT: true; the input reads as it did. -/
def fnExactRenumberSpec : ChangeSpec := { name := "fnExactRenumber", fn := fun _ => fun
  | [d] => { results := [.lit (.bool true)], args := [d] }
  | _ => none }
def fnExactRenumberRow : OpenClaim := { program := "ytopdhjnpcpkmlaa", sum := "8bfc11dfba9bca7679bff97375f70714b9409315b7f3f110d26e7b0a3936ee82", func := "loop.example/s00095/laws.FnExactRenumber", spec := "fnExactRenumber", unfollowed := true, recurses := true, plainKeys := false, apart := false }
def FnExactRenumberSaid : Prop := fnExactRenumberRow.holds Try.pinned (OpenSpec.ofChange fnExactRenumberSpec)

/-- ITS FALSE NEIGHBOUR: 'it returns false'. Refute it at one input. -/
def fnExactRenumberWrong : ChangeSpec := { name := "fnExactRenumber", fn := fun _ => fun
  | [d] => { results := [.lit (.bool false)], args := [d] }
  | _ => none }
def FnExactRenumberWrongFalsely : Prop := fnExactRenumberRow.holds Try.pinned (OpenSpec.ofChange fnExactRenumberWrong)

/-- 'laws.FnExactMakeList': WHATEVER THE INPUT: true; the input reads as it did. -/
def fnExactMakeListSpec : ChangeSpec := { name := "fnExactMakeList", fn := fun _ => fun
  | [d] => { results := [.lit (.bool true)], args := [d] }
  | _ => none }
def fnExactMakeListRow : OpenClaim := { program := "ytopdhjnpcpkmlaa", sum := "8bfc11dfba9bca7679bff97375f70714b9409315b7f3f110d26e7b0a3936ee82", func := "loop.example/s00095/laws.FnExactMakeList", spec := "fnExactMakeList", unfollowed := true, recurses := true, plainKeys := false, apart := false }
def FnExactMakeListSaid : Prop := fnExactMakeListRow.holds Try.pinned (OpenSpec.ofChange fnExactMakeListSpec)

/-- ITS FALSE NEIGHBOUR: 'it returns false'. Refute it at one input. -/
def fnExactMakeListWrong : ChangeSpec := { name := "fnExactMakeList", fn := fun _ => fun
  | [d] => { results := [.lit (.bool false)], args := [d] }
  | _ => none }
def FnExactMakeListWrongFalsely : Prop := fnExactMakeListRow.holds Try.pinned (OpenSpec.ofChange fnExactMakeListWrong)

/-- 'laws.FnExactListItems': WHATEVER THE INPUT: true; the input reads as it did. -/
def fnExactListItemsSpec : ChangeSpec := { name := "fnExactListItems", fn := fun _ => fun
  | [d] => { results := [.lit (.bool true)], args := [d] }
  | _ => none }
def fnExactListItemsRow : OpenClaim := { program := "ytopdhjnpcpkmlaa", sum := "8bfc11dfba9bca7679bff97375f70714b9409315b7f3f110d26e7b0a3936ee82", func := "loop.example/s00095/laws.FnExactListItems", spec := "fnExactListItems", unfollowed := true, recurses := true, plainKeys := false, apart := false }
def FnExactListItemsSaid : Prop := fnExactListItemsRow.holds Try.pinned (OpenSpec.ofChange fnExactListItemsSpec)

/-- ITS FALSE NEIGHBOUR: 'it returns false'. Refute it at one input. -/
def fnExactListItemsWrong : ChangeSpec := { name := "fnExactListItems", fn := fun _ => fun
  | [d] => { results := [.lit (.bool false)], args := [d] }
  | _ => none }
def FnExactListItemsWrongFalsely : Prop := fnExactListItemsRow.holds Try.pinned (OpenSpec.ofChange fnExactListItemsWrong)

/- THE SECOND FORM. 'bulk': how many values and letters a reading holds, each counted each time it is reached (what is shared counts as often as it is met; a slice's spare places count too). A statement '..UptoSaid' is the law's where the arguments, and the package variables that the reading takes, are together of bulk at most 1048576: NARROWER than '..Said'. Prove '..Said' where nothing that the law and all that it calls make is longer than what came in: it says more and counts as full. Else prove '..UptoSaid'. A law counts once. -/
mutual
def uptoBulk {H : Type} : DataW H → Nat
  | .lit (.string bytes) => bytes.length + 1
  | .lit _ => 1
  | .nil => 1
  | .ptr d => uptoBulk d + 1
  | .slice elems spare => uptoBulkAll elems + uptoBulkAll spare + 1
  | .agg parts => uptoBulkAll parts + 1
  | .iface _ d => uptoBulk d + 1
  | .map entries => uptoBulkEntries entries + 1
  | .held _ => 1
def uptoBulkAll {H : Type} : List (DataW H) → Nat
  | [] => 0
  | d :: r => uptoBulk d + uptoBulkAll r
def uptoBulkEntries {H : Type} : List (Lit × DataW H) → Nat
  | [] => 0
  | x :: r => uptoBulkEntry x + uptoBulkEntries r
def uptoBulkEntry {H : Type} : Lit × DataW H → Nat
  | (.string bytes, d) => bytes.length + uptoBulk d + 1
  | (_, d) => uptoBulk d + 1
 end
def uptoSmall : (H : Type) → List (DataW H) → Bool := fun _ ds => decide (uptoBulkAll ds ≤ 1048576)
def OpenSpec.upto (s : _root_.Go.ChangeSpec) : _root_.Go.OpenSpec := { _root_.Go.OpenSpec.ofChange s with cond := some uptoSmall }

/-- 'laws.FnExactValidTerm', WHERE WHAT IT READS IS OF BULK AT MOST 1048576: true; the input reads as it did. -/
def fnExactValidTermUptoRow : OpenClaim := { program := "ytopdhjnpcpkmlaa", sum := "8bfc11dfba9bca7679bff97375f70714b9409315b7f3f110d26e7b0a3936ee82", func := "loop.example/s00095/laws.FnExactValidTerm", spec := "fnExactValidTerm", plainKeys := false, apart := false, narrowed := true }
def FnExactValidTermUptoSaid : Prop := fnExactValidTermUptoRow.holds Try.pinned (OpenSpec.upto fnExactValidTermSpec)

/-- 'laws.FnExactCompareTerms', WHERE WHAT IT READS IS OF BULK AT MOST 1048576: true; the input reads as it did. -/
def fnExactCompareTermsUptoRow : OpenClaim := { program := "ytopdhjnpcpkmlaa", sum := "8bfc11dfba9bca7679bff97375f70714b9409315b7f3f110d26e7b0a3936ee82", func := "loop.example/s00095/laws.FnExactCompareTerms", spec := "fnExactCompareTerms", unfollowed := true, recurses := true, plainKeys := false, apart := false, narrowed := true }
def FnExactCompareTermsUptoSaid : Prop := fnExactCompareTermsUptoRow.holds Try.pinned (OpenSpec.upto fnExactCompareTermsSpec)

/-- 'laws.FnExactTermVars', WHERE WHAT IT READS IS OF BULK AT MOST 1048576: true; the input reads as it did. -/
def fnExactTermVarsUptoRow : OpenClaim := { program := "ytopdhjnpcpkmlaa", sum := "8bfc11dfba9bca7679bff97375f70714b9409315b7f3f110d26e7b0a3936ee82", func := "loop.example/s00095/laws.FnExactTermVars", spec := "fnExactTermVars", unfollowed := true, recurses := true, plainKeys := false, apart := false, narrowed := true }
def FnExactTermVarsUptoSaid : Prop := fnExactTermVarsUptoRow.holds Try.pinned (OpenSpec.upto fnExactTermVarsSpec)

/-- 'laws.FnExactRenumber', WHERE WHAT IT READS IS OF BULK AT MOST 1048576: true; the input reads as it did. -/
def fnExactRenumberUptoRow : OpenClaim := { program := "ytopdhjnpcpkmlaa", sum := "8bfc11dfba9bca7679bff97375f70714b9409315b7f3f110d26e7b0a3936ee82", func := "loop.example/s00095/laws.FnExactRenumber", spec := "fnExactRenumber", unfollowed := true, recurses := true, plainKeys := false, apart := false, narrowed := true }
def FnExactRenumberUptoSaid : Prop := fnExactRenumberUptoRow.holds Try.pinned (OpenSpec.upto fnExactRenumberSpec)

/-- 'laws.FnExactMakeList', WHERE WHAT IT READS IS OF BULK AT MOST 1048576: true; the input reads as it did. -/
def fnExactMakeListUptoRow : OpenClaim := { program := "ytopdhjnpcpkmlaa", sum := "8bfc11dfba9bca7679bff97375f70714b9409315b7f3f110d26e7b0a3936ee82", func := "loop.example/s00095/laws.FnExactMakeList", spec := "fnExactMakeList", unfollowed := true, recurses := true, plainKeys := false, apart := false, narrowed := true }
def FnExactMakeListUptoSaid : Prop := fnExactMakeListUptoRow.holds Try.pinned (OpenSpec.upto fnExactMakeListSpec)

/-- 'laws.FnExactListItems', WHERE WHAT IT READS IS OF BULK AT MOST 1048576: true; the input reads as it did. -/
def fnExactListItemsUptoRow : OpenClaim := { program := "ytopdhjnpcpkmlaa", sum := "8bfc11dfba9bca7679bff97375f70714b9409315b7f3f110d26e7b0a3936ee82", func := "loop.example/s00095/laws.FnExactListItems", spec := "fnExactListItems", unfollowed := true, recurses := true, plainKeys := false, apart := false, narrowed := true }
def FnExactListItemsUptoSaid : Prop := fnExactListItemsUptoRow.holds Try.pinned (OpenSpec.upto fnExactListItemsSpec)

end Rows
end Go.Proofs.Ytopdhjnpcpkmlaa
