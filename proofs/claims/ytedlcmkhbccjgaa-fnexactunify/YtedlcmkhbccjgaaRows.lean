/-
  No cell of these rows narrows 'for every input' (looked for: loops, veiled, ifaces, maps, wideKeys, modest, calm, conditions, laid).
  DERIVED. THE GIVEN ROWS OF THIS SEAT. 4 by the template 'for every input the law returns true; each argument reads behind the call as it read before'; 0 by the template 'total and deterministic' (their statements: YtedlcmkhbccjgaaTotals.lean).
  GIVEN WITH THE SEED: the statements are not yours to turn. If you find one false, say at which input.
  Laid BY PROGRAM, IN A SANDBOX (cutbox-rows.mjs): the forced cells as the released guide's own fill.sh prints them over the translation 7458a427e4d1a6e8… (all of the seat's roots in one cut). By AI agents, Wed Nov 11 2026. No macro, syntax, notation, axiom, sorry.
-/
import Derived.Test.YtedlcmkhbccjgaaChecked
import GoSem.Claim
import GoSem.ClaimJoined
import GoSem.ClaimMapViews
import Derived.JoinedTies
import Derived.KernelRfl
namespace Go.Proofs.Ytedlcmkhbccjgaa
/- THE CELL 'sum', in the pinned program and in every row, IS THE sha256 OF THE DUMP (.gsa) THAT YtedlcmkhbccjgaaProg.lean LOADS. Nothing in Lean hashes anything: it is a label: what it is worth is what the hold of that sum in a sandbox is worth. -/
noncomputable def Try.pinned : Pinned := { name := "ytedlcmkhbccjgaa", sum := "7458a427e4d1a6e80e4dc9fc339bf28dde4b2f8ea9d92714e7d1f920a0bec7e4", checked := Try.checked }
namespace Rows
def none {H : Type} : Left H := { results := [], args := [] }

/-- 'laws.FnExactSubsumes': WHATEVER THE INPUT: true; the input reads as it did. -/
def fnExactSubsumesSpec : ChangeSpec := { name := "fnExactSubsumes", fn := fun _ => fun
  | [d1, d2] => { results := [.lit (.bool true)], args := [d1, d2] }
  | _ => none }
def fnExactSubsumesRow : OpenClaim := { program := "ytedlcmkhbccjgaa", sum := "7458a427e4d1a6e80e4dc9fc339bf28dde4b2f8ea9d92714e7d1f920a0bec7e4", func := "loop.example/s00095/laws.FnExactSubsumes", spec := "fnExactSubsumes", unfollowed := true, recurses := true, apart := false }
def FnExactSubsumesSaid : Prop := fnExactSubsumesRow.holds Try.pinned (OpenSpec.ofChange fnExactSubsumesSpec)

/-- ITS FALSE NEIGHBOUR: 'it returns false'. Refute it at one input. -/
def fnExactSubsumesWrong : ChangeSpec := { name := "fnExactSubsumes", fn := fun _ => fun
  | [d1, d2] => { results := [.lit (.bool false)], args := [d1, d2] }
  | _ => none }
def FnExactSubsumesWrongFalsely : Prop := fnExactSubsumesRow.holds Try.pinned (OpenSpec.ofChange fnExactSubsumesWrong)

/-- 'laws.FnExactVariant': WHATEVER THE INPUT: true; the input reads as it did. -/
def fnExactVariantSpec : ChangeSpec := { name := "fnExactVariant", fn := fun _ => fun
  | [d1, d2] => { results := [.lit (.bool true)], args := [d1, d2] }
  | _ => none }
def fnExactVariantRow : OpenClaim := { program := "ytedlcmkhbccjgaa", sum := "7458a427e4d1a6e80e4dc9fc339bf28dde4b2f8ea9d92714e7d1f920a0bec7e4", func := "loop.example/s00095/laws.FnExactVariant", spec := "fnExactVariant", unfollowed := true, recurses := true, apart := false }
def FnExactVariantSaid : Prop := fnExactVariantRow.holds Try.pinned (OpenSpec.ofChange fnExactVariantSpec)

/-- ITS FALSE NEIGHBOUR: 'it returns false'. Refute it at one input. -/
def fnExactVariantWrong : ChangeSpec := { name := "fnExactVariant", fn := fun _ => fun
  | [d1, d2] => { results := [.lit (.bool false)], args := [d1, d2] }
  | _ => none }
def FnExactVariantWrongFalsely : Prop := fnExactVariantRow.holds Try.pinned (OpenSpec.ofChange fnExactVariantWrong)

/-- 'laws.FnExactApply': WHATEVER THE INPUT: true; the input reads as it did. -/
def fnExactApplySpec : ChangeSpec := { name := "fnExactApply", fn := fun _ => fun
  | [d1, d2] => { results := [.lit (.bool true)], args := [d1, d2] }
  | _ => none }
def fnExactApplyRow : OpenClaim := { program := "ytedlcmkhbccjgaa", sum := "7458a427e4d1a6e80e4dc9fc339bf28dde4b2f8ea9d92714e7d1f920a0bec7e4", func := "loop.example/s00095/laws.FnExactApply", spec := "fnExactApply", unfollowed := true, recurses := true, apart := false }
def FnExactApplySaid : Prop := fnExactApplyRow.holds Try.pinned (OpenSpec.ofChange fnExactApplySpec)

/-- ITS FALSE NEIGHBOUR: 'it returns false'. Refute it at one input. -/
def fnExactApplyWrong : ChangeSpec := { name := "fnExactApply", fn := fun _ => fun
  | [d1, d2] => { results := [.lit (.bool false)], args := [d1, d2] }
  | _ => none }
def FnExactApplyWrongFalsely : Prop := fnExactApplyRow.holds Try.pinned (OpenSpec.ofChange fnExactApplyWrong)

/-- 'laws.FnExactUnify': WHATEVER THE INPUT: true; the input reads as it did. -/
def fnExactUnifySpec : ChangeSpec := { name := "fnExactUnify", fn := fun _ => fun
  | [d1, d2] => { results := [.lit (.bool true)], args := [d1, d2] }
  | _ => none }
def fnExactUnifyRow : OpenClaim := { program := "ytedlcmkhbccjgaa", sum := "7458a427e4d1a6e80e4dc9fc339bf28dde4b2f8ea9d92714e7d1f920a0bec7e4", func := "loop.example/s00095/laws.FnExactUnify", spec := "fnExactUnify", unfollowed := true, recurses := true, apart := false }
def FnExactUnifySaid : Prop := fnExactUnifyRow.holds Try.pinned (OpenSpec.ofChange fnExactUnifySpec)

/-- ITS FALSE NEIGHBOUR: 'it returns false'. Refute it at one input. -/
def fnExactUnifyWrong : ChangeSpec := { name := "fnExactUnify", fn := fun _ => fun
  | [d1, d2] => { results := [.lit (.bool false)], args := [d1, d2] }
  | _ => none }
def FnExactUnifyWrongFalsely : Prop := fnExactUnifyRow.holds Try.pinned (OpenSpec.ofChange fnExactUnifyWrong)

/- THE SECOND FORM. 'bulk': how many values and letters a reading holds, each counted each time it is reached (what is shared counts as often as it is met; a slice's spare places count too). A statement '..UptoSaid' is the law's where the arguments, and the package variables that the reading takes, are together of bulk at most 1048576: NARROWER than '..Said'. Prove '..Said' where nothing that the law and all that it calls make is longer than what came in: it says more and counts as full. Else prove '..UptoSaid'. A law counts once. -/
mutual
def uptoBulk {H : Type} : DataW H → Nat
  | .lit (.string bytes) => bytes.length + 1
  | .lit _ => 1
  | .nil => 1
  | .ptr d => uptoBulk d + 1
  | .slice elems spare => uptoBulkAll elems + uptoBulkAll spare + 1
  | .agg parts => uptoBulkAll parts + 1
  | .iface _ d => uptoBulk d + 1
  | .map entries => uptoBulkEntries entries + 1
  | .held _ => 1
def uptoBulkAll {H : Type} : List (DataW H) → Nat
  | [] => 0
  | d :: r => uptoBulk d + uptoBulkAll r
def uptoBulkEntries {H : Type} : List (Lit × DataW H) → Nat
  | [] => 0
  | x :: r => uptoBulkEntry x + uptoBulkEntries r
def uptoBulkEntry {H : Type} : Lit × DataW H → Nat
  | (.string bytes, d) => bytes.length + uptoBulk d + 1
  | (_, d) => uptoBulk d + 1
 end
def uptoSmall : (H : Type) → List (DataW H) → Bool := fun _ ds => decide (uptoBulkAll ds ≤ 1048576)
def OpenSpec.upto (s : _root_.Go.ChangeSpec) : _root_.Go.OpenSpec := { _root_.Go.OpenSpec.ofChange s with cond := some uptoSmall }

/-- 'laws.FnExactSubsumes', WHERE WHAT IT READS IS OF BULK AT MOST 1048576: true; the input reads as it did. -/
def fnExactSubsumesUptoRow : OpenClaim := { program := "ytedlcmkhbccjgaa", sum := "7458a427e4d1a6e80e4dc9fc339bf28dde4b2f8ea9d92714e7d1f920a0bec7e4", func := "loop.example/s00095/laws.FnExactSubsumes", spec := "fnExactSubsumes", unfollowed := true, recurses := true, apart := false, narrowed := true }
def FnExactSubsumesUptoSaid : Prop := fnExactSubsumesUptoRow.holds Try.pinned (OpenSpec.upto fnExactSubsumesSpec)

/-- 'laws.FnExactVariant', WHERE WHAT IT READS IS OF BULK AT MOST 1048576: true; the input reads as it did. -/
def fnExactVariantUptoRow : OpenClaim := { program := "ytedlcmkhbccjgaa", sum := "7458a427e4d1a6e80e4dc9fc339bf28dde4b2f8ea9d92714e7d1f920a0bec7e4", func := "loop.example/s00095/laws.FnExactVariant", spec := "fnExactVariant", unfollowed := true, recurses := true, apart := false, narrowed := true }
def FnExactVariantUptoSaid : Prop := fnExactVariantUptoRow.holds Try.pinned (OpenSpec.upto fnExactVariantSpec)

/-- 'laws.FnExactApply', WHERE WHAT IT READS IS OF BULK AT MOST 1048576: true; the input reads as it did. -/
def fnExactApplyUptoRow : OpenClaim := { program := "ytedlcmkhbccjgaa", sum := "7458a427e4d1a6e80e4dc9fc339bf28dde4b2f8ea9d92714e7d1f920a0bec7e4", func := "loop.example/s00095/laws.FnExactApply", spec := "fnExactApply", unfollowed := true, recurses := true, apart := false, narrowed := true }
def FnExactApplyUptoSaid : Prop := fnExactApplyUptoRow.holds Try.pinned (OpenSpec.upto fnExactApplySpec)

/-- 'laws.FnExactUnify', WHERE WHAT IT READS IS OF BULK AT MOST 1048576: true; the input reads as it did. -/
def fnExactUnifyUptoRow : OpenClaim := { program := "ytedlcmkhbccjgaa", sum := "7458a427e4d1a6e80e4dc9fc339bf28dde4b2f8ea9d92714e7d1f920a0bec7e4", func := "loop.example/s00095/laws.FnExactUnify", spec := "fnExactUnify", unfollowed := true, recurses := true, apart := false, narrowed := true }
def FnExactUnifyUptoSaid : Prop := fnExactUnifyUptoRow.holds Try.pinned (OpenSpec.upto fnExactUnifySpec)

end Rows
end Go.Proofs.Ytedlcmkhbccjgaa
