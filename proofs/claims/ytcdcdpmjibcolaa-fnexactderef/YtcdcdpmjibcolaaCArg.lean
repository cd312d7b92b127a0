/- What is asked of cells that came in. Own work of the verifier. -/
import Derived.Test.YtcdcdpmjibcolaaCell1
namespace Go.Proofs.Ytcdcdpmjibcolaa
open Go Go.RowKit
set_option linter.unusedVariables false

/-- What is asked of a slice of cells that came in. -/
structure CArg (w : World) (p : Option Addr) (cs : List Cel) : Prop where
  lies : CIn w p cs
  len : cs.length ≤ 9223372036854775807
  text : ∀ i, i < cs.length → (cs.getD i Cel.none).2.2.length ≤ 9223372036854775807
  byte : ∀ i, i < cs.length → ∀ x ∈ (cs.getD i Cel.none).2.2, 0 ≤ x ∧ x < 256
  wide : ∀ i, i < cs.length → -9223372036854775808 ≤ (cs.getD i Cel.none).1 ∧ (cs.getD i Cel.none).1 ≤ 9223372036854775807 ∧ -9223372036854775808 ≤ (cs.getD i Cel.none).2.1 ∧ (cs.getD i Cel.none).2.1 ≤ 9223372036854775807
theorem CArg.below {W W' : World} {p : Option Addr} {cs : List Cel} (h : CArg W p cs) (hb : Below W.heap.size W W') : CArg W' p cs := ⟨h.lies.below hb, h.len, h.text, h.byte, h.wide⟩


end Go.Proofs.Ytcdcdpmjibcolaa
