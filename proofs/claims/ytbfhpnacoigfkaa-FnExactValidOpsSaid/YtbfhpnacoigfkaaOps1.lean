/- Operators: how they lie (priority, type, name as a Cel); szOpS. Own work of the verifier. -/
import Derived.Test.YtbfhpnacoigfkaaCelB
namespace Go.Proofs.Ytbfhpnacoigfkaa
open Go Go.RowKit
set_option linter.unusedVariables false

/-- A cell lies from offset o of block b on. -/
def OAt (w : World) (b o : Nat) (c : Cel) : Prop :=
  ∃ p cap, w.cell? ⟨b, o + 1, none⟩ = some (.int .i64 c.1) ∧ w.cell? ⟨b, o + 2, none⟩ = some (.int .i64 c.2.1) ∧ w.cell? ⟨b, o, none⟩ = some (.slice p c.2.2.length cap) ∧ BIn w p c.2.2
/-- How a slice of cells lies: nothing is asked where it has none. -/
def OIn (w : World) (p : Option Addr) (cs : List Cel) : Prop :=
  0 < cs.length → ∃ b o, p = some ⟨b, o, none⟩ ∧ ∀ i, i < cs.length → OAt w b (o + i * 3) (cs.getD i Cel.none)
theorem OAt.below {W W' : World} {b o : Nat} {c : Cel} (h : OAt W b o c) (hb : Below W.heap.size W W') : OAt W' b o c := by
  obtain ⟨p, cap, h0, h1, h2, h3⟩ := h
  exact ⟨p, cap, (hb.cell (World.block_lt_of_cell? _ _ h0)).trans h0, (hb.cell (World.block_lt_of_cell? _ _ h1)).trans h1, (hb.cell (World.block_lt_of_cell? _ _ h2)).trans h2, h3.below hb⟩
theorem OIn.below {W W' : World} {p : Option Addr} {cs : List Cel} (h : OIn W p cs) (hb : Below W.heap.size W W') : OIn W' p cs := fun hn => by
  obtain ⟨b, o, rfl, hc⟩ := h hn
  exact ⟨b, o, rfl, fun i hi => (hc i hi).below hb⟩
theorem OIn.drewN {W : World} {p : Option Addr} {cs : List Cel} (h : OIn W p cs) (m : Nat) : OIn (W.drewN m) p cs := h


end Go.Proofs.Ytbfhpnacoigfkaa
