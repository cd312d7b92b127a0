/- Rows of bytes, and worlds below. Own work of the verifier. -/
import Derived.Test.YtcdcdpmjibcolaaCopy
namespace Go.Proofs.Ytcdcdpmjibcolaa
open Go Go.RowKit
set_option linter.unusedVariables false

/-- A row of bytes at the head of a block. -/
def Row (W : World) (b : Nat) (xs : List Int) : Prop := b < W.heap.size ∧ ∀ i, i < xs.length → W.cell? ⟨b, i, none⟩ = some (.int .u8 (xs.getD i 0))
theorem Row.below {W W' : World} {b : Nat} {xs : List Int} (h : Row W b xs) (hb : Below W.heap.size W W') : Row W' b xs :=
  ⟨Nat.lt_of_lt_of_le h.1 hb.size, fun i hi => (hb.cell (p := ⟨b, i, none⟩) h.1).trans (h.2 i hi)⟩
theorem Row.bin {W : World} {b : Nat} {xs : List Int} (h : Row W b xs) : BIn W (some ⟨b, 0, none⟩) xs := fun _ => ⟨b, 0, rfl, fun i hi => by rw [Nat.zero_add]; exact h.2 i hi⟩
theorem row_of_owns {W : World} {B b c : Nat} {xs : List Int} (h : W.ownsRow B 5 1 (.slice (some ⟨b, 0, none⟩) xs.length c) xs.length (xs.map (Value.int .u8))) : Row W b xs := by
  refine ⟨?_, fun i hi => ?_⟩
  · rcases h.2 with ⟨h', _⟩ | ⟨g', cap', cur, h', _, hg, _⟩
    · simp at h'
    · simp only [Value.slice.injEq, Option.some.injEq, Addr.mk.injEq, and_true, true_and] at h'
      obtain ⟨rfl, _⟩ := h'
      exact (Array.getElem?_eq_some_iff.1 hg).1
  · rw [h.cellAt i (by omega)]
    simp [List.getD, hi]
theorem BIn.below {W W' : World} {p : Option Addr} {xs : List Int} (h : BIn W p xs) (hb : Below W.heap.size W W') : BIn W' p xs := fun hn => by
  obtain ⟨b, o, rfl, hc⟩ := h hn
  exact ⟨b, o, rfl, fun i hi => (hb.cell (World.block_lt_of_cell? _ _ (hc i hi))).trans (hc i hi)⟩
theorem below_drewN {B : Nat} {a w : World} (h : Below B a w) (n : Nat) : Below B a (w.drewN n) := h.trans ⟨rfl, rfl, rfl, Nat.le_refl _, fun _ _ => rfl⟩
/-- Below a first world, and then below a later one: below the first. -/
theorem Below.on {w W W' : World} (h : Below w.heap.size w W) (k : Below W.heap.size W W') : Below w.heap.size w W' := h.trans (k.mono h.size)

end Go.Proofs.Ytcdcdpmjibcolaa
