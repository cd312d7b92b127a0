/- Three new blocks. Own work of the verifier. -/
import Derived.Test.YtpcmfdbcjegbcaaGreatDoorPre
import Derived.Below
namespace Go.Proofs.YtpcmfdbcjegbcaaGreatDoor
open Go Go.RowKit
set_option linter.unusedVariables false

theorem lay3 (w : World) (o0 o1 o2 : Obj) (W : World) (h : W = ((w.alloc o0).alloc o1).alloc o2) :
    Below w.heap.size w W ∧ W.heap[w.heap.size]? = some o0 ∧ W.heap[w.heap.size + 1]? = some o1 ∧ W.heap[w.heap.size + 1 + 1]? = some o2 := by
  subst h
  have hb : ∀ (V : World) (o : Obj), Below w.heap.size w V → Below w.heap.size w (V.alloc o) := fun V o h => h.alloc h.size o
  refine ⟨hb _ _ (hb _ _ (hb _ _ (Below.refl _ _))), ?_, ?_, ?_⟩
  · show (((w.heap.push o0).push o1).push o2)[w.heap.size]? = some o0
    simp only [Array.getElem?_push, Array.size_push]
    repeat' split
    all_goals first | rfl | omega | (exact absurd trivial ‹¬True›)
  · show (((w.heap.push o0).push o1).push o2)[w.heap.size + 1]? = some o1
    simp only [Array.getElem?_push, Array.size_push]
    repeat' split
    all_goals first | rfl | omega | (exact absurd trivial ‹¬True›)
  · show (((w.heap.push o0).push o1).push o2)[w.heap.size + 1 + 1]? = some o2
    simp only [Array.getElem?_push, Array.size_push]
    repeat' split
    all_goals first | rfl | omega | (exact absurd trivial ‹¬True›)

end Go.Proofs.YtpcmfdbcjegbcaaGreatDoor
