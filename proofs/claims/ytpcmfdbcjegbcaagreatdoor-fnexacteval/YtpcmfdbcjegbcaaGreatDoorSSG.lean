/- Items of cells in a row: how much there is in all. Own work of the verifier. -/
import Derived.Test.YtpcmfdbcjegbcaaGreatDoorMarkC
namespace Go.Proofs.YtpcmfdbcjegbcaaGreatDoor
open Go Go.RowKit
set_option linter.unusedVariables false

theorem infoCells : (Tryz.prog.info? 24).map (fun i => (i.zero, i.size, i.bytes)) = some (some (.slice none 0 0), 1, 24) := by kernel_rfl
/-- An item: where it lies, its capacity, the blocks from .. to. -/
abbrev It := Option Addr × Nat × Nat × Nat
def It.zero : It := (none, 0, 0, 0)
theorem ds_append_at (ds : List It) (r : It) (i : Nat) (h : i ≤ ds.length) : (ds ++ [r]).getD i It.zero = if i = ds.length then r else ds.getD i It.zero := by
  by_cases e : i = ds.length
  · subst e; simp [List.getD]
  · rw [if_neg e, List.getD, List.getD, List.getElem?_append_left (by omega)]
/-- How much there is in all. -/
def tll : List (List Cel) → Nat
  | [] => 0
  | c :: r => c.length + tl c + tll r
theorem tll_at : ∀ (css : List (List Cel)) (i : Nat), i < css.length → (css.getD i []).length + tl (css.getD i []) ≤ tll css
  | [], i, h => by simp at h
  | c :: r, 0, _ => by simp [tll]
  | c :: r, i + 1, h => by have := tll_at r i (by simpa using h); simp only [tll, List.getD_cons_succ]; omega
theorem endC_eq (k : Int) (cs : List Cel) : endC k cs = k + 2 * cs.length + tl cs := by simp [endC, kAt]
theorem tll_take : ∀ (css : List (List Cel)) (k : Nat), k < css.length → tll (css.take (k + 1)) = tll (css.take k) + ((css.getD k []).length + tl (css.getD k []))
  | [], k, h => by simp at h
  | c :: r, 0, _ => by simp [tll]
  | c :: r, k + 1, h => by
    have := tll_take r k (by simpa using h)
    simp only [List.take_succ_cons, tll, this]
    simp; omega
theorem tll_take_le : ∀ (css : List (List Cel)) (k : Nat), tll (css.take k) ≤ tll css
  | [], k => by simp [tll]
  | c :: r, 0 => by simp [tll]
  | c :: r, k + 1 => by have := tll_take_le r k; simp only [List.take_succ_cons, tll]; omega

end Go.Proofs.YtpcmfdbcjegbcaaGreatDoor
