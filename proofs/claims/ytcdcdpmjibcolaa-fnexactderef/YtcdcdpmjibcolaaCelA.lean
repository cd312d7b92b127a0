/- Rows of two numbers and a text: lengths; szByteS. Own work of the verifier. -/
import Derived.Test.YtcdcdpmjibcolaaOwn
import Derived.Deep.Light
namespace Go.Proofs.Ytcdcdpmjibcolaa
open Go Go.RowKit
set_option linter.unusedVariables false

/-- A cell of a term: kind, number, text. -/
abbrev Cel := Int × Int × List Int
def Cel.none : Cel := (0, 0, [])
theorem BIn.drewN {W : World} {p : Option Addr} {xs : List Int} (h : BIn W p xs) (m : Nat) : BIn (W.drewN m) p xs := h
/-- How many letters the cells' texts have. -/
def tl : List Cel → Nat
  | [] => 0
  | c :: r => c.2.2.length + tl r
theorem tl_take : ∀ (cs : List Cel) (k : Nat), k < cs.length → tl (cs.take (k + 1)) = tl (cs.take k) + (cs.getD k Cel.none).2.2.length
  | [], k, h => by simp at h
  | c :: r, 0, _ => by simp [tl]
  | c :: r, k + 1, h => by
    have := tl_take r k (by simpa using h)
    simp only [List.take_succ_cons, tl, this]
    simp; omega
theorem tl_take_le : ∀ (cs : List Cel) (k : Nat), tl (cs.take k) ≤ tl cs
  | [], k => by simp [tl]
  | c :: r, 0 => by simp [tl]
  | c :: r, k + 1 => by have := tl_take_le r k; simp only [List.take_succ_cons, tl]; omega
theorem tl_at (cs : List Cel) (k : Nat) (h : k < cs.length) : (cs.getD k Cel.none).2.2.length ≤ tl cs := by
  have := tl_take cs k h
  have := tl_take_le cs (k + 1)
  omega

def szR (L n : Nat) : Int := if n ≤ L then (L : Int) - n else -1


end Go.Proofs.Ytcdcdpmjibcolaa
