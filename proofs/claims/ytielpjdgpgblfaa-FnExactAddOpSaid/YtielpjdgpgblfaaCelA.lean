/- Rows of two numbers and a text: lengths; szByteS. Own work of the verifier. -/
import Derived.Test.YtielpjdgpgblfaaOwn
import Derived.Deep.Light
namespace Go.Proofs.Ytielpjdgpgblfaa
open Go Go.RowKit
set_option linter.unusedVariables false

/-- A cell of a term: kind, number, text. -/
abbrev Cel := Int × Int × List Int
def Cel.none : Cel := (0, 0, [])
theorem BIn.drewN {W : World} {p : Option Addr} {xs : List Int} (h : BIn W p xs) (m : Nat) : BIn (W.drewN m) p xs := h
/-- How many letters the cells' texts have. -/
def tl : List Cel → Nat
  | [] => 0
  | c :: r => c.2.2.length + tl r
theorem tl_take : ∀ (cs : List Cel) (k : Nat), k < cs.length → tl (cs.take (k + 1)) = tl (cs.take k) + (cs.getD k Cel.none).2.2.length
  | [], k, h => by simp at h
  | c :: r, 0, _ => by simp [tl]
  | c :: r, k + 1, h => by
    have := tl_take r k (by simpa using h)
    simp only [List.take_succ_cons, tl, this]
    simp; omega
theorem tl_take_le : ∀ (cs : List Cel) (k : Nat), tl (cs.take k) ≤ tl cs
  | [], k => by simp [tl]
  | c :: r, 0 => by simp [tl]
  | c :: r, k + 1 => by have := tl_take_le r k; simp only [List.take_succ_cons, tl]; omega
theorem tl_at (cs : List Cel) (k : Nat) (h : k < cs.length) : (cs.getD k Cel.none).2.2.length ≤ tl cs := by
  have := tl_take cs k h
  have := tl_take_le cs (k + 1)
  omega

def szR (L n : Nat) : Int := if n ≤ L then (L : Int) - n else -1

theorem szByteS_any (p : Option Addr) (n cap L : Nat) (w : World) (hL : L ≤ 1048576) (hn : n ≤ 9223372036854775807) :
    Calls Try.prog 36 #[.slice p n cap, .int .i64 L] w fun e w' => e = .returned (.int .i64 (szR L n)) ∧ w' = w := by
  by_cases h : n ≤ L
  · have e : szR L n = (L : Int) - n := by simp [szR, h]
    rw [e]
    have h0 : ¬ ((L : Int) - n < 0) := by omega
    go_enter Try.func36, Try.ntmps36
    go_wp2
    go_ret
    exact ⟨rfl, rfl⟩
  · have e : szR L n = -1 := by simp [szR, h]
    rw [e]
    have h0 : (L : Int) - n < 0 := by omega
    go_enter Try.func36, Try.ntmps36
    go_wp2
    go_ret
    exact ⟨rfl, rfl⟩

end Go.Proofs.Ytielpjdgpgblfaa
