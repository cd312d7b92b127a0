/- Lex as a function of lists. Own work of the verifier. -/
import Derived.Test.YtfhelmhcmfpedaaDoorScan11
import Derived.Test.YtfhelmhcmfpedaaDoorTk1
namespace Go.Proofs.YtfhelmhcmfpedaaDoor
open Go Go.RowKit
set_option linter.unusedVariables false

/-- The first place from i on at which a comment ends. -/
def blkF (xs : List Int) : Nat → Nat → Option Nat
  | 0, _ => none
  | f + 1, i => if byteI xs i = 42 ∧ byteI xs (i + 1) = 47 then some i else blkF xs f (i + 1)
def blkI (xs : List Int) (i : Nat) : Option Nat := blkF xs (xs.length - i) i
theorem blk_step (xs : List Int) (i : Nat) (h : i < xs.length) : blkI xs i = if byteI xs i = 42 ∧ byteI xs (i + 1) = 47 then some i else blkI xs (i + 1) := by
  unfold blkI
  rw [show xs.length - i = (xs.length - (i + 1)) + 1 by omega]
  rfl
theorem blk_end (xs : List Int) (i : Nat) (h : xs.length ≤ i) : blkI xs i = none := by unfold blkI; rw [show xs.length - i = 0 by omega]; rfl
theorem blk_rng {xs : List Int} : ∀ (f i j : Nat), blkF xs f i = some j → i ≤ j ∧ j + 1 < xs.length
  | 0, i, j, h => by cases h
  | f + 1, i, j, h => by
    unfold blkF at h
    split at h
    · rename_i hh
      cases h
      refine ⟨Nat.le_refl _, ?_⟩
      rcases Nat.lt_or_ge (i + 1) xs.length with h' | h'
      · exact h'
      · rw [byteI_ge h'] at hh; omega
    · have := blk_rng f (i + 1) j h; omega
/-- How many bytes stand before the next token at a place; none where a comment does not end. -/
def layI (xs : List Int) (pos : Nat) : Option Nat :=
  if endsI (byteI xs pos) = true ∧ byteI xs pos ≠ -1 ∧ byteI xs pos ≠ 37 then some 1
  else if byteI xs pos = 37 then some (lineI xs pos)
  else if byteI xs pos = 47 ∧ byteI xs (pos + 1) = 42 then (match blkI xs (pos + 2) with
    | none => none
    | some j => some (j + 2 - pos))
  else some 0
abbrev LexR := Except (Int × Nat) (List Tok)
/-- All tokens from a place on; a: where the last atom ended. -/
def lexF (xs : List Int) : Nat → Nat → Int → List Tok → LexR
  | 0, _, _, acc => .ok acc
  | f + 1, pos, a, acc => if xs.length ≤ pos then .ok acc else match layI xs pos with
    | none => .error (2, pos)
    | some n => if 0 < n then lexF xs f (pos + n) a acc else match nextR xs (decide (a = pos)) pos with
      | .error c => .error (c, pos)
      | .ok (kind, len, ys, v) => lexF xs f (pos + len) (if kind = 1 then ((pos + len : Nat) : Int) else -1) (acc ++ [((kind, (pos : Int), (len : Int), v), ys)])
def lexI (xs : List Int) (pos : Nat) (a : Int) (acc : List Tok) : LexR := lexF xs (xs.length + 1 - pos) pos a acc

end Go.Proofs.YtfhelmhcmfpedaaDoor
