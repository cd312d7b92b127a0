/- The order of names, of cells, of trees. Own work of the verifier. -/
import Derived.Shelf.SlSortCmp.WholeK
import Derived.Test.YtopdhjnpcpkmlaaCmp8
namespace Go.Proofs.Ytopdhjnpcpkmlaa
open Go Go.RowKit Go.Maps Go.Sort Go.Shelf
set_option linter.unusedVariables false

theorem bl_irrefl : ∀ a : List UInt8, Op.bytesLess a a = false
  | [] => by simp [Op.bytesLess]
  | a :: r => by simp [Op.bytesLess, bl_irrefl r]
theorem u8_lt (a b : UInt8) : a < b ↔ a.toNat < b.toNat := UInt8.lt_iff_toNat_lt
theorem u8_eq (a b : UInt8) : a = b ↔ a.toNat = b.toNat := UInt8.toNat_inj.symm
theorem bl_trans : ∀ a b c : List UInt8, Op.bytesLess a b = true → Op.bytesLess b c = true → Op.bytesLess a c = true
  | _, [], _, h, _ => by simp [Op.bytesLess] at h
  | _, _ :: _, [], _, h => by simp [Op.bytesLess] at h
  | [], _ :: _, _ :: _, _, _ => by simp [Op.bytesLess]
  | a :: x, b :: y, c :: z, h1, h2 => by
    simp only [Op.bytesLess, Bool.or_eq_true, decide_eq_true_eq, Bool.and_eq_true, beq_iff_eq] at h1 h2 ⊢
    have ih := bl_trans x y z
    rw [u8_lt, u8_eq] at *
    rcases h1 with h1 | ⟨h1, h1'⟩ <;> rcases h2 with h2 | ⟨h2, h2'⟩
    · left; omega
    · left; omega
    · left; omega
    · right; exact ⟨by omega, ih h1' h2'⟩
theorem bl_tri : ∀ a b : List UInt8, Op.bytesLess a b = false → a ≠ b → Op.bytesLess b a = true
  | [], [], _, h => absurd rfl h
  | [], _ :: _, h, _ => by simp [Op.bytesLess] at h
  | _ :: _, [], _, _ => by simp [Op.bytesLess]
  | a :: x, b :: y, h, hne => by
    simp only [Op.bytesLess, Bool.or_eq_false_iff, decide_eq_false_iff_not, Bool.and_eq_false_iff] at h
    simp only [Op.bytesLess, Bool.or_eq_true, decide_eq_true_eq, Bool.and_eq_true, beq_iff_eq]
    by_cases e : a = b
    · subst e
      right
      refine ⟨rfl, bl_tri x y ?_ (fun e => hne (by rw [e]))⟩
      rcases h.2 with h2 | h2
      · simp at h2
      · exact h2
    · left
      have h1 := h.1
      rw [u8_lt] at h1 ⊢
      rw [u8_eq] at e
      omega

/-- One name before another. -/
def fl (x y : Fun) : Prop := x.2 < y.2 ∨ (x.2 = y.2 ∧ Op.bytesLess x.1.toList y.1.toList = true)
theorem funCmp_lt (x y : Fun) : funCmp x y < 0 ↔ fl x y := by
  unfold funCmp orI cmpI cmpS fl
  by_cases h1 : x.2 < y.2
  · simp [h1]
  · by_cases h2 : y.2 < x.2
    · simp [h1, h2]; omega
    · have e : x.2 = y.2 := by omega
      cases h3 : Op.bytesLess x.1.toList y.1.toList with
      | true => simp [e]
      | false =>
        simp [e]
        split <;> decide
theorem fl_swo : SWO (ltOf funCmp) where
  irrefl x := by
    have : ¬ fl x x := fun h => by rcases h with h | h; omega; rw [bl_irrefl] at h; simp at h
    simp [ltOf, funCmp_lt, this]
  trans x y z h1 h2 := by
    simp only [ltOf, decide_eq_true_eq, funCmp_lt] at *
    rcases h1 with h1 | ⟨h1, h1'⟩ <;> rcases h2 with h2 | ⟨h2, h2'⟩
    · left; omega
    · left; omega
    · left; omega
    · right; exact ⟨by omega, bl_trans _ _ _ h1' h2'⟩
  ntrans x y z h1 h2 := by
    simp only [ltOf, decide_eq_false_iff_not, funCmp_lt] at *
    intro h
    unfold fl at *
    rcases h with h | ⟨h, h'⟩
    · exact h1 (.inl (by by_cases e : x.2 < y.2; exact e; exact absurd (.inl (by omega)) h2))
    · have e1 : ¬ x.2 < y.2 := fun e => h1 (.inl e)
      have e2 : ¬ y.2 < z.2 := fun e => h2 (.inl e)
      have e3 : x.2 = y.2 := by omega
      have n1 : Op.bytesLess x.1.toList y.1.toList = false := by simpa using fun e => h1 (.inr ⟨e3, e⟩)
      have n2 : Op.bytesLess y.1.toList z.1.toList = false := by simpa using fun e => h2 (.inr ⟨by omega, e⟩)
      by_cases e : x.1.toList = y.1.toList
      · rw [e] at h'; rw [n2] at h'; simp at h'
      · have := bl_tri _ _ n1 e
        rw [bl_trans _ _ _ this h'] at n2; simp at n2

end Go.Proofs.Ytopdhjnpcpkmlaa
