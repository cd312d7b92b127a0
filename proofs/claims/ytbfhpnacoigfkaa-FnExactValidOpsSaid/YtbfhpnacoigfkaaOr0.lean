/- cmp.Or of two numbers. Own work of the verifier. -/
import Derived.Test.YtbfhpnacoigfkaaStr0
namespace Go.Proofs.Ytbfhpnacoigfkaa
open Go Go.RowKit
set_option linter.unusedVariables false

def orI (x y : Int) : Int := if x ≠ 0 then x else y
/-- cmp.Or of two. -/
theorem or_any (b : Nat) (x y : Int) (w : World) (h0 : w.cell? ⟨b, 0, none⟩ = some (.int .i64 x)) (h1 : w.cell? ⟨b, 1, none⟩ = some (.int .i64 y)) : Calls Try.prog 37 #[.slice (some ⟨b, 0, none⟩) 2 2] w fun e w' => e = .returned (.int .i64 (orI x y)) ∧ w' = w := by
  have FIN : Hid (∀ c, c = orI x y → Ending.returned (.int .i64 c) = .returned (.int .i64 (orI x y))) := fun c h => ret_int h
  go_enter Try.func37, Try.ntmps37
  go_wp2_with fail
  go_loop [8] (fun i => i = .int .i64 0 ∨ (i = .int .i64 1 ∧ x = 0) ∨ (i = .int .i64 2 ∧ x = 0 ∧ y = 0)) (fun i => 2 - (intOf i).toNat)
  case atStart => exact .inl rfl
  case round =>
    rcases hrel with rfl | ⟨rfl, rfl⟩ | ⟨rfl, rfl, rfl⟩
    · by_cases hx : x = 0
      · subst hx
        go_wp2_with fail
        go_roundw
        case rel => exact .inr (.inl ⟨by go_num, by simp⟩)
        case measure => simp [intOf]
      · have HF : Hid _ := FIN.out x (by rw [orI, if_pos hx])
        go_wp2_with fail
        go_ret
        exact ⟨HF.out, rfl⟩
    · by_cases hx : y = 0
      · subst hx
        go_wp2_with fail
        go_roundw
        case rel => exact .inr (.inr ⟨by go_num, by simp⟩)
        case measure => simp [intOf]
      · have HF : Hid _ := FIN.out y (by rw [orI, if_neg (by simp)])
        go_wp2_with fail
        go_ret
        exact ⟨HF.out, rfl⟩
    · go_wp2_with fail
      go_ret
      exact ⟨rfl, rfl⟩
theorem pair_new (W : World) (a b : Value) (t : TypeId) : (W.alloc (.cells #[a, b] t)).cell? ⟨W.heap.size, 0, none⟩ = some a ∧ (W.alloc (.cells #[a, b] t)).cell? ⟨W.heap.size, 1, none⟩ = some b :=
  ⟨by simp [World.cell?_alloc_new], by simp [World.cell?_alloc_new]⟩

end Go.Proofs.Ytbfhpnacoigfkaa
