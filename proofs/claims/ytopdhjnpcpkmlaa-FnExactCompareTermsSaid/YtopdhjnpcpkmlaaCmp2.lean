/- cmp.Compare, cmp.Or, compareFunctors. Own work of the verifier. -/
import Derived.Test.YtopdhjnpcpkmlaaCmp1
namespace Go.Proofs.Ytopdhjnpcpkmlaa
open Go Go.RowKit
set_option linter.unusedVariables false

theorem isNaNi_any (x : Int) (w : World) : Calls Try.prog 86 #[.int .i64 x] w fun e w' => e = .returned (.bool false) ∧ w' = w := by
  go_enter Try.func86, Try.ntmps86
  go_wp2_with fail
  go_ret
  exact ⟨rfl, rfl⟩
theorem isNaNs_any (x : ByteArray) (w : World) : Calls Try.prog 97 #[.string x] w fun e w' => e = .returned (.bool false) ∧ w' = w := by
  go_enter Try.func97, Try.ntmps97
  go_wp2_with fail
  go_ret
  exact ⟨rfl, rfl⟩
def cmpI (x y : Int) : Int := if x < y then -1 else if y < x then 1 else 0
theorem compareI_any (x y : Int) (w : World) : Calls Try.prog 80 #[.int .i64 x, .int .i64 y] w fun e w' => e = .returned (.int .i64 (cmpI x y)) ∧ w' = w := by
  have H1 := isNaNi_any x w
  have H2 := isNaNi_any y w
  have fin : ∀ c, c = cmpI x y → Ending.returned (.int .i64 c) = .returned (.int .i64 (cmpI x y)) := fun c h => ret_int h
  have FIN : Hid _ := fin
  clear fin
  by_cases h1 : x < y
  · have HF : Hid _ := FIN.out (-1) (by rw [cmpI, if_pos h1])
    go_enter Try.func80, Try.ntmps80
    go_wp2_with fail
    refine H1.mono ?_
    rintro e w1 ⟨rfl, rfl⟩
    go_wp2_with fail
    refine H2.mono ?_
    rintro e w1 ⟨rfl, rfl⟩
    go_wp2_with fail
    go_ret
    exact ⟨HF.out, rfl⟩
  · by_cases h2 : y < x
    · have HF : Hid _ := FIN.out 1 (by rw [cmpI, if_neg h1, if_pos h2])
      go_enter Try.func80, Try.ntmps80
      go_wp2_with fail
      refine H1.mono ?_
      rintro e w1 ⟨rfl, rfl⟩
      go_wp2_with fail
      refine H2.mono ?_
      rintro e w1 ⟨rfl, rfl⟩
      go_wp2_with fail
      go_ret
      exact ⟨HF.out, rfl⟩
    · have HF : Hid _ := FIN.out 0 (by rw [cmpI, if_neg h1, if_neg h2])
      go_enter Try.func80, Try.ntmps80
      go_wp2_with fail
      refine H1.mono ?_
      rintro e w1 ⟨rfl, rfl⟩
      go_wp2_with fail
      refine H2.mono ?_
      rintro e w1 ⟨rfl, rfl⟩
      go_wp2_with fail
      go_ret
      exact ⟨HF.out, rfl⟩
def cmpS (x y : ByteArray) : Int := if Op.bytesLess x.toList y.toList then -1 else if x.toList == y.toList then 0 else 1
theorem compareS_any (x y : ByteArray) (w : World) : Calls Try.prog 85 #[.string x, .string y] w fun e w' => e = .returned (.int .i64 (cmpS x y)) ∧ w' = w := by
  have H1 := isNaNs_any x w
  have H2 := isNaNs_any y w
  have fin : ∀ c, c = cmpS x y → Ending.returned (.int .i64 c) = .returned (.int .i64 (cmpS x y)) := fun c h => ret_int h
  have FIN : Hid _ := fin
  clear fin
  cases h1 : Op.bytesLess x.toList y.toList with
  | true =>
    have HF : Hid _ := FIN.out (-1) (by rw [cmpS, if_pos h1])
    go_enter Try.func85, Try.ntmps85
    go_wp2_with fail
    refine H1.mono ?_
    rintro e w1 ⟨rfl, rfl⟩
    go_wp2_with fail
    refine H2.mono ?_
    rintro e w1 ⟨rfl, rfl⟩
    go_wp2_with fail
    go_ret
    exact ⟨HF.out, rfl⟩
  | false =>
    cases h2 : (x.toList == y.toList) with
    | true =>
      have HF : Hid _ := FIN.out 0 (by rw [cmpS, if_neg (by rw [h1]; simp), if_pos h2])
      go_enter Try.func85, Try.ntmps85
      go_wp2_with fail
      refine H1.mono ?_
      rintro e w1 ⟨rfl, rfl⟩
      go_wp2_with fail
      refine H2.mono ?_
      rintro e w1 ⟨rfl, rfl⟩
      go_wp2_with fail
      go_ret
      exact ⟨HF.out, rfl⟩
    | false =>
      have HF : Hid _ := FIN.out 1 (by rw [cmpS, if_neg (by rw [h1]; simp), if_neg (by rw [h2]; simp)])
      go_enter Try.func85, Try.ntmps85
      go_wp2_with fail
      refine H1.mono ?_
      rintro e w1 ⟨rfl, rfl⟩
      go_wp2_with fail
      refine H2.mono ?_
      rintro e w1 ⟨rfl, rfl⟩
      go_wp2_with fail
      go_ret
      exact ⟨HF.out, rfl⟩
def orI (x y : Int) : Int := if x ≠ 0 then x else y
/-- cmp.Or of two. -/
theorem or_any (b : Nat) (x y : Int) (w : World) (h0 : w.cell? ⟨b, 0, none⟩ = some (.int .i64 x)) (h1 : w.cell? ⟨b, 1, none⟩ = some (.int .i64 y)) : Calls Try.prog 79 #[.slice (some ⟨b, 0, none⟩) 2 2] w fun e w' => e = .returned (.int .i64 (orI x y)) ∧ w' = w := by
  have FIN : Hid (∀ c, c = orI x y → Ending.returned (.int .i64 c) = .returned (.int .i64 (orI x y))) := fun c h => ret_int h
  go_enter Try.func79, Try.ntmps79
  go_wp2_with fail
  go_loop [8] (fun i => i = .int .i64 0 ∨ (i = .int .i64 1 ∧ x = 0) ∨ (i = .int .i64 2 ∧ x = 0 ∧ y = 0)) (fun i => 2 - (intOf i).toNat)
  case atStart => exact .inl rfl
  case round =>
    rcases hrel with rfl | ⟨rfl, rfl⟩ | ⟨rfl, rfl, rfl⟩
    · by_cases hx : x = 0
      · subst hx
        go_wp2_with fail
        go_roundw
        case rel => exact .inr (.inl ⟨by go_num, by simp⟩)
        case measure => simp [intOf]
      · have HF : Hid _ := FIN.out x (by rw [orI, if_pos hx])
        go_wp2_with fail
        go_ret
        exact ⟨HF.out, rfl⟩
    · by_cases hx : y = 0
      · subst hx
        go_wp2_with fail
        go_roundw
        case rel => exact .inr (.inr ⟨by go_num, by simp⟩)
        case measure => simp [intOf]
      · have HF : Hid _ := FIN.out y (by rw [orI, if_neg (by simp)])
        go_wp2_with fail
        go_ret
        exact ⟨HF.out, rfl⟩
    · go_wp2_with fail
      go_ret
      exact ⟨rfl, rfl⟩

end Go.Proofs.Ytopdhjnpcpkmlaa
