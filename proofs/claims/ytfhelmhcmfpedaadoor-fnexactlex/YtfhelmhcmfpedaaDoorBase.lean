/- The walks of the small functions of both sides. Own work of the verifier. -/
import Derived.Test.YtfhelmhcmfpedaaDoorPre
import Derived.Test.YtfhelmhcmfpedaaDoorPure
namespace Go.Proofs.YtfhelmhcmfpedaaDoor
open Go Go.RowKit

theorem small_any (c : Int) (w : World) (h0 : 0 ≤ c) (h1 : c < 256) : Calls Tryd.prog 19 #[.int .u8 c] w fun e w' => e = .returned (.bool (smallB c)) ∧ w' = w := by
  by_cases a : 97 ≤ c
  · by_cases b : c ≤ 122
    · go_enter Tryd.func19, Tryd.ntmps19
      go_wp2
      go_ret
      exact ⟨by simp [smallB, a, b], rfl⟩
    · go_enter Tryd.func19, Tryd.ntmps19
      go_wp2
      go_ret
      exact ⟨by simp [smallB, a, b], rfl⟩
  · go_enter Tryd.func19, Tryd.ntmps19
    go_wp2
    go_ret
    exact ⟨ret_bool (by simp only [smallB]; symm; simp; omega), rfl⟩
theorem digit_any (c : Int) (w : World) (h0 : 0 ≤ c) (h1 : c < 256) : Calls Tryd.prog 38 #[.int .u8 c] w fun e w' => e = .returned (.bool (digitB c)) ∧ w' = w := by
  by_cases a : 48 ≤ c
  · by_cases b : c ≤ 57
    · go_enter Tryd.func38, Tryd.ntmps38
      go_wp2
      go_ret
      exact ⟨by simp [digitB, a, b], rfl⟩
    · go_enter Tryd.func38, Tryd.ntmps38
      go_wp2
      go_ret
      exact ⟨by simp [digitB, a, b], rfl⟩
  · go_enter Tryd.func38, Tryd.ntmps38
    go_wp2
    go_ret
    exact ⟨ret_bool (by simp only [digitB]; symm; simp; omega), rfl⟩

/-- The classes as a table of 256: a test over a closed number is reckoned. -/
theorem alnum_any (c : Int) (w : World) (h0 : 0 ≤ c) (h1 : c < 256) : Calls Tryd.prog 35 #[.int .u8 c] w fun e w' => e = .returned (.bool (alnumB c)) ∧ w' = w := by
  by_cases a : 97 ≤ c ∧ c ≤ 122
  · have hs : smallB c = true := by simp [smallB, a]
    go_enter Tryd.func35, Tryd.ntmps35
    go_wp2_with (go_at_call 19; refine (small_any c _ h0 h1).mono ?_; rintro e w' ⟨rfl, rfl⟩)
    go_ret
    exact ⟨by simp [alnumB, a], rfl⟩
  · have hs : smallB c = false := by simp only [smallB, a, decide_false]
    by_cases b : 65 ≤ c
    · by_cases b' : c ≤ 90
      · go_enter Tryd.func35, Tryd.ntmps35
        go_wp2_with (go_at_call 19; refine (small_any c _ h0 h1).mono ?_; rintro e w' ⟨rfl, rfl⟩)
        go_ret
        exact ⟨by simp [alnumB, a, b, b'], rfl⟩
      · by_cases d : c = 95
        · subst d
          go_enter Tryd.func35, Tryd.ntmps35
          go_wp2_with (go_at_call 19; refine (small_any _ _ h0 h1).mono ?_; rintro e w' ⟨rfl, rfl⟩)
          go_ret
          exact ⟨rfl, rfl⟩
        · have hd : digitB c = false := by simp [digitB]; omega
          have hz : alnumB c = false := by simp only [alnumB, decide_eq_false_iff_not]; omega
          rw [hz]
          clear a
          go_enter Tryd.func35, Tryd.ntmps35
          go_wp2_with (first | (go_at_call 19; refine (small_any c _ h0 h1).mono ?_; rintro e w' ⟨rfl, rfl⟩) | (go_at_call 38; refine (digit_any c _ h0 h1).mono ?_; rintro e w' ⟨rfl, rfl⟩))
          go_ret
          exact ⟨ret_bool (by simp [d, b']), rfl⟩
    · have d : ¬ c = 95 := by omega
      have hz : alnumB c = digitB c := by simp only [alnumB, digitB]; congr 1; rw [eq_iff_iff]; omega
      rw [hz]
      clear a
      go_enter Tryd.func35, Tryd.ntmps35
      go_wp2_with (first | (go_at_call 19; refine (small_any c _ h0 h1).mono ?_; rintro e w' ⟨rfl, rfl⟩) | (go_at_call 38; refine (digit_any c _ h0 h1).mono ?_; rintro e w' ⟨rfl, rfl⟩))
      go_ret
      exact ⟨ret_bool (by simp [d]), rfl⟩

end Go.Proofs.YtfhelmhcmfpedaaDoor
