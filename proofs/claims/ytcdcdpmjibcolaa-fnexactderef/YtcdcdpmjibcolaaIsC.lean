/- What a valid cell is: the program. Own work of the verifier. -/
import Derived.Test.YtcdcdpmjibcolaaCell3
namespace Go.Proofs.Ytcdcdpmjibcolaa
open Go Go.RowKit
set_option linter.unusedVariables false

def cellB (k n : Int) (m : Nat) : Bool := decide ((k = 0 ∧ 0 ≤ n ∧ n ≤ 1000000 ∧ m = 0) ∨ (k = 1 ∧ -1000000000000000 ≤ n ∧ n ≤ 1000000000000000 ∧ m = 0) ∨ (k = 2 ∧ m ≤ 100 ∧ n = 0) ∨ (k = 3 ∧ m ≤ 100 ∧ 1 ≤ n ∧ n ≤ 20))

theorem isCell_any (k n : Int) (p : Option Addr) (m c : Nat) (w : World) :
    Calls Try.prog 96 #[.agg #[.int .i64 k, .int .i64 n, .slice p m c]] w fun e w' => e = .returned (.bool (cellB k n m)) ∧ Below w.heap.size w w' := by
  have fin : ∀ {a : Bool} {o : Obj}, a = cellB k n m → (Ending.returned (.bool a) = .returned (.bool (cellB k n m)) ∧ Below w.heap.size w (w.alloc o)) := fun h => ⟨ret_bool h, (Below.refl _ _).alloc (Nat.le_refl _) _⟩
  have FIN : Hid _ := @fin
  clear fin
  by_cases k0 : k = 0
  · subst k0
    by_cases hm : m = 0
    · subst hm
      by_cases a : 0 ≤ n
      · go_enter Try.func96, Try.ntmps96
        go_wp2
        go_ret
        exact FIN.out (by rw [Bool.eq_iff_iff]; simp [cellB]; omega)
      · go_enter Try.func96, Try.ntmps96
        go_wp2
        go_ret
        exact FIN.out (by rw [Bool.eq_iff_iff]; simp [cellB]; omega)
    · have hm' : ((m : Int) == 0) = false := by simp; omega
      have HM : Hid (m ≠ 0) := hm
      clear hm
      go_enter Try.func96, Try.ntmps96
      go_wp2
      go_ret
      exact FIN.out (by have := HM.out; rw [Bool.eq_iff_iff]; simp [cellB]; omega)
  · by_cases k1 : k = 1
    · subst k1
      by_cases hm : m = 0
      · subst hm
        by_cases a : -1000000000000000 ≤ n
        · go_enter Try.func96, Try.ntmps96
          go_wp2
          go_ret
          exact FIN.out (by rw [Bool.eq_iff_iff]; simp [cellB]; omega)
        · go_enter Try.func96, Try.ntmps96
          go_wp2
          go_ret
          exact FIN.out (by rw [Bool.eq_iff_iff]; simp [cellB]; omega)
      · have hm' : ((m : Int) == 0) = false := by simp; omega
        have HM : Hid (m ≠ 0) := hm
        clear hm k0
        go_enter Try.func96, Try.ntmps96
        go_wp2
        go_ret
        exact FIN.out (by have := HM.out; rw [Bool.eq_iff_iff]; simp [cellB]; omega)
    · have t0 : (k == 0) = false := by simpa using k0
      have t1 : (k == 1) = false := by simpa using k1
      by_cases k2 : k = 2
      · subst k2
        clear t0 t1 k0 k1
        by_cases hm : (m : Int) ≤ 100
        · go_enter Try.func96, Try.ntmps96
          go_wp2
          go_ret
          exact FIN.out (by rw [Bool.eq_iff_iff]; simp [cellB]; omega)
        · go_enter Try.func96, Try.ntmps96
          go_wp2
          go_ret
          exact FIN.out (by rw [Bool.eq_iff_iff]; simp [cellB]; omega)
      · by_cases k3 : k = 3
        · subst k3
          clear t0 t1 k0 k1 k2
          by_cases hm : (m : Int) ≤ 100
          · by_cases a : 1 ≤ n
            · go_enter Try.func96, Try.ntmps96
              go_wp2
              go_ret
              exact FIN.out (by rw [Bool.eq_iff_iff]; simp [cellB]; omega)
            · go_enter Try.func96, Try.ntmps96
              go_wp2
              go_ret
              exact FIN.out (by rw [Bool.eq_iff_iff]; simp [cellB]; omega)
          · go_enter Try.func96, Try.ntmps96
            go_wp2
            go_ret
            exact FIN.out (by rw [Bool.eq_iff_iff]; simp [cellB]; omega)
        · have t2 : (k == 2) = false := by simpa using k2
          have t3 : (k == 3) = false := by simpa using k3
          have HK : Hid (k ≠ 0 ∧ k ≠ 1 ∧ k ≠ 2 ∧ k ≠ 3) := ⟨k0, k1, k2, k3⟩
          clear k0 k1 k2 k3
          go_enter Try.func96, Try.ntmps96
          go_wp2
          go_ret
          exact FIN.out (by have := HK.out; rw [Bool.eq_iff_iff]; simp [cellB]; omega)

end Go.Proofs.Ytcdcdpmjibcolaa
