/- The model: is a cell a word; does something stand within itself. Own work of the verifier. -/
import Derived.Test.YtcdcdpmjibcolaaStW
namespace Go.Proofs.Ytcdcdpmjibcolaa
open Go Go.RowKit
set_option linter.unusedVariables false

set_option maxHeartbeats 1000000 in
set_option maxRecDepth 100000 in
theorem l10word_any (p pt : Option Addr) (c m cap : Nat) (k n : Int) (xs : List Cel) (w : World) (hl : xs.length ≤ 20000) (hc : CIn w p xs) :
    Calls Try.prog 76 #[.slice p xs.length c, .agg #[.int .i64 k, .int .i64 n, .slice pt m cap]] w fun e w' => e = .returned (.bool (wordB xs k n m)) ∧ Below w.heap.size w w' := by
  have fin : ∀ {a : Bool} {o : Obj}, a = wordB xs k n m → (Ending.returned (.bool a) = .returned (.bool (wordB xs k n m)) ∧ Below w.heap.size w (w.alloc o)) := fun h => ⟨ret_bool h, (Below.refl _ _).alloc (Nat.le_refl _) _⟩
  have FIN : Hid _ := @fin
  clear fin
  by_cases k2 : k = 2
  · subst k2
    have e : wordB xs 2 n m = (decide (n = 0) && decide (m ≤ 100)) := by
      rw [Bool.eq_iff_iff]; simp [wordB, okW, leadB, cellB]; omega
    by_cases n0 : n = 0
    · subst n0
      by_cases hm : (m : Int) ≤ 100
      · have HE : Hid (wordB xs 2 0 m = true) := by show _ = _; rw [e]; simp; omega
        clear e hc
        go_enter Try.func76, Try.ntmps76
        go_wp2
        go_ret
        exact FIN.out (by rw [HE.out])
      · have HE : Hid (wordB xs 2 0 m = false) := by show _ = _; rw [e]; simp; omega
        clear e hc
        go_enter Try.func76, Try.ntmps76
        go_wp2
        go_ret
        exact FIN.out (by rw [HE.out])
    · have n0' : (n == 0) = false := by simpa using n0
      have HE : Hid (wordB xs 2 n m = false) := by show _ = _; rw [e]; simp [n0]
      clear e hc n0
      go_enter Try.func76, Try.ntmps76
      go_wp2
      go_ret
      exact FIN.out HE.out.symm
  · have k2' : (k == 2) = false := by simpa using k2
    by_cases hm : m = 0
    · subst hm
      by_cases k1 : k = 1
      · subst k1
        have e : wordB xs 1 n 0 = (decide (-1000000000000000 ≤ n) && decide (n ≤ 1000000000000000)) := by
          rw [Bool.eq_iff_iff]; simp [wordB, okW, leadB, cellB]
        have HE : Hid _ := e
        clear hc k2 e
        by_cases a : -1000000000000000 ≤ n
        · by_cases b : n ≤ 1000000000000000
          · go_enter Try.func76, Try.ntmps76
            go_wp2
            go_ret
            exact FIN.out (by rw [HE.out]; simp; omega)
          · go_enter Try.func76, Try.ntmps76
            go_wp2
            go_ret
            exact FIN.out (by rw [HE.out]; simp; omega)
        · go_enter Try.func76, Try.ntmps76
          go_wp2
          go_ret
          exact FIN.out (by rw [HE.out]; simp; omega)
      · have k1' : (k == 1) = false := by simpa using k1
        by_cases h0 : n < 0
        · have HE : Hid (wordB xs k n 0 = false) := by
            show _ = _
            rw [Bool.eq_false_iff]; simp only [ne_eq, wordB, Bool.and_eq_true, not_and]
            intro ho; simp only [leadB, isWB, funB]
            split
            · simp; omega
            · split
              · simp; omega
              · split
                · simp
                · rename_i q0 q4 q3
                  simp [okW, q4, cellB] at ho; omega
          clear hc k2 k1
          go_enter Try.func76, Try.ntmps76
          go_wp2
          go_ret
          exact FIN.out HE.out.symm
        · by_cases h1 : n < xs.length
          · obtain ⟨j, rfl⟩ : ∃ j : Nat, n = j := ⟨n.toNat, by omega⟩
            have hj : j < xs.length := by omega
            obtain ⟨b, o, rfl, hcs⟩ := hc (by omega)
            obtain ⟨q, qc, c0, _, _, _⟩ := hcs j hj
            have hlt := World.block_lt_of_cell? _ _ c0
            have HB0 : Hid (Below w.heap.size w (w.alloc (.cells #[.int .i64 k, .int .i64 j, .slice pt 0 cap] 31))) := (Below.refl _ _).alloc (Nat.le_refl _) _
            have c0' := (HB0.out.cell hlt).trans c0
            have e : wordB xs k j 0 = (if k = 0 then decide ((xs.getD j Cel.none).1 ≠ 3) else if k = 4 then decide ((xs.getD j Cel.none).1 = 3) else false) := by
              rw [Bool.eq_iff_iff]
              by_cases q0 : k = 0
              · subst q0; simp [wordB, okW, leadB, cellB, isWB, kndA, hj]; omega
              · by_cases q4 : k = 4
                · subst q4; simp [wordB, okW, leadB, funB, kndA, hj]
                · by_cases q3 : k = 3
                  · subst q3; simp [wordB, leadB]
                  · simp [wordB, okW, q4, q0, cellB, k1, k2, q3]
            generalize (xs.getD j Cel.none).1 = d at c0' e
            have HE : Hid _ := e
            clear hcs hc c0 e hlt
            by_cases q0 : k = 0
            · subst q0
              clear k2 k1 k1' k2'
              by_cases d3 : d = 3
              · subst d3
                go_enter Try.func76, Try.ntmps76
                go_wp2
                go_ret
                exact FIN.out (by rw [HE.out]; simp)
              · have d3' : (d != 3) = true := by simpa using d3
                go_enter Try.func76, Try.ntmps76
                go_wp2
                go_ret
                exact FIN.out (by rw [HE.out]; simp [d3])
            · have q0' : (k == 0) = false := by simpa using q0
              by_cases q4 : k = 4
              · subst q4
                clear k2 k1 k1' k2' q0 q0'
                by_cases d3 : d = 3
                · subst d3
                  go_enter Try.func76, Try.ntmps76
                  go_wp2
                  go_ret
                  exact FIN.out (by rw [HE.out]; simp)
                · have d3' : (d == 3) = false := by simpa using d3
                  go_enter Try.func76, Try.ntmps76
                  go_wp2
                  go_ret
                  exact FIN.out (by rw [HE.out]; simp [d3])
              · have q4' : (k == 4) = false := by simpa using q4
                have HE' : Hid (wordB xs k j 0 = false) := by show _ = _; rw [HE.out]; simp [q0, q4]
                clear k2 k1 q0 q4 HE
                go_enter Try.func76, Try.ntmps76
                go_wp2
                go_ret
                exact FIN.out HE'.out.symm
          · have HE : Hid (wordB xs k n 0 = false) := by
              show _ = _
              rw [Bool.eq_false_iff]; simp only [ne_eq, wordB, Bool.and_eq_true, not_and]
              intro ho; simp only [leadB, isWB, funB]
              split
              · simp; omega
              · split
                · simp; omega
                · split
                  · simp
                  · rename_i q0 q4 q3
                    simp [okW, q4, cellB] at ho; omega
            clear hc k2 k1
            go_enter Try.func76, Try.ntmps76
            go_wp2
            go_ret
            exact FIN.out HE.out.symm
    · have hm' : ((m : Int) != 0) = true := by simp; omega
      have HE : Hid (wordB xs k n m = false) := by
        show _ = _
        rw [Bool.eq_false_iff]; simp only [ne_eq, wordB, Bool.and_eq_true, not_and]
        intro ho
        by_cases q4 : k = 4
        · subst q4; simp [okW] at ho; omega
        · by_cases q3 : k = 3
          · subst q3; simp [leadB]
          · simp [okW, q4, cellB] at ho; omega
      clear hc k2 hm
      go_enter Try.func76, Try.ntmps76
      go_wp2
      go_ret
      exact FIN.out HE.out.symm

end Go.Proofs.Ytcdcdpmjibcolaa
