/- Texts of MaxV. Own work of the verifier. -/
import Derived.Test.YtbnmmcegjlmdmaaGreatDoorUqae
import Derived.Test.YtbnmmcegjlmdmaaGreatDoorUqab
namespace Go.Proofs.YtbnmmcegjlmdmaaGreatDoor
open Go Go.RowKit
set_option linter.unusedVariables false
def maxV (m : Int) : List Cel → Int
  | [] => m
  | c :: r => maxV (if c.1 = 0 ∧ m < c.2.1 then c.2.1 else m) r
theorem maxV_snoc : ∀ (l : List Cel) (c : Cel) (m : Int), maxV m (l ++ [c]) = if c.1 = 0 ∧ maxV m l < c.2.1 then c.2.1 else maxV m l
  | [], c, m => rfl
  | a :: r, c, m => maxV_snoc r c _
set_option maxRecDepth 100000 in
theorem maxVar_any (cs : List Cel) (p : Option Addr) (cap : Nat) (w : World) (hn : cs.length ≤ 1000000) (hb : ∀ c ∈ cs, cellB c.1 c.2.1 c.2.2.length = true) (hin : CIn w p cs) :
    Calls Tryz.prog 14 #[.slice p cs.length cap] w fun e w' => e = .returned (.int .i64 (maxV (-1) cs)) ∧ w' = w := by
  have HI : Hid (CIn w p cs) := hin
  have HB : Hid (∀ c ∈ cs, cellB c.1 c.2.1 c.2.2.length = true) := hb
  clear hin hb
  go_enter Tryz.func14, Tryz.ntmps14
  go_wp2_with fail
  go_loop [3, 4] (fun m i => ∃ (j : Nat) (mm : Int), j ≤ cs.length ∧ i = .int .i64 j ∧ m = .int .i64 mm ∧ (-1 ≤ mm ∧ mm ≤ 1000000000000000) ∧ Hid (mm = maxV (-1) (cs.take j))) (fun _ i => cs.length - (intOf i).toNat)
  case atStart => exact ⟨0, -1, Nat.zero_le _, rfl, rfl, by omega, rfl⟩
  case round =>
    obtain ⟨j, mm, hj, rfl, rfl, hmb, HM⟩ := hrel
    by_cases hlt : j < cs.length
    · obtain ⟨b, o, rfl, hc⟩ := HI.out (by omega)
      obtain ⟨q1, qc, d0, d1, d2, d3⟩ := hc j hlt
      have htk : cs.take (j + 1) = cs.take j ++ [cs.getD j Cel.none] := by rw [List.take_succ_eq_append_getElem hlt]; simp [List.getD, hlt]
      have hcb := HB.out (cs.getD j Cel.none) (by simp [List.getD, hlt])
      simp only [cellB, decide_eq_true_eq] at hcb
      have HN : Hid (maxV (-1) (cs.take (j + 1)) = if (cs.getD j Cel.none).1 = 0 ∧ mm < (cs.getD j Cel.none).2.1 then (cs.getD j Cel.none).2.1 else mm) := by show _ = _; rw [htk, maxV_snoc, ← HM.out]
      generalize (cs.getD j Cel.none).1 = k1 at d0 HN hcb
      generalize (cs.getD j Cel.none).2.1 = k2 at d1 HN hcb
      have hk2 : -1000000000000000 ≤ k2 ∧ k2 ≤ 1000000000000000 := by omega
      clear hc d2 d3 htk hcb
      by_cases h0 : k1 = 0
      · subst h0
        by_cases hg : mm < k2
        · have hgd : decide (mm < k2) = true := decide_eq_true hg
          go_wp2_with fail
          go_round
          case rel => exact ⟨j + 1, k2, by omega, by go_num, rfl, by omega, by show _ = _; rw [HN.out, if_pos ⟨rfl, hg⟩]⟩
          case measure => simp [intOf]; omega
        · have hgd : decide (mm < k2) = false := decide_eq_false hg
          go_wp2_with fail
          go_round
          case rel => exact ⟨j + 1, mm, by omega, by go_num, rfl, hmb, by show _ = _; rw [HN.out, if_neg (fun h => hg h.2)]⟩
          case measure => simp [intOf]; omega
      · have hgd : (k1 == 0) = false := beq_eq_false_iff_ne.2 h0
        go_wp2_with fail
        go_round
        case rel => exact ⟨j + 1, mm, by omega, by go_num, rfl, hmb, by show _ = _; rw [HN.out, if_neg (fun h => h0 h.1)]⟩
        case measure => simp [intOf]; omega
    · obtain rfl : j = cs.length := by omega
      have HM2 : Hid (mm = maxV (-1) cs) := by have := HM.out; rw [List.take_length] at this; exact this
      go_wp2_with fail
      go_ret
      exact ⟨ret_int HM2.out, rfl⟩
end Go.Proofs.YtbnmmcegjlmdmaaGreatDoor

