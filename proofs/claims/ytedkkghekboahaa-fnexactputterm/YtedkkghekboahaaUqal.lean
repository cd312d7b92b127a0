/- Texts of IntM, Mark, MarkH. Own work of the verifier. -/
import Derived.Test.YtedkkghekboahaaUqaf
import Derived.LoopN
import Derived.Test.YtedkkghekboahaaUqaj
import Derived.Test.YtedkkghekboahaaUqak
namespace Go.Proofs.Ytedkkghekboahaa
open Go Go.RowKit Go.Maps
set_option linter.unusedVariables false

/-- Numbers that go up. -/
def ups (k : Int) (n : Nat) : List Int := (List.range n).map fun (i : Nat) => k + (i : Int)
theorem ups_len (k : Int) (n : Nat) : (ups k n).length = n := by simp [ups]
theorem ups_at (k : Int) (n i : Nat) (h : i < n) : (ups k n).getD i 0 = k + i := by simp [ups, List.getD, h]
theorem markIntS_any (B : Nat) (p : Option Addr) (n c : Nat) (k : Int) (xs : List Int) (w : World) (h0 : 0 ≤ k) (h1 : k ≤ 1000000000000) (hn : n ≤ 1000000000) (hown : OwnI w B 3 p n c xs) :
    Calls Try.prog 48 #[.slice p n c, .int .i64 k] w fun e w' => e = .returned (.int .i64 (k + n)) ∧ OwnI w' B 3 p n c (ups k n) ∧ w.grownBy w' (Value.ownBlock (.slice p n c)) := by
  rcases hown.2.2 with ⟨hv, h00⟩ | ⟨g, cap, cur, hv, hbg, hg, _⟩
  · simp only [Value.slice.injEq] at hv
    obtain ⟨rfl, rfl, rfl⟩ := hv
    clear hown
    go_enter Try.func48, Try.ntmps48
    go_wp2
    refine wp_loop_rounds 1 ?_
    rw [rounds_succ]
    go_wp2
    go_ret
    exact ⟨by simp, OwnI.nil _ _ _, ⟨rfl, rfl, rfl, Nat.le_refl _, fun _ _ _ => rfl⟩⟩
  · simp only [Value.slice.injEq, true_and] at hv
    obtain ⟨rfl, rfl⟩ := hv
    have HN : Hid (n = xs.length) := hown.1
    have HO : Hid (w.ownsRow B 3 1 (.slice (some ⟨g, 0, none⟩) n c) n (xs.map (Value.int .i64))) := hown.2
    clear hown hg
    go_enter Try.func48, Try.ntmps48
    go_wp2_with fail
    go_loopw [1, 5] (fun q i wr => ∃ j : Nat, j ≤ n ∧ i = .int .i64 j ∧ q = .int .i64 (k + j) ∧ Hid (wr.ownsRow B 3 1 (.slice (some ⟨g, 0, none⟩) n c) n ((ups k j ++ xs.drop j).map (Value.int .i64))) ∧ Hid (w.grownBy wr (some g))) (fun _ i _ => n - (intOf i).toNat)
    case atStart => exact ⟨0, Nat.zero_le _, rfl, by simp, by simpa [ups] using HO, ⟨rfl, rfl, rfl, Nat.le_refl _, fun _ _ _ => rfl⟩⟩
    case round =>
      obtain ⟨j, hj, rfl, rfl, HR, HG⟩ := hrel
      by_cases hlt : j < n
      · have hxl := HN.out
        have hd : ∃ z, wr.cell? ⟨g, j, none⟩ = some (.int .i64 z) := by
          rw [HR.out.cellAt j (by omega)]
          simp only [List.getElem?_map]
          have : j < (ups k j ++ xs.drop j).length := by simp [ups_len]; omega
          rw [List.getElem?_eq_getElem this]
          exact ⟨_, rfl⟩
        obtain ⟨z, hd⟩ := hd
        have hf := HR.out.frozenAt j
        have HS : Hid ((wr.setCell ⟨g, j, none⟩ (.int .i64 (k + j))).ownsRow B 3 1 (.slice (some ⟨g, 0, none⟩) n c) n ((ups k (j + 1) ++ xs.drop (j + 1)).map (Value.int .i64)) ∧ wr.grownBy (wr.setCell ⟨g, j, none⟩ (.int .i64 (k + j))) (some g)) := by
          have hs := HR.out.stored j (.int .i64 (k + j))
          have e : ((ups k j ++ xs.drop j).map (Value.int .i64)).set j (.int .i64 (k + j)) = (ups k (j + 1) ++ xs.drop (j + 1)).map (Value.int .i64) := by
            have e1 : j - ((ups k j).map (Value.int IntKind.i64)).length = 0 := by simp [ups_len]
            rw [List.map_append, List.set_append_right _ _ (by simp [ups_len]), e1, List.drop_eq_getElem_cons (by omega), List.map_cons, List.set_cons_zero]
            simp [ups, List.range_succ]
          rw [e] at hs
          exact hs
        clear hxl
        go_wp2_with fail
        go_roundw
        case rel => exact ⟨j + 1, by omega, by go_num, by simp; omega, HS.out.1, HG.out.trans HS.out.2⟩
        case measure => simp [intOf]; omega
      · obtain rfl : j = n := by omega
        go_wp2_with fail
        go_ret
        refine ⟨rfl, ⟨(ups_len _ _).symm, ?_⟩, HG.out⟩
        have := HR.out
        rw [List.drop_eq_nil_of_le (by rw [← HN.out]; exact Nat.le_refl _), List.append_nil] at this
        exact this
theorem heldIntS_any (p : Option Addr) (n c : Nat) (k : Int) (w : World) (h0 : 0 ≤ k) (h1 : k ≤ 1000000000000) (hn : n ≤ 1000000000) (hin : IIn w p (ups k n)) :
    Calls Try.prog 62 #[.slice p n c, .int .i64 k] w fun e w' => e = .returned (.int .i64 (k + n)) ∧ w' = w := by
  have HI : Hid (IIn w p (ups k n)) := hin
  clear hin
  go_enter Try.func62, Try.ntmps62
  go_wp2_with fail
  go_loop [1, 5] (fun q i => ∃ j : Nat, j ≤ n ∧ i = .int .i64 j ∧ q = .int .i64 (k + j)) (fun _ i => n - (intOf i).toNat)
  case atStart => exact ⟨0, Nat.zero_le _, rfl, by simp⟩
  case round =>
    obtain ⟨j, hj, rfl, rfl⟩ := hrel
    by_cases hlt : j < n
    · obtain ⟨b, o, rfl, hc⟩ := HI.out (by rw [ups_len]; omega)
      have hx := hc j (by rw [ups_len]; exact hlt)
      rw [ups_at k n j hlt] at hx
      clear hc
      go_wp2_with fail
      go_round
      case rel => exact ⟨j + 1, by omega, by go_num, by simp; omega⟩
      case measure => simp [intOf]; omega
    · obtain rfl : j = n := by omega
      go_wp2_with fail
      go_ret
      exact ⟨rfl, rfl⟩

end Go.Proofs.Ytedkkghekboahaa

namespace Go.Proofs.Ytedkkghekboahaa
open Go Go.RowKit
set_option linter.unusedVariables false

theorem held_any (p : Option Addr) (n c : Nat) (k : Int) (w : World) (h0 : 0 ≤ k) (h1 : k ≤ 1000000000000) (hn : n ≤ 1000000000) (hin : BIn w p (marks k n)) :
    Calls Try.prog 50 #[.slice p n c, .int .i64 k] w fun e w' => e = .returned (.int .i64 (k + n)) ∧ w' = w := by
  have HI : Hid (BIn w p (marks k n)) := hin
  clear hin
  go_enter Try.func50, Try.ntmps50
  go_wp2
  go_loop [1, 5] (fun q i => ∃ j : Nat, j ≤ n ∧ i = .int .i64 j ∧ q = .int .i64 (k + j)) (fun _ i => n - (intOf i).toNat)
  case atStart => exact ⟨0, Nat.zero_le _, rfl, by simp⟩
  case round =>
    obtain ⟨j, hj, rfl, rfl⟩ := hrel
    by_cases hlt : j < n
    · obtain ⟨b, o, rfl, hc⟩ := HI.out (by rw [marks_len]; omega)
      have hx := hc j (by rw [marks_len]; exact hlt)
      rw [marks_at n k j hlt] at hx
      have hwr := wrap_byte (k + j) (by omega)
      clear hc
      go_wp2
      go_round
      case rel => exact ⟨j + 1, by omega, by go_num, by simp; omega⟩
      case measure => simp [intOf]; omega
    · obtain rfl : j = n := by omega
      go_wp2
      go_ret
      exact ⟨rfl, rfl⟩

end Go.Proofs.Ytedkkghekboahaa

namespace Go.Proofs.Ytedkkghekboahaa
open Go Go.RowKit
set_option linter.unusedVariables false

theorem heldCells_any (p : Option Addr) (n c : Nat) (k : Int) (cs : List Cel) (w : World) (h0 : 0 ≤ k) (h1 : k ≤ 10000000) (hn : cs.length + tl cs ≤ 100000000) (hl : n = cs.length) (hin : CIn w p (markC k cs)) :
    Calls Try.prog 24 #[.slice p n c, .int .i64 k] w fun e w' => e = .returned (.int .i64 (endC k cs)) ∧ w' = w := by
  have HI : Hid (CIn w p (markC k cs)) := hin
  have HNL : Hid (n = cs.length) := hl
  clear hin
  have hnn : n ≤ 100000000 := by omega
  clear hl
  go_enter Try.func24, Try.ntmps24
  go_wp2_with fail
  go_loop [1, 5] (fun q i => ∃ (j : Nat) (kj : Int), j ≤ n ∧ 0 ≤ kj ∧ kj ≤ 1000000000 ∧ i = .int .i64 j ∧ q = .int .i64 kj ∧ Hid (kj = kAt k cs j)) (fun _ i => n - (intOf i).toNat)
  case atStart => exact ⟨0, k, Nat.zero_le _, h0, by omega, rfl, rfl, (kAt_zero _ _).symm⟩
  case round =>
    obtain ⟨j, kj, hj, hk0, hk1, rfl, rfl, HK⟩ := hrel
    by_cases hlt : j < n
    · have hjl : j < cs.length := by rw [← HNL.out]; exact hlt
      obtain ⟨b, o, rfl, hcs⟩ := HI.out (by rw [markC, mixC_len]; omega)
      obtain ⟨q, qc, d0, d1, d2, d3⟩ := hcs j (by rw [markC, mixC_len]; exact hjl)
      have hm : (markC k cs).getD j Cel.none = markedC k cs j := by rw [markC, mixC_at _ _ _ _ hjl, if_pos hjl]
      rw [hm] at d0 d1 d2 d3
      simp only [markedC, ← HK.out, marks_len] at d0 d1 d2 d3
      have htl := tl_at cs j hjl
      have HS1 : Hid _ := kAt_succ k cs j hjl
      have hbound : kAt k cs (j + 1) ≤ 1000000000 := by have := tl_take_le cs (j + 1); simp only [kAt]; omega
      have HBD : Hid _ := hbound
      obtain ⟨tn, etn⟩ : ∃ x, x = (cs.getD j Cel.none).2.2.length := ⟨_, rfl⟩
      rw [← etn] at d2 d3 HS1
      have htn : tn ≤ 100000000 := by omega
      have hpos : ¬ (kj + 1 + 1 + (tn : Int) < 0) := by omega
      have HH := held_any q tn qc (kj + 1 + 1) w (by omega) (by omega) (by omega) d3
      clear etn hcs hm htl HI hbound d3
      go_wp2_with fail
      refine HH.mono ?_
      rintro e w3 ⟨rfl, rfl⟩
      go_wp2_with fail
      have e1 := HS1.out
      have e3 := HK.out
      have e5 := HBD.out
      go_round
      case rel => exact ⟨j + 1, kj + 1 + 1 + tn, by omega, by omega, by rw [e1] at e5; omega, by go_num, rfl, by show _ = _; rw [e1]; omega⟩
      case measure => simp [intOf]; omega
    · obtain rfl : j = n := by omega
      clear HI
      go_wp2_with fail
      go_ret
      exact ⟨ret_int (by rw [HK.out, HNL.out]; rfl), rfl⟩

end Go.Proofs.Ytedkkghekboahaa

