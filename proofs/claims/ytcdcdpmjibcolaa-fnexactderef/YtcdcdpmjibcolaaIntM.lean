/- Numbers marked and held. (Cut out of Vars4.) Own work of the verifier. -/
import Derived.Test.YtcdcdpmjibcolaaIntG
import Derived.LoopN
namespace Go.Proofs.Ytcdcdpmjibcolaa
open Go Go.RowKit Go.Maps
set_option linter.unusedVariables false

/-- Numbers that go up. -/
def ups (k : Int) (n : Nat) : List Int := (List.range n).map fun (i : Nat) => k + (i : Int)
theorem ups_len (k : Int) (n : Nat) : (ups k n).length = n := by simp [ups]
theorem ups_at (k : Int) (n i : Nat) (h : i < n) : (ups k n).getD i 0 = k + i := by simp [ups, List.getD, h]
theorem markIntS_any (B : Nat) (p : Option Addr) (n c : Nat) (k : Int) (xs : List Int) (w : World) (h0 : 0 ≤ k) (h1 : k ≤ 1000000000000) (hn : n ≤ 1000000000) (hown : OwnI w B 3 p n c xs) :
    Calls Try.prog 48 #[.slice p n c, .int .i64 k] w fun e w' => e = .returned (.int .i64 (k + n)) ∧ OwnI w' B 3 p n c (ups k n) ∧ w.grownBy w' (Value.ownBlock (.slice p n c)) := by
  rcases hown.2.2 with ⟨hv, h00⟩ | ⟨g, cap, cur, hv, hbg, hg, _⟩
  · simp only [Value.slice.injEq] at hv
    obtain ⟨rfl, rfl, rfl⟩ := hv
    clear hown
    go_enter Try.func48, Try.ntmps48
    go_wp2
    refine wp_loop_rounds 1 ?_
    rw [rounds_succ]
    go_wp2
    go_ret
    exact ⟨by simp, OwnI.nil _ _ _, ⟨rfl, rfl, rfl, Nat.le_refl _, fun _ _ _ => rfl⟩⟩
  · simp only [Value.slice.injEq, true_and] at hv
    obtain ⟨rfl, rfl⟩ := hv
    have HN : Hid (n = xs.length) := hown.1
    have HO : Hid (w.ownsRow B 3 1 (.slice (some ⟨g, 0, none⟩) n c) n (xs.map (Value.int .i64))) := hown.2
    clear hown hg
    go_enter Try.func48, Try.ntmps48
    go_wp2_with fail
    go_loopw [1, 5] (fun q i wr => ∃ j : Nat, j ≤ n ∧ i = .int .i64 j ∧ q = .int .i64 (k + j) ∧ Hid (wr.ownsRow B 3 1 (.slice (some ⟨g, 0, none⟩) n c) n ((ups k j ++ xs.drop j).map (Value.int .i64))) ∧ Hid (w.grownBy wr (some g))) (fun _ i _ => n - (intOf i).toNat)
    case atStart => exact ⟨0, Nat.zero_le _, rfl, by simp, by simpa [ups] using HO, ⟨rfl, rfl, rfl, Nat.le_refl _, fun _ _ _ => rfl⟩⟩
    case round =>
      obtain ⟨j, hj, rfl, rfl, HR, HG⟩ := hrel
      by_cases hlt : j < n
      · have hxl := HN.out
        have hd : ∃ z, wr.cell? ⟨g, j, none⟩ = some (.int .i64 z) := by
          rw [HR.out.cellAt j (by omega)]
          simp only [List.getElem?_map]
          have : j < (ups k j ++ xs.drop j).length := by simp [ups_len]; omega
          rw [List.getElem?_eq_getElem this]
          exact ⟨_, rfl⟩
        obtain ⟨z, hd⟩ := hd
        have hf := HR.out.frozenAt j
        have HS : Hid ((wr.setCell ⟨g, j, none⟩ (.int .i64 (k + j))).ownsRow B 3 1 (.slice (some ⟨g, 0, none⟩) n c) n ((ups k (j + 1) ++ xs.drop (j + 1)).map (Value.int .i64)) ∧ wr.grownBy (wr.setCell ⟨g, j, none⟩ (.int .i64 (k + j))) (some g)) := by
          have hs := HR.out.stored j (.int .i64 (k + j))
          have e : ((ups k j ++ xs.drop j).map (Value.int .i64)).set j (.int .i64 (k + j)) = (ups k (j + 1) ++ xs.drop (j + 1)).map (Value.int .i64) := by
            have e1 : j - ((ups k j).map (Value.int IntKind.i64)).length = 0 := by simp [ups_len]
            rw [List.map_append, List.set_append_right _ _ (by simp [ups_len]), e1, List.drop_eq_getElem_cons (by omega), List.map_cons, List.set_cons_zero]
            simp [ups, List.range_succ]
          rw [e] at hs
          exact hs
        clear hxl
        go_wp2_with fail
        go_roundw
        case rel => exact ⟨j + 1, by omega, by go_num, by simp; omega, HS.out.1, HG.out.trans HS.out.2⟩
        case measure => simp [intOf]; omega
      · obtain rfl : j = n := by omega
        go_wp2_with fail
        go_ret
        refine ⟨rfl, ⟨(ups_len _ _).symm, ?_⟩, HG.out⟩
        have := HR.out
        rw [List.drop_eq_nil_of_le (by rw [← HN.out]; exact Nat.le_refl _), List.append_nil] at this
        exact this
theorem heldIntS_any (p : Option Addr) (n c : Nat) (k : Int) (w : World) (h0 : 0 ≤ k) (h1 : k ≤ 1000000000000) (hn : n ≤ 1000000000) (hin : IIn w p (ups k n)) :
    Calls Try.prog 59 #[.slice p n c, .int .i64 k] w fun e w' => e = .returned (.int .i64 (k + n)) ∧ w' = w := by
  have HI : Hid (IIn w p (ups k n)) := hin
  clear hin
  go_enter Try.func59, Try.ntmps59
  go_wp2_with fail
  go_loop [1, 5] (fun q i => ∃ j : Nat, j ≤ n ∧ i = .int .i64 j ∧ q = .int .i64 (k + j)) (fun _ i => n - (intOf i).toNat)
  case atStart => exact ⟨0, Nat.zero_le _, rfl, by simp⟩
  case round =>
    obtain ⟨j, hj, rfl, rfl⟩ := hrel
    by_cases hlt : j < n
    · obtain ⟨b, o, rfl, hc⟩ := HI.out (by rw [ups_len]; omega)
      have hx := hc j (by rw [ups_len]; exact hlt)
      rw [ups_at k n j hlt] at hx
      clear hc
      go_wp2_with fail
      go_round
      case rel => exact ⟨j + 1, by omega, by go_num, by simp; omega⟩
      case measure => simp [intOf]; omega
    · obtain rfl : j = n := by omega
      go_wp2_with fail
      go_ret
      exact ⟨rfl, rfl⟩

end Go.Proofs.Ytcdcdpmjibcolaa
