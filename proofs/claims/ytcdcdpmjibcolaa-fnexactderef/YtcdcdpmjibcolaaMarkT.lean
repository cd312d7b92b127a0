/- markByteS of a text of the call's own. Own work of the verifier. -/
import Derived.Test.YtcdcdpmjibcolaaCelB
import Derived.Test.YtcdcdpmjibcolaaMarkA
namespace Go.Proofs.Ytcdcdpmjibcolaa
open Go Go.RowKit
set_option linter.unusedVariables false

/-- The block that a text lies in. -/
def tb (p : Option Addr) (n : Nat) : Option Nat := if n = 0 then none else p.map Addr.block

theorem partly_at (k : Int) (xs : List Int) (j i : Nat) (hj : j ≤ xs.length) (hi : i < xs.length) : (partly k xs j).getD i 0 = if i < j then (k + i) % 256 else xs.getD i 0 := by
  unfold partly
  by_cases h : i < j
  · rw [if_pos h, ← marks_at j k i h]
    simp only [List.getD]
    rw [List.getElem?_append_left (by rw [marks_len]; exact h)]
  · rw [if_neg h]
    simp only [List.getD]
    rw [List.getElem?_append_right (by rw [marks_len]; omega), marks_len, List.getElem?_drop, show j + (i - j) = i by omega]

theorem markT_any (B : Nat) (p : Option Addr) (n c : Nat) (k : Int) (xs : List Int) (w : World) (h0 : 0 ≤ k) (h1 : k ≤ 1000000000000) (hn : n ≤ 1000000000) (hown : OwnT w B p n c xs) :
    Calls Try.prog 49 #[.slice p n c, .int .i64 k] w fun e w' => e = .returned (.int .i64 (k + n)) ∧ OwnT w' B p n c (marks k n) ∧ w.grownBy w' (tb p n) := by
  by_cases hz : n = 0
  · subst hz
    clear hown
    go_enter Try.func49, Try.ntmps49
    go_wp2
    refine wp_loop_rounds 1 ?_
    rw [rounds_succ]
    go_wp2
    go_ret
    exact ⟨by simp, ⟨rfl, fun h => absurd h (Nat.lt_irrefl 0)⟩, ⟨rfl, rfl, rfl, Nat.le_refl _, fun _ _ _ => rfl⟩⟩
  · obtain ⟨hl, hr⟩ := hown
    obtain ⟨g, rfl, hB, hlt0, hc⟩ := hr (by omega)
    have HN : Hid (n = xs.length) := hl
    have HO : Hid (∀ i, i < n → w.cell? ⟨g, i, none⟩ = some (.int .u8 (xs.getD i 0)) ∧ w.frozen? ⟨g, i, none⟩ = false) := hc
    have ht : tb (some (⟨g, 0, none⟩ : Addr)) n = some g := by simp [tb, hz]
    rw [ht]
    clear hl hr hc ht
    go_enter Try.func49, Try.ntmps49
    go_wp2
    go_loopw [1, 5] (fun q i wr => ∃ j : Nat, j ≤ n ∧ i = .int .i64 j ∧ q = .int .i64 (k + j) ∧ Hid (∀ i, i < n → wr.cell? ⟨g, i, none⟩ = some (.int .u8 ((partly k xs j).getD i 0)) ∧ wr.frozen? ⟨g, i, none⟩ = false) ∧ Hid (w.grownBy wr (some g))) (fun _ i _ => n - (intOf i).toNat)
    case atStart => exact ⟨0, Nat.zero_le _, rfl, by simp, by simpa [partly, marks] using HO, ⟨rfl, rfl, rfl, Nat.le_refl _, fun _ _ _ => rfl⟩⟩
    case round =>
      obtain ⟨j, hj, rfl, rfl, HR, HG⟩ := hrel
      by_cases hlt : j < n
      · obtain ⟨hd, hf⟩ := HR.out j hlt
        obtain ⟨z, ez⟩ : ∃ z, z = (partly k xs j).getD j 0 := ⟨_, rfl⟩
        rw [← ez] at hd
        clear ez
        have hwr := wrap_byte (k + j) (by omega)
        have HS : Hid ((∀ i, i < n → (wr.setCell ⟨g, j, none⟩ (.int .u8 ((k + j) % 256))).cell? ⟨g, i, none⟩ = some (.int .u8 ((partly k xs (j + 1)).getD i 0)) ∧ (wr.setCell ⟨g, j, none⟩ (.int .u8 ((k + j) % 256))).frozen? ⟨g, i, none⟩ = false) ∧ w.grownBy (wr.setCell ⟨g, j, none⟩ (.int .u8 ((k + j) % 256))) (some g)) := by
          refine ⟨fun i hi => ⟨?_, by rw [World.frozen?_setCell]; exact (HR.out i hi).2⟩, HG.out.trans ⟨rfl, rfl, rfl, by simp, fun b _ hb => Below.heap_setCell _ _ _ _ (fun e => hb (by rw [e]))⟩⟩
          have hxl := HN.out
          rw [partly_at k xs (j + 1) i (by omega) (by omega)]
          by_cases e : i = j
          · subst e
            rw [if_pos (by omega)]
            exact World.cell?_setCell_same _ _ _ hd
          · rw [World.cell?_setCell_other _ _ _ _ (fun e' => e (congrArg Addr.off e').symm), (HR.out i hi).1, partly_at k xs j i (by omega) (by omega)]
            by_cases e2 : i < j
            · rw [if_pos e2, if_pos (by omega)]
            · rw [if_neg e2, if_neg (by omega)]
        go_wp2
        go_roundw
        case rel => exact ⟨j + 1, by omega, by go_num, by simp; omega, HS.out.1, HS.out.2⟩
        case measure => simp [intOf]; omega
      · obtain rfl : j = n := by omega
        go_wp2
        go_ret
        refine ⟨rfl, ⟨(marks_len _ _).symm, fun _ => ⟨g, rfl, hB, Nat.lt_of_lt_of_le hlt0 HG.out.size, fun i hi => ⟨?_, (HR.out i hi).2⟩⟩⟩, HG.out⟩
        have hxl := HN.out
        rw [(HR.out i hi).1, partly_at k xs j i (by omega) (by omega), if_pos hi, marks_at j k i hi]

end Go.Proofs.Ytcdcdpmjibcolaa
