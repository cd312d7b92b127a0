/- Lex of the specification: l1skip. Own work of the verifier. -/
import Derived.Test.YtfhelmhcmfpedaaDoorLxP
import Derived.Test.YtfhelmhcmfpedaaDoorLx1
namespace Go.Proofs.YtfhelmhcmfpedaaDoor
open Go Go.RowKit
set_option linter.unusedVariables false

def skipS (xs : List Int) (pos : Nat) : Int :=
  match layI xs pos with
  | none => -1
  | some n => (n : Nat)
theorem blk_last {xs : List Int} {i : Nat} (h : xs.length ≤ i + 1) : blkI xs i = none := by
  rcases Nat.lt_or_ge i xs.length with h' | h'
  · rw [blk_step xs i h', byteI_ge (i := i + 1) h, if_neg (by omega), blk_end xs (i + 1) h]
  · exact blk_end xs i h'
theorem blank_ends {x : Int} (h0 : 0 ≤ x) : blankB x = true ↔ (endsI x = true ∧ x ≠ -1 ∧ x ≠ 37) := by
  simp only [blankB, endsI, Bool.or_eq_true, beq_iff_eq, decide_eq_true_eq]; omega

set_option maxRecDepth 100000 in
set_option maxHeartbeats 6000000 in
theorem skipS_any (b cap pos : Nat) (xs : List Int) (w : World) (hb : Bytes xs) (hn : xs.length ≤ 10000) (hp : pos < xs.length) (hc : ∀ m, m < xs.length → w.cell? ⟨b, m, none⟩ = some (.int .u8 (xs.getD m 0))) :
    Calls Tryd.prog 28 #[.slice (some ⟨b, 0, none⟩) xs.length cap, .int .i64 pos] w fun e w' => e = .returned (.int .i64 (skipS xs pos)) ∧ w' = w := by
  obtain ⟨n, en⟩ : ∃ n, n = xs.length := ⟨_, rfl⟩
  rw [← en] at hn hp ⊢
  have HN : Hid (n = xs.length) := en
  have HC : Hid (∀ m, m < n → w.cell? ⟨b, m, none⟩ = some (.int .u8 (xs.getD m 0))) := by rw [en]; exact hc
  have HBY : Hid (Bytes xs) := hb
  have hx := hc pos (by omega)
  have hrx := hb.at pos
  have hbx : byteI xs pos = xs.getD pos 0 := byteI_lt (by omega)
  have hlay : layI xs pos = if endsI (byteI xs pos) = true ∧ byteI xs pos ≠ -1 ∧ byteI xs pos ≠ 37 then some 1
    else if byteI xs pos = 37 then some (lineI xs pos)
    else if byteI xs pos = 47 ∧ byteI xs (pos + 1) = 42 then (match blkI xs (pos + 2) with
      | none => none
      | some j => some (j + 2 - pos))
    else some 0 := rfl
  obtain ⟨x, ex⟩ : ∃ x, x = xs.getD pos 0 := ⟨_, rfl⟩
  rw [← ex] at hx hrx hbx
  rw [hbx] at hlay
  have RES : Hid (∀ (k : Int), skipS xs pos = k → Ending.returned (.int .i64 k) = .returned (.int .i64 (skipS xs pos))) := fun k h => by rw [h]
  have HBL := blank_any x w hrx.1 hrx.2
  clear hb hc en hbx
  cases hbl : blankB x with
  | true =>
    have HF : Hid _ := RES.out 1 (by rw [skipS, hlay, if_pos ((blank_ends hrx.1).1 hbl)]; rfl)
    rw [hbl] at HBL
    clear hlay RES hbl HC HBY ex
    go_enter Tryd.func28, Tryd.ntmps28
    go_wp2_with (go_at_call 37; refine HBL.mono ?_; rintro e w' ⟨rfl, rfl⟩)
    go_ret
    exact ⟨HF.out, rfl⟩
  | false =>
    rw [if_neg (fun h => by rw [(blank_ends hrx.1).2 h] at hbl; cases hbl)] at hlay
    rw [hbl] at HBL
    clear hbl
    by_cases h37 : x = 37
    · rw [if_pos h37] at hlay
      have HL : Hid (skipS xs pos = (lineI xs pos : Nat)) := by show _ = _; rw [skipS, hlay]
      have HX : Hid (xs.getD pos 0 = 37) := by show _ = _; rw [← ex]; exact h37
      subst h37
      clear hlay ex
      go_enter Tryd.func28, Tryd.ntmps28
      go_wp2_with (go_at_call 37; refine HBL.mono ?_; rintro e w' ⟨rfl, hw'⟩; obtain rfl := hw'.symm)
      go_loop [5] (fun i => ∃ j : Nat, pos + j ≤ n ∧ i = .int .i64 j ∧ Hid (∀ m, m < j → ((xs.drop pos).getD m 0 != 10) = true)) (fun i => n - (intOf i).toNat)
      case atStart => exact ⟨0, by omega, rfl, fun _ h => absurd h (Nat.not_lt_zero _)⟩
      case round =>
        obtain ⟨j, hj, rfl, HM⟩ := hrel
        by_cases hlt : pos + j < n
        · have hy := HC.out (pos + j) hlt
          obtain ⟨y, ey⟩ : ∃ y, y = xs.getD (pos + j) 0 := ⟨_, rfl⟩
          rw [← ey] at hy
          have HY : Hid (y = (xs.drop pos).getD j 0) := by rw [ey]; simp [List.getD, List.getElem?_drop, Hid]
          have hltI : (pos : Int) + j < n := by omega
          clear ey
          by_cases hy10 : y = 10
          · have HE : Hid (lineI xs pos = j) := runLen_stop _ _ _ (by simp [← HN.out]; omega) HM.out (.inr (by rw [← HY.out, hy10]; rfl))
            have HF : Hid _ := RES.out (j : Nat) (by rw [HL.out, HE.out])
            subst hy10
            clear HC HBY RES HL HE
            go_wp2_with fail
            go_ret
            exact ⟨HF.out, rfl⟩
          · have hyb : (y != 10) = true := by simpa using hy10
            have HM1 : Hid (∀ m, m < j + 1 → ((xs.drop pos).getD m 0 != 10) = true) := fun m hm => by
              by_cases e : m = j
              · subst e; rw [← HY.out]; exact hyb
              · exact HM.out m (by omega)
            clear HC HBY RES HL hy10
            go_wp2_with fail
            go_round
            case rel => exact ⟨j + 1, by omega, by go_num, HM1⟩
            case measure => simp [intOf]; omega
        · have hltI : ¬ (pos : Int) + j < n := by omega
          have HE : Hid (lineI xs pos = j) := runLen_stop _ _ _ (by simp [← HN.out]; omega) HM.out (.inl (by simp [← HN.out]; omega))
          have HF : Hid _ := RES.out (j : Nat) (by rw [HL.out, HE.out])
          clear HC HBY RES HL HE
          go_wp2_with fail
          go_ret
          exact ⟨HF.out, rfl⟩
    · rw [if_neg h37] at hlay
      have hb37 : (x == 37) = false := by simpa using h37
      by_cases h47 : x = 47
      · by_cases h1 : pos + 1 < n
        · have hy := HC.out (pos + 1) h1
          have hby : byteI xs (pos + 1) = xs.getD (pos + 1) 0 := byteI_lt (by rw [← HN.out]; exact h1)
          obtain ⟨y, ey⟩ : ∃ y, y = xs.getD (pos + 1) 0 := ⟨_, rfl⟩
          rw [← ey] at hy hby
          rw [hby] at hlay
          have h1I : ¬ ((n : Int) ≤ (pos : Int) + 1) := by omega
          clear ey hby
          by_cases h42 : y = 42
          · rw [if_pos ⟨h47, h42⟩] at hlay
            subst h47 h42
            have HB : Hid (skipS xs pos = match blkI xs (pos + 2) with
              | none => -1
              | some j => ((j + 2 - pos : Nat) : Int)) := by
              show _ = _
              rw [skipS, hlay]
              cases blkI xs (pos + 2) <;> rfl
            clear hlay ex
            go_enter Tryd.func28, Tryd.ntmps28
            go_wp2_with (go_at_call 37; refine HBL.mono ?_; rintro e w' ⟨rfl, hw'⟩; obtain rfl := hw'.symm)
            go_loop [5] (fun i => ∃ j : Nat, 2 ≤ j ∧ pos + j ≤ n + 2 ∧ i = .int .i64 j ∧ Hid (blkI xs (pos + j) = blkI xs (pos + 2))) (fun i => n + 3 - (intOf i).toNat)
            case atStart => exact ⟨2, by omega, by omega, rfl, rfl⟩
            case round =>
              obtain ⟨j, hj2, hj, rfl, HM⟩ := hrel
              by_cases hlt : pos + j + 1 < n
              · have hu := HC.out (pos + j) (by omega)
                have hv := HC.out (pos + j + 1) hlt
                have hst := blk_step xs (pos + j) (by rw [← HN.out]; omega)
                rw [byteI_lt (by rw [← HN.out]; omega), byteI_lt (i := pos + j + 1) (by rw [← HN.out]; omega)] at hst
                obtain ⟨u, eu⟩ : ∃ u, u = xs.getD (pos + j) 0 := ⟨_, rfl⟩
                obtain ⟨v, ev⟩ : ∃ v, v = xs.getD (pos + j + 1) 0 := ⟨_, rfl⟩
                rw [← eu] at hu
                rw [← ev] at hv
                rw [← eu, ← ev] at hst
                have hltI : (pos : Int) + j + 1 < n := by omega
                clear eu ev
                by_cases hu42 : u = 42
                · by_cases hv47 : v = 47
                  · rw [if_pos ⟨hu42, hv47⟩] at hst
                    have HF : Hid _ := RES.out ((j : Int) + 2) (by rw [HB.out, ← HM.out, hst]; simp only; omega)
                    subst hu42 hv47
                    clear HC HBY RES HB hst
                    go_wp2_with fail
                    go_ret
                    exact ⟨HF.out, rfl⟩
                  · rw [if_neg (fun h => hv47 h.2)] at hst
                    have HM1 : Hid (blkI xs (pos + (j + 1)) = blkI xs (pos + 2)) := by show _ = _; rw [← HM.out, hst]; rfl
                    have hvb : (v == 47) = false := by simpa using hv47
                    subst hu42
                    clear HC HBY RES HB hst hv47
                    go_wp2_with fail
                    go_round
                    case rel => exact ⟨j + 1, by omega, by omega, by go_num, HM1⟩
                    case measure => simp [intOf]; omega
                · rw [if_neg (fun h => hu42 h.1)] at hst
                  have HM1 : Hid (blkI xs (pos + (j + 1)) = blkI xs (pos + 2)) := by show _ = _; rw [← HM.out, hst]; rfl
                  have hub : (u == 42) = false := by simpa using hu42
                  clear HC HBY RES HB hst hu42
                  go_wp2_with fail
                  go_round
                  case rel => exact ⟨j + 1, by omega, by omega, by go_num, HM1⟩
                  case measure => simp [intOf]; omega
              · have hltI : ¬ (pos : Int) + j + 1 < n := by omega
                have HF : Hid _ := RES.out (-1) (by rw [HB.out, ← HM.out, blk_last (by rw [← HN.out]; omega)])
                clear HC HBY RES HB
                go_wp2_with fail
                go_ret
                exact ⟨HF.out, rfl⟩
          · rw [if_neg (fun h => h42 h.2)] at hlay
            have HF : Hid _ := RES.out 0 (by rw [skipS, hlay]; rfl)
            have hyb : (y != 42) = true := by simpa using h42
            subst h47
            clear hlay ex HC HBY RES h42
            go_enter Tryd.func28, Tryd.ntmps28
            go_wp2_with (go_at_call 37; refine HBL.mono ?_; rintro e w' ⟨rfl, rfl⟩)
            go_ret
            exact ⟨HF.out, rfl⟩
        · have h1I : (n : Int) ≤ (pos : Int) + 1 := by omega
          rw [byteI_ge (i := pos + 1) (by rw [← HN.out]; omega), if_neg (by omega)] at hlay
          have HF : Hid _ := RES.out 0 (by rw [skipS, hlay]; rfl)
          subst h47
          clear hlay ex HC HBY RES
          go_enter Tryd.func28, Tryd.ntmps28
          go_wp2_with (go_at_call 37; refine HBL.mono ?_; rintro e w' ⟨rfl, rfl⟩)
          go_ret
          exact ⟨HF.out, rfl⟩
      · rw [if_neg (fun h => h47 h.1)] at hlay
        have HF : Hid _ := RES.out 0 (by rw [skipS, hlay]; rfl)
        have hb47 : (x != 47) = true := by simpa using h47
        clear hlay ex HC HBY RES h47 h37
        go_enter Tryd.func28, Tryd.ntmps28
        go_wp2_with (go_at_call 37; refine HBL.mono ?_; rintro e w' ⟨rfl, rfl⟩)
        go_ret
        exact ⟨HF.out, rfl⟩

end Go.Proofs.YtfhelmhcmfpedaaDoor
