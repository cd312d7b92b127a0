/- Lex of the specification: l1escape. Own work of the verifier. -/
import Derived.Test.YtfhelmhcmfpedaaDoorLx1
namespace Go.Proofs.YtfhelmhcmfpedaaDoor
open Go Go.RowKit
set_option linter.unusedVariables false

def hexV (xs : List Int) (a : Nat) : Nat → Int
  | 0 => 0
  | j + 1 => hexV xs a j * 16 + digI (byteI xs (a + j))
theorem hexI_stop (xs : List Int) (a j : Nat) (hj : j ≤ 2) (hd : ∀ m, m < j → digI (byteI xs (a + m)) < 16) (hs : j = 2 ∨ ¬ digI (byteI xs (a + j)) < 16) :
    hexI xs a = if j = 0 then none else if byteI xs (a + j) = 92 then some (hexV xs a j, a + j + 1) else none := by
  rw [hexI_cases]
  have h3 : j = 0 ∨ j = 1 ∨ j = 2 := by omega
  rcases h3 with rfl | rfl | rfl
  · rcases hs with h | h
    · omega
    · rw [Nat.add_zero] at h
      simp [h]
  · have h0 := hd 0 (by omega)
    rw [Nat.add_zero] at h0
    rcases hs with h | h
    · omega
    · simp only [h0, h, not_true, not_false_eq_true, if_false, if_true]
      simp [hexV]
  · have h0 := hd 0 (by omega)
    have h1 := hd 1 (by omega)
    rw [Nat.add_zero] at h0
    simp only [h0, h1, not_true, if_false]
    simp [hexV]
theorem hexV_rng (xs : List Int) (a j : Nat) (hj : j ≤ 2) (hd : ∀ m, m < j → digI (byteI xs (a + m)) < 16) : 0 ≤ hexV xs a j ∧ hexV xs a j < 256 ∧ (j < 2 → hexV xs a j < 16) := by
  have h3 : j = 0 ∨ j = 1 ∨ j = 2 := by omega
  have r0 := digI_rng (byteI xs a)
  have r1 := digI_rng (byteI xs (a + 1))
  rcases h3 with rfl | rfl | rfl
  · simp [hexV]
  · have h0 := hd 0 (by omega)
    simp only [hexV, Nat.add_zero] at h0 ⊢
    omega
  · have h0 := hd 0 (by omega)
    have h1 := hd 1 (by omega)
    simp only [hexV, Nat.add_zero] at h0 h1 ⊢
    omega
theorem escS_at (xs : List Int) (i : Nat) (x : Int) (h : byteI xs (i + 1) = x) : escS xs i = if x = 10 then ([], 1) else match escF x xs i with
    | none => ([], 0)
    | some (v, j) => ([v], j - (i + 1)) := by rw [escS, escI, h]; rfl

set_option maxRecDepth 100000 in
set_option maxHeartbeats 4000000 in
theorem escapeS_any (b cap i : Nat) (xs : List Int) (w : World) (hb : Bytes xs) (hn : xs.length ≤ 100000) (hi : i ≤ 100000) (hc : ∀ m, m < xs.length → w.cell? ⟨b, m, none⟩ = some (.int .u8 (xs.getD m 0))) :
    Calls Tryd.prog 46 #[.slice (some ⟨b, 0, none⟩) xs.length cap, .int .i64 ((i + 1 : Nat) : Int)] w (EscOut w (escS xs i)) := by
  obtain ⟨n, en⟩ : ∃ n, n = xs.length := ⟨_, rfl⟩
  rw [← en] at hn ⊢
  have HN : Hid (n = xs.length) := en
  have HC : Hid (∀ m, m < n → w.cell? ⟨b, m, none⟩ = some (.int .u8 (xs.getD m 0))) := by rw [en]; exact hc
  have HBY : Hid (Bytes xs) := hb
  obtain ⟨a, ea⟩ : ∃ a, a = i + 1 := ⟨_, rfl⟩
  rw [← ea]
  have ha : a ≤ 100001 := by omega
  have HA : Hid (a = i + 1) := ea
  have NOTHING : Hid (∀ (r : List Int × Nat) (k : Nat), r = ([], k) → EscOut w r (.returned (.tuple #[.slice none 0 0, .int .i64 k])) w) := fun r k h => by subst h; exact ⟨none, 0, 0, rfl, no_bytes _ _, Below.refl _ _⟩
  have ONE : Hid (∀ (r : List Int × Nat) (v : Int) (k : Nat), r = ([v], k) → EscOut w r (.returned (.tuple #[.slice (some ⟨w.heap.size, 0, none⟩) 1 1, .int .i64 k])) (w.alloc (.cells #[.int .u8 v] 5))) := fun r v k h => by subst h; exact ⟨some ⟨w.heap.size, 0, none⟩, 1, 1, rfl, one_byte w v, (Below.refl _ _).alloc (Nat.le_refl _) _⟩
  clear hb hc en ea
  by_cases hlt : a < n
  · have hx := HC.out a hlt
    have hr := HBY.out.at a
    have hbi : byteI xs (i + 1) = xs.getD a 0 := by rw [← HA.out]; exact byteI_lt (by rw [← HN.out]; exact hlt)
    obtain ⟨x, ex⟩ : ∃ x, x = xs.getD a 0 := ⟨_, rfl⟩
    rw [← ex] at hx hr hbi
    have HE : Hid (escS xs i = if x = 10 then ([], 1) else match escF x xs i with
      | none => ([], 0)
      | some (v, j) => ([v], j - (i + 1))) := escS_at xs i x hbi
    clear ex hbi
    have hge : ¬ ((n : Int) ≤ (a : Int)) := by omega
    by_cases h92 : x = 92
    · have HF : Hid (EscOut w (escS xs i) (.returned (.tuple #[.slice (some ⟨w.heap.size, 0, none⟩) 1 1, .int .i64 1])) (w.alloc (.cells #[.int .u8 92] 5))) := ONE.out _ 92 1 (by rw [HE.out, h92]; simp [escF])
      subst h92
      clear HE ONE NOTHING HC HBY
      go_enter Tryd.func46, Tryd.ntmps46
      go_wp2_with fail
      go_ret2
      exact HF.out
    have b92 : (x == 92) = false := by simpa using h92
    by_cases h39 : x = 39
    · have HF : Hid (EscOut w (escS xs i) (.returned (.tuple #[.slice (some ⟨w.heap.size, 0, none⟩) 1 1, .int .i64 1])) (w.alloc (.cells #[.int .u8 39] 5))) := ONE.out _ 39 1 (by rw [HE.out, h39]; simp [escF])
      subst h39
      clear HE ONE NOTHING HC HBY
      go_enter Tryd.func46, Tryd.ntmps46
      go_wp2_with fail
      go_ret2
      exact HF.out
    have b39 : (x == 39) = false := by simpa using h39
    by_cases h34 : x = 34
    · have HF : Hid (EscOut w (escS xs i) (.returned (.tuple #[.slice (some ⟨w.heap.size, 0, none⟩) 1 1, .int .i64 1])) (w.alloc (.cells #[.int .u8 34] 5))) := ONE.out _ 34 1 (by rw [HE.out, h34]; simp [escF])
      subst h34
      clear HE ONE NOTHING HC HBY
      go_enter Tryd.func46, Tryd.ntmps46
      go_wp2_with fail
      go_ret2
      exact HF.out
    have b34 : (x == 34) = false := by simpa using h34
    by_cases h110 : x = 110
    · have HF : Hid (EscOut w (escS xs i) (.returned (.tuple #[.slice (some ⟨w.heap.size, 0, none⟩) 1 1, .int .i64 1])) (w.alloc (.cells #[.int .u8 10] 5))) := ONE.out _ 10 1 (by rw [HE.out, h110]; simp [escF])
      subst h110
      clear HE ONE NOTHING HC HBY
      go_enter Tryd.func46, Tryd.ntmps46
      go_wp2_with fail
      go_ret2
      exact HF.out
    have b110 : (x == 110) = false := by simpa using h110
    by_cases h116 : x = 116
    · have HF : Hid (EscOut w (escS xs i) (.returned (.tuple #[.slice (some ⟨w.heap.size, 0, none⟩) 1 1, .int .i64 1])) (w.alloc (.cells #[.int .u8 9] 5))) := ONE.out _ 9 1 (by rw [HE.out, h116]; simp [escF])
      subst h116
      clear HE ONE NOTHING HC HBY
      go_enter Tryd.func46, Tryd.ntmps46
      go_wp2_with fail
      go_ret2
      exact HF.out
    have b116 : (x == 116) = false := by simpa using h116
    by_cases h114 : x = 114
    · have HF : Hid (EscOut w (escS xs i) (.returned (.tuple #[.slice (some ⟨w.heap.size, 0, none⟩) 1 1, .int .i64 1])) (w.alloc (.cells #[.int .u8 13] 5))) := ONE.out _ 13 1 (by rw [HE.out, h114]; simp [escF])
      subst h114
      clear HE ONE NOTHING HC HBY
      go_enter Tryd.func46, Tryd.ntmps46
      go_wp2_with fail
      go_ret2
      exact HF.out
    have b114 : (x == 114) = false := by simpa using h114
    by_cases h10 : x = 10
    · have HF : Hid (EscOut w (escS xs i) (.returned (.tuple #[.slice none 0 0, .int .i64 1])) w) := NOTHING.out _ 1 (by rw [HE.out, if_pos h10])
      subst h10
      clear HE ONE NOTHING HC HBY
      go_enter Tryd.func46, Tryd.ntmps46
      go_wp2_with fail
      go_ret2
      exact HF.out
    have b10 : (x == 10) = false := by simpa using h10
    by_cases h120 : x = 120
    · have HX : Hid (escS xs i = match hexI xs (i + 2) with
        | none => ([], 0)
        | some (v, j) => ([v], j - (i + 1))) := by show _ = _; rw [HE.out, h120]; simp [escF]
      subst h120
      clear HE h92 b92 h39 b39 h34 b34 h110 b110 h116 b116 h114 b114 h10 b10
      go_enter Tryd.func46, Tryd.ntmps46
      go_wp2_with fail
      go_loopw [7, 8] (fun v j wr => ∃ (k : Nat) (vk : Int), k ≤ 2 ∧ 0 ≤ vk ∧ vk < 256 ∧ (k < 2 → vk < 16) ∧ v = .int .i64 vk ∧ j = .int .i64 k ∧ Hid (wr = w ∧ (k = 0 → vk = 0)) ∧ Hid (vk = hexV xs (i + 2) k) ∧ Hid (∀ m, m < k → digI (byteI xs (i + 2 + m)) < 16)) (fun _ j _ => 2 - (intOf j).toNat)
      case atStart => exact ⟨0, 0, by omega, by omega, by omega, by omega, rfl, rfl, ⟨rfl, fun _ => rfl⟩, rfl, fun m hm => absurd hm (Nat.not_lt_zero _)⟩
      case round =>
        obtain ⟨k, vk, hk, hv0, hv1, hv2, rfl, rfl, HW, HV, HD⟩ := hrel
        obtain ⟨hw, hz0⟩ := HW.out
        subst hw
        clear HW
        have HZ0 : Hid (k = 0 → vk = 0) := hz0
        clear hz0
        by_cases hin : a + 1 + k < n
        · have hy := HC.out (a + 1 + k) hin
          have hry := HBY.out.at (a + 1 + k)
          have hby : byteI xs (i + 2 + k) = xs.getD (a + 1 + k) 0 := by rw [show i + 2 + k = a + 1 + k by have := HA.out; omega]; exact byteI_lt (by rw [← HN.out]; exact hin)
          obtain ⟨y, ey⟩ : ∃ y, y = xs.getD (a + 1 + k) 0 := ⟨_, rfl⟩
          rw [← ey] at hy hry hby
          have HY : Hid (byteI xs (i + 2 + k) = y) := hby
          have hin' : (a : Int) + 1 + k < n := by omega
          have hge' : ¬ ((n : Int) ≤ (a : Int) + 1 + k) := by omega
          have hxr := hexS_rng hry.1 hry.2
          have HH := hex_any y wr hry.1 hry.2
          obtain ⟨z, ez⟩ : ∃ z, z = hexS y := ⟨_, rfl⟩
          rw [← ez] at hxr HH
          have HZ : Hid (z = hexS y) := ez
          clear ey hby ez
          by_cases hk2 : k < 2
          · have hk2' : (k : Int) < 2 := by omega
            by_cases hd : z < 16
            · have hv3 := hv2 hk2
              have HD1 : Hid (∀ m, m < k + 1 → digI (byteI xs (i + 2 + m)) < 16) := fun m hm => by
                by_cases e : m = k
                · subst e; rw [HY.out]; exact (hex_dig y (by decide)).1 (by rw [← HZ.out]; exact hd)
                · exact HD.out m (by omega)
              have HV1 : Hid (vk * 16 + z = hexV xs (i + 2) (k + 1)) := by
                show _ = _
                rw [hexV, ← HV.out, HY.out, HZ.out, hex_same ((hex_dig y (by decide)).1 (by rw [← HZ.out]; exact hd))]
              clear HC HBY NOTHING ONE hv2
              go_wp2_with (go_at_call 45; refine HH.mono ?_; rintro e w' ⟨rfl, rfl⟩)
              go_roundw
              case rel => exact ⟨k + 1, vk * 16 + z, by omega, by omega, by omega, by intro h; have := HZ0.out (by omega); omega, by trivial, by go_num, ⟨by trivial, fun h => absurd h (by omega)⟩, HV1, HD1⟩
              case measure => simp [intOf]; omega
            · have HS : Hid (hexI xs (i + 2) = if k = 0 then none else if byteI xs (i + 2 + k) = 92 then some (hexV xs (i + 2) k, i + 2 + k + 1) else none) := hexI_stop xs (i + 2) k hk HD.out (.inr (fun h => hd (by rw [HZ.out]; exact (hex_dig y (by decide)).2 (by rw [← HY.out]; exact h))))
              by_cases h0 : k = 0
              · subst h0
                have HF : Hid (EscOut wr (escS xs i) (.returned (.tuple #[.slice none 0 0, .int .i64 0])) wr) := NOTHING.out _ 0 (by rw [HX.out, HS.out, if_pos rfl])
                clear HS HC HBY NOTHING ONE hv2
                go_wp2_with (go_at_call 45; refine HH.mono ?_; rintro e w' ⟨rfl, rfl⟩)
                go_ret2
                exact HF.out
              · have h0' : ((k : Int) == 0) = false := by simp; omega
                by_cases hy92 : y = 92
                · have HF : Hid (EscOut wr (escS xs i) (.returned (.tuple #[.slice (some ⟨wr.heap.size, 0, none⟩) 1 1, .int .i64 ((k + 2 : Nat) : Int)])) (wr.alloc (.cells #[.int .u8 vk] 5))) := ONE.out _ vk (k + 2) (by
                    rw [HX.out, HS.out, if_neg h0, HY.out, if_pos hy92, ← HV.out]
                    simp only [Prod.mk.injEq, true_and]; omega)
                  have hyb : (y != 92) = false := by simpa using hy92
                  have hwv : IntKind.u8.wrap vk = vk := wrap_u8_in hv0 hv1
                  clear HS HC HBY NOTHING ONE hv2 hy92
                  go_wp2_with (go_at_call 45; refine HH.mono ?_; rintro e w' ⟨rfl, rfl⟩)
                  go_ret2
                  exact HF.out
                · have HF : Hid (EscOut wr (escS xs i) (.returned (.tuple #[.slice none 0 0, .int .i64 0])) wr) := NOTHING.out _ 0 (by rw [HX.out, HS.out, if_neg h0, HY.out, if_neg hy92])
                  have hyb : (y != 92) = true := by simpa using hy92
                  clear HS HC HBY NOTHING ONE hv2 hy92
                  go_wp2_with (go_at_call 45; refine HH.mono ?_; rintro e w' ⟨rfl, rfl⟩)
                  go_ret2
                  exact HF.out
          · have hk2' : ¬ (k : Int) < 2 := by omega
            have hd : True := trivial
            have HS : Hid (hexI xs (i + 2) = if k = 0 then none else if byteI xs (i + 2 + k) = 92 then some (hexV xs (i + 2) k, i + 2 + k + 1) else none) := hexI_stop xs (i + 2) k hk HD.out (.inl (by omega))
            by_cases h0 : k = 0
            · omega
            · have h0' : ((k : Int) == 0) = false := by simp; omega
              by_cases hy92 : y = 92
              · have HF : Hid (EscOut wr (escS xs i) (.returned (.tuple #[.slice (some ⟨wr.heap.size, 0, none⟩) 1 1, .int .i64 ((k + 2 : Nat) : Int)])) (wr.alloc (.cells #[.int .u8 vk] 5))) := ONE.out _ vk (k + 2) (by
                  rw [HX.out, HS.out, if_neg h0, HY.out, if_pos hy92, ← HV.out]
                  simp only [Prod.mk.injEq, true_and]; omega)
                have hyb : (y != 92) = false := by simpa using hy92
                have hwv : IntKind.u8.wrap vk = vk := wrap_u8_in hv0 hv1
                clear HS HC HBY NOTHING ONE hv2 hy92
                go_wp2_with (go_at_call 45; refine HH.mono ?_; rintro e w' ⟨rfl, rfl⟩)
                go_ret2
                exact HF.out
              · have HF : Hid (EscOut wr (escS xs i) (.returned (.tuple #[.slice none 0 0, .int .i64 0])) wr) := NOTHING.out _ 0 (by rw [HX.out, HS.out, if_neg h0, HY.out, if_neg hy92])
                have hyb : (y != 92) = true := by simpa using hy92
                clear HS HC HBY NOTHING ONE hv2 hy92
                go_wp2_with (go_at_call 45; refine HH.mono ?_; rintro e w' ⟨rfl, rfl⟩)
                go_ret2
                exact HF.out
        · have hin' : ¬ (a : Int) + 1 + k < n := by omega
          have hge' : (n : Int) ≤ (a : Int) + 1 + k := by omega
          have hby : byteI xs (i + 2 + k) = -1 := byteI_ge (by have := HN.out; have := HA.out; omega)
          have HS : Hid (hexI xs (i + 2) = if k = 0 then none else if byteI xs (i + 2 + k) = 92 then some (hexV xs (i + 2) k, i + 2 + k + 1) else none) := hexI_stop xs (i + 2) k hk HD.out (.inr (by rw [hby]; decide))
          have HF : Hid (EscOut wr (escS xs i) (.returned (.tuple #[.slice none 0 0, .int .i64 0])) wr) := NOTHING.out _ 0 (by
            rw [HX.out, HS.out, hby]
            by_cases h0 : k = 0
            · rw [if_pos h0]
            · rw [if_neg h0, if_neg (by decide)])
          clear HS hby HC HBY NOTHING ONE hv2
          by_cases h0 : k = 0
          · subst h0
            go_wp2_with fail
            go_ret2
            exact HF.out
          · have h0' : ((k : Int) == 0) = false := by simp; omega
            go_wp2_with fail
            go_ret2
            exact HF.out
    · have b120 : (x != 120) = true := by simpa using h120
      have HF : Hid (EscOut w (escS xs i) (.returned (.tuple #[.slice none 0 0, .int .i64 0])) w) := NOTHING.out _ 0 (by rw [HE.out, if_neg h10]; simp [escF, h92, h39, h34, h110, h116, h114, h120])
      clear HE ONE NOTHING HC HBY h92 h39 h34 h110 h116 h114 h10 h120
      go_enter Tryd.func46, Tryd.ntmps46
      go_wp2_with fail
      go_ret2
      exact HF.out
  · have hge : (n : Int) ≤ (a : Int) := by omega
    have HF : Hid (EscOut w (escS xs i) (.returned (.tuple #[.slice none 0 0, .int .i64 0])) w) := NOTHING.out _ 0 (by
      rw [escS_at xs i (-1) (byteI_ge (by have := HN.out; have := HA.out; omega))]; simp [escF])
    clear ONE NOTHING HC HBY
    go_enter Tryd.func46, Tryd.ntmps46
    go_wp2_with fail
    go_ret2
    exact HF.out

end Go.Proofs.YtfhelmhcmfpedaaDoor
