/- Texts of Lx5. Own work of the verifier. -/
import Derived.Test.YtfgmenkoeflhaaaGreatDoorUqbn
namespace Go.Proofs.YtfgmenkoeflhaaaGreatDoor
open Go Go.RowKit
set_option linter.unusedVariables false
def capV (big : Bool) (v : Int) : Int := if big then 1000000000000001 else v
theorem capV_step {big : Bool} {v d base : Int} (h0 : 0 ≤ v) (h1 : v ≤ 1000000000000000) (hb : big = true → v = 1000000000000000) (hd0 : 0 ≤ d) (hd : d < base) (h2 : 2 ≤ base) (h16 : base ≤ 16) :
 min (capV big v * base + d) 1000000000000001 = if 1000000000000000 < v * base + d then capV true 1000000000000000 else capV false (v * base + d) := by
 have hm : v * base ≤ v * 16 := Int.mul_le_mul_of_nonneg_left h16 h0; have hm2 : v * 2 ≤ v * base := Int.mul_le_mul_of_nonneg_left h2 h0
 cases big with
 | true =>
   have := hb rfl; subst this; have h3 : (1000000000000001 : Int) * 2 ≤ 1000000000000001 * base := Int.mul_le_mul_of_nonneg_left h2 (by decide); rw [if_pos (by omega)]; simp only [capV, if_true]
   omega
 | false =>
   by_cases h : 1000000000000000 < v * base + d
   ·rw [if_pos h]; simp only [capV, if_true, Bool.false_eq_true, if_false]; omega
   ·rw [if_neg h]; simp only [capV, Bool.false_eq_true, if_false]; omega
theorem big_stays {v d base : Int} (h : v = 1000000000000000) (hd0 : 0 ≤ d) (h2 : 2 ≤ base) : 1000000000000000 < v * base + d := by
 subst h; have h3 : (1000000000000000 : Int) * 2 ≤ 1000000000000000 * base := Int.mul_le_mul_of_nonneg_left h2 (by decide)
 omega
theorem numS_of {xs : List Int} {pos q : Nat} {V : Int} (h : numI xs pos = some (V, q)) : numS (numR xs pos) = if isOfB (byteI xs q) 7 = true then (0, 0, 2) else if 1000000000000000 < V then (0, 0, 3) else (V, q - pos, 0) := by
 rw [numR, h]; simp only
 split
 ·rfl
 ·split <;> rfl
theorem numS_chr {xs : List Int} {pos : Nat} (hb : Bytes xs) (h0 : byteI xs pos = 48) (h1 : byteI xs (pos + 1) = 39) : numS (numR xs pos) = chrS xs pos := by
 have h : numI xs pos = chrI xs (pos + 2) := by rw [numI, numF, h0, h1]; simp
 cases hc : chrI xs (pos + 2) with
 | none => rw [chrS_none hc, numR, h, hc]; rfl
 | some r =>
   obtain ⟨v, q⟩ := r; rw [chrS_some hc, numS_of (h.trans hc)]
   have hv : ¬ 1000000000000000 < v := by
    have h9 := hc; rw [chrI, chrF] at h9; have hr := byteI_rng hb (pos + 2)
    split at h9
    ·cases h9; omega
    ·split at h9
     ·have := escI_byte h9; omega
     ·split at h9
      ·cases h9
      ·cases h9; omega
   rw [if_neg hv]
set_option maxRecDepth 100000 in
set_option maxHeartbeats 16000000 in
theorem numberS_any (b cap pos : Nat) (xs : List Int) (w : World) (hb : Bytes xs) (hn : xs.length ≤ 10000) (hp : pos < xs.length) (hc : ∀ m, m < xs.length → w.cell? ⟨b, m, none⟩ = some (.int .u8 (xs.getD m 0))) :
 Calls Tryz.prog 32 #[.slice (some ⟨b, 0, none⟩) xs.length cap, .int .i64 pos] w (NumOut w (numS (numR xs pos))) := by
 have HCH := charS_any b cap pos xs w hb hn hp hc
 obtain ⟨n, en⟩ : ∃ n, n = xs.length := ⟨_, rfl⟩
 rw [← en] at hn hp HCH ⊢; have HN : Hid (n = xs.length) := en
 have HC : Hid (∀ m, m < n → w.cell? ⟨b, m, none⟩ = some (.int .u8 (xs.getD m 0))) := by rw [en]; exact hc
 have HBY : Hid (Bytes xs) := hb
 have BAD : Hid (∀ (V : Int) (q : Nat), numI xs pos = some (V, q) → isOfB (byteI xs q) 7 = true → NumOut w (numS (numR xs pos)) (.returned (.tuple #[.int .i64 0, .int .i64 0, .int .i64 2])) w) := fun V q h h7 => ⟨by rw [numS_of h, if_pos h7]; rfl, Below.refl _ _⟩
 have LIM : Hid (∀ (V : Int) (q : Nat), numI xs pos = some (V, q) → isOfB (byteI xs q) 7 = false → 1000000000000000 < V → NumOut w (numS (numR xs pos)) (.returned (.tuple #[.int .i64 0, .int .i64 0, .int .i64 3])) w) := fun V q h h7 hV => ⟨by rw [numS_of h, if_neg (by rw [h7]; simp), if_pos hV]; rfl, Below.refl _ _⟩
 have OKN : Hid (∀ (V : Int) (k : Nat), numI xs pos = some (V, pos + k) → isOfB (byteI xs (pos + k)) 7 = false → V ≤ 1000000000000000 → NumOut w (numS (numR xs pos)) (.returned (.tuple #[.int .i64 V, .int .i64 (k : Nat), .int .i64 0])) w) := fun V k h h7 hV => ⟨by rw [numS_of h, if_neg (by rw [h7]; simp), if_neg (by omega), show pos + k - pos = k by omega], Below.refl _ _⟩
 have hx := hc pos (by omega); have hrx := hb.at pos; have hbx : byteI xs pos = xs.getD pos 0 := byteI_lt (by omega); have hnum : numI xs pos = numF (byteI xs pos) (byteI xs (pos + 1)) (byteI xs (pos + 2)) xs pos := rfl
 obtain ⟨x, ex⟩ : ∃ x, x = xs.getD pos 0 := ⟨_, rfl⟩
 rw [← ex] at hx hrx hbx; rw [hbx] at hnum; have HX0 : Hid (byteI xs pos = x) := hbx; clear hb hc en ex hbx
 by_cases h48 : x = 48
 subst h48
 by_cases h1 : pos + 1 < n
 have hm := HC.out (pos + 1) h1; have hbm : byteI xs (pos + 1) = xs.getD (pos + 1) 0 := byteI_lt (by rw [← HN.out]; exact h1)
 obtain ⟨m, em⟩ : ∃ m, m = xs.getD (pos + 1) 0 := ⟨_, rfl⟩
 rw [← em] at hm hbm; rw [hbm] at hnum
 have h1I : (pos : Int) + 1 < n := by omega
 clear em
 by_cases h39 : m = 39
 subst h39; have HE : Hid (numS (numR xs pos) = chrS xs pos) := numS_chr HBY.out HX0.out hbm
 have HF : Hid (∀ e W, NumOut w (chrS xs pos) e W → NumOut w (numS (numR xs pos)) e W) := fun e W h => by rw [HE.out]; exact h
 obtain ⟨c3, ec3⟩ : ∃ c3, c3 = chrS xs pos := ⟨_, rfl⟩
 rw [← ec3] at HCH HF; obtain ⟨c1, c2, c4⟩ := c3; clear HE hnum hbm HC HBY BAD LIM OKN ec3
 go_enter Tryz.func32, Tryz.ntmps32
 go_wp2_with fail; refine HCH.mono ?_; rintro e w5 ⟨rfl, hb5⟩; have HF5 : Hid _ := HF.out _ w5 ⟨rfl, hb5⟩; clear HF hb5; go_wp2_with fail
 go_ret3
 exact HF5.out
 have hmb39 : (m == 39) = false := by simpa using h39
 clear HCH hbm
 by_cases hmk120 : m = 120
 subst hmk120
 have hbi : baseI 120 = 16 := by decide
 by_cases h2 : pos + 2 < n
 have hzc := HC.out (pos + 2) h2; have hrz := HBY.out.at (pos + 2); have hbz : byteI xs (pos + 2) = xs.getD (pos + 2) 0 := byteI_lt (by rw [← HN.out]; exact h2)
 obtain ⟨zz, ezz⟩ : ∃ zz, zz = xs.getD (pos + 2) 0 := ⟨_, rfl⟩
 rw [← ezz] at hzc hrz hbz; rw [hbz] at hnum
 have HHZ := fun W => hex_any zz W hrz.1 hrz.2
 have hzb := hexS_rng hrz.1 hrz.2
 obtain ⟨hz, ehz⟩ : ∃ hz, hz = hexS zz := ⟨_, rfl⟩
 simp only [← ehz] at HHZ hzb
 have h2I : (pos : Int) + 2 < n := by omega
 by_cases hzd : hz < 16
 have HNU : Hid (numI xs pos = some (digsB xs 16 xs.length (pos + 2) (capV false 0))) := by
  show _ = _
  rw [hnum, numF, if_neg (by decide), if_neg (by decide), hbi, if_pos ((hex_dig zz (by decide)).1 (by rw [← ehz]; exact hzd))]
  rfl
 clear hnum hbi hbz ezz ehz
 ·skip
  go_enter Tryz.func32, Tryz.ntmps32
  go_wp2_with (go_at_call 60; refine (HHZ _).mono ?_; rintro e w' ⟨rfl, hw'⟩; obtain rfl := hw'.symm)
  go_loopw [8, 11, 12] (fun nv vv bv wr => ∃ (k : Nat) (v : Int) (big : Bool), 2 ≤ k ∧ pos + k ≤ n + 2 ∧ 0 ≤ v ∧ v ≤ 1000000000000000 ∧ nv = .int .i64 k ∧ vv = .int .i64 v ∧ bv = .bool big ∧ Hid (wr = w ∧ (big = true → v = 1000000000000000)) ∧ Hid (numI xs pos = some (digsB xs 16 xs.length (pos + k) (capV big v)))) (fun nv _ _ _ => n + 3 - (intOf nv).toNat)
  case atStart => exact ⟨2, 0, false, by omega, by omega, by omega, by omega, by trivial, by trivial, by trivial, ⟨rfl, fun h => by cases h⟩, HNU.out⟩
  case round =>
   obtain ⟨k, v, big, hk0, hkn, hv0, hv1, rfl, rfl, rfl, HW, HQ⟩ := hrel; obtain ⟨hw, hbg⟩ := HW.out; subst hw; have HBG : Hid (big = true → v = 1000000000000000) := hbg; clear HW hbg HNU
   by_cases hin : pos + k < n
   ·have hy := HC.out (pos + k) hin
    have hry := HBY.out.at (pos + k); have hby : byteI xs (pos + k) = xs.getD (pos + k) 0 := byteI_lt (by rw [← HN.out]; exact hin); have h7 := of7 HBY.out (q := pos + k) (by rw [← HN.out]; exact hin)
    obtain ⟨y, ey⟩ : ∃ y, y = xs.getD (pos + k) 0 := ⟨_, rfl⟩
    rw [← ey] at hy hry hby h7
    have hinI : (pos : Int) + k < n := by omega
    have HH := fun W => hex_any y W hry.1 hry.2
    have HAL := fun W => alnum_any y W hry.1 hry.2
    have hzr := hexS_rng hry.1 hry.2
    obtain ⟨z, ez⟩ : ∃ z, z = hexS y := ⟨_, rfl⟩
    rw [← ez] at hzr; simp only [← ez] at HH
    by_cases hd : z < 16
    ·have hdg : digI y < 16 := (hex_dig y (by decide)).1 (by rw [← ez]; exact hd)
     have hsame : z = digI y := by rw [ez]; exact hex_same (by omega)
     have hst := digs_step xs 16 (by decide) (pos + k) (capV big v) (by rw [hby]; exact hdg); rw [hby, ← hsame, capV_step hv0 hv1 HBG.out hzr.1 hd (by decide) (by decide)] at hst
     have HST : Hid (numI xs pos = some (digsB xs 16 xs.length (pos + (k + 1)) (if 1000000000000000 < v * 16 + z then capV true 1000000000000000 else capV false (v * 16 + z)))) := by show _ = _; rw [HQ.out, hst]; rfl
     clear hst hsame hdg h7 ey ez hby HQ
     by_cases hbig : 1000000000000000 < v * 16 + z
     ·have HN1 : Hid (numI xs pos = some (digsB xs 16 xs.length (pos + (k + 1)) (capV true 1000000000000000))) := by show _ = _; rw [HST.out, if_pos hbig]
      clear HST HC HBY BAD LIM OKN; go_wp2_with (go_at_call 60; refine (HH _).mono ?_; rintro e w' ⟨rfl, rfl⟩); go_roundw
      case rel => exact ⟨k + 1, 1000000000000000, true, by omega, by omega, by omega, by omega, by go_num, by trivial, by trivial, ⟨by trivial, fun _ => rfl⟩, HN1⟩
      case measure => simp [intOf]; omega
     ·have hbf : big = false := by
       cases hbb : big with
       | false => rfl
       | true => exact absurd (big_stays (HBG.out hbb) hzr.1 (by decide)) hbig
      subst hbf
      have HN1 : Hid (numI xs pos = some (digsB xs 16 xs.length (pos + (k + 1)) (capV false (v * 16 + z)))) := by show _ = _; rw [HST.out, if_neg hbig]
      clear HST HC HBY BAD LIM OKN; go_wp2_with (go_at_call 60; refine (HH _).mono ?_; rintro e w' ⟨rfl, rfl⟩); go_roundw
      case rel => exact ⟨k + 1, v * 16 + z, false, by omega, by omega, by omega, by omega, by go_num, by trivial, by trivial, ⟨by trivial, fun h => by cases h⟩, HN1⟩
      case measure => simp [intOf]; omega
    ·have hst := digs_stop xs 16 (pos + k) (capV big v) (by rw [hby]; exact fun h => hd (by rw [ez]; exact (hex_dig y (by decide)).2 h))
     have HR : Hid (numI xs pos = some (capV big v, pos + k)) := by show _ = _; rw [HQ.out, hst]
     cases hal : alnumB y with
     | true =>
       have HF := BAD.out _ _ HR.out (by rw [h7]; exact hal); have HF' : Hid _ := HF; rw [hal] at HAL; clear HF hst HR h7 ey ez hby HQ HC HBY BAD LIM OKN hal; go_wp2_with (first | (go_at_call 60; refine (HH _).mono ?_; rintro e w' ⟨rfl, rfl⟩) | (go_at_call 33; refine (HAL _).mono ?_; rintro e w' ⟨rfl, rfl⟩))
       go_ret3
       exact HF'.out
     | false =>
       rw [hal] at HAL h7
       cases big with
       | true =>
         have HF' : Hid _ := LIM.out _ _ HR.out h7 (by simp [capV]); clear hst HR h7 ey ez hby HQ HC HBY BAD LIM OKN hal; go_wp2_with (first | (go_at_call 60; refine (HH _).mono ?_; rintro e w' ⟨rfl, rfl⟩) | (go_at_call 33; refine (HAL _).mono ?_; rintro e w' ⟨rfl, rfl⟩))
         go_ret3
         exact HF'.out
       | false =>
         have HF' : Hid _ := OKN.out v k HR.out h7 hv1; clear hst HR h7 ey ez hby HQ HC HBY BAD LIM OKN hal; go_wp2_with (first | (go_at_call 60; refine (HH _).mono ?_; rintro e w' ⟨rfl, rfl⟩) | (go_at_call 33; refine (HAL _).mono ?_; rintro e w' ⟨rfl, rfl⟩))
         go_ret3
         exact HF'.out
   ·have hinI : ¬ (pos : Int) + k < n := by omega
    have hge : byteI xs (pos + k) = -1 := byteI_ge (by rw [← HN.out]; omega); have hst := digs_stop xs 16 (pos + k) (capV big v) (by rw [hge]; decide)
    have HR : Hid (numI xs pos = some (capV big v, pos + k)) := by show _ = _; rw [HQ.out, hst]
    have h7 : isOfB (byteI xs (pos + k)) 7 = false := of7_end (by rw [← HN.out]; omega)
    cases big with
    | true =>
      have HF' : Hid _ := LIM.out _ _ HR.out h7 (by simp [capV]); clear hst HR h7 hge HQ HC HBY BAD LIM OKN; go_wp2_with fail
      go_ret3
      exact HF'.out
    | false =>
      have HF' : Hid _ := OKN.out v k HR.out h7 hv1; clear hst HR h7 hge HQ HC HBY BAD LIM OKN; go_wp2_with fail
      go_ret3
      exact HF'.out
 have HNU : Hid (numI xs pos = some (digsB xs 10 xs.length (pos + 0) (capV false 0))) := by
  show _ = _
  rw [hnum, numF, if_neg (by decide), if_neg (by decide), hbi, if_neg (fun h => hzd (by rw [ehz]; exact (hex_dig zz (by decide)).2 h))]
  rfl
 clear hnum hbi hbz ezz ehz
 rotate_left
 have h2I : ¬ (pos : Int) + 2 < n := by omega
 have HNU : Hid (numI xs pos = some (digsB xs 10 xs.length (pos + 0) (capV false 0))) := by
  show _ = _
  rw [hnum, numF, if_neg (by decide), if_neg (by decide), hbi, byteI_ge (by rw [← HN.out]; omega), if_neg (by decide)]
  rfl
 clear hnum hbi
 rotate_left
 have hmb120 : (m == 120) = false := by simpa using hmk120
 by_cases hmk111 : m = 111
 subst hmk111
 have hbi : baseI 111 = 8 := by decide
 by_cases h2 : pos + 2 < n
 have hzc := HC.out (pos + 2) h2; have hrz := HBY.out.at (pos + 2); have hbz : byteI xs (pos + 2) = xs.getD (pos + 2) 0 := byteI_lt (by rw [← HN.out]; exact h2)
 obtain ⟨zz, ezz⟩ : ∃ zz, zz = xs.getD (pos + 2) 0 := ⟨_, rfl⟩
 rw [← ezz] at hzc hrz hbz; rw [hbz] at hnum
 have HHZ := fun W => hex_any zz W hrz.1 hrz.2
 have hzb := hexS_rng hrz.1 hrz.2
 obtain ⟨hz, ehz⟩ : ∃ hz, hz = hexS zz := ⟨_, rfl⟩
 simp only [← ehz] at HHZ hzb
 have h2I : (pos : Int) + 2 < n := by omega
 by_cases hzd : hz < 8
 have HNU : Hid (numI xs pos = some (digsB xs 8 xs.length (pos + 2) (capV false 0))) := by
  show _ = _
  rw [hnum, numF, if_neg (by decide), if_neg (by decide), hbi, if_pos ((hex_dig zz (by decide)).1 (by rw [← ehz]; exact hzd))]
  rfl
 clear hnum hbi hbz ezz ehz
 ·skip
  go_enter Tryz.func32, Tryz.ntmps32
  go_wp2_with (go_at_call 60; refine (HHZ _).mono ?_; rintro e w' ⟨rfl, hw'⟩; obtain rfl := hw'.symm)
  go_loopw [8, 11, 12] (fun nv vv bv wr => ∃ (k : Nat) (v : Int) (big : Bool), 2 ≤ k ∧ pos + k ≤ n + 2 ∧ 0 ≤ v ∧ v ≤ 1000000000000000 ∧ nv = .int .i64 k ∧ vv = .int .i64 v ∧ bv = .bool big ∧ Hid (wr = w ∧ (big = true → v = 1000000000000000)) ∧ Hid (numI xs pos = some (digsB xs 8 xs.length (pos + k) (capV big v)))) (fun nv _ _ _ => n + 3 - (intOf nv).toNat)
  case atStart => exact ⟨2, 0, false, by omega, by omega, by omega, by omega, by trivial, by trivial, by trivial, ⟨rfl, fun h => by cases h⟩, HNU.out⟩
  case round =>
   obtain ⟨k, v, big, hk0, hkn, hv0, hv1, rfl, rfl, rfl, HW, HQ⟩ := hrel; obtain ⟨hw, hbg⟩ := HW.out; subst hw; have HBG : Hid (big = true → v = 1000000000000000) := hbg; clear HW hbg HNU
   by_cases hin : pos + k < n
   ·have hy := HC.out (pos + k) hin
    have hry := HBY.out.at (pos + k); have hby : byteI xs (pos + k) = xs.getD (pos + k) 0 := byteI_lt (by rw [← HN.out]; exact hin); have h7 := of7 HBY.out (q := pos + k) (by rw [← HN.out]; exact hin)
    obtain ⟨y, ey⟩ : ∃ y, y = xs.getD (pos + k) 0 := ⟨_, rfl⟩
    rw [← ey] at hy hry hby h7
    have hinI : (pos : Int) + k < n := by omega
    have HH := fun W => hex_any y W hry.1 hry.2
    have HAL := fun W => alnum_any y W hry.1 hry.2
    have hzr := hexS_rng hry.1 hry.2
    obtain ⟨z, ez⟩ : ∃ z, z = hexS y := ⟨_, rfl⟩
    rw [← ez] at hzr; simp only [← ez] at HH
    by_cases hd : z < 8
    ·have hdg : digI y < 8 := (hex_dig y (by decide)).1 (by rw [← ez]; exact hd)
     have hsame : z = digI y := by rw [ez]; exact hex_same (by omega)
     have hst := digs_step xs 8 (by decide) (pos + k) (capV big v) (by rw [hby]; exact hdg); rw [hby, ← hsame, capV_step hv0 hv1 HBG.out hzr.1 hd (by decide) (by decide)] at hst
     have HST : Hid (numI xs pos = some (digsB xs 8 xs.length (pos + (k + 1)) (if 1000000000000000 < v * 8 + z then capV true 1000000000000000 else capV false (v * 8 + z)))) := by show _ = _; rw [HQ.out, hst]; rfl
     clear hst hsame hdg h7 ey ez hby HQ
     by_cases hbig : 1000000000000000 < v * 8 + z
     ·have HN1 : Hid (numI xs pos = some (digsB xs 8 xs.length (pos + (k + 1)) (capV true 1000000000000000))) := by show _ = _; rw [HST.out, if_pos hbig]
      clear HST HC HBY BAD LIM OKN; go_wp2_with (go_at_call 60; refine (HH _).mono ?_; rintro e w' ⟨rfl, rfl⟩); go_roundw
      case rel => exact ⟨k + 1, 1000000000000000, true, by omega, by omega, by omega, by omega, by go_num, by trivial, by trivial, ⟨by trivial, fun _ => rfl⟩, HN1⟩
      case measure => simp [intOf]; omega
     ·have hbf : big = false := by
       cases hbb : big with
       | false => rfl
       | true => exact absurd (big_stays (HBG.out hbb) hzr.1 (by decide)) hbig
      subst hbf
      have HN1 : Hid (numI xs pos = some (digsB xs 8 xs.length (pos + (k + 1)) (capV false (v * 8 + z)))) := by show _ = _; rw [HST.out, if_neg hbig]
      clear HST HC HBY BAD LIM OKN; go_wp2_with (go_at_call 60; refine (HH _).mono ?_; rintro e w' ⟨rfl, rfl⟩); go_roundw
      case rel => exact ⟨k + 1, v * 8 + z, false, by omega, by omega, by omega, by omega, by go_num, by trivial, by trivial, ⟨by trivial, fun h => by cases h⟩, HN1⟩
      case measure => simp [intOf]; omega
    ·have hst := digs_stop xs 8 (pos + k) (capV big v) (by rw [hby]; exact fun h => hd (by rw [ez]; exact (hex_dig y (by decide)).2 h))
     have HR : Hid (numI xs pos = some (capV big v, pos + k)) := by show _ = _; rw [HQ.out, hst]
     cases hal : alnumB y with
     | true =>
       have HF := BAD.out _ _ HR.out (by rw [h7]; exact hal); have HF' : Hid _ := HF; rw [hal] at HAL; clear HF hst HR h7 ey ez hby HQ HC HBY BAD LIM OKN hal; go_wp2_with (first | (go_at_call 60; refine (HH _).mono ?_; rintro e w' ⟨rfl, rfl⟩) | (go_at_call 33; refine (HAL _).mono ?_; rintro e w' ⟨rfl, rfl⟩))
       go_ret3
       exact HF'.out
     | false =>
       rw [hal] at HAL h7
       cases big with
       | true =>
         have HF' : Hid _ := LIM.out _ _ HR.out h7 (by simp [capV]); clear hst HR h7 ey ez hby HQ HC HBY BAD LIM OKN hal; go_wp2_with (first | (go_at_call 60; refine (HH _).mono ?_; rintro e w' ⟨rfl, rfl⟩) | (go_at_call 33; refine (HAL _).mono ?_; rintro e w' ⟨rfl, rfl⟩))
         go_ret3
         exact HF'.out
       | false =>
         have HF' : Hid _ := OKN.out v k HR.out h7 hv1; clear hst HR h7 ey ez hby HQ HC HBY BAD LIM OKN hal; go_wp2_with (first | (go_at_call 60; refine (HH _).mono ?_; rintro e w' ⟨rfl, rfl⟩) | (go_at_call 33; refine (HAL _).mono ?_; rintro e w' ⟨rfl, rfl⟩))
         go_ret3
         exact HF'.out
   ·have hinI : ¬ (pos : Int) + k < n := by omega
    have hge : byteI xs (pos + k) = -1 := byteI_ge (by rw [← HN.out]; omega); have hst := digs_stop xs 8 (pos + k) (capV big v) (by rw [hge]; decide)
    have HR : Hid (numI xs pos = some (capV big v, pos + k)) := by show _ = _; rw [HQ.out, hst]
    have h7 : isOfB (byteI xs (pos + k)) 7 = false := of7_end (by rw [← HN.out]; omega)
    cases big with
    | true =>
      have HF' : Hid _ := LIM.out _ _ HR.out h7 (by simp [capV]); clear hst HR h7 hge HQ HC HBY BAD LIM OKN; go_wp2_with fail
      go_ret3
      exact HF'.out
    | false =>
      have HF' : Hid _ := OKN.out v k HR.out h7 hv1; clear hst HR h7 hge HQ HC HBY BAD LIM OKN; go_wp2_with fail
      go_ret3
      exact HF'.out
 have HNU : Hid (numI xs pos = some (digsB xs 10 xs.length (pos + 0) (capV false 0))) := by
  show _ = _
  rw [hnum, numF, if_neg (by decide), if_neg (by decide), hbi, if_neg (fun h => hzd (by rw [ehz]; exact (hex_dig zz (by decide)).2 h))]
  rfl
 clear hnum hbi hbz ezz ehz
 rotate_left
 have h2I : ¬ (pos : Int) + 2 < n := by omega
 have HNU : Hid (numI xs pos = some (digsB xs 10 xs.length (pos + 0) (capV false 0))) := by
  show _ = _
  rw [hnum, numF, if_neg (by decide), if_neg (by decide), hbi, byteI_ge (by rw [← HN.out]; omega), if_neg (by decide)]
  rfl
 clear hnum hbi
 rotate_left
 have hmb111 : (m == 111) = false := by simpa using hmk111
 by_cases hmk98 : m = 98
 subst hmk98
 have hbi : baseI 98 = 2 := by decide
 by_cases h2 : pos + 2 < n
 have hzc := HC.out (pos + 2) h2; have hrz := HBY.out.at (pos + 2); have hbz : byteI xs (pos + 2) = xs.getD (pos + 2) 0 := byteI_lt (by rw [← HN.out]; exact h2)
 obtain ⟨zz, ezz⟩ : ∃ zz, zz = xs.getD (pos + 2) 0 := ⟨_, rfl⟩
 rw [← ezz] at hzc hrz hbz; rw [hbz] at hnum
 have HHZ := fun W => hex_any zz W hrz.1 hrz.2
 have hzb := hexS_rng hrz.1 hrz.2
 obtain ⟨hz, ehz⟩ : ∃ hz, hz = hexS zz := ⟨_, rfl⟩
 simp only [← ehz] at HHZ hzb
 have h2I : (pos : Int) + 2 < n := by omega
 by_cases hzd : hz < 2
 have HNU : Hid (numI xs pos = some (digsB xs 2 xs.length (pos + 2) (capV false 0))) := by
  show _ = _
  rw [hnum, numF, if_neg (by decide), if_neg (by decide), hbi, if_pos ((hex_dig zz (by decide)).1 (by rw [← ehz]; exact hzd))]
  rfl
 clear hnum hbi hbz ezz ehz
 ·skip
  go_enter Tryz.func32, Tryz.ntmps32
  go_wp2_with (go_at_call 60; refine (HHZ _).mono ?_; rintro e w' ⟨rfl, hw'⟩; obtain rfl := hw'.symm)
  go_loopw [8, 11, 12] (fun nv vv bv wr => ∃ (k : Nat) (v : Int) (big : Bool), 2 ≤ k ∧ pos + k ≤ n + 2 ∧ 0 ≤ v ∧ v ≤ 1000000000000000 ∧ nv = .int .i64 k ∧ vv = .int .i64 v ∧ bv = .bool big ∧ Hid (wr = w ∧ (big = true → v = 1000000000000000)) ∧ Hid (numI xs pos = some (digsB xs 2 xs.length (pos + k) (capV big v)))) (fun nv _ _ _ => n + 3 - (intOf nv).toNat)
  case atStart => exact ⟨2, 0, false, by omega, by omega, by omega, by omega, by trivial, by trivial, by trivial, ⟨rfl, fun h => by cases h⟩, HNU.out⟩
  case round =>
   obtain ⟨k, v, big, hk0, hkn, hv0, hv1, rfl, rfl, rfl, HW, HQ⟩ := hrel; obtain ⟨hw, hbg⟩ := HW.out; subst hw; have HBG : Hid (big = true → v = 1000000000000000) := hbg; clear HW hbg HNU
   by_cases hin : pos + k < n
   ·have hy := HC.out (pos + k) hin
    have hry := HBY.out.at (pos + k); have hby : byteI xs (pos + k) = xs.getD (pos + k) 0 := byteI_lt (by rw [← HN.out]; exact hin); have h7 := of7 HBY.out (q := pos + k) (by rw [← HN.out]; exact hin)
    obtain ⟨y, ey⟩ : ∃ y, y = xs.getD (pos + k) 0 := ⟨_, rfl⟩
    rw [← ey] at hy hry hby h7
    have hinI : (pos : Int) + k < n := by omega
    have HH := fun W => hex_any y W hry.1 hry.2
    have HAL := fun W => alnum_any y W hry.1 hry.2
    have hzr := hexS_rng hry.1 hry.2
    obtain ⟨z, ez⟩ : ∃ z, z = hexS y := ⟨_, rfl⟩
    rw [← ez] at hzr; simp only [← ez] at HH
    by_cases hd : z < 2
    ·have hdg : digI y < 2 := (hex_dig y (by decide)).1 (by rw [← ez]; exact hd)
     have hsame : z = digI y := by rw [ez]; exact hex_same (by omega)
     have hst := digs_step xs 2 (by decide) (pos + k) (capV big v) (by rw [hby]; exact hdg); rw [hby, ← hsame, capV_step hv0 hv1 HBG.out hzr.1 hd (by decide) (by decide)] at hst
     have HST : Hid (numI xs pos = some (digsB xs 2 xs.length (pos + (k + 1)) (if 1000000000000000 < v * 2 + z then capV true 1000000000000000 else capV false (v * 2 + z)))) := by show _ = _; rw [HQ.out, hst]; rfl
     clear hst hsame hdg h7 ey ez hby HQ
     by_cases hbig : 1000000000000000 < v * 2 + z
     ·have HN1 : Hid (numI xs pos = some (digsB xs 2 xs.length (pos + (k + 1)) (capV true 1000000000000000))) := by show _ = _; rw [HST.out, if_pos hbig]
      clear HST HC HBY BAD LIM OKN; go_wp2_with (go_at_call 60; refine (HH _).mono ?_; rintro e w' ⟨rfl, rfl⟩); go_roundw
      case rel => exact ⟨k + 1, 1000000000000000, true, by omega, by omega, by omega, by omega, by go_num, by trivial, by trivial, ⟨by trivial, fun _ => rfl⟩, HN1⟩
      case measure => simp [intOf]; omega
     ·have hbf : big = false := by
       cases hbb : big with
       | false => rfl
       | true => exact absurd (big_stays (HBG.out hbb) hzr.1 (by decide)) hbig
      subst hbf
      have HN1 : Hid (numI xs pos = some (digsB xs 2 xs.length (pos + (k + 1)) (capV false (v * 2 + z)))) := by show _ = _; rw [HST.out, if_neg hbig]
      clear HST HC HBY BAD LIM OKN; go_wp2_with (go_at_call 60; refine (HH _).mono ?_; rintro e w' ⟨rfl, rfl⟩); go_roundw
      case rel => exact ⟨k + 1, v * 2 + z, false, by omega, by omega, by omega, by omega, by go_num, by trivial, by trivial, ⟨by trivial, fun h => by cases h⟩, HN1⟩
      case measure => simp [intOf]; omega
    ·have hst := digs_stop xs 2 (pos + k) (capV big v) (by rw [hby]; exact fun h => hd (by rw [ez]; exact (hex_dig y (by decide)).2 h))
     have HR : Hid (numI xs pos = some (capV big v, pos + k)) := by show _ = _; rw [HQ.out, hst]
     cases hal : alnumB y with
     | true =>
       have HF := BAD.out _ _ HR.out (by rw [h7]; exact hal); have HF' : Hid _ := HF; rw [hal] at HAL; clear HF hst HR h7 ey ez hby HQ HC HBY BAD LIM OKN hal; go_wp2_with (first | (go_at_call 60; refine (HH _).mono ?_; rintro e w' ⟨rfl, rfl⟩) | (go_at_call 33; refine (HAL _).mono ?_; rintro e w' ⟨rfl, rfl⟩))
       go_ret3
       exact HF'.out
     | false =>
       rw [hal] at HAL h7
       cases big with
       | true =>
         have HF' : Hid _ := LIM.out _ _ HR.out h7 (by simp [capV]); clear hst HR h7 ey ez hby HQ HC HBY BAD LIM OKN hal; go_wp2_with (first | (go_at_call 60; refine (HH _).mono ?_; rintro e w' ⟨rfl, rfl⟩) | (go_at_call 33; refine (HAL _).mono ?_; rintro e w' ⟨rfl, rfl⟩))
         go_ret3
         exact HF'.out
       | false =>
         have HF' : Hid _ := OKN.out v k HR.out h7 hv1; clear hst HR h7 ey ez hby HQ HC HBY BAD LIM OKN hal; go_wp2_with (first | (go_at_call 60; refine (HH _).mono ?_; rintro e w' ⟨rfl, rfl⟩) | (go_at_call 33; refine (HAL _).mono ?_; rintro e w' ⟨rfl, rfl⟩))
         go_ret3
         exact HF'.out
   ·have hinI : ¬ (pos : Int) + k < n := by omega
    have hge : byteI xs (pos + k) = -1 := byteI_ge (by rw [← HN.out]; omega); have hst := digs_stop xs 2 (pos + k) (capV big v) (by rw [hge]; decide)
    have HR : Hid (numI xs pos = some (capV big v, pos + k)) := by show _ = _; rw [HQ.out, hst]
    have h7 : isOfB (byteI xs (pos + k)) 7 = false := of7_end (by rw [← HN.out]; omega)
    cases big with
    | true =>
      have HF' : Hid _ := LIM.out _ _ HR.out h7 (by simp [capV]); clear hst HR h7 hge HQ HC HBY BAD LIM OKN; go_wp2_with fail
      go_ret3
      exact HF'.out
    | false =>
      have HF' : Hid _ := OKN.out v k HR.out h7 hv1; clear hst HR h7 hge HQ HC HBY BAD LIM OKN; go_wp2_with fail
      go_ret3
      exact HF'.out
 have HNU : Hid (numI xs pos = some (digsB xs 10 xs.length (pos + 0) (capV false 0))) := by
  show _ = _
  rw [hnum, numF, if_neg (by decide), if_neg (by decide), hbi, if_neg (fun h => hzd (by rw [ehz]; exact (hex_dig zz (by decide)).2 h))]
  rfl
 clear hnum hbi hbz ezz ehz
 rotate_left
 have h2I : ¬ (pos : Int) + 2 < n := by omega
 have HNU : Hid (numI xs pos = some (digsB xs 10 xs.length (pos + 0) (capV false 0))) := by
  show _ = _
  rw [hnum, numF, if_neg (by decide), if_neg (by decide), hbi, byteI_ge (by rw [← HN.out]; omega), if_neg (by decide)]
  rfl
 clear hnum hbi
 rotate_left
 have hmb98 : (m == 98) = false := by simpa using hmk98
 have HNU : Hid (numI xs pos = some (digsB xs 10 xs.length (pos + 0) (capV false 0))) := by
  show _ = _
  have hbi : baseI m = 0 := by simp only [baseI, hmk120, hmk111, hmk98, if_false]
  have := (digI_rng (byteI xs (pos + 2))).1; rw [hnum, numF, if_neg (by decide), if_neg h39, hbi, if_neg (by omega)]
  rfl
 clear hnum hmk120 hmk111 hmk98 h39
 rotate_left
 have h1I : ¬ (pos : Int) + 1 < n := by omega
 have HNU : Hid (numI xs pos = some (digsB xs 10 xs.length (pos + 0) (capV false 0))) := by
  show _ = _
  have := (digI_rng (byteI xs (pos + 2))).1; rw [hnum, byteI_ge (i := pos + 1) (by rw [← HN.out]; omega), numF, if_neg (by decide), if_neg (by decide), show baseI (-1) = 0 from by decide, if_neg (by omega)]
  rfl
 clear hnum HCH
 rotate_left
 have hxb : (x == 48) = false := by simpa using h48
 have HNU : Hid (numI xs pos = some (digsB xs 10 xs.length (pos + 0) (capV false 0))) := by
  show _ = _
  rw [hnum, numF, if_pos h48]
  rfl
 clear hnum HCH h48
 rotate_left
 all_goals first
  | (have _t := HHZ
     go_enter Tryz.func32, Tryz.ntmps32
     go_wp2_with (go_at_call 60; refine (HHZ _).mono ?_; rintro e w' ⟨rfl, hw'⟩; obtain rfl := hw'.symm)
     go_loopw [8, 11, 12] (fun nv vv bv wr => ∃ (k : Nat) (v : Int) (big : Bool), 0 ≤ k ∧ pos + k ≤ n + 2 ∧ 0 ≤ v ∧ v ≤ 1000000000000000 ∧ nv = .int .i64 k ∧ vv = .int .i64 v ∧ bv = .bool big ∧ Hid (wr = w ∧ (big = true → v = 1000000000000000)) ∧ Hid (numI xs pos = some (digsB xs 10 xs.length (pos + k) (capV big v)))) (fun nv _ _ _ => n + 3 - (intOf nv).toNat)
     case atStart => exact ⟨0, 0, false, by omega, by omega, by omega, by omega, by trivial, by trivial, by trivial, ⟨rfl, fun h => by cases h⟩, HNU.out⟩
     case round =>
      obtain ⟨k, v, big, hk0, hkn, hv0, hv1, rfl, rfl, rfl, HW, HQ⟩ := hrel; obtain ⟨hw, hbg⟩ := HW.out; subst hw; have HBG : Hid (big = true → v = 1000000000000000) := hbg; clear HW hbg HNU
      by_cases hin : pos + k < n
      ·have hy := HC.out (pos + k) hin
       have hry := HBY.out.at (pos + k); have hby : byteI xs (pos + k) = xs.getD (pos + k) 0 := byteI_lt (by rw [← HN.out]; exact hin); have h7 := of7 HBY.out (q := pos + k) (by rw [← HN.out]; exact hin)
       obtain ⟨y, ey⟩ : ∃ y, y = xs.getD (pos + k) 0 := ⟨_, rfl⟩
       rw [← ey] at hy hry hby h7
       have hinI : (pos : Int) + k < n := by omega
       have HH := fun W => hex_any y W hry.1 hry.2
       have HAL := fun W => alnum_any y W hry.1 hry.2
       have hzr := hexS_rng hry.1 hry.2
       obtain ⟨z, ez⟩ : ∃ z, z = hexS y := ⟨_, rfl⟩
       rw [← ez] at hzr; simp only [← ez] at HH
       by_cases hd : z < 10
       ·have hdg : digI y < 10 := (hex_dig y (by decide)).1 (by rw [← ez]; exact hd)
        have hsame : z = digI y := by rw [ez]; exact hex_same (by omega)
        have hst := digs_step xs 10 (by decide) (pos + k) (capV big v) (by rw [hby]; exact hdg); rw [hby, ← hsame, capV_step hv0 hv1 HBG.out hzr.1 hd (by decide) (by decide)] at hst
        have HST : Hid (numI xs pos = some (digsB xs 10 xs.length (pos + (k + 1)) (if 1000000000000000 < v * 10 + z then capV true 1000000000000000 else capV false (v * 10 + z)))) := by show _ = _; rw [HQ.out, hst]; rfl
        clear hst hsame hdg h7 ey ez hby HQ
        by_cases hbig : 1000000000000000 < v * 10 + z
        ·have HN1 : Hid (numI xs pos = some (digsB xs 10 xs.length (pos + (k + 1)) (capV true 1000000000000000))) := by show _ = _; rw [HST.out, if_pos hbig]
         clear HST HC HBY BAD LIM OKN; go_wp2_with (go_at_call 60; refine (HH _).mono ?_; rintro e w' ⟨rfl, rfl⟩); go_roundw
         case rel => exact ⟨k + 1, 1000000000000000, true, by omega, by omega, by omega, by omega, by go_num, by trivial, by trivial, ⟨by trivial, fun _ => rfl⟩, HN1⟩
         case measure => simp [intOf]; omega
        ·have hbf : big = false := by
          cases hbb : big with
          | false => rfl
          | true => exact absurd (big_stays (HBG.out hbb) hzr.1 (by decide)) hbig
         subst hbf
         have HN1 : Hid (numI xs pos = some (digsB xs 10 xs.length (pos + (k + 1)) (capV false (v * 10 + z)))) := by show _ = _; rw [HST.out, if_neg hbig]
         clear HST HC HBY BAD LIM OKN; go_wp2_with (go_at_call 60; refine (HH _).mono ?_; rintro e w' ⟨rfl, rfl⟩); go_roundw
         case rel => exact ⟨k + 1, v * 10 + z, false, by omega, by omega, by omega, by omega, by go_num, by trivial, by trivial, ⟨by trivial, fun h => by cases h⟩, HN1⟩
         case measure => simp [intOf]; omega
       ·have hst := digs_stop xs 10 (pos + k) (capV big v) (by rw [hby]; exact fun h => hd (by rw [ez]; exact (hex_dig y (by decide)).2 h))
        have HR : Hid (numI xs pos = some (capV big v, pos + k)) := by show _ = _; rw [HQ.out, hst]
        cases hal : alnumB y with
        | true =>
          have HF := BAD.out _ _ HR.out (by rw [h7]; exact hal); have HF' : Hid _ := HF; rw [hal] at HAL; clear HF hst HR h7 ey ez hby HQ HC HBY BAD LIM OKN hal; go_wp2_with (first | (go_at_call 60; refine (HH _).mono ?_; rintro e w' ⟨rfl, rfl⟩) | (go_at_call 33; refine (HAL _).mono ?_; rintro e w' ⟨rfl, rfl⟩))
          go_ret3
          exact HF'.out
        | false =>
          rw [hal] at HAL h7
          cases big with
          | true =>
            have HF' : Hid _ := LIM.out _ _ HR.out h7 (by simp [capV]); clear hst HR h7 ey ez hby HQ HC HBY BAD LIM OKN hal; go_wp2_with (first | (go_at_call 60; refine (HH _).mono ?_; rintro e w' ⟨rfl, rfl⟩) | (go_at_call 33; refine (HAL _).mono ?_; rintro e w' ⟨rfl, rfl⟩))
            go_ret3
            exact HF'.out
          | false =>
            have HF' : Hid _ := OKN.out v k HR.out h7 hv1; clear hst HR h7 ey ez hby HQ HC HBY BAD LIM OKN hal; go_wp2_with (first | (go_at_call 60; refine (HH _).mono ?_; rintro e w' ⟨rfl, rfl⟩) | (go_at_call 33; refine (HAL _).mono ?_; rintro e w' ⟨rfl, rfl⟩))
            go_ret3
            exact HF'.out
      ·have hinI : ¬ (pos : Int) + k < n := by omega
       have hge : byteI xs (pos + k) = -1 := byteI_ge (by rw [← HN.out]; omega); have hst := digs_stop xs 10 (pos + k) (capV big v) (by rw [hge]; decide)
       have HR : Hid (numI xs pos = some (capV big v, pos + k)) := by show _ = _; rw [HQ.out, hst]
       have h7 : isOfB (byteI xs (pos + k)) 7 = false := of7_end (by rw [← HN.out]; omega)
       cases big with
       | true =>
         have HF' : Hid _ := LIM.out _ _ HR.out h7 (by simp [capV]); clear hst HR h7 hge HQ HC HBY BAD LIM OKN; go_wp2_with fail
         go_ret3
         exact HF'.out
       | false =>
         have HF' : Hid _ := OKN.out v k HR.out h7 hv1; clear hst HR h7 hge HQ HC HBY BAD LIM OKN; go_wp2_with fail
         go_ret3
         exact HF'.out)
  | (go_enter Tryz.func32, Tryz.ntmps32
     go_wp2_with fail
     go_loopw [8, 11, 12] (fun nv vv bv wr => ∃ (k : Nat) (v : Int) (big : Bool), 0 ≤ k ∧ pos + k ≤ n + 2 ∧ 0 ≤ v ∧ v ≤ 1000000000000000 ∧ nv = .int .i64 k ∧ vv = .int .i64 v ∧ bv = .bool big ∧ Hid (wr = w ∧ (big = true → v = 1000000000000000)) ∧ Hid (numI xs pos = some (digsB xs 10 xs.length (pos + k) (capV big v)))) (fun nv _ _ _ => n + 3 - (intOf nv).toNat)
     case atStart => exact ⟨0, 0, false, by omega, by omega, by omega, by omega, by trivial, by trivial, by trivial, ⟨rfl, fun h => by cases h⟩, HNU.out⟩
     case round =>
      obtain ⟨k, v, big, hk0, hkn, hv0, hv1, rfl, rfl, rfl, HW, HQ⟩ := hrel; obtain ⟨hw, hbg⟩ := HW.out; subst hw; have HBG : Hid (big = true → v = 1000000000000000) := hbg; clear HW hbg HNU
      by_cases hin : pos + k < n
      ·have hy := HC.out (pos + k) hin
       have hry := HBY.out.at (pos + k); have hby : byteI xs (pos + k) = xs.getD (pos + k) 0 := byteI_lt (by rw [← HN.out]; exact hin); have h7 := of7 HBY.out (q := pos + k) (by rw [← HN.out]; exact hin)
       obtain ⟨y, ey⟩ : ∃ y, y = xs.getD (pos + k) 0 := ⟨_, rfl⟩
       rw [← ey] at hy hry hby h7
       have hinI : (pos : Int) + k < n := by omega
       have HH := fun W => hex_any y W hry.1 hry.2
       have HAL := fun W => alnum_any y W hry.1 hry.2
       have hzr := hexS_rng hry.1 hry.2
       obtain ⟨z, ez⟩ : ∃ z, z = hexS y := ⟨_, rfl⟩
       rw [← ez] at hzr; simp only [← ez] at HH
       by_cases hd : z < 10
       ·have hdg : digI y < 10 := (hex_dig y (by decide)).1 (by rw [← ez]; exact hd)
        have hsame : z = digI y := by rw [ez]; exact hex_same (by omega)
        have hst := digs_step xs 10 (by decide) (pos + k) (capV big v) (by rw [hby]; exact hdg); rw [hby, ← hsame, capV_step hv0 hv1 HBG.out hzr.1 hd (by decide) (by decide)] at hst
        have HST : Hid (numI xs pos = some (digsB xs 10 xs.length (pos + (k + 1)) (if 1000000000000000 < v * 10 + z then capV true 1000000000000000 else capV false (v * 10 + z)))) := by show _ = _; rw [HQ.out, hst]; rfl
        clear hst hsame hdg h7 ey ez hby HQ
        by_cases hbig : 1000000000000000 < v * 10 + z
        ·have HN1 : Hid (numI xs pos = some (digsB xs 10 xs.length (pos + (k + 1)) (capV true 1000000000000000))) := by show _ = _; rw [HST.out, if_pos hbig]
         clear HST HC HBY BAD LIM OKN; go_wp2_with (go_at_call 60; refine (HH _).mono ?_; rintro e w' ⟨rfl, rfl⟩); go_roundw
         case rel => exact ⟨k + 1, 1000000000000000, true, by omega, by omega, by omega, by omega, by go_num, by trivial, by trivial, ⟨by trivial, fun _ => rfl⟩, HN1⟩
         case measure => simp [intOf]; omega
        ·have hbf : big = false := by
          cases hbb : big with
          | false => rfl
          | true => exact absurd (big_stays (HBG.out hbb) hzr.1 (by decide)) hbig
         subst hbf
         have HN1 : Hid (numI xs pos = some (digsB xs 10 xs.length (pos + (k + 1)) (capV false (v * 10 + z)))) := by show _ = _; rw [HST.out, if_neg hbig]
         clear HST HC HBY BAD LIM OKN; go_wp2_with (go_at_call 60; refine (HH _).mono ?_; rintro e w' ⟨rfl, rfl⟩); go_roundw
         case rel => exact ⟨k + 1, v * 10 + z, false, by omega, by omega, by omega, by omega, by go_num, by trivial, by trivial, ⟨by trivial, fun h => by cases h⟩, HN1⟩
         case measure => simp [intOf]; omega
       ·have hst := digs_stop xs 10 (pos + k) (capV big v) (by rw [hby]; exact fun h => hd (by rw [ez]; exact (hex_dig y (by decide)).2 h))
        have HR : Hid (numI xs pos = some (capV big v, pos + k)) := by show _ = _; rw [HQ.out, hst]
        cases hal : alnumB y with
        | true =>
          have HF := BAD.out _ _ HR.out (by rw [h7]; exact hal); have HF' : Hid _ := HF; rw [hal] at HAL; clear HF hst HR h7 ey ez hby HQ HC HBY BAD LIM OKN hal; go_wp2_with (first | (go_at_call 60; refine (HH _).mono ?_; rintro e w' ⟨rfl, rfl⟩) | (go_at_call 33; refine (HAL _).mono ?_; rintro e w' ⟨rfl, rfl⟩))
          go_ret3
          exact HF'.out
        | false =>
          rw [hal] at HAL h7
          cases big with
          | true =>
            have HF' : Hid _ := LIM.out _ _ HR.out h7 (by simp [capV]); clear hst HR h7 ey ez hby HQ HC HBY BAD LIM OKN hal; go_wp2_with (first | (go_at_call 60; refine (HH _).mono ?_; rintro e w' ⟨rfl, rfl⟩) | (go_at_call 33; refine (HAL _).mono ?_; rintro e w' ⟨rfl, rfl⟩))
            go_ret3
            exact HF'.out
          | false =>
            have HF' : Hid _ := OKN.out v k HR.out h7 hv1; clear hst HR h7 ey ez hby HQ HC HBY BAD LIM OKN hal; go_wp2_with (first | (go_at_call 60; refine (HH _).mono ?_; rintro e w' ⟨rfl, rfl⟩) | (go_at_call 33; refine (HAL _).mono ?_; rintro e w' ⟨rfl, rfl⟩))
            go_ret3
            exact HF'.out
      ·have hinI : ¬ (pos : Int) + k < n := by omega
       have hge : byteI xs (pos + k) = -1 := byteI_ge (by rw [← HN.out]; omega); have hst := digs_stop xs 10 (pos + k) (capV big v) (by rw [hge]; decide)
       have HR : Hid (numI xs pos = some (capV big v, pos + k)) := by show _ = _; rw [HQ.out, hst]
       have h7 : isOfB (byteI xs (pos + k)) 7 = false := of7_end (by rw [← HN.out]; omega)
       cases big with
       | true =>
         have HF' : Hid _ := LIM.out _ _ HR.out h7 (by simp [capV]); clear hst HR h7 hge HQ HC HBY BAD LIM OKN; go_wp2_with fail
         go_ret3
         exact HF'.out
       | false =>
         have HF' : Hid _ := OKN.out v k HR.out h7 hv1; clear hst HR h7 hge HQ HC HBY BAD LIM OKN; go_wp2_with fail
         go_ret3
         exact HF'.out)
end Go.Proofs.YtfgmenkoeflhaaaGreatDoor
