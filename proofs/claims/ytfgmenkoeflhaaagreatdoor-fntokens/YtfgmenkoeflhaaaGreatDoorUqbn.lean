/- Texts of Lx3, Lx4. Own work of the verifier. -/
import Derived.Test.YtfgmenkoeflhaaaGreatDoorUqbm
namespace Go.Proofs.YtfgmenkoeflhaaaGreatDoor
set_option maxRecDepth 100000
open Go Go.RowKit
set_option linter.unusedVariables false
theorem hexI_byte {xs : List Int} {a j : Nat} {v : Int} (h : hexI xs a = some (v, j)) : 0 ≤ v ∧ v < 256 := by
 have r0 := digI_rng (byteI xs a); have r1 := digI_rng (byteI xs (a + 1)); rw [hexI_cases] at h
 split at h
 ·cases h
 ·split at h
  ·split at h
   ·cases h; omega
   ·cases h
  ·split at h
   ·cases h; omega
   ·cases h
theorem escI_byte {xs : List Int} {i j : Nat} {v : Int} (h : escI xs i = some (v, j)) : 0 ≤ v ∧ v < 256 := by
 rw [escI, escF] at h
 split at h
 ·cases h; omega
 split at h
 ·cases h; omega
 split at h
 ·cases h; omega
 split at h
 ·cases h; omega
 split at h
 ·cases h; omega
 split at h
 ·cases h; omega
 split at h
 ·exact hexI_byte h
 ·cases h
def TxtOut (w : World) (pos : Nat) (r : Option (List Int × Nat)) (e : Ending) (w' : World) : Prop :=
 match r with
 | none => e = .returned (.tuple #[.slice none 0 0, .int .i64 0]) ∧ Below w.heap.size w w'
 | some (ys, j) => ∃ p n c, e = .returned (.tuple #[.slice p n c, .int .i64 ((j - pos : Nat) : Int)]) ∧ OwnS w' w.heap.size p n c ys ∧ Below w.heap.size w w' ∧ pos < j ∧ j ≤ 30001
theorem txtOut_of {w w' : World} {pos : Nat} {e : Ending} {r r' : Option (List Int × Nat)} (h : TxtOut w pos r e w') (er : r' = r) : TxtOut w pos r' e w' := er ▸ h
theorem one_news (W : World) (x : Int) : ∀ j u, ([x].map (Value.int .u8))[j]? = some u → (W.alloc (.cells #[.int .u8 x] 5)).cell? ((⟨W.heap.size, 0, none⟩ : Addr).add j) = some u := fun j u hu => by
 have hj : j = 0 := by
  rcases Nat.eq_zero_or_pos j with h | h
  ·exact h
  ·rw [List.getElem?_eq_none (by simp; omega)] at hu; cases hu
 subst hj; have hb := heap_alloc_new W (.cells #[.int .u8 x] 5)
 simp at hu
 rw [← hu]
 show World.cell? _ ⟨W.heap.size, 0, none⟩ = _
 unfold World.cell?; rw [hb]; rfl
set_option maxHeartbeats 6000000 in
theorem textS_any (b cap pos : Nat) (q : Int) (xs : List Int) (w : World) (hb : Bytes xs) (hn : xs.length ≤ 10000) (hp : pos < xs.length) (hq : xs.getD pos 0 = q) (hqq : q = 39 ∨ q = 34) (hc : ∀ m, m < xs.length → w.cell? ⟨b, m, none⟩ = some (.int .u8 (xs.getD m 0))) :
 Calls Tryz.prog 37 #[.slice (some ⟨b, 0, none⟩) xs.length cap, .int .i64 pos] w (TxtOut w pos (txtI xs q (pos + 1) [])) := by
 obtain ⟨n, en⟩ : ∃ n, n = xs.length := ⟨_, rfl⟩
 rw [← en] at hn hp ⊢; have HN : Hid (n = xs.length) := en
 have HC : Hid (∀ W, Below w.heap.size w W → ∀ m, m < n → W.cell? ⟨b, m, none⟩ = some (.int .u8 (xs.getD m 0))) := fun W hW m hm => (hW.cell (World.block_lt_of_cell? _ _ (hc m (by omega)))).trans (hc m (by omega))
 have HES : Hid (∀ (W : World) (i : Nat), Below w.heap.size w W → i ≤ 100000 → Calls Tryz.prog 61 #[.slice (some ⟨b, 0, none⟩) n cap, .int .i64 ((i : Int) + 1)] W (EscOut W (escS xs i))) := fun W i hW hi => by
  have := escapeS_any b cap i xs W hb (by omega) hi (fun m hm => HC.out W hW m (by omega)); rw [← en, show ((i + 1 : Nat) : Int) = (i : Int) + 1 by omega] at this; exact this
 have HBY : Hid (Bytes xs) := hb; have hpc := hc pos (by omega); rw [hq] at hpc
 have hq0 : 0 ≤ q ∧ q < 256 := by omega
 have HQ0 : Hid (0 ≤ q) := hq0.1
 have HQN : Hid (q ≠ -1 ∧ q ≠ 92) := ⟨by omega, by omega⟩
 clear hb hc en hq hqq
 go_enter Tryz.func37, Tryz.ntmps37
 go_wp2_with fail; clear hpc
 go_loopw [7, 8] (fun s j wr => ∃ (i n5 c5 : Nat) (p5 : Option Addr) (ys : List Int), i ≤ 30000 ∧ n5 ≤ i ∧ pos + 1 ≤ i ∧ s = .slice p5 n5 c5 ∧ j = .int .i64 i ∧ Hid (txtI xs q i ys = txtI xs q (pos + 1) []) ∧ Hid (OwnS wr w.heap.size p5 n5 c5 ys) ∧ Hid (Below w.heap.size w wr)) (fun _ j _ => 40000 - (intOf j).toNat)
 case atStart => exact ⟨pos + 1, 0, 0, none, [], by omega, by omega, by omega, rfl, by go_num, rfl, OwnS.nil _ _, Below.refl _ _⟩
 case round =>
  obtain ⟨i, n5, c5, p5, ys, hi, hn5, hpi, rfl, rfl, HT, HO, HB⟩ := hrel; have hstep := txt_step xs q HQ0.out i ys
  by_cases hlt : i < n
  ·have hx := HC.out wr HB.out i hlt
   have hr := HBY.out.at i; have hbi : byteI xs i = xs.getD i 0 := byteI_lt (by rw [← HN.out]; exact hlt)
   obtain ⟨x, ex⟩ : ∃ x, x = xs.getD i 0 := ⟨_, rfl⟩
   rw [← ex] at hx hr hbi; rw [hbi] at hstep; clear ex hbi; have hBw : w.heap.size ≤ wr.heap.size := HB.out.size
   by_cases hxq : x = q
   ·subst hxq
    rw [if_pos rfl] at hstep
    have CLOSE : Hid (byteI xs (i + 1) ≠ x → TxtOut w pos (txtI xs x (pos + 1) []) (.returned (.tuple #[.slice p5 n5 c5, .int .i64 ((i : Int) + 1 - pos)])) wr) := fun h => by
     rw [if_neg h] at hstep; refine txtOut_of (r := some (ys, i + 1)) ⟨p5, n5, c5, ?_, HO.out, HB.out, by omega, by omega⟩ (by rw [← HT.out]; exact hstep); rw [show ((i + 1 - pos : Nat) : Int) = (i : Int) + 1 - pos by omega]
    by_cases h1 : i + 1 < n
    ·have hy := HC.out wr HB.out (i + 1) h1
     have hby : byteI xs (i + 1) = xs.getD (i + 1) 0 := byteI_lt (by rw [← HN.out]; exact h1)
     obtain ⟨y, ey⟩ : ∃ y, y = xs.getD (i + 1) 0 := ⟨_, rfl⟩
     rw [← ey] at hy hby; clear ey
     have hge : ¬ ((n : Int) ≤ (i : Int) + 1) := by omega
     by_cases hyq : y = x
     ·have HT2 : Hid (txtI xs x (i + 2) (ys ++ [x]) = txtI xs x (pos + 1) []) := by show _ = _; rw [← HT.out, hstep, hby, if_pos hyq]
      subst hyq
      have hyb : (y != y) = false := by simp
      clear CLOSE hstep hby HC HES HBY HT; go_wp2_with (refine app_bytes _ rfl _ _ rfl w.heap.size p5 n5 c5 ys [y] 1 rfl rfl (HO.out.alloc _) ⟨wr.heap.size, 0, none⟩ 1 rfl (one_news wr y) (by omega) (by omega) (by simp; omega) ?_; intro g6 n6 cap6 w6 hown6 hb6 hn6); have HO6 : Hid (OwnS w6 w.heap.size (some ⟨g6, 0, none⟩) n6 cap6 (ys ++ [y])) := hown6; have HB6 : Hid (Below w.heap.size w w6) := (HB.out.alloc hBw _).trans hb6; have hn6' := hn6.out; clear hown6 hb6 hn6; go_wp2_with fail; go_roundw
      case rel => exact ⟨i + 2, n6, cap6, _, _, by omega, by omega, by omega, by trivial, by go_num, HT2, HO6, HB6⟩
      case measure => simp [intOf]; omega
     ·have HF : Hid (TxtOut w pos (txtI xs x (pos + 1) []) (.returned (.tuple #[.slice p5 n5 c5, .int .i64 ((i : Int) + 1 - pos)])) wr) := CLOSE.out (by rw [hby]; exact hyq)
      have hyb : (y != x) = true := by simpa using hyq
      clear CLOSE hstep hby HC HES HBY HT HO HB hyq; go_wp2_with fail
      go_ret2
      exact HF.out
    ·have hge : (n : Int) ≤ (i : Int) + 1 := by omega
     have HF : Hid (TxtOut w pos (txtI xs x (pos + 1) []) (.returned (.tuple #[.slice p5 n5 c5, .int .i64 ((i : Int) + 1 - pos)])) wr) := CLOSE.out (by rw [byteI_ge (by rw [← HN.out]; omega)]; exact fun h => HQN.out.1 h.symm); clear CLOSE hstep HC HES HBY HT HO HB; go_wp2_with fail
     go_ret2
     exact HF.out
   ·rw [if_neg hxq] at hstep
    have hxb : (x == q) = false := by simpa using hxq
    by_cases h92 : x = 92
    ·rw [if_pos h92] at hstep
     have hes := HES.out wr i HB.out (by omega); subst h92
     by_cases h10 : byteI xs (i + 1) = 10
     ·have hr0 : escS xs i = ([], 1) := by rw [escS, if_pos h10]
      have HT2 : Hid (txtI xs q (i + 2) ys = txtI xs q (pos + 1) []) := by show _ = _; rw [← HT.out, hstep, if_pos h10]
      rw [hr0] at hes; clear hstep HC HES HBY HT hr0 h10; go_wp2_with fail; refine hes.mono ?_; rintro e w5 ⟨p6, n6, c6, rfl, ho6, hb6⟩; obtain rfl : n6 = 0 := ho6.1; have HO5 : Hid (OwnS w5 w.heap.size p5 n5 c5 ys) := HO.out.below hb6; have HB5 : Hid (Below w.heap.size w w5) := Below.on HB.out hb6
      have hnc : n5 ≤ c5 := by
       rcases HO.out.2.2 with ⟨hv, h0⟩ | ⟨_, _, _, hv, _, _, h9, _⟩
       ·omega
       ·simp only [Value.slice.injEq] at hv; omega
      clear hes ho6 hb6; go_wp2_with (refine app_nothing _ rfl _ _ rfl p5 n5 c5 hnc rfl p6 c6 rfl ?_); go_roundw
      case rel => exact ⟨i + 2, n5, c5, _, _, by omega, by omega, by omega, by trivial, by go_num, HT2, HO5, HB5⟩
      case measure => simp [intOf]; omega
     ·rw [if_neg h10] at hstep
      cases he : escI xs i with
      | none =>
        have hr0 : escS xs i = ([], 0) := by rw [escS, if_neg h10, he]
        rw [he] at hstep
        have HTN : Hid (txtI xs q (pos + 1) [] = none) := by show _ = _; rw [← HT.out]; exact hstep
        rw [hr0] at hes; clear hstep HC HES HBY HT hr0 h10 he; go_wp2_with fail; refine hes.mono ?_; rintro e w5 ⟨p6, n6, c6, rfl, ho6, hb6⟩; have HF : Hid (TxtOut w pos (txtI xs q (pos + 1) []) (.returned (.tuple #[.slice none 0 0, .int .i64 0])) w5) := txtOut_of (r := none) ⟨rfl, Below.on HB.out hb6⟩ HTN.out; clear hes ho6 hb6; go_wp2_with fail
        go_ret2
        exact HF.out
      | some r =>
        obtain ⟨v, j⟩ := r; have hrg := escI_rng he; have hvb := escI_byte he
        have hr0 : escS xs i = ([v], j - (i + 1)) := by rw [escS, if_neg h10, he]
        rw [he] at hstep; have hv256 : v % 256 = v := Int.emod_eq_of_lt hvb.1 hvb.2
        have HT2 : Hid (txtI xs q j (ys ++ [v]) = txtI xs q (pos + 1) []) := by show _ = _; rw [← HT.out, hstep]; simp only [hv256]
        rw [hr0] at hes
        obtain ⟨d, ed⟩ : ∃ d, d = j - (i + 1) := ⟨_, rfl⟩
        rw [← ed] at hes
        have hd1 : 1 ≤ d := by omega
        have hd2 : d ≤ 11000 := by have := HN.out; omega
        have hjd : j = i + (d + 1) := by omega
        have hd0 : ((d : Int) == 0) = false := by simp; omega
        have hj3 : j ≤ 30000 := by have := HN.out; omega
        have HJD : Hid (j = i + (d + 1)) := hjd; clear hstep HC HES HBY HT hr0 h10 he hrg hv256 ed hjd; go_wp2_with fail; refine hes.mono ?_; rintro e w5 ⟨p6, n6, c6, rfl, ho6, hb6⟩; have hn61 : n6 = 1 := ho6.1; subst hn61
        rcases ho6.form with ⟨_, h9, _⟩ | ⟨g6, rfl, hB6, hl6⟩
        ·omega
        have hnews : ∀ j' u, ([v].map (Value.int .u8))[j']? = some u → w5.cell? ((⟨g6, 0, none⟩ : Addr).add j') = some u := ho6.2.cells (g := g6) rfl; have HO5 : Hid (OwnS w5 w.heap.size p5 n5 c5 ys) := HO.out.below hb6; have HB5 : Hid (Below w.heap.size w w5) := Below.on HB.out hb6; have HNW : Hid _ := hnews; have hBw5 : w.heap.size ≤ w5.heap.size := HB5.out.size; clear hes ho6 hb6 hnews; go_wp2_with (refine app_bytes _ rfl _ _ rfl w.heap.size p5 n5 c5 ys [v] 1 rfl rfl HO5.out ⟨g6, 0, none⟩ c6 rfl HNW.out (by omega) (by omega) hBw5 ?_; intro g7 n7 cap7 w7 hown7 hb7 hn7); have HO7 : Hid (OwnS w7 w.heap.size (some ⟨g7, 0, none⟩) n7 cap7 (ys ++ [v])) := hown7; have HB7 : Hid (Below w.heap.size w w7) := HB5.out.trans hb7; have hn7' := hn7.out; clear hown7 hb7 hn7; go_wp2_with fail; have hjd := HJD.out; go_roundw
        case rel => exact ⟨j, n7, cap7, _, _, by omega, by omega, by omega, by trivial, by rw [hjd]; go_num, HT2, HO7, HB7⟩
        case measure => simp [intOf]; omega
    ·rw [if_neg h92] at hstep
     have hxb2 : (x == 92) = false := by simpa using h92
     have hraw := raw_any x wr hr.1 hr.2
     by_cases hw : 32 ≤ x ∧ x ≠ 127
     ·rw [if_pos hw] at hstep
      have hrb : rawB x = true := by simp only [rawB, hw, and_self, decide_true, ne_eq, not_false_eq_true]
      rw [hrb] at hraw
      have HT2 : Hid (txtI xs q (i + 1) (ys ++ [x]) = txtI xs q (pos + 1) []) := by show _ = _; rw [← HT.out, hstep]
      clear hstep HC HES HBY HT hw hrb hxq h92; go_wp2_with (first | (go_at_call 62; refine hraw.mono ?_; rintro e w' ⟨rfl, rfl⟩) | (refine app_bytes _ rfl _ _ rfl w.heap.size p5 n5 c5 ys [x] 1 rfl rfl (HO.out.alloc _) ⟨_, 0, none⟩ 1 rfl (one_news _ x) (by omega) (by omega) (by simp; omega) ?_; intro g6 n6 cap6 w6 hown6 hb6 hn6)); have HO6 : Hid (OwnS w6 w.heap.size (some ⟨g6, 0, none⟩) n6 cap6 (ys ++ [x])) := hown6; have HB6 : Hid (Below w.heap.size w w6) := (HB.out.alloc hBw _).trans hb6; have hn6' := hn6.out; clear hown6 hb6 hn6; go_wp2_with fail; go_roundw
      case rel => exact ⟨i + 1, n6, cap6, _, _, by omega, by omega, by omega, by trivial, by go_num, HT2, HO6, HB6⟩
      case measure => simp [intOf]; omega
     ·rw [if_neg hw] at hstep
      have hrb : rawB x = false := by simp only [rawB, decide_eq_false_iff_not]; exact hw
      rw [hrb] at hraw; have HF : Hid (TxtOut w pos (txtI xs q (pos + 1) []) (.returned (.tuple #[.slice none 0 0, .int .i64 0])) wr) := txtOut_of (r := none) ⟨rfl, HB.out⟩ (by rw [← HT.out]; exact hstep); clear hstep HC HES HBY HT hw hrb hxq h92; go_wp2_with (go_at_call 62; refine hraw.mono ?_; rintro e w' ⟨rfl, rfl⟩)
      go_ret2
      exact HF.out
  ·have hge : byteI xs i = -1 := byteI_ge (by have := HN.out; omega)
   rw [hge, if_neg (fun h => HQN.out.1 h.symm), if_neg (by decide), if_neg (by decide)] at hstep; have HF : Hid (TxtOut w pos (txtI xs q (pos + 1) []) (.returned (.tuple #[.slice none 0 0, .int .i64 0])) wr) := txtOut_of (r := none) ⟨rfl, HB.out⟩ (by rw [← HT.out]; exact hstep); clear hstep hge HC HES HBY HT; go_wp2_with fail
   go_ret2
   exact HF.out
def numS (r : TokR) : Int × Nat × Int :=
 match r with
 | .ok (_, len, _, v) => (v, len, 0)
 | .error c => (0, 0, c)
def NumOut (w : World) (r : Int × Nat × Int) (e : Ending) (w' : World) : Prop := e = .returned (.tuple #[.int .i64 r.1, .int .i64 (r.2.1 : Nat), .int .i64 r.2.2]) ∧ Below w.heap.size w w'
def chrS (xs : List Int) (pos : Nat) : Int × Nat × Int :=
 match chrI xs (pos + 2) with
 | none => (0, 0, 2)
 | some (v, q) => if isOfB (byteI xs q) 7 = true then (0, 0, 2) else (v, q - pos, 0)
theorem chrS_none {xs : List Int} {pos : Nat} (h : chrI xs (pos + 2) = none) : chrS xs pos = (0, 0, 2) := by rw [chrS, h]
theorem chrS_some {xs : List Int} {pos q : Nat} {v : Int} (h : chrI xs (pos + 2) = some (v, q)) : chrS xs pos = if isOfB (byteI xs q) 7 = true then (0, 0, 2) else (v, q - pos, 0) := by rw [chrS, h]
theorem of7 {xs : List Int} (hb : Bytes xs) {q : Nat} (h : q < xs.length) : isOfB (byteI xs q) 7 = alnumB (xs.getD q 0) := by
 have := hb.at q; rw [byteI_lt h]; exact (isOf_at this.1 this.2).2.1
theorem of7_end {xs : List Int} {q : Nat} (h : xs.length ≤ q) : isOfB (byteI xs q) 7 = false := by rw [byteI_ge h]; exact isOf_lo (by decide)
set_option maxHeartbeats 6000000 in
theorem charS_any (b cap pos : Nat) (xs : List Int) (w : World) (hb : Bytes xs) (hn : xs.length ≤ 10000) (hp : pos < xs.length) (hc : ∀ m, m < xs.length → w.cell? ⟨b, m, none⟩ = some (.int .u8 (xs.getD m 0))) :
 Calls Tryz.prog 59 #[.slice (some ⟨b, 0, none⟩) xs.length cap, .int .i64 pos] w (NumOut w (chrS xs pos)) := by
 obtain ⟨n, en⟩ : ∃ n, n = xs.length := ⟨_, rfl⟩
 rw [← en] at hn hp ⊢; have HN : Hid (n = xs.length) := en
 have HC : Hid (∀ (W : World), Below w.heap.size w W → ∀ m, m < n → W.cell? ⟨b, m, none⟩ = some (.int .u8 (xs.getD m 0))) := fun W hW m hm => (hW.cell (World.block_lt_of_cell? _ _ (hc m (by omega)))).trans (hc m (by omega))
 have HES : Calls Tryz.prog 61 #[.slice (some ⟨b, 0, none⟩) n cap, .int .i64 ((pos : Int) + 3)] w (EscOut w (escS xs (pos + 2))) := by
  have := escapeS_any b cap (pos + 2) xs w hb (by omega) (by omega) hc; rw [← en, show ((pos + 2 + 1 : Nat) : Int) = (pos : Int) + 3 by omega] at this; exact this
 have HBY : Hid (Bytes xs) := hb; have hchr : chrI xs (pos + 2) = chrF (byteI xs (pos + 2)) (byteI xs (pos + 3)) xs (pos + 2) := rfl
 have HBAD : Hid (chrI xs (pos + 2) = none → ∀ W, Below w.heap.size w W → NumOut w (chrS xs pos) (.returned (.tuple #[.int .i64 0, .int .i64 0, .int .i64 2])) W) := fun h W hW => ⟨by rw [chrS_none h]; rfl, hW⟩
 have HBD2 : Hid (∀ (v : Int) (q : Nat), chrI xs (pos + 2) = some (v, q) → isOfB (byteI xs q) 7 = true → ∀ W, Below w.heap.size w W → NumOut w (chrS xs pos) (.returned (.tuple #[.int .i64 0, .int .i64 0, .int .i64 2])) W) := fun v q h h7 W hW => ⟨by rw [chrS_some h, if_pos h7]; rfl, hW⟩
 have HOK : Hid (∀ (v : Int) (k : Nat), chrI xs (pos + 2) = some (v, pos + k) → isOfB (byteI xs (pos + k)) 7 = false → ∀ W, Below w.heap.size w W → NumOut w (chrS xs pos) (.returned (.tuple #[.int .i64 v, .int .i64 (k : Nat), .int .i64 0])) W) := fun v k h h7 W hW => ⟨by rw [chrS_some h, if_neg (by rw [h7]; simp), show pos + k - pos = k by omega], hW⟩
 clear hb hc en
 by_cases h2 : pos + 2 < n
 ·have hx := HC.out w (Below.refl _ _) (pos + 2) h2
  have hrx := HBY.out.at (pos + 2); have hbx : byteI xs (pos + 2) = xs.getD (pos + 2) 0 := byteI_lt (by rw [← HN.out]; exact h2)
  obtain ⟨x, ex⟩ : ∃ x, x = xs.getD (pos + 2) 0 := ⟨_, rfl⟩
  rw [← ex] at hx hrx hbx; rw [hbx] at hchr; clear ex hbx
  have h2I : (pos : Int) + 2 < n := by omega
  have NONE : Hid (chrI xs (pos + 2) = none → (∀ W, Below w.heap.size w W → NumOut w (chrS xs pos) (.returned (.tuple #[.int .i64 0, .int .i64 0, .int .i64 2])) W)) := HBAD.out
  by_cases h39 : x = 39
  ·subst h39
   by_cases h3 : pos + 3 < n
   ·have hy := HC.out w (Below.refl _ _) (pos + 3) h3
    have hby : byteI xs (pos + 3) = xs.getD (pos + 3) 0 := byteI_lt (by rw [← HN.out]; exact h3)
    obtain ⟨y, ey⟩ : ∃ y, y = xs.getD (pos + 3) 0 := ⟨_, rfl⟩
    rw [← ey] at hy hby; rw [hby] at hchr; clear ey hby
    have h3I : (pos : Int) + 3 < n := by omega
    by_cases hy39 : y = 39
    ·subst hy39
     have HCH : Hid (chrI xs (pos + 2) = some (39, pos + 4)) := by show _ = _; rw [hchr]; simp [chrF]
     clear hchr NONE HES
     by_cases hend : pos + 4 < n
     ·have hz := HC.out w (Below.refl _ _) (pos + 4) hend
      have hrz := HBY.out.at (pos + 4); have h7 := of7 HBY.out (q := pos + 4) (by rw [← HN.out]; exact hend)
      obtain ⟨z, ez⟩ : ∃ z, z = xs.getD (pos + 4) 0 := ⟨_, rfl⟩
      rw [← ez] at hz hrz h7
      have hendI : (pos : Int) + 4 < n := by omega
      have HAL := fun W => alnum_any z W hrz.1 hrz.2
      clear ez
      cases hal : alnumB z with
      | true =>
        have HF : Hid (∀ W, Below w.heap.size w W → NumOut w (chrS xs pos) (.returned (.tuple #[.int .i64 0, .int .i64 0, .int .i64 2])) W) := HBD2.out 39 (pos + 4) HCH.out (by rw [h7]; exact hal); rw [hal] at HAL; clear h7 HC HBY HBAD HBD2 HOK hal
        go_enter Tryz.func59, Tryz.ntmps59
        go_wp2_with (go_at_call 33; refine (HAL _).mono ?_; rintro e w' ⟨rfl, rfl⟩)
        go_ret3
        exact HF.out _ (Below.refl _ _)
      | false =>
        have HF : Hid (∀ W, Below w.heap.size w W → NumOut w (chrS xs pos) (.returned (.tuple #[.int .i64 39, .int .i64 ((4 : Nat) : Int), .int .i64 0])) W) := HOK.out 39 (4) HCH.out (by rw [h7]; exact hal); rw [hal] at HAL; clear h7 HC HBY HBAD HBD2 HOK hal
        go_enter Tryz.func59, Tryz.ntmps59
        go_wp2_with (go_at_call 33; refine (HAL _).mono ?_; rintro e w' ⟨rfl, rfl⟩)
        go_ret3
        exact HF.out _ (Below.refl _ _)
     ·have hendI : ¬ (pos : Int) + 4 < n := by omega
      have HF : Hid (∀ W, Below w.heap.size w W → NumOut w (chrS xs pos) (.returned (.tuple #[.int .i64 39, .int .i64 ((4 : Nat) : Int), .int .i64 0])) W) := HOK.out 39 (4) HCH.out (of7_end (by rw [← HN.out]; omega)); clear HC HBY HBAD HBD2 HOK
      go_enter Tryz.func59, Tryz.ntmps59
      go_wp2_with fail
      go_ret3
      exact HF.out _ (Below.refl _ _)
    ·have hyb : (y == 39) = false := by simpa using hy39
     have HF : Hid (∀ W, Below w.heap.size w W → NumOut w (chrS xs pos) (.returned (.tuple #[.int .i64 0, .int .i64 0, .int .i64 2])) W) := NONE.out (by rw [hchr]; simp [chrF, hy39]); clear hchr NONE HES HC HBY HBAD HBD2 HOK hy39
     go_enter Tryz.func59, Tryz.ntmps59
     go_wp2_with fail
     go_ret3
     exact HF.out _ (Below.refl _ _)
   ·have h3I : ¬ (pos : Int) + 3 < n := by omega
    have HF : Hid (∀ W, Below w.heap.size w W → NumOut w (chrS xs pos) (.returned (.tuple #[.int .i64 0, .int .i64 0, .int .i64 2])) W) := NONE.out (by rw [hchr, byteI_ge (by rw [← HN.out]; omega)]; simp [chrF]); clear hchr NONE HES HC HBY HBAD HBD2 HOK
    go_enter Tryz.func59, Tryz.ntmps59
    go_wp2_with fail
    go_ret3
    exact HF.out _ (Below.refl _ _)
  ·have hxb : (x == 39) = false := by simpa using h39
   have hxn : (x != 39) = true := by simpa using h39
   have HAFT : Hid (∀ c : Bool, c = decide ((pos : Int) + 3 < n) → True) := fun _ _ => trivial
   by_cases h92 : x = 92
   ·subst h92
    have hchr2 : chrI xs (pos + 2) = escI xs (pos + 2) := by rw [hchr]; simp [chrF]
    clear hchr
    by_cases h3I : (pos : Int) + 3 < n
    ·skip
     by_cases h10 : byteI xs (pos + 3) = 10
     ·have hr0 : escS xs (pos + 2) = ([], 1) := by rw [escS, if_pos h10]
      have HF : Hid (∀ W, Below w.heap.size w W → NumOut w (chrS xs pos) (.returned (.tuple #[.int .i64 0, .int .i64 0, .int .i64 2])) W) := NONE.out (by rw [hchr2, escI, h10]; simp [escF]); rw [hr0] at HES; clear hchr2 NONE HC HBY HBAD HBD2 HOK hr0 h10
      go_enter Tryz.func59, Tryz.ntmps59
      go_wp2_with fail; refine HES.mono ?_; rintro e w5 ⟨p6, n6, c6, rfl, ho6, hb6⟩; obtain rfl : n6 = 0 := ho6.1; have HB5 : Hid (Below w.heap.size w w5) := hb6; clear HES ho6 hb6; go_wp2_with fail
      go_ret3
      exact HF.out _ HB5.out
     ·cases he : escI xs (pos + 2) with
      | none =>
        have hr0 : escS xs (pos + 2) = ([], 0) := by rw [escS, if_neg h10, he]
        have HF : Hid (∀ W, Below w.heap.size w W → NumOut w (chrS xs pos) (.returned (.tuple #[.int .i64 0, .int .i64 0, .int .i64 2])) W) := NONE.out (by rw [hchr2, he]); rw [hr0] at HES; clear hchr2 NONE HC HBY HBAD HBD2 HOK hr0 h10 he
        go_enter Tryz.func59, Tryz.ntmps59
        go_wp2_with fail; refine HES.mono ?_; rintro e w5 ⟨p6, n6, c6, rfl, ho6, hb6⟩; obtain rfl : n6 = 0 := ho6.1; have HB5 : Hid (Below w.heap.size w w5) := hb6; clear HES ho6 hb6; go_wp2_with fail
        go_ret3
        exact HF.out _ HB5.out
      | some r =>
        obtain ⟨v, j⟩ := r; have hrg := escI_rng he; have hvb := escI_byte he
        have hr0 : escS xs (pos + 2) = ([v], j - (pos + 3)) := by rw [escS, if_neg h10, he]
        obtain ⟨d, ed⟩ : ∃ d, d = j - (pos + 3) := ⟨_, rfl⟩
        rw [hr0, ← ed] at HES
        have HCH : Hid (chrI xs (pos + 2) = some (v, pos + (3 + d))) := by show _ = _; rw [hchr2, he, show pos + (3 + d) = j by omega]
        have hd1 : 1 ≤ d := by omega
        have hd2 : d ≤ 11000 := by have := HN.out; omega
        have hd0 : ¬ (3 + (d : Int) = 0) := by omega
        have hd0' : (3 + (d : Int) == 0) = false := by simp; omega
        clear hchr2 NONE hr0 h10 he hrg ed
        go_enter Tryz.func59, Tryz.ntmps59
        go_wp2_with fail; refine HES.mono ?_; rintro e w5 ⟨p6, n6, c6, rfl, ho6, hb6⟩; have hn61 : n6 = 1 := ho6.1; subst hn61
        rcases ho6.form with ⟨_, h9, _⟩ | ⟨g6, rfl, hB6, hl6⟩
        ·omega
        have hv0 := ho6.row.2 0 (by simp); have HB5 : Hid (Below w.heap.size w w5) := hb6; have hv1 : w5.cell? ⟨g6, 0, none⟩ = some (.int .u8 v) := hv0; clear HES ho6 hb6 hv0
        by_cases hend : pos + (3 + d) < n
        ·have hz := HC.out w5 HB5.out (pos + (3 + d)) hend
         have hrz := HBY.out.at (pos + (3 + d)); have h7 := of7 HBY.out (q := pos + (3 + d)) (by rw [← HN.out]; exact hend)
         obtain ⟨z, ez⟩ : ∃ z, z = xs.getD (pos + (3 + d)) 0 := ⟨_, rfl⟩
         rw [← ez] at hz hrz h7
         have hendI : (pos : Int) + (3 + d) < n := by omega
         have HAL := fun W => alnum_any z W hrz.1 hrz.2
         clear ez
         cases hal : alnumB z with
         | true =>
           have HF : Hid (∀ W, Below w.heap.size w W → NumOut w (chrS xs pos) (.returned (.tuple #[.int .i64 0, .int .i64 0, .int .i64 2])) W) := HBD2.out v (pos + (3 + d)) HCH.out (by rw [h7]; exact hal); rw [hal] at HAL; clear h7 HC HBY HBAD HBD2 HOK hal; go_wp2_with (go_at_call 33; refine (HAL _).mono ?_; rintro e w' ⟨rfl, rfl⟩)
           go_ret3
           exact HF.out _ HB5.out
         | false =>
           have HF : Hid (∀ W, Below w.heap.size w W → NumOut w (chrS xs pos) (.returned (.tuple #[.int .i64 v, .int .i64 (((3 + d) : Nat) : Int), .int .i64 0])) W) := HOK.out v ((3 + d)) HCH.out (by rw [h7]; exact hal); rw [hal] at HAL; clear h7 HC HBY HBAD HBD2 HOK hal; go_wp2_with (go_at_call 33; refine (HAL _).mono ?_; rintro e w' ⟨rfl, rfl⟩)
           go_ret3
           exact HF.out _ HB5.out
        ·have hendI : ¬ (pos : Int) + (3 + d) < n := by omega
         have HF : Hid (∀ W, Below w.heap.size w W → NumOut w (chrS xs pos) (.returned (.tuple #[.int .i64 v, .int .i64 (((3 + d) : Nat) : Int), .int .i64 0])) W) := HOK.out v ((3 + d)) HCH.out (of7_end (by rw [← HN.out]; omega)); clear HC HBY HBAD HBD2 HOK; go_wp2_with fail
         go_ret3
         exact HF.out _ HB5.out
    ·skip
     by_cases h10 : byteI xs (pos + 3) = 10
     ·have hr0 : escS xs (pos + 2) = ([], 1) := by rw [escS, if_pos h10]
      have HF : Hid (∀ W, Below w.heap.size w W → NumOut w (chrS xs pos) (.returned (.tuple #[.int .i64 0, .int .i64 0, .int .i64 2])) W) := NONE.out (by rw [hchr2, escI, h10]; simp [escF]); rw [hr0] at HES; clear hchr2 NONE HC HBY HBAD HBD2 HOK hr0 h10
      go_enter Tryz.func59, Tryz.ntmps59
      go_wp2_with fail; refine HES.mono ?_; rintro e w5 ⟨p6, n6, c6, rfl, ho6, hb6⟩; obtain rfl : n6 = 0 := ho6.1; have HB5 : Hid (Below w.heap.size w w5) := hb6; clear HES ho6 hb6; go_wp2_with fail
      go_ret3
      exact HF.out _ HB5.out
     ·cases he : escI xs (pos + 2) with
      | none =>
        have hr0 : escS xs (pos + 2) = ([], 0) := by rw [escS, if_neg h10, he]
        have HF : Hid (∀ W, Below w.heap.size w W → NumOut w (chrS xs pos) (.returned (.tuple #[.int .i64 0, .int .i64 0, .int .i64 2])) W) := NONE.out (by rw [hchr2, he]); rw [hr0] at HES; clear hchr2 NONE HC HBY HBAD HBD2 HOK hr0 h10 he
        go_enter Tryz.func59, Tryz.ntmps59
        go_wp2_with fail; refine HES.mono ?_; rintro e w5 ⟨p6, n6, c6, rfl, ho6, hb6⟩; obtain rfl : n6 = 0 := ho6.1; have HB5 : Hid (Below w.heap.size w w5) := hb6; clear HES ho6 hb6; go_wp2_with fail
        go_ret3
        exact HF.out _ HB5.out
      | some r =>
        obtain ⟨v, j⟩ := r; have hrg := escI_rng he; have hvb := escI_byte he
        have hr0 : escS xs (pos + 2) = ([v], j - (pos + 3)) := by rw [escS, if_neg h10, he]
        obtain ⟨d, ed⟩ : ∃ d, d = j - (pos + 3) := ⟨_, rfl⟩
        rw [hr0, ← ed] at HES
        have HCH : Hid (chrI xs (pos + 2) = some (v, pos + (3 + d))) := by show _ = _; rw [hchr2, he, show pos + (3 + d) = j by omega]
        have hd1 : 1 ≤ d := by omega
        have hd2 : d ≤ 11000 := by have := HN.out; omega
        have hd0 : ¬ (3 + (d : Int) = 0) := by omega
        have hd0' : (3 + (d : Int) == 0) = false := by simp; omega
        clear hchr2 NONE hr0 h10 he hrg ed
        go_enter Tryz.func59, Tryz.ntmps59
        go_wp2_with fail; refine HES.mono ?_; rintro e w5 ⟨p6, n6, c6, rfl, ho6, hb6⟩; have hn61 : n6 = 1 := ho6.1; subst hn61
        rcases ho6.form with ⟨_, h9, _⟩ | ⟨g6, rfl, hB6, hl6⟩
        ·omega
        have hv0 := ho6.row.2 0 (by simp); have HB5 : Hid (Below w.heap.size w w5) := hb6; have hv1 : w5.cell? ⟨g6, 0, none⟩ = some (.int .u8 v) := hv0; clear HES ho6 hb6 hv0
        by_cases hend : pos + (3 + d) < n
        ·have hz := HC.out w5 HB5.out (pos + (3 + d)) hend
         have hrz := HBY.out.at (pos + (3 + d)); have h7 := of7 HBY.out (q := pos + (3 + d)) (by rw [← HN.out]; exact hend)
         obtain ⟨z, ez⟩ : ∃ z, z = xs.getD (pos + (3 + d)) 0 := ⟨_, rfl⟩
         rw [← ez] at hz hrz h7
         have hendI : (pos : Int) + (3 + d) < n := by omega
         have HAL := fun W => alnum_any z W hrz.1 hrz.2
         clear ez
         cases hal : alnumB z with
         | true =>
           have HF : Hid (∀ W, Below w.heap.size w W → NumOut w (chrS xs pos) (.returned (.tuple #[.int .i64 0, .int .i64 0, .int .i64 2])) W) := HBD2.out v (pos + (3 + d)) HCH.out (by rw [h7]; exact hal); rw [hal] at HAL; clear h7 HC HBY HBAD HBD2 HOK hal; go_wp2_with (go_at_call 33; refine (HAL _).mono ?_; rintro e w' ⟨rfl, rfl⟩)
           go_ret3
           exact HF.out _ HB5.out
         | false =>
           have HF : Hid (∀ W, Below w.heap.size w W → NumOut w (chrS xs pos) (.returned (.tuple #[.int .i64 v, .int .i64 (((3 + d) : Nat) : Int), .int .i64 0])) W) := HOK.out v ((3 + d)) HCH.out (by rw [h7]; exact hal); rw [hal] at HAL; clear h7 HC HBY HBAD HBD2 HOK hal; go_wp2_with (go_at_call 33; refine (HAL _).mono ?_; rintro e w' ⟨rfl, rfl⟩)
           go_ret3
           exact HF.out _ HB5.out
        ·have hendI : ¬ (pos : Int) + (3 + d) < n := by omega
         have HF : Hid (∀ W, Below w.heap.size w W → NumOut w (chrS xs pos) (.returned (.tuple #[.int .i64 v, .int .i64 (((3 + d) : Nat) : Int), .int .i64 0])) W) := HOK.out v ((3 + d)) HCH.out (of7_end (by rw [← HN.out]; omega)); clear HC HBY HBAD HBD2 HOK; go_wp2_with fail
         go_ret3
         exact HF.out _ HB5.out
   ·have hxb2 : (x == 92) = false := by simpa using h92
    have HRAW := fun W => raw_any x W hrx.1 hrx.2
    by_cases hw : 32 ≤ x ∧ x ≠ 127
    ·have hrb : rawB x = true := by simp only [rawB, hw, and_self, decide_true, ne_eq, not_false_eq_true]
     rw [hrb] at HRAW
     have HCH : Hid (chrI xs (pos + 2) = some (x, pos + 3)) := by show _ = _; rw [hchr]; simp [chrF, h39, h92, hw]
     clear hchr NONE HES hw hrb h39 h92
     by_cases hend : pos + 3 < n
     ·have hz := HC.out w (Below.refl _ _) (pos + 3) hend
      have hrz := HBY.out.at (pos + 3); have h7 := of7 HBY.out (q := pos + 3) (by rw [← HN.out]; exact hend)
      obtain ⟨z, ez⟩ : ∃ z, z = xs.getD (pos + 3) 0 := ⟨_, rfl⟩
      rw [← ez] at hz hrz h7
      have hendI : (pos : Int) + 3 < n := by omega
      have HAL := fun W => alnum_any z W hrz.1 hrz.2
      clear ez
      cases hal : alnumB z with
      | true =>
        have HF : Hid (∀ W, Below w.heap.size w W → NumOut w (chrS xs pos) (.returned (.tuple #[.int .i64 0, .int .i64 0, .int .i64 2])) W) := HBD2.out x (pos + 3) HCH.out (by rw [h7]; exact hal); rw [hal] at HAL; clear h7 HC HBY HBAD HBD2 HOK hal
        go_enter Tryz.func59, Tryz.ntmps59
        go_wp2_with (first | (go_at_call 33; refine (HAL _).mono ?_; rintro e w' ⟨rfl, rfl⟩) | (go_at_call 62; refine (HRAW _).mono ?_; rintro e w' ⟨rfl, rfl⟩))
        go_ret3
        exact HF.out _ (Below.refl _ _)
      | false =>
        have HF : Hid (∀ W, Below w.heap.size w W → NumOut w (chrS xs pos) (.returned (.tuple #[.int .i64 x, .int .i64 ((3 : Nat) : Int), .int .i64 0])) W) := HOK.out x (3) HCH.out (by rw [h7]; exact hal); rw [hal] at HAL; clear h7 HC HBY HBAD HBD2 HOK hal
        go_enter Tryz.func59, Tryz.ntmps59
        go_wp2_with (first | (go_at_call 33; refine (HAL _).mono ?_; rintro e w' ⟨rfl, rfl⟩) | (go_at_call 62; refine (HRAW _).mono ?_; rintro e w' ⟨rfl, rfl⟩))
        go_ret3
        exact HF.out _ (Below.refl _ _)
     ·have hendI : ¬ (pos : Int) + 3 < n := by omega
      have HF : Hid (∀ W, Below w.heap.size w W → NumOut w (chrS xs pos) (.returned (.tuple #[.int .i64 x, .int .i64 ((3 : Nat) : Int), .int .i64 0])) W) := HOK.out x (3) HCH.out (of7_end (by rw [← HN.out]; omega)); clear HC HBY HBAD HBD2 HOK
      go_enter Tryz.func59, Tryz.ntmps59
      go_wp2_with (first | fail | (go_at_call 62; refine (HRAW _).mono ?_; rintro e w' ⟨rfl, rfl⟩))
      go_ret3
      exact HF.out _ (Below.refl _ _)
    ·have hrb : rawB x = false := by simp only [rawB, decide_eq_false_iff_not]; exact hw
     rw [hrb] at HRAW; have HF : Hid (∀ W, Below w.heap.size w W → NumOut w (chrS xs pos) (.returned (.tuple #[.int .i64 0, .int .i64 0, .int .i64 2])) W) := NONE.out (by rw [hchr]; simp only [chrF, h39, h92, false_and, if_false, hw, not_false_eq_true, or_true, if_true]); clear hchr NONE HES HC HBY HBAD HBD2 HOK hw hrb h39 h92
     by_cases h3I : (pos : Int) + 3 < n
     ·go_enter Tryz.func59, Tryz.ntmps59
      go_wp2_with (go_at_call 62; refine (HRAW _).mono ?_; rintro e w' ⟨rfl, rfl⟩)
      go_ret3
      exact HF.out _ (Below.refl _ _)
     ·go_enter Tryz.func59, Tryz.ntmps59
      go_wp2_with (go_at_call 62; refine (HRAW _).mono ?_; rintro e w' ⟨rfl, rfl⟩)
      go_ret3
      exact HF.out _ (Below.refl _ _)
 ·have h2I : ¬ (pos : Int) + 2 < n := by omega
  have h3I : ¬ (pos : Int) + 3 < n := by omega
  have HF : Hid (∀ W, Below w.heap.size w W → NumOut w (chrS xs pos) (.returned (.tuple #[.int .i64 0, .int .i64 0, .int .i64 2])) W) := HBAD.out (by rw [hchr, byteI_ge (by rw [← HN.out]; omega)]; simp [chrF]); clear hchr HES HC HBY HBAD HBD2 HOK
  go_enter Tryz.func59, Tryz.ntmps59
  go_wp2_with fail
  go_ret3
  exact HF.out _ (Below.refl _ _)
end Go.Proofs.YtfgmenkoeflhaaaGreatDoor
