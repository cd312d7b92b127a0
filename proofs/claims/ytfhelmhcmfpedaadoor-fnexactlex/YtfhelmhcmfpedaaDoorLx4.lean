/- Lex of the specification: l1char. Own work of the verifier. -/
import Derived.Test.YtfhelmhcmfpedaaDoorLx3
namespace Go.Proofs.YtfhelmhcmfpedaaDoor
open Go Go.RowKit
set_option linter.unusedVariables false

def numS (r : TokR) : Int × Nat × Int :=
  match r with
  | .ok (_, len, _, v) => (v, len, 0)
  | .error c => (0, 0, c)
def NumOut (w : World) (r : Int × Nat × Int) (e : Ending) (w' : World) : Prop := e = .returned (.tuple #[.int .i64 r.1, .int .i64 (r.2.1 : Nat), .int .i64 r.2.2]) ∧ Below w.heap.size w w'
def chrS (xs : List Int) (pos : Nat) : Int × Nat × Int :=
  match chrI xs (pos + 2) with
  | none => (0, 0, 2)
  | some (v, q) => if isOfB (byteI xs q) 7 = true then (0, 0, 2) else (v, q - pos, 0)
theorem chrS_none {xs : List Int} {pos : Nat} (h : chrI xs (pos + 2) = none) : chrS xs pos = (0, 0, 2) := by rw [chrS, h]
theorem chrS_some {xs : List Int} {pos q : Nat} {v : Int} (h : chrI xs (pos + 2) = some (v, q)) : chrS xs pos = if isOfB (byteI xs q) 7 = true then (0, 0, 2) else (v, q - pos, 0) := by rw [chrS, h]
theorem of7 {xs : List Int} (hb : Bytes xs) {q : Nat} (h : q < xs.length) : isOfB (byteI xs q) 7 = alnumB (xs.getD q 0) := by
  have := hb.at q
  rw [byteI_lt h]; exact (isOf_at this.1 this.2).2.1
theorem of7_end {xs : List Int} {q : Nat} (h : xs.length ≤ q) : isOfB (byteI xs q) 7 = false := by rw [byteI_ge h]; exact isOf_lo (by decide)

set_option maxRecDepth 100000 in
set_option maxHeartbeats 6000000 in
theorem charS_any (b cap pos : Nat) (xs : List Int) (w : World) (hb : Bytes xs) (hn : xs.length ≤ 10000) (hp : pos < xs.length) (hc : ∀ m, m < xs.length → w.cell? ⟨b, m, none⟩ = some (.int .u8 (xs.getD m 0))) :
    Calls Tryd.prog 44 #[.slice (some ⟨b, 0, none⟩) xs.length cap, .int .i64 pos] w (NumOut w (chrS xs pos)) := by
  obtain ⟨n, en⟩ : ∃ n, n = xs.length := ⟨_, rfl⟩
  rw [← en] at hn hp ⊢
  have HN : Hid (n = xs.length) := en
  have HC : Hid (∀ (W : World), Below w.heap.size w W → ∀ m, m < n → W.cell? ⟨b, m, none⟩ = some (.int .u8 (xs.getD m 0))) := fun W hW m hm => (hW.cell (World.block_lt_of_cell? _ _ (hc m (by omega)))).trans (hc m (by omega))
  have HES : Calls Tryd.prog 46 #[.slice (some ⟨b, 0, none⟩) n cap, .int .i64 ((pos : Int) + 3)] w (EscOut w (escS xs (pos + 2))) := by
    have := escapeS_any b cap (pos + 2) xs w hb (by omega) (by omega) hc
    rw [← en, show ((pos + 2 + 1 : Nat) : Int) = (pos : Int) + 3 by omega] at this
    exact this
  have HBY : Hid (Bytes xs) := hb
  have hchr : chrI xs (pos + 2) = chrF (byteI xs (pos + 2)) (byteI xs (pos + 3)) xs (pos + 2) := rfl
  have HBAD : Hid (chrI xs (pos + 2) = none → ∀ W, Below w.heap.size w W → NumOut w (chrS xs pos) (.returned (.tuple #[.int .i64 0, .int .i64 0, .int .i64 2])) W) := fun h W hW => ⟨by rw [chrS_none h]; rfl, hW⟩
  have HBD2 : Hid (∀ (v : Int) (q : Nat), chrI xs (pos + 2) = some (v, q) → isOfB (byteI xs q) 7 = true → ∀ W, Below w.heap.size w W → NumOut w (chrS xs pos) (.returned (.tuple #[.int .i64 0, .int .i64 0, .int .i64 2])) W) := fun v q h h7 W hW => ⟨by rw [chrS_some h, if_pos h7]; rfl, hW⟩
  have HOK : Hid (∀ (v : Int) (k : Nat), chrI xs (pos + 2) = some (v, pos + k) → isOfB (byteI xs (pos + k)) 7 = false → ∀ W, Below w.heap.size w W → NumOut w (chrS xs pos) (.returned (.tuple #[.int .i64 v, .int .i64 (k : Nat), .int .i64 0])) W) := fun v k h h7 W hW => ⟨by rw [chrS_some h, if_neg (by rw [h7]; simp), show pos + k - pos = k by omega], hW⟩
  clear hb hc en
  by_cases h2 : pos + 2 < n
  · have hx := HC.out w (Below.refl _ _) (pos + 2) h2
    have hrx := HBY.out.at (pos + 2)
    have hbx : byteI xs (pos + 2) = xs.getD (pos + 2) 0 := byteI_lt (by rw [← HN.out]; exact h2)
    obtain ⟨x, ex⟩ : ∃ x, x = xs.getD (pos + 2) 0 := ⟨_, rfl⟩
    rw [← ex] at hx hrx hbx
    rw [hbx] at hchr
    clear ex hbx
    have h2I : (pos : Int) + 2 < n := by omega
    have NONE : Hid (chrI xs (pos + 2) = none → (∀ W, Below w.heap.size w W → NumOut w (chrS xs pos) (.returned (.tuple #[.int .i64 0, .int .i64 0, .int .i64 2])) W)) := HBAD.out
    by_cases h39 : x = 39
    · subst h39
      by_cases h3 : pos + 3 < n
      · have hy := HC.out w (Below.refl _ _) (pos + 3) h3
        have hby : byteI xs (pos + 3) = xs.getD (pos + 3) 0 := byteI_lt (by rw [← HN.out]; exact h3)
        obtain ⟨y, ey⟩ : ∃ y, y = xs.getD (pos + 3) 0 := ⟨_, rfl⟩
        rw [← ey] at hy hby
        rw [hby] at hchr
        clear ey hby
        have h3I : (pos : Int) + 3 < n := by omega
        by_cases hy39 : y = 39
        · subst hy39
          have HCH : Hid (chrI xs (pos + 2) = some (39, pos + 4)) := by show _ = _; rw [hchr]; simp [chrF]
          clear hchr NONE HES
          by_cases hend : pos + 4 < n
          · have hz := HC.out w (Below.refl _ _) (pos + 4) hend
            have hrz := HBY.out.at (pos + 4)
            have h7 := of7 HBY.out (q := pos + 4) (by rw [← HN.out]; exact hend)
            obtain ⟨z, ez⟩ : ∃ z, z = xs.getD (pos + 4) 0 := ⟨_, rfl⟩
            rw [← ez] at hz hrz h7
            have hendI : (pos : Int) + 4 < n := by omega
            have HAL := fun W => alnum_any z W hrz.1 hrz.2
            clear ez
            cases hal : alnumB z with
            | true =>
              have HF : Hid (∀ W, Below w.heap.size w W → NumOut w (chrS xs pos) (.returned (.tuple #[.int .i64 0, .int .i64 0, .int .i64 2])) W) := HBD2.out 39 (pos + 4) HCH.out (by rw [h7]; exact hal)
              rw [hal] at HAL
              clear h7 HC HBY HBAD HBD2 HOK hal
              go_enter Tryd.func44, Tryd.ntmps44
              go_wp2_with (go_at_call 35; refine (HAL _).mono ?_; rintro e w' ⟨rfl, rfl⟩)
              go_ret3
              exact HF.out _ (Below.refl _ _)
            | false =>
              have HF : Hid (∀ W, Below w.heap.size w W → NumOut w (chrS xs pos) (.returned (.tuple #[.int .i64 39, .int .i64 ((4 : Nat) : Int), .int .i64 0])) W) := HOK.out 39 (4) HCH.out (by rw [h7]; exact hal)
              rw [hal] at HAL
              clear h7 HC HBY HBAD HBD2 HOK hal
              go_enter Tryd.func44, Tryd.ntmps44
              go_wp2_with (go_at_call 35; refine (HAL _).mono ?_; rintro e w' ⟨rfl, rfl⟩)
              go_ret3
              exact HF.out _ (Below.refl _ _)
          · have hendI : ¬ (pos : Int) + 4 < n := by omega
            have HF : Hid (∀ W, Below w.heap.size w W → NumOut w (chrS xs pos) (.returned (.tuple #[.int .i64 39, .int .i64 ((4 : Nat) : Int), .int .i64 0])) W) := HOK.out 39 (4) HCH.out (of7_end (by rw [← HN.out]; omega))
            clear HC HBY HBAD HBD2 HOK
            go_enter Tryd.func44, Tryd.ntmps44
            go_wp2_with fail
            go_ret3
            exact HF.out _ (Below.refl _ _)
        · have hyb : (y == 39) = false := by simpa using hy39
          have HF : Hid (∀ W, Below w.heap.size w W → NumOut w (chrS xs pos) (.returned (.tuple #[.int .i64 0, .int .i64 0, .int .i64 2])) W) := NONE.out (by rw [hchr]; simp [chrF, hy39])
          clear hchr NONE HES HC HBY HBAD HBD2 HOK hy39
          go_enter Tryd.func44, Tryd.ntmps44
          go_wp2_with fail
          go_ret3
          exact HF.out _ (Below.refl _ _)
      · have h3I : ¬ (pos : Int) + 3 < n := by omega
        have HF : Hid (∀ W, Below w.heap.size w W → NumOut w (chrS xs pos) (.returned (.tuple #[.int .i64 0, .int .i64 0, .int .i64 2])) W) := NONE.out (by rw [hchr, byteI_ge (by rw [← HN.out]; omega)]; simp [chrF])
        clear hchr NONE HES HC HBY HBAD HBD2 HOK
        go_enter Tryd.func44, Tryd.ntmps44
        go_wp2_with fail
        go_ret3
        exact HF.out _ (Below.refl _ _)
    · have hxb : (x == 39) = false := by simpa using h39
      have hxn : (x != 39) = true := by simpa using h39
      have HAFT : Hid (∀ c : Bool, c = decide ((pos : Int) + 3 < n) → True) := fun _ _ => trivial
      by_cases h92 : x = 92
      · subst h92
        have hchr2 : chrI xs (pos + 2) = escI xs (pos + 2) := by rw [hchr]; simp [chrF]
        clear hchr
        by_cases h3I : (pos : Int) + 3 < n
        · skip
          by_cases h10 : byteI xs (pos + 3) = 10
          · have hr0 : escS xs (pos + 2) = ([], 1) := by rw [escS, if_pos h10]
            have HF : Hid (∀ W, Below w.heap.size w W → NumOut w (chrS xs pos) (.returned (.tuple #[.int .i64 0, .int .i64 0, .int .i64 2])) W) := NONE.out (by rw [hchr2, escI, h10]; simp [escF])
            rw [hr0] at HES
            clear hchr2 NONE HC HBY HBAD HBD2 HOK hr0 h10
            go_enter Tryd.func44, Tryd.ntmps44
            go_wp2_with fail
            refine HES.mono ?_
            rintro e w5 ⟨p6, n6, c6, rfl, ho6, hb6⟩
            obtain rfl : n6 = 0 := ho6.1
            have HB5 : Hid (Below w.heap.size w w5) := hb6
            clear HES ho6 hb6
            go_wp2_with fail
            go_ret3
            exact HF.out _ HB5.out
          · cases he : escI xs (pos + 2) with
            | none =>
              have hr0 : escS xs (pos + 2) = ([], 0) := by rw [escS, if_neg h10, he]
              have HF : Hid (∀ W, Below w.heap.size w W → NumOut w (chrS xs pos) (.returned (.tuple #[.int .i64 0, .int .i64 0, .int .i64 2])) W) := NONE.out (by rw [hchr2, he])
              rw [hr0] at HES
              clear hchr2 NONE HC HBY HBAD HBD2 HOK hr0 h10 he
              go_enter Tryd.func44, Tryd.ntmps44
              go_wp2_with fail
              refine HES.mono ?_
              rintro e w5 ⟨p6, n6, c6, rfl, ho6, hb6⟩
              obtain rfl : n6 = 0 := ho6.1
              have HB5 : Hid (Below w.heap.size w w5) := hb6
              clear HES ho6 hb6
              go_wp2_with fail
              go_ret3
              exact HF.out _ HB5.out
            | some r =>
              obtain ⟨v, j⟩ := r
              have hrg := escI_rng he
              have hvb := escI_byte he
              have hr0 : escS xs (pos + 2) = ([v], j - (pos + 3)) := by rw [escS, if_neg h10, he]
              obtain ⟨d, ed⟩ : ∃ d, d = j - (pos + 3) := ⟨_, rfl⟩
              rw [hr0, ← ed] at HES
              have HCH : Hid (chrI xs (pos + 2) = some (v, pos + (3 + d))) := by show _ = _; rw [hchr2, he, show pos + (3 + d) = j by omega]
              have hd1 : 1 ≤ d := by omega
              have hd2 : d ≤ 11000 := by have := HN.out; omega
              have hd0 : ¬ (3 + (d : Int) = 0) := by omega
              have hd0' : (3 + (d : Int) == 0) = false := by simp; omega
              clear hchr2 NONE hr0 h10 he hrg ed
              go_enter Tryd.func44, Tryd.ntmps44
              go_wp2_with fail
              refine HES.mono ?_
              rintro e w5 ⟨p6, n6, c6, rfl, ho6, hb6⟩
              have hn61 : n6 = 1 := ho6.1
              subst hn61
              rcases ho6.form with ⟨_, h9, _⟩ | ⟨g6, rfl, hB6, hl6⟩
              · omega
              have hv0 := ho6.row.2 0 (by simp)
              have HB5 : Hid (Below w.heap.size w w5) := hb6
              have hv1 : w5.cell? ⟨g6, 0, none⟩ = some (.int .u8 v) := hv0
              clear HES ho6 hb6 hv0
              by_cases hend : pos + (3 + d) < n
              · have hz := HC.out w5 HB5.out (pos + (3 + d)) hend
                have hrz := HBY.out.at (pos + (3 + d))
                have h7 := of7 HBY.out (q := pos + (3 + d)) (by rw [← HN.out]; exact hend)
                obtain ⟨z, ez⟩ : ∃ z, z = xs.getD (pos + (3 + d)) 0 := ⟨_, rfl⟩
                rw [← ez] at hz hrz h7
                have hendI : (pos : Int) + (3 + d) < n := by omega
                have HAL := fun W => alnum_any z W hrz.1 hrz.2
                clear ez
                cases hal : alnumB z with
                | true =>
                  have HF : Hid (∀ W, Below w.heap.size w W → NumOut w (chrS xs pos) (.returned (.tuple #[.int .i64 0, .int .i64 0, .int .i64 2])) W) := HBD2.out v (pos + (3 + d)) HCH.out (by rw [h7]; exact hal)
                  rw [hal] at HAL
                  clear h7 HC HBY HBAD HBD2 HOK hal
                  go_wp2_with (go_at_call 35; refine (HAL _).mono ?_; rintro e w' ⟨rfl, rfl⟩)
                  go_ret3
                  exact HF.out _ HB5.out
                | false =>
                  have HF : Hid (∀ W, Below w.heap.size w W → NumOut w (chrS xs pos) (.returned (.tuple #[.int .i64 v, .int .i64 (((3 + d) : Nat) : Int), .int .i64 0])) W) := HOK.out v ((3 + d)) HCH.out (by rw [h7]; exact hal)
                  rw [hal] at HAL
                  clear h7 HC HBY HBAD HBD2 HOK hal
                  go_wp2_with (go_at_call 35; refine (HAL _).mono ?_; rintro e w' ⟨rfl, rfl⟩)
                  go_ret3
                  exact HF.out _ HB5.out
              · have hendI : ¬ (pos : Int) + (3 + d) < n := by omega
                have HF : Hid (∀ W, Below w.heap.size w W → NumOut w (chrS xs pos) (.returned (.tuple #[.int .i64 v, .int .i64 (((3 + d) : Nat) : Int), .int .i64 0])) W) := HOK.out v ((3 + d)) HCH.out (of7_end (by rw [← HN.out]; omega))
                clear HC HBY HBAD HBD2 HOK
                go_wp2_with fail
                go_ret3
                exact HF.out _ HB5.out
        · skip
          by_cases h10 : byteI xs (pos + 3) = 10
          · have hr0 : escS xs (pos + 2) = ([], 1) := by rw [escS, if_pos h10]
            have HF : Hid (∀ W, Below w.heap.size w W → NumOut w (chrS xs pos) (.returned (.tuple #[.int .i64 0, .int .i64 0, .int .i64 2])) W) := NONE.out (by rw [hchr2, escI, h10]; simp [escF])
            rw [hr0] at HES
            clear hchr2 NONE HC HBY HBAD HBD2 HOK hr0 h10
            go_enter Tryd.func44, Tryd.ntmps44
            go_wp2_with fail
            refine HES.mono ?_
            rintro e w5 ⟨p6, n6, c6, rfl, ho6, hb6⟩
            obtain rfl : n6 = 0 := ho6.1
            have HB5 : Hid (Below w.heap.size w w5) := hb6
            clear HES ho6 hb6
            go_wp2_with fail
            go_ret3
            exact HF.out _ HB5.out
          · cases he : escI xs (pos + 2) with
            | none =>
              have hr0 : escS xs (pos + 2) = ([], 0) := by rw [escS, if_neg h10, he]
              have HF : Hid (∀ W, Below w.heap.size w W → NumOut w (chrS xs pos) (.returned (.tuple #[.int .i64 0, .int .i64 0, .int .i64 2])) W) := NONE.out (by rw [hchr2, he])
              rw [hr0] at HES
              clear hchr2 NONE HC HBY HBAD HBD2 HOK hr0 h10 he
              go_enter Tryd.func44, Tryd.ntmps44
              go_wp2_with fail
              refine HES.mono ?_
              rintro e w5 ⟨p6, n6, c6, rfl, ho6, hb6⟩
              obtain rfl : n6 = 0 := ho6.1
              have HB5 : Hid (Below w.heap.size w w5) := hb6
              clear HES ho6 hb6
              go_wp2_with fail
              go_ret3
              exact HF.out _ HB5.out
            | some r =>
              obtain ⟨v, j⟩ := r
              have hrg := escI_rng he
              have hvb := escI_byte he
              have hr0 : escS xs (pos + 2) = ([v], j - (pos + 3)) := by rw [escS, if_neg h10, he]
              obtain ⟨d, ed⟩ : ∃ d, d = j - (pos + 3) := ⟨_, rfl⟩
              rw [hr0, ← ed] at HES
              have HCH : Hid (chrI xs (pos + 2) = some (v, pos + (3 + d))) := by show _ = _; rw [hchr2, he, show pos + (3 + d) = j by omega]
              have hd1 : 1 ≤ d := by omega
              have hd2 : d ≤ 11000 := by have := HN.out; omega
              have hd0 : ¬ (3 + (d : Int) = 0) := by omega
              have hd0' : (3 + (d : Int) == 0) = false := by simp; omega
              clear hchr2 NONE hr0 h10 he hrg ed
              go_enter Tryd.func44, Tryd.ntmps44
              go_wp2_with fail
              refine HES.mono ?_
              rintro e w5 ⟨p6, n6, c6, rfl, ho6, hb6⟩
              have hn61 : n6 = 1 := ho6.1
              subst hn61
              rcases ho6.form with ⟨_, h9, _⟩ | ⟨g6, rfl, hB6, hl6⟩
              · omega
              have hv0 := ho6.row.2 0 (by simp)
              have HB5 : Hid (Below w.heap.size w w5) := hb6
              have hv1 : w5.cell? ⟨g6, 0, none⟩ = some (.int .u8 v) := hv0
              clear HES ho6 hb6 hv0
              by_cases hend : pos + (3 + d) < n
              · have hz := HC.out w5 HB5.out (pos + (3 + d)) hend
                have hrz := HBY.out.at (pos + (3 + d))
                have h7 := of7 HBY.out (q := pos + (3 + d)) (by rw [← HN.out]; exact hend)
                obtain ⟨z, ez⟩ : ∃ z, z = xs.getD (pos + (3 + d)) 0 := ⟨_, rfl⟩
                rw [← ez] at hz hrz h7
                have hendI : (pos : Int) + (3 + d) < n := by omega
                have HAL := fun W => alnum_any z W hrz.1 hrz.2
                clear ez
                cases hal : alnumB z with
                | true =>
                  have HF : Hid (∀ W, Below w.heap.size w W → NumOut w (chrS xs pos) (.returned (.tuple #[.int .i64 0, .int .i64 0, .int .i64 2])) W) := HBD2.out v (pos + (3 + d)) HCH.out (by rw [h7]; exact hal)
                  rw [hal] at HAL
                  clear h7 HC HBY HBAD HBD2 HOK hal
                  go_wp2_with (go_at_call 35; refine (HAL _).mono ?_; rintro e w' ⟨rfl, rfl⟩)
                  go_ret3
                  exact HF.out _ HB5.out
                | false =>
                  have HF : Hid (∀ W, Below w.heap.size w W → NumOut w (chrS xs pos) (.returned (.tuple #[.int .i64 v, .int .i64 (((3 + d) : Nat) : Int), .int .i64 0])) W) := HOK.out v ((3 + d)) HCH.out (by rw [h7]; exact hal)
                  rw [hal] at HAL
                  clear h7 HC HBY HBAD HBD2 HOK hal
                  go_wp2_with (go_at_call 35; refine (HAL _).mono ?_; rintro e w' ⟨rfl, rfl⟩)
                  go_ret3
                  exact HF.out _ HB5.out
              · have hendI : ¬ (pos : Int) + (3 + d) < n := by omega
                have HF : Hid (∀ W, Below w.heap.size w W → NumOut w (chrS xs pos) (.returned (.tuple #[.int .i64 v, .int .i64 (((3 + d) : Nat) : Int), .int .i64 0])) W) := HOK.out v ((3 + d)) HCH.out (of7_end (by rw [← HN.out]; omega))
                clear HC HBY HBAD HBD2 HOK
                go_wp2_with fail
                go_ret3
                exact HF.out _ HB5.out
      · have hxb2 : (x == 92) = false := by simpa using h92
        have HRAW := fun W => raw_any x W hrx.1 hrx.2
        by_cases hw : 32 ≤ x ∧ x ≠ 127
        · have hrb : rawB x = true := by simp only [rawB, hw, and_self, decide_true, ne_eq, not_false_eq_true]
          rw [hrb] at HRAW
          have HCH : Hid (chrI xs (pos + 2) = some (x, pos + 3)) := by show _ = _; rw [hchr]; simp [chrF, h39, h92, hw]
          clear hchr NONE HES hw hrb h39 h92
          by_cases hend : pos + 3 < n
          · have hz := HC.out w (Below.refl _ _) (pos + 3) hend
            have hrz := HBY.out.at (pos + 3)
            have h7 := of7 HBY.out (q := pos + 3) (by rw [← HN.out]; exact hend)
            obtain ⟨z, ez⟩ : ∃ z, z = xs.getD (pos + 3) 0 := ⟨_, rfl⟩
            rw [← ez] at hz hrz h7
            have hendI : (pos : Int) + 3 < n := by omega
            have HAL := fun W => alnum_any z W hrz.1 hrz.2
            clear ez
            cases hal : alnumB z with
            | true =>
              have HF : Hid (∀ W, Below w.heap.size w W → NumOut w (chrS xs pos) (.returned (.tuple #[.int .i64 0, .int .i64 0, .int .i64 2])) W) := HBD2.out x (pos + 3) HCH.out (by rw [h7]; exact hal)
              rw [hal] at HAL
              clear h7 HC HBY HBAD HBD2 HOK hal
              go_enter Tryd.func44, Tryd.ntmps44
              go_wp2_with (first | (go_at_call 35; refine (HAL _).mono ?_; rintro e w' ⟨rfl, rfl⟩) | (go_at_call 47; refine (HRAW _).mono ?_; rintro e w' ⟨rfl, rfl⟩))
              go_ret3
              exact HF.out _ (Below.refl _ _)
            | false =>
              have HF : Hid (∀ W, Below w.heap.size w W → NumOut w (chrS xs pos) (.returned (.tuple #[.int .i64 x, .int .i64 ((3 : Nat) : Int), .int .i64 0])) W) := HOK.out x (3) HCH.out (by rw [h7]; exact hal)
              rw [hal] at HAL
              clear h7 HC HBY HBAD HBD2 HOK hal
              go_enter Tryd.func44, Tryd.ntmps44
              go_wp2_with (first | (go_at_call 35; refine (HAL _).mono ?_; rintro e w' ⟨rfl, rfl⟩) | (go_at_call 47; refine (HRAW _).mono ?_; rintro e w' ⟨rfl, rfl⟩))
              go_ret3
              exact HF.out _ (Below.refl _ _)
          · have hendI : ¬ (pos : Int) + 3 < n := by omega
            have HF : Hid (∀ W, Below w.heap.size w W → NumOut w (chrS xs pos) (.returned (.tuple #[.int .i64 x, .int .i64 ((3 : Nat) : Int), .int .i64 0])) W) := HOK.out x (3) HCH.out (of7_end (by rw [← HN.out]; omega))
            clear HC HBY HBAD HBD2 HOK
            go_enter Tryd.func44, Tryd.ntmps44
            go_wp2_with (first | fail | (go_at_call 47; refine (HRAW _).mono ?_; rintro e w' ⟨rfl, rfl⟩))
            go_ret3
            exact HF.out _ (Below.refl _ _)
        · have hrb : rawB x = false := by simp only [rawB, decide_eq_false_iff_not]; exact hw
          rw [hrb] at HRAW
          have HF : Hid (∀ W, Below w.heap.size w W → NumOut w (chrS xs pos) (.returned (.tuple #[.int .i64 0, .int .i64 0, .int .i64 2])) W) := NONE.out (by rw [hchr]; simp only [chrF, h39, h92, false_and, if_false, hw, not_false_eq_true, or_true, if_true])
          clear hchr NONE HES HC HBY HBAD HBD2 HOK hw hrb h39 h92
          by_cases h3I : (pos : Int) + 3 < n
          · go_enter Tryd.func44, Tryd.ntmps44
            go_wp2_with (go_at_call 47; refine (HRAW _).mono ?_; rintro e w' ⟨rfl, rfl⟩)
            go_ret3
            exact HF.out _ (Below.refl _ _)
          · go_enter Tryd.func44, Tryd.ntmps44
            go_wp2_with (go_at_call 47; refine (HRAW _).mono ?_; rintro e w' ⟨rfl, rfl⟩)
            go_ret3
            exact HF.out _ (Below.refl _ _)
  · have h2I : ¬ (pos : Int) + 2 < n := by omega
    have h3I : ¬ (pos : Int) + 3 < n := by omega
    have HF : Hid (∀ W, Below w.heap.size w W → NumOut w (chrS xs pos) (.returned (.tuple #[.int .i64 0, .int .i64 0, .int .i64 2])) W) := HBAD.out (by rw [hchr, byteI_ge (by rw [← HN.out]; omega)]; simp [chrF])
    clear hchr HES HC HBY HBAD HBD2 HOK
    go_enter Tryd.func44, Tryd.ntmps44
    go_wp2_with fail
    go_ret3
    exact HF.out _ (Below.refl _ _)

end Go.Proofs.YtfhelmhcmfpedaaDoor
