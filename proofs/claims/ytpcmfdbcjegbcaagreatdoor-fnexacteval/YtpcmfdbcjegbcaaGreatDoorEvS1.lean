/- Numbers of the model: l6times, l6floor, l6power. Own work of the verifier. -/
import Derived.Test.YtpcmfdbcjegbcaaGreatDoorEvP
namespace Go.Proofs.YtpcmfdbcjegbcaaGreatDoor
open Go Go.RowKit
set_option linter.unusedVariables false

def Near (v : Int) : Prop := -1000000000000001 ≤ v ∧ v ≤ 1000000000000001
instance (v : Int) : Decidable (Near v) := inferInstanceAs (Decidable (_ ∧ _))
theorem InB.near {v : Int} (h : InB v) : Near v := by unfold InB at h; unfold Near; omega
theorem tdivAbs {x y : Int} : (x.tdiv y).natAbs ≤ x.natAbs := by rw [Int.natAbs_tdiv]; exact Nat.div_le_self _ _
theorem tmodAbs {x y : Int} (h : y ≠ 0) : (x.tmod y).natAbs < y.natAbs := by rw [Int.natAbs_tmod]; exact Nat.mod_lt _ (by omega)
def TiOut (w : World) (v : Int) (e : Ending) (w' : World) : Prop := ∃ u, e = .returned (.int .i64 u) ∧ Sat u v ∧ Near u ∧ w' = w
theorem quo_wrap {a b p : Int} (ha : Near a) (hb : Near b) (hp : p = wrap64 (a * b)) : wrap64 (p.tdiv b) = p.tdiv b := by
  have hr : -9223372036854775808 ≤ p ∧ p ≤ 9223372036854775807 := by rw [hp]; unfold wrap64; omega
  by_cases h1 : b = -1
  · subst h1
    have hp2 : p = -a := by
      rw [hp, Int.mul_neg, Int.mul_one]
      unfold Near at ha
      unfold wrap64
      omega
    have h2 := tdivAbs (x := p) (y := -1)
    unfold Near at ha
    unfold wrap64
    omega
  · by_cases h2 : b = 1
    · subst h2
      rw [Int.tdiv_one]
      unfold wrap64
      omega
    · have h3 : (p.tdiv b).natAbs ≤ p.natAbs / 2 ∨ b = 0 := by
        by_cases h4 : b = 0
        · exact .inr h4
        · left
          rw [Int.natAbs_tdiv]
          exact Nat.div_le_div_left (by omega) (by decide)
      rcases h3 with h3 | rfl
      · unfold wrap64
        omega
      · simp [wrap64]
set_option maxRecDepth 100000 in
set_option maxHeartbeats 400000 in
theorem l6times_any (a b : Int) (w : World) (ha : Near a) (hb : Near b) : Calls Tryz.prog 51 #[.int .i64 a, .int .i64 b] w (TiOut w (a * b)) := by
  by_cases h0 : a = 0
  · subst h0
    go_enter Tryz.func51, Tryz.ntmps51
    go_wp2_with fail
    go_ret
    exact ⟨0, rfl, .inl ⟨by rw [Int.zero_mul]; decide, by rw [Int.zero_mul]⟩, by decide, rfl⟩
  · by_cases h1 : b = 0
    · subst h1
      go_enter Tryz.func51, Tryz.ntmps51
      go_wp2_with fail
      go_ret
      exact ⟨0, rfl, .inl ⟨by rw [Int.mul_zero]; decide, by rw [Int.mul_zero]⟩, by decide, rfl⟩
    · have hab : (a == 0) = false := by simpa using h0
      have hbb : (b == 0) = false := by simpa using h1
      obtain ⟨p, hp⟩ : ∃ p, p = wrap64 (a * b) := ⟨_, rfl⟩
      have hq := quo_wrap ha hb hp
      have htb := times_back (a := a) h1 (p := p) (by rw [hp]; exact (IntWalk.i64_left _).symm)
      have hps := hp.symm
      by_cases hin : InB (a * b)
      · have h2 : ¬ (p.tdiv b ≠ a ∨ ¬ InB p) := fun h => htb.1 h hin
        have h3 : p.tdiv b = a := Classical.byContradiction fun h => h2 (.inl h)
        have h4 : InB p := Classical.byContradiction fun h => h2 (.inr h)
        have h5 : ¬ (1000000000000000 : Int) < p := by unfold InB at h4; omega
        have h6 : ¬ p < -1000000000000000 := by unfold InB at h4; omega
        have HE : Hid (Sat p (a * b) ∧ Near p) := by
          have e : p = a * b := by
            rw [hp]
            unfold InB at hin
            unfold wrap64
            omega
          exact ⟨.inl ⟨hin, e⟩, h4.near⟩
        rw [h3] at hq
        clear htb hp hin h2 h4 ha hb
        go_enter Tryz.func51, Tryz.ntmps51
        go_wp2_with fail
        go_ret
        exact ⟨p, rfl, HE.out.1, HE.out.2, rfl⟩
      · have h2 := htb.2 hin
        have HE : Hid (Sat 1000000000000001 (a * b) ∧ Sat (-1000000000000001) (a * b)) := ⟨.inr ⟨hin, by decide, by decide, by decide⟩, .inr ⟨hin, by decide, by decide, by decide⟩⟩
        have HN : Hid (Near 1000000000000001 ∧ Near (-1000000000000001)) := by unfold Hid Near; omega
        obtain ⟨q, eq⟩ : ∃ q, q = p.tdiv b := ⟨_, rfl⟩
        rw [← eq] at hq h2
        have hqs := eq.symm
        have h7 : ¬ q = a ∨ (1000000000000000 : Int) < p ∨ p < -1000000000000000 := by
          rcases h2 with h | h
          · exact .inl h
          · right; unfold InB at h; omega
        clear htb hp hin h2 ha hb eq
        by_cases h8 : q = a
        · have h9 : (q != a) = false := by simpa using h8
          rcases h7.resolve_left (fun h => h h8) with h7 | h7
          · go_enter Tryz.func51, Tryz.ntmps51
            go_wp2_with fail
            all_goals (go_ret; first | exact ⟨_, rfl, HE.out.1, HN.out.1, rfl⟩ | exact ⟨_, rfl, HE.out.2, HN.out.2, rfl⟩)
          · have h10 : ¬ (1000000000000000 : Int) < p := by omega
            go_enter Tryz.func51, Tryz.ntmps51
            go_wp2_with fail
            all_goals (go_ret; first | exact ⟨_, rfl, HE.out.1, HN.out.1, rfl⟩ | exact ⟨_, rfl, HE.out.2, HN.out.2, rfl⟩)
        · have h9 : (q != a) = true := by simpa using h8
          clear h7
          go_enter Tryz.func51, Tryz.ntmps51
          go_wp2_with fail
          all_goals (go_ret; first | exact ⟨_, rfl, HE.out.1, HN.out.1, rfl⟩ | exact ⟨_, rfl, HE.out.2, HN.out.2, rfl⟩)
/-- The quotient, rounded down. -/
def flo (a b : Int) : Int := if a.tmod b ≠ 0 ∧ ((a < 0) ≠ (b < 0)) then a.tdiv b - 1 else a.tdiv b
set_option maxRecDepth 100000 in
theorem l6floor_any (a b : Int) (w : World) (ha : Near a) (hb : Near b) (h0 : b ≠ 0) : Calls Tryz.prog 52 #[.int .i64 a, .int .i64 b] w fun e w' => e = .returned (.int .i64 (flo a b)) ∧ w' = w := by
  have h1 := tdivAbs (x := a) (y := b)
  have hbb : (b == 0) = false := by simpa using h0
  have hq : wrap64 (a.tdiv b) = a.tdiv b := by unfold Near at ha; unfold wrap64; omega
  have hq1 : wrap64 (a.tdiv b - 1) = a.tdiv b - 1 := by unfold Near at ha; unfold wrap64; omega
  obtain ⟨q, eq⟩ : ∃ q, q = a.tdiv b := ⟨_, rfl⟩
  obtain ⟨r, er⟩ : ∃ r, r = a.tmod b := ⟨_, rfl⟩
  have hqq := eq.symm
  have hrr := er.symm
  rw [← eq] at hq
  by_cases hr : r = 0
  · have HE : Hid (flo a b = q) := by show _ = _; unfold flo; rw [if_neg (by rw [← er]; simp [hr]), eq]
    have hrb : (r != 0) = false := by simpa using hr
    clear h1 eq er ha hb
    go_enter Tryz.func52, Tryz.ntmps52
    go_wp2_with fail
    go_ret
    exact ⟨by show Ending.returned (Value.int IntKind.i64 (wrap64 q)) = _; rw [HE.out, hq], rfl⟩
  · have hrb : (r != 0) = true := by simpa using hr
    by_cases hs : (a < 0) ≠ (b < 0)
    · have HE : Hid (flo a b = q - 1) := by show _ = _; unfold flo; rw [if_pos ⟨by rw [← er]; exact hr, hs⟩, eq]
      have hsb : (decide (a < 0) == decide (b < 0)) = false := by
        simp only [beq_eq_false_iff_ne, ne_eq, decide_eq_decide]
        exact fun h => hs (propext h)
      rw [← eq] at hq1
      clear h1 eq er ha hb hs
      go_enter Tryz.func52, Tryz.ntmps52
      go_wp2_with fail
      go_ret
      exact ⟨by show Ending.returned (Value.int IntKind.i64 (wrap64 (q - 1))) = _; rw [HE.out, hq1], rfl⟩
    · have HE : Hid (flo a b = q) := by show _ = _; unfold flo; rw [if_neg (fun h => hs h.2), eq]
      have hsb : (decide (a < 0) == decide (b < 0)) = true := by
        have : (a < 0) = (b < 0) := Classical.byContradiction hs
        simp [this]
      clear h1 eq er ha hb hs
      go_enter Tryz.func52, Tryz.ntmps52
      go_wp2_with fail
      go_ret
      exact ⟨by show Ending.returned (Value.int IntKind.i64 (wrap64 q)) = _; rw [HE.out, hq], rfl⟩
theorem flo_two (a : Int) : flo a 2 = a / 2 := by
  unfold flo
  have h1 := Int.tmod_add_mul_tdiv a 2
  have h2 := tmodAbs (x := a) (y := 2) (by decide)
  have h3 : 0 ≤ a → 0 ≤ a.tmod 2 := fun h => Int.tmod_nonneg 2 h
  have h4 : a ≤ 0 → a.tmod 2 ≤ 0 := fun h => by
    have := Int.tmod_nonneg 2 (a := -a) (by omega)
    rw [Int.neg_tmod] at this
    omega
  have e : ((a < 0) ≠ ((2 : Int) < 0)) ↔ a < 0 := by simp
  by_cases ha : a < 0
  · by_cases hr : a.tmod 2 = 0
    · rw [if_neg (fun h => h.1 hr)]; omega
    · rw [if_pos ⟨hr, e.2 ha⟩]
      have := h4 (by omega)
      omega
  · rw [if_neg (fun h => ha (e.1 h.2))]
    have := h3 (by omega)
    omega
theorem tmod_small {z y : Int} (hz : z.natAbs < y.natAbs) (hs : 0 ≤ z ∧ 0 < y ∨ z ≤ 0 ∧ y < 0) : z.tmod y = z ∧ (z + y).tmod y = z := by
  rcases hs with hs | hs
  · refine ⟨?_, ?_⟩
    · rw [Int.tmod_eq_emod_of_nonneg hs.1, Int.emod_eq_of_lt hs.1 (by omega)]
    · rw [Int.tmod_eq_emod_of_nonneg (by omega), Int.add_emod_right, Int.emod_eq_of_lt hs.1 (by omega)]
  · refine ⟨?_, ?_⟩
    · have e := Int.neg_tmod (-z) y
      rw [Int.neg_neg] at e
      rw [e, ← Int.tmod_neg, Int.tmod_eq_emod_of_nonneg (by omega), Int.emod_eq_of_lt (by omega) (by omega), Int.neg_neg]
    · have e := Int.neg_tmod (-z + -y) y
      rw [show -(-z + -y) = z + y by omega] at e
      rw [e, ← Int.tmod_neg, Int.tmod_eq_emod_of_nonneg (by omega), Int.add_emod_right, Int.emod_eq_of_lt (by omega) (by omega), Int.neg_neg]
theorem mod_flo {x y : Int} (h : y ≠ 0) : x - flo x y * y = (x.tmod y + y).tmod y := by
  have h1 := Int.tmod_add_mul_tdiv x y
  have h2 := tmodAbs (x := x) h
  have h3 : 0 ≤ x → 0 ≤ x.tmod y := fun h => Int.tmod_nonneg y h
  have h4 : x ≤ 0 → x.tmod y ≤ 0 := fun h => by
    have := Int.tmod_nonneg y (a := -x) (by omega)
    rw [Int.neg_tmod] at this
    omega
  unfold flo
  by_cases hr : x.tmod y = 0
  · rw [if_neg (fun h => h.1 hr), hr, Int.zero_add, Int.tmod_self, Int.mul_comm]
    omega
  · by_cases hs : (x < 0) ≠ (y < 0)
    · rw [if_pos ⟨hr, hs⟩, Int.sub_mul, Int.one_mul, Int.mul_comm (x.tdiv y) y]
      have hss : (x < 0 ∧ 0 < y) ∨ (0 ≤ x ∧ y < 0) := by
        by_cases hx : x < 0
        · by_cases hy : y < 0
          · exact absurd (by simp [hx, hy]) hs
          · exact .inl ⟨hx, by omega⟩
        · by_cases hy : y < 0
          · exact .inr ⟨by omega, hy⟩
          · exact absurd (by simp [hx, hy]) hs
      have h6 : 0 ≤ x.tmod y + y ∧ 0 < y ∨ x.tmod y + y ≤ 0 ∧ y < 0 := by
        rcases hss with hh | hh
        · have := h4 (by omega); omega
        · have := h3 (by omega); omega
      have h7 : (x.tmod y + y).natAbs < y.natAbs := by
        rcases hss with hh | hh
        · have := h4 (by omega); omega
        · have := h3 (by omega); omega
      have h5 : (x.tmod y + y).tmod y = x.tmod y + y := (tmod_small h7 h6).1
      rw [h5]
      omega
    · rw [if_neg (fun h => hs h.2), Int.mul_comm (x.tdiv y) y]
      have hss : (x < 0 ∧ y < 0) ∨ (0 ≤ x ∧ 0 < y) := by
        have e : (x < 0) = (y < 0) := Classical.byContradiction hs
        by_cases hx : x < 0
        · exact .inl ⟨hx, by rw [e] at hx; exact hx⟩
        · exact .inr ⟨by omega, by rw [e] at hx; omega⟩
      have h6 : 0 ≤ x.tmod y ∧ 0 < y ∨ x.tmod y ≤ 0 ∧ y < 0 := by
        rcases hss with hh | hh
        · exact .inr ⟨h4 (by omega), hh.2⟩
        · exact .inl ⟨h3 hh.1, hh.2⟩
      have h5 : (x.tmod y + y).tmod y = x.tmod y := (tmod_small h2 h6).2
      rw [h5]
      omega
set_option maxRecDepth 100000 in
set_option maxHeartbeats 400000 in
theorem l6power_any (x : Int) (Y : Nat) (w : World) (hx : InB x) (hY : (Y : Int) ≤ 1000000000000000) : Calls Tryz.prog 53 #[.int .i64 x, .int .i64 Y] w (TiOut w (x ^ Y)) := by
  by_cases h1 : x = 1
  · subst h1
    go_enter Tryz.func53, Tryz.ntmps53
    go_wp2_with fail
    go_ret
    exact ⟨1, rfl, .inl ⟨by rw [Int.one_pow]; decide, by rw [Int.one_pow]⟩, by decide, rfl⟩
  · have hb1 : (x == 1) = false := by simpa using h1
    by_cases h0 : Y = 0
    · subst h0
      go_enter Tryz.func53, Tryz.ntmps53
      go_wp2_with fail
      go_ret
      exact ⟨1, rfl, .inl ⟨by simp; decide, by simp⟩, by decide, rfl⟩
    · have hb0 : ((Y : Int) == 0) = false := by simpa using h0
      by_cases hm : x = -1
      · subst hm
        have hp := pow_one_abs (x := -1) rfl Y
        rcases (by omega : Y % 2 = 0 ∨ Y % 2 = 1) with hr | hr
        · rw [if_pos hr] at hp
          have t1 : (Y : Int) % 2 = 0 := by omega
          have t2 : (Y : Int).tmod 2 = 0 := by rw [Int.tmod_eq_emod_of_nonneg (by omega)]; exact t1
          have w1 : wrap64 (1 - wrap64 0) = 1 := by unfold wrap64; omega
          have w2 : wrap64 0 = 0 := by unfold wrap64; omega
          have w3 : wrap64 1 = 1 := by unfold wrap64; omega
          have HE : Hid ((-1 : Int) ^ Y = 1) := hp
          clear hp hr hx
          go_enter Tryz.func53, Tryz.ntmps53
          go_wp2_with fail
          go_ret
          exact ⟨1, rfl, .inl ⟨by rw [HE.out]; decide, HE.out.symm⟩, by decide, rfl⟩
        · rw [if_neg (by omega)] at hp
          have t1 : (Y : Int) % 2 = 1 := by omega
          have t2 : (Y : Int).tmod 2 = 1 := by rw [Int.tmod_eq_emod_of_nonneg (by omega)]; exact t1
          have w1 : wrap64 2 = 2 := by unfold wrap64; omega
          have w3 : wrap64 (-1) = -1 := by unfold wrap64; omega
          have HE : Hid ((-1 : Int) ^ Y = -1) := hp
          clear hp hr hx
          go_enter Tryz.func53, Tryz.ntmps53
          go_wp2_with fail
          go_ret
          exact ⟨-1, rfl, .inl ⟨by rw [HE.out]; decide, HE.out.symm⟩, by decide, rfl⟩
      · have hbm : (x == -1) = false := by simpa using hm
        have HX : Hid (InB x ∧ x ≠ 1 ∧ x ≠ -1) := ⟨hx, h1, hm⟩
        clear hx
        go_enter Tryz.func53, Tryz.ntmps53
        go_wp2_with fail
        go_loopw [5, 6] (fun r i wr => ∃ (j : Nat) (u : Int), j ≤ Y ∧ i = .int .i64 j ∧ r = .int .i64 u ∧ -1000000000000001 ≤ u ∧ u ≤ 1000000000000001 ∧ Hid ((InB u ∧ u = x ^ j) ∨ (¬ InB u ∧ ¬ InB (x ^ Y))) ∧ wr = w) (fun _ i _ => Y - (intOf i).toNat)
        case atStart => exact ⟨0, 1, Nat.zero_le _, rfl, rfl, by decide, by decide, .inl ⟨by decide, by simp⟩, rfl⟩
        case round =>
          obtain ⟨j, u, hj, rfl, rfl, hu1, hu2, HU, rfl⟩ := hrel
          have hend : (¬ j < Y ∨ u = 0 ∨ ¬ InB u) → Sat u (x ^ Y) := fun h => by
            rcases HU.out with ⟨g1, g2⟩ | ⟨g1, g2⟩
            · left
              rcases h with h | h | h
              · obtain rfl : j = Y := by omega
                rw [← g2]; exact ⟨g1, rfl⟩
              · have hx0 : x = 0 := by
                  rw [h] at g2
                  exact Classical.byContradiction fun hne => (Int.pow_ne_zero hne) g2.symm
                have e : x ^ Y = 0 := by rw [hx0]; exact Int.zero_pow h0
                rw [e, h]; exact ⟨by decide, rfl⟩
              · exact absurd g1 h
            · exact .inr ⟨g2, g1, by omega, by omega⟩
          by_cases hlt : j < Y
          · have hltI : (j : Int) < (Y : Int) := by omega
            by_cases hu0 : u = 0
            · have HF : Hid (Sat u (x ^ Y)) := hend (.inr (.inl hu0))
              have hub : (u != 0) = false := by simpa using hu0
              clear hend
              go_wp2_with fail
              go_ret
              exact ⟨u, rfl, HF.out, ⟨hu1, hu2⟩, rfl⟩
            · have hub : (u != 0) = true := by simpa using hu0
              by_cases hin : InB u
              · have i1 : u ≤ 1000000000000000 := hin.2
                have i2 : -1000000000000000 ≤ u := hin.1
                have hg2 : u = x ^ j := by
                  rcases HU.out with h | h
                  · exact h.2
                  · exact absurd hin h.1
                have HT := l6times_any u x wr hin.near HX.out.1.near
                have hux : u * x = x ^ (j + 1) := by rw [hg2, Int.pow_succ]
                rw [hux] at HT
                have HN : Hid (∀ v, Sat v (x ^ (j + 1)) → (InB v ∧ v = x ^ (j + 1)) ∨ (¬ InB v ∧ ¬ InB (x ^ Y))) := fun v hv => by
                  rcases hv with ⟨g1, g2⟩ | ⟨g1, g2, _, _⟩
                  · exact .inl ⟨by rw [g2]; exact g1, g2⟩
                  · refine .inr ⟨g2, ?_⟩
                    have hxx := HX.out
                    have hx0 : x ≠ 0 := fun e => by
                      rw [e, Int.zero_pow (by omega)] at g1
                      exact g1 (by decide)
                    exact pow_grows (by omega) (i := j + 1) (by omega) g1
                clear hend hg2 hux hin
                go_wp2_with fail
                refine HT.mono ?_
                rintro e w1 ⟨v, rfl, hv, hnr, rfl⟩
                have HV : Hid _ := HN.out v hv
                have n1 := hnr.1
                have n2 := hnr.2
                clear hv hnr HT
                go_wp2_with fail
                go_roundw
                case rel => exact ⟨j + 1, v, by omega, by go_num, rfl, n1, n2, HV, trivial⟩
                case measure => simp [intOf]; omega
              · have HF : Hid (Sat u (x ^ Y)) := hend (.inr (.inr hin))
                by_cases i1 : u ≤ 1000000000000000
                · have i2 : ¬ -1000000000000000 ≤ u := fun h => hin ⟨h, i1⟩
                  clear hend hin
                  go_wp2_with fail
                  go_ret
                  exact ⟨u, rfl, HF.out, ⟨hu1, hu2⟩, rfl⟩
                · clear hend hin
                  go_wp2_with fail
                  go_ret
                  exact ⟨u, rfl, HF.out, ⟨hu1, hu2⟩, rfl⟩
          · have hltI : ¬ (j : Int) < (Y : Int) := by omega
            have HF : Hid (Sat u (x ^ Y)) := hend (.inl hlt)
            clear hend
            go_wp2_with fail
            go_ret
            exact ⟨u, rfl, HF.out, ⟨hu1, hu2⟩, rfl⟩

end Go.Proofs.YtpcmfdbcjegbcaaGreatDoor
