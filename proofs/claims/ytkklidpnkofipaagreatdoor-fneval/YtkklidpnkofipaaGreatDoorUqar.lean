/- Texts of FoI, FoS, EvS1, EvS5, EvS6, OpsP, OpsM1, OpsSort, OpsSort2. Own work of the verifier. -/
import Derived.Test.YtkklidpnkofipaaGreatDoorUqag
import Derived.Sort.OwnSortedInts
import Derived.Test.YtkklidpnkofipaaGreatDoorOpsL
namespace Go.Proofs.YtkklidpnkofipaaGreatDoor
set_option linter.unusedVariables false
set_option maxRecDepth 100000
section
open Go Go.RowKit
theorem NodeIn.imp2 {w w' : World} {B B' : Nat} {c : Cel} {K K' : List Value → Prop} {v : Value} (h : NodeIn w B c K v) (hB : B' ≤ B) (hc : ∀ p v, w.cell? p = some v → w'.cell? p = some v) (hs : w.heap.size ≤ w'.heap.size) (hK : ∀ vs, K vs → K' vs) : NodeIn w' B' c K' v := by
 rcases h with h | h | h | ⟨h, b, g, vs, hv, h1, h2, c0, c1, hg, cg, hk⟩
 ·exact .inl h
 ·exact .inr (.inl h)
 ·exact .inr (.inr (.inl h))
 ·exact .inr (.inr (.inr ⟨h, b, g, vs, hv, by omega, by omega, hc _ _ c0, hc _ _ c1, by omega, fun i hi => hc _ _ (cg i hi), hK _ hk⟩))
theorem FoIn.imp2 {w w' : World} {B B' : Nat} (hB : B' ≤ B) (hc : ∀ p v, w.cell? p = some v → w'.cell? p = some v) (hs : w.heap.size ≤ w'.heap.size) : ∀ (F : Fo) (vs : List Value), FoIn w B F vs → FoIn w' B' F vs
 | .nil, vs, h => h
 | .node c k r, vs, ⟨v, vr, e, hn, hr⟩ => ⟨v, vr, e, hn.imp2 hB hc hs (fun kv => FoIn.imp2 hB hc hs k kv), FoIn.imp2 hB hc hs r vr hr⟩
end
section
open Go Go.RowKit
open Classical in
noncomputable def strikeA (A : Nat → Prop) (W : World) : World := { W with heap := W.heap.mapIdx fun i o => if A i then .deferred none else o }
theorem strikeA_size (A : Nat → Prop) (W : World) : (strikeA A W).heap.size = W.heap.size := by simp [strikeA]
open Classical in
theorem strikeA_cell {A : Nat → Prop} {W : World} {p : Addr} {v : Value} : (strikeA A W).cell? p = some v ↔ ¬ A p.block ∧ W.cell? p = some v := by
 have e : (strikeA A W).heap[p.block]? = W.heap[p.block]?.map fun o => if A p.block then .deferred none else o := by simp [strikeA]
 unfold World.cell?
 rw [e]
 by_cases h : A p.block
 ·cases W.heap[p.block]? <;> simp [h]
 ·cases W.heap[p.block]? <;> simp [h]
def FoA (A : Nat → Prop) (W : World) (F : Fo) (vs : List Value) : Prop := FoIn (strikeA A W) 0 F vs
theorem FoA.foIn {A : Nat → Prop} {W : World} {F : Fo} {vs : List Value} (h : FoA A W F vs) : FoIn W 0 F vs :=
 FoIn.imp2 (Nat.le_refl _) (fun p v hp => (strikeA_cell.1 hp).2) (by rw [strikeA_size]; exact Nat.le_refl _) F vs h
theorem FoA.move {A A' : Nat → Prop} {W W' : World} {F : Fo} {vs : List Value} (h : FoA A W F vs) (hA : ∀ p v, ¬ A p.block → W.cell? p = some v → ¬ A' p.block ∧ W'.cell? p = some v) (hs : W.heap.size ≤ W'.heap.size) : FoA A' W' F vs :=
 FoIn.imp2 (Nat.le_refl _) (fun p v hp => strikeA_cell.2 (hA p v (strikeA_cell.1 hp).1 (strikeA_cell.1 hp).2)) (by rw [strikeA_size, strikeA_size]; exact hs) F vs h
theorem FoA.cat {A : Nat → Prop} {W : World} {F G : Fo} {vs us : List Value} (h : FoA A W F vs) (h' : FoA A W G us) : FoA A W (F.cat G) (vs ++ us) := FoIn.cat _ _ _ _ h h'
end
section
open Go Go.RowKit
def Near (v : Int) : Prop := -1000000000000001 ≤ v ∧ v ≤ 1000000000000001
instance (v : Int) : Decidable (Near v) := inferInstanceAs (Decidable (_ ∧ _))
theorem InB.near {v : Int} (h : InB v) : Near v := by unfold InB at h; unfold Near; omega
theorem tdivAbs {x y : Int} : (x.tdiv y).natAbs ≤ x.natAbs := by rw [Int.natAbs_tdiv]; exact Nat.div_le_self _ _
theorem tmodAbs {x y : Int} (h : y ≠ 0) : (x.tmod y).natAbs < y.natAbs := by rw [Int.natAbs_tmod]; exact Nat.mod_lt _ (by omega)
def TiOut (w : World) (v : Int) (e : Ending) (w' : World) : Prop := ∃ u, e = .returned (.int .i64 u) ∧ Sat u v ∧ Near u ∧ w' = w
theorem quo_wrap {a b p : Int} (ha : Near a) (hb : Near b) (hp : p = wrap64 (a * b)) : wrap64 (p.tdiv b) = p.tdiv b := by
 have hr : -9223372036854775808 ≤ p ∧ p ≤ 9223372036854775807 := by rw [hp]; unfold wrap64; omega
 by_cases h1 : b = -1
 ·subst h1
  have hp2 : p = -a := by
   rw [hp, Int.mul_neg, Int.mul_one]
   unfold Near at ha
   unfold wrap64
   omega
  have h2 := tdivAbs (x := p) (y := -1)
  unfold Near at ha
  unfold wrap64
  omega
 ·by_cases h2 : b = 1
  ·subst h2
   rw [Int.tdiv_one]
   unfold wrap64
   omega
  ·have h3 : (p.tdiv b).natAbs ≤ p.natAbs / 2 ∨ b = 0 := by
    by_cases h4 : b = 0
    ·exact .inr h4
    ·left
     rw [Int.natAbs_tdiv]; exact Nat.div_le_div_left (by omega) (by decide)
   rcases h3 with h3 | rfl
   ·unfold wrap64
    omega
   ·simp [wrap64]
set_option maxHeartbeats 400000 in
theorem l6times_any (a b : Int) (w : World) (ha : Near a) (hb : Near b) : Calls Tryz.prog 122 #[.int .i64 a, .int .i64 b] w (TiOut w (a * b)) := by
 by_cases h0 : a = 0
 ·subst h0
  go_enter Tryz.func122, Tryz.ntmps122
  go_wp2_with fail; go_ret; exact ⟨0, rfl, .inl ⟨by rw [Int.zero_mul]; decide, by rw [Int.zero_mul]⟩, by decide, rfl⟩
 ·by_cases h1 : b = 0
  ·subst h1
   go_enter Tryz.func122, Tryz.ntmps122
   go_wp2_with fail; go_ret; exact ⟨0, rfl, .inl ⟨by rw [Int.mul_zero]; decide, by rw [Int.mul_zero]⟩, by decide, rfl⟩
  ·have hab : (a == 0) = false := by simpa using h0
   have hbb : (b == 0) = false := by simpa using h1
   obtain ⟨p, hp⟩ : ∃ p, p = wrap64 (a * b) := ⟨_, rfl⟩
   have hq := quo_wrap ha hb hp; have htb := times_back (a := a) h1 (p := p) (by rw [hp]; exact (IntWalk.i64_left _).symm); have hps := hp.symm
   by_cases hin : InB (a * b)
   ·have h2 : ¬ (p.tdiv b ≠ a ∨ ¬ InB p) := fun h => htb.1 h hin
    have h3 : p.tdiv b = a := Classical.byContradiction fun h => h2 (.inl h)
    have h4 : InB p := Classical.byContradiction fun h => h2 (.inr h)
    have h5 : ¬ (1000000000000000 : Int) < p := by unfold InB at h4; omega
    have h6 : ¬ p < -1000000000000000 := by unfold InB at h4; omega
    have HE : Hid (Sat p (a * b) ∧ Near p) := by
     have e : p = a * b := by
      rw [hp]
      unfold InB at hin
      unfold wrap64
      omega
     exact ⟨.inl ⟨hin, e⟩, h4.near⟩
    rw [h3] at hq; clear htb hp hin h2 h4 ha hb
    go_enter Tryz.func122, Tryz.ntmps122
    go_wp2_with fail; go_ret; exact ⟨p, rfl, HE.out.1, HE.out.2, rfl⟩
   ·have h2 := htb.2 hin
    have HE : Hid (Sat 1000000000000001 (a * b) ∧ Sat (-1000000000000001) (a * b)) := ⟨.inr ⟨hin, by decide, by decide, by decide⟩, .inr ⟨hin, by decide, by decide, by decide⟩⟩
    have HN : Hid (Near 1000000000000001 ∧ Near (-1000000000000001)) := by unfold Hid Near; omega
    obtain ⟨q, eq⟩ : ∃ q, q = p.tdiv b := ⟨_, rfl⟩
    rw [← eq] at hq h2; have hqs := eq.symm
    have h7 : ¬ q = a ∨ (1000000000000000 : Int) < p ∨ p < -1000000000000000 := by
     rcases h2 with h | h
     ·exact .inl h
     ·right; unfold InB at h; omega
    clear htb hp hin h2 ha hb eq
    by_cases h8 : q = a
    rotate_right
    case' _ =>
     have h9 : (q != a) = true := by simpa using h8
     clear h7
    rotate_right
    case' _ =>
     have h9 : (q != a) = false := by simpa using h8
     rcases h7.resolve_left (fun h => h h8) with h7 | h7
     ·go_enter Tryz.func122, Tryz.ntmps122
      go_wp2_with fail
      all_goals (go_ret; first | exact ⟨_, rfl, HE.out.1, HN.out.1, rfl⟩ | exact ⟨_, rfl, HE.out.2, HN.out.2, rfl⟩)
     have h10 : ¬ (1000000000000000 : Int) < p := by omega
    all_goals
     go_enter Tryz.func122, Tryz.ntmps122
     go_wp2_with fail
     all_goals (go_ret; first | exact ⟨_, rfl, HE.out.1, HN.out.1, rfl⟩ | exact ⟨_, rfl, HE.out.2, HN.out.2, rfl⟩)
def flo (a b : Int) : Int := if a.tmod b ≠ 0 ∧ ((a < 0) ≠ (b < 0)) then a.tdiv b - 1 else a.tdiv b
theorem l6floor_any (a b : Int) (w : World) (ha : Near a) (hb : Near b) (h0 : b ≠ 0) : Calls Tryz.prog 123 #[.int .i64 a, .int .i64 b] w fun e w' => e = .returned (.int .i64 (flo a b)) ∧ w' = w := by
 have h1 := tdivAbs (x := a) (y := b)
 have hbb : (b == 0) = false := by simpa using h0
 have hq : wrap64 (a.tdiv b) = a.tdiv b := by unfold Near at ha; unfold wrap64; omega
 have hq1 : wrap64 (a.tdiv b - 1) = a.tdiv b - 1 := by unfold Near at ha; unfold wrap64; omega
 obtain ⟨q, eq⟩ : ∃ q, q = a.tdiv b := ⟨_, rfl⟩
 obtain ⟨r, er⟩ : ∃ r, r = a.tmod b := ⟨_, rfl⟩
 have hqq := eq.symm; have hrr := er.symm; rw [← eq] at hq
 by_cases hr : r = 0
 ·have HE : Hid (flo a b = q) := by show _ = _; unfold flo; rw [if_neg (by rw [← er]; simp [hr]), eq]
  have hrb : (r != 0) = false := by simpa using hr
  clear h1 eq er ha hb
  go_enter Tryz.func123, Tryz.ntmps123
  go_wp2_with fail; go_ret; exact ⟨by show Ending.returned (Value.int IntKind.i64 (wrap64 q)) = _; rw [HE.out, hq], rfl⟩
 ·have hrb : (r != 0) = true := by simpa using hr
  by_cases hs : (a < 0) ≠ (b < 0)
  ·have HE : Hid (flo a b = q - 1) := by show _ = _; unfold flo; rw [if_pos ⟨by rw [← er]; exact hr, hs⟩, eq]
   have hsb : (decide (a < 0) == decide (b < 0)) = false := by
    simp only [beq_eq_false_iff_ne, ne_eq, decide_eq_decide]
    exact fun h => hs (propext h)
   rw [← eq] at hq1; clear h1 eq er ha hb hs
   go_enter Tryz.func123, Tryz.ntmps123
   go_wp2_with fail; go_ret; exact ⟨by show Ending.returned (Value.int IntKind.i64 (wrap64 (q - 1))) = _; rw [HE.out, hq1], rfl⟩
  ·have HE : Hid (flo a b = q) := by show _ = _; unfold flo; rw [if_neg (fun h => hs h.2), eq]
   have hsb : (decide (a < 0) == decide (b < 0)) = true := by
    have : (a < 0) = (b < 0) := Classical.byContradiction hs
    simp [this]
   clear h1 eq er ha hb hs
   go_enter Tryz.func123, Tryz.ntmps123
   go_wp2_with fail; go_ret; exact ⟨by show Ending.returned (Value.int IntKind.i64 (wrap64 q)) = _; rw [HE.out, hq], rfl⟩
theorem flo_two (a : Int) : flo a 2 = a / 2 := by
 unfold flo
 have h1 := Int.tmod_add_mul_tdiv a 2; have h2 := tmodAbs (x := a) (y := 2) (by decide)
 have h3 : 0 ≤ a → 0 ≤ a.tmod 2 := fun h => Int.tmod_nonneg 2 h
 have h4 : a ≤ 0 → a.tmod 2 ≤ 0 := fun h => by
  have := Int.tmod_nonneg 2 (a := -a) (by omega); rw [Int.neg_tmod] at this
  omega
 have e : ((a < 0) ≠ ((2 : Int) < 0)) ↔ a < 0 := by simp
 by_cases ha : a < 0
 ·by_cases hr : a.tmod 2 = 0
  ·rw [if_neg (fun h => h.1 hr)]; omega
  ·rw [if_pos ⟨hr, e.2 ha⟩]
   have := h4 (by omega)
   omega
 ·rw [if_neg (fun h => ha (e.1 h.2))]
  have := h3 (by omega)
  omega
theorem tmod_small {z y : Int} (hz : z.natAbs < y.natAbs) (hs : 0 ≤ z ∧ 0 < y ∨ z ≤ 0 ∧ y < 0) : z.tmod y = z ∧ (z + y).tmod y = z := by
 rcases hs with hs | hs
 ·refine ⟨?_, ?_⟩
  ·rw [Int.tmod_eq_emod_of_nonneg hs.1, Int.emod_eq_of_lt hs.1 (by omega)]
  ·rw [Int.tmod_eq_emod_of_nonneg (by omega), Int.add_emod_right, Int.emod_eq_of_lt hs.1 (by omega)]
 ·refine ⟨?_, ?_⟩
  ·have e := Int.neg_tmod (-z) y
   rw [Int.neg_neg] at e; rw [e, ← Int.tmod_neg, Int.tmod_eq_emod_of_nonneg (by omega), Int.emod_eq_of_lt (by omega) (by omega), Int.neg_neg]
  ·have e := Int.neg_tmod (-z + -y) y
   rw [show -(-z + -y) = z + y by omega] at e; rw [e, ← Int.tmod_neg, Int.tmod_eq_emod_of_nonneg (by omega), Int.add_emod_right, Int.emod_eq_of_lt (by omega) (by omega), Int.neg_neg]
theorem mod_flo {x y : Int} (h : y ≠ 0) : x - flo x y * y = (x.tmod y + y).tmod y := by
 have h1 := Int.tmod_add_mul_tdiv x y; have h2 := tmodAbs (x := x) h
 have h3 : 0 ≤ x → 0 ≤ x.tmod y := fun h => Int.tmod_nonneg y h
 have h4 : x ≤ 0 → x.tmod y ≤ 0 := fun h => by
  have := Int.tmod_nonneg y (a := -x) (by omega); rw [Int.neg_tmod] at this
  omega
 unfold flo
 by_cases hr : x.tmod y = 0
 ·rw [if_neg (fun h => h.1 hr), hr, Int.zero_add, Int.tmod_self, Int.mul_comm]
  omega
 ·by_cases hs : (x < 0) ≠ (y < 0)
  ·rw [if_pos ⟨hr, hs⟩, Int.sub_mul, Int.one_mul, Int.mul_comm (x.tdiv y) y]
   have hss : (x < 0 ∧ 0 < y) ∨ (0 ≤ x ∧ y < 0) := by
    by_cases hx : x < 0
    ·by_cases hy : y < 0
     ·exact absurd (by simp [hx, hy]) hs
     ·exact .inl ⟨hx, by omega⟩
    ·by_cases hy : y < 0
     ·exact .inr ⟨by omega, hy⟩
     ·exact absurd (by simp [hx, hy]) hs
   have h6 : 0 ≤ x.tmod y + y ∧ 0 < y ∨ x.tmod y + y ≤ 0 ∧ y < 0 := by
    rcases hss with hh | hh
    ·have := h4 (by omega); omega
    ·have := h3 (by omega); omega
   have h7 : (x.tmod y + y).natAbs < y.natAbs := by
    rcases hss with hh | hh
    ·have := h4 (by omega); omega
    ·have := h3 (by omega); omega
   have h5 : (x.tmod y + y).tmod y = x.tmod y + y := (tmod_small h7 h6).1; rw [h5]
   omega
  ·rw [if_neg (fun h => hs h.2), Int.mul_comm (x.tdiv y) y]
   have hss : (x < 0 ∧ y < 0) ∨ (0 ≤ x ∧ 0 < y) := by
    have e : (x < 0) = (y < 0) := Classical.byContradiction hs
    by_cases hx : x < 0
    ·exact .inl ⟨hx, by rw [e] at hx; exact hx⟩
    ·exact .inr ⟨by omega, by rw [e] at hx; omega⟩
   have h6 : 0 ≤ x.tmod y ∧ 0 < y ∨ x.tmod y ≤ 0 ∧ y < 0 := by
    rcases hss with hh | hh
    ·exact .inr ⟨h4 (by omega), hh.2⟩
    ·exact .inl ⟨h3 hh.1, hh.2⟩
   have h5 : (x.tmod y + y).tmod y = x.tmod y := (tmod_small h2 h6).2; rw [h5]
   omega
set_option maxHeartbeats 400000 in
theorem l6power_any (x : Int) (Y : Nat) (w : World) (hx : InB x) (hY : (Y : Int) ≤ 1000000000000000) : Calls Tryz.prog 124 #[.int .i64 x, .int .i64 Y] w (TiOut w (x ^ Y)) := by
 by_cases h1 : x = 1
 ·subst h1
  go_enter Tryz.func124, Tryz.ntmps124
  go_wp2_with fail; go_ret; exact ⟨1, rfl, .inl ⟨by rw [Int.one_pow]; decide, by rw [Int.one_pow]⟩, by decide, rfl⟩
 ·have hb1 : (x == 1) = false := by simpa using h1
  by_cases h0 : Y = 0
  ·subst h0
   go_enter Tryz.func124, Tryz.ntmps124
   go_wp2_with fail; go_ret; exact ⟨1, rfl, .inl ⟨by simp; decide, by simp⟩, by decide, rfl⟩
  ·have hb0 : ((Y : Int) == 0) = false := by simpa using h0
   by_cases hm : x = -1
   ·subst hm
    have hp := pow_one_abs (x := -1) rfl Y
    rcases (by omega : Y % 2 = 0 ∨ Y % 2 = 1) with hr | hr
    ·rw [if_pos hr] at hp
     have t1 : (Y : Int) % 2 = 0 := by omega
     have t2 : (Y : Int).tmod 2 = 0 := by rw [Int.tmod_eq_emod_of_nonneg (by omega)]; exact t1
     have w1 : wrap64 (1 - wrap64 0) = 1 := by unfold wrap64; omega
     have w2 : wrap64 0 = 0 := by unfold wrap64; omega
     have w3 : wrap64 1 = 1 := by unfold wrap64; omega
     have HE : Hid ((-1 : Int) ^ Y = 1) := hp; clear hp hr hx
     go_enter Tryz.func124, Tryz.ntmps124
     go_wp2_with fail; go_ret; exact ⟨1, rfl, .inl ⟨by rw [HE.out]; decide, HE.out.symm⟩, by decide, rfl⟩
    ·rw [if_neg (by omega)] at hp
     have t1 : (Y : Int) % 2 = 1 := by omega
     have t2 : (Y : Int).tmod 2 = 1 := by rw [Int.tmod_eq_emod_of_nonneg (by omega)]; exact t1
     have w1 : wrap64 2 = 2 := by unfold wrap64; omega
     have w3 : wrap64 (-1) = -1 := by unfold wrap64; omega
     have HE : Hid ((-1 : Int) ^ Y = -1) := hp; clear hp hr hx
     go_enter Tryz.func124, Tryz.ntmps124
     go_wp2_with fail; go_ret; exact ⟨-1, rfl, .inl ⟨by rw [HE.out]; decide, HE.out.symm⟩, by decide, rfl⟩
   ·have hbm : (x == -1) = false := by simpa using hm
    have HX : Hid (InB x ∧ x ≠ 1 ∧ x ≠ -1) := ⟨hx, h1, hm⟩
    clear hx
    go_enter Tryz.func124, Tryz.ntmps124
    go_wp2_with fail
    go_loopw [5, 6] (fun r i wr => ∃ (j : Nat) (u : Int), j ≤ Y ∧ i = .int .i64 j ∧ r = .int .i64 u ∧ -1000000000000001 ≤ u ∧ u ≤ 1000000000000001 ∧ Hid ((InB u ∧ u = x ^ j) ∨ (¬ InB u ∧ ¬ InB (x ^ Y))) ∧ wr = w) (fun _ i _ => Y - (intOf i).toNat)
    case atStart => exact ⟨0, 1, Nat.zero_le _, rfl, rfl, by decide, by decide, .inl ⟨by decide, by simp⟩, rfl⟩
    case round =>
     obtain ⟨j, u, hj, rfl, rfl, hu1, hu2, HU, rfl⟩ := hrel
     have hend : (¬ j < Y ∨ u = 0 ∨ ¬ InB u) → Sat u (x ^ Y) := fun h => by
      rcases HU.out with ⟨g1, g2⟩ | ⟨g1, g2⟩
      ·left
       rcases h with h | h | h
       ·obtain rfl : j = Y := by omega
        rw [← g2]; exact ⟨g1, rfl⟩
       ·have hx0 : x = 0 := by
         rw [h] at g2
         exact Classical.byContradiction fun hne => (Int.pow_ne_zero hne) g2.symm
        have e : x ^ Y = 0 := by rw [hx0]; exact Int.zero_pow h0
        rw [e, h]; exact ⟨by decide, rfl⟩
       ·exact absurd g1 h
      ·exact .inr ⟨g2, g1, by omega, by omega⟩
     by_cases hlt : j < Y
     ·have hltI : (j : Int) < (Y : Int) := by omega
      by_cases hu0 : u = 0
      ·have HF : Hid (Sat u (x ^ Y)) := hend (.inr (.inl hu0))
       have hub : (u != 0) = false := by simpa using hu0
       clear hend; go_wp2_with fail; go_ret; exact ⟨u, rfl, HF.out, ⟨hu1, hu2⟩, rfl⟩
      ·have hub : (u != 0) = true := by simpa using hu0
       by_cases hin : InB u
       ·have i1 : u ≤ 1000000000000000 := hin.2
        have i2 : -1000000000000000 ≤ u := hin.1
        have hg2 : u = x ^ j := by
         rcases HU.out with h | h
         ·exact h.2
         ·exact absurd hin h.1
        have HT := l6times_any u x wr hin.near HX.out.1.near
        have hux : u * x = x ^ (j + 1) := by rw [hg2, Int.pow_succ]
        rw [hux] at HT
        have HN : Hid (∀ v, Sat v (x ^ (j + 1)) → (InB v ∧ v = x ^ (j + 1)) ∨ (¬ InB v ∧ ¬ InB (x ^ Y))) := fun v hv => by
         rcases hv with ⟨g1, g2⟩ | ⟨g1, g2, _, _⟩
         ·exact .inl ⟨by rw [g2]; exact g1, g2⟩
         ·refine .inr ⟨g2, ?_⟩
          have hxx := HX.out
          have hx0 : x ≠ 0 := fun e => by
           rw [e, Int.zero_pow (by omega)] at g1; exact g1 (by decide)
          exact pow_grows (by omega) (i := j + 1) (by omega) g1
        clear hend hg2 hux hin; go_wp2_with fail; refine HT.mono ?_; rintro e w1 ⟨v, rfl, hv, hnr, rfl⟩; have HV : Hid _ := HN.out v hv; have n1 := hnr.1; have n2 := hnr.2; clear hv hnr HT; go_wp2_with fail; go_roundw
        case rel => exact ⟨j + 1, v, by omega, by go_num, rfl, n1, n2, HV, trivial⟩
        case measure => simp [intOf]; omega
       ·have HF : Hid (Sat u (x ^ Y)) := hend (.inr (.inr hin))
        by_cases i1 : u ≤ 1000000000000000
        ·have i2 : ¬ -1000000000000000 ≤ u := fun h => hin ⟨h, i1⟩
         clear hend hin; go_wp2_with fail; go_ret; exact ⟨u, rfl, HF.out, ⟨hu1, hu2⟩, rfl⟩
        ·clear hend hin
         go_wp2_with fail; go_ret; exact ⟨u, rfl, HF.out, ⟨hu1, hu2⟩, rfl⟩
     ·have hltI : ¬ (j : Int) < (Y : Int) := by omega
      have HF : Hid (Sat u (x ^ Y)) := hend (.inl hlt); clear hend; go_wp2_with fail; go_ret; exact ⟨u, rfl, HF.out, ⟨hu1, hu2⟩, rfl⟩
end
section
open Go Go.RowKit
set_option linter.unusedSimpArgs false
theorem list_byte {l : List (List Int)} (h : (l.all fun s => s.all fun x => decide (0 ≤ x) && decide (x < 256)) = true) (j : Nat) (hj : j < l.length) : Byte (l.getD j []) := fun x hx => by
 have hm : l.getD j [] ∈ l := by
  rw [List.getD_eq_getElem?_getD, List.getElem?_eq_getElem hj]; exact List.getElem_mem _
 have := List.all_eq_true.1 (List.all_eq_true.1 h _ hm) x hx
 simpa using this
theorem mem_getDE {l : List (List Int)} {s : List Int} : s ∈ l ↔ ∃ j, j < l.length ∧ l.getD j [] = s := by
 constructor
 ·intro h
  obtain ⟨j, hj, e⟩ := List.mem_iff_getElem.1 h; exact ⟨j, hj, by simp [List.getD, hj, e]⟩
 ·rintro ⟨j, hj, rfl⟩
  rw [List.getD_eq_getElem?_getD, List.getElem?_eq_getElem hj]; exact List.getElem_mem _
def knW (w : World) : World := (w.alloc (Obj.cells #[Value.string { data := #[45] }, Value.string { data := #[43] }, Value.string { data := #[97, 98, 115] }, Value.string { data := #[115, 105, 103, 110] }, Value.string { data := #[92] }] 9)).alloc (Obj.cells #[Value.string { data := #[43] }, Value.string { data := #[45] }, Value.string { data := #[42] }, Value.string { data := #[109, 105, 110] }, Value.string { data := #[109, 97, 120] }, Value.string { data := #[47, 47] }, Value.string { data := #[114, 101, 109] }, Value.string { data := #[109, 111, 100] }, Value.string { data := #[62, 62] }, Value.string { data := #[60, 60] }, Value.string { data := #[47, 92] }, Value.string { data := #[92, 47] }, Value.string { data := #[120, 111, 114] }, Value.string { data := #[42, 42] }, Value.string { data := #[94] }] 9)
theorem knW_below (w : World) : Below w.heap.size w (knW w) :=
 ((Below.refl _ _).alloc (Nat.le_refl _) _).alloc (by rw [World.size_alloc]; omega) _
theorem knW_ones (w : World) (j : Nat) (hj : j < 5) : (knW w).cell? ⟨w.heap.size, j, none⟩ = some (.string (strOfNums (ones.getD j []))) := by
 have hcases : j = 0 ∨ j = 1 ∨ j = 2 ∨ j = 3 ∨ j = 4 := by omega
 rcases hcases with rfl | rfl | rfl | rfl | rfl
 all_goals (refine (World.cell?_alloc_lt _ _ _ (by rw [World.size_alloc]; exact Nat.lt_succ_self _)).trans ?_; simp <;> rfl)
theorem knW_twos (w : World) (j : Nat) (hj : j < 15) : (knW w).cell? ⟨w.heap.size + 1, j, none⟩ = some (.string (strOfNums (twos.getD j []))) := by
 have hcases : j = 0 ∨ j = 1 ∨ j = 2 ∨ j = 3 ∨ j = 4 ∨ j = 5 ∨ j = 6 ∨ j = 7 ∨ j = 8 ∨ j = 9 ∨ j = 10 ∨ j = 11 ∨ j = 12 ∨ j = 13 ∨ j = 14 := by omega
 rcases hcases with rfl | rfl | rfl | rfl | rfl | rfl | rfl | rfl | rfl | rfl | rfl | rfl | rfl | rfl | rfl
 all_goals (unfold knW; rw [show w.heap.size + 1 = (w.alloc (Obj.cells #[Value.string { data := #[45] }, Value.string { data := #[43] }, Value.string { data := #[97, 98, 115] }, Value.string { data := #[115, 105, 103, 110] }, Value.string { data := #[92] }] 9)).heap.size from (World.size_alloc _ _).symm]; simp <;> rfl)
set_option maxHeartbeats 1200000 in
theorem l6known_any (s : List Int) (hs : Byte s) (n : Int) (w : World) (h1 : 1 ≤ n) (h2 : n ≤ 20) : Calls Tryz.prog 43 #[.string (strOfNums s), .int .i64 n] w fun e w' => e = .returned (.bool (knownB s n)) ∧ Below w.heap.size w w' := by
 have HS : Hid (Byte s) := hs
 obtain ⟨str, es⟩ : ∃ str, str = strOfNums s := ⟨_, rfl⟩
 have HES : Hid (str = strOfNums s) := es; rw [← es]; clear hs es
 by_cases hn : n = 1
 ·subst hn
  go_enter Tryz.func43, Tryz.ntmps43
  go_wp2_with fail
  change Code.wp _ _ _ _ (knW w)
  have HC := knW_ones w; have HCH : Hid (∀ j, j < 5 → (knW w).cell? ⟨w.heap.size, j, none⟩ = some (.string (strOfNums (ones.getD j [])))) := HC; clear HC; have HBW : Hid (Below w.heap.size w (knW w)) := knW_below w
  obtain ⟨W, eW⟩ : ∃ W, W = knW w := ⟨_, rfl⟩
  rw [← eW] at HCH HBW ⊢; clear eW
  obtain ⟨b, eb⟩ : ∃ b, b = w.heap.size := ⟨_, rfl⟩
  have HEB : Hid (b = w.heap.size) := eb; rw [← eb] at HCH HBW ⊢; clear eb
  go_loop [8] (fun a => ∃ j : Nat, j ≤ 5 ∧ a = .int .i64 j ∧ Hid (∀ k, k < j → ones.getD k [] ≠ s)) (fun a => 5 - (intOf a).toNat)
  case atStart => exact ⟨0, by omega, rfl, fun k hk => by omega⟩
  case round =>
   obtain ⟨j, hjl, rfl, HJ⟩ := hrel
   by_cases hlt : j < 5
   ·have hc := HCH.out j hlt
    have hj0 : (0 : Int) ≤ (j : Int) := by omega
    have hjn : (j : Int) < 5 := by omega
    have HBJ : Hid (Byte (ones.getD j [])) := list_byte (by decide) j hlt
    by_cases he : ones.getD j [] = s
    ·have HR : Hid (knownB s 1 = true) := by
      show knownB s 1 = true
      have hm : s ∈ ones := mem_getDE.2 ⟨j, hlt, he⟩
      simp [knownB, hm]
     have HE : Hid (ones.getD j [] = s) := he; rw [he, ← HES.out] at hc; clear he; go_wp2_with fail; go_ret; exact ⟨ret_bool HR.out.symm, by rw [← HEB.out]; exact HBW.out⟩
    ·have HJ2 : Hid (∀ k, k < j + 1 → ones.getD k [] ≠ s) := fun k hk => by
      rcases Nat.lt_or_ge k j with h' | h'
      ·exact HJ.out k h'
      ·have e : k = j := by omega
       rw [e]; exact he
     have hbn : ¬ strOfNums (ones.getD j []) = str := fun h => he (str_ne HBJ.out HS.out (h.trans HES.out))
     obtain ⟨sj, ej⟩ : ∃ sj, sj = strOfNums (ones.getD j []) := ⟨_, rfl⟩
     rw [← ej] at hc hbn
     have hbl : (sj.toList == str.toList) = false := by
      rw [beq_eq_false_iff_ne]
      intro h
      rw [ByteArray.toList_eq, ByteArray.toList_eq] at h; exact hbn (ByteArray.ext (Array.toList_inj.1 h))
     clear he ej hbn; go_wp2_with fail
     go_round
     case rel => exact ⟨j + 1, by omega, by go_num, HJ2⟩
     case measure => simp [intOf]; omega
   ·have hjl' : j = 5 := by omega
    subst hjl'
    have HR : Hid (knownB s 1 = false) := by
     show knownB s 1 = false
     have hm : s ∉ ones := fun h => by
      obtain ⟨k, hk, e⟩ := mem_getDE.1 h; exact HJ.out k hk e
     simp only [knownB, hm, decide_false]
     simp
    go_wp2_with fail; go_ret; exact ⟨ret_bool HR.out.symm, by rw [← HEB.out]; exact HBW.out⟩
 ·have hnb : (n == 1) = false := by simp [hn]
  go_enter Tryz.func43, Tryz.ntmps43
  go_wp2_with fail
  change Code.wp _ _ _ _ (knW w)
  have HC := knW_twos w; have HCH : Hid (∀ j, j < 15 → (knW w).cell? ⟨w.heap.size + 1, j, none⟩ = some (.string (strOfNums (twos.getD j [])))) := HC; clear HC; have HBW : Hid (Below w.heap.size w (knW w)) := knW_below w
  obtain ⟨W, eW⟩ : ∃ W, W = knW w := ⟨_, rfl⟩
  rw [← eW] at HCH HBW ⊢; clear eW
  obtain ⟨b, eb⟩ : ∃ b, b = w.heap.size := ⟨_, rfl⟩
  have HEB : Hid (b = w.heap.size) := eb; rw [← eb] at HCH HBW ⊢; clear eb
  go_loop [8] (fun a => ∃ j : Nat, j ≤ 15 ∧ a = .int .i64 j ∧ Hid (∀ k, k < j → twos.getD k [] ≠ s)) (fun a => 15 - (intOf a).toNat)
  case atStart => exact ⟨0, by omega, rfl, fun k hk => by omega⟩
  case round =>
   obtain ⟨j, hjl, rfl, HJ⟩ := hrel
   by_cases hlt : j < 15
   ·have hc := HCH.out j hlt
    have hj0 : (0 : Int) ≤ (j : Int) := by omega
    have hjn : (j : Int) < 15 := by omega
    have HBJ : Hid (Byte (twos.getD j [])) := list_byte (by decide) j hlt
    by_cases he : twos.getD j [] = s
    ·have HR : Hid (knownB s n = decide (n = 2)) := by
      show knownB s n = decide (n = 2)
      have hm : s ∈ twos := mem_getDE.2 ⟨j, hlt, he⟩
      simp [knownB, hm, hn]
     have HE : Hid (twos.getD j [] = s) := he; rw [he, ← HES.out] at hc; clear he; go_wp2_with fail; go_ret; exact ⟨ret_bool HR.out.symm, by rw [← HEB.out]; exact HBW.out⟩
    ·have HJ2 : Hid (∀ k, k < j + 1 → twos.getD k [] ≠ s) := fun k hk => by
      rcases Nat.lt_or_ge k j with h' | h'
      ·exact HJ.out k h'
      ·have e : k = j := by omega
       rw [e]; exact he
     have hbn : ¬ strOfNums (twos.getD j []) = str := fun h => he (str_ne HBJ.out HS.out (h.trans HES.out))
     obtain ⟨sj, ej⟩ : ∃ sj, sj = strOfNums (twos.getD j []) := ⟨_, rfl⟩
     rw [← ej] at hc hbn
     have hbl : (sj.toList == str.toList) = false := by
      rw [beq_eq_false_iff_ne]
      intro h
      rw [ByteArray.toList_eq, ByteArray.toList_eq] at h; exact hbn (ByteArray.ext (Array.toList_inj.1 h))
     clear he ej hbn; go_wp2_with fail
     go_round
     case rel => exact ⟨j + 1, by omega, by go_num, HJ2⟩
     case measure => simp [intOf]; omega
   ·have hjl' : j = 15 := by omega
    subst hjl'
    have HR : Hid (knownB s n = false) := by
     show knownB s n = false
     have hm : s ∉ twos := fun h => by
      obtain ⟨k, hk, e⟩ := mem_getDE.1 h; exact HJ.out k hk e
     simp only [knownB, hm, hn, decide_false]
     simp
    go_wp2_with fail; go_ret; exact ⟨ret_bool HR.out.symm, by rw [← HEB.out]; exact HBW.out⟩
def trsF : Fo → List Tr
 | .nil => []
 | .node c k r => (c, k) :: trsF r
theorem trsF_len : ∀ F : Fo, (trsF F).length = F.count
 | .nil => rfl
 | .node _ _ r => by simp [trsF, Fo.count, trsF_len r]
def ArgRow (w : World) : List (Option Addr × Nat × Nat) → List Tr → Prop
 | [], [] => True
 | r :: rs, t :: ts => r.2.1 = 1 + t.2.cells.length ∧ r.2.1 ≤ r.2.2 ∧ r.2.2 ≤ 9223372036854775807 ∧ CIn w r.1 (t.1 :: t.2.cells) ∧ ArgRow w rs ts
 | [], _ :: _ => False
 | _ :: _, [] => False
theorem ArgRow.snoc {w : World} {r : Option Addr × Nat × Nat} {t : Tr} (h1 : r.2.1 = 1 + t.2.cells.length) (h2 : r.2.1 ≤ r.2.2) (h3 : r.2.2 ≤ 9223372036854775807) (h4 : CIn w r.1 (t.1 :: t.2.cells)) : ∀ {rs : List (Option Addr × Nat × Nat)} {ts : List Tr}, ArgRow w rs ts → ArgRow w (rs ++ [r]) (ts ++ [t])
 | [], [], _ => ⟨h1, h2, h3, h4, trivial⟩
 | _ :: _, _ :: _, h => ⟨h.1, h.2.1, h.2.2.1, h.2.2.2.1, ArgRow.snoc h1 h2 h3 h4 h.2.2.2.2⟩
 | [], _ :: _, h => h.elim
 | _ :: _, [], h => h.elim
structure ArgSt (w wr : World) (cs : List Cel) (k : Fo) (a : Nat) (D : List Tr) (G : Fo) (pt : Option Addr) (nt ct : Nat) (rs : List (Option Addr × Nat × Nat)) : Prop where
 gd : cs.drop a = G.cells
 gok : G.ok
 all : D ++ trsF G = trsF k
 cnt : nt = D.length
 row : wr.ownsRow w.heap.size 23 1 (.slice pt nt ct) nt (rs.map slV)
 arg : ArgRow w rs D
 low : Below w.heap.size w wr
def ArgsOut (w : World) (k : Fo) (e : Ending) (w' : World) : Prop := ∃ q m mc rs, e = .returned (.slice q m mc) ∧ m = k.count ∧ w'.ownsRow w.heap.size 23 1 (.slice q m mc) m (rs.map slV) ∧ ArgRow w rs (trsF k) ∧ Below w.heap.size w w'
set_option maxHeartbeats 2000000 in
theorem l2args_any (c : Cel) (k : Fo) (p : Option Addr) (n cap : Nat) (w : World) (h3 : c.1 = 3) (hok : (Fo.node c k .nil).ok) (hn : n = (c :: k.cells).length) (hnm : n ≤ 2000) (hcap : n ≤ cap) (hcm : cap ≤ 9223372036854775807) (hin : CIn w p (c :: k.cells)) :
  Calls Tryz.prog 46 #[.slice p n cap] w (ArgsOut w k) := by
 obtain ⟨b, o, rfl, hcs⟩ := hin (by simp)
 have HK : Hid (∀ wr, Below w.heap.size w wr → wr.cell? ⟨b, o, none⟩ = some (.int .i64 3) ∧ wr.cell? ⟨b, o + 1, none⟩ = some (.int .i64 k.count)) := fun wr hb => by
  obtain ⟨p0, q0, d0, d1, _, _⟩ := (hcs 0 (by simp)).below hb; simp only [List.getD_cons_zero, Nat.zero_mul, Nat.add_zero] at d0 d1; rw [h3] at d0; rw [hok.2.2.1 h3] at d1; exact ⟨d0, d1⟩
 obtain ⟨d0, d1⟩ := HK.out w (Below.refl _ _)
 have hb20 : k.count ≤ 20 := by
  have h := hok.1; rw [h3] at h; have := cellB_comp h; have := hok.2.2.1 h3
  omega
 have HST : Hid (ArgSt w w (c :: k.cells) k 1 [] k none 0 0 []) := ⟨rfl, hok.2.2.2.2.1, rfl, rfl, World.ownsRow_nil _ _ _ _, trivial, Below.refl _ _⟩
 have HGL : Hid (1 + k.cells.length = n) := by show _ = _; rw [hn]; simp; omega
 obtain ⟨cs, ecs⟩ : ∃ cs, cs = c :: k.cells := ⟨_, rfl⟩
 rw [← ecs] at hcs hn HST hin; have HX : Hid (∀ i, i < cs.length → CAt w b (o + i * 3) (cs.getD i Cel.none)) := hcs; have HIN : Hid (CIn w (some ⟨b, o, none⟩) cs) := hin; have HN : Hid (n = cs.length) := hn
 obtain ⟨M, eM⟩ : ∃ M, M = k.count := ⟨_, rfl⟩
 have HM : Hid (M = k.count) := eM; rw [← eM] at HK d1 hb20
 have hn0 : 0 < n := by have := HGL.out; omega
 have hn00 : ((n : Int) == 0) = false := by rw [beq_eq_false_iff_ne]; omega
 clear hcs hin hn ecs eM h3 hok
 go_enter Tryz.func46, Tryz.ntmps46
 go_wp2_with fail; clear d0 d1
 go_loopw [3, 4, 5] (fun s3 s4 s5 wr => ∃ (a : Nat) (D : List Tr) (G : Fo) (pt : Option Addr) (nt ct : Nat) (rs : List (Option Addr × Nat × Nat)), a ≤ n ∧ nt ≤ M ∧ s3 = .slice pt nt ct ∧ s4 = .int .i64 a ∧ s5 = .int .i64 nt ∧ Hid (a + G.cells.length = n) ∧ Hid (ArgSt w wr cs k a D G pt nt ct rs)) (fun _ _ i _ => M - (intOf i).toNat)
 case atStart => exact ⟨1, [], k, none, 0, 0, [], by omega, Nat.zero_le _, rfl, rfl, rfl, HGL.out, HST.out⟩
 case round =>
  obtain ⟨a, D, G, pt, nt, ct, rs, ha, hnt, rfl, rfl, rfl, HL, HS⟩ := hrel; obtain ⟨d0, d1⟩ := HK.out wr HS.out.low
  by_cases hlt : nt < M
  ·obtain ⟨c1, k1, r1, rfl⟩ : ∃ c k r, G = .node c k r := by
    cases G with
    | nil =>
      have h1 := HS.out.all; have h2 := congrArg List.length h1; have h3 := HS.out.cnt; have h4 := HM.out
      simp [trsF, trsF_len] at h2
      omega
    | node c k r => exact ⟨c, k, r, rfl⟩
   have hgd : cs.drop a = c1 :: (k1.cells ++ r1.cells) := HS.out.gd; have HO : Hid (Fo.node c1 k1 r1).ok := HS.out.gok
   have HT : Hid (Fo.node c1 k1 .nil).ok := ⟨HO.out.1, HO.out.2.1, HO.out.2.2.1, HO.out.2.2.2.1, HO.out.2.2.2.2.1, trivial⟩
   have HNX := l2next_any (some ⟨b, o, none⟩) n cap cs a c1 k1 r1.cells wr HN.out (by omega) hgd HT.out (HIN.out.below HS.out.low); have HPT : Hid (CIn w (some ⟨b, o + a * 3, none⟩) (c1 :: k1.cells)) := CIn.part HX.out a (by rw [hgd]; exact ⟨r1.cells, by simp⟩)
   obtain ⟨L, eL⟩ : ∃ L, L = 1 + k1.cells.length := ⟨_, rfl⟩
   have HEL : Hid (L = 1 + k1.cells.length) := eL
   have hnx : a + 1 + k1.cells.length = a + L := by omega
   have HDR : Hid (cs.drop (a + L) = r1.cells) := by
    show _ = _
    rw [← hnx, show a + 1 + k1.cells.length = (a + 1) + k1.cells.length by omega, ← List.drop_drop, (drop_cell hgd).2.2]; simp
   have hle : a + L ≤ n := by have := HL.out; simp [Fo.cells] at this; omega
   rw [hnx] at HNX
   have HLL : Hid (a + L + r1.cells.length = n) := by show _ = _; have := HL.out; simp [Fo.cells] at this; omega
   have hL1 : 1 ≤ L := by omega
   have hma : (0 : Int) < (cap : Int) - (a : Int) := by omega
   have hL2 : (a : Int) ≤ (a : Int) + (L : Int) := by omega
   have hL3 : (a : Int) + (L : Int) ≤ (n : Int) := by omega
   have hL4 : (a : Int) + (L : Int) ≤ (cap : Int) := by omega
   have hcap1 : ¬ cap = a := by omega
   have hcap2 : ¬ cap - a = 0 := by omega
   have hltI : (nt : Int) < (M : Int) := by omega
   clear hgd eL hnx; go_wp2_with fail; refine HNX.mono ?_; rintro e w3 ⟨rfl, rfl⟩; clear HNX; go_wp2_with (at_builtin; refine app_sl _ rfl _ _ rfl w.heap.size pt nt ct rs (some ⟨b, o + a * 3, none⟩) L (cap - a) rfl HS.out.row rfl (by omega) HS.out.low.size ?_; intro g6 cap6 w6 hown6 hg6); have hbal := HS.out.low.alloc HS.out.low.size (.cells #[.slice (some ⟨b, o + a * 3, none⟩) L (cap - a)] 23)
   have HS6 : Hid (ArgSt w w6 cs k (a + L) (D ++ [(c1, k1)]) r1 (some ⟨g6, 0, none⟩) (nt + 1) cap6 (rs ++ [(some ⟨b, o + a * 3, none⟩, L, cap - a)])) :=
    ⟨HDR.out, HO.out.2.2.2.2.2, by rw [← HS.out.all]; simp [trsF], by rw [HS.out.cnt]; simp, hown6, ArgRow.snoc HEL.out (by simp only; omega) (by simp only; omega) HPT.out HS.out.arg, hbal.grown hg6 hbal.size (fun k e => (HS.out.row.lt k e).1)⟩
   clear hown6 hg6 hbal; go_roundw
   case rel => exact ⟨a + L, D ++ [(c1, k1)], r1, some ⟨g6, 0, none⟩, nt + 1, cap6, _, by omega, by omega, rfl, by go_num, by go_num, HLL.out, HS6⟩
   case measure => simp [intOf]; omega
  ·obtain rfl : nt = M := by omega
   have HF : Hid (ArgRow w rs (trsF k)) := by
    show ArgRow w rs (trsF k)
    have h1 := HS.out.all; have h2 := congrArg List.length h1; have h3 := HS.out.cnt; have h4 := HM.out
    simp [trsF_len] at h2
    have h5 : trsF G = [] := List.length_eq_zero_iff.1 (by rw [trsF_len]; omega); rw [h5, List.append_nil] at h1; rw [← h1]; exact HS.out.arg
   go_wp2_with fail; go_ret; exact ⟨pt, _, ct, rs, rfl, HM.out, HS.out.row, HF.out, HS.out.low⟩
end
section
open Go Go.RowKit
def keyC (c : Cel) : List UInt8 × Int := ((strOfNums c.2.2).toList, srt c.2.1)
theorem ltO_iff_key (x y : Cel) : ltO x y = true ↔ Op.bytesLess (keyC x).1 (keyC y).1 = true ∨ ((keyC x).1 = (keyC y).1 ∧ (keyC x).2 < (keyC y).2) := by
 rw [ltO, decide_eq_true_eq, opCmp_lt]; rfl
theorem ltO_irrefl (x : Cel) : ltO x x = false := by
 cases h : ltO x x with
 | false => rfl
 | true => rw [ltO_iff_key, bl_irrefl] at h; simp at h
theorem ltO_asymm {x y : Cel} (h : ltO x y = true) : ltO y x = false := by
 cases h2 : ltO y x with
 | false => rfl
 | true => have := ltO_trans h h2; rw [ltO_irrefl] at this; cases this
theorem srt_two (t : Int) : srt t = 0 ∨ srt t = 1 := by unfold srt; split <;> simp
theorem ltO_tri {x y : Cel} (hk : keyC x ≠ keyC y) (h : ltO x y = false) : ltO y x = true := by
 have h' : ¬ ltO x y = true := by rw [h]; simp
 rw [ltO_iff_key] at h' ⊢
 by_cases e : (keyC x).1 = (keyC y).1
 ·refine .inr ⟨e.symm, ?_⟩
  have n : ¬ (keyC x).2 < (keyC y).2 := fun z => h' (.inr ⟨e, z⟩)
  have n2 : (keyC x).2 ≠ (keyC y).2 := fun z => hk (Prod.ext e z)
  omega
 ·exact .inl (bl_tri _ _ (by simpa using fun z => h' (.inl z)) e)
def putL (o : Cel) : Bool → List Cel → List Cel
 | done, [] => if done then [] else [o]
 | done, x :: r => if keyC x = keyC o then putL o done r else if !done && ltO o x then o :: x :: putL o true r else x :: putL o done r
def putO (cs : List Cel) (o : Cel) : List Cel := putL o (o.1 == 0) cs
theorem putL_done (o : Cel) : ∀ cs : List Cel, putL o true cs = cs.filter (fun x => decide (keyC x ≠ keyC o))
 | [] => rfl
 | x :: r => by
   rw [putL, putL_done o r, List.filter_cons]
   by_cases e : keyC x = keyC o <;> simp [e]
theorem putL_mem (o : Cel) : ∀ (cs : List Cel) (x : Cel), x ∈ putL o false cs ↔ x = o ∨ (x ∈ cs ∧ keyC x ≠ keyC o)
 | [], x => by simp [putL]
 | y :: r, x => by
   have ih := putL_mem o r x; rw [putL]
   by_cases e : keyC y = keyC o
   ·rw [if_pos e, ih, List.mem_cons]
    constructor
    ·rintro (h | h)
     ·exact .inl h
     ·exact .inr ⟨.inr h.1, h.2⟩
    ·rintro (h | ⟨h | h, h2⟩)
     ·exact .inl h
     ·exact absurd (h ▸ e) h2
     ·exact .inr ⟨h, h2⟩
   ·rw [if_neg e]
    by_cases l : ltO o y = true
    ·rw [if_pos (by simp [l]), putL_done]
     simp only [List.mem_cons, List.mem_filter, decide_eq_true_eq]
     constructor
     ·rintro (h | h | h)
      ·exact .inl h
      ·exact .inr ⟨.inl h, by rw [h]; exact e⟩
      ·exact .inr ⟨.inr h.1, h.2⟩
     ·rintro (h | ⟨h | h, h2⟩)
      ·exact .inl h
      ·exact .inr (.inl h)
      ·exact .inr (.inr ⟨h, h2⟩)
    ·rw [if_neg (by simp [l]), List.mem_cons, ih, List.mem_cons]
     constructor
     ·rintro (h | h | h)
      ·exact .inr ⟨.inl h, by rw [h]; exact e⟩
      ·exact .inl h
      ·exact .inr ⟨.inr h.1, h.2⟩
     ·rintro (h | ⟨h | h, h2⟩)
      ·exact .inr (.inl h)
      ·exact .inl h
      ·exact .inr (.inr ⟨h, h2⟩)
def Asc (cs : List Cel) : Prop := cs.Pairwise (fun x y => ltO x y = true)
theorem Asc.filter {cs : List Cel} (h : Asc cs) (p : Cel → Bool) : Asc (cs.filter p) := List.Pairwise.filter p h
theorem putL_asc (o : Cel) : ∀ cs : List Cel, Asc cs → Asc (putL o false cs)
 | [], _ => by simp [putL, Asc]
 | y :: r, h => by
   have h1 := List.pairwise_cons.1 h; have ih := putL_asc o r h1.2; rw [putL]
   by_cases e : keyC y = keyC o
   ·rw [if_pos e]; exact ih
   ·rw [if_neg e]
    by_cases l : ltO o y = true
    ·rw [if_pos (by simp [l]), putL_done]
     refine List.Pairwise.cons (fun z hz => ?_) (List.Pairwise.cons (fun z hz => h1.1 z (List.mem_filter.1 hz).1) (h1.2.filter _))
     rcases List.mem_cons.1 hz with rfl | hz
     ·exact l
     ·exact ltO_trans l (h1.1 z (List.mem_filter.1 hz).1)
    ·rw [if_neg (by simp [l])]
     refine List.Pairwise.cons (fun z hz => ?_) ih
     rcases (putL_mem o r z).1 hz with rfl | hz
     ·exact ltO_tri (fun x => e x.symm) (by simpa using l)
     ·exact h1.1 z hz.1
theorem asc_unique : ∀ (a b : List Cel), Asc a → Asc b → (∀ x, x ∈ a ↔ x ∈ b) → a = b
 | [], [], _, _, _ => rfl
 | [], y :: s, _, _, h => by have := (h y).2 (List.mem_cons_self ..); cases this
 | x :: r, [], _, _, h => by have := (h x).1 (List.mem_cons_self ..); cases this
 | x :: r, y :: s, ha, hb, h => by
   have h1 := List.pairwise_cons.1 ha; have h2 := List.pairwise_cons.1 hb
   have e : x = y := by
    rcases List.mem_cons.1 ((h x).1 (List.mem_cons_self ..)) with h3 | h3
    ·exact h3
    ·rcases List.mem_cons.1 ((h y).2 (List.mem_cons_self ..)) with h4 | h4
     ·exact h4.symm
     ·have := ltO_asymm (h1.1 y h4)
      rw [h2.1 x h3] at this
      cases this
   subst e; rw [asc_unique r s h1.2 h2.2 (fun z => ?_)]
   constructor
   ·intro hz
    rcases List.mem_cons.1 ((h z).1 (List.mem_cons_of_mem _ hz)) with h3 | h3
    ·subst h3; have := h1.1 z hz; rw [ltO_irrefl] at this; cases this
    ·exact h3
   ·intro hz
    rcases List.mem_cons.1 ((h z).2 (List.mem_cons_of_mem _ hz)) with h3 | h3
    ·subst h3; have := h2.1 z hz; rw [ltO_irrefl] at this; cases this
    ·exact h3
def findK (cs : List Cel) (k : List UInt8 × Int) : Option Cel := cs.find? (fun x => decide (keyC x = k))
def hasK (cs : List Cel) (k : List UInt8 × Int) : Bool := cs.any (fun x => decide (keyC x = k))
end
section
open Go Go.RowKit Go.Maps
abbrev OKey := ByteArray × Int
theorem laidOk : laidOutB Tryz.prog = true := by kernel_rfl
theorem rowOk : (129 : TypeId) < Tryz.prog.types.size := of_decide_eq_true (by kernel_rfl)
theorem keyAtOk : Tryz.prog.keyTypeAt 3 129 = true := by kernel_rfl
theorem lawOkK : WideMaps.KeyLaw Tryz.prog 129 := deep_law_laid laidOk (m := 3) (by decide) rowOk keyAtOk (by kernel_rfl)
theorem lawOk : Keyed Tryz.prog 129 := Keyed.of_law lawOkK
theorem typOk : Tryz.prog.keyType 129 = true := by kernel_rfl
theorem cellsOk : Tryz.prog.cellsOf 129 = 2 := by kernel_rfl
theorem cellsStrO : Tryz.prog.cellsOf 9 = 1 := by kernel_rfl
theorem cellsSrt : Tryz.prog.cellsOf 127 = 1 := by kernel_rfl
def okk (f : OKey) : Lit := .string (keyBytes [.string f.1.data.toList, .int .i64 f.2])
theorem nTypesO : ∃ n, Tryz.prog.types.size = n + 1 := by
 have h : 129 < Tryz.prog.types.size := rowOk
 generalize Tryz.prog.types.size = m at h
 exact ⟨m - 1, by omega⟩
theorem keyOk (f : OKey) (hs : f.1.size ≤ 1000000) (h0 : 0 ≤ f.2) (h1 : f.2 ≤ 1000000) : keyOf Tryz.prog 129 (.agg #[.string f.1, .int .i64 f.2]) = some (okk f) := by
 obtain ⟨n, hn⟩ := nTypesO
 have hx : f.1.size ≤ maxLen := by unfold maxLen; omega
 have hw : (Lit.int .i64 f.2).wf = true := WalkArith.wf_i64 (by omega); exact keyPair Tryz.prog 129 9 127 _ _ _ rfl Tryz.underlying129 rfl rfl rfl rfl (by decide) (by decide) Tryz.underlying9 Tryz.underlying127 cellsOk cellsStrO cellsSrt typOk n hn f.1 f.2 hx hw
theorem ok_inj {f g : OKey} (hf : f.1.size ≤ 1000000 ∧ 0 ≤ f.2 ∧ f.2 ≤ 1000000) (hg : g.1.size ≤ 1000000 ∧ 0 ≤ g.2 ∧ g.2 ≤ 1000000) (h : okk f = okk g) : f = g := by
 have h1 := keyOk f hf.1 hf.2.1 hf.2.2; have h2 := keyOk g hg.1 hg.2.1 hg.2.2; rw [← h] at h2; have := lawOk.inj h1 h2; obtain ⟨f1, f2⟩ := f; obtain ⟨g1, g2⟩ := g
 simpa using this
theorem keyOk_inv (key : Value) (kl : Lit) (h : keyOf Tryz.prog 129 key = some kl) : ∃ x : OKey, key = .agg #[.string x.1, .int .i64 x.2] := by
 obtain ⟨n, hn⟩ := nTypesO; obtain ⟨x, y, h⟩ := keyPair_inv Tryz.prog 129 9 127 _ _ _ rfl Tryz.underlying129 rfl rfl rfl rfl (by decide) (by decide) Tryz.underlying9 Tryz.underlying127 cellsOk cellsStrO cellsSrt n hn h; exact ⟨(x, y), h⟩
end
section
open Go Go.RowKit Go.Sort Go.Shelf
theorem ltO_same {x x' y : Cel} (h : keyC x = keyC x') : ltO x y = ltO x' y := by rw [Bool.eq_iff_iff, ltO_iff_key, ltO_iff_key, h]
theorem op_ntrans (x y z : Cel) (h1 : ltO x y = false) (h2 : ltO y z = false) : ltO x z = false := by
 by_cases e : keyC x = keyC y
 ·rw [ltO_same e]; exact h2
 ·have h3 := ltO_tri e h1
  cases h : ltO x z with
  | false => rfl
  | true => rw [ltO_trans h3 h] at h2; cases h2
abbrev RowE (w : World) (B blk : Nat) := { x : RC × Cel // Fits w B x.1 x.2 ∧ (0 < x.1.2.2.2.1 → x.1.2.2.1 ≠ some ⟨blk, 0, none⟩) }
def encE {w : World} {B blk : Nat} (x : RowE w B blk) : List Value := roV x.1.1
def cfE {w : World} {B blk : Nat} (x y : RowE w B blk) : Int := opCmp x.1.2 y.1.2
theorem e_swo {w : World} {B blk : Nat} : SWO (ltOf (cfE (w := w) (B := B) (blk := blk))) where
 irrefl x := ltO_irrefl x.1.2
 trans x y z h1 h2 := ltO_trans (x := x.1.2) (y := y.1.2) (z := z.1.2) h1 h2
 ntrans x y z h1 h2 := op_ntrans x.1.2 y.1.2 z.1.2 h1 h2
theorem grownBy_sortE {w W : World} {B blk g n : Nat} {os : Array Obj} (d : Array (RowE w B blk)) [Inhabited (RowE w B blk)] : W.grownBy (sortWorldK encE 3 W g 0 n d os) (some g) := by
 refine ⟨rfl, rfl, rfl, by simp [sortWorldK, putRowK], fun k hk hne => ?_⟩; rw [sortWorldK, heap_grow_old _ _ (by simpa [putRowK] using hk)]
 have : g ≠ k := fun e => hne (by rw [e])
 simp [putRowK, putRow, mapBlock, Sort.ahead, Array.getElem?_modify, this]
theorem ownT_grown {w w' : World} {B blk : Nat} {p : Option Addr} {n c : Nat} {ys : List Int} (h : OwnT w B p n c ys) (hg : w.grownBy w' (some blk)) (hne : 0 < n → p ≠ some ⟨blk, 0, none⟩) : OwnT w' B p n c ys := by
 refine h.other hg.size (fun g hn e => ?_); obtain ⟨g', e', _, hlt, _⟩ := h.2 hn
 have eg : g = g' := by rw [e] at e'; exact congrArg Addr.block (Option.some.inj e')
 subst eg; exact hg.block g hlt (fun h' => hne hn (by rw [e, Option.some.inj h']))
theorem isAggOp (w : World) : (isAgg 132).run Tryz.prog w = .ok true w := by kernel_rfl
theorem sizeOfOp (w : World) : (Go.sizeOf 132).run Tryz.prog w = .ok 3 w := by kernel_rfl
theorem cmpLaysOp {w : World} {B g : Nat} [Inhabited (RowE w B g)] (size : Nat) : CmpLays Tryz.prog 66 #[] (encE (w := w) (B := B) (blk := g)) 3 cfE g 0 size w := fun m os dk _ x y => by
 obtain ⟨⟨rx, cx⟩, fx, nx⟩ := x; obtain ⟨⟨ry, cy⟩, fy, ny⟩ := y; have hg : w.grownBy (sortWorldK encE 3 w g 0 m dk os) (some g) := grownBy_sortE dk
 have bx := (ownT_grown fx.2.2 hg nx)
 have bY := (ownT_grown fy.2.2 hg ny)
 have h := compareOps_any rx.1 rx.2.1 ry.1 ry.2.1 rx.2.2.1 ry.2.2.1 rx.2.2.2.1 ry.2.2.2.1 rx.2.2.2.2 ry.2.2.2.2 cx.2.2 cy.2.2 (sortWorldK encE 3 w g 0 m dk os) fx.2.2.len fy.2.2.len bx.bin bY.bin
 have e1 : ((rx.1, rx.2.1, cx.2.2) : Cel) = cx := by rw [fx.1, fx.2.1]
 have e2 : ((ry.1, ry.2.1, cy.2.2) : Cel) = cy := by rw [fy.1, fy.2.1]
 rw [e1, e2] at h; exact h
theorem heap_sortedK {w : World} {g n : Nat} {os : Array Obj} {cur : Array Value} {e : TypeId} {fr : Nat × Nat} (F : Array Value) (hb : w.heap[g]? = some (.cells cur e fr)) :
  (grow (putRow id (Sort.ahead w n) g 0 F) os).heap[g]? = some (.cells (putCells id 0 F cur) e fr) := by
 have hg : g < w.heap.size := (Array.getElem?_eq_some_iff.1 hb).1; rw [heap_grow_old _ _ (by simpa using hg)]
 simp [putRow, mapBlock, Sort.ahead, Array.getElem?_modify, hb, onCells]
theorem take_putCellsK (cur F : Array Value) (h : F.size ≤ cur.size) : (putCells id 0 F cur).toList.take F.size = F.toList := by
 apply List.ext_getElem?
 intro j
 by_cases hj : j < F.size
 ·rw [List.getElem?_take_of_lt hj, Array.getElem?_toList]
  simp [putCells, hj, show j < cur.size by omega]
 ·rw [List.getElem?_take_eq_none (by omega), List.getElem?_eq_none (by simp; omega)]
theorem flat_list {w : World} {B g : Nat} [Inhabited (RowE w B g)] (d : Array (RowE w B g)) : (flatK encE 3 d).toList = flatO (d.toList.map (fun x => x.1.1)) := by
 apply List.ext_getElem?
 intro j
 by_cases hj : j < d.size * 3
 ·have hi : j / 3 < d.size := by omega
  have h := flatO_at (d.toList.map (fun x => x.1.1)) (j / 3) (by simpa using hi)
  have hd : (d.toList.map (fun x => x.1.1)).getD (j / 3) RC.zero = (d[j / 3]!).1.1 := by simp [List.getD, hi]
  rw [hd] at h; have hf := get_flatK encE 3 d j hj
  have hs : j < (flatK (encE (w := w) (B := B) (blk := g)) 3 d).size := by simpa using hj
  rw [Array.getElem?_toList, Array.getElem?_eq_getElem hs]; rw [getElem!_pos _ j hs] at hf; rw [hf]; obtain ⟨h0, h1, h2⟩ := h
  have h3 : j % 3 = 0 ∨ j % 3 = 1 ∨ j % 3 = 2 := by omega
  rcases h3 with h3 | h3 | h3
  ·rw [show j / 3 * 3 = j by omega] at h2
   rw [h2, h3]; simp [encE, roV]
  ·rw [show j / 3 * 3 + 1 = j by omega] at h0
   rw [h0, h3]; simp [encE, roV]
  ·rw [show j / 3 * 3 + 2 = j by omega] at h1
   rw [h1, h3]; simp [encE, roV]
 ·rw [List.getElem?_eq_none (by simp; omega), List.getElem?_eq_none (by rw [flatO_len]; simp; omega)]
theorem sortOps_any (w : World) (B g n cap : Nat) (cs : List Cel) (h : OwnO w B (some ⟨g, 0, none⟩) n cap cs) (hn : 0 < n) (hl : n ≤ 100000) :
  Calls Tryz.prog 65 #[.slice (some ⟨g, 0, none⟩) n cap, .func (.func 66) #[] #[]] w fun e w' => e = .returned (.tuple #[]) ∧
   ∃ ds : List Cel, ds.Perm cs ∧ ds.Pairwise (fun x y => ltO y x = false) ∧ OwnO w' B (some ⟨g, 0, none⟩) n cap ds ∧ w.grownBy w' (some g) := by
 obtain ⟨hnc, rs, hrl, hr, hf, ha⟩ := h
 have mk : ∀ i, i < n → Fits w B (rs.getD i RC.zero) (cs.getD i Cel.none) ∧ (0 < (rs.getD i RC.zero).2.2.2.1 → (rs.getD i RC.zero).2.2.1 ≠ some ⟨g, 0, none⟩) := fun i hi => ⟨hf i (by omega), fun hp => ha.1 i (by omega) hp⟩
 obtain ⟨L, hL⟩ : ∃ L : List (RowE w B g), L = (List.range n).attach.map (fun i => ⟨(rs.getD i.1 RC.zero, cs.getD i.1 Cel.none), mk i.1 (List.mem_range.1 i.2)⟩) := ⟨_, rfl⟩
 have hLr : L.map (fun x => x.1.1) = rs := by
  rw [hL, List.map_map]
  apply List.ext_getElem (by simp; omega)
  intro i h1 h2
  simp [List.getD, h2]
 have hLc : L.map (fun x => x.1.2) = cs := by
  rw [hL, List.map_map]
  apply List.ext_getElem (by simp; omega)
  intro i h1 h2
  simp [List.getD, h2]
 have hLn : L.length = n := by have := congrArg List.length hLc; simp at this; omega
 haveI : Inhabited (RowE w B g) := ⟨L[0]'(by omega)⟩
 obtain ⟨cur, hcap, hgB, hgh, hcap1, hcap2, hcur, hrow⟩ : ∃ cur : Array Value, True ∧ B ≤ g ∧ w.heap[g]? = some (.cells cur 132 (0, 0)) ∧ n ≤ cap ∧ cap ≤ maxLen ∧ cur.size = cap * 3 ∧ cur.toList.take (n * 3) = flatO rs := by
  rcases hr.2 with ⟨h', _⟩ | ⟨g', cap', cur, hv, hB, hg', h1, h2, h3, h4⟩
  ·simp at h'
  ·simp only [Value.slice.injEq, Option.some.injEq, Addr.mk.injEq, and_true, true_and] at hv
   obtain ⟨rfl, rfl⟩ := hv; exact ⟨cur, trivial, hB, hg', h1, h2, h3, h4⟩
 have hH : HoldsK encE 3 w g 0 L.toArray := fun j hj => by
  simp only [size_flatK, List.size_toArray] at hj; have hfl := flat_list (w := w) (B := B) (g := g) L.toArray; simp only [hLr] at hfl; refine ⟨?_, by simp [World.frozen?, hgh]⟩
  have hs : j < (flatK (encE (w := w) (B := B) (blk := g)) 3 L.toArray).size := by simpa using hj
  rw [Nat.zero_add, getElem!_pos _ j hs]; have h1 := hr.cellAt j (by omega); rw [h1, ← hfl, Array.getElem?_toList, Array.getElem?_eq_getElem hs]
  rfl
 have eg : ∀ args w, (callFunc 66 args).run Tryz.prog w = .ok (.enter 66 args) w := enters_of Tryz.func66 (by kernel_rfl) rfl; have hcon := AnyQ.slices_SortFunc Tryz.sortOpL 3 isAggOp sizeOfOp (encE (w := w) (B := B) (blk := g)) (fun _ => rfl) (fun x v hv => by simp [encE, roV] at hv; rcases hv with rfl | rfl | rfl <;> rfl) cfE e_swo 66 #[] g 0 cap L.toArray w eg (cmpLaysOp _) hH (Array.getElem?_eq_some_iff.1 hgh).1 (by simp; omega); simp only [List.size_toArray, hLn] at hcon; refine hcon.mono ?_; rintro e w' ⟨rfl, d', m, os, hp, hs, rfl⟩
 have hsz : d'.size = n := by have := hp.1; simp at this; omega
 have hperm : d'.toList.Perm L := by
  have := hp.2.2; rw [Array.extract_eq_self_of_le (by omega), Array.extract_eq_self_of_le (by simp; omega)] at this
  simpa using this
 have hg : w.grownBy (sortWorldK encE 3 w g 0 m d' os) (some g) := grownBy_sortE d'; refine ⟨rfl, d'.toList.map (fun x => x.1.2), ?_, ?_, ⟨by simp [hsz], d'.toList.map (fun x => x.1.1), by simp, ⟨?_, .inr ⟨g, cap, _, rfl, hgB, heap_sortedK _ hgh, hcap1, hcap2, ?_, ?_⟩⟩, fun i hi => ?_, fun i hi hp0 => ?_, ?_⟩, hg⟩
 ·rw [← hLc]; exact hperm.map _
 ·rw [List.pairwise_map, List.pairwise_iff_getElem]
  intro i j h1 h2 hij
  have h := hs i j (Nat.zero_le _) hij (by simpa [hsz] using h2)
  have e1 : d'[i]! = d'.toList[i] := by simp [show i < d'.size by simpa using h1]
  have e2 : d'[j]! = d'.toList[j] := by simp [show j < d'.size by simpa using h2]
  rw [e1, e2] at h; exact h
 ·rw [flatO_len]; simp [hsz]
 ·simp [putCells, hcur]
 ·have h1 := take_putCellsK cur (flatK encE 3 d') (by simp; omega)
  rw [flat_list] at h1; simp only [size_flatK, hsz] at h1; exact h1
 ·have hi' : i < d'.toList.length := by simpa using hi
  have e1 : (d'.toList.map (fun x => x.1.1)).getD i RC.zero = (d'.toList[i]).1.1 := by simp [List.getD, show i < d'.size by simpa using hi']
  have e2 : (d'.toList.map (fun x => x.1.2)).getD i Cel.none = (d'.toList[i]).1.2 := by simp [List.getD, show i < d'.size by simpa using hi']
  rw [e1, e2]; have hx := (d'.toList[i]).2; exact ⟨hx.1.1, hx.1.2.1, ownT_grown hx.1.2.2 hg hx.2⟩
 ·have hi' : i < d'.toList.length := by simpa using hi
  have e1 : (d'.toList.map (fun x => x.1.1)).getD i RC.zero = (d'.toList[i]).1.1 := by simp [List.getD, show i < d'.size by simpa using hi']
  rw [e1] at hp0 ⊢; exact (d'.toList[i]).2.2 hp0
 ·have hpw : rs.Pairwise (fun a b : RC => 0 < a.2.2.2.1 → 0 < b.2.2.2.1 → a.2.2.1 ≠ b.2.2.1) := by
   rw [List.pairwise_iff_getElem]
   intro i j h1 h2 hij h3 h4
   have := ha.2 i j h1 h2 (by omega); simp only [List.getD, List.getElem?_eq_getElem h1, List.getElem?_eq_getElem h2, Option.getD_some] at this; exact this h3 h4
  have hpr : (d'.toList.map (fun x => x.1.1)).Perm rs := by rw [← hLr]; exact hperm.map _
  have hpw' := hpr.symm.pairwise hpw (fun h a b => (h b a).symm)
  intro i j h1 h2 hij h3 h4
  have key : ∀ i j (h1 : i < (d'.toList.map (fun x => x.1.1)).length) (h2 : j < (d'.toList.map (fun x => x.1.1)).length), i < j → 0 < ((d'.toList.map (fun x => x.1.1)).getD i RC.zero).2.2.2.1 → 0 < ((d'.toList.map (fun x => x.1.1)).getD j RC.zero).2.2.2.1 → ((d'.toList.map (fun x => x.1.1)).getD i RC.zero).2.2.1 ≠ ((d'.toList.map (fun x => x.1.1)).getD j RC.zero).2.2.1 := fun i j h1 h2 hij => by
   have := List.pairwise_iff_getElem.1 hpw' i j h1 h2 hij; simp only [List.getD, List.getElem?_eq_getElem h1, List.getElem?_eq_getElem h2, Option.getD_some]; exact this
  rcases Nat.lt_or_ge i j with h | h
  ·exact key i j h1 h2 h h3 h4
  ·exact (key j i h2 h1 (by omega) h4 h3).symm
end
end Go.Proofs.YtkklidpnkofipaaGreatDoor
