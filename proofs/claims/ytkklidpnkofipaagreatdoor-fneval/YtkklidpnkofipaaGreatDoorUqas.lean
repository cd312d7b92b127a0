/- Texts of EvS0, EvS2, EvS3, EvS4, EvS7. Own work of the verifier. -/
import Derived.Test.YtkklidpnkofipaaGreatDoorUqai
import Derived.Test.YtkklidpnkofipaaGreatDoorUqar
namespace Go.Proofs.YtkklidpnkofipaaGreatDoor
set_option linter.unusedVariables false
set_option maxRecDepth 100000
section
open Go Go.RowKit
def MadeT (w : World) (t : Tr) (e : Ending) (w' : World) : Prop := ∃ q m c2, e = .returned (.slice q m c2) ∧ OwnC w' w.heap.size q m c2 (t.1 :: t.2.cells) ∧ Below w.heap.size w w'
theorem l6err_any (s : List Int) (hs : Byte s) (g n c : Nat) (dss : List (List Cel)) (w : World) (hn : n = dss.length) (h1 : 1 ≤ n) (h20 : n ≤ 20) (hr : RowsIn w g dss) :
  Calls Tryz.prog 42 #[.string (strOfNums s), .slice (some ⟨g, 0, none⟩) n c] w fun e w' => ∃ q m c2, e = .returned (.slice q m c2) ∧ OwnC w' w.heap.size q m c2 ((3, (n : Int), s) :: dss.flatten) ∧ Below w.heap.size w w' := by
 have HC := l2comp_any s hs g n c dss w hn h20 hr
 have hn0 : ((n : Int) == 0) = false := by simp; omega
 clear hr hn
 go_enter Tryz.func42, Tryz.ntmps42
 go_wp2_with fail; refine HC.mono ?_; rintro e w1 ⟨q, m, c2, rfl, ho, hb⟩; have HO : Hid _ := ho; have HB : Hid _ := hb; clear ho hb HC; go_wp2_with fail; go_ret; exact ⟨_, _, _, rfl, HO.out, HB.out⟩
theorem l6inst_any (w : World) : Calls Tryz.prog 42 #[.string (strOfNums sInst), .slice none 0 0] w fun e w' => ∃ p, e = .returned (.slice p 1 1) ∧ CIn w' p [(2, 0, sInst)] ∧ Below w.heap.size w w' := by
 have HC := l2atomS_any sInst (by intro x hx; simp [sInst] at hx; omega) w
 go_enter Tryz.func42, Tryz.ntmps42
 go_wp2_with fail; refine HC.mono ?_; rintro e w1 ⟨p, rfl, ho, hb⟩; have HO : Hid _ := ho; have HB : Hid _ := hb; clear ho hb HC; go_wp2_with fail; go_ret; exact ⟨_, rfl, HO.out, HB.out⟩
theorem l6evaluation_any (s : List Int) (hs : Byte s) (hl : s.length ≤ 100) (w : World) : Calls Tryz.prog 49 #[.string (strOfNums s)] w (MadeT w (evalT s)) := by
 have HA := l2atomS_any s hs w
 go_enter Tryz.func49, Tryz.ntmps49
 go_wp2_with fail; refine HA.mono ?_; rintro e w1 ⟨p, rfl, hc, hb⟩; have hal : Below w1.heap.size w1 (w1.alloc (.cells #[.slice p 1 1] 23)) := (Below.refl _ _).alloc (Nat.le_refl _) _; have HR := l6err_any sEval (by intro x hx; simp [sEval] at hx; omega) w1.heap.size 1 1 [[(2, 0, s)]] (w1.alloc (.cells #[.slice p 1 1] 23)) rfl (by decide) (by decide) (rows_one (cell_of_row _ _ 0 _ _ _ (heap_alloc_new w1 _)) (hc.below hal) (by simp) (by simp [tl]; omega)); have HB : Hid (Below w.heap.size w (w1.alloc (.cells #[.slice p 1 1] 23))) := Below.on hb hal; clear hc hb HA hal; go_wp2_with fail; refine HR.mono ?_; rintro e w2 ⟨q, m, c2, rfl, ho, hb2⟩; have HO : Hid (OwnC w2 w.heap.size q m c2 ((evalT s).1 :: (evalT s).2.cells)) := ho.mono HB.out.size; have HB2 : Hid (Below w.heap.size w w2) := Below.on HB.out hb2; clear ho hb2 HR; go_wp2_with fail; go_ret; exact ⟨_, _, _, rfl, HO.out, HB2.out⟩
theorem l6type_any (s : List Int) (hs : Byte s) (hl : s.length ≤ 100) (t : Tr) (p : Option Addr) (n c : Nat) (w : World) (hn : n = (t.1 :: t.2.cells).length) (hin : CIn w p (t.1 :: t.2.cells)) (htl : n + tl (t.1 :: t.2.cells) ≤ 100000) : Calls Tryz.prog 44 #[.string (strOfNums s), .slice p n c] w (MadeT w (typeT s t)) := by
 have HA := l2atomS_any s hs w; have HI : Hid (CIn w p (t.1 :: t.2.cells)) := hin
 have HN : Hid (n = (t.1 :: t.2.cells).length ∧ n + tl (t.1 :: t.2.cells) ≤ 100000) := ⟨hn, htl⟩
 clear hin hn htl
 go_enter Tryz.func44, Tryz.ntmps44
 go_wp2_with fail; refine HA.mono ?_; rintro e w1 ⟨p1, rfl, hc, hb⟩; have hal : Below w1.heap.size w1 (w1.alloc (.cells #[.slice p1 1 1, .slice p n c] 23)) := (Below.refl _ _).alloc (Nat.le_refl _) _; have hnw := heap_alloc_new w1 (Obj.cells #[.slice p1 1 1, .slice p n c] 23); have HR := l6err_any sType (by intro x hx; simp [sType] at hx; omega) w1.heap.size 2 2 [[(2, 0, s)], t.1 :: t.2.cells] (w1.alloc (.cells #[.slice p1 1 1, .slice p n c] 23)) rfl (by decide) (by decide) (rows_two (cell_of_row _ _ 0 _ _ _ hnw) (hc.below hal) (by simp) (by simp [tl]; omega) (c' := c) (q' := p) (by rw [← HN.out.1]; exact cell_of_row _ _ 1 _ _ _ hnw) ((HI.out.below hb).below hal) (by simp) (by rw [← HN.out.1]; exact HN.out.2)); have HB : Hid (Below w.heap.size w (w1.alloc (.cells #[.slice p1 1 1, .slice p n c] 23))) := Below.on hb hal; clear hc hb HA hal hnw
 go_wp2_with fail; refine HR.mono ?_; rintro e w2 ⟨q, m, c2, rfl, ho, hb2⟩
 have HO : Hid (OwnC w2 w.heap.size q m c2 ((typeT s t).1 :: (typeT s t).2.cells)) := by
  have := ho.mono HB.out.size
  show OwnC _ _ _ _ _ _
  simpa [typeT, Fo.cells] using this
 have HB2 : Hid (Below w.heap.size w w2) := Below.on HB.out hb2; clear ho hb2 HR; go_wp2_with fail; go_ret; exact ⟨_, _, _, rfl, HO.out, HB2.out⟩
theorem l6slash_any (s : List Int) (hl : s.length ≤ 100) (n : Int) (p : Option Addr) (l c : Nat) (w : World) (hll : l = s.length) (hin : BIn w p s) : Calls Tryz.prog 45 #[.slice p l c, .int .i64 n] w (MadeT w (indT s n)) := by
 have HC := l1copy_all p l c s w hll (by omega) hin; clear hin hll
 go_enter Tryz.func45, Tryz.ntmps45
 go_wp2_with fail; refine HC.mono ?_; rintro e w1 ⟨p1, n1, c1, rfl, ho, hb⟩
 obtain ⟨w2, ew2⟩ : ∃ w2, w2 = w1.alloc (.cells #[.int .i64 2, .int .i64 0, .slice p1 n1 c1] 63) := ⟨_, rfl⟩
 have hal : Below w1.heap.size w1 w2 := by rw [ew2]; exact (Below.refl _ _).alloc (Nat.le_refl _) _
 have hX : Box3 w2 w1.heap.size (.int .i64 2) (.int .i64 0) (.slice p1 n1 c1) := by rw [ew2]; exact Box3.of_block (t := 63) (heap_alloc_new w1 _)
 have hcin : CIn w2 (some ⟨w1.heap.size, 0, none⟩) [(2, 0, s)] := fun _ => ⟨w1.heap.size, 0, rfl, fun i hi => by
  have hi0 : i = 0 := by simp at hi; omega
  subst hi0
  exact ⟨p1, c1, hX.1, hX.2.1, by have := ho.1; show _ = some (Value.slice p1 s.length c1); rw [← this]; exact hX.2.2.1, (ho.bin).below hal⟩⟩
 have HCI : Hid (CIn w2 (some ⟨w1.heap.size, 0, none⟩) [(2, 0, s)]) := hcin; have HB2 : Hid (Below w.heap.size w w2) := Below.on hb hal; have HNU := l2num_any n w2; rw [ew2] at HNU; clear hcin hX hal ho hb HC; go_wp2_with fail; refine HNU.mono ?_; rw [← ew2]; rintro e w3 ⟨p3, rfl, hc3, hb3⟩; have HB3 : Hid (Below w.heap.size w w3) := Below.on HB2.out hb3; have HP := l2pair_any [47] (by intro x hx; simp at hx; omega) (some ⟨w1.heap.size, 0, none⟩) p3 1 1 1 1 [(2, 0, s)] [(1, n, [])] w3 rfl rfl (HCI.out.below hb3) hc3 (by simp) (by simp) (by simp [tl]; omega) (by simp [tl]); clear hc3 hb3 HNU; go_wp2_with fail; refine HP.mono ?_; rintro e w4 ⟨q, m, c2, rfl, ho, hb4⟩; have HO : Hid (OwnC w4 w.heap.size q m c2 ((indT s n).1 :: (indT s n).2.cells)) := ho.mono HB3.out.size; have HB4 : Hid (Below w.heap.size w w4) := Below.on HB3.out hb4; clear ho hb4 HP; go_wp2_with fail; go_ret; exact ⟨_, _, _, rfl, HO.out, HB4.out⟩
end
section
open Go Go.RowKit
set_option linter.unusedSimpArgs false
def OneOut (w : World) (v : Int) (e : Ending) (w' : World) : Prop := e = .returned (.tuple #[.int .i64 v, .slice none 0 0]) ∧ w' = w
def TwoOut (w : World) (r : ER) (e : Ending) (w' : World) : Prop := (match r with
 | .ok v => ∃ u, e = .returned (.tuple #[.int .i64 u, .slice none 0 0]) ∧ Sat u v
 | .error t => ∃ q m c2, e = .returned (.tuple #[.int .i64 0, .slice q m c2]) ∧ OwnC w' w.heap.size q m c2 (t.1 :: t.2.cells)) ∧ Below w.heap.size w w'
theorem sat_in {u v : Int} (h : u = v) (hm : -4000000000000000 ≤ v ∧ v ≤ 4000000000000000) : Sat u v := by
 subst h
 by_cases hi : InB u
 ·exact .inl ⟨hi, rfl⟩
 ·exact .inr ⟨hi, hi, hm.1, hm.2⟩
theorem two_pos' (n : Nat) : (1 : Int) ≤ 2 ^ n := by
 have : (0 : Int) < 2 ^ n := Int.pow_pos (by decide)
 omega
theorem shl_sat {x u v : Int} {Y : Nat} (hx : InB x) (hs : Sat u (2 ^ Y)) (hv : Sat v (x * u)) : Sat v (x * 2 ^ Y) := by
 rcases hs with ⟨_, h2⟩ | ⟨h1, h2, _, _⟩
 ·rw [h2] at hv; exact hv
 ·by_cases h0 : x = 0
  ·subst h0
   rw [Int.zero_mul] at hv ⊢; exact hv
  ·have hp := two_pos' Y
   have h3 : ¬ InB (x * 2 ^ Y) := mul_far h0 (by unfold InB at h1; omega)
   have h4 : ¬ InB (x * u) := by
    rw [inB_mul]; rw [inB_abs] at h2; have := Nat.mul_le_mul (show 1 ≤ x.natAbs by omega) (Nat.le_refl u.natAbs)
    omega
   rcases hv with ⟨g, _⟩ | ⟨_, g2, g3, g4⟩
   ·exact absurd g h4
   ·exact .inr ⟨h3, g2, g3, g4⟩
theorem two_ret {w w' : World} {u v : Int} (h : Sat u v) (hb : Below w.heap.size w w') : TwoOut w (.ok v) (.returned (.tuple #[.int .i64 u, .slice none 0 0])) w' := ⟨⟨u, rfl, h⟩, hb⟩
theorem one0 (x : Int) (w : World) (hx : InB x) : Calls Tryz.prog 47 #[.string ⟨#[45]⟩, .int .i64 x] w (OneOut w (op1 [45] x)) := by
 have w1 : wrap64 (-x) = -x := by unfold InB at hx; unfold wrap64; omega
 have w2 : wrap64 (-x - 1) = -x - 1 := by unfold InB at hx; unfold wrap64; omega
 go_enter Tryz.func47, Tryz.ntmps47
 go_wp2_with fail
 all_goals (go_ret2; refine ⟨?_, rfl⟩)
 all_goals (simp [op1]; try omega)
theorem one1 (x : Int) (w : World) (hx : InB x) : Calls Tryz.prog 47 #[.string ⟨#[43]⟩, .int .i64 x] w (OneOut w (op1 [43] x)) := by
 have w1 : wrap64 (-x) = -x := by unfold InB at hx; unfold wrap64; omega
 have w2 : wrap64 (-x - 1) = -x - 1 := by unfold InB at hx; unfold wrap64; omega
 go_enter Tryz.func47, Tryz.ntmps47
 go_wp2_with fail
 all_goals (go_ret2; refine ⟨?_, rfl⟩)
 all_goals (simp [op1]; try omega)
theorem one2 (x : Int) (w : World) (hx : InB x) : Calls Tryz.prog 47 #[.string ⟨#[97, 98, 115]⟩, .int .i64 x] w (OneOut w (op1 [97, 98, 115] x)) := by
 have w1 : wrap64 (-x) = -x := by unfold InB at hx; unfold wrap64; omega
 have w2 : wrap64 (-x - 1) = -x - 1 := by unfold InB at hx; unfold wrap64; omega
 go_enter Tryz.func47, Tryz.ntmps47
 go_wp2_with fail
 all_goals (go_ret2; refine ⟨?_, rfl⟩)
 all_goals (simp [op1]; try omega)
theorem one3 (x : Int) (w : World) (hx : InB x) : Calls Tryz.prog 47 #[.string ⟨#[115, 105, 103, 110]⟩, .int .i64 x] w (OneOut w (op1 [115, 105, 103, 110] x)) := by
 have w1 : wrap64 (-x) = -x := by unfold InB at hx; unfold wrap64; omega
 have w2 : wrap64 (-x - 1) = -x - 1 := by unfold InB at hx; unfold wrap64; omega
 go_enter Tryz.func47, Tryz.ntmps47
 go_wp2_with fail
 all_goals (go_ret2; refine ⟨?_, rfl⟩)
 all_goals (simp [op1]; try omega)
theorem one4 (x : Int) (w : World) (hx : InB x) : Calls Tryz.prog 47 #[.string ⟨#[92]⟩, .int .i64 x] w (OneOut w (op1 [92] x)) := by
 have w1 : wrap64 (-x) = -x := by unfold InB at hx; unfold wrap64; omega
 have w2 : wrap64 (-x - 1) = -x - 1 := by unfold InB at hx; unfold wrap64; omega
 go_enter Tryz.func47, Tryz.ntmps47
 go_wp2_with fail
 all_goals (go_ret2; refine ⟨?_, rfl⟩)
 all_goals (simp [op1]; try omega)
set_option maxHeartbeats 600000 in
theorem two0 (x y : Int) (w : World) (hx : InB x) (hy : InB y) : Calls Tryz.prog 48 #[.string ⟨#[43]⟩, .int .i64 x, .int .i64 y] w (TwoOut w (op2 [43] x y)) := by
 rw [show op2 [43] x y = .ok (x + y) by simp [op2]]
 have w1 : wrap64 (x + y) = x + y := by unfold InB at hx hy; unfold wrap64; omega
 go_enter Tryz.func48, Tryz.ntmps48
 go_wp2_with fail
 go_ret2
 exact two_ret (sat_in w1 (by unfold InB at hx hy; omega)) (Below.refl _ _)
set_option maxHeartbeats 600000 in
theorem two1 (x y : Int) (w : World) (hx : InB x) (hy : InB y) : Calls Tryz.prog 48 #[.string ⟨#[45]⟩, .int .i64 x, .int .i64 y] w (TwoOut w (op2 [45] x y)) := by
 rw [show op2 [45] x y = .ok (x - y) by simp [op2]]
 have w1 : wrap64 (x - y) = x - y := by unfold InB at hx hy; unfold wrap64; omega
 go_enter Tryz.func48, Tryz.ntmps48
 go_wp2_with fail
 go_ret2
 exact two_ret (sat_in w1 (by unfold InB at hx hy; omega)) (Below.refl _ _)
set_option maxHeartbeats 600000 in
theorem two2 (x y : Int) (w : World) (hx : InB x) (hy : InB y) : Calls Tryz.prog 48 #[.string ⟨#[42]⟩, .int .i64 x, .int .i64 y] w (TwoOut w (op2 [42] x y)) := by
 rw [show op2 [42] x y = .ok (x * y) by simp [op2]]; have HT := l6times_any x y w hx.near hy.near
 go_enter Tryz.func48, Tryz.ntmps48
 go_wp2_with fail; refine HT.mono ?_; rintro e w1 ⟨u, rfl, hs, _, rfl⟩; have HS : Hid (Sat u (x * y)) := hs; clear hs HT; go_wp2_with fail
 go_ret2
 exact two_ret HS.out (Below.refl _ _)
set_option maxHeartbeats 600000 in
theorem two3 (x y : Int) (w : World) (hx : InB x) (hy : InB y) : Calls Tryz.prog 48 #[.string ⟨#[109, 105, 110]⟩, .int .i64 x, .int .i64 y] w (TwoOut w (op2 [109, 105, 110] x y)) := by
 rw [show op2 [109, 105, 110] x y = .ok (if x < y then x else y) by simp [op2]]
 by_cases h : x < y
 rotate_right
 case' _ =>
  rw [if_neg h]
  have hd : decide (x < y) = false := by simpa using h
 rotate_right
 case' _ =>
  rw [if_pos h]
  have hd : decide (x < y) = true := by simpa using h
 all_goals
  go_enter Tryz.func48, Tryz.ntmps48
  go_wp2_with fail
  all_goals (go_ret2; exact two_ret (sat_in (by first | rfl | omega) (by unfold InB at hx hy; omega)) (Below.refl _ _))
set_option maxHeartbeats 600000 in
theorem two4 (x y : Int) (w : World) (hx : InB x) (hy : InB y) : Calls Tryz.prog 48 #[.string ⟨#[109, 97, 120]⟩, .int .i64 x, .int .i64 y] w (TwoOut w (op2 [109, 97, 120] x y)) := by
 rw [show op2 [109, 97, 120] x y = .ok (if x < y then y else x) by simp [op2]]
 by_cases h : x < y
 rotate_right
 case' _ =>
  rw [if_neg h]
  have hd : decide (x < y) = false := by simpa using h
 rotate_right
 case' _ =>
  rw [if_pos h]
  have hd : decide (x < y) = true := by simpa using h
 all_goals
  go_enter Tryz.func48, Tryz.ntmps48
  go_wp2_with fail
  all_goals (go_ret2; exact two_ret (sat_in (by first | rfl | omega) (by unfold InB at hx hy; omega)) (Below.refl _ _))
set_option maxHeartbeats 600000 in
theorem two5 (x y : Int) (w : World) (hx : InB x) (hy : InB y) : Calls Tryz.prog 48 #[.string ⟨#[47, 47]⟩, .int .i64 x, .int .i64 y] w (TwoOut w (op2 [47, 47] x y)) := by
 by_cases h0 : y = 0
 ·subst h0
  rw [show op2 [47, 47] x 0 = .error zeroT by simp [op2]]; have HE := l6evaluation_any sZero (by intro z hz; simp [sZero] at hz; omega) (by decide) w
  go_enter Tryz.func48, Tryz.ntmps48
  go_wp2_with fail; refine HE.mono ?_; rintro e w1 ⟨q, m, c2, rfl, ho, hb⟩; have HO : Hid _ := ho; have HB : Hid _ := hb; clear ho hb HE; go_wp2_with fail
  go_ret2
  exact ⟨⟨q, m, c2, rfl, HO.out⟩, HB.out⟩
 ·rw [show op2 [47, 47] x y = .ok (x.tdiv y) by simp [op2, h0]]
  have hyb : (y == 0) = false := by simpa using h0
  have ha := tdivAbs (x := x) (y := y); have hb := tmodAbs (x := x) h0
  have w1 : wrap64 (x.tdiv y) = x.tdiv y := by unfold InB at hx; unfold wrap64; omega
  have HS : Hid (Sat (wrap64 (x.tdiv y)) (x.tdiv y)) := sat_in w1 (by unfold InB at hx hy; omega); clear hb
  go_enter Tryz.func48, Tryz.ntmps48
  go_wp2_with fail
  go_ret2
  exact two_ret HS.out (Below.refl _ _)
set_option maxHeartbeats 600000 in
theorem two6 (x y : Int) (w : World) (hx : InB x) (hy : InB y) : Calls Tryz.prog 48 #[.string ⟨#[114, 101, 109]⟩, .int .i64 x, .int .i64 y] w (TwoOut w (op2 [114, 101, 109] x y)) := by
 by_cases h0 : y = 0
 ·subst h0
  rw [show op2 [114, 101, 109] x 0 = .error zeroT by simp [op2]]; have HE := l6evaluation_any sZero (by intro z hz; simp [sZero] at hz; omega) (by decide) w
  go_enter Tryz.func48, Tryz.ntmps48
  go_wp2_with fail; refine HE.mono ?_; rintro e w1 ⟨q, m, c2, rfl, ho, hb⟩; have HO : Hid _ := ho; have HB : Hid _ := hb; clear ho hb HE; go_wp2_with fail
  go_ret2
  exact ⟨⟨q, m, c2, rfl, HO.out⟩, HB.out⟩
 ·rw [show op2 [114, 101, 109] x y = .ok (x.tmod y) by simp [op2, h0]]
  have hyb : (y == 0) = false := by simpa using h0
  have ha := tdivAbs (x := x) (y := y); have hb := tmodAbs (x := x) h0
  have w1 : wrap64 (x.tdiv y) = x.tdiv y := by unfold InB at hx; unfold wrap64; omega
  have HS : Hid (Sat (x.tmod y) (x.tmod y)) := sat_in rfl (by unfold InB at hx hy; omega); clear hb
  go_enter Tryz.func48, Tryz.ntmps48
  go_wp2_with fail
  go_ret2
  exact two_ret HS.out (Below.refl _ _)
set_option maxHeartbeats 600000 in
theorem two7 (x y : Int) (w : World) (hx : InB x) (hy : InB y) : Calls Tryz.prog 48 #[.string ⟨#[109, 111, 100]⟩, .int .i64 x, .int .i64 y] w (TwoOut w (op2 [109, 111, 100] x y)) := by
 by_cases h0 : y = 0
 ·subst h0
  rw [show op2 [109, 111, 100] x 0 = .error zeroT by simp [op2]]; have HE := l6evaluation_any sZero (by intro z hz; simp [sZero] at hz; omega) (by decide) w
  go_enter Tryz.func48, Tryz.ntmps48
  go_wp2_with fail; refine HE.mono ?_; rintro e w1 ⟨q, m, c2, rfl, ho, hb⟩; have HO : Hid _ := ho; have HB : Hid _ := hb; clear ho hb HE; go_wp2_with fail
  go_ret2
  exact ⟨⟨q, m, c2, rfl, HO.out⟩, HB.out⟩
 ·rw [show op2 [109, 111, 100] x y = .ok ((x.tmod y + y).tmod y) by simp [op2, h0]]
  have hyb : (y == 0) = false := by simpa using h0
  have ha := tdivAbs (x := x) (y := y); have hb := tmodAbs (x := x) h0; have hc := tmodAbs (x := x.tmod y + y) h0; have hmf := mod_flo (x := x) h0; have HF := l6floor_any x y w hx.near hy.near h0
  obtain ⟨f, ef⟩ : ∃ f, f = flo x y := ⟨_, rfl⟩
  rw [← ef] at HF hmf
  have hfy : f * y = x - (x.tmod y + y).tmod y := by omega
  have w1 : wrap64 (f * y) = f * y := by rw [hfy]; unfold InB at hx hy; unfold wrap64; omega
  have w2 : wrap64 (x - f * y) = x - f * y := by rw [hmf]; unfold InB at hy; unfold wrap64; omega
  have HS : Hid (Sat (wrap64 (x - f * y)) ((x.tmod y + y).tmod y)) := sat_in (w2.trans hmf) (by unfold InB at hy; omega); clear hmf hfy hc ef ha hb
  go_enter Tryz.func48, Tryz.ntmps48
  go_wp2_with fail; refine HF.mono ?_; rintro e w3 ⟨rfl, rfl⟩; go_wp2_with fail
  go_ret2
  exact two_ret HS.out (Below.refl _ _)
set_option maxHeartbeats 600000 in
theorem two8 (x y : Int) (w : World) (hx : InB x) (hy : InB y) : Calls Tryz.prog 48 #[.string ⟨#[62, 62]⟩, .int .i64 x, .int .i64 y] w (TwoOut w (op2 [62, 62] x y)) := by
 by_cases h0 : y < 0
 ·rw [show op2 [62, 62] x y = .error undT by simp [op2, h0]]
  have HE := l6evaluation_any sUnd (by intro z hz; simp [sUnd] at hz; omega) (by decide) w
  go_enter Tryz.func48, Tryz.ntmps48
  go_wp2_with fail; refine HE.mono ?_; rintro e w1 ⟨q, m, c2, rfl, ho, hb⟩; have HO : Hid _ := ho; have HB : Hid _ := hb; clear ho hb HE; go_wp2_with fail
  go_ret2
  exact ⟨⟨q, m, c2, rfl, HO.out⟩, HB.out⟩
 ·obtain ⟨Y, rfl⟩ : ∃ Y : Nat, y = Y := ⟨y.toNat, by omega⟩
  have hYm : (Y : Int) ≤ 1000000000000000 := hy.2; rw [show op2 [62, 62] x Y = .ok (x / 2 ^ min Y 64) by simp [op2, h0]]; have HX : Hid (InB x) := hx; have hx1 := hx.1; have hx2 := hx.2
  obtain ⟨x0, ex0⟩ : ∃ x0, x0 = x := ⟨_, rfl⟩
  have HX0 : Hid (x0 = x) := ex0; clear hx hy ex0
  go_enter Tryz.func48, Tryz.ntmps48
  go_wp2_with fail
  go_loopw [1, 8] (fun r i wr => ∃ (j : Nat) (u : Int), j ≤ Y ∧ j ≤ 64 ∧ i = .int .i64 j ∧ r = .int .i64 u ∧ -1000000000000000 ≤ u ∧ u ≤ 1000000000000000 ∧ Hid (u = x0 / 2 ^ j) ∧ wr = w) (fun _ i _ => Y - (intOf i).toNat)
  case atStart => exact ⟨0, x, Nat.zero_le _, by decide, rfl, rfl, hx1, hx2, by show _ = _; rw [HX0.out]; simp, rfl⟩
  case round =>
   obtain ⟨j, u, hj, hj64, rfl, rfl, hu1, hu2, HU, rfl⟩ := hrel
   have hend : (j = min Y 64 ∨ u = 0 ∨ u = -1) → u = x0 / 2 ^ min Y 64 := fun h => by
    rcases h with h | h
    ·rw [← h]; exact HU.out
    ·have h1 := HU.out
     have h2 : (2 : Int) ^ min Y 64 = 2 ^ j * 2 ^ (min Y 64 - j) := by rw [← Int.pow_add]; congr 1; omega
     rw [h2, ← Int.ediv_ediv_of_nonneg (by have := two_pos' j; omega), ← h1]; have h3 := two_pos' (min Y 64 - j)
     rcases h with h | h
     ·rw [h, Int.zero_ediv]
     ·rw [h]
      have h4 : (-1 : Int) / 2 ^ (min Y 64 - j) < 0 := Int.ediv_neg_of_neg_of_pos (by decide) (by omega)
      have h5 : -1 ≤ (-1 : Int) / 2 ^ (min Y 64 - j) := by
       rw [Int.le_ediv_iff_mul_le (by omega)]
       omega
      omega
   by_cases c1 : j < Y
   ·have c1I : (j : Int) < (Y : Int) := by omega
    by_cases c2 : j < 64
    ·have c2I : (j : Int) < 64 := by omega
     by_cases c3 : u = 0
     ·have c3b : (u != 0) = false := by simpa using c3
      have HF : Hid (u = x0 / 2 ^ min Y 64) := hend (.inr (.inl c3)); clear hend; go_wp2_with fail
      go_ret2
      exact two_ret (sat_in (by first | exact HF.out.trans (by rw [HX0.out]) | (rw [HX0.out] at HF; exact HF.out)) (by rw [← HX0.out, ← HF.out]; omega)) (Below.refl _ _)
     ·have c3b : (u != 0) = true := by simpa using c3
      by_cases c4 : u = -1
      ·have c4b : (u != -1) = false := by simpa using c4
       have HF : Hid (u = x0 / 2 ^ min Y 64) := hend (.inr (.inr c4)); clear hend; go_wp2_with fail
       go_ret2
       exact two_ret (sat_in (HF.out.trans (by rw [HX0.out])) (by rw [← HX0.out, ← HF.out]; omega)) (Below.refl _ _)
      ·have c4b : (u != -1) = true := by simpa using c4
       have HFL := l6floor_any u 2 wr (by unfold Near; omega) (by decide) (by decide); rw [flo_two] at HFL
       have HU2 : Hid (u / 2 = x0 / 2 ^ (j + 1)) := by
        show _ = _
        rw [Int.pow_succ, ← Int.ediv_ediv_of_nonneg (by have := two_pos' j; omega), ← HU.out]
       obtain ⟨v, ev⟩ : ∃ v, v = u / 2 := ⟨_, rfl⟩
       have hv1 : -1000000000000000 ≤ v := by omega
       have hv2 : v ≤ 1000000000000000 := by omega
       rw [← ev] at HFL HU2; clear hend ev; go_wp2_with fail; refine HFL.mono ?_; rintro e w2 ⟨rfl, rfl⟩; go_wp2_with fail; go_roundw
       case rel => exact ⟨j + 1, v, by omega, by omega, by go_num, rfl, hv1, hv2, HU2, trivial⟩
       case measure => simp [intOf]; omega
    ·have c2I : ¬ (j : Int) < 64 := by omega
     have HF : Hid (u = x0 / 2 ^ min Y 64) := hend (.inl (by omega)); clear hend; go_wp2_with fail
     go_ret2
     exact two_ret (sat_in (HF.out.trans (by rw [HX0.out])) (by rw [← HX0.out, ← HF.out]; omega)) (Below.refl _ _)
   ·have c1I : ¬ (j : Int) < (Y : Int) := by omega
    have HF : Hid (u = x0 / 2 ^ min Y 64) := hend (.inl (by omega)); clear hend; go_wp2_with fail
    go_ret2
    exact two_ret (sat_in (HF.out.trans (by rw [HX0.out])) (by rw [← HX0.out, ← HF.out]; omega)) (Below.refl _ _)
set_option maxHeartbeats 600000 in
theorem two10 (x y : Int) (w : World) (hx : InB x) (hy : InB y) : Calls Tryz.prog 48 #[.string ⟨#[47, 92]⟩, .int .i64 x, .int .i64 y] w (TwoOut w (op2 [47, 92] x y)) := by
 rw [show op2 [47, 92] x y = .ok (bits .and .i64 x y) by simp [op2]]; have hn := bits_and_near hx hy; have HS : Hid (Sat (bits .and .i64 x y) (bits .and .i64 x y)) := sat_in rfl (by unfold near at hn; omega); clear hn
 go_enter Tryz.func48, Tryz.ntmps48
 go_wp2_with fail
 go_ret2
 exact two_ret HS.out (Below.refl _ _)
set_option maxHeartbeats 600000 in
theorem two11 (x y : Int) (w : World) (hx : InB x) (hy : InB y) : Calls Tryz.prog 48 #[.string ⟨#[92, 47]⟩, .int .i64 x, .int .i64 y] w (TwoOut w (op2 [92, 47] x y)) := by
 rw [show op2 [92, 47] x y = .ok (bits .or .i64 x y) by simp [op2]]; have hn := bits_or_near hx hy; have HS : Hid (Sat (bits .or .i64 x y) (bits .or .i64 x y)) := sat_in rfl (by unfold near at hn; omega); clear hn
 go_enter Tryz.func48, Tryz.ntmps48
 go_wp2_with fail
 go_ret2
 exact two_ret HS.out (Below.refl _ _)
set_option maxHeartbeats 600000 in
theorem two12 (x y : Int) (w : World) (hx : InB x) (hy : InB y) : Calls Tryz.prog 48 #[.string ⟨#[120, 111, 114]⟩, .int .i64 x, .int .i64 y] w (TwoOut w (op2 [120, 111, 114] x y)) := by
 rw [show op2 [120, 111, 114] x y = .ok (bits .xor .i64 x y) by simp [op2]]; have hn := bits_xor_near hx hy; have HS : Hid (Sat (bits .xor .i64 x y) (bits .xor .i64 x y)) := sat_in rfl (by unfold near at hn; omega); clear hn
 go_enter Tryz.func48, Tryz.ntmps48
 go_wp2_with fail
 go_ret2
 exact two_ret HS.out (Below.refl _ _)
set_option maxHeartbeats 600000 in
theorem two9 (x y : Int) (w : World) (hx : InB x) (hy : InB y) : Calls Tryz.prog 48 #[.string ⟨#[60, 60]⟩, .int .i64 x, .int .i64 y] w (TwoOut w (op2 [60, 60] x y)) := by
 by_cases h0 : y < 0
 ·rw [show op2 [60, 60] x y = .error undT by simp [op2, h0]]
  have HE := l6evaluation_any sUnd (by intro z hz; simp [sUnd] at hz; omega) (by decide) w
  go_enter Tryz.func48, Tryz.ntmps48
  go_wp2_with fail; refine HE.mono ?_; rintro e w1 ⟨q, m, c2, rfl, ho, hb⟩; have HO : Hid _ := ho; have HB : Hid _ := hb; clear ho hb HE; go_wp2_with fail
  go_ret2
  exact ⟨⟨q, m, c2, rfl, HO.out⟩, HB.out⟩
 ·obtain ⟨Y, rfl⟩ : ∃ Y : Nat, y = Y := ⟨y.toNat, by omega⟩
  have hYm : (Y : Int) ≤ 1000000000000000 := hy.2; rw [show op2 [60, 60] x Y = .ok (x * 2 ^ Y) by simp [op2, h0]]; have HP := l6power_any 2 Y w (by decide) hYm; have HX : Hid (InB x) := hx
  have HTM : Hid (∀ u, Near u → Calls Tryz.prog 122 #[.int .i64 x, .int .i64 u] w (TiOut w (x * u))) := fun u hu => l6times_any x u w hx.near hu
  clear hx hy
  by_cases hY0 : Y = 0
  ·subst hY0
   go_enter Tryz.func48, Tryz.ntmps48
   go_wp2_with fail
   go_loopw [1, 8] (fun r i wr => i = .int .i64 0 ∧ r = .int .i64 x ∧ wr = w) (fun _ _ _ => 0)
   case atStart => exact ⟨rfl, rfl, rfl⟩
   case round =>
    obtain ⟨rfl, rfl, rfl⟩ := hrel; go_wp2_with fail; refine HP.mono ?_; rintro e w1 ⟨u, rfl, hs, hnr, rfl⟩; have HS : Hid (Sat u (2 ^ 0)) := hs; have HT := HTM.out u hnr; clear hs hnr; go_wp2_with fail; refine HT.mono ?_; rintro e w2 ⟨v, rfl, hs2, _, rfl⟩; have HV : Hid (Sat v (x * 2 ^ 0)) := shl_sat HX.out HS.out hs2; clear hs2 HT; go_wp2_with fail
    go_ret2
    exact two_ret HV.out (Below.refl _ _)
  ·have hYI : (0 : Int) < (Y : Int) := by omega
   by_cases c3 : x = 0
   ·subst c3
    go_enter Tryz.func48, Tryz.ntmps48
    go_wp2_with fail
    go_loopw [1, 8] (fun r i wr => i = .int .i64 0 ∧ r = .int .i64 0 ∧ wr = w) (fun _ _ _ => 0)
    case atStart => exact ⟨rfl, rfl, rfl⟩
    case round =>
     obtain ⟨rfl, rfl, rfl⟩ := hrel; go_wp2_with fail; refine HP.mono ?_; rintro e w1 ⟨u, rfl, hs, hnr, rfl⟩; have HS : Hid (Sat u (2 ^ Y)) := hs; have HT := HTM.out u hnr; clear hs hnr; go_wp2_with fail; refine HT.mono ?_; rintro e w2 ⟨v, rfl, hs2, _, rfl⟩; have HV : Hid (Sat v (0 * 2 ^ Y)) := shl_sat HX.out HS.out hs2; clear hs2 HT; go_wp2_with fail
     go_ret2
     exact two_ret HV.out (Below.refl _ _)
   ·have c3b : (x != 0) = true := by simpa using c3
    by_cases c4 : x = -1
    ·subst c4
     go_enter Tryz.func48, Tryz.ntmps48
     go_wp2_with fail
     go_loopw [1, 8] (fun r i wr => i = .int .i64 0 ∧ r = .int .i64 (-1) ∧ wr = w) (fun _ _ _ => 0)
     case atStart => exact ⟨rfl, rfl, rfl⟩
     case round =>
      obtain ⟨rfl, rfl, rfl⟩ := hrel; go_wp2_with fail; refine HP.mono ?_; rintro e w1 ⟨u, rfl, hs, hnr, rfl⟩; have HS : Hid (Sat u (2 ^ Y)) := hs; have HT := HTM.out u hnr; clear hs hnr; go_wp2_with fail; refine HT.mono ?_; rintro e w2 ⟨v, rfl, hs2, _, rfl⟩; have HV : Hid (Sat v ((-1) * 2 ^ Y)) := shl_sat HX.out HS.out hs2; clear hs2 HT; go_wp2_with fail
      go_ret2
      exact two_ret HV.out (Below.refl _ _)
    ·have c4b : (x != -1) = true := by simpa using c4
     go_enter Tryz.func48, Tryz.ntmps48
     go_wp2_with fail
     go_loopw [1, 8] (fun r i wr => i = .int .i64 0 ∧ r = .int .i64 x ∧ wr = w) (fun _ _ _ => 0)
     case atStart => exact ⟨rfl, rfl, rfl⟩
     case round =>
      obtain ⟨rfl, rfl, rfl⟩ := hrel; go_wp2_with fail; refine HP.mono ?_; rintro e w1 ⟨u, rfl, hs, hnr, rfl⟩; have HS : Hid (Sat u (2 ^ Y)) := hs; have HT := HTM.out u hnr; clear hs hnr; go_wp2_with fail; refine HT.mono ?_; rintro e w2 ⟨v, rfl, hs2, _, rfl⟩; have HV : Hid (Sat v (x * 2 ^ Y)) := shl_sat HX.out HS.out hs2; clear hs2 HT; go_wp2_with fail
      go_ret2
      exact two_ret HV.out (Below.refl _ _)
set_option maxHeartbeats 600000 in
theorem two13 (x y : Int) (w : World) (hx : InB x) (hy : InB y) : Calls Tryz.prog 48 #[.string ⟨#[42, 42]⟩, .int .i64 x, .int .i64 y] w (TwoOut w (op2 [42, 42] x y)) := by
 by_cases h0 : 0 ≤ y
 ·obtain ⟨Y, rfl⟩ : ∃ Y : Nat, y = Y := ⟨y.toNat, by omega⟩
  rw [show op2 [42, 42] x Y = .ok (x ^ Y) by simp [op2, powE]]; have HP := l6power_any x Y w hx hy.2
  go_enter Tryz.func48, Tryz.ntmps48
  go_wp2_with fail; refine HP.mono ?_; rintro e w1 ⟨u, rfl, hs, _, rfl⟩; have HS : Hid (Sat u (x ^ Y)) := hs; clear hs HP; go_wp2_with fail
  go_ret2
  exact two_ret HS.out (Below.refl _ _)
 ·by_cases hx0 : x = 0
  ·subst hx0
   rw [show op2 [42, 42] 0 y = .error zeroT by simp [op2, powE, h0]]; have HE := l6evaluation_any sZero (by intro z hz; simp [sZero] at hz; omega) (by decide) w
   go_enter Tryz.func48, Tryz.ntmps48
   go_wp2_with fail; refine HE.mono ?_; rintro e w1 ⟨q, m, c2, rfl, ho, hb⟩; have HO : Hid _ := ho; have HB : Hid _ := hb; clear ho hb HE; go_wp2_with fail
   go_ret2
   exact ⟨⟨q, m, c2, rfl, HO.out⟩, HB.out⟩
  ·have hxb : (x == 0) = false := by simpa using hx0
   by_cases hx1 : x.natAbs = 1
   ·obtain ⟨Y, hY⟩ : ∃ Y : Nat, -y = Y := ⟨(-y).toNat, by omega⟩
    have HP := l6power_any x Y w hx (by unfold InB at hy; omega)
    have hw : wrap64 (-y) = (Y : Int) := by rw [hY]; unfold InB at hy; unfold wrap64; omega
    have hw2 : wrap64 (Y : Int) = (Y : Int) := by unfold InB at hy; unfold wrap64; omega
    have hpw : x ^ Y = if y % 2 = 0 then 1 else x := by
     rw [pow_one_abs hx1]
     have : Y % 2 = 0 ↔ y % 2 = 0 := by omega
     by_cases h3 : y % 2 = 0
     ·rw [if_pos h3, if_pos (this.2 h3)]
     ·rw [if_neg h3, if_neg (fun e => h3 (this.1 e))]
    rw [show op2 [42, 42] x y = .ok (x ^ Y) by rw [hpw]; simp [op2, powE, h0, hx0, hx1]]; clear hY
    rcases (by omega : x = 1 ∨ x = -1) with rfl | rfl
    ·clear hpw hx1 hx hy
     go_enter Tryz.func48, Tryz.ntmps48
     go_wp2_with fail; refine HP.mono ?_; rintro e w1 ⟨u, rfl, hs, _, rfl⟩; have HS : Hid (Sat u (1 ^ Y)) := hs; clear hs HP; go_wp2_with fail
     go_ret2
     exact two_ret HS.out (Below.refl _ _)
    ·clear hpw hx1 hx hy
     go_enter Tryz.func48, Tryz.ntmps48
     go_wp2_with fail; refine HP.mono ?_; rintro e w1 ⟨u, rfl, hs, _, rfl⟩; have HS : Hid (Sat u ((-1) ^ Y)) := hs; clear hs HP; go_wp2_with fail
     go_ret2
     exact two_ret HS.out (Below.refl _ _)
   ·rw [show op2 [42, 42] x y = .error (floatT x) by simp [op2, powE, h0, hx0, hx1]]
    have hb1 : (x == 1) = false := by simp; omega
    have hb2 : (x == -1) = false := by simp; omega
    have HN := l2num_any x w
    go_enter Tryz.func48, Tryz.ntmps48
    go_wp2_with fail; refine HN.mono ?_; rintro e w1 ⟨p1, rfl, hc, hb⟩; have HT := l6type_any sFloat (by intro z hz; simp [sFloat] at hz; omega) (by decide) (numT x) p1 1 1 w1 rfl hc (by simp [numT, tl, Fo.cells]); have HB1 : Hid (Below w.heap.size w w1) := hb; clear hc hb HN; go_wp2_with fail; refine HT.mono ?_; rintro e w2 ⟨q, m, c2, rfl, ho, hb2⟩; have HO : Hid (OwnC w2 w.heap.size q m c2 ((floatT x).1 :: (floatT x).2.cells)) := ho.mono HB1.out.size; have HB : Hid (Below w.heap.size w w2) := Below.on HB1.out hb2; clear ho hb2 HT; go_wp2_with fail
    go_ret2
    exact ⟨⟨q, m, c2, rfl, HO.out⟩, HB.out⟩
set_option maxHeartbeats 600000 in
theorem two14 (x y : Int) (w : World) (hx : InB x) (hy : InB y) : Calls Tryz.prog 48 #[.string ⟨#[94]⟩, .int .i64 x, .int .i64 y] w (TwoOut w (op2 [94] x y)) := by
 by_cases h0 : 0 ≤ y
 ·obtain ⟨Y, rfl⟩ : ∃ Y : Nat, y = Y := ⟨y.toNat, by omega⟩
  rw [show op2 [94] x Y = .ok (x ^ Y) by simp [op2, powE]]; have HP := l6power_any x Y w hx hy.2
  go_enter Tryz.func48, Tryz.ntmps48
  go_wp2_with fail; refine HP.mono ?_; rintro e w1 ⟨u, rfl, hs, _, rfl⟩; have HS : Hid (Sat u (x ^ Y)) := hs; clear hs HP; go_wp2_with fail
  go_ret2
  exact two_ret HS.out (Below.refl _ _)
 ·by_cases hx0 : x = 0
  ·subst hx0
   rw [show op2 [94] 0 y = .error zeroT by simp [op2, powE, h0]]; have HE := l6evaluation_any sZero (by intro z hz; simp [sZero] at hz; omega) (by decide) w
   go_enter Tryz.func48, Tryz.ntmps48
   go_wp2_with fail; refine HE.mono ?_; rintro e w1 ⟨q, m, c2, rfl, ho, hb⟩; have HO : Hid _ := ho; have HB : Hid _ := hb; clear ho hb HE; go_wp2_with fail
   go_ret2
   exact ⟨⟨q, m, c2, rfl, HO.out⟩, HB.out⟩
  ·have hxb : (x == 0) = false := by simpa using hx0
   by_cases hx1 : x.natAbs = 1
   ·obtain ⟨Y, hY⟩ : ∃ Y : Nat, -y = Y := ⟨(-y).toNat, by omega⟩
    have HP := l6power_any x Y w hx (by unfold InB at hy; omega)
    have hw : wrap64 (-y) = (Y : Int) := by rw [hY]; unfold InB at hy; unfold wrap64; omega
    have hw2 : wrap64 (Y : Int) = (Y : Int) := by unfold InB at hy; unfold wrap64; omega
    have hpw : x ^ Y = if y % 2 = 0 then 1 else x := by
     rw [pow_one_abs hx1]
     have : Y % 2 = 0 ↔ y % 2 = 0 := by omega
     by_cases h3 : y % 2 = 0
     ·rw [if_pos h3, if_pos (this.2 h3)]
     ·rw [if_neg h3, if_neg (fun e => h3 (this.1 e))]
    rw [show op2 [94] x y = .ok (x ^ Y) by rw [hpw]; simp [op2, powE, h0, hx0, hx1]]; clear hY
    rcases (by omega : x = 1 ∨ x = -1) with rfl | rfl
    ·clear hpw hx1 hx hy
     go_enter Tryz.func48, Tryz.ntmps48
     go_wp2_with fail; refine HP.mono ?_; rintro e w1 ⟨u, rfl, hs, _, rfl⟩; have HS : Hid (Sat u (1 ^ Y)) := hs; clear hs HP; go_wp2_with fail
     go_ret2
     exact two_ret HS.out (Below.refl _ _)
    ·clear hpw hx1 hx hy
     go_enter Tryz.func48, Tryz.ntmps48
     go_wp2_with fail; refine HP.mono ?_; rintro e w1 ⟨u, rfl, hs, _, rfl⟩; have HS : Hid (Sat u ((-1) ^ Y)) := hs; clear hs HP; go_wp2_with fail
     go_ret2
     exact two_ret HS.out (Below.refl _ _)
   ·rw [show op2 [94] x y = .error (floatT x) by simp [op2, powE, h0, hx0, hx1]]
    have hb1 : (x == 1) = false := by simp; omega
    have hb2 : (x == -1) = false := by simp; omega
    have HN := l2num_any x w
    go_enter Tryz.func48, Tryz.ntmps48
    go_wp2_with fail; refine HN.mono ?_; rintro e w1 ⟨p1, rfl, hc, hb⟩; have HT := l6type_any sFloat (by intro z hz; simp [sFloat] at hz; omega) (by decide) (numT x) p1 1 1 w1 rfl hc (by simp [numT, tl, Fo.cells]); have HB1 : Hid (Below w.heap.size w w1) := hb; clear hc hb HN; go_wp2_with fail; refine HT.mono ?_; rintro e w2 ⟨q, m, c2, rfl, ho, hb2⟩; have HO : Hid (OwnC w2 w.heap.size q m c2 ((floatT x).1 :: (floatT x).2.cells)) := ho.mono HB1.out.size; have HB : Hid (Below w.heap.size w w2) := Below.on HB1.out hb2; clear ho hb2 HT; go_wp2_with fail
    go_ret2
    exact ⟨⟨q, m, c2, rfl, HO.out⟩, HB.out⟩
def SV (w : World) (r : ER) (e : Ending) (w' : World) : Prop := (match r with
 | .ok v => e = .returned (.tuple #[.int .i64 v, .slice none 0 0])
 | .error t => ∃ q m c2, e = .returned (.tuple #[.int .i64 0, .slice q m c2]) ∧ m = (t.1 :: t.2.cells).length ∧ CIn w' q (t.1 :: t.2.cells)) ∧ Below w.heap.size w w'
def SpOk (M : Nat) : Prop := ∀ (c : Cel) (k : Fo) (p : Option Addr) (n cap : Nat) (w : World), k.cells.length ≤ M → (Fo.node c k .nil).ok → n = (c :: k.cells).length → n ≤ 2000 → n ≤ cap → cap ≤ 9223372036854775807 → CIn w p (c :: k.cells) → Calls Tryz.prog 19 #[.slice p n cap] w (SV w (evT (c, k)))
theorem byte_of' {s : List Int} (h : (s.all fun x => decide (0 ≤ x) && decide (x < 256)) = true) : Byte s := fun x hx => by
 have := List.all_eq_true.1 h x hx
 simpa using this
theorem one_any {s : List Int} (hs : s ∈ ones) (x : Int) (w : World) (hx : InB x) : Calls Tryz.prog 47 #[.string (strOfNums s), .int .i64 x] w (OneOut w (op1 s x)) := by
 simp only [ones, List.mem_cons, List.not_mem_nil, or_false] at hs
 rcases hs with rfl | rfl | rfl | rfl | rfl
 ·exact one0 x w hx
 ·exact one1 x w hx
 ·exact one2 x w hx
 ·exact one3 x w hx
 ·exact one4 x w hx
theorem two_any {s : List Int} (hs : s ∈ twos) (x y : Int) (w : World) (hx : InB x) (hy : InB y) : Calls Tryz.prog 48 #[.string (strOfNums s), .int .i64 x, .int .i64 y] w (TwoOut w (op2 s x y)) := by
 simp only [twos, List.mem_cons, List.not_mem_nil, or_false] at hs
 rcases hs with rfl | rfl | rfl | rfl | rfl | rfl | rfl | rfl | rfl | rfl | rfl | rfl | rfl | rfl | rfl
 ·exact two0 x y w hx hy
 ·exact two1 x y w hx hy
 ·exact two2 x y w hx hy
 ·exact two3 x y w hx hy
 ·exact two4 x y w hx hy
 ·exact two5 x y w hx hy
 ·exact two6 x y w hx hy
 ·exact two7 x y w hx hy
 ·exact two8 x y w hx hy
 ·exact two9 x y w hx hy
 ·exact two10 x y w hx hy
 ·exact two11 x y w hx hy
 ·exact two12 x y w hx hy
 ·exact two13 x y w hx hy
 ·exact two14 x y w hx hy
set_option maxHeartbeats 1000000 in
theorem value_leaf (c : Cel) (k : Fo) (p : Option Addr) (n cap : Nat) (w : World) (h3 : c.1 = 1 ∨ c.1 = 0) (hn : n = (c :: k.cells).length) (hnm : n ≤ 2000) (hin : CIn w p (c :: k.cells)) : Calls Tryz.prog 19 #[.slice p n cap] w (SV w (evT (c, k))) := by
 obtain ⟨b, o, rfl, hcs⟩ := hin (by simp); obtain ⟨p0, q0, d0, d1, d2, _⟩ := hcs 0 (by simp); simp only [List.getD_cons_zero, Nat.zero_mul, Nat.add_zero] at d0 d1 d2
 have hn0 : 0 < n := by rw [hn]; simp
 obtain ⟨l, el⟩ : ∃ l, l = c.2.2.length := ⟨_, rfl⟩
 rw [← el] at d2
 have hev : evT (c, k) = if c.1 = 1 then .ok c.2.1 else if c.1 = 0 then .error instT else evT (c, k) := by
  unfold evT evC
  rcases h3 with h | h <;> simp [h]
 obtain ⟨N, eN⟩ : ∃ N, N = c.2.1 := ⟨_, rfl⟩
 rw [← eN] at d1 hev
 rcases h3 with h | h
 ·rw [if_pos h] at hev
  rw [hev]; rw [h] at d0; clear hcs hin hn el hev eN h
  go_enter Tryz.func19, Tryz.ntmps19
  go_wp2_with fail
  go_ret2
  exact ⟨rfl, (Below.refl _ _).alloc (Nat.le_refl _) _⟩
 ·rw [if_neg (by rw [h]; decide), if_pos h] at hev
  rw [hev]; rw [h] at d0; have HI := l6inst_any (w.alloc (.cells #[.int .i64 0, .int .i64 N, .slice p0 l q0] 63)); have HV : Hid (Below w.heap.size w (w.alloc (.cells #[.int .i64 0, .int .i64 N, .slice p0 l q0] 63))) := (Below.refl _ _).alloc (Nat.le_refl _) _; clear hcs hin hn el hev eN h
  go_enter Tryz.func19, Tryz.ntmps19
  go_wp2_with fail; refine HI.mono ?_; rintro e w1 ⟨p1, rfl, hc1, hb1⟩; have HC : Hid _ := hc1; have HB : Hid (Below w.heap.size w w1) := Below.on HV.out hb1; clear hc1 hb1 HI HV; go_wp2_with fail
  go_ret2
  exact ⟨⟨p1, 1, 1, rfl, rfl, HC.out⟩, HB.out⟩
theorem ind_small {s : List Int} (hl : s.length ≤ 100) (n : Int) : ((indT s n).1 :: (indT s n).2.cells).length + tl ((indT s n).1 :: (indT s n).2.cells) ≤ 100000 := by
 simp [indT, Fo.cells, tl]; omega
set_option maxHeartbeats 1000000 in
theorem value_atom (c : Cel) (k : Fo) (p : Option Addr) (n cap : Nat) (w : World) (h3 : c.1 = 2) (hok : (Fo.node c k .nil).ok) (hn : n = (c :: k.cells).length) (hnm : n ≤ 2000) (hin : CIn w p (c :: k.cells)) : Calls Tryz.prog 19 #[.slice p n cap] w (SV w (evT (c, k))) := by
 obtain ⟨b, o, rfl, hcs⟩ := hin (by simp); obtain ⟨p0, q0, d0, d1, d2, d3⟩ := hcs 0 (by simp); simp only [List.getD_cons_zero, Nat.zero_mul, Nat.add_zero] at d0 d1 d2 d3
 have hn0 : 0 < n := by rw [hn]; simp
 have hcb := hok.1; simp only [cellB, decide_eq_true_eq] at hcb; have hby := hok.2.1
 have hev : evT (c, k) = .error (evbT c.2.2 c.2.1) := by
  unfold evT evC
  simp [h3]
 rw [hev]
 obtain ⟨N, eN⟩ : ∃ N, N = c.2.1 := ⟨_, rfl⟩
 obtain ⟨s, es⟩ : ∃ s, s = c.2.2 := ⟨_, rfl⟩
 obtain ⟨l, el⟩ : ∃ l, l = s.length := ⟨_, rfl⟩
 rw [← eN] at d1 ⊢; rw [← es] at d2 d3 hby hcb ⊢
 have hsl : s.length ≤ 100 := by omega
 rw [← el] at d2; rw [h3] at d0; have HV : Hid (Below w.heap.size w (w.alloc (.cells #[.int .i64 2, .int .i64 N, .slice p0 l q0] 63))) := (Below.refl _ _).alloc (Nat.le_refl _) _; have HSL := l6slash_any s hsl N p0 l q0 (w.alloc (.cells #[.int .i64 2, .int .i64 N, .slice p0 l q0] 63)) el (BIn.below d3 HV.out)
 have HTY : Hid (∀ W q m c2, m = ((indT s N).1 :: (indT s N).2.cells).length → CIn W q ((indT s N).1 :: (indT s N).2.cells) → Calls Tryz.prog 44 #[.string (strOfNums sEvb), .slice q m c2] W (MadeT W (typeT sEvb (indT s N)))) := fun W q m c2 hm hc => l6type_any sEvb (byte_of' (by decide)) (by decide) (indT s N) q m c2 W hm hc (by rw [hm]; exact ind_small hsl N)
 clear hcs hin hn hok hcb hby hev eN es el h3 hsl d3
 go_enter Tryz.func19, Tryz.ntmps19
 go_wp2_with fail; refine HSL.mono ?_; rintro e w1 ⟨q, m, c2, rfl, ho, hb1⟩; have HT := HTY.out w1 q m c2 ho.1 ho.cin; have HB : Hid (Below w.heap.size w w1) := Below.on HV.out hb1; clear ho hb1 HSL HV HTY; go_wp2_with fail; refine HT.mono ?_; rintro e w2 ⟨q2, m2, c22, rfl, ho, hb2⟩
 have HO : Hid (m2 = _ ∧ CIn w2 q2 _) := ⟨ho.1, ho.cin⟩
 have HB2 : Hid (Below w.heap.size w w2) := Below.on HB.out hb2; clear ho hb2 HT HB; go_wp2_with fail
 go_ret2
 exact ⟨⟨q2, m2, c22, rfl, HO.out.1, HO.out.2⟩, HB2.out⟩
theorem evT_comp {c : Cel} {k : Fo} (h3 : c.1 = 3) : evT (c, k) = if knownB c.2.2 c.2.1 = false then .error (evbT c.2.2 c.2.1) else match seqE (evF k) with
   | .error t => .error t
   | .ok xs => bndE (opV c.2.2 xs) := by
 unfold evT evC
 simp only [h3]; rw [if_neg (by decide), if_neg (by decide)]
 by_cases hk : knownB c.2.2 c.2.1 = false
 ·rw [if_pos (.inr hk), if_pos hk]
 ·rw [if_neg (by simp [hk]), if_neg hk]
  cases seqE (evF k) <;> rfl
set_option maxHeartbeats 1000000 in
theorem value_unknown (c : Cel) (k : Fo) (p : Option Addr) (n cap : Nat) (w : World) (h3 : c.1 = 3) (hok : (Fo.node c k .nil).ok) (hn : n = (c :: k.cells).length) (hnm : n ≤ 2000) (hcap : n ≤ cap) (hcm : cap ≤ 9223372036854775807) (hin : CIn w p (c :: k.cells)) (hkn : knownB c.2.2 c.2.1 = false) : Calls Tryz.prog 19 #[.slice p n cap] w (SV w (evT (c, k))) := by
 obtain ⟨b, o, rfl, hcs⟩ := hin (by simp); obtain ⟨p0, q0, d0, d1, d2, d3⟩ := hcs 0 (by simp); simp only [List.getD_cons_zero, Nat.zero_mul, Nat.add_zero] at d0 d1 d2 d3
 have hn0 : 0 < n := by rw [hn]; simp
 have hcb := hok.1; simp only [cellB, decide_eq_true_eq] at hcb; have hby := hok.2.1
 have hev : evT (c, k) = .error (evbT c.2.2 c.2.1) := by rw [evT_comp h3, if_pos hkn]
 have hN1 : 1 ≤ c.2.1 := by omega
 have hN2 : c.2.1 ≤ 20 := by omega
 obtain ⟨N, eN⟩ : ∃ N, N = c.2.1 := ⟨_, rfl⟩
 obtain ⟨s, es⟩ : ∃ s, s = c.2.2 := ⟨_, rfl⟩
 obtain ⟨l, el⟩ : ∃ l, l = s.length := ⟨_, rfl⟩
 rw [← eN] at d1 hN1 hN2 hkn hev; rw [← es] at d2 d3 hby hcb hkn hev
 have hsl : s.length ≤ 100 := by omega
 rw [← el] at d2; rw [h3] at d0; have HV : Hid (Below w.heap.size w (w.alloc (.cells #[.int .i64 3, .int .i64 N, .slice p0 l q0] 63))) := (Below.refl _ _).alloc (Nat.le_refl _) _
 obtain ⟨str, estr⟩ : ∃ str, str = strOfNums s := ⟨_, rfl⟩
 have HCV : Hid (∀ W, Below w.heap.size w W → (convert 22 9 (.slice p0 l q0)).run Tryz.prog W = .ok (.string str) W) := fun W hW => by rw [estr]; exact conv_str (d3.below hW) l q0 el 9 Tryz.underlying9
 have HKN := l6known_any s hby N (w.alloc (.cells #[.int .i64 3, .int .i64 N, .slice p0 l q0] 63)) hN1 hN2; rw [hkn, ← estr] at HKN
 have HBX : Hid (∀ W, Below (w.alloc (.cells #[.int .i64 3, .int .i64 N, .slice p0 l q0] 63)).heap.size (w.alloc (.cells #[.int .i64 3, .int .i64 N, .slice p0 l q0] 63)) W → Box3 W w.heap.size (.int .i64 3) (.int .i64 N) (.slice p0 l q0)) := fun W hW => (Box3.of_block (t := 63) (heap_alloc_new w _)).below hW (by rw [World.size_alloc]; omega)
 have cvV := HCV.out _ HV.out; rw [hev]
 have HSL : Hid (∀ W, Below w.heap.size w W → Calls Tryz.prog 45 #[.slice p0 l q0, .int .i64 N] W (MadeT W (indT s N))) := fun W hW => l6slash_any s hsl N p0 l q0 W el (BIn.below d3 hW)
 have HTY : Hid (∀ W q m c2, m = ((indT s N).1 :: (indT s N).2.cells).length → CIn W q ((indT s N).1 :: (indT s N).2.cells) → Calls Tryz.prog 44 #[.string (strOfNums sEvb), .slice q m c2] W (MadeT W (typeT sEvb (indT s N)))) := fun W q m c2 hm hc => l6type_any sEvb (byte_of' (by decide)) (by decide) (indT s N) q m c2 W hm hc (by rw [hm]; exact ind_small hsl N)
 clear hcs hin hn hok hcb hby hev eN es el h3 hsl d3 hkn estr HCV hcap hcm
 go_enter Tryz.func19, Tryz.ntmps19
 go_wp2_with fail; refine HKN.mono ?_; rintro e w1 ⟨rfl, hb1⟩; have HB1 : Hid (Below w.heap.size w w1) := Below.on HV.out hb1; have HS1 := HSL.out w1 HB1.out; obtain ⟨x0, x1, x2, _⟩ := HBX.out w1 hb1; clear hb1 HKN HSL HBX HV cvV; go_wp2_with fail; refine HS1.mono ?_; rintro e w2 ⟨q, m, c2, rfl, ho, hb2⟩; have HT := HTY.out w2 q m c2 ho.1 ho.cin; have HB2 : Hid (Below w.heap.size w w2) := Below.on HB1.out hb2; clear ho hb2 HS1 HTY x0 x1 x2; go_wp2_with fail; refine HT.mono ?_; rintro e w3 ⟨q2, m2, c22, rfl, ho, hb3⟩
 have HO : Hid (m2 = _ ∧ CIn w3 q2 _) := ⟨ho.1, ho.cin⟩
 have HB3 : Hid (Below w.heap.size w w3) := Below.on HB2.out hb3; clear ho hb3 HT; go_wp2_with fail
 go_ret2
 exact ⟨⟨q2, m2, c22, rfl, HO.out.1, HO.out.2⟩, HB3.out⟩
theorem row_at {w : World} {B m mc : Nat} {q : Option Addr} {rs : List (Option Addr × Nat × Nat)} {ts : List Tr} {w0 : World} (hr : w.ownsRow B 23 1 (.slice q m mc) m (rs.map slV)) (h0 : 0 < m) (hm : m = ts.length) (ha : ArgRow w0 rs ts) : ∃ g, q = some ⟨g, 0, none⟩ ∧ ∀ i t, ts[i]? = some t → ∃ pq nq cq, w.cell? ⟨g, i, none⟩ = some (.slice pq nq cq) ∧ nq = (t.1 :: t.2.cells).length ∧ nq ≤ cq ∧ cq ≤ 9223372036854775807 ∧ CIn w0 pq (t.1 :: t.2.cells) := by
 obtain ⟨g, cap, hv, _, _⟩ := hr.form h0
 cases hv
 refine ⟨g, rfl, fun i t hi => ?_⟩
 have hlt : i < m := by rw [hm]; exact (List.getElem?_eq_some_iff.1 hi).1
 have hc := hr.cellAt i (by omega)
 have key : ∀ (rs : List (Option Addr × Nat × Nat)) (ts : List Tr) (i : Nat), ArgRow w0 rs ts → ts[i]? = some t → ∃ r, rs[i]? = some r ∧ r.2.1 = 1 + t.2.cells.length ∧ r.2.1 ≤ r.2.2 ∧ r.2.2 ≤ 9223372036854775807 ∧ CIn w0 r.1 (t.1 :: t.2.cells) := by
  intro rs
  induction rs with
  | nil =>
    intro ts i ha hi
    cases ts with
    | nil => cases hi
    | cons t ts => exact ha.elim
  | cons r rs ih =>
    intro ts i ha hi
    cases ts with
    | nil => cases hi
    | cons t' ts =>
      cases i with
      | zero =>
        simp only [List.getElem?_cons_zero, Option.some.injEq] at hi; subst hi; exact ⟨r, rfl, ha.1, ha.2.1, ha.2.2.1, ha.2.2.2.1⟩
      | succ i => exact ih ts i ha.2.2.2.2 (by simpa using hi)
 obtain ⟨⟨pq, nq, cq⟩, h1, h2, h3, h4, h5⟩ := key rs ts i ha hi; refine ⟨pq, nq, cq, ?_, by simp only [List.length_cons]; simp only at h2; omega, h3, h4, h5⟩; rw [hc, List.getElem?_map, h1]; rfl
set_option maxHeartbeats 1000000 in
theorem value_known1 (c : Cel) (k : Fo) (p : Option Addr) (n cap : Nat) (w : World) (ih : ∀ m, m < k.cells.length → SpOk m) (h3 : c.1 = 3) (hok : (Fo.node c k .nil).ok) (hn : n = (c :: k.cells).length) (hnm : n ≤ 2000) (hcap : n ≤ cap) (hcm : cap ≤ 9223372036854775807) (hin : CIn w p (c :: k.cells)) (hc1 : c.2.1 = 1) (hmem : c.2.2 ∈ ones) : Calls Tryz.prog 19 #[.slice p n cap] w (SV w (evT (c, k))) := by
 obtain ⟨b, o, rfl, hcs⟩ := hin (by simp); obtain ⟨p0, q0, d0, d1, d2, d3⟩ := hcs 0 (by simp); simp only [List.getD_cons_zero, Nat.zero_mul, Nat.add_zero] at d0 d1 d2 d3
 have hn0 : 0 < n := by rw [hn]; simp
 have hcb := hok.1; simp only [cellB, decide_eq_true_eq] at hcb; have hby := hok.2.1
 have hkn : knownB c.2.2 c.2.1 = true := by simp [knownB, hc1, hmem]
 have hct : k.count = 1 := by have := hok.2.2.1 h3; omega
 obtain ⟨c1, k1, rfl⟩ : ∃ c1 k1, k = .node c1 k1 .nil := by
  cases k with
  | nil => simp [Fo.count] at hct
  | node a b d => cases d with
    | nil => exact ⟨a, b, rfl⟩
    | node _ _ _ => simp [Fo.count] at hct
 have hev : evT (c, .node c1 k1 .nil) = match evT (c1, k1) with
   | .error t => .error t
   | .ok x => bndE (.ok (op1 c.2.2 x)) := by
  rw [evT_comp h3, if_neg (by rw [hkn]; decide)]
  show (match seqE [evT (c1, k1)] with
   | .error t => Except.error t
   | .ok xs => bndE (opV c.2.2 xs)) = _
  cases evT (c1, k1) <;> rfl
 have HOK1 : Hid (Fo.node c1 k1 .nil).ok := ⟨hok.2.2.2.2.1.1, hok.2.2.2.2.1.2.1, hok.2.2.2.2.1.2.2.1, hok.2.2.2.2.1.2.2.2.1, hok.2.2.2.2.1.2.2.2.2.1, trivial⟩
 have HAR : Hid (∀ W, Below w.heap.size w W → Calls Tryz.prog 46 #[.slice (some ⟨b, o, none⟩) n cap] W (ArgsOut W (.node c1 k1 .nil))) := fun W hW => l2args_any c _ _ n cap W h3 hok hn hnm hcap hcm (hin.below hW)
 have HL1 : Hid ((c1 :: k1.cells).length ≤ 2000 ∧ k1.cells.length < (Fo.cells (.node c1 k1 .nil)).length) := ⟨by simp [Fo.cells] at hn ⊢; omega, by simp [Fo.cells]⟩
 have HIH : Hid (∀ m, m < (Fo.cells (.node c1 k1 .nil)).length → SpOk m) := ih
 have hN1 : 1 ≤ c.2.1 := by omega
 have hN2 : c.2.1 ≤ 20 := by omega
 obtain ⟨N, eN⟩ : ∃ N, N = c.2.1 := ⟨_, rfl⟩
 obtain ⟨s, es⟩ : ∃ s, s = c.2.2 := ⟨_, rfl⟩
 obtain ⟨l, el⟩ : ∃ l, l = s.length := ⟨_, rfl⟩
 rw [← eN] at d1 hN1 hN2 hkn hc1; rw [← es] at d2 d3 hby hcb hkn hev hmem
 have hsl : s.length ≤ 100 := by omega
 rw [← el] at d2; rw [h3] at d0; have HV : Hid (Below w.heap.size w (w.alloc (.cells #[.int .i64 3, .int .i64 N, .slice p0 l q0] 63))) := (Below.refl _ _).alloc (Nat.le_refl _) _
 obtain ⟨str, estr⟩ : ∃ str, str = strOfNums s := ⟨_, rfl⟩
 have HCV : Hid (∀ W, Below w.heap.size w W → (convert 22 9 (.slice p0 l q0)).run Tryz.prog W = .ok (.string str) W) := fun W hW => by rw [estr]; exact conv_str (d3.below hW) l q0 el 9 Tryz.underlying9
 have HKN := l6known_any s hby N (w.alloc (.cells #[.int .i64 3, .int .i64 N, .slice p0 l q0] 63)) hN1 hN2; rw [hkn, ← estr] at HKN
 have HBX : Hid (∀ W, Below (w.alloc (.cells #[.int .i64 3, .int .i64 N, .slice p0 l q0] 63)).heap.size (w.alloc (.cells #[.int .i64 3, .int .i64 N, .slice p0 l q0] 63)) W → Box3 W w.heap.size (.int .i64 3) (.int .i64 N) (.slice p0 l q0)) := fun W hW => (Box3.of_block (t := 63) (heap_alloc_new w _)).below hW (by rw [World.size_alloc]; omega)
 have cvV := HCV.out _ HV.out; subst hc1
 obtain ⟨R, eR⟩ : ∃ R, R = evT (c, .node c1 k1 .nil) := ⟨_, rfl⟩
 rw [← eR] at hev ⊢; have HEV : Hid _ := hev; have HMM : Hid (s ∈ ones) := hmem; have HSTR : Hid (str = strOfNums s) := estr
 have HOV : Hid (∀ W, Calls Tryz.prog 49 #[.string (strOfNums sOvf)] W (MadeT W (evalT sOvf))) := fun W => l6evaluation_any sOvf (byte_of' (by decide)) (by decide) W
 clear hcs hin hn hok hcb hby hev eN es el eR h3 hsl d3 hkn estr hcap hcm ih hct hmem
 go_enter Tryz.func19, Tryz.ntmps19
 go_wp2_with fail; refine HKN.mono ?_; rintro e w1 ⟨rfl, hb1⟩; have HB1 : Hid (Below w.heap.size w w1) := Below.on HV.out hb1; have HBV : Hid (Below (w.alloc (.cells #[.int .i64 3, .int .i64 1, .slice p0 l q0] 63)).heap.size (w.alloc (.cells #[.int .i64 3, .int .i64 1, .slice p0 l q0] 63)) w1) := hb1; have HA1 := HAR.out w1 HB1.out; clear hb1 HKN HAR HV cvV d0 d1 d2; go_wp2_with fail; refine HA1.mono ?_; rintro e w2 ⟨qa, ma, mc, rs, rfl, hma, hrow, hargs, hb2⟩; have HB2 : Hid (Below w.heap.size w w2) := Below.on HB1.out hb2; have HBV2 : Hid (Below (w.alloc (.cells #[.int .i64 3, .int .i64 1, .slice p0 l q0] 63)).heap.size (w.alloc (.cells #[.int .i64 3, .int .i64 1, .slice p0 l q0] 63)) w2) := Below.on HBV.out hb2; obtain ⟨x0, x1, x2, _⟩ := HBX.out w2 HBV2.out; have hma2 : ma = 1 := hma; subst hma2; obtain ⟨ga, rfl, hat⟩ := row_at hrow (by decide) rfl hargs
 obtain ⟨pq, nq, cq, a0, a1, a2, a3, a4⟩ := hat 0 (c1, k1) rfl; have HR1 := HIH.out _ HL1.out.2 c1 k1 pq nq cq w2 (Nat.le_refl _) HOK1.out a1 (by rw [a1]; exact HL1.out.1) a2 a3 (a4.below hb2)
 have HIN1 : Hid (∀ x, evT (c1, k1) = .ok x → InB x) := fun x h => evT_in HOK1.out h
 clear hb2 HA1 hma hrow hargs hat a1 a2 a3 a4 HIH; go_wp2_with fail; refine HR1.mono ?_; clear HR1
 cases hr1 : evT (c1, k1) with
 | error t =>
   rintro e w3 ⟨⟨qb, mb, cb, rfl, hmb, hcb⟩, hb3⟩
   have HO : Hid (mb = _ ∧ CIn w3 qb _) := ⟨hmb, hcb⟩
   have HB3 : Hid (Below w.heap.size w w3) := Below.on HB2.out hb3
   have hm0 : 0 < mb := by rw [hmb]; simp
   have HR : Hid (R = .error t) := by show _ = _; rw [HEV.out, hr1]
   clear hmb hcb hb3 x0 x1 x2 a0; go_wp2_with fail
   go_ret2
   rw [HR.out]; exact ⟨⟨qb, mb, cb, rfl, HO.out.1, HO.out.2⟩, HB3.out⟩
 | ok x =>
   rintro e w3 ⟨rfl, hb3⟩; have HB3 : Hid (Below w.heap.size w w3) := Below.on HB2.out hb3; have HBV3 : Hid (Below (w.alloc (.cells #[.int .i64 3, .int .i64 1, .slice p0 l q0] 63)).heap.size (w.alloc (.cells #[.int .i64 3, .int .i64 1, .slice p0 l q0] 63)) w3) := Below.on HBV2.out hb3; have HX : Hid (InB x) := HIN1.out x hr1; clear x0 x1 x2; obtain ⟨x0, x1, x2, _⟩ := HBX.out w3 HBV3.out; have HONE := one_any HMM.out x w3 HX.out; have cv3 := HCV.out w3 HB3.out; rw [← HSTR.out] at HONE
   obtain ⟨v, ev⟩ : ∃ v, v = op1 s x := ⟨_, rfl⟩
   rw [← ev] at HONE
   have HR : Hid (R = if InB v then .ok v else .error ovfT) := by show _ = _; rw [HEV.out, hr1, ev]; rfl
   have hvb : -2000000000000000 ≤ v ∧ v ≤ 2000000000000000 := by
    have := HX.out
    unfold InB at this
    rw [ev]; unfold op1; repeat' split
    all_goals omega
   obtain ⟨hvb1, hvb2⟩ := hvb; clear hb3 a0 ev hr1; go_wp2_with fail; refine HONE.mono ?_; rintro e w4 ⟨rfl, rfl⟩; clear HONE cv3
   by_cases hi : InB v
   ·have HR2 : Hid (R = .ok v) := by show _ = _; rw [HR.out, if_pos hi]
    have hi1 := hi.1; have hi2 := hi.2; clear hi; go_wp2_with fail
    go_ret2
    rw [HR2.out]; exact ⟨rfl, HB3.out⟩
   ·have HR2 : Hid (R = .error ovfT) := by show _ = _; rw [HR.out, if_neg hi]
    have HE := HOV.out w4
    have hi1 : 1000000000000000 < v ∨ v < -1000000000000000 := by unfold InB at hi; omega
    clear hi
    rcases hi1 with hi1 | hi1
    all_goals
     go_wp2_with fail; refine HE.mono ?_; rintro e w5 ⟨qb, mb, cb, rfl, ho, hb5⟩
     have HO : Hid (mb = _ ∧ CIn w5 qb _) := ⟨ho.1, ho.cin⟩
     have HB5 : Hid (Below w.heap.size w w5) := Below.on HB3.out hb5; clear ho hb5 HE x0 x1 x2; go_wp2_with fail
     go_ret2
     rw [HR2.out]; exact ⟨⟨qb, mb, cb, rfl, HO.out.1, HO.out.2⟩, HB5.out⟩
set_option maxHeartbeats 1000000 in
theorem value_known2 (c : Cel) (k : Fo) (p : Option Addr) (n cap : Nat) (w : World) (ih : ∀ m, m < k.cells.length → SpOk m) (h3 : c.1 = 3) (hok : (Fo.node c k .nil).ok) (hn : n = (c :: k.cells).length) (hnm : n ≤ 2000) (hcap : n ≤ cap) (hcm : cap ≤ 9223372036854775807) (hin : CIn w p (c :: k.cells)) (hc1 : c.2.1 = 2) (hmem : c.2.2 ∈ twos) : Calls Tryz.prog 19 #[.slice p n cap] w (SV w (evT (c, k))) := by
 obtain ⟨b, o, rfl, hcs⟩ := hin (by simp); obtain ⟨p0, q0, d0, d1, d2, d3⟩ := hcs 0 (by simp); simp only [List.getD_cons_zero, Nat.zero_mul, Nat.add_zero] at d0 d1 d2 d3
 have hn0 : 0 < n := by rw [hn]; simp
 have hcb := hok.1; simp only [cellB, decide_eq_true_eq] at hcb; have hby := hok.2.1
 have hkn : knownB c.2.2 c.2.1 = true := by simp [knownB, hc1, hmem]
 have hct : k.count = 2 := by have := hok.2.2.1 h3; omega
 obtain ⟨c1, k1, c2, k2, rfl⟩ : ∃ c1 k1 c2 k2, k = .node c1 k1 (.node c2 k2 .nil) := by
  cases k with
  | nil => simp [Fo.count] at hct
  | node a b d => cases d with
    | nil => simp [Fo.count] at hct
    | node a' b' d' => cases d' with
      | nil => exact ⟨a, b, a', b', rfl⟩
      | node _ _ _ => simp [Fo.count] at hct
 have hev : evT (c, .node c1 k1 (.node c2 k2 .nil)) = match evT (c1, k1) with
   | .error t => .error t
   | .ok x => match evT (c2, k2) with
     | .error t => .error t
     | .ok y => bndE (op2 c.2.2 x y) := by
  rw [evT_comp h3, if_neg (by rw [hkn]; decide)]
  show (match seqE [evT (c1, k1), evT (c2, k2)] with
   | .error t => Except.error t
   | .ok xs => bndE (opV c.2.2 xs)) = _
  cases evT (c1, k1) <;> cases evT (c2, k2) <;> rfl
 have HOK1 : Hid (Fo.node c1 k1 .nil).ok := ⟨hok.2.2.2.2.1.1, hok.2.2.2.2.1.2.1, hok.2.2.2.2.1.2.2.1, hok.2.2.2.2.1.2.2.2.1, hok.2.2.2.2.1.2.2.2.2.1, trivial⟩
 have HOK2 : Hid (Fo.node c2 k2 .nil).ok := ⟨hok.2.2.2.2.1.2.2.2.2.2.1, hok.2.2.2.2.1.2.2.2.2.2.2.1, hok.2.2.2.2.1.2.2.2.2.2.2.2.1, hok.2.2.2.2.1.2.2.2.2.2.2.2.2.1, hok.2.2.2.2.1.2.2.2.2.2.2.2.2.2.1, trivial⟩
 have HAR : Hid (∀ W, Below w.heap.size w W → Calls Tryz.prog 46 #[.slice (some ⟨b, o, none⟩) n cap] W (ArgsOut W (.node c1 k1 (.node c2 k2 .nil)))) := fun W hW => l2args_any c _ _ n cap W h3 hok hn hnm hcap hcm (hin.below hW)
 have HL1 : Hid ((c1 :: k1.cells).length ≤ 2000 ∧ k1.cells.length < (Fo.cells (.node c1 k1 (.node c2 k2 .nil))).length) := ⟨by simp [Fo.cells] at hn ⊢; omega, by simp [Fo.cells]; omega⟩
 have HL2 : Hid ((c2 :: k2.cells).length ≤ 2000 ∧ k2.cells.length < (Fo.cells (.node c1 k1 (.node c2 k2 .nil))).length) := ⟨by simp [Fo.cells] at hn ⊢; omega, by simp [Fo.cells]; omega⟩
 have HIH : Hid (∀ m, m < (Fo.cells (.node c1 k1 (.node c2 k2 .nil))).length → SpOk m) := ih
 have hN1 : 1 ≤ c.2.1 := by omega
 have hN2 : c.2.1 ≤ 20 := by omega
 obtain ⟨N, eN⟩ : ∃ N, N = c.2.1 := ⟨_, rfl⟩
 obtain ⟨s, es⟩ : ∃ s, s = c.2.2 := ⟨_, rfl⟩
 obtain ⟨l, el⟩ : ∃ l, l = s.length := ⟨_, rfl⟩
 rw [← eN] at d1 hN1 hN2 hkn hc1; rw [← es] at d2 d3 hby hcb hkn hev hmem
 have hsl : s.length ≤ 100 := by omega
 rw [← el] at d2; rw [h3] at d0; have HV : Hid (Below w.heap.size w (w.alloc (.cells #[.int .i64 3, .int .i64 N, .slice p0 l q0] 63))) := (Below.refl _ _).alloc (Nat.le_refl _) _
 obtain ⟨str, estr⟩ : ∃ str, str = strOfNums s := ⟨_, rfl⟩
 have HCV : Hid (∀ W, Below w.heap.size w W → (convert 22 9 (.slice p0 l q0)).run Tryz.prog W = .ok (.string str) W) := fun W hW => by rw [estr]; exact conv_str (d3.below hW) l q0 el 9 Tryz.underlying9
 have HKN := l6known_any s hby N (w.alloc (.cells #[.int .i64 3, .int .i64 N, .slice p0 l q0] 63)) hN1 hN2; rw [hkn, ← estr] at HKN
 have HBX : Hid (∀ W, Below (w.alloc (.cells #[.int .i64 3, .int .i64 N, .slice p0 l q0] 63)).heap.size (w.alloc (.cells #[.int .i64 3, .int .i64 N, .slice p0 l q0] 63)) W → Box3 W w.heap.size (.int .i64 3) (.int .i64 N) (.slice p0 l q0)) := fun W hW => (Box3.of_block (t := 63) (heap_alloc_new w _)).below hW (by rw [World.size_alloc]; omega)
 have cvV := HCV.out _ HV.out; subst hc1
 obtain ⟨R, eR⟩ : ∃ R, R = evT (c, .node c1 k1 (.node c2 k2 .nil)) := ⟨_, rfl⟩
 rw [← eR] at hev ⊢; have HEV : Hid _ := hev; have HMM : Hid (s ∈ twos) := hmem; have HSTR : Hid (str = strOfNums s) := estr
 have HOV : Hid (∀ W, Calls Tryz.prog 49 #[.string (strOfNums sOvf)] W (MadeT W (evalT sOvf))) := fun W => l6evaluation_any sOvf (byte_of' (by decide)) (by decide) W
 clear hcs hin hn hok hcb hby hev eN es el eR h3 hsl d3 hkn estr hcap hcm ih hct hmem
 go_enter Tryz.func19, Tryz.ntmps19
 go_wp2_with fail; refine HKN.mono ?_; rintro e w1 ⟨rfl, hb1⟩; have HB1 : Hid (Below w.heap.size w w1) := Below.on HV.out hb1; have HBV : Hid (Below (w.alloc (.cells #[.int .i64 3, .int .i64 2, .slice p0 l q0] 63)).heap.size (w.alloc (.cells #[.int .i64 3, .int .i64 2, .slice p0 l q0] 63)) w1) := hb1; have HA1 := HAR.out w1 HB1.out; clear hb1 HKN HAR HV cvV d0 d1 d2; go_wp2_with fail; refine HA1.mono ?_; rintro e w2 ⟨qa, ma, mc, rs, rfl, hma, hrow, hargs, hb2⟩; have HB2 : Hid (Below w.heap.size w w2) := Below.on HB1.out hb2; have HBV2 : Hid (Below (w.alloc (.cells #[.int .i64 3, .int .i64 2, .slice p0 l q0] 63)).heap.size (w.alloc (.cells #[.int .i64 3, .int .i64 2, .slice p0 l q0] 63)) w2) := Below.on HBV.out hb2; obtain ⟨x0, x1, x2, _⟩ := HBX.out w2 HBV2.out; have hma2 : ma = 2 := hma; subst hma2; obtain ⟨ga, rfl, hat⟩ := row_at hrow (by decide) rfl hargs
 obtain ⟨pq, nq, cq, a0, a1, a2, a3, a4⟩ := hat 0 (c1, k1) rfl; obtain ⟨pr, nr, cr, e0, e1, e2, e3, e4⟩ := hat 1 (c2, k2) rfl
 have HR2 : Hid (∀ W, Below w2.heap.size w2 W → W.cell? ⟨ga, 1, none⟩ = some (.slice pr nr cr) ∧ Calls Tryz.prog 19 #[.slice pr nr cr] W (SV W (evT (c2, k2)))) := fun W hW => ⟨(hW.cell (World.block_lt_of_cell? _ _ e0)).trans e0, HIH.out _ HL2.out.2 c2 k2 pr nr cr W (Nat.le_refl _) HOK2.out e1 (by rw [e1]; exact HL2.out.1) e2 e3 ((e4.below hb2).below hW)⟩
 clear e0 e1 e2 e3 e4; have HR1 := HIH.out _ HL1.out.2 c1 k1 pq nq cq w2 (Nat.le_refl _) HOK1.out a1 (by rw [a1]; exact HL1.out.1) a2 a3 (a4.below hb2)
 have HIN1 : Hid (∀ x, evT (c1, k1) = .ok x → InB x) := fun x h => evT_in HOK1.out h
 have HIN2 : Hid (∀ x, evT (c2, k2) = .ok x → InB x) := fun x h => evT_in HOK2.out h
 clear hb2 HA1 hma hrow hargs hat a1 a2 a3 a4 HIH; go_wp2_with fail; refine HR1.mono ?_; clear HR1
 cases hr1 : evT (c1, k1) with
 | error t =>
   rintro e w3 ⟨⟨qb, mb, cb, rfl, hmb, hcb⟩, hb3⟩
   have HO : Hid (mb = _ ∧ CIn w3 qb _) := ⟨hmb, hcb⟩
   have HB3 : Hid (Below w.heap.size w w3) := Below.on HB2.out hb3
   have hm0 : 0 < mb := by rw [hmb]; simp
   have HR : Hid (R = .error t) := by show _ = _; rw [HEV.out, hr1]
   clear hmb hcb hb3 x0 x1 x2 a0; go_wp2_with fail
   go_ret2
   rw [HR.out]; exact ⟨⟨qb, mb, cb, rfl, HO.out.1, HO.out.2⟩, HB3.out⟩
 | ok x =>
   rintro e w3 ⟨rfl, hb3⟩; have HB3 : Hid (Below w.heap.size w w3) := Below.on HB2.out hb3; have HBV3 : Hid (Below (w.alloc (.cells #[.int .i64 3, .int .i64 2, .slice p0 l q0] 63)).heap.size (w.alloc (.cells #[.int .i64 3, .int .i64 2, .slice p0 l q0] 63)) w3) := Below.on HBV2.out hb3; have HX : Hid (InB x) := HIN1.out x hr1; clear x0 x1 x2; obtain ⟨x0, x1, x2, _⟩ := HBX.out w3 HBV3.out; obtain ⟨y0, HR3⟩ := HR2.out w3 hb3
   have HRX : Hid (R = match evT (c2, k2) with | .error t => .error t | .ok y => bndE (op2 s x y)) := by show _ = _; rw [HEV.out, hr1]
   clear hb3 a0 hr1 HR2; go_wp2_with fail; refine HR3.mono ?_; clear HR3
   cases hr2 : evT (c2, k2) with
   | error t =>
     rintro e w4 ⟨⟨qb, mb, cb, rfl, hmb, hcb⟩, hb4⟩
     have HO : Hid (mb = _ ∧ CIn w4 qb _) := ⟨hmb, hcb⟩
     have HB4 : Hid (Below w.heap.size w w4) := Below.on HB3.out hb4
     have hm0 : 0 < mb := by rw [hmb]; simp
     have HR : Hid (R = .error t) := by show _ = _; rw [HRX.out, hr2]
     clear hmb hcb hb4 x0 x1 x2 y0; go_wp2_with fail
     go_ret2
     rw [HR.out]; exact ⟨⟨qb, mb, cb, rfl, HO.out.1, HO.out.2⟩, HB4.out⟩
   | ok y =>
     rintro e w4 ⟨rfl, hb4⟩; have HB4 : Hid (Below w.heap.size w w4) := Below.on HB3.out hb4; have HBV4 : Hid (Below (w.alloc (.cells #[.int .i64 3, .int .i64 2, .slice p0 l q0] 63)).heap.size (w.alloc (.cells #[.int .i64 3, .int .i64 2, .slice p0 l q0] 63)) w4) := Below.on HBV3.out hb4; have HY : Hid (InB y) := HIN2.out y hr2; have HTWO := two_any HMM.out x y w4 HX.out HY.out; have cv4 := HCV.out w4 HB4.out; rw [← HSTR.out] at HTWO
     have HRY : Hid (R = bndE (op2 s x y)) := by show _ = _; rw [HRX.out, hr2]
     clear x0 x1 x2 y0 hr2 hb4; obtain ⟨x0, x1, x2, _⟩ := HBX.out w4 HBV4.out; go_wp2_with fail; refine HTWO.mono ?_; clear HTWO cv4
     cases hop : op2 s x y with
     | error t =>
       rintro e w5 ⟨⟨qb, mb, cb, rfl, ho⟩, hb5⟩
       have HO : Hid (mb = _ ∧ CIn w5 qb _) := ⟨ho.1, ho.cin⟩
       have HB5 : Hid (Below w.heap.size w w5) := Below.on HB4.out hb5
       have hm0 : 0 < mb := by rw [ho.1]; simp
       have HR : Hid (R = .error t) := by show _ = _; rw [HRY.out, hop]; rfl
       clear ho hb5 x0 x1 x2 hop; go_wp2_with fail
       go_ret2
       rw [HR.out]; exact ⟨⟨qb, mb, cb, rfl, HO.out.1, HO.out.2⟩, HB5.out⟩
     | ok v =>
       rintro e w5 ⟨⟨u, rfl, hsat⟩, hb5⟩; have HB5 : Hid (Below w.heap.size w w5) := Below.on HB4.out hb5
       have HR : Hid (R = if InB v then .ok v else .error ovfT) := by show _ = _; rw [HRY.out, hop]; rfl
       clear hb5 x0 x1 x2 hop
       rcases hsat with ⟨hi, rfl⟩ | ⟨hi, hj, hj1, hj2⟩
       ·have HR2 : Hid (R = .ok u) := by show _ = _; rw [HR.out, if_pos hi]
        have hi1 := hi.1; have hi2 := hi.2; clear hi; go_wp2_with fail
        go_ret2
        rw [HR2.out]; exact ⟨rfl, HB5.out⟩
       ·have HR2 : Hid (R = .error ovfT) := by show _ = _; rw [HR.out, if_neg hi]
        have HE := HOV.out w5
        have hi1 : 1000000000000000 < u ∨ u < -1000000000000000 := by unfold InB at hj; omega
        clear hi hj
        rcases hi1 with hi1 | hi1
        all_goals
         go_wp2_with fail; refine HE.mono ?_; rintro e w6 ⟨qb, mb, cb, rfl, ho, hb6⟩
         have HO : Hid (mb = _ ∧ CIn w6 qb _) := ⟨ho.1, ho.cin⟩
         have HB6 : Hid (Below w.heap.size w w6) := Below.on HB5.out hb6; clear ho hb6 HE; go_wp2_with fail
         go_ret2
         rw [HR2.out]; exact ⟨⟨qb, mb, cb, rfl, HO.out.1, HO.out.2⟩, HB6.out⟩
theorem value_step (c : Cel) (k : Fo) (p : Option Addr) (n cap : Nat) (w : World) (ih : ∀ m, m < k.cells.length → SpOk m) (hok : (Fo.node c k .nil).ok) (hn : n = (c :: k.cells).length) (hnm : n ≤ 2000) (hcap : n ≤ cap) (hcm : cap ≤ 9223372036854775807) (hin : CIn w p (c :: k.cells)) : Calls Tryz.prog 19 #[.slice p n cap] w (SV w (evT (c, k))) := by
 have hcb := hok.1; simp only [cellB, decide_eq_true_eq] at hcb
 rcases (show c.1 = 1 ∨ c.1 = 0 ∨ c.1 = 2 ∨ c.1 = 3 by omega) with h | h | h | h
 ·exact value_leaf c k p n cap w (.inl h) hn hnm hin
 ·exact value_leaf c k p n cap w (.inr h) hn hnm hin
 ·exact value_atom c k p n cap w h hok hn hnm hin
 ·cases hk : knownB c.2.2 c.2.1 with
  | false => exact value_unknown c k p n cap w h hok hn hnm hcap hcm hin hk
  | true =>
    simp only [knownB, Bool.or_eq_true, Bool.and_eq_true, decide_eq_true_eq] at hk
    rcases hk with hk | hk
    ·exact value_known1 c k p n cap w ih h hok hn hnm hcap hcm hin hk.1 hk.2
    ·exact value_known2 c k p n cap w ih h hok hn hnm hcap hcm hin hk.1 hk.2
theorem value_all : ∀ M, SpOk M := fun M => by
 induction M using Nat.strongRecOn with
 | _ M ih =>
   intro c k p n cap w hM hok hn hnm hcap hcm hin
   exact value_step c k p n cap w (fun m hm => ih m (by omega)) hok hn hnm hcap hcm hin
end
end Go.Proofs.YtkklidpnkofipaaGreatDoor
