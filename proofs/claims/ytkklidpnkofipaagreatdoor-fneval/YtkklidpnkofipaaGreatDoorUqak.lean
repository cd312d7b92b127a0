/- Texts of EvI2, EvI3, EvI4, EvI5, EvM, EvO. Own work of the verifier. -/
import Derived.Test.YtkklidpnkofipaaGreatDoorUqaf
import Derived.Test.YtkklidpnkofipaaGreatDoorUqae
namespace Go.Proofs.YtkklidpnkofipaaGreatDoor
set_option linter.unusedVariables false
set_option maxRecDepth 100000
section
open Go Go.RowKit
def MidE (v : Int) : Prop := -4611686018427387904 ≤ v ∧ v ≤ 4611686018427387904
def PanE (w : World) (t : Tr) (e : Ending) (w' : World) : Prop := ∃ tv, e = .panicked [{ v := .iface 57 (.agg #[tv]), recovered := false }] ∧ FoIn w' w.heap.size t.fo [tv]
def NumOut (w : World) (v : Int) (e : Ending) (w' : World) : Prop := ((InB v ∧ e = .returned (.int .i64 v)) ∨ (¬ InB v ∧ PanE w ovfT e w')) ∧ Below w.heap.size w w'
theorem PanE.mono {w0 w w' : World} {t : Tr} {e : Ending} (h : PanE w t e w') (hs : w0.heap.size ≤ w.heap.size) : PanE w0 t e w' := by
 obtain ⟨tv, h1, h2⟩ := h; exact ⟨tv, h1, h2.mono hs⟩
theorem magnitude_any (x : Int) (w : World) (h : MidE x) : Calls Tryz.prog 128 #[.int .i64 x] w fun e w' => e = .returned (.int .i64 (x.natAbs : Int)) ∧ w' = w := by
 have h1 := h.1; have h2 := h.2
 have hw : IntKind.i64.wrap (-x) = -x := by rw [IntKind.wrap_i64]; omega
 go_enter Tryz.func128, Tryz.ntmps128
 go_wp2_with fail
 case inl h => go_ret; exact ⟨by show Ending.returned (Value.int IntKind.i64 (-x)) = _; rw [show ((x.natAbs : Nat) : Int) = -x by omega], rfl⟩
 case inr h => go_ret; exact ⟨by show Ending.returned (Value.int IntKind.i64 x) = _; rw [show ((x.natAbs : Nat) : Int) = x by omega], rfl⟩
theorem bounded_any (x : Int) (w : World) (h : MidE x) : Calls Tryz.prog 216 #[.int .i64 x] w (NumOut w x) := by
 have HM := magnitude_any x w h
 by_cases hb : InB x
 ·have ht : ¬ (1000000000000000 : Int) < (x.natAbs : Int) := by rw [inB_abs] at hb; omega
  have HH : Hid (InB x) := hb; clear h hb
  go_enter Tryz.func216, Tryz.ntmps216
  go_wp2_with fail; refine HM.mono ?_; rintro e w1 ⟨rfl, rfl⟩; go_wp2_with fail; go_ret; exact ⟨.inl ⟨HH.out, rfl⟩, Below.refl _ _⟩
 ·have ht : (1000000000000000 : Int) < (x.natAbs : Int) := by rw [inB_abs] at hb; omega
  have HH : Hid (¬ InB x) := hb; have HO := intOverflow_any w; clear h hb
  go_enter Tryz.func216, Tryz.ntmps216
  go_wp2_with fail; refine HM.mono ?_; rintro e w1 ⟨rfl, rfl⟩; go_wp2_with fail; refine HO.mono ?_; rintro e w2 ⟨tv, rfl, hfo, hb⟩; have HF : Hid (FoIn w2 w1.heap.size ovfT.fo [tv]) := hfo; have HB : Hid (Below w1.heap.size w1 w2) := hb; clear hfo hb HO HM; go_wp2_with fail; exact ⟨rfl, .inr ⟨HH.out, tv, rfl, HF.out⟩, HB.out⟩
theorem product_any (x y : Int) (w : World) (hx : MidE x) (hy : MidE y) : Calls Tryz.prog 135 #[.int .i64 x, .int .i64 y] w (NumOut w (x * y)) := by
 by_cases h0 : x = 0
 ·subst h0
  have HZ : Hid (InB (0 * y)) := by rw [Int.zero_mul]; exact ⟨by decide, by decide⟩
  have hw : IntKind.i64.wrap (0 * y) = 0 * y := by rw [Int.zero_mul]; rfl
  go_enter Tryz.func135, Tryz.ntmps135
  go_wp2_with fail; go_ret; exact ⟨.inl ⟨HZ.out, by simp⟩, Below.refl _ _⟩
 ·have HX := magnitude_any x w hx
  have HY := magnitude_any y w hy
  have hxb : (x != 0) = true := by simpa using h0
  have hp : ¬ ((x.natAbs : Nat) : Int) = 0 := by omega
  have hah := prod_ahead (b := y) h0
  by_cases hb : InB (x * y)
  ·have ht : ¬ (1000000000000000 : Int) / ((x.natAbs : Nat) : Int) < ((y.natAbs : Nat) : Int) := fun h => hah.1 h hb
   have HH : Hid (InB (x * y)) := hb
   have hw : IntKind.i64.wrap (x * y) = x * y := by rw [IntKind.wrap_i64]; unfold InB at hb; omega
   obtain ⟨nx, enx⟩ : ∃ nx : Int, nx = ((x.natAbs : Nat) : Int) := ⟨_, rfl⟩
   obtain ⟨ny, eny⟩ : ∃ ny : Int, ny = ((y.natAbs : Nat) : Int) := ⟨_, rfl⟩
   have hnx : 1 ≤ nx ∧ nx ≤ 4611686018427387904 := by unfold MidE at hx; omega
   have hn1 := hnx.1; have hn2 := hnx.2; rw [← enx] at HX hp ht; rw [← eny] at HY ht; clear hah hb enx eny hx hy hnx
   go_enter Tryz.func135, Tryz.ntmps135
   go_wp2_with fail; refine HY.mono ?_; rintro e w1 ⟨rfl, rfl⟩; go_wp2_with fail; refine HX.mono ?_; rintro e w2 ⟨rfl, rfl⟩; go_wp2_with fail; go_ret; exact ⟨.inl ⟨HH.out, rfl⟩, Below.refl _ _⟩
  ·have ht : (1000000000000000 : Int) / ((x.natAbs : Nat) : Int) < ((y.natAbs : Nat) : Int) := hah.2 hb
   have HH : Hid (¬ InB (x * y)) := hb; have HO := intOverflow_any w
   obtain ⟨nx, enx⟩ : ∃ nx : Int, nx = ((x.natAbs : Nat) : Int) := ⟨_, rfl⟩
   obtain ⟨ny, eny⟩ : ∃ ny : Int, ny = ((y.natAbs : Nat) : Int) := ⟨_, rfl⟩
   have hnx : 1 ≤ nx ∧ nx ≤ 4611686018427387904 := by unfold MidE at hx; omega
   have hn1 := hnx.1; have hn2 := hnx.2; rw [← enx] at HX hp ht; rw [← eny] at HY ht; clear hah hb enx eny hx hy hnx
   go_enter Tryz.func135, Tryz.ntmps135
   go_wp2_with fail; refine HY.mono ?_; rintro e w1 ⟨rfl, rfl⟩; go_wp2_with fail; refine HX.mono ?_; rintro e w2 ⟨rfl, rfl⟩; go_wp2_with fail; refine HO.mono ?_; rintro e w3 ⟨tv, rfl, hfo, hb⟩; have HF : Hid (FoIn w3 w2.heap.size ovfT.fo [tv]) := hfo; have HB : Hid (Below w2.heap.size w2 w3) := hb; clear hfo hb HO HX HY; go_wp2_with fail; exact ⟨rfl, .inr ⟨HH.out, tv, rfl, HF.out⟩, HB.out⟩
def FnOut (w : World) (v : Int) (e : Ending) (w' : World) : Prop := ((MidE v ∧ e = .returned (.int .i64 v)) ∨ (¬ InB v ∧ PanE w ovfT e w')) ∧ Below w.heap.size w w'
theorem NumOut.fn {w w' : World} {v : Int} {e : Ending} (h : NumOut w v e w') : FnOut w v e w' := by
 refine ⟨?_, h.2⟩
 rcases h.1 with ⟨h1, h2⟩ | h1
 ·exact .inl ⟨by unfold InB at h1; unfold MidE; omega, h2⟩
 ·exact .inr h1
theorem fn_ret {w : World} {v u : Int} (h : MidE v) (e : u = v) : FnOut w v (.returned (.int .i64 u)) w := ⟨.inl ⟨h, by rw [e]⟩, Below.refl _ _⟩
theorem tdiv_abs {x y : Int} : (x.tdiv y).natAbs ≤ x.natAbs := by rw [Int.natAbs_tdiv]; exact Nat.div_le_self _ _
theorem tmod_abs {x y : Int} (h : y ≠ 0) : (x.tmod y).natAbs < y.natAbs := by rw [Int.natAbs_tmod]; exact Nat.mod_lt _ (by omega)
theorem neg_any (x : Int) (w : World) (hx : InB x) : Calls Tryz.prog 125 #[.int .i64 x] w (FnOut w (-x)) := by
 have hw : wrap64 (-x) = -x := by unfold InB at hx; unfold wrap64; omega
 go_enter Tryz.func125, Tryz.ntmps125
 go_wp2_with fail; go_ret; exact fn_ret (by unfold InB at hx; unfold MidE; omega) hw
theorem same_any (x : Int) (w : World) (hx : InB x) : Calls Tryz.prog 127 #[.int .i64 x] w (FnOut w (x)) := by
 go_enter Tryz.func127, Tryz.ntmps127
 go_wp2_with fail; go_ret; exact fn_ret (by unfold InB at hx; unfold MidE; omega) rfl
theorem not_any (x : Int) (w : World) (hx : InB x) : Calls Tryz.prog 131 #[.int .i64 x] w (FnOut w (-x - 1)) := by
 have hn := bits_not hx
 go_enter Tryz.func131, Tryz.ntmps131
 go_wp2_with fail; go_ret; exact fn_ret (by unfold InB at hx; unfold MidE; omega) rfl
theorem add_anyE (x : Int) (y : Int) (w : World) (hx : InB x) (hy : InB y) : Calls Tryz.prog 132 #[.int .i64 x, .int .i64 y] w (FnOut w (x + y)) := by
 have hw : wrap64 (x + y) = x + y := by unfold InB at hx hy; unfold wrap64; omega
 go_enter Tryz.func132, Tryz.ntmps132
 go_wp2_with fail; go_ret; exact fn_ret (by unfold InB at hx hy; unfold MidE; omega) hw
theorem sub_any (x : Int) (y : Int) (w : World) (hx : InB x) (hy : InB y) : Calls Tryz.prog 134 #[.int .i64 x, .int .i64 y] w (FnOut w (x - y)) := by
 have hw : wrap64 (x - y) = x - y := by unfold InB at hx hy; unfold wrap64; omega
 go_enter Tryz.func134, Tryz.ntmps134
 go_wp2_with fail; go_ret; exact fn_ret (by unfold InB at hx hy; unfold MidE; omega) hw
theorem and_any (x : Int) (y : Int) (w : World) (hx : InB x) (hy : InB y) : Calls Tryz.prog 146 #[.int .i64 x, .int .i64 y] w (FnOut w (bits .and .i64 x y)) := by
 have hn := bits_and_near hx hy
 go_enter Tryz.func146, Tryz.ntmps146
 go_wp2_with fail; go_ret; exact fn_ret (by unfold near at hn; unfold MidE; omega) rfl
theorem or_anyE (x : Int) (y : Int) (w : World) (hx : InB x) (hy : InB y) : Calls Tryz.prog 147 #[.int .i64 x, .int .i64 y] w (FnOut w (bits .or .i64 x y)) := by
 have hn := bits_or_near hx hy
 go_enter Tryz.func147, Tryz.ntmps147
 go_wp2_with fail; go_ret; exact fn_ret (by unfold near at hn; unfold MidE; omega) rfl
theorem xor_any (x : Int) (y : Int) (w : World) (hx : InB x) (hy : InB y) : Calls Tryz.prog 148 #[.int .i64 x, .int .i64 y] w (FnOut w (bits .xor .i64 x y)) := by
 have hn := bits_xor_near hx hy
 go_enter Tryz.func148, Tryz.ntmps148
 go_wp2_with fail; go_ret; exact fn_ret (by unfold near at hn; unfold MidE; omega) rfl
theorem min_any (x : Int) (y : Int) (w : World) (hx : InB x) (hy : InB y) : Calls Tryz.prog 136 #[.int .i64 x, .int .i64 y] w (FnOut w (if x < y then x else y)) := by
 go_enter Tryz.func136, Tryz.ntmps136
 go_wp2_with fail
 all_goals (go_ret; exact fn_ret (by unfold InB at hx hy; unfold MidE; omega) (by omega))
theorem max_any (x : Int) (y : Int) (w : World) (hx : InB x) (hy : InB y) : Calls Tryz.prog 137 #[.int .i64 x, .int .i64 y] w (FnOut w (if x < y then y else x)) := by
 go_enter Tryz.func137, Tryz.ntmps137
 go_wp2_with fail
 all_goals (go_ret; exact fn_ret (by unfold InB at hx hy; unfold MidE; omega) (by omega))
theorem quo_any (x : Int) (y : Int) (w : World) (hx : InB x) (hy : InB y) (h0 : y ≠ 0) : Calls Tryz.prog 138 #[.int .i64 x, .int .i64 y] w (FnOut w (x.tdiv y)) := by
 have ha := tdiv_abs (x := x) (y := y)
 have hw : wrap64 (x.tdiv y) = x.tdiv y := by unfold InB at hx hy; unfold wrap64; omega
 go_enter Tryz.func138, Tryz.ntmps138
 go_wp2_with fail; go_ret; exact fn_ret (by unfold InB at hx hy; unfold MidE; omega) hw
theorem rem_any (x : Int) (y : Int) (w : World) (hx : InB x) (hy : InB y) (h0 : y ≠ 0) : Calls Tryz.prog 141 #[.int .i64 x, .int .i64 y] w (FnOut w (x.tmod y)) := by
 have ha := tmod_abs (x := x) h0
 go_enter Tryz.func141, Tryz.ntmps141
 go_wp2_with fail; go_ret; exact fn_ret (by unfold InB at hx hy; unfold MidE; omega) rfl
theorem mod_any (x : Int) (y : Int) (w : World) (hx : InB x) (hy : InB y) (h0 : y ≠ 0) : Calls Tryz.prog 142 #[.int .i64 x, .int .i64 y] w (FnOut w ((x.tmod y + y).tmod y)) := by
 have ha := tmod_abs (x := x) h0; have hb := tmod_abs (x := x.tmod y + y) h0
 have hw : wrap64 (x.tmod y + y) = x.tmod y + y := by unfold InB at hx hy; unfold wrap64; omega
 go_enter Tryz.func142, Tryz.ntmps142
 go_wp2_with fail; go_ret; exact fn_ret (by unfold InB at hx hy; unfold MidE; omega) rfl
theorem ediv_abs {x d : Int} (hd : 1 ≤ d) : (x / d).natAbs ≤ x.natAbs := by
 by_cases h : 0 ≤ x
 ·have h1 := Int.ediv_le_self d h
  have h2 := Int.ediv_nonneg h (by omega : 0 ≤ d)
  omega
 ·have h1 : x ≤ x / d := by
   rw [Int.le_ediv_iff_mul_le (by omega)]; have := Int.mul_le_mul_of_nonpos_left (a := x) (b := d) (c := 1) (by omega) hd
   omega
  have h2 : x / d < 0 := Int.ediv_neg_of_neg_of_pos (by omega) (by omega)
  omega
theorem two_pos (n : Nat) : (1 : Int) ≤ 2 ^ n := by
 have : (0 : Int) < 2 ^ n := Int.pow_pos (by decide)
 omega
theorem shr_any (x : Int) (y : Int) (w : World) (hx : InB x) (hy : InB y) (h0 : 0 ≤ y) : Calls Tryz.prog 143 #[.int .i64 x, .int .i64 y] w (FnOut w (x / 2 ^ min y.toNat 64)) := by
 have ha := ediv_abs (x := x) (two_pos (min y.toNat 64))
 go_enter Tryz.func143, Tryz.ntmps143
 go_wp2_with fail; go_ret; exact fn_ret (by unfold InB at hx hy; unfold MidE; omega) rfl
theorem isNaNn_any (x : Int) (w : World) : Calls Tryz.prog 210 #[.int .i64 x] w fun e w' => e = .returned (.bool false) ∧ w' = w := by
 go_enter Tryz.func210, Tryz.ntmps210
 go_wp2_with fail; go_ret; exact ⟨rfl, rfl⟩
def sgn (x : Int) : Int := if 0 < x then 1 else if x < 0 then -1 else 0
theorem compareN_any (x : Int) (w : World) : Calls Tryz.prog 130 #[.int .i64 x, .int .i64 0] w fun e w' => e = .returned (.int .i64 (sgn x)) ∧ w' = w := by
 have H1 := isNaNn_any x w; have H2 := isNaNn_any 0 w
 by_cases h1 : x < 0
 rotate_right
 case' _ =>
  by_cases h2 : 0 < x
  rotate_right
  case' _ =>
   have HF : Hid (sgn x = 0) := by show _ = _; unfold sgn; rw [if_neg h2, if_neg h1]
  rotate_right
  case' _ =>
   have HF : Hid (sgn x = 1) := by show _ = _; unfold sgn; rw [if_pos h2]
 rotate_right
 case' _ =>
  have HF : Hid (sgn x = -1) := by show _ = _; unfold sgn; rw [if_neg (by omega), if_pos h1]
 all_goals
  go_enter Tryz.func130, Tryz.ntmps130
  go_wp2_with fail; refine H1.mono ?_; rintro e w1 ⟨rfl, rfl⟩; go_wp2_with fail; refine H2.mono ?_; rintro e w1 ⟨rfl, rfl⟩; go_wp2_with fail; go_ret; exact ⟨by rw [HF.out]; rfl, rfl⟩
theorem sign_any (x : Int) (w : World) (hx : InB x) : Calls Tryz.prog 129 #[.int .i64 x] w (FnOut w (sgn x)) := by
 have HC := compareN_any x w
 have HM : Hid (MidE (sgn x)) := by show _ ∧ _; unfold sgn; split <;> (try split) <;> omega
 obtain ⟨r, er⟩ : ∃ r, r = sgn x := ⟨_, rfl⟩
 rw [← er] at HC HM ⊢; clear er
 go_enter Tryz.func129, Tryz.ntmps129
 go_wp2_with fail; refine HC.mono ?_; rintro e w1 ⟨rfl, rfl⟩; go_wp2_with fail; go_ret; exact fn_ret HM.out rfl
theorem two_le {n : Nat} (h : n ≤ 50) : (2 : Int) ^ n ≤ 1125899906842624 := by
 have h1 : (2 : Nat) ^ n ≤ 2 ^ 50 := Nat.pow_le_pow_right (by decide) h
 have h2 : ((2 ^ n : Nat) : Int) = (2 : Int) ^ n := by simp
 rw [← h2]
 have h3 : (2 : Nat) ^ 50 = 1125899906842624 := by decide
 omega
theorem InB.mid {v : Int} (h : InB v) : MidE v := by unfold InB at h; unfold MidE; omega
set_option maxHeartbeats 400000 in
theorem power_loop (x : Int) (Y : Nat) (w : World) (hx : InB x) (h2 : 2 ≤ x.natAbs) (hY : 1 ≤ Y) (hm : Y ≤ 1000000000000000) : Calls Tryz.prog 149 #[.int .i64 x, .int .i64 Y] w (FnOut w (x ^ Y)) := by
 have HM := magnitude_any x w hx.mid
 obtain ⟨n, en⟩ : ∃ n : Int, n = ((x.natAbs : Nat) : Int) := ⟨_, rfl⟩
 have hn : ¬ n ≤ 1 := by omega
 have hy0 : ¬ (Y : Int) = 0 := by omega
 rw [← en] at HM
 have HX : Hid (InB x ∧ 2 ≤ x.natAbs) := ⟨hx, h2⟩
 clear en hx h2
 go_enter Tryz.func149, Tryz.ntmps149
 go_wp2_with fail; refine HM.mono ?_; rintro e w1 ⟨rfl, rfl⟩; go_wp2_with fail; refine HM.mono ?_; rintro e w2 ⟨rfl, rfl⟩; clear HM; go_wp2_with fail
 go_loopw [5, 27] (fun r i wr => ∃ (j : Nat) (v : Int), j ≤ Y ∧ i = .int .i64 j ∧ r = .int .i64 v ∧ Hid (v = x ^ j ∧ InB v) ∧ Hid (Below w2.heap.size w2 wr)) (fun _ i _ => Y - (intOf i).toNat)
 case atStart => exact ⟨0, 1, Nat.zero_le _, rfl, rfl, ⟨by simp, by decide⟩, Below.refl _ _⟩
 case round =>
  obtain ⟨j, v, hj, rfl, rfl, HV, HB⟩ := hrel
  by_cases hlt : j < Y
  ·have hltI : (j : Int) < (Y : Int) := by omega
   have HP := product_any v x wr HV.out.2.mid HX.out.1.mid
   have hvx : v * x = x ^ (j + 1) := by rw [HV.out.1, Int.pow_succ]
   by_cases hb : InB (v * x)
   ·have HP2 : Calls Tryz.prog 135 #[.int .i64 v, .int .i64 x] wr fun e w' => e = .returned (.int .i64 (v * x)) ∧ Below wr.heap.size wr w' := HP.mono fun e w' h => by
     rcases h.1 with h1 | h1
     ·exact ⟨h1.2, h.2⟩
     ·exact absurd hb h1.1
    have HN : Hid (v * x = x ^ (j + 1) ∧ InB (v * x)) := ⟨hvx, hb⟩
    obtain ⟨u, eu⟩ : ∃ u, u = v * x := ⟨_, rfl⟩
    rw [← eu] at HP2 HN; clear HP hvx hb eu; go_wp2_with fail; refine HP2.mono ?_; rintro e w3 ⟨rfl, hb3⟩; have HB3 : Hid (Below w2.heap.size w2 w3) := Below.on HB.out hb3; clear hb3 HP2; go_wp2_with fail; go_roundw
    case rel => exact ⟨j + 1, u, by omega, by go_num, rfl, HN, HB3⟩
    case measure => simp [intOf]; omega
   ·have HP2 : Calls Tryz.prog 135 #[.int .i64 v, .int .i64 x] wr fun e w' => PanE wr ovfT e w' ∧ Below wr.heap.size wr w' := HP.mono fun e w' h => by
     rcases h.1 with h1 | h1
     ·exact absurd h1.1 hb
     ·exact ⟨h1.2, h.2⟩
    have HN : Hid (¬ InB (x ^ Y)) := pow_grows HX.out.2 (i := j + 1) (by omega) (by rw [← hvx]; exact hb); clear HP hvx hb; go_wp2_with fail; refine HP2.mono ?_; rintro e w3 ⟨⟨tv, rfl, hfo⟩, hb3⟩; exact ⟨rfl, .inr ⟨HN.out, tv, rfl, hfo.mono HB.out.size⟩, Below.on HB.out hb3⟩
  ·have hltI : ¬ (j : Int) < (Y : Int) := by omega
   obtain rfl : j = Y := by omega
   go_wp2_with fail; go_ret; exact ⟨.inl ⟨by rw [← HV.out.1]; exact HV.out.2.mid, by rw [← HV.out.1]; rfl⟩, HB.out⟩
def powV (x y : Int) : Int := if 0 ≤ y then x ^ y.toNat else if y % 2 = 0 then 1 else x
theorem powV_small {x y : Int} (h : 0 ≤ y ∨ x.natAbs = 1) (h0 : y ≠ 0) (h1 : x.natAbs ≤ 1) : powV x y = if y % 2 = 0 then x * x else x := by
 unfold powV
 by_cases hx : x = 0
 ·subst hx
  have hy : 0 ≤ y := by
   rcases h with h | h
   ·exact h
   ·simp at h
  rw [if_pos hy, Int.zero_pow (by omega)]
  split <;> rfl
 ·have h2 : x.natAbs = 1 := by omega
  have hxx : x * x = 1 := by
   have : x = 1 ∨ x = -1 := by omega
   rcases this with rfl | rfl <;> rfl
  rw [hxx]
  by_cases hy : 0 ≤ y
  ·rw [if_pos hy, pow_one_abs h2]
   have : y.toNat % 2 = 0 ↔ y % 2 = 0 := by omega
   by_cases h3 : y % 2 = 0
   ·rw [if_pos h3, if_pos (this.2 h3)]
   ·rw [if_neg h3, if_neg (fun e => h3 (this.1 e))]
  ·rw [if_neg hy]
theorem even_tmod (y : Int) : y.tmod 2 = 0 ↔ y % 2 = 0 := ⟨fun h => Int.emod_eq_zero_of_dvd (Int.dvd_of_tmod_eq_zero h), fun h => Int.tmod_eq_zero_of_dvd (Int.dvd_of_emod_eq_zero h)⟩
set_option maxHeartbeats 400000 in
theorem power_any (x y : Int) (w : World) (hx : InB x) (hy : InB y) (h : 0 ≤ y ∨ x.natAbs = 1) : Calls Tryz.prog 149 #[.int .i64 x, .int .i64 y] w (FnOut w (powV x y)) := by
 by_cases h0 : y = 0
 ·subst h0
  have e : powV x 0 = 1 := by simp [powV]
  rw [e]
  go_enter Tryz.func149, Tryz.ntmps149
  go_wp2_with fail; go_ret; exact fn_ret (by unfold MidE; omega) rfl
 ·by_cases h1 : x.natAbs ≤ 1
  ·have HM := magnitude_any x w hx.mid
   rw [powV_small h h0 h1]
   obtain ⟨n, en⟩ : ∃ n : Int, n = ((x.natAbs : Nat) : Int) := ⟨_, rfl⟩
   have hn : n ≤ 1 := by omega
   have hxx : -1 ≤ x ∧ x ≤ 1 := by omega
   have hw : wrap64 (x * x) = x * x := by
    have : x = -1 ∨ x = 0 ∨ x = 1 := by omega
    rcases this with rfl | rfl | rfl <;> (unfold wrap64; omega)
   have hmi : MidE (x * x) := by
    have : x = -1 ∨ x = 0 ∨ x = 1 := by omega
    rcases this with rfl | rfl | rfl <;> (unfold MidE; omega)
   have HMI : Hid (MidE (x * x) ∧ MidE x) := ⟨hmi, by unfold MidE; omega⟩
   rw [← en] at HM; clear hmi hx hy h h1 en
   by_cases h2 : y % 2 = 0
   ·have ht : y.tmod 2 = 0 := (even_tmod y).2 h2
    rw [if_pos h2]; clear h2
    go_enter Tryz.func149, Tryz.ntmps149
    go_wp2_with fail; refine HM.mono ?_; rintro e w1 ⟨rfl, rfl⟩; go_wp2_with fail; go_ret; exact fn_ret HMI.out.1 (by first | rfl | exact hw)
   ·have ht : ¬ y.tmod 2 = 0 := fun e => h2 ((even_tmod y).1 e)
    rw [if_neg h2]; clear h2
    go_enter Tryz.func149, Tryz.ntmps149
    go_wp2_with fail; refine HM.mono ?_; rintro e w1 ⟨rfl, rfl⟩; go_wp2_with fail; refine HM.mono ?_; rintro e w2 ⟨rfl, rfl⟩; go_wp2_with fail; go_ret; exact fn_ret HMI.out.2 rfl
  ·have hy0 : 0 ≤ y := by rcases h with h | h <;> omega
   obtain ⟨Y, rfl⟩ : ∃ Y : Nat, y = Y := ⟨y.toNat, by omega⟩
   have e : powV x Y = x ^ Y := by unfold powV; rw [if_pos hy0]; rfl
   rw [e]; exact power_loop x Y w hx (by omega) (by omega) (by unfold InB at hy; omega)
theorem shiftLeft_any (x y : Int) (w : World) (hx : InB x) (hy : InB y) (h : 0 ≤ y) : Calls Tryz.prog 145 #[.int .i64 x, .int .i64 y] w (NumOut w (x * 2 ^ min y.toNat 50)) := by
 obtain ⟨Y, rfl⟩ : ∃ Y : Nat, y = Y := ⟨y.toNat, by omega⟩
 have fin : ∀ (d : Int), d = 2 ^ min Y 50 → Calls Tryz.prog 135 #[.int .i64 x, .int .i64 d] w (NumOut w (x * 2 ^ min Y 50)) := fun d ed => by
  rw [← ed]; refine product_any x d w hx.mid ?_; have h1 := two_le (Nat.min_le_right Y 50); have h2 := two_pos (min Y 50)
  unfold MidE
  omega
 show Calls _ _ _ w (NumOut w (x * 2 ^ min Y 50))
 obtain ⟨V, eV⟩ : ∃ V, V = x * 2 ^ min Y 50 := ⟨_, rfl⟩
 rw [← eV] at fin ⊢
 by_cases hY : 50 < Y
 rotate_right
 case' _ =>
  have HP := fin (2 ^ Y) (by rw [Nat.min_eq_left (by omega)]); have hp1 := two_pos Y; have hp2 := two_le (n := Y) (by omega)
  obtain ⟨d, ed⟩ : ∃ d : Int, d = 2 ^ Y := ⟨_, rfl⟩
  rw [← ed] at HP hp1 hp2
  have hw : wrap64 (2 ^ Y) = d := by rw [← ed]; unfold wrap64; omega
  have hYI : ¬ (50 : Int) < (Y : Int) := by omega
  clear fin eV ed
 rotate_right
 case' _ =>
  have HP := fin 1125899906842624 (by rw [Nat.min_eq_right (by omega)]; decide)
  have hw : wrap64 1125899906842624 = 1125899906842624 := by unfold wrap64; omega
  have hYI : (50 : Int) < (Y : Int) := by omega
  clear fin eV
 all_goals
  go_enter Tryz.func145, Tryz.ntmps145
  go_wp2_with fail; refine HP.mono ?_; rintro e w1 ⟨⟨hv, rfl⟩ | ⟨hv, tv, rfl, hfo⟩, hb⟩
  ·have HV : Hid (InB V) := hv
   have HB : Hid _ := hb; clear hv hb HP; go_wp2_with fail; go_ret; exact ⟨.inl ⟨HV.out, rfl⟩, HB.out⟩
  ·exact ⟨rfl, .inr ⟨hv, tv, rfl, hfo⟩, hb⟩
def GuOut (w : World) (o : Option Tr) (e : Ending) (w' : World) : Prop := (match o with
 | none => e = .returned .nilIface
 | some t => ∃ tv, e = .returned (.iface 57 (.agg #[tv])) ∧ FoIn w' w.heap.size t.fo [tv]) ∧ Below w.heap.size w w'
theorem noGuard_any (x y : Int) (w : World) : Calls Tryz.prog 211 #[.int .i64 x, .int .i64 y] w (GuOut w none) := by
 go_enter Tryz.func211, Tryz.ntmps211
 go_wp2_with fail; go_ret; exact ⟨rfl, Below.refl _ _⟩
theorem divGuard_any (x y : Int) (w : World) : Calls Tryz.prog 140 #[.int .i64 x, .int .i64 y] w (GuOut w (if y = 0 then some zeroT else none)) := by
 by_cases h : y = 0
 ·rw [if_pos h]
  subst h; have HE := evaluationError_any sZero w
  go_enter Tryz.func140, Tryz.ntmps140
  go_wp2_with fail; refine HE.mono ?_; rintro e w1 ⟨tv, rfl, hfo, hb⟩; have HF : Hid (FoIn w1 w.heap.size zeroT.fo [tv]) := hfo; have HB : Hid _ := hb; clear hfo hb HE; go_wp2_with fail; go_ret; exact ⟨⟨tv, rfl, HF.out⟩, HB.out⟩
 ·rw [if_neg h]
  go_enter Tryz.func140, Tryz.ntmps140
  go_wp2_with fail; go_ret; exact ⟨rfl, Below.refl _ _⟩
theorem shiftGuard_any (x y : Int) (w : World) : Calls Tryz.prog 144 #[.int .i64 x, .int .i64 y] w (GuOut w (if y < 0 then some undT else none)) := by
 by_cases h : y < 0
 ·rw [if_pos h]
  have HE := evaluationError_any sUnd w
  go_enter Tryz.func144, Tryz.ntmps144
  go_wp2_with fail; refine HE.mono ?_; rintro e w1 ⟨tv, rfl, hfo, hb⟩; have HF : Hid (FoIn w1 w.heap.size undT.fo [tv]) := hfo; have HB : Hid _ := hb; clear hfo hb HE; go_wp2_with fail; go_ret; exact ⟨⟨tv, rfl, HF.out⟩, HB.out⟩
 ·rw [if_neg h]
  go_enter Tryz.func144, Tryz.ntmps144
  go_wp2_with fail; go_ret; exact ⟨rfl, Below.refl _ _⟩
def powG (x y : Int) : Option Tr := if 0 ≤ y ∨ x.natAbs = 1 then none else if x = 0 then some zeroT else some (floatT x)
theorem powGuard_any (x y : Int) (w : World) (hx : InB x) : Calls Tryz.prog 150 #[.int .i64 x, .int .i64 y] w (GuOut w (powG x y)) := by
 have HM := magnitude_any x w hx.mid
 obtain ⟨n, en⟩ : ∃ n : Int, n = ((x.natAbs : Nat) : Int) := ⟨_, rfl⟩
 rw [← en] at HM
 by_cases hy : 0 ≤ y
 ·have e : powG x y = none := by unfold powG; rw [if_pos (.inl hy)]
  rw [e]; clear en e
  go_enter Tryz.func150, Tryz.ntmps150
  go_wp2_with fail; go_ret; exact ⟨rfl, Below.refl _ _⟩
 ·by_cases h1 : x.natAbs = 1
  ·have e : powG x y = none := by unfold powG; rw [if_pos (.inr h1)]
   have hn : n = 1 := by omega
   rw [e]; subst hn; clear en e
   go_enter Tryz.func150, Tryz.ntmps150
   go_wp2_with fail; refine HM.mono ?_; rintro e w1 ⟨rfl, rfl⟩; go_wp2_with fail; go_ret; exact ⟨rfl, Below.refl _ _⟩
  ·have hn : ¬ n = 1 := by omega
   by_cases h0 : x = 0
   ·have e : powG x y = some zeroT := by unfold powG; rw [if_neg (by omega), if_pos h0]
    have HE := evaluationError_any sZero w; rw [e]; subst h0; clear en e
    go_enter Tryz.func150, Tryz.ntmps150
    go_wp2_with fail; refine HM.mono ?_; rintro e w1 ⟨rfl, rfl⟩; go_wp2_with fail; refine HE.mono ?_; rintro e w2 ⟨tv, rfl, hfo, hb⟩; have HF : Hid (FoIn w2 w1.heap.size zeroT.fo [tv]) := hfo; have HB : Hid _ := hb; clear hfo hb HE; go_wp2_with fail; go_ret; exact ⟨⟨tv, rfl, HF.out⟩, HB.out⟩
   ·have e : powG x y = some (floatT x) := by unfold powG; rw [if_neg (by omega), if_neg h0]
    have HE := typeError_any sFloat (numT x) (.iface 48 (.int .i64 x)) w.heap.size w (Nat.le_refl _) (num_in rfl); rw [e]; clear en e
    go_enter Tryz.func150, Tryz.ntmps150
    go_wp2_with fail; refine HM.mono ?_; rintro e w1 ⟨rfl, rfl⟩; go_wp2_with fail; refine HE.mono ?_; rintro e w2 ⟨tv, rfl, hfo, hb⟩; have HF : Hid (FoIn w2 w1.heap.size (floatT x).fo [tv]) := hfo; have HB : Hid _ := hb; clear hfo hb HE; go_wp2_with fail; go_ret; exact ⟨⟨tv, rfl, HF.out⟩, HB.out⟩
theorem hCallP {P : Program} {ops : Array Oper} {Q : Exit → Act → World → Prop} {md : Region.Mode} {S : World → Prop} {i : Nat} {f : FuncId} {args : Array Value} {R : Ending → World → Prop} {fuel : Nat} {listed : Array Bool} {a : Act} {w : World} (d : Option Tmp) (hd : (ops[i]?).map (·.dst) = some d)
  (hr : Region.ready md ops listed = [i]) (hw : (ops[i]?).map (fun o => Region.wanted o (yielded ops a.tmps)) = some true)
  (hrun : ∀ o, ops[i]? = some o → (execOp a.eval o).run P w = .ok (.enter f args) w) (hC : Calls P f args w R) (hK : ∀ u w', R (.returned u) w' → S w' ∧ wpAnyH P md ops Q S fuel (listed.setIfInBounds i true) (a.put d u) w')
  (hP : ∀ ch w', R (.panicked ch) w' → Q (.panic ch) a w') (hO : ∀ w', ¬ R .outgrown w') : wpAnyH P md ops Q S (fuel + 1) listed a w := by
 refine wpAnyH_all hr (by simp) ?_
 intro j hj
 obtain rfl : j = i := by simpa using hj
 cases hi : ops[j]? with
 | none => simp [hi] at hd
 | some o =>
   have hd' : o.dst = d := by simpa [hi] using hd
   have hw' : Region.wanted o (yielded ops a.tmps) = true := by simpa [hi] using hw
   subst hd'
   unfold wpOp
   simp only [hi, hw', if_true, Oper.wp, hrun o hi, Oper.upon]; refine .inl (hC.mono fun e w'' he => ?_)
   cases e with
   | returned u => exact hK u w'' he
   | panicked ch => exact hP ch w'' he
   | outgrown => exact absurd he (hO w'')
def ApOut (w : World) (r : ER) (e : Ending) (w' : World) : Prop := (match r with
 | .ok v => (MidE v ∧ e = .returned (.tuple #[.int .i64 v, .nilIface])) ∨ (¬ InB v ∧ PanE w ovfT e w')
 | .error t => ∃ tv, e = .returned (.tuple #[.int .i64 0, .iface 57 (.agg #[tv])]) ∧ FoIn w' w.heap.size t.fo [tv]) ∧ Below w.heap.size w w'
theorem below_drew' (w : World) : Below w.heap.size w w.drew := ⟨rfl, rfl, rfl, Nat.le_refl _, fun _ _ => rfl⟩
theorem unary_any (K : Nat) (eK : ∀ args w, (callFunc K args).run Tryz.prog w = .ok (.enter K args) w) (x v : Int) (g bf : Nat) (w : World) (hbox : w.cell? ⟨bf, 0, none⟩ = some (.func (.func K) #[] #[])) (harg : w.cell? ⟨g, 0, none⟩ = some (.int .i64 x))
  (HF : ∀ W, Below w.heap.size w W → Calls Tryz.prog K #[.int .i64 x] W (FnOut W v)) :
  Calls Tryz.prog 209 #[.slice (some ⟨g, 0, none⟩) 1 1, .pointer (some ⟨bf, 0, none⟩)] w (ApOut w (.ok v)) := by
 have HFF : Hid _ := HF w.drew (below_drew' w)
 have HBX : Hid (w.cell? ⟨bf, 0, none⟩ = some (.func (.func K) #[] #[]) ∧ w.cell? ⟨g, 0, none⟩ = some (.int .i64 x)) := ⟨hbox, harg⟩
 clear HF
 go_enter Tryz.func209, Tryz.ntmps209
 go_wp2_with fail; refine wp_region_held_drew (S := fun W => W.cell? ⟨bf, 0, none⟩ = some (.func (.func K) #[] #[]) ∧ W.cell? ⟨g, 0, none⟩ = some (.int .i64 x)) (by kernel_rfl) ?_ (fun hHeld => ?_)
 ·exact ⟨hbox, harg⟩
 refine hTk (i := 0) (v := .func (.func K) #[] #[]) (some 5) (fun o ho W hSw => ?y0) (by assumption) ?_
 case y0 => cases ho; simp [execOp, go_sem, Act.eval, hSw.1]
 simp only [Act.put, zzA, zzB, zzC]; refine hTk (i := 1) (v := .slice (some ⟨g, 0, none⟩) 1 1) (some 6) (fun o ho W hSw => ?y1) (by assumption) ?_
 case y1 => cases ho; simp [execOp, go_sem, Act.eval]
 simp only [Act.put, zzA, zzB, zzC]; refine hTk (i := 2) (v := .pointer (some ⟨g, 0, none⟩)) (some 7) (fun o ho W hSw => ?y2) (by assumption) ?_
 case y2 => cases ho; simp [execOp, go_sem, Act.eval]
 simp only [Act.put, zzA, zzB, zzC]; refine hTk (i := 3) (v := .int .i64 x) (some 8) (fun o ho W hSw => ?y3) (by assumption) ?_
 case y3 => cases ho; simp [execOp, go_sem, Act.eval, hSw.2]
 simp only [Act.put, zzA, zzB, zzC]; refine hCallP (i := 4) (some 9) (by kernel_rfl) (by kernel_rfl) (by kernel_rfl) (fun o ho => ?y4) HFF.out ?_ ?_ ?_
 case y4 => cases ho; simp [execOp, go_sem, Act.eval, eK]
 ·rintro u w1 ⟨⟨hm, hu⟩ | ⟨_, _, hu, _⟩, hb⟩
  ·cases hu
   have kk : w1.cell? ⟨bf, 0, none⟩ = some (.func (.func K) #[] #[]) ∧ w1.cell? ⟨g, 0, none⟩ = some (.int .i64 x) := ⟨(hb.cell (p := ⟨bf, 0, none⟩) (World.block_lt_of_cell? _ _ HBX.out.1)).trans HBX.out.1, (hb.cell (p := ⟨g, 0, none⟩) (World.block_lt_of_cell? _ _ HBX.out.2)).trans HBX.out.2⟩
   refine ⟨kk, ?_⟩; have HM : Hid (MidE v) := hm; have HB : Hid (Below w.heap.size w w1) := Below.on (below_drew' w) hb; clear hHeld hm hb; have hHeld := kk; simp only [Act.put, zzA, zzB, zzC]; refine hTk (i := 5) (v := .int .i64 v) (some 3) (fun o ho W hSw => ?y5) (by assumption) ?_
   case y5 => cases ho; simp [execOp, go_sem, Act.eval]
   simp only [Act.put, zzA, zzB, zzC]; refine hTk (i := 6) (v := .nilIface) (some 4) (fun o ho W hSw => ?y6) (by assumption) ?_
   case y6 => cases ho; simp [execOp, go_sem, Act.eval]
   simp only [Act.put, zzA, zzB, zzC]; refine wpAnyH_done (by kernel_rfl) ?_ _; clear hHeld kk; go_wp2_with fail
   go_ret2
   exact ⟨.inl ⟨HM.out, rfl⟩, HB.out⟩
  ·cases hu
 ·rintro ch w1 ⟨⟨_, hu⟩ | ⟨hn, tv, hu, hfo⟩, hb⟩
  ·cases hu
  ·exact ⟨rfl, .inr ⟨hn, tv, congrArg _ (Ending.panicked.inj hu), hfo⟩, Below.on (below_drew' w) hb⟩
 ·rintro w1 ⟨⟨_, hu⟩ | ⟨_, _, hu, _⟩, _⟩
  ·cases hu
  ·cases hu
def guE (gr : Option Tr) (v : Int) : ER := match gr with
 | some t => .error t
 | none => .ok v
theorem behind_any (K1 K2 : Nat) (e1 : ∀ args w, (callFunc K1 args).run Tryz.prog w = .ok (.enter K1 args) w) (e2 : ∀ args w, (callFunc K2 args).run Tryz.prog w = .ok (.enter K2 args) w) (x y : Int) (gr : Option Tr) (v : Int) (g bc bf : Nat) (w : World)
  (hc : w.cell? ⟨bc, 0, none⟩ = some (.func (.func K1) #[] #[])) (hf : w.cell? ⟨bf, 0, none⟩ = some (.func (.func K2) #[] #[])) (h0 : w.cell? ⟨g, 0, none⟩ = some (.int .i64 x)) (h1 : w.cell? ⟨g, 1, none⟩ = some (.int .i64 y))
  (HC : ∀ W, Below w.heap.size w W → Calls Tryz.prog K1 #[.int .i64 x, .int .i64 y] W (GuOut W gr)) (HF : gr = none → ∀ W, Below w.heap.size w W → Calls Tryz.prog K2 #[.int .i64 x, .int .i64 y] W (FnOut W v)) :
  Calls Tryz.prog 213 #[.slice (some ⟨g, 0, none⟩) 2 2, .pointer (some ⟨bc, 0, none⟩), .pointer (some ⟨bf, 0, none⟩)] w (ApOut w (guE gr v)) := by
 have HCC := HC w.drew (below_drew' w); have HFF : Hid _ := HF; have HBX : Hid (w.cell? ⟨bf, 0, none⟩ = some (.func (.func K2) #[] #[])) := hf; clear HF HC hf
 cases gr with
 | some t =>
   go_enter Tryz.func213, Tryz.ntmps213
   go_wp2_with fail
   go_region
   go_wp2_with fail; refine HCC.mono ?_; rintro e w1 ⟨⟨tv, rfl, hfo⟩, hb⟩; have HF1 : Hid (FoIn w1 w.heap.size t.fo [tv]) := hfo; have HB1 : Hid (Below w.heap.size w w1) := Below.on (below_drew' w) hb; clear hfo hb HCC HFF; go_wp2_with fail
   go_ret2
   exact ⟨⟨tv, rfl, HF1.out⟩, HB1.out⟩
 | none =>
   go_enter Tryz.func213, Tryz.ntmps213
   go_wp2_with fail
   go_region
   go_wp2_with fail; refine HCC.mono ?_; rintro e w1 ⟨rfl, hb⟩; have HB1 : Hid (Below w.heap.size w w1) := Below.on (below_drew' w) hb; have c1 : w1.cell? ⟨bf, 0, none⟩ = some (.func (.func K2) #[] #[]) := (HB1.out.cell (p := ⟨bf, 0, none⟩) (World.block_lt_of_cell? _ _ HBX.out)).trans HBX.out; have HF2 := HFF.out trivial w1 HB1.out; clear hb HCC HFF; go_wp2_with fail; refine HF2.mono ?_; rintro e w2 ⟨⟨hm, rfl⟩ | ⟨hn, tv, rfl, hfo⟩, hb⟩
   ·have HM : Hid (MidE v) := hm
    have HB2 : Hid (Below w.heap.size w w2) := Below.on HB1.out hb; clear hm hb HF2; go_wp2_with fail
    go_ret2
    exact ⟨.inl ⟨HM.out, rfl⟩, HB2.out⟩
   ·exact ⟨rfl, .inr ⟨hn, tv, rfl, hfo.mono HB1.out.size⟩, Below.on HB1.out hb⟩
end
section
open Go Go.RowKit Go.Maps
def okF (f : Fun) : Prop := f.1.size ≤ 1000000 ∧ 0 ≤ f.2 ∧ f.2 ≤ 1000000
def heldE (v : Value) : Option (DataW Value × List MemPlace) := some (.held v, [])
inductive Cl where
 | un : Nat → Cl
 | bi : Nat → Nat → Cl
def ClIn (w : World) (c : Cl) (v : Value) : Prop := match c with
 | .un K => ∃ bf, v = .func (.func 209) #[] #[.pointer (some ⟨bf, 0, none⟩)] ∧ w.cell? ⟨bf, 0, none⟩ = some (.func (.func K) #[] #[])
 | .bi K1 K2 => ∃ bc bf, v = .func (.func 213) #[] #[.pointer (some ⟨bc, 0, none⟩), .pointer (some ⟨bf, 0, none⟩)] ∧ w.cell? ⟨bc, 0, none⟩ = some (.func (.func K1) #[] #[]) ∧ w.cell? ⟨bf, 0, none⟩ = some (.func (.func K2) #[] #[])
theorem ClIn.imp {w w' : World} {c : Cl} {v : Value} (h : ClIn w c v) (hc : ∀ b u, w.cell? ⟨b, 0, none⟩ = some u → w'.cell? ⟨b, 0, none⟩ = some u) : ClIn w' c v := by
 cases c with
 | un K => obtain ⟨bf, h1, h2⟩ := h; exact ⟨bf, h1, hc _ _ h2⟩
 | bi K1 K2 => obtain ⟨bc, bf, h1, h2, h3⟩ := h; exact ⟨bc, bf, h1, hc _ _ h2, hc _ _ h3⟩
theorem ClIn.below {w w' : World} {c : Cl} {v : Value} (h : ClIn w c v) (hb : Below w.heap.size w w') : ClIn w' c v := h.imp fun b u hu => (hb.cell (p := ⟨b, 0, none⟩) (World.block_lt_of_cell? _ _ hu)).trans hu
def TabIn (w : World) (b N : Nat) (T : Fun → Option Cl) : Prop := ∃ D : DataW Value, w.ownsMap Tryz.prog 76 heldE b N D ∧
 ∀ f, okF f → match T f with
   | none => has D (fk f) = false ∧ ∀ z, D.atKey (fk f) z = z
   | some c => has D (fk f) = true ∧ ∃ v, (∀ z, D.atKey (fk f) z = .held v) ∧ ClIn w c v
theorem TabIn.lt {w : World} {b N : Nat} {T : Fun → Option Cl} (h : TabIn w b N T) : b < w.heap.size := by obtain ⟨D, h, _⟩ := h; exact h.lt
theorem TabIn.of {w w' : World} {b N : Nat} {T : Fun → Option Cl} (h : TabIn w b N T) (hb : w'.heap[b]? = w.heap[b]?) (hc : ∀ b u, w.cell? ⟨b, 0, none⟩ = some u → w'.cell? ⟨b, 0, none⟩ = some u) : TabIn w' b N T := by
 obtain ⟨D, ⟨es, clock, h1, r⟩, h2⟩ := h; refine ⟨D, ⟨es, clock, hb.trans h1, r⟩, fun f hf => ?_⟩; have := h2 f hf
 cases hT : T f with
 | none => rw [hT] at this; exact this
 | some c =>
   rw [hT] at this; obtain ⟨a1, v, a2, a3⟩ := this; exact ⟨a1, v, a2, a3.imp hc⟩
theorem TabIn.below {w w' : World} {b N : Nat} {T : Fun → Option Cl} (h : TabIn w b N T) (hb : Below w.heap.size w w') : TabIn w' b N T := h.of (hb.block _ h.lt) fun b u hu => (hb.cell (p := ⟨b, 0, none⟩) (World.block_lt_of_cell? _ _ hu)).trans hu
theorem TabIn.made (w : World) : TabIn (w.alloc (.map #[] 0)) w.heap.size 0 (fun _ => none) := ⟨_, World.ownsMap_made _ _ _ _, fun f _ => ⟨rfl, fun z => rfl⟩⟩
theorem zeroOpE (w : World) : (zeroValue 151).run Tryz.prog w = .ok .nilFunc w := by kernel_rfl
theorem TabIn.look {w : World} {b N : Nat} {T : Fun → Option Cl} (h : TabIn w b N T) (f : Fun) (hf : okF f) :
  match T f with
  | none => (Instr.lookup 105 (.map (some b)) (.agg #[.string f.1, .int .i64 f.2]) true).run Tryz.prog w = .ok (.tuple #[.nilFunc, .bool false]) w
  | some c => ∃ v, (Instr.lookup 105 (.map (some b)) (.agg #[.string f.1, .int .i64 f.2]) true).run Tryz.prog w = .ok (.tuple #[v, .bool true]) w ∧ ClIn w c v := by
 obtain ⟨D, hown, hT⟩ := h; obtain ⟨v, ps, hrun, hv⟩ := hown.look_ok lawFun Tryz.underlying105 (zeroOpE w) (zd := .held .nilFunc) (zp := []) rfl (keyFun f hf.1 hf.2.1 hf.2.2); have h1 := hT f hf; simp only [heldE, Option.some.injEq, Prod.mk.injEq] at hv; have hv := hv.1
 cases e : T f with
 | none =>
   rw [e] at h1; rw [h1.2] at hv; rw [hrun, h1.1]
   cases hv
   rfl
 | some c =>
   rw [e] at h1; obtain ⟨a1, u, a2, a3⟩ := h1; rw [a2] at hv; rw [a1] at hrun
   cases hv
   exact ⟨v, hrun, a3⟩
theorem TabIn.put {w : World} {b N : Nat} {T : Fun → Option Cl} (h : TabIn w b N T) (hN : N ≤ 1000000) (f : Fun) (hf : okF f) (c : Cl) (v : Value) (hc : ClIn w c v) :
  ∃ w', (Instr.mapUpdate 105 (.map (some b)) (.agg #[.string f.1, .int .i64 f.2]) v).run Tryz.prog w = .ok () w' ∧ TabIn w' b (N + 1) (fun g => if g = f then some c else T g) ∧ w.grownBy w' (some b) := by
 obtain ⟨D, hown, hT⟩ := h; have hown0 := hown; obtain ⟨es, clock, hb, _⟩ := hown; obtain ⟨w', hrun, hown', hg⟩ := hown0.update lawFun Tryz.underlying105 (by unfold maxLen; omega) (keyFun f hf.1 hf.2.1 hf.2.2) (show heldE v = some (.held v, []) from rfl); have hm := hown0.isMap; have hkl : WideAt.IsKeyLit (fk f) := trivial
 have hk : ∀ b' u, w.cell? ⟨b', 0, none⟩ = some u → w'.cell? ⟨b', 0, none⟩ = some u := fun b' u hu => by
  have hne : b' ≠ b := fun e => by
   subst e; simp only [World.cell?, hb] at hu
   cases hu
  exact (World.cell?_of_block (a := ⟨b', 0, none⟩) (hg.block b' (World.block_lt_of_cell? _ _ hu) (by simpa using hne))).trans hu
 refine ⟨w', hrun, ⟨_, hown', fun g hgk => ?_⟩, hg⟩
 by_cases e : g = f
 ·subst e
  simp only [if_true]; exact ⟨has_put_same hm hkl _, v, fun z => atKey_put_same hm hkl _ z, hc.imp hk⟩
 ·simp only [if_neg e]
  have hne : fk g ≠ fk f := fun e' => e (fk_inj hgk hf e')
  have h1 := hT g hgk
  cases hTg : T g with
  | none =>
    rw [hTg] at h1; exact ⟨by rw [has_put_other hne]; exact h1.1, fun z => by rw [atKey_put_other hne]; exact h1.2 z⟩
  | some c' =>
    rw [hTg] at h1; obtain ⟨a1, u, a2, a3⟩ := h1; exact ⟨by rw [has_put_other hne]; exact a1, u, fun z => by rw [atKey_put_other hne]; exact a2 z, a3.imp hk⟩
end
section
open Go Go.RowKit
def ents : List ((List Int × Int) × Cl) := [
 (([45], 1), .un 125),
 (([43], 1), .un 127),
 (([97, 98, 115], 1), .un 128),
 (([115, 105, 103, 110], 1), .un 129),
 (([92], 1), .un 131),
 (([43], 2), .bi 211 132),
 (([45], 2), .bi 211 134),
 (([42], 2), .bi 211 135),
 (([109, 105, 110], 2), .bi 211 136),
 (([109, 97, 120], 2), .bi 211 137),
 (([47, 47], 2), .bi 140 138),
 (([114, 101, 109], 2), .bi 140 141),
 (([109, 111, 100], 2), .bi 140 142),
 (([62, 62], 2), .bi 144 143),
 (([60, 60], 2), .bi 144 145),
 (([47, 92], 2), .bi 211 146),
 (([92, 47], 2), .bi 211 147),
 (([120, 111, 114], 2), .bi 211 148),
 (([42, 42], 2), .bi 150 149),
 (([94], 2), .bi 150 149)]
def entOf (s : List Int) (n : Int) : Option Cl := (ents.find? fun y => decide (y.1 = (s, n))).map Prod.snd
def opTab (f : Fun) : Option Cl := (ents.find? fun y => decide ((strOfNums y.1.1, y.1.2) = f)).map Prod.snd
theorem ents_byte : ∀ y ∈ ents, Byte y.1.1 := by
 intro y hy x hx
 have h : (ents.all fun y => y.1.1.all fun x => decide (0 ≤ x) && decide (x < 256)) = true := by decide
 have := List.all_eq_true.1 (List.all_eq_true.1 h y hy) x hx
 simpa using this
theorem opTab_ent {s : List Int} (hs : Byte s) (n : Int) : opTab (strOfNums s, n) = entOf s n := by
 unfold opTab entOf
 congr 1
 have : ∀ l : List ((List Int × Int) × Cl), (∀ y ∈ l, Byte y.1.1) → (l.find? fun y => decide ((strOfNums y.1.1, y.1.2) = (strOfNums s, n))) = l.find? fun y => decide (y.1 = (s, n)) := by
  intro l
  induction l with
  | nil => intro _; rfl
  | cons y r ih =>
    intro h
    have e : decide ((strOfNums y.1.1, y.1.2) = (strOfNums s, n)) = decide (y.1 = (s, n)) := by
     rw [Bool.eq_iff_iff]; simp only [decide_eq_true_eq]
     constructor
     ·intro hh
      have h1 := str_ne (h y (by simp)) hs (Prod.mk.inj hh).1; exact Prod.ext h1 (Prod.mk.inj hh).2
     ·intro hh
      rw [hh]
    simp only [List.find?_cons, e, ih (fun z hz => h z (by simp [hz]))]
 exact this ents ents_byte
theorem ent_known {s : List Int} {n : Int} : knownB s n = (entOf s n).isSome := by
 unfold entOf
 rw [Option.isSome_map, Bool.eq_iff_iff, List.find?_isSome]; simp only [knownB, Bool.or_eq_true, Bool.and_eq_true, decide_eq_true_eq, ones, twos, ents, List.mem_cons, List.not_mem_nil, or_false, exists_eq_or_imp, exists_eq_left, Prod.mk.injEq]
 constructor
 ·rintro (⟨rfl, h⟩ | ⟨rfl, h⟩)
  ·rcases h with rfl | rfl | rfl | rfl | rfl <;> simp
  ·rcases h with rfl | rfl | rfl | rfl | rfl | rfl | rfl | rfl | rfl | rfl | rfl | rfl | rfl | rfl | rfl <;> simp
 ·intro h
  rcases h with ⟨rfl, rfl⟩ | ⟨rfl, rfl⟩ | ⟨rfl, rfl⟩ | ⟨rfl, rfl⟩ | ⟨rfl, rfl⟩ | ⟨rfl, rfl⟩ | ⟨rfl, rfl⟩ | ⟨rfl, rfl⟩ | ⟨rfl, rfl⟩ | ⟨rfl, rfl⟩ | ⟨rfl, rfl⟩ | ⟨rfl, rfl⟩ | ⟨rfl, rfl⟩ | ⟨rfl, rfl⟩ | ⟨rfl, rfl⟩ | ⟨rfl, rfl⟩ | ⟨rfl, rfl⟩ | ⟨rfl, rfl⟩ | ⟨rfl, rfl⟩ | ⟨rfl, rfl⟩
  all_goals simp
end
end Go.Proofs.YtkklidpnkofipaaGreatDoor
