/- Texts of EvI2, EvI3, EvI4, EvI5, EvM, EvO. Own work of the verifier. -/
import Derived.Test.YtpcmfdbcjegbcaaGreatDoorEvI1
import Derived.Test.YtpcmfdbcjegbcaaGreatDoorRegK
import Derived.Test.YtpcmfdbcjegbcaaGreatDoorRegK2
import Derived.Test.YtpcmfdbcjegbcaaGreatDoorFunK
import Derived.Test.YtpcmfdbcjegbcaaGreatDoorStrI
namespace Go.Proofs.YtpcmfdbcjegbcaaGreatDoor
open Go Go.RowKit
set_option linter.unusedVariables false

def Mid (v : Int) : Prop := -4611686018427387904 ≤ v ∧ v ≤ 4611686018427387904
/-- Ends by a panic with this error. -/
def PanE (w : World) (t : Tr) (e : Ending) (w' : World) : Prop := ∃ tv, e = .panicked [{ v := .iface 50 (.agg #[tv]), recovered := false }] ∧ FoIn w' w.heap.size t.fo [tv]
/-- A number, or a panic because it is beyond the bounds. -/
def NumOut (w : World) (v : Int) (e : Ending) (w' : World) : Prop := ((InB v ∧ e = .returned (.int .i64 v)) ∨ (¬ InB v ∧ PanE w ovfT e w')) ∧ Below w.heap.size w w'
theorem PanE.mono {w0 w w' : World} {t : Tr} {e : Ending} (h : PanE w t e w') (hs : w0.heap.size ≤ w.heap.size) : PanE w0 t e w' := by
  obtain ⟨tv, h1, h2⟩ := h
  exact ⟨tv, h1, h2.mono hs⟩

set_option maxRecDepth 100000 in
theorem magnitude_any (x : Int) (w : World) (h : Mid x) : Calls Tryz.prog 57 #[.int .i64 x] w fun e w' => e = .returned (.int .i64 (x.natAbs : Int)) ∧ w' = w := by
  have h1 := h.1
  have h2 := h.2
  have hw : IntKind.i64.wrap (-x) = -x := by rw [IntKind.wrap_i64]; omega
  go_enter Tryz.func57, Tryz.ntmps57
  go_wp2_with fail
  case inl h => go_ret; exact ⟨by show Ending.returned (Value.int IntKind.i64 (-x)) = _; rw [show ((x.natAbs : Nat) : Int) = -x by omega], rfl⟩
  case inr h => go_ret; exact ⟨by show Ending.returned (Value.int IntKind.i64 x) = _; rw [show ((x.natAbs : Nat) : Int) = x by omega], rfl⟩
set_option maxRecDepth 100000 in
theorem bounded_any (x : Int) (w : World) (h : Mid x) : Calls Tryz.prog 97 #[.int .i64 x] w (NumOut w x) := by
  have HM := magnitude_any x w h
  by_cases hb : InB x
  · have ht : ¬ (1000000000000000 : Int) < (x.natAbs : Int) := by rw [inB_abs] at hb; omega
    have HH : Hid (InB x) := hb
    clear h hb
    go_enter Tryz.func97, Tryz.ntmps97
    go_wp2_with fail
    refine HM.mono ?_
    rintro e w1 ⟨rfl, rfl⟩
    go_wp2_with fail
    go_ret
    exact ⟨.inl ⟨HH.out, rfl⟩, Below.refl _ _⟩
  · have ht : (1000000000000000 : Int) < (x.natAbs : Int) := by rw [inB_abs] at hb; omega
    have HH : Hid (¬ InB x) := hb
    have HO := intOverflow_any w
    clear h hb
    go_enter Tryz.func97, Tryz.ntmps97
    go_wp2_with fail
    refine HM.mono ?_
    rintro e w1 ⟨rfl, rfl⟩
    go_wp2_with fail
    refine HO.mono ?_
    rintro e w2 ⟨tv, rfl, hfo, hb⟩
    have HF : Hid (FoIn w2 w1.heap.size ovfT.fo [tv]) := hfo
    have HB : Hid (Below w1.heap.size w1 w2) := hb
    clear hfo hb HO HM
    go_wp2_with fail
    exact ⟨rfl, .inr ⟨HH.out, tv, rfl, HF.out⟩, HB.out⟩
set_option maxRecDepth 100000 in
theorem product_any (x y : Int) (w : World) (hx : Mid x) (hy : Mid y) : Calls Tryz.prog 64 #[.int .i64 x, .int .i64 y] w (NumOut w (x * y)) := by
  by_cases h0 : x = 0
  · subst h0
    have HZ : Hid (InB (0 * y)) := by rw [Int.zero_mul]; exact ⟨by decide, by decide⟩
    have hw : IntKind.i64.wrap (0 * y) = 0 * y := by rw [Int.zero_mul]; rfl
    go_enter Tryz.func64, Tryz.ntmps64
    go_wp2_with fail
    go_ret
    exact ⟨.inl ⟨HZ.out, by simp⟩, Below.refl _ _⟩
  · have HX := magnitude_any x w hx
    have HY := magnitude_any y w hy
    have hxb : (x != 0) = true := by simpa using h0
    have hp : ¬ ((x.natAbs : Nat) : Int) = 0 := by omega
    have hah := prod_ahead (b := y) h0
    by_cases hb : InB (x * y)
    · have ht : ¬ (1000000000000000 : Int) / ((x.natAbs : Nat) : Int) < ((y.natAbs : Nat) : Int) := fun h => hah.1 h hb
      have HH : Hid (InB (x * y)) := hb
      have hw : IntKind.i64.wrap (x * y) = x * y := by rw [IntKind.wrap_i64]; unfold InB at hb; omega
      obtain ⟨nx, enx⟩ : ∃ nx : Int, nx = ((x.natAbs : Nat) : Int) := ⟨_, rfl⟩
      obtain ⟨ny, eny⟩ : ∃ ny : Int, ny = ((y.natAbs : Nat) : Int) := ⟨_, rfl⟩
      have hnx : 1 ≤ nx ∧ nx ≤ 4611686018427387904 := by unfold Mid at hx; omega
      have hn1 := hnx.1
      have hn2 := hnx.2
      rw [← enx] at HX hp ht
      rw [← eny] at HY ht
      clear hah hb enx eny hx hy hnx
      go_enter Tryz.func64, Tryz.ntmps64
      go_wp2_with fail
      refine HY.mono ?_
      rintro e w1 ⟨rfl, rfl⟩
      go_wp2_with fail
      refine HX.mono ?_
      rintro e w2 ⟨rfl, rfl⟩
      go_wp2_with fail
      go_ret
      exact ⟨.inl ⟨HH.out, rfl⟩, Below.refl _ _⟩
    · have ht : (1000000000000000 : Int) / ((x.natAbs : Nat) : Int) < ((y.natAbs : Nat) : Int) := hah.2 hb
      have HH : Hid (¬ InB (x * y)) := hb
      have HO := intOverflow_any w
      obtain ⟨nx, enx⟩ : ∃ nx : Int, nx = ((x.natAbs : Nat) : Int) := ⟨_, rfl⟩
      obtain ⟨ny, eny⟩ : ∃ ny : Int, ny = ((y.natAbs : Nat) : Int) := ⟨_, rfl⟩
      have hnx : 1 ≤ nx ∧ nx ≤ 4611686018427387904 := by unfold Mid at hx; omega
      have hn1 := hnx.1
      have hn2 := hnx.2
      rw [← enx] at HX hp ht
      rw [← eny] at HY ht
      clear hah hb enx eny hx hy hnx
      go_enter Tryz.func64, Tryz.ntmps64
      go_wp2_with fail
      refine HY.mono ?_
      rintro e w1 ⟨rfl, rfl⟩
      go_wp2_with fail
      refine HX.mono ?_
      rintro e w2 ⟨rfl, rfl⟩
      go_wp2_with fail
      refine HO.mono ?_
      rintro e w3 ⟨tv, rfl, hfo, hb⟩
      have HF : Hid (FoIn w3 w2.heap.size ovfT.fo [tv]) := hfo
      have HB : Hid (Below w2.heap.size w2 w3) := hb
      clear hfo hb HO HX HY
      go_wp2_with fail
      exact ⟨rfl, .inr ⟨HH.out, tv, rfl, HF.out⟩, HB.out⟩

end Go.Proofs.YtpcmfdbcjegbcaaGreatDoor

namespace Go.Proofs.YtpcmfdbcjegbcaaGreatDoor
open Go Go.RowKit
set_option linter.unusedVariables false

/-- What an operation's own function leaves: its value, or a panic where this is beyond the bounds. -/
def FnOut (w : World) (v : Int) (e : Ending) (w' : World) : Prop := ((Mid v ∧ e = .returned (.int .i64 v)) ∨ (¬ InB v ∧ PanE w ovfT e w')) ∧ Below w.heap.size w w'
theorem NumOut.fn {w w' : World} {v : Int} {e : Ending} (h : NumOut w v e w') : FnOut w v e w' := by
  refine ⟨?_, h.2⟩
  rcases h.1 with ⟨h1, h2⟩ | h1
  · exact .inl ⟨by unfold InB at h1; unfold Mid; omega, h2⟩
  · exact .inr h1
theorem fn_ret {w : World} {v u : Int} (h : Mid v) (e : u = v) : FnOut w v (.returned (.int .i64 u)) w := ⟨.inl ⟨h, by rw [e]⟩, Below.refl _ _⟩
theorem fn_drew {w : World} {v u : Int} (k : Nat) (h : Mid v) (e : u = v) : FnOut w v (.returned (.int .i64 u)) (w.drewN k) := ⟨.inl ⟨h, by rw [e]⟩, ⟨rfl, rfl, rfl, Nat.le_refl _, fun _ _ => rfl⟩⟩
theorem tdiv_abs {x y : Int} : (x.tdiv y).natAbs ≤ x.natAbs := by rw [Int.natAbs_tdiv]; exact Nat.div_le_self _ _
theorem tmod_abs {x y : Int} (h : y ≠ 0) : (x.tmod y).natAbs < y.natAbs := by rw [Int.natAbs_tmod]; exact Nat.mod_lt _ (by omega)

set_option maxRecDepth 100000 in
theorem neg_any (x : Int) (w : World) (hx : InB x) : Calls Tryz.prog 54 #[.int .i64 x] w (FnOut w (-x)) := by
  have hw : wrap64 (-x) = -x := by unfold InB at hx; unfold wrap64; omega
  go_enter Tryz.func54, Tryz.ntmps54
  go_wp2_with fail
  go_ret
  exact fn_ret (by unfold InB at hx; unfold Mid; omega) hw
set_option maxRecDepth 100000 in
theorem same_any (x : Int) (w : World) (hx : InB x) : Calls Tryz.prog 56 #[.int .i64 x] w (FnOut w (x)) := by
  go_enter Tryz.func56, Tryz.ntmps56
  go_wp2_with fail
  go_ret
  exact fn_ret (by unfold InB at hx; unfold Mid; omega) rfl
set_option maxRecDepth 100000 in
theorem not_any (x : Int) (w : World) (hx : InB x) : Calls Tryz.prog 60 #[.int .i64 x] w (FnOut w (-x - 1)) := by
  have hn := bits_not hx
  go_enter Tryz.func60, Tryz.ntmps60
  go_wp2_with fail
  go_ret
  exact fn_ret (by unfold InB at hx; unfold Mid; omega) rfl
set_option maxRecDepth 100000 in
theorem add_any (x : Int) (y : Int) (w : World) (hx : InB x) (hy : InB y) : Calls Tryz.prog 61 #[.int .i64 x, .int .i64 y] w (FnOut w (x + y)) := by
  have hw : wrap64 (x + y) = x + y := by unfold InB at hx hy; unfold wrap64; omega
  go_enter Tryz.func61, Tryz.ntmps61
  go_wp2_with fail
  go_ret
  exact fn_ret (by unfold InB at hx hy; unfold Mid; omega) hw
set_option maxRecDepth 100000 in
theorem sub_any (x : Int) (y : Int) (w : World) (hx : InB x) (hy : InB y) : Calls Tryz.prog 63 #[.int .i64 x, .int .i64 y] w (FnOut w (x - y)) := by
  have hw : wrap64 (x - y) = x - y := by unfold InB at hx hy; unfold wrap64; omega
  go_enter Tryz.func63, Tryz.ntmps63
  go_wp2_with fail
  go_ret
  exact fn_ret (by unfold InB at hx hy; unfold Mid; omega) hw
set_option maxRecDepth 100000 in
theorem and_any (x : Int) (y : Int) (w : World) (hx : InB x) (hy : InB y) : Calls Tryz.prog 75 #[.int .i64 x, .int .i64 y] w (FnOut w (bits .and .i64 x y)) := by
  have hn := bits_and_near hx hy
  go_enter Tryz.func75, Tryz.ntmps75
  go_wp2_with fail
  go_ret
  exact fn_ret (by unfold near at hn; unfold Mid; omega) rfl
set_option maxRecDepth 100000 in
theorem or_any (x : Int) (y : Int) (w : World) (hx : InB x) (hy : InB y) : Calls Tryz.prog 76 #[.int .i64 x, .int .i64 y] w (FnOut w (bits .or .i64 x y)) := by
  have hn := bits_or_near hx hy
  go_enter Tryz.func76, Tryz.ntmps76
  go_wp2_with fail
  go_ret
  exact fn_ret (by unfold near at hn; unfold Mid; omega) rfl
set_option maxRecDepth 100000 in
theorem xor_any (x : Int) (y : Int) (w : World) (hx : InB x) (hy : InB y) : Calls Tryz.prog 77 #[.int .i64 x, .int .i64 y] w (FnOut w (bits .xor .i64 x y)) := by
  have hn := bits_xor_near hx hy
  go_enter Tryz.func77, Tryz.ntmps77
  go_wp2_with fail
  go_ret
  exact fn_ret (by unfold near at hn; unfold Mid; omega) rfl
set_option maxRecDepth 100000 in
theorem min_any (x : Int) (y : Int) (w : World) (hx : InB x) (hy : InB y) : Calls Tryz.prog 65 #[.int .i64 x, .int .i64 y] w (FnOut w (if x < y then x else y)) := by
  go_enter Tryz.func65, Tryz.ntmps65
  go_wp2_with fail
  all_goals (go_ret; exact fn_ret (by unfold InB at hx hy; unfold Mid; omega) (by omega))
set_option maxRecDepth 100000 in
theorem max_any (x : Int) (y : Int) (w : World) (hx : InB x) (hy : InB y) : Calls Tryz.prog 66 #[.int .i64 x, .int .i64 y] w (FnOut w (if x < y then y else x)) := by
  go_enter Tryz.func66, Tryz.ntmps66
  go_wp2_with fail
  all_goals (go_ret; exact fn_ret (by unfold InB at hx hy; unfold Mid; omega) (by omega))
set_option maxRecDepth 100000 in
theorem quo_any (x : Int) (y : Int) (w : World) (hx : InB x) (hy : InB y) (h0 : y ≠ 0) : Calls Tryz.prog 67 #[.int .i64 x, .int .i64 y] w (FnOut w (x.tdiv y)) := by
  have ha := tdiv_abs (x := x) (y := y)
  have hw : wrap64 (x.tdiv y) = x.tdiv y := by unfold InB at hx hy; unfold wrap64; omega
  go_enter Tryz.func67, Tryz.ntmps67
  go_wp2_with fail
  go_ret
  exact fn_ret (by unfold InB at hx hy; unfold Mid; omega) hw
set_option maxRecDepth 100000 in
theorem rem_any (x : Int) (y : Int) (w : World) (hx : InB x) (hy : InB y) (h0 : y ≠ 0) : Calls Tryz.prog 70 #[.int .i64 x, .int .i64 y] w (FnOut w (x.tmod y)) := by
  have ha := tmod_abs (x := x) h0
  go_enter Tryz.func70, Tryz.ntmps70
  go_wp2_with fail
  go_ret
  exact fn_ret (by unfold InB at hx hy; unfold Mid; omega) rfl
set_option maxRecDepth 100000 in
theorem mod_any (x : Int) (y : Int) (w : World) (hx : InB x) (hy : InB y) (h0 : y ≠ 0) : Calls Tryz.prog 71 #[.int .i64 x, .int .i64 y] w (FnOut w ((x.tmod y + y).tmod y)) := by
  have ha := tmod_abs (x := x) h0
  have hb := tmod_abs (x := x.tmod y + y) h0
  have hw : wrap64 (x.tmod y + y) = x.tmod y + y := by unfold InB at hx hy; unfold wrap64; omega
  go_enter Tryz.func71, Tryz.ntmps71
  go_wp2_with fail
  go_ret
  exact fn_ret (by unfold InB at hx hy; unfold Mid; omega) rfl
theorem ediv_abs {x d : Int} (hd : 1 ≤ d) : (x / d).natAbs ≤ x.natAbs := by
  by_cases h : 0 ≤ x
  · have h1 := Int.ediv_le_self d h
    have h2 := Int.ediv_nonneg h (by omega : 0 ≤ d)
    omega
  · have h1 : x ≤ x / d := by
      rw [Int.le_ediv_iff_mul_le (by omega)]
      have := Int.mul_le_mul_of_nonpos_left (a := x) (b := d) (c := 1) (by omega) hd
      omega
    have h2 : x / d < 0 := Int.ediv_neg_of_neg_of_pos (by omega) (by omega)
    omega
theorem two_pos (n : Nat) : (1 : Int) ≤ 2 ^ n := by
  have : (0 : Int) < 2 ^ n := Int.pow_pos (by decide)
  omega
set_option maxRecDepth 100000 in
theorem shr_any (x : Int) (y : Int) (w : World) (hx : InB x) (hy : InB y) (h0 : 0 ≤ y) : Calls Tryz.prog 72 #[.int .i64 x, .int .i64 y] w (FnOut w (x / 2 ^ min y.toNat 64)) := by
  have ha := ediv_abs (x := x) (two_pos (min y.toNat 64))
  go_enter Tryz.func72, Tryz.ntmps72
  go_wp2_with fail
  go_ret
  exact fn_ret (by unfold InB at hx hy; unfold Mid; omega) rfl
theorem isNaNn_any (x : Int) (w : World) : Calls Tryz.prog 89 #[.int .i64 x] w fun e w' => e = .returned (.bool false) ∧ w' = w := by
  go_enter Tryz.func89, Tryz.ntmps89
  go_wp2_with fail
  go_ret
  exact ⟨rfl, rfl⟩
def sgn (x : Int) : Int := if 0 < x then 1 else if x < 0 then -1 else 0
theorem compareN_any (x : Int) (w : World) : Calls Tryz.prog 59 #[.int .i64 x, .int .i64 0] w fun e w' => e = .returned (.int .i64 (sgn x)) ∧ w' = w := by
  have H1 := isNaNn_any x w
  have H2 := isNaNn_any 0 w
  by_cases h1 : x < 0
  · have HF : Hid (sgn x = -1) := by show _ = _; unfold sgn; rw [if_neg (by omega), if_pos h1]
    go_enter Tryz.func59, Tryz.ntmps59
    go_wp2_with fail
    refine H1.mono ?_
    rintro e w1 ⟨rfl, rfl⟩
    go_wp2_with fail
    refine H2.mono ?_
    rintro e w1 ⟨rfl, rfl⟩
    go_wp2_with fail
    go_ret
    exact ⟨by rw [HF.out]; rfl, rfl⟩
  · by_cases h2 : 0 < x
    · have HF : Hid (sgn x = 1) := by show _ = _; unfold sgn; rw [if_pos h2]
      go_enter Tryz.func59, Tryz.ntmps59
      go_wp2_with fail
      refine H1.mono ?_
      rintro e w1 ⟨rfl, rfl⟩
      go_wp2_with fail
      refine H2.mono ?_
      rintro e w1 ⟨rfl, rfl⟩
      go_wp2_with fail
      go_ret
      exact ⟨by rw [HF.out]; rfl, rfl⟩
    · have HF : Hid (sgn x = 0) := by show _ = _; unfold sgn; rw [if_neg h2, if_neg h1]
      go_enter Tryz.func59, Tryz.ntmps59
      go_wp2_with fail
      refine H1.mono ?_
      rintro e w1 ⟨rfl, rfl⟩
      go_wp2_with fail
      refine H2.mono ?_
      rintro e w1 ⟨rfl, rfl⟩
      go_wp2_with fail
      go_ret
      exact ⟨by rw [HF.out]; rfl, rfl⟩
set_option maxRecDepth 100000 in
theorem sign_any (x : Int) (w : World) (hx : InB x) : Calls Tryz.prog 58 #[.int .i64 x] w (FnOut w (sgn x)) := by
  have HC := compareN_any x w
  have HM : Hid (Mid (sgn x)) := by show _ ∧ _; unfold sgn; split <;> (try split) <;> omega
  obtain ⟨r, er⟩ : ∃ r, r = sgn x := ⟨_, rfl⟩
  rw [← er] at HC HM ⊢
  clear er
  go_enter Tryz.func58, Tryz.ntmps58
  go_wp2_with fail
  refine HC.mono ?_
  rintro e w1 ⟨rfl, rfl⟩
  go_wp2_with fail
  go_ret
  exact fn_ret HM.out rfl

end Go.Proofs.YtpcmfdbcjegbcaaGreatDoor

namespace Go.Proofs.YtpcmfdbcjegbcaaGreatDoor
open Go Go.RowKit
set_option linter.unusedVariables false

theorem two_le {n : Nat} (h : n ≤ 50) : (2 : Int) ^ n ≤ 1125899906842624 := by
  have h1 : (2 : Nat) ^ n ≤ 2 ^ 50 := Nat.pow_le_pow_right (by decide) h
  have h2 : ((2 ^ n : Nat) : Int) = (2 : Int) ^ n := by simp
  rw [← h2]
  have h3 : (2 : Nat) ^ 50 = 1125899906842624 := by decide
  omega
theorem InB.mid {v : Int} (h : InB v) : Mid v := by unfold InB at h; unfold Mid; omega
set_option maxRecDepth 100000 in
set_option maxHeartbeats 400000 in
theorem power_loop (x : Int) (Y : Nat) (w : World) (hx : InB x) (h2 : 2 ≤ x.natAbs) (hY : 1 ≤ Y) (hm : Y ≤ 1000000000000000) : Calls Tryz.prog 78 #[.int .i64 x, .int .i64 Y] w (FnOut w (x ^ Y)) := by
  have HM := magnitude_any x w hx.mid
  obtain ⟨n, en⟩ : ∃ n : Int, n = ((x.natAbs : Nat) : Int) := ⟨_, rfl⟩
  have hn : ¬ n ≤ 1 := by omega
  have hy0 : ¬ (Y : Int) = 0 := by omega
  rw [← en] at HM
  have HX : Hid (InB x ∧ 2 ≤ x.natAbs) := ⟨hx, h2⟩
  clear en hx h2
  go_enter Tryz.func78, Tryz.ntmps78
  go_wp2_with fail
  refine HM.mono ?_
  rintro e w1 ⟨rfl, rfl⟩
  go_wp2_with fail
  refine HM.mono ?_
  rintro e w2 ⟨rfl, rfl⟩
  clear HM
  go_wp2_with fail
  go_loopw [5, 27] (fun r i wr => ∃ (j : Nat) (v : Int), j ≤ Y ∧ i = .int .i64 j ∧ r = .int .i64 v ∧ Hid (v = x ^ j ∧ InB v) ∧ Hid (Below w2.heap.size w2 wr)) (fun _ i _ => Y - (intOf i).toNat)
  case atStart => exact ⟨0, 1, Nat.zero_le _, rfl, rfl, ⟨by simp, by decide⟩, Below.refl _ _⟩
  case round =>
    obtain ⟨j, v, hj, rfl, rfl, HV, HB⟩ := hrel
    by_cases hlt : j < Y
    · have hltI : (j : Int) < (Y : Int) := by omega
      have HP := product_any v x wr HV.out.2.mid HX.out.1.mid
      have hvx : v * x = x ^ (j + 1) := by rw [HV.out.1, Int.pow_succ]
      by_cases hb : InB (v * x)
      · have HP2 : Calls Tryz.prog 64 #[.int .i64 v, .int .i64 x] wr fun e w' => e = .returned (.int .i64 (v * x)) ∧ Below wr.heap.size wr w' := HP.mono fun e w' h => by
          rcases h.1 with h1 | h1
          · exact ⟨h1.2, h.2⟩
          · exact absurd hb h1.1
        have HN : Hid (v * x = x ^ (j + 1) ∧ InB (v * x)) := ⟨hvx, hb⟩
        obtain ⟨u, eu⟩ : ∃ u, u = v * x := ⟨_, rfl⟩
        rw [← eu] at HP2 HN
        clear HP hvx hb eu
        go_wp2_with fail
        refine HP2.mono ?_
        rintro e w3 ⟨rfl, hb3⟩
        have HB3 : Hid (Below w2.heap.size w2 w3) := Below.on HB.out hb3
        clear hb3 HP2
        go_wp2_with fail
        go_roundw
        case rel => exact ⟨j + 1, u, by omega, by go_num, rfl, HN, HB3⟩
        case measure => simp [intOf]; omega
      · have HP2 : Calls Tryz.prog 64 #[.int .i64 v, .int .i64 x] wr fun e w' => PanE wr ovfT e w' ∧ Below wr.heap.size wr w' := HP.mono fun e w' h => by
          rcases h.1 with h1 | h1
          · exact absurd h1.1 hb
          · exact ⟨h1.2, h.2⟩
        have HN : Hid (¬ InB (x ^ Y)) := pow_grows HX.out.2 (i := j + 1) (by omega) (by rw [← hvx]; exact hb)
        clear HP hvx hb
        go_wp2_with fail
        refine HP2.mono ?_
        rintro e w3 ⟨⟨tv, rfl, hfo⟩, hb3⟩
        exact ⟨rfl, .inr ⟨HN.out, tv, rfl, hfo.mono HB.out.size⟩, Below.on HB.out hb3⟩
    · have hltI : ¬ (j : Int) < (Y : Int) := by omega
      obtain rfl : j = Y := by omega
      go_wp2_with fail
      go_ret
      exact ⟨.inl ⟨by rw [← HV.out.1]; exact HV.out.2.mid, by rw [← HV.out.1]; rfl⟩, HB.out⟩

/-- A power, where there is one. -/
def powV (x y : Int) : Int := if 0 ≤ y then x ^ y.toNat else if y % 2 = 0 then 1 else x
theorem powV_small {x y : Int} (h : 0 ≤ y ∨ x.natAbs = 1) (h0 : y ≠ 0) (h1 : x.natAbs ≤ 1) : powV x y = if y % 2 = 0 then x * x else x := by
  unfold powV
  by_cases hx : x = 0
  · subst hx
    have hy : 0 ≤ y := by
      rcases h with h | h
      · exact h
      · simp at h
    rw [if_pos hy, Int.zero_pow (by omega)]
    split <;> rfl
  · have h2 : x.natAbs = 1 := by omega
    have hxx : x * x = 1 := by
      have : x = 1 ∨ x = -1 := by omega
      rcases this with rfl | rfl <;> rfl
    rw [hxx]
    by_cases hy : 0 ≤ y
    · rw [if_pos hy, pow_one_abs h2]
      have : y.toNat % 2 = 0 ↔ y % 2 = 0 := by omega
      by_cases h3 : y % 2 = 0
      · rw [if_pos h3, if_pos (this.2 h3)]
      · rw [if_neg h3, if_neg (fun e => h3 (this.1 e))]
    · rw [if_neg hy]
theorem even_tmod (y : Int) : y.tmod 2 = 0 ↔ y % 2 = 0 := ⟨fun h => Int.emod_eq_zero_of_dvd (Int.dvd_of_tmod_eq_zero h), fun h => Int.tmod_eq_zero_of_dvd (Int.dvd_of_emod_eq_zero h)⟩
set_option maxRecDepth 100000 in
set_option maxHeartbeats 400000 in
theorem power_any (x y : Int) (w : World) (hx : InB x) (hy : InB y) (h : 0 ≤ y ∨ x.natAbs = 1) : Calls Tryz.prog 78 #[.int .i64 x, .int .i64 y] w (FnOut w (powV x y)) := by
  by_cases h0 : y = 0
  · subst h0
    have e : powV x 0 = 1 := by simp [powV]
    rw [e]
    go_enter Tryz.func78, Tryz.ntmps78
    go_wp2_with fail
    go_ret
    exact fn_ret (by unfold Mid; omega) rfl
  · by_cases h1 : x.natAbs ≤ 1
    · have HM := magnitude_any x w hx.mid
      rw [powV_small h h0 h1]
      obtain ⟨n, en⟩ : ∃ n : Int, n = ((x.natAbs : Nat) : Int) := ⟨_, rfl⟩
      have hn : n ≤ 1 := by omega
      have hxx : -1 ≤ x ∧ x ≤ 1 := by omega
      have hw : wrap64 (x * x) = x * x := by
        have : x = -1 ∨ x = 0 ∨ x = 1 := by omega
        rcases this with rfl | rfl | rfl <;> (unfold wrap64; omega)
      have hmi : Mid (x * x) := by
        have : x = -1 ∨ x = 0 ∨ x = 1 := by omega
        rcases this with rfl | rfl | rfl <;> (unfold Mid; omega)
      have HMI : Hid (Mid (x * x) ∧ Mid x) := ⟨hmi, by unfold Mid; omega⟩
      rw [← en] at HM
      clear hmi hx hy h h1 en
      by_cases h2 : y % 2 = 0
      · have ht : y.tmod 2 = 0 := (even_tmod y).2 h2
        rw [if_pos h2]
        clear h2
        go_enter Tryz.func78, Tryz.ntmps78
        go_wp2_with fail
        refine HM.mono ?_
        rintro e w1 ⟨rfl, rfl⟩
        go_wp2_with fail
        go_ret
        exact fn_ret HMI.out.1 (by first | rfl | exact hw)
      · have ht : ¬ y.tmod 2 = 0 := fun e => h2 ((even_tmod y).1 e)
        rw [if_neg h2]
        clear h2
        go_enter Tryz.func78, Tryz.ntmps78
        go_wp2_with fail
        refine HM.mono ?_
        rintro e w1 ⟨rfl, rfl⟩
        go_wp2_with fail
        refine HM.mono ?_
        rintro e w2 ⟨rfl, rfl⟩
        go_wp2_with fail
        go_ret
        exact fn_ret HMI.out.2 rfl
    · have hy0 : 0 ≤ y := by rcases h with h | h <;> omega
      obtain ⟨Y, rfl⟩ : ∃ Y : Nat, y = Y := ⟨y.toNat, by omega⟩
      have e : powV x Y = x ^ Y := by unfold powV; rw [if_pos hy0]; rfl
      rw [e]
      exact power_loop x Y w hx (by omega) (by omega) (by unfold InB at hy; omega)
set_option maxRecDepth 100000 in
theorem shiftLeft_any (x y : Int) (w : World) (hx : InB x) (hy : InB y) (h : 0 ≤ y) : Calls Tryz.prog 74 #[.int .i64 x, .int .i64 y] w (NumOut w (x * 2 ^ min y.toNat 50)) := by
  obtain ⟨Y, rfl⟩ : ∃ Y : Nat, y = Y := ⟨y.toNat, by omega⟩
  have fin : ∀ (d : Int), d = 2 ^ min Y 50 → Calls Tryz.prog 64 #[.int .i64 x, .int .i64 d] w (NumOut w (x * 2 ^ min Y 50)) := fun d ed => by
    rw [← ed]
    refine product_any x d w hx.mid ?_
    have h1 := two_le (Nat.min_le_right Y 50)
    have h2 := two_pos (min Y 50)
    unfold Mid
    omega
  show Calls _ _ _ w (NumOut w (x * 2 ^ min Y 50))
  obtain ⟨V, eV⟩ : ∃ V, V = x * 2 ^ min Y 50 := ⟨_, rfl⟩
  rw [← eV] at fin ⊢
  by_cases hY : 50 < Y
  · have HP := fin 1125899906842624 (by rw [Nat.min_eq_right (by omega)]; decide)
    have hw : wrap64 1125899906842624 = 1125899906842624 := by unfold wrap64; omega
    have hYI : (50 : Int) < (Y : Int) := by omega
    clear fin eV
    go_enter Tryz.func74, Tryz.ntmps74
    go_wp2_with fail
    refine HP.mono ?_
    rintro e w1 ⟨⟨hv, rfl⟩ | ⟨hv, tv, rfl, hfo⟩, hb⟩
    · have HV : Hid (InB V) := hv
      have HB : Hid _ := hb
      clear hv hb HP
      go_wp2_with fail
      go_ret
      exact ⟨.inl ⟨HV.out, rfl⟩, HB.out⟩
    · exact ⟨rfl, .inr ⟨hv, tv, rfl, hfo⟩, hb⟩
  · have HP := fin (2 ^ Y) (by rw [Nat.min_eq_left (by omega)])
    have hp1 := two_pos Y
    have hp2 := two_le (n := Y) (by omega)
    obtain ⟨d, ed⟩ : ∃ d : Int, d = 2 ^ Y := ⟨_, rfl⟩
    rw [← ed] at HP hp1 hp2
    have hw : wrap64 (2 ^ Y) = d := by rw [← ed]; unfold wrap64; omega
    have hYI : ¬ (50 : Int) < (Y : Int) := by omega
    clear fin eV ed
    go_enter Tryz.func74, Tryz.ntmps74
    go_wp2_with fail
    refine HP.mono ?_
    rintro e w1 ⟨⟨hv, rfl⟩ | ⟨hv, tv, rfl, hfo⟩, hb⟩
    · have HV : Hid (InB V) := hv
      have HB : Hid _ := hb
      clear hv hb HP
      go_wp2_with fail
      go_ret
      exact ⟨.inl ⟨HV.out, rfl⟩, HB.out⟩
    · exact ⟨rfl, .inr ⟨hv, tv, rfl, hfo⟩, hb⟩
/-- What a guard leaves: nothing, or an error. -/
def GuOut (w : World) (o : Option Tr) (e : Ending) (w' : World) : Prop := (match o with
  | none => e = .returned .nilIface
  | some t => ∃ tv, e = .returned (.iface 50 (.agg #[tv])) ∧ FoIn w' w.heap.size t.fo [tv]) ∧ Below w.heap.size w w'
set_option maxRecDepth 100000 in
theorem noGuard_any (x y : Int) (w : World) : Calls Tryz.prog 90 #[.int .i64 x, .int .i64 y] w (GuOut w none) := by
  go_enter Tryz.func90, Tryz.ntmps90
  go_wp2_with fail
  go_ret
  exact ⟨rfl, Below.refl _ _⟩
set_option maxRecDepth 100000 in
theorem divGuard_any (x y : Int) (w : World) : Calls Tryz.prog 69 #[.int .i64 x, .int .i64 y] w (GuOut w (if y = 0 then some zeroT else none)) := by
  by_cases h : y = 0
  · rw [if_pos h]
    subst h
    have HE := evaluationError_any sZero w
    go_enter Tryz.func69, Tryz.ntmps69
    go_wp2_with fail
    refine HE.mono ?_
    rintro e w1 ⟨tv, rfl, hfo, hb⟩
    have HF : Hid (FoIn w1 w.heap.size zeroT.fo [tv]) := hfo
    have HB : Hid _ := hb
    clear hfo hb HE
    go_wp2_with fail
    go_ret
    exact ⟨⟨tv, rfl, HF.out⟩, HB.out⟩
  · rw [if_neg h]
    go_enter Tryz.func69, Tryz.ntmps69
    go_wp2_with fail
    go_ret
    exact ⟨rfl, Below.refl _ _⟩
set_option maxRecDepth 100000 in
theorem shiftGuard_any (x y : Int) (w : World) : Calls Tryz.prog 73 #[.int .i64 x, .int .i64 y] w (GuOut w (if y < 0 then some undT else none)) := by
  by_cases h : y < 0
  · rw [if_pos h]
    have HE := evaluationError_any sUnd w
    go_enter Tryz.func73, Tryz.ntmps73
    go_wp2_with fail
    refine HE.mono ?_
    rintro e w1 ⟨tv, rfl, hfo, hb⟩
    have HF : Hid (FoIn w1 w.heap.size undT.fo [tv]) := hfo
    have HB : Hid _ := hb
    clear hfo hb HE
    go_wp2_with fail
    go_ret
    exact ⟨⟨tv, rfl, HF.out⟩, HB.out⟩
  · rw [if_neg h]
    go_enter Tryz.func73, Tryz.ntmps73
    go_wp2_with fail
    go_ret
    exact ⟨rfl, Below.refl _ _⟩
/-- What the guard of powers says. -/
def powG (x y : Int) : Option Tr := if 0 ≤ y ∨ x.natAbs = 1 then none else if x = 0 then some zeroT else some (floatT x)
set_option maxRecDepth 100000 in
theorem powGuard_any (x y : Int) (w : World) (hx : InB x) : Calls Tryz.prog 79 #[.int .i64 x, .int .i64 y] w (GuOut w (powG x y)) := by
  have HM := magnitude_any x w hx.mid
  obtain ⟨n, en⟩ : ∃ n : Int, n = ((x.natAbs : Nat) : Int) := ⟨_, rfl⟩
  rw [← en] at HM
  by_cases hy : 0 ≤ y
  · have e : powG x y = none := by unfold powG; rw [if_pos (.inl hy)]
    rw [e]
    clear en e
    go_enter Tryz.func79, Tryz.ntmps79
    go_wp2_with fail
    go_ret
    exact ⟨rfl, Below.refl _ _⟩
  · by_cases h1 : x.natAbs = 1
    · have e : powG x y = none := by unfold powG; rw [if_pos (.inr h1)]
      have hn : n = 1 := by omega
      rw [e]
      subst hn
      clear en e
      go_enter Tryz.func79, Tryz.ntmps79
      go_wp2_with fail
      refine HM.mono ?_
      rintro e w1 ⟨rfl, rfl⟩
      go_wp2_with fail
      go_ret
      exact ⟨rfl, Below.refl _ _⟩
    · have hn : ¬ n = 1 := by omega
      by_cases h0 : x = 0
      · have e : powG x y = some zeroT := by unfold powG; rw [if_neg (by omega), if_pos h0]
        have HE := evaluationError_any sZero w
        rw [e]
        subst h0
        clear en e
        go_enter Tryz.func79, Tryz.ntmps79
        go_wp2_with fail
        refine HM.mono ?_
        rintro e w1 ⟨rfl, rfl⟩
        go_wp2_with fail
        refine HE.mono ?_
        rintro e w2 ⟨tv, rfl, hfo, hb⟩
        have HF : Hid (FoIn w2 w1.heap.size zeroT.fo [tv]) := hfo
        have HB : Hid _ := hb
        clear hfo hb HE
        go_wp2_with fail
        go_ret
        exact ⟨⟨tv, rfl, HF.out⟩, HB.out⟩
      · have e : powG x y = some (floatT x) := by unfold powG; rw [if_neg (by omega), if_neg h0]
        have HE := typeError_any sFloat (numT x) (.iface 41 (.int .i64 x)) w.heap.size w (Nat.le_refl _) (num_in rfl)
        rw [e]
        clear en e
        go_enter Tryz.func79, Tryz.ntmps79
        go_wp2_with fail
        refine HM.mono ?_
        rintro e w1 ⟨rfl, rfl⟩
        go_wp2_with fail
        refine HE.mono ?_
        rintro e w2 ⟨tv, rfl, hfo, hb⟩
        have HF : Hid (FoIn w2 w1.heap.size (floatT x).fo [tv]) := hfo
        have HB : Hid _ := hb
        clear hfo hb HE
        go_wp2_with fail
        go_ret
        exact ⟨⟨tv, rfl, HF.out⟩, HB.out⟩

end Go.Proofs.YtpcmfdbcjegbcaaGreatDoor

namespace Go.Proofs.YtpcmfdbcjegbcaaGreatDoor
open Go Go.RowKit
set_option linter.unusedVariables false

theorem hCallP {P : Program} {ops : Array Oper} {Q : Exit → Act → World → Prop} {md : Region.Mode} {S : World → Prop} {i : Nat} {f : FuncId} {args : Array Value} {R : Ending → World → Prop} {fuel : Nat} {listed : Array Bool} {a : Act} {w : World} (d : Option Tmp) (hd : (ops[i]?).map (·.dst) = some d)
    (hr : Region.ready md ops listed = [i]) (hw : (ops[i]?).map (fun o => Region.wanted o (yielded ops a.tmps)) = some true)
    (hrun : ∀ o, ops[i]? = some o → (execOp a.eval o).run P w = .ok (.enter f args) w) (hC : Calls P f args w R) (hK : ∀ u w', R (.returned u) w' → S w' ∧ wpAnyH P md ops Q S fuel (listed.setIfInBounds i true) (a.put d u) w')
    (hP : ∀ ch w', R (.panicked ch) w' → Q (.panic ch) a w') (hO : ∀ w', ¬ R .outgrown w') : wpAnyH P md ops Q S (fuel + 1) listed a w := by
  refine wpAnyH_all hr (by simp) ?_
  intro j hj
  obtain rfl : j = i := by simpa using hj
  cases hi : ops[j]? with
  | none => simp [hi] at hd
  | some o =>
    have hd' : o.dst = d := by simpa [hi] using hd
    have hw' : Region.wanted o (yielded ops a.tmps) = true := by simpa [hi] using hw
    subst hd'
    unfold wpOp
    simp only [hi, hw', if_true, Oper.wp, hrun o hi, Oper.upon]
    refine .inl (hC.mono fun e w'' he => ?_)
    cases e with
    | returned u => exact hK u w'' he
    | panicked ch => exact hP ch w'' he
    | outgrown => exact absurd he (hO w'')
/-- What applying an operation leaves. -/
def ApOut (w : World) (r : ER) (e : Ending) (w' : World) : Prop := (match r with
  | .ok v => (Mid v ∧ e = .returned (.tuple #[.int .i64 v, .nilIface])) ∨ (¬ InB v ∧ PanE w ovfT e w')
  | .error t => ∃ tv, e = .returned (.tuple #[.int .i64 0, .iface 50 (.agg #[tv])]) ∧ FoIn w' w.heap.size t.fo [tv]) ∧ Below w.heap.size w w'
theorem below_drew' (w : World) : Below w.heap.size w w.drew := ⟨rfl, rfl, rfl, Nat.le_refl _, fun _ _ => rfl⟩

set_option maxRecDepth 100000 in
theorem unary_any (K : Nat) (eK : ∀ args w, (callFunc K args).run Tryz.prog w = .ok (.enter K args) w) (x v : Int) (g bf : Nat) (w : World) (hbox : w.cell? ⟨bf, 0, none⟩ = some (.func (.func K) #[] #[])) (harg : w.cell? ⟨g, 0, none⟩ = some (.int .i64 x))
    (HF : ∀ W, Below w.heap.size w W → Calls Tryz.prog K #[.int .i64 x] W (FnOut W v)) :
    Calls Tryz.prog 88 #[.slice (some ⟨g, 0, none⟩) 1 1, .pointer (some ⟨bf, 0, none⟩)] w (ApOut w (.ok v)) := by
  have HFF : Hid _ := HF w.drew (below_drew' w)
  have HBX : Hid (w.cell? ⟨bf, 0, none⟩ = some (.func (.func K) #[] #[]) ∧ w.cell? ⟨g, 0, none⟩ = some (.int .i64 x)) := ⟨hbox, harg⟩
  clear HF
  go_enter Tryz.func88, Tryz.ntmps88
  go_wp2_with fail
  refine wp_region_held_drew (S := fun W => W.cell? ⟨bf, 0, none⟩ = some (.func (.func K) #[] #[]) ∧ W.cell? ⟨g, 0, none⟩ = some (.int .i64 x)) (by kernel_rfl) ?_ (fun hHeld => ?_)
  · exact ⟨hbox, harg⟩
  refine hTake (i := 0) (v := .func (.func K) #[] #[]) (some 5) (by kernel_rfl) (by kernel_rfl) (by kernel_rfl) (by kernel_rfl) (by kernel_rfl) (fun _ _ _ h => h) (fun o ho W hSw => ?y0) (by assumption) ?_
  case y0 =>
    cases ho
    simp [execOp, go_sem, Act.eval, hSw.1]
  simp only [Act.put, List.setIfInBounds_toArray, List.set_cons_zero, List.set_cons_succ]
  refine hTake (i := 1) (v := .slice (some ⟨g, 0, none⟩) 1 1) (some 6) (by kernel_rfl) (by kernel_rfl) (by kernel_rfl) (by kernel_rfl) (by kernel_rfl) (fun _ _ _ h => h) (fun o ho W hSw => ?y1) (by assumption) ?_
  case y1 =>
    cases ho
    simp [execOp, go_sem, Act.eval]
  simp only [Act.put, List.setIfInBounds_toArray, List.set_cons_zero, List.set_cons_succ]
  refine hTake (i := 2) (v := .pointer (some ⟨g, 0, none⟩)) (some 7) (by kernel_rfl) (by kernel_rfl) (by kernel_rfl) (by kernel_rfl) (by kernel_rfl) (fun _ _ _ h => h) (fun o ho W hSw => ?y2) (by assumption) ?_
  case y2 =>
    cases ho
    simp [execOp, go_sem, Act.eval]
  simp only [Act.put, List.setIfInBounds_toArray, List.set_cons_zero, List.set_cons_succ]
  refine hTake (i := 3) (v := .int .i64 x) (some 8) (by kernel_rfl) (by kernel_rfl) (by kernel_rfl) (by kernel_rfl) (by kernel_rfl) (fun _ _ _ h => h) (fun o ho W hSw => ?y3) (by assumption) ?_
  case y3 =>
    cases ho
    simp [execOp, go_sem, Act.eval, hSw.2]
  simp only [Act.put, List.setIfInBounds_toArray, List.set_cons_zero, List.set_cons_succ]
  refine hCallP (i := 4) (some 9) (by kernel_rfl) (by kernel_rfl) (by kernel_rfl) (fun o ho => ?y4) HFF.out ?_ ?_ ?_
  case y4 =>
    cases ho
    simp [execOp, go_sem, Act.eval, eK]
  · rintro u w1 ⟨⟨hm, hu⟩ | ⟨_, _, hu, _⟩, hb⟩
    · cases hu
      have kk : w1.cell? ⟨bf, 0, none⟩ = some (.func (.func K) #[] #[]) ∧ w1.cell? ⟨g, 0, none⟩ = some (.int .i64 x) := ⟨(hb.cell (p := ⟨bf, 0, none⟩) (World.block_lt_of_cell? _ _ HBX.out.1)).trans HBX.out.1, (hb.cell (p := ⟨g, 0, none⟩) (World.block_lt_of_cell? _ _ HBX.out.2)).trans HBX.out.2⟩
      refine ⟨kk, ?_⟩
      have HM : Hid (Mid v) := hm
      have HB : Hid (Below w.heap.size w w1) := Below.on (below_drew' w) hb
      clear hHeld hm hb
      have hHeld := kk
      simp only [Act.put, List.setIfInBounds_toArray, List.set_cons_zero, List.set_cons_succ]
      refine hTake (i := 5) (v := .int .i64 v) (some 3) (by kernel_rfl) (by kernel_rfl) (by kernel_rfl) (by kernel_rfl) (by kernel_rfl) (fun _ _ _ h => h) (fun o ho W hSw => ?y5) (by assumption) ?_
      case y5 =>
        cases ho
        simp [execOp, go_sem, Act.eval]
      simp only [Act.put, List.setIfInBounds_toArray, List.set_cons_zero, List.set_cons_succ]
      refine hTake (i := 6) (v := .nilIface) (some 4) (by kernel_rfl) (by kernel_rfl) (by kernel_rfl) (by kernel_rfl) (by kernel_rfl) (fun _ _ _ h => h) (fun o ho W hSw => ?y6) (by assumption) ?_
      case y6 =>
        cases ho
        simp [execOp, go_sem, Act.eval]
      simp only [Act.put, List.setIfInBounds_toArray, List.set_cons_zero, List.set_cons_succ]
      refine wpAnyH_done (by kernel_rfl) ?_ _
      clear hHeld kk
      go_wp2_with fail
      go_ret2
      exact ⟨.inl ⟨HM.out, rfl⟩, HB.out⟩
    · cases hu
  · rintro ch w1 ⟨⟨_, hu⟩ | ⟨hn, tv, hu, hfo⟩, hb⟩
    · cases hu
    · exact ⟨rfl, .inr ⟨hn, tv, congrArg _ (Ending.panicked.inj hu), hfo⟩, Below.on (below_drew' w) hb⟩
  · rintro w1 ⟨⟨_, hu⟩ | ⟨_, _, hu, _⟩, _⟩
    · cases hu
    · cases hu
/-- What a guard lets through. -/
def guE (gr : Option Tr) (v : Int) : ER := match gr with
  | some t => .error t
  | none => .ok v
set_option maxRecDepth 100000 in
theorem behind_any (K1 K2 : Nat) (e1 : ∀ args w, (callFunc K1 args).run Tryz.prog w = .ok (.enter K1 args) w) (e2 : ∀ args w, (callFunc K2 args).run Tryz.prog w = .ok (.enter K2 args) w) (x y : Int) (gr : Option Tr) (v : Int) (g bc bf : Nat) (w : World)
    (hc : w.cell? ⟨bc, 0, none⟩ = some (.func (.func K1) #[] #[])) (hf : w.cell? ⟨bf, 0, none⟩ = some (.func (.func K2) #[] #[])) (h0 : w.cell? ⟨g, 0, none⟩ = some (.int .i64 x)) (h1 : w.cell? ⟨g, 1, none⟩ = some (.int .i64 y))
    (HC : ∀ W, Below w.heap.size w W → Calls Tryz.prog K1 #[.int .i64 x, .int .i64 y] W (GuOut W gr)) (HF : gr = none → ∀ W, Below w.heap.size w W → Calls Tryz.prog K2 #[.int .i64 x, .int .i64 y] W (FnOut W v)) :
    Calls Tryz.prog 92 #[.slice (some ⟨g, 0, none⟩) 2 2, .pointer (some ⟨bc, 0, none⟩), .pointer (some ⟨bf, 0, none⟩)] w (ApOut w (guE gr v)) := by
  have HCC := HC w.drew (below_drew' w)
  have HFF : Hid _ := HF
  have HBX : Hid (w.cell? ⟨bf, 0, none⟩ = some (.func (.func K2) #[] #[])) := hf
  clear HF HC hf
  cases gr with
  | some t =>
    go_enter Tryz.func92, Tryz.ntmps92
    go_wp2_with fail
    go_region
    go_wp2_with fail
    refine HCC.mono ?_
    rintro e w1 ⟨⟨tv, rfl, hfo⟩, hb⟩
    have HF1 : Hid (FoIn w1 w.heap.size t.fo [tv]) := hfo
    have HB1 : Hid (Below w.heap.size w w1) := Below.on (below_drew' w) hb
    clear hfo hb HCC HFF
    go_wp2_with fail
    go_ret2
    exact ⟨⟨tv, rfl, HF1.out⟩, HB1.out⟩
  | none =>
    go_enter Tryz.func92, Tryz.ntmps92
    go_wp2_with fail
    go_region
    go_wp2_with fail
    refine HCC.mono ?_
    rintro e w1 ⟨rfl, hb⟩
    have HB1 : Hid (Below w.heap.size w w1) := Below.on (below_drew' w) hb
    have c1 : w1.cell? ⟨bf, 0, none⟩ = some (.func (.func K2) #[] #[]) := (HB1.out.cell (p := ⟨bf, 0, none⟩) (World.block_lt_of_cell? _ _ HBX.out)).trans HBX.out
    have HF2 := HFF.out trivial w1 HB1.out
    clear hb HCC HFF
    go_wp2_with fail
    refine HF2.mono ?_
    rintro e w2 ⟨⟨hm, rfl⟩ | ⟨hn, tv, rfl, hfo⟩, hb⟩
    · have HM : Hid (Mid v) := hm
      have HB2 : Hid (Below w.heap.size w w2) := Below.on HB1.out hb
      clear hm hb HF2
      go_wp2_with fail
      go_ret2
      exact ⟨.inl ⟨HM.out, rfl⟩, HB2.out⟩
    · exact ⟨rfl, .inr ⟨hn, tv, rfl, hfo.mono HB1.out.size⟩, Below.on HB1.out hb⟩

end Go.Proofs.YtpcmfdbcjegbcaaGreatDoor

namespace Go.Proofs.YtpcmfdbcjegbcaaGreatDoor
open Go Go.RowKit Go.Maps
set_option linter.unusedVariables false

def okF (f : Fun) : Prop := f.1.size ≤ 1000000 ∧ 0 ≤ f.2 ∧ f.2 ≤ 1000000
/-- How whatever value reads as an element. -/
def heldE (v : Value) : Option (DataW Value × List MemPlace) := some (.held v, [])
/-- A closure of operations: of one function, or of a guard and a function. -/
inductive Cl where
  | un : Nat → Cl
  | bi : Nat → Nat → Cl
def ClIn (w : World) (c : Cl) (v : Value) : Prop := match c with
  | .un K => ∃ bf, v = .func (.func 88) #[] #[.pointer (some ⟨bf, 0, none⟩)] ∧ w.cell? ⟨bf, 0, none⟩ = some (.func (.func K) #[] #[])
  | .bi K1 K2 => ∃ bc bf, v = .func (.func 92) #[] #[.pointer (some ⟨bc, 0, none⟩), .pointer (some ⟨bf, 0, none⟩)] ∧ w.cell? ⟨bc, 0, none⟩ = some (.func (.func K1) #[] #[]) ∧ w.cell? ⟨bf, 0, none⟩ = some (.func (.func K2) #[] #[])
theorem ClIn.imp {w w' : World} {c : Cl} {v : Value} (h : ClIn w c v) (hc : ∀ b u, w.cell? ⟨b, 0, none⟩ = some u → w'.cell? ⟨b, 0, none⟩ = some u) : ClIn w' c v := by
  cases c with
  | un K => obtain ⟨bf, h1, h2⟩ := h; exact ⟨bf, h1, hc _ _ h2⟩
  | bi K1 K2 => obtain ⟨bc, bf, h1, h2, h3⟩ := h; exact ⟨bc, bf, h1, hc _ _ h2, hc _ _ h3⟩
theorem ClIn.below {w w' : World} {c : Cl} {v : Value} (h : ClIn w c v) (hb : Below w.heap.size w w') : ClIn w' c v := h.imp fun b u hu => (hb.cell (p := ⟨b, 0, none⟩) (World.block_lt_of_cell? _ _ hu)).trans hu
/-- Block b is a map of at most N entries, with these closures. -/
def TabIn (w : World) (b N : Nat) (T : Fun → Option Cl) : Prop := ∃ D : DataW Value, w.ownsMap Tryz.prog 93 heldE b N D ∧
  ∀ f, okF f → match T f with
    | none => has D (fk f) = false ∧ ∀ z, D.atKey (fk f) z = z
    | some c => has D (fk f) = true ∧ ∃ v, (∀ z, D.atKey (fk f) z = .held v) ∧ ClIn w c v
theorem TabIn.lt {w : World} {b N : Nat} {T : Fun → Option Cl} (h : TabIn w b N T) : b < w.heap.size := by obtain ⟨D, h, _⟩ := h; exact h.lt
theorem TabIn.of {w w' : World} {b N : Nat} {T : Fun → Option Cl} (h : TabIn w b N T) (hb : w'.heap[b]? = w.heap[b]?) (hc : ∀ b u, w.cell? ⟨b, 0, none⟩ = some u → w'.cell? ⟨b, 0, none⟩ = some u) : TabIn w' b N T := by
  obtain ⟨D, ⟨es, clock, h1, r⟩, h2⟩ := h
  refine ⟨D, ⟨es, clock, hb.trans h1, r⟩, fun f hf => ?_⟩
  have := h2 f hf
  cases hT : T f with
  | none => rw [hT] at this; exact this
  | some c =>
    rw [hT] at this
    obtain ⟨a1, v, a2, a3⟩ := this
    exact ⟨a1, v, a2, a3.imp hc⟩
theorem TabIn.below {w w' : World} {b N : Nat} {T : Fun → Option Cl} (h : TabIn w b N T) (hb : Below w.heap.size w w') : TabIn w' b N T := h.of (hb.block _ h.lt) fun b u hu => (hb.cell (p := ⟨b, 0, none⟩) (World.block_lt_of_cell? _ _ hu)).trans hu
theorem TabIn.made (w : World) : TabIn (w.alloc (.map #[] 0)) w.heap.size 0 (fun _ => none) := ⟨_, World.ownsMap_made _ _ _ _, fun f _ => ⟨rfl, fun z => rfl⟩⟩
theorem zeroOp (w : World) : (zeroValue 95).run Tryz.prog w = .ok .nilFunc w := by kernel_rfl
/-- A look-up. -/
theorem TabIn.look {w : World} {b N : Nat} {T : Fun → Option Cl} (h : TabIn w b N T) (f : Fun) (hf : okF f) :
    match T f with
    | none => (Instr.lookup 69 (.map (some b)) (.agg #[.string f.1, .int .i64 f.2]) true).run Tryz.prog w = .ok (.tuple #[.nilFunc, .bool false]) w
    | some c => ∃ v, (Instr.lookup 69 (.map (some b)) (.agg #[.string f.1, .int .i64 f.2]) true).run Tryz.prog w = .ok (.tuple #[v, .bool true]) w ∧ ClIn w c v := by
  obtain ⟨D, hown, hT⟩ := h
  obtain ⟨v, ps, hrun, hv⟩ := hown.look_ok lawFun Tryz.underlying69 (zeroOp w) (zd := .held .nilFunc) (zp := []) rfl (keyFun f hf.1 hf.2.1 hf.2.2)
  have h1 := hT f hf
  simp only [heldE, Option.some.injEq, Prod.mk.injEq] at hv
  have hv := hv.1
  cases e : T f with
  | none =>
    rw [e] at h1
    rw [h1.2] at hv
    rw [hrun, h1.1]
    cases hv
    rfl
  | some c =>
    rw [e] at h1
    obtain ⟨a1, u, a2, a3⟩ := h1
    rw [a2] at hv
    rw [a1] at hrun
    cases hv
    exact ⟨v, hrun, a3⟩
/-- A store. -/
theorem TabIn.put {w : World} {b N : Nat} {T : Fun → Option Cl} (h : TabIn w b N T) (hN : N ≤ 1000000) (f : Fun) (hf : okF f) (c : Cl) (v : Value) (hc : ClIn w c v) :
    ∃ w', (Instr.mapUpdate 69 (.map (some b)) (.agg #[.string f.1, .int .i64 f.2]) v).run Tryz.prog w = .ok () w' ∧ TabIn w' b (N + 1) (fun g => if g = f then some c else T g) ∧ w.grownBy w' (some b) := by
  obtain ⟨D, hown, hT⟩ := h
  have hown0 := hown
  obtain ⟨es, clock, hb, _⟩ := hown
  obtain ⟨w', hrun, hown', hg⟩ := hown0.update lawFun Tryz.underlying69 (by unfold maxLen; omega) (keyFun f hf.1 hf.2.1 hf.2.2) (show heldE v = some (.held v, []) from rfl)
  have hm := hown0.isMap
  have hkl : WideAt.IsKeyLit (fk f) := trivial
  have hk : ∀ b' u, w.cell? ⟨b', 0, none⟩ = some u → w'.cell? ⟨b', 0, none⟩ = some u := fun b' u hu => by
    have hne : b' ≠ b := fun e => by
      subst e
      simp only [World.cell?, hb] at hu
      cases hu
    exact (World.cell?_of_block (a := ⟨b', 0, none⟩) (hg.block b' (World.block_lt_of_cell? _ _ hu) (by simpa using hne))).trans hu
  refine ⟨w', hrun, ⟨_, hown', fun g hgk => ?_⟩, hg⟩
  by_cases e : g = f
  · subst e
    simp only [if_true]
    exact ⟨has_put_same hm hkl _, v, fun z => atKey_put_same hm hkl _ z, hc.imp hk⟩
  · simp only [if_neg e]
    have hne : fk g ≠ fk f := fun e' => e (fk_inj hgk hf e')
    have h1 := hT g hgk
    cases hTg : T g with
    | none =>
      rw [hTg] at h1
      exact ⟨by rw [has_put_other hne]; exact h1.1, fun z => by rw [atKey_put_other hne]; exact h1.2 z⟩
    | some c' =>
      rw [hTg] at h1
      obtain ⟨a1, u, a2, a3⟩ := h1
      exact ⟨by rw [has_put_other hne]; exact a1, u, fun z => by rw [atKey_put_other hne]; exact a2 z, a3.imp hk⟩

end Go.Proofs.YtpcmfdbcjegbcaaGreatDoor

namespace Go.Proofs.YtpcmfdbcjegbcaaGreatDoor
open Go Go.RowKit
set_option linter.unusedVariables false

def ents : List ((List Int × Int) × Cl) := [
  (([45], 1), .un 54),
  (([43], 1), .un 56),
  (([97, 98, 115], 1), .un 57),
  (([115, 105, 103, 110], 1), .un 58),
  (([92], 1), .un 60),
  (([43], 2), .bi 90 61),
  (([45], 2), .bi 90 63),
  (([42], 2), .bi 90 64),
  (([109, 105, 110], 2), .bi 90 65),
  (([109, 97, 120], 2), .bi 90 66),
  (([47, 47], 2), .bi 69 67),
  (([114, 101, 109], 2), .bi 69 70),
  (([109, 111, 100], 2), .bi 69 71),
  (([62, 62], 2), .bi 73 72),
  (([60, 60], 2), .bi 73 74),
  (([47, 92], 2), .bi 90 75),
  (([92, 47], 2), .bi 90 76),
  (([120, 111, 114], 2), .bi 90 77),
  (([42, 42], 2), .bi 79 78),
  (([94], 2), .bi 79 78)]
/-- The closure of a name and arity. -/
def entOf (s : List Int) (n : Int) : Option Cl := (ents.find? fun y => decide (y.1 = (s, n))).map Prod.snd
/-- The same, by strings. -/
def opTab (f : Fun) : Option Cl := (ents.find? fun y => decide ((strOfNums y.1.1, y.1.2) = f)).map Prod.snd
theorem ents_byte : ∀ y ∈ ents, Byte y.1.1 := by
  intro y hy x hx
  have h : (ents.all fun y => y.1.1.all fun x => decide (0 ≤ x) && decide (x < 256)) = true := by decide
  have := List.all_eq_true.1 (List.all_eq_true.1 h y hy) x hx
  simpa using this
theorem opTab_ent {s : List Int} (hs : Byte s) (n : Int) : opTab (strOfNums s, n) = entOf s n := by
  unfold opTab entOf
  congr 1
  have : ∀ l : List ((List Int × Int) × Cl), (∀ y ∈ l, Byte y.1.1) → (l.find? fun y => decide ((strOfNums y.1.1, y.1.2) = (strOfNums s, n))) = l.find? fun y => decide (y.1 = (s, n)) := by
    intro l
    induction l with
    | nil => intro _; rfl
    | cons y r ih =>
      intro h
      have e : decide ((strOfNums y.1.1, y.1.2) = (strOfNums s, n)) = decide (y.1 = (s, n)) := by
        rw [Bool.eq_iff_iff]
        simp only [decide_eq_true_eq]
        constructor
        · intro hh
          have h1 := str_ne (h y (by simp)) hs (Prod.mk.inj hh).1
          exact Prod.ext h1 (Prod.mk.inj hh).2
        · intro hh
          rw [hh]
      simp only [List.find?_cons, e, ih (fun z hz => h z (by simp [hz]))]
  exact this ents ents_byte
theorem ent_known {s : List Int} {n : Int} : knownB s n = (entOf s n).isSome := by
  unfold entOf
  rw [Option.isSome_map, Bool.eq_iff_iff, List.find?_isSome]
  simp only [knownB, Bool.or_eq_true, Bool.and_eq_true, decide_eq_true_eq, ones, twos, ents, List.mem_cons, List.not_mem_nil, or_false, exists_eq_or_imp, exists_eq_left, Prod.mk.injEq]
  constructor
  · rintro (⟨rfl, h⟩ | ⟨rfl, h⟩)
    · rcases h with rfl | rfl | rfl | rfl | rfl <;> simp
    · rcases h with rfl | rfl | rfl | rfl | rfl | rfl | rfl | rfl | rfl | rfl | rfl | rfl | rfl | rfl | rfl <;> simp
  · intro h
    rcases h with ⟨rfl, rfl⟩ | ⟨rfl, rfl⟩ | ⟨rfl, rfl⟩ | ⟨rfl, rfl⟩ | ⟨rfl, rfl⟩ | ⟨rfl, rfl⟩ | ⟨rfl, rfl⟩ | ⟨rfl, rfl⟩ | ⟨rfl, rfl⟩ | ⟨rfl, rfl⟩ | ⟨rfl, rfl⟩ | ⟨rfl, rfl⟩ | ⟨rfl, rfl⟩ | ⟨rfl, rfl⟩ | ⟨rfl, rfl⟩ | ⟨rfl, rfl⟩ | ⟨rfl, rfl⟩ | ⟨rfl, rfl⟩ | ⟨rfl, rfl⟩ | ⟨rfl, rfl⟩
    all_goals simp

end Go.Proofs.YtpcmfdbcjegbcaaGreatDoor

