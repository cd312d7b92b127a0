/- Texts of Um8, Um9, UmA. Own work of the verifier. -/
import Derived.Test.YtedlcmkhbccjgaaUqbc
namespace Go.Proofs.Ytedlcmkhbccjgaa
open Go Go.RowKit
set_option linter.unusedVariables false

/-- A pair more is counted. -/
theorem MS.tick {W0 W : World} {sb : Nat} {M : BM} {k : Nat} {p : Option Addr} {n c : Nat} {bs : List Bnd} (h : MS W0 W sb M k p n c bs) (hk : k < 20000) : MS W0 (W.setCell ⟨sb, 1, none⟩ (.int .i64 ((k + 1 : Nat) : Int))) sb M (k + 1) p n c bs := by
  refine ⟨h.low.setCell (p := ⟨sb, 1, none⟩) h.hsb _, h.hsb, ?_, World.cell?_setCell_same' _ _ _ (by rw [h.prs]; rfl), h.len, h.lies.move (fun b o v e j hv => ?_), h.bsr, by have := h.few; omega, by omega, h.zero, h.room, h.apart, fun o => by rw [World.frozen?_setCell]; exact h.free o⟩
  · rw [World.cell?_setCell_other _ _ _ _ (fun e => by have := congrArg Addr.off e; simp at this)]
    exact h.sub
  · have h9 := (h.apart _ e).1
    rw [World.cell?_setCell_other _ _ _ _ (fun e => h9 (congrArg Addr.block e).symm)]
    exact hv
theorem runU_codes : ∀ (k : Nat) (M : BM) (ps : List TT) (c : Int), runU 4 5 3 k M ps = .error c → 3 ≤ c ∧ c ≤ 5
  | k, M, [], c, h => by rw [runU_nil] at h; cases h
  | 0, M, p :: ps, c, h => by cases h; exact ⟨by decide, by decide⟩
  | k + 1, M, p :: ps, c, h => by
    rw [runU] at h
    cases hs : stepE 4 5 M (endB M p.1) (endB M p.2) with
    | error d =>
      rw [hs] at h
      cases h
      rcases step_codes hs with rfl | rfl <;> exact ⟨by decide, by decide⟩
    | ok r =>
      obtain ⟨M1, qs⟩ := r
      rw [hs] at h
      exact runU_codes k M1 (qs ++ ps) c h
/-- What l5pair answers: f pairs may still be counted. -/
def PairO (W0 : World) (sb : Nat) (R : Except Int (BM × Nat)) (w : World) (e : Ending) (w' : World) : Prop := match R with
  | .error c => (3 ≤ c ∧ c ≤ 5) ∧ e = .returned (.int .i64 c) ∧ Below W0.heap.size W0 w' ∧ w.grownBy w' (some sb)
  | .ok (M, f) => e = .returned (.int .i64 0) ∧ f ≤ 20000 ∧ (∃ p n c bs, MS W0 w' sb M (20000 - f) p n c bs) ∧ WfU M ∧ (∀ x u, M x = some u → (tcs u).length ≤ 2000) ∧ w.grownBy w' (some sb)
/-- What l5pair is asked to do, with f pairs left. -/
def PairOk (W0 : World) (sb f : Nat) : Prop := ∀ (M : BM) (p : Option Addr) (n c : Nat) (bs : List Bnd) (x y : Tr) (qx qy : Option Addr) (mx cx my cy : Nat) (w : World), MS W0 w sb M (20000 - f) p n c bs → WfU M → (∀ x u, M x = some u → (tcs u).length ≤ 2000) → x.fo.ok → y.fo.ok → (tcs x).length ≤ 2000 → (tcs y).length ≤ 2000 → TIn W0 qx mx cx x → TIn W0 qy my cy y →
  Calls Try.prog 52 #[.pointer (some ⟨sb, 0, none⟩), .slice qx mx cx, .slice qy my cy] w (PairO W0 sb (runU 4 5 3 f M [(x, y)]) w)

end Go.Proofs.Ytedlcmkhbccjgaa

namespace Go.Proofs.Ytedlcmkhbccjgaa
open Go Go.RowKit
set_option linter.unusedVariables false

theorem grownB {w w' : World} {s : Nat} (h : Below w.heap.size w w') : w.grownBy w' (some s) := ⟨h.os, h.tape, h.output, h.size, fun k hk _ => h.block k hk⟩
set_option maxRecDepth 100000 in
set_option maxHeartbeats 2000000 in
theorem pair_zero (W0 : World) (sb : Nat) : PairOk W0 sb 0 := by
  intro M p n c bs x y qx qy mx cx my cy w hs hwf hsm ox oy lx ly hx hy
  have c1 := hs.prs
  have HF : Hid (PairO W0 sb (runU 4 5 3 0 M [(x, y)]) w (.returned (.int .i64 3)) w) := ⟨⟨by decide, by decide⟩, rfl, hs.low, .refl _ _⟩
  clear hs hwf hsm ox oy lx ly hx hy
  simp only [Nat.sub_zero] at c1
  go_enter Try.func52, Try.ntmps52
  go_wp2_with fail
  go_ret
  exact HF.out

theorem cell4 (w2 : World) (a0 a1 e0 e1 : Int) (tx ty : Option Addr) (lx tcx ly tcy : Nat) {p : Addr} {v : Value} (h : w2.cell? p = some v) : ((w2.alloc (.cells #[.int .i64 a0, .int .i64 a1, .slice tx lx tcx] 47)).alloc (.cells #[.int .i64 e0, .int .i64 e1, .slice ty ly tcy] 47)).cell? p = some v := Lib.cell?_alloc_marked _ (Lib.cell?_alloc_marked _ h)
set_option maxRecDepth 100000 in
set_option maxHeartbeats 2000000 in
/-- A pair of which one, at its end, is a variable. -/
theorem pair_var (W0 : World) (sb f : Nat) (hf : f + 1 ≤ 20000) (M : BM) (p : Option Addr) (n c : Nat) (bs : List Bnd) (x y : Tr) (qx qy : Option Addr) (mx cx my cy : Nat) (w : World) (hs : MS W0 w sb M (20000 - (f + 1)) p n c bs) (hwf : WfU M) (hsm : ∀ x u, M x = some u → (tcs u).length ≤ 2000) (ox : x.fo.ok) (oy : y.fo.ok) (lx : (tcs x).length ≤ 2000) (ly : (tcs y).length ≤ 2000) (hx : TIn W0 qx mx cx x) (hy : TIn W0 qy my cy y) (hvar : (endB M x).1.1 = 0 ∨ (endB M y).1.1 = 0) :
    Calls Try.prog 52 #[.pointer (some ⟨sb, 0, none⟩), .slice qx mx cx, .slice qy my cy] w (PairO W0 sb (runU 4 5 3 (f + 1) M [(x, y)]) w) := by
  obtain ⟨k, ek⟩ : ∃ k, k = 20000 - (f + 1) := ⟨_, rfl⟩
  rw [← ek] at hs
  have c1 := hs.prs
  have HNK : Hid (n ≤ k) := hs.few
  have fz := hs.free 1
  have hk : k < 20000 := by omega
  have hs1 := hs.tick hk
  obtain ⟨r, hac⟩ := hwf.acyc
  have HW1 := l5walk_any M r hac hwf.ok W0 sb (k + 1) p n c bs x (endB M x) qx mx cx _ hs1 ox hx (hwf.endB x)
  have HW2 : Hid (∀ W, Below _ _ W → Calls Try.prog 74 #[.pointer (some ⟨sb, 0, none⟩), .slice qy my cy] W (WalkO W0 (endB M y) W)) := fun W hW => l5walk_any M r hac hwf.ok W0 sb (k + 1) p n c bs y (endB M y) qy my cy W (hs1.below hW) oy hy (hwf.endB y)
  have HS1 : Hid _ := hs1
  obtain ⟨X, eX⟩ : ∃ X, X = endB M x := ⟨_, rfl⟩
  obtain ⟨Y, eY⟩ : ∃ Y, Y = endB M y := ⟨_, rfl⟩
  have HRUN : Hid (runU 4 5 3 (f + 1) M [(x, y)] = match stepE 4 5 M X Y with | .error c => .error c | .ok (M', qs) => runU 4 5 3 f M' qs) := by rw [eX, eY]; exact runU_one 4 5 3 f M x y
  rw [← eX] at HW1
  rw [← eY] at HW2
  have hkn : ((k + 1 : Nat) : Int) = (k : Int) + 1 := by omega
  rw [hkn] at HW1 HW2 HS1
  have HEK : Hid (k = 20000 - (f + 1)) := ek
  have HEX : Hid (X = endB M x ∧ Y = endB M y) := ⟨eX, eY⟩
  have HALL : Hid ((WfU M ∧ ∀ x u, M x = some u → (tcs u).length ≤ 2000) ∧ (x.fo.ok ∧ y.fo.ok) ∧ (tcs x).length ≤ 2000 ∧ (tcs y).length ≤ 2000) := ⟨⟨hwf, hsm⟩, ⟨ox, oy⟩, lx, ly⟩
  have HVAR : Hid (X.1.1 = 0 ∨ Y.1.1 = 0) := by rw [eX, eY]; exact hvar
  have HFB : Hid (f + 1 ≤ 20000) := hf
  clear hs hs1 hx hy ek eX eY hwf hsm ox oy lx ly hac hkn hvar hf
  go_enter Try.func52, Try.ntmps52
  go_wp2_with fail
  refine HW1.mono ?_
  rintro e w1 ⟨q1, m1, cc1, rfl, hX, hb1⟩
  go_wp2_with fail
  refine (HW2.out w1 hb1).mono ?_
  rintro e w2 ⟨q2, m2, cc2, rfl, hY, hb2⟩
  have HS2 : Hid (MS W0 w2 sb M (k + 1) p n c bs) := (HS1.out.below hb1).below hb2
  have HG2 : Hid (w.grownBy w2 (some sb)) := ((grown_setC w sb 1 _).andThen (grownB hb1) (fun j hj => .inr hj)).andThen (grownB hb2) (fun j hj => .inr hj)
  have HX : Hid (TIn W0 q1 m1 cc1 X ∧ X.fo.ok ∧ (tcs X).length ≤ 2000) := ⟨hX, by rw [HEX.out.1]; exact HALL.out.1.1.end_ok HALL.out.2.1.1 (HALL.out.1.1.endB x), by rw [HEX.out.1]; exact (HALL.out.1.1.endB x).small HALL.out.1.2 HALL.out.2.2.1⟩
  have HY : Hid (TIn W0 q2 m2 cc2 Y ∧ Y.fo.ok ∧ (tcs Y).length ≤ 2000) := ⟨hY, by rw [HEX.out.2]; exact HALL.out.1.1.end_ok HALL.out.2.1.2 (HALL.out.1.1.endB y), by rw [HEX.out.2]; exact (HALL.out.1.1.endB y).small HALL.out.1.2 HALL.out.2.2.2⟩
  have HUX : Hid (∀ v, IsV X v → M v = none) := by rw [HEX.out.1]; exact (HALL.out.1.1.endB x).last
  have HUY : Hid (∀ v, IsV Y v → M v = none) := by rw [HEX.out.2]; exact (HALL.out.1.1.endB y).last
  obtain ⟨b1, o1, rfl, hc1⟩ := hX.2.2.2 (tcs_pos X)
  obtain ⟨b2, o2, rfl, hc2⟩ := hY.2.2.2 (tcs_pos Y)
  obtain ⟨tx, tcx, x0, x1, x2, x3⟩ := hc1 0 (tcs_pos X)
  obtain ⟨ty, tcy, y0, y1, y2, y3⟩ := hc2 0 (tcs_pos Y)
  rw [tcs_head] at x0 x1 x2 x3 y0 y1 y2 y3
  simp only [Nat.zero_mul, Nat.add_zero] at x0 x1 x2 y0 y1 y2
  have HL2 := HS2.out.low
  have x0 := (HL2.cell (World.block_lt_of_cell? _ _ x0)).trans x0
  have x1 := (HL2.cell (World.block_lt_of_cell? _ _ x1)).trans x1
  have x2 := (HL2.cell (World.block_lt_of_cell? _ _ x2)).trans x2
  have y0 := (HL2.cell (World.block_lt_of_cell? _ _ y0)).trans y0
  have y1 := (HL2.cell (World.block_lt_of_cell? _ _ y1)).trans y1
  have y2 := (HL2.cell (World.block_lt_of_cell? _ _ y2)).trans y2
  have hm1 : (0 : Int) < (m1 : Int) := by have := hX.1; have := tcs_pos X; omega
  have hm2 : (0 : Int) < (m2 : Int) := by have := hY.1; have := tcs_pos Y; omega
  have hm1n : 0 < m1 := by omega
  have hm2n : 0 < m2 := by omega
  have HBX : Hid (BIn W0 tx X.1.2.2) := x3
  have HBY : Hid (BIn W0 ty Y.1.2.2) := y3
  have HLST : Hid (∀ W M', runU 4 5 3 (f + 1) M [(x, y)] = .ok (M', f) → WfU M' → (∀ x u, M' x = some u → (tcs u).length ≤ 2000) → (∃ p n c bs, MS W0 W sb M' (k + 1) p n c bs) → w.grownBy W (some sb) → PairO W0 sb (runU 4 5 3 (f + 1) M [(x, y)]) w (.returned (.int .i64 0)) W) := fun W M' h1 h2 h3 h4 h5 => by
    rw [h1]
    refine ⟨rfl, by have := HFB.out; omega, ?_, h2, h3, h5⟩
    rw [show 20000 - f = k + 1 by have := HEK.out; have := HFB.out; omega]; exact h4
  clear hX hY hb1 hb2 hc1 hc2 HL2 x3 y3 HW1 HW2 c1 fz HS1
  obtain ⟨a0, ea0⟩ : ∃ a, a = X.1.1 := ⟨_, rfl⟩
  obtain ⟨a1, ea1⟩ : ∃ a, a = X.1.2.1 := ⟨_, rfl⟩
  obtain ⟨e0, ee0⟩ : ∃ a, a = Y.1.1 := ⟨_, rfl⟩
  obtain ⟨e1, ee1⟩ : ∃ a, a = Y.1.2.1 := ⟨_, rfl⟩
  obtain ⟨lx, elx⟩ : ∃ a, a = X.1.2.2.length := ⟨_, rfl⟩
  obtain ⟨ly, ely⟩ : ∃ a, a = Y.1.2.2.length := ⟨_, rfl⟩
  rw [← ea0] at x0
  rw [← ea1] at x1
  rw [← elx] at x2
  rw [← ee0] at y0
  rw [← ee1] at y1
  rw [← ely] at y2
  have HAE : Hid ((a0 = X.1.1 ∧ a1 = X.1.2.1 ∧ lx = X.1.2.2.length) ∧ e0 = Y.1.1 ∧ e1 = Y.1.2.1 ∧ ly = Y.1.2.2.length) := ⟨⟨ea0, ea1, elx⟩, ee0, ee1, ely⟩
  clear ea0 ea1 ee0 ee1 elx ely
  obtain ⟨w3, ew3⟩ : ∃ w3, w3 = w2.alloc (.cells #[.int .i64 a0, .int .i64 a1, .slice tx lx tcx] 47) := ⟨_, rfl⟩
  have hb3 : Below w2.heap.size w2 w3 := by rw [ew3]; exact (Below.refl _ _).alloc (Nat.le_refl _) _
  have y0 := (hb3.cell (World.block_lt_of_cell? _ _ y0)).trans y0
  have y1 := (hb3.cell (World.block_lt_of_cell? _ _ y1)).trans y1
  have y2 := (hb3.cell (World.block_lt_of_cell? _ _ y2)).trans y2
  rw [ew3] at y0 y1 y2
  have hsz3 : w3.heap.size = w2.heap.size + 1 := by rw [ew3]; simp
  obtain ⟨w4, ew4⟩ : ∃ w4, w4 = w3.alloc (.cells #[.int .i64 e0, .int .i64 e1, .slice ty ly tcy] 47) := ⟨_, rfl⟩
  have hb4 : Below w3.heap.size w3 w4 := by rw [ew4]; exact (Below.refl _ _).alloc (Nat.le_refl _) _
  have HS4 : Hid (MS W0 w4 sb M (k + 1) p n c bs) := (HS2.out.below hb3).below hb4
  have HG4 : Hid (w.grownBy w4 (some sb)) := (HG2.out.andThen (grownB hb3) (fun j hj => .inr hj)).andThen (grownB hb4) (fun j hj => .inr hj)
  have HB4 : Hid (Below w2.heap.size w2 w4) := Below.on hb3 hb4
  rw [ew3] at ew4
  clear hb3 hb4 hsz3
  have HKX : Hid (n + 1 ≤ k + 1) := Nat.succ_le_succ HNK.out
  have HDONE : Hid (∀ W M', stepE 4 5 M X Y = .ok (M', []) → (∃ p n c bs, MS W0 W sb M' (k + 1) p n c bs) → w.grownBy W (some sb) → PairO W0 sb (runU 4 5 3 (f + 1) M [(x, y)]) w (.returned (.int .i64 0)) W) := fun W M' hst h4 h5 => by
    have h1 : runU 4 5 3 (f + 1) M [(x, y)] = .ok (M', f) := by rw [HRUN.out, hst]; exact runU_nil 4 5 3 f M'
    obtain ⟨w1', _⟩ := HALL.out.1.1.step HUX.out HUY.out HX.out.2.1 HY.out.2.1 hst
    obtain ⟨s1', _⟩ := step_small HALL.out.1.2 HX.out.2.2 HY.out.2.2 HX.out.2.1 hst
    exact HLST.out W M' h1 w1' s1' h4 h5
  have HERR : Hid (∀ W cde, stepE 4 5 M X Y = .error cde → Below W0.heap.size W0 W → w.grownBy W (some sb) → PairO W0 sb (runU 4 5 3 (f + 1) M [(x, y)]) w (.returned (.int .i64 cde)) W) := fun W cde hst h4 h5 => by
    have h1 : runU 4 5 3 (f + 1) M [(x, y)] = .error cde := by rw [HRUN.out, hst]
    have h2 := runU_codes _ _ _ _ h1
    rw [h1]
    exact ⟨h2, rfl, h4, h5⟩
  by_cases hx0 : X.1.1 = 0
  · have kx : (a0 == 0) = true := by rw [HAE.out.1.1]; simpa using hx0
    have HVX : Hid (IsV X a1) := by rw [HAE.out.1.2.1]; exact ok_var HX.out.2.1 hx0
    by_cases hy0 : Y.1.1 = 0
    · have ky : (e0 == 0) = true := by rw [HAE.out.2.1]; simpa using hy0
      have HVY : Hid (IsV Y e1) := by rw [HAE.out.2.2.1]; exact ok_var HY.out.2.1 hy0
      have HXY : Hid (X.1.1 = 0 ∧ Y.1.1 = 0) := ⟨hx0, hy0⟩
      clear hx0 hy0
      by_cases h1 : e1 < a1
      · have HBD := l5bind_any W0 sb M (k + 1) p n c bs a1 Y (some ⟨b2, o2, none⟩) m2 cc2 w4 HS4.out (HUX.out a1 HVX.out) HY.out.1 HKX.out
        have HST : Hid (stepE 4 5 M X Y = .ok (M.set a1 Y, [])) := by
          show _ = _
          unfold stepE
          rw [if_pos HXY.out, ← HAE.out.1.2.1, ← HAE.out.2.2.1, if_pos h1]
        rw [ew4] at HBD
        go_wp2_with fail
        refine HBD.mono ?_
        rintro e w5 ⟨rfl, hms, hg5⟩
        rw [← ew4] at hg5
        have HF : Hid (PairO W0 sb (runU 4 5 3 (f + 1) M [(x, y)]) w (.returned (.int .i64 0)) w5) := HDONE.out w5 (M.set a1 Y) HST.out hms (HG4.out.andThen hg5 (fun j hj => .inr hj))
        clear hms hg5 HBD
        go_wp2_with fail
        go_ret
        exact HF.out
      · by_cases h2 : a1 < e1
        · have HBD := l5bind_any W0 sb M (k + 1) p n c bs e1 X (some ⟨b1, o1, none⟩) m1 cc1 w4 HS4.out (HUY.out e1 HVY.out) HX.out.1 HKX.out
          have HST : Hid (stepE 4 5 M X Y = .ok (M.set e1 X, [])) := by
            show _ = _
            unfold stepE
            rw [if_pos HXY.out, ← HAE.out.1.2.1, ← HAE.out.2.2.1, if_neg h1, if_pos h2]
          rw [ew4] at HBD
          go_wp2_with fail
          refine HBD.mono ?_
          rintro e w5 ⟨rfl, hms, hg5⟩
          rw [← ew4] at hg5
          have HF : Hid (PairO W0 sb (runU 4 5 3 (f + 1) M [(x, y)]) w (.returned (.int .i64 0)) w5) := HDONE.out w5 (M.set e1 X) HST.out hms (HG4.out.andThen hg5 (fun j hj => .inr hj))
          clear hms hg5 HBD
          go_wp2_with fail
          go_ret
          exact HF.out
        · have HST : Hid (stepE 4 5 M X Y = .ok (M, [])) := by
            show _ = _
            unfold stepE
            rw [if_pos HXY.out, ← HAE.out.1.2.1, ← HAE.out.2.2.1, if_neg h1, if_neg h2]
          have HF : Hid (PairO W0 sb (runU 4 5 3 (f + 1) M [(x, y)]) w (.returned (.int .i64 0)) w4) := HDONE.out w4 M HST.out ⟨p, n, c, bs, HS4.out⟩ HG4.out
          rw [ew4] at HF
          go_wp2_with fail
          go_ret
          exact HF.out
    · have ky : (e0 == 0) = false := by rw [HAE.out.2.1]; simpa using hy0
      have HSTD := l5stands_any M W0 sb (k + 1) p n c bs a1 Y (some ⟨b2, o2, none⟩) m2 cc2 w4 HS4.out HALL.out.1.2 HY.out.2.2 HY.out.1
      have HST1 : Hid (Reach M Y a1 → stepE 4 5 M X Y = .error 5) := fun h => by
        unfold stepE
        rw [if_neg (fun h => hy0 h.2), if_pos hx0, ← HAE.out.1.2.1, if_pos h]
      have HST2 : Hid (¬ Reach M Y a1 → stepE 4 5 M X Y = .ok (M.set a1 Y, [])) := fun h => by
        unfold stepE
        rw [if_neg (fun h => hy0 h.2), if_pos hx0, ← HAE.out.1.2.1, if_neg h]
      have xc1 : w4.cell? ⟨w2.heap.size, 1, none⟩ = some (.int .i64 a1) := by rw [ew4]; simp [World.cell?_alloc_new, Lib.cell?_alloc_marked]
      clear hx0 hy0
      rw [ew4] at HSTD
      go_wp2_with fail
      refine HSTD.mono ?_
      rintro e w5 ⟨R, rfl, hR, hb5⟩
      rw [← ew4] at hb5
      have xc5 := (hb5.cell (World.block_lt_of_cell? _ _ xc1)).trans xc1
      have HS5 : Hid (MS W0 w5 sb M (k + 1) p n c bs) := HS4.out.below hb5
      have HG5 : Hid (w.grownBy w5 (some sb)) := HG4.out.andThen (grownB hb5) (fun j hj => .inr hj)
      cases R with
      | true =>
        have HF : Hid (PairO W0 sb (runU 4 5 3 (f + 1) M [(x, y)]) w (.returned (.int .i64 5)) w5) := HERR.out w5 5 (HST1.out (hR.1 rfl)) HS5.out.low HG5.out
        clear hR hb5 HSTD
        go_wp2_with fail
        go_ret
        exact HF.out
      | false =>
        have HST : Hid (stepE 4 5 M X Y = .ok (M.set a1 Y, [])) := HST2.out (fun h => by have := hR.2 h; cases this)
        have HBD := l5bind_any W0 sb M (k + 1) p n c bs a1 Y (some ⟨b2, o2, none⟩) m2 cc2 w5 HS5.out (HUX.out a1 HVX.out) HY.out.1 HKX.out
        clear hR hb5 HSTD
        go_wp2_with fail
        refine HBD.mono ?_
        rintro e w6 ⟨rfl, hms, hg6⟩
        have HF : Hid (PairO W0 sb (runU 4 5 3 (f + 1) M [(x, y)]) w (.returned (.int .i64 0)) w6) := HDONE.out w6 (M.set a1 Y) HST.out hms (HG5.out.andThen hg6 (fun j hj => .inr hj))
        clear hms hg6 HBD
        go_wp2_with fail
        go_ret
        exact HF.out
  · have kx : (a0 == 0) = false := by rw [HAE.out.1.1]; simpa using hx0
    by_cases hy0 : Y.1.1 = 0
    · have ky : (e0 == 0) = true := by rw [HAE.out.2.1]; simpa using hy0
      have HVY : Hid (IsV Y e1) := by rw [HAE.out.2.2.1]; exact ok_var HY.out.2.1 hy0
      have HST1 : Hid (Reach M X e1 → stepE 4 5 M X Y = .error 5) := fun h => by
        unfold stepE
        rw [if_neg (fun h => hx0 h.1), if_neg hx0, if_pos hy0, ← HAE.out.2.2.1, if_pos h]
      have HST2 : Hid (¬ Reach M X e1 → stepE 4 5 M X Y = .ok (M.set e1 X, [])) := fun h => by
        unfold stepE
        rw [if_neg (fun h => hx0 h.1), if_neg hx0, if_pos hy0, ← HAE.out.2.2.1, if_neg h]
      have z0 := cell4 w2 e0 e1 e0 e1 ty ty ly tcy ly tcy x0
      have z1 := cell4 w2 e0 e1 e0 e1 ty ty ly tcy ly tcy x1
      have z2 := cell4 w2 e0 e1 e0 e1 ty ty ly tcy ly tcy x2
      have v0 := Lib.cell?_alloc_marked (.cells #[.int .i64 e0, .int .i64 e1, .slice ty ly tcy] 47) y0
      have v1 := Lib.cell?_alloc_marked (.cells #[.int .i64 e0, .int .i64 e1, .slice ty ly tcy] 47) y1
      have v2 := Lib.cell?_alloc_marked (.cells #[.int .i64 e0, .int .i64 e1, .slice ty ly tcy] 47) y2
      obtain ⟨u4, eu4⟩ : ∃ u4, u4 = (w2.alloc (.cells #[.int .i64 e0, .int .i64 e1, .slice ty ly tcy] 47)).alloc (.cells #[.int .i64 a0, .int .i64 a1, .slice tx lx tcx] 47) := ⟨_, rfl⟩
      have hbu : Below w2.heap.size w2 u4 := by rw [eu4]; exact ((Below.refl _ _).alloc (Nat.le_refl _) _).alloc (by simp) _
      have HSU : Hid (MS W0 u4 sb M (k + 1) p n c bs) := HS2.out.below hbu
      have HGU : Hid (w.grownBy u4 (some sb)) := HG2.out.andThen (grownB hbu) (fun j hj => .inr hj)
      have HSTD := l5stands_any M W0 sb (k + 1) p n c bs e1 X (some ⟨b1, o1, none⟩) m1 cc1 u4 HSU.out HALL.out.1.2 HX.out.2.2 HX.out.1
      have xc1 : u4.cell? ⟨w2.heap.size, 1, none⟩ = some (.int .i64 e1) := by rw [eu4]; simp [World.cell?_alloc_new, Lib.cell?_alloc_marked]
      clear hx0 hy0 hbu
      rw [eu4] at HSTD
      go_wp2_with fail
      refine HSTD.mono ?_
      rintro e w5 ⟨R, rfl, hR, hb5⟩
      rw [← eu4] at hb5
      have xc5 := (hb5.cell (World.block_lt_of_cell? _ _ xc1)).trans xc1
      have HS5 : Hid (MS W0 w5 sb M (k + 1) p n c bs) := HSU.out.below hb5
      have HG5 : Hid (w.grownBy w5 (some sb)) := HGU.out.andThen (grownB hb5) (fun j hj => .inr hj)
      cases R with
      | true =>
        have HF : Hid (PairO W0 sb (runU 4 5 3 (f + 1) M [(x, y)]) w (.returned (.int .i64 5)) w5) := HERR.out w5 5 (HST1.out (hR.1 rfl)) HS5.out.low HG5.out
        clear hR hb5 HSTD
        go_wp2_with fail
        go_ret
        exact HF.out
      | false =>
        have HST : Hid (stepE 4 5 M X Y = .ok (M.set e1 X, [])) := HST2.out (fun h => by have := hR.2 h; cases this)
        have HBD := l5bind_any W0 sb M (k + 1) p n c bs e1 X (some ⟨b1, o1, none⟩) m1 cc1 w5 HS5.out (HUY.out e1 HVY.out) HX.out.1 HKX.out
        clear hR hb5 HSTD
        go_wp2_with fail
        refine HBD.mono ?_
        rintro e w6 ⟨rfl, hms, hg6⟩
        have HF : Hid (PairO W0 sb (runU 4 5 3 (f + 1) M [(x, y)]) w (.returned (.int .i64 0)) w6) := HDONE.out w6 (M.set e1 X) HST.out hms (HG5.out.andThen hg6 (fun j hj => .inr hj))
        clear hms hg6 HBD
        go_wp2_with fail
        go_ret
        exact HF.out
    · exact absurd HVAR.out (fun h => h.elim hx0 hy0)

end Go.Proofs.Ytedlcmkhbccjgaa

namespace Go.Proofs.Ytedlcmkhbccjgaa
open Go Go.RowKit
set_option linter.unusedVariables false

/-- A row of slices, each a tree of W0, in a block from B on. -/
def ArgsIn (W0 W : World) (B : Nat) (q : Option Addr) (m : Nat) (ts : List Tr) : Prop := m = ts.length ∧ (0 < m → ∃ g, q = some ⟨g, 0, none⟩ ∧ B ≤ g ∧ ∀ i t, ts[i]? = some t → ∃ pq nq cq, W.cell? ⟨g, i, none⟩ = some (.slice pq nq cq) ∧ TIn W0 pq nq cq t)
theorem ArgsIn.kept {W0 W W' : World} {B sb : Nat} {q : Option Addr} {m : Nat} {ts : List Tr} (h : ArgsIn W0 W B q m ts) (hg : W.grownBy W' (some sb)) (hs : sb < B) : ArgsIn W0 W' B q m ts := ⟨h.1, fun h0 => by
  obtain ⟨g, e, hB, hc⟩ := h.2 h0
  refine ⟨g, e, hB, fun i t hi => ?_⟩
  obtain ⟨pq, nq, cq, h1, h2⟩ := hc i t hi
  refine ⟨pq, nq, cq, ?_, h2⟩
  rw [World.cell?_of_block (hg.block g (World.block_lt_of_cell? _ _ h1) (fun e => by cases e; omega))]
  exact h1⟩
theorem ArgsIn.mono {W0 W : World} {B B' : Nat} {q : Option Addr} {m : Nat} {ts : List Tr} (h : ArgsIn W0 W B q m ts) (hs : B' ≤ B) : ArgsIn W0 W B' q m ts := ⟨h.1, fun h0 => by
  obtain ⟨g, e, hB, hc⟩ := h.2 h0
  exact ⟨g, e, Nat.le_trans hs hB, hc⟩⟩
theorem rowU_at {w : World} {B m mc : Nat} {q : Option Addr} {rs : List (Option Addr × Nat × Nat)} {ts : List Tr} {w0 : World} (hr : w.ownsRow B 25 1 (.slice q m mc) m (rs.map slV)) (hm : m = ts.length) (ha : ArgRowU w0 rs ts) : ArgsIn w0 w B q m ts := by
  refine ⟨hm, fun h0 => ?_⟩
  obtain ⟨g, cap, hv, hB, _⟩ := hr.form h0
  cases hv
  refine ⟨g, rfl, hB, fun i t hi => ?_⟩
  have hlt : i < m := by rw [hm]; exact (List.getElem?_eq_some_iff.1 hi).1
  have hc := hr.cellAt i (by omega)
  have key : ∀ (rs : List (Option Addr × Nat × Nat)) (ts : List Tr) (i : Nat), ArgRowU w0 rs ts → ts[i]? = some t → ∃ r, rs[i]? = some r ∧ r.2.1 = 1 + t.2.cells.length ∧ r.2.1 ≤ r.2.2 ∧ r.2.2 ≤ 1000000000 ∧ CIn w0 r.1 (t.1 :: t.2.cells) := by
    intro rs
    induction rs with
    | nil =>
      intro ts i ha hi
      cases ts with
      | nil => cases hi
      | cons t ts => exact ha.elim
    | cons r rs ih =>
      intro ts i ha hi
      cases ts with
      | nil => cases hi
      | cons t' ts =>
        cases i with
        | zero =>
          simp only [List.getElem?_cons_zero, Option.some.injEq] at hi
          subst hi
          exact ⟨r, rfl, ha.1, ha.2.1, ha.2.2.1, ha.2.2.2.1⟩
        | succ i => exact ih ts i ha.2.2.2.2 (by simpa using hi)
  obtain ⟨⟨pq, nq, cq⟩, h1, h2, h3, h4, h5⟩ := key rs ts i ha hi
  refine ⟨pq, nq, cq, ?_, by simp only [tcs, List.length_cons]; simp only at h2; omega, h3, h4, h5⟩
  rw [hc, List.getElem?_map, h1]; rfl
/-- l2args of any tree. -/
theorem args_any (W0 w : World) (hW : Below W0.heap.size W0 w) (t : Tr) (q : Option Addr) (n c : Nat) (ht : t.fo.ok) (hl : (tcs t).length ≤ 2000) (hin : TIn W0 q n c t) :
    Calls Try.prog 77 #[.slice q n c] w fun e w' => ∃ p m mc, e = .returned (.slice p m mc) ∧ ArgsIn W0 w' w.heap.size p m (trs t.2) ∧ Below w.heap.size w w' := by
  obtain ⟨cl, k⟩ := t
  by_cases h3 : cl.1 = 3
  · refine (l2argsU_any cl k q n c W0 w hW h3 ht hin.1 (by rw [hin.1]; exact hl) hin.2.1 hin.2.2.1 hin.2.2.2).mono ?_
    rintro e w' ⟨p, m, mc, rs, rfl, hm, hrow, harg, hb⟩
    exact ⟨p, m, mc, rfl, rowU_at hrow (by rw [hm, trs_len]) harg, hb⟩
  · refine (l2args_leaf cl k q n c w h3 hin.1 (by rw [hin.1]; exact hl) (hin.2.2.2.below hW)).mono ?_
    rintro e w' ⟨rfl, rfl⟩
    have hk : k = .nil := ht.2.2.2.1 h3
    subst hk
    exact ⟨none, 0, 0, rfl, ⟨rfl, fun h => absurd h (by decide)⟩, Below.refl _ _⟩

end Go.Proofs.Ytedlcmkhbccjgaa

