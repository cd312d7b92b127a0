/- Texts of UmP, UnP4, UmW. Own work of the verifier. -/
import Derived.Test.YtedlcmkhbccjgaaUqbd
import Derived.Test.YtedlcmkhbccjgaaUqan
import Derived.Test.YtedlcmkhbccjgaaUqal
namespace Go.Proofs.Ytedlcmkhbccjgaa
open Go Go.RowKit
set_option linter.unusedVariables false

set_option maxRecDepth 100000 in
set_option maxHeartbeats 2000000 in
/-- A pair of which, at its end, neither is a variable. -/
theorem pair_next (W0 : World) (sb f : Nat) (hf : f + 1 ≤ 20000) (ih : ∀ f', f' ≤ f → PairOk W0 sb f') (M : BM) (p : Option Addr) (n c : Nat) (bs : List Bnd) (x y : Tr) (qx qy : Option Addr) (mx cx my cy : Nat) (w : World) (hs : MS W0 w sb M (20000 - (f + 1)) p n c bs) (hwf : WfU M) (hsm : ∀ x u, M x = some u → (tcs u).length ≤ 2000) (ox : x.fo.ok) (oy : y.fo.ok) (lx : (tcs x).length ≤ 2000) (ly : (tcs y).length ≤ 2000) (hx : TIn W0 qx mx cx x) (hy : TIn W0 qy my cy y) (hnv : (endB M x).1.1 ≠ 0 ∧ (endB M y).1.1 ≠ 0) :
    Calls Try.prog 52 #[.pointer (some ⟨sb, 0, none⟩), .slice qx mx cx, .slice qy my cy] w (PairO W0 sb (runU 4 5 3 (f + 1) M [(x, y)]) w) := by
  obtain ⟨k, ek⟩ : ∃ k, k = 20000 - (f + 1) := ⟨_, rfl⟩
  rw [← ek] at hs
  have c1 := hs.prs
  have HNK : Hid (n ≤ k) := hs.few
  have fz := hs.free 1
  have hk : k < 20000 := by omega
  have hs1 := hs.tick hk
  obtain ⟨r, hac⟩ := hwf.acyc
  have HW1 := l5walk_any M r hac hwf.ok W0 sb (k + 1) p n c bs x (endB M x) qx mx cx _ hs1 ox hx (hwf.endB x)
  have HW2 : Hid (∀ W, Below _ _ W → Calls Try.prog 74 #[.pointer (some ⟨sb, 0, none⟩), .slice qy my cy] W (WalkO W0 (endB M y) W)) := fun W hW => l5walk_any M r hac hwf.ok W0 sb (k + 1) p n c bs y (endB M y) qy my cy W (hs1.below hW) oy hy (hwf.endB y)
  have HS1 : Hid _ := hs1
  obtain ⟨X, eX⟩ : ∃ X, X = endB M x := ⟨_, rfl⟩
  obtain ⟨Y, eY⟩ : ∃ Y, Y = endB M y := ⟨_, rfl⟩
  have HRUN : Hid (runU 4 5 3 (f + 1) M [(x, y)] = match stepE 4 5 M X Y with | .error c => .error c | .ok (M', qs) => runU 4 5 3 f M' qs) := by rw [eX, eY]; exact runU_one 4 5 3 f M x y
  rw [← eX] at HW1
  rw [← eY] at HW2
  have hkn : ((k + 1 : Nat) : Int) = (k : Int) + 1 := by omega
  rw [hkn] at HW1 HW2 HS1
  have HEK : Hid (k = 20000 - (f + 1)) := ek
  have HEX : Hid (X = endB M x ∧ Y = endB M y) := ⟨eX, eY⟩
  have HALL : Hid ((WfU M ∧ ∀ x u, M x = some u → (tcs u).length ≤ 2000) ∧ (x.fo.ok ∧ y.fo.ok) ∧ (tcs x).length ≤ 2000 ∧ (tcs y).length ≤ 2000) := ⟨⟨hwf, hsm⟩, ⟨ox, oy⟩, lx, ly⟩
  have HVAR : Hid (X.1.1 ≠ 0 ∧ Y.1.1 ≠ 0) := by rw [eX, eY]; exact hnv
  have HREC : Hid (∀ f', f' ≤ f → PairOk W0 sb f') := ih
  have HFB : Hid (f + 1 ≤ 20000) := hf
  clear hs hs1 hx hy ek eX eY hwf hsm ox oy lx ly hac hkn hnv hf ih
  go_enter Try.func52, Try.ntmps52
  go_wp2_with fail
  refine HW1.mono ?_
  rintro e w1 ⟨q1, m1, cc1, rfl, hX, hb1⟩
  go_wp2_with fail
  refine (HW2.out w1 hb1).mono ?_
  rintro e w2 ⟨q2, m2, cc2, rfl, hY, hb2⟩
  have HS2 : Hid (MS W0 w2 sb M (k + 1) p n c bs) := (HS1.out.below hb1).below hb2
  have HG2 : Hid (w.grownBy w2 (some sb)) := ((grown_setC w sb 1 _).andThen (grownB hb1) (fun j hj => .inr hj)).andThen (grownB hb2) (fun j hj => .inr hj)
  have HX : Hid (TIn W0 q1 m1 cc1 X ∧ X.fo.ok ∧ (tcs X).length ≤ 2000) := ⟨hX, by rw [HEX.out.1]; exact HALL.out.1.1.end_ok HALL.out.2.1.1 (HALL.out.1.1.endB x), by rw [HEX.out.1]; exact (HALL.out.1.1.endB x).small HALL.out.1.2 HALL.out.2.2.1⟩
  have HY : Hid (TIn W0 q2 m2 cc2 Y ∧ Y.fo.ok ∧ (tcs Y).length ≤ 2000) := ⟨hY, by rw [HEX.out.2]; exact HALL.out.1.1.end_ok HALL.out.2.1.2 (HALL.out.1.1.endB y), by rw [HEX.out.2]; exact (HALL.out.1.1.endB y).small HALL.out.1.2 HALL.out.2.2.2⟩
  have HUX : Hid (∀ v, IsV X v → M v = none) := by rw [HEX.out.1]; exact (HALL.out.1.1.endB x).last
  have HUY : Hid (∀ v, IsV Y v → M v = none) := by rw [HEX.out.2]; exact (HALL.out.1.1.endB y).last
  obtain ⟨b1, o1, rfl, hc1⟩ := hX.2.2.2 (tcs_pos X)
  obtain ⟨b2, o2, rfl, hc2⟩ := hY.2.2.2 (tcs_pos Y)
  obtain ⟨tx, tcx, x0, x1, x2, x3⟩ := hc1 0 (tcs_pos X)
  obtain ⟨ty, tcy, y0, y1, y2, y3⟩ := hc2 0 (tcs_pos Y)
  rw [tcs_head] at x0 x1 x2 x3 y0 y1 y2 y3
  simp only [Nat.zero_mul, Nat.add_zero] at x0 x1 x2 y0 y1 y2
  have HL2 := HS2.out.low
  have x0 := (HL2.cell (World.block_lt_of_cell? _ _ x0)).trans x0
  have x1 := (HL2.cell (World.block_lt_of_cell? _ _ x1)).trans x1
  have x2 := (HL2.cell (World.block_lt_of_cell? _ _ x2)).trans x2
  have y0 := (HL2.cell (World.block_lt_of_cell? _ _ y0)).trans y0
  have y1 := (HL2.cell (World.block_lt_of_cell? _ _ y1)).trans y1
  have y2 := (HL2.cell (World.block_lt_of_cell? _ _ y2)).trans y2
  have hm1 : (0 : Int) < (m1 : Int) := by have := hX.1; have := tcs_pos X; omega
  have hm2 : (0 : Int) < (m2 : Int) := by have := hY.1; have := tcs_pos Y; omega
  have hm1n : 0 < m1 := by omega
  have hm2n : 0 < m2 := by omega
  have HBX : Hid (BIn W0 tx X.1.2.2) := x3
  have HBY : Hid (BIn W0 ty Y.1.2.2) := y3
  have HLST : Hid (∀ W M', runU 4 5 3 (f + 1) M [(x, y)] = .ok (M', f) → WfU M' → (∀ x u, M' x = some u → (tcs u).length ≤ 2000) → (∃ p n c bs, MS W0 W sb M' (k + 1) p n c bs) → w.grownBy W (some sb) → PairO W0 sb (runU 4 5 3 (f + 1) M [(x, y)]) w (.returned (.int .i64 0)) W) := fun W M' h1 h2 h3 h4 h5 => by
    rw [h1]
    refine ⟨rfl, by have := HFB.out; omega, ?_, h2, h3, h5⟩
    rw [show 20000 - f = k + 1 by have := HEK.out; have := HFB.out; omega]; exact h4
  clear hX hY hb1 hb2 hc1 hc2 HL2 x3 y3 HW1 HW2 c1 fz HS1
  obtain ⟨a0, ea0⟩ : ∃ a, a = X.1.1 := ⟨_, rfl⟩
  obtain ⟨a1, ea1⟩ : ∃ a, a = X.1.2.1 := ⟨_, rfl⟩
  obtain ⟨e0, ee0⟩ : ∃ a, a = Y.1.1 := ⟨_, rfl⟩
  obtain ⟨e1, ee1⟩ : ∃ a, a = Y.1.2.1 := ⟨_, rfl⟩
  obtain ⟨lx, elx⟩ : ∃ a, a = X.1.2.2.length := ⟨_, rfl⟩
  obtain ⟨ly, ely⟩ : ∃ a, a = Y.1.2.2.length := ⟨_, rfl⟩
  rw [← ea0] at x0
  rw [← ea1] at x1
  rw [← elx] at x2
  rw [← ee0] at y0
  rw [← ee1] at y1
  rw [← ely] at y2
  have HAE : Hid ((a0 = X.1.1 ∧ a1 = X.1.2.1 ∧ lx = X.1.2.2.length) ∧ e0 = Y.1.1 ∧ e1 = Y.1.2.1 ∧ ly = Y.1.2.2.length) := ⟨⟨ea0, ea1, elx⟩, ee0, ee1, ely⟩
  clear ea0 ea1 ee0 ee1 elx ely
  obtain ⟨w3, ew3⟩ : ∃ w3, w3 = w2.alloc (.cells #[.int .i64 a0, .int .i64 a1, .slice tx lx tcx] 47) := ⟨_, rfl⟩
  have hb3 : Below w2.heap.size w2 w3 := by rw [ew3]; exact (Below.refl _ _).alloc (Nat.le_refl _) _
  have y0 := (hb3.cell (World.block_lt_of_cell? _ _ y0)).trans y0
  have y1 := (hb3.cell (World.block_lt_of_cell? _ _ y1)).trans y1
  have y2 := (hb3.cell (World.block_lt_of_cell? _ _ y2)).trans y2
  rw [ew3] at y0 y1 y2
  have hsz3 : w3.heap.size = w2.heap.size + 1 := by rw [ew3]; simp
  obtain ⟨w4, ew4⟩ : ∃ w4, w4 = w3.alloc (.cells #[.int .i64 e0, .int .i64 e1, .slice ty ly tcy] 47) := ⟨_, rfl⟩
  have hb4 : Below w3.heap.size w3 w4 := by rw [ew4]; exact (Below.refl _ _).alloc (Nat.le_refl _) _
  have HS4 : Hid (MS W0 w4 sb M (k + 1) p n c bs) := (HS2.out.below hb3).below hb4
  have HG4 : Hid (w.grownBy w4 (some sb)) := (HG2.out.andThen (grownB hb3) (fun j hj => .inr hj)).andThen (grownB hb4) (fun j hj => .inr hj)
  have HB4 : Hid (Below w2.heap.size w2 w4) := Below.on hb3 hb4
  rw [ew3] at ew4
  clear hb3 hb4 hsz3
  have HKX : Hid (n + 1 ≤ k + 1) := Nat.succ_le_succ HNK.out
  have HDONE : Hid (∀ W M', stepE 4 5 M X Y = .ok (M', []) → (∃ p n c bs, MS W0 W sb M' (k + 1) p n c bs) → w.grownBy W (some sb) → PairO W0 sb (runU 4 5 3 (f + 1) M [(x, y)]) w (.returned (.int .i64 0)) W) := fun W M' hst h4 h5 => by
    have h1 : runU 4 5 3 (f + 1) M [(x, y)] = .ok (M', f) := by rw [HRUN.out, hst]; exact runU_nil 4 5 3 f M'
    obtain ⟨w1', _⟩ := HALL.out.1.1.step HUX.out HUY.out HX.out.2.1 HY.out.2.1 hst
    obtain ⟨s1', _⟩ := step_small HALL.out.1.2 HX.out.2.2 HY.out.2.2 HX.out.2.1 hst
    exact HLST.out W M' h1 w1' s1' h4 h5
  have HERR : Hid (∀ W cde, stepE 4 5 M X Y = .error cde → Below W0.heap.size W0 W → w.grownBy W (some sb) → PairO W0 sb (runU 4 5 3 (f + 1) M [(x, y)]) w (.returned (.int .i64 cde)) W) := fun W cde hst h4 h5 => by
    have h1 : runU 4 5 3 (f + 1) M [(x, y)] = .error cde := by rw [HRUN.out, hst]
    have h2 := runU_codes _ _ _ _ h1
    rw [h1]
    exact ⟨h2, rfl, h4, h5⟩
  obtain ⟨hx0, hy0⟩ := HVAR.out
  have kx : (a0 == 0) = false := by rw [HAE.out.1.1]; simpa using hx0
  have ky : (e0 == 0) = false := by rw [HAE.out.2.1]; simpa using hy0
  have HSTE : Hid (stepE 4 5 M X Y = if X.1 = Y.1 then .ok (M, (trs X.2).zip (trs Y.2)) else .error 4) := by
    show _ = _
    unfold stepE
    rw [if_neg (fun h => hx0 h.1), if_neg hx0, if_neg hy0]
  obtain ⟨sx, esx⟩ : ∃ s, s = strOfNums X.1.2.2 := ⟨_, rfl⟩
  obtain ⟨sy, esy⟩ : ∃ s, s = strOfNums Y.1.2.2 := ⟨_, rfl⟩
  have HXL : Hid (lx = X.1.2.2.length) := HAE.out.1.2.2
  have HYL : Hid (ly = Y.1.2.2.length) := HAE.out.2.2.2
  have cvx : (convert 41 9 (.slice tx lx tcx)).run Try.prog w4 = .ok (.string sx) w4 := by rw [esx]; exact conv_str (HBX.out.below HS4.out.low) lx tcx HXL.out 9 Try.underlying9
  have cvy : (convert 41 9 (.slice ty ly tcy)).run Try.prog w4 = .ok (.string sy) w4 := by rw [esy]; exact conv_str (HBY.out.below HS4.out.low) ly tcy HYL.out 9 Try.underlying9
  rw [ew4] at cvx cvy
  clear hx0 hy0
  by_cases hE : X.1 = Y.1
  · have h0 : e0 = a0 := by rw [HAE.out.1.1, HAE.out.2.1, hE]
    have h1 : e1 = a1 := by rw [HAE.out.1.2.1, HAE.out.2.2.1, hE]
    have hs : sy = sx := by rw [esx, esy, hE]
    have HST : Hid (runU 4 5 3 (f + 1) M [(x, y)] = runU 4 5 3 f M ((trs X.2).zip (trs Y.2))) := by show _ = _; rw [HRUN.out, HSTE.out, if_pos hE]
    have HCN : Hid ((trs X.2).length = (trs Y.2).length) := by
      show _ = _
      have oX := HX.out.2.1
      have oY := HY.out.2.1
      rw [trs_len, trs_len]
      by_cases h3 : X.1.1 = 3
      · have g1 := oX.2.2.1 h3
        have g2 := oY.2.2.1 (by rw [← hE]; exact h3)
        rw [hE] at g1
        omega
      · rw [oX.2.2.2.1 h3, oY.2.2.2.1 (by rw [← hE]; exact h3)]
    have HA1 := args_any W0 w4 HS4.out.low X (some ⟨b1, o1, none⟩) m1 cc1 HX.out.2.1 HX.out.2.2 HX.out.1
    have HA2 : Hid (∀ W, Below w4.heap.size w4 W → Calls Try.prog 77 #[.slice (some ⟨b2, o2, none⟩) m2 cc2] W fun e w' => ∃ p m mc, e = .returned (.slice p m mc) ∧ ArgsIn W0 w' W.heap.size p m (trs Y.2) ∧ Below W.heap.size W w') := fun W hW => args_any W0 W (Below.on HS4.out.low hW) Y (some ⟨b2, o2, none⟩) m2 cc2 HY.out.2.1 HY.out.2.2 HY.out.1
    have HOKX : Hid ((∀ t ∈ trs X.2, t.fo.ok ∧ (tcs t).length ≤ 2000) ∧ ∀ t ∈ trs Y.2, t.fo.ok ∧ (tcs t).length ≤ 2000) := ⟨fun t ht => ⟨trs_okU HX.out.2.1.2.2.2.2.1 t ht, by have := trs_small X.2 t ht; have := HX.out.2.2; simp only [tcs, List.length_cons] at this ⊢; simp only [tcs, List.length_cons] at *; omega⟩, fun t ht => ⟨trs_okU HY.out.2.1.2.2.2.2.1 t ht, by have := trs_small Y.2 t ht; have := HY.out.2.2; simp only [tcs, List.length_cons] at *; omega⟩⟩
    have HSB : Hid (sb < w4.heap.size) := World.block_lt_of_cell? _ _ HS4.out.sub
    have HC20 : Hid ((trs X.2).length ≤ 2000) := by
      show _ ≤ _
      have h9 := HX.out.2.2
      have := Fo.count_le X.2
      rw [trs_len]
      simp only [tcs, List.length_cons] at h9
      omega
    subst h0 h1 hs
    rw [ew4] at HA1
    clear hE esx esy HERR HDONE HLST HRUN HSTE HB4 HS2 HG2
    go_wp2_with fail
    refine HA1.mono ?_
    rw [← ew4]
    rintro e w5 ⟨p5, n5, c5, rfl, ha5, hb5⟩
    have HA5 : Hid (ArgsIn W0 w5 w4.heap.size p5 n5 (trs X.2)) := ha5
    have HB5 : Hid (Below w4.heap.size w4 w5) := hb5
    clear HA1 ha5 hb5 cvx cvy x0 x1 x2 y0 y1 y2
    go_wp2_with fail
    refine (HA2.out w5 HB5.out).mono ?_
    rintro e w6 ⟨p6, n6, c6, rfl, ha6, hb6⟩
    have HA6 : Hid (ArgsIn W0 w6 w4.heap.size p6 n6 (trs Y.2)) := ha6.mono HB5.out.size
    have HA5 : Hid (ArgsIn W0 w6 w4.heap.size p5 n5 (trs X.2)) := HA5.out.kept (grownB hb6) HSB.out
    have hn5 : n5 ≤ 2000 := by rw [HA5.out.1]; exact HC20.out
    have hn6 : n6 = n5 := by rw [HA5.out.1, ha6.1]; exact HCN.out.symm
    subst hn6
    have HLI : Hid (∃ M' f', f' ≤ f ∧ runU 4 5 3 (f + 1) M [(x, y)] = runU 4 5 3 f' M' (((trs X.2).zip (trs Y.2)).drop 0) ∧ (∃ p n c bs, MS W0 w6 sb M' (20000 - f') p n c bs) ∧ WfU M' ∧ (∀ x u, M' x = some u → (tcs u).length ≤ 2000)) := ⟨M, f, Nat.le_refl _, HST.out, ⟨p, n, c, bs, by have := (HS4.out.below HB5.out).below hb6; rwa [show k + 1 = 20000 - f by have := HEK.out; have := HFB.out; omega] at this⟩, HALL.out.1⟩
    have HG6 : Hid (w.grownBy w6 (some sb)) := (HG4.out.andThen (grownB HB5.out) (fun j hj => .inr hj)).andThen (grownB hb6) (fun j hj => .inr hj)
    clear ha6 hb6 HA2 HB5
    go_wp2_with fail
    go_loopw [12] (fun i wr => ∃ (j : Nat), j ≤ n6 ∧ i = .int .i64 j ∧ Hid (∃ M' f', f' ≤ f ∧ runU 4 5 3 (f + 1) M [(x, y)] = runU 4 5 3 f' M' (((trs X.2).zip (trs Y.2)).drop j) ∧ (∃ p n c bs, MS W0 wr sb M' (20000 - f') p n c bs) ∧ WfU M' ∧ (∀ x u, M' x = some u → (tcs u).length ≤ 2000)) ∧ Hid (w.grownBy wr (some sb)) ∧ Hid (ArgsIn W0 wr w4.heap.size p5 n6 (trs X.2)) ∧ Hid (ArgsIn W0 wr w4.heap.size p6 n6 (trs Y.2))) (fun i _ => n6 - (intOf i).toNat)
    case atStart => exact ⟨0, Nat.zero_le _, rfl, HLI, HG6, HA5, HA6⟩
    case round =>
      clear HLI HG6 HA5 HA6
      obtain ⟨j, hj, rfl, HLI, HG, HA5, HA6⟩ := hrel
      obtain ⟨M', f', hf', hrun, ⟨p', n', c', bs', hms⟩, hwf, hsm⟩ := HLI.out
      by_cases hlt : j < n6
      · have hjx : j < (trs X.2).length := by rw [← HA5.out.1]; exact hlt
        have hjy : j < (trs Y.2).length := by rw [← HA6.out.1]; exact hlt
        obtain ⟨g5, rfl, hB5, hc5⟩ := HA5.out.2 (by omega)
        obtain ⟨g6, rfl, hB6, hc6⟩ := HA6.out.2 (by omega)
        obtain ⟨u1, eu1⟩ : ∃ u, u = (trs X.2)[j] := ⟨_, rfl⟩
        obtain ⟨u2, eu2⟩ : ∃ u, u = (trs Y.2)[j] := ⟨_, rfl⟩
        obtain ⟨pq, nq, cq, r1, ti1⟩ := hc5 j u1 (by rw [List.getElem?_eq_getElem hjx, eu1])
        obtain ⟨pr, nr, cr, r2, ti2⟩ := hc6 j u2 (by rw [List.getElem?_eq_getElem hjy, eu2])
        have o1 := HOKX.out.1 u1 (by rw [eu1]; exact List.getElem_mem _)
        have o2 := HOKX.out.2 u2 (by rw [eu2]; exact List.getElem_mem _)
        have r1d : wr.drew.cell? ⟨g5, j, none⟩ = some (.slice pq nq cq) := r1
        have r2d : wr.drew.cell? ⟨g6, j, none⟩ = some (.slice pr nr cr) := r2
        have hbd : Below wr.heap.size wr wr.drew := ⟨rfl, rfl, rfl, Nat.le_refl _, fun _ _ => rfl⟩
        have HP := HREC.out f' hf' M' p' n' c' bs' u1 u2 pq pr nq cq nr cr wr.drew (hms.below hbd) hwf hsm o1.1 o2.1 o1.2 o2.2 ti1 ti2
        have HGd : Hid (w.grownBy wr.drew (some sb)) := HG.out.andThen (grownB hbd) (fun j hj => .inr hj)
        have HDR : Hid (runU 4 5 3 (f + 1) M [(x, y)] = match runU 4 5 3 f' M' [(u1, u2)] with | .error c => .error c | .ok (M'', f'') => runU 4 5 3 f'' M'' (((trs X.2).zip (trs Y.2)).drop (j + 1))) := by
          show _ = _
          have hz : j < ((trs X.2).zip (trs Y.2)).length := by rw [List.length_zip]; omega
          rw [hrun, List.drop_eq_getElem_cons hz, List.getElem_zip, ← eu1, ← eu2]
          exact runU_cons 4 5 3 f' M' (u1, u2) _
        have HF' : Hid (f' ≤ f ∧ ∀ M'' f'', runU 4 5 3 f' M' [(u1, u2)] = .ok (M'', f'') → f'' ≤ f') := ⟨hf', fun M'' f'' h => runU_fuel 4 5 3 f' M' _ M'' f'' h⟩
        have HR7 : Hid (∀ w7, wr.drew.grownBy w7 (some sb) → w7.cell? ⟨g5, j, none⟩ = some (.slice pq nq cq) ∧ w7.cell? ⟨g6, j, none⟩ = some (.slice pr nr cr)) := fun w7 hg => ⟨by rw [World.cell?_of_block (hg.block g5 (World.block_lt_of_cell? _ _ r1d) (fun e => by cases e; have := HSB.out; omega))]; exact r1d, by rw [World.cell?_of_block (hg.block g6 (World.block_lt_of_cell? _ _ r2d) (fun e => by cases e; have := HSB.out; omega))]; exact r2d⟩
        obtain ⟨RR, eRR⟩ : ∃ RR, RR = runU 4 5 3 f' M' [(u1, u2)] := ⟨_, rfl⟩
        rw [← eRR] at HP HDR HF'
        have HA5d : Hid (ArgsIn W0 wr.drew w4.heap.size (some ⟨g5, 0, none⟩) n6 (trs X.2)) := HA5.out.kept (grownB hbd) HSB.out
        have HA6d : Hid (ArgsIn W0 wr.drew w4.heap.size (some ⟨g6, 0, none⟩) n6 (trs Y.2)) := HA6.out.kept (grownB hbd) HSB.out
        clear hrun hms hwf hsm hc5 hc6 eu1 eu2 ti1 ti2 o1 o2 eRR HLI hf' hB5 hB6 hbd
        cases RR with
        | error d =>
          have HPE : Hid (Calls Try.prog 52 #[.pointer (some ⟨sb, 0, none⟩), .slice pq nq cq, .slice pr nr cr] wr.drew fun e w7 => e = .returned (.int .i64 d) ∧ w7.cell? ⟨g5, j, none⟩ = some (.slice pq nq cq) ∧ w7.cell? ⟨g6, j, none⟩ = some (.slice pr nr cr) ∧ Hid (PairO W0 sb (runU 4 5 3 (f + 1) M [(x, y)]) w (.returned (.int .i64 d)) w7) ∧ Hid (3 ≤ d)) := HP.mono fun e w7 ⟨hd, he, hl7, hg7⟩ => ⟨he, (HR7.out w7 hg7).1, (HR7.out w7 hg7).2, by
            rw [HDR.out]
            exact ⟨hd, rfl, hl7, HGd.out.andThen hg7 (fun j hj => .inr hj)⟩, hd.1⟩
          have hd3 : 3 ≤ d := by
            have h9 : runU 4 5 3 (f + 1) M [(x, y)] = .error d := HDR.out
            exact (runU_codes _ _ _ _ h9).1
          have hd0 : (d == 0) = false := by rw [beq_eq_false_iff_ne]; omega
          have hd1 : ¬ d = 0 := by omega
          clear HP hd3
          go_wp2_with fail
          go_region_held3 (fun W => W.cell? ⟨g5, j, none⟩ = some (.slice pq nq cq) ∧ W.cell? ⟨g6, j, none⟩ = some (.slice pr nr cr)) (exact ⟨by assumption, by assumption⟩) ((go_at_call 52; refine HPE.out.mono ?_; rintro e w7 ⟨rfl, q1, q2, HF, HD⟩))
          all_goals go_wp2_with fail
          all_goals go_ret
          all_goals exact HF.out
        | ok rr =>
          obtain ⟨M'', f''⟩ := rr
          have HPE : Hid (Calls Try.prog 52 #[.pointer (some ⟨sb, 0, none⟩), .slice pq nq cq, .slice pr nr cr] wr.drew fun e w7 => e = .returned (.int .i64 0) ∧ w7.cell? ⟨g5, j, none⟩ = some (.slice pq nq cq) ∧ w7.cell? ⟨g6, j, none⟩ = some (.slice pr nr cr) ∧ Hid (∃ M' f', f' ≤ f ∧ runU 4 5 3 (f + 1) M [(x, y)] = runU 4 5 3 f' M' (((trs X.2).zip (trs Y.2)).drop (j + 1)) ∧ (∃ p n c bs, MS W0 w7 sb M' (20000 - f') p n c bs) ∧ WfU M' ∧ (∀ x u, M' x = some u → (tcs u).length ≤ 2000)) ∧ Hid (w.grownBy w7 (some sb)) ∧ Hid (ArgsIn W0 w7 w4.heap.size (some ⟨g5, 0, none⟩) n6 (trs X.2)) ∧ Hid (ArgsIn W0 w7 w4.heap.size (some ⟨g6, 0, none⟩) n6 (trs Y.2))) := HP.mono fun e w7 ⟨he, hf'', hms'', hwf'', hsm'', hg7⟩ => ⟨he, (HR7.out w7 hg7).1, (HR7.out w7 hg7).2, ⟨M'', f'', Nat.le_trans (HF'.out.2 M'' f'' rfl) HF'.out.1, HDR.out, hms'', hwf'', hsm''⟩, HGd.out.andThen hg7 (fun j hj => .inr hj), HA5d.out.kept hg7 HSB.out, HA6d.out.kept hg7 HSB.out⟩
          clear HP
          go_wp2_with fail
          go_region_held3 (fun W => W.cell? ⟨g5, j, none⟩ = some (.slice pq nq cq) ∧ W.cell? ⟨g6, j, none⟩ = some (.slice pr nr cr)) (exact ⟨by assumption, by assumption⟩) ((go_at_call 52; refine HPE.out.mono ?_; rintro e w7 ⟨rfl, q1, q2, HLI2, HG2, HA52, HA62⟩))
          all_goals go_wp2_with fail
          all_goals go_roundw
          all_goals first
            | (simp [intOf]; omega)
            | exact ⟨j + 1, by omega, by go_num, HLI2, HG2, HA52, HA62⟩
      · obtain rfl : j = n6 := by omega
        have HF : Hid (PairO W0 sb (runU 4 5 3 (f + 1) M [(x, y)]) w (.returned (.int .i64 0)) wr) := by
          rw [hrun, List.drop_eq_nil_of_le (by rw [List.length_zip, ← HA5.out.1, ← HA6.out.1]; omega), runU_nil]
          exact ⟨rfl, by have := HFB.out; omega, ⟨p', n', c', bs', hms⟩, hwf, hsm, HG.out⟩
        clear hrun hms hwf hsm HLI
        go_wp2_with fail
        go_ret
        exact HF.out
  · have HF : Hid (PairO W0 sb (runU 4 5 3 (f + 1) M [(x, y)]) w (.returned (.int .i64 4)) w4) := HERR.out w4 4 (by rw [HSTE.out, if_neg hE]) HS4.out.low HG4.out
    rw [ew4] at HF
    by_cases hk : a0 = e0
    · by_cases hnn : a1 = e1
      · have htt : ¬ sx.toList = sy.toList := fun h => hE (by
          have hb := str_ne HX.out.2.1.2.1 HY.out.2.1.2.1 (by rw [← esx, ← esy]; exact ba_ext h)
          have h1 : X.1.1 = Y.1.1 := by rw [← HAE.out.1.1, ← HAE.out.2.1, hk]
          have h2 : X.1.2.1 = Y.1.2.1 := by rw [← HAE.out.1.2.1, ← HAE.out.2.2.1, hnn]
          exact Prod.ext h1 (Prod.ext h2 hb))
        have kt : (sx.toList == sy.toList) = false := by simpa using htt
        subst hk hnn
        clear htt hE esx esy
        go_wp2_with fail
        go_ret
        exact HF.out
      · have kn : (a1 == e1) = false := by simpa using hnn
        subst hk
        clear hE esx esy
        go_wp2_with fail
        go_ret
        exact HF.out
    · have kk : (a0 == e0) = false := by simpa using hk
      clear hE esx esy
      go_wp2_with fail
      go_ret
      exact HF.out
theorem pair_any (W0 : World) (sb : Nat) : ∀ f, f ≤ 20000 → PairOk W0 sb f := by
  intro f
  induction f using Nat.strongRecOn with
  | _ f ih =>
    intro hf
    cases f with
    | zero => exact pair_zero W0 sb
    | succ f =>
      intro M p n c bs x y qx qy mx cx my cy w hs hwf hsm ox oy lx ly hx hy
      by_cases h : (endB M x).1.1 = 0 ∨ (endB M y).1.1 = 0
      · exact pair_var W0 sb f hf M p n c bs x y qx qy mx cx my cy w hs hwf hsm ox oy lx ly hx hy h
      · exact pair_next W0 sb f hf (fun f' h' => ih f' (by omega) (by omega)) M p n c bs x y qx qy mx cx my cy w hs hwf hsm ox oy lx ly hx hy ⟨fun e => h (.inl e), fun e => h (.inr e)⟩

end Go.Proofs.Ytedlcmkhbccjgaa

namespace Go.Proofs.Ytedlcmkhbccjgaa
open Go Go.RowKit
set_option linter.unusedVariables false

open Classical in
/-- The cells of what a tree stands for in the end. -/
noncomputable def fullC (M : BM) (t : Tr) : List Cel := if h : ∃ g : Fo, FullF M t.fo g then (Classical.choose h).cells else []
theorem fullC_eq {M : BM} {t : Tr} {g : Fo} (h : FullF M t.fo g) : fullC M t = g.cells := by
  have hx : ∃ g : Fo, FullF M t.fo g := ⟨g, h⟩
  unfold fullC
  rw [dif_pos hx, (Classical.choose_spec hx).det h]
/-- What is put in for a cell. -/
noncomputable def putC (M : BM) (c : Cel) : List Cel := if c.1 = 0 then (match M c.2.1 with | some u => fullC M u | none => [c]) else [c]
theorem full_cells {M : BM} {F G : Fo} (h : FullF M F G) : G.cells = F.cells.flatMap (putC M) := by
  induction h with
  | nil => rfl
  | @keep c k r k' r' h _ _ ihk ihr =>
    have e : putC M c = [c] := by
      unfold putC
      by_cases h0 : c.1 = 0
      · rw [if_pos h0, h h0]
      · rw [if_neg h0]
    simp only [Fo.cells, List.flatMap_cons, List.flatMap_append, ihk, ihr, e, List.singleton_append]
  | @put c r r' u g h0 hm hu _ _ ihr =>
    have e : putC M c = g.1 :: g.2.cells := by
      unfold putC
      rw [if_pos h0, hm]
      simp only [fullC_eq hu, Tr.fo, Fo.cells, List.append_nil]
    simp only [Fo.cells, List.flatMap_cons, List.nil_append, ihr, e, List.cons_append]
/-- What bindings are: each tree stands for one in the end. -/
theorem WfU.full {M : BM} (h : WfU M) (t : Tr) (ht : t.fo.ok) : ∃ g : Tr, FullF M t.fo g.fo := by
  obtain ⟨r, hr⟩ := h.acyc
  obtain ⟨K, hK⟩ := list_top r (vsT t)
  obtain ⟨G, hG, hc⟩ := full_ex hr h.ok K t.fo ht hK
  cases G with
  | nil => simp [Tr.fo, Fo.count] at hc
  | node a b d =>
    cases d with
    | nil => exact ⟨(a, b), hG⟩
    | node _ _ _ => simp [Tr.fo, Fo.count] at hc
theorem WfU.full_flat {M : BM} (h : WfU M) (t : Tr) (ht : t.fo.ok) : fullC M t = (t.1 :: t.2.cells).flatMap (putC M) := by
  obtain ⟨g, hg⟩ := h.full t ht
  rw [fullC_eq hg, full_cells hg]
  simp [Tr.fo, Fo.cells]
theorem Cut.full_same {P M : BM} (hc : Cut P M) (h : WfU M) (t : Tr) (ht : t.fo.ok) : fullC P t = fullC M t := by
  obtain ⟨g, hg⟩ := (hc.wf h).full t ht
  rw [fullC_eq hg, fullC_eq (hc.full hg)]
theorem putC_pos {M : BM} (h : WfU M) (c : Cel) : 1 ≤ (putC M c).length := by
  unfold putC
  by_cases h0 : c.1 = 0
  · rw [if_pos h0]
    cases hm : M c.2.1 with
    | none => simp
    | some u =>
      obtain ⟨g, hg⟩ := h.full u (h.ok _ _ hm)
      simp only [fullC_eq hg, Tr.fo, Fo.cells, List.length_cons]
      omega
  · rw [if_neg h0]; simp
/-- Sums of numbers that are cut off at a bound, cut off there, are the sum cut off there. -/
def sumN : List Nat → Nat
  | [] => 0
  | a :: r => a + sumN r
theorem sum_cut (B : Nat) : ∀ l : List Nat, min (sumN (l.map (min · B))) B = min (sumN l) B
  | [] => rfl
  | a :: r => by
    have := sum_cut B r
    simp only [List.map_cons, sumN]
    omega
theorem flat_lenU {α β : Type} (f : α → List β) : ∀ l : List α, (l.flatMap f).length = sumN (l.map fun a => (f a).length)
  | [] => rfl
  | a :: r => by simp only [List.flatMap_cons, List.length_append, List.map_cons, sumN, flat_lenU f r]
/-- The number of cells in the end, cut off at B, by the same of what is put in. -/
theorem WfU.count {M : BM} (h : WfU M) (B : Nat) (t : Tr) (ht : t.fo.ok) : min (fullC M t).length B = min (sumN ((t.1 :: t.2.cells).map fun c => min (putC M c).length B)) B := by
  rw [h.full_flat t ht, flat_lenU, ← sum_cut B, List.map_map]
  rfl
/-- Cells that are put behind one another grow: as soon as they are too many they stay so. -/
theorem take_len {M : BM} (l : List Cel) (j : Nat) : ((l.take j).flatMap (putC M)).length ≤ (l.flatMap (putC M)).length := by
  conv => rhs; rw [← List.take_append_drop j l, List.flatMap_append, List.length_append]
  omega

end Go.Proofs.Ytedlcmkhbccjgaa

namespace Go.Proofs.Ytedlcmkhbccjgaa
open Go Go.RowKit
set_option linter.unusedVariables false

theorem fo_textU : ∀ (F : Fo), F.ok → ∀ c ∈ F.cells, c.2.2.length ≤ 100
  | .nil, _, c, h => by cases h
  | .node a k r, h, c, hc => by
    simp only [Fo.cells, List.mem_cons, List.mem_append] at hc
    rcases hc with rfl | hc | hc
    · have := h.1
      simp only [cellB, decide_eq_true_eq] at this
      omega
    · exact fo_textU k h.2.2.2.2.1 c hc
    · exact fo_textU r h.2.2.2.2.2 c hc
/-- What l5whole answers: ds lay there before. -/
def WholeO (B : Nat) (w : World) (R : List Cel) (e : Ending) (w' : World) : Prop := Below B w w' ∧ ((R.length ≤ 2000 ∧ ∃ p m c, e = .returned (.tuple #[.slice p m c, .bool true]) ∧ OwnC w' B p m c R) ∨ (2000 < R.length ∧ e = .returned (.tuple #[.slice none 0 0, .bool false])))
/-- What l5whole is asked to do for trees whose variables have ranks below N. -/
def WholeOk (W0 Wp : World) (sb : Nat) (M : BM) (r : Int → Nat) (N : Nat) : Prop := ∀ (t : Tr) (q : Option Addr) (n cq : Nat) (B : Nat) (w : World) (ds : List Cel) (p : Option Addr) (m c : Nat), t.fo.ok → (tcs t).length ≤ 2000 → TIn W0 q n cq t → (∀ v ∈ vsT t, (M v).isSome = true → r v < N) → Below Wp.heap.size Wp w → Wp.heap.size ≤ B → B ≤ w.heap.size → OwnC w B p m c ds → m ≤ 2000 →
  Calls Try.prog 53 #[.pointer (some ⟨sb, 0, none⟩), .slice q n cq, .slice p m c] w (WholeO B w (ds ++ (tcs t).flatMap (putC M)))
theorem below_drewU (w : World) : Below w.heap.size w w.drew := ⟨rfl, rfl, rfl, Nat.le_refl _, fun _ _ => rfl⟩
theorem flat_take (M : BM) (cs : List Cel) (j : Nat) (h : j < cs.length) : (cs.take (j + 1)).flatMap (putC M) = (cs.take j).flatMap (putC M) ++ putC M (cs.getD j Cel.none) := by
  rw [List.take_add_one, List.getElem?_eq_getElem h, List.flatMap_append]
  simp only [Option.toList, List.flatMap_cons, List.flatMap_nil, List.append_nil, List.getD, List.getElem?_eq_getElem h, Option.getD_some]

set_option maxRecDepth 100000 in
set_option maxHeartbeats 2000000 in
theorem whole_step (W0 Wp : World) (sb : Nat) (M : BM) (r : Int → Nat) (hac : Acyc M r) (hwf : WfU M) (hsm : ∀ x u, M x = some u → (tcs u).length ≤ 2000) (kk : Nat) (sp : Option Addr) (sn sc : Nat) (bs : List Bnd) (hs : MS W0 Wp sb M kk sp sn sc bs) (N : Nat) (ih : ∀ N', N' < N → WholeOk W0 Wp sb M r N') : WholeOk W0 Wp sb M r N := by
  intro t q n cq B w ds p m c ht htl hin hrk hWp hBp hBw hown hm
  obtain ⟨cs, ecs⟩ : ∃ cs, cs = tcs t := ⟨_, rfl⟩
  have hnl : n = cs.length := by rw [ecs]; exact hin.1
  have hn2 : n ≤ 2000 := by rw [hnl, ecs]; exact htl
  have hncq : n ≤ cq := hin.2.1
  have hcq : cq ≤ 1000000000 := hin.2.2.1
  have HMS : Hid (∀ W, Below Wp.heap.size Wp W → MS W0 W sb M kk sp sn sc bs) := fun W h => hs.below h
  have HLOW : Hid (∀ W, Below B w W → Below Wp.heap.size Wp W) := fun W h => hWp.trans (h.mono hBp)
  have HTX : Hid (∀ j, j < cs.length → (cs.getD j Cel.none).2.2.length ≤ 100) := fun j hj => fo_textU t.fo ht _ (by rw [← tcs_fo, ← ecs] at *; simp [List.getD, hj])
  have HVR : Hid (∀ j, j < cs.length → (cs.getD j Cel.none).1 = 0 → ∀ u, M (cs.getD j Cel.none).2.1 = some u → WholeOk W0 Wp sb M r (r (cs.getD j Cel.none).2.1)) := fun j hj h0 u hu => by
    rw [ecs] at hj h0 hu ⊢
    exact ih _ (hrk _ (cell_var hj h0) (by rw [hu]; rfl))
  have HU : Hid (Acyc M r ∧ WfU M ∧ ∀ x u, M x = some u → (tcs u).length ≤ 2000) := ⟨hac, hwf, hsm⟩
  have HIN : Hid (CIn W0 q cs) := by rw [ecs]; exact hin.2.2.2
  have HN : Hid (n = cs.length) := hnl
  have HFS : Hid (sn = bs.length ∧ sn ≤ 20000) := ⟨hs.len, by have := hs.few; have := hs.kle; omega⟩
  have HFIN0 : Hid (∀ w' r m cr, Below B w w' → OwnC w' B r m cr (ds ++ (cs.take n).flatMap (putC M)) → m ≤ 2000 → WholeO B w (ds ++ (tcs t).flatMap (putC M)) (.returned (.tuple #[.slice r m cr, .bool true])) w') := fun w' r m cr hb' ho hle => by
    rw [List.take_of_length_le (by rw [hnl]; exact Nat.le_refl _), ecs] at ho
    exact ⟨hb', .inl ⟨by rw [← ho.1]; exact hle, r, m, cr, rfl, ho⟩⟩
  have HFIN3 : Hid (∀ w', Below B w w' → ∀ j, 2000 < (ds ++ (cs.take (j + 1)).flatMap (putC M)).length → WholeO B w (ds ++ (tcs t).flatMap (putC M)) (.returned (.tuple #[.slice none 0 0, .bool false])) w') := fun w' hb' j hj => by
    refine ⟨hb', .inr ⟨?_, rfl⟩⟩
    have := take_len (M := M) cs (j + 1)
    rw [← ecs]
    simp only [List.length_append] at hj ⊢
    omega
  have HMSB : Hid (Wp.heap.size ≤ B) := hBp
  have HO0 : Hid (OwnC w B p m c (ds ++ (cs.take 0).flatMap (putC M))) := by
    show OwnC _ _ _ _ _ _
    simpa using hown
  have HBS : Hid (∀ W, Below B w W → Below W0.heap.size W0 W) := fun W h => (hs.below (hWp.trans (h.mono hBp))).low
  clear hs ht htl hin hrk hWp hBp hown ih hac hwf hsm hnl ecs
  go_enter Try.func53, Try.ntmps53
  go_wp2_with fail
  go_loopw [2, 8] (fun s i wr => ∃ (j : Nat) (r : Option Addr) (m cr : Nat), j ≤ n ∧ m ≤ 2000 ∧ i = .int .i64 j ∧ s = .slice r m cr ∧ Hid (OwnC wr B r m cr (ds ++ (cs.take j).flatMap (putC M))) ∧ Hid (Below B w wr)) (fun _ i _ => n - (intOf i).toNat)
  case atStart => exact ⟨0, p, m, c, Nat.zero_le _, hm, rfl, rfl, HO0, Below.refl _ _⟩
  case round =>
    clear HO0 hm
    obtain ⟨j, rp, m, cr, hj, hm, rfl, rfl, HO, HB⟩ := hrel
    have hBs : B ≤ wr.heap.size := Nat.le_trans hBw HB.out.size
    by_cases hlt : j < n
    · have hjl : j < cs.length := by rw [← HN.out]; exact hlt
      obtain ⟨b, o, rfl, hcs⟩ := (HIN.out.below (HBS.out wr HB.out)) (by omega)
      obtain ⟨p0, q0, d0, d1, d2, d3⟩ := hcs j hjl
      have hms := HMS.out wr (HLOW.out wr HB.out)
      have s0 := hms.sub
      have HDS : Hid (ds ++ (cs.take (j + 1)).flatMap (putC M) = (ds ++ (cs.take j).flatMap (putC M)) ++ putC M (cs.getD j Cel.none)) := by show _ = _; rw [flat_take M cs j hjl, List.append_assoc]
      have HONE : Hid (Calls Try.prog 41 #[.slice (some ⟨b, o + j * 3, none⟩) 1 (cq - j)] wr fun e w' => ∃ q m c2, e = .returned (.slice q m c2) ∧ OwnC w' wr.heap.size q m c2 [cs.getD j Cel.none] ∧ Below wr.heap.size wr w') := by
        have htl := HTX.out j hjl
        refine l2copy_any _ 1 _ [cs.getD j Cel.none] wr rfl (by simp only [tl, List.length_cons, List.length_nil]; omega) (CIn.part5 hcs j ⟨cs.drop (j + 1), ?_⟩)
        rw [List.drop_eq_getElem_cons hjl]; simp [List.getD, hjl]
      have HONE2 : Hid (Calls Try.prog 41 #[.slice (some ⟨b, o + j * 3, none⟩) 1 (cq - j)] wr.drew fun e w' => ∃ q m c2, e = .returned (.slice q m c2) ∧ OwnC w' wr.drew.heap.size q m c2 [cs.getD j Cel.none] ∧ Below wr.drew.heap.size wr.drew w') := by
        have htl := HTX.out j hjl
        refine l2copy_any _ 1 _ [cs.getD j Cel.none] wr.drew rfl (by simp only [tl, List.length_cons, List.length_nil]; omega) ((CIn.part5 hcs j ⟨cs.drop (j + 1), ?_⟩).below (below_drewU wr))
        rw [List.drop_eq_getElem_cons hjl]; simp [List.getD, hjl]
      clear hcs d3 d2
      by_cases hc0 : (cs.getD j Cel.none).1 = 0
      · rw [hc0] at d0
        have HIX := l5index_any sp sn sc bs (cs.getD j Cel.none).2.1 wr.drew HFS.out.1 (by have := HFS.out.2; omega) hms.bsr.up ((hms.lies.bdin hms.low).below (below_drewU wr))
        have HOd : Hid (OwnC wr.drew B rp m cr (ds ++ (cs.take j).flatMap (putC M))) := HO.out.below (below_drewU wr)
        have HBd : Hid (Below B w wr.drew) := HB.out.trans ((below_drewU wr).mono hBs)
        have hBd : B ≤ wr.drew.heap.size := hBs
        rcases hms.bsr.find (cs.getD j Cel.none).2.1 with ⟨k, u, hk, ef, hu, eu⟩ | ⟨ef, hu⟩
        · rw [ef] at HIX
          obtain ⟨sg, so, rfl, hbs⟩ := hms.lies (by omega)
          obtain ⟨qd, cd, y0, y1, y2, y3, y4⟩ := hbs k hk
          rw [eu] at y1 y2 y4
          have hput : putC M (cs.getD j Cel.none) = (tcs u).flatMap (putC M) := by
            unfold putC
            rw [if_pos hc0, hu]
            exact HU.out.2.1.full_flat u (HU.out.2.1.ok _ _ hu)
          rw [hput] at HDS
          have HREC := HVR.out j hjl hc0 u hu u qd (tcs u).length cd B wr.drew _ rp m cr (HU.out.2.1.ok _ _ hu) (HU.out.2.2 _ _ hu) ⟨rfl, y2, y3, y4⟩ (fun v hv _ => HU.out.1 _ _ hu v hv) (HLOW.out _ HBd.out) HMSB.out hBd HOd.out hm
          rw [← HDS.out] at HREC
          obtain ⟨ld, eld⟩ : ∃ l, l = (tcs u).length := ⟨_, rfl⟩
          rw [← eld] at y1 HREC
          have hkn : k < sn := by rw [HFS.out.1]; exact hk
          obtain ⟨vv, evv⟩ : ∃ v, v = (cs.getD j Cel.none).2.1 := ⟨_, rfl⟩
          rw [← evv] at d1 HIX
          have hsn : sn ≤ sc := hms.room
          have hsn2 : sn ≤ 20000 := HFS.out.2
          clear hbs y0 y2 y3 y4 hput eu hu ef eld evv hk hc0 HONE HONE2 hms
          go_wp2_with fail
          go_region_held3 (fun W => W = wr.drew) (rfl) ((go_at_call 40; refine HIX.mono ?_; rintro e w' ⟨rfl, rfl⟩))
          go_wp2_with fail
          refine HREC.mono ?_
          rintro e w3 ⟨hb3, ⟨hle, q3, m3, c3, rfl, ho3⟩ | ⟨hle, rfl⟩⟩
          · have HO3 : Hid (OwnC w3 B q3 m3 c3 (ds ++ (cs.take (j + 1)).flatMap (putC M))) := ho3
            have HB3 : Hid (Below B w w3) := HBd.out.trans hb3
            have hm3 : m3 ≤ 2000 := by rw [ho3.1]; exact hle
            clear ho3 hb3 HREC hle
            go_wp2_with fail
            go_roundw
            case rel => exact ⟨j + 1, _, m3, c3, by omega, hm3, by go_num, rfl, HO3, HB3⟩
            case measure => simp [intOf]; omega
          · have HF : Hid (WholeO B w (ds ++ (tcs t).flatMap (putC M)) (.returned (.tuple #[.slice none 0 0, .bool false])) w3) := HFIN3.out w3 (HBd.out.trans hb3) j hle
            clear hb3 HREC hle
            go_wp2_with fail
            go_ret2
            exact HF.out
        · rw [ef] at HIX
          have hput : putC M (cs.getD j Cel.none) = [cs.getD j Cel.none] := by
            unfold putC
            rw [if_pos hc0, hu]
          have HONED := HONE2.out
          rw [← hput] at HONED
          have HD1 : Hid ((putC M (cs.getD j Cel.none)).length = 1) := by show _ = _; rw [hput]; rfl
          obtain ⟨vv, evv⟩ : ∃ v, v = (cs.getD j Cel.none).2.1 := ⟨_, rfl⟩
          rw [← evv] at d1 HIX
          clear ef evv hc0 hput hu hms HONE HONE2
          have HONEd : Hid (Calls Try.prog 41 #[.slice (some ⟨b, o + j * 3, none⟩) 1 (cq - j)] wr.drew fun e w' => ∃ q m c2, e = .returned (.slice q m c2) ∧ OwnC w' wr.drew.heap.size q m c2 (putC M (cs.getD j Cel.none)) ∧ Below wr.drew.heap.size wr.drew w') := HONED
          go_wp2_with fail
          go_region_held3 (fun W => W = wr.drew) (rfl) ((go_at_call 40; refine HIX.mono ?_; rintro e w' ⟨rfl, rfl⟩))
          go_wp2_with fail
          refine HONEd.out.mono ?_
          rintro e w3 ⟨q3, m3, c3, rfl, ho3, hb3⟩
          obtain rfl : m3 = 1 := ho3.1.trans HD1.out
          have HO3 : Hid (OwnC w3 wr.drew.heap.size q3 1 c3 (putC M (cs.getD j Cel.none))) := ho3
          have HB3 : Hid (Below wr.drew.heap.size wr.drew w3) := hb3
          clear ho3 hb3 HONEd
          by_cases hbig : m + 1 ≤ 2000
          · go_wp2_with (at_builtin; refine app_cells wr.drew w3 rfl _ _ rfl B rp m cr _ rfl HOd.out HB3.out hBd q3 1 c3 _ rfl HO3.out (by decide) (by omega) ?_; intro g4 n4 cap4 w4 hown4 hb4 hn4; have hn4' : n4 ≤ 2000 := by have := hn4.out; omega)
            have HO4 : Hid (OwnC w4 B (some ⟨g4, 0, none⟩) n4 cap4 (ds ++ (cs.take (j + 1)).flatMap (putC M))) := by rw [HDS.out]; exact hown4
            have HB4 : Hid (Below B w w4) := (HBd.out.trans (HB3.out.mono hBd)).trans hb4
            clear hown4 hb4
            go_roundw
            case rel => exact ⟨j + 1, _, n4, cap4, by omega, hn4', by go_num, rfl, HO4, HB4⟩
            case measure => simp [intOf]; omega
          · go_wp2_with (at_builtin; refine app_cells wr.drew w3 rfl _ _ rfl B rp m cr _ rfl HOd.out HB3.out hBd q3 1 c3 _ rfl HO3.out (by decide) (by omega) ?_; intro g4 n4 cap4 w4 hown4 hb4 hn4; have hn4' : 2000 < n4 := by have := hn4.out; omega)
            go_ret2
            refine HFIN3.out w4 ((HBd.out.trans (HB3.out.mono hBd)).trans hb4) j ?_
            rw [HDS.out, ← hown4.1]; exact hn4'
      · have hput : putC M (cs.getD j Cel.none) = [cs.getD j Cel.none] := by
          unfold putC
          rw [if_neg hc0]
        rw [← hput] at HONE
        have HD1 : Hid ((putC M (cs.getD j Cel.none)).length = 1) := by show _ = _; rw [hput]; rfl
        obtain ⟨kd, ekd⟩ : ∃ v, v = (cs.getD j Cel.none).1 := ⟨_, rfl⟩
        rw [← ekd] at d0 hc0
        have hc0' : (kd == 0) = false := by simpa using hc0
        clear ekd hc0 d1 hput hms HONE2
        go_wp2_with fail
        refine HONE.out.mono ?_
        rintro e w3 ⟨q3, m3, c3, rfl, ho3, hb3⟩
        obtain rfl : m3 = 1 := ho3.1.trans HD1.out
        have HO3 : Hid (OwnC w3 wr.heap.size q3 1 c3 (putC M (cs.getD j Cel.none))) := ho3
        have HB3 : Hid (Below wr.heap.size wr w3) := hb3
        clear ho3 hb3 HONE
        by_cases hbig : m + 1 ≤ 2000
        · go_wp2_with (at_builtin; refine app_cells wr w3 rfl _ _ rfl B rp m cr _ rfl HO.out HB3.out hBs q3 1 c3 _ rfl HO3.out (by decide) (by omega) ?_; intro g4 n4 cap4 w4 hown4 hb4 hn4; have hn4' : n4 ≤ 2000 := by have := hn4.out; omega)
          have HO4 : Hid (OwnC w4 B (some ⟨g4, 0, none⟩) n4 cap4 (ds ++ (cs.take (j + 1)).flatMap (putC M))) := by rw [HDS.out]; exact hown4
          have HB4 : Hid (Below B w w4) := (HB.out.trans (HB3.out.mono hBs)).trans hb4
          clear hown4 hb4
          go_roundw
          case rel => exact ⟨j + 1, _, n4, cap4, by omega, hn4', by go_num, rfl, HO4, HB4⟩
          case measure => simp [intOf]; omega
        · go_wp2_with (at_builtin; refine app_cells wr w3 rfl _ _ rfl B rp m cr _ rfl HO.out HB3.out hBs q3 1 c3 _ rfl HO3.out (by decide) (by omega) ?_; intro g4 n4 cap4 w4 hown4 hb4 hn4; have hn4' : 2000 < n4 := by have := hn4.out; omega)
          go_ret2
          refine HFIN3.out w4 ((HB.out.trans (HB3.out.mono hBs)).trans hb4) j ?_
          rw [HDS.out, ← hown4.1]; exact hn4'
    · obtain rfl : j = n := by omega
      go_wp2_with fail
      go_ret2
      exact HFIN0.out _ _ _ _ HB.out HO.out hm
theorem whole_any (W0 Wp : World) (sb : Nat) (M : BM) (r : Int → Nat) (hac : Acyc M r) (hwf : WfU M) (hsm : ∀ x u, M x = some u → (tcs u).length ≤ 2000) (kk : Nat) (sp : Option Addr) (sn sc : Nat) (bs : List Bnd) (hs : MS W0 Wp sb M kk sp sn sc bs) (N : Nat) : WholeOk W0 Wp sb M r N := by
  induction N using Nat.strongRecOn with
  | _ N ih => exact whole_step W0 Wp sb M r hac hwf hsm kk sp sn sc bs hs N ih

end Go.Proofs.Ytedlcmkhbccjgaa

