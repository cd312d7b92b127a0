/- Texts of UniZ, Um9, UmA, UmP. Own work of the verifier. -/
import Derived.Test.YtaakpdakeolgeaaGreatUqbc
import Derived.Test.YtaakpdakeolgeaaGreatUqbh
import Derived.Test.YtaakpdakeolgeaaGreatUqau
namespace Go.Proofs.YtaakpdakeolgeaaGreat
open Go Go.RowKit
set_option linter.unusedVariables false
theorem run_wfU : ∀ (k : Nat) (M : BM) (st : List TT), WfU M → (∀ p ∈ st, p.1.fo.ok ∧ p.2.fo.ok) → ∀ M' n, runU 4 5 3 k M st = .ok (M', n) → WfU M'
  | k, M, [], h, _, M', n, e => by rw [runU_nil] at e; cases e; exact h
  | 0, M, p :: ps, h, _, M', n, e => by cases e
  | k + 1, M, p :: ps, hw, ho, M', n, e => by
    rw [runU] at e
    have hp := ho p (by simp)
    have oX := hw.end_ok hp.1 (hw.endB p.1)
    have oY := hw.end_ok hp.2 (hw.endB p.2)
    cases hs : stepE 4 5 M (endB M p.1) (endB M p.2) with
    | error c => rw [hs] at e; cases e
    | ok r =>
      obtain ⟨M1, qs⟩ := r
      rw [hs] at e
      simp only at e
      obtain ⟨w1, w2⟩ := hw.step (hw.endB p.1).last (hw.endB p.2).last oX oY hs
      exact run_wfU k M1 (qs ++ ps) w1 (fun q hq => by
        rcases List.mem_append.1 hq with hq | hq
        · exact w2 q hq
        · exact ho q (by simp [hq])) M' n e
theorem tl_le6 : ∀ cs : List Cel, (∀ c ∈ cs, c.2.2.length ≤ 100) → tl cs ≤ 100 * cs.length
  | [], _ => by simp [tl]
  | a :: r, h => by
    have h1 := tl_le6 r (fun c hc => h c (by simp [hc]))
    have h2 := h a (by simp)
    simp only [tl, List.length_cons]
    omega
theorem tll_le6 : ∀ css : List (List Cel), (∀ cs ∈ css, cs.length ≤ 2000 ∧ ∀ c ∈ cs, c.2.2.length ≤ 100) → tll css ≤ 202000 * css.length
  | [], _ => by simp [tll]
  | a :: r, h => by
    have h1 := tll_le6 r (fun c hc => h c (by simp [hc]))
    have h2 := h a (by simp)
    have h3 := tl_le6 a h2.2
    simp only [tll, List.length_cons]
    omega
theorem UniT.size {x y : Tr} (hx : x.fo.ok) (hy : y.fo.ok) {bs : List Bnd} {c : Int} (h : UniT x y bs c) : bs.length + tll (trm bs) ≤ 203000000 ∧ 0 ≤ c ∧ c ≤ 5 := by
  unfold UniT at h
  cases hr : runU 4 5 3 20000 (fun _ => none) [(x, y)] with
  | error d =>
    rw [hr] at h
    obtain ⟨rfl, rfl, h1, h2⟩ := h
    exact ⟨by simp [trm, tll], by omega, by omega⟩
  | ok r =>
    obtain ⟨M, n⟩ := r
    rw [hr] at h
    have hw := run_wfU 20000 _ _ WfU.zero (fun p hp => by rw [List.mem_singleton.1 hp]; exact ⟨hx, hy⟩) M n hr
    obtain ⟨ks, ha, hb⟩ := h
    by_cases hl : ks.length ≤ 1000 ∧ ∀ v ∈ ks, (bndU M v).2.length ≤ 2000
    · have e : bindR M ks = some (bndsU M ks) := by unfold bindR; rw [if_pos hl]
      rw [e] at hb
      obtain ⟨rfl, rfl⟩ := hb
      refine ⟨?_, by decide, by decide⟩
      have h1 := tll_le6 (trm (bndsU M ks)) (fun cs hcs => by
        obtain ⟨b, hb, rfl⟩ := List.mem_map.1 hcs
        obtain ⟨v, hv, rfl⟩ := List.mem_map.1 hb
        refine ⟨hl.2 v hv, fun c hc => ?_⟩
        obtain ⟨u, hu⟩ := Option.isSome_iff_exists.1 ((ha.2 v).1 hv)
        simp only [bndU, hu] at hc
        obtain ⟨g, hg⟩ := hw.full u (hw.ok _ _ hu)
        rw [fullC_eq hg] at hc
        exact fo_textU g.fo (hg.okF hw.ok (hw.ok _ _ hu)) c hc)
      have h2 : (bndsU M ks).length = ks.length := by simp [bndsU]
      rw [trm_len, h2] at h1
      rw [h2]
      omega
    · have e : bindR M ks = none := by unfold bindR; rw [if_neg hl]
      rw [e] at hb
      obtain ⟨rfl, rfl⟩ := hb
      exact ⟨by simp [trm, tll], by decide, by decide⟩
theorem UniIs.size {xs ys : List Cel} {bs : List Bnd} {c : Int} (h : UniIs xs ys bs c) : bs.length + tll (trm bs) ≤ 203000000 ∧ 0 ≤ c ∧ c ≤ 5 := by
  rcases h with ⟨_, _, a, k, a', k', _, _, h1, h2, h3⟩ | ⟨_, rfl, rfl⟩
  · exact UniT.size (x := (a, k)) (y := (a', k')) h1 h2 h3
  · exact ⟨by simp [trm, tll], by decide, by decide⟩
theorem UniIs.det {xs ys : List Cel} {bs bs' : List Bnd} {c c' : Int} (h : UniIs xs ys bs c) (h' : UniIs xs ys bs' c') : bs' = bs ∧ c' = c := by
  rcases h with ⟨v1, v2, a, k, b, m, ex, ey, h1, h2, h3⟩ | ⟨hn, rfl, rfl⟩
  · rcases h' with ⟨_, _, a', k', b', m', ex', ey', h1', h2', h3'⟩ | ⟨hn, _, _⟩
    · have e1 : Fo.node a k .nil = Fo.node a' k' .nil := (Fo.cells_inj _ _ [] [] h1 h1' rfl (by simp only [Fo.cells, List.append_nil]; rw [← ex, ← ex'])).1
      have e2 : Fo.node b m .nil = Fo.node b' m' .nil := (Fo.cells_inj _ _ [] [] h2 h2' rfl (by simp only [Fo.cells, List.append_nil]; rw [← ey, ← ey'])).1
      cases e1
      cases e2
      obtain ⟨g1, g2⟩ := h3.det h3'
      exact ⟨g1.symm, g2.symm⟩
    · exact absurd ⟨v1, v2⟩ hn
  · rcases h' with ⟨v1, v2, _⟩ | ⟨_, rfl, rfl⟩
    · exact absurd ⟨v1, v2⟩ hn
    · exact ⟨rfl, rfl⟩
end Go.Proofs.YtaakpdakeolgeaaGreat

namespace Go.Proofs.YtaakpdakeolgeaaGreat
open Go Go.RowKit
set_option linter.unusedVariables false
theorem grownB {w w' : World} {s : Nat} (h : Below w.heap.size w w') : w.grownBy w' (some s) := ⟨h.os, h.tape, h.output, h.size, fun k hk _ => h.block k hk⟩
set_option maxRecDepth 100000 in
set_option maxHeartbeats 2000000 in
theorem pair_zero (W0 : World) (sb : Nat) : PairOk W0 sb 0 := by
  intro M p n c bs x y qx qy mx cx my cy w hs hwf hsm ox oy lx ly hx hy
  have c1 := hs.prs
  have HF : Hid (PairO W0 sb (runU 4 5 3 0 M [(x, y)]) w (.returned (.int .i64 3)) w) := ⟨⟨by decide, by decide⟩, rfl, hs.low, .refl _ _⟩
  clear hs hwf hsm ox oy lx ly hx hy
  simp only [Nat.sub_zero] at c1
  go_enter Tryz.func23, Tryz.ntmps23
  go_wp2_with fail
  go_ret
  exact HF.out
theorem cell4 (w2 : World) (a0 a1 e0 e1 : Int) (tx ty : Option Addr) (lx tcx ly tcy : Nat) {p : Addr} {v : Value} (h : w2.cell? p = some v) : ((w2.alloc (.cells #[.int .i64 a0, .int .i64 a1, .slice tx lx tcx] 35)).alloc (.cells #[.int .i64 e0, .int .i64 e1, .slice ty ly tcy] 35)).cell? p = some v := Lib.cell?_alloc_marked _ (Lib.cell?_alloc_marked _ h)
set_option maxRecDepth 100000 in
set_option maxHeartbeats 2000000 in
theorem pair_var (W0 : World) (sb f : Nat) (hf : f + 1 ≤ 20000) (M : BM) (p : Option Addr) (n c : Nat) (bs : List Bnd) (x y : Tr) (qx qy : Option Addr) (mx cx my cy : Nat) (w : World) (hs : MS W0 w sb M (20000 - (f + 1)) p n c bs) (hwf : WfU M) (hsm : ∀ x u, M x = some u → (tcs u).length ≤ 2000) (ox : x.fo.ok) (oy : y.fo.ok) (lx : (tcs x).length ≤ 2000) (ly : (tcs y).length ≤ 2000) (hx : TIn W0 qx mx cx x) (hy : TIn W0 qy my cy y) (hvar : (endB M x).1.1 = 0 ∨ (endB M y).1.1 = 0) :
    Calls Tryz.prog 23 #[.pointer (some ⟨sb, 0, none⟩), .slice qx mx cx, .slice qy my cy] w (PairO W0 sb (runU 4 5 3 (f + 1) M [(x, y)]) w) := by
  obtain ⟨k, ek⟩ : ∃ k, k = 20000 - (f + 1) := ⟨_, rfl⟩
  rw [← ek] at hs
  have c1 := hs.prs
  have HNK : Hid (n ≤ k) := hs.few
  have fz := hs.free 1
  have hk : k < 20000 := by omega
  have hs1 := hs.tick hk
  obtain ⟨r, hac⟩ := hwf.acyc
  have HW1 := l5walk_any M r hac hwf.ok W0 sb (k + 1) p n c bs x (endB M x) qx mx cx _ hs1 ox hx (hwf.endB x)
  have HW2 : Hid (∀ W, Below _ _ W → Calls Tryz.prog 51 #[.pointer (some ⟨sb, 0, none⟩), .slice qy my cy] W (WalkO W0 (endB M y) W)) := fun W hW => l5walk_any M r hac hwf.ok W0 sb (k + 1) p n c bs y (endB M y) qy my cy W (hs1.below hW) oy hy (hwf.endB y)
  have HS1 : Hid _ := hs1
  obtain ⟨X, eX⟩ : ∃ X, X = endB M x := ⟨_, rfl⟩
  obtain ⟨Y, eY⟩ : ∃ Y, Y = endB M y := ⟨_, rfl⟩
  have HRUN : Hid (runU 4 5 3 (f + 1) M [(x, y)] = match stepE 4 5 M X Y with | .error c => .error c | .ok (M', qs) => runU 4 5 3 f M' qs) := by rw [eX, eY]; exact runU_one 4 5 3 f M x y
  rw [← eX] at HW1
  rw [← eY] at HW2
  have hkn : ((k + 1 : Nat) : Int) = (k : Int) + 1 := by omega
  rw [hkn] at HW1 HW2 HS1
  have HEK : Hid (k = 20000 - (f + 1)) := ek
  have HEX : Hid (X = endB M x ∧ Y = endB M y) := ⟨eX, eY⟩
  have HALL : Hid ((WfU M ∧ ∀ x u, M x = some u → (tcs u).length ≤ 2000) ∧ (x.fo.ok ∧ y.fo.ok) ∧ (tcs x).length ≤ 2000 ∧ (tcs y).length ≤ 2000) := ⟨⟨hwf, hsm⟩, ⟨ox, oy⟩, lx, ly⟩
  have HVAR : Hid (X.1.1 = 0 ∨ Y.1.1 = 0) := by rw [eX, eY]; exact hvar
  have HFB : Hid (f + 1 ≤ 20000) := hf
  clear hs hs1 hx hy ek eX eY hwf hsm ox oy lx ly hac hkn hvar hf
  go_enter Tryz.func23, Tryz.ntmps23
  go_wp2_with fail
  refine HW1.mono ?_
  rintro e w1 ⟨q1, m1, cc1, rfl, hX, hb1⟩
  go_wp2_with fail
  refine (HW2.out w1 hb1).mono ?_
  rintro e w2 ⟨q2, m2, cc2, rfl, hY, hb2⟩
  have HS2 : Hid (MS W0 w2 sb M (k + 1) p n c bs) := (HS1.out.below hb1).below hb2
  have HG2 : Hid (w.grownBy w2 (some sb)) := ((grown_setC w sb 1 _).andThen (grownB hb1) (fun j hj => .inr hj)).andThen (grownB hb2) (fun j hj => .inr hj)
  have HX : Hid (TIn W0 q1 m1 cc1 X ∧ X.fo.ok ∧ (tcs X).length ≤ 2000) := ⟨hX, by rw [HEX.out.1]; exact HALL.out.1.1.end_ok HALL.out.2.1.1 (HALL.out.1.1.endB x), by rw [HEX.out.1]; exact (HALL.out.1.1.endB x).small HALL.out.1.2 HALL.out.2.2.1⟩
  have HY : Hid (TIn W0 q2 m2 cc2 Y ∧ Y.fo.ok ∧ (tcs Y).length ≤ 2000) := ⟨hY, by rw [HEX.out.2]; exact HALL.out.1.1.end_ok HALL.out.2.1.2 (HALL.out.1.1.endB y), by rw [HEX.out.2]; exact (HALL.out.1.1.endB y).small HALL.out.1.2 HALL.out.2.2.2⟩
  have HUX : Hid (∀ v, IsV X v → M v = none) := by rw [HEX.out.1]; exact (HALL.out.1.1.endB x).last
  have HUY : Hid (∀ v, IsV Y v → M v = none) := by rw [HEX.out.2]; exact (HALL.out.1.1.endB y).last
  obtain ⟨b1, o1, rfl, hc1⟩ := hX.2.2.2 (tcs_pos X)
  obtain ⟨b2, o2, rfl, hc2⟩ := hY.2.2.2 (tcs_pos Y)
  obtain ⟨tx, tcx, x0, x1, x2, x3⟩ := hc1 0 (tcs_pos X)
  obtain ⟨ty, tcy, y0, y1, y2, y3⟩ := hc2 0 (tcs_pos Y)
  rw [tcs_head] at x0 x1 x2 x3 y0 y1 y2 y3
  simp only [Nat.zero_mul, Nat.add_zero] at x0 x1 x2 y0 y1 y2
  have HL2 := HS2.out.low
  have x0 := (HL2.cell (World.block_lt_of_cell? _ _ x0)).trans x0
  have x1 := (HL2.cell (World.block_lt_of_cell? _ _ x1)).trans x1
  have x2 := (HL2.cell (World.block_lt_of_cell? _ _ x2)).trans x2
  have y0 := (HL2.cell (World.block_lt_of_cell? _ _ y0)).trans y0
  have y1 := (HL2.cell (World.block_lt_of_cell? _ _ y1)).trans y1
  have y2 := (HL2.cell (World.block_lt_of_cell? _ _ y2)).trans y2
  have hm1 : (0 : Int) < (m1 : Int) := by have := hX.1; have := tcs_pos X; omega
  have hm2 : (0 : Int) < (m2 : Int) := by have := hY.1; have := tcs_pos Y; omega
  have hm1n : 0 < m1 := by omega
  have hm2n : 0 < m2 := by omega
  have HBX : Hid (BIn W0 tx X.1.2.2) := x3
  have HBY : Hid (BIn W0 ty Y.1.2.2) := y3
  have HLST : Hid (∀ W M', runU 4 5 3 (f + 1) M [(x, y)] = .ok (M', f) → WfU M' → (∀ x u, M' x = some u → (tcs u).length ≤ 2000) → (∃ p n c bs, MS W0 W sb M' (k + 1) p n c bs) → w.grownBy W (some sb) → PairO W0 sb (runU 4 5 3 (f + 1) M [(x, y)]) w (.returned (.int .i64 0)) W) := fun W M' h1 h2 h3 h4 h5 => by
    rw [h1]
    refine ⟨rfl, by have := HFB.out; omega, ?_, h2, h3, h5⟩
    rw [show 20000 - f = k + 1 by have := HEK.out; have := HFB.out; omega]; exact h4
  clear hX hY hb1 hb2 hc1 hc2 HL2 x3 y3 HW1 HW2 c1 fz HS1
  obtain ⟨a0, ea0⟩ : ∃ a, a = X.1.1 := ⟨_, rfl⟩
  obtain ⟨a1, ea1⟩ : ∃ a, a = X.1.2.1 := ⟨_, rfl⟩
  obtain ⟨e0, ee0⟩ : ∃ a, a = Y.1.1 := ⟨_, rfl⟩
  obtain ⟨e1, ee1⟩ : ∃ a, a = Y.1.2.1 := ⟨_, rfl⟩
  obtain ⟨lx, elx⟩ : ∃ a, a = X.1.2.2.length := ⟨_, rfl⟩
  obtain ⟨ly, ely⟩ : ∃ a, a = Y.1.2.2.length := ⟨_, rfl⟩
  rw [← ea0] at x0
  rw [← ea1] at x1
  rw [← elx] at x2
  rw [← ee0] at y0
  rw [← ee1] at y1
  rw [← ely] at y2
  have HAE : Hid ((a0 = X.1.1 ∧ a1 = X.1.2.1 ∧ lx = X.1.2.2.length) ∧ e0 = Y.1.1 ∧ e1 = Y.1.2.1 ∧ ly = Y.1.2.2.length) := ⟨⟨ea0, ea1, elx⟩, ee0, ee1, ely⟩
  clear ea0 ea1 ee0 ee1 elx ely
  obtain ⟨w3, ew3⟩ : ∃ w3, w3 = w2.alloc (.cells #[.int .i64 a0, .int .i64 a1, .slice tx lx tcx] 35) := ⟨_, rfl⟩
  have hb3 : Below w2.heap.size w2 w3 := by rw [ew3]; exact (Below.refl _ _).alloc (Nat.le_refl _) _
  have y0 := (hb3.cell (World.block_lt_of_cell? _ _ y0)).trans y0
  have y1 := (hb3.cell (World.block_lt_of_cell? _ _ y1)).trans y1
  have y2 := (hb3.cell (World.block_lt_of_cell? _ _ y2)).trans y2
  rw [ew3] at y0 y1 y2
  have hsz3 : w3.heap.size = w2.heap.size + 1 := by rw [ew3]; simp
  obtain ⟨w4, ew4⟩ : ∃ w4, w4 = w3.alloc (.cells #[.int .i64 e0, .int .i64 e1, .slice ty ly tcy] 35) := ⟨_, rfl⟩
  have hb4 : Below w3.heap.size w3 w4 := by rw [ew4]; exact (Below.refl _ _).alloc (Nat.le_refl _) _
  have HS4 : Hid (MS W0 w4 sb M (k + 1) p n c bs) := (HS2.out.below hb3).below hb4
  have HG4 : Hid (w.grownBy w4 (some sb)) := (HG2.out.andThen (grownB hb3) (fun j hj => .inr hj)).andThen (grownB hb4) (fun j hj => .inr hj)
  have HB4 : Hid (Below w2.heap.size w2 w4) := Below.on hb3 hb4
  rw [ew3] at ew4
  clear hb3 hb4 hsz3
  have HKX : Hid (n + 1 ≤ k + 1) := Nat.succ_le_succ HNK.out
  have HDONE : Hid (∀ W M', stepE 4 5 M X Y = .ok (M', []) → (∃ p n c bs, MS W0 W sb M' (k + 1) p n c bs) → w.grownBy W (some sb) → PairO W0 sb (runU 4 5 3 (f + 1) M [(x, y)]) w (.returned (.int .i64 0)) W) := fun W M' hst h4 h5 => by
    have h1 : runU 4 5 3 (f + 1) M [(x, y)] = .ok (M', f) := by rw [HRUN.out, hst]; exact runU_nil 4 5 3 f M'
    obtain ⟨w1', _⟩ := HALL.out.1.1.step HUX.out HUY.out HX.out.2.1 HY.out.2.1 hst
    obtain ⟨s1', _⟩ := step_small HALL.out.1.2 HX.out.2.2 HY.out.2.2 HX.out.2.1 hst
    exact HLST.out W M' h1 w1' s1' h4 h5
  have HERR : Hid (∀ W cde, stepE 4 5 M X Y = .error cde → Below W0.heap.size W0 W → w.grownBy W (some sb) → PairO W0 sb (runU 4 5 3 (f + 1) M [(x, y)]) w (.returned (.int .i64 cde)) W) := fun W cde hst h4 h5 => by
    have h1 : runU 4 5 3 (f + 1) M [(x, y)] = .error cde := by rw [HRUN.out, hst]
    have h2 := runU_codes _ _ _ _ h1
    rw [h1]
    exact ⟨h2, rfl, h4, h5⟩
  by_cases hx0 : X.1.1 = 0
  · have kx : (a0 == 0) = true := by rw [HAE.out.1.1]; simpa using hx0
    have HVX : Hid (IsV X a1) := by rw [HAE.out.1.2.1]; exact ok_var HX.out.2.1 hx0
    by_cases hy0 : Y.1.1 = 0
    · have ky : (e0 == 0) = true := by rw [HAE.out.2.1]; simpa using hy0
      have HVY : Hid (IsV Y e1) := by rw [HAE.out.2.2.1]; exact ok_var HY.out.2.1 hy0
      have HXY : Hid (X.1.1 = 0 ∧ Y.1.1 = 0) := ⟨hx0, hy0⟩
      clear hx0 hy0
      by_cases h1 : e1 < a1
      · have HBD := l5bind_any W0 sb M (k + 1) p n c bs a1 Y (some ⟨b2, o2, none⟩) m2 cc2 w4 HS4.out (HUX.out a1 HVX.out) HY.out.1 HKX.out
        have HST : Hid (stepE 4 5 M X Y = .ok (M.set a1 Y, [])) := by
          show _ = _
          unfold stepE
          rw [if_pos HXY.out, ← HAE.out.1.2.1, ← HAE.out.2.2.1, if_pos h1]
        rw [ew4] at HBD
        go_wp2_with fail
        refine HBD.mono ?_
        rintro e w5 ⟨rfl, hms, hg5⟩
        rw [← ew4] at hg5
        have HF : Hid (PairO W0 sb (runU 4 5 3 (f + 1) M [(x, y)]) w (.returned (.int .i64 0)) w5) := HDONE.out w5 (M.set a1 Y) HST.out hms (HG4.out.andThen hg5 (fun j hj => .inr hj))
        clear hms hg5 HBD
        go_wp2_with fail
        go_ret
        exact HF.out
      · by_cases h2 : a1 < e1
        · have HBD := l5bind_any W0 sb M (k + 1) p n c bs e1 X (some ⟨b1, o1, none⟩) m1 cc1 w4 HS4.out (HUY.out e1 HVY.out) HX.out.1 HKX.out
          have HST : Hid (stepE 4 5 M X Y = .ok (M.set e1 X, [])) := by
            show _ = _
            unfold stepE
            rw [if_pos HXY.out, ← HAE.out.1.2.1, ← HAE.out.2.2.1, if_neg h1, if_pos h2]
          rw [ew4] at HBD
          go_wp2_with fail
          refine HBD.mono ?_
          rintro e w5 ⟨rfl, hms, hg5⟩
          rw [← ew4] at hg5
          have HF : Hid (PairO W0 sb (runU 4 5 3 (f + 1) M [(x, y)]) w (.returned (.int .i64 0)) w5) := HDONE.out w5 (M.set e1 X) HST.out hms (HG4.out.andThen hg5 (fun j hj => .inr hj))
          clear hms hg5 HBD
          go_wp2_with fail
          go_ret
          exact HF.out
        · have HST : Hid (stepE 4 5 M X Y = .ok (M, [])) := by
            show _ = _
            unfold stepE
            rw [if_pos HXY.out, ← HAE.out.1.2.1, ← HAE.out.2.2.1, if_neg h1, if_neg h2]
          have HF : Hid (PairO W0 sb (runU 4 5 3 (f + 1) M [(x, y)]) w (.returned (.int .i64 0)) w4) := HDONE.out w4 M HST.out ⟨p, n, c, bs, HS4.out⟩ HG4.out
          rw [ew4] at HF
          go_wp2_with fail
          go_ret
          exact HF.out
    · have ky : (e0 == 0) = false := by rw [HAE.out.2.1]; simpa using hy0
      have HSTD := l5stands_any M W0 sb (k + 1) p n c bs a1 Y (some ⟨b2, o2, none⟩) m2 cc2 w4 HS4.out HALL.out.1.2 HY.out.2.2 HY.out.1
      have HST1 : Hid (Reach M Y a1 → stepE 4 5 M X Y = .error 5) := fun h => by
        unfold stepE
        rw [if_neg (fun h => hy0 h.2), if_pos hx0, ← HAE.out.1.2.1, if_pos h]
      have HST2 : Hid (¬ Reach M Y a1 → stepE 4 5 M X Y = .ok (M.set a1 Y, [])) := fun h => by
        unfold stepE
        rw [if_neg (fun h => hy0 h.2), if_pos hx0, ← HAE.out.1.2.1, if_neg h]
      have xc1 : w4.cell? ⟨w2.heap.size, 1, none⟩ = some (.int .i64 a1) := by rw [ew4]; simp [World.cell?_alloc_new, Lib.cell?_alloc_marked]
      clear hx0 hy0
      rw [ew4] at HSTD
      go_wp2_with fail
      refine HSTD.mono ?_
      rintro e w5 ⟨R, rfl, hR, hb5⟩
      rw [← ew4] at hb5
      have xc5 := (hb5.cell (World.block_lt_of_cell? _ _ xc1)).trans xc1
      have HS5 : Hid (MS W0 w5 sb M (k + 1) p n c bs) := HS4.out.below hb5
      have HG5 : Hid (w.grownBy w5 (some sb)) := HG4.out.andThen (grownB hb5) (fun j hj => .inr hj)
      cases R with
      | true =>
        have HF : Hid (PairO W0 sb (runU 4 5 3 (f + 1) M [(x, y)]) w (.returned (.int .i64 5)) w5) := HERR.out w5 5 (HST1.out (hR.1 rfl)) HS5.out.low HG5.out
        clear hR hb5 HSTD
        go_wp2_with fail
        go_ret
        exact HF.out
      | false =>
        have HST : Hid (stepE 4 5 M X Y = .ok (M.set a1 Y, [])) := HST2.out (fun h => by have := hR.2 h; cases this)
        have HBD := l5bind_any W0 sb M (k + 1) p n c bs a1 Y (some ⟨b2, o2, none⟩) m2 cc2 w5 HS5.out (HUX.out a1 HVX.out) HY.out.1 HKX.out
        clear hR hb5 HSTD
        go_wp2_with fail
        refine HBD.mono ?_
        rintro e w6 ⟨rfl, hms, hg6⟩
        have HF : Hid (PairO W0 sb (runU 4 5 3 (f + 1) M [(x, y)]) w (.returned (.int .i64 0)) w6) := HDONE.out w6 (M.set a1 Y) HST.out hms (HG5.out.andThen hg6 (fun j hj => .inr hj))
        clear hms hg6 HBD
        go_wp2_with fail
        go_ret
        exact HF.out
  · have kx : (a0 == 0) = false := by rw [HAE.out.1.1]; simpa using hx0
    by_cases hy0 : Y.1.1 = 0
    · have ky : (e0 == 0) = true := by rw [HAE.out.2.1]; simpa using hy0
      have HVY : Hid (IsV Y e1) := by rw [HAE.out.2.2.1]; exact ok_var HY.out.2.1 hy0
      have HST1 : Hid (Reach M X e1 → stepE 4 5 M X Y = .error 5) := fun h => by
        unfold stepE
        rw [if_neg (fun h => hx0 h.1), if_neg hx0, if_pos hy0, ← HAE.out.2.2.1, if_pos h]
      have HST2 : Hid (¬ Reach M X e1 → stepE 4 5 M X Y = .ok (M.set e1 X, [])) := fun h => by
        unfold stepE
        rw [if_neg (fun h => hx0 h.1), if_neg hx0, if_pos hy0, ← HAE.out.2.2.1, if_neg h]
      have z0 := cell4 w2 e0 e1 e0 e1 ty ty ly tcy ly tcy x0
      have z1 := cell4 w2 e0 e1 e0 e1 ty ty ly tcy ly tcy x1
      have z2 := cell4 w2 e0 e1 e0 e1 ty ty ly tcy ly tcy x2
      have v0 := Lib.cell?_alloc_marked (.cells #[.int .i64 e0, .int .i64 e1, .slice ty ly tcy] 35) y0
      have v1 := Lib.cell?_alloc_marked (.cells #[.int .i64 e0, .int .i64 e1, .slice ty ly tcy] 35) y1
      have v2 := Lib.cell?_alloc_marked (.cells #[.int .i64 e0, .int .i64 e1, .slice ty ly tcy] 35) y2
      obtain ⟨u4, eu4⟩ : ∃ u4, u4 = (w2.alloc (.cells #[.int .i64 e0, .int .i64 e1, .slice ty ly tcy] 35)).alloc (.cells #[.int .i64 a0, .int .i64 a1, .slice tx lx tcx] 35) := ⟨_, rfl⟩
      have hbu : Below w2.heap.size w2 u4 := by rw [eu4]; exact ((Below.refl _ _).alloc (Nat.le_refl _) _).alloc (by simp) _
      have HSU : Hid (MS W0 u4 sb M (k + 1) p n c bs) := HS2.out.below hbu
      have HGU : Hid (w.grownBy u4 (some sb)) := HG2.out.andThen (grownB hbu) (fun j hj => .inr hj)
      have HSTD := l5stands_any M W0 sb (k + 1) p n c bs e1 X (some ⟨b1, o1, none⟩) m1 cc1 u4 HSU.out HALL.out.1.2 HX.out.2.2 HX.out.1
      have xc1 : u4.cell? ⟨w2.heap.size, 1, none⟩ = some (.int .i64 e1) := by rw [eu4]; simp [World.cell?_alloc_new, Lib.cell?_alloc_marked]
      clear hx0 hy0 hbu
      rw [eu4] at HSTD
      go_wp2_with fail
      refine HSTD.mono ?_
      rintro e w5 ⟨R, rfl, hR, hb5⟩
      rw [← eu4] at hb5
      have xc5 := (hb5.cell (World.block_lt_of_cell? _ _ xc1)).trans xc1
      have HS5 : Hid (MS W0 w5 sb M (k + 1) p n c bs) := HSU.out.below hb5
      have HG5 : Hid (w.grownBy w5 (some sb)) := HGU.out.andThen (grownB hb5) (fun j hj => .inr hj)
      cases R with
      | true =>
        have HF : Hid (PairO W0 sb (runU 4 5 3 (f + 1) M [(x, y)]) w (.returned (.int .i64 5)) w5) := HERR.out w5 5 (HST1.out (hR.1 rfl)) HS5.out.low HG5.out
        clear hR hb5 HSTD
        go_wp2_with fail
        go_ret
        exact HF.out
      | false =>
        have HST : Hid (stepE 4 5 M X Y = .ok (M.set e1 X, [])) := HST2.out (fun h => by have := hR.2 h; cases this)
        have HBD := l5bind_any W0 sb M (k + 1) p n c bs e1 X (some ⟨b1, o1, none⟩) m1 cc1 w5 HS5.out (HUY.out e1 HVY.out) HX.out.1 HKX.out
        clear hR hb5 HSTD
        go_wp2_with fail
        refine HBD.mono ?_
        rintro e w6 ⟨rfl, hms, hg6⟩
        have HF : Hid (PairO W0 sb (runU 4 5 3 (f + 1) M [(x, y)]) w (.returned (.int .i64 0)) w6) := HDONE.out w6 (M.set e1 X) HST.out hms (HG5.out.andThen hg6 (fun j hj => .inr hj))
        clear hms hg6 HBD
        go_wp2_with fail
        go_ret
        exact HF.out
    · exact absurd HVAR.out (fun h => h.elim hx0 hy0)
end Go.Proofs.YtaakpdakeolgeaaGreat

namespace Go.Proofs.YtaakpdakeolgeaaGreat
open Go Go.RowKit
set_option linter.unusedVariables false
def ArgsIn (W0 W : World) (B : Nat) (q : Option Addr) (m : Nat) (ts : List Tr) : Prop := m = ts.length ∧ (0 < m → ∃ g, q = some ⟨g, 0, none⟩ ∧ B ≤ g ∧ ∀ i t, ts[i]? = some t → ∃ pq nq cq, W.cell? ⟨g, i, none⟩ = some (.slice pq nq cq) ∧ TIn W0 pq nq cq t)
theorem ArgsIn.kept {W0 W W' : World} {B sb : Nat} {q : Option Addr} {m : Nat} {ts : List Tr} (h : ArgsIn W0 W B q m ts) (hg : W.grownBy W' (some sb)) (hs : sb < B) : ArgsIn W0 W' B q m ts := ⟨h.1, fun h0 => by
  obtain ⟨g, e, hB, hc⟩ := h.2 h0
  refine ⟨g, e, hB, fun i t hi => ?_⟩
  obtain ⟨pq, nq, cq, h1, h2⟩ := hc i t hi
  refine ⟨pq, nq, cq, ?_, h2⟩
  rw [World.cell?_of_block (hg.block g (World.block_lt_of_cell? _ _ h1) (fun e => by cases e; omega))]
  exact h1⟩
theorem ArgsIn.mono {W0 W : World} {B B' : Nat} {q : Option Addr} {m : Nat} {ts : List Tr} (h : ArgsIn W0 W B q m ts) (hs : B' ≤ B) : ArgsIn W0 W B' q m ts := ⟨h.1, fun h0 => by
  obtain ⟨g, e, hB, hc⟩ := h.2 h0
  exact ⟨g, e, Nat.le_trans hs hB, hc⟩⟩
theorem rowU_at {w : World} {B m mc : Nat} {q : Option Addr} {rs : List (Option Addr × Nat × Nat)} {ts : List Tr} {w0 : World} (hr : w.ownsRow B 23 1 (.slice q m mc) m (rs.map slV)) (hm : m = ts.length) (ha : ArgRowU w0 rs ts) : ArgsIn w0 w B q m ts := by
  refine ⟨hm, fun h0 => ?_⟩
  obtain ⟨g, cap, hv, hB, _⟩ := hr.form h0
  cases hv
  refine ⟨g, rfl, hB, fun i t hi => ?_⟩
  have hlt : i < m := by rw [hm]; exact (List.getElem?_eq_some_iff.1 hi).1
  have hc := hr.cellAt i (by omega)
  have key : ∀ (rs : List (Option Addr × Nat × Nat)) (ts : List Tr) (i : Nat), ArgRowU w0 rs ts → ts[i]? = some t → ∃ r, rs[i]? = some r ∧ r.2.1 = 1 + t.2.cells.length ∧ r.2.1 ≤ r.2.2 ∧ r.2.2 ≤ 9223372036854775807 ∧ CIn w0 r.1 (t.1 :: t.2.cells) := by
    intro rs
    induction rs with
    | nil =>
      intro ts i ha hi
      cases ts with
      | nil => cases hi
      | cons t ts => exact ha.elim
    | cons r rs ih =>
      intro ts i ha hi
      cases ts with
      | nil => cases hi
      | cons t' ts =>
        cases i with
        | zero =>
          simp only [List.getElem?_cons_zero, Option.some.injEq] at hi
          subst hi
          exact ⟨r, rfl, ha.1, ha.2.1, ha.2.2.1, ha.2.2.2.1⟩
        | succ i => exact ih ts i ha.2.2.2.2 (by simpa using hi)
  obtain ⟨⟨pq, nq, cq⟩, h1, h2, h3, h4, h5⟩ := key rs ts i ha hi
  refine ⟨pq, nq, cq, ?_, by simp only [tcs, List.length_cons]; simp only at h2; omega, h3, h4, h5⟩
  rw [hc, List.getElem?_map, h1]; rfl
theorem args_any (W0 w : World) (hW : Below W0.heap.size W0 w) (t : Tr) (q : Option Addr) (n c : Nat) (ht : t.fo.ok) (hl : (tcs t).length ≤ 2000) (hin : TIn W0 q n c t) :
    Calls Tryz.prog 54 #[.slice q n c] w fun e w' => ∃ p m mc, e = .returned (.slice p m mc) ∧ ArgsIn W0 w' w.heap.size p m (trs t.2) ∧ Below w.heap.size w w' := by
  obtain ⟨cl, k⟩ := t
  by_cases h3 : cl.1 = 3
  · refine (l2argsU_any cl k q n c W0 w hW h3 ht hin.1 (by rw [hin.1]; exact hl) hin.2.1 hin.2.2.1 hin.2.2.2).mono ?_
    rintro e w' ⟨p, m, mc, rs, rfl, hm, hrow, harg, hb⟩
    exact ⟨p, m, mc, rfl, rowU_at hrow (by rw [hm, trs_len]) harg, hb⟩
  · refine (l2args_leaf cl k q n c w h3 hin.1 (by rw [hin.1]; exact hl) (hin.2.2.2.below hW)).mono ?_
    rintro e w' ⟨rfl, rfl⟩
    have hk : k = .nil := ht.2.2.2.1 h3
    subst hk
    exact ⟨none, 0, 0, rfl, ⟨rfl, fun h => absurd h (by decide)⟩, Below.refl _ _⟩
end Go.Proofs.YtaakpdakeolgeaaGreat

namespace Go.Proofs.YtaakpdakeolgeaaGreat
open Go Go.RowKit
set_option linter.unusedVariables false
set_option maxRecDepth 100000 in
set_option maxHeartbeats 2000000 in
theorem pair_next (W0 : World) (sb f : Nat) (hf : f + 1 ≤ 20000) (ih : ∀ f', f' ≤ f → PairOk W0 sb f') (M : BM) (p : Option Addr) (n c : Nat) (bs : List Bnd) (x y : Tr) (qx qy : Option Addr) (mx cx my cy : Nat) (w : World) (hs : MS W0 w sb M (20000 - (f + 1)) p n c bs) (hwf : WfU M) (hsm : ∀ x u, M x = some u → (tcs u).length ≤ 2000) (ox : x.fo.ok) (oy : y.fo.ok) (lx : (tcs x).length ≤ 2000) (ly : (tcs y).length ≤ 2000) (hx : TIn W0 qx mx cx x) (hy : TIn W0 qy my cy y) (hnv : (endB M x).1.1 ≠ 0 ∧ (endB M y).1.1 ≠ 0) :
    Calls Tryz.prog 23 #[.pointer (some ⟨sb, 0, none⟩), .slice qx mx cx, .slice qy my cy] w (PairO W0 sb (runU 4 5 3 (f + 1) M [(x, y)]) w) := by
  obtain ⟨k, ek⟩ : ∃ k, k = 20000 - (f + 1) := ⟨_, rfl⟩
  rw [← ek] at hs
  have c1 := hs.prs
  have HNK : Hid (n ≤ k) := hs.few
  have fz := hs.free 1
  have hk : k < 20000 := by omega
  have hs1 := hs.tick hk
  obtain ⟨r, hac⟩ := hwf.acyc
  have HW1 := l5walk_any M r hac hwf.ok W0 sb (k + 1) p n c bs x (endB M x) qx mx cx _ hs1 ox hx (hwf.endB x)
  have HW2 : Hid (∀ W, Below _ _ W → Calls Tryz.prog 51 #[.pointer (some ⟨sb, 0, none⟩), .slice qy my cy] W (WalkO W0 (endB M y) W)) := fun W hW => l5walk_any M r hac hwf.ok W0 sb (k + 1) p n c bs y (endB M y) qy my cy W (hs1.below hW) oy hy (hwf.endB y)
  have HS1 : Hid _ := hs1
  obtain ⟨X, eX⟩ : ∃ X, X = endB M x := ⟨_, rfl⟩
  obtain ⟨Y, eY⟩ : ∃ Y, Y = endB M y := ⟨_, rfl⟩
  have HRUN : Hid (runU 4 5 3 (f + 1) M [(x, y)] = match stepE 4 5 M X Y with | .error c => .error c | .ok (M', qs) => runU 4 5 3 f M' qs) := by rw [eX, eY]; exact runU_one 4 5 3 f M x y
  rw [← eX] at HW1
  rw [← eY] at HW2
  have hkn : ((k + 1 : Nat) : Int) = (k : Int) + 1 := by omega
  rw [hkn] at HW1 HW2 HS1
  have HEK : Hid (k = 20000 - (f + 1)) := ek
  have HEX : Hid (X = endB M x ∧ Y = endB M y) := ⟨eX, eY⟩
  have HALL : Hid ((WfU M ∧ ∀ x u, M x = some u → (tcs u).length ≤ 2000) ∧ (x.fo.ok ∧ y.fo.ok) ∧ (tcs x).length ≤ 2000 ∧ (tcs y).length ≤ 2000) := ⟨⟨hwf, hsm⟩, ⟨ox, oy⟩, lx, ly⟩
  have HVAR : Hid (X.1.1 ≠ 0 ∧ Y.1.1 ≠ 0) := by rw [eX, eY]; exact hnv
  have HREC : Hid (∀ f', f' ≤ f → PairOk W0 sb f') := ih
  have HFB : Hid (f + 1 ≤ 20000) := hf
  clear hs hs1 hx hy ek eX eY hwf hsm ox oy lx ly hac hkn hnv hf ih
  go_enter Tryz.func23, Tryz.ntmps23
  go_wp2_with fail
  refine HW1.mono ?_
  rintro e w1 ⟨q1, m1, cc1, rfl, hX, hb1⟩
  go_wp2_with fail
  refine (HW2.out w1 hb1).mono ?_
  rintro e w2 ⟨q2, m2, cc2, rfl, hY, hb2⟩
  have HS2 : Hid (MS W0 w2 sb M (k + 1) p n c bs) := (HS1.out.below hb1).below hb2
  have HG2 : Hid (w.grownBy w2 (some sb)) := ((grown_setC w sb 1 _).andThen (grownB hb1) (fun j hj => .inr hj)).andThen (grownB hb2) (fun j hj => .inr hj)
  have HX : Hid (TIn W0 q1 m1 cc1 X ∧ X.fo.ok ∧ (tcs X).length ≤ 2000) := ⟨hX, by rw [HEX.out.1]; exact HALL.out.1.1.end_ok HALL.out.2.1.1 (HALL.out.1.1.endB x), by rw [HEX.out.1]; exact (HALL.out.1.1.endB x).small HALL.out.1.2 HALL.out.2.2.1⟩
  have HY : Hid (TIn W0 q2 m2 cc2 Y ∧ Y.fo.ok ∧ (tcs Y).length ≤ 2000) := ⟨hY, by rw [HEX.out.2]; exact HALL.out.1.1.end_ok HALL.out.2.1.2 (HALL.out.1.1.endB y), by rw [HEX.out.2]; exact (HALL.out.1.1.endB y).small HALL.out.1.2 HALL.out.2.2.2⟩
  have HUX : Hid (∀ v, IsV X v → M v = none) := by rw [HEX.out.1]; exact (HALL.out.1.1.endB x).last
  have HUY : Hid (∀ v, IsV Y v → M v = none) := by rw [HEX.out.2]; exact (HALL.out.1.1.endB y).last
  obtain ⟨b1, o1, rfl, hc1⟩ := hX.2.2.2 (tcs_pos X)
  obtain ⟨b2, o2, rfl, hc2⟩ := hY.2.2.2 (tcs_pos Y)
  obtain ⟨tx, tcx, x0, x1, x2, x3⟩ := hc1 0 (tcs_pos X)
  obtain ⟨ty, tcy, y0, y1, y2, y3⟩ := hc2 0 (tcs_pos Y)
  rw [tcs_head] at x0 x1 x2 x3 y0 y1 y2 y3
  simp only [Nat.zero_mul, Nat.add_zero] at x0 x1 x2 y0 y1 y2
  have HL2 := HS2.out.low
  have x0 := (HL2.cell (World.block_lt_of_cell? _ _ x0)).trans x0
  have x1 := (HL2.cell (World.block_lt_of_cell? _ _ x1)).trans x1
  have x2 := (HL2.cell (World.block_lt_of_cell? _ _ x2)).trans x2
  have y0 := (HL2.cell (World.block_lt_of_cell? _ _ y0)).trans y0
  have y1 := (HL2.cell (World.block_lt_of_cell? _ _ y1)).trans y1
  have y2 := (HL2.cell (World.block_lt_of_cell? _ _ y2)).trans y2
  have hm1 : (0 : Int) < (m1 : Int) := by have := hX.1; have := tcs_pos X; omega
  have hm2 : (0 : Int) < (m2 : Int) := by have := hY.1; have := tcs_pos Y; omega
  have hm1n : 0 < m1 := by omega
  have hm2n : 0 < m2 := by omega
  have HBX : Hid (BIn W0 tx X.1.2.2) := x3
  have HBY : Hid (BIn W0 ty Y.1.2.2) := y3
  have HLST : Hid (∀ W M', runU 4 5 3 (f + 1) M [(x, y)] = .ok (M', f) → WfU M' → (∀ x u, M' x = some u → (tcs u).length ≤ 2000) → (∃ p n c bs, MS W0 W sb M' (k + 1) p n c bs) → w.grownBy W (some sb) → PairO W0 sb (runU 4 5 3 (f + 1) M [(x, y)]) w (.returned (.int .i64 0)) W) := fun W M' h1 h2 h3 h4 h5 => by
    rw [h1]
    refine ⟨rfl, by have := HFB.out; omega, ?_, h2, h3, h5⟩
    rw [show 20000 - f = k + 1 by have := HEK.out; have := HFB.out; omega]; exact h4
  clear hX hY hb1 hb2 hc1 hc2 HL2 x3 y3 HW1 HW2 c1 fz HS1
  obtain ⟨a0, ea0⟩ : ∃ a, a = X.1.1 := ⟨_, rfl⟩
  obtain ⟨a1, ea1⟩ : ∃ a, a = X.1.2.1 := ⟨_, rfl⟩
  obtain ⟨e0, ee0⟩ : ∃ a, a = Y.1.1 := ⟨_, rfl⟩
  obtain ⟨e1, ee1⟩ : ∃ a, a = Y.1.2.1 := ⟨_, rfl⟩
  obtain ⟨lx, elx⟩ : ∃ a, a = X.1.2.2.length := ⟨_, rfl⟩
  obtain ⟨ly, ely⟩ : ∃ a, a = Y.1.2.2.length := ⟨_, rfl⟩
  rw [← ea0] at x0
  rw [← ea1] at x1
  rw [← elx] at x2
  rw [← ee0] at y0
  rw [← ee1] at y1
  rw [← ely] at y2
  have HAE : Hid ((a0 = X.1.1 ∧ a1 = X.1.2.1 ∧ lx = X.1.2.2.length) ∧ e0 = Y.1.1 ∧ e1 = Y.1.2.1 ∧ ly = Y.1.2.2.length) := ⟨⟨ea0, ea1, elx⟩, ee0, ee1, ely⟩
  clear ea0 ea1 ee0 ee1 elx ely
  obtain ⟨w3, ew3⟩ : ∃ w3, w3 = w2.alloc (.cells #[.int .i64 a0, .int .i64 a1, .slice tx lx tcx] 35) := ⟨_, rfl⟩
  have hb3 : Below w2.heap.size w2 w3 := by rw [ew3]; exact (Below.refl _ _).alloc (Nat.le_refl _) _
  have y0 := (hb3.cell (World.block_lt_of_cell? _ _ y0)).trans y0
  have y1 := (hb3.cell (World.block_lt_of_cell? _ _ y1)).trans y1
  have y2 := (hb3.cell (World.block_lt_of_cell? _ _ y2)).trans y2
  rw [ew3] at y0 y1 y2
  have hsz3 : w3.heap.size = w2.heap.size + 1 := by rw [ew3]; simp
  obtain ⟨w4, ew4⟩ : ∃ w4, w4 = w3.alloc (.cells #[.int .i64 e0, .int .i64 e1, .slice ty ly tcy] 35) := ⟨_, rfl⟩
  have hb4 : Below w3.heap.size w3 w4 := by rw [ew4]; exact (Below.refl _ _).alloc (Nat.le_refl _) _
  have HS4 : Hid (MS W0 w4 sb M (k + 1) p n c bs) := (HS2.out.below hb3).below hb4
  have HG4 : Hid (w.grownBy w4 (some sb)) := (HG2.out.andThen (grownB hb3) (fun j hj => .inr hj)).andThen (grownB hb4) (fun j hj => .inr hj)
  have HB4 : Hid (Below w2.heap.size w2 w4) := Below.on hb3 hb4
  rw [ew3] at ew4
  clear hb3 hb4 hsz3
  have HKX : Hid (n + 1 ≤ k + 1) := Nat.succ_le_succ HNK.out
  have HDONE : Hid (∀ W M', stepE 4 5 M X Y = .ok (M', []) → (∃ p n c bs, MS W0 W sb M' (k + 1) p n c bs) → w.grownBy W (some sb) → PairO W0 sb (runU 4 5 3 (f + 1) M [(x, y)]) w (.returned (.int .i64 0)) W) := fun W M' hst h4 h5 => by
    have h1 : runU 4 5 3 (f + 1) M [(x, y)] = .ok (M', f) := by rw [HRUN.out, hst]; exact runU_nil 4 5 3 f M'
    obtain ⟨w1', _⟩ := HALL.out.1.1.step HUX.out HUY.out HX.out.2.1 HY.out.2.1 hst
    obtain ⟨s1', _⟩ := step_small HALL.out.1.2 HX.out.2.2 HY.out.2.2 HX.out.2.1 hst
    exact HLST.out W M' h1 w1' s1' h4 h5
  have HERR : Hid (∀ W cde, stepE 4 5 M X Y = .error cde → Below W0.heap.size W0 W → w.grownBy W (some sb) → PairO W0 sb (runU 4 5 3 (f + 1) M [(x, y)]) w (.returned (.int .i64 cde)) W) := fun W cde hst h4 h5 => by
    have h1 : runU 4 5 3 (f + 1) M [(x, y)] = .error cde := by rw [HRUN.out, hst]
    have h2 := runU_codes _ _ _ _ h1
    rw [h1]
    exact ⟨h2, rfl, h4, h5⟩
  obtain ⟨hx0, hy0⟩ := HVAR.out
  have kx : (a0 == 0) = false := by rw [HAE.out.1.1]; simpa using hx0
  have ky : (e0 == 0) = false := by rw [HAE.out.2.1]; simpa using hy0
  have HSTE : Hid (stepE 4 5 M X Y = if X.1 = Y.1 then .ok (M, (trs X.2).zip (trs Y.2)) else .error 4) := by
    show _ = _
    unfold stepE
    rw [if_neg (fun h => hx0 h.1), if_neg hx0, if_neg hy0]
  obtain ⟨sx, esx⟩ : ∃ s, s = strOfNums X.1.2.2 := ⟨_, rfl⟩
  obtain ⟨sy, esy⟩ : ∃ s, s = strOfNums Y.1.2.2 := ⟨_, rfl⟩
  have HXL : Hid (lx = X.1.2.2.length) := HAE.out.1.2.2
  have HYL : Hid (ly = Y.1.2.2.length) := HAE.out.2.2.2
  have cvx : (convert 22 9 (.slice tx lx tcx)).run Tryz.prog w4 = .ok (.string sx) w4 := by rw [esx]; exact conv_str (HBX.out.below HS4.out.low) lx tcx HXL.out 9 Tryz.underlying9
  have cvy : (convert 22 9 (.slice ty ly tcy)).run Tryz.prog w4 = .ok (.string sy) w4 := by rw [esy]; exact conv_str (HBY.out.below HS4.out.low) ly tcy HYL.out 9 Tryz.underlying9
  rw [ew4] at cvx cvy
  clear hx0 hy0
  by_cases hE : X.1 = Y.1
  · have h0 : e0 = a0 := by rw [HAE.out.1.1, HAE.out.2.1, hE]
    have h1 : e1 = a1 := by rw [HAE.out.1.2.1, HAE.out.2.2.1, hE]
    have hs : sy = sx := by rw [esx, esy, hE]
    have HST : Hid (runU 4 5 3 (f + 1) M [(x, y)] = runU 4 5 3 f M ((trs X.2).zip (trs Y.2))) := by show _ = _; rw [HRUN.out, HSTE.out, if_pos hE]
    have HCN : Hid ((trs X.2).length = (trs Y.2).length) := by
      show _ = _
      have oX := HX.out.2.1
      have oY := HY.out.2.1
      rw [trs_len, trs_len]
      by_cases h3 : X.1.1 = 3
      · have g1 := oX.2.2.1 h3
        have g2 := oY.2.2.1 (by rw [← hE]; exact h3)
        rw [hE] at g1
        omega
      · rw [oX.2.2.2.1 h3, oY.2.2.2.1 (by rw [← hE]; exact h3)]
    have HA1 := args_any W0 w4 HS4.out.low X (some ⟨b1, o1, none⟩) m1 cc1 HX.out.2.1 HX.out.2.2 HX.out.1
    have HA2 : Hid (∀ W, Below w4.heap.size w4 W → Calls Tryz.prog 54 #[.slice (some ⟨b2, o2, none⟩) m2 cc2] W fun e w' => ∃ p m mc, e = .returned (.slice p m mc) ∧ ArgsIn W0 w' W.heap.size p m (trs Y.2) ∧ Below W.heap.size W w') := fun W hW => args_any W0 W (Below.on HS4.out.low hW) Y (some ⟨b2, o2, none⟩) m2 cc2 HY.out.2.1 HY.out.2.2 HY.out.1
    have HOKX : Hid ((∀ t ∈ trs X.2, t.fo.ok ∧ (tcs t).length ≤ 2000) ∧ ∀ t ∈ trs Y.2, t.fo.ok ∧ (tcs t).length ≤ 2000) := ⟨fun t ht => ⟨trs_okU HX.out.2.1.2.2.2.2.1 t ht, by have := trs_small X.2 t ht; have := HX.out.2.2; simp only [tcs, List.length_cons] at this ⊢; simp only [tcs, List.length_cons] at *; omega⟩, fun t ht => ⟨trs_okU HY.out.2.1.2.2.2.2.1 t ht, by have := trs_small Y.2 t ht; have := HY.out.2.2; simp only [tcs, List.length_cons] at *; omega⟩⟩
    have HSB : Hid (sb < w4.heap.size) := World.block_lt_of_cell? _ _ HS4.out.sub
    have HC20 : Hid ((trs X.2).length ≤ 2000) := by
      show _ ≤ _
      have h9 := HX.out.2.2
      have := Fo.count_le X.2
      rw [trs_len]
      simp only [tcs, List.length_cons] at h9
      omega
    subst h0 h1 hs
    rw [ew4] at HA1
    clear hE esx esy HERR HDONE HLST HRUN HSTE HB4 HS2 HG2
    go_wp2_with fail
    refine HA1.mono ?_
    rw [← ew4]
    rintro e w5 ⟨p5, n5, c5, rfl, ha5, hb5⟩
    have HA5 : Hid (ArgsIn W0 w5 w4.heap.size p5 n5 (trs X.2)) := ha5
    have HB5 : Hid (Below w4.heap.size w4 w5) := hb5
    clear HA1 ha5 hb5 cvx cvy x0 x1 x2 y0 y1 y2
    go_wp2_with fail
    refine (HA2.out w5 HB5.out).mono ?_
    rintro e w6 ⟨p6, n6, c6, rfl, ha6, hb6⟩
    have HA6 : Hid (ArgsIn W0 w6 w4.heap.size p6 n6 (trs Y.2)) := ha6.mono HB5.out.size
    have HA5 : Hid (ArgsIn W0 w6 w4.heap.size p5 n5 (trs X.2)) := HA5.out.kept (grownB hb6) HSB.out
    have hn5 : n5 ≤ 2000 := by rw [HA5.out.1]; exact HC20.out
    have hn6 : n6 = n5 := by rw [HA5.out.1, ha6.1]; exact HCN.out.symm
    subst hn6
    have HLI : Hid (∃ M' f', f' ≤ f ∧ runU 4 5 3 (f + 1) M [(x, y)] = runU 4 5 3 f' M' (((trs X.2).zip (trs Y.2)).drop 0) ∧ (∃ p n c bs, MS W0 w6 sb M' (20000 - f') p n c bs) ∧ WfU M' ∧ (∀ x u, M' x = some u → (tcs u).length ≤ 2000)) := ⟨M, f, Nat.le_refl _, HST.out, ⟨p, n, c, bs, by have := (HS4.out.below HB5.out).below hb6; rwa [show k + 1 = 20000 - f by have := HEK.out; have := HFB.out; omega] at this⟩, HALL.out.1⟩
    have HG6 : Hid (w.grownBy w6 (some sb)) := (HG4.out.andThen (grownB HB5.out) (fun j hj => .inr hj)).andThen (grownB hb6) (fun j hj => .inr hj)
    clear ha6 hb6 HA2 HB5
    go_wp2_with fail
    go_loopw [12] (fun i wr => ∃ (j : Nat), j ≤ n6 ∧ i = .int .i64 j ∧ Hid (∃ M' f', f' ≤ f ∧ runU 4 5 3 (f + 1) M [(x, y)] = runU 4 5 3 f' M' (((trs X.2).zip (trs Y.2)).drop j) ∧ (∃ p n c bs, MS W0 wr sb M' (20000 - f') p n c bs) ∧ WfU M' ∧ (∀ x u, M' x = some u → (tcs u).length ≤ 2000)) ∧ Hid (w.grownBy wr (some sb)) ∧ Hid (ArgsIn W0 wr w4.heap.size p5 n6 (trs X.2)) ∧ Hid (ArgsIn W0 wr w4.heap.size p6 n6 (trs Y.2))) (fun i _ => n6 - (intOf i).toNat)
    case atStart => exact ⟨0, Nat.zero_le _, rfl, HLI, HG6, HA5, HA6⟩
    case round =>
      clear HLI HG6 HA5 HA6
      obtain ⟨j, hj, rfl, HLI, HG, HA5, HA6⟩ := hrel
      obtain ⟨M', f', hf', hrun, ⟨p', n', c', bs', hms⟩, hwf, hsm⟩ := HLI.out
      by_cases hlt : j < n6
      · have hjx : j < (trs X.2).length := by rw [← HA5.out.1]; exact hlt
        have hjy : j < (trs Y.2).length := by rw [← HA6.out.1]; exact hlt
        obtain ⟨g5, rfl, hB5, hc5⟩ := HA5.out.2 (by omega)
        obtain ⟨g6, rfl, hB6, hc6⟩ := HA6.out.2 (by omega)
        obtain ⟨u1, eu1⟩ : ∃ u, u = (trs X.2)[j] := ⟨_, rfl⟩
        obtain ⟨u2, eu2⟩ : ∃ u, u = (trs Y.2)[j] := ⟨_, rfl⟩
        obtain ⟨pq, nq, cq, r1, ti1⟩ := hc5 j u1 (by rw [List.getElem?_eq_getElem hjx, eu1])
        obtain ⟨pr, nr, cr, r2, ti2⟩ := hc6 j u2 (by rw [List.getElem?_eq_getElem hjy, eu2])
        have o1 := HOKX.out.1 u1 (by rw [eu1]; exact List.getElem_mem _)
        have o2 := HOKX.out.2 u2 (by rw [eu2]; exact List.getElem_mem _)
        have r1d : wr.drew.cell? ⟨g5, j, none⟩ = some (.slice pq nq cq) := r1
        have r2d : wr.drew.cell? ⟨g6, j, none⟩ = some (.slice pr nr cr) := r2
        have hbd : Below wr.heap.size wr wr.drew := ⟨rfl, rfl, rfl, Nat.le_refl _, fun _ _ => rfl⟩
        have HP := HREC.out f' hf' M' p' n' c' bs' u1 u2 pq pr nq cq nr cr wr.drew (hms.below hbd) hwf hsm o1.1 o2.1 o1.2 o2.2 ti1 ti2
        have HGd : Hid (w.grownBy wr.drew (some sb)) := HG.out.andThen (grownB hbd) (fun j hj => .inr hj)
        have HDR : Hid (runU 4 5 3 (f + 1) M [(x, y)] = match runU 4 5 3 f' M' [(u1, u2)] with | .error c => .error c | .ok (M'', f'') => runU 4 5 3 f'' M'' (((trs X.2).zip (trs Y.2)).drop (j + 1))) := by
          show _ = _
          have hz : j < ((trs X.2).zip (trs Y.2)).length := by rw [List.length_zip]; omega
          rw [hrun, List.drop_eq_getElem_cons hz, List.getElem_zip, ← eu1, ← eu2]
          exact runU_cons 4 5 3 f' M' (u1, u2) _
        have HF' : Hid (f' ≤ f ∧ ∀ M'' f'', runU 4 5 3 f' M' [(u1, u2)] = .ok (M'', f'') → f'' ≤ f') := ⟨hf', fun M'' f'' h => runU_fuel 4 5 3 f' M' _ M'' f'' h⟩
        have HR7 : Hid (∀ w7, wr.drew.grownBy w7 (some sb) → w7.cell? ⟨g5, j, none⟩ = some (.slice pq nq cq) ∧ w7.cell? ⟨g6, j, none⟩ = some (.slice pr nr cr)) := fun w7 hg => ⟨by rw [World.cell?_of_block (hg.block g5 (World.block_lt_of_cell? _ _ r1d) (fun e => by cases e; have := HSB.out; omega))]; exact r1d, by rw [World.cell?_of_block (hg.block g6 (World.block_lt_of_cell? _ _ r2d) (fun e => by cases e; have := HSB.out; omega))]; exact r2d⟩
        obtain ⟨RR, eRR⟩ : ∃ RR, RR = runU 4 5 3 f' M' [(u1, u2)] := ⟨_, rfl⟩
        rw [← eRR] at HP HDR HF'
        have HA5d : Hid (ArgsIn W0 wr.drew w4.heap.size (some ⟨g5, 0, none⟩) n6 (trs X.2)) := HA5.out.kept (grownB hbd) HSB.out
        have HA6d : Hid (ArgsIn W0 wr.drew w4.heap.size (some ⟨g6, 0, none⟩) n6 (trs Y.2)) := HA6.out.kept (grownB hbd) HSB.out
        clear hrun hms hwf hsm hc5 hc6 eu1 eu2 ti1 ti2 o1 o2 eRR HLI hf' hB5 hB6 hbd
        cases RR with
        | error d =>
          have HPE : Hid (Calls Tryz.prog 23 #[.pointer (some ⟨sb, 0, none⟩), .slice pq nq cq, .slice pr nr cr] wr.drew fun e w7 => e = .returned (.int .i64 d) ∧ w7.cell? ⟨g5, j, none⟩ = some (.slice pq nq cq) ∧ w7.cell? ⟨g6, j, none⟩ = some (.slice pr nr cr) ∧ Hid (PairO W0 sb (runU 4 5 3 (f + 1) M [(x, y)]) w (.returned (.int .i64 d)) w7) ∧ Hid (3 ≤ d)) := HP.mono fun e w7 ⟨hd, he, hl7, hg7⟩ => ⟨he, (HR7.out w7 hg7).1, (HR7.out w7 hg7).2, by
            rw [HDR.out]
            exact ⟨hd, rfl, hl7, HGd.out.andThen hg7 (fun j hj => .inr hj)⟩, hd.1⟩
          have hd3 : 3 ≤ d := by
            have h9 : runU 4 5 3 (f + 1) M [(x, y)] = .error d := HDR.out
            exact (runU_codes _ _ _ _ h9).1
          have hd0 : (d == 0) = false := by rw [beq_eq_false_iff_ne]; omega
          have hd1 : ¬ d = 0 := by omega
          clear HP hd3
          go_wp2_with fail
          go_region_held3 (fun W => W.cell? ⟨g5, j, none⟩ = some (.slice pq nq cq) ∧ W.cell? ⟨g6, j, none⟩ = some (.slice pr nr cr)) (exact ⟨by assumption, by assumption⟩) ((go_at_call 23; refine HPE.out.mono ?_; rintro e w7 ⟨rfl, q1, q2, HF, HD⟩))
          all_goals go_wp2_with fail
          all_goals go_ret
          all_goals exact HF.out
        | ok rr =>
          obtain ⟨M'', f''⟩ := rr
          have HPE : Hid (Calls Tryz.prog 23 #[.pointer (some ⟨sb, 0, none⟩), .slice pq nq cq, .slice pr nr cr] wr.drew fun e w7 => e = .returned (.int .i64 0) ∧ w7.cell? ⟨g5, j, none⟩ = some (.slice pq nq cq) ∧ w7.cell? ⟨g6, j, none⟩ = some (.slice pr nr cr) ∧ Hid (∃ M' f', f' ≤ f ∧ runU 4 5 3 (f + 1) M [(x, y)] = runU 4 5 3 f' M' (((trs X.2).zip (trs Y.2)).drop (j + 1)) ∧ (∃ p n c bs, MS W0 w7 sb M' (20000 - f') p n c bs) ∧ WfU M' ∧ (∀ x u, M' x = some u → (tcs u).length ≤ 2000)) ∧ Hid (w.grownBy w7 (some sb)) ∧ Hid (ArgsIn W0 w7 w4.heap.size (some ⟨g5, 0, none⟩) n6 (trs X.2)) ∧ Hid (ArgsIn W0 w7 w4.heap.size (some ⟨g6, 0, none⟩) n6 (trs Y.2))) := HP.mono fun e w7 ⟨he, hf'', hms'', hwf'', hsm'', hg7⟩ => ⟨he, (HR7.out w7 hg7).1, (HR7.out w7 hg7).2, ⟨M'', f'', Nat.le_trans (HF'.out.2 M'' f'' rfl) HF'.out.1, HDR.out, hms'', hwf'', hsm''⟩, HGd.out.andThen hg7 (fun j hj => .inr hj), HA5d.out.kept hg7 HSB.out, HA6d.out.kept hg7 HSB.out⟩
          clear HP
          go_wp2_with fail
          go_region_held3 (fun W => W.cell? ⟨g5, j, none⟩ = some (.slice pq nq cq) ∧ W.cell? ⟨g6, j, none⟩ = some (.slice pr nr cr)) (exact ⟨by assumption, by assumption⟩) ((go_at_call 23; refine HPE.out.mono ?_; rintro e w7 ⟨rfl, q1, q2, HLI2, HG2, HA52, HA62⟩))
          all_goals go_wp2_with fail
          all_goals go_roundw
          all_goals first
            | (simp [intOf]; omega)
            | exact ⟨j + 1, by omega, by go_num, HLI2, HG2, HA52, HA62⟩
      · obtain rfl : j = n6 := by omega
        have HF : Hid (PairO W0 sb (runU 4 5 3 (f + 1) M [(x, y)]) w (.returned (.int .i64 0)) wr) := by
          rw [hrun, List.drop_eq_nil_of_le (by rw [List.length_zip, ← HA5.out.1, ← HA6.out.1]; omega), runU_nil]
          exact ⟨rfl, by have := HFB.out; omega, ⟨p', n', c', bs', hms⟩, hwf, hsm, HG.out⟩
        clear hrun hms hwf hsm HLI
        go_wp2_with fail
        go_ret
        exact HF.out
  · have HF : Hid (PairO W0 sb (runU 4 5 3 (f + 1) M [(x, y)]) w (.returned (.int .i64 4)) w4) := HERR.out w4 4 (by rw [HSTE.out, if_neg hE]) HS4.out.low HG4.out
    rw [ew4] at HF
    by_cases hk : a0 = e0
    · by_cases hnn : a1 = e1
      · have htt : ¬ sx.toList = sy.toList := fun h => hE (by
          have hb := str_ne HX.out.2.1.2.1 HY.out.2.1.2.1 (by rw [← esx, ← esy]; exact ba_ext h)
          have h1 : X.1.1 = Y.1.1 := by rw [← HAE.out.1.1, ← HAE.out.2.1, hk]
          have h2 : X.1.2.1 = Y.1.2.1 := by rw [← HAE.out.1.2.1, ← HAE.out.2.2.1, hnn]
          exact Prod.ext h1 (Prod.ext h2 hb))
        have kt : (sx.toList == sy.toList) = false := by simpa using htt
        subst hk hnn
        clear htt hE esx esy
        go_wp2_with fail
        go_ret
        exact HF.out
      · have kn : (a1 == e1) = false := by simpa using hnn
        subst hk
        clear hE esx esy
        go_wp2_with fail
        go_ret
        exact HF.out
    · have kk : (a0 == e0) = false := by simpa using hk
      clear hE esx esy
      go_wp2_with fail
      go_ret
      exact HF.out
theorem pair_any (W0 : World) (sb : Nat) : ∀ f, f ≤ 20000 → PairOk W0 sb f := by
  intro f
  induction f using Nat.strongRecOn with
  | _ f ih =>
    intro hf
    cases f with
    | zero => exact pair_zero W0 sb
    | succ f =>
      intro M p n c bs x y qx qy mx cx my cy w hs hwf hsm ox oy lx ly hx hy
      by_cases h : (endB M x).1.1 = 0 ∨ (endB M y).1.1 = 0
      · exact pair_var W0 sb f hf M p n c bs x y qx qy mx cx my cy w hs hwf hsm ox oy lx ly hx hy h
      · exact pair_next W0 sb f hf (fun f' h' => ih f' (by omega) (by omega)) M p n c bs x y qx qy mx cx my cy w hs hwf hsm ox oy lx ly hx hy ⟨fun e => h (.inl e), fun e => h (.inr e)⟩
end Go.Proofs.YtaakpdakeolgeaaGreat

