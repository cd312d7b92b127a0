/- Texts of Ap5, Um1, Um3. Own work of the verifier. -/
import Derived.Test.YtaakpdakeolgeaaGreatUqbd
import Derived.Test.YtaakpdakeolgeaaGreatUqbe
import Derived.Test.YtaakpdakeolgeaaGreatUqah
import Derived.Test.YtaakpdakeolgeaaGreatUqax
import Derived.Test.YtaakpdakeolgeaaGreatUqba
import Derived.Laws.AppendOwnNone
namespace Go.Proofs.YtaakpdakeolgeaaGreat
open Go Go.RowKit
set_option linter.unusedVariables false
theorem CIn.part5 {w : World} {b o : Nat} {cs ds : List Cel} (h : ∀ i, i < cs.length → CAt w b (o + i * 3) (cs.getD i Cel.none)) (j : Nat) (hd : ds <+: cs.drop j) : CIn w (some ⟨b, o + j * 3, none⟩) ds := fun _ => by
  refine ⟨b, o + j * 3, rfl, fun i hi => ?_⟩
  obtain ⟨r, hr⟩ := hd
  have hl : j + i < cs.length := by
    have := congrArg List.length hr
    simp at this; omega
  have e : cs.getD (j + i) Cel.none = ds.getD i Cel.none := by
    have h1 : (cs.drop j)[i]? = ds[i]? := by rw [← hr, List.getElem?_append_left hi]
    rw [List.getElem?_drop] at h1
    simp only [List.getD, h1]
  have := h (j + i) hl
  rw [e, show o + (j + i) * 3 = o + j * 3 + i * 3 by omega] at this
  exact this
theorem look_find (bs : List Bnd) (v : Int) : (∃ k : Nat, k < bs.length ∧ findI (bs.map Prod.fst) v = (k : Int) ∧ look bs v = some (bs.getD k Bnd.zero).2) ∨ (findI (bs.map Prod.fst) v = -1 ∧ look bs v = none) := by
  cases h : look bs v with
  | none => exact .inr ⟨by rw [findI, if_neg ((look_none _ _).1 h)], rfl⟩
  | some t =>
    obtain ⟨hl, e⟩ := look_at bs v t h
    refine .inl ⟨_, hl, ?_, ?_⟩
    · rw [findI, if_pos]
      exact Classical.byContradiction fun hn => by rw [(look_none bs v).2 hn] at h; cases h
    · rw [← e]; simp [List.getD, hl]
theorem applyC_take (bs : List Bnd) (cs : List Cel) (j : Nat) (h : j < cs.length) : applyC bs (cs.take (j + 1)) = applyC bs (cs.take j) ++ sub1 bs (cs.getD j Cel.none) := by
  rw [applyC, applyC, List.take_succ_eq_append_getElem h, List.flatMap_append, List.getD, List.getElem?_eq_getElem h]
  simp
theorem applyC_le (bs : List Bnd) (cs : List Cel) (j : Nat) : (applyC bs (cs.take j)).length ≤ (applyC bs cs).length := by
  have h : applyC bs cs = applyC bs (cs.take j) ++ applyC bs (cs.drop j) := by rw [applyC, applyC, applyC, ← List.flatMap_append, List.take_append_drop]
  rw [h, List.length_append]; omega
theorem validFrom_tl : ∀ (cs : List Cel) (m : Int), validFrom m cs = true → tl cs ≤ 100 * cs.length
  | [], m, _ => by simp [tl]
  | c :: r, m, h => by
    simp only [validFrom] at h
    split at h
    · cases h
    rename_i hc
    have h1 := validFrom_tl r _ h
    have h2 : c.2.2.length ≤ 100 := by
      cases hb : cellB c.1 c.2.1 c.2.2.length with
      | false => exact absurd (.inr hb) hc
      | true =>
        simp only [cellB, decide_eq_true_eq] at hb
        omega
    simp only [tl, List.length_cons]; omega
theorem valid_tl {cs : List Cel} (h : validB cs = true) : tl cs ≤ 200000 := by
  simp only [validB, Bool.and_eq_true, decide_eq_true_eq] at h
  have := validFrom_tl cs 1 h.2
  omega
theorem validB_pos {cs : List Cel} (h : validB cs = true) : 0 < cs.length := by
  cases cs with
  | nil => revert h; decide
  | cons a b => simp
set_option maxRecDepth 100000 in
set_option maxHeartbeats 2000000 in
theorem specApplyC_any (bs : List Bnd) (cs : List Cel) (p q : Option Addr) (n t c1 ct : Nat) (hct1 : t ≤ ct) (hct2 : ct ≤ 9223372036854775807) (w : World) (hn : n = bs.length) (hm : t = cs.length) (hw : ∀ i, i < bs.length → -9223372036854775808 ≤ (bs.getD i Bnd.zero).1 ∧ (bs.getD i Bnd.zero).1 ≤ 9223372036854775807)
    (hl : bs.length + tll (trm bs) ≤ 300000000) (hlc : cs.length + tl cs ≤ 1048576) (hb : BdIn w p bs) (hc : CIn w q cs) :
    Calls Tryz.prog 8 #[.slice p n c1, .slice q t ct] w (ApplyOut w bs cs) := by
  have HV1 := l5valid_any p n c1 bs w hn (by omega) hl hw hb
  have HV2 : Hid (∀ W, Below w.heap.size w W → Calls Tryz.prog 17 #[.slice q t ct] W fun e w' => e = .returned (.bool (validB cs)) ∧ Below W.heap.size W w') := fun W hW => by rw [hm]; exact specValid_any q ct cs W (by omega) (hc.below hW)
  by_cases h1 : substB bs = true
  · rw [h1] at HV1
    by_cases h2 : validB cs = true
    · rw [h2] at HV2
      have hup := substFrom_up bs (-1) (by simp only [substB, Bool.and_eq_true] at h1; exact h1.2)
      have hmem := substFrom_mem bs (-1) (by simp only [substB, Bool.and_eq_true] at h1; exact h1.2)
      have hlen1 : n ≤ 1000 := by simp only [substB, Bool.and_eq_true, decide_eq_true_eq] at h1; omega
      have hlt2 : t ≤ 2000 := by have := validB_len h2; omega
      have hR : applyR bs cs = if (applyC bs cs).length ≤ 2000 then (applyC bs cs, 0) else ([], 3) := by rw [applyR, if_pos ⟨h1, h2⟩]
      have HFIN3 : Hid (∀ w', Below w.heap.size w w' → ∀ j, 2000 < (applyC bs (cs.take (j + 1))).length → ApplyOut w bs cs (.returned (.tuple #[.slice none 0 0, .int .i64 3])) w') := fun w' hb' j hj => by
        unfold ApplyOut
        have := applyC_le bs cs (j + 1)
        rw [hR, if_neg (by omega)]
        exact ⟨_, _, _, rfl, OwnC.nil _ _, hb'⟩
      have HFIN0 : Hid (∀ w' r m cr, Below w.heap.size w w' → OwnC w' w.heap.size r m cr (applyC bs (cs.take t)) → m ≤ 2000 → ApplyOut w bs cs (.returned (.tuple #[.slice r m cr, .int .i64 0])) w') := fun w' r m cr hb' ho hle => by
        unfold ApplyOut
        rw [List.take_of_length_le (by rw [hm]; exact Nat.le_refl _)] at ho
        rw [hR, if_pos (by rw [← ho.1]; exact hle)]
        exact ⟨_, _, _, rfl, ho, hb'⟩
      have HUP : Hid _ := hup
      have HMEM : Hid _ := hmem
      have HBD : Hid (BdIn w p bs) := hb
      have HC : Hid (CIn w q cs) := hc
      have HN : Hid (n = bs.length) := hn
      have HM : Hid (t = cs.length) := hm
      have HLL : Hid (bs.length + tll (trm bs) ≤ 300000000 ∧ cs.length + tl cs ≤ 1048576) := ⟨hl, hlc⟩
      clear h1 h2 hb hc hup hmem hR hn hm hw hl hlc
      go_enter Tryz.func8, Tryz.ntmps8
      go_wp2_with fail
      refine HV1.mono ?_
      rintro e w1 ⟨rfl, hb1⟩
      have HB1 : Hid (Below w.heap.size w w1) := hb1
      clear hb1 HV1
      go_wp2_with fail
      refine (HV2.out w1 HB1.out).mono ?_
      rintro e w2 ⟨rfl, hb2⟩
      have HB2 : Hid (Below w.heap.size w w2) := Below.on HB1.out hb2
      clear hb2
      go_wp2_with fail
      go_loopw [6, 7] (fun s i wr => ∃ (j : Nat) (r : Option Addr) (m cr : Nat), j ≤ t ∧ m ≤ 2000 ∧ i = .int .i64 j ∧ s = .slice r m cr ∧ Hid (OwnC wr w.heap.size r m cr (applyC bs (cs.take j))) ∧ Hid (Below w.heap.size w wr)) (fun _ i _ => t - (intOf i).toNat)
      case atStart => exact ⟨0, none, 0, 0, Nat.zero_le _, by decide, rfl, rfl, OwnC.nil _ _, HB2⟩
      case round =>
        obtain ⟨j, r, m, cr, hj, hm, rfl, rfl, HO, HB⟩ := hrel
        have hBs : w.heap.size ≤ wr.heap.size := HB.out.size
        by_cases hlt : j < t
        · have hjl : j < cs.length := by rw [← HM.out]; exact hlt
          obtain ⟨b, o, rfl, hcs⟩ := (HC.out.below HB.out) (by omega)
          have HCS : Hid (∀ i, i < cs.length → CAt wr b (o + i * 3) (cs.getD i Cel.none)) := hcs
          obtain ⟨p0, q0, d0, d1, d2, d3⟩ := hcs j hjl
          obtain ⟨ds, eds⟩ : ∃ ds, ds = sub1 bs (cs.getD j Cel.none) := ⟨_, rfl⟩
          have HDS : Hid (applyC bs (cs.take (j + 1)) = applyC bs (cs.take j) ++ ds) := by show _ = _; rw [applyC_take bs cs j hjl, ← eds]
          have HONE : Hid (Calls Tryz.prog 38 #[.slice (some ⟨b, o + j * 3, none⟩) 1 (ct - j)] wr fun e w' => ∃ q m c2, e = .returned (.slice q m c2) ∧ OwnC w' wr.heap.size q m c2 [cs.getD j Cel.none] ∧ Below wr.heap.size wr w') := by
            have htl := tl_at cs j hjl
            have h5 := HLL.out.2
            refine l2copy_any _ 1 _ [cs.getD j Cel.none] wr rfl (by simp only [tl, List.length_cons, List.length_nil]; omega) (CIn.part5 hcs j ⟨cs.drop (j + 1), ?_⟩)
            rw [List.drop_eq_getElem_cons hjl]; simp [List.getD, hjl]
          clear hcs d3 d2
          by_cases hc0 : (cs.getD j Cel.none).1 = 0
          · rw [hc0] at d0
            have HIX := l5index_any p n c1 bs (cs.getD j Cel.none).2.1 wr HN.out (by omega) HUP.out (HBD.out.below HB.out)
            rcases look_find bs (cs.getD j Cel.none).2.1 with ⟨k, hk, ef, el⟩ | ⟨ef, el⟩
            · rw [ef] at HIX
              have eds2 : ds = (bs.getD k Bnd.zero).2 := by rw [eds, sub1, if_pos hc0, el]
              obtain ⟨bb, bo, rfl, hbs⟩ := (HBD.out.below HB.out) (by omega)
              obtain ⟨qd, cd, y0, y1, y2⟩ := hbs k hk
              rw [← eds2] at y1 y2
              have hv := HMEM.out (bs.getD k Bnd.zero) (by simp [List.getD, hk])
              rw [← eds2] at hv
              have HD0 : Hid (0 < ds.length ∧ ds.length ≤ 2000) := ⟨validB_pos hv.2.2, validB_len hv.2.2⟩
              have hbd := tll_at (trm bs) k (by rw [trm_len]; exact hk)
              rw [trm_at, ← eds2] at hbd
              have h5 := HLL.out.1
              obtain ⟨ld, eld⟩ : ∃ l, l = ds.length := ⟨_, rfl⟩
              rw [← eld] at y1
              have HCP : Hid (Calls Tryz.prog 38 #[.slice qd ld cd] wr fun e w' => ∃ q m c2, e = .returned (.slice q m c2) ∧ OwnC w' wr.heap.size q m c2 ds ∧ Below wr.heap.size wr w') := l2copy_any qd ld cd ds wr eld (by have := valid_tl hv.2.2; have := validB_len hv.2.2; omega) y2
              have hkn : k < n := by rw [HN.out]; exact hk
              obtain ⟨vv, evv⟩ : ∃ v, v = (cs.getD j Cel.none).2.1 := ⟨_, rfl⟩
              rw [← evv] at d1 HIX
              clear eds eds2 ef el hbs y0 y2 hv hbd h5 eld evv hk hc0 HONE
              go_wp2_with fail
              refine HIX.mono ?_
              rintro e w9 ⟨rfl, hw9⟩
              rw [hw9]
              clear hw9 HIX
              go_wp2_with fail
              refine HCP.out.mono ?_
              rintro e w3 ⟨q3, m3, c3, rfl, ho3, hb3⟩
              have HO3 : Hid (OwnC w3 wr.heap.size q3 m3 c3 ds) := ho3
              have HB3 : Hid (Below wr.heap.size wr w3) := hb3
              have HM3 : Hid (m3 = ds.length) := ho3.1
              have hm3 : 0 < m3 := by rw [HM3.out]; exact HD0.out.1
              have hm3' : m3 ≤ 2000 := by rw [HM3.out]; exact HD0.out.2
              clear ho3 hb3 HCP
              by_cases hbig : m + m3 ≤ 2000
              · go_wp2_with (at_builtin; refine app_cells wr w3 rfl _ _ rfl w.heap.size r m cr _ rfl HO.out HB3.out hBs q3 m3 c3 _ rfl HO3.out hm3 (by omega) ?_; intro g4 n4 cap4 w4 hown4 hb4 hn4; have hn4' : n4 ≤ 2000 := by have := hn4.out; omega)
                have HO4 : Hid (OwnC w4 w.heap.size (some ⟨g4, 0, none⟩) n4 cap4 (applyC bs (cs.take (j + 1)))) := by rw [HDS.out]; exact hown4
                have HB4 : Hid (Below w.heap.size w w4) := (Below.on HB.out HB3.out).trans hb4
                clear hown4 hb4
                go_roundw
                case rel => exact ⟨j + 1, _, n4, cap4, by omega, hn4', by go_num, rfl, HO4, HB4⟩
                case measure => simp [intOf]; omega
              · go_wp2_with (at_builtin; refine app_cells wr w3 rfl _ _ rfl w.heap.size r m cr _ rfl HO.out HB3.out hBs q3 m3 c3 _ rfl HO3.out hm3 (by omega) ?_; intro g4 n4 cap4 w4 hown4 hb4 hn4; have hn4' : 2000 < n4 := by have := hn4.out; omega)
                go_ret2
                refine HFIN3.out w4 ((Below.on HB.out HB3.out).trans hb4) j ?_
                rw [HDS.out, ← hown4.1]; exact hn4'
            · rw [ef] at HIX
              have eds2 : ds = [cs.getD j Cel.none] := by rw [eds, sub1, if_pos hc0, el]
              rw [← eds2] at HONE
              have HD0 : Hid (0 < ds.length ∧ ds.length ≤ 2000) := by rw [eds2]; exact ⟨by simp, by simp⟩
              have HCP := HONE
              obtain ⟨vv, evv⟩ : ∃ v, v = (cs.getD j Cel.none).2.1 := ⟨_, rfl⟩
              rw [← evv] at d1 HIX
              clear eds eds2 ef el evv hc0 HONE
              go_wp2_with fail
              refine HIX.mono ?_
              rintro e w9 ⟨rfl, hw9⟩
              rw [hw9]
              clear hw9 HIX
              go_wp2_with fail
              refine HCP.out.mono ?_
              rintro e w3 ⟨q3, m3, c3, rfl, ho3, hb3⟩
              have HO3 : Hid (OwnC w3 wr.heap.size q3 m3 c3 ds) := ho3
              have HB3 : Hid (Below wr.heap.size wr w3) := hb3
              have HM3 : Hid (m3 = ds.length) := ho3.1
              have hm3 : 0 < m3 := by rw [HM3.out]; exact HD0.out.1
              have hm3' : m3 ≤ 2000 := by rw [HM3.out]; exact HD0.out.2
              clear ho3 hb3 HCP
              by_cases hbig : m + m3 ≤ 2000
              · go_wp2_with (at_builtin; refine app_cells wr w3 rfl _ _ rfl w.heap.size r m cr _ rfl HO.out HB3.out hBs q3 m3 c3 _ rfl HO3.out hm3 (by omega) ?_; intro g4 n4 cap4 w4 hown4 hb4 hn4; have hn4' : n4 ≤ 2000 := by have := hn4.out; omega)
                have HO4 : Hid (OwnC w4 w.heap.size (some ⟨g4, 0, none⟩) n4 cap4 (applyC bs (cs.take (j + 1)))) := by rw [HDS.out]; exact hown4
                have HB4 : Hid (Below w.heap.size w w4) := (Below.on HB.out HB3.out).trans hb4
                clear hown4 hb4
                go_roundw
                case rel => exact ⟨j + 1, _, n4, cap4, by omega, hn4', by go_num, rfl, HO4, HB4⟩
                case measure => simp [intOf]; omega
              · go_wp2_with (at_builtin; refine app_cells wr w3 rfl _ _ rfl w.heap.size r m cr _ rfl HO.out HB3.out hBs q3 m3 c3 _ rfl HO3.out hm3 (by omega) ?_; intro g4 n4 cap4 w4 hown4 hb4 hn4; have hn4' : 2000 < n4 := by have := hn4.out; omega)
                go_ret2
                refine HFIN3.out w4 ((Below.on HB.out HB3.out).trans hb4) j ?_
                rw [HDS.out, ← hown4.1]; exact hn4'
          · have eds2 : ds = [cs.getD j Cel.none] := by rw [eds, sub1, if_neg hc0]
            rw [← eds2] at HONE
            have HD0 : Hid (0 < ds.length ∧ ds.length ≤ 2000) := by rw [eds2]; exact ⟨by simp, by simp⟩
            have HCP := HONE
            obtain ⟨kk, ekk⟩ : ∃ v, v = (cs.getD j Cel.none).1 := ⟨_, rfl⟩
            rw [← ekk] at d0 hc0
            have hc0' : (kk == 0) = false := by simpa using hc0
            clear eds eds2 ekk hc0 HONE d1
            go_wp2_with fail
            refine HCP.out.mono ?_
            rintro e w3 ⟨q3, m3, c3, rfl, ho3, hb3⟩
            have HO3 : Hid (OwnC w3 wr.heap.size q3 m3 c3 ds) := ho3
            have HB3 : Hid (Below wr.heap.size wr w3) := hb3
            have HM3 : Hid (m3 = ds.length) := ho3.1
            have hm3 : 0 < m3 := by rw [HM3.out]; exact HD0.out.1
            have hm3' : m3 ≤ 2000 := by rw [HM3.out]; exact HD0.out.2
            clear ho3 hb3 HCP
            by_cases hbig : m + m3 ≤ 2000
            · go_wp2_with (at_builtin; refine app_cells wr w3 rfl _ _ rfl w.heap.size r m cr _ rfl HO.out HB3.out hBs q3 m3 c3 _ rfl HO3.out hm3 (by omega) ?_; intro g4 n4 cap4 w4 hown4 hb4 hn4; have hn4' : n4 ≤ 2000 := by have := hn4.out; omega)
              have HO4 : Hid (OwnC w4 w.heap.size (some ⟨g4, 0, none⟩) n4 cap4 (applyC bs (cs.take (j + 1)))) := by rw [HDS.out]; exact hown4
              have HB4 : Hid (Below w.heap.size w w4) := (Below.on HB.out HB3.out).trans hb4
              clear hown4 hb4
              go_roundw
              case rel => exact ⟨j + 1, _, n4, cap4, by omega, hn4', by go_num, rfl, HO4, HB4⟩
              case measure => simp [intOf]; omega
            · go_wp2_with (at_builtin; refine app_cells wr w3 rfl _ _ rfl w.heap.size r m cr _ rfl HO.out HB3.out hBs q3 m3 c3 _ rfl HO3.out hm3 (by omega) ?_; intro g4 n4 cap4 w4 hown4 hb4 hn4; have hn4' : 2000 < n4 := by have := hn4.out; omega)
              go_ret2
              refine HFIN3.out w4 ((Below.on HB.out HB3.out).trans hb4) j ?_
              rw [HDS.out, ← hown4.1]; exact hn4'
        · obtain rfl : j = t := by omega
          go_wp2_with fail
          go_ret2
          exact HFIN0.out _ _ _ _ HB.out HO.out hm
    · have h2' : validB cs = false := by simpa using h2
      rw [h2'] at HV2
      have HFIN : Hid (∀ w', Below w.heap.size w w' → ApplyOut w bs cs (.returned (.tuple #[.slice none 0 0, .int .i64 1])) w') := fun w' hb => by
        unfold ApplyOut
        rw [applyR, if_neg (fun h => h2 h.2)]
        exact ⟨_, _, _, rfl, OwnC.nil _ _, hb⟩
      clear h1 h2 h2' hb hc hn hm hw
      go_enter Tryz.func8, Tryz.ntmps8
      go_wp2_with fail
      refine HV1.mono ?_
      rintro e w1 ⟨rfl, hb1⟩
      have HB1 : Hid (Below w.heap.size w w1) := hb1
      clear hb1 HV1
      go_wp2_with fail
      refine (HV2.out w1 HB1.out).mono ?_
      rintro e w2 ⟨rfl, hb2⟩
      have HB2 : Hid (Below w.heap.size w w2) := Below.on HB1.out hb2
      clear hb2
      go_wp2_with fail
      go_ret2
      exact HFIN.out _ HB2.out
  · have h1' : substB bs = false := by simpa using h1
    rw [h1'] at HV1
    have HFIN : Hid (∀ w', Below w.heap.size w w' → ApplyOut w bs cs (.returned (.tuple #[.slice none 0 0, .int .i64 1])) w') := fun w' hb => by
      unfold ApplyOut
      rw [applyR, if_neg (fun h => h1 h.1)]
      exact ⟨_, _, _, rfl, OwnC.nil _ _, hb⟩
    clear h1 h1' hb hc hn hm hw
    go_enter Tryz.func8, Tryz.ntmps8
    go_wp2_with fail
    refine HV1.mono ?_
    rintro e w1 ⟨rfl, hb1⟩
    go_wp2_with fail
    go_ret2
    exact HFIN.out _ hb1
end Go.Proofs.YtaakpdakeolgeaaGreat

namespace Go.Proofs.YtaakpdakeolgeaaGreat
open Go Go.RowKit
set_option linter.unusedVariables false
structure BsR (bs : List Bnd) (M : BM) : Prop where
  up : ∀ i j, i < j → j < bs.length → (bs.getD i Bnd.zero).1 < (bs.getD j Bnd.zero).1
  rel : ∀ v, (∃ u, M v = some u ∧ look bs v = some (tcs u)) ∨ (M v = none ∧ look bs v = none)
def TIn (W0 : World) (q : Option Addr) (m c : Nat) (t : Tr) : Prop := m = (tcs t).length ∧ m ≤ c ∧ c ≤ 9223372036854775807 ∧ CIn W0 q (tcs t)
def SubAt (W0 W : World) (b o : Nat) (x : Bnd) : Prop := ∃ q c, W.cell? ⟨b, o, none⟩ = some (.int .i64 x.1) ∧ W.cell? ⟨b, o + 1, none⟩ = some (.slice q x.2.length c) ∧ x.2.length ≤ c ∧ c ≤ 9223372036854775807 ∧ CIn W0 q x.2
def SubIn (W0 W : World) (p : Option Addr) (bs : List Bnd) : Prop := 0 < bs.length → ∃ b o, p = some ⟨b, o, none⟩ ∧ ∀ i, i < bs.length → SubAt W0 W b (o + i * 2) (bs.getD i Bnd.zero)
theorem SubIn.bdin {W0 W : World} {p : Option Addr} {bs : List Bnd} (h : SubIn W0 W p bs) (hl : Below W0.heap.size W0 W) : BdIn W p bs := fun hn => by
  obtain ⟨b, o, e, h⟩ := h hn
  exact ⟨b, o, e, fun i hi => by
    obtain ⟨q, c, h1, h2, _, _, h3⟩ := h i hi
    exact ⟨q, c, h1, h2, h3.below hl⟩⟩
theorem SubIn.move {W0 W W' : World} {p : Option Addr} {bs : List Bnd} (h : SubIn W0 W p bs) (hc : ∀ b o v, p = some ⟨b, o, none⟩ → ∀ j, W.cell? ⟨b, j, none⟩ = some v → W'.cell? ⟨b, j, none⟩ = some v) : SubIn W0 W' p bs := fun hn => by
  obtain ⟨b, o, e, h⟩ := h hn
  exact ⟨b, o, e, fun i hi => by
    obtain ⟨q, c, h1, h2, h3⟩ := h i hi
    exact ⟨q, c, hc b o _ e _ h1, hc b o _ e _ h2, h3⟩⟩
structure MS (W0 W : World) (sb : Nat) (M : BM) (k : Nat) (p : Option Addr) (n c : Nat) (bs : List Bnd) : Prop where
  low : Below W0.heap.size W0 W
  hsb : W0.heap.size ≤ sb
  sub : W.cell? ⟨sb, 0, none⟩ = some (.slice p n c)
  prs : W.cell? ⟨sb, 1, none⟩ = some (.int .i64 k)
  len : n = bs.length
  lies : SubIn W0 W p bs
  bsr : BsR bs M
  few : n ≤ k
  kle : k ≤ 20000
  zero : n = 0 → p = none ∧ c = 0
  room : n ≤ c
  apart : ∀ a, p = some a → a.block ≠ sb ∧ W0.heap.size ≤ a.block
  free : ∀ o, W.frozen? ⟨sb, o, none⟩ = false
theorem MS.below {W0 W W' : World} {sb : Nat} {M : BM} {k : Nat} {p : Option Addr} {n c : Nat} {bs : List Bnd} (h : MS W0 W sb M k p n c bs) (hb : Below W.heap.size W W') : MS W0 W' sb M k p n c bs := ⟨Below.on h.low hb, h.hsb, (hb.cell (World.block_lt_of_cell? _ _ h.sub)).trans h.sub, (hb.cell (World.block_lt_of_cell? _ _ h.prs)).trans h.prs, h.len, h.lies.move (fun b o v _ j hv => (hb.cell (World.block_lt_of_cell? _ _ hv)).trans hv), h.bsr, h.few, h.kle, h.zero, h.room, h.apart, fun o => (hb.frozen (p := ⟨sb, o, none⟩) (show sb < W.heap.size from World.block_lt_of_cell? _ _ h.sub)).trans (h.free o)⟩
theorem BsR.find {bs : List Bnd} {M : BM} (h : BsR bs M) (v : Int) : (∃ (k : Nat) (u : Tr), k < bs.length ∧ findI (bs.map Prod.fst) v = (k : Int) ∧ M v = some u ∧ (bs.getD k Bnd.zero).2 = tcs u) ∨ (findI (bs.map Prod.fst) v = -1 ∧ M v = none) := by
  rcases look_find bs v with ⟨k, h1, h2, h3⟩ | ⟨h1, h2⟩
  · rcases h.rel v with ⟨u, h4, h5⟩ | ⟨h4, h5⟩
    · rw [h3] at h5
      exact .inl ⟨k, u, h1, h2, h4, Option.some.inj h5⟩
    · rw [h3] at h5; cases h5
  · rcases h.rel v with ⟨u, h4, h5⟩ | ⟨h4, h5⟩
    · rw [h2] at h5; cases h5
    · exact .inr ⟨h1, h4⟩
def muT (r : Int → Nat) (t : Tr) : Nat := if t.1.1 = 0 then r t.1.2.1 + 1 else 0
def WalkO (W0 : World) (E : Tr) (w : World) (e : Ending) (w' : World) : Prop := ∃ (q : Option Addr) (m c : Nat), e = .returned (.slice q m c) ∧ TIn W0 q m c E ∧ Below w.heap.size w w'
theorem tcs_pos (t : Tr) : 0 < (tcs t).length := by simp [tcs]
theorem tcs_head (t : Tr) : (tcs t).getD 0 Cel.none = t.1 := rfl
set_option maxRecDepth 100000 in
set_option maxHeartbeats 1000000 in
theorem l5walk_any (M : BM) (r : Int → Nat) (hac : Acyc M r) (hMok : ∀ v u, M v = some u → u.fo.ok) (W0 : World) (sb kk : Nat) (p : Option Addr) (n c : Nat) (bs : List Bnd) (t E : Tr) (q : Option Addr) (m c' : Nat) (w : World) (hs : MS W0 w sb M kk p n c bs) (ht : t.fo.ok) (hin : TIn W0 q m c' t) (he : EndB M t E) :
    Calls Tryz.prog 51 #[.pointer (some ⟨sb, 0, none⟩), .slice q m c'] w (WalkO W0 E w) := by
  have c0 := hs.sub
  have HS : Hid (MS W0 w sb M kk p n c bs) := hs
  have HIX : Hid (∀ v W, Below w.heap.size w W → Calls Tryz.prog 37 #[.slice p n c, .int .i64 v] W fun e w' => e = .returned (.int .i64 (findI (bs.map Prod.fst) v)) ∧ w' = W) := fun v W hW => l5index_any p n c bs v W hs.len (by have := hs.few; have := hs.kle; omega) hs.bsr.up ((hs.lies.bdin hs.low).below hW)
  have HT0 : Hid (EndB M t E ∧ t.fo.ok ∧ TIn W0 q m c' t) := ⟨he, ht, hin⟩
  have HAC : Hid (Acyc M r ∧ ∀ v u, M v = some u → u.fo.ok) := ⟨hac, hMok⟩
  clear hs ht hin he hac hMok
  go_enter Tryz.func51, Tryz.ntmps51
  go_wp2_with fail
  go_loopg [1] (muT r t) (fun k s wr => ∃ (u : Tr) (q : Option Addr) (m c' : Nat), s = .slice q m c' ∧ Hid (EndB M u E ∧ u.fo.ok ∧ TIn W0 q m c' u) ∧ Hid (muT r u = k) ∧ Hid (Below w.heap.size w wr))
  case atStart => exact ⟨t, q, m, c', rfl, HT0, rfl, Below.refl _ _⟩
  case round =>
    obtain ⟨u, q, m, c', rfl, HT, HK, HB⟩ := hrel
    have HL0 : Hid (Below W0.heap.size W0 wr) := Below.on HS.out.low HB.out
    obtain ⟨bq, oq, rfl, hcs⟩ := HT.out.2.2.2.2.2 (tcs_pos u)
    obtain ⟨tp, tcap, g0, g1, g2, _⟩ := hcs 0 (tcs_pos u)
    rw [tcs_head] at g0 g1
    simp only [Nat.zero_mul, Nat.add_zero] at g0 g1
    have d0 := (HL0.out.cell (World.block_lt_of_cell? _ _ g0)).trans g0
    have d1 := (HL0.out.cell (World.block_lt_of_cell? _ _ g1)).trans g1
    have s0 := (HB.out.cell (World.block_lt_of_cell? _ _ c0)).trans c0
    have hmp : (0 : Int) < (m : Int) := by have := HT.out.2.2.1; have := tcs_pos u; omega
    have hmn : 0 < m := by omega
    by_cases h0 : u.1.1 = 0
    · have hk0 : (u.1.1 == 0) = true := by simpa using h0
      obtain ⟨x, ex⟩ : ∃ x, x = u.1.2.1 := ⟨_, rfl⟩
      obtain ⟨kd, ek⟩ : ∃ kd, kd = u.1.1 := ⟨_, rfl⟩
      rw [← ek] at d0 hk0
      rw [← ex] at d1
      have HIV : Hid (IsV u x) := by rw [ex]; exact ok_var HT.out.2.1 h0
      have HI := HIX.out x wr.drew HB.out.drew
      rcases HS.out.bsr.find x with ⟨j, z, hj, hfj, hMz, hcz⟩ | ⟨hfj, hMz⟩
      · rw [hfj] at HI
        obtain ⟨bp, op, hpp, hbd⟩ := HS.out.lies (by omega)
        subst hpp
        obtain ⟨qz, cz, e0, e1, e3, e4, e2⟩ := hbd j hj
        have l1 := (HB.out.cell (World.block_lt_of_cell? _ _ e1)).trans e1
        rw [hcz] at l1 e2 e3
        have hjn : (j : Int) < (n : Int) := by have := HS.out.len; omega
        have hj0 : (0 : Int) ≤ (j : Int) := by omega
        have hjneg : decide ((j : Int) < 0) = false := by simp
        have HN : Hid (EndB M z E ∧ z.fo.ok ∧ TIn W0 qz (tcs z).length cz z) := by
          refine ⟨?_, HAC.out.2 x z hMz, rfl, e3, e4, e2⟩
          cases HT.out.1 with
          | stay hst => rw [hst x HIV.out] at hMz; cases hMz
          | go hv hm' h' =>
            obtain rfl := HIV.out.inj hv
            rw [hMz] at hm'
            cases hm'
            exact h'
        have HM : Hid (muT r z < gk) := by
          have h1 : muT r u = r x + 1 := by unfold muT; rw [if_pos h0, ex]
          have h2 := HK.out
          show muT r z < gk
          rw [← h2, h1]
          unfold muT
          split
          · rename_i hz0
            have := HAC.out.1 x z hMz z.1.2.1 (by simp [vsT, vsF, hz0])
            omega
          · omega
        obtain ⟨lz, elz⟩ : ∃ lz, lz = (tcs z).length := ⟨_, rfl⟩
        have HLZ : Hid (lz = (tcs z).length) := elz
        rw [← elz] at l1
        have HBd : Hid (Below w.heap.size w wr.drew) := HB.out.drew
        clear hfj hMz hcz hbd e0 e1 e2 e3 e4 elz ex ek h0 hcs g0 g1 g2
        go_wp2_with fail
        go_region_held3 (fun W => W = wr.drew) (rfl) ((go_at_call 37; refine HI.mono ?_; rintro e w' ⟨rfl, rfl⟩))
        all_goals go_wp2_with fail
        all_goals go_roundg (muT r z)
        all_goals first
          | exact HM.out
          | exact ⟨z, qz, lz, cz, rfl, ⟨HN.out.1, HN.out.2.1, by rw [HLZ.out]; exact HN.out.2.2⟩, rfl, HBd⟩
      · rw [hfj] at HI
        have HF : Hid (WalkO W0 E w (.returned (.slice (some ⟨bq, oq, none⟩) m c')) wr.drew) := by
          have hE : E = u := by
            cases HT.out.1 with
            | stay _ => rfl
            | go hv hm' _ => obtain rfl := HIV.out.inj hv; rw [hMz] at hm'; cases hm'
          subst hE
          exact ⟨_, m, c', rfl, HT.out.2.2, HB.out.drew⟩
        clear hfj hMz ex ek h0 hcs g0 g1 g2
        go_wp2_with fail
        go_region_held3 (fun W => W = wr.drew) (rfl) ((go_at_call 37; refine HI.mono ?_; rintro e w' ⟨rfl, rfl⟩))
        all_goals go_wp2_with fail
        all_goals go_ret
        all_goals exact HF.out
    · have hk0 : (u.1.1 == 0) = false := by simpa using h0
      have HF : Hid (WalkO W0 E w (.returned (.slice (some ⟨bq, oq, none⟩) m c')) wr) := by
        have hE : E = u := by
          cases HT.out.1 with
          | stay _ => rfl
          | go hv _ _ => exact absurd hv.1 h0
        subst hE
        exact ⟨_, m, c', rfl, HT.out.2.2, HB.out⟩
      clear h0 hcs g0 g1 g2
      go_wp2_with fail
      go_ret
      exact HF.out
end Go.Proofs.YtaakpdakeolgeaaGreat

namespace Go.Proofs.YtaakpdakeolgeaaGreat
open Go Go.RowKit
set_option linter.unusedVariables false
def flB : List (Option Addr × Nat) → List Bnd → List Value
  | d :: ds, x :: xs => .int .i64 x.1 :: .slice d.1 x.2.length d.2 :: flB ds xs
  | _, _ => []
def Items (W0 : World) : List (Option Addr × Nat) → List Bnd → Prop
  | d :: ds, x :: xs => (x.2.length ≤ d.2 ∧ d.2 ≤ 9223372036854775807 ∧ CIn W0 d.1 x.2) ∧ Items W0 ds xs
  | [], [] => True
  | _, _ => False
theorem Items.len {W0 : World} : ∀ {ds : List (Option Addr × Nat)} {bs : List Bnd}, Items W0 ds bs → ds.length = bs.length
  | [], [], _ => rfl
  | _ :: ds, _ :: bs, h => by simp [Items.len h.2]
  | [], _ :: _, h => h.elim
  | _ :: _, [], h => h.elim
theorem Items.app {W0 : World} : ∀ {ds es : List (Option Addr × Nat)} {bs cs : List Bnd}, Items W0 ds bs → Items W0 es cs → Items W0 (ds ++ es) (bs ++ cs)
  | [], es, [], cs, _, h => h
  | _ :: ds, es, _ :: bs, cs, h, h' => ⟨h.1, Items.app h.2 h'⟩
  | [], _, _ :: _, _, h, _ => h.elim
  | _ :: _, _, [], _, h, _ => h.elim
theorem flB_app {W0 : World} : ∀ {ds es : List (Option Addr × Nat)} {bs cs : List Bnd}, Items W0 ds bs → flB (ds ++ es) (bs ++ cs) = flB ds bs ++ flB es cs
  | [], es, [], cs, _ => rfl
  | _ :: ds, es, _ :: bs, cs, h => by simp [flB, flB_app h.2]
  | [], _, _ :: _, _, h => h.elim
  | _ :: _, _, [], _, h => h.elim
theorem flB_len {W0 : World} : ∀ {ds : List (Option Addr × Nat)} {bs : List Bnd}, Items W0 ds bs → (flB ds bs).length = bs.length * 2
  | [], [], _ => rfl
  | _ :: ds, _ :: bs, h => by simp [flB, flB_len h.2]; omega
  | [], _ :: _, h => h.elim
  | _ :: _, [], h => h.elim
theorem flB_one : ∀ (ds : List (Option Addr × Nat)) (bs : List Bnd), ∀ u ∈ flB ds bs, u.oneCell' = true
  | [], [], u, h => by cases h
  | d :: ds, b :: bs, u, h => by
    simp only [flB, List.mem_cons] at h
    rcases h with rfl | rfl | h
    · rfl
    · rfl
    · exact flB_one ds bs u h
  | [], _ :: _, u, h => by cases h
  | _ :: _, [], u, h => by cases h
theorem flB_at {W0 : World} : ∀ {ds : List (Option Addr × Nat)} {bs : List Bnd}, Items W0 ds bs → ∀ i, i < bs.length → ∃ q c, (flB ds bs)[i * 2]? = some (.int .i64 (bs.getD i Bnd.zero).1) ∧ (flB ds bs)[i * 2 + 1]? = some (.slice q (bs.getD i Bnd.zero).2.length c) ∧ (bs.getD i Bnd.zero).2.length ≤ c ∧ c ≤ 9223372036854775807 ∧ CIn W0 q (bs.getD i Bnd.zero).2
  | [], [], _, i, hi => by simp at hi
  | d :: ds, b :: bs, h, 0, _ => ⟨d.1, d.2, rfl, rfl, h.1.1, h.1.2.1, h.1.2.2⟩
  | d :: ds, b :: bs, h, i + 1, hi => by
    obtain ⟨q, c, h1, h2, h3⟩ := flB_at h.2 i (by simpa using hi)
    refine ⟨q, c, ?_, ?_, by simpa [List.getD] using h3⟩
    · rw [show (i + 1) * 2 = i * 2 + 1 + 1 by omega]; simpa [flB, List.getD] using h1
    · rw [show (i + 1) * 2 + 1 = (i * 2 + 1) + 1 + 1 by omega]; simpa [flB, List.getD] using h2
  | [], _ :: _, h, _, _ => h.elim
  | _ :: _, [], h, _, _ => h.elim
theorem lie_ex {W0 W : World} {b : Nat} : ∀ (bs : List Bnd) (o : Nat), (∀ i, i < bs.length → SubAt W0 W b (o + i * 2) (bs.getD i Bnd.zero)) → ∃ ds, Items W0 ds bs ∧ ∀ j u, (flB ds bs)[j]? = some u → W.cell? ⟨b, o + j, none⟩ = some u
  | [], o, _ => ⟨[], trivial, fun j u h => by simp [flB] at h⟩
  | x :: bs, o, h => by
    obtain ⟨q, c, h1, h2, h3⟩ := h 0 (by simp)
    obtain ⟨ds, hi, hc⟩ := lie_ex bs (o + 2) (fun i hi => by
      have := h (i + 1) (by simpa using hi)
      rw [show o + (i + 1) * 2 = o + 2 + i * 2 by omega] at this
      simpa [List.getD] using this)
    refine ⟨(q, c) :: ds, ⟨by simpa [List.getD] using h3, hi⟩, fun j u hj => ?_⟩
    match j, hj with
    | 0, hj => simp [flB] at hj; rw [← hj]; simpa [List.getD] using h1
    | 1, hj => simp [flB] at hj; rw [← hj]; simpa [List.getD] using h2
    | j + 2, hj =>
      have := hc j u (by simpa [flB] using hj)
      rw [show o + 2 + j = o + (j + 2) by omega] at this
      exact this
def RowS (W0 w : World) (B : Nat) (p : Option Addr) (n c : Nat) (bs : List Bnd) : Prop := n = bs.length ∧ ∃ ds, w.ownsRow B 33 2 (.slice p n c) n (flB ds bs) ∧ Items W0 ds bs
theorem RowS.nil (W0 w : World) (B : Nat) : RowS W0 w B none 0 0 [] := ⟨rfl, [], World.ownsRow_nil _ _ _ _, trivial⟩
theorem RowS.below {W0 w w' : World} {B : Nat} {p : Option Addr} {n c : Nat} {bs : List Bnd} (h : RowS W0 w B p n c bs) (hb : Below w.heap.size w w') : RowS W0 w' B p n c bs := by
  obtain ⟨h1, ds, h2, h3⟩ := h
  exact ⟨h1, ds, row_below h2 hb, h3⟩
theorem RowS.sub {W0 w : World} {B : Nat} {p : Option Addr} {n c : Nat} {bs : List Bnd} (h : RowS W0 w B p n c bs) : SubIn W0 w p bs ∧ (n = 0 → p = none ∧ c = 0 ∨ ∃ g, p = some ⟨g, 0, none⟩) ∧ n ≤ c ∧ ∀ a, p = some a → B ≤ a.block := by
  obtain ⟨h1, ds, h2, h3⟩ := h
  refine ⟨fun hn => ?_, ?_, ?_, ?_⟩
  · obtain ⟨g, cap, hv, hb, hg⟩ := h2.form (by omega)
    simp only [Value.slice.injEq, true_and] at hv
    obtain ⟨rfl, rfl⟩ := hv
    refine ⟨g, 0, rfl, fun i hi => ?_⟩
    obtain ⟨q, d, e1, e2, e3⟩ := flB_at h3 i hi
    rw [Nat.zero_add]
    exact ⟨q, d, by rw [h2.cellAt _ (by omega)]; exact e1, by rw [h2.cellAt _ (by omega)]; exact e2, e3⟩
  · intro hn
    rcases h2.2 with ⟨h', _⟩ | ⟨g, cap, cur, hv, _⟩
    · simp only [Value.slice.injEq] at h'; exact .inl ⟨h'.1, h'.2.2⟩
    · simp only [Value.slice.injEq] at hv; exact .inr ⟨g, hv.1⟩
  · rcases h2.2 with ⟨h', _⟩ | ⟨g, cap, cur, hv, _, _, hnc, _⟩
    · simp only [Value.slice.injEq] at h'; omega
    · simp only [Value.slice.injEq] at hv; omega
  · intro a ha
    rcases h2.2 with ⟨h', _⟩ | ⟨g, cap, cur, hv, hb, _⟩
    · simp only [Value.slice.injEq] at h'; rw [h'.1] at ha; cases ha
    · simp only [Value.slice.injEq] at hv; rw [hv.1] at ha; cases ha; exact hb
def Lies (W0 w : World) (q : Option Addr) (m c : Nat) (bs : List Bnd) : Prop := m = bs.length ∧ ((q = none ∧ m = 0 ∧ c = 0) ∨ ∃ b o ds, q = some ⟨b, o, none⟩ ∧ Items W0 ds bs ∧ ∀ j u, (flB ds bs)[j]? = some u → w.cell? ⟨b, o + j, none⟩ = some u)
theorem app_sub (W0 w : World) {ops : Array Oper} {rest : List Oper} {o : Oper} {a : Act} {Q : Exit → Act → World → Prop} (hgd : o.guard = none) (s x : Operand)
    (ho : o.op = .call { callee := .builtin .append, args := #[s, x], argTypes := #[26, 26] }) (B : Nat) (p : Option Addr) (n c : Nat) (bs : List Bnd)
    (hs : a.eval s = .slice p n c) (hown : RowS W0 w B p n c bs) (hB : B ≤ w.heap.size) (q : Option Addr) (m cq : Nat) (ds : List Bnd) (hx : a.eval x = .slice q m cq) (hl : Lies W0 w q m cq ds) (hlen : n + m ≤ 1000000)
    (h : ∀ p' n' cap w', RowS W0 w' B p' n' cap (bs ++ ds) → w.grownBy w' (Value.ownBlock (.slice p n c)) → Hid (n' = n + m) → wpList Tryz.prog ops Q rest (a.put o.dst (.slice p' n' cap)) w') : wpList Tryz.prog ops Q (o :: rest) a w := by
  obtain ⟨i0, hi, hz0, hz1, hz2⟩ := info_parts infoBnd
  obtain ⟨hn, es, hr, hit⟩ := id hown
  obtain ⟨hm, hl⟩ := hl
  rcases hl with ⟨rfl, rfl, rfl⟩ | ⟨b, o', fs, rfl, hit2, hc⟩
  · obtain rfl : ds = [] := List.length_eq_zero_iff.1 hm.symm
    refine wpList_append_own_none hgd s x 26 ho B 33 i0 2 Tryz.underlying26 hi (.slice p n c) n (flB es bs) hs hr hx ?_
    exact h p n c w (by rw [List.append_nil]; exact hown) (.refl _ _) (by show n = n + 0; omega)
  · refine wpList_append_own w hgd s x 26 ho B 33 i0 (.agg #[.int .i64 0, .slice none 0 0]) 2 32 Tryz.underlying26 hi hz0 hz1 hz2 rfl (by decide) (.slice p n c) n (flB es bs) hs hr ⟨b, o', none⟩ m cq (flB fs ds) hx (by rw [flB_len hit2, hm]) (fun j u hj => by
      have h9 := hc j u hj
      by_cases e : j = 0
      · subst e; simpa [Addr.add] using h9
      · simpa [Addr.add, e] using h9) (flB_one _ _) (by unfold maxLen; omega) (by omega) hB ?_
    intro v' w' hown' hgrow _
    obtain ⟨p', c', rfl⟩ : ∃ p' c', v' = .slice p' (n + m) c' := by
      rcases hown'.2 with ⟨h', h2⟩ | ⟨g', cap', cur, hv, _⟩
      · exact ⟨none, 0, by rw [h', h2]⟩
      · exact ⟨_, _, hv⟩
    exact h p' (n + m) c' w' ⟨by simp; omega, es ++ fs, by rw [flB_app hit]; exact hown', hit.app hit2⟩ hgrow rfl
theorem SubIn.part {W0 w : World} {b o : Nat} {bs : List Bnd} (h : ∀ i, i < bs.length → SubAt W0 w b (o + i * 2) (bs.getD i Bnd.zero)) (j : Nat) (hj : j ≤ bs.length) (c : Nat) : Lies W0 w (some ⟨b, o + j * 2, none⟩) (bs.length - j) c (bs.drop j) := by
  obtain ⟨ds, h1, h2⟩ := lie_ex (bs.drop j) (o + j * 2) (fun i hi => by
    have hl : i < bs.length - j := by simpa using hi
    have := h (j + i) (by omega)
    rw [show o + (j + i) * 2 = o + j * 2 + i * 2 by omega] at this
    simpa [List.getD, List.getElem?_drop] using this)
  exact ⟨by simp, .inr ⟨b, o + j * 2, ds, rfl, h1, h2⟩⟩
theorem SubIn.fore {W0 w : World} {b o : Nat} {bs : List Bnd} (h : ∀ i, i < bs.length → SubAt W0 w b (o + i * 2) (bs.getD i Bnd.zero)) (j : Nat) (hj : j ≤ bs.length) (c : Nat) : Lies W0 w (some ⟨b, o, none⟩) j c (bs.take j) := by
  obtain ⟨ds, h1, h2⟩ := lie_ex (bs.take j) o (fun i hi => by
    have hl : i < j := by simp at hi; omega
    have := h i (by omega)
    rw [List.getD, List.getElem?_take, if_pos hl]
    exact this)
  exact ⟨by simp; omega, .inr ⟨b, o, ds, rfl, h1, h2⟩⟩
def insB (bs : List Bnd) (a : Nat) (x : Bnd) : List Bnd := bs.take a ++ [x] ++ bs.drop a
theorem insB_at (bs : List Bnd) (a : Nat) (x : Bnd) (ha : a ≤ bs.length) (i : Nat) : (insB bs a x).getD i Bnd.zero = if i < a then bs.getD i Bnd.zero else if i = a then x else bs.getD (i - 1) Bnd.zero := by
  unfold insB
  have hl : (bs.take a).length = a := by simp; omega
  by_cases h1 : i < a
  · rw [if_pos h1, List.append_assoc, List.getD, List.getElem?_append_left (by omega), List.getElem?_take, if_pos h1]; rfl
  · rw [if_neg h1]
    by_cases h2 : i = a
    · rw [if_pos h2, List.append_assoc, List.getD, List.getElem?_append_right (by omega), hl, h2]; simp
    · rw [if_neg h2, List.getD, List.getElem?_append_right (by simp; omega)]
      simp only [List.length_append, hl, List.length_singleton, List.getElem?_drop, List.getD]
      rw [show a + (i - (a + 1)) = i - 1 by omega]
theorem look_ins {bs : List Bnd} {a : Nat} {v : Int} {t : List Cel} (hnew : look bs v = none) (y : Int) : look (insB bs a (v, t)) y = if y = v then some t else look bs y := by
  have happ : ∀ (l l' : List Bnd) (z : Int), look (l ++ l') z = (look l z).or (look l' z) := fun l l' z => by
    induction l with
    | nil => simp [look]
    | cons p r ih =>
      obtain ⟨p1, p2⟩ := p
      by_cases e : p1 = z
      · simp [look, e]
      · simp [look, e]; rw [ih]
  have hsp : look bs y = (look (bs.take a) y).or (look (bs.drop a) y) := by rw [← happ, List.take_append_drop]
  have hsv : (look (bs.take a) v).or (look (bs.drop a) v) = none := by rw [← happ, List.take_append_drop]; exact hnew
  unfold insB
  rw [happ, happ]
  by_cases e : y = v
  · subst e
    rw [if_pos rfl]
    have h1 : look (bs.take a) y = none := by
      cases h : look (bs.take a) y with
      | none => rfl
      | some z => rw [h] at hsv; simp at hsv
    rw [h1]
    simp [look]
  · rw [if_neg e, hsp]
    have : look [(v, t)] y = none := by simp [look]; exact fun h => e h.symm
    rw [this]
    simp
theorem BsR.ins {bs : List Bnd} {M : BM} {v : Int} {T : Tr} {a : Nat} (h : BsR bs M) (hv : M v = none) (ha : a ≤ bs.length) (hlo : ∀ i, i < a → (bs.getD i Bnd.zero).1 < v) (hhi : a < bs.length → v < (bs.getD a Bnd.zero).1) : BsR (insB bs a (v, tcs T)) (M.set v T) := by
  have hlen : (insB bs a (v, tcs T)).length = bs.length + 1 := by unfold insB; simp; omega
  have hln : look bs v = none := by
    rcases h.rel v with ⟨u, h1, _⟩ | ⟨_, h2⟩
    · rw [hv] at h1; cases h1
    · exact h2
  refine ⟨fun i j hij hj => ?_, fun y => ?_⟩
  · rw [hlen] at hj
    have hhi' : ∀ k, a ≤ k → k < bs.length → v < (bs.getD k Bnd.zero).1 := fun k h1 h2 => by
      have h0 := hhi (by omega)
      by_cases e : k = a
      · rw [e]; exact h0
      · have := h.up a k (by omega) h2; omega
    rw [insB_at _ _ _ ha, insB_at _ _ _ ha]
    by_cases h1 : j < a
    · rw [if_pos (show i < a by omega), if_pos h1]; exact h.up i j hij (by omega)
    · rw [if_neg h1]
      by_cases h2 : j = a
      · rw [if_pos h2, if_pos (show i < a by omega)]; exact hlo i (by omega)
      · rw [if_neg h2]
        by_cases h3 : i < a
        · rw [if_pos h3]; exact h.up i (j - 1) (by omega) (by omega)
        · rw [if_neg h3]
          by_cases h4 : i = a
          · rw [if_pos h4]; exact hhi' (j - 1) (by omega) (by omega)
          · rw [if_neg h4]; exact h.up (i - 1) (j - 1) (by omega) (by omega)
  · rw [look_ins hln]
    unfold BM.set
    by_cases e : y = v
    · rw [if_pos e, if_pos e]; exact .inl ⟨T, rfl, rfl⟩
    · rw [if_neg e, if_neg e]; exact h.rel y
end Go.Proofs.YtaakpdakeolgeaaGreat

