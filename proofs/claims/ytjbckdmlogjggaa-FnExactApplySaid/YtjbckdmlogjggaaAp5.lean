/- Apply of the model. Own work of the verifier. Made by wip/draft/ap5.py. -/
import Derived.Test.YtjbckdmlogjggaaAp4
import Derived.Test.YtjbckdmlogjggaaBD5
import Derived.Test.YtjbckdmlogjggaaAppC
import Derived.Test.YtjbckdmlogjggaaCp1
namespace Go.Proofs.Ytjbckdmlogjggaa
open Go Go.RowKit
set_option linter.unusedVariables false

theorem CIn.part5 {w : World} {b o : Nat} {cs ds : List Cel} (h : ∀ i, i < cs.length → CAt w b (o + i * 3) (cs.getD i Cel.none)) (j : Nat) (hd : ds <+: cs.drop j) : CIn w (some ⟨b, o + j * 3, none⟩) ds := fun _ => by
  refine ⟨b, o + j * 3, rfl, fun i hi => ?_⟩
  obtain ⟨r, hr⟩ := hd
  have hl : j + i < cs.length := by
    have := congrArg List.length hr
    simp at this; omega
  have e : cs.getD (j + i) Cel.none = ds.getD i Cel.none := by
    have h1 : (cs.drop j)[i]? = ds[i]? := by rw [← hr, List.getElem?_append_left hi]
    rw [List.getElem?_drop] at h1
    simp only [List.getD, h1]
  have := h (j + i) hl
  rw [e, show o + (j + i) * 3 = o + j * 3 + i * 3 by omega] at this
  exact this
theorem look_find (bs : List Bnd) (v : Int) : (∃ k : Nat, k < bs.length ∧ findI (bs.map Prod.fst) v = (k : Int) ∧ look bs v = some (bs.getD k Bnd.zero).2) ∨ (findI (bs.map Prod.fst) v = -1 ∧ look bs v = none) := by
  cases h : look bs v with
  | none => exact .inr ⟨by rw [findI, if_neg ((look_none _ _).1 h)], rfl⟩
  | some t =>
    obtain ⟨hl, e⟩ := look_at bs v t h
    refine .inl ⟨_, hl, ?_, ?_⟩
    · rw [findI, if_pos]
      exact Classical.byContradiction fun hn => by rw [(look_none bs v).2 hn] at h; cases h
    · rw [← e]; simp [List.getD, hl]
theorem applyC_take (bs : List Bnd) (cs : List Cel) (j : Nat) (h : j < cs.length) : applyC bs (cs.take (j + 1)) = applyC bs (cs.take j) ++ sub1 bs (cs.getD j Cel.none) := by
  rw [applyC, applyC, List.take_succ_eq_append_getElem h, List.flatMap_append, List.getD, List.getElem?_eq_getElem h]
  simp
theorem applyC_le (bs : List Bnd) (cs : List Cel) (j : Nat) : (applyC bs (cs.take j)).length ≤ (applyC bs cs).length := by
  have h : applyC bs cs = applyC bs (cs.take j) ++ applyC bs (cs.drop j) := by rw [applyC, applyC, applyC, ← List.flatMap_append, List.take_append_drop]
  rw [h, List.length_append]; omega
theorem validB_pos {cs : List Cel} (h : validB cs = true) : 0 < cs.length := by
  cases cs with
  | nil => revert h; decide
  | cons a b => simp

set_option maxRecDepth 100000 in
set_option maxHeartbeats 2000000 in
theorem specApply_any (bs : List Bnd) (cs : List Cel) (p q : Option Addr) (n t c1 : Nat) (w : World) (hn : n = bs.length) (hm : t = cs.length) (hw : ∀ i, i < bs.length → -9223372036854775808 ≤ (bs.getD i Bnd.zero).1 ∧ (bs.getD i Bnd.zero).1 ≤ 9223372036854775807)
    (hl : bs.length + tll (trm bs) ≤ 1048576) (hlc : cs.length + tl cs ≤ 1048576) (hb : BdIn w p bs) (hc : CIn w q cs) :
    Calls Try.prog 15 #[.slice p n c1, .slice q t t] w (ApplyOut w bs cs) := by
  have HV1 := l5valid_any p n c1 bs w hn (by omega) hl hw hb
  have HV2 : Hid (∀ W, Below w.heap.size w W → Calls Try.prog 26 #[.slice q t t] W fun e w' => e = .returned (.bool (validB cs)) ∧ Below W.heap.size W w') := fun W hW => by rw [hm]; exact specValid_any q cs.length cs W (by omega) (hc.below hW)
  by_cases h1 : substB bs = true
  · rw [h1] at HV1
    by_cases h2 : validB cs = true
    · rw [h2] at HV2
      have hup := substFrom_up bs (-1) (by simp only [substB, Bool.and_eq_true] at h1; exact h1.2)
      have hmem := substFrom_mem bs (-1) (by simp only [substB, Bool.and_eq_true] at h1; exact h1.2)
      have hlen1 : n ≤ 1000 := by simp only [substB, Bool.and_eq_true, decide_eq_true_eq] at h1; omega
      have hlt2 : t ≤ 2000 := by have := validB_len h2; omega
      have hR : applyR bs cs = if (applyC bs cs).length ≤ 2000 then (applyC bs cs, 0) else ([], 3) := by rw [applyR, if_pos ⟨h1, h2⟩]
      have HFIN3 : Hid (∀ w', Below w.heap.size w w' → ∀ j, 2000 < (applyC bs (cs.take (j + 1))).length → ApplyOut w bs cs (.returned (.tuple #[.slice none 0 0, .int .i64 3])) w') := fun w' hb' j hj => by
        unfold ApplyOut
        have := applyC_le bs cs (j + 1)
        rw [hR, if_neg (by omega)]
        exact ⟨_, _, _, rfl, OwnC.nil _ _, hb'⟩
      have HFIN0 : Hid (∀ w' r m cr, Below w.heap.size w w' → OwnC w' w.heap.size r m cr (applyC bs (cs.take t)) → m ≤ 2000 → ApplyOut w bs cs (.returned (.tuple #[.slice r m cr, .int .i64 0])) w') := fun w' r m cr hb' ho hle => by
        unfold ApplyOut
        rw [List.take_of_length_le (by rw [hm]; exact Nat.le_refl _)] at ho
        rw [hR, if_pos (by rw [← ho.1]; exact hle)]
        exact ⟨_, _, _, rfl, ho, hb'⟩
      have HUP : Hid _ := hup
      have HMEM : Hid _ := hmem
      have HBD : Hid (BdIn w p bs) := hb
      have HC : Hid (CIn w q cs) := hc
      have HN : Hid (n = bs.length) := hn
      have HM : Hid (t = cs.length) := hm
      have HLL : Hid (bs.length + tll (trm bs) ≤ 1048576 ∧ cs.length + tl cs ≤ 1048576) := ⟨hl, hlc⟩
      clear h1 h2 hb hc hup hmem hR hn hm hw hl hlc
      go_enter Try.func15, Try.ntmps15
      go_wp2_with fail
      refine HV1.mono ?_
      rintro e w1 ⟨rfl, hb1⟩
      have HB1 : Hid (Below w.heap.size w w1) := hb1
      clear hb1 HV1
      go_wp2_with fail
      refine (HV2.out w1 HB1.out).mono ?_
      rintro e w2 ⟨rfl, hb2⟩
      have HB2 : Hid (Below w.heap.size w w2) := Below.on HB1.out hb2
      clear hb2
      go_wp2_with fail
      go_loopw [6, 7] (fun s i wr => ∃ (j : Nat) (r : Option Addr) (m cr : Nat), j ≤ t ∧ m ≤ 2000 ∧ i = .int .i64 j ∧ s = .slice r m cr ∧ Hid (OwnC wr w.heap.size r m cr (applyC bs (cs.take j))) ∧ Hid (Below w.heap.size w wr)) (fun _ i _ => t - (intOf i).toNat)
      case atStart => exact ⟨0, none, 0, 0, Nat.zero_le _, by decide, rfl, rfl, OwnC.nil _ _, HB2⟩
      case round =>
        obtain ⟨j, r, m, cr, hj, hm, rfl, rfl, HO, HB⟩ := hrel
        have hBs : w.heap.size ≤ wr.heap.size := HB.out.size
        by_cases hlt : j < t
        · have hjl : j < cs.length := by rw [← HM.out]; exact hlt
          obtain ⟨b, o, rfl, hcs⟩ := (HC.out.below HB.out) (by omega)
          have HCS : Hid (∀ i, i < cs.length → CAt wr b (o + i * 3) (cs.getD i Cel.none)) := hcs
          obtain ⟨p0, q0, d0, d1, d2, d3⟩ := hcs j hjl
          obtain ⟨ds, eds⟩ : ∃ ds, ds = sub1 bs (cs.getD j Cel.none) := ⟨_, rfl⟩
          have HDS : Hid (applyC bs (cs.take (j + 1)) = applyC bs (cs.take j) ++ ds) := by show _ = _; rw [applyC_take bs cs j hjl, ← eds]
          have HONE : Hid (Calls Try.prog 41 #[.slice (some ⟨b, o + j * 3, none⟩) 1 (t - j)] wr fun e w' => ∃ q m c2, e = .returned (.slice q m c2) ∧ OwnC w' wr.heap.size q m c2 [cs.getD j Cel.none] ∧ Below wr.heap.size wr w') := by
            have htl := tl_at cs j hjl
            have h5 := HLL.out.2
            refine l2copy_any _ 1 _ [cs.getD j Cel.none] wr rfl (by simp only [tl, List.length_cons, List.length_nil]; omega) (CIn.part5 hcs j ⟨cs.drop (j + 1), ?_⟩)
            rw [List.drop_eq_getElem_cons hjl]; simp [List.getD, hjl]
          clear hcs d3 d2
          by_cases hc0 : (cs.getD j Cel.none).1 = 0
          · rw [hc0] at d0
            have HIX := l5index_any p n c1 bs (cs.getD j Cel.none).2.1 wr HN.out (by omega) HUP.out (HBD.out.below HB.out)
            rcases look_find bs (cs.getD j Cel.none).2.1 with ⟨k, hk, ef, el⟩ | ⟨ef, el⟩
            · rw [ef] at HIX
              have eds2 : ds = (bs.getD k Bnd.zero).2 := by rw [eds, sub1, if_pos hc0, el]
              obtain ⟨bb, bo, rfl, hbs⟩ := (HBD.out.below HB.out) (by omega)
              obtain ⟨qd, cd, y0, y1, y2⟩ := hbs k hk
              rw [← eds2] at y1 y2
              have hv := HMEM.out (bs.getD k Bnd.zero) (by simp [List.getD, hk])
              rw [← eds2] at hv
              have HD0 : Hid (0 < ds.length ∧ ds.length ≤ 2000) := ⟨validB_pos hv.2.2, validB_len hv.2.2⟩
              have hbd := tll_at (trm bs) k (by rw [trm_len]; exact hk)
              rw [trm_at, ← eds2] at hbd
              have h5 := HLL.out.1
              obtain ⟨ld, eld⟩ : ∃ l, l = ds.length := ⟨_, rfl⟩
              rw [← eld] at y1
              have HCP : Hid (Calls Try.prog 41 #[.slice qd ld cd] wr fun e w' => ∃ q m c2, e = .returned (.slice q m c2) ∧ OwnC w' wr.heap.size q m c2 ds ∧ Below wr.heap.size wr w') := l2copy_any qd ld cd ds wr eld (by omega) y2
              have hkn : k < n := by rw [HN.out]; exact hk
              obtain ⟨vv, evv⟩ : ∃ v, v = (cs.getD j Cel.none).2.1 := ⟨_, rfl⟩
              rw [← evv] at d1 HIX
              clear eds eds2 ef el hbs y0 y2 hv hbd h5 eld evv hk hc0 HONE
              go_wp2_with fail
              refine HIX.mono ?_
              rintro e w9 ⟨rfl, hw9⟩
              rw [hw9]
              clear hw9 HIX
              go_wp2_with fail
              refine HCP.out.mono ?_
              rintro e w3 ⟨q3, m3, c3, rfl, ho3, hb3⟩
              have HO3 : Hid (OwnC w3 wr.heap.size q3 m3 c3 ds) := ho3
              have HB3 : Hid (Below wr.heap.size wr w3) := hb3
              have HM3 : Hid (m3 = ds.length) := ho3.1
              have hm3 : 0 < m3 := by rw [HM3.out]; exact HD0.out.1
              have hm3' : m3 ≤ 2000 := by rw [HM3.out]; exact HD0.out.2
              clear ho3 hb3 HCP
              by_cases hbig : m + m3 ≤ 2000
              · go_wp2_with (at_builtin; refine app_cells wr w3 rfl _ _ rfl w.heap.size r m cr _ rfl HO.out HB3.out hBs q3 m3 c3 _ rfl HO3.out hm3 (by omega) ?_; intro g4 n4 cap4 w4 hown4 hb4 hn4; have hn4' : n4 ≤ 2000 := by have := hn4.out; omega)
                have HO4 : Hid (OwnC w4 w.heap.size (some ⟨g4, 0, none⟩) n4 cap4 (applyC bs (cs.take (j + 1)))) := by rw [HDS.out]; exact hown4
                have HB4 : Hid (Below w.heap.size w w4) := (Below.on HB.out HB3.out).trans hb4
                clear hown4 hb4
                go_roundw
                case rel => exact ⟨j + 1, _, n4, cap4, by omega, hn4', by go_num, rfl, HO4, HB4⟩
                case measure => simp [intOf]; omega
              · go_wp2_with (at_builtin; refine app_cells wr w3 rfl _ _ rfl w.heap.size r m cr _ rfl HO.out HB3.out hBs q3 m3 c3 _ rfl HO3.out hm3 (by omega) ?_; intro g4 n4 cap4 w4 hown4 hb4 hn4; have hn4' : 2000 < n4 := by have := hn4.out; omega)
                go_ret2
                refine HFIN3.out w4 ((Below.on HB.out HB3.out).trans hb4) j ?_
                rw [HDS.out, ← hown4.1]; exact hn4'
            · rw [ef] at HIX
              have eds2 : ds = [cs.getD j Cel.none] := by rw [eds, sub1, if_pos hc0, el]
              rw [← eds2] at HONE
              have HD0 : Hid (0 < ds.length ∧ ds.length ≤ 2000) := by rw [eds2]; exact ⟨by simp, by simp⟩
              have HCP := HONE
              obtain ⟨vv, evv⟩ : ∃ v, v = (cs.getD j Cel.none).2.1 := ⟨_, rfl⟩
              rw [← evv] at d1 HIX
              clear eds eds2 ef el evv hc0 HONE
              go_wp2_with fail
              refine HIX.mono ?_
              rintro e w9 ⟨rfl, hw9⟩
              rw [hw9]
              clear hw9 HIX
              go_wp2_with fail
              refine HCP.out.mono ?_
              rintro e w3 ⟨q3, m3, c3, rfl, ho3, hb3⟩
              have HO3 : Hid (OwnC w3 wr.heap.size q3 m3 c3 ds) := ho3
              have HB3 : Hid (Below wr.heap.size wr w3) := hb3
              have HM3 : Hid (m3 = ds.length) := ho3.1
              have hm3 : 0 < m3 := by rw [HM3.out]; exact HD0.out.1
              have hm3' : m3 ≤ 2000 := by rw [HM3.out]; exact HD0.out.2
              clear ho3 hb3 HCP
              by_cases hbig : m + m3 ≤ 2000
              · go_wp2_with (at_builtin; refine app_cells wr w3 rfl _ _ rfl w.heap.size r m cr _ rfl HO.out HB3.out hBs q3 m3 c3 _ rfl HO3.out hm3 (by omega) ?_; intro g4 n4 cap4 w4 hown4 hb4 hn4; have hn4' : n4 ≤ 2000 := by have := hn4.out; omega)
                have HO4 : Hid (OwnC w4 w.heap.size (some ⟨g4, 0, none⟩) n4 cap4 (applyC bs (cs.take (j + 1)))) := by rw [HDS.out]; exact hown4
                have HB4 : Hid (Below w.heap.size w w4) := (Below.on HB.out HB3.out).trans hb4
                clear hown4 hb4
                go_roundw
                case rel => exact ⟨j + 1, _, n4, cap4, by omega, hn4', by go_num, rfl, HO4, HB4⟩
                case measure => simp [intOf]; omega
              · go_wp2_with (at_builtin; refine app_cells wr w3 rfl _ _ rfl w.heap.size r m cr _ rfl HO.out HB3.out hBs q3 m3 c3 _ rfl HO3.out hm3 (by omega) ?_; intro g4 n4 cap4 w4 hown4 hb4 hn4; have hn4' : 2000 < n4 := by have := hn4.out; omega)
                go_ret2
                refine HFIN3.out w4 ((Below.on HB.out HB3.out).trans hb4) j ?_
                rw [HDS.out, ← hown4.1]; exact hn4'
          · have eds2 : ds = [cs.getD j Cel.none] := by rw [eds, sub1, if_neg hc0]
            rw [← eds2] at HONE
            have HD0 : Hid (0 < ds.length ∧ ds.length ≤ 2000) := by rw [eds2]; exact ⟨by simp, by simp⟩
            have HCP := HONE
            obtain ⟨kk, ekk⟩ : ∃ v, v = (cs.getD j Cel.none).1 := ⟨_, rfl⟩
            rw [← ekk] at d0 hc0
            have hc0' : (kk == 0) = false := by simpa using hc0
            clear eds eds2 ekk hc0 HONE d1
            go_wp2_with fail
            refine HCP.out.mono ?_
            rintro e w3 ⟨q3, m3, c3, rfl, ho3, hb3⟩
            have HO3 : Hid (OwnC w3 wr.heap.size q3 m3 c3 ds) := ho3
            have HB3 : Hid (Below wr.heap.size wr w3) := hb3
            have HM3 : Hid (m3 = ds.length) := ho3.1
            have hm3 : 0 < m3 := by rw [HM3.out]; exact HD0.out.1
            have hm3' : m3 ≤ 2000 := by rw [HM3.out]; exact HD0.out.2
            clear ho3 hb3 HCP
            by_cases hbig : m + m3 ≤ 2000
            · go_wp2_with (at_builtin; refine app_cells wr w3 rfl _ _ rfl w.heap.size r m cr _ rfl HO.out HB3.out hBs q3 m3 c3 _ rfl HO3.out hm3 (by omega) ?_; intro g4 n4 cap4 w4 hown4 hb4 hn4; have hn4' : n4 ≤ 2000 := by have := hn4.out; omega)
              have HO4 : Hid (OwnC w4 w.heap.size (some ⟨g4, 0, none⟩) n4 cap4 (applyC bs (cs.take (j + 1)))) := by rw [HDS.out]; exact hown4
              have HB4 : Hid (Below w.heap.size w w4) := (Below.on HB.out HB3.out).trans hb4
              clear hown4 hb4
              go_roundw
              case rel => exact ⟨j + 1, _, n4, cap4, by omega, hn4', by go_num, rfl, HO4, HB4⟩
              case measure => simp [intOf]; omega
            · go_wp2_with (at_builtin; refine app_cells wr w3 rfl _ _ rfl w.heap.size r m cr _ rfl HO.out HB3.out hBs q3 m3 c3 _ rfl HO3.out hm3 (by omega) ?_; intro g4 n4 cap4 w4 hown4 hb4 hn4; have hn4' : 2000 < n4 := by have := hn4.out; omega)
              go_ret2
              refine HFIN3.out w4 ((Below.on HB.out HB3.out).trans hb4) j ?_
              rw [HDS.out, ← hown4.1]; exact hn4'
        · obtain rfl : j = t := by omega
          go_wp2_with fail
          go_ret2
          exact HFIN0.out _ _ _ _ HB.out HO.out hm
    · have h2' : validB cs = false := by simpa using h2
      rw [h2'] at HV2
      have HFIN : Hid (∀ w', Below w.heap.size w w' → ApplyOut w bs cs (.returned (.tuple #[.slice none 0 0, .int .i64 1])) w') := fun w' hb => by
        unfold ApplyOut
        rw [applyR, if_neg (fun h => h2 h.2)]
        exact ⟨_, _, _, rfl, OwnC.nil _ _, hb⟩
      clear h1 h2 h2' hb hc hn hm hw
      go_enter Try.func15, Try.ntmps15
      go_wp2_with fail
      refine HV1.mono ?_
      rintro e w1 ⟨rfl, hb1⟩
      have HB1 : Hid (Below w.heap.size w w1) := hb1
      clear hb1 HV1
      go_wp2_with fail
      refine (HV2.out w1 HB1.out).mono ?_
      rintro e w2 ⟨rfl, hb2⟩
      have HB2 : Hid (Below w.heap.size w w2) := Below.on HB1.out hb2
      clear hb2
      go_wp2_with fail
      go_ret2
      exact HFIN.out _ HB2.out
  · have h1' : substB bs = false := by simpa using h1
    rw [h1'] at HV1
    have HFIN : Hid (∀ w', Below w.heap.size w w' → ApplyOut w bs cs (.returned (.tuple #[.slice none 0 0, .int .i64 1])) w') := fun w' hb => by
      unfold ApplyOut
      rw [applyR, if_neg (fun h => h1 h.1)]
      exact ⟨_, _, _, rfl, OwnC.nil _ _, hb⟩
    clear h1 h1' hb hc hn hm hw
    go_enter Try.func15, Try.ntmps15
    go_wp2_with fail
    refine HV1.mono ?_
    rintro e w1 ⟨rfl, hb1⟩
    go_wp2_with fail
    go_ret2
    exact HFIN.out _ hb1

end Go.Proofs.Ytjbckdmlogjggaa
