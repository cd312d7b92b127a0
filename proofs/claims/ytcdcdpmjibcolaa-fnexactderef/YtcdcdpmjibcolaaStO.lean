/- The model: is a store valid. Own work of the verifier. -/
import Derived.Test.YtcdcdpmjibcolaaStN
import Derived.Test.YtcdcdpmjibcolaaStY
namespace Go.Proofs.Ytcdcdpmjibcolaa
open Go Go.RowKit
set_option linter.unusedVariables false

theorem mkV_zero (L : Nat) : mkV L (fun _ => 0) = List.replicate L (.int .i64 0) := by
  apply List.ext_getElem?
  intro i
  by_cases h : i < L
  · simp [mkV, h]
  · simp [mkV, h]
theorem shapeF_at (xs : List Cel) (b : Int) (k : Nat) (h : k < xs.length) : shapeF xs b (xs.drop k) = if kndA xs k = 3 then (if 0 < b ∨ numA xs k < 1 ∨ 20 < numA xs k ∨ 100 < (xs.getD k Cel.none).2.2.length ∨ (xs.length : Int) ≤ k + numA xs k then false else shapeF xs (numA xs k) (xs.drop (k + 1)))
      else if wordB xs (kndA xs k) (numA xs k) (xs.getD k Cel.none).2.2.length = false then false else shapeF xs (if 0 < b then b - 1 else b) (xs.drop (k + 1)) := by
  rw [drop_cel xs k h, shapeF]
  have e : (((xs.drop (k + 1)).length : Int) < (xs.getD k Cel.none).2.1) = ((xs.length : Int) ≤ k + (xs.getD k Cel.none).2.1) := by
    rw [List.length_drop]; apply propext; constructor <;> (intro; omega)
  simp only [e]; rfl
theorem store_shape {xs : List Cel} {tr : List Int} (h : shapeF xs 0 xs = false) : storeB xs tr = false := by
  rw [shape_whole xs xs 0 (Int.le_refl _) (by omega)] at h
  unfold storeB; rw [h]; simp
theorem shp_shape {xs : List Cel} (hl : xs.length ≤ 20000) (h : shapeF xs 0 xs = true) : Shp xs := by
  rw [shape_whole xs xs 0 (Int.le_refl _) (by omega), Bool.and_eq_true] at h
  exact shp_of hl h.1 h.2
theorem store_end {xs : List Cel} {tr : List Int} (hl : xs.length ≤ 20000) (ht : tr.length ≤ 20000) (h : shapeF xs 0 xs = true) (h2 : tr.all (isWB xs) = true) : storeB xs tr = acycB xs := by
  rw [shape_whole xs xs 0 (Int.le_refl _) (by omega)] at h
  unfold storeB; rw [h, h2, decide_eq_true hl, decide_eq_true ht]; simp

set_option maxHeartbeats 4000000 in
set_option maxRecDepth 100000 in
theorem l10valid_any (p q : Option Addr) (c1 c2 : Nat) (xs : List Cel) (tr : List Int) (w : World) (hx : xs.length ≤ 1000000000) (hy : tr.length ≤ 1000000000) (hc : CIn w p xs) (hi : IIn w q tr) :
    Calls Try.prog 51 #[.agg #[.slice p xs.length c1, .slice q tr.length c2]] w fun e w' => e = .returned (.bool (storeB xs tr)) ∧ Below w.heap.size w w' := by
  have HC : Hid (CIn w p xs) := hc
  have HI : Hid (IIn w q tr) := hi
  clear hc hi
  by_cases hl : xs.length ≤ 20000
  · have hl' : ¬ (20000 : Int) < xs.length := by omega
    by_cases ht : tr.length ≤ 20000
    · have ht' : ¬ (20000 : Int) < tr.length := by omega
      have HST : Hid (∀ W, Below (w.heap.size + 1) (w.alloc (.cells #[.slice p xs.length c1, .slice q tr.length c2] 36)) W → W.cell? ⟨w.heap.size, 0, none⟩ = some (.slice p xs.length c1) ∧ W.cell? ⟨w.heap.size, 1, none⟩ = some (.slice q tr.length c2) ∧ Below w.heap.size w W) := fun W hW => by
        have k := (hW.block w.heap.size (by omega)).trans (heap_alloc_new w (.cells #[.slice p xs.length c1, .slice q tr.length c2] 36))
        exact ⟨by simp [World.cell?, k], by simp [World.cell?, k], ((Below.refl _ _).alloc (Nat.le_refl _) _).trans (hW.mono (by omega))⟩
      have HW0 : Hid (Below (w.heap.size + 1) (w.alloc (.cells #[.slice p xs.length c1, .slice q tr.length c2] 36)) (w.alloc (.cells #[.slice p xs.length c1, .slice q tr.length c2] 36))) := Below.refl _ _
      have HSZ : Hid (∀ W, Below (w.heap.size + 1) (w.alloc (.cells #[.slice p xs.length c1, .slice q tr.length c2] 36)) W → w.heap.size + 1 ≤ W.heap.size) := fun W hW => by have := hW.size; simpa using this
      go_enter Try.func51, Try.ntmps51
      go_wp2
      generalize (w.alloc (.cells #[.slice p xs.length c1, .slice q tr.length c2] 36)) = W1 at HST HW0 HSZ ⊢
      clear hl' ht'
      go_loopw [4, 5] (fun s i wr => ∃ (k : Nat) (bh : Int), k ≤ xs.length ∧ 0 ≤ bh ∧ bh ≤ 20 ∧ s = .int .i64 bh ∧ i = .int .i64 k ∧ Hid (shapeF xs 0 xs = shapeF xs bh (xs.drop k)) ∧ Hid (Below (w.heap.size + 1) W1 wr)) (fun _ i _ => xs.length - (intOf i).toNat)
      case atStart => exact ⟨0, 0, Nat.zero_le _, by decide, by decide, rfl, rfl, rfl, HW0.out⟩
      case round =>
        obtain ⟨k, bh, hk, hb0, hb1, rfl, rfl, HV, HB⟩ := hrel
        obtain ⟨s0, s1, hbw⟩ := HST.out _ HB.out
        have HBW : Hid (Below w.heap.size w wr) := hbw
        have HZ := HSZ.out _ HB.out
        clear hbw
        by_cases hlt : k < xs.length
        · obtain ⟨b, o, rfl, hcs⟩ := HC.out (by omega)
          obtain ⟨qx, qc, h0, h1, h2, h3⟩ := (hcs k hlt).below HBW.out
          have HA : Hid _ := shapeF_at xs bh k hlt
          have e0 : (xs.getD k Cel.none).1 = kndA xs k := rfl
          have e1 : (xs.getD k Cel.none).2.1 = numA xs k := rfl
          rw [e0] at h0
          rw [e1] at h1
          generalize kndA xs k = d0 at h0 HA
          generalize numA xs k = d1 at h1 HA
          generalize (xs.getD k Cel.none).2.2.length = d2 at h2 HA
          have HBX : Hid (Below wr.heap.size wr (wr.alloc (.cells #[.int .i64 d0, .int .i64 d1, .slice qx d2 qc] 31))) := (Below.refl _ _).alloc (Nat.le_refl _) _
          have HB1 : Hid (Below (w.heap.size + 1) W1 (wr.alloc (.cells #[.int .i64 d0, .int .i64 d1, .slice qx d2 qc] 31))) := Below.trans HB.out (HBX.out.mono HZ)
          have HF : Hid (∀ W, Below (w.heap.size + 1) W1 W → Below w.heap.size w W) := fun W hW => (HST.out W hW).2.2
          clear hcs e0 e1 h3
          by_cases d3 : d0 = 3
          · subst d3
            rw [if_pos rfl] at HA
            by_cases t1 : 0 < bh
            · rw [if_pos (.inl t1)] at HA
              go_wp2
              go_ret
              exact ⟨ret_bool (by rw [store_shape (by rw [HV.out, HA.out])]), HF.out _ HB1.out⟩
            · by_cases t2 : d1 < 1
              · rw [if_pos (.inr (.inl t2))] at HA
                go_wp2
                go_ret
                exact ⟨ret_bool (by rw [store_shape (by rw [HV.out, HA.out])]), HF.out _ HB1.out⟩
              · by_cases t3 : 20 < d1
                · rw [if_pos (.inr (.inr (.inl t3)))] at HA
                  go_wp2
                  go_ret
                  exact ⟨ret_bool (by rw [store_shape (by rw [HV.out, HA.out])]), HF.out _ HB1.out⟩
                · by_cases t4 : 100 < d2
                  · rw [if_pos (.inr (.inr (.inr (.inl t4))))] at HA
                    have t4' : (100 : Int) < d2 := by omega
                    go_wp2
                    go_ret
                    exact ⟨ret_bool (by rw [store_shape (by rw [HV.out, HA.out])]), HF.out _ HB1.out⟩
                  · have t4' : ¬ (100 : Int) < d2 := by omega
                    by_cases t5 : (xs.length : Int) ≤ k + d1
                    · rw [if_pos (.inr (.inr (.inr (.inr t5))))] at HA
                      go_wp2
                      go_ret
                      exact ⟨ret_bool (by rw [store_shape (by rw [HV.out, HA.out])]), HF.out _ HB1.out⟩
                    · rw [if_neg (by omega)] at HA
                      go_wp2
                      go_roundw
                      case rel => exact ⟨k + 1, d1, by omega, by omega, by omega, rfl, by go_num, by show _ = _; rw [HV.out, HA.out], HB1.out⟩
                      case measure => simp [intOf]; omega
          · have d3' : (d0 == 3) = false := by simpa using d3
            rw [if_neg d3] at HA
            have HWC := l10word_any (some ⟨b, o, none⟩) qx c1 d2 qc d0 d1 xs (wr.alloc (.cells #[.int .i64 d0, .int .i64 d1, .slice qx d2 qc] 31)) hl (HC.out.below (HF.out _ HB1.out))
            have HSB : Hid (∀ W, Below (w.heap.size + 1) W1 W → W.cell? ⟨w.heap.size, 0, none⟩ = some (.slice (some ⟨b, o, none⟩) xs.length c1)) := fun W hW => (HST.out W hW).1
            have s0' := HSB.out _ HB1.out
            clear d3
            cases hwb : wordB xs d0 d1 d2
            · rw [hwb] at HWC HA
              rw [if_pos rfl] at HA
              clear hwb
              go_wp2_with fail
              refine HWC.mono ?_
              rintro e w2 ⟨rfl, hb2⟩
              have HB2 : Hid (Below (w.heap.size + 1) W1 w2) := HB1.out.trans (hb2.mono (by simp; omega))
              clear hb2
              go_wp2
              go_ret
              exact ⟨ret_bool (by rw [store_shape (by rw [HV.out, HA.out])]), HF.out _ HB2.out⟩
            · rw [hwb] at HWC HA
              rw [if_neg (by simp)] at HA
              clear hwb
              by_cases t1 : 0 < bh
              · rw [if_pos t1] at HA
                go_wp2_with fail
                refine HWC.mono ?_
                rintro e w2 ⟨rfl, hb2⟩
                have HB2 : Hid (Below (w.heap.size + 1) W1 w2) := HB1.out.trans (hb2.mono (by simp; omega))
                clear hb2 s0 s1 s0' h0 h1 h2
                go_wp2
                go_roundw
                case rel => exact ⟨k + 1, bh - 1, by omega, by omega, by omega, by go_num, by go_num, by show _ = _; rw [HV.out, HA.out], HB2.out⟩
                case measure => simp [intOf]; omega
              · rw [if_neg t1] at HA
                go_wp2_with fail
                refine HWC.mono ?_
                rintro e w2 ⟨rfl, hb2⟩
                have HB2 : Hid (Below (w.heap.size + 1) W1 w2) := HB1.out.trans (hb2.mono (by simp; omega))
                clear hb2 s0 s1 s0' h0 h1 h2
                go_wp2
                go_roundw
                case rel => exact ⟨k + 1, bh, by omega, by omega, by omega, rfl, by go_num, by show _ = _; rw [HV.out, HA.out], HB2.out⟩
                case measure => simp [intOf]; omega
        · obtain rfl : k = xs.length := by omega
          have HSH : Hid (shapeF xs 0 xs = true) := by
            have := HV.out
            rw [List.drop_length] at this
            exact this
          clear HV s0 s1
          go_wp2
          go_loopw [7] (fun i wr => ∃ (k : Nat), k ≤ tr.length ∧ i = .int .i64 k ∧ Hid (∀ j, j < k → isWB xs (tr.getD j 0) = true) ∧ Hid (Below (w.heap.size + 1) W1 wr)) (fun i _ => tr.length - (intOf i).toNat)
          case atStart => exact ⟨0, Nat.zero_le _, rfl, fun _ h => absurd h (Nat.not_lt_zero _), HB.out⟩
          case round =>
            clear hb0 hb1 HB HBW HZ
            obtain ⟨k, hk, rfl, HV, HB⟩ := hrel
            obtain ⟨s0, s1, hbw⟩ := HST.out _ HB.out
            have HBW : Hid (Below w.heap.size w wr) := hbw
            clear hbw
            by_cases hlt : k < tr.length
            · obtain ⟨gi, oi, rfl, hci⟩ := HI.out (by omega)
              have hv := (HBW.out.cell (World.block_lt_of_cell? _ _ (hci k hlt))).trans (hci k hlt)
              have HBAD : Hid (isWB xs (tr.getD k 0) = false → storeB xs tr = false) := fun h => by
                have := allI_not (p := isWB xs) hlt h
                unfold storeB; rw [this]; simp
              have HGO : Hid (isWB xs (tr.getD k 0) = true → ∀ j, j < k + 1 → isWB xs (tr.getD j 0) = true) := fun h j hj => by
                rcases Nat.lt_or_eq_of_le (Nat.lt_succ_iff.1 hj) with hj | rfl
                · exact HV.out j hj
                · exact h
              generalize tr.getD k 0 = a at hv HBAD HGO
              clear hci HV
              by_cases a0 : a < 0
              · have HF : Hid (isWB xs a = false) := by show _ = _; simp [isWB]; omega
                go_wp2
                go_ret
                exact ⟨ret_bool (by rw [HBAD.out HF.out]), HBW.out⟩
              · by_cases a1 : a < xs.length
                · obtain ⟨j, rfl⟩ : ∃ j : Nat, a = j := ⟨a.toNat, by omega⟩
                  have hj : j < xs.length := by omega
                  obtain ⟨b, o, rfl, hcs⟩ := HC.out (by omega)
                  obtain ⟨_, _, h0, _, _, _⟩ := (hcs j hj).below HBW.out
                  have HF : Hid (isWB xs j = !decide ((xs.getD j Cel.none).1 = 3)) := by show _ = _; simp [isWB, kndA, hj]
                  generalize (xs.getD j Cel.none).1 = d at h0 HF
                  clear hcs
                  by_cases d3 : d = 3
                  · subst d3
                    go_wp2
                    go_ret
                    exact ⟨ret_bool (by rw [HBAD.out (by rw [HF.out]; rfl)]), HBW.out⟩
                  · have d3' : (d == 3) = false := by simpa using d3
                    have HF' : Hid (isWB xs j = true) := by show _ = _; rw [HF.out]; simp [d3]
                    clear d3 HF
                    go_wp2
                    go_roundw
                    case rel => exact ⟨k + 1, by omega, by go_num, HGO.out HF'.out, HB.out⟩
                    case measure => simp [intOf]; omega
                · have HF : Hid (isWB xs a = false) := by show _ = _; simp [isWB]; omega
                  go_wp2
                  go_ret
                  exact ⟨ret_bool (by rw [HBAD.out HF.out]), HBW.out⟩
            · obtain rfl : k = tr.length := by omega
              have HTA : Hid (tr.all (isWB xs) = true) := allI_at HV.out
              have HS : Hid (Shp xs) := shp_shape hl HSH.out
              have HES : Hid _ := store_end (tr := tr) hl ht HSH.out HTA.out
              obtain ⟨i0, hi0, hz0, hz1, hz2⟩ := info_parts infoInt
              clear HV s0
              have hmx : xs.length ≤ maxLen := by unfold maxLen; omega
              go_wp2_with (at_make; refine wpList_make_full _ rfl _ _ 23 rfl wr.heap.size 3 i0 (.int .i64 0) 1 Try.underlying23 hi0 hz0 hz1 _ _ _ _ xs.length rfl rfl rfl rfl (by rw [hz2]; omega) hmx (Nat.le_refl _) ?_; intro wm hown hgrow)
              have HZ := HSZ.out _ HB.out
              have hb1 : Below wr.heap.size wr wm := (Below.refl _ _).grown hgrow (Nat.le_refl _) (fun k h => by cases h)
              have HO : Hid (RowM wm wr.heap.size xs.length (fun _ => 0)) := by
                have := hown; simp [Value.cells, toList_madeCells_one] at this
                show World.ownsRow _ _ _ _ _ _ _
                rw [mkV_zero]; exact this
              have HBm : Hid (Below (w.heap.size + 1) W1 wm) := HB.out.trans (hb1.mono HZ)
              clear hown hgrow hb1 s1 HB HBW
              generalize wr.heap.size = b at HO HZ ⊢
              go_loopw [10] (fun i wr => ∃ (k : Nat) (m : Nat → Nat), k ≤ xs.length ∧ i = .int .i64 k ∧ Hid (Below (w.heap.size + 1) W1 wr) ∧ Hid (RowM wr b xs.length m) ∧ Hid (∀ o, m o ≠ 1) ∧ Hid (∀ o, m o = 2 → Acc (Stp xs) o) ∧ Hid (∀ o, m o ≤ 2) ∧ Hid (∀ a, a < k → ∀ x, tgt xs (kndA xs a) (numA xs a) = some x → Acc (Stp xs) x)) (fun i _ => xs.length - (intOf i).toNat)
              case atStart => exact ⟨0, fun _ => 0, Nat.zero_le _, rfl, HBm.out, HO.out, fun o h => (by cases h), fun o h => (by cases h), fun o => Nat.zero_le _, fun a h => absurd h (Nat.not_lt_zero _)⟩
              case round =>
                obtain ⟨k, m, hk, rfl, HB, HM, H1, H2, H3, H4⟩ := hrel
                obtain ⟨s0, s1, hbw⟩ := HST.out _ HB.out
                have HBW : Hid (Below w.heap.size w wr) := hbw
                clear hbw
                by_cases hlt : k < xs.length
                · obtain ⟨g, o, rfl, hcs⟩ := HC.out (by omega)
                  obtain ⟨qx, qc, h0, h1, h2, h3⟩ := (hcs k hlt).below HBW.out
                  have HCALL : Hid (∀ d, Calls Try.prog 77 #[.slice (some ⟨g, o, none⟩) xs.length c1, .slice (some ⟨b, 0, none⟩) xs.length xs.length, .agg #[.int .i64 (xs.getD k Cel.none).1, .int .i64 (xs.getD k Cel.none).2.1, .slice qx (xs.getD k Cel.none).2.2.length qc]] (wr.drewN d) (RndOut xs b m (kndA xs k) (numA xs k) (wr.drewN d))) := fun d =>
                    round_any (some ⟨g, o, none⟩) c1 xs w HS.out HC.out (unk xs.length m + 1) b m (kndA xs k) (numA xs k) qx (xs.getD k Cel.none).2.2.length qc (wr.drewN d) (HS.out.word hlt) (by omega) (by omega) (below_drewN HBW.out d) (HM.out.below (below_drewN (Below.refl _ _) d)) (fun x hx oo ho => absurd ho (H1.out oo)) H2.out H3.out
                  have HK3 : Hid ((xs.getD k Cel.none).1 = 3 → ∀ x, tgt xs (kndA xs k) (numA xs k) = some x → Acc (Stp xs) x) := fun h3 x hx => by
                    have h3' : kndA xs k = 3 := h3
                    rw [h3'] at hx; simp [tgt] at hx
                  have HN4 : Hid ((∀ x, tgt xs (kndA xs k) (numA xs k) = some x → Acc (Stp xs) x) → ∀ a, a < k + 1 → ∀ x, tgt xs (kndA xs a) (numA xs a) = some x → Acc (Stp xs) x) := fun hh a ha => by
                    rcases Nat.lt_or_eq_of_le (Nat.lt_succ_iff.1 ha) with ha | rfl
                    · exact H4.out a ha
                    · exact hh
                  have HCY : Hid ((∃ x, tgt xs (kndA xs k) (numA xs k) = some x ∧ ¬ Acc (Stp xs) x) → acycB xs = false) := fun ⟨x, hx, hnx⟩ => acycB_false fun ha => hnx ((acyc_iff HS.out).1 ha k hlt x hx)
                  have HDN : Hid (RowM (wr.drewN 1) b xs.length m) := HM.out.below (below_drewN (Below.refl _ _) 1)
                  generalize (xs.getD k Cel.none).1 = d0 at h0 HCALL HK3
                  generalize (xs.getD k Cel.none).2.1 = d1 at h1 HCALL
                  generalize (xs.getD k Cel.none).2.2.length = d2 at h2 HCALL
                  clear hcs h3
                  by_cases d3 : d0 = 3
                  · have HK : Hid _ := HK3.out d3
                    subst d3
                    clear HCALL
                    go_wp2
                    go_region
                    all_goals go_wp2
                    all_goals go_roundw
                    all_goals first
                      | (exact ⟨k + 1, m, by omega, by go_num, below_drewN HB.out 1, HDN.out, H1.out, H2.out, H3.out, HN4.out HK.out⟩)
                      | (simp [intOf]; omega)
                  · have d3' : (d0 != 3) = true := by simpa using d3
                    clear d3 HK3
                    go_wp2
                    go_region_with (go_at_call 77; refine (HCALL.out 1).mono ?_; rintro e w4 ⟨r, m4, rfl, hg4, hm4, hr1, hr0⟩; have HB4 : Hid (Below (w.heap.size + 1) W1 w4) := (below_drewN HB.out 1).trans (gB_down hg4 (by omega) (by have := HSZ.out _ HB.out; simpa using this)); have HM4 : Hid (RowM w4 b xs.length m4) := hm4; have HR1 : Hid _ := hr1; have HR0 : Hid _ := hr0; clear hg4 hm4 hr1 hr0)
                    all_goals cases r
                    all_goals go_wp2
                    all_goals first
                      | (go_ret; exact ⟨ret_bool (by rw [HES.out, HCY.out (HR0.out (by trivial))]), (HST.out _ HB4.out).2.2⟩)
                      | (go_roundw <;> first
                          | exact ⟨k + 1, m4, by omega, by go_num, HB4.out, HM4.out, fun o ho => H1.out o (((HR1.out (by trivial)).2.1 o).1 ho), (HR1.out (by trivial)).2.2.1, (HR1.out (by trivial)).2.2.2.2, HN4.out (HR1.out (by trivial)).1⟩
                          | (simp [intOf]; omega))
                · obtain rfl : k = xs.length := by omega
                  have HAC : Hid (acycB xs = true) := acycB_true ((acyc_iff HS.out).2 fun a ha => H4.out a ha)
                  go_wp2
                  go_ret
                  exact ⟨ret_bool (by rw [HES.out, HAC.out]), HBW.out⟩
    · have ht' : (20000 : Int) < tr.length := by omega
      have hbad : storeB xs tr = false := by unfold storeB; rw [decide_eq_false ht]; simp
      have HBad : Hid _ := hbad
      clear hbad ht
      go_enter Try.func51, Try.ntmps51
      go_wp2
      go_ret
      exact ⟨ret_bool (by rw [HBad.out]), (Below.refl _ _).alloc (Nat.le_refl _) _⟩
  · have hl' : (20000 : Int) < xs.length := by omega
    have hbad : storeB xs tr = false := by unfold storeB; rw [decide_eq_false hl]; simp
    have HBad : Hid _ := hbad
    clear hbad hl
    go_enter Try.func51, Try.ntmps51
    go_wp2
    go_ret
    exact ⟨ret_bool (by rw [HBad.out]), (Below.refl _ _).alloc (Nat.le_refl _) _⟩

set_option maxRecDepth 100000 in
theorem specVS_any (p q pt : Option Addr) (c1 c2 cap : Nat) (k n : Int) (t : List Int) (xs : List Cel) (tr : List Int) (w : World) (hx : xs.length ≤ 1000000000) (hy : tr.length ≤ 1000000000) (hc : CIn w p xs) (hi : IIn w q tr) :
    Calls Try.prog 38 #[.agg #[.slice p xs.length c1, .slice q tr.length c2], .agg #[.int .i64 k, .int .i64 n, .slice pt t.length cap]] w fun e w' => e = .returned (.bool (vsB xs tr k n t.length)) ∧ Below w.heap.size w w' := by
  have HB0 : Hid (Below w.heap.size w ((w.alloc (.cells #[.slice p xs.length c1, .slice q tr.length c2] 36)).alloc (.cells #[.int .i64 k, .int .i64 n, .slice pt t.length cap] 31))) := ((Below.refl _ _).alloc (Nat.le_refl _) _).alloc (by simp) _
  have HV := l10valid_any p q c1 c2 xs tr _ hx hy (hc.below HB0.out) (hi.below HB0.out)
  have HC : Hid (CIn w p xs) := hc
  have HE : Hid (vsB xs tr k n t.length = (storeB xs tr && wordB xs k n t.length)) := rfl
  have k0 : ((w.alloc (.cells #[.slice p xs.length c1, .slice q tr.length c2] 36)).alloc (.cells #[.int .i64 k, .int .i64 n, .slice pt t.length cap] 31)).heap[w.heap.size]? = some (.cells #[.slice p xs.length c1, .slice q tr.length c2] 36) := by
    rw [Below.heap_alloc _ _ _ (by simp)]; exact heap_alloc_new _ _
  have k1 : ((w.alloc (.cells #[.slice p xs.length c1, .slice q tr.length c2] 36)).alloc (.cells #[.int .i64 k, .int .i64 n, .slice pt t.length cap] 31)).heap[w.heap.size + 1]? = some (.cells #[.int .i64 k, .int .i64 n, .slice pt t.length cap] 31) := by
    have := heap_alloc_new (w.alloc (.cells #[.slice p xs.length c1, .slice q tr.length c2] 36)) (.cells #[.int .i64 k, .int .i64 n, .slice pt t.length cap] 31)
    simpa using this
  have HK0 : Hid _ := k0
  have HK1 : Hid _ := k1
  clear hc hi k0 k1
  go_enter Try.func38, Try.ntmps38
  go_wp2_with fail
  refine HV.mono ?_
  rintro e w1 ⟨rfl, hb⟩
  have b0 := (hb.block w.heap.size (by simp; omega)).trans HK0.out
  have bb : Box3 w1 (w.heap.size + 1) (.int .i64 k) (.int .i64 n) (.slice pt t.length cap) := Box3.of_block (t := 31) ((hb.block _ (by simp)).trans HK1.out)
  have HB1 : Hid (Below w.heap.size w w1) := Below.on HB0.out hb
  have s0 : w1.cell? ⟨w.heap.size, 0, none⟩ = some (.slice p xs.length c1) := by simp [World.cell?, b0]
  obtain ⟨b1, b2, b3, _⟩ := bb
  clear hb HV HK0 HK1 b0
  cases hs : storeB xs tr
  · rw [hs] at HE
    clear hs
    go_wp2
    go_ret
    exact ⟨ret_bool (by rw [HE.out]; rfl), HB1.out⟩
  · rw [hs] at HE
    have HW := l10word_any p pt c1 t.length cap k n xs w1 (storeB_parts hs).1 (HC.out.below HB1.out)
    generalize wordB xs k n t.length = r at HE HW
    clear hs
    go_wp2_with fail
    refine HW.mono ?_
    rintro e w2 ⟨rfl, hb2⟩
    have HB2 : Hid (Below w.heap.size w w2) := Below.on HB1.out hb2
    clear hb2 HW
    go_wp2
    go_ret
    exact ⟨ret_bool (by rw [HE.out]; rfl), HB2.out⟩

end Go.Proofs.Ytcdcdpmjibcolaa
