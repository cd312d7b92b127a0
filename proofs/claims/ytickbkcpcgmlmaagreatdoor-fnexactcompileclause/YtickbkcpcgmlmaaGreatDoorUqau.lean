/- Texts of ClR, ClS, ClT, ClU. Own work of the verifier. -/
import Derived.Test.YtickbkcpcgmlmaaGreatDoorUqat
namespace Go.Proofs.YtickbkcpcgmlmaaGreatDoor
set_option maxRecDepth 100000
open Go Go.RowKit
set_option linter.unusedVariables false
def FlOut (w : World) (cs : List Cel) (e : Ending) (w' : World) : Prop :=
 ∃ ph nh ch pg mg cg, Below w.heap.size w w' ∧
   ((e = .returned (.tuple #[.slice ph nh ch, .slice pg mg cg, .bool false]) ∧ ¬ (validB cs = true ∧ ∀ c k, cs = c :: k.cells → (Fo.node c k .nil).ok → flatB (c, k) = true)) ∨
    (e = .returned (.tuple #[.slice ph nh ch, .slice pg mg cg, .bool true]) ∧ validB cs = true ∧ ∃ c k rs, cs = c :: k.cells ∧ (Fo.node c k .nil).ok ∧ flatB (c, k) = true ∧ cs.length ≤ 2000 ∧ TI w' ph nh ch (kid0 (c, k)) ∧
     mg = (goalsT (kid1 (c, k))).length ∧ w'.ownsRow w.heap.size 27 1 (.slice pg mg cg) mg (rs.map slV) ∧ ArgRowU w' rs (goalsT (kid1 (c, k)))))
set_option maxHeartbeats 2000000 in
theorem flat_any (cs : List Cel) (p : Option Addr) (w : World) (hxb : ∀ i, i < cs.length → Byte (cs.getD i Cel.none).2.2) (hl : cs.length + tl cs ≤ 1048576) (hin : CIn w p cs) :
  Calls Tryz.prog 14 #[.slice p cs.length cs.length] w (FlOut w cs) := by
 have HV := specValid_any p cs.length cs w (by omega) hin
 have HNO : Hid (¬ (validB cs = true ∧ ∀ c k, cs = c :: k.cells → (Fo.node c k .nil).ok → flatB (c, k) = true) → ∀ W, Below w.heap.size w W → FlOut w cs (.returned (.tuple #[.slice none 0 0, .slice none 0 0, .bool false])) W) := fun h W hW => ⟨none, 0, 0, none, 0, 0, hW, .inl ⟨rfl, h⟩⟩
 by_cases hv : validB cs = true
 ·obtain ⟨c, k, ex, hok, hlx⟩ := tree_of hxb hv
  rw [hv] at HV
  have hkl : k.cells.length + 1 = cs.length := by rw [ex]; simp
  have HTI : Hid (TI w p cs.length cs.length (c, k)) := ⟨by show cs.length = k.cells.length + 1; omega, Nat.le_refl _, by omega, by rw [ex] at hin; exact hin⟩
  have HIS : Hid (∀ W, Below w.heap.size w W → Calls Tryz.prog 37 #[.slice p cs.length cs.length, .string ⟨#[58, 45]⟩, .int .i64 2] W fun e w' => e = .returned (.bool (decide (c = ruleC))) ∧ w' = W) := fun W hW => by
   have h9 := isT_any (HTI.out.below hW) ⟨#[58, 45]⟩ 2; have e9 : isB (strOfNums (c, k).1.2.2) ⟨#[58, 45]⟩ (c, k).1.1 (c, k).1.2.1 2 = decide (c = ruleC) := isB_pos hok.2.1 [58, 45] 2 (by decide); rw [e9] at h9; exact h9
  have HX : Hid (cs = c :: k.cells ∧ (Fo.node c k .nil).ok ∧ validB cs = true ∧ cs.length ≤ 2000) := ⟨ex, hok, hv, hlx⟩
  have HFB : Hid (flatB (c, k) = false → ¬ (validB cs = true ∧ ∀ c k, cs = c :: k.cells → (Fo.node c k .nil).ok → flatB (c, k) = true)) := fun h h9 => by
   have := h9.2 c k HX.out.1 HX.out.2.1; rw [h] at this; exact absurd this (by decide)
  have hbm : ∀ x ∈ cs, Byte x.2.2 := byte_mem hxb
  have HRN : Hid (∀ W, Below w.heap.size w W → Calls Tryz.prog 39 #[.slice p cs.length cs.length] W fun e w' => ∃ q m c2, e = .returned (.slice q m c2) ∧ OwnC w' W.heap.size q m c2 (renCells cs) ∧ Below W.heap.size W w') := fun W hW => by
   have := specRen_any cs p cs.length cs.length W rfl (by omega) (hin.below hW)
   rwa [if_pos hv] at this
  have HSM : Hid (∀ (W : World) (q : Option Addr) (c2 : Nat), Below w.heap.size w W → CIn W q (renCells cs) → Calls Tryz.prog 38 #[.slice p cs.length cs.length, .slice q cs.length c2] W fun e w' => e = .returned (.bool (decide (cs = renCells cs))) ∧ Below W.heap.size W w') := fun W q c2 hW hq => same_any cs (renCells cs) p q cs.length c2 cs.length W rfl (by rw [ren_len]) (by omega) (by omega) (hin.below hW) hq hbm (ren_byte hbm)
  have HRL : Hid ((renCells cs).length = cs.length) := ren_len cs
  obtain ⟨m, em⟩ : ∃ m, m = cs.length := ⟨_, rfl⟩
  have hm2 : m ≤ 2000 := by omega
  have HEM : Hid (m = cs.length) := em; rw [← em] at HV HIS HRN HSM HTI HRL ⊢
  by_cases hr : c = ruleC
  ·rw [decide_eq_true hr] at HIS
   have HAR : Hid (∀ W, Below w.heap.size w W → Calls Tryz.prog 40 #[.slice p m m] W (ArgsOutU w W k)) := fun W hW => l2argsU_any c k p m m w W hW (by rw [hr]; rfl) HX.out.2.1 (by simp; omega) (by omega) (Nat.le_refl _) (by omega) HTI.out.2.2.2
   have hcnt : k.count = 2 := by
    have h9 := hok.2.2.1 (by rw [hr]; rfl); rw [hr] at h9; have e2 : (ruleC.2.1 : Int) = 2 := rfl
    omega
   obtain ⟨c1, k1, c2, k2, ek⟩ := two_of hcnt
   have etr : trs k = [(c1, k1), (c2, k2)] := by rw [ek]; rfl
   have HKD : Hid (kid0 (c, k) = (c1, k1) ∧ kid1 (c, k) = (c2, k2) ∧ (Fo.node c1 k1 .nil).ok ∧ (Fo.node c2 k2 .nil).ok ∧ k1.cells.length + k2.cells.length + 3 = m) := by
    have hk := hok.2.2.2.2.1; rw [ek] at hk; refine ⟨by unfold kid0; rw [etr]; rfl, by unfold kid1; rw [etr]; rfl, ⟨hk.1, hk.2.1, hk.2.2.1, hk.2.2.2.1, hk.2.2.2.2.1, trivial⟩, hk.2.2.2.2.2, ?_⟩; rw [ek] at hkl
    simp [Fo.cells] at hkl
    omega
   unfold ArgsOutU at HAR
   rw [etr, hcnt] at HAR; have HR : Hid (c = ruleC) := hr
   obtain ⟨sm, esm⟩ : ∃ x, x = decide (cs = renCells cs) := ⟨_, rfl⟩
   rw [← esm] at HSM
   have HSE : Hid (decide (renCells (c :: k.cells) = c :: k.cells) = sm) := by
    show _ = _
    rw [esm, ← HX.out.1]
    congr 1
    rw [eq_iff_iff]; exact eq_comm
   clear hxb hl hin hv ex hok hlx hkl hbm hr hcnt ek etr esm em
   go_enter Tryz.func14, Tryz.ntmps14
   go_wp2_with fail; refine HV.mono ?_; rintro e w1 ⟨rfl, hb1⟩; have HB1 : Hid (Below w.heap.size w w1) := hb1; have HIS1 := HIS.out w1 hb1; clear hb1 HV HIS; go_wp2_with fail; refine HIS1.mono ?_; rintro e w1' ⟨rfl, hw1⟩; subst hw1; have HRN1 := HRN.out w1' HB1.out; clear HIS1 HRN; go_wp2_with fail; refine HRN1.mono ?_; rintro e w2 ⟨q2, m2, c2', rfl, ho2, hb2⟩
   have hm2e : m2 = m := by rw [ho2.1, HRL.out]
   subst hm2e; have HB2 : Hid (Below w.heap.size w w2) := Below.on HB1.out hb2; have HSM2 := HSM.out w2 q2 c2' HB2.out ho2.cin; clear ho2 hb2 HRN1 HSM; go_wp2_with fail; refine HSM2.mono ?_; rintro e w3 ⟨rfl, hb3⟩; have HB3 : Hid (Below w.heap.size w w3) := Below.on HB2.out hb3; clear hb3 HSM2
   cases sm with
   | false =>
     have HO : Hid _ := HNO.out (HFB.out (by unfold flatB; rw [HSE.out]; simp)) w3 HB3.out; clear HNO HFB HAR; go_wp2_with fail; exact bodyPost_ret (v := .tuple #[.slice none 0 0, .slice none 0 0, .bool false]) (by simp [results, Tryz.results14, go_sem]) rfl HO.out
   | true =>
     have HAR3 := HAR.out w3 HB3.out; clear HAR; go_wp2_with fail; refine HAR3.mono ?_; rintro e w4 ⟨q5, m5, mc5, rs5, rfl, hm5, hrow5, harg5, hb5⟩
     obtain ⟨r1, r2, e5⟩ : ∃ r1 r2, rs5 = [r1, r2] := by
      have hl := ArgRowU.len harg5
      match rs5, hl with
      | [r1, r2], _ => exact ⟨r1, r2, rfl⟩
     subst e5; subst hm5; obtain ⟨g5, cap5, hv5, hbg5, hgl5⟩ := World.ownsRow.form hrow5 (by decide)
     obtain ⟨rfl, rfl⟩ : q5 = some ⟨g5, 0, none⟩ ∧ mc5 = cap5 := by injection hv5 with h1 _ h2; exact ⟨h1, h2⟩
     have x0 : w4.cell? ⟨g5, 0, none⟩ = some (.slice r1.1 r1.2.1 r1.2.2) := hrow5.cellAt 0 (by decide); have x1 : w4.cell? ⟨g5, 1, none⟩ = some (.slice r2.1 r2.2.1 r2.2.2) := hrow5.cellAt 1 (by decide); obtain ⟨a1, a2, a3, a4, a5, a6, a7, a8, _⟩ := harg5
     have HT1 : Hid (TI w r1.1 r1.2.1 r1.2.2 (c1, k1)) := ⟨by show r1.2.1 = k1.cells.length + 1; simp only at a1; omega, a2, a3, a4⟩
     have HT2 : Hid (TI w r2.1 r2.2.1 r2.2.2 (c2, k2)) := ⟨by show r2.2.1 = k2.cells.length + 1; simp only at a5; omega, a6, a7, a8⟩
     have HB4 : Hid (Below w.heap.size w w4) := Below.on HB3.out hb5
     have hr1 : r1.2.1 ≤ 2000 ∧ r1.2.2 ≤ 9223372036854775807 := ⟨by have h9 := HKD.out.2.2.2.2; have h8 : r1.2.1 = k1.cells.length + 1 := HT1.out.1; omega, a3⟩
     have hr2 : r2.2.1 ≤ 2000 ∧ r2.2.2 ≤ 9223372036854775807 := ⟨by have h9 := HKD.out.2.2.2.2; have h8 : r2.2.1 = k2.cells.length + 1 := HT2.out.1; omega, a7⟩
     clear a1 a2 a3 a4 a5 a6 a7 a8 hrow5 hv5 hbg5 hb5 HAR3; obtain ⟨rp1, rn1, rc1⟩ := r1; obtain ⟨rp2, rn2, rc2⟩ := r2; simp only at x0 x1 HT1 HT2 hr1 hr2; have HCA := callable_any (HT1.out.below HB4.out) (by omega)
     have HFL : Hid (flatB (c, k) = (calC c1 && (goalsT (c2, k2)).all goodG)) := by
      show _ = _
      unfold flatB
      rw [HSE.out, HKD.out.1, HKD.out.2.1, decide_eq_true HR.out]
      simp
     cases hcal : calC c1 with
     | false =>
       have HO : Hid _ := HNO.out (HFB.out (by rw [HFL.out, hcal]; rfl)) w4 HB4.out; have hcal' : calC (c1, k1).1 = false := hcal; rw [hcal'] at HCA; clear HNO HFB hcal hcal' x1; go_wp2_with fail; refine HCA.mono ?_; rintro e w5 ⟨rfl, hw5⟩; rw [hw5]; go_wp2_with fail; exact bodyPost_ret (v := .tuple #[.slice none 0 0, .slice none 0 0, .bool false]) (by simp [results, Tryz.results14, go_sem]) rfl HO.out
     | true =>
       have hcal' : calC (c1, k1).1 = true := hcal; rw [hcal'] at HCA; have HGO := goals_any (c2, k2) rp2 rn2 rc2 w4 HKD.out.2.2.2.1 (by omega) (HT2.out.below HB4.out); have HXC : Hid (w4.cell? ⟨g5, 0, none⟩ = some (.slice rp1 rn1 rc1)) := x0; clear hcal'; go_wp2_with fail; refine HCA.mono ?_; rintro e w5 ⟨rfl, hw5⟩; rw [hw5]; go_wp2_with fail; refine HGO.mono ?_; rintro e w6 ⟨p6, m6, mc6, rs6, rfl, h6, hb6⟩; have HB6 : Hid (Below w.heap.size w w6) := Below.on HB4.out hb6; have x0' := (hb6.cell (World.block_lt_of_cell? _ _ HXC.out)).trans HXC.out
       have HFIN : Hid (FlOut w cs (.returned (.tuple #[.slice rp1 rn1 rc1, .slice p6 m6 mc6, .bool ((goalsT (c2, k2)).all goodG)])) w6) := by
        refine ⟨rp1, rn1, rc1, p6, m6, mc6, HB6.out, ?_⟩
        cases hh : (goalsT (c2, k2)).all goodG with
        | false => exact .inl ⟨rfl, HFB.out (by rw [HFL.out, hh]; simp)⟩
        | true =>
          obtain ⟨f1, f2, f3⟩ := h6 hh; refine .inr ⟨rfl, HX.out.2.2.1, c, k, rs6, HX.out.1, HX.out.2.1, by rw [HFL.out, hcal, hh]; rfl, HX.out.2.2.2, ?_, ?_, row_mono f2 HB4.out.size, ?_⟩
          ·rw [HKD.out.1]; exact HT1.out.below HB6.out
          ·rw [HKD.out.2.1]; exact f1
          ·rw [HKD.out.2.1]; exact f3.below hb6
       generalize (goalsT (c2, k2)).all goodG = ga at HFIN ⊢
       clear HGO h6 hb6 x0 x1 HNO HFB; go_wp2_with fail; exact bodyPost_ret (v := .tuple #[.slice rp1 rn1 rc1, .slice p6 m6 mc6, .bool ga]) (by simp [results, Tryz.results14, go_sem]) rfl HFIN.out
  ·rw [decide_eq_false hr] at HIS
   have HO : Hid _ := HNO.out (HFB.out (by unfold flatB; rw [decide_eq_false hr]; rfl)); clear hxb hl hin hv ex hok hlx hkl hbm hr HNO HFB HRN HSM em
   go_enter Tryz.func14, Tryz.ntmps14
   go_wp2_with fail; refine HV.mono ?_; rintro e w1 ⟨rfl, hb1⟩; have HO1 : Hid _ := HO.out w1 hb1; have HIS1 := HIS.out w1 hb1; clear hb1 HV HIS HO; go_wp2_with fail; refine HIS1.mono ?_; rintro e w1' ⟨rfl, hw1⟩; subst hw1; go_wp2_with fail; exact bodyPost_ret (v := .tuple #[.slice none 0 0, .slice none 0 0, .bool false]) (by simp [results, Tryz.results14, go_sem]) rfl HO1.out
 ·have hv' : validB cs = false := by simpa using hv
  rw [hv'] at HV; have HO : Hid _ := HNO.out (fun h => hv h.1)
  obtain ⟨m, em⟩ : ∃ m, m = cs.length := ⟨_, rfl⟩
  rw [← em] at HV ⊢; clear hxb hl hin hv hv' em HNO
  go_enter Tryz.func14, Tryz.ntmps14
  go_wp2_with fail; refine HV.mono ?_; rintro e w1 ⟨rfl, hb1⟩; have HO1 : Hid _ := HO.out w1 hb1; clear hb1 HV HO; go_wp2_with fail; exact bodyPost_ret (v := .tuple #[.slice none 0 0, .slice none 0 0, .bool false]) (by simp [results, Tryz.results14, go_sem]) rfl HO1.out
def nowQ : Int → List Tr → Int
 | q, [] => q
 | q, g :: r => nowQ (if inlG g then q else q + 1) r
def chunkL : Int → List Tr → List Int
 | _, [] => []
 | q, g :: r => q :: chunkL (if inlG g then q else q + 1) r
theorem nowQ_snoc : ∀ (l : List Tr) (q : Int) (g : Tr), nowQ q (l ++ [g]) = if inlG g then nowQ q l else nowQ q l + 1
 | [], q, g => rfl
 | x :: r, q, g => nowQ_snoc r _ g
theorem chunkL_snoc : ∀ (l : List Tr) (q : Int) (g : Tr), chunkL q (l ++ [g]) = chunkL q l ++ [nowQ q l]
 | [], q, g => rfl
 | x :: r, q, g => by
   show q :: chunkL _ (r ++ [g]) = q :: (chunkL _ r ++ [nowQ _ r])
   rw [chunkL_snoc r _ g]
theorem chunkL_len : ∀ (l : List Tr) (q : Int), (chunkL q l).length = l.length
 | [], _ => rfl
 | x :: r, q => by show (chunkL _ r).length + 1 = r.length + 1; rw [chunkL_len r]
set_option maxHeartbeats 1000000 in
theorem chunks_any (gs : List Tr) (rs : List (Option Addr × Nat × Nat)) (pg : Option Addr) (mg cg B0 : Nat) (w : World) (hm : mg = gs.length) (hl : mg ≤ 2000)
  (hrow : w.ownsRow B0 27 1 (.slice pg mg cg) mg (rs.map slV)) (harg : ArgRowU w rs gs) (hok : ∀ g ∈ gs, (Fo.node g.1 g.2 .nil).ok ∧ calC g.1 = true ∧ g.2.cells.length ≤ 2000) :
  Calls Tryz.prog 44 #[.slice pg mg cg] w fun e w' => ∃ q m c2, e = .returned (.slice q m c2) ∧ OwnI w' w.heap.size 3 q m c2 (chunkL 0 gs) ∧ Below w.heap.size w w' := by
 have HM : Hid (mg = gs.length) := hm; have HR : Hid (w.ownsRow B0 27 1 (.slice pg mg cg) mg (rs.map slV)) := hrow; have HA : Hid (ArgRowU w rs gs) := harg; have HK : Hid (∀ g ∈ gs, (Fo.node g.1 g.2 .nil).ok ∧ calC g.1 = true ∧ g.2.cells.length ≤ 2000) := hok; clear hm hrow harg hok
 go_enter Tryz.func44, Tryz.ntmps44
 go_wp2_with fail
 go_loopw [3, 4, 5] (fun s q i wr => ∃ (j : Nat) (p3 : Option Addr) (n3 c3 : Nat) (z : Int), j ≤ mg ∧ n3 = j ∧ (0 ≤ z ∧ z ≤ j) ∧ s = .slice p3 n3 c3 ∧ q = .int .i64 z ∧ i = .int .i64 j ∧ Hid (z = nowQ 0 (gs.take j)) ∧ Hid (OwnI wr w.heap.size 3 p3 n3 c3 (chunkL 0 (gs.take j))) ∧ Hid (Below w.heap.size w wr)) (fun _ _ i _ => mg - (intOf i).toNat)
 case atStart => exact ⟨0, none, 0, 0, 0, Nat.zero_le _, rfl, by omega, rfl, rfl, rfl, rfl, OwnI.nil _ _ _, Below.refl _ _⟩
 case round =>
  obtain ⟨j, p3, n3, c3, z, hj, rfl, hz, rfl, rfl, rfl, HZ, HO, HB⟩ := hrel
  by_cases hlt : n3 < mg
  ·have hjg : n3 < gs.length := by rw [← HM.out]; exact hlt
   obtain ⟨r, hr, hti⟩ := ArgRowU.at HA.out n3 hjg; have hrl := ArgRowU.len HA.out; obtain ⟨g5, cap5, hv5, hbg5, hgl5⟩ := World.ownsRow.form HR.out (by omega)
   obtain ⟨rfl, rfl⟩ : pg = some ⟨g5, 0, none⟩ ∧ cg = cap5 := by injection hv5 with h1 _ h2; exact ⟨h1, h2⟩
   have d0 := HR.out.cellAt n3 (by omega); rw [List.getElem?_map, hr] at d0; have d0' : w.cell? ⟨g5, n3, none⟩ = some (.slice r.1 r.2.1 r.2.2) := d0; obtain ⟨rp, rn, rc⟩ := r; simp only at d0' hti
   have HD : Hid (∀ W, Below w.heap.size w W → W.cell? ⟨g5, n3, none⟩ = some (.slice rp rn rc)) := fun W hW => (hW.cell (World.block_lt_of_cell? _ _ d0')).trans d0'
   have hmem := HK.out gs[n3] (List.getElem_mem hjg)
   have hrn : rn ≤ 2001 ∧ rc ≤ 9223372036854775807 := ⟨by have := hti.1; omega, hti.2.2.1⟩
   have HIL : Hid (∀ W, Below w.heap.size w W → Calls Tryz.prog 17 #[.slice rp rn rc] W fun e w' => e = .returned (.bool (inlG gs[n3])) ∧ Below W.heap.size W w') := fun W hW => inline_any (hti.below hW) (by omega) hmem.1 hmem.2.1
   have et : gs.take (n3 + 1) = gs.take n3 ++ [gs[n3]] := List.take_succ_eq_append_getElem hjg
   have HNQ : Hid (nowQ 0 (gs.take (n3 + 1)) = if inlG gs[n3] then z else z + 1) := by show _ = _; rw [et, nowQ_snoc, ← HZ.out]
   have HCL : Hid (chunkL 0 (gs.take (n3 + 1)) = chunkL 0 (gs.take n3) ++ [z]) := by show _ = _; rw [et, chunkL_snoc, ← HZ.out]
   generalize inlG gs[n3] = il at HIL HNQ
   clear hr hti hrl hv5 hbg5 d0 d0' hmem et hjg HZ; go_wp2_with (at_builtin; refine app_int _ rfl _ _ rfl w.heap.size p3 n3 c3 _ z rfl HO.out rfl (by omega) HB.out.size ?_; intro g n' cap' w5 hown5 hb5 hn5; have hB5 : Below w.heap.size w w5 := (HB.out.alloc HB.out.size _).trans hb5; have d5 := HD.out w5 hB5); have HB5 : Hid (Below w.heap.size w w5) := hB5
   have HO5 : Hid (OwnI w5 w.heap.size 3 (some ⟨g, 0, none⟩) n' cap' (chunkL 0 (gs.take (n3 + 1)))) := by rw [HCL.out]; exact hown5
   refine (HIL.out w5 hB5).mono ?_; rintro e w6 ⟨rfl, hb6⟩; have HB6 : Hid (Below w.heap.size w w6) := Below.on hB5 hb6; have HO6 : Hid (OwnI w6 w.heap.size 3 (some ⟨g, 0, none⟩) n' cap' (chunkL 0 (gs.take (n3 + 1)))) := HO5.out.below hb6; clear hown5 hb5 hB5 d5 hb6 HIL HO HB HD
   cases il with
   | true =>
     go_wp2_with fail; go_roundw
     case rel => exact ⟨n3 + 1, _, _, _, z, by omega, hn5.out, by omega, rfl, rfl, by go_num, HNQ.out.symm, HO6, HB6⟩
     case measure => simp [intOf]; omega
   | false =>
     go_wp2_with fail; go_roundw
     case rel => exact ⟨n3 + 1, _, _, _, z + 1, by omega, hn5.out, by omega, rfl, by go_num, by go_num, HNQ.out.symm, HO6, HB6⟩
     case measure => simp [intOf]; omega
  ·obtain rfl : n3 = mg := by omega
   go_wp2_with fail; go_ret; refine ⟨_, _, _, rfl, ?_, HB.out⟩; have := HO.out
   rwa [List.take_of_length_le (by rw [← HM.out]; exact Nat.le_refl _)] at this
theorem map_setI (l : List Int) (i : Nat) (x : Int) : (l.map (Value.int .i64)).set i (.int .i64 x) = (l.set i x).map (Value.int .i64) := by simp
theorem run_makeI (n : Nat) (hn : n ≤ 20000) (w : World) : (Instr.makeSlice 42 (.int .i64 (n : Int)) (.int .i64 (n : Int))).run Tryz.prog w = .ok (.slice (some ⟨w.heap.size, 0, none⟩) n n) (w.alloc (.cells (madeCells #[Value.int .i64 0] n) 3)) := by
 obtain ⟨i0, hi, hz0, hz1, hz2⟩ := info_parts infoInt; have h := run_makeSlice w 42 3 i0 (.int .i64 0) Tryz.underlying42 hi hz0 .i64 .i64 (n : Int) (n : Int) (by omega) (by omega) (by rw [hz1]; simp; omega) (by rw [hz2]; omega) (by omega); rw [h, hz1]
 simp [Value.cells]
theorem made_ints (n : Nat) : (madeCells #[Value.int .i64 0] n).toList = (List.replicate n (0 : Int)).map (Value.int .i64) := by
 apply List.ext_getElem?
 intro i
 by_cases h : i < n
 ·simp [madeCells, h, Nat.mod_one]
 ·simp [madeCells, h]
theorem own_made (w : World) (B n : Nat) (hn : n ≤ 20000) (hB : B ≤ w.heap.size) : OwnI (w.alloc (.cells (madeCells #[Value.int .i64 0] n) 3)) B 3 (some ⟨w.heap.size, 0, none⟩) n n (List.replicate n 0) := by
 have h := World.ownsRow_lit (base := B) (e := 3) (size := 1) w (madeCells #[Value.int .i64 0] n) n hB (by unfold maxLen; omega) (by rw [size_madeCells, Nat.mul_one]); rw [made_ints] at h; exact ⟨by simp, h⟩
theorem OwnI.put {w : World} {B g n c : Nat} {zs : List Int} (h : OwnI w B 3 (some ⟨g, 0, none⟩) n c zs) (j : Nat) (x : Int) : OwnI (w.setCell ⟨g, j, none⟩ (.int .i64 x)) B 3 (some ⟨g, 0, none⟩) n c (zs.set j x) :=
 ⟨by rw [List.length_set]; exact h.1, by rw [← map_setI]; exact (h.2.stored j _).1⟩
theorem OwnI.other {w : World} {B n c : Nat} {p : Option Addr} {zs : List Int} (h : OwnI w B 3 p n c zs) {g : Nat} (hg : ∀ k, Value.ownBlock (.slice p n c) = some k → k ≠ g) (j : Nat) (x : Value) : OwnI (w.setCell ⟨g, j, none⟩ x) B 3 p n c zs :=
 ⟨h.1, ownsRow_setCell_other h.2 (fun e => hg g e rfl) x⟩
theorem OwnI.get {w : World} {B g n c : Nat} {zs : List Int} (h : OwnI w B 3 (some ⟨g, 0, none⟩) n c zs) {u : Nat} (hu : u < n) : w.cell? ⟨g, u, none⟩ = some (.int .i64 (zs.getD u 0)) ∧ w.frozen? ⟨g, u, none⟩ = false := by
 refine ⟨?_, h.2.frozenAt u⟩; rw [h.2.cellAt u (by omega)]; have := h.1
 simp [List.getD, show u < zs.length by omega]
structure A3 (w : World) (B g1 g2 g3 n : Nat) (pc : Option Addr) (mc cc : Nat) (ch : List Int) (M : List Int × List Int × List Int) : Prop where
 r1 : OwnI w B 3 (some ⟨g1, 0, none⟩) n n M.1
 r2 : OwnI w B 3 (some ⟨g2, 0, none⟩) n n M.2.1
 r3 : OwnI w B 3 (some ⟨g3, 0, none⟩) n n M.2.2
 r4 : OwnI w B 3 pc mc cc ch
 ne : g1 ≠ g2 ∧ g1 ≠ g3 ∧ g2 ≠ g3
 ne4 : ∀ k, Value.ownBlock (.slice pc mc cc) = some k → k ≠ g1 ∧ k ≠ g2 ∧ k ≠ g3
 ge : B ≤ g1 ∧ B ≤ g2 ∧ B ≤ g3
theorem own_k {g n c k : Nat} (h : Value.ownBlock (.slice (some ⟨g, 0, none⟩) n c) = some k) : k = g := by simp [Value.ownBlock] at h; exact h.symm
theorem A3.put1 {w : World} {B g1 g2 g3 n : Nat} {pc : Option Addr} {mc cc : Nat} {ch : List Int} {M : List Int × List Int × List Int} (h : A3 w B g1 g2 g3 n pc mc cc ch M) (u : Nat) (x : Int) : A3 (w.setCell ⟨g1, u, none⟩ (.int .i64 x)) B g1 g2 g3 n pc mc cc ch (M.1.set u x, M.2.1, M.2.2) :=
 ⟨h.r1.put u x, h.r2.other (fun k hk e => h.ne.1 (by rw [← e, own_k hk])) _ _, h.r3.other (fun k hk e => h.ne.2.1 (by rw [← e, own_k hk])) _ _, h.r4.other (fun k hk => (h.ne4 k hk).1) _ _, h.ne, h.ne4, h.ge⟩
theorem A3.put2 {w : World} {B g1 g2 g3 n : Nat} {pc : Option Addr} {mc cc : Nat} {ch : List Int} {M : List Int × List Int × List Int} (h : A3 w B g1 g2 g3 n pc mc cc ch M) (u : Nat) (x : Int) : A3 (w.setCell ⟨g2, u, none⟩ (.int .i64 x)) B g1 g2 g3 n pc mc cc ch (M.1, M.2.1.set u x, M.2.2) :=
 ⟨h.r1.other (fun k hk e => h.ne.1 (by rw [← own_k hk, e])) _ _, h.r2.put u x, h.r3.other (fun k hk e => h.ne.2.2 (by rw [← e, own_k hk])) _ _, h.r4.other (fun k hk => (h.ne4 k hk).2.1) _ _, h.ne, h.ne4, h.ge⟩
theorem A3.put3 {w : World} {B g1 g2 g3 n : Nat} {pc : Option Addr} {mc cc : Nat} {ch : List Int} {M : List Int × List Int × List Int} (h : A3 w B g1 g2 g3 n pc mc cc ch M) (u : Nat) (x : Int) : A3 (w.setCell ⟨g3, u, none⟩ (.int .i64 x)) B g1 g2 g3 n pc mc cc ch (M.1, M.2.1, M.2.2.set u x) :=
 ⟨h.r1.other (fun k hk e => h.ne.2.1 (by rw [← own_k hk, e])) _ _, h.r2.other (fun k hk e => h.ne.2.2 (by rw [← own_k hk, e])) _ _, h.r3.put u x, h.r4.other (fun k hk => (h.ne4 k hk).2.2) _ _, h.ne, h.ne4, h.ge⟩
theorem goalsM_snoc : ∀ (l : List Tr) (q : Int) (st : List Int × List Int × List Int) (g : Tr), goalsM q st (l ++ [g]) = meetsM (nowQ q l) (goalsM q st l) (vsC (g.1 :: g.2.cells))
 | [], q, st, g => rfl
 | x :: r, q, st, g => goalsM_snoc r _ _ g
def stM (n : Nat) (h : Tr) (gs : List Tr) : Nat → List Int × List Int × List Int
 | 0 => (List.replicate n 0, List.replicate n 0, List.replicate n 0)
 | j + 1 => goalsM 0 (meetsM 0 (List.replicate n 0, List.replicate n 0, List.replicate n 0) (vsC (h.1 :: h.2.cells))) (gs.take j)
theorem stM_first (n : Nat) (h : Tr) (gs : List Tr) : stM n h gs 1 = meetsM 0 (stM n h gs 0) (vsC (h.1 :: h.2.cells)) := by
 show goalsM 0 _ (gs.take 0) = _
 rw [List.take_zero]; rfl
theorem stM_next (n : Nat) (h : Tr) (gs : List Tr) {j : Nat} (hj : j < gs.length) : stM n h gs (j + 2) = meetsM ((chunkL 0 gs).getD j 0) (stM n h gs (j + 1)) (vsC (gs[j].1 :: gs[j].2.cells)) := by
 show goalsM 0 _ (gs.take (j + 1)) = _
 rw [List.take_succ_eq_append_getElem hj, goalsM_snoc]
 congr 1
 have e1 : ∀ (l : List Tr) (q : Int) (j : Nat), j < l.length → (chunkL q l).getD j 0 = nowQ q (l.take j) := by
  intro l
  induction l with
  | nil => intro q j h; simp at h
  | cons x r ih =>
    intro q j h
    cases j with
    | zero => rfl
    | succ j =>
      show (chunkL _ r).getD j 0 = nowQ _ (r.take j)
      exact ih _ j (by simpa using h)
 exact (e1 gs 0 j hj).symm
theorem vsC_take (l : List Cel) (k : Nat) (h : k < l.length) : vsC (l.take (k + 1)) = vsC (l.take k) ++ (if (l.getD k Cel.none).1 = 0 then [(l.getD k Cel.none).2.1] else []) := by
 rw [List.take_succ_eq_append_getElem h, vsC_append, vsC_cons]
 have e : l.getD k Cel.none = l[k] := by simp [List.getD, h]
 rw [e]
 by_cases h0 : l[k].1 = 0
 ·rw [if_pos h0, if_pos h0]; rfl
 ·rw [if_neg h0, if_neg h0]; rfl
theorem meetsM_snoc (q : Int) (st : List Int × List Int × List Int) (l : List Int) (v : Int) : meetsM q st (l ++ [v]) = meetM q (meetsM q st l) v := by simp [meetsM, List.foldl_append]
def InL (l : List Int) (b : Nat) : Prop := ∀ u : Nat, 0 ≤ l.getD u 0 ∧ l.getD u 0 ≤ b
theorem InL.up {l : List Int} {b b' : Nat} (h : InL l b) (hb : b ≤ b') : InL l b' := fun u => ⟨(h u).1, by have := (h u).2; omega⟩
theorem InL.rep (n : Nat) : InL (List.replicate n 0) 0 := fun u => by
 by_cases h : u < n
 ·simp [List.getD, h]
 ·simp [List.getD, h]
theorem InL.set {l : List Int} {b u : Nat} (h : InL l b) : InL (l.set u (l.getD u 0 + 1)) (b + 1) := fun w => by
 by_cases hu : u < l.length
 ·rw [getD_set _ _ _ _ hu]
  by_cases e : w = u
  ·rw [if_pos e]; have := h u; omega
  ·rw [if_neg e]; have := h w; omega
 ·rw [List.set_eq_of_length_le (by omega)]; have := h w; omega
def endS (M : List Int × List Int × List Int) : Nat → List Int
 | 0 => M.2.2
 | j + 1 => if M.2.2.getD j 0 ≠ 2 ∧ 1 < M.1.getD j 0 then (endS M j).set j 1 else endS M j
theorem endS_len (M : List Int × List Int × List Int) : ∀ j, (endS M j).length = M.2.2.length
 | 0 => rfl
 | j + 1 => by unfold endS; split <;> simp [endS_len M j]
theorem endS_get (M : List Int × List Int × List Int) : ∀ j, j ≤ M.2.2.length → ∀ v, (endS M j).getD v 0 = if v < j ∧ M.2.2.getD v 0 ≠ 2 ∧ 1 < M.1.getD v 0 then 1 else M.2.2.getD v 0
 | 0, _, v => by rw [if_neg (by omega)]; rfl
 | j + 1, hj, v => by
   have ih := endS_get M j (by omega)
   unfold endS
   by_cases hc : M.2.2.getD j 0 ≠ 2 ∧ 1 < M.1.getD j 0
   ·rw [if_pos hc, getD_set _ _ _ _ (by rw [endS_len]; omega)]
    by_cases e : v = j
    ·rw [if_pos e, e, if_pos ⟨by omega, hc⟩]
    ·rw [if_neg e, ih v]
     by_cases h9 : v < j ∧ M.2.2.getD v 0 ≠ 2 ∧ 1 < M.1.getD v 0
     ·rw [if_pos h9, if_pos ⟨by omega, h9.2⟩]
     ·rw [if_neg h9, if_neg (fun h8 => h9 ⟨by omega, h8.2⟩)]
   ·rw [if_neg hc, ih v]
    by_cases h9 : v < j ∧ M.2.2.getD v 0 ≠ 2 ∧ 1 < M.1.getD v 0
    ·rw [if_pos h9, if_pos ⟨by omega, h9.2⟩]
    ·rw [if_neg h9, if_neg (fun h8 => by
      by_cases e : v = j
      ·rw [e] at h8; exact hc h8.2
      ·exact h9 ⟨by omega, h8.2⟩)]
theorem endS_end (M : List Int × List Int × List Int) : endS M M.2.2.length = endM M := by
 apply List.ext_getElem?
 intro v
 by_cases hv : v < M.2.2.length
 ·have h1 := endS_get M M.2.2.length (Nat.le_refl _) v
  have h2 : v < (endS M M.2.2.length).length := by rw [endS_len]; exact hv
  rw [List.getD, List.getElem?_eq_getElem h2] at h1; rw [List.getElem?_eq_getElem h2]
  unfold endM
  rw [List.getElem?_map, List.getElem?_range hv]; simp only [Option.map_some, Option.some.injEq]; have h3 : (endS M M.2.2.length)[v] = _ := h1; rw [h3]
  by_cases h9 : M.2.2.getD v 0 ≠ 2 ∧ 1 < M.1.getD v 0
  ·rw [if_pos ⟨hv, h9⟩, if_pos h9]
  ·rw [if_neg (fun h => h9 h.2), if_neg h9]
 ·rw [List.getElem?_eq_none (by rw [endS_len]; omega), List.getElem?_eq_none (by unfold endM; simp; omega)]
def termAt (h : Tr) (gs : List Tr) : Nat → Tr
 | 0 => h
 | j + 1 => gs.getD j (Cel.none, .nil)
def chunkAt (gs : List Tr) : Nat → Int
 | 0 => 0
 | j + 1 => (chunkL 0 gs).getD j 0
theorem stM_at (n : Nat) (h : Tr) (gs : List Tr) {j : Nat} (hj : j < gs.length + 1) : stM n h gs (j + 1) = meetsM (chunkAt gs j) (stM n h gs j) (vsC ((termAt h gs j).1 :: (termAt h gs j).2.cells)) := by
 cases j with
 | zero => exact stM_first n h gs
 | succ j =>
   have hj' : j < gs.length := by omega
   have e : gs.getD j (Cel.none, .nil) = gs[j] := by simp [List.getD, hj']
   show _ = meetsM ((chunkL 0 gs).getD j 0) (stM n h gs (j + 1)) (vsC ((gs.getD j (Cel.none, .nil)).1 :: (gs.getD j (Cel.none, .nil)).2.cells))
   rw [e]; exact stM_next n h gs hj'
def zeroObj (n : Nat) : Obj := .cells (madeCells #[Value.int .i64 0] n) 3
set_option maxHeartbeats 2000000 in
theorem classesM_any (cs : List Cel) (h : Tr) (gs : List Tr) (rs : List (Option Addr × Nat × Nat)) (p ph pg : Option Addr) (cap nh chh mg cg B0 n : Nat) (w : World) (hl : cs.length ≤ 2000) (hcb : ∀ c ∈ cs, cellB c.1 c.2.1 c.2.2.length = true) (hin : CIn w p cs)
  (hmx : maxV (-1) cs + 1 = (n : Int)) (hn : n ≤ 2000) (hth : TI w ph nh chh h) (hhl : nh ≤ 2000) (hm : mg = gs.length) (hml : mg ≤ 2000)
  (hrow : w.ownsRow B0 27 1 (.slice pg mg cg) mg (rs.map slV)) (harg : ArgRowU w rs gs) (hok : ∀ g ∈ gs, (Fo.node g.1 g.2 .nil).ok ∧ calC g.1 = true ∧ g.2.cells.length ≤ 2000)
  (hvs : ∀ j, j < gs.length + 1 → ∀ c ∈ (termAt h gs j).1 :: (termAt h gs j).2.cells, c.1 = 0 → 0 ≤ c.2.1 ∧ c.2.1 < n) :
  Calls Tryz.prog 15 #[.slice p cs.length cap, .slice ph nh chh, .slice pg mg cg] w fun e w' => ∃ q m c2, e = .returned (.slice q m c2) ∧ OwnI w' w.heap.size 3 q m c2 (endM (goalsM 0 (meetsM 0 (List.replicate n 0, List.replicate n 0, List.replicate n 0) (vsC (h.1 :: h.2.cells))) gs)) ∧ Below w.heap.size w w' := by
 have HMV := maxVar_any cs p cap w (by omega) hcb hin
 have hmx' : maxV (-1) cs = (n : Int) - 1 := by omega
 rw [hmx'] at HMV; have hmk : ∀ W : World, (Instr.makeSlice 42 (.int .i64 (n : Int)) (.int .i64 (n : Int))).run Tryz.prog W = .ok (.slice (some ⟨W.heap.size, 0, none⟩) n n) (W.alloc (zeroObj n)) := run_makeI n (by omega)
 have HCH : Hid (∀ W, Below w.heap.size w W → Calls Tryz.prog 44 #[.slice pg mg cg] W fun e w' => ∃ q m c2, e = .returned (.slice q m c2) ∧ OwnI w' W.heap.size 3 q m c2 (chunkL 0 gs) ∧ Below W.heap.size W w') := fun W hW => chunks_any gs rs pg mg cg B0 W hm hml (row_below hrow hW) (harg.below hW) hok
 have HTM : Hid (∀ W, Below w.heap.size w W → ∀ j, j < mg → ∃ g5 rp rn rc, pg = some ⟨g5, 0, none⟩ ∧ W.cell? ⟨g5, j, none⟩ = some (.slice rp rn rc) ∧ rn ≤ 2001 ∧ rc ≤ 9223372036854775807 ∧ TI W rp rn rc (termAt h gs (j + 1))) := fun W hW j hj => by
  have hjg : j < gs.length := by omega
  obtain ⟨r, hr, hti⟩ := ArgRowU.at harg j hjg; have hrl := ArgRowU.len harg; obtain ⟨g5, cap5, hv5, hbg5, hgl5⟩ := World.ownsRow.form hrow (by omega)
  obtain ⟨rfl, rfl⟩ : pg = some ⟨g5, 0, none⟩ ∧ cg = cap5 := by injection hv5 with h1 _ h2; exact ⟨h1, h2⟩
  have d0 := hrow.cellAt j (by omega); rw [List.getElem?_map, hr] at d0; have d0' : w.cell? ⟨g5, j, none⟩ = some (.slice r.1 r.2.1 r.2.2) := d0; have hmem := hok gs[j] (List.getElem_mem hjg)
  have e : termAt h gs (j + 1) = gs[j] := by show gs.getD j _ = _; simp [List.getD, hjg]
  refine ⟨g5, r.1, r.2.1, r.2.2, rfl, (hW.cell (World.block_lt_of_cell? _ _ d0')).trans d0', by have := hti.1; omega, hti.2.2.1, ?_⟩; rw [e]; exact hti.below hW
 have HTH : Hid (TI w ph nh chh (termAt h gs 0)) := hth
 have hhc : nh ≤ chh ∧ chh ≤ 9223372036854775807 := ⟨hth.2.1, hth.2.2.1⟩
 have HVS : Hid (∀ j, j < mg + 1 → ∀ c ∈ (termAt h gs j).1 :: (termAt h gs j).2.cells, c.1 = 0 → 0 ≤ c.2.1 ∧ c.2.1 < n) := fun j hj => hvs j (by omega)
 have HST : Hid (∀ j, j < mg + 1 → stM n h gs (j + 1) = meetsM (chunkAt gs j) (stM n h gs j) (vsC ((termAt h gs j).1 :: (termAt h gs j).2.cells))) := fun j hj => stM_at n h gs (by omega)
 have HQ : Hid (∀ j, j < mg + 1 → 0 ≤ chunkAt gs j ∧ chunkAt gs j ≤ 2001) := fun j hj => by
  cases j with
  | zero => show (0 : Int) ≤ 0 ∧ (0 : Int) ≤ 2001; omega
  | succ j =>
    show 0 ≤ (chunkL 0 gs).getD j 0 ∧ (chunkL 0 gs).getD j 0 ≤ 2001
    have e1 : ∀ (l : List Tr) (q : Int) (j : Nat), 0 ≤ q → 0 ≤ (chunkL q l).getD j 0 ∧ (chunkL q l).getD j 0 ≤ q + l.length := by
     intro l
     induction l with
     | nil => intro q j h; exact ⟨by simp [chunkL], by simp [chunkL]; omega⟩
     | cons x r ih =>
       intro q j h
       have hl9 : (x :: r).length = r.length + 1 := rfl
       cases j with
       | zero => show 0 ≤ q ∧ q ≤ q + ((x :: r).length : Nat); omega
       | succ j =>
         have := ih (if inlG x then q else q + 1) j (by split <;> omega)
         show 0 ≤ (chunkL _ r).getD j 0 ∧ (chunkL _ r).getD j 0 ≤ q + ((x :: r).length : Nat)
         refine ⟨this.1, ?_⟩; have h2 := this.2; rw [hl9]
         split at h2 <;> (rename_i hx; simp only [hx] at *; simp at *; omega)
    have := e1 gs 0 j (Int.le_refl _)
    omega
 have HCA : Hid (∀ W g5 mc cc, OwnI W w.heap.size 3 g5 mc cc (chunkL 0 gs) → ∀ j, j < mg → ∃ b o, g5 = some ⟨b, o, none⟩ ∧ mc = mg ∧ W.cell? ⟨b, o + j, none⟩ = some (.int .i64 (chunkAt gs (j + 1)))) := fun W g5 mc cc hO j hj => by
  have hlen := hO.1; rw [chunkL_len, ← hm] at hlen; obtain ⟨b, o, e1, e2⟩ := hO.iin (by rw [chunkL_len]; omega); exact ⟨b, o, e1, hlen, e2 j (by rw [chunkL_len]; omega)⟩
 have HML : Hid (∀ W pc mc cc, OwnI W w.heap.size 3 pc mc cc (chunkL 0 gs) → mc = mg) := fun W pc mc cc hO => by rw [hO.1, chunkL_len]; exact hm.symm
 have HEND : Hid (stM n h gs (mg + 1) = goalsM 0 (meetsM 0 (List.replicate n 0, List.replicate n 0, List.replicate n 0) (vsC (h.1 :: h.2.cells))) gs) := by
  show goalsM 0 _ (gs.take mg) = _
  rw [hm, List.take_length]
 rw [← HEND.out]; clear hcb hin hmx hmx' hth hrow harg hok hvs HEND hm
 generalize cs.length = ln at HMV hl ⊢
 go_enter Tryz.func15, Tryz.ntmps15
 go_wp2_with fail; refine HMV.mono ?_; rintro e w1 ⟨rfl, hw1⟩; subst hw1; clear HMV; go_wp2_with fail
 generalize eX : zeroObj n = X
 have hb1 : Below w1.heap.size w1 (w1.alloc X) := (Below.refl _ _).alloc (Nat.le_refl _) _; have hb2 : Below w1.heap.size w1 ((w1.alloc X).alloc X) := hb1.alloc hb1.size _; have hb3 : Below w1.heap.size w1 (((w1.alloc X).alloc X).alloc X) := hb2.alloc hb2.size _; refine (HCH.out _ hb3).mono ?_; rintro e w4 ⟨pc, mc, cc, rfl, hO4, hb4⟩; have HB4 : Hid (Below w1.heap.size w1 w4) := Below.on hb3 hb4
 have HA4 : Hid (A3 w4 w1.heap.size w1.heap.size (w1.heap.size + 1) (w1.heap.size + 1 + 1) n pc mc cc (chunkL 0 gs) (stM n h gs 0)) := by
  have m1 := own_made w1 w1.heap.size n (by omega) (Nat.le_refl _); have m2 := own_made (w1.alloc X) w1.heap.size n (by omega) hb1.size; have m3 := own_made ((w1.alloc X).alloc X) w1.heap.size n (by omega) hb2.size; have eX' : Obj.cells (madeCells #[Value.int .i64 0] n) 3 = X := eX; rw [eX'] at m1 m2 m3; have a2 : Below (w1.alloc X).heap.size (w1.alloc X) ((w1.alloc X).alloc X) := (Below.refl _ _).alloc (Nat.le_refl _) _; have a3 : Below ((w1.alloc X).alloc X).heap.size ((w1.alloc X).alloc X) (((w1.alloc X).alloc X).alloc X) := (Below.refl _ _).alloc (Nat.le_refl _) _; have k1 := ((m1.below a2).below a3).below hb4; have k2 := (m2.below a3).below hb4; have k3 := m3.below hb4; rw [World.size_alloc] at k2; rw [World.size_alloc, World.size_alloc] at k3; refine ⟨k1, k2, k3, hO4.mono hb3.size, by omega, fun k hk => ?_, by omega⟩; have := (hO4.2.lt k hk).1; rw [World.size_alloc, World.size_alloc, World.size_alloc] at this
  omega
 have hmc := HML.out _ _ _ _ HA4.out.r4; subst hmc; clear hb1 hb2 hb3 hb4 hO4 HCH hmk eX HML; go_wp2_with fail
 go_loopw [12] (fun i wr => ∃ (j : Nat), j ≤ mc + 1 ∧ i = .int .i64 ((j : Int) - 1) ∧ Hid (InL (stM n h gs j).1 (j * 2001)) ∧ Hid (A3 wr w1.heap.size w1.heap.size (w1.heap.size + 1) (w1.heap.size + 1 + 1) n pc mc cc (chunkL 0 gs) (stM n h gs j)) ∧ Hid (Below w1.heap.size w1 wr)) (fun i _ => mc + 1 - (intOf i + 1).toNat)
 case atStart => exact ⟨0, by omega, by go_num, (InL.rep n).up (Nat.zero_le _), HA4, HB4⟩
 case round =>
  obtain ⟨j, hj, rfl, HIL, HA, HB⟩ := hrel
  by_cases hlt : j < mc + 1
  ·cases j with
   | zero =>
     obtain ⟨tc, etc⟩ : ∃ tc, tc = (termAt h gs 0).1 :: (termAt h gs 0).2.cells := ⟨_, rfl⟩
     have HSN : Hid (stM n h gs (0 + 1) = meetsM 0 (stM n h gs 0) (vsC tc)) := by rw [etc]; exact HST.out 0 (by omega)
     have HCI : Hid (CIn w1 ph tc) := by rw [etc]; exact HTH.out.2.2.2
     have HNL : Hid (nh = tc.length) := by show _ = _; rw [etc]; exact HTH.out.1
     have HVT : Hid (∀ c ∈ tc, c.1 = 0 → 0 ≤ c.2.1 ∧ c.2.1 < n) := by rw [etc]; exact HVS.out 0 (by omega)
     obtain ⟨M, eM⟩ : ∃ M, M = stM n h gs 0 := ⟨_, rfl⟩
     rw [← eM] at HIL HA HSN; clear HTM HTH HVS HST HQ HCA etc eM HA4 HB4; go_wp2_with fail
     go_loopw [15] (fun i wr => ∃ (k : Nat), k ≤ nh ∧ i = .int .i64 k ∧ Hid (InL (meetsM 0 M (vsC (tc.take k))).1 (0 * 2001 + k)) ∧ Hid (A3 wr w1.heap.size w1.heap.size (w1.heap.size + 1) (w1.heap.size + 1 + 1) n pc mc cc (chunkL 0 gs) (meetsM 0 M (vsC (tc.take k)))) ∧ Hid (Below w1.heap.size w1 wr)) (fun i _ => nh - (intOf i).toNat)
     case atStart => exact ⟨0, Nat.zero_le _, by go_num, HIL.out, HA.out, HB⟩
     case round =>
      obtain ⟨k, hk, rfl, HIK, HAK, HBK⟩ := hrel
      by_cases hkl : k < nh
      ·have hkt : k < tc.length := by have := HNL.out; omega
       obtain ⟨b, o, rfl, hc⟩ := HCI.out (by omega); obtain ⟨q1, qc, d0, d1, d2, d3⟩ := (hc k hkt).below HBK.out; have htk := vsC_take tc k hkt; have hv := HVT.out (tc.getD k Cel.none) (by simp [List.getD, hkt])
       generalize (tc.getD k Cel.none).1 = k1 at d0 htk hv
       generalize (tc.getD k Cel.none).2.1 = k2 at d1 htk hv
       by_cases h0 : k1 = 0
       ·subst h0
        obtain ⟨hv0, hvn⟩ := hv rfl
        obtain ⟨u, rfl⟩ : ∃ u : Nat, k2 = (u : Int) := ⟨k2.toNat, by omega⟩
        have hun : u < n := by omega
        rw [if_pos rfl] at htk
        obtain ⟨Mk, hMk⟩ : ∃ Mk, Mk = meetsM 0 M (vsC (tc.take k)) := ⟨_, rfl⟩
        rw [← hMk] at HIK HAK
        have HMN : Hid (meetsM 0 M (vsC (tc.take (k + 1))) = meetM 0 Mk u) := by show _ = _; rw [htk, meetsM_snoc, ← hMk]
        obtain ⟨z1, f1⟩ := HAK.out.r1.get hun; obtain ⟨z2, f2⟩ := HAK.out.r2.get hun; obtain ⟨z3, f3⟩ := HAK.out.r3.get hun; have hx1 := HIK.out u; have HI9 : Hid (InL (meetM 0 Mk u).1 (0 * 2001 + (k + 1))) := InL.set HIK.out; have HMM0 : Hid (meetM 0 Mk u = (Mk.1.set u (Mk.1.getD u 0 + 1), Mk.2.1.set u 0, if 0 < Mk.1.getD u 0 ∧ Mk.2.1.getD u 0 ≠ 0 then Mk.2.2.set u 2 else Mk.2.2)) := rfl
        obtain ⟨x1, ex1⟩ : ∃ x, x = Mk.1.getD u 0 := ⟨_, rfl⟩
        obtain ⟨x2, ex2⟩ : ∃ x, x = Mk.2.1.getD u 0 := ⟨_, rfl⟩
        obtain ⟨x3, ex3⟩ : ∃ x, x = Mk.2.2.getD u 0 := ⟨_, rfl⟩
        rw [← ex1] at z1 hx1 HMM0; rw [← ex2] at z2 HMM0; rw [← ex3] at z3
        have hx1' : 0 ≤ x1 ∧ x1 ≤ 5000000 := by omega
        clear hx1 htk hv hv0 hvn hMk d2 d3 hc
        by_cases c1 : 0 < x1
        ·have c1' : decide (0 < x1) = true := decide_eq_true c1
         by_cases c2 : x2 = 0
         ·have c2' : (x2 == 0) = true := by rw [c2]; exact beq_self_eq_true _
          have HMM : Hid (meetM 0 Mk u = (Mk.1.set u (x1 + 1), Mk.2.1.set u 0, Mk.2.2)) := by show _ = _; rw [HMM0.out, if_neg (fun h => h.2 c2)]
          clear HMM0 c2
          have y3 : (wr.setCell ⟨w1.heap.size, u, none⟩ (.int .i64 (x1 + 1))).cell? ⟨w1.heap.size + 1, u, none⟩ = some (.int .i64 x2) := by have h9 := ((HAK.out.put1 u (x1 + 1)).r2.get hun).1; rw [ex2]; exact h9
          have y4 : (wr.setCell ⟨w1.heap.size, u, none⟩ (.int .i64 (x1 + 1))).frozen? ⟨w1.heap.size + 1, u, none⟩ = false := ((HAK.out.put1 u (x1 + 1)).r2.get hun).2
          have HA9 : Hid (A3 ((wr.setCell ⟨w1.heap.size, u, none⟩ (.int .i64 (x1 + 1))).setCell ⟨w1.heap.size + 1, u, none⟩ (.int .i64 0)) w1.heap.size w1.heap.size (w1.heap.size + 1) (w1.heap.size + 1 + 1) n pc mc cc (chunkL 0 gs) (meetM 0 Mk u)) := by
           have h9 := ((HAK.out.put1 u (x1 + 1)).put2 u 0)
           show A3 _ _ _ _ _ _ _ _ _ _ _
           rw [HMM.out]; exact h9
          have HB9 : Hid (Below w1.heap.size w1 ((wr.setCell ⟨w1.heap.size, u, none⟩ (.int .i64 (x1 + 1))).setCell ⟨w1.heap.size + 1, u, none⟩ (.int .i64 0))) := ((HBK.out.setCell (p := ⟨w1.heap.size, u, none⟩) (Nat.le_refl _) _).setCell (p := ⟨w1.heap.size + 1, u, none⟩) (show w1.heap.size ≤ w1.heap.size + 1 by omega) _)
          clear HAK HBK HIK HMM ex1 ex2 ex3; go_wp2_with fail; go_roundw
          case rel => exact ⟨k + 1, by omega, by go_num, by rw [HMN.out]; exact HI9.out.up (by omega), by rw [HMN.out]; exact HA9, HB9⟩
          case measure => (simp [intOf] <;> omega)
         ·have c2' : (x2 == 0) = false := beq_eq_false_iff_ne.2 c2
          have HMM : Hid (meetM 0 Mk u = (Mk.1.set u (x1 + 1), Mk.2.1.set u 0, Mk.2.2.set u 2)) := by show _ = _; rw [HMM0.out, if_pos ⟨c1, c2⟩]
          clear HMM0 c2
          have y1 : (wr.setCell ⟨w1.heap.size + 1 + 1, u, none⟩ (.int .i64 2)).cell? ⟨w1.heap.size, u, none⟩ = some (.int .i64 x1) := by have h9 := ((HAK.out.put3 u 2).r1.get hun).1; rw [ex1]; exact h9
          have y2 : (wr.setCell ⟨w1.heap.size + 1 + 1, u, none⟩ (.int .i64 2)).frozen? ⟨w1.heap.size, u, none⟩ = false := ((HAK.out.put3 u 2).r1.get hun).2
          have y3 : ((wr.setCell ⟨w1.heap.size + 1 + 1, u, none⟩ (.int .i64 2)).setCell ⟨w1.heap.size, u, none⟩ (.int .i64 (x1 + 1))).cell? ⟨w1.heap.size + 1, u, none⟩ = some (.int .i64 x2) := by have h9 := (((HAK.out.put3 u 2).put1 u (x1 + 1)).r2.get hun).1; rw [ex2]; exact h9
          have y4 : ((wr.setCell ⟨w1.heap.size + 1 + 1, u, none⟩ (.int .i64 2)).setCell ⟨w1.heap.size, u, none⟩ (.int .i64 (x1 + 1))).frozen? ⟨w1.heap.size + 1, u, none⟩ = false := (((HAK.out.put3 u 2).put1 u (x1 + 1)).r2.get hun).2
          have HA9 : Hid (A3 (((wr.setCell ⟨w1.heap.size + 1 + 1, u, none⟩ (.int .i64 2)).setCell ⟨w1.heap.size, u, none⟩ (.int .i64 (x1 + 1))).setCell ⟨w1.heap.size + 1, u, none⟩ (.int .i64 0)) w1.heap.size w1.heap.size (w1.heap.size + 1) (w1.heap.size + 1 + 1) n pc mc cc (chunkL 0 gs) (meetM 0 Mk u)) := by
           have h9 := (((HAK.out.put3 u 2).put1 u (x1 + 1)).put2 u 0)
           show A3 _ _ _ _ _ _ _ _ _ _ _
           rw [HMM.out]; exact h9
          have HB9 : Hid (Below w1.heap.size w1 (((wr.setCell ⟨w1.heap.size + 1 + 1, u, none⟩ (.int .i64 2)).setCell ⟨w1.heap.size, u, none⟩ (.int .i64 (x1 + 1))).setCell ⟨w1.heap.size + 1, u, none⟩ (.int .i64 0))) := (((HBK.out.setCell (p := ⟨w1.heap.size + 1 + 1, u, none⟩) (show w1.heap.size ≤ w1.heap.size + 1 + 1 by omega) _).setCell (p := ⟨w1.heap.size, u, none⟩) (Nat.le_refl _) _).setCell (p := ⟨w1.heap.size + 1, u, none⟩) (show w1.heap.size ≤ w1.heap.size + 1 by omega) _)
          clear HAK HBK HIK HMM ex1 ex2 ex3; go_wp2_with fail; go_roundw
          case rel => exact ⟨k + 1, by omega, by go_num, by rw [HMN.out]; exact HI9.out.up (by omega), by rw [HMN.out]; exact HA9, HB9⟩
          case measure => (simp [intOf] <;> omega)
        ·have c1' : decide (0 < x1) = false := decide_eq_false c1
         have HMM : Hid (meetM 0 Mk u = (Mk.1.set u (x1 + 1), Mk.2.1.set u 0, Mk.2.2)) := by show _ = _; rw [HMM0.out, if_neg (fun h => c1 h.1)]
         clear HMM0
         have y3 : (wr.setCell ⟨w1.heap.size, u, none⟩ (.int .i64 (x1 + 1))).cell? ⟨w1.heap.size + 1, u, none⟩ = some (.int .i64 x2) := by have h9 := ((HAK.out.put1 u (x1 + 1)).r2.get hun).1; rw [ex2]; exact h9
         have y4 : (wr.setCell ⟨w1.heap.size, u, none⟩ (.int .i64 (x1 + 1))).frozen? ⟨w1.heap.size + 1, u, none⟩ = false := ((HAK.out.put1 u (x1 + 1)).r2.get hun).2
         have HA9 : Hid (A3 ((wr.setCell ⟨w1.heap.size, u, none⟩ (.int .i64 (x1 + 1))).setCell ⟨w1.heap.size + 1, u, none⟩ (.int .i64 0)) w1.heap.size w1.heap.size (w1.heap.size + 1) (w1.heap.size + 1 + 1) n pc mc cc (chunkL 0 gs) (meetM 0 Mk u)) := by
          have h9 := ((HAK.out.put1 u (x1 + 1)).put2 u 0)
          show A3 _ _ _ _ _ _ _ _ _ _ _
          rw [HMM.out]; exact h9
         have HB9 : Hid (Below w1.heap.size w1 ((wr.setCell ⟨w1.heap.size, u, none⟩ (.int .i64 (x1 + 1))).setCell ⟨w1.heap.size + 1, u, none⟩ (.int .i64 0))) := ((HBK.out.setCell (p := ⟨w1.heap.size, u, none⟩) (Nat.le_refl _) _).setCell (p := ⟨w1.heap.size + 1, u, none⟩) (show w1.heap.size ≤ w1.heap.size + 1 by omega) _)
         clear HAK HBK HIK HMM ex1 ex2 ex3; go_wp2_with fail; go_roundw
         case rel => exact ⟨k + 1, by omega, by go_num, by rw [HMN.out]; exact HI9.out.up (by omega), by rw [HMN.out]; exact HA9, HB9⟩
         case measure => (simp [intOf] <;> omega)
       ·have h0' : (k1 == 0) = false := beq_eq_false_iff_ne.2 h0
        rw [if_neg h0, List.append_nil] at htk
        have HMN : Hid (meetsM 0 M (vsC (tc.take (k + 1))) = meetsM 0 M (vsC (tc.take k))) := by show _ = _; rw [htk]
        clear htk hv d2 d3 hc; go_wp2_with fail; go_roundw
        case rel => exact ⟨k + 1, by omega, by go_num, by rw [HMN.out]; exact HIK.out.up (by omega), by rw [HMN.out]; exact HAK, HBK⟩
        case measure => (simp [intOf] <;> omega)
      ·obtain rfl : k = nh := by omega
       have HE : Hid (meetsM 0 M (vsC (tc.take k)) = stM n h gs (0 + 1)) := by
        show _ = _
        rw [List.take_of_length_le (by rw [← HNL.out]; exact Nat.le_refl _)]; exact HSN.out.symm
       have HA9 : Hid (A3 wr w1.heap.size w1.heap.size (w1.heap.size + 1) (w1.heap.size + 1 + 1) n pc mc cc (chunkL 0 gs) (stM n h gs (0 + 1))) := by rw [← HE.out]; exact HAK
       have HI9 : Hid (InL (stM n h gs (0 + 1)).1 ((0 + 1) * 2001)) := by
        show InL _ _
        rw [← HE.out]; exact HIK.out.up (by omega)
       clear HIK HAK HE; go_wp2_with fail; go_roundw
       case rel => exact ⟨0 + 1, by omega, by go_num, HI9, HA9, HBK⟩
       case measure => (simp [intOf] <;> omega)
   | succ j =>
     have hjm : j < mc := by omega
     obtain ⟨g5, rp, rn, rc, rfl, y5, hrn, hrc, hti⟩ := HTM.out w1 (Below.refl _ _) j hjm; have y5' : wr.cell? ⟨g5, j, none⟩ = some (.slice rp rn rc) := (HB.out.cell (World.block_lt_of_cell? _ _ y5)).trans y5; obtain ⟨bc, oc, rfl, _, y6⟩ := HCA.out wr pc mc cc HA.out.r4 j hjm; have hq := HQ.out (j + 1) (by omega)
     obtain ⟨tc, etc⟩ : ∃ tc, tc = (termAt h gs (j + 1)).1 :: (termAt h gs (j + 1)).2.cells := ⟨_, rfl⟩
     have HSN0 : stM n h gs (j + 1 + 1) = meetsM (chunkAt gs (j + 1)) (stM n h gs (j + 1)) (vsC tc) := by rw [etc]; exact HST.out (j + 1) (by omega)
     generalize chunkAt gs (j + 1) = qv at HSN0 hq y6
     have HSN : Hid (stM n h gs (j + 1 + 1) = meetsM qv (stM n h gs (j + 1)) (vsC tc)) := HSN0
     have HCI : Hid (CIn w1 rp tc) := by rw [etc]; exact hti.2.2.2
     have HNL : Hid (rn = tc.length) := by show _ = _; rw [etc]; exact hti.1
     have hrnc : rn ≤ rc := hti.2.1
     have HVT : Hid (∀ c ∈ tc, c.1 = 0 → 0 ≤ c.2.1 ∧ c.2.1 < n) := by rw [etc]; exact HVS.out (j + 1) (by omega)
     obtain ⟨M, eM⟩ : ∃ M, M = stM n h gs (j + 1) := ⟨_, rfl⟩
     rw [← eM] at HIL HA HSN
     have ej : ((j + 1 : Nat) : Int) - 1 = (j : Int) := by omega
     rw [ej]; clear HTM HTH HVS HST HQ HCA etc eM HA4 HB4 y5 hti HSN0 ej; go_wp2_with fail
     go_loopw [15] (fun i wr => ∃ (k : Nat), k ≤ rn ∧ i = .int .i64 k ∧ Hid (InL (meetsM qv M (vsC (tc.take k))).1 ((j + 1) * 2001 + k)) ∧ Hid (A3 wr w1.heap.size w1.heap.size (w1.heap.size + 1) (w1.heap.size + 1 + 1) n (some ⟨bc, oc, none⟩) mc cc (chunkL 0 gs) (meetsM qv M (vsC (tc.take k)))) ∧ Hid (Below w1.heap.size w1 wr)) (fun i _ => rn - (intOf i).toNat)
     case atStart => exact ⟨0, Nat.zero_le _, by go_num, HIL.out, HA.out, HB⟩
     case round =>
      obtain ⟨k, hk, rfl, HIK, HAK, HBK⟩ := hrel
      by_cases hkl : k < rn
      ·have hkt : k < tc.length := by have := HNL.out; omega
       obtain ⟨b, o, rfl, hc⟩ := HCI.out (by omega); obtain ⟨q1, qc, d0, d1, d2, d3⟩ := (hc k hkt).below HBK.out; have htk := vsC_take tc k hkt; have hv := HVT.out (tc.getD k Cel.none) (by simp [List.getD, hkt])
       generalize (tc.getD k Cel.none).1 = k1 at d0 htk hv
       generalize (tc.getD k Cel.none).2.1 = k2 at d1 htk hv
       by_cases h0 : k1 = 0
       ·subst h0
        obtain ⟨hv0, hvn⟩ := hv rfl
        obtain ⟨u, rfl⟩ : ∃ u : Nat, k2 = (u : Int) := ⟨k2.toNat, by omega⟩
        have hun : u < n := by omega
        rw [if_pos rfl] at htk
        obtain ⟨Mk, hMk⟩ : ∃ Mk, Mk = meetsM qv M (vsC (tc.take k)) := ⟨_, rfl⟩
        rw [← hMk] at HIK HAK
        have HMN : Hid (meetsM qv M (vsC (tc.take (k + 1))) = meetM qv Mk u) := by show _ = _; rw [htk, meetsM_snoc, ← hMk]
        obtain ⟨z1, f1⟩ := HAK.out.r1.get hun; obtain ⟨z2, f2⟩ := HAK.out.r2.get hun; obtain ⟨z3, f3⟩ := HAK.out.r3.get hun; have hx1 := HIK.out u; have HI9 : Hid (InL (meetM qv Mk u).1 ((j + 1) * 2001 + (k + 1))) := InL.set HIK.out; have HMM0 : Hid (meetM qv Mk u = (Mk.1.set u (Mk.1.getD u 0 + 1), Mk.2.1.set u qv, if 0 < Mk.1.getD u 0 ∧ Mk.2.1.getD u 0 ≠ qv then Mk.2.2.set u 2 else Mk.2.2)) := rfl
        obtain ⟨x1, ex1⟩ : ∃ x, x = Mk.1.getD u 0 := ⟨_, rfl⟩
        obtain ⟨x2, ex2⟩ : ∃ x, x = Mk.2.1.getD u 0 := ⟨_, rfl⟩
        obtain ⟨x3, ex3⟩ : ∃ x, x = Mk.2.2.getD u 0 := ⟨_, rfl⟩
        rw [← ex1] at z1 hx1 HMM0; rw [← ex2] at z2 HMM0; rw [← ex3] at z3
        have hx1' : 0 ≤ x1 ∧ x1 ≤ 5000000 := by omega
        clear hx1 htk hv hv0 hvn hMk d2 d3 hc
        by_cases c1 : 0 < x1
        ·have c1' : decide (0 < x1) = true := decide_eq_true c1
         by_cases c2 : x2 = qv
         ·have c2' : (x2 == qv) = true := by rw [c2]; exact beq_self_eq_true _
          have HMM : Hid (meetM qv Mk u = (Mk.1.set u (x1 + 1), Mk.2.1.set u qv, Mk.2.2)) := by show _ = _; rw [HMM0.out, if_neg (fun h => h.2 c2)]
          clear HMM0 c2
          have y3 : (wr.setCell ⟨w1.heap.size, u, none⟩ (.int .i64 (x1 + 1))).cell? ⟨w1.heap.size + 1, u, none⟩ = some (.int .i64 x2) := by have h9 := ((HAK.out.put1 u (x1 + 1)).r2.get hun).1; rw [ex2]; exact h9
          have y4 : (wr.setCell ⟨w1.heap.size, u, none⟩ (.int .i64 (x1 + 1))).frozen? ⟨w1.heap.size + 1, u, none⟩ = false := ((HAK.out.put1 u (x1 + 1)).r2.get hun).2
          have HA9 : Hid (A3 ((wr.setCell ⟨w1.heap.size, u, none⟩ (.int .i64 (x1 + 1))).setCell ⟨w1.heap.size + 1, u, none⟩ (.int .i64 qv)) w1.heap.size w1.heap.size (w1.heap.size + 1) (w1.heap.size + 1 + 1) n (some ⟨bc, oc, none⟩) mc cc (chunkL 0 gs) (meetM qv Mk u)) := by
           have h9 := ((HAK.out.put1 u (x1 + 1)).put2 u qv)
           show A3 _ _ _ _ _ _ _ _ _ _ _
           rw [HMM.out]; exact h9
          have HB9 : Hid (Below w1.heap.size w1 ((wr.setCell ⟨w1.heap.size, u, none⟩ (.int .i64 (x1 + 1))).setCell ⟨w1.heap.size + 1, u, none⟩ (.int .i64 qv))) := ((HBK.out.setCell (p := ⟨w1.heap.size, u, none⟩) (Nat.le_refl _) _).setCell (p := ⟨w1.heap.size + 1, u, none⟩) (show w1.heap.size ≤ w1.heap.size + 1 by omega) _)
          clear HAK HBK HIK HMM ex1 ex2 ex3; go_wp2_with fail; go_roundw
          case rel => exact ⟨k + 1, by omega, by go_num, by rw [HMN.out]; exact HI9.out.up (by omega), by rw [HMN.out]; exact HA9, HB9⟩
          case measure => (simp [intOf] <;> omega)
         ·have c2' : (x2 == qv) = false := beq_eq_false_iff_ne.2 c2
          have HMM : Hid (meetM qv Mk u = (Mk.1.set u (x1 + 1), Mk.2.1.set u qv, Mk.2.2.set u 2)) := by show _ = _; rw [HMM0.out, if_pos ⟨c1, c2⟩]
          clear HMM0 c2
          have y1 : (wr.setCell ⟨w1.heap.size + 1 + 1, u, none⟩ (.int .i64 2)).cell? ⟨w1.heap.size, u, none⟩ = some (.int .i64 x1) := by have h9 := ((HAK.out.put3 u 2).r1.get hun).1; rw [ex1]; exact h9
          have y2 : (wr.setCell ⟨w1.heap.size + 1 + 1, u, none⟩ (.int .i64 2)).frozen? ⟨w1.heap.size, u, none⟩ = false := ((HAK.out.put3 u 2).r1.get hun).2
          have y3 : ((wr.setCell ⟨w1.heap.size + 1 + 1, u, none⟩ (.int .i64 2)).setCell ⟨w1.heap.size, u, none⟩ (.int .i64 (x1 + 1))).cell? ⟨w1.heap.size + 1, u, none⟩ = some (.int .i64 x2) := by have h9 := (((HAK.out.put3 u 2).put1 u (x1 + 1)).r2.get hun).1; rw [ex2]; exact h9
          have y4 : ((wr.setCell ⟨w1.heap.size + 1 + 1, u, none⟩ (.int .i64 2)).setCell ⟨w1.heap.size, u, none⟩ (.int .i64 (x1 + 1))).frozen? ⟨w1.heap.size + 1, u, none⟩ = false := (((HAK.out.put3 u 2).put1 u (x1 + 1)).r2.get hun).2
          have HA9 : Hid (A3 (((wr.setCell ⟨w1.heap.size + 1 + 1, u, none⟩ (.int .i64 2)).setCell ⟨w1.heap.size, u, none⟩ (.int .i64 (x1 + 1))).setCell ⟨w1.heap.size + 1, u, none⟩ (.int .i64 qv)) w1.heap.size w1.heap.size (w1.heap.size + 1) (w1.heap.size + 1 + 1) n (some ⟨bc, oc, none⟩) mc cc (chunkL 0 gs) (meetM qv Mk u)) := by
           have h9 := (((HAK.out.put3 u 2).put1 u (x1 + 1)).put2 u qv)
           show A3 _ _ _ _ _ _ _ _ _ _ _
           rw [HMM.out]; exact h9
          have HB9 : Hid (Below w1.heap.size w1 (((wr.setCell ⟨w1.heap.size + 1 + 1, u, none⟩ (.int .i64 2)).setCell ⟨w1.heap.size, u, none⟩ (.int .i64 (x1 + 1))).setCell ⟨w1.heap.size + 1, u, none⟩ (.int .i64 qv))) := (((HBK.out.setCell (p := ⟨w1.heap.size + 1 + 1, u, none⟩) (show w1.heap.size ≤ w1.heap.size + 1 + 1 by omega) _).setCell (p := ⟨w1.heap.size, u, none⟩) (Nat.le_refl _) _).setCell (p := ⟨w1.heap.size + 1, u, none⟩) (show w1.heap.size ≤ w1.heap.size + 1 by omega) _)
          clear HAK HBK HIK HMM ex1 ex2 ex3; go_wp2_with fail; go_roundw
          case rel => exact ⟨k + 1, by omega, by go_num, by rw [HMN.out]; exact HI9.out.up (by omega), by rw [HMN.out]; exact HA9, HB9⟩
          case measure => (simp [intOf] <;> omega)
        ·have c1' : decide (0 < x1) = false := decide_eq_false c1
         have HMM : Hid (meetM qv Mk u = (Mk.1.set u (x1 + 1), Mk.2.1.set u qv, Mk.2.2)) := by show _ = _; rw [HMM0.out, if_neg (fun h => c1 h.1)]
         clear HMM0
         have y3 : (wr.setCell ⟨w1.heap.size, u, none⟩ (.int .i64 (x1 + 1))).cell? ⟨w1.heap.size + 1, u, none⟩ = some (.int .i64 x2) := by have h9 := ((HAK.out.put1 u (x1 + 1)).r2.get hun).1; rw [ex2]; exact h9
         have y4 : (wr.setCell ⟨w1.heap.size, u, none⟩ (.int .i64 (x1 + 1))).frozen? ⟨w1.heap.size + 1, u, none⟩ = false := ((HAK.out.put1 u (x1 + 1)).r2.get hun).2
         have HA9 : Hid (A3 ((wr.setCell ⟨w1.heap.size, u, none⟩ (.int .i64 (x1 + 1))).setCell ⟨w1.heap.size + 1, u, none⟩ (.int .i64 qv)) w1.heap.size w1.heap.size (w1.heap.size + 1) (w1.heap.size + 1 + 1) n (some ⟨bc, oc, none⟩) mc cc (chunkL 0 gs) (meetM qv Mk u)) := by
          have h9 := ((HAK.out.put1 u (x1 + 1)).put2 u qv)
          show A3 _ _ _ _ _ _ _ _ _ _ _
          rw [HMM.out]; exact h9
         have HB9 : Hid (Below w1.heap.size w1 ((wr.setCell ⟨w1.heap.size, u, none⟩ (.int .i64 (x1 + 1))).setCell ⟨w1.heap.size + 1, u, none⟩ (.int .i64 qv))) := ((HBK.out.setCell (p := ⟨w1.heap.size, u, none⟩) (Nat.le_refl _) _).setCell (p := ⟨w1.heap.size + 1, u, none⟩) (show w1.heap.size ≤ w1.heap.size + 1 by omega) _)
         clear HAK HBK HIK HMM ex1 ex2 ex3; go_wp2_with fail; go_roundw
         case rel => exact ⟨k + 1, by omega, by go_num, by rw [HMN.out]; exact HI9.out.up (by omega), by rw [HMN.out]; exact HA9, HB9⟩
         case measure => (simp [intOf] <;> omega)
       ·have h0' : (k1 == 0) = false := beq_eq_false_iff_ne.2 h0
        rw [if_neg h0, List.append_nil] at htk
        have HMN : Hid (meetsM qv M (vsC (tc.take (k + 1))) = meetsM qv M (vsC (tc.take k))) := by show _ = _; rw [htk]
        clear htk hv d2 d3 hc; go_wp2_with fail; go_roundw
        case rel => exact ⟨k + 1, by omega, by go_num, by rw [HMN.out]; exact HIK.out.up (by omega), by rw [HMN.out]; exact HAK, HBK⟩
        case measure => (simp [intOf] <;> omega)
      ·obtain rfl : k = rn := by omega
       have HE : Hid (meetsM qv M (vsC (tc.take k)) = stM n h gs ((j + 1) + 1)) := by
        show _ = _
        rw [List.take_of_length_le (by rw [← HNL.out]; exact Nat.le_refl _)]; exact HSN.out.symm
       have HA9 : Hid (A3 wr w1.heap.size w1.heap.size (w1.heap.size + 1) (w1.heap.size + 1 + 1) n (some ⟨bc, oc, none⟩) mc cc (chunkL 0 gs) (stM n h gs ((j + 1) + 1))) := by rw [← HE.out]; exact HAK
       have HI9 : Hid (InL (stM n h gs ((j + 1) + 1)).1 (((j + 1) + 1) * 2001)) := by
        show InL _ _
        rw [← HE.out]; exact HIK.out.up (by omega)
       clear HIK HAK HE; go_wp2_with fail; go_roundw
       case rel => exact ⟨(j + 1) + 1, by omega, by go_num, HI9, HA9, HBK⟩
       case measure => (simp [intOf] <;> omega)
  ·obtain rfl : j = mc + 1 := by omega
   obtain ⟨M, eM⟩ : ∃ M, M = stM n h gs (mc + 1) := ⟨_, rfl⟩
   have HEM : Hid (endM M = endM (stM n h gs (mc + 1))) := by rw [eM]; exact rfl
   rw [← eM] at HIL HA; have HLN : Hid (n = M.2.2.length) := HA.out.r3.1; clear HTM HTH HVS HST HQ HCA HA4 HB4 eM; go_wp2_with fail
   go_loopw [17] (fun i wr => ∃ (v : Nat), v ≤ n ∧ i = .int .i64 v ∧ Hid (A3 wr w1.heap.size w1.heap.size (w1.heap.size + 1) (w1.heap.size + 1 + 1) n pc mc cc (chunkL 0 gs) (M.1, M.2.1, endS M v)) ∧ Hid (Below w1.heap.size w1 wr)) (fun i _ => n - (intOf i).toNat)
   case atStart => exact ⟨0, Nat.zero_le _, by go_num, HA, HB⟩
   case round =>
    obtain ⟨u, hu, rfl, HAK, HBK⟩ := hrel
    by_cases hun : u < n
    ·obtain ⟨z1, f1⟩ := HAK.out.r1.get hun
     obtain ⟨z3, f3⟩ := HAK.out.r3.get hun; have eg := endS_get M u (by rw [← HLN.out]; exact hu) u; rw [if_neg (fun h9 => Nat.lt_irrefl _ h9.1)] at eg
     have z3' : wr.cell? ⟨w1.heap.size + 1 + 1, u, none⟩ = some (.int .i64 (M.2.2.getD u 0)) := by rw [← eg]; exact z3
     have z1' : wr.cell? ⟨w1.heap.size, u, none⟩ = some (.int .i64 (M.1.getD u 0)) := z1; have HES : Hid (endS M (u + 1) = if M.2.2.getD u 0 ≠ 2 ∧ 1 < M.1.getD u 0 then (endS M u).set u 1 else endS M u) := rfl
     obtain ⟨x1, ex1⟩ : ∃ x, x = M.1.getD u 0 := ⟨_, rfl⟩
     obtain ⟨x3, ex3⟩ : ∃ x, x = M.2.2.getD u 0 := ⟨_, rfl⟩
     rw [← ex1] at z1' HES; rw [← ex3] at z3' HES; clear z1 z3 eg ex1 ex3
     by_cases c3 : x3 = 2
     ·have HE9 : Hid (endS M (u + 1) = endS M u) := by show _ = _; rw [HES.out, if_neg (fun h9 => h9.1 c3)]
      clear HES; subst c3; go_wp2_with fail; go_roundw
      case rel => exact ⟨u + 1, by omega, by go_num, by rw [HE9.out]; exact HAK, HBK⟩
      case measure => (simp [intOf] <;> omega)
     ·have c3' : (x3 == 2) = false := beq_eq_false_iff_ne.2 c3
      have c3b : (x3 != 2) = true := by simp [c3]
      by_cases c1 : 1 < x1
      ·have c1' : decide (1 < x1) = true := decide_eq_true c1
       have HE9 : Hid (endS M (u + 1) = (endS M u).set u 1) := by show _ = _; rw [HES.out, if_pos ⟨c3, c1⟩]
       have HA9 : Hid (A3 (wr.setCell ⟨w1.heap.size + 1 + 1, u, none⟩ (.int .i64 1)) w1.heap.size w1.heap.size (w1.heap.size + 1) (w1.heap.size + 1 + 1) n pc mc cc (chunkL 0 gs) (M.1, M.2.1, endS M (u + 1))) := by
        show A3 _ _ _ _ _ _ _ _ _ _ _
        rw [HE9.out]; exact HAK.out.put3 u 1
       have HB9 : Hid (Below w1.heap.size w1 (wr.setCell ⟨w1.heap.size + 1 + 1, u, none⟩ (.int .i64 1))) := HBK.out.setCell (p := ⟨w1.heap.size + 1 + 1, u, none⟩) (show w1.heap.size ≤ w1.heap.size + 1 + 1 by omega) _; clear HES HAK HBK; go_wp2_with fail; go_roundw
       case rel => exact ⟨u + 1, by omega, by go_num, HA9, HB9⟩
       case measure => (simp [intOf] <;> omega)
      ·have c1' : decide (1 < x1) = false := decide_eq_false c1
       have HE9 : Hid (endS M (u + 1) = endS M u) := by show _ = _; rw [HES.out, if_neg (fun h9 => c1 h9.2)]
       clear HES; go_wp2_with fail; go_roundw
       case rel => exact ⟨u + 1, by omega, by go_num, by rw [HE9.out]; exact HAK, HBK⟩
       case measure => (simp [intOf] <;> omega)
    ·obtain rfl : u = n := by omega
     have HO9 : Hid (OwnI wr w1.heap.size 3 (some ⟨w1.heap.size + 1 + 1, 0, none⟩) u u (endM (stM u h gs (mc + 1)))) := by
      show OwnI _ _ _ _ _ _ _
      rw [← HEM.out, ← endS_end M, ← HLN.out]; exact HAK.out.r3
     clear HAK HEM; go_wp2_with fail; go_ret; exact ⟨_, _, _, rfl, HO9.out, HBK.out⟩
end Go.Proofs.YtickbkcpcgmlmaaGreatDoor
