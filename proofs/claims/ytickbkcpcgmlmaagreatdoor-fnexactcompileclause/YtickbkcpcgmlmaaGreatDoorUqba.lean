/- Texts of CcW. Own work of the verifier. -/
import Derived.Test.YtickbkcpcgmlmaaGreatDoorUqaz
namespace Go.Proofs.YtickbkcpcgmlmaaGreatDoor
open Go Go.RowKit
set_option linter.unusedVariables false
set_option linter.unusedSimpArgs false
theorem infoBo : (Tryz.prog.info? 4).map (fun i => (i.zero, i.size, i.bytes)) = some (some (.bool false), 1, 1) := by kernel_rfl
theorem L1.start {W2 : World} {q : Option Addr} {c2 n : Nat} {C : List Int} {x : Nat} (hn : n = C.length) : L1 W2 (((W2.alloc (.cells #[.slice none 0 0, .slice q n c2, .slice (some ⟨W2.heap.size + 1, 0, none⟩) n n, .slice (some ⟨W2.heap.size + 1 + 1, 0, none⟩) n n, .int .i64 x] 47)).alloc (.cells (madeCells #[Value.int .i64 0] n) 3)).alloc (.cells (madeCells #[Value.bool false] n) 4)) q c2 C x 0 := by
 obtain ⟨W, eW⟩ : ∃ W, W = ((W2.alloc (.cells #[.slice none 0 0, .slice q n c2, .slice (some ⟨W2.heap.size + 1, 0, none⟩) n n, .slice (some ⟨W2.heap.size + 1 + 1, 0, none⟩) n n, .int .i64 x] 47)).alloc (.cells (madeCells #[Value.int .i64 0] n) 3)).alloc (.cells (madeCells #[Value.bool false] n) 4) := ⟨_, rfl⟩
 rw [← eW]; obtain ⟨h0, h1, h2⟩ := heap_threeL W2 (.cells #[.slice none 0 0, .slice q n c2, .slice (some ⟨W2.heap.size + 1, 0, none⟩) n n, .slice (some ⟨W2.heap.size + 1 + 1, 0, none⟩) n n, .int .i64 x] 47) (.cells (madeCells #[Value.int .i64 0] n) 3) (.cells (madeCells #[Value.bool false] n) 4); rw [← eW] at h0 h1 h2; refine ⟨by rw [eW]; exact Below.on (Below.on (new_lowK _ _) (new_lowK _ _)) (new_lowK _ _), by rw [cell_block h0]; rfl, by rw [cell_block h0, ← hn]; rfl, by rw [cell_block h0, ← hn]; rfl, by rw [cell_block h0, ← hn]; rfl, by rw [cell_block h0]; rfl, fun b hb o => ?_, fun u hu => ⟨?_, ?_⟩, by rw [eW]; simp⟩
 ·simp only [List.mem_cons, List.not_mem_nil, or_false] at hb
  rcases hb with rfl | rfl | rfl
  ·exact frozen_block h0 o
  ·exact frozen_block h1 o
  ·exact frozen_block h2 o
 ·rw [cell_block h1, if_neg (fun h => by omega)]
  simp [madeCells, hn, hu, Nat.mod_one]
 ·rw [show W2.heap.size + 2 = W2.heap.size + 1 + 1 by omega, cell_block h2]
  simp [madeCells, hn, hu, Nat.mod_one]
theorem run_makeBo (n : Nat) (hn : n ≤ 20000) (w : World) : (Instr.makeSlice 45 (.int .i64 (n : Int)) (.int .i64 (n : Int))).run Tryz.prog w = .ok (.slice (some ⟨w.heap.size, 0, none⟩) n n) (w.alloc (.cells (madeCells #[Value.bool false] n) 4)) := by
 obtain ⟨i0, hi, hz0, hz1, hz2⟩ := info_parts infoBo; have h := run_makeSlice w 45 4 i0 (.bool false) Tryz.underlying45 hi hz0 .i64 .i64 (n : Int) (n : Int) (by omega) (by omega) (by rw [hz1]; simp; omega) (by rw [hz2]; omega) (by omega); rw [h, hz1]
 simp [Value.cells]
def envI (gs : List Tr) (i : Nat) : Bool := (List.range i).any fun j => !inlG (gs.getD j (Cel.none, .nil)) && decide (j + 1 < gs.length)
theorem envI_succ (gs : List Tr) (i : Nat) : envI gs (i + 1) = (envI gs i || (!inlG (gs.getD i (Cel.none, .nil)) && decide (i + 1 < gs.length))) := by simp [envI, List.range_succ, List.any_append]
theorem envI_cons (g : Tr) (gs : List Tr) (n : Nat) : envI (g :: gs) (n + 1) = ((!inlG g && decide (1 < (g :: gs).length)) || envI gs n) := by
 unfold envI
 rw [List.range_succ_eq_map, List.any_cons, List.any_map]
 congr 1
 congr 1
 funext j
 simp
theorem envI_all : ∀ gs : List Tr, envI gs gs.length = envB gs
 | [] => rfl
 | g :: gs => by
   rw [List.length_cons, envI_cons, envI_all gs]
   show (_ || envB gs) = ((!inlG g && !gs.isEmpty) || envB gs)
   congr 2
   cases gs <;> simp
def ariI (x : Nat) (gs : List Tr) (i : Nat) : Nat := (gs.take i).foldl (fun m g => max m (ariT g.1)) x
theorem ariI_succ (x : Nat) (gs : List Tr) (i : Nat) {g : Tr} (h : gs[i]? = some g) : ariI x gs (i + 1) = max (ariI x gs i) (ariT g.1) := by
 unfold ariI
 rw [List.take_add_one, h, List.foldl_append]; rfl
def CcOut (cs : List Cel) (w : World) (e : Ending) (w' : World) : Prop :=
 ∃ q m c2, Below w.heap.size w w' ∧
   ((e = .returned (.tuple #[.slice q m c2, .int .i64 1]) ∧ q = none ∧ m = 0 ∧ c2 = 0 ∧ ¬ (validB cs = true ∧ ∀ c k, cs = c :: k.cells → (Fo.node c k .nil).ok → flatB (c, k) = true)) ∨
    (validB cs = true ∧ ∃ c k, cs = c :: k.cells ∧ (Fo.node c k .nil).ok ∧ flatB (c, k) = true ∧ (ccBig (c, k) = true ∧ e = .returned (.tuple #[.slice q m c2, .int .i64 3]) ∧ q = none ∧ m = 0 ∧ c2 = 0 ∨ ccBig (c, k) = false ∧ e = .returned (.tuple #[.slice q m c2, .int .i64 0]) ∧ OwnIv [] w' w.heap.size q m c2 (ccT (c, k)).out)))
set_option maxRecDepth 100000 in
set_option maxHeartbeats 4000000 in
theorem specCc_any (cs : List Cel) (p : Option Addr) (w : World) (hxb : ∀ i, i < cs.length → Byte (cs.getD i Cel.none).2.2) (hl : cs.length + tl cs ≤ 1048576) (hin : CIn w p cs) :
  Calls Tryz.prog 5 #[.slice p cs.length cs.length] w (CcOut cs w) := by
 have HF := flat_any cs p w hxb hl hin; have HIN : Hid (CIn w p cs) := hin
 obtain ⟨m, em⟩ : ∃ m, m = cs.length := ⟨_, rfl⟩
 have hm : m ≤ 1048576 := by omega
 have HEM : Hid (m = cs.length) := em; rw [← em] at HF ⊢; clear hxb hl hin em
 go_enter Tryz.func5, Tryz.ntmps5
 go_wp2_with fail; refine HF.mono ?_; rintro e W1 ⟨ph, nh, ch, pg, mg, cg, hb1, h | h⟩
 ·obtain ⟨rfl, hno⟩ := h
  have HO : Hid (CcOut cs w (.returned (.tuple #[.slice none 0 0, .int .i64 1])) W1) := ⟨none, 0, 0, hb1, .inl ⟨rfl, rfl, rfl, rfl, hno⟩⟩
  clear hno hb1 HF HIN; go_wp2_with fail; exact bodyPost_ret (v := .tuple #[.slice none 0 0, .int .i64 1]) (by simp [results, Tryz.results5, go_sem]) rfl HO.out
 ·obtain ⟨rfl, hv, c, k, rs, h1, h2, h3, h4, h5, h6, h7, h8⟩ := h
  have HC := clT_any cs p w HIN.out W1 ph nh ch pg mg cg c k rs hb1 h1 h2 h3 h4 h5 h6 h7 h8; rw [← HEM.out] at HC
  have hkl : k.cells.length + 1 ≤ 2000 := by rw [h1] at h4; simpa using h4
  obtain ⟨t1, t2, t3⟩ := tg_parts h2 h3 hkl
  have hgl : (goalsT (kid1 (c, k))).length ≤ 2000 := by
   obtain ⟨f1, f2, f3, f4, f5, f6, f7, f8, f9⟩ := flat_parts h2 h3
   unfold goalsT
   split
   ·simp
   ·have := conj_len _ (kid1 (c, k)).1 (kid1 (c, k)).2 (Nat.le_refl _); omega
  have hmg : mg ≤ 2000 := by omega
  have HTG : Hid (TG (classP (c, k)).length (kid0 (c, k)) ∧ ∀ g ∈ goalsT (kid1 (c, k)), TG (classP (c, k)).length g ∧ goodG g = true ∧ calC g.1 = true) := ⟨t2, t3⟩
  have hnh : nh ≤ 2000 := by have := h5.1; have := t2.sz; omega
  have HAR : Hid (∀ W, Below W1.heap.size W1 W → Calls Tryz.prog 16 #[.slice ph nh ch] W fun e w' => e = .returned (.int .i64 (fA (kid0 (c, k)).1)) ∧ w' = W) := fun W hW => arity_any (h5.below hW) (by omega)
  have HPA : Hid (TI W1 ph nh ch (kid0 (c, k)) ∧ mg = (goalsT (kid1 (c, k))).length ∧ W1.ownsRow w.heap.size 27 1 (.slice pg mg cg) mg (rs.map slV) ∧ ArgRowU W1 rs (goalsT (kid1 (c, k))) ∧ Below w.heap.size w W1) := ⟨h5, h6, h7, h8, hb1⟩
  have HVA : Hid (validB cs = true ∧ cs = c :: k.cells ∧ (Fo.node c k .nil).ok ∧ flatB (c, k) = true) := ⟨hv, h1, h2, h3⟩
  obtain ⟨x, ex⟩ : ∃ x : Nat, (x : Int) = fA (kid0 (c, k)).1 := ⟨(fA (kid0 (c, k)).1).toNat, by
   have h9 : 0 ≤ fA (kid0 (c, k)).1 := by
    unfold fA
    split
    ·have := t2.ok.2.2.1 (by assumption); omega
    ·omega
   omega⟩
  have HXA : Hid ((x : Int) = fA (kid0 (c, k)).1) := ex
  have hxx : x ≤ 2000 := by
   have h9 := t2.ok.2.2.1; have h10 := Fo.count_le (kid0 (c, k)).2; have h11 := t2.sz
   unfold fA at ex
   split at ex
   ·rename_i h12; have := h9 h12; omega
   ·omega
  rw [← ex] at HAR; clear h1 h2 h3 h4 h5 h6 h7 h8 hv hb1 HF HIN t2 t3 ex hkl hgl
  obtain ⟨C, eC⟩ : ∃ C, C = classP (c, k) := ⟨_, rfl⟩
  have HCC : Hid (C = classP (c, k)) := eC; rw [← eC] at HC t1 HTG; clear eC; go_wp2_with fail; refine HC.mono ?_; rintro e W2 ⟨q, n, c2, rfl, hO, hb2⟩; have HA2 := HAR.out W2 hb2; have hn : n = C.length := hO.1
  have hn2 : n ≤ 2000 := by omega
  have HO2 : Hid (OwnI W2 W1.heap.size 3 q n c2 C ∧ Below W1.heap.size W1 W2) := ⟨hO, hb2⟩
  have hmk : ∀ W : World, (Instr.makeSlice 42 (.int .i64 (n : Int)) (.int .i64 (n : Int))).run Tryz.prog W = .ok (.slice (some ⟨W.heap.size, 0, none⟩) n n) (W.alloc (.cells (madeCells #[Value.int .i64 0] n) 3)) := run_makeI n (by omega); have hmb : ∀ W : World, (Instr.makeSlice 45 (.int .i64 (n : Int)) (.int .i64 (n : Int))).run Tryz.prog W = .ok (.slice (some ⟨W.heap.size, 0, none⟩) n n) (W.alloc (.cells (madeCells #[Value.bool false] n) 4)) := run_makeBo n (by omega); have HNN : Hid (n = C.length) := hn; clear HC HAR hO hb2 hn; go_wp2_with fail; refine HA2.mono ?_; rintro e W3 ⟨rfl, hW3⟩; rw [hW3]; clear HA2 hW3; go_wp2_with fail
  have HQC : Hid (∀ wr, Below W2.heap.size W2 wr → 0 < n → ∃ g, q = some ⟨g, 0, none⟩ ∧ g < W2.heap.size ∧ ∀ v, v < n → wr.cell? ⟨g, 0 + v, none⟩ = some (.int .i64 (C.getD v 0))) := fun wr hb h0 => by
   obtain ⟨g, cap, hv, hbg, hgl⟩ := HO2.out.1.2.form h0
   have hq : q = some ⟨g, 0, none⟩ := by injection hv
   refine ⟨g, hq, hgl, fun v hv' => ?_⟩; obtain ⟨b, o, e1, hc⟩ := HO2.out.1.iin (by rw [← HNN.out]; exact h0); rw [hq] at e1
   cases e1
   exact (hb.cell (p := ⟨g, 0 + v, none⟩) hgl).trans (hc v (by rw [← HNN.out]; exact hv'))
  have HL0 : Hid (L1 W2 (((W2.alloc (.cells #[.slice none 0 0, .slice q n c2, .slice (some ⟨W2.heap.size + 1, 0, none⟩) n n, .slice (some ⟨W2.heap.size + 1 + 1, 0, none⟩) n n, .int .i64 x] 47)).alloc (.cells (madeCells #[Value.int .i64 0] n) 3)).alloc (.cells (madeCells #[Value.bool false] n) 4)) q c2 C x 0) := L1.start HNN.out; have hc2 : n ≤ c2 ∧ c2 ≤ 9223372036854775807 ∨ True := .inr trivial; clear hmk hmb
  go_loopw [9, 10] (fun pv iv wr => ∃ (j pn : Nat), j ≤ n ∧ pn ≤ j ∧ iv = .int .i64 j ∧ pv = .int .i64 pn ∧ Hid (pn = ((C.take j).filter (fun x => decide (x = 2))).length ∧ L1 W2 wr q c2 C x j)) (fun _ iv _ => n - (intOf iv).toNat)
  case atStart => exact ⟨0, 0, Nat.zero_le _, Nat.le_refl _, by go_num, by go_num, by simp, HL0.out⟩
  case round =>
   obtain ⟨j, pn, hjn, hpj, rfl, rfl, HI⟩ := hrel; clear HL0
   by_cases hj : j < n
   ·obtain ⟨g, eq, hgl, hcl⟩ := HQC.out wr HI.out.2.low (by omega)
    subst eq; have y0 := hcl j hj; rw [Nat.zero_add] at y0; have c1 := HI.out.2.c1; have c2' := HI.out.2.c2'; rw [← HNN.out] at c1 c2'; have hpt := prm_take C j (by rw [← HNN.out]; exact hj)
    by_cases h2 : C.getD j 0 = 2
    ·rw [h2] at y0
     rw [if_pos h2, ← HI.out.1] at hpt; have z1 := (HI.out.2.rg j (by rw [← HNN.out]; exact hj)).1; have z2 := HI.out.2.fz (W2.heap.size + 1) (by simp) j
     have z3 : W2.heap.size + 1 < wr.heap.size := by have := HI.out.2.sz; omega
     have HN : Hid (pn + 1 = ((C.take (j + 1)).filter (fun x => decide (x = 2))).length ∧ L1 W2 (wr.setCell ⟨W2.heap.size + 1, j, none⟩ (.int .i64 (-((pn : Int) + 1)))) (some ⟨g, 0, none⟩) c2 C x (j + 1)) := by
      refine ⟨hpt.symm, ?_⟩; have h9 := HI.out.2.set (by rw [← HNN.out]; exact hj) h2
      have e9 : prmK C j = -((pn : Int) + 1) := by unfold prmK; rw [← HI.out.1]; omega
      rwa [e9] at h9
     rw [if_neg (fun h => by omega)] at z1; clear HI hpt hcl h2; go_wp2_with fail; go_roundw
     case rel => exact ⟨j + 1, pn + 1, by omega, by omega, by go_num, by go_num, HN⟩
     case measure => (simp [intOf] <;> omega)
    ·rw [if_neg h2, ← HI.out.1] at hpt
     have HN : Hid (pn = ((C.take (j + 1)).filter (fun x => decide (x = 2))).length ∧ L1 W2 wr (some ⟨g, 0, none⟩) c2 C x (j + 1)) := ⟨hpt.symm, HI.out.2.skip h2⟩
     generalize C.getD j 0 = cv at y0 h2
     clear HI hpt hcl; go_wp2_with fail; go_roundw
     case rel => exact ⟨j + 1, pn, by omega, by omega, by go_num, by go_num, HN⟩
     case measure => (simp [intOf] <;> omega)
   ·obtain rfl : j = n := by omega
    have HMK : Hid (CEnv wr W2.heap.size (W2.heap.size + 1) (W2.heap.size + 2) q c2 C ∧ CBase W1 wr W2.heap.size (W2.heap.size + 1) (W2.heap.size + 2) ∧ MK [] wr W2.heap.size (W2.heap.size + 1) (W2.heap.size + 2) q c2 C ⟨[], List.replicate C.length none, x⟩ wr ∧ pn = prmN C) := by
     have h1 := HI.out.2; have h2 := HI.out.1; have h3 := HQC.out wr h1.low; have h4 := t1; have h5 := HNN.out
     have h6 : C.length ≤ c2 := by
      rcases HO2.out.1.2.2 with ⟨hv, h0⟩ | ⟨g, cap, cur, hv, _, _, h9, _⟩
      ·rw [← h5, h0]; exact Nat.zero_le _
      ·simp only [Value.slice.injEq] at hv; omega
     rw [h5] at h1 h2 h3; rw [prm_all] at h2; have hC := HCC.out; subst hC; obtain ⟨e1, e2, e3⟩ := L1.done h1 HO2.out.2 h4 h3 h6; exact ⟨e1, e2, e3, h2⟩
    clear HI HQC; go_wp2_with fail
    obtain ⟨Wa, eWa⟩ : ∃ Wa, Wa = wr := ⟨_, rfl⟩
    rw [← eWa] at HMK; have HWA : Hid (Wa = wr) := eWa
    obtain ⟨gs, egs⟩ : ∃ gs, gs = goalsT (kid1 (c, k)) := ⟨_, rfl⟩
    have HGS : Hid (gs = goalsT (kid1 (c, k))) := egs; rw [← egs] at HPA HTG
    have HE0 : Hid (decide (0 < pn) = (decide (0 < pn) || envI gs 0)) := by show _ = _; simp [envI]
    clear egs eWa
    go_loopw [11, 12] (fun ev iv wr => ∃ (i X : Nat) (en : Bool), i ≤ mg ∧ X ≤ 4000 ∧ ev = .bool en ∧ iv = .int .i64 i ∧ Hid (MK [] Wa W2.heap.size (W2.heap.size + 1) (W2.heap.size + 2) q c2 C ⟨[], List.replicate C.length none, X⟩ wr ∧ FrX [W2.heap.size, W2.heap.size + 1, W2.heap.size + 2] Wa wr ∧ X = ariI x gs i ∧ en = (decide (0 < pn) || envI gs i))) (fun _ iv _ => mg - (intOf iv).toNat)
    case atStart => exact ⟨0, x, decide (0 < pn), Nat.zero_le _, by omega, rfl, by go_num, by rw [← HWA.out]; exact ⟨HMK.out.2.2.1, FrX.refl _ _, rfl, HE0.out⟩⟩
    case round =>
     obtain ⟨i, X, en, him, hX4, rfl, rfl, HI⟩ := hrel; clear HE0
     by_cases hi : i < mg
     ·have hil : i < gs.length := by have := HPA.out.2.1; omega
      obtain ⟨g, eg⟩ : ∃ g, gs[i]? = some g := ⟨_, List.getElem?_eq_getElem hil⟩
      have hgt := HTG.out.2 g (List.mem_of_getElem? eg); have hb5 := HI.out.1.base HMK.out.2.1; obtain ⟨ga, b5, o5, rn, rc, q5, q5c, hpa, yr, hti, hrn5, HX⟩ := arg_atK HPA.out.2.2.2.1 eg (row_below HPA.out.2.2.1 hb5) hi hb5; subst hpa
      have hrn2 : rn ≤ 2000 := by have := hti.1; have := hgt.1.sz; omega
      obtain ⟨xa, exa⟩ : ∃ xa : Nat, (xa : Int) = fA g.1 ∧ xa = ariT g.1 ∧ xa ≤ 2000 := by
       have h9 := hgt.1.ok.2.2.1; have h10 := Fo.count_le g.2; have h11 := hgt.1.sz
       unfold fA ariT
       split
       ·rename_i h12; have := h9 h12; exact ⟨g.1.2.1.toNat, by omega, rfl, by omega⟩
       ·exact ⟨0, rfl, rfl, by omega⟩
      have HAR2 : Hid (∀ W, Below W1.heap.size W1 W → Calls Tryz.prog 16 #[.slice (some ⟨b5, o5, none⟩) rn rc] W fun e w' => e = .returned (.int .i64 xa) ∧ w' = W) := fun W hW => by rw [exa.1]; exact arity_any (hti.below hW) (by omega)
      have HIN2 : Hid (∀ W, Below W1.heap.size W1 W → Calls Tryz.prog 17 #[.slice (some ⟨b5, o5, none⟩) rn rc] W fun e w' => e = .returned (.bool (inlG g)) ∧ Below W.heap.size W w') := fun W hW => inline_any (hti.below hW) (by omega) hgt.1.ok hgt.2.2
      have c4 := HI.out.1.c4; simp only at c4; have f4 := HI.out.1.fz W2.heap.size (by simp) 4; have l4 : W2.heap.size < wr.heap.size := World.block_lt_of_cell? _ _ c4
      -- behind the first half
      have HNX : Hid (∀ W, (¬ X < xa ∧ W = wr.drew ∨ X < xa ∧ W = wr.drew.setCell ⟨W2.heap.size, 4, none⟩ (.int .i64 xa)) → (MK [] Wa W2.heap.size (W2.heap.size + 1) (W2.heap.size + 2) q c2 C ⟨[], List.replicate C.length none, max X xa⟩ W ∧ FrX [W2.heap.size, W2.heap.size + 1, W2.heap.size + 2] Wa W) ∧ W.cell? ⟨ga, i, none⟩ = some (.slice (some ⟨b5, o5, none⟩) rn rc) ∧ Below W1.heap.size W1 W) := fun W hW => by
       have hd : Below wr.heap.size wr wr.drew := below_drewK (Below.refl _ _)
       have hmf : MK [] Wa W2.heap.size (W2.heap.size + 1) (W2.heap.size + 2) q c2 C ⟨[], List.replicate C.length none, max X xa⟩ W ∧ FrX [W2.heap.size, W2.heap.size + 1, W2.heap.size + 2] Wa W := by
        rcases hW with ⟨h1, rfl⟩ | ⟨h1, rfl⟩
        ·rw [Nat.max_eq_left (by omega)]
         exact ⟨HI.out.1.below hd, HI.out.2.1.below hd⟩
        ·rw [Nat.max_eq_right (by omega)]
         exact ⟨(HI.out.1.below hd).nxt HMK.out.1 xa (by show X ≤ xa; omega), (HI.out.2.1.below hd).set (by simp) _ _⟩
       have hb9 := hmf.1.base HMK.out.2.1; obtain ⟨ga', b5', o5', rn', rc', q5', q5c', hpa', yr', _⟩ := arg_atK HPA.out.2.2.2.1 eg (row_below HPA.out.2.2.1 hb9) hi hb9; refine ⟨hmf, ?_, hb9⟩; have hr9 := (row_below HPA.out.2.2.1 hb9).cellAt i (by omega); have hr8 := (row_below HPA.out.2.2.1 hb5).cellAt i (by omega); rw [hr9, ← hr8]; exact yr
      have HEN : Hid (∀ W, MK [] Wa W2.heap.size (W2.heap.size + 1) (W2.heap.size + 2) q c2 C ⟨[], List.replicate C.length none, max X xa⟩ W → FrX [W2.heap.size, W2.heap.size + 1, W2.heap.size + 2] Wa W → ∀ en', en' = (en || (!inlG g && decide (i + 1 < gs.length))) → MK [] Wa W2.heap.size (W2.heap.size + 1) (W2.heap.size + 2) q c2 C ⟨[], List.replicate C.length none, max X xa⟩ W ∧ FrX [W2.heap.size, W2.heap.size + 1, W2.heap.size + 2] Wa W ∧ max X xa = ariI x gs (i + 1) ∧ en' = (decide (0 < pn) || envI gs (i + 1))) := fun W hm hf en' he => by
       refine ⟨hm, hf, ?_, ?_⟩
       ·rw [ariI_succ x gs i eg, ← HI.out.2.2.1, exa.2.1]
       ·have hgd : gs.getD i (Cel.none, .nil) = g := by rw [List.getD_eq_getElem?_getD, eg]; rfl
        rw [he, envI_succ, hgd, HI.out.2.2.2, Bool.or_assoc]
      have hgl2 : gs.length = mg := HPA.out.2.1.symm
      have hmx : max X xa ≤ 4000 := by have := exa.2.2; omega
      have HAD := HAR2.out wr.drew (Below.on hb5 (below_drewK (Below.refl _ _)))
      obtain ⟨cb, ecb⟩ : ∃ cb, cb = W2.heap.size := ⟨_, rfl⟩
      obtain ⟨inl, einl⟩ : ∃ b, b = inlG g := ⟨_, rfl⟩
      rw [← einl] at HIN2 HEN; rw [hgl2] at HEN; clear hgt hb5 hti HX eg exa hil HI einl hgl2 ecb; go_wp2_with fail; refine wp_region_held_drew (S := fun W => W.cell? ⟨ga, i, none⟩ = some (.slice (some ⟨b5, o5, none⟩) rn rc) ∧ W.cell? ⟨W2.heap.size, 4, none⟩ = some (.int .i64 X)) (by kernel_rfl) ⟨yr, c4⟩ (fun hHeld => ?_); refine hTk (i := 0) (v := .slice (some ⟨ga, 0, none⟩) mg cg) (some 77) (fun o ho W hSw => ?y0) (by assumption) ?_
      case y0 => cases ho; simp [execOp, go_sem, Act.eval]
      simp only [Act.put, zzA, zzB, zzC]; refine hTk (i := 1) (v := .int .i64 i) (some 78) (fun o ho W hSw => ?y1) (by assumption) ?_
      case y1 => cases ho; simp [execOp, go_sem, Act.eval]
      simp only [Act.put, zzA, zzB, zzC]; refine hTk (i := 2) (v := .pointer (some ⟨ga, i, none⟩)) (some 79) (fun o ho W hSw => ?y2) (by assumption) ?_
      case y2 => cases ho; simp [execOp, go_sem, Act.eval, hi]
      simp only [Act.put, zzA, zzB, zzC]; refine hTk (i := 3) (v := .slice (some ⟨b5, o5, none⟩) rn rc) (some 80) (fun o ho W hSw => ?y3) (by assumption) ?_
      case y3 => cases ho; obtain ⟨s1, s2⟩ := hSw; simp [execOp, go_sem, Act.eval, s1]
      simp only [Act.put, zzA, zzB, zzC]; refine hTk (i := 5) (v := ptrK W2.heap.size) (some 82) (fun o ho W hSw => ?y4) (by assumption) ?_
      case y4 => cases ho; simp [execOp, go_sem, Act.eval]
      simp only [Act.put, zzA, zzB, zzC]; refine hTk (i := 6) (v := ptrK W2.heap.size) (some 83) (fun o ho W hSw => ?y5) (by assumption) ?_
      case y5 => cases ho; simp [execOp, go_sem, Act.eval]
      simp only [Act.put, zzA, zzB, zzC]; refine hTk (i := 7) (v := .pointer (some ⟨W2.heap.size, 4, none⟩)) (some 84) (fun o ho W hSw => ?y6) (by assumption) ?_
      case y6 => cases ho; simp [execOp, go_sem, Act.eval]
      simp only [Act.put, zzA, zzB, zzC]; refine hTk (i := 8) (v := .int .i64 X) (some 85) (fun o ho W hSw => ?y7) (by assumption) ?_
      case y7 => cases ho; obtain ⟨s1, s2⟩ := hSw; simp [execOp, go_sem, Act.eval, s2]
      simp only [Act.put, zzA, zzB, zzC]; refine hCallE (i := 4) (f := 16) (args := #[.slice (some ⟨b5, o5, none⟩) rn rc]) (some 81) (by kernel_rfl) (by kernel_rfl) (by kernel_rfl) (fun o ho => ?c8) HAD ?k8 (fun ch w' hh => by cases hh.1) (fun w' hh => by cases hh.1)
      case c8 => cases ho; simp [execOp, go_sem, Act.eval]
      case k8 =>
       rintro u W5 ⟨eq, eW5⟩
       cases eq
       rw [eW5]; refine ⟨⟨yr, c4⟩, ?_⟩; clear eW5; simp only [Act.put, zzA, zzB, zzC]; refine hTk (i := 9) (v := .bool (decide (X < xa))) (some 86) (fun o ho W hSw => ?y9) (by assumption) ?_
       case y9 => cases ho; simp [execOp, go_sem, Act.eval]
       simp only [Act.put, zzA, zzB, zzC]; refine wpAnyH_done (by kernel_rfl) ?_ _
       change Exit.then _ _ _ _ wr.drew
       obtain ⟨WD, eWD⟩ : ∃ WD, WD = wr.drew := ⟨_, rfl⟩
       have c4' : WD.cell? ⟨W2.heap.size, 4, none⟩ = some (.int .i64 X) := by rw [eWD]; exact c4
       have f4' : WD.frozen? ⟨W2.heap.size, 4, none⟩ = false := by rw [eWD]; exact f4
       have l4' : W2.heap.size < WD.heap.size := by rw [eWD]; exact l4
       have yr' : WD.cell? ⟨ga, i, none⟩ = some (.slice (some ⟨b5, o5, none⟩) rn rc) := by rw [eWD]; exact yr
       rw [← eWD] at HNX HAD ⊢; clear hHeld eWD c4 f4 l4 yr
       by_cases hxa : X < xa
       ·rw [decide_eq_true hxa]
        obtain ⟨hmf, y6, hb6⟩ := HNX.out _ (.inr ⟨hxa, rfl⟩); have HMF : Hid _ := hmf; have HIN3 := HIN2.out _ hb6; clear hmf HNX; go_wp2_with fail; refine HAD.mono ?_; rintro e W6 ⟨rfl, hW6⟩; rw [hW6]; clear hW6 HAD
        cases en with
        | true =>
          have HR := HEN.out _ HMF.out.1 HMF.out.2 true (by simp); have HRR : Hid _ := HR; clear HR HEN HMF HIN3; go_wp2_with fail; go_roundw
          case rel => exact ⟨i + 1, max X xa, true, by omega, hmx, rfl, by go_num, HRR.out⟩
          case measure => (simp [intOf] <;> omega)
        | false =>
          go_wp2_with fail; refine HIN3.mono ?_; rintro e W8 ⟨rfl, hb8⟩; have HM8 : Hid _ := And.intro (HMF.out.1.below hb8) (HMF.out.2.below hb8); clear HIN3 HMF hb8
          cases inl with
          | true =>
            have HRR : Hid _ := HEN.out _ HM8.out.1 HM8.out.2 false (by simp); clear HEN HM8; go_wp2_with fail; go_roundw
            case rel => exact ⟨i + 1, max X xa, false, by omega, hmx, rfl, by go_num, HRR.out⟩
            case measure => (simp [intOf] <;> omega)
          | false =>
            by_cases hla : i + 1 < mg
            ·have HRR : Hid _ := HEN.out _ HM8.out.1 HM8.out.2 true (by simp [hla])
             clear HEN HM8
             have hla2 : (i : Int) < (mg : Int) - 1 := by omega
             go_wp2_with fail; go_roundw
             case rel => exact ⟨i + 1, max X xa, true, by omega, hmx, (by first | (simp; omega) | simp), by go_num, HRR.out⟩
             case measure => (simp [intOf] <;> omega)
            ·have HRR : Hid _ := HEN.out _ HM8.out.1 HM8.out.2 false (by simp [hla])
             clear HEN HM8
             have hla2 : ¬ (i : Int) < (mg : Int) - 1 := by omega
             go_wp2_with fail; go_roundw
             case rel => exact ⟨i + 1, max X xa, false, by omega, hmx, (by first | (simp; omega) | simp), by go_num, HRR.out⟩
             case measure => (simp [intOf] <;> omega)
       ·rw [decide_eq_false hxa]
        obtain ⟨hmf, y6, hb6⟩ := HNX.out _ (.inl ⟨hxa, rfl⟩); have HMF : Hid _ := hmf; have HIN3 := HIN2.out _ hb6; clear hmf HNX HAD
        cases en with
        | true =>
          have HR := HEN.out _ HMF.out.1 HMF.out.2 true (by simp); have HRR : Hid _ := HR; clear HR HEN HMF HIN3; go_wp2_with fail; go_roundw
          case rel => exact ⟨i + 1, max X xa, true, by omega, hmx, rfl, by go_num, HRR.out⟩
          case measure => (simp [intOf] <;> omega)
        | false =>
          go_wp2_with fail; refine HIN3.mono ?_; rintro e W8 ⟨rfl, hb8⟩; have HM8 : Hid _ := And.intro (HMF.out.1.below hb8) (HMF.out.2.below hb8); clear HIN3 HMF hb8
          cases inl with
          | true =>
            have HRR : Hid _ := HEN.out _ HM8.out.1 HM8.out.2 false (by simp); clear HEN HM8; go_wp2_with fail; go_roundw
            case rel => exact ⟨i + 1, max X xa, false, by omega, hmx, rfl, by go_num, HRR.out⟩
            case measure => (simp [intOf] <;> omega)
          | false =>
            by_cases hla : i + 1 < mg
            ·have HRR : Hid _ := HEN.out _ HM8.out.1 HM8.out.2 true (by simp [hla])
             clear HEN HM8
             have hla2 : (i : Int) < (mg : Int) - 1 := by omega
             go_wp2_with fail; go_roundw
             case rel => exact ⟨i + 1, max X xa, true, by omega, hmx, (by first | (simp; omega) | simp), by go_num, HRR.out⟩
             case measure => (simp [intOf] <;> omega)
            ·have HRR : Hid _ := HEN.out _ HM8.out.1 HM8.out.2 false (by simp [hla])
             clear HEN HM8
             have hla2 : ¬ (i : Int) < (mg : Int) - 1 := by omega
             go_wp2_with fail; go_roundw
             case rel => exact ⟨i + 1, max X xa, false, by omega, hmx, (by first | (simp; omega) | simp), by go_num, HRR.out⟩
             case measure => (simp [intOf] <;> omega)
     ·obtain rfl : i = mg := by omega
      have HEB : Hid (en = envB gs ∧ pn = prmN C ∧ X = ariM (kid0 (c, k)) gs ∧ gs.length = i) := by
       have e1 : gs.length = i := HPA.out.2.1.symm; have e2 := HI.out.2.2.2; rw [← e1, envI_all] at e2; refine ⟨?_, HMK.out.2.2.2, ?_, e1⟩
       ·cases hb : envB gs with
        | true => rw [e2, hb]; simp
        | false =>
          have h9 := prm_env (c, k) (by rw [← HGS.out]; exact hb); rw [← HCC.out, ← HMK.out.2.2.2] at h9; rw [e2, hb, h9]; rfl
       ·rw [HI.out.2.2.1]
        unfold ariI ariM
        rw [← e1, List.take_length]
        congr 1
        have h9 := HXA.out
        unfold fA at h9
        unfold ariT
        by_cases hk : (kid0 (c, k)).1.1 = 3
        ·rw [if_pos hk] at h9 ⊢; omega
        ·rw [if_neg hk] at h9 ⊢; omega
      obtain ⟨s1, es1⟩ : ∃ s1, s1 = cc0 C (kid0 (c, k)) gs := ⟨_, rfl⟩
      have HS1 : Hid (s1 = if en = true then (⟨[], List.replicate C.length none, X⟩ : KS).put (insN 17 0 pn) else ⟨[], List.replicate C.length none, X⟩) := by
       show _ = _
       rw [es1, HEB.out.1, HEB.out.2.1, HEB.out.2.2.1]
       unfold cc0
       split <;> rfl
      obtain ⟨S2, eS2⟩ : ∃ S2, S2 = alls (hedK C 5000) 0 s1 (trs (kid0 (c, k)).2) := ⟨_, rfl⟩
      obtain ⟨R, eR⟩ : ∃ R, R = golsM C 5000 en S2 gs := ⟨_, rfl⟩
      have HSZ : Hid ((S2.out.length ≤ 20000 ∧ S2.nx ≤ 20000) ∧ (R.1.out.length ≤ 20000000 ∧ R.1.nx ≤ 20000000)) := by
       rw [eR, eS2]; refine cc_sizes t1 en s1 (kid0 (c, k)) gs ?_ (by have := HTG.out.1.sz; omega) (by have := HEB.out.2.2.2; omega) (fun g hg => by have := (HTG.out.2 g hg).1.sz; omega); rw [HS1.out]
       split <;> simp [KS.put] <;> omega
      have HEM : Hid (en = true → Calls Tryz.prog 18 #[ptrK W2.heap.size, .int .i64 17, .int .i64 0, .int .i64 pn] wr fun e W => e = .returned (.tuple #[]) ∧ MK [] Wa W2.heap.size (W2.heap.size + 1) (W2.heap.size + 2) q c2 C s1 W ∧ FrX [W2.heap.size, W2.heap.size + 1, W2.heap.size + 2] Wa W) := fun he => by
       have h9 := l9emit_any HMK.out.1 HI.out.1 17 0 pn (by simp); have h8 := HS1.out; rw [if_pos he] at h8; rw [← h8] at h9
       exact h9.mono fun e W ⟨a1, a2, a3⟩ => ⟨a1, a2, HI.out.2.1.trans a3⟩
      have HNE : Hid (en = false → MK [] Wa W2.heap.size (W2.heap.size + 1) (W2.heap.size + 2) q c2 C s1 wr ∧ FrX [W2.heap.size, W2.heap.size + 1, W2.heap.size + 2] Wa wr) := fun he => by
       have h8 := HS1.out; rw [if_neg (by rw [he]; decide)] at h8; rw [h8]; exact ⟨HI.out.1, HI.out.2.1⟩
      have HHD : Hid (∀ W, MK [] Wa W2.heap.size (W2.heap.size + 1) (W2.heap.size + 2) q c2 C s1 W → FrX [W2.heap.size, W2.heap.size + 1, W2.heap.size + 2] Wa W → Calls Tryz.prog 19 #[ptrK W2.heap.size, .slice ph nh ch] W fun e W' => e = .returned (.tuple #[]) ∧ MK [] Wa W2.heap.size (W2.heap.size + 1) (W2.heap.size + 2) q c2 C S2 W' ∧ FrX [W2.heap.size, W2.heap.size + 1, W2.heap.size + 2] Wa W') := fun W hm hf => by
       have h9 := l9head_any HMK.out.1 HMK.out.2.1 hm (kid0 (c, k)) ph nh ch HPA.out.1 HTG.out.1 5000 (by omega) (by rw [← eS2]; have := HSZ.out.1; omega); rw [← eS2] at h9
       exact h9.mono fun e W' ⟨a1, a2, a3⟩ => ⟨a1, a2, hf.trans a3⟩
      have HR0 : Hid (golsM C 5000 en S2 gs = R) := eR.symm
      have HRT : Hid (endsM en R = ccT (c, k)) := by
       have h9 := ccT_model (c, k); rw [← HGS.out, ← HCC.out, ← es1, ← eS2, ← HEB.out.1, ← eR] at h9; exact h9
      clear HI es1 eS2 eR HS1
      have HGO : Hid (∃ Wb, (MK [] Wa W2.heap.size (W2.heap.size + 1) (W2.heap.size + 2) q c2 C s1 Wb ∧ FrX [W2.heap.size, W2.heap.size + 1, W2.heap.size + 2] Wa Wb) ∨ True) := ⟨wr, .inr trivial⟩
      clear HGO
      cases en with
      | true =>
        have HE17 := HEM.out rfl; clear HEM HNE; go_wp2_with fail; refine HE17.mono ?_; rintro e Wb ⟨rfl, hmb, hfb⟩; have HH := HHD.out Wb hmb hfb; clear HE17 HHD hmb hfb; go_wp2_with fail; refine HH.mono ?_; rintro e Wc ⟨rfl, hmc, hfc⟩; have HMc : Hid _ := And.intro hmc hfc; clear HH hmc hfc; go_wp2_with fail
        go_loopw [13, 14] (fun ev iv wr => ∃ (i3 : Nat) (s3 : KS) (ed : Bool), i3 ≤ i ∧ ev = .bool ed ∧ iv = .int .i64 i3 ∧ Hid ((MK [] Wa W2.heap.size (W2.heap.size + 1) (W2.heap.size + 2) q c2 C s3 wr ∧ FrX [W2.heap.size, W2.heap.size + 1, W2.heap.size + 2] Wa wr) ∧ (ed = false ∧ golsM C 5000 true s3 (gs.drop i3) = R ∨ ed = true ∧ i3 = i ∧ R = (s3, true)))) (fun _ iv _ => i - (intOf iv).toNat)
        case atStart => exact ⟨0, S2, false, Nat.zero_le _, rfl, by go_num, HMc.out, .inl ⟨rfl, by rw [List.drop_zero]; exact HR0.out⟩⟩
        case round =>
         obtain ⟨i3, s3, ed, hi3, rfl, rfl, HI3⟩ := hrel; clear HMc HR0
         by_cases hlt : i3 < i
         ·have hed : ed = false ∧ golsM C 5000 true s3 (gs.drop i3) = R := by
           rcases HI3.out.2 with h9 | ⟨_, h9, _⟩
           ·exact h9
           ·omega
          obtain ⟨rfl, hR3⟩ := hed
          have hil : i3 < gs.length := by have := HEB.out.2.2.2; omega
          obtain ⟨g, eg⟩ : ∃ g, gs[i3]? = some g := ⟨_, List.getElem?_eq_getElem hil⟩
          have hgt := HTG.out.2 g (List.mem_of_getElem? eg); have hb5 := HI3.out.1.1.base HMK.out.2.1; obtain ⟨ga, b5, o5, rn, rc, q5, q5c, hpa, yr, hti, hrn5, HX⟩ := arg_atK HPA.out.2.2.2.1 eg (row_below HPA.out.2.2.1 hb5) hlt hb5; subst hpa
          have hrn2 : rn ≤ 2000 := by have := hti.1; have := hgt.1.sz; omega
          have hdr : gs.drop i3 = g :: gs.drop (i3 + 1) := by
           obtain ⟨hl9, e9⟩ := List.getElem?_eq_some_iff.1 eg; rw [List.drop_eq_getElem_cons hl9, e9]
          rw [hdr] at hR3
          have HYR : Hid (∀ W, Below W1.heap.size W1 W → W.cell? ⟨ga, i3, none⟩ = some (.slice (some ⟨b5, o5, none⟩) rn rc)) := fun W hW => by
           have hr9 := (row_below HPA.out.2.2.1 hW).cellAt i3 (by omega); have hr8 := (row_below HPA.out.2.2.1 hb5).cellAt i3 (by omega); rw [hr9, ← hr8]; exact yr
          have hmo : Kmo (golM C 5000 s3 g) R.1 ∧ Kmo s3 R.1 := by
           have h8 := mo_golM C HMK.out.1.len 5000 s3 g
           have h9 : Kmo (golM C 5000 s3 g) R.1 := by
            rw [← hR3]
            unfold golsM
            split
            ·exact mo_golsM C HMK.out.1.len 5000 true _ _
            ·split
             ·refine Kmo.trans ?_ (mo_put _ _)
              split
              ·exact mo_put _ _
              ·exact Kmo.refl _
             ·exact (mo_put _ _).trans (mo_golsM C HMK.out.1.len 5000 true _ _)
           exact ⟨h9, h8.trans h9⟩
          have hsz := HSZ.out.2
          have hbo : (golM C 5000 s3 g).out.length ≤ 20000000 ∧ (golM C 5000 s3 g).nx ≤ 20000000 ∧ s3.nx ≤ 20000000 := by
           obtain ⟨⟨u1, u2⟩, u3, u4⟩ := hmo
           omega
          have HGL : Hid (Calls Tryz.prog 20 #[ptrK W2.heap.size, .slice (some ⟨b5, o5, none⟩) rn rc] wr fun e W => e = .returned (.tuple #[]) ∧ MK [] Wa W2.heap.size (W2.heap.size + 1) (W2.heap.size + 2) q c2 C (golM C 5000 s3 g) W ∧ FrX [W2.heap.size, W2.heap.size + 1, W2.heap.size + 2] Wa W) := by
           have h9 : Calls Tryz.prog 20 #[ptrK W2.heap.size, .slice (some ⟨b5, o5, none⟩) rn rc] wr (KUnit [] Wa W2.heap.size (W2.heap.size + 1) (W2.heap.size + 2) q c2 C wr (golM C 5000 s3 g)) := by
            cases hsp : spcC g.1 with
            | true => exact l9goalS_any HMK.out.1 HMK.out.2.1 HI3.out.1.1 g _ _ _ hti hgt.1 hgt.2.1 hsp 5000 (by omega)
            | false =>
              refine l9goalA_any HMK.out.1 HMK.out.2.1 HI3.out.1.1 g _ _ _ hti hgt.1 hgt.2.2 hsp 5000 (by omega) ?_
              have h8 : Kmo (alls (golK C 5000) 0 s3 (trs g.2)) (golM C 5000 s3 g) := by
               unfold golM
               rw [hsp, if_neg (by decide)]
               split
               ·exact mo_put _ _
               ·exact Kmo.refl _
              unfold Kmo at h8
              omega
           exact h9.mono fun e W ⟨a1, a2, a3⟩ => ⟨a1, a2, HI3.out.1.2.trans a3⟩
          have HIN2 : Hid (∀ W, Below W1.heap.size W1 W → Calls Tryz.prog 17 #[.slice (some ⟨b5, o5, none⟩) rn rc] W fun e w' => e = .returned (.bool (inlG g)) ∧ Below W.heap.size W w') := fun W hW => inline_any (hti.below hW) (by omega) hgt.1.ok hgt.2.2
          have HNA : Hid (∀ W, Below W1.heap.size W1 W → Calls Tryz.prog 22 #[.slice (some ⟨b5, o5, none⟩) rn rc] W (NmOK g W)) := fun W hW => l9name_any (hti.below hW) (by omega) hgt.1.ok hgt.2.2
          have HTX : Hid ((namC g.1).2.2.length ≤ 10000000) := hgt.1.text; have hR3' : Hid (golsM C 5000 true s3 (g :: gs.drop (i3 + 1)) = R) := hR3; have hgl3 : Hid (gs.length = i) := HEB.out.2.2.2; clear HI3 hil eg hgt hb5 hti HX hdr hR3 hmo hsz; go_wp2_with fail; refine HGL.out.mono ?_; rintro e Wd ⟨rfl, hmd, hfd⟩; have HMd : Hid _ := And.intro hmd hfd; have hbd := hmd.base HMK.out.2.1; have yd := HYR.out Wd hbd; have HI4 := HIN2.out Wd hbd; clear HGL hmd hfd hbd; go_wp2_with fail; refine HI4.mono ?_; rintro e We ⟨rfl, hbe⟩; have HMe : Hid _ := And.intro (HMd.out.1.below hbe) (HMd.out.2.below hbe); have ye := HYR.out We (HMe.out.1.base HMK.out.2.1); clear HI4 hbe yd HMd
          cases hin : inlG g with
          | true =>
            have HNX : Hid (golsM C 5000 true (golM C 5000 s3 g) (gs.drop (i3 + 1)) = R) := by
             have h9 := hR3'.out
             unfold golsM at h9
             rwa [if_pos hin] at h9
            go_wp2_with fail; go_roundw
            case rel => exact ⟨i3 + 1, _, false, by omega, rfl, by go_num, HMe.out, .inl ⟨rfl, HNX.out⟩⟩
            case measure => (simp [intOf] <;> omega)
          | false =>
            have hnd : Hid (golsM C 5000 true s3 (g :: gs.drop (i3 + 1)) = if gs.drop (i3 + 1) = [] then ((((golM C 5000 s3 g).put (insN 18 0 0)).put (insC 20 0 0 (namC g.1))), true) else golsM C 5000 true ((golM C 5000 s3 g).put (insC 19 0 0 (namC g.1))) (gs.drop (i3 + 1))) := by
             show _ = _
             rw [golsM, if_neg (by rw [hin]; decide)]
             rfl
            by_cases hla : i3 + 1 < i
            ·have HNX : Hid (golsM C 5000 true ((golM C 5000 s3 g).put (insC 19 0 0 (namC g.1))) (gs.drop (i3 + 1)) = R) := by
              have h9 := hnd.out; rw [hR3'.out, if_neg (by rw [List.drop_eq_nil_iff]; have := hgl3.out; omega)] at h9; exact h9.symm
             have hla2 : (i3 : Int) < (i : Int) - 1 := by omega
             have HN4 := HNA.out We (HMe.out.1.base HMK.out.2.1); go_wp2_with fail; refine HN4.mono ?_; rintro e Wf ⟨tp, tc, rfl, hbin, hbf⟩
             have HE4 : Hid (Calls Tryz.prog 21 #[ptrK W2.heap.size, .int .i64 19, .int .i64 0, .int .i64 0, celV (namC g.1) tp tc] Wf fun e W => e = .returned (.tuple #[]) ∧ MK [] Wa W2.heap.size (W2.heap.size + 1) (W2.heap.size + 2) q c2 C ((golM C 5000 s3 g).put (insC 19 0 0 (namC g.1))) W ∧ FrX [W2.heap.size, W2.heap.size + 1, W2.heap.size + 2] Wa W) := by
              exact (l9emitC_any HMK.out.1 (HMe.out.1.below hbf) 19 0 0 (namC g.1) tp tc hbin HTX.out (by first | omega | (simp only [KS.put, List.length_append, List.length_cons, List.length_nil]; omega))).mono fun e W ⟨a1, a2, a3⟩ => ⟨a1, a2, (HMe.out.2.below hbf).trans a3⟩
             clear HN4 hbin hbf; go_wp2_with fail; refine HE4.out.mono ?_; rintro e Wg ⟨rfl, hmg', hfg⟩; have HMg : Hid _ := And.intro hmg' hfg; clear HE4 hmg' hfg; go_wp2_with fail; go_roundw
             case rel => exact ⟨i3 + 1, _, false, by omega, rfl, by go_num, HMg.out, .inl ⟨rfl, HNX.out⟩⟩
             case measure => (simp [intOf] <;> omega)
            ·have HNX : Hid (R = ((((golM C 5000 s3 g).put (insN 18 0 0)).put (insC 20 0 0 (namC g.1))), true)) := by
              have h9 := hnd.out; rw [hR3'.out, if_pos (by rw [List.drop_eq_nil_iff]; have := hgl3.out; omega)] at h9; exact h9
             have hla2 : ¬ (i3 : Int) < (i : Int) - 1 := by omega
             have hi9 : i3 + 1 = i := by omega
             have HE18 : Hid (Calls Tryz.prog 18 #[ptrK W2.heap.size, .int .i64 18, .int .i64 0, .int .i64 0] We fun e W => e = .returned (.tuple #[]) ∧ MK [] Wa W2.heap.size (W2.heap.size + 1) (W2.heap.size + 2) q c2 C ((golM C 5000 s3 g).put (insN 18 0 0)) W ∧ FrX [W2.heap.size, W2.heap.size + 1, W2.heap.size + 2] Wa W) := (l9emit_any HMK.out.1 HMe.out.1 18 0 0 (by omega)).mono fun e W ⟨a1, a2, a3⟩ => ⟨a1, a2, HMe.out.2.trans a3⟩
             go_wp2_with fail; refine HE18.out.mono ?_; rintro e Wh ⟨rfl, hmh, hfh⟩; have HMh : Hid _ := And.intro hmh hfh; have yh := HYR.out Wh (hmh.base HMK.out.2.1); clear HE18 hmh hfh ye; have HN4 := HNA.out Wh (HMh.out.1.base HMK.out.2.1); go_wp2_with fail; refine HN4.mono ?_; rintro e Wf ⟨tp, tc, rfl, hbin, hbf⟩
             have HE4 : Hid (Calls Tryz.prog 21 #[ptrK W2.heap.size, .int .i64 20, .int .i64 0, .int .i64 0, celV (namC g.1) tp tc] Wf fun e W => e = .returned (.tuple #[]) ∧ MK [] Wa W2.heap.size (W2.heap.size + 1) (W2.heap.size + 2) q c2 C (((golM C 5000 s3 g).put (insN 18 0 0)).put (insC 20 0 0 (namC g.1))) W ∧ FrX [W2.heap.size, W2.heap.size + 1, W2.heap.size + 2] Wa W) := by
              exact (l9emitC_any HMK.out.1 (HMh.out.1.below hbf) 20 0 0 (namC g.1) tp tc hbin HTX.out (by first | omega | (simp only [KS.put, List.length_append, List.length_cons, List.length_nil]; omega))).mono fun e W ⟨a1, a2, a3⟩ => ⟨a1, a2, (HMh.out.2.below hbf).trans a3⟩
             clear HN4 hbin hbf; go_wp2_with fail; refine HE4.out.mono ?_; rintro e Wg ⟨rfl, hmg', hfg⟩; have HMg : Hid _ := And.intro hmg' hfg; clear HE4 hmg' hfg; go_wp2_with fail; go_roundw
             case rel => exact ⟨i3 + 1, _, true, by omega, rfl, by go_num, HMg.out, .inr ⟨rfl, hi9, HNX.out⟩⟩
             case measure => (simp [intOf] <;> omega)
         ·obtain rfl : i3 = i := by omega
          rcases HI3.out.2 with ⟨rfl, hR4⟩ | ⟨rfl, _, hR4⟩
          ·rw [List.drop_of_length_le (by have := HEB.out.2.2.2; omega)] at hR4
           have hs3 : s3.out.length ≤ 20000000 := by have h8 := HSZ.out.2; rw [← hR4] at h8; exact h8.1
           have HM0 : Hid _ := HI3.out.1
           have HFE : Hid ((s3.put (insN 18 0 0)).put (insN 21 0 0) = ccT (c, k)) := by
            have h9 := HRT.out; rw [← hR4] at h9; exact h9
           clear HI3 hR4
           have HE18 : Hid (Calls Tryz.prog 18 #[ptrK W2.heap.size, .int .i64 18, .int .i64 0, .int .i64 0] wr fun e W => e = .returned (.tuple #[]) ∧ MK [] Wa W2.heap.size (W2.heap.size + 1) (W2.heap.size + 2) q c2 C (s3.put (insN 18 0 0)) W ∧ FrX [W2.heap.size, W2.heap.size + 1, W2.heap.size + 2] Wa W) := (l9emit_any HMK.out.1 HM0.out.1 18 0 0 (by omega)).mono fun e W ⟨a1, a2, a3⟩ => ⟨a1, a2, HM0.out.2.trans a3⟩
           go_wp2_with fail; refine HE18.out.mono ?_; rintro e Wh ⟨rfl, hmh, hfh⟩; have HMh : Hid _ := And.intro hmh hfh; clear HE18 hmh hfh
           have HE21 : Hid (Calls Tryz.prog 18 #[ptrK W2.heap.size, .int .i64 21, .int .i64 0, .int .i64 0] Wh fun e W => e = .returned (.tuple #[]) ∧ MK [] Wa W2.heap.size (W2.heap.size + 1) (W2.heap.size + 2) q c2 C ((s3.put (insN 18 0 0)).put (insN 21 0 0)) W ∧ FrX [W2.heap.size, W2.heap.size + 1, W2.heap.size + 2] Wa W) := (l9emit_any HMK.out.1 HMh.out.1 21 0 0 (by first | omega | (simp only [KS.put, List.length_append, List.length_cons, List.length_nil]; omega))).mono fun e W ⟨a1, a2, a3⟩ => ⟨a1, a2, HMh.out.2.trans a3⟩
           go_wp2_with fail; refine HE21.out.mono ?_; rintro e Wk ⟨rfl, hmk', hfk⟩; have HMk : Hid _ := And.intro hmk' hfk; clear HE21 hmk' hfk; have HFT : Hid ((s3.put (insN 18 0 0)).put (insN 21 0 0) = ccT (c, k)) := HFE.out; obtain ⟨po, no, co, k0, ko⟩ := HMk.out.1.c0; have k4 := HMk.out.1.c4
           have HB : Hid (Below w.heap.size w Wk ∧ no = (ccT (c, k)).out.length ∧ OwnIv [] Wk w.heap.size po no co (ccT (c, k)).out) := by
            refine ⟨Below.on HPA.out.2.2.2.2 (HMk.out.1.base HMK.out.2.1), by rw [← HFT.out]; exact ko.1, ?_⟩; rw [← HFT.out]; exact ko.mono (Nat.le_trans HPA.out.2.2.2.2.size HMK.out.2.1.low.size)
           obtain ⟨nx, enx⟩ : ∃ nx : Nat, nx = ((s3.put (insN 18 0 0)).put (insN 21 0 0)).nx := ⟨_, rfl⟩
           rw [← enx] at k4
           have HBG : Hid (ccBig (c, k) = (decide (20000 < no) || decide (256 < nx))) := by
            show _ = _
            unfold ccBig
            rw [← HB.out.2.1, ← HFT.out, ← enx]
           have HYS : Hid (ccBig (c, k) = true → CcOut cs w (.returned (.tuple #[.slice none 0 0, .int .i64 3])) Wk) := fun hb => ⟨none, 0, 0, HB.out.1, .inr ⟨HVA.out.1, c, k, HVA.out.2.1, HVA.out.2.2.1, HVA.out.2.2.2, .inl ⟨hb, rfl, rfl, rfl, rfl⟩⟩⟩
           have HNO : Hid (ccBig (c, k) = false → CcOut cs w (.returned (.tuple #[.slice po no co, .int .i64 0])) Wk) := fun hb => ⟨po, no, co, HB.out.1, .inr ⟨HVA.out.1, c, k, HVA.out.2.1, HVA.out.2.2.1, HVA.out.2.2.2, .inr ⟨hb, rfl, HB.out.2.2⟩⟩⟩
           clear ko enx HB HFT
           by_cases h20 : 20000 < no
           ·have HO : Hid _ := HYS.out (by rw [HBG.out]; simp [h20])
            clear HYS HNO HBG; go_wp2_with fail; exact bodyPost_ret (v := .tuple #[.slice none 0 0, .int .i64 3]) (by simp [results, Tryz.results5, go_sem]) rfl HO.out
           ·by_cases h25 : 256 < nx
            ·have HO : Hid _ := HYS.out (by rw [HBG.out]; simp [h25])
             clear HYS HNO HBG; go_wp2_with fail; exact bodyPost_ret (v := .tuple #[.slice none 0 0, .int .i64 3]) (by simp [results, Tryz.results5, go_sem]) rfl HO.out
            ·have HO : Hid _ := HNO.out (by rw [HBG.out]; simp [h20, h25])
             clear HYS HNO HBG; go_wp2_with fail; exact bodyPost_ret (v := .tuple #[.slice po no co, .int .i64 0]) (by simp [results, Tryz.results5, go_sem]) rfl HO.out
          ·have HM0 : Hid _ := HI3.out.1
           have HFE : Hid (s3 = ccT (c, k)) := by
            have h9 := HRT.out; rw [hR4] at h9; exact h9
           clear HI3 hR4; have HFT : Hid (s3 = ccT (c, k)) := HFE.out; obtain ⟨po, no, co, k0, ko⟩ := HM0.out.1.c0; have k4 := HM0.out.1.c4
           have HB : Hid (Below w.heap.size w wr ∧ no = (ccT (c, k)).out.length ∧ OwnIv [] wr w.heap.size po no co (ccT (c, k)).out) := by
            refine ⟨Below.on HPA.out.2.2.2.2 (HM0.out.1.base HMK.out.2.1), by rw [← HFT.out]; exact ko.1, ?_⟩; rw [← HFT.out]; exact ko.mono (Nat.le_trans HPA.out.2.2.2.2.size HMK.out.2.1.low.size)
           obtain ⟨nx, enx⟩ : ∃ nx : Nat, nx = (s3).nx := ⟨_, rfl⟩
           rw [← enx] at k4
           have HBG : Hid (ccBig (c, k) = (decide (20000 < no) || decide (256 < nx))) := by
            show _ = _
            unfold ccBig
            rw [← HB.out.2.1, ← HFT.out, ← enx]
           have HYS : Hid (ccBig (c, k) = true → CcOut cs w (.returned (.tuple #[.slice none 0 0, .int .i64 3])) wr) := fun hb => ⟨none, 0, 0, HB.out.1, .inr ⟨HVA.out.1, c, k, HVA.out.2.1, HVA.out.2.2.1, HVA.out.2.2.2, .inl ⟨hb, rfl, rfl, rfl, rfl⟩⟩⟩
           have HNO : Hid (ccBig (c, k) = false → CcOut cs w (.returned (.tuple #[.slice po no co, .int .i64 0])) wr) := fun hb => ⟨po, no, co, HB.out.1, .inr ⟨HVA.out.1, c, k, HVA.out.2.1, HVA.out.2.2.1, HVA.out.2.2.2, .inr ⟨hb, rfl, HB.out.2.2⟩⟩⟩
           clear ko enx HB HFT
           by_cases h20 : 20000 < no
           ·have HO : Hid _ := HYS.out (by rw [HBG.out]; simp [h20])
            clear HYS HNO HBG; go_wp2_with fail; exact bodyPost_ret (v := .tuple #[.slice none 0 0, .int .i64 3]) (by simp [results, Tryz.results5, go_sem]) rfl HO.out
           ·by_cases h25 : 256 < nx
            ·have HO : Hid _ := HYS.out (by rw [HBG.out]; simp [h25])
             clear HYS HNO HBG; go_wp2_with fail; exact bodyPost_ret (v := .tuple #[.slice none 0 0, .int .i64 3]) (by simp [results, Tryz.results5, go_sem]) rfl HO.out
            ·have HO : Hid _ := HNO.out (by rw [HBG.out]; simp [h20, h25])
             clear HYS HNO HBG; go_wp2_with fail; exact bodyPost_ret (v := .tuple #[.slice po no co, .int .i64 0]) (by simp [results, Tryz.results5, go_sem]) rfl HO.out
      | false =>
        obtain ⟨hmb, hfb⟩ := HNE.out rfl; have HH := HHD.out wr hmb hfb; clear HEM HNE HHD hmb hfb; go_wp2_with fail; refine HH.mono ?_; rintro e Wc ⟨rfl, hmc, hfc⟩; have HMc : Hid _ := And.intro hmc hfc; clear HH hmc hfc; go_wp2_with fail
        go_loopw [13, 14] (fun ev iv wr => ∃ (i3 : Nat) (s3 : KS) (ed : Bool), i3 ≤ i ∧ ev = .bool ed ∧ iv = .int .i64 i3 ∧ Hid ((MK [] Wa W2.heap.size (W2.heap.size + 1) (W2.heap.size + 2) q c2 C s3 wr ∧ FrX [W2.heap.size, W2.heap.size + 1, W2.heap.size + 2] Wa wr) ∧ (ed = false ∧ golsM C 5000 false s3 (gs.drop i3) = R ∨ ed = true ∧ i3 = i ∧ R = (s3, true)))) (fun _ iv _ => i - (intOf iv).toNat)
        case atStart => exact ⟨0, S2, false, Nat.zero_le _, rfl, by go_num, HMc.out, .inl ⟨rfl, by rw [List.drop_zero]; exact HR0.out⟩⟩
        case round =>
         obtain ⟨i3, s3, ed, hi3, rfl, rfl, HI3⟩ := hrel; clear HMc HR0
         by_cases hlt : i3 < i
         ·have hed : ed = false ∧ golsM C 5000 false s3 (gs.drop i3) = R := by
           rcases HI3.out.2 with h9 | ⟨_, h9, _⟩
           ·exact h9
           ·omega
          obtain ⟨rfl, hR3⟩ := hed
          have hil : i3 < gs.length := by have := HEB.out.2.2.2; omega
          obtain ⟨g, eg⟩ : ∃ g, gs[i3]? = some g := ⟨_, List.getElem?_eq_getElem hil⟩
          have hgt := HTG.out.2 g (List.mem_of_getElem? eg); have hb5 := HI3.out.1.1.base HMK.out.2.1; obtain ⟨ga, b5, o5, rn, rc, q5, q5c, hpa, yr, hti, hrn5, HX⟩ := arg_atK HPA.out.2.2.2.1 eg (row_below HPA.out.2.2.1 hb5) hlt hb5; subst hpa
          have hrn2 : rn ≤ 2000 := by have := hti.1; have := hgt.1.sz; omega
          have hdr : gs.drop i3 = g :: gs.drop (i3 + 1) := by
           obtain ⟨hl9, e9⟩ := List.getElem?_eq_some_iff.1 eg; rw [List.drop_eq_getElem_cons hl9, e9]
          rw [hdr] at hR3
          have HYR : Hid (∀ W, Below W1.heap.size W1 W → W.cell? ⟨ga, i3, none⟩ = some (.slice (some ⟨b5, o5, none⟩) rn rc)) := fun W hW => by
           have hr9 := (row_below HPA.out.2.2.1 hW).cellAt i3 (by omega); have hr8 := (row_below HPA.out.2.2.1 hb5).cellAt i3 (by omega); rw [hr9, ← hr8]; exact yr
          have hmo : Kmo (golM C 5000 s3 g) R.1 ∧ Kmo s3 R.1 := by
           have h8 := mo_golM C HMK.out.1.len 5000 s3 g
           have h9 : Kmo (golM C 5000 s3 g) R.1 := by
            rw [← hR3]
            unfold golsM
            split
            ·exact mo_golsM C HMK.out.1.len 5000 false _ _
            ·split
             ·refine Kmo.trans ?_ (mo_put _ _)
              split
              ·exact mo_put _ _
              ·exact Kmo.refl _
             ·exact (mo_put _ _).trans (mo_golsM C HMK.out.1.len 5000 false _ _)
           exact ⟨h9, h8.trans h9⟩
          have hsz := HSZ.out.2
          have hbo : (golM C 5000 s3 g).out.length ≤ 20000000 ∧ (golM C 5000 s3 g).nx ≤ 20000000 ∧ s3.nx ≤ 20000000 := by
           obtain ⟨⟨u1, u2⟩, u3, u4⟩ := hmo
           omega
          have HGL : Hid (Calls Tryz.prog 20 #[ptrK W2.heap.size, .slice (some ⟨b5, o5, none⟩) rn rc] wr fun e W => e = .returned (.tuple #[]) ∧ MK [] Wa W2.heap.size (W2.heap.size + 1) (W2.heap.size + 2) q c2 C (golM C 5000 s3 g) W ∧ FrX [W2.heap.size, W2.heap.size + 1, W2.heap.size + 2] Wa W) := by
           have h9 : Calls Tryz.prog 20 #[ptrK W2.heap.size, .slice (some ⟨b5, o5, none⟩) rn rc] wr (KUnit [] Wa W2.heap.size (W2.heap.size + 1) (W2.heap.size + 2) q c2 C wr (golM C 5000 s3 g)) := by
            cases hsp : spcC g.1 with
            | true => exact l9goalS_any HMK.out.1 HMK.out.2.1 HI3.out.1.1 g _ _ _ hti hgt.1 hgt.2.1 hsp 5000 (by omega)
            | false =>
              refine l9goalA_any HMK.out.1 HMK.out.2.1 HI3.out.1.1 g _ _ _ hti hgt.1 hgt.2.2 hsp 5000 (by omega) ?_
              have h8 : Kmo (alls (golK C 5000) 0 s3 (trs g.2)) (golM C 5000 s3 g) := by
               unfold golM
               rw [hsp, if_neg (by decide)]
               split
               ·exact mo_put _ _
               ·exact Kmo.refl _
              unfold Kmo at h8
              omega
           exact h9.mono fun e W ⟨a1, a2, a3⟩ => ⟨a1, a2, HI3.out.1.2.trans a3⟩
          have HIN2 : Hid (∀ W, Below W1.heap.size W1 W → Calls Tryz.prog 17 #[.slice (some ⟨b5, o5, none⟩) rn rc] W fun e w' => e = .returned (.bool (inlG g)) ∧ Below W.heap.size W w') := fun W hW => inline_any (hti.below hW) (by omega) hgt.1.ok hgt.2.2
          have HNA : Hid (∀ W, Below W1.heap.size W1 W → Calls Tryz.prog 22 #[.slice (some ⟨b5, o5, none⟩) rn rc] W (NmOK g W)) := fun W hW => l9name_any (hti.below hW) (by omega) hgt.1.ok hgt.2.2
          have HTX : Hid ((namC g.1).2.2.length ≤ 10000000) := hgt.1.text; have hR3' : Hid (golsM C 5000 false s3 (g :: gs.drop (i3 + 1)) = R) := hR3; have hgl3 : Hid (gs.length = i) := HEB.out.2.2.2; clear HI3 hil eg hgt hb5 hti HX hdr hR3 hmo hsz; go_wp2_with fail; refine HGL.out.mono ?_; rintro e Wd ⟨rfl, hmd, hfd⟩; have HMd : Hid _ := And.intro hmd hfd; have hbd := hmd.base HMK.out.2.1; have yd := HYR.out Wd hbd; have HI4 := HIN2.out Wd hbd; clear HGL hmd hfd hbd; go_wp2_with fail; refine HI4.mono ?_; rintro e We ⟨rfl, hbe⟩; have HMe : Hid _ := And.intro (HMd.out.1.below hbe) (HMd.out.2.below hbe); have ye := HYR.out We (HMe.out.1.base HMK.out.2.1); clear HI4 hbe yd HMd
          cases hin : inlG g with
          | true =>
            have HNX : Hid (golsM C 5000 false (golM C 5000 s3 g) (gs.drop (i3 + 1)) = R) := by
             have h9 := hR3'.out
             unfold golsM at h9
             rwa [if_pos hin] at h9
            go_wp2_with fail; go_roundw
            case rel => exact ⟨i3 + 1, _, false, by omega, rfl, by go_num, HMe.out, .inl ⟨rfl, HNX.out⟩⟩
            case measure => (simp [intOf] <;> omega)
          | false =>
            have hnd : Hid (golsM C 5000 false s3 (g :: gs.drop (i3 + 1)) = if gs.drop (i3 + 1) = [] then (((golM C 5000 s3 g).put (insC 20 0 0 (namC g.1))), true) else golsM C 5000 false ((golM C 5000 s3 g).put (insC 19 0 0 (namC g.1))) (gs.drop (i3 + 1))) := by
             show _ = _
             rw [golsM, if_neg (by rw [hin]; decide)]
             rfl
            by_cases hla : i3 + 1 < i
            ·have HNX : Hid (golsM C 5000 false ((golM C 5000 s3 g).put (insC 19 0 0 (namC g.1))) (gs.drop (i3 + 1)) = R) := by
              have h9 := hnd.out; rw [hR3'.out, if_neg (by rw [List.drop_eq_nil_iff]; have := hgl3.out; omega)] at h9; exact h9.symm
             have hla2 : (i3 : Int) < (i : Int) - 1 := by omega
             have HN4 := HNA.out We (HMe.out.1.base HMK.out.2.1); go_wp2_with fail; refine HN4.mono ?_; rintro e Wf ⟨tp, tc, rfl, hbin, hbf⟩
             have HE4 : Hid (Calls Tryz.prog 21 #[ptrK W2.heap.size, .int .i64 19, .int .i64 0, .int .i64 0, celV (namC g.1) tp tc] Wf fun e W => e = .returned (.tuple #[]) ∧ MK [] Wa W2.heap.size (W2.heap.size + 1) (W2.heap.size + 2) q c2 C ((golM C 5000 s3 g).put (insC 19 0 0 (namC g.1))) W ∧ FrX [W2.heap.size, W2.heap.size + 1, W2.heap.size + 2] Wa W) := by
              exact (l9emitC_any HMK.out.1 (HMe.out.1.below hbf) 19 0 0 (namC g.1) tp tc hbin HTX.out (by first | omega | (simp only [KS.put, List.length_append, List.length_cons, List.length_nil]; omega))).mono fun e W ⟨a1, a2, a3⟩ => ⟨a1, a2, (HMe.out.2.below hbf).trans a3⟩
             clear HN4 hbin hbf; go_wp2_with fail; refine HE4.out.mono ?_; rintro e Wg ⟨rfl, hmg', hfg⟩; have HMg : Hid _ := And.intro hmg' hfg; clear HE4 hmg' hfg; go_wp2_with fail; go_roundw
             case rel => exact ⟨i3 + 1, _, false, by omega, rfl, by go_num, HMg.out, .inl ⟨rfl, HNX.out⟩⟩
             case measure => (simp [intOf] <;> omega)
            ·have HNX : Hid (R = (((golM C 5000 s3 g).put (insC 20 0 0 (namC g.1))), true)) := by
              have h9 := hnd.out; rw [hR3'.out, if_pos (by rw [List.drop_eq_nil_iff]; have := hgl3.out; omega)] at h9; exact h9
             have hla2 : ¬ (i3 : Int) < (i : Int) - 1 := by omega
             have hi9 : i3 + 1 = i := by omega
             have HN4 := HNA.out We (HMe.out.1.base HMK.out.2.1); go_wp2_with fail; refine HN4.mono ?_; rintro e Wf ⟨tp, tc, rfl, hbin, hbf⟩
             have HE4 : Hid (Calls Tryz.prog 21 #[ptrK W2.heap.size, .int .i64 20, .int .i64 0, .int .i64 0, celV (namC g.1) tp tc] Wf fun e W => e = .returned (.tuple #[]) ∧ MK [] Wa W2.heap.size (W2.heap.size + 1) (W2.heap.size + 2) q c2 C ((golM C 5000 s3 g).put (insC 20 0 0 (namC g.1))) W ∧ FrX [W2.heap.size, W2.heap.size + 1, W2.heap.size + 2] Wa W) := by
              exact (l9emitC_any HMK.out.1 (HMe.out.1.below hbf) 20 0 0 (namC g.1) tp tc hbin HTX.out (by first | omega | (simp only [KS.put, List.length_append, List.length_cons, List.length_nil]; omega))).mono fun e W ⟨a1, a2, a3⟩ => ⟨a1, a2, (HMe.out.2.below hbf).trans a3⟩
             clear HN4 hbin hbf; go_wp2_with fail; refine HE4.out.mono ?_; rintro e Wg ⟨rfl, hmg', hfg⟩; have HMg : Hid _ := And.intro hmg' hfg; clear HE4 hmg' hfg; go_wp2_with fail; go_roundw
             case rel => exact ⟨i3 + 1, _, true, by omega, rfl, by go_num, HMg.out, .inr ⟨rfl, hi9, HNX.out⟩⟩
             case measure => (simp [intOf] <;> omega)
         ·obtain rfl : i3 = i := by omega
          rcases HI3.out.2 with ⟨rfl, hR4⟩ | ⟨rfl, _, hR4⟩
          ·rw [List.drop_of_length_le (by have := HEB.out.2.2.2; omega)] at hR4
           have hs3 : s3.out.length ≤ 20000000 := by have h8 := HSZ.out.2; rw [← hR4] at h8; exact h8.1
           have HM0 : Hid _ := HI3.out.1
           have HFE : Hid (s3.put (insN 21 0 0) = ccT (c, k)) := by
            have h9 := HRT.out; rw [← hR4] at h9; exact h9
           clear HI3 hR4
           have HE21 : Hid (Calls Tryz.prog 18 #[ptrK W2.heap.size, .int .i64 21, .int .i64 0, .int .i64 0] wr fun e W => e = .returned (.tuple #[]) ∧ MK [] Wa W2.heap.size (W2.heap.size + 1) (W2.heap.size + 2) q c2 C (s3.put (insN 21 0 0)) W ∧ FrX [W2.heap.size, W2.heap.size + 1, W2.heap.size + 2] Wa W) := (l9emit_any HMK.out.1 HM0.out.1 21 0 0 (by first | omega | (simp only [KS.put, List.length_append, List.length_cons, List.length_nil]; omega))).mono fun e W ⟨a1, a2, a3⟩ => ⟨a1, a2, HM0.out.2.trans a3⟩
           go_wp2_with fail; refine HE21.out.mono ?_; rintro e Wk ⟨rfl, hmk', hfk⟩; have HMk : Hid _ := And.intro hmk' hfk; clear HE21 hmk' hfk; have HFT : Hid (s3.put (insN 21 0 0) = ccT (c, k)) := HFE.out; obtain ⟨po, no, co, k0, ko⟩ := HMk.out.1.c0; have k4 := HMk.out.1.c4
           have HB : Hid (Below w.heap.size w Wk ∧ no = (ccT (c, k)).out.length ∧ OwnIv [] Wk w.heap.size po no co (ccT (c, k)).out) := by
            refine ⟨Below.on HPA.out.2.2.2.2 (HMk.out.1.base HMK.out.2.1), by rw [← HFT.out]; exact ko.1, ?_⟩; rw [← HFT.out]; exact ko.mono (Nat.le_trans HPA.out.2.2.2.2.size HMK.out.2.1.low.size)
           obtain ⟨nx, enx⟩ : ∃ nx : Nat, nx = (s3.put (insN 21 0 0)).nx := ⟨_, rfl⟩
           rw [← enx] at k4
           have HBG : Hid (ccBig (c, k) = (decide (20000 < no) || decide (256 < nx))) := by
            show _ = _
            unfold ccBig
            rw [← HB.out.2.1, ← HFT.out, ← enx]
           have HYS : Hid (ccBig (c, k) = true → CcOut cs w (.returned (.tuple #[.slice none 0 0, .int .i64 3])) Wk) := fun hb => ⟨none, 0, 0, HB.out.1, .inr ⟨HVA.out.1, c, k, HVA.out.2.1, HVA.out.2.2.1, HVA.out.2.2.2, .inl ⟨hb, rfl, rfl, rfl, rfl⟩⟩⟩
           have HNO : Hid (ccBig (c, k) = false → CcOut cs w (.returned (.tuple #[.slice po no co, .int .i64 0])) Wk) := fun hb => ⟨po, no, co, HB.out.1, .inr ⟨HVA.out.1, c, k, HVA.out.2.1, HVA.out.2.2.1, HVA.out.2.2.2, .inr ⟨hb, rfl, HB.out.2.2⟩⟩⟩
           clear ko enx HB HFT
           by_cases h20 : 20000 < no
           ·have HO : Hid _ := HYS.out (by rw [HBG.out]; simp [h20])
            clear HYS HNO HBG; go_wp2_with fail; exact bodyPost_ret (v := .tuple #[.slice none 0 0, .int .i64 3]) (by simp [results, Tryz.results5, go_sem]) rfl HO.out
           ·by_cases h25 : 256 < nx
            ·have HO : Hid _ := HYS.out (by rw [HBG.out]; simp [h25])
             clear HYS HNO HBG; go_wp2_with fail; exact bodyPost_ret (v := .tuple #[.slice none 0 0, .int .i64 3]) (by simp [results, Tryz.results5, go_sem]) rfl HO.out
            ·have HO : Hid _ := HNO.out (by rw [HBG.out]; simp [h20, h25])
             clear HYS HNO HBG; go_wp2_with fail; exact bodyPost_ret (v := .tuple #[.slice po no co, .int .i64 0]) (by simp [results, Tryz.results5, go_sem]) rfl HO.out
          ·have HM0 : Hid _ := HI3.out.1
           have HFE : Hid (s3 = ccT (c, k)) := by
            have h9 := HRT.out; rw [hR4] at h9; exact h9
           clear HI3 hR4; have HFT : Hid (s3 = ccT (c, k)) := HFE.out; obtain ⟨po, no, co, k0, ko⟩ := HM0.out.1.c0; have k4 := HM0.out.1.c4
           have HB : Hid (Below w.heap.size w wr ∧ no = (ccT (c, k)).out.length ∧ OwnIv [] wr w.heap.size po no co (ccT (c, k)).out) := by
            refine ⟨Below.on HPA.out.2.2.2.2 (HM0.out.1.base HMK.out.2.1), by rw [← HFT.out]; exact ko.1, ?_⟩; rw [← HFT.out]; exact ko.mono (Nat.le_trans HPA.out.2.2.2.2.size HMK.out.2.1.low.size)
           obtain ⟨nx, enx⟩ : ∃ nx : Nat, nx = (s3).nx := ⟨_, rfl⟩
           rw [← enx] at k4
           have HBG : Hid (ccBig (c, k) = (decide (20000 < no) || decide (256 < nx))) := by
            show _ = _
            unfold ccBig
            rw [← HB.out.2.1, ← HFT.out, ← enx]
           have HYS : Hid (ccBig (c, k) = true → CcOut cs w (.returned (.tuple #[.slice none 0 0, .int .i64 3])) wr) := fun hb => ⟨none, 0, 0, HB.out.1, .inr ⟨HVA.out.1, c, k, HVA.out.2.1, HVA.out.2.2.1, HVA.out.2.2.2, .inl ⟨hb, rfl, rfl, rfl, rfl⟩⟩⟩
           have HNO : Hid (ccBig (c, k) = false → CcOut cs w (.returned (.tuple #[.slice po no co, .int .i64 0])) wr) := fun hb => ⟨po, no, co, HB.out.1, .inr ⟨HVA.out.1, c, k, HVA.out.2.1, HVA.out.2.2.1, HVA.out.2.2.2, .inr ⟨hb, rfl, HB.out.2.2⟩⟩⟩
           clear ko enx HB HFT
           by_cases h20 : 20000 < no
           ·have HO : Hid _ := HYS.out (by rw [HBG.out]; simp [h20])
            clear HYS HNO HBG; go_wp2_with fail; exact bodyPost_ret (v := .tuple #[.slice none 0 0, .int .i64 3]) (by simp [results, Tryz.results5, go_sem]) rfl HO.out
           ·by_cases h25 : 256 < nx
            ·have HO : Hid _ := HYS.out (by rw [HBG.out]; simp [h25])
             clear HYS HNO HBG; go_wp2_with fail; exact bodyPost_ret (v := .tuple #[.slice none 0 0, .int .i64 3]) (by simp [results, Tryz.results5, go_sem]) rfl HO.out
            ·have HO : Hid _ := HNO.out (by rw [HBG.out]; simp [h20, h25])
             clear HYS HNO HBG; go_wp2_with fail; exact bodyPost_ret (v := .tuple #[.slice po no co, .int .i64 0]) (by simp [results, Tryz.results5, go_sem]) rfl HO.out
end Go.Proofs.YtickbkcpcgmlmaaGreatDoor
