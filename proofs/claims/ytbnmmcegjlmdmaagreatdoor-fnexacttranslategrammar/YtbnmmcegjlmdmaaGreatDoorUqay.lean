/- Texts of GrK, RegB, GrK2, GrU. Own work of the verifier. -/
import Derived.Test.YtbnmmcegjlmdmaaGreatDoorUqax
import Derived.Test.YtbnmmcegjlmdmaaGreatDoorUqak
namespace Go.Proofs.YtbnmmcegjlmdmaaGreatDoor
open Go Go.RowKit Go.Maps Go.Shelf
set_option linter.unusedVariables false
set_option linter.unusedSimpArgs false
theorem foC_app {w : World} : ∀ (xs ys : List Tr) (us vs : List Value), FoC w (itsF xs) us → FoC w (itsF ys) vs → FoC w (itsF (xs ++ ys)) (us ++ vs)
  | [], ys, us, vs, h, k => by rw [show us = [] from h]; exact k
  | x :: r, ys, us, vs, h, k => by
    obtain ⟨v, vr, rfl, hn, hr⟩ := h
    exact ⟨v, vr ++ vs, rfl, hn, foC_app r ys vr vs hr k⟩
theorem itsF_trsG : ∀ F : Fo, itsF (trs F) = F
  | .nil => rfl
  | .node c k r => by show Fo.node c k (itsF (trs r)) = _; rw [itsF_trsG r]
theorem foC_ifs {w : World} : ∀ (F : Fo) (us : List Value), FoC w F us → ∀ u ∈ us, ∃ t v, u = .iface t v
  | .nil, us, h, u, hu => by rw [show us = [] from h] at hu; cases hu
  | .node c k r, us, h, u, hu => by
    obtain ⟨v, vr, rfl, hn, hr⟩ := h
    rcases List.mem_cons.1 hu with rfl | hu
    · exact hn.iface
    · exact foC_ifs r vr hr u hu
theorem call_parts {w0 : World} {Bt : Nat} {t : Tr} {v : Value} (ht : t.fo.ok) (hk : t.1.1 = 2 ∨ t.1.1 = 3) (hf : FoIn w0 Bt t.fo [v]) : ∃ pa ca us, us.length = (trs t.2).length ∧ ca = (trs t.2).length ∧
    (∀ W, Below w0.heap.size w0 W → Calls Tryz.prog 24 #[v] W fun e w' => e = .returned (.tuple #[.agg #[.string (strOfNums t.1.2.2), .int .i64 (trs t.2).length], .bool true]) ∧ Below W.heap.size W w') ∧
    (∀ W, Below w0.heap.size w0 W → Calls Tryz.prog 25 #[v] W fun e w' => e = .returned (.slice pa (trs t.2).length ca) ∧ w' = W) ∧
    (0 < (trs t.2).length → ∃ b, pa = some ⟨b, 0, none⟩ ∧ ∀ j, j < (trs t.2).length → w0.cell? ⟨b, j, none⟩ = some (us.getD j .nilIface)) ∧ ((trs t.2).length = 0 → pa = none ∧ ca = 0) ∧ FoIn w0 Bt t.2 us := by
  have hlen : (trs t.2).length = t.2.count := trs_len t.2
  obtain ⟨v', vr, e, hnode, _⟩ := hf
  obtain ⟨rfl, rfl⟩ := List.cons.inj e
  have hc := ht.1
  simp only [cellB, decide_eq_true_eq] at hc
  rcases hnode with ⟨h, _⟩ | ⟨h, _⟩ | ⟨h, rfl⟩ | ⟨h, b, g, us, rfl, h1, h2, c0, c1, hg, cg, hkk⟩
  · omega
  · omega
  · have hnil : t.2 = .nil := ht.2.2.2.1 (by rw [h]; decide)
    rw [hnil]
    exact ⟨none, 0, [], rfl, rfl, fun W _ => nbFO_atom _ W, fun W _ => nbArgs_atom _ W, fun h => absurd h (Nat.lt_irrefl _), fun _ => ⟨rfl, rfl⟩, rfl⟩
  · have hul : us.length = t.2.count := FoIn.count t.2 us hkk
    have hcn := ht.2.2.1 h
    rw [hlen, ← hul]
    have hu1 : 1 ≤ us.length ∧ us.length ≤ 20 := by omega
    refine ⟨some ⟨g, 0, none⟩, us.length, us, rfl, rfl, fun W hW => nbFO_comp b g us.length _ W ((hW.cell (World.block_lt_of_cell? _ _ c0)).trans c0) ((hW.cell (World.block_lt_of_cell? _ _ c1)).trans c1), fun W hW => nbArgs_comp b g us.length W ((hW.cell (World.block_lt_of_cell? _ _ c1)).trans c1), fun _ => ⟨g, rfl, cg⟩, fun h0 => by omega, hkk⟩
theorem kid_at {w0 : World} {Bt : Nat} {t : Tr} {us : List Value} (h : FoIn w0 Bt t.2 us) (j : Nat) (hj : j < (trs t.2).length) : FoIn w0 Bt (kidG t j).fo [us.getD j .nilIface] := by
  have h1 := foIn_at (trs t.2) us (by rw [itsF_trsG]; exact h) j hj
  have e : kidG t j = (trs t.2)[j]'hj := by unfold kidG; rw [List.getD_eq_getElem?_getD, List.getElem?_eq_getElem hj]; rfl
  rw [e]; exact h1
end Go.Proofs.YtbnmmcegjlmdmaaGreatDoor

namespace Go.Proofs.YtbnmmcegjlmdmaaGreatDoor
open Go
section
variable {P : Program} {ops : Array Oper} {Q : Exit → Act → World → Prop} {md : Region.Mode} {S : World → Prop}
theorem hBoth {i j : Nat} {fuel : Nat} {listed : Array Bool} {a : Act} {w : World} (hr : Region.ready md ops listed = [i, j])
    (hi : wpOp P ops Q i (fun a' w' => S w' ∧ wpAnyH P md ops Q S fuel (listed.setIfInBounds i true) a' w') a w)
    (hj : wpOp P ops Q j (fun a' w' => S w' ∧ wpAnyH P md ops Q S fuel (listed.setIfInBounds j true) a' w') a w) : wpAnyH P md ops Q S (fuel + 1) listed a w := by
  refine wpAnyH_all hr (by simp) ?_
  intro k hk
  simp only [List.mem_cons, List.not_mem_nil, or_false] at hk
  rcases hk with rfl | rfl
  · exact hi
  · exact hj
theorem opStep {i : Nat} {v : Value} {K : Act → World → Prop} {a : Act} {w w' : World} (d : Option Tmp) (hd : (ops[i]?).map (·.dst) = some d) (hw : (ops[i]?).map (fun o => Region.wanted o (yielded ops a.tmps)) = some true)
    (hrun : ∀ o, ops[i]? = some o → (execOp a.eval o).run P w = .ok (.value v) w') (h : K (a.put d v) w') : wpOp P ops Q i K a w := by
  cases hi : ops[i]? with
  | none => simp [hi] at hd
  | some o =>
    have hd' : o.dst = d := by simpa [hi] using hd
    have hw' : Region.wanted o (yielded ops a.tmps) = true := by simpa [hi] using hw
    subst hd'
    unfold wpOp
    simp only [hi, hw', if_true, Oper.wp, hrun o hi, Oper.upon]
    exact .inl h
theorem opCall {i : Nat} {f : FuncId} {args : Array Value} {R : Ending → World → Prop} {K : Act → World → Prop} {a : Act} {w : World} (d : Option Tmp) (hd : (ops[i]?).map (·.dst) = some d) (hw : (ops[i]?).map (fun o => Region.wanted o (yielded ops a.tmps)) = some true)
    (hrun : ∀ o, ops[i]? = some o → (execOp a.eval o).run P w = .ok (.enter f args) w) (hC : Calls P f args w R) (hK : ∀ u w', R (.returned u) w' → K (a.put d u) w')
    (hP : ∀ ch w', ¬ R (.panicked ch) w') (hO : ∀ w', ¬ R .outgrown w') : wpOp P ops Q i K a w := by
  cases hi : ops[i]? with
  | none => simp [hi] at hd
  | some o =>
    have hd' : o.dst = d := by simpa [hi] using hd
    have hw' : Region.wanted o (yielded ops a.tmps) = true := by simpa [hi] using hw
    subst hd'
    unfold wpOp
    simp only [hi, hw', if_true, Oper.wp, hrun o hi, Oper.upon]
    refine .inl (hC.mono fun e w'' he => ?_)
    cases e with
    | returned u => exact hK u w'' he
    | panicked ch => exact absurd he (hP ch w'')
    | outgrown => exact absurd he (hO w'')
end
end Go.Proofs.YtbnmmcegjlmdmaaGreatDoor

namespace Go.Proofs.YtbnmmcegjlmdmaaGreatDoor
open Go Go.RowKit Go.Maps Go.Shelf
set_option linter.unusedVariables false
set_option linter.unusedSimpArgs false
set_option maxRecDepth 100000 in
set_option maxHeartbeats 4000000 in
theorem nonterm_any {w0 : World} {gp gb nb : Nat} {a a2 : Addr} {st : GSt} {w : World} (h : GMi w0 gp gb nb a a2 st w) (t : Tr) (v : Value) (Bt : Nat) (xa xb : Int) (ht : t.fo.ok) (hk : t.1.1 = 2 ∨ t.1.1 = 3) (hf : FoIn w0 Bt t.fo [v]) :
    Calls Tryz.prog 74 #[ptrV gb, v, varV xa, varV xb] w (GOutI w0 gp gb nb a a2 w (gMore failT t xa xb st)) := by
  obtain ⟨tv, xv, rfl⟩ := FoIn.iface hf
  obtain ⟨pa, ca, us, hul, hca, hFO, hAR, hpa, hpz, hfk⟩ := call_parts ht hk hf
  clear hca
  have hn20 : (trs t.2).length ≤ 20 := by
    have := ht.1
    have h2 := ht.2.2.1
    have h3 := ht.2.2.2.1
    have h4 := trs_len t.2
    simp only [cellB, decide_eq_true_eq] at this
    rcases hk with h5 | h5
    · rw [h3 (by rw [h5]; decide)]; decide
    · have := h2 h5; omega
  have HFO := hFO w h.bel
  have HFB : Hid (∀ w1, Below w.heap.size w w1 → Calls Tryz.prog 72 #[ptrV gb, efV a2] w1 (GOutI w0 gp gb nb a a2 w1 (failT, flt 3 st)) ∧ w1.cell? ⟨0, 0, none⟩ = some (efV a2)) := fun w1 hb => ⟨fail_any (h.below hb) 3 (.inl rfl), (h.below hb).errs.beyond⟩
  obtain ⟨n, en⟩ : ∃ n, n = (trs t.2).length := ⟨_, rfl⟩
  rw [← en] at HFO hAR hn20 hul hpa hpz
  obtain ⟨S, eS⟩ : ∃ S, S = strOfNums t.1.2.2 := ⟨_, rfl⟩
  rw [← eS] at HFO
  have HH : Hid (GMi w0 gp gb nb a a2 st w) := h
  have HBad : Hid (∀ w1 e w2, Below w.heap.size w w1 → 20 < n + 2 → GOutI w0 gp gb nb a a2 w1 (failT, flt 3 st) e w2 → GOutI w0 gp gb nb a a2 w (gMore failT t xa xb st) e w2) := fun w1 e w2 hb hn h2 => by
    unfold gMore; rw [if_pos (by rw [← en]; exact hn)]; exact h2.from (GFr.of gb nb hb)
  have HAR : Hid (∀ W, Below w.heap.size w W → Calls Tryz.prog 25 #[.iface tv xv] W fun e w' => e = .returned (.slice pa n ca) ∧ w' = W) := fun W hW => hAR W (Below.on h.bel hW)
  have HGood : Hid (∀ W W2 g cap, ¬ 20 < n + 2 → Below w.heap.size w W → Below W.heap.size W W2 → W2.ownsRow W.heap.size 49 1 (.slice (some ⟨g, 0, none⟩) (n + 2) cap) (n + 2) (us ++ [varV xa, varV xb]) → Calls Tryz.prog 57 #[.string S, .slice (some ⟨g, 0, none⟩) (n + 2 : Nat) cap] W2 (fun e w' => GOutI w0 gp gb nb a a2 w (gMore failT t xa xb st) e w' ∧ Below W2.heap.size W2 w')) := fun W W2 g cap hn hW hW2 hrow => by
    have hb2 : Below w.heap.size w W2 := Below.on hW hW2
    have hw2 : Below w0.heap.size w0 W2 := Below.on h.bel hb2
    have hl : (us ++ [varV xa, varV xb]).length = n + 2 := by simp [hul]
    rw [eS]
    refine (callT_any t.1.2.2 (trs t.2 ++ [vT xa, vT xb]) (us ++ [varV xa, varV xb]) g (n + 2) cap W2 hl.symm (by omega) (by omega) (fun i hi => ?_) (foC_app _ _ us _ ?_ (foC_cons (foC_var _ _) (foC_cons (foC_var _ _) (foC_nil _))))).mono ?_
    · rw [hrow.cellAt i (by omega), List.getElem?_eq_getElem (by omega), List.getD_eq_getElem?_getD, List.getElem?_eq_getElem (by omega)]
      rfl
    · rw [itsF_trsG]
      exact FoC.of _ _ (FoIn.imp2 (Nat.le_refl _) (fun q v hq => (hw2.cell (World.block_lt_of_cell? _ _ hq)).trans hq) hw2.size _ _ hfk)
    · rintro e w' ⟨z, rfl, hz, hb⟩
      unfold gMore
      rw [if_neg (by rw [← en]; exact hn)]
      exact ⟨⟨z, rfl, hz, h.below (Below.on hb2 hb), GFr.of gb nb (Below.on hb2 hb)⟩, hb⟩
  have HIF : Hid (∀ u ∈ us, ∃ t v, u = .iface t v) := foC_ifs _ _ (FoC.of _ _ hfk)
  have HPA : Hid (∀ W, Below w.heap.size w W → 0 < n → ∃ b, pa = some ⟨b, 0, none⟩ ∧ ∀ j, j < n → W.cell? ⟨b, j, none⟩ = some (us.getD j .nilIface)) := fun W hW h0 => by
    obtain ⟨b, e, hc⟩ := hpa h0
    have hw2 := Below.on h.bel hW
    exact ⟨b, e, fun j hj => (hw2.cell (World.block_lt_of_cell? _ _ (hc j hj))).trans (hc j hj)⟩
  have HPZ : Hid (n = 0 → pa = none ∧ ca = 0) := hpz
  have HUL : Hid (us.length = n) := hul
  clear hpa hpz hul hfk eS en
  clear h hFO hAR ht hk hf
  by_cases hn : 20 < n + 2
  · have HN : Hid (20 < n + 2) := hn
    go_enter Tryz.func74, Tryz.ntmps74
    go_wp2_with fail
    refine HFO.mono ?_
    rintro e w1 ⟨rfl, hb1⟩
    have HB1 : Hid (Below w.heap.size w w1) := hb1
    obtain ⟨HF1, g0⟩ := HFB.out (w1.alloc (.cells #[.string S, .int .i64 n] 52)) (Below.on hb1 (below_new _ _))
    clear hb1 HFO
    go_wp2_with fail
    refine HF1.mono ?_
    rintro e w2 h2
    have HG : Hid (GOutI w0 gp gb nb a a2 w (gMore failT t xa xb st) e w2) := HBad.out _ e w2 (Below.on HB1.out (below_new _ _)) HN.out h2
    obtain ⟨z, rfl, _⟩ := h2
    clear HF1 g0
    go_wp2_with fail
    go_ret
    exact HG.out
  · have HN : Hid (¬ 20 < n + 2) := hn
    go_enter Tryz.func74, Tryz.ntmps74
    go_wp2_with fail
    refine HFO.mono ?_
    rintro e w1 ⟨rfl, hb1⟩
    obtain ⟨W1, eW⟩ : ∃ W1, W1 = w1.alloc (.cells #[.string S, .int .i64 n] 52) := ⟨_, rfl⟩
    obtain ⟨Wd, eD⟩ : ∃ Wd, Wd = W1.drew := ⟨_, rfl⟩
    have hbd : Below w.heap.size w Wd := by
      rw [eD, eW]
      have h := Below.on hb1 (below_new w1 (.cells #[.string S, .int .i64 n] 52))
      exact ⟨h.os, h.tape, h.output, h.size, h.block⟩
    have hlt : w1.heap.size < Wd.heap.size := by rw [eD, eW]; show w1.heap.size < (w1.alloc _).heap.size; simp
    have hs0 : Wd.cell? ⟨w1.heap.size, 0, none⟩ = some (.string S) := by
      have k := heap_alloc_new w1 (.cells #[.string S, .int .i64 n] 52)
      rw [eD, eW]
      show (w1.alloc _).cell? _ = _
      unfold World.cell?; rw [show (w1.alloc (.cells #[.string S, .int .i64 n] 52)).heap[w1.heap.size]? = _ from k]; rfl
    have HS : Hid (∀ X, Below Wd.heap.size Wd X → X.cell? ⟨w1.heap.size, 0, none⟩ = some (.string S)) := fun X hX => (hX.cell (p := ⟨w1.heap.size, 0, none⟩) hlt).trans hs0
    have hy2 : Below Wd.heap.size Wd (Wd.alloc (.cells #[varV xa, varV xb] 49)) := below_new _ _
    obtain ⟨Y, eY⟩ : ∃ Y, Y = Wd.alloc (.cells #[varV xa, varV xb] 49) := ⟨_, rfl⟩
    rw [← eY] at hy2
    have hz2 : Below Y.heap.size Y (Y.alloc (.cells #[.slice pa n ca, .slice (some ⟨Wd.heap.size, 0, none⟩) 2 2] 55)) := below_new _ _
    have hzc := new_cells2 Y (.slice pa n ca) (.slice (some ⟨Wd.heap.size, 0, none⟩) 2 2) 55
    have hyc : ∀ i, i < 2 → Y.cell? ⟨Wd.heap.size, i, none⟩ = some (([varV xa, varV xb] : List Value).getD i .nilIface) := by rw [eY]; exact new_cells2 Wd _ _ _
    obtain ⟨Z, eZ⟩ : ∃ Z, Z = Y.alloc (.cells #[.slice pa n ca, .slice (some ⟨Wd.heap.size, 0, none⟩) 2 2] 55) := ⟨_, rfl⟩
    rw [← eZ] at hz2 hzc
    have hdz : Below Wd.heap.size Wd Z := Below.on hy2 hz2
    have HCC := concat_any Y.heap.size pa (some ⟨Wd.heap.size, 0, none⟩) n ca 2 us [varV xa, varV xb] Z HUL.out.symm rfl hn20 (hzc 0 (by decide)) (hzc 1 (by decide)) HIF.out (fun u hu => by simp at hu; rcases hu with rfl | rfl <;> exact ⟨_, _, rfl⟩) (HPA.out Z (Below.on hbd hdz)) HPZ.out ⟨Wd.heap.size, rfl, fun j hj => (hz2.cell (World.block_lt_of_cell? _ _ (hyc j hj))).trans (hyc j hj)⟩
    have HZ : Hid (∀ X, Below Z.heap.size Z X → X.cell? ⟨w1.heap.size, 0, none⟩ = some (.string S)) := fun X hX => HS.out X (Below.on hdz hX)
    have HGZ : Hid (∀ W2 g cap, Below Z.heap.size Z W2 → W2.ownsRow Z.heap.size 49 1 (.slice (some ⟨g, 0, none⟩) (n + 2) cap) (n + 2) (us ++ [varV xa, varV xb]) → Calls Tryz.prog 57 #[.string S, .slice (some ⟨g, 0, none⟩) (n + 2 : Nat) cap] W2 (fun e w' => GOutI w0 gp gb nb a a2 w (gMore failT t xa xb st) e w' ∧ Below W2.heap.size W2 w')) := fun W2 g cap hW2 hrow => HGood.out Z W2 g cap hn (Below.on hbd hdz) hW2 hrow
    have hsY : Y.cell? ⟨w1.heap.size, 0, none⟩ = some (.string S) := HS.out Y hy2
    have hsZ : Z.cell? ⟨w1.heap.size, 0, none⟩ = some (.string S) := HS.out Z hdz
    have HAd := HAR.out Wd hbd
    have HAy := HAR.out Y (Below.on hbd hy2)
    have HW : Hid (W1 = w1.alloc (.cells #[.string S, .int .i64 n] 52)) := eW
    have HY : Hid (Wd.alloc (.cells #[varV xa, varV xb] 49) = Y) := eY.symm
    have HZe : Hid (Y.alloc (.cells #[.slice pa n ca, .slice (some ⟨Wd.heap.size, 0, none⟩) 2 2] 55) = Z) := eZ.symm
    have HDe : Hid (W1.drew = Wd) := eD.symm
    clear hb1 HFO eW eY eZ eD hbd hlt hy2 hz2 hzc hyc hdz HFB HBad HGood HAR HPA HPZ HIF HUL
    go_wp2_with fail
    rw [← HW.out]
    refine wp_region_held_drew (S := fun X => X.cell? ⟨w1.heap.size, 0, none⟩ = some (.string S)) (by kernel_rfl) ?_ (fun hHeld => ?_)
    · rw [HDe.out]; exact hs0
    rw [HDe.out]
    refine hTake (i := 0) (v := .pointer (some ⟨w1.heap.size, 0, none⟩)) (some 23) (by kernel_rfl) (by kernel_rfl) (by kernel_rfl) (by kernel_rfl) (by kernel_rfl) (fun _ _ _ h => h) (fun o ho W hSw => ?y0) (by assumption) ?_
    case y0 =>
      cases ho
      simp [execOp, go_sem, Act.eval]
    simp only [Act.put, List.setIfInBounds_toArray, List.set_cons_zero, List.set_cons_succ]
    refine hTake (i := 1) (v := .string S) (some 24) (by kernel_rfl) (by kernel_rfl) (by kernel_rfl) (by kernel_rfl) (by kernel_rfl) (fun _ _ _ h => h) (fun o ho W hSw => ?y1) (by assumption) ?_
    case y1 =>
      cases ho
      have s0 := hSw
      simp [execOp, go_sem, Act.eval, s0]
    simp only [Act.put, List.setIfInBounds_toArray, List.set_cons_zero, List.set_cons_succ]
    refine hTake (i := 2) (v := .iface tv xv) (some 25) (by kernel_rfl) (by kernel_rfl) (by kernel_rfl) (by kernel_rfl) (by kernel_rfl) (fun _ _ _ h => h) (fun o ho W hSw => ?y2) (by assumption) ?_
    case y2 =>
      cases ho
      simp [execOp, go_sem, Act.eval]
    simp only [Act.put, List.setIfInBounds_toArray, List.set_cons_zero, List.set_cons_succ]
    refine hTake (i := 4) (v := varV xa) (some 27) (by kernel_rfl) (by kernel_rfl) (by kernel_rfl) (by kernel_rfl) (by kernel_rfl) (fun _ _ _ h => h) (fun o ho W hSw => ?y3) (by assumption) ?_
    case y3 =>
      cases ho
      simp [execOp, go_sem, Act.eval]
    simp only [Act.put, List.setIfInBounds_toArray, List.set_cons_zero, List.set_cons_succ]
    refine hTake (i := 5) (v := varV xb) (some 28) (by kernel_rfl) (by kernel_rfl) (by kernel_rfl) (by kernel_rfl) (by kernel_rfl) (fun _ _ _ h => h) (fun o ho W hSw => ?y4) (by assumption) ?_
    case y4 =>
      cases ho
      simp [execOp, go_sem, Act.eval]
    simp only [Act.put, List.setIfInBounds_toArray, List.set_cons_zero, List.set_cons_succ]
    refine hBoth (i := 3) (j := 6) (by kernel_rfl) ?zA ?zB
    case zA =>
      refine opCall (f := 25) (args := #[.iface tv xv]) (some 26) (by kernel_rfl) (by kernel_rfl) (fun o ho => ?cA) HAd ?kA (fun ch w' h => by cases h.1) (fun w' h => by cases h.1)
      case cA =>
        cases ho
        simp [execOp, go_sem, Act.eval]
      case kA =>
        rintro u w2 ⟨hu, hw2⟩
        obtain rfl := Ending.returned.inj hu
        rw [hw2]
        clear hu hw2 w2
        refine ⟨hs0, ?_⟩
        simp only [Act.put, List.setIfInBounds_toArray, List.set_cons_zero, List.set_cons_succ]
        refine hStep (i := 6) (v := .slice (some ⟨Wd.heap.size, 0, none⟩) 2 2) (w' := Y) (some 29) (by kernel_rfl) (by kernel_rfl) (by kernel_rfl) (fun o ho => ?y20) hsY ?_
        case y20 =>
          cases ho
          simp [execOp, go_sem, Act.eval]
          exact HY.out
        simp only [Act.put, List.setIfInBounds_toArray, List.set_cons_zero, List.set_cons_succ]
        refine hStep (i := 7) (v := .slice (some ⟨Y.heap.size, 0, none⟩) 2 2) (w' := Z) (some 30) (by kernel_rfl) (by kernel_rfl) (by kernel_rfl) (fun o ho => ?y21) hsZ ?_
        case y21 =>
          cases ho
          simp [execOp, go_sem, Act.eval]
          exact HZe.out
        simp only [Act.put, List.setIfInBounds_toArray, List.set_cons_zero, List.set_cons_succ]
        refine hCallE (i := 8) (f := 81) (args := #[.slice (some ⟨Y.heap.size, 0, none⟩) 2 2]) (some 31) (by kernel_rfl) (by kernel_rfl) (by kernel_rfl) (fun o ho => ?c22) HCC ?k22 (fun ch w' hh => by obtain ⟨_, _, h, _⟩ := hh; cases h) (fun w' hh => by obtain ⟨_, _, h, _⟩ := hh; cases h)
        case c22 =>
          cases ho
          simp [execOp, go_sem, Act.eval]
        case k22 =>
          rintro u w3 ⟨g, cap, hu, hrow, hb3⟩
          obtain rfl := Ending.returned.inj hu
          have HK := HGZ.out w3 g cap hb3 hrow
          have hS3 : w3.cell? ⟨w1.heap.size, 0, none⟩ = some (.string S) := HZ.out w3 hb3
          have HB3 : Hid (Below Z.heap.size Z w3) := hb3
          clear hu hrow hb3 HCC
          refine ⟨hS3, ?_⟩
          simp only [Act.put, List.setIfInBounds_toArray, List.set_cons_zero, List.set_cons_succ]
          refine hCallE (i := 9) (f := 57) (args := #[.string S, .slice (some ⟨g, 0, none⟩) (n + 2 : Nat) cap]) (some 32) (by kernel_rfl) (by kernel_rfl) (by kernel_rfl) (fun o ho => ?c23) HK ?k23 (fun ch w' hh => by obtain ⟨⟨_, h, _⟩, _⟩ := hh; cases h) (fun w' hh => by obtain ⟨⟨_, h, _⟩, _⟩ := hh; cases h)
          case c23 =>
            cases ho
            simp [execOp, go_sem, Act.eval]
          case k23 =>
            rintro u w4 ⟨h4, hb4⟩
            have HG : Hid (GOutI w0 gp gb nb a a2 w (gMore failT t xa xb st) (.returned u) w4) := h4
            have hS4 : w4.cell? ⟨w1.heap.size, 0, none⟩ = some (.string S) := HZ.out w4 (Below.on HB3.out hb4)
            clear h4 hb4 HK
            refine ⟨hS4, ?_⟩
            simp only [Act.put, List.setIfInBounds_toArray, List.set_cons_zero, List.set_cons_succ]
            refine hTake (i := 10) (v := u) (some 8) (by kernel_rfl) (by kernel_rfl) (by kernel_rfl) (by kernel_rfl) (by kernel_rfl) (fun _ _ _ h => h) (fun o ho W hSw => ?y24) (by assumption) ?_
            case y24 =>
              cases ho
              simp [execOp, go_sem, Act.eval]
            simp only [Act.put, List.setIfInBounds_toArray, List.set_cons_zero, List.set_cons_succ]
            refine wpAnyH_done (by kernel_rfl) ?_ _
            change Exit.then _ _ _ _ w4
            go_wp2_with fail
            go_ret
            exact HG.out
    case zB =>
      refine opStep (v := .slice (some ⟨Wd.heap.size, 0, none⟩) 2 2) (w' := Y) (some 29) (by kernel_rfl) (by kernel_rfl) (fun o ho => ?sB) ⟨hsY, ?_⟩
      case sB =>
        cases ho
        simp [execOp, go_sem, Act.eval]
        exact HY.out
      simp only [Act.put, List.setIfInBounds_toArray, List.set_cons_zero, List.set_cons_succ]
      refine hCallE (i := 3) (f := 25) (args := #[.iface tv xv]) (some 26) (by kernel_rfl) (by kernel_rfl) (by kernel_rfl) (fun o ho => ?c40) HAy ?k40 (fun ch w' hh => by cases hh.1) (fun w' hh => by cases hh.1)
      case c40 =>
        cases ho
        simp [execOp, go_sem, Act.eval]
      case k40 =>
        rintro u w2 ⟨hu, hw2⟩
        obtain rfl := Ending.returned.inj hu
        rw [hw2]
        clear hu hw2 w2
        refine ⟨hsY, ?_⟩
        simp only [Act.put, List.setIfInBounds_toArray, List.set_cons_zero, List.set_cons_succ]
        refine hStep (i := 7) (v := .slice (some ⟨Y.heap.size, 0, none⟩) 2 2) (w' := Z) (some 30) (by kernel_rfl) (by kernel_rfl) (by kernel_rfl) (fun o ho => ?y41) hsZ ?_
        case y41 =>
          cases ho
          simp [execOp, go_sem, Act.eval]
          exact HZe.out
        simp only [Act.put, List.setIfInBounds_toArray, List.set_cons_zero, List.set_cons_succ]
        refine hCallE (i := 8) (f := 81) (args := #[.slice (some ⟨Y.heap.size, 0, none⟩) 2 2]) (some 31) (by kernel_rfl) (by kernel_rfl) (by kernel_rfl) (fun o ho => ?c42) HCC ?k42 (fun ch w' hh => by obtain ⟨_, _, h, _⟩ := hh; cases h) (fun w' hh => by obtain ⟨_, _, h, _⟩ := hh; cases h)
        case c42 =>
          cases ho
          simp [execOp, go_sem, Act.eval]
        case k42 =>
          rintro u w3 ⟨g, cap, hu, hrow, hb3⟩
          obtain rfl := Ending.returned.inj hu
          have HK := HGZ.out w3 g cap hb3 hrow
          have hS3 : w3.cell? ⟨w1.heap.size, 0, none⟩ = some (.string S) := HZ.out w3 hb3
          have HB3 : Hid (Below Z.heap.size Z w3) := hb3
          clear hu hrow hb3 HCC
          refine ⟨hS3, ?_⟩
          simp only [Act.put, List.setIfInBounds_toArray, List.set_cons_zero, List.set_cons_succ]
          refine hCallE (i := 9) (f := 57) (args := #[.string S, .slice (some ⟨g, 0, none⟩) (n + 2 : Nat) cap]) (some 32) (by kernel_rfl) (by kernel_rfl) (by kernel_rfl) (fun o ho => ?c43) HK ?k43 (fun ch w' hh => by obtain ⟨⟨_, h, _⟩, _⟩ := hh; cases h) (fun w' hh => by obtain ⟨⟨_, h, _⟩, _⟩ := hh; cases h)
          case c43 =>
            cases ho
            simp [execOp, go_sem, Act.eval]
          case k43 =>
            rintro u w4 ⟨h4, hb4⟩
            have HG : Hid (GOutI w0 gp gb nb a a2 w (gMore failT t xa xb st) (.returned u) w4) := h4
            have hS4 : w4.cell? ⟨w1.heap.size, 0, none⟩ = some (.string S) := HZ.out w4 (Below.on HB3.out hb4)
            clear h4 hb4 HK
            refine ⟨hS4, ?_⟩
            simp only [Act.put, List.setIfInBounds_toArray, List.set_cons_zero, List.set_cons_succ]
            refine hTake (i := 10) (v := u) (some 8) (by kernel_rfl) (by kernel_rfl) (by kernel_rfl) (by kernel_rfl) (by kernel_rfl) (fun _ _ _ h => h) (fun o ho W hSw => ?y44) (by assumption) ?_
            case y44 =>
              cases ho
              simp [execOp, go_sem, Act.eval]
            simp only [Act.put, List.setIfInBounds_toArray, List.set_cons_zero, List.set_cons_succ]
            refine wpAnyH_done (by kernel_rfl) ?_ _
            change Exit.then _ _ _ _ w4
            go_wp2_with fail
            go_ret
            exact HG.out
end Go.Proofs.YtbnmmcegjlmdmaaGreatDoor

namespace Go.Proofs.YtbnmmcegjlmdmaaGreatDoor
open Go Go.RowKit Go.Maps Go.Shelf
set_option linter.unusedVariables false
set_option linter.unusedSimpArgs false
def PhI (w0 : World) (gp gb nb : Nat) (a a2 : Addr) (f : Nat) : Prop := ∀ (t : Tr) (v : Value) (Bt : Nat) (xa xb : Int) (st : GSt) (w : World), t.fo.ok → (itC t).length ≤ f → (itC t).length ≤ 2000 → FoIn w0 Bt t.fo [v] → 0 ≤ xa ∧ xa ≤ 1100000 → 0 ≤ xb ∧ xb ≤ 1100000 → st.1 + (itC t).length ≤ 1100000 → GMi w0 gp gb nb a a2 st w →
  Calls Tryz.prog 58 #[ptrV gb, v, varV xa, varV xb] w (GOutI w0 gp gb nb a a2 w (gPh failT f t xa xb st))
theorem failT_ok : okG failT.fo ∧ (itC failT).length = 1 := ⟨⟨.inr (.inr (.inl ⟨rfl, by decide, rfl⟩)), byte_small (by decide), fun h => absurd (show (2 : Int) = 3 from h) (by decide), fun _ => rfl, trivial, trivial⟩, rfl⟩
def SRu (b : Bool) (sn : Nat) (S : ByteArray) (gp gb g : Nat) (v0 v1 : Value) (X : World) : Prop := (b = true → X.cell? ⟨sn, 0, none⟩ = some (.string S)) ∧ X.cell? ⟨gp, 0, none⟩ = some (ptrV gb) ∧ X.cell? ⟨g, 0, none⟩ = some v0 ∧ X.cell? ⟨g, 1, none⟩ = some v1
theorem SRu.move {b : Bool} {w0 : World} {gp gb nb : Nat} {a a2 : Addr} {st : GSt} {w w' : World} {sn g : Nat} {S : ByteArray} {t0 x0 : TypeId} {u0 : Value} {v1 : Value} (h : SRu b sn S gp gb g (.iface t0 u0) v1 w) (hm : GMi w0 gp gb nb a a2 st w) (hf : GFr gb nb w w') : SRu b sn S gp gb g (.iface t0 u0) v1 w' := by
  obtain ⟨h1, h2, h3, h4⟩ := h
  have n1 : ∀ {q : Nat} {v : Value}, w.cell? ⟨q, 0, none⟩ = some v → (∀ k c, v ≠ .func k #[] c) → q ≠ gb := fun hc hv e => by subst e; rw [hm.c0] at hc; cases hc; exact hv _ _ rfl
  have n2 : ∀ {q : Nat} {v : Value}, w.cell? ⟨q, 0, none⟩ = some v → (∀ i x, v ≠ .int i x) → q ≠ nb := fun hc hv e => by subst e; rw [hm.n0] at hc; cases hc; exact hv _ _ rfl
  have g1 := n1 h3 (fun _ _ h => by cases h)
  have g2 := n2 h3 (fun _ _ h => by cases h)
  exact ⟨fun e => hf.cell (h1 e) (n1 (h1 e) (fun _ _ h => by cases h)) (n2 (h1 e) (fun _ _ h => by cases h)), hf.cell h2 (n1 h2 (fun _ _ h => by cases h)) (n2 h2 (fun _ _ h => by cases h)), hf.cell h3 g1 g2, hf.cell h4 g1 g2⟩
theorem SRu.drew {b : Bool} {sn g gp gb : Nat} {S : ByteArray} {v0 v1 : Value} {w : World} (h : SRu b sn S gp gb g v0 v1 w) : SRu b sn S gp gb g v0 v1 w.drew := h
theorem GMi.drew {w0 w : World} {gp gb nb : Nat} {a a2 : Addr} {st : GSt} (h : GMi w0 gp gb nb a a2 st w) : GMi w0 gp gb nb a a2 st w.drew := h.below ((Below.refl _ _).drew)
theorem GFr.drew (gb nb : Nat) (w : World) : GFr gb nb w w.drew := GFr.of gb nb ((Below.refl _ _).drew)
set_option maxRecDepth 100000 in
set_option maxHeartbeats 4000000 in
theorem ruleSeq_any {w0 : World} {gp gb nb : Nat} {a a2 : Addr} {f : Nat} (hPh : PhI w0 gp gb nb a a2 f) {st : GSt} {w : World} (h : GMi w0 gp gb nb a a2 st w) (nm : List Int) (S : ByteArray) (hS : strOfNums nm = S) (sn g Bt : Nat) (t0 t1 : Tr) (y0 y1 : TypeId) (u0 u1 : Value) (xa xb : Int)
    (hok0 : t0.fo.ok) (hok1 : t1.fo.ok) (hl0 : (itC t0).length ≤ f) (hl1 : (itC t1).length ≤ f) (hl : (itC t0).length + (itC t1).length + 1 ≤ 2000) (hf0 : FoIn w0 Bt t0.fo [.iface y0 u0]) (hf1 : FoIn w0 Bt t1.fo [.iface y1 u1]) (ha : 0 ≤ xa ∧ xa ≤ 1100000) (hb : 0 ≤ xb ∧ xb ≤ 1100000) (hst : st.1 + (itC t0).length + (itC t1).length + 1 ≤ 1100000)
    (hSR : SRu true sn S gp gb g (.iface y0 u0) (.iface y1 u1) w) :
    Calls Tryz.prog 56 #[.slice (some ⟨g, 0, none⟩) 2 2, varV xa, varV xb, ptrV gp, ptrV sn] w (GOutI w0 gp gb nb a a2 w (cmpT nm [(gPh failT f t0 xa st.1 (st.1 + 1, st.2)).1, (gPh failT f t1 st.1 xb (gPh failT f t0 xa st.1 (st.1 + 1, st.2)).2).1], (gPh failT f t1 st.1 xb (gPh failT f t0 xa st.1 (st.1 + 1, st.2)).2).2)) := by
  have hr := h.rng
  have HV := newVar_any h (by omega)
  have hgo := gPh_ok failT_ok f t0 xa st.1 (st.1 + 1, st.2) hok0 hl0 ha ⟨hr.1, by omega⟩ (by simp only; omega) (by simp only; omega)
  have hnx : 0 ≤ (gPh failT f t0 xa st.1 (st.1 + 1, st.2)).2.1 ∧ (gPh failT f t0 xa st.1 (st.1 + 1, st.2)).2.1 + (itC t1).length ≤ 1100000 := by
    have h1 := hgo.up
    have h2 := hgo.few
    try simp only at h1 h2
    omega
  have HP1 : Hid (∀ W, GMi w0 gp gb nb a a2 (st.1 + 1, st.2) W → Calls Tryz.prog 58 #[ptrV gb, .iface y0 u0, varV xa, varV st.1] W (GOutI w0 gp gb nb a a2 W (gPh failT f t0 xa st.1 (st.1 + 1, st.2)))) := fun W hW => hPh t0 (.iface y0 u0) Bt xa st.1 (st.1 + 1, st.2) W hok0 hl0 (by omega) hf0 ha ⟨hr.1, by omega⟩ (by simp only; omega) hW
  have HP2 : Hid (∀ W, GMi w0 gp gb nb a a2 (gPh failT f t0 xa st.1 (st.1 + 1, st.2)).2 W → Calls Tryz.prog 58 #[ptrV gb, .iface y1 u1, varV st.1, varV xb] W (GOutI w0 gp gb nb a a2 W (gPh failT f t1 st.1 xb (gPh failT f t0 xa st.1 (st.1 + 1, st.2)).2))) := fun W hW => hPh t1 (.iface y1 u1) Bt st.1 xb _ W hok1 hl1 (by omega) hf1 ⟨hr.1, by omega⟩ hb hnx.2 hW
  obtain ⟨r1, e1⟩ : ∃ r1, r1 = gPh failT f t0 xa st.1 (st.1 + 1, st.2) := ⟨_, rfl⟩
  rw [← e1] at HP1 HP2 ⊢
  obtain ⟨r2, e2⟩ : ∃ r2, r2 = gPh failT f t1 st.1 xb r1.2 := ⟨_, rfl⟩
  rw [← e2] at HP2 ⊢
  have HM : Hid (GMi w0 gp gb nb a a2 st w) := h
  have HEND : Hid (∀ W u1 u2, FoC W r1.1.fo [u1] → FoC W r2.1.fo [u2] → GMi w0 gp gb nb a a2 r2.2 W → Calls Tryz.prog 57 #[.string S, .slice (some ⟨W.heap.size, 0, none⟩) 2 2] (W.alloc (.cells #[u1, u2] 49)) (fun e w' => GOutI w0 gp gb nb a a2 W (cmpT nm [r1.1, r2.1], r2.2) e w' ∧ Below W.heap.size W w')) := fun W z1 z2 h1 h2 hW => by
    refine (call2_any nm S hS r1.1 r2.1 z1 z2 W h1 h2).mono ?_
    intro e w' he
    exact ⟨GOutI.tree hW he, by obtain ⟨_, _, _, hb⟩ := he; exact hb⟩
  have s0 := hSR.1
  have s1 := hSR.2.1
  have s2 := hSR.2.2.1
  have s3 := hSR.2.2.2
  have HSR : Hid (SRu true sn S gp gb g (.iface y0 u0) (.iface y1 u1) w) := hSR
  have c0 := h.c0
  obtain ⟨nn, enn⟩ : ∃ nn, nn = st.1 := ⟨_, rfl⟩
  clear hPh h hgo hnx hok0 hok1 hl0 hl1 hl hf0 hf1 ha hb hst hSR e1 e2 hS enn nn
  go_enter Tryz.func56, Tryz.ntmps56
  go_wp2_with fail
  refine HV.mono ?_
  rintro e wv ⟨rfl, hmv, hfv⟩
  have HSv : Hid (SRu true sn S gp gb g (.iface y0 u0) (.iface y1 u1) wv) := SRu.move (x0 := 0) HSR.out HM.out hfv
  have HMv : Hid (GMi w0 gp gb nb a a2 (st.1 + 1, st.2) wv) := hmv
  have HFv : Hid (GFr gb nb w wv) := hfv
  obtain ⟨s0, s1, s2, s3⟩ := HSv.out
  clear hmv hfv HV c0
  go_wp2_with fail
  obtain ⟨Wd, eD⟩ : ∃ Wd, Wd = World.drew wv := ⟨_, rfl⟩
  have HSd : SRu true sn S gp gb g (.iface y0 u0) (.iface y1 u1) Wd := by rw [eD]; exact HSv.out.drew
  have HMd : Hid (GMi w0 gp gb nb a a2 (st.1 + 1, st.2) Wd) := by rw [eD]; exact HMv.out.drew
  have HFd : Hid (GFr gb nb w Wd) := by rw [eD]; exact HFv.out.trans (GFr.drew gb nb _)
  have HC1 := HP1.out Wd HMd.out
  have HDe : Hid (World.drew wv = Wd) := eD.symm
  refine wp_region_held_drew (S := SRu true sn S gp gb g (.iface y0 u0) (.iface y1 u1)) (by kernel_rfl) ?_ (fun hHeld => ?_)
  · rw [HDe.out]; exact HSd
  rw [HDe.out]
  clear eD
  refine hTake (i := 0) (v := .string S) (some 15) (by kernel_rfl) (by kernel_rfl) (by kernel_rfl) (by kernel_rfl) (by kernel_rfl) (fun _ _ _ h => h) (fun o ho W hSw => ?y0) (by assumption) ?_
  case y0 =>
    cases ho
    obtain ⟨k0', k1, k2, k3⟩ := hSw
    have k0 := k0' rfl
    simp [execOp, go_sem, Act.eval, k0]
  simp only [Act.put, List.setIfInBounds_toArray, List.set_cons_zero, List.set_cons_succ]
  refine hTake (i := 1) (v := ptrV gb) (some 16) (by kernel_rfl) (by kernel_rfl) (by kernel_rfl) (by kernel_rfl) (by kernel_rfl) (fun _ _ _ h => h) (fun o ho W hSw => ?y1) (by assumption) ?_
  case y1 =>
    cases ho
    obtain ⟨k0', k1, k2, k3⟩ := hSw
    have k0 := k0' rfl
    simp [execOp, go_sem, Act.eval, k1]
  simp only [Act.put, List.setIfInBounds_toArray, List.set_cons_zero, List.set_cons_succ]
  refine hTake (i := 2) (v := .slice (some ⟨g, 0, none⟩) 2 2) (some 17) (by kernel_rfl) (by kernel_rfl) (by kernel_rfl) (by kernel_rfl) (by kernel_rfl) (fun _ _ _ h => h) (fun o ho W hSw => ?y2) (by assumption) ?_
  case y2 =>
    cases ho
    simp [execOp, go_sem, Act.eval]
  simp only [Act.put, List.setIfInBounds_toArray, List.set_cons_zero, List.set_cons_succ]
  refine hTake (i := 3) (v := .pointer (some ⟨g, 0, none⟩)) (some 18) (by kernel_rfl) (by kernel_rfl) (by kernel_rfl) (by kernel_rfl) (by kernel_rfl) (fun _ _ _ h => h) (fun o ho W hSw => ?y3) (by assumption) ?_
  case y3 =>
    cases ho
    simp [execOp, go_sem, Act.eval]
  simp only [Act.put, List.setIfInBounds_toArray, List.set_cons_zero, List.set_cons_succ]
  refine hTake (i := 4) (v := .iface y0 u0) (some 19) (by kernel_rfl) (by kernel_rfl) (by kernel_rfl) (by kernel_rfl) (by kernel_rfl) (fun _ _ _ h => h) (fun o ho W hSw => ?y4) (by assumption) ?_
  case y4 =>
    cases ho
    obtain ⟨k0', k1, k2, k3⟩ := hSw
    have k0 := k0' rfl
    simp [execOp, go_sem, Act.eval, k2]
  simp only [Act.put, List.setIfInBounds_toArray, List.set_cons_zero, List.set_cons_succ]
  refine hTake (i := 5) (v := varV xa) (some 20) (by kernel_rfl) (by kernel_rfl) (by kernel_rfl) (by kernel_rfl) (by kernel_rfl) (fun _ _ _ h => h) (fun o ho W hSw => ?y5) (by assumption) ?_
  case y5 =>
    cases ho
    simp [execOp, go_sem, Act.eval]
  simp only [Act.put, List.setIfInBounds_toArray, List.set_cons_zero, List.set_cons_succ]
  refine hTake (i := 6) (v := varV st.1) (some 21) (by kernel_rfl) (by kernel_rfl) (by kernel_rfl) (by kernel_rfl) (by kernel_rfl) (fun _ _ _ h => h) (fun o ho W hSw => ?y6) (by assumption) ?_
  case y6 =>
    cases ho
    simp [execOp, go_sem, Act.eval]
  simp only [Act.put, List.setIfInBounds_toArray, List.set_cons_zero, List.set_cons_succ]
  refine hTake (i := 8) (v := ptrV gb) (some 23) (by kernel_rfl) (by kernel_rfl) (by kernel_rfl) (by kernel_rfl) (by kernel_rfl) (fun _ _ _ h => h) (fun o ho W hSw => ?y7) (by assumption) ?_
  case y7 =>
    cases ho
    obtain ⟨k0', k1, k2, k3⟩ := hSw
    have k0 := k0' rfl
    simp [execOp, go_sem, Act.eval, k1]
  simp only [Act.put, List.setIfInBounds_toArray, List.set_cons_zero, List.set_cons_succ]
  refine hTake (i := 9) (v := .slice (some ⟨g, 0, none⟩) 2 2) (some 24) (by kernel_rfl) (by kernel_rfl) (by kernel_rfl) (by kernel_rfl) (by kernel_rfl) (fun _ _ _ h => h) (fun o ho W hSw => ?y8) (by assumption) ?_
  case y8 =>
    cases ho
    simp [execOp, go_sem, Act.eval]
  simp only [Act.put, List.setIfInBounds_toArray, List.set_cons_zero, List.set_cons_succ]
  refine hTake (i := 10) (v := .pointer (some ⟨g, 1, none⟩)) (some 25) (by kernel_rfl) (by kernel_rfl) (by kernel_rfl) (by kernel_rfl) (by kernel_rfl) (fun _ _ _ h => h) (fun o ho W hSw => ?y9) (by assumption) ?_
  case y9 =>
    cases ho
    simp [execOp, go_sem, Act.eval]
  simp only [Act.put, List.setIfInBounds_toArray, List.set_cons_zero, List.set_cons_succ]
  refine hTake (i := 11) (v := .iface y1 u1) (some 26) (by kernel_rfl) (by kernel_rfl) (by kernel_rfl) (by kernel_rfl) (by kernel_rfl) (fun _ _ _ h => h) (fun o ho W hSw => ?y10) (by assumption) ?_
  case y10 =>
    cases ho
    obtain ⟨k0', k1, k2, k3⟩ := hSw
    have k0 := k0' rfl
    simp [execOp, go_sem, Act.eval, k3]
  simp only [Act.put, List.setIfInBounds_toArray, List.set_cons_zero, List.set_cons_succ]
  refine hTake (i := 12) (v := varV st.1) (some 27) (by kernel_rfl) (by kernel_rfl) (by kernel_rfl) (by kernel_rfl) (by kernel_rfl) (fun _ _ _ h => h) (fun o ho W hSw => ?y11) (by assumption) ?_
  case y11 =>
    cases ho
    simp [execOp, go_sem, Act.eval]
  simp only [Act.put, List.setIfInBounds_toArray, List.set_cons_zero, List.set_cons_succ]
  refine hTake (i := 13) (v := varV xb) (some 28) (by kernel_rfl) (by kernel_rfl) (by kernel_rfl) (by kernel_rfl) (by kernel_rfl) (fun _ _ _ h => h) (fun o ho W hSw => ?y12) (by assumption) ?_
  case y12 =>
    cases ho
    simp [execOp, go_sem, Act.eval]
  simp only [Act.put, List.setIfInBounds_toArray, List.set_cons_zero, List.set_cons_succ]
  refine hCallE (i := 7) (f := 58) (args := #[ptrV gb, .iface y0 u0, varV xa, varV st.1]) (some 22) (by kernel_rfl) (by kernel_rfl) (by kernel_rfl) (fun o ho => ?c13) HC1 ?k13 (fun ch w' hh => by obtain ⟨_, h, _⟩ := hh; cases h) (fun w' hh => by obtain ⟨_, h, _⟩ := hh; cases h)
  case c13 =>
    cases ho
    simp [execOp, go_sem, Act.eval]
  case k13 =>
    rintro q1 w1 ⟨z1, hz1, hfo1, hm1, hfr1⟩
    obtain rfl := Ending.returned.inj hz1
    obtain ⟨ty1, tx1, rfl⟩ := foC_if hfo1
    have HC2 := HP2.out w1 hm1
    have hS1 : SRu true sn S gp gb g (.iface y0 u0) (.iface y1 u1) w1 := SRu.move (x0 := 0) HSd HMd.out hfr1
    have HFO1 : Hid (FoC w1 r1.1.fo [.iface ty1 tx1]) := hfo1
    have HM1 : Hid (GMi w0 gp gb nb a a2 r1.2 w1) := hm1
    have HF1 : Hid (GFr gb nb w w1) := HFd.out.trans hfr1
    clear hz1 hfo1 hm1 hfr1 HC1 HP2 HP1
    refine ⟨hS1, ?_⟩
    simp only [Act.put, List.setIfInBounds_toArray, List.set_cons_zero, List.set_cons_succ]
    refine hCallE (i := 14) (f := 58) (args := #[ptrV gb, .iface y1 u1, varV st.1, varV xb]) (some 29) (by kernel_rfl) (by kernel_rfl) (by kernel_rfl) (fun o ho => ?c14) HC2 ?k14 (fun ch w' hh => by obtain ⟨_, h, _⟩ := hh; cases h) (fun w' hh => by obtain ⟨_, h, _⟩ := hh; cases h)
    case c14 =>
      cases ho
      simp [execOp, go_sem, Act.eval]
    case k14 =>
      rintro q2 w2 ⟨z2, hz2, hfo2, hm2, hfr2⟩
      obtain rfl := Ending.returned.inj hz2
      obtain ⟨ty2, tx2, rfl⟩ := foC_if hfo2
      have hS2 : SRu true sn S gp gb g (.iface y0 u0) (.iface y1 u1) w2 := SRu.move (x0 := 0) hS1 HM1.out hfr2
      have HC3 := HEND.out w2 _ _ (HM1.out.tree hfr2 HFO1.out) hfo2 hm2
      have HF2 : Hid (GFr gb nb w w2) := HF1.out.trans hfr2
      have HM2 : Hid (GMi w0 gp gb nb a a2 r2.2 w2) := hm2
      have hbA : Below w2.heap.size w2 (w2.alloc (.cells #[.iface ty1 tx1, .iface ty2 tx2] 49)) := below_new _ _
      obtain ⟨W3, e3⟩ : ∃ W3, W3 = w2.alloc (.cells #[.iface ty1 tx1, .iface ty2 tx2] 49) := ⟨_, rfl⟩
      rw [← e3] at HC3 hbA
      have hS3 : SRu true sn S gp gb g (.iface y0 u0) (.iface y1 u1) W3 := SRu.move (x0 := 0) hS2 hm2 (GFr.of gb nb hbA)
      have HE3 : Hid (w2.alloc (.cells #[.iface ty1 tx1, .iface ty2 tx2] 49) = W3) := e3.symm
      have HB3 : Hid (Below w2.heap.size w2 W3) := hbA
      clear hz2 hfo2 hm2 hfr2 HC2 HEND hbA e3
      refine ⟨hS2, ?_⟩
      simp only [Act.put, List.setIfInBounds_toArray, List.set_cons_zero, List.set_cons_succ]
      refine hStep (i := 15) (v := .slice (some ⟨w2.heap.size, 0, none⟩) 2 2) (w' := W3) (some 30) (by kernel_rfl) (by kernel_rfl) (by kernel_rfl) (fun o ho => ?y15) hS3 ?_
      case y15 =>
        cases ho
        simp [execOp, go_sem, Act.eval]
        exact HE3.out
      simp only [Act.put, List.setIfInBounds_toArray, List.set_cons_zero, List.set_cons_succ]
      refine hCallE (i := 16) (f := 57) (args := #[.string S, .slice (some ⟨w2.heap.size, 0, none⟩) 2 2]) (some 31) (by kernel_rfl) (by kernel_rfl) (by kernel_rfl) (fun o ho => ?c16) HC3 ?k16 (fun ch w' hh => by obtain ⟨⟨_, h, _⟩, _⟩ := hh; cases h) (fun w' hh => by obtain ⟨⟨_, h, _⟩, _⟩ := hh; cases h)
      case c16 =>
        cases ho
        simp [execOp, go_sem, Act.eval]
      case k16 =>
        rintro q4 w4 ⟨h4, hb4⟩
        have HG : Hid (GOutI w0 gp gb nb a a2 w (cmpT nm [r1.1, r2.1], r2.2) (.returned q4) w4) := h4.from HF2.out
        have hS4 : SRu true sn S gp gb g (.iface y0 u0) (.iface y1 u1) w4 := SRu.move (x0 := 0) hS2 HM2.out (GFr.of gb nb hb4)
        clear h4 hb4 HC3
        refine ⟨hS4, ?_⟩
        simp only [Act.put, List.setIfInBounds_toArray, List.set_cons_zero, List.set_cons_succ]
        refine hTake (i := 17) (v := q4) (some 8) (by kernel_rfl) (by kernel_rfl) (by kernel_rfl) (by kernel_rfl) (by kernel_rfl) (fun _ _ _ h => h) (fun o ho W hSw => ?y17) (by assumption) ?_
        case y17 =>
          cases ho
          simp [execOp, go_sem, Act.eval]
        simp only [Act.put, List.setIfInBounds_toArray, List.set_cons_zero, List.set_cons_succ]
        refine wpAnyH_done (by kernel_rfl) ?_ _
        change Exit.then _ _ _ _ w4
        go_wp2_with fail
        go_ret
        exact HG.out
set_option maxRecDepth 100000 in
set_option maxHeartbeats 4000000 in
theorem ruleOr_any {w0 : World} {gp gb nb : Nat} {a a2 : Addr} {f : Nat} (hPh : PhI w0 gp gb nb a a2 f) {st : GSt} {w : World} (h : GMi w0 gp gb nb a a2 st w) (nm : List Int) (S : ByteArray) (hS : strOfNums nm = S) (sn g Bt : Nat) (t0 t1 : Tr) (y0 y1 : TypeId) (u0 u1 : Value) (xa xb : Int)
    (hok0 : t0.fo.ok) (hok1 : t1.fo.ok) (hl0 : (itC t0).length ≤ f) (hl1 : (itC t1).length ≤ f) (hl : (itC t0).length + (itC t1).length + 1 ≤ 2000) (hf0 : FoIn w0 Bt t0.fo [.iface y0 u0]) (hf1 : FoIn w0 Bt t1.fo [.iface y1 u1]) (ha : 0 ≤ xa ∧ xa ≤ 1100000) (hb : 0 ≤ xb ∧ xb ≤ 1100000) (hst : st.1 + (itC t0).length + (itC t1).length + 1 ≤ 1100000)
    (hSR : SRu false sn S gp gb g (.iface y0 u0) (.iface y1 u1) w) (hSc : S = ⟨#[59]⟩) :
    Calls Tryz.prog 59 #[.slice (some ⟨g, 0, none⟩) 2 2, varV xa, varV xb, ptrV gp] w (GOutI w0 gp gb nb a a2 w (cmpT nm [(gPh failT f t0 xa xb st).1, (gPh failT f t1 xa xb (gPh failT f t0 xa xb st).2).1], (gPh failT f t1 xa xb (gPh failT f t0 xa xb st).2).2)) := by
  have hr := h.rng
  have hgo := gPh_ok failT_ok f t0 xa xb st hok0 hl0 ha hb hr.1 (by omega)
  have hnx : 0 ≤ (gPh failT f t0 xa xb st).2.1 ∧ (gPh failT f t0 xa xb st).2.1 + (itC t1).length ≤ 1100000 := by
    have h1 := hgo.up
    have h2 := hgo.few
    try simp only at h1 h2
    omega
  have HP1 : Hid (∀ W, GMi w0 gp gb nb a a2 st W → Calls Tryz.prog 58 #[ptrV gb, .iface y0 u0, varV xa, varV xb] W (GOutI w0 gp gb nb a a2 W (gPh failT f t0 xa xb st))) := fun W hW => hPh t0 (.iface y0 u0) Bt xa xb st W hok0 hl0 (by omega) hf0 ha hb (by omega) hW
  have HP2 : Hid (∀ W, GMi w0 gp gb nb a a2 (gPh failT f t0 xa xb st).2 W → Calls Tryz.prog 58 #[ptrV gb, .iface y1 u1, varV xa, varV xb] W (GOutI w0 gp gb nb a a2 W (gPh failT f t1 xa xb (gPh failT f t0 xa xb st).2))) := fun W hW => hPh t1 (.iface y1 u1) Bt xa xb _ W hok1 hl1 (by omega) hf1 ha hb hnx.2 hW
  obtain ⟨r1, e1⟩ : ∃ r1, r1 = gPh failT f t0 xa xb st := ⟨_, rfl⟩
  rw [← e1] at HP1 HP2 ⊢
  obtain ⟨r2, e2⟩ : ∃ r2, r2 = gPh failT f t1 xa xb r1.2 := ⟨_, rfl⟩
  rw [← e2] at HP2 ⊢
  have HM : Hid (GMi w0 gp gb nb a a2 st w) := h
  have HEND : Hid (∀ W u1 u2, FoC W r1.1.fo [u1] → FoC W r2.1.fo [u2] → GMi w0 gp gb nb a a2 r2.2 W → Calls Tryz.prog 57 #[.string S, .slice (some ⟨W.heap.size, 0, none⟩) 2 2] (W.alloc (.cells #[u1, u2] 49)) (fun e w' => GOutI w0 gp gb nb a a2 W (cmpT nm [r1.1, r2.1], r2.2) e w' ∧ Below W.heap.size W w')) := fun W z1 z2 h1 h2 hW => by
    refine (call2_any nm S hS r1.1 r2.1 z1 z2 W h1 h2).mono ?_
    intro e w' he
    exact ⟨GOutI.tree hW he, by obtain ⟨_, _, _, hb⟩ := he; exact hb⟩
  have s0 := hSR.1
  have s1 := hSR.2.1
  have s2 := hSR.2.2.1
  have s3 := hSR.2.2.2
  have HSR : Hid (SRu false sn S gp gb g (.iface y0 u0) (.iface y1 u1) w) := hSR
  subst hSc
  clear hPh h hgo hnx hok0 hok1 hl0 hl1 hl hf0 hf1 ha hb hst hSR e1 e2 hS
  go_enter Tryz.func59, Tryz.ntmps59
  go_wp2_with fail
  have HSv : Hid (SRu false sn ⟨#[59]⟩ gp gb g (.iface y0 u0) (.iface y1 u1) w) := HSR.out
  have HMv : Hid (GMi w0 gp gb nb a a2 st w) := HM.out
  have HFv : Hid (GFr gb nb w w) := GFr.refl gb nb w
  obtain ⟨Wd, eD⟩ : ∃ Wd, Wd = World.drew w := ⟨_, rfl⟩
  have HSd : SRu false sn ⟨#[59]⟩ gp gb g (.iface y0 u0) (.iface y1 u1) Wd := by rw [eD]; exact HSv.out.drew
  have HMd : Hid (GMi w0 gp gb nb a a2 st Wd) := by rw [eD]; exact HMv.out.drew
  have HFd : Hid (GFr gb nb w Wd) := by rw [eD]; exact HFv.out.trans (GFr.drew gb nb _)
  have HC1 := HP1.out Wd HMd.out
  have HDe : Hid (World.drew w = Wd) := eD.symm
  refine wp_region_held_drew (S := SRu false sn ⟨#[59]⟩ gp gb g (.iface y0 u0) (.iface y1 u1)) (by kernel_rfl) ?_ (fun hHeld => ?_)
  · rw [HDe.out]; exact HSd
  rw [HDe.out]
  clear eD
  refine hTake (i := 0) (v := ptrV gb) (some 8) (by kernel_rfl) (by kernel_rfl) (by kernel_rfl) (by kernel_rfl) (by kernel_rfl) (fun _ _ _ h => h) (fun o ho W hSw => ?y0) (by assumption) ?_
  case y0 =>
    cases ho
    obtain ⟨k0', k1, k2, k3⟩ := hSw
    simp [execOp, go_sem, Act.eval, k1]
  simp only [Act.put, List.setIfInBounds_toArray, List.set_cons_zero, List.set_cons_succ]
  refine hTake (i := 1) (v := .slice (some ⟨g, 0, none⟩) 2 2) (some 9) (by kernel_rfl) (by kernel_rfl) (by kernel_rfl) (by kernel_rfl) (by kernel_rfl) (fun _ _ _ h => h) (fun o ho W hSw => ?y1) (by assumption) ?_
  case y1 =>
    cases ho
    simp [execOp, go_sem, Act.eval]
  simp only [Act.put, List.setIfInBounds_toArray, List.set_cons_zero, List.set_cons_succ]
  refine hTake (i := 2) (v := .pointer (some ⟨g, 0, none⟩)) (some 10) (by kernel_rfl) (by kernel_rfl) (by kernel_rfl) (by kernel_rfl) (by kernel_rfl) (fun _ _ _ h => h) (fun o ho W hSw => ?y2) (by assumption) ?_
  case y2 =>
    cases ho
    simp [execOp, go_sem, Act.eval]
  simp only [Act.put, List.setIfInBounds_toArray, List.set_cons_zero, List.set_cons_succ]
  refine hTake (i := 3) (v := .iface y0 u0) (some 11) (by kernel_rfl) (by kernel_rfl) (by kernel_rfl) (by kernel_rfl) (by kernel_rfl) (fun _ _ _ h => h) (fun o ho W hSw => ?y3) (by assumption) ?_
  case y3 =>
    cases ho
    obtain ⟨k0', k1, k2, k3⟩ := hSw
    simp [execOp, go_sem, Act.eval, k2]
  simp only [Act.put, List.setIfInBounds_toArray, List.set_cons_zero, List.set_cons_succ]
  refine hTake (i := 4) (v := varV xa) (some 12) (by kernel_rfl) (by kernel_rfl) (by kernel_rfl) (by kernel_rfl) (by kernel_rfl) (fun _ _ _ h => h) (fun o ho W hSw => ?y4) (by assumption) ?_
  case y4 =>
    cases ho
    simp [execOp, go_sem, Act.eval]
  simp only [Act.put, List.setIfInBounds_toArray, List.set_cons_zero, List.set_cons_succ]
  refine hTake (i := 5) (v := varV xb) (some 13) (by kernel_rfl) (by kernel_rfl) (by kernel_rfl) (by kernel_rfl) (by kernel_rfl) (fun _ _ _ h => h) (fun o ho W hSw => ?y5) (by assumption) ?_
  case y5 =>
    cases ho
    simp [execOp, go_sem, Act.eval]
  simp only [Act.put, List.setIfInBounds_toArray, List.set_cons_zero, List.set_cons_succ]
  refine hTake (i := 7) (v := ptrV gb) (some 15) (by kernel_rfl) (by kernel_rfl) (by kernel_rfl) (by kernel_rfl) (by kernel_rfl) (fun _ _ _ h => h) (fun o ho W hSw => ?y6) (by assumption) ?_
  case y6 =>
    cases ho
    obtain ⟨k0', k1, k2, k3⟩ := hSw
    simp [execOp, go_sem, Act.eval, k1]
  simp only [Act.put, List.setIfInBounds_toArray, List.set_cons_zero, List.set_cons_succ]
  refine hTake (i := 8) (v := .slice (some ⟨g, 0, none⟩) 2 2) (some 16) (by kernel_rfl) (by kernel_rfl) (by kernel_rfl) (by kernel_rfl) (by kernel_rfl) (fun _ _ _ h => h) (fun o ho W hSw => ?y7) (by assumption) ?_
  case y7 =>
    cases ho
    simp [execOp, go_sem, Act.eval]
  simp only [Act.put, List.setIfInBounds_toArray, List.set_cons_zero, List.set_cons_succ]
  refine hTake (i := 9) (v := .pointer (some ⟨g, 1, none⟩)) (some 17) (by kernel_rfl) (by kernel_rfl) (by kernel_rfl) (by kernel_rfl) (by kernel_rfl) (fun _ _ _ h => h) (fun o ho W hSw => ?y8) (by assumption) ?_
  case y8 =>
    cases ho
    simp [execOp, go_sem, Act.eval]
  simp only [Act.put, List.setIfInBounds_toArray, List.set_cons_zero, List.set_cons_succ]
  refine hTake (i := 10) (v := .iface y1 u1) (some 18) (by kernel_rfl) (by kernel_rfl) (by kernel_rfl) (by kernel_rfl) (by kernel_rfl) (fun _ _ _ h => h) (fun o ho W hSw => ?y9) (by assumption) ?_
  case y9 =>
    cases ho
    obtain ⟨k0', k1, k2, k3⟩ := hSw
    simp [execOp, go_sem, Act.eval, k3]
  simp only [Act.put, List.setIfInBounds_toArray, List.set_cons_zero, List.set_cons_succ]
  refine hTake (i := 11) (v := varV xa) (some 19) (by kernel_rfl) (by kernel_rfl) (by kernel_rfl) (by kernel_rfl) (by kernel_rfl) (fun _ _ _ h => h) (fun o ho W hSw => ?y10) (by assumption) ?_
  case y10 =>
    cases ho
    simp [execOp, go_sem, Act.eval]
  simp only [Act.put, List.setIfInBounds_toArray, List.set_cons_zero, List.set_cons_succ]
  refine hTake (i := 12) (v := varV xb) (some 20) (by kernel_rfl) (by kernel_rfl) (by kernel_rfl) (by kernel_rfl) (by kernel_rfl) (fun _ _ _ h => h) (fun o ho W hSw => ?y11) (by assumption) ?_
  case y11 =>
    cases ho
    simp [execOp, go_sem, Act.eval]
  simp only [Act.put, List.setIfInBounds_toArray, List.set_cons_zero, List.set_cons_succ]
  refine hCallE (i := 6) (f := 58) (args := #[ptrV gb, .iface y0 u0, varV xa, varV xb]) (some 14) (by kernel_rfl) (by kernel_rfl) (by kernel_rfl) (fun o ho => ?c12) HC1 ?k12 (fun ch w' hh => by obtain ⟨_, h, _⟩ := hh; cases h) (fun w' hh => by obtain ⟨_, h, _⟩ := hh; cases h)
  case c12 =>
    cases ho
    simp [execOp, go_sem, Act.eval]
  case k12 =>
    rintro q1 w1 ⟨z1, hz1, hfo1, hm1, hfr1⟩
    obtain rfl := Ending.returned.inj hz1
    obtain ⟨ty1, tx1, rfl⟩ := foC_if hfo1
    have HC2 := HP2.out w1 hm1
    have hS1 : SRu false sn ⟨#[59]⟩ gp gb g (.iface y0 u0) (.iface y1 u1) w1 := SRu.move (x0 := 0) HSd HMd.out hfr1
    have HFO1 : Hid (FoC w1 r1.1.fo [.iface ty1 tx1]) := hfo1
    have HM1 : Hid (GMi w0 gp gb nb a a2 r1.2 w1) := hm1
    have HF1 : Hid (GFr gb nb w w1) := HFd.out.trans hfr1
    clear hz1 hfo1 hm1 hfr1 HC1 HP2 HP1
    refine ⟨hS1, ?_⟩
    simp only [Act.put, List.setIfInBounds_toArray, List.set_cons_zero, List.set_cons_succ]
    refine hCallE (i := 13) (f := 58) (args := #[ptrV gb, .iface y1 u1, varV xa, varV xb]) (some 21) (by kernel_rfl) (by kernel_rfl) (by kernel_rfl) (fun o ho => ?c13) HC2 ?k13 (fun ch w' hh => by obtain ⟨_, h, _⟩ := hh; cases h) (fun w' hh => by obtain ⟨_, h, _⟩ := hh; cases h)
    case c13 =>
      cases ho
      simp [execOp, go_sem, Act.eval]
    case k13 =>
      rintro q2 w2 ⟨z2, hz2, hfo2, hm2, hfr2⟩
      obtain rfl := Ending.returned.inj hz2
      obtain ⟨ty2, tx2, rfl⟩ := foC_if hfo2
      have hS2 : SRu false sn ⟨#[59]⟩ gp gb g (.iface y0 u0) (.iface y1 u1) w2 := SRu.move (x0 := 0) hS1 HM1.out hfr2
      have HC3 := HEND.out w2 _ _ (HM1.out.tree hfr2 HFO1.out) hfo2 hm2
      have HF2 : Hid (GFr gb nb w w2) := HF1.out.trans hfr2
      have HM2 : Hid (GMi w0 gp gb nb a a2 r2.2 w2) := hm2
      have hbA : Below w2.heap.size w2 (w2.alloc (.cells #[.iface ty1 tx1, .iface ty2 tx2] 49)) := below_new _ _
      obtain ⟨W3, e3⟩ : ∃ W3, W3 = w2.alloc (.cells #[.iface ty1 tx1, .iface ty2 tx2] 49) := ⟨_, rfl⟩
      rw [← e3] at HC3 hbA
      have hS3 : SRu false sn ⟨#[59]⟩ gp gb g (.iface y0 u0) (.iface y1 u1) W3 := SRu.move (x0 := 0) hS2 hm2 (GFr.of gb nb hbA)
      have HE3 : Hid (w2.alloc (.cells #[.iface ty1 tx1, .iface ty2 tx2] 49) = W3) := e3.symm
      have HB3 : Hid (Below w2.heap.size w2 W3) := hbA
      clear hz2 hfo2 hm2 hfr2 HC2 HEND hbA e3
      refine ⟨hS2, ?_⟩
      simp only [Act.put, List.setIfInBounds_toArray, List.set_cons_zero, List.set_cons_succ]
      refine hStep (i := 14) (v := .slice (some ⟨w2.heap.size, 0, none⟩) 2 2) (w' := W3) (some 22) (by kernel_rfl) (by kernel_rfl) (by kernel_rfl) (fun o ho => ?y14) hS3 ?_
      case y14 =>
        cases ho
        simp [execOp, go_sem, Act.eval]
        exact HE3.out
      simp only [Act.put, List.setIfInBounds_toArray, List.set_cons_zero, List.set_cons_succ]
      refine hCallE (i := 15) (f := 57) (args := #[.string ⟨#[59]⟩, .slice (some ⟨w2.heap.size, 0, none⟩) 2 2]) (some 23) (by kernel_rfl) (by kernel_rfl) (by kernel_rfl) (fun o ho => ?c15) HC3 ?k15 (fun ch w' hh => by obtain ⟨⟨_, h, _⟩, _⟩ := hh; cases h) (fun w' hh => by obtain ⟨⟨_, h, _⟩, _⟩ := hh; cases h)
      case c15 =>
        cases ho
        simp [execOp, go_sem, Act.eval]
      case k15 =>
        rintro q4 w4 ⟨h4, hb4⟩
        have HG : Hid (GOutI w0 gp gb nb a a2 w (cmpT nm [r1.1, r2.1], r2.2) (.returned q4) w4) := h4.from HF2.out
        have hS4 : SRu false sn ⟨#[59]⟩ gp gb g (.iface y0 u0) (.iface y1 u1) w4 := SRu.move (x0 := 0) hS2 HM2.out (GFr.of gb nb hb4)
        clear h4 hb4 HC3
        refine ⟨hS4, ?_⟩
        simp only [Act.put, List.setIfInBounds_toArray, List.set_cons_zero, List.set_cons_succ]
        refine hTake (i := 16) (v := q4) (some 7) (by kernel_rfl) (by kernel_rfl) (by kernel_rfl) (by kernel_rfl) (by kernel_rfl) (fun _ _ _ h => h) (fun o ho W hSw => ?y16) (by assumption) ?_
        case y16 =>
          cases ho
          simp [execOp, go_sem, Act.eval]
        simp only [Act.put, List.setIfInBounds_toArray, List.set_cons_zero, List.set_cons_succ]
        refine wpAnyH_done (by kernel_rfl) ?_ _
        change Exit.then _ _ _ _ w4
        go_wp2_with fail
        go_ret
        exact HG.out
end Go.Proofs.YtbnmmcegjlmdmaaGreatDoor

