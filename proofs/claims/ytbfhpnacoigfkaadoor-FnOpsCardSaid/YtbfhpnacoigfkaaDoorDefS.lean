/- DefaultOps of the specification. Own work of the verifier. -/
import Derived.Test.YtbfhpnacoigfkaaDoorDefP
import Derived.Test.YtbfhpnacoigfkaaDoorOpsS2
import Derived.Test.YtbfhpnacoigfkaaDoorRegK2
namespace Go.Proofs.YtbfhpnacoigfkaaDoor
open Go Go.RowKit
set_option linter.unusedVariables false

theorem cell_lit (w : World) (vs : List Value) (t : TypeId) (i : Nat) (h : i < vs.length) : (w.alloc (.cells vs.toArray t)).cell? ⟨w.heap.size, i, none⟩ = some vs[i] := by
  rw [World.cell?_alloc_new]
  simp [h]
def namesV : List Value := dRows.map (fun r => strV r.2.2)
def prisV : List Value := dRows.map (fun r => .int .i64 r.1)
def typesV : List Value := dRows.map (fun r => .int .i64 r.2.1)
theorem row_get (i : Nat) (h : i < 13) : dRows[i]'(by rw [dRows_len]; exact h) = rowAt i := by
  rw [rowAt, List.getD, List.getElem?_eq_getElem (by rw [dRows_len]; exact h)]; rfl
structure DataIn (w : World) (A : Nat) : Prop where
  name : ∀ i, i < 13 → w.cell? ⟨A, i, none⟩ = some (strV (rowAt i).2.2)
  pri : ∀ i, i < 13 → w.cell? ⟨A + 1, i, none⟩ = some (.int .i64 (rowAt i).1)
  typ : ∀ i, i < 13 → w.cell? ⟨A + 1 + 1, i, none⟩ = some (.int .i64 (rowAt i).2.1)
theorem DataIn.below {w w' : World} {A : Nat} (h : DataIn w A) (hb : Below w.heap.size w w') : DataIn w' A :=
  ⟨fun i hi => (hb.cell (World.block_lt_of_cell? _ _ (h.name i hi))).trans (h.name i hi), fun i hi => (hb.cell (World.block_lt_of_cell? _ _ (h.pri i hi))).trans (h.pri i hi), fun i hi => (hb.cell (World.block_lt_of_cell? _ _ (h.typ i hi))).trans (h.typ i hi)⟩
theorem data_made (w : World) (t1 t2 t3 : TypeId) : DataIn (((w.alloc (.cells namesV.toArray t1)).alloc (.cells prisV.toArray t2)).alloc (.cells typesV.toArray t3)) w.heap.size := by
  have b2 : Below (w.heap.size + 1) (w.alloc (.cells namesV.toArray t1)) (((w.alloc (.cells namesV.toArray t1)).alloc (.cells prisV.toArray t2)).alloc (.cells typesV.toArray t3)) := ((Below.refl _ _).alloc (by simp) _).alloc (by simp) _
  have b3 : Below (w.heap.size + 1 + 1) ((w.alloc (.cells namesV.toArray t1)).alloc (.cells prisV.toArray t2)) (((w.alloc (.cells namesV.toArray t1)).alloc (.cells prisV.toArray t2)).alloc (.cells typesV.toArray t3)) := (Below.refl _ _).alloc (by simp) _
  refine ⟨fun i hi => ?_, fun i hi => ?_, fun i hi => ?_⟩
  · rw [b2.cell (p := ⟨w.heap.size, i, none⟩) (by simp), cell_lit w namesV t1 i (by rw [namesV, List.length_map, dRows_len]; exact hi)]
    simp only [namesV, List.getElem_map, row_get i hi]
  · have h := cell_lit (w.alloc (.cells namesV.toArray t1)) prisV t2 i (by rw [prisV, List.length_map, dRows_len]; exact hi)
    rw [World.size_alloc] at h
    rw [b3.cell (p := ⟨w.heap.size + 1, i, none⟩) (by simp), h]
    simp only [prisV, List.getElem_map, row_get i hi]
  · have h := cell_lit ((w.alloc (.cells namesV.toArray t1)).alloc (.cells prisV.toArray t2)) typesV t3 i (by rw [typesV, List.length_map, dRows_len]; exact hi)
    rw [World.size_alloc, World.size_alloc] at h
    rw [h]
    simp only [typesV, List.getElem_map, row_get i hi]

def DefEnd (w : World) (e : Ending) (w' : World) : Prop := ∃ p n c, e = .returned (.slice p n c) ∧ n = dTab.length ∧ OIn w' p dTab ∧ Below w.heap.size w w'

set_option maxRecDepth 100000 in
set_option maxHeartbeats 4000000 in
theorem specDef_any (w : World) : Calls Tryd.prog 5 #[] w (DefEnd w) := by
  obtain ⟨wA, eA⟩ : ∃ wA, wA = (((w.alloc (.cells namesV.toArray 9)).alloc (.cells prisV.toArray 3)).alloc (.cells typesV.toArray 3)) := ⟨_, rfl⟩
  have hD : DataIn wA w.heap.size := by rw [eA]; exact data_made w _ _ _
  have hbA : Below w.heap.size w wA := by rw [eA]; exact (((Below.refl _ _).alloc (Nat.le_refl _) _).alloc (by simp) _).alloc (by simp; omega) _
  have HD : Hid (DataIn wA w.heap.size) := hD
  have HBA : Hid (Below w.heap.size w wA) := hbA
  clear hD hbA
  go_enter Tryd.func5, Tryd.ntmps5
  go_wp2_with fail
  have eA' : wA = (((w.alloc (Obj.cells #[.string ⟨#[58, 45, 32, 45, 45, 62]⟩, .string ⟨#[58, 45, 32, 63, 45]⟩, .string ⟨#[100, 121, 110, 97, 109, 105, 99]⟩, .string ⟨#[59]⟩, .string ⟨#[45, 62]⟩, .string ⟨#[44]⟩, .string ⟨#[92, 43]⟩, .string ⟨#[61, 32, 92, 61, 32, 61, 61, 32, 92, 61, 61, 32, 64, 60, 32, 64, 61, 60, 32, 64, 62, 32, 64, 62, 61, 32, 61, 46, 46, 32, 105, 115, 32, 61, 58, 61, 32, 61, 92, 61, 32, 60, 32, 61, 60, 32, 62, 32, 62, 61]⟩, .string ⟨#[43, 32, 45, 32, 47, 92, 32, 92, 47, 32, 120, 111, 114]⟩, .string ⟨#[42, 32, 47, 32, 47, 47, 32, 109, 111, 100, 32, 114, 101, 109, 32, 60, 60, 32, 62, 62]⟩, .string ⟨#[42, 42]⟩, .string ⟨#[94]⟩, .string ⟨#[45, 32, 43, 32, 92]⟩] 9)).alloc (Obj.cells #[.int .i64 1200, .int .i64 1200, .int .i64 1150, .int .i64 1100, .int .i64 1050, .int .i64 1000, .int .i64 900, .int .i64 700, .int .i64 500, .int .i64 400, .int .i64 200, .int .i64 200, .int .i64 200] 3)).alloc (Obj.cells #[.int .i64 0, .int .i64 4, .int .i64 4, .int .i64 1, .int .i64 1, .int .i64 1, .int .i64 3, .int .i64 0, .int .i64 2, .int .i64 2, .int .i64 0, .int .i64 1, .int .i64 3] 3)) := by rw [eA]; rfl
  rw [← eA']
  clear eA eA'
  go_loopw [4, 5] (fun s i wr => ∃ (k n c : Nat) (p : Option Addr) (D : List Cel), k ≤ 13 ∧ n ≤ 60 ∧ s = .slice p n c ∧ i = .int .i64 k ∧ Hid (D ++ restO k = dOps) ∧ Hid (n = (D.foldl putO []).length) ∧ Hid (OIn wr p (D.foldl putO [])) ∧ Hid (Below wA.heap.size wA wr)) (fun _ i _ => 13 - (intOf i).toNat)
  case atStart => exact ⟨0, 0, 0, none, [], by omega, by omega, rfl, rfl, rfl, rfl, fun h => absurd h (Nat.lt_irrefl 0), Below.refl _ _⟩
  case round =>
    obtain ⟨k, n, c, p, D, hk, hn, rfl, rfl, HQ, HN, HO, HB⟩ := hrel
    by_cases hlt : k < 13
    · obtain ⟨hw1, hw2, _⟩ := wordsLen hlt
      have hdw := HD.out.below HB.out
      have d0 := hdw.name k hlt
      have d1 := hdw.pri k hlt
      have d2 := hdw.typ k hlt
      have HRA : Hid _ := restO_at hlt
      have HOR : Hid (opsRow (rowAt k) = (wd [] (rowAt k).2.2).map (fun x => ((rowAt k).1, (rowAt k).2.1, numsU x))) := rfl
      obtain ⟨r, er⟩ : ∃ r, r = rowAt k := ⟨_, rfl⟩
      rw [← er] at d0 d1 d2 hw1 HRA HOR
      obtain ⟨r0, r1, r2⟩ := r
      simp only [strV] at d0 d1 d2 hw1 HOR
      have HW := l3words_any r2 wr (by omega)
      have hwl : (wd [] r2).length ≤ 60 := by
        have h1 := congrArg List.length HQ.out
        rw [HRA.out, HOR.out] at h1
        simp only [List.length_append, List.length_map] at h1
        have := dOps_len
        omega
      obtain ⟨sr, esr⟩ : ∃ s, s = bOf r2 := ⟨_, rfl⟩
      rw [← esr] at d0 HW
      have HER : Hid ((r0, r1, r2) = rowAt k) := er
      clear er hw2 hdw esr
      go_wp2_with fail
      refine HW.mono ?_
      rintro e w2 ⟨pw, nw, cw, rfl, hnw, hrow2, hb2⟩
      have HB2 : Hid (Below wA.heap.size wA w2) := Below.on HB.out hb2
      have HO2 : Hid (OIn w2 p (D.foldl putO [])) := HO.out.below hb2
      have HRW : Hid (∀ j, j < nw → ∃ gw, pw = some ⟨gw, 0, none⟩ ∧ ∃ x, (wd [] r2)[j]? = some x ∧ w2.cell? ⟨gw, j, none⟩ = some (.string (bOf x))) := fun j hj => by
        obtain ⟨gw, cap, hv, _⟩ := hrow2.form (by omega)
        simp only [Value.slice.injEq] at hv
        have hj' : j < (wd [] r2).length := by omega
        refine ⟨gw, hv.1, (wd [] r2)[j], List.getElem?_eq_getElem hj', ?_⟩
        have h9 := hrow2
        rw [hv.1] at h9
        rw [h9.cellAt j (by omega)]
        simp [hj', strV]
      have hnw60 : nw ≤ 60 := by omega
      have HNW : Hid (nw = (wd [] r2).length) := hnw
      have HQ2 : Hid (D ++ ((wd [] r2).map (fun x => (r0, r1, numsU x)) ++ restO (k + 1)) = dOps) := by show _ = _; rw [← HOR.out, ← HRA.out]; exact HQ.out
      clear hrow2 hb2 hnw HW hwl
      go_wp2_with fail
      go_loopw [4, 7] (fun s j wv => ∃ (i n c : Nat) (p : Option Addr) (D : List Cel), i ≤ nw ∧ n ≤ 60 ∧ s = .slice p n c ∧ j = .int .i64 i ∧ Hid (D ++ (((wd [] r2).drop i).map (fun x => (r0, r1, numsU x)) ++ restO (k + 1)) = dOps) ∧ Hid (n = (D.foldl putO []).length) ∧ Hid (OIn wv p (D.foldl putO [])) ∧ Hid (Below w2.heap.size w2 wv)) (fun _ j _ => nw - (intOf j).toNat)
      case atStart => exact ⟨0, n, c, p, D, by omega, hn, rfl, rfl, HQ2, HN, HO2, Below.refl _ _⟩
      case round =>
        obtain ⟨i, n5, c5, p5, D5, hi5, hn5, rfl, rfl, HQ5, HN5, HO5, HB5⟩ := hrel
        by_cases hlt5 : i < nw
        · obtain ⟨gw, rfl, x, hx, hcx⟩ := HRW.out i hlt5
          have hdw5 := (HD.out.below HB2.out).below HB5.out
          have f0 := (HB5.out.cell (World.block_lt_of_cell? _ _ hcx)).trans hcx
          have g1 := hdw5.pri k hlt
          have g2 := hdw5.typ k hlt
          rw [← HER.out] at g1 g2
          simp only at g1 g2
          obtain ⟨w4, cp, hcv, hb4, hot⟩ := conv_bytes wr.drew (numsU x) (byte_numsU x) 9 Tryd.underlying9
          rw [strOf_numsU] at hcv
          obtain ⟨sx, esx⟩ : ∃ s, s = bOf x := ⟨_, rfl⟩
          rw [← esx] at hcv f0
          have hxl : x ∈ wd [] r2 := List.mem_of_getElem? hx
          obtain ⟨lx, elx⟩ : ∃ l, l = (numsU x).length := ⟨_, rfl⟩
          rw [← elx] at hcv hot
          obtain ⟨gt, egt⟩ : ∃ g, g = wr.drew.heap.size := ⟨_, rfl⟩
          rw [← egt] at hcv hot
          have hb4' : Below wr.heap.size wr w4 := (Below.refl _ wr).drew.trans hb4
          have kk0 : wr.cell? ⟨gw, i, none⟩ = some (.string sx) ∧ wr.cell? ⟨w.heap.size + 1, k, none⟩ = some (.int .i64 r0) ∧ wr.cell? ⟨w.heap.size + 1 + 1, k, none⟩ = some (.int .i64 r1) := ⟨f0, g1, g2⟩
          have kk4 : w4.cell? ⟨gw, i, none⟩ = some (.string sx) ∧ w4.cell? ⟨w.heap.size + 1, k, none⟩ = some (.int .i64 r0) ∧ w4.cell? ⟨w.heap.size + 1 + 1, k, none⟩ = some (.int .i64 r1) := ⟨(hb4'.cell (World.block_lt_of_cell? _ _ kk0.1)).trans kk0.1, (hb4'.cell (World.block_lt_of_cell? _ _ kk0.2.1)).trans kk0.2.1, (hb4'.cell (World.block_lt_of_cell? _ _ kk0.2.2)).trans kk0.2.2⟩
          have HLP := l3put_any p5 c5 n5 (D5.foldl putO []) r0 r1 (some ⟨gt, 0, none⟩) lx cp (numsU x) w4 HN5.out elx (by omega) (HO5.out.below hb4') hot.bin
          have HB4 : Hid (Below w2.heap.size w2 w4) := Below.on HB5.out hb4'
          have HQ6 : Hid ((D5 ++ [(r0, r1, numsU x)]) ++ (((wd [] r2).drop (i + 1)).map (fun x => (r0, r1, numsU x)) ++ restO (k + 1)) = dOps) := by
            show _ = _
            have hi' : i < (wd [] r2).length := (List.getElem?_eq_some_iff.1 hx).1
            have hxe : (wd [] r2)[i] = x := (List.getElem?_eq_some_iff.1 hx).2
            rw [← HQ5.out, List.drop_eq_getElem_cons hi', hxe]
            simp
          have HFD : Hid ((D5 ++ [(r0, r1, numsU x)]).foldl putO [] = putO (D5.foldl putO []) (r0, r1, numsU x)) := by show _ = _; rw [List.foldl_append]; rfl
          have hn60 : (putO (D5.foldl putO []) (r0, r1, numsU x)).length ≤ 60 := by
            rw [← HFD.out]
            have h1 := fold_len (D5 ++ [(r0, r1, numsU x)]) []
            have h2 := congrArg List.length HQ6.out
            simp only [List.length_append, List.length_nil] at h1 h2
            have := dOps_len
            omega
          have HN60 : Hid ((putO (D5.foldl putO []) (r0, r1, numsU x)).length ≤ 60) := hn60
          have hi0 : (0 : Int) ≤ (i : Int) := by omega
          have hi1 : (i : Int) < (nw : Int) := by omega
          have hk0 : (0 : Int) ≤ (k : Int) := by omega
          have hk1 : (k : Int) < 13 := by omega
          clear hdw5 hcx f0 g1 g2 hot elx egt esx hxl hb4 hx hn60 d0 d1 d2
          go_wp2_with fail
          refine wp_region_held_drew (S := fun W => W.cell? ⟨gw, i, none⟩ = some (.string sx) ∧ W.cell? ⟨w.heap.size + 1, k, none⟩ = some (.int .i64 r0) ∧ W.cell? ⟨w.heap.size + 1 + 1, k, none⟩ = some (.int .i64 r1)) (by kernel_rfl) ?_ (fun hHeld => ?_)
          · exact kk0
          refine hTake (i := 0) (v := .slice p5 n5 c5) (some 28) (by kernel_rfl) (by kernel_rfl) (by kernel_rfl) (by kernel_rfl) (by kernel_rfl) (fun _ _ _ h => h) (fun o ho W hSw => ?y0) (by assumption) ?_
          case y0 =>
            cases ho
            simp [execOp, go_sem, Act.eval]
          simp only [Act.put, List.setIfInBounds_toArray, List.set_cons_zero, List.set_cons_succ]
          refine hTake (i := 1) (v := .slice (some ⟨gw, 0, none⟩) nw cw) (some 29) (by kernel_rfl) (by kernel_rfl) (by kernel_rfl) (by kernel_rfl) (by kernel_rfl) (fun _ _ _ h => h) (fun o ho W hSw => ?y1) (by assumption) ?_
          case y1 =>
            cases ho
            simp [execOp, go_sem, Act.eval]
          simp only [Act.put, List.setIfInBounds_toArray, List.set_cons_zero, List.set_cons_succ]
          refine hTake (i := 2) (v := .int .i64 i) (some 30) (by kernel_rfl) (by kernel_rfl) (by kernel_rfl) (by kernel_rfl) (by kernel_rfl) (fun _ _ _ h => h) (fun o ho W hSw => ?y2) (by assumption) ?_
          case y2 =>
            cases ho
            simp [execOp, go_sem, Act.eval]
          simp only [Act.put, List.setIfInBounds_toArray, List.set_cons_zero, List.set_cons_succ]
          refine hTake (i := 3) (v := .pointer (some ⟨gw, i, none⟩)) (some 31) (by kernel_rfl) (by kernel_rfl) (by kernel_rfl) (by kernel_rfl) (by kernel_rfl) (fun _ _ _ h => h) (fun o ho W hSw => ?y3) (by assumption) ?_
          case y3 =>
            cases ho
            simp [execOp, go_sem, Act.eval, hi0, hi1]
          simp only [Act.put, List.setIfInBounds_toArray, List.set_cons_zero, List.set_cons_succ]
          refine hTake (i := 4) (v := .string sx) (some 32) (by kernel_rfl) (by kernel_rfl) (by kernel_rfl) (by kernel_rfl) (by kernel_rfl) (fun _ _ _ h => h) (fun o ho W hSw => ?y4) (by assumption) ?_
          case y4 =>
            cases ho
            simp [execOp, go_sem, Act.eval, hSw.1]
          simp only [Act.put, List.setIfInBounds_toArray, List.set_cons_zero, List.set_cons_succ]
          refine hTake (i := 6) (v := .slice (some ⟨w.heap.size + 1, 0, none⟩) 13 13) (some 34) (by kernel_rfl) (by kernel_rfl) (by kernel_rfl) (by kernel_rfl) (by kernel_rfl) (fun _ _ _ h => h) (fun o ho W hSw => ?y6) (by assumption) ?_
          case y6 =>
            cases ho
            simp [execOp, go_sem, Act.eval]
          simp only [Act.put, List.setIfInBounds_toArray, List.set_cons_zero, List.set_cons_succ]
          refine hTake (i := 7) (v := .int .i64 k) (some 35) (by kernel_rfl) (by kernel_rfl) (by kernel_rfl) (by kernel_rfl) (by kernel_rfl) (fun _ _ _ h => h) (fun o ho W hSw => ?y7) (by assumption) ?_
          case y7 =>
            cases ho
            simp [execOp, go_sem, Act.eval]
          simp only [Act.put, List.setIfInBounds_toArray, List.set_cons_zero, List.set_cons_succ]
          refine hTake (i := 8) (v := .pointer (some ⟨w.heap.size + 1, k, none⟩)) (some 36) (by kernel_rfl) (by kernel_rfl) (by kernel_rfl) (by kernel_rfl) (by kernel_rfl) (fun _ _ _ h => h) (fun o ho W hSw => ?y8) (by assumption) ?_
          case y8 =>
            cases ho
            simp [execOp, go_sem, Act.eval, hk0, hk1]
          simp only [Act.put, List.setIfInBounds_toArray, List.set_cons_zero, List.set_cons_succ]
          refine hTake (i := 9) (v := .int .i64 r0) (some 37) (by kernel_rfl) (by kernel_rfl) (by kernel_rfl) (by kernel_rfl) (by kernel_rfl) (fun _ _ _ h => h) (fun o ho W hSw => ?y9) (by assumption) ?_
          case y9 =>
            cases ho
            simp [execOp, go_sem, Act.eval, hSw.2.1]
          simp only [Act.put, List.setIfInBounds_toArray, List.set_cons_zero, List.set_cons_succ]
          refine hTake (i := 10) (v := .slice (some ⟨w.heap.size + 1 + 1, 0, none⟩) 13 13) (some 38) (by kernel_rfl) (by kernel_rfl) (by kernel_rfl) (by kernel_rfl) (by kernel_rfl) (fun _ _ _ h => h) (fun o ho W hSw => ?y10) (by assumption) ?_
          case y10 =>
            cases ho
            simp [execOp, go_sem, Act.eval]
          simp only [Act.put, List.setIfInBounds_toArray, List.set_cons_zero, List.set_cons_succ]
          refine hTake (i := 11) (v := .int .i64 k) (some 39) (by kernel_rfl) (by kernel_rfl) (by kernel_rfl) (by kernel_rfl) (by kernel_rfl) (fun _ _ _ h => h) (fun o ho W hSw => ?y11) (by assumption) ?_
          case y11 =>
            cases ho
            simp [execOp, go_sem, Act.eval]
          simp only [Act.put, List.setIfInBounds_toArray, List.set_cons_zero, List.set_cons_succ]
          refine hTake (i := 12) (v := .pointer (some ⟨w.heap.size + 1 + 1, k, none⟩)) (some 40) (by kernel_rfl) (by kernel_rfl) (by kernel_rfl) (by kernel_rfl) (by kernel_rfl) (fun _ _ _ h => h) (fun o ho W hSw => ?y12) (by assumption) ?_
          case y12 =>
            cases ho
            simp [execOp, go_sem, Act.eval, hk0, hk1]
          simp only [Act.put, List.setIfInBounds_toArray, List.set_cons_zero, List.set_cons_succ]
          refine hTake (i := 13) (v := .int .i64 r1) (some 41) (by kernel_rfl) (by kernel_rfl) (by kernel_rfl) (by kernel_rfl) (by kernel_rfl) (fun _ _ _ h => h) (fun o ho W hSw => ?y13) (by assumption) ?_
          case y13 =>
            cases ho
            simp [execOp, go_sem, Act.eval, hSw.2.2]
          simp only [Act.put, List.setIfInBounds_toArray, List.set_cons_zero, List.set_cons_succ]
          refine hStep (i := 5) (v := .slice (some ⟨gt, 0, none⟩) lx cp) (w' := w4) (some 33) (by kernel_rfl) (by kernel_rfl) (by kernel_rfl) (fun o ho => ?y5) kk4 ?_
          case y5 =>
            cases ho
            simp [execOp, go_sem, Act.eval, hcv]
          clear hHeld
          simp only [Act.put, List.setIfInBounds_toArray, List.set_cons_zero, List.set_cons_succ]
          have hHeld := kk4
          refine hTake (i := 14) (v := .agg #[.slice (some ⟨gt, 0, none⟩) lx cp, .int .i64 r0, .int .i64 r1]) (some 42) (by kernel_rfl) (by kernel_rfl) (by kernel_rfl) (by kernel_rfl) (by kernel_rfl) (fun _ _ _ h => h) (fun o ho W hSw => ?y14) (by assumption) ?_
          case y14 =>
            cases ho
            simp [execOp, go_sem, Act.eval]
          simp only [Act.put, List.setIfInBounds_toArray, List.set_cons_zero, List.set_cons_succ]
          refine hCallE (i := 15) (some 43) (by kernel_rfl) (by kernel_rfl) (by kernel_rfl) (fun o ho => ?y15) HLP ?_ (fun ch w' h => by obtain ⟨_, _, _, h, _⟩ := h; cases h) (fun w' h => by obtain ⟨_, _, _, h, _⟩ := h; cases h)
          case y15 =>
            cases ho
            simp [execOp, go_sem, Act.eval]
          rintro u w6 ⟨p6, n6, c6, hu, hn6, ho6, hb6⟩
          cases hu
          have kk6 : w6.cell? ⟨gw, i, none⟩ = some (.string sx) ∧ w6.cell? ⟨w.heap.size + 1, k, none⟩ = some (.int .i64 r0) ∧ w6.cell? ⟨w.heap.size + 1 + 1, k, none⟩ = some (.int .i64 r1) := ⟨(hb6.cell (World.block_lt_of_cell? _ _ kk4.1)).trans kk4.1, (hb6.cell (World.block_lt_of_cell? _ _ kk4.2.1)).trans kk4.2.1, (hb6.cell (World.block_lt_of_cell? _ _ kk4.2.2)).trans kk4.2.2⟩
          refine ⟨kk6, ?_⟩
          clear hHeld
          have hHeld := kk6
          simp only [Act.put, List.setIfInBounds_toArray, List.set_cons_zero, List.set_cons_succ]
          refine hTake (i := 16) (v := .slice p6 n6 c6) (some 4) (by kernel_rfl) (by kernel_rfl) (by kernel_rfl) (by kernel_rfl) (by kernel_rfl) (fun _ _ _ h => h) (fun o ho W hSw => ?y16) (by assumption) ?_
          case y16 =>
            cases ho
            simp [execOp, go_sem, Act.eval]
          simp only [Act.put, List.setIfInBounds_toArray, List.set_cons_zero, List.set_cons_succ]
          refine wpAnyH_done (by kernel_rfl) ?_ _
          have HN6 : Hid (n6 = ((D5 ++ [(r0, r1, numsU x)]).foldl putO []).length) := by rw [HFD.out]; exact hn6
          have HO6 : Hid (OIn w6 p6 ((D5 ++ [(r0, r1, numsU x)]).foldl putO [])) := by rw [HFD.out]; exact ho6
          have HB6 : Hid (Below w2.heap.size w2 w6) := Below.on HB4.out hb6
          have h60 : n6 ≤ 60 := by rw [hn6]; exact HN60.out
          clear hn6 ho6 hb6 kk6 kk4 kk0 hcv
          go_wp2_with fail
          go_roundw
          case rel => exact ⟨i + 1, n6, c6, p6, _, by omega, h60, rfl, by go_num, HQ6, HN6, HO6, HB6⟩
          case measure => simp [intOf]; omega
        · obtain rfl : i = nw := by omega
          have HQ6 : Hid (D5 ++ restO (k + 1) = dOps) := by
            show _ = _
            have h9 := HQ5.out
            rw [HNW.out, List.drop_length] at h9
            simpa using h9
          have HB6 : Hid (Below wA.heap.size wA wr) := Below.on HB2.out HB5.out
          clear d0 d1 d2
          go_wp2_with fail
          go_roundw
          case rel => exact ⟨k + 1, n5, c5, p5, D5, by omega, hn5, rfl, by go_num, HQ6, HN5, HO5, HB6⟩
          case measure => simp [intOf]; omega
    · obtain rfl : k = 13 := by omega
      have hDD : D = dOps := by have h9 := HQ.out; rw [restO_end] at h9; simpa using h9
      have HF : Hid (DefEnd w (.returned (.slice p n c)) wr) := ⟨p, n, c, rfl, by rw [HN.out, hDD]; rfl, by have h9 := HO.out; rw [hDD] at h9; exact h9, Below.on HBA.out HB.out⟩
      clear hDD
      go_wp2_with fail
      go_ret
      exact HF.out

end Go.Proofs.YtbfhpnacoigfkaaDoor
