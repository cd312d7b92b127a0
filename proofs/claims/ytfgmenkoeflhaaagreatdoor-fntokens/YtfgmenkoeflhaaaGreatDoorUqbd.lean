/- Texts of DefS, Dt4, SSO. Own work of the verifier. -/
import Derived.Test.YtfgmenkoeflhaaaGreatDoorUqbc
import Derived.Maps.AppendAt
namespace Go.Proofs.YtfgmenkoeflhaaaGreatDoor
set_option maxRecDepth 100000
open Go Go.RowKit
set_option linter.unusedVariables false
def namesV : List Value := dRows.map (fun r => strV r.2.2)
def prisV : List Value := dRows.map (fun r => .int .i64 r.1)
def typesV : List Value := dRows.map (fun r => .int .i64 r.2.1)
theorem row_get (i : Nat) (h : i < 13) : dRows[i]'(by rw [dRows_len]; exact h) = rowAt i := by
 rw [rowAt, List.getD, List.getElem?_eq_getElem (by rw [dRows_len]; exact h)]; rfl
structure DataIn (w : World) (A : Nat) : Prop where
 name : ∀ i, i < 13 → w.cell? ⟨A, i, none⟩ = some (strV (rowAt i).2.2)
 pri : ∀ i, i < 13 → w.cell? ⟨A + 1, i, none⟩ = some (.int .i64 (rowAt i).1)
 typ : ∀ i, i < 13 → w.cell? ⟨A + 1 + 1, i, none⟩ = some (.int .i64 (rowAt i).2.1)
theorem DataIn.below {w w' : World} {A : Nat} (h : DataIn w A) (hb : Below w.heap.size w w') : DataIn w' A :=
 ⟨fun i hi => (hb.cell (World.block_lt_of_cell? _ _ (h.name i hi))).trans (h.name i hi), fun i hi => (hb.cell (World.block_lt_of_cell? _ _ (h.pri i hi))).trans (h.pri i hi), fun i hi => (hb.cell (World.block_lt_of_cell? _ _ (h.typ i hi))).trans (h.typ i hi)⟩
theorem data_made (w : World) (t1 t2 t3 : TypeId) : DataIn (((w.alloc (.cells namesV.toArray t1)).alloc (.cells prisV.toArray t2)).alloc (.cells typesV.toArray t3)) w.heap.size := by
 have b2 : Below (w.heap.size + 1) (w.alloc (.cells namesV.toArray t1)) (((w.alloc (.cells namesV.toArray t1)).alloc (.cells prisV.toArray t2)).alloc (.cells typesV.toArray t3)) := ((Below.refl _ _).alloc (by simp) _).alloc (by simp) _; have b3 : Below (w.heap.size + 1 + 1) ((w.alloc (.cells namesV.toArray t1)).alloc (.cells prisV.toArray t2)) (((w.alloc (.cells namesV.toArray t1)).alloc (.cells prisV.toArray t2)).alloc (.cells typesV.toArray t3)) := (Below.refl _ _).alloc (by simp) _; refine ⟨fun i hi => ?_, fun i hi => ?_, fun i hi => ?_⟩
 ·rw [b2.cell (p := ⟨w.heap.size, i, none⟩) (by simp), cell_lit w namesV t1 i (by rw [namesV, List.length_map, dRows_len]; exact hi)]
  simp only [namesV, List.getElem_map, row_get i hi]
 ·have h := cell_lit (w.alloc (.cells namesV.toArray t1)) prisV t2 i (by rw [prisV, List.length_map, dRows_len]; exact hi)
  rw [World.size_alloc] at h; rw [b3.cell (p := ⟨w.heap.size + 1, i, none⟩) (by simp), h]; simp only [prisV, List.getElem_map, row_get i hi]
 ·have h := cell_lit ((w.alloc (.cells namesV.toArray t1)).alloc (.cells prisV.toArray t2)) typesV t3 i (by rw [typesV, List.length_map, dRows_len]; exact hi)
  rw [World.size_alloc, World.size_alloc] at h; rw [h]; simp only [typesV, List.getElem_map, row_get i hi]
def DefEnd (w : World) (e : Ending) (w' : World) : Prop := ∃ p n c, e = .returned (.slice p n c) ∧ n = dTab.length ∧ OIn w' p dTab ∧ Below w.heap.size w w'
set_option maxHeartbeats 4000000 in
theorem specDef_any (w : World) : Calls Tryz.prog 29 #[] w (DefEnd w) := by
 obtain ⟨wA, eA⟩ : ∃ wA, wA = (((w.alloc (.cells namesV.toArray 9)).alloc (.cells prisV.toArray 3)).alloc (.cells typesV.toArray 3)) := ⟨_, rfl⟩
 have hD : DataIn wA w.heap.size := by rw [eA]; exact data_made w _ _ _
 have hbA : Below w.heap.size w wA := by rw [eA]; exact (((Below.refl _ _).alloc (Nat.le_refl _) _).alloc (by simp) _).alloc (by simp; omega) _
 have HD : Hid (DataIn wA w.heap.size) := hD; have HBA : Hid (Below w.heap.size w wA) := hbA; clear hD hbA
 go_enter Tryz.func29, Tryz.ntmps29
 go_wp2_with fail
 have eA' : wA = (((w.alloc (Obj.cells #[.string ⟨#[58, 45, 32, 45, 45, 62]⟩, .string ⟨#[58, 45, 32, 63, 45]⟩, .string ⟨#[100, 121, 110, 97, 109, 105, 99]⟩, .string ⟨#[59]⟩, .string ⟨#[45, 62]⟩, .string ⟨#[44]⟩, .string ⟨#[92, 43]⟩, .string ⟨#[61, 32, 92, 61, 32, 61, 61, 32, 92, 61, 61, 32, 64, 60, 32, 64, 61, 60, 32, 64, 62, 32, 64, 62, 61, 32, 61, 46, 46, 32, 105, 115, 32, 61, 58, 61, 32, 61, 92, 61, 32, 60, 32, 61, 60, 32, 62, 32, 62, 61]⟩, .string ⟨#[43, 32, 45, 32, 47, 92, 32, 92, 47, 32, 120, 111, 114]⟩, .string ⟨#[42, 32, 47, 32, 47, 47, 32, 109, 111, 100, 32, 114, 101, 109, 32, 60, 60, 32, 62, 62]⟩, .string ⟨#[42, 42]⟩, .string ⟨#[94]⟩, .string ⟨#[45, 32, 43, 32, 92]⟩] 9)).alloc (Obj.cells #[.int .i64 1200, .int .i64 1200, .int .i64 1150, .int .i64 1100, .int .i64 1050, .int .i64 1000, .int .i64 900, .int .i64 700, .int .i64 500, .int .i64 400, .int .i64 200, .int .i64 200, .int .i64 200] 3)).alloc (Obj.cells #[.int .i64 0, .int .i64 4, .int .i64 4, .int .i64 1, .int .i64 1, .int .i64 1, .int .i64 3, .int .i64 0, .int .i64 2, .int .i64 2, .int .i64 0, .int .i64 1, .int .i64 3] 3)) := by rw [eA]; rfl
 rw [← eA']; clear eA eA'
 go_loopw [4, 5] (fun s i wr => ∃ (k n c : Nat) (p : Option Addr) (D : List Cel), k ≤ 13 ∧ n ≤ 60 ∧ s = .slice p n c ∧ i = .int .i64 k ∧ Hid (D ++ restO k = dOps) ∧ Hid (n = (D.foldl putO []).length) ∧ Hid (OIn wr p (D.foldl putO [])) ∧ Hid (Below wA.heap.size wA wr)) (fun _ i _ => 13 - (intOf i).toNat)
 case atStart => exact ⟨0, 0, 0, none, [], by omega, by omega, rfl, rfl, rfl, rfl, fun h => absurd h (Nat.lt_irrefl 0), Below.refl _ _⟩
 case round =>
  obtain ⟨k, n, c, p, D, hk, hn, rfl, rfl, HQ, HN, HO, HB⟩ := hrel
  by_cases hlt : k < 13
  ·obtain ⟨hw1, hw2, _⟩ := wordsLen hlt
   have hdw := HD.out.below HB.out; have d0 := hdw.name k hlt; have d1 := hdw.pri k hlt; have d2 := hdw.typ k hlt; have HRA : Hid _ := restO_at hlt; have HOR : Hid (opsRow (rowAt k) = (wd [] (rowAt k).2.2).map (fun x => ((rowAt k).1, (rowAt k).2.1, numsU x))) := rfl
   obtain ⟨r, er⟩ : ∃ r, r = rowAt k := ⟨_, rfl⟩
   rw [← er] at d0 d1 d2 hw1 HRA HOR; obtain ⟨r0, r1, r2⟩ := r; simp only [strV] at d0 d1 d2 hw1 HOR; have HW := l3words_any r2 wr (by omega)
   have hwl : (wd [] r2).length ≤ 60 := by
    have h1 := congrArg List.length HQ.out; rw [HRA.out, HOR.out] at h1; simp only [List.length_append, List.length_map] at h1; have := dOps_len
    omega
   obtain ⟨sr, esr⟩ : ∃ s, s = bOf r2 := ⟨_, rfl⟩
   rw [← esr] at d0 HW; have HER : Hid ((r0, r1, r2) = rowAt k) := er; clear er hw2 hdw esr; go_wp2_with fail; refine HW.mono ?_; rintro e w2 ⟨pw, nw, cw, rfl, hnw, hrow2, hb2⟩; have HB2 : Hid (Below wA.heap.size wA w2) := Below.on HB.out hb2; have HO2 : Hid (OIn w2 p (D.foldl putO [])) := HO.out.below hb2
   have HRW : Hid (∀ j, j < nw → ∃ gw, pw = some ⟨gw, 0, none⟩ ∧ ∃ x, (wd [] r2)[j]? = some x ∧ w2.cell? ⟨gw, j, none⟩ = some (.string (bOf x))) := fun j hj => by
    obtain ⟨gw, cap, hv, _⟩ := hrow2.form (by omega); simp only [Value.slice.injEq] at hv
    have hj' : j < (wd [] r2).length := by omega
    refine ⟨gw, hv.1, (wd [] r2)[j], List.getElem?_eq_getElem hj', ?_⟩; have h9 := hrow2; rw [hv.1] at h9; rw [h9.cellAt j (by omega)]
    simp [hj', strV]
   have hnw60 : nw ≤ 60 := by omega
   have HNW : Hid (nw = (wd [] r2).length) := hnw
   have HQ2 : Hid (D ++ ((wd [] r2).map (fun x => (r0, r1, numsU x)) ++ restO (k + 1)) = dOps) := by show _ = _; rw [← HOR.out, ← HRA.out]; exact HQ.out
   clear hrow2 hb2 hnw HW hwl; go_wp2_with fail
   go_loopw [4, 7] (fun s j wv => ∃ (i n c : Nat) (p : Option Addr) (D : List Cel), i ≤ nw ∧ n ≤ 60 ∧ s = .slice p n c ∧ j = .int .i64 i ∧ Hid (D ++ (((wd [] r2).drop i).map (fun x => (r0, r1, numsU x)) ++ restO (k + 1)) = dOps) ∧ Hid (n = (D.foldl putO []).length) ∧ Hid (OIn wv p (D.foldl putO [])) ∧ Hid (Below w2.heap.size w2 wv)) (fun _ j _ => nw - (intOf j).toNat)
   case atStart => exact ⟨0, n, c, p, D, by omega, hn, rfl, rfl, HQ2, HN, HO2, Below.refl _ _⟩
   case round =>
    obtain ⟨i, n5, c5, p5, D5, hi5, hn5, rfl, rfl, HQ5, HN5, HO5, HB5⟩ := hrel
    by_cases hlt5 : i < nw
    ·obtain ⟨gw, rfl, x, hx, hcx⟩ := HRW.out i hlt5
     have hdw5 := (HD.out.below HB2.out).below HB5.out; have f0 := (HB5.out.cell (World.block_lt_of_cell? _ _ hcx)).trans hcx; have g1 := hdw5.pri k hlt; have g2 := hdw5.typ k hlt; rw [← HER.out] at g1 g2; simp only at g1 g2; obtain ⟨w4, cp, hcv, hb4, hot⟩ := conv_bytes wr.drew (numsU x) (byte_numsU x) 9 Tryz.underlying9; rw [strOf_numsU] at hcv
     obtain ⟨sx, esx⟩ : ∃ s, s = bOf x := ⟨_, rfl⟩
     rw [← esx] at hcv f0; have hxl : x ∈ wd [] r2 := List.mem_of_getElem? hx
     obtain ⟨lx, elx⟩ : ∃ l, l = (numsU x).length := ⟨_, rfl⟩
     rw [← elx] at hcv hot
     obtain ⟨gt, egt⟩ : ∃ g, g = wr.drew.heap.size := ⟨_, rfl⟩
     rw [← egt] at hcv hot; have hb4' : Below wr.heap.size wr w4 := (Below.refl _ wr).drew.trans hb4
     have kk0 : wr.cell? ⟨gw, i, none⟩ = some (.string sx) ∧ wr.cell? ⟨w.heap.size + 1, k, none⟩ = some (.int .i64 r0) ∧ wr.cell? ⟨w.heap.size + 1 + 1, k, none⟩ = some (.int .i64 r1) := ⟨f0, g1, g2⟩
     have kk4 : w4.cell? ⟨gw, i, none⟩ = some (.string sx) ∧ w4.cell? ⟨w.heap.size + 1, k, none⟩ = some (.int .i64 r0) ∧ w4.cell? ⟨w.heap.size + 1 + 1, k, none⟩ = some (.int .i64 r1) := ⟨(hb4'.cell (World.block_lt_of_cell? _ _ kk0.1)).trans kk0.1, (hb4'.cell (World.block_lt_of_cell? _ _ kk0.2.1)).trans kk0.2.1, (hb4'.cell (World.block_lt_of_cell? _ _ kk0.2.2)).trans kk0.2.2⟩
     have HLP := l3put_any p5 c5 n5 (D5.foldl putO []) r0 r1 (some ⟨gt, 0, none⟩) lx cp (numsU x) w4 HN5.out elx (by omega) (HO5.out.below hb4') hot.bin; have HB4 : Hid (Below w2.heap.size w2 w4) := Below.on HB5.out hb4'
     have HQ6 : Hid ((D5 ++ [(r0, r1, numsU x)]) ++ (((wd [] r2).drop (i + 1)).map (fun x => (r0, r1, numsU x)) ++ restO (k + 1)) = dOps) := by
      show _ = _
      have hi' : i < (wd [] r2).length := (List.getElem?_eq_some_iff.1 hx).1; have hxe : (wd [] r2)[i] = x := (List.getElem?_eq_some_iff.1 hx).2; rw [← HQ5.out, List.drop_eq_getElem_cons hi', hxe]
      simp
     have HFD : Hid ((D5 ++ [(r0, r1, numsU x)]).foldl putO [] = putO (D5.foldl putO []) (r0, r1, numsU x)) := by show _ = _; rw [List.foldl_append]; rfl
     have hn60 : (putO (D5.foldl putO []) (r0, r1, numsU x)).length ≤ 60 := by
      rw [← HFD.out]; have h1 := fold_len (D5 ++ [(r0, r1, numsU x)]) []; have h2 := congrArg List.length HQ6.out; simp only [List.length_append, List.length_nil] at h1 h2; have := dOps_len
      omega
     have HN60 : Hid ((putO (D5.foldl putO []) (r0, r1, numsU x)).length ≤ 60) := hn60
     have hi0 : (0 : Int) ≤ (i : Int) := by omega
     have hi1 : (i : Int) < (nw : Int) := by omega
     have hk0 : (0 : Int) ≤ (k : Int) := by omega
     have hk1 : (k : Int) < 13 := by omega
     clear hdw5 hcx f0 g1 g2 hot elx egt esx hxl hb4 hx hn60 d0 d1 d2; go_wp2_with fail; refine wp_region_held_drew (S := fun W => W.cell? ⟨gw, i, none⟩ = some (.string sx) ∧ W.cell? ⟨w.heap.size + 1, k, none⟩ = some (.int .i64 r0) ∧ W.cell? ⟨w.heap.size + 1 + 1, k, none⟩ = some (.int .i64 r1)) (by kernel_rfl) ?_ (fun hHeld => ?_)
     ·exact kk0
     refine hTk (i := 0) (v := .slice p5 n5 c5) (some 28) (fun o ho W hSw => ?y0) (by assumption) ?_
     case y0 => cases ho; simp [execOp, go_sem, Act.eval]
     simp only [Act.put, zzA, zzB, zzC]; refine hTk (i := 1) (v := .slice (some ⟨gw, 0, none⟩) nw cw) (some 29) (fun o ho W hSw => ?y1) (by assumption) ?_
     case y1 => cases ho; simp [execOp, go_sem, Act.eval]
     simp only [Act.put, zzA, zzB, zzC]; refine hTk (i := 2) (v := .int .i64 i) (some 30) (fun o ho W hSw => ?y2) (by assumption) ?_
     case y2 => cases ho; simp [execOp, go_sem, Act.eval]
     simp only [Act.put, zzA, zzB, zzC]; refine hTk (i := 3) (v := .pointer (some ⟨gw, i, none⟩)) (some 31) (fun o ho W hSw => ?y3) (by assumption) ?_
     case y3 => cases ho; simp [execOp, go_sem, Act.eval, hi0, hi1]
     simp only [Act.put, zzA, zzB, zzC]; refine hTk (i := 4) (v := .string sx) (some 32) (fun o ho W hSw => ?y4) (by assumption) ?_
     case y4 => cases ho; simp [execOp, go_sem, Act.eval, hSw.1]
     simp only [Act.put, zzA, zzB, zzC]; refine hTk (i := 6) (v := .slice (some ⟨w.heap.size + 1, 0, none⟩) 13 13) (some 34) (fun o ho W hSw => ?y6) (by assumption) ?_
     case y6 => cases ho; simp [execOp, go_sem, Act.eval]
     simp only [Act.put, zzA, zzB, zzC]; refine hTk (i := 7) (v := .int .i64 k) (some 35) (fun o ho W hSw => ?y7) (by assumption) ?_
     case y7 => cases ho; simp [execOp, go_sem, Act.eval]
     simp only [Act.put, zzA, zzB, zzC]; refine hTk (i := 8) (v := .pointer (some ⟨w.heap.size + 1, k, none⟩)) (some 36) (fun o ho W hSw => ?y8) (by assumption) ?_
     case y8 => cases ho; simp [execOp, go_sem, Act.eval, hk0, hk1]
     simp only [Act.put, zzA, zzB, zzC]; refine hTk (i := 9) (v := .int .i64 r0) (some 37) (fun o ho W hSw => ?y9) (by assumption) ?_
     case y9 => cases ho; simp [execOp, go_sem, Act.eval, hSw.2.1]
     simp only [Act.put, zzA, zzB, zzC]; refine hTk (i := 10) (v := .slice (some ⟨w.heap.size + 1 + 1, 0, none⟩) 13 13) (some 38) (fun o ho W hSw => ?y10) (by assumption) ?_
     case y10 => cases ho; simp [execOp, go_sem, Act.eval]
     simp only [Act.put, zzA, zzB, zzC]; refine hTk (i := 11) (v := .int .i64 k) (some 39) (fun o ho W hSw => ?y11) (by assumption) ?_
     case y11 => cases ho; simp [execOp, go_sem, Act.eval]
     simp only [Act.put, zzA, zzB, zzC]; refine hTk (i := 12) (v := .pointer (some ⟨w.heap.size + 1 + 1, k, none⟩)) (some 40) (fun o ho W hSw => ?y12) (by assumption) ?_
     case y12 => cases ho; simp [execOp, go_sem, Act.eval, hk0, hk1]
     simp only [Act.put, zzA, zzB, zzC]; refine hTk (i := 13) (v := .int .i64 r1) (some 41) (fun o ho W hSw => ?y13) (by assumption) ?_
     case y13 => cases ho; simp [execOp, go_sem, Act.eval, hSw.2.2]
     simp only [Act.put, zzA, zzB, zzC]; refine hStep (i := 5) (v := .slice (some ⟨gt, 0, none⟩) lx cp) (w' := w4) (some 33) (by kernel_rfl) (by kernel_rfl) (by kernel_rfl) (fun o ho => ?y5) kk4 ?_
     case y5 => cases ho; simp [execOp, go_sem, Act.eval, hcv]
     clear hHeld; simp only [Act.put, zzA, zzB, zzC]; have hHeld := kk4; refine hTk (i := 14) (v := .agg #[.slice (some ⟨gt, 0, none⟩) lx cp, .int .i64 r0, .int .i64 r1]) (some 42) (fun o ho W hSw => ?y14) (by assumption) ?_
     case y14 => cases ho; simp [execOp, go_sem, Act.eval]
     simp only [Act.put, zzA, zzB, zzC]; refine hCallE (i := 15) (some 43) (by kernel_rfl) (by kernel_rfl) (by kernel_rfl) (fun o ho => ?y15) HLP ?_ (fun ch w' h => by obtain ⟨_, _, _, h, _⟩ := h; cases h) (fun w' h => by obtain ⟨_, _, _, h, _⟩ := h; cases h)
     case y15 => cases ho; simp [execOp, go_sem, Act.eval]
     rintro u w6 ⟨p6, n6, c6, hu, hn6, ho6, hb6⟩
     cases hu
     have kk6 : w6.cell? ⟨gw, i, none⟩ = some (.string sx) ∧ w6.cell? ⟨w.heap.size + 1, k, none⟩ = some (.int .i64 r0) ∧ w6.cell? ⟨w.heap.size + 1 + 1, k, none⟩ = some (.int .i64 r1) := ⟨(hb6.cell (World.block_lt_of_cell? _ _ kk4.1)).trans kk4.1, (hb6.cell (World.block_lt_of_cell? _ _ kk4.2.1)).trans kk4.2.1, (hb6.cell (World.block_lt_of_cell? _ _ kk4.2.2)).trans kk4.2.2⟩
     refine ⟨kk6, ?_⟩; clear hHeld; have hHeld := kk6; simp only [Act.put, zzA, zzB, zzC]; refine hTk (i := 16) (v := .slice p6 n6 c6) (some 4) (fun o ho W hSw => ?y16) (by assumption) ?_
     case y16 => cases ho; simp [execOp, go_sem, Act.eval]
     simp only [Act.put, zzA, zzB, zzC]; refine wpAnyH_done (by kernel_rfl) ?_ _
     have HN6 : Hid (n6 = ((D5 ++ [(r0, r1, numsU x)]).foldl putO []).length) := by rw [HFD.out]; exact hn6
     have HO6 : Hid (OIn w6 p6 ((D5 ++ [(r0, r1, numsU x)]).foldl putO [])) := by rw [HFD.out]; exact ho6
     have HB6 : Hid (Below w2.heap.size w2 w6) := Below.on HB4.out hb6
     have h60 : n6 ≤ 60 := by rw [hn6]; exact HN60.out
     clear hn6 ho6 hb6 kk6 kk4 kk0 hcv; go_wp2_with fail; go_roundw
     case rel => exact ⟨i + 1, n6, c6, p6, _, by omega, h60, rfl, by go_num, HQ6, HN6, HO6, HB6⟩
     case measure => simp [intOf]; omega
    ·obtain rfl : i = nw := by omega
     have HQ6 : Hid (D5 ++ restO (k + 1) = dOps) := by
      show _ = _
      have h9 := HQ5.out; rw [HNW.out, List.drop_length] at h9
      simpa using h9
     have HB6 : Hid (Below wA.heap.size wA wr) := Below.on HB2.out HB5.out; clear d0 d1 d2; go_wp2_with fail; go_roundw
     case rel => exact ⟨k + 1, n5, c5, p5, D5, by omega, hn5, rfl, by go_num, HQ6, HN5, HO5, HB6⟩
     case measure => simp [intOf]; omega
  ·obtain rfl : k = 13 := by omega
   have hDD : D = dOps := by have h9 := HQ.out; rw [restO_end] at h9; simpa using h9
   have HF : Hid (DefEnd w (.returned (.slice p n c)) wr) := ⟨p, n, c, rfl, by rw [HN.out, hDD]; rfl, by have h9 := HO.out; rw [hDD] at h9; exact h9, Below.on HBA.out HB.out⟩
   clear hDD; go_wp2_with fail; go_ret; exact HF.out
def TermOut (w : World) (R : Nat) (p : Option Addr) (c : Nat) (xs : List Int) (res : List Cel × Nat) (e : Ending) (w' : World) : Prop :=
 ∃ q n cap, e = .returned (.slice q n cap) ∧ OwnC w' w.heap.size q n cap res.1 ∧ Keep R (R + 1) w w' ∧ RdIn w' R p c xs res.2
theorem TermOut.of {w W W' : World} {R : Nat} {p : Option Addr} {c : Nat} {xs : List Int} {cs : List Cel} {i : Nat} {q : Option Addr} {n cap : Nat} (hk : Keep R (R + 1) w W) (hr : RdIn W R p c xs i) (ho : OwnC W' W.heap.size q n cap cs) (hb : Below W.heap.size W W') : TermOut w R p c xs (cs, i) (.returned (.slice q n cap)) W' :=
 ⟨q, n, cap, rfl, ho.mono hk.size, hk.trans (Keep.of_below hb), hr.grow hb⟩
theorem own_oneN {w : World} {B g tn tc : Nat} {k n : Int} {tp : Option Addr} {s : List Int} (hg : w.heap[g]? = some (.cells #[.int .i64 k, .int .i64 n, .slice tp tn tc] 78)) (hB : B ≤ g) (ht : OwnT w B tp tn tc s) (hne : 0 < tn → ∀ a, tp = some a → a.block ≠ g) : OwnC w B (some ⟨g, 0, none⟩) 1 1 [(k, n, s)] := by
 refine ⟨rfl, [(k, n, tp, tn, tc)], rfl, ⟨rfl, .inr ⟨g, 1, _, rfl, hB, hg, Nat.le_refl _, by decide, rfl, rfl⟩⟩, fun i hi => ?_, ?_⟩
 ·obtain rfl : i = 0 := by simp at hi; omega
  exact ⟨rfl, rfl, ht⟩
 ·refine ⟨fun i hi h => ?_, fun i j hi hj h => ?_⟩
  ·obtain rfl : i = 0 := by simp at hi; omega
   exact fun e => hne h _ e rfl
  ·simp at hi hj
   omega
set_option maxHeartbeats 2000000 in
theorem term_low (R c i : Nat) (p : Option Addr) (xs : List Int) (D : Int) (w : World) (h : RdIn w R p c xs i) (hD : -10 ≤ D ∧ D ≤ 10) (hc : D ≤ 0) :
 Calls Tryz.prog 25 #[.pointer (some ⟨R, 0, none⟩), .int .i64 D] w (TermOut w R p c xs (leafT xs (rdI xs i).toNat (rdN xs i))) := by
 have HH : Hid (RdIn w R p c xs i) := h; have hr := rdI_rng h.bytes i; have hle := rdN_le h.le; have hsm := h.small; have hr1 := rdI_rng h.bytes (rdN xs i)
 obtain ⟨n, en⟩ : ∃ n, n = xs.length := ⟨_, rfl⟩
 rw [← en] at hle hsm; have HEN : Hid (n = xs.length) := en
 obtain ⟨i1, ei⟩ : ∃ i1, i1 = rdN xs i := ⟨_, rfl⟩
 rw [← ei] at hle hr1 ⊢; have HEI : Hid (i1 = rdN xs i) := ei; have hd : decide (D ≤ 0) = true := decide_eq_true hc; clear h en ei
 go_enter Tryz.func25, Tryz.ntmps25
 go_wp2_with fail; refine (next_any R c i p xs w HH.out).mono ?_; rintro e w2 ⟨rfl, hk2, hs2, hR2⟩; have HK2 : Hid (Keep R (R + 1) w w2) := hk2
 have HR2 : Hid (RdIn w2 R p c xs i1) := by rw [HEI.out]; exact hR2
 obtain ⟨x, ex⟩ : ∃ x : Nat, rdI xs i = x := ⟨(rdI xs i).toNat, by omega⟩
 rw [ex] at hr ⊢
 have HX : Hid ((rdI xs i).toNat = x) := by show _ = _; rw [ex]; exact Int.toNat_natCast x
 obtain ⟨j, ej⟩ : ∃ j, j = x % 5 := ⟨_, rfl⟩
 have hj : j < 5 := by omega
 have hm : (x : Int).tmod 5 = (j : Int) := by rw [ej, Int.tmod_eq_emod_of_nonneg (by omega)]; rfl
 have HJ : Hid (j = x % 5) := ej; have hxt : ((x : Nat) : Int).toNat = x := Int.toNat_natCast x; have HX2 : Hid ((rdI xs i).toNat = x) := HX.out; clear hk2 hs2 hR2 ex ej
 rcases (by omega : j = 0 ∨ j = 1 ∨ j = 2 ∨ 3 ≤ j) with hj0 | hj0 | hj0 | hj0
 ·have hb1 : ((j : Int) == 0) = true := by rw [hj0]; rfl
  have HF : Hid (leafT xs x i1 = ([(1, intD (rdI xs i1).toNat, [])], rdN xs i1)) := by show _ = _; rw [leafT, if_pos (by rw [← HJ.out]; exact hj0)]
  clear hj0; go_wp2_with fail; refine (l4int_any R c i1 p xs w2 HR2.out).mono ?_; rintro e w3 ⟨rfl, hk3, hR3⟩; have HK3 : Hid (Keep R (R + 1) w w3) := HK2.out.trans hk3; have HR3 : Hid (RdIn w3 R p c xs (rdN xs i1)) := hR3; clear hk3 hR3; go_wp2_with fail; refine (l2numO_any _ w3).mono ?_; rintro e w4 ⟨rfl, ho4, hb4⟩; have FIN : Hid _ := TermOut.of HK3.out HR3.out ho4 hb4; clear ho4 hb4; go_wp2_with fail; go_ret; rw [HX2.out, HF.out]; exact FIN.out
 ·have hb1 : ((j : Int) == 0) = false := by rw [hj0]; rfl
  have hb2 : decide ((j : Int) < 3) = true := by rw [hj0]; rfl
  have HF : Hid (leafT xs x i1 = ([(0, (((rdI xs i1).toNat % 5 : Nat) : Int), [])], rdN xs i1)) := by show _ = _; rw [leafT, if_neg (by rw [← HJ.out, hj0]; decide), if_pos (by rw [← HJ.out, hj0]; decide)]
  clear hj0; go_wp2_with fail; refine (next_any R c i1 p xs w2 HR2.out).mono ?_; rintro e w3 ⟨rfl, hk3, hs3, hR3⟩; have HK3 : Hid (Keep R (R + 1) w w3) := HK2.out.trans hk3; have HR3 : Hid (RdIn w3 R p c xs (rdN xs i1)) := hR3
  obtain ⟨y, ey⟩ : ∃ y : Nat, rdI xs i1 = y := ⟨(rdI xs i1).toNat, by omega⟩
  rw [ey] at hr1 ⊢
  obtain ⟨z, ez⟩ : ∃ z, z = y % 5 := ⟨_, rfl⟩
  have hz : z < 5 := by omega
  have hmz : (y : Int).tmod 5 = (z : Int) := by rw [ez, Int.tmod_eq_emod_of_nonneg (by omega)]; rfl
  have HZ : Hid (([(0, (((rdI xs i1).toNat % 5 : Nat) : Int), [])] : List Cel) = [(0, (z : Int), [])]) := by show _ = _; rw [ey, Int.toNat_natCast, ez]
  clear hk3 hs3 hR3 ey ez; go_wp2_with fail; refine (l2varO_any _ w3).mono ?_; rintro e w4 ⟨rfl, ho4, hb4⟩; have FIN : Hid _ := TermOut.of HK3.out HR3.out ho4 hb4; clear ho4 hb4; go_wp2_with fail; go_ret; rw [HX2.out, HF.out, HZ.out]; exact FIN.out
 ·have hb1 : ((j : Int) == 0) = false := by rw [hj0]; rfl
  have hb2 : decide ((j : Int) < 3) = true := by rw [hj0]; rfl
  have HF : Hid (leafT xs x i1 = ([(0, (((rdI xs i1).toNat % 5 : Nat) : Int), [])], rdN xs i1)) := by show _ = _; rw [leafT, if_neg (by rw [← HJ.out, hj0]; decide), if_pos (by rw [← HJ.out, hj0]; decide)]
  clear hj0; go_wp2_with fail; refine (next_any R c i1 p xs w2 HR2.out).mono ?_; rintro e w3 ⟨rfl, hk3, hs3, hR3⟩; have HK3 : Hid (Keep R (R + 1) w w3) := HK2.out.trans hk3; have HR3 : Hid (RdIn w3 R p c xs (rdN xs i1)) := hR3
  obtain ⟨y, ey⟩ : ∃ y : Nat, rdI xs i1 = y := ⟨(rdI xs i1).toNat, by omega⟩
  rw [ey] at hr1 ⊢
  obtain ⟨z, ez⟩ : ∃ z, z = y % 5 := ⟨_, rfl⟩
  have hz : z < 5 := by omega
  have hmz : (y : Int).tmod 5 = (z : Int) := by rw [ez, Int.tmod_eq_emod_of_nonneg (by omega)]; rfl
  have HZ : Hid (([(0, (((rdI xs i1).toNat % 5 : Nat) : Int), [])] : List Cel) = [(0, (z : Int), [])]) := by show _ = _; rw [ey, Int.toNat_natCast, ez]
  clear hk3 hs3 hR3 ey ez; go_wp2_with fail; refine (l2varO_any _ w3).mono ?_; rintro e w4 ⟨rfl, ho4, hb4⟩; have FIN : Hid _ := TermOut.of HK3.out HR3.out ho4 hb4; clear ho4 hb4; go_wp2_with fail; go_ret; rw [HX2.out, HF.out, HZ.out]; exact FIN.out
 ·have hb1 : ((j : Int) == 0) = false := by simp; omega
  have hb2 : decide ((j : Int) < 3) = false := by simp; omega
  have HF : Hid (leafT xs x i1 = ([(2, 0, numsU (nameAt (rdI xs i1).toNat))], rdN xs i1)) := by show _ = _; rw [leafT, if_neg (by rw [← HJ.out]; omega), if_neg (by rw [← HJ.out]; omega)]
  clear hj0; go_wp2_with fail; refine (l4name_any R c i1 p xs w2 HR2.out).mono ?_; rintro e w3 ⟨g, n3, cap, rfl, hn3, hk3, hR3, hg, ht⟩; have HK3 : Hid (Keep R (R + 1) w w3) := HK2.out.trans hk3; have HR3 : Hid (RdIn w3 R p c xs (rdN xs i1)) := hR3; have HT3 : Hid (OwnT w3 w2.heap.size (some ⟨g, 0, none⟩) n3 cap (numsU (nameAt (rdI xs i1).toNat))) := ht; have HBW : Hid (w.heap.size ≤ w2.heap.size) := HK2.out.size; have hbA : Below w3.heap.size w3 (w3.alloc (Obj.cells #[Value.int IntKind.i64 2, Value.int IntKind.i64 0, Value.slice (some ⟨g, 0, none⟩) n3 cap] 78)) := (Below.refl _ _).alloc (Nat.le_refl _) _
  have HO3 : Hid (OwnC (w3.alloc (Obj.cells #[Value.int IntKind.i64 2, Value.int IntKind.i64 0, Value.slice (some ⟨g, 0, none⟩) n3 cap] 78)) w.heap.size (some ⟨w3.heap.size, 0, none⟩) 1 1 [(2, 0, numsU (nameAt (rdI xs i1).toNat))]) := by
   refine own_oneN (heap_alloc_new w3 _) (Nat.le_trans HBW.out hk3.size) ((ht.mono HBW.out).below hbA) (fun h0 a ea => ?_); obtain ⟨g', eg, hB', hl', hc'⟩ := ht.2 h0
   cases eg
   cases ea
   exact Nat.ne_of_lt hl'
  have HBA : Hid _ := hbA; clear hk3 hR3 ht hbA hg hn3; go_wp2_with fail; go_ret; rw [HX2.out, HF.out]; exact ⟨_, _, _, rfl, HO3.out, HK3.out.trans (Keep.of_below HBA.out), HR3.out.grow HBA.out⟩
set_option maxHeartbeats 2000000 in
theorem term_end (R c i : Nat) (p : Option Addr) (xs : List Int) (D : Int) (w : World) (h : RdIn w R p c xs i) (hD : -10 ≤ D ∧ D ≤ 10) (hc : 0 < D) (h0 : rdN xs i = xs.length) :
 Calls Tryz.prog 25 #[.pointer (some ⟨R, 0, none⟩), .int .i64 D] w (TermOut w R p c xs (leafT xs (rdI xs i).toNat (rdN xs i))) := by
 have HH : Hid (RdIn w R p c xs i) := h; have hr := rdI_rng h.bytes i; have hle := rdN_le h.le; have hsm := h.small; have hr1 := rdI_rng h.bytes (rdN xs i)
 obtain ⟨n, en⟩ : ∃ n, n = xs.length := ⟨_, rfl⟩
 rw [← en] at hle hsm; have HEN : Hid (n = xs.length) := en
 obtain ⟨i1, ei⟩ : ∃ i1, i1 = rdN xs i := ⟨_, rfl⟩
 rw [← ei] at hle hr1 ⊢; have HEI : Hid (i1 = rdN xs i) := ei; have hd : decide (D ≤ 0) = false := decide_eq_false (by omega); rw [← ei, ← en] at h0; have H0 : Hid (i1 = n) := h0; clear h0; clear h en ei
 go_enter Tryz.func25, Tryz.ntmps25
 go_wp2_with fail; refine (next_any R c i p xs w HH.out).mono ?_; rintro e w2 ⟨rfl, hk2, hs2, hR2⟩; have HK2 : Hid (Keep R (R + 1) w w2) := hk2
 have HR2 : Hid (RdIn w2 R p c xs i1) := by rw [HEI.out]; exact hR2
 obtain ⟨x, ex⟩ : ∃ x : Nat, rdI xs i = x := ⟨(rdI xs i).toNat, by omega⟩
 rw [ex] at hr ⊢
 have HX : Hid ((rdI xs i).toNat = x) := by show _ = _; rw [ex]; exact Int.toNat_natCast x
 obtain ⟨j, ej⟩ : ∃ j, j = x % 5 := ⟨_, rfl⟩
 have hj : j < 5 := by omega
 have hm : (x : Int).tmod 5 = (j : Int) := by rw [ej, Int.tmod_eq_emod_of_nonneg (by omega)]; rfl
 have HJ : Hid (j = x % 5) := ej; have hxt : ((x : Nat) : Int).toNat = x := Int.toNat_natCast x; have HX2 : Hid ((rdI xs i).toNat = x) := HX.out; clear hk2 hs2 hR2 ex ej; go_wp2_with fail; refine (left_any R c i1 p xs w2 HR2.out).mono ?_; rintro e wL ⟨rfl, hbL⟩; have HRL : Hid (RdIn wL R p c xs i1) := HR2.out.grow hbL; have HKL : Hid (Keep R (R + 1) w wL) := HK2.out.trans (Keep.of_below hbL); rw [← HEN.out]
 obtain ⟨lf, el⟩ : ∃ lf, lf = n - i1 := ⟨_, rfl⟩
 rw [← el]
 have hlf : lf ≤ 500 := by omega
 clear hbL
 have hz0 : ((lf : Int) == 0) = true := by rw [el, H0.out, Nat.sub_self]; rfl
 clear el
 rcases (by omega : j = 0 ∨ j = 1 ∨ j = 2 ∨ 3 ≤ j) with hj0 | hj0 | hj0 | hj0
 ·have hb1 : ((j : Int) == 0) = true := by rw [hj0]; rfl
  have HF : Hid (leafT xs x i1 = ([(1, intD (rdI xs i1).toNat, [])], rdN xs i1)) := by show _ = _; rw [leafT, if_pos (by rw [← HJ.out]; exact hj0)]
  clear hj0; go_wp2_with fail; refine (l4int_any R c i1 p xs wL HRL.out).mono ?_; rintro e w3 ⟨rfl, hk3, hR3⟩; have HK3 : Hid (Keep R (R + 1) w w3) := HKL.out.trans hk3; have HR3 : Hid (RdIn w3 R p c xs (rdN xs i1)) := hR3; clear hk3 hR3; go_wp2_with fail; refine (l2numO_any _ w3).mono ?_; rintro e w4 ⟨rfl, ho4, hb4⟩; have FIN : Hid _ := TermOut.of HK3.out HR3.out ho4 hb4; clear ho4 hb4; go_wp2_with fail; go_ret; rw [HX2.out, HF.out]; exact FIN.out
 ·have hb1 : ((j : Int) == 0) = false := by rw [hj0]; rfl
  have hb2 : decide ((j : Int) < 3) = true := by rw [hj0]; rfl
  have HF : Hid (leafT xs x i1 = ([(0, (((rdI xs i1).toNat % 5 : Nat) : Int), [])], rdN xs i1)) := by show _ = _; rw [leafT, if_neg (by rw [← HJ.out, hj0]; decide), if_pos (by rw [← HJ.out, hj0]; decide)]
  clear hj0; go_wp2_with fail; refine (next_any R c i1 p xs wL HRL.out).mono ?_; rintro e w3 ⟨rfl, hk3, hs3, hR3⟩; have HK3 : Hid (Keep R (R + 1) w w3) := HKL.out.trans hk3; have HR3 : Hid (RdIn w3 R p c xs (rdN xs i1)) := hR3
  obtain ⟨y, ey⟩ : ∃ y : Nat, rdI xs i1 = y := ⟨(rdI xs i1).toNat, by omega⟩
  rw [ey] at hr1 ⊢
  obtain ⟨z, ez⟩ : ∃ z, z = y % 5 := ⟨_, rfl⟩
  have hz : z < 5 := by omega
  have hmz : (y : Int).tmod 5 = (z : Int) := by rw [ez, Int.tmod_eq_emod_of_nonneg (by omega)]; rfl
  have HZ : Hid (([(0, (((rdI xs i1).toNat % 5 : Nat) : Int), [])] : List Cel) = [(0, (z : Int), [])]) := by show _ = _; rw [ey, Int.toNat_natCast, ez]
  clear hk3 hs3 hR3 ey ez; go_wp2_with fail; refine (l2varO_any _ w3).mono ?_; rintro e w4 ⟨rfl, ho4, hb4⟩; have FIN : Hid _ := TermOut.of HK3.out HR3.out ho4 hb4; clear ho4 hb4; go_wp2_with fail; go_ret; rw [HX2.out, HF.out, HZ.out]; exact FIN.out
 ·have hb1 : ((j : Int) == 0) = false := by rw [hj0]; rfl
  have hb2 : decide ((j : Int) < 3) = true := by rw [hj0]; rfl
  have HF : Hid (leafT xs x i1 = ([(0, (((rdI xs i1).toNat % 5 : Nat) : Int), [])], rdN xs i1)) := by show _ = _; rw [leafT, if_neg (by rw [← HJ.out, hj0]; decide), if_pos (by rw [← HJ.out, hj0]; decide)]
  clear hj0; go_wp2_with fail; refine (next_any R c i1 p xs wL HRL.out).mono ?_; rintro e w3 ⟨rfl, hk3, hs3, hR3⟩; have HK3 : Hid (Keep R (R + 1) w w3) := HKL.out.trans hk3; have HR3 : Hid (RdIn w3 R p c xs (rdN xs i1)) := hR3
  obtain ⟨y, ey⟩ : ∃ y : Nat, rdI xs i1 = y := ⟨(rdI xs i1).toNat, by omega⟩
  rw [ey] at hr1 ⊢
  obtain ⟨z, ez⟩ : ∃ z, z = y % 5 := ⟨_, rfl⟩
  have hz : z < 5 := by omega
  have hmz : (y : Int).tmod 5 = (z : Int) := by rw [ez, Int.tmod_eq_emod_of_nonneg (by omega)]; rfl
  have HZ : Hid (([(0, (((rdI xs i1).toNat % 5 : Nat) : Int), [])] : List Cel) = [(0, (z : Int), [])]) := by show _ = _; rw [ey, Int.toNat_natCast, ez]
  clear hk3 hs3 hR3 ey ez; go_wp2_with fail; refine (l2varO_any _ w3).mono ?_; rintro e w4 ⟨rfl, ho4, hb4⟩; have FIN : Hid _ := TermOut.of HK3.out HR3.out ho4 hb4; clear ho4 hb4; go_wp2_with fail; go_ret; rw [HX2.out, HF.out, HZ.out]; exact FIN.out
 ·have hb1 : ((j : Int) == 0) = false := by simp; omega
  have hb2 : decide ((j : Int) < 3) = false := by simp; omega
  have HF : Hid (leafT xs x i1 = ([(2, 0, numsU (nameAt (rdI xs i1).toNat))], rdN xs i1)) := by show _ = _; rw [leafT, if_neg (by rw [← HJ.out]; omega), if_neg (by rw [← HJ.out]; omega)]
  clear hj0; go_wp2_with fail; refine (l4name_any R c i1 p xs wL HRL.out).mono ?_; rintro e w3 ⟨g, n3, cap, rfl, hn3, hk3, hR3, hg, ht⟩; have HK3 : Hid (Keep R (R + 1) w w3) := HKL.out.trans hk3; have HR3 : Hid (RdIn w3 R p c xs (rdN xs i1)) := hR3; have HT3 : Hid (OwnT w3 wL.heap.size (some ⟨g, 0, none⟩) n3 cap (numsU (nameAt (rdI xs i1).toNat))) := ht; have HBW : Hid (w.heap.size ≤ wL.heap.size) := HKL.out.size; have hbA : Below w3.heap.size w3 (w3.alloc (Obj.cells #[Value.int IntKind.i64 2, Value.int IntKind.i64 0, Value.slice (some ⟨g, 0, none⟩) n3 cap] 78)) := (Below.refl _ _).alloc (Nat.le_refl _) _
  have HO3 : Hid (OwnC (w3.alloc (Obj.cells #[Value.int IntKind.i64 2, Value.int IntKind.i64 0, Value.slice (some ⟨g, 0, none⟩) n3 cap] 78)) w.heap.size (some ⟨w3.heap.size, 0, none⟩) 1 1 [(2, 0, numsU (nameAt (rdI xs i1).toNat))]) := by
   refine own_oneN (heap_alloc_new w3 _) (Nat.le_trans HBW.out hk3.size) ((ht.mono HBW.out).below hbA) (fun h0 a ea => ?_); obtain ⟨g', eg, hB', hl', hc'⟩ := ht.2 h0
   cases eg
   cases ea
   exact Nat.ne_of_lt hl'
  have HBA : Hid _ := hbA; clear hk3 hR3 ht hbA hg hn3; go_wp2_with fail; go_ret; rw [HX2.out, HF.out]; exact ⟨_, _, _, rfl, HO3.out, HK3.out.trans (Keep.of_below HBA.out), HR3.out.grow HBA.out⟩
set_option maxHeartbeats 2000000 in
theorem term_few (R c i : Nat) (p : Option Addr) (xs : List Int) (D : Int) (w : World) (h : RdIn w R p c xs i) (hD : -10 ≤ D ∧ D ≤ 10) (hc : 0 < D) (h0 : ¬ rdN xs i = xs.length) (h50 : (rdI xs i).toNat < 50) :
 Calls Tryz.prog 25 #[.pointer (some ⟨R, 0, none⟩), .int .i64 D] w (TermOut w R p c xs (leafT xs (rdI xs i).toNat (rdN xs i))) := by
 have HH : Hid (RdIn w R p c xs i) := h; have hr := rdI_rng h.bytes i; have hle := rdN_le h.le; have hsm := h.small; have hr1 := rdI_rng h.bytes (rdN xs i)
 obtain ⟨n, en⟩ : ∃ n, n = xs.length := ⟨_, rfl⟩
 rw [← en] at hle hsm; have HEN : Hid (n = xs.length) := en
 obtain ⟨i1, ei⟩ : ∃ i1, i1 = rdN xs i := ⟨_, rfl⟩
 rw [← ei] at hle hr1 ⊢; have HEI : Hid (i1 = rdN xs i) := ei; have hd : decide (D ≤ 0) = false := decide_eq_false (by omega); rw [← ei, ← en] at h0; clear h en ei
 go_enter Tryz.func25, Tryz.ntmps25
 go_wp2_with fail; refine (next_any R c i p xs w HH.out).mono ?_; rintro e w2 ⟨rfl, hk2, hs2, hR2⟩; have HK2 : Hid (Keep R (R + 1) w w2) := hk2
 have HR2 : Hid (RdIn w2 R p c xs i1) := by rw [HEI.out]; exact hR2
 obtain ⟨x, ex⟩ : ∃ x : Nat, rdI xs i = x := ⟨(rdI xs i).toNat, by omega⟩
 rw [ex] at hr ⊢
 have HX : Hid ((rdI xs i).toNat = x) := by show _ = _; rw [ex]; exact Int.toNat_natCast x
 obtain ⟨j, ej⟩ : ∃ j, j = x % 5 := ⟨_, rfl⟩
 have hj : j < 5 := by omega
 have hm : (x : Int).tmod 5 = (j : Int) := by rw [ej, Int.tmod_eq_emod_of_nonneg (by omega)]; rfl
 have HJ : Hid (j = x % 5) := ej; have hxt : ((x : Nat) : Int).toNat = x := Int.toNat_natCast x; have HX2 : Hid ((rdI xs i).toNat = x) := HX.out
 have hx50 : decide ((x : Int) < 50) = true := by rw [HX.out] at h50; exact decide_eq_true (by omega)
 clear hk2 hs2 hR2 ex ej; go_wp2_with fail; refine (left_any R c i1 p xs w2 HR2.out).mono ?_; rintro e wL ⟨rfl, hbL⟩; have HRL : Hid (RdIn wL R p c xs i1) := HR2.out.grow hbL; have HKL : Hid (Keep R (R + 1) w wL) := HK2.out.trans (Keep.of_below hbL); rw [← HEN.out]
 obtain ⟨lf, el⟩ : ∃ lf, lf = n - i1 := ⟨_, rfl⟩
 rw [← el]
 have hlf : lf ≤ 500 := by omega
 clear hbL
 have hz0 : ((lf : Int) == 0) = false := by simp; omega
 clear el
 rcases (by omega : j = 0 ∨ j = 1 ∨ j = 2 ∨ 3 ≤ j) with hj0 | hj0 | hj0 | hj0
 ·have hb1 : ((j : Int) == 0) = true := by rw [hj0]; rfl
  have HF : Hid (leafT xs x i1 = ([(1, intD (rdI xs i1).toNat, [])], rdN xs i1)) := by show _ = _; rw [leafT, if_pos (by rw [← HJ.out]; exact hj0)]
  clear hj0; go_wp2_with fail; refine (l4int_any R c i1 p xs wL HRL.out).mono ?_; rintro e w3 ⟨rfl, hk3, hR3⟩; have HK3 : Hid (Keep R (R + 1) w w3) := HKL.out.trans hk3; have HR3 : Hid (RdIn w3 R p c xs (rdN xs i1)) := hR3; clear hk3 hR3; go_wp2_with fail; refine (l2numO_any _ w3).mono ?_; rintro e w4 ⟨rfl, ho4, hb4⟩; have FIN : Hid _ := TermOut.of HK3.out HR3.out ho4 hb4; clear ho4 hb4; go_wp2_with fail; go_ret; rw [HX2.out, HF.out]; exact FIN.out
 ·have hb1 : ((j : Int) == 0) = false := by rw [hj0]; rfl
  have hb2 : decide ((j : Int) < 3) = true := by rw [hj0]; rfl
  have HF : Hid (leafT xs x i1 = ([(0, (((rdI xs i1).toNat % 5 : Nat) : Int), [])], rdN xs i1)) := by show _ = _; rw [leafT, if_neg (by rw [← HJ.out, hj0]; decide), if_pos (by rw [← HJ.out, hj0]; decide)]
  clear hj0; go_wp2_with fail; refine (next_any R c i1 p xs wL HRL.out).mono ?_; rintro e w3 ⟨rfl, hk3, hs3, hR3⟩; have HK3 : Hid (Keep R (R + 1) w w3) := HKL.out.trans hk3; have HR3 : Hid (RdIn w3 R p c xs (rdN xs i1)) := hR3
  obtain ⟨y, ey⟩ : ∃ y : Nat, rdI xs i1 = y := ⟨(rdI xs i1).toNat, by omega⟩
  rw [ey] at hr1 ⊢
  obtain ⟨z, ez⟩ : ∃ z, z = y % 5 := ⟨_, rfl⟩
  have hz : z < 5 := by omega
  have hmz : (y : Int).tmod 5 = (z : Int) := by rw [ez, Int.tmod_eq_emod_of_nonneg (by omega)]; rfl
  have HZ : Hid (([(0, (((rdI xs i1).toNat % 5 : Nat) : Int), [])] : List Cel) = [(0, (z : Int), [])]) := by show _ = _; rw [ey, Int.toNat_natCast, ez]
  clear hk3 hs3 hR3 ey ez; go_wp2_with fail; refine (l2varO_any _ w3).mono ?_; rintro e w4 ⟨rfl, ho4, hb4⟩; have FIN : Hid _ := TermOut.of HK3.out HR3.out ho4 hb4; clear ho4 hb4; go_wp2_with fail; go_ret; rw [HX2.out, HF.out, HZ.out]; exact FIN.out
 ·have hb1 : ((j : Int) == 0) = false := by rw [hj0]; rfl
  have hb2 : decide ((j : Int) < 3) = true := by rw [hj0]; rfl
  have HF : Hid (leafT xs x i1 = ([(0, (((rdI xs i1).toNat % 5 : Nat) : Int), [])], rdN xs i1)) := by show _ = _; rw [leafT, if_neg (by rw [← HJ.out, hj0]; decide), if_pos (by rw [← HJ.out, hj0]; decide)]
  clear hj0; go_wp2_with fail; refine (next_any R c i1 p xs wL HRL.out).mono ?_; rintro e w3 ⟨rfl, hk3, hs3, hR3⟩; have HK3 : Hid (Keep R (R + 1) w w3) := HKL.out.trans hk3; have HR3 : Hid (RdIn w3 R p c xs (rdN xs i1)) := hR3
  obtain ⟨y, ey⟩ : ∃ y : Nat, rdI xs i1 = y := ⟨(rdI xs i1).toNat, by omega⟩
  rw [ey] at hr1 ⊢
  obtain ⟨z, ez⟩ : ∃ z, z = y % 5 := ⟨_, rfl⟩
  have hz : z < 5 := by omega
  have hmz : (y : Int).tmod 5 = (z : Int) := by rw [ez, Int.tmod_eq_emod_of_nonneg (by omega)]; rfl
  have HZ : Hid (([(0, (((rdI xs i1).toNat % 5 : Nat) : Int), [])] : List Cel) = [(0, (z : Int), [])]) := by show _ = _; rw [ey, Int.toNat_natCast, ez]
  clear hk3 hs3 hR3 ey ez; go_wp2_with fail; refine (l2varO_any _ w3).mono ?_; rintro e w4 ⟨rfl, ho4, hb4⟩; have FIN : Hid _ := TermOut.of HK3.out HR3.out ho4 hb4; clear ho4 hb4; go_wp2_with fail; go_ret; rw [HX2.out, HF.out, HZ.out]; exact FIN.out
 ·have hb1 : ((j : Int) == 0) = false := by simp; omega
  have hb2 : decide ((j : Int) < 3) = false := by simp; omega
  have HF : Hid (leafT xs x i1 = ([(2, 0, numsU (nameAt (rdI xs i1).toNat))], rdN xs i1)) := by show _ = _; rw [leafT, if_neg (by rw [← HJ.out]; omega), if_neg (by rw [← HJ.out]; omega)]
  clear hj0; go_wp2_with fail; refine (l4name_any R c i1 p xs wL HRL.out).mono ?_; rintro e w3 ⟨g, n3, cap, rfl, hn3, hk3, hR3, hg, ht⟩; have HK3 : Hid (Keep R (R + 1) w w3) := HKL.out.trans hk3; have HR3 : Hid (RdIn w3 R p c xs (rdN xs i1)) := hR3; have HT3 : Hid (OwnT w3 wL.heap.size (some ⟨g, 0, none⟩) n3 cap (numsU (nameAt (rdI xs i1).toNat))) := ht; have HBW : Hid (w.heap.size ≤ wL.heap.size) := HKL.out.size; have hbA : Below w3.heap.size w3 (w3.alloc (Obj.cells #[Value.int IntKind.i64 2, Value.int IntKind.i64 0, Value.slice (some ⟨g, 0, none⟩) n3 cap] 78)) := (Below.refl _ _).alloc (Nat.le_refl _) _
  have HO3 : Hid (OwnC (w3.alloc (Obj.cells #[Value.int IntKind.i64 2, Value.int IntKind.i64 0, Value.slice (some ⟨g, 0, none⟩) n3 cap] 78)) w.heap.size (some ⟨w3.heap.size, 0, none⟩) 1 1 [(2, 0, numsU (nameAt (rdI xs i1).toNat))]) := by
   refine own_oneN (heap_alloc_new w3 _) (Nat.le_trans HBW.out hk3.size) ((ht.mono HBW.out).below hbA) (fun h0 a ea => ?_); obtain ⟨g', eg, hB', hl', hc'⟩ := ht.2 h0
   cases eg
   cases ea
   exact Nat.ne_of_lt hl'
  have HBA : Hid _ := hbA; clear hk3 hR3 ht hbA hg hn3; go_wp2_with fail; go_ret; rw [HX2.out, HF.out]; exact ⟨_, _, _, rfl, HO3.out, HK3.out.trans (Keep.of_below HBA.out), HR3.out.grow HBA.out⟩
def CCIn (w : World) (p : Option Addr) (css : List (List Cel)) : Prop :=
 0 < css.length → ∃ b o, p = some ⟨b, o, none⟩ ∧ ∀ i, i < css.length → ∃ q c, w.cell? ⟨b, o + i, none⟩ = some (.slice q (css.getD i []).length c) ∧ CIn w q (css.getD i [])
theorem CCIn.below {W W' : World} {p : Option Addr} {css : List (List Cel)} (h : CCIn W p css) (hb : Below W.heap.size W W') : CCIn W' p css := fun hn => by
 obtain ⟨b, o, rfl, hc⟩ := h hn; refine ⟨b, o, rfl, fun i hi => ?_⟩; obtain ⟨q, c, h1, h2⟩ := hc i hi; exact ⟨q, c, (hb.cell (World.block_lt_of_cell? _ _ h1)).trans h1, h2.below hb⟩
def vals (ds : List It) (css : List (List Cel)) : List Value := (List.range css.length).map fun i => .slice (ds.getD i It.zero).1 (css.getD i []).length (ds.getD i It.zero).2.1
theorem vals_at (ds : List It) (css : List (List Cel)) (i : Nat) (h : i < css.length) : (vals ds css)[i]? = some (.slice (ds.getD i It.zero).1 (css.getD i []).length (ds.getD i It.zero).2.1) := by simp [vals, h]
structure OwnSS (w : World) (B U : Nat) (p : Option Addr) (n c : Nat) (css : List (List Cel)) (ds : List It) : Prop where
 len : n = css.length
 dlen : ds.length = css.length
 row : w.ownsRow B 46 1 (.slice p n c) n (vals ds css)
 item : ∀ i, i < css.length → OwnCU w (ds.getD i It.zero).2.2.1 (ds.getD i It.zero).2.2.2 (ds.getD i It.zero).1 (css.getD i []).length (ds.getD i It.zero).2.1 (css.getD i [])
 low : ∀ i, i < css.length → B ≤ (ds.getD i It.zero).2.2.1 ∧ (ds.getD i It.zero).2.2.2 ≤ U
 away : ∀ i, i < css.length → ∀ g, Value.ownBlock (.slice p n c) = some g → g < (ds.getD i It.zero).2.2.1 ∨ (ds.getD i It.zero).2.2.2 ≤ g
 apart : ∀ i j, i < j → j < css.length → (ds.getD i It.zero).2.2.2 ≤ (ds.getD j It.zero).2.2.1
 top : ∀ g, Value.ownBlock (.slice p n c) = some g → g < U
def OwnCC (w : World) (B U : Nat) (p : Option Addr) (n c : Nat) (css : List (List Cel)) : Prop := ∃ ds, OwnSS w B U p n c css ds
theorem OwnCC.nil (w : World) (B U : Nat) : OwnCC w B U none 0 0 [] := ⟨[], rfl, rfl, World.ownsRow_nil _ _ _ _, fun i h => by simp at h, fun i h => by simp at h, fun i h => by simp at h, fun i j _ h => by simp at h, fun g h => by cases h⟩
theorem OwnCC.ccin {w : World} {B U : Nat} {p : Option Addr} {n c : Nat} {css : List (List Cel)} (h : OwnCC w B U p n c css) : CCIn w p css := fun hn => by
 obtain ⟨ds, h⟩ := h; have hl := h.len; obtain ⟨g, cap, hv, hb, hg⟩ := h.row.form (by omega); simp only [Value.slice.injEq, true_and] at hv; obtain ⟨rfl, rfl⟩ := hv; refine ⟨g, 0, rfl, fun i hi => ⟨(ds.getD i It.zero).1, (ds.getD i It.zero).2.1, ?_, (h.item i hi).toC.cin⟩⟩; rw [Nat.zero_add, h.row.cellAt i (by omega)]; exact vals_at ds css i hi
theorem OwnSS.other {w w' : World} {B U : Nat} {p : Option Addr} {n c : Nat} {css : List (List Cel)} {ds : List It} (h : OwnSS w B U p n c css ds) (hs : w.heap.size ≤ w'.heap.size) (hb : ∀ k, k < w.heap.size → B ≤ k → k < U → w'.heap[k]? = w.heap[k]?) : OwnSS w' B U p n c css ds := by
 refine ⟨h.len, h.dlen, ⟨h.row.1, ?_⟩, fun i hi => (h.item i hi).other hs (fun k h1 h2 h3 => hb k h1 (by have := h.low i hi; omega) (by have := h.low i hi; omega)), h.low, h.away, h.apart, h.top⟩
 rcases h.row.2 with h' | ⟨g, cap, cur, hv, hB, hg, r⟩
 ·exact .inl h'
 ·refine .inr ⟨g, cap, cur, hv, hB, (hb g (Array.getElem?_eq_some_iff.1 hg).1 hB (h.top g ?_)).trans hg, r⟩
  simp only [Value.slice.injEq] at hv; rw [hv.1]; rfl
theorem OwnCC.below {w w' : World} {B U : Nat} {p : Option Addr} {n c : Nat} {css : List (List Cel)} (h : OwnCC w B U p n c css) (hb : Below w.heap.size w w') : OwnCC w' B U p n c css := by
 obtain ⟨ds, h⟩ := h; exact ⟨ds, h.other hb.size (fun k hk _ _ => hb.block k hk)⟩
theorem OwnCC.keep {w w' : World} {B U B' U' : Nat} {p : Option Addr} {n c : Nat} {css : List (List Cel)} (h : OwnCC w B U p n c css) (hk : Keep B' U' w w') (ho : U ≤ B' ∨ U' ≤ B) : OwnCC w' B U p n c css := by
 obtain ⟨ds, h⟩ := h; exact ⟨ds, h.other hk.size (fun k h1 h2 h3 => hk.block k h1 (by omega))⟩
theorem OwnCC.up {w : World} {B U U' : Nat} {p : Option Addr} {n c : Nat} {css : List (List Cel)} (h : OwnCC w B U p n c css) (hU : U ≤ U') : OwnCC w B U' p n c css := by
 obtain ⟨ds, h⟩ := h; exact ⟨ds, h.len, h.dlen, h.row, h.item, fun i hi => ⟨(h.low i hi).1, Nat.le_trans (h.low i hi).2 hU⟩, h.away, h.apart, fun g hg => Nat.lt_of_lt_of_le (h.top g hg) hU⟩
theorem css_append_at (cs : List (List Cel)) (c : List Cel) (i : Nat) (h : i ≤ cs.length) : (cs ++ [c]).getD i [] = if i = cs.length then c else cs.getD i [] := by
 by_cases e : i = cs.length
 ·subst e; simp [List.getD]
 ·rw [if_neg e, List.getD, List.getD, List.getElem?_append_left (by omega)]
theorem vals_append (ds : List It) (css : List (List Cel)) (d : It) (c : List Cel) (h : ds.length = css.length) : vals (ds ++ [d]) (css ++ [c]) = vals ds css ++ [.slice d.1 c.length d.2.1] := by
 apply List.ext_getElem?
 intro i
 rcases Nat.lt_trichotomy i css.length with hi | hi | hi
 ·rw [vals_at _ _ _ (by simp; omega), List.getElem?_append_left (by simpa [vals] using hi), vals_at _ _ _ hi, ds_append_at _ _ _ (by omega), css_append_at _ _ _ (by omega), if_neg (by omega), if_neg (by omega)]
 ·subst hi
  rw [vals_at _ _ _ (by simp), List.getElem?_append_right (by simp [vals]), ds_append_at _ _ _ (by omega), css_append_at _ _ _ (by omega), if_pos h.symm, if_pos rfl]
  simp [vals]
 ·rw [List.getElem?_eq_none (by simp [vals]; omega), List.getElem?_eq_none (by simp [vals]; omega)]
theorem app_item (W0 w : World) {ops : Array Oper} {rest : List Oper} {o : Oper} {a : Act} {Q : Exit → Act → World → Prop} (hgd : o.guard = none) (s x : Operand)
 (ho : o.op = .call { callee := .builtin .append, args := #[s, x], argTypes := #[79, 79] }) (B : Nat) (p : Option Addr) (n c : Nat) (css : List (List Cel))
 (hs : a.eval s = .slice p n c) (hown : OwnCC W0 B W0.heap.size p n c css) (hb0 : Below W0.heap.size W0 w) (hB : B ≤ W0.heap.size) (q : Option Addr) (m cq : Nat) (cs : List Cel) (hit : OwnC w W0.heap.size q m cq cs)
 (hx : a.eval x = .slice (some ⟨w.heap.size, 0, none⟩) 1 1) (hlen : n + 1 ≤ 1000000)
 (h : ∀ g n' cap w', OwnCC w' B w'.heap.size (some ⟨g, 0, none⟩) n' cap (css ++ [cs]) → Below B (w.alloc (.cells #[.slice q m cq] 46)) w' → Hid (n' = n + 1) → wpList Tryz.prog ops Q rest (a.put o.dst (.slice (some ⟨g, 0, none⟩) n' cap)) w') : wpList Tryz.prog ops Q (o :: rest) a (w.alloc (.cells #[.slice q m cq] 46)) := by
 obtain ⟨i0, hi, hz0, hz1, hz2⟩ := info_parts infoCells; obtain ⟨ds, hss⟩ := hown; have hal : Below w.heap.size w (w.alloc (.cells #[.slice q m cq] 46)) := (Below.refl _ _).alloc (Nat.le_refl _) _; have hb1 := Below.on hb0 hal; refine wpList_append_lies _ hgd s x 79 ho B 46 i0 (.slice none 0 0) 1 24 Tryz.underlying79 hi hz0 hz1 hz2 rfl (by decide) (.slice p n c) n (vals ds css) hs (row_below hss.row hb1) ⟨w.heap.size, 0, none⟩ 1 1 [.slice q m cq] hx rfl (cell_one_new _ _ _) (fun u hu => by simp at hu; rw [hu]; rfl) (by decide) (by unfold maxLen; omega) (by omega) (Nat.le_trans hB hb1.size) _ rfl ?_
 intro g cap w' hown' hgrow hat hlt
 have hown : ∀ k, Value.ownBlock (.slice p n c) = some k → B ≤ k ∧ k < W0.heap.size := fun k hk => hss.row.lt k hk
 have hm := hit.1
 have hg2 : g < W0.heap.size ∨ w.heap.size ≤ g := by
  rcases hat with h' | h'
  ·exact .inl (hown g h').2
  ·right; rw [h']; simp
 have hws := hb0.size
 have keepS : ∀ k, k < w.heap.size → (∀ j, Value.ownBlock (.slice p n c) = some j → k ≠ j) → w'.heap[k]? = w.heap[k]? := fun k hk hne =>
  (hgrow.block k (by simp; omega) (fun e => hne k e.symm rfl)).trans (Below.heap_alloc _ _ _ hk)
 have hitU := hit.up; refine h g _ cap w' ⟨ds ++ [(q, cq, W0.heap.size, w.heap.size)], ?_⟩ ((Below.refl _ _).grown hgrow (Nat.le_trans hB hb1.size) (fun k hk => (hown k hk).1)) rfl; have hdl := hss.dlen; have hln := hss.len; refine ⟨by simp; omega, by simp; omega, by rw [vals_append _ _ _ _ hdl, ← hm]; exact hown', fun i hi => ?_, fun i hi => ?_, fun i hi k hk => ?_, fun i j hij hj => ?_, fun k hk => ?_⟩
 ·have hi' : i ≤ css.length := by simp at hi; omega
  rw [ds_append_at _ _ _ (by omega), css_append_at _ _ _ hi']
  by_cases e : i = css.length
  ·rw [if_pos (by omega), if_pos e, ← hm]
   exact hitU.other (by have := hgrow.size; simp at this; omega) (fun k h1 h2 h3 => keepS k h1 (fun j hj => by have := (hown j hj).2; omega))
  ·rw [if_neg (by omega), if_neg e]
   refine ((hss.item i (by omega)).below hb0).other (by have := hgrow.size; simp at this; omega) (fun k h1 h2 h3 => keepS k h1 (fun j hj => ?_)); have := hss.away i (by omega) j hj
   omega
 ·have hi' : i ≤ css.length := by simp at hi; omega
  rw [ds_append_at _ _ _ (by omega)]
  have hwl : w.heap.size ≤ w'.heap.size := by have := hgrow.size; simp at this; omega
  by_cases e : i = css.length
  ·rw [if_pos (by omega)]; exact ⟨hB, hwl⟩
  ·rw [if_neg (by omega)]
   have := hss.low i (by omega); exact ⟨this.1, by omega⟩
 ·have hi' : i ≤ css.length := by simp at hi; omega
  have hk' : k = g := (Option.some.inj hk).symm; subst hk'; rw [ds_append_at _ _ _ (by omega)]
  by_cases e : i = css.length
  ·rw [if_pos (by omega)]; exact hg2
  ·rw [if_neg (by omega)]
   rcases hat with h' | h'
   ·exact hss.away i (by omega) _ h'
   ·right
    have := (hss.low i (by omega)).2
    have hsz : (w.alloc (.cells #[.slice q m cq] 46)).heap.size = w.heap.size + 1 := by simp
    rw [h', hsz]; omega
 ·have hj' : j ≤ css.length := by simp at hj; omega
  rw [ds_append_at _ _ _ (by omega), ds_append_at _ _ _ (by omega), if_neg (by omega)]
  by_cases e : j = css.length
  ·rw [if_pos (by omega)]
   exact (hss.low i (by omega)).2
  ·rw [if_neg (by omega)]
   exact hss.apart i j hij (by omega)
 ·have hk' : k = g := (Option.some.inj hk).symm
  omega
end Go.Proofs.YtfgmenkoeflhaaaGreatDoor
