/- DefaultOps of the program. Own work of the verifier. -/
import Derived.Test.YtbfhpnacoigfkaaDoorDefP
import Derived.Test.YtbfhpnacoigfkaaDoorOpsM5
import Derived.Test.YtbfhpnacoigfkaaDoorFieldsL
namespace Go.Proofs.YtbfhpnacoigfkaaDoor
open Go Go.RowKit Go.Maps
set_option linter.unusedVariables false

theorem three_at {α : Type} (a b c : α → Value) : ∀ (rs : List α) (i : Nat) (h : i < rs.length), (rs.flatMap (fun r => [a r, b r, c r]))[i * 3]? = some (a rs[i]) ∧ (rs.flatMap (fun r => [a r, b r, c r]))[i * 3 + 1]? = some (b rs[i]) ∧ (rs.flatMap (fun r => [a r, b r, c r]))[i * 3 + 2]? = some (c rs[i])
  | [], i, h => by simp at h
  | r :: rs, 0, _ => by simp
  | r :: rs, i + 1, h => by
    have := three_at a b c rs i (by simpa using h)
    have e : (r :: rs).flatMap (fun r => [a r, b r, c r]) = a r :: b r :: c r :: rs.flatMap (fun r => [a r, b r, c r]) := by simp
    rw [e, show (i + 1) * 3 = (i * 3) + 1 + 1 + 1 by omega, show (i * 3) + 1 + 1 + 1 + 1 = (i * 3 + 1) + 1 + 1 + 1 by omega, show (i * 3) + 1 + 1 + 1 + 2 = (i * 3 + 2) + 1 + 1 + 1 by omega]
    simpa using this
def rowsV : List Value := dRows.flatMap (fun r => [.int .i64 r.1, .int .i64 r.2.1, strV r.2.2])
structure RowsIn (w : World) (A : Nat) : Prop where
  at_ : ∀ i, i < 13 → w.cell? ⟨A, i * 3, none⟩ = some (.int .i64 (rowAt i).1) ∧ w.cell? ⟨A, i * 3 + 1, none⟩ = some (.int .i64 (rowAt i).2.1) ∧ w.cell? ⟨A, i * 3 + 2, none⟩ = some (strV (rowAt i).2.2)
theorem rows_made (w : World) (t : TypeId) : RowsIn (w.alloc (.cells rowsV.toArray t)) w.heap.size := ⟨fun i hi => by
  have hl : i < dRows.length := by rw [dRows_len]; exact hi
  have h := three_at (fun r : Int × Int × List UInt8 => Value.int .i64 r.1) (fun r => Value.int .i64 r.2.1) (fun r => strV r.2.2) dRows i hl
  have e : dRows[i] = rowAt i := by rw [rowAt, List.getD, List.getElem?_eq_getElem hl]; rfl
  rw [e] at h
  rw [World.cell?_alloc_new, World.cell?_alloc_new, World.cell?_alloc_new]
  simpa [rowsV] using h⟩
/-- The table of blanks. -/
def SpIn (w : World) : Prop := ∀ c : Nat, c < 256 → w.cell? ⟨0, c, none⟩ = some (.int .u8 (if Lib.isSp (UInt8.ofNat c) then 1 else 0))
theorem SpIn.below {w w' : World} (h : SpIn w) (hb : Below w.heap.size w w') : SpIn w' := fun c hc => (hb.cell (World.block_lt_of_cell? _ _ (h c hc))).trans (h c hc)
theorem fields_any (l : List UInt8) (w : World) (hl : l.length < 100) (ha : ∀ b ∈ l, b.toNat < 128) (hf : Lib.fields l = wd [] l) (hT : SpIn w) :
    Calls Tryd.prog 17 #[.string (bOf l)] w fun e w' => e = .returned (.slice (some ⟨w.heap.size, 0, none⟩) (wd [] l).length (wd [] l).length) ∧ w' = w.alloc (.cells ((wd [] l).map strV).toArray 9) := by
  have h := Any.strings_Fields_core Tryd.fieldsL infoStr (bOf l) w (by rw [bOf_size]; omega) (fun j b hb => ha b (List.mem_of_getElem? hb)) hT
  have e : (bOf l).data.toList = l := rfl
  rw [e, hf] at h
  exact h
def DefE (w : World) (e : Ending) (w' : World) : Prop := ∃ p n c, e = .returned (.slice p n c) ∧ OwnO w' w.heap.size p n c dTab ∧ Below w.heap.size w w'

set_option maxRecDepth 100000 in
set_option maxHeartbeats 4000000 in
theorem implDef_any (w : World) (hT : SpIn w) : Calls Tryd.prog 6 #[] w (DefE w) := by
  have HT : Hid (SpIn w) := hT
  have hmm := @run_makeMap Tryd.prog
  obtain ⟨wR, eR⟩ : ∃ wR, wR = w.alloc (.cells rowsV.toArray 40) := ⟨_, rfl⟩
  have hRs : wR.heap.size = w.heap.size + 1 := by rw [eR]; simp
  have hrows : RowsIn wR w.heap.size := by rw [eR]; exact rows_made w _
  have hbR : Below w.heap.size w wR := by rw [eR]; exact (Below.refl _ _).alloc (Nat.le_refl _) _
  obtain ⟨wA, eA⟩ : ∃ wA, wA = wR.alloc (.map #[] 0) := ⟨_, rfl⟩
  have hm0 : OpMap wA (w.heap.size + 1) 0 [] := by rw [eA, ← hRs]; exact OpMap.made wR
  have hbA : Below wR.heap.size wR wA := by rw [eA]; exact (Below.refl _ _).alloc (Nat.le_refl _) _
  have hAs : wA.heap.size = w.heap.size + 1 + 1 := by rw [eA]; simp [hRs]
  have HRO : Hid (RowsIn wA w.heap.size) := ⟨fun i hi => ⟨(hbA.cell (World.block_lt_of_cell? _ _ (hrows.at_ i hi).1)).trans (hrows.at_ i hi).1, (hbA.cell (World.block_lt_of_cell? _ _ (hrows.at_ i hi).2.1)).trans (hrows.at_ i hi).2.1, (hbA.cell (World.block_lt_of_cell? _ _ (hrows.at_ i hi).2.2)).trans (hrows.at_ i hi).2.2⟩⟩
  have HBA : Hid (Below w.heap.size w wA) := Below.on hbR hbA
  have HM0 : Hid (OpMap wA (w.heap.size + 1) 0 []) := hm0
  have HAS : Hid (wA.heap.size = w.heap.size + 1 + 1) := hAs
  clear hT hm0 hrows hbR hbA hAs
  go_enter Tryd.func6, Tryd.ntmps6
  go_wp2_with fail
  have eA' : wA = (w.alloc (Obj.cells #[.int .i64 1200, .int .i64 0, .string ⟨#[58, 45, 32, 45, 45, 62]⟩, .int .i64 1200, .int .i64 4, .string ⟨#[58, 45, 32, 63, 45]⟩, .int .i64 1150, .int .i64 4, .string ⟨#[100, 121, 110, 97, 109, 105, 99]⟩, .int .i64 1100, .int .i64 1, .string ⟨#[59]⟩, .int .i64 1050, .int .i64 1, .string ⟨#[45, 62]⟩, .int .i64 1000, .int .i64 1, .string ⟨#[44]⟩, .int .i64 900, .int .i64 3, .string ⟨#[92, 43]⟩, .int .i64 700, .int .i64 0, .string ⟨#[61, 32, 92, 61, 32, 61, 61, 32, 92, 61, 61, 32, 64, 60, 32, 64, 61, 60, 32, 64, 62, 32, 64, 62, 61, 32, 61, 46, 46, 32, 105, 115, 32, 61, 58, 61, 32, 61, 92, 61, 32, 60, 32, 61, 60, 32, 62, 32, 62, 61]⟩, .int .i64 500, .int .i64 2, .string ⟨#[43, 32, 45, 32, 47, 92, 32, 92, 47, 32, 120, 111, 114]⟩, .int .i64 400, .int .i64 2, .string ⟨#[42, 32, 47, 32, 47, 47, 32, 109, 111, 100, 32, 114, 101, 109, 32, 60, 60, 32, 62, 62]⟩, .int .i64 200, .int .i64 0, .string ⟨#[42, 42]⟩, .int .i64 200, .int .i64 1, .string ⟨#[94]⟩, .int .i64 200, .int .i64 3, .string ⟨#[45, 32, 43, 32, 92]⟩] 40)).alloc (.map #[] 0) := by rw [eA, eR]; rfl
  rw [← eA']
  clear eA eA' eR hmm hRs wR
  go_loopw [24] (fun i wr => ∃ (k N : Nat) (D : List Cel), k ≤ 13 ∧ N ≤ 60 ∧ i = .int .i64 k ∧ Hid (D ++ restO k = dOps) ∧ Hid (N ≤ D.length) ∧ Hid (OpMap wr (w.heap.size + 1) N (D.foldl addT [])) ∧ Hid (Below (w.heap.size + 1) wA wr) ∧ w.heap.size + 1 + 1 ≤ wr.heap.size) (fun i _ => 13 - (intOf i).toNat)
  case atStart => exact ⟨0, 0, [], by omega, by omega, rfl, rfl, Nat.le_refl _, HM0, Below.refl _ _, by have := HAS.out; omega⟩
  case round =>
    obtain ⟨k, N, D, hk, hN, rfl, HQ, HND, HM, HB, hsz⟩ := hrel
    by_cases hlt : k < 13
    · obtain ⟨hw1, hw2, hw3⟩ := wordsLen hlt
      have hkd : decide ((k : Int) < 13) = true := by simp; omega
      obtain ⟨d0, d1, d2⟩ := HRO.out.at_ k hlt
      have hlw : w.heap.size < w.heap.size + 1 := Nat.lt_succ_self _
      replace d0 : wr.cell? ⟨w.heap.size, k * 3, none⟩ = _ := (HB.out.cell (p := ⟨w.heap.size, k * 3, none⟩) hlw).trans d0
      replace d1 : wr.cell? ⟨w.heap.size, k * 3 + 1, none⟩ = _ := (HB.out.cell (p := ⟨w.heap.size, k * 3 + 1, none⟩) hlw).trans d1
      replace d2 : wr.cell? ⟨w.heap.size, k * 3 + 2, none⟩ = _ := (HB.out.cell (p := ⟨w.heap.size, k * 3 + 2, none⟩) hlw).trans d2
      clear hlw
      have HRA : Hid _ := restO_at hlt
      have HOR : Hid (opsRow (rowAt k) = (wd [] (rowAt k).2.2).map (fun x => ((rowAt k).1, (rowAt k).2.1, numsU x))) := rfl
      obtain ⟨r, er⟩ : ∃ r, r = rowAt k := ⟨_, rfl⟩
      rw [← er] at d0 d1 d2 hw1 hw2 hw3 HRA HOR
      obtain ⟨r0, r1, r2⟩ := r
      simp only [strV] at d0 d1 d2 hw1 hw2 hw3 HOR
      have hal : Below wr.heap.size wr (wr.alloc (.cells #[.int .i64 r0, .int .i64 r1, .string (bOf r2)] 40)) := (Below.refl _ _).alloc (Nat.le_refl _) _
      have HBw : Hid (Below w.heap.size w (wr.alloc (.cells #[.int .i64 r0, .int .i64 r1, .string (bOf r2)] 40))) := (HBA.out.trans (HB.out.mono (by omega))).trans (hal.mono (by omega))
      have HF := fields_any r2 (wr.alloc (.cells #[.int .i64 r0, .int .i64 r1, .string (bOf r2)] 40)) hw1 hw2 hw3 (HT.out.below HBw.out)
      obtain ⟨c0, c1, c2⟩ := three_new wr (.int .i64 r0) (.int .i64 r1) (.string (bOf r2)) 40
      have hwl : (wd [] r2).length ≤ 60 := by
        have h1 := congrArg List.length HQ.out
        rw [HRA.out, HOR.out] at h1
        simp only [List.length_append, List.length_map] at h1
        have := dOps_len
        omega
      have HM1 : Hid (OpMap (wr.alloc (.cells #[.int .i64 r0, .int .i64 r1, .string (bOf r2)] 40)) (w.heap.size + 1) N (D.foldl addT [])) := HM.out.below hal
      have HB1 : Hid (Below (w.heap.size + 1) wA (wr.alloc (.cells #[.int .i64 r0, .int .i64 r1, .string (bOf r2)] 40))) := HB.out.trans (hal.mono (by omega))
      obtain ⟨sr, esr⟩ : ∃ s, s = bOf r2 := ⟨_, rfl⟩
      rw [← esr] at d2 HF c0 c1 c2 HM1 HB1 HBw
      obtain ⟨nw, enw⟩ : ∃ n, n = (wd [] r2).length := ⟨_, rfl⟩
      rw [← enw] at HF hwl
      have HNW : Hid (nw = (wd [] r2).length) := enw
      clear er hw1 hw2 hw3 esr hal enw
      go_wp2_with fail
      refine HF.mono ?_
      rintro e w2 ⟨rfl, hw2⟩
      have hb2 : Below (wr.heap.size + 1) (wr.alloc (.cells #[.int .i64 r0, .int .i64 r1, .string sr] 40)) w2 := by rw [hw2]; exact (Below.refl _ _).alloc (by simp) _
      have hs2 : w2.heap.size = wr.heap.size + 1 + 1 := by rw [hw2]; simp
      have HC2 : Hid (w2.cell? ⟨wr.heap.size, 0, none⟩ = some (.int .i64 r0) ∧ w2.cell? ⟨wr.heap.size, 1, none⟩ = some (.int .i64 r1)) := ⟨(hb2.cell (p := ⟨wr.heap.size, 0, none⟩) (Nat.lt_succ_self _)).trans c0, (hb2.cell (p := ⟨wr.heap.size, 1, none⟩) (Nat.lt_succ_self _)).trans c1⟩
      have HWD : Hid (∀ j, j < nw → ∃ x, (wd [] r2)[j]? = some x ∧ w2.cell? ⟨wr.heap.size + 1, j, none⟩ = some (.string (bOf x))) := fun j hj => by
        have hj' : j < (wd [] r2).length := by rw [← HNW.out]; exact hj
        refine ⟨(wd [] r2)[j], List.getElem?_eq_getElem hj', ?_⟩
        have h9 := World.cell?_alloc_new (wr.alloc (.cells #[.int .i64 r0, .int .i64 r1, .string sr] 40)) ((wd [] r2).map strV).toArray 9 j
        rw [World.size_alloc] at h9
        rw [hw2, h9]
        simp [hj', strV]
      have HM2 : Hid (OpMap w2 (w.heap.size + 1) N (D.foldl addT [])) := HM1.out.below (by simpa using hb2)
      have HB2 : Hid (Below (w.heap.size + 1) wA w2) := HB1.out.trans (hb2.mono (by omega))
      have HS2 : Hid (w2.heap.size = wr.heap.size + 1 + 1) := hs2
      have HQ2 : Hid (D ++ ((wd [] r2).map (fun x => (r0, r1, numsU x)) ++ restO (k + 1)) = dOps) := by show _ = _; rw [← HOR.out, ← HRA.out]; exact HQ.out
      obtain ⟨A4, eA4⟩ : ∃ a, a = wr.heap.size := ⟨_, rfl⟩
      have hA4 : w.heap.size + 1 < A4 := by omega
      simp only [World.size_alloc, ← eA4]
      rw [← eA4] at HC2 HWD HS2
      clear hw2 hb2 hs2 HF c0 c1 c2 HM1 HB1 eA4 d0 d1 d2
      go_wp2_with fail
      go_loopw [32] (fun j wv => ∃ (i N : Nat) (D : List Cel), i ≤ nw ∧ N ≤ 60 ∧ j = .int .i64 i ∧ Hid (D ++ (((wd [] r2).drop i).map (fun x => (r0, r1, numsU x)) ++ restO (k + 1)) = dOps) ∧ Hid (N ≤ D.length) ∧ Hid (OpMap wv (w.heap.size + 1) N (D.foldl addT [])) ∧ Hid (w2.grownBy wv (some (w.heap.size + 1)))) (fun j _ => nw - (intOf j).toNat)
      case atStart => exact ⟨0, N, D, by omega, hN, rfl, HQ2, HND, HM2, ⟨rfl, rfl, rfl, Nat.le_refl _, fun _ _ _ => rfl⟩⟩
      case round =>
        obtain ⟨i, N5, D5, hi5, hN5, rfl, HQ5, HND5, HM5, HG5⟩ := hrel
        by_cases hlt5 : i < nw
        · obtain ⟨x, hx, hcx⟩ := HWD.out i hlt5
          have hkp : ∀ (g o : Nat) (v : Value), A4 ≤ g → w2.cell? ⟨g, o, none⟩ = some v → wr.cell? ⟨g, o, none⟩ = some v := fun g o v hg h => (World.cell?_of_block (HG5.out.block g (World.block_lt_of_cell? _ _ h) (by simp; omega))).trans h
          have f0 := hkp _ _ _ (by omega) hcx
          have f1 := hkp _ _ _ (Nat.le_refl _) HC2.out.1
          have f2 := hkp _ _ _ (Nat.le_refl _) HC2.out.2
          have HQ6 : Hid ((D5 ++ [(r0, r1, numsU x)]) ++ (((wd [] r2).drop (i + 1)).map (fun x => (r0, r1, numsU x)) ++ restO (k + 1)) = dOps) := by
            show _ = _
            have hi' : i < (wd [] r2).length := (List.getElem?_eq_some_iff.1 hx).1
            have hxe : (wd [] r2)[i] = x := (List.getElem?_eq_some_iff.1 hx).2
            rw [← HQ5.out, List.drop_eq_getElem_cons hi', hxe]
            simp
          have hgo : goodO (r0, r1, numsU x) := dOps_good _ (by rw [← HQ6.out]; simp)
          have hlT : (D5.foldl addT []).length + 1 ≤ 61 := by
            have h1 := (rel_fold D5 [] [] Rel.nil (fun o ho => dOps_good o (by rw [← HQ5.out]; exact List.mem_append_left _ ho)) (by
              have h2 := congrArg List.length HQ5.out
              simp only [List.length_append, List.length_nil] at h2 ⊢
              have := dOps_len
              omega)).2
            have h2 := congrArg List.length HQ5.out
            simp only [List.length_append, List.length_nil] at h1 h2
            have := dOps_len
            omega
          have HFD : Hid ((D5 ++ [(r0, r1, numsU x)]).foldl addT [] = addT (D5.foldl addT []) (r0, r1, numsU x)) := by show _ = _; rw [List.foldl_append]; rfl
          have hN6 : N5 + 1 ≤ 60 ∧ N5 + 1 ≤ (D5 ++ [(r0, r1, numsU x)]).length := by
            have h2 := congrArg List.length HQ6.out
            have h3 := HND5.out
            simp only [List.length_append, List.length_cons, List.length_nil] at h2 ⊢
            have := dOps_len
            omega
          have HADD := add_any (w.heap.size + 1) N5 (w.heap.size + 1) (D5.foldl addT []) r0 r1 (numsU x) (bOf x) wr (strOf_numsU x).symm HM5.out hgo.2.2 (by omega) (Nat.le_refl _) (by omega)
          have HN6 : Hid (N5 + 1 ≤ 60 ∧ N5 + 1 ≤ (D5 ++ [(r0, r1, numsU x)]).length) := hN6
          obtain ⟨sx, esx⟩ : ∃ s, s = bOf x := ⟨_, rfl⟩
          rw [← esx] at HADD f0
          clear hkp hcx hx hgo hlT hN6 esx
          go_wp2_with fail
          refine HADD.mono ?_
          rintro e w6 ⟨rfl, ⟨N6, hN6, hm6⟩, _, hg6⟩
          have HM6 : Hid (OpMap w6 (w.heap.size + 1) N6 ((D5 ++ [(r0, r1, numsU x)]).foldl addT [])) := by rw [HFD.out]; exact hm6
          have HG6 : Hid (w2.grownBy w6 (some (w.heap.size + 1))) := HG5.out.andThen hg6 (fun j hj => .inr hj)
          have h60 : N6 ≤ 60 := by have := HN6.out.1; omega
          have HL6 : Hid (N6 ≤ (D5 ++ [(r0, r1, numsU x)]).length) := Nat.le_trans hN6 HN6.out.2
          clear hm6 hg6 HADD hN6 f0 f1 f2
          go_wp2_with fail
          go_roundw
          case rel => exact ⟨i + 1, N6, _, by omega, h60, by go_num, HQ6, HL6, HM6, HG6⟩
          case measure => simp [intOf]; omega
        · obtain rfl : i = nw := by omega
          have HQ6 : Hid (D5 ++ restO (k + 1) = dOps) := by
            show _ = _
            have h9 := HQ5.out
            rw [HNW.out, List.drop_length] at h9
            simpa using h9
          have HB6 : Hid (Below (w.heap.size + 1) wA wr) := HB2.out.grown HG5.out (by have := HS2.out; omega) (fun j hj => by cases hj; exact Nat.le_refl _)
          have hs6 : w.heap.size + 1 + 1 ≤ wr.heap.size := by have := HG5.out.size; have := HS2.out; omega
          go_wp2_with fail
          go_roundw
          case rel => exact ⟨k + 1, N5, D5, by omega, hN5, by go_num, HQ6, HND5, HM5, HB6, hs6⟩
          case measure => simp [intOf]; omega
    · obtain rfl : k = 13 := by omega
      have hDD : D = dOps := by have h9 := HQ.out; rw [restO_end] at h9; simpa using h9
      subst hDD
      have hrel := rel_fold dOps [] [] Rel.nil dOps_good (by have := dOps_len; simp; omega)
      have hpos : 0 < (dOps.foldl addT []).length := by
        have h1 : dOps ≠ [] := by decide
        obtain ⟨o, r, hr⟩ : ∃ o r, dOps = r ++ [o] := ⟨dOps.getLast h1, dOps.dropLast, (List.dropLast_concat_getLast h1).symm⟩
        have hgo := dOps_good o (by rw [hr]; simp)
        have hr2 := rel_fold r [] [] Rel.nil (fun x hx => dOps_good x (by rw [hr]; exact List.mem_append_left _ hx)) (by
          have h2 := congrArg List.length hr
          have := dOps_len
          simp at h2 ⊢; omega)
        have hc := hr2.1.code hgo.2.1 (by
          have h2 := congrArg List.length hr
          have h3 := hr2.2
          have := dOps_len
          simp at h2 h3; omega)
        rw [hr, List.foldl_append]
        show 0 < (addT _ o).length
        rw [addT, if_neg (by rw [hc]; simp), if_neg hgo.1]
        simp
      have HOPS := ops_any (w.heap.size + 1) N (dOps.foldl addT []) wr HM.out (by have h1 := hrel.2; have h2 := dOps_len; simp only [List.length_nil] at h1; omega) hpos
      have HUN : Hid (∀ ds, Asc ds → (∀ x, x ∈ ds ↔ x ∈ dOps.foldl addT []) → ds = dTab) := fun ds h1 h2 => asc_unique _ _ h1 hrel.1.asc (fun x => (h2 x).trans (hrel.1.same x))
      have HBw : Hid (Below w.heap.size w wr) := HBA.out.trans (HB.out.mono (by omega))
      clear hrel hpos
      go_wp2_with fail
      refine HOPS.mono ?_
      rintro e w7 ⟨p7, n7, c7, ds, rfl, hown7, hasc7, hmem7, hb7⟩
      have HF : Hid (DefE w (.returned (.slice p7 n7 c7)) w7) := ⟨p7, n7, c7, rfl, by rw [HUN.out ds hasc7 hmem7] at hown7; exact hown7.mono HBw.out.size, Below.on HBw.out hb7⟩
      clear hown7 hasc7 hmem7 hb7 HOPS
      go_wp2_with fail
      go_ret
      exact HF.out

end Go.Proofs.YtbfhpnacoigfkaaDoor
