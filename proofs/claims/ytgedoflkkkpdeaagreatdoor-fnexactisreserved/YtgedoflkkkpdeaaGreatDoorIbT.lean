/- spec.IsBuiltin, the search; FnExactIsBuiltin walked. Own work of the verifier. -/
import Derived.Test.YtgedoflkkkpdeaaGreatDoorIbS
import Derived.Test.YtgedoflkkkpdeaaGreatDoorCopyT
import Derived.Test.YtgedoflkkkpdeaaGreatDoorRegK
namespace Go.Proofs.YtgedoflkkkpdeaaGreatDoor
open Go Go.RowKit
set_option linter.unusedVariables false

def bAt (j : Nat) : List UInt8 × Int := (bTab 4).getD j ([], 0)
theorem bAt_get (j : Nat) (h : j < 45) : (bTab 4)[j]? = some (bAt j) := by
  have : j < (bTab 4).length := by rw [bTab_len.1]; exact h
  rw [bAt, List.getD_eq_getElem?_getD, List.getElem?_eq_getElem this]; rfl
theorem isBu_hit {x : List UInt8} {a : Int} {j : Nat} (hj : j < 45) (h1 : (bAt j).1 = x) (h2 : (bAt j).2 = a) : isBu x a = true := by
  unfold isBu
  refine List.any_eq_true.2 ⟨bAt j, List.mem_of_getElem? (bAt_get j hj), ?_⟩
  simp [h1, h2]
theorem isBu_miss {x : List UInt8} {a : Int} (h : ∀ q, q < 45 → ¬ ((bAt q).1 = x ∧ (bAt q).2 = a)) : isBu x a = false := by
  cases hb : isBu x a with
  | false => rfl
  | true =>
    exfalso
    unfold isBu at hb
    obtain ⟨p, hp, h2⟩ := List.any_eq_true.1 hb
    obtain ⟨j, hj, rfl⟩ := List.mem_iff_getElem.1 hp
    have hj' : j < 45 := by rw [← bTab_len.1]; exact hj
    have h3 := bAt_get j hj'
    rw [List.getElem?_eq_getElem hj] at h3
    rw [Option.some.inj h3] at h2
    simp only [Bool.and_eq_true, decide_eq_true_eq] at h2
    exact h j hj' h2
set_option maxRecDepth 100000 in
theorem bAt_small : ((List.range 45).all fun j => decide (0 ≤ (bAt j).2 ∧ (bAt j).2 ≤ 3)) = true := by decide
set_option maxRecDepth 100000 in
set_option maxHeartbeats 2000000 in
theorem specIsBu_any (p : Option Addr) (cap : Nat) (xs : List Int) (a : Int) (w : World) (hin : BIn w p xs) :
    Calls Tryz.prog 5 #[.slice p xs.length cap, .int .i64 a] w fun e w' => e = .returned (.bool (isBu (unU xs) a)) ∧ Below w.heap.size w w' := by
  obtain ⟨l, el⟩ : ∃ l, l = xs.length := ⟨_, rfl⟩
  obtain ⟨s, es⟩ : ∃ s, s = strOfNums xs := ⟨_, rfl⟩
  have HCV : Hid (∀ W, Below w.heap.size w W → (convert 22 9 (.slice p l cap)).run Tryz.prog W = .ok (.string s) W) := fun W hW => by rw [es]; exact conv_str (hin.below hW) l cap el 9 Tryz.underlying9
  have HS : Hid (s = bOf (unU xs)) := by rw [es]; exact str_unU xs
  have HT := l7table_any w
  rw [← el]
  clear hin el es
  go_enter Tryz.func5, Tryz.ntmps5
  go_wp2_with fail
  refine HT.mono ?_
  rintro e w2 ⟨p1, p2, n, c1, c2, rfl, rfl, ⟨B, htb⟩, hb2⟩
  obtain ⟨g1, cap1, hv1, _⟩ := htb.nam.form (by decide)
  simp only [Value.slice.injEq] at hv1
  obtain ⟨rfl, hq1⟩ := hv1
  obtain ⟨g2, cap2, hv2, _⟩ := htb.ari.form (by decide)
  simp only [Value.slice.injEq] at hv2
  obtain ⟨rfl, hq2⟩ := hv2
  have HC : Hid (∀ j, j < 45 → w2.cell? ⟨g1, j, none⟩ = some (.string (bOf (bAt j).1)) ∧ w2.cell? ⟨g2, j, none⟩ = some (.int .i64 (bAt j).2)) := fun j hj => by
    have h1 := htb.nam.cellAt j (by omega)
    have h2 := htb.ari.cellAt j (by omega)
    rw [List.getElem?_map, bAt_get j hj] at h1 h2
    exact ⟨h1, h2⟩
  have HB2 : Hid (Below w.heap.size w w2) := hb2
  clear htb hb2 HT hq1 hq2
  go_wp2_with fail
  go_loopw [7] (fun i wr => ∃ j : Nat, j ≤ 45 ∧ i = .int .i64 j ∧ Hid (∀ q, q < j → ¬ ((bAt q).1 = unU xs ∧ (bAt q).2 = a)) ∧ Hid (Below w2.heap.size w2 wr)) (fun i _ => 45 - (intOf i).toNat)
  case atStart => exact ⟨0, by omega, rfl, fun q hq => absurd hq (Nat.not_lt_zero _), Below.refl _ _⟩
  case round =>
    obtain ⟨j, hj, rfl, HP, HB⟩ := hrel
    by_cases hlt : j < 45
    · obtain ⟨h1, h2⟩ := HC.out j hlt
      have d1 := (HB.out.cell (World.block_lt_of_cell? _ _ h1)).trans h1
      have d2 := (HB.out.cell (World.block_lt_of_cell? _ _ h2)).trans h2
      have hsm := List.all_eq_true.1 bAt_small j (List.mem_range.2 hlt)
      simp only [decide_eq_true_eq] at hsm
      have hBw : Below w.heap.size w wr := Below.on HB2.out HB.out
      have hk0 : (0 : Int) ≤ (j : Int) := by omega
      have hk1 : (j : Int) < 45 := by omega
      have hcv2 := HCV.out wr.drew hBw.drew
      have HQ1 : Hid (((bOf (bAt j).1).toList == s.toList) = decide ((bAt j).1 = unU xs)) := by
        show _ = _
        rw [HS.out, bOf_list, bOf_list]
        by_cases h : (bAt j).1 = unU xs
        · rw [h]; simp
        · rw [decide_eq_false h]; simpa using h
      obtain ⟨sj, esj⟩ : ∃ sj, sj = bOf (bAt j).1 := ⟨_, rfl⟩
      obtain ⟨aj, eaj⟩ : ∃ aj, aj = (bAt j).2 := ⟨_, rfl⟩
      rw [← esj] at d1 HQ1
      rw [← eaj] at d2 hsm
      have HEA : Hid (aj = (bAt j).2) := eaj
      clear esj eaj h1 h2 hBw
      by_cases hA : (bAt j).1 = unU xs
      · have hs1 : (sj.toList == s.toList) = true := by rw [HQ1.out]; simpa using hA
        by_cases hB : aj = a
        · have HF : Hid (isBu (unU xs) a = true) := isBu_hit hlt hA (by rw [← HEA.out]; exact hB)
          have ha1 : (aj == a) = true := by simpa using hB
          clear hA hB HQ1
          go_wp2_with fail
          go_region_held3 (fun W => W = wr.drew) (rfl) (fail)
          all_goals go_wp2_with fail
          all_goals go_ret
          all_goals exact ⟨ret_bool HF.out.symm, (Below.on HB2.out HB.out).drew⟩
        · have HN : Hid (∀ q, q < j + 1 → ¬ ((bAt q).1 = unU xs ∧ (bAt q).2 = a)) := fun q hq hh => by
            by_cases e : q = j
            · subst e; exact hB (HEA.out.trans hh.2)
            · exact HP.out q (by omega) hh
          have ha1 : (aj == a) = false := by simpa using hB
          have HB3 : Hid (Below w2.heap.size w2 wr.drew) := HB.out.drew
          clear hA hB HQ1
          go_wp2_with fail
          go_region_held3 (fun W => W = wr.drew) (rfl) (fail)
          all_goals go_wp2_with fail
          all_goals go_roundw
          all_goals first
            | (simp [intOf]; omega)
            | exact ⟨j + 1, by omega, by go_num, HN, HB3⟩
      · have hs1 : (sj.toList == s.toList) = false := by rw [HQ1.out]; simpa using hA
        have HN : Hid (∀ q, q < j + 1 → ¬ ((bAt q).1 = unU xs ∧ (bAt q).2 = a)) := fun q hq hh => by
          by_cases e : q = j
          · subst e; exact hA hh.1
          · exact HP.out q (by omega) hh
        have HB3 : Hid (Below w2.heap.size w2 wr.drew) := HB.out.drew
        clear hA HQ1
        go_wp2_with fail
        refine wp_region_held_drew (S := fun W => W = wr.drew) (by kernel_rfl) ?_ (fun hHeld => ?_)
        · exact rfl
        refine hTake (i := 0) (v := .slice (some ⟨g1, 0, none⟩) 45 c1) (some 18) (by kernel_rfl) (by kernel_rfl) (by kernel_rfl) (by kernel_rfl) (by kernel_rfl) (fun _ _ _ h => h) (fun o ho W hSw => ?y0) (by assumption) ?_
        case y0 =>
          cases ho
          simp [execOp, go_sem, Act.eval]
        simp only [Act.put, List.setIfInBounds_toArray, List.set_cons_zero, List.set_cons_succ]
        refine hTake (i := 1) (v := .int .i64 j) (some 19) (by kernel_rfl) (by kernel_rfl) (by kernel_rfl) (by kernel_rfl) (by kernel_rfl) (fun _ _ _ h => h) (fun o ho W hSw => ?y1) (by assumption) ?_
        case y1 =>
          cases ho
          simp [execOp, go_sem, Act.eval]
        simp only [Act.put, List.setIfInBounds_toArray, List.set_cons_zero, List.set_cons_succ]
        refine hTake (i := 2) (v := .pointer (some ⟨g1, j, none⟩)) (some 20) (by kernel_rfl) (by kernel_rfl) (by kernel_rfl) (by kernel_rfl) (by kernel_rfl) (fun _ _ _ h => h) (fun o ho W hSw => ?y2) (by assumption) ?_
        case y2 =>
          cases ho
          simp [execOp, go_sem, Act.eval, hk0, hk1]
        simp only [Act.put, List.setIfInBounds_toArray, List.set_cons_zero, List.set_cons_succ]
        refine hTake (i := 3) (v := .string sj) (some 21) (by kernel_rfl) (by kernel_rfl) (by kernel_rfl) (by kernel_rfl) (by kernel_rfl) (fun _ _ _ h => h) (fun o ho W hSw => ?y3) (by assumption) ?_
        case y3 =>
          cases ho
          subst hSw
          simp [execOp, go_sem, Act.eval, d1]
        simp only [Act.put, List.setIfInBounds_toArray, List.set_cons_zero, List.set_cons_succ]
        refine hTake (i := 4) (v := .slice p l cap) (some 22) (by kernel_rfl) (by kernel_rfl) (by kernel_rfl) (by kernel_rfl) (by kernel_rfl) (fun _ _ _ h => h) (fun o ho W hSw => ?y4) (by assumption) ?_
        case y4 =>
          cases ho
          simp [execOp, go_sem, Act.eval]
        simp only [Act.put, List.setIfInBounds_toArray, List.set_cons_zero, List.set_cons_succ]
        refine hTake (i := 5) (v := .string s) (some 23) (by kernel_rfl) (by kernel_rfl) (by kernel_rfl) (by kernel_rfl) (by kernel_rfl) (fun _ _ _ h => h) (fun o ho W hSw => ?y5) (by assumption) ?_
        case y5 =>
          cases ho
          subst hSw
          simp [execOp, go_sem, Act.eval, hcv2]
        simp only [Act.put, List.setIfInBounds_toArray, List.set_cons_zero, List.set_cons_succ]
        refine hTake (i := 6) (v := .bool false) (some 24) (by kernel_rfl) (by kernel_rfl) (by kernel_rfl) (by kernel_rfl) (by kernel_rfl) (fun _ _ _ h => h) (fun o ho W hSw => ?y6) (by assumption) ?_
        case y6 =>
          cases ho
          simp [execOp, go_sem, Act.eval, hs1]
        simp only [Act.put, List.setIfInBounds_toArray, List.set_cons_zero, List.set_cons_succ]
        refine hTake (i := 7) (v := .bool false) (some 25) (by kernel_rfl) (by kernel_rfl) (by kernel_rfl) (by kernel_rfl) (by kernel_rfl) (fun _ _ _ h => h) (fun o ho W hSw => ?y7) (by assumption) ?_
        case y7 =>
          cases ho
          simp [execOp, go_sem, Act.eval]
        simp only [Act.put, List.setIfInBounds_toArray, List.set_cons_zero, List.set_cons_succ]
        refine hSkip (i := 8) (some 26) (by kernel_rfl) (by kernel_rfl) (by kernel_rfl) (by kernel_rfl) (by kernel_rfl) (fun _ _ _ h => h) (by assumption) ?_
        simp only [Act.put, List.setIfInBounds_toArray, List.set_cons_zero, List.set_cons_succ]
        refine hSkip (i := 9) (some 27) (by kernel_rfl) (by kernel_rfl) (by kernel_rfl) (by kernel_rfl) (by kernel_rfl) (fun _ _ _ h => h) (by assumption) ?_
        simp only [Act.put, List.setIfInBounds_toArray, List.set_cons_zero, List.set_cons_succ]
        refine hSkip (i := 10) (some 28) (by kernel_rfl) (by kernel_rfl) (by kernel_rfl) (by kernel_rfl) (by kernel_rfl) (fun _ _ _ h => h) (by assumption) ?_
        simp only [Act.put, List.setIfInBounds_toArray, List.set_cons_zero, List.set_cons_succ]
        refine hSkip (i := 11) (some 29) (by kernel_rfl) (by kernel_rfl) (by kernel_rfl) (by kernel_rfl) (by kernel_rfl) (fun _ _ _ h => h) (by assumption) ?_
        simp only [Act.put, List.setIfInBounds_toArray, List.set_cons_zero, List.set_cons_succ]
        refine hSkip (i := 12) (some 30) (by kernel_rfl) (by kernel_rfl) (by kernel_rfl) (by kernel_rfl) (by kernel_rfl) (fun _ _ _ h => h) (by assumption) ?_
        simp only [Act.put, List.setIfInBounds_toArray, List.set_cons_zero, List.set_cons_succ]
        refine hSkip (i := 13) (some 31) (by kernel_rfl) (by kernel_rfl) (by kernel_rfl) (by kernel_rfl) (by kernel_rfl) (fun _ _ _ h => h) (by assumption) ?_
        simp only [Act.put, List.setIfInBounds_toArray, List.set_cons_zero, List.set_cons_succ]
        refine hTake (i := 14) (v := .bool false) (some 32) (by kernel_rfl) (by kernel_rfl) (by kernel_rfl) (by kernel_rfl) (by kernel_rfl) (fun _ _ _ h => h) (fun o ho W hSw => ?y14) (by assumption) ?_
        case y14 =>
          cases ho
          simp [execOp, go_sem, Act.eval]
        simp only [Act.put, List.setIfInBounds_toArray, List.set_cons_zero, List.set_cons_succ]
        refine wpAnyH_done (by kernel_rfl) ?_ _
        change Exit.then _ _ _ _ wr.drew
        go_wp2_with fail
        go_roundw
        case rel => exact ⟨j + 1, by omega, by go_num, HN, HB3⟩
        case measure => simp [intOf]; omega
    · obtain rfl : j = 45 := by omega
      have HF : Hid (isBu (unU xs) a = false) := isBu_miss HP.out
      go_wp2_with fail
      go_ret
      exact ⟨ret_bool HF.out.symm, Below.on HB2.out HB.out⟩

end Go.Proofs.YtgedoflkkkpdeaaGreatDoor
