/- Texts of PtXC. Own work of the verifier. -/
import Derived.Test.YtedkkghekboahaaUqbj
namespace Go.Proofs.Ytedkkghekboahaa
open Go Go.RowKit Go.Maps
set_option linter.unusedVariables false

set_option maxHeartbeats 8000000 in
set_option maxRecDepth 100000 in
theorem specPut_c (p q pt : Option Addr) (c1 c2 cap : Nat) (cs xs : List Cel) (tr : List Int) (w : World) (hx : xs.length ≤ 1000000000) (hy : tr.length ≤ 1000000000) (hz : cs.length ≤ cap) (hcm : cap ≤ 1000000000) (hbc : ∀ i, i < cs.length → Byte (cs.getD i Cel.none).2.2) (hc : CIn w p xs) (hi : IIn w q tr) (hin : CIn w pt cs) (hs : storeB xs tr = true) (hv : validB cs = true) :
    Calls Try.prog 33 #[.agg #[.slice p xs.length c1, .slice q tr.length c2], .slice pt cs.length cap] w (PutB (putA xs tr cs) w) := by
  obtain ⟨W0, eW0⟩ : ∃ W0, W0 = ((w.alloc (.cells #[.slice p xs.length c1, .slice q tr.length c2] 36)).alloc (.cells #[.slice none 0 0, .slice none 0 0] 36)).alloc (.cells #[.int .i64 0, .int .i64 0, .slice none 0 0] 31) := ⟨_, rfl⟩
  have hb0 : Below w.heap.size w W0 := by
    rw [eW0]; exact (((Below.refl _ _).alloc (Nat.le_refl _) _).alloc (by simp) _).alloc (by simp; omega) _
  have k0 := heap_three w (.cells #[.slice p xs.length c1, .slice q tr.length c2] 36) (.cells #[.slice none 0 0, .slice none 0 0] 36) (.cells #[.int .i64 0, .int .i64 0, .slice none 0 0] 31)
  have kS : W0.heap[w.heap.size]? = some (.cells #[.slice p xs.length c1, .slice q tr.length c2] 36) := by
    rw [eW0, Below.heap_alloc _ _ _ (by simp; omega), Below.heap_alloc _ _ _ (by simp)]; exact heap_alloc_new _ _
  rw [← eW0] at k0
  obtain ⟨k1, k2⟩ := k0
  have hz0 : W0.heap.size = w.heap.size + 1 + 1 + 1 := by rw [eW0]; simp
  have HSX : Hid (∀ W, Below W0.heap.size W0 W → Box2 W w.heap.size (.slice p xs.length c1) (.slice q tr.length c2)) := fun W hW => Box2.of_block ((hW.block w.heap.size (by omega)).trans kS)
  have HBX : Hid (∀ W, Below W0.heap.size W0 W → Box2 W (w.heap.size + 1) (.slice none 0 0) (.slice none 0 0)) := fun W hW => Box2.of_block ((hW.block (w.heap.size + 1) (by omega)).trans k1)
  have HCX : Hid (∀ W, Below W0.heap.size W0 W → Box3 W (w.heap.size + 1 + 1) (.int .i64 0) (.int .i64 0) (.slice none 0 0)) := fun W hW => Box3.of_block ((hW.block (w.heap.size + 1 + 1) (by omega)).trans k2)
  have HO := l10valid_any p q c1 c2 xs tr W0 hx hy (hc.below hb0) (hi.below hb0)
  have HIN : Hid (∀ W, Below W0.heap.size W0 W → CIn W p xs ∧ IIn W q tr ∧ CIn W pt cs) := fun W hW => ⟨hc.below (Below.on hb0 hW), hi.below (Below.on hb0 hW), hin.below (Below.on hb0 hW)⟩
  have HB0 : Hid (∀ W v0 v1 u0 u1 u2, Below W0.heap.size W0 W → Below w.heap.size w (((((W.setCell ⟨w.heap.size + 1, 0, none⟩ v0).setCell ⟨w.heap.size + 1, 1, none⟩ v1).setCell ⟨w.heap.size + 1 + 1, 0, none⟩ u0).setCell ⟨w.heap.size + 1 + 1, 1, none⟩ u1).setCell ⟨w.heap.size + 1 + 1, 2, none⟩ u2)) := fun W v0 v1 u0 u1 u2 hW => below_put3 (below_put2 (Below.on hb0 hW) (by omega) _ _) (by omega) _ _ _
  have HE0 : Hid _ := eW0
  have HZ0 : Hid _ := hz0
  have HVT : Hid (∀ W, Below W0.heap.size W0 W → Calls Try.prog 69 #[.slice pt cs.length cap] W fun e w' => e = .returned (.bool (validB cs)) ∧ Below W.heap.size W w') := fun W hW => specValid_any pt cap cs W (by omega) (HIN.out W hW).2.2
  clear hc hi hin hb0 k1 k2 kS hz0
  rw [eW0] at HO
  clear eW0
  rw [hs] at HO
  rw [hv] at HVT
  obtain ⟨hxl, htl, hshp, _, _⟩ := storeB_parts hs
  have hoks := storeB_ok hs
  obtain ⟨hcs, hok, h2000⟩ := treeOf_spec hbc hv
  have HPA : Hid (putA xs tr cs = if canB xs cs = true then putT xs tr (treeOf cs) else noneP 1) := by show _ = _; unfold putA; rw [if_pos hs, if_pos hv]
  obtain ⟨⟨c, k⟩, et⟩ : ∃ t, t = treeOf cs := ⟨_, rfl⟩
  rw [← et] at hcs hok HPA
  simp only at hcs hok
  have hcan : canB xs cs = cs.all fun c => !badC xs c := canB_eq xs cs (fun d hd => ok_pos (.node c k .nil) hok d (by rw [hcs] at hd; simpa [Fo.cells] using hd))
  rw [hcan] at HPA
  have hkl : k.cells.length ≤ 2000 := by rw [hcs] at h2000; simp at h2000; omega
  have hmk : cs.length = 1 + k.cells.length := by rw [hcs]; simp; omega
  have HTX : Hid (∀ a, a < xs.length → (xs.getD a Cel.none).2.2.length ≤ 100) := fun a ha => by
    have h1 := hoks a ha
    generalize (xs.getD a Cel.none).2.2.length = mm at h1 ⊢
    unfold okW at h1
    split at h1
    · simp at h1; omega
    · simp only [cellB, decide_eq_true_eq] at h1; omega
  have HFB : Hid ((∀ d ∈ ptB xs.length c k, FineC d) ∧ FineC (ptA xs.length c k).1) := ptB_fine xs.length c k hok hxl hkl
  have HOPN : Hid (∀ W, Below W0.heap.size W0 W → Calls Try.prog 40 #[.agg #[.slice p xs.length c1, .slice q tr.length c2]] W fun e w' => ∃ h, e = .returned (.pointer (some ⟨h, 0, none⟩)) ∧ SHp W w' h xs tr 0 ∧ Below W.heap.size W w') := fun W hW => l10open_any p q c1 c2 xs tr W hxl htl (HIN.out W hW).1 (HIN.out W hW).2.1
  have HPTM : Hid (∀ V W h, Below W0.heap.size W0 V → SHp V W h xs tr 0 → Calls Try.prog 70 #[.pointer (some ⟨h, 0, none⟩), .slice pt cs.length cap] W (PtOut V h xs tr (ptA xs.length c k).1 (ptB xs.length c k))) := fun V W h hV H => l10putTerm_any V h tr c k pt cs.length cap xs W hok hmk h2000 hz hcm (by have := (HIN.out V hV).2.2; rwa [hcs] at this) hxl H
  have HPT : Hid (putT xs tr (c, k) = if xs.length + (ptB xs.length c k).length ≤ 20000 then ((xs ++ ptB xs.length c k, tr), (ptA xs.length c k).1, 0) else noneP 10) := rfl
  have HCLO : Hid (xs.length + (ptB xs.length c k).length ≤ 20000 → ∀ V W h, SHp V W h (xs ++ ptB xs.length c k) tr 0 → Calls Try.prog 56 #[.pointer (some ⟨h, 0, none⟩)] W (StoreR (xs ++ ptB xs.length c k) tr W)) := fun hle V W h H => l10close_any V h _ tr 0 W (by rw [List.length_append]; exact hle) htl (fun a ha => by
    by_cases h1 : a < xs.length
    · have e : (xs ++ ptB xs.length c k).getD a Cel.none = xs.getD a Cel.none := by simp [List.getD, List.getElem?_append_left h1]
      rw [e]; exact HTX.out a h1
    · have h2 : a - xs.length < (ptB xs.length c k).length := by rw [List.length_append] at ha; omega
      have e : (xs ++ ptB xs.length c k).getD a Cel.none = (ptB xs.length c k)[a - xs.length] := by
        have h3 : xs.length ≤ a := by omega
        simp [List.getD, List.getElem?_append_right h3, h2]
      rw [e]
      have h4 := (HFB.out.1 _ (List.getElem_mem h2)).1
      generalize ((ptB xs.length c k)[a - xs.length]).2.2.length = mm at h4 ⊢
      unfold okW at h4
      split at h4
      · simp at h4; omega
      · simp only [cellB, decide_eq_true_eq] at h4; omega) H
  have HDT : Hid ((ptA xs.length c k).1.2.2.length ≤ 100) := by
    have h4 := HFB.out.2.1
    show _ ≤ _
    generalize (ptA xs.length c k).1.2.2.length = mm at h4 ⊢
    unfold okW at h4
    split at h4
    · simp at h4; omega
    · simp only [cellB, decide_eq_true_eq] at h4; omega
  have HRR : Hid (∀ A, PutB A w = PutB A w) := fun _ => rfl
  have HPUT : Hid (putA xs tr cs = if cs.all (fun c => !badC xs c) = true then putT xs tr (c, k) else noneP 1) := HPA.out
  generalize putA xs tr cs = PA at HPUT ⊢
  generalize putT xs tr (c, k) = PT at HPUT HPT
  generalize ptB xs.length c k = PB at HPTM HPT HCLO HFB
  generalize (ptA xs.length c k).1 = d at HPTM HPT HFB HDT
  obtain ⟨RR, eRR⟩ : ∃ RR, RR = PutB PA w := ⟨_, rfl⟩
  have HER : Hid (RR = PutB PA w) := eRR
  rw [← eRR]
  obtain ⟨nc, enc⟩ : ∃ nc, nc = cs.length := ⟨_, rfl⟩
  have HNC : Hid (nc = cs.length) := enc
  obtain ⟨nx, enx⟩ : ∃ nx, nx = xs.length := ⟨_, rfl⟩
  have HNX : Hid (nx = xs.length) := enx
  have hncb : nc ≤ 2000 := by omega
  have hnxb : nx ≤ 20000 := by omega
  have HKN : Hid (Knds xs) := hshp.knds
  have HPOS : Hid (∀ a, a < cs.length → (cs.getD a Cel.none).1 = 0 → 0 ≤ (cs.getD a Cel.none).2.1) := fun a ha hk => ok_pos (.node c k .nil) hok _ (by have e : (Fo.node c k .nil).cells = cs := by { rw [hcs]; simp [Fo.cells] }; rw [e]; simp [List.getD, ha]) hk
  rw [← enc] at HVT HPTM ⊢
  rw [← enx] at HO HSX HOPN ⊢
  have HE0' : Hid (W0 = ((w.alloc (.cells #[.slice p nx c1, .slice q tr.length c2] 36)).alloc (.cells #[.slice none 0 0, .slice none 0 0] 36)).alloc (.cells #[.int .i64 0, .int .i64 0, .slice none 0 0] 31)) := by show _ = _; rw [enx]; exact HE0.out
  clear hs hv hbc hoks hshp hcs hok h2000 et hcan hmk HPA eRR enc enx hx hy hxl htl hz HE0 hkl
  go_enter Try.func33, Try.ntmps33
  go_wp2_with fail
  refine HO.mono ?_
  rintro e w1 ⟨rfl, hb⟩
  rw [← HE0'.out] at hb
  have HB1 : Hid (Below W0.heap.size W0 w1) := hb
  have HV1 : Hid _ := HVT.out w1 hb
  clear hb HO HVT
  go_wp2_with fail
  refine Calls.mono HV1.out ?_
  rintro e w2 ⟨rfl, hb2⟩
  have HB2 : Hid (Below W0.heap.size W0 w2) := Below.on HB1.out hb2
  clear hb2 HV1 HB1
  go_wp2_with fail
  go_loopw [7] (fun i wr => ∃ j : Nat, j ≤ nc ∧ i = .int .i64 j ∧ Hid (∀ a, a < j → badC xs (cs.getD a Cel.none) = false) ∧ Hid (Below W0.heap.size W0 wr)) (fun i _ => nc - (intOf i).toNat)
  case atStart => exact ⟨0, Nat.zero_le _, rfl, fun a ha => absurd ha (Nat.not_lt_zero _), HB2⟩
  case round =>
    obtain ⟨j, hj, rfl, HG, HB⟩ := hrel
    by_cases hlt : j < nc
    · obtain ⟨bt, ot, rfl, hcc⟩ := (HIN.out wr HB.out).2.2 (by have := HNC.out; omega)
      obtain ⟨tq, tqc, t0, t1, _, _⟩ := hcc j (by have := HNC.out; omega)
      have HBJ : Hid (badC xs (cs.getD j Cel.none) = (decide ((cs.getD j Cel.none).1 = 0) && (decide ((cs.getD j Cel.none).2.1 < ((nx : Nat) : Int)) && decide (kndA xs (cs.getD j Cel.none).2.1.toNat = 3)))) := by show _ = _; rw [HNX.out]; rfl
      have HNXT : Hid (badC xs (cs.getD j Cel.none) = false → ∀ a, a < j + 1 → badC xs (cs.getD a Cel.none) = false) := fun hh a ha => by
        rcases Nat.lt_succ_iff_lt_or_eq.1 ha with h1 | h1
        · exact HG.out a h1
        · rw [h1]; exact hh
      have HALL : Hid (badC xs (cs.getD j Cel.none) = true → PA = noneP 1) := fun hh => by
        rw [HPUT.out, if_neg]
        rw [all_cut _ cs Cel.none j (by have := HNC.out; omega) (by rw [hh]; rfl)]
        decide
      have hpos : (cs.getD j Cel.none).1 = 0 → 0 ≤ (cs.getD j Cel.none).2.1 := HPOS.out j (by have := HNC.out; omega)
      obtain ⟨s0, s1, s2⟩ := HSX.out wr HB.out
      generalize cs.getD j Cel.none = cj at t0 t1 HBJ HNXT HALL hpos
      obtain ⟨cj0, cj1, cjt⟩ := cj
      simp only at t0 t1 HBJ hpos
      generalize badC xs (cj0, cj1, cjt) = bj at HBJ HNXT HALL
      clear hcc HG
      by_cases hk0 : cj0 = 0
      · have hp0 := hpos hk0
        by_cases hlx : cj1 < ((nx : Nat) : Int)
        · obtain ⟨a, rfl⟩ : ∃ a : Nat, cj1 = a := ⟨cj1.toNat, by omega⟩
          have hal : a < nx := by omega
          obtain ⟨bx, ox, rfl, hcx⟩ := (HIN.out wr HB.out).1 (by have := HNX.out; omega)
          obtain ⟨_, _, k3, _, _, _⟩ := hcx a (by have := HNX.out; omega)
          have HKD : Hid ((xs.getD a Cel.none).1 = kndA xs a) := rfl
          rw [HKD.out] at k3
          rw [Int.toNat_natCast] at HBJ
          generalize kndA xs a = kd at k3 HBJ
          clear hcx HKD hpos hp0
          have HB2' : Hid (Below W0.heap.size W0 wr.drew) := Below.on HB.out ((Below.refl _ _).drew)
          by_cases hk3 : kd = 3
          · have HT : Hid (PA = noneP 1) := HALL.out (by rw [HBJ.out]; simp [hk0, hal, hk3])
            clear HALL HNXT HBJ
            go_wp2_with fail
            refine wp_region_held_drew (S := fun W' => W'.cell? ⟨bt, ot + j * 3, none⟩ = some (.int .i64 cj0) ∧ W'.cell? ⟨bt, ot + j * 3 + 1, none⟩ = some (.int .i64 (a : Nat)) ∧ W'.cell? ⟨w.heap.size, 0, none⟩ = some (.slice (some ⟨bx, ox, none⟩) nx c1) ∧ W'.cell? ⟨bx, ox + a * 3, none⟩ = some (.int .i64 kd)) (by kernel_rfl) ⟨t0, t1, s0, k3⟩ (fun hHeld => ?_)
            refine hTake (i := 0) (v := .slice (some ⟨bt, ot, none⟩) nc cap) (some 27) (by kernel_rfl) (by kernel_rfl) (by kernel_rfl) (by kernel_rfl) (by kernel_rfl) (fun _ _ _ h => h) (fun o ho W hSw => ?z1) hHeld ?_
            case z1 =>
              cases ho
              simp [execOp, go_sem, Act.eval]
            simp only [Act.put, List.setIfInBounds_toArray, List.set_cons_zero, List.set_cons_succ]
            refine hTake (i := 1) (v := .int .i64 (j : Nat)) (some 28) (by kernel_rfl) (by kernel_rfl) (by kernel_rfl) (by kernel_rfl) (by kernel_rfl) (fun _ _ _ h => h) (fun o ho W hSw => ?z2) hHeld ?_
            case z2 =>
              cases ho
              simp [execOp, go_sem, Act.eval]
            simp only [Act.put, List.setIfInBounds_toArray, List.set_cons_zero, List.set_cons_succ]
            refine hTake (i := 2) (v := .pointer (some ⟨bt, ot + j * 3, none⟩)) (some 29) (by kernel_rfl) (by kernel_rfl) (by kernel_rfl) (by kernel_rfl) (by kernel_rfl) (fun _ _ _ h => h) (fun o ho W hSw => ?z3) hHeld ?_
            case z3 =>
              cases ho
              simp [execOp, go_sem, Act.eval, hlt]
            simp only [Act.put, List.setIfInBounds_toArray, List.set_cons_zero, List.set_cons_succ]
            refine hTake (i := 3) (v := .pointer (some ⟨bt, ot + j * 3, none⟩)) (some 30) (by kernel_rfl) (by kernel_rfl) (by kernel_rfl) (by kernel_rfl) (by kernel_rfl) (fun _ _ _ h => h) (fun o ho W hSw => ?z4) hHeld ?_
            case z4 =>
              cases ho
              simp [execOp, go_sem, Act.eval]
            simp only [Act.put, List.setIfInBounds_toArray, List.set_cons_zero, List.set_cons_succ]
            refine hTake (i := 4) (v := .int .i64 cj0) (some 31) (by kernel_rfl) (by kernel_rfl) (by kernel_rfl) (by kernel_rfl) (by kernel_rfl) (fun _ _ _ h => h) (fun o ho W hSw => ?z5) hHeld ?_
            case z5 =>
              cases ho
              obtain ⟨t0, t1, t2, t3⟩ := hSw
              simp [execOp, go_sem, Act.eval, t0]
            simp only [Act.put, List.setIfInBounds_toArray, List.set_cons_zero, List.set_cons_succ]
            refine hTake (i := 5) (v := .bool true) (some 32) (by kernel_rfl) (by kernel_rfl) (by kernel_rfl) (by kernel_rfl) (by kernel_rfl) (fun _ _ _ h => h) (fun o ho W hSw => ?z6) hHeld ?_
            case z6 =>
              cases ho
              simp [execOp, go_sem, Act.eval, hk0]
            simp only [Act.put, List.setIfInBounds_toArray, List.set_cons_zero, List.set_cons_succ]
            refine hTake (i := 6) (v := .bool true) (some 33) (by kernel_rfl) (by kernel_rfl) (by kernel_rfl) (by kernel_rfl) (by kernel_rfl) (fun _ _ _ h => h) (fun o ho W hSw => ?z7) hHeld ?_
            case z7 =>
              cases ho
              simp [execOp, go_sem, Act.eval]
            simp only [Act.put, List.setIfInBounds_toArray, List.set_cons_zero, List.set_cons_succ]
            refine hTake (i := 7) (v := .slice (some ⟨bt, ot, none⟩) nc cap) (some 34) (by kernel_rfl) (by kernel_rfl) (by kernel_rfl) (by kernel_rfl) (by kernel_rfl) (fun _ _ _ h => h) (fun o ho W hSw => ?z8) hHeld ?_
            case z8 =>
              cases ho
              simp [execOp, go_sem, Act.eval]
            simp only [Act.put, List.setIfInBounds_toArray, List.set_cons_zero, List.set_cons_succ]
            refine hTake (i := 8) (v := .int .i64 (j : Nat)) (some 35) (by kernel_rfl) (by kernel_rfl) (by kernel_rfl) (by kernel_rfl) (by kernel_rfl) (fun _ _ _ h => h) (fun o ho W hSw => ?z9) hHeld ?_
            case z9 =>
              cases ho
              simp [execOp, go_sem, Act.eval]
            simp only [Act.put, List.setIfInBounds_toArray, List.set_cons_zero, List.set_cons_succ]
            refine hTake (i := 9) (v := .pointer (some ⟨bt, ot + j * 3, none⟩)) (some 36) (by kernel_rfl) (by kernel_rfl) (by kernel_rfl) (by kernel_rfl) (by kernel_rfl) (fun _ _ _ h => h) (fun o ho W hSw => ?z10) hHeld ?_
            case z10 =>
              cases ho
              simp [execOp, go_sem, Act.eval, hlt]
            simp only [Act.put, List.setIfInBounds_toArray, List.set_cons_zero, List.set_cons_succ]
            refine hTake (i := 10) (v := .pointer (some ⟨bt, ot + j * 3 + 1, none⟩)) (some 37) (by kernel_rfl) (by kernel_rfl) (by kernel_rfl) (by kernel_rfl) (by kernel_rfl) (fun _ _ _ h => h) (fun o ho W hSw => ?z11) hHeld ?_
            case z11 =>
              cases ho
              simp [execOp, go_sem, Act.eval]
            simp only [Act.put, List.setIfInBounds_toArray, List.set_cons_zero, List.set_cons_succ]
            refine hTake (i := 11) (v := .int .i64 (a : Nat)) (some 38) (by kernel_rfl) (by kernel_rfl) (by kernel_rfl) (by kernel_rfl) (by kernel_rfl) (fun _ _ _ h => h) (fun o ho W hSw => ?z12) hHeld ?_
            case z12 =>
              cases ho
              obtain ⟨t0, t1, t2, t3⟩ := hSw
              simp [execOp, go_sem, Act.eval, t1]
            simp only [Act.put, List.setIfInBounds_toArray, List.set_cons_zero, List.set_cons_succ]
            refine hTake (i := 12) (v := .pointer (some ⟨w.heap.size, 0, none⟩)) (some 39) (by kernel_rfl) (by kernel_rfl) (by kernel_rfl) (by kernel_rfl) (by kernel_rfl) (fun _ _ _ h => h) (fun o ho W hSw => ?z13) hHeld ?_
            case z13 =>
              cases ho
              simp [execOp, go_sem, Act.eval]
            simp only [Act.put, List.setIfInBounds_toArray, List.set_cons_zero, List.set_cons_succ]
            refine hTake (i := 13) (v := .slice (some ⟨bx, ox, none⟩) nx c1) (some 40) (by kernel_rfl) (by kernel_rfl) (by kernel_rfl) (by kernel_rfl) (by kernel_rfl) (fun _ _ _ h => h) (fun o ho W hSw => ?z14) hHeld ?_
            case z14 =>
              cases ho
              obtain ⟨t0, t1, t2, t3⟩ := hSw
              simp [execOp, go_sem, Act.eval, t2]
            simp only [Act.put, List.setIfInBounds_toArray, List.set_cons_zero, List.set_cons_succ]
            refine hStep (i := 14) (v := .int .i64 (nx : Nat)) (w' := wr.drew) (some 41) (by kernel_rfl) (by kernel_rfl) (by kernel_rfl) (fun o ho => ?z15) hHeld ?_
            case z15 =>
              cases ho
              simp [execOp, go_sem, Act.eval]
            simp only [Act.put, List.setIfInBounds_toArray, List.set_cons_zero, List.set_cons_succ]
            refine hTake (i := 15) (v := .bool true) (some 42) (by kernel_rfl) (by kernel_rfl) (by kernel_rfl) (by kernel_rfl) (by kernel_rfl) (fun _ _ _ h => h) (fun o ho W hSw => ?z16) hHeld ?_
            case z16 =>
              cases ho
              simp [execOp, go_sem, Act.eval, hlx]
            simp only [Act.put, List.setIfInBounds_toArray, List.set_cons_zero, List.set_cons_succ]
            refine hTake (i := 16) (v := .bool true) (some 43) (by kernel_rfl) (by kernel_rfl) (by kernel_rfl) (by kernel_rfl) (by kernel_rfl) (fun _ _ _ h => h) (fun o ho W hSw => ?z17) hHeld ?_
            case z17 =>
              cases ho
              simp [execOp, go_sem, Act.eval]
            simp only [Act.put, List.setIfInBounds_toArray, List.set_cons_zero, List.set_cons_succ]
            refine hTake (i := 17) (v := .bool true) (some 44) (by kernel_rfl) (by kernel_rfl) (by kernel_rfl) (by kernel_rfl) (by kernel_rfl) (fun _ _ _ h => h) (fun o ho W hSw => ?z18) hHeld ?_
            case z18 =>
              cases ho
              simp [execOp, go_sem, Act.eval]
            simp only [Act.put, List.setIfInBounds_toArray, List.set_cons_zero, List.set_cons_succ]
            refine hTake (i := 18) (v := .pointer (some ⟨w.heap.size, 0, none⟩)) (some 45) (by kernel_rfl) (by kernel_rfl) (by kernel_rfl) (by kernel_rfl) (by kernel_rfl) (fun _ _ _ h => h) (fun o ho W hSw => ?z19) hHeld ?_
            case z19 =>
              cases ho
              simp [execOp, go_sem, Act.eval]
            simp only [Act.put, List.setIfInBounds_toArray, List.set_cons_zero, List.set_cons_succ]
            refine hTake (i := 19) (v := .slice (some ⟨bx, ox, none⟩) nx c1) (some 46) (by kernel_rfl) (by kernel_rfl) (by kernel_rfl) (by kernel_rfl) (by kernel_rfl) (fun _ _ _ h => h) (fun o ho W hSw => ?z20) hHeld ?_
            case z20 =>
              cases ho
              obtain ⟨t0, t1, t2, t3⟩ := hSw
              simp [execOp, go_sem, Act.eval, t2]
            simp only [Act.put, List.setIfInBounds_toArray, List.set_cons_zero, List.set_cons_succ]
            refine hTake (i := 20) (v := .slice (some ⟨bt, ot, none⟩) nc cap) (some 47) (by kernel_rfl) (by kernel_rfl) (by kernel_rfl) (by kernel_rfl) (by kernel_rfl) (fun _ _ _ h => h) (fun o ho W hSw => ?z21) hHeld ?_
            case z21 =>
              cases ho
              simp [execOp, go_sem, Act.eval]
            simp only [Act.put, List.setIfInBounds_toArray, List.set_cons_zero, List.set_cons_succ]
            refine hTake (i := 21) (v := .int .i64 (j : Nat)) (some 48) (by kernel_rfl) (by kernel_rfl) (by kernel_rfl) (by kernel_rfl) (by kernel_rfl) (fun _ _ _ h => h) (fun o ho W hSw => ?z22) hHeld ?_
            case z22 =>
              cases ho
              simp [execOp, go_sem, Act.eval]
            simp only [Act.put, List.setIfInBounds_toArray, List.set_cons_zero, List.set_cons_succ]
            refine hTake (i := 22) (v := .pointer (some ⟨bt, ot + j * 3, none⟩)) (some 49) (by kernel_rfl) (by kernel_rfl) (by kernel_rfl) (by kernel_rfl) (by kernel_rfl) (fun _ _ _ h => h) (fun o ho W hSw => ?z23) hHeld ?_
            case z23 =>
              cases ho
              simp [execOp, go_sem, Act.eval, hlt]
            simp only [Act.put, List.setIfInBounds_toArray, List.set_cons_zero, List.set_cons_succ]
            refine hTake (i := 23) (v := .pointer (some ⟨bt, ot + j * 3 + 1, none⟩)) (some 50) (by kernel_rfl) (by kernel_rfl) (by kernel_rfl) (by kernel_rfl) (by kernel_rfl) (fun _ _ _ h => h) (fun o ho W hSw => ?z24) hHeld ?_
            case z24 =>
              cases ho
              simp [execOp, go_sem, Act.eval]
            simp only [Act.put, List.setIfInBounds_toArray, List.set_cons_zero, List.set_cons_succ]
            refine hTake (i := 24) (v := .int .i64 (a : Nat)) (some 51) (by kernel_rfl) (by kernel_rfl) (by kernel_rfl) (by kernel_rfl) (by kernel_rfl) (fun _ _ _ h => h) (fun o ho W hSw => ?z25) hHeld ?_
            case z25 =>
              cases ho
              obtain ⟨t0, t1, t2, t3⟩ := hSw
              simp [execOp, go_sem, Act.eval, t1]
            simp only [Act.put, List.setIfInBounds_toArray, List.set_cons_zero, List.set_cons_succ]
            refine hTake (i := 25) (v := .pointer (some ⟨bx, ox + a * 3, none⟩)) (some 52) (by kernel_rfl) (by kernel_rfl) (by kernel_rfl) (by kernel_rfl) (by kernel_rfl) (fun _ _ _ h => h) (fun o ho W hSw => ?z26) hHeld ?_
            case z26 =>
              cases ho
              simp [execOp, go_sem, Act.eval, hal]
            simp only [Act.put, List.setIfInBounds_toArray, List.set_cons_zero, List.set_cons_succ]
            refine hTake (i := 26) (v := .pointer (some ⟨bx, ox + a * 3, none⟩)) (some 53) (by kernel_rfl) (by kernel_rfl) (by kernel_rfl) (by kernel_rfl) (by kernel_rfl) (fun _ _ _ h => h) (fun o ho W hSw => ?z27) hHeld ?_
            case z27 =>
              cases ho
              simp [execOp, go_sem, Act.eval]
            simp only [Act.put, List.setIfInBounds_toArray, List.set_cons_zero, List.set_cons_succ]
            refine hTake (i := 27) (v := .int .i64 kd) (some 54) (by kernel_rfl) (by kernel_rfl) (by kernel_rfl) (by kernel_rfl) (by kernel_rfl) (fun _ _ _ h => h) (fun o ho W hSw => ?z28) hHeld ?_
            case z28 =>
              cases ho
              obtain ⟨t0, t1, t2, t3⟩ := hSw
              simp [execOp, go_sem, Act.eval, t3]
            simp only [Act.put, List.setIfInBounds_toArray, List.set_cons_zero, List.set_cons_succ]
            refine hTake (i := 28) (v := .bool true) (some 55) (by kernel_rfl) (by kernel_rfl) (by kernel_rfl) (by kernel_rfl) (by kernel_rfl) (fun _ _ _ h => h) (fun o ho W hSw => ?z29) hHeld ?_
            case z29 =>
              cases ho
              simp [execOp, go_sem, Act.eval, hk3]
            simp only [Act.put, List.setIfInBounds_toArray, List.set_cons_zero, List.set_cons_succ]
            refine hTake (i := 29) (v := .bool true) (some 56) (by kernel_rfl) (by kernel_rfl) (by kernel_rfl) (by kernel_rfl) (by kernel_rfl) (fun _ _ _ h => h) (fun o ho W hSw => ?z30) hHeld ?_
            case z30 =>
              cases ho
              simp [execOp, go_sem, Act.eval]
            simp only [Act.put, List.setIfInBounds_toArray, List.set_cons_zero, List.set_cons_succ]
            refine wpAnyH_done (by kernel_rfl) ?_ _
            change Exit.then _ _ _ _ _
            clear hHeld
            have HR : Hid _ := put5 (HBX.out wr HB.out) (HCX.out wr HB.out) (by omega) (.slice none 0 0) (.slice none 0 0) (.int .i64 0) (.int .i64 0) (.slice none 0 0)
            have HBF : Hid _ := HB0.out wr (.slice none 0 0) (.slice none 0 0) (.int .i64 0) (.int .i64 0) (.slice none 0 0) HB.out
            obtain ⟨x0, x1, x2⟩ := HBX.out wr HB.out
            obtain ⟨y0, y1, y2, y3⟩ := HCX.out wr HB.out
            clear HBX HCX HB0
            go_wp2
            obtain ⟨⟨d0, d1, _⟩, d2, d3, d4, _⟩ := HR.out
            change bodyPost _ _ _ _ _ _
            exact bodyPost_ret (v := .tuple #[.agg #[.slice none 0 0, .slice none 0 0], .agg #[.int .i64 0, .int .i64 0, .slice none 0 0], .int .i64 1]) (by simp [results, Try.results33, go_sem, d0, d1, d2, d3, d4]) rfl (by rw [HER.out, HT.out]; exact PutB.none 1 HBF.out.drew)
          · have HN2 : Hid _ := HNXT.out (by rw [HBJ.out]; simp [hk3])
            clear HALL HNXT HBJ
            go_wp2_with fail
            refine wp_region_held_drew (S := fun W' => W'.cell? ⟨bt, ot + j * 3, none⟩ = some (.int .i64 cj0) ∧ W'.cell? ⟨bt, ot + j * 3 + 1, none⟩ = some (.int .i64 (a : Nat)) ∧ W'.cell? ⟨w.heap.size, 0, none⟩ = some (.slice (some ⟨bx, ox, none⟩) nx c1) ∧ W'.cell? ⟨bx, ox + a * 3, none⟩ = some (.int .i64 kd)) (by kernel_rfl) ⟨t0, t1, s0, k3⟩ (fun hHeld => ?_)
            refine hTake (i := 0) (v := .slice (some ⟨bt, ot, none⟩) nc cap) (some 27) (by kernel_rfl) (by kernel_rfl) (by kernel_rfl) (by kernel_rfl) (by kernel_rfl) (fun _ _ _ h => h) (fun o ho W hSw => ?z31) hHeld ?_
            case z31 =>
              cases ho
              simp [execOp, go_sem, Act.eval]
            simp only [Act.put, List.setIfInBounds_toArray, List.set_cons_zero, List.set_cons_succ]
            refine hTake (i := 1) (v := .int .i64 (j : Nat)) (some 28) (by kernel_rfl) (by kernel_rfl) (by kernel_rfl) (by kernel_rfl) (by kernel_rfl) (fun _ _ _ h => h) (fun o ho W hSw => ?z32) hHeld ?_
            case z32 =>
              cases ho
              simp [execOp, go_sem, Act.eval]
            simp only [Act.put, List.setIfInBounds_toArray, List.set_cons_zero, List.set_cons_succ]
            refine hTake (i := 2) (v := .pointer (some ⟨bt, ot + j * 3, none⟩)) (some 29) (by kernel_rfl) (by kernel_rfl) (by kernel_rfl) (by kernel_rfl) (by kernel_rfl) (fun _ _ _ h => h) (fun o ho W hSw => ?z33) hHeld ?_
            case z33 =>
              cases ho
              simp [execOp, go_sem, Act.eval, hlt]
            simp only [Act.put, List.setIfInBounds_toArray, List.set_cons_zero, List.set_cons_succ]
            refine hTake (i := 3) (v := .pointer (some ⟨bt, ot + j * 3, none⟩)) (some 30) (by kernel_rfl) (by kernel_rfl) (by kernel_rfl) (by kernel_rfl) (by kernel_rfl) (fun _ _ _ h => h) (fun o ho W hSw => ?z34) hHeld ?_
            case z34 =>
              cases ho
              simp [execOp, go_sem, Act.eval]
            simp only [Act.put, List.setIfInBounds_toArray, List.set_cons_zero, List.set_cons_succ]
            refine hTake (i := 4) (v := .int .i64 cj0) (some 31) (by kernel_rfl) (by kernel_rfl) (by kernel_rfl) (by kernel_rfl) (by kernel_rfl) (fun _ _ _ h => h) (fun o ho W hSw => ?z35) hHeld ?_
            case z35 =>
              cases ho
              obtain ⟨t0, t1, t2, t3⟩ := hSw
              simp [execOp, go_sem, Act.eval, t0]
            simp only [Act.put, List.setIfInBounds_toArray, List.set_cons_zero, List.set_cons_succ]
            refine hTake (i := 5) (v := .bool true) (some 32) (by kernel_rfl) (by kernel_rfl) (by kernel_rfl) (by kernel_rfl) (by kernel_rfl) (fun _ _ _ h => h) (fun o ho W hSw => ?z36) hHeld ?_
            case z36 =>
              cases ho
              simp [execOp, go_sem, Act.eval, hk0]
            simp only [Act.put, List.setIfInBounds_toArray, List.set_cons_zero, List.set_cons_succ]
            refine hTake (i := 6) (v := .bool true) (some 33) (by kernel_rfl) (by kernel_rfl) (by kernel_rfl) (by kernel_rfl) (by kernel_rfl) (fun _ _ _ h => h) (fun o ho W hSw => ?z37) hHeld ?_
            case z37 =>
              cases ho
              simp [execOp, go_sem, Act.eval]
            simp only [Act.put, List.setIfInBounds_toArray, List.set_cons_zero, List.set_cons_succ]
            refine hTake (i := 7) (v := .slice (some ⟨bt, ot, none⟩) nc cap) (some 34) (by kernel_rfl) (by kernel_rfl) (by kernel_rfl) (by kernel_rfl) (by kernel_rfl) (fun _ _ _ h => h) (fun o ho W hSw => ?z38) hHeld ?_
            case z38 =>
              cases ho
              simp [execOp, go_sem, Act.eval]
            simp only [Act.put, List.setIfInBounds_toArray, List.set_cons_zero, List.set_cons_succ]
            refine hTake (i := 8) (v := .int .i64 (j : Nat)) (some 35) (by kernel_rfl) (by kernel_rfl) (by kernel_rfl) (by kernel_rfl) (by kernel_rfl) (fun _ _ _ h => h) (fun o ho W hSw => ?z39) hHeld ?_
            case z39 =>
              cases ho
              simp [execOp, go_sem, Act.eval]
            simp only [Act.put, List.setIfInBounds_toArray, List.set_cons_zero, List.set_cons_succ]
            refine hTake (i := 9) (v := .pointer (some ⟨bt, ot + j * 3, none⟩)) (some 36) (by kernel_rfl) (by kernel_rfl) (by kernel_rfl) (by kernel_rfl) (by kernel_rfl) (fun _ _ _ h => h) (fun o ho W hSw => ?z40) hHeld ?_
            case z40 =>
              cases ho
              simp [execOp, go_sem, Act.eval, hlt]
            simp only [Act.put, List.setIfInBounds_toArray, List.set_cons_zero, List.set_cons_succ]
            refine hTake (i := 10) (v := .pointer (some ⟨bt, ot + j * 3 + 1, none⟩)) (some 37) (by kernel_rfl) (by kernel_rfl) (by kernel_rfl) (by kernel_rfl) (by kernel_rfl) (fun _ _ _ h => h) (fun o ho W hSw => ?z41) hHeld ?_
            case z41 =>
              cases ho
              simp [execOp, go_sem, Act.eval]
            simp only [Act.put, List.setIfInBounds_toArray, List.set_cons_zero, List.set_cons_succ]
            refine hTake (i := 11) (v := .int .i64 (a : Nat)) (some 38) (by kernel_rfl) (by kernel_rfl) (by kernel_rfl) (by kernel_rfl) (by kernel_rfl) (fun _ _ _ h => h) (fun o ho W hSw => ?z42) hHeld ?_
            case z42 =>
              cases ho
              obtain ⟨t0, t1, t2, t3⟩ := hSw
              simp [execOp, go_sem, Act.eval, t1]
            simp only [Act.put, List.setIfInBounds_toArray, List.set_cons_zero, List.set_cons_succ]
            refine hTake (i := 12) (v := .pointer (some ⟨w.heap.size, 0, none⟩)) (some 39) (by kernel_rfl) (by kernel_rfl) (by kernel_rfl) (by kernel_rfl) (by kernel_rfl) (fun _ _ _ h => h) (fun o ho W hSw => ?z43) hHeld ?_
            case z43 =>
              cases ho
              simp [execOp, go_sem, Act.eval]
            simp only [Act.put, List.setIfInBounds_toArray, List.set_cons_zero, List.set_cons_succ]
            refine hTake (i := 13) (v := .slice (some ⟨bx, ox, none⟩) nx c1) (some 40) (by kernel_rfl) (by kernel_rfl) (by kernel_rfl) (by kernel_rfl) (by kernel_rfl) (fun _ _ _ h => h) (fun o ho W hSw => ?z44) hHeld ?_
            case z44 =>
              cases ho
              obtain ⟨t0, t1, t2, t3⟩ := hSw
              simp [execOp, go_sem, Act.eval, t2]
            simp only [Act.put, List.setIfInBounds_toArray, List.set_cons_zero, List.set_cons_succ]
            refine hStep (i := 14) (v := .int .i64 (nx : Nat)) (w' := wr.drew) (some 41) (by kernel_rfl) (by kernel_rfl) (by kernel_rfl) (fun o ho => ?z45) hHeld ?_
            case z45 =>
              cases ho
              simp [execOp, go_sem, Act.eval]
            simp only [Act.put, List.setIfInBounds_toArray, List.set_cons_zero, List.set_cons_succ]
            refine hTake (i := 15) (v := .bool true) (some 42) (by kernel_rfl) (by kernel_rfl) (by kernel_rfl) (by kernel_rfl) (by kernel_rfl) (fun _ _ _ h => h) (fun o ho W hSw => ?z46) hHeld ?_
            case z46 =>
              cases ho
              simp [execOp, go_sem, Act.eval, hlx]
            simp only [Act.put, List.setIfInBounds_toArray, List.set_cons_zero, List.set_cons_succ]
            refine hTake (i := 16) (v := .bool true) (some 43) (by kernel_rfl) (by kernel_rfl) (by kernel_rfl) (by kernel_rfl) (by kernel_rfl) (fun _ _ _ h => h) (fun o ho W hSw => ?z47) hHeld ?_
            case z47 =>
              cases ho
              simp [execOp, go_sem, Act.eval]
            simp only [Act.put, List.setIfInBounds_toArray, List.set_cons_zero, List.set_cons_succ]
            refine hTake (i := 17) (v := .bool true) (some 44) (by kernel_rfl) (by kernel_rfl) (by kernel_rfl) (by kernel_rfl) (by kernel_rfl) (fun _ _ _ h => h) (fun o ho W hSw => ?z48) hHeld ?_
            case z48 =>
              cases ho
              simp [execOp, go_sem, Act.eval]
            simp only [Act.put, List.setIfInBounds_toArray, List.set_cons_zero, List.set_cons_succ]
            refine hTake (i := 18) (v := .pointer (some ⟨w.heap.size, 0, none⟩)) (some 45) (by kernel_rfl) (by kernel_rfl) (by kernel_rfl) (by kernel_rfl) (by kernel_rfl) (fun _ _ _ h => h) (fun o ho W hSw => ?z49) hHeld ?_
            case z49 =>
              cases ho
              simp [execOp, go_sem, Act.eval]
            simp only [Act.put, List.setIfInBounds_toArray, List.set_cons_zero, List.set_cons_succ]
            refine hTake (i := 19) (v := .slice (some ⟨bx, ox, none⟩) nx c1) (some 46) (by kernel_rfl) (by kernel_rfl) (by kernel_rfl) (by kernel_rfl) (by kernel_rfl) (fun _ _ _ h => h) (fun o ho W hSw => ?z50) hHeld ?_
            case z50 =>
              cases ho
              obtain ⟨t0, t1, t2, t3⟩ := hSw
              simp [execOp, go_sem, Act.eval, t2]
            simp only [Act.put, List.setIfInBounds_toArray, List.set_cons_zero, List.set_cons_succ]
            refine hTake (i := 20) (v := .slice (some ⟨bt, ot, none⟩) nc cap) (some 47) (by kernel_rfl) (by kernel_rfl) (by kernel_rfl) (by kernel_rfl) (by kernel_rfl) (fun _ _ _ h => h) (fun o ho W hSw => ?z51) hHeld ?_
            case z51 =>
              cases ho
              simp [execOp, go_sem, Act.eval]
            simp only [Act.put, List.setIfInBounds_toArray, List.set_cons_zero, List.set_cons_succ]
            refine hTake (i := 21) (v := .int .i64 (j : Nat)) (some 48) (by kernel_rfl) (by kernel_rfl) (by kernel_rfl) (by kernel_rfl) (by kernel_rfl) (fun _ _ _ h => h) (fun o ho W hSw => ?z52) hHeld ?_
            case z52 =>
              cases ho
              simp [execOp, go_sem, Act.eval]
            simp only [Act.put, List.setIfInBounds_toArray, List.set_cons_zero, List.set_cons_succ]
            refine hTake (i := 22) (v := .pointer (some ⟨bt, ot + j * 3, none⟩)) (some 49) (by kernel_rfl) (by kernel_rfl) (by kernel_rfl) (by kernel_rfl) (by kernel_rfl) (fun _ _ _ h => h) (fun o ho W hSw => ?z53) hHeld ?_
            case z53 =>
              cases ho
              simp [execOp, go_sem, Act.eval, hlt]
            simp only [Act.put, List.setIfInBounds_toArray, List.set_cons_zero, List.set_cons_succ]
            refine hTake (i := 23) (v := .pointer (some ⟨bt, ot + j * 3 + 1, none⟩)) (some 50) (by kernel_rfl) (by kernel_rfl) (by kernel_rfl) (by kernel_rfl) (by kernel_rfl) (fun _ _ _ h => h) (fun o ho W hSw => ?z54) hHeld ?_
            case z54 =>
              cases ho
              simp [execOp, go_sem, Act.eval]
            simp only [Act.put, List.setIfInBounds_toArray, List.set_cons_zero, List.set_cons_succ]
            refine hTake (i := 24) (v := .int .i64 (a : Nat)) (some 51) (by kernel_rfl) (by kernel_rfl) (by kernel_rfl) (by kernel_rfl) (by kernel_rfl) (fun _ _ _ h => h) (fun o ho W hSw => ?z55) hHeld ?_
            case z55 =>
              cases ho
              obtain ⟨t0, t1, t2, t3⟩ := hSw
              simp [execOp, go_sem, Act.eval, t1]
            simp only [Act.put, List.setIfInBounds_toArray, List.set_cons_zero, List.set_cons_succ]
            refine hTake (i := 25) (v := .pointer (some ⟨bx, ox + a * 3, none⟩)) (some 52) (by kernel_rfl) (by kernel_rfl) (by kernel_rfl) (by kernel_rfl) (by kernel_rfl) (fun _ _ _ h => h) (fun o ho W hSw => ?z56) hHeld ?_
            case z56 =>
              cases ho
              simp [execOp, go_sem, Act.eval, hal]
            simp only [Act.put, List.setIfInBounds_toArray, List.set_cons_zero, List.set_cons_succ]
            refine hTake (i := 26) (v := .pointer (some ⟨bx, ox + a * 3, none⟩)) (some 53) (by kernel_rfl) (by kernel_rfl) (by kernel_rfl) (by kernel_rfl) (by kernel_rfl) (fun _ _ _ h => h) (fun o ho W hSw => ?z57) hHeld ?_
            case z57 =>
              cases ho
              simp [execOp, go_sem, Act.eval]
            simp only [Act.put, List.setIfInBounds_toArray, List.set_cons_zero, List.set_cons_succ]
            refine hTake (i := 27) (v := .int .i64 kd) (some 54) (by kernel_rfl) (by kernel_rfl) (by kernel_rfl) (by kernel_rfl) (by kernel_rfl) (fun _ _ _ h => h) (fun o ho W hSw => ?z58) hHeld ?_
            case z58 =>
              cases ho
              obtain ⟨t0, t1, t2, t3⟩ := hSw
              simp [execOp, go_sem, Act.eval, t3]
            simp only [Act.put, List.setIfInBounds_toArray, List.set_cons_zero, List.set_cons_succ]
            refine hTake (i := 28) (v := .bool false) (some 55) (by kernel_rfl) (by kernel_rfl) (by kernel_rfl) (by kernel_rfl) (by kernel_rfl) (fun _ _ _ h => h) (fun o ho W hSw => ?z59) hHeld ?_
            case z59 =>
              cases ho
              simp [execOp, go_sem, Act.eval, hk3]
            simp only [Act.put, List.setIfInBounds_toArray, List.set_cons_zero, List.set_cons_succ]
            refine hTake (i := 29) (v := .bool false) (some 56) (by kernel_rfl) (by kernel_rfl) (by kernel_rfl) (by kernel_rfl) (by kernel_rfl) (fun _ _ _ h => h) (fun o ho W hSw => ?z60) hHeld ?_
            case z60 =>
              cases ho
              simp [execOp, go_sem, Act.eval]
            simp only [Act.put, List.setIfInBounds_toArray, List.set_cons_zero, List.set_cons_succ]
            refine wpAnyH_done (by kernel_rfl) ?_ _
            change Exit.then _ _ _ _ _
            clear hHeld
            go_wp2
            go_roundw
            case rel => exact ⟨j + 1, by omega, by go_num, HN2, HB2'⟩
            case measure => simp [intOf]; omega
        · have HN2 : Hid _ := HNXT.out (by rw [HBJ.out]; simp [hlx])
          have HB2' : Hid (Below W0.heap.size W0 wr.drew) := Below.on HB.out ((Below.refl _ _).drew)
          clear HALL HNXT HBJ hpos hp0
          go_wp2_with fail
          refine wp_region_held_drew (S := fun W' => W'.cell? ⟨bt, ot + j * 3, none⟩ = some (.int .i64 cj0) ∧ W'.cell? ⟨bt, ot + j * 3 + 1, none⟩ = some (.int .i64 cj1) ∧ W'.cell? ⟨w.heap.size, 0, none⟩ = some (.slice p nx c1)) (by kernel_rfl) ⟨t0, t1, s0⟩ (fun hHeld => ?_)
          refine hTake (i := 0) (v := .slice (some ⟨bt, ot, none⟩) nc cap) (some 27) (by kernel_rfl) (by kernel_rfl) (by kernel_rfl) (by kernel_rfl) (by kernel_rfl) (fun _ _ _ h => h) (fun o ho W hSw => ?z61) hHeld ?_
          case z61 =>
            cases ho
            simp [execOp, go_sem, Act.eval]
          simp only [Act.put, List.setIfInBounds_toArray, List.set_cons_zero, List.set_cons_succ]
          refine hTake (i := 1) (v := .int .i64 (j : Nat)) (some 28) (by kernel_rfl) (by kernel_rfl) (by kernel_rfl) (by kernel_rfl) (by kernel_rfl) (fun _ _ _ h => h) (fun o ho W hSw => ?z62) hHeld ?_
          case z62 =>
            cases ho
            simp [execOp, go_sem, Act.eval]
          simp only [Act.put, List.setIfInBounds_toArray, List.set_cons_zero, List.set_cons_succ]
          refine hTake (i := 2) (v := .pointer (some ⟨bt, ot + j * 3, none⟩)) (some 29) (by kernel_rfl) (by kernel_rfl) (by kernel_rfl) (by kernel_rfl) (by kernel_rfl) (fun _ _ _ h => h) (fun o ho W hSw => ?z63) hHeld ?_
          case z63 =>
            cases ho
            simp [execOp, go_sem, Act.eval, hlt]
          simp only [Act.put, List.setIfInBounds_toArray, List.set_cons_zero, List.set_cons_succ]
          refine hTake (i := 3) (v := .pointer (some ⟨bt, ot + j * 3, none⟩)) (some 30) (by kernel_rfl) (by kernel_rfl) (by kernel_rfl) (by kernel_rfl) (by kernel_rfl) (fun _ _ _ h => h) (fun o ho W hSw => ?z64) hHeld ?_
          case z64 =>
            cases ho
            simp [execOp, go_sem, Act.eval]
          simp only [Act.put, List.setIfInBounds_toArray, List.set_cons_zero, List.set_cons_succ]
          refine hTake (i := 4) (v := .int .i64 cj0) (some 31) (by kernel_rfl) (by kernel_rfl) (by kernel_rfl) (by kernel_rfl) (by kernel_rfl) (fun _ _ _ h => h) (fun o ho W hSw => ?z65) hHeld ?_
          case z65 =>
            cases ho
            obtain ⟨t0, t1, t2⟩ := hSw
            simp [execOp, go_sem, Act.eval, t0]
          simp only [Act.put, List.setIfInBounds_toArray, List.set_cons_zero, List.set_cons_succ]
          refine hTake (i := 5) (v := .bool true) (some 32) (by kernel_rfl) (by kernel_rfl) (by kernel_rfl) (by kernel_rfl) (by kernel_rfl) (fun _ _ _ h => h) (fun o ho W hSw => ?z66) hHeld ?_
          case z66 =>
            cases ho
            simp [execOp, go_sem, Act.eval, hk0]
          simp only [Act.put, List.setIfInBounds_toArray, List.set_cons_zero, List.set_cons_succ]
          refine hTake (i := 6) (v := .bool true) (some 33) (by kernel_rfl) (by kernel_rfl) (by kernel_rfl) (by kernel_rfl) (by kernel_rfl) (fun _ _ _ h => h) (fun o ho W hSw => ?z67) hHeld ?_
          case z67 =>
            cases ho
            simp [execOp, go_sem, Act.eval]
          simp only [Act.put, List.setIfInBounds_toArray, List.set_cons_zero, List.set_cons_succ]
          refine hTake (i := 7) (v := .slice (some ⟨bt, ot, none⟩) nc cap) (some 34) (by kernel_rfl) (by kernel_rfl) (by kernel_rfl) (by kernel_rfl) (by kernel_rfl) (fun _ _ _ h => h) (fun o ho W hSw => ?z68) hHeld ?_
          case z68 =>
            cases ho
            simp [execOp, go_sem, Act.eval]
          simp only [Act.put, List.setIfInBounds_toArray, List.set_cons_zero, List.set_cons_succ]
          refine hTake (i := 8) (v := .int .i64 (j : Nat)) (some 35) (by kernel_rfl) (by kernel_rfl) (by kernel_rfl) (by kernel_rfl) (by kernel_rfl) (fun _ _ _ h => h) (fun o ho W hSw => ?z69) hHeld ?_
          case z69 =>
            cases ho
            simp [execOp, go_sem, Act.eval]
          simp only [Act.put, List.setIfInBounds_toArray, List.set_cons_zero, List.set_cons_succ]
          refine hTake (i := 9) (v := .pointer (some ⟨bt, ot + j * 3, none⟩)) (some 36) (by kernel_rfl) (by kernel_rfl) (by kernel_rfl) (by kernel_rfl) (by kernel_rfl) (fun _ _ _ h => h) (fun o ho W hSw => ?z70) hHeld ?_
          case z70 =>
            cases ho
            simp [execOp, go_sem, Act.eval, hlt]
          simp only [Act.put, List.setIfInBounds_toArray, List.set_cons_zero, List.set_cons_succ]
          refine hTake (i := 10) (v := .pointer (some ⟨bt, ot + j * 3 + 1, none⟩)) (some 37) (by kernel_rfl) (by kernel_rfl) (by kernel_rfl) (by kernel_rfl) (by kernel_rfl) (fun _ _ _ h => h) (fun o ho W hSw => ?z71) hHeld ?_
          case z71 =>
            cases ho
            simp [execOp, go_sem, Act.eval]
          simp only [Act.put, List.setIfInBounds_toArray, List.set_cons_zero, List.set_cons_succ]
          refine hTake (i := 11) (v := .int .i64 cj1) (some 38) (by kernel_rfl) (by kernel_rfl) (by kernel_rfl) (by kernel_rfl) (by kernel_rfl) (fun _ _ _ h => h) (fun o ho W hSw => ?z72) hHeld ?_
          case z72 =>
            cases ho
            obtain ⟨t0, t1, t2⟩ := hSw
            simp [execOp, go_sem, Act.eval, t1]
          simp only [Act.put, List.setIfInBounds_toArray, List.set_cons_zero, List.set_cons_succ]
          refine hTake (i := 12) (v := .pointer (some ⟨w.heap.size, 0, none⟩)) (some 39) (by kernel_rfl) (by kernel_rfl) (by kernel_rfl) (by kernel_rfl) (by kernel_rfl) (fun _ _ _ h => h) (fun o ho W hSw => ?z73) hHeld ?_
          case z73 =>
            cases ho
            simp [execOp, go_sem, Act.eval]
          simp only [Act.put, List.setIfInBounds_toArray, List.set_cons_zero, List.set_cons_succ]
          refine hTake (i := 13) (v := .slice p nx c1) (some 40) (by kernel_rfl) (by kernel_rfl) (by kernel_rfl) (by kernel_rfl) (by kernel_rfl) (fun _ _ _ h => h) (fun o ho W hSw => ?z74) hHeld ?_
          case z74 =>
            cases ho
            obtain ⟨t0, t1, t2⟩ := hSw
            simp [execOp, go_sem, Act.eval, t2]
          simp only [Act.put, List.setIfInBounds_toArray, List.set_cons_zero, List.set_cons_succ]
          refine hStep (i := 14) (v := .int .i64 (nx : Nat)) (w' := wr.drew) (some 41) (by kernel_rfl) (by kernel_rfl) (by kernel_rfl) (fun o ho => ?z75) hHeld ?_
          case z75 =>
            cases ho
            simp [execOp, go_sem, Act.eval]
          simp only [Act.put, List.setIfInBounds_toArray, List.set_cons_zero, List.set_cons_succ]
          refine hTake (i := 15) (v := .bool false) (some 42) (by kernel_rfl) (by kernel_rfl) (by kernel_rfl) (by kernel_rfl) (by kernel_rfl) (fun _ _ _ h => h) (fun o ho W hSw => ?z76) hHeld ?_
          case z76 =>
            cases ho
            simp [execOp, go_sem, Act.eval, hlx]
          simp only [Act.put, List.setIfInBounds_toArray, List.set_cons_zero, List.set_cons_succ]
          refine hTake (i := 16) (v := .bool false) (some 43) (by kernel_rfl) (by kernel_rfl) (by kernel_rfl) (by kernel_rfl) (by kernel_rfl) (fun _ _ _ h => h) (fun o ho W hSw => ?z77) hHeld ?_
          case z77 =>
            cases ho
            simp [execOp, go_sem, Act.eval]
          simp only [Act.put, List.setIfInBounds_toArray, List.set_cons_zero, List.set_cons_succ]
          refine hTake (i := 17) (v := .bool false) (some 44) (by kernel_rfl) (by kernel_rfl) (by kernel_rfl) (by kernel_rfl) (by kernel_rfl) (fun _ _ _ h => h) (fun o ho W hSw => ?z78) hHeld ?_
          case z78 =>
            cases ho
            simp [execOp, go_sem, Act.eval]
          simp only [Act.put, List.setIfInBounds_toArray, List.set_cons_zero, List.set_cons_succ]
          refine hSkip (i := 18) (some 45) (by kernel_rfl) (by kernel_rfl) (by kernel_rfl) (by kernel_rfl) (by kernel_rfl) (fun _ _ _ h => h) hHeld ?_
          simp only [Act.put, List.setIfInBounds_toArray, List.set_cons_zero, List.set_cons_succ]
          refine hSkip (i := 19) (some 46) (by kernel_rfl) (by kernel_rfl) (by kernel_rfl) (by kernel_rfl) (by kernel_rfl) (fun _ _ _ h => h) hHeld ?_
          simp only [Act.put, List.setIfInBounds_toArray, List.set_cons_zero, List.set_cons_succ]
          refine hSkip (i := 20) (some 47) (by kernel_rfl) (by kernel_rfl) (by kernel_rfl) (by kernel_rfl) (by kernel_rfl) (fun _ _ _ h => h) hHeld ?_
          simp only [Act.put, List.setIfInBounds_toArray, List.set_cons_zero, List.set_cons_succ]
          refine hSkip (i := 21) (some 48) (by kernel_rfl) (by kernel_rfl) (by kernel_rfl) (by kernel_rfl) (by kernel_rfl) (fun _ _ _ h => h) hHeld ?_
          simp only [Act.put, List.setIfInBounds_toArray, List.set_cons_zero, List.set_cons_succ]
          refine hSkip (i := 22) (some 49) (by kernel_rfl) (by kernel_rfl) (by kernel_rfl) (by kernel_rfl) (by kernel_rfl) (fun _ _ _ h => h) hHeld ?_
          simp only [Act.put, List.setIfInBounds_toArray, List.set_cons_zero, List.set_cons_succ]
          refine hSkip (i := 23) (some 50) (by kernel_rfl) (by kernel_rfl) (by kernel_rfl) (by kernel_rfl) (by kernel_rfl) (fun _ _ _ h => h) hHeld ?_
          simp only [Act.put, List.setIfInBounds_toArray, List.set_cons_zero, List.set_cons_succ]
          refine hSkip (i := 24) (some 51) (by kernel_rfl) (by kernel_rfl) (by kernel_rfl) (by kernel_rfl) (by kernel_rfl) (fun _ _ _ h => h) hHeld ?_
          simp only [Act.put, List.setIfInBounds_toArray, List.set_cons_zero, List.set_cons_succ]
          refine hSkip (i := 25) (some 52) (by kernel_rfl) (by kernel_rfl) (by kernel_rfl) (by kernel_rfl) (by kernel_rfl) (fun _ _ _ h => h) hHeld ?_
          simp only [Act.put, List.setIfInBounds_toArray, List.set_cons_zero, List.set_cons_succ]
          refine hSkip (i := 26) (some 53) (by kernel_rfl) (by kernel_rfl) (by kernel_rfl) (by kernel_rfl) (by kernel_rfl) (fun _ _ _ h => h) hHeld ?_
          simp only [Act.put, List.setIfInBounds_toArray, List.set_cons_zero, List.set_cons_succ]
          refine hSkip (i := 27) (some 54) (by kernel_rfl) (by kernel_rfl) (by kernel_rfl) (by kernel_rfl) (by kernel_rfl) (fun _ _ _ h => h) hHeld ?_
          simp only [Act.put, List.setIfInBounds_toArray, List.set_cons_zero, List.set_cons_succ]
          refine hSkip (i := 28) (some 55) (by kernel_rfl) (by kernel_rfl) (by kernel_rfl) (by kernel_rfl) (by kernel_rfl) (fun _ _ _ h => h) hHeld ?_
          simp only [Act.put, List.setIfInBounds_toArray, List.set_cons_zero, List.set_cons_succ]
          refine hTake (i := 29) (v := .bool false) (some 56) (by kernel_rfl) (by kernel_rfl) (by kernel_rfl) (by kernel_rfl) (by kernel_rfl) (fun _ _ _ h => h) (fun o ho W hSw => ?z79) hHeld ?_
          case z79 =>
            cases ho
            simp [execOp, go_sem, Act.eval]
          simp only [Act.put, List.setIfInBounds_toArray, List.set_cons_zero, List.set_cons_succ]
          refine wpAnyH_done (by kernel_rfl) ?_ _
          change Exit.then _ _ _ _ _
          clear hHeld
          go_wp2
          go_roundw
          case rel => exact ⟨j + 1, by omega, by go_num, HN2, HB2'⟩
          case measure => simp [intOf]; omega
      · have HN2 : Hid _ := HNXT.out (by rw [HBJ.out]; simp [hk0])
        have HB2' : Hid (Below W0.heap.size W0 wr.drew) := Below.on HB.out ((Below.refl _ _).drew)
        clear HALL HNXT HBJ hpos
        go_wp2_with fail
        refine wp_region_held_drew (S := fun W' => W'.cell? ⟨bt, ot + j * 3, none⟩ = some (.int .i64 cj0) ∧ W'.cell? ⟨bt, ot + j * 3 + 1, none⟩ = some (.int .i64 cj1) ∧ W'.cell? ⟨w.heap.size, 0, none⟩ = some (.slice p nx c1)) (by kernel_rfl) ⟨t0, t1, s0⟩ (fun hHeld => ?_)
        refine hTake (i := 0) (v := .slice (some ⟨bt, ot, none⟩) nc cap) (some 27) (by kernel_rfl) (by kernel_rfl) (by kernel_rfl) (by kernel_rfl) (by kernel_rfl) (fun _ _ _ h => h) (fun o ho W hSw => ?z80) hHeld ?_
        case z80 =>
          cases ho
          simp [execOp, go_sem, Act.eval]
        simp only [Act.put, List.setIfInBounds_toArray, List.set_cons_zero, List.set_cons_succ]
        refine hTake (i := 1) (v := .int .i64 (j : Nat)) (some 28) (by kernel_rfl) (by kernel_rfl) (by kernel_rfl) (by kernel_rfl) (by kernel_rfl) (fun _ _ _ h => h) (fun o ho W hSw => ?z81) hHeld ?_
        case z81 =>
          cases ho
          simp [execOp, go_sem, Act.eval]
        simp only [Act.put, List.setIfInBounds_toArray, List.set_cons_zero, List.set_cons_succ]
        refine hTake (i := 2) (v := .pointer (some ⟨bt, ot + j * 3, none⟩)) (some 29) (by kernel_rfl) (by kernel_rfl) (by kernel_rfl) (by kernel_rfl) (by kernel_rfl) (fun _ _ _ h => h) (fun o ho W hSw => ?z82) hHeld ?_
        case z82 =>
          cases ho
          simp [execOp, go_sem, Act.eval, hlt]
        simp only [Act.put, List.setIfInBounds_toArray, List.set_cons_zero, List.set_cons_succ]
        refine hTake (i := 3) (v := .pointer (some ⟨bt, ot + j * 3, none⟩)) (some 30) (by kernel_rfl) (by kernel_rfl) (by kernel_rfl) (by kernel_rfl) (by kernel_rfl) (fun _ _ _ h => h) (fun o ho W hSw => ?z83) hHeld ?_
        case z83 =>
          cases ho
          simp [execOp, go_sem, Act.eval]
        simp only [Act.put, List.setIfInBounds_toArray, List.set_cons_zero, List.set_cons_succ]
        refine hTake (i := 4) (v := .int .i64 cj0) (some 31) (by kernel_rfl) (by kernel_rfl) (by kernel_rfl) (by kernel_rfl) (by kernel_rfl) (fun _ _ _ h => h) (fun o ho W hSw => ?z84) hHeld ?_
        case z84 =>
          cases ho
          obtain ⟨t0, t1, t2⟩ := hSw
          simp [execOp, go_sem, Act.eval, t0]
        simp only [Act.put, List.setIfInBounds_toArray, List.set_cons_zero, List.set_cons_succ]
        refine hTake (i := 5) (v := .bool false) (some 32) (by kernel_rfl) (by kernel_rfl) (by kernel_rfl) (by kernel_rfl) (by kernel_rfl) (fun _ _ _ h => h) (fun o ho W hSw => ?z85) hHeld ?_
        case z85 =>
          cases ho
          simp [execOp, go_sem, Act.eval, hk0]
        simp only [Act.put, List.setIfInBounds_toArray, List.set_cons_zero, List.set_cons_succ]
        refine hTake (i := 6) (v := .bool false) (some 33) (by kernel_rfl) (by kernel_rfl) (by kernel_rfl) (by kernel_rfl) (by kernel_rfl) (fun _ _ _ h => h) (fun o ho W hSw => ?z86) hHeld ?_
        case z86 =>
          cases ho
          simp [execOp, go_sem, Act.eval]
        simp only [Act.put, List.setIfInBounds_toArray, List.set_cons_zero, List.set_cons_succ]
        refine hSkip (i := 7) (some 34) (by kernel_rfl) (by kernel_rfl) (by kernel_rfl) (by kernel_rfl) (by kernel_rfl) (fun _ _ _ h => h) hHeld ?_
        simp only [Act.put, List.setIfInBounds_toArray, List.set_cons_zero, List.set_cons_succ]
        refine hSkip (i := 8) (some 35) (by kernel_rfl) (by kernel_rfl) (by kernel_rfl) (by kernel_rfl) (by kernel_rfl) (fun _ _ _ h => h) hHeld ?_
        simp only [Act.put, List.setIfInBounds_toArray, List.set_cons_zero, List.set_cons_succ]
        refine hSkip (i := 9) (some 36) (by kernel_rfl) (by kernel_rfl) (by kernel_rfl) (by kernel_rfl) (by kernel_rfl) (fun _ _ _ h => h) hHeld ?_
        simp only [Act.put, List.setIfInBounds_toArray, List.set_cons_zero, List.set_cons_succ]
        refine hSkip (i := 10) (some 37) (by kernel_rfl) (by kernel_rfl) (by kernel_rfl) (by kernel_rfl) (by kernel_rfl) (fun _ _ _ h => h) hHeld ?_
        simp only [Act.put, List.setIfInBounds_toArray, List.set_cons_zero, List.set_cons_succ]
        refine hSkip (i := 11) (some 38) (by kernel_rfl) (by kernel_rfl) (by kernel_rfl) (by kernel_rfl) (by kernel_rfl) (fun _ _ _ h => h) hHeld ?_
        simp only [Act.put, List.setIfInBounds_toArray, List.set_cons_zero, List.set_cons_succ]
        refine hSkip (i := 12) (some 39) (by kernel_rfl) (by kernel_rfl) (by kernel_rfl) (by kernel_rfl) (by kernel_rfl) (fun _ _ _ h => h) hHeld ?_
        simp only [Act.put, List.setIfInBounds_toArray, List.set_cons_zero, List.set_cons_succ]
        refine hSkip (i := 13) (some 40) (by kernel_rfl) (by kernel_rfl) (by kernel_rfl) (by kernel_rfl) (by kernel_rfl) (fun _ _ _ h => h) hHeld ?_
        simp only [Act.put, List.setIfInBounds_toArray, List.set_cons_zero, List.set_cons_succ]
        refine hSkip (i := 14) (some 41) (by kernel_rfl) (by kernel_rfl) (by kernel_rfl) (by kernel_rfl) (by kernel_rfl) (fun _ _ _ h => h) hHeld ?_
        simp only [Act.put, List.setIfInBounds_toArray, List.set_cons_zero, List.set_cons_succ]
        refine hSkip (i := 15) (some 42) (by kernel_rfl) (by kernel_rfl) (by kernel_rfl) (by kernel_rfl) (by kernel_rfl) (fun _ _ _ h => h) hHeld ?_
        simp only [Act.put, List.setIfInBounds_toArray, List.set_cons_zero, List.set_cons_succ]
        refine hTake (i := 16) (v := .bool false) (some 43) (by kernel_rfl) (by kernel_rfl) (by kernel_rfl) (by kernel_rfl) (by kernel_rfl) (fun _ _ _ h => h) (fun o ho W hSw => ?z87) hHeld ?_
        case z87 =>
          cases ho
          simp [execOp, go_sem, Act.eval]
        simp only [Act.put, List.setIfInBounds_toArray, List.set_cons_zero, List.set_cons_succ]
        refine hTake (i := 17) (v := .bool false) (some 44) (by kernel_rfl) (by kernel_rfl) (by kernel_rfl) (by kernel_rfl) (by kernel_rfl) (fun _ _ _ h => h) (fun o ho W hSw => ?z88) hHeld ?_
        case z88 =>
          cases ho
          simp [execOp, go_sem, Act.eval]
        simp only [Act.put, List.setIfInBounds_toArray, List.set_cons_zero, List.set_cons_succ]
        refine hSkip (i := 18) (some 45) (by kernel_rfl) (by kernel_rfl) (by kernel_rfl) (by kernel_rfl) (by kernel_rfl) (fun _ _ _ h => h) hHeld ?_
        simp only [Act.put, List.setIfInBounds_toArray, List.set_cons_zero, List.set_cons_succ]
        refine hSkip (i := 19) (some 46) (by kernel_rfl) (by kernel_rfl) (by kernel_rfl) (by kernel_rfl) (by kernel_rfl) (fun _ _ _ h => h) hHeld ?_
        simp only [Act.put, List.setIfInBounds_toArray, List.set_cons_zero, List.set_cons_succ]
        refine hSkip (i := 20) (some 47) (by kernel_rfl) (by kernel_rfl) (by kernel_rfl) (by kernel_rfl) (by kernel_rfl) (fun _ _ _ h => h) hHeld ?_
        simp only [Act.put, List.setIfInBounds_toArray, List.set_cons_zero, List.set_cons_succ]
        refine hSkip (i := 21) (some 48) (by kernel_rfl) (by kernel_rfl) (by kernel_rfl) (by kernel_rfl) (by kernel_rfl) (fun _ _ _ h => h) hHeld ?_
        simp only [Act.put, List.setIfInBounds_toArray, List.set_cons_zero, List.set_cons_succ]
        refine hSkip (i := 22) (some 49) (by kernel_rfl) (by kernel_rfl) (by kernel_rfl) (by kernel_rfl) (by kernel_rfl) (fun _ _ _ h => h) hHeld ?_
        simp only [Act.put, List.setIfInBounds_toArray, List.set_cons_zero, List.set_cons_succ]
        refine hSkip (i := 23) (some 50) (by kernel_rfl) (by kernel_rfl) (by kernel_rfl) (by kernel_rfl) (by kernel_rfl) (fun _ _ _ h => h) hHeld ?_
        simp only [Act.put, List.setIfInBounds_toArray, List.set_cons_zero, List.set_cons_succ]
        refine hSkip (i := 24) (some 51) (by kernel_rfl) (by kernel_rfl) (by kernel_rfl) (by kernel_rfl) (by kernel_rfl) (fun _ _ _ h => h) hHeld ?_
        simp only [Act.put, List.setIfInBounds_toArray, List.set_cons_zero, List.set_cons_succ]
        refine hSkip (i := 25) (some 52) (by kernel_rfl) (by kernel_rfl) (by kernel_rfl) (by kernel_rfl) (by kernel_rfl) (fun _ _ _ h => h) hHeld ?_
        simp only [Act.put, List.setIfInBounds_toArray, List.set_cons_zero, List.set_cons_succ]
        refine hSkip (i := 26) (some 53) (by kernel_rfl) (by kernel_rfl) (by kernel_rfl) (by kernel_rfl) (by kernel_rfl) (fun _ _ _ h => h) hHeld ?_
        simp only [Act.put, List.setIfInBounds_toArray, List.set_cons_zero, List.set_cons_succ]
        refine hSkip (i := 27) (some 54) (by kernel_rfl) (by kernel_rfl) (by kernel_rfl) (by kernel_rfl) (by kernel_rfl) (fun _ _ _ h => h) hHeld ?_
        simp only [Act.put, List.setIfInBounds_toArray, List.set_cons_zero, List.set_cons_succ]
        refine hSkip (i := 28) (some 55) (by kernel_rfl) (by kernel_rfl) (by kernel_rfl) (by kernel_rfl) (by kernel_rfl) (fun _ _ _ h => h) hHeld ?_
        simp only [Act.put, List.setIfInBounds_toArray, List.set_cons_zero, List.set_cons_succ]
        refine hTake (i := 29) (v := .bool false) (some 56) (by kernel_rfl) (by kernel_rfl) (by kernel_rfl) (by kernel_rfl) (by kernel_rfl) (fun _ _ _ h => h) (fun o ho W hSw => ?z89) hHeld ?_
        case z89 =>
          cases ho
          simp [execOp, go_sem, Act.eval]
        simp only [Act.put, List.setIfInBounds_toArray, List.set_cons_zero, List.set_cons_succ]
        refine wpAnyH_done (by kernel_rfl) ?_ _
        change Exit.then _ _ _ _ _
        clear hHeld
        go_wp2
        go_roundw
        case rel => exact ⟨j + 1, by omega, by go_num, HN2, HB2'⟩
        case measure => simp [intOf]; omega
    · obtain rfl : j = nc := by omega
      have HPP : Hid (PA = PT) := by
        show _ = _
        rw [HPUT.out, if_pos (all_full _ cs Cel.none (fun a ha => by rw [HG.out a (by have := HNC.out; omega)]; rfl))]
      have HO3 : Hid _ := HOPN.out wr HB.out
      obtain ⟨s0, s1, s2⟩ := HSX.out wr HB.out
      clear HG HPUT HOPN HSX HPOS HIN HKN HTX HFB
      go_wp2_with fail
      refine Calls.mono HO3.out ?_
      rintro e w3 ⟨h3, rfl, hsh3, hb3⟩
      have HC3 : Hid _ := HPTM.out wr w3 h3 HB.out hsh3
      clear hsh3 hb3 HO3 HPTM s0 s1 s2
      go_wp2_with fail
      refine Calls.mono HC3.out ?_
      rintro e w4 ⟨hyes, hno, hb4⟩
      have HB4 : Hid (Below W0.heap.size W0 w4) := Below.on HB.out hb4
      by_cases hle : xs.length + PB.length ≤ 20000
      · obtain ⟨tp, tc, rfl, hbt, hsh4⟩ := hyes hle
        have HEQ : Hid (PA = ((xs ++ PB, tr), d, 0)) := by show _ = _; rw [HPP.out, HPT.out, if_pos hle]
        have HCL : Hid _ := HCLO.out hle
        obtain ⟨d1, d2, dt⟩ := d
        simp only at hbt HDT
        obtain ⟨dl, edl⟩ : ∃ dl, dl = dt.length := ⟨_, rfl⟩
        have HDL : Hid (dl = dt.length) := edl
        have hdl : dl ≤ 100 := by have := HDT.out; omega
        rw [← edl]
        obtain ⟨W5, eW5⟩ : ∃ W5, W5 = w4.alloc (.cells #[.int .i64 d1, .int .i64 d2, .slice tp dl tc] 31) := ⟨_, rfl⟩
        have hb45 : Below w4.heap.size w4 W5 := by rw [eW5]; exact alloc_on _ _
        have hz5 : W5.heap.size = w4.heap.size + 1 := by rw [eW5]; simp
        have HB45 : Hid (Below w4.heap.size w4 W5) := hb45
        have HZ5 : Hid (W5.heap.size = w4.heap.size + 1) := hz5
        have HE5 : Hid _ := eW5
        have HBX9 : Hid (∀ W, Below W5.heap.size W5 W → Box3 W w4.heap.size (.int .i64 d1) (.int .i64 d2) (.slice tp dl tc)) := fun W hW => Box3.of_block (t := 31) ((hW.block w4.heap.size (by omega)).trans (by rw [eW5]; exact heap_alloc_new _ _))
        have HSH4 : Hid (SHp wr w4 h3 (xs ++ PB) tr 0) := hsh4
        have HBW : Hid (Below wr.heap.size wr w4) := hb4
        have HL6 : Hid _ := l1copy_all tp dl tc dt W5 edl (by omega) (hbt.below (Below.on hb4 hb45))
        obtain ⟨u0, u1, u2, u3⟩ := HBX9.out W5 (Below.refl _ _)
        rw [eW5] at u0 u1 u2 u3 HL6
        clear hyes hno hb4 hle HC3 HCLO HPT eW5 hsh4 hbt hb45 hz5 edl HDT
        go_wp2_with fail
        refine Calls.mono HL6.out ?_
        rintro e w6 ⟨p6, n6, c6, rfl, hos, hb56⟩
        rw [← HE5.out] at hb56 hos
        obtain ⟨v0, v1, v2, v3⟩ := HBX9.out w6 hb56
        have HN6 : Hid (n6 = dt.length) := hos.len
        obtain ⟨W7, eW7⟩ : ∃ W7, W7 = w6.setCell ⟨w4.heap.size, 2, none⟩ (.slice p6 n6 c6) := ⟨_, rfl⟩
        have hb57 : Below w4.heap.size w4 W7 := by rw [eW7]; exact (HB45.out.trans (hb56.mono (by have := HZ5.out; omega))).setCell (p := ⟨w4.heap.size, 2, none⟩) (Nat.le_refl _) _
        have y0 : W7.cell? ⟨w4.heap.size, 0, none⟩ = some (.int .i64 d1) := by rw [eW7, World.cell?_setCell_other _ _ _ _ (by simp)]; exact v0
        have y1 : W7.cell? ⟨w4.heap.size, 1, none⟩ = some (.int .i64 d2) := by rw [eW7, World.cell?_setCell_other _ _ _ _ (by simp)]; exact v1
        have y2 : W7.cell? ⟨w4.heap.size, 2, none⟩ = some (.slice p6 n6 c6) := by rw [eW7]; exact World.cell?_setCell_same _ _ _ v2
        have HOT : Hid (OwnT W7 W5.heap.size p6 n6 c6 dt) := by
          show OwnT _ _ _ _ _ _
          rw [eW7]
          refine hos.toT.setCell (fun hp e => ?_) _
          obtain ⟨g, hg, hg2, _⟩ := hos.toT.2 hp
          rw [hg] at e
          have := congrArg Addr.block (Option.some.inj e)
          have hz := HZ5.out
          simp at this; omega
        have HB07 : Hid (Below W0.heap.size W0 W7) := HB4.out.trans (hb57.mono HB4.out.size)
        have hl7 : w4.heap.size < W7.heap.size := World.block_lt_of_cell? _ _ y0
        have hl57 : W5.heap.size ≤ W7.heap.size := by rw [eW7]; simpa using hb56.size
        have HL57 : Hid (W5.heap.size ≤ W7.heap.size) := hl57
        have HL7 : Hid _ := hl7
        have HC7 : Hid _ := HCL.out wr W7.drew h3 (HSH4.out.below (hb57.drew))
        have HE7 : Hid _ := eW7
        clear hos hb56 hb57 eW7 HL6 u0 u1 u2 u3 hl57 hl7
        go_wp2_with fail
        rw [← HE7.out]
        clear v0 v1 v2 v3
        refine wp_region_held_drew (S := fun W' => W'.cell? ⟨w4.heap.size, 0, none⟩ = some (.int .i64 d1) ∧ W'.cell? ⟨w4.heap.size, 1, none⟩ = some (.int .i64 d2) ∧ W'.cell? ⟨w4.heap.size, 2, none⟩ = some (.slice p6 n6 c6)) (by kernel_rfl) ⟨y0, y1, y2⟩ (fun hHeld => ?_)
        refine hTake (i := 0) (v := .pointer (some ⟨h3, 0, none⟩)) (some 76) (by kernel_rfl) (by kernel_rfl) (by kernel_rfl) (by kernel_rfl) (by kernel_rfl) (fun _ _ _ h => h) (fun o ho W hSw => ?z90) hHeld ?_
        case z90 =>
          cases ho
          simp [execOp, go_sem, Act.eval]
        simp only [Act.put, List.setIfInBounds_toArray, List.set_cons_zero, List.set_cons_succ]
        refine hTake (i := 2) (v := .agg #[.int .i64 d1, .int .i64 d2, .slice p6 n6 c6]) (some 78) (by kernel_rfl) (by kernel_rfl) (by kernel_rfl) (by kernel_rfl) (by kernel_rfl) (fun _ _ _ h => h) (fun o ho W hSw => ?z91) hHeld ?_
        case z91 =>
          cases ho
          obtain ⟨t0, t1, t2⟩ := hSw
          simp [execOp, go_sem, Act.eval, t0, t1, t2]
        simp only [Act.put, List.setIfInBounds_toArray, List.set_cons_zero, List.set_cons_succ]
        refine hCallE (i := 1) (f := 56) (args := #[.pointer (some ⟨h3, 0, none⟩)]) (some 77) (by kernel_rfl) (by kernel_rfl) (by kernel_rfl) (fun o ho => ?cc) HC7.out ?_ (fun ch w' hh => by obtain ⟨_, _, _, _, hh, _⟩ := hh; cases hh) (fun w' hh => by obtain ⟨_, _, _, _, hh, _⟩ := hh; cases hh)
        case cc =>
          cases ho
          simp [execOp, go_sem, Act.eval]
        rintro u w8 ⟨p8, q8, c8, d8, hu, hoc, hoi, hb8⟩
        obtain rfl := Ending.returned.inj hu
        clear hu hHeld
        have hb78 : Below W7.heap.size W7 w8 := (Below.refl _ _).drew.trans hb8
        have hS8 : w8.cell? ⟨w4.heap.size, 0, none⟩ = some (.int .i64 d1) ∧ w8.cell? ⟨w4.heap.size, 1, none⟩ = some (.int .i64 d2) ∧ w8.cell? ⟨w4.heap.size, 2, none⟩ = some (.slice p6 n6 c6) := ⟨(hb78.cell (p := ⟨w4.heap.size, 0, none⟩) HL7.out).trans y0, (hb78.cell (p := ⟨w4.heap.size, 1, none⟩) HL7.out).trans y1, (hb78.cell (p := ⟨w4.heap.size, 2, none⟩) HL7.out).trans y2⟩
        refine ⟨hS8, ?_⟩
        obtain ⟨LX, eLX⟩ : ∃ LX, LX = (xs ++ PB).length := ⟨_, rfl⟩
        have HLX : Hid (LX = (xs ++ PB).length) := eLX
        rw [← eLX]
        clear eLX
        simp only [Act.put, List.setIfInBounds_toArray, List.set_cons_zero, List.set_cons_succ]
        have hB08 : Below W0.heap.size W0 w8 := Below.on HB07.out hb78
        obtain ⟨x0, x1, x2⟩ := HBX.out w8 hB08
        have hsz := HB4.out.size
        have hz0 := HZ0.out
        have ne : ∀ i i' : Nat, (⟨w.heap.size + 1, i, none⟩ : Addr) ≠ ⟨w4.heap.size, i', none⟩ := fun i i' e => by have := congrArg Addr.block e; simp at this; omega
        have ne2 : ∀ i i' : Nat, (⟨w.heap.size + 1 + 1, i, none⟩ : Addr) ≠ ⟨w4.heap.size, i', none⟩ := fun i i' e => by have := congrArg Addr.block e; simp at this; omega
        have hS9 : (fun W' : World => W'.cell? ⟨w4.heap.size, 0, none⟩ = some (.int .i64 d1) ∧ W'.cell? ⟨w4.heap.size, 1, none⟩ = some (.int .i64 d2) ∧ W'.cell? ⟨w4.heap.size, 2, none⟩ = some (.slice p6 n6 c6)) ((w8.setCell ⟨w.heap.size + 1, 0, none⟩ (.slice p8 LX c8)).setCell ⟨w.heap.size + 1, 1, none⟩ (.slice q8 tr.length d8)) := by
          refine ⟨?_, ?_, ?_⟩
          · rw [World.cell?_setCell_other _ _ _ _ (ne _ _), World.cell?_setCell_other _ _ _ _ (ne _ _)]; exact hS8.1
          · rw [World.cell?_setCell_other _ _ _ _ (ne _ _), World.cell?_setCell_other _ _ _ _ (ne _ _)]; exact hS8.2.1
          · rw [World.cell?_setCell_other _ _ _ _ (ne _ _), World.cell?_setCell_other _ _ _ _ (ne _ _)]; exact hS8.2.2
        refine hStore (i := 3) (w' := (w8.setCell ⟨w.heap.size + 1, 0, none⟩ (.slice p8 LX c8)).setCell ⟨w.heap.size + 1, 1, none⟩ (.slice q8 tr.length d8)) (by kernel_rfl) (by kernel_rfl) (by kernel_rfl) (fun o ho => ?s3) hS9 ?_
        case s3 =>
          cases ho
          simp [execOp, go_sem, Act.eval, x0, x1, x2]
        obtain ⟨HR1, HR2⟩ := put5 (HBX.out w8 hB08) (HCX.out w8 hB08) (by omega) (.slice p8 LX c8) (.slice q8 tr.length d8) (.int .i64 d1) (.int .i64 d2) (.slice p6 n6 c6)
        obtain ⟨z0, z1, z2, z3⟩ := HCX.out w8 hB08
        have hS10 : (fun W' : World => W'.cell? ⟨w4.heap.size, 0, none⟩ = some (.int .i64 d1) ∧ W'.cell? ⟨w4.heap.size, 1, none⟩ = some (.int .i64 d2) ∧ W'.cell? ⟨w4.heap.size, 2, none⟩ = some (.slice p6 n6 c6)) (((((w8.setCell ⟨w.heap.size + 1, 0, none⟩ (.slice p8 LX c8)).setCell ⟨w.heap.size + 1, 1, none⟩ (.slice q8 tr.length d8)).setCell ⟨w.heap.size + 1 + 1, 0, none⟩ (.int .i64 d1)).setCell ⟨w.heap.size + 1 + 1, 1, none⟩ (.int .i64 d2)).setCell ⟨w.heap.size + 1 + 1, 2, none⟩ (.slice p6 n6 c6)) := by
          refine ⟨?_, ?_, ?_⟩
          · rw [World.cell?_setCell_other _ _ _ _ (ne2 _ _), World.cell?_setCell_other _ _ _ _ (ne2 _ _), World.cell?_setCell_other _ _ _ _ (ne2 _ _)]; exact hS9.1
          · rw [World.cell?_setCell_other _ _ _ _ (ne2 _ _), World.cell?_setCell_other _ _ _ _ (ne2 _ _), World.cell?_setCell_other _ _ _ _ (ne2 _ _)]; exact hS9.2.1
          · rw [World.cell?_setCell_other _ _ _ _ (ne2 _ _), World.cell?_setCell_other _ _ _ _ (ne2 _ _), World.cell?_setCell_other _ _ _ _ (ne2 _ _)]; exact hS9.2.2
        refine hStore (i := 4) (w' := ((((w8.setCell ⟨w.heap.size + 1, 0, none⟩ (.slice p8 LX c8)).setCell ⟨w.heap.size + 1, 1, none⟩ (.slice q8 tr.length d8)).setCell ⟨w.heap.size + 1 + 1, 0, none⟩ (.int .i64 d1)).setCell ⟨w.heap.size + 1 + 1, 1, none⟩ (.int .i64 d2)).setCell ⟨w.heap.size + 1 + 1, 2, none⟩ (.slice p6 n6 c6)) (by kernel_rfl) (by kernel_rfl) (by kernel_rfl) (fun o ho => ?s4) hS10 ?_
        case s4 =>
          cases ho
          simp [execOp, go_sem, Act.eval, z0, z1, z2, z3]
        refine hTake (i := 5) (v := .int .i64 0) (some 6) (by kernel_rfl) (by kernel_rfl) (by kernel_rfl) (by kernel_rfl) (by kernel_rfl) (fun _ _ _ h => h) (fun o ho W hSw => ?z92) hS10 ?_
        case z92 =>
          cases ho
          simp [execOp, go_sem, Act.eval]
        simp only [Act.put, List.setIfInBounds_toArray, List.set_cons_zero, List.set_cons_succ]
        refine wpAnyH_done (by kernel_rfl) ?_ _
        change Exit.then _ _ _ _ _
        have HFIN : Hid (RR (.returned (.tuple #[.agg #[.slice p8 LX c8, .slice q8 tr.length d8], .agg #[.int .i64 d1, .int .i64 d2, .slice p6 n6 c6], .int .i64 0])) (((((w8.setCell ⟨w.heap.size + 1, 0, none⟩ (.slice p8 LX c8)).setCell ⟨w.heap.size + 1, 1, none⟩ (.slice q8 tr.length d8)).setCell ⟨w.heap.size + 1 + 1, 0, none⟩ (.int .i64 d1)).setCell ⟨w.heap.size + 1 + 1, 1, none⟩ (.int .i64 d2)).setCell ⟨w.heap.size + 1 + 1, 2, none⟩ (.slice p6 n6 c6))) := by
          show RR _ _
          rw [HER.out, HEQ.out, HLX.out]
          have hl7 := HL7.out
          have hz5 := HZ5.out
          have hl57 := HL57.out
          have hw7 : W7.drew.heap.size = W7.heap.size := rfl
          refine ⟨p8, q8, p6, c8, d8, c6, by rw [HN6.out], ?_, ?_, ?_, HB0.out w8 _ _ _ _ _ hB08⟩
          · exact (((((hoc.set (by simp; omega) _).set (by simp; omega) _).set (by simp; omega) _).set (by simp; omega) _).set (by simp; omega) _).mono (by omega)
          · exact (((((hoi.set (by simp; omega) _).set (by simp; omega) _).set (by simp; omega) _).set (by simp; omega) _).set (by simp; omega) _).mono (by omega)
          · have hT := HOT.out.below hb78
            rw [HN6.out] at hT ⊢
            have hne : ∀ b, b < W5.heap.size → 0 < dt.length → p6 ≠ some ⟨b, 0, none⟩ := fun b hb hp e => by
              obtain ⟨g, hg, hg2, _⟩ := hT.2 hp
              rw [hg] at e
              have := congrArg Addr.block (Option.some.inj e)
              simp at this; omega
            exact (((((hT.setCell (fun hp => hne _ (by simp; omega) hp) _).setCell (fun hp => hne _ (by simp; omega) hp) _).setCell (fun hp => hne _ (by simp; omega) hp) _).setCell (fun hp => hne _ (by simp; omega) hp) _).setCell (fun hp => hne _ (by simp; omega) hp) _).mono (by omega)
        obtain ⟨e0, e1, _⟩ := HR1
        obtain ⟨e2, e3, e4, _⟩ := HR2
        clear hS8 hS9 hS10 hoc hoi hb8 hb78 hB08 x0 x1 x2 z0 z1 z2 z3 y0 y1 y2 ne ne2
        go_wp2
        exact bodyPost_ret (v := .tuple #[.agg #[.slice p8 LX c8, .slice q8 tr.length d8], .agg #[.int .i64 d1, .int .i64 d2, .slice p6 n6 c6], .int .i64 0]) (by simp [results, Try.results33, go_sem, e0, e1, e2, e3, e4]) rfl HFIN.out
      · obtain rfl := hno hle
        have HEQ : Hid (PA = noneP 10) := by show _ = _; rw [HPP.out, HPT.out, if_neg hle]
        obtain ⟨W5, eW5⟩ : ∃ W5, W5 = w4.alloc (.cells #[.int .i64 0, .int .i64 0, .slice none 0 0] 31) := ⟨_, rfl⟩
        have HB5 : Hid (Below W0.heap.size W0 W5) := by show Below _ _ _; rw [eW5]; exact Below.on HB4.out (alloc_on _ _)
        have HE5 : Hid _ := eW5
        clear hyes hno hb4 hle HC3 HCLO HPT eW5
        have HR : Hid _ := put5 (HBX.out W5 HB5.out) (HCX.out W5 HB5.out) (by omega) (.slice none 0 0) (.slice none 0 0) (.int .i64 0) (.int .i64 0) (.slice none 0 0)
        have HBF : Hid _ := HB0.out W5 (.slice none 0 0) (.slice none 0 0) (.int .i64 0) (.int .i64 0) (.slice none 0 0) HB5.out
        obtain ⟨x0, x1, x2⟩ := HBX.out W5 HB5.out
        obtain ⟨y0, y1, y2, y3⟩ := HCX.out W5 HB5.out
        rw [HE5.out] at HR HBF x0 x1 x2 y0 y1 y2 y3
        clear HBX HCX HB0
        go_wp2
        obtain ⟨⟨d0, d1, _⟩, d2, d3, d4, _⟩ := HR.out
        exact bodyPost_ret (v := .tuple #[.agg #[.slice none 0 0, .slice none 0 0], .agg #[.int .i64 0, .int .i64 0, .slice none 0 0], .int .i64 10]) (by simp [results, Try.results33, go_sem, d0, d1, d2, d3, d4]) rfl (by rw [HER.out, HEQ.out]; exact PutB.none 10 HBF.out)

end Go.Proofs.Ytedkkghekboahaa

