/- Texts of WiJ, WiK, WiL. Own work of the verifier. -/
import Derived.Test.YtgonpnnlpkjkcaaGreatDoorUqax
namespace Go.Proofs.YtgonpnnlpkjkcaaGreatDoor
open Go Go.RowKit
set_option linter.unusedVariables false

theorem set3_same {rb : Nat} {W : World} {v0 v1 v2 u0 u1 u2 : Value} (z0 : W.cell? ⟨rb, 0, none⟩ = some u0) (z1 : W.cell? ⟨rb, 1, none⟩ = some u1) (z2 : W.cell? ⟨rb, 2, none⟩ = some u2) : (((W.setCell ⟨rb, 0, none⟩ v0).setCell ⟨rb, 1, none⟩ v1).setCell ⟨rb, 2, none⟩ v2).cell? ⟨rb, 0, none⟩ = some v0 ∧ (((W.setCell ⟨rb, 0, none⟩ v0).setCell ⟨rb, 1, none⟩ v1).setCell ⟨rb, 2, none⟩ v2).cell? ⟨rb, 1, none⟩ = some v1 ∧ (((W.setCell ⟨rb, 0, none⟩ v0).setCell ⟨rb, 1, none⟩ v1).setCell ⟨rb, 2, none⟩ v2).cell? ⟨rb, 2, none⟩ = some v2 := by
  have n1 : (⟨rb, 1, none⟩ : Addr) ≠ ⟨rb, 0, none⟩ := by simp
  have n2 : (⟨rb, 2, none⟩ : Addr) ≠ ⟨rb, 0, none⟩ := by simp
  have n3 : (⟨rb, 2, none⟩ : Addr) ≠ ⟨rb, 1, none⟩ := by simp
  have a0 : (W.setCell ⟨rb, 0, none⟩ v0).cell? ⟨rb, 0, none⟩ = some v0 := World.cell?_setCell_same' _ _ _ (by rw [z0]; rfl)
  have a1 : (W.setCell ⟨rb, 0, none⟩ v0).cell? ⟨rb, 1, none⟩ = some u1 := (World.cell?_setCell_other _ _ _ _ n1.symm).trans z1
  have a2 : (W.setCell ⟨rb, 0, none⟩ v0).cell? ⟨rb, 2, none⟩ = some u2 := (World.cell?_setCell_other _ _ _ _ n2.symm).trans z2
  have b0 := (World.cell?_setCell_other (W.setCell ⟨rb, 0, none⟩ v0) _ _ v1 n1).trans a0
  have b1 : ((W.setCell ⟨rb, 0, none⟩ v0).setCell ⟨rb, 1, none⟩ v1).cell? ⟨rb, 1, none⟩ = some v1 := World.cell?_setCell_same' _ _ _ (by rw [a1]; rfl)
  have b2 := (World.cell?_setCell_other (W.setCell ⟨rb, 0, none⟩ v0) _ _ v1 n3.symm).trans a2
  exact ⟨(World.cell?_setCell_other _ _ _ _ n2).trans b0, (World.cell?_setCell_other _ _ _ _ n3).trans b1, World.cell?_setCell_same' _ _ _ (by rw [b2]; rfl)⟩
theorem set3_other {rb ob : Nat} (h : ¬ ob = rb) (W : World) (v0 v1 v2 : Value) (u : Nat) (o : Nat) : (((W.setCell ⟨rb, 0, none⟩ v0).setCell ⟨rb, 1, none⟩ v1).setCell ⟨rb, 2, none⟩ v2).cell? ⟨ob, o, none⟩ = W.cell? ⟨ob, o, none⟩ := by
  rw [World.cell?_setCell_other _ _ _ _ (fun e => h (by rw [Addr.mk.injEq] at e; exact e.1.symm)), World.cell?_setCell_other _ _ _ _ (fun e => h (by rw [Addr.mk.injEq] at e; exact e.1.symm)), World.cell?_setCell_other _ _ _ _ (fun e => h (by rw [Addr.mk.injEq] at e; exact e.1.symm))]
set_option maxRecDepth 100000 in
set_option maxHeartbeats 2000000 in
/-- Two arguments. -/
theorem ww_two {w : World} {mb M : Nat} {T : List Cel} (hM : OpMap w mb M T) (xs : List Int) (hl : xs.length ≤ 1000000) (hd : ((strOfNums xs).toList == [46]) = false) (b g : Nat) (i : Int) (hi : 0 ≤ i ↔ 0 ≤ findW T xs false ∧ postB (opW T (findW T xs false)).2.1 = false) (hie : 0 ≤ i → i = findW T xs false) (h0 : w.cell? ⟨b, 0, none⟩ = some (.string (strOfNums xs))) (h1 : w.cell? ⟨b, 1, none⟩ = some (.slice (some ⟨g, 0, none⟩) 2 2)) :
    Calls Tryz.prog 77 #[.map (some mb), .iface 99 (.pointer (some ⟨b, 0, none⟩))] w (WwOut w T i) := by
  have n1 := wiA_comp
  have hal : Below w.heap.size w (w.alloc (.cells #[.string ⟨#[]⟩, .int .i64 0, .int .i64 0] 87)) := (Below.refl _ _).alloc (Nat.le_refl _) _
  have HFU := functorW_any b g 2 (strOfNums xs) (w.alloc (.cells #[.string ⟨#[]⟩, .int .i64 0, .int .i64 0] 87)) ((hal.cell (World.block_lt_of_cell? _ _ h0)).trans h0) ((hal.cell (World.block_lt_of_cell? _ _ h1)).trans h1)
  have HAL : Hid _ := hal
  have HM : Hid (OpMap w mb M T) := hM
  have HI : Hid ((0 ≤ i ↔ 0 ≤ findW T xs false ∧ postB (opW T (findW T xs false)).2.1 = false) ∧ (0 ≤ i → i = findW T xs false)) := ⟨hi, hie⟩
  have H01 : Hid (∀ W, Below w.heap.size w W → W.cell? ⟨b, 0, none⟩ = some (.string (strOfNums xs)) ∧ W.cell? ⟨b, 1, none⟩ = some (.slice (some ⟨g, 0, none⟩) 2 2)) := fun W hW => ⟨(hW.cell (World.block_lt_of_cell? _ _ h0)).trans h0, (hW.cell (World.block_lt_of_cell? _ _ h1)).trans h1⟩
  have HLK : Hid (∀ W, Below w.heap.size w W → ∃ so po to, (Instr.lookup 61 (.map (some mb)) (.agg #[.string (strOfNums xs), .int .i64 1]) true).run Tryz.prog W = .ok (.tuple #[.agg #[.string so, .int .i64 po, .int .i64 to], .bool (decide (0 ≤ findW T xs false))]) W ∧ (0 ≤ findW T xs false → (Value.agg #[.string so, .int .i64 po, .int .i64 to]) = encV (opW T (findW T xs false)))) := fun W hW => by
    obtain ⟨so, po, to, h, h2⟩ := (hM.below hW).look xs hl false
    exact ⟨so, po, to, h, fun hh => (h2 hh).1⟩
  clear h0 h1 hal hM hi hie hl
  obtain ⟨s, es⟩ : ∃ s, s = strOfNums xs := ⟨_, rfl⟩
  rw [← es] at HFU hd H01 HLK
  clear es
  go_enter Tryz.func77, Tryz.ntmps77
  go_wp2_with fail
  refine HFU.mono ?_
  rintro e w1 ⟨rfl, hb1⟩
  have HB1 : Hid (Below w.heap.size w w1) := HAL.out.trans (hb1.mono (by simp))
  obtain ⟨so, po, to, hlk, hop⟩ := HLK.out w1 HB1.out
  have HOP : Hid _ := hop
  obtain ⟨e0, e1⟩ := H01.out w1 HB1.out
  have HRB : Hid (∀ W, Below (w1.alloc (.cells #[.string so, .int .i64 po, .int .i64 to] 87)).heap.size (w1.alloc (.cells #[.string so, .int .i64 po, .int .i64 to] 87)) W → W.heap[w.heap.size]? = some (.cells #[.string ⟨#[]⟩, .int .i64 0, .int .i64 0] 87)) := fun W hW => by
    have hlt : w.heap.size < w1.heap.size := by have := hb1.size; simp at this; omega
    rw [hW.block _ (by simp; omega), Below.heap_alloc _ _ _ hlt, hb1.block w.heap.size (by simp), heap_alloc_new]
  have hrne : ¬ w1.heap.size = w.heap.size := by have := hb1.size; simp at this; omega
  have HS0 : Hid (∀ W, Below (w1.alloc (.cells #[.string so, .int .i64 po, .int .i64 to] 87)).heap.size (w1.alloc (.cells #[.string so, .int .i64 po, .int .i64 to] 87)) W → W.cell? ⟨w1.heap.size, 0, none⟩ = some (.string so) ∧ W.cell? ⟨w1.heap.size, 1, none⟩ = some (.int .i64 po) ∧ W.cell? ⟨w1.heap.size, 2, none⟩ = some (.int .i64 to)) := fun W hW => by
    obtain ⟨a0, a1, a2, _⟩ := three_cells ((hW.block w1.heap.size (by simp)).trans (heap_alloc_new w1 (.cells #[.string so, .int .i64 po, .int .i64 to] 87)))
    exact ⟨a0, a1, a2⟩
  have hal1 : Below w1.heap.size w1 (w1.alloc (.cells #[.string so, .int .i64 po, .int .i64 to] 87)) := (Below.refl _ _).alloc (Nat.le_refl _) _
  obtain ⟨e0', e1'⟩ := H01.out _ (Below.on HB1.out hal1)
  have HB2 : Hid (Below w.heap.size w (w1.alloc (.cells #[.string so, .int .i64 po, .int .i64 to] 87))) := Below.on HB1.out hal1
  obtain ⟨pb, epb⟩ : ∃ pb, pb = postB to := ⟨_, rfl⟩
  have HPO : Hid (∀ W, Calls Tryz.prog 97 #[.agg #[.string so, .int .i64 po, .int .i64 to]] W fun e w' => e = .returned (.bool pb) ∧ Below W.heap.size W w') := fun W => by rw [epb]; exact isPost_any so po to W
  have HPB : Hid (pb = postB to) := epb
  clear hb1 HFU hop hal1 epb HLK H01
  cases hf : decide (0 ≤ findW T xs false) with
  | true =>
    rw [hf] at hlk
    have hf2 := of_decide_eq_true hf
    have HF : Hid (0 ≤ findW T xs false) := hf2
    clear hf hf2
    go_wp2_with fail
    have HEV : Hid (Value.agg #[.string so, .int .i64 po, .int .i64 to] = encV (opW T (findW T xs false))) := HOP.out HF.out
    have HTO : Hid (to = (opW T (findW T xs false)).2.1) := by have h := HEV.out; unfold encV at h; simp at h; exact h.2.2
    have HRES : Hid ((!pb) = decide (0 ≤ i)) := by
      show _ = _
      rw [Bool.eq_iff_iff, decide_eq_true_iff, HI.out.1, ← HTO.out, ← HPB.out]
      have := HF.out
      cases pb <;> simp [this]
    refine wp_region_held_drew (S := fun W => W.cell? ⟨w1.heap.size, 0, none⟩ = some (.string so) ∧ W.cell? ⟨w1.heap.size, 1, none⟩ = some (.int .i64 po) ∧ W.cell? ⟨w1.heap.size, 2, none⟩ = some (.int .i64 to)) (by kernel_rfl) (HS0.out _ ((Below.refl _ _).drew)) (fun hHeld => ?_)
    have hS0 := HS0.out _ ((Below.refl (w1.alloc (.cells #[.string so, .int .i64 po, .int .i64 to] 87)).heap.size (w1.alloc (.cells #[.string so, .int .i64 po, .int .i64 to] 87))).drew)
    refine hTake (i := 0) (v := .agg #[.string so, .int .i64 po, .int .i64 to]) (some 43) (by kernel_rfl) (by kernel_rfl) (by kernel_rfl) (by kernel_rfl) (by kernel_rfl) (fun _ _ _ h => h) (fun o ho W hSw => ?y0) (by assumption) ?_
    case y0 =>
      cases ho
      obtain ⟨s0, s1, s2⟩ := hSw
      simp [execOp, go_sem, Act.eval, s0, s1, s2]
    simp only [Act.put, List.setIfInBounds_toArray, List.set_cons_zero, List.set_cons_succ]
    refine hTake (i := 1) (v := .bool true) (some 44) (by kernel_rfl) (by kernel_rfl) (by kernel_rfl) (by kernel_rfl) (by kernel_rfl) (fun _ _ _ h => h) (fun o ho W hSw => ?y1) (by assumption) ?_
    case y1 =>
      cases ho
      obtain ⟨s0, s1, s2⟩ := hSw
      simp [execOp, go_sem, Act.eval]
    simp only [Act.put, List.setIfInBounds_toArray, List.set_cons_zero, List.set_cons_succ]
    refine hTake (i := 2) (v := .bool true) (some 45) (by kernel_rfl) (by kernel_rfl) (by kernel_rfl) (by kernel_rfl) (by kernel_rfl) (fun _ _ _ h => h) (fun o ho W hSw => ?y2) (by assumption) ?_
    case y2 =>
      cases ho
      obtain ⟨s0, s1, s2⟩ := hSw
      simp [execOp, go_sem, Act.eval]
    simp only [Act.put, List.setIfInBounds_toArray, List.set_cons_zero, List.set_cons_succ]
    refine hTake (i := 3) (v := .agg #[.string so, .int .i64 po, .int .i64 to]) (some 46) (by kernel_rfl) (by kernel_rfl) (by kernel_rfl) (by kernel_rfl) (by kernel_rfl) (fun _ _ _ h => h) (fun o ho W hSw => ?y3) (by assumption) ?_
    case y3 =>
      cases ho
      obtain ⟨s0, s1, s2⟩ := hSw
      simp [execOp, go_sem, Act.eval, s0, s1, s2]
    simp only [Act.put, List.setIfInBounds_toArray, List.set_cons_zero, List.set_cons_succ]
    refine hCallE (i := 4) (some 47) (by kernel_rfl) (by kernel_rfl) (by kernel_rfl) (fun o ho => ?y4) (HPO.out _) ?_ (fun ch w' h => by obtain ⟨h, _⟩ := h; simp at h) (fun w' h => by obtain ⟨h, _⟩ := h; simp at h)
    case y4 =>
      cases ho
      simp [execOp, go_sem, Act.eval]
    rintro u w5 ⟨hu, hb5⟩
    cases hu
    have HB5 : Hid (Below (w1.alloc (.cells #[.string so, .int .i64 po, .int .i64 to] 87)).heap.size (w1.alloc (.cells #[.string so, .int .i64 po, .int .i64 to] 87)) w5) := (Below.refl _ _).drew.trans hb5
    have hS5 := HS0.out _ HB5.out
    refine ⟨hS5, ?_⟩
    simp only [Act.put, List.setIfInBounds_toArray, List.set_cons_zero, List.set_cons_succ]
    clear hb5
    refine hTake (i := 5) (v := .bool (!pb)) (some 48) (by kernel_rfl) (by kernel_rfl) (by kernel_rfl) (by kernel_rfl) (by kernel_rfl) (fun _ _ _ h => h) (fun o ho W hSw => ?y5) (by assumption) ?_
    case y5 =>
      cases ho
      obtain ⟨s0, s1, s2⟩ := hSw
      simp [execOp, go_sem, Act.eval]
    simp only [Act.put, List.setIfInBounds_toArray, List.set_cons_zero, List.set_cons_succ]
    refine hTake (i := 6) (v := .bool (!pb)) (some 49) (by kernel_rfl) (by kernel_rfl) (by kernel_rfl) (by kernel_rfl) (by kernel_rfl) (fun _ _ _ h => h) (fun o ho W hSw => ?y6) (by assumption) ?_
    case y6 =>
      cases ho
      obtain ⟨s0, s1, s2⟩ := hSw
      simp [execOp, go_sem, Act.eval]
    simp only [Act.put, List.setIfInBounds_toArray, List.set_cons_zero, List.set_cons_succ]
    obtain ⟨z0, z1, z2, y0, y1, y2⟩ := three_cells (HRB.out _ HB5.out)
    have HS9 := HS0.out _ HB5.out
    have hS9 : (fun W => W.cell? ⟨w1.heap.size, 0, none⟩ = some (.string so) ∧ W.cell? ⟨w1.heap.size, 1, none⟩ = some (.int .i64 po) ∧ W.cell? ⟨w1.heap.size, 2, none⟩ = some (.int .i64 to)) ((((w5).setCell ⟨w.heap.size, 0, none⟩ (.string so)).setCell ⟨w.heap.size, 1, none⟩ (.int .i64 po)).setCell ⟨w.heap.size, 2, none⟩ (.int .i64 to)) := ⟨(set3_other hrne _ _ _ _ 0 0).trans HS9.1, (set3_other hrne _ _ _ _ 0 1).trans HS9.2.1, (set3_other hrne _ _ _ _ 0 2).trans HS9.2.2⟩
    refine hStore (i := 7) (w' := (((w5).setCell ⟨w.heap.size, 0, none⟩ (.string so)).setCell ⟨w.heap.size, 1, none⟩ (.int .i64 po)).setCell ⟨w.heap.size, 2, none⟩ (.int .i64 to)) (by kernel_rfl) (by kernel_rfl) (by kernel_rfl) (fun o ho => ?y7) hS9 ?_
    case y7 =>
      cases ho
      simp [execOp, go_sem, Act.eval, z0, z1, z2, y0, y1, y2]
    refine hTake (i := 8) (v := .bool (!pb)) (some 5) (by kernel_rfl) (by kernel_rfl) (by kernel_rfl) (by kernel_rfl) (by kernel_rfl) (fun _ _ _ h => h) (fun o ho W hSw => ?y8) (by assumption) ?_
    case y8 =>
      cases ho
      obtain ⟨s0, s1, s2⟩ := hSw
      simp [execOp, go_sem, Act.eval]
    simp only [Act.put, List.setIfInBounds_toArray, List.set_cons_zero, List.set_cons_succ]
    refine wpAnyH_done (by kernel_rfl) ?_ _
    change Exit.then _ _ _ _ _
    go_wp2_with fail
    obtain ⟨r0, r1, r2⟩ := set3_same (W := w5) (rb := w.heap.size) (v0 := .string so) (v1 := .int .i64 po) (v2 := .int .i64 to) z0 z1 z2
    exact bodyPost_ret (v := .tuple #[.agg #[.string so, .int .i64 po, .int .i64 to], .bool (!pb)]) (by simp [results, Tryz.results77, go_sem, r0, r1, r2]) rfl ⟨so, po, to, by rw [HRES.out], fun h => by rw [HI.out.2 h]; exact HEV.out, ((((Below.on HB2.out HB5.out).setCell (Nat.le_refl _) _).setCell (Nat.le_refl _) _).setCell (Nat.le_refl _) _)⟩
  | false =>
    rw [hf] at hlk
    have hf2 := of_decide_eq_false hf
    have HRES : Hid (false = decide (0 ≤ i)) := by
      show _ = _
      rw [eq_comm, decide_eq_false_iff_not, HI.out.1]
      exact fun h => hf2 h.1
    have HNO : Hid (¬ 0 ≤ i) := fun h => hf2 (HI.out.1.1 h).1
    clear hf hf2
    go_wp2_with fail
    refine wp_region_held_drew (S := fun W => W.cell? ⟨w1.heap.size, 0, none⟩ = some (.string so) ∧ W.cell? ⟨w1.heap.size, 1, none⟩ = some (.int .i64 po) ∧ W.cell? ⟨w1.heap.size, 2, none⟩ = some (.int .i64 to)) (by kernel_rfl) (HS0.out _ ((Below.refl _ _).drew)) (fun hHeld => ?_)
    have HB5 : Hid (Below (w1.alloc (.cells #[.string so, .int .i64 po, .int .i64 to] 87)).heap.size (w1.alloc (.cells #[.string so, .int .i64 po, .int .i64 to] 87)) (w1.alloc (.cells #[.string so, .int .i64 po, .int .i64 to] 87)).drew) := (Below.refl _ _).drew
    obtain ⟨w5, ew5⟩ : ∃ w5, w5 = (w1.alloc (.cells #[.string so, .int .i64 po, .int .i64 to] 87)).drew := ⟨_, rfl⟩
    rw [← ew5] at HB5 hHeld ⊢
    clear ew5
    have hS0 := HS0.out _ HB5.out
    refine hTake (i := 0) (v := .agg #[.string so, .int .i64 po, .int .i64 to]) (some 43) (by kernel_rfl) (by kernel_rfl) (by kernel_rfl) (by kernel_rfl) (by kernel_rfl) (fun _ _ _ h => h) (fun o ho W hSw => ?y0) (by assumption) ?_
    case y0 =>
      cases ho
      obtain ⟨s0, s1, s2⟩ := hSw
      simp [execOp, go_sem, Act.eval, s0, s1, s2]
    simp only [Act.put, List.setIfInBounds_toArray, List.set_cons_zero, List.set_cons_succ]
    refine hTake (i := 1) (v := .bool false) (some 44) (by kernel_rfl) (by kernel_rfl) (by kernel_rfl) (by kernel_rfl) (by kernel_rfl) (fun _ _ _ h => h) (fun o ho W hSw => ?y1) (by assumption) ?_
    case y1 =>
      cases ho
      obtain ⟨s0, s1, s2⟩ := hSw
      simp [execOp, go_sem, Act.eval]
    simp only [Act.put, List.setIfInBounds_toArray, List.set_cons_zero, List.set_cons_succ]
    refine hTake (i := 2) (v := .bool false) (some 45) (by kernel_rfl) (by kernel_rfl) (by kernel_rfl) (by kernel_rfl) (by kernel_rfl) (fun _ _ _ h => h) (fun o ho W hSw => ?y2) (by assumption) ?_
    case y2 =>
      cases ho
      obtain ⟨s0, s1, s2⟩ := hSw
      simp [execOp, go_sem, Act.eval]
    simp only [Act.put, List.setIfInBounds_toArray, List.set_cons_zero, List.set_cons_succ]
    refine hSkip (i := 3) (some 46) (by kernel_rfl) (by kernel_rfl) (by kernel_rfl) (by kernel_rfl) (by kernel_rfl) (fun _ _ _ h => h) (by assumption) ?_
    simp only [Act.put, List.setIfInBounds_toArray, List.set_cons_zero, List.set_cons_succ]
    refine hSkip (i := 4) (some 47) (by kernel_rfl) (by kernel_rfl) (by kernel_rfl) (by kernel_rfl) (by kernel_rfl) (fun _ _ _ h => h) (by assumption) ?_
    simp only [Act.put, List.setIfInBounds_toArray, List.set_cons_zero, List.set_cons_succ]
    refine hSkip (i := 5) (some 48) (by kernel_rfl) (by kernel_rfl) (by kernel_rfl) (by kernel_rfl) (by kernel_rfl) (fun _ _ _ h => h) (by assumption) ?_
    simp only [Act.put, List.setIfInBounds_toArray, List.set_cons_zero, List.set_cons_succ]
    refine hTake (i := 6) (v := .bool false) (some 49) (by kernel_rfl) (by kernel_rfl) (by kernel_rfl) (by kernel_rfl) (by kernel_rfl) (fun _ _ _ h => h) (fun o ho W hSw => ?y6) (by assumption) ?_
    case y6 =>
      cases ho
      obtain ⟨s0, s1, s2⟩ := hSw
      simp [execOp, go_sem, Act.eval]
    simp only [Act.put, List.setIfInBounds_toArray, List.set_cons_zero, List.set_cons_succ]
    obtain ⟨z0, z1, z2, y0, y1, y2⟩ := three_cells (HRB.out _ HB5.out)
    have HS9 := HS0.out _ HB5.out
    have hS9 : (fun W => W.cell? ⟨w1.heap.size, 0, none⟩ = some (.string so) ∧ W.cell? ⟨w1.heap.size, 1, none⟩ = some (.int .i64 po) ∧ W.cell? ⟨w1.heap.size, 2, none⟩ = some (.int .i64 to)) ((((w5).setCell ⟨w.heap.size, 0, none⟩ (.string so)).setCell ⟨w.heap.size, 1, none⟩ (.int .i64 po)).setCell ⟨w.heap.size, 2, none⟩ (.int .i64 to)) := ⟨(set3_other hrne _ _ _ _ 0 0).trans HS9.1, (set3_other hrne _ _ _ _ 0 1).trans HS9.2.1, (set3_other hrne _ _ _ _ 0 2).trans HS9.2.2⟩
    refine hStore (i := 7) (w' := (((w5).setCell ⟨w.heap.size, 0, none⟩ (.string so)).setCell ⟨w.heap.size, 1, none⟩ (.int .i64 po)).setCell ⟨w.heap.size, 2, none⟩ (.int .i64 to)) (by kernel_rfl) (by kernel_rfl) (by kernel_rfl) (fun o ho => ?y7) hS9 ?_
    case y7 =>
      cases ho
      simp [execOp, go_sem, Act.eval, z0, z1, z2, y0, y1, y2]
    refine hTake (i := 8) (v := .bool false) (some 5) (by kernel_rfl) (by kernel_rfl) (by kernel_rfl) (by kernel_rfl) (by kernel_rfl) (fun _ _ _ h => h) (fun o ho W hSw => ?y8) (by assumption) ?_
    case y8 =>
      cases ho
      obtain ⟨s0, s1, s2⟩ := hSw
      simp [execOp, go_sem, Act.eval]
    simp only [Act.put, List.setIfInBounds_toArray, List.set_cons_zero, List.set_cons_succ]
    refine wpAnyH_done (by kernel_rfl) ?_ _
    change Exit.then _ _ _ _ _
    go_wp2_with fail
    obtain ⟨r0, r1, r2⟩ := set3_same (W := w5) (rb := w.heap.size) (v0 := .string so) (v1 := .int .i64 po) (v2 := .int .i64 to) z0 z1 z2
    exact bodyPost_ret (v := .tuple #[.agg #[.string so, .int .i64 po, .int .i64 to], .bool false]) (by simp [results, Tryz.results77, go_sem, r0, r1, r2]) rfl ⟨so, po, to, by rw [← HRES.out], fun h => absurd (show i < 0 by have := HNO.out; omega) (by omega), ((((Below.on HB2.out HB5.out).setCell (Nat.le_refl _) _).setCell (Nat.le_refl _) _).setCell (Nat.le_refl _) _)⟩
end Go.Proofs.YtgonpnnlpkjkcaaGreatDoor

namespace Go.Proofs.YtgonpnnlpkjkcaaGreatDoor
open Go Go.RowKit
set_option linter.unusedVariables false

set_option maxRecDepth 100000 in
set_option maxHeartbeats 2000000 in
/-- More than two arguments. -/
theorem ww_many {w : World} {mb M : Nat} {T : List Cel} (hM : OpMap w mb M T) (xs : List Int) (hl : xs.length ≤ 1000000) (b g : Nat) (q : Nat) (hq : 3 ≤ q ∧ q ≤ 1000) (i : Int) (hi : i = -1) (h0 : w.cell? ⟨b, 0, none⟩ = some (.string (strOfNums xs))) (h1 : w.cell? ⟨b, 1, none⟩ = some (.slice (some ⟨g, 0, none⟩) q q)) :
    Calls Tryz.prog 77 #[.map (some mb), .iface 99 (.pointer (some ⟨b, 0, none⟩))] w (WwOut w T i) := by
  have n1 := wiA_comp
  have hal : Below w.heap.size w (w.alloc (.cells #[.string ⟨#[]⟩, .int .i64 0, .int .i64 0] 87)) := (Below.refl _ _).alloc (Nat.le_refl _) _
  have HFU := functorW_any b g q (strOfNums xs) (w.alloc (.cells #[.string ⟨#[]⟩, .int .i64 0, .int .i64 0] 87)) ((hal.cell (World.block_lt_of_cell? _ _ h0)).trans h0) ((hal.cell (World.block_lt_of_cell? _ _ h1)).trans h1)
  have HAL : Hid _ := hal
  have HM : Hid (OpMap w mb M T) := hM
  have HI : Hid (i = -1) := hi
  have q1 : ((q : Int) == 2) = false := by simp; omega
  have q2 : ((q : Int) == 1) = false := by simp; omega
  have q3 : ¬ (q : Int) = 2 := by omega
  have q4 : ¬ (q : Int) = 1 := by omega
  have H01 : Hid (∀ W, Below w.heap.size w W → W.cell? ⟨b, 0, none⟩ = some (.string (strOfNums xs)) ∧ W.cell? ⟨b, 1, none⟩ = some (.slice (some ⟨g, 0, none⟩) q q)) := fun W hW => ⟨(hW.cell (World.block_lt_of_cell? _ _ h0)).trans h0, (hW.cell (World.block_lt_of_cell? _ _ h1)).trans h1⟩
  have HLK : Hid (∀ W, Below w.heap.size w W → ∃ so po to, (Instr.lookup 61 (.map (some mb)) (.agg #[.string (strOfNums xs), .int .i64 1]) true).run Tryz.prog W = .ok (.tuple #[.agg #[.string so, .int .i64 po, .int .i64 to], .bool (decide (0 ≤ findW T xs false))]) W ∧ (0 ≤ findW T xs false → (Value.agg #[.string so, .int .i64 po, .int .i64 to]) = encV (opW T (findW T xs false)))) := fun W hW => by
    obtain ⟨so, po, to, h, h2⟩ := (hM.below hW).look xs hl false
    exact ⟨so, po, to, h, fun hh => (h2 hh).1⟩
  have HLP : Hid (∀ W, Below w.heap.size w W → ∃ so po to, (Instr.lookup 61 (.map (some mb)) (.agg #[.string (strOfNums xs), .int .i64 0]) true).run Tryz.prog W = .ok (.tuple #[.agg #[.string so, .int .i64 po, .int .i64 to], .bool (decide (0 ≤ findW T xs true))]) W ∧ (0 ≤ findW T xs true → (Value.agg #[.string so, .int .i64 po, .int .i64 to]) = encV (opW T (findW T xs true)))) := fun W hW => by
    obtain ⟨so, po, to, h, h2⟩ := (hM.below hW).look xs hl true
    exact ⟨so, po, to, h, fun hh => (h2 hh).1⟩
  clear h0 h1 hal hM hi hl
  obtain ⟨s, es⟩ : ∃ s, s = strOfNums xs := ⟨_, rfl⟩
  rw [← es] at HFU H01 HLK HLP
  clear es
  cases hss : (s.toList == [46])
  all_goals
    go_enter Tryz.func77, Tryz.ntmps77
    go_wp2_with fail
    refine HFU.mono ?_
    rintro e w1 ⟨rfl, hb1⟩
    have HB1 : Hid (Below w.heap.size w w1) := HAL.out.trans (hb1.mono (by simp))
    obtain ⟨so, po, to, hlk, hop⟩ := HLK.out w1 HB1.out
    have HOP : Hid _ := hop
    obtain ⟨e0, e1⟩ := H01.out w1 HB1.out
    have HRB : Hid (∀ W, Below (w1.alloc (.cells #[.string so, .int .i64 po, .int .i64 to] 87)).heap.size (w1.alloc (.cells #[.string so, .int .i64 po, .int .i64 to] 87)) W → W.heap[w.heap.size]? = some (.cells #[.string ⟨#[]⟩, .int .i64 0, .int .i64 0] 87)) := fun W hW => by
      have hlt : w.heap.size < w1.heap.size := by have := hb1.size; simp at this; omega
      rw [hW.block _ (by simp; omega), Below.heap_alloc _ _ _ hlt, hb1.block w.heap.size (by simp), heap_alloc_new]
    have hrne : ¬ w1.heap.size = w.heap.size := by have := hb1.size; simp at this; omega
    have hal1 : Below w1.heap.size w1 (w1.alloc (.cells #[.string so, .int .i64 po, .int .i64 to] 87)) := (Below.refl _ _).alloc (Nat.le_refl _) _
    obtain ⟨e0', e1'⟩ := H01.out _ (Below.on HB1.out hal1)
    have HB2 : Hid (Below w.heap.size w (w1.alloc (.cells #[.string so, .int .i64 po, .int .i64 to] 87))) := Below.on HB1.out hal1
    obtain ⟨z0, z1, z2, y0, y1, y2⟩ := three_cells (HRB.out _ (Below.refl _ _))
    clear hb1 HFU hop hal1 HLK HLP H01
    generalize decide (0 ≤ findW T xs false) = fb at hlk
    go_wp2_with fail
    obtain ⟨r0, r1, r2⟩ := set3_same (W := w1.alloc (.cells #[.string so, .int .i64 po, .int .i64 to] 87)) (rb := w.heap.size) (v0 := .string ⟨#[]⟩) (v1 := .int .i64 0) (v2 := .int .i64 0) z0 z1 z2
    exact bodyPost_ret (v := .tuple #[.agg #[.string ⟨#[]⟩, .int .i64 0, .int .i64 0], .bool false]) (by simp [results, Tryz.results77, go_sem, r0, r1, r2]) rfl ⟨_, _, _, by rw [HI.out]; rfl, fun h => by have := HI.out; omega, ((HB2.out.setCell (Nat.le_refl _) _).setCell (Nat.le_refl _) _).setCell (Nat.le_refl _) _⟩

set_option maxRecDepth 100000 in
set_option maxHeartbeats 2000000 in
/-- One argument. -/
theorem ww_one {w : World} {mb M : Nat} {T : List Cel} (hM : OpMap w mb M T) (xs : List Int) (hl : xs.length ≤ 1000000) (b g : Nat) (i : Int) (hi : i = if 0 ≤ findW T xs true then findW T xs true else if 0 ≤ findW T xs false ∧ postB (opW T (findW T xs false)).2.1 = true then findW T xs false else -1) (h0 : w.cell? ⟨b, 0, none⟩ = some (.string (strOfNums xs))) (h1 : w.cell? ⟨b, 1, none⟩ = some (.slice (some ⟨g, 0, none⟩) 1 1)) :
    Calls Tryz.prog 77 #[.map (some mb), .iface 99 (.pointer (some ⟨b, 0, none⟩))] w (WwOut w T i) := by
  have n1 := wiA_comp
  have hal : Below w.heap.size w (w.alloc (.cells #[.string ⟨#[]⟩, .int .i64 0, .int .i64 0] 87)) := (Below.refl _ _).alloc (Nat.le_refl _) _
  have HFU := functorW_any b g 1 (strOfNums xs) (w.alloc (.cells #[.string ⟨#[]⟩, .int .i64 0, .int .i64 0] 87)) ((hal.cell (World.block_lt_of_cell? _ _ h0)).trans h0) ((hal.cell (World.block_lt_of_cell? _ _ h1)).trans h1)
  have HAL : Hid _ := hal
  have HM : Hid (OpMap w mb M T) := hM
  have HI : Hid (i = if 0 ≤ findW T xs true then findW T xs true else if 0 ≤ findW T xs false ∧ postB (opW T (findW T xs false)).2.1 = true then findW T xs false else -1) := hi
  have H01 : Hid (∀ W, Below w.heap.size w W → W.cell? ⟨b, 0, none⟩ = some (.string (strOfNums xs)) ∧ W.cell? ⟨b, 1, none⟩ = some (.slice (some ⟨g, 0, none⟩) 1 1)) := fun W hW => ⟨(hW.cell (World.block_lt_of_cell? _ _ h0)).trans h0, (hW.cell (World.block_lt_of_cell? _ _ h1)).trans h1⟩
  have HLK : Hid (∀ W, Below w.heap.size w W → ∃ so po to, (Instr.lookup 61 (.map (some mb)) (.agg #[.string (strOfNums xs), .int .i64 1]) true).run Tryz.prog W = .ok (.tuple #[.agg #[.string so, .int .i64 po, .int .i64 to], .bool (decide (0 ≤ findW T xs false))]) W ∧ (0 ≤ findW T xs false → (Value.agg #[.string so, .int .i64 po, .int .i64 to]) = encV (opW T (findW T xs false)))) := fun W hW => by
    obtain ⟨so, po, to, h, h2⟩ := (hM.below hW).look xs hl false
    exact ⟨so, po, to, h, fun hh => (h2 hh).1⟩
  have HLP : Hid (∀ W, Below w.heap.size w W → ∃ so po to, (Instr.lookup 61 (.map (some mb)) (.agg #[.string (strOfNums xs), .int .i64 0]) true).run Tryz.prog W = .ok (.tuple #[.agg #[.string so, .int .i64 po, .int .i64 to], .bool (decide (0 ≤ findW T xs true))]) W ∧ (0 ≤ findW T xs true → (Value.agg #[.string so, .int .i64 po, .int .i64 to]) = encV (opW T (findW T xs true)))) := fun W hW => by
    obtain ⟨so, po, to, h, h2⟩ := (hM.below hW).look xs hl true
    exact ⟨so, po, to, h, fun hh => (h2 hh).1⟩
  clear h0 h1 hal hM hi hl
  obtain ⟨s, es⟩ : ∃ s, s = strOfNums xs := ⟨_, rfl⟩
  rw [← es] at HFU H01 HLK HLP
  clear es
  cases hss : (s.toList == [46])
  all_goals
    go_enter Tryz.func77, Tryz.ntmps77
    go_wp2_with fail
    refine HFU.mono ?_
    rintro e w1 ⟨rfl, hb1⟩
    have HB1 : Hid (Below w.heap.size w w1) := HAL.out.trans (hb1.mono (by simp))
    obtain ⟨so, po, to, hlk, hop⟩ := HLK.out w1 HB1.out
    have HOP : Hid _ := hop
    obtain ⟨e0, e1⟩ := H01.out w1 HB1.out
    have HRB : Hid (∀ W, Below (w1.alloc (.cells #[.string so, .int .i64 po, .int .i64 to] 87)).heap.size (w1.alloc (.cells #[.string so, .int .i64 po, .int .i64 to] 87)) W → W.heap[w.heap.size]? = some (.cells #[.string ⟨#[]⟩, .int .i64 0, .int .i64 0] 87)) := fun W hW => by
      have hlt : w.heap.size < w1.heap.size := by have := hb1.size; simp at this; omega
      rw [hW.block _ (by simp; omega), Below.heap_alloc _ _ _ hlt, hb1.block w.heap.size (by simp), heap_alloc_new]
    have hrne : ¬ w1.heap.size = w.heap.size := by have := hb1.size; simp at this; omega
    have hal1 : Below w1.heap.size w1 (w1.alloc (.cells #[.string so, .int .i64 po, .int .i64 to] 87)) := (Below.refl _ _).alloc (Nat.le_refl _) _
    obtain ⟨e0', e1'⟩ := H01.out _ (Below.on HB1.out hal1)
    have HB2 : Hid (Below w.heap.size w (w1.alloc (.cells #[.string so, .int .i64 po, .int .i64 to] 87))) := Below.on HB1.out hal1
    have HS0 : Hid (∀ W, Below (w1.alloc (.cells #[.string so, .int .i64 po, .int .i64 to] 87)).heap.size (w1.alloc (.cells #[.string so, .int .i64 po, .int .i64 to] 87)) W → W.cell? ⟨w1.heap.size, 0, none⟩ = some (.string so) ∧ W.cell? ⟨w1.heap.size, 1, none⟩ = some (.int .i64 po) ∧ W.cell? ⟨w1.heap.size, 2, none⟩ = some (.int .i64 to)) := fun W hW => by
      obtain ⟨a0, a1, a2, _⟩ := three_cells ((hW.block w1.heap.size (by simp)).trans (heap_alloc_new w1 (.cells #[.string so, .int .i64 po, .int .i64 to] 87)))
      exact ⟨a0, a1, a2⟩
    obtain ⟨so2, po2, to2, hlp, hop2⟩ := HLP.out _ HB2.out
    have HOP2 : Hid _ := hop2
    have HAL3 : Hid (Below (w1.alloc (.cells #[.string so, .int .i64 po, .int .i64 to] 87)).heap.size (w1.alloc (.cells #[.string so, .int .i64 po, .int .i64 to] 87)) ((w1.alloc (.cells #[.string so, .int .i64 po, .int .i64 to] 87)).alloc (.cells #[.string so2, .int .i64 po2, .int .i64 to2] 87))) := (Below.refl _ _).alloc (Nat.le_refl _) _
    obtain ⟨z0, z1, z2, y0, y1, y2⟩ := three_cells (HRB.out _ HAL3.out)
    obtain ⟨pb, epb⟩ : ∃ pb, pb = postB to := ⟨_, rfl⟩
    have HPO : Hid (∀ W, Calls Tryz.prog 97 #[.agg #[.string so, .int .i64 po, .int .i64 to]] W fun e w' => e = .returned (.bool pb) ∧ Below W.heap.size W w') := fun W => by rw [epb]; exact isPost_any so po to W
    have HPB : Hid (pb = postB to) := epb
    clear hb1 HFU hop hop2 hal1 epb HLK HLP H01
    cases hp : decide (0 ≤ findW T xs true) with
    | true =>
      rw [hp] at hlp
      have hp2 := of_decide_eq_true hp
      have HI2 : Hid (i = findW T xs true) := by show _ = _; rw [HI.out, if_pos hp2]
      have HEV : Hid (Value.agg #[.string so2, .int .i64 po2, .int .i64 to2] = encV (opW T i)) := by show _ = _; rw [HI2.out]; exact HOP2.out hp2
      have HD : Hid (decide (0 ≤ i) = true) := by show _ = _; rw [HI2.out]; exact hp
      clear hp hp2 HS0 HPO
      generalize decide (0 ≤ findW T xs false) = fb at hlk
      go_wp2_with fail
      obtain ⟨r0, r1, r2⟩ := set3_same (W := (w1.alloc (.cells #[.string so, .int .i64 po, .int .i64 to] 87)).alloc (.cells #[.string so2, .int .i64 po2, .int .i64 to2] 87)) (rb := w.heap.size) (v0 := .string so2) (v1 := .int .i64 po2) (v2 := .int .i64 to2) z0 z1 z2
      exact bodyPost_ret (v := .tuple #[.agg #[.string so2, .int .i64 po2, .int .i64 to2], .bool true]) (by simp [results, Tryz.results77, go_sem, r0, r1, r2]) rfl ⟨so2, po2, to2, by rw [HD.out], fun _ => HEV.out, (((Below.on HB2.out HAL3.out).setCell (Nat.le_refl _) _).setCell (Nat.le_refl _) _).setCell (Nat.le_refl _) _⟩
    | false =>
      rw [hp] at hlp
      have hp2 := of_decide_eq_false hp
      have HI2 : Hid (i = if 0 ≤ findW T xs false ∧ postB (opW T (findW T xs false)).2.1 = true then findW T xs false else -1) := by show _ = _; rw [HI.out, if_neg hp2]
      clear hp hp2 z0 z1 z2 y0 y1 y2 HI
      cases hf : decide (0 ≤ findW T xs false) with
      | true =>
        rw [hf] at hlk
        have hf2 := of_decide_eq_true hf
        have HF : Hid (0 ≤ findW T xs false) := hf2
        have HEV : Hid (Value.agg #[.string so, .int .i64 po, .int .i64 to] = encV (opW T (findW T xs false))) := HOP.out hf2
        have HTO : Hid (to = (opW T (findW T xs false)).2.1) := by have h := HEV.out; unfold encV at h; simp at h; exact h.2.2
        have HRES : Hid (pb = decide (0 ≤ i)) := by
          show _ = _
          rw [HI2.out, ← HTO.out, ← HPB.out]
          cases pb <;> simp [hf2]
        have HIE : Hid (0 ≤ i → i = findW T xs false) := fun h => by
          rw [HI2.out] at h ⊢
          split at h
          · rename_i hh; rw [if_pos hh]
          · omega
        clear hf hf2
        go_wp2_with fail
        refine wp_region_held_drew (S := fun W => W.cell? ⟨w1.heap.size, 0, none⟩ = some (.string so) ∧ W.cell? ⟨w1.heap.size, 1, none⟩ = some (.int .i64 po) ∧ W.cell? ⟨w1.heap.size, 2, none⟩ = some (.int .i64 to)) (by kernel_rfl) (HS0.out _ (Below.on HAL3.out ((Below.refl _ _).drew))) (fun hHeld => ?_)
        have hS0 := HS0.out _ (Below.on HAL3.out ((Below.refl ((w1.alloc (.cells #[.string so, .int .i64 po, .int .i64 to] 87)).alloc (.cells #[.string so2, .int .i64 po2, .int .i64 to2] 87)).heap.size ((w1.alloc (.cells #[.string so, .int .i64 po, .int .i64 to] 87)).alloc (.cells #[.string so2, .int .i64 po2, .int .i64 to2] 87))).drew))
        refine hTake (i := 0) (v := .agg #[.string so, .int .i64 po, .int .i64 to]) (some 64) (by kernel_rfl) (by kernel_rfl) (by kernel_rfl) (by kernel_rfl) (by kernel_rfl) (fun _ _ _ h => h) (fun o ho W hSw => ?y0) (by assumption) ?_
        case y0 =>
          cases ho
          obtain ⟨s0, s1, s2⟩ := hSw
          simp [execOp, go_sem, Act.eval, s0, s1, s2]
        simp only [Act.put, List.setIfInBounds_toArray, List.set_cons_zero, List.set_cons_succ]
        refine hTake (i := 1) (v := .bool true) (some 65) (by kernel_rfl) (by kernel_rfl) (by kernel_rfl) (by kernel_rfl) (by kernel_rfl) (fun _ _ _ h => h) (fun o ho W hSw => ?y1) (by assumption) ?_
        case y1 =>
          cases ho
          obtain ⟨s0, s1, s2⟩ := hSw
          simp [execOp, go_sem, Act.eval]
        simp only [Act.put, List.setIfInBounds_toArray, List.set_cons_zero, List.set_cons_succ]
        refine hTake (i := 2) (v := .bool true) (some 66) (by kernel_rfl) (by kernel_rfl) (by kernel_rfl) (by kernel_rfl) (by kernel_rfl) (fun _ _ _ h => h) (fun o ho W hSw => ?y2) (by assumption) ?_
        case y2 =>
          cases ho
          obtain ⟨s0, s1, s2⟩ := hSw
          simp [execOp, go_sem, Act.eval]
        simp only [Act.put, List.setIfInBounds_toArray, List.set_cons_zero, List.set_cons_succ]
        refine hTake (i := 3) (v := .agg #[.string so, .int .i64 po, .int .i64 to]) (some 67) (by kernel_rfl) (by kernel_rfl) (by kernel_rfl) (by kernel_rfl) (by kernel_rfl) (fun _ _ _ h => h) (fun o ho W hSw => ?y3) (by assumption) ?_
        case y3 =>
          cases ho
          obtain ⟨s0, s1, s2⟩ := hSw
          simp [execOp, go_sem, Act.eval, s0, s1, s2]
        simp only [Act.put, List.setIfInBounds_toArray, List.set_cons_zero, List.set_cons_succ]
        refine hCallE (i := 4) (some 68) (by kernel_rfl) (by kernel_rfl) (by kernel_rfl) (fun o ho => ?y4) (HPO.out _) ?_ (fun ch w' h => by obtain ⟨h, _⟩ := h; simp at h) (fun w' h => by obtain ⟨h, _⟩ := h; simp at h)
        case y4 =>
          cases ho
          simp [execOp, go_sem, Act.eval]
        rintro u w5 ⟨hu, hb5⟩
        cases hu
        have HB5 : Hid (Below (w1.alloc (.cells #[.string so, .int .i64 po, .int .i64 to] 87)).heap.size (w1.alloc (.cells #[.string so, .int .i64 po, .int .i64 to] 87)) w5) := Below.on HAL3.out ((Below.refl _ _).drew.trans hb5)
        have hS5 := HS0.out _ HB5.out
        refine ⟨hS5, ?_⟩
        simp only [Act.put, List.setIfInBounds_toArray, List.set_cons_zero, List.set_cons_succ]
        clear hb5
        refine hTake (i := 5) (v := .bool (pb)) (some 69) (by kernel_rfl) (by kernel_rfl) (by kernel_rfl) (by kernel_rfl) (by kernel_rfl) (fun _ _ _ h => h) (fun o ho W hSw => ?y5) (by assumption) ?_
        case y5 =>
          cases ho
          obtain ⟨s0, s1, s2⟩ := hSw
          simp [execOp, go_sem, Act.eval]
        simp only [Act.put, List.setIfInBounds_toArray, List.set_cons_zero, List.set_cons_succ]
        obtain ⟨z0, z1, z2, y0, y1, y2⟩ := three_cells (HRB.out _ HB5.out)
        have HS9 := HS0.out _ HB5.out
        have hS9 : (fun W => W.cell? ⟨w1.heap.size, 0, none⟩ = some (.string so) ∧ W.cell? ⟨w1.heap.size, 1, none⟩ = some (.int .i64 po) ∧ W.cell? ⟨w1.heap.size, 2, none⟩ = some (.int .i64 to)) ((((w5).setCell ⟨w.heap.size, 0, none⟩ (.string so)).setCell ⟨w.heap.size, 1, none⟩ (.int .i64 po)).setCell ⟨w.heap.size, 2, none⟩ (.int .i64 to)) := ⟨(set3_other hrne _ _ _ _ 0 0).trans HS9.1, (set3_other hrne _ _ _ _ 0 1).trans HS9.2.1, (set3_other hrne _ _ _ _ 0 2).trans HS9.2.2⟩
        refine hStore (i := 6) (w' := (((w5).setCell ⟨w.heap.size, 0, none⟩ (.string so)).setCell ⟨w.heap.size, 1, none⟩ (.int .i64 po)).setCell ⟨w.heap.size, 2, none⟩ (.int .i64 to)) (by kernel_rfl) (by kernel_rfl) (by kernel_rfl) (fun o ho => ?y6) hS9 ?_
        case y6 =>
          cases ho
          simp [execOp, go_sem, Act.eval, z0, z1, z2, y0, y1, y2]
        refine hTake (i := 7) (v := .bool (pb)) (some 5) (by kernel_rfl) (by kernel_rfl) (by kernel_rfl) (by kernel_rfl) (by kernel_rfl) (fun _ _ _ h => h) (fun o ho W hSw => ?y7) (by assumption) ?_
        case y7 =>
          cases ho
          obtain ⟨s0, s1, s2⟩ := hSw
          simp [execOp, go_sem, Act.eval]
        simp only [Act.put, List.setIfInBounds_toArray, List.set_cons_zero, List.set_cons_succ]
        refine wpAnyH_done (by kernel_rfl) ?_ _
        change Exit.then _ _ _ _ _
        go_wp2_with fail
        obtain ⟨r0, r1, r2⟩ := set3_same (W := w5) (rb := w.heap.size) (v0 := .string so) (v1 := .int .i64 po) (v2 := .int .i64 to) z0 z1 z2
        exact bodyPost_ret (v := .tuple #[.agg #[.string so, .int .i64 po, .int .i64 to], .bool (pb)]) (by simp [results, Tryz.results77, go_sem, r0, r1, r2]) rfl ⟨so, po, to, by rw [HRES.out], fun h => by rw [HIE.out h]; exact HEV.out, ((((Below.on HB2.out HB5.out).setCell (Nat.le_refl _) _).setCell (Nat.le_refl _) _).setCell (Nat.le_refl _) _)⟩
      | false =>
        rw [hf] at hlk
        have hf2 := of_decide_eq_false hf
        have HNO : Hid (i = -1) := by show _ = _; rw [HI2.out, if_neg (fun h => hf2 h.1)]
        have HRES : Hid (false = decide (0 ≤ i)) := by show _ = _; rw [HNO.out]; rfl
        clear hf hf2
        go_wp2_with fail
        refine wp_region_held_drew (S := fun W => W.cell? ⟨w1.heap.size, 0, none⟩ = some (.string so) ∧ W.cell? ⟨w1.heap.size, 1, none⟩ = some (.int .i64 po) ∧ W.cell? ⟨w1.heap.size, 2, none⟩ = some (.int .i64 to)) (by kernel_rfl) (HS0.out _ (Below.on HAL3.out ((Below.refl _ _).drew))) (fun hHeld => ?_)
        have HB5 : Hid (Below (w1.alloc (.cells #[.string so, .int .i64 po, .int .i64 to] 87)).heap.size (w1.alloc (.cells #[.string so, .int .i64 po, .int .i64 to] 87)) ((w1.alloc (.cells #[.string so, .int .i64 po, .int .i64 to] 87)).alloc (.cells #[.string so2, .int .i64 po2, .int .i64 to2] 87)).drew) := Below.on HAL3.out ((Below.refl _ _).drew)
        obtain ⟨w5, ew5⟩ : ∃ w5, w5 = ((w1.alloc (.cells #[.string so, .int .i64 po, .int .i64 to] 87)).alloc (.cells #[.string so2, .int .i64 po2, .int .i64 to2] 87)).drew := ⟨_, rfl⟩
        rw [← ew5] at HB5 hHeld ⊢
        clear ew5
        have hS0 := HS0.out _ HB5.out
        refine hTake (i := 0) (v := .agg #[.string so, .int .i64 po, .int .i64 to]) (some 64) (by kernel_rfl) (by kernel_rfl) (by kernel_rfl) (by kernel_rfl) (by kernel_rfl) (fun _ _ _ h => h) (fun o ho W hSw => ?y0) (by assumption) ?_
        case y0 =>
          cases ho
          obtain ⟨s0, s1, s2⟩ := hSw
          simp [execOp, go_sem, Act.eval, s0, s1, s2]
        simp only [Act.put, List.setIfInBounds_toArray, List.set_cons_zero, List.set_cons_succ]
        refine hTake (i := 1) (v := .bool false) (some 65) (by kernel_rfl) (by kernel_rfl) (by kernel_rfl) (by kernel_rfl) (by kernel_rfl) (fun _ _ _ h => h) (fun o ho W hSw => ?y1) (by assumption) ?_
        case y1 =>
          cases ho
          obtain ⟨s0, s1, s2⟩ := hSw
          simp [execOp, go_sem, Act.eval]
        simp only [Act.put, List.setIfInBounds_toArray, List.set_cons_zero, List.set_cons_succ]
        refine hTake (i := 2) (v := .bool false) (some 66) (by kernel_rfl) (by kernel_rfl) (by kernel_rfl) (by kernel_rfl) (by kernel_rfl) (fun _ _ _ h => h) (fun o ho W hSw => ?y2) (by assumption) ?_
        case y2 =>
          cases ho
          obtain ⟨s0, s1, s2⟩ := hSw
          simp [execOp, go_sem, Act.eval]
        simp only [Act.put, List.setIfInBounds_toArray, List.set_cons_zero, List.set_cons_succ]
        refine hSkip (i := 3) (some 67) (by kernel_rfl) (by kernel_rfl) (by kernel_rfl) (by kernel_rfl) (by kernel_rfl) (fun _ _ _ h => h) (by assumption) ?_
        simp only [Act.put, List.setIfInBounds_toArray, List.set_cons_zero, List.set_cons_succ]
        refine hSkip (i := 4) (some 68) (by kernel_rfl) (by kernel_rfl) (by kernel_rfl) (by kernel_rfl) (by kernel_rfl) (fun _ _ _ h => h) (by assumption) ?_
        simp only [Act.put, List.setIfInBounds_toArray, List.set_cons_zero, List.set_cons_succ]
        refine hTake (i := 5) (v := .bool false) (some 69) (by kernel_rfl) (by kernel_rfl) (by kernel_rfl) (by kernel_rfl) (by kernel_rfl) (fun _ _ _ h => h) (fun o ho W hSw => ?y5) (by assumption) ?_
        case y5 =>
          cases ho
          obtain ⟨s0, s1, s2⟩ := hSw
          simp [execOp, go_sem, Act.eval]
        simp only [Act.put, List.setIfInBounds_toArray, List.set_cons_zero, List.set_cons_succ]
        obtain ⟨z0, z1, z2, y0, y1, y2⟩ := three_cells (HRB.out _ HB5.out)
        have HS9 := HS0.out _ HB5.out
        have hS9 : (fun W => W.cell? ⟨w1.heap.size, 0, none⟩ = some (.string so) ∧ W.cell? ⟨w1.heap.size, 1, none⟩ = some (.int .i64 po) ∧ W.cell? ⟨w1.heap.size, 2, none⟩ = some (.int .i64 to)) ((((w5).setCell ⟨w.heap.size, 0, none⟩ (.string so)).setCell ⟨w.heap.size, 1, none⟩ (.int .i64 po)).setCell ⟨w.heap.size, 2, none⟩ (.int .i64 to)) := ⟨(set3_other hrne _ _ _ _ 0 0).trans HS9.1, (set3_other hrne _ _ _ _ 0 1).trans HS9.2.1, (set3_other hrne _ _ _ _ 0 2).trans HS9.2.2⟩
        refine hStore (i := 6) (w' := (((w5).setCell ⟨w.heap.size, 0, none⟩ (.string so)).setCell ⟨w.heap.size, 1, none⟩ (.int .i64 po)).setCell ⟨w.heap.size, 2, none⟩ (.int .i64 to)) (by kernel_rfl) (by kernel_rfl) (by kernel_rfl) (fun o ho => ?y6) hS9 ?_
        case y6 =>
          cases ho
          simp [execOp, go_sem, Act.eval, z0, z1, z2, y0, y1, y2]
        refine hTake (i := 7) (v := .bool false) (some 5) (by kernel_rfl) (by kernel_rfl) (by kernel_rfl) (by kernel_rfl) (by kernel_rfl) (fun _ _ _ h => h) (fun o ho W hSw => ?y7) (by assumption) ?_
        case y7 =>
          cases ho
          obtain ⟨s0, s1, s2⟩ := hSw
          simp [execOp, go_sem, Act.eval]
        simp only [Act.put, List.setIfInBounds_toArray, List.set_cons_zero, List.set_cons_succ]
        refine wpAnyH_done (by kernel_rfl) ?_ _
        change Exit.then _ _ _ _ _
        go_wp2_with fail
        obtain ⟨r0, r1, r2⟩ := set3_same (W := w5) (rb := w.heap.size) (v0 := .string so) (v1 := .int .i64 po) (v2 := .int .i64 to) z0 z1 z2
        exact bodyPost_ret (v := .tuple #[.agg #[.string so, .int .i64 po, .int .i64 to], .bool false]) (by simp [results, Tryz.results77, go_sem, r0, r1, r2]) rfl ⟨so, po, to, by rw [← HRES.out], fun h => by have := HNO.out; omega, ((((Below.on HB2.out HB5.out).setCell (Nat.le_refl _) _).setCell (Nat.le_refl _) _).setCell (Nat.le_refl _) _)⟩
end Go.Proofs.YtgonpnnlpkjkcaaGreatDoor

namespace Go.Proofs.YtgonpnnlpkjkcaaGreatDoor
open Go Go.RowKit
set_option linter.unusedVariables false

/-- Bytes before which no rule asks for a gap. -/
def closeB (y : Int) : Prop := y = 41 ∨ y = 93 ∨ y = 44 ∨ y = 124 ∨ y = 125 ∨ y = 32
theorem gR_close {y : Int} (h : closeB y) (k : Nat) (z : Int) : gR k z y = false := by
  have h8 : isOfB y 8 = false := by rcases h with rfl | rfl | rfl | rfl | rfl | rfl <;> rfl
  have h4 : isOfB y 4 = false := by rcases h with rfl | rfl | rfl | rfl | rfl | rfl <;> rfl
  have h0 : (y == 40) = false := by rcases h with rfl | rfl | rfl | rfl | rfl | rfl <;> rfl
  have g1 : gap1 z y = false := by unfold gap1; rw [h8]; simp
  have g2 : gap2 z y = false := by unfold gap2; rw [h0, g1]; rfl
  match k with
  | 0 => rfl
  | 1 => exact g1
  | 2 => exact g2
  | m + 3 => show gap3 z y = false; unfold gap3; rw [h4, g2]; rfl
theorem putR_cons (R : List Int) (k : Nat) (x : Int) (r : List Int) : putR R k (x :: r) = if gR k (endI R) x = true then R ++ 32 :: x :: r else R ++ x :: r := by
  unfold putR; rw [if_neg (by simp)]; rfl
theorem putR_close {y : Int} (h : closeB y) (R : List Int) (k : Nat) (r : List Int) : putR R k (y :: r) = R ++ y :: r := by
  rw [putR_cons, gR_close h]; rfl
theorem putR_zero (R X : List Int) : putR R 0 X = R ++ X := by
  cases X with
  | nil => simp [putR]
  | cons x r => rw [putR_cons]; rfl
/-- More behind a text that is not empty. -/
theorem putR_more {X : List Int} (h : X ≠ []) (R : List Int) (k : Nat) (Y : List Int) : putR R k X ++ Y = putR R k (X ++ Y) := by
  cases X with
  | nil => exact absurd rfl h
  | cons x r =>
    rw [List.cons_append, putR_cons, putR_cons]
    split <;> simp
/-- A closing byte behind a text, whatever rule is held back. -/
theorem putR_end {y : Int} (hy : closeB y) (R X : List Int) (k k' : Nat) (h : X = [] → k' = k) (r : List Int) : putR (putR R k X) k' (y :: r) = putR R k (X ++ y :: r) := by
  by_cases hX : X = []
  · subst hX
    rw [h rfl, show putR R k [] = R from rfl]; rfl
  · rw [putR_close hy, putR_more hX]
/-- What a method leaves that puts the text X. -/
def TxtOut (W0 w : World) (wb : Nat) (K : WK) (R : List Int) (k : Nat) (X : List Int) (e : Ending) (w' : World) : Prop :=
  e = .returned (.tuple #[]) ∧ (∃ k', (X = [] → k' = k) ∧ ∃ p n c, WS W0 w' wb K p n c (putR R k X) k') ∧ Kept w w' wb
theorem PutOut.txt {W0 w : World} {wb : Nat} {K : WK} {R X : List Int} {k : Nat} {e : Ending} {w' : World} (h : PutOut W0 w wb K (putR R k X) (putG k X) e w') : TxtOut W0 w wb K R k X e w' :=
  ⟨h.1, ⟨putG k X, fun hX => by unfold putG; rw [if_pos hX], h.2.1⟩, h.2.2⟩
theorem byte_putR {R X : List Int} {k : Nat} (hR : Byte R) (hX : Byte X) : Byte (putR R k X) := by
  unfold putR
  split
  · exact hR
  · split
    · intro x hx
      rcases List.mem_append.1 hx with h | h
      · exact hR x h
      · rcases List.mem_cons.1 h with rfl | h
        · decide
        · exact hX x h
    · intro x hx
      rcases List.mem_append.1 hx with h | h
      · exact hR x h
      · exact hX x h
theorem len_putR (R X : List Int) (k : Nat) : (putR R k X).length ≤ R.length + X.length + 1 := by
  unfold putR
  split
  · omega
  · split <;> simp <;> omega
theorem putR_ge (R X : List Int) (k : Nat) : R.length + X.length ≤ (putR R k X).length := by
  unfold putR
  split
  · rename_i h; rw [h]; simp
  · split <;> simp <;> omega
/-- Where a term may begin: a gap is held back, or the text does not end with a symbol. -/
def startB (R : List Int) (k : Nat) : Prop := k = 0 → isOfB (endI R) 8 = false
theorem endI_append {R X : List Int} (h : X ≠ []) : endI (R ++ X) = lastI X := by
  unfold endI lastI
  have hl : 0 < X.length := by cases X with | nil => exact absurd rfl h | cons _ _ => simp
  rw [if_neg (by simp [h])]
  rw [List.length_append, List.getD, List.getD, List.getElem?_append_right (by omega)]
  congr 1
  congr 1
  omega
theorem start_behind {R : List Int} {y : Int} (hy : isOfB y 8 = false) (k : Nat) : startB (R ++ [y]) k := fun _ => by
  rw [endI_append (by simp)]
  exact hy
/-- What is said of the terms that the method term writes: here of one tree at one priority. -/
def TermAt (W0 : World) (wb : Nat) (K : WK) (v : Value) (p : Int) (X : List Int) : Prop :=
  ∀ (w : World) (R : List Int) (k : Nat), Byte R → (putR R k X).length ≤ 10000000000 → startB R k → Tab w → TabP w → (∃ p n c, WS W0 w wb K p n c R k) → Calls Tryz.prog 33 #[.pointer (some ⟨wb, 0, none⟩), v, .int .i64 p] w (TxtOut W0 w wb K R k X)
/-- The tables stay. -/
structure TabsK (W0 : World) (wb : Nat) : Prop where
  tab : ∀ W, W0.grownBy W (some wb) → Tab W
  pow : ∀ W, W0.grownBy W (some wb) → TabP W
set_option maxRecDepth 100000 in
theorem inParens_any {W0 : World} {wb : Nat} {K : WK} (hK : TabsK W0 wb) (vt : TypeId) (vx : Value) (X : List Int) (hX : Byte X) (ht : TermAt W0 wb K (.iface vt vx) 1200 X) (w : World) (R : List Int) (k : Nat) (hR : Byte R) (hl : (putR R k (parW X)).length ≤ 10000000000) (hs : ∃ p n c, WS W0 w wb K p n c R k) :
    Calls Tryz.prog 78 #[.pointer (some ⟨wb, 0, none⟩), .iface vt vx] w (TxtOut W0 w wb K R k (parW X)) := by
  have b40 : Byte [40] := fun x hx => by simp at hx; omega
  have b41 : Byte [41] := fun x hx => by simp at hx; omega
  have H1 := put_any W0 w wb K R [40] k (by obtain ⟨_, _, _, h⟩ := hs; exact hK.tab _ h.gr) hR b40 (by have := putR_ge R (parW X) k; simp; omega) hs
  have e40 : strOfNums [40] = ⟨#[40]⟩ := rfl
  have e41 : strOfNums [41] = ⟨#[41]⟩ := rfl
  rw [e40] at H1
  have HFIN : Hid (putR R k [40] ++ X ++ [41] = putR R k (parW X)) := by
    show _ = _
    unfold parW
    rw [List.append_assoc, putR_more (by simp)]; rfl
  have HL : Hid ((putR R k [40] ++ X ++ [41]).length ≤ 10000000000) := by show _ ≤ _; rw [HFIN.out]; exact hl
  have HB1 : Hid (Byte (putR R k [40])) := byte_putR hR b40
  have HX : Hid (Byte X ∧ Byte [41]) := ⟨hX, b41⟩
  have HT : Hid (TermAt W0 wb K (.iface vt vx) 1200 X) := ht
  have HK : Hid (TabsK W0 wb) := hK
  have HST : Hid (startB (putR R k [40]) 0) := fun _ => by
    rw [putR_cons]
    split
    · rw [show R ++ 32 :: 40 :: [] = (R ++ [32]) ++ [40] by simp, endI_append (by simp)]; rfl
    · rw [endI_append (by simp)]; rfl
  clear hX ht hK hR hl hs b40 b41
  go_enter Tryz.func78, Tryz.ntmps78
  go_wp2_with fail
  refine H1.mono ?_
  rintro e w1 ⟨rfl, hs1, hk1⟩
  have HS1 : Hid (∃ p n c, WS W0 w1 wb K p n c (putR R k [40]) 0) := hs1
  have HK1 : Hid (Kept w w1 wb) := hk1
  have gr1 : Hid (W0.grownBy w1 (some wb)) := by obtain ⟨_, _, _, h⟩ := hs1; exact h.gr
  have H2 := HT.out w1 (putR R k [40]) 0 HB1.out (by rw [putR_zero]; have := HL.out; simp at this ⊢; omega) HST.out (HK.out.tab _ gr1.out) (HK.out.pow _ gr1.out) hs1
  clear hs1 hk1 H1
  go_wp2_with fail
  refine H2.mono ?_
  rintro e w2 ⟨rfl, ⟨k2, hk2, hs2⟩, hkp2⟩
  rw [putR_zero] at hs2
  have HK2 : Hid (Kept w w2 wb) := HK1.out.trans hkp2
  have gr2 : Hid (W0.grownBy w2 (some wb)) := by obtain ⟨_, _, _, h⟩ := hs2; exact h.gr
  have H3 := put_any W0 w2 wb K (putR R k [40] ++ X) [41] k2 (HK.out.tab _ gr2.out) (fun x hx => by rcases List.mem_append.1 hx with h | h; exact HB1.out x h; exact HX.out.1 x h) HX.out.2 (by have := HL.out; simp at this ⊢; omega) hs2
  rw [e41] at H3
  clear hs2 hkp2 H2 hk2
  go_wp2_with fail
  refine H3.mono ?_
  rintro e w3 ⟨rfl, hs3, hk3⟩
  rw [putR_close (.inl rfl)] at hs3
  have HO : Hid (TxtOut W0 w wb K R k (parW X) (.returned (.tuple #[])) w3) := ⟨rfl, ⟨_, fun h => by simp [parW] at h, by rw [HFIN.out] at hs3; exact hs3⟩, HK2.out.trans hk3⟩
  clear hs3 hk3 H3
  go_wp2_with fail
  exact bodyPost_end (v := .tuple #[]) (by simp [results, Tryz.results78, go_sem]) rfl HO.out

end Go.Proofs.YtgonpnnlpkjkcaaGreatDoor

