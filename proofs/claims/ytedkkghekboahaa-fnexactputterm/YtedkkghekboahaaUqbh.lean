/- Texts of PtQ, PtR, SSG. Own work of the verifier. -/
import Derived.Test.YtedkkghekboahaaUqbg
import Derived.Test.YtedkkghekboahaaUqak
namespace Go.Proofs.Ytedkkghekboahaa
open Go Go.RowKit Go.Maps
set_option linter.unusedVariables false

set_option maxHeartbeats 4000000 in
set_option maxRecDepth 100000 in
theorem tm_new (V : World) (h pb : Nat) (base : Int) (X : List Cel) (tr : List Int) (E : PSt) (s : Sl8) (W : World) (x sl : Int) (t : List Int) (b o m cap : Nat) (tp : Option Addr) (tc : Nat) (hm : 0 < m) (hmm : m ≤ 1000000) (d0 : W.cell? ⟨b, o, none⟩ = some (.int .i64 0)) (d1 : W.cell? ⟨b, o + 1, none⟩ = some (.int .i64 x)) (d2 : W.cell? ⟨b, o + 2, none⟩ = some (.slice tp t.length tc)) (hx : ¬ x < base) (hu : look E x = none) (hEl : E.length ≤ 20000) (pl : Nat) (hpl : pl ≤ 1000000) (hsl : sl = (pl : Nat)) (H : PMo V h pb base X tr E s W) :
    Calls Try.prog 95 #[.pointer (some ⟨h, 0, none⟩), .pointer (some ⟨pb, 0, none⟩), .slice (some ⟨b, o, none⟩) m cap, .int .i64 sl] W (TmOut V h pb base X tr s W ((0, ((pl : Nat) : Int), []), [], E ++ [(x, ((pl : Nat) : Int))])) := by
  obtain ⟨tl, etl⟩ : ∃ tl, tl = t.length := ⟨_, rfl⟩
  rw [← etl] at d2
  clear etl
  obtain ⟨W1, eW1⟩ : ∃ W1, W1 = (W.alloc (.cells #[.int .i64 0, .int .i64 0, .slice none 0 0] 31)).alloc (.cells #[.int .i64 0, .int .i64 x, .slice tp tl tc] 31) := ⟨_, rfl⟩
  have hb1 : Below W.heap.size W W1 := by rw [eW1]; exact ((Below.refl _ _).alloc (Nat.le_refl _) _).alloc (by simp) _
  have k8 : W1.heap[W.heap.size]? = some (.cells #[.int .i64 0, .int .i64 0, .slice none 0 0] 31) := by rw [eW1, Below.heap_alloc _ _ _ (by simp)]; exact heap_alloc_new _ _
  have k9 : W1.heap[W.heap.size + 1]? = some (.cells #[.int .i64 0, .int .i64 x, .slice tp tl tc] 31) := by
    rw [eW1]
    have := heap_alloc_new (W.alloc (.cells #[.int .i64 0, .int .i64 0, .slice none 0 0] 31)) (.cells #[.int .i64 0, .int .i64 x, .slice tp tl tc] 31)
    simpa using this
  have HPM : Hid (PMo V h pb base X tr E s W1) := H.below hb1
  have HB1 : Hid (Below W.heap.size W W1) := hb1
  have HE1 : Hid _ := eW1
  have hz1 : W1.heap.size = W.heap.size + 1 + 1 := by rw [eW1]; simp
  have HZ1 : Hid _ := hz1
  have HK8 : Hid (W1.heap[W.heap.size]? = some (.cells #[.int .i64 0, .int .i64 0, .slice none 0 0] 31)) := k8
  have HK9 : Hid (W1.heap[W.heap.size + 1]? = some (.cells #[.int .i64 0, .int .i64 x, .slice tp tl tc] 31)) := k9
  obtain ⟨m0, m1, m2, m3, m4, m5⟩ := HPM.out.cells
  obtain ⟨n0, n1, n2, n3⟩ := Box3.of_block (t := 31) k9
  have hbb : b < W.heap.size := World.block_lt_of_cell? _ _ d0
  have hlh := HPM.out.lt
  obtain ⟨hlh, hlp⟩ := hlh
  have HRF : Hid (∀ a w, Calls Try.prog 79 #[.int .i64 a] w fun e w' => e = .returned (.agg #[.int .i64 0, .int .i64 a, .slice none 0 0]) ∧ Below w.heap.size w w') := fun a w => l10ref_any a w
  have HQ : Hid (∀ W' s', PMo V h pb base X tr (E ++ [(x, ((pl : Nat) : Int))]) s' W' → FrT h pb s s' W W' → TmOut V h pb base X tr s W ((0, ((pl : Nat) : Int), []), [], E ++ [(x, ((pl : Nat) : Int))]) (.returned (.agg #[.int .i64 0, .int .i64 (pl : Nat), .slice none 0 0])) W') := fun W' s' hp hf => ⟨none, 0, rfl, bin_nil V, s', by simpa using hp, hf⟩
  generalize TmOut V h pb base X tr s W ((0, ((pl : Nat) : Int), []), [], E ++ [(x, ((pl : Nat) : Int))]) = RR at HQ ⊢
  subst hsl
  have hfi := lookM_none E x hu
  have HAS : Hid (Aside h pb s (W.heap.size + 1)) := H.new (by omega)
  have HAW : Hid (Aside h pb s W.heap.size) := H.new (Nat.le_refl _)
  have HVW : Hid (V.heap.size ≤ W.heap.size) := H.2.2.2.2.2.2.1.2.2.size
  clear hu
  clear H hb1 k8 k9 eW1 hz1
  go_enter Try.func95, Try.ntmps95
  go_wp2
  rw [← HE1.out]
  refine wp_region_held_drew (S := fun W' => W'.cell? ⟨W.heap.size + 1, 1, none⟩ = some (.int .i64 x) ∧ W'.cell? ⟨pb, 0, none⟩ = some (.int .i64 base)) (by kernel_rfl) ⟨n1, m2⟩ (fun hHeld => ?_)
  refine hTake (i := 0) (v := .pointer (some ⟨W.heap.size + 1, 1, none⟩)) (some 34) (by kernel_rfl) (by kernel_rfl) (by kernel_rfl) (by kernel_rfl) (by kernel_rfl) (fun _ _ _ h => h) (fun o ho W hSw => ?z22) (by assumption) ?_
  case z22 =>
    cases ho
    simp [execOp, go_sem, Act.eval]
  simp only [Act.put, List.setIfInBounds_toArray, List.set_cons_zero, List.set_cons_succ]
  refine hTake (i := 1) (v := .int .i64 x) (some 35) (by kernel_rfl) (by kernel_rfl) (by kernel_rfl) (by kernel_rfl) (by kernel_rfl) (fun _ _ _ h => h) (fun o ho W hSw => ?z23) (by assumption) ?_
  case z23 =>
    cases ho
    obtain ⟨t0, t1⟩ := hSw
    simp [execOp, go_sem, Act.eval, t0]
  simp only [Act.put, List.setIfInBounds_toArray, List.set_cons_zero, List.set_cons_succ]
  refine hTake (i := 2) (v := .pointer (some ⟨pb, 0, none⟩)) (some 36) (by kernel_rfl) (by kernel_rfl) (by kernel_rfl) (by kernel_rfl) (by kernel_rfl) (fun _ _ _ h => h) (fun o ho W hSw => ?z24) (by assumption) ?_
  case z24 =>
    cases ho
    simp [execOp, go_sem, Act.eval]
  simp only [Act.put, List.setIfInBounds_toArray, List.set_cons_zero, List.set_cons_succ]
  refine hTake (i := 3) (v := .pointer (some ⟨pb, 0, none⟩)) (some 37) (by kernel_rfl) (by kernel_rfl) (by kernel_rfl) (by kernel_rfl) (by kernel_rfl) (fun _ _ _ h => h) (fun o ho W hSw => ?z25) (by assumption) ?_
  case z25 =>
    cases ho
    simp [execOp, go_sem, Act.eval]
  simp only [Act.put, List.setIfInBounds_toArray, List.set_cons_zero, List.set_cons_succ]
  refine hTake (i := 4) (v := .pointer (some ⟨pb, 0, none⟩)) (some 38) (by kernel_rfl) (by kernel_rfl) (by kernel_rfl) (by kernel_rfl) (by kernel_rfl) (fun _ _ _ h => h) (fun o ho W hSw => ?z26) (by assumption) ?_
  case z26 =>
    cases ho
    simp [execOp, go_sem, Act.eval]
  simp only [Act.put, List.setIfInBounds_toArray, List.set_cons_zero, List.set_cons_succ]
  refine hTake (i := 5) (v := .int .i64 base) (some 39) (by kernel_rfl) (by kernel_rfl) (by kernel_rfl) (by kernel_rfl) (by kernel_rfl) (fun _ _ _ h => h) (fun o ho W hSw => ?z27) (by assumption) ?_
  case z27 =>
    cases ho
    obtain ⟨t0, t1⟩ := hSw
    simp [execOp, go_sem, Act.eval, t1]
  simp only [Act.put, List.setIfInBounds_toArray, List.set_cons_zero, List.set_cons_succ]
  refine hTake (i := 6) (v := .bool false) (some 40) (by kernel_rfl) (by kernel_rfl) (by kernel_rfl) (by kernel_rfl) (by kernel_rfl) (fun _ _ _ h => h) (fun o ho W hSw => ?z28) (by assumption) ?_
  case z28 =>
    cases ho
    simp [execOp, go_sem, Act.eval, hx]
  simp only [Act.put, List.setIfInBounds_toArray, List.set_cons_zero, List.set_cons_succ]
  refine wpAnyH_done (by kernel_rfl) ?_ _
  change Exit.then _ _ _ _ _
  clear hHeld
  have HFD := l2find_any s.2.2.1.1 E.length s.2.2.1.2 (E.map Prod.fst) x W1.drew.drew (by simp) (by omega) (HPM.out.2.2.2.2.1.iin.below ((Below.refl _ _).drew.drew))
  rw [hfi] at HFD
  go_wp2
  refine wp_region_held_drew (S := fun W' => W'.cell? ⟨W.heap.size + 1, 1, none⟩ = some (.int .i64 x) ∧ W'.cell? ⟨pb, 1, none⟩ = some (.slice s.2.2.1.1 E.length s.2.2.1.2)) (by kernel_rfl) ⟨n1, m3⟩ (fun hHeld => ?_)
  refine hTake (i := 0) (v := .pointer (some ⟨pb, 0, none⟩)) (some 44) (by kernel_rfl) (by kernel_rfl) (by kernel_rfl) (by kernel_rfl) (by kernel_rfl) (fun _ _ _ h => h) (fun o ho W hSw => ?z29) (by assumption) ?_
  case z29 =>
    cases ho
    simp [execOp, go_sem, Act.eval]
  simp only [Act.put, List.setIfInBounds_toArray, List.set_cons_zero, List.set_cons_succ]
  refine hTake (i := 1) (v := .pointer (some ⟨pb, 0, none⟩)) (some 45) (by kernel_rfl) (by kernel_rfl) (by kernel_rfl) (by kernel_rfl) (by kernel_rfl) (fun _ _ _ h => h) (fun o ho W hSw => ?z30) (by assumption) ?_
  case z30 =>
    cases ho
    simp [execOp, go_sem, Act.eval]
  simp only [Act.put, List.setIfInBounds_toArray, List.set_cons_zero, List.set_cons_succ]
  refine hTake (i := 2) (v := .pointer (some ⟨pb, 1, none⟩)) (some 46) (by kernel_rfl) (by kernel_rfl) (by kernel_rfl) (by kernel_rfl) (by kernel_rfl) (fun _ _ _ h => h) (fun o ho W hSw => ?z31) (by assumption) ?_
  case z31 =>
    cases ho
    simp [execOp, go_sem, Act.eval]
  simp only [Act.put, List.setIfInBounds_toArray, List.set_cons_zero, List.set_cons_succ]
  refine hTake (i := 3) (v := .slice s.2.2.1.1 E.length s.2.2.1.2) (some 47) (by kernel_rfl) (by kernel_rfl) (by kernel_rfl) (by kernel_rfl) (by kernel_rfl) (fun _ _ _ h => h) (fun o ho W hSw => ?z32) (by assumption) ?_
  case z32 =>
    cases ho
    obtain ⟨t0, t1⟩ := hSw
    simp [execOp, go_sem, Act.eval, t1]
  simp only [Act.put, List.setIfInBounds_toArray, List.set_cons_zero, List.set_cons_succ]
  refine hTake (i := 4) (v := .pointer (some ⟨W.heap.size + 1, 1, none⟩)) (some 48) (by kernel_rfl) (by kernel_rfl) (by kernel_rfl) (by kernel_rfl) (by kernel_rfl) (fun _ _ _ h => h) (fun o ho W hSw => ?z33) (by assumption) ?_
  case z33 =>
    cases ho
    simp [execOp, go_sem, Act.eval]
  simp only [Act.put, List.setIfInBounds_toArray, List.set_cons_zero, List.set_cons_succ]
  refine hTake (i := 5) (v := .int .i64 x) (some 49) (by kernel_rfl) (by kernel_rfl) (by kernel_rfl) (by kernel_rfl) (by kernel_rfl) (fun _ _ _ h => h) (fun o ho W hSw => ?z34) (by assumption) ?_
  case z34 =>
    cases ho
    obtain ⟨t0, t1⟩ := hSw
    simp [execOp, go_sem, Act.eval, t0]
  simp only [Act.put, List.setIfInBounds_toArray, List.set_cons_zero, List.set_cons_succ]
  refine hCallE (i := 6) (f := 107) (args := #[.slice s.2.2.1.1 E.length s.2.2.1.2, .int .i64 x]) (some 50) (by kernel_rfl) (by kernel_rfl) (by kernel_rfl) (fun o ho => ?c6) HFD ?k6 (fun ch w' hh => by cases hh.1) (fun w' hh => by cases hh.1)
  case c6 =>
    cases ho
    simp [execOp, go_sem, Act.eval]
  rintro u w3 ⟨hu, rfl⟩
  obtain rfl := Ending.returned.inj hu
  clear hu HFD
  refine ⟨⟨n1, m3⟩, ?_⟩
  simp only [Act.put, List.setIfInBounds_toArray, List.set_cons_zero, List.set_cons_succ]
  refine hTake (i := 7) (v := .int .i64 (-1)) (some 10) (by kernel_rfl) (by kernel_rfl) (by kernel_rfl) (by kernel_rfl) (by kernel_rfl) (fun _ _ _ h => h) (fun o ho W hSw => ?z35) (by assumption) ?_
  case z35 =>
    cases ho
    simp [execOp, go_sem, Act.eval]
  simp only [Act.put, List.setIfInBounds_toArray, List.set_cons_zero, List.set_cons_succ]
  refine wpAnyH_done (by kernel_rfl) ?_ _
  change Exit.then _ _ _ _ _
  clear hHeld
  have hneg : ¬ ((0 : Int) ≤ -1) := by decide
  have hpos : ¬ (((pl : Nat) : Int) < 0) := by omega
  have HPD : Hid (PMo V h pb base X tr E s W1.drew.drew) := HPM.out.below ((Below.refl _ _).drew.drew)
  have HFD1 : Hid (FrT h pb s s W W1.drew.drew) := (FrT.of_below HB1.out).trans (FrT.of_below ((Below.refl _ _).drew.drew))
  have HLW : Hid (W.heap.size < W1.drew.drew.heap.size) := by show _ < W1.heap.size; have := HZ1.out; omega
  have HK8W : Hid (W1.drew.drew.heap[W.heap.size]? = some (.cells #[.int .i64 0, .int .i64 0, .slice none 0 0] 31)) := HK8.out
  have n1d : W1.drew.drew.cell? ⟨W.heap.size + 1, 1, none⟩ = some (.int .i64 x) := n1
  have m3d : W1.drew.drew.cell? ⟨pb, 1, none⟩ = some (.slice s.2.2.1.1 E.length s.2.2.1.2) := m3
  clear n1 m3 n0 n2 n3 m0 m1 m2 m4 m5 hfi
  generalize W1.drew.drew = Wd at HPD HFD1 HLW HK8W n1d m3d ⊢
  have n1 := n1d
  have m3 := m3d
  clear n1d m3d
  go_wp2
  refine wp_region_any (by kernel_rfl) ?_
  refine wpAny_tail (p := 10) (S := fun W' => W'.cell? ⟨W.heap.size + 1, 1, none⟩ = some (.int .i64 x) ∧ W'.cell? ⟨pb, 1, none⟩ = some (.slice s.2.2.1.1 E.length s.2.2.1.2)) (by kernel_rfl) 10 _ _ _ rfl (clo_start _ _ _) (by kernel_rfl) (by kernel_rfl) ?_
  change wpAnyH _ _ _ _ _ _ _ _ Wd.drew
  have hS0 : Wd.drew.cell? ⟨W.heap.size + 1, 1, none⟩ = some (.int .i64 x) ∧ Wd.drew.cell? ⟨pb, 1, none⟩ = some (.slice s.2.2.1.1 E.length s.2.2.1.2) := ⟨n1, m3⟩
  refine hTake (i := 0) (v := .pointer (some ⟨pb, 0, none⟩)) (some 65) (by kernel_rfl) (by kernel_rfl) (by kernel_rfl) (by kernel_rfl) (by kernel_rfl) (fun _ _ _ h => h) (fun o ho W hSw => ?z36) hS0 ?_
  case z36 =>
    cases ho
    simp [execOp, go_sem, Act.eval]
  simp only [Act.put, List.setIfInBounds_toArray, List.set_cons_zero, List.set_cons_succ]
  refine hTake (i := 1) (v := .pointer (some ⟨pb, 0, none⟩)) (some 66) (by kernel_rfl) (by kernel_rfl) (by kernel_rfl) (by kernel_rfl) (by kernel_rfl) (fun _ _ _ h => h) (fun o ho W hSw => ?z37) hS0 ?_
  case z37 =>
    cases ho
    simp [execOp, go_sem, Act.eval]
  simp only [Act.put, List.setIfInBounds_toArray, List.set_cons_zero, List.set_cons_succ]
  refine hTake (i := 2) (v := .pointer (some ⟨pb, 0, none⟩)) (some 67) (by kernel_rfl) (by kernel_rfl) (by kernel_rfl) (by kernel_rfl) (by kernel_rfl) (fun _ _ _ h => h) (fun o ho W hSw => ?z38) hS0 ?_
  case z38 =>
    cases ho
    simp [execOp, go_sem, Act.eval]
  simp only [Act.put, List.setIfInBounds_toArray, List.set_cons_zero, List.set_cons_succ]
  refine hTake (i := 3) (v := .pointer (some ⟨pb, 1, none⟩)) (some 68) (by kernel_rfl) (by kernel_rfl) (by kernel_rfl) (by kernel_rfl) (by kernel_rfl) (fun _ _ _ h => h) (fun o ho W hSw => ?z39) hS0 ?_
  case z39 =>
    cases ho
    simp [execOp, go_sem, Act.eval]
  simp only [Act.put, List.setIfInBounds_toArray, List.set_cons_zero, List.set_cons_succ]
  refine hTake (i := 4) (v := .slice s.2.2.1.1 E.length s.2.2.1.2) (some 69) (by kernel_rfl) (by kernel_rfl) (by kernel_rfl) (by kernel_rfl) (by kernel_rfl) (fun _ _ _ h => h) (fun o ho W hSw => ?z40) hS0 ?_
  case z40 =>
    cases ho
    obtain ⟨t0, t1⟩ := hSw
    simp [execOp, go_sem, Act.eval, t1]
  simp only [Act.put, List.setIfInBounds_toArray, List.set_cons_zero, List.set_cons_succ]
  refine hTake (i := 5) (v := .pointer (some ⟨W.heap.size + 1, 1, none⟩)) (some 70) (by kernel_rfl) (by kernel_rfl) (by kernel_rfl) (by kernel_rfl) (by kernel_rfl) (fun _ _ _ h => h) (fun o ho W hSw => ?z41) hS0 ?_
  case z41 =>
    cases ho
    simp [execOp, go_sem, Act.eval]
  simp only [Act.put, List.setIfInBounds_toArray, List.set_cons_zero, List.set_cons_succ]
  refine hTake (i := 6) (v := .int .i64 x) (some 71) (by kernel_rfl) (by kernel_rfl) (by kernel_rfl) (by kernel_rfl) (by kernel_rfl) (fun _ _ _ h => h) (fun o ho W hSw => ?z42) hS0 ?_
  case z42 =>
    cases ho
    obtain ⟨t0, t1⟩ := hSw
    simp [execOp, go_sem, Act.eval, t0]
  simp only [Act.put, List.setIfInBounds_toArray, List.set_cons_zero, List.set_cons_succ]
  have hbA : Below Wd.heap.size Wd (Wd.drew.alloc (.cells #[.int .i64 x] 3)) := (Below.refl _ _).drew.alloc (by simp) _
  have hlt2 : W.heap.size + 1 < Wd.heap.size ∧ pb < Wd.heap.size := ⟨World.block_lt_of_cell? _ _ n1, World.block_lt_of_cell? _ _ m3⟩
  refine hStep (i := 7) (v := .slice (some ⟨Wd.heap.size, 0, none⟩) 1 1) (w' := Wd.drew.alloc (.cells #[.int .i64 x] 3)) (some 72) (by kernel_rfl) (by kernel_rfl) (by kernel_rfl) (fun o ho => ?ya) ⟨(hbA.cell (p := ⟨W.heap.size + 1, 1, none⟩) hlt2.1).trans n1, (hbA.cell (p := ⟨pb, 1, none⟩) hlt2.2).trans m3⟩ ?_
  case ya =>
    cases ho
    simp [execOp, go_sem, Act.eval]
  simp only [Act.put, List.setIfInBounds_toArray, List.set_cons_zero, List.set_cons_succ]
  have kn : (Wd.drew.alloc (.cells #[.int .i64 x] 3)).cell? ⟨Wd.heap.size, 0, none⟩ = some (.int .i64 x) := by
    have kk := heap_alloc_new Wd.drew (.cells #[.int .i64 x] 3)
    have e : Wd.drew.heap.size = Wd.heap.size := rfl
    rw [e] at kk
    unfold World.cell?
    rw [kk]; rfl
  have hza : Wd.heap.size < (Wd.drew.alloc (.cells #[.int .i64 x] 3)).heap.size := by simp
  generalize Wd.drew.alloc (.cells #[.int .i64 x] 3) = Wa at hbA kn hza ⊢
  have Ha : PMo V h pb base X tr E s Wa := HPD.out.below hbA
  obtain ⟨g5, cap5, w5, hr5, ho5, hg5, hat5⟩ := app_intN Wa 23 V.heap.size s.2.2.1.1 E.length s.2.2.1.2 Wd.heap.size (E.map Prod.fst) x (by omega) Ha.2.2.2.2.2.2.1.2.2.size Ha.2.2.2.2.1 kn
  have hp5 : w5.heap[pb]? = Wa.heap[pb]? := hg5.block pb Ha.lt.2 (fun e => (Ha.blocks.2.2.1 pb ((bl_of _ _).symm.trans e.symm)).2.1 rfl)
  have h95 : w5.heap[W.heap.size + 1]? = Wa.heap[W.heap.size + 1]? := hg5.block _ (by have := hbA.size; omega) (fun e => by
    have hA9 := (HAS.out).2.2.2.2.1
    exact hA9 ((bl_of _ _).symm.trans e.symm))
  have hS5 : w5.cell? ⟨W.heap.size + 1, 1, none⟩ = some (.int .i64 x) ∧ w5.cell? ⟨pb, 1, none⟩ = some (.slice s.2.2.1.1 E.length s.2.2.1.2) := ⟨by rw [World.cell?_of_block (a := ⟨W.heap.size + 1, 1, none⟩) h95]; exact (hbA.cell (p := ⟨W.heap.size + 1, 1, none⟩) hlt2.1).trans n1, by rw [World.cell?_of_block (a := ⟨pb, 1, none⟩) hp5]; exact (hbA.cell (p := ⟨pb, 1, none⟩) hlt2.2).trans m3⟩
  refine hStep (i := 8) (v := .slice (some ⟨g5, 0, none⟩) (E.length + 1) cap5) (w' := w5) (some 73) (by kernel_rfl) (by kernel_rfl) (by kernel_rfl) (fun o ho => ?yb) hS5 ?_
  case yb =>
    cases ho
    exact exec_appM rfl rfl rfl hr5
  simp only [Act.put, List.setIfInBounds_toArray, List.set_cons_zero, List.set_cons_succ]
  refine hTake (i := 9) (v := .pointer (some ⟨pb, 0, none⟩)) (some 74) (by kernel_rfl) (by kernel_rfl) (by kernel_rfl) (by kernel_rfl) (by kernel_rfl) (fun _ _ _ h => h) (fun o ho W hSw => ?z43) hS5 ?_
  case z43 =>
    cases ho
    simp [execOp, go_sem, Act.eval]
  simp only [Act.put, List.setIfInBounds_toArray, List.set_cons_zero, List.set_cons_succ]
  refine wpAnyH_done (by kernel_rfl) ?_ _
  have f5 : w5.frozen? ⟨pb, 1, none⟩ = false := by rw [World.frozen?_of_block (a := ⟨pb, 1, none⟩) hp5]; exact Ha.cells.2.2.2.2.2 1
  obtain ⟨W2, eW2⟩ : ∃ W2, W2 = w5.setCell ⟨pb, 1, none⟩ (.slice (some ⟨g5, 0, none⟩) (E.length + 1) cap5) := ⟨_, rfl⟩
  refine tail_storeM (some 75) (by rfl) (by rfl) (by rfl) (v := .pointer (some ⟨pb, 1, none⟩)) ?_ (by rfl) (by rfl) (by rfl) (w' := w5.setCell ⟨pb, 1, none⟩ (.slice (some ⟨g5, 0, none⟩) (E.length + 1) cap5)) ?_ ?_
  · simp [execOp, go_sem, Act.eval]
  · simp [execOp, go_sem, Act.eval, Act.put, hS5.2, f5]
  simp only [Act.put, List.setIfInBounds_toArray, List.set_cons_zero, List.set_cons_succ]
  rw [← eW2]
  obtain ⟨ho2, c22, f22, hV2, hlp2⟩ := Ha.midN hg5 _ eW2
  have hb3 : Below W2.heap.size W2 (W2.alloc (.cells #[.int .i64 (pl : Nat)] 3)) := alloc_on _ _
  have kn3 : (W2.alloc (.cells #[.int .i64 (pl : Nat)] 3)).cell? ⟨W2.heap.size, 0, none⟩ = some (.int .i64 (pl : Nat)) := by
    unfold World.cell?
    rw [heap_alloc_new W2 (.cells #[.int .i64 (pl : Nat)] 3)]; rfl
  obtain ⟨g6, cap6, w6, hr6, ho6, hg6, hat6⟩ := app_intN (W2.alloc (.cells #[.int .i64 (pl : Nat)] 3)) 23 V.heap.size s.2.2.2.1 E.length s.2.2.2.2 W2.heap.size (E.map Prod.snd) (pl : Nat) (by omega) (by have := hb3.size; omega) (ho2.below hb3) kn3
  obtain ⟨q1, q2⟩ := Ha.growN ho5 hg5 hat5 eW2 hb3 ho6 hg6 hat6
  have hp6 : w6.cell? ⟨pb, 2, none⟩ = some (.slice s.2.2.2.1 E.length s.2.2.2.2) ∧ w6.frozen? ⟨pb, 2, none⟩ = false := by
    have hbk : w6.heap[pb]? = W2.heap[pb]? := (hg6.block pb (by have := hb3.size; omega) (fun e => (Ha.blocks.2.2.2 pb ((bl_of _ _).symm.trans e.symm)).2.1 rfl)).trans (hb3.block pb hlp2)
    exact ⟨by rw [World.cell?_of_block (a := ⟨pb, 2, none⟩) hbk]; exact c22, by rw [World.frozen?_of_block (a := ⟨pb, 2, none⟩) hbk]; exact f22⟩
  obtain ⟨c6, f6⟩ := hp6
  have HQ7 : Hid (∃ s', PMo V h pb base X tr (E ++ [(x, ((pl : Nat) : Int))]) s' (w6.setCell ⟨pb, 2, none⟩ (.slice (some ⟨g6, 0, none⟩) (E.length + 1) cap6)) ∧ FrT h pb s s' Wa (w6.setCell ⟨pb, 2, none⟩ (.slice (some ⟨g6, 0, none⟩) (E.length + 1) cap6))) := ⟨_, q1, q2⟩
  have HBA : Hid (Below Wd.heap.size Wd Wa) := hbA
  clear hS0 hS5 hr5 ho5 hg5 hat5 f5 hp5 h95 eW2 ho2 f22 hV2 hlp2 hb3 kn3 ho6 hg6 hat6 q1 q2 Ha kn hbA hza
  go_wp2_with (at_builtin; refine wpList_app_run rfl _ _ _ _ rfl _ _ _ _ _ rfl rfl hr6 ?_)
  generalize w6.setCell ⟨pb, 2, none⟩ (.slice (some ⟨g6, 0, none⟩) (E.length + 1) cap6) = W7 at HQ7 ⊢
  obtain ⟨s7, hpm7, hfr7⟩ := HQ7.out
  refine (HRF.out (pl : Nat) W7).mono ?_
  rintro e w8 ⟨rfl, hb8⟩
  obtain ⟨hA7, hk7⟩ := HAW.out.fr hfr7 (by have := HBA.out.size; have := HLW.out; omega)
  have hl7 : W.heap.size < W7.heap.size := by have := hfr7.1; have := HBA.out.size; have := HLW.out; omega
  have hk8 : w8.heap[W.heap.size]? = some (.cells #[.int .i64 0, .int .i64 0, .slice none 0 0] 31) := (hb8.block W.heap.size hl7).trans (hk7.trans ((HBA.out.block W.heap.size HLW.out).trans HK8W.out))
  have HX : Hid _ := (Box3.of_block (t := 31) hk8).put (.int .i64 0) (.int .i64 (pl : Nat)) (.slice none 0 0)
  obtain ⟨b0, b1, b2, b3⟩ := Box3.of_block (t := 31) hk8
  have hVs : V.heap.size ≤ W.heap.size := HVW.out
  have HBF : Hid (RR (.returned (.agg #[.int .i64 0, .int .i64 (pl : Nat), .slice none 0 0])) (((w8.setCell ⟨W.heap.size, 0, none⟩ (.int .i64 0)).setCell ⟨W.heap.size, 1, none⟩ (.int .i64 (pl : Nat))).setCell ⟨W.heap.size, 2, none⟩ (.slice none 0 0))) :=
    HQ.out _ s7 ((((hpm7.below hb8).aside (a := ⟨W.heap.size, 0, none⟩) hA7 hVs _).aside (a := ⟨W.heap.size, 1, none⟩) hA7 hVs _).aside (a := ⟨W.heap.size, 2, none⟩) hA7 hVs _) ((((HFD1.out.trans ((FrT.of_below HBA.out).trans (hfr7.trans (FrT.of_below hb8)))).set (a := ⟨W.heap.size, 0, none⟩) (Nat.le_refl _) _).set (a := ⟨W.heap.size, 1, none⟩) (Nat.le_refl _) _).set (a := ⟨W.heap.size, 2, none⟩) (Nat.le_refl _) _)
  clear hpm7 hfr7 hb8 hA7 hk7 hk8
  go_wp2
  obtain ⟨e0, e1, e2, _⟩ := HX.out
  exact bodyPost_ret (v := .agg #[.int .i64 0, .int .i64 (pl : Nat), .slice none 0 0]) (by simp [results, Try.results95, go_sem, e0, e1, e2]) rfl HBF.out

end Go.Proofs.Ytedkkghekboahaa

namespace Go.Proofs.Ytedkkghekboahaa
open Go Go.RowKit Go.Maps
set_option linter.unusedVariables false

set_option maxHeartbeats 4000000 in
set_option maxRecDepth 100000 in
theorem tm_top (V : World) (h pb : Nat) (base : Int) (X : List Cel) (tr : List Int) (E : PSt) (s : Sl8) (W : World) (x sl : Int) (t : List Int) (b o m cap : Nat) (tp : Option Addr) (tc : Nat) (hm : 0 < m) (hmm : m ≤ 1000000) (d0 : W.cell? ⟨b, o, none⟩ = some (.int .i64 0)) (d1 : W.cell? ⟨b, o + 1, none⟩ = some (.int .i64 x)) (d2 : W.cell? ⟨b, o + 2, none⟩ = some (.slice tp t.length tc)) (hx : ¬ x < base) (hu : look E x = none) (hEl : E.length ≤ 20000) (hX : X.length + 1 ≤ 1000000) (hsl : sl = -1) (H : PMo V h pb base X tr E s W) :
    Calls Try.prog 95 #[.pointer (some ⟨h, 0, none⟩), .pointer (some ⟨pb, 0, none⟩), .slice (some ⟨b, o, none⟩) m cap, .int .i64 sl] W (TmOut V h pb base X tr s W ((0, (X.length : Int), []), [(0, (X.length : Int), [])], E ++ [(x, (X.length : Int))])) := by
  obtain ⟨tl, etl⟩ : ∃ tl, tl = t.length := ⟨_, rfl⟩
  rw [← etl] at d2
  clear etl
  obtain ⟨W1, eW1⟩ : ∃ W1, W1 = (W.alloc (.cells #[.int .i64 0, .int .i64 0, .slice none 0 0] 31)).alloc (.cells #[.int .i64 0, .int .i64 x, .slice tp tl tc] 31) := ⟨_, rfl⟩
  have hb1 : Below W.heap.size W W1 := by rw [eW1]; exact ((Below.refl _ _).alloc (Nat.le_refl _) _).alloc (by simp) _
  have k8 : W1.heap[W.heap.size]? = some (.cells #[.int .i64 0, .int .i64 0, .slice none 0 0] 31) := by rw [eW1, Below.heap_alloc _ _ _ (by simp)]; exact heap_alloc_new _ _
  have k9 : W1.heap[W.heap.size + 1]? = some (.cells #[.int .i64 0, .int .i64 x, .slice tp tl tc] 31) := by
    rw [eW1]
    have := heap_alloc_new (W.alloc (.cells #[.int .i64 0, .int .i64 0, .slice none 0 0] 31)) (.cells #[.int .i64 0, .int .i64 x, .slice tp tl tc] 31)
    simpa using this
  have HPM : Hid (PMo V h pb base X tr E s W1) := H.below hb1
  have HB1 : Hid (Below W.heap.size W W1) := hb1
  have HE1 : Hid _ := eW1
  have hz1 : W1.heap.size = W.heap.size + 1 + 1 := by rw [eW1]; simp
  have HZ1 : Hid _ := hz1
  have HK8 : Hid (W1.heap[W.heap.size]? = some (.cells #[.int .i64 0, .int .i64 0, .slice none 0 0] 31)) := k8
  have HK9 : Hid (W1.heap[W.heap.size + 1]? = some (.cells #[.int .i64 0, .int .i64 x, .slice tp tl tc] 31)) := k9
  obtain ⟨m0, m1, m2, m3, m4, m5⟩ := HPM.out.cells
  obtain ⟨n0, n1, n2, n3⟩ := Box3.of_block (t := 31) k9
  have hbb : b < W.heap.size := World.block_lt_of_cell? _ _ d0
  have hlh := HPM.out.lt
  obtain ⟨hlh, hlp⟩ := hlh
  have HRF : Hid (∀ a w, Calls Try.prog 79 #[.int .i64 a] w fun e w' => e = .returned (.agg #[.int .i64 0, .int .i64 a, .slice none 0 0]) ∧ Below w.heap.size w w') := fun a w => l10ref_any a w
  obtain ⟨nX, enX⟩ : ∃ nX, nX = X.length := ⟨_, rfl⟩
  have HNW : Hid (∀ W', PMo V h pb base X tr E s W' → Calls Try.prog 108 #[.pointer (some ⟨h, 0, none⟩)] W' fun e w' => e = .returned (.int .i64 (nX : Nat)) ∧ ∃ s', PMo V h pb base (X ++ [(0, (nX : Int), [])]) tr E s' w' ∧ FrT h pb s s' W' w') := fun W' hp => by rw [enX]; exact l10new_any V h pb base X tr E s W' hX hp
  rw [← enX] at hX ⊢
  have HQ : Hid (∀ W' s', PMo V h pb base (X ++ [(0, (nX : Int), [])]) tr (E ++ [(x, ((nX : Nat) : Int))]) s' W' → FrT h pb s s' W W' → TmOut V h pb base X tr s W ((0, (nX : Int), []), [(0, (nX : Int), [])], E ++ [(x, (nX : Int))]) (.returned (.agg #[.int .i64 0, .int .i64 (nX : Nat), .slice none 0 0])) W') := fun W' s' hp hf => ⟨none, 0, rfl, bin_nil V, s', hp, hf⟩
  generalize TmOut V h pb base X tr s W ((0, (nX : Int), []), [(0, (nX : Int), [])], E ++ [(x, (nX : Int))]) = RR at HQ ⊢
  subst hsl
  have hfi := lookM_none E x hu
  have HAS0 : Hid (Aside h pb s (W.heap.size + 1)) := H.new (by omega)
  have HAW0 : Hid (Aside h pb s W.heap.size) := H.new (Nat.le_refl _)
  have HVW : Hid (V.heap.size ≤ W.heap.size) := H.2.2.2.2.2.2.1.2.2.size
  clear hu enX
  clear H hb1 k8 k9 eW1 hz1
  go_enter Try.func95, Try.ntmps95
  go_wp2
  rw [← HE1.out]
  refine wp_region_held_drew (S := fun W' => W'.cell? ⟨W.heap.size + 1, 1, none⟩ = some (.int .i64 x) ∧ W'.cell? ⟨pb, 0, none⟩ = some (.int .i64 base)) (by kernel_rfl) ⟨n1, m2⟩ (fun hHeld => ?_)
  refine hTake (i := 0) (v := .pointer (some ⟨W.heap.size + 1, 1, none⟩)) (some 34) (by kernel_rfl) (by kernel_rfl) (by kernel_rfl) (by kernel_rfl) (by kernel_rfl) (fun _ _ _ h => h) (fun o ho W hSw => ?z44) (by assumption) ?_
  case z44 =>
    cases ho
    simp [execOp, go_sem, Act.eval]
  simp only [Act.put, List.setIfInBounds_toArray, List.set_cons_zero, List.set_cons_succ]
  refine hTake (i := 1) (v := .int .i64 x) (some 35) (by kernel_rfl) (by kernel_rfl) (by kernel_rfl) (by kernel_rfl) (by kernel_rfl) (fun _ _ _ h => h) (fun o ho W hSw => ?z45) (by assumption) ?_
  case z45 =>
    cases ho
    obtain ⟨t0, t1⟩ := hSw
    simp [execOp, go_sem, Act.eval, t0]
  simp only [Act.put, List.setIfInBounds_toArray, List.set_cons_zero, List.set_cons_succ]
  refine hTake (i := 2) (v := .pointer (some ⟨pb, 0, none⟩)) (some 36) (by kernel_rfl) (by kernel_rfl) (by kernel_rfl) (by kernel_rfl) (by kernel_rfl) (fun _ _ _ h => h) (fun o ho W hSw => ?z46) (by assumption) ?_
  case z46 =>
    cases ho
    simp [execOp, go_sem, Act.eval]
  simp only [Act.put, List.setIfInBounds_toArray, List.set_cons_zero, List.set_cons_succ]
  refine hTake (i := 3) (v := .pointer (some ⟨pb, 0, none⟩)) (some 37) (by kernel_rfl) (by kernel_rfl) (by kernel_rfl) (by kernel_rfl) (by kernel_rfl) (fun _ _ _ h => h) (fun o ho W hSw => ?z47) (by assumption) ?_
  case z47 =>
    cases ho
    simp [execOp, go_sem, Act.eval]
  simp only [Act.put, List.setIfInBounds_toArray, List.set_cons_zero, List.set_cons_succ]
  refine hTake (i := 4) (v := .pointer (some ⟨pb, 0, none⟩)) (some 38) (by kernel_rfl) (by kernel_rfl) (by kernel_rfl) (by kernel_rfl) (by kernel_rfl) (fun _ _ _ h => h) (fun o ho W hSw => ?z48) (by assumption) ?_
  case z48 =>
    cases ho
    simp [execOp, go_sem, Act.eval]
  simp only [Act.put, List.setIfInBounds_toArray, List.set_cons_zero, List.set_cons_succ]
  refine hTake (i := 5) (v := .int .i64 base) (some 39) (by kernel_rfl) (by kernel_rfl) (by kernel_rfl) (by kernel_rfl) (by kernel_rfl) (fun _ _ _ h => h) (fun o ho W hSw => ?z49) (by assumption) ?_
  case z49 =>
    cases ho
    obtain ⟨t0, t1⟩ := hSw
    simp [execOp, go_sem, Act.eval, t1]
  simp only [Act.put, List.setIfInBounds_toArray, List.set_cons_zero, List.set_cons_succ]
  refine hTake (i := 6) (v := .bool false) (some 40) (by kernel_rfl) (by kernel_rfl) (by kernel_rfl) (by kernel_rfl) (by kernel_rfl) (fun _ _ _ h => h) (fun o ho W hSw => ?z50) (by assumption) ?_
  case z50 =>
    cases ho
    simp [execOp, go_sem, Act.eval, hx]
  simp only [Act.put, List.setIfInBounds_toArray, List.set_cons_zero, List.set_cons_succ]
  refine wpAnyH_done (by kernel_rfl) ?_ _
  change Exit.then _ _ _ _ _
  clear hHeld
  have HFD := l2find_any s.2.2.1.1 E.length s.2.2.1.2 (E.map Prod.fst) x W1.drew.drew (by simp) (by omega) (HPM.out.2.2.2.2.1.iin.below ((Below.refl _ _).drew.drew))
  rw [hfi] at HFD
  go_wp2
  refine wp_region_held_drew (S := fun W' => W'.cell? ⟨W.heap.size + 1, 1, none⟩ = some (.int .i64 x) ∧ W'.cell? ⟨pb, 1, none⟩ = some (.slice s.2.2.1.1 E.length s.2.2.1.2)) (by kernel_rfl) ⟨n1, m3⟩ (fun hHeld => ?_)
  refine hTake (i := 0) (v := .pointer (some ⟨pb, 0, none⟩)) (some 44) (by kernel_rfl) (by kernel_rfl) (by kernel_rfl) (by kernel_rfl) (by kernel_rfl) (fun _ _ _ h => h) (fun o ho W hSw => ?z51) (by assumption) ?_
  case z51 =>
    cases ho
    simp [execOp, go_sem, Act.eval]
  simp only [Act.put, List.setIfInBounds_toArray, List.set_cons_zero, List.set_cons_succ]
  refine hTake (i := 1) (v := .pointer (some ⟨pb, 0, none⟩)) (some 45) (by kernel_rfl) (by kernel_rfl) (by kernel_rfl) (by kernel_rfl) (by kernel_rfl) (fun _ _ _ h => h) (fun o ho W hSw => ?z52) (by assumption) ?_
  case z52 =>
    cases ho
    simp [execOp, go_sem, Act.eval]
  simp only [Act.put, List.setIfInBounds_toArray, List.set_cons_zero, List.set_cons_succ]
  refine hTake (i := 2) (v := .pointer (some ⟨pb, 1, none⟩)) (some 46) (by kernel_rfl) (by kernel_rfl) (by kernel_rfl) (by kernel_rfl) (by kernel_rfl) (fun _ _ _ h => h) (fun o ho W hSw => ?z53) (by assumption) ?_
  case z53 =>
    cases ho
    simp [execOp, go_sem, Act.eval]
  simp only [Act.put, List.setIfInBounds_toArray, List.set_cons_zero, List.set_cons_succ]
  refine hTake (i := 3) (v := .slice s.2.2.1.1 E.length s.2.2.1.2) (some 47) (by kernel_rfl) (by kernel_rfl) (by kernel_rfl) (by kernel_rfl) (by kernel_rfl) (fun _ _ _ h => h) (fun o ho W hSw => ?z54) (by assumption) ?_
  case z54 =>
    cases ho
    obtain ⟨t0, t1⟩ := hSw
    simp [execOp, go_sem, Act.eval, t1]
  simp only [Act.put, List.setIfInBounds_toArray, List.set_cons_zero, List.set_cons_succ]
  refine hTake (i := 4) (v := .pointer (some ⟨W.heap.size + 1, 1, none⟩)) (some 48) (by kernel_rfl) (by kernel_rfl) (by kernel_rfl) (by kernel_rfl) (by kernel_rfl) (fun _ _ _ h => h) (fun o ho W hSw => ?z55) (by assumption) ?_
  case z55 =>
    cases ho
    simp [execOp, go_sem, Act.eval]
  simp only [Act.put, List.setIfInBounds_toArray, List.set_cons_zero, List.set_cons_succ]
  refine hTake (i := 5) (v := .int .i64 x) (some 49) (by kernel_rfl) (by kernel_rfl) (by kernel_rfl) (by kernel_rfl) (by kernel_rfl) (fun _ _ _ h => h) (fun o ho W hSw => ?z56) (by assumption) ?_
  case z56 =>
    cases ho
    obtain ⟨t0, t1⟩ := hSw
    simp [execOp, go_sem, Act.eval, t0]
  simp only [Act.put, List.setIfInBounds_toArray, List.set_cons_zero, List.set_cons_succ]
  refine hCallE (i := 6) (f := 107) (args := #[.slice s.2.2.1.1 E.length s.2.2.1.2, .int .i64 x]) (some 50) (by kernel_rfl) (by kernel_rfl) (by kernel_rfl) (fun o ho => ?c6) HFD ?k6 (fun ch w' hh => by cases hh.1) (fun w' hh => by cases hh.1)
  case c6 =>
    cases ho
    simp [execOp, go_sem, Act.eval]
  rintro u w3 ⟨hu, rfl⟩
  obtain rfl := Ending.returned.inj hu
  clear hu HFD
  refine ⟨⟨n1, m3⟩, ?_⟩
  simp only [Act.put, List.setIfInBounds_toArray, List.set_cons_zero, List.set_cons_succ]
  refine hTake (i := 7) (v := .int .i64 (-1)) (some 10) (by kernel_rfl) (by kernel_rfl) (by kernel_rfl) (by kernel_rfl) (by kernel_rfl) (fun _ _ _ h => h) (fun o ho W hSw => ?z57) (by assumption) ?_
  case z57 =>
    cases ho
    simp [execOp, go_sem, Act.eval]
  simp only [Act.put, List.setIfInBounds_toArray, List.set_cons_zero, List.set_cons_succ]
  refine wpAnyH_done (by kernel_rfl) ?_ _
  change Exit.then _ _ _ _ _
  clear hHeld
  have hneg : ¬ ((0 : Int) ≤ -1) := by decide
  have HN1 : Hid _ := HNW.out W1.drew.drew (HPM.out.below ((Below.refl _ _).drew.drew))
  clear n0 n1 n2 n3 m0 m1 m2 m3 m4 m5 hfi HNW
  go_wp2_with fail
  refine Calls.mono HN1.out ?_
  rintro e w4 ⟨rfl, s4, hpm4, hfr4⟩
  have hz1 : W1.drew.drew.heap.size = W.heap.size + 1 + 1 := HZ1.out
  have HPD : Hid (PMo V h pb base (X ++ [(0, (nX : Int), [])]) tr E s4 w4) := hpm4
  have HFD1 : Hid (FrT h pb s s4 W w4) := ((FrT.of_below HB1.out).trans (FrT.of_below ((Below.refl _ _).drew.drew))).trans hfr4
  obtain ⟨hA9, hk9⟩ := HAS0.out.fr hfr4 (by omega)
  obtain ⟨hA8, hk8⟩ := HAW0.out.fr hfr4 (by omega)
  have HAS : Hid (Aside h pb s4 (W.heap.size + 1)) := hA9
  have HAW : Hid (Aside h pb s4 W.heap.size) := hA8
  have HLW : Hid (W.heap.size < w4.heap.size) := by show _ < _; have := hfr4.1; omega
  have HK8W : Hid (w4.heap[W.heap.size]? = some (.cells #[.int .i64 0, .int .i64 0, .slice none 0 0] 31)) := hk8.trans HK8.out
  obtain ⟨n0, n1, n2, n3⟩ := Box3.of_block (t := 31) (hk9.trans HK9.out)
  obtain ⟨m0, m1, m2, m3, m4, m5⟩ := hpm4.cells
  clear hpm4 hfr4 hA9 hk9 hA8 hk8 hz1 HN1 n0 n2 n3 m0 m1 m2 m4 m5
  go_wp2
  refine wp_region_any (by kernel_rfl) ?_
  refine wpAny_tail (p := 10) (S := fun W' => W'.cell? ⟨W.heap.size + 1, 1, none⟩ = some (.int .i64 x) ∧ W'.cell? ⟨pb, 1, none⟩ = some (.slice s4.2.2.1.1 E.length s4.2.2.1.2)) (by kernel_rfl) 10 _ _ _ rfl (clo_start _ _ _) (by kernel_rfl) (by kernel_rfl) ?_
  change wpAnyH _ _ _ _ _ _ _ _ w4.drew
  have hS0 : w4.drew.cell? ⟨W.heap.size + 1, 1, none⟩ = some (.int .i64 x) ∧ w4.drew.cell? ⟨pb, 1, none⟩ = some (.slice s4.2.2.1.1 E.length s4.2.2.1.2) := ⟨n1, m3⟩
  refine hTake (i := 0) (v := .pointer (some ⟨pb, 0, none⟩)) (some 65) (by kernel_rfl) (by kernel_rfl) (by kernel_rfl) (by kernel_rfl) (by kernel_rfl) (fun _ _ _ h => h) (fun o ho W hSw => ?z58) hS0 ?_
  case z58 =>
    cases ho
    simp [execOp, go_sem, Act.eval]
  simp only [Act.put, List.setIfInBounds_toArray, List.set_cons_zero, List.set_cons_succ]
  refine hTake (i := 1) (v := .pointer (some ⟨pb, 0, none⟩)) (some 66) (by kernel_rfl) (by kernel_rfl) (by kernel_rfl) (by kernel_rfl) (by kernel_rfl) (fun _ _ _ h => h) (fun o ho W hSw => ?z59) hS0 ?_
  case z59 =>
    cases ho
    simp [execOp, go_sem, Act.eval]
  simp only [Act.put, List.setIfInBounds_toArray, List.set_cons_zero, List.set_cons_succ]
  refine hTake (i := 2) (v := .pointer (some ⟨pb, 0, none⟩)) (some 67) (by kernel_rfl) (by kernel_rfl) (by kernel_rfl) (by kernel_rfl) (by kernel_rfl) (fun _ _ _ h => h) (fun o ho W hSw => ?z60) hS0 ?_
  case z60 =>
    cases ho
    simp [execOp, go_sem, Act.eval]
  simp only [Act.put, List.setIfInBounds_toArray, List.set_cons_zero, List.set_cons_succ]
  refine hTake (i := 3) (v := .pointer (some ⟨pb, 1, none⟩)) (some 68) (by kernel_rfl) (by kernel_rfl) (by kernel_rfl) (by kernel_rfl) (by kernel_rfl) (fun _ _ _ h => h) (fun o ho W hSw => ?z61) hS0 ?_
  case z61 =>
    cases ho
    simp [execOp, go_sem, Act.eval]
  simp only [Act.put, List.setIfInBounds_toArray, List.set_cons_zero, List.set_cons_succ]
  refine hTake (i := 4) (v := .slice s4.2.2.1.1 E.length s4.2.2.1.2) (some 69) (by kernel_rfl) (by kernel_rfl) (by kernel_rfl) (by kernel_rfl) (by kernel_rfl) (fun _ _ _ h => h) (fun o ho W hSw => ?z62) hS0 ?_
  case z62 =>
    cases ho
    obtain ⟨t0, t1⟩ := hSw
    simp [execOp, go_sem, Act.eval, t1]
  simp only [Act.put, List.setIfInBounds_toArray, List.set_cons_zero, List.set_cons_succ]
  refine hTake (i := 5) (v := .pointer (some ⟨W.heap.size + 1, 1, none⟩)) (some 70) (by kernel_rfl) (by kernel_rfl) (by kernel_rfl) (by kernel_rfl) (by kernel_rfl) (fun _ _ _ h => h) (fun o ho W hSw => ?z63) hS0 ?_
  case z63 =>
    cases ho
    simp [execOp, go_sem, Act.eval]
  simp only [Act.put, List.setIfInBounds_toArray, List.set_cons_zero, List.set_cons_succ]
  refine hTake (i := 6) (v := .int .i64 x) (some 71) (by kernel_rfl) (by kernel_rfl) (by kernel_rfl) (by kernel_rfl) (by kernel_rfl) (fun _ _ _ h => h) (fun o ho W hSw => ?z64) hS0 ?_
  case z64 =>
    cases ho
    obtain ⟨t0, t1⟩ := hSw
    simp [execOp, go_sem, Act.eval, t0]
  simp only [Act.put, List.setIfInBounds_toArray, List.set_cons_zero, List.set_cons_succ]
  have hbA : Below w4.heap.size w4 (w4.drew.alloc (.cells #[.int .i64 x] 3)) := (Below.refl _ _).drew.alloc (by simp) _
  have hlt2 : W.heap.size + 1 < w4.heap.size ∧ pb < w4.heap.size := ⟨World.block_lt_of_cell? _ _ n1, World.block_lt_of_cell? _ _ m3⟩
  refine hStep (i := 7) (v := .slice (some ⟨w4.heap.size, 0, none⟩) 1 1) (w' := w4.drew.alloc (.cells #[.int .i64 x] 3)) (some 72) (by kernel_rfl) (by kernel_rfl) (by kernel_rfl) (fun o ho => ?ya) ⟨(hbA.cell (p := ⟨W.heap.size + 1, 1, none⟩) hlt2.1).trans n1, (hbA.cell (p := ⟨pb, 1, none⟩) hlt2.2).trans m3⟩ ?_
  case ya =>
    cases ho
    simp [execOp, go_sem, Act.eval]
  simp only [Act.put, List.setIfInBounds_toArray, List.set_cons_zero, List.set_cons_succ]
  have kn : (w4.drew.alloc (.cells #[.int .i64 x] 3)).cell? ⟨w4.heap.size, 0, none⟩ = some (.int .i64 x) := by
    have kk := heap_alloc_new w4.drew (.cells #[.int .i64 x] 3)
    have e : w4.drew.heap.size = w4.heap.size := rfl
    rw [e] at kk
    unfold World.cell?
    rw [kk]; rfl
  have hza : w4.heap.size < (w4.drew.alloc (.cells #[.int .i64 x] 3)).heap.size := by simp
  generalize w4.drew.alloc (.cells #[.int .i64 x] 3) = Wa at hbA kn hza ⊢
  have Ha : PMo V h pb base (X ++ [(0, (nX : Int), [])]) tr E s4 Wa := HPD.out.below hbA
  obtain ⟨g5, cap5, w5, hr5, ho5, hg5, hat5⟩ := app_intN Wa 23 V.heap.size s4.2.2.1.1 E.length s4.2.2.1.2 w4.heap.size (E.map Prod.fst) x (by omega) Ha.2.2.2.2.2.2.1.2.2.size Ha.2.2.2.2.1 kn
  have hp5 : w5.heap[pb]? = Wa.heap[pb]? := hg5.block pb Ha.lt.2 (fun e => (Ha.blocks.2.2.1 pb ((bl_of _ _).symm.trans e.symm)).2.1 rfl)
  have h95 : w5.heap[W.heap.size + 1]? = Wa.heap[W.heap.size + 1]? := hg5.block _ (by have := hbA.size; omega) (fun e => by
    have hA9 := (HAS.out).2.2.2.2.1
    exact hA9 ((bl_of _ _).symm.trans e.symm))
  have hS5 : w5.cell? ⟨W.heap.size + 1, 1, none⟩ = some (.int .i64 x) ∧ w5.cell? ⟨pb, 1, none⟩ = some (.slice s4.2.2.1.1 E.length s4.2.2.1.2) := ⟨by rw [World.cell?_of_block (a := ⟨W.heap.size + 1, 1, none⟩) h95]; exact (hbA.cell (p := ⟨W.heap.size + 1, 1, none⟩) hlt2.1).trans n1, by rw [World.cell?_of_block (a := ⟨pb, 1, none⟩) hp5]; exact (hbA.cell (p := ⟨pb, 1, none⟩) hlt2.2).trans m3⟩
  refine hStep (i := 8) (v := .slice (some ⟨g5, 0, none⟩) (E.length + 1) cap5) (w' := w5) (some 73) (by kernel_rfl) (by kernel_rfl) (by kernel_rfl) (fun o ho => ?yb) hS5 ?_
  case yb =>
    cases ho
    exact exec_appM rfl rfl rfl hr5
  simp only [Act.put, List.setIfInBounds_toArray, List.set_cons_zero, List.set_cons_succ]
  refine hTake (i := 9) (v := .pointer (some ⟨pb, 0, none⟩)) (some 74) (by kernel_rfl) (by kernel_rfl) (by kernel_rfl) (by kernel_rfl) (by kernel_rfl) (fun _ _ _ h => h) (fun o ho W hSw => ?z65) hS5 ?_
  case z65 =>
    cases ho
    simp [execOp, go_sem, Act.eval]
  simp only [Act.put, List.setIfInBounds_toArray, List.set_cons_zero, List.set_cons_succ]
  refine wpAnyH_done (by kernel_rfl) ?_ _
  have f5 : w5.frozen? ⟨pb, 1, none⟩ = false := by rw [World.frozen?_of_block (a := ⟨pb, 1, none⟩) hp5]; exact Ha.cells.2.2.2.2.2 1
  obtain ⟨W2, eW2⟩ : ∃ W2, W2 = w5.setCell ⟨pb, 1, none⟩ (.slice (some ⟨g5, 0, none⟩) (E.length + 1) cap5) := ⟨_, rfl⟩
  refine tail_storeM (some 75) (by rfl) (by rfl) (by rfl) (v := .pointer (some ⟨pb, 1, none⟩)) ?_ (by rfl) (by rfl) (by rfl) (w' := w5.setCell ⟨pb, 1, none⟩ (.slice (some ⟨g5, 0, none⟩) (E.length + 1) cap5)) ?_ ?_
  · simp [execOp, go_sem, Act.eval]
  · simp [execOp, go_sem, Act.eval, Act.put, hS5.2, f5]
  simp only [Act.put, List.setIfInBounds_toArray, List.set_cons_zero, List.set_cons_succ]
  rw [← eW2]
  obtain ⟨ho2, c22, f22, hV2, hlp2⟩ := Ha.midN hg5 _ eW2
  have hb3 : Below W2.heap.size W2 (W2.alloc (.cells #[.int .i64 (nX : Nat)] 3)) := alloc_on _ _
  have kn3 : (W2.alloc (.cells #[.int .i64 (nX : Nat)] 3)).cell? ⟨W2.heap.size, 0, none⟩ = some (.int .i64 (nX : Nat)) := by
    unfold World.cell?
    rw [heap_alloc_new W2 (.cells #[.int .i64 (nX : Nat)] 3)]; rfl
  obtain ⟨g6, cap6, w6, hr6, ho6, hg6, hat6⟩ := app_intN (W2.alloc (.cells #[.int .i64 (nX : Nat)] 3)) 23 V.heap.size s4.2.2.2.1 E.length s4.2.2.2.2 W2.heap.size (E.map Prod.snd) (nX : Nat) (by omega) (by have := hb3.size; omega) (ho2.below hb3) kn3
  obtain ⟨q1, q2⟩ := Ha.growN ho5 hg5 hat5 eW2 hb3 ho6 hg6 hat6
  have hp6 : w6.cell? ⟨pb, 2, none⟩ = some (.slice s4.2.2.2.1 E.length s4.2.2.2.2) ∧ w6.frozen? ⟨pb, 2, none⟩ = false := by
    have hbk : w6.heap[pb]? = W2.heap[pb]? := (hg6.block pb (by have := hb3.size; omega) (fun e => (Ha.blocks.2.2.2 pb ((bl_of _ _).symm.trans e.symm)).2.1 rfl)).trans (hb3.block pb hlp2)
    exact ⟨by rw [World.cell?_of_block (a := ⟨pb, 2, none⟩) hbk]; exact c22, by rw [World.frozen?_of_block (a := ⟨pb, 2, none⟩) hbk]; exact f22⟩
  obtain ⟨c6, f6⟩ := hp6
  have HQ7 : Hid (∃ s', PMo V h pb base (X ++ [(0, (nX : Int), [])]) tr (E ++ [(x, ((nX : Nat) : Int))]) s' (w6.setCell ⟨pb, 2, none⟩ (.slice (some ⟨g6, 0, none⟩) (E.length + 1) cap6)) ∧ FrT h pb s4 s' Wa (w6.setCell ⟨pb, 2, none⟩ (.slice (some ⟨g6, 0, none⟩) (E.length + 1) cap6))) := ⟨_, q1, q2⟩
  have HBA : Hid (Below w4.heap.size w4 Wa) := hbA
  clear hS0 hS5 hr5 ho5 hg5 hat5 f5 hp5 h95 eW2 ho2 f22 hV2 hlp2 hb3 kn3 ho6 hg6 hat6 q1 q2 Ha kn hbA hza
  go_wp2_with (at_builtin; refine wpList_app_run rfl _ _ _ _ rfl _ _ _ _ _ rfl rfl hr6 ?_)
  generalize w6.setCell ⟨pb, 2, none⟩ (.slice (some ⟨g6, 0, none⟩) (E.length + 1) cap6) = W7 at HQ7 ⊢
  obtain ⟨s7, hpm7, hfr7⟩ := HQ7.out
  refine (HRF.out (nX : Nat) W7).mono ?_
  rintro e w8 ⟨rfl, hb8⟩
  obtain ⟨hA7, hk7⟩ := HAW.out.fr hfr7 (by have := HBA.out.size; have := HLW.out; omega)
  have hl7 : W.heap.size < W7.heap.size := by have := hfr7.1; have := HBA.out.size; have := HLW.out; omega
  have hk8 : w8.heap[W.heap.size]? = some (.cells #[.int .i64 0, .int .i64 0, .slice none 0 0] 31) := (hb8.block W.heap.size hl7).trans (hk7.trans ((HBA.out.block W.heap.size HLW.out).trans HK8W.out))
  have HX : Hid _ := (Box3.of_block (t := 31) hk8).put (.int .i64 0) (.int .i64 (nX : Nat)) (.slice none 0 0)
  obtain ⟨b0, b1, b2, b3⟩ := Box3.of_block (t := 31) hk8
  have hVs : V.heap.size ≤ W.heap.size := HVW.out
  have HBF : Hid (RR (.returned (.agg #[.int .i64 0, .int .i64 (nX : Nat), .slice none 0 0])) (((w8.setCell ⟨W.heap.size, 0, none⟩ (.int .i64 0)).setCell ⟨W.heap.size, 1, none⟩ (.int .i64 (nX : Nat))).setCell ⟨W.heap.size, 2, none⟩ (.slice none 0 0))) :=
    HQ.out _ s7 ((((hpm7.below hb8).aside (a := ⟨W.heap.size, 0, none⟩) hA7 hVs _).aside (a := ⟨W.heap.size, 1, none⟩) hA7 hVs _).aside (a := ⟨W.heap.size, 2, none⟩) hA7 hVs _) ((((HFD1.out.trans ((FrT.of_below HBA.out).trans (hfr7.trans (FrT.of_below hb8)))).set (a := ⟨W.heap.size, 0, none⟩) (Nat.le_refl _) _).set (a := ⟨W.heap.size, 1, none⟩) (Nat.le_refl _) _).set (a := ⟨W.heap.size, 2, none⟩) (Nat.le_refl _) _)
  clear hpm7 hfr7 hb8 hA7 hk7 hk8
  go_wp2
  obtain ⟨e0, e1, e2, _⟩ := HX.out
  exact bodyPost_ret (v := .agg #[.int .i64 0, .int .i64 (nX : Nat), .slice none 0 0]) (by simp [results, Try.results95, go_sem, e0, e1, e2]) rfl HBF.out

end Go.Proofs.Ytedkkghekboahaa

namespace Go.Proofs.Ytedkkghekboahaa
open Go Go.RowKit
set_option linter.unusedVariables false

theorem infoCells : (Try.prog.info? 34).map (fun i => (i.zero, i.size, i.bytes)) = some (some (.slice none 0 0), 1, 24) := by kernel_rfl
/-- An item: where it lies, its capacity, the blocks from .. to. -/
abbrev It := Option Addr × Nat × Nat × Nat
def It.zero : It := (none, 0, 0, 0)
theorem ds_append_at (ds : List It) (r : It) (i : Nat) (h : i ≤ ds.length) : (ds ++ [r]).getD i It.zero = if i = ds.length then r else ds.getD i It.zero := by
  by_cases e : i = ds.length
  · subst e; simp [List.getD]
  · rw [if_neg e, List.getD, List.getD, List.getElem?_append_left (by omega)]
/-- How much there is in all. -/
def tll : List (List Cel) → Nat
  | [] => 0
  | c :: r => c.length + tl c + tll r
theorem tll_at : ∀ (css : List (List Cel)) (i : Nat), i < css.length → (css.getD i []).length + tl (css.getD i []) ≤ tll css
  | [], i, h => by simp at h
  | c :: r, 0, _ => by simp [tll]
  | c :: r, i + 1, h => by have := tll_at r i (by simpa using h); simp only [tll, List.getD_cons_succ]; omega
theorem endC_eq (k : Int) (cs : List Cel) : endC k cs = k + 2 * cs.length + tl cs := by simp [endC, kAt]
theorem tll_take : ∀ (css : List (List Cel)) (k : Nat), k < css.length → tll (css.take (k + 1)) = tll (css.take k) + ((css.getD k []).length + tl (css.getD k []))
  | [], k, h => by simp at h
  | c :: r, 0, _ => by simp [tll]
  | c :: r, k + 1, h => by
    have := tll_take r k (by simpa using h)
    simp only [List.take_succ_cons, tll, this]
    simp; omega
theorem tll_take_le : ∀ (css : List (List Cel)) (k : Nat), tll (css.take k) ≤ tll css
  | [], k => by simp [tll]
  | c :: r, 0 => by simp [tll]
  | c :: r, k + 1 => by have := tll_take_le r k; simp only [List.take_succ_cons, tll]; omega

end Go.Proofs.Ytedkkghekboahaa

