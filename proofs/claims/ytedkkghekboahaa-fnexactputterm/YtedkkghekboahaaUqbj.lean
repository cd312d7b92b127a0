/- Texts of PtK, PtV, PtX0. Own work of the verifier. -/
import Derived.Test.YtedkkghekboahaaUqbi
import Derived.Test.YtedkkghekboahaaUqbd
import Derived.Test.YtedkkghekboahaaUqai
import Derived.Test.YtedkkghekboahaaUqaw
import Derived.Test.YtedkkghekboahaaUqan
import Derived.Test.YtedkkghekboahaaUqat
namespace Go.Proofs.Ytedkkghekboahaa
open Go Go.RowKit Go.Maps
set_option linter.unusedVariables false

set_option maxHeartbeats 8000000 in
set_option maxRecDepth 100000 in
theorem tm_comp (V : World) (h pb : Nat) (base : Int) (tr : List Int) (t : List Int) (k : Fo) (q : Option Addr) (m cap : Nat) (sl : Int) (X : List Cel) (E : PSt) (s : Sl8) (W : World) (hok : (Fo.node (3, (k.count : Int), t) k .nil).ok) (hm : m = 1 + k.cells.length) (hm2 : m ≤ 2000) (hcap : m ≤ cap) (hcm : cap ≤ 1000000000) (hin : CIn V q ((3, (k.count : Int), t) :: k.cells)) (hX : X.length + 2 * (1 + k.cells.length) ≤ 1000000) (hE : E.length + (1 + k.cells.length) ≤ 20000)
    (IH : TermM V h pb base tr k.cells.length) (H : PMo V h pb base X tr E s W) :
    Calls Try.prog 95 #[.pointer (some ⟨h, 0, none⟩), .pointer (some ⟨pb, 0, none⟩), .slice q m cap, .int .i64 sl] W (TmOut V h pb base X tr s W ((4, (X.length : Int), []), (3, (k.count : Int), t) :: ((putL base k (X.length + 1) (X.length + 1 + k.count) E).1 ++ (putL base k (X.length + 1) (X.length + 1 + k.count) E).2.1), (putL base k (X.length + 1) (X.length + 1 + k.count) E).2.2)) := by
  have hVW : Below V.heap.size V W := H.2.2.2.2.2.2.1.2.2
  have HVW : Hid (V.heap.size ≤ W.heap.size) := hVW.size
  obtain ⟨b, o, rfl, hcs⟩ := hin (by simp)
  obtain ⟨tp, tc, d0, d1, d2, ht⟩ := hcs 0 (by simp)
  simp only [List.getD_cons_zero, Nat.zero_mul, Nat.add_zero] at d0 d1 d2 ht
  have hcl := Fo.count_le k
  have HLA : Hid (∀ w, Below V.heap.size V w → Calls Try.prog 109 #[.slice (some ⟨b, o, none⟩) m cap] w (ArgsOutU V w k)) := fun w hw => l2argsU_any (3, (k.count : Int), t) k (some ⟨b, o, none⟩) m cap V w hw rfl hok (by rw [hm]; simp; omega) hm2 hcap hcm hin
  have HBT : Hid (BIn V tp t) := ht
  have d0 := (hVW.cell (World.block_lt_of_cell? _ _ d0)).trans d0
  have d1 := (hVW.cell (World.block_lt_of_cell? _ _ d1)).trans d1
  have d2 := (hVW.cell (World.block_lt_of_cell? _ _ d2)).trans d2
  obtain ⟨tl, etl⟩ : ∃ tl, tl = t.length := ⟨_, rfl⟩
  have HTL : Hid (tl = t.length) := etl
  obtain ⟨nk, enk⟩ : ∃ nk, nk = k.count := ⟨_, rfl⟩
  have HNK : Hid (nk = k.count) := enk
  obtain ⟨n0, en0⟩ : ∃ n0, n0 = X.length := ⟨_, rfl⟩
  have HN0 : Hid (n0 = X.length) := en0
  rw [← etl] at d2
  have hok3 := hok.2.2.2.2.1
  rw [← enk] at d1 hcl
  rw [← en0] at hX
  obtain ⟨W1, eW1⟩ : ∃ W1, W1 = (W.alloc (.cells #[.int .i64 0, .int .i64 0, .slice none 0 0] 31)).alloc (.cells #[.int .i64 3, .int .i64 (nk : Nat), .slice tp tl tc] 31) := ⟨_, rfl⟩
  have hb1 : Below W.heap.size W W1 := by rw [eW1]; exact ((Below.refl _ _).alloc (Nat.le_refl _) _).alloc (by simp) _
  have k8 : W1.heap[W.heap.size]? = some (.cells #[.int .i64 0, .int .i64 0, .slice none 0 0] 31) := by rw [eW1, Below.heap_alloc _ _ _ (by simp)]; exact heap_alloc_new _ _
  have k9 : W1.heap[W.heap.size + 1]? = some (.cells #[.int .i64 3, .int .i64 (nk : Nat), .slice tp tl tc] 31) := by
    rw [eW1]
    have := heap_alloc_new (W.alloc (.cells #[.int .i64 0, .int .i64 0, .slice none 0 0] 31)) (.cells #[.int .i64 3, .int .i64 (nk : Nat), .slice tp tl tc] 31)
    simpa using this
  have HPM : Hid (PMo V h pb base X tr E s W1) := H.below hb1
  have HB1 : Hid (Below W.heap.size W W1) := hb1
  have HE1 : Hid _ := eW1
  have hz1 : W1.heap.size = W.heap.size + 1 + 1 := by rw [eW1]; simp
  have HZ1 : Hid _ := hz1
  have HK8 : Hid (W1.heap[W.heap.size]? = some (.cells #[.int .i64 0, .int .i64 0, .slice none 0 0] 31)) := k8
  have HK9 : Hid (W1.heap[W.heap.size + 1]? = some (.cells #[.int .i64 3, .int .i64 (nk : Nat), .slice tp tl tc] 31)) := k9
  have HA8 : Hid (Aside h pb s W.heap.size) := H.new (Nat.le_refl _)
  have HA9 : Hid (Aside h pb s (W.heap.size + 1)) := H.new (by omega)
  obtain ⟨m0, m1, _⟩ := HPM.out.cells
  rw [← en0] at m0
  obtain ⟨u0, u1, u2, u3⟩ := Box3.of_block (t := 31) k9
  have hbb : b < W.heap.size := World.block_lt_of_cell? _ _ d0
  obtain ⟨hlh, hlp⟩ := H.lt
  have HLH : Hid (h < W.heap.size ∧ pb < W.heap.size) := ⟨hlh, hlp⟩
  have HIH : Hid (TermM V h pb base tr k.cells.length) := IH
  have HKO : Hid k.ok := hok3
  have HBD : Hid (n0 + 2 * (1 + k.cells.length) ≤ 1000000 ∧ E.length + (1 + k.cells.length) ≤ 20000 ∧ nk ≤ k.cells.length ∧ 1 + k.cells.length ≤ 2000) := ⟨hX, hE, hcl, by omega⟩
  have hnk20 : nk ≤ 2000 := by omega
  have hn0b : n0 ≤ 1000000 := by omega
  have hm0 : 0 < m := by omega
  have HQ : Hid (∀ W' s', PMo V h pb base (midM X (3, (nk : Int), t) nk nk (putL base k (n0 + 1) (n0 + 1 + nk) E)) tr (putL base k (n0 + 1) (n0 + 1 + nk) E).2.2 s' W' → FrT h pb s s' W W' → TmOut V h pb base X tr s W ((4, (X.length : Int), []), (3, (k.count : Int), t) :: ((putL base k (X.length + 1) (X.length + 1 + k.count) E).1 ++ (putL base k (X.length + 1) (X.length + 1 + k.count) E).2.1), (putL base k (X.length + 1) (X.length + 1 + k.count) E).2.2) (.returned (.agg #[.int .i64 4, .int .i64 (n0 : Nat), .slice none 0 0])) W') := fun W' s' hp hf => by
    rw [enk, en0] at hp
    refine ⟨none, 0, by rw [en0]; rfl, bin_nil V, s', ?_, hf⟩
    have e : midM X (3, (k.count : Int), t) k.count k.count (putL base k (X.length + 1) (X.length + 1 + k.count) E) = X ++ (3, (k.count : Int), t) :: ((putL base k (X.length + 1) (X.length + 1 + k.count) E).1 ++ (putL base k (X.length + 1) (X.length + 1 + k.count) E).2.1) := by simp [midM, selfL]
    rw [← e]; exact hp
  generalize TmOut V h pb base X tr s W ((4, (X.length : Int), []), (3, (k.count : Int), t) :: ((putL base k (X.length + 1) (X.length + 1 + k.count) E).1 ++ (putL base k (X.length + 1) (X.length + 1 + k.count) E).2.1), (putL base k (X.length + 1) (X.length + 1 + k.count) E).2.2) = RR at HQ ⊢
  have HHV : Hid (Below V.heap.size V W) := hVW
  clear H hb1 k8 k9 eW1 hz1 hin hcs ht hok hok3 IH hm hX hE hcl etl enk en0 hVW
  have m0' := m0
  rw [HE1.out] at m0'
  go_enter Try.func95, Try.ntmps95
  go_wp2
  rw [← HE1.out]
  clear m0' d0 d1 d2
  refine wp_region_any (by kernel_rfl) ?_
  refine wpAny_tail (p := 13) (S := fun W' => W'.cell? ⟨h, 0, none⟩ = some (.slice s.1.1 n0 s.1.2) ∧ W'.cell? ⟨W.heap.size + 1, 1, none⟩ = some (.int .i64 (nk : Nat)) ∧ W'.cell? ⟨W.heap.size + 1, 2, none⟩ = some (.slice tp tl tc)) (by kernel_rfl) 13 _ _ _ rfl (clo_start _ _ _) (by kernel_rfl) (by kernel_rfl) ?_
  change wpAnyH _ _ _ _ _ _ _ _ W1.drew
  have hS0 : W1.drew.cell? ⟨h, 0, none⟩ = some (.slice s.1.1 n0 s.1.2) ∧ W1.drew.cell? ⟨W.heap.size + 1, 1, none⟩ = some (.int .i64 (nk : Nat)) ∧ W1.drew.cell? ⟨W.heap.size + 1, 2, none⟩ = some (.slice tp tl tc) := ⟨m0, u1, u2⟩
  refine hTake (i := 0) (v := .pointer (some ⟨h, 0, none⟩)) (some 93) (by kernel_rfl) (by kernel_rfl) (by kernel_rfl) (by kernel_rfl) (by kernel_rfl) (fun _ _ _ h => h) (fun o ho W hSw => ?z1) hS0 ?_
  case z1 =>
    cases ho
    simp [execOp, go_sem, Act.eval]
  simp only [Act.put, List.setIfInBounds_toArray, List.set_cons_zero, List.set_cons_succ]
  refine hTake (i := 1) (v := .pointer (some ⟨h, 0, none⟩)) (some 94) (by kernel_rfl) (by kernel_rfl) (by kernel_rfl) (by kernel_rfl) (by kernel_rfl) (fun _ _ _ h => h) (fun o ho W hSw => ?z2) hS0 ?_
  case z2 =>
    cases ho
    simp [execOp, go_sem, Act.eval]
  simp only [Act.put, List.setIfInBounds_toArray, List.set_cons_zero, List.set_cons_succ]
  refine hTake (i := 2) (v := .pointer (some ⟨h, 0, none⟩)) (some 95) (by kernel_rfl) (by kernel_rfl) (by kernel_rfl) (by kernel_rfl) (by kernel_rfl) (fun _ _ _ h => h) (fun o ho W hSw => ?z3) hS0 ?_
  case z3 =>
    cases ho
    simp [execOp, go_sem, Act.eval]
  simp only [Act.put, List.setIfInBounds_toArray, List.set_cons_zero, List.set_cons_succ]
  refine hTake (i := 3) (v := .pointer (some ⟨h, 0, none⟩)) (some 96) (by kernel_rfl) (by kernel_rfl) (by kernel_rfl) (by kernel_rfl) (by kernel_rfl) (fun _ _ _ h => h) (fun o ho W hSw => ?z4) hS0 ?_
  case z4 =>
    cases ho
    simp [execOp, go_sem, Act.eval]
  simp only [Act.put, List.setIfInBounds_toArray, List.set_cons_zero, List.set_cons_succ]
  refine hTake (i := 4) (v := .slice s.1.1 n0 s.1.2) (some 97) (by kernel_rfl) (by kernel_rfl) (by kernel_rfl) (by kernel_rfl) (by kernel_rfl) (fun _ _ _ h => h) (fun o ho W hSw => ?z5) hS0 ?_
  case z5 =>
    cases ho
    obtain ⟨t0, t1, t2⟩ := hSw
    simp [execOp, go_sem, Act.eval, t0]
  simp only [Act.put, List.setIfInBounds_toArray, List.set_cons_zero, List.set_cons_succ]
  refine hTake (i := 5) (v := .pointer (some ⟨W.heap.size + 1, 1, none⟩)) (some 98) (by kernel_rfl) (by kernel_rfl) (by kernel_rfl) (by kernel_rfl) (by kernel_rfl) (fun _ _ _ h => h) (fun o ho W hSw => ?z6) hS0 ?_
  case z6 =>
    cases ho
    simp [execOp, go_sem, Act.eval]
  simp only [Act.put, List.setIfInBounds_toArray, List.set_cons_zero, List.set_cons_succ]
  refine hTake (i := 6) (v := .int .i64 (nk : Nat)) (some 99) (by kernel_rfl) (by kernel_rfl) (by kernel_rfl) (by kernel_rfl) (by kernel_rfl) (fun _ _ _ h => h) (fun o ho W hSw => ?z7) hS0 ?_
  case z7 =>
    cases ho
    obtain ⟨t0, t1, t2⟩ := hSw
    simp [execOp, go_sem, Act.eval, t1]
  simp only [Act.put, List.setIfInBounds_toArray, List.set_cons_zero, List.set_cons_succ]
  refine hTake (i := 7) (v := .pointer (some ⟨W.heap.size + 1, 2, none⟩)) (some 100) (by kernel_rfl) (by kernel_rfl) (by kernel_rfl) (by kernel_rfl) (by kernel_rfl) (fun _ _ _ h => h) (fun o ho W hSw => ?z8) hS0 ?_
  case z8 =>
    cases ho
    simp [execOp, go_sem, Act.eval]
  simp only [Act.put, List.setIfInBounds_toArray, List.set_cons_zero, List.set_cons_succ]
  refine hTake (i := 8) (v := .slice tp tl tc) (some 101) (by kernel_rfl) (by kernel_rfl) (by kernel_rfl) (by kernel_rfl) (by kernel_rfl) (fun _ _ _ h => h) (fun o ho W hSw => ?z9) hS0 ?_
  case z9 =>
    cases ho
    obtain ⟨t0, t1, t2⟩ := hSw
    simp [execOp, go_sem, Act.eval, t2]
  simp only [Act.put, List.setIfInBounds_toArray, List.set_cons_zero, List.set_cons_succ]
  refine hTake (i := 9) (v := .agg #[.int .i64 3, .int .i64 (nk : Nat), .slice tp tl tc]) (some 102) (by kernel_rfl) (by kernel_rfl) (by kernel_rfl) (by kernel_rfl) (by kernel_rfl) (fun _ _ _ h => h) (fun o ho W hSw => ?z10) hS0 ?_
  case z10 =>
    cases ho
    simp [execOp, go_sem, Act.eval]
  simp only [Act.put, List.setIfInBounds_toArray, List.set_cons_zero, List.set_cons_succ]
  have hlt2 : W.heap.size + 1 < W1.heap.size ∧ h < W1.heap.size := ⟨World.block_lt_of_cell? _ _ u1, World.block_lt_of_cell? _ _ m0⟩
  have hbA : Below W1.heap.size W1 (W1.drew.alloc (.cells #[.int .i64 3, .int .i64 (nk : Nat), .slice tp tl tc] 31)) := (Below.refl _ _).drew.alloc (by simp) _
  refine hStep (i := 10) (v := .slice (some ⟨W1.heap.size, 0, none⟩) 1 1) (w' := W1.drew.alloc (.cells #[.int .i64 3, .int .i64 (nk : Nat), .slice tp tl tc] 31)) (some 103) (by kernel_rfl) (by kernel_rfl) (by kernel_rfl) (fun o ho => ?ya) ⟨(hbA.cell (p := ⟨h, 0, none⟩) hlt2.2).trans m0, (hbA.cell (p := ⟨W.heap.size + 1, 1, none⟩) hlt2.1).trans u1, (hbA.cell (p := ⟨W.heap.size + 1, 2, none⟩) hlt2.1).trans u2⟩ ?_
  case ya =>
    cases ho
    simp [execOp, go_sem, Act.eval]
  simp only [Act.put, List.setIfInBounds_toArray, List.set_cons_zero, List.set_cons_succ]
  have hbx : Box3 (W1.drew.alloc (.cells #[.int .i64 3, .int .i64 (nk : Nat), .slice tp tl tc] 31)) W1.heap.size (.int .i64 3) (.int .i64 (nk : Nat)) (.slice tp tl tc) := Box3.of_block (t := 31) (by have kk := heap_alloc_new W1.drew (.cells #[.int .i64 3, .int .i64 (nk : Nat), .slice tp tl tc] 31); exact kk)
  generalize W1.drew.alloc (.cells #[.int .i64 3, .int .i64 (nk : Nat), .slice tp tl tc] 31) = Wa at hbA hbx ⊢
  have Ha : PMo V h pb base X tr E s Wa := HPM.out.below hbA
  have hrow := Ha.2.1
  rw [← HN0.out] at hrow
  obtain ⟨g5, cap5, w5, hr5, hrow5, hg5, hat5⟩ := app_cellM V Wa 34 s.1.1 n0 s.1.2 X hrow Ha.2.2.2.2.2.2.1.2.2.size W1.heap.size (3, ((nk : Nat) : Int), t) tp tc HBT.out (by rw [← HTL.out]; exact hbx) (by omega)
  have hh5 : w5.heap[h]? = Wa.heap[h]? := hg5.block h Ha.lt.1 (fun e => (Ha.blocks.1 h ((bl_of _ _).symm.trans e.symm)).1 rfl)
  have h95 : w5.heap[W.heap.size + 1]? = Wa.heap[W.heap.size + 1]? := hg5.block _ (by have := hbA.size; omega) (fun e => HA9.out.2.2.1 ((bl_of _ _).symm.trans e.symm))
  have hS5 : w5.cell? ⟨h, 0, none⟩ = some (.slice s.1.1 n0 s.1.2) ∧ w5.cell? ⟨W.heap.size + 1, 1, none⟩ = some (.int .i64 (nk : Nat)) ∧ w5.cell? ⟨W.heap.size + 1, 2, none⟩ = some (.slice tp tl tc) := ⟨by rw [World.cell?_of_block (a := ⟨h, 0, none⟩) hh5]; exact (hbA.cell (p := ⟨h, 0, none⟩) hlt2.2).trans m0, by rw [World.cell?_of_block (a := ⟨W.heap.size + 1, 1, none⟩) h95]; exact (hbA.cell (p := ⟨W.heap.size + 1, 1, none⟩) hlt2.1).trans u1, by rw [World.cell?_of_block (a := ⟨W.heap.size + 1, 2, none⟩) h95]; exact (hbA.cell (p := ⟨W.heap.size + 1, 2, none⟩) hlt2.1).trans u2⟩
  refine hStep (i := 11) (v := .slice (some ⟨g5, 0, none⟩) (n0 + 1) cap5) (w' := w5) (some 104) (by kernel_rfl) (by kernel_rfl) (by kernel_rfl) (fun o ho => ?yb) hS5 ?_
  case yb =>
    cases ho
    exact exec_appM rfl rfl rfl hr5
  simp only [Act.put, List.setIfInBounds_toArray, List.set_cons_zero, List.set_cons_succ]
  refine hTake (i := 12) (v := .pointer (some ⟨h, 0, none⟩)) (some 105) (by kernel_rfl) (by kernel_rfl) (by kernel_rfl) (by kernel_rfl) (by kernel_rfl) (fun _ _ _ h => h) (fun o ho W hSw => ?z11) hS5 ?_
  case z11 =>
    cases ho
    simp [execOp, go_sem, Act.eval]
  simp only [Act.put, List.setIfInBounds_toArray, List.set_cons_zero, List.set_cons_succ]
  refine wpAnyH_done (by kernel_rfl) ?_ _
  have f5 : w5.frozen? ⟨h, 0, none⟩ = false := by rw [World.frozen?_of_block (a := ⟨h, 0, none⟩) hh5]; exact Ha.cells.2.1
  obtain ⟨q1, q2⟩ := Ha.growC (g := g5) (cap := cap5) (d := (3, ((nk : Nat) : Int), t)) (W' := w5) (by rw [← HN0.out]; exact hrow5) (by rw [← HN0.out]; exact hg5) (by rw [← HN0.out]; exact hat5)
  rw [← HN0.out] at q1 q2
  have HL0 : Hid (∃ s', PMo V h pb base (X ++ ((3, ((nk : Nat) : Int), t) :: selfL (n0 + 1) 0)) tr E s' (w5.setCell ⟨h, 0, none⟩ (.slice (some ⟨g5, 0, none⟩) (n0 + 1) cap5)) ∧ FrT h pb s s' W1 (w5.setCell ⟨h, 0, none⟩ (.slice (some ⟨g5, 0, none⟩) (n0 + 1) cap5))) := ⟨_, q1, (FrT.of_below hbA).trans q2⟩
  refine tail_storeM (some 106) (by rfl) (by rfl) (by rfl) (v := .pointer (some ⟨h, 0, none⟩)) ?_ (by rfl) (by rfl) (by rfl) (w' := w5.setCell ⟨h, 0, none⟩ (.slice (some ⟨g5, 0, none⟩) (n0 + 1) cap5)) ?_ ?_
  · simp [execOp, go_sem, Act.eval]
  · simp [execOp, go_sem, Act.eval, Act.put, hS5.1, f5]
  simp only [Act.put, List.setIfInBounds_toArray, List.set_cons_zero, List.set_cons_succ]
  clear hS5 hr5 hrow5 hg5 hat5 f5 Ha hrow hbA hbx q1 q2 hh5 h95 hlt2 hS0 m0 m1 u0 u1 u2 u3
  generalize w5.setCell ⟨h, 0, none⟩ (.slice (some ⟨g5, 0, none⟩) (n0 + 1) cap5) = W6 at HL0 ⊢
  -- the box of the compound, in every later world
  have H9 : Hid (∀ s' W', FrT h pb s s' W1 W' → W'.cell? ⟨W.heap.size + 1, 1, none⟩ = some (.int .i64 (nk : Nat))) := fun s' W' hf => by
    have hk := (HA9.out.fr hf (by have := HZ1.out; omega)).2.trans HK9.out
    simp [World.cell?, hk]
  go_wp2_with fail
  go_loopw [12] (fun i wr => ∃ (j : Nat), j ≤ nk ∧ i = .int .i64 j ∧ Hid (∃ s', PMo V h pb base (X ++ ((3, ((nk : Nat) : Int), t) :: selfL (n0 + 1) j)) tr E s' wr ∧ FrT h pb s s' W1 wr)) (fun i _ => nk - (intOf i).toNat)
  case atStart => exact ⟨0, Nat.zero_le _, rfl, HL0⟩
  case round =>
    obtain ⟨j, hj, rfl, HR⟩ := hrel
    obtain ⟨sj, hpj, hfj⟩ := HR.out
    have c9 := H9.out sj wr hfj
    by_cases hlt : j < nk
    · have hlen : (X ++ ((3, ((nk : Nat) : Int), t) :: selfL (n0 + 1) j)).length = n0 + 1 + j := by simp [selfL_len, ← HN0.out]; omega
      have HC : Hid _ := l10new_any V h pb base (X ++ ((3, ((nk : Nat) : Int), t) :: selfL (n0 + 1) j)) tr E sj wr (by rw [hlen]; have := HBD.out.1; have := HBD.out.2.2.1; omega) hpj
      have HNX : Hid (∀ s' w', PMo V h pb base (X ++ ((3, ((nk : Nat) : Int), t) :: selfL (n0 + 1) j) ++ [(0, ((X ++ ((3, ((nk : Nat) : Int), t) :: selfL (n0 + 1) j)).length : Int), [])]) tr E s' w' → FrT h pb sj s' wr w' → ∃ s', PMo V h pb base (X ++ ((3, ((nk : Nat) : Int), t) :: selfL (n0 + 1) (j + 1))) tr E s' w' ∧ FrT h pb s s' W1 w') := fun s' w' hp hf => by
        refine ⟨s', ?_, hfj.trans hf⟩
        rw [hlen] at hp
        rw [selfL_snoc]
        simpa using hp
      clear hpj hfj hlen HR
      go_wp2_with fail
      refine Calls.mono HC.out ?_
      rintro e w7 ⟨rfl, s7, hp7, hf7⟩
      have HR7 : Hid _ := HNX.out s7 w7 hp7 hf7
      clear hp7 hf7 HC HNX
      go_wp2_with fail
      go_roundw
      case rel => exact ⟨j + 1, by omega, by go_num, HR7⟩
      case measure => simp [intOf]; omega
    · obtain rfl : j = nk := by omega
      have hVr : Below V.heap.size V wr := hpj.2.2.2.2.2.2.1.2.2
      have HC : Hid _ := HLA.out wr hVr
      have HPR : Hid (PMo V h pb base (X ++ ((3, ((j : Nat) : Int), t) :: selfL (n0 + 1) j)) tr E sj wr) := hpj
      have HFR : Hid (FrT h pb s sj W1 wr) := hfj
      clear hpj hfj hVr HR HLA HL0
      go_wp2_with fail
      refine Calls.mono HC.out ?_
      rintro e wA ⟨qa, ma, mc, rs, rfl, hma, hrowA, hargs, hbA⟩
      obtain rfl : ma = j := hma.trans HNK.out.symm
      have HMA : Hid (ma = k.count) := hma
      have HPA : Hid (PMo V h pb base (midM X (3, ((ma : Nat) : Int), t) ma 0 (putL base .nil (n0 + 1) (n0 + 1 + ma) E)) tr (putL base .nil (n0 + 1) (n0 + 1 + ma) E).2.2 sj wA) := by
        have e : midM X (3, ((ma : Nat) : Int), t) ma 0 (putL base .nil (n0 + 1) (n0 + 1 + ma) E) = X ++ ((3, ((ma : Nat) : Int), t) :: selfL (n0 + 1) ma) := by simp [midM, putL, ← HN0.out]
        show PMo _ _ _ _ _ _ _ _ _
        rw [e]
        exact HPR.out.below hbA
      have HFA : Hid (FrT h pb s sj W1 wA) := HFR.out.trans (FrT.of_below hbA)
      have HARG : Hid (ArgRowU V rs (trs k)) := hargs
      have HRW : Hid (wA.ownsRow wr.heap.size 34 1 (.slice qa ma mc) ma (rs.map slV)) := hrowA
      have HAG : Hid (∀ g, Value.ownBlock (.slice qa ma mc) = some g → Aside h pb sj g ∧ g < wA.heap.size) := fun g hg => ⟨HPR.out.new (hrowA.lt g hg).1, (hrowA.lt g hg).2⟩
      clear hma hrowA hargs hbA HC HPR HFR c9 H9
      go_wp2_with fail
      go_loopw [14] (fun i wx => ∃ (D R : Fo) (i' : Nat), i' ≤ ma ∧ i = .int .i64 i' ∧ Hid (k = D.cat R ∧ D.count = i') ∧ Hid (∃ s', PMo V h pb base (midM X (3, ((ma : Nat) : Int), t) ma i' (putL base D (n0 + 1) (n0 + 1 + ma) E)) tr (putL base D (n0 + 1) (n0 + 1 + ma) E).2.2 s' wx ∧ FrT h pb sj s' wA wx)) (fun i _ => ma - (intOf i).toNat)
      case atStart => exact ⟨.nil, k, 0, Nat.zero_le _, rfl, ⟨rfl, rfl⟩, ⟨sj, HPA.out, FrT.of_below (Below.refl _ _)⟩⟩
      case round =>
        rename_i wz
        obtain ⟨D, R, i', hi, rfl, HD, HR⟩ := hrel
        obtain ⟨si, hpi, hfi⟩ := HR.out
        by_cases hlt2 : i' < ma
        · obtain ⟨c', k', r', rfl⟩ : ∃ c' k' r', R = .node c' k' r' := by
            cases R with
            | nil => have h1 := HD.out; rw [Fo.cat_nil] at h1; have h2 := HNK.out; rw [h1.1] at h2; omega
            | node c' k' r' => exact ⟨c', k', r', rfl⟩
          have hl2 : D.cells.length + (k'.cells.length + r'.cells.length + 1) = k.cells.length := by
            rw [HD.out.1, Fo.cells_cat]; simp [Fo.cells]
          have hcn : k.count = D.count + (1 + r'.count) := by rw [HD.out.1, Fo.count_cat]; simp only [Fo.count]; omega
          have hok2 := (Fo.ok_cat D (.node c' k' r')).1 (HD.out.1 ▸ HKO.out)
          have htr : (trs k)[i']? = some (c', k') := by
            rw [HD.out.1, trs_catM, List.getElem?_append_right (by rw [trs_len, HD.out.2]; exact Nat.le_refl _), trs_len, HD.out.2]
            simp [trs]
          obtain ⟨⟨r1, r2, r3⟩, hr0, hr1, hr2, hr3, hr4⟩ := argRow_at rs (trs k) i' (c', k') HARG.out htr
          simp only at hr1 hr2 hr3 hr4
          obtain ⟨ga, capa, hva, _⟩ := HRW.out.form (by omega)
          simp only [Value.slice.injEq, true_and] at hva
          obtain ⟨rfl, rfl⟩ := hva
          obtain ⟨hAg, hgl⟩ := HAG.out ga rfl
          have hcell : wr.cell? ⟨ga, i', none⟩ = some (.slice r1 r2 r3) := by
            have h1 := HRW.out.cellAt i' (by omega)
            rw [World.cell?_of_block (a := ⟨ga, i', none⟩) (hAg.fr hfi hgl).2, h1, List.getElem?_map, hr0]
            rfl
          have hblk := putL_blk base D (n0 + 1) (n0 + 1 + ma) E
          have hEl := putL_E base D (n0 + 1) (n0 + 1 + ma) E
          have hlenR := putL_len base D (n0 + 1) (n0 + 1 + ma) E
          have hmid := midM_len X (3, ((ma : Nat) : Int), t) ma i' (putL base D (n0 + 1) (n0 + 1 + ma) E) (hlenR.trans HD.out.2) hi
          rw [← HN0.out] at hmid
          have hrc := Fo.count_le r'
          obtain ⟨tt, ett⟩ : ∃ tt : Nat, tt = n0 + 1 + i' := ⟨_, rfl⟩
          have hwr1 : IntKind.i64.wrap ((n0 : Int) + 1) = (n0 : Int) + 1 := by rw [IntKind.wrap_i64]; omega
          have hwr2 : IntKind.i64.wrap ((n0 : Int) + 1 + (i' : Int)) = (tt : Int) := by rw [show (n0 : Int) + 1 + (i' : Int) = tt by omega, IntKind.wrap_i64]; have := HBD.out; omega
          obtain ⟨hq1, hq2, hq3, hq4⟩ := HBD.out
          have hdc := HD.out.2
          have hnk := HNK.out
          have HCALL : Hid _ := HIH.out c' k' r1 r2 r3 tt _ _ si wr (by omega) ⟨hok2.2.1, hok2.2.2.1, hok2.2.2.2.1, hok2.2.2.2.2.1, hok2.2.2.2.2.2.1, trivial⟩ hr1 (by omega) hr2 hr3 hr4 (by rw [hmid]; omega) (by omega) (by omega) hpi
          rw [hmid] at HCALL
          have HSN : Hid (putL base (D.cat (.node c' k' .nil)) (n0 + 1) (n0 + 1 + ma) E = ((putL base D (n0 + 1) (n0 + 1 + ma) E).1 ++ [(put1 base c' k' tt (n0 + 1 + ma + (putL base D (n0 + 1) (n0 + 1 + ma) E).2.1.length) (putL base D (n0 + 1) (n0 + 1 + ma) E).2.2).1], (putL base D (n0 + 1) (n0 + 1 + ma) E).2.1 ++ (put1 base c' k' tt (n0 + 1 + ma + (putL base D (n0 + 1) (n0 + 1 + ma) E).2.1.length) (putL base D (n0 + 1) (n0 + 1 + ma) E).2.2).2.1, (put1 base c' k' tt (n0 + 1 + ma + (putL base D (n0 + 1) (n0 + 1 + ma) E).2.1.length) (putL base D (n0 + 1) (n0 + 1 + ma) E).2.2).2.2)) := by
            show _ = _
            rw [putL_snocM, hdc, ← ett]
          have HLR : Hid ((putL base D (n0 + 1) (n0 + 1 + ma) E).1.length = i') := hlenR.trans hdc
          have HNX : Hid (k = (D.cat (.node c' k' .nil)).cat r' ∧ (D.cat (.node c' k' .nil)).count = i' + 1) := ⟨by rw [Fo.cat_assoc]; exact HD.out.1, by rw [Fo.count_cat, hdc]; simp [Fo.count]⟩
          have htl : tt < n0 + 1 + ma + (putL base D (n0 + 1) (n0 + 1 + ma) E).2.1.length := by omega
          have hLLb : n0 + 1 + ma + (putL base D (n0 + 1) (n0 + 1 + ma) E).2.1.length ≤ 1000000 := by omega
          have HFI : Hid (FrT h pb sj si wA wr) := hfi
          generalize putL base D (n0 + 1) (n0 + 1 + ma) E = RD at HCALL HSN HLR htl hLLb hmid hpi HR
          have HTT : Hid (tt = n0 + 1 + i') := ett
          have htb : tt ≤ 1000000 := by omega
          generalize put1 base c' k' tt (n0 + 1 + ma + RD.2.1.length) RD.2.2 = AA at HCALL HSN
          have HML : Hid ((midM X (3, ((ma : Nat) : Int), t) ma i' RD ++ AA.2.1).length = n0 + 1 + ma + RD.2.1.length + AA.2.1.length) := by show _ = _; rw [List.length_append, hmid]
          clear hok2 hl2 hcn hblk hEl hlenR hmid hrc hdc hnk ett htr hr0 hr1 hr2 hr3 hr4 hq1 hq2 hq3 hq4 hpi hfi hAg hgl HR
          go_wp2_with fail
          refine Calls.mono HCALL.out ?_
          rintro e w7 ⟨tp7, tc7, rfl, hbt7, s7, hp7, hf7⟩
          obtain ⟨⟨a1, a2, at7⟩, ab, aE⟩ := AA
          simp only at hp7 hbt7 HML HSN
          obtain ⟨W8, eW8⟩ : ∃ W8, W8 = w7.alloc (.cells #[.int .i64 a1, .int .i64 a2, .slice tp7 at7.length tc7] 31) := ⟨_, rfl⟩
          have hb78 : Below w7.heap.size w7 W8 := by rw [eW8]; exact alloc_on _ _
          have hb15 : Box3 W8 w7.heap.size (.int .i64 a1) (.int .i64 a2) (.slice tp7 at7.length tc7) := by rw [eW8]; exact Box3.of_block (t := 31) (heap_alloc_new _ _)
          have hp8 := hp7.below hb78
          have HE8 : Hid _ := eW8
          obtain ⟨LL, eLL⟩ : ∃ LL, LL = n0 + 1 + ma + RD.2.1.length + ab.length := ⟨_, rfl⟩
          have htLL : tt < LL := by omega
          obtain ⟨gX, hgX, ⟨v0, v1, v2, x0, x1, x2⟩, hfr8⟩ := hp8.rowAt (a := tt) (by rw [HML.out]; omega)
          have m8 := hp8.cells.1
          rw [HML.out, ← eLL, hgX] at m8
          obtain ⟨qq1, qq2⟩ := hp8.setC hgX (a := tt) (by rw [HML.out]; omega) (a1, a2, at7) tp7 tc7 hbt7
          have HRN : Hid (∃ s', PMo V h pb base (midM X (3, ((ma : Nat) : Int), t) ma (i' + 1) (putL base (D.cat (.node c' k' .nil)) (n0 + 1) (n0 + 1 + ma) E)) tr (putL base (D.cat (.node c' k' .nil)) (n0 + 1) (n0 + 1 + ma) E).2.2 s' (((W8.setCell ⟨gX, tt * 3, none⟩ (.int .i64 a1)).setCell ⟨gX, tt * 3 + 1, none⟩ (.int .i64 a2)).setCell ⟨gX, tt * 3 + 2, none⟩ (.slice tp7 at7.length tc7)) ∧ FrT h pb sj s' wA (((W8.setCell ⟨gX, tt * 3, none⟩ (.int .i64 a1)).setCell ⟨gX, tt * 3 + 1, none⟩ (.int .i64 a2)).setCell ⟨gX, tt * 3 + 2, none⟩ (.slice tp7 at7.length tc7))) := by
            refine ⟨s7, ?_, HFI.out.trans (hf7.trans ((FrT.of_below hb78).trans qq2))⟩
            rw [HSN.out]
            have e := midM_step X (3, ((ma : Nat) : Int), t) ma i' RD ((a1, a2, at7), ab, aE) HLR.out hlt2
            simp only at e
            rw [← HN0.out, ← HTT.out] at e
            rw [← e]
            exact qq1
          generalize at7.length = al at hb15 HRN eW8 HE8
          obtain ⟨y0, y1, y2, y3⟩ := hb15
          clear hp7 hf7 hbt7 hp8 qq1 qq2 hb78 HCALL HSN HLR HML HFI eLL hLLb hcell htl
          rw [eW8] at m8 x0 x1 x2 y0 y1 y2
          clear eW8
          have m8' := m8
          go_wp2_with fail
          rw [← HE8.out]
          rw [← HE8.out] at m8 x0 x1 x2 y0 y1 y2
          clear m8'
          refine wp_region_any (by kernel_rfl) ?_
          refine wpAny_tail (p := 9) (S := fun W' => W'.cell? ⟨h, 0, none⟩ = some (.slice (some ⟨gX, 0, none⟩) LL s7.1.2) ∧ W'.cell? ⟨w7.heap.size, 0, none⟩ = some (.int .i64 a1) ∧ W'.cell? ⟨w7.heap.size, 1, none⟩ = some (.int .i64 a2) ∧ W'.cell? ⟨w7.heap.size, 2, none⟩ = some (.slice tp7 al tc7)) (by kernel_rfl) 9 _ _ _ rfl (clo_start _ _ _) (by kernel_rfl) (by kernel_rfl) ?_
          change wpAnyH _ _ _ _ _ _ _ _ W8.drew
          have hS0 : W8.drew.cell? ⟨h, 0, none⟩ = some (.slice (some ⟨gX, 0, none⟩) LL s7.1.2) ∧ W8.drew.cell? ⟨w7.heap.size, 0, none⟩ = some (.int .i64 a1) ∧ W8.drew.cell? ⟨w7.heap.size, 1, none⟩ = some (.int .i64 a2) ∧ W8.drew.cell? ⟨w7.heap.size, 2, none⟩ = some (.slice tp7 al tc7) := ⟨m8, y0, y1, y2⟩
          refine hTake (i := 0) (v := .pointer (some ⟨h, 0, none⟩)) (some 134) (by kernel_rfl) (by kernel_rfl) (by kernel_rfl) (by kernel_rfl) (by kernel_rfl) (fun _ _ _ h => h) (fun o ho W hSw => ?z12) hS0 ?_
          case z12 =>
            cases ho
            simp [execOp, go_sem, Act.eval]
          simp only [Act.put, List.setIfInBounds_toArray, List.set_cons_zero, List.set_cons_succ]
          refine hTake (i := 1) (v := .pointer (some ⟨h, 0, none⟩)) (some 135) (by kernel_rfl) (by kernel_rfl) (by kernel_rfl) (by kernel_rfl) (by kernel_rfl) (fun _ _ _ h => h) (fun o ho W hSw => ?z13) hS0 ?_
          case z13 =>
            cases ho
            simp [execOp, go_sem, Act.eval]
          simp only [Act.put, List.setIfInBounds_toArray, List.set_cons_zero, List.set_cons_succ]
          refine hTake (i := 2) (v := .pointer (some ⟨h, 0, none⟩)) (some 136) (by kernel_rfl) (by kernel_rfl) (by kernel_rfl) (by kernel_rfl) (by kernel_rfl) (fun _ _ _ h => h) (fun o ho W hSw => ?z14) hS0 ?_
          case z14 =>
            cases ho
            simp [execOp, go_sem, Act.eval]
          simp only [Act.put, List.setIfInBounds_toArray, List.set_cons_zero, List.set_cons_succ]
          refine hTake (i := 3) (v := .slice (some ⟨gX, 0, none⟩) LL s7.1.2) (some 137) (by kernel_rfl) (by kernel_rfl) (by kernel_rfl) (by kernel_rfl) (by kernel_rfl) (fun _ _ _ h => h) (fun o ho W hSw => ?z15) hS0 ?_
          case z15 =>
            cases ho
            obtain ⟨t0, t1, t2, t3⟩ := hSw
            simp [execOp, go_sem, Act.eval, t0]
          simp only [Act.put, List.setIfInBounds_toArray, List.set_cons_zero, List.set_cons_succ]
          refine hTake (i := 4) (v := .int .i64 (n0 : Nat)) (some 138) (by kernel_rfl) (by kernel_rfl) (by kernel_rfl) (by kernel_rfl) (by kernel_rfl) (fun _ _ _ h => h) (fun o ho W hSw => ?z16) hS0 ?_
          case z16 =>
            cases ho
            simp [execOp, go_sem, Act.eval]
          simp only [Act.put, List.setIfInBounds_toArray, List.set_cons_zero, List.set_cons_succ]
          refine hTake (i := 5) (v := .int .i64 ((n0 : Int) + 1)) (some 139) (by kernel_rfl) (by kernel_rfl) (by kernel_rfl) (by kernel_rfl) (by kernel_rfl) (fun _ _ _ h => h) (fun o ho W hSw => ?z17) hS0 ?_
          case z17 =>
            cases ho
            simp [execOp, go_sem, Act.eval, hwr1]
          simp only [Act.put, List.setIfInBounds_toArray, List.set_cons_zero, List.set_cons_succ]
          refine hTake (i := 6) (v := .int .i64 (i' : Nat)) (some 140) (by kernel_rfl) (by kernel_rfl) (by kernel_rfl) (by kernel_rfl) (by kernel_rfl) (fun _ _ _ h => h) (fun o ho W hSw => ?z18) hS0 ?_
          case z18 =>
            cases ho
            simp [execOp, go_sem, Act.eval]
          simp only [Act.put, List.setIfInBounds_toArray, List.set_cons_zero, List.set_cons_succ]
          refine hTake (i := 7) (v := .int .i64 (tt : Nat)) (some 141) (by kernel_rfl) (by kernel_rfl) (by kernel_rfl) (by kernel_rfl) (by kernel_rfl) (fun _ _ _ h => h) (fun o ho W hSw => ?z19) hS0 ?_
          case z19 =>
            cases ho
            simp [execOp, go_sem, Act.eval, hwr2]
          simp only [Act.put, List.setIfInBounds_toArray, List.set_cons_zero, List.set_cons_succ]
          refine hTake (i := 8) (v := .agg #[.int .i64 a1, .int .i64 a2, .slice tp7 al tc7]) (some 142) (by kernel_rfl) (by kernel_rfl) (by kernel_rfl) (by kernel_rfl) (by kernel_rfl) (fun _ _ _ h => h) (fun o ho W hSw => ?z20) hS0 ?_
          case z20 =>
            cases ho
            obtain ⟨t0, t1, t2, t3⟩ := hSw
            simp [execOp, go_sem, Act.eval, t1, t2, t3]
          simp only [Act.put, List.setIfInBounds_toArray, List.set_cons_zero, List.set_cons_succ]
          refine wpAnyH_done (by kernel_rfl) ?_ _
          refine tail_storeM (some 143) (by rfl) (by rfl) (by rfl) (v := .pointer (some ⟨gX, tt * 3, none⟩)) ?_ (by rfl) (by rfl) (by rfl) (w' := ((W8.drew.setCell ⟨gX, tt * 3, none⟩ (.int .i64 a1)).setCell ⟨gX, tt * 3 + 1, none⟩ (.int .i64 a2)).setCell ⟨gX, tt * 3 + 2, none⟩ (.slice tp7 al tc7)) ?_ ?_
          · simp [execOp, go_sem, Act.eval, htLL]
          · simp [execOp, go_sem, Act.eval, Act.put, x0, x1, x2, hfr8]
          simp only [Act.put, List.setIfInBounds_toArray, List.set_cons_zero, List.set_cons_succ]
          have HRN2 : Hid (∃ s', PMo V h pb base (midM X (3, ((ma : Nat) : Int), t) ma (i' + 1) (putL base (D.cat (.node c' k' .nil)) (n0 + 1) (n0 + 1 + ma) E)) tr (putL base (D.cat (.node c' k' .nil)) (n0 + 1) (n0 + 1 + ma) E).2.2 s' (((W8.drew.setCell ⟨gX, tt * 3, none⟩ (.int .i64 a1)).setCell ⟨gX, tt * 3 + 1, none⟩ (.int .i64 a2)).setCell ⟨gX, tt * 3 + 2, none⟩ (.slice tp7 al tc7)) ∧ FrT h pb sj s' wA (((W8.drew.setCell ⟨gX, tt * 3, none⟩ (.int .i64 a1)).setCell ⟨gX, tt * 3 + 1, none⟩ (.int .i64 a2)).setCell ⟨gX, tt * 3 + 2, none⟩ (.slice tp7 al tc7))) := by
            obtain ⟨s', h1, h2⟩ := HRN.out
            have hb : Below (((W8.setCell ⟨gX, tt * 3, none⟩ (.int .i64 a1)).setCell ⟨gX, tt * 3 + 1, none⟩ (.int .i64 a2)).setCell ⟨gX, tt * 3 + 2, none⟩ (.slice tp7 al tc7)).heap.size (((W8.setCell ⟨gX, tt * 3, none⟩ (.int .i64 a1)).setCell ⟨gX, tt * 3 + 1, none⟩ (.int .i64 a2)).setCell ⟨gX, tt * 3 + 2, none⟩ (.slice tp7 al tc7)) (((W8.drew.setCell ⟨gX, tt * 3, none⟩ (.int .i64 a1)).setCell ⟨gX, tt * 3 + 1, none⟩ (.int .i64 a2)).setCell ⟨gX, tt * 3 + 2, none⟩ (.slice tp7 al tc7)) := (Below.refl _ _).drew
            exact ⟨s', h1.below hb, h2.trans (FrT.of_below hb)⟩
          clear hS0 m8 x0 x1 x2 y0 y1 y2 y3 hfr8 hgX HRN HE8
          generalize ((W8.drew.setCell ⟨gX, tt * 3, none⟩ (.int .i64 a1)).setCell ⟨gX, tt * 3 + 1, none⟩ (.int .i64 a2)).setCell ⟨gX, tt * 3 + 2, none⟩ (.slice tp7 al tc7) = W9 at HRN2 ⊢
          go_wp2
          go_roundw
          case rel => first | exact ⟨D.cat (.node c' k' .nil), r', i' + 1, by omega, by go_num, HNX, HRN2⟩ | ((repeat apply Exists.intro); exact ⟨⟨D.cat (.node c' k' .nil), r', i' + 1, by omega, by go_num, HNX, HRN2⟩, rfl⟩)
          case measure => simp [intOf]; omega
        · obtain rfl : i' = ma := by omega
          obtain rfl : R = .nil := by
            cases R with
            | nil => rfl
            | node a b d => have h1 := HD.out; have h2 := HNK.out; rw [h1.1, Fo.count_cat] at h2; simp only [Fo.count] at h2; omega
          obtain rfl : k = D := by have := HD.out.1; rwa [Fo.cat_nil] at this
          have hfW : FrT h pb s si W1 wr := HFA.out.trans hfi
          obtain ⟨hA8, hk8⟩ := HA8.out.fr hfW (by have := HZ1.out; omega)
          have hk8' := hk8.trans HK8.out
          have HX : Hid _ := (Box3.of_block (t := 31) hk8').put (.int .i64 4) (.int .i64 (n0 : Nat)) (.slice none 0 0)
          obtain ⟨b0, b1, b2, b3⟩ := Box3.of_block (t := 31) hk8'
          have hVs : V.heap.size ≤ W.heap.size := HVW.out
          have HBF : Hid (RR (.returned (.agg #[.int .i64 4, .int .i64 (n0 : Nat), .slice none 0 0])) (((wr.setCell ⟨W.heap.size, 0, none⟩ (.int .i64 4)).setCell ⟨W.heap.size, 1, none⟩ (.int .i64 (n0 : Nat))).setCell ⟨W.heap.size, 2, none⟩ (.slice none 0 0))) :=
            HQ.out _ si (((hpi.aside (a := ⟨W.heap.size, 0, none⟩) hA8 hVs _).aside (a := ⟨W.heap.size, 1, none⟩) hA8 hVs _).aside (a := ⟨W.heap.size, 2, none⟩) hA8 hVs _) (((((FrT.of_below HB1.out).trans hfW).set (a := ⟨W.heap.size, 0, none⟩) (Nat.le_refl _) _).set (a := ⟨W.heap.size, 1, none⟩) (Nat.le_refl _) _).set (a := ⟨W.heap.size, 2, none⟩) (Nat.le_refl _) _)
          clear hpi hfi hfW hA8 hk8 hk8' HR HD
          go_wp2
          obtain ⟨e0, e1, e2, _⟩ := HX.out
          exact bodyPost_ret (v := .agg #[.int .i64 4, .int .i64 (n0 : Nat), .slice none 0 0]) (by simp [results, Try.results95, go_sem, e0, e1, e2]) rfl HBF.out

end Go.Proofs.Ytedkkghekboahaa

namespace Go.Proofs.Ytedkkghekboahaa
open Go Go.RowKit Go.Maps
set_option linter.unusedVariables false

theorem kind_of {c : Cel} {k : Fo} (h : (Fo.node c k .nil).ok) : c.1 = 0 ∨ c.1 = 1 ∨ c.1 = 2 ∨ c.1 = 3 := by
  have := h.1
  simp only [cellB] at this
  revert this; simp; omega
theorem term_anyM (V : World) (h pb : Nat) (base : Int) (tr : List Int) : ∀ n, TermM V h pb base tr n
  | 0 => fun c k q m cap pl X E s W hk => absurd hk (Nat.not_lt_zero _)
  | n + 1 => fun c k q m cap pl X E s W hk hok hm hm2 hcap hcm hin hX hpl hE H => by
    have IH := term_anyM V h pb base tr n
    have hVW : Below V.heap.size V W := H.2.2.2.2.2.2.1.2.2
    obtain ⟨b, o, rfl, hcs⟩ := hin (by simp)
    obtain ⟨tp, tc, d0, d1, d2, ht⟩ := hcs 0 (by simp)
    simp only [List.getD_cons_zero, Nat.zero_mul, Nat.add_zero] at d0 d1 d2 ht
    have e0 := (hVW.cell (World.block_lt_of_cell? _ _ d0)).trans d0
    have e1 := (hVW.cell (World.block_lt_of_cell? _ _ d1)).trans d1
    have e2 := (hVW.cell (World.block_lt_of_cell? _ _ d2)).trans d2
    obtain ⟨c0, c1, t⟩ := c
    simp only at e0 e1 e2 ht
    rcases kind_of hok with h0 | h0 | h0 | h0
    · simp only at h0
      subst h0
      by_cases hx : c1 < base
      · have := tm_old V h pb base X tr E s W c1 (pl : Nat) t b o m cap tp tc (by omega) (by omega) e0 e1 e2 hx H
        have e : put1 base (0, c1, t) k pl X.length E = ((0, c1, []), [], E) := by simp [put1, putH, hx]
        rw [e]; exact this
      · cases hl : look E c1 with
        | some u =>
          have := tm_known V h pb base X tr E s W c1 (pl : Nat) t b o m cap tp tc (by omega) (by omega) e0 e1 e2 hx u hl (by omega) H
          have e : put1 base (0, c1, t) k pl X.length E = ((0, u, []), [], E) := by simp [put1, putH, hx, hl]
          rw [e]; exact this
        | none =>
          have := tm_new V h pb base X tr E s W c1 (pl : Nat) t b o m cap tp tc (by omega) (by omega) e0 e1 e2 hx hl (by omega) pl hpl rfl H
          have e : put1 base (0, c1, t) k pl X.length E = ((0, ((pl : Nat) : Int), []), [], E ++ [(c1, ((pl : Nat) : Int))]) := by simp [put1, putH, hx, hl]
          rw [e]; exact this
    · simp only at h0
      subst h0
      exact tm_num V h pb base X tr E s W c1 (pl : Nat) t b o m cap tp tc (by omega) (by omega) e0 e1 e2 H
    · simp only at h0
      subst h0
      exact tm_atom V h pb base X tr E s W c1 (pl : Nat) t b o m cap tp tc (by omega) (by omega) e0 e1 e2 ht H
    · simp only at h0
      subst h0
      have hc1 : c1 = (k.count : Int) := hok.2.2.1 rfl
      subst hc1
      exact tm_comp V h pb base tr t k (some ⟨b, o, none⟩) m cap (pl : Nat) X E s W hok hm hm2 hcap hcm hin (by omega) hE (fun c' k' q' m' cap' pl' X' E' s' W' hk' => IH c' k' q' m' cap' pl' X' E' s' W' (by omega)) H
/-- At the top. -/
theorem term_top (V : World) (h pb : Nat) (tr : List Int) (c : Cel) (k : Fo) (q : Option Addr) (m cap : Nat) (X : List Cel) (s : Sl8) (W : World) (hok : (Fo.node c k .nil).ok) (hm : m = 1 + k.cells.length) (hm2 : m ≤ 2000) (hcap : m ≤ cap) (hcm : cap ≤ 1000000000) (hin : CIn V q (c :: k.cells)) (hX : X.length ≤ 20000) (H : PMo V h pb (X.length : Nat) X tr [] s W) :
    Calls Try.prog 95 #[.pointer (some ⟨h, 0, none⟩), .pointer (some ⟨pb, 0, none⟩), .slice q m cap, .int .i64 (-1)] W (fun e w' => ∃ E', TmOut V h pb (X.length : Nat) X tr s W ((ptA X.length c k).1, ptB X.length c k, E') e w') := by
  have hVW : Below V.heap.size V W := H.2.2.2.2.2.2.1.2.2
  obtain ⟨b, o, rfl, hcs⟩ := hin (by simp)
  obtain ⟨tp, tc, d0, d1, d2, ht⟩ := hcs 0 (by simp)
  simp only [List.getD_cons_zero, Nat.zero_mul, Nat.add_zero] at d0 d1 d2 ht
  have e0 := (hVW.cell (World.block_lt_of_cell? _ _ d0)).trans d0
  have e1 := (hVW.cell (World.block_lt_of_cell? _ _ d1)).trans d1
  have e2 := (hVW.cell (World.block_lt_of_cell? _ _ d2)).trans d2
  obtain ⟨c0, c1, t⟩ := c
  simp only at e0 e1 e2 ht
  have hn : ∀ (d : Cel), (ptA X.length (c0, c1, t) k).1 = d → ¬ (d.1 = 0 ∧ d.2.1 = (X.length : Int)) → ptN X.length (c0, c1, t) k = false := fun d hd hh => by unfold ptN; rw [hd]; exact decide_eq_false hh
  rcases kind_of hok with h0 | h0 | h0 | h0
  · simp only at h0
    subst h0
    by_cases hx : c1 < ((X.length : Nat) : Int)
    · have hA : ptA X.length (0, c1, t) k = ((0, c1, []), [], []) := by simp [ptA, put1, putH, hx]
      have hB : ptB X.length (0, c1, t) k = [] := by
        unfold ptB
        rw [hn (0, c1, []) (by rw [hA]) (by simp only; omega), hA]
        simp
      rw [hA, hB]
      exact (tm_old V h pb (X.length : Nat) X tr [] s W c1 (-1) t b o m cap tp tc (by omega) (by omega) e0 e1 e2 hx H).mono (fun e w' hh => ⟨[], hh⟩)
    · have hA : ptA X.length (0, c1, t) k = ((0, (X.length : Int), []), [], [(c1, (X.length : Int))]) := by simp [ptA, put1, putH, hx, look]
      have hB : ptB X.length (0, c1, t) k = [(0, (X.length : Int), [])] := by
        have hN : ptN X.length (0, c1, t) k = true := by unfold ptN; rw [hA]; simp
        unfold ptB
        rw [hN, hA]
        simp
      rw [hA, hB]
      exact (tm_top V h pb (X.length : Nat) X tr [] s W c1 (-1) t b o m cap tp tc (by omega) (by omega) e0 e1 e2 hx rfl (by simp) (by omega) rfl H).mono (fun e w' hh => ⟨_, hh⟩)
  · simp only at h0
    subst h0
    have hA : ptA X.length (1, c1, t) k = ((1, c1, []), [], []) := rfl
    have hB : ptB X.length (1, c1, t) k = [] := by
      unfold ptB
      rw [hn (1, c1, []) (by rw [hA]) (by simp), hA]
      simp
    rw [hA, hB]
    exact (tm_num V h pb (X.length : Nat) X tr [] s W c1 (-1) t b o m cap tp tc (by omega) (by omega) e0 e1 e2 H).mono (fun e w' hh => ⟨[], hh⟩)
  · simp only at h0
    subst h0
    have hA : ptA X.length (2, c1, t) k = ((2, 0, t), [], []) := rfl
    have hB : ptB X.length (2, c1, t) k = [] := by
      unfold ptB
      rw [hn (2, 0, t) (by rw [hA]) (by simp), hA]
      simp
    rw [hA, hB]
    exact (tm_atom V h pb (X.length : Nat) X tr [] s W c1 (-1) t b o m cap tp tc (by omega) (by omega) e0 e1 e2 ht H).mono (fun e w' hh => ⟨[], hh⟩)
  · simp only at h0
    subst h0
    have hc1 : c1 = (k.count : Int) := hok.2.2.1 rfl
    subst hc1
    have hA : ptA X.length (3, (k.count : Int), t) k = ((4, (X.length : Int), []), (3, (k.count : Int), t) :: ((putL X.length k (X.length + 1) (X.length + 1 + k.count) []).1 ++ (putL X.length k (X.length + 1) (X.length + 1 + k.count) []).2.1), (putL X.length k (X.length + 1) (X.length + 1 + k.count) []).2.2) := rfl
    have hB : ptB X.length (3, (k.count : Int), t) k = (3, (k.count : Int), t) :: ((putL X.length k (X.length + 1) (X.length + 1 + k.count) []).1 ++ (putL X.length k (X.length + 1) (X.length + 1 + k.count) []).2.1) := by
      unfold ptB
      rw [hn (4, (X.length : Int), []) (by rw [hA]) (by simp), hA]
      simp
    rw [hA, hB]
    exact (tm_comp V h pb (X.length : Nat) tr t k (some ⟨b, o, none⟩) m cap (-1) X [] s W hok hm hm2 hcap hcm hin (by omega) (by simp; omega) (term_anyM V h pb _ tr _) H).mono (fun e w' hh => ⟨_, hh⟩)

/-- What l10putTerm answers. -/
def PtOut (V : World) (h : Nat) (X : List Cel) (tr : List Int) (d : Cel) (B : List Cel) (e : Ending) (w' : World) : Prop :=
  (X.length + B.length ≤ 20000 → ∃ tp tc, e = .returned (.tuple #[.agg #[.int .i64 d.1, .int .i64 d.2.1, .slice tp d.2.2.length tc], .int .i64 0]) ∧ BIn V tp d.2.2 ∧ SHp V w' h (X ++ B) tr 0) ∧
  (¬ X.length + B.length ≤ 20000 → e = .returned (.tuple #[.agg #[.int .i64 0, .int .i64 0, .slice none 0 0], .int .i64 10])) ∧ Below V.heap.size V w'
theorem PMo.toS {V : World} {h pb : Nat} {base : Int} {X : List Cel} {tr : List Int} {E : PSt} {s : Sl8} {W : World} (H : PMo V h pb base X tr E s W) : SHp V W h X tr 0 := by
  obtain ⟨h0, h1, h2, _, _, _, ⟨h6, _, h8⟩, _, _⟩ := H
  exact ⟨_, _, _, _, h0, h1, h2, h6, h8⟩

set_option maxHeartbeats 4000000 in
set_option maxRecDepth 100000 in
theorem l10putTerm_any (V : World) (h : Nat) (tr : List Int) (c : Cel) (k : Fo) (q : Option Addr) (m cap : Nat) (X : List Cel) (W : World) (hok : (Fo.node c k .nil).ok) (hm : m = 1 + k.cells.length) (hm2 : m ≤ 2000) (hcap : m ≤ cap) (hcm : cap ≤ 1000000000) (hin : CIn V q (c :: k.cells)) (hX : X.length ≤ 20000) (H : SHp V W h X tr 0) :
    Calls Try.prog 70 #[.pointer (some ⟨h, 0, none⟩), .slice q m cap] W (PtOut V h X tr (ptA X.length c k).1 (ptB X.length c k)) := by
  obtain ⟨n0, en0⟩ : ∃ n0, n0 = X.length := ⟨_, rfl⟩
  have hVs : V.heap.size ≤ W.heap.size := by obtain ⟨_, _, _, _, _, _, _, _, hb⟩ := H; exact hb.size
  obtain ⟨W1, eW1⟩ : ∃ W1, W1 = (W.alloc (.cells #[.int .i64 0, .int .i64 0, .slice none 0 0] 31)).alloc (.cells #[.int .i64 (n0 : Nat), .slice none 0 0, .slice none 0 0] 149) := ⟨_, rfl⟩
  have hb1 : Below W.heap.size W W1 := by rw [eW1]; exact ((Below.refl _ _).alloc (Nat.le_refl _) _).alloc (by simp) _
  have k8 : W1.heap[W.heap.size]? = some (.cells #[.int .i64 0, .int .i64 0, .slice none 0 0] 31) := by rw [eW1, Below.heap_alloc _ _ _ (by simp)]; exact heap_alloc_new _ _
  have k9 : W1.heap[W.heap.size + 1]? = some (.cells #[.int .i64 (n0 : Nat), .slice none 0 0, .slice none 0 0] 149) := by
    rw [eW1]
    have := heap_alloc_new (W.alloc (.cells #[.int .i64 0, .int .i64 0, .slice none 0 0] 31)) (.cells #[.int .i64 (n0 : Nat), .slice none 0 0, .slice none 0 0] 149)
    simpa using this
  have hz1 : W1.heap.size = W.heap.size + 1 + 1 := by rw [eW1]; simp
  obtain ⟨pc, cc, pt, ct, h0, h1, h2, h3, h4⟩ := H.below hb1
  have hPM : PMo V h (W.heap.size + 1) (X.length : Nat) X tr [] ((pc, cc), (pt, ct), (none, 0), (none, 0)) W1 := by
    refine ⟨h0, h1, h2, ?_, OwnI.nil _ _ _, OwnI.nil _ _ _, ⟨h3, by omega, h4⟩, fun g e => by simp [bl, Value.ownBlock] at e, fun g e => by simp [bl, Value.ownBlock] at e⟩
    rw [← en0]; exact k9
  have hA8 : Aside h (W.heap.size + 1) ((pc, cc), (pt, ct), (none, 0), (none, 0)) W.heap.size := by
    obtain ⟨pc', cc', pt', ct', g0, ⟨_, rs, _, g1, _⟩, g2, _, _⟩ := H
    have hl : h < W.heap.size := (Array.getElem?_eq_some_iff.1 g0).1
    have hw0 := (hb1.block h hl).trans g0
    rw [h0] at hw0
    simp only [Option.some.injEq, Obj.cells.injEq, and_true] at hw0
    simp at hw0
    obtain ⟨⟨e1, e2⟩, e3, e4⟩ := hw0
    subst e1 e2 e3 e4
    refine ⟨by omega, by omega, fun e => ?_, fun e => ?_, fun e => by simp [bl, Value.ownBlock] at e, fun e => by simp [bl, Value.ownBlock] at e⟩
    · have := (g1.lt _ ((bl_of (pc, cc) _).trans e)).2; omega
    · have := (g2.2.lt _ ((bl_of (pt, ct) _).trans e)).2; omega
  have hTT := term_top V h (W.heap.size + 1) tr c k q m cap X _ W1 hok hm hm2 hcap hcm hin hX hPM
  have HT : Hid _ := hTT
  have hlen : (X ++ ptB X.length c k).length ≤ 1000000 := by
    have hb := put1_blk (X.length : Nat) c k X.length X.length [] (putL_blk (X.length : Nat) k)
    unfold ptB ptA
    rw [List.length_append, List.length_append]
    split <;> simp <;> omega
  have m0 := hPM.cells.1
  simp only at m0
  rw [← en0] at m0
  have HK8 : Hid (W1.heap[W.heap.size]? = some (.cells #[.int .i64 0, .int .i64 0, .slice none 0 0] 31)) := k8
  have HA8 : Hid (Aside h (W.heap.size + 1) ((pc, cc), (pt, ct), (none, 0), (none, 0)) W.heap.size) := hA8
  have HZ1 : Hid _ := hz1
  have HE1 : Hid _ := eW1
  have HVS : Hid (V.heap.size ≤ W.heap.size) := hVs
  have HLB : Hid ((X ++ ptB X.length c k).length = n0 + (ptB X.length c k).length) := by show _ = _; rw [List.length_append, en0]
  have hlb : n0 + (ptB X.length c k).length ≤ 1000000 := by rw [← HLB.out]; exact hlen
  rw [← en0] at HT HLB hlb hX ⊢
  generalize (ptA n0 c k).1 = d at HT ⊢
  generalize ptB n0 c k = B at HT HLB hlb ⊢
  obtain ⟨d1, d2, dt⟩ := d
  have HQ1 : Hid (n0 + B.length ≤ 20000 → ∀ tp tc w', BIn V tp dt → SHp V w' h (X ++ B) tr 0 → PtOut V h X tr (d1, d2, dt) B (.returned (.tuple #[.agg #[.int .i64 d1, .int .i64 d2, .slice tp dt.length tc], .int .i64 0])) w') := fun hle tp tc w' hb hs => ⟨fun _ => ⟨tp, tc, rfl, hb, hs⟩, fun hh => absurd (by rw [en0] at hle; exact hle) hh, by obtain ⟨_, _, _, _, _, _, _, _, hb⟩ := hs; exact hb⟩
  have HQ2 : Hid (¬ n0 + B.length ≤ 20000 → ∀ w', SHp V w' h (X ++ B) tr 0 → PtOut V h X tr (d1, d2, dt) B (.returned (.tuple #[.agg #[.int .i64 0, .int .i64 0, .slice none 0 0], .int .i64 10])) w') := fun hle w' hs => ⟨fun hh => absurd (by rw [en0]; exact hh) hle, fun _ => rfl, by obtain ⟨_, _, _, _, _, _, _, _, hb⟩ := hs; exact hb⟩
  generalize PtOut V h X tr (d1, d2, dt) B = RR at HQ1 HQ2 ⊢
  have m00 : W.cell? ⟨h, 0, none⟩ = some (.slice pc n0 cc) := by
    have hl : h < W.heap.size := by obtain ⟨_, _, _, _, g0, _⟩ := H; exact (Array.getElem?_eq_some_iff.1 g0).1
    exact (hb1.cell (p := ⟨h, 0, none⟩) hl).symm.trans m0
  have hlh : h < W.heap.size := World.block_lt_of_cell? _ _ m00
  rw [HE1.out] at HT
  clear m0
  clear H h0 h1 h2 h3 h4 hPM hA8 hTT k8 k9 hz1 eW1 hb1 hok hm hin hlen hVs en0
  go_enter Try.func70, Try.ntmps70
  go_wp2_with fail
  refine Calls.mono HT.out ?_
  rintro e w3 ⟨E', tp, tc, rfl, hbt, s3, hp3, hf3⟩
  simp only at hp3 hbt
  rw [← HE1.out] at hf3
  obtain ⟨hA3, hk3⟩ := HA8.out.fr hf3 (by have := HZ1.out; omega)
  have hl3 : W.heap.size + 1 < w3.heap.size := by have := hf3.1; have := HZ1.out; omega
  obtain ⟨dl, edl⟩ : ∃ dl, dl = dt.length := ⟨_, rfl⟩
  have HDL : Hid (dl = dt.length) := edl
  rw [← edl] at HQ1 ⊢
  clear edl
  obtain ⟨W4, eW4⟩ : ∃ W4, W4 = w3.alloc (.cells #[.int .i64 d1, .int .i64 d2, .slice tp dl tc] 31) := ⟨_, rfl⟩
  have hb4 : Below w3.heap.size w3 W4 := by rw [eW4]; exact alloc_on _ _
  have kx : Box3 W4 w3.heap.size (.int .i64 d1) (.int .i64 d2) (.slice tp dl tc) := by rw [eW4]; exact Box3.of_block (t := 31) (heap_alloc_new _ _)
  have hp4 := hp3.below hb4
  have k84 : W4.heap[W.heap.size]? = some (.cells #[.int .i64 0, .int .i64 0, .slice none 0 0] 31) := (hb4.block _ (by omega)).trans (hk3.trans HK8.out)
  have mc := hp4.cells.1
  rw [HLB.out] at mc
  obtain ⟨p4, c4⟩ := s3.1
  have HE4 : Hid _ := eW4
  have HBX : Hid (∀ v0 v1 v2, Box3 (((W4.setCell ⟨W.heap.size, 0, none⟩ v0).setCell ⟨W.heap.size, 1, none⟩ v1).setCell ⟨W.heap.size, 2, none⟩ v2) W.heap.size v0 v1 v2) := fun v0 v1 v2 => (Box3.of_block (t := 31) k84).put _ _ _
  have HSH : Hid (∀ v0 v1 v2, SHp V (((W4.setCell ⟨W.heap.size, 0, none⟩ v0).setCell ⟨W.heap.size, 1, none⟩ v1).setCell ⟨W.heap.size, 2, none⟩ v2) h (X ++ B) tr 0) := fun v0 v1 v2 => (((hp4.aside (a := ⟨W.heap.size, 0, none⟩) hA3 HVS.out v0).aside (a := ⟨W.heap.size, 1, none⟩) hA3 HVS.out v1).aside (a := ⟨W.heap.size, 2, none⟩) hA3 HVS.out v2).toS
  obtain ⟨b0, b1, b2, b3⟩ := Box3.of_block (t := 31) k84
  obtain ⟨x0, x1, x2, x3⟩ := kx
  have HBT : Hid (BIn V tp dt) := hbt
  rw [eW4] at mc b0 b1 b2 b3 x0 x1 x2 x3
  clear hp3 hf3 hp4 k84 hb4 hA3 hk3 HT m00 eW4 hbt
  by_cases hle : n0 + B.length ≤ 20000
  · have hd : ¬ ((20000 : Int) < (n0 : Int) + (B.length : Int)) := by omega
    have HF : Hid _ := HQ1.out hle tp tc _ HBT.out (HSH.out (.int .i64 d1) (.int .i64 d2) (.slice tp dl tc))
    have HX : Hid _ := HBX.out (.int .i64 d1) (.int .i64 d2) (.slice tp dl tc)
    rw [HE4.out] at HF HX
    clear HQ1 HQ2 HSH HBX
    go_wp2
    obtain ⟨e0, e1, e2, _⟩ := HX.out
    exact bodyPost_ret (v := .tuple #[.agg #[.int .i64 d1, .int .i64 d2, .slice tp dl tc], .int .i64 0]) (by simp [results, Try.results70, go_sem, e0, e1, e2]) rfl HF.out
  · have hd : (20000 : Int) < (n0 : Int) + (B.length : Int) := by omega
    have HF : Hid _ := HQ2.out hle _ (HSH.out (.int .i64 0) (.int .i64 0) (.slice none 0 0))
    have HX : Hid _ := HBX.out (.int .i64 0) (.int .i64 0) (.slice none 0 0)
    rw [HE4.out] at HF HX
    clear HQ1 HQ2 HSH HBX
    go_wp2
    obtain ⟨e0, e1, e2, _⟩ := HX.out
    exact bodyPost_ret (v := .tuple #[.agg #[.int .i64 0, .int .i64 0, .slice none 0 0], .int .i64 10]) (by simp [results, Try.results70, go_sem, e0, e1, e2]) rfl HF.out

end Go.Proofs.Ytedkkghekboahaa

namespace Go.Proofs.Ytedkkghekboahaa
open Go Go.RowKit Go.Maps
set_option linter.unusedVariables false

/-- A variable that is the address of a functor. -/
def badC (xs : List Cel) (c : Cel) : Bool := decide (c.1 = 0) && (decide (c.2.1 < (xs.length : Int)) && decide (kndA xs c.2.1.toNat = 3))
theorem mem_visits : ∀ (cs : List Cel) (ks : List Int) (x : Int), x ∈ visits ks cs ↔ x ∈ ks ∨ ∃ c ∈ cs, c.1 = 0 ∧ c.2.1 = x
  | [], ks, x => by simp [visits]
  | c :: r, ks, x => by
    rw [visits_cons, mem_visits r]
    have hv : x ∈ visitL ks c ↔ x ∈ ks ∨ (c.1 = 0 ∧ c.2.1 = x) := by
      unfold visitL
      split
      · rename_i h0
        unfold putV
        split
        · rename_i hm
          constructor
          · exact fun h => .inl h
          · rintro (h | ⟨_, h⟩)
            · exact h
            · rw [← h]; exact hm
        · simp only [List.mem_append, List.mem_singleton]
          constructor
          · rintro (h | h)
            · exact .inl h
            · exact .inr ⟨h0, h.symm⟩
          · rintro (h | ⟨_, h⟩)
            · exact .inl h
            · exact .inr h.symm
      · rename_i h0
        constructor
        · exact fun h => .inl h
        · rintro (h | ⟨h, _⟩)
          · exact h
          · exact absurd h h0
    rw [hv]
    simp only [List.mem_cons]
    constructor
    · rintro ((h | h) | ⟨d, hd, h⟩)
      · exact .inl h
      · exact .inr ⟨c, .inl rfl, h⟩
      · exact .inr ⟨d, .inr hd, h⟩
    · rintro (h | ⟨d, rfl | hd, h⟩)
      · exact .inl (.inl h)
      · exact .inl (.inr h)
      · exact .inr ⟨d, hd, h⟩
theorem canB_eq (xs cs : List Cel) (h0 : ∀ c ∈ cs, c.1 = 0 → 0 ≤ c.2.1) : canB xs cs = cs.all fun c => !badC xs c := by
  rw [Bool.eq_iff_iff, canB, List.all_eq_true, List.all_eq_true]
  have key : ∀ c ∈ cs, c.1 = 0 → (canV xs c.2.1 = true ↔ (!badC xs c) = true) := fun c hc hk => by
    have := h0 c hc hk
    unfold canV badC isWB
    by_cases h1 : c.2.1 < (xs.length : Int)
    · by_cases h2 : kndA xs c.2.1.toNat = 3
      · simp [hk, h1, h2]
      · simp [hk, h1, h2, this]
    · simp [hk, h1]
  constructor
  · intro hh c hc
    by_cases hk : c.1 = 0
    · exact (key c hc hk).1 (hh _ ((mem_visits cs [] _).2 (.inr ⟨c, hc, hk, rfl⟩)))
    · simp [badC, hk]
  · intro hh x hx
    rcases (mem_visits cs [] x).1 hx with h | ⟨c, hc, hk, rfl⟩
    · cases h
    · exact (key c hc hk).2 (hh c hc)
theorem ok_pos : ∀ (F : Fo), F.ok → ∀ c ∈ F.cells, c.1 = 0 → 0 ≤ c.2.1
  | .nil, _, c, h, _ => by cases h
  | .node d k r, ⟨o1, _, _, _, o5, o6⟩, c, h, hk => by
    simp only [Fo.cells, List.mem_cons, List.mem_append] at h
    rcases h with rfl | h | h
    · simp only [cellB] at o1
      revert o1; simp [hk]; omega
    · exact ok_pos k o5 c h hk
    · exact ok_pos r o6 c h hk
/-- An answer of the model. -/
def PutB (A : PAns) (w : World) (e : Ending) (w' : World) : Prop :=
  ∃ p q tp c1 c2 tc, e = .returned (.tuple #[.agg #[.slice p A.1.1.length c1, .slice q A.1.2.length c2], .agg #[.int .i64 A.2.1.1, .int .i64 A.2.1.2.1, .slice tp A.2.1.2.2.length tc], .int .i64 A.2.2]) ∧ OwnC w' w.heap.size p A.1.1.length c1 A.1.1 ∧ OwnI w' w.heap.size 3 q A.1.2.length c2 A.1.2 ∧ OwnT w' w.heap.size tp A.2.1.2.2.length tc A.2.1.2.2 ∧ Below w.heap.size w w'
theorem PutB.none {w w' : World} (code : Int) (hb : Below w.heap.size w w') : PutB (noneP code) w (.returned (.tuple #[.agg #[.slice none 0 0, .slice none 0 0], .agg #[.int .i64 0, .int .i64 0, .slice none 0 0], .int .i64 code])) w' :=
  ⟨Option.none, Option.none, Option.none, 0, 0, 0, rfl, OwnC.nil _ _, OwnI.nil _ _ _, OwnT.nilT _ _, hb⟩

end Go.Proofs.Ytedkkghekboahaa

