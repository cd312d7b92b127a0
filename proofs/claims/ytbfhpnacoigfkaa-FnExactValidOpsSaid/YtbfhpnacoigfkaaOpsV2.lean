/- compareOps, isOp. Own work of the verifier. -/
import Derived.Sort.Grow
import Derived.Test.YtbfhpnacoigfkaaOpsV1
namespace Go.Proofs.Ytbfhpnacoigfkaa
open Go Go.RowKit Go.Sort
set_option linter.unusedVariables false

/-- How two operators are ordered: by their names, then by their sorts. -/
def opCmp (x y : Cel) : Int := orI (cmpS (strOfNums x.2.2) (strOfNums y.2.2)) (cmpI (srt x.2.1) (srt y.2.1))

set_option maxRecDepth 100000 in
set_option maxHeartbeats 1000000 in
theorem compareOps_any (k1 n1 k2 n2 : Int) (p q : Option Addr) (m1 m2 c1 c2 : Nat) (xs ys : List Int) (w : World) (hl1 : m1 = xs.length) (hl2 : m2 = ys.length) (hx : BIn w p xs) (hy : BIn w q ys) :
    Calls Try.prog 22 #[.agg #[.slice p m1 c1, .int .i64 k1, .int .i64 n1], .agg #[.slice q m2 c2, .int .i64 k2, .int .i64 n2]] w fun e w' => e = .returned (.int .i64 (opCmp (k1, n1, xs) (k2, n2, ys))) ∧ ∃ q os', w' = grow (w.drewN q) os' := by
  have hC : ∀ W, Below w.heap.size w W → Calls Try.prog 38 #[.slice p m1 c1, .slice q m2 c2] W fun e w' => e = .returned (.int .i64 (cmpS (strOfNums xs) (strOfNums ys))) ∧ w' = W := fun W hW => bytesCompare_any p q m1 m2 c1 c2 xs ys W hl1 hl2 (hx.below hW) (hy.below hW)
  have hS1 := fun W => sortOf_any n1 W
  have hS2 := fun W => sortOf_any n2 W
  have hI := fun W => compareO_any (srt n1) (srt n2) W
  rw [opCmp]
  simp only
  generalize cmpS (strOfNums xs) (strOfNums ys) = cs at hC ⊢
  generalize srt n1 = s1 at hS1 hI ⊢
  generalize srt n2 = s2 at hS2 hI ⊢
  generalize cmpI s1 s2 = ci at hI ⊢
  have hO : ∀ (b : Nat) (W : World), W.cell? ⟨b, 0, none⟩ = some (.int .i64 cs) → W.cell? ⟨b, 1, none⟩ = some (.int .i64 ci) → Calls Try.prog 37 #[.slice (some ⟨b, 0, none⟩) 2 2] W fun e w' => e = .returned (.int .i64 (orI cs ci)) ∧ w' = W := fun b W h0 h1 => or_any b cs ci W h0 h1
  generalize orI cs ci = co at hO ⊢
  have hb : Below w.heap.size w ((w.alloc (.cells #[.slice p m1 c1, .int .i64 k1, .int .i64 n1] 40)).alloc (.cells #[.slice q m2 c2, .int .i64 k2, .int .i64 n2] 40)) := ((Below.refl _ _).alloc (Nat.le_refl _) _).alloc (by simp) _
  have G1 : Box3 ((w.alloc (.cells #[.slice p m1 c1, .int .i64 k1, .int .i64 n1] 40)).alloc (.cells #[.slice q m2 c2, .int .i64 k2, .int .i64 n2] 40)) w.heap.size (.slice p m1 c1) (.int .i64 k1) (.int .i64 n1) := Box3.of_block (t := 40) ((Below.heap_alloc _ _ _ (by simp)).trans (heap_alloc_new _ _))
  have G2 : Box3 ((w.alloc (.cells #[.slice p m1 c1, .int .i64 k1, .int .i64 n1] 40)).alloc (.cells #[.slice q m2 c2, .int .i64 k2, .int .i64 n2] 40)) (w.heap.size + 1) (.slice q m2 c2) (.int .i64 k2) (.int .i64 n2) := Box3.of_block (t := 40) (by
    have := heap_alloc_new (w.alloc (.cells #[.slice p m1 c1, .int .i64 k1, .int .i64 n1] 40)) (.cells #[.slice q m2 c2, .int .i64 k2, .int .i64 n2] 40)
    rw [World.size_alloc] at this
    exact this)
  have HG : Hid (∃ os, (w.alloc (.cells #[.slice p m1 c1, .int .i64 k1, .int .i64 n1] 40)).alloc (.cells #[.slice q m2 c2, .int .i64 k2, .int .i64 n2] 40) = grow w os) := ⟨_, by rw [alloc_eq_grow, alloc_eq_grow, grow_grow]⟩
  have HC : Hid (∀ W, Below w.heap.size w W → _) := hC
  have HS1 : Hid _ := hS1
  have HS2 : Hid _ := hS2
  have HI : Hid _ := hI
  have HO : Hid _ := hO
  have HBW : Hid _ := hb
  have HG1 : Hid _ := G1
  have HG2 : Hid _ := G2
  clear hC hS1 hS2 hI hO hx hy hl1 hl2 hb G1 G2
  go_enter Try.func22, Try.ntmps22
  go_wp2_with fail
  obtain ⟨a0, a1, a2, _⟩ := HG1.out
  obtain ⟨b0, b1, b2, _⟩ := HG2.out
  clear HG1 HG2
  generalize (w.alloc (.cells #[.slice p m1 c1, .int .i64 k1, .int .i64 n1] 40)).alloc (.cells #[.slice q m2 c2, .int .i64 k2, .int .i64 n2] 40) = W2 at *
  go_region_held3 (fun W => (W.cell? ⟨w.heap.size, 0, none⟩ = some (.slice p m1 c1) ∧ W.cell? ⟨w.heap.size, 2, none⟩ = some (.int .i64 n1)) ∧ W.cell? ⟨w.heap.size + 1, 0, none⟩ = some (.slice q m2 c2) ∧ W.cell? ⟨w.heap.size + 1, 2, none⟩ = some (.int .i64 n2))
    (go_keep)
    (first
      | (go_at_call 38; refine (HC.out _ (by first | exact HBW.out | exact HBW.out.trans (Below.refl _ _).drew)).mono ?_; rintro e w' ⟨rfl, rfl⟩)
      | (go_at_call 39; refine (HI.out _).mono ?_; rintro e w' ⟨rfl, rfl⟩)
      | (go_at_call 40; refine (HS1.out _).mono ?_; rintro e w' ⟨rfl, rfl⟩)
      | (go_at_call 40; refine (HS2.out _).mono ?_; rintro e w' ⟨rfl, rfl⟩)
      | (go_at_call 37; refine (HO.out _ _ (by exact (pair_new _ _ _ _).1) (by exact (pair_new _ _ _ _).2)).mono ?_; rintro e w' ⟨rfl, rfl⟩))
  all_goals go_wp2_with fail
  all_goals go_ret
  obtain ⟨os, hos⟩ := HG.out
  exact ⟨rfl, 1, _, by rw [hos, alloc_eq_grow, grow_grow, drew_grow]; rfl⟩

end Go.Proofs.Ytbfhpnacoigfkaa
