/- compareFunctors. Own work of the verifier. -/
import Derived.Sort.Grow
import Derived.Test.YtopdhjnpcpkmlaaCmp2
namespace Go.Proofs.Ytopdhjnpcpkmlaa
open Go Go.RowKit Go.Sort
set_option linter.unusedVariables false

/-- A name and how many arguments. -/
abbrev Fun := ByteArray × Int
def funCmp (x y : Fun) : Int := orI (cmpI x.2 y.2) (cmpS x.1 y.1)
theorem pair_new (W : World) (a b : Value) (t : TypeId) : (W.alloc (.cells #[a, b] t)).cell? ⟨W.heap.size, 0, none⟩ = some a ∧ (W.alloc (.cells #[a, b] t)).cell? ⟨W.heap.size, 1, none⟩ = some b :=
  ⟨by simp [World.cell?_alloc_new], by simp [World.cell?_alloc_new]⟩

set_option maxRecDepth 100000 in
set_option maxHeartbeats 1000000 in
theorem compareFunctors_any (x y : Fun) (w : World) : Calls Try.prog 77 #[.agg #[.string x.1, .int .i64 x.2], .agg #[.string y.1, .int .i64 y.2]] w fun e w' => e = .returned (.int .i64 (funCmp x y)) ∧ ∃ q os', w' = grow (w.drewN q) os' := by
  have hI := fun W => compareI_any x.2 y.2 W
  have hS := fun W => compareS_any x.1 y.1 W
  rw [funCmp]
  generalize cmpI x.2 y.2 = ci at hI ⊢
  generalize cmpS x.1 y.1 = cs at hS ⊢
  obtain ⟨x1, x2⟩ := x
  obtain ⟨y1, y2⟩ := y
  simp only at hI hS ⊢
  have hO : ∀ (b : Nat) (W : World), W.cell? ⟨b, 0, none⟩ = some (.int .i64 ci) → W.cell? ⟨b, 1, none⟩ = some (.int .i64 cs) → Calls Try.prog 79 #[.slice (some ⟨b, 0, none⟩) 2 2] W fun e w' => e = .returned (.int .i64 (orI ci cs)) ∧ w' = W := fun b W h0 h1 => or_any b ci cs W h0 h1
  generalize orI ci cs = co at hO ⊢
  have HI : Hid _ := hI
  have HS : Hid _ := hS
  have HO : Hid _ := hO
  clear hI hS hO
  go_enter Try.func77, Try.ntmps77
  go_wp2_with fail
  obtain ⟨a0, a1⟩ := pair_new w (.string x1) (.int .i64 x2) 105
  obtain ⟨b0, b1⟩ := pair_new (w.alloc (.cells #[.string x1, .int .i64 x2] 105)) (.string y1) (.int .i64 y2) 105
  have hb : Below (w.heap.size + 1) (w.alloc (.cells #[.string x1, .int .i64 x2] 105)) ((w.alloc (.cells #[.string x1, .int .i64 x2] 105)).alloc (.cells #[.string y1, .int .i64 y2] 105)) := (Below.refl _ _).alloc (by simp) _
  have a0' := (hb.cell (p := ⟨w.heap.size, 0, none⟩) (by simp)).trans a0
  have a1' := (hb.cell (p := ⟨w.heap.size, 1, none⟩) (by simp)).trans a1
  rw [World.size_alloc] at b0 b1
  have HG : Hid (∃ os, (w.alloc (.cells #[.string x1, .int .i64 x2] 105)).alloc (.cells #[.string y1, .int .i64 y2] 105) = grow w os) := ⟨_, by rw [alloc_eq_grow, alloc_eq_grow, grow_grow]⟩
  clear hb a0 a1
  generalize (w.alloc (.cells #[.string x1, .int .i64 x2] 105)).alloc (.cells #[.string y1, .int .i64 y2] 105) = W2 at *
  go_region_held3 (fun W => (W.cell? ⟨w.heap.size, 0, none⟩ = some (.string x1) ∧ W.cell? ⟨w.heap.size, 1, none⟩ = some (.int .i64 x2)) ∧ W.cell? ⟨w.heap.size + 1, 0, none⟩ = some (.string y1) ∧ W.cell? ⟨w.heap.size + 1, 1, none⟩ = some (.int .i64 y2))
    (go_keep)
    (first
      | (go_at_call 80; refine (HI.out _).mono ?_; rintro e w' ⟨rfl, rfl⟩)
      | (go_at_call 85; refine (HS.out _).mono ?_; rintro e w' ⟨rfl, rfl⟩)
      | (go_at_call 79; refine (HO.out _ _ (by exact (pair_new W2 _ _ _).1) (by exact (pair_new W2 _ _ _).2)).mono ?_; rintro e w' ⟨rfl, rfl⟩))
  all_goals go_wp2_with fail
  all_goals go_ret
  obtain ⟨os, hos⟩ := HG.out
  exact ⟨rfl, 1, _, by rw [hos, alloc_eq_grow, grow_grow, drew_grow]; rfl⟩

end Go.Proofs.Ytopdhjnpcpkmlaa
