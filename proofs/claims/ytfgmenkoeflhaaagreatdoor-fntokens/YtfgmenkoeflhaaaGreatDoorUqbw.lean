/- Texts of LexJ, LexH, LexR, LexI. Own work of the verifier. -/
import Derived.Test.YtfgmenkoeflhaaaGreatDoorUqbv
namespace Go.Proofs.YtfgmenkoeflhaaaGreatDoor
open Go Go.RowKit Go.Shelf
set_option linter.unusedVariables false
structure JL (w : World) (T : Nat) (ready : Obj) (ts : List Tok) (W : World) : Prop where
 low : Below T w W
 top : T + 6 ≤ W.heap.size
 box : ∃ p n c, W.cell? ⟨T, 0, none⟩ = some (.slice p n c) ∧ OwnK W (T + 6) p n c ts
 fz : W.frozen? ⟨T, 0, none⟩ = false
 code : W.cell? ⟨T + 1, 0, none⟩ = some (.int .i64 0) ∧ W.frozen? ⟨T + 1, 0, none⟩ = false
 place : W.cell? ⟨T + 2, 0, none⟩ = some (.int .i64 0) ∧ W.frozen? ⟨T + 2, 0, none⟩ = false
 mark : W.heap[T + 4]? = some (.deferred (some []))
 record : W.heap[T + 5]? = some ready
theorem frozen_of_block {W W' : World} {b o : Nat} (h : W'.heap[b]? = W.heap[b]?) : W'.frozen? ⟨b, o, none⟩ = W.frozen? ⟨b, o, none⟩ := by simp only [World.frozen?, h]
theorem JL.grown {w W W' : World} {T : Nat} {ready : Obj} {ts : List Tok} (h : JL w T ready ts W) (G : W.grownBy W' (some (T + 3))) : JL w T ready ts W' := by
 have ht := h.top
 have hk : ∀ k, k < T + 6 → k ≠ T + 3 → W'.heap[k]? = W.heap[k]? := fun k h1 h2 => G.block k (by omega) (by simp; omega)
 obtain ⟨p, n, c, h1, h2⟩ := h.box
 refine ⟨h.low.grown G (by omega) (fun k e => by cases e; omega), Nat.le_trans ht G.size, ⟨p, n, c, (World.cell?_of_block (a := ⟨T, 0, none⟩) (hk T (by omega) (by omega))).trans h1, h2.grownS (by omega) G⟩, (frozen_of_block (hk T (by omega) (by omega))).trans h.fz,
  ⟨(World.cell?_of_block (a := ⟨T + 1, 0, none⟩) (hk (T + 1) (by omega) (by omega))).trans h.code.1, (frozen_of_block (hk (T + 1) (by omega) (by omega))).trans h.code.2⟩,
  ⟨(World.cell?_of_block (a := ⟨T + 2, 0, none⟩) (hk (T + 2) (by omega) (by omega))).trans h.place.1, (frozen_of_block (hk (T + 2) (by omega) (by omega))).trans h.place.2⟩,
  (hk (T + 4) (by omega) (by omega)).trans h.mark, (hk (T + 5) (by omega) (by omega)).trans h.record⟩
theorem hybrid_own {W0 : World} {T k cp : Nat} {oS busy : Obj} {p : Option Addr} {ts : List Tok} (h : OwnK W0 (T + 6) p k cp ts) : OwnK ((W0.putObj (T + 3) oS).putObj (T + 5) busy) (T + 6) p k cp ts :=
 (h.grownS (S := T + 3) (by omega) (grownBy_putObj' _ _ _)).grownS (S := T + 5) (by omega) (grownBy_putObj' _ _ _)
theorem lay6 (w : World) (o0 o1 o2 o3 o4 o5 : Obj) (W : World) (h : W = (((((w.alloc o0).alloc o1).alloc o2).alloc o3).alloc o4).alloc o5) :
  Below w.heap.size w W ∧ W.heap.size = w.heap.size + 6 ∧ W.heap[w.heap.size]? = some o0 ∧ W.heap[w.heap.size + 1]? = some o1 ∧ W.heap[w.heap.size + 2]? = some o2 ∧ W.heap[w.heap.size + 3]? = some o3 ∧ W.heap[w.heap.size + 4]? = some o4 ∧ W.heap[w.heap.size + 5]? = some o5 := by
 subst h
 have hb : ∀ (V : World) (o : Obj), Below w.heap.size w V → Below w.heap.size w (V.alloc o) := fun V o h => h.alloc h.size o
 refine ⟨hb _ _ (hb _ _ (hb _ _ (hb _ _ (hb _ _ (hb _ _ (Below.refl _ _)))))), by simp, ?_, ?_, ?_, ?_, ?_, ?_⟩
 ·show ((((((w.heap.push o0).push o1).push o2).push o3).push o4).push o5)[w.heap.size]? = some o0
  simp only [Array.getElem?_push, Array.size_push]
  repeat' split
  all_goals first | rfl | omega | (exact absurd trivial ‹¬True›)
 ·show ((((((w.heap.push o0).push o1).push o2).push o3).push o4).push o5)[w.heap.size + 1]? = some o1
  simp only [Array.getElem?_push, Array.size_push]
  repeat' split
  all_goals first | rfl | omega | (exact absurd trivial ‹¬True›)
 ·show ((((((w.heap.push o0).push o1).push o2).push o3).push o4).push o5)[w.heap.size + 2]? = some o2
  simp only [Array.getElem?_push, Array.size_push]
  repeat' split
  all_goals first | rfl | omega | (exact absurd trivial ‹¬True›)
 ·show ((((((w.heap.push o0).push o1).push o2).push o3).push o4).push o5)[w.heap.size + 3]? = some o3
  simp only [Array.getElem?_push, Array.size_push]
  repeat' split
  all_goals first | rfl | omega | (exact absurd trivial ‹¬True›)
 ·show ((((((w.heap.push o0).push o1).push o2).push o3).push o4).push o5)[w.heap.size + 4]? = some o4
  simp only [Array.getElem?_push, Array.size_push]
  repeat' split
  all_goals first | rfl | omega | (exact absurd trivial ‹¬True›)
 ·show ((((((w.heap.push o0).push o1).push o2).push o3).push o4).push o5)[w.heap.size + 5]? = some o5
  simp only [Array.getElem?_push, Array.size_push]
  repeat' split
  all_goals first | rfl | omega | (exact absurd trivial ‹¬True›)
theorem round_before {W0 W V : World} {T : Nat} {oS busy : Obj} (G : W0.grownBy W (some (T + 3))) (ht : T + 6 ≤ W0.heap.size) (hS : W.heap[T + 3]? = some oS) (hV : W.grownBy V (some (T + 5))) (h5 : V.heap[T + 5]? = some busy) :
  Below W0.heap.size ((W0.putObj (T + 3) oS).putObj (T + 5) busy) V := by
 have hs := G.size; refine ⟨hV.os.trans G.os, hV.tape.trans G.tape, hV.output.trans G.output, ?_, fun k hk => ?_⟩
 ·have h := Nat.le_trans G.size hV.size
  simpa using h
 ·by_cases h5' : k = T + 5
  ·subst h5'
   rw [World.putObj_heap_same (by simp; omega)]; exact h5
  ·rw [World.putObj_heap_other h5', hV.block k (by omega) (by simp; omega)]
   by_cases h3 : k = T + 3
   ·subst h3
    rw [World.putObj_heap_same (by omega)]; exact hS
   ·rw [World.putObj_heap_other h3]
    exact G.block k hk (by simp; omega)
theorem round_after {w W V w7 : World} {T g n7 c7 : Nat} {ready busy : Obj} {ts ts' : List Tok} (hj : JL w T ready ts W) (hV : W.grownBy V (some (T + 5))) (h5 : V.heap[T + 5]? = some busy) (hb7 : Below (T + 6) V w7) (hown : OwnK w7 (T + 6) (some ⟨g, 0, none⟩) n7 c7 ts') :
  (w7.setCell ⟨T, 0, none⟩ (.slice (some ⟨g, 0, none⟩) n7 c7)).heap[T + 5]? = some busy ∧ JL w T ready ts' ((w7.setCell ⟨T, 0, none⟩ (.slice (some ⟨g, 0, none⟩) n7 c7)).putObj (T + 5) ready) ∧ RK (T + 3) T W ((w7.setCell ⟨T, 0, none⟩ (.slice (some ⟨g, 0, none⟩) n7 c7)).putObj (T + 5) ready) := by
 have ht := hj.top; have hsz := Nat.le_trans hV.size hb7.size
 obtain ⟨X, eX⟩ : ∃ X, X = w7.setCell ⟨T, 0, none⟩ (.slice (some ⟨g, 0, none⟩) n7 c7) := ⟨_, rfl⟩
 have GX : w7.grownBy X (some T) := by rw [eX]; exact grown_setCell w7 ⟨T, 0, none⟩ _
 have hX7 : X.heap.size = w7.heap.size := by rw [eX]; simp
 have h7 : ∀ k, k < T + 6 → k ≠ T + 5 → w7.heap[k]? = W.heap[k]? := fun k h1 h2 => (hb7.block k h1).trans (hV.block k (by omega) (by simp; omega))
 have hX : ∀ k, k < T + 6 → k ≠ T → X.heap[k]? = w7.heap[k]? := fun k h1 h2 => GX.block k (by omega) (by simp; omega)
 have cT : w7.cell? ⟨T, 0, none⟩ = W.cell? ⟨T, 0, none⟩ := World.cell?_of_block (a := ⟨T, 0, none⟩) (h7 T (by omega) (by omega)); obtain ⟨p0, n0, c0, hb0, _⟩ := hj.box
 have cX : X.cell? ⟨T, 0, none⟩ = some (.slice (some ⟨g, 0, none⟩) n7 c7) := by rw [eX]; exact World.cell?_setCell_same' _ _ _ (by rw [cT, hb0]; rfl)
 have fX : X.frozen? ⟨T, 0, none⟩ = false := by rw [eX, World.frozen?_setCell, frozen_of_block (h7 T (by omega) (by omega))]; exact hj.fz
 rw [← eX]
 obtain ⟨Y, eY⟩ : ∃ Y, Y = X.putObj (T + 5) ready := ⟨_, rfl⟩
 rw [← eY]
 have hY : ∀ k, k ≠ T + 5 → Y.heap[k]? = X.heap[k]? := fun k h => by rw [eY]; exact World.putObj_heap_other h
 have hYs : Y.heap.size = X.heap.size := by rw [eY]; simp
 have hW : ∀ k, k < T + 6 → k ≠ T → k ≠ T + 5 → Y.heap[k]? = W.heap[k]? := fun k h1 h2 h3 => (hY k h3).trans ((hX k h1 h2).trans (h7 k h1 h3))
 refine ⟨(hX (T + 5) (by omega) (by omega)).trans ((hb7.block (T + 5) (by omega)).trans h5), ?_, ⟨by omega, fun k h1 h2 => hW k (by omega) h2 (by omega)⟩⟩
 have eos : Y.os = W.os := by rw [eY]; exact GX.os.trans (hb7.os.trans hV.os)
 have etp : Y.tape = W.tape := by rw [eY]; exact GX.tape.trans (hb7.tape.trans hV.tape)
 have eop : Y.output = W.output := by rw [eY]; exact GX.output.trans (hb7.output.trans hV.output)
 have hl := hj.low
 refine ⟨⟨eos.trans hl.os, etp.trans hl.tape, eop.trans hl.output, by have := hl.size; omega, fun k hk => (hW k (by omega) (by omega) (by omega)).trans (hl.block k hk)⟩, by omega, ⟨_, _, _, (World.cell?_of_block (a := ⟨T, 0, none⟩) (hY T (by omega))).trans cX, ?_⟩, (frozen_of_block (hY T (by omega))).trans fX,
  ⟨(World.cell?_of_block (a := ⟨T + 1, 0, none⟩) (hW (T + 1) (by omega) (by omega) (by omega))).trans hj.code.1, (frozen_of_block (hW (T + 1) (by omega) (by omega) (by omega))).trans hj.code.2⟩,
  ⟨(World.cell?_of_block (a := ⟨T + 2, 0, none⟩) (hW (T + 2) (by omega) (by omega) (by omega))).trans hj.place.1, (frozen_of_block (hW (T + 2) (by omega) (by omega) (by omega))).trans hj.place.2⟩,
  (hW (T + 4) (by omega) (by omega) (by omega)).trans hj.mark, by rw [eY]; exact World.putObj_heap_same (by omega)⟩
 rw [eY]; exact (hown.grownS (S := T) (by omega) GX).grownS (S := T + 5) (by omega) (grownBy_putObj' _ _ _)
theorem alloc_grown (w : World) (o : Obj) (row : Option Nat) : w.grownBy (w.alloc o) row := grown_of_below ((Below.refl _ _).alloc (Nat.le_refl _) _) _
theorem round_world (W : World) (T : Nat) (o1 o2 busy : Obj) (ht : T + 6 ≤ W.heap.size) : W.grownBy (((W.alloc o1).putObj (T + 5) busy).alloc o2) (some (T + 5)) ∧ (((W.alloc o1).putObj (T + 5) busy).alloc o2).heap[T + 5]? = some busy ∧
  (((W.alloc o1).putObj (T + 5) busy).alloc o2).heap[W.heap.size]? = some o1 ∧ (((W.alloc o1).putObj (T + 5) busy).alloc o2).heap[W.heap.size + 1]? = some o2 := by
 have hs : ((W.alloc o1).putObj (T + 5) busy).heap.size = W.heap.size + 1 := by simp
 have hold : ∀ k, k < W.heap.size + 1 → (((W.alloc o1).putObj (T + 5) busy).alloc o2).heap[k]? = ((W.alloc o1).putObj (T + 5) busy).heap[k]? := fun k hk => Below.heap_alloc _ _ _ (by omega)
 refine ⟨((alloc_grown W o1 _).trans (grownBy_putObj' _ _ _)).trans (alloc_grown _ o2 _), ?_, ?_, ?_⟩
 ·rw [hold _ (by omega)]; exact World.putObj_heap_same (by simp; omega)
 ·rw [hold _ (by omega), World.putObj_heap_other (by omega)]; exact heap_alloc_new W o1
 ·have := heap_alloc_new ((W.alloc o1).putObj (T + 5) busy) o2
  rw [hs] at this; exact this
attribute [local go_sem] Oper.semAt_some
theorem stored3 {T nn c : Nat} {p : Option Addr} {ts : List Tok} {done : Obj} {W' V Z : World} (v0 : V.cell? ⟨T, 0, none⟩ = some (.slice p nn c)) (v1 : V.cell? ⟨T + 1, 0, none⟩ = some (.int .i64 0)) (v2 : V.cell? ⟨T + 1 + 1, 0, none⟩ = some (.int .i64 0))
  (hown : OwnK W' (T + 6) p nn c ts) (hV : V = W'.putObj (T + 5) done) (hZ : Z = ((V.setCell ⟨T, 0, none⟩ (.slice p nn c)).setCell ⟨T + 1, 0, none⟩ (.int .i64 0)).setCell ⟨T + 1 + 1, 0, none⟩ (.int .i64 0)) :
  Z.cell? ⟨T, 0, none⟩ = some (.slice p nn c) ∧ Z.cell? ⟨T + 1, 0, none⟩ = some (.int .i64 0) ∧ Z.cell? ⟨T + 1 + 1, 0, none⟩ = some (.int .i64 0) ∧
   (∀ k, k ≠ T → k ≠ T + 1 → k ≠ T + 1 + 1 → k ≠ T + 5 → Z.heap[k]? = W'.heap[k]?) ∧ OwnK Z (T + 6) p nn c ts ∧ Z.os = W'.os ∧ Z.tape = W'.tape ∧ Z.output = W'.output ∧ Z.heap.size = W'.heap.size := by
 have far : ∀ (W : World) (B B' o : Nat) (v : Value), B ≠ B' → (W.setCell ⟨B, 0, none⟩ v).cell? ⟨B', o, none⟩ = W.cell? ⟨B', o, none⟩ := fun W B B' o v h => World.cell?_setCell_far W ⟨B, 0, none⟩ ⟨B', o, none⟩ v h
 subst hZ; refine ⟨?_, ?_, ?_, fun k h0 h1 h2 h5 => ?_, ?_, ?_, ?_, ?_, ?_⟩
 ·rw [far _ _ _ _ _ (by omega), far _ _ _ _ _ (by omega)]
  exact World.cell?_setCell_same' _ _ _ (by rw [v0]; rfl)
 ·rw [far _ _ _ _ _ (by omega)]
  exact World.cell?_setCell_same' _ _ _ (by rw [far _ _ _ _ _ (by omega), v1]; rfl)
 ·exact World.cell?_setCell_same' _ _ _ (by rw [far _ _ _ _ _ (by omega), far _ _ _ _ _ (by omega), v2]; rfl)
 ·rw [heap_setCell_other _ ⟨T + 1 + 1, 0, none⟩ k _ (fun e => h2 (by simpa using e)), heap_setCell_other _ ⟨T + 1, 0, none⟩ k _ (fun e => h1 (by simpa using e)), heap_setCell_other _ ⟨T, 0, none⟩ k _ (fun e => h0 (by simpa using e)), hV]
  exact World.putObj_heap_other h5
 ·rw [hV]
  exact (((hown.grownS (S := T + 5) (by omega) (grownBy_putObj' _ _ _)).grownS (S := T) (by omega) (grown_setCell _ ⟨T, 0, none⟩ _)).grownS (S := T + 1) (by omega) (grown_setCell _ ⟨T + 1, 0, none⟩ _)).grownS (S := T + 1 + 1) (by omega) (grown_setCell _ ⟨T + 1 + 1, 0, none⟩ _)
 ·rw [hV]; exact (grown_setCell _ ⟨T + 1 + 1, 0, none⟩ _).os.trans ((grown_setCell _ ⟨T + 1, 0, none⟩ _).os.trans (grown_setCell _ ⟨T, 0, none⟩ _).os)
 ·rw [hV]; exact (grown_setCell _ ⟨T + 1 + 1, 0, none⟩ _).tape.trans ((grown_setCell _ ⟨T + 1, 0, none⟩ _).tape.trans (grown_setCell _ ⟨T, 0, none⟩ _).tape)
 ·rw [hV]; exact (grown_setCell _ ⟨T + 1 + 1, 0, none⟩ _).output.trans ((grown_setCell _ ⟨T + 1, 0, none⟩ _).output.trans (grown_setCell _ ⟨T, 0, none⟩ _).output)
 ·rw [hV]; simp
set_option maxRecDepth 100000 in
set_option maxHeartbeats 600000 in
theorem lexImpl_any (b cap n : Nat) (xs : List Int) (m : Int) (w : World) (hb : Bytes xs) (hn : n = xs.length) (hl : n ≤ 10000) (hcap : n ≤ cap) (hc : ∀ i, i < xs.length → w.cell? ⟨b, i, none⟩ = some (.int .u8 (xs.getD i 0))) (hbl : b < w.heap.size) (hT : Tab w)
  (hM : w.cell? ⟨2, 0, none⟩ = some (.int .i64 m)) (hE : w.cell? ⟨0, 0, none⟩ = some (.iface 123 (.agg #[.pointer (some ⟨3, 62, none⟩)]))) :
  Calls Tryz.prog 6 #[.slice (some ⟨b, 0, none⟩) n cap] w (LexSOut w (lexI xs 0 (-1) [])) := by
 have hmf : ∀ (fn : Fn) (first cap : Array Value) (w : World), (Instr.makeFunc fn first cap).run Tryz.prog w = .ok (.func fn first cap) w := fun _ _ _ _ => rfl
 have hl' : ¬ (10000 : Int) < (n : Int) := by omega
 obtain ⟨R, eR⟩ : ∃ R, R = lexI xs 0 (-1) [] := ⟨_, rfl⟩
 have HER : Hid (R = lexI xs 0 (-1) []) := eR; rw [← eR]; clear eR; refine (callsIn_wide (n := 6)).1 ?_; refine callsIn_of_wp_marks Tryz.func6 rfl trivial ?_ rfl; simp only [Tryz.ntmps6, List.size_toArray, List.length_cons, List.length_nil, Nat.reduceAdd, Nat.reduceSub, Array.replicate_succ, Array.replicate_zero, List.push_toArray, List.append_toArray, List.nil_append, List.cons_append]
 gi_wp2_with fail
 obtain ⟨T, eT⟩ : ∃ T, T = w.heap.size := ⟨_, rfl⟩
 refine wpIn_range_pan (gf := 16) (first := #[.pointer (some ⟨w.heap.size + 1 + 1 + 1, 0, none⟩)]) rfl (enters_of Tryz.func16 (by kernel_rfl) rfl) ?_; rintro l D ready busy done W1 hD hL hW1 hr1 hr2 hr3 hround
 have eD : D = T + 4 := by rw [hD, eT]; simp
 have eL : l = T + 5 := by rw [hL, eT]; simp
 clear hD hL; subst eD; subst eL; obtain ⟨hLow, hsz, k0, k1, k2, k3, k4, k5⟩ := lay6 w _ _ _ _ _ _ W1 hW1; rw [← eT] at hsz k0 k1 k2 k3 k4 k5
 have HJ0 : Hid (JL w T ready [] W1) := by
  refine ⟨by rw [eT]; exact hLow, by omega, ⟨none, 0, 0, cell_of_row _ _ 0 _ _ _ k0, OwnK.nil _ _⟩, frozen_of_row _ _ _ _ _ k0, ⟨cell_of_row _ _ 0 _ _ _ k1, frozen_of_row _ _ _ _ _ k1⟩, ⟨cell_of_row _ _ 0 _ _ _ k2, frozen_of_row _ _ _ _ _ k2⟩, k4, k5⟩
 have HG : Geo (T + 3) b T := ⟨by rw [eT]; exact hbl, by rw [eT]; exact World.block_lt_of_cell? _ _ (hT 0 (by decide)), by rw [eT]; exact World.block_lt_of_cell? _ _ hM, by omega⟩
 have HS : SSt W1 (T + 3) b n cap xs m 0 (-1) := by
  refine ⟨⟨hb, hn, hcap, hl, by rw [hn]; exact cell_of_row _ _ 0 _ _ _ k3, cell_of_row _ _ 1 _ _ _ k3, fun j => frozen_of_row _ _ _ _ _ k3, by omega, fun i hi => cell_later hLow (hc i hi), hT.below hLow⟩, cell_later hLow hM, 0, 0, 0, _, _, cell_of_row _ _ 2 _ _ _ k3, cell_of_row _ _ 3 _ _ _ k3, cell_of_row _ _ 4 _ _ _ k3, cell_of_row _ _ 5 _ _ _ k3, cell_of_row _ _ 6 _ _ _ k3, by decide, by decide, by decide⟩
 rw [← eT]
 show CallsIn _ _ _ _ #[.pointer (some ⟨T + 3, 0, none⟩), .func (.yield (T + 5)) #[] #[]] W1 _
 have HRND : Hid _ := hround; have HLW : Hid (Below w.heap.size w W1) := hLow; clear hround k0 k1 k2 k3 k4 k5 hLow hW1; refine (tokens_in (T + 3) b n cap T (T + 5) 5 xs m HG (JL w T ready) (fun ts W W' h G => h.grown G) ?round W1 HS HJ0.out).mono ?post
 case round =>
  intro ts W0 W kd pos len p k cp ys v hj hlen G hS0 ho
  have hg := hj.grown G; refine HRND.out _ W _ rfl hg.record ?_; rw [← eT]; obtain ⟨p0, n0, c0, hbox, hown⟩ := hj.box; have htop := hj.top; have htopW := hg.top
  obtain ⟨oS, hoS⟩ : ∃ oS, W.heap[T + 3]? = some oS := ⟨_, Array.getElem?_eq_getElem (by omega)⟩
  have cT : W.cell? ⟨T, 0, none⟩ = some (.slice p0 n0 c0) := (World.cell?_of_block (a := ⟨T, 0, none⟩) (G.block T (by omega) (by simp))).trans hbox
  have hn0 : n0 ≤ 10000 := by rw [hown.1]; exact hlen
  obtain ⟨GV, g5, gA, gB⟩ := round_world W T (.cells #[.int .i64 kd, .int .i64 pos, .int .i64 len, .slice p k cp, .int .i64 v] 28) (.cells #[.int .i64 kd, .int .i64 pos, .int .i64 len, .slice p k cp, .int .i64 v] 28) busy htopW
  obtain ⟨V2, eV2⟩ : ∃ V2, V2 = (W.alloc (.cells #[.int .i64 kd, .int .i64 pos, .int .i64 len, .slice p k cp, .int .i64 v] 28)).putObj (T + 5) busy := ⟨_, rfl⟩
  have hV2 : V2.heap.size = W.heap.size + 1 := by rw [eV2]; simp
  rw [← eV2] at GV g5 gA gB
  have hold : ∀ j, j < W.heap.size + 1 → (V2.alloc (.cells #[.int .i64 kd, .int .i64 pos, .int .i64 len, .slice p k cp, .int .i64 v] 28)).heap[j]? = V2.heap[j]? := fun j hj => Below.heap_alloc _ _ _ (by omega)
  obtain ⟨⟨a0, a1, a2, a3, a4⟩, af⟩ := five_cells ((hold _ (by omega)).symm.trans gA); have hT3 : (V2.alloc (.cells #[.int .i64 kd, .int .i64 pos, .int .i64 len, .slice p k cp, .int .i64 v] 28)).heap[T]? = W.heap[T]? := GV.block T (by omega) (by simp); have b0 : V2.cell? ⟨T, 0, none⟩ = some (.slice p0 n0 c0) := (World.cell?_of_block (a := ⟨T, 0, none⟩) ((hold T (by omega)).symm.trans hT3)).trans cT
  obtain ⟨X0, eX0⟩ : ∃ X0, X0 = (W0.putObj (T + 3) oS).putObj (T + 5) busy := ⟨_, rfl⟩
  have hX0 : X0.heap.size = W0.heap.size := by rw [eX0]; simp
  have HBX : Hid (Below X0.heap.size X0 (V2.alloc (.cells #[.int .i64 kd, .int .i64 pos, .int .i64 len, .slice p k cp, .int .i64 v] 28))) := by rw [hX0, eX0]; exact round_before G htop hoS GV g5
  have HJW : Hid (JL w T ready ts W) := hg
  have HOW : Hid (OwnK X0 (T + 6) p0 n0 c0 ts) := by rw [eX0]; exact hybrid_own hown
  have HTX : Hid (T + 6 ≤ X0.heap.size) := by rw [hX0]; exact htop
  have HOT : Hid (OwnT (V2.alloc (.cells #[.int .i64 kd, .int .i64 pos, .int .i64 len, .slice p k cp, .int .i64 v] 28)) X0.heap.size p k cp ys) := by rw [hX0]; exact ho.toT.grownS (S := T + 5) (by omega) GV
  have HNW : Hid _ := news_rt (r := ((kd, (pos : Int), (len : Int), v), p, k, cp)) gB; rw [← hV2] at HNW; have HGV : Hid _ := GV; have HG5 : Hid _ := g5; have HT3 : Hid _ := hT3; have HCT : Hid (W.cell? ⟨T, 0, none⟩ = some (.slice p0 n0 c0)) := cT; have HVV : Hid (V2.heap.size = W.heap.size + 1) := hV2; have HRC : Hid ((W.alloc (.cells #[.int .i64 kd, .int .i64 pos, .int .i64 len, .slice p k cp, .int .i64 v] 28)).heap[T + 5]? = some ready) := (Below.heap_alloc _ _ _ (by omega)).trans hg.record; have HE2 : Hid _ := eV2; have HTT : Hid (T = w.heap.size) := eT; clear hj hg hown hbox ho GV g5 gA gB G HRND HLW HS HJ0 HG hold hT3 cT hV2 hX0 eX0 eV2 hoS htop htopW eT hS0 hlen hsz
  gi_wp2_with fail
  refine ⟨HRC.out, ?_⟩; rw [← HE2.out]; clear HE2 HRC; refine wpIn_block ?_; refine wpIn_region_round (by simp [noDefer]) ?_; go_wp2_with (refine app_tok X0 _ rfl _ _ rfl (T + 6) p0 n0 c0 ts rfl HOW.out HBX.out HTX.out ⟨V2.heap.size, 0, none⟩ 1 rfl (kd, (pos : Int), (len : Int), v) p k cp ys HOT.out HNW.out (by omega) ?_; intro g7 n7 cap7 w7 hown7 hb7 hg7 hn7; have HF7 : Hid _ := round_after HJW.out HGV.out HG5.out hb7 hown7; have c7 : w7.cell? ⟨T, 0, none⟩ = some (.slice p0 n0 c0) := (World.cell?_of_block (a := ⟨T, 0, none⟩) ((hb7.block T (by omega)).trans HT3.out)).trans HCT.out; have f7 : w7.frozen? ⟨T, 0, none⟩ = false := (frozen_of_block ((hb7.block T (by omega)).trans HT3.out)).trans HJW.out.fz; clear hown7 hb7 hg7 hn7); exact HF7.out
 case post =>
  rintro e W' hout; rw [← HER.out] at hout
  cases R with
  | ok ts =>
    obtain ⟨⟨v, rfl⟩, hj⟩ := hout; obtain ⟨p, nn, c, hc0, hown⟩ := hj.box; refine ⟨hj.record, ?_⟩
    have hk : ∀ k, k ≠ T + 5 → (W'.putObj (T + 5) done).heap[k]? = W'.heap[k]? := fun k h => World.putObj_heap_other h
    obtain ⟨V, eV⟩ : ∃ V, V = W'.putObj (T + 5) done := ⟨_, rfl⟩
    rw [← eV] at hk ⊢; have v0 : V.cell? ⟨T, 0, none⟩ = some (.slice p nn c) := (World.cell?_of_block (a := ⟨T, 0, none⟩) (hk T (by omega))).trans hc0; have v1 : V.cell? ⟨T + 1, 0, none⟩ = some (.int .i64 0) := (World.cell?_of_block (a := ⟨T + 1, 0, none⟩) (hk (T + 1) (by omega))).trans hj.code.1; have v2 : V.cell? ⟨T + 1 + 1, 0, none⟩ = some (.int .i64 0) := (World.cell?_of_block (a := ⟨T + 2, 0, none⟩) (hk (T + 2) (by omega))).trans hj.place.1; have f0 : V.frozen? ⟨T, 0, none⟩ = false := (frozen_of_block (hk T (by omega))).trans hj.fz; have f1 : V.frozen? ⟨T + 1, 0, none⟩ = false := (frozen_of_block (hk (T + 1) (by omega))).trans hj.code.2; have f2 : V.frozen? ⟨T + 1 + 1, 0, none⟩ = false := (frozen_of_block (hk (T + 2) (by omega))).trans hj.place.2; have HJ : Hid (JL w T ready ts W') := hj; have HV : Hid (V = W'.putObj (T + 5) done) := eV; have HO : Hid (OwnK W' (T + 6) p nn c ts) := hown
    have HTT : Hid (T = w.heap.size) := eT; clear hk eV hj hc0 hown HRND HJ0 HS HG hT hM hE hc eT
    gi_wp2_with fail
    obtain ⟨Z, eZ⟩ : ∃ Z, Z = ((V.setCell ⟨T, 0, none⟩ (.slice p nn c)).setCell ⟨T + 1, 0, none⟩ (.int .i64 0)).setCell ⟨T + 1 + 1, 0, none⟩ (.int .i64 0) := ⟨_, rfl⟩
    rw [← eZ]; obtain ⟨z0, z1, z2, GZ, OZ, zos, ztp, zop, zsz⟩ := stored3 v0 v1 v2 HO.out HV.out eZ; have hmk : Z.heap[T + 4]? = some (.deferred (some [])) := (GZ (T + 4) (by omega) (by omega) (by omega) (by omega)).trans HJ.out.mark; have hlow := HJ.out.low; have htop := HJ.out.top
    obtain ⟨Y, eY⟩ : ∃ Y, Y = Z.putObj (T + 4) (.deferred none) := ⟨_, rfl⟩
    have hY : ∀ k, k ≠ T + 4 → Y.heap[k]? = Z.heap[k]? := fun k h => by rw [eY]; exact World.putObj_heap_other h
    have y0 : Y.cell? ⟨T, 0, none⟩ = some (.slice p nn c) := (World.cell?_of_block (a := ⟨T, 0, none⟩) (hY T (by omega))).trans z0; have y1 : Y.cell? ⟨T + 1, 0, none⟩ = some (.int .i64 0) := (World.cell?_of_block (a := ⟨T + 1, 0, none⟩) (hY (T + 1) (by omega))).trans z1; have y2 : Y.cell? ⟨T + 1 + 1, 0, none⟩ = some (.int .i64 0) := (World.cell?_of_block (a := ⟨T + 1 + 1, 0, none⟩) (hY (T + 1 + 1) (by omega))).trans z2
    have oY : OwnK Y (T + 6) p nn c ts := by rw [eY]; exact OZ.grownS (S := T + 4) (by omega) (grownBy_putObj' _ _ _)
    have bY : Below w.heap.size w Y := by
     have e1 : Y.os = Z.os := by rw [eY]; rfl
     have e2 : Y.tape = Z.tape := by rw [eY]; rfl
     have e3 : Y.output = Z.output := by rw [eY]; rfl
     have e4 : Y.heap.size = Z.heap.size := by rw [eY]; simp
     rw [← HTT.out]; exact ⟨e1.trans (zos.trans hlow.os), e2.trans (ztp.trans hlow.tape), e3.trans (zop.trans hlow.output), by have := hlow.size; omega, fun k hk => (hY k (by omega)).trans ((GZ k (by omega) (by omega) (by omega) (by omega)).trans (hlow.block k hk))⟩
    have oY' : OwnK Y w.heap.size p nn c ts := oY.mono (by have := HTT.out; omega); refine ⟨by simp, .inl ⟨_, _, rfl, run_takeDeferred hmk, ?_⟩⟩; rw [← eY]; refine ⟨by simp, .inr ⟨fun _ => by decide, _, _, 14, #[.pointer (some ⟨T, 0, none⟩), .pointer (some ⟨T + 1, 0, none⟩), .pointer (some ⟨T + 1 + 1, 0, none⟩)], rfl, by simp [invoke, go_sem], fun g _ => trivial, (lexD_idle _ (.pointer (some ⟨T, 0, none⟩)) (.pointer (some ⟨T + 1, 0, none⟩)) (.pointer (some ⟨T + 1 + 1, 0, none⟩)) _).mono ?_⟩⟩; rintro e u' w' ⟨rfl, rfl, rfl⟩; refine ⟨.tuple #[.slice p nn c, .int .i64 0, .int .i64 0], by simp [results, Tryz.results6, go_sem, y0, y1, y2], p, nn, c, rfl, oY', bY⟩
  | error r =>
    obtain ⟨cd, q⟩ := r; obtain ⟨hfa, ts, hj⟩ := hout
    cases hfa
    have hlow := hj.low; have htop := hj.top; obtain ⟨p, nn, c, hc0, _⟩ := hj.box
    obtain ⟨Y, eY⟩ : ∃ Y, Y = W'.putObj (T + 4) (.deferred none) := ⟨_, rfl⟩
    have hY : ∀ k, k ≠ T + 4 → Y.heap[k]? = W'.heap[k]? := fun k h => by rw [eY]; exact World.putObj_heap_other h
    have e4 : Y.heap.size = W'.heap.size := by rw [eY]; simp
    have y0 : Y.cell? ⟨T, 0, none⟩ = some (.slice p nn c) := (World.cell?_of_block (a := ⟨T, 0, none⟩) (hY T (by omega))).trans hc0; have y1 : Y.cell? ⟨T + 1, 0, none⟩ = some (.int .i64 0) := (World.cell?_of_block (a := ⟨T + 1, 0, none⟩) (hY (T + 1) (by omega))).trans hj.code.1; have y2 : Y.cell? ⟨T + 1 + 1, 0, none⟩ = some (.int .i64 0) := (World.cell?_of_block (a := ⟨T + 1 + 1, 0, none⟩) (hY (T + 1 + 1) (by omega))).trans hj.place.1; have f0 : Y.frozen? ⟨T, 0, none⟩ = false := (frozen_of_block (hY T (by omega))).trans hj.fz; have f1 : Y.frozen? ⟨T + 1, 0, none⟩ = false := (frozen_of_block (hY (T + 1) (by omega))).trans hj.code.2; have f2 : Y.frozen? ⟨T + 1 + 1, 0, none⟩ = false := (frozen_of_block (hY (T + 1 + 1) (by omega))).trans hj.place.2
    have bY : Below T w Y := ⟨by rw [eY]; exact hlow.os, by rw [eY]; exact hlow.tape, by rw [eY]; exact hlow.output, by have := hlow.size; omega, fun k hk => (hY k (by omega)).trans (hlow.block k hk)⟩
    have hEY : Y.cell? ⟨0, 0, none⟩ = some (.iface 123 (.agg #[.pointer (some ⟨3, 62, none⟩)])) := (bY.cell (by rw [eT]; exact World.block_lt_of_cell? _ _ hE)).trans hE; refine ⟨by simp, .inl ⟨_, _, rfl, run_takeDeferred hj.mark, ?_⟩⟩; rw [← eY]; refine ⟨by simp, .inr ⟨fun _ => by decide, _, _, 14, #[.pointer (some ⟨T, 0, none⟩), .pointer (some ⟨T + 1, 0, none⟩), .pointer (some ⟨T + 1 + 1, 0, none⟩)], rfl, by simp [invoke, go_sem], fun g _ => trivial, (lexD_panicking _ T (T + 1) (T + 1 + 1) _ _ _ cd q Y hEY y0 y1 y2 f0 f1 f2 rfl rfl).mono ?_⟩⟩; rintro e u' w' ⟨rfl, rfl, hs⟩; refine ⟨.tuple #[.slice none 0 0, .int .i64 cd, .int .i64 q], by simp [results, Tryz.results6, go_sem, hs.toks, hs.code, hs.at_], rfl, ?_⟩; rw [← eT]; exact ⟨hs.os.trans bY.os, hs.tape.trans bY.tape, hs.output.trans bY.output, Nat.le_trans bY.size hs.size, fun k hk => (hs.block k (by omega) (by omega) (by omega) (by omega)).trans (bY.block k hk)⟩
end Go.Proofs.YtfgmenkoeflhaaaGreatDoor
