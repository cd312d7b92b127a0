/- Texts of LexJ, LexH, LexR, LexI, LexQ, LxG, LexK, Tk3, Tk4, Tk2, LawLex. Own work of the verifier. -/
import Derived.Test.YtfhelmhcmfpedaaDoorLxMb
import Derived.Test.YtfhelmhcmfpedaaDoorLxMc
import Derived.Test.YtfhelmhcmfpedaaDoorScan2
import Derived.Test.YtfhelmhcmfpedaaDoorTk1
import Derived.Test.YtfhelmhcmfpedaaDoorMarkT
import Derived.Deep.RegionWith
import Derived.Test.YtfhelmhcmfpedaaDoorCopyT
import Derived.Test.YtfhelmhcmfpedaaDoorRowT
namespace Go.Proofs.YtfhelmhcmfpedaaDoor
open Go Go.RowKit Go.Shelf
set_option linter.unusedVariables false

/-- Between two rounds: T: the box of the tokens (behind it those of code and place, the scanner, the mark's block, the loop's record). -/
structure JL (w : World) (T : Nat) (ready : Obj) (ts : List Tok) (W : World) : Prop where
  low : Below T w W
  top : T + 6 ≤ W.heap.size
  box : ∃ p n c, W.cell? ⟨T, 0, none⟩ = some (.slice p n c) ∧ OwnK W (T + 6) p n c ts
  fz : W.frozen? ⟨T, 0, none⟩ = false
  code : W.cell? ⟨T + 1, 0, none⟩ = some (.int .i64 0) ∧ W.frozen? ⟨T + 1, 0, none⟩ = false
  place : W.cell? ⟨T + 2, 0, none⟩ = some (.int .i64 0) ∧ W.frozen? ⟨T + 2, 0, none⟩ = false
  mark : W.heap[T + 4]? = some (.deferred (some []))
  record : W.heap[T + 5]? = some ready
theorem frozen_of_block {W W' : World} {b o : Nat} (h : W'.heap[b]? = W.heap[b]?) : W'.frozen? ⟨b, o, none⟩ = W.frozen? ⟨b, o, none⟩ := by simp only [World.frozen?, h]
theorem JL.grown {w W W' : World} {T : Nat} {ready : Obj} {ts : List Tok} (h : JL w T ready ts W) (G : W.grownBy W' (some (T + 3))) : JL w T ready ts W' := by
  have ht := h.top
  have hk : ∀ k, k < T + 6 → k ≠ T + 3 → W'.heap[k]? = W.heap[k]? := fun k h1 h2 => G.block k (by omega) (by simp; omega)
  obtain ⟨p, n, c, h1, h2⟩ := h.box
  refine ⟨h.low.grown G (by omega) (fun k e => by cases e; omega), Nat.le_trans ht G.size, ⟨p, n, c, (World.cell?_of_block (a := ⟨T, 0, none⟩) (hk T (by omega) (by omega))).trans h1, h2.grownS (by omega) G⟩, (frozen_of_block (hk T (by omega) (by omega))).trans h.fz,
    ⟨(World.cell?_of_block (a := ⟨T + 1, 0, none⟩) (hk (T + 1) (by omega) (by omega))).trans h.code.1, (frozen_of_block (hk (T + 1) (by omega) (by omega))).trans h.code.2⟩,
    ⟨(World.cell?_of_block (a := ⟨T + 2, 0, none⟩) (hk (T + 2) (by omega) (by omega))).trans h.place.1, (frozen_of_block (hk (T + 2) (by omega) (by omega))).trans h.place.2⟩,
    (hk (T + 4) (by omega) (by omega)).trans h.mark, (hk (T + 5) (by omega) (by omega)).trans h.record⟩

end Go.Proofs.YtfhelmhcmfpedaaDoor

namespace Go.Proofs.YtfhelmhcmfpedaaDoor
open Go Go.RowKit Go.Shelf
set_option linter.unusedVariables false

/-- The world in which the tokens so far were owned, the scanner and the record as they stand now: all of it lies in the world now. -/
theorem hybrid {W0 W : World} {T : Nat} {oS busy : Obj} (G : W0.grownBy W (some (T + 3))) (ht : T + 6 ≤ W0.heap.size) (hS : W.heap[T + 3]? = some oS) : Below W0.heap.size ((W0.putObj (T + 3) oS).putObj (T + 5) busy) (W.putObj (T + 5) busy) := by
  refine ⟨G.os, G.tape, G.output, by simpa using G.size, fun k hk => ?_⟩
  have hs := G.size
  by_cases h5 : k = T + 5
  · subst h5
    rw [World.putObj_heap_same (by omega), World.putObj_heap_same (by simp; omega)]
  · rw [World.putObj_heap_other h5, World.putObj_heap_other h5]
    by_cases h3 : k = T + 3
    · subst h3
      rw [World.putObj_heap_same (by omega)]
      exact hS
    · rw [World.putObj_heap_other h3]
      exact G.block k hk (by simp; omega)
theorem hybrid_own {W0 : World} {T k cp : Nat} {oS busy : Obj} {p : Option Addr} {ts : List Tok} (h : OwnK W0 (T + 6) p k cp ts) : OwnK ((W0.putObj (T + 3) oS).putObj (T + 5) busy) (T + 6) p k cp ts :=
  (h.grownS (S := T + 3) (by omega) (grownBy_putObj' _ _ _)).grownS (S := T + 5) (by omega) (grownBy_putObj' _ _ _)

/-- Six blocks laid one behind the other. -/
theorem lay6 (w : World) (o0 o1 o2 o3 o4 o5 : Obj) (W : World) (h : W = (((((w.alloc o0).alloc o1).alloc o2).alloc o3).alloc o4).alloc o5) :
    Below w.heap.size w W ∧ W.heap.size = w.heap.size + 6 ∧ W.heap[w.heap.size]? = some o0 ∧ W.heap[w.heap.size + 1]? = some o1 ∧ W.heap[w.heap.size + 2]? = some o2 ∧ W.heap[w.heap.size + 3]? = some o3 ∧ W.heap[w.heap.size + 4]? = some o4 ∧ W.heap[w.heap.size + 5]? = some o5 := by
  subst h
  have hb : ∀ (V : World) (o : Obj), Below w.heap.size w V → Below w.heap.size w (V.alloc o) := fun V o h => h.alloc h.size o
  refine ⟨hb _ _ (hb _ _ (hb _ _ (hb _ _ (hb _ _ (hb _ _ (Below.refl _ _)))))), by simp, ?_, ?_, ?_, ?_, ?_, ?_⟩
  · show ((((((w.heap.push o0).push o1).push o2).push o3).push o4).push o5)[w.heap.size]? = some o0
    simp only [Array.getElem?_push, Array.size_push]
    repeat' split
    all_goals first | rfl | omega | (exact absurd trivial ‹¬True›)
  · show ((((((w.heap.push o0).push o1).push o2).push o3).push o4).push o5)[w.heap.size + 1]? = some o1
    simp only [Array.getElem?_push, Array.size_push]
    repeat' split
    all_goals first | rfl | omega | (exact absurd trivial ‹¬True›)
  · show ((((((w.heap.push o0).push o1).push o2).push o3).push o4).push o5)[w.heap.size + 2]? = some o2
    simp only [Array.getElem?_push, Array.size_push]
    repeat' split
    all_goals first | rfl | omega | (exact absurd trivial ‹¬True›)
  · show ((((((w.heap.push o0).push o1).push o2).push o3).push o4).push o5)[w.heap.size + 3]? = some o3
    simp only [Array.getElem?_push, Array.size_push]
    repeat' split
    all_goals first | rfl | omega | (exact absurd trivial ‹¬True›)
  · show ((((((w.heap.push o0).push o1).push o2).push o3).push o4).push o5)[w.heap.size + 4]? = some o4
    simp only [Array.getElem?_push, Array.size_push]
    repeat' split
    all_goals first | rfl | omega | (exact absurd trivial ‹¬True›)
  · show ((((((w.heap.push o0).push o1).push o2).push o3).push o4).push o5)[w.heap.size + 5]? = some o5
    simp only [Array.getElem?_push, Array.size_push]
    repeat' split
    all_goals first | rfl | omega | (exact absurd trivial ‹¬True›)

end Go.Proofs.YtfhelmhcmfpedaaDoor

namespace Go.Proofs.YtfhelmhcmfpedaaDoor
open Go Go.RowKit Go.Shelf
set_option linter.unusedVariables false

theorem round_before {W0 W V : World} {T : Nat} {oS busy : Obj} (G : W0.grownBy W (some (T + 3))) (ht : T + 6 ≤ W0.heap.size) (hS : W.heap[T + 3]? = some oS) (hV : W.grownBy V (some (T + 5))) (h5 : V.heap[T + 5]? = some busy) :
    Below W0.heap.size ((W0.putObj (T + 3) oS).putObj (T + 5) busy) V := by
  have hs := G.size
  refine ⟨hV.os.trans G.os, hV.tape.trans G.tape, hV.output.trans G.output, ?_, fun k hk => ?_⟩
  · have h := Nat.le_trans G.size hV.size
    simpa using h
  · by_cases h5' : k = T + 5
    · subst h5'
      rw [World.putObj_heap_same (by simp; omega)]
      exact h5
    · rw [World.putObj_heap_other h5', hV.block k (by omega) (by simp; omega)]
      by_cases h3 : k = T + 3
      · subst h3
        rw [World.putObj_heap_same (by omega)]
        exact hS
      · rw [World.putObj_heap_other h3]
        exact G.block k hk (by simp; omega)
theorem round_after {w W V w7 : World} {T g n7 c7 : Nat} {ready busy : Obj} {ts ts' : List Tok} (hj : JL w T ready ts W) (hV : W.grownBy V (some (T + 5))) (h5 : V.heap[T + 5]? = some busy) (hb7 : Below (T + 6) V w7) (hown : OwnK w7 (T + 6) (some ⟨g, 0, none⟩) n7 c7 ts') :
    (w7.setCell ⟨T, 0, none⟩ (.slice (some ⟨g, 0, none⟩) n7 c7)).heap[T + 5]? = some busy ∧ JL w T ready ts' ((w7.setCell ⟨T, 0, none⟩ (.slice (some ⟨g, 0, none⟩) n7 c7)).putObj (T + 5) ready) ∧ RK (T + 3) T W ((w7.setCell ⟨T, 0, none⟩ (.slice (some ⟨g, 0, none⟩) n7 c7)).putObj (T + 5) ready) := by
  have ht := hj.top
  have hsz := Nat.le_trans hV.size hb7.size
  obtain ⟨X, eX⟩ : ∃ X, X = w7.setCell ⟨T, 0, none⟩ (.slice (some ⟨g, 0, none⟩) n7 c7) := ⟨_, rfl⟩
  have GX : w7.grownBy X (some T) := by rw [eX]; exact grown_setCell w7 ⟨T, 0, none⟩ _
  have hX7 : X.heap.size = w7.heap.size := by rw [eX]; simp
  have h7 : ∀ k, k < T + 6 → k ≠ T + 5 → w7.heap[k]? = W.heap[k]? := fun k h1 h2 => (hb7.block k h1).trans (hV.block k (by omega) (by simp; omega))
  have hX : ∀ k, k < T + 6 → k ≠ T → X.heap[k]? = w7.heap[k]? := fun k h1 h2 => GX.block k (by omega) (by simp; omega)
  have cT : w7.cell? ⟨T, 0, none⟩ = W.cell? ⟨T, 0, none⟩ := World.cell?_of_block (a := ⟨T, 0, none⟩) (h7 T (by omega) (by omega))
  obtain ⟨p0, n0, c0, hb0, _⟩ := hj.box
  have cX : X.cell? ⟨T, 0, none⟩ = some (.slice (some ⟨g, 0, none⟩) n7 c7) := by rw [eX]; exact World.cell?_setCell_same' _ _ _ (by rw [cT, hb0]; rfl)
  have fX : X.frozen? ⟨T, 0, none⟩ = false := by rw [eX, World.frozen?_setCell, frozen_of_block (h7 T (by omega) (by omega))]; exact hj.fz
  rw [← eX]
  obtain ⟨Y, eY⟩ : ∃ Y, Y = X.putObj (T + 5) ready := ⟨_, rfl⟩
  rw [← eY]
  have hY : ∀ k, k ≠ T + 5 → Y.heap[k]? = X.heap[k]? := fun k h => by rw [eY]; exact World.putObj_heap_other h
  have hYs : Y.heap.size = X.heap.size := by rw [eY]; simp
  have hW : ∀ k, k < T + 6 → k ≠ T → k ≠ T + 5 → Y.heap[k]? = W.heap[k]? := fun k h1 h2 h3 => (hY k h3).trans ((hX k h1 h2).trans (h7 k h1 h3))
  refine ⟨(hX (T + 5) (by omega) (by omega)).trans ((hb7.block (T + 5) (by omega)).trans h5), ?_, ⟨by omega, fun k h1 h2 => hW k (by omega) h2 (by omega)⟩⟩
  have eos : Y.os = W.os := by rw [eY]; exact GX.os.trans (hb7.os.trans hV.os)
  have etp : Y.tape = W.tape := by rw [eY]; exact GX.tape.trans (hb7.tape.trans hV.tape)
  have eop : Y.output = W.output := by rw [eY]; exact GX.output.trans (hb7.output.trans hV.output)
  have hl := hj.low
  refine ⟨⟨eos.trans hl.os, etp.trans hl.tape, eop.trans hl.output, by have := hl.size; omega, fun k hk => (hW k (by omega) (by omega) (by omega)).trans (hl.block k hk)⟩, by omega, ⟨_, _, _, (World.cell?_of_block (a := ⟨T, 0, none⟩) (hY T (by omega))).trans cX, ?_⟩, (frozen_of_block (hY T (by omega))).trans fX,
    ⟨(World.cell?_of_block (a := ⟨T + 1, 0, none⟩) (hW (T + 1) (by omega) (by omega) (by omega))).trans hj.code.1, (frozen_of_block (hW (T + 1) (by omega) (by omega) (by omega))).trans hj.code.2⟩,
    ⟨(World.cell?_of_block (a := ⟨T + 2, 0, none⟩) (hW (T + 2) (by omega) (by omega) (by omega))).trans hj.place.1, (frozen_of_block (hW (T + 2) (by omega) (by omega) (by omega))).trans hj.place.2⟩,
    (hW (T + 4) (by omega) (by omega) (by omega)).trans hj.mark, by rw [eY]; exact World.putObj_heap_same (by omega)⟩
  rw [eY]
  exact (hown.grownS (S := T) (by omega) GX).grownS (S := T + 5) (by omega) (grownBy_putObj' _ _ _)
theorem alloc_grown (w : World) (o : Obj) (row : Option Nat) : w.grownBy (w.alloc o) row := grown_of_below ((Below.refl _ _).alloc (Nat.le_refl _) _) _
/-- Two new rows and the record between them. -/
theorem round_world (W : World) (T : Nat) (o1 o2 busy : Obj) (ht : T + 6 ≤ W.heap.size) : W.grownBy (((W.alloc o1).putObj (T + 5) busy).alloc o2) (some (T + 5)) ∧ (((W.alloc o1).putObj (T + 5) busy).alloc o2).heap[T + 5]? = some busy ∧
    (((W.alloc o1).putObj (T + 5) busy).alloc o2).heap[W.heap.size]? = some o1 ∧ (((W.alloc o1).putObj (T + 5) busy).alloc o2).heap[W.heap.size + 1]? = some o2 := by
  have hs : ((W.alloc o1).putObj (T + 5) busy).heap.size = W.heap.size + 1 := by simp
  have hold : ∀ k, k < W.heap.size + 1 → (((W.alloc o1).putObj (T + 5) busy).alloc o2).heap[k]? = ((W.alloc o1).putObj (T + 5) busy).heap[k]? := fun k hk => Below.heap_alloc _ _ _ (by omega)
  refine ⟨((alloc_grown W o1 _).trans (grownBy_putObj' _ _ _)).trans (alloc_grown _ o2 _), ?_, ?_, ?_⟩
  · rw [hold _ (by omega)]; exact World.putObj_heap_same (by simp; omega)
  · rw [hold _ (by omega), World.putObj_heap_other (by omega)]; exact heap_alloc_new W o1
  · have := heap_alloc_new ((W.alloc o1).putObj (T + 5) busy) o2
    rw [hs] at this
    exact this

end Go.Proofs.YtfhelmhcmfpedaaDoor

namespace Go.Proofs.YtfhelmhcmfpedaaDoor
open Go Go.RowKit Go.Shelf
set_option linter.unusedVariables false
attribute [local go_sem] Oper.semAt_some

/-- The three results stored. -/
theorem stored3 {T nn c : Nat} {p : Option Addr} {ts : List Tok} {done : Obj} {W' V Z : World} (v0 : V.cell? ⟨T, 0, none⟩ = some (.slice p nn c)) (v1 : V.cell? ⟨T + 1, 0, none⟩ = some (.int .i64 0)) (v2 : V.cell? ⟨T + 1 + 1, 0, none⟩ = some (.int .i64 0))
    (hown : OwnK W' (T + 6) p nn c ts) (hV : V = W'.putObj (T + 5) done) (hZ : Z = ((V.setCell ⟨T, 0, none⟩ (.slice p nn c)).setCell ⟨T + 1, 0, none⟩ (.int .i64 0)).setCell ⟨T + 1 + 1, 0, none⟩ (.int .i64 0)) :
    Z.cell? ⟨T, 0, none⟩ = some (.slice p nn c) ∧ Z.cell? ⟨T + 1, 0, none⟩ = some (.int .i64 0) ∧ Z.cell? ⟨T + 1 + 1, 0, none⟩ = some (.int .i64 0) ∧
      (∀ k, k ≠ T → k ≠ T + 1 → k ≠ T + 1 + 1 → k ≠ T + 5 → Z.heap[k]? = W'.heap[k]?) ∧ OwnK Z (T + 6) p nn c ts ∧ Z.os = W'.os ∧ Z.tape = W'.tape ∧ Z.output = W'.output ∧ Z.heap.size = W'.heap.size := by
  have far : ∀ (W : World) (B B' o : Nat) (v : Value), B ≠ B' → (W.setCell ⟨B, 0, none⟩ v).cell? ⟨B', o, none⟩ = W.cell? ⟨B', o, none⟩ := fun W B B' o v h => World.cell?_setCell_far W ⟨B, 0, none⟩ ⟨B', o, none⟩ v h
  subst hZ
  refine ⟨?_, ?_, ?_, fun k h0 h1 h2 h5 => ?_, ?_, ?_, ?_, ?_, ?_⟩
  · rw [far _ _ _ _ _ (by omega), far _ _ _ _ _ (by omega)]
    exact World.cell?_setCell_same' _ _ _ (by rw [v0]; rfl)
  · rw [far _ _ _ _ _ (by omega)]
    exact World.cell?_setCell_same' _ _ _ (by rw [far _ _ _ _ _ (by omega), v1]; rfl)
  · exact World.cell?_setCell_same' _ _ _ (by rw [far _ _ _ _ _ (by omega), far _ _ _ _ _ (by omega), v2]; rfl)
  · rw [heap_setCell_other _ ⟨T + 1 + 1, 0, none⟩ k _ (fun e => h2 (by simpa using e)), heap_setCell_other _ ⟨T + 1, 0, none⟩ k _ (fun e => h1 (by simpa using e)), heap_setCell_other _ ⟨T, 0, none⟩ k _ (fun e => h0 (by simpa using e)), hV]
    exact World.putObj_heap_other h5
  · rw [hV]
    exact (((hown.grownS (S := T + 5) (by omega) (grownBy_putObj' _ _ _)).grownS (S := T) (by omega) (grown_setCell _ ⟨T, 0, none⟩ _)).grownS (S := T + 1) (by omega) (grown_setCell _ ⟨T + 1, 0, none⟩ _)).grownS (S := T + 1 + 1) (by omega) (grown_setCell _ ⟨T + 1 + 1, 0, none⟩ _)
  · rw [hV]; exact (grown_setCell _ ⟨T + 1 + 1, 0, none⟩ _).os.trans ((grown_setCell _ ⟨T + 1, 0, none⟩ _).os.trans (grown_setCell _ ⟨T, 0, none⟩ _).os)
  · rw [hV]; exact (grown_setCell _ ⟨T + 1 + 1, 0, none⟩ _).tape.trans ((grown_setCell _ ⟨T + 1, 0, none⟩ _).tape.trans (grown_setCell _ ⟨T, 0, none⟩ _).tape)
  · rw [hV]; exact (grown_setCell _ ⟨T + 1 + 1, 0, none⟩ _).output.trans ((grown_setCell _ ⟨T + 1, 0, none⟩ _).output.trans (grown_setCell _ ⟨T, 0, none⟩ _).output)
  · rw [hV]; simp

set_option maxRecDepth 100000 in
set_option maxHeartbeats 600000 in
theorem lexImpl_any (b cap n : Nat) (xs : List Int) (m : Int) (w : World) (hb : Bytes xs) (hn : n = xs.length) (hl : n ≤ 10000) (hcap : n ≤ cap) (hc : ∀ i, i < xs.length → w.cell? ⟨b, i, none⟩ = some (.int .u8 (xs.getD i 0))) (hbl : b < w.heap.size) (hT : Tab w)
    (hM : w.cell? ⟨2, 0, none⟩ = some (.int .i64 m)) (hE : w.cell? ⟨1, 0, none⟩ = some (.iface 84 (.agg #[.pointer (some ⟨3, 56, none⟩)]))) :
    Calls Tryd.prog 15 #[.slice (some ⟨b, 0, none⟩) n cap] w (LexSOut w (lexI xs 0 (-1) [])) := by
  have hmf : ∀ (fn : Fn) (first cap : Array Value) (w : World), (Instr.makeFunc fn first cap).run Tryd.prog w = .ok (.func fn first cap) w := fun _ _ _ _ => rfl
  have hl' : ¬ (10000 : Int) < (n : Int) := by omega
  obtain ⟨R, eR⟩ : ∃ R, R = lexI xs 0 (-1) [] := ⟨_, rfl⟩
  have HER : Hid (R = lexI xs 0 (-1) []) := eR
  rw [← eR]
  clear eR
  refine (callsIn_wide (n := 6)).1 ?_
  refine callsIn_of_wp_marks Tryd.func15 rfl trivial ?_ rfl
  simp only [Tryd.ntmps15, List.size_toArray, List.length_cons, List.length_nil, Nat.reduceAdd, Nat.reduceSub, Array.replicate_succ, Array.replicate_zero, List.push_toArray, List.append_toArray, List.nil_append, List.cons_append]
  gi_wp2_with fail
  obtain ⟨T, eT⟩ : ∃ T, T = w.heap.size := ⟨_, rfl⟩
  refine wpIn_range_pan (gf := 32) (first := #[.pointer (some ⟨w.heap.size + 1 + 1 + 1, 0, none⟩)]) rfl (enters_of Tryd.func32 (by kernel_rfl) rfl) ?_
  rintro l D ready busy done W1 hD hL hW1 hr1 hr2 hr3 hround
  have eD : D = T + 4 := by rw [hD, eT]; simp
  have eL : l = T + 5 := by rw [hL, eT]; simp
  clear hD hL
  subst eD
  subst eL
  obtain ⟨hLow, hsz, k0, k1, k2, k3, k4, k5⟩ := lay6 w _ _ _ _ _ _ W1 hW1
  rw [← eT] at hsz k0 k1 k2 k3 k4 k5
  have HJ0 : Hid (JL w T ready [] W1) := by
    refine ⟨by rw [eT]; exact hLow, by omega, ⟨none, 0, 0, cell_of_row _ _ 0 _ _ _ k0, OwnK.nil _ _⟩, frozen_of_row _ _ _ _ _ k0, ⟨cell_of_row _ _ 0 _ _ _ k1, frozen_of_row _ _ _ _ _ k1⟩, ⟨cell_of_row _ _ 0 _ _ _ k2, frozen_of_row _ _ _ _ _ k2⟩, k4, k5⟩
  have HG : Geo (T + 3) b T := ⟨by rw [eT]; exact hbl, by rw [eT]; exact World.block_lt_of_cell? _ _ (hT 0 (by decide)), by rw [eT]; exact World.block_lt_of_cell? _ _ hM, by omega⟩
  have HS : SSt W1 (T + 3) b n cap xs m 0 (-1) := by
    refine ⟨⟨hb, hn, hcap, hl, by rw [hn]; exact cell_of_row _ _ 0 _ _ _ k3, cell_of_row _ _ 1 _ _ _ k3, fun j => frozen_of_row _ _ _ _ _ k3, by omega, fun i hi => cell_later hLow (hc i hi), hT.below hLow⟩, cell_later hLow hM, 0, 0, 0, _, _, cell_of_row _ _ 2 _ _ _ k3, cell_of_row _ _ 3 _ _ _ k3, cell_of_row _ _ 4 _ _ _ k3, cell_of_row _ _ 5 _ _ _ k3, cell_of_row _ _ 6 _ _ _ k3, by decide, by decide, by decide⟩
  rw [← eT]
  show CallsIn _ _ _ _ #[.pointer (some ⟨T + 3, 0, none⟩), .func (.yield (T + 5)) #[] #[]] W1 _
  have HRND : Hid _ := hround
  have HLW : Hid (Below w.heap.size w W1) := hLow
  clear hround k0 k1 k2 k3 k4 k5 hLow hW1
  refine (tokens_in (T + 3) b n cap T (T + 5) 5 xs m HG (JL w T ready) (fun ts W W' h G => h.grown G) ?round W1 HS HJ0.out).mono ?post
  case round =>
    intro ts W0 W kd pos len p k cp ys v hj hlen G hS0 ho
    have hg := hj.grown G
    refine HRND.out _ W _ rfl hg.record ?_
    rw [← eT]
    obtain ⟨p0, n0, c0, hbox, hown⟩ := hj.box
    have htop := hj.top
    have htopW := hg.top
    obtain ⟨oS, hoS⟩ : ∃ oS, W.heap[T + 3]? = some oS := ⟨_, Array.getElem?_eq_getElem (by omega)⟩
    have cT : W.cell? ⟨T, 0, none⟩ = some (.slice p0 n0 c0) := (World.cell?_of_block (a := ⟨T, 0, none⟩) (G.block T (by omega) (by simp))).trans hbox
    have hn0 : n0 ≤ 10000 := by rw [hown.1]; exact hlen
    obtain ⟨GV, g5, gA, gB⟩ := round_world W T (.cells #[.int .i64 kd, .int .i64 pos, .int .i64 len, .slice p k cp, .int .i64 v] 39) (.cells #[.int .i64 kd, .int .i64 pos, .int .i64 len, .slice p k cp, .int .i64 v] 39) busy htopW
    obtain ⟨V2, eV2⟩ : ∃ V2, V2 = (W.alloc (.cells #[.int .i64 kd, .int .i64 pos, .int .i64 len, .slice p k cp, .int .i64 v] 39)).putObj (T + 5) busy := ⟨_, rfl⟩
    have hV2 : V2.heap.size = W.heap.size + 1 := by rw [eV2]; simp
    rw [← eV2] at GV g5 gA gB
    have hold : ∀ j, j < W.heap.size + 1 → (V2.alloc (.cells #[.int .i64 kd, .int .i64 pos, .int .i64 len, .slice p k cp, .int .i64 v] 39)).heap[j]? = V2.heap[j]? := fun j hj => Below.heap_alloc _ _ _ (by omega)
    obtain ⟨⟨a0, a1, a2, a3, a4⟩, af⟩ := five_cells ((hold _ (by omega)).symm.trans gA)
    have hT3 : (V2.alloc (.cells #[.int .i64 kd, .int .i64 pos, .int .i64 len, .slice p k cp, .int .i64 v] 39)).heap[T]? = W.heap[T]? := GV.block T (by omega) (by simp)
    have b0 : V2.cell? ⟨T, 0, none⟩ = some (.slice p0 n0 c0) := (World.cell?_of_block (a := ⟨T, 0, none⟩) ((hold T (by omega)).symm.trans hT3)).trans cT
    obtain ⟨X0, eX0⟩ : ∃ X0, X0 = (W0.putObj (T + 3) oS).putObj (T + 5) busy := ⟨_, rfl⟩
    have hX0 : X0.heap.size = W0.heap.size := by rw [eX0]; simp
    have HBX : Hid (Below X0.heap.size X0 (V2.alloc (.cells #[.int .i64 kd, .int .i64 pos, .int .i64 len, .slice p k cp, .int .i64 v] 39))) := by rw [hX0, eX0]; exact round_before G htop hoS GV g5
    have HJW : Hid (JL w T ready ts W) := hg
    have HOW : Hid (OwnK X0 (T + 6) p0 n0 c0 ts) := by rw [eX0]; exact hybrid_own hown
    have HTX : Hid (T + 6 ≤ X0.heap.size) := by rw [hX0]; exact htop
    have HOT : Hid (OwnT (V2.alloc (.cells #[.int .i64 kd, .int .i64 pos, .int .i64 len, .slice p k cp, .int .i64 v] 39)) X0.heap.size p k cp ys) := by rw [hX0]; exact ho.toT.grownS (S := T + 5) (by omega) GV
    have HNW : Hid _ := news_rt (r := ((kd, (pos : Int), (len : Int), v), p, k, cp)) gB
    rw [← hV2] at HNW
    have HGV : Hid _ := GV
    have HG5 : Hid _ := g5
    have HT3 : Hid _ := hT3
    have HCT : Hid (W.cell? ⟨T, 0, none⟩ = some (.slice p0 n0 c0)) := cT
    have HVV : Hid (V2.heap.size = W.heap.size + 1) := hV2
    have HRC : Hid ((W.alloc (.cells #[.int .i64 kd, .int .i64 pos, .int .i64 len, .slice p k cp, .int .i64 v] 39)).heap[T + 5]? = some ready) := (Below.heap_alloc _ _ _ (by omega)).trans hg.record
    have HE2 : Hid _ := eV2
    have HTT : Hid (T = w.heap.size) := eT
    clear hj hg hown hbox ho GV g5 gA gB G HRND HLW HS HJ0 HG hold hT3 cT hV2 hX0 eX0 eV2 hoS htop htopW eT hS0 hlen hsz
    gi_wp2_with fail
    refine ⟨HRC.out, ?_⟩
    rw [← HE2.out]
    clear HE2 HRC
    refine wpIn_block ?_
    refine wpIn_region_round (by simp [noDefer]) ?_
    go_wp2_with (refine app_tok X0 _ rfl _ _ rfl (T + 6) p0 n0 c0 ts rfl HOW.out HBX.out HTX.out ⟨V2.heap.size, 0, none⟩ 1 rfl (kd, (pos : Int), (len : Int), v) p k cp ys HOT.out HNW.out (by omega) ?_; intro g7 n7 cap7 w7 hown7 hb7 hg7 hn7; have HF7 : Hid _ := round_after HJW.out HGV.out HG5.out hb7 hown7; have c7 : w7.cell? ⟨T, 0, none⟩ = some (.slice p0 n0 c0) := (World.cell?_of_block (a := ⟨T, 0, none⟩) ((hb7.block T (by omega)).trans HT3.out)).trans HCT.out; have f7 : w7.frozen? ⟨T, 0, none⟩ = false := (frozen_of_block ((hb7.block T (by omega)).trans HT3.out)).trans HJW.out.fz; clear hown7 hb7 hg7 hn7)
    exact HF7.out
  case post =>
    rintro e W' hout
    rw [← HER.out] at hout
    cases R with
    | ok ts =>
      obtain ⟨⟨v, rfl⟩, hj⟩ := hout
      obtain ⟨p, nn, c, hc0, hown⟩ := hj.box
      refine ⟨hj.record, ?_⟩
      have hk : ∀ k, k ≠ T + 5 → (W'.putObj (T + 5) done).heap[k]? = W'.heap[k]? := fun k h => World.putObj_heap_other h
      obtain ⟨V, eV⟩ : ∃ V, V = W'.putObj (T + 5) done := ⟨_, rfl⟩
      rw [← eV] at hk ⊢
      have v0 : V.cell? ⟨T, 0, none⟩ = some (.slice p nn c) := (World.cell?_of_block (a := ⟨T, 0, none⟩) (hk T (by omega))).trans hc0
      have v1 : V.cell? ⟨T + 1, 0, none⟩ = some (.int .i64 0) := (World.cell?_of_block (a := ⟨T + 1, 0, none⟩) (hk (T + 1) (by omega))).trans hj.code.1
      have v2 : V.cell? ⟨T + 1 + 1, 0, none⟩ = some (.int .i64 0) := (World.cell?_of_block (a := ⟨T + 2, 0, none⟩) (hk (T + 2) (by omega))).trans hj.place.1
      have f0 : V.frozen? ⟨T, 0, none⟩ = false := (frozen_of_block (hk T (by omega))).trans hj.fz
      have f1 : V.frozen? ⟨T + 1, 0, none⟩ = false := (frozen_of_block (hk (T + 1) (by omega))).trans hj.code.2
      have f2 : V.frozen? ⟨T + 1 + 1, 0, none⟩ = false := (frozen_of_block (hk (T + 2) (by omega))).trans hj.place.2
      have HJ : Hid (JL w T ready ts W') := hj
      have HV : Hid (V = W'.putObj (T + 5) done) := eV
      have HO : Hid (OwnK W' (T + 6) p nn c ts) := hown
      have HTT : Hid (T = w.heap.size) := eT
      clear hk eV hj hc0 hown HRND HJ0 HS HG hT hM hE hc eT
      gi_wp2_with fail
      obtain ⟨Z, eZ⟩ : ∃ Z, Z = ((V.setCell ⟨T, 0, none⟩ (.slice p nn c)).setCell ⟨T + 1, 0, none⟩ (.int .i64 0)).setCell ⟨T + 1 + 1, 0, none⟩ (.int .i64 0) := ⟨_, rfl⟩
      rw [← eZ]
      obtain ⟨z0, z1, z2, GZ, OZ, zos, ztp, zop, zsz⟩ := stored3 v0 v1 v2 HO.out HV.out eZ
      have hmk : Z.heap[T + 4]? = some (.deferred (some [])) := (GZ (T + 4) (by omega) (by omega) (by omega) (by omega)).trans HJ.out.mark
      have hlow := HJ.out.low
      have htop := HJ.out.top
      obtain ⟨Y, eY⟩ : ∃ Y, Y = Z.putObj (T + 4) (.deferred none) := ⟨_, rfl⟩
      have hY : ∀ k, k ≠ T + 4 → Y.heap[k]? = Z.heap[k]? := fun k h => by rw [eY]; exact World.putObj_heap_other h
      have y0 : Y.cell? ⟨T, 0, none⟩ = some (.slice p nn c) := (World.cell?_of_block (a := ⟨T, 0, none⟩) (hY T (by omega))).trans z0
      have y1 : Y.cell? ⟨T + 1, 0, none⟩ = some (.int .i64 0) := (World.cell?_of_block (a := ⟨T + 1, 0, none⟩) (hY (T + 1) (by omega))).trans z1
      have y2 : Y.cell? ⟨T + 1 + 1, 0, none⟩ = some (.int .i64 0) := (World.cell?_of_block (a := ⟨T + 1 + 1, 0, none⟩) (hY (T + 1 + 1) (by omega))).trans z2
      have oY : OwnK Y (T + 6) p nn c ts := by rw [eY]; exact OZ.grownS (S := T + 4) (by omega) (grownBy_putObj' _ _ _)
      have bY : Below w.heap.size w Y := by
        have e1 : Y.os = Z.os := by rw [eY]; rfl
        have e2 : Y.tape = Z.tape := by rw [eY]; rfl
        have e3 : Y.output = Z.output := by rw [eY]; rfl
        have e4 : Y.heap.size = Z.heap.size := by rw [eY]; simp
        rw [← HTT.out]
        exact ⟨e1.trans (zos.trans hlow.os), e2.trans (ztp.trans hlow.tape), e3.trans (zop.trans hlow.output), by have := hlow.size; omega, fun k hk => (hY k (by omega)).trans ((GZ k (by omega) (by omega) (by omega) (by omega)).trans (hlow.block k hk))⟩
      have oY' : OwnK Y w.heap.size p nn c ts := oY.mono (by have := HTT.out; omega)
      refine ⟨by simp, .inl ⟨_, _, rfl, run_takeDeferred hmk, ?_⟩⟩
      rw [← eY]
      refine ⟨by simp, .inr ⟨fun _ => by decide, _, _, 30, #[.pointer (some ⟨T, 0, none⟩), .pointer (some ⟨T + 1, 0, none⟩), .pointer (some ⟨T + 1 + 1, 0, none⟩)], rfl, by simp [invoke, go_sem], fun g _ => trivial, (lexD_idle _ (.pointer (some ⟨T, 0, none⟩)) (.pointer (some ⟨T + 1, 0, none⟩)) (.pointer (some ⟨T + 1 + 1, 0, none⟩)) _).mono ?_⟩⟩
      rintro e u' w' ⟨rfl, rfl, rfl⟩
      refine ⟨.tuple #[.slice p nn c, .int .i64 0, .int .i64 0], by simp [results, Tryd.results15, go_sem, y0, y1, y2], p, nn, c, rfl, oY', bY⟩
    | error r =>
      obtain ⟨cd, q⟩ := r
      obtain ⟨hfa, ts, hj⟩ := hout
      cases hfa
      have hlow := hj.low
      have htop := hj.top
      obtain ⟨p, nn, c, hc0, _⟩ := hj.box
      obtain ⟨Y, eY⟩ : ∃ Y, Y = W'.putObj (T + 4) (.deferred none) := ⟨_, rfl⟩
      have hY : ∀ k, k ≠ T + 4 → Y.heap[k]? = W'.heap[k]? := fun k h => by rw [eY]; exact World.putObj_heap_other h
      have e4 : Y.heap.size = W'.heap.size := by rw [eY]; simp
      have y0 : Y.cell? ⟨T, 0, none⟩ = some (.slice p nn c) := (World.cell?_of_block (a := ⟨T, 0, none⟩) (hY T (by omega))).trans hc0
      have y1 : Y.cell? ⟨T + 1, 0, none⟩ = some (.int .i64 0) := (World.cell?_of_block (a := ⟨T + 1, 0, none⟩) (hY (T + 1) (by omega))).trans hj.code.1
      have y2 : Y.cell? ⟨T + 1 + 1, 0, none⟩ = some (.int .i64 0) := (World.cell?_of_block (a := ⟨T + 1 + 1, 0, none⟩) (hY (T + 1 + 1) (by omega))).trans hj.place.1
      have f0 : Y.frozen? ⟨T, 0, none⟩ = false := (frozen_of_block (hY T (by omega))).trans hj.fz
      have f1 : Y.frozen? ⟨T + 1, 0, none⟩ = false := (frozen_of_block (hY (T + 1) (by omega))).trans hj.code.2
      have f2 : Y.frozen? ⟨T + 1 + 1, 0, none⟩ = false := (frozen_of_block (hY (T + 1 + 1) (by omega))).trans hj.place.2
      have bY : Below T w Y := ⟨by rw [eY]; exact hlow.os, by rw [eY]; exact hlow.tape, by rw [eY]; exact hlow.output, by have := hlow.size; omega, fun k hk => (hY k (by omega)).trans (hlow.block k hk)⟩
      have hEY : Y.cell? ⟨1, 0, none⟩ = some (.iface 84 (.agg #[.pointer (some ⟨3, 56, none⟩)])) := (bY.cell (by rw [eT]; exact World.block_lt_of_cell? _ _ hE)).trans hE
      refine ⟨by simp, .inl ⟨_, _, rfl, run_takeDeferred hj.mark, ?_⟩⟩
      rw [← eY]
      refine ⟨by simp, .inr ⟨fun _ => by decide, _, _, 30, #[.pointer (some ⟨T, 0, none⟩), .pointer (some ⟨T + 1, 0, none⟩), .pointer (some ⟨T + 1 + 1, 0, none⟩)], rfl, by simp [invoke, go_sem], fun g _ => trivial, (lexD_panicking _ T (T + 1) (T + 1 + 1) _ _ _ cd q Y hEY y0 y1 y2 f0 f1 f2 rfl rfl).mono ?_⟩⟩
      rintro e u' w' ⟨rfl, rfl, hs⟩
      refine ⟨.tuple #[.slice none 0 0, .int .i64 cd, .int .i64 q], by simp [results, Tryd.results15, go_sem, hs.toks, hs.code, hs.at_], rfl, ?_⟩
      rw [← eT]
      exact ⟨hs.os.trans bY.os, hs.tape.trans bY.tape, hs.output.trans bY.output, Nat.le_trans bY.size hs.size, fun k hk => (hs.block k (by omega) (by omega) (by omega) (by omega)).trans (bY.block k hk)⟩

end Go.Proofs.YtfhelmhcmfpedaaDoor

namespace Go.Proofs.YtfhelmhcmfpedaaDoor
open Go Go.RowKit
set_option linter.unusedVariables false

theorem lay3 (w : World) (o0 o1 o2 : Obj) (W : World) (h : W = ((w.alloc o0).alloc o1).alloc o2) :
    Below w.heap.size w W ∧ W.heap[w.heap.size]? = some o0 ∧ W.heap[w.heap.size + 1]? = some o1 ∧ W.heap[w.heap.size + 1 + 1]? = some o2 := by
  subst h
  have hb : ∀ (V : World) (o : Obj), Below w.heap.size w V → Below w.heap.size w (V.alloc o) := fun V o h => h.alloc h.size o
  refine ⟨hb _ _ (hb _ _ (hb _ _ (Below.refl _ _))), ?_, ?_, ?_⟩
  · show (((w.heap.push o0).push o1).push o2)[w.heap.size]? = some o0
    simp only [Array.getElem?_push, Array.size_push]
    repeat' split
    all_goals first | rfl | omega | (exact absurd trivial ‹¬True›)
  · show (((w.heap.push o0).push o1).push o2)[w.heap.size + 1]? = some o1
    simp only [Array.getElem?_push, Array.size_push]
    repeat' split
    all_goals first | rfl | omega | (exact absurd trivial ‹¬True›)
  · show (((w.heap.push o0).push o1).push o2)[w.heap.size + 1 + 1]? = some o2
    simp only [Array.getElem?_push, Array.size_push]
    repeat' split
    all_goals first | rfl | omega | (exact absurd trivial ‹¬True›)

set_option maxRecDepth 100000 in
set_option maxHeartbeats 600000 in
theorem lexLong_any (p : Option Addr) (cap n : Nat) (w : World) (hl : 10000 < n) (hm : n ≤ 1048576) :
    Calls Tryd.prog 15 #[.slice p n cap] w fun e w' => e = .returned (.tuple #[.slice none 0 0, .int .i64 3, .int .i64 10000]) ∧ Below w.heap.size w w' := by
  have hl' : (10000 : Int) < (n : Int) := by omega
  go_enter Tryd.func15, Tryd.ntmps15
  go_wp2_with fail
  obtain ⟨hlow, h0, h1, h2⟩ := lay3 w (.cells #[.slice none 0 0] 27) (.cells #[.int .i64 3] 3) (.cells #[.int .i64 10000] 3) _ rfl
  have c0 := cell_of_row _ _ 0 _ _ _ h0
  have c1 := cell_of_row _ _ 0 _ _ _ h1
  have c2 := cell_of_row _ _ 0 _ _ _ h2
  refine bodyPost_ret (v := .tuple #[.slice none 0 0, .int .i64 3, .int .i64 10000]) (by simp [results, Tryd.results15, go_sem, c0, c1, c2]) rfl ⟨rfl, hlow⟩

end Go.Proofs.YtfhelmhcmfpedaaDoor

namespace Go.Proofs.YtfhelmhcmfpedaaDoor
open Go Go.RowKit
set_option linter.unusedVariables false

theorem next_text {xs : List Int} {call : Bool} {pos l : Nat} {k v : Int} {ys : List Int} (hp : pos < xs.length) (h : nextR xs call pos = .ok (k, l, ys, v)) : ys.length ≤ 100 := by
  have hrun : ∀ kd kk, runR xs pos kd kk = .ok (k, l, ys, v) → ys.length ≤ 100 := fun kd kk hq => by
    unfold runR at hq
    split at hq
    · cases hq
    · cases hq; simp; omega
  have hquo : ∀ kd, quoR xs kd pos = .ok (k, l, ys, v) → ys.length ≤ 100 := fun kd hq => by
    unfold quoR at hq
    split at hq
    · cases hq
    · split at hq
      · cases hq
      · cases hq; omega
  unfold nextR nextF at h
  split at h
  · exact hrun _ _ h
  split at h
  · exact hrun _ _ h
  split at h
  · unfold numR at h
    split at h
    · cases h
    · split at h
      · cases h
      · split at h
        · cases h
        · cases h; simp
  split at h
  · cases h; simp
  split at h
  · exact hrun _ _ h
  split at h
  · cases h; simp
  split at h
  · exact hquo _ h
  split at h
  · exact hquo _ h
  split at h
  · cases h; simp
  split at h
  · cases h; simp
  · cases h
theorem ttl_snoc : ∀ (a : List Tok) (t : Tok), ttl (a ++ [t]) = ttl a + t.2.length
  | [], t => by simp [ttl]
  | x :: r, t => by
    have := ttl_snoc r t
    simp only [List.cons_append, ttl]
    omega
theorem lexF_size {xs : List Int} (hb : Bytes xs) : ∀ (f pos : Nat) (a : Int) (acc ts : List Tok), lexF xs f pos a acc = .ok ts → acc.length ≤ pos → pos ≤ xs.length → ttl acc ≤ 100 * acc.length → ts.length ≤ xs.length ∧ ttl ts ≤ 100 * ts.length
  | 0, pos, a, acc, ts, h, h1, h2, h3 => by
    unfold lexF at h
    cases h
    exact ⟨by omega, h3⟩
  | f + 1, pos, a, acc, ts, h, h1, h2, h3 => by
    unfold lexF at h
    by_cases hp : xs.length ≤ pos
    · rw [if_pos hp] at h
      cases h
      exact ⟨by omega, h3⟩
    · rw [if_neg hp] at h
      cases hl : layI xs pos with
      | none => rw [hl] at h; cases h
      | some n =>
        rw [hl] at h
        simp only at h
        by_cases h0 : 0 < n
        · rw [if_pos h0] at h
          exact lexF_size hb f (pos + n) a acc ts h (by omega) (lay_le (by omega) hl) h3
        · rw [if_neg h0] at h
          cases hn : nextR xs (decide (a = pos)) pos with
          | error c => rw [hn] at h; cases h
          | ok r =>
            obtain ⟨k, l, ys, v⟩ := r
            rw [hn] at h
            simp only at h
            have e1 := next_len hb (by omega) hn
            have e2 := next_fit hb (by omega) hn
            have e3 := next_text (by omega) hn
            refine lexF_size hb f (pos + l) _ _ ts h ?_ e2 ?_
            · simp only [List.length_append, List.length_singleton]; omega
            · rw [ttl_snoc]; simp only [List.length_append, List.length_singleton]; omega
/-- What Lex answers, as three. -/
def lexT (xs : List Int) : List Tok × Int × Int := match lexR xs with
  | .ok ts => (ts, 0, 0)
  | .error (c, q) => ([], c, (q : Int))
theorem lexT_size {xs : List Int} (hb : Bytes xs) : (lexT xs).1.length + ttl (lexT xs).1 ≤ 2000000 := by
  unfold lexT
  cases h : lexR xs with
  | error r => simp [ttl]
  | ok ts =>
    unfold lexR at h
    split at h
    · cases h
    · rename_i hl
      unfold lexI at h
      have := lexF_size hb _ _ _ _ _ h (by simp) (by omega) (by simp [ttl])
      show ts.length + ttl ts ≤ 2000000
      omega
/-- What one of the two Lex leaves, however it ends. -/
def LexOut (w : World) (r : List Tok × Int × Int) (e : Ending) (w' : World) : Prop :=
  ∃ p n c, e = .returned (.tuple #[.slice p n c, .int .i64 r.2.1, .int .i64 r.2.2]) ∧ OwnK w' w.heap.size p n c r.1 ∧ Below w.heap.size w w'
theorem lexOut_of {w w' : World} {xs : List Int} {e : Ending} (h : LexSOut w (lexR xs) e w') : LexOut w (lexT xs) e w' := by
  unfold lexT
  unfold LexSOut at h
  split at h
  · rename_i ts hr
    rw [hr]
    exact h
  · rename_i c q hr
    rw [hr]
    exact ⟨none, 0, 0, h.1, OwnK.nil _ _, h.2⟩

end Go.Proofs.YtfhelmhcmfpedaaDoor

namespace Go.Proofs.YtfhelmhcmfpedaaDoor
open Go Go.RowKit
set_option linter.unusedVariables false

theorem lexP_any (b cap : Nat) (xs : List Int) (m : Int) (w : World) (hb : Bytes xs) (hn : xs.length ≤ 1048576) (hcap : xs.length ≤ cap) (hc : ∀ i, i < xs.length → w.cell? ⟨b, i, none⟩ = some (.int .u8 (xs.getD i 0))) (hbl : b < w.heap.size) (hT : Tab w)
    (hM : w.cell? ⟨2, 0, none⟩ = some (.int .i64 m)) (hE : w.cell? ⟨1, 0, none⟩ = some (.iface 84 (.agg #[.pointer (some ⟨3, 56, none⟩)]))) :
    Calls Tryd.prog 15 #[.slice (some ⟨b, 0, none⟩) xs.length cap] w (LexSOut w (lexR xs)) := by
  unfold lexR
  by_cases hl : 10000 < xs.length
  · rw [if_pos hl]
    exact (lexLong_any _ cap xs.length w hl hn).mono fun e w' h => h
  · rw [if_neg hl]
    exact lexImpl_any b cap xs.length xs m w hb rfl (by omega) hcap hc hbl hT hM hE

end Go.Proofs.YtfhelmhcmfpedaaDoor

namespace Go.Proofs.YtfhelmhcmfpedaaDoor
open Go Go.RowKit
set_option linter.unusedVariables false

/-- Tokens that a call owns, all in blocks from B on and below U. -/
def OwnKU (w : World) (B U : Nat) (p : Option Addr) (n c : Nat) (ts : List Tok) : Prop :=
  n = ts.length ∧ ∃ rs : List RT, rs.length = ts.length ∧ w.ownsRow B 39 5 (.slice p n c) n (flatT rs) ∧ (∀ i, i < ts.length → FitsT w B (rs.getD i RT.zero) (ts.getD i Tok.none)) ∧ ApartT p rs ∧
    (∀ k, Value.ownBlock (.slice p n c) = some k → k < U) ∧ (∀ i, i < ts.length → ∀ k, tb (rs.getD i RT.zero).2.1 (rs.getD i RT.zero).2.2.1 = some k → k < U)
theorem OwnKU.toK {w : World} {B U : Nat} {p : Option Addr} {n c : Nat} {ts : List Tok} (h : OwnKU w B U p n c ts) : OwnK w B p n c ts := by
  obtain ⟨hn, rs, hl, hr, hf, ha, _⟩ := h
  exact ⟨hn, rs, hl, hr, hf, ha⟩
theorem OwnK.up {w : World} {B : Nat} {p : Option Addr} {n c : Nat} {ts : List Tok} (h : OwnK w B p n c ts) : OwnKU w B w.heap.size p n c ts := by
  obtain ⟨hn, rs, hl, hr, hf, ha⟩ := h
  exact ⟨hn, rs, hl, hr, hf, ha, fun k hk => (hr.lt k hk).2, fun i hi k hk => ((hf i hi).2.tb hk).2.2⟩
theorem OwnKU.other {w w' : World} {B U : Nat} {p : Option Addr} {n c : Nat} {ts : List Tok} (h : OwnKU w B U p n c ts) (hs : w.heap.size ≤ w'.heap.size) (hb : ∀ k, k < w.heap.size → B ≤ k → k < U → w'.heap[k]? = w.heap[k]?) : OwnKU w' B U p n c ts := by
  obtain ⟨hn, rs, hl, hr, hf, ha, hu, ht⟩ := h
  refine ⟨hn, rs, hl, ⟨hr.1, ?_⟩, fun i hi => ⟨(hf i hi).1, (hf i hi).2.other hs (fun g hn0 e => ?_)⟩, ha, hu, ht⟩
  · rcases hr.2 with h' | ⟨g, cap, cur, hv, hB, hg, r⟩
    · exact .inl h'
    · exact .inr ⟨g, cap, cur, hv, hB, (hb g (Array.getElem?_eq_some_iff.1 hg).1 hB (hu g (by rw [hv]; rfl))).trans hg, r⟩
  · have e2 : tb (rs.getD i RT.zero).2.1 (rs.getD i RT.zero).2.2.1 = some g := by rw [e]; exact tb_of hn0
    have h2 := (hf i hi).2.tb e2
    exact hb g h2.2.2 h2.2.1 (ht i hi g e2)
theorem OwnKU.below {w w' : World} {B U : Nat} {p : Option Addr} {n c : Nat} {ts : List Tok} (h : OwnKU w B U p n c ts) (hb : Below w.heap.size w w') : OwnKU w' B U p n c ts := h.other hb.size (fun k hk _ _ => hb.block k hk)
theorem OwnKU.keep {w w' : World} {B U B' U' : Nat} {p : Option Addr} {n c : Nat} {ts : List Tok} (h : OwnKU w B U p n c ts) (hk : Keep B' U' w w') (ho : U ≤ B' ∨ U' ≤ B) : OwnKU w' B U p n c ts := h.other hk.size (fun k h1 h2 h3 => hk.block k h1 (by omega))

def kT (k : Int) (ts : List Tok) (j : Nat) : Int := k + 4 * j + ttl (ts.take j)
theorem kT_zero (k : Int) (ts : List Tok) : kT k ts 0 = k := by simp [kT, ttl]
theorem kT_succ (k : Int) (ts : List Tok) (j : Nat) (h : j < ts.length) : kT k ts (j + 1) = kT k ts j + 1 + 1 + 1 + (ts.getD j Tok.none).2.length + 1 := by
  simp only [kT, ttl_succ ts j h]; omega
def markedT (k : Int) (ts : List Tok) (j : Nat) : Tok := ((kT k ts j, kT k ts j + 1, kT k ts j + 1 + 1, kT k ts j + 1 + 1 + 1 + (ts.getD j Tok.none).2.length), marks (kT k ts j + 1 + 1 + 1) (ts.getD j Tok.none).2.length)
def mixT (k : Int) (ts : List Tok) (j : Nat) : List Tok := (List.range ts.length).map fun i => if i < j then markedT k ts i else ts.getD i Tok.none
theorem mixT_len (k : Int) (ts : List Tok) (j : Nat) : (mixT k ts j).length = ts.length := by simp [mixT]
theorem mixT_at (k : Int) (ts : List Tok) (j i : Nat) (h : i < ts.length) : (mixT k ts j).getD i Tok.none = if i < j then markedT k ts i else ts.getD i Tok.none := by
  simp [mixT, List.getD, h]
theorem mixT_zero (k : Int) (ts : List Tok) : mixT k ts 0 = ts := same_toks (mixT_len ..) (fun j hj => by rw [mixT_at _ _ _ _ (by rw [mixT_len] at hj; exact hj), if_neg (Nat.not_lt_zero _)])
theorem mixT_succ (k : Int) (ts : List Tok) (j : Nat) (h : j < ts.length) : mixT k ts (j + 1) = (mixT k ts j).set j (markedT k ts j) := same_toks (by simp [mixT]) (fun i hi => by
  rw [mixT_len] at hi
  rw [mixT_at _ _ _ _ hi, ts_set_at _ _ _ _ (by rw [mixT_len]; exact h), mixT_at _ _ _ _ hi]
  by_cases e : i = j
  · subst e; rw [if_pos (Nat.lt_succ_self _), if_pos rfl]
  · rw [if_neg e]
    by_cases h' : i < j
    · rw [if_pos (by omega), if_pos h']
    · rw [if_neg (by omega), if_neg h'])
abbrev set3 (w : World) (g o : Nat) (a b d : Int) : World := ((w.setCell ⟨g, o, none⟩ (.int .i64 a)).setCell ⟨g, o + 1, none⟩ (.int .i64 b)).setCell ⟨g, o + 2, none⟩ (.int .i64 d)
theorem set3_other (w : World) (g o : Nat) (a b d : Int) (k : Nat) (h : k ≠ g) : (set3 w g o a b d).heap[k]? = w.heap[k]? :=
  (Below.heap_setCell _ _ _ _ h).trans ((Below.heap_setCell _ _ _ _ h).trans (Below.heap_setCell _ _ _ _ h))
/-- One token marked: three numbers, the text, the last number. -/
theorem markK_one {w w3 : World} {B U g n c j : Nat} {ds : List Tok} {rs : List RT} (hn : n = ds.length) (hl : rs.length = ds.length) (hr : w.ownsRow B 39 5 (.slice (some ⟨g, 0, none⟩) n c) n (flatT rs)) (hf : ∀ i, i < ds.length → FitsT w B (rs.getD i RT.zero) (ds.getD i Tok.none))
    (ha : ApartT (some ⟨g, 0, none⟩) rs) (hu : g < U) (ht : ∀ i, i < ds.length → ∀ k, tb (rs.getD i RT.zero).2.1 (rs.getD i RT.zero).2.2.1 = some k → k < U) (hj : j < ds.length) (a b d f : Int) (ms : List Int)
    (ho : OwnT w3 B (rs.getD j RT.zero).2.1 (rs.getD j RT.zero).2.2.1 (rs.getD j RT.zero).2.2.2 ms)
    (hg : (set3 w g (j * 5) a b d).grownBy w3 (tb (rs.getD j RT.zero).2.1 (rs.getD j RT.zero).2.2.1)) :
    OwnKU (w3.setCell ⟨g, j * 5 + 4, none⟩ (.int .i64 f)) B U (some ⟨g, 0, none⟩) n c (ds.set j ((a, b, d, f), ms)) ∧ Keep B U w (w3.setCell ⟨g, j * 5 + 4, none⟩ (.int .i64 f)) := by
  have hgB := (hr.lt g rfl)
  have hnrow : ∀ i, i < ds.length → tb (rs.getD i RT.zero).2.1 (rs.getD i RT.zero).2.2.1 ≠ some g := fun i hi e => by
    have h1 := (hf i hi).2.tb e
    exact ha.1 i (by omega) (tb_some e).1 h1.1
  have h3 := (((hr.stored (j * 5) (.int .i64 a)).1.stored (j * 5 + 1) (.int .i64 b)).1.stored (j * 5 + 2) (.int .i64 d)).1
  have h4 := (World.ownsRow.kept h3 hg (.inr (fun e => hnrow j hj e.symm))).stored (j * 5 + 4) (.int .i64 f)
  have h2 := h4.1
  rw [flatT_set rs j a b d f (by omega)] at h2
  have hs3 : (set3 w g (j * 5) a b d).heap.size = w.heap.size := by simp
  have hat : ∀ i, ((rs.set j ((a, b, d, f), (rs.getD j RT.zero).2)).getD i RT.zero).2 = (rs.getD i RT.zero).2 := fun i => by
    rw [rt_set_at _ _ _ _ (by omega)]
    by_cases e : i = j
    · rw [if_pos e, e]
    · rw [if_neg e]
  refine ⟨⟨by simpa using hn, rs.set j ((a, b, d, f), (rs.getD j RT.zero).2), by simpa using hl, h2, fun i hi => ?_, ⟨fun i hi => ?_, fun i i' hi hi' hne => ?_⟩, fun k hk => ?_, fun i hi k hk => ?_⟩, ?_⟩
  · have hi' : i < ds.length := by simpa using hi
    rw [ts_set_at _ _ _ _ hj, rt_set_at _ _ _ _ (by omega)]
    by_cases e : i = j
    · rw [if_pos e, if_pos e]
      exact ⟨rfl, ho.setCell (a := ⟨g, j * 5 + 4, none⟩) (fun hp e' => ha.1 j (by omega) hp e') _⟩
    · rw [if_neg e, if_neg e]
      obtain ⟨q0, q2⟩ := hf i hi'
      have q3 := q2.other (w' := w3) (by rw [← hs3]; exact hg.size) (fun k hp e' => by
        have hk := (q2.tb (e' ▸ tb_of hp)).2.2
        have hkg : k ≠ g := fun e9 => ha.1 i (by omega) hp (by rw [e', e9])
        refine (hg.block k (by rw [hs3]; exact hk) (fun e2 => ?_)).trans (set3_other w g (j * 5) a b d k hkg)
        have h5 := (hf j hj).2.tb e2.symm
        exact ha.2 i j (by omega) (by omega) e hp (tb_some e2.symm).1 (by rw [e', h5.1]))
      exact ⟨q0, q3.setCell (a := ⟨g, j * 5 + 4, none⟩) (fun hp e' => ha.1 i (by omega) hp e') _⟩
  · rw [hat]; exact ha.1 i (by simpa using hi)
  · rw [hat, hat]; exact ha.2 i i' (by simpa using hi) (by simpa using hi') hne
  · have : k = g := (Option.some.inj hk).symm
    omega
  · rw [hat] at hk
    exact ht i (by simpa using hi) k hk
  · refine Keep.trans (b := set3 w g (j * 5) a b d) ⟨rfl, rfl, rfl, by simp, fun k _ hp => set3_other w g (j * 5) a b d k (by omega)⟩ (Keep.trans (b := w3) (Keep.of_grown hg (fun k e => ⟨((hf j hj).2.tb e).2.1, ht j hj k e⟩)) ?_)
    exact ⟨rfl, rfl, rfl, by simp, fun k _ hp => Below.heap_setCell _ _ _ _ (show k ≠ g by omega)⟩

end Go.Proofs.YtfhelmhcmfpedaaDoor

namespace Go.Proofs.YtfhelmhcmfpedaaDoor
open Go Go.RowKit
set_option linter.unusedVariables false

def markK (k : Int) (ts : List Tok) : List Tok := mixT k ts ts.length
def endK (k : Int) (ts : List Tok) : Int := kT k ts ts.length

set_option maxRecDepth 100000 in
set_option maxHeartbeats 4000000 in
theorem markToks_any (B U : Nat) (p : Option Addr) (n c : Nat) (k : Int) (ts : List Tok) (w : World) (h0 : 0 ≤ k) (h1 : k ≤ 10000000) (hn : ts.length + ttl ts ≤ 100000000) (hown : OwnKU w B U p n c ts) :
    Calls Tryd.prog 17 #[.slice p n c, .int .i64 k] w fun e w' => e = .returned (.int .i64 (endK k ts)) ∧ OwnKU w' B U p n c (markK k ts) ∧ Keep B U w w' := by
  have hnl := hown.1
  have HO : Hid (OwnKU w B U p n c ts) := hown
  clear hown
  have HNL : Hid (n = ts.length) := hnl
  clear hnl
  go_enter Tryd.func17, Tryd.ntmps17
  go_wp2
  go_loopw [1, 5] (fun q i wr => ∃ (j : Nat) (kj : Int), j ≤ n ∧ 0 ≤ kj ∧ kj ≤ 1000000000 ∧ i = .int .i64 j ∧ q = .int .i64 kj ∧ Hid (kj = kT k ts j) ∧ Hid (OwnKU wr B U p n c (mixT k ts j)) ∧ Hid (Keep B U w wr)) (fun _ i _ => n - (intOf i).toNat)
  case atStart => exact ⟨0, k, Nat.zero_le _, h0, by omega, rfl, rfl, (kT_zero _ _).symm, by rw [mixT_zero]; exact HO, Keep.refl _ _ _⟩
  case round =>
    obtain ⟨j, kj, hj, hk0, hk1, rfl, rfl, HK, HR, HG⟩ := hrel
    by_cases hlt : j < n
    · obtain ⟨hn1, rs, hl, hr, hf, ha, hu, ht⟩ := HR.out
      obtain ⟨g, cap, hv, hbg, hgs⟩ := hr.form (by omega)
      simp only [Value.slice.injEq, true_and] at hv
      obtain ⟨rfl, rfl⟩ := hv
      have hjl : j < ts.length := by rw [← HNL.out]; exact hlt
      rw [mixT_len] at hl hf ht
      obtain ⟨a0, a1, a2, a3, a4⟩ := flatT_at rs j (by omega)
      have d0 := (hr.cellAt (j * 5) (by omega)).trans a0
      have d1 := (hr.cellAt (j * 5 + 1) (by omega)).trans a1
      have d2 := (hr.cellAt (j * 5 + 2) (by omega)).trans a2
      have d3 := (hr.cellAt (j * 5 + 3) (by omega)).trans a3
      have d4 := (hr.cellAt (j * 5 + 4) (by omega)).trans a4
      have ff := hr.frozenAt
      obtain ⟨q0, q2⟩ := hf j hjl
      have hlen : (rs.getD j RT.zero).2.2.1 = (ts.getD j Tok.none).2.length := by
        rw [q2.1, mixT_at _ _ _ _ hjl, if_neg (Nat.lt_irrefl j)]
      have htl := ttl_at ts j hjl
      have hnr : tb (rs.getD j RT.zero).2.1 (rs.getD j RT.zero).2.2.1 ≠ some g := fun e => ha.1 j (by omega) (tb_some e).1 (q2.tb e).1
      have HNR : Hid (tb (rs.getD j RT.zero).2.1 (rs.getD j RT.zero).2.2.1 ≠ some g) := hnr
      obtain ⟨w2, ew2⟩ : ∃ w2, w2 = set3 wr g (j * 5) kj (kj + 1) (kj + 1 + 1) := ⟨_, rfl⟩
      have q3 : OwnT w2 B (rs.getD j RT.zero).2.1 (rs.getD j RT.zero).2.2.1 (rs.getD j RT.zero).2.2.2 ((mixT k ts j).getD j Tok.none).2 := q2.other (by rw [ew2]; simp) (fun g' hp e => by
        rw [ew2]
        exact set3_other wr g (j * 5) kj (kj + 1) (kj + 1 + 1) g' (fun e9 => hnr (by rw [e, e9]; exact tb_of hp)))
      have HMARK := markT_any B (rs.getD j RT.zero).2.1 (rs.getD j RT.zero).2.2.1 (rs.getD j RT.zero).2.2.2 (kj + 1 + 1 + 1) _ w2 (by omega) (by omega) (by omega) q3
      have HONE : Hid (∀ w3 ms (f : Int), OwnT w3 B (rs.getD j RT.zero).2.1 (rs.getD j RT.zero).2.2.1 (rs.getD j RT.zero).2.2.2 ms → w2.grownBy w3 (tb (rs.getD j RT.zero).2.1 (rs.getD j RT.zero).2.2.1) →
          OwnKU (w3.setCell ⟨g, j * 5 + 4, none⟩ (.int .i64 f)) B U (some ⟨g, 0, none⟩) n c ((mixT k ts j).set j ((kj, kj + 1, kj + 1 + 1, f), ms)) ∧ Keep B U wr (w3.setCell ⟨g, j * 5 + 4, none⟩ (.int .i64 f))) := fun w3 ms f h1 h2 => markK_one hn1 (by rw [mixT_len]; exact hl) hr (by rw [mixT_len]; exact hf) ha (hu g rfl) (by rw [mixT_len]; exact ht) (by rw [mixT_len]; exact hjl) kj (kj + 1) (kj + 1 + 1) f ms h1 (by rw [← ew2]; exact h2)
      have HS1 : Hid _ := kT_succ k ts j hjl
      have HS2 : Hid _ := mixT_succ k ts j hjl
      have HLEN : Hid _ := hlen
      have hbound : kT k ts (j + 1) ≤ 1000000000 := by have := ttl_take ts (j + 1); simp only [kT]; omega
      have HBD : Hid _ := hbound
      obtain ⟨tp, etp⟩ : ∃ x, x = (rs.getD j RT.zero).2.1 := ⟨_, rfl⟩
      obtain ⟨tn, etn⟩ : ∃ x, x = (rs.getD j RT.zero).2.2.1 := ⟨_, rfl⟩
      obtain ⟨tc, etc⟩ : ∃ x, x = (rs.getD j RT.zero).2.2.2 := ⟨_, rfl⟩
      obtain ⟨z0, ez0⟩ : ∃ x, x = (rs.getD j RT.zero).1.1 := ⟨_, rfl⟩
      obtain ⟨z1, ez1⟩ : ∃ x, x = (rs.getD j RT.zero).1.2.1 := ⟨_, rfl⟩
      obtain ⟨z2, ez2⟩ : ∃ x, x = (rs.getD j RT.zero).1.2.2.1 := ⟨_, rfl⟩
      obtain ⟨z4, ez4⟩ : ∃ x, x = (rs.getD j RT.zero).1.2.2.2 := ⟨_, rfl⟩
      rw [← etp, ← etn, ← etc] at HMARK d3 HONE
      rw [← etp, ← etn] at HNR
      rw [← ez0] at d0
      rw [← ez1] at d1
      rw [← ez2] at d2
      rw [← ez4] at d4
      rw [← etn] at HLEN hlen
      have htn : tn ≤ 100000000 := by omega
      have hgl : g < wr.heap.size := hgs
      have e3c : w2.cell? ⟨g, j * 5 + 3, none⟩ = some (.slice tp tn tc) := by
        rw [ew2]
        rw [World.cell?_setCell_other _ _ _ _ (by intro e; simp only [Addr.mk.injEq] at e; omega), World.cell?_setCell_other _ _ _ _ (by intro e; simp only [Addr.mk.injEq] at e; omega), World.cell?_setCell_other _ _ _ _ (by intro e; simp only [Addr.mk.injEq] at e; omega)]; exact d3
      have e4c : w2.cell? ⟨g, j * 5 + 4, none⟩ = some (.int .i64 z4) := by
        rw [ew2]
        rw [World.cell?_setCell_other _ _ _ _ (by intro e; simp only [Addr.mk.injEq] at e; omega), World.cell?_setCell_other _ _ _ _ (by intro e; simp only [Addr.mk.injEq] at e; omega), World.cell?_setCell_other _ _ _ _ (by intro e; simp only [Addr.mk.injEq] at e; omega)]; exact d4
      have effc : ∀ i, w2.frozen? ⟨g, i, none⟩ = false := fun i => by rw [ew2, World.frozen?_setCell, World.frozen?_setCell, World.frozen?_setCell]; exact ff i
      have HGS : Hid (w2.heap.size = wr.heap.size) := by show _ = _; rw [ew2]; simp
      clear etp etn etc ez0 ez1 ez2 ez4 hn1 hl hr hf ha hu ht a0 a1 a2 a3 a4 q0 q2 q3 hlen htl HR HO hbound hgs hnr
      go_wp2_with fail
      rw [show ((wr.setCell ⟨g, j * 5, none⟩ (.int .i64 kj)).setCell ⟨g, j * 5 + 1, none⟩ (.int .i64 (kj + 1))).setCell ⟨g, j * 5 + 2, none⟩ (.int .i64 (kj + 1 + 1)) = w2 from ew2.symm]
      clear ew2 d0 d1 d2 d3 d4
      refine HMARK.mono ?_
      rintro e w3 ⟨rfl, ho3, hg3⟩
      have hblk : w3.heap[g]? = w2.heap[g]? := hg3.block g (by rw [HGS.out]; exact hgl) (fun e => HNR.out e.symm)
      have f4 := (World.cell?_of_block (w := w2) (w' := w3) (a := ⟨g, j * 5 + 4, none⟩) hblk).trans e4c
      have ff3 : ∀ i, w3.frozen? ⟨g, i, none⟩ = false := fun i => (World.frozen?_of_block (w := w2) (w' := w3) (a := ⟨g, i, none⟩) hblk).trans (effc i)
      have HFIN : Hid _ := HONE.out w3 _ (kj + 1 + 1 + 1 + tn) ho3 hg3
      have hkb1 : kj + 1 + 1 + 1 + (tn : Int) ≤ 9000000000 := by omega
      have hkb0 : 0 ≤ kj + 1 + 1 + 1 + (tn : Int) := by omega
      clear ho3 hg3 hblk HMARK ff effc e3c e4c
      go_wp2_with fail
      have e1 := HS1.out
      have e2 := HS2.out
      have e3 := HK.out
      have e4 := HLEN.out
      have e5 := HBD.out
      have hfin := HFIN.out
      go_roundw
      case rel => exact ⟨j + 1, kj + 1 + 1 + 1 + tn + 1, by omega, by omega, by rw [e1] at e5; omega, by go_num, rfl, by show _ = _; rw [e1]; omega, by
        show OwnKU _ _ _ _ _ _ _
        rw [e2, markedT, ← e3, ← e4]
        exact hfin.1, HG.out.trans hfin.2⟩
      case measure => simp [intOf]; omega
    · obtain rfl : j = n := by omega
      go_wp2_with fail
      go_ret
      refine ⟨ret_int ?_, ?_, HG.out⟩
      · rw [HK.out, HNL.out]; rfl
      · have := HR.out
        rw [markK, ← HNL.out]
        exact this

set_option maxRecDepth 100000 in
set_option maxHeartbeats 4000000 in
theorem heldToks_any (p : Option Addr) (n c : Nat) (k : Int) (ts : List Tok) (w : World) (h0 : 0 ≤ k) (h1 : k ≤ 10000000) (hn : ts.length + ttl ts ≤ 100000000) (hl : n = ts.length) (hin : TIn w p (markK k ts)) :
    Calls Tryd.prog 18 #[.slice p n c, .int .i64 k] w fun e w' => e = .returned (.int .i64 (endK k ts)) ∧ w' = w := by
  have HI : Hid (TIn w p (markK k ts)) := hin
  have HNL : Hid (n = ts.length) := hl
  clear hin
  have hnn : n ≤ 100000000 := by omega
  clear hl
  go_enter Tryd.func18, Tryd.ntmps18
  go_wp2_with fail
  go_loop [1, 5] (fun q i => ∃ (j : Nat) (kj : Int), j ≤ n ∧ 0 ≤ kj ∧ kj ≤ 1000000000 ∧ i = .int .i64 j ∧ q = .int .i64 kj ∧ Hid (kj = kT k ts j)) (fun _ i => n - (intOf i).toNat)
  case atStart => exact ⟨0, k, Nat.zero_le _, h0, by omega, rfl, rfl, (kT_zero _ _).symm⟩
  case round =>
    obtain ⟨j, kj, hj, hk0, hk1, rfl, rfl, HK⟩ := hrel
    by_cases hlt : j < n
    · have hjl : j < ts.length := by rw [← HNL.out]; exact hlt
      obtain ⟨b, o, rfl, hcs⟩ := HI.out (by rw [markK, mixT_len]; omega)
      obtain ⟨q, qc, d0, d1, d2, d3, d4, d5⟩ := hcs j (by rw [markK, mixT_len]; exact hjl)
      have hm : (markK k ts).getD j Tok.none = markedT k ts j := by rw [markK, mixT_at _ _ _ _ hjl, if_pos hjl]
      rw [hm] at d0 d1 d2 d3 d4 d5
      simp only [markedT, ← HK.out, marks_len] at d0 d1 d2 d3 d4 d5
      have htl := ttl_at ts j hjl
      have HS1 : Hid _ := kT_succ k ts j hjl
      have hbound : kT k ts (j + 1) ≤ 1000000000 := by have := ttl_take ts (j + 1); simp only [kT]; omega
      have HBD : Hid _ := hbound
      obtain ⟨tn, etn⟩ : ∃ x, x = (ts.getD j Tok.none).2.length := ⟨_, rfl⟩
      rw [← etn] at d3 d4 d5 HS1
      have htn : tn ≤ 100000000 := by omega
      have hpos : ¬ (kj + 1 + 1 + 1 + (tn : Int) < 0) := by omega
      have HH := held_any q tn qc (kj + 1 + 1 + 1) w (by omega) (by omega) (by omega) d5
      clear etn hcs hm htl HI hbound d5
      go_wp2_with fail
      refine HH.mono ?_
      rintro e w3 ⟨rfl, rfl⟩
      go_wp2_with fail
      have e1 := HS1.out
      have e3 := HK.out
      have e5 := HBD.out
      go_round
      case rel => exact ⟨j + 1, kj + 1 + 1 + 1 + tn + 1, by omega, by omega, by rw [e1] at e5; omega, by go_num, rfl, by show _ = _; rw [e1]; omega⟩
      case measure => simp [intOf]; omega
    · obtain rfl : j = n := by omega
      clear HI
      go_wp2_with fail
      go_ret
      exact ⟨ret_int (by rw [HK.out, HNL.out]; rfl), rfl⟩

end Go.Proofs.YtfhelmhcmfpedaaDoor

namespace Go.Proofs.YtfhelmhcmfpedaaDoor
open Go Go.RowKit
set_option linter.unusedVariables false

abbrev tokC (h : Int × Int × Int × Int) (p : Option Addr) (n c : Nat) : Array Value := #[.int .i64 h.1, .int .i64 h.2.1, .int .i64 h.2.2.1, .slice p n c, .int .i64 h.2.2.2]
theorem five_at {w : World} {b : Nat} {u0 u1 u2 u3 u4 : Value} {t : TypeId} {mk : Nat × Nat} (h : w.heap[b]? = some (.cells #[u0, u1, u2, u3, u4] t mk)) : w.cell? ⟨b, 0, none⟩ = some u0 ∧ w.cell? ⟨b, 1, none⟩ = some u1 ∧ w.cell? ⟨b, 2, none⟩ = some u2 ∧ w.cell? ⟨b, 3, none⟩ = some u3 ∧ w.cell? ⟨b, 4, none⟩ = some u4 :=
  ⟨by unfold World.cell?; rw [h]; rfl, by unfold World.cell?; rw [h]; rfl, by unfold World.cell?; rw [h]; rfl, by unfold World.cell?; rw [h]; rfl, by unfold World.cell?; rw [h]; rfl⟩

set_option maxRecDepth 100000 in
theorem eqTok_same (k a l v : Int) (p q : Option Addr) (n c1 c2 : Nat) (xs : List Int) (w : World) (hn : n = xs.length) (hm : n ≤ 1000000000) (hx : BIn w p xs) (hy : BIn w q xs) :
    Calls Tryd.prog 33 #[.agg #[.int .i64 k, .int .i64 a, .int .i64 l, .slice p n c1, .int .i64 v], .agg #[.int .i64 k, .int .i64 a, .int .i64 l, .slice q n c2, .int .i64 v]] w fun e w' => e = .returned (.bool true) ∧ Below w.heap.size w w' := by
  obtain ⟨W, eW⟩ : ∃ W, W = ((w.alloc (Obj.cells #[.int .i64 k, .int .i64 a, .int .i64 l, .slice p n c1, .int .i64 v] 39)).alloc (Obj.cells #[.int .i64 k, .int .i64 a, .int .i64 l, .slice q n c2, .int .i64 v] 39)) := ⟨_, rfl⟩
  have hb0 : Below w.heap.size w W := by rw [eW]; exact ((Below.refl _ _).alloc (Nat.le_refl _) _).alloc (by simp) _
  have HS := eqByteS_any p q c1 c2 xs xs W (by omega) (by omega) (hx.below hb0) (hy.below hb0)
  rw [show decide (xs = xs) = true by simp, ← hn] at HS
  have G1 : W.heap[w.heap.size]? = some (.cells #[.int .i64 k, .int .i64 a, .int .i64 l, .slice p n c1, .int .i64 v] 39) := by rw [eW]; exact (Below.heap_alloc _ _ _ (by simp)).trans (heap_alloc_new _ _)
  have G2 : W.heap[w.heap.size + 1]? = some (.cells #[.int .i64 k, .int .i64 a, .int .i64 l, .slice q n c2, .int .i64 v] 39) := by
    have := heap_alloc_new (w.alloc (Obj.cells #[.int .i64 k, .int .i64 a, .int .i64 l, .slice p n c1, .int .i64 v] 39)) (Obj.cells #[.int .i64 k, .int .i64 a, .int .i64 l, .slice q n c2, .int .i64 v] 39)
    rw [World.size_alloc] at this
    rw [eW]; exact this
  obtain ⟨a0, a1, a2, a3, a4⟩ := five_at G1
  obtain ⟨b0, b1, b2, b3, b4⟩ := five_at G2
  have HB : Hid (Below w.heap.size w W) := hb0
  clear hb0 hx hy hn G1 G2
  subst eW
  go_enter Tryd.func33, Tryd.ntmps33
  go_wp2_with fail
  refine HS.mono ?_
  rintro e w' ⟨rfl, m, rfl⟩
  go_wp2_with fail
  go_ret
  exact ⟨rfl, below_drewN HB.out _⟩

set_option maxRecDepth 100000 in
set_option maxHeartbeats 2000000 in
theorem eqToks_same (p q : Option Addr) (c1 c2 n : Nat) (ts : List Tok) (w : World) (hl : n = ts.length) (hn : ts.length + ttl ts ≤ 100000000) (hx : TIn w p ts) (hy : TIn w q ts) :
    Calls Tryd.prog 16 #[.slice p n c1, .slice q n c2] w fun e w' => e = .returned (.bool true) ∧ Below w.heap.size w w' := by
  have HX : Hid (TIn w p ts) := hx
  have HY : Hid (TIn w q ts) := hy
  have HL : Hid (n = ts.length) := hl
  have hnn : n ≤ 100000000 := by omega
  clear hx hy hl
  go_enter Tryd.func16, Tryd.ntmps16
  go_wp2
  go_loopw [5] (fun i wr => ∃ k : Nat, k ≤ n ∧ i = .int .i64 k ∧ Hid (Below w.heap.size w wr)) (fun i _ => n - (intOf i).toNat)
  case atStart => exact ⟨0, Nat.zero_le _, rfl, Below.refl _ _⟩
  case round =>
    obtain ⟨k, hk, rfl, HB⟩ := hrel
    by_cases hlt : k < n
    · have hkx : k < ts.length := by rw [← HL.out]; exact hlt
      obtain ⟨b, o, rfl, hcx⟩ := HX.out (by omega)
      obtain ⟨b', o', rfl, hcy⟩ := HY.out (by omega)
      obtain ⟨px, qx, x0, x1, x2, x3, x4, x5⟩ := (hcx k hkx).below HB.out
      obtain ⟨py, qy, y0, y1, y2, y3, y4, y5⟩ := (hcy k hkx).below HB.out
      have bx := ttl_at ts k hkx
      obtain ⟨ys, eys⟩ : ∃ x, x = (ts.getD k Tok.none).2 := ⟨_, rfl⟩
      obtain ⟨a0, ea0⟩ : ∃ x, x = (ts.getD k Tok.none).1.1 := ⟨_, rfl⟩
      obtain ⟨a1, ea1⟩ : ∃ x, x = (ts.getD k Tok.none).1.2.1 := ⟨_, rfl⟩
      obtain ⟨a2, ea2⟩ : ∃ x, x = (ts.getD k Tok.none).1.2.2.1 := ⟨_, rfl⟩
      obtain ⟨a4, ea4⟩ : ∃ x, x = (ts.getD k Tok.none).1.2.2.2 := ⟨_, rfl⟩
      rw [← eys] at x3 y3 x5 y5 bx
      rw [← ea0] at x0 y0
      rw [← ea1] at x1 y1
      rw [← ea2] at x2 y2
      rw [← ea4] at x4 y4
      obtain ⟨am, eam⟩ : ∃ x, x = ys.length := ⟨_, rfl⟩
      rw [← eam] at x3 y3
      have HS : Hid (∀ W, Below wr.heap.size wr W → Calls Tryd.prog 33 #[.agg #[.int .i64 a0, .int .i64 a1, .int .i64 a2, .slice px am qx, .int .i64 a4], .agg #[.int .i64 a0, .int .i64 a1, .int .i64 a2, .slice py am qy, .int .i64 a4]] W fun e w' => e = .returned (.bool true) ∧ Below W.heap.size W w') := fun W hW => eqTok_same a0 a1 a2 a4 px py am qx qy ys W eam (by omega) (x5.below hW) (y5.below hW)
      clear eys ea0 ea1 ea2 ea4 eam x5 y5 hcx hcy HX HY bx hkx
      go_wp2
      go_region_with (go_at_call 33; refine (HS.out _ (Below.refl _ _).drew).mono ?_; rintro e w2 ⟨rfl, hb2⟩)
      all_goals
        have HB2 : Hid (Below w.heap.size w w2) := Below.on HB.out ((Below.refl _ wr).drew.trans hb2)
        clear hb2
        go_wp2
        go_roundw
        case rel => exact ⟨k + 1, by omega, by go_num, HB2⟩
        case measure => simp [intOf]; omega
    · obtain rfl : k = n := by omega
      clear HX HY
      go_wp2
      go_ret
      exact ⟨rfl, HB.out⟩

end Go.Proofs.YtfhelmhcmfpedaaDoor

namespace Go.Proofs.YtfhelmhcmfpedaaDoor
open Go Go.RowKit
set_option linter.unusedVariables false

theorem eqB_same (p q : Option Addr) (c1 c2 : Nat) (xs : List Int) (w : World) (hn : xs.length ≤ 1000000000) (hx : BIn w p xs) (hy : BIn w q xs) :
    Calls Tryd.prog 9 #[.slice p xs.length c1, .slice q xs.length c2] w fun e w' => e = .returned (.bool true) ∧ Below w.heap.size w w' :=
  (eqByteS_any p q c1 c2 xs xs w hn hn hx hy).mono fun e w' ⟨he, k, hk⟩ => ⟨by rw [he]; simp, by rw [hk]; exact below_drewN (Below.refl _ _) k⟩
theorem markB_keep (B U g n c : Nat) (k : Int) (xs : List Int) (w : World) (h0 : 0 ≤ k) (h1 : k ≤ 1000000000000) (hn : n ≤ 1000000000) (hown : OwnS w B (some ⟨g, 0, none⟩) n c xs) (hB : B ≤ g) (hU : g < U) :
    Calls Tryd.prog 12 #[.slice (some ⟨g, 0, none⟩) n c, .int .i64 k] w fun e w' => e = .returned (.int .i64 (k + n)) ∧ Keep B U w w' :=
  (mark_own B _ n c k xs w h0 h1 hn hown).mono fun e w' ⟨he, _, hg⟩ => ⟨he, Keep.of_grown hg fun j hj => by simp [Value.ownBlock] at hj; omega⟩
theorem endK_pos {k : Int} (h : 0 ≤ k) (ts : List Tok) : ¬ endK k ts < 0 := by unfold endK kT; omega

set_option maxRecDepth 100000 in
set_option maxHeartbeats 1000000 in
theorem lawLex_any (p : Option Addr) (cap : Nat) (xs : List Int) (m : Int) (w : World) (hby : Bytes xs) (hm : xs.length ≤ 9223372036854775807) (hin : BIn w p xs) (hT : Tab w)
    (hM : w.cell? ⟨2, 0, none⟩ = some (.int .i64 m)) (hE : w.cell? ⟨1, 0, none⟩ = some (.iface 84 (.agg #[.pointer (some ⟨3, 56, none⟩)]))) :
    Calls Tryd.prog 5 #[.slice p xs.length cap] w fun e w' => e = .returned (.bool true) ∧ Below w.heap.size w w' := by
  by_cases hn : xs.length ≤ 1048576
  · have HI : Hid (BIn w p xs) := hin
    obtain ⟨zs, ezs⟩ : ∃ zs, zs = (lexT xs).1 := ⟨_, rfl⟩
    obtain ⟨code, ecode⟩ : ∃ code, code = (lexT xs).2.1 := ⟨_, rfl⟩
    obtain ⟨at_, eat⟩ : ∃ at_, at_ = (lexT xs).2.2 := ⟨_, rfl⟩
    have HZL : Hid (zs.length + ttl zs ≤ 2000000) := by show _ ≤ _; rw [ezs]; exact lexT_size hby
    have HSP : Hid (∀ (b : Nat) (w : World), Row w b xs → Calls Tryd.prog 14 #[.slice (some ⟨b, 0, none⟩) xs.length xs.length] w fun e w' => ∃ q k c2, e = .returned (.tuple #[.slice q k c2, .int .i64 code, .int .i64 at_]) ∧ OwnK w' w.heap.size q k c2 zs ∧ Below w.heap.size w w') := fun b w h => by rw [ezs, ecode, eat]; exact (lexS_any b xs.length xs w hby hn (Nat.le_refl _) h.2).mono fun e w' h => lexOut_of h
    have HIM : Hid (∀ (b : Nat) (W : World), Below w.heap.size w W → Row W b xs → Calls Tryd.prog 15 #[.slice (some ⟨b, 0, none⟩) xs.length xs.length] W fun e w' => ∃ q k c2, e = .returned (.tuple #[.slice q k c2, .int .i64 code, .int .i64 at_]) ∧ OwnK w' W.heap.size q k c2 zs ∧ Below W.heap.size W w') := fun b W hW h => by rw [ezs, ecode, eat]; exact (lexP_any b xs.length xs m W hby hn (Nat.le_refl _) h.2 h.1 (hT.below hW) (cell_later hW hM) (cell_later hW hE)).mono fun e w' h => lexOut_of h
    clear ezs ecode eat hin hT hM hE
    go_enter Tryd.func5, Tryd.ntmps5
    go_wp2_with fail
    refine (toByteS_any p cap xs w hn HI.out).mono ?_
    rintro e w0 ⟨rfl, ho, hb⟩
    have HA0 : Hid (Below w.heap.size w w0) := hb
    have HP0 : Hid (Row w0 w.heap.size xs) := row_of_owns ho
    clear ho hb
    go_wp2_with fail
    refine (HSP.out _ w0 HP0.out).mono ?_
    rintro e w1 ⟨p1, n1, c1, rfl, ho, hb⟩
    have HA1 : Hid (Below w.heap.size w w1) := Below.on HA0.out hb
    have HB1 : Hid (Below w1.heap.size w1 w1) := Below.refl _ _
    have HZ1 : Hid (TIn w1 p1 zs ∧ n1 = zs.length) := ⟨ho.tin, ho.1⟩
    clear ho hb HP0
    go_wp2_with fail
    refine (toByteS_any p cap xs w1 hn (HI.out.below HA1.out)).mono ?_
    rintro e w2 ⟨rfl, ho, hb⟩
    have HA2 : Hid (Below w.heap.size w w2) := Below.on HA1.out hb
    have HB2 : Hid (Below w1.heap.size w1 w2) := Below.on HB1.out hb
    have HX2 : Hid (OwnS w2 w1.heap.size (some ⟨w1.heap.size, 0, none⟩) xs.length xs.length xs) := OwnS.of_row ho
    have HS2 : Hid (w1.heap.size < w2.heap.size) := (OwnS.of_row ho).row.1
    clear ho hb
    go_wp2_with fail
    refine (HIM.out _ w2 HA2.out HX2.out.row).mono ?_
    rintro e w3 ⟨p3, n3, c3, rfl, ho, hb⟩
    have HA3 : Hid (Below w.heap.size w w3) := Below.on HA2.out hb
    have HB3 : Hid (Below w1.heap.size w1 w3) := Below.on HB2.out hb
    have HX3 : Hid (OwnS w3 w1.heap.size (some ⟨w1.heap.size, 0, none⟩) xs.length xs.length xs) := HX2.out.below hb
    have HS3 : Hid (w1.heap.size < w3.heap.size) := Nat.lt_of_lt_of_le HS2.out hb.size
    have HG3 : Hid (OwnKU w3 w2.heap.size w3.heap.size p3 n3 c3 zs) := ho.up
    have HN3 : Hid (n3 = zs.length) := ho.1
    clear ho hb
    go_wp2_with fail
    rw [HN3.out, HZ1.out.2]
    refine (eqToks_same p3 p1 c3 c1 zs.length zs w3 rfl (by have := HZL.out; omega) HG3.out.toK.tin (HZ1.out.1.below HB3.out)).mono ?_
    rintro e w4 ⟨rfl, hb⟩
    have HA4 : Hid (Below w.heap.size w w4) := Below.on HA3.out hb
    have HB4 : Hid (Below w1.heap.size w1 w4) := Below.on HB3.out hb
    have HX4 : Hid (OwnS w4 w1.heap.size (some ⟨w1.heap.size, 0, none⟩) xs.length xs.length xs) := HX3.out.below hb
    have HS4 : Hid (w1.heap.size < w4.heap.size) := Nat.lt_of_lt_of_le HS3.out hb.size
    have HG4 : Hid (OwnKU w4 w2.heap.size w3.heap.size p3 n3 c3 zs) := HG3.out.below hb
    rw [← HN3.out]
    clear hb
    go_wp2_with fail
    refine (toByteS_any p cap xs w4 hn (HI.out.below HA4.out)).mono ?_
    rintro e w5 ⟨rfl, ho, hb⟩
    have HA5 : Hid (Below w.heap.size w w5) := Below.on HA4.out hb
    have HB5 : Hid (Below w1.heap.size w1 w5) := Below.on HB4.out hb
    have HX5 : Hid (OwnS w5 w1.heap.size (some ⟨w1.heap.size, 0, none⟩) xs.length xs.length xs) := HX4.out.below hb
    have HS5 : Hid (w1.heap.size < w5.heap.size) := Nat.lt_of_lt_of_le HS4.out hb.size
    have HG5 : Hid (OwnKU w5 w2.heap.size w3.heap.size p3 n3 c3 zs) := HG4.out.below hb
    have HP5 : Hid (Row w5 w4.heap.size xs) := row_of_owns ho
    clear ho hb
    go_wp2_with fail
    refine (eqB_same _ _ _ _ xs w5 (by omega) HX5.out.bin HP5.out.bin).mono ?_
    rintro e w6 ⟨rfl, hb⟩
    have HA6 : Hid (Below w.heap.size w w6) := Below.on HA5.out hb
    have HB6 : Hid (Below w1.heap.size w1 w6) := Below.on HB5.out hb
    have HX6 : Hid (OwnS w6 w1.heap.size (some ⟨w1.heap.size, 0, none⟩) xs.length xs.length xs) := HX5.out.below hb
    have HS6 : Hid (w1.heap.size < w6.heap.size) := Nat.lt_of_lt_of_le HS5.out hb.size
    have HG6 : Hid (OwnKU w6 w2.heap.size w3.heap.size p3 n3 c3 zs) := HG5.out.below hb
    clear hb HP5
    go_wp2_with fail
    refine (markB_keep w1.heap.size w2.heap.size w1.heap.size xs.length xs.length 1 xs w6 (by decide) (by decide) (by omega) HX6.out (Nat.le_refl _) HS2.out).mono ?_
    rintro e w7 ⟨rfl, hk⟩
    have HA7 : Hid (Below w.heap.size w w7) := HA6.out.trans (hk.below HA1.out.size HA6.out.size)
    have HB7 : Hid (Below w1.heap.size w1 w7) := HB6.out.trans (hk.below (Nat.le_refl _) HB6.out.size)
    have HS7 : Hid (w1.heap.size < w7.heap.size) := Nat.lt_of_lt_of_le HS6.out hk.size
    have HG7 : Hid (OwnKU w7 w2.heap.size w3.heap.size p3 n3 c3 zs) := HG6.out.keep hk (.inr (Nat.le_refl _))
    clear hk HX6
    go_wp2_with fail
    rw [HN3.out]
    refine (eqToks_same p3 p1 c3 c1 zs.length zs w7 rfl (by have := HZL.out; omega) HG7.out.toK.tin (HZ1.out.1.below HB7.out)).mono ?_
    rintro e w8 ⟨rfl, hb⟩
    have HA8 : Hid (Below w.heap.size w w8) := Below.on HA7.out hb
    have HB8 : Hid (Below w1.heap.size w1 w8) := Below.on HB7.out hb
    have HS8 : Hid (w1.heap.size < w8.heap.size) := Nat.lt_of_lt_of_le HS7.out hb.size
    have HG8 : Hid (OwnKU w8 w2.heap.size w3.heap.size p3 n3 c3 zs) := HG7.out.below hb
    rw [← HN3.out]
    clear hb
    go_wp2_with fail
    refine (markToks_any w2.heap.size w3.heap.size p3 n3 c3 1 zs w8 (by decide) (by decide) (by have := HZL.out; omega) HG8.out).mono ?_
    rintro e w9 ⟨rfl, ho, hk⟩
    have HA9 : Hid (Below w.heap.size w w9) := HA8.out.trans (hk.below HA2.out.size HA8.out.size)
    have HB9 : Hid (Below w1.heap.size w1 w9) := HB8.out.trans (hk.below HB2.out.size HB8.out.size)
    have HS9 : Hid (w1.heap.size < w9.heap.size) := Nat.lt_of_lt_of_le HS8.out hk.size
    have HH9 : Hid (TIn w9 p3 (markK 1 zs)) := ho.toK.tin
    obtain ⟨mm, emm⟩ : ∃ mm, mm = endK 1 zs := ⟨_, rfl⟩
    have hmm : ¬ mm < 0 := by rw [emm]; exact endK_pos (by decide) zs
    have HMM : Hid (mm = endK 1 zs) := emm
    rw [← emm]
    clear emm ho hk HG8
    go_wp2_with fail
    refine (heldToks_any p3 n3 c3 1 zs w9 (by decide) (by decide) (by have := HZL.out; omega) HN3.out HH9.out).mono ?_
    rintro e wh ⟨rfl, hwh⟩
    rw [hwh, ← HMM.out]
    clear hwh
    go_wp2_with fail
    refine (toByteS_any p cap xs w9 hn (HI.out.below HA9.out)).mono ?_
    rintro e w10 ⟨rfl, ho, hb⟩
    have HA10 : Hid (Below w.heap.size w w10) := Below.on HA9.out hb
    have HB10 : Hid (Below w1.heap.size w1 w10) := Below.on HB9.out hb
    have HS10 : Hid (w1.heap.size < w10.heap.size) := Nat.lt_of_lt_of_le HS9.out hb.size
    have HH10 : Hid (TIn w10 p3 (markK 1 zs)) := HH9.out.below hb
    have HP10 : Hid (Row w10 w9.heap.size xs) := row_of_owns ho
    clear ho hb
    go_wp2_with fail
    refine (HIM.out _ w10 HA10.out HP10.out).mono ?_
    rintro e w11 ⟨p11, n11, c11, rfl, ho, hb⟩
    have HA11 : Hid (Below w.heap.size w w11) := Below.on HA10.out hb
    have HB11 : Hid (Below w1.heap.size w1 w11) := Below.on HB10.out hb
    have HS11 : Hid (w1.heap.size < w11.heap.size) := Nat.lt_of_lt_of_le HS10.out hb.size
    have HH11 : Hid (TIn w11 p3 (markK 1 zs)) := HH10.out.below hb
    have HG11 : Hid (TIn w11 p11 zs ∧ n11 = zs.length) := ⟨ho.tin, ho.1⟩
    clear ho hb HP10
    go_wp2_with fail
    rw [HG11.out.2, HN3.out]
    refine (eqToks_same p11 p1 c11 c1 zs.length zs w11 rfl (by have := HZL.out; omega) HG11.out.1 (HZ1.out.1.below HB11.out)).mono ?_
    rintro e w12 ⟨rfl, hb⟩
    have HA12 : Hid (Below w.heap.size w w12) := Below.on HA11.out hb
    have HB12 : Hid (Below w1.heap.size w1 w12) := Below.on HB11.out hb
    have HS12 : Hid (w1.heap.size < w12.heap.size) := Nat.lt_of_lt_of_le HS11.out hb.size
    have HH12 : Hid (TIn w12 p3 (markK 1 zs)) := HH11.out.below hb
    clear hb
    go_wp2_with fail
    refine (heldToks_any p3 zs.length c3 1 zs w12 (by decide) (by decide) (by have := HZL.out; omega) rfl HH12.out).mono ?_
    rintro e wh ⟨rfl, hwh⟩
    rw [hwh, ← HMM.out]
    clear hwh
    go_wp2_with fail
    go_ret
    exact ⟨rfl, HA12.out⟩
  · have hn' : (1048576 : Int) < (xs.length : Int) := by omega
    clear hin hT hM hE
    go_enter Tryd.func5, Tryd.ntmps5
    go_wp2_with fail
    go_ret
    exact ⟨rfl, Below.refl _ _⟩

end Go.Proofs.YtfhelmhcmfpedaaDoor

