/- Texts of GrG, GrH, Make3, MarkA. Own work of the verifier. -/
import Derived.Test.YtbnmmcegjlmdmaaGreatDoorUqam
import Derived.Test.YtbnmmcegjlmdmaaGreatDoorUqao
import Derived.Test.YtbnmmcegjlmdmaaGreatDoorUqaj
import Derived.RangeFuncNested
import Derived.RangeFuncBound
import Derived.RangeFuncCalls
import Derived.RangeFuncLeaves
import Derived.Shelf.Abstract
import Derived.Shelf.RegionOpen
import Derived.WalkKit
import Derived.OwnWalkIn
import Derived.TacticsInMore
import Derived.LoopNIn
import Derived.LoopIn
import Derived.Sort.EveryDepth
import Derived.Test.YtbnmmcegjlmdmaaGreatDoorUqaf
import Derived.Test.YtbnmmcegjlmdmaaGreatDoorUqaa
import Derived.LoopN
namespace Go.Proofs.YtbnmmcegjlmdmaaGreatDoor
open Go Go.RowKit Go.Maps Go.Shelf
set_option linter.unusedVariables false
set_option linter.unusedSimpArgs false
structure GFr (gb nb : Nat) (w w' : World) : Prop where
  os : w'.os = w.os
  tape : w'.tape = w.tape
  output : w'.output = w.output
  size : w.heap.size ≤ w'.heap.size
  block : ∀ k, k < w.heap.size → k ≠ gb → k ≠ nb → w'.heap[k]? = w.heap[k]?
theorem GFr.refl (gb nb : Nat) (w : World) : GFr gb nb w w := ⟨rfl, rfl, rfl, Nat.le_refl _, fun _ _ _ _ => rfl⟩
theorem GFr.trans {gb nb : Nat} {w w1 w2 : World} (h : GFr gb nb w w1) (k : GFr gb nb w1 w2) : GFr gb nb w w2 := ⟨k.os.trans h.os, k.tape.trans h.tape, k.output.trans h.output, Nat.le_trans h.size k.size, fun x hx h1 h2 => (k.block x (Nat.lt_of_lt_of_le hx h.size) h1 h2).trans (h.block x hx h1 h2)⟩
theorem GFr.of (gb nb : Nat) {w w' : World} (h : Below w.heap.size w w') : GFr gb nb w w' := ⟨h.os, h.tape, h.output, h.size, fun k hk _ _ => h.block k hk⟩
theorem GFr.set1 (gb nb : Nat) (w : World) (o : Nat) (v : Value) : GFr gb nb w (w.setCell ⟨gb, o, none⟩ v) := ⟨rfl, rfl, rfl, by simp, fun k hk h1 h2 => Below.heap_setCell _ _ _ _ h1⟩
theorem GFr.set2 (gb nb : Nat) (w : World) (o : Nat) (v : Value) : GFr gb nb w (w.setCell ⟨nb, o, none⟩ v) := ⟨rfl, rfl, rfl, by simp, fun k hk h1 h2 => Below.heap_setCell _ _ _ _ h2⟩
theorem GFr.cell {gb nb : Nat} {w w' : World} (h : GFr gb nb w w') {q o : Nat} {v : Value} (hc : w.cell? ⟨q, o, none⟩ = some v) (h1 : q ≠ gb) (h2 : q ≠ nb) : w'.cell? ⟨q, o, none⟩ = some v := (World.cell?_of_block (a := ⟨q, o, none⟩) (h.block q (World.block_lt_of_cell? _ _ hc) h1 h2)).trans hc
def fltV (a a2 : Addr) (c : Int) : Value := if c = 0 then .nilIface else if c = 4 then efV a else efV a2
structure GMi (w0 : World) (gp gb nb : Nat) (a a2 : Addr) (st : GSt) (w : World) : Prop where
  err : ErrAt w0 a a2
  bel : Below w0.heap.size w0 w
  lo : w0.heap.size ≤ gb ∧ w0.heap.size ≤ nb
  ne : gb ≠ nb ∧ gp ≠ gb ∧ gp ≠ nb
  p0 : w.cell? ⟨gp, 0, none⟩ = some (ptrV gb)
  c0 : w.cell? ⟨gb, 0, none⟩ = some (.func (.func 54) #[] #[ptrV nb])
  rul : ∃ mb N s1 s2, w.cell? ⟨gb, 1, none⟩ = some (.map (some mb)) ∧ RuIn w mb N (ruTab gp s1 s2) ∧ w.cell? ⟨s1, 0, none⟩ = some (.string ⟨#[44]⟩) ∧ w.cell? ⟨s2, 0, none⟩ = some (.string ⟨#[45, 62]⟩)
  c2 : w.cell? ⟨gb, 2, none⟩ = some (fltV a a2 st.2)
  n0 : w.cell? ⟨nb, 0, none⟩ = some (.int .i64 st.1)
  fg : ∀ o, w.frozen? ⟨gb, o, none⟩ = false
  fn : ∀ o, w.frozen? ⟨nb, o, none⟩ = false
  rng : 0 ≤ st.1 ∧ st.1 ≤ 2000000 ∧ (st.2 = 0 ∨ st.2 = 3 ∨ st.2 = 4)
theorem RuIn.ne {w : World} {b N : Nat} {T : Fun → Option Value} (h : RuIn w b N T) {q o : Nat} {v : Value} (hc : w.cell? ⟨q, o, none⟩ = some v) : b ≠ q := fun e => by subst e; rw [h.nocell] at hc; cases hc
theorem GMi.below {w0 w w' : World} {gp gb nb : Nat} {a a2 : Addr} {st : GSt} (h : GMi w0 gp gb nb a a2 st w) (hb : Below w.heap.size w w') : GMi w0 gp gb nb a a2 st w' := by
  have hc : ∀ p v, w.cell? p = some v → w'.cell? p = some v := fun p v h => (hb.cell (World.block_lt_of_cell? _ _ h)).trans h
  obtain ⟨mb, N, s1, s2, r1, r2, r3, r4⟩ := h.rul
  have hg : gb < w.heap.size := World.block_lt_of_cell? _ _ h.c0
  have hn : nb < w.heap.size := World.block_lt_of_cell? _ _ h.n0
  exact ⟨h.err, Below.on h.bel hb, h.lo, h.ne, hc _ _ h.p0, hc _ _ h.c0, ⟨mb, N, s1, s2, hc _ _ r1, r2.below hb, hc _ _ r3, hc _ _ r4⟩, hc _ _ h.c2, hc _ _ h.n0, fun o => (hb.frozen (p := ⟨gb, o, none⟩) hg).trans (h.fg o), fun o => (hb.frozen (p := ⟨nb, o, none⟩) hn).trans (h.fn o), h.rng⟩
theorem GMi.errs {w0 w : World} {gp gb nb : Nat} {a a2 : Addr} {st : GSt} (h : GMi w0 gp gb nb a a2 st w) : ErrAt w a a2 := h.err.below h.bel
theorem GMi.next {w0 w : World} {gp gb nb : Nat} {a a2 : Addr} {st : GSt} (h : GMi w0 gp gb nb a a2 st w) (hl : st.1 ≤ 1500000) : GMi w0 gp gb nb a a2 (st.1 + 1, st.2) (w.setCell ⟨nb, 0, none⟩ (.int .i64 (st.1 + 1))) := by
  have hc : ∀ q o v, q ≠ nb → w.cell? ⟨q, o, none⟩ = some v → (w.setCell ⟨nb, 0, none⟩ (.int .i64 (st.1 + 1))).cell? ⟨q, o, none⟩ = some v := fun q o v hq h => (World.cell?_setCell_other _ _ _ _ (fun e => hq (by simpa using (congrArg Addr.block e).symm))).trans h
  obtain ⟨mb, N, s1, s2, r1, r2, r3, r4⟩ := h.rul
  have hs : ∀ s k, w.cell? ⟨s, 0, none⟩ = some (.string k) → s ≠ nb := fun s k hk e => by subst e; rw [h.n0] at hk; cases hk
  refine ⟨h.err, ⟨h.bel.os, h.bel.tape, h.bel.output, by simpa using h.bel.size, fun k hk => (Below.heap_setCell _ _ _ _ (by show k ≠ nb; have := h.lo.2; omega)).trans (h.bel.block k hk)⟩, h.lo, h.ne, hc _ _ _ h.ne.2.2 h.p0, hc _ _ _ h.ne.1 h.c0, ⟨mb, N, s1, s2, hc _ _ _ h.ne.1 r1, r2.of (Below.heap_setCell _ _ _ _ (r2.ne h.n0)), hc _ _ _ (hs _ _ r3) r3, hc _ _ _ (hs _ _ r4) r4⟩, hc _ _ _ h.ne.1 h.c2, World.cell?_setCell_same' _ _ _ (by rw [h.n0]; rfl), fun o => by rw [World.frozen?_setCell]; exact h.fg o, fun o => by rw [World.frozen?_setCell]; exact h.fn o, ?_⟩
  have := h.rng
  simp only
  omega
theorem GMi.code {w0 w : World} {gp gb nb : Nat} {a a2 : Addr} {st : GSt} (h : GMi w0 gp gb nb a a2 st w) (c : Int) (hcc : c = 3 ∨ c = 4) : GMi w0 gp gb nb a a2 (st.1, c) (w.setCell ⟨gb, 2, none⟩ (fltV a a2 c)) := by
  have hc : ∀ q o v, q ≠ gb → w.cell? ⟨q, o, none⟩ = some v → (w.setCell ⟨gb, 2, none⟩ (fltV a a2 c)).cell? ⟨q, o, none⟩ = some v := fun q o v hq h => (World.cell?_setCell_other _ _ _ _ (fun e => hq (by simpa using (congrArg Addr.block e).symm))).trans h
  have hd : ∀ o v, o ≠ 2 → w.cell? ⟨gb, o, none⟩ = some v → (w.setCell ⟨gb, 2, none⟩ (fltV a a2 c)).cell? ⟨gb, o, none⟩ = some v := fun o v hq h => (World.cell?_setCell_other _ _ _ _ (fun e => hq (by simpa using (congrArg Addr.off e).symm))).trans h
  obtain ⟨mb, N, s1, s2, r1, r2, r3, r4⟩ := h.rul
  have hs : ∀ s k, w.cell? ⟨s, 0, none⟩ = some (.string k) → s ≠ gb := fun s k hk e => by subst e; rw [h.c0] at hk; cases hk
  refine ⟨h.err, ⟨h.bel.os, h.bel.tape, h.bel.output, by simpa using h.bel.size, fun k hk => (Below.heap_setCell _ _ _ _ (by show k ≠ gb; have := h.lo.1; omega)).trans (h.bel.block k hk)⟩, h.lo, h.ne, hc _ _ _ h.ne.2.1 h.p0, hd _ _ (by decide) h.c0, ⟨mb, N, s1, s2, hd _ _ (by decide) r1, r2.of (Below.heap_setCell _ _ _ _ (r2.ne h.c0)), hc _ _ _ (hs _ _ r3) r3, hc _ _ _ (hs _ _ r4) r4⟩, World.cell?_setCell_same' _ _ _ (by rw [h.c2]; rfl), hc _ _ _ h.ne.1.symm h.n0, fun o => by rw [World.frozen?_setCell]; exact h.fg o, fun o => by rw [World.frozen?_setCell]; exact h.fn o, ?_⟩
  have := h.rng
  simp only
  omega
theorem FoC.move {w w' : World} {gb nb : Nat} (hg : ∃ k c, w.cell? ⟨gb, 0, none⟩ = some (.func k #[] c)) (hn : ∃ x, w.cell? ⟨nb, 0, none⟩ = some (.int .i64 x)) (hf : GFr gb nb w w') : ∀ (F : Fo) (vs : List Value), FoC w F vs → FoC w' F vs
  | .nil, vs, h => h
  | .node c k r, vs, ⟨v, vr, e, hnd, hr⟩ => by
    obtain ⟨kf, cf, hg0⟩ := hg
    obtain ⟨nx, hn0⟩ := hn
    refine ⟨v, vr, e, ?_, FoC.move ⟨kf, cf, hg0⟩ ⟨nx, hn0⟩ hf r vr hr⟩
    rcases hnd with h | h | h | ⟨h, b, g, cq, us, hv, h1, h2, c0, c1, hgl, cg, hk⟩
    · exact .inl h
    · exact .inr (.inl h)
    · exact .inr (.inr (.inl h))
    · have b1 : b ≠ gb := fun e => by subst e; rw [hg0] at c0; cases c0
      have b2 : b ≠ nb := fun e => by subst e; rw [hn0] at c0; cases c0
      refine .inr (.inr (.inr ⟨h, b, g, cq, us, hv, h1, h2, hf.cell c0 b1 b2, hf.cell c1 b1 b2, Nat.lt_of_lt_of_le hgl hf.size, fun i hi => ?_, FoC.move ⟨kf, cf, hg0⟩ ⟨nx, hn0⟩ hf k us hk⟩))
      have hi0 : 0 < us.length := by omega
      have g0 := cg 0 hi0
      have hif : ∃ t x, us.getD 0 .nilIface = .iface t x := by
        cases k with
        | nil => rw [show us = [] from hk] at hi0; cases hi0
        | node c' k' r' =>
          obtain ⟨v', vr', rfl, hnd', _⟩ := hk
          exact hnd'.iface
      obtain ⟨t, x, hif⟩ := hif
      rw [hif] at g0
      exact hf.cell (cg i hi) (fun e => by subst e; rw [hg0] at g0; cases g0) (fun e => by subst e; rw [hn0] at g0; cases g0)
theorem GMi.tree {w0 w w' : World} {gp gb nb : Nat} {a a2 : Addr} {st : GSt} (h : GMi w0 gp gb nb a a2 st w) (hf : GFr gb nb w w') {F : Fo} {vs : List Value} (ht : FoC w F vs) : FoC w' F vs := FoC.move ⟨_, _, h.c0⟩ ⟨_, h.n0⟩ hf F vs ht
def GOutI (w0 : World) (gp gb nb : Nat) (a a2 : Addr) (w : World) (x : Tr × GSt) (e : Ending) (w' : World) : Prop := ∃ v, e = .returned v ∧ FoC w' x.1.fo [v] ∧ GMi w0 gp gb nb a a2 x.2 w' ∧ GFr gb nb w w'
abbrev failT : Tr := ((2, 0, [102, 97, 105, 108]), .nil)
theorem gnew_end {w0 : World} {gp gb : Nat} {L : Array Bool} {a : Act} {w : World} (I0 : ∃ s1 s2 b, GI w0 gp gb s1 s2 b L a w) (hr : Region.ready .any gOps L = []) : ∃ s1 s2 b N, a.tmps[3]? = some (ptrV gp) ∧ a.tmps.size = 27 ∧ a.defers = [] ∧ w0.grownBy w (some gb) ∧ w0.heap.size ≤ s1 ∧ w.cell? ⟨s1, 0, none⟩ = some (.string ⟨#[44]⟩) ∧ w0.heap.size ≤ s2 ∧ w.cell? ⟨s2, 0, none⟩ = some (.string ⟨#[45, 62]⟩) ∧ w0.heap.size ≤ b ∧ RuIn w b N (ruTab gp s1 s2) ∧ w.cell? ⟨gb, 1, none⟩ = some (.map (some b)) ∧ (∀ o, o ≠ 1 → w.cell? ⟨gb, o, none⟩ = w0.cell? ⟨gb, o, none⟩) ∧ ∀ o, w.frozen? ⟨gb, o, none⟩ = false := by
  obtain ⟨s1, s2, b, I⟩ := I0
  have hall : ∀ n, n ≤ 24 → ∀ i, i < n → L.getD i true = true := by
    intro n
    induction n with
    | zero => intro _ i hi; omega
    | succ n ih =>
      intro hn i hi
      by_cases e : i = n
      · subst e
        cases hl : L.getD i true with
        | true => rfl
        | false =>
          exfalso
          obtain ⟨o, ho⟩ : ∃ o, gOps[i]? = some o := ⟨_, Array.getElem?_eq_getElem (by rw [gsize_ops]; omega)⟩
          have hb := List.all_eq_true.1 gback_only i (List.mem_range.2 (by omega))
          rw [ho] at hb
          simp only [Option.all_some, List.all_eq_true, decide_eq_true_eq] at hb
          have : i ∈ Region.ready .any gOps L := mem_ready.2 ⟨hl, o, ho, fun e he _ => by
            have h1 := ih (by omega) e.on (hb e (by simpa using he))
            have hlt : e.on < L.size := by have := hb e (by simpa using he); rw [I.lsz]; omega
            simp only [Array.getD_eq_getD_getElem?, Array.getElem?_eq_getElem hlt, Option.getD_some] at h1 ⊢
            exact h1⟩
          rw [hr] at this
          cases this
      · exact ih (by omega) i (by omega)
  have h23 : L.getD 23 false = true := by
    have h1 := hall 24 (Nat.le_refl _) 23 (by decide)
    have hlt : 23 < L.size := by rw [I.lsz]; decide
    simp only [Array.getD_eq_getD_getElem?, Array.getElem?_eq_getElem hlt, Option.getD_some] at h1 ⊢
    exact h1
  obtain ⟨f1, f20⟩ := I.gw.fin h23
  obtain ⟨d1, d4, d8, dI⟩ := I.gw.d20 f20
  obtain ⟨h1, N, h2, h3⟩ := I.gw.tab d1
  rw [insG_all dI] at h3
  exact ⟨s1, s2, b, N, I.t3, I.tsz, I.dfs, I.gw.fr, (I.gw.str1 d4).1, (I.gw.str1 d4).2, (I.gw.str2 d8).1, (I.gw.str2 d8).2, h1, h3, f1, I.gw.oth, I.gw.frz⟩
theorem tmps27 {v : Value} (a : Act) (h : a.tmps.size = 27) (hd : a.defers = []) (h3 : a.tmps[3]? = some v) : ∃ x0 x1 x2 x4 x5 x6 x7 x8 x9 x10 x11 x12 x13 x14 x15 x16 x17 x18 x19 x20 x21 x22 x23 x24 x25 x26, a = ⟨#[x0, x1, x2, v, x4, x5, x6, x7, x8, x9, x10, x11, x12, x13, x14, x15, x16, x17, x18, x19, x20, x21, x22, x23, x24, x25, x26], []⟩ := by
  obtain ⟨⟨l⟩, d⟩ := a
  simp only at h hd h3
  subst hd
  match l, h with
  | [x0, x1, x2, x3, x4, x5, x6, x7, x8, x9, x10, x11, x12, x13, x14, x15, x16, x17, x18, x19, x20, x21, x22, x23, x24, x25, x26], _ =>
    simp at h3
    subst h3
    exact ⟨x0, x1, x2, x4, x5, x6, x7, x8, x9, x10, x11, x12, x13, x14, x15, x16, x17, x18, x19, x20, x21, x22, x23, x24, x25, x26, rfl⟩
set_option maxRecDepth 100000 in
set_option maxHeartbeats 4000000 in
theorem newGrammar_any (n : Int) (hn : 0 ≤ n ∧ n ≤ 1500000) (a a2 : Addr) (w : World) (he : ErrAt w a a2) : Calls Tryz.prog 46 #[.int .i64 n] w fun e w' => ∃ gp gb nb, e = .returned (ptrV gb) ∧ GMi w gp gb nb a a2 (n, 0) w' ∧ Below w.heap.size w w' := by
  obtain ⟨hn0, hn1⟩ := hn
  obtain ⟨w1, e1⟩ : ∃ w1, w1 = w.alloc (.cells #[.int .i64 n] 84) := ⟨_, rfl⟩
  obtain ⟨w2, e2⟩ : ∃ w2, w2 = w1.alloc (.cells #[.func (.func 54) #[] #[ptrV w.heap.size], .map none, .nilIface] 90) := ⟨_, rfl⟩
  obtain ⟨W, eW⟩ : ∃ W, W = w2.alloc (.cells #[ptrV (w.heap.size + 1)] 82) := ⟨_, rfl⟩
  have z1 : w1.heap.size = w.heap.size + 1 := by rw [e1]; simp
  have z2 : w2.heap.size = w.heap.size + 1 + 1 := by rw [e2, World.size_alloc, z1]
  have zW : W.heap.size = w.heap.size + 1 + 1 + 1 := by rw [eW, World.size_alloc, z2]
  have b1 : Below w.heap.size w w1 := by rw [e1]; exact (Below.refl _ _).alloc (Nat.le_refl _) _
  have b2 : Below w1.heap.size w1 w2 := by rw [e2]; exact (Below.refl _ _).alloc (Nat.le_refl _) _
  have b3 : Below w2.heap.size w2 W := by rw [eW]; exact (Below.refl _ _).alloc (Nat.le_refl _) _
  have hp : W.heap[w.heap.size + 1 + 1]? = some (.cells #[ptrV (w.heap.size + 1)] 82) := by
    have h := heap_alloc_new w2 (.cells #[ptrV (w.heap.size + 1)] 82)
    rw [← eW, z2] at h; exact h
  have hg : W.heap[w.heap.size + 1]? = some (.cells #[.func (.func 54) #[] #[ptrV w.heap.size], .map none, .nilIface] 90) := by
    have h := heap_alloc_new w1 (.cells #[.func (.func 54) #[] #[ptrV w.heap.size], .map none, .nilIface] 90)
    rw [← e2, z1] at h; exact (b3.block _ (by omega)).trans h
  have hnn : W.heap[w.heap.size]? = some (.cells #[.int .i64 n] 84) := by
    have h := heap_alloc_new w (.cells #[.int .i64 n] 84)
    rw [← e1] at h; exact (b3.block _ (by omega)).trans ((b2.block _ (by omega)).trans h)
  have hgp : W.cell? ⟨w.heap.size + 1 + 1, 0, none⟩ = some (ptrV (w.heap.size + 1)) := by unfold World.cell?; rw [hp]; rfl
  have hg0 : W.cell? ⟨w.heap.size + 1, 0, none⟩ = some (.func (.func 54) #[] #[ptrV w.heap.size]) := by unfold World.cell?; rw [hg]; rfl
  have hg1 : W.cell? ⟨w.heap.size + 1, 1, none⟩ = some (.map none) := by unfold World.cell?; rw [hg]; rfl
  have hg2 : W.cell? ⟨w.heap.size + 1, 2, none⟩ = some .nilIface := by unfold World.cell?; rw [hg]; rfl
  have hgf : ∀ o, W.frozen? ⟨w.heap.size + 1, o, none⟩ = false := fun o => by unfold World.frozen?; rw [hg]; simp
  have hn2 : W.cell? ⟨w.heap.size, 0, none⟩ = some (.int .i64 n) := by unfold World.cell?; rw [hnn]; rfl
  have hnf : ∀ o, W.frozen? ⟨w.heap.size, o, none⟩ = false := fun o => by unfold World.frozen?; rw [hnn]; simp
  have hbW : Below w.heap.size w W := Below.on (Below.on b1 b2) b3
  have HF : Hid (∀ w' s1 s2 b N, W.grownBy w' (some (w.heap.size + 1)) → W.heap.size ≤ s1 → w'.cell? ⟨s1, 0, none⟩ = some (.string ⟨#[44]⟩) → W.heap.size ≤ s2 → w'.cell? ⟨s2, 0, none⟩ = some (.string ⟨#[45, 62]⟩) → W.heap.size ≤ b → RuIn w' b N (ruTab (w.heap.size + 1 + 1) s1 s2) → w'.cell? ⟨w.heap.size + 1, 1, none⟩ = some (.map (some b)) → (∀ o, o ≠ 1 → w'.cell? ⟨w.heap.size + 1, o, none⟩ = W.cell? ⟨w.heap.size + 1, o, none⟩) → (∀ o, w'.frozen? ⟨w.heap.size + 1, o, none⟩ = false) →
      GMi w (w.heap.size + 1 + 1) (w.heap.size + 1) w.heap.size a a2 (n, 0) w' ∧ Below w.heap.size w w' ∧ w'.cell? ⟨w.heap.size + 1 + 1, 0, none⟩ = some (ptrV (w.heap.size + 1))) := fun w' s1 s2 b N hfr k1 c1 k2 c2 kb hru g1 goth gfz => by
    have hB : Below w.heap.size w w' := ⟨hfr.os.trans hbW.os, hfr.tape.trans hbW.tape, hfr.output.trans hbW.output, Nat.le_trans hbW.size hfr.size, fun k hk => (hfr.block k (by omega) (fun e => by have := Option.some.inj e; omega)).trans (hbW.block k hk)⟩
    have hp' : w'.cell? ⟨w.heap.size + 1 + 1, 0, none⟩ = some (ptrV (w.heap.size + 1)) := hfr.cell hgp (fun e => by have := Option.some.inj e; simp at this)
    refine ⟨⟨he, hB, ⟨by omega, Nat.le_refl _⟩, ⟨by omega, by omega, by omega⟩, hp', (goth 0 (by decide)).trans hg0, ⟨b, N, s1, s2, g1, hru, c1, c2⟩, (goth 2 (by decide)).trans hg2, hfr.cell hn2 (fun e => by have := Option.some.inj e; simp at this), gfz, fun o => ?_, ⟨hn0, by simp only; omega, .inl rfl⟩⟩, hB, hp'⟩
    have hbk : w'.heap[w.heap.size]? = W.heap[w.heap.size]? := hfr.block _ (by omega) (fun e => by have := Option.some.inj e; omega)
    exact (World.frozen?_of_block (a := ⟨w.heap.size, o, none⟩) hbk).trans (hnf o)
  have HW : Hid (W = ((w.alloc (.cells #[.int .i64 n] 84)).alloc (.cells #[.func (.func 54) #[] #[ptrV w.heap.size], .map none, .nilIface] 90)).alloc (.cells #[ptrV (w.heap.size + 1)] 82)) := (show W = _ from by rw [eW, e2, e1])
  have HS : Hid (∀ (Q : Exit → Act → World → Prop) L ac w', (∃ s1 s2 b, GI W (w.heap.size + 1 + 1) (w.heap.size + 1) s1 s2 b L ac w') → ∀ i ∈ Region.ready .any gOps L, wpOp Tryz.prog gOps Q i (fun a' w' => ∃ s1 s2 b, GI W (w.heap.size + 1 + 1) (w.heap.size + 1) s1 s2 b (L.setIfInBounds i true) a' w') ac w') := fun Q L ac w' I i hi => gnew_step W _ _ hgp (by omega) (by omega) L ac w' I i hi
  have HG : Hid ((W.cell? ⟨w.heap.size + 1, 1, none⟩).isSome = true ∧ ∀ o, W.frozen? ⟨w.heap.size + 1, o, none⟩ = false) := ⟨by rw [hg1]; rfl, hgf⟩
  clear z1 z2 zW b1 b2 b3 hp hg hnn hgp hg0 hg1 hg2 hgf hn2 hnf hbW he eW e2 e1
  go_enter Tryz.func46, Tryz.ntmps46
  go_wp2_with fail
  refine wp_region_any (ops := gOps) (by kernel_rfl) ?_
  rw [← HW.out]
  refine wpAny_inv (fun L ac w' => ∃ s1 s2 b, GI W (w.heap.size + 1 + 1) (w.heap.size + 1) s1 s2 b L ac w') (fun L ac w' I i hi => HS.out _ L ac w' I i hi) (fun L ac w' I hr => ?_) _ _ _ _ ?_ (by have := unl_le (Array.replicate gOps.size false); simpa using this)
  · obtain ⟨s1, s2, b, N, e3, hs, hd, hfr, k1, c1, k2, c2, kb, hru, g1, goth, gfz⟩ := gnew_end I hr
    obtain ⟨x0, x1, x2, x4, x5, x6, x7, x8, x9, x10, x11, x12, x13, x14, x15, x16, x17, x18, x19, x20, x21, x22, x23, x24, x25, x26, rfl⟩ := tmps27 ac hs hd e3
    obtain ⟨hM, hB, hp⟩ := HF.out w' s1 s2 b N hfr k1 c1 k2 c2 kb hru g1 goth gfz
    have HM : Hid (GMi w (w.heap.size + 1 + 1) (w.heap.size + 1) w.heap.size a a2 (n, 0) w' ∧ Below w.heap.size w w') := ⟨hM, hB⟩
    clear hM hB e3 hs hd hfr k1 c1 k2 c2 kb hru g1 goth gfz HF HS HG HW I hr
    refine ‹∀ (a : Act) (w : World), Code.wp _ (Code.seq _ Code.ret) _ a w → _› _ _ ?_
    go_wp2_with fail
    go_ret
    exact ⟨_, _, _, rfl, HM.out.1, HM.out.2⟩
  · have hz : ∀ k, (Array.replicate gOps.size false).getD k false = false := fun k => by
      simp only [Array.getD_eq_getD_getElem?, Array.getElem?_replicate]
      split <;> rfl
    have hx : ∀ {k : Nat} {C : Prop}, (Array.replicate gOps.size false).getD k false = true → C := fun h => by rw [hz] at h; cases h
    exact ⟨0, 0, 0, by simp [gsize_ops], rfl, rfl, rfl, rfl, fun i v _ hl => hx hl, ⟨⟨rfl, rfl, rfl, Nat.le_refl _, fun _ _ _ => rfl⟩, fun h => hx h, fun h => hx h, fun h => hx h, fun j _ h => hx h, fun h => hx h, fun h => hx h, fun h => hx h, fun h => hx h, fun _ _ => rfl, HG.out.1, HG.out.2⟩⟩
end Go.Proofs.YtbnmmcegjlmdmaaGreatDoor

namespace Go.Proofs.YtbnmmcegjlmdmaaGreatDoor
open Go Go.RowKit Go.Maps Go.Shelf
set_option linter.unusedVariables false
set_option linter.unusedSimpArgs false
abbrev varV (a : Int) : Value := .iface 84 (.int .i64 a)
theorem foC_var (w : World) (a : Int) : FoC w (vT a).fo [varV a] := ⟨_, _, rfl, .inl ⟨rfl, rfl⟩, rfl⟩
theorem foC_atom (w : World) (s : List Int) : FoC w (Tr.fo ((2, 0, s), .nil)) [.iface 74 (.string (strOfNums s))] := ⟨_, _, rfl, .inr (.inr (.inl ⟨rfl, rfl⟩)), rfl⟩
theorem foC_if {w : World} {x : Tr} {v : Value} (h : FoC w x.fo [v]) : ∃ t y, v = .iface t y := by
  obtain ⟨v', vr, e, hn, _⟩ := h
  obtain ⟨rfl, rfl⟩ := List.cons.inj e
  exact hn.iface
theorem foC_nil (w : World) : FoC w (itsF []) [] := rfl
theorem foC_cons {w : World} {x : Tr} {r : List Tr} {v : Value} {vr : List Value} (h : FoC w x.fo [v]) (hr : FoC w (itsF r) vr) : FoC w (itsF (x :: r)) (v :: vr) := by
  obtain ⟨v', vr', e, hn, _⟩ := h
  obtain ⟨rfl, _⟩ := List.cons.inj e
  exact ⟨_, _, rfl, hn, hr⟩
theorem foC_comp (w : World) (nm : List Int) (ts : List Tr) (vs : List Value) (g c : Nat) (h0 : 0 < vs.length) (hg : ∀ i, i < vs.length → w.cell? ⟨g, i, none⟩ = some (vs.getD i .nilIface)) (hF : FoC w (itsF ts) vs) :
    FoC (w.alloc (.cells #[.string (strOfNums nm), .slice (some ⟨g, 0, none⟩) vs.length c] 79)) (cmpT nm ts).fo [.iface 76 (ptrV w.heap.size)] := by
  have hb : Below w.heap.size w (w.alloc (.cells #[.string (strOfNums nm), .slice (some ⟨g, 0, none⟩) vs.length c] 79)) := (Below.refl _ _).alloc (Nat.le_refl _) _
  have hn := heap_alloc_new w (.cells #[.string (strOfNums nm), .slice (some ⟨g, 0, none⟩) vs.length c] 79)
  have hgl : g < w.heap.size := World.block_lt_of_cell? _ _ (hg 0 h0)
  refine ⟨_, _, rfl, .inr (.inr (.inr ⟨rfl, w.heap.size, g, c, vs, rfl, trivial, trivial, ?_, ?_, Nat.lt_of_lt_of_le hgl hb.size, fun i hi => ?_, hF.below hb⟩)), rfl⟩
  · unfold World.cell?; rw [hn]; rfl
  · unfold World.cell?; rw [hn]; rfl
  · have h := hg i hi
    exact (hb.cell (World.block_lt_of_cell? _ _ h)).trans h
theorem callableC_any (s : ByteArray) (p : Option Addr) (n c : Nat) (w : World) (h1 : 1 ≤ n) (h2 : n ≤ 1000) : Calls Tryz.prog 57 #[.string s, .slice p n c] w fun e w' => e = .returned (.iface 76 (.pointer (some ⟨w.heap.size, 0, none⟩))) ∧ w' = w.alloc (.cells #[.string s, .slice p n c] 79) := by
  have h1' : ((n : Int) == 0) = false := by simp; omega
  have h1'' : ¬ ((n : Int) = 0) := by omega
  go_enter Tryz.func57, Tryz.ntmps57
  go_wp2_with fail
  go_ret
  exact ⟨rfl, rfl⟩
def TrOut (w : World) (t : Tr) (e : Ending) (w' : World) : Prop := ∃ v, e = .returned v ∧ FoC w' t.fo [v] ∧ Below w.heap.size w w'
theorem callT_any (nm : List Int) (ts : List Tr) (vs : List Value) (g n c : Nat) (w : World) (hn : n = vs.length) (h1 : 1 ≤ n) (h2 : n ≤ 1000) (hg : ∀ i, i < n → w.cell? ⟨g, i, none⟩ = some (vs.getD i .nilIface)) (hF : FoC w (itsF ts) vs) :
    Calls Tryz.prog 57 #[.string (strOfNums nm), .slice (some ⟨g, 0, none⟩) n c] w (TrOut w (cmpT nm ts)) := by
  subst hn
  refine (callableC_any (strOfNums nm) (some ⟨g, 0, none⟩) vs.length c w h1 h2).mono ?_
  rintro e w' ⟨rfl, rfl⟩
  exact ⟨_, rfl, foC_comp w nm ts vs g c (by omega) hg hF, (Below.refl _ _).alloc (Nat.le_refl _) _⟩
theorem new_cells2 (w : World) (u v : Value) (t : TypeId) : ∀ i, i < 2 → (w.alloc (.cells #[u, v] t)).cell? ⟨w.heap.size, i, none⟩ = some (([u, v] : List Value).getD i .nilIface) := fun i hi => by
  unfold World.cell?
  rw [show (w.alloc (.cells #[u, v] t)).heap[w.heap.size]? = some (.cells #[u, v] t) from heap_alloc_new w _]
  match i, hi with
  | 0, _ => rfl
  | 1, _ => rfl
theorem new_cells1 (w : World) (u : Value) (t : TypeId) : ∀ i, i < 1 → (w.alloc (.cells #[u] t)).cell? ⟨w.heap.size, i, none⟩ = some (([u] : List Value).getD i .nilIface) := fun i hi => by
  unfold World.cell?
  rw [show (w.alloc (.cells #[u] t)).heap[w.heap.size]? = some (.cells #[u] t) from heap_alloc_new w _]
  match i, hi with
  | 0, _ => rfl
theorem new_cells3 (w : World) (u v x : Value) (t : TypeId) : ∀ i, i < 3 → (w.alloc (.cells #[u, v, x] t)).cell? ⟨w.heap.size, i, none⟩ = some (([u, v, x] : List Value).getD i .nilIface) := fun i hi => by
  unfold World.cell?
  rw [show (w.alloc (.cells #[u, v, x] t)).heap[w.heap.size]? = some (.cells #[u, v, x] t) from heap_alloc_new w _]
  match i, hi with
  | 0, _ => rfl
  | 1, _ => rfl
  | 2, _ => rfl
theorem below_new (w : World) (o : Obj) : Below w.heap.size w (w.alloc o) := (Below.refl _ _).alloc (Nat.le_refl _) _
theorem call2_any (nm : List Int) (S : ByteArray) (hS : strOfNums nm = S) (x y : Tr) (u v : Value) (w : World) (hx : FoC w x.fo [u]) (hy : FoC w y.fo [v]) :
    Calls Tryz.prog 57 #[.string S, .slice (some ⟨w.heap.size, 0, none⟩) 2 2] (w.alloc (.cells #[u, v] 49)) (TrOut w (cmpT nm [x, y])) := by
  subst hS
  refine (callT_any nm [x, y] [u, v] w.heap.size 2 2 _ rfl (by decide) (by decide) (new_cells2 w u v _) (foC_cons (hx.below (below_new w _)) (foC_cons (hy.below (below_new w _)) (foC_nil _)))).mono ?_
  rintro e w' ⟨z, rfl, h1, h2⟩
  exact ⟨z, rfl, h1, Below.on (below_new w _) h2⟩
theorem call1_any (nm : List Int) (S : ByteArray) (hS : strOfNums nm = S) (x : Tr) (u : Value) (w : World) (hx : FoC w x.fo [u]) :
    Calls Tryz.prog 57 #[.string S, .slice (some ⟨w.heap.size, 0, none⟩) 1 1] (w.alloc (.cells #[u] 49)) (TrOut w (cmpT nm [x])) := by
  subst hS
  refine (callT_any nm [x] [u] w.heap.size 1 1 _ rfl (by decide) (by decide) (new_cells1 w u _) (foC_cons (hx.below (below_new w _)) (foC_nil _))).mono ?_
  rintro e w' ⟨z, rfl, h1, h2⟩
  exact ⟨z, rfl, h1, Below.on (below_new w _) h2⟩
theorem call3_any (nm : List Int) (S : ByteArray) (hS : strOfNums nm = S) (x y q : Tr) (u v s : Value) (w : World) (hx : FoC w x.fo [u]) (hy : FoC w y.fo [v]) (hq : FoC w q.fo [s]) :
    Calls Tryz.prog 57 #[.string S, .slice (some ⟨w.heap.size, 0, none⟩) 3 3] (w.alloc (.cells #[u, v, s] 49)) (TrOut w (cmpT nm [x, y, q])) := by
  subst hS
  refine (callT_any nm [x, y, q] [u, v, s] w.heap.size 3 3 _ rfl (by decide) (by decide) (new_cells3 w u v s _) (foC_cons (hx.below (below_new w _)) (foC_cons (hy.below (below_new w _)) (foC_cons (hq.below (below_new w _)) (foC_nil _))))).mono ?_
  rintro e w' ⟨z, rfl, h1, h2⟩
  exact ⟨z, rfl, h1, Below.on (below_new w _) h2⟩
set_option maxRecDepth 100000 in
theorem newVar_any {w0 : World} {gp gb nb : Nat} {a a2 : Addr} {st : GSt} {w : World} (h : GMi w0 gp gb nb a a2 st w) (hl : st.1 ≤ 1500000) : Calls Tryz.prog 54 #[ptrV nb] w fun e w' => e = .returned (varV st.1) ∧ GMi w0 gp gb nb a a2 (st.1 + 1, st.2) w' ∧ GFr gb nb w w' := by
  have c0 := h.n0
  have f0 := h.fn 0
  have hr := h.rng
  have HN : Hid (GMi w0 gp gb nb a a2 (st.1 + 1, st.2) (w.setCell ⟨nb, 0, none⟩ (.int .i64 (st.1 + 1)))) := h.next hl
  have d0 := HN.out.n0
  simp only at d0
  have e0 : (st.1 + 1 - 1) = st.1 := by omega
  obtain ⟨x, ex⟩ : ∃ x, x = st.1 := ⟨_, rfl⟩
  rw [← ex] at c0 d0 HN e0 hr hl ⊢
  clear h ex
  go_enter Tryz.func54, Tryz.ntmps54
  go_wp2_with fail
  go_ret
  exact ⟨by simp, HN.out, GFr.set2 gb nb w 0 _⟩
theorem fltV_ne {a a2 : Addr} {c : Int} (h0 : ¬ c = 0) : ∃ q, fltV a a2 c = efV q := by
  unfold fltV; rw [if_neg h0]; split
  · exact ⟨a, rfl⟩
  · exact ⟨a2, rfl⟩
set_option maxRecDepth 100000 in
theorem fail_any {w0 : World} {gp gb nb : Nat} {a a2 : Addr} {st : GSt} {w : World} (h : GMi w0 gp gb nb a a2 st w) (c : Int) (hc : c = 3 ∨ c = 4) : Calls Tryz.prog 72 #[ptrV gb, fltV a a2 c] w (GOutI w0 gp gb nb a a2 w (failT, flt c st)) := by
  have c2 := h.c2
  have f2 := h.fg 2
  have hr := h.rng
  have HX : Hid (∀ w', FoC w' failT.fo [.iface 74 (.string (strOfNums [102, 97, 105, 108]))]) := fun w' => foC_atom w' _
  have eS : strOfNums [102, 97, 105, 108] = ⟨#[102, 97, 105, 108]⟩ := rfl
  by_cases h0 : st.2 = 0
  · have HG : Hid (GMi w0 gp gb nb a a2 (flt c st) (w.setCell ⟨gb, 2, none⟩ (fltV a a2 c))) := by
      show GMi w0 gp gb nb a a2 (flt c st) _
      unfold flt; rw [if_pos h0]; exact h.code c hc
    rw [h0] at c2
    have c2' : w.cell? ⟨gb, 2, none⟩ = some .nilIface := c2
    obtain ⟨q, eq⟩ := fltV_ne (a := a) (a2 := a2) (c := c) (by omega)
    rw [eq] at HG ⊢
    rw [eS] at HX
    clear c2 h eq
    go_enter Tryz.func72, Tryz.ntmps72
    go_wp2_with fail
    go_ret
    exact ⟨_, rfl, HX.out _, HG.out, GFr.set1 gb nb w 2 _⟩
  · have HG : Hid (GMi w0 gp gb nb a a2 (flt c st) w) := by
      show GMi w0 gp gb nb a a2 (flt c st) _
      rw [flt_keep h0]; exact h
    obtain ⟨q, eq⟩ := fltV_ne (a := a) (a2 := a2) h0
    rw [eq] at c2
    rw [eS] at HX
    clear h
    go_enter Tryz.func72, Tryz.ntmps72
    go_wp2_with fail
    go_ret
    exact ⟨_, rfl, HX.out _, HG.out, GFr.refl gb nb w⟩
set_option maxRecDepth 100000 in
theorem taking_any (t : Tr) (v : Value) (a b : Int) (w : World) (ht : FoC w t.fo [v]) : Calls Tryz.prog 61 #[v, varV a, varV b] w (TrOut w (cmpT [44] [t, eqV a b])) := by
  obtain ⟨tv, xv, rfl⟩ := foC_if ht
  have HC := call2_any [61] ⟨#[61]⟩ rfl (vT a) (vT b) (varV a) (varV b) w (foC_var _ _) (foC_var _ _)
  have HD : Hid (∀ W u, Below w.heap.size w W → FoC W (eqV a b).fo [u] → Calls Tryz.prog 57 #[.string ⟨#[44]⟩, .slice (some ⟨W.heap.size, 0, none⟩) 2 2] (W.alloc (.cells #[.iface tv xv, u] 49)) (TrOut W (cmpT [44] [t, eqV a b]))) := fun W u hW hu => call2_any [44] ⟨#[44]⟩ rfl t (eqV a b) (.iface tv xv) u W (ht.below hW) hu
  clear ht
  go_enter Tryz.func61, Tryz.ntmps61
  go_wp2_with fail
  refine HC.mono ?_
  rintro e w1 ⟨u, rfl, hu, hb⟩
  obtain ⟨tu, xu, rfl⟩ := foC_if hu
  have HU := HD.out w1 _ hb hu
  have HB : Hid (Below w.heap.size w w1) := hb
  clear hu hb HD HC
  go_wp2_with fail
  refine HU.mono ?_
  rintro e w2 ⟨z, rfl, hz, hb2⟩
  have HR : Hid (TrOut w (cmpT [44] [t, eqV a b]) (.returned z) w2) := ⟨z, rfl, hz, Below.on HB.out hb2⟩
  clear hz hb2 HU HB
  go_wp2_with fail
  go_ret
  exact HR.out
end Go.Proofs.YtbnmmcegjlmdmaaGreatDoor

namespace Go.Proofs.YtbnmmcegjlmdmaaGreatDoor
open Go Go.RowKit Go.Shelf
set_option linter.unusedVariables false
attribute [local go_sem] Oper.semAt_some
def upto {α : Type} (f : Nat → α) (k : Nat) : List α := (List.range k).map f
theorem upto_succ {α : Type} (f : Nat → α) (k : Nat) : upto f (k + 1) = upto f k ++ [f k] := by simp [upto, List.range_succ]
theorem upto_length {α : Type} (f : Nat → α) (k : Nat) : (upto f k).length = k := by simp [upto]
abbrev Itm : Type := Nat × Nat × Value
def bkAt (zs : List (Nat × Value)) (n j : Nat) : Itm := (n - 1 - j, (zs[n - 1 - j]?.getD (0, .nilIface)).1, (zs[n - 1 - j]?.getD (0, .nilIface)).2)
def BKeep (n₀ Bs : Nat) (A B : World) : Prop := Below n₀ A B ∧ ∀ v, A.cell? ⟨Bs, 0, none⟩ = some v → B.cell? ⟨Bs, 0, none⟩ = some v
theorem BKeep.refl (n₀ Bs : Nat) (A : World) : BKeep n₀ Bs A A := ⟨Below.refl _ _, fun _ h => h⟩
theorem BKeep.trans {n₀ Bs : Nat} {A B C : World} (h : BKeep n₀ Bs A B) (k : BKeep n₀ Bs B C) : BKeep n₀ Bs A C := ⟨h.1.trans k.1, fun v hv => k.2 v (h.2 v hv)⟩
set_option maxRecDepth 100000 in
set_option maxHeartbeats 2000000 in
theorem back1_in (F : Fence) (n : Nat) (h7 : F.fn 84) (hro : F.round = none) (hn : 1 ≤ n) (l Bs n₀ b len cap : Nat) (zs : List (Nat × Value)) (hlen : len ≤ 2000) (hb : b < n₀) (J Jx : List Itm → World → Prop)
    (hY : ∀ pre x W, J pre W → pre.length < len → YieldAt F (n - 1) Tryz.prog l #[.int .i64 (x.1 : Int), .iface x.2.1 x.2.2] W fun e W' =>
      (e = .returned (.bool true) ∧ J (pre ++ [x]) W' ∧ BKeep n₀ Bs W W') ∨ (e = .returned (.bool false) ∧ Jx (pre ++ [x]) W'))
    (W : World) (hBs : W.cell? ⟨Bs, 0, none⟩ = some (.slice (some ⟨b, 0, none⟩) len cap)) (hc : ∀ j, j < len → W.cell? ⟨b, j, none⟩ = some (.iface (zs[j]?.getD (0, .nilIface)).1 (zs[j]?.getD (0, .nilIface)).2)) (h0 : J [] W) :
    CallsIn F n Tryz.prog 84 #[.func (.yield l) #[] #[], .pointer (some ⟨Bs, 0, none⟩)] W fun e W' => (∃ v, e = .returned v) ∧
      ((∃ ys, ys = upto (bkAt zs len) len ∧ J ys W') ∨ (∃ pre, True ∧ Jx pre W')) := by
  refine callsIn_of_wp Tryz.func84 rfl h7 ?_ hro
  simp only [Tryz.ntmps84, List.size_toArray, List.length_cons, List.length_nil, Nat.reduceAdd, Nat.reduceSub, Array.replicate_succ, Array.replicate_zero, List.push_toArray, List.append_toArray, List.nil_append, List.cons_append]
  gi_wp2
  gi_loopw [3] (fun i wr => ∃ m : Nat, m ≤ len ∧ i = .int .i64 ((m : Int) - 1) ∧ J (upto (bkAt zs len) (len - m)) wr ∧ BKeep n₀ Bs W wr)
    (fun i _ => (intOf i + 1).toNat)
  case atStart => exact ⟨len, Nat.le_refl _, by go_num, by rw [Nat.sub_self]; exact h0, BKeep.refl _ _ _⟩
  case round =>
    obtain ⟨m, hm, rfl, hJs, hnx⟩ := hrel
    have hBs' := hnx.2 _ hBs
    cases m with
    | zero =>
      gi_wp2
      go_end0
      exact ⟨⟨_, rfl⟩, .inl ⟨_, rfl, hJs⟩⟩
    | succ m =>
      have hcx := (hnx.1.cell (p := ⟨b, m, none⟩) hb).trans (hc m (by omega))
      have e1 : ((m + 1 : Nat) : Int) - 1 = (m : Int) := by omega
      have e2 : len - 1 - (len - (m + 1)) = m := by omega
      have e3 : bkAt zs len (len - (m + 1)) = (m, (zs[m]?.getD (0, .nilIface)).1, (zs[m]?.getD (0, .nilIface)).2) := by simp only [bkAt, e2]
      have e4 : upto (bkAt zs len) (len - (m + 1)) ++ [(m, (zs[m]?.getD (0, .nilIface)).1, (zs[m]?.getD (0, .nilIface)).2)] = upto (bkAt zs len) (len - m) := by
        rw [← e3, ← upto_succ]
        congr 1; omega
      obtain ⟨fn, tmps, assign, body, hy, hR⟩ := hY _ (m, (zs[m]?.getD (0, .nilIface)).1, (zs[m]?.getD (0, .nilIface)).2) wr hJs (by rw [upto_length]; omega)
      dsimp only at hy
      rw [e4] at hR
      rw [e1]
      obtain ⟨tv, etv⟩ : ∃ tv, tv = (zs[m]?.getD (0, .nilIface)).1 := ⟨_, rfl⟩
      obtain ⟨xv, exv⟩ : ∃ xv, xv = (zs[m]?.getD (0, .nilIface)).2 := ⟨_, rfl⟩
      rw [← etv, ← exv] at hy hcx
      have hR' : Hid _ := hR
      clear e1 e2 e3 e4 etv exv
      gi_wp2
      refine hR.mono ?_
      rintro e W3 (⟨rfl, hJ3, hk3⟩ | ⟨rfl, hJx3⟩)
      · gi_wp2
        go_roundw
        case rel => exact ⟨m, by omega, by go_num, hJ3, hnx.trans hk3⟩
        case measure => simp [intOf]
      · gi_wp2
        refine bodyPost_ret (results_none rfl _ _ _) rfl ?_
        exact ⟨⟨_, rfl⟩, .inr ⟨_, trivial, hJx3⟩⟩
set_option maxHeartbeats 1000000 in
theorem back_in (F : Fence) (n : Nat) (h5 : F.fn 82) (hro : F.round = none) (a : Option Addr) (len cap : Nat) (w : World) :
    CallsIn F n Tryz.prog 82 #[.slice a len cap] w fun e w' => e = .returned (.func (.func 84) #[] #[.pointer (some ⟨w.heap.size, 0, none⟩)]) ∧ w' = w.alloc (.cells #[.slice a len cap] 55) := by
  refine callsIn_of_wp Tryz.func82 rfl h5 ?_ hro
  simp only [Tryz.ntmps82, List.size_toArray, List.length_cons, List.length_nil, Nat.reduceAdd, Nat.reduceSub, Array.replicate_succ, Array.replicate_zero, List.push_toArray, List.append_toArray, List.nil_append, List.cons_append]
  gi_wp2
  go_ret
  exact ⟨rfl, rfl⟩
theorem bKeep_b {n₀ Bs : Nat} {w : World} (hn : n₀ ≤ w.heap.size) (W : World) (l : Nat) (o o' : Obj) (hl : w.heap.size ≤ l) (h : W.heap[l]? = some o) (ho : o.isCells = false) (hw : o.isWalk = false) : BKeep n₀ Bs W (W.putObj l o') :=
  ⟨belowK_b hn W l o o' hl h ho hw, fun v hv => cell_kept hv (grownBy_putObj' W l o') (fun r e => by cases e; exact ⟨_, h, ho⟩)⟩
end Go.Proofs.YtbnmmcegjlmdmaaGreatDoor

namespace Go.Proofs.YtbnmmcegjlmdmaaGreatDoor
open Go Go.RowKit
set_option linter.unusedVariables false
def marks (k : Int) : Nat → List Int
  | 0 => []
  | n + 1 => (k % 256) :: marks (k + 1) n
theorem marks_len : ∀ (n : Nat) (k : Int), (marks k n).length = n
  | 0, _ => rfl
  | n + 1, k => by simp [marks, marks_len n (k + 1)]
theorem marks_at : ∀ (n : Nat) (k : Int) (i : Nat), i < n → (marks k n).getD i 0 = (k + i) % 256
  | 0, _, _, h => absurd h (Nat.not_lt_zero _)
  | n + 1, k, 0, _ => by simp [marks]
  | n + 1, k, i + 1, h => by
    have := marks_at n (k + 1) i (by omega)
    simp only [marks, List.getD_cons_succ, this]
    congr 1; omega
def partly (k : Int) (xs : List Int) (i : Nat) : List Int := marks k i ++ xs.drop i
theorem wrap_byte (k : Int) (h : 0 ≤ k) : IntKind.u8.wrap k = k % 256 := by
  simp [IntKind.wrap, IntKind.signed, IntKind.bits]
theorem OwnS.kept {w w' : World} {B : Nat} {p : Option Addr} {n c : Nat} {ys : List Int} {row : Option Nat} (h : OwnS w B p n c ys) (hg : w.grownBy w' row) (hne : ∀ g, p = some ⟨g, 0, none⟩ → row ≠ some g) : OwnS w' B p n c ys := by
  obtain ⟨rfl, hr⟩ := h
  refine ⟨rfl, hr.1, ?_⟩
  rcases hr.2 with h' | ⟨g, cap, cur, hv, hB, hg', r⟩
  · exact .inl h'
  · have hp : p = some ⟨g, 0, none⟩ := by simp only [Value.slice.injEq] at hv; exact hv.1
    exact .inr ⟨g, cap, cur, hv, hB, (hg.block g (Array.getElem?_eq_some_iff.1 hg').1 (fun e => hne g hp e.symm)).trans hg', r⟩
theorem OwnS.drewN {w : World} {B : Nat} {p : Option Addr} {n c : Nat} {ys : List Int} (h : OwnS w B p n c ys) (m : Nat) : OwnS (w.drewN m) B p n c ys := ⟨h.1, h.2⟩
end Go.Proofs.YtbnmmcegjlmdmaaGreatDoor

