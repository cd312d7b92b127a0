/- Texts of RegB, RegK3, ClW, RegC. Own work of the verifier. -/
import Derived.Test.YtpigjapbhbdhbaaGreatDoorUqas
import Derived.Test.YtpigjapbhbdhbaaGreatDoorUqal
namespace Go.Proofs.YtpigjapbhbdhbaaGreatDoor
open Go
section
variable {P : Program} {ops : Array Oper} {Q : Exit → Act → World → Prop} {md : Region.Mode} {S : World → Prop}
theorem hBoth {i j : Nat} {fuel : Nat} {listed : Array Bool} {a : Act} {w : World} (hr : Region.ready md ops listed = [i, j])
    (hi : wpOp P ops Q i (fun a' w' => S w' ∧ wpAnyH P md ops Q S fuel (listed.setIfInBounds i true) a' w') a w)
    (hj : wpOp P ops Q j (fun a' w' => S w' ∧ wpAnyH P md ops Q S fuel (listed.setIfInBounds j true) a' w') a w) : wpAnyH P md ops Q S (fuel + 1) listed a w := by
  refine wpAnyH_all hr (by simp) ?_
  intro k hk
  simp only [List.mem_cons, List.not_mem_nil, or_false] at hk
  rcases hk with rfl | rfl
  · exact hi
  · exact hj
theorem opStep {i : Nat} {v : Value} {K : Act → World → Prop} {a : Act} {w w' : World} (d : Option Tmp) (hd : (ops[i]?).map (·.dst) = some d) (hw : (ops[i]?).map (fun o => Region.wanted o (yielded ops a.tmps)) = some true)
    (hrun : ∀ o, ops[i]? = some o → (execOp a.eval o).run P w = .ok (.value v) w') (h : K (a.put d v) w') : wpOp P ops Q i K a w := by
  cases hi : ops[i]? with
  | none => simp [hi] at hd
  | some o =>
    have hd' : o.dst = d := by simpa [hi] using hd
    have hw' : Region.wanted o (yielded ops a.tmps) = true := by simpa [hi] using hw
    subst hd'
    unfold wpOp
    simp only [hi, hw', if_true, Oper.wp, hrun o hi, Oper.upon]
    exact .inl h
end
end Go.Proofs.YtpigjapbhbdhbaaGreatDoor

namespace Go.Proofs.YtpigjapbhbdhbaaGreatDoor
open Go
end Go.Proofs.YtpigjapbhbdhbaaGreatDoor

namespace Go.Proofs.YtpigjapbhbdhbaaGreatDoor
open Go Go.RowKit
set_option linter.unusedVariables false
structure MS (w : World) (B b3 b4 b5 : Nat) (q : Int) (P : List Int × List Int) (p p' : Option Addr) (n c c' : Nat) : Prop where
  c3 : w.cell? ⟨b3, 0, none⟩ = some (.slice p n c)
  c4 : w.cell? ⟨b4, 0, none⟩ = some (.slice p' n c')
  c5 : w.cell? ⟨b5, 0, none⟩ = some (.int .i64 q)
  f3 : w.frozen? ⟨b3, 0, none⟩ = false
  f4 : w.frozen? ⟨b4, 0, none⟩ = false
  f5 : w.frozen? ⟨b5, 0, none⟩ = false
  l1 : n = P.1.length
  l2 : P.2.length = P.1.length
  r1 : w.ownsRow B 3 1 (.slice p n c) n (P.1.map (Value.int .i64))
  r2 : w.ownsRow B 3 1 (.slice p' n c') n (P.2.map (Value.int .i64))
  ne : ∀ k, Value.ownBlock (.slice p n c) = some k → k ≠ b3 ∧ k ≠ b4 ∧ k ≠ b5 ∧ Value.ownBlock (.slice p' n c') ≠ some k
  ne' : ∀ k, Value.ownBlock (.slice p' n c') = some k → k ≠ b3 ∧ k ≠ b4 ∧ k ≠ b5
  bB : B ≤ b3 ∧ B ≤ b4 ∧ B ≤ b5 ∧ b3 ≠ b4 ∧ b3 ≠ b5 ∧ b4 ≠ b5
  lt : b3 < w.heap.size ∧ b4 < w.heap.size ∧ b5 < w.heap.size
theorem MS.of {w w' : World} {B b3 b4 b5 : Nat} {q : Int} {P : List Int × List Int} {p p' : Option Addr} {n c c' : Nat} (h : MS w B b3 b4 b5 q P p p' n c c') (hs : w.heap.size ≤ w'.heap.size) (hb : ∀ k, B ≤ k → k < w.heap.size → w'.heap[k]? = w.heap[k]?) : MS w' B b3 b4 b5 q P p p' n c c' := by
  have cl : ∀ b, B ≤ b → b < w.heap.size → w'.cell? ⟨b, 0, none⟩ = w.cell? ⟨b, 0, none⟩ ∧ w'.frozen? ⟨b, 0, none⟩ = w.frozen? ⟨b, 0, none⟩ := fun b h1 h2 => ⟨World.cell?_of_block (hb b h1 h2), World.frozen?_of_block (hb b h1 h2)⟩
  have rw' : ∀ (v : Value) (m : Nat) (xs : List Value), w.ownsRow B 3 1 v m xs → w'.ownsRow B 3 1 v m xs := fun v m xs hr => by
    refine ⟨hr.1, ?_⟩
    rcases hr.2 with h0 | ⟨g, cap, cur, hv, hg, hh, r⟩
    · exact .inl h0
    · exact .inr ⟨g, cap, cur, hv, hg, by rw [hb g hg (Array.getElem?_eq_some_iff.1 hh).1]; exact hh, r⟩
  obtain ⟨x1, x2, x3⟩ := h.lt
  obtain ⟨y1, y2, y3, _⟩ := h.bB
  exact ⟨(cl b3 y1 x1).1.trans h.c3, (cl b4 y2 x2).1.trans h.c4, (cl b5 y3 x3).1.trans h.c5, (cl b3 y1 x1).2.trans h.f3, (cl b4 y2 x2).2.trans h.f4, (cl b5 y3 x3).2.trans h.f5, h.l1, h.l2, rw' _ _ _ h.r1, rw' _ _ _ h.r2, h.ne, h.ne', h.bB, by omega⟩
theorem MS.below {w w' : World} {B b3 b4 b5 : Nat} {q : Int} {P : List Int × List Int} {p p' : Option Addr} {n c c' : Nat} (h : MS w B b3 b4 b5 q P p p' n c c') (hb : Below w.heap.size w w') : MS w' B b3 b4 b5 q P p p' n c c' := h.of hb.size (fun k _ h2 => hb.block k h2)
theorem MS.drew {w : World} {B b3 b4 b5 : Nat} {q : Int} {P : List Int × List Int} {p p' : Option Addr} {n c c' : Nat} (h : MS w B b3 b4 b5 q P p p' n c c') : MS w.drew B b3 b4 b5 q P p p' n c c' := h.of (Nat.le_refl _) (fun _ _ _ => rfl)
theorem clsOther_any (t : TypeId) (x : Value) (b3 b4 b5 : Nat) (w : World) (ht : t = 113 ∨ t = 107 ∨ t = 120) :
    Calls Tryz.prog 83 #[.iface t x, .pointer (some ⟨b3, 0, none⟩), .pointer (some ⟨b4, 0, none⟩), .pointer (some ⟨b5, 0, none⟩)] w fun e w' => e = .returned (.tuple #[]) ∧ w' = w := by
  have n1 : ∀ W, (Instr.typeAssert (.iface 113 x) 45 72 true).run Tryz.prog W = .ok (.tuple #[.int .i64 0, .bool false]) W := fun W => by kernel_rfl
  have n2 : ∀ W, (Instr.typeAssert (.iface 107 x) 45 72 true).run Tryz.prog W = .ok (.tuple #[.int .i64 0, .bool false]) W := fun W => by kernel_rfl
  have n3 : ∀ W, (Instr.typeAssert (.iface 120 x) 45 72 true).run Tryz.prog W = .ok (.tuple #[.int .i64 0, .bool false]) W := fun W => by kernel_rfl
  rcases ht with rfl | rfl | rfl
  all_goals
    go_enter Tryz.func83, Tryz.ntmps83
    go_wp2_with fail
    exact bodyPost_end (v := .tuple #[]) (by simp [results, Tryz.results83, go_sem]) rfl ⟨rfl, rfl⟩
theorem oneI (x : Int) : ∀ u ∈ [Value.int .i64 x], u.oneCell' = true := fun u hu => by simp at hu; rw [hu]; rfl
theorem map_set (l : List Int) (i : Nat) (x : Int) : (l.map (Value.int .i64)).set i (.int .i64 x) = (l.set i x).map (Value.int .i64) := by simp
theorem ms_push {w W : World} {B b3 b4 b5 : Nat} {q : Int} {P : List Int × List Int} {p p' : Option Addr} {n c c' : Nat} (h : MS w B b3 b4 b5 q P p p' n c c') {g1 g2 cap1 cap2 : Nat}
    (r1 : W.ownsRow B 3 1 (.slice (some ⟨g1, 0, none⟩) (n + 1) cap1) (n + 1) (P.1.map (Value.int .i64) ++ [.int .i64 0])) (r2 : W.ownsRow B 3 1 (.slice (some ⟨g2, 0, none⟩) (n + 1) cap2) (n + 1) (P.2.map (Value.int .i64) ++ [.int .i64 q]))
    (hs : w.heap.size ≤ W.heap.size) (hc : ∀ b, b = b3 ∨ b = b4 ∨ b = b5 → W.heap[b]? = w.heap[b]?)
    (n1 : Value.ownBlock (.slice p n c) = some g1 ∨ w.heap.size ≤ g1) (n2 : Value.ownBlock (.slice p' n c') = some g2 ∨ w.heap.size ≤ g2) (n12 : g1 ≠ g2) :
    MS ((W.setCell ⟨b3, 0, none⟩ (.slice (some ⟨g1, 0, none⟩) (n + 1) cap1)).setCell ⟨b4, 0, none⟩ (.slice (some ⟨g2, 0, none⟩) (n + 1) cap2)) B b3 b4 b5 q (P.1 ++ [0], P.2 ++ [q]) (some ⟨g1, 0, none⟩) (some ⟨g2, 0, none⟩) (n + 1) cap1 cap2 := by
  obtain ⟨y1, y2, y3, z1, z2, z3⟩ := h.bB
  obtain ⟨x1, x2, x3⟩ := h.lt
  have g1n : g1 ≠ b3 ∧ g1 ≠ b4 ∧ g1 ≠ b5 := by
    rcases n1 with e | e
    · have := h.ne g1 e; exact ⟨this.1, this.2.1, this.2.2.1⟩
    · omega
  have g2n : g2 ≠ b3 ∧ g2 ≠ b4 ∧ g2 ≠ b5 := by
    rcases n2 with e | e
    · exact h.ne' g2 e
    · omega
  have cW : ∀ b, b = b3 ∨ b = b4 ∨ b = b5 → W.cell? ⟨b, 0, none⟩ = w.cell? ⟨b, 0, none⟩ ∧ W.frozen? ⟨b, 0, none⟩ = w.frozen? ⟨b, 0, none⟩ := fun b hb => ⟨World.cell?_of_block (hc b hb), World.frozen?_of_block (hc b hb)⟩
  have s3 : ∀ (W : World) (b : Nat) (x y : Value), W.cell? ⟨b, 0, none⟩ = some y → (W.setCell ⟨b, 0, none⟩ x).cell? ⟨b, 0, none⟩ = some x := fun W b x y hy => World.cell?_setCell_same _ _ _ hy
  have o3 : ∀ (W : World) (b b' : Nat) (x : Value), b' ≠ b → (W.setCell ⟨b, 0, none⟩ x).cell? ⟨b', 0, none⟩ = W.cell? ⟨b', 0, none⟩ := fun W b b' x hb => World.cell?_of_block (Below.heap_setCell _ _ _ _ hb)
  have fr : ∀ (W : World) (b b' : Nat) (x : Value), (W.setCell ⟨b, 0, none⟩ x).frozen? ⟨b', 0, none⟩ = W.frozen? ⟨b', 0, none⟩ := fun W b b' x => World.frozen?_setCell _ _ _ _
  have rS : ∀ (W : World) (b g m cp : Nat) (x : Value) (xs : List Value), g ≠ b → W.ownsRow B 3 1 (.slice (some ⟨g, 0, none⟩) m cp) m xs → (W.setCell ⟨b, 0, none⟩ x).ownsRow B 3 1 (.slice (some ⟨g, 0, none⟩) m cp) m xs := fun W b g m cp x xs hg hr => by
    refine ⟨hr.1, ?_⟩
    rcases hr.2 with h0 | ⟨g', cap, cur, hv, hgB, hh, r⟩
    · exact .inl h0
    · have e9 : g' = g := by injection hv with h1; injection h1 with h2; injection h2 with h3; exact h3.symm
      exact .inr ⟨g', cap, cur, hv, hgB, by rw [Below.heap_setCell _ _ _ _ (by rw [e9]; exact hg)]; exact hh, r⟩
  refine ⟨?_, ?_, ?_, ?_, ?_, ?_, by simp [h.l1], by simp [h.l2], ?_, ?_, ?_, ?_, h.bB, by simp; omega⟩
  · rw [o3 _ _ _ _ z1]; exact s3 W b3 _ _ ((cW b3 (.inl rfl)).1.trans h.c3)
  · exact s3 _ b4 _ _ (by rw [o3 _ _ _ _ (fun e => z1 e.symm)]; exact (cW b4 (.inr (.inl rfl))).1.trans h.c4)
  · rw [o3 _ _ _ _ (fun e => z3 e.symm), o3 _ _ _ _ (fun e => z2 e.symm)]; exact (cW b5 (.inr (.inr rfl))).1.trans h.c5
  · rw [fr, fr]; exact (cW b3 (.inl rfl)).2.trans h.f3
  · rw [fr, fr]; exact (cW b4 (.inr (.inl rfl))).2.trans h.f4
  · rw [fr, fr]; exact (cW b5 (.inr (.inr rfl))).2.trans h.f5
  · rw [List.map_append]; exact rS _ _ _ _ _ _ _ g1n.2.1 (rS _ _ _ _ _ _ _ g1n.1 r1)
  · rw [List.map_append]; exact rS _ _ _ _ _ _ _ g2n.2.1 (rS _ _ _ _ _ _ _ g2n.1 r2)
  · intro k hk
    have e9 : k = g1 := by simp [Value.ownBlock] at hk; exact hk.symm
    rw [e9]
    exact ⟨g1n.1, g1n.2.1, g1n.2.2, fun h9 => n12 (by simp [Value.ownBlock] at h9; exact h9.symm)⟩
  · intro k hk
    have e9 : k = g2 := by simp [Value.ownBlock] at hk; exact hk.symm
    rw [e9]; exact g2n
end Go.Proofs.YtpigjapbhbdhbaaGreatDoor

namespace Go.Proofs.YtpigjapbhbdhbaaGreatDoor
open Go
def allB : Nat → List (List Bool)
  | 0 => [[]]
  | n + 1 => (allB n).map (false :: ·) ++ (allB n).map (true :: ·)
theorem mem_allB : ∀ (l : List Bool), l ∈ allB l.length
  | [] => by simp [allB]
  | b :: r => by
    have := mem_allB r
    cases b <;> simp [allB, this]
def closedB (md : Region.Mode) (ops : Array Oper) (L : Array Bool) : Bool := (List.range ops.size).all fun i => !L.getD i true || ((ops[i]?).map (·.after.all fun e => !Region.binds md e || L.getD e.on false)).getD true
def mk2 (p q : Nat) (L : Array Bool) : Array Bool := (L.setIfInBounds p true).setIfInBounds q true
def lateB (md : Region.Mode) (ops : Array Oper) (p q : Nat) (fin : Array Bool) : Bool :=
  (allB ops.size).all fun l => !(closedB md ops l.toArray && (!l.toArray.getD p true && !l.toArray.getD q true)) ||
    (if (Region.ready md ops (mk2 p q l.toArray)).isEmpty then decide (l = fin.toList)
     else !(Region.ready md ops l.toArray).isEmpty && (Region.ready md ops l.toArray).all fun i => (Region.ready md ops (mk2 p q l.toArray)).contains i && (decide (i ≠ p) && (decide (i ≠ q) && closedB md ops (l.toArray.setIfInBounds i true))))
section
variable {P : Program} {ops : Array Oper} {Q : Exit → Act → World → Prop} {md : Region.Mode} {S : World → Prop}
def RestQ (Q : Exit → Act → World → Prop) (R : Act → World → Prop) : Exit → Act → World → Prop
  | .normal, a, w => R a w
  | e, a, w => Q e a w
theorem wpOp_rest {R : Act → World → Prop} {i : Nat} {K : Act → World → Prop} {a : Act} {w : World} (h : wpOp P ops (RestQ Q R) i K a w) : wpOp P ops Q i K a w := by
  unfold wpOp at *
  split
  · rename_i ho; simpa [ho] using h
  · rename_i o ho
    simp only [ho] at h
    split
    · rename_i hw
      simp only [hw, if_true] at h
      have hl : LetsOut (RestQ Q R) → LetsOut Q := fun ⟨a, w, h9⟩ => ⟨a, w, h9⟩
      refine h.imp (fun h => ?_) (fun h => ⟨h.1, hl h.2⟩)
      unfold Oper.wp at *
      generalize (execOp a.eval o).run P w = r at *
      cases r with
      | ok n w' =>
        cases n <;> simp only [Oper.upon] at h ⊢ <;>
          first
            | exact h
            | exact Calls.mono h (fun e w'' he => by cases e <;> first | exact he | exact hl he)
      | halt x w' => cases x <;> simp only [Oper.upon] at h ⊢ <;> exact h
    · rename_i hw; simp only [hw] at h; exact h
theorem wpAny_more : ∀ (f g : Nat) (L : Array Bool) (a : Act) (w : World), f ≤ g → wpAny P md ops Q f L a w → wpAny P md ops Q g L a w
  | 0, g, L, a, w, _, h => wpAny_done h.1 h.2 g
  | f + 1, 0, L, a, w, hl, h => by omega
  | f + 1, g + 1, L, a, w, hl, h => ⟨h.1, fun i hi => wpOp_mono (fun a' w' h' => wpAny_more f g _ a' w' (by omega) h') (h.2 i hi)⟩
theorem wpAny_late {p q f2 : Nat} {fin : Array Bool} (hb : lateB md ops p q fin = true) : ∀ (f1 : Nat) (L : Array Bool) (a : Act) (w : World), L.size = ops.size → closedB md ops L = true → L.getD p true = false → L.getD q true = false →
    wpAnyH P md ops (RestQ Q (wpAny P md ops Q f2 fin)) S f1 (mk2 p q L) a w → wpAny P md ops Q (f1 + f2) L a w := by
  intro f1
  induction f1 with
  | zero =>
    intro L a w hs hc h1 h2 H
    have hx := List.all_eq_true.1 hb L.toList (by have := mem_allB L.toList; rwa [Array.length_toList, hs] at this)
    simp only [Array.toArray_toList, hc, h1, h2, Bool.not_false, Bool.and_true, Bool.not_true, Bool.false_or] at hx
    have hr := H.1
    rw [hr] at hx
    simp only [List.isEmpty_nil, if_true, decide_eq_true_eq] at hx
    have e : L = fin := by rw [← Array.toArray_toList (xs := L), hx]
    rw [e]
    exact wpAny_more f2 _ _ _ _ (by omega) H.2
  | succ f1 ih =>
    intro L a w hs hc h1 h2 H
    have hx := List.all_eq_true.1 hb L.toList (by have := mem_allB L.toList; rwa [Array.length_toList, hs] at this)
    simp only [Array.toArray_toList, hc, h1, h2, Bool.not_false, Bool.and_true, Bool.not_true, Bool.false_or] at hx
    cases hr : Region.ready md ops (mk2 p q L) with
    | nil =>
      rw [hr] at hx
      simp only [List.isEmpty_nil, if_true, decide_eq_true_eq] at hx
      have e : L = fin := by rw [← Array.toArray_toList (xs := L), hx]
      have h9 := H.1 hr
      rw [e]
      exact wpAny_more f2 _ _ _ _ (by omega) h9
    | cons i0 r0 =>
      rw [hr] at hx
      simp only [List.isEmpty_cons, Bool.false_eq_true, if_false] at hx
      have e2 : f1 + 1 + f2 = (f1 + f2) + 1 := by omega
      rw [e2]
      have hne : ∀ i ∈ Region.ready md ops L, i ∈ Region.ready md ops (mk2 p q L) ∧ i ≠ p ∧ i ≠ q ∧ closedB md ops (L.setIfInBounds i true) = true := fun i hi => by
        have h9 := List.all_eq_true.1 (Bool.and_eq_true_iff.1 hx).2 i hi
        simp only [Bool.and_eq_true, decide_eq_true_eq, List.contains_iff_mem] at h9
        rw [hr]
        exact h9
      refine ⟨fun h0 => ?_, fun i hi => ?_⟩
      · rw [h0] at hx; simp at hx
      · obtain ⟨m1, m2, m3, m4⟩ := hne i hi
        refine wpOp_mono (fun a' w' h' => ?_) (wpOp_rest (H.2 i m1))
        refine ih (L.setIfInBounds i true) a' w' (by simpa using hs) m4 (by rw [getD_set_ne true m2]; exact h1) (by rw [getD_set_ne true m3]; exact h2) ?_
        have e3 : mk2 p q (L.setIfInBounds i true) = (mk2 p q L).setIfInBounds i true := by
          unfold mk2
          rw [Array.setIfInBounds_comm _ _ m2, Array.setIfInBounds_comm _ _ m3]
        rw [e3]
        exact h'.2
end
end Go.Proofs.YtpigjapbhbdhbaaGreatDoor

