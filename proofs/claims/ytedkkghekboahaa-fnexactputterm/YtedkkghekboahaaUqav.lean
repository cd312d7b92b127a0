/- Texts of RegC, RegD, RegK3. Own work of the verifier. -/
import Derived.Test.YtedkkghekboahaaUqau
namespace Go.Proofs.Ytedkkghekboahaa
open Go
/-- All lists of Bools of a length. -/
def allB : Nat → List (List Bool)
  | 0 => [[]]
  | n + 1 => (allB n).map (false :: ·) ++ (allB n).map (true :: ·)
theorem mem_allB : ∀ (l : List Bool), l ∈ allB l.length
  | [] => by simp [allB]
  | b :: r => by
    have := mem_allB r
    cases b <;> simp [allB, this]
/-- What waits for others has them listed. -/
def closedB (md : Region.Mode) (ops : Array Oper) (L : Array Bool) : Bool := (List.range ops.size).all fun i => !L.getD i true || ((ops[i]?).map (·.after.all fun e => !Region.binds md e || L.getD e.on false)).getD true
def mk2 (p q : Nat) (L : Array Bool) : Array Bool := (L.setIfInBounds p true).setIfInBounds q true
/-- p and q come last. -/
def lateB (md : Region.Mode) (ops : Array Oper) (p q : Nat) (fin : Array Bool) : Bool :=
  (allB ops.size).all fun l => !(closedB md ops l.toArray && (!l.toArray.getD p true && !l.toArray.getD q true)) ||
    (if (Region.ready md ops (mk2 p q l.toArray)).isEmpty then decide (l = fin.toList)
     else !(Region.ready md ops l.toArray).isEmpty && (Region.ready md ops l.toArray).all fun i => (Region.ready md ops (mk2 p q l.toArray)).contains i && (decide (i ≠ p) && (decide (i ≠ q) && closedB md ops (l.toArray.setIfInBounds i true))))
section
variable {P : Program} {ops : Array Oper} {Q : Exit → Act → World → Prop} {md : Region.Mode} {S : World → Prop}
/-- Q, but at the end the rest. -/
def RestQ (Q : Exit → Act → World → Prop) (R : Act → World → Prop) : Exit → Act → World → Prop
  | .normal, a, w => R a w
  | e, a, w => Q e a w
theorem wpOp_rest {R : Act → World → Prop} {i : Nat} {K : Act → World → Prop} {a : Act} {w : World} (h : wpOp P ops (RestQ Q R) i K a w) : wpOp P ops Q i K a w := by
  unfold wpOp at *
  split
  · rename_i ho; simpa [ho] using h
  · rename_i o ho
    simp only [ho] at h
    split
    · rename_i hw
      simp only [hw, if_true] at h
      have hl : LetsOut (RestQ Q R) → LetsOut Q := fun ⟨a, w, h9⟩ => ⟨a, w, h9⟩
      refine h.imp (fun h => ?_) (fun h => ⟨h.1, hl h.2⟩)
      unfold Oper.wp at *
      generalize (execOp a.eval o).run P w = r at *
      cases r with
      | ok n w' =>
        cases n <;> simp only [Oper.upon] at h ⊢ <;>
          first
            | exact h
            | exact Calls.mono h (fun e w'' he => by cases e <;> first | exact he | exact hl he)
      | halt x w' => cases x <;> simp only [Oper.upon] at h ⊢ <;> exact h
    · rename_i hw; simp only [hw] at h; exact h
theorem wpAny_more : ∀ (f g : Nat) (L : Array Bool) (a : Act) (w : World), f ≤ g → wpAny P md ops Q f L a w → wpAny P md ops Q g L a w
  | 0, g, L, a, w, _, h => wpAny_done h.1 h.2 g
  | f + 1, 0, L, a, w, hl, h => by omega
  | f + 1, g + 1, L, a, w, hl, h => ⟨h.1, fun i hi => wpOp_mono (fun a' w' h' => wpAny_more f g _ a' w' (by omega) h') (h.2 i hi)⟩
theorem wpAny_late {p q f2 : Nat} {fin : Array Bool} (hb : lateB md ops p q fin = true) : ∀ (f1 : Nat) (L : Array Bool) (a : Act) (w : World), L.size = ops.size → closedB md ops L = true → L.getD p true = false → L.getD q true = false →
    wpAnyH P md ops (RestQ Q (wpAny P md ops Q f2 fin)) S f1 (mk2 p q L) a w → wpAny P md ops Q (f1 + f2) L a w := by
  intro f1
  induction f1 with
  | zero =>
    intro L a w hs hc h1 h2 H
    have hx := List.all_eq_true.1 hb L.toList (by have := mem_allB L.toList; rwa [Array.length_toList, hs] at this)
    simp only [Array.toArray_toList, hc, h1, h2, Bool.not_false, Bool.and_true, Bool.not_true, Bool.false_or] at hx
    have hr := H.1
    rw [hr] at hx
    simp only [List.isEmpty_nil, if_true, decide_eq_true_eq] at hx
    have e : L = fin := by rw [← Array.toArray_toList (xs := L), hx]
    rw [e]
    exact wpAny_more f2 _ _ _ _ (by omega) H.2
  | succ f1 ih =>
    intro L a w hs hc h1 h2 H
    have hx := List.all_eq_true.1 hb L.toList (by have := mem_allB L.toList; rwa [Array.length_toList, hs] at this)
    simp only [Array.toArray_toList, hc, h1, h2, Bool.not_false, Bool.and_true, Bool.not_true, Bool.false_or] at hx
    cases hr : Region.ready md ops (mk2 p q L) with
    | nil =>
      rw [hr] at hx
      simp only [List.isEmpty_nil, if_true, decide_eq_true_eq] at hx
      have e : L = fin := by rw [← Array.toArray_toList (xs := L), hx]
      have h9 := H.1 hr
      rw [e]
      exact wpAny_more f2 _ _ _ _ (by omega) h9
    | cons i0 r0 =>
      rw [hr] at hx
      simp only [List.isEmpty_cons, Bool.false_eq_true, if_false] at hx
      have e2 : f1 + 1 + f2 = (f1 + f2) + 1 := by omega
      rw [e2]
      have hne : ∀ i ∈ Region.ready md ops L, i ∈ Region.ready md ops (mk2 p q L) ∧ i ≠ p ∧ i ≠ q ∧ closedB md ops (L.setIfInBounds i true) = true := fun i hi => by
        have h9 := List.all_eq_true.1 (Bool.and_eq_true_iff.1 hx).2 i hi
        simp only [Bool.and_eq_true, decide_eq_true_eq, List.contains_iff_mem] at h9
        rw [hr]
        exact h9
      refine ⟨fun h0 => ?_, fun i hi => ?_⟩
      · rw [h0] at hx; simp at hx
      · obtain ⟨m1, m2, m3, m4⟩ := hne i hi
        refine wpOp_mono (fun a' w' h' => ?_) (wpOp_rest (H.2 i m1))
        refine ih (L.setIfInBounds i true) a' w' (by simpa using hs) m4 (by rw [getD_set_ne true m2]; exact h1) (by rw [getD_set_ne true m3]; exact h2) ?_
        have e3 : mk2 p q (L.setIfInBounds i true) = (mk2 p q L).setIfInBounds i true := by
          unfold mk2
          rw [Array.setIfInBounds_comm _ _ m2, Array.setIfInBounds_comm _ _ m3]
        rw [e3]
        exact h'.2
end
end Go.Proofs.Ytedkkghekboahaa

namespace Go.Proofs.Ytedkkghekboahaa
open Go
/-- The last operation waits for all others; nobody waits for a later one. -/
def lastB (md : Region.Mode) (ops : Array Oper) (p : Nat) : Bool :=
  decide (ops.size = p + 1) && ((List.range ops.size).all fun i => ((ops[i]?).map (·.after.all fun e => !Region.binds md e || decide (e.on < i))).getD true) && ((List.range p).all fun j => ((ops[p]?).map (·.after.any fun e => Region.binds md e && decide (e.on = j))).getD false)
section
variable {P : Program} {ops : Array Oper} {Q : Exit → Act → World → Prop} {md : Region.Mode} {S : World → Prop}
theorem lastB_parts {p : Nat} (hb : lastB md ops p = true) : ops.size = p + 1 ∧ (∀ i o, ops[i]? = some o → ∀ e ∈ o.after, Region.binds md e = true → e.on < i) ∧ ∀ o, ops[p]? = some o → ∀ j, j < p → ∃ e ∈ o.after, Region.binds md e = true ∧ e.on = j := by
  simp only [lastB, Bool.and_eq_true, decide_eq_true_eq] at hb
  obtain ⟨⟨h1, h2⟩, h3⟩ := hb
  refine ⟨h1, fun i o ho e he hbd => ?_, fun o ho j hj => ?_⟩
  · have hi : i < ops.size := (Array.getElem?_eq_some_iff.1 ho).1
    have := List.all_eq_true.1 h2 i (by simpa using hi)
    rw [ho] at this
    simp only [Option.map_some, Option.getD_some, Array.all_eq_true'] at this
    have := this e he
    rw [hbd] at this
    simpa using this
  · have := List.all_eq_true.1 h3 j (by simpa using hj)
    rw [ho] at this
    simp only [Option.map_some, Option.getD_some, Array.any_eq_true'] at this
    obtain ⟨e, he, h⟩ := this
    rw [Bool.and_eq_true, decide_eq_true_eq] at h
    exact ⟨e, he, h.1, h.2⟩
theorem getD_two {L : Array Bool} {i : Nat} (hi : i < L.size) : L.getD i true = L.getD i false := by simp [hi]
/-- As long as one is not listed, one may come up. -/
theorem ready_some {p : Nat} (hb : lastB md ops p = true) {L : Array Bool} (hs : L.size = ops.size) : ∀ (k : Nat), k < ops.size → L.getD k true = false → ∃ i, i ∈ Region.ready md ops L := by
  obtain ⟨h1, h2, h3⟩ := lastB_parts hb
  intro k
  induction k using Nat.strongRecOn with
  | ind k ih =>
    intro hk hu
    obtain ⟨o, ho⟩ : ∃ o, ops[k]? = some o := ⟨ops[k], by simp [hk]⟩
    by_cases hall : ∀ e ∈ o.after, Region.binds md e = true → L.getD e.on false = true
    · exact ⟨k, mem_ready.2 ⟨hu, o, ho, hall⟩⟩
    · obtain ⟨e, he⟩ := Classical.not_forall.1 hall
      obtain ⟨he1, he2⟩ := Classical.not_imp.1 he
      obtain ⟨hbd, hf⟩ := Classical.not_imp.1 he2
      have hlt := h2 k o ho e he1 hbd
      refine ih e.on hlt (by omega) ?_
      rw [getD_two (by omega)]
      simpa using hf
theorem wpAny_last {p : Nat} (hb : lastB md ops p = true) : ∀ (f : Nat) (L : Array Bool) (a : Act) (w : World), L.size = ops.size → L.getD p true = false →
    wpAnyH P md ops (RestQ Q (wpOp P ops Q p (Q .normal))) S f (L.setIfInBounds p true) a w → wpAny P md ops Q (f + 1) L a w := by
  obtain ⟨h1, h2, h3⟩ := lastB_parts hb
  have hlastR : ∀ (L : Array Bool), L.size = ops.size → p ∈ Region.ready md ops L → Region.ready md ops (L.setIfInBounds p true) = [] := fun L hs hp => by
    obtain ⟨_, o, ho, hall⟩ := mem_ready.1 hp
    rw [List.eq_nil_iff_forall_not_mem]
    intro i hi
    obtain ⟨hu, oi, hoi, _⟩ := mem_ready.1 hi
    have hil : i < ops.size := (Array.getElem?_eq_some_iff.1 hoi).1
    by_cases e : i = p
    · subst e
      have hl2 : i < L.size := by omega
      simp [hl2] at hu
    · rw [getD_set_ne true (fun h => e h.symm)] at hu
      obtain ⟨e', he', hbd, hon⟩ := h3 o ho i (by omega)
      have := hall e' he' hbd
      rw [hon, ← getD_two (by omega), hu] at this
      cases this
  have hlast : ∀ (f : Nat) (L : Array Bool) (a : Act) (w : World), L.size = ops.size → p ∈ Region.ready md ops L → wpAnyH P md ops (RestQ Q (wpOp P ops Q p (Q .normal))) S f (L.setIfInBounds p true) a w → wpOp P ops Q p (wpAny P md ops Q f (L.setIfInBounds p true)) a w := fun f L a w hs hp H => by
    have hr := hlastR L hs hp
    have hR : wpOp P ops Q p (Q .normal) a w := by
      cases f with
      | zero => exact H.2
      | succ f => exact H.1 hr
    exact wpOp_mono (fun a' w' h => wpAny_done hr h f) hR
  intro f
  induction f with
  | zero =>
    intro L a w hs hp H
    refine ⟨fun h0 => ?_, fun i hi => ?_⟩
    · obtain ⟨i, hi⟩ := ready_some hb hs p (by omega) hp
      rw [h0] at hi; cases hi
    · by_cases e : i = p
      · subst e; exact hlast 0 L a w hs hi H
      · have := ready_mono hi e
        rw [H.1] at this; cases this
  | succ f ih =>
    intro L a w hs hp H
    refine ⟨fun h0 => ?_, fun i hi => ?_⟩
    · obtain ⟨i, hi⟩ := ready_some hb hs p (by omega) hp
      rw [h0] at hi; cases hi
    · by_cases e : i = p
      · subst e; exact hlast (f + 1) L a w hs hi H
      · refine wpOp_mono (fun a' w' h' => ?_) (wpOp_rest (H.2 i (ready_mono hi e)))
        refine ih (L.setIfInBounds i true) a' w' (by simpa using hs) (by rw [getD_set_ne true e]; exact hp) ?_
        have h9 := h'.2
        rw [Array.setIfInBounds_comm _ _ (fun x => e x.symm)] at h9
        exact h9
end
end Go.Proofs.Ytedkkghekboahaa

namespace Go.Proofs.Ytedkkghekboahaa
open Go
theorem hStore {P : Program} {ops : Array Oper} {Q : Exit → Act → World → Prop} {md : Region.Mode} {S : World → Prop} {i : Nat} {fuel : Nat} {listed : Array Bool} {a : Act} {w w' : World} (hd : (ops[i]?).map (·.dst) = some none)
    (hr : Region.ready md ops listed = [i]) (hw : (ops[i]?).map (fun o => Region.wanted o (yielded ops a.tmps)) = some true)
    (hrun : ∀ o, ops[i]? = some o → (execOp a.eval o).run P w = .ok .skip w') (hS : S w') (h : wpAnyH P md ops Q S fuel (listed.setIfInBounds i true) a w') : wpAnyH P md ops Q S (fuel + 1) listed a w := by
  refine wpAnyH_all hr (by simp) ?_
  intro j hj
  obtain rfl : j = i := by simpa using hj
  cases hi : ops[j]? with
  | none => simp [hi] at hd
  | some o =>
    have hd' : o.dst = none := by simpa [hi] using hd
    have hw' : Region.wanted o (yielded ops a.tmps) = true := by simpa [hi] using hw
    unfold wpOp
    simp only [hi, hw', if_true, Oper.wp, hrun o hi, Oper.upon]
    exact .inl ⟨hS, by rw [hd']; exact h⟩
end Go.Proofs.Ytedkkghekboahaa

