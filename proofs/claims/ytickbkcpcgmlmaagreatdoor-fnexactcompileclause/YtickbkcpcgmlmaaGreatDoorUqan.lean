/- Texts of RegC, RegP, RegK3, IbS, IbT, SlT, RegB. Own work of the verifier. -/
import Derived.Test.YtickbkcpcgmlmaaGreatDoorUqaj
namespace Go.Proofs.YtickbkcpcgmlmaaGreatDoor
set_option linter.unusedVariables false
set_option maxRecDepth 100000
section
open Go
def allRB : Nat → List (List Bool)
 | 0 => [[]]
 | n + 1 => (allRB n).map (false :: ·) ++ (allRB n).map (true :: ·)
theorem mem_allRB : ∀ (l : List Bool), l ∈ allRB l.length
 | [] => by simp [allRB]
 | b :: r => by
   have := mem_allRB r
   cases b <;> simp [allRB, this]
def closedB (md : Region.Mode) (ops : Array Oper) (L : Array Bool) : Bool := (List.range ops.size).all fun i => !L.getD i true || ((ops[i]?).map (·.after.all fun e => !Region.binds md e || L.getD e.on false)).getD true
def mk2 (p q : Nat) (L : Array Bool) : Array Bool := (L.setIfInBounds p true).setIfInBounds q true
def lateB (md : Region.Mode) (ops : Array Oper) (p q : Nat) (fin : Array Bool) : Bool :=
 (allRB ops.size).all fun l => !(closedB md ops l.toArray && (!l.toArray.getD p true && !l.toArray.getD q true)) ||
   (if (Region.ready md ops (mk2 p q l.toArray)).isEmpty then decide (l = fin.toList)
    else !(Region.ready md ops l.toArray).isEmpty && (Region.ready md ops l.toArray).all fun i => (Region.ready md ops (mk2 p q l.toArray)).contains i && (decide (i ≠ p) && (decide (i ≠ q) && closedB md ops (l.toArray.setIfInBounds i true))))
section
variable {P : Program} {ops : Array Oper} {Q : Exit → Act → World → Prop} {md : Region.Mode} {S : World → Prop}
def RestQ (Q : Exit → Act → World → Prop) (R : Act → World → Prop) : Exit → Act → World → Prop
 | .normal, a, w => R a w
 | e, a, w => Q e a w
theorem wpOp_rest {R : Act → World → Prop} {i : Nat} {K : Act → World → Prop} {a : Act} {w : World} (h : wpOp P ops (RestQ Q R) i K a w) : wpOp P ops Q i K a w := by
 unfold wpOp at *
 split
 ·rename_i ho; simpa [ho] using h
 ·rename_i o ho
  simp only [ho] at h
  split
  ·rename_i hw
   simp only [hw, if_true] at h
   have hl : LetsOut (RestQ Q R) → LetsOut Q := fun ⟨a, w, h9⟩ => ⟨a, w, h9⟩
   refine h.imp (fun h => ?_) (fun h => ⟨h.1, hl h.2⟩)
   unfold Oper.wp at *
   generalize (execOp a.eval o).run P w = r at *
   cases r with
   | ok n w' =>
     cases n <;> simp only [Oper.upon] at h ⊢ <;>
      first
       | exact h
       | exact Calls.mono h (fun e w'' he => by cases e <;> first | exact he | exact hl he)
   | halt x w' => cases x <;> simp only [Oper.upon] at h ⊢ <;> exact h
  ·rename_i hw; simp only [hw] at h; exact h
theorem wpAny_more : ∀ (f g : Nat) (L : Array Bool) (a : Act) (w : World), f ≤ g → wpAny P md ops Q f L a w → wpAny P md ops Q g L a w
 | 0, g, L, a, w, _, h => wpAny_done h.1 h.2 g
 | f + 1, 0, L, a, w, hl, h => by omega
 | f + 1, g + 1, L, a, w, hl, h => ⟨h.1, fun i hi => wpOp_mono (fun a' w' h' => wpAny_more f g _ a' w' (by omega) h') (h.2 i hi)⟩
theorem wpAny_late {p q f2 : Nat} {fin : Array Bool} (hb : lateB md ops p q fin = true) : ∀ (f1 : Nat) (L : Array Bool) (a : Act) (w : World), L.size = ops.size → closedB md ops L = true → L.getD p true = false → L.getD q true = false →
  wpAnyH P md ops (RestQ Q (wpAny P md ops Q f2 fin)) S f1 (mk2 p q L) a w → wpAny P md ops Q (f1 + f2) L a w := by
 intro f1
 induction f1 with
 | zero =>
   intro L a w hs hc h1 h2 H
   have hx := List.all_eq_true.1 hb L.toList (by have := mem_allRB L.toList; rwa [Array.length_toList, hs] at this); simp only [Array.toArray_toList, hc, h1, h2, Bool.not_false, Bool.and_true, Bool.not_true, Bool.false_or] at hx; have hr := H.1; rw [hr] at hx; simp only [List.isEmpty_nil, if_true, decide_eq_true_eq] at hx
   have e : L = fin := by rw [← Array.toArray_toList (xs := L), hx]
   rw [e]; exact wpAny_more f2 _ _ _ _ (by omega) H.2
 | succ f1 ih =>
   intro L a w hs hc h1 h2 H
   have hx := List.all_eq_true.1 hb L.toList (by have := mem_allRB L.toList; rwa [Array.length_toList, hs] at this); simp only [Array.toArray_toList, hc, h1, h2, Bool.not_false, Bool.and_true, Bool.not_true, Bool.false_or] at hx
   cases hr : Region.ready md ops (mk2 p q L) with
   | nil =>
     rw [hr] at hx; simp only [List.isEmpty_nil, if_true, decide_eq_true_eq] at hx
     have e : L = fin := by rw [← Array.toArray_toList (xs := L), hx]
     have h9 := H.1 hr; rw [e]; exact wpAny_more f2 _ _ _ _ (by omega) h9
   | cons i0 r0 =>
     rw [hr] at hx; simp only [List.isEmpty_cons, Bool.false_eq_true, if_false] at hx
     have e2 : f1 + 1 + f2 = (f1 + f2) + 1 := by omega
     rw [e2]
     have hne : ∀ i ∈ Region.ready md ops L, i ∈ Region.ready md ops (mk2 p q L) ∧ i ≠ p ∧ i ≠ q ∧ closedB md ops (L.setIfInBounds i true) = true := fun i hi => by
      have h9 := List.all_eq_true.1 (Bool.and_eq_true_iff.1 hx).2 i hi; simp only [Bool.and_eq_true, decide_eq_true_eq, List.contains_iff_mem] at h9; rw [hr]; exact h9
     refine ⟨fun h0 => ?_, fun i hi => ?_⟩
     ·rw [h0] at hx; simp at hx
     ·obtain ⟨m1, m2, m3, m4⟩ := hne i hi
      refine wpOp_mono (fun a' w' h' => ?_) (wpOp_rest (H.2 i m1)); refine ih (L.setIfInBounds i true) a' w' (by simpa using hs) m4 (by rw [getD_set_ne true m2]; exact h1) (by rw [getD_set_ne true m3]; exact h2) ?_
      have e3 : mk2 p q (L.setIfInBounds i true) = (mk2 p q L).setIfInBounds i true := by
       unfold mk2
       rw [Array.setIfInBounds_comm _ _ m2, Array.setIfInBounds_comm _ _ m3]
      rw [e3]; exact h'.2
end
def phaseB (md : Region.Mode) (ops : Array Oper) (n : Nat) : Bool :=
 decide (n ≤ ops.size) && (List.range ops.size).all fun i => ((ops[i]?).map fun o => if i < n then o.after.all (fun e => decide (e.on < i)) else (List.range n).all fun k => o.after.any fun e => Region.binds md e && decide (e.on = k)).getD true
def mkF (n : Nat) (L : Array Bool) : Array Bool := L.mapIdx fun i b => b || decide (n ≤ i)
def finF (n m : Nat) : Array Bool := Array.ofFn (n := m) fun i => decide (i.1 < n)
theorem mkF_at (n : Nat) (L : Array Bool) (i : Nat) (d : Bool) (h : i < L.size) : (mkF n L).getD i d = (L.getD i d || decide (n ≤ i)) := by
 simp [mkF, Array.getD, h]
theorem mkF_set (n : Nat) (L : Array Bool) (i : Nat) : mkF n (L.setIfInBounds i true) = (mkF n L).setIfInBounds i true := by
 apply Array.ext_getElem?
 intro j
 simp only [mkF, Array.getElem?_mapIdx, Array.getElem?_setIfInBounds, Array.size_mapIdx]
 by_cases e : i = j
 ·subst e
  by_cases h : i < L.size <;> simp [h]
 ·simp [e]
theorem mem_ready {md : Region.Mode} {ops : Array Oper} {L : Array Bool} {i : Nat} : i ∈ Region.ready md ops L ↔ ∃ o, ops[i]? = some o ∧ L.getD i true = false ∧ ∀ e ∈ o.after, Region.binds md e = true → L.getD e.on false = true := by
 unfold Region.ready
 simp only [List.mem_filter, List.mem_range, Bool.and_eq_true, Bool.not_eq_true']
 constructor
 ·rintro ⟨h1, h2, h3⟩
  refine ⟨ops[i], by simp [h1], h2, fun e he hb => ?_⟩; simp only [Array.getElem?_eq_getElem h1, Option.map_some, Option.getD_some, Array.all_eq_true'] at h3; have := h3 e he
  simpa [hb] using this
 ·rintro ⟨o, ho, h2, h3⟩
  obtain ⟨h1, e⟩ := Array.getElem?_eq_some_iff.1 ho; refine ⟨h1, h2, ?_⟩; simp only [ho, Option.map_some, Option.getD_some, Array.all_eq_true']
  intro x hx
  by_cases hb : Region.binds md x = true
  ·simp [h3 x hx hb]
  ·simp [hb]
section
variable {P : Program} {ops : Array Oper} {Q : Exit → Act → World → Prop} {md : Region.Mode} {S : World → Prop}
theorem wpAny_phase {n f2 : Nat} (hb : phaseB md ops n = true) : ∀ (f1 : Nat) (L : Array Bool) (a : Act) (w : World), L.size = ops.size → (∀ i, n ≤ i → i < ops.size → L.getD i true = false) →
  wpAnyH P md ops (RestQ Q (wpAny P md ops Q f2 (finF n ops.size))) S f1 (mkF n L) a w → wpAny P md ops Q (f1 + f2) L a w := by
 simp only [phaseB, Bool.and_eq_true, decide_eq_true_eq, List.all_eq_true, List.mem_range] at hb; obtain ⟨hn, hb⟩ := hb
 have hlow : ∀ i o, ops[i]? = some o → i < n → ∀ e ∈ o.after, e.on < i := fun i o ho hi e he => by
  have h := hb i (by omega); simp only [ho, Option.map_some, Option.getD_some, if_pos hi, Array.all_eq_true', decide_eq_true_eq] at h; exact h e he
 have hhigh : ∀ i o, ops[i]? = some o → n ≤ i → ∀ k, k < n → ∃ e ∈ o.after, Region.binds md e = true ∧ e.on = k := fun i o ho hi k hk => by
  have h := hb i (Array.getElem?_eq_some_iff.1 ho).1; simp only [ho, Option.map_some, Option.getD_some, if_neg (Nat.not_lt.2 hi), List.all_eq_true, List.mem_range, Array.any_eq_true', Bool.and_eq_true, decide_eq_true_eq] at h; obtain ⟨e, he, h1, h2⟩ := h k hk; exact ⟨e, he, h1, h2⟩
 -- what may come up among the first is what may come up
 have hsame : ∀ (L : Array Bool), L.size = ops.size → (∀ i, n ≤ i → i < ops.size → L.getD i true = false) → (∃ i, i < n ∧ L.getD i true = false) → ∀ i, i ∈ Region.ready md ops L ↔ i ∈ Region.ready md ops (mkF n L) := fun L hs hZ ⟨k, hk, hkL⟩ i => by
  rw [mem_ready, mem_ready]
  constructor
  ·rintro ⟨o, ho, h1, h2⟩
   have hi := (Array.getElem?_eq_some_iff.1 ho).1
   have hin : i < n := by
    apply Nat.lt_of_not_le
    intro hni
    obtain ⟨e, he, hb1, hb2⟩ := hhigh i o ho hni k hk; have := h2 e he hb1; rw [hb2] at this
    simp [Array.getD, show k < L.size by omega] at this hkL
    rw [this] at hkL; cases hkL
   refine ⟨o, ho, ?_, fun e he hb1 => ?_⟩
   ·rw [mkF_at n L i true (by omega), h1]; simpa using hin
   ·have h3 := hlow i o ho hin e he
    rw [mkF_at n L _ false (by omega), h2 e he hb1]; rfl
  ·rintro ⟨o, ho, h1, h2⟩
   have hi := (Array.getElem?_eq_some_iff.1 ho).1; rw [mkF_at n L i true (by omega)] at h1; simp only [Bool.or_eq_false_iff, decide_eq_false_iff_not, Nat.not_le] at h1; refine ⟨o, ho, h1.1, fun e he hb1 => ?_⟩; have h3 := hlow i o ho h1.2 e he; have := h2 e he hb1; rw [mkF_at n L _ false (by omega)] at this
   simpa [show ¬ n ≤ e.on by omega] using this
 -- the least one that is not listed may come up
 have hleast : ∀ (L : Array Bool), L.size = ops.size → (∃ i, i < n ∧ L.getD i true = false) → Region.ready md ops (mkF n L) ≠ [] := fun L hs hex he => by
  have hmin : ∀ m, (∃ i, i ≤ m ∧ i < n ∧ L.getD i true = false) → ∃ i, i < n ∧ L.getD i true = false ∧ ∀ j, j < i → L.getD j true = true := by
   intro m
   induction m with
   | zero =>
     rintro ⟨i, h0, h1, h2⟩; exact ⟨i, h1, h2, fun j hj => by omega⟩
   | succ m ih =>
     rintro ⟨i, h0, h1, h2⟩
     by_cases hx : ∃ i, i ≤ m ∧ i < n ∧ L.getD i true = false
     ·exact ih hx
     ·refine ⟨i, h1, h2, fun j hj => ?_⟩
      cases hq : L.getD j true with
      | true => rfl
      | false => exact absurd ⟨j, by omega, by omega, hq⟩ hx
  obtain ⟨i, hi, hL, hall⟩ := hmin n (by obtain ⟨i, h1, h2⟩ := hex; exact ⟨i, by omega, h1, h2⟩)
  have hio : ops[i]? = some ops[i] := by simp [show i < ops.size by omega]
  have : i ∈ Region.ready md ops (mkF n L) := by
   rw [mem_ready]; refine ⟨ops[i], hio, ?_, fun e he hb1 => ?_⟩
   ·rw [mkF_at n L i true (by omega), hL]; simpa using hi
   ·have h3 := hlow i _ hio hi e he
    rw [mkF_at n L _ false (by omega)]; have := hall e.on h3
    simp [Array.getD, show e.on < L.size by omega] at this ⊢
    exact .inl this
  rw [he] at this
  simp at this
 have hfin : ∀ (L : Array Bool), L.size = ops.size → (∀ i, n ≤ i → i < ops.size → L.getD i true = false) → (¬ ∃ i, i < n ∧ L.getD i true = false) → L = finF n ops.size := fun L hs hZ hno => by
  apply Array.ext
  ·simp [finF, hs]
  ·intro i h1 h2
   simp only [finF, Array.getElem_ofFn]
   by_cases hi : i < n
   ·cases hq : L[i] with
    | true => simp [hi]
    | false => exact absurd ⟨i, hi, by simp [Array.getD, h1, hq]⟩ hno
   ·have := hZ i (by omega) (by omega)
    simp [Array.getD, h1] at this
    simp [this, hi]
 intro f1
 induction f1 with
 | zero =>
   intro L a w hs hZ H
   by_cases hx : ∃ i, i < n ∧ L.getD i true = false
   ·exact absurd H.1 (hleast L hs hx)
   ·rw [hfin L hs hZ hx]
    exact wpAny_more f2 _ _ _ _ (by omega) H.2
 | succ f1 ih =>
   intro L a w hs hZ H
   by_cases hx : ∃ i, i < n ∧ L.getD i true = false
   ·have e2 : f1 + 1 + f2 = (f1 + f2) + 1 := by omega
    rw [e2]; refine ⟨fun h0 => ?_, fun i hi => ?_⟩
    ·refine absurd ?_ (hleast L hs hx)
     apply List.eq_nil_iff_forall_not_mem.2
     intro i hi
     have := (hsame L hs hZ hx i).2 hi; rw [h0] at this
     simp at this
    ·have hm := (hsame L hs hZ hx i).1 hi
     refine wpOp_mono (fun a' w' h' => ?_) (wpOp_rest (H.2 i hm))
     have hin : i < n := by
      obtain ⟨o, ho, h1, _⟩ := mem_ready.1 hm; have := (Array.getElem?_eq_some_iff.1 ho).1; rw [mkF_at n L i true (by omega)] at h1; simp only [Bool.or_eq_false_iff, decide_eq_false_iff_not, Nat.not_le] at h1; exact h1.2
     refine ih (L.setIfInBounds i true) a' w' (by simpa using hs) (fun j h1 h2 => ?_) ?_
     ·rw [getD_set_ne true (by omega)]; exact hZ j h1 h2
     ·rw [mkF_set]; exact h'.2
   ·have hr : Region.ready md ops (mkF n L) = [] := by
     apply List.eq_nil_iff_forall_not_mem.2
     intro i hi
     obtain ⟨o, ho, h1, _⟩ := mem_ready.1 hi; have := (Array.getElem?_eq_some_iff.1 ho).1; rw [mkF_at n L i true (by omega)] at h1; simp only [Bool.or_eq_false_iff, decide_eq_false_iff_not, Nat.not_le] at h1; exact hx ⟨i, h1.2, h1.1⟩
    rw [hfin L hs hZ hx]; exact wpAny_more f2 _ _ _ _ (by omega) (H.1 hr)
theorem wpAny_two {n f1 f2 : Nat} {L L' F : Array Bool} {a : Act} {w : World} (hb : phaseB md ops n = true) (hs : L.size = ops.size) (hz : ((List.range (ops.size - n)).all fun k => !L.getD (n + k) true) = true) (hL : mkF n L = L') (hF : finF n ops.size = F)
  (h : wpAnyH P md ops (RestQ Q (wpAny P md ops Q f2 F)) S f1 L' a w) : wpAny P md ops Q (f1 + f2) L a w := by
 subst hL hF; refine wpAny_phase hb f1 L a w hs (fun i h1 h2 => ?_) h; have := List.all_eq_true.1 hz (i - n) (by simp; omega); rw [show n + (i - n) = i by omega] at this
 simpa using this
theorem hList {i : Nat} {o : Oper} {fuel : Nat} {listed : Array Bool} {a : Act} {w : World} (hi : ops[i]? = some o) (hr : Region.ready md ops listed = [i])
  (h : wpList P ops (RestQ Q (fun a' w' => S w' ∧ wpAnyH P md ops Q S fuel (listed.setIfInBounds i true) a' w')) [o] a w) : wpAnyH P md ops Q S (fuel + 1) listed a w := by
 refine wpAnyH_all hr (by simp) ?_
 intro j hj
 obtain rfl : j = i := by simpa using hj
 refine wpOp_rest (R := fun a' w' => S w' ∧ wpAnyH P md ops Q S fuel (listed.setIfInBounds j true) a' w') ?_
 unfold wpOp
 simp only [hi]; exact h
end
theorem hStore {P : Program} {ops : Array Oper} {Q : Exit → Act → World → Prop} {md : Region.Mode} {S : World → Prop} {i : Nat} {fuel : Nat} {listed : Array Bool} {a : Act} {w w' : World} (hd : (ops[i]?).map (·.dst) = some none)
  (hr : Region.ready md ops listed = [i]) (hw : (ops[i]?).map (fun o => Region.wanted o (yielded ops a.tmps)) = some true)
  (hrun : ∀ o, ops[i]? = some o → (execOp a.eval o).run P w = .ok .skip w') (hS : S w') (h : wpAnyH P md ops Q S fuel (listed.setIfInBounds i true) a w') : wpAnyH P md ops Q S (fuel + 1) listed a w := by
 refine wpAnyH_all hr (by simp) ?_
 intro j hj
 obtain rfl : j = i := by simpa using hj
 cases hi : ops[j]? with
 | none => simp [hi] at hd
 | some o =>
   have hd' : o.dst = none := by simpa [hi] using hd
   have hw' : Region.wanted o (yielded ops a.tmps) = true := by simpa [hi] using hw
   unfold wpOp
   simp only [hi, hw', if_true, Oper.wp, hrun o hi, Oper.upon]; exact .inl ⟨hS, by rw [hd']; exact h⟩
end
section
open Go Go.RowKit
theorem infoIntN : (Tryz.prog.info? 3).map (fun i => (i.zero, i.size, i.bytes)) = some (some (.int .i64 0), 1, 8) := by kernel_rfl
theorem rowsN {w : World} {B B' s s' n n' : Nat} {e e' : TypeId} {v v' : Value} {xs xs' : List Value} (h : w.ownsRow B e s v n xs) (h' : w.ownsRow B' e' s' v' n' xs') (hne : e ≠ e') : v.ownBlock = none ∨ v.ownBlock ≠ v'.ownBlock := by
 rcases h.2 with ⟨rfl, _⟩ | ⟨g, cap, cur, rfl, _, hh, _⟩
 ·exact .inl rfl
 ·right
  intro e0
  rcases h'.2 with ⟨rfl, _⟩ | ⟨g', cap', cur', rfl, _, hh', _⟩
  ·cases e0
  ·cases e0
   rw [hh] at hh'; simp only [Option.some.injEq, Obj.cells.injEq] at hh'; exact hne hh'.2.1
theorem new_one (w : World) (u : Value) (t : TypeId) : ∀ j x, [u][j]? = some x → (w.alloc (.cells #[u] t)).cell? ((⟨w.heap.size, 0, none⟩ : Addr).add j) = some x := fun j x hx => by
 match j, hx with
 | 0, hx => simp at hx; rw [← hx]; simp [Addr.add, World.cell?_alloc_new]
 | j + 1, hx => simp at hx
theorem take_next {α : Type} (l : List α) (j : Nat) (h : j < l.length) : l.take (j + 1) = l.take j ++ [l[j]] := by
 rw [List.take_add_one, List.getElem?_eq_getElem h]; rfl
theorem app_strI (w : World) {ops : Array Oper} {rest : List Oper} {o : Oper} {a : Act} {Q : Exit → Act → World → Prop} (hgd : o.guard = none) (s x : Operand)
  (ho : o.op = .call { callee := .builtin .append, args := #[s, x], argTypes := #[128, 128] }) (B : Nat) (p : Option Addr) (n c : Nat) (vs : List Value) (z : ByteArray)
  (hs : a.eval s = .slice p n c) (hown : w.ownsRow B 9 1 (.slice p n c) n vs) (hx : a.eval x = .slice (some ⟨w.heap.size, 0, none⟩) 1 1) (hlen : n + 1 ≤ 1000000) (hbase : B ≤ w.heap.size)
  (h : ∀ g cap w', w'.ownsRow B 9 1 (.slice (some ⟨g, 0, none⟩) (n + 1) cap) (n + 1) (vs ++ [.string z]) → (w.alloc (.cells #[.string z] 9)).grownBy w' (Value.ownBlock (.slice p n c)) → (Value.ownBlock (.slice p n c) = some g ∨ w.heap.size < g) → wpList Tryz.prog ops Q rest (a.put o.dst (.slice (some ⟨g, 0, none⟩) (n + 1) cap)) w') : wpList Tryz.prog ops Q (o :: rest) a (w.alloc (.cells #[.string z] 9)) := by
 obtain ⟨i0, hi, hz0, hz1, hz2⟩ := info_parts infoStr; refine wpList_append_lies _ hgd s x 128 ho B 9 i0 (.string ⟨#[]⟩) 1 16 Tryz.underlying128 hi hz0 hz1 hz2 rfl (by decide) (.slice p n c) n vs hs (hown.alloc _) ⟨w.heap.size, 0, none⟩ 1 1 [.string z] hx rfl (new_one _ _ _) (fun u hu => by simp at hu; rw [hu]; rfl) (by decide) (by unfold maxLen; omega) (by omega) (by simp; omega) _ rfl ?_
 intro g cap w' h1 h2 h3 h4
 exact h g cap w' h1 h2 (h3.imp id fun e => by rw [e]; simp)
theorem app_num (w : World) {ops : Array Oper} {rest : List Oper} {o : Oper} {a : Act} {Q : Exit → Act → World → Prop} (hgd : o.guard = none) (s x : Operand)
  (ho : o.op = .call { callee := .builtin .append, args := #[s, x], argTypes := #[42, 42] }) (B : Nat) (p : Option Addr) (n c : Nat) (vs : List Value) (z : Int)
  (hs : a.eval s = .slice p n c) (hown : w.ownsRow B 3 1 (.slice p n c) n vs) (hx : a.eval x = .slice (some ⟨w.heap.size, 0, none⟩) 1 1) (hlen : n + 1 ≤ 1000000) (hbase : B ≤ w.heap.size)
  (h : ∀ g cap w', w'.ownsRow B 3 1 (.slice (some ⟨g, 0, none⟩) (n + 1) cap) (n + 1) (vs ++ [.int .i64 z]) → (w.alloc (.cells #[.int .i64 z] 3)).grownBy w' (Value.ownBlock (.slice p n c)) → wpList Tryz.prog ops Q rest (a.put o.dst (.slice (some ⟨g, 0, none⟩) (n + 1) cap)) w') : wpList Tryz.prog ops Q (o :: rest) a (w.alloc (.cells #[.int .i64 z] 3)) := by
 obtain ⟨i0, hi, hz0, hz1, hz2⟩ := info_parts infoIntN; refine wpList_append_lies _ hgd s x 42 ho B 3 i0 (.int .i64 0) 1 8 Tryz.underlying42 hi hz0 hz1 hz2 rfl (by decide) (.slice p n c) n vs hs (hown.alloc _) ⟨w.heap.size, 0, none⟩ 1 1 [.int .i64 z] hx rfl (new_one _ _ _) (fun u hu => by simp at hu; rw [hu]; rfl) (by decide) (by unfold maxLen; omega) (by omega) (by simp; omega) _ rfl ?_
 intro g cap w' h1 h2 h3 h4
 exact h g cap w' h1 h2
structure TbS (B : Nat) (W : World) (p1 p2 : Option Addr) (n c1 c2 : Nat) (L : List (List UInt8 × Int)) : Prop where
 len : n = L.length
 nam : W.ownsRow B 9 1 (.slice p1 n c1) n (L.map fun x => strV x.1)
 ari : W.ownsRow B 3 1 (.slice p2 n c2) n (L.map fun x => .int .i64 x.2)
theorem kept_none {w w' : World} {B s n : Nat} {e : TypeId} {v : Value} {xs : List Value} (h : w.ownsRow B e s v n xs) (hb : Below w.heap.size w w') : w'.ownsRow B e s v n xs :=
 h.kept (row := none) ⟨hb.os, hb.tape, hb.output, hb.size, fun k hk _ => hb.block k hk⟩ (by cases v.ownBlock <;> simp)
theorem TbS.below {B : Nat} {W W' : World} {p1 p2 : Option Addr} {n c1 c2 : Nat} {L : List (List UInt8 × Int)} (h : TbS B W p1 p2 n c1 c2 L) (hb : Below W.heap.size W W') : TbS B W' p1 p2 n c1 c2 L := ⟨h.len, kept_none h.nam hb, kept_none h.ari hb⟩
def TabOut (w : World) (e : Ending) (w' : World) : Prop := ∃ p1 p2 n c1 c2, e = .returned (.tuple #[.slice p1 n c1, .slice p2 n c2]) ∧ n = 45 ∧ (∃ B, TbS B w' p1 p2 n c1 c2 (bTab 4)) ∧ Below w.heap.size w w'
def rowsV : List Value := bRows.map strV
theorem rows_at (w : World) (t : TypeId) (k : Nat) (hk : k < 4) : (w.alloc (.cells rowsV.toArray t)).cell? ⟨w.heap.size, k, none⟩ = some (strV (bRow k)) := by
 rw [World.cell?_alloc_new]
 match k, hk with
 | 0, _ => rfl
 | 1, _ => rfl
 | 2, _ => rfl
 | 3, _ => rfl
set_option maxHeartbeats 4000000 in
theorem l7table_any (w : World) : Calls Tryz.prog 121 #[] w (TabOut w) := by
 obtain ⟨wA, eA⟩ : ∃ wA, wA = w.alloc (.cells rowsV.toArray 9) := ⟨_, rfl⟩
 have HD : Hid (∀ k, k < 4 → wA.cell? ⟨w.heap.size, k, none⟩ = some (strV (bRow k))) := fun k hk => by rw [eA]; exact rows_at w _ k hk
 have HBA : Hid (Below w.heap.size w wA) := by rw [eA]; exact (Below.refl _ _).alloc (Nat.le_refl _) _
 have HLEN : Hid (∀ k, k < 4 → (bRow k).length ≤ 400 ∧ (wd [] (bRow k)).length ≤ 45 ∧ (bTab k).length + (wd [] (bRow k)).length ≤ 45) := fun k hk => by
  have := List.all_eq_true.1 bTab_len.2 k (List.mem_range.2 hk)
  simpa using this
 go_enter Tryz.func121, Tryz.ntmps121
 go_wp2_with fail
 have eA' : wA = w.alloc (Obj.cells #[.string ⟨#[116, 114, 117, 101, 32, 102, 97, 105, 108, 32, 102, 97, 108, 115, 101, 32, 110, 108]⟩, .string ⟨#[118, 97, 114, 32, 110, 111, 110, 118, 97, 114, 32, 97, 116, 111, 109, 32, 105, 110, 116, 101, 103, 101, 114, 32, 97, 116, 111, 109, 105, 99, 32, 99, 111, 109, 112, 111, 117, 110, 100, 32, 99, 97, 108, 108, 97, 98, 108, 101, 32, 105, 115, 95, 108, 105, 115, 116, 32, 103, 114, 111, 117, 110, 100, 32, 119, 114, 105, 116, 101, 32, 119, 114, 105, 116, 101, 113, 32, 112, 114, 105, 110, 116, 32, 116, 97, 98]⟩, .string ⟨#[61, 32, 92, 61, 32, 61, 61, 32, 92, 61, 61, 32, 64, 60, 32, 64, 61, 60, 32, 64, 62, 32, 64, 62, 61, 32, 105, 115, 32, 61, 58, 61, 32, 61, 92, 61, 32, 60, 32, 61, 60, 32, 62, 32, 62, 61, 32, 61, 46, 46, 32, 99, 111, 112, 121, 95, 116, 101, 114, 109, 32, 108, 101, 110, 103, 116, 104, 32, 97, 116, 111, 109, 95, 108, 101, 110, 103, 116, 104, 32, 97, 116, 111, 109, 95, 99, 111, 100, 101, 115, 32, 97, 116, 111, 109, 95, 99, 104, 97, 114, 115, 32, 99, 104, 97, 114, 95, 99, 111, 100, 101, 32, 110, 117, 109, 98, 101, 114, 95, 99, 111, 100, 101, 115, 32, 109, 115, 111, 114, 116, 32, 115, 111, 114, 116]⟩, .string ⟨#[99, 111, 109, 112, 97, 114, 101, 32, 102, 117, 110, 99, 116, 111, 114, 32, 97, 114, 103]⟩] 9) := by rw [eA]; rfl
 rw [← eA']; clear eA eA'
 go_loopw [3, 4, 5] (fun s a i wr => ∃ (k n c1 c2 : Nat) (p1 p2 : Option Addr), k ≤ 4 ∧ n ≤ 45 ∧ s = .slice p1 n c1 ∧ a = .slice p2 n c2 ∧ i = .int .i64 k ∧ Hid (TbS wA.heap.size wr p1 p2 n c1 c2 (bTab k)) ∧ Hid (Below wA.heap.size wA wr)) (fun _ _ i _ => 4 - (intOf i).toNat)
 case atStart => exact ⟨0, 0, 0, 0, none, none, by omega, by omega, rfl, rfl, rfl, ⟨rfl, World.ownsRow_nil _ _ _ _, World.ownsRow_nil _ _ _ _⟩, Below.refl _ _⟩
 case round =>
  obtain ⟨k, n, c1, c2, p1, p2, hk, hn, rfl, rfl, rfl, HT, HB⟩ := hrel
  by_cases hlt : k < 4
  ·obtain ⟨hl1, hl2, hl3⟩ := HLEN.out k hlt
   have d0 := (HB.out.cell (World.block_lt_of_cell? _ _ (HD.out k hlt))).trans (HD.out k hlt); have HW := l3words_any (bRow k) wr (by omega)
   obtain ⟨ws, ews⟩ : ∃ ws, ws = wd [] (bRow k) := ⟨_, rfl⟩
   have HEW : Hid (ws = wd [] (bRow k)) := ews; rw [← ews] at HW hl2 hl3
   obtain ⟨sr, esr⟩ : ∃ s, s = bOf (bRow k) := ⟨_, rfl⟩
   simp only [strV] at d0; rw [← esr] at d0 HW; clear esr ews hl1; go_wp2_with fail; refine HW.mono ?_; rintro e w2 ⟨pw, nw, cw, rfl, hnw, hrow2, hb2⟩; have HNW : Hid (nw = ws.length) := hnw
   have hnw45 : nw ≤ 45 := by omega
   have HT2 : Hid (TbS wA.heap.size w2 p1 p2 n c1 c2 (bTab k)) := HT.out.below hb2; have HB2 : Hid (Below wA.heap.size wA w2) := Below.on HB.out hb2
   obtain ⟨Bw, eBw⟩ : ∃ B, B = wr.heap.size := ⟨_, rfl⟩
   have HR2 : Hid (w2.ownsRow Bw 9 1 (.slice pw nw cw) nw (ws.map strV)) := by rw [eBw]; exact hrow2
   have HAP : Hid (Value.ownBlock (.slice p1 n c1) = none ∨ Value.ownBlock (.slice p1 n c1) ≠ Value.ownBlock (.slice pw nw cw)) := by
    cases h1 : Value.ownBlock (.slice p1 n c1) with
    | none => exact .inl rfl
    | some g =>
      right
      intro h2
      have h3 := (HT.out.nam.lt g h1).2; have h4 := (hrow2.lt g h2.symm).1
      omega
   clear hrow2 hb2 hnw HW d0 eBw; go_wp2_with fail
   go_loopw [3, 4, 7] (fun s a i wvl => ∃ (j n c1 c2 : Nat) (p1 p2 : Option Addr), j ≤ nw ∧ n ≤ 45 ∧ s = .slice p1 n c1 ∧ a = .slice p2 n c2 ∧ i = .int .i64 j ∧ Hid (TbS wA.heap.size wvl p1 p2 n c1 c2 (bTab k ++ (ws.take j).map fun x => (x, (k : Int)))) ∧ Hid (wvl.ownsRow Bw 9 1 (.slice pw nw cw) nw (ws.map strV)) ∧ Hid (Value.ownBlock (.slice p1 n c1) = none ∨ Value.ownBlock (.slice p1 n c1) ≠ Value.ownBlock (.slice pw nw cw)) ∧ Hid (Below wA.heap.size wA wvl)) (fun _ _ i _ => nw - (intOf i).toNat)
   case atStart => exact ⟨0, n, c1, c2, p1, p2, Nat.zero_le _, hn, rfl, rfl, rfl, by simpa using HT2, HR2, HAP, HB2⟩
   case round =>
    obtain ⟨j, n5, c5, d5, p5, q5, hj, hn5, rfl, rfl, rfl, HT5, HR5, HA5, HB5⟩ := hrel
    by_cases hlj : j < nw
    ·obtain ⟨gw, capw, hv, _⟩ := HR5.out.form (by omega)
     simp only [Value.slice.injEq] at hv; obtain ⟨rfl, hq0⟩ := hv; clear hq0
     have hjw : j < ws.length := by have := HNW.out; omega
     have hcw : wr.cell? ⟨gw, j, none⟩ = some (strV ws[j]) := by
      rw [HR5.out.cellAt j (by omega)]
      simp [hjw]
     obtain ⟨sx, esx⟩ : ∃ s, s = bOf ws[j] := ⟨_, rfl⟩
     have HSX : Hid (sx = bOf ws[j]) := esx; simp only [strV] at hcw; rw [← esx] at hcw; have hBv : wA.heap.size ≤ wr.heap.size := HB5.out.size; have HBV : Hid (wA.heap.size ≤ wr.heap.size) := hBv
     have hnn : n5 + 1 ≤ 45 := by
      have h1 := HT5.out.len; rw [h1]; simp only [List.length_append, List.length_map, List.length_take]
      omega
     have HL5 : Hid (n5 = (bTab k ++ (ws.take j).map fun x => (x, (k : Int))).length) := HT5.out.len; clear esx
     go_wp2_with (first
      | (at_builtin; refine app_strI _ rfl _ _ rfl wA.heap.size p5 n5 c5 _ sx rfl HT5.out.nam rfl (by omega) HBV.out ?_; intro g6 cap6 w6 hrow6 hg6 hat6; have hne1 : Value.ownBlock (.slice q5 n5 d5) = none ∨ Value.ownBlock (.slice q5 n5 d5) ≠ Value.ownBlock (.slice p5 n5 c5) := rowsN HT5.out.ari HT5.out.nam (by decide); have HAR : Hid (w6.ownsRow wA.heap.size 3 1 (.slice q5 n5 d5) n5 ((bTab k ++ (ws.take j).map fun x => (x, (k : Int))).map fun x => .int .i64 x.2)) := (HT5.out.ari.alloc _).kept hg6 hne1; have HB6 : Hid (Below wA.heap.size wA w6) := (HB5.out.alloc HBV.out _).grown hg6 (by simp; have := HBV.out; omega) (fun kk hkk => (HT5.out.nam.lt kk hkk).1); have HSZ6 : Hid (wA.heap.size ≤ w6.heap.size) := HB6.out.size)
      | (at_builtin; refine app_num _ rfl _ _ rfl wA.heap.size q5 n5 d5 _ (k : Int) rfl HAR.out rfl (by omega) HSZ6.out ?_; intro g7 cap7 w7 hrow7 hg7))
     have HRW : Hid (w6.ownsRow Bw 9 1 (.slice (some ⟨gw, 0, none⟩) nw cw) nw (ws.map strV)) := (HR5.out.alloc _).kept hg6 (by
      rcases HA5.out with h | h
      ·rw [h]; right; intro h2; cases h2
      ·exact .inr fun h2 => h h2.symm)
     have HA6 : Hid (g6 ≠ gw) := fun e => by
      subst e
      rcases hat6 with h | h
      ·rcases HA5.out with h2 | h2
       ·rw [h2] at h; cases h
       ·exact h2 h
      ·have := World.block_lt_of_cell? _ _ hcw
       simp at this
       omega
     have HN6 : Hid (w6.ownsRow wA.heap.size 9 1 (.slice (some ⟨g6, 0, none⟩) (n5 + 1) cap6) (n5 + 1) ((bTab k ++ (ws.take (j + 1)).map fun x => (x, (k : Int))).map fun x => strV x.1)) := by
      have e : (bTab k ++ (ws.take (j + 1)).map fun x => (x, (k : Int))).map (fun x => strV x.1) = (bTab k ++ (ws.take j).map fun x => (x, (k : Int))).map (fun x => strV x.1) ++ [.string sx] := by
       rw [HSX.out, take_next ws j hjw]; simp only [List.map_append, List.map_cons, List.map_nil, List.append_assoc, strV]
      rw [e]; exact hrow6
     have hne2 : Value.ownBlock (.slice (some ⟨g6, 0, none⟩) (n5 + 1) cap6) = none ∨ Value.ownBlock (.slice (some ⟨g6, 0, none⟩) (n5 + 1) cap6) ≠ Value.ownBlock (.slice q5 n5 d5) := rowsN HN6.out HAR.out (by decide); have hne3 : Value.ownBlock (.slice (some ⟨gw, 0, none⟩) nw cw) = none ∨ Value.ownBlock (.slice (some ⟨gw, 0, none⟩) nw cw) ≠ Value.ownBlock (.slice q5 n5 d5) := rowsN HRW.out HAR.out (by decide)
     have HT7 : Hid (TbS wA.heap.size w7 (some ⟨g6, 0, none⟩) (some ⟨g7, 0, none⟩) (n5 + 1) cap6 cap7 (bTab k ++ (ws.take (j + 1)).map fun x => (x, (k : Int)))) := by
      refine ⟨?_, (HN6.out.alloc _).kept hg7 hne2, ?_⟩
      ·have h1 := HL5.out
       rw [h1]; simp only [List.length_append, List.length_map, List.length_take]
       omega
      ·have e : (bTab k ++ (ws.take (j + 1)).map fun x => (x, (k : Int))).map (fun x => Value.int .i64 x.2) = (bTab k ++ (ws.take j).map fun x => (x, (k : Int))).map (fun x => Value.int .i64 x.2) ++ [.int .i64 k] := by
        rw [take_next ws j hjw]; simp only [List.map_append, List.map_cons, List.map_nil, List.append_assoc]
       rw [e]; exact hrow7
     have HR7 : Hid (w7.ownsRow Bw 9 1 (.slice (some ⟨gw, 0, none⟩) nw cw) nw (ws.map strV)) := (HRW.out.alloc _).kept hg7 hne3
     have HA7 : Hid (Value.ownBlock (.slice (some ⟨g6, 0, none⟩) (n5 + 1) cap6) = none ∨ Value.ownBlock (.slice (some ⟨g6, 0, none⟩) (n5 + 1) cap6) ≠ Value.ownBlock (.slice (some ⟨gw, 0, none⟩) nw cw)) := .inr fun h => HA6.out (by simpa [Value.ownBlock] using h)
     have HB7 : Hid (Below wA.heap.size wA w7) := (HB6.out.alloc HSZ6.out _).grown hg7 (by simp; have := HSZ6.out; omega) (fun kk hkk => (HAR.out.lt kk hkk).1); clear hrow7 hg7 hne2 hne3 HAR HRW HN6 HB6 HSZ6 HA6 hrow6 hg6 hat6 hne1 hcw HT5 HR5 HA5 HB5 hBv HBV; go_wp2_with fail; go_roundw
     case rel => exact ⟨j + 1, n5 + 1, cap6, cap7, _, _, by omega, by omega, rfl, rfl, by go_num, HT7, HR7, HA7, HB7⟩
     case measure => simp [intOf]; omega
    ·obtain rfl : j = nw := by omega
     have HT6 : Hid (TbS wA.heap.size wr p5 q5 n5 c5 d5 (bTab (k + 1))) := by
      show TbS _ _ _ _ _ _ _ _
      rw [bTab_next, ← HEW.out]; have h1 := HT5.out; rw [HNW.out, List.take_length] at h1; exact h1
     go_wp2_with fail; go_roundw
     case rel => exact ⟨k + 1, n5, c5, d5, p5, q5, by omega, hn5, rfl, rfl, by go_num, HT6, HB5⟩
     case measure => simp [intOf]; omega
  ·obtain rfl : k = 4 := by omega
   have HF : Hid (n = 45) := HT.out.len.trans bTab_len.1; go_wp2_with fail
   go_ret2
   exact ⟨p1, p2, n, c1, c2, rfl, HF.out, ⟨_, HT.out⟩, HBA.out.trans (HB.out.mono HBA.out.size)⟩
def bAt (j : Nat) : List UInt8 × Int := (bTab 4).getD j ([], 0)
theorem bAt_get (j : Nat) (h : j < 45) : (bTab 4)[j]? = some (bAt j) := by
 have : j < (bTab 4).length := by rw [bTab_len.1]; exact h
 rw [bAt, List.getD_eq_getElem?_getD, List.getElem?_eq_getElem this]; rfl
theorem isBu_hit {x : List UInt8} {a : Int} {j : Nat} (hj : j < 45) (h1 : (bAt j).1 = x) (h2 : (bAt j).2 = a) : isBu x a = true := by
 unfold isBu
 refine List.any_eq_true.2 ⟨bAt j, List.mem_of_getElem? (bAt_get j hj), ?_⟩
 simp [h1, h2]
theorem isBu_miss {x : List UInt8} {a : Int} (h : ∀ q, q < 45 → ¬ ((bAt q).1 = x ∧ (bAt q).2 = a)) : isBu x a = false := by
 cases hb : isBu x a with
 | false => rfl
 | true =>
   exfalso
   unfold isBu at hb
   obtain ⟨p, hp, h2⟩ := List.any_eq_true.1 hb; obtain ⟨j, hj, rfl⟩ := List.mem_iff_getElem.1 hp
   have hj' : j < 45 := by rw [← bTab_len.1]; exact hj
   have h3 := bAt_get j hj'; rw [List.getElem?_eq_getElem hj] at h3; rw [Option.some.inj h3] at h2; simp only [Bool.and_eq_true, decide_eq_true_eq] at h2; exact h j hj' h2
theorem bAt_small : ((List.range 45).all fun j => decide (0 ≤ (bAt j).2 ∧ (bAt j).2 ≤ 3)) = true := by decide
set_option maxHeartbeats 2000000 in
theorem specIsBu_any (p : Option Addr) (cap : Nat) (xs : List Int) (a : Int) (w : World) (hin : BIn w p xs) :
  Calls Tryz.prog 46 #[.slice p xs.length cap, .int .i64 a] w fun e w' => e = .returned (.bool (isBu (unU xs) a)) ∧ Below w.heap.size w w' := by
 obtain ⟨l, el⟩ : ∃ l, l = xs.length := ⟨_, rfl⟩
 obtain ⟨s, es⟩ : ∃ s, s = strOfNums xs := ⟨_, rfl⟩
 have HCV : Hid (∀ W, Below w.heap.size w W → (convert 35 9 (.slice p l cap)).run Tryz.prog W = .ok (.string s) W) := fun W hW => by rw [es]; exact conv_str (hin.below hW) l cap el 9 Tryz.underlying9
 have HS : Hid (s = bOf (unU xs)) := by rw [es]; exact str_unU xs
 have HT := l7table_any w; rw [← el]; clear hin el es
 go_enter Tryz.func46, Tryz.ntmps46
 go_wp2_with fail; refine HT.mono ?_; rintro e w2 ⟨p1, p2, n, c1, c2, rfl, rfl, ⟨B, htb⟩, hb2⟩; obtain ⟨g1, cap1, hv1, _⟩ := htb.nam.form (by decide); simp only [Value.slice.injEq] at hv1; obtain ⟨rfl, hq1⟩ := hv1; obtain ⟨g2, cap2, hv2, _⟩ := htb.ari.form (by decide); simp only [Value.slice.injEq] at hv2; obtain ⟨rfl, hq2⟩ := hv2
 have HC : Hid (∀ j, j < 45 → w2.cell? ⟨g1, j, none⟩ = some (.string (bOf (bAt j).1)) ∧ w2.cell? ⟨g2, j, none⟩ = some (.int .i64 (bAt j).2)) := fun j hj => by
  have h1 := htb.nam.cellAt j (by omega); have h2 := htb.ari.cellAt j (by omega); rw [List.getElem?_map, bAt_get j hj] at h1 h2; exact ⟨h1, h2⟩
 have HB2 : Hid (Below w.heap.size w w2) := hb2; clear htb hb2 HT hq1 hq2; go_wp2_with fail
 go_loopw [7] (fun i wr => ∃ j : Nat, j ≤ 45 ∧ i = .int .i64 j ∧ Hid (∀ q, q < j → ¬ ((bAt q).1 = unU xs ∧ (bAt q).2 = a)) ∧ Hid (Below w2.heap.size w2 wr)) (fun i _ => 45 - (intOf i).toNat)
 case atStart => exact ⟨0, by omega, rfl, fun q hq => absurd hq (Nat.not_lt_zero _), Below.refl _ _⟩
 case round =>
  obtain ⟨j, hj, rfl, HP, HB⟩ := hrel
  by_cases hlt : j < 45
  ·obtain ⟨h1, h2⟩ := HC.out j hlt
   have d1 := (HB.out.cell (World.block_lt_of_cell? _ _ h1)).trans h1; have d2 := (HB.out.cell (World.block_lt_of_cell? _ _ h2)).trans h2; have hsm := List.all_eq_true.1 bAt_small j (List.mem_range.2 hlt); simp only [decide_eq_true_eq] at hsm; have hBw : Below w.heap.size w wr := Below.on HB2.out HB.out
   have hk0 : (0 : Int) ≤ (j : Int) := by omega
   have hk1 : (j : Int) < 45 := by omega
   have hcv2 := HCV.out wr.drew hBw.drew
   have HQ1 : Hid (((bOf (bAt j).1).toList == s.toList) = decide ((bAt j).1 = unU xs)) := by
    show _ = _
    rw [HS.out, bOf_list, bOf_list]
    by_cases h : (bAt j).1 = unU xs
    ·rw [h]; simp
    ·rw [decide_eq_false h]; simpa using h
   obtain ⟨sj, esj⟩ : ∃ sj, sj = bOf (bAt j).1 := ⟨_, rfl⟩
   obtain ⟨aj, eaj⟩ : ∃ aj, aj = (bAt j).2 := ⟨_, rfl⟩
   rw [← esj] at d1 HQ1; rw [← eaj] at d2 hsm; have HEA : Hid (aj = (bAt j).2) := eaj; clear esj eaj h1 h2 hBw
   by_cases hA : (bAt j).1 = unU xs
   ·have hs1 : (sj.toList == s.toList) = true := by rw [HQ1.out]; simpa using hA
    by_cases hB : aj = a
    ·have HF : Hid (isBu (unU xs) a = true) := isBu_hit hlt hA (by rw [← HEA.out]; exact hB)
     have ha1 : (aj == a) = true := by simpa using hB
     clear hA hB HQ1; go_wp2_with fail
     go_region_held3 (fun W => W = wr.drew) (rfl) (fail)
     all_goals go_wp2_with fail
     all_goals go_ret
     all_goals exact ⟨ret_bool HF.out.symm, (Below.on HB2.out HB.out).drew⟩
    ·have HN : Hid (∀ q, q < j + 1 → ¬ ((bAt q).1 = unU xs ∧ (bAt q).2 = a)) := fun q hq hh => by
      by_cases e : q = j
      ·subst e; exact hB (HEA.out.trans hh.2)
      ·exact HP.out q (by omega) hh
     have ha1 : (aj == a) = false := by simpa using hB
     have HB3 : Hid (Below w2.heap.size w2 wr.drew) := HB.out.drew; clear hA hB HQ1; go_wp2_with fail
     go_region_held3 (fun W => W = wr.drew) (rfl) (fail)
     all_goals go_wp2_with fail
     all_goals go_roundw
     all_goals first
      | (simp [intOf]; omega)
      | exact ⟨j + 1, by omega, by go_num, HN, HB3⟩
   ·have hs1 : (sj.toList == s.toList) = false := by rw [HQ1.out]; simpa using hA
    have HN : Hid (∀ q, q < j + 1 → ¬ ((bAt q).1 = unU xs ∧ (bAt q).2 = a)) := fun q hq hh => by
     by_cases e : q = j
     ·subst e; exact hA hh.1
     ·exact HP.out q (by omega) hh
    have HB3 : Hid (Below w2.heap.size w2 wr.drew) := HB.out.drew; clear hA HQ1; go_wp2_with fail; refine wp_region_held_drew (S := fun W => W = wr.drew) (by kernel_rfl) ?_ (fun hHeld => ?_)
    ·exact rfl
    refine hTk (i := 0) (v := .slice (some ⟨g1, 0, none⟩) 45 c1) (some 18) (fun o ho W hSw => ?y0) (by assumption) ?_
    case y0 => cases ho; simp [execOp, go_sem, Act.eval]
    simp only [Act.put, zzA, zzB, zzC]; refine hTk (i := 1) (v := .int .i64 j) (some 19) (fun o ho W hSw => ?y1) (by assumption) ?_
    case y1 => cases ho; simp [execOp, go_sem, Act.eval]
    simp only [Act.put, zzA, zzB, zzC]; refine hTk (i := 2) (v := .pointer (some ⟨g1, j, none⟩)) (some 20) (fun o ho W hSw => ?y2) (by assumption) ?_
    case y2 => cases ho; simp [execOp, go_sem, Act.eval, hk0, hk1]
    simp only [Act.put, zzA, zzB, zzC]; refine hTk (i := 3) (v := .string sj) (some 21) (fun o ho W hSw => ?y3) (by assumption) ?_
    case y3 =>
     cases ho
     subst hSw
     simp [execOp, go_sem, Act.eval, d1]
    simp only [Act.put, zzA, zzB, zzC]; refine hTk (i := 4) (v := .slice p l cap) (some 22) (fun o ho W hSw => ?y4) (by assumption) ?_
    case y4 => cases ho; simp [execOp, go_sem, Act.eval]
    simp only [Act.put, zzA, zzB, zzC]; refine hTk (i := 5) (v := .string s) (some 23) (fun o ho W hSw => ?y5) (by assumption) ?_
    case y5 =>
     cases ho
     subst hSw
     simp [execOp, go_sem, Act.eval, hcv2]
    simp only [Act.put, zzA, zzB, zzC]; refine hTk (i := 6) (v := .bool false) (some 24) (fun o ho W hSw => ?y6) (by assumption) ?_
    case y6 => cases ho; simp [execOp, go_sem, Act.eval, hs1]
    simp only [Act.put, zzA, zzB, zzC]; refine hTk (i := 7) (v := .bool false) (some 25) (fun o ho W hSw => ?y7) (by assumption) ?_
    case y7 => cases ho; simp [execOp, go_sem, Act.eval]
    simp only [Act.put, zzA, zzB, zzC]; refine hSk (i := 8) (some 26) (by assumption) ?_; refine hSk (i := 9) (some 27) (by assumption) ?_; refine hSk (i := 10) (some 28) (by assumption) ?_; refine hSk (i := 11) (some 29) (by assumption) ?_; simp only [Act.put, zzA, zzB, zzC]; refine hSk (i := 12) (some 30) (by assumption) ?_; refine hSk (i := 13) (some 31) (by assumption) ?_; simp only [Act.put, zzA, zzB, zzC]
    refine hTk (i := 14) (v := .bool false) (some 32) (fun o ho W hSw => ?y14) (by assumption) ?_
    case y14 => cases ho; simp [execOp, go_sem, Act.eval]
    simp only [Act.put, zzA, zzB, zzC]; refine wpAnyH_done (by kernel_rfl) ?_ _
    change Exit.then _ _ _ _ wr.drew
    go_wp2_with fail; go_roundw
    case rel => exact ⟨j + 1, by omega, by go_num, HN, HB3⟩
    case measure => simp [intOf]; omega
  ·obtain rfl : j = 45 := by omega
   have HF : Hid (isBu (unU xs) a = false) := isBu_miss HP.out; go_wp2_with fail; go_ret; exact ⟨ret_bool HF.out.symm, Below.on HB2.out HB.out⟩
end
section
open Go Go.RowKit
set_option linter.unusedSimpArgs false
theorem wpl_tail (w : World) {ops : Array Oper} {rest : List Oper} {o : Oper} {a : Act} {Q : Exit → Act → World → Prop} (hgd : o.guard = none) (x : Operand) (t e : TypeId) (ho : o.op = .slice t x (some (.const (.int .i64 1))) none none) (ht : Tryz.prog.underlying t = some (.slice e))
  (size : Nat) (hinf : (Tryz.prog.info? e).map (·.size) = some size) {b off n c : Nat} (hx : a.eval x = .slice (some ⟨b, off, none⟩) (n + 1) c) (hc : n + 1 ≤ c) (hm : c ≤ 9223372036854775807)
  (h : ∀ p', (0 < c - 1 → p' = some ⟨b, off + size, none⟩) → wpList Tryz.prog ops Q rest (a.put o.dst (.slice p' n (c - 1))) w) : wpList Tryz.prog ops Q (o :: rest) a w := by
 refine wpList_plain hgd fun K hK' => ?_
 have hi : ∃ i0, Tryz.prog.info? e = some i0 ∧ i0.size = size := by
  cases hq : Tryz.prog.info? e with
  | none => rw [hq] at hinf; simp at hinf
  | some i0 => rw [hq] at hinf; exact ⟨i0, rfl, by simpa using hinf⟩
 obtain ⟨i0, hi0, hs0⟩ := hi
 have hel : Tryz.prog.elem t = e := by unfold Program.elem; rw [ht]
 have hrun : (Instr.slice t (.slice (some ⟨b, off, none⟩) (n + 1) c) (some (.int .i64 1)) none none).run Tryz.prog w = .ok (.slice (if c = 1 then some ⟨b, off, none⟩ else some ⟨b, off + size, none⟩) n (c - 1)) w := by
  rw [run_slice_l w t (some ⟨b, off, none⟩) (n + 1) c (by rw [hel]; exact ht) .i64 1 (by omega) (by omega), hel]; simp only [sizeOf, typeInfo, hi0, Result.andThen]
  by_cases hz : c = 1
  ·simp [sliced, hz, hi0, hs0, go_sem]
  ·simp [sliced, hz, hi0, hs0, go_sem, Addr.add_lit]
 have heval : a.eval (.const (.int .i64 1)) = .int .i64 1 := rfl
 unfold Oper.wp
 simp only [execOp, ho, hx, heval, Option.map_some, Option.map_none]; simp only [Sem.run_bind, run_sliceAt_slice w t _ _ _ _ (show Tryz.prog.underlying t = some (.slice (Tryz.prog.elem t)) by rw [hel]; exact ht), hrun, Result.andThen, Sem.run_pure, Oper.upon]; refine hK' _ _ (h _ fun hp => ?_); rw [if_neg (by omega)]
end
section
open Go
section
variable {P : Program} {ops : Array Oper} {Q : Exit → Act → World → Prop} {md : Region.Mode} {S : World → Prop}
theorem hBoth {i j : Nat} {fuel : Nat} {listed : Array Bool} {a : Act} {w : World} (hr : Region.ready md ops listed = [i, j])
  (hi : wpOp P ops Q i (fun a' w' => S w' ∧ wpAnyH P md ops Q S fuel (listed.setIfInBounds i true) a' w') a w)
  (hj : wpOp P ops Q j (fun a' w' => S w' ∧ wpAnyH P md ops Q S fuel (listed.setIfInBounds j true) a' w') a w) : wpAnyH P md ops Q S (fuel + 1) listed a w := by
 refine wpAnyH_all hr (by simp) ?_
 intro k hk
 simp only [List.mem_cons, List.not_mem_nil, or_false] at hk
 rcases hk with rfl | rfl
 ·exact hi
 ·exact hj
theorem opStep {i : Nat} {v : Value} {K : Act → World → Prop} {a : Act} {w w' : World} (d : Option Tmp) (hd : (ops[i]?).map (·.dst) = some d) (hw : (ops[i]?).map (fun o => Region.wanted o (yielded ops a.tmps)) = some true)
  (hrun : ∀ o, ops[i]? = some o → (execOp a.eval o).run P w = .ok (.value v) w') (h : K (a.put d v) w') : wpOp P ops Q i K a w := by
 cases hi : ops[i]? with
 | none => simp [hi] at hd
 | some o =>
   have hd' : o.dst = d := by simpa [hi] using hd
   have hw' : Region.wanted o (yielded ops a.tmps) = true := by simpa [hi] using hw
   subst hd'
   unfold wpOp
   simp only [hi, hw', if_true, Oper.wp, hrun o hi, Oper.upon]; exact .inl h
theorem opCall {i : Nat} {f : FuncId} {args : Array Value} {R : Ending → World → Prop} {K : Act → World → Prop} {a : Act} {w : World} (d : Option Tmp) (hd : (ops[i]?).map (·.dst) = some d) (hw : (ops[i]?).map (fun o => Region.wanted o (yielded ops a.tmps)) = some true)
  (hrun : ∀ o, ops[i]? = some o → (execOp a.eval o).run P w = .ok (.enter f args) w) (hC : Calls P f args w R) (hK : ∀ u w', R (.returned u) w' → K (a.put d u) w')
  (hP : ∀ ch w', ¬ R (.panicked ch) w') (hO : ∀ w', ¬ R .outgrown w') : wpOp P ops Q i K a w := by
 cases hi : ops[i]? with
 | none => simp [hi] at hd
 | some o =>
   have hd' : o.dst = d := by simpa [hi] using hd
   have hw' : Region.wanted o (yielded ops a.tmps) = true := by simpa [hi] using hw
   subst hd'
   unfold wpOp
   simp only [hi, hw', if_true, Oper.wp, hrun o hi, Oper.upon]; refine .inl (hC.mono fun e w'' he => ?_)
   cases e with
   | returned u => exact hK u w'' he
   | panicked ch => exact absurd he (hP ch w'')
   | outgrown => exact absurd he (hO w'')
end
end
end Go.Proofs.YtickbkcpcgmlmaaGreatDoor
