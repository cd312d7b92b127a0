/- Texts of UfQ, UfB, UfI. Own work of the verifier. -/
import Derived.Test.YtfnmoaiejpkocaaUqay
import Derived.Test.YtfnmoaiejpkocaaUqat
namespace Go.Proofs.Ytfnmoaiejpkocaa
open Go Go.RowKit
set_option linter.unusedVariables false

abbrev USt := List Cel × List Int
/-- Binding: where it cannot be, all stays. -/
noncomputable def bndU (st : USt) (a : Nat) (c : Cel) : USt × Int := if (bndT st.1 st.2 a c).2 = 0 then bndT st.1 st.2 a c else (st, (bndT st.1 st.2 a c).2)
/-- The arguments of two structures, in pairs. -/
def pairsL (xs : List Cel) (s t n : Nat) : List (Cel × Cel) := (List.range n).map (fun i => (xs.getD (s + (i + 1)) Cel.none, xs.getD (t + (i + 1)) Cel.none))
/-- Have two structures the same name and number of arguments? -/
def sameF (xs : List Cel) (s t : Nat) : Prop := numA xs s = numA xs t ∧ (xs.getD s Cel.none).2.2 = (xs.getD t Cel.none).2.2
instance (xs : List Cel) (s t : Nat) : Decidable (sameF xs s t) := by unfold sameF; infer_instance
/-- One pair, of words that were followed: the store, the code, and pairs ahead of the others. -/
noncomputable def uStep (st : USt) (x y : Cel) : (USt × Int) × List (Cel × Cel) :=
  if x.1 = 0 then (if y.1 = 0 ∧ y.2.1 = x.2.1 then ((st, 0), []) else (bndU st x.2.1.toNat y, []))
  else if y.1 = 0 then (bndU st y.2.1.toNat x, [])
  else if x.1 = 4 ∧ y.1 = 4 then (if sameF st.1 x.2.1.toNat y.2.1.toNat then ((st, 0), pairsL st.1 x.2.1.toNat y.2.1.toNat (numA st.1 x.2.1.toNat).toNat) else ((st, 4), []))
  else if x = y then ((st, 0), []) else ((st, 4), [])
noncomputable def uRun : Nat → List (Cel × Cel) → USt → USt × Int × Nat
  | n, [], st => (st, 0, n)
  | 0, _ :: _, st => (st, 3, 0)
  | n + 1, p :: r, st => if (uStep st (drf st.1 p.1) (drf st.1 p.2)).1.2 = 0 then uRun n ((uStep st (drf st.1 p.1) (drf st.1 p.2)).2 ++ r) (uStep st (drf st.1 p.1) (drf st.1 p.2)).1.1
      else ((uStep st (drf st.1 p.1) (drf st.1 p.2)).1.1, (uStep st (drf st.1 p.1) (drf st.1 p.2)).1.2, n)
theorem uRun_nil (n : Nat) (st : USt) : uRun n [] st = (st, 0, n) := by cases n <;> rfl
theorem uRun_zero (p : Cel × Cel) (r : List (Cel × Cel)) (st : USt) : uRun 0 (p :: r) st = (st, 3, 0) := rfl
theorem uRun_ok (n : Nat) (p : Cel × Cel) (r : List (Cel × Cel)) (st : USt) (h : (uStep st (drf st.1 p.1) (drf st.1 p.2)).1.2 = 0) : uRun (n + 1) (p :: r) st = uRun n ((uStep st (drf st.1 p.1) (drf st.1 p.2)).2 ++ r) (uStep st (drf st.1 p.1) (drf st.1 p.2)).1.1 := by
  rw [uRun, if_pos h]
theorem uRun_bad (n : Nat) (p : Cel × Cel) (r : List (Cel × Cel)) (st : USt) (h : (uStep st (drf st.1 p.1) (drf st.1 p.2)).1.2 ≠ 0) : uRun (n + 1) (p :: r) st = ((uStep st (drf st.1 p.1) (drf st.1 p.2)).1.1, (uStep st (drf st.1 p.1) (drf st.1 p.2)).1.2, n) := by
  rw [uRun, if_neg h]
theorem uRun_app : ∀ (n : Nat) (ps r : List (Cel × Cel)) (st : USt), uRun n (ps ++ r) st = if (uRun n ps st).2.1 = 0 then uRun (uRun n ps st).2.2 r (uRun n ps st).1 else uRun n ps st := by
  intro n
  induction n with
  | zero =>
    intro ps r st
    cases ps with
    | nil => rw [uRun_nil, if_pos rfl]; rfl
    | cons p ps => rw [uRun_zero, if_neg (by simp)]; rfl
  | succ n ih =>
    intro ps r st
    cases ps with
    | nil => rw [uRun_nil, if_pos rfl]; rfl
    | cons p ps =>
      by_cases h : (uStep st (drf st.1 p.1) (drf st.1 p.2)).1.2 = 0
      · rw [List.cons_append, uRun_ok _ _ _ _ h, uRun_ok _ _ _ _ h, ← List.append_assoc, ih]
      · rw [List.cons_append, uRun_bad _ _ _ _ h, uRun_bad _ _ _ _ h, if_neg h]
theorem uRun_same (n : Nat) (p q : Cel × Cel) (r : List (Cel × Cel)) (st : USt) (h1 : drf st.1 p.1 = drf st.1 q.1) (h2 : drf st.1 p.2 = drf st.1 q.2) : uRun n (p :: r) st = uRun n (q :: r) st := by
  cases n with
  | zero => rfl
  | succ n => simp only [uRun]; rw [h1, h2]
theorem uRun_left : ∀ (n : Nat) (ps : List (Cel × Cel)) (st : USt), (uRun n ps st).2.2 ≤ n := by
  intro n
  induction n with
  | zero => intro ps st; cases ps <;> simp [uRun]
  | succ n ih =>
    intro ps st
    cases ps with
    | nil => rw [uRun_nil]; exact Nat.le_refl _
    | cons p r =>
      by_cases h : (uStep st (drf st.1 p.1) (drf st.1 p.2)).1.2 = 0
      · rw [uRun_ok _ _ _ _ h]; have := ih ((uStep st (drf st.1 p.1) (drf st.1 p.2)).2 ++ r) (uStep st (drf st.1 p.1) (drf st.1 p.2)).1.1; omega
      · rw [uRun_bad _ _ _ _ h]; exact Nat.le_succ _

/-- A word of the store, with a text that it can have. -/
def WOk (xs : List Cel) (c : Cel) : Prop := WdC xs c ∧ okW c.1 c.2.1 c.2.2.length = true ∧ Byte c.2.2
/-- A store that is as it has to be, with texts that it can have. -/
def Fit (st : USt) : Prop := Good st.1 ∧ OkS st.1 ∧ st.2.length ≤ 20000
/-- What a later store has of an elder: cells that were no variables. -/
def Ext (xs ys : List Cel) : Prop := ys.length = xs.length ∧ ∀ i, i < xs.length → ys.getD i Cel.none = xs.getD i Cel.none ∨ xs.getD i Cel.none = (0, (i : Int), [])
theorem Ext.refl (xs : List Cel) : Ext xs xs := ⟨rfl, fun i _ => .inl rfl⟩
theorem Ext.trans {xs ys zs : List Cel} (h : Ext xs ys) (h' : Ext ys zs) : Ext xs zs := ⟨h'.1.trans h.1, fun i hi => by
  rcases h.2 i hi with e | e
  · rcases h'.2 i (by rw [h.1]; exact hi) with e' | e'
    · exact .inl (e'.trans e)
    · exact .inr (e.symm.trans e')
  · exact .inr e⟩
theorem wok_drf {xs : List Cel} (g : Good xs) (ho : OkS xs) {c : Cel} (h : WOk xs c) : WOk xs (drf xs c) ∧ onB xs (drf xs c) = false := by
  obtain ⟨⟨h1, h2⟩, h3, h4⟩ := drf_ind g (P := fun c => okW c.1 c.2.1 c.2.2.length = true ∧ Byte c.2.2) (fun a ha _ => ho a ha) _ c (Nat.le_refl _) h.1 ⟨h.2.1, h.2.2⟩
  exact ⟨⟨h3, h1, h2⟩, h4⟩
theorem wok_at {xs : List Cel} (g : Good xs) (ho : OkS xs) {a : Nat} (ha : a < xs.length) (h3 : kndA xs a ≠ 3) : WOk xs (xs.getD a Cel.none) := ⟨g.at ha h3, (ho a ha).1, (ho a ha).2⟩
theorem follow_ref {xs : List Cel} {x : Cel} (h0 : x.1 = 0) (ho : onB xs x = false) : varB xs x.2.1 = true := by simp [onB, h0] at ho; exact ho
theorem wok_text {xs : List Cel} {x : Cel} (h : WOk xs x) (h0 : x.1 = 0 ∨ x.1 = 1 ∨ x.1 = 4) : x.2.2 = [] := by
  have := h.2.1
  unfold okW at this
  rcases h0 with h0 | h0 | h0
  · rw [h0] at this; simp [cellB] at this; exact this.2.2
  · rw [h0] at this; simp [cellB] at this; exact this.2.2
  · rw [h0] at this; simpa using this
/-- The word at an address, when it was read and now, leads to the same. -/
theorem drf_later {xs ys : List Cel} (h : Ext xs ys) (g : Good ys) (hO : OkS ys) {a : Nat} (ha : a < xs.length) (h3 : kndA ys a ≠ 3) : drf ys (xs.getD a Cel.none) = drf ys (ys.getD a Cel.none) := by
  have hal : a < ys.length := by rw [h.1]; exact ha
  rcases h.2 a ha with e | e
  · rw [e]
  · rw [e]
    have hw : WdC ys (0, (a : Int), []) := ⟨.inl rfl, fun _ => ⟨by simp, by simpa using hal, by simpa using h3⟩, fun h => by simp at h⟩
    cases hv : varB ys (a : Int)
    · have ho : onB ys (0, (a : Int), []) = true := by simp [onB, hv]
      rw [drf_step g hw ho]
      simp
    · obtain ⟨_, _, v3, v4⟩ := varB_at hv
      simp only [Int.toNat_natCast] at v3 v4
      have ho : onB ys (0, (a : Int), []) = false := by simp [onB, hv]
      have ho2 : onB ys (ys.getD a Cel.none) = false := by
        have e0 : (ys.getD a Cel.none).2.1 = (a : Int) := v4
        unfold onB; rw [e0, hv]; simp
      rw [drf_stop ho, drf_stop ho2]
      have ht := (hO a hal).1
      have e0 : (ys.getD a Cel.none).1 = 0 := v3
      have e1 : (ys.getD a Cel.none).2.1 = (a : Int) := v4
      rw [e0] at ht
      simp [okW, cellB] at ht
      have e2 : (ys.getD a Cel.none).2.2 = [] := ht.2.2
      generalize ys.getD a Cel.none = q at e0 e1 e2
      obtain ⟨q0, q1, q2⟩ := q
      simp only at e0 e1 e2
      rw [e0, e1, e2]
/-- A cell bound: what holds of the store behind it. -/
theorem set_fit {st : USt} (hf : Fit st) {a : Nat} {c : Cel} {z : Int} (ht : ¬ 20000 ≤ st.2.length) (ha : varB st.1 a = true) (hc : WOk st.1 c) (ho : onB st.1 c = false) (hne : ¬ (c.1 = 0 ∧ c.2.1 = a)) (hr : c.1 = 4 → ¬ Rch st.1 a c) :
    Fit (st.1.set a c, st.2 ++ [z]) ∧ Ext st.1 (st.1.set a c) ∧ ∀ d, WOk st.1 d → WOk (st.1.set a c) d := by
  obtain ⟨_, h1, h2, h3⟩ := varB_at ha
  simp only [Int.toNat_natCast] at h2 h3
  have hal : a < st.1.length := by omega
  refine ⟨⟨set_good hf.1 ha hc.1 ho hne hr, fun i hi => ?_, by simp; omega⟩, ⟨by simp, fun i hi => ?_⟩, fun d hd => ⟨WdC.set ha hc.1 hd.1, hd.2⟩⟩
  · show okW ((st.1.set a c).getD i Cel.none).1 ((st.1.set a c).getD i Cel.none).2.1 ((st.1.set a c).getD i Cel.none).2.2.length = true ∧ Byte ((st.1.set a c).getD i Cel.none).2.2
    rw [celSet_at hal]
    have hi' : i < st.1.length := by simpa using hi
    by_cases e : i = a
    · rw [if_pos e]; exact hc.2
    · rw [if_neg e]; exact hf.2.1 i hi'
  · rw [celSet_at hal]
    by_cases e : i = a
    · right
      subst e
      have ht := (hf.2.1 i hi).1
      have e0 : (st.1.getD i Cel.none).1 = 0 := h2
      have e1 : (st.1.getD i Cel.none).2.1 = (i : Int) := h3
      rw [e0] at ht
      simp [okW, cellB] at ht
      have e2 : (st.1.getD i Cel.none).2.2 = [] := ht.2.2
      generalize st.1.getD i Cel.none = q at e0 e1 e2
      obtain ⟨q0, q1, q2⟩ := q
      simp only at e0 e1 e2
      rw [e0, e1, e2]
    · left; rw [if_neg e]
/-- Binding keeps what has to hold. -/
theorem bndU_fit {st : USt} (hf : Fit st) {a : Nat} {c : Cel} (ha : varB st.1 a = true) (hc : WOk st.1 c) (ho : onB st.1 c = false) (hne : ¬ (c.1 = 0 ∧ c.2.1 = a)) :
    Fit (bndU st a c).1 ∧ Ext st.1 (bndU st a c).1.1 ∧ ∀ d, WOk st.1 d → WOk (bndU st a c).1.1 d := by
  have hsame : Fit st ∧ Ext st.1 st.1 ∧ ∀ d, WOk st.1 d → WOk st.1 d := ⟨hf, Ext.refl _, fun d h => h⟩
  have key : (bndT st.1 st.2 a c).2 = 0 → Fit (bndT st.1 st.2 a c).1 ∧ Ext st.1 (bndT st.1 st.2 a c).1.1 ∧ ∀ d, WOk st.1 d → WOk (bndT st.1 st.2 a c).1.1 d := by
    unfold bndT
    by_cases h1 : c.1 = 4 ∧ Rch st.1 a c
    · rw [if_pos h1]; intro h; exact absurd h (by decide)
    · rw [if_neg h1]
      by_cases h2 : 20000 ≤ st.2.length
      · rw [if_pos h2]; intro h; exact absurd h (by decide)
      · rw [if_neg h2]
        by_cases h3 : c.1 = 0 ∧ (a : Int) < c.2.1
        · rw [if_pos h3]
          intro _
          have hv := follow_ref h3.1 ho
          obtain ⟨v1, v2, v3, v4⟩ := varB_at hv
          obtain ⟨a1, a2, a3, a4⟩ := varB_at ha
          simp only [Int.toNat_natCast] at a3
          have hv' : varB st.1 (c.2.1.toNat : Nat) = true := by rw [show ((c.2.1.toNat : Nat) : Int) = c.2.1 by omega]; exact hv
          have hwa : WOk st.1 (0, (a : Int), []) := ⟨⟨.inl rfl, fun _ => ⟨a1, a2, by simp only [Int.toNat_natCast]; omega⟩, fun h => by simp at h⟩, by have := hf.1.shp.len; simp [okW, cellB]; omega, fun x hx => by cases hx⟩
          exact set_fit hf h2 hv' hwa (by simp [onB, ha]) (fun h => by have := h.2; simp only at this; omega) (fun h => by simp at h)
        · rw [if_neg h3]
          intro _
          exact set_fit hf h2 ha hc ho hne (fun h4 hr => h1 ⟨h4, hr⟩)
  unfold bndU
  by_cases h : (bndT st.1 st.2 a c).2 = 0
  · rw [if_pos h]; exact key h
  · rw [if_neg h]; exact hsame
/-- A step keeps what has to hold; the new pairs are words. -/
theorem uStep_fit {st : USt} (hf : Fit st) {x y : Cel} (hx : WOk st.1 x) (hy : WOk st.1 y) (hox : onB st.1 x = false) (hoy : onB st.1 y = false) :
    Fit (uStep st x y).1.1 ∧ Ext st.1 (uStep st x y).1.1.1 ∧ (∀ d, WOk st.1 d → WOk (uStep st x y).1.1.1 d) ∧ ∀ p ∈ (uStep st x y).2, WOk st.1 p.1 ∧ WOk st.1 p.2 := by
  have hsame : Fit st ∧ Ext st.1 st.1 ∧ ∀ d, WOk st.1 d → WOk st.1 d := ⟨hf, Ext.refl _, fun d h => h⟩
  have hno : ∀ p ∈ ([] : List (Cel × Cel)), WOk st.1 p.1 ∧ WOk st.1 p.2 := fun p h => by cases h
  unfold uStep
  by_cases h0 : x.1 = 0
  · rw [if_pos h0]
    have hv := follow_ref h0 hox
    obtain ⟨v1, v2, _, _⟩ := varB_at hv
    have hv' : varB st.1 (x.2.1.toNat : Nat) = true := by rw [show ((x.2.1.toNat : Nat) : Int) = x.2.1 by omega]; exact hv
    by_cases h1 : y.1 = 0 ∧ y.2.1 = x.2.1
    · rw [if_pos h1]; exact ⟨hsame.1, hsame.2.1, hsame.2.2, hno⟩
    · rw [if_neg h1]
      obtain ⟨b1, b2, b3⟩ := bndU_fit hf hv' hy hoy (fun h => h1 ⟨h.1, by omega⟩)
      exact ⟨b1, b2, b3, hno⟩
  · rw [if_neg h0]
    by_cases h1 : y.1 = 0
    · rw [if_pos h1]
      have hv := follow_ref h1 hoy
      obtain ⟨v1, v2, _, _⟩ := varB_at hv
      have hv' : varB st.1 (y.2.1.toNat : Nat) = true := by rw [show ((y.2.1.toNat : Nat) : Int) = y.2.1 by omega]; exact hv
      obtain ⟨b1, b2, b3⟩ := bndU_fit hf hv' hx hox (fun h => h0 h.1)
      exact ⟨b1, b2, b3, hno⟩
    · rw [if_neg h1]
      by_cases h2 : x.1 = 4 ∧ y.1 = 4
      · rw [if_pos h2]
        by_cases h3 : sameF st.1 x.2.1.toNat y.2.1.toNat
        · rw [if_pos h3]
          refine ⟨hsame.1, hsame.2.1, hsame.2.2, fun p hp => ?_⟩
          simp only [pairsL, List.mem_map, List.mem_range] at hp
          obtain ⟨i, hi, rfl⟩ := hp
          obtain ⟨s0, s1, s2⟩ := hx.1.2.2 h2.1
          obtain ⟨t0, t1, t2⟩ := hy.1.2.2 h2.2
          have fs := hf.1.shp.funs x.2.1.toNat (by omega) s2
          have ft := hf.1.shp.funs y.2.1.toNat (by omega) t2
          have hsf := h3.1
          obtain ⟨a1, a2⟩ := fs.2.2 (i + 1) (by omega) (by omega)
          obtain ⟨b1, b2⟩ := ft.2.2 (i + 1) (by omega) (by omega)
          exact ⟨wok_at hf.1 hf.2.1 a1 a2, wok_at hf.1 hf.2.1 b1 b2⟩
        · rw [if_neg h3]; exact ⟨hsame.1, hsame.2.1, hsame.2.2, hno⟩
      · rw [if_neg h2]
        by_cases h3 : x = y
        · rw [if_pos h3]; exact ⟨hsame.1, hsame.2.1, hsame.2.2, hno⟩
        · rw [if_neg h3]; exact ⟨hsame.1, hsame.2.1, hsame.2.2, hno⟩
/-- The same of a run. -/
theorem uRun_fit : ∀ (n : Nat) (ps : List (Cel × Cel)) (st : USt), Fit st → (∀ p ∈ ps, WOk st.1 p.1 ∧ WOk st.1 p.2) → Fit (uRun n ps st).1 ∧ Ext st.1 (uRun n ps st).1.1 ∧ ∀ d, WOk st.1 d → WOk (uRun n ps st).1.1 d := by
  intro n
  induction n with
  | zero =>
    intro ps st hf _
    cases ps with
    | nil => exact ⟨hf, Ext.refl _, fun d h => h⟩
    | cons p r => exact ⟨hf, Ext.refl _, fun d h => h⟩
  | succ n ih =>
    intro ps st hf hp
    cases ps with
    | nil => rw [uRun_nil]; exact ⟨hf, Ext.refl _, fun d h => h⟩
    | cons p r =>
      obtain ⟨hp1, hp2⟩ := hp p (by simp)
      obtain ⟨hx, hox⟩ := wok_drf hf.1 hf.2.1 hp1
      obtain ⟨hy, hoy⟩ := wok_drf hf.1 hf.2.1 hp2
      obtain ⟨s1, s2, s3, s4⟩ := uStep_fit hf hx hy hox hoy
      by_cases h : (uStep st (drf st.1 p.1) (drf st.1 p.2)).1.2 = 0
      · rw [uRun_ok _ _ _ _ h]
        obtain ⟨r1, r2, r3⟩ := ih _ _ s1 (fun q hq => by
          rcases List.mem_append.1 hq with hq | hq
          · exact ⟨s3 _ (s4 q hq).1, s3 _ (s4 q hq).2⟩
          · have := hp q (List.mem_cons_of_mem _ hq); exact ⟨s3 _ this.1, s3 _ this.2⟩)
        exact ⟨r1, s2.trans r2, fun d hd => r3 d (s3 d hd)⟩
      · rw [uRun_bad _ _ _ _ h]; exact ⟨s1, s2, s3⟩

theorem us_same {st : USt} {x y : Cel} (h0 : x.1 = 0) (h1 : y.1 = 0 ∧ y.2.1 = x.2.1) : uStep st x y = ((st, 0), []) := by unfold uStep; rw [if_pos h0, if_pos h1]
theorem us_bx {st : USt} {x y : Cel} (h0 : x.1 = 0) (h1 : ¬ (y.1 = 0 ∧ y.2.1 = x.2.1)) : uStep st x y = (bndU st x.2.1.toNat y, []) := by unfold uStep; rw [if_pos h0, if_neg h1]
theorem us_by {st : USt} {x y : Cel} (h0 : x.1 ≠ 0) (h1 : y.1 = 0) : uStep st x y = (bndU st y.2.1.toNat x, []) := by unfold uStep; rw [if_neg h0, if_pos h1]
theorem us_no {st : USt} {x y : Cel} (h0 : x.1 ≠ 0) (h1 : y.1 ≠ 0) (h2 : ¬ (x.1 = 4 ∧ y.1 = 4)) (h3 : x ≠ y) : uStep st x y = ((st, 4), []) := by unfold uStep; rw [if_neg h0, if_neg h1, if_neg h2, if_neg h3]
theorem us_eq {st : USt} {x y : Cel} (h0 : x.1 ≠ 0) (h1 : y.1 ≠ 0) (h2 : ¬ (x.1 = 4 ∧ y.1 = 4)) (h3 : x = y) : uStep st x y = ((st, 0), []) := by unfold uStep; rw [if_neg h0, if_neg h1, if_neg h2, if_pos h3]
theorem us_nf {st : USt} {x y : Cel} (h0 : x.1 = 4) (h1 : y.1 = 4) (h3 : ¬ sameF st.1 x.2.1.toNat y.2.1.toNat) : uStep st x y = ((st, 4), []) := by unfold uStep; rw [if_neg (by omega), if_neg (by omega), if_pos ⟨h0, h1⟩, if_neg h3]
theorem us_op {st : USt} {x y : Cel} (h0 : x.1 = 4) (h1 : y.1 = 4) (h3 : sameF st.1 x.2.1.toNat y.2.1.toNat) : uStep st x y = ((st, 0), pairsL st.1 x.2.1.toNat y.2.1.toNat (numA st.1 x.2.1.toNat).toNat) := by unfold uStep; rw [if_neg (by omega), if_neg (by omega), if_pos ⟨h0, h1⟩, if_pos h3]

end Go.Proofs.Ytfnmoaiejpkocaa

namespace Go.Proofs.Ytfnmoaiejpkocaa
open Go Go.RowKit Go.Maps
set_option linter.unusedVariables false

/-- Boxes of cells stay, but for the heap's own row; and this is where it was. -/
def FrM (h : Nat) (w w' : World) : Prop := w'.cell? ⟨h, 0, none⟩ = w.cell? ⟨h, 0, none⟩ ∧ w.heap.size ≤ w'.heap.size ∧ ∀ k cs, w.heap[k]? = some (.cells cs 31) → (∀ gg n c, w.cell? ⟨h, 0, none⟩ = some (.slice (some ⟨gg, 0, none⟩) n c) → k ≠ gg) → w'.heap[k]? = w.heap[k]?
theorem FrM.trans {h : Nat} {w w1 w2 : World} (a : FrM h w w1) (b : FrM h w1 w2) : FrM h w w2 := ⟨b.1.trans a.1, Nat.le_trans a.2.1 b.2.1, fun k cs hk hg => by
  have e := a.2.2 k cs hk hg
  exact (b.2.2 k cs (e.trans hk) (fun gg n c hc => hg gg n c (a.1.symm.trans hc))).trans e⟩
theorem FrM.of_below {h : Nat} {w w' : World} (hb : Below w.heap.size w w') (hh : h < w.heap.size := by omega) : FrM h w w' := ⟨hb.cell (p := ⟨h, 0, none⟩) hh, hb.size, fun k cs hk _ => hb.block k (Array.getElem?_eq_some_iff.1 hk).1⟩
theorem SHp.lt {V w : World} {h : Nat} {xs : List Cel} {tr : List Int} {k : Int} (H : SHp V w h xs tr k) : h < w.heap.size := by
  obtain ⟨_, _, _, _, h0, _⟩ := H
  exact (Array.getElem?_eq_some_iff.1 h0).1
theorem set_frame {w W0 w9 : World} {h gg B n cc m ct : Nat} {pt : Option Addr} {vs : List Value} {kk : Int} (hB0 : Below w.heap.size w W0) (hw : w.heap[h]? = some (.cells #[.slice (some ⟨gg, 0, none⟩) n cc, .slice pt m ct, .int .i64 kk] 118)) (hh : W0.heap[h]? = some (.cells #[.slice (some ⟨gg, 0, none⟩) n cc, .slice pt m ct, .int .i64 kk] 118)) (hint : W0.ownsRow B 3 1 (.slice pt m ct) m vs) (hgh : gg ≠ h) (o1 o2 o3 : Nat) (v1 v2 v3 : Value) (o : Obj)
    (hg : ((((W0.drew.setCell ⟨gg, o1, none⟩ v1).setCell ⟨gg, o2, none⟩ v2).setCell ⟨gg, o3, none⟩ v3).alloc o).grownBy w9 (Value.ownBlock (.slice pt m ct))) (v : Value) : FrM h w (w9.setCell ⟨h, 1, none⟩ v) := by
  have hlh : h < w.heap.size := (Array.getElem?_eq_some_iff.1 hw).1
  have hsz : W0.heap.size < ((((W0.drew.setCell ⟨gg, o1, none⟩ v1).setCell ⟨gg, o2, none⟩ v2).setCell ⟨gg, o3, none⟩ v3).alloc o).heap.size := by simp
  have hs0 := hB0.size
  have hs9 := hg.size
  have h0 : w.cell? ⟨h, 0, none⟩ = some (.slice (some ⟨gg, 0, none⟩) n cc) := by simp [World.cell?, hw]
  have hblk : ∀ k, k < W0.heap.size → k ≠ gg → Value.ownBlock (.slice pt m ct) ≠ some k → w9.heap[k]? = W0.heap[k]? := fun k hk hkg hne => by
    rw [hg.block k (by omega) (fun e => hne e.symm), Below.heap_alloc _ _ _ (by simpa using hk), heap_setCell_other _ _ _ _ (by simp; exact hkg), heap_setCell_other _ _ _ _ (by simp; exact hkg), heap_setCell_other _ _ _ _ (by simp; exact hkg)]
    rfl
  refine ⟨?_, by simp; omega, fun k cs hk hgg => ?_⟩
  · rw [World.cell?_setCell_other _ _ _ _ (by simp)]
    have e := hblk h (by omega) (fun e => hgh e.symm) (row_ne2 hint hh (by decide))
    rw [World.cell?_of_block (a := ⟨h, 0, none⟩) e]
    exact hB0.cell (p := ⟨h, 0, none⟩) hlh
  · have hkl : k < w.heap.size := (Array.getElem?_eq_some_iff.1 hk).1
    have hk0 := (hB0.block k hkl).trans hk
    have hkh : k ≠ h := fun e => by
      rw [e, hw] at hk
      simp only [Option.some.injEq, Obj.cells.injEq] at hk
      exact absurd hk.2.1 (by decide)
    rw [heap_setCell_other _ _ _ _ (by simp; exact hkh), hblk k (by omega) (hgg gg _ _ h0) (row_ne2 hint hk0 (by decide))]
    exact hB0.block k hkl

/-- What l10bind answers, and what it leaves. -/
def BOutF (V w : World) (h : Nat) (A : USt × Int) (kk : Int) (e : Ending) (w' : World) : Prop := e = .returned (.int .i64 A.2) ∧ SHp V w' h A.1.1 A.1.2 kk ∧ FrM h w w'
theorem bndU_cyc {xs : List Cel} {tr : List Int} {a : Nat} {c : Cel} (h4 : c.1 = 4) (hr : Rch xs a c) : bndU (xs, tr) a c = ((xs, tr), 5) := by unfold bndU; rw [bndT_cyc h4 hr, if_neg (by simp)]
theorem bndU_full {xs : List Cel} {tr : List Int} {a : Nat} {c : Cel} (h : ¬ (c.1 = 4 ∧ Rch xs a c)) (ht : 20000 ≤ tr.length) : bndU (xs, tr) a c = ((xs, tr), 10) := by unfold bndU; rw [bndT_full h ht, if_neg (by simp)]
theorem bndU_ref {xs : List Cel} {tr : List Int} {a : Nat} {c : Cel} (h0 : c.1 = 0) (ht : ¬ 20000 ≤ tr.length) (j : Nat) (hj : c.2.1 = j) (hlt : a < j) : bndU (xs, tr) a c = ((xs.set j (0, (a : Int), []), tr ++ [(j : Int)]), 0) := by unfold bndU; rw [bndT_ref h0 ht j hj hlt, if_pos rfl]
theorem bndU_set {xs : List Cel} {tr : List Int} {a : Nat} {c : Cel} (h : ¬ (c.1 = 4 ∧ Rch xs a c)) (ht : ¬ 20000 ≤ tr.length) (hn : ¬ (c.1 = 0 ∧ (a : Int) < c.2.1)) : bndU (xs, tr) a c = ((xs.set a c, tr ++ [(a : Int)]), 0) := by unfold bndU; rw [bndT_set h ht hn, if_pos rfl]

set_option maxHeartbeats 1000000 in
set_option maxRecDepth 100000 in
theorem l10setF_any (V : World) (h : Nat) (a : Nat) (p : Option Addr) (cp : Nat) (c : Cel) (xs : List Cel) (tr : List Int) (kk : Int) (w : World) (hl : xs.length ≤ 20000) (ht : tr.length ≤ 20000) (ha : a < xs.length) (hp : BIn V p c.2.2) (H : SHp V w h xs tr kk) :
    Calls Try.prog 87 #[.pointer (some ⟨h, 0, none⟩), .int .i64 a, .agg #[.int .i64 c.1, .int .i64 c.2.1, .slice p c.2.2.length cp]] w fun e w' => if 20000 ≤ tr.length then e = .returned (.int .i64 10) ∧ Below w.heap.size w w' else e = .returned (.int .i64 0) ∧ SHp V w' h (xs.set a c) (tr ++ [(a : Int)]) kk ∧ FrM h w w' := by
  obtain ⟨W0, eW0⟩ : ∃ W, W = w.alloc (.cells #[.int .i64 c.1, .int .i64 c.2.1, .slice p c.2.2.length cp] 31) := ⟨_, rfl⟩
  have hB0 : Below w.heap.size w W0 := by rw [eW0]; exact alloc_on _ _
  have HB : Hid (Box3 W0 w.heap.size (.int .i64 c.1) (.int .i64 c.2.1) (.slice p c.2.2.length cp)) := by show Box3 _ _ _ _ _; rw [eW0]; exact Box3.of_block (t := 31) (heap_alloc_new _ _)
  obtain ⟨pc, cc, pt, ct, hh', hrow', hint', hV, hB'⟩ := id H
  have hh := (hB0.block h (Array.getElem?_eq_some_iff.1 hh').1).trans hh'
  have hrow := hrow'.below hB0
  have hint := hint'.below hB0
  have hB := Below.on hB' hB0
  have HRB : Hid (∀ gg : Nat, pc = some ⟨gg, 0, none⟩ → gg < w.heap.size) := fun gg e => by
    obtain ⟨_, rs, _, hr, _⟩ := hrow'
    exact (hr.lt gg (by rw [e]; rfl)).2
  have HHW : Hid (w.heap[h]? = some (.cells #[.slice pc xs.length cc, .slice pt tr.length ct, .int .i64 kk] 118)) := hh'
  clear hh' hrow' hint' hB'
  have c1 : W0.cell? ⟨h, 1, none⟩ = some (.slice pt tr.length ct) := by simp [World.cell?, hh]
  have c0 : W0.cell? ⟨h, 0, none⟩ = some (.slice pc xs.length cc) := by simp [World.cell?, hh]
  have HE0 : Hid _ := eW0
  obtain ⟨b0, b1, b2, b3⟩ := HB.out
  by_cases hfull : 20000 ≤ tr.length
  · simp only [if_pos hfull]
    have hge : (20000 : Int) ≤ tr.length := by omega
    have HZ : Hid (Below w.heap.size w W0) := hB0
    rw [eW0] at c1
    clear hh hrow hint hV hB H c0 hp hfull eW0 b0 b1 b2 b3
    go_enter Try.func87, Try.ntmps87
    go_wp2_with fail
    rw [← HE0.out]
    go_ret
    exact ⟨rfl, HZ.out⟩
  · simp only [if_neg hfull]
    have hge : ¬ (20000 : Int) ≤ tr.length := by omega
    obtain ⟨gg, qx, cx, rfl, hg1, hg2, d0, d1, d2, hbx⟩ := hrow.at a ha
    clear hfull
    generalize (xs.getD a Cel.none).1 = y0 at d0
    generalize (xs.getD a Cel.none).2.1 = y1 at d1
    generalize (xs.getD a Cel.none).2.2.length = y2 at d2
    have hbd : Below W0.heap.size W0 W0.drew := (Below.refl _ _).drew
    have hhD := (hbd.block h (Array.getElem?_eq_some_iff.1 hh).1).trans hh
    have HH : Hid _ := SHp.setC hhD (hrow.below hbd) (hint.below hbd) hV (Below.on hB hbd) ha c p cp hp
    have hf : ∀ i, W0.frozen? ⟨gg, i, none⟩ = false := fun i => by obtain ⟨_, rs, _, hr, _⟩ := hrow; exact hr.frozenAt i
    have hgw : gg < W0.heap.size := by obtain ⟨_, rs, _, hr, _⟩ := hrow; exact (hr.lt gg rfl).2
    have hgh : gg ≠ h := fun e => by
      obtain ⟨_, rs, _, hr, _⟩ := hrow
      obtain ⟨cur, hg⟩ := ownsRow_block hr (g := gg) rfl
      rw [e, hh] at hg
      simp only [Option.some.injEq, Obj.cells.injEq] at hg
      exact absurd hg.2.1 (by decide)
    have hgb : gg ≠ w.heap.size := by have := HRB.out gg rfl; omega
    have HFR : Hid (∀ w9 v, ((((W0.drew.setCell ⟨gg, a * 3, none⟩ (.int .i64 c.1)).setCell ⟨gg, a * 3 + 1, none⟩ (.int .i64 c.2.1)).setCell ⟨gg, a * 3 + 2, none⟩ (.slice p c.2.2.length cp)).alloc (.cells #[.int .i64 (a : Int)] 3)).grownBy w9 (Value.ownBlock (.slice pt tr.length ct)) → FrM h w (w9.setCell ⟨h, 1, none⟩ v)) := fun w9 v hg9 => set_frame hB0 (HHW.out) hh hint.2 hgh _ _ _ _ _ _ _ hg9 v
    clear hh hrow hint hV hB H hp hbx eW0 hhD
    have c1' := c1
    rw [HE0.out] at c1
    go_enter Try.func87, Try.ntmps87
    go_wp2_with fail
    rw [← HE0.out]
    clear c1
    refine wp_region_held_drew (S := fun W => W.cell? ⟨h, 0, none⟩ = some (.slice (some ⟨gg, 0, none⟩) xs.length cc) ∧ W.cell? ⟨w.heap.size, 0, none⟩ = some (.int .i64 c.1) ∧ W.cell? ⟨w.heap.size, 1, none⟩ = some (.int .i64 c.2.1) ∧ W.cell? ⟨w.heap.size, 2, none⟩ = some (.slice p c.2.2.length cp)) (by kernel_rfl) ⟨c0, b0, b1, b2⟩ (fun hHeld => ?_)
    refine hTake (i := 0) (v := .pointer (some ⟨h, 0, none⟩)) (some 13) (by kernel_rfl) (by kernel_rfl) (by kernel_rfl) (by kernel_rfl) (by kernel_rfl) (fun _ _ _ h => h) (fun o ho W hSw => ?y0) (by assumption) ?_
    case y0 =>
      cases ho
      simp [execOp, go_sem, Act.eval]
    simp only [Act.put, List.setIfInBounds_toArray, List.set_cons_zero, List.set_cons_succ]
    refine hTake (i := 1) (v := .pointer (some ⟨h, 0, none⟩)) (some 14) (by kernel_rfl) (by kernel_rfl) (by kernel_rfl) (by kernel_rfl) (by kernel_rfl) (fun _ _ _ h => h) (fun o ho W hSw => ?y1) (by assumption) ?_
    case y1 =>
      cases ho
      simp [execOp, go_sem, Act.eval]
    simp only [Act.put, List.setIfInBounds_toArray, List.set_cons_zero, List.set_cons_succ]
    refine hTake (i := 2) (v := .pointer (some ⟨h, 0, none⟩)) (some 15) (by kernel_rfl) (by kernel_rfl) (by kernel_rfl) (by kernel_rfl) (by kernel_rfl) (fun _ _ _ h => h) (fun o ho W hSw => ?y2) (by assumption) ?_
    case y2 =>
      cases ho
      simp [execOp, go_sem, Act.eval]
    simp only [Act.put, List.setIfInBounds_toArray, List.set_cons_zero, List.set_cons_succ]
    refine hTake (i := 3) (v := .slice (some ⟨gg, 0, none⟩) xs.length cc) (some 16) (by kernel_rfl) (by kernel_rfl) (by kernel_rfl) (by kernel_rfl) (by kernel_rfl) (fun _ _ _ h => h) (fun o ho W hSw => ?y3) (by assumption) ?_
    case y3 =>
      cases ho
      simp [execOp, go_sem, Act.eval, hSw]
    simp only [Act.put, List.setIfInBounds_toArray, List.set_cons_zero, List.set_cons_succ]
    refine hTake (i := 4) (v := .int .i64 a) (some 17) (by kernel_rfl) (by kernel_rfl) (by kernel_rfl) (by kernel_rfl) (by kernel_rfl) (fun _ _ _ h => h) (fun o ho W hSw => ?y4) (by assumption) ?_
    case y4 =>
      cases ho
      simp [execOp, go_sem, Act.eval]
    simp only [Act.put, List.setIfInBounds_toArray, List.set_cons_zero, List.set_cons_succ]
    refine hTake (i := 5) (v := .agg #[.int .i64 c.1, .int .i64 c.2.1, .slice p c.2.2.length cp]) (some 18) (by kernel_rfl) (by kernel_rfl) (by kernel_rfl) (by kernel_rfl) (by kernel_rfl) (fun _ _ _ h => h) (fun o ho W hSw => ?y5) (by assumption) ?_
    case y5 =>
      cases ho
      simp [execOp, go_sem, Act.eval, hSw]
    simp only [Act.put, List.setIfInBounds_toArray, List.set_cons_zero, List.set_cons_succ]
    refine hTake (i := 6) (v := .pointer (some ⟨gg, a * 3, none⟩)) (some 19) (by kernel_rfl) (by kernel_rfl) (by kernel_rfl) (by kernel_rfl) (by kernel_rfl) (fun _ _ _ h => h) (fun o ho W hSw => ?y6) (by assumption) ?_
    case y6 =>
      cases ho
      simp [execOp, go_sem, Act.eval, ha]
    simp only [Act.put, List.setIfInBounds_toArray, List.set_cons_zero, List.set_cons_succ]
    have hS9 : (fun W => W.cell? ⟨h, 0, none⟩ = some (.slice (some ⟨gg, 0, none⟩) xs.length cc) ∧ W.cell? ⟨w.heap.size, 0, none⟩ = some (.int .i64 c.1) ∧ W.cell? ⟨w.heap.size, 1, none⟩ = some (.int .i64 c.2.1) ∧ W.cell? ⟨w.heap.size, 2, none⟩ = some (.slice p c.2.2.length cp)) (((W0.drew.setCell ⟨gg, a * 3, none⟩ (.int .i64 c.1)).setCell ⟨gg, a * 3 + 1, none⟩ (.int .i64 c.2.1)).setCell ⟨gg, a * 3 + 2, none⟩ (.slice p c.2.2.length cp)) := ⟨(far3 hgh).trans c0, (far3 hgb).trans b0, (far3 hgb).trans b1, (far3 hgb).trans b2⟩
    refine hStore (i := 7) (w' := (((W0.drew.setCell ⟨gg, a * 3, none⟩ (.int .i64 c.1)).setCell ⟨gg, a * 3 + 1, none⟩ (.int .i64 c.2.1)).setCell ⟨gg, a * 3 + 2, none⟩ (.slice p c.2.2.length cp))) (by kernel_rfl) (by kernel_rfl) (by kernel_rfl) (fun o ho => ?y7) hS9 ?_
    case y7 =>
      cases ho
      simp [execOp, go_sem, Act.eval, d0, d1, d2, hf]
    have c1W : (((W0.drew.setCell ⟨gg, a * 3, none⟩ (.int .i64 c.1)).setCell ⟨gg, a * 3 + 1, none⟩ (.int .i64 c.2.1)).setCell ⟨gg, a * 3 + 2, none⟩ (.slice p c.2.2.length cp)).cell? ⟨h, 1, none⟩ = some (.slice pt tr.length ct) := (far3 hgh).trans c1'
    clear hS9 hHeld c0 b0 b1 b2 b3 d0 d1 d2 hf c1' HB hbd HE0 HRB hgw
    generalize (((W0.drew.setCell ⟨gg, a * 3, none⟩ (.int .i64 c.1)).setCell ⟨gg, a * 3 + 1, none⟩ (.int .i64 c.2.1)).setCell ⟨gg, a * 3 + 2, none⟩ (.slice p c.2.2.length cp)) = W2 at HH HFR c1W ⊢
    refine wpAnyH_done (by kernel_rfl) ?_ _
    change Exit.then _ _ _ _ _
    have H3 := HH.out.1.below (alloc_on W2 (.cells #[.int .i64 (a : Int)] 3))
    have hn3 : (W2.alloc (.cells #[.int .i64 (a : Int)] 3)).cell? ⟨W2.heap.size, 0, none⟩ = some (.int .i64 (a : Int)) := by
      unfold World.cell?
      rw [heap_alloc_new W2 (.cells #[.int .i64 (a : Int)] 3)]
      rfl
    have c13 : (W2.alloc (.cells #[.int .i64 (a : Int)] 3)).cell? ⟨h, 1, none⟩ = some (.slice pt tr.length ct) := ((alloc_on W2 _).cell (World.block_lt_of_cell? _ _ c1W)).trans c1W
    obtain ⟨pc3, cc3, pt3, ct3, hh3, hrow3, hint3, hV3, hB3⟩ := id H3
    have e3 : (W2.alloc (.cells #[.int .i64 (a : Int)] 3)).cell? ⟨h, 1, none⟩ = some (.slice pt3 tr.length ct3) := by simp [World.cell?, hh3]
    rw [c13] at e3
    simp only [Option.some.injEq, Value.slice.injEq, true_and] at e3
    obtain ⟨rfl, rfl⟩ := e3
    obtain ⟨g9, cap9, w9, hr9, ho9, hg9⟩ := app_intM (W2.alloc (.cells #[.int .i64 (a : Int)] 3)) 23 V.heap.size pt ct W2.heap.size tr (a : Int) ht hB3.size hint3 hn3
    have HF : Hid _ := H3.pushed c13 hg9 ho9
    have HFF : Hid _ := HFR.out w9 (.slice (some ⟨g9, 0, none⟩) (tr.length + 1) cap9) hg9
    have b9 := (hg9.block h (Array.getElem?_eq_some_iff.1 hh3).1 (fun e => row_ne2 hint3.2 hh3 (by decide) e.symm)).trans hh3
    have k9 : w9.cell? ⟨h, 1, none⟩ = some (.slice pt tr.length ct) := by simp [World.cell?, b9]
    have f9 : w9.frozen? ⟨h, 1, none⟩ = false := frozen_of_row _ _ _ _ _ b9
    clear hh3 hrow3 hint3 hV3 hB3 H3 hn3 c13 ho9 hg9 b9 HH
    go_wp2_with (at_builtin; refine wpList_app_run rfl _ _ _ _ rfl _ _ _ _ _ rfl rfl hr9 ?_)
    go_ret
    exact ⟨rfl, HF.out, HFF.out⟩

set_option maxHeartbeats 1000000 in
set_option maxRecDepth 100000 in
theorem l10bindF_any (V : World) (h a : Nat) (p : Option Addr) (cp : Nat) (c : Cel) (xs : List Cel) (tr : List Int) (kk : Int) (w : World) (g : Good xs) (ha : varB xs a = true) (hc : WdC xs c) (ht : tr.length ≤ 20000) (hp : BIn V p c.2.2) (H : SHp V w h xs tr kk) :
    Calls Try.prog 63 #[.pointer (some ⟨h, 0, none⟩), .int .i64 (a : Int), .agg #[.int .i64 c.1, .int .i64 c.2.1, .slice p c.2.2.length cp]] w (BOutF V w h (bndU (xs, tr) a c) kk) := by
  have hlh := H.lt
  have hl := g.shp.len
  have hal : a < xs.length := by have := varB_at ha; omega
  have hVw : Below V.heap.size V w := by obtain ⟨_, _, _, _, _, _, _, _, h4⟩ := H; exact h4
  -- putting: in every world behind w
  have HSET : Hid (∀ W i q cq (y : Cel) (Ax : (List Cel × List Int) × Int), Below w.heap.size w W → i < xs.length → BIn V q y.2.2 → (20000 ≤ tr.length → Ax = ((xs, tr), 10)) → (¬ 20000 ≤ tr.length → Ax = ((xs.set i y, tr ++ [(i : Int)]), 0)) → Calls Try.prog 87 #[.pointer (some ⟨h, 0, none⟩), .int .i64 (i : Int), .agg #[.int .i64 y.1, .int .i64 y.2.1, .slice q y.2.2.length cq]] W (BOutF V w h Ax kk)) := fun W i q cq y Ax hW hi hq h1 h2 => by
    refine (l10setF_any V h i q cq y xs tr kk W hl ht hi hq (H.below hW)).mono fun e w' hh => ?_
    by_cases hf : 20000 ≤ tr.length
    · rw [if_pos hf] at hh
      rw [h1 hf]
      exact ⟨hh.1, H.below (Below.on hW hh.2), FrM.of_below (Below.on hW hh.2)⟩
    · rw [if_neg hf] at hh
      rw [h2 hf]
      exact ⟨hh.1, hh.2.1, (FrM.of_below hW).trans hh.2.2⟩
  have HWI : Hid (∀ W, Below w.heap.size w W → Calls Try.prog 88 #[.pointer (some ⟨h, 0, none⟩), .int .i64 (a : Int), .agg #[.int .i64 c.1, .int .i64 c.2.1, .slice p c.2.2.length cp]] W fun e w' => ∃ r : Bool, e = .returned (.bool r) ∧ (r = true ↔ Rch xs a c) ∧ Below W.heap.size W w') := fun W hW => l10within_any V h a p cp c xs tr kk W g ha hc hp (H.below hW)
  obtain ⟨W0, eW0⟩ : ∃ W, W = w.alloc (.cells #[.int .i64 c.1, .int .i64 c.2.1, .slice p c.2.2.length cp] 31) := ⟨_, rfl⟩
  have hB0 : Below w.heap.size w W0 := by rw [eW0]; exact alloc_on _ _
  have HB0 : Hid _ := hB0
  have hbk : W0.heap[w.heap.size]? = some (.cells #[.int .i64 c.1, .int .i64 c.2.1, .slice p c.2.2.length cp] 31) := by rw [eW0]; exact heap_alloc_new _ _
  have HX : Hid (∀ W, Below W0.heap.size W0 W → Box3 W w.heap.size (.int .i64 c.1) (.int .i64 c.2.1) (.slice p c.2.2.length cp)) := fun W hW => (Box3.of_block (t := 31) hbk).on hW
  have HE0 : Hid _ := eW0
  have HP : Hid (BIn V p c.2.2) := hp
  have HVW : Hid (Below V.heap.size V W0) := Below.on hVw hB0
  have HHH : Hid (SHp V w h xs tr kk) := H
  obtain ⟨k, n, t⟩ := c
  simp only at HSET HWI HX HE0 eW0 hc
  by_cases q0 : k = 0
  · obtain ⟨n0, n1, _⟩ := hc.2.1 q0
    obtain ⟨j, rfl⟩ : ∃ j : Nat, n = j := ⟨n.toNat, by simp only at n0; omega⟩
    have hj : j < xs.length := by simp only at n1; omega
    have e0 : (k == 0) = true := by simp [q0]
    by_cases q1 : a < j
    · have e1 : (a : Int) < (j : Int) := by omega
      have HF : Hid (∀ W, Below w.heap.size w W → Calls Try.prog 87 #[.pointer (some ⟨h, 0, none⟩), .int .i64 (j : Int), .agg #[.int .i64 0, .int .i64 (a : Int), .slice none 0 0]] W (BOutF V w h (bndU (xs, tr) a (k, (j : Int), t)) kk)) := fun W hW => HSET.out W j none 0 (0, (a : Int), []) _ hW hj (fun h => absurd h (Nat.lt_irrefl 0)) (fun hf => bndU_full (fun hh => by have := hh.1; simp only at this; omega) hf) (fun hf => bndU_ref q0 hf j rfl q1)
      have HLR : Hid (Calls Try.prog 79 #[.int .i64 (a : Int)] (W0.drewN 1) fun e w' => e = .returned (.agg #[.int .i64 0, .int .i64 (a : Int), .slice none 0 0]) ∧ Below W0.heap.size W0 w') := (l10ref_any a (W0.drewN 1)).mono fun e w' ⟨h1, h2⟩ => ⟨h1, (below_drewN (Below.refl _ _) 1).trans h2⟩
      generalize bndU (xs, tr) a (k, (j : Int), t) = AA at HF ⊢
      obtain ⟨b0, b1, b2, b3⟩ := HX.out W0 (Below.refl _ _)
      have b1' := b1
      rw [eW0] at b0 b1 b2 b3
      clear HSET HWI hc H g ha hp hVw hbk q0 q1 n0 n1 hB0 eW0
      go_enter Try.func63, Try.ntmps63
      go_wp2
      rw [← HE0.out]
      go_region_with (first
        | (go_at_call 79; refine Calls.mono HLR.out ?_; rintro e w2 ⟨rfl, hb2⟩; have HB2 : Hid (Below w.heap.size w w2) := Below.on HB0.out hb2; obtain ⟨y0, y1, y2, y3⟩ := HX.out _ hb2; clear hb2)
        | (go_at_call 87; refine Calls.mono (HF.out _ HB2.out) ?_; rintro e w3 ⟨rfl, hs3, hb3⟩; have H3 : Hid _ := hs3; have HB3 : Hid _ := hb3; clear hs3 hb3))
      all_goals
        go_wp2
        go_ret
        exact ⟨rfl, H3.out, HB3.out⟩
    · have e1 : ¬ (a : Int) < (j : Int) := by omega
      have HF : Hid (∀ W, Below w.heap.size w W → Calls Try.prog 87 #[.pointer (some ⟨h, 0, none⟩), .int .i64 (a : Int), .agg #[.int .i64 k, .int .i64 (j : Int), .slice p t.length cp]] W (BOutF V w h (bndU (xs, tr) a (k, (j : Int), t)) kk)) := fun W hW => HSET.out W a p cp (k, (j : Int), t) _ hW hal HP.out (fun hf => bndU_full (fun hh => by have := hh.1; simp only at this; omega) hf) (fun hf => bndU_set (fun hh => by have := hh.1; simp only at this; omega) hf (fun hh => by have := hh.2; simp only at this; omega))
      generalize bndU (xs, tr) a (k, (j : Int), t) = AA at HF ⊢
      obtain ⟨b0, b1, b2, b3⟩ := HX.out W0 (Below.refl _ _)
      rw [eW0] at b0 b1 b2 b3
      clear HSET HWI hc H g ha hp hVw hbk q0 q1 n0 n1 hB0 eW0
      go_enter Try.func63, Try.ntmps63
      go_wp2_with fail
      rw [← HE0.out]
      refine Calls.mono (HF.out _ HB0.out) ?_
      rintro e w3 ⟨rfl, hs3, hb3⟩
      have H3 : Hid _ := hs3
      have HB3 : Hid _ := hb3
      clear hs3 hb3
      go_wp2
      go_ret
      exact ⟨rfl, H3.out, HB3.out⟩
  · have e0 : (k == 0) = false := by simp [q0]
    have HF : Hid (¬ (k = 4 ∧ Rch xs a (k, n, t)) → ∀ W, Below w.heap.size w W → Calls Try.prog 87 #[.pointer (some ⟨h, 0, none⟩), .int .i64 (a : Int), .agg #[.int .i64 k, .int .i64 n, .slice p t.length cp]] W (BOutF V w h (bndU (xs, tr) a (k, n, t)) kk)) := fun hnr W hW => HSET.out W a p cp (k, n, t) _ hW hal HP.out (fun hf => bndU_full hnr hf) (fun hf => bndU_set hnr hf (fun hh => q0 hh.1))
    obtain ⟨b0, b1, b2, b3⟩ := HX.out W0 (Below.refl _ _)
    rw [eW0] at b0 b1 b2 b3
    by_cases q4 : k = 4
    · have e4 : (k == 4) = true := by simp [q4]
      have HCY : Hid (Rch xs a (k, n, t) → bndU (xs, tr) a (k, n, t) = ((xs, tr), 5)) := fun hr => bndU_cyc q4 hr
      have HQ4 : Hid (k = 4) := q4
      generalize bndU (xs, tr) a (k, n, t) = AA at HF HCY ⊢
      clear HSET hc H g ha hp hVw hbk q0 q4 hB0 eW0
      go_enter Try.func63, Try.ntmps63
      go_wp2_with fail
      rw [← HE0.out]
      refine Calls.mono (HWI.out _ HB0.out) ?_
      rintro e w2 ⟨r, rfl, hr, hb2⟩
      have HB2 : Hid (Below W0.heap.size W0 w2) := hb2
      clear b0 b1 b2 b3 HWI
      obtain ⟨b0, b1, b2, b3⟩ := HX.out w2 hb2
      clear hb2
      cases r
      · have HF2 : Hid _ := HF.out (fun hh => by have := hr.2 hh.2; cases this) w2 (Below.on HB0.out HB2.out)
        clear hr HF
        go_wp2_with fail
        refine Calls.mono HF2.out ?_
        rintro e w3 ⟨rfl, hs3, hb3⟩
        have H3 : Hid _ := hs3
        have HB3 : Hid _ := hb3
        clear hs3 hb3
        go_wp2
        go_ret
        exact ⟨rfl, H3.out, HB3.out⟩
      · have HA : Hid (AA = ((xs, tr), 5)) := HCY.out (hr.1 rfl)
        clear hr HF HCY
        go_wp2
        go_ret
        rw [HA.out]
        exact ⟨rfl, HHH.out.below (Below.on HB0.out HB2.out), FrM.of_below (Below.on HB0.out HB2.out)⟩
    · have e4 : (k == 4) = false := by simp [q4]
      have HF2 : Hid _ := HF.out (fun hh => q4 hh.1) W0 HB0.out
      generalize bndU (xs, tr) a (k, n, t) = AA at HF2 ⊢
      clear HSET hc H g ha hp hVw hbk q0 q4 hB0 eW0 HF HWI
      go_enter Try.func63, Try.ntmps63
      go_wp2_with fail
      rw [← HE0.out]
      refine Calls.mono HF2.out ?_
      rintro e w3 ⟨rfl, hs3, hb3⟩
      have H3 : Hid _ := hs3
      have HB3 : Hid _ := hb3
      clear hs3 hb3
      go_wp2
      go_ret
      exact ⟨rfl, H3.out, HB3.out⟩

end Go.Proofs.Ytfnmoaiejpkocaa

namespace Go.Proofs.Ytfnmoaiejpkocaa
open Go Go.RowKit Go.Maps
set_option linter.unusedVariables false

/-- Blocks that hold neither words nor numbers stay, but for the heap's and its map's. -/
def FrI (h m : Nat) (w w' : World) : Prop := w.heap.size ≤ w'.heap.size ∧ ∀ k cs t, k ≠ h → k ≠ m → w.heap[k]? = some (.cells cs t) → t ≠ 70 → t ≠ 3 → w'.heap[k]? = w.heap[k]?
theorem FrI.refl (h m : Nat) (w : World) : FrI h m w w := ⟨Nat.le_refl _, fun _ _ _ _ _ _ _ _ => rfl⟩
theorem FrI.trans {h m : Nat} {w w1 w2 : World} (a : FrI h m w w1) (b : FrI h m w1 w2) : FrI h m w w2 := ⟨Nat.le_trans a.1 b.1, fun k cs t h1 h2 hk hw hi => by
  have e := a.2 k cs t h1 h2 hk hw hi
  exact (b.2 k cs t h1 h2 (e.trans hk) hw hi).trans e⟩
theorem FrI.of_below {h m : Nat} {w w' : World} (hb : Below w.heap.size w w') : FrI h m w w' := ⟨hb.size, fun k cs t _ _ hk _ _ => hb.block k (Array.getElem?_eq_some_iff.1 hk).1⟩
def StandOutF (xs : List Cel) (tr : List Int) (c : Cel) (goal h m lk N : Nat) (w : World) (e : Ending) (w' : World) : Prop :=
  ∃ (r : Bool) (N' : Nat) (mk' : Nat → Nat), e = .returned (.bool r) ∧ (r = true ↔ Rch xs goal c) ∧ HeapO w' h xs tr m ((lk + 1 : Nat) : Int) ∧ SMap w' m N' mk' ∧ (∀ o, mk' o ≤ lk + 1) ∧ N' ≤ N + xs.length ∧ Below m w w' ∧ FrI h m w w'
/-- What bind leaves, whatever its code. -/
def BindOutF (A : USt × Int) (h m lk N n : Nat) (w : World) (e : Ending) (w' : World) : Prop :=
  e = .returned (.int .i64 A.2) ∧ Below m w w' ∧ (∃ (lk' N' : Nat) (mk' : Nat → Nat), HeapO w' h A.1.1 A.1.2 m lk' ∧ SMap w' m N' mk' ∧ (∀ o, mk' o ≤ lk') ∧ lk' ≤ lk + 1 ∧ N' ≤ N + n) ∧ FrI h m w w'

set_option maxHeartbeats 1000000 in
set_option maxRecDepth 100000 in
theorem standsInF_any (h m lk N goal : Nat) (xs : List Cel) (tr : List Int) (mk : Nat → Nat) (c : Cel) (w : World) (hs : Shp xs) (hg : goal < xs.length) (hlk : lk ≤ 1000000) (hN : N + xs.length ≤ 1000000000000) (hc : WdC xs c) (hmk : ∀ o, mk o ≤ lk) (H : HeapO w h xs tr m lk) (hm : SMap w m N mk) :
    Calls Try.prog 90 #[.pointer (some ⟨h, 0, none⟩), .int .i64 goal, wv c] w (StandOutF xs tr c goal h m lk N w) := by
  have hH := H.lt
  obtain ⟨pw, cw, pt, ct, hblk, _, _, hmh⟩ := id H
  have c3 : w.cell? ⟨h, 3, none⟩ = some (.int .i64 lk) := by simp [World.cell?, hblk]
  have f3 : w.frozen? ⟨h, 3, none⟩ = false := frozen_of_row _ _ _ _ _ hblk
  have H1 := H.look ((lk + 1 : Nat) : Int)
  have hm1 : SMap (w.setCell ⟨h, 3, none⟩ (.int .i64 ((lk + 1 : Nat) : Int))) m N mk := hm.of_block (heap_setCell_other _ _ _ _ (by simp; omega))
  have hu := unk_top xs.length (mkB mk (lk + 1))
  have HR := reaches_any h m (lk + 1) goal xs tr hs hg (by omega) (xs.length + 1) N mk c _ hc (by omega) (by omega) H1 hm1
  have HB : Hid (Below m w (w.setCell ⟨h, 3, none⟩ (.int .i64 ((lk + 1 : Nat) : Int)))) := (Below.refl _ _).setCell (p := ⟨h, 3, none⟩) (by simp; omega) _
  have HO : Hid _ := H1
  have HFR : Hid (∀ w2, Keep m (m + 1) (w.setCell ⟨h, 3, none⟩ (.int .i64 ((lk + 1 : Nat) : Int))) w2 → FrI h m w w2) := fun w2 hk => ⟨by have := hk.size; simpa using this, fun k cs t h1 h2 hkk _ _ => (hk.block k (by have := (Array.getElem?_eq_some_iff.1 hkk).1; simpa using this) (by omega)).trans (heap_setCell_other _ _ _ _ h1)⟩
  have HMK : Hid (∀ o, mk o ≤ lk) := hmk
  have HU : Hid (unk xs.length (mkB mk (lk + 1)) ≤ xs.length) := hu
  have hsz : m ≤ (w.setCell ⟨h, 3, none⟩ (.int .i64 ((lk + 1 : Nat) : Int))).heap.size := by simp; omega
  have HSZ : Hid _ := hsz
  have e1 : ((lk + 1 : Nat) : Int) = (lk : Int) + 1 := by omega
  rw [e1] at HR HB HO HSZ HFR
  generalize wv c = v at HR ⊢
  clear H1 hm1 hblk hs hc hmk H hm hu hsz
  go_enter Try.func90, Try.ntmps90
  go_wp2_with fail
  refine HR.mono ?_
  rintro e w2 ⟨r, N2, mk2, rfl, hk, hm2, hn, ho, hr1, hr0⟩
  have HK : Hid (Keep m (m + 1) _ w2) := hk
  have HF : Hid (SMap w2 m N2 mk2 ∧ N2 + unk xs.length (mkB mk2 (lk + 1)) ≤ N + unk xs.length (mkB mk (lk + 1)) ∧ (∀ o, mk2 o = mk o ∨ mk2 o = lk + 1)) := ⟨hm2, hn, ho⟩
  have HRR : Hid ((r = true → Rch xs goal c) ∧ (r = false → (∀ y, Beh xs c y → OkY xs goal (lk + 1) mk2 y) ∧ ∀ o, mk2 o = lk + 1 → mk o ≠ lk + 1 → ∀ y, Beh xs (xs.getD o Cel.none) y → OkY xs goal (lk + 1) mk2 y)) := ⟨hr1, hr0⟩
  clear hk hm2 hn ho hr1 hr0 HR
  go_wp2_with fail
  go_ret
  obtain ⟨q1, q2, q3⟩ := HF.out
  refine ⟨r, N2, mk2, rfl, ⟨HRR.out.1, fun hrch => ?_⟩, by rw [e1]; exact HeapO.keep HO.out HK.out, q1, fun o => ?_, by have := HU.out; omega, HB.out.trans (HK.out.below (Nat.le_refl _) HSZ.out), HFR.out w2 HK.out⟩
  · cases r with
    | true => rfl
    | false =>
      obtain ⟨a1, a2⟩ := HRR.out.2 rfl
      refine absurd hrch (rch_no (V := fun o => mk2 o = lk + 1) (fun x hx y hy => ?_) (fun y hy => ?_))
      · exact a2 x hx (by have := HMK.out x; omega) y hy
      · exact a1 y hy
  · have := HMK.out o
    rcases q3 o with e | e <;> omega

/-- The last two statements of bind. -/
theorem bind_tailF {w : World} {h : Nat} {xs : List Cel} {tr : List Int} {m : Nat} {L : Int} (H : HeapO w h xs tr m L) {g cw : Nat} (c0 : w.cell? ⟨h, 0, none⟩ = some (.slice (some ⟨g, 0, none⟩) xs.length cw)) (a : Nat) (c : Cel) (z : Int) (ht : tr.length ≤ 20000) :
    Calls Try.prog 82 #[.pointer (some ⟨h, 1, none⟩), .slice (some ⟨w.heap.size, 0, none⟩) 1 1] ((w.setCell ⟨g, a, none⟩ (wv c)).alloc (.cells #[.int .i64 z] 3)) fun e w' => e = .returned (.tuple #[]) ∧ HeapO w' h (xs.set a c) (tr ++ [z]) m L ∧ w'.heap[m]? = w.heap[m]? ∧ Below m w w' ∧ FrI h m w w' := by
  have hl := H.lt
  obtain ⟨HS, hgh⟩ := H.setW c0 a c
  obtain ⟨W2, eW2⟩ : ∃ W, W = (w.setCell ⟨g, a, none⟩ (wv c)) := ⟨_, rfl⟩
  have hz2 : W2.heap.size = w.heap.size := by rw [eW2]; simp
  rw [← eW2] at HS ⊢
  have H3 := HS.below (alloc_on W2 (.cells #[.int .i64 z] 3))
  obtain ⟨W3, eW3⟩ : ∃ W, W = W2.alloc (.cells #[.int .i64 z] 3) := ⟨_, rfl⟩
  have hn3 : W3.cell? ⟨w.heap.size, 0, none⟩ = some (.int .i64 z) := by
    have := heap_alloc_new W2 (.cells #[.int .i64 z] 3)
    rw [hz2] at this
    rw [eW3]; simp [World.cell?, this]
  have hs3 : W3.heap.size = w.heap.size + 1 := by rw [eW3]; simp; omega
  have hmb : ∀ k, k < h → W3.heap[k]? = w.heap[k]? := fun k hk => by
    rw [eW3, Below.heap_alloc _ _ _ (by omega), eW2]
    exact heap_setCell_other _ _ _ _ (by simp; omega)
  have hb3 : Below m w W3 := by
    rw [eW3, eW2]
    exact ((Below.refl _ _).setCell (p := ⟨g, a, none⟩) (by obtain ⟨_, _, _, _, _, _, _, h3⟩ := H; simp; omega) _).alloc (by obtain ⟨_, _, _, _, _, _, _, h3⟩ := H; simp; omega) _
  rw [← eW3] at H3 ⊢
  obtain ⟨pw, cw', pt, ct, k0, k1, k2, k3⟩ := id H3
  have d1 : W3.cell? ⟨h, 1, none⟩ = some (.slice pt tr.length ct) := by simp [World.cell?, k0]
  refine (push1_any h (h + 1) pt ct w.heap.size tr z W3 ht (by omega) d1 (frozen_of_row _ _ _ _ _ k0) (fun e => by have := (k2.2.lt _ e).1; omega) k2 hn3).mono ?_
  rintro e w' ⟨rfl, g', ct', w1, rfl, ho, hg⟩
  have hbm := hg.block m (by omega) (fun e => by have := (k2.2.lt _ e.symm).1; omega)
  refine ⟨rfl, H3.pushed d1 hg ho, ?_, ?_, ?_⟩
  · rw [heap_setCell_other _ _ _ _ (by simp; omega), hbm, hmb m k3]
  · exact (hb3.grown hg (by omega) (fun k e => by have := (k2.2.lt _ e).1; omega)).setCell (p := ⟨h, 1, none⟩) (by simp; omega) _
  · obtain ⟨pw0, cw0, pt0, ct0, j0, j1, j2, j3⟩ := id H
    have e0 : w.cell? ⟨h, 0, none⟩ = some (.slice pw0 xs.length cw0) := by simp [World.cell?, j0]
    rw [c0] at e0
    simp only [Option.some.injEq, Value.slice.injEq, true_and] at e0
    refine ⟨by have := hg.size; simp; omega, fun k cs t' h1 h2 hk hw hi => ?_⟩
    have hkl : k < w.heap.size := (Array.getElem?_eq_some_iff.1 hk).1
    have hkg : k ≠ g := fun e => by
      have hrow := row_ne2 j1 hk (fun e2 => hw e2.symm)
      exact hrow (by rw [← e0.1, e]; rfl)
    have hk3 : W3.heap[k]? = w.heap[k]? := by
      rw [eW3, Below.heap_alloc _ _ _ (by omega), eW2]
      exact heap_setCell_other _ _ _ _ hkg
    rw [heap_setCell_other _ _ _ _ h1, hg.block k (by omega) (fun e => row_ne2 k2.2 (hk3.trans hk) (fun e2 => hi e2.symm) e.symm)]
    exact hk3

set_option maxHeartbeats 1000000 in
set_option maxRecDepth 100000 in
theorem bindF_any (h m lk N a : Nat) (xs : List Cel) (tr : List Int) (mk : Nat → Nat) (c : Cel) (w : World) (hs : Shp xs) (ha : a < xs.length) (hlk : lk ≤ 1000000) (hN : N + xs.length ≤ 1000000000000) (ht : tr.length ≤ 20000) (hc : WdC xs c) (hna : ¬ (c.1 = 0 ∧ c.2.1 = a)) (hmk : ∀ o, mk o ≤ lk) (H : HeapO w h xs tr m lk) (hm : SMap w m N mk) :
    Calls Try.prog 65 #[.pointer (some ⟨h, 0, none⟩), .int .i64 a, wv c] w (BindOutF (bndU (xs, tr) a c) h m lk N xs.length w) := by
  have hl := hs.len
  have I := (isW c hc.knd).rf
  by_cases k0 : c.1 = 0
  · obtain ⟨r0, r1, r2⟩ := hc.2.1 k0
    obtain ⟨j, ej⟩ : ∃ j : Nat, c.2.1 = j := ⟨c.2.1.toNat, by omega⟩
    simp only [k0, if_true, decide_true, ej] at I
    have hwv : wv c = .iface 100 (.int .i64 j) := by unfold wv; rw [if_pos k0, ej]
    have HWC : Hid (wv c = .iface 100 (.int .i64 j)) := hwv
    have hja : j ≠ a := fun e => hna ⟨k0, by omega⟩
    have hjl : j < xs.length := by omega
    have HE : Hid (bndU (xs, tr) a c = if 20000 ≤ tr.length then ((xs, tr), 10) else if a < j then ((xs.set j (0, (a : Int), []), tr ++ [(j : Int)]), 0) else ((xs.set a c, tr ++ [(a : Int)]), 0)) := by
      show _ = _
      by_cases hfl : 20000 ≤ tr.length
      · rw [if_pos hfl, bndU_full (fun hh => by omega) hfl]
      · rw [if_neg hfl]
        by_cases hlt : a < j
        · rw [if_pos hlt, bndU_ref k0 hfl j ej hlt]
        · rw [if_neg hlt, bndU_set (fun hh => by omega) hfl (fun hh => by omega)]
    rw [HE.out, hwv]
    rw [hwv] at I
    have HO1 : Hid (HeapO w h xs tr m lk) := H
    have HM1 : Hid (SMap w m N mk ∧ ∀ o, mk o ≤ lk) := ⟨hm, hmk⟩
    obtain ⟨pw, cw, pt, ct, hblk, h1, h2, hmh⟩ := id H
    have c1 : w.cell? ⟨h, 1, none⟩ = some (.slice pt tr.length ct) := by simp [World.cell?, hblk]
    obtain ⟨g, cap, hv0, _, _⟩ := h1.form (by omega)
    simp only [Value.slice.injEq, true_and] at hv0
    obtain ⟨rfl, rfl⟩ := hv0
    have c0 : w.cell? ⟨h, 0, none⟩ = some (.slice (some ⟨g, 0, none⟩) xs.length cw) := by simp [World.cell?, hblk]
    have HRO : Hid (w.ownsRow (h + 1) 70 1 (.slice (some ⟨g, 0, none⟩) xs.length cw) xs.length (xs.map wv)) := h1
    have hf : ∀ i, w.frozen? ⟨h, i, none⟩ = false := fun i => frozen_of_row _ _ _ _ _ hblk
    clear hs hc hna hmk H hm k0 hN hlk hblk h1 h2 hmh ej r0 r1 r2 hwv HE
    by_cases hfull : 20000 ≤ tr.length
    · rw [if_pos hfull]
      have hge : (20000 : Int) ≤ tr.length := by omega
      have HR : Hid (Below m w w) := Below.refl _ _
      clear hfull HRO c0
      go_enter Try.func65, Try.ntmps65
      go_wp2_with fail
      go_ret
      exact ⟨rfl, HR.out, ⟨lk, N, mk, HO1.out, HM1.out.1, HM1.out.2, by omega, by omega⟩, FrI.refl _ _ _⟩
    · rw [if_neg hfull]
      have hge : ¬ (20000 : Int) ≤ tr.length := by omega
      clear hfull
      by_cases hlt : a < j
      · rw [if_pos hlt]
        have hgt : (a : Int) < j := by omega
        clear hlt
        go_enter Try.func65, Try.ntmps65
        have HT := bind_tailF HO1.out c0 j (0, (a : Int), []) (j : Int) (by omega)
        rw [wv_ref] at HT
        have hv : w.cell? ⟨g, j, none⟩ = some (wv (xs.getD j Cel.none)) := by rw [HRO.out.cellAt j (by omega)]; simp [List.getD, hjl]
        have hfg : w.frozen? ⟨g, j, none⟩ = false := HRO.out.frozenAt j
        generalize wv (xs.getD j Cel.none) = old at hv
        clear HRO
        go_wp2_with fail
        refine HT.mono ?_
        rintro e w4 ⟨rfl, hh4, hm4, hb4, hfr4⟩
        have HF : Hid (HeapO w4 h (xs.set j (0, (a : Int), [])) (tr ++ [(j : Int)]) m lk ∧ SMap w4 m N mk ∧ Below m w w4 ∧ FrI h m w w4) := ⟨hh4, HM1.out.1.of_block hm4, hb4, hfr4⟩
        clear HT hh4 hm4 hb4 hfr4 c0 c1 hv hf hfg
        go_wp2_with fail
        go_ret
        exact ⟨rfl, HF.out.2.2.1, ⟨lk, N, mk, HF.out.1, HF.out.2.1, HM1.out.2, by omega, by omega⟩, HF.out.2.2.2⟩
      · rw [if_neg hlt]
        have hgt : ¬ (a : Int) < j := by omega
        clear hlt
        go_enter Try.func65, Try.ntmps65
        have HT := bind_tailF HO1.out c0 a c (a : Int) (by omega)
        rw [HWC.out] at HT
        have hv : w.cell? ⟨g, a, none⟩ = some (wv (xs.getD a Cel.none)) := by rw [HRO.out.cellAt a (by omega)]; simp [List.getD, ha]
        have hfg : w.frozen? ⟨g, a, none⟩ = false := HRO.out.frozenAt a
        generalize wv (xs.getD a Cel.none) = old at hv
        clear HRO
        go_wp2_with fail
        refine HT.mono ?_
        rintro e w4 ⟨rfl, hh4, hm4, hb4, hfr4⟩
        have HF : Hid (HeapO w4 h (xs.set a c) (tr ++ [(a : Int)]) m lk ∧ SMap w4 m N mk ∧ Below m w w4 ∧ FrI h m w w4) := ⟨hh4, HM1.out.1.of_block hm4, hb4, hfr4⟩
        clear HT hh4 hm4 hb4 hfr4 c0 c1 hv hf hfg
        go_wp2_with fail
        go_ret
        exact ⟨rfl, HF.out.2.2.1, ⟨lk, N, mk, HF.out.1, HF.out.2.1, HM1.out.2, by omega, by omega⟩, HF.out.2.2.2⟩
  · simp only [k0, if_false, decide_false] at I
    have HST := standsInF_any h m lk N a xs tr mk c w hs ha hlk hN hc hmk H hm
    have hal : a < 20000 := by omega
    have hxl : 0 < xs.length := by omega
    have HAL : Hid (a < xs.length) := ha
    have HE : Hid (∀ r : Bool, (r = true ↔ Rch xs a c) → bndU (xs, tr) a c = if r = true then ((xs, tr), 5) else if 20000 ≤ tr.length then ((xs, tr), 10) else ((xs.set a c, tr ++ [(a : Int)]), 0)) := fun r hr => by
      have h40 : Rch xs a c → c.1 = 4 := fun h => by
        by_cases k4 : c.1 = 4
        · exact k4
        · cases h with
          | here h => exact absurd h (beh_no k0 k4)
          | on h _ => exact absurd h (beh_no k0 k4)
      by_cases hrr : Rch xs a c
      · rw [if_pos (hr.2 hrr), bndU_cyc (h40 hrr) hrr]
      · have n1 : ¬ (c.1 = 0 ∧ (a : Int) < c.2.1) := fun hh => k0 hh.1
        have n2 : ¬ r = true := fun hh => hrr (hr.1 hh)
        rw [if_neg n2]
        by_cases hfl : 20000 ≤ tr.length
        · rw [if_pos hfl, bndU_full (fun hh => hrr hh.2) hfl]
        · rw [if_neg hfl, bndU_set (fun hh => hrr hh.2) hfl n1]
    generalize bndU (xs, tr) a c = AA at HE ⊢
    obtain ⟨ty, y, hvv⟩ := wv_iface c
    rw [hvv] at I HST ⊢
    have HVV : Hid (wv c = .iface ty y) := hvv
    clear hs hc hna hmk H hm k0 hvv hN hlk ha hl
    go_enter Try.func65, Try.ntmps65
    go_wp2_with fail
    refine HST.mono ?_
    rintro e w1 ⟨r, N1, mk1, rfl, hr, ho1, hm1, hle1, hn1, hb1, hfr1⟩
    have HFR1 : Hid (FrI h m w w1) := hfr1
    have HEr := HE.out r hr
    have HO1 : Hid (HeapO w1 h xs tr m ((lk + 1 : Nat) : Int)) := ho1
    have HM1 : Hid (SMap w1 m N1 mk1 ∧ (∀ o, mk1 o ≤ lk + 1) ∧ N1 ≤ N + xs.length ∧ Below m w w1) := ⟨hm1, hle1, hn1, hb1⟩
    clear hr ho1 hm1 hle1 hn1 hb1 hfr1 HE HST
    cases r
    · simp only [Bool.false_eq_true, if_false] at HEr
      obtain ⟨pw, cw, pt, ct, hblk, h1, h2, hmh⟩ := HO1.out
      have c1 : w1.cell? ⟨h, 1, none⟩ = some (.slice pt tr.length ct) := by simp [World.cell?, hblk]
      obtain ⟨g, cap, hv0, _, _⟩ := h1.form hxl
      simp only [Value.slice.injEq, true_and] at hv0
      obtain ⟨rfl, rfl⟩ := hv0
      by_cases hfull : 20000 ≤ tr.length
      · rw [if_pos hfull] at HEr
        subst HEr
        have hge : (20000 : Int) ≤ tr.length := by omega
        clear hblk h1 h2 hmh hfull hxl hal
        go_wp2_with fail
        go_ret
        exact ⟨rfl, HM1.out.2.2.2, ⟨lk + 1, N1, mk1, HO1.out, HM1.out.1, HM1.out.2.1, Nat.le_refl _, HM1.out.2.2.1⟩, HFR1.out⟩
      · rw [if_neg hfull] at HEr
        subst HEr
        have hge : ¬ (20000 : Int) ≤ tr.length := by omega
        have c0 : w1.cell? ⟨h, 0, none⟩ = some (.slice (some ⟨g, 0, none⟩) xs.length cw) := by simp [World.cell?, hblk]
        have hv : w1.cell? ⟨g, a, none⟩ = some (wv (xs.getD a Cel.none)) := by rw [h1.cellAt a (by have := HAL.out; omega)]; have := HAL.out; simp [List.getD, this]
        have hf : ∀ i, w1.frozen? ⟨h, i, none⟩ = false := fun i => frozen_of_row _ _ _ _ _ hblk
        have hfg : w1.frozen? ⟨g, a, none⟩ = false := h1.frozenAt a
        generalize wv (xs.getD a Cel.none) = old at hv
        have hax : a < xs.length := HAL.out
        clear hblk h1 h2 hmh hfull hxl
        have HT := bind_tailF HO1.out c0 a c (a : Int) (by omega)
        rw [HVV.out] at HT
        go_wp2_with fail
        refine HT.mono ?_
        rintro e w4 ⟨rfl, hh4, hm4, hb4, hfr4⟩
        have HF : Hid (HeapO w4 h (xs.set a c) (tr ++ [(a : Int)]) m ((lk + 1 : Nat) : Int) ∧ SMap w4 m N1 mk1 ∧ Below m w w4 ∧ FrI h m w w4) := ⟨hh4, HM1.out.1.of_block hm4, HM1.out.2.2.2.trans hb4, HFR1.out.trans hfr4⟩
        clear HT hh4 hm4 hb4 hfr4 c0 c1 hv hf hfg
        go_wp2_with fail
        go_ret
        exact ⟨rfl, HF.out.2.2.1, ⟨lk + 1, N1, mk1, HF.out.1, HF.out.2.1, HM1.out.2.1, Nat.le_refl _, HM1.out.2.2.1⟩, HF.out.2.2.2⟩
    · simp only [if_true] at HEr
      subst HEr
      clear hxl hal
      go_wp2_with fail
      go_ret
      exact ⟨rfl, HM1.out.2.2.2, ⟨lk + 1, N1, mk1, HO1.out, HM1.out.1, HM1.out.2.1, Nat.le_refl _, HM1.out.2.2.1⟩, HFR1.out⟩

end Go.Proofs.Ytfnmoaiejpkocaa

