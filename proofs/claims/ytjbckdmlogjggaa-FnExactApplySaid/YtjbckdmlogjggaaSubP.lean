/- One term made of another, as a function. Own work of the verifier. -/
import Derived.Test.YtjbckdmlogjggaaPrP
namespace Go.Proofs.Ytjbckdmlogjggaa
open Go Go.RowKit
set_option linter.unusedVariables false

/-- What a number stands for. -/
def look {α : Type} : List (Int × α) → Int → Option α
  | [], _ => none
  | y :: r, x => if y.1 = x then some y.2 else look r x
theorem look_append {α : Type} : ∀ (E F : List (Int × α)) (x : Int), look (E ++ F) x = match look E x with | some t => some t | none => look F x
  | [], F, x => by simp [look]
  | y :: r, F, x => by
    by_cases h : y.1 = x
    · simp [look, h]
    · simp [look, h, look_append r F x]
theorem look_none {α : Type} : ∀ (E : List (Int × α)) (x : Int), look E x = none ↔ x ∉ E.map Prod.fst
  | [], x => by simp [look]
  | y :: r, x => by
    have := look_none r x
    by_cases h : y.1 = x
    · simp [look, h]
    · have h' : ¬ x = y.1 := fun e => h e.symm
      simp only [look, if_neg h, this, List.map_cons, List.mem_cons, h', false_or]
theorem look_at {α : Type} : ∀ (E : List (Int × α)) (x : Int) (t : α), look E x = some t → ∃ h : (E.map Prod.fst).idxOf x < E.length, (E[(E.map Prod.fst).idxOf x]'h).2 = t
  | [], x, t, h => by simp [look] at h
  | y :: r, x, t, h => by
    by_cases e : y.1 = x
    · simp only [look, if_pos e, Option.some.injEq] at h
      have : (((y :: r).map Prod.fst).idxOf x) = 0 := by simp [e]
      simp only [this]
      exact ⟨by simp, by simpa using h⟩
    · simp only [look, if_neg e] at h
      obtain ⟨h1, h2⟩ := look_at r x t h
      have hb : (y.1 == x) = false := by simpa using e
      have : (((y :: r).map Prod.fst).idxOf x) = (r.map Prod.fst).idxOf x + 1 := by rw [List.map_cons, List.idxOf_cons, hb]; rfl
      simp only [this]
      exact ⟨by simp; omega, by simpa using h2⟩
theorem look_mem {α : Type} {E : List (Int × α)} {x : Int} {t : α} (h : look E x = some t) : (x, t) ∈ E := by
  induction E with
  | nil => simp [look] at h
  | cons y r ih =>
    by_cases e : y.1 = x
    · simp only [look, if_pos e, Option.some.injEq] at h
      subst e h
      simp
    · simp only [look, if_neg e] at h
      simp [ih h]

abbrev Env := List (Int × Tr)
def subF : Env → Fo → Fo → Option Env
  | env, .nil, .nil => some env
  | env, .node c k r, .node c' k' r' =>
    if c.1 = 0 then
      match look env c.2.1 with
      | some t => if eqT (t, (c', k')) = true then subF env r r' else none
      | none => subF (env ++ [(c.2.1, (c', k'))]) r r'
    else if c = c' then (match subF env k k' with | some e => subF e r r' | none => none) else none
  | _, .nil, .node _ _ _ => none
  | _, .node _ _ _, .nil => none
def subL : Env → List TT → Option Env
  | env, [] => some env
  | env, x :: l => match subF env x.1.fo x.2.fo with | some e => subL e l | none => none
theorem subF_cat : ∀ (k k' r r' : Fo) (env : Env), k.count = k'.count → subF env (k.cat r) (k'.cat r') = match subF env k k' with | some e => subF e r r' | none => none
  | .nil, .nil, r, r', env, _ => by simp [Fo.cat, subF]
  | .nil, .node _ _ _, _, _, _, h => by simp [Fo.count] at h
  | .node _ _ _, .nil, _, _, _, h => by simp [Fo.count] at h
  | .node c k s, .node c' k' s', r, r', env, h => by
    have hs : s.count = s'.count := by simpa [Fo.count] using h
    simp only [Fo.cat, subF]
    by_cases h0 : c.1 = 0
    · simp only [if_pos h0]
      cases hl : look env c.2.1 with
      | none => simp only [subF_cat s s' r r' _ hs]
      | some t =>
        by_cases ht : eqT (t, (c', k')) = true
        · simp only [if_pos ht, subF_cat s s' r r' _ hs]
        · simp only [if_neg ht]
    · simp only [if_neg h0]
      by_cases hc : c = c'
      · simp only [if_pos hc]
        cases hk : subF env k k' with
        | none => rfl
        | some e => simp only [subF_cat s s' r r' e hs]
      · simp only [if_neg hc]
theorem subF_node (c c' : Cel) (k k' r r' : Fo) (env : Env) : subF env (.node c k r) (.node c' k' r') = match subF env (.node c k .nil) (.node c' k' .nil) with | some e => subF e r r' | none => none :=
  subF_cat (.node c k .nil) (.node c' k' .nil) r r' env rfl
theorem subL_zip : ∀ (a b : Fo) (l : List TT) (env : Env), a.count = b.count → subL env ((trs a).zip (trs b) ++ l) = match subF env a b with | some e => subL e l | none => none
  | .nil, .nil, l, env, _ => by simp [trs, subF]
  | .nil, .node _ _ _, _, _, h => by simp [Fo.count] at h
  | .node _ _ _, .nil, _, _, h => by simp [Fo.count] at h
  | .node c k r, .node c' k' r', l, env, h => by
    rw [subF_node c c' k k' r r' env]
    simp only [trs, List.zip_cons_cons, List.cons_append, subL, Tr.fo]
    cases subF env (.node c k .nil) (.node c' k' .nil) with
    | none => rfl
    | some e => exact subL_zip r r' l e (by simpa [Fo.count] using h)
/-- A variable that stands for something. -/
theorem subL_old {env : Env} {x : TT} (l : List TT) (h0 : x.1.1.1 = 0) {t : Tr} (hl : look env x.1.1.2.1 = some t) : subL env (x :: l) = if eqT (t, x.2) = true then subL env l else none := by
  obtain ⟨⟨c, k⟩, ⟨c', k'⟩⟩ := x
  simp only at h0 hl
  simp only [subL, Tr.fo, subF, if_pos h0, hl]
  by_cases ht : eqT (t, (c', k')) = true
  · simp only [if_pos ht]
  · simp only [if_neg ht]
/-- A variable that is new. -/
theorem subL_new {env : Env} {x : TT} (l : List TT) (h0 : x.1.1.1 = 0) (hl : look env x.1.1.2.1 = none) : subL env (x :: l) = subL (env ++ [(x.1.1.2.1, x.2)]) l := by
  obtain ⟨⟨c, k⟩, ⟨c', k'⟩⟩ := x
  simp only at h0 hl
  simp only [subL, Tr.fo, subF, if_pos h0, hl]
theorem subL_open {env : Env} {x : TT} (l : List TT) (h0 : x.1.1.1 ≠ 0) (hc : x.1.1 = x.2.1) (hn : x.1.2.count = x.2.2.count) : subL env ((opened x).reverse ++ l) = subL env (x :: l) := by
  obtain ⟨⟨c, k⟩, ⟨c', k'⟩⟩ := x
  simp only at h0 hc hn
  rw [opened, if_pos hc, argPairs, List.reverse_reverse, subL_zip _ _ _ _ hn]
  simp only [subL, Tr.fo, subF, if_neg h0, if_pos hc]
  cases subF env k k' <;> rfl
theorem subL_no {env : Env} {x : TT} (l : List TT) (h0 : x.1.1.1 ≠ 0) (hc : x.1.1 ≠ x.2.1) : subL env (x :: l) = none := by
  obtain ⟨⟨c, k⟩, ⟨c', k'⟩⟩ := x
  simp only at h0 hc
  simp only [subL, Tr.fo, subF, if_neg h0, if_neg hc]

end Go.Proofs.Ytjbckdmlogjggaa
