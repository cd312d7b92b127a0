/- Texts of PrP, SubP, StR. Own work of the verifier. -/
import Derived.Test.YtedkkghekboahaaUqan
import Derived.Test.YtedkkghekboahaaUqae
namespace Go.Proofs.Ytedkkghekboahaa
open Go Go.RowKit
set_option linter.unusedVariables false

/-- A tree: its cell, and what is below it. -/
abbrev Tr := Cel × Fo
abbrev TT := Tr × Tr
def Tr.fo (t : Tr) : Fo := .node t.1 t.2 .nil
def trs : Fo → List Tr
  | .nil => []
  | .node c k r => (c, k) :: trs r
theorem trs_len : ∀ F : Fo, (trs F).length = F.count
  | .nil => rfl
  | .node c k r => by simp [trs, Fo.count, trs_len r]
def eqFo : Fo → Fo → Bool
  | .nil, .nil => true
  | .node c k r, .node c' k' r' => decide (c = c') && eqFo k k' && eqFo r r'
  | .nil, .node _ _ _ => false
  | .node _ _ _, .nil => false
theorem eqFo_iff : ∀ a b : Fo, eqFo a b = true ↔ a = b
  | .nil, .nil => by simp [eqFo]
  | .node c k r, .node c' k' r' => by simp [eqFo, eqFo_iff k k', eqFo_iff r r', and_assoc]
  | .nil, .node _ _ _ => by simp [eqFo]
  | .node _ _ _, .nil => by simp [eqFo]
def eqT (x : TT) : Bool := decide (x.1.1 = x.2.1) && eqFo x.1.2 x.2.2
theorem eqT_iff (x : TT) : eqT x = true ↔ x.1 = x.2 := by
  obtain ⟨⟨c, k⟩, ⟨c', k'⟩⟩ := x
  simp [eqT, eqFo_iff]
def sames (st : List TT) : Bool := st.all eqT
theorem eqFo_zip : ∀ a b : Fo, a.count = b.count → eqFo a b = ((trs a).zip (trs b)).all eqT
  | .nil, .nil, _ => rfl
  | .node c k r, .node c' k' r', h => by
    have := eqFo_zip r r' (by simpa [Fo.count] using h)
    simp [eqFo, trs, eqT, this]
  | .nil, .node _ _ _, h => by simp [Fo.count] at h
  | .node _ _ _, .nil, h => by simp [Fo.count] at h
/-- The pairs of arguments, the first of them at the end. -/
def argPairs (x : TT) : List TT := ((trs x.1.2).zip (trs x.2.2)).reverse
/-- The pairs that an opening puts on the others. -/
def opened (x : TT) : List TT := if x.1.1 = x.2.1 then argPairs x else []
theorem sames_open (st : List TT) (x : TT) (h : x.1.1 = x.2.1) (hc : x.1.2.count = x.2.2.count) : sames (st ++ opened x) = sames (st ++ [x]) := by
  simp [sames, opened, argPairs, h, eqT, eqFo_zip _ _ hc]
theorem sames_no (st : List TT) (x : TT) (h : x.1.1 ≠ x.2.1) : sames (st ++ [x]) = false := by
  simp [sames, eqT, h]
def load : List TT → Nat
  | [] => 0
  | x :: r => x.1.2.cells.length + 1 + load r
theorem load_append : ∀ a b : List TT, load (a ++ b) = load a + load b
  | [], b => by simp [load]
  | x :: r, b => by simp [load, load_append r b]; omega
theorem load_reverse : ∀ a : List TT, load a.reverse = load a
  | [] => rfl
  | x :: r => by simp [load_append, load, load_reverse r]; omega
theorem load_zip : ∀ a b : Fo, load ((trs a).zip (trs b)) ≤ a.cells.length
  | .nil, b => by simp [trs, load]
  | .node c k r, .nil => by simp [trs, load]
  | .node c k r, .node c' k' r' => by
    have := load_zip r r'
    simp [trs, load, Fo.cells]; omega
theorem load_opened (x : TT) : load (opened x) ≤ x.1.2.cells.length := by
  unfold opened argPairs
  split
  · rw [load_reverse]; exact load_zip _ _
  · simp [load]
theorem len_load : ∀ st : List TT, st.length ≤ load st
  | [] => Nat.le_refl _
  | x :: r => by have := len_load r; simp [load]; omega
/-- Trees that are valid. -/
def Tr.ok (t : Tr) : Prop := t.fo.ok
theorem trs_ok : ∀ F : Fo, F.ok → ∀ t ∈ trs F, Tr.ok t
  | .nil, _, t, h => by simp [trs] at h
  | .node c k r, ⟨h1, h2, h3, h4, h5, h6⟩, t, h => by
    rcases List.mem_cons.1 (show t ∈ (c, k) :: trs r from h) with rfl | h'
    · exact ⟨h1, h2, h3, h4, h5, trivial⟩
    · exact trs_ok r h6 t h'
theorem opened_ok {x : TT} (h1 : x.1.ok) (h2 : x.2.ok) : ∀ y ∈ opened x, y.1.ok ∧ y.2.ok := fun y hy => by
  unfold opened argPairs at hy
  split at hy
  · have hz := List.of_mem_zip (List.mem_reverse.1 hy)
    exact ⟨trs_ok _ h1.2.2.2.2.1 _ hz.1, trs_ok _ h2.2.2.2.2.1 _ hz.2⟩
  · cases hy
theorem ok_count {x : TT} (h1 : x.1.ok) (h2 : x.2.ok) (h : x.1.1 = x.2.1) : x.1.2.count = x.2.2.count := by
  obtain ⟨⟨c, k⟩, ⟨c', k'⟩⟩ := x
  simp only at h
  subst h
  by_cases h3 : c.1 = 3
  · have e1 := h1.2.2.1 h3
    have e2 := h2.2.2.1 h3
    simp only at e1 e2 ⊢
    omega
  · have e1 : k = .nil := h1.2.2.2.1 h3
    have e2 : k' = .nil := h2.2.2.2.1 h3
    rw [e1, e2]
/-- A forest is told by its cells. -/
theorem Fo.cells_inj : ∀ (a b : Fo) (x y : List Cel), a.ok → b.ok → a.count = b.count → a.cells ++ x = b.cells ++ y → a = b ∧ x = y
  | .nil, .nil, x, y, _, _, _, h => ⟨rfl, by simpa [Fo.cells] using h⟩
  | .nil, .node _ _ _, _, _, _, _, h, _ => by simp [Fo.count] at h
  | .node _ _ _, .nil, _, _, _, _, h, _ => by simp [Fo.count] at h
  | .node c k r, .node c' k' r', x, y, h1, h2, hc, h => by
    simp only [Fo.cells, List.cons_append, List.cons.injEq, List.append_assoc] at h
    obtain ⟨rfl, h⟩ := h
    have hk : k.count = k'.count := ok_count (x := ((c, k), (c, k'))) ⟨h1.1, h1.2.1, h1.2.2.1, h1.2.2.2.1, h1.2.2.2.2.1, trivial⟩ ⟨h2.1, h2.2.1, h2.2.2.1, h2.2.2.2.1, h2.2.2.2.2.1, trivial⟩ rfl
    obtain ⟨rfl, h'⟩ := Fo.cells_inj k k' _ _ h1.2.2.2.2.1 h2.2.2.2.2.1 hk h
    obtain ⟨rfl, rfl⟩ := Fo.cells_inj r r' x y h1.2.2.2.2.2 h2.2.2.2.2.2 (by simpa [Fo.count] using hc) h'
    exact ⟨rfl, rfl⟩
theorem eqT_cells {x : TT} (h1 : x.1.ok) (h2 : x.2.ok) : eqT x = decide (x.1.1 :: x.1.2.cells = x.2.1 :: x.2.2.cells) := by
  rw [Bool.eq_iff_iff, eqT_iff, decide_eq_true_eq]
  obtain ⟨⟨c, k⟩, ⟨c', k'⟩⟩ := x
  constructor
  · intro h
    obtain ⟨rfl, rfl⟩ := Prod.mk.inj h
    rfl
  · intro h
    have := Fo.cells_inj (.node c k .nil) (.node c' k' .nil) [] [] h1 h2 rfl (by simpa [Fo.cells] using h)
    have h3 := this.1
    injection h3 with e1 e2
    rw [e1, e2]

end Go.Proofs.Ytedkkghekboahaa

namespace Go.Proofs.Ytedkkghekboahaa
open Go Go.RowKit
set_option linter.unusedVariables false

/-- What a number stands for. -/
def look {α : Type} : List (Int × α) → Int → Option α
  | [], _ => none
  | y :: r, x => if y.1 = x then some y.2 else look r x
theorem look_append {α : Type} : ∀ (E F : List (Int × α)) (x : Int), look (E ++ F) x = match look E x with | some t => some t | none => look F x
  | [], F, x => by simp [look]
  | y :: r, F, x => by
    by_cases h : y.1 = x
    · simp [look, h]
    · simp [look, h, look_append r F x]
theorem look_none {α : Type} : ∀ (E : List (Int × α)) (x : Int), look E x = none ↔ x ∉ E.map Prod.fst
  | [], x => by simp [look]
  | y :: r, x => by
    have := look_none r x
    by_cases h : y.1 = x
    · simp [look, h]
    · have h' : ¬ x = y.1 := fun e => h e.symm
      simp only [look, if_neg h, this, List.map_cons, List.mem_cons, h', false_or]
theorem look_at {α : Type} : ∀ (E : List (Int × α)) (x : Int) (t : α), look E x = some t → ∃ h : (E.map Prod.fst).idxOf x < E.length, (E[(E.map Prod.fst).idxOf x]'h).2 = t
  | [], x, t, h => by simp [look] at h
  | y :: r, x, t, h => by
    by_cases e : y.1 = x
    · simp only [look, if_pos e, Option.some.injEq] at h
      have : (((y :: r).map Prod.fst).idxOf x) = 0 := by simp [e]
      simp only [this]
      exact ⟨by simp, by simpa using h⟩
    · simp only [look, if_neg e] at h
      obtain ⟨h1, h2⟩ := look_at r x t h
      have hb : (y.1 == x) = false := by simpa using e
      have : (((y :: r).map Prod.fst).idxOf x) = (r.map Prod.fst).idxOf x + 1 := by rw [List.map_cons, List.idxOf_cons, hb]; rfl
      simp only [this]
      exact ⟨by simp; omega, by simpa using h2⟩
theorem look_mem {α : Type} {E : List (Int × α)} {x : Int} {t : α} (h : look E x = some t) : (x, t) ∈ E := by
  induction E with
  | nil => simp [look] at h
  | cons y r ih =>
    by_cases e : y.1 = x
    · simp only [look, if_pos e, Option.some.injEq] at h
      subst e h
      simp
    · simp only [look, if_neg e] at h
      simp [ih h]

abbrev Env := List (Int × Tr)
def subF : Env → Fo → Fo → Option Env
  | env, .nil, .nil => some env
  | env, .node c k r, .node c' k' r' =>
    if c.1 = 0 then
      match look env c.2.1 with
      | some t => if eqT (t, (c', k')) = true then subF env r r' else none
      | none => subF (env ++ [(c.2.1, (c', k'))]) r r'
    else if c = c' then (match subF env k k' with | some e => subF e r r' | none => none) else none
  | _, .nil, .node _ _ _ => none
  | _, .node _ _ _, .nil => none
def subL : Env → List TT → Option Env
  | env, [] => some env
  | env, x :: l => match subF env x.1.fo x.2.fo with | some e => subL e l | none => none
theorem subF_cat : ∀ (k k' r r' : Fo) (env : Env), k.count = k'.count → subF env (k.cat r) (k'.cat r') = match subF env k k' with | some e => subF e r r' | none => none
  | .nil, .nil, r, r', env, _ => by simp [Fo.cat, subF]
  | .nil, .node _ _ _, _, _, _, h => by simp [Fo.count] at h
  | .node _ _ _, .nil, _, _, _, h => by simp [Fo.count] at h
  | .node c k s, .node c' k' s', r, r', env, h => by
    have hs : s.count = s'.count := by simpa [Fo.count] using h
    simp only [Fo.cat, subF]
    by_cases h0 : c.1 = 0
    · simp only [if_pos h0]
      cases hl : look env c.2.1 with
      | none => simp only [subF_cat s s' r r' _ hs]
      | some t =>
        by_cases ht : eqT (t, (c', k')) = true
        · simp only [if_pos ht, subF_cat s s' r r' _ hs]
        · simp only [if_neg ht]
    · simp only [if_neg h0]
      by_cases hc : c = c'
      · simp only [if_pos hc]
        cases hk : subF env k k' with
        | none => rfl
        | some e => simp only [subF_cat s s' r r' e hs]
      · simp only [if_neg hc]
theorem subF_node (c c' : Cel) (k k' r r' : Fo) (env : Env) : subF env (.node c k r) (.node c' k' r') = match subF env (.node c k .nil) (.node c' k' .nil) with | some e => subF e r r' | none => none :=
  subF_cat (.node c k .nil) (.node c' k' .nil) r r' env rfl
theorem subL_zip : ∀ (a b : Fo) (l : List TT) (env : Env), a.count = b.count → subL env ((trs a).zip (trs b) ++ l) = match subF env a b with | some e => subL e l | none => none
  | .nil, .nil, l, env, _ => by simp [trs, subF]
  | .nil, .node _ _ _, _, _, h => by simp [Fo.count] at h
  | .node _ _ _, .nil, _, _, h => by simp [Fo.count] at h
  | .node c k r, .node c' k' r', l, env, h => by
    rw [subF_node c c' k k' r r' env]
    simp only [trs, List.zip_cons_cons, List.cons_append, subL, Tr.fo]
    cases subF env (.node c k .nil) (.node c' k' .nil) with
    | none => rfl
    | some e => exact subL_zip r r' l e (by simpa [Fo.count] using h)
/-- A variable that stands for something. -/
theorem subL_old {env : Env} {x : TT} (l : List TT) (h0 : x.1.1.1 = 0) {t : Tr} (hl : look env x.1.1.2.1 = some t) : subL env (x :: l) = if eqT (t, x.2) = true then subL env l else none := by
  obtain ⟨⟨c, k⟩, ⟨c', k'⟩⟩ := x
  simp only at h0 hl
  simp only [subL, Tr.fo, subF, if_pos h0, hl]
  by_cases ht : eqT (t, (c', k')) = true
  · simp only [if_pos ht]
  · simp only [if_neg ht]
/-- A variable that is new. -/
theorem subL_new {env : Env} {x : TT} (l : List TT) (h0 : x.1.1.1 = 0) (hl : look env x.1.1.2.1 = none) : subL env (x :: l) = subL (env ++ [(x.1.1.2.1, x.2)]) l := by
  obtain ⟨⟨c, k⟩, ⟨c', k'⟩⟩ := x
  simp only at h0 hl
  simp only [subL, Tr.fo, subF, if_pos h0, hl]
theorem subL_open {env : Env} {x : TT} (l : List TT) (h0 : x.1.1.1 ≠ 0) (hc : x.1.1 = x.2.1) (hn : x.1.2.count = x.2.2.count) : subL env ((opened x).reverse ++ l) = subL env (x :: l) := by
  obtain ⟨⟨c, k⟩, ⟨c', k'⟩⟩ := x
  simp only at h0 hc hn
  rw [opened, if_pos hc, argPairs, List.reverse_reverse, subL_zip _ _ _ _ hn]
  simp only [subL, Tr.fo, subF, if_neg h0, if_pos hc]
  cases subF env k k' <;> rfl
theorem subL_no {env : Env} {x : TT} (l : List TT) (h0 : x.1.1.1 ≠ 0) (hc : x.1.1 ≠ x.2.1) : subL env (x :: l) = none := by
  obtain ⟨⟨c, k⟩, ⟨c', k'⟩⟩ := x
  simp only at h0 hc
  simp only [subL, Tr.fo, subF, if_neg h0, if_neg hc]

end Go.Proofs.Ytedkkghekboahaa

namespace Go.Proofs.Ytedkkghekboahaa
open Go Go.RowKit
set_option linter.unusedVariables false

/-- The greatest of f 0 .. f (n - 1). -/
def supF (f : Nat → Nat) : Nat → Nat
  | 0 => 0
  | n + 1 => max (supF f n) (f n)
theorem le_supF (f : Nat → Nat) : ∀ (n i : Nat), i < n → f i ≤ supF f n
  | 0, i, h => absurd h (Nat.not_lt_zero _)
  | n + 1, i, h => by
    simp only [supF]
    rcases Nat.lt_or_eq_of_le (Nat.lt_succ_iff.1 h) with h | rfl
    · have := le_supF f n i h; omega
    · omega
open Classical in
/-- How many steps a word leads at most. -/
noncomputable def rkA (xs : List Cel) (a : Nat) (h : Acc (Kid xs) a) : Nat :=
  Acc.rec (motive := fun _ _ => Nat) (fun a _ ih => 1 + supF (fun i => if hk : Kid xs i a then ih i hk else 0) (endK xs a)) h
open Classical in
theorem rkA_lt {xs : List Cel} {a y : Nat} (h : Acc (Kid xs) a) (hk : Kid xs y a) : rkA xs y (h.inv hk) < rkA xs a h := by
  have e : rkA xs a h = 1 + supF (fun i => if hk : Kid xs i a then rkA xs i (h.inv hk) else 0) (endK xs a) := by
    cases h with
    | intro _ f => rfl
  have := le_supF (fun i => if hk : Kid xs i a then rkA xs i (h.inv hk) else 0) (endK xs a) y hk.2.2
  simp only [dif_pos hk] at this
  omega
open Classical in
noncomputable def rk (xs : List Cel) (a : Nat) : Nat := if h : Acc (Kid xs) a then rkA xs a h else 0
theorem rk_lt {xs : List Cel} {a y : Nat} (h : Acc (Kid xs) a) (hk : Kid xs y a) : rk xs y < rk xs a := by
  unfold rk
  rw [dif_pos h, dif_pos (h.inv hk)]
  exact rkA_lt h hk
/-- The same of a word: how many references may be followed. -/
noncomputable def rkW (xs : List Cel) (c : Cel) : Nat := if c.1 = 0 then rk xs c.2.1.toNat + 1 else 0

/-- A word of a store, by its kind and number. -/
def WdC (xs : List Cel) (c : Cel) : Prop := (c.1 = 0 ∨ c.1 = 1 ∨ c.1 = 2 ∨ c.1 = 4) ∧ (c.1 = 0 → 0 ≤ c.2.1 ∧ c.2.1 < xs.length ∧ kndA xs c.2.1.toNat ≠ 3) ∧ (c.1 = 4 → 0 ≤ c.2.1 ∧ c.2.1 < xs.length ∧ kndA xs c.2.1.toNat = 3)
/-- A store that is as it has to be. -/
structure Good (xs : List Cel) : Prop where
  shp : Shp xs
  acyc : Acyc xs
theorem Good.at {xs : List Cel} (h : Good xs) {a : Nat} (ha : a < xs.length) (h3 : kndA xs a ≠ 3) : WdC xs (xs.getD a Cel.none) := by
  refine ⟨?_, fun k => h.shp.refs a ha k, fun k => h.shp.stru a ha k⟩
  have := h.shp.knds a ha
  unfold kndA at this h3
  omega
theorem WdC.of_word {xs : List Cel} {c : Cel} (h : wordB xs c.1 c.2.1 c.2.2.length = true) : WdC xs c := by
  unfold wordB at h
  rw [Bool.and_eq_true] at h
  obtain ⟨ho, hl⟩ := h
  have hk : c.1 = 0 ∨ c.1 = 1 ∨ c.1 = 2 ∨ c.1 = 3 ∨ c.1 = 4 := by
    unfold okW at ho
    split at ho
    · omega
    · simp [cellB] at ho; omega
  unfold leadB at hl
  refine ⟨?_, fun k => ?_, fun k => ?_⟩
  · rcases hk with k | k | k | k | k
    · exact .inl k
    · exact .inr (.inl k)
    · exact .inr (.inr (.inl k))
    · rw [k] at hl; simp at hl
    · exact .inr (.inr (.inr k))
  · rw [if_pos k] at hl
    simpa [isWB] using hl
  · rw [k] at hl
    simp at hl
    simpa [funB] using hl

/-- Is it a reference that leads on? -/
def onB (xs : List Cel) (c : Cel) : Bool := decide (c.1 = 0) && !varB xs c.2.1
noncomputable def derN (xs : List Cel) : Nat → Cel → Cel
  | 0, c => c
  | f + 1, c => if onB xs c = true then derN xs f (xs.getD c.2.1.toNat Cel.none) else c
/-- The word to which references lead. -/
noncomputable def drf (xs : List Cel) (c : Cel) : Cel := derN xs (rkW xs c) c
theorem on_ref {xs : List Cel} {c : Cel} (h : onB xs c = true) : c.1 = 0 ∧ varB xs c.2.1 = false := by
  simpa [onB] using h
/-- Behind a reference the way is shorter. -/
theorem rk_next {xs : List Cel} (g : Good xs) {c : Cel} (hc : WdC xs c) (h : onB xs c = true) : rkW xs (xs.getD c.2.1.toNat Cel.none) < rkW xs c ∧ WdC xs (xs.getD c.2.1.toNat Cel.none) := by
  obtain ⟨h0, hv⟩ := on_ref h
  obtain ⟨r0, r1, r2⟩ := hc.2.1 h0
  have ha : c.2.1.toNat < xs.length := by omega
  refine ⟨?_, g.at ha r2⟩
  unfold rkW
  rw [if_pos h0]
  by_cases hk : (xs.getD c.2.1.toNat Cel.none).1 = 0
  · rw [if_pos hk]
    have hkid : Kid xs (xs.getD c.2.1.toNat Cel.none).2.1.toNat c.2.1.toNat := by
      refine ⟨?_, ?_, ?_⟩
      · rw [show ((c.2.1.toNat : Nat) : Int) = c.2.1 by omega]; exact hv
      · unfold firstK kndA; rw [if_pos hk]; exact Nat.le_refl _
      · unfold endK kndA; rw [if_pos hk]; exact Nat.lt_succ_self _
    have := rk_lt (g.acyc _ ha) hkid
    omega
  · rw [if_neg hk]; omega
theorem derN_more {xs : List Cel} (g : Good xs) : ∀ (f : Nat) (c : Cel), WdC xs c → rkW xs c ≤ f → derN xs f c = drf xs c := by
  intro f
  induction f with
  | zero =>
    intro c hc h
    unfold drf
    rw [show rkW xs c = 0 by omega]
  | succ f ih =>
    intro c hc h
    unfold drf
    cases hr : rkW xs c with
    | zero =>
      have h0 : ¬ c.1 = 0 := fun h0 => by unfold rkW at hr; rw [if_pos h0] at hr; omega
      have : onB xs c = false := by simp [onB, h0]
      simp [derN, this]
    | succ m =>
      simp only [derN]
      by_cases ho : onB xs c = true
      · rw [if_pos ho, if_pos ho]
        obtain ⟨n1, n2⟩ := rk_next g hc ho
        rw [ih _ n2 (by omega)]
        -- the shorter fuel serves, too
        have aux : ∀ (f : Nat) (c : Cel), WdC xs c → rkW xs c ≤ f → derN xs f c = derN xs (rkW xs c) c := by
          intro f
          induction f with
          | zero => intro c _ h; rw [show rkW xs c = 0 by omega]
          | succ f ih2 =>
            intro c hc h
            cases hr2 : rkW xs c with
            | zero =>
              have h0 : ¬ c.1 = 0 := fun h0 => by unfold rkW at hr2; rw [if_pos h0] at hr2; omega
              have : onB xs c = false := by simp [onB, h0]
              simp [derN, this]
            | succ k =>
              simp only [derN]
              by_cases ho : onB xs c = true
              · rw [if_pos ho, if_pos ho]
                obtain ⟨n1, n2⟩ := rk_next g hc ho
                rw [ih2 _ n2 (by omega)]
                by_cases hkf : k ≤ f
                · -- both are the same at the least fuel
                  have e1 := ih2 (xs.getD c.2.1.toNat Cel.none) n2 (by omega)
                  clear ih2
                  have : ∀ (a b : Nat) (c : Cel), WdC xs c → rkW xs c ≤ a → a ≤ b → derN xs b c = derN xs a c := by
                    intro a
                    induction a with
                    | zero =>
                      intro b c hc h hab
                      have h0 : ¬ c.1 = 0 := fun h0 => by unfold rkW at h; rw [if_pos h0] at h; omega
                      have hn : onB xs c = false := by simp [onB, h0]
                      cases b with
                      | zero => rfl
                      | succ b => simp [derN, hn]
                    | succ a iha =>
                      intro b c hc h hab
                      obtain ⟨b, rfl⟩ : ∃ b', b = b' + 1 := ⟨b - 1, by omega⟩
                      simp only [derN]
                      by_cases ho : onB xs c = true
                      · rw [if_pos ho, if_pos ho]
                        obtain ⟨m1, m2⟩ := rk_next g hc ho
                        exact iha b _ m2 (by omega) (by omega)
                      · rw [if_neg ho, if_neg ho]
                  exact (this _ k _ n2 (Nat.le_refl _) (by omega)).symm
                · omega
              · rw [if_neg ho, if_neg ho]
        exact (aux m _ n2 (by omega)).symm
      · rw [if_neg ho, if_neg ho]
theorem drf_step {xs : List Cel} (g : Good xs) {c : Cel} (hc : WdC xs c) (h : onB xs c = true) : drf xs c = drf xs (xs.getD c.2.1.toNat Cel.none) := by
  obtain ⟨n1, n2⟩ := rk_next g hc h
  have : drf xs c = derN xs (rkW xs c) c := rfl
  rw [this]
  obtain ⟨m, hm⟩ : ∃ m, rkW xs c = m + 1 := ⟨rkW xs c - 1, by omega⟩
  rw [hm]
  simp only [derN, if_pos h]
  exact derN_more g m _ n2 (by omega)
theorem drf_stop {xs : List Cel} {c : Cel} (h : onB xs c = false) : drf xs c = c := by
  unfold drf
  cases rkW xs c with
  | zero => rfl
  | succ m => simp [derN, h]
/-- What holds of every word on the way, holds of the last. -/
theorem drf_ind {xs : List Cel} (g : Good xs) {P : Cel → Prop} (hP : ∀ a, a < xs.length → kndA xs a ≠ 3 → P (xs.getD a Cel.none)) : ∀ (n : Nat) (c : Cel), rkW xs c ≤ n → WdC xs c → P c → P (drf xs c) ∧ WdC xs (drf xs c) ∧ onB xs (drf xs c) = false := by
  intro n
  induction n with
  | zero =>
    intro c hr hc hp
    have h0 : ¬ c.1 = 0 := fun h0 => by unfold rkW at hr; rw [if_pos h0] at hr; omega
    have hn : onB xs c = false := by simp [onB, h0]
    rw [drf_stop hn]
    exact ⟨hp, hc, hn⟩
  | succ n ih =>
    intro c hr hc hp
    cases ho : onB xs c
    · rw [drf_stop ho]; exact ⟨hp, hc, ho⟩
    · obtain ⟨n1, n2⟩ := rk_next g hc ho
      obtain ⟨h0, hv⟩ := on_ref ho
      obtain ⟨r0, r1, r2⟩ := hc.2.1 h0
      rw [drf_step g hc ho]
      exact ih _ (by omega) n2 (hP _ (by omega) r2)
theorem drf_word {xs : List Cel} (g : Good xs) {c : Cel} (hc : WdC xs c) : WdC xs (drf xs c) ∧ onB xs (drf xs c) = false :=
  (drf_ind g (P := fun _ => True) (fun _ _ _ => trivial) _ c (Nat.le_refl _) hc trivial).2

theorem storeB_ok {xs : List Cel} {tr : List Int} (h : storeB xs tr = true) (a : Nat) (ha : a < xs.length) : okW (xs.getD a Cel.none).1 (xs.getD a Cel.none).2.1 (xs.getD a Cel.none).2.2.length = true := by
  unfold storeB at h
  simp only [Bool.and_eq_true, decide_eq_true_eq] at h
  have := List.all_eq_true.1 h.1.1.2.1 _ (mem_at ha)
  simp only [goodC, Bool.and_eq_true] at this
  exact this.1
theorem okW_text {k n : Int} {t : List Int} (h : okW k n t.length = true) (h2 : k ≠ 2) (h3 : k ≠ 3) : t = [] := by
  have : t.length = 0 := by
    generalize t.length = m at h
    unfold okW at h
    split at h
    · simpa using h
    · simp only [cellB, decide_eq_true_eq] at h; omega
  exact List.length_eq_zero_iff.1 this

end Go.Proofs.Ytedkkghekboahaa

