/- Texts of Num, PrP, SubP. Own work of the verifier. -/
import Derived.Test.YtglebnelmnnboaaUqag
import Derived.Maps.OwnSet
import Derived.Maps.OwnOps
import Derived.Test.YtglebnelmnnboaaUqaf
namespace Go.Proofs.Ytglebnelmnnboaa
open Go Go.RowKit Go.Maps
set_option linter.unusedVariables false

theorem lawVar : Keyed Try.prog 67 := int_keyed Try.underlying67
theorem zeroVar (w : World) : (zeroValue 67).run Try.prog w = .ok (.int .i64 0) w := by kernel_rfl

/-- The list with a variable put behind it, if it was not there. -/
def putV (ks : List Int) (x : Int) : List Int := if x ∈ ks then ks else ks ++ [x]
/-- Block b is a map that gives the variables of ks their places. -/
def NumMap (w : World) (b : Nat) (ks : List Int) : Prop := ∃ D : DataW Unit, w.ownsMap Try.prog 67 (plainElem Try.prog 67) b ks.length D ∧ Maps.size D = ks.length ∧ (∀ x : Int, Maps.has D (.int .i64 x) = decide (x ∈ ks)) ∧
  (∀ x ∈ ks, D.atKey (.int .i64 x) (.lit (.int .i64 0)) = .lit (.int .i64 (ks.idxOf x)))
theorem NumMap.lt {w : World} {b : Nat} {ks : List Int} (h : NumMap w b ks) : b < w.heap.size := by obtain ⟨D, h, _⟩ := h; exact h.lt
theorem NumMap.of_block {w w' : World} {b : Nat} {ks : List Int} (h : NumMap w b ks) (hb : w'.heap[b]? = w.heap[b]?) : NumMap w' b ks := by
  obtain ⟨D, ⟨es, clock, h1, r⟩, h2⟩ := h
  exact ⟨D, ⟨es, clock, hb.trans h1, r⟩, h2⟩
theorem NumMap.made (w : World) : NumMap (w.alloc (.map #[] 0)) w.heap.size [] := ⟨_, World.ownsMap_made _ _ _ _, rfl, fun x => rfl, fun x hx => by cases hx⟩

theorem of_any (b : Nat) (ks : List Int) (x : Int) (w : World) (h0 : 0 ≤ x) (h1 : x ≤ 1000000) (hl : ks.length ≤ 1000000) (hm : NumMap w b ks) :
    Calls Try.prog 70 #[.map (some b), .int .i64 x] w fun e w' => e = .returned (.int .i64 (ks.idxOf x)) ∧ NumMap w' b (putV ks x) ∧ w.grownBy w' (some b) := by
  obtain ⟨D, hown, hsz, hhas, hat⟩ := hm
  have hk := keyOf_int_mk (P := Try.prog) Try.underlying67 (q := .i64) (a := x) (WalkArith.wf_i64 (by omega))
  by_cases hx : x ∈ ks
  · have hh : Maps.has D (.int .i64 x) = true := by rw [hhas]; simpa using hx
    have hv := hat x hx
    have HO : Hid (NumMap w b (putV ks x)) := by rw [putV, if_pos hx]; exact ⟨D, hown, hsz, hhas, hat⟩
    clear hhas hat
    go_enter Try.func70, Try.ntmps70
    go_wp2_with (at_lookup; refine wpList_lookup_own_ok_int _ rfl _ _ 104 rfl 67 67 .i64 lawVar Try.underlying104 Try.underlying67 (zeroVar _) b ks.length D rfl hown _ _ rfl hk ?_; intro c hc hwc; rw [hh]; obtain rfl : c = ks.idxOf x := by (rw [hv] at hc; cases hc; rfl))
    go_ret
    exact ⟨rfl, HO.out, ⟨rfl, rfl, rfl, Nat.le_refl _, fun _ _ _ => rfl⟩⟩
  · have hh : Maps.has D (.int .i64 x) = false := by rw [hhas]; simpa using hx
    have hi : ks.idxOf x = ks.length := List.idxOf_eq_length hx
    have hkl : WideAt.IsKeyLit (.int .i64 x) := trivial
    have HF : Hid (∀ w', w'.ownsMap Try.prog 67 (plainElem Try.prog 67) b (ks.length + 1) (D.put (.int .i64 x) (.lit (.int .i64 ks.length))) → NumMap w' b (putV ks x)) := fun w' h => by
      have hm := hown.isMap
      rw [putV, if_neg hx]
      refine ⟨_, by simpa using h, ?_, fun y => ?_, fun y hy => ?_⟩
      · rw [size_put (hown.tidy lawVar), hh, hsz]; simp
      · by_cases e : y = x
        · subst e; rw [has_put_same hm hkl]; simp
        · rw [has_put_other (by simpa using e), hhas]; simp [e]
      · by_cases e : y = x
        · subst e
          rw [atKey_put_same hm hkl, List.idxOf_append, if_neg hx]
          simp
        · have hy' : y ∈ ks := by simpa [e] using hy
          rw [atKey_put_other (by simpa using e), hat y hy', List.idxOf_append, if_pos hy']
    rw [hi]
    obtain ⟨l, el⟩ : ∃ l, l = ks.length := ⟨_, rfl⟩
    rw [← el] at hown hsz hl HF ⊢
    clear hhas hat hi hx el
    go_enter Try.func70, Try.ntmps70
    go_wp2_with (first
      | (at_lookup; refine wpList_lookup_own_ok_int _ rfl _ _ 104 rfl 67 67 .i64 lawVar Try.underlying104 Try.underlying67 (zeroVar _) b l D rfl hown _ _ rfl hk ?_; intro c hc hwc; rw [hh])
      | (at_len; refine wpList_len_own _ rfl _ 104 rfl 67 67 Try.underlying104 _ b l D rfl hown ?_; rw [hsz])
      | (at_mapUpdate; refine wpList_mapUpdate_own _ rfl _ _ _ 104 rfl 67 67 lawVar Try.underlying104 _ b l D rfl hown (by unfold maxLen; omega) _ _ _ rfl rfl hk _ [] (plainElem_int Try.underlying67 (WalkArith.wf_i64 (by omega))) ?_; intro w1 hown1 hgrow1))
    go_ret
    exact ⟨rfl, HF.out _ hown1, hgrow1⟩

end Go.Proofs.Ytglebnelmnnboaa

namespace Go.Proofs.Ytglebnelmnnboaa
open Go Go.RowKit
set_option linter.unusedVariables false

/-- A tree: its cell, and what is below it. -/
abbrev Tr := Cel × Fo
abbrev TT := Tr × Tr
def Tr.fo (t : Tr) : Fo := .node t.1 t.2 .nil
def trs : Fo → List Tr
  | .nil => []
  | .node c k r => (c, k) :: trs r
theorem trs_len : ∀ F : Fo, (trs F).length = F.count
  | .nil => rfl
  | .node c k r => by simp [trs, Fo.count, trs_len r]
def eqFo : Fo → Fo → Bool
  | .nil, .nil => true
  | .node c k r, .node c' k' r' => decide (c = c') && eqFo k k' && eqFo r r'
  | .nil, .node _ _ _ => false
  | .node _ _ _, .nil => false
theorem eqFo_iff : ∀ a b : Fo, eqFo a b = true ↔ a = b
  | .nil, .nil => by simp [eqFo]
  | .node c k r, .node c' k' r' => by simp [eqFo, eqFo_iff k k', eqFo_iff r r', and_assoc]
  | .nil, .node _ _ _ => by simp [eqFo]
  | .node _ _ _, .nil => by simp [eqFo]
def eqT (x : TT) : Bool := decide (x.1.1 = x.2.1) && eqFo x.1.2 x.2.2
theorem eqT_iff (x : TT) : eqT x = true ↔ x.1 = x.2 := by
  obtain ⟨⟨c, k⟩, ⟨c', k'⟩⟩ := x
  simp [eqT, eqFo_iff]
def sames (st : List TT) : Bool := st.all eqT
theorem eqFo_zip : ∀ a b : Fo, a.count = b.count → eqFo a b = ((trs a).zip (trs b)).all eqT
  | .nil, .nil, _ => rfl
  | .node c k r, .node c' k' r', h => by
    have := eqFo_zip r r' (by simpa [Fo.count] using h)
    simp [eqFo, trs, eqT, this]
  | .nil, .node _ _ _, h => by simp [Fo.count] at h
  | .node _ _ _, .nil, h => by simp [Fo.count] at h
/-- The pairs of arguments, the first of them at the end. -/
def argPairs (x : TT) : List TT := ((trs x.1.2).zip (trs x.2.2)).reverse
/-- The pairs that an opening puts on the others. -/
def opened (x : TT) : List TT := if x.1.1 = x.2.1 then argPairs x else []
theorem sames_open (st : List TT) (x : TT) (h : x.1.1 = x.2.1) (hc : x.1.2.count = x.2.2.count) : sames (st ++ opened x) = sames (st ++ [x]) := by
  simp [sames, opened, argPairs, h, eqT, eqFo_zip _ _ hc]
theorem sames_no (st : List TT) (x : TT) (h : x.1.1 ≠ x.2.1) : sames (st ++ [x]) = false := by
  simp [sames, eqT, h]
def load : List TT → Nat
  | [] => 0
  | x :: r => x.1.2.cells.length + 1 + load r
theorem load_append : ∀ a b : List TT, load (a ++ b) = load a + load b
  | [], b => by simp [load]
  | x :: r, b => by simp [load, load_append r b]; omega
theorem load_reverse : ∀ a : List TT, load a.reverse = load a
  | [] => rfl
  | x :: r => by simp [load_append, load, load_reverse r]; omega
theorem load_zip : ∀ a b : Fo, load ((trs a).zip (trs b)) ≤ a.cells.length
  | .nil, b => by simp [trs, load]
  | .node c k r, .nil => by simp [trs, load]
  | .node c k r, .node c' k' r' => by
    have := load_zip r r'
    simp [trs, load, Fo.cells]; omega
theorem load_opened (x : TT) : load (opened x) ≤ x.1.2.cells.length := by
  unfold opened argPairs
  split
  · rw [load_reverse]; exact load_zip _ _
  · simp [load]
theorem len_load : ∀ st : List TT, st.length ≤ load st
  | [] => Nat.le_refl _
  | x :: r => by have := len_load r; simp [load]; omega
/-- Trees that are valid. -/
def Tr.ok (t : Tr) : Prop := t.fo.ok
theorem trs_ok : ∀ F : Fo, F.ok → ∀ t ∈ trs F, Tr.ok t
  | .nil, _, t, h => by simp [trs] at h
  | .node c k r, ⟨h1, h2, h3, h4, h5, h6⟩, t, h => by
    rcases List.mem_cons.1 (show t ∈ (c, k) :: trs r from h) with rfl | h'
    · exact ⟨h1, h2, h3, h4, h5, trivial⟩
    · exact trs_ok r h6 t h'
theorem opened_ok {x : TT} (h1 : x.1.ok) (h2 : x.2.ok) : ∀ y ∈ opened x, y.1.ok ∧ y.2.ok := fun y hy => by
  unfold opened argPairs at hy
  split at hy
  · have hz := List.of_mem_zip (List.mem_reverse.1 hy)
    exact ⟨trs_ok _ h1.2.2.2.2.1 _ hz.1, trs_ok _ h2.2.2.2.2.1 _ hz.2⟩
  · cases hy
theorem ok_count {x : TT} (h1 : x.1.ok) (h2 : x.2.ok) (h : x.1.1 = x.2.1) : x.1.2.count = x.2.2.count := by
  obtain ⟨⟨c, k⟩, ⟨c', k'⟩⟩ := x
  simp only at h
  subst h
  by_cases h3 : c.1 = 3
  · have e1 := h1.2.2.1 h3
    have e2 := h2.2.2.1 h3
    simp only at e1 e2 ⊢
    omega
  · have e1 : k = .nil := h1.2.2.2.1 h3
    have e2 : k' = .nil := h2.2.2.2.1 h3
    rw [e1, e2]
/-- A forest is told by its cells. -/
theorem Fo.cells_inj : ∀ (a b : Fo) (x y : List Cel), a.ok → b.ok → a.count = b.count → a.cells ++ x = b.cells ++ y → a = b ∧ x = y
  | .nil, .nil, x, y, _, _, _, h => ⟨rfl, by simpa [Fo.cells] using h⟩
  | .nil, .node _ _ _, _, _, _, _, h, _ => by simp [Fo.count] at h
  | .node _ _ _, .nil, _, _, _, _, h, _ => by simp [Fo.count] at h
  | .node c k r, .node c' k' r', x, y, h1, h2, hc, h => by
    simp only [Fo.cells, List.cons_append, List.cons.injEq, List.append_assoc] at h
    obtain ⟨rfl, h⟩ := h
    have hk : k.count = k'.count := ok_count (x := ((c, k), (c, k'))) ⟨h1.1, h1.2.1, h1.2.2.1, h1.2.2.2.1, h1.2.2.2.2.1, trivial⟩ ⟨h2.1, h2.2.1, h2.2.2.1, h2.2.2.2.1, h2.2.2.2.2.1, trivial⟩ rfl
    obtain ⟨rfl, h'⟩ := Fo.cells_inj k k' _ _ h1.2.2.2.2.1 h2.2.2.2.2.1 hk h
    obtain ⟨rfl, rfl⟩ := Fo.cells_inj r r' x y h1.2.2.2.2.2 h2.2.2.2.2.2 (by simpa [Fo.count] using hc) h'
    exact ⟨rfl, rfl⟩
theorem eqT_cells {x : TT} (h1 : x.1.ok) (h2 : x.2.ok) : eqT x = decide (x.1.1 :: x.1.2.cells = x.2.1 :: x.2.2.cells) := by
  rw [Bool.eq_iff_iff, eqT_iff, decide_eq_true_eq]
  obtain ⟨⟨c, k⟩, ⟨c', k'⟩⟩ := x
  constructor
  · intro h
    obtain ⟨rfl, rfl⟩ := Prod.mk.inj h
    rfl
  · intro h
    have := Fo.cells_inj (.node c k .nil) (.node c' k' .nil) [] [] h1 h2 rfl (by simpa [Fo.cells] using h)
    have h3 := this.1
    injection h3 with e1 e2
    rw [e1, e2]

end Go.Proofs.Ytglebnelmnnboaa

namespace Go.Proofs.Ytglebnelmnnboaa
open Go Go.RowKit
set_option linter.unusedVariables false

/-- What a number stands for. -/
def look {α : Type} : List (Int × α) → Int → Option α
  | [], _ => none
  | y :: r, x => if y.1 = x then some y.2 else look r x
theorem look_append {α : Type} : ∀ (E F : List (Int × α)) (x : Int), look (E ++ F) x = match look E x with | some t => some t | none => look F x
  | [], F, x => by simp [look]
  | y :: r, F, x => by
    by_cases h : y.1 = x
    · simp [look, h]
    · simp [look, h, look_append r F x]
theorem look_none {α : Type} : ∀ (E : List (Int × α)) (x : Int), look E x = none ↔ x ∉ E.map Prod.fst
  | [], x => by simp [look]
  | y :: r, x => by
    have := look_none r x
    by_cases h : y.1 = x
    · simp [look, h]
    · have h' : ¬ x = y.1 := fun e => h e.symm
      simp only [look, if_neg h, this, List.map_cons, List.mem_cons, h', false_or]
theorem look_at {α : Type} : ∀ (E : List (Int × α)) (x : Int) (t : α), look E x = some t → ∃ h : (E.map Prod.fst).idxOf x < E.length, (E[(E.map Prod.fst).idxOf x]'h).2 = t
  | [], x, t, h => by simp [look] at h
  | y :: r, x, t, h => by
    by_cases e : y.1 = x
    · simp only [look, if_pos e, Option.some.injEq] at h
      have : (((y :: r).map Prod.fst).idxOf x) = 0 := by simp [e]
      simp only [this]
      exact ⟨by simp, by simpa using h⟩
    · simp only [look, if_neg e] at h
      obtain ⟨h1, h2⟩ := look_at r x t h
      have hb : (y.1 == x) = false := by simpa using e
      have : (((y :: r).map Prod.fst).idxOf x) = (r.map Prod.fst).idxOf x + 1 := by rw [List.map_cons, List.idxOf_cons, hb]; rfl
      simp only [this]
      exact ⟨by simp; omega, by simpa using h2⟩
theorem look_mem {α : Type} {E : List (Int × α)} {x : Int} {t : α} (h : look E x = some t) : (x, t) ∈ E := by
  induction E with
  | nil => simp [look] at h
  | cons y r ih =>
    by_cases e : y.1 = x
    · simp only [look, if_pos e, Option.some.injEq] at h
      subst e h
      simp
    · simp only [look, if_neg e] at h
      simp [ih h]

abbrev Env := List (Int × Tr)
def subF : Env → Fo → Fo → Option Env
  | env, .nil, .nil => some env
  | env, .node c k r, .node c' k' r' =>
    if c.1 = 0 then
      match look env c.2.1 with
      | some t => if eqT (t, (c', k')) = true then subF env r r' else none
      | none => subF (env ++ [(c.2.1, (c', k'))]) r r'
    else if c = c' then (match subF env k k' with | some e => subF e r r' | none => none) else none
  | _, .nil, .node _ _ _ => none
  | _, .node _ _ _, .nil => none
def subL : Env → List TT → Option Env
  | env, [] => some env
  | env, x :: l => match subF env x.1.fo x.2.fo with | some e => subL e l | none => none
theorem subF_cat : ∀ (k k' r r' : Fo) (env : Env), k.count = k'.count → subF env (k.cat r) (k'.cat r') = match subF env k k' with | some e => subF e r r' | none => none
  | .nil, .nil, r, r', env, _ => by simp [Fo.cat, subF]
  | .nil, .node _ _ _, _, _, _, h => by simp [Fo.count] at h
  | .node _ _ _, .nil, _, _, _, h => by simp [Fo.count] at h
  | .node c k s, .node c' k' s', r, r', env, h => by
    have hs : s.count = s'.count := by simpa [Fo.count] using h
    simp only [Fo.cat, subF]
    by_cases h0 : c.1 = 0
    · simp only [if_pos h0]
      cases hl : look env c.2.1 with
      | none => simp only [subF_cat s s' r r' _ hs]
      | some t =>
        by_cases ht : eqT (t, (c', k')) = true
        · simp only [if_pos ht, subF_cat s s' r r' _ hs]
        · simp only [if_neg ht]
    · simp only [if_neg h0]
      by_cases hc : c = c'
      · simp only [if_pos hc]
        cases hk : subF env k k' with
        | none => rfl
        | some e => simp only [subF_cat s s' r r' e hs]
      · simp only [if_neg hc]
theorem subF_node (c c' : Cel) (k k' r r' : Fo) (env : Env) : subF env (.node c k r) (.node c' k' r') = match subF env (.node c k .nil) (.node c' k' .nil) with | some e => subF e r r' | none => none :=
  subF_cat (.node c k .nil) (.node c' k' .nil) r r' env rfl
theorem subL_zip : ∀ (a b : Fo) (l : List TT) (env : Env), a.count = b.count → subL env ((trs a).zip (trs b) ++ l) = match subF env a b with | some e => subL e l | none => none
  | .nil, .nil, l, env, _ => by simp [trs, subF]
  | .nil, .node _ _ _, _, _, h => by simp [Fo.count] at h
  | .node _ _ _, .nil, _, _, h => by simp [Fo.count] at h
  | .node c k r, .node c' k' r', l, env, h => by
    rw [subF_node c c' k k' r r' env]
    simp only [trs, List.zip_cons_cons, List.cons_append, subL, Tr.fo]
    cases subF env (.node c k .nil) (.node c' k' .nil) with
    | none => rfl
    | some e => exact subL_zip r r' l e (by simpa [Fo.count] using h)
/-- A variable that stands for something. -/
theorem subL_old {env : Env} {x : TT} (l : List TT) (h0 : x.1.1.1 = 0) {t : Tr} (hl : look env x.1.1.2.1 = some t) : subL env (x :: l) = if eqT (t, x.2) = true then subL env l else none := by
  obtain ⟨⟨c, k⟩, ⟨c', k'⟩⟩ := x
  simp only at h0 hl
  simp only [subL, Tr.fo, subF, if_pos h0, hl]
  by_cases ht : eqT (t, (c', k')) = true
  · simp only [if_pos ht]
  · simp only [if_neg ht]
/-- A variable that is new. -/
theorem subL_new {env : Env} {x : TT} (l : List TT) (h0 : x.1.1.1 = 0) (hl : look env x.1.1.2.1 = none) : subL env (x :: l) = subL (env ++ [(x.1.1.2.1, x.2)]) l := by
  obtain ⟨⟨c, k⟩, ⟨c', k'⟩⟩ := x
  simp only at h0 hl
  simp only [subL, Tr.fo, subF, if_pos h0, hl]
theorem subL_open {env : Env} {x : TT} (l : List TT) (h0 : x.1.1.1 ≠ 0) (hc : x.1.1 = x.2.1) (hn : x.1.2.count = x.2.2.count) : subL env ((opened x).reverse ++ l) = subL env (x :: l) := by
  obtain ⟨⟨c, k⟩, ⟨c', k'⟩⟩ := x
  simp only at h0 hc hn
  rw [opened, if_pos hc, argPairs, List.reverse_reverse, subL_zip _ _ _ _ hn]
  simp only [subL, Tr.fo, subF, if_neg h0, if_pos hc]
  cases subF env k k' <;> rfl
theorem subL_no {env : Env} {x : TT} (l : List TT) (h0 : x.1.1.1 ≠ 0) (hc : x.1.1 ≠ x.2.1) : subL env (x :: l) = none := by
  obtain ⟨⟨c, k⟩, ⟨c', k'⟩⟩ := x
  simp only at h0 hc
  simp only [subL, Tr.fo, subF, if_neg h0, if_neg hc]

end Go.Proofs.Ytglebnelmnnboaa

