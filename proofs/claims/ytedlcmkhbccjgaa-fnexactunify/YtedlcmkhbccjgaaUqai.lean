/- Texts of SubP, VMp, VMap. Own work of the verifier. -/
import Derived.Test.YtedlcmkhbccjgaaUqah
namespace Go.Proofs.Ytedlcmkhbccjgaa
open Go Go.RowKit
set_option linter.unusedVariables false

/-- What a number stands for. -/
def look {α : Type} : List (Int × α) → Int → Option α
  | [], _ => none
  | y :: r, x => if y.1 = x then some y.2 else look r x
theorem look_append {α : Type} : ∀ (E F : List (Int × α)) (x : Int), look (E ++ F) x = match look E x with | some t => some t | none => look F x
  | [], F, x => by simp [look]
  | y :: r, F, x => by
    by_cases h : y.1 = x
    · simp [look, h]
    · simp [look, h, look_append r F x]
theorem look_none {α : Type} : ∀ (E : List (Int × α)) (x : Int), look E x = none ↔ x ∉ E.map Prod.fst
  | [], x => by simp [look]
  | y :: r, x => by
    have := look_none r x
    by_cases h : y.1 = x
    · simp [look, h]
    · have h' : ¬ x = y.1 := fun e => h e.symm
      simp only [look, if_neg h, this, List.map_cons, List.mem_cons, h', false_or]
theorem look_at {α : Type} : ∀ (E : List (Int × α)) (x : Int) (t : α), look E x = some t → ∃ h : (E.map Prod.fst).idxOf x < E.length, (E[(E.map Prod.fst).idxOf x]'h).2 = t
  | [], x, t, h => by simp [look] at h
  | y :: r, x, t, h => by
    by_cases e : y.1 = x
    · simp only [look, if_pos e, Option.some.injEq] at h
      have : (((y :: r).map Prod.fst).idxOf x) = 0 := by simp [e]
      simp only [this]
      exact ⟨by simp, by simpa using h⟩
    · simp only [look, if_neg e] at h
      obtain ⟨h1, h2⟩ := look_at r x t h
      have hb : (y.1 == x) = false := by simpa using e
      have : (((y :: r).map Prod.fst).idxOf x) = (r.map Prod.fst).idxOf x + 1 := by rw [List.map_cons, List.idxOf_cons, hb]; rfl
      simp only [this]
      exact ⟨by simp; omega, by simpa using h2⟩
theorem look_mem {α : Type} {E : List (Int × α)} {x : Int} {t : α} (h : look E x = some t) : (x, t) ∈ E := by
  induction E with
  | nil => simp [look] at h
  | cons y r ih =>
    by_cases e : y.1 = x
    · simp only [look, if_pos e, Option.some.injEq] at h
      subst e h
      simp
    · simp only [look, if_neg e] at h
      simp [ih h]

abbrev Env := List (Int × Tr)
def subF : Env → Fo → Fo → Option Env
  | env, .nil, .nil => some env
  | env, .node c k r, .node c' k' r' =>
    if c.1 = 0 then
      match look env c.2.1 with
      | some t => if eqT (t, (c', k')) = true then subF env r r' else none
      | none => subF (env ++ [(c.2.1, (c', k'))]) r r'
    else if c = c' then (match subF env k k' with | some e => subF e r r' | none => none) else none
  | _, .nil, .node _ _ _ => none
  | _, .node _ _ _, .nil => none
def subL : Env → List TT → Option Env
  | env, [] => some env
  | env, x :: l => match subF env x.1.fo x.2.fo with | some e => subL e l | none => none
theorem subF_cat : ∀ (k k' r r' : Fo) (env : Env), k.count = k'.count → subF env (k.cat r) (k'.cat r') = match subF env k k' with | some e => subF e r r' | none => none
  | .nil, .nil, r, r', env, _ => by simp [Fo.cat, subF]
  | .nil, .node _ _ _, _, _, _, h => by simp [Fo.count] at h
  | .node _ _ _, .nil, _, _, _, h => by simp [Fo.count] at h
  | .node c k s, .node c' k' s', r, r', env, h => by
    have hs : s.count = s'.count := by simpa [Fo.count] using h
    simp only [Fo.cat, subF]
    by_cases h0 : c.1 = 0
    · simp only [if_pos h0]
      cases hl : look env c.2.1 with
      | none => simp only [subF_cat s s' r r' _ hs]
      | some t =>
        by_cases ht : eqT (t, (c', k')) = true
        · simp only [if_pos ht, subF_cat s s' r r' _ hs]
        · simp only [if_neg ht]
    · simp only [if_neg h0]
      by_cases hc : c = c'
      · simp only [if_pos hc]
        cases hk : subF env k k' with
        | none => rfl
        | some e => simp only [subF_cat s s' r r' e hs]
      · simp only [if_neg hc]
theorem subF_node (c c' : Cel) (k k' r r' : Fo) (env : Env) : subF env (.node c k r) (.node c' k' r') = match subF env (.node c k .nil) (.node c' k' .nil) with | some e => subF e r r' | none => none :=
  subF_cat (.node c k .nil) (.node c' k' .nil) r r' env rfl
theorem subL_zip : ∀ (a b : Fo) (l : List TT) (env : Env), a.count = b.count → subL env ((trs a).zip (trs b) ++ l) = match subF env a b with | some e => subL e l | none => none
  | .nil, .nil, l, env, _ => by simp [trs, subF]
  | .nil, .node _ _ _, _, _, h => by simp [Fo.count] at h
  | .node _ _ _, .nil, _, _, h => by simp [Fo.count] at h
  | .node c k r, .node c' k' r', l, env, h => by
    rw [subF_node c c' k k' r r' env]
    simp only [trs, List.zip_cons_cons, List.cons_append, subL, Tr.fo]
    cases subF env (.node c k .nil) (.node c' k' .nil) with
    | none => rfl
    | some e => exact subL_zip r r' l e (by simpa [Fo.count] using h)
/-- A variable that stands for something. -/
theorem subL_old {env : Env} {x : TT} (l : List TT) (h0 : x.1.1.1 = 0) {t : Tr} (hl : look env x.1.1.2.1 = some t) : subL env (x :: l) = if eqT (t, x.2) = true then subL env l else none := by
  obtain ⟨⟨c, k⟩, ⟨c', k'⟩⟩ := x
  simp only at h0 hl
  simp only [subL, Tr.fo, subF, if_pos h0, hl]
  by_cases ht : eqT (t, (c', k')) = true
  · simp only [if_pos ht]
  · simp only [if_neg ht]
/-- A variable that is new. -/
theorem subL_new {env : Env} {x : TT} (l : List TT) (h0 : x.1.1.1 = 0) (hl : look env x.1.1.2.1 = none) : subL env (x :: l) = subL (env ++ [(x.1.1.2.1, x.2)]) l := by
  obtain ⟨⟨c, k⟩, ⟨c', k'⟩⟩ := x
  simp only at h0 hl
  simp only [subL, Tr.fo, subF, if_pos h0, hl]
theorem subL_open {env : Env} {x : TT} (l : List TT) (h0 : x.1.1.1 ≠ 0) (hc : x.1.1 = x.2.1) (hn : x.1.2.count = x.2.2.count) : subL env ((opened x).reverse ++ l) = subL env (x :: l) := by
  obtain ⟨⟨c, k⟩, ⟨c', k'⟩⟩ := x
  simp only at h0 hc hn
  rw [opened, if_pos hc, argPairs, List.reverse_reverse, subL_zip _ _ _ _ hn]
  simp only [subL, Tr.fo, subF, if_neg h0, if_pos hc]
  cases subF env k k' <;> rfl
theorem subL_no {env : Env} {x : TT} (l : List TT) (h0 : x.1.1.1 ≠ 0) (hc : x.1.1 ≠ x.2.1) : subL env (x :: l) = none := by
  obtain ⟨⟨c, k⟩, ⟨c', k'⟩⟩ := x
  simp only at h0 hc
  simp only [subL, Tr.fo, subF, if_neg h0, if_neg hc]

end Go.Proofs.Ytedlcmkhbccjgaa

namespace Go.Proofs.Ytedlcmkhbccjgaa
open Go Go.RowKit Go.Maps
set_option linter.unusedVariables false

/-- How whatever value reads as an element. -/
def anyE (v : Value) : Option (DataW Value × List MemPlace) := some (.held v, [])
/-- The entries with one more, or with another. -/
def putE {α : Type} (E : List (Int × α)) (x : Int) (v : α) : List (Int × α) := if x ∈ E.map Prod.fst then E.map (fun y => if y.1 = x then (x, v) else y) else E ++ [(x, v)]
theorem look_map {α : Type} (x : Int) (v : α) : ∀ (E : List (Int × α)) (y : Int), look (E.map (fun z => if z.1 = x then (x, v) else z)) y = if y = x then (if x ∈ E.map Prod.fst then some v else none) else look E y
  | [], y => by simp [look]
  | z :: r, y => by
    have ih := look_map x v r y
    by_cases h1 : z.1 = x
    · by_cases h2 : y = x
      · subst h2; simp [look, h1]
      · have h3 : ¬ x = y := fun e => h2 e.symm
        simp [look, h1, h2, h3] at ih ⊢
        exact ih
    · have h4 : ¬ x = z.1 := fun e => h1 e.symm
      by_cases h2 : y = x
      · subst h2
        simp only [if_true] at ih
        simp only [List.map_cons, if_neg h1, look, ih, if_true, List.mem_cons, h4, false_or]
      · simp [look, h1, h2] at ih ⊢
        rw [ih]
theorem look_putE {α : Type} (E : List (Int × α)) (x : Int) (v : α) (y : Int) : look (putE E x v) y = if y = x then some v else look E y := by
  unfold putE
  split
  · rename_i h
    rw [look_map]
    simp [h]
  · rename_i h
    rw [look_append]
    by_cases e : y = x
    · subst e
      rw [(look_none E y).2 h]; simp [look]
    · have h3 : ¬ x = y := fun e' => e e'.symm
      cases look E y <;> simp [look, e, h3]
theorem putE_len {α : Type} (E : List (Int × α)) (x : Int) (v : α) : (putE E x v).length = if (look E x).isSome then E.length else E.length + 1 := by
  unfold putE
  by_cases h : x ∈ E.map Prod.fst
  · have : (look E x).isSome = true := by
      cases hl : look E x with
      | none => exact absurd h ((look_none E x).1 hl)
      | some t => rfl
    rw [if_pos h, this]; simp
  · rw [if_neg h, (look_none E x).2 h]; simp
theorem putE_new {α : Type} {E : List (Int × α)} {x : Int} (v : α) (h : look E x = none) : putE E x v = E ++ [(x, v)] := by
  unfold putE
  rw [if_neg ((look_none E x).1 h)]
/-- Block b is a map of at most N entries: these. -/
def VMap (w : World) (b N : Nat) (E : List (Int × Value)) : Prop := ∃ D : DataW Value, w.ownsMap Try.prog 67 anyE b N D ∧ Maps.size D = E.length ∧ (∀ x : Int, Maps.has D (.int .i64 x) = (look E x).isSome) ∧
  (∀ (x : Int) z, D.atKey (.int .i64 x) z = match look E x with | some v => .held v | none => z)
theorem VMap.lt {w : World} {b N : Nat} {E : List (Int × Value)} (h : VMap w b N E) : b < w.heap.size := by obtain ⟨D, h, _⟩ := h; exact h.lt
theorem VMap.of_block {w w' : World} {b N : Nat} {E : List (Int × Value)} (h : VMap w b N E) (hb : w'.heap[b]? = w.heap[b]?) : VMap w' b N E := by
  obtain ⟨D, ⟨es, clock, h1, r⟩, h2⟩ := h
  exact ⟨D, ⟨es, clock, hb.trans h1, r⟩, h2⟩
theorem VMap.below {w w' : World} {b N : Nat} {E : List (Int × Value)} (h : VMap w b N E) (hb : Below w.heap.size w w') : VMap w' b N E := h.of_block (hb.block _ h.lt)
theorem VMap.mono {w : World} {b N N' : Nat} {E : List (Int × Value)} (h : VMap w b N E) (hn : N ≤ N') : VMap w b N' E := by
  obtain ⟨D, h1, h2⟩ := h
  exact ⟨D, h1.mono hn, h2⟩
theorem VMap.made (w : World) : VMap (w.alloc (.map #[] 0)) w.heap.size 0 [] := ⟨_, World.ownsMap_made _ _ _ _, rfl, fun x => rfl, fun x z => rfl⟩
theorem key_of (x : Int) (h0 : 0 ≤ x) (h1 : x ≤ 1000000) : keyOf Try.prog 67 (.int .i64 x) = some (.int .i64 x) := keyOf_int_mk (P := Try.prog) Try.underlying67 (q := .i64) (a := x) (WalkArith.wf_i64 (by omega))
/-- A look-up. -/
theorem VMap.look {w : World} {b N : Nat} {E : List (Int × Value)} (h : VMap w b N E) {t e : TypeId} (ht : Try.prog.underlying t = some (.map 67 e)) {z : Value} (hz : (zeroValue e).run Try.prog w = .ok z w) (x : Int) (h0 : 0 ≤ x) (h1 : x ≤ 1000000) :
    (Instr.lookup t (.map (some b)) (.int .i64 x) true).run Try.prog w = .ok (.tuple #[(match Go.Proofs.Ytedlcmkhbccjgaa.look E x with | some v => v | none => z), .bool (Go.Proofs.Ytedlcmkhbccjgaa.look E x).isSome]) w := by
  obtain ⟨D, hown, hsz, hhas, hat⟩ := h
  obtain ⟨v, ps, hrun, hv⟩ := hown.look_ok lawVar ht hz (zd := .held z) (zp := []) rfl (key_of x h0 h1)
  rw [hrun, hhas]
  rw [hat] at hv
  simp only [anyE, Option.some.injEq, Prod.mk.injEq] at hv
  have hv := hv.1
  cases hl : Go.Proofs.Ytedlcmkhbccjgaa.look E x with
  | none => rw [hl] at hv; cases hv; rfl
  | some u => rw [hl] at hv; cases hv; rfl
/-- A store. -/
theorem VMap.put {w : World} {b N : Nat} {E : List (Int × Value)} (h : VMap w b N E) {t e : TypeId} (ht : Try.prog.underlying t = some (.map 67 e)) (hN : N ≤ 1000000) (x : Int) (h0 : 0 ≤ x) (h1 : x ≤ 1000000) (v : Value) :
    ∃ w', (Instr.mapUpdate t (.map (some b)) (.int .i64 x) v).run Try.prog w = .ok () w' ∧ VMap w' b (N + 1) (putE E x v) ∧ w.grownBy w' (some b) := by
  obtain ⟨D, hown, hsz, hhas, hat⟩ := h
  obtain ⟨w', hrun, hown', hg⟩ := hown.update lawVar ht (by unfold maxLen; omega) (key_of x h0 h1) (show anyE v = some (.held v, []) from rfl)
  have hm := hown.isMap
  have hkl : WideAt.IsKeyLit (.int .i64 x) := trivial
  refine ⟨w', hrun, ⟨_, hown', ?_, fun y => ?_, fun y z => ?_⟩, hg⟩
  · rw [size_put (hown.tidy lawVar), hhas, hsz, putE_len]
  · rw [look_putE]
    by_cases e : y = x
    · subst e; rw [has_put_same hm hkl]; simp
    · rw [has_put_other (by simpa using e), hhas]; simp [e]
  · rw [look_putE]
    by_cases e : y = x
    · subst e
      rw [atKey_put_same hm hkl]; simp
    · rw [atKey_put_other (by simpa using e), hat]; simp [e]

end Go.Proofs.Ytedlcmkhbccjgaa

namespace Go.Proofs.Ytedlcmkhbccjgaa
open Go Go.RowKit Go.Maps
set_option linter.unusedVariables false

theorem zeroTerm (w : World) : (zeroValue 53).run Try.prog w = .ok .nilIface w := by kernel_rfl
/-- What keep answers. -/
def KeepOut (w : World) (b N : Nat) (E : List (Int × Value)) (x : Int) (v : Value) (e : Ending) (w' : World) : Prop :=
  e = .returned (match look E x with | some u => u | none => v) ∧ VMap w' b (N + 1) (match look E x with | some _ => E | none => E ++ [(x, v)]) ∧ w.grownBy w' (some b)
set_option maxRecDepth 100000 in
theorem keep_any (b N : Nat) (E : List (Int × Value)) (x : Int) (t : TypeId) (y : Value) (w : World) (h0 : 0 ≤ x) (h1 : x ≤ 1000000) (hN : N ≤ 1000000) (hu : ∀ u, look E x = some u → ∃ t' y', u = .iface t' y') (hm : VMap w b N E) :
    Calls Try.prog 63 #[.map (some b), .int .i64 x, .iface t y] w (KeepOut w b N E x (.iface t y)) := by
  have hlk := hm.look (t := 89) Try.underlying89 (zeroTerm w) x h0 h1
  cases hl : look E x with
  | none =>
    obtain ⟨w', hrun, hm', hg⟩ := hm.put (t := 89) Try.underlying89 hN x h0 h1 (.iface t y)
    rw [putE_new _ hl] at hm'
    rw [hl] at hlk
    simp only [Option.isSome_none] at hlk
    have HF : Hid (KeepOut w b N E x (.iface t y) (.returned (.iface t y)) w') := by
      unfold KeepOut Hid
      rw [hl]
      exact ⟨rfl, hm', hg⟩
    clear hl hm hm' hg hu
    go_enter Try.func63, Try.ntmps63
    go_wp2
    go_ret
    exact HF.out
  | some u =>
    obtain ⟨t', y', rfl⟩ := hu u hl
    rw [hl] at hlk
    simp only [Option.isSome_some] at hlk
    have HF : Hid (KeepOut w b N E x (.iface t y) (.returned (.iface t' y')) w) := by
      unfold KeepOut Hid
      rw [hl]
      exact ⟨rfl, hm.mono (by omega), ⟨rfl, rfl, rfl, Nat.le_refl _, fun _ _ _ => rfl⟩⟩
    clear hl hm hu
    go_enter Try.func63, Try.ntmps63
    go_wp2
    go_ret
    exact HF.out

end Go.Proofs.Ytedlcmkhbccjgaa

