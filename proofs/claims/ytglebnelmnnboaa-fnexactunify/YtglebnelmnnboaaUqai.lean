/- Texts of VMap, TermG, FunG. Own work of the verifier. -/
import Derived.Test.YtglebnelmnnboaaUqah
import Derived.Test.YtglebnelmnnboaaUqag
namespace Go.Proofs.Ytglebnelmnnboaa
open Go Go.RowKit Go.Maps
set_option linter.unusedVariables false

/-- How whatever value reads as an element. -/
def anyE (v : Value) : Option (DataW Value × List MemPlace) := some (.held v, [])
/-- The entries with one more, or with another. -/
def putE {α : Type} (E : List (Int × α)) (x : Int) (v : α) : List (Int × α) := if x ∈ E.map Prod.fst then E.map (fun y => if y.1 = x then (x, v) else y) else E ++ [(x, v)]
theorem look_map {α : Type} (x : Int) (v : α) : ∀ (E : List (Int × α)) (y : Int), look (E.map (fun z => if z.1 = x then (x, v) else z)) y = if y = x then (if x ∈ E.map Prod.fst then some v else none) else look E y
  | [], y => by simp [look]
  | z :: r, y => by
    have ih := look_map x v r y
    by_cases h1 : z.1 = x
    · by_cases h2 : y = x
      · subst h2; simp [look, h1]
      · have h3 : ¬ x = y := fun e => h2 e.symm
        simp [look, h1, h2, h3] at ih ⊢
        exact ih
    · have h4 : ¬ x = z.1 := fun e => h1 e.symm
      by_cases h2 : y = x
      · subst h2
        simp only [if_true] at ih
        simp only [List.map_cons, if_neg h1, look, ih, if_true, List.mem_cons, h4, false_or]
      · simp [look, h1, h2] at ih ⊢
        rw [ih]
theorem look_putE {α : Type} (E : List (Int × α)) (x : Int) (v : α) (y : Int) : look (putE E x v) y = if y = x then some v else look E y := by
  unfold putE
  split
  · rename_i h
    rw [look_map]
    simp [h]
  · rename_i h
    rw [look_append]
    by_cases e : y = x
    · subst e
      rw [(look_none E y).2 h]; simp [look]
    · have h3 : ¬ x = y := fun e' => e e'.symm
      cases look E y <;> simp [look, e, h3]
theorem putE_len {α : Type} (E : List (Int × α)) (x : Int) (v : α) : (putE E x v).length = if (look E x).isSome then E.length else E.length + 1 := by
  unfold putE
  by_cases h : x ∈ E.map Prod.fst
  · have : (look E x).isSome = true := by
      cases hl : look E x with
      | none => exact absurd h ((look_none E x).1 hl)
      | some t => rfl
    rw [if_pos h, this]; simp
  · rw [if_neg h, (look_none E x).2 h]; simp
theorem putE_new {α : Type} {E : List (Int × α)} {x : Int} (v : α) (h : look E x = none) : putE E x v = E ++ [(x, v)] := by
  unfold putE
  rw [if_neg ((look_none E x).1 h)]
/-- Block b is a map of at most N entries: these. -/
def VMap (w : World) (b N : Nat) (E : List (Int × Value)) : Prop := ∃ D : DataW Value, w.ownsMap Try.prog 67 anyE b N D ∧ Maps.size D = E.length ∧ (∀ x : Int, Maps.has D (.int .i64 x) = (look E x).isSome) ∧
  (∀ (x : Int) z, D.atKey (.int .i64 x) z = match look E x with | some v => .held v | none => z)
theorem VMap.lt {w : World} {b N : Nat} {E : List (Int × Value)} (h : VMap w b N E) : b < w.heap.size := by obtain ⟨D, h, _⟩ := h; exact h.lt
theorem VMap.of_block {w w' : World} {b N : Nat} {E : List (Int × Value)} (h : VMap w b N E) (hb : w'.heap[b]? = w.heap[b]?) : VMap w' b N E := by
  obtain ⟨D, ⟨es, clock, h1, r⟩, h2⟩ := h
  exact ⟨D, ⟨es, clock, hb.trans h1, r⟩, h2⟩
theorem VMap.below {w w' : World} {b N : Nat} {E : List (Int × Value)} (h : VMap w b N E) (hb : Below w.heap.size w w') : VMap w' b N E := h.of_block (hb.block _ h.lt)
theorem VMap.mono {w : World} {b N N' : Nat} {E : List (Int × Value)} (h : VMap w b N E) (hn : N ≤ N') : VMap w b N' E := by
  obtain ⟨D, h1, h2⟩ := h
  exact ⟨D, h1.mono hn, h2⟩
theorem VMap.made (w : World) : VMap (w.alloc (.map #[] 0)) w.heap.size 0 [] := ⟨_, World.ownsMap_made _ _ _ _, rfl, fun x => rfl, fun x z => rfl⟩
theorem key_of (x : Int) (h0 : 0 ≤ x) (h1 : x ≤ 1000000) : keyOf Try.prog 67 (.int .i64 x) = some (.int .i64 x) := keyOf_int_mk (P := Try.prog) Try.underlying67 (q := .i64) (a := x) (WalkArith.wf_i64 (by omega))
/-- A look-up. -/
theorem VMap.look {w : World} {b N : Nat} {E : List (Int × Value)} (h : VMap w b N E) {t e : TypeId} (ht : Try.prog.underlying t = some (.map 67 e)) {z : Value} (hz : (zeroValue e).run Try.prog w = .ok z w) (x : Int) (h0 : 0 ≤ x) (h1 : x ≤ 1000000) :
    (Instr.lookup t (.map (some b)) (.int .i64 x) true).run Try.prog w = .ok (.tuple #[(match Go.Proofs.Ytglebnelmnnboaa.look E x with | some v => v | none => z), .bool (Go.Proofs.Ytglebnelmnnboaa.look E x).isSome]) w := by
  obtain ⟨D, hown, hsz, hhas, hat⟩ := h
  obtain ⟨v, ps, hrun, hv⟩ := hown.look_ok lawVar ht hz (zd := .held z) (zp := []) rfl (key_of x h0 h1)
  rw [hrun, hhas]
  rw [hat] at hv
  simp only [anyE, Option.some.injEq, Prod.mk.injEq] at hv
  have hv := hv.1
  cases hl : Go.Proofs.Ytglebnelmnnboaa.look E x with
  | none => rw [hl] at hv; cases hv; rfl
  | some u => rw [hl] at hv; cases hv; rfl
/-- A store. -/
theorem VMap.put {w : World} {b N : Nat} {E : List (Int × Value)} (h : VMap w b N E) {t e : TypeId} (ht : Try.prog.underlying t = some (.map 67 e)) (hN : N ≤ 1000000) (x : Int) (h0 : 0 ≤ x) (h1 : x ≤ 1000000) (v : Value) :
    ∃ w', (Instr.mapUpdate t (.map (some b)) (.int .i64 x) v).run Try.prog w = .ok () w' ∧ VMap w' b (N + 1) (putE E x v) ∧ w.grownBy w' (some b) := by
  obtain ⟨D, hown, hsz, hhas, hat⟩ := h
  obtain ⟨w', hrun, hown', hg⟩ := hown.update lawVar ht (by unfold maxLen; omega) (key_of x h0 h1) (show anyE v = some (.held v, []) from rfl)
  have hm := hown.isMap
  have hkl : WideAt.IsKeyLit (.int .i64 x) := trivial
  refine ⟨w', hrun, ⟨_, hown', ?_, fun y => ?_, fun y z => ?_⟩, hg⟩
  · rw [size_put (hown.tidy lawVar), hhas, hsz, putE_len]
  · rw [look_putE]
    by_cases e : y = x
    · subst e; rw [has_put_same hm hkl]; simp
    · rw [has_put_other (by simpa using e), hhas]; simp [e]
  · rw [look_putE]
    by_cases e : y = x
    · subst e
      rw [atKey_put_same hm hkl]; simp
    · rw [atKey_put_other (by simpa using e), hat]; simp [e]

theorem zeroTerm (w : World) : (zeroValue 53).run Try.prog w = .ok .nilIface w := by kernel_rfl
/-- What keep answers. -/
def KeepOut (w : World) (b N : Nat) (E : List (Int × Value)) (x : Int) (v : Value) (e : Ending) (w' : World) : Prop :=
  e = .returned (match look E x with | some u => u | none => v) ∧ VMap w' b (N + 1) (match look E x with | some _ => E | none => E ++ [(x, v)]) ∧ w.grownBy w' (some b)
set_option maxRecDepth 100000 in
theorem keep_any (b N : Nat) (E : List (Int × Value)) (x : Int) (t : TypeId) (y : Value) (w : World) (h0 : 0 ≤ x) (h1 : x ≤ 1000000) (hN : N ≤ 1000000) (hu : ∀ u, look E x = some u → ∃ t' y', u = .iface t' y') (hm : VMap w b N E) :
    Calls Try.prog 63 #[.map (some b), .int .i64 x, .iface t y] w (KeepOut w b N E x (.iface t y)) := by
  have hlk := hm.look (t := 89) Try.underlying89 (zeroTerm w) x h0 h1
  cases hl : look E x with
  | none =>
    obtain ⟨w', hrun, hm', hg⟩ := hm.put (t := 89) Try.underlying89 hN x h0 h1 (.iface t y)
    rw [putE_new _ hl] at hm'
    rw [hl] at hlk
    simp only [Option.isSome_none] at hlk
    have HF : Hid (KeepOut w b N E x (.iface t y) (.returned (.iface t y)) w') := by
      unfold KeepOut Hid
      rw [hl]
      exact ⟨rfl, hm', hg⟩
    clear hl hm hm' hg hu
    go_enter Try.func63, Try.ntmps63
    go_wp2
    go_ret
    exact HF.out
  | some u =>
    obtain ⟨t', y', rfl⟩ := hu u hl
    rw [hl] at hlk
    simp only [Option.isSome_some] at hlk
    have HF : Hid (KeepOut w b N E x (.iface t y) (.returned (.iface t' y')) w) := by
      unfold KeepOut Hid
      rw [hl]
      exact ⟨rfl, hm.mono (by omega), ⟨rfl, rfl, rfl, Nat.le_refl _, fun _ _ _ => rfl⟩⟩
    clear hl hm hu
    go_enter Try.func63, Try.ntmps63
    go_wp2
    go_ret
    exact HF.out

end Go.Proofs.Ytglebnelmnnboaa

namespace Go.Proofs.Ytglebnelmnnboaa
open Go Go.RowKit
set_option linter.unusedVariables false

/-- What is valid is one tree. -/
theorem tree_of {cs : List Cel} (hb : ∀ i, i < cs.length → Byte (cs.getD i Cel.none).2.2) (hv : validB cs = true) : ∃ c k, cs = c :: k.cells ∧ (Fo.node c k .nil).ok ∧ cs.length ≤ 2000 := by
  simp only [validB, Bool.and_eq_true, decide_eq_true_eq] at hv
  obtain ⟨F, h1, h2, h3⟩ := forest_of cs 1 hb hv.2
  cases F with
  | nil => simp [Fo.count] at h1
  | node c k r =>
    cases r with
    | nil => exact ⟨c, k, by rw [← h2]; simp [Fo.cells], h3, hv.1⟩
    | node a b d => simp [Fo.count] at h1
set_option maxRecDepth 100000 in
theorem termOf_any (c : Cel) (k : Fo) (p : Option Addr) (n cap : Nat) (w : World) (hok : (Fo.node c k .nil).ok) (hn : n = k.cells.length + 1) (hc : n ≤ cap) (hm : cap ≤ 1000000000) (hin : CIn w p (c :: k.cells)) :
    Calls Try.prog 33 #[.slice p n cap] w fun e w' => ∃ v, e = .returned v ∧ FoIn w' w.heap.size (.node c k .nil) [v] ∧ Below w.heap.size w w' := by
  have HF : Calls Try.prog 65 #[.slice p n cap] w (FirstOut w w c k [] cap) := firstTerm_any k.cells.length c k p n cap [] w w (Below.refl _ _) (Nat.le_refl _) hok (by rw [hn]; rfl) hc hm (by rw [List.append_nil]; exact hin)
  clear hok hin hn
  go_enter Try.func33, Try.ntmps33
  go_wp2_with fail
  refine HF.mono ?_
  rintro e w1 ⟨v, q, l, cp, rfl, _, _, _, hfo, hb⟩
  obtain ⟨vt, vx, rfl⟩ := hfo.iface
  have HFO : Hid (FoIn w1 w.heap.size (.node c k .nil) [.iface vt vx]) := hfo
  have HB : Hid (Below w.heap.size w w1) := hb
  clear hfo hb HF
  go_wp2_with fail
  go_ret
  exact ⟨_, rfl, HFO.out, HB.out⟩

end Go.Proofs.Ytglebnelmnnboaa

namespace Go.Proofs.Ytglebnelmnnboaa
open Go Go.RowKit
set_option linter.unusedVariables false

theorem noAtom_comp (w : World) (x : Value) : (Instr.typeAssert (.iface 108 x) 53 139 true).run Try.prog w = .ok (.tuple #[.string ⟨#[]⟩, .bool false]) w := by kernel_rfl
theorem isAtom (w : World) (x : Value) : (Instr.typeAssert (.iface 139 x) 53 139 true).run Try.prog w = .ok (.tuple #[x, .bool true]) w := by kernel_rfl
set_option maxRecDepth 100000 in
theorem functor_any (b g q : Nat) (str : ByteArray) (w : World) (h0 : w.cell? ⟨b, 0, none⟩ = some (.string str)) (h1 : w.cell? ⟨b, 1, none⟩ = some (.slice (some ⟨g, 0, none⟩) q q)) :
    Calls Try.prog 83 #[.pointer (some ⟨b, 0, none⟩)] w fun e w' => e = .returned (.agg #[.string str, .int .i64 q]) ∧ Below w.heap.size w w' := by
  have a0 : ∀ x, (w.alloc x).cell? ⟨b, 0, none⟩ = some (.string str) := fun x => Lib.cell?_alloc_marked x h0
  have a1 : ∀ x, (w.alloc x).cell? ⟨b, 1, none⟩ = some (.slice (some ⟨g, 0, none⟩) q q) := fun x => Lib.cell?_alloc_marked x h1
  go_enter Try.func83, Try.ntmps83
  go_wp2_with fail
  go_region
  all_goals go_wp2_with fail
  all_goals exact bodyPost_ret (v := .agg #[.string str, .int .i64 q]) (by simp [results, Try.results83, go_sem]) rfl ⟨rfl, ((Below.refl _ _).alloc (Nat.le_refl _) _).drew⟩

end Go.Proofs.Ytglebnelmnnboaa

