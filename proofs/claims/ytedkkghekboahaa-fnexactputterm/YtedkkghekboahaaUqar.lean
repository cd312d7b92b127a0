/- Texts of VMp, PtA, DrA. Own work of the verifier. -/
import Derived.Test.YtedkkghekboahaaUqaq
import Derived.Test.YtedkkghekboahaaUqao
import Derived.Test.YtedkkghekboahaaUqap
import Derived.Test.YtedkkghekboahaaUqai
import Derived.Lib.AppendZerosOnto
import Derived.Handy
namespace Go.Proofs.Ytedkkghekboahaa
open Go Go.RowKit Go.Maps
set_option linter.unusedVariables false

/-- How whatever value reads as an element. -/
def anyE (v : Value) : Option (DataW Value × List MemPlace) := some (.held v, [])
/-- The entries with one more, or with another. -/
def putE {α : Type} (E : List (Int × α)) (x : Int) (v : α) : List (Int × α) := if x ∈ E.map Prod.fst then E.map (fun y => if y.1 = x then (x, v) else y) else E ++ [(x, v)]
theorem look_map {α : Type} (x : Int) (v : α) : ∀ (E : List (Int × α)) (y : Int), look (E.map (fun z => if z.1 = x then (x, v) else z)) y = if y = x then (if x ∈ E.map Prod.fst then some v else none) else look E y
  | [], y => by simp [look]
  | z :: r, y => by
    have ih := look_map x v r y
    by_cases h1 : z.1 = x
    · by_cases h2 : y = x
      · subst h2; simp [look, h1]
      · have h3 : ¬ x = y := fun e => h2 e.symm
        simp [look, h1, h2, h3] at ih ⊢
        exact ih
    · have h4 : ¬ x = z.1 := fun e => h1 e.symm
      by_cases h2 : y = x
      · subst h2
        simp only [if_true] at ih
        simp only [List.map_cons, if_neg h1, look, ih, if_true, List.mem_cons, h4, false_or]
      · simp [look, h1, h2] at ih ⊢
        rw [ih]
theorem look_putE {α : Type} (E : List (Int × α)) (x : Int) (v : α) (y : Int) : look (putE E x v) y = if y = x then some v else look E y := by
  unfold putE
  split
  · rename_i h
    rw [look_map]
    simp [h]
  · rename_i h
    rw [look_append]
    by_cases e : y = x
    · subst e
      rw [(look_none E y).2 h]; simp [look]
    · have h3 : ¬ x = y := fun e' => e e'.symm
      cases look E y <;> simp [look, e, h3]
theorem putE_len {α : Type} (E : List (Int × α)) (x : Int) (v : α) : (putE E x v).length = if (look E x).isSome then E.length else E.length + 1 := by
  unfold putE
  by_cases h : x ∈ E.map Prod.fst
  · have : (look E x).isSome = true := by
      cases hl : look E x with
      | none => exact absurd h ((look_none E x).1 hl)
      | some t => rfl
    rw [if_pos h, this]; simp
  · rw [if_neg h, (look_none E x).2 h]; simp
theorem putE_new {α : Type} {E : List (Int × α)} {x : Int} (v : α) (h : look E x = none) : putE E x v = E ++ [(x, v)] := by
  unfold putE
  rw [if_neg ((look_none E x).1 h)]
/-- Block b is a map of at most N entries: these. -/
def VMap (w : World) (b N : Nat) (E : List (Int × Value)) : Prop := ∃ D : DataW Value, w.ownsMap Try.prog 120 anyE b N D ∧ Maps.size D = E.length ∧ (∀ x : Int, Maps.has D (.int .i64 x) = (look E x).isSome) ∧
  (∀ (x : Int) z, D.atKey (.int .i64 x) z = match look E x with | some v => .held v | none => z)
theorem VMap.lt {w : World} {b N : Nat} {E : List (Int × Value)} (h : VMap w b N E) : b < w.heap.size := by obtain ⟨D, h, _⟩ := h; exact h.lt
theorem VMap.of_block {w w' : World} {b N : Nat} {E : List (Int × Value)} (h : VMap w b N E) (hb : w'.heap[b]? = w.heap[b]?) : VMap w' b N E := by
  obtain ⟨D, ⟨es, clock, h1, r⟩, h2⟩ := h
  exact ⟨D, ⟨es, clock, hb.trans h1, r⟩, h2⟩
theorem VMap.below {w w' : World} {b N : Nat} {E : List (Int × Value)} (h : VMap w b N E) (hb : Below w.heap.size w w') : VMap w' b N E := h.of_block (hb.block _ h.lt)
theorem VMap.mono {w : World} {b N N' : Nat} {E : List (Int × Value)} (h : VMap w b N E) (hn : N ≤ N') : VMap w b N' E := by
  obtain ⟨D, h1, h2⟩ := h
  exact ⟨D, h1.mono hn, h2⟩
theorem VMap.made (w : World) : VMap (w.alloc (.map #[] 0)) w.heap.size 0 [] := ⟨_, World.ownsMap_made _ _ _ _, rfl, fun x => rfl, fun x z => rfl⟩
theorem key_of (x : Int) (h0 : 0 ≤ x) (h1 : x ≤ 1000000) : keyOf Try.prog 120 (.int .i64 x) = some (.int .i64 x) := keyOf_int_mk (P := Try.prog) Try.underlying120 (q := .i64) (a := x) (WalkArith.wf_i64 (by omega))
/-- A look-up. -/
theorem VMap.look {w : World} {b N : Nat} {E : List (Int × Value)} (h : VMap w b N E) {t e : TypeId} (ht : Try.prog.underlying t = some (.map 120 e)) {z : Value} (hz : (zeroValue e).run Try.prog w = .ok z w) (x : Int) (h0 : 0 ≤ x) (h1 : x ≤ 1000000) :
    (Instr.lookup t (.map (some b)) (.int .i64 x) true).run Try.prog w = .ok (.tuple #[(match Go.Proofs.Ytedkkghekboahaa.look E x with | some v => v | none => z), .bool (Go.Proofs.Ytedkkghekboahaa.look E x).isSome]) w := by
  obtain ⟨D, hown, hsz, hhas, hat⟩ := h
  obtain ⟨v, ps, hrun, hv⟩ := hown.look_ok lawVar ht hz (zd := .held z) (zp := []) rfl (key_of x h0 h1)
  rw [hrun, hhas]
  rw [hat] at hv
  simp only [anyE, Option.some.injEq, Prod.mk.injEq] at hv
  have hv := hv.1
  cases hl : Go.Proofs.Ytedkkghekboahaa.look E x with
  | none => rw [hl] at hv; cases hv; rfl
  | some u => rw [hl] at hv; cases hv; rfl
/-- A store. -/
theorem VMap.put {w : World} {b N : Nat} {E : List (Int × Value)} (h : VMap w b N E) {t e : TypeId} (ht : Try.prog.underlying t = some (.map 120 e)) (hN : N ≤ 1000000) (x : Int) (h0 : 0 ≤ x) (h1 : x ≤ 1000000) (v : Value) :
    ∃ w', (Instr.mapUpdate t (.map (some b)) (.int .i64 x) v).run Try.prog w = .ok () w' ∧ VMap w' b (N + 1) (putE E x v) ∧ w.grownBy w' (some b) := by
  obtain ⟨D, hown, hsz, hhas, hat⟩ := h
  obtain ⟨w', hrun, hown', hg⟩ := hown.update lawVar ht (by unfold maxLen; omega) (key_of x h0 h1) (show anyE v = some (.held v, []) from rfl)
  have hm := hown.isMap
  have hkl : WideAt.IsKeyLit (.int .i64 x) := trivial
  refine ⟨w', hrun, ⟨_, hown', ?_, fun y => ?_, fun y z => ?_⟩, hg⟩
  · rw [size_put (hown.tidy lawVar), hhas, hsz, putE_len]
  · rw [look_putE]
    by_cases e : y = x
    · subst e; rw [has_put_same hm hkl]; simp
    · rw [has_put_other (by simpa using e), hhas]; simp [e]
  · rw [look_putE]
    by_cases e : y = x
    · subst e
      rw [atKey_put_same hm hkl]; simp
    · rw [atKey_put_other (by simpa using e), hat]; simp [e]

end Go.Proofs.Ytedkkghekboahaa

namespace Go.Proofs.Ytedkkghekboahaa
open Go Go.RowKit Go.Maps
set_option linter.unusedVariables false

theorem zeros_nil (k : Nat) : (Builtin.zeroCells (Value.nilIface).cells k).toList = List.replicate k .nilIface := by
  apply List.ext_getElem
  · simp [Builtin.zeroCells, Value.cells]
  · intro i h1 h2
    simp [Builtin.zeroCells, Value.cells] at h1 ⊢
    rw [Nat.mod_one]; rfl
theorem row_stay {W W' : World} {B n c s : Nat} {p : Option Addr} {e : TypeId} {vs : List Value} (h : W.ownsRow B e s (.slice p n c) n vs) (hb : ∀ g, Value.ownBlock (.slice p n c) = some g → W'.heap[g]? = W.heap[g]?) : W'.ownsRow B e s (.slice p n c) n vs := ⟨h.1, by
  rcases h.2 with h' | ⟨g, cap, cur, hv, hB, hg, r⟩
  · exact .inl h'
  · exact .inr ⟨g, cap, cur, hv, hB, (hb g (by rw [hv]; rfl)).trans hg, r⟩⟩
theorem row_type {W : World} {B n c s : Nat} {p : Option Addr} {e : TypeId} {vs : List Value} (h : W.ownsRow B e s (.slice p n c) n vs) {g : Nat} (hg : Value.ownBlock (.slice p n c) = some g) : B ≤ g ∧ g < W.heap.size ∧ ∃ cur, W.heap[g]? = some (.cells cur e (0, 0)) := by
  rcases h.2 with ⟨h', _⟩ | ⟨g', cap, cur, hv, hB, hh, r⟩
  · rw [h'] at hg; cases hg
  · rw [hv] at hg
    cases hg
    exact ⟨hB, (Array.getElem?_eq_some_iff.1 hh).1, cur, hh⟩
theorem infoInt8 : Try.prog.underlying 3 = some (.int .i64) := Try.underlying3
/-- append of as many empty words. -/
theorem app_zeros (w : World) (ty : TypeId) (B g n cap k : Nat) (V : List Value) (hk : 0 < k) (hl : n + k ≤ 1000000000) (hB : B ≤ w.heap.size) (hown : w.ownsRow B 70 1 (.slice (some ⟨g, 0, none⟩) n cap) n V) :
    ∃ g' cap' w', (Builtin.append_ #[89, 3] ty #[.slice (some ⟨g, 0, none⟩) n cap, .int .i64 k]).run Try.prog w = .ok (.slice (some ⟨g', 0, none⟩) (n + k) cap') w' ∧
      w'.ownsRow B 70 1 (.slice (some ⟨g', 0, none⟩) (n + k) cap') (n + k) (V ++ List.replicate k .nilIface) ∧ w.grownBy w' (some g) ∧ (g' = g ∨ g' = w.heap.size) := by
  obtain ⟨i0, hi, hz0, hz1, hz2⟩ := info_parts infoWord
  have hlen : (V ++ List.replicate k Value.nilIface).length = (n + k) * 1 := by rw [List.length_append, hown.1, List.length_replicate]; omega
  have hV := hown.1
  rcases hown.2 with ⟨h0, _⟩ | ⟨g', cap', cur, hv, hbg, hg, hnc, hcm, hcs, htake⟩
  · cases h0
  · cases hv
    by_cases hroom : n + k ≤ cap
    · have hst := run_storeCells_at (P := Try.prog) g n 70 (List.replicate k .nilIface) 0 cur w hg (by simp; omega) (fun v hv => by rw [(List.mem_replicate.1 hv).2]; rfl)
      have hr : (Builtin.append_ #[89, 3] ty #[.slice (some ⟨g, 0, none⟩) n cap, .int .i64 k]).run Try.prog w = .ok (.slice (some ⟨g, 0, none⟩) (n + k) cap) (w.setRow g (cur.toList.take n ++ List.replicate k Value.nilIface ++ cur.toList.drop (n + k)).toArray) := by
        have hw : IntKind.i64.wrap (k : Int) = k := by rw [IntKind.wrap_i64]; omega
        have hneg : ¬ ((k : Int) < 0) := by omega
        have h48i : ¬ (281474976710656 < (k : Int) * (16 : Int)) := by omega
        have hne : ¬ (k = 0) := by omega
        simp only [List.length_replicate, Nat.add_zero] at hst
        simp [Builtin.append_, run_underlying Try.underlying89, run_underlying Try.underlying3, sizeOf, typeInfo, zeroValue, hi, hz0, hz1, hz2, asInt, asIntOf, hw, hroom, hneg, hne, h48i, zeros_nil, hst, Addr.add_lit]
      refine ⟨g, cap, _, hr, ⟨hlen, .inr ⟨g, cap, _, rfl, hbg, setRow_heap w g cur _ _ _ hg, hroom, hcm, ?_, ?_⟩⟩, ⟨rfl, rfl, rfl, by simp, fun j _ hj => setRow_other w g j _ (fun e => hj (by rw [e]))⟩, .inl rfl⟩
      · simp only [List.size_toArray, List.length_append, List.length_take, List.length_drop, Array.length_toList, List.length_replicate]
        omega
      · rw [Nat.mul_one] at htake
        rw [htake, ← hlen]
        exact List.take_left
    · have hold : (Builtin.firstCells i0.size n (.slice (some ⟨g, 0, none⟩) n cap)).run Try.prog w.drew = .ok V.toArray w.drew := by
        rw [hz1]
        exact run_firstCells_some w.drew 1 n ⟨g, 0, none⟩ n cap V (by omega) (by simpa using hown.cells (g := g) rfl)
      have hr := Lib.run_append_grow_zeros (P := Try.prog) w 89 3 ty 70 i0 .nilIface .i64 .i64 Try.underlying89 Try.underlying3 hi hz0 (some ⟨g, 0, none⟩) n cap V hold k hk (by omega) (by omega) (by omega) (by rw [hz2]; omega) (by rw [hz2]; exact growslice_fits (by omega) (by omega))
      have hge := grownCap_ge w (n + k) cap 70
      have hcm' : grownCap w (n + k) cap 70 ≤ maxLen := grownCap_le_maxLen w (n + k) cap _ (by unfold maxLen; omega)
      refine ⟨_, _, _, hr, ⟨hlen, .inr ⟨w.heap.size, _, _, rfl, hB, heap_alloc_new w.drew _, hge, hcm', ?_, ?_⟩⟩, ⟨rfl, rfl, rfl, by simp, fun j hj _ => heap_alloc_old w.drew _ hj⟩, .inr rfl⟩
      · simp only [Array.size_append, List.size_toArray, size_zeroCells, hV]
        have e1 : (Value.nilIface).cells.size = 1 := rfl
        rw [e1]
        omega
      · simp only [Array.toList_append, zeros_nil, List.append_assoc]
        rw [← List.append_assoc, ← hlen]
        exact List.take_left

/-- A heap h at work: its words V, where its row lies; the places of the new variables in the map mf; the tree lies between Bt and Z as it did in W0. -/
def PSo (B0 Bt Z h m mf N : Nat) (lk : Int) (W0 : World) (tr : List Int) (V : List Value) (E : PSt) (pw : Option Addr) (cw : Nat) (W : World) : Prop :=
  (∃ (pt : Option Addr) (ct : Nat), W.heap[h]? = some (.cells #[.slice pw V.length cw, .slice pt tr.length ct, .map (some m), .int .i64 lk] 93) ∧ OwnI W (h + 1) 3 pt tr.length ct tr) ∧
  W.ownsRow (h + 1) 70 1 (.slice pw V.length cw) V.length V ∧ VMap W mf N (E.map fun e => (e.1, .int .i64 e.2)) ∧
  (∀ g, Value.ownBlock (.slice pw V.length cw) = some g → g < Bt ∨ Z ≤ g) ∧ (h < Bt ∧ Bt ≤ Z ∧ Z ≤ mf ∧ B0 ≤ h) ∧ Z ≤ W.heap.size ∧ (∀ b, Bt ≤ b → b < Z → W.heap[b]? = W0.heap[b]?) ∧ Below B0 W0 W
def PS (B0 Bt Z h m mf N : Nat) (lk : Int) (W0 : World) (tr : List Int) (V : List Value) (E : PSt) (W : World) : Prop := ∃ pw cw, PSo B0 Bt Z h m mf N lk W0 tr V E pw cw W
section
variable {B0 Bt Z h m mf N : Nat} {lk : Int} {W0 : World} {tr : List Int} {V : List Value} {E : PSt} {pw : Option Addr} {cw : Nat} {W W' : World}
theorem PSo.lt (H : PSo B0 Bt Z h m mf N lk W0 tr V E pw cw W) : h < W.heap.size := by
  obtain ⟨⟨_, _, h0, _⟩, _⟩ := H
  exact (Array.getElem?_eq_some_iff.1 h0).1
theorem PSo.cell (H : PSo B0 Bt Z h m mf N lk W0 tr V E pw cw W) : W.cell? ⟨h, 0, none⟩ = some (.slice pw V.length cw) ∧ W.frozen? ⟨h, 0, none⟩ = false := by
  obtain ⟨⟨_, _, h0, _⟩, _⟩ := H
  exact ⟨by simp [World.cell?, h0], frozen_of_row _ _ _ _ _ h0⟩
theorem PSo.below (H : PSo B0 Bt Z h m mf N lk W0 tr V E pw cw W) (hb : Below W.heap.size W W') : PSo B0 Bt Z h m mf N lk W0 tr V E pw cw W' := by
  have hl := H.lt
  obtain ⟨⟨pt, ct, h0, h1⟩, h2, h3, h4, h5, h6, h7, h8⟩ := H
  exact ⟨⟨pt, ct, (hb.block h hl).trans h0, h1.below hb⟩, row_below h2 hb, h3.below hb, h4, h5, Nat.le_trans h6 hb.size, fun b b1 b2 => (hb.block b (by omega)).trans (h7 b b1 b2), h8.trans (hb.mono (by omega))⟩
theorem PS.below (H : PS B0 Bt Z h m mf N lk W0 tr V E W) (hb : Below W.heap.size W W') : PS B0 Bt Z h m mf N lk W0 tr V E W' := by
  obtain ⟨pw, cw, H⟩ := H
  exact ⟨pw, cw, H.below hb⟩
theorem map_block {w : World} {b N : Nat} {E : List (Int × Value)} (h : VMap w b N E) : ∃ es clock, w.heap[b]? = some (.map es clock) := by
  obtain ⟨D, ⟨es, clock, h1, r⟩, h2⟩ := h
  exact ⟨es, clock, h1⟩
/-- The row of words was changed. -/
theorem PSo.grow (H : PSo B0 Bt Z h m mf N lk W0 tr V E pw cw W) {g cap n : Nat} {V' : List Value} (hn : n = V'.length) (hown : W'.ownsRow (h + 1) 70 1 (.slice (some ⟨g, 0, none⟩) n cap) n V') (hg : W.grownBy W' (Value.ownBlock (.slice pw V.length cw))) (hat : Value.ownBlock (.slice pw V.length cw) = some g ∨ g = W.heap.size) :
    PSo B0 Bt Z h m mf N lk W0 tr V' E (some ⟨g, 0, none⟩) cap (W'.setCell ⟨h, 0, none⟩ (.slice (some ⟨g, 0, none⟩) n cap)) := by
  subst hn
  have hl := H.lt
  obtain ⟨⟨pt, ct, h0, h1⟩, h2, h3, h4, h5, h6, h7, h8⟩ := H
  have hrow : ∀ k, Value.ownBlock (.slice pw V.length cw) = some k → h + 1 ≤ k ∧ ∃ cur, W.heap[k]? = some (.cells cur 70 (0, 0)) := fun k hk => ⟨(row_type h2 hk).1, (row_type h2 hk).2.2⟩
  have stay : ∀ k, k < W.heap.size → (∀ cur, W.heap[k]? ≠ some (.cells cur 70 (0, 0))) → k ≠ h → (W'.setCell ⟨h, 0, none⟩ (.slice (some ⟨g, 0, none⟩) V'.length cap)).heap[k]? = W.heap[k]? := fun k hk hne hkh => by
    rw [heap_setCell_other _ _ _ _ hkh]
    exact hg.block k hk (fun e => by obtain ⟨cur, hc⟩ := (hrow k e.symm).2; exact hne cur hc)
  have hh' : W'.heap[h]? = W.heap[h]? := hg.block h hl (fun e => by have := (hrow h e.symm).1; omega)
  obtain ⟨es, clock, hmf⟩ := map_block h3
  refine ⟨⟨pt, ct, ?_, h1.1, row_stay h1.2 (fun k hk => ?_)⟩, ownsRow_setCell_other hown (by simp [Value.ownBlock]; have := (row_type hown (g := g) rfl).1; omega) _, h3.of_block (stay mf h3.lt (fun cur e => by rw [hmf] at e; cases e) (fun e => by rw [e, h0] at hmf; cases hmf)), fun k hk => ?_, h5, ?_, fun b b1 b2 => ?_, ?_⟩
  · rw [heap_setCell_same _ _ _ _ _ _ (hh'.trans h0)]; rfl
  · obtain ⟨t1, t2, cur, t3⟩ := row_type h1.2 hk
    exact stay k t2 (fun c e => by rw [t3] at e; simp at e) (by omega)
  · simp only [Value.ownBlock, Option.some.injEq] at hk
    rcases hat with e | e
    · exact hk ▸ h4 g e
    · omega
  · simp; exact Nat.le_trans h6 hg.size
  · rw [heap_setCell_other _ _ _ _ (by simp; omega)]
    exact (hg.block b (by omega) (fun e => by have := h4 b e.symm; omega)).trans (h7 b b1 b2)
  · exact (h8.grown hg (Nat.le_trans h8.size (Nat.le_refl _) |> fun _ => by omega) (fun k hk => by have := (hrow k hk).1; omega)).setCell (p := ⟨h, 0, none⟩) (by simp; omega) _
/-- A word was set. -/
theorem PSo.set {g : Nat} (H : PSo B0 Bt Z h m mf N lk W0 tr V E (some ⟨g, 0, none⟩) cw W) (j : Nat) (v : Value) : PSo B0 Bt Z h m mf N lk W0 tr (V.set j v) E (some ⟨g, 0, none⟩) cw (W.setCell ⟨g, j, none⟩ v) := by
  have hl := H.lt
  obtain ⟨⟨pt, ct, h0, h1⟩, h2, h3, h4, h5, h6, h7, h8⟩ := H
  obtain ⟨t1, t2, cur, t3⟩ := row_type h2 (g := g) rfl
  obtain ⟨es, clock, hmf⟩ := map_block h3
  have hgm : mf ≠ g := fun e => by rw [e, t3] at hmf; cases hmf
  have hs := (h2.stored j v).1
  refine ⟨⟨pt, ct, ?_, h1.1, row_stay h1.2 (fun k hk => ?_)⟩, ?_, h3.of_block (heap_setCell_other _ _ _ _ hgm), fun k hk => ?_, h5, by simpa using h6, fun b b1 b2 => ?_, h8.setCell (p := ⟨g, j, none⟩) (by simp; omega) _⟩
  · rw [heap_setCell_other _ _ _ _ (by simp; omega), List.length_set]; exact h0
  · obtain ⟨u1, u2, cur', u3⟩ := row_type h1.2 hk
    exact heap_setCell_other _ _ _ _ (fun e => by simp at e; rw [e, t3] at u3; simp at u3)
  · rw [List.length_set]; exact hs
  · rw [List.length_set] at hk; exact h4 k hk
  · rw [heap_setCell_other _ _ _ _ (by simp; have := h4 g rfl; omega)]
    exact h7 b b1 b2
/-- A place was noted. -/
theorem PSo.note (H : PSo B0 Bt Z h m mf N lk W0 tr V E pw cw W) {N' : Nat} {E' : PSt} (hm : VMap W' mf N' (E'.map fun e => (e.1, .int .i64 e.2))) (hg : W.grownBy W' (some mf)) : PSo B0 Bt Z h m mf N' lk W0 tr V E' pw cw W' := by
  have hl := H.lt
  obtain ⟨⟨pt, ct, h0, h1⟩, h2, h3, h4, h5, h6, h7, h8⟩ := H
  obtain ⟨es, clock, hmf⟩ := map_block h3
  have stay : ∀ k, k < W.heap.size → k ≠ mf → W'.heap[k]? = W.heap[k]? := fun k hk hne => hg.block k hk (fun e => hne (Option.some.inj e))
  refine ⟨⟨pt, ct, (stay h hl (fun e => by rw [e, hmf] at h0; cases h0)).trans h0, h1.1, row_stay h1.2 (fun k hk => ?_)⟩, row_stay h2 (fun k hk => ?_), hm, h4, h5, Nat.le_trans h6 hg.size, fun b b1 b2 => (stay b (by omega) (by omega)).trans (h7 b b1 b2), h8.grown hg (by omega) (fun k hk => by cases hk; omega)⟩
  · obtain ⟨u1, u2, cur', u3⟩ := row_type h1.2 hk
    exact stay k u2 (fun e => by rw [e, hmf] at u3; cases u3)
  · obtain ⟨u1, u2, cur', u3⟩ := row_type h2 hk
    exact stay k u2 (fun e => by rw [e, hmf] at u3; cases u3)
theorem PSo.more (H : PSo B0 Bt Z h m mf N lk W0 tr V E pw cw W) {N' : Nat} (hN : N ≤ N') : PSo B0 Bt Z h m mf N' lk W0 tr V E pw cw W := by
  obtain ⟨h1, h2, h3, h4⟩ := H
  exact ⟨h1, h2, h3.mono hN, h4⟩
end

end Go.Proofs.Ytedkkghekboahaa

namespace Go.Proofs.Ytedkkghekboahaa
open Go Go.RowKit Go.Maps
set_option linter.unusedVariables false

/-- How many references may be followed from a word as it lies. -/
noncomputable def rkV (xs : List Cel) : Value → Nat
  | .iface t (.int _ n) => if t = 100 then rk xs n.toNat + 1 else 0
  | _ => 0
theorem rkV_wv (xs : List Cel) (c : Cel) : rkV xs (wv c) = rkW xs c := by
  unfold wv rkW
  split
  · simp [rkV]
  · split
    · simp [rkV]
    · split
      · rfl
      · split
        · rfl
        · simp [rkV]
theorem WdC.knd {xs : List Cel} {c : Cel} (h : WdC xs c) : c.1 = 0 ∨ c.1 = 1 ∨ c.1 = 2 ∨ c.1 = 3 ∨ c.1 = 4 := by
  have := h.1; omega

set_option maxHeartbeats 1000000 in
set_option maxRecDepth 100000 in
theorem deref_any (h : Nat) (c : Cel) (xs : List Cel) (tr : List Int) (w : World) (g : Good xs) (hc : WdC xs c) (H : HeapAt w h xs tr) :
    Calls Try.prog 45 #[.pointer (some ⟨h, 0, none⟩), wv c] w fun e w' => e = .returned (wv (drf xs c)) ∧ Below w.heap.size w w' := by
  have HH : Hid (HeapAt w h xs tr) := H
  have HG : Hid (Good xs) := g
  have HC : Hid (WdC xs c) := hc
  have hl := g.shp.len
  obtain ⟨v0, ev0⟩ : ∃ v, v = wv c := ⟨_, rfl⟩
  have HV0 : Hid (v0 = wv c) := ev0
  rw [← ev0]
  clear H g hc ev0
  go_enter Try.func45, Try.ntmps45
  go_wp2
  go_loopw [1] (fun v wr => ∃ c', Hid (v = wv c') ∧ Hid (WdC xs c') ∧ Hid (drf xs c' = drf xs c) ∧ Hid (Below w.heap.size w wr)) (fun v _ => rkV xs v)
  case atStart => exact ⟨c, HV0, HC, rfl, Below.refl _ _⟩
  case round v =>
    obtain ⟨c', HV, HW, HD, HB⟩ := hrel
    have I := (isW c' HW.out.knd).rf
    have HHr : Hid (HeapAt wr h xs tr) := HH.out.below HB.out
    rw [← HV.out] at I
    by_cases k0 : c'.1 = 0
    · simp only [k0, if_true, decide_true] at I
      obtain ⟨r0, r1, r2⟩ := HW.out.2.1 k0
      obtain ⟨j, ej⟩ : ∃ j : Nat, c'.2.1 = j := ⟨c'.2.1.toNat, by omega⟩
      have hj : j < xs.length := by omega
      rw [ej] at I
      have HJ : Hid (c'.1 = 0 ∧ c'.2.1 = j) := ⟨k0, ej⟩
      have HVA := holdsVariable_any h j xs tr wr hl HG.out.shp.knds HHr.out
      obtain ⟨pw, cw, pt, ct, h0, _, hw, _⟩ := HHr.out
      obtain ⟨gg, rfl, hcs⟩ := hw (by omega)
      have hv := hcs j hj
      have hlt := World.block_lt_of_cell? _ _ h0
      have hlt' := World.block_lt_of_cell? _ _ hv
      have HNX : Hid (wv (xs.getD j Cel.none) = wv (xs.getD j Cel.none)) := rfl
      obtain ⟨vn, evn⟩ : ∃ v, v = wv (xs.getD j Cel.none) := ⟨_, rfl⟩
      rw [← evn] at hv
      have HVN : Hid (vn = wv (xs.getD j Cel.none)) := evn
      clear hcs hw k0 ej r0 r1 r2 evn HNX
      cases hb : varB xs j
      · rw [hb] at HVA
        have HO : Hid (onB xs c' = true) := by show _ = _; simp [onB, HJ.out.1, HJ.out.2, hb]
        clear hb
        go_wp2_with fail
        refine HVA.mono ?_
        rintro e w2 ⟨rfl, hb2⟩
        have h0' := (hb2.cell hlt).trans h0
        have hv' := (hb2.cell hlt').trans hv
        have HB2 : Hid (Below w.heap.size w w2) := Below.on HB.out hb2
        clear hb2 h0 hv HVA hlt hlt'
        go_wp2
        have hn := rk_next HG.out HW.out HO.out
        have hs := drf_step HG.out HW.out HO.out
        have e1 : c'.2.1.toNat = j := by rw [HJ.out.2]; rfl
        rw [e1] at hn hs
        go_roundw
        case rel => exact ⟨xs.getD j Cel.none, HVN.out, hn.2, by show _ = _; rw [← hs]; exact HD.out, HB2.out⟩
        case measure => rw [HVN.out, HV.out, rkV_wv, rkV_wv]; exact hn.1
      · rw [hb] at HVA
        have HO : Hid (onB xs c' = false) := by show _ = _; simp [onB, HJ.out.1, HJ.out.2, hb]
        clear hb h0 hv hlt hlt'
        go_wp2_with fail
        refine HVA.mono ?_
        rintro e w2 ⟨rfl, hb2⟩
        have HB2 : Hid (Below w.heap.size w w2) := Below.on HB.out hb2
        clear hb2 HVA
        go_wp2
        go_ret
        exact ⟨by rw [HV.out, ← HD.out, drf_stop HO.out]; rfl, HB2.out⟩
    · simp only [k0, if_false, decide_false] at I
      have HO : Hid (onB xs c' = false) := by show _ = _; simp [onB, k0]
      clear k0
      go_wp2
      go_ret
      exact ⟨by rw [HV.out, ← HD.out, drf_stop HO.out]; rfl, HB.out⟩

set_option maxRecDepth 100000 in
theorem refCell_any (n : Int) (w : World) : Calls Try.prog 135 #[.int .i64 n] w fun e w' => e = .returned (.agg #[.int .i64 0, .int .i64 n, .slice none 0 0]) ∧ Below w.heap.size w w' := by
  go_enter Try.func135, Try.ntmps135
  go_wp2
  exact bodyPost_ret (v := .agg #[.int .i64 0, .int .i64 n, .slice none 0 0]) (by simp [results, Try.results135, go_sem]) rfl ⟨rfl, by first | exact Below.refl _ _ | exact (Below.refl _ _).alloc (Nat.le_refl _) _⟩
set_option maxRecDepth 100000 in
theorem numCell_any (n : Int) (w : World) : Calls Try.prog 138 #[.int .i64 n] w fun e w' => e = .returned (.agg #[.int .i64 1, .int .i64 n, .slice none 0 0]) ∧ Below w.heap.size w w' := by
  go_enter Try.func138, Try.ntmps138
  go_wp2
  exact bodyPost_ret (v := .agg #[.int .i64 1, .int .i64 n, .slice none 0 0]) (by simp [results, Try.results138, go_sem]) rfl ⟨rfl, by first | exact Below.refl _ _ | exact (Below.refl _ _).alloc (Nat.le_refl _) _⟩
set_option maxRecDepth 100000 in
theorem strCell_any (n : Int) (w : World) : Calls Try.prog 141 #[.int .i64 n] w fun e w' => e = .returned (.agg #[.int .i64 4, .int .i64 n, .slice none 0 0]) ∧ Below w.heap.size w w' := by
  go_enter Try.func141, Try.ntmps141
  go_wp2
  exact bodyPost_ret (v := .agg #[.int .i64 4, .int .i64 n, .slice none 0 0]) (by simp [results, Try.results141, go_sem]) rfl ⟨rfl, by first | exact Below.refl _ _ | exact (Below.refl _ _).alloc (Nat.le_refl _) _⟩
set_option maxRecDepth 100000 in
theorem atomCell_any (t : List Int) (w : World) (hx : Byte t) : Calls Try.prog 140 #[.string (strOfNums t)] w fun e w' => ∃ p c, e = .returned (.agg #[.int .i64 2, .int .i64 0, .slice p t.length c]) ∧ OwnT w' w.heap.size p t.length c t ∧ Below w.heap.size w w' := by
  obtain ⟨w1, cap, hcv, hb1, hb2⟩ := conv_bytes (w.alloc (.cells #[.int .i64 0, .int .i64 0, .slice none 0 0] 31)) t hx 122 Try.underlying122
  have b0 : Box3 w1 w.heap.size (.int .i64 0) (.int .i64 0) (.slice none 0 0) := Box3.of_block (t := 31) ((hb1.block _ (by simp)).trans (heap_alloc_new _ _))
  have HB : Hid (Below w.heap.size w w1) := Below.on ((Below.refl _ _).alloc (Nat.le_refl _) _) hb1
  simp only [World.size_alloc] at hb2 hcv
  have HO : Hid (OwnT w1 (w.heap.size + 1) (some ⟨w.heap.size + 1, 0, none⟩) t.length cap t) := hb2
  obtain ⟨c0, c1, c2, f1⟩ := b0
  have HD : Hid _ := box3_set c0 c1 c2 (.int .i64 2) (.int .i64 0) (.slice (some ⟨w.heap.size + 1, 0, none⟩) t.length cap)
  clear hx hb1 hb2
  go_enter Try.func140, Try.ntmps140
  go_wp2
  obtain ⟨d0, d1, d2⟩ := HD.out
  refine bodyPost_ret (v := .agg #[.int .i64 2, .int .i64 0, .slice (some ⟨w.heap.size + 1, 0, none⟩) t.length cap]) (by simp [results, Try.results140, go_sem, d0, d1, d2]) rfl ⟨_, _, rfl, ?_, ?_⟩
  · exact (((HO.out.setCell (a := ⟨w.heap.size, 0, none⟩) (fun _ => by simp) _).setCell (a := ⟨w.heap.size, 1, none⟩) (fun _ => by simp) _).setCell (a := ⟨w.heap.size, 2, none⟩) (fun _ => by simp) _).mono (by omega)
  · exact ((HB.out.setCell (p := ⟨_, _, none⟩) (Nat.le_refl _) _).setCell (p := ⟨_, _, none⟩) (Nat.le_refl _) _).setCell (p := ⟨_, _, none⟩) (Nat.le_refl _) _

end Go.Proofs.Ytedkkghekboahaa

