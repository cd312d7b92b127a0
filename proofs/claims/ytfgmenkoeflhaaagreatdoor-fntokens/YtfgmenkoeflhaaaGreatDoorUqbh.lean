/- Texts of Ren1, RenN, Ren3, Dt8. Own work of the verifier. -/
import Derived.Test.YtfgmenkoeflhaaaGreatDoorUqbg
import Derived.Test.YtfgmenkoeflhaaaGreatDoorUqbe
namespace Go.Proofs.YtfgmenkoeflhaaaGreatDoor
set_option linter.unusedVariables false
section
open Go Go.RowKit Go.Maps
def Fo.map (f : Cel → Cel) : Fo → Fo
 | .nil => .nil
 | .node c k r => .node (f c) (k.map f) (r.map f)
end
section
open Go Go.RowKit
theorem OwnC.cells {w : World} {B g n c j : Nat} {cs : List Cel} (h : OwnC w B (some ⟨g, 0, none⟩) n c cs) (hj : j < cs.length) : w.cell? ⟨g, j * 3, none⟩ = some (.int .i64 (cs.getD j Cel.none).1) ∧ w.cell? ⟨g, j * 3 + 1, none⟩ = some (.int .i64 (cs.getD j Cel.none).2.1) ∧ (∃ q k d, w.cell? ⟨g, j * 3 + 2, none⟩ = some (.slice q k d)) ∧ ∀ o, w.frozen? ⟨g, o, none⟩ = false := by
 obtain ⟨hn, rs, hl, hr, hf, ha⟩ := h; obtain ⟨f0, f1, f2⟩ := hf j hj; obtain ⟨a0, a1, a2⟩ := flat_at rs j (by omega); refine ⟨by rw [hr.cellAt _ (by omega), a0, f0], by rw [hr.cellAt _ (by omega), a1, f1], ⟨_, _, _, by rw [hr.cellAt _ (by omega), a2]⟩, fun o => hr.frozenAt o⟩
theorem OwnC.cap {w : World} {B n c : Nat} {p : Option Addr} {cs : List Cel} (h : OwnC w B p n c cs) : cs.length ≤ c ∧ c ≤ 9223372036854775807 := by
 obtain ⟨hn, rs, hl, hr, _⟩ := h
 rcases hr.2 with ⟨hv, h0⟩ | ⟨g, cap, cur, hv, _, _, h1, h2, _⟩
 ·simp only [Value.slice.injEq] at hv
  omega
 ·simp only [Value.slice.injEq] at hv
  unfold maxLen at h2
  omega
theorem OwnC.at0 {w : World} {B n c : Nat} {p : Option Addr} {cs : List Cel} (h : OwnC w B p n c cs) (h0 : 0 < cs.length) : ∃ g, p = some ⟨g, 0, none⟩ ∧ B ≤ g ∧ g < w.heap.size := by
 obtain ⟨hn, rs, hl, hr, _⟩ := h; obtain ⟨g, cap, hv, hb, hg⟩ := hr.form (by omega); simp only [Value.slice.injEq] at hv; exact ⟨g, hv.1, hb, hg⟩
theorem OwnC.low {w : World} {B n c : Nat} {p : Option Addr} {cs : List Cel} (h : OwnC w B p n c cs) : ∀ rs : List RC, rs.length = cs.length → w.ownsRow B 78 3 (.slice p n c) n (flat rs) → ∀ i, i < rs.length → 0 < (rs.getD i RC.zero).2.2.2.1 → ∀ a, (rs.getD i RC.zero).2.2.1 = some a → a.block < w.heap.size := by
 obtain ⟨hn, rs0, hl0, hr0, hf, _⟩ := h
 intro rs hl hr i hi h0 a ea
 have e : flat rs = flat rs0 := by
  rcases hr.2 with ⟨hv, hz⟩ | ⟨g, cap, cur, hv, _, hg, _, _, _, htk⟩
  ·have e1 : rs = [] := List.length_eq_zero_iff.1 (by omega)
   have e2 : rs0 = [] := List.length_eq_zero_iff.1 (by omega); rw [e1, e2]
  ·rcases hr0.2 with ⟨hv', hz⟩ | ⟨g', cap', cur', hv', _, hg', _, _, _, htk'⟩
   ·rw [hv] at hv'; simp at hv'
   ·rw [hv] at hv'
    simp only [Value.slice.injEq, Option.some.injEq, Addr.mk.injEq, and_true, true_and] at hv'; obtain ⟨rfl, rfl⟩ := hv'; rw [hg] at hg'
    cases hg'
    rw [← htk, ← htk']
 obtain ⟨_, _, b2⟩ := flat_at rs i hi; obtain ⟨_, _, c2⟩ := flat_at rs0 i (by omega); rw [e, c2] at b2; simp only [Option.some.injEq, Value.slice.injEq] at b2; obtain ⟨q0, q1, q2⟩ := hf i (by omega); obtain ⟨k, ek, _, hk, _⟩ := q2.2 (by omega); rw [b2.1, ea] at ek
 cases ek
 exact hk
structure Kb (B R : Nat) (w w' : World) : Prop where
 os : w'.os = w.os
 tape : w'.tape = w.tape
 output : w'.output = w.output
 size : w.heap.size ≤ w'.heap.size
 block : ∀ k, k < B → k ≠ R → w'.heap[k]? = w.heap[k]?
theorem Kb.of_below {B R : Nat} {w w' : World} (h : Below B w w') : Kb B R w w' := ⟨h.os, h.tape, h.output, h.size, fun k hk _ => h.block k hk⟩
theorem Kb.trans {B R : Nat} {a b c : World} (h : Kb B R a b) (k : Kb B R b c) : Kb B R a c := ⟨k.os.trans h.os, k.tape.trans h.tape, k.output.trans h.output, Nat.le_trans h.size k.size, fun j hj hr => (k.block j hj hr).trans (h.block j hj hr)⟩
def NumC (cs : List Cel) : Prop := ∀ c ∈ cs, -1000000000000000 ≤ c.2.1 ∧ c.2.1 ≤ 1000000000000000
theorem NumC.app {a b : List Cel} (ha : NumC a) (hb : NumC b) : NumC (a ++ b) := fun c hc => by
 rcases List.mem_append.1 hc with h | h
 ·exact ha c h
 ·exact hb c h
theorem NumC.cons {c : Cel} {b : List Cel} (ha : -1000000000000000 ≤ c.2.1 ∧ c.2.1 ≤ 1000000000000000) (hb : NumC b) : NumC (c :: b) := fun d hd => by
 rcases List.mem_cons.1 hd with rfl | h
 ·exact ha
 ·exact hb d h
theorem NumC.nil : NumC [] := fun c h => by cases h
theorem NumC.flatten {css : List (List Cel)} (h : ∀ j, j < css.length → NumC (css.getD j [])) : NumC css.flatten := fun c hc => by
 obtain ⟨cs, h1, h2⟩ := List.mem_flatten.1 hc; obtain ⟨j, hj, rfl⟩ := List.mem_iff_getElem.1 h1; have := h j hj; rw [List.getD, List.getElem?_eq_getElem hj] at this; exact this c h2
theorem NumC.ls {css : List (List Cel)} {en : List Cel} (h : ∀ j, j < css.length → NumC (css.getD j [])) (he : NumC en) : NumC (lsL css en) := by
 refine NumC.app (fun c hc => ?_) he; obtain ⟨cs, h1, h2⟩ := List.mem_flatMap.1 hc
 rcases List.mem_cons.1 h2 with rfl | h3
 ·simp [dot]
 ·obtain ⟨j, hj, rfl⟩ := List.mem_iff_getElem.1 h1
  have := h j hj; rw [List.getD, List.getElem?_eq_getElem hj] at this; exact this c h3
end
end Go.Proofs.YtfgmenkoeflhaaaGreatDoor
