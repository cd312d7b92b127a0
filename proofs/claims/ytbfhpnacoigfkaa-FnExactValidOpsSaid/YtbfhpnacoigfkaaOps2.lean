/- Operators that a call owns; toOpS. Own work of the verifier. -/
import Derived.Test.YtbfhpnacoigfkaaOps1
namespace Go.Proofs.Ytbfhpnacoigfkaa
open Go Go.RowKit
set_option linter.unusedVariables false

theorem infoOp : (Try.prog.info? 40).map (fun i => (i.zero, i.size, i.bytes)) = some (some (.agg #[.slice none 0 0, .int .i64 0, .int .i64 0]), 3, 40) := by kernel_rfl

def roV (r : RC) : List Value := [.slice r.2.2.1 r.2.2.2.1 r.2.2.2.2, .int .i64 r.1, .int .i64 r.2.1]
def flatO (rs : List RC) : List Value := rs.flatMap roV
theorem flatO_cons (r : RC) (rs : List RC) : flatO (r :: rs) = .slice r.2.2.1 r.2.2.2.1 r.2.2.2.2 :: .int .i64 r.1 :: .int .i64 r.2.1 :: flatO rs := rfl
theorem flatO_append (a b : List RC) : flatO (a ++ b) = flatO a ++ flatO b := List.flatMap_append
theorem flatO_len : ∀ rs : List RC, (flatO rs).length = rs.length * 3
  | [] => rfl
  | r :: rs => by simp only [flatO_cons, List.length_cons, flatO_len rs]; omega
theorem flatO_at : ∀ (rs : List RC) (i : Nat), i < rs.length → (flatO rs)[i * 3 + 1]? = some (.int .i64 (rs.getD i RC.zero).1) ∧ (flatO rs)[i * 3 + 2]? = some (.int .i64 (rs.getD i RC.zero).2.1) ∧
    (flatO rs)[i * 3]? = some (.slice (rs.getD i RC.zero).2.2.1 (rs.getD i RC.zero).2.2.2.1 (rs.getD i RC.zero).2.2.2.2)
  | [], i, h => by simp at h
  | r :: rs, 0, _ => by simp [flatO_cons]
  | r :: rs, i + 1, h => by
    have := flatO_at rs i (by simpa using h)
    rw [flatO_cons, show (i + 1) * 3 = (i * 3) + 1 + 1 + 1 by omega, show (i * 3) + 1 + 1 + 1 + 1 = (i * 3 + 1) + 1 + 1 + 1 by omega, show (i * 3) + 1 + 1 + 1 + 2 = (i * 3 + 2) + 1 + 1 + 1 by omega]
    simpa using this
theorem flatO_set : ∀ (rs : List RC) (i : Nat) (r : RC), i < rs.length → (((flatO rs).set (i * 3) (.slice r.2.2.1 r.2.2.2.1 r.2.2.2.2)).set (i * 3 + 1) (.int .i64 r.1)).set (i * 3 + 2) (.int .i64 r.2.1) = flatO (rs.set i r)
  | [], i, r, h => by simp at h
  | a :: rs, 0, r, _ => by simp [flatO_cons]
  | a :: rs, i + 1, r, h => by
    have := flatO_set rs i r (by simpa using h)
    rw [flatO_cons, show (i + 1) * 3 = (i * 3) + 1 + 1 + 1 by omega, show (i * 3) + 1 + 1 + 1 + 1 = (i * 3 + 1) + 1 + 1 + 1 by omega, show (i * 3) + 1 + 1 + 1 + 2 = (i * 3 + 2) + 1 + 1 + 1 by omega]
    simp only [List.set_cons_succ, this]
    rfl
theorem made_flatO (n : Nat) : (madeCells #[.slice none 0 0, .int .i64 0, .int .i64 0] (n * 3)).toList = flatO (List.replicate n RC.zero) := by
  apply List.ext_getElem?
  intro j
  by_cases hj : j < n * 3
  · have h := flatO_at (List.replicate n RC.zero) (j / 3) (by simp; omega)
    have hz : (List.replicate n RC.zero).getD (j / 3) RC.zero = RC.zero := by simp [List.getD, List.getElem?_replicate]; split <;> rfl
    rw [hz] at h
    obtain ⟨h0, h1, h2⟩ := h
    have h3 : j % 3 = 0 ∨ j % 3 = 1 ∨ j % 3 = 2 := by omega
    rcases h3 with h3 | h3 | h3
    · rw [show j / 3 * 3 = j by omega] at h2
      rw [h2]; simp [madeCells, hj, h3, RC.zero]
    · rw [show j / 3 * 3 + 1 = j by omega] at h0
      rw [h0]; simp [madeCells, hj, h3, RC.zero]
    · rw [show j / 3 * 3 + 2 = j by omega] at h1
      rw [h1]; simp [madeCells, hj, h3, RC.zero]
  · rw [List.getElem?_eq_none (l := flatO _) (by rw [flatO_len]; simp; omega), List.getElem?_eq_none (by rw [Array.length_toList, size_madeCells]; omega)]

/-- A slice of cells that a call owns, with all its texts. -/
def OwnO (w : World) (B : Nat) (p : Option Addr) (n c : Nat) (cs : List Cel) : Prop :=
  n = cs.length ∧ ∃ rs : List RC, rs.length = cs.length ∧ w.ownsRow B 40 3 (.slice p n c) n (flatO rs) ∧ (∀ i, i < cs.length → Fits w B (rs.getD i RC.zero) (cs.getD i Cel.none)) ∧ ApartC p rs
theorem OwnO.nil (w : World) (B : Nat) : OwnO w B none 0 0 [] := ⟨rfl, [], rfl, World.ownsRow_nil _ _ _ _, fun i h => by simp at h, fun i h => by simp at h, fun i j h => by simp at h⟩
theorem OwnO.oin {w : World} {B : Nat} {p : Option Addr} {n c : Nat} {cs : List Cel} (h : OwnO w B p n c cs) : OIn w p cs := fun hn => by
  obtain ⟨rfl, rs, hl, hr, hf, _⟩ := h
  obtain ⟨g, cap, hv, hb, hg⟩ := hr.form hn
  simp only [Value.slice.injEq, true_and] at hv
  obtain ⟨rfl, rfl⟩ := hv
  refine ⟨g, 0, rfl, fun i hi => ?_⟩
  obtain ⟨f0, f1, f2⟩ := hf i hi
  obtain ⟨a0, a1, a2⟩ := flatO_at rs i (by omega)
  rw [Nat.zero_add]
  refine ⟨(rs.getD i RC.zero).2.2.1, (rs.getD i RC.zero).2.2.2.2, ?_, ?_, ?_, f2.bin⟩
  · rw [hr.cellAt _ (by omega), a0, f0]
  · rw [hr.cellAt _ (by omega), a1, f1]
  · rw [hr.cellAt _ (by omega), a2, f2.len]
theorem OwnO.below {w w' : World} {B : Nat} {p : Option Addr} {n c : Nat} {cs : List Cel} (h : OwnO w B p n c cs) (hb : Below w.heap.size w w') : OwnO w' B p n c cs := by
  obtain ⟨rfl, rs, hl, hr, hf, ha⟩ := h
  refine ⟨rfl, rs, hl, ⟨hr.1, ?_⟩, fun i hi => ⟨(hf i hi).1, (hf i hi).2.1, (hf i hi).2.2.below hb⟩, ha⟩
  rcases hr.2 with h' | ⟨g, cap, cur, hv, hB, hg, r⟩
  · exact .inl h'
  · exact .inr ⟨g, cap, cur, hv, hB, (hb.block g (Array.getElem?_eq_some_iff.1 hg).1).trans hg, r⟩

theorem OwnO.mono {w : World} {B B' : Nat} {p : Option Addr} {n c : Nat} {cs : List Cel} (h : OwnO w B p n c cs) (hB : B' ≤ B) : OwnO w B' p n c cs := by
  obtain ⟨hn, rs, hl, hr, hf, ha⟩ := h
  exact ⟨hn, rs, hl, ownsRow_down hr hB, fun i hi => ⟨(hf i hi).1, (hf i hi).2.1, (hf i hi).2.2.mono hB⟩, ha⟩


end Go.Proofs.Ytbfhpnacoigfkaa
