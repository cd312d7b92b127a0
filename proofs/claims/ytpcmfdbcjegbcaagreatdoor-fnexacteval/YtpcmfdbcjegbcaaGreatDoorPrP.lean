/- Pairs of trees held against each other. Own work of the verifier. -/
import Derived.Test.YtpcmfdbcjegbcaaGreatDoorTree1
namespace Go.Proofs.YtpcmfdbcjegbcaaGreatDoor
open Go Go.RowKit
set_option linter.unusedVariables false

/-- A tree: its cell, and what is below it. -/
abbrev Tr := Cel × Fo
abbrev TT := Tr × Tr
def Tr.fo (t : Tr) : Fo := .node t.1 t.2 .nil
def trs : Fo → List Tr
  | .nil => []
  | .node c k r => (c, k) :: trs r
theorem trs_len : ∀ F : Fo, (trs F).length = F.count
  | .nil => rfl
  | .node c k r => by simp [trs, Fo.count, trs_len r]
def eqFo : Fo → Fo → Bool
  | .nil, .nil => true
  | .node c k r, .node c' k' r' => decide (c = c') && eqFo k k' && eqFo r r'
  | .nil, .node _ _ _ => false
  | .node _ _ _, .nil => false
theorem eqFo_iff : ∀ a b : Fo, eqFo a b = true ↔ a = b
  | .nil, .nil => by simp [eqFo]
  | .node c k r, .node c' k' r' => by simp [eqFo, eqFo_iff k k', eqFo_iff r r', and_assoc]
  | .nil, .node _ _ _ => by simp [eqFo]
  | .node _ _ _, .nil => by simp [eqFo]
def eqT (x : TT) : Bool := decide (x.1.1 = x.2.1) && eqFo x.1.2 x.2.2
theorem eqT_iff (x : TT) : eqT x = true ↔ x.1 = x.2 := by
  obtain ⟨⟨c, k⟩, ⟨c', k'⟩⟩ := x
  simp [eqT, eqFo_iff]
def sames (st : List TT) : Bool := st.all eqT
theorem eqFo_zip : ∀ a b : Fo, a.count = b.count → eqFo a b = ((trs a).zip (trs b)).all eqT
  | .nil, .nil, _ => rfl
  | .node c k r, .node c' k' r', h => by
    have := eqFo_zip r r' (by simpa [Fo.count] using h)
    simp [eqFo, trs, eqT, this]
  | .nil, .node _ _ _, h => by simp [Fo.count] at h
  | .node _ _ _, .nil, h => by simp [Fo.count] at h
/-- The pairs of arguments, the first of them at the end. -/
def argPairs (x : TT) : List TT := ((trs x.1.2).zip (trs x.2.2)).reverse
/-- The pairs that an opening puts on the others. -/
def opened (x : TT) : List TT := if x.1.1 = x.2.1 then argPairs x else []
theorem sames_open (st : List TT) (x : TT) (h : x.1.1 = x.2.1) (hc : x.1.2.count = x.2.2.count) : sames (st ++ opened x) = sames (st ++ [x]) := by
  simp [sames, opened, argPairs, h, eqT, eqFo_zip _ _ hc]
theorem sames_no (st : List TT) (x : TT) (h : x.1.1 ≠ x.2.1) : sames (st ++ [x]) = false := by
  simp [sames, eqT, h]
def load : List TT → Nat
  | [] => 0
  | x :: r => x.1.2.cells.length + 1 + load r
theorem load_append : ∀ a b : List TT, load (a ++ b) = load a + load b
  | [], b => by simp [load]
  | x :: r, b => by simp [load, load_append r b]; omega
theorem load_reverse : ∀ a : List TT, load a.reverse = load a
  | [] => rfl
  | x :: r => by simp [load_append, load, load_reverse r]; omega
theorem load_zip : ∀ a b : Fo, load ((trs a).zip (trs b)) ≤ a.cells.length
  | .nil, b => by simp [trs, load]
  | .node c k r, .nil => by simp [trs, load]
  | .node c k r, .node c' k' r' => by
    have := load_zip r r'
    simp [trs, load, Fo.cells]; omega
theorem load_opened (x : TT) : load (opened x) ≤ x.1.2.cells.length := by
  unfold opened argPairs
  split
  · rw [load_reverse]; exact load_zip _ _
  · simp [load]
theorem len_load : ∀ st : List TT, st.length ≤ load st
  | [] => Nat.le_refl _
  | x :: r => by have := len_load r; simp [load]; omega
/-- Trees that are valid. -/
def Tr.ok (t : Tr) : Prop := t.fo.ok
theorem trs_ok : ∀ F : Fo, F.ok → ∀ t ∈ trs F, Tr.ok t
  | .nil, _, t, h => by simp [trs] at h
  | .node c k r, ⟨h1, h2, h3, h4, h5, h6⟩, t, h => by
    rcases List.mem_cons.1 (show t ∈ (c, k) :: trs r from h) with rfl | h'
    · exact ⟨h1, h2, h3, h4, h5, trivial⟩
    · exact trs_ok r h6 t h'
theorem opened_ok {x : TT} (h1 : x.1.ok) (h2 : x.2.ok) : ∀ y ∈ opened x, y.1.ok ∧ y.2.ok := fun y hy => by
  unfold opened argPairs at hy
  split at hy
  · have hz := List.of_mem_zip (List.mem_reverse.1 hy)
    exact ⟨trs_ok _ h1.2.2.2.2.1 _ hz.1, trs_ok _ h2.2.2.2.2.1 _ hz.2⟩
  · cases hy
theorem ok_count {x : TT} (h1 : x.1.ok) (h2 : x.2.ok) (h : x.1.1 = x.2.1) : x.1.2.count = x.2.2.count := by
  obtain ⟨⟨c, k⟩, ⟨c', k'⟩⟩ := x
  simp only at h
  subst h
  by_cases h3 : c.1 = 3
  · have e1 := h1.2.2.1 h3
    have e2 := h2.2.2.1 h3
    simp only at e1 e2 ⊢
    omega
  · have e1 : k = .nil := h1.2.2.2.1 h3
    have e2 : k' = .nil := h2.2.2.2.1 h3
    rw [e1, e2]
/-- A forest is told by its cells. -/
theorem Fo.cells_inj : ∀ (a b : Fo) (x y : List Cel), a.ok → b.ok → a.count = b.count → a.cells ++ x = b.cells ++ y → a = b ∧ x = y
  | .nil, .nil, x, y, _, _, _, h => ⟨rfl, by simpa [Fo.cells] using h⟩
  | .nil, .node _ _ _, _, _, _, _, h, _ => by simp [Fo.count] at h
  | .node _ _ _, .nil, _, _, _, _, h, _ => by simp [Fo.count] at h
  | .node c k r, .node c' k' r', x, y, h1, h2, hc, h => by
    simp only [Fo.cells, List.cons_append, List.cons.injEq, List.append_assoc] at h
    obtain ⟨rfl, h⟩ := h
    have hk : k.count = k'.count := ok_count (x := ((c, k), (c, k'))) ⟨h1.1, h1.2.1, h1.2.2.1, h1.2.2.2.1, h1.2.2.2.2.1, trivial⟩ ⟨h2.1, h2.2.1, h2.2.2.1, h2.2.2.2.1, h2.2.2.2.2.1, trivial⟩ rfl
    obtain ⟨rfl, h'⟩ := Fo.cells_inj k k' _ _ h1.2.2.2.2.1 h2.2.2.2.2.1 hk h
    obtain ⟨rfl, rfl⟩ := Fo.cells_inj r r' x y h1.2.2.2.2.2 h2.2.2.2.2.2 (by simpa [Fo.count] using hc) h'
    exact ⟨rfl, rfl⟩
theorem eqT_cells {x : TT} (h1 : x.1.ok) (h2 : x.2.ok) : eqT x = decide (x.1.1 :: x.1.2.cells = x.2.1 :: x.2.2.cells) := by
  rw [Bool.eq_iff_iff, eqT_iff, decide_eq_true_eq]
  obtain ⟨⟨c, k⟩, ⟨c', k'⟩⟩ := x
  constructor
  · intro h
    obtain ⟨rfl, rfl⟩ := Prod.mk.inj h
    rfl
  · intro h
    have := Fo.cells_inj (.node c k .nil) (.node c' k' .nil) [] [] h1 h2 rfl (by simpa [Fo.cells] using h)
    have h3 := this.1
    injection h3 with e1 e2
    rw [e1, e2]

end Go.Proofs.YtpcmfdbcjegbcaaGreatDoor
