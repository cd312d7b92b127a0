/- Trees by ranks are ordered as their cells. Own work of the verifier. -/
import Derived.Test.YtopdhjnpcpkmlaaCmp9
namespace Go.Proofs.Ytopdhjnpcpkmlaa
open Go Go.RowKit Go.Maps
set_option linter.unusedVariables false

/-- The ranks keep the order. -/
def RankOk (rk : Fun → Int) (ks : List Fun) : Prop := ∀ f ∈ ks, ∀ g ∈ ks, cmpI (rk f) (rk g) = funCmp f g
theorem orI_assoc (x y z : Int) : orI (orI x y) z = orI x (orI y z) := by unfold orI; split <;> simp_all
theorem cmpI_sgn {x y : Int} (h : x ≠ y) : cmpI x y = sgn (decide (x < y)) := by
  unfold cmpI sgn
  by_cases h1 : x < y
  · simp [h1]
  · have : y < x := by omega
    simp [h1, this]
theorem cmpI_self (x : Int) : cmpI x x = 0 := by simp [cmpI]
theorem cmpS_cell (x y : ByteArray) : cmpS x y = if x.toList == y.toList then 0 else sgn (Op.bytesLess x.toList y.toList) := by
  unfold cmpS sgn
  cases h : (x.toList == y.toList) with
  | true =>
    have e : x.toList = y.toList := by simpa using h
    rw [e, bl_irrefl]; simp
  | false => cases h2 : Op.bytesLess x.toList y.toList <;> simp
theorem orI_l {x y : Int} (h : x ≠ 0) : orI x y = x := by rw [orI, if_pos h]
theorem orI_z (y : Int) : orI 0 y = y := by simp [orI]
theorem cmpI_nz {x y : Int} (h : x ≠ y) : cmpI x y ≠ 0 := by rw [cmpI_sgn h]; exact sgn_ne _
theorem cellCmp_or (c c' : Cel) : cellCmp c c' = orI (cmpI c.1 c'.1) (orI (cmpI c.2.1 c'.2.1) (cmpS (strOfNums c.2.2) (strOfNums c'.2.2))) := by
  unfold cellCmp
  by_cases h1 : c.1 = c'.1
  · rw [if_neg (by simp [h1]), h1, cmpI_self, orI_z]
    by_cases h2 : c.2.1 = c'.2.1
    · rw [if_neg (by simp [h2]), h2, cmpI_self, orI_z, cmpS_cell]
    · rw [if_pos h2, orI_l (cmpI_nz h2), cmpI_sgn h2]
  · rw [if_pos h1, orI_l (cmpI_nz h1), cmpI_sgn h1]
theorem cmpN_cell {rk : Fun → Int} {ks : List Fun} (hr : RankOk rk ks) {c c' : Cel} (hb : cellB c.1 c.2.1 c.2.2.length = true) (hb' : cellB c'.1 c'.2.1 c'.2.2.length = true) (hn : (c.1 = 2 ∨ c.1 = 3) → (strOfNums c.2.2, c.2.1) ∈ ks) (hn' : (c'.1 = 2 ∨ c'.1 = 3) → (strOfNums c'.2.2, c'.2.1) ∈ ks) :
    cmpN rk c c' = cellCmp c c' := by
  rw [cellCmp_or, cmpN]
  by_cases h1 : c.1 = c'.1
  · rw [h1, cmpI_self, orI_z, orI_z]
    by_cases h2 : c.1 = 2 ∨ c.1 = 3
    · have h2' : c'.1 = 2 ∨ c'.1 = 3 := by rw [← h1]; exact h2
      rw [rankOf, rankOf, if_pos h2, if_pos h2', hr _ (hn h2) _ (hn' h2')]; rfl
    · have h2' : ¬ (c'.1 = 2 ∨ c'.1 = 3) := by rw [← h1]; exact h2
      rw [rankOf, rankOf, if_neg h2, if_neg h2']
      have l1 : c.2.2 = [] := by
        simp only [cellB, decide_eq_true_eq] at hb
        apply List.length_eq_zero_iff.1; omega
      have l2 : c'.2.2 = [] := by
        simp only [cellB, decide_eq_true_eq] at hb'
        apply List.length_eq_zero_iff.1; omega
      have e : cmpS (strOfNums c.2.2) (strOfNums c'.2.2) = 0 := by rw [l1, l2, cmpS, bl_irrefl]; simp
      rw [e]
      unfold orI
      split <;> simp_all
  · rw [orI_l (cmpI_nz h1), orI_l (cmpI_nz h1)]
theorem cellCmp_zero {c c' : Cel} (h : cellCmp c c' = 0) : c.1 = c'.1 ∧ c.2.1 = c'.2.1 := by
  rw [cellCmp_or] at h
  by_cases h1 : c.1 = c'.1
  · refine ⟨h1, ?_⟩
    rw [h1, cmpI_self, orI_z] at h
    by_cases h2 : c.2.1 = c'.2.1
    · exact h2
    · rw [orI_l (cmpI_nz h2)] at h; exact absurd h (cmpI_nz h2)
  · rw [orI_l (cmpI_nz h1)] at h; exact absurd h (cmpI_nz h1)
theorem cmpC_cons (c c' : Cel) (xs ys : List Cel) : cmpC (c :: xs) (c' :: ys) = orI (cellCmp c c') (cmpC xs ys) := rfl
theorem cmpC_fo {rk : Fun → Int} {ks : List Fun} (hr : RankOk rk ks) : ∀ (K K' : Fo) (X X' : List Cel), K.ok → K'.ok → K.count = K'.count → NamesIn ks K.cells → NamesIn ks K'.cells → cmpC (K.cells ++ X) (K'.cells ++ X') = orI (cmpFo rk K K') (cmpC X X')
  | .nil, .nil, X, X', _, _, _, _, _ => by simp [Fo.cells, cmpFo, orI_z]
  | .nil, .node c k r, X, X', _, _, h, _, _ => by simp [Fo.count] at h
  | .node c k r, .nil, X, X', _, _, h, _, _ => by simp [Fo.count] at h
  | .node c k r, .node c' k' r', X, X', ho, ho', hc, hn, hn' => by
    have n1 := hn c (by simp [Fo.cells])
    have n2 := hn' c' (by simp [Fo.cells])
    have e := cmpN_cell hr ho.1 ho'.1 n1 n2
    simp only [Fo.cells, List.cons_append, List.append_assoc, cmpC_cons, cmpFo, e]
    by_cases hz : cellCmp c c' = 0
    · obtain ⟨h1, h2⟩ := cellCmp_zero hz
      have hk : k.count = k'.count := by
        by_cases h3 : c.1 = 3
        · have a := ho.2.2.1 h3
          have b := ho'.2.2.1 (by rw [← h1]; exact h3)
          omega
        · rw [ho.2.2.2.1 h3, ho'.2.2.2.1 (by rw [← h1]; exact h3)]
      have hrc : r.count = r'.count := by simpa [Fo.count] using hc
      have i1 := cmpC_fo hr k k' (r.cells ++ X) (r'.cells ++ X') ho.2.2.2.2.1 ho'.2.2.2.2.1 hk (hn.sub fun x hx => by simp [Fo.cells, hx]) (hn'.sub fun x hx => by simp [Fo.cells, hx])
      have i2 := cmpC_fo hr r r' X X' ho.2.2.2.2.2 ho'.2.2.2.2.2 hrc (hn.sub fun x hx => by simp [Fo.cells, hx]) (hn'.sub fun x hx => by simp [Fo.cells, hx])
      rw [i1, i2, hz, orI_z, orI_z, orI_assoc]
    · rw [orI_l hz, orI_l hz, orI_l hz, orI_l hz]
/-- compare's answer is the order of the cells. -/
theorem compare_cells {rk : Fun → Int} {ks : List Fun} (hr : RankOk rk ks) (c c' : Cel) (k k' : Fo) (ho : (Fo.node c k .nil).ok) (ho' : (Fo.node c' k' .nil).ok) (hn : NamesIn ks (c :: k.cells)) (hn' : NamesIn ks (c' :: k'.cells)) : orI (cmpN rk c c') (cmpFo rk k k') = cmpC (c :: k.cells) (c' :: k'.cells) := by
  have h := cmpC_fo hr (.node c k .nil) (.node c' k' .nil) [] [] ho ho' rfl (by simpa [Fo.cells] using hn) (by simpa [Fo.cells] using hn')
  simp only [Fo.cells, List.append_nil, cmpFo] at h
  rw [h]
  unfold orI
  simp only [cmpC]
  split <;> simp_all

end Go.Proofs.Ytopdhjnpcpkmlaa
