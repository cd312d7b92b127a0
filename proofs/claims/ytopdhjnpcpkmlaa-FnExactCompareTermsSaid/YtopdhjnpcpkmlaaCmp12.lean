/- Names sorted in a row of the call's own. Own work of the verifier. -/
import Derived.Sort.OwnSortedInts
import Derived.Test.YtopdhjnpcpkmlaaCmp11
namespace Go.Proofs.Ytopdhjnpcpkmlaa
open Go Go.RowKit Go.Maps Go.Sort Go.Shelf
set_option linter.unusedVariables false

/-- Names as they lie. -/
def FunsIn (w : World) (g : Nat) (fs : List Fun) : Prop := ∀ i, i < fs.length → w.cell? ⟨g, i * 2, none⟩ = some (.string fs[i]!.1) ∧ w.cell? ⟨g, i * 2 + 1, none⟩ = some (.int .i64 fs[i]!.2)
theorem FunsIn.holds {w : World} {g : Nat} {fs : List Fun} (h : FunsIn w g fs) (hf : ∀ j, w.frozen? ⟨g, j, none⟩ = false) : HoldsK encF 2 w g 0 fs.toArray := fun j hj => by
  simp only [size_flatK, List.size_toArray] at hj
  refine ⟨?_, by rw [Nat.zero_add]; exact hf j⟩
  rw [Nat.zero_add, get_flatK _ _ _ _ (by simpa using hj)]
  have hi : j / 2 < fs.length := by omega
  obtain ⟨h0, h1⟩ := h (j / 2) hi
  rcases Nat.mod_two_eq_zero_or_one j with e | e
  · have ej : j / 2 * 2 = j := by omega
    rw [ej] at h0
    rw [h0, e]
    simp [encF]
  · have ej : j / 2 * 2 + 1 = j := by omega
    rw [ej] at h1
    rw [h1, e]
    simp [encF]
theorem holds_funs {w : World} {g : Nat} {d : Array Fun} (h : HoldsK encF 2 w g 0 d) : FunsIn w g d.toList := fun i hi => by
  have hi' : i < d.size := by simpa using hi
  have h0 := (h (i * 2) (by simp; omega)).1
  have h1 := (h (i * 2 + 1) (by simp; omega)).1
  rw [Nat.zero_add, get_flatK _ _ _ _ (by omega)] at h0 h1
  have e0 : i * 2 / 2 = i := by omega
  have e1 : (i * 2 + 1) / 2 = i := by omega
  have e2 : i * 2 % 2 = 0 := by omega
  have e3 : (i * 2 + 1) % 2 = 1 := by omega
  rw [e0, e2] at h0
  rw [e1, e3] at h1
  have ed : d.toList[i]! = d[i]! := by simp [hi']
  rw [h0, h1, ed]
  simp [encF]
theorem grownBy_sortK {w : World} {g n : Nat} {os : Array Obj} (d : Array Fun) : w.grownBy (sortWorldK encF 2 w g 0 n d os) (some g) := by
  refine ⟨rfl, rfl, rfl, by simp [sortWorldK, putRowK], fun k hk hne => ?_⟩
  rw [sortWorldK, heap_grow_old _ _ (by simpa [putRowK] using hk)]
  have : g ≠ k := fun e => hne (by rw [e])
  simp [putRowK, putRow, mapBlock, Sort.ahead, Array.getElem?_modify, this]
theorem sortFuns_any (fs : List Fun) (g cap : Nat) (w : World) (h : FunsIn w g fs) (hf : ∀ j, w.frozen? ⟨g, j, none⟩ = false) (hg : g < w.heap.size) (hl : fs.length ≤ 100000) :
    Calls Try.prog 76 #[.slice (some ⟨g, 0, none⟩) fs.length cap, .func (.func 77) #[] #[]] w fun e w' => e = .returned (.tuple #[]) ∧ ∃ ds : List Fun, ds.Perm fs ∧ (∀ i j, i < j → j < ds.length → ¬ fl ds[j]! ds[i]!) ∧ FunsIn w' g ds ∧ w.grownBy w' (some g) := by
  have hH := h.holds hf
  have hc := sortFunc_any g cap fs.toArray w hH hg (by simp; omega)
  simp only [List.size_toArray] at hc
  refine hc.mono ?_
  rintro e w' ⟨rfl, d', n, os, hp, hs, rfl⟩
  have hsz : d'.size = fs.length := by simpa using hp.1
  refine ⟨rfl, d'.toList, ?_, fun i j hij hj => ?_, holds_funs (holdsK_sortWorldK_c encF 2 w g 0 fs.toArray d' n os hH hg (by simpa using hsz)), grownBy_sortK d'⟩
  · have := hp.2.2
    rw [Array.extract_eq_self_of_le (by omega)] at this
    simpa using this
  · have hj' : j < fs.length := by rw [← hsz]; simpa using hj
    have := hs i j (Nat.zero_le _) hij hj'
    simp only [ltOf, decide_eq_false_iff_not, funCmp_lt] at this
    have ei : d'.toList[i]! = d'[i]! := by simp [show i < d'.size by omega]
    have ej : d'.toList[j]! = d'[j]! := by simp [show j < d'.size by omega]
    rw [ei, ej]; exact this

theorem funCmp_neg {f g : Fun} (h : fl f g) : funCmp f g = -1 := by
  unfold funCmp orI cmpI cmpS
  rcases h with h | ⟨h, h'⟩
  · simp [h]
  · simp [h, h']
theorem fl_asymm {f g : Fun} (h : fl f g) : ¬ fl g f := fun h2 => by
  rcases h with h | ⟨h, h'⟩ <;> rcases h2 with h2 | ⟨h2, h2'⟩
  · omega
  · omega
  · omega
  · have := bl_trans _ _ _ h' h2'; rw [bl_irrefl] at this; simp at this
theorem funCmp_pos {f g : Fun} (h : fl g f) : funCmp f g = 1 := by
  have h0 : ¬ fl f g := fl_asymm h
  unfold funCmp orI cmpI cmpS
  unfold fl at h h0
  rcases h with h | ⟨h, h'⟩
  · have : ¬ f.2 < g.2 := by omega
    simp [h, this]
  · have n1 : Op.bytesLess f.1.toList g.1.toList = false := by simpa using fun e => h0 (.inr ⟨h.symm, e⟩)
    have n2 : (f.1.toList == g.1.toList) = false := by
      cases e : (f.1.toList == g.1.toList) with
      | false => rfl
      | true =>
        have e' : f.1.toList = g.1.toList := by simpa using e
        rw [e', bl_irrefl] at h'; simp at h'
    simp [h, n1, n2]
theorem funCmp_self (f : Fun) : funCmp f f = 0 := by simp [funCmp, orI, cmpI, cmpS, bl_irrefl]
theorem ba_ext {a b : ByteArray} (h : a.toList = b.toList) : a = b := by
  rw [ByteArray.toList_eq, ByteArray.toList_eq] at h
  cases a; cases b; simpa using h
theorem fl_tri {f g : Fun} (h : ¬ fl f g) (hne : f ≠ g) : fl g f := by
  unfold fl at h ⊢
  by_cases h1 : g.2 < f.2
  · exact .inl h1
  · have e : f.2 = g.2 := by
      have : ¬ f.2 < g.2 := fun e => h (.inl e)
      omega
    have n : Op.bytesLess f.1.toList g.1.toList = false := by simpa using fun x => h (.inr ⟨e, x⟩)
    refine .inr ⟨e.symm, bl_tri _ _ n (fun x => hne ?_)⟩
    obtain ⟨f1, f2⟩ := f
    obtain ⟨g1, g2⟩ := g
    simp only at e x
    rw [e, ba_ext x]
/-- The place of a name in a sorted row keeps the order. -/
theorem rankOk_of {ds ks : List Fun} {rk : Fun → Int} (hp : ∀ f ∈ ks, ∃ i, i < ds.length ∧ ds[i]! = f) (hnd : ∀ i j, i < j → j < ds.length → ds[i]! ≠ ds[j]!) (hs : ∀ i j, i < j → j < ds.length → ¬ fl ds[j]! ds[i]!) (hr : ∀ i, i < ds.length → rk ds[i]! = (i : Int)) : RankOk rk ks := fun f hf g hg => by
  obtain ⟨i, hi, rfl⟩ := hp f hf
  obtain ⟨j, hj, rfl⟩ := hp g hg
  rw [hr i hi, hr j hj]
  rcases Nat.lt_trichotomy i j with h | h | h
  · rw [funCmp_neg (fl_tri (hs i j h hj) (fun e => hnd i j h hj e.symm))]
    simp [cmpI, h]
  · subst h; rw [funCmp_self, cmpI_self]
  · rw [funCmp_pos (fl_tri (hs j i h hi) (fun e => hnd j i h hi e.symm))]
    simp [cmpI, h]; omega

end Go.Proofs.Ytopdhjnpcpkmlaa
