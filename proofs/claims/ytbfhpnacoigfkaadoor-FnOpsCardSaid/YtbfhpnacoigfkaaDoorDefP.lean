/- The table with which programs begin, as lists. Own work of the verifier. -/
import Derived.Test.YtbfhpnacoigfkaaDoorOpsM4
import Derived.Test.YtbfhpnacoigfkaaDoorDefW
import Derived.Lib.Fields
namespace Go.Proofs.YtbfhpnacoigfkaaDoor
open Go Go.RowKit
set_option linter.unusedVariables false

def numsU (l : List UInt8) : List Int := l.map (fun u => (u.toNat : Int))
/-- The rows: priority, type, names. -/
def dRows : List (Int × Int × List UInt8) := [
  (1200, 0, [58, 45, 32, 45, 45, 62]), (1200, 4, [58, 45, 32, 63, 45]), (1150, 4, [100, 121, 110, 97, 109, 105, 99]), (1100, 1, [59]), (1050, 1, [45, 62]), (1000, 1, [44]), (900, 3, [92, 43]),
  (700, 0, [61, 32, 92, 61, 32, 61, 61, 32, 92, 61, 61, 32, 64, 60, 32, 64, 61, 60, 32, 64, 62, 32, 64, 62, 61, 32, 61, 46, 46, 32, 105, 115, 32, 61, 58, 61, 32, 61, 92, 61, 32, 60, 32, 61, 60, 32, 62, 32, 62, 61]),
  (500, 2, [43, 32, 45, 32, 47, 92, 32, 92, 47, 32, 120, 111, 114]), (400, 2, [42, 32, 47, 32, 47, 47, 32, 109, 111, 100, 32, 114, 101, 109, 32, 60, 60, 32, 62, 62]), (200, 0, [42, 42]), (200, 1, [94]), (200, 3, [45, 32, 43, 32, 92])]
def opsRow (r : Int × Int × List UInt8) : List Cel := (wd [] r.2.2).map (fun x => (r.1, r.2.1, numsU x))
def dOps : List Cel := dRows.flatMap opsRow
theorem dRows_len : dRows.length = 13 := rfl
theorem dOps_len : dOps.length ≤ 60 := by decide
theorem row_good : dRows.all (fun r => decide (0 < r.1 ∧ r.1 ≤ 1200 ∧ 0 ≤ r.2.1 ∧ r.2.1 ≤ 4) && (wd [] r.2.2).all (fun x => decide (1 ≤ x.length ∧ x.length ≤ 100))) = true := by decide
theorem fields_rows : dRows.all (fun r => decide (Lib.fields r.2.2 = wd [] r.2.2)) = true := by decide
theorem ascii_rows : dRows.all (fun r => r.2.2.all (fun b => decide (b.toNat < 128)) && decide (r.2.2.length < 100)) = true := by decide
theorem strOf_numsU (l : List UInt8) : strOfNums (numsU l) = bOf l := by
  apply ba_ext
  rw [str_list, numsU, map_forth, ByteArray.toList_eq]; rfl
theorem byte_numsU (l : List UInt8) : Byte (numsU l) := fun x hx => by
  simp only [numsU, List.mem_map] at hx
  obtain ⟨u, _, rfl⟩ := hx
  have := u.toNat_lt
  omega

/-- A table as a set, and as an ascending list. -/
structure Rel (T cs : List Cel) : Prop where
  asc : Asc cs
  apart : Apart T
  same : ∀ x, x ∈ T ↔ x ∈ cs
  post : ∀ x ∈ T, postB x.2.1 = false
theorem Rel.nil : Rel [] [] := ⟨List.Pairwise.nil, List.Pairwise.nil, fun _ => Iff.rfl, fun x h => by cases h⟩
theorem putO_asc' {cs : List Cel} {o : Cel} (hA : Asc cs) : Asc (putO cs o) := by
  rw [putO]
  cases h : (o.1 == 0) with
  | true => rw [putL_done]; exact hA.filter _
  | false => exact putL_asc o cs hA
theorem Rel.code {T cs : List Cel} (h : Rel T cs) {o : Cel} (hp : postB o.2.1 = false) (hl : T.length < 200) : addCode T o = 0 := by
  rw [addCode]
  cases hf : findK T (keyC o) with
  | some x =>
    have := h.post x (findK_some hf).1
    simp [this, hp]
  | none =>
    have : ¬ T.length = 200 := by omega
    simp [this]
theorem Rel.step {T cs : List Cel} (h : Rel T cs) {o : Cel} (h0 : o.1 ≠ 0) (hp : postB o.2.1 = false) (hl : T.length < 200) : Rel (addT T o) (putO cs o) := by
  have hc := h.code hp hl
  have e : addT T o = dropK T (keyC o) ++ [o] := by rw [addT, if_neg (by rw [hc]; simp), if_neg h0]
  refine ⟨putO_asc' h.asc, ?_, fun x => ?_, fun x hx => ?_⟩
  · rw [e]
    refine List.pairwise_append.2 ⟨List.Pairwise.filter _ h.apart, by simp, fun x hx y hy => ?_⟩
    simp at hy
    rw [hy]; exact (mem_dropK.1 hx).2
  · have hz : (o.1 == 0) = false := by simpa using h0
    rw [e, putO, hz, putL_mem]
    simp only [List.mem_append, mem_dropK, List.mem_singleton, h.same]
    constructor
    · rintro (h | h)
      · exact .inr h
      · exact .inl h
    · rintro (h | h)
      · exact .inr h
      · exact .inl h
  · rw [e] at hx
    rcases List.mem_append.1 hx with hx | hx
    · exact h.post x (mem_dropK.1 hx).1
    · simp at hx; rw [hx]; exact hp
theorem addT_len {T : List Cel} {o : Cel} : (addT T o).length ≤ T.length + 1 := by
  rw [addT]
  split
  · omega
  · have h2 : (dropK T (keyC o)).length ≤ T.length := List.length_filter_le _ _
    split
    · omega
    · simp; omega
def goodO (o : Cel) : Prop := o.1 ≠ 0 ∧ postB o.2.1 = false ∧ okT o
theorem dOps_good : ∀ o ∈ dOps, goodO o := fun o ho => by
  simp only [dOps, List.mem_flatMap, opsRow, List.mem_map] at ho
  obtain ⟨r, hr, x, hx, rfl⟩ := ho
  have h := List.all_eq_true.1 row_good r hr
  simp only [Bool.and_eq_true, decide_eq_true_eq, List.all_eq_true] at h
  have h2 := h.2 x hx
  refine ⟨by show r.1 ≠ 0; omega, ?_, byte_numsU x, by simp [numsU]; omega⟩
  simp only [postB, Bool.or_eq_false_iff, beq_eq_false_iff_ne]
  omega
theorem rel_fold : ∀ (os T cs : List Cel), Rel T cs → (∀ o ∈ os, goodO o) → T.length + os.length ≤ 200 → Rel (os.foldl addT T) (os.foldl putO cs) ∧ (os.foldl addT T).length ≤ T.length + os.length
  | [], T, cs, h, _, _ => ⟨h, by simp⟩
  | o :: r, T, cs, h, hg, hl => by
    have h1 := hg o (List.mem_cons_self ..)
    simp only [List.length_cons] at hl
    have h2 := rel_fold r (addT T o) (putO cs o) (h.step h1.1 h1.2.1 (by omega)) (fun x hx => hg x (List.mem_cons_of_mem _ hx)) (by have := addT_len (T := T) (o := o); omega)
    refine ⟨h2.1, ?_⟩
    have h3 := h2.2
    have h4 := addT_len (T := T) (o := o)
    simp only [List.foldl_cons, List.length_cons]
    omega
theorem putO_len1 (cs : List Cel) (o : Cel) : (putO cs o).length ≤ cs.length + 1 := by
  have h : ∀ (d : Bool) (cs : List Cel), (putL o d cs).length ≤ cs.length + 1 := fun d cs => by
    induction cs generalizing d with
    | nil => cases d <;> simp [putL]
    | cons x r ih =>
      rw [putL]
      split
      · have := ih d; simp; omega
      · split
        · rw [putL_done]
          have h2 := List.length_filter_le (fun x => decide (keyC x ≠ keyC o)) r
          simp only [List.length_cons]; omega
        · have := ih d; simp; omega
  exact h _ cs
theorem fold_len : ∀ (os cs : List Cel), (os.foldl putO cs).length ≤ cs.length + os.length
  | [], cs => by simp
  | o :: r, cs => by
    have h1 := fold_len r (putO cs o)
    have h2 := putO_len1 cs o
    simp only [List.foldl_cons, List.length_cons]; omega
def rowAt (i : Nat) : Int × Int × List UInt8 := dRows.getD i (0, 0, [])
theorem rowAt_mem {i : Nat} (h : i < 13) : rowAt i ∈ dRows := by
  rw [rowAt, List.getD, List.getElem?_eq_getElem (by rw [dRows_len]; exact h)]
  exact List.getElem_mem _
def restO (i : Nat) : List Cel := (dRows.drop i).flatMap opsRow
theorem restO_at {i : Nat} (h : i < 13) : restO i = opsRow (rowAt i) ++ restO (i + 1) := by
  have h' : i < dRows.length := by rw [dRows_len]; exact h
  rw [restO, List.drop_eq_getElem_cons h', List.flatMap_cons, rowAt, List.getD, List.getElem?_eq_getElem h']; rfl
theorem restO_end : restO 13 = [] := rfl
theorem wordsLen {i : Nat} (h : i < 13) : (rowAt i).2.2.length < 100 ∧ (∀ b ∈ (rowAt i).2.2, b.toNat < 128) ∧ Lib.fields (rowAt i).2.2 = wd [] (rowAt i).2.2 := by
  have h1 := List.all_eq_true.1 ascii_rows _ (rowAt_mem h)
  have h2 := List.all_eq_true.1 fields_rows _ (rowAt_mem h)
  simp only [Bool.and_eq_true, decide_eq_true_eq, List.all_eq_true] at h1 h2
  exact ⟨h1.2, h1.1, h2⟩
/-- The table. -/
def dTab : List Cel := dOps.foldl putO []

end Go.Proofs.YtbfhpnacoigfkaaDoor
