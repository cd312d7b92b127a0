/- slices.SortFunc at a row of operators of the call's own. Own work of the verifier. -/
import Derived.Test.YtbfhpnacoigfkaaDoorOpsSort
namespace Go.Proofs.YtbfhpnacoigfkaaDoor
open Go Go.RowKit Go.Sort Go.Shelf
set_option linter.unusedVariables false

theorem heap_sortedK {w : World} {g n : Nat} {os : Array Obj} {cur : Array Value} {e : TypeId} {fr : Nat × Nat} (F : Array Value) (hb : w.heap[g]? = some (.cells cur e fr)) :
    (grow (putRow id (Sort.ahead w n) g 0 F) os).heap[g]? = some (.cells (putCells id 0 F cur) e fr) := by
  have hg : g < w.heap.size := (Array.getElem?_eq_some_iff.1 hb).1
  rw [heap_grow_old _ _ (by simpa using hg)]
  simp [putRow, mapBlock, Sort.ahead, Array.getElem?_modify, hb, onCells]
theorem take_putCellsK (cur F : Array Value) (h : F.size ≤ cur.size) : (putCells id 0 F cur).toList.take F.size = F.toList := by
  apply List.ext_getElem?
  intro j
  by_cases hj : j < F.size
  · rw [List.getElem?_take_of_lt hj, Array.getElem?_toList]
    simp [putCells, hj, show j < cur.size by omega]
  · rw [List.getElem?_take_eq_none (by omega), List.getElem?_eq_none (by simp; omega)]
theorem flat_list {w : World} {B g : Nat} [Inhabited (RowE w B g)] (d : Array (RowE w B g)) : (flatK encE 3 d).toList = flatO (d.toList.map (fun x => x.1.1)) := by
  apply List.ext_getElem?
  intro j
  by_cases hj : j < d.size * 3
  · have hi : j / 3 < d.size := by omega
    have h := flatO_at (d.toList.map (fun x => x.1.1)) (j / 3) (by simpa using hi)
    have hd : (d.toList.map (fun x => x.1.1)).getD (j / 3) RC.zero = (d[j / 3]!).1.1 := by simp [List.getD, hi]
    rw [hd] at h
    have hf := get_flatK encE 3 d j hj
    have hs : j < (flatK (encE (w := w) (B := B) (blk := g)) 3 d).size := by simpa using hj
    rw [Array.getElem?_toList, Array.getElem?_eq_getElem hs]
    rw [getElem!_pos _ j hs] at hf
    rw [hf]
    obtain ⟨h0, h1, h2⟩ := h
    have h3 : j % 3 = 0 ∨ j % 3 = 1 ∨ j % 3 = 2 := by omega
    rcases h3 with h3 | h3 | h3
    · rw [show j / 3 * 3 = j by omega] at h2
      rw [h2, h3]; simp [encE, roV]
    · rw [show j / 3 * 3 + 1 = j by omega] at h0
      rw [h0, h3]; simp [encE, roV]
    · rw [show j / 3 * 3 + 2 = j by omega] at h1
      rw [h1, h3]; simp [encE, roV]
  · rw [List.getElem?_eq_none (by simp; omega), List.getElem?_eq_none (by rw [flatO_len]; simp; omega)]

theorem sortOps_any (w : World) (B g n cap : Nat) (cs : List Cel) (h : OwnO w B (some ⟨g, 0, none⟩) n cap cs) (hn : 0 < n) (hl : n ≤ 100000) :
    Calls Tryd.prog 44 #[.slice (some ⟨g, 0, none⟩) n cap, .func (.func 39) #[] #[]] w fun e w' => e = .returned (.tuple #[]) ∧
      ∃ ds : List Cel, ds.Perm cs ∧ ds.Pairwise (fun x y => ltO y x = false) ∧ OwnO w' B (some ⟨g, 0, none⟩) n cap ds ∧ w.grownBy w' (some g) := by
  obtain ⟨hnc, rs, hrl, hr, hf, ha⟩ := h
  have mk : ∀ i, i < n → Fits w B (rs.getD i RC.zero) (cs.getD i Cel.none) ∧ (0 < (rs.getD i RC.zero).2.2.2.1 → (rs.getD i RC.zero).2.2.1 ≠ some ⟨g, 0, none⟩) := fun i hi => ⟨hf i (by omega), fun hp => ha.1 i (by omega) hp⟩
  obtain ⟨L, hL⟩ : ∃ L : List (RowE w B g), L = (List.range n).attach.map (fun i => ⟨(rs.getD i.1 RC.zero, cs.getD i.1 Cel.none), mk i.1 (List.mem_range.1 i.2)⟩) := ⟨_, rfl⟩
  have hLr : L.map (fun x => x.1.1) = rs := by
    rw [hL, List.map_map]
    apply List.ext_getElem (by simp; omega)
    intro i h1 h2
    simp [List.getD, h2]
  have hLc : L.map (fun x => x.1.2) = cs := by
    rw [hL, List.map_map]
    apply List.ext_getElem (by simp; omega)
    intro i h1 h2
    simp [List.getD, h2]
  have hLn : L.length = n := by have := congrArg List.length hLc; simp at this; omega
  haveI : Inhabited (RowE w B g) := ⟨L[0]'(by omega)⟩
  obtain ⟨cur, hcap, hgB, hgh, hcap1, hcap2, hcur, hrow⟩ : ∃ cur : Array Value, True ∧ B ≤ g ∧ w.heap[g]? = some (.cells cur 39 (0, 0)) ∧ n ≤ cap ∧ cap ≤ maxLen ∧ cur.size = cap * 3 ∧ cur.toList.take (n * 3) = flatO rs := by
    rcases hr.2 with ⟨h', _⟩ | ⟨g', cap', cur, hv, hB, hg', h1, h2, h3, h4⟩
    · simp at h'
    · simp only [Value.slice.injEq, Option.some.injEq, Addr.mk.injEq, and_true, true_and] at hv
      obtain ⟨rfl, rfl⟩ := hv
      exact ⟨cur, trivial, hB, hg', h1, h2, h3, h4⟩
  have hH : HoldsK encE 3 w g 0 L.toArray := fun j hj => by
    simp only [size_flatK, List.size_toArray] at hj
    have hfl := flat_list (w := w) (B := B) (g := g) L.toArray
    simp only [hLr] at hfl
    refine ⟨?_, by simp [World.frozen?, hgh]⟩
    have hs : j < (flatK (encE (w := w) (B := B) (blk := g)) 3 L.toArray).size := by simpa using hj
    rw [Nat.zero_add, getElem!_pos _ j hs]
    have h1 := hr.cellAt j (by omega)
    rw [h1, ← hfl, Array.getElem?_toList, Array.getElem?_eq_getElem hs]
    rfl
  have eg : ∀ args w, (callFunc 39 args).run Tryd.prog w = .ok (.enter 39 args) w := enters_of Tryd.func39 (by kernel_rfl) rfl
  have hcon := AnyQ.slices_SortFunc Tryd.sortOpL 3 isAggOp sizeOfOp (encE (w := w) (B := B) (blk := g)) (fun _ => rfl) (fun x v hv => by simp [encE, roV] at hv; rcases hv with rfl | rfl | rfl <;> rfl) cfE e_swo 39 #[] g 0 cap L.toArray w eg (cmpLaysOp _) hH (Array.getElem?_eq_some_iff.1 hgh).1 (by simp; omega)
  simp only [List.size_toArray, hLn] at hcon
  refine hcon.mono ?_
  rintro e w' ⟨rfl, d', m, os, hp, hs, rfl⟩
  have hsz : d'.size = n := by have := hp.1; simp at this; omega
  have hperm : d'.toList.Perm L := by
    have := hp.2.2
    rw [Array.extract_eq_self_of_le (by omega), Array.extract_eq_self_of_le (by simp; omega)] at this
    simpa using this
  have hg : w.grownBy (sortWorldK encE 3 w g 0 m d' os) (some g) := grownBy_sortE d'
  refine ⟨rfl, d'.toList.map (fun x => x.1.2), ?_, ?_, ⟨by simp [hsz], d'.toList.map (fun x => x.1.1), by simp, ⟨?_, .inr ⟨g, cap, _, rfl, hgB, heap_sortedK _ hgh, hcap1, hcap2, ?_, ?_⟩⟩, fun i hi => ?_, fun i hi hp0 => ?_, ?_⟩, hg⟩
  · rw [← hLc]; exact hperm.map _
  · rw [List.pairwise_map, List.pairwise_iff_getElem]
    intro i j h1 h2 hij
    have h := hs i j (Nat.zero_le _) hij (by simpa [hsz] using h2)
    have e1 : d'[i]! = d'.toList[i] := by simp [show i < d'.size by simpa using h1]
    have e2 : d'[j]! = d'.toList[j] := by simp [show j < d'.size by simpa using h2]
    rw [e1, e2] at h
    exact h
  · rw [flatO_len]; simp [hsz]
  · simp [putCells, hcur]
  · have h1 := take_putCellsK cur (flatK encE 3 d') (by simp; omega)
    rw [flat_list] at h1
    simp only [size_flatK, hsz] at h1
    exact h1
  · have hi' : i < d'.toList.length := by simpa using hi
    have e1 : (d'.toList.map (fun x => x.1.1)).getD i RC.zero = (d'.toList[i]).1.1 := by simp [List.getD, show i < d'.size by simpa using hi']
    have e2 : (d'.toList.map (fun x => x.1.2)).getD i Cel.none = (d'.toList[i]).1.2 := by simp [List.getD, show i < d'.size by simpa using hi']
    rw [e1, e2]
    have hx := (d'.toList[i]).2
    exact ⟨hx.1.1, hx.1.2.1, ownT_grown hx.1.2.2 hg hx.2⟩
  · have hi' : i < d'.toList.length := by simpa using hi
    have e1 : (d'.toList.map (fun x => x.1.1)).getD i RC.zero = (d'.toList[i]).1.1 := by simp [List.getD, show i < d'.size by simpa using hi']
    rw [e1] at hp0 ⊢
    exact (d'.toList[i]).2.2 hp0
  · have hpw : rs.Pairwise (fun a b : RC => 0 < a.2.2.2.1 → 0 < b.2.2.2.1 → a.2.2.1 ≠ b.2.2.1) := by
      rw [List.pairwise_iff_getElem]
      intro i j h1 h2 hij h3 h4
      have := ha.2 i j h1 h2 (by omega)
      simp only [List.getD, List.getElem?_eq_getElem h1, List.getElem?_eq_getElem h2, Option.getD_some] at this
      exact this h3 h4
    have hpr : (d'.toList.map (fun x => x.1.1)).Perm rs := by rw [← hLr]; exact hperm.map _
    have hpw' := hpr.symm.pairwise hpw (fun h a b => (h b a).symm)
    intro i j h1 h2 hij h3 h4
    have key : ∀ i j (h1 : i < (d'.toList.map (fun x => x.1.1)).length) (h2 : j < (d'.toList.map (fun x => x.1.1)).length), i < j → 0 < ((d'.toList.map (fun x => x.1.1)).getD i RC.zero).2.2.2.1 → 0 < ((d'.toList.map (fun x => x.1.1)).getD j RC.zero).2.2.2.1 → ((d'.toList.map (fun x => x.1.1)).getD i RC.zero).2.2.1 ≠ ((d'.toList.map (fun x => x.1.1)).getD j RC.zero).2.2.1 := fun i j h1 h2 hij => by
      have := List.pairwise_iff_getElem.1 hpw' i j h1 h2 hij
      simp only [List.getD, List.getElem?_eq_getElem h1, List.getElem?_eq_getElem h2, Option.getD_some]
      exact this
    rcases Nat.lt_or_ge i j with h | h
    · exact key i j h1 h2 h h3 h4
    · exact (key j i h2 h1 (by omega) h4 h3).symm

end Go.Proofs.YtbfhpnacoigfkaaDoor
