/- The row of FnExactMakeList. Own work of the verifier. -/
import Derived.Test.YtopdhjnpcpkmlaaProofCells
import Derived.Test.YtopdhjnpcpkmlaaLawMake
namespace Go.Proofs.Ytopdhjnpcpkmlaa
open Go Go.ChangeShapes Go.WideShapes Go.ChangeAt Go.WideMaps Go.WideElems Go.RowKit Go.Deep

theorem cellsSlice : Try.prog.cellsOf 22 = 1 := by kernel_rfl
theorem getD_map_range2 (f : Nat → List Cel) (n i : Nat) (h : i < n) : ((List.range n).map f).getD i [] = f i := by
  simp [List.getD, h]
/-- A slice of cells by its one cell. -/
theorem openedItem {H : Type} {enc : TypeId × Value → H} {W : World} {fuel : Nat} {cs : List Value} {x : DataW H × List MemPlace} (hl : cs.length = 1)
    (h : DataW.trod enc Try.prog W 0 (fun _ => true) true fuel 22 cs = some x) : ∃ (p : Option Addr) (cap : Nat) (ys : List Cel), cs = [.slice p ys.length cap] ∧ CArg W p ys := by
  obtain ⟨v, rfl⟩ : ∃ v, cs = [v] := by
    match cs, hl with
    | [v], _ => exact ⟨v, rfl⟩
  have hv : ∃ a len cap, v = .slice a len cap := by
    rcases open_slice Try.underlying22 h with ⟨hcs, hx⟩ | ⟨a, len', cap', m, n, D, Pl, hcs, _⟩
    · exact ⟨none, 0, 0, by simpa using hcs⟩
    · exact ⟨some a, len', cap', by simpa using hcs⟩
  obtain ⟨a, len, cap, rfl⟩ := hv
  obtain ⟨d, pl⟩ := x
  obtain ⟨ys, rfl, hin⟩ := openedCells (d0 := d) (p := pl) ⟨fuel, h⟩
  exact ⟨a, cap, ys, rfl, hin⟩
/-- A slice of slices of cells that came in. -/
theorem openedSS {H : Type} {enc : TypeId × Value → H} {W : World} {a0 : Option Addr} {len cap : Nat} {d0 : DataW H} {p : List MemPlace}
    (h0 : DataW.Trod enc Try.prog W 0 (fun _ => true) true 38 (.slice a0 len cap) d0 p) : ∃ css : List (List Cel), css.length = len ∧ CCArg W a0 css := by
  obtain ⟨fuel, hf⟩ := h0
  rcases open_slice Try.underlying38 hf with ⟨hcs, hx⟩ | ⟨a, len', cap', m, n, D, Pl, hcs, hb, hl, hm, hmm, hx, hel⟩
  · simp [Value.cells] at hcs
    obtain ⟨rfl, rfl, rfl⟩ := hcs
    exact ⟨[], rfl, fun h => absurd h (Nat.lt_irrefl 0), by decide, fun i h => by simp at h⟩
  · simp [Value.cells] at hcs
    obtain ⟨rfl, rfl, rfl⟩ := hcs
    simp only [if_true] at hmm
    subst hmm
    unfold maxLen at hm
    obtain ⟨b, o, s⟩ := a
    have each0 : ∀ i, i < len → ∃ c : List Cel × Option Addr × Nat, W.cell? (((⟨b, o, s⟩ : Addr).add (i * 1)).add 0) = some (.slice c.2.1 c.1.length c.2.2) ∧ CArg W c.2.1 c.1 := fun i hi => by
      obtain ⟨cs', hc, ht⟩ := hel i (by omega)
      have hc1 := World.cells?_some hc
      rw [cellsSlice] at hc hc1
      obtain ⟨q, qc, ys, rfl, hin⟩ := openedItem (by simpa using hc1.2.1) ht
      have g0 := hc1.2.2 0 (by decide)
      exact ⟨(ys, q, qc), by simpa using g0, hin⟩
    obtain ⟨f, hfx⟩ := choose_lt each0
    have hat : ∀ i, i < len → ((List.range len).map (fun i => (f i).1)).getD i [] = (f i).1 := fun i hi => getD_map_range2 (fun i => (f i).1) len i hi
    refine ⟨(List.range len).map (fun i => (f i).1), by simp, fun hn => ?_, by simp; omega, fun i hi => ?_⟩
    · have hn' : 0 < len := by simpa using hn
      have g := World.cell?_spot (hfx 0 hn').1
      obtain rfl : s = none := by simpa [Addr.add] using g
      refine ⟨b, o, rfl, fun i hi => ?_⟩
      have hi' : i < len := by simpa using hi
      rw [hat i hi']
      have g0 := (hfx i hi').1
      simp only [add_plain, Nat.mul_one, Nat.add_zero] at g0
      exact ⟨_, _, g0, (hfx i hi').2.lies⟩
    · have hi' : i < len := by simpa using hi
      rw [hat i hi']
      exact ⟨(hfx i hi').2.len, (hfx i hi').2.text, (hfx i hi').2.byte⟩


set_option maxHeartbeats 800000 in
set_option maxRecDepth 100000 in
theorem make_lifted (os : Os) (started : os.Started) (H : Type) (enc : TypeId × Value → H) :
    ReturnsInHanded {} Try.checked os 7 .any (Rows.fnExactMakeListSpec.pre6 enc Try.prog Try.f7 Rows.fnExactMakeListRow.domain false) (Rows.fnExactMakeListSpec.post enc Try.prog Try.f7 false true false false) := by
  refine returnsInHanded_of_change (C := Try.checked) own started (by kernel_rfl) Try.func7
    (ChangeSpec.witness6 (enc := enc) (C := Try.checked) false ⟨#[], #[.slice none 0 0], []⟩ 8 (by kernel_rfl) (by kernel_rfl) (by kernel_rfl) (by kernel_rfl)) ?_
  intro W base args ds gs before hval0 hW hcnd _
  have hval : ∀ (j : Nat) t v, Try.f7.params[j]? = some t → args[j]? = some v → Value.okWide Try.prog W .any base t v := hval0
  have hW' := hW
  obtain ⟨p, q, hA0, hV, rfl, hfz, hnd⟩ := hW
  have hA : DataW.TrodAll enc Try.prog W 0 (fun _ => true) true Try.f7.params.toList args.toList ds p := hA0
  rw [Try.params7] at hA hval
  obtain ⟨v0, d0, rfl, rfl, h0⟩ := trodAll_one hA
  obtain ⟨rfl, rfl⟩ := trodVars_none hV
  obtain ⟨a0, len, cap, rfl⟩ := okWide_slice Try.underlying38 (hval 0 38 v0 rfl rfl)
  have hlt : ∀ x ∈ p, x.block < W.heap.size := fun x hx => by simpa using hW'.lt x (List.mem_append_left _ hx)
  obtain ⟨cs, rfl, hin⟩ := openedSS h0
  clear hA0 hval0
  refine (lawMake_any a0 cap cs W hin).mono fun e W' ⟨he, hB⟩ => ?_
  subst he
  have harg := Below.trod laidOut (by kernel_rfl) (of_decide_eq_true (by kernel_rfl)) h0 hB hlt
  exact ⟨_, rfl, _, _, _, [], p, [], hW', trodAll_mk1 (shut_bool Try.underlying4 _), trodAll_mk1 harg, rfl, hB.frame _, fun h => by cases h⟩

theorem fnExactMakeList_holds : Rows.FnExactMakeListSaid :=
  OpenClaim.holds_of_wide 7 Try.f7 rfl rfl rfl rfl rfl rfl rfl ⟨rfl, rfl, rfl, rfl, rfl⟩ rfl rfl rfl rfl rfl (by kernel_rfl) Try.func7 (by kernel_rfl)
    (of_decide_eq_true (by kernel_rfl)) (by unfold Func.isWrapper; first | (rw [if_pos (by decide +kernel)]; kernel_rfl) | (rw [if_neg (by decide +kernel)]; exact ⟨rfl, rfl⟩))
    (fun os started H enc _ => make_lifted os started H enc)
#print axioms fnExactMakeList_holds

end Go.Proofs.Ytopdhjnpcpkmlaa
