/- A slice of bindings that came in. Own work of the verifier. -/
import Derived.Test.YtjbckdmlogjggaaProofCells
import Derived.Test.YtjbckdmlogjggaaBD1
namespace Go.Proofs.Ytjbckdmlogjggaa
open Go Go.ChangeShapes Go.WideShapes Go.ChangeAt Go.WideMaps Go.WideElems Go.RowKit Go.Deep

theorem cellsSlice : Try.prog.cellsOf 22 = 1 := by kernel_rfl
/-- A slice of cells by its one cell. -/
theorem openedItem {H : Type} {enc : TypeId × Value → H} {W : World} {fuel : Nat} {cs : List Value} {x : DataW H × List MemPlace} (hl : cs.length = 1)
    (h : DataW.trod enc Try.prog W 0 (fun _ => true) true fuel 22 cs = some x) : ∃ (p : Option Addr) (cap : Nat) (ys : List Cel), cs = [.slice p ys.length cap] ∧ CArg W p ys := by
  obtain ⟨v, rfl⟩ : ∃ v, cs = [v] := by
    match cs, hl with
    | [v], _ => exact ⟨v, rfl⟩
  have hv : ∃ a len cap, v = .slice a len cap := by
    rcases open_slice Try.underlying22 h with ⟨hcs, hx⟩ | ⟨a, len', cap', m, n, D, Pl, hcs, _⟩
    · exact ⟨none, 0, 0, by simpa using hcs⟩
    · exact ⟨some a, len', cap', by simpa using hcs⟩
  obtain ⟨a, len, cap, rfl⟩ := hv
  obtain ⟨d, pl⟩ := x
  obtain ⟨ys, rfl, hin⟩ := openedCells (d0 := d) (p := pl) ⟨fuel, h⟩
  exact ⟨a, cap, ys, rfl, hin⟩
theorem cellsBinding : Try.prog.cellsOf 60 = 2 := by kernel_rfl
theorem two_of {cs : List Value} (h : cs.length = 2) : ∃ a b, cs = [a, b] := by
  match cs, h with
  | [a, b], _ => exact ⟨a, b, rfl⟩
/-- A binding, by its two cells. -/
theorem openedBinding {H : Type} {enc : TypeId × Value → H} {W : World} {fuel : Nat} {cs : List Value} {x : DataW H × List MemPlace}
    (h : DataW.trod enc Try.prog W 0 (fun _ => true) true fuel 60 cs = some x) :
    ∃ (v : Int) (p : Option Addr) (cap : Nat) (ys : List Cel), cs = [.int .i64 v, .slice p ys.length cap] ∧ CArg W p ys ∧ -9223372036854775808 ≤ v ∧ v ≤ 9223372036854775807 := by
  obtain ⟨y0, y1, n, hx, hl, h0, h1⟩ := trod_struct2 Try.underlying60 h
  rw [cellsBinding] at hl
  obtain ⟨a, b, rfl⟩ := two_of hl
  simp only [cellsInt, cellsSlice, List.drop_zero, List.take_succ_cons, List.take_zero, List.drop_succ_cons] at h0 h1
  obtain ⟨k, e0, _, w0⟩ := DataW.trod_int Try.underlying3 h0
  obtain ⟨p, cap, ys, e1, hin⟩ := openedItem rfl h1
  obtain rfl : a = .int .i64 k := by simpa using e0
  obtain rfl : b = .slice p ys.length cap := by simpa using e1
  exact ⟨k, p, cap, ys, rfl, hin, (wf_i64 w0).1, (wf_i64 w0).2⟩
theorem getD_map_rangeB (f : Nat → Bnd) (n i : Nat) (h : i < n) : ((List.range n).map f).getD i Bnd.zero = f i := by
  simp [List.getD, h]
theorem openedBd {H : Type} {enc : TypeId × Value → H} {W : World} {a0 : Option Addr} {len cap : Nat} {d0 : DataW H} {p : List MemPlace}
    (h0 : DataW.Trod enc Try.prog W 0 (fun _ => true) true 28 (.slice a0 len cap) d0 p) : ∃ bs : List Bnd, bs.length = len ∧ BdArg W a0 bs ∧ ∀ i, i < bs.length → -9223372036854775808 ≤ (bs.getD i Bnd.zero).1 ∧ (bs.getD i Bnd.zero).1 ≤ 9223372036854775807 := by
  obtain ⟨fuel, hf⟩ := h0
  rcases open_slice Try.underlying28 hf with ⟨hcs, hx⟩ | ⟨a, len', cap', m, n, D, Pl, hcs, hb, hl, hm, hmm, hx, hel⟩
  · simp [Value.cells] at hcs
    obtain ⟨rfl, rfl, rfl⟩ := hcs
    exact ⟨[], rfl, ⟨fun h => absurd h (Nat.lt_irrefl 0), by decide, fun i h => by simp at h⟩, fun i h => by simp at h⟩
  · simp [Value.cells] at hcs
    obtain ⟨rfl, rfl, rfl⟩ := hcs
    simp only [if_true] at hmm
    subst hmm
    unfold maxLen at hm
    obtain ⟨b, o, s⟩ := a
    have each0 : ∀ i, i < len → ∃ c : Bnd × Option Addr × Nat, W.cell? (((⟨b, o, s⟩ : Addr).add (i * 2)).add 0) = some (.int .i64 c.1.1) ∧ W.cell? (((⟨b, o, s⟩ : Addr).add (i * 2)).add 1) = some (.slice c.2.1 c.1.2.length c.2.2) ∧ CArg W c.2.1 c.1.2 ∧ -9223372036854775808 ≤ c.1.1 ∧ c.1.1 ≤ 9223372036854775807 := fun i hi => by
      obtain ⟨cs', hc, ht⟩ := hel i (by omega)
      obtain ⟨v, q, qc, ys, rfl, hin, hv⟩ := openedBinding ht
      rw [cellsBinding] at hc
      have hs := (World.cells?_some hc).2.2
      have g0 := hs 0 (by decide)
      have g1 := hs 1 (by decide)
      exact ⟨((v, ys), q, qc), by simpa using g0, by simpa using g1, hin, hv⟩
    obtain ⟨f, hfx⟩ := choose_lt each0
    have hat : ∀ i, i < len → ((List.range len).map (fun i => (f i).1)).getD i Bnd.zero = (f i).1 := fun i hi => getD_map_rangeB (fun i => (f i).1) len i hi
    refine ⟨(List.range len).map (fun i => (f i).1), by simp, ⟨fun hn => ?_, by simp; omega, fun i hi => ?_⟩, fun i hi => ?_⟩
    · have hn' : 0 < len := by simpa using hn
      have g := World.cell?_spot (hfx 0 hn').1
      obtain rfl : s = none := by simpa [Addr.add] using g
      refine ⟨b, o, rfl, fun i hi => ?_⟩
      have hi' : i < len := by simpa using hi
      rw [hat i hi']
      have g0 := (hfx i hi').1
      have g1 := (hfx i hi').2.1
      simp only [add_plain, Nat.add_zero] at g0 g1
      exact ⟨_, _, g0, g1, (hfx i hi').2.2.1.lies⟩
    · have hi' : i < len := by simpa using hi
      rw [hat i hi']
      exact ⟨(hfx i hi').2.2.1.len, (hfx i hi').2.2.1.text, (hfx i hi').2.2.1.byte⟩
    · have hi' : i < len := by simpa using hi
      rw [hat i hi']
      exact (hfx i hi').2.2.2

end Go.Proofs.Ytjbckdmlogjggaa
