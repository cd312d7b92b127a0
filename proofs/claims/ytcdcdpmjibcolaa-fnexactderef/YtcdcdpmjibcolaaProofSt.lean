/- Stores and cells that came in, opened. (Cut out of ProofVS.) Own work of the verifier. -/
import Derived.Test.YtcdcdpmjibcolaaProofCells
import Derived.Test.YtcdcdpmjibcolaaJoinN
namespace Go.Proofs.Ytcdcdpmjibcolaa
open Go Go.ChangeShapes Go.WideShapes Go.ChangeAt Go.WideMaps Go.WideElems Go.RowKit Go.Deep

theorem cellsCellS : Try.prog.cellsOf 22 = 1 := by kernel_rfl
theorem cellsIntS : Try.prog.cellsOf 23 = 1 := by kernel_rfl
theorem cellsStore : Try.prog.cellsOf 25 = 2 := by kernel_rfl
/-- A slice of numbers by its one cell. -/
theorem openedNums {H : Type} {enc : TypeId × Value → H} {W : World} {fuel : Nat} {v : Value} {x : DataW H × List MemPlace}
    (h : DataW.trod enc Try.prog W 0 (fun _ => true) true fuel 23 [v] = some x) :
    ∃ (p : Option Addr) (cap : Nat) (xs : List Int), v = .slice p xs.length cap ∧ IArg W p xs := by
  rcases open_ints Try.underlying23 Try.underlying3 cellsInt h with ⟨hcs, hx⟩ | ⟨a, len', cap', zs, hcs, _, hl, hm, hz, hx, hcell, hwz⟩
  · obtain rfl : v = .slice none 0 0 := by simpa using hcs
    exact ⟨none, 0, [], rfl, fun h => absurd h (Nat.lt_irrefl 0), by decide⟩
  · obtain rfl : v = .slice (some a) len' cap' := by simpa using hcs
    simp only [if_true] at hz
    unfold maxLen at hm
    refine ⟨some a, cap', zs.take len', by congr 1; simp; omega, fun hn => ?_, by simp; omega⟩
    have hn' : 0 < zs.length := by simp at hn; omega
    obtain ⟨b, o, s⟩ := a
    obtain rfl : s = none := by simpa [Addr.add] using World.cell?_spot (hcell 0 hn')
    refine ⟨b, o, rfl, fun i hi => ?_⟩
    have hi' : i < len' := by simp at hi; omega
    have := hcell i (by omega)
    rw [add_plain] at this
    rw [this]
    simp [List.getD, hi']
/-- A slice of cells by its one cell. -/
theorem openedCellsV {H : Type} {enc : TypeId × Value → H} {W : World} {fuel : Nat} {v : Value} {x : DataW H × List MemPlace}
    (h : DataW.trod enc Try.prog W 0 (fun _ => true) true fuel 22 [v] = some x) :
    ∃ (p : Option Addr) (cap : Nat) (xs : List Cel), v = .slice p xs.length cap ∧ CArg W p xs := by
  have hv : ∃ a len cap, v = .slice a len cap := by
    rcases open_slice Try.underlying22 h with ⟨hcs, _⟩ | ⟨a, len', cap', _, _, _, _, hcs, _⟩
    · exact ⟨none, 0, 0, by simpa using hcs⟩
    · exact ⟨some a, len', cap', by simpa using hcs⟩
  obtain ⟨a, len, cap, rfl⟩ := hv
  obtain ⟨d, p⟩ := x
  obtain ⟨cs, rfl, hin⟩ := openedCells (a0 := a) (len := len) (cap := cap) (d0 := d) (p := p) ⟨fuel, h⟩
  exact ⟨a, cap, cs, rfl, hin⟩
theorem two_of {cs : List Value} (h : cs.length = 2) : ∃ a b, cs = [a, b] := by
  match cs, h with
  | [a, b], _ => exact ⟨a, b, rfl⟩
/-- A store that came in. -/
theorem openedStore {H : Type} {enc : TypeId × Value → H} {W : World} {cs : Array Value} {d0 : DataW H} {p : List MemPlace}
    (h0 : DataW.Trod enc Try.prog W 0 (fun _ => true) true 25 (.agg cs) d0 p) : ∃ p q c1 c2 xs tr, cs = #[.slice p (List.length (α := Cel) xs) c1, .slice q (List.length (α := Int) tr) c2] ∧ CArg W p xs ∧ IArg W q tr := by
  obtain ⟨fuel, hf⟩ := h0
  have hf : DataW.trod enc Try.prog W 0 (fun _ => true) true fuel 25 cs.toList = some (d0, p) := hf
  obtain ⟨y0, y1, n, hx, hl, h0, h1⟩ := trod_struct2 Try.underlying25 hf
  rw [cellsStore] at hl
  obtain ⟨a, b, hab⟩ := two_of hl
  rw [hab] at h0 h1
  simp only [cellsCellS, cellsIntS, List.drop_zero, List.take_succ_cons, List.take_zero, List.drop_succ_cons] at h0 h1
  obtain ⟨p0, q0, xs, rfl, hxs⟩ := openedCellsV h0
  obtain ⟨p1, q1, tr, rfl, htr⟩ := openedNums h1
  exact ⟨p0, p1, q0, q1, xs, tr, by apply Array.ext'; rw [hab], hxs, htr⟩
theorem openedCellB {H : Type} {enc : TypeId × Value → H} {W : World} {cs : Array Value} {d0 : DataW H} {p : List MemPlace}
    (h0 : DataW.Trod enc Try.prog W 0 (fun _ => true) true 28 (.agg cs) d0 p) : ∃ k n pt cap t, cs = #[.int .i64 k, .int .i64 n, .slice pt (List.length (α := Int) t) cap] ∧ BArgB W pt t := by
  obtain ⟨fuel, hf⟩ := h0
  have hf : DataW.trod enc Try.prog W 0 (fun _ => true) true fuel 28 cs.toList = some (d0, p) := hf
  obtain ⟨k, n, pt, cap, t, e, h1, h2, h3, _⟩ := openedCell hf
  exact ⟨k, n, pt, cap, t, by apply Array.ext'; rw [e], h2, h1, h3⟩


end Go.Proofs.Ytcdcdpmjibcolaa
