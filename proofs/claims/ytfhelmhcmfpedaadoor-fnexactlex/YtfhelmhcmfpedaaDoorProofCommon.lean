/- What the rows' proofs have in common. Own work of the verifier. -/
import Derived.Test.YtfhelmhcmfpedaaDoorRows
import Derived.Test.YtfhelmhcmfpedaaDoorTie
import Derived.Test.YtfhelmhcmfpedaaDoorCards
import Derived.Test.YtfhelmhcmfpedaaDoorLawPlain
import Derived.ProofKit
import Derived.OpenShut
import Derived.Stop.Joined
import Derived.Lib.LaidTab
import Derived.Carry
import Derived.SevenTiedAt
import Derived.LaidMore
import Derived.WalkSmall
namespace Go.Proofs.YtfhelmhcmfpedaaDoor
open Go Go.ChangeShapes Go.WideShapes Go.ChangeAt Go.WideMaps Go.WideElems Go.RowKit

theorem own : ownKnob Tryd.prog.godebug = none := by kernel_rfl
theorem laidOut : laidOutB Tryd.prog = true := by kernel_rfl
theorem cellsByte : Tryd.prog.cellsOf 5 = 1 := by kernel_rfl
theorem gTab : Tryd.prog.globalNamed "loop.example/s00095/impl.charKinds" = some 0 := by kernel_rfl
theorem tTab : (Tryd.prog.globals[0]?).map (·.type) = some 49 := by kernel_rfl
theorem cellsKind : Tryd.prog.cellsOf 35 = 1 := by kernel_rfl
theorem cellsTab : Tryd.prog.cellsOf 49 = 128 := by kernel_rfl
theorem datumTab : (Rows.laid_loop_example_s00095_impl_charKinds : DataW Unit) = Lib.tabData .u8 tab := by rfl

abbrev laid1 : List (String × DataW Unit) := [("loop.example/s00095/impl.charKinds", Rows.laid_loop_example_s00095_impl_charKinds)]

theorem tab_of {W : World} (h : laidMetH Tryd.prog laid1 W) : Tab W := by
  rw [MakeChecks.laidMetH_plain _ _ _ (by kernel_rfl)] at h
  have h' : laidMet Tryd.prog [("loop.example/s00095/impl.charKinds", Lib.tabData .u8 tab)] W := by rw [← datumTab]; exact h
  have hT := Lib.tabIs_of_head (k := .u8) (zs := tab) gTab tTab Tryd.underlying49 Tryd.underlying35 cellsKind cellsTab h'
  exact fun i hi => hT.cell gTab i hi

theorem door_met (os : Os) (args : Array Value) : laidMetH Tryd.prog laid1 ((World.doorLaid Tryd.prog 400 os).forCall (fun _ _ => 0) ⟨#[], args, []⟩).memory :=
  laidMetH_of_parts3 (fuel := 8) (laidMet_of_run' 8 (by kernel_rfl) (by kernel_rfl)) (by kernel_rfl) (by kernel_rfl)

/-- The one named variable read again behind a call that keeps what lay below. -/
theorem vars_again {H : Type} {enc : TypeId × Value → H} {W W' : World} {gs : List (DataW H)} {q : List MemPlace} (hT : Tab W) (hB : Below W.heap.size W W') (hlt : ∀ x ∈ q, x.block < W.heap.size)
    (hV : DataW.TrodVars enc Tryd.prog W (fun _ => true) ["loop.example/s00095/impl.charKinds"] gs q) :
    ∃ d pv, gs = [d] ∧ DataW.TrodVars enc Tryd.prog W' (fun b => decide (b < W.heap.size)) ["loop.example/s00095/impl.charKinds"] [d] pv := by
  obtain ⟨g, t, cs, fuel, d, p, rfl, hg, ht, hv, hd, rfl⟩ := trodVars_one hV
  obtain rfl := Option.some.inj (gTab.symm.trans hg)
  obtain rfl := Option.some.inj (tTab.symm.trans ht)
  have hg0 : 0 < W.heap.size := World.block_lt_of_cell? _ _ (hT 0 (by decide))
  have hv' := var?_below hB hg hg0 hv
  have h0 : DataW.Trod enc Tryd.prog W 0 (fun _ => true) true 49 (.agg cs) d p := ⟨fuel, by simpa [Value.cells] using hd⟩
  obtain ⟨fuel', h1⟩ := Below.trod laidOut (by kernel_rfl) (of_decide_eq_true (by kernel_rfl)) h0 hB (fun x hx => hlt x (List.mem_append_right _ hx))
  exact ⟨d, _, rfl, trodVars_mk1 hg ht hv' (by simpa [Value.cells] using h1)⟩

/-- A slice of bytes that came in, opened in one word, nil or not. -/
theorem opened {H : Type} {enc : TypeId × Value → H} {W : World} {a0 : Option Addr} {len cap : Nat} {d0 : DataW H} {p : List MemPlace}
    (h0 : DataW.Trod enc Tryd.prog W 0 (fun _ => true) true 22 (.slice a0 len cap) d0 p) :
    ∃ xs : List Int, xs.length = len ∧ len ≤ 9223372036854775807 ∧ BIn W a0 xs ∧ Bytes xs := by
  obtain ⟨fuel, hf⟩ := h0
  rcases open_ints Tryd.underlying22 Tryd.underlying5 cellsByte hf with ⟨hcs, hx⟩ | ⟨a, len', cap', zs, hcs, _, hl, hm, hz, hx, hcell, hwz⟩
  · simp [Value.cells] at hcs
    obtain ⟨rfl, rfl, rfl⟩ := hcs
    exact ⟨[], rfl, by decide, fun h => absurd h (Nat.lt_irrefl 0), fun x hx => by cases hx⟩
  · simp [Value.cells] at hcs
    obtain ⟨rfl, rfl, rfl⟩ := hcs
    simp only [if_true] at hz
    unfold maxLen at hm
    refine ⟨zs.take len, by simp; omega, by omega, fun hn => ?_, fun x hx' => ?_⟩
    · have hn' : 0 < zs.length := by simp at hn; omega
      obtain ⟨b, o, s⟩ := a
      obtain rfl : s = none := by simpa [Addr.add] using World.cell?_spot (hcell 0 hn')
      refine ⟨b, o, rfl, fun i hi => ?_⟩
      have hi' : i < len := by simp at hi; omega
      have := hcell i (by omega)
      rw [add_plain] at this
      rw [this]
      simp [List.getD, hi']
    · have h := hwz x (List.mem_of_mem_take hx')
      have h1 : IntKind.u8.min = 0 := rfl
      have h2 : IntKind.u8.max = 255 := rfl
      simp only [Lit.wf, Bool.and_eq_true, decide_eq_true_eq] at h
      omega


end Go.Proofs.YtfhelmhcmfpedaaDoor
