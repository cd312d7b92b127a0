/- termOf: a tree out of valid cells. Own work of the verifier. -/
import Derived.Test.YtpcmfdbcjegbcaaGreatDoorTree5
namespace Go.Proofs.YtpcmfdbcjegbcaaGreatDoor
open Go Go.RowKit
set_option linter.unusedVariables false

/-- What is valid is one tree. -/
theorem tree_of {cs : List Cel} (hb : ∀ i, i < cs.length → Byte (cs.getD i Cel.none).2.2) (hv : validB cs = true) : ∃ c k, cs = c :: k.cells ∧ (Fo.node c k .nil).ok ∧ cs.length ≤ 2000 := by
  simp only [validB, Bool.and_eq_true, decide_eq_true_eq] at hv
  obtain ⟨F, h1, h2, h3⟩ := forest_of cs 1 hb hv.2
  cases F with
  | nil => simp [Fo.count] at h1
  | node c k r =>
    cases r with
    | nil => exact ⟨c, k, by rw [← h2]; simp [Fo.cells], h3, hv.1⟩
    | node a b d => simp [Fo.count] at h1
set_option maxRecDepth 100000 in
theorem termOf_any (c : Cel) (k : Fo) (p : Option Addr) (n cap : Nat) (w : World) (hok : (Fo.node c k .nil).ok) (hn : n = k.cells.length + 1) (hc : n ≤ cap) (hm : cap ≤ 1000000000) (hin : CIn w p (c :: k.cells)) :
    Calls Tryz.prog 18 #[.slice p n cap] w fun e w' => ∃ v, e = .returned v ∧ FoIn w' w.heap.size (.node c k .nil) [v] ∧ Below w.heap.size w w' := by
  have HF : Calls Tryz.prog 40 #[.slice p n cap] w (FirstOut w w c k [] cap) := firstTerm_any k.cells.length c k p n cap [] w w (Below.refl _ _) (Nat.le_refl _) hok (by rw [hn]; rfl) hc hm (by rw [List.append_nil]; exact hin)
  clear hok hin hn
  go_enter Tryz.func18, Tryz.ntmps18
  go_wp2_with fail
  refine HF.mono ?_
  rintro e w1 ⟨v, q, l, cp, rfl, _, _, _, hfo, hb⟩
  obtain ⟨vt, vx, rfl⟩ := hfo.iface
  have HFO : Hid (FoIn w1 w.heap.size (.node c k .nil) [.iface vt vx]) := hfo
  have HB : Hid (Below w.heap.size w w1) := hb
  clear hfo hb HF
  go_wp2_with fail
  go_ret
  exact ⟨_, rfl, HFO.out, HB.out⟩

end Go.Proofs.YtpcmfdbcjegbcaaGreatDoor
