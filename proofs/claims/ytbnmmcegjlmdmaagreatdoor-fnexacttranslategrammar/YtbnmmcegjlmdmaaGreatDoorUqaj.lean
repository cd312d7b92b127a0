/- Texts of FnC, NbI2, FoI, FoS. Own work of the verifier. -/
import Derived.Test.YtbnmmcegjlmdmaaGreatDoorUqad
import Derived.Test.YtbnmmcegjlmdmaaGreatDoorUqai
import Derived.Test.YtbnmmcegjlmdmaaGreatDoorUqaf
namespace Go.Proofs.YtbnmmcegjlmdmaaGreatDoor
open Go Go.RowKit
set_option linter.unusedVariables false
end Go.Proofs.YtbnmmcegjlmdmaaGreatDoor

namespace Go.Proofs.YtbnmmcegjlmdmaaGreatDoor
open Go Go.RowKit
set_option linter.unusedVariables false
end Go.Proofs.YtbnmmcegjlmdmaaGreatDoor

namespace Go.Proofs.YtbnmmcegjlmdmaaGreatDoor
open Go Go.RowKit
set_option linter.unusedVariables false
theorem NodeIn.imp2 {w w' : World} {B B' : Nat} {c : Cel} {K K' : List Value → Prop} {v : Value} (h : NodeIn w B c K v) (hB : B' ≤ B) (hc : ∀ p v, w.cell? p = some v → w'.cell? p = some v) (hs : w.heap.size ≤ w'.heap.size) (hK : ∀ vs, K vs → K' vs) : NodeIn w' B' c K' v := by
  rcases h with h | h | h | ⟨h, b, g, vs, hv, h1, h2, c0, c1, hg, cg, hk⟩
  · exact .inl h
  · exact .inr (.inl h)
  · exact .inr (.inr (.inl h))
  · exact .inr (.inr (.inr ⟨h, b, g, vs, hv, by omega, by omega, hc _ _ c0, hc _ _ c1, by omega, fun i hi => hc _ _ (cg i hi), hK _ hk⟩))
theorem FoIn.imp2 {w w' : World} {B B' : Nat} (hB : B' ≤ B) (hc : ∀ p v, w.cell? p = some v → w'.cell? p = some v) (hs : w.heap.size ≤ w'.heap.size) : ∀ (F : Fo) (vs : List Value), FoIn w B F vs → FoIn w' B' F vs
  | .nil, vs, h => h
  | .node c k r, vs, ⟨v, vr, e, hn, hr⟩ => ⟨v, vr, e, hn.imp2 hB hc hs (fun kv => FoIn.imp2 hB hc hs k kv), FoIn.imp2 hB hc hs r vr hr⟩
end Go.Proofs.YtbnmmcegjlmdmaaGreatDoor

namespace Go.Proofs.YtbnmmcegjlmdmaaGreatDoor
open Go Go.RowKit
set_option linter.unusedVariables false
open Classical in
noncomputable def strikeA (A : Nat → Prop) (W : World) : World := { W with heap := W.heap.mapIdx fun i o => if A i then .deferred none else o }
theorem strikeA_size (A : Nat → Prop) (W : World) : (strikeA A W).heap.size = W.heap.size := by simp [strikeA]
open Classical in
theorem strikeA_cell {A : Nat → Prop} {W : World} {p : Addr} {v : Value} : (strikeA A W).cell? p = some v ↔ ¬ A p.block ∧ W.cell? p = some v := by
  have e : (strikeA A W).heap[p.block]? = W.heap[p.block]?.map fun o => if A p.block then .deferred none else o := by simp [strikeA]
  unfold World.cell?
  rw [e]
  by_cases h : A p.block
  · cases W.heap[p.block]? <;> simp [h]
  · cases W.heap[p.block]? <;> simp [h]
def FoA (A : Nat → Prop) (W : World) (F : Fo) (vs : List Value) : Prop := FoIn (strikeA A W) 0 F vs
theorem FoA.foIn {A : Nat → Prop} {W : World} {F : Fo} {vs : List Value} (h : FoA A W F vs) : FoIn W 0 F vs :=
  FoIn.imp2 (Nat.le_refl _) (fun p v hp => (strikeA_cell.1 hp).2) (by rw [strikeA_size]; exact Nat.le_refl _) F vs h
theorem FoA.move {A A' : Nat → Prop} {W W' : World} {F : Fo} {vs : List Value} (h : FoA A W F vs) (hA : ∀ p v, ¬ A p.block → W.cell? p = some v → ¬ A' p.block ∧ W'.cell? p = some v) (hs : W.heap.size ≤ W'.heap.size) : FoA A' W' F vs :=
  FoIn.imp2 (Nat.le_refl _) (fun p v hp => strikeA_cell.2 (hA p v (strikeA_cell.1 hp).1 (strikeA_cell.1 hp).2)) (by rw [strikeA_size, strikeA_size]; exact hs) F vs h
theorem FoA.cat {A : Nat → Prop} {W : World} {F G : Fo} {vs us : List Value} (h : FoA A W F vs) (h' : FoA A W G us) : FoA A W (F.cat G) (vs ++ us) := FoIn.cat _ _ _ _ h h'
end Go.Proofs.YtbnmmcegjlmdmaaGreatDoor

