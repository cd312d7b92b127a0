/- Texts of FoI, FoS, UnV1. Own work of the verifier. -/
import Derived.Test.YtedlcmkhbccjgaaUqaf
import Derived.Test.YtedlcmkhbccjgaaUqar
import Derived.Test.YtedlcmkhbccjgaaUqbe
namespace Go.Proofs.Ytedlcmkhbccjgaa
open Go Go.RowKit
set_option linter.unusedVariables false

theorem NodeIn.imp2 {w w' : World} {B B' : Nat} {c : Cel} {K K' : List Value → Prop} {v : Value} (h : NodeIn w B c K v) (hB : B' ≤ B) (hc : ∀ p v, w.cell? p = some v → w'.cell? p = some v) (hs : w.heap.size ≤ w'.heap.size) (hK : ∀ vs, K vs → K' vs) : NodeIn w' B' c K' v := by
  rcases h with h | h | h | ⟨h, b, g, vs, hv, h1, h2, c0, c1, hg, cg, hk⟩
  · exact .inl h
  · exact .inr (.inl h)
  · exact .inr (.inr (.inl h))
  · exact .inr (.inr (.inr ⟨h, b, g, vs, hv, by omega, by omega, hc _ _ c0, hc _ _ c1, by omega, fun i hi => hc _ _ (cg i hi), hK _ hk⟩))
theorem FoIn.imp2 {w w' : World} {B B' : Nat} (hB : B' ≤ B) (hc : ∀ p v, w.cell? p = some v → w'.cell? p = some v) (hs : w.heap.size ≤ w'.heap.size) : ∀ (F : Fo) (vs : List Value), FoIn w B F vs → FoIn w' B' F vs
  | .nil, vs, h => h
  | .node c k r, vs, ⟨v, vr, e, hn, hr⟩ => ⟨v, vr, e, hn.imp2 hB hc hs (fun kv => FoIn.imp2 hB hc hs k kv), FoIn.imp2 hB hc hs r vr hr⟩

end Go.Proofs.Ytedlcmkhbccjgaa

namespace Go.Proofs.Ytedlcmkhbccjgaa
open Go Go.RowKit
set_option linter.unusedVariables false

open Classical in
/-- A world with these blocks struck out. -/
noncomputable def strikeA (A : Nat → Prop) (W : World) : World := { W with heap := W.heap.mapIdx fun i o => if A i then .deferred none else o }
theorem strikeA_size (A : Nat → Prop) (W : World) : (strikeA A W).heap.size = W.heap.size := by simp [strikeA]
open Classical in
theorem strikeA_cell {A : Nat → Prop} {W : World} {p : Addr} {v : Value} : (strikeA A W).cell? p = some v ↔ ¬ A p.block ∧ W.cell? p = some v := by
  have e : (strikeA A W).heap[p.block]? = W.heap[p.block]?.map fun o => if A p.block then .deferred none else o := by simp [strikeA]
  unfold World.cell?
  rw [e]
  by_cases h : A p.block
  · cases W.heap[p.block]? <;> simp [h]
  · cases W.heap[p.block]? <;> simp [h]
/-- Trees that keep clear of A. -/
def FoA (A : Nat → Prop) (W : World) (F : Fo) (vs : List Value) : Prop := FoIn (strikeA A W) 0 F vs
theorem FoA.foIn {A : Nat → Prop} {W : World} {F : Fo} {vs : List Value} (h : FoA A W F vs) : FoIn W 0 F vs :=
  FoIn.imp2 (Nat.le_refl _) (fun p v hp => (strikeA_cell.1 hp).2) (by rw [strikeA_size]; exact Nat.le_refl _) F vs h
/-- They stay where A is no greater and their cells are kept. -/
theorem FoA.move {A A' : Nat → Prop} {W W' : World} {F : Fo} {vs : List Value} (h : FoA A W F vs) (hA : ∀ p v, ¬ A p.block → W.cell? p = some v → ¬ A' p.block ∧ W'.cell? p = some v) (hs : W.heap.size ≤ W'.heap.size) : FoA A' W' F vs :=
  FoIn.imp2 (Nat.le_refl _) (fun p v hp => strikeA_cell.2 (hA p v (strikeA_cell.1 hp).1 (strikeA_cell.1 hp).2)) (by rw [strikeA_size, strikeA_size]; exact hs) F vs h
theorem FoIn.foA {W0 W : World} {Bt : Nat} {F : Fo} {vs : List Value} (h : FoIn W0 Bt F vs) (hb : Below W0.heap.size W0 W) {A : Nat → Prop} (hA : ∀ a, A a → W0.heap.size ≤ a) : FoA A W F vs :=
  FoIn.imp2 (Nat.zero_le _) (fun p v hp => strikeA_cell.2 ⟨fun ha => by have := hA _ ha; have := World.block_lt_of_cell? _ _ hp; omega, (hb.cell (World.block_lt_of_cell? _ _ hp)).trans hp⟩) (by rw [strikeA_size]; exact hb.size) F vs h
theorem foA_comp {A : Nat → Prop} {W : World} {n : Int} {nm : List Int} {k : Fo} {b g : Nat} {vs : List Value} (hA : ¬ A b) (hG : ¬ A g) (h0 : W.cell? ⟨b, 0, none⟩ = some (.string (strOfNums nm))) (h1 : W.cell? ⟨b, 1, none⟩ = some (.slice (some ⟨g, 0, none⟩) vs.length vs.length)) (hg : g < W.heap.size)
    (hc : ∀ i, i < vs.length → W.cell? ⟨g, i, none⟩ = some (vs.getD i .nilIface)) (hk : FoA A W k vs) : FoA A W (.node (3, n, nm) k .nil) [.iface 108 (.pointer (some ⟨b, 0, none⟩))] :=
  ⟨_, [], rfl, .inr (.inr (.inr ⟨rfl, b, g, vs, rfl, Nat.zero_le _, Nat.zero_le _, strikeA_cell.2 ⟨hA, h0⟩, strikeA_cell.2 ⟨hA, h1⟩, by rw [strikeA_size]; exact hg, fun i hi => strikeA_cell.2 ⟨hG, hc i hi⟩, hk⟩)), rfl⟩
theorem FoA.cat {A : Nat → Prop} {W : World} {F G : Fo} {vs us : List Value} (h : FoA A W F vs) (h' : FoA A W G us) : FoA A W (F.cat G) (vs ++ us) := FoIn.cat _ _ _ _ h h'
theorem foA_atom {A : Nat → Prop} {W : World} {nm : List Int} : FoA A W (.node (2, 0, nm) .nil .nil) [.iface 140 (.string (strOfNums nm))] :=
  ⟨_, [], rfl, .inr (.inr (.inl ⟨rfl, rfl⟩)), rfl⟩

end Go.Proofs.Ytedlcmkhbccjgaa

namespace Go.Proofs.Ytedlcmkhbccjgaa
open Go Go.RowKit
set_option linter.unusedVariables false

/-- Cells are kept where a map alone is written. -/
theorem cells_kept {w w' : World} {s N : Nat} {E : List (Int × Value)} (hm : VMap w s N E) (hg : w.grownBy w' (some s)) {p : Addr} {v : Value} (h : w.cell? p = some v) : w'.cell? p = some v := by
  have hne : p.block ≠ s := fun e => by
    obtain ⟨D, ⟨es, clock, h1, _⟩, _⟩ := hm
    rw [← e] at h1
    simp [World.cell?, h1] at h
  have hlt := World.block_lt_of_cell? _ _ h
  exact (World.cell?_of_block (hg.block p.block hlt (fun e => hne (Option.some.inj e)))).trans h
/-- How many are left to be solved. -/
def uns (K : List Int) (ES : List (Int × Value)) : Nat := (K.filter fun x => (look ES x).isNone).length
theorem uns_put {K : List Int} {E : List (Int × Value)} {x : Int} {v : Value} (hk : x ∈ K) (hx : look E x = none) : uns K (putE E x v) + 1 ≤ uns K E := by
  unfold uns
  have h1 : K.filter (fun y => (look (putE E x v) y).isNone) = (K.filter fun y => (look E y).isNone).filter fun y => decide (y ≠ x) := by
    rw [List.filter_filter]
    refine List.filter_congr fun y _ => ?_
    rw [look_putE]
    by_cases e : y = x
    · simp [e]
    · simp [e]
  rw [h1]
  have hm : x ∈ K.filter fun y => (look E y).isNone := List.mem_filter.2 ⟨hk, by rw [hx]; rfl⟩
  generalize K.filter (fun y => (look E y).isNone) = l at hm
  clear h1 hk hx
  induction l with
  | nil => cases hm
  | cons a r ih =>
    by_cases e : a = x
    · subst e
      have := List.length_filter_le (fun y => decide (y ≠ a)) r
      simp
      simpa using this
    · have hm' : x ∈ r := by
        rcases List.mem_cons.1 hm with h | h
        · exact absurd h.symm e
        · exact h
      have := ih hm'
      simp [e] at this ⊢
      omega
/-- A solution as it lies in the map. -/
def solV (tv : Value) (g : Tr) : Value := .agg #[tv, .int .i64 ((min (tcs g).length 2001 : Nat) : Int)]
/-- The unifier while it solves. -/
structure SV (W0 : World) (P : BM) (EP : List (Int × Value)) (b s ub : Nat) (A : Nat → Prop) (ES : List (Int × Value)) (W : World) : Prop where
  low : Below W0.heap.size W0 W
  ubc : W.cell? ⟨ub, 0, none⟩ = some (.map (some b))
  sbc : W.cell? ⟨ub, 1, none⟩ = some (.map (some s))
  bnd : VMap W b EP.length EP
  sol : VMap W s ES.length ES
  ent : ∀ x sv, look ES x = some sv → ∃ u g t y, P x = some u ∧ FullF P u.fo g.fo ∧ sv = solV (.iface t y) g ∧ FoA A W g.fo [.iface t y]
  av : ∀ a, A a → W0.heap.size ≤ a ∧ a < W.heap.size
  cost : ES.length + uns (EP.map Prod.fst) ES ≤ 20000
  hs : W0.heap.size ≤ s
  ne : b ≠ s
/-- A change elsewhere: new blocks, or cells that A has. -/
theorem SV.move {W0 : World} {P : BM} {EP : List (Int × Value)} {b s ub : Nat} {A A' : Nat → Prop} {ES : List (Int × Value)} {W W' : World} (h : SV W0 P EP b s ub A ES W) (hl : Below W0.heap.size W0 W') (hb : W'.heap[b]? = W.heap[b]?) (hsb : W'.heap[s]? = W.heap[s]?) (hu : W'.heap[ub]? = W.heap[ub]?)
    (hA : ∀ p v, ¬ A p.block → W.cell? p = some v → ¬ A' p.block ∧ W'.cell? p = some v) (hz : W.heap.size ≤ W'.heap.size) (hav : ∀ a, A' a → W0.heap.size ≤ a ∧ a < W'.heap.size) : SV W0 P EP b s ub A' ES W' :=
  ⟨hl, (World.cell?_of_block (a := ⟨ub, 0, none⟩) hu).trans h.ubc, (World.cell?_of_block (a := ⟨ub, 1, none⟩) hu).trans h.sbc, h.bnd.of_block hb, h.sol.of_block hsb, fun x sv hx => by
    obtain ⟨u, g, t, y, h1, h2, h3, h4⟩ := h.ent x sv hx
    exact ⟨u, g, t, y, h1, h2, h3, h4.move hA hz⟩, hav, h.cost, h.hs, h.ne⟩
/-- New blocks alone. -/
theorem SV.grow {W0 : World} {P : BM} {EP : List (Int × Value)} {b s ub : Nat} {A : Nat → Prop} {ES : List (Int × Value)} {W W' : World} (h : SV W0 P EP b s ub A ES W) (hg : W.grownBy W' none) : SV W0 P EP b s ub A ES W' := by
  have hB : Below W.heap.size W W' := ⟨hg.os, hg.tape, hg.output, hg.size, fun k hk => hg.block k hk (by simp)⟩
  exact h.move (Below.on h.low hB) (hB.block _ h.bnd.lt) (hB.block _ h.sol.lt) (hB.block _ (World.block_lt_of_cell? _ _ h.ubc)) (fun p v hp hv => ⟨hp, (hB.cell (World.block_lt_of_cell? _ _ hv)).trans hv⟩) hg.size (fun a ha => ⟨(h.av a ha).1, Nat.lt_of_lt_of_le (h.av a ha).2 hg.size⟩)
/-- What a call leaves while it solves. -/
def After (W0 : World) (P : BM) (EP : List (Int × Value)) (b s ub : Nat) (A : Nat → Prop) (w w' : World) : Prop := (∃ ES', SV W0 P EP b s ub A ES' w') ∧ w.grownBy w' (some s)
/-- solve of a variable. -/
def SolOut (W0 : World) (P : BM) (EP : List (Int × Value)) (b s ub : Nat) (A : Nat → Prop) (x : Int) (w : World) (e : Ending) (w' : World) : Prop :=
  ∃ g t y, e = .returned (solV (.iface t y) g) ∧ FullF P (.node (0, x, []) .nil .nil) g.fo ∧ FoA A w' g.fo [.iface t y] ∧ After W0 P EP b s ub A w w'
def SolveOk (W0 : World) (P : BM) (EP : List (Int × Value)) (b s ub : Nat) (r : Int → Nat) (m : Nat) : Prop := ∀ (x : Int) (A : Nat → Prop) (ES : List (Int × Value)) (w : World), r x < m → 0 ≤ x ∧ x ≤ 1000000 → SV W0 P EP b s ub A ES w →
  Calls Try.prog 83 #[.pointer (some ⟨ub, 0, none⟩), .int .i64 x] w (SolOut W0 P EP b s ub A x w)

end Go.Proofs.Ytedlcmkhbccjgaa

