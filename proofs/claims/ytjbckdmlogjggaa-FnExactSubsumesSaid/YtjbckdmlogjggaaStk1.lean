/- The stack of pairs: how it lies; take. Own work of the verifier. -/
import Derived.Test.YtjbckdmlogjggaaPrP
import Derived.Test.YtjbckdmlogjggaaTree2
import Derived.Test.YtjbckdmlogjggaaCelB
import Derived.WalkSmall
import Derived.RangeFuncBox
namespace Go.Proofs.Ytjbckdmlogjggaa
open Go Go.RowKit
set_option linter.unusedVariables false

/-- Pairs of values in a row. -/
def flatP (vs : List (Value × Value)) : List Value := vs.flatMap (fun x => [x.1, x.2])
theorem flatP_append (a b : List (Value × Value)) : flatP (a ++ b) = flatP a ++ flatP b := by simp [flatP]
theorem flatP_len : ∀ vs : List (Value × Value), (flatP vs).length = vs.length * 2
  | [] => rfl
  | x :: r => by have := flatP_len r; simp only [flatP] at this; simp [flatP, this]; omega
/-- The trees of a stack, and their values. -/
def PairsIn (W0 : World) (Bt : Nat) : List TT → List (Value × Value) → Prop
  | [], vs => vs = []
  | x :: r, vs => ∃ v s, vs = v :: s ∧ FoIn W0 Bt x.1.fo [v.1] ∧ FoIn W0 Bt x.2.fo [v.2] ∧ PairsIn W0 Bt r s
theorem PairsIn.len {W0 : World} {Bt : Nat} : ∀ (st : List TT) (vs : List (Value × Value)), PairsIn W0 Bt st vs → vs.length = st.length
  | [], vs, h => by rw [show vs = [] from h]; rfl
  | x :: r, vs, ⟨v, s, e, _, _, h⟩ => by rw [e]; simp [PairsIn.len r s h]
theorem PairsIn.append {W0 : World} {Bt : Nat} : ∀ (a b : List TT) (vs us : List (Value × Value)), PairsIn W0 Bt a vs → PairsIn W0 Bt b us → PairsIn W0 Bt (a ++ b) (vs ++ us)
  | [], b, vs, us, h, k => by rw [show vs = [] from h]; exact k
  | x :: r, b, vs, us, ⟨v, s, e, h1, h2, h3⟩, k => by
    subst e
    exact ⟨v, s ++ us, rfl, h1, h2, PairsIn.append r b s us h3 k⟩
theorem PairsIn.parts {W0 : World} {Bt : Nat} : ∀ (a b : List TT) (vs : List (Value × Value)), PairsIn W0 Bt (a ++ b) vs → ∃ us ws, vs = us ++ ws ∧ PairsIn W0 Bt a us ∧ PairsIn W0 Bt b ws
  | [], b, vs, h => ⟨[], vs, rfl, rfl, h⟩
  | x :: r, b, vs, ⟨v, s, e, h1, h2, h3⟩ => by
    obtain ⟨us, ws, e', k1, k2⟩ := PairsIn.parts r b s h3
    subst e e'
    exact ⟨v :: us, ws, rfl, ⟨v, us, rfl, h1, h2, k1⟩, k2⟩
/-- A stack lies at offset so of block sb; its row is the call's own. -/
structure Stk (W0 : World) (Bt : Nat) (w : World) (B sb so : Nat) (p : Option Addr) (n c : Nat) (st : List TT) : Prop where
  cell : w.cell? ⟨sb, so, none⟩ = some (.slice p n c)
  free : w.frozen? ⟨sb, so, none⟩ = false
  len : n = st.length
  row : ∃ vs, w.ownsRow B 91 2 (.slice p n c) n (flatP vs) ∧ PairsIn W0 Bt st vs
  away : ∀ g, p = some ⟨g, 0, none⟩ → g ≠ sb
/-- What is kept: all but one cell and one row. -/
structure Kept2 (w w' : World) (sb so : Nat) (g : Option Nat) : Prop where
  os : w'.os = w.os
  tape : w'.tape = w.tape
  output : w'.output = w.output
  size : w.heap.size ≤ w'.heap.size
  block : ∀ k, k < w.heap.size → k ≠ sb → some k ≠ g → w'.heap[k]? = w.heap[k]?
  cells : ∀ o, o ≠ so → w'.cell? ⟨sb, o, none⟩ = w.cell? ⟨sb, o, none⟩
  frz : ∀ o, w'.frozen? ⟨sb, o, none⟩ = w.frozen? ⟨sb, o, none⟩
theorem Kept2.below {w w' : World} {sb so B : Nat} {g : Option Nat} (h : Kept2 w w' sb so g) (hs : B ≤ sb) (hg : ∀ k, g = some k → B ≤ k) (hB : B ≤ w.heap.size) : Below B w w' :=
  ⟨h.os, h.tape, h.output, h.size, fun k hk => h.block k (by omega) (by omega) (fun e => by have := hg k e.symm; omega)⟩
theorem Kept2.refl (w : World) (sb so : Nat) (g : Option Nat) : Kept2 w w sb so g := ⟨rfl, rfl, rfl, Nat.le_refl _, fun _ _ _ _ => rfl, fun _ _ => rfl, fun _ => rfl⟩
theorem Kept2.alloc {w w' : World} {sb so : Nat} {g : Option Nat} (h : Kept2 w w' sb so g) (hs : sb < w'.heap.size) (o : Obj) : Kept2 w (w'.alloc o) sb so g :=
  ⟨h.os, h.tape, h.output, Nat.le_trans h.size (by simp), fun k hk h1 h2 => (Below.heap_alloc _ _ _ (Nat.lt_of_lt_of_le hk h.size)).trans (h.block k hk h1 h2),
   fun j hj => (World.cell?_of_block (w := w') (a := ⟨sb, j, none⟩) (Below.heap_alloc _ _ _ hs)).trans (h.cells j hj), fun j => (World.frozen?_of_block (w := w') (a := ⟨sb, j, none⟩) (Below.heap_alloc _ _ _ hs)).trans (h.frz j)⟩
theorem Kept2.set {w w' : World} {sb so : Nat} {g : Option Nat} (h : Kept2 w w' sb so g) (u : Value) : Kept2 w (w'.setCell ⟨sb, so, none⟩ u) sb so g :=
  ⟨by rw [World.setCell]; split <;> exact h.os, h.tape, h.output, by simpa using h.size, fun k hk h1 h2 => (Below.heap_setCell _ _ _ _ h1).trans (h.block k hk h1 h2),
   fun j hj => (World.cell?_setCell_other _ _ _ _ (fun e => hj (congrArg Addr.off e).symm)).trans (h.cells j hj), fun j => by rw [World.frozen?_setCell]; exact h.frz j⟩
theorem Kept2.new {w w' : World} {sb so : Nat} {g : Option Nat} (h : Kept2 w w' sb so g) {a : Addr} (ha : w.heap.size ≤ a.block) (hs : sb < w.heap.size) (u : Value) : Kept2 w (w'.setCell a u) sb so g :=
  ⟨h.os, h.tape, h.output, by simpa using h.size, fun k hk h1 h2 => (Below.heap_setCell _ _ _ _ (by omega)).trans (h.block k hk h1 h2),
   fun j hj => (World.cell?_setCell_other _ _ _ _ (fun e => by rw [e] at ha; simp at ha; omega)).trans (h.cells j hj), fun j => by rw [World.frozen?_setCell]; exact h.frz j⟩
/-- What take answers. -/
def TakeOut (W0 : World) (Bt : Nat) (w : World) (B sb so : Nat) (g : Option Nat) (st : List TT) (x : TT) (e : Ending) (w' : World) : Prop :=
  ∃ v1 v2, e = .returned (.agg #[v1, v2]) ∧ FoIn W0 Bt x.1.fo [v1] ∧ FoIn W0 Bt x.2.fo [v2] ∧ (∃ p n c, Stk W0 Bt w' B sb so p n c st ∧ Value.ownBlock (.slice p n c) = g) ∧ Kept2 w w' sb so none

set_option maxRecDepth 100000 in
set_option maxHeartbeats 1000000 in
theorem take_any (W0 : World) (Bt : Nat) (w : World) (B sb so : Nat) (p : Option Addr) (n c : Nat) (st : List TT) (x : TT) (hn : n ≤ 1000000) (h : Stk W0 Bt w B sb so p n c (st ++ [x])) :
    Calls Try.prog 62 #[.pointer (some ⟨sb, so, none⟩)] w (TakeOut W0 Bt w B sb so (Value.ownBlock (.slice p n c)) st x) := by
  obtain ⟨hcell, hfree, hlen, ⟨vs, hrow, hin⟩, haway⟩ := h
  obtain ⟨us, ws, rfl, hin1, hin2⟩ := PairsIn.parts _ _ _ hin
  obtain ⟨v, s, rfl, hx1, hx2, hs0⟩ := hin2
  obtain rfl : s = [] := hs0
  have hul := hin1.len
  obtain ⟨L, eL⟩ : ∃ L, L = st.length := ⟨_, rfl⟩
  have hnL : n = L + 1 := by rw [hlen, eL]; simp
  obtain ⟨g, cap, hform⟩ := ownsRow_succ (k := L) (by rw [← hnL]; exact hrow)
  subst hnL
  cases hform
  have d0 : w.cell? ⟨g, L * 2, none⟩ = some v.1 := by
    rw [hrow.cellAt _ (by omega), flatP_append, List.getElem?_append_right (by rw [flatP_len]; omega), flatP_len]
    rw [show L * 2 - us.length * 2 = 0 by omega]; rfl
  have d1 : w.cell? ⟨g, L * 2 + 1, none⟩ = some v.2 := by
    rw [hrow.cellAt _ (by omega), flatP_append, List.getElem?_append_right (by rw [flatP_len]; omega), flatP_len]
    rw [show L * 2 + 1 - us.length * 2 = 1 by omega]; rfl
  obtain ⟨t1, x1, e1⟩ := FoIn.iface (show FoIn W0 Bt (.node x.1.1 x.1.2 .nil) [v.1] from hx1)
  obtain ⟨t2, x2, e2⟩ := FoIn.iface (show FoIn W0 Bt (.node x.2.1 x.2.2 .nil) [v.2] from hx2)
  have hpop := ownsRow_pop (size := 2) (n := L) (xs := flatP us) (last := flatP [v]) (by rw [flatP_len]; omega) (by rw [← flatP_append]; exact hrow)
  obtain ⟨v1, v2⟩ := v
  simp only at e1 e2 hx1 hx2 d0 d1
  subst e1 e2
  have HFIN : Hid (∀ w', Kept2 w w' sb so none → w'.cell? ⟨sb, so, none⟩ = some (.slice (some ⟨g, 0, none⟩) L c) → w'.heap[g]? = w.heap[g]? → TakeOut W0 Bt w B sb so (some g) st x (.returned (.agg #[.iface t1 x1, .iface t2 x2])) w') := fun w' hk hc hg =>
    ⟨_, _, rfl, hx1, hx2, ⟨_, _, _, ⟨hc, (hk.frz so).trans hfree, eL, ⟨us, ⟨hpop.1, by
      rcases hpop.2 with ⟨h', _⟩ | ⟨g', cap', cur, hv, hB, hh, r⟩
      · cases h'
      · exact .inr ⟨g', cap', cur, hv, hB, by cases hv; exact hg.trans hh, r⟩⟩, hin1⟩, haway⟩, rfl⟩, hk⟩
  have hne := haway g rfl
  have hlt : sb < w.heap.size := World.block_lt_of_cell? _ _ hcell
  have hglt : g < w.heap.size := World.block_lt_of_cell? _ _ d0
  have hc1 : L ≤ c := by
    rcases hrow.2 with ⟨h', _⟩ | ⟨g', cap', cur, hv, hB, hh, r, _⟩
    · cases h'
    · cases hv; omega
  clear hpop hrow hin hin1 hx1 hx2 haway hlen hul eL
  go_enter Try.func62, Try.ntmps62
  go_wp2
  refine bodyPost_ret (v := .agg #[.iface t1 x1, .iface t2 x2]) (by simp [results, Try.results62, go_sem]) rfl (HFIN.out _ (((Kept2.refl w sb so none).set _).alloc (by simpa using hlt) _ |>.alloc (by simp; omega) _) ?_ ?_)
  · exact Lib.cell?_alloc_marked _ (Lib.cell?_alloc_marked _ (World.cell?_setCell_same' _ _ _ (by rw [hcell]; rfl)))
  · exact (Below.heap_alloc _ _ _ (by simp; omega)).trans ((Below.heap_alloc _ _ _ (by simpa using hglt)).trans (Below.heap_setCell _ _ _ _ hne))


end Go.Proofs.Ytjbckdmlogjggaa
