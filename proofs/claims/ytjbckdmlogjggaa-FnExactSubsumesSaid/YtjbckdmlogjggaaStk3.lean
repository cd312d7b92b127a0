/- The stack of pairs: open of compounds. Own work of the verifier. -/
import Derived.Test.YtjbckdmlogjggaaStk2
import Derived.Test.YtjbckdmlogjggaaBackF
import Derived.Test.YtjbckdmlogjggaaUntilR
namespace Go.Proofs.Ytjbckdmlogjggaa
open Go Go.RowKit Go.Shelf
set_option linter.unusedVariables false
attribute [local go_sem] Oper.semAt_some

theorem funEq {s1 s2 : ByteArray} {q1 q2 : Int} (w : World) : (binOp .neq 133 (.agg #[.string s1, .int .i64 q1]) (.agg #[.string s2, .int .i64 q2])).run Try.prog w = .ok (.bool (!((s1 == s2) && (q1 == q2)))) w := by
  have hS : Try.prog.underlying 133 = some (.struct (Try.prog.fieldsOf 133)) := by kernel_rfl
  have hp : Try.prog.stoodInHeld 133 = false := by kernel_rfl
  have u1 := Try.underlying3
  have u2 := Try.underlying9
  have z1 := Try.sizeOf3
  have a1 := Try.isAgg3
  have z2 := Try.sizeOf9
  have a2 := Try.isAgg9
  simp only [binOp, Op.equal, Op.maxDepth]
  rw [Sem.run_bind, show (10000 : Nat) = 9999 + 1 from rfl, run_equalIn_struct w 9999 133 _ _ hS hp]
  simp only [Program.fieldsOf, Try.underlying133]
  go_simp
  rw [beq_toListBytes]
  by_cases h1 : s1.toList = s2.toList <;> by_cases h2 : q1 = q2 <;> simp [h1, h2]

/-- The boxes of open. -/
def OpenK (w : World) (sb so b2 : Nat) (W : World) : Prop :=
  Below w.heap.size w W ∧ w.heap.size + 1 + 1 < W.heap.size ∧ W.heap[w.heap.size]? = some (.cells #[.pointer (some ⟨sb, so, none⟩)] 129) ∧ W.heap[w.heap.size + 1 + 1]? = some (.cells #[.pointer (some ⟨b2, 0, none⟩)] 108)
theorem OpenK.next {w : World} {sb so b2 : Nat} {W W' : World} (h : OpenK w sb so b2 W) (hb : Below W.heap.size W W') : OpenK w sb so b2 W' :=
  ⟨Below.on h.1 hb, Nat.lt_of_lt_of_le h.2.1 hb.size, (hb.block _ (by have := h.2.1; omega)).trans h.2.2.1, (hb.block _ h.2.1).trans h.2.2.2⟩
theorem OpenK.start (w : World) (sb so b2 : Nat) (o : Obj) : OpenK w sb so b2 (((w.alloc (.cells #[.pointer (some ⟨sb, so, none⟩)] 129)).alloc o).alloc (.cells #[.pointer (some ⟨b2, 0, none⟩)] 108)).drew :=
  ⟨((((Below.refl w.heap.size w).alloc (Nat.le_refl _) _).alloc (by simp) _).alloc (by simp; omega) _).drew, by simp, (Below.heap_alloc _ _ _ (by simp; omega)).trans ((Below.heap_alloc _ _ _ (by simp)).trans (heap_alloc_new _ _)), (heap_three _ _ _ _).2⟩
theorem OpenK.cell2 {w : World} {sb so b2 : Nat} {W : World} (h : OpenK w sb so b2 W) : W.cell? ⟨w.heap.size + 1 + 1, 0, none⟩ = some (.pointer (some ⟨b2, 0, none⟩)) := cell_of_row _ _ 0 _ _ _ h.2.2.2
theorem OpenK.cell1 {w : World} {sb so b2 : Nat} {W : World} (h : OpenK w sb so b2 W) : W.cell? ⟨w.heap.size, 0, none⟩ = some (.pointer (some ⟨sb, so, none⟩)) := cell_of_row _ _ 0 _ _ _ h.2.2.1

theorem FoIn.tree {w : World} {B : Nat} : ∀ (F : Fo) (vs : List Value), FoIn w B F vs → ∀ j (h : j < (trs F).length), FoIn w B ((trs F)[j]).fo [vs.getD j .nilIface]
  | .nil, vs, _, j, h => by simp [trs] at h
  | .node c k r, vs, ⟨v, vr, e, hn, hr⟩, j, h => by
    subst e
    cases j with
    | zero => exact ⟨v, [], rfl, hn, rfl⟩
    | succ j => simpa [trs] using FoIn.tree r vr hr j (by simpa [trs] using h)
def Tr.none : Tr := (Cel.none, .nil)
def prAt (x : TT) (i : Nat) : TT := ((trs x.1.2).getD i Tr.none, (trs x.2.2).getD i Tr.none)
theorem prAt_all (x : TT) (q : Nat) (h1 : (trs x.1.2).length = q) (h2 : (trs x.2.2).length = q) : (downF q q).map (fun i : Fin q => prAt x (i : Nat)) = argPairs x := by
  rw [downF_all, List.map_reverse, argPairs]
  congr 1
  apply List.ext_getElem
  · simp [h1, h2]
  · intro i a b
    simp [prAt, List.getD, h1, h2]
def ifOf : Value → Nat × Value
  | .iface t x => (t, x)
  | _ => (0, .nilIface)
theorem zs_at {w : World} {B : Nat} {F : Fo} {vs : List Value} (h : FoIn w B F vs) {j : Nat} (hj : j < vs.length) : Value.iface ((vs.map ifOf)[j]?.getD (0, .nilIface)).1 ((vs.map ifOf)[j]?.getD (0, .nilIface)).2 = vs.getD j .nilIface := by
  have hjt : j < (trs F).length := by rw [trs_len, ← FoIn.count _ _ h]; exact hj
  have ht := FoIn.tree F vs h j hjt
  obtain ⟨t, x, e⟩ := FoIn.iface (show FoIn w B (.node (trs F)[j].1 (trs F)[j].2 .nil) [vs.getD j .nilIface] from ht)
  have hg : vs[j]? = some (.iface t x) := by
    rw [List.getD, List.getElem?_eq_getElem hj] at e
    rw [List.getElem?_eq_getElem hj]
    simpa using e
  rw [e, List.getElem?_map, hg]
  rfl

/-- Between two rounds. -/
def OInv (W0 : World) (Bt : Nat) (w : World) (B sb so b2 g1 q Bs : Nat) (g : Option Nat) (st : List TT) (x : TT) (pre : List (Fin q)) (W : World) : Prop :=
  (∃ p n c, Stk W0 Bt W B sb so p n c (st ++ pre.map (fun i : Fin q => prAt x (i : Nat))) ∧ (Value.ownBlock (.slice p n c) = g ∨ ∃ k, Value.ownBlock (.slice p n c) = some k ∧ w.heap.size ≤ k)) ∧ Kept2 w W sb so g ∧
  (W.heap[w.heap.size]? = some (.cells #[.pointer (some ⟨sb, so, none⟩)] 129) ∧ W.heap[w.heap.size + 1 + 1]? = some (.cells #[.pointer (some ⟨b2, 0, none⟩)] 108) ∧ W.heap[Bs]? = some (.cells #[.slice (some ⟨g1, 0, none⟩) q q] 109))
theorem kept_cells {W W' : World} {row : Option Nat} (hg : W.grownBy W' row) (hr : ∀ r, row = some r → ∃ o : Obj, W.heap[r]? = some o ∧ o.isCells = false) {k : Nat} {cs : Array Value} {t : TypeId} (h : W.heap[k]? = some (.cells cs t)) : W'.heap[k]? = some (.cells cs t) :=
  (hg.block k (Array.getElem?_eq_some_iff.1 h).1 (fun e => by obtain ⟨o, ho, hc⟩ := hr k e.symm; rw [h] at ho; cases ho; cases hc)).trans h
theorem Stk.kept {W0 : World} {Bt : Nat} {W W' : World} {B sb so : Nat} {p : Option Addr} {n c : Nat} {st : List TT} {row : Option Nat} (h : Stk W0 Bt W B sb so p n c st) (hg : W.grownBy W' row) (hr : ∀ r, row = some r → ∃ o : Obj, W.heap[r]? = some o ∧ o.isCells = false) : Stk W0 Bt W' B sb so p n c st := by
  obtain ⟨vs, hrow, hp⟩ := h.row
  refine ⟨cell_kept h.cell hg hr, (frozen_kept h.cell hg hr).trans h.free, h.len, ⟨vs, ⟨hrow.1, ?_⟩, hp⟩, h.away⟩
  rcases hrow.2 with h' | ⟨g, cap, cur, hv, hB, hh, r⟩
  · exact .inl h'
  · exact .inr ⟨g, cap, cur, hv, hB, kept_cells hg hr hh, r⟩
theorem oInv_own (W0 : World) (Bt : Nat) (w : World) (B sb so b2 g1 q Bs : Nat) (g : Option Nat) (st : List TT) (x : TT) (hsb : sb < w.heap.size) (N : Nat) (hN : w.heap.size ≤ N) : OwnFrom N (OInv W0 Bt w B sb so b2 g1 q Bs g st x) := fun pre A C row ⟨⟨p, n, c, h1, h2⟩, hk, k1, k2, k3⟩ hg hr => by
  have hr' : ∀ r, row = some r → ∃ o : Obj, A.heap[r]? = some o ∧ o.isCells = false := fun r e => (hr r e).2
  refine ⟨⟨p, n, c, h1.kept hg hr', h2⟩, ?_, kept_cells hg hr' k1, kept_cells hg hr' k2, kept_cells hg hr' k3⟩
  have hb : ∀ k, k < w.heap.size → C.heap[k]? = A.heap[k]? := fun k hk' => hg.block k (Nat.lt_of_lt_of_le hk' hk.size) (fun e => by have := (hr k e.symm).1; omega)
  exact ⟨hg.os.trans hk.os, hg.tape.trans hk.tape, hg.output.trans hk.output, Nat.le_trans hk.size hg.size, fun k h1 h2 h3 => (hb k h1).trans (hk.block k h1 h2 h3),
    fun o ho => (World.cell?_of_block (a := ⟨sb, o, none⟩) (hb sb hsb)).trans (hk.cells o ho), fun o => (World.frozen?_of_block (a := ⟨sb, o, none⟩) (hb sb hsb)).trans (hk.frz o)⟩
theorem row_ne {W : World} {B n c k : Nat} {p : Option Addr} {xs : List Value} {cs : Array Value} {t : TypeId} (h : W.ownsRow B 91 2 (.slice p n c) n xs) (hk : W.heap[k]? = some (.cells cs t)) (ht : t ≠ 91) : some k ≠ Value.ownBlock (.slice p n c) := fun e => by
  rcases h.2 with ⟨h', _⟩ | ⟨g, cap, cur, hv, _, hh, _⟩
  · cases h'; cases e
  · cases hv
    cases e
    rw [hk] at hh
    cases hh
    exact ht rfl
/-- Behind one round. -/
theorem Stk.grew {W0 : World} {Bt : Nat} {W w1 : World} {B sb so n c g cap : Nat} {p : Option Addr} {st : List TT} {vs : List (Value × Value)} {v1 v2 : Value} {x : TT} {o : Obj} (h : Stk W0 Bt W B sb so p n c st) (hsb : sb < W.heap.size) (hp : PairsIn W0 Bt st vs) (h1 : FoIn W0 Bt x.1.fo [v1]) (h2 : FoIn W0 Bt x.2.fo [v2])
    (hr : w1.ownsRow B 91 2 (.slice (some ⟨g, 0, none⟩) (n + 1) cap) (n + 1) (flatP vs ++ [v1, v2])) (hg : (W.alloc o).drew.grownBy w1 (Value.ownBlock (.slice p n c))) (hat : Value.ownBlock (.slice p n c) = some g ∨ g = W.heap.size + 1) :
    g ≠ sb ∧ w1.cell? ⟨sb, so, none⟩ = some (.slice p n c) ∧ w1.frozen? ⟨sb, so, none⟩ = false ∧ Stk W0 Bt (w1.setCell ⟨sb, so, none⟩ (.slice (some ⟨g, 0, none⟩) (n + 1) cap)) B sb so (some ⟨g, 0, none⟩) (n + 1) cap (st ++ [x]) := by
  have hne : some sb ≠ Value.ownBlock (.slice p n c) := fun e => by
    cases p with
    | none => cases e
    | some a =>
      obtain ⟨_, hrow, _⟩ := h.row
      rcases hrow.2 with ⟨h', _⟩ | ⟨g', cap', cur, hv, _⟩
      · cases h'
      · cases hv
        cases e
        exact h.away _ rfl rfl
  have hgs : g ≠ sb := fun e => by
    rcases hat with h' | h'
    · exact hne (by rw [h', e])
    · omega
  have hblk : w1.heap[sb]? = W.heap[sb]? := (hg.block sb (by show sb < (W.alloc o).heap.size; simp; omega) hne).trans (Below.heap_alloc _ _ _ hsb)
  have hc : w1.cell? ⟨sb, so, none⟩ = some (.slice p n c) := (World.cell?_of_block (a := ⟨sb, so, none⟩) hblk).trans h.cell
  have hf : w1.frozen? ⟨sb, so, none⟩ = false := (World.frozen?_of_block (a := ⟨sb, so, none⟩) hblk).trans h.free
  refine ⟨hgs, hc, hf, World.cell?_setCell_same' _ _ _ (by rw [hc]; rfl), by rw [World.frozen?_setCell]; exact hf, by rw [h.len]; simp, ⟨vs ++ [(v1, v2)], ?_, hp.append _ _ _ _ ⟨_, [], rfl, h1, h2, rfl⟩⟩, fun g' e => by cases e; exact hgs⟩
  rw [flatP_append]
  exact ownsRow_setCell_other hr (by simpa [Value.ownBlock] using hgs) _
/-- What a round keeps. -/
theorem Kept2.round {w W w1 : World} {sb so n c : Nat} {p : Option Addr} {g : Option Nat} {o : Obj} (h : Kept2 w W sb so g) (hsb : sb < w.heap.size) (hown : Value.ownBlock (.slice p n c) = g ∨ ∃ k, Value.ownBlock (.slice p n c) = some k ∧ w.heap.size ≤ k) (hne : some sb ≠ Value.ownBlock (.slice p n c))
    (hg : (W.alloc o).drew.grownBy w1 (Value.ownBlock (.slice p n c))) (u : Value) : Kept2 w (w1.setCell ⟨sb, so, none⟩ u) sb so g := by
  have hs : sb < W.heap.size := Nat.lt_of_lt_of_le hsb h.size
  have hz : W.heap.size ≤ w1.heap.size := Nat.le_trans (by show W.heap.size ≤ (W.alloc o).heap.size; simp) hg.size
  have hb : ∀ k, k < W.heap.size → some k ≠ Value.ownBlock (.slice p n c) → w1.heap[k]? = W.heap[k]? := fun k hk e => (hg.block k (by show k < (W.alloc o).heap.size; simp; omega) e).trans (Below.heap_alloc _ _ _ hk)
  have h1 : Kept2 w w1 sb so g := ⟨hg.os.trans h.os, hg.tape.trans h.tape, hg.output.trans h.output, Nat.le_trans h.size hz, fun k hk a1 a2 => (hb k (Nat.lt_of_lt_of_le hk h.size) (fun e => by
    rcases hown with h' | ⟨k', h', hk'⟩
    · exact a2 (by rw [e, h'])
    · rw [h'] at e; cases e; omega)).trans (h.block k hk a1 a2),
    fun j hj => (World.cell?_of_block (a := ⟨sb, j, none⟩) (hb sb hs hne)).trans (h.cells j hj), fun j => (World.frozen?_of_block (a := ⟨sb, j, none⟩) (hb sb hs hne)).trans (h.frz j)⟩
  exact h1.set u
theorem infoPair : (Try.prog.info? 91).map (fun i => (i.zero, i.size, i.bytes)) = some (some (.agg #[.nilIface, .nilIface]), 2, 32) := by kernel_rfl

end Go.Proofs.Ytjbckdmlogjggaa
