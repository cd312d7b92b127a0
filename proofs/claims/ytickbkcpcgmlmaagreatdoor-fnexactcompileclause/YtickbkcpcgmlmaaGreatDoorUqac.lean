/- Texts of PrP, Stk1, Make3, BackF. Own work of the verifier. -/
import Derived.Test.YtickbkcpcgmlmaaGreatDoorUqab
import Derived.WalkSmall
import Derived.RangeFuncBox
import Derived.RangeFuncNested
import Derived.RangeFuncBound
import Derived.RangeFuncCalls
import Derived.RangeFuncLeaves
import Derived.Shelf.Abstract
import Derived.Shelf.RegionOpen
import Derived.OwnWalkIn
import Derived.TacticsInMore
import Derived.LoopNIn
import Derived.LoopIn
import Derived.Sort.EveryDepth
namespace Go.Proofs.YtickbkcpcgmlmaaGreatDoor
set_option linter.unusedVariables false
set_option maxRecDepth 100000
section
open Go Go.RowKit
abbrev Tr := Cel × Fo
abbrev TT := Tr × Tr
def Tr.fo (t : Tr) : Fo := .node t.1 t.2 .nil
def trs : Fo → List Tr
 | .nil => []
 | .node c k r => (c, k) :: trs r
theorem trs_len : ∀ F : Fo, (trs F).length = F.count
 | .nil => rfl
 | .node c k r => by simp [trs, Fo.count, trs_len r]
def eqFo : Fo → Fo → Bool
 | .nil, .nil => true
 | .node c k r, .node c' k' r' => decide (c = c') && eqFo k k' && eqFo r r'
 | .nil, .node _ _ _ => false
 | .node _ _ _, .nil => false
theorem eqFo_iff : ∀ a b : Fo, eqFo a b = true ↔ a = b
 | .nil, .nil => by simp [eqFo]
 | .node c k r, .node c' k' r' => by simp [eqFo, eqFo_iff k k', eqFo_iff r r', and_assoc]
 | .nil, .node _ _ _ => by simp [eqFo]
 | .node _ _ _, .nil => by simp [eqFo]
def eqT (x : TT) : Bool := decide (x.1.1 = x.2.1) && eqFo x.1.2 x.2.2
theorem eqT_iff (x : TT) : eqT x = true ↔ x.1 = x.2 := by
 obtain ⟨⟨c, k⟩, ⟨c', k'⟩⟩ := x
 simp [eqT, eqFo_iff]
def sames (st : List TT) : Bool := st.all eqT
theorem eqFo_zip : ∀ a b : Fo, a.count = b.count → eqFo a b = ((trs a).zip (trs b)).all eqT
 | .nil, .nil, _ => rfl
 | .node c k r, .node c' k' r', h => by
   have := eqFo_zip r r' (by simpa [Fo.count] using h)
   simp [eqFo, trs, eqT, this]
 | .nil, .node _ _ _, h => by simp [Fo.count] at h
 | .node _ _ _, .nil, h => by simp [Fo.count] at h
def argPairs (x : TT) : List TT := ((trs x.1.2).zip (trs x.2.2)).reverse
def opened (x : TT) : List TT := if x.1.1 = x.2.1 then argPairs x else []
theorem sames_open (st : List TT) (x : TT) (h : x.1.1 = x.2.1) (hc : x.1.2.count = x.2.2.count) : sames (st ++ opened x) = sames (st ++ [x]) := by
 simp [sames, opened, argPairs, h, eqT, eqFo_zip _ _ hc]
theorem sames_no (st : List TT) (x : TT) (h : x.1.1 ≠ x.2.1) : sames (st ++ [x]) = false := by
 simp [sames, eqT, h]
def load : List TT → Nat
 | [] => 0
 | x :: r => x.1.2.cells.length + 1 + load r
theorem load_append : ∀ a b : List TT, load (a ++ b) = load a + load b
 | [], b => by simp [load]
 | x :: r, b => by simp [load, load_append r b]; omega
theorem load_reverse : ∀ a : List TT, load a.reverse = load a
 | [] => rfl
 | x :: r => by simp [load_append, load, load_reverse r]; omega
theorem load_zip : ∀ a b : Fo, load ((trs a).zip (trs b)) ≤ a.cells.length
 | .nil, b => by simp [trs, load]
 | .node c k r, .nil => by simp [trs, load]
 | .node c k r, .node c' k' r' => by
   have := load_zip r r'
   simp [trs, load, Fo.cells]; omega
theorem load_opened (x : TT) : load (opened x) ≤ x.1.2.cells.length := by
 unfold opened argPairs
 split
 ·rw [load_reverse]; exact load_zip _ _
 ·simp [load]
theorem len_load : ∀ st : List TT, st.length ≤ load st
 | [] => Nat.le_refl _
 | x :: r => by have := len_load r; simp [load]; omega
def Tr.ok (t : Tr) : Prop := t.fo.ok
theorem trs_ok : ∀ F : Fo, F.ok → ∀ t ∈ trs F, Tr.ok t
 | .nil, _, t, h => by simp [trs] at h
 | .node c k r, ⟨h1, h2, h3, h4, h5, h6⟩, t, h => by
   rcases List.mem_cons.1 (show t ∈ (c, k) :: trs r from h) with rfl | h'
   ·exact ⟨h1, h2, h3, h4, h5, trivial⟩
   ·exact trs_ok r h6 t h'
theorem opened_ok {x : TT} (h1 : x.1.ok) (h2 : x.2.ok) : ∀ y ∈ opened x, y.1.ok ∧ y.2.ok := fun y hy => by
 unfold opened argPairs at hy
 split at hy
 ·have hz := List.of_mem_zip (List.mem_reverse.1 hy)
  exact ⟨trs_ok _ h1.2.2.2.2.1 _ hz.1, trs_ok _ h2.2.2.2.2.1 _ hz.2⟩
 ·cases hy
theorem ok_count {x : TT} (h1 : x.1.ok) (h2 : x.2.ok) (h : x.1.1 = x.2.1) : x.1.2.count = x.2.2.count := by
 obtain ⟨⟨c, k⟩, ⟨c', k'⟩⟩ := x; simp only at h; subst h
 by_cases h3 : c.1 = 3
 ·have e1 := h1.2.2.1 h3
  have e2 := h2.2.2.1 h3; simp only at e1 e2 ⊢
  omega
 ·have e1 : k = .nil := h1.2.2.2.1 h3
  have e2 : k' = .nil := h2.2.2.2.1 h3; rw [e1, e2]
theorem Fo.cells_inj : ∀ (a b : Fo) (x y : List Cel), a.ok → b.ok → a.count = b.count → a.cells ++ x = b.cells ++ y → a = b ∧ x = y
 | .nil, .nil, x, y, _, _, _, h => ⟨rfl, by simpa [Fo.cells] using h⟩
 | .nil, .node _ _ _, _, _, _, _, h, _ => by simp [Fo.count] at h
 | .node _ _ _, .nil, _, _, _, _, h, _ => by simp [Fo.count] at h
 | .node c k r, .node c' k' r', x, y, h1, h2, hc, h => by
   simp only [Fo.cells, List.cons_append, List.cons.injEq, List.append_assoc] at h; obtain ⟨rfl, h⟩ := h; have hk : k.count = k'.count := ok_count (x := ((c, k), (c, k'))) ⟨h1.1, h1.2.1, h1.2.2.1, h1.2.2.2.1, h1.2.2.2.2.1, trivial⟩ ⟨h2.1, h2.2.1, h2.2.2.1, h2.2.2.2.1, h2.2.2.2.2.1, trivial⟩ rfl; obtain ⟨rfl, h'⟩ := Fo.cells_inj k k' _ _ h1.2.2.2.2.1 h2.2.2.2.2.1 hk h; obtain ⟨rfl, rfl⟩ := Fo.cells_inj r r' x y h1.2.2.2.2.2 h2.2.2.2.2.2 (by simpa [Fo.count] using hc) h'; exact ⟨rfl, rfl⟩
theorem eqT_cells {x : TT} (h1 : x.1.ok) (h2 : x.2.ok) : eqT x = decide (x.1.1 :: x.1.2.cells = x.2.1 :: x.2.2.cells) := by
 rw [Bool.eq_iff_iff, eqT_iff, decide_eq_true_eq]; obtain ⟨⟨c, k⟩, ⟨c', k'⟩⟩ := x
 constructor
 ·intro h
  obtain ⟨rfl, rfl⟩ := Prod.mk.inj h
  rfl
 ·intro h
  have := Fo.cells_inj (.node c k .nil) (.node c' k' .nil) [] [] h1 h2 rfl (by simpa [Fo.cells] using h); have h3 := this.1
  injection h3 with e1 e2
  rw [e1, e2]
def flatP (vs : List (Value × Value)) : List Value := vs.flatMap (fun x => [x.1, x.2])
theorem flatP_append (a b : List (Value × Value)) : flatP (a ++ b) = flatP a ++ flatP b := by simp [flatP]
theorem flatP_len : ∀ vs : List (Value × Value), (flatP vs).length = vs.length * 2
 | [] => rfl
 | x :: r => by have := flatP_len r; simp only [flatP] at this; simp [flatP, this]; omega
def PairsIn (W0 : World) (Bt : Nat) : List TT → List (Value × Value) → Prop
 | [], vs => vs = []
 | x :: r, vs => ∃ v s, vs = v :: s ∧ FoIn W0 Bt x.1.fo [v.1] ∧ FoIn W0 Bt x.2.fo [v.2] ∧ PairsIn W0 Bt r s
theorem PairsIn.len {W0 : World} {Bt : Nat} : ∀ (st : List TT) (vs : List (Value × Value)), PairsIn W0 Bt st vs → vs.length = st.length
 | [], vs, h => by rw [show vs = [] from h]; rfl
 | x :: r, vs, ⟨v, s, e, _, _, h⟩ => by rw [e]; simp [PairsIn.len r s h]
theorem PairsIn.append {W0 : World} {Bt : Nat} : ∀ (a b : List TT) (vs us : List (Value × Value)), PairsIn W0 Bt a vs → PairsIn W0 Bt b us → PairsIn W0 Bt (a ++ b) (vs ++ us)
 | [], b, vs, us, h, k => by rw [show vs = [] from h]; exact k
 | x :: r, b, vs, us, ⟨v, s, e, h1, h2, h3⟩, k => by
   subst e; exact ⟨v, s ++ us, rfl, h1, h2, PairsIn.append r b s us h3 k⟩
theorem PairsIn.parts {W0 : World} {Bt : Nat} : ∀ (a b : List TT) (vs : List (Value × Value)), PairsIn W0 Bt (a ++ b) vs → ∃ us ws, vs = us ++ ws ∧ PairsIn W0 Bt a us ∧ PairsIn W0 Bt b ws
 | [], b, vs, h => ⟨[], vs, rfl, rfl, h⟩
 | x :: r, b, vs, ⟨v, s, e, h1, h2, h3⟩ => by
   obtain ⟨us, ws, e', k1, k2⟩ := PairsIn.parts r b s h3; subst e e'; exact ⟨v :: us, ws, rfl, ⟨v, us, rfl, h1, h2, k1⟩, k2⟩
structure Stk (W0 : World) (Bt : Nat) (w : World) (B sb so : Nat) (p : Option Addr) (n c : Nat) (st : List TT) : Prop where
 cell : w.cell? ⟨sb, so, none⟩ = some (.slice p n c)
 free : w.frozen? ⟨sb, so, none⟩ = false
 len : n = st.length
 row : ∃ vs, w.ownsRow B 160 2 (.slice p n c) n (flatP vs) ∧ PairsIn W0 Bt st vs
 away : ∀ g, p = some ⟨g, 0, none⟩ → g ≠ sb
structure Kept2 (w w' : World) (sb so : Nat) (g : Option Nat) : Prop where
 os : w'.os = w.os
 tape : w'.tape = w.tape
 output : w'.output = w.output
 size : w.heap.size ≤ w'.heap.size
 block : ∀ k, k < w.heap.size → k ≠ sb → some k ≠ g → w'.heap[k]? = w.heap[k]?
 cells : ∀ o, o ≠ so → w'.cell? ⟨sb, o, none⟩ = w.cell? ⟨sb, o, none⟩
 frz : ∀ o, w'.frozen? ⟨sb, o, none⟩ = w.frozen? ⟨sb, o, none⟩
theorem Kept2.below {w w' : World} {sb so B : Nat} {g : Option Nat} (h : Kept2 w w' sb so g) (hs : B ≤ sb) (hg : ∀ k, g = some k → B ≤ k) (hB : B ≤ w.heap.size) : Below B w w' :=
 ⟨h.os, h.tape, h.output, h.size, fun k hk => h.block k (by omega) (by omega) (fun e => by have := hg k e.symm; omega)⟩
theorem Kept2.refl (w : World) (sb so : Nat) (g : Option Nat) : Kept2 w w sb so g := ⟨rfl, rfl, rfl, Nat.le_refl _, fun _ _ _ _ => rfl, fun _ _ => rfl, fun _ => rfl⟩
theorem Kept2.alloc {w w' : World} {sb so : Nat} {g : Option Nat} (h : Kept2 w w' sb so g) (hs : sb < w'.heap.size) (o : Obj) : Kept2 w (w'.alloc o) sb so g :=
 ⟨h.os, h.tape, h.output, Nat.le_trans h.size (by simp), fun k hk h1 h2 => (Below.heap_alloc _ _ _ (Nat.lt_of_lt_of_le hk h.size)).trans (h.block k hk h1 h2),
  fun j hj => (World.cell?_of_block (w := w') (a := ⟨sb, j, none⟩) (Below.heap_alloc _ _ _ hs)).trans (h.cells j hj), fun j => (World.frozen?_of_block (w := w') (a := ⟨sb, j, none⟩) (Below.heap_alloc _ _ _ hs)).trans (h.frz j)⟩
theorem Kept2.set {w w' : World} {sb so : Nat} {g : Option Nat} (h : Kept2 w w' sb so g) (u : Value) : Kept2 w (w'.setCell ⟨sb, so, none⟩ u) sb so g :=
 ⟨by rw [World.setCell]; split <;> exact h.os, h.tape, h.output, by simpa using h.size, fun k hk h1 h2 => (Below.heap_setCell _ _ _ _ h1).trans (h.block k hk h1 h2),
  fun j hj => (World.cell?_setCell_other _ _ _ _ (fun e => hj (congrArg Addr.off e).symm)).trans (h.cells j hj), fun j => by rw [World.frozen?_setCell]; exact h.frz j⟩
theorem Kept2.new {w w' : World} {sb so : Nat} {g : Option Nat} (h : Kept2 w w' sb so g) {a : Addr} (ha : w.heap.size ≤ a.block) (hs : sb < w.heap.size) (u : Value) : Kept2 w (w'.setCell a u) sb so g :=
 ⟨h.os, h.tape, h.output, by simpa using h.size, fun k hk h1 h2 => (Below.heap_setCell _ _ _ _ (by omega)).trans (h.block k hk h1 h2),
  fun j hj => (World.cell?_setCell_other _ _ _ _ (fun e => by rw [e] at ha; simp at ha; omega)).trans (h.cells j hj), fun j => by rw [World.frozen?_setCell]; exact h.frz j⟩
def TakeOut (W0 : World) (Bt : Nat) (w : World) (B sb so : Nat) (g : Option Nat) (st : List TT) (x : TT) (e : Ending) (w' : World) : Prop :=
 ∃ v1 v2, e = .returned (.agg #[v1, v2]) ∧ FoIn W0 Bt x.1.fo [v1] ∧ FoIn W0 Bt x.2.fo [v2] ∧ (∃ p n c, Stk W0 Bt w' B sb so p n c st ∧ Value.ownBlock (.slice p n c) = g) ∧ Kept2 w w' sb so none
set_option maxHeartbeats 1000000 in
theorem take_any (W0 : World) (Bt : Nat) (w : World) (B sb so : Nat) (p : Option Addr) (n c : Nat) (st : List TT) (x : TT) (hn : n ≤ 1000000) (h : Stk W0 Bt w B sb so p n c (st ++ [x])) :
  Calls Tryz.prog 166 #[.pointer (some ⟨sb, so, none⟩)] w (TakeOut W0 Bt w B sb so (Value.ownBlock (.slice p n c)) st x) := by
 obtain ⟨hcell, hfree, hlen, ⟨vs, hrow, hin⟩, haway⟩ := h; obtain ⟨us, ws, rfl, hin1, hin2⟩ := PairsIn.parts _ _ _ hin; obtain ⟨v, s, rfl, hx1, hx2, hs0⟩ := hin2; obtain rfl : s = [] := hs0; have hul := hin1.len
 obtain ⟨L, eL⟩ : ∃ L, L = st.length := ⟨_, rfl⟩
 have hnL : n = L + 1 := by rw [hlen, eL]; simp
 obtain ⟨g, cap, hform⟩ := ownsRow_succ (k := L) (by rw [← hnL]; exact hrow); subst hnL
 cases hform
 have d0 : w.cell? ⟨g, L * 2, none⟩ = some v.1 := by
  rw [hrow.cellAt _ (by omega), flatP_append, List.getElem?_append_right (by rw [flatP_len]; omega), flatP_len]; rw [show L * 2 - us.length * 2 = 0 by omega]; rfl
 have d1 : w.cell? ⟨g, L * 2 + 1, none⟩ = some v.2 := by
  rw [hrow.cellAt _ (by omega), flatP_append, List.getElem?_append_right (by rw [flatP_len]; omega), flatP_len]; rw [show L * 2 + 1 - us.length * 2 = 1 by omega]; rfl
 obtain ⟨t1, x1, e1⟩ := FoIn.iface (show FoIn W0 Bt (.node x.1.1 x.1.2 .nil) [v.1] from hx1); obtain ⟨t2, x2, e2⟩ := FoIn.iface (show FoIn W0 Bt (.node x.2.1 x.2.2 .nil) [v.2] from hx2); have hpop := ownsRow_pop (size := 2) (n := L) (xs := flatP us) (last := flatP [v]) (by rw [flatP_len]; omega) (by rw [← flatP_append]; exact hrow); obtain ⟨v1, v2⟩ := v; simp only at e1 e2 hx1 hx2 d0 d1; subst e1 e2
 have HFIN : Hid (∀ w', Kept2 w w' sb so none → w'.cell? ⟨sb, so, none⟩ = some (.slice (some ⟨g, 0, none⟩) L c) → w'.heap[g]? = w.heap[g]? → TakeOut W0 Bt w B sb so (some g) st x (.returned (.agg #[.iface t1 x1, .iface t2 x2])) w') := fun w' hk hc hg =>
  ⟨_, _, rfl, hx1, hx2, ⟨_, _, _, ⟨hc, (hk.frz so).trans hfree, eL, ⟨us, ⟨hpop.1, by
    rcases hpop.2 with ⟨h', _⟩ | ⟨g', cap', cur, hv, hB, hh, r⟩
    ·cases h'
    ·exact .inr ⟨g', cap', cur, hv, hB, by cases hv; exact hg.trans hh, r⟩⟩, hin1⟩, haway⟩, rfl⟩, hk⟩
 have hne := haway g rfl; have hlt : sb < w.heap.size := World.block_lt_of_cell? _ _ hcell; have hglt : g < w.heap.size := World.block_lt_of_cell? _ _ d0
 have hc1 : L ≤ c := by
  rcases hrow.2 with ⟨h', _⟩ | ⟨g', cap', cur, hv, hB, hh, r, _⟩
  ·cases h'
  ·cases hv; omega
 clear hpop hrow hin hin1 hx1 hx2 haway hlen hul eL
 go_enter Tryz.func166, Tryz.ntmps166
 go_wp2
 refine bodyPost_ret (v := .agg #[.iface t1 x1, .iface t2 x2]) (by simp [results, Tryz.results166, go_sem]) rfl (HFIN.out _ (((Kept2.refl w sb so none).set _).alloc (by simpa using hlt) _ |>.alloc (by simp; omega) _) ?_ ?_)
 ·exact Lib.cell?_alloc_marked _ (Lib.cell?_alloc_marked _ (World.cell?_setCell_same' _ _ _ (by rw [hcell]; rfl)))
 ·exact (Below.heap_alloc _ _ _ (by simp; omega)).trans ((Below.heap_alloc _ _ _ (by simpa using hglt)).trans (Below.heap_setCell _ _ _ _ hne))
end
section
open Go Go.RowKit Go.Shelf
attribute [local go_sem] Oper.semAt_some
def BKeep (n₀ Bs : Nat) (A B : World) : Prop := Below n₀ A B ∧ ∀ v, A.cell? ⟨Bs, 0, none⟩ = some v → B.cell? ⟨Bs, 0, none⟩ = some v
theorem BKeep.refl (n₀ Bs : Nat) (A : World) : BKeep n₀ Bs A A := ⟨Below.refl _ _, fun _ h => h⟩
theorem BKeep.trans {n₀ Bs : Nat} {A B C : World} (h : BKeep n₀ Bs A B) (k : BKeep n₀ Bs B C) : BKeep n₀ Bs A C := ⟨h.1.trans k.1, fun v hv => k.2 v (h.2 v hv)⟩
set_option maxHeartbeats 1000000 in
theorem back_in (F : Fence) (n : Nat) (h5 : F.fn 204) (hro : F.round = none) (a : Option Addr) (len cap : Nat) (w : World) :
  CallsIn F n Tryz.prog 204 #[.slice a len cap] w fun e w' => e = .returned (.func (.func 263) #[] #[.pointer (some ⟨w.heap.size, 0, none⟩)]) ∧ w' = w.alloc (.cells #[.slice a len cap] 93) := by
 refine callsIn_of_wp Tryz.func204 rfl h5 ?_ hro; simp only [Tryz.ntmps204, List.size_toArray, List.length_cons, List.length_nil, Nat.reduceAdd, Nat.reduceSub, Array.replicate_succ, Array.replicate_zero, List.push_toArray, List.append_toArray, List.nil_append, List.cons_append]
 gi_wp2
 go_ret; exact ⟨rfl, rfl⟩
theorem bKeep_b {n₀ Bs : Nat} {w : World} (hn : n₀ ≤ w.heap.size) (W : World) (l : Nat) (o o' : Obj) (hl : w.heap.size ≤ l) (h : W.heap[l]? = some o) (ho : o.isCells = false) (hw : o.isWalk = false) : BKeep n₀ Bs W (W.putObj l o') :=
 ⟨belowK_b hn W l o o' hl h ho hw, fun v hv => cell_kept hv (grownBy_putObj' W l o') (fun r e => by cases e; exact ⟨_, h, ho⟩)⟩
attribute [local go_sem] Oper.semAt_some
def downF (len j : Nat) : List (Fin len) := (List.finRange len).reverse.take j
theorem downF_succ {len m : Nat} (h : m < len) : downF len (len - m) = downF len (len - (m + 1)) ++ [⟨m, h⟩] := by
 unfold downF
 have e : len - m = len - (m + 1) + 1 := by omega
 rw [e, List.take_add_one]
 congr 1
 rw [List.getElem?_reverse (by simp; omega)]; simp only [List.length_finRange]; rw [List.getElem?_eq_getElem (by simp; omega)]; simp only [List.getElem_finRange, Option.toList_some, List.cons.injEq, and_true]
 apply Fin.ext
 simp; omega
theorem downF_length {len m : Nat} (h : m ≤ len) : (downF len m).length = m := by simp [downF, h]
theorem downF_all (len : Nat) : downF len len = (List.finRange len).reverse := by
 unfold downF
 rw [List.take_of_length_le (by simp)]
set_option maxHeartbeats 2000000 in
theorem backF_in (F : Fence) (n : Nat) (h7 : F.fn 263) (hro : F.round = none) (hn : 1 ≤ n) (l Bs n₀ b len cap : Nat) (zs : List (Nat × Value)) (hlen : len ≤ 2000) (hb : b < n₀) (J Jx : List (Fin len) → World → Prop)
  (hY : ∀ pre (x : Fin len) W, J pre W → pre.length < len → YieldAt F (n - 1) Tryz.prog l #[.int .i64 ((x : Nat) : Int), .iface (zs[(x : Nat)]?.getD (0, .nilIface)).1 (zs[(x : Nat)]?.getD (0, .nilIface)).2] W fun e W' =>
    (e = .returned (.bool true) ∧ J (pre ++ [x]) W' ∧ BKeep n₀ Bs W W') ∨ (e = .returned (.bool false) ∧ Jx (pre ++ [x]) W'))
  (W : World) (hBs : W.cell? ⟨Bs, 0, none⟩ = some (.slice (some ⟨b, 0, none⟩) len cap)) (hc : ∀ j, j < len → W.cell? ⟨b, j, none⟩ = some (.iface (zs[j]?.getD (0, .nilIface)).1 (zs[j]?.getD (0, .nilIface)).2)) (h0 : J [] W) :
  CallsIn F n Tryz.prog 263 #[.func (.yield l) #[] #[], .pointer (some ⟨Bs, 0, none⟩)] W fun e W' => (∃ v, e = .returned v) ∧
   ((∃ ys, ys = downF len len ∧ J ys W') ∨ (∃ pre, True ∧ Jx pre W')) := by
 refine callsIn_of_wp Tryz.func263 rfl h7 ?_ hro; simp only [Tryz.ntmps263, List.size_toArray, List.length_cons, List.length_nil, Nat.reduceAdd, Nat.reduceSub, Array.replicate_succ, Array.replicate_zero, List.push_toArray, List.append_toArray, List.nil_append, List.cons_append]
 gi_wp2
 gi_loopw [3] (fun i wr => ∃ m : Nat, m ≤ len ∧ i = .int .i64 ((m : Int) - 1) ∧ J (downF len (len - m)) wr ∧ BKeep n₀ Bs W wr)
  (fun i _ => (intOf i + 1).toNat)
 case atStart => exact ⟨len, Nat.le_refl _, by go_num, by rw [Nat.sub_self]; exact h0, BKeep.refl _ _ _⟩
 case round =>
  obtain ⟨m, hm, rfl, hJs, hnx⟩ := hrel; have hBs' := hnx.2 _ hBs
  cases m with
  | zero =>
    gi_wp2
    go_end0
    exact ⟨⟨_, rfl⟩, .inl ⟨_, rfl, hJs⟩⟩
  | succ m =>
    have hcx := (hnx.1.cell (p := ⟨b, m, none⟩) hb).trans (hc m (by omega))
    have e1 : ((m + 1 : Nat) : Int) - 1 = (m : Int) := by omega
    have e4 := downF_succ (len := len) (m := m) (by omega); obtain ⟨fn, tmps, assign, body, hy, hR⟩ := hY _ ⟨m, by omega⟩ wr hJs (by rw [downF_length (by omega)]; omega)
    dsimp only at hy
    rw [← e4] at hR; rw [e1]
    obtain ⟨tv, etv⟩ : ∃ tv, tv = (zs[m]?.getD (0, .nilIface)).1 := ⟨_, rfl⟩
    obtain ⟨xv, exv⟩ : ∃ xv, xv = (zs[m]?.getD (0, .nilIface)).2 := ⟨_, rfl⟩
    rw [← etv, ← exv] at hy hcx; have hR' : Hid _ := hR; clear e1 e4 etv exv
    gi_wp2
    refine hR.mono ?_; rintro e W3 (⟨rfl, hJ3, hk3⟩ | ⟨rfl, hJx3⟩)
    ·gi_wp2
     go_roundw
     case rel => exact ⟨m, by omega, by go_num, hJ3, hnx.trans hk3⟩
     case measure => simp [intOf]
    ·gi_wp2
     refine bodyPost_ret (results_none rfl _ _ _) rfl ?_; exact ⟨⟨_, rfl⟩, .inr ⟨_, trivial, hJx3⟩⟩
theorem backF_stops (F : Fence) (n : Nat) (h7 : F.fn 263) (hro : F.round = none) (hn : 1 ≤ n) (Bs n₀ b len cap : Nat) (zs : List (Nat × Value)) (hlen : len ≤ 2000) (w : World) (hBs : Bs < w.heap.size) (hn₀ : n₀ ≤ w.heap.size) (hb : b < n₀)
  (hcB : w.cell? ⟨Bs, 0, none⟩ = some (.slice (some ⟨b, 0, none⟩) len cap)) (hc : ∀ j, j < len → w.cell? ⟨b, j, none⟩ = some (.iface (zs[j]?.getD (0, .nilIface)).1 (zs[j]?.getD (0, .nilIface)).2)) :
  SeqStopsK F n Tryz.prog 263 #[.pointer (some ⟨Bs, 0, none⟩)] (fun x : Fin len => #[Value.int .i64 ((x : Nat) : Int), Value.iface (zs[(x : Nat)]?.getD (0, .nilIface)).1 (zs[(x : Nat)]?.getD (0, .nilIface)).2]) (BKeep n₀ Bs) (fun ys => ys = downF len len) (fun _ => True) len w := fun l J Jx W hW _ _ hY h0 => by
 exact backF_in F n h7 hro hn l Bs n₀ b len cap zs hlen hb J Jx hY W ((hW.cell (p := ⟨Bs, 0, none⟩) hBs).trans hcB) (fun j hj => (hW.cell (p := ⟨b, j, none⟩) (by show b < _; omega)).trans (hc j hj)) h0
end
end Go.Proofs.YtickbkcpcgmlmaaGreatDoor
