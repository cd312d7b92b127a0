/- Operators sorted in a row of the call's own. Own work of the verifier. -/
import Derived.Sort.OwnSortedInts
import Derived.Test.YtbfhpnacoigfkaaDoorOpsL
import Derived.Test.YtbfhpnacoigfkaaDoorOpsP
namespace Go.Proofs.YtbfhpnacoigfkaaDoor
open Go Go.RowKit Go.Sort Go.Shelf
set_option linter.unusedVariables false

theorem opCmp_ltO (x y : Cel) : ltOf opCmp x y = ltO x y := rfl
theorem ltO_same {x x' y : Cel} (h : keyC x = keyC x') : ltO x y = ltO x' y := by rw [Bool.eq_iff_iff, ltO_iff_key, ltO_iff_key, h]
theorem op_ntrans (x y z : Cel) (h1 : ltO x y = false) (h2 : ltO y z = false) : ltO x z = false := by
  by_cases e : keyC x = keyC y
  · rw [ltO_same e]; exact h2
  · have h3 := ltO_tri e h1
    cases h : ltO x z with
    | false => rfl
    | true => rw [ltO_trans h3 h] at h2; cases h2

/-- An operator as it lies, and what it is. -/
abbrev RowE (w : World) (B blk : Nat) := { x : RC × Cel // Fits w B x.1 x.2 ∧ (0 < x.1.2.2.2.1 → x.1.2.2.1 ≠ some ⟨blk, 0, none⟩) }
def encE {w : World} {B blk : Nat} (x : RowE w B blk) : List Value := roV x.1.1
def cfE {w : World} {B blk : Nat} (x y : RowE w B blk) : Int := opCmp x.1.2 y.1.2
theorem e_swo {w : World} {B blk : Nat} : SWO (ltOf (cfE (w := w) (B := B) (blk := blk))) where
  irrefl x := ltO_irrefl x.1.2
  trans x y z h1 h2 := ltO_trans (x := x.1.2) (y := y.1.2) (z := z.1.2) h1 h2
  ntrans x y z h1 h2 := op_ntrans x.1.2 y.1.2 z.1.2 h1 h2
theorem grownBy_sortE {w W : World} {B blk g n : Nat} {os : Array Obj} (d : Array (RowE w B blk)) [Inhabited (RowE w B blk)] : W.grownBy (sortWorldK encE 3 W g 0 n d os) (some g) := by
  refine ⟨rfl, rfl, rfl, by simp [sortWorldK, putRowK], fun k hk hne => ?_⟩
  rw [sortWorldK, heap_grow_old _ _ (by simpa [putRowK] using hk)]
  have : g ≠ k := fun e => hne (by rw [e])
  simp [putRowK, putRow, mapBlock, Sort.ahead, Array.getElem?_modify, this]
theorem ownT_grown {w w' : World} {B blk : Nat} {p : Option Addr} {n c : Nat} {ys : List Int} (h : OwnT w B p n c ys) (hg : w.grownBy w' (some blk)) (hne : 0 < n → p ≠ some ⟨blk, 0, none⟩) : OwnT w' B p n c ys := by
  refine h.other hg.size (fun g hn e => ?_)
  obtain ⟨g', e', _, hlt, _⟩ := h.2 hn
  have eg : g = g' := by rw [e] at e'; exact congrArg Addr.block (Option.some.inj e')
  subst eg
  exact hg.block g hlt (fun h' => hne hn (by rw [e, Option.some.inj h']))
theorem isAggOp (w : World) : (isAgg 39).run Tryd.prog w = .ok true w := by kernel_rfl
theorem sizeOfOp (w : World) : (Go.sizeOf 39).run Tryd.prog w = .ok 3 w := by kernel_rfl
theorem cmpLaysOp {w : World} {B g : Nat} [Inhabited (RowE w B g)] (size : Nat) : CmpLays Tryd.prog 39 #[] (encE (w := w) (B := B) (blk := g)) 3 cfE g 0 size w := fun m os dk _ x y => by
  obtain ⟨⟨rx, cx⟩, fx, nx⟩ := x
  obtain ⟨⟨ry, cy⟩, fy, ny⟩ := y
  have hg : w.grownBy (sortWorldK encE 3 w g 0 m dk os) (some g) := grownBy_sortE dk
  have bx := (ownT_grown fx.2.2 hg nx)
  have bY := (ownT_grown fy.2.2 hg ny)
  have h := compareOps_any rx.1 rx.2.1 ry.1 ry.2.1 rx.2.2.1 ry.2.2.1 rx.2.2.2.1 ry.2.2.2.1 rx.2.2.2.2 ry.2.2.2.2 cx.2.2 cy.2.2 (sortWorldK encE 3 w g 0 m dk os) fx.2.2.len fy.2.2.len bx.bin bY.bin
  have e1 : ((rx.1, rx.2.1, cx.2.2) : Cel) = cx := by rw [fx.1, fx.2.1]
  have e2 : ((ry.1, ry.2.1, cy.2.2) : Cel) = cy := by rw [fy.1, fy.2.1]
  rw [e1, e2] at h
  exact h

end Go.Proofs.YtbfhpnacoigfkaaDoor
