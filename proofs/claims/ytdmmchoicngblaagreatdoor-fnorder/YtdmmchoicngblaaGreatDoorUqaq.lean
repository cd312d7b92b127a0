/- Texts of EvI1, AsE, AsE2, RecE, EvI2, EvI3, EvI4, EvI5, EvM, EvO, EvN, EvN2, EvV1, EvQ, EvV2, EvE, EvF, FeA, FeB, FeC, FeD, FeE, FeF, FeG, FeH, FeI. Own work of the verifier. -/
import Derived.Test.YtdmmchoicngblaaGreatDoorUqad
import Derived.Test.YtdmmchoicngblaaGreatDoorUqah
import Derived.Laws.CopyOwn
import Derived.Recover
import Derived.TacticsInMore
import Derived.RegionIn
import Derived.LoopNIn
import Derived.RecoverIn
import Derived.OwnWalkIn
import Derived.RangeFuncLeaves
import Derived.LoopIn
import Derived.Test.YtdmmchoicngblaaGreatDoorUqaf
import Derived.Test.YtdmmchoicngblaaGreatDoorUqal
namespace Go.Proofs.YtdmmchoicngblaaGreatDoor
set_option linter.unusedVariables false
set_option linter.unusedSimpArgs false
set_option maxRecDepth 100000
section
open Go Go.RowKit
theorem comp_in {w : World} {B b g : Nat} {nm : List Int} {n : Int} {k : Fo} {vs : List Value} (hb : B ≤ b) (hg : B ≤ g) (h0 : w.cell? ⟨b, 0, none⟩ = some (.string (strOfNums nm))) (h1 : w.cell? ⟨b, 1, none⟩ = some (.slice (some ⟨g, 0, none⟩) vs.length vs.length))
  (hgl : g < w.heap.size) (hr : ∀ i, i < vs.length → w.cell? ⟨g, i, none⟩ = some (vs.getD i .nilIface)) (hk : FoIn w B k vs) : FoIn w B (.node (3, n, nm) k .nil) [.iface 139 (.pointer (some ⟨b, 0, none⟩))] :=
 ⟨_, [], rfl, .inr (.inr (.inr ⟨rfl, b, g, vs, rfl, hb, hg, h0, h1, hgl, hr, hk⟩)), rfl⟩
theorem atom_in {w : World} {B : Nat} {s : List Int} {n : Int} {r : Fo} {vs : List Value} (h : FoIn w B r vs) : FoIn w B (.node (2, n, s) .nil r) (.iface 94 (.string (strOfNums s)) :: vs) := ⟨_, vs, rfl, .inr (.inr (.inl ⟨rfl, rfl⟩)), h⟩
end
section
open Go Go.RowKit Go.Extern.Stop Go.Stop Go.Extern
end
section
open Go Go.RowKit
end
section
open Go Go.RowKit Go.Maps
end
section
open Go Go.RowKit
end
section
open Go Go.RowKit Go.Maps Go.Shelf
section
variable {P : Program} {ops : Array Oper} {Q : Exit → Act → World → Prop} {md : Region.Mode}
end
end
section
open Go Go.RowKit
end
section
open Go Go.RowKit Go.Shelf
end
section
open Go Go.RowKit
end
section
open Go Go.RowKit Go.Shelf
attribute [local go_sem] Oper.semAt_some
end
section
open Go Go.RowKit
end
section
open Go Go.RowKit Go.Extern
theorem is_nil (a : Addr) (w : World) :
  Calls Tryz.prog 100 #[.nilIface, .iface 465 (.pointer (some a))] w fun e w' => e = .returned (.bool false) ∧ w' = w := by
 have heq := run_eql_iface_nil_left (P := Tryz.prog) w 465 (.pointer (some a)) Tryz.underlying126
 go_enter Tryz.func100, Tryz.ntmps100
 go_wp2
 go_ret; exact ⟨rfl, rfl⟩
theorem as_nilE (v : Value) (w : World) :
  Calls Tryz.prog 101 #[.nilIface, v] w fun e w' => e = .returned (.bool false) ∧ w' = w := by
 go_enter Tryz.func101, Tryz.ntmps101
 go_wp2
 go_ret; exact ⟨rfl, rfl⟩
end
section
open Go Go.RowKit
abbrev erV (a : Addr) : Value := .iface 465 (.pointer (some a))
abbrev etG (w : World) : Prop := w.cell? ⟨4, 0, none⟩ = some (.iface 297 (.agg #[.pointer (some ⟨11, 126, none⟩)]))
theorem etG.below {w w' : World} (h : etG w) (hb : Below w.heap.size w w') : etG w' := (hb.cell (World.block_lt_of_cell? _ _ h)).trans h
abbrev wr3 (w : World) (T : Nat) (a b c : Value) : World := ((w.setCell ⟨T, 0, none⟩ a).setCell ⟨T, 1, none⟩ b).setCell ⟨T, 2, none⟩ c
theorem wr3_ne {w : World} {T : Nat} {x y z : Value} {a : Addr} (h : a.block ≠ T) : (wr3 w T x y z).cell? a = w.cell? a := by
 have q : ∀ (W : World) (i : Nat) (v : Value), (W.setCell ⟨T, i, none⟩ v).cell? a = W.cell? a := fun W i v => World.cell?_setCell_far W ⟨T, i, none⟩ a v (Ne.symm h)
 exact (q _ _ _).trans ((q _ _ _).trans (q _ _ _))
theorem wr3_below {B T : Nat} {w0 w : World} {x y z : Value} (hb : Below B w0 w) (h : B ≤ T) : Below B w0 (wr3 w T x y z) := by
 refine ⟨hb.os, hb.tape, hb.output, by simpa [wr3] using hb.size, fun k hk => ?_⟩
 have q : ∀ (W : World) (i : Nat) (v : Value), (W.setCell ⟨T, i, none⟩ v).heap[k]? = W.heap[k]? := fun W i v => heap_setCell_other W ⟨T, i, none⟩ k v (fun e => by simp at e; omega)
 exact (q _ _ _).trans ((q _ _ _).trans ((q _ _ _).trans (hb.block k hk)))
theorem wr3_box {w : World} {T : Nat} {u0 u1 u2 : Value} (h : Box3 w T u0 u1 u2) (v0 v1 v2 : Value) : Box3 (wr3 w T v0 v1 v2) T v0 v1 v2 := by
 obtain ⟨h0, h1, h2, h3⟩ := h; refine ⟨?_, ?_, ?_, fun j => by simpa [wr3] using h3 j⟩
 ·rw [World.cell?_setCell_other _ _ _ _ (by simp), World.cell?_setCell_other _ _ _ _ (by simp), World.cell?_setCell_same' _ _ _ (by rw [h0]; rfl)]
 ·rw [World.cell?_setCell_other _ _ _ _ (by simp), World.cell?_setCell_same' _ _ _ (by rw [World.cell?_setCell_other _ _ _ _ (by simp), h1]; rfl)]
 ·rw [World.cell?_setCell_same' _ _ _ (by rw [World.cell?_setCell_other _ _ _ _ (by simp), World.cell?_setCell_other _ _ _ _ (by simp), h2]; rfl)]
def PairE (w : World) (v0 v1 : Value) (e : Ending) (w' : World) : Prop := ∃ g, e = .returned (.tuple #[.agg #[.slice (some ⟨g, 0, none⟩) 1 1, .nilIface, .slice none 0 0], .nilIface]) ∧ w.heap.size ≤ g ∧ w'.cell? ⟨g, 0, none⟩ = some v0 ∧ w'.cell? ⟨g, 1, none⟩ = some v1 ∧ Below w.heap.size w w'
theorem unifying_ok (ta tb : TypeId) (a b : Value) (w : World) : Calls Tryz.prog 130 #[.iface ta a, .iface tb b, .nilIface] w (PairE w (.iface ta a) (.iface tb b)) := by
 go_enter Tryz.func130, Tryz.ntmps130
 go_wp2_with fail
 obtain ⟨w1, e1⟩ : ∃ w1, w1 = w.alloc (Obj.cells #[Value.slice (some ⟨w.heap.size + 1, 0, none⟩) 1 1, Value.nilIface, Value.slice none 0 0] 88) := ⟨_, rfl⟩
 have hs : w1.heap.size = w.heap.size + 1 := by rw [e1]; simp
 have hb1 : Below w.heap.size w w1 := by rw [e1]; exact (Below.refl _ _).alloc (Nat.le_refl _) _
 have hn := heap_alloc_new w1 (Obj.cells #[Value.iface ta a, Value.iface tb b] 135); rw [hs] at hn; rw [← e1]
 have q : ∀ k v, (#[Value.slice (some ⟨w.heap.size + 1, 0, none⟩) 1 1, Value.nilIface, Value.slice none 0 0] : Array Value)[k]? = some v → (w1.alloc (Obj.cells #[Value.iface ta a, Value.iface tb b] 135)).cell? ⟨w.heap.size, k, none⟩ = some v := fun k v hv => by
  rw [World.cell?_alloc_lt _ _ ⟨w.heap.size, k, none⟩ (by show w.heap.size < _; omega), e1, World.cell?, heap_alloc_new]
  simpa using hv
 have d0 := q 0 _ rfl; have d1 := q 1 _ rfl; have d2 := q 2 _ rfl; refine bodyPost_ret (v := .tuple #[.agg #[.slice (some ⟨w.heap.size + 1, 0, none⟩) 1 1, .nilIface, .slice none 0 0], .nilIface]) (by simp [results, Tryz.results130, go_sem, d0, d1, d2]) rfl ⟨w.heap.size + 1, rfl, Nat.le_succ _, ?_, ?_, ?_⟩
 ·exact cell_of_row _ _ 0 _ _ _ hn
 ·exact cell_of_row _ _ 1 _ _ _ hn
 ·exact hb1.alloc hb1.size _
structure Two (w : World) (g : Nat) (v0 v1 : Value) : Prop where
 at0 : w.cell? ⟨g, 0, none⟩ = some v0
 at1 : w.cell? ⟨g, 1, none⟩ = some v1
theorem Two.below {w w' : World} {g : Nat} {v0 v1 : Value} (h : Two w g v0 v1) (hb : Below w.heap.size w w') : Two w' g v0 v1 :=
 ⟨(hb.cell (World.block_lt_of_cell? _ _ h.at0)).trans h.at0, (hb.cell (World.block_lt_of_cell? _ _ h.at1)).trans h.at1⟩
abbrev calV (op : Option Addr) (on oc : Nat) (g cap : Nat) (fr : Int) : Value := .agg #[.slice op on oc, .slice (some ⟨g, 0, none⟩) 2 cap, .int .i64 fr]
theorem great1_no (k n : Int) (tp : Option Addr) (tn tc : Nat) (w : World) (h : tn ≤ 100) :
  Calls Tryz.prog 233 #[.agg #[.int .i64 k, .int .i64 n, .slice tp tn tc]] w fun e w' => e = .returned (.bool false) ∧ Below w.heap.size w w' := by
 have hb : Hid (Below w.heap.size w (w.alloc (.cells #[.int .i64 k, .int .i64 n, .slice tp tn tc] 55))) := (Below.refl _ _).alloc (Nat.le_refl _) _; have hd : decide ((100 : Int) < (tn : Int)) = false := decide_eq_false (by omega)
 go_enter Tryz.func233, Tryz.ntmps233
 go_wp2_with fail; go_ret; exact ⟨rfl, hb.out⟩
set_option maxHeartbeats 1000000 in
theorem indexC_no (p : Option Addr) (n cap : Nat) (cs : List Cel) (w : World) (en : n = cs.length) (hl : n ≤ 2000) (ht : ∀ i, i < cs.length → (cs.getD i Cel.none).2.2.length ≤ 100) (hc : CIn w p cs) :
  Calls Tryz.prog 295 #[.slice p n cap, .func (.func 233) #[] #[]] w fun e w' => e = .returned (.int .i64 (-1)) ∧ Below w.heap.size w w' := by
 have HC : Hid (CIn w p cs) := hc; have HT : Hid (∀ i, i < cs.length → (cs.getD i Cel.none).2.2.length ≤ 100) := ht; have EN : Hid (n = cs.length) := en; clear hc ht en
 go_enter Tryz.func295, Tryz.ntmps295
 go_wp2_with fail
 go_loopw [8] (fun i wr => ∃ (j : Nat), j ≤ n ∧ i = .int .i64 j ∧ Hid (Below w.heap.size w wr)) (fun i _ => n - (intOf i).toNat)
 case atStart => exact ⟨0, Nat.zero_le _, rfl, Below.refl _ _⟩
 case round =>
  obtain ⟨j, hj, rfl, HB⟩ := hrel
  by_cases hlt : j < n
  ·have hjD : j < cs.length := by have := EN.out; omega
   obtain ⟨b, o, rfl, hcd⟩ := HC.out.below HB.out (by omega); obtain ⟨q, qc, x0, x1, x2, x3⟩ := hcd j hjD; have hx := HT.out j hjD
   obtain ⟨⟨k0, n0, s0⟩, ec⟩ : ∃ c0, c0 = cs.getD j Cel.none := ⟨_, rfl⟩
   rw [← ec] at x0 x1 x2 hx
   obtain ⟨l, el⟩ : ∃ l, l = s0.length := ⟨_, rfl⟩
   have HG := great1_no k0 n0 q l qc wr (by rw [el]; exact hx)
   replace x2 : wr.cell? ⟨b, o + j * 3 + 2, none⟩ = some (.slice q l qc) := by rw [el]; exact x2
   replace x0 : wr.cell? ⟨b, o + j * 3, none⟩ = some (.int .i64 k0) := x0
   replace x1 : wr.cell? ⟨b, o + j * 3 + 1, none⟩ = some (.int .i64 n0) := x1
   clear x3 hcd hx ec el; go_wp2_with fail; refine HG.mono ?_; rintro e w1 ⟨rfl, hb⟩; have HB1 : Hid (Below w.heap.size w w1) := Below.on HB.out hb; clear hb HG x0 x1 x2; go_wp2_with fail; go_roundw
   case rel => exact ⟨j + 1, by omega, by go_num, HB1⟩
   case measure => simp [intOf]; omega
  ·obtain rfl : j = n := by omega
   go_wp2_with fail; go_ret; exact ⟨rfl, HB.out⟩
theorem containsC_no (p : Option Addr) (n cap : Nat) (cs : List Cel) (w : World) (en : n = cs.length) (hl : n ≤ 2000) (ht : ∀ i, i < cs.length → (cs.getD i Cel.none).2.2.length ≤ 100) (hc : CIn w p cs) :
  Calls Tryz.prog 232 #[.slice p n cap, .func (.func 233) #[] #[]] w fun e w' => e = .returned (.bool false) ∧ Below w.heap.size w w' := by
 have HI := indexC_no p n cap cs w en hl ht hc; clear en ht hc
 go_enter Tryz.func232, Tryz.ntmps232
 go_wp2_with fail; refine HI.mono ?_; rintro e w1 ⟨rfl, hb⟩; have HB : Hid (Below w.heap.size w w1) := hb; clear hb HI; go_wp2_with fail; go_ret; exact ⟨rfl, HB.out⟩
theorem great_no (p : Option Addr) (n cap : Nat) (cs : List Cel) (w : World) (en : n = cs.length) (hl : n ≤ 2000) (ht : ∀ i, i < cs.length → (cs.getD i Cel.none).2.2.length ≤ 100) (hc : CIn w p cs) :
  Calls Tryz.prog 179 #[.slice p n cap] w fun e w' => e = .returned (.bool false) ∧ Below w.heap.size w w' := by
 have HI := containsC_no p n cap cs w en hl ht hc; have hd : decide ((2000 : Int) < (n : Int)) = false := decide_eq_false (by omega); clear en ht hc
 go_enter Tryz.func179, Tryz.ntmps179
 go_wp2_with fail; refine HI.mono ?_; rintro e w1 ⟨rfl, hb⟩; have HB : Hid (Below w.heap.size w w1) := hb; clear hb HI; go_wp2_with fail; go_ret; exact ⟨rfl, HB.out⟩
theorem beyond1_no (c : Cel) (k : Fo) (v : Value) (Bt : Nat) (w : World) (hok : (Fo.node c k .nil).ok) (hfo : FoIn w Bt (.node c k .nil) [v]) (hl : k.cells.length + 1 ≤ 2000) (ht : ∀ x ∈ c :: k.cells, x.2.2.length ≤ 100) :
  Calls Tryz.prog 178 #[v] w fun e w' => e = .returned (.bool false) ∧ Below w.heap.size w w' := by
 have HCO := cellsOf_any c k v Bt w hok hfo (by omega)
 have HT : Hid (∀ i, i < (c :: k.cells).length → ((c :: k.cells).getD i Cel.none).2.2.length ≤ 100) := fun i hi => by
  rw [List.getD, List.getElem?_eq_getElem hi]; exact ht _ (List.getElem_mem hi)
 have HL : Hid ((c :: k.cells).length ≤ 2000) := by show _ ≤ _; simpa using hl
 obtain ⟨vt, vx, rfl⟩ := hfo.iface; clear hok hfo hl ht
 go_enter Tryz.func178, Tryz.ntmps178
 go_wp2_with fail; refine HCO.mono ?_; rintro e w1 ⟨q, m, cp, rfl, ho, hb⟩; have HB : Hid (Below w.heap.size w w1) := hb; have HG := great_no q m cp (c :: k.cells) w1 ho.1 (by rw [ho.1]; exact HL.out) HT.out ho.cin; clear ho hb HCO; go_wp2_with fail; refine HG.mono ?_; rintro e w2 ⟨rfl, hb2⟩; have HB2 : Hid (Below w.heap.size w w2) := Below.on HB.out hb2; clear hb2 HG; go_wp2_with fail; go_ret; exact ⟨rfl, HB2.out⟩
def SmallT (w : World) (p : Option Addr) (n : Nat) : Prop := ∀ i, i < n → ∃ g t x, p = some ⟨g, 0, none⟩ ∧ w.cell? ⟨g, i, none⟩ = some (.iface t x) ∧ ∀ W, Below w.heap.size w W → Calls Tryz.prog 178 #[.iface t x] W fun e w' => e = .returned (.bool false) ∧ Below W.heap.size W w'
set_option maxHeartbeats 1000000 in
theorem indexT_no (p : Option Addr) (n cap : Nat) (w : World) (hl : n ≤ 3) (hs : SmallT w p n) :
  Calls Tryz.prog 218 #[.slice p n cap, .func (.func 178) #[] #[]] w fun e w' => e = .returned (.int .i64 (-1)) ∧ Below w.heap.size w w' := by
 have HS : Hid (SmallT w p n) := hs; clear hs
 go_enter Tryz.func218, Tryz.ntmps218
 go_wp2_with fail
 go_loopw [8] (fun i wr => ∃ (j : Nat), j ≤ n ∧ i = .int .i64 j ∧ Hid (Below w.heap.size w wr)) (fun i _ => n - (intOf i).toNat)
 case atStart => exact ⟨0, Nat.zero_le _, rfl, Below.refl _ _⟩
 case round =>
  obtain ⟨j, hj, rfl, HB⟩ := hrel
  by_cases hlt : j < n
  ·obtain ⟨g, t, x, rfl, hc, hC⟩ := HS.out j hlt
   have HC := hC wr HB.out; have hc1 := (HB.out.cell (World.block_lt_of_cell? _ _ hc)).trans hc; clear hC hc; go_wp2_with fail; refine HC.mono ?_; rintro e w1 ⟨rfl, hb⟩; have HB1 : Hid (Below w.heap.size w w1) := Below.on HB.out hb; clear hb HC hc1; go_wp2_with fail; go_roundw
   case rel => exact ⟨j + 1, by omega, by go_num, HB1⟩
   case measure => simp [intOf]; omega
  ·obtain rfl : j = n := by omega
   go_wp2_with fail; go_ret; exact ⟨rfl, HB.out⟩
theorem containsT_no (p : Option Addr) (n cap : Nat) (w : World) (hl : n ≤ 3) (hs : SmallT w p n) :
  Calls Tryz.prog 157 #[.slice p n cap, .func (.func 178) #[] #[]] w fun e w' => e = .returned (.bool false) ∧ Below w.heap.size w w' := by
 have HI := indexT_no p n cap w hl hs; clear hs
 go_enter Tryz.func157, Tryz.ntmps157
 go_wp2_with fail; refine HI.mono ?_; rintro e w1 ⟨rfl, hb⟩; have HB : Hid (Below w.heap.size w w1) := hb; clear hb HI; go_wp2_with fail; go_ret; exact ⟨rfl, HB.out⟩
theorem beyond_no (ps fl ou : Value) (w : World) (HT : ∀ W, Below w.heap.size w W → Calls Tryz.prog 177 #[.agg #[ps, fl, ou]] W fun e w' => ∃ p n cap, e = .returned (.slice p n cap) ∧ n ≤ 3 ∧ SmallT w' p n ∧ Below W.heap.size W w') (h0 : ps.oneCell' = true) (h1 : fl.oneCell' = true) (h2 : ou.oneCell' = true) :
  Calls Tryz.prog 103 #[.agg #[ps, fl, ou]] w fun e w' => e = .returned (.bool false) ∧ Below w.heap.size w w' := by
 have hb : Below w.heap.size w (w.alloc (.cells #[ps, fl, ou] 88)) := (Below.refl _ _).alloc (Nat.le_refl _) _; have HX := HT _ hb; have HB : Hid (Below w.heap.size w (w.alloc (.cells #[ps, fl, ou] 88))) := hb; clear hb HT
 go_enter Tryz.func103, Tryz.ntmps103
 go_wp2_with fail; refine HX.mono ?_; rintro e w1 ⟨p, n, cap, rfl, hn, hs, hb1⟩; have HB1 : Hid (Below w.heap.size w w1) := Below.on HB.out hb1; have HC := containsT_no p n cap w1 hn hs; clear hs hb1 HX; go_wp2_with fail; refine HC.mono ?_; rintro e w2 ⟨rfl, hb2⟩; have HB2 : Hid (Below w.heap.size w w2) := Below.on HB1.out hb2; clear hb2 HC; go_wp2_with fail; go_ret; exact ⟨rfl, HB2.out⟩
theorem app_tmN (w : World) {ops : Array Oper} {rest : List Oper} {o : Oper} {a : Act} {Q : Exit → Act → World → Prop} (hgd : o.guard = none) (s x : Operand)
  (ho : o.op = .call { callee := .builtin .append, args := #[s, x], argTypes := #[83, 83] }) (ys : List Value) (b m cb : Nat)
  (hs : a.eval s = .slice none 0 0) (hx : a.eval x = .slice (some ⟨b, 0, none⟩) m cb) (hm : m = ys.length) (hy : ∀ u ∈ ys, ∃ t v, u = .iface t v) (hc : ∀ j, j < m → w.cell? ⟨b, j, none⟩ = some (ys.getD j .nilIface)) (h0 : 0 < m) (hlen : m ≤ 1000)
  (h : ∀ g n' cap w', Hid (n' = m ∧ ∀ j, j < m → w'.cell? ⟨g, j, none⟩ = some (ys.getD j .nilIface)) → Below w.heap.size w w' → wpList Tryz.prog ops Q rest (a.put o.dst (.slice (some ⟨g, 0, none⟩) n' cap)) w') : wpList Tryz.prog ops Q (o :: rest) a w := by
 obtain ⟨i0, hi, hz0, hz1, hz2⟩ := info_parts infoTerm
 have hown : w.ownsRow w.heap.size 58 1 (.slice none 0 0) 0 [] := ⟨rfl, .inl ⟨rfl, rfl⟩⟩
 refine wpList_append_lies _ hgd s x 83 ho w.heap.size 58 i0 .nilIface 1 16 Tryz.underlying83 hi hz0 hz1 hz2 rfl (by decide) (.slice none 0 0) 0 [] hs hown ⟨b, 0, none⟩ m cb ys hx (by omega) (fun j u hj => ?_) (fun u hu => ?_) h0 (by unfold maxLen; omega) (by omega) (Nat.le_refl _) _ rfl ?_
 ·have hl := (List.getElem?_eq_some_iff.1 hj).1
  rw [show (⟨b, 0, none⟩ : Addr).add j = ⟨b, j, none⟩ from by simp [Addr.add]; omega, hc j (by omega)]; rw [List.getD, hj]
  rfl
 ·obtain ⟨t, v, rfl⟩ := hy u hu
  rfl
 ·intro g cap w' hown' hgrow hat hlt
  refine h g _ cap w' ⟨by simp, fun j hj => ?_⟩ ((Below.refl _ _).grown hgrow (Nat.le_refl _) (fun k hk => (hown.lt k hk).1)); rw [hown'.cellAt j (by omega)]
  simp [List.getD, List.getElem?_eq_getElem (show j < ys.length by omega)]
set_option maxHeartbeats 1000000 in
theorem terms_pair (g0 : Nat) (ta tb : TypeId) (a b : Value) (w : World) (h0 : w.cell? ⟨g0, 0, none⟩ = some (.iface ta a)) (h1 : w.cell? ⟨g0, 1, none⟩ = some (.iface tb b)) : Calls Tryz.prog 177 #[.agg #[.slice (some ⟨g0, 0, none⟩) 1 1, .nilIface, .slice none 0 0]] w fun e w' => ∃ g cap, e = .returned (.slice (some ⟨g, 0, none⟩) 2 cap) ∧ w'.cell? ⟨g, 0, none⟩ = some (.iface ta a) ∧ w'.cell? ⟨g, 1, none⟩ = some (.iface tb b) ∧ Below w.heap.size w w' := by
 have hb1 : Below w.heap.size w (w.alloc (.cells #[.slice (some ⟨g0, 0, none⟩) 1 1, .nilIface, .slice none 0 0] 88)) := (Below.refl _ _).alloc (Nat.le_refl _) _; have p0 := (hb1.cell (World.block_lt_of_cell? _ _ h0)).trans h0; have p1 := (hb1.cell (World.block_lt_of_cell? _ _ h1)).trans h1
 obtain ⟨w1, e1⟩ : ∃ w1, w1 = w.alloc (.cells #[.slice (some ⟨g0, 0, none⟩) 1 1, .nilIface, .slice none 0 0] 88) := ⟨_, rfl⟩
 obtain ⟨w2, e2⟩ : ∃ w2, w2 = w1.alloc (.cells #[.iface ta a, .iface tb b] 135) := ⟨_, rfl⟩
 have hs1 : w1.heap.size = w.heap.size + 1 := by rw [e1]; simp
 have hb2 : Below w1.heap.size w1 w2 := by rw [e2]; exact (Below.refl _ _).alloc (Nat.le_refl _) _
 have hn : w2.heap[w.heap.size + 1]? = some (.cells #[.iface ta a, .iface tb b] 135) := by rw [e2, ← hs1]; exact heap_alloc_new _ _
 have HJ : Hid (∀ j, j < 2 → w2.cell? ⟨w.heap.size + 1, j, none⟩ = some ([Value.iface ta a, Value.iface tb b].getD j .nilIface)) := fun j hj => by
  rcases (by omega : j = 0 ∨ j = 1) with rfl | rfl
  ·exact cell_of_row _ _ 0 _ _ _ hn
  ·exact cell_of_row _ _ 1 _ _ _ hn
 have hf : w2.cell? ⟨w.heap.size, 1, none⟩ = some .nilIface := by
  rw [hb2.cell (p := ⟨w.heap.size, 1, none⟩) (by show w.heap.size < _; omega), e1, World.cell?, heap_alloc_new]; rfl
 have HF : Hid (w2.cell? ⟨w.heap.size, 1, none⟩ = some .nilIface) := hf; rw [← e1] at hb1; have HB2 : Hid (Below w.heap.size w w2) := Below.on hb1 hb2
 have HY : Hid (∀ u ∈ [Value.iface ta a, Value.iface tb b], ∃ t v, u = .iface t v) := fun u hu => by
  simp at hu
  rcases hu with rfl | rfl
  ·exact ⟨_, _, rfl⟩
  ·exact ⟨_, _, rfl⟩
 rw [e1] at e2; clear h0 h1 hb1 hb2 e1 hs1 hn hf
 go_enter Tryz.func177, Tryz.ntmps177
 go_wp2_with fail; refine wp_loop_rounds 2 ?_; rw [rounds_succ]; go_wp2_with (at_builtin; rw [← e2]; clear e2 p0 p1; refine app_tmN w2 rfl _ _ rfl [.iface ta a, .iface tb b] (w.heap.size + 1) 2 2 rfl rfl rfl HY.out HJ.out (by decide) (by decide) ?_; intro g n' cap w' hH hb'); obtain ⟨rfl, hcc⟩ := hH.out
 have FIN : Hid (w'.cell? ⟨g, 0, none⟩ = some (.iface ta a) ∧ w'.cell? ⟨g, 1, none⟩ = some (.iface tb b) ∧ Below w.heap.size w w') := ⟨hcc 0 (by decide), hcc 1 (by decide), Below.on HB2.out hb'⟩
 have f1 := (hb'.cell (World.block_lt_of_cell? _ _ HF.out)).trans HF.out; clear hH hcc hb'; go_wp2_with fail; rw [rounds_succ]; go_wp2_with fail; go_ret; exact ⟨g, cap, rfl, FIN.out⟩
end
section
open Go Go.RowKit
theorem BuIn.getE {w : World} {b N : Nat} {T : Fun → Option Nat} (h : BuIn w b N T) (f : Fun) (hf : okN f) {K : Nat} (hK : T f = some K) :
  (Instr.lookup 75 (.map (some b)) (.agg #[.string f.1, .int .i64 f.2]) false).run Tryz.prog w = .ok (.func (.func K) #[] #[]) w := by
 obtain ⟨D, hown, hT⟩ := h; obtain ⟨v, ps, hrun, hv⟩ := hown.lookup lawFun Tryz.underlying75 (zeroBu w) (zd := .held .nilFunc) (zp := []) rfl (keyFunN f hf); have h1 := hT f hf; simp only [heldN, Option.some.injEq, Prod.mk.injEq] at hv; have hv := hv.1; rw [hK] at h1; rw [h1.2] at hv; rw [hrun]
 cases hv
 rfl
theorem hStepS {P : Program} {ops : Array Oper} {Q : Exit → Act → World → Prop} {md : Region.Mode} {S : World → Prop} {i : Nat} {fuel : Nat} {listed : Array Bool} {a : Act} {w w' : World} (d : Option Tmp) (hd : (ops[i]?).map (·.dst) = some d)
  (hr : Region.ready md ops listed = [i]) (hw : (ops[i]?).map (fun o => Region.wanted o (yielded ops a.tmps)) = some true)
  (hrun : ∀ o, ops[i]? = some o → (execOp a.eval o).run P w = .ok .skip w') (hS : S w') (h : wpAnyH P md ops Q S fuel (listed.setIfInBounds i true) (a.put d undef) w') : wpAnyH P md ops Q S (fuel + 1) listed a w := by
 refine wpAnyH_all hr (by simp) ?_
 intro j hj
 obtain rfl : j = i := by simpa using hj
 cases hi : ops[j]? with
 | none => simp [hi] at hd
 | some o =>
   have hd' : o.dst = d := by simpa [hi] using hd
   have hw' : Region.wanted o (yielded ops a.tmps) = true := by simpa [hi] using hw
   subst hd'
   unfold wpOp
   simp only [hi, hw', if_true, Oper.wp, hrun o hi, Oper.upon]; exact .inl ⟨hS, h⟩
theorem wr3_heap {w : World} {T k : Nat} {x y z : Value} (h : k ≠ T) : (wr3 w T x y z).heap[k]? = w.heap[k]? := by
 have q : ∀ (W : World) (i : Nat) (v : Value), (W.setCell ⟨T, i, none⟩ v).heap[k]? = W.heap[k]? := fun W i v => heap_setCell_other W ⟨T, i, none⟩ k v (fun e => by simp at e; omega)
 exact (q _ _ _).trans ((q _ _ _).trans (q _ _ _))
def KeepF (lo : Nat) (w' V : World) : Prop := w'.heap.size ≤ V.heap.size ∧ ∀ k, lo ≤ k → k < w'.heap.size → V.heap[k]? = w'.heap[k]?
abbrev efV3 (p : Option Addr) (n c : Nat) : Value := .agg #[.slice p n c, .nilIface, .slice none 0 0]
set_option maxHeartbeats 4000000 in
theorem run_holds (K b N : Nat) (nm : ByteArray) (ar : Int) (T : Fun → Option Nat) (c0 c1 c2 : Value) (a a2 : Addr) (X : Option Addr → Nat → Nat → World → Prop) (w : World) (hb : BuIn w b N T) (hk : okN (nm, ar)) (hT : T (nm, ar) = some K) (h0 : c0.oneCell' = true) (h1 : c1.oneCell' = true) (h2 : c2.oneCell' = true)
  (hg : w.cell? ⟨1, 0, none⟩ = some (erV a)) (hg2 : w.cell? ⟨2, 0, none⟩ = some (erV a2)) (HY : ∀ p n c V, X p n c V → Calls Tryz.prog 103 #[efV3 p n c] V fun e w' => e = .returned (.bool false) ∧ Below V.heap.size V w') (hE : ∀ W : World, (callFunc K #[.agg #[c0, c1, c2]]).run Tryz.prog W = .ok (.enter K #[.agg #[c0, c1, c2]]) W)
  (HF : ∀ W, Below w.heap.size w W → Calls Tryz.prog K #[.agg #[c0, c1, c2]] W fun e w' => ∃ p n c, e = .returned (.tuple #[efV3 p n c, .nilIface]) ∧ Below W.heap.size W w' ∧ ∀ V, KeepF W.heap.size w' V → X p n c V) :
  Calls Tryz.prog 34 #[.map (some b), .agg #[.string nm, .int .i64 ar], .agg #[c0, c1, c2]] w fun e w' => ∃ p n c, e = .returned (.tuple #[efV3 p n c, .int .i64 0]) ∧ Below w.heap.size w w' ∧ X p n c w' := by
 have HL : Hid (∀ W, Below w.heap.size w W → (Instr.lookup 75 (.map (some b)) (.agg #[.string nm, .int .i64 ar]) false).run Tryz.prog W = .ok (.func (.func K) #[] #[]) W) := fun W hW => (hb.below hW).getE (nm, ar) hk hT
 obtain ⟨w1, e1⟩ : ∃ w1, w1 = w.alloc (.cells #[.string nm, .int .i64 ar] 78) := ⟨_, rfl⟩
 obtain ⟨w2, e2⟩ : ∃ w2, w2 = w1.alloc (.cells #[c0, c1, c2] 85) := ⟨_, rfl⟩
 obtain ⟨w3, e3⟩ : ∃ w3, w3 = w2.alloc (.cells #[.slice none 0 0, .nilIface, .slice none 0 0] 88) := ⟨_, rfl⟩
 have hs1 : w1.heap.size = w.heap.size + 1 := by rw [e1]; simp
 have hs2 : w2.heap.size = w.heap.size + 1 + 1 := by rw [e2, ← hs1]; simp
 have hb1 : Below w.heap.size w w1 := by rw [e1]; exact (Below.refl _ _).alloc (Nat.le_refl _) _
 have hb2 : Below w1.heap.size w1 w2 := by rw [e2]; exact (Below.refl _ _).alloc (Nat.le_refl _) _
 have hb3 : Below w2.heap.size w2 w3 := by rw [e3]; exact (Below.refl _ _).alloc (Nat.le_refl _) _
 have hB3 : Below w.heap.size w w3 := Below.on hb1 (Below.on hb2 hb3)
 have k1 : w3.heap[w.heap.size]? = some (.cells #[.string nm, .int .i64 ar] 78) := by rw [hb3.block _ (by omega), hb2.block _ (by omega), e1]; exact heap_alloc_new _ _
 have k2 : w3.heap[w.heap.size + 1]? = some (.cells #[c0, c1, c2] 85) := by rw [hb3.block _ (by omega), e2, ← hs1]; exact heap_alloc_new _ _
 have k3 : w3.heap[w.heap.size + 1 + 1]? = some (.cells #[.slice none 0 0, .nilIface, .slice none 0 0] 88) := by rw [e3, ← hs2]; exact heap_alloc_new _ _
 have HS : Hid (∀ W, Below w3.heap.size w3 W → W.cell? ⟨w.heap.size, 0, none⟩ = some (.string nm) ∧ W.cell? ⟨w.heap.size, 1, none⟩ = some (.int .i64 ar) ∧ W.cell? ⟨w.heap.size + 1, 0, none⟩ = some c0 ∧ W.cell? ⟨w.heap.size + 1, 1, none⟩ = some c1 ∧ W.cell? ⟨w.heap.size + 1, 2, none⟩ = some c2 ∧ Below w3.heap.size w3 W) := fun W hW => by
  have q1 := (hW.block _ (Array.getElem?_eq_some_iff.1 k1).1).trans k1; have q2 := (hW.block _ (Array.getElem?_eq_some_iff.1 k2).1).trans k2; exact ⟨cell_of_row _ _ 0 _ _ _ q1, cell_of_row _ _ 1 _ _ _ q1, cell_of_row _ _ 0 _ _ _ q2, cell_of_row _ _ 1 _ _ _ q2, cell_of_row _ _ 2 _ _ _ q2, hW⟩
 have HC : Hid (∀ W, Below w3.heap.size w3 W → Calls Tryz.prog K #[.agg #[c0, c1, c2]] W fun e w' => ∃ p n c, e = .returned (.tuple #[efV3 p n c, .nilIface]) ∧ Below W.heap.size W w' ∧ ∀ V, KeepF W.heap.size w' V → X p n c V) := fun W hW => HF W (Below.on hB3 hW)
 have HL3 : Hid (∀ W, Below w3.heap.size w3 W → (Instr.lookup 75 (.map (some b)) (.agg #[.string nm, .int .i64 ar]) false).run Tryz.prog W = .ok (.func (.func K) #[] #[]) W) := fun W hW => HL.out W (Below.on hB3 hW)
 have HG : Hid (∀ W, Below w3.heap.size w3 W → W.cell? ⟨1, 0, none⟩ = some (erV a)) := fun W hW => ((Below.on hB3 hW).cell (World.block_lt_of_cell? _ _ hg)).trans hg
 have HG2 : Hid (∀ W, Below w3.heap.size w3 W → W.cell? ⟨2, 0, none⟩ = some (erV a2)) := fun W hW => ((Below.on hB3 hW).cell (World.block_lt_of_cell? _ _ hg2)).trans hg2
 have HS3 : Hid (w3.heap.size = w.heap.size + 1 + 1 + 1) := by show _ = _; rw [e3, ← hs2]; simp
 have HHY : Hid (∀ p n c V, X p n c V → Calls Tryz.prog 103 #[efV3 p n c] V fun e w' => e = .returned (.bool false) ∧ Below V.heap.size V w') := HY
 have HK3 : Hid (∀ W, Below w3.heap.size w3 W → W.heap[w.heap.size + 1 + 1]? = some (.cells #[.slice none 0 0, .nilIface, .slice none 0 0] 88)) := fun W hW => (hW.block _ (Array.getElem?_eq_some_iff.1 k3).1).trans k3
 have HB3 : Hid (Below w.heap.size w w3) := hB3; rw [e1] at e2; rw [e2] at e3; clear hg hg2 HY hB3 k3 hb hk hT e1 e2 hs1 hs2 hb1 hb2 hb3 k1 k2 HL HF
 go_enter Tryz.func34, Tryz.ntmps34
 go_wp2_with fail; rw [← e3]; clear e3; refine wp_region_held_drew (S := fun W => Below w3.heap.size w3 W) (by kernel_rfl) ?_ (fun hHeld => ?_)
 ·exact (Below.refl _ _).drew
 refine hTk (i := 0) (v := .map (some b)) (some 13) (fun o ho W hSw => ?y0) (by assumption) ?_
 case y0 => cases ho; simp [execOp, go_sem, Act.eval]
 simp only [Act.put, zzA, zzB, zzC]; refine hTk (i := 1) (v := .agg #[.string nm, .int .i64 ar]) (some 14) (fun o ho W hSw => ?y1) (by assumption) ?_
 case y1 => cases ho; obtain ⟨s0, s1, s2, s3, s4, s5⟩ := HS.out W hSw; simp [execOp, go_sem, Act.eval, s0, s1]
 simp only [Act.put, zzA, zzB, zzC]; refine hTk (i := 2) (v := .func (.func K) #[] #[]) (some 15) (fun o ho W hSw => ?y2) (by assumption) ?_
 case y2 =>
  cases ho
  have sL := HL3.out W hSw
  simp [execOp, go_sem, Act.eval, sL]
 simp only [Act.put, zzA, zzB, zzC]; refine hTk (i := 3) (v := .agg #[c0, c1, c2]) (some 16) (fun o ho W hSw => ?y3) (by assumption) ?_
 case y3 => cases ho; obtain ⟨s0, s1, s2, s3, s4, s5⟩ := HS.out W hSw; simp [execOp, go_sem, Act.eval, s2, s3, s4]
 simp only [Act.put, zzA, zzB, zzC]; refine hBoth (i := 4) (j := 8) (by kernel_rfl) ?zA ?zB
 case zA =>
  refine opCall (f := K) (args := #[.agg #[c0, c1, c2]]) (some 17) (by kernel_rfl) (by kernel_rfl) (fun o ho => ?cA) (HC.out _ (Below.refl _ _).drew) ?kA (fun ch w' h => by obtain ⟨_, _, _, h, _⟩ := h; cases h) (fun w' h => by obtain ⟨_, _, _, h, _⟩ := h; cases h)
  case cA => cases ho; simp [execOp, go_sem, Act.eval, hE]
  case kA =>
   rintro u w4 ⟨p, n1, c, hu, hb4, hX⟩; obtain rfl := Ending.returned.inj hu; have hB4 : Below w3.heap.size w3 w4 := (Below.refl _ _).drew.trans hb4; refine ⟨hB4, ?_⟩; simp only [Act.put, zzA, zzB, zzC]; refine hTk (i := 5) (v := .tuple #[efV3 p n1 c, .nilIface]) (some 12) (fun o ho W hSw => ?y20) (by assumption) ?_
   case y20 => cases ho; simp [execOp, go_sem, Act.eval]
   simp only [Act.put, zzA, zzB, zzC]; refine hTk (i := 6) (v := efV3 p n1 c) (some 18) (fun o ho W hSw => ?y21) (by assumption) ?_
   case y21 => cases ho; simp [execOp, go_sem, Act.eval]
   simp only [Act.put, zzA, zzB, zzC]; refine hTk (i := 7) (v := .nilIface) (some 19) (fun o ho W hSw => ?y22) (by assumption) ?_
   case y22 => cases ho; simp [execOp, go_sem, Act.eval]
   simp only [Act.put, zzA, zzB, zzC]; refine hStep (i := 8) (v := .pointer (some ⟨w4.heap.size, 0, none⟩)) (w' := w4.alloc (.cells #[.slice none 0 0, .nilIface, .slice none 0 0] 88)) (some 8) (by kernel_rfl) (by kernel_rfl) (by kernel_rfl) (fun o ho => ?y23) (hB4.alloc hB4.size _) ?_
   case y23 => cases ho; simp [execOp, go_sem, Act.eval]
   simp only [Act.put, zzA, zzB, zzC]
   obtain ⟨w5, e5⟩ : ∃ w5, w5 = w4.alloc (.cells #[.slice none 0 0, .nilIface, .slice none 0 0] 88) := ⟨_, rfl⟩
   have hB5 : Below w3.heap.size w3 w5 := by rw [e5]; exact hB4.alloc hB4.size _
   have HX : Box3 w5 w4.heap.size (.slice none 0 0) .nilIface (.slice none 0 0) := Box3.of_block (by rw [e5]; exact heap_alloc_new _ _)
   obtain ⟨T, eT⟩ : ∃ T, T = w4.heap.size := ⟨_, rfl⟩
   have hT : w3.heap.size ≤ T := by rw [eT]; exact hB4.size
   have HQ : Hid (∀ V, (∀ k, k ≠ T → k ≠ w.heap.size + 1 + 1 → k < w5.heap.size → V.heap[k]? = w5.heap[k]?) → w5.heap.size ≤ V.heap.size → X p n1 c V) := fun V h1 h2 => by
    have hs3 := HS3.out; refine hX V ⟨Nat.le_trans (by rw [e5]; simp) h2, fun k hk hl => ?_⟩; have hk' : w3.heap.size ≤ k := hk; rw [h1 k (by omega) (by omega) (by rw [e5]; simp; omega), e5, Go.heap_alloc_old _ _ hl]
   rw [← eT] at HX ⊢; rw [← e5]; clear hX eT e5; have hB6 : Below w3.heap.size w3 (wr3 w5 T (.slice p n1 c) .nilIface (.slice none 0 0)) := wr3_below hB5 hT; refine hStepS (i := 9) (w' := wr3 w5 T (.slice p n1 c) .nilIface (.slice none 0 0)) none (by kernel_rfl) (by kernel_rfl) (by kernel_rfl) (fun o ho => ?y9) hB6 ?_
   case y9 => cases ho; obtain ⟨b0, b1, b2, b3⟩ := HX; simp [execOp, go_sem, Act.eval, b0, b1, b2, b3]
   simp only [Act.put, zzA, zzB, zzC]; refine hTk (i := 10) (v := .nilIface) (some 9) (fun o ho W hSw => ?y24) (by assumption) ?_
   case y24 => cases ho; simp [execOp, go_sem, Act.eval]
   simp only [Act.put, zzA, zzB, zzC]; refine wpAnyH_done (by kernel_rfl) ?_ _
   change Exit.then _ _ _ _ (wr3 w5 T (.slice p n1 c) .nilIface (.slice none 0 0))
   obtain ⟨w6, e6⟩ : ∃ w6, w6 = wr3 w5 T (.slice p n1 c) .nilIface (.slice none 0 0) := ⟨_, rfl⟩
   rw [← e6] at hB6; rw [← e6]; have hB7 : Below w3.heap.size w3 (w6.alloc (.cells #[.nilIface] 129)) := hB6.alloc hB6.size _; have g7 := HG.out _ hB7; have hlT : T < w5.heap.size := World.block_lt_of_cell? _ _ HX.1
   have hs6 : w6.heap.size = w5.heap.size := by rw [e6]; simp
   have HBX : Box3 w6 T (.slice p n1 c) .nilIface (.slice none 0 0) := by rw [e6]; exact wr3_box HX _ _ _
   have hb67 : Below w6.heap.size w6 (w6.alloc (.cells #[.nilIface] 129)) := (Below.refl _ _).alloc (Nat.le_refl _) _
   obtain ⟨w7, e7⟩ : ∃ w7, w7 = w6.alloc (.cells #[.nilIface] 129) := ⟨_, rfl⟩
   rw [← e7] at hB7 hb67
   have HV : Hid (∀ V, (∀ k, k ≠ w.heap.size + 1 + 1 → k < w7.heap.size → V.heap[k]? = w7.heap[k]?) → w7.heap.size ≤ V.heap.size → X p n1 c V) := fun V h1 h2 => by
    have hs7 := hb67.size; refine HQ.out V (fun k a1 a3 a4 => ?_) (by omega); rw [h1 k a3 (by omega), hb67.block k (by omega), e6, wr3_heap a1]
   have hX7 : X p n1 c w7 := HV.out w7 (fun _ _ _ => rfl) (Nat.le_refl _); have HYC := HHY.out p n1 c w7 hX7; have g8 := HG2.out _ hB7; have HB7 : Hid (Below w3.heap.size w3 w7) := hB7; have HZ7 := HBX.below hb67 (by omega)
   have HZ : Hid (∀ W, Below w7.heap.size w7 W → Box3 W T (.slice p n1 c) .nilIface (.slice none 0 0)) := fun W hW => HZ7.below hW (by have := hb67.size; omega)
   obtain ⟨z0, z1, z2, z3⟩ := HZ7; clear hB6 hB7 hB5 hT HX e6 HQ hlT hs6 HBX hb67 hX7; go_wp2_with fail; rw [← e7] at *; clear e7 g7; refine (is_nil a w7).mono ?_; rintro e w8 ⟨rfl, h8⟩; rw [h8]; clear h8; go_wp2_with fail; refine (as_nilE _ w7).mono ?_; rintro e w8 ⟨rfl, h8⟩; rw [h8]; clear h8; go_wp2_with fail; refine (is_nil a2 w7).mono ?_; rintro e w8 ⟨rfl, h8⟩; rw [h8]; clear h8; go_wp2_with fail; refine HYC.mono ?_; rintro e w9 ⟨rfl, hb9⟩; have hB9 : Below w3.heap.size w3 w9 := Below.on HB7.out hb9; have HX9 := Box3.of_block (HK3.out _ hB9); have HP : Hid _ := wr3_box HX9 (.slice p n1 c) .nilIface (.slice none 0 0)
   have FIN : Hid (Below w.heap.size w (wr3 w9 (w.heap.size + 1 + 1) (.slice p n1 c) .nilIface (.slice none 0 0)) ∧ X p n1 c (wr3 w9 (w.heap.size + 1 + 1) (.slice p n1 c) .nilIface (.slice none 0 0))) :=
    ⟨wr3_below (Below.on HB3.out hB9) (by omega), HV.out _ (fun k h1 h2 => (wr3_heap h1).trans (hb9.block k h2)) (by simpa using hb9.size)⟩
   obtain ⟨b0, b1, b2, b3⟩ := HX9; obtain ⟨y0, y1, y2, y3⟩ := HZ.out w9 hb9; clear z0 z1 z2 z3 g8 hb9 hB9 HYC
   go_wp2
   obtain ⟨d0, d1, d2, _⟩ := HP.out; exact bodyPost_ret (v := .tuple #[efV3 p n1 c, .int .i64 0]) (by simp [results, Tryz.results34, go_sem, d0, d1, d2]) rfl ⟨p, n1, c, rfl, FIN.out⟩
 case zB =>
  obtain ⟨w4, e4⟩ : ∃ w4, w4 = w3.drew.alloc (.cells #[.slice none 0 0, .nilIface, .slice none 0 0] 88) := ⟨_, rfl⟩
  have hB4 : Below w3.heap.size w3 w4 := by rw [e4]; exact ((Below.refl _ _).drew).alloc (Nat.le_refl _) _
  have HX4 : Box3 w4 w3.heap.size (.slice none 0 0) .nilIface (.slice none 0 0) := Box3.of_block (by rw [e4]; exact heap_alloc_new _ _)
  have hl4 : w3.heap.size < w4.heap.size := by rw [e4]; simp
  refine opStep (v := .pointer (some ⟨w3.heap.size, 0, none⟩)) (w' := w4) (some 8) (by kernel_rfl) (by kernel_rfl) (fun o ho => ?y8) ⟨hB4, ?_⟩
  case y8 =>
   cases ho
   rw [e4]
   simp [execOp, go_sem, Act.eval]
  simp only [Act.put, zzA, zzB, zzC]; refine hCallE (i := 4) (f := K) (args := #[.agg #[c0, c1, c2]]) (some 17) (by kernel_rfl) (by kernel_rfl) (by kernel_rfl) (fun o ho => ?c60) (HC.out w4 hB4) ?k60 (fun ch w' h => by obtain ⟨_, _, _, h, _⟩ := h; cases h) (fun w' h => by obtain ⟨_, _, _, h, _⟩ := h; cases h)
  case c60 => cases ho; simp [execOp, go_sem, Act.eval, hE]
  case k60 =>
   rintro u w5 ⟨p, n1, c, hu, hb5, hX⟩; obtain rfl := Ending.returned.inj hu; have hB5 : Below w3.heap.size w3 w5 := Below.on hB4 hb5; have HX := HX4.below hb5 hl4; have hT : w3.heap.size ≤ w3.heap.size := Nat.le_refl _
   have HQ : Hid (∀ V, (∀ k, k ≠ w3.heap.size → k ≠ w.heap.size + 1 + 1 → k < w5.heap.size → V.heap[k]? = w5.heap[k]?) → w5.heap.size ≤ V.heap.size → X p n1 c V) := fun V h1 h2 => by
    have hs3 := HS3.out; exact hX V ⟨h2, fun k hk hl => h1 k (by omega) (by omega) hl⟩
   clear hb5 hB4 HX4 hl4 e4 hX; refine ⟨hB5, ?_⟩; simp only [Act.put, zzA, zzB, zzC]; refine hTk (i := 5) (v := .tuple #[efV3 p n1 c, .nilIface]) (some 12) (fun o ho W hSw => ?y61) (by assumption) ?_
   case y61 => cases ho; simp [execOp, go_sem, Act.eval]
   simp only [Act.put, zzA, zzB, zzC]; refine hTk (i := 6) (v := efV3 p n1 c) (some 18) (fun o ho W hSw => ?y62) (by assumption) ?_
   case y62 => cases ho; simp [execOp, go_sem, Act.eval]
   simp only [Act.put, zzA, zzB, zzC]; refine hTk (i := 7) (v := .nilIface) (some 19) (fun o ho W hSw => ?y63) (by assumption) ?_
   case y63 => cases ho; simp [execOp, go_sem, Act.eval]
   simp only [Act.put, zzA, zzB, zzC]; have hB6 : Below w3.heap.size w3 (wr3 w5 w3.heap.size (.slice p n1 c) .nilIface (.slice none 0 0)) := wr3_below hB5 hT; refine hStepS (i := 9) (w' := wr3 w5 w3.heap.size (.slice p n1 c) .nilIface (.slice none 0 0)) none (by kernel_rfl) (by kernel_rfl) (by kernel_rfl) (fun o ho => ?y9) hB6 ?_
   case y9 => cases ho; obtain ⟨b0, b1, b2, b3⟩ := HX; simp [execOp, go_sem, Act.eval, b0, b1, b2, b3]
   simp only [Act.put, zzA, zzB, zzC]; refine hTk (i := 10) (v := .nilIface) (some 9) (fun o ho W hSw => ?y64) (by assumption) ?_
   case y64 => cases ho; simp [execOp, go_sem, Act.eval]
   simp only [Act.put, zzA, zzB, zzC]; refine wpAnyH_done (by kernel_rfl) ?_ _
   change Exit.then _ _ _ _ (wr3 w5 w3.heap.size (.slice p n1 c) .nilIface (.slice none 0 0))
   obtain ⟨w6, e6⟩ : ∃ w6, w6 = wr3 w5 w3.heap.size (.slice p n1 c) .nilIface (.slice none 0 0) := ⟨_, rfl⟩
   rw [← e6] at hB6; rw [← e6]; have hB7 : Below w3.heap.size w3 (w6.alloc (.cells #[.nilIface] 129)) := hB6.alloc hB6.size _; have g7 := HG.out _ hB7; have hlT : w3.heap.size < w5.heap.size := World.block_lt_of_cell? _ _ HX.1
   have hs6 : w6.heap.size = w5.heap.size := by rw [e6]; simp
   have HBX : Box3 w6 w3.heap.size (.slice p n1 c) .nilIface (.slice none 0 0) := by rw [e6]; exact wr3_box HX _ _ _
   have hb67 : Below w6.heap.size w6 (w6.alloc (.cells #[.nilIface] 129)) := (Below.refl _ _).alloc (Nat.le_refl _) _
   obtain ⟨w7, e7⟩ : ∃ w7, w7 = w6.alloc (.cells #[.nilIface] 129) := ⟨_, rfl⟩
   rw [← e7] at hB7 hb67
   have HV : Hid (∀ V, (∀ k, k ≠ w.heap.size + 1 + 1 → k < w7.heap.size → V.heap[k]? = w7.heap[k]?) → w7.heap.size ≤ V.heap.size → X p n1 c V) := fun V h1 h2 => by
    have hs7 := hb67.size; refine HQ.out V (fun k a1 a3 a4 => ?_) (by omega); rw [h1 k a3 (by omega), hb67.block k (by omega), e6, wr3_heap a1]
   have hX7 : X p n1 c w7 := HV.out w7 (fun _ _ _ => rfl) (Nat.le_refl _); have HYC := HHY.out p n1 c w7 hX7; have g8 := HG2.out _ hB7; have HB7 : Hid (Below w3.heap.size w3 w7) := hB7; have HZ7 := HBX.below hb67 (by omega)
   have HZ : Hid (∀ W, Below w7.heap.size w7 W → Box3 W w3.heap.size (.slice p n1 c) .nilIface (.slice none 0 0)) := fun W hW => HZ7.below hW (by have := hb67.size; omega)
   obtain ⟨z0, z1, z2, z3⟩ := HZ7; clear hB6 hB7 hB5 hT HX e6 HQ hlT hs6 HBX hb67 hX7; go_wp2_with fail; rw [← e7] at *; clear e7 g7; refine (is_nil a w7).mono ?_; rintro e w8 ⟨rfl, h8⟩; rw [h8]; clear h8; go_wp2_with fail; refine (as_nilE _ w7).mono ?_; rintro e w8 ⟨rfl, h8⟩; rw [h8]; clear h8; go_wp2_with fail; refine (is_nil a2 w7).mono ?_; rintro e w8 ⟨rfl, h8⟩; rw [h8]; clear h8; go_wp2_with fail; refine HYC.mono ?_; rintro e w9 ⟨rfl, hb9⟩; have hB9 : Below w3.heap.size w3 w9 := Below.on HB7.out hb9; have HX9 := Box3.of_block (HK3.out _ hB9); have HP : Hid _ := wr3_box HX9 (.slice p n1 c) .nilIface (.slice none 0 0)
   have FIN : Hid (Below w.heap.size w (wr3 w9 (w.heap.size + 1 + 1) (.slice p n1 c) .nilIface (.slice none 0 0)) ∧ X p n1 c (wr3 w9 (w.heap.size + 1 + 1) (.slice p n1 c) .nilIface (.slice none 0 0))) :=
    ⟨wr3_below (Below.on HB3.out hB9) (by omega), HV.out _ (fun k h1 h2 => (wr3_heap h1).trans (hb9.block k h2)) (by simpa using hb9.size)⟩
   obtain ⟨b0, b1, b2, b3⟩ := HX9; obtain ⟨y0, y1, y2, y3⟩ := HZ.out w9 hb9; clear z0 z1 z2 z3 g8 hb9 hB9 HYC
   go_wp2
   obtain ⟨d0, d1, d2, _⟩ := HP.out; exact bodyPost_ret (v := .tuple #[efV3 p n1 c, .int .i64 0]) (by simp [results, Tryz.results34, go_sem, d0, d1, d2]) rfl ⟨p, n1, c, rfl, FIN.out⟩
end
end Go.Proofs.YtdmmchoicngblaaGreatDoor
