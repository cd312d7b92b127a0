/- Texts of Stk2, Stk3, Stk4. Own work of the verifier. -/
import Derived.Test.YtdmmchoicngblaaGreatDoorUqae
import Derived.Test.YtdmmchoicngblaaGreatDoorUqah
import Derived.Laws.StructEq
import Derived.Test.YtdmmchoicngblaaGreatDoorUqal
namespace Go.Proofs.YtdmmchoicngblaaGreatDoor
set_option linter.unusedVariables false
set_option maxRecDepth 100000
section
open Go Go.RowKit
theorem turned_any (t1 : TypeId) (x1 : Value) (t2 : TypeId) (x2 : Value) (w : World) :
  Calls Tryz.prog 290 #[.agg #[.iface t1 x1, .iface t2 x2]] w fun e w' => e = .returned (.agg #[.iface t2 x2, .iface t1 x1]) ∧ Below w.heap.size w w' := by
 go_enter Tryz.func290, Tryz.ntmps290
 go_wp2
 exact bodyPost_ret (v := .agg #[.iface t2 x2, .iface t1 x1]) (by simp [results, Tryz.results290, go_sem]) rfl ⟨rfl, ((Below.refl _ _).alloc (Nat.le_refl _) _).alloc (by simp) _⟩
theorem pairEq {v1 v2 : Value} {b b' : Bool} (w : World) (h1 : ∀ w, (Op.equalIn 9999 58 v1 v2).run Tryz.prog w = .ok b w) (h2 : ∀ w, (Op.equalIn 9999 58 v2 v1).run Tryz.prog w = .ok b' w) :
  (binOp .eql 135 (.agg #[v1, v2]) (.agg #[v2, v1])).run Tryz.prog w = .ok (.bool (b && b')) w := by
 have u1 := Tryz.underlying135; have z1 := Tryz.sizeOf58; have a1 := Tryz.isAgg58; simp only [binOp, Op.equal, Op.maxDepth]; rw [show (10000 : Nat) = 9999 + 1 from rfl, Op.equalIn]; simp only [Sem.run_bind, run_underlying u1, Result.andThen_ok]; simp only [Std.Legacy.Range.forIn_eq_forIn_range', Std.Legacy.Range.size, Nat.sub_zero, Nat.add_sub_cancel, Nat.div_one, List.range'_succ, List.range'_zero, List.forIn_cons, List.forIn_nil]
 go_simp
 cases b <;> cases b' <;> simp
theorem ieq_ne (t t' : TypeId) (x y : Value) (h : t ≠ t') (w : World) : (Op.equalIn 9999 58 (.iface t x) (.iface t' y)).run Tryz.prog w = .ok false w := by
 rw [show (9999 : Nat) = 9998 + 1 from rfl, Op.equalIn]
 simp [run_underlying Tryz.underlying58, h]
theorem ieq_var (a b : Int) (w : World) : (Op.equalIn 9999 58 (.iface 82 (.int .i64 a)) (.iface 82 (.int .i64 b))).run Tryz.prog w = .ok (a == b) w := by kernel_rfl
theorem ieq_num (a b : Int) (w : World) : (Op.equalIn 9999 58 (.iface 150 (.int .i64 a)) (.iface 150 (.int .i64 b))).run Tryz.prog w = .ok (a == b) w := by kernel_rfl
theorem ieq_atom (a b : ByteArray) (w : World) : (Op.equalIn 9999 58 (.iface 94 (.string a)) (.iface 94 (.string b))).run Tryz.prog w = .ok (a == b) w := by kernel_rfl
theorem node_eq {W0 : World} {Bt : Nat} {c c' : Cel} {K K' : List Value → Prop} {v v' : Value} (hn : NodeIn W0 Bt c K v) (hn' : NodeIn W0 Bt c' K' v') (hc : cellB c.1 c.2.1 c.2.2.length = true) (hc' : cellB c'.1 c'.2.1 c'.2.2.length = true) (hb : Byte c.2.2) (hb' : Byte c'.2.2)
  (h3 : ¬ (c.1 = 3 ∧ c'.1 = 3)) (w : World) : (Op.equalIn 9999 58 v v').run Tryz.prog w = .ok (decide (c = c')) w := by
 have oth : c.1 ≠ c'.1 → decide (c = c') = false := fun h => by simp only [decide_eq_false_iff_not]; exact fun e => h (by rw [e])
 have txt : ∀ {c : Cel}, cellB c.1 c.2.1 c.2.2.length = true → c.1 = 0 ∨ c.1 = 1 → c.2.2 = [] := fun {c} h h0 => by
  rcases h0 with h0 | h0 <;> (rw [h0] at h; simp [cellB] at h; simpa using h.2.2)
 obtain ⟨k1, n1, x1⟩ := c; obtain ⟨k2, n2, x2⟩ := c'; simp only at *
 rcases hn with ⟨h0, rfl⟩ | ⟨h0, rfl⟩ | ⟨h0, rfl⟩ | ⟨h0, b, g, vs, rfl, _⟩ <;> rcases hn' with ⟨h0', rfl⟩ | ⟨h0', rfl⟩ | ⟨h0', rfl⟩ | ⟨h0', b', g', vs', rfl, _⟩ <;> simp only at h0 h0' <;> subst h0 h0'
 ·have e1 := txt (c := (0, n1, x1)) hc (.inl rfl)
  have e2 := txt (c := (0, n2, x2)) hc' (.inl rfl); simp only at e1 e2; subst e1 e2; rw [ieq_var]; congr 1; rw [Bool.eq_iff_iff]; simp
 ·rw [ieq_ne _ _ _ _ (by decide), oth (by decide)]
 ·rw [ieq_ne _ _ _ _ (by decide), oth (by decide)]
 ·rw [ieq_ne _ _ _ _ (by decide), oth (by decide)]
 ·rw [ieq_ne _ _ _ _ (by decide), oth (by decide)]
 ·have e1 := txt (c := (1, n1, x1)) hc (.inr rfl)
  have e2 := txt (c := (1, n2, x2)) hc' (.inr rfl); simp only at e1 e2; subst e1 e2; rw [ieq_num]; congr 1; rw [Bool.eq_iff_iff]; simp
 ·rw [ieq_ne _ _ _ _ (by decide), oth (by decide)]
 ·rw [ieq_ne _ _ _ _ (by decide), oth (by decide)]
 ·rw [ieq_ne _ _ _ _ (by decide), oth (by decide)]
 ·rw [ieq_ne _ _ _ _ (by decide), oth (by decide)]
 ·have e1 : n1 = 0 := by simp [cellB] at hc; exact hc.2
  have e2 : n2 = 0 := by simp [cellB] at hc'; exact hc'.2
  subst e1 e2; rw [ieq_atom, str_inj hb hb']; congr 1; rw [Bool.eq_iff_iff]; simp
 ·rw [ieq_ne _ _ _ _ (by decide), oth (by decide)]
 ·rw [ieq_ne _ _ _ _ (by decide), oth (by decide)]
 ·rw [ieq_ne _ _ _ _ (by decide), oth (by decide)]
 ·rw [ieq_ne _ _ _ _ (by decide), oth (by decide)]
 ·exact (h3 ⟨rfl, rfl⟩).elim
theorem Kept2.of_below {w w' : World} {sb so : Nat} (g : Option Nat) (h : Below w.heap.size w w') (hs : sb < w.heap.size) : Kept2 w w' sb so g :=
 ⟨h.os, h.tape, h.output, h.size, fun k hk _ _ => h.block k hk, fun o _ => h.cell (p := ⟨sb, o, none⟩) hs, fun o => h.frozen (p := ⟨sb, o, none⟩) hs⟩
theorem Stk.below {W0 : World} {Bt : Nat} {w w' : World} {B sb so : Nat} {p : Option Addr} {n c : Nat} {st : List TT} (h : Stk W0 Bt w B sb so p n c st) (hb : Below w.heap.size w w') : Stk W0 Bt w' B sb so p n c st := by
 have hs : sb < w.heap.size := World.block_lt_of_cell? _ _ h.cell; obtain ⟨vs, hr, hp⟩ := h.row; exact ⟨(hb.cell (p := ⟨sb, so, none⟩) hs).trans h.cell, (hb.frozen (p := ⟨sb, so, none⟩) hs).trans h.free, h.len, ⟨vs, row_below hr hb, hp⟩, h.away⟩
def OpenOut (W0 : World) (Bt : Nat) (w : World) (B sb so : Nat) (g : Option Nat) (st : List TT) (x : TT) (e : Ending) (w' : World) : Prop :=
 e = .returned (.bool (decide (x.1.1 = x.2.1))) ∧ (∃ p n c, Stk W0 Bt w' B sb so p n c (st ++ opened x) ∧ (Value.ownBlock (.slice p n c) = g ∨ ∃ k, Value.ownBlock (.slice p n c) = some k ∧ w.heap.size ≤ k)) ∧ Kept2 w w' sb so g
theorem opened_leaf {x : TT} (h1 : x.1.ok) (h2 : x.2.ok) (h3 : ¬ (x.1.1.1 = 3 ∧ x.2.1.1 = 3)) : opened x = [] := by
 unfold opened argPairs
 split
 ·rename_i h
  have h3' : x.1.1.1 ≠ 3 := fun e => h3 ⟨e, by rw [← h]; exact e⟩
  have e1 : x.1.2 = .nil := h1.2.2.2.1 h3'; rw [e1]; rfl
 ·rfl
set_option maxHeartbeats 1000000 in
theorem openLeaf_any (W0 : World) (Bt : Nat) (w : World) (B sb so : Nat) (p : Option Addr) (n c : Nat) (st : List TT) (x : TT) (v1 v2 : Value) (h : Stk W0 Bt w B sb so p n c st) (hx1 : FoIn W0 Bt x.1.fo [v1]) (hx2 : FoIn W0 Bt x.2.fo [v2]) (ho1 : x.1.ok) (ho2 : x.2.ok) (h3 : ¬ (x.1.1.1 = 3 ∧ x.2.1.1 = 3)) :
  Calls Tryz.prog 225 #[.pointer (some ⟨sb, so, none⟩), .agg #[v1, v2]] w (OpenOut W0 Bt w B sb so (Value.ownBlock (.slice p n c)) st x) := by
 have hlt : sb < w.heap.size := World.block_lt_of_cell? _ _ h.cell
 have HFIN : Hid (∀ w', Below w.heap.size w w' → OpenOut W0 Bt w B sb so (Value.ownBlock (.slice p n c)) st x (.returned (.bool (decide (x.1.1 = x.2.1)))) w') := fun w' hb =>
  ⟨rfl, ⟨p, n, c, by rw [opened_leaf ho1 ho2 h3, List.append_nil]; exact h.below hb, .inl rfl⟩, Kept2.of_below _ hb hlt⟩
 obtain ⟨u1, r1, e1, hn1, _⟩ := hx1; obtain ⟨rfl, rfl⟩ := List.cons.inj e1; obtain ⟨u2, r2, e2, hn2, _⟩ := hx2; obtain ⟨rfl, rfl⟩ := List.cons.inj e2
 have hq : ∀ w, (binOp .eql 135 (.agg #[v1, v2]) (.agg #[v2, v1])).run Tryz.prog w = .ok (.bool (decide (x.1.1 = x.2.1))) w := fun w => by
  have := pairEq w (fun w => node_eq hn1 hn2 ho1.1 ho2.1 ho1.2.1 ho2.2.1 h3 w) (fun w => node_eq hn2 hn1 ho2.1 ho1.1 ho2.2.1 ho1.2.1 (fun h => h3 ⟨h.2, h.1⟩) w); rw [this]
  congr 2
  rw [Bool.eq_iff_iff]; simp only [Bool.and_eq_true, decide_eq_true_eq]; exact ⟨fun h => h.1, fun h => ⟨h, h.symm⟩⟩
 obtain ⟨t1, x1, rfl⟩ := hn1.iface; obtain ⟨t2, x2, rfl⟩ := hn2.iface
 have hty : ∃ (p1 p2 : Option Addr) (b1 b2 : Bool), (∀ w, (Instr.typeAssert (.iface t1 x1) 58 139 true).run Tryz.prog w = .ok (.tuple #[.pointer p1, .bool b1]) w) ∧ (∀ w, (Instr.typeAssert (.iface t2 x2) 58 139 true).run Tryz.prog w = .ok (.tuple #[.pointer p2, .bool b2]) w) ∧ (b1 = false ∨ (b1 = true ∧ b2 = false)) := by
  have one : ∀ {c : Cel} {K : List Value → Prop} {t : TypeId} {y : Value}, NodeIn W0 Bt c K (.iface t y) → ∃ (p : Option Addr) (b : Bool), (∀ w, (Instr.typeAssert (.iface t y) 58 139 true).run Tryz.prog w = .ok (.tuple #[.pointer p, .bool b]) w) ∧ (b = true → c.1 = 3) := fun {c K t y} hn => by
   rcases hn with ⟨_, e⟩ | ⟨_, e⟩ | ⟨_, e⟩ | ⟨h, b, g, vs, e, _⟩
   ·cases e; exact ⟨_, _, fun w => noComp_var w _, fun h => by cases h⟩
   ·cases e; exact ⟨_, _, fun w => noComp_num w _, fun h => by cases h⟩
   ·cases e; exact ⟨_, _, fun w => noComp_atom w _, fun h => by cases h⟩
   ·cases e; exact ⟨_, _, fun w => isComp w _, fun _ => h⟩
  obtain ⟨p1, b1, f1, g1⟩ := one hn1; obtain ⟨p2, b2, f2, g2⟩ := one hn2; refine ⟨p1, p2, b1, b2, f1, f2, ?_⟩
  cases b1 with
  | false => exact .inl rfl
  | true =>
    refine .inr ⟨rfl, ?_⟩
    cases b2 with
    | false => rfl
    | true => exact (h3 ⟨g1 rfl, g2 rfl⟩).elim
 obtain ⟨p1, p2, b1, b2, a1, a2, hbb⟩ := hty
 obtain ⟨r, er⟩ : ∃ r, r = decide (x.1.1 = x.2.1) := ⟨_, rfl⟩
 rw [← er] at hq HFIN
 have HT := fun W => turned_any t1 x1 t2 x2 W
 clear er h hn1 hn2 ho1 ho2 h3 e1 e2
 have HEND : Hid (∀ (W : World), Below w.heap.size w W → W.cell? ⟨w.heap.size + 1, 0, none⟩ = some (.iface t1 x1) → W.cell? ⟨w.heap.size + 1, 1, none⟩ = some (.iface t2 x2) → w.heap.size + 1 < W.heap.size → ∀ w5, Below W.heap.size W w5 → Below w.heap.size w w5 ∧ w5.cell? ⟨w.heap.size + 1, 0, none⟩ = some (.iface t1 x1) ∧ w5.cell? ⟨w.heap.size + 1, 1, none⟩ = some (.iface t2 x2)) := fun W hW k0 k1 hs w5 h5 =>
  ⟨Below.on hW h5, (h5.cell (p := ⟨w.heap.size + 1, 0, none⟩) hs).trans k0, (h5.cell (p := ⟨w.heap.size + 1, 1, none⟩) hs).trans k1⟩
 have HB3 : ∀ a b d, Below w.heap.size w (((w.alloc a).alloc b).alloc d) := fun a b d => (((Below.refl _ _).alloc (Nat.le_refl _) _).alloc (by simp) _).alloc (by simp; omega) _
 have HBD : Hid (∀ a b d, Below w.heap.size w (((w.alloc a).alloc b).alloc d).drew) := fun a b d => (HB3 a b d).drew
 have HK : Hid (∀ a d : Obj, (((w.alloc a).alloc (.cells #[.iface t1 x1, .iface t2 x2] 135)).alloc d).cell? ⟨w.heap.size + 1, 0, none⟩ = some (.iface t1 x1) ∧ (((w.alloc a).alloc (.cells #[.iface t1 x1, .iface t2 x2] 135)).alloc d).cell? ⟨w.heap.size + 1, 1, none⟩ = some (.iface t2 x2)) := fun a d => by
  have h1 := heap_three w a (.cells #[.iface t1 x1, .iface t2 x2] 135) d; exact ⟨cell_of_row _ _ 0 _ _ _ h1.1, cell_of_row _ _ 1 _ _ _ h1.1⟩
 have hg : ∀ (o1 o2 : Operand) (W : World), (eqGuard BinOp.eql 135 o1 o2 (.agg #[.iface t1 x1, .iface t2 x2]) (.agg #[.iface t2 x2, .iface t1 x1])).run Tryz.prog W = .ok () W := fun o1 o2 W => by kernel_rfl
 clear HB3
 rcases hbb with rfl | ⟨rfl, rfl⟩
 rotate_right
 case' _ =>
  go_enter Tryz.func225, Tryz.ntmps225
 rotate_right
 case' _ =>
  go_enter Tryz.func225, Tryz.ntmps225
 all_goals
  go_wp2_with fail
  go_region_held3 (fun W => W.cell? ⟨w.heap.size + 1, 0, none⟩ = some (.iface t1 x1) ∧ W.cell? ⟨w.heap.size + 1, 1, none⟩ = some (.iface t2 x2)) (first | exact ⟨kk.2.1, kk.2.2⟩ | go_keep)
   ((go_at_call 290; refine (HT _).mono ?_; rintro e w5 ⟨rfl, hb5⟩; have kk := HEND.out _ (HBD.out _ _ _) (HK.out _ _).1 (HK.out _ _).2 (by simp) w5 hb5))
  all_goals go_wp2_with fail
  go_ret; exact HFIN.out _ kk.1
end
section
open Go Go.RowKit Go.Shelf
attribute [local go_sem] Oper.semAt_some
theorem funEq {s1 s2 : ByteArray} {q1 q2 : Int} (w : World) : (binOp .neq 78 (.agg #[.string s1, .int .i64 q1]) (.agg #[.string s2, .int .i64 q2])).run Tryz.prog w = .ok (.bool (!((s1 == s2) && (q1 == q2)))) w := by
 have hS : Tryz.prog.underlying 78 = some (.struct (Tryz.prog.fieldsOf 78)) := by kernel_rfl
 have hp : Tryz.prog.stoodInHeld 78 = false := by kernel_rfl
 have u1 := Tryz.underlying3; have u2 := Tryz.underlying9; have z1 := Tryz.sizeOf3; have a1 := Tryz.isAgg3; have z2 := Tryz.sizeOf9; have a2 := Tryz.isAgg9; simp only [binOp, Op.equal, Op.maxDepth]; rw [Sem.run_bind, show (10000 : Nat) = 9999 + 1 from rfl, run_equalIn_struct w 9999 78 _ _ hS hp]; simp only [Program.fieldsOf, Tryz.underlying78]
 go_simp
 rw [beq_toListBytes]
 by_cases h1 : s1.toList = s2.toList <;> by_cases h2 : q1 = q2 <;> simp [h1, h2]
def OpenK (w : World) (sb so b2 : Nat) (W : World) : Prop :=
 Below w.heap.size w W ∧ w.heap.size + 1 + 1 < W.heap.size ∧ W.heap[w.heap.size]? = some (.cells #[.pointer (some ⟨sb, so, none⟩)] 366) ∧ W.heap[w.heap.size + 1 + 1]? = some (.cells #[.pointer (some ⟨b2, 0, none⟩)] 139)
theorem OpenK.next {w : World} {sb so b2 : Nat} {W W' : World} (h : OpenK w sb so b2 W) (hb : Below W.heap.size W W') : OpenK w sb so b2 W' :=
 ⟨Below.on h.1 hb, Nat.lt_of_lt_of_le h.2.1 hb.size, (hb.block _ (by have := h.2.1; omega)).trans h.2.2.1, (hb.block _ h.2.1).trans h.2.2.2⟩
theorem OpenK.start (w : World) (sb so b2 : Nat) (o : Obj) : OpenK w sb so b2 (((w.alloc (.cells #[.pointer (some ⟨sb, so, none⟩)] 366)).alloc o).alloc (.cells #[.pointer (some ⟨b2, 0, none⟩)] 139)).drew :=
 ⟨((((Below.refl w.heap.size w).alloc (Nat.le_refl _) _).alloc (by simp) _).alloc (by simp; omega) _).drew, by simp, (Below.heap_alloc _ _ _ (by simp; omega)).trans ((Below.heap_alloc _ _ _ (by simp)).trans (heap_alloc_new _ _)), (heap_three _ _ _ _).2⟩
theorem OpenK.cell2 {w : World} {sb so b2 : Nat} {W : World} (h : OpenK w sb so b2 W) : W.cell? ⟨w.heap.size + 1 + 1, 0, none⟩ = some (.pointer (some ⟨b2, 0, none⟩)) := cell_of_row _ _ 0 _ _ _ h.2.2.2
theorem FoIn.tree {w : World} {B : Nat} : ∀ (F : Fo) (vs : List Value), FoIn w B F vs → ∀ j (h : j < (trs F).length), FoIn w B ((trs F)[j]).fo [vs.getD j .nilIface]
 | .nil, vs, _, j, h => by simp [trs] at h
 | .node c k r, vs, ⟨v, vr, e, hn, hr⟩, j, h => by
   subst e
   cases j with
   | zero => exact ⟨v, [], rfl, hn, rfl⟩
   | succ j => simpa [trs] using FoIn.tree r vr hr j (by simpa [trs] using h)
def Tr.none : Tr := (Cel.none, .nil)
def prAt (x : TT) (i : Nat) : TT := ((trs x.1.2).getD i Tr.none, (trs x.2.2).getD i Tr.none)
theorem prAt_all (x : TT) (q : Nat) (h1 : (trs x.1.2).length = q) (h2 : (trs x.2.2).length = q) : (downF q q).map (fun i : Fin q => prAt x (i : Nat)) = argPairs x := by
 rw [downF_all, List.map_reverse, argPairs]
 congr 1
 apply List.ext_getElem
 ·simp [h1, h2]
 ·intro i a b
  simp [prAt, List.getD, h1, h2]
def ifOf : Value → Nat × Value
 | .iface t x => (t, x)
 | _ => (0, .nilIface)
theorem zs_at {w : World} {B : Nat} {F : Fo} {vs : List Value} (h : FoIn w B F vs) {j : Nat} (hj : j < vs.length) : Value.iface ((vs.map ifOf)[j]?.getD (0, .nilIface)).1 ((vs.map ifOf)[j]?.getD (0, .nilIface)).2 = vs.getD j .nilIface := by
 have hjt : j < (trs F).length := by rw [trs_len, ← FoIn.count _ _ h]; exact hj
 have ht := FoIn.tree F vs h j hjt; obtain ⟨t, x, e⟩ := FoIn.iface (show FoIn w B (.node (trs F)[j].1 (trs F)[j].2 .nil) [vs.getD j .nilIface] from ht)
 have hg : vs[j]? = some (.iface t x) := by
  rw [List.getD, List.getElem?_eq_getElem hj] at e; rw [List.getElem?_eq_getElem hj]
  simpa using e
 rw [e, List.getElem?_map, hg]
 rfl
def OInv (W0 : World) (Bt : Nat) (w : World) (B sb so b2 g1 q Bs : Nat) (g : Option Nat) (st : List TT) (x : TT) (pre : List (Fin q)) (W : World) : Prop :=
 (∃ p n c, Stk W0 Bt W B sb so p n c (st ++ pre.map (fun i : Fin q => prAt x (i : Nat))) ∧ (Value.ownBlock (.slice p n c) = g ∨ ∃ k, Value.ownBlock (.slice p n c) = some k ∧ w.heap.size ≤ k)) ∧ Kept2 w W sb so g ∧
 (W.heap[w.heap.size]? = some (.cells #[.pointer (some ⟨sb, so, none⟩)] 366) ∧ W.heap[w.heap.size + 1 + 1]? = some (.cells #[.pointer (some ⟨b2, 0, none⟩)] 139) ∧ W.heap[Bs]? = some (.cells #[.slice (some ⟨g1, 0, none⟩) q q] 83))
theorem kept_cells {W W' : World} {row : Option Nat} (hg : W.grownBy W' row) (hr : ∀ r, row = some r → ∃ o : Obj, W.heap[r]? = some o ∧ o.isCells = false) {k : Nat} {cs : Array Value} {t : TypeId} (h : W.heap[k]? = some (.cells cs t)) : W'.heap[k]? = some (.cells cs t) :=
 (hg.block k (Array.getElem?_eq_some_iff.1 h).1 (fun e => by obtain ⟨o, ho, hc⟩ := hr k e.symm; rw [h] at ho; cases ho; cases hc)).trans h
theorem Stk.kept {W0 : World} {Bt : Nat} {W W' : World} {B sb so : Nat} {p : Option Addr} {n c : Nat} {st : List TT} {row : Option Nat} (h : Stk W0 Bt W B sb so p n c st) (hg : W.grownBy W' row) (hr : ∀ r, row = some r → ∃ o : Obj, W.heap[r]? = some o ∧ o.isCells = false) : Stk W0 Bt W' B sb so p n c st := by
 obtain ⟨vs, hrow, hp⟩ := h.row; refine ⟨cell_kept h.cell hg hr, (frozen_kept h.cell hg hr).trans h.free, h.len, ⟨vs, ⟨hrow.1, ?_⟩, hp⟩, h.away⟩
 rcases hrow.2 with h' | ⟨g, cap, cur, hv, hB, hh, r⟩
 ·exact .inl h'
 ·exact .inr ⟨g, cap, cur, hv, hB, kept_cells hg hr hh, r⟩
theorem oInv_own (W0 : World) (Bt : Nat) (w : World) (B sb so b2 g1 q Bs : Nat) (g : Option Nat) (st : List TT) (x : TT) (hsb : sb < w.heap.size) (N : Nat) (hN : w.heap.size ≤ N) : OwnFrom N (OInv W0 Bt w B sb so b2 g1 q Bs g st x) := fun pre A C row ⟨⟨p, n, c, h1, h2⟩, hk, k1, k2, k3⟩ hg hr => by
 have hr' : ∀ r, row = some r → ∃ o : Obj, A.heap[r]? = some o ∧ o.isCells = false := fun r e => (hr r e).2
 refine ⟨⟨p, n, c, h1.kept hg hr', h2⟩, ?_, kept_cells hg hr' k1, kept_cells hg hr' k2, kept_cells hg hr' k3⟩
 have hb : ∀ k, k < w.heap.size → C.heap[k]? = A.heap[k]? := fun k hk' => hg.block k (Nat.lt_of_lt_of_le hk' hk.size) (fun e => by have := (hr k e.symm).1; omega)
 exact ⟨hg.os.trans hk.os, hg.tape.trans hk.tape, hg.output.trans hk.output, Nat.le_trans hk.size hg.size, fun k h1 h2 h3 => (hb k h1).trans (hk.block k h1 h2 h3),
  fun o ho => (World.cell?_of_block (a := ⟨sb, o, none⟩) (hb sb hsb)).trans (hk.cells o ho), fun o => (World.frozen?_of_block (a := ⟨sb, o, none⟩) (hb sb hsb)).trans (hk.frz o)⟩
theorem row_ne {W : World} {B n c k : Nat} {p : Option Addr} {xs : List Value} {cs : Array Value} {t : TypeId} (h : W.ownsRow B 135 2 (.slice p n c) n xs) (hk : W.heap[k]? = some (.cells cs t)) (ht : t ≠ 135) : some k ≠ Value.ownBlock (.slice p n c) := fun e => by
 rcases h.2 with ⟨h', _⟩ | ⟨g, cap, cur, hv, _, hh, _⟩
 ·cases h'; cases e
 ·cases hv
  cases e
  rw [hk] at hh
  cases hh
  exact ht rfl
theorem Stk.grew {W0 : World} {Bt : Nat} {W w1 : World} {B sb so n c g cap : Nat} {p : Option Addr} {st : List TT} {vs : List (Value × Value)} {v1 v2 : Value} {x : TT} {o : Obj} (h : Stk W0 Bt W B sb so p n c st) (hsb : sb < W.heap.size) (hp : PairsIn W0 Bt st vs) (h1 : FoIn W0 Bt x.1.fo [v1]) (h2 : FoIn W0 Bt x.2.fo [v2])
  (hr : w1.ownsRow B 135 2 (.slice (some ⟨g, 0, none⟩) (n + 1) cap) (n + 1) (flatP vs ++ [v1, v2])) (hg : (W.alloc o).drew.grownBy w1 (Value.ownBlock (.slice p n c))) (hat : Value.ownBlock (.slice p n c) = some g ∨ g = W.heap.size + 1) :
  g ≠ sb ∧ w1.cell? ⟨sb, so, none⟩ = some (.slice p n c) ∧ w1.frozen? ⟨sb, so, none⟩ = false ∧ Stk W0 Bt (w1.setCell ⟨sb, so, none⟩ (.slice (some ⟨g, 0, none⟩) (n + 1) cap)) B sb so (some ⟨g, 0, none⟩) (n + 1) cap (st ++ [x]) := by
 have hne : some sb ≠ Value.ownBlock (.slice p n c) := fun e => by
  cases p with
  | none => cases e
  | some a =>
    obtain ⟨_, hrow, _⟩ := h.row
    rcases hrow.2 with ⟨h', _⟩ | ⟨g', cap', cur, hv, _⟩
    ·cases h'
    ·cases hv
     cases e
     exact h.away _ rfl rfl
 have hgs : g ≠ sb := fun e => by
  rcases hat with h' | h'
  ·exact hne (by rw [h', e])
  ·omega
 have hblk : w1.heap[sb]? = W.heap[sb]? := (hg.block sb (by show sb < (W.alloc o).heap.size; simp; omega) hne).trans (Below.heap_alloc _ _ _ hsb); have hc : w1.cell? ⟨sb, so, none⟩ = some (.slice p n c) := (World.cell?_of_block (a := ⟨sb, so, none⟩) hblk).trans h.cell; have hf : w1.frozen? ⟨sb, so, none⟩ = false := (World.frozen?_of_block (a := ⟨sb, so, none⟩) hblk).trans h.free; refine ⟨hgs, hc, hf, World.cell?_setCell_same' _ _ _ (by rw [hc]; rfl), by rw [World.frozen?_setCell]; exact hf, by rw [h.len]; simp, ⟨vs ++ [(v1, v2)], ?_, hp.append _ _ _ _ ⟨_, [], rfl, h1, h2, rfl⟩⟩, fun g' e => by cases e; exact hgs⟩; rw [flatP_append]; exact ownsRow_setCell_other hr (by simpa [Value.ownBlock] using hgs) _
theorem Kept2.round {w W w1 : World} {sb so n c : Nat} {p : Option Addr} {g : Option Nat} {o : Obj} (h : Kept2 w W sb so g) (hsb : sb < w.heap.size) (hown : Value.ownBlock (.slice p n c) = g ∨ ∃ k, Value.ownBlock (.slice p n c) = some k ∧ w.heap.size ≤ k) (hne : some sb ≠ Value.ownBlock (.slice p n c))
  (hg : (W.alloc o).drew.grownBy w1 (Value.ownBlock (.slice p n c))) (u : Value) : Kept2 w (w1.setCell ⟨sb, so, none⟩ u) sb so g := by
 have hs : sb < W.heap.size := Nat.lt_of_lt_of_le hsb h.size; have hz : W.heap.size ≤ w1.heap.size := Nat.le_trans (by show W.heap.size ≤ (W.alloc o).heap.size; simp) hg.size
 have hb : ∀ k, k < W.heap.size → some k ≠ Value.ownBlock (.slice p n c) → w1.heap[k]? = W.heap[k]? := fun k hk e => (hg.block k (by show k < (W.alloc o).heap.size; simp; omega) e).trans (Below.heap_alloc _ _ _ hk)
 have h1 : Kept2 w w1 sb so g := ⟨hg.os.trans h.os, hg.tape.trans h.tape, hg.output.trans h.output, Nat.le_trans h.size hz, fun k hk a1 a2 => (hb k (Nat.lt_of_lt_of_le hk h.size) (fun e => by
  rcases hown with h' | ⟨k', h', hk'⟩
  ·exact a2 (by rw [e, h'])
  ·rw [h'] at e; cases e; omega)).trans (h.block k hk a1 a2),
  fun j hj => (World.cell?_of_block (a := ⟨sb, j, none⟩) (hb sb hs hne)).trans (h.cells j hj), fun j => (World.frozen?_of_block (a := ⟨sb, j, none⟩) (hb sb hs hne)).trans (h.frz j)⟩
 exact h1.set u
theorem infoPair : (Tryz.prog.info? 135).map (fun i => (i.zero, i.size, i.bytes)) = some (some (.agg #[.nilIface, .nilIface]), 2, 32) := by kernel_rfl
attribute [local go_sem] Oper.semAt_some
set_option maxHeartbeats 4000000 in
theorem openComp_wide (W0 : World) (Bt : Nat) (w : World) (B sb so : Nat) (p0 : Option Addr) (n0 c0 : Nat) (st : List TT) (x : TT) (b1 g1 b2 g2 : Nat) (vs1 vs2 : List Value) (h : Stk W0 Bt w B sb so p0 n0 c0 st) (hW : Below W0.heap.size W0 w) (hB0 : W0.heap.size ≤ B) (hBs : B ≤ sb) (hn : n0 ≤ 1000000)
  (hc1 : CompAt W0 Bt x.1.1.2.2 x.1.2 b1 g1 vs1) (hc2 : CompAt W0 Bt x.2.1.2.2 x.2.2 b2 g2 vs2) (ho1 : x.1.ok) (ho2 : x.2.ok) (h31 : x.1.1.1 = 3) (h32 : x.2.1.1 = 3) :
  CallsIn Fence.wide 3 Tryz.prog 225 #[.pointer (some ⟨sb, so, none⟩), .agg #[.iface 139 (.pointer (some ⟨b1, 0, none⟩)), .iface 139 (.pointer (some ⟨b2, 0, none⟩))]] w (OpenOut W0 Bt w B sb so (Value.ownBlock (.slice p0 n0 c0)) st x) := by
 have hsb : sb < w.heap.size := World.block_lt_of_cell? _ _ h.cell; have hl1 : vs1.length = x.1.2.count := FoIn.count _ _ hc1.2.2.2.2.2.2; have hl2 : vs2.length = x.2.2.count := FoIn.count _ _ hc2.2.2.2.2.2.2
 obtain ⟨q1, eq1⟩ : ∃ q, q = vs1.length := ⟨_, rfl⟩
 obtain ⟨q2, eq2⟩ : ∃ q, q = vs2.length := ⟨_, rfl⟩
 obtain ⟨s1, es1⟩ : ∃ s, s = strOfNums x.1.1.2.2 := ⟨_, rfl⟩
 obtain ⟨s2, es2⟩ : ∃ s, s = strOfNums x.2.1.2.2 := ⟨_, rfl⟩
 have lift : ∀ {a : Addr} {v : Value}, W0.cell? a = some v → w.cell? a = some v := fun hv => (hW.cell (World.block_lt_of_cell? _ _ hv)).trans hv
 have c10 : w.cell? ⟨b1, 0, none⟩ = some (.string s1) := by rw [es1]; exact lift hc1.2.2.1
 have c11 : w.cell? ⟨b1, 1, none⟩ = some (.slice (some ⟨g1, 0, none⟩) q1 q1) := by rw [eq1]; exact lift hc1.2.2.2.1
 have c20 : w.cell? ⟨b2, 0, none⟩ = some (.string s2) := by rw [es2]; exact lift hc2.2.2.1
 have c21 : w.cell? ⟨b2, 1, none⟩ = some (.slice (some ⟨g2, 0, none⟩) q2 q2) := by rw [eq2]; exact lift hc2.2.2.2.1
 have a1 := isComp
 have HFF : Hid (∀ (b : Nat) (s : ByteArray) (q : Nat), ((b = b1 ∧ s = s1 ∧ q = q1) ∨ (b = b2 ∧ s = s2 ∧ q = q2)) → ∀ W, OpenK w sb so b2 W → Calls Tryz.prog 105 #[.pointer (some ⟨b, 0, none⟩)] W fun e w' => e = .returned (.agg #[.string s, .int .i64 q]) ∧ OpenK w sb so b2 w') := fun b s q h W hk => by
  rcases h with ⟨rfl, rfl, rfl⟩ | ⟨rfl, rfl, rfl⟩
  ·exact (functor_any b g1 q s W ((hk.1.cell (World.block_lt_of_cell? _ _ c10)).trans c10) ((hk.1.cell (World.block_lt_of_cell? _ _ c11)).trans c11)).mono fun e w' h => ⟨h.1, hk.next h.2⟩
  ·exact (functor_any b g2 q s W ((hk.1.cell (World.block_lt_of_cell? _ _ c20)).trans c20) ((hk.1.cell (World.block_lt_of_cell? _ _ c21)).trans c21)).mono fun e w' h => ⟨h.1, hk.next h.2⟩
 have hg : ∀ (o1 o2 : Operand) (W : World), (eqGuard BinOp.neq 78 o1 o2 (.agg #[.string s1, .int .i64 q1]) (.agg #[.string s2, .int .i64 q2])).run Tryz.prog W = .ok () W := fun o1 o2 W => by kernel_rfl
 have hq : ∀ W, (binOp .neq 78 (.agg #[.string s1, .int .i64 q1]) (.agg #[.string s2, .int .i64 q2])).run Tryz.prog W = .ok (.bool (!decide (x.1.1 = x.2.1))) W := fun W => by
  rw [funEq, es1, es2, str_inj ho1.2.1 ho2.2.1]
  congr 3
  have e1 := ho1.2.2.1 h31; have e2 := ho2.2.2.1 h32
  have hq1 : (q1 : Int) = x.1.1.2.1 := by rw [eq1, hl1]; exact e1.symm
  have hq2 : (q2 : Int) = x.2.1.2.1 := by rw [eq2, hl2]; exact e2.symm
  rw [hq1, hq2, Bool.eq_iff_iff]; obtain ⟨⟨⟨k1, m1, t1⟩, f1⟩, ⟨⟨k2, m2, t2⟩, f2⟩⟩ := x; simp only at h31 h32; subst h31 h32
  simp [and_comm]
 have hkk := OpenK.start w sb so b2 (.cells #[.iface 139 (.pointer (some ⟨b1, 0, none⟩)), .iface 139 (.pointer (some ⟨b2, 0, none⟩))] 135)
 by_cases hx : x.1.1 = x.2.1
 ·have HOUT : Hid (∀ W, (∃ p n c, Stk W0 Bt W B sb so p n c (st ++ opened x) ∧ (Value.ownBlock (.slice p n c) = Value.ownBlock (.slice p0 n0 c0) ∨ ∃ k, Value.ownBlock (.slice p n c) = some k ∧ w.heap.size ≤ k)) → Kept2 w W sb so (Value.ownBlock (.slice p0 n0 c0)) → OpenOut W0 Bt w B sb so (Value.ownBlock (.slice p0 n0 c0)) st x (.returned (.bool true)) W) := fun W h1 h2 => ⟨by simp [hx], h1, h2⟩
  have hqq : q1 = q2 := by rw [eq1, eq2, hl1, hl2]; exact ok_count ho1 ho2 hx
  have hq20 : q1 ≤ 2000 := by
   have := ho1.1; have e1 := ho1.2.2.1 h31; rw [h31] at this
   simp [cellB] at this
   rw [eq1, hl1]
   have : (x.1.2.count : Int) ≤ 20 := by rw [← e1]; exact this.2.2
   omega
  have ht : decide (x.1.1 = x.2.1) = true := by simpa using hx
  rw [ht] at hq; simp only [Bool.not_true] at hq; subst hqq; have HST : Hid (Stk W0 Bt w B sb so p0 n0 c0 st) := h
  have HC1 : Hid (CompAt W0 Bt x.1.1.2.2 x.1.2 b1 g1 vs1 ∧ q1 = vs1.length ∧ (trs x.1.2).length = q1) := ⟨hc1, eq1, by rw [trs_len, eq1, hl1]⟩
  have HC2 : Hid (CompAt W0 Bt x.2.1.2.2 x.2.2 b2 g2 vs2 ∧ q1 = vs2.length ∧ (trs x.2.2).length = q1) := ⟨hc2, eq2, by rw [trs_len, eq2, hl2]⟩
  have HWB : Hid (Below W0.heap.size W0 w) := hW
  have HX : Hid (opened x = argPairs x) := by show _ = _; rw [opened, if_pos hx]
  clear h hc1 hc2 eq1 eq2 es1 es2 hl1 hl2 ht lift ho1 ho2 h31 h32 hx hW; refine callsIn_of_wp_marks Tryz.func225 rfl trivial ?_ rfl; simp only [Tryz.ntmps225, List.size_toArray, List.length_cons, List.length_nil, Nat.reduceAdd, Nat.reduceSub, Array.replicate_succ, Array.replicate_zero, List.push_toArray, List.append_toArray, List.nil_append, List.cons_append]
  gi_wp2_with fail
  refine wpIn_wide.2 ?_; have kk := hkk; have kc := kk.cell2
  go_region_held3 (fun W => W.cell? ⟨w.heap.size + 1 + 1, 0, none⟩ = some (.pointer (some ⟨b2, 0, none⟩))) (first | exact kc | go_keep)
   ((go_at_call 105; refine (HFF.out _ _ _ (by first | exact .inl ⟨rfl, rfl, rfl⟩ | exact .inr ⟨rfl, rfl, rfl⟩) _ (by first | exact kk)).mono ?_; clear kk kc; rintro e w5 ⟨rfl, kk⟩; have kc := kk.cell2))
  have d11 : w5.cell? ⟨b1, 1, none⟩ = some (.slice (some ⟨g1, 0, none⟩) q1 q1) := (kk.1.cell (World.block_lt_of_cell? _ _ c11)).trans c11; have d21 : w5.cell? ⟨b2, 1, none⟩ = some (.slice (some ⟨g2, 0, none⟩) q1 q1) := (kk.1.cell (World.block_lt_of_cell? _ _ c21)).trans c21; have HKK : Hid (OpenK w sb so b2 w5) := kk; have hsz5 : w.heap.size + 2 < w5.heap.size := kk.2.1; clear kk kc hkk
  gi_wp2_with fail
  refine ⟨trivial, (back_in Fence.wide 2 trivial rfl _ _ _ _).mono ?_⟩; rintro e w' ⟨rfl, rfl⟩
  gi_wp2_with fail
  have hB0' : Below w.heap.size w (w5.alloc (.cells #[.slice (some ⟨g1, 0, none⟩) q1 q1] 83)) := Below.on HKK.out.1 ((Below.refl _ _).alloc (Nat.le_refl _) _); have HB6 : Hid _ := hB0'; have hBw : B ≤ w.heap.size := Nat.le_trans hBs (Nat.le_of_lt hsb); have hg1 : g1 < W0.heap.size := HC1.out.1.2.2.2.2.1
  obtain ⟨zs, ezs⟩ : ∃ zs, zs = vs1.map ifOf := ⟨_, rfl⟩
  have HZS : Hid (zs = vs1.map ifOf) := ezs
  have hc6 : ∀ j, j < q1 → (w5.alloc (.cells #[.slice (some ⟨g1, 0, none⟩) q1 q1] 83)).cell? ⟨g1, j, none⟩ = some (.iface (zs[j]?.getD (0, .nilIface)).1 (zs[j]?.getD (0, .nilIface)).2) := fun j hj => by
   have hj' : j < vs1.length := by rw [← HC1.out.2.1]; exact hj
   rw [ezs, zs_at HC1.out.1.2.2.2.2.2.2 hj', ← HC1.out.1.2.2.2.2.2.1 j hj']; exact ((HWB.out.trans (hB0'.mono HWB.out.size)).cell (p := ⟨g1, j, none⟩) hg1)
  clear ezs; have hN : (w5.alloc (.cells #[.slice (some ⟨g1, 0, none⟩) q1 q1] 83)).heap[w5.heap.size]? = some (.cells #[.slice (some ⟨g1, 0, none⟩) q1 q1] 83) := heap_alloc_new _ _; refine wpIn_rangeFunc_ownG rfl (by decide) (gf := 180) (lb := #[.pointer (some ⟨w5.heap.size, 0, none⟩)]) rfl trivial (enters_of Tryz.func180 (by kernel_rfl) rfl)
   (backF_stops Fence.wide 2 trivial rfl (by decide) w5.heap.size B g1 q1 q1 zs hq20 _ (by simp) (by simp; omega) (by omega) (cell_of_row _ _ 0 _ _ _ hN) hc6) BKeep.trans (bKeep_b (by simp; omega)) (Below.refl _ _) (fun _ => rfl)
   (OInv W0 Bt w B sb so b2 g1 q1 w5.heap.size (Value.ownBlock (.slice p0 n0 c0)) st x)
   (fun _ _ _ => False)
   (oInv_own W0 Bt w B sb so b2 g1 q1 w5.heap.size _ st x hsb _ (by simp; omega))
   (fun _ _ _ _ _ hs _ _ => hs)
   ?start
   (fun i => { tmps := #[.pointer (some ⟨sb, so, none⟩), .agg #[.iface 139 (.pointer (some ⟨b1, 0, none⟩)), .iface 139 (.pointer (some ⟨b2, 0, none⟩))], .pointer (some ⟨w.heap.size, 0, none⟩), .pointer (some ⟨w.heap.size + 1, 0, none⟩), .bool false, .pointer (some ⟨b1, 0, none⟩), .bool true, .pointer (some ⟨w.heap.size + 1 + 1, 0, none⟩), .bool true, Value.int .i64 ((i : Nat) : Int), Value.iface ((zs[(i : Nat)]?.getD (0, .nilIface)).1) ((zs[(i : Nat)]?.getD (0, .nilIface)).2), .tuple #[.pointer (some ⟨b1, 0, none⟩), .bool true], .pointer (some ⟨w.heap.size + 1, 0, none⟩), .iface 139 (.pointer (some ⟨b1, 0, none⟩)), .tuple #[.pointer (some ⟨b1, 0, none⟩), .bool true], .pointer (some ⟨b1, 0, none⟩), .bool true, .tuple #[.pointer (some ⟨b2, 0, none⟩), .bool true], .pointer (some ⟨w.heap.size + 1, 1, none⟩), .iface 139 (.pointer (some ⟨b2, 0, none⟩)), .tuple #[.pointer (some ⟨b2, 0, none⟩), .bool true], .pointer (some ⟨b2, 0, none⟩), .bool true, .bool true, .bool false, .bool false, .bool true, .bool false, .bool false, undef, undef, undef, undef, .pointer (some ⟨b1, 0, none⟩), .agg #[.string s1, .int .i64 q1], .pointer (some ⟨b2, 0, none⟩), .agg #[.string s2, .int .i64 q1], .bool false, .pointer (some ⟨b1, 0, none⟩), .pointer (some ⟨b1, 0, none⟩), .pointer (some ⟨b1, 1, none⟩), .slice (some ⟨g1, 0, none⟩) q1 q1, .func (.func 180) #[] #[.pointer (some ⟨w5.heap.size, 0, none⟩)], Value.int .i64 ((i : Nat) : Int), Value.iface ((zs[(i : Nat)]?.getD (0, .nilIface)).1) ((zs[(i : Nat)]?.getD (0, .nilIface)).2), undef, undef, undef, undef, undef, undef, undef, undef, undef, undef, undef, undef, undef, undef, undef, undef], defers := [] }) ?assign ?body ?done ?stop
  case start =>
   have hk6 := HKK.out.next ((Below.refl w5.heap.size w5).alloc (Nat.le_refl _) (.cells #[.slice (some ⟨g1, 0, none⟩) q1 q1] 83))
   exact ⟨⟨p0, n0, c0, by simpa using HST.out.below hB0', .inl rfl⟩, Kept2.of_below _ hB0' hsb, hk6.2.2.1, hk6.2.2.2, hN⟩
  case assign =>
   intro l i W K hK
   gi_wp2
   exact hK
  case body =>
   rintro l pre i W ⟨⟨p, n, c, hst, hown⟩, hkept, k1, k2, k3⟩ hlt
   have HB : Hid (Below B w W) := hkept.below hBs (fun k e => by
    obtain ⟨_, hr, _⟩ := HST.out.row
    exact (hr.lt k e).1) hBw
   have hWW : Below W0.heap.size W0 W := HWB.out.trans (HB.out.mono hB0); have hiq' : (i : Nat) < q1 := i.2
   obtain ⟨j, ej⟩ : ∃ j, j = (i : Nat) := ⟨_, rfl⟩
   rw [← ej] at hiq'
   have hv1 : Value.iface ((zs[(i : Nat)]?.getD (0, .nilIface)).1) ((zs[(i : Nat)]?.getD (0, .nilIface)).2) = vs1.getD j .nilIface := by
    rw [HZS.out, ← ej]; exact zs_at HC1.out.1.2.2.2.2.2.2 (by rw [← HC1.out.2.1]; exact hiq')
   have hv2 := zs_at HC2.out.1.2.2.2.2.2.2 (j := j) (by rw [← HC2.out.2.1]; exact hiq'); have hf1 := FoIn.tree _ _ HC1.out.1.2.2.2.2.2.2 j (by rw [HC1.out.2.2]; exact hiq'); have hf2 := FoIn.tree _ _ HC2.out.1.2.2.2.2.2.2 j (by rw [HC2.out.2.2]; exact hiq'); have hcell2 : W0.cell? ⟨g2, j, none⟩ = some (vs2.getD j .nilIface) := HC2.out.1.2.2.2.2.2.1 j (by rw [← HC2.out.2.1]; exact hiq'); rw [← hv1] at hf1; rw [← hv2] at hf2 hcell2
   obtain ⟨t1, et1⟩ : ∃ t, t = (zs[(i : Nat)]?.getD (0, .nilIface)).1 := ⟨_, rfl⟩
   obtain ⟨x1, ex1⟩ : ∃ t, t = (zs[(i : Nat)]?.getD (0, .nilIface)).2 := ⟨_, rfl⟩
   obtain ⟨t2, et2⟩ : ∃ t, t = ((vs2.map ifOf)[j]?.getD (0, .nilIface)).1 := ⟨_, rfl⟩
   obtain ⟨x2, ex2⟩ : ∃ t, t = ((vs2.map ifOf)[j]?.getD (0, .nilIface)).2 := ⟨_, rfl⟩
   rw [← et1, ← ex1] at hf1; rw [← et2, ← ex2] at hf2 hcell2
   dsimp only
   rw [← et1, ← ex1, ← ej]; have e5 : W.cell? ⟨g2, j, none⟩ = some (.iface t2 x2) := (hWW.cell (World.block_lt_of_cell? _ _ hcell2)).trans hcell2
   have e4 : W.cell? ⟨b2, 1, none⟩ = some (.slice (some ⟨g2, 0, none⟩) q1 q1) := by
    have := (HB.out.cell (p := ⟨b2, 1, none⟩) (show b2 < B by have := World.block_lt_of_cell? _ _ HC2.out.1.2.2.2.1; simp at this; omega))
    exact this.trans c21
   have e1 : W.cell? ⟨w.heap.size, 0, none⟩ = some (.pointer (some ⟨sb, so, none⟩)) := cell_of_row _ _ 0 _ _ _ k1; have e3 : W.cell? ⟨w.heap.size + 1 + 1, 0, none⟩ = some (.pointer (some ⟨b2, 0, none⟩)) := cell_of_row _ _ 0 _ _ _ k2; have e2 := hst.cell
   have HPR : Hid (FoIn W0 Bt (prAt x j).1.fo [.iface t1 x1] ∧ FoIn W0 Bt (prAt x j).2.fo [.iface t2 x2]) := by
    refine ⟨?_, ?_⟩
    ·simpa [prAt, List.getD, HC1.out.2.2, hiq'] using hf1
    ·simpa [prAt, List.getD, HC2.out.2.2, hiq'] using hf2
   have HEJ : Hid (j = (i : Nat)) := ej
   have hi0 : (0 : Int) ≤ (j : Int) := by omega
   have hiq : (j : Int) < (q1 : Int) := by omega
   have hbuild : ∀ w, (Instr.build 135 #[(0, .iface t1 x1), (1, .iface t2 x2)]).run Tryz.prog w = .ok (.agg #[.iface t1 x1, .iface t2 x2]) w := fun w => run_build w 135 _ _ (by kernel_rfl)
   have hS0 : (fun W' : World => W'.cell? ⟨w.heap.size, 0, none⟩ = some (.pointer (some ⟨sb, so, none⟩)) ∧ W'.cell? ⟨sb, so, none⟩ = some (.slice p n c) ∧ W'.cell? ⟨w.heap.size + 1 + 1, 0, none⟩ = some (.pointer (some ⟨b2, 0, none⟩)) ∧ W'.cell? ⟨b2, 1, none⟩ = some (.slice (some ⟨g2, 0, none⟩) q1 q1) ∧ W'.cell? ⟨g2, j, none⟩ = some (.iface t2 x2)) W.drew := ⟨e1, e2, e3, e4, e5⟩
   clear hv1 hv2 hf1 hf2 hcell2 et1 ex1 et2 ex2 ej hc6 e1 e2 e3 e4 e5
   gi_wp2_with fail
   refine wpIn_region_until (c := 16) (S := fun W' : World => W'.cell? ⟨w.heap.size, 0, none⟩ = some (.pointer (some ⟨sb, so, none⟩)) ∧ W'.cell? ⟨sb, so, none⟩ = some (.slice p n c) ∧ W'.cell? ⟨w.heap.size + 1 + 1, 0, none⟩ = some (.pointer (some ⟨b2, 0, none⟩)) ∧ W'.cell? ⟨b2, 1, none⟩ = some (.slice (some ⟨g2, 0, none⟩) q1 q1) ∧ W'.cell? ⟨g2, j, none⟩ = some (.iface t2 x2)) (by kernel_rfl) (by kernel_rfl) ?_; refine wpAnyU_take (i := 0) (v := .pointer (some ⟨sb, so, none⟩)) (D := [15, 16]) (some 45) (by kernel_rfl) (by kernel_rfl) (by kernel_rfl) (by kernel_rfl) (by kernel_rfl) (by rfl) (by kernel_rfl) (fun _ _ _ h => h) (fun o ho => ?y0) (hS0) ?_
   case y0 =>
    cases ho
    refine .inl ⟨by kernel_rfl, fun w' hw => ?_⟩
    simp [execOp, go_sem, Act.eval, hw.1]
   refine wpAnyU_take (i := 1) (v := .pointer (some ⟨sb, so, none⟩)) (D := [2, 3, 14, 16]) (some 46) (by kernel_rfl) (by kernel_rfl) (by kernel_rfl) (by kernel_rfl) (by kernel_rfl) (by rfl) (by kernel_rfl) (fun _ _ _ h => h) (fun o ho => ?y1) (hS0) ?_
   case y1 =>
    cases ho
    refine .inl ⟨by kernel_rfl, fun w' hw => ?_⟩
    simp [execOp, go_sem, Act.eval, Act.put, hw.1]
   refine wpAnyU_take (i := 2) (v := .pointer (some ⟨sb, so, none⟩)) (D := [3, 14, 16]) (some 47) (by kernel_rfl) (by kernel_rfl) (by kernel_rfl) (by kernel_rfl) (by kernel_rfl) (by rfl) (by kernel_rfl) (fun _ _ _ h => h) (fun o ho => ?y2) (hS0) ?_
   case y2 =>
    cases ho
    refine .inl ⟨by kernel_rfl, fun w' hw => ?_⟩
    simp [execOp, go_sem, Act.eval, Act.put]
   refine wpAnyU_take (i := 3) (v := .slice p n c) (D := [14, 16]) (some 48) (by kernel_rfl) (by kernel_rfl) (by kernel_rfl) (by kernel_rfl) (by kernel_rfl) (by rfl) (by kernel_rfl) (fun _ _ _ h => h) (fun o ho => ?y3) (hS0) ?_
   case y3 =>
    cases ho
    refine .inl ⟨by kernel_rfl, fun w' hw => ?_⟩
    simp [execOp, go_sem, Act.eval, Act.put, hw.2.1]
   refine wpAnyU_take (i := 4) (v := .iface t1 x1) (D := [12, 13, 14, 16]) (some 49) (by kernel_rfl) (by kernel_rfl) (by kernel_rfl) (by kernel_rfl) (by kernel_rfl) (by rfl) (by kernel_rfl) (fun _ _ _ h => h) (fun o ho => ?y4) (hS0) ?_
   case y4 =>
    cases ho
    refine .inl ⟨by kernel_rfl, fun w' hw => ?_⟩
    simp [execOp, go_sem, Act.eval, Act.put]
   refine wpAnyU_take (i := 5) (v := .pointer (some ⟨b2, 0, none⟩)) (D := [6, 7, 8, 10, 11, 12, 13, 14, 16]) (some 50) (by kernel_rfl) (by kernel_rfl) (by kernel_rfl) (by kernel_rfl) (by kernel_rfl) (by rfl) (by kernel_rfl) (fun _ _ _ h => h) (fun o ho => ?y5) (hS0) ?_
   case y5 =>
    cases ho
    refine .inl ⟨by kernel_rfl, fun w' hw => ?_⟩
    simp [execOp, go_sem, Act.eval, Act.put, hw.2.2.1]
   refine wpAnyU_take (i := 6) (v := .pointer (some ⟨b2, 0, none⟩)) (D := [7, 8, 10, 11, 12, 13, 14, 16]) (some 51) (by kernel_rfl) (by kernel_rfl) (by kernel_rfl) (by kernel_rfl) (by kernel_rfl) (by rfl) (by kernel_rfl) (fun _ _ _ h => h) (fun o ho => ?y6) (hS0) ?_
   case y6 =>
    cases ho
    refine .inl ⟨by kernel_rfl, fun w' hw => ?_⟩
    simp [execOp, go_sem, Act.eval, Act.put]
   refine wpAnyU_take (i := 7) (v := .pointer (some ⟨b2, 1, none⟩)) (D := [8, 10, 11, 12, 13, 14, 16]) (some 52) (by kernel_rfl) (by kernel_rfl) (by kernel_rfl) (by kernel_rfl) (by kernel_rfl) (by rfl) (by kernel_rfl) (fun _ _ _ h => h) (fun o ho => ?y7) (hS0) ?_
   case y7 =>
    cases ho
    refine .inl ⟨by kernel_rfl, fun w' hw => ?_⟩
    simp [execOp, go_sem, Act.eval, Act.put]
   refine wpAnyU_take (i := 8) (v := .slice (some ⟨g2, 0, none⟩) q1 q1) (D := [10, 11, 12, 13, 14, 16]) (some 53) (by kernel_rfl) (by kernel_rfl) (by kernel_rfl) (by kernel_rfl) (by kernel_rfl) (by rfl) (by kernel_rfl) (fun _ _ _ h => h) (fun o ho => ?y8) (hS0) ?_
   case y8 =>
    cases ho
    refine .inl ⟨by kernel_rfl, fun w' hw => ?_⟩
    simp [execOp, go_sem, Act.eval, Act.put, hw.2.2.2.1]
   refine wpAnyU_take (i := 9) (v := .int .i64 (j : Int)) (D := [10, 11, 12, 13, 14, 16]) (some 54) (by kernel_rfl) (by kernel_rfl) (by kernel_rfl) (by kernel_rfl) (by kernel_rfl) (by rfl) (by kernel_rfl) (fun _ _ _ h => h) (fun o ho => ?y9) (hS0) ?_
   case y9 =>
    cases ho
    refine .inl ⟨by kernel_rfl, fun w' hw => ?_⟩
    simp [execOp, go_sem, Act.eval, Act.put]
   refine wpAnyU_take (i := 10) (v := .pointer (some ⟨g2, j, none⟩)) (D := [11, 12, 13, 14, 16]) (some 55) (by kernel_rfl) (by kernel_rfl) (by kernel_rfl) (by kernel_rfl) (by kernel_rfl) (by rfl) (by kernel_rfl) (fun _ _ _ h => h) (fun o ho => ?y10) (hS0) ?_
   case y10 =>
    cases ho
    refine .inl ⟨by kernel_rfl, fun w' hw => ?_⟩
    simp [execOp, go_sem, Act.eval, Act.put, hi0, hiq]
   refine wpAnyU_take (i := 11) (v := .iface t2 x2) (D := [12, 13, 14, 16]) (some 56) (by kernel_rfl) (by kernel_rfl) (by kernel_rfl) (by kernel_rfl) (by kernel_rfl) (by rfl) (by kernel_rfl) (fun _ _ _ h => h) (fun o ho => ?y11) (hS0) ?_
   case y11 =>
    cases ho
    refine .inl ⟨by kernel_rfl, fun w' hw => ?_⟩
    simp [execOp, go_sem, Act.eval, Act.put, hw.2.2.2.2]
   refine wpAnyU_take (i := 12) (v := .agg #[.iface t1 x1, .iface t2 x2]) (D := [13, 14, 16]) (some 57) (by kernel_rfl) (by kernel_rfl) (by kernel_rfl) (by kernel_rfl) (by kernel_rfl) (by rfl) (by kernel_rfl) (fun _ _ _ h => h) (fun o ho => ?y12) (hS0) ?_
   case y12 =>
    cases ho
    refine .inl ⟨by kernel_rfl, fun w' hw => ?_⟩
    simp [execOp, go_sem, Act.eval, Act.put]
   obtain ⟨vs, hrow, hpin⟩ := hst.row; obtain ⟨i0, hi, hz0, hz1, hz2⟩ := info_parts infoPair; have hlenS := hst.len
   have hnb : n ≤ 2000000 := by
    have h1 := HST.out.len; rw [hlenS, List.length_append, List.length_map]
    omega
   have hneS : some sb ≠ Value.ownBlock (.slice p n c) := fun e => by
    rcases hrow.2 with ⟨h', _⟩ | ⟨g', cap', cur, hv, _⟩
    ·cases h'; cases e
    ·cases hv; cases e; exact hst.away _ rfl rfl
   have hWsz : w.heap.size ≤ W.heap.size := hkept.size; refine wpAnyU_all (rs := [13]) (by kernel_rfl) (by decide) ?_
   intro i' hi'
   obtain rfl : i' = 13 := by simpa using hi'
   clear hi'; refine wpOp_value (some 58) (by kernel_rfl) (by kernel_rfl) (v := .slice (some ⟨W.heap.size, 0, none⟩) 1 1) (w' := (W.alloc (.cells #[.iface t1 x1, .iface t2 x2] 135)).drew) (fun o ho => ?r13) ⟨fun _ => ?s13, ?_⟩
   case r13 => cases ho; simp [execOp, go_sem, Act.eval, Act.put]
   case s13 => exact ⟨Lib.cell?_alloc_marked _ hS0.1, Lib.cell?_alloc_marked _ hS0.2.1, Lib.cell?_alloc_marked _ hS0.2.2.1, Lib.cell?_alloc_marked _ hS0.2.2.2.1, Lib.cell?_alloc_marked _ hS0.2.2.2.2⟩
   simp only [Act.put, zzA, zzB, zzC]; refine wpAnyU_all (rs := [14]) (by kernel_rfl) (by decide) ?_
   intro i' hi'
   obtain rfl : i' = 14 := by simpa using hi'
   clear hi'; refine wpOp_oper (by kernel_rfl) (fun o ho => ?_)
   cases ho
   refine wp_append_lies _ (.tmp 48) (.tmp 58) 289 rfl B 135 i0 (.agg #[.nilIface, .nilIface]) 2 32 Tryz.underlying289 hi hz0 hz1 hz2 rfl (by decide) (.slice p n c) n (flatP vs) (by rfl) (hrow.alloc _) ⟨W.heap.size, 0, none⟩ 1 1 [.iface t1 x1, .iface t2 x2] (by rfl) rfl (cell_two_new _ _ _ _) (by simp [Value.oneCell']) (by decide) (by unfold maxLen; omega) (by omega) (by show B ≤ (W.alloc _).heap.size; simp; omega) (W.heap.size + 1) (by show (W.alloc _).heap.size = _; simp) ?_
   intro g' cap' w1 hown1 hgrow1 hat1 hlt1
   obtain ⟨hgs, hc1, hf1, hstk⟩ := hst.grew (Nat.lt_of_lt_of_le hsb hWsz) hpin HPR.out.1 HPR.out.2 hown1 hgrow1 hat1
   have hblk : ∀ k, k < W.heap.size → some k ≠ Value.ownBlock (.slice p n c) → w1.heap[k]? = W.heap[k]? := fun k hk e => (hgrow1.block k (by show k < (W.alloc _).heap.size; simp; omega) e).trans (Below.heap_alloc _ _ _ hk)
   have hlow : ∀ k, k < B → some k ≠ Value.ownBlock (.slice p n c) := fun k hk e => by have := (hrow.lt k e.symm).1; omega
   have r1 := (hblk _ (Array.getElem?_eq_some_iff.1 k1).1 (row_ne hrow k1 (by decide))).trans k1; have r2 := (hblk _ (Array.getElem?_eq_some_iff.1 k2).1 (row_ne hrow k2 (by decide))).trans k2; have r3 := (hblk _ (Array.getElem?_eq_some_iff.1 k3).1 (row_ne hrow k3 (by decide))).trans k3
   have hS1 : w1.cell? ⟨w.heap.size, 0, none⟩ = some (.pointer (some ⟨sb, so, none⟩)) ∧ w1.cell? ⟨sb, so, none⟩ = some (.slice p n c) ∧ w1.cell? ⟨w.heap.size + 1 + 1, 0, none⟩ = some (.pointer (some ⟨b2, 0, none⟩)) ∧ w1.cell? ⟨b2, 1, none⟩ = some (.slice (some ⟨g2, 0, none⟩) q1 q1) ∧ w1.cell? ⟨g2, j, none⟩ = some (.iface t2 x2) := by
    have hb2 : b2 < W0.heap.size := World.block_lt_of_cell? _ _ HC2.out.1.2.2.2.1; have hg2 : g2 < W0.heap.size := HC2.out.1.2.2.2.2.1; exact ⟨cell_of_row _ _ 0 _ _ _ r1, hc1, cell_of_row _ _ 0 _ _ _ r2, (World.cell?_of_block (a := ⟨b2, 1, none⟩) (hblk b2 (by omega) (hlow b2 (by omega)))).trans hS0.2.2.2.1, (World.cell?_of_block (a := ⟨g2, j, none⟩) (hblk g2 (by omega) (hlow g2 (by omega)))).trans hS0.2.2.2.2⟩
   refine ⟨fun _ => hS1, ?_⟩; refine wpAnyU_all (rs := [15]) (by kernel_rfl) (by decide) ?_
   intro i' hi'
   obtain rfl : i' = 15 := by simpa using hi'
   clear hi'; refine wpOp_value (some 60) (by kernel_rfl) (by kernel_rfl) (v := .pointer (some ⟨sb, so, none⟩)) (w' := w1) (fun o ho => ?r15) ⟨fun _ => hS1, ?_⟩
   case r15 => cases ho; simp [execOp, go_sem, Act.eval, Act.put]
   refine wpAnyU_all (rs := [16]) (by kernel_rfl) (by decide) ?_
   intro i' hi'
   obtain rfl : i' = 16 := by simpa using hi'
   clear hi'; refine wpOp_skip none (by kernel_rfl) (by kernel_rfl) (w' := w1.setCell ⟨sb, so, none⟩ (.slice (some ⟨g', 0, none⟩) (n + 1) cap')) (fun o ho => ?r16) ⟨(fun h => by cases h), ?_⟩
   case r16 => cases ho; simp [execOp, go_sem, Act.eval, Act.put, hc1, hf1]
   refine wpAnyU_done (by kernel_rfl) ⟨rfl, ?_⟩ _
   have hKO : KeepsOthers W (w1.setCell ⟨sb, so, none⟩ (.slice (some ⟨g', 0, none⟩) (n + 1) cap')) := ((KeepsOthers.alloc W _).trans ((KeepsOthers.drew _).trans ((KeepsOthers.of_grownBy hgrow1 (fun k o e ho => by
    rcases hrow.2 with ⟨h', _⟩ | ⟨g2', cap2, cur, hv, _, hh, _⟩
    ·cases h'; cases e
    ·cases hv
     cases e
     have := (Below.heap_alloc W (.cells #[.iface t1 x1, .iface t2 x2] 135) _ (Array.getElem?_eq_some_iff.1 hh).1).trans hh; have h2 : some o = some (Obj.cells cur 135) := ho.symm.trans this
     cases h2; rfl)).trans (KeepsOthers.setCell _ _ _))))
   have hBW : Below B W (w1.setCell ⟨sb, so, none⟩ (.slice (some ⟨g', 0, none⟩) (n + 1) cap')) := ((((Below.refl B W).alloc (by omega) _).drew).grown hgrow1 (by show B ≤ (W.alloc _).heap.size; simp; omega) (fun k e => (hrow.lt k e).1)).setCell (p := ⟨sb, so, none⟩) hBs _
   have hne5 : w5.heap.size ≠ sb := by omega
   have hpair : st ++ (pre ++ [i]).map (fun i : Fin q1 => prAt x (i : Nat)) = st ++ pre.map (fun i : Fin q1 => prAt x (i : Nat)) ++ [prAt x j] := by rw [HEJ.out]; simp
   refine ⟨hKO.from _, ⟨hBW, fun v hv => ?_⟩, ⟨_, _, _, by rw [hpair]; exact hstk, ?_⟩, hkept.round hsb hown hneS hgrow1 _, ?_, ?_, ?_⟩
   ·rw [World.cell?_setCell_other _ _ _ _ (fun e => hne5 (congrArg Addr.block e).symm)]
    have := cell_of_row W _ 0 _ _ _ k3; rw [this] at hv; rw [← hv]; exact cell_of_row _ _ 0 _ _ _ r3
   ·rcases hat1 with h' | h'
    ·rcases hown with h2 | ⟨k, h2, hk⟩
     ·exact .inl (by rw [← h2, h']; rfl)
     ·exact .inr ⟨k, by rw [← h2, h']; rfl, hk⟩
    ·exact .inr ⟨g', rfl, by omega⟩
   ·exact (Below.heap_setCell _ _ _ _ (by simp; omega)).trans r1
   ·exact (Below.heap_setCell _ _ _ _ (by simp; omega)).trans r2
   ·exact (Below.heap_setCell _ _ _ _ (by simp; omega)).trans r3
  case done =>
   rintro D ys W hD rfl ⟨⟨p, n, c, hst, hown⟩, hkept, k1, k2, k3⟩ hK; rw [prAt_all x q1 HC1.out.2.2 HC2.out.2.2, ← HX.out] at hst
   have HR : Hid (OpenOut W0 Bt w B sb so (Value.ownBlock (.slice p0 n0 c0)) st x (.returned (.bool true)) (W.putObj D (.deferred none))) := by
    have hr : ∀ r, some D = some r → ∃ o : Obj, W.heap[r]? = some o ∧ o.isCells = false := fun r e => by cases e; exact ⟨_, hK, rfl⟩
    have hgp := grownBy_putObj' W D (.deferred none)
    have hD' : w.heap.size ≤ D := by simp at hD; omega
    have hb : ∀ k, k < w.heap.size → (W.putObj D (.deferred none)).heap[k]? = W.heap[k]? := fun k hk => hgp.block k (Nat.lt_of_lt_of_le hk hkept.size) (fun e => by cases e; omega)
    refine HOUT.out _ ⟨p, n, c, hst.kept hgp hr, hown⟩ ⟨hgp.os.trans hkept.os, hgp.tape.trans hkept.tape, hgp.output.trans hkept.output, Nat.le_trans hkept.size hgp.size, fun k h1 h2 h3 => (hb k h1).trans (hkept.block k h1 h2 h3),
     fun o ho => (World.cell?_of_block (a := ⟨sb, o, none⟩) (hb sb hsb)).trans (hkept.cells o ho), fun o => (World.frozen?_of_block (a := ⟨sb, o, none⟩) (hb sb hsb)).trans (hkept.frz o)⟩
   clear hst hown hkept k1 k2 k3
   gi_wp2
   refine ⟨by simp, .inl ⟨_, _, rfl, run_takeDeferred hK, ?_⟩⟩; exact ⟨.bool true, by simp [results, Tryz.f225, go_sem], HR.out⟩
  case stop =>
   rintro D c pre W _ _ h _; exact h.elim
 ·have ht : decide (x.1.1 = x.2.1) = false := by simpa using hx
  rw [ht] at hq
  have HOUT : Hid (∀ W, Below w.heap.size w W → OpenOut W0 Bt w B sb so (Value.ownBlock (.slice p0 n0 c0)) st x (.returned (.bool false)) W) := fun W hb =>
   ⟨by rw [ht], ⟨p0, n0, c0, by rw [opened, if_neg hx, List.append_nil]; exact h.below hb, .inl rfl⟩, Kept2.of_below _ hb hsb⟩
  refine callsIn_wide.2 ?_; simp only [Bool.not_false] at hq; clear h hc1 hc2 eq1 eq2 es1 es2 hl1 hl2 ht lift ho1 ho2 h31 h32 hx hW c10 c11 c20 c21
  go_enter Tryz.func225, Tryz.ntmps225
  go_wp2_with fail; have kk := hkk; have kc := kk.cell2
  go_region_held3 (fun W => W.cell? ⟨w.heap.size + 1 + 1, 0, none⟩ = some (.pointer (some ⟨b2, 0, none⟩))) (first | exact kc | go_keep)
   ((go_at_call 105; refine (HFF.out _ _ _ (by first | exact .inl ⟨rfl, rfl, rfl⟩ | exact .inr ⟨rfl, rfl, rfl⟩) _ (by first | exact kk)).mono ?_; clear kk kc; rintro e w5 ⟨rfl, kk⟩; have kc := kk.cell2))
  go_wp2_with fail; go_ret; exact HOUT.out _ kk.1
end
end Go.Proofs.YtdmmchoicngblaaGreatDoor
