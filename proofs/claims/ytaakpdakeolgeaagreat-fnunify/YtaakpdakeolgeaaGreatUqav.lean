/- Texts of Stk2, Make3, BackF, Until. Own work of the verifier. -/
import Derived.Test.YtaakpdakeolgeaaGreatUqau
import Derived.Test.YtaakpdakeolgeaaGreatUqam
import Derived.Laws.StructEq
import Derived.RangeFuncNested
import Derived.RangeFuncBound
import Derived.RangeFuncCalls
import Derived.RangeFuncLeaves
import Derived.Shelf.Abstract
import Derived.Shelf.RegionOpen
import Derived.WalkKit
import Derived.OwnWalkIn
import Derived.TacticsInMore
import Derived.LoopNIn
import Derived.LoopIn
import Derived.Sort.EveryDepth
import Derived.Test.YtaakpdakeolgeaaGreatUqaf
import Derived.OrdersHeld
namespace Go.Proofs.YtaakpdakeolgeaaGreat
open Go Go.RowKit
set_option linter.unusedVariables false
theorem turned_any (t1 : TypeId) (x1 : Value) (t2 : TypeId) (x2 : Value) (w : World) :
    Calls Tryz.prog 85 #[.agg #[.iface t1 x1, .iface t2 x2]] w fun e w' => e = .returned (.agg #[.iface t2 x2, .iface t1 x1]) ∧ Below w.heap.size w w' := by
  go_enter Tryz.func85, Tryz.ntmps85
  go_wp2
  exact bodyPost_ret (v := .agg #[.iface t2 x2, .iface t1 x1]) (by simp [results, Tryz.results85, go_sem]) rfl ⟨rfl, ((Below.refl _ _).alloc (Nat.le_refl _) _).alloc (by simp) _⟩
theorem pairEq {v1 v2 : Value} {b b' : Bool} (w : World) (h1 : ∀ w, (Op.equalIn 9999 57 v1 v2).run Tryz.prog w = .ok b w) (h2 : ∀ w, (Op.equalIn 9999 57 v2 v1).run Tryz.prog w = .ok b' w) :
    (binOp .eql 92 (.agg #[v1, v2]) (.agg #[v2, v1])).run Tryz.prog w = .ok (.bool (b && b')) w := by
  have u1 := Tryz.underlying92
  have z1 := Tryz.sizeOf57
  have a1 := Tryz.isAgg57
  simp only [binOp, Op.equal, Op.maxDepth]
  rw [show (10000 : Nat) = 9999 + 1 from rfl, Op.equalIn]
  simp only [Sem.run_bind, run_underlying u1, Result.andThen_ok]
  simp only [Std.Legacy.Range.forIn_eq_forIn_range', Std.Legacy.Range.size, Nat.sub_zero, Nat.add_sub_cancel, Nat.div_one, List.range'_succ, List.range'_zero, List.forIn_cons, List.forIn_nil]
  go_simp
  cases b <;> cases b' <;> simp
theorem ieq_ne (t t' : TypeId) (x y : Value) (h : t ≠ t') (w : World) : (Op.equalIn 9999 57 (.iface t x) (.iface t' y)).run Tryz.prog w = .ok false w := by
  rw [show (9999 : Nat) = 9998 + 1 from rfl, Op.equalIn]
  simp [run_underlying Tryz.underlying57, h]
theorem ieq_var (a b : Int) (w : World) : (Op.equalIn 9999 57 (.iface 63 (.int .i64 a)) (.iface 63 (.int .i64 b))).run Tryz.prog w = .ok (a == b) w := by kernel_rfl
theorem ieq_num (a b : Int) (w : World) : (Op.equalIn 9999 57 (.iface 130 (.int .i64 a)) (.iface 130 (.int .i64 b))).run Tryz.prog w = .ok (a == b) w := by kernel_rfl
theorem ieq_atom (a b : ByteArray) (w : World) : (Op.equalIn 9999 57 (.iface 131 (.string a)) (.iface 131 (.string b))).run Tryz.prog w = .ok (a == b) w := by kernel_rfl
theorem node_eq {W0 : World} {Bt : Nat} {c c' : Cel} {K K' : List Value → Prop} {v v' : Value} (hn : NodeIn W0 Bt c K v) (hn' : NodeIn W0 Bt c' K' v') (hc : cellB c.1 c.2.1 c.2.2.length = true) (hc' : cellB c'.1 c'.2.1 c'.2.2.length = true) (hb : Byte c.2.2) (hb' : Byte c'.2.2)
    (h3 : ¬ (c.1 = 3 ∧ c'.1 = 3)) (w : World) : (Op.equalIn 9999 57 v v').run Tryz.prog w = .ok (decide (c = c')) w := by
  have oth : c.1 ≠ c'.1 → decide (c = c') = false := fun h => by simp only [decide_eq_false_iff_not]; exact fun e => h (by rw [e])
  have txt : ∀ {c : Cel}, cellB c.1 c.2.1 c.2.2.length = true → c.1 = 0 ∨ c.1 = 1 → c.2.2 = [] := fun {c} h h0 => by
    rcases h0 with h0 | h0 <;> (rw [h0] at h; simp [cellB] at h; simpa using h.2.2)
  obtain ⟨k1, n1, x1⟩ := c
  obtain ⟨k2, n2, x2⟩ := c'
  simp only at *
  rcases hn with ⟨h0, rfl⟩ | ⟨h0, rfl⟩ | ⟨h0, rfl⟩ | ⟨h0, b, g, vs, rfl, _⟩ <;> rcases hn' with ⟨h0', rfl⟩ | ⟨h0', rfl⟩ | ⟨h0', rfl⟩ | ⟨h0', b', g', vs', rfl, _⟩ <;> simp only at h0 h0' <;> subst h0 h0'
  · have e1 := txt (c := (0, n1, x1)) hc (.inl rfl)
    have e2 := txt (c := (0, n2, x2)) hc' (.inl rfl)
    simp only at e1 e2
    subst e1 e2
    rw [ieq_var]; congr 1; rw [Bool.eq_iff_iff]; simp
  · rw [ieq_ne _ _ _ _ (by decide), oth (by decide)]
  · rw [ieq_ne _ _ _ _ (by decide), oth (by decide)]
  · rw [ieq_ne _ _ _ _ (by decide), oth (by decide)]
  · rw [ieq_ne _ _ _ _ (by decide), oth (by decide)]
  · have e1 := txt (c := (1, n1, x1)) hc (.inr rfl)
    have e2 := txt (c := (1, n2, x2)) hc' (.inr rfl)
    simp only at e1 e2
    subst e1 e2
    rw [ieq_num]; congr 1; rw [Bool.eq_iff_iff]; simp
  · rw [ieq_ne _ _ _ _ (by decide), oth (by decide)]
  · rw [ieq_ne _ _ _ _ (by decide), oth (by decide)]
  · rw [ieq_ne _ _ _ _ (by decide), oth (by decide)]
  · rw [ieq_ne _ _ _ _ (by decide), oth (by decide)]
  · have e1 : n1 = 0 := by simp [cellB] at hc; exact hc.2
    have e2 : n2 = 0 := by simp [cellB] at hc'; exact hc'.2
    subst e1 e2
    rw [ieq_atom, str_inj hb hb']; congr 1; rw [Bool.eq_iff_iff]; simp
  · rw [ieq_ne _ _ _ _ (by decide), oth (by decide)]
  · rw [ieq_ne _ _ _ _ (by decide), oth (by decide)]
  · rw [ieq_ne _ _ _ _ (by decide), oth (by decide)]
  · rw [ieq_ne _ _ _ _ (by decide), oth (by decide)]
  · exact (h3 ⟨rfl, rfl⟩).elim
theorem Kept2.of_below {w w' : World} {sb so : Nat} (g : Option Nat) (h : Below w.heap.size w w') (hs : sb < w.heap.size) : Kept2 w w' sb so g :=
  ⟨h.os, h.tape, h.output, h.size, fun k hk _ _ => h.block k hk, fun o _ => h.cell (p := ⟨sb, o, none⟩) hs, fun o => h.frozen (p := ⟨sb, o, none⟩) hs⟩
theorem Stk.below {W0 : World} {Bt : Nat} {w w' : World} {B sb so : Nat} {p : Option Addr} {n c : Nat} {st : List TT} (h : Stk W0 Bt w B sb so p n c st) (hb : Below w.heap.size w w') : Stk W0 Bt w' B sb so p n c st := by
  have hs : sb < w.heap.size := World.block_lt_of_cell? _ _ h.cell
  obtain ⟨vs, hr, hp⟩ := h.row
  exact ⟨(hb.cell (p := ⟨sb, so, none⟩) hs).trans h.cell, (hb.frozen (p := ⟨sb, so, none⟩) hs).trans h.free, h.len, ⟨vs, row_below hr hb, hp⟩, h.away⟩
def OpenOut (W0 : World) (Bt : Nat) (w : World) (B sb so : Nat) (g : Option Nat) (st : List TT) (x : TT) (e : Ending) (w' : World) : Prop :=
  e = .returned (.bool (decide (x.1.1 = x.2.1))) ∧ (∃ p n c, Stk W0 Bt w' B sb so p n c (st ++ opened x) ∧ (Value.ownBlock (.slice p n c) = g ∨ ∃ k, Value.ownBlock (.slice p n c) = some k ∧ w.heap.size ≤ k)) ∧ Kept2 w w' sb so g
theorem opened_leaf {x : TT} (h1 : x.1.ok) (h2 : x.2.ok) (h3 : ¬ (x.1.1.1 = 3 ∧ x.2.1.1 = 3)) : opened x = [] := by
  unfold opened argPairs
  split
  · rename_i h
    have h3' : x.1.1.1 ≠ 3 := fun e => h3 ⟨e, by rw [← h]; exact e⟩
    have e1 : x.1.2 = .nil := h1.2.2.2.1 h3'
    rw [e1]; rfl
  · rfl
set_option maxRecDepth 100000 in
set_option maxHeartbeats 1000000 in
theorem openLeaf_any (W0 : World) (Bt : Nat) (w : World) (B sb so : Nat) (p : Option Addr) (n c : Nat) (st : List TT) (x : TT) (v1 v2 : Value) (h : Stk W0 Bt w B sb so p n c st) (hx1 : FoIn W0 Bt x.1.fo [v1]) (hx2 : FoIn W0 Bt x.2.fo [v2]) (ho1 : x.1.ok) (ho2 : x.2.ok) (h3 : ¬ (x.1.1.1 = 3 ∧ x.2.1.1 = 3)) :
    Calls Tryz.prog 69 #[.pointer (some ⟨sb, so, none⟩), .agg #[v1, v2]] w (OpenOut W0 Bt w B sb so (Value.ownBlock (.slice p n c)) st x) := by
  have hlt : sb < w.heap.size := World.block_lt_of_cell? _ _ h.cell
  have HFIN : Hid (∀ w', Below w.heap.size w w' → OpenOut W0 Bt w B sb so (Value.ownBlock (.slice p n c)) st x (.returned (.bool (decide (x.1.1 = x.2.1)))) w') := fun w' hb =>
    ⟨rfl, ⟨p, n, c, by rw [opened_leaf ho1 ho2 h3, List.append_nil]; exact h.below hb, .inl rfl⟩, Kept2.of_below _ hb hlt⟩
  obtain ⟨u1, r1, e1, hn1, _⟩ := hx1
  obtain ⟨rfl, rfl⟩ := List.cons.inj e1
  obtain ⟨u2, r2, e2, hn2, _⟩ := hx2
  obtain ⟨rfl, rfl⟩ := List.cons.inj e2
  have hq : ∀ w, (binOp .eql 92 (.agg #[v1, v2]) (.agg #[v2, v1])).run Tryz.prog w = .ok (.bool (decide (x.1.1 = x.2.1))) w := fun w => by
    have := pairEq w (fun w => node_eq hn1 hn2 ho1.1 ho2.1 ho1.2.1 ho2.2.1 h3 w) (fun w => node_eq hn2 hn1 ho2.1 ho1.1 ho2.2.1 ho1.2.1 (fun h => h3 ⟨h.2, h.1⟩) w)
    rw [this]
    congr 2
    rw [Bool.eq_iff_iff]
    simp only [Bool.and_eq_true, decide_eq_true_eq]
    exact ⟨fun h => h.1, fun h => ⟨h, h.symm⟩⟩
  obtain ⟨t1, x1, rfl⟩ := hn1.iface
  obtain ⟨t2, x2, rfl⟩ := hn2.iface
  have hty : ∃ (p1 p2 : Option Addr) (b1 b2 : Bool), (∀ w, (Instr.typeAssert (.iface t1 x1) 57 112 true).run Tryz.prog w = .ok (.tuple #[.pointer p1, .bool b1]) w) ∧ (∀ w, (Instr.typeAssert (.iface t2 x2) 57 112 true).run Tryz.prog w = .ok (.tuple #[.pointer p2, .bool b2]) w) ∧ (b1 = false ∨ (b1 = true ∧ b2 = false)) := by
    have one : ∀ {c : Cel} {K : List Value → Prop} {t : TypeId} {y : Value}, NodeIn W0 Bt c K (.iface t y) → ∃ (p : Option Addr) (b : Bool), (∀ w, (Instr.typeAssert (.iface t y) 57 112 true).run Tryz.prog w = .ok (.tuple #[.pointer p, .bool b]) w) ∧ (b = true → c.1 = 3) := fun {c K t y} hn => by
      rcases hn with ⟨_, e⟩ | ⟨_, e⟩ | ⟨_, e⟩ | ⟨h, b, g, vs, e, _⟩
      · cases e; exact ⟨_, _, fun w => noComp_var w _, fun h => by cases h⟩
      · cases e; exact ⟨_, _, fun w => noComp_num w _, fun h => by cases h⟩
      · cases e; exact ⟨_, _, fun w => noComp_atom w _, fun h => by cases h⟩
      · cases e; exact ⟨_, _, fun w => isComp w _, fun _ => h⟩
    obtain ⟨p1, b1, f1, g1⟩ := one hn1
    obtain ⟨p2, b2, f2, g2⟩ := one hn2
    refine ⟨p1, p2, b1, b2, f1, f2, ?_⟩
    cases b1 with
    | false => exact .inl rfl
    | true =>
      refine .inr ⟨rfl, ?_⟩
      cases b2 with
      | false => rfl
      | true => exact (h3 ⟨g1 rfl, g2 rfl⟩).elim
  obtain ⟨p1, p2, b1, b2, a1, a2, hbb⟩ := hty
  obtain ⟨r, er⟩ : ∃ r, r = decide (x.1.1 = x.2.1) := ⟨_, rfl⟩
  rw [← er] at hq HFIN
  have HT := fun W => turned_any t1 x1 t2 x2 W
  clear er h hn1 hn2 ho1 ho2 h3 e1 e2
  have HEND : Hid (∀ (W : World), Below w.heap.size w W → W.cell? ⟨w.heap.size + 1, 0, none⟩ = some (.iface t1 x1) → W.cell? ⟨w.heap.size + 1, 1, none⟩ = some (.iface t2 x2) → w.heap.size + 1 < W.heap.size → ∀ w5, Below W.heap.size W w5 → Below w.heap.size w w5 ∧ w5.cell? ⟨w.heap.size + 1, 0, none⟩ = some (.iface t1 x1) ∧ w5.cell? ⟨w.heap.size + 1, 1, none⟩ = some (.iface t2 x2)) := fun W hW k0 k1 hs w5 h5 =>
    ⟨Below.on hW h5, (h5.cell (p := ⟨w.heap.size + 1, 0, none⟩) hs).trans k0, (h5.cell (p := ⟨w.heap.size + 1, 1, none⟩) hs).trans k1⟩
  have HB3 : ∀ a b d, Below w.heap.size w (((w.alloc a).alloc b).alloc d) := fun a b d => (((Below.refl _ _).alloc (Nat.le_refl _) _).alloc (by simp) _).alloc (by simp; omega) _
  have HBD : Hid (∀ a b d, Below w.heap.size w (((w.alloc a).alloc b).alloc d).drew) := fun a b d => (HB3 a b d).drew
  have HK : Hid (∀ a d : Obj, (((w.alloc a).alloc (.cells #[.iface t1 x1, .iface t2 x2] 92)).alloc d).cell? ⟨w.heap.size + 1, 0, none⟩ = some (.iface t1 x1) ∧ (((w.alloc a).alloc (.cells #[.iface t1 x1, .iface t2 x2] 92)).alloc d).cell? ⟨w.heap.size + 1, 1, none⟩ = some (.iface t2 x2)) := fun a d => by
    have h1 := heap_three w a (.cells #[.iface t1 x1, .iface t2 x2] 92) d
    exact ⟨cell_of_row _ _ 0 _ _ _ h1.1, cell_of_row _ _ 1 _ _ _ h1.1⟩
  have hg : ∀ (o1 o2 : Operand) (W : World), (eqGuard BinOp.eql 92 o1 o2 (.agg #[.iface t1 x1, .iface t2 x2]) (.agg #[.iface t2 x2, .iface t1 x1])).run Tryz.prog W = .ok () W := fun o1 o2 W => by kernel_rfl
  clear HB3
  rcases hbb with rfl | ⟨rfl, rfl⟩
  · go_enter Tryz.func69, Tryz.ntmps69
    go_wp2_with fail
    go_region_held3 (fun W => W.cell? ⟨w.heap.size + 1, 0, none⟩ = some (.iface t1 x1) ∧ W.cell? ⟨w.heap.size + 1, 1, none⟩ = some (.iface t2 x2)) (first | exact ⟨kk.2.1, kk.2.2⟩ | go_keep)
      ((go_at_call 85; refine (HT _).mono ?_; rintro e w5 ⟨rfl, hb5⟩; have kk := HEND.out _ (HBD.out _ _ _) (HK.out _ _).1 (HK.out _ _).2 (by simp) w5 hb5))
    all_goals go_wp2_with fail
    go_ret
    exact HFIN.out _ kk.1
  · go_enter Tryz.func69, Tryz.ntmps69
    go_wp2_with fail
    go_region_held3 (fun W => W.cell? ⟨w.heap.size + 1, 0, none⟩ = some (.iface t1 x1) ∧ W.cell? ⟨w.heap.size + 1, 1, none⟩ = some (.iface t2 x2)) (first | exact ⟨kk.2.1, kk.2.2⟩ | go_keep)
      ((go_at_call 85; refine (HT _).mono ?_; rintro e w5 ⟨rfl, hb5⟩; have kk := HEND.out _ (HBD.out _ _ _) (HK.out _ _).1 (HK.out _ _).2 (by simp) w5 hb5))
    all_goals go_wp2_with fail
    go_ret
    exact HFIN.out _ kk.1
end Go.Proofs.YtaakpdakeolgeaaGreat

namespace Go.Proofs.YtaakpdakeolgeaaGreat
open Go Go.RowKit Go.Shelf
set_option linter.unusedVariables false
attribute [local go_sem] Oper.semAt_some
def BKeep (n₀ Bs : Nat) (A B : World) : Prop := Below n₀ A B ∧ ∀ v, A.cell? ⟨Bs, 0, none⟩ = some v → B.cell? ⟨Bs, 0, none⟩ = some v
theorem BKeep.refl (n₀ Bs : Nat) (A : World) : BKeep n₀ Bs A A := ⟨Below.refl _ _, fun _ h => h⟩
theorem BKeep.trans {n₀ Bs : Nat} {A B C : World} (h : BKeep n₀ Bs A B) (k : BKeep n₀ Bs B C) : BKeep n₀ Bs A C := ⟨h.1.trans k.1, fun v hv => k.2 v (h.2 v hv)⟩
set_option maxHeartbeats 1000000 in
theorem back_in (F : Fence) (n : Nat) (h5 : F.fn 87) (hro : F.round = none) (a : Option Addr) (len cap : Nat) (w : World) :
    CallsIn F n Tryz.prog 87 #[.slice a len cap] w fun e w' => e = .returned (.func (.func 92) #[] #[.pointer (some ⟨w.heap.size, 0, none⟩)]) ∧ w' = w.alloc (.cells #[.slice a len cap] 113) := by
  refine callsIn_of_wp Tryz.func87 rfl h5 ?_ hro
  simp only [Tryz.ntmps87, List.size_toArray, List.length_cons, List.length_nil, Nat.reduceAdd, Nat.reduceSub, Array.replicate_succ, Array.replicate_zero, List.push_toArray, List.append_toArray, List.nil_append, List.cons_append]
  gi_wp2
  go_ret
  exact ⟨rfl, rfl⟩
theorem bKeep_b {n₀ Bs : Nat} {w : World} (hn : n₀ ≤ w.heap.size) (W : World) (l : Nat) (o o' : Obj) (hl : w.heap.size ≤ l) (h : W.heap[l]? = some o) (ho : o.isCells = false) (hw : o.isWalk = false) : BKeep n₀ Bs W (W.putObj l o') :=
  ⟨belowK_b hn W l o o' hl h ho hw, fun v hv => cell_kept hv (grownBy_putObj' W l o') (fun r e => by cases e; exact ⟨_, h, ho⟩)⟩
end Go.Proofs.YtaakpdakeolgeaaGreat

namespace Go.Proofs.YtaakpdakeolgeaaGreat
open Go Go.RowKit Go.Shelf
set_option linter.unusedVariables false
attribute [local go_sem] Oper.semAt_some
def downF (len j : Nat) : List (Fin len) := (List.finRange len).reverse.take j
theorem downF_succ {len m : Nat} (h : m < len) : downF len (len - m) = downF len (len - (m + 1)) ++ [⟨m, h⟩] := by
  unfold downF
  have e : len - m = len - (m + 1) + 1 := by omega
  rw [e, List.take_add_one]
  congr 1
  rw [List.getElem?_reverse (by simp; omega)]
  simp only [List.length_finRange]
  rw [List.getElem?_eq_getElem (by simp; omega)]
  simp only [List.getElem_finRange, Option.toList_some, List.cons.injEq, and_true]
  apply Fin.ext
  simp; omega
theorem downF_length {len m : Nat} (h : m ≤ len) : (downF len m).length = m := by simp [downF, h]
theorem downF_all (len : Nat) : downF len len = (List.finRange len).reverse := by
  unfold downF
  rw [List.take_of_length_le (by simp)]
set_option maxRecDepth 100000 in
set_option maxHeartbeats 2000000 in
theorem backF_in (F : Fence) (n : Nat) (h7 : F.fn 92) (hro : F.round = none) (hn : 1 ≤ n) (l Bs n₀ b len cap : Nat) (zs : List (Nat × Value)) (hlen : len ≤ 2000) (hb : b < n₀) (J Jx : List (Fin len) → World → Prop)
    (hY : ∀ pre (x : Fin len) W, J pre W → pre.length < len → YieldAt F (n - 1) Tryz.prog l #[.int .i64 ((x : Nat) : Int), .iface (zs[(x : Nat)]?.getD (0, .nilIface)).1 (zs[(x : Nat)]?.getD (0, .nilIface)).2] W fun e W' =>
      (e = .returned (.bool true) ∧ J (pre ++ [x]) W' ∧ BKeep n₀ Bs W W') ∨ (e = .returned (.bool false) ∧ Jx (pre ++ [x]) W'))
    (W : World) (hBs : W.cell? ⟨Bs, 0, none⟩ = some (.slice (some ⟨b, 0, none⟩) len cap)) (hc : ∀ j, j < len → W.cell? ⟨b, j, none⟩ = some (.iface (zs[j]?.getD (0, .nilIface)).1 (zs[j]?.getD (0, .nilIface)).2)) (h0 : J [] W) :
    CallsIn F n Tryz.prog 92 #[.func (.yield l) #[] #[], .pointer (some ⟨Bs, 0, none⟩)] W fun e W' => (∃ v, e = .returned v) ∧
      ((∃ ys, ys = downF len len ∧ J ys W') ∨ (∃ pre, True ∧ Jx pre W')) := by
  refine callsIn_of_wp Tryz.func92 rfl h7 ?_ hro
  simp only [Tryz.ntmps92, List.size_toArray, List.length_cons, List.length_nil, Nat.reduceAdd, Nat.reduceSub, Array.replicate_succ, Array.replicate_zero, List.push_toArray, List.append_toArray, List.nil_append, List.cons_append]
  gi_wp2
  gi_loopw [3] (fun i wr => ∃ m : Nat, m ≤ len ∧ i = .int .i64 ((m : Int) - 1) ∧ J (downF len (len - m)) wr ∧ BKeep n₀ Bs W wr)
    (fun i _ => (intOf i + 1).toNat)
  case atStart => exact ⟨len, Nat.le_refl _, by go_num, by rw [Nat.sub_self]; exact h0, BKeep.refl _ _ _⟩
  case round =>
    obtain ⟨m, hm, rfl, hJs, hnx⟩ := hrel
    have hBs' := hnx.2 _ hBs
    cases m with
    | zero =>
      gi_wp2
      go_end0
      exact ⟨⟨_, rfl⟩, .inl ⟨_, rfl, hJs⟩⟩
    | succ m =>
      have hcx := (hnx.1.cell (p := ⟨b, m, none⟩) hb).trans (hc m (by omega))
      have e1 : ((m + 1 : Nat) : Int) - 1 = (m : Int) := by omega
      have e4 := downF_succ (len := len) (m := m) (by omega)
      obtain ⟨fn, tmps, assign, body, hy, hR⟩ := hY _ ⟨m, by omega⟩ wr hJs (by rw [downF_length (by omega)]; omega)
      dsimp only at hy
      rw [← e4] at hR
      rw [e1]
      obtain ⟨tv, etv⟩ : ∃ tv, tv = (zs[m]?.getD (0, .nilIface)).1 := ⟨_, rfl⟩
      obtain ⟨xv, exv⟩ : ∃ xv, xv = (zs[m]?.getD (0, .nilIface)).2 := ⟨_, rfl⟩
      rw [← etv, ← exv] at hy hcx
      have hR' : Hid _ := hR
      clear e1 e4 etv exv
      gi_wp2
      refine hR.mono ?_
      rintro e W3 (⟨rfl, hJ3, hk3⟩ | ⟨rfl, hJx3⟩)
      · gi_wp2
        go_roundw
        case rel => exact ⟨m, by omega, by go_num, hJ3, hnx.trans hk3⟩
        case measure => simp [intOf]
      · gi_wp2
        refine bodyPost_ret (results_none rfl _ _ _) rfl ?_
        exact ⟨⟨_, rfl⟩, .inr ⟨_, trivial, hJx3⟩⟩
theorem backF_stops (F : Fence) (n : Nat) (h7 : F.fn 92) (hro : F.round = none) (hn : 1 ≤ n) (Bs n₀ b len cap : Nat) (zs : List (Nat × Value)) (hlen : len ≤ 2000) (w : World) (hBs : Bs < w.heap.size) (hn₀ : n₀ ≤ w.heap.size) (hb : b < n₀)
    (hcB : w.cell? ⟨Bs, 0, none⟩ = some (.slice (some ⟨b, 0, none⟩) len cap)) (hc : ∀ j, j < len → w.cell? ⟨b, j, none⟩ = some (.iface (zs[j]?.getD (0, .nilIface)).1 (zs[j]?.getD (0, .nilIface)).2)) :
    SeqStopsK F n Tryz.prog 92 #[.pointer (some ⟨Bs, 0, none⟩)] (fun x : Fin len => #[Value.int .i64 ((x : Nat) : Int), Value.iface (zs[(x : Nat)]?.getD (0, .nilIface)).1 (zs[(x : Nat)]?.getD (0, .nilIface)).2]) (BKeep n₀ Bs) (fun ys => ys = downF len len) (fun _ => True) len w := fun l J Jx W hW _ _ hY h0 => by
  exact backF_in F n h7 hro hn l Bs n₀ b len cap zs hlen hb J Jx hY W ((hW.cell (p := ⟨Bs, 0, none⟩) hBs).trans hcB) (fun j hj => (hW.cell (p := ⟨b, j, none⟩) (by show b < _; omega)).trans (hc j hj)) h0
end Go.Proofs.YtaakpdakeolgeaaGreat

namespace Go.Proofs.YtaakpdakeolgeaaGreat
open Go
section
variable {P : Program} {ops : Array Oper} {Q : Exit → Act → World → Prop} {md : Region.Mode} {S : World → Prop} {c : Nat}
def wpAnyU (P : Program) (md : Region.Mode) (ops : Array Oper) (Q : Exit → Act → World → Prop) (S : World → Prop) (c : Nat) : Nat → Array Bool → Act → World → Prop
  | 0, listed, a, w => Region.ready md ops listed = [] ∧ Q .normal a w
  | fuel + 1, listed, a, w =>
    (Region.ready md ops listed = [] → Q .normal a w) ∧
    ∀ i ∈ Region.ready md ops listed, wpOp P ops Q i (fun a' w' => ((listed.setIfInBounds i true).getD c true = false → S w') ∧ wpAnyU P md ops Q S c fuel (listed.setIfInBounds i true) a' w') a w
theorem wpAny_of_until : ∀ (fuel : Nat) (listed : Array Bool) (a : Act) (w : World), wpAnyU P md ops Q S c fuel listed a w → wpAny P md ops Q fuel listed a w
  | 0, _, _, _, h => h
  | fuel + 1, _, _, _, h => ⟨h.1, fun i hi => wpOp_mono (fun a' w' h' => wpAny_of_until fuel _ a' w' h'.2) (h.2 i hi)⟩
def waitsB (md : Region.Mode) (ops : Array Oper) (D : List Nat) (i : Nat) : Bool :=
  !D.contains i && D.all fun d => match ops[d]? with
    | some o => o.after.any fun e => Region.binds md e && (e.on == i || D.contains e.on)
    | none => false
theorem waits_spec {D : List Nat} {i : Nat} (h : waitsB md ops D i = true) : i ∉ D ∧ ∀ d ∈ D, ∃ o, ops[d]? = some o ∧ ∃ e ∈ o.after, Region.binds md e = true ∧ (e.on = i ∨ e.on ∈ D) := by
  simp only [waitsB, Bool.and_eq_true, Bool.not_eq_true', List.all_eq_true] at h
  refine ⟨by simpa using h.1, fun d hd => ?_⟩
  have h2 := h.2 d hd
  cases ho : ops[d]? with
  | none => simp [ho] at h2
  | some o =>
    simp only [ho, Array.any_eq_true', Bool.and_eq_true, Bool.or_eq_true, beq_iff_eq, List.contains_iff_mem] at h2
    obtain ⟨e, he, hb, hx⟩ := h2
    exact ⟨o, rfl, e, he, hb, hx⟩
theorem wpAnyU_first {i : Nat} {oi : Oper} {v : Value} {D : List Nat} (hi : ops[i]? = some oi) (hsel : ∀ (j : Nat) (o : Oper) cs b, ops[j]? = some o → o.op ≠ .select cs b)
    (hQ : ∀ c a w, Q (.panic c) (a.put oi.dst v) w → Q (.panic c) a w) (hw : waitsB md ops D i = true) (hcD : c ∈ D) :
    ∀ (fuel : Nat) (listed : Array Bool) (a : Act) (w : World),
      (∀ j oj, ops[j]? = some oj → j ≠ i → listed.getD j true = false → (∀ e ∈ oj.after, Region.binds md e = true → e.on ≠ i) → oi.apart ops oj = true) →
      (∀ d ∈ D, listed.getD d true = false) →
      i ∈ Region.ready md ops listed → YieldsIf P ops S oi v a → S w →
      wpAnyU P md ops Q S c fuel (listed.setIfInBounds i true) (a.put oi.dst v) w → wpAnyU P md ops Q S c (fuel + 1) listed a w := by
  obtain ⟨hiD, hwait⟩ := waits_spec hw
  intro fuel
  induction fuel with
  | zero =>
    intro listed a w _ _ hr hy hS H
    refine ⟨fun h => (by rw [h] at hr; cases hr), fun j hj => ?_⟩
    by_cases hji : j = i
    · subst hji; exact hy.wpOp hi hS ⟨fun _ => hS, H⟩
    · have := ready_mono hj hji
      rw [H.1] at this
      cases this
  | succ fuel ih =>
    intro listed a w hfree hD hr hy hS H
    refine ⟨fun h => (by rw [h] at hr; cases hr), fun j hj => ?_⟩
    by_cases hji : j = i
    · subst hji; exact hy.wpOp hi hS ⟨fun _ => hS, H⟩
    · have h1 := H.2 j (ready_mono hj hji)
      obtain ⟨hjun, oj, hoj, hall⟩ := mem_ready.1 hj
      have hnot : ∀ e ∈ oj.after, Region.binds md e = true → e.on ≠ i := fun e he hb heq => by
        have h1 := hall e he hb
        have h0 := (mem_ready.1 hr).1
        rw [heq] at h1
        rcases Nat.lt_or_ge i listed.size with h' | h'
        · simp [h'] at h0 h1; rw [h0] at h1; cases h1
        · simp [Array.getElem?_eq_none h'] at h1
      have hjD : j ∉ D := fun hjD => by
        obtain ⟨o, ho, e, he, hb, hx⟩ := hwait j hjD
        rw [hoj] at ho
        cases ho
        rcases hx with hx | hx
        · exact hnot e he hb hx
        · have h1 := hall e he hb
          have h0 := hD _ hx
          rcases Nat.lt_or_ge e.on listed.size with h' | h'
          · simp [h'] at h0 h1; rw [h0] at h1; cases h1
          · simp [Array.getElem?_eq_none h'] at h1
      have hkeep : ∀ d ∈ D, (listed.setIfInBounds j true).getD d true = false := fun d hd => by
        rw [getD_set_ne true (show j ≠ d from fun e => hjD (e ▸ hd))]; exact hD d hd
      have hcj : ((listed.setIfInBounds i true).setIfInBounds j true).getD c true = false := by
        rw [getD_set_ne true (show j ≠ c from fun e => hjD (e ▸ hcD)), getD_set_ne true (show i ≠ c from fun e => hiD (e ▸ hcD))]; exact hD c hcD
      have h2 := wpOp_putIf hoj (hfree j oj hoj hji hjun hnot) (fun cs b => hsel i oi cs b hi) (fun cs b => hsel j oj cs b hoj) hQ hy h1
      have hfree' : ∀ k ok, ops[k]? = some ok → k ≠ i → (listed.setIfInBounds j true).getD k true = false →
          (∀ e ∈ ok.after, Region.binds md e = true → e.on ≠ i) → oi.apart ops ok = true := fun k ok hk hki hun hno => by
        refine hfree k ok hk hki ?_ hno
        by_cases hjk : j = k
        · subst hjk; exact hjun
        · rw [getD_set_ne true hjk] at hun; exact hun
      refine wpOp_mono (fun a' w' h3 => ⟨fun _ => h3.2.1 hcj, ih (listed.setIfInBounds j true) a' w' hfree' hkeep (ready_mono hr (Ne.symm hji)) h3.1 (h3.2.1 hcj) ?_⟩) h2
      rw [Array.setIfInBounds_comm _ _ hji]
      exact h3.2.2
theorem wpAnyU_take {i : Nat} {v : Value} {D : List Nat} {fuel : Nat} {listed : Array Bool} {a : Act} {w : World} (d : Option Tmp) (hd : (ops[i]?).map (·.dst) = some d)
    (hs : Region.noSelect ops = true) (hf : Region.free md ops listed i = true) (hr : (Region.ready md ops listed).contains i = true) (hw : waitsB md ops D i = true) (hcD : D.contains c = true) (hD : (D.all fun d => !listed.getD d true) = true)
    (hQ : ∀ c a w, Q (.panic c) (a.put d v) w → Q (.panic c) a w) (hy : ∀ oi, ops[i]? = some oi → YieldsIf P ops S oi v a) (hS : S w)
    (h : wpAnyU P md ops Q S c fuel (listed.setIfInBounds i true) (a.put d v) w) : wpAnyU P md ops Q S c (fuel + 1) listed a w := by
  cases hi : ops[i]? with
  | none => simp [hi] at hd
  | some oi =>
    have hd' : oi.dst = d := by simpa [hi] using hd
    subst hd'
    exact wpAnyU_first hi (Region.noSelect_spec hs) hQ hw (by simpa using hcD) fuel listed a w (Region.free_spec hi hf) (fun d hd => by have := List.all_eq_true.1 hD d hd; simpa using this) (by simpa using hr) (hy oi hi) hS h
theorem wpAnyU_all {rs : List Nat} {fuel : Nat} {listed : Array Bool} {a : Act} {w : World} (hr : Region.ready md ops listed = rs) (hne : rs ≠ [])
    (h : ∀ i ∈ rs, wpOp P ops Q i (fun a' w' => ((listed.setIfInBounds i true).getD c true = false → S w') ∧ wpAnyU P md ops Q S c fuel (listed.setIfInBounds i true) a' w') a w) : wpAnyU P md ops Q S c (fuel + 1) listed a w :=
  ⟨fun h0 => absurd (hr ▸ h0) hne, hr ▸ h⟩
theorem wpAnyU_done {listed : Array Bool} {a : Act} {w : World} (hr : Region.ready md ops listed = []) (h : Q .normal a w) :
    ∀ fuel, wpAnyU P md ops Q S c fuel listed a w
  | 0 => ⟨hr, h⟩
  | _ + 1 => ⟨fun _ => h, by rw [hr]; simp⟩
theorem wpOp_value {i : Nat} {v : Value} {a : Act} {w w' : World} {K : Act → World → Prop} (d : Option Tmp) (hd : (ops[i]?).map (·.dst) = some d) (hw : (ops[i]?).map (fun o => Region.wanted o (yielded ops a.tmps)) = some true)
    (hrun : ∀ o, ops[i]? = some o → (execOp a.eval o).run P w = .ok (.value v) w') (hK : K (a.put d v) w') : wpOp P ops Q i K a w := by
  cases hi : ops[i]? with
  | none => simp [hi] at hd
  | some o =>
    have hd' : o.dst = d := by simpa [hi] using hd
    have hw' : Region.wanted o (yielded ops a.tmps) = true := by simpa [hi] using hw
    subst hd'
    unfold wpOp
    simp only [hi, hw', if_true, Oper.wp, hrun o hi, Oper.upon]
    exact .inl hK
theorem wpOp_skip {i : Nat} {a : Act} {w w' : World} {K : Act → World → Prop} (d : Option Tmp) (hd : (ops[i]?).map (·.dst) = some d) (hw : (ops[i]?).map (fun o => Region.wanted o (yielded ops a.tmps)) = some true)
    (hrun : ∀ o, ops[i]? = some o → (execOp a.eval o).run P w = .ok .skip w') (hK : K (a.put d undef) w') : wpOp P ops Q i K a w := by
  cases hi : ops[i]? with
  | none => simp [hi] at hd
  | some o =>
    have hd' : o.dst = d := by simpa [hi] using hd
    have hw' : Region.wanted o (yielded ops a.tmps) = true := by simpa [hi] using hw
    subst hd'
    unfold wpOp
    simp only [hi, hw', if_true, Oper.wp, hrun o hi, Oper.upon]
    exact .inl hK
end
end Go.Proofs.YtaakpdakeolgeaaGreat

