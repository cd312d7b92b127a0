/- Texts of Stk2, Make3, BackF. Own work of the verifier. -/
import Derived.Test.YtedlcmkhbccjgaaUqan
import Derived.Test.YtedlcmkhbccjgaaUqak
import Derived.Laws.StructEq
import Derived.RangeFuncNested
import Derived.RangeFuncBound
import Derived.RangeFuncCalls
import Derived.RangeFuncLeaves
import Derived.Shelf.Abstract
import Derived.Shelf.RegionOpen
import Derived.WalkKit
import Derived.OwnWalkIn
import Derived.TacticsInMore
import Derived.LoopNIn
import Derived.LoopIn
import Derived.Sort.EveryDepth
import Derived.Test.YtedlcmkhbccjgaaUqaf
namespace Go.Proofs.Ytedlcmkhbccjgaa
open Go Go.RowKit
set_option linter.unusedVariables false

theorem turned_any (t1 : TypeId) (x1 : Value) (t2 : TypeId) (x2 : Value) (w : World) :
    Calls Try.prog 84 #[.agg #[.iface t1 x1, .iface t2 x2]] w fun e w' => e = .returned (.agg #[.iface t2 x2, .iface t1 x1]) ∧ Below w.heap.size w w' := by
  go_enter Try.func84, Try.ntmps84
  go_wp2
  exact bodyPost_ret (v := .agg #[.iface t2 x2, .iface t1 x1]) (by simp [results, Try.results84, go_sem]) rfl ⟨rfl, ((Below.refl _ _).alloc (Nat.le_refl _) _).alloc (by simp) _⟩
theorem pairEq {v1 v2 : Value} {b b' : Bool} (w : World) (h1 : ∀ w, (Op.equalIn 9999 53 v1 v2).run Try.prog w = .ok b w) (h2 : ∀ w, (Op.equalIn 9999 53 v2 v1).run Try.prog w = .ok b' w) :
    (binOp .eql 91 (.agg #[v1, v2]) (.agg #[v2, v1])).run Try.prog w = .ok (.bool (b && b')) w := by
  have u1 := Try.underlying91
  have z1 := Try.sizeOf53
  have a1 := Try.isAgg53
  simp only [binOp, Op.equal, Op.maxDepth]
  rw [show (10000 : Nat) = 9999 + 1 from rfl, Op.equalIn]
  simp only [Sem.run_bind, run_underlying u1, Result.andThen_ok]
  simp only [Std.Legacy.Range.forIn_eq_forIn_range', Std.Legacy.Range.size, Nat.sub_zero, Nat.add_sub_cancel, Nat.div_one, List.range'_succ, List.range'_zero, List.forIn_cons, List.forIn_nil]
  go_simp
  cases b <;> cases b' <;> simp
theorem ieq_ne (t t' : TypeId) (x y : Value) (h : t ≠ t') (w : World) : (Op.equalIn 9999 53 (.iface t x) (.iface t' y)).run Try.prog w = .ok false w := by
  rw [show (9999 : Nat) = 9998 + 1 from rfl, Op.equalIn]
  simp [run_underlying Try.underlying53, h]
theorem ieq_var (a b : Int) (w : World) : (Op.equalIn 9999 53 (.iface 67 (.int .i64 a)) (.iface 67 (.int .i64 b))).run Try.prog w = .ok (a == b) w := by kernel_rfl
theorem ieq_num (a b : Int) (w : World) : (Op.equalIn 9999 53 (.iface 139 (.int .i64 a)) (.iface 139 (.int .i64 b))).run Try.prog w = .ok (a == b) w := by kernel_rfl
theorem ieq_atom (a b : ByteArray) (w : World) : (Op.equalIn 9999 53 (.iface 140 (.string a)) (.iface 140 (.string b))).run Try.prog w = .ok (a == b) w := by kernel_rfl
/-- Two nodes, not both compounds, compared as values. -/
theorem node_eq {W0 : World} {Bt : Nat} {c c' : Cel} {K K' : List Value → Prop} {v v' : Value} (hn : NodeIn W0 Bt c K v) (hn' : NodeIn W0 Bt c' K' v') (hc : cellB c.1 c.2.1 c.2.2.length = true) (hc' : cellB c'.1 c'.2.1 c'.2.2.length = true) (hb : Byte c.2.2) (hb' : Byte c'.2.2)
    (h3 : ¬ (c.1 = 3 ∧ c'.1 = 3)) (w : World) : (Op.equalIn 9999 53 v v').run Try.prog w = .ok (decide (c = c')) w := by
  have oth : c.1 ≠ c'.1 → decide (c = c') = false := fun h => by simp only [decide_eq_false_iff_not]; exact fun e => h (by rw [e])
  have txt : ∀ {c : Cel}, cellB c.1 c.2.1 c.2.2.length = true → c.1 = 0 ∨ c.1 = 1 → c.2.2 = [] := fun {c} h h0 => by
    rcases h0 with h0 | h0 <;> (rw [h0] at h; simp [cellB] at h; simpa using h.2.2)
  obtain ⟨k1, n1, x1⟩ := c
  obtain ⟨k2, n2, x2⟩ := c'
  simp only at *
  rcases hn with ⟨h0, rfl⟩ | ⟨h0, rfl⟩ | ⟨h0, rfl⟩ | ⟨h0, b, g, vs, rfl, _⟩ <;> rcases hn' with ⟨h0', rfl⟩ | ⟨h0', rfl⟩ | ⟨h0', rfl⟩ | ⟨h0', b', g', vs', rfl, _⟩ <;> simp only at h0 h0' <;> subst h0 h0'
  · have e1 := txt (c := (0, n1, x1)) hc (.inl rfl)
    have e2 := txt (c := (0, n2, x2)) hc' (.inl rfl)
    simp only at e1 e2
    subst e1 e2
    rw [ieq_var]; congr 1; rw [Bool.eq_iff_iff]; simp
  · rw [ieq_ne _ _ _ _ (by decide), oth (by decide)]
  · rw [ieq_ne _ _ _ _ (by decide), oth (by decide)]
  · rw [ieq_ne _ _ _ _ (by decide), oth (by decide)]
  · rw [ieq_ne _ _ _ _ (by decide), oth (by decide)]
  · have e1 := txt (c := (1, n1, x1)) hc (.inr rfl)
    have e2 := txt (c := (1, n2, x2)) hc' (.inr rfl)
    simp only at e1 e2
    subst e1 e2
    rw [ieq_num]; congr 1; rw [Bool.eq_iff_iff]; simp
  · rw [ieq_ne _ _ _ _ (by decide), oth (by decide)]
  · rw [ieq_ne _ _ _ _ (by decide), oth (by decide)]
  · rw [ieq_ne _ _ _ _ (by decide), oth (by decide)]
  · rw [ieq_ne _ _ _ _ (by decide), oth (by decide)]
  · have e1 : n1 = 0 := by simp [cellB] at hc; exact hc.2
    have e2 : n2 = 0 := by simp [cellB] at hc'; exact hc'.2
    subst e1 e2
    rw [ieq_atom, str_inj hb hb']; congr 1; rw [Bool.eq_iff_iff]; simp
  · rw [ieq_ne _ _ _ _ (by decide), oth (by decide)]
  · rw [ieq_ne _ _ _ _ (by decide), oth (by decide)]
  · rw [ieq_ne _ _ _ _ (by decide), oth (by decide)]
  · rw [ieq_ne _ _ _ _ (by decide), oth (by decide)]
  · exact (h3 ⟨rfl, rfl⟩).elim
theorem Kept2.of_below {w w' : World} {sb so : Nat} (g : Option Nat) (h : Below w.heap.size w w') (hs : sb < w.heap.size) : Kept2 w w' sb so g :=
  ⟨h.os, h.tape, h.output, h.size, fun k hk _ _ => h.block k hk, fun o _ => h.cell (p := ⟨sb, o, none⟩) hs, fun o => h.frozen (p := ⟨sb, o, none⟩) hs⟩
theorem Stk.below {W0 : World} {Bt : Nat} {w w' : World} {B sb so : Nat} {p : Option Addr} {n c : Nat} {st : List TT} (h : Stk W0 Bt w B sb so p n c st) (hb : Below w.heap.size w w') : Stk W0 Bt w' B sb so p n c st := by
  have hs : sb < w.heap.size := World.block_lt_of_cell? _ _ h.cell
  obtain ⟨vs, hr, hp⟩ := h.row
  exact ⟨(hb.cell (p := ⟨sb, so, none⟩) hs).trans h.cell, (hb.frozen (p := ⟨sb, so, none⟩) hs).trans h.free, h.len, ⟨vs, row_below hr hb, hp⟩, h.away⟩
/-- What open answers. -/
def OpenOut (W0 : World) (Bt : Nat) (w : World) (B sb so : Nat) (g : Option Nat) (st : List TT) (x : TT) (e : Ending) (w' : World) : Prop :=
  e = .returned (.bool (decide (x.1.1 = x.2.1))) ∧ (∃ p n c, Stk W0 Bt w' B sb so p n c (st ++ opened x) ∧ (Value.ownBlock (.slice p n c) = g ∨ ∃ k, Value.ownBlock (.slice p n c) = some k ∧ w.heap.size ≤ k)) ∧ Kept2 w w' sb so g
theorem opened_leaf {x : TT} (h1 : x.1.ok) (h2 : x.2.ok) (h3 : ¬ (x.1.1.1 = 3 ∧ x.2.1.1 = 3)) : opened x = [] := by
  unfold opened argPairs
  split
  · rename_i h
    have h3' : x.1.1.1 ≠ 3 := fun e => h3 ⟨e, by rw [← h]; exact e⟩
    have e1 : x.1.2 = .nil := h1.2.2.2.1 h3'
    rw [e1]; rfl
  · rfl

set_option maxRecDepth 100000 in
set_option maxHeartbeats 1000000 in
theorem openLeaf_any (W0 : World) (Bt : Nat) (w : World) (B sb so : Nat) (p : Option Addr) (n c : Nat) (st : List TT) (x : TT) (v1 v2 : Value) (h : Stk W0 Bt w B sb so p n c st) (hx1 : FoIn W0 Bt x.1.fo [v1]) (hx2 : FoIn W0 Bt x.2.fo [v2]) (ho1 : x.1.ok) (ho2 : x.2.ok) (h3 : ¬ (x.1.1.1 = 3 ∧ x.2.1.1 = 3)) :
    Calls Try.prog 64 #[.pointer (some ⟨sb, so, none⟩), .agg #[v1, v2]] w (OpenOut W0 Bt w B sb so (Value.ownBlock (.slice p n c)) st x) := by
  have hlt : sb < w.heap.size := World.block_lt_of_cell? _ _ h.cell
  have HFIN : Hid (∀ w', Below w.heap.size w w' → OpenOut W0 Bt w B sb so (Value.ownBlock (.slice p n c)) st x (.returned (.bool (decide (x.1.1 = x.2.1)))) w') := fun w' hb =>
    ⟨rfl, ⟨p, n, c, by rw [opened_leaf ho1 ho2 h3, List.append_nil]; exact h.below hb, .inl rfl⟩, Kept2.of_below _ hb hlt⟩
  obtain ⟨u1, r1, e1, hn1, _⟩ := hx1
  obtain ⟨rfl, rfl⟩ := List.cons.inj e1
  obtain ⟨u2, r2, e2, hn2, _⟩ := hx2
  obtain ⟨rfl, rfl⟩ := List.cons.inj e2
  have hq : ∀ w, (binOp .eql 91 (.agg #[v1, v2]) (.agg #[v2, v1])).run Try.prog w = .ok (.bool (decide (x.1.1 = x.2.1))) w := fun w => by
    have := pairEq w (fun w => node_eq hn1 hn2 ho1.1 ho2.1 ho1.2.1 ho2.2.1 h3 w) (fun w => node_eq hn2 hn1 ho2.1 ho1.1 ho2.2.1 ho1.2.1 (fun h => h3 ⟨h.2, h.1⟩) w)
    rw [this]
    congr 2
    rw [Bool.eq_iff_iff]
    simp only [Bool.and_eq_true, decide_eq_true_eq]
    exact ⟨fun h => h.1, fun h => ⟨h, h.symm⟩⟩
  obtain ⟨t1, x1, rfl⟩ := hn1.iface
  obtain ⟨t2, x2, rfl⟩ := hn2.iface
  have hty : ∃ (p1 p2 : Option Addr) (b1 b2 : Bool), (∀ w, (Instr.typeAssert (.iface t1 x1) 53 108 true).run Try.prog w = .ok (.tuple #[.pointer p1, .bool b1]) w) ∧ (∀ w, (Instr.typeAssert (.iface t2 x2) 53 108 true).run Try.prog w = .ok (.tuple #[.pointer p2, .bool b2]) w) ∧ (b1 = false ∨ (b1 = true ∧ b2 = false)) := by
    have one : ∀ {c : Cel} {K : List Value → Prop} {t : TypeId} {y : Value}, NodeIn W0 Bt c K (.iface t y) → ∃ (p : Option Addr) (b : Bool), (∀ w, (Instr.typeAssert (.iface t y) 53 108 true).run Try.prog w = .ok (.tuple #[.pointer p, .bool b]) w) ∧ (b = true → c.1 = 3) := fun {c K t y} hn => by
      rcases hn with ⟨_, e⟩ | ⟨_, e⟩ | ⟨_, e⟩ | ⟨h, b, g, vs, e, _⟩
      · cases e; exact ⟨_, _, fun w => noComp_var w _, fun h => by cases h⟩
      · cases e; exact ⟨_, _, fun w => noComp_num w _, fun h => by cases h⟩
      · cases e; exact ⟨_, _, fun w => noComp_atom w _, fun h => by cases h⟩
      · cases e; exact ⟨_, _, fun w => isComp w _, fun _ => h⟩
    obtain ⟨p1, b1, f1, g1⟩ := one hn1
    obtain ⟨p2, b2, f2, g2⟩ := one hn2
    refine ⟨p1, p2, b1, b2, f1, f2, ?_⟩
    cases b1 with
    | false => exact .inl rfl
    | true =>
      refine .inr ⟨rfl, ?_⟩
      cases b2 with
      | false => rfl
      | true => exact (h3 ⟨g1 rfl, g2 rfl⟩).elim
  obtain ⟨p1, p2, b1, b2, a1, a2, hbb⟩ := hty
  obtain ⟨r, er⟩ : ∃ r, r = decide (x.1.1 = x.2.1) := ⟨_, rfl⟩
  rw [← er] at hq HFIN
  have HT := fun W => turned_any t1 x1 t2 x2 W
  clear er h hn1 hn2 ho1 ho2 h3 e1 e2
  have HEND : Hid (∀ (W : World), Below w.heap.size w W → W.cell? ⟨w.heap.size + 1, 0, none⟩ = some (.iface t1 x1) → W.cell? ⟨w.heap.size + 1, 1, none⟩ = some (.iface t2 x2) → w.heap.size + 1 < W.heap.size → ∀ w5, Below W.heap.size W w5 → Below w.heap.size w w5 ∧ w5.cell? ⟨w.heap.size + 1, 0, none⟩ = some (.iface t1 x1) ∧ w5.cell? ⟨w.heap.size + 1, 1, none⟩ = some (.iface t2 x2)) := fun W hW k0 k1 hs w5 h5 =>
    ⟨Below.on hW h5, (h5.cell (p := ⟨w.heap.size + 1, 0, none⟩) hs).trans k0, (h5.cell (p := ⟨w.heap.size + 1, 1, none⟩) hs).trans k1⟩
  have HB3 : ∀ a b d, Below w.heap.size w (((w.alloc a).alloc b).alloc d) := fun a b d => (((Below.refl _ _).alloc (Nat.le_refl _) _).alloc (by simp) _).alloc (by simp; omega) _
  have HBD : Hid (∀ a b d, Below w.heap.size w (((w.alloc a).alloc b).alloc d).drew) := fun a b d => (HB3 a b d).drew
  have HK : Hid (∀ a d : Obj, (((w.alloc a).alloc (.cells #[.iface t1 x1, .iface t2 x2] 91)).alloc d).cell? ⟨w.heap.size + 1, 0, none⟩ = some (.iface t1 x1) ∧ (((w.alloc a).alloc (.cells #[.iface t1 x1, .iface t2 x2] 91)).alloc d).cell? ⟨w.heap.size + 1, 1, none⟩ = some (.iface t2 x2)) := fun a d => by
    have h1 := heap_three w a (.cells #[.iface t1 x1, .iface t2 x2] 91) d
    exact ⟨cell_of_row _ _ 0 _ _ _ h1.1, cell_of_row _ _ 1 _ _ _ h1.1⟩
  have hg : ∀ (o1 o2 : Operand) (W : World), (eqGuard BinOp.eql 91 o1 o2 (.agg #[.iface t1 x1, .iface t2 x2]) (.agg #[.iface t2 x2, .iface t1 x1])).run Try.prog W = .ok () W := fun o1 o2 W => by kernel_rfl
  clear HB3
  rcases hbb with rfl | ⟨rfl, rfl⟩
  · go_enter Try.func64, Try.ntmps64
    go_wp2_with fail
    go_region_held3 (fun W => W.cell? ⟨w.heap.size + 1, 0, none⟩ = some (.iface t1 x1) ∧ W.cell? ⟨w.heap.size + 1, 1, none⟩ = some (.iface t2 x2)) (first | exact ⟨kk.2.1, kk.2.2⟩ | go_keep)
      ((go_at_call 84; refine (HT _).mono ?_; rintro e w5 ⟨rfl, hb5⟩; have kk := HEND.out _ (HBD.out _ _ _) (HK.out _ _).1 (HK.out _ _).2 (by simp) w5 hb5))
    all_goals go_wp2_with fail
    go_ret
    exact HFIN.out _ kk.1
  · go_enter Try.func64, Try.ntmps64
    go_wp2_with fail
    go_region_held3 (fun W => W.cell? ⟨w.heap.size + 1, 0, none⟩ = some (.iface t1 x1) ∧ W.cell? ⟨w.heap.size + 1, 1, none⟩ = some (.iface t2 x2)) (first | exact ⟨kk.2.1, kk.2.2⟩ | go_keep)
      ((go_at_call 84; refine (HT _).mono ?_; rintro e w5 ⟨rfl, hb5⟩; have kk := HEND.out _ (HBD.out _ _ _) (HK.out _ _).1 (HK.out _ _).2 (by simp) w5 hb5))
    all_goals go_wp2_with fail
    go_ret
    exact HFIN.out _ kk.1

end Go.Proofs.Ytedlcmkhbccjgaa

namespace Go.Proofs.Ytedlcmkhbccjgaa
open Go Go.RowKit Go.Shelf
set_option linter.unusedVariables false
attribute [local go_sem] Oper.semAt_some

/-- What has come when k rounds are over. -/
def upto {α : Type} (f : Nat → α) (k : Nat) : List α := (List.range k).map f
theorem upto_succ {α : Type} (f : Nat → α) (k : Nat) : upto f (k + 1) = upto f k ++ [f k] := by simp [upto, List.range_succ]
theorem upto_length {α : Type} (f : Nat → α) (k : Nat) : (upto f k).length = k := by simp [upto]
/-- An item as it comes: its place, its type, its value. -/
abbrev Itm : Type := Nat × Nat × Value
def bkAt (zs : List (Nat × Value)) (n j : Nat) : Itm := (n - 1 - j, (zs[n - 1 - j]?.getD (0, .nilIface)).1, (zs[n - 1 - j]?.getD (0, .nilIface)).2)
/-- What the iterator asks of a round: what lay below stays, and so does the box of the slice. -/
def BKeep (n₀ Bs : Nat) (A B : World) : Prop := Below n₀ A B ∧ ∀ v, A.cell? ⟨Bs, 0, none⟩ = some v → B.cell? ⟨Bs, 0, none⟩ = some v
theorem BKeep.refl (n₀ Bs : Nat) (A : World) : BKeep n₀ Bs A A := ⟨Below.refl _ _, fun _ h => h⟩
theorem BKeep.trans {n₀ Bs : Nat} {A B C : World} (h : BKeep n₀ Bs A B) (k : BKeep n₀ Bs B C) : BKeep n₀ Bs A C := ⟨h.1.trans k.1, fun v hv => k.2 v (h.2 v hv)⟩

set_option maxRecDepth 100000 in
set_option maxHeartbeats 2000000 in
theorem back1_in (F : Fence) (n : Nat) (h7 : F.fn 95) (hro : F.round = none) (hn : 1 ≤ n) (l Bs n₀ b len cap : Nat) (zs : List (Nat × Value)) (hlen : len ≤ 2000) (hb : b < n₀) (J Jx : List Itm → World → Prop)
    (hY : ∀ pre x W, J pre W → pre.length < len → YieldAt F (n - 1) Try.prog l #[.int .i64 (x.1 : Int), .iface x.2.1 x.2.2] W fun e W' =>
      (e = .returned (.bool true) ∧ J (pre ++ [x]) W' ∧ BKeep n₀ Bs W W') ∨ (e = .returned (.bool false) ∧ Jx (pre ++ [x]) W'))
    (W : World) (hBs : W.cell? ⟨Bs, 0, none⟩ = some (.slice (some ⟨b, 0, none⟩) len cap)) (hc : ∀ j, j < len → W.cell? ⟨b, j, none⟩ = some (.iface (zs[j]?.getD (0, .nilIface)).1 (zs[j]?.getD (0, .nilIface)).2)) (h0 : J [] W) :
    CallsIn F n Try.prog 95 #[.func (.yield l) #[] #[], .pointer (some ⟨Bs, 0, none⟩)] W fun e W' => (∃ v, e = .returned v) ∧
      ((∃ ys, ys = upto (bkAt zs len) len ∧ J ys W') ∨ (∃ pre, True ∧ Jx pre W')) := by
  refine callsIn_of_wp Try.func95 rfl h7 ?_ hro
  simp only [Try.ntmps95, List.size_toArray, List.length_cons, List.length_nil, Nat.reduceAdd, Nat.reduceSub, Array.replicate_succ, Array.replicate_zero, List.push_toArray, List.append_toArray, List.nil_append, List.cons_append]
  gi_wp2
  gi_loopw [3] (fun i wr => ∃ m : Nat, m ≤ len ∧ i = .int .i64 ((m : Int) - 1) ∧ J (upto (bkAt zs len) (len - m)) wr ∧ BKeep n₀ Bs W wr)
    (fun i _ => (intOf i + 1).toNat)
  case atStart => exact ⟨len, Nat.le_refl _, by go_num, by rw [Nat.sub_self]; exact h0, BKeep.refl _ _ _⟩
  case round =>
    obtain ⟨m, hm, rfl, hJs, hnx⟩ := hrel
    have hBs' := hnx.2 _ hBs
    cases m with
    | zero =>
      gi_wp2
      go_end0
      exact ⟨⟨_, rfl⟩, .inl ⟨_, rfl, hJs⟩⟩
    | succ m =>
      have hcx := (hnx.1.cell (p := ⟨b, m, none⟩) hb).trans (hc m (by omega))
      have e1 : ((m + 1 : Nat) : Int) - 1 = (m : Int) := by omega
      have e2 : len - 1 - (len - (m + 1)) = m := by omega
      have e3 : bkAt zs len (len - (m + 1)) = (m, (zs[m]?.getD (0, .nilIface)).1, (zs[m]?.getD (0, .nilIface)).2) := by simp only [bkAt, e2]
      have e4 : upto (bkAt zs len) (len - (m + 1)) ++ [(m, (zs[m]?.getD (0, .nilIface)).1, (zs[m]?.getD (0, .nilIface)).2)] = upto (bkAt zs len) (len - m) := by
        rw [← e3, ← upto_succ]
        congr 1; omega
      obtain ⟨fn, tmps, assign, body, hy, hR⟩ := hY _ (m, (zs[m]?.getD (0, .nilIface)).1, (zs[m]?.getD (0, .nilIface)).2) wr hJs (by rw [upto_length]; omega)
      dsimp only at hy
      rw [e4] at hR
      rw [e1]
      obtain ⟨tv, etv⟩ : ∃ tv, tv = (zs[m]?.getD (0, .nilIface)).1 := ⟨_, rfl⟩
      obtain ⟨xv, exv⟩ : ∃ xv, xv = (zs[m]?.getD (0, .nilIface)).2 := ⟨_, rfl⟩
      rw [← etv, ← exv] at hy hcx
      have hR' : Hid _ := hR
      clear e1 e2 e3 e4 etv exv
      gi_wp2
      refine hR.mono ?_
      rintro e W3 (⟨rfl, hJ3, hk3⟩ | ⟨rfl, hJx3⟩)
      · gi_wp2
        go_roundw
        case rel => exact ⟨m, by omega, by go_num, hJ3, hnx.trans hk3⟩
        case measure => simp [intOf]
      · gi_wp2
        refine bodyPost_ret (results_none rfl _ _ _) rfl ?_
        exact ⟨⟨_, rfl⟩, .inr ⟨_, trivial, hJx3⟩⟩

set_option maxHeartbeats 1000000 in
/-- slices.Backward(s): the slice is boxed; the function captures the box. -/
theorem back_in (F : Fence) (n : Nat) (h5 : F.fn 86) (hro : F.round = none) (a : Option Addr) (len cap : Nat) (w : World) :
    CallsIn F n Try.prog 86 #[.slice a len cap] w fun e w' => e = .returned (.func (.func 95) #[] #[.pointer (some ⟨w.heap.size, 0, none⟩)]) ∧ w' = w.alloc (.cells #[.slice a len cap] 109) := by
  refine callsIn_of_wp Try.func86 rfl h5 ?_ hro
  simp only [Try.ntmps86, List.size_toArray, List.length_cons, List.length_nil, Nat.reduceAdd, Nat.reduceSub, Array.replicate_succ, Array.replicate_zero, List.push_toArray, List.append_toArray, List.nil_append, List.cons_append]
  gi_wp2
  go_ret
  exact ⟨rfl, rfl⟩

theorem back_stops (F : Fence) (n : Nat) (h7 : F.fn 95) (hro : F.round = none) (hn : 1 ≤ n) (Bs n₀ b len cap : Nat) (zs : List (Nat × Value)) (hlen : len ≤ 2000) (w : World) (hBs : Bs < w.heap.size) (hn₀ : n₀ ≤ w.heap.size) (hb : b < n₀)
    (hcB : w.cell? ⟨Bs, 0, none⟩ = some (.slice (some ⟨b, 0, none⟩) len cap)) (hc : ∀ j, j < len → w.cell? ⟨b, j, none⟩ = some (.iface (zs[j]?.getD (0, .nilIface)).1 (zs[j]?.getD (0, .nilIface)).2)) :
    SeqStopsK F n Try.prog 95 #[.pointer (some ⟨Bs, 0, none⟩)] (fun x : Itm => #[Value.int .i64 (x.1 : Int), Value.iface x.2.1 x.2.2]) (BKeep n₀ Bs) (fun ys => ys = upto (bkAt zs len) len) (fun _ => True) len w := fun l J Jx W hW _ _ hY h0 => by
  exact back1_in F n h7 hro hn l Bs n₀ b len cap zs hlen hb J Jx hY W ((hW.cell (p := ⟨Bs, 0, none⟩) hBs).trans hcB) (fun j hj => (hW.cell (p := ⟨b, j, none⟩) (by show b < _; omega)).trans (hc j hj)) h0

theorem bKeep_b {n₀ Bs : Nat} {w : World} (hn : n₀ ≤ w.heap.size) (W : World) (l : Nat) (o o' : Obj) (hl : w.heap.size ≤ l) (h : W.heap[l]? = some o) (ho : o.isCells = false) (hw : o.isWalk = false) : BKeep n₀ Bs W (W.putObj l o') :=
  ⟨belowK_b hn W l o o' hl h ho hw, fun v hv => cell_kept hv (grownBy_putObj' W l o') (fun r e => by cases e; exact ⟨_, h, ho⟩)⟩

end Go.Proofs.Ytedlcmkhbccjgaa

namespace Go.Proofs.Ytedlcmkhbccjgaa
open Go Go.RowKit Go.Shelf
set_option linter.unusedVariables false
attribute [local go_sem] Oper.semAt_some

/-- The places that have come when j rounds are over. -/
def downF (len j : Nat) : List (Fin len) := (List.finRange len).reverse.take j
theorem downF_succ {len m : Nat} (h : m < len) : downF len (len - m) = downF len (len - (m + 1)) ++ [⟨m, h⟩] := by
  unfold downF
  have e : len - m = len - (m + 1) + 1 := by omega
  rw [e, List.take_add_one]
  congr 1
  rw [List.getElem?_reverse (by simp; omega)]
  simp only [List.length_finRange]
  rw [List.getElem?_eq_getElem (by simp; omega)]
  simp only [List.getElem_finRange, Option.toList_some, List.cons.injEq, and_true]
  apply Fin.ext
  simp; omega
theorem downF_length {len m : Nat} (h : m ≤ len) : (downF len m).length = m := by simp [downF, h]
theorem downF_all (len : Nat) : downF len len = (List.finRange len).reverse := by
  unfold downF
  rw [List.take_of_length_le (by simp)]

set_option maxRecDepth 100000 in
set_option maxHeartbeats 2000000 in
theorem backF_in (F : Fence) (n : Nat) (h7 : F.fn 95) (hro : F.round = none) (hn : 1 ≤ n) (l Bs n₀ b len cap : Nat) (zs : List (Nat × Value)) (hlen : len ≤ 2000) (hb : b < n₀) (J Jx : List (Fin len) → World → Prop)
    (hY : ∀ pre (x : Fin len) W, J pre W → pre.length < len → YieldAt F (n - 1) Try.prog l #[.int .i64 ((x : Nat) : Int), .iface (zs[(x : Nat)]?.getD (0, .nilIface)).1 (zs[(x : Nat)]?.getD (0, .nilIface)).2] W fun e W' =>
      (e = .returned (.bool true) ∧ J (pre ++ [x]) W' ∧ BKeep n₀ Bs W W') ∨ (e = .returned (.bool false) ∧ Jx (pre ++ [x]) W'))
    (W : World) (hBs : W.cell? ⟨Bs, 0, none⟩ = some (.slice (some ⟨b, 0, none⟩) len cap)) (hc : ∀ j, j < len → W.cell? ⟨b, j, none⟩ = some (.iface (zs[j]?.getD (0, .nilIface)).1 (zs[j]?.getD (0, .nilIface)).2)) (h0 : J [] W) :
    CallsIn F n Try.prog 95 #[.func (.yield l) #[] #[], .pointer (some ⟨Bs, 0, none⟩)] W fun e W' => (∃ v, e = .returned v) ∧
      ((∃ ys, ys = downF len len ∧ J ys W') ∨ (∃ pre, True ∧ Jx pre W')) := by
  refine callsIn_of_wp Try.func95 rfl h7 ?_ hro
  simp only [Try.ntmps95, List.size_toArray, List.length_cons, List.length_nil, Nat.reduceAdd, Nat.reduceSub, Array.replicate_succ, Array.replicate_zero, List.push_toArray, List.append_toArray, List.nil_append, List.cons_append]
  gi_wp2
  gi_loopw [3] (fun i wr => ∃ m : Nat, m ≤ len ∧ i = .int .i64 ((m : Int) - 1) ∧ J (downF len (len - m)) wr ∧ BKeep n₀ Bs W wr)
    (fun i _ => (intOf i + 1).toNat)
  case atStart => exact ⟨len, Nat.le_refl _, by go_num, by rw [Nat.sub_self]; exact h0, BKeep.refl _ _ _⟩
  case round =>
    obtain ⟨m, hm, rfl, hJs, hnx⟩ := hrel
    have hBs' := hnx.2 _ hBs
    cases m with
    | zero =>
      gi_wp2
      go_end0
      exact ⟨⟨_, rfl⟩, .inl ⟨_, rfl, hJs⟩⟩
    | succ m =>
      have hcx := (hnx.1.cell (p := ⟨b, m, none⟩) hb).trans (hc m (by omega))
      have e1 : ((m + 1 : Nat) : Int) - 1 = (m : Int) := by omega
      have e4 := downF_succ (len := len) (m := m) (by omega)
      obtain ⟨fn, tmps, assign, body, hy, hR⟩ := hY _ ⟨m, by omega⟩ wr hJs (by rw [downF_length (by omega)]; omega)
      dsimp only at hy
      rw [← e4] at hR
      rw [e1]
      obtain ⟨tv, etv⟩ : ∃ tv, tv = (zs[m]?.getD (0, .nilIface)).1 := ⟨_, rfl⟩
      obtain ⟨xv, exv⟩ : ∃ xv, xv = (zs[m]?.getD (0, .nilIface)).2 := ⟨_, rfl⟩
      rw [← etv, ← exv] at hy hcx
      have hR' : Hid _ := hR
      clear e1 e4 etv exv
      gi_wp2
      refine hR.mono ?_
      rintro e W3 (⟨rfl, hJ3, hk3⟩ | ⟨rfl, hJx3⟩)
      · gi_wp2
        go_roundw
        case rel => exact ⟨m, by omega, by go_num, hJ3, hnx.trans hk3⟩
        case measure => simp [intOf]
      · gi_wp2
        refine bodyPost_ret (results_none rfl _ _ _) rfl ?_
        exact ⟨⟨_, rfl⟩, .inr ⟨_, trivial, hJx3⟩⟩

theorem backF_stops (F : Fence) (n : Nat) (h7 : F.fn 95) (hro : F.round = none) (hn : 1 ≤ n) (Bs n₀ b len cap : Nat) (zs : List (Nat × Value)) (hlen : len ≤ 2000) (w : World) (hBs : Bs < w.heap.size) (hn₀ : n₀ ≤ w.heap.size) (hb : b < n₀)
    (hcB : w.cell? ⟨Bs, 0, none⟩ = some (.slice (some ⟨b, 0, none⟩) len cap)) (hc : ∀ j, j < len → w.cell? ⟨b, j, none⟩ = some (.iface (zs[j]?.getD (0, .nilIface)).1 (zs[j]?.getD (0, .nilIface)).2)) :
    SeqStopsK F n Try.prog 95 #[.pointer (some ⟨Bs, 0, none⟩)] (fun x : Fin len => #[Value.int .i64 ((x : Nat) : Int), Value.iface (zs[(x : Nat)]?.getD (0, .nilIface)).1 (zs[(x : Nat)]?.getD (0, .nilIface)).2]) (BKeep n₀ Bs) (fun ys => ys = downF len len) (fun _ => True) len w := fun l J Jx W hW _ _ hY h0 => by
  exact backF_in F n h7 hro hn l Bs n₀ b len cap zs hlen hb J Jx hY W ((hW.cell (p := ⟨Bs, 0, none⟩) hBs).trans hcB) (fun j hj => (hW.cell (p := ⟨b, j, none⟩) (by show b < _; omega)).trans (hc j hj)) h0

end Go.Proofs.Ytedlcmkhbccjgaa

