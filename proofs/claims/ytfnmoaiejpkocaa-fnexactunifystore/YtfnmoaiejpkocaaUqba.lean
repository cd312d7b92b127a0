/- Texts of UfJ, StrI, UfK. Own work of the verifier. -/
import Derived.Test.YtfnmoaiejpkocaaUqaz
import Derived.Test.YtfnmoaiejpkocaaUqaf
import Derived.Laws.StructEq
namespace Go.Proofs.Ytfnmoaiejpkocaa
open Go Go.RowKit Go.Maps
set_option linter.unusedVariables false

theorem infoPair : (Try.prog.info? 139).map (fun i => (i.zero, i.size, i.bytes)) = some (some (.agg #[.nilIface, .nilIface]), 2, 32) := by kernel_rfl
/-- Pairs, as they lie. -/
def flatP (ps : List (Cel × Cel)) : List Value := ps.flatMap (fun q => [wv q.1, wv q.2])
theorem flatP_len : ∀ ps : List (Cel × Cel), (flatP ps).length = ps.length * 2
  | [] => rfl
  | p :: r => by
    have := flatP_len r
    simp only [flatP, List.flatMap_cons, List.length_append, List.length_cons, List.length_nil] at this ⊢
    omega
theorem flatP_append (a b : List (Cel × Cel)) : flatP (a ++ b) = flatP a ++ flatP b := by simp [flatP]
theorem flatP_at : ∀ (ps : List (Cel × Cel)) (i : Nat), i < ps.length → (flatP ps)[i * 2]? = some (wv (ps.getD i (Cel.none, Cel.none)).1) ∧ (flatP ps)[i * 2 + 1]? = some (wv (ps.getD i (Cel.none, Cel.none)).2)
  | [], i, h => absurd h (Nat.not_lt_zero _)
  | p :: r, 0, _ => by simp [flatP]
  | p :: r, i + 1, h => by
    have := flatP_at r i (by simpa using h)
    rw [List.getD_cons_succ, show (i + 1) * 2 = i * 2 + 2 by omega]
    have e : flatP (p :: r) = wv p.1 :: wv p.2 :: flatP r := by simp [flatP]
    rw [e]
    simpa using this
theorem flatP_one (ps : List (Cel × Cel)) : ∀ u ∈ flatP ps, u.oneCell' = true := fun u hu => by
  simp only [flatP, List.mem_flatMap] at hu
  obtain ⟨q, _, hu⟩ := hu
  simp only [List.mem_cons, List.not_mem_nil, or_false] at hu
  rcases hu with rfl | rfl
  · exact one_wordV q.1 _ (by simp)
  · exact one_wordV q.2 _ (by simp)
/-- Block L is a stack with these pairs, the last on top. -/
def StkP (B : Nat) (w : World) (L : Nat) (ps : List (Cel × Cel)) : Prop :=
  ∃ p c, w.heap[L]? = some (.cells #[.slice p ps.length c] 141) ∧ w.ownsRow B 139 2 (.slice p ps.length c) ps.length (flatP ps) ∧ B ≤ L
theorem StkP.lt {B : Nat} {w : World} {L : Nat} {ps : List (Cel × Cel)} (h : StkP B w L ps) : L < w.heap.size := by
  obtain ⟨_, _, h0, _⟩ := h
  exact (Array.getElem?_eq_some_iff.1 h0).1
theorem StkP.ge {B : Nat} {w : World} {L : Nat} {ps : List (Cel × Cel)} (h : StkP B w L ps) : B ≤ L := by
  obtain ⟨_, _, _, _, h⟩ := h
  exact h
theorem StkP.below {B : Nat} {w w' : World} {L : Nat} {ps : List (Cel × Cel)} (h : StkP B w L ps) (hb : Below w.heap.size w w') : StkP B w' L ps := by
  obtain ⟨p, c, h0, h1, h2⟩ := h
  exact ⟨p, c, (hb.block L (Array.getElem?_eq_some_iff.1 h0).1).trans h0, row_below h1 hb, h2⟩
/-- What bind leaves has the stack as it was. -/
theorem StkP.frI {B : Nat} {w w' : World} {L h m : Nat} {ps : List (Cel × Cel)} (H : StkP B w L ps) (hf : FrI h m w w') (hh : ∃ cs, w.heap[h]? = some (.cells cs 93)) (hm : ∀ cs t f, w.heap[m]? ≠ some (.cells cs t f)) : StkP B w' L ps := by
  obtain ⟨p, c, h0, h1, hBL⟩ := H
  obtain ⟨ch, hh⟩ := hh
  have key : ∀ (k : Nat) (cs : Array Value) (t : TypeId), w.heap[k]? = some (.cells cs t) → t ≠ 70 → t ≠ 3 → t ≠ 93 → w'.heap[k]? = w.heap[k]? := fun k cs t hk h1 h2 h3 => hf.2 k cs t (fun e => by
    rw [e, hh] at hk
    simp only [Option.some.injEq, Obj.cells.injEq] at hk
    exact h3 hk.2.1.symm) (fun e => hm cs t (0, 0) (by rw [← e]; exact hk)) hk h1 h2
  refine ⟨p, c, (key L _ _ h0 (by decide) (by decide) (by decide)).trans h0, ⟨h1.1, ?_⟩, hBL⟩
  rcases h1.2 with h' | ⟨g, cap, cur, hv, hB, hg, r⟩
  · exact .inl h'
  · exact .inr ⟨g, cap, cur, hv, hB, (key g _ _ hg (by decide) (by decide) (by decide)).trans hg, r⟩
/-- The stack and what is new may have turned; nothing else. -/
def FrS (B : Nat) (w w' : World) : Prop := w.heap.size ≤ w'.heap.size ∧ (∀ k, k < w.heap.size → (∀ cs f, w.heap[k]? ≠ some (.cells cs 139 f)) → (∀ cs f, w.heap[k]? ≠ some (.cells cs 141 f)) → w'.heap[k]? = w.heap[k]?) ∧ Below B w w'
theorem FrS.refl (B : Nat) (w : World) : FrS B w w := ⟨Nat.le_refl _, fun _ _ _ _ => rfl, Below.refl _ _⟩
theorem FrS.trans {B : Nat} {w w1 w2 : World} (a : FrS B w w1) (b : FrS B w1 w2) : FrS B w w2 := ⟨Nat.le_trans a.1 b.1, fun k hk h1 h2 => by
  have e := a.2.1 k hk h1 h2
  exact (b.2.1 k (Nat.lt_of_lt_of_le hk a.1) (fun cs f => by rw [e]; exact h1 cs f) (fun cs f => by rw [e]; exact h2 cs f)).trans e, a.2.2.trans b.2.2⟩
theorem FrS.of_below {B : Nat} {w w' : World} (hb : Below w.heap.size w w') (hB : B ≤ w.heap.size := by omega) : FrS B w w' := ⟨hb.size, fun k hk _ _ => hb.block k hk, hb.mono hB⟩
theorem row_frS {w w' : World} {B0 B s n : Nat} {t : TypeId} {v : Value} {vs : List Value} (h : w.ownsRow B t s v n vs) (hf : FrS B0 w w') (h1 : t ≠ 139) (h2 : t ≠ 141) : w'.ownsRow B t s v n vs := by
  refine ⟨h.1, ?_⟩
  rcases h.2 with h' | ⟨g, cap, cur, hv, hB, hg, r⟩
  · exact .inl h'
  · exact .inr ⟨g, cap, cur, hv, hB, (hf.2.1 g (Array.getElem?_eq_some_iff.1 hg).1 (fun cs f e => by
      rw [hg] at e
      simp only [Option.some.injEq, Obj.cells.injEq] at e
      exact h1 e.2.1) (fun cs f e => by
      rw [hg] at e
      simp only [Option.some.injEq, Obj.cells.injEq] at e
      exact h2 e.2.1)).trans hg, r⟩
theorem HeapO.frS {B : Nat} {w w' : World} {h : Nat} {xs : List Cel} {tr : List Int} {m : Nat} {lk : Int} (H : HeapO w h xs tr m lk) (hf : FrS B w w') : HeapO w' h xs tr m lk := by
  have hl := H.lt
  obtain ⟨pw, cw, pt, ct, h0, h1, h2, h3⟩ := H
  refine ⟨pw, cw, pt, ct, (hf.2.1 h hl (fun cs f e => ?_) (fun cs f e => ?_)).trans h0, row_frS h1 hf (by decide) (by decide), ⟨h2.1, row_frS h2.2 hf (by decide) (by decide)⟩, h3⟩
  · rw [h0] at e
    simp only [Option.some.injEq, Obj.cells.injEq] at e
    exact absurd e.2.1 (by decide)
  · rw [h0] at e
    simp only [Option.some.injEq, Obj.cells.injEq] at e
    exact absurd e.2.1 (by decide)

set_option maxRecDepth 100000 in
theorem pushP_any (B L b : Nat) (ps : List (Cel × Cel)) (q : Cel × Cel) (w : World) (hl : ps.length ≤ 1000000) (H : StkP B w L ps) (z0 : w.cell? ⟨b, 0, none⟩ = some (wv q.1)) (z1 : w.cell? ⟨b, 1, none⟩ = some (wv q.2)) :
    Calls Try.prog 116 #[.pointer (some ⟨L, 0, none⟩), .slice (some ⟨b, 0, none⟩) 1 1] w fun e w' => e = .returned (.tuple #[]) ∧ StkP B w' L (ps ++ [q]) ∧ FrS B w w' := by
  have hlL := H.lt
  obtain ⟨p, c, h0, h1, hBL⟩ := H
  obtain ⟨i0, hi, hz0, hz1, hz2⟩ := info_parts infoPair
  obtain ⟨g, cap, w1, hr', hown, hg, hat, _⟩ := run_append_lies (P := Try.prog) w 141 141 B 139 i0 (.agg #[.nilIface, .nilIface]) 2 32 Try.underlying141 hi hz0 hz1 hz2 rfl (by decide) (.slice p ps.length c) ps.length (flatP ps) h1 ⟨b, 0, none⟩ 1 1 [wv q.1, wv q.2] rfl
    (fun j u hj => by
      rw [show (⟨b, 0, none⟩ : Addr).add j = ⟨b, 0 + j, none⟩ from WideShapes.add_plain _ _ _]
      match j, hj with
      | 0, hj => simp at hj; subst hj; simpa using z0
      | 1, hj => simp at hj; subst hj; simpa using z1
      | j + 2, hj => simp at hj) (by have := flatP_one [q]; simpa [flatP] using this) (by decide) (by unfold maxLen; omega) (by omega) (by omega) _ rfl
  have e : (Builtin.append_ #[141, 140] 141 #[.slice p ps.length c, .slice (some ⟨b, 0, none⟩) 1 1]).run Try.prog w = (Builtin.append_ #[141, 141] 141 #[.slice p ps.length c, .slice (some ⟨b, 0, none⟩) 1 1]).run Try.prog w := by
    simp [Builtin.append_, run_underlying Try.underlying141, run_underlying Try.underlying140]
  have hr := e.trans hr'
  have hL := (Array.getElem?_eq_some_iff.1 h0).1
  have hneL : Value.ownBlock (.slice p ps.length c) ≠ some L := row_ne2 h1 h0 (by decide)
  have b1 := (hg.block L hL (fun e => hneL e.symm)).trans h0
  have hgL : g ≠ L := fun e => by
    rcases hat with h' | h'
    · exact hneL (by rw [h', e])
    · omega
  have HF : Hid (StkP B (w1.setCell ⟨L, 0, none⟩ (.slice (some ⟨g, 0, none⟩) (ps.length + 1) cap)) L (ps ++ [q]) ∧ FrS B w (w1.setCell ⟨L, 0, none⟩ (.slice (some ⟨g, 0, none⟩) (ps.length + 1) cap))) := by
    refine ⟨⟨some ⟨g, 0, none⟩, cap, ?_, ?_, hBL⟩, by have := hg.size; simpa using this, fun k hk n1 n2 => ?_, ((Below.refl _ _).grown hg (by omega) (fun k e => (h1.lt _ e).1)).setCell (p := ⟨L, 0, none⟩) hBL _⟩
    · rw [heap_setCell_same _ _ _ _ _ _ b1, List.length_append]; rfl
    · rw [List.length_append, flatP_append]
      have : flatP [q] = [wv q.1, wv q.2] := by simp [flatP]
      rw [this]
      exact ownsRow_setCell_other hown (fun e => hgL (by simpa [Value.ownBlock] using e)) _
    · have hkL : k ≠ L := fun e => n2 _ _ (by rw [e]; exact h0)
      rw [heap_setCell_other _ _ _ _ hkL]
      refine hg.block k hk (fun e => ?_)
      obtain ⟨cur, hc⟩ := ownsRow_block h1 e.symm
      exact n1 _ _ hc
  have c0 : w.cell? ⟨L, 0, none⟩ = some (.slice p ps.length c) := by simp [World.cell?, h0]
  have c1 : w1.cell? ⟨L, 0, none⟩ = some (.slice p ps.length c) := by simp [World.cell?, b1]
  have f1 : w1.frozen? ⟨L, 0, none⟩ = false := frozen_of_row _ _ _ _ _ b1
  clear h0 h1 z0 z1 hr' e hown hg hat b1 hgL hneL hL
  go_enter Try.func116, Try.ntmps116
  go_wp2_with (at_builtin; refine wpList_app_run rfl _ _ _ _ rfl _ _ _ _ _ rfl rfl hr ?_)
  exact bodyPost_end (v := .tuple #[]) (by simp [results, Try.results116, go_sem]) rfl ⟨rfl, HF.out⟩

set_option maxHeartbeats 1000000 in
set_option maxRecDepth 100000 in
theorem popP_any (B L : Nat) (ps : List (Cel × Cel)) (q : Cel × Cel) (w : World) (hl : ps.length ≤ 1000000) (H : StkP B w L (ps ++ [q])) :
    Calls Try.prog 92 #[.pointer (some ⟨L, 0, none⟩)] w fun e w' => e = .returned (.agg #[wv q.1, wv q.2]) ∧ StkP B w' L ps ∧ FrS B w w' := by
  have HS : Hid (StkP B w L (ps ++ [q])) := H
  have hlL := H.lt
  obtain ⟨p, c, h0, h1, hBL⟩ := H
  have hlen : (ps ++ [q]).length = ps.length + 1 := by simp
  rw [hlen] at h0 h1
  obtain ⟨g, cap, hv, _, hg⟩ := h1.form (by omega)
  simp only [Value.slice.injEq, true_and] at hv
  obtain ⟨rfl, rfl⟩ := hv
  have hqq : (ps ++ [q]).getD ps.length (Cel.none, Cel.none) = q := by simp [List.getD]
  obtain ⟨e0, e1⟩ := flatP_at (ps ++ [q]) ps.length (by simp)
  rw [hqq] at e0 e1
  have d0 := (h1.cellAt (ps.length * 2) (by omega)).trans e0
  have d1 := (h1.cellAt (ps.length * 2 + 1) (by omega)).trans e1
  have hcap : ps.length + 1 ≤ c := by
    rcases h1.2 with ⟨e, h'⟩ | ⟨g, cap, cur, hv, _, _, hc, _⟩
    · omega
    · simp only [Value.slice.injEq] at hv; omega
  obtain ⟨n, en⟩ : ∃ n, n = ps.length := ⟨_, rfl⟩
  rw [← en] at h0 h1 d0 d1 hcap hl
  have c0 : w.cell? ⟨L, 0, none⟩ = some (.slice (some ⟨g, 0, none⟩) (n + 1) c) := by simp [World.cell?, h0]
  have f0 : w.frozen? ⟨L, 0, none⟩ = false := frozen_of_row _ _ _ _ _ h0
  obtain ⟨t1, v1, hv1⟩ := wv_iface q.1
  obtain ⟨t2, v2, hv2⟩ := wv_iface q.2
  rw [hv1] at d0
  rw [hv2] at d1
  have hLl := World.block_lt_of_cell? _ _ c0
  have hgl := World.block_lt_of_cell? _ _ d0
  have HV : Hid (wv q.1 = .iface t1 v1 ∧ wv q.2 = .iface t2 v2) := ⟨hv1, hv2⟩
  have HF : Hid (∀ o1 o2, StkP B (((w.setCell ⟨L, 0, none⟩ (.slice (some ⟨g, 0, none⟩) n c)).alloc o1).alloc o2) L ps ∧ FrS B w (((w.setCell ⟨L, 0, none⟩ (.slice (some ⟨g, 0, none⟩) n c)).alloc o1).alloc o2)) := fun o1 o2 => by
    have hne := row_ne2 h1 h0 (by decide)
    have hsh := ownsRow_shrink h1 (k := n) (by omega)
    have htk : (flatP (ps ++ [q])).take (n * 2) = flatP ps := by
      rw [flatP_append, List.take_append_of_le_length (by rw [flatP_len]; omega), List.take_of_length_le (by rw [flatP_len]; omega)]
    rw [htk] at hsh
    have hS : StkP B (w.setCell ⟨L, 0, none⟩ (.slice (some ⟨g, 0, none⟩) n c)) L ps := by
      refine ⟨some ⟨g, 0, none⟩, c, ?_, ?_, hBL⟩
      · rw [heap_setCell_same _ _ _ _ _ _ h0, en]; rfl
      · rw [← en]; exact ownsRow_setCell_other hsh (fun e => hne (by simpa [Value.ownBlock] using e)) _
    have hb : Below (w.setCell ⟨L, 0, none⟩ (.slice (some ⟨g, 0, none⟩) n c)).heap.size (w.setCell ⟨L, 0, none⟩ (.slice (some ⟨g, 0, none⟩) n c)) (((w.setCell ⟨L, 0, none⟩ (.slice (some ⟨g, 0, none⟩) n c)).alloc o1).alloc o2) := ((Below.refl _ _).alloc (Nat.le_refl _) _).alloc (by simp) _
    refine ⟨hS.below hb, FrS.trans ⟨by simp, fun k hk n1 n2 => heap_setCell_other _ _ _ _ (fun e => by
      have h0' := h0
      simp only at e
      rw [← e] at h0'
      exact n2 _ _ h0'), (Below.refl _ _).setCell (p := ⟨L, 0, none⟩) hBL _⟩ (FrS.of_below hb (by simp; omega))⟩
  have HN : Hid (n = ps.length) := en
  clear h0 h1 e0 e1 hqq hlen hg en
  go_enter Try.func92, Try.ntmps92
  go_wp2
  exact bodyPost_ret (v := .agg #[.iface t1 v1, .iface t2 v2]) (by simp [results, Try.results92, go_sem]) rfl ⟨rfl, HF.out _ _⟩

end Go.Proofs.Ytfnmoaiejpkocaa

namespace Go.Proofs.Ytfnmoaiejpkocaa
open Go Go.RowKit
set_option linter.unusedVariables false

theorem str_inj {xs ys : List Int} (hx : Byte xs) (hy : Byte ys) : (strOfNums xs == strOfNums ys) = decide (xs = ys) := by
  have h1 := str_beq hx (strOfNums ys).toList
  have h2 := (str_eq hy (strOfNums ys).toList).1 rfl
  rw [← h2] at h1
  rw [← h1]
  congr 1
  rw [ByteArray.toList_eq]
theorem str_ne {xs ys : List Int} (hx : Byte xs) (hy : Byte ys) (h : strOfNums xs = strOfNums ys) : xs = ys := by
  have h1 := str_inj hx hy
  rw [h, str_inj hy hy] at h1
  simpa using h1.symm

end Go.Proofs.Ytfnmoaiejpkocaa

namespace Go.Proofs.Ytfnmoaiejpkocaa
open Go Go.RowKit Go.Maps
set_option linter.unusedVariables false

theorem eqW00 (w : World) (x y : Int) : (binOp .eql 70 (.iface 100 (.int .i64 x)) (.iface 100 (.int .i64 y))).run Try.prog w = .ok (.bool (x == y)) w := by kernel_rfl
theorem eqW01 (w : World) (x y : Value) : (binOp .eql 70 (.iface 100 x) (.iface 121 y)).run Try.prog w = .ok (.bool false) w := by kernel_rfl
theorem eqW02 (w : World) (x y : Value) : (binOp .eql 70 (.iface 100 x) (.iface 122 y)).run Try.prog w = .ok (.bool false) w := by kernel_rfl
theorem eqW04 (w : World) (x y : Value) : (binOp .eql 70 (.iface 100 x) (.iface 123 y)).run Try.prog w = .ok (.bool false) w := by kernel_rfl
theorem eqW10 (w : World) (x y : Value) : (binOp .eql 70 (.iface 121 x) (.iface 100 y)).run Try.prog w = .ok (.bool false) w := by kernel_rfl
theorem eqW11 (w : World) (x y : Int) : (binOp .eql 70 (.iface 121 (.int .i64 x)) (.iface 121 (.int .i64 y))).run Try.prog w = .ok (.bool (x == y)) w := by kernel_rfl
theorem eqW12 (w : World) (x y : Value) : (binOp .eql 70 (.iface 121 x) (.iface 122 y)).run Try.prog w = .ok (.bool false) w := by kernel_rfl
theorem eqW14 (w : World) (x y : Value) : (binOp .eql 70 (.iface 121 x) (.iface 123 y)).run Try.prog w = .ok (.bool false) w := by kernel_rfl
theorem eqW20 (w : World) (x y : Value) : (binOp .eql 70 (.iface 122 x) (.iface 100 y)).run Try.prog w = .ok (.bool false) w := by kernel_rfl
theorem eqW21 (w : World) (x y : Value) : (binOp .eql 70 (.iface 122 x) (.iface 121 y)).run Try.prog w = .ok (.bool false) w := by kernel_rfl
theorem eqW22 (w : World) (x y : ByteArray) : (binOp .eql 70 (.iface 122 (.string x)) (.iface 122 (.string y))).run Try.prog w = .ok (.bool (x == y)) w := by kernel_rfl
theorem eqW24 (w : World) (x y : Value) : (binOp .eql 70 (.iface 122 x) (.iface 123 y)).run Try.prog w = .ok (.bool false) w := by kernel_rfl
theorem eqW40 (w : World) (x y : Value) : (binOp .eql 70 (.iface 123 x) (.iface 100 y)).run Try.prog w = .ok (.bool false) w := by kernel_rfl
theorem eqW41 (w : World) (x y : Value) : (binOp .eql 70 (.iface 123 x) (.iface 121 y)).run Try.prog w = .ok (.bool false) w := by kernel_rfl
theorem eqW42 (w : World) (x y : Value) : (binOp .eql 70 (.iface 123 x) (.iface 122 y)).run Try.prog w = .ok (.bool false) w := by kernel_rfl
theorem eqW44 (w : World) (x y : Int) : (binOp .eql 70 (.iface 123 (.int .i64 x)) (.iface 123 (.int .i64 y))).run Try.prog w = .ok (.bool (x == y)) w := by kernel_rfl
theorem neqF (w : World) (s1 s2 : ByteArray) (n1 n2 : Int) : (binOp .neq 131 (.agg #[.string s1, .int .i64 n1]) (.agg #[.string s2, .int .i64 n2])).run Try.prog w = .ok (.bool (!(s1.toList == s2.toList && n1 == n2))) w := by
  have u3 := Try.underlying3
  have u9 := Try.underlying9
  have a3 := Try.isAgg3
  have z3 := Try.sizeOf3
  have a9 := Try.isAgg9
  have z9 := Try.sizeOf9
  have h : (Op.equalIn 10000 131 (.agg #[.string s1, .int .i64 n1]) (.agg #[.string s2, .int .i64 n2])).run Try.prog w = .ok (s1.toList == s2.toList && n1 == n2) w := by
    rw [show (10000 : Nat) = 9998 + 1 + 1 from rfl, run_equalIn_agg (P := Try.prog) w 9999 131 _ _ (by kernel_rfl) (by kernel_rfl)]
    simp only [Program.fieldsOf, Try.underlying131]
    go_simp
    by_cases h1 : s1.toList = s2.toList <;> by_cases h2 : n1 = n2 <;> simp [h1, h2]
  simp [binOp, Op.equal, Op.maxDepth, h]

theorem str_injK {xs ys : List Int} (hx : Byte xs) (hy : Byte ys) : ((strOfNums xs).toList == (strOfNums ys).toList) = decide (xs = ys) := by
  rw [Bool.eq_iff_iff]
  simp only [beq_iff_eq, decide_eq_true_eq]
  rw [str_eq hx, ← (str_eq hy (strOfNums ys).toList).1 rfl]
/-- A word as it lies: no number or text that does not count. -/
def NW (x : Cel) : Prop := (x.1 = 0 ∨ x.1 = 1 ∨ x.1 = 2 ∨ x.1 = 4) ∧ (x.1 = 2 → x.2.1 = 0 ∧ Byte x.2.2) ∧ (x.1 ≠ 2 → x.2.2 = [])
theorem nw_of {xs : List Cel} {x : Cel} (h : WOk xs x) : NW x := by
  refine ⟨h.1.1, fun h2 => ⟨?_, h.2.2⟩, fun h2 => wok_text h (by have := h.1.1; omega)⟩
  have := h.2.1
  rw [h2] at this
  generalize x.2.2.length = m at this
  simp [okW, cellB] at this
  omega
theorem eqW_any (w : World) {x y : Cel} (hx : NW x) (hy : NW y) : (binOp .eql 70 (wv x) (wv y)).run Try.prog w = .ok (.bool (decide (x = y))) w := by
  obtain ⟨x0, x1, xt⟩ := x
  obtain ⟨y0, y1, yt⟩ := y
  obtain ⟨hx0, hx2, hxn⟩ := hx
  obtain ⟨hy0, hy2, hyn⟩ := hy
  simp only at hx0 hx2 hxn hy0 hy2 hyn
  rcases hx0 with rfl | rfl | rfl | rfl <;> rcases hy0 with rfl | rfl | rfl | rfl
  · have ex : wv (0, x1, xt) = .iface 100 (.int .i64 x1) := rfl
    have ey : wv (0, y1, yt) = .iface 100 (.int .i64 y1) := rfl
    rw [ex, ey, eqW00]
    rw [hxn (by decide), hyn (by decide)]
    by_cases h : x1 = y1 <;> simp [h]
  · have ex : wv (0, x1, xt) = .iface 100 (.int .i64 x1) := rfl
    have ey : wv (1, y1, yt) = .iface 121 (.int .i64 y1) := rfl
    rw [ex, ey, eqW01]
    simp
  · have ex : wv (0, x1, xt) = .iface 100 (.int .i64 x1) := rfl
    have ey : wv (2, y1, yt) = .iface 122 (.string (strOfNums yt)) := rfl
    rw [ex, ey, eqW02]
    simp
  · have ex : wv (0, x1, xt) = .iface 100 (.int .i64 x1) := rfl
    have ey : wv (4, y1, yt) = .iface 123 (.int .i64 y1) := rfl
    rw [ex, ey, eqW04]
    simp
  · have ex : wv (1, x1, xt) = .iface 121 (.int .i64 x1) := rfl
    have ey : wv (0, y1, yt) = .iface 100 (.int .i64 y1) := rfl
    rw [ex, ey, eqW10]
    simp
  · have ex : wv (1, x1, xt) = .iface 121 (.int .i64 x1) := rfl
    have ey : wv (1, y1, yt) = .iface 121 (.int .i64 y1) := rfl
    rw [ex, ey, eqW11]
    rw [hxn (by decide), hyn (by decide)]
    by_cases h : x1 = y1 <;> simp [h]
  · have ex : wv (1, x1, xt) = .iface 121 (.int .i64 x1) := rfl
    have ey : wv (2, y1, yt) = .iface 122 (.string (strOfNums yt)) := rfl
    rw [ex, ey, eqW12]
    simp
  · have ex : wv (1, x1, xt) = .iface 121 (.int .i64 x1) := rfl
    have ey : wv (4, y1, yt) = .iface 123 (.int .i64 y1) := rfl
    rw [ex, ey, eqW14]
    simp
  · have ex : wv (2, x1, xt) = .iface 122 (.string (strOfNums xt)) := rfl
    have ey : wv (0, y1, yt) = .iface 100 (.int .i64 y1) := rfl
    rw [ex, ey, eqW20]
    simp
  · have ex : wv (2, x1, xt) = .iface 122 (.string (strOfNums xt)) := rfl
    have ey : wv (1, y1, yt) = .iface 121 (.int .i64 y1) := rfl
    rw [ex, ey, eqW21]
    simp
  · have ex : wv (2, x1, xt) = .iface 122 (.string (strOfNums xt)) := rfl
    have ey : wv (2, y1, yt) = .iface 122 (.string (strOfNums yt)) := rfl
    rw [ex, ey, eqW22]
    rw [str_inj (hx2 rfl).2 (hy2 rfl).2, (hx2 rfl).1, (hy2 rfl).1]
    by_cases h : xt = yt <;> simp [h]
  · have ex : wv (2, x1, xt) = .iface 122 (.string (strOfNums xt)) := rfl
    have ey : wv (4, y1, yt) = .iface 123 (.int .i64 y1) := rfl
    rw [ex, ey, eqW24]
    simp
  · have ex : wv (4, x1, xt) = .iface 123 (.int .i64 x1) := rfl
    have ey : wv (0, y1, yt) = .iface 100 (.int .i64 y1) := rfl
    rw [ex, ey, eqW40]
    simp
  · have ex : wv (4, x1, xt) = .iface 123 (.int .i64 x1) := rfl
    have ey : wv (1, y1, yt) = .iface 121 (.int .i64 y1) := rfl
    rw [ex, ey, eqW41]
    simp
  · have ex : wv (4, x1, xt) = .iface 123 (.int .i64 x1) := rfl
    have ey : wv (2, y1, yt) = .iface 122 (.string (strOfNums yt)) := rfl
    rw [ex, ey, eqW42]
    simp
  · have ex : wv (4, x1, xt) = .iface 123 (.int .i64 x1) := rfl
    have ey : wv (4, y1, yt) = .iface 123 (.int .i64 y1) := rfl
    rw [ex, ey, eqW44]
    rw [hxn (by decide), hyn (by decide)]
    by_cases h : x1 = y1 <;> simp [h]

theorem pairsL_rev (xs : List Cel) (s t n k : Nat) (hk : k < n) : (pairsL xs s t n).reverse.take (n - k) = (pairsL xs s t n).reverse.take (n - (k + 1)) ++ [(xs.getD (s + (k + 1)) Cel.none, xs.getD (t + (k + 1)) Cel.none)] := by
  have hlen : (pairsL xs s t n).length = n := by simp [pairsL]
  rw [show n - k = (n - (k + 1)) + 1 by omega, List.take_add_one]
  congr 1
  have : (pairsL xs s t n).reverse[n - (k + 1)]? = some (xs.getD (s + (k + 1)) Cel.none, xs.getD (t + (k + 1)) Cel.none) := by
    rw [List.getElem?_reverse (by omega), hlen, show n - 1 - (n - (k + 1)) = k by omega]
    simp [pairsL, hk]
  rw [this]; rfl

set_option maxHeartbeats 1000000 in
set_option maxRecDepth 100000 in
theorem open_any (B h L m : Nat) (lk : Int) (x y : Cel) (st : USt) (ps : List (Cel × Cel)) (w : World) (hf : Fit st) (hx : WOk st.1 x) (hy : WOk st.1 y) (hx0 : x.1 ≠ 0) (hy0 : y.1 ≠ 0) (hl : ps.length ≤ 900000) (H : HeapO w h st.1 st.2 m lk) (HS : StkP B w L ps) :
    Calls Try.prog 106 #[.pointer (some ⟨h, 0, none⟩), wv x, wv y, .pointer (some ⟨L, 0, none⟩)] w fun e w' => e = .returned (.bool (decide ((uStep st x y).1.2 = 0))) ∧ ((uStep st x y).1.2 = 0 → StkP B w' L (ps ++ (uStep st x y).2.reverse)) ∧ FrS B w w' := by
  have hBw : B ≤ w.heap.size := by have h1 := HS.lt; have h2 := HS.ge; omega
  obtain ⟨i1, i4x, _⟩ := isW x hx.1.knd
  obtain ⟨_, i4y, _⟩ := isW y hy.1.knd
  by_cases h4 : x.1 = 4 ∧ y.1 = 4
  · obtain ⟨h4x, h4y⟩ := h4
    obtain ⟨s0, s1, s2⟩ := hx.1.2.2 h4x
    obtain ⟨t0, t1, t2⟩ := hy.1.2.2 h4y
    obtain ⟨x0, x1, xt⟩ := x
    obtain ⟨y0, y1, yt⟩ := y
    simp only at h4x h4y s0 s1 s2 t0 t1 t2 i4x i4y
    subst h4x h4y
    obtain ⟨s, rfl⟩ : ∃ k : Nat, x1 = k := ⟨x1.toNat, by omega⟩
    obtain ⟨t, rfl⟩ : ∃ k : Nat, y1 = k := ⟨y1.toNat, by omega⟩
    simp only [Int.toNat_natCast] at s2 t2
    simp only [if_true, decide_true] at i4x i4y
    have hs : s < st.1.length := by omega
    have ht : t < st.1.length := by omega
    have hxl := hf.1.shp.len
    obtain ⟨fs1, fs2, fs3⟩ := hf.1.shp.funs s hs s2
    obtain ⟨ft1, ft2, ft3⟩ := hf.1.shp.funs t ht t2
    obtain ⟨nn, enn⟩ : ∃ k : Nat, numA st.1 s = k := ⟨(numA st.1 s).toNat, by omega⟩
    obtain ⟨mm, emm⟩ : ∃ k : Nat, numA st.1 t = k := ⟨(numA st.1 t).toNat, by omega⟩
    have hnn : nn ≤ 20 := by omega
    have HFA : Hid (∀ W, HeapAt W h st.1 st.2 → Calls Try.prog 102 #[.pointer (some ⟨h, 0, none⟩), .int .i64 (s : Int)] W fun e w' => e = .returned (.agg #[.string (strOfNums (st.1.getD s Cel.none).2.2), .int .i64 (nn : Int)]) ∧ Below W.heap.size W w') := fun W hW => by have := functorAt_any h s st.1 st.2 W hxl hs s2 hW; rw [enn] at this; exact this
    have HFB : Hid (∀ W, HeapAt W h st.1 st.2 → Calls Try.prog 102 #[.pointer (some ⟨h, 0, none⟩), .int .i64 (t : Int)] W fun e w' => e = .returned (.agg #[.string (strOfNums (st.1.getD t Cel.none).2.2), .int .i64 (mm : Int)]) ∧ Below W.heap.size W w') := fun W hW => by have := functorAt_any h t st.1 st.2 W hxl ht t2 hW; rw [emm] at this; exact this
    have hcmp : ((strOfNums (st.1.getD s Cel.none).2.2).toList == (strOfNums (st.1.getD t Cel.none).2.2).toList && (nn : Int) == (mm : Int)) = decide (sameF st.1 s t) := by
      rw [str_injK (hf.2.1 s hs).2 (hf.2.1 t ht).2, Bool.eq_iff_iff, Bool.and_eq_true, decide_eq_true_eq, decide_eq_true_eq, beq_iff_eq]
      unfold sameF
      rw [enn, emm]
      exact ⟨fun hh => ⟨hh.2, hh.1⟩, fun hh => ⟨hh.2, hh.1⟩⟩
    have HNF : Hid (¬ sameF st.1 s t → uStep st (4, (s : Int), xt) (4, (t : Int), yt) = ((st, 4), [])) := fun hh => us_nf rfl rfl (by simpa using hh)
    have HOP : Hid (sameF st.1 s t → uStep st (4, (s : Int), xt) (4, (t : Int), yt) = ((st, 0), pairsL st.1 s t nn)) := fun hh => by
      have := us_op (st := st) (x := (4, (s : Int), xt)) (y := (4, (t : Int), yt)) rfl rfl (by simpa using hh)
      simp only [Int.toNat_natCast, enn] at this
      exact this
    have HAT : Hid (sameF st.1 s t → ∀ k, k < nn → s + (k + 1) < st.1.length ∧ t + (k + 1) < st.1.length) := fun hh k hk => ⟨(fs3 (k + 1) (by omega) (by omega)).1, (ft3 (k + 1) (by omega) (by have := hh.1; omega)).1⟩
    have HH : Hid (HeapO w h st.1 st.2 m lk) := H
    have HSK : Hid (StkP B w L ps) := HS
    generalize strOfNums (st.1.getD s Cel.none).2.2 = sx at HFA hcmp
    generalize strOfNums (st.1.getD t Cel.none).2.2 = sy at HFB hcmp
    generalize uStep st (4, (s : Int), xt) (4, (t : Int), yt) = U at HNF HOP ⊢
    obtain ⟨tx, ux, ex⟩ := wv_iface (4, (s : Int), xt)
    obtain ⟨ty, uy, ey⟩ := wv_iface (4, (t : Int), yt)
    rw [ex] at i4x ⊢
    rw [ey] at i4y ⊢
    have hna := HFA.out w H.at
    have fN := fun W => neqF W sx sy (nn : Int) (mm : Int)
    clear hf hx hy hx0 hy0 H HS i1 ex ey s0 s1 s2 t0 t1 t2 fs1 fs2 fs3 ft1 ft2 ft3 enn emm
    go_enter Try.func106, Try.ntmps106
    go_wp2_with fail
    refine hna.mono ?_
    rintro e w1 ⟨rfl, hb1⟩
    have HB1 : Hid (Below w.heap.size w w1) := hb1
    have hnb := HFB.out w1 (HH.out.below hb1).at
    clear hb1 hna
    go_wp2_with fail
    refine hnb.mono ?_
    rintro e w2 ⟨rfl, hb2⟩
    have HB2 : Hid (Below w.heap.size w w2) := Below.on HB1.out hb2
    clear hb2 hnb
    by_cases hsf : sameF st.1 s t
    · rw [hcmp, decide_eq_true hsf] at fN
      have hU := HOP.out hsf
      subst hU
      have HA2 : Hid _ := HAT.out hsf
      have hna := HFA.out w2 (HH.out.below HB2.out).at
      clear HNF HOP HAT hcmp hsf
      go_wp2_with fail
      refine hna.mono ?_
      rintro e w3 ⟨rfl, hb3⟩
      have HB3 : Hid (Below w.heap.size w w3) := Below.on HB2.out hb3
      have fA := fun W => fldA W sx (nn : Int)
      clear hb3 hna
      go_wp2
      have HS3 : Hid (StkP B w3 L (ps ++ (pairsL st.1 s t nn).reverse.take (nn - nn))) := by show StkP B _ _ _; rw [Nat.sub_self, List.take_zero, List.append_nil]; exact HSK.out.below HB3.out
      have HF3 : Hid (FrS B w w3) := FrS.of_below HB3.out
      clear fA fN HB1 HB2 HB3 HFA HFB i4x i4y
      go_loopw [13] (fun i wr => ∃ k : Nat, k ≤ nn ∧ i = .int .i64 k ∧ Hid (StkP B wr L (ps ++ (pairsL st.1 s t nn).reverse.take (nn - k))) ∧ Hid (FrS B w wr)) (fun i _ => (intOf i).toNat)
      case atStart => exact ⟨nn, Nat.le_refl _, rfl, HS3, HF3⟩
      case round =>
        obtain ⟨k, hk, rfl, HK, HFr⟩ := hrel
        cases k with
        | zero =>
          have HR : Hid (StkP B wr L (ps ++ (pairsL st.1 s t nn).reverse)) := by
            have := HK.out
            rw [Nat.sub_zero, List.take_of_length_le (by simp [pairsL])] at this
            exact this
          clear HK
          go_wp2
          go_ret
          first
            | exact ⟨rfl, HR.out, HFr.out⟩
            | exact ⟨rfl, fun _ => HR.out, HFr.out⟩
        | succ k =>
          obtain ⟨a1, b1⟩ := HA2.out k (by omega)
          obtain ⟨pw, cw, pt, ct, h0, _, hwin, _⟩ := (HH.out.frS HFr.out).at
          obtain ⟨gw, rfl, hcs⟩ := hwin (by omega)
          have d0 := hcs _ a1
          have u0 := hcs _ b1
          have hrev := pairsL_rev st.1 s t nn k (by omega)
          have HREV : Hid _ := hrev
          have hplen : (ps ++ (pairsL st.1 s t nn).reverse.take (nn - (k + 1))).length ≤ 1000000 := by
            rw [List.length_append, List.length_take]
            have : (pairsL st.1 s t nn).reverse.length = nn := by simp [pairsL]
            omega
          generalize hzc : st.1.getD (s + (k + 1)) Cel.none = zc at d0 HREV
          generalize hzd : st.1.getD (t + (k + 1)) Cel.none = zd at u0 HREV
          have HPU : Hid (∀ W b, Below wr.heap.size wr W → W.cell? ⟨b, 0, none⟩ = some (wv zc) → W.cell? ⟨b, 1, none⟩ = some (wv zd) → Calls Try.prog 116 #[.pointer (some ⟨L, 0, none⟩), .slice (some ⟨b, 0, none⟩) 1 1] W fun e w' => e = .returned (.tuple #[]) ∧ StkP B w' L (ps ++ (pairsL st.1 s t nn).reverse.take (nn - k)) ∧ FrS B W w') := fun W b hW z0 z1 => (pushP_any B L b _ (zc, zd) W hplen (HK.out.below hW) z0 z1).mono fun e w' ⟨h1, h2, h3⟩ => ⟨h1, by rw [HREV.out, ← List.append_assoc]; exact h2, h3⟩
          obtain ⟨t1, v1, hv1⟩ := wv_iface zc
          obtain ⟨t2, v2, hv2⟩ := wv_iface zd
          rw [hv1] at d0 HPU
          rw [hv2] at u0 HPU
          obtain ⟨tc, etc⟩ : ∃ q : Nat, q = s + (k + 1) := ⟨_, rfl⟩
          obtain ⟨td, etd⟩ : ∃ q : Nat, q = t + (k + 1) := ⟨_, rfl⟩
          rw [← etc] at d0 a1
          rw [← etd] at u0 b1
          have hw1 : IntKind.i64.wrap ((s : Int) + ((k : Int) + 1)) = (tc : Int) := by rw [show (s : Int) + ((k : Int) + 1) = tc by omega, IntKind.wrap_i64]; omega
          have hw2 : IntKind.i64.wrap ((t : Int) + ((k : Int) + 1)) = (td : Int) := by rw [show (t : Int) + ((k : Int) + 1) = td by omega, IntKind.wrap_i64]; omega
          have hkb : k ≤ 20 := by omega
          have hkp : (0 : Int) < (k : Int) + 1 := by omega
          have HKK : Hid (∀ w', FrS B wr w' → w'.cell? ⟨h, 0, none⟩ = some (.slice (some ⟨gw, 0, none⟩) st.1.length cw) ∧ w'.cell? ⟨gw, tc, none⟩ = some (.iface t1 v1) ∧ w'.cell? ⟨gw, td, none⟩ = some (.iface t2 v2)) := fun w' hf' => by
            obtain ⟨pw', cw', pt', ct', g0, g1, g2, g3⟩ := id ((HH.out.frS HFr.out))
            have e0 : wr.cell? ⟨h, 0, none⟩ = some (.slice pw' st.1.length cw') := by simp [World.cell?, g0]
            rw [h0] at e0
            simp only [Option.some.injEq, Value.slice.injEq, true_and] at e0
            have hrow := row_frS g1 hf' (by decide) (by decide)
            rw [← e0.1, ← e0.2] at hrow g1
            have hb0 := (HH.out.frS HFr.out).frS hf'
            obtain ⟨pw2, cw2, pt2, ct2, j0, _⟩ := id hb0
            have hblk : w'.heap[h]? = wr.heap[h]? := hf'.2.1 h (HH.out.frS HFr.out).lt (fun cs f e => by
              rw [g0] at e
              simp only [Option.some.injEq, Obj.cells.injEq] at e
              exact absurd e.2.1 (by decide)) (fun cs f e => by
              rw [g0] at e
              simp only [Option.some.injEq, Obj.cells.injEq] at e
              exact absurd e.2.1 (by decide))
            exact ⟨(World.cell?_of_block (a := ⟨h, 0, none⟩) hblk).trans h0, by rw [hrow.cellAt tc (by omega), ← g1.cellAt tc (by omega)]; exact d0, by rw [hrow.cellAt td (by omega), ← g1.cellAt td (by omega)]; exact u0⟩
          have hbA : Below wr.heap.size wr (wr.alloc (.cells #[.iface t1 v1, .iface t2 v2] 139)).drew := (alloc_on _ _).drew
          have hbx := Box2.of_block (w := (wr.alloc (.cells #[.iface t1 v1, .iface t2 v2] 139)).drew) (t := 139) (heap_alloc_new wr (.cells #[.iface t1 v1, .iface t2 v2] 139))
          have HPC : Hid (Calls Try.prog 116 #[.pointer (some ⟨L, 0, none⟩), .slice (some ⟨wr.heap.size, 0, none⟩) 1 1] (wr.alloc (.cells #[.iface t1 v1, .iface t2 v2] 139)).drew fun e w' => e = .returned (.tuple #[]) ∧ StkP B w' L (ps ++ (pairsL st.1 s t nn).reverse.take (nn - k)) ∧ FrS B wr w') := Calls.mono (HPU.out _ wr.heap.size hbA hbx.1 hbx.2.1) fun e w' ⟨h1, h2, h3⟩ => ⟨h1, h2, (FrS.of_below hbA (by have := HFr.out.1; omega)).trans h3⟩
          clear hcs hwin hrev hv1 hv2 hzc hzd etc etd HK hbA hbx HPU
          go_wp2
          go_region_held3 (fun W => W.cell? ⟨h, 0, none⟩ = some (.slice (some ⟨gw, 0, none⟩) st.1.length cw) ∧ W.cell? ⟨gw, tc, none⟩ = some (.iface t1 v1) ∧ W.cell? ⟨gw, td, none⟩ = some (.iface t2 v2)) (first | exact kk | go_keep)
            (first | (go_at_call 116; refine Calls.mono HPC.out ?_; rintro e w5 ⟨rfl, hs5, hf5⟩; have HS5 : Hid (StkP B w5 L (ps ++ (pairsL st.1 s t nn).reverse.take (nn - k))) := hs5; have HF5 : Hid (FrS B w w5) := HFr.out.trans hf5; have kk := HKK.out w5 hf5; clear hs5 hf5))
          rename_i hheld
          clear hheld kk h0 d0 u0 HPC HKK
          go_wp2
          go_roundw
          case rel => exact ⟨k, by omega, by first | rfl | (simp; done) | (push_cast; rfl), HS5, HF5⟩
          case measure => simp [intOf]
    · rw [hcmp, decide_eq_false hsf] at fN
      have hU := HNF.out hsf
      subst hU
      clear HNF HOP HAT hcmp hsf HFA HFB
      go_wp2
      go_ret
      first
        | exact ⟨rfl, FrS.of_below HB2.out⟩
        | exact ⟨rfl, fun hh => absurd hh (by decide), FrS.of_below HB2.out⟩
  · have heq := fun W => eqW_any W (nw_of hx) (nw_of hy)
    have HU : Hid (uStep st x y = ((st, if x = y then 0 else 4), [])) := by
      show _ = _
      by_cases e : x = y
      · rw [if_pos e, us_eq hx0 hy0 h4 e]
      · rw [if_neg e, us_no hx0 hy0 h4 e]
    have HR : Hid (decide ((uStep st x y).1.2 = 0) = decide (x = y)) := by
      show _ = _
      rw [HU.out]
      by_cases e : x = y <;> simp [e]
    have HSK : Hid ((uStep st x y).1.2 = 0 → StkP B w L (ps ++ (uStep st x y).2.reverse)) := fun _ => by rw [HU.out]; simpa using HS
    rw [HR.out]
    generalize uStep st x y = U at HSK ⊢
    generalize decide (x = y) = bb at heq ⊢
    have hcx : decide (x.1 = 4) = false ∨ (decide (x.1 = 4) = true ∧ decide (y.1 = 4) = false) := by
      by_cases e : x.1 = 4
      · exact .inr ⟨by simp [e], by simp; exact fun e2 => h4 ⟨e, e2⟩⟩
      · exact .inl (by simp [e])
    obtain ⟨tx, ux, ex⟩ := wv_iface x
    obtain ⟨ty, uy, ey⟩ := wv_iface y
    rw [ex] at i4x heq ⊢
    rw [ey] at i4y heq ⊢
    generalize (if x.1 = 4 then x.2.1 else 0) = nx at i4x
    generalize (if y.1 = 4 then y.2.1 else 0) = ny at i4y
    generalize decide (x.1 = 4) = bx at i4x hcx
    generalize decide (y.1 = 4) = bY at i4y hcx
    clear hf hx hy hx0 hy0 H HS h4 HU HR i1 ex ey
    rcases hcx with rfl | ⟨rfl, rfl⟩
    all_goals
      go_enter Try.func106, Try.ntmps106
      go_wp2
      go_ret
      exact ⟨rfl, HSK.out, FrS.refl _ _⟩

end Go.Proofs.Ytfnmoaiejpkocaa

