/- Texts of StX, StY, StO. Own work of the verifier. -/
import Derived.Test.YtedkkghekboahaaUqah
namespace Go.Proofs.Ytedkkghekboahaa
open Go Go.RowKit Go.Maps
set_option linter.unusedVariables false

theorem wpList_app_run {P : Program} {ops : Array Oper} {rest : List Oper} {o : Oper} {a : Act} {Q : Exit → Act → World → Prop} (hgd : o.guard = none) (s x : Operand) (t u : TypeId)
    (ho : o.op = .call { callee := .builtin .append, args := #[s, x], argTypes := #[t, u] }) (v y r : Value) (w w' : World) (hs : a.eval s = v) (hx : a.eval x = y)
    (hr : (Builtin.append_ #[t, u] o.type #[v, y]).run P w = .ok r w') (h : wpList P ops Q rest (a.put o.dst r) w') : wpList P ops Q (o :: rest) a w :=
  wpList_plain hgd fun _ hK => by
    unfold Oper.wp execOp
    simp only [ho, resolve, invoke, builtin, Sem.run_bind, Sem.run_pure, Result.andThen_ok, List.map_toArray, List.map_cons, List.map_nil, hs, hx, hr]
    exact hK _ _ h
theorem infoWord : (Try.prog.info? 70).map (fun i => (i.zero, i.size, i.bytes)) = some (some .nilIface, 1, 16) := by kernel_rfl
/-- Numbers put onto an empty trail. -/
theorem app_trail (w : World) (ty : TypeId) (q : Option Addr) (c : Nat) (ys : List Int) (hl : ys.length ≤ 20000) (hin : IIn w q ys) :
    ∃ pt ct w1, (Builtin.append_ #[90, 23] ty #[.slice none 0 0, .slice q ys.length c]).run Try.prog w = .ok (.slice pt ys.length ct) w1 ∧ Below w.heap.size w w1 ∧ OwnI w1 w.heap.size 3 pt ys.length ct ys := by
  obtain ⟨i0, hi, hz0, hz1, hz2⟩ := info_parts infoInt
  by_cases hn : 0 < ys.length
  · obtain ⟨g, o, rfl, hc⟩ := hin hn
    obtain ⟨g', cap, w', hr, h2, h3, _, _⟩ := run_append_lies (P := Try.prog) w 90 ty w.heap.size 3 i0 (.int .i64 0) 1 8 Try.underlying90 hi hz0 hz1 hz2 rfl (by decide) (.slice none 0 0) 0 [] (World.ownsRow_nil _ _ _ _) ⟨g, o, none⟩ ys.length c (ys.map (Value.int .i64)) (by simp)
      (fun j u hj => by
        simp only [List.getElem?_map] at hj
        cases hy : ys[j]? with
        | none => rw [hy] at hj; cases hj
        | some y =>
          rw [hy] at hj
          have hlt : j < ys.length := (List.getElem?_eq_some_iff.1 hy).1
          have := hc j hlt
          rw [show (⟨g, o, none⟩ : Addr).add j = ⟨g, o + j, none⟩ from WideShapes.add_plain _ _ _, this]
          simp [List.getD, hy] at hj ⊢
          exact hj) (ints_oneCell .i64 ys) hn (by unfold maxLen; omega) (by omega) (Nat.le_refl _) _ rfl
    have e : (Builtin.append_ #[90, 23] ty #[.slice none 0 0, .slice (some ⟨g, o, none⟩) ys.length c]).run Try.prog w = (Builtin.append_ #[90, 90] ty #[.slice none 0 0, .slice (some ⟨g, o, none⟩) ys.length c]).run Try.prog w := by
      simp [Builtin.append_, run_underlying Try.underlying90, run_underlying Try.underlying23]
    simp only [Nat.zero_add, List.nil_append] at hr h2
    exact ⟨_, _, w', e.trans hr, (Below.refl _ _).grown h3 (Nat.le_refl _) (fun k hk => by cases hk), rfl, h2⟩
  · obtain rfl : ys = [] := by cases ys with | nil => rfl | cons a r => simp at hn
    have hs : Src Try.prog i0.size 23 (.slice q 0 c) 0 [] w := by
      cases q with
      | none => exact Src.ofNil w Try.underlying23 c
      | some ad => exact Src.ofSlice w Try.underlying23 ad 0 c [] (by simp) (fun j u h => by simp at h) (fun u h => by cases h)
    exact ⟨none, 0, w, run_append_nothing w 90 23 ty 3 i0 Try.underlying90 hi none 0 0 (Nat.le_refl _) _ hs, Below.refl _ _, OwnI.nil _ _ _⟩

set_option maxRecDepth 100000 in
theorem push_any (h o : Nat) (q : Option Addr) (c : Nat) (ys : List Int) (w : World) (hl : ys.length ≤ 20000) (hin : IIn w q ys) (h0 : w.cell? ⟨h, o, none⟩ = some (.slice none 0 0)) (hf : w.frozen? ⟨h, o, none⟩ = false) :
    Calls Try.prog 82 #[.pointer (some ⟨h, o, none⟩), .slice q ys.length c] w fun e w' => e = .returned (.tuple #[]) ∧ ∃ pt ct w1, w' = w1.setCell ⟨h, o, none⟩ (.slice pt ys.length ct) ∧ Below w.heap.size w w1 ∧ OwnI w1 w.heap.size 3 pt ys.length ct ys := by
  obtain ⟨pt, ct, w1, hr, hb, hown⟩ := app_trail w 90 q c ys hl hin
  have h1 := (hb.cell (World.block_lt_of_cell? _ _ h0)).trans h0
  have f1 := (hb.frozen (World.block_lt_of_cell? _ _ h0)).trans hf
  have HF : Hid (Below w.heap.size w w1 ∧ OwnI w1 w.heap.size 3 pt ys.length ct ys) := ⟨hb, hown⟩
  clear hb hown hin
  go_enter Try.func82, Try.ntmps82
  go_wp2_with (at_builtin; refine wpList_app_run rfl _ _ _ _ rfl _ _ _ _ _ rfl rfl hr ?_)
  refine bodyPost_end (v := .tuple #[]) (by simp [results, Try.results82, go_sem]) rfl ?_
  exact ⟨rfl, pt, ct, w1, rfl, HF.out⟩

set_option maxRecDepth 100000 in
theorem newHeap_any (w : World) : Calls Try.prog 80 #[] w fun e w' => e = .returned (.pointer (some ⟨w.heap.size + 1, 0, none⟩)) ∧ w' = (w.alloc (.map #[] 0)).alloc (.cells #[.slice none 0 0, .slice none 0 0, .map (some w.heap.size), .int .i64 0] 93) := by
  have hmm := @run_makeMap Try.prog
  have hb : ∀ W, (Instr.build 93 #[(2, .map (some w.heap.size))]).run Try.prog W = .ok (.agg #[.slice none 0 0, .slice none 0 0, .map (some w.heap.size), .int .i64 0]) W := fun W => run_build W 93 _ _ (by kernel_rfl)
  go_enter Try.func80, Try.ntmps80
  go_wp2
  go_ret
  exact ⟨by simp, rfl⟩

/-- Block h is a heap that is being filled; its map is empty. -/
def Bld (W : World) (h : Nat) (p : Option Addr) (k c : Nat) (vs : List Value) : Prop :=
  (∃ m, W.heap[h]? = some (.cells #[.slice p k c, .slice none 0 0, .map (some m), .int .i64 0] 93) ∧ h = m + 1 ∧ W.heap[m]? = some (.map #[] 0)) ∧ W.ownsRow (h + 1) 70 1 (.slice p k c) k vs
theorem Bld.old {W : World} {h : Nat} {p : Option Addr} {k c : Nat} {vs : List Value} (B : Bld W h p k c vs) : W.cell? ⟨h, 0, none⟩ = some (.slice p k c) ∧ W.frozen? ⟨h, 0, none⟩ = false ∧ W.cell? ⟨h, 1, none⟩ = some (.slice none 0 0) ∧ W.frozen? ⟨h, 1, none⟩ = false ∧ W.ownsRow (h + 1) 70 1 (.slice p k c) k vs := by
  obtain ⟨⟨m, hm, _⟩, ho⟩ := B
  exact ⟨by simp [World.cell?, hm], frozen_of_row _ _ _ _ _ hm, by simp [World.cell?, hm], frozen_of_row _ _ _ _ _ hm, ho⟩
theorem Bld.lt {W : World} {h : Nat} {p : Option Addr} {k c : Nat} {vs : List Value} (B : Bld W h p k c vs) : h < W.heap.size := World.block_lt_of_cell? _ _ B.old.1
theorem Bld.below {W W' : World} {h : Nat} {p : Option Addr} {k c : Nat} {vs : List Value} (B : Bld W h p k c vs) (hb : Below W.heap.size W W') : Bld W' h p k c vs := by
  have hl := B.lt
  obtain ⟨⟨m, hm, hlt, h0⟩, ho⟩ := B
  exact ⟨⟨m, (hb.block h hl).trans hm, hlt, (hb.block m (by omega)).trans h0⟩, row_below ho hb⟩
/-- A word is put behind the others. -/
theorem Bld.put {W W' : World} {h g : Nat} {p : Option Addr} {k c c' : Nat} {vs : List Value} {v : Value} (B : Bld W h p k c vs) (hown : W'.ownsRow (h + 1) 70 1 (.slice (some ⟨g, 0, none⟩) (k + 1) c') (k + 1) (vs ++ [v])) (hg : W.grownBy W' (Value.ownBlock (.slice p k c))) :
    Bld (W'.setCell ⟨h, 0, none⟩ (.slice (some ⟨g, 0, none⟩) (k + 1) c')) h (some ⟨g, 0, none⟩) (k + 1) c' (vs ++ [v]) := by
  have hl := B.lt
  have hlow : ∀ b, Value.ownBlock (.slice p k c) = some b → h < b := fun b e => by have := (B.old.2.2.2.2.lt b e).1; omega
  obtain ⟨⟨m, hm, hlt, h0⟩, ho⟩ := B
  have hgg := (hown.lt g rfl).1
  have hb : W'.heap[h]? = W.heap[h]? := hg.block h hl (fun e => by have := hlow h e.symm; omega)
  have hbm : W'.heap[m]? = W.heap[m]? := hg.block m (by omega) (fun e => by have := hlow m e.symm; omega)
  refine ⟨⟨m, ?_, hlt, ?_⟩, ownsRow_setCell_other hown (by simp [Value.ownBlock]; omega) _⟩
  · rw [heap_setCell_same _ _ _ _ _ _ (hb.trans hm)]; rfl
  · rw [heap_setCell_other _ _ _ _ (by simp; omega)]; exact hbm.trans h0

end Go.Proofs.Ytedkkghekboahaa

namespace Go.Proofs.Ytedkkghekboahaa
open Go Go.RowKit Go.Maps
set_option linter.unusedVariables false

theorem one_wordV (c : Cel) : ∀ u ∈ [wv c], u.oneCell' = true := fun u hu => by
  simp at hu; rw [hu]; unfold wv; split <;> (try split) <;> (try split) <;> (try split) <;> rfl
theorem wv_iface (c : Cel) : ∃ ty y, wv c = .iface ty y := by
  unfold wv; split
  · exact ⟨_, _, rfl⟩
  · split
    · exact ⟨_, _, rfl⟩
    · split
      · exact ⟨_, _, rfl⟩
      · split
        · exact ⟨_, _, rfl⟩
        · exact ⟨_, _, rfl⟩
theorem take_wv (xs : List Cel) (k : Nat) (h : k < xs.length) : (xs.take (k + 1)).map wv = (xs.take k).map wv ++ [wv (xs.getD k Cel.none)] := by
  rw [List.take_succ_eq_append_getElem h, List.map_append]
  simp [List.getD, h]
/-- The words lie as those of a heap. -/
theorem Bld.win {W : World} {h : Nat} {p : Option Addr} {c : Nat} {xs : List Cel} (B : Bld W h p xs.length c (xs.map wv)) : WIn W p xs := fun hn => by
  obtain ⟨g, cap, hv, hb, hg⟩ := B.2.form hn
  simp only [Value.slice.injEq, true_and] at hv
  obtain ⟨rfl, rfl⟩ := hv
  exact ⟨g, rfl, fun i hi => by rw [B.2.cellAt i (by omega)]; simp [List.getD, hi]⟩
/-- Block h is a heap of the call's own: its words and its trail lie behind it. -/
def HeapO (w : World) (h : Nat) (xs : List Cel) (tr : List Int) (m : Nat) (lk : Int) : Prop :=
  ∃ pw cw pt ct, w.heap[h]? = some (.cells #[.slice pw xs.length cw, .slice pt tr.length ct, .map (some m), .int .i64 lk] 93) ∧ w.ownsRow (h + 1) 70 1 (.slice pw xs.length cw) xs.length (xs.map wv) ∧ OwnI w (h + 1) 3 pt tr.length ct tr ∧ m < h
theorem HeapO.lt {w : World} {h : Nat} {xs : List Cel} {tr : List Int} {m : Nat} {lk : Int} (H : HeapO w h xs tr m lk) : h < w.heap.size := by
  obtain ⟨pw, cw, pt, ct, h0, _⟩ := H
  exact (Array.getElem?_eq_some_iff.1 h0).1
theorem HeapO.below {w w' : World} {h : Nat} {xs : List Cel} {tr : List Int} {m : Nat} {lk : Int} (H : HeapO w h xs tr m lk) (hb : Below w.heap.size w w') : HeapO w' h xs tr m lk := by
  have hl := H.lt
  obtain ⟨pw, cw, pt, ct, h0, h1, h2, h3⟩ := H
  exact ⟨pw, cw, pt, ct, (hb.block h hl).trans h0, row_below h1 hb, h2.below hb, h3⟩
theorem HeapO.at {w : World} {h : Nat} {xs : List Cel} {tr : List Int} {m : Nat} {lk : Int} (H : HeapO w h xs tr m lk) : HeapAt w h xs tr := by
  obtain ⟨pw, cw, pt, ct, h0, h1, h2, h3⟩ := H
  refine ⟨pw, cw, pt, ct, by simp [World.cell?, h0], by simp [World.cell?, h0], fun hn => ?_, h2.iin⟩
  obtain ⟨g, cap, hv, hb, hg⟩ := h1.form hn
  simp only [Value.slice.injEq, true_and] at hv
  obtain ⟨rfl, rfl⟩ := hv
  exact ⟨g, rfl, fun i hi => by rw [h1.cellAt i (by omega)]; simp [List.getD, hi]⟩
theorem heap_pushed {W W1 : World} {h : Nat} {p pt : Option Addr} {c ct : Nat} {xs : List Cel} {tr : List Int} (B : Bld W h p xs.length c (xs.map wv)) (hb : Below W.heap.size W W1) (ho : OwnI W1 W.heap.size 3 pt tr.length ct tr) : ∃ m, HeapO (W1.setCell ⟨h, 1, none⟩ (.slice pt tr.length ct)) h xs tr m 0 ∧ (W1.setCell ⟨h, 1, none⟩ (.slice pt tr.length ct)).heap[m]? = some (.map #[] 0) ∧ h = m + 1 := by
  have B1 := B.below hb
  have hl := B.lt
  obtain ⟨⟨m, hm, hlt, h0⟩, hr⟩ := B1
  refine ⟨m, ⟨p, c, pt, ct, ?_, ownsRow_setCell_other hr (fun e => by have := (hr.lt _ e).1; simp at this; omega) _, ⟨ho.1, ownsRow_down (ownsRow_setCell_other ho.2 (fun e => by have := (ho.2.lt _ e).1; simp at this; omega) _) (by omega)⟩, by omega⟩, ?_, hlt⟩
  · rw [heap_setCell_same _ _ _ _ _ _ hm]; rfl
  · rw [heap_setCell_other _ _ _ _ (by simp; omega)]; exact h0
/-- All that a store asks, told by the parts. -/
theorem store_heap {xs : List Cel} {tr : List Int} (hl : xs.length ≤ 20000) (ht : tr.length ≤ 20000) (ho : ∀ a, a < xs.length → okW (xs.getD a Cel.none).1 (xs.getD a Cel.none).2.1 (xs.getD a Cel.none).2.2.length = true) : storeB xs tr = heapB xs tr := by
  have e : xs.all (goodC xs) = xs.all (linkC xs) := by
    cases hh : xs.all (linkC xs)
    · rw [Bool.eq_false_iff]
      intro hg
      have : xs.all (linkC xs) = true := all_at fun j hj => by
        have := List.all_eq_true.1 hg _ (mem_at hj)
        simp only [goodC, Bool.and_eq_true] at this
        exact this.2
      rw [hh] at this; cases this
    · exact good_of ho hh
  unfold storeB heapB
  rw [e, decide_eq_true hl, decide_eq_true ht]
  cases xs.all (linkC xs) <;> cases wholeF 0 xs <;> cases tr.all (isWB xs) <;> rfl
theorem store_bad {xs : List Cel} {tr : List Int} {k : Nat} (hk : k < xs.length) (ho : okW (xs.getD k Cel.none).1 (xs.getD k Cel.none).2.1 (xs.getD k Cel.none).2.2.length = false) : storeB xs tr = false := by
  have : xs.all (goodC xs) = false := all_not hk (by unfold goodC; rw [ho]; rfl)
  unfold storeB
  rw [this]; simp

/-- What heapOf answers. -/
def HeapOut (xs : List Cel) (tr : List Int) (w : World) (e : Ending) (w' : World) : Prop :=
  ∃ v, e = .returned (.tuple #[v, .bool (storeB xs tr)]) ∧ Below w.heap.size w w' ∧ (storeB xs tr = true → ∃ h m, v = .pointer (some ⟨h, 0, none⟩) ∧ HeapO w' h xs tr m 0 ∧ w'.heap[m]? = some (.map #[] 0) ∧ w.heap.size ≤ m)

set_option maxHeartbeats 2000000 in
set_option maxRecDepth 100000 in
theorem heapOf_any (p q : Option Addr) (c1 c2 : Nat) (xs : List Cel) (tr : List Int) (w : World) (hx : xs.length ≤ 1000000000) (hy : tr.length ≤ 1000000000) (hc : CIn w p xs) (hi : IIn w q tr) :
    Calls Try.prog 57 #[.agg #[.slice p xs.length c1, .slice q tr.length c2]] w (HeapOut xs tr w) := by
  have HC : Hid (CIn w p xs) := hc
  have HI : Hid (IIn w q tr) := hi
  clear hc hi
  by_cases hl : xs.length ≤ 20000
  · have hl' : ¬ (20000 : Int) < xs.length := by omega
    by_cases ht : tr.length ≤ 20000
    · have ht' : ¬ (20000 : Int) < tr.length := by omega
      have HNH := newHeap_any (w.alloc (.cells #[.slice p xs.length c1, .slice q tr.length c2] 36))
      simp only [World.size_alloc] at HNH
      go_enter Try.func57, Try.ntmps57
      go_wp2_with fail
      refine HNH.mono ?_
      rintro e w1 ⟨rfl, e1⟩
      have k0 : w1.heap[w.heap.size]? = some (.cells #[.slice p xs.length c1, .slice q tr.length c2] 36) := by
        rw [e1, Below.heap_alloc _ _ _ (by simp; omega), Below.heap_alloc _ _ _ (by simp)]; exact heap_alloc_new _ _
      have k2 : w1.heap[w.heap.size + 1 + 1]? = some (.cells #[.slice none 0 0, .slice none 0 0, .map (some (w.heap.size + 1)), .int .i64 0] 93) := by
        have := heap_alloc_new ((w.alloc (.cells #[.slice p xs.length c1, .slice q tr.length c2] 36)).alloc (.map #[] 0)) (.cells #[.slice none 0 0, .slice none 0 0, .map (some (w.heap.size + 1)), .int .i64 0] 93)
        rw [e1]
        simpa using this
      have s0 : w1.cell? ⟨w.heap.size, 0, none⟩ = some (.slice p xs.length c1) := by simp [World.cell?, k0]
      have s1 : w1.cell? ⟨w.heap.size, 1, none⟩ = some (.slice q tr.length c2) := by simp [World.cell?, k0]
      have k1m : w1.heap[w.heap.size + 1]? = some (.map #[] 0) := by
        have := heap_alloc_new (w.alloc (.cells #[.slice p xs.length c1, .slice q tr.length c2] 36)) (.map #[] 0)
        rw [e1, Below.heap_alloc _ _ _ (by simp)]
        simpa using this
      have HBL : Hid (Bld w1 (w.heap.size + 1 + 1) none 0 0 []) := ⟨⟨w.heap.size + 1, k2, rfl, k1m⟩, World.ownsRow_nil _ _ _ _⟩
      have HB1 : Hid (Below w.heap.size w w1) := by
        rw [e1]
        exact (((Below.refl _ _).alloc (Nat.le_refl _) _).alloc (by simp) _).alloc (by simp; omega) _
      have HST : Hid (∀ W, Below (w.heap.size + 1 + 1) w1 W → W.cell? ⟨w.heap.size, 0, none⟩ = some (.slice p xs.length c1) ∧ W.cell? ⟨w.heap.size, 1, none⟩ = some (.slice q tr.length c2)) := fun W hW => ⟨(World.cell?_of_block (a := ⟨w.heap.size, 0, none⟩) (hW.block w.heap.size (by omega))).trans s0, (World.cell?_of_block (a := ⟨w.heap.size, 1, none⟩) (hW.block w.heap.size (by omega))).trans s1⟩
      have hmk : ∀ W, Below (w.heap.size + 1 + 1) w1 W → Below w.heap.size w W := fun W hW => HB1.out.trans (hW.mono (by omega))
      have HMK : Hid _ := hmk
      obtain ⟨i0, hi0, hz0, hz1, hz2⟩ := info_parts infoWord
      clear HNH e1 k0 k2 k1m s1 hmk
      go_wp2
      go_loopw [23] (fun i wr => ∃ (k c : Nat) (pw : Option Addr), k ≤ xs.length ∧ i = .int .i64 k ∧ Hid (Below (w.heap.size + 1 + 1) w1 wr) ∧ Hid (Bld wr (w.heap.size + 1 + 1) pw k c ((xs.take k).map wv)) ∧ Hid (∀ a, a < k → okW (xs.getD a Cel.none).1 (xs.getD a Cel.none).2.1 (xs.getD a Cel.none).2.2.length = true)) (fun i _ => xs.length - (intOf i).toNat)
      case atStart => exact ⟨0, 0, none, Nat.zero_le _, rfl, Below.refl _ _, by simpa [Hid] using HBL.out, fun a h => absurd h (Nat.not_lt_zero _)⟩
      case round =>
        obtain ⟨k, c, pw, hk, rfl, HB, HBd, HO⟩ := hrel
        by_cases hlt : k < xs.length
        · obtain ⟨b, o, rfl, hcs⟩ := HC.out (by omega)
          obtain ⟨qx, qc, h0, h1, h2, h3⟩ := (hcs k hlt).below (HMK.out _ HB.out)
          have HN : Hid _ := take_wv xs k hlt
          have HWO : Hid (∀ W, Below wr.heap.size wr W → Calls Try.prog 81 #[.agg #[.int .i64 (xs.getD k Cel.none).1, .int .i64 (xs.getD k Cel.none).2.1, .slice qx (xs.getD k Cel.none).2.2.length qc]] W fun e w' => (∃ v, e = .returned (.tuple #[v, .bool (okW (xs.getD k Cel.none).1 (xs.getD k Cel.none).2.1 (xs.getD k Cel.none).2.2.length)]) ∧ (okW (xs.getD k Cel.none).1 (xs.getD k Cel.none).2.1 (xs.getD k Cel.none).2.2.length = true → v = wv (xs.getD k Cel.none))) ∧ Below W.heap.size W w') := fun W hW => wordOf_any _ _ qx _ qc _ W rfl (h3.below hW)
          have HOK : Hid (okW (xs.getD k Cel.none).1 (xs.getD k Cel.none).2.1 (xs.getD k Cel.none).2.2.length = okW (xs.getD k Cel.none).1 (xs.getD k Cel.none).2.1 (xs.getD k Cel.none).2.2.length) := rfl
          have HON : Hid _ := one_wordV (xs.getD k Cel.none)
          obtain ⟨ty, y, hty⟩ := wv_iface (xs.getD k Cel.none)
          rw [hty] at HWO HN HON
          clear hty
          generalize er : okW (xs.getD k Cel.none).1 (xs.getD k Cel.none).2.1 (xs.getD k Cel.none).2.2.length = r at HWO
          have HR : Hid _ := er
          generalize (xs.getD k Cel.none).1 = d0 at h0 HWO
          generalize (xs.getD k Cel.none).2.1 = d1 at h1 HWO
          generalize (xs.getD k Cel.none).2.2.length = d2 at h2 HWO
          have hsz : Hid (w.heap.size + 1 + 1 < wr.heap.size) := HBd.out.lt
          have HBx : Hid (Below wr.heap.size wr (wr.alloc (.cells #[.int .i64 d0, .int .i64 d1, .slice qx d2 qc] 31))) := (Below.refl _ _).alloc (Nat.le_refl _) _
          clear er HOK hcs h3
          cases r
          · go_wp2_with fail
            refine (HWO.out _ HBx.out).mono ?_
            rintro e w2 ⟨⟨v, rfl, _⟩, hb2⟩
            have HB2 : Hid (Below w.heap.size w w2) := Below.on (Below.on (HMK.out _ HB.out) HBx.out) hb2
            clear hb2
            go_wp2
            have hbad : storeB xs tr = false := store_bad hlt HR.out
            exact bodyPost_ret (v := .tuple #[.pointer none, .bool false]) (by simp [results, Try.results57, go_sem]) rfl ⟨_, by rw [hbad], HB2.out, fun h => by rw [hbad] at h; cases h⟩
          · go_wp2_with fail
            refine (HWO.out _ HBx.out).mono ?_
            rintro e w2 ⟨⟨v, rfl, hv⟩, hb2⟩
            have hv := hv (by trivial)
            subst hv
            have HBr : Hid (Below wr.heap.size wr w2) := Below.on HBx.out hb2
            have HB2 : Hid (Below (w.heap.size + 1 + 1) w1 w2) := HB.out.trans (HBr.out.mono (by have := hsz.out; omega))
            have HBd2 : Hid (Bld w2 (w.heap.size + 1 + 1) pw k c ((xs.take k).map wv)) := HBd.out.below HBr.out
            obtain ⟨b0, b1, b2, b3, b4⟩ := HBd2.out.old
            have HOW : Hid (w2.ownsRow (w.heap.size + 1 + 1 + 1) 70 1 (.slice pw k c) k ((xs.take k).map wv)) := b4
            have hlt2 : w.heap.size + 1 + 1 < w2.heap.size := HBd2.out.lt
            generalize (xs.take k).map wv = vs at HOW HBd2 HN
            have HON' : Hid (∀ u ∈ [Value.iface ty y], u.oneCell' = true) := HON.out
            clear hb2 b2 b3 b4 HWO HON HBd h0 h1 h2
            go_wp2_with (at_builtin; go_loud (refine wpList_append_lies _ rfl _ _ 89 rfl (w.heap.size + 1 + 1 + 1) 70 i0 .nilIface 1 16 Try.underlying89 hi0 hz0 hz1 hz2 rfl (by decide) (.slice pw k c) k vs rfl (HOW.out.alloc _) ⟨w2.heap.size, 0, none⟩ 1 1 [.iface ty y] rfl rfl (cell_one_new w2 (.iface ty y) 70) HON'.out (by decide) (by unfold maxLen; omega) (by omega) (by simp; omega) _ rfl ?_; intro g cap w3 hown3 hgrow3 hat3 hlt3; have hBa := HBd2.out.below ((Below.refl _ _).alloc (Nat.le_refl _) (.cells #[.iface ty y] 70)); have hP : Hid _ := hBa.put hown3 hgrow3; have hC : w3.cell? ⟨w.heap.size + 1 + 1, 0, none⟩ = some (.slice pw k c) := (World.cell?_of_block (a := ⟨w.heap.size + 1 + 1, 0, none⟩) (hgrow3.block (w.heap.size + 1 + 1) hBa.lt (fun e => by have := (hBa.2.lt _ e.symm).1; omega))).trans hBa.old.1; have hFz : w3.frozen? ⟨w.heap.size + 1 + 1, 0, none⟩ = false := (World.frozen?_of_block (a := ⟨w.heap.size + 1 + 1, 0, none⟩) (hgrow3.block (w.heap.size + 1 + 1) hBa.lt (fun e => by have := (hBa.2.lt _ e.symm).1; omega))).trans hBa.old.2.1; have HB3 : Hid (Below (w.heap.size + 1 + 1) w1 w3) := (HB2.out.alloc (by omega) _).grown hgrow3 (by simp; omega) (fun j e => by have := (hBa.2.lt _ e).1; omega); clear hgrow3 hown3 hBa hat3 hlt3))
            go_roundw
            case rel => exact ⟨k + 1, cap, some ⟨g, 0, none⟩, by omega, by go_num, HB3.out.setCell (p := ⟨w.heap.size + 1 + 1, 0, none⟩) (Nat.le_refl _) _, by show Bld _ _ _ _ _ _; rw [HN.out]; exact hP.out, fun a ha => by
              rcases Nat.lt_or_eq_of_le (Nat.lt_succ_iff.1 ha) with ha | rfl
              · exact HO.out a ha
              · exact HR.out⟩
            case measure => simp [intOf]; omega
        · obtain rfl : k = xs.length := by omega
          have HBd' : Hid (Bld wr (w.heap.size + 1 + 1) pw xs.length c (xs.map wv)) := by have := HBd.out; rw [List.take_length] at this; exact this
          obtain ⟨t0, t1⟩ := HST.out _ HB.out
          have HPU : Hid (∀ n, Calls Try.prog 82 #[.pointer (some ⟨w.heap.size + 1 + 1, 1, none⟩), .slice q tr.length c2] (wr.drewN n) fun e w' => e = .returned (.tuple #[]) ∧ ∃ pt ct w1, w' = w1.setCell ⟨w.heap.size + 1 + 1, 1, none⟩ (.slice pt tr.length ct) ∧ Below (wr.drewN n).heap.size (wr.drewN n) w1 ∧ OwnI w1 (wr.drewN n).heap.size 3 pt tr.length ct tr) := fun n => push_any (w.heap.size + 1 + 1) 1 q c2 tr (wr.drewN n) ht (HI.out.below (below_drewN (HMK.out _ HB.out) n)) HBd'.out.old.2.2.1 HBd'.out.old.2.2.2.1
          have HVA : Hid _ := isValid_any (w.heap.size + 1 + 1) xs tr
          have HES : Hid _ := store_heap (xs := xs) (tr := tr) hl ht HO.out
          clear HBd
          go_wp2
          go_region_with (go_at_call 82; refine (HPU.out 1).mono ?_; rintro e w2 ⟨rfl, pt, ct, w2', rfl, hb2, ho2⟩)
          all_goals
            obtain ⟨mm, hho, hmm, hem⟩ := heap_pushed (HBd'.out.below (below_drewN (Below.refl _ _) 1)) hb2 ho2
            have HHA : Hid _ := hho
            have HMM : Hid _ := hmm
            have HEM : Hid _ := hem
            clear hho hmm hem
            have HB3 : Hid (Below w.heap.size w (w2'.setCell ⟨w.heap.size + 1 + 1, 1, none⟩ (.slice pt tr.length ct))) := (Below.on (below_drewN (HMK.out _ HB.out) 1) hb2).setCell (p := ⟨w.heap.size + 1 + 1, 1, none⟩) (by simp; omega) _
            clear hb2 ho2
            go_wp2_with fail
            refine (HVA.out _ hl ht HO.out (HeapO.at HHA.out)).mono ?_
            rintro e w4 ⟨rfl, hb4⟩
            have HB4 : Hid _ := Below.on HB3.out hb4
            have HH4 : Hid (HeapO w4 (w.heap.size + 1 + 1) xs tr mm 0 ∧ w4.heap[mm]? = some (.map #[] 0) ∧ w.heap.size ≤ mm) := ⟨HeapO.below HHA.out hb4, (hb4.block mm (Array.getElem?_eq_some_iff.1 HMM.out).1).trans HMM.out, by have := HEM.out; omega⟩
            clear hb4
            go_wp2
            exact bodyPost_ret (v := .tuple #[.pointer (some ⟨w.heap.size + 1 + 1, 0, none⟩), .bool (heapB xs tr)]) (by simp [results, Try.results57, go_sem]) rfl ⟨_, by rw [HES.out], HB4.out, fun _ => ⟨_, mm, rfl, HH4.out⟩⟩
    · have ht' : (20000 : Int) < tr.length := by omega
      have hbad : storeB xs tr = false := by unfold storeB; rw [decide_eq_false ht]; simp
      have HBad : Hid _ := hbad
      clear hbad ht
      go_enter Try.func57, Try.ntmps57
      go_wp2
      exact bodyPost_ret (v := .tuple #[.pointer none, .bool false]) (by simp [results, Try.results57, go_sem]) rfl ⟨_, by rw [HBad.out], (Below.refl _ _).alloc (Nat.le_refl _) _, fun h => by rw [HBad.out] at h; cases h⟩
  · have hl' : (20000 : Int) < xs.length := by omega
    have hbad : storeB xs tr = false := by unfold storeB; rw [decide_eq_false hl]; simp
    have HBad : Hid _ := hbad
    clear hbad hl
    go_enter Try.func57, Try.ntmps57
    go_wp2
    exact bodyPost_ret (v := .tuple #[.pointer none, .bool false]) (by simp [results, Try.results57, go_sem]) rfl ⟨_, by rw [HBad.out], (Below.refl _ _).alloc (Nat.le_refl _) _, fun h => by rw [HBad.out] at h; cases h⟩

set_option maxRecDepth 100000 in
theorem read_any (h : Nat) (k n : Int) (p : Option Addr) (m cap : Nat) (t : List Int) (xs : List Cel) (tr : List Int) (w : World) (hl : xs.length ≤ 20000) (hk : Knds xs) (hm : m = t.length) (hin : BIn w p t) (H : HeapAt w h xs tr) :
    Calls Try.prog 67 #[.pointer (some ⟨h, 0, none⟩), .agg #[.int .i64 k, .int .i64 n, .slice p m cap]] w fun e w' => (∃ v, e = .returned (.tuple #[v, .bool (wordB xs k n m)]) ∧ (wordB xs k n m = true → v = wv (k, n, t))) ∧ Below w.heap.size w w' := by
  have HB0 : Hid (Below w.heap.size w (w.alloc (.cells #[.int .i64 k, .int .i64 n, .slice p m cap] 31))) := (Below.refl _ _).alloc (Nat.le_refl _) _
  have HW := wordOf_any k n p m cap t _ hm (hin.below HB0.out)
  have HH : Hid (HeapAt w h xs tr) := H
  have HK : Hid (Knds xs) := hk
  have HE : Hid (wordB xs k n m = (okW k n m && leadB xs k n)) := rfl
  have HKN : Hid (okW k n m = true → (k = 0 ∨ k = 1 ∨ k = 2 ∨ k = 3 ∨ k = 4)) := ok_knd
  clear hin hm H hk
  cases ho : okW k n m
  · rw [ho] at HW HE
    clear ho HKN
    go_enter Try.func67, Try.ntmps67
    go_wp2_with fail
    refine HW.mono ?_
    rintro e w1 ⟨⟨v, rfl, _⟩, hb⟩
    have HB1 : Hid (Below w.heap.size w w1) := Below.on HB0.out hb
    clear hb HW
    go_wp2
    exact bodyPost_ret (v := .tuple #[v, .bool false]) (by simp [results, Try.results67, go_sem]) rfl ⟨⟨v, by rw [HE.out]; rfl, fun h => by rw [HE.out] at h; cases h⟩, HB1.out⟩
  · rw [ho] at HW HE HKN
    have HL : Hid (∀ W, Below w.heap.size w W → Calls Try.prog 91 #[.pointer (some ⟨h, 0, none⟩), wv (k, n, t)] W fun e w' => e = .returned (.bool (leadB xs k n)) ∧ Below W.heap.size W w') := fun W hW => leadsOn_any h (k, n, t) xs tr W hl HK.out (HKN.out rfl) (HH.out.below hW)
    generalize leadB xs k n = r at HL HE
    clear ho HKN
    go_enter Try.func67, Try.ntmps67
    go_wp2_with fail
    refine HW.mono ?_
    rintro e w1 ⟨⟨v, rfl, hv⟩, hb⟩
    have hv := hv (by trivial)
    subst hv
    have HB1 : Hid (Below w.heap.size w w1) := Below.on HB0.out hb
    clear hb HW
    go_wp2_with fail
    refine (HL.out w1 HB1.out).mono ?_
    rintro e w2 ⟨rfl, hb⟩
    have HB2 : Hid (Below w.heap.size w w2) := Below.on HB1.out hb
    clear hb HL
    go_wp2
    exact bodyPost_ret (v := .tuple #[wv (k, n, t), .bool r]) (by simp [results, Try.results67, go_sem]) rfl ⟨⟨_, by rw [HE.out]; rfl, fun h => rfl⟩, HB2.out⟩

/-- Is the store valid, and the cell a word of it? -/
noncomputable def vsB (xs : List Cel) (tr : List Int) (k n : Int) (m : Nat) : Bool := storeB xs tr && wordB xs k n m
theorem storeB_parts {xs : List Cel} {tr : List Int} (h : storeB xs tr = true) : xs.length ≤ 20000 ∧ tr.length ≤ 20000 ∧ Shp xs ∧ tr.all (isWB xs) = true ∧ Acyc xs := by
  unfold storeB at h
  simp only [Bool.and_eq_true, decide_eq_true_eq] at h
  obtain ⟨⟨⟨⟨h1, h2⟩, h3, h4⟩, h5⟩, h6⟩ := h
  refine ⟨h1, h2, shp_of h1 h3 h4, h5, ?_⟩
  unfold acycB at h6
  exact @of_decide_eq_true _ (Classical.propDecidable _) h6
/-- What heapWith answers. -/
def WithOut (xs : List Cel) (tr : List Int) (k n : Int) (t : List Int) (w : World) (e : Ending) (w' : World) : Prop :=
  ∃ v u, e = .returned (.tuple #[v, u, .bool (vsB xs tr k n t.length)]) ∧ Below w.heap.size w w' ∧ (vsB xs tr k n t.length = true → ∃ h, v = .pointer (some ⟨h, 0, none⟩) ∧ u = wv (k, n, t) ∧ HeapAt w' h xs tr)
/-- The same, and the heap is the call's own. -/
def WithOutO (xs : List Cel) (tr : List Int) (k n : Int) (t : List Int) (w : World) (e : Ending) (w' : World) : Prop :=
  ∃ v u, e = .returned (.tuple #[v, u, .bool (vsB xs tr k n t.length)]) ∧ Below w.heap.size w w' ∧ (vsB xs tr k n t.length = true → ∃ h m, v = .pointer (some ⟨h, 0, none⟩) ∧ u = wv (k, n, t) ∧ HeapO w' h xs tr m 0 ∧ w'.heap[m]? = some (.map #[] 0) ∧ w.heap.size ≤ m)

set_option maxRecDepth 100000 in
theorem heapWithO_any (p q pt : Option Addr) (c1 c2 cap : Nat) (k n : Int) (t : List Int) (xs : List Cel) (tr : List Int) (w : World) (hx : xs.length ≤ 1000000000) (hy : tr.length ≤ 1000000000) (hc : CIn w p xs) (hi : IIn w q tr) (hin : BIn w pt t) :
    Calls Try.prog 44 #[.agg #[.slice p xs.length c1, .slice q tr.length c2], .agg #[.int .i64 k, .int .i64 n, .slice pt t.length cap]] w (WithOutO xs tr k n t w) := by
  have HB0 : Hid (Below w.heap.size w ((w.alloc (.cells #[.slice p xs.length c1, .slice q tr.length c2] 36)).alloc (.cells #[.int .i64 k, .int .i64 n, .slice pt t.length cap] 31))) := ((Below.refl _ _).alloc (Nat.le_refl _) _).alloc (by simp) _
  have HO := heapOf_any p q c1 c2 xs tr _ hx hy (hc.below HB0.out) (hi.below HB0.out)
  have HI : Hid (BIn w pt t) := hin
  have HE : Hid (vsB xs tr k n t.length = (storeB xs tr && wordB xs k n t.length)) := rfl
  have HM : Hid (∃ m, m = t.length) := ⟨_, rfl⟩
  have k1 : ((w.alloc (.cells #[.slice p xs.length c1, .slice q tr.length c2] 36)).alloc (.cells #[.int .i64 k, .int .i64 n, .slice pt t.length cap] 31)).heap[w.heap.size + 1]? = some (.cells #[.int .i64 k, .int .i64 n, .slice pt t.length cap] 31) := by
    have := heap_alloc_new (w.alloc (.cells #[.slice p xs.length c1, .slice q tr.length c2] 36)) (.cells #[.int .i64 k, .int .i64 n, .slice pt t.length cap] 31)
    simpa using this
  have HK1 : Hid _ := k1
  clear hc hi hin k1
  go_enter Try.func44, Try.ntmps44
  go_wp2_with fail
  refine HO.mono ?_
  rintro e w1 ⟨v, rfl, hb, hh⟩
  have bb : Box3 w1 (w.heap.size + 1) (.int .i64 k) (.int .i64 n) (.slice pt t.length cap) := Box3.of_block (t := 31) ((hb.block _ (by simp)).trans HK1.out)
  have HB1 : Hid (Below w.heap.size w w1) := Below.on HB0.out hb
  have HH : Hid (storeB xs tr = true → ∃ h m, v = .pointer (some ⟨h, 0, none⟩) ∧ HeapO w1 h xs tr m 0 ∧ w1.heap[m]? = some (.map #[] 0) ∧ ((w.alloc (.cells #[.slice p xs.length c1, .slice q tr.length c2] 36)).alloc (.cells #[.int .i64 k, .int .i64 n, .slice pt t.length cap] 31)).heap.size ≤ m) := hh
  clear hb hh HO HK1
  cases hs : storeB xs tr
  · rw [hs] at HE
    clear hs HH bb
    go_wp2
    exact bodyPost_ret (v := .tuple #[.pointer none, .nilIface, .bool false]) (by simp [results, Try.results44, go_sem]) rfl ⟨_, _, by rw [HE.out]; rfl, HB1.out, fun h => by rw [HE.out] at h; cases h⟩
  · rw [hs] at HE
    obtain ⟨h, m, rfl, hho, hmm, hle⟩ := HH.out hs
    have hat := hho.at
    obtain ⟨p1, p2, p3, _, _⟩ := storeB_parts hs
    have HR := read_any h k n pt t.length cap t xs tr w1 p1 p3.knds rfl (HI.out.below HB1.out) hat
    have HAT : Hid (HeapO w1 h xs tr m 0 ∧ w1.heap[m]? = some (.map #[] 0) ∧ w.heap.size ≤ m) := ⟨hho, hmm, by simp at hle; omega⟩
    clear hho hmm hle
    obtain ⟨b0, b1, b2, _⟩ := bb
    clear hs HH hat p3 HI
    generalize wordB xs k n t.length = r at HR HE
    go_wp2_with fail
    refine HR.mono ?_
    rintro e w2 ⟨⟨u, rfl, hu⟩, hb⟩
    have HU : Hid (r = true → u = wv (k, n, t)) := hu
    have HB2 : Hid (Below w.heap.size w w2) := Below.on HB1.out hb
    have HA2 : Hid (HeapO w2 h xs tr m 0 ∧ w2.heap[m]? = some (.map #[] 0) ∧ w.heap.size ≤ m) := ⟨HeapO.below HAT.out.1 hb, (hb.block m (Array.getElem?_eq_some_iff.1 HAT.out.2.1).1).trans HAT.out.2.1, HAT.out.2.2⟩
    clear hb hu HR
    go_wp2
    exact bodyPost_ret (v := .tuple #[.pointer (some ⟨h, 0, none⟩), u, .bool r]) (by simp [results, Try.results44, go_sem]) rfl ⟨_, _, by rw [HE.out]; rfl, HB2.out, fun hr => ⟨h, m, rfl, HU.out (by rw [HE.out] at hr; exact hr), HA2.out⟩⟩

theorem heapWith_any (p q pt : Option Addr) (c1 c2 cap : Nat) (k n : Int) (t : List Int) (xs : List Cel) (tr : List Int) (w : World) (hx : xs.length ≤ 1000000000) (hy : tr.length ≤ 1000000000) (hc : CIn w p xs) (hi : IIn w q tr) (hin : BIn w pt t) :
    Calls Try.prog 44 #[.agg #[.slice p xs.length c1, .slice q tr.length c2], .agg #[.int .i64 k, .int .i64 n, .slice pt t.length cap]] w (WithOut xs tr k n t w) := by
  refine (heapWithO_any p q pt c1 c2 cap k n t xs tr w hx hy hc hi hin).mono ?_
  rintro e w' ⟨v, u, he, hb, hh⟩
  refine ⟨v, u, he, hb, fun hv => ?_⟩
  obtain ⟨h, m, h1, h2, h3, _⟩ := hh hv
  exact ⟨h, h1, h2, h3.at⟩

end Go.Proofs.Ytedkkghekboahaa

namespace Go.Proofs.Ytedkkghekboahaa
open Go Go.RowKit
set_option linter.unusedVariables false

theorem mkV_zero (L : Nat) : mkV L (fun _ => 0) = List.replicate L (.int .i64 0) := by
  apply List.ext_getElem?
  intro i
  by_cases h : i < L
  · simp [mkV, h]
  · simp [mkV, h]
theorem shapeF_at (xs : List Cel) (b : Int) (k : Nat) (h : k < xs.length) : shapeF xs b (xs.drop k) = if kndA xs k = 3 then (if 0 < b ∨ numA xs k < 1 ∨ 20 < numA xs k ∨ 100 < (xs.getD k Cel.none).2.2.length ∨ (xs.length : Int) ≤ k + numA xs k then false else shapeF xs (numA xs k) (xs.drop (k + 1)))
      else if wordB xs (kndA xs k) (numA xs k) (xs.getD k Cel.none).2.2.length = false then false else shapeF xs (if 0 < b then b - 1 else b) (xs.drop (k + 1)) := by
  rw [drop_cel xs k h, shapeF]
  have e : (((xs.drop (k + 1)).length : Int) < (xs.getD k Cel.none).2.1) = ((xs.length : Int) ≤ k + (xs.getD k Cel.none).2.1) := by
    rw [List.length_drop]; apply propext; constructor <;> (intro; omega)
  simp only [e]; rfl
theorem store_shape {xs : List Cel} {tr : List Int} (h : shapeF xs 0 xs = false) : storeB xs tr = false := by
  rw [shape_whole xs xs 0 (Int.le_refl _) (by omega)] at h
  unfold storeB; rw [h]; simp
theorem shp_shape {xs : List Cel} (hl : xs.length ≤ 20000) (h : shapeF xs 0 xs = true) : Shp xs := by
  rw [shape_whole xs xs 0 (Int.le_refl _) (by omega), Bool.and_eq_true] at h
  exact shp_of hl h.1 h.2
theorem store_end {xs : List Cel} {tr : List Int} (hl : xs.length ≤ 20000) (ht : tr.length ≤ 20000) (h : shapeF xs 0 xs = true) (h2 : tr.all (isWB xs) = true) : storeB xs tr = acycB xs := by
  rw [shape_whole xs xs 0 (Int.le_refl _) (by omega)] at h
  unfold storeB; rw [h, h2, decide_eq_true hl, decide_eq_true ht]; simp

set_option maxHeartbeats 4000000 in
set_option maxRecDepth 100000 in
theorem l10valid_any (p q : Option Addr) (c1 c2 : Nat) (xs : List Cel) (tr : List Int) (w : World) (hx : xs.length ≤ 1000000000) (hy : tr.length ≤ 1000000000) (hc : CIn w p xs) (hi : IIn w q tr) :
    Calls Try.prog 54 #[.agg #[.slice p xs.length c1, .slice q tr.length c2]] w fun e w' => e = .returned (.bool (storeB xs tr)) ∧ Below w.heap.size w w' := by
  have HC : Hid (CIn w p xs) := hc
  have HI : Hid (IIn w q tr) := hi
  clear hc hi
  by_cases hl : xs.length ≤ 20000
  · have hl' : ¬ (20000 : Int) < xs.length := by omega
    by_cases ht : tr.length ≤ 20000
    · have ht' : ¬ (20000 : Int) < tr.length := by omega
      have HST : Hid (∀ W, Below (w.heap.size + 1) (w.alloc (.cells #[.slice p xs.length c1, .slice q tr.length c2] 36)) W → W.cell? ⟨w.heap.size, 0, none⟩ = some (.slice p xs.length c1) ∧ W.cell? ⟨w.heap.size, 1, none⟩ = some (.slice q tr.length c2) ∧ Below w.heap.size w W) := fun W hW => by
        have k := (hW.block w.heap.size (by omega)).trans (heap_alloc_new w (.cells #[.slice p xs.length c1, .slice q tr.length c2] 36))
        exact ⟨by simp [World.cell?, k], by simp [World.cell?, k], ((Below.refl _ _).alloc (Nat.le_refl _) _).trans (hW.mono (by omega))⟩
      have HW0 : Hid (Below (w.heap.size + 1) (w.alloc (.cells #[.slice p xs.length c1, .slice q tr.length c2] 36)) (w.alloc (.cells #[.slice p xs.length c1, .slice q tr.length c2] 36))) := Below.refl _ _
      have HSZ : Hid (∀ W, Below (w.heap.size + 1) (w.alloc (.cells #[.slice p xs.length c1, .slice q tr.length c2] 36)) W → w.heap.size + 1 ≤ W.heap.size) := fun W hW => by have := hW.size; simpa using this
      go_enter Try.func54, Try.ntmps54
      go_wp2
      generalize (w.alloc (.cells #[.slice p xs.length c1, .slice q tr.length c2] 36)) = W1 at HST HW0 HSZ ⊢
      clear hl' ht'
      go_loopw [4, 5] (fun s i wr => ∃ (k : Nat) (bh : Int), k ≤ xs.length ∧ 0 ≤ bh ∧ bh ≤ 20 ∧ s = .int .i64 bh ∧ i = .int .i64 k ∧ Hid (shapeF xs 0 xs = shapeF xs bh (xs.drop k)) ∧ Hid (Below (w.heap.size + 1) W1 wr)) (fun _ i _ => xs.length - (intOf i).toNat)
      case atStart => exact ⟨0, 0, Nat.zero_le _, by decide, by decide, rfl, rfl, rfl, HW0.out⟩
      case round =>
        obtain ⟨k, bh, hk, hb0, hb1, rfl, rfl, HV, HB⟩ := hrel
        obtain ⟨s0, s1, hbw⟩ := HST.out _ HB.out
        have HBW : Hid (Below w.heap.size w wr) := hbw
        have HZ := HSZ.out _ HB.out
        clear hbw
        by_cases hlt : k < xs.length
        · obtain ⟨b, o, rfl, hcs⟩ := HC.out (by omega)
          obtain ⟨qx, qc, h0, h1, h2, h3⟩ := (hcs k hlt).below HBW.out
          have HA : Hid _ := shapeF_at xs bh k hlt
          have e0 : (xs.getD k Cel.none).1 = kndA xs k := rfl
          have e1 : (xs.getD k Cel.none).2.1 = numA xs k := rfl
          rw [e0] at h0
          rw [e1] at h1
          generalize kndA xs k = d0 at h0 HA
          generalize numA xs k = d1 at h1 HA
          generalize (xs.getD k Cel.none).2.2.length = d2 at h2 HA
          have HBX : Hid (Below wr.heap.size wr (wr.alloc (.cells #[.int .i64 d0, .int .i64 d1, .slice qx d2 qc] 31))) := (Below.refl _ _).alloc (Nat.le_refl _) _
          have HB1 : Hid (Below (w.heap.size + 1) W1 (wr.alloc (.cells #[.int .i64 d0, .int .i64 d1, .slice qx d2 qc] 31))) := Below.trans HB.out (HBX.out.mono HZ)
          have HF : Hid (∀ W, Below (w.heap.size + 1) W1 W → Below w.heap.size w W) := fun W hW => (HST.out W hW).2.2
          clear hcs e0 e1 h3
          by_cases d3 : d0 = 3
          · subst d3
            rw [if_pos rfl] at HA
            by_cases t1 : 0 < bh
            · rw [if_pos (.inl t1)] at HA
              go_wp2
              go_ret
              exact ⟨ret_bool (by rw [store_shape (by rw [HV.out, HA.out])]), HF.out _ HB1.out⟩
            · by_cases t2 : d1 < 1
              · rw [if_pos (.inr (.inl t2))] at HA
                go_wp2
                go_ret
                exact ⟨ret_bool (by rw [store_shape (by rw [HV.out, HA.out])]), HF.out _ HB1.out⟩
              · by_cases t3 : 20 < d1
                · rw [if_pos (.inr (.inr (.inl t3)))] at HA
                  go_wp2
                  go_ret
                  exact ⟨ret_bool (by rw [store_shape (by rw [HV.out, HA.out])]), HF.out _ HB1.out⟩
                · by_cases t4 : 100 < d2
                  · rw [if_pos (.inr (.inr (.inr (.inl t4))))] at HA
                    have t4' : (100 : Int) < d2 := by omega
                    go_wp2
                    go_ret
                    exact ⟨ret_bool (by rw [store_shape (by rw [HV.out, HA.out])]), HF.out _ HB1.out⟩
                  · have t4' : ¬ (100 : Int) < d2 := by omega
                    by_cases t5 : (xs.length : Int) ≤ k + d1
                    · rw [if_pos (.inr (.inr (.inr (.inr t5))))] at HA
                      go_wp2
                      go_ret
                      exact ⟨ret_bool (by rw [store_shape (by rw [HV.out, HA.out])]), HF.out _ HB1.out⟩
                    · rw [if_neg (by omega)] at HA
                      go_wp2
                      go_roundw
                      case rel => exact ⟨k + 1, d1, by omega, by omega, by omega, rfl, by go_num, by show _ = _; rw [HV.out, HA.out], HB1.out⟩
                      case measure => simp [intOf]; omega
          · have d3' : (d0 == 3) = false := by simpa using d3
            rw [if_neg d3] at HA
            have HWC := l10word_any (some ⟨b, o, none⟩) qx c1 d2 qc d0 d1 xs (wr.alloc (.cells #[.int .i64 d0, .int .i64 d1, .slice qx d2 qc] 31)) hl (HC.out.below (HF.out _ HB1.out))
            have HSB : Hid (∀ W, Below (w.heap.size + 1) W1 W → W.cell? ⟨w.heap.size, 0, none⟩ = some (.slice (some ⟨b, o, none⟩) xs.length c1)) := fun W hW => (HST.out W hW).1
            have s0' := HSB.out _ HB1.out
            clear d3
            cases hwb : wordB xs d0 d1 d2
            · rw [hwb] at HWC HA
              rw [if_pos rfl] at HA
              clear hwb
              go_wp2_with fail
              refine HWC.mono ?_
              rintro e w2 ⟨rfl, hb2⟩
              have HB2 : Hid (Below (w.heap.size + 1) W1 w2) := HB1.out.trans (hb2.mono (by simp; omega))
              clear hb2
              go_wp2
              go_ret
              exact ⟨ret_bool (by rw [store_shape (by rw [HV.out, HA.out])]), HF.out _ HB2.out⟩
            · rw [hwb] at HWC HA
              rw [if_neg (by simp)] at HA
              clear hwb
              by_cases t1 : 0 < bh
              · rw [if_pos t1] at HA
                go_wp2_with fail
                refine HWC.mono ?_
                rintro e w2 ⟨rfl, hb2⟩
                have HB2 : Hid (Below (w.heap.size + 1) W1 w2) := HB1.out.trans (hb2.mono (by simp; omega))
                clear hb2 s0 s1 s0' h0 h1 h2
                go_wp2
                go_roundw
                case rel => exact ⟨k + 1, bh - 1, by omega, by omega, by omega, by go_num, by go_num, by show _ = _; rw [HV.out, HA.out], HB2.out⟩
                case measure => simp [intOf]; omega
              · rw [if_neg t1] at HA
                go_wp2_with fail
                refine HWC.mono ?_
                rintro e w2 ⟨rfl, hb2⟩
                have HB2 : Hid (Below (w.heap.size + 1) W1 w2) := HB1.out.trans (hb2.mono (by simp; omega))
                clear hb2 s0 s1 s0' h0 h1 h2
                go_wp2
                go_roundw
                case rel => exact ⟨k + 1, bh, by omega, by omega, by omega, rfl, by go_num, by show _ = _; rw [HV.out, HA.out], HB2.out⟩
                case measure => simp [intOf]; omega
        · obtain rfl : k = xs.length := by omega
          have HSH : Hid (shapeF xs 0 xs = true) := by
            have := HV.out
            rw [List.drop_length] at this
            exact this
          clear HV s0 s1
          go_wp2
          go_loopw [7] (fun i wr => ∃ (k : Nat), k ≤ tr.length ∧ i = .int .i64 k ∧ Hid (∀ j, j < k → isWB xs (tr.getD j 0) = true) ∧ Hid (Below (w.heap.size + 1) W1 wr)) (fun i _ => tr.length - (intOf i).toNat)
          case atStart => exact ⟨0, Nat.zero_le _, rfl, fun _ h => absurd h (Nat.not_lt_zero _), HB.out⟩
          case round =>
            clear hb0 hb1 HB HBW HZ
            obtain ⟨k, hk, rfl, HV, HB⟩ := hrel
            obtain ⟨s0, s1, hbw⟩ := HST.out _ HB.out
            have HBW : Hid (Below w.heap.size w wr) := hbw
            clear hbw
            by_cases hlt : k < tr.length
            · obtain ⟨gi, oi, rfl, hci⟩ := HI.out (by omega)
              have hv := (HBW.out.cell (World.block_lt_of_cell? _ _ (hci k hlt))).trans (hci k hlt)
              have HBAD : Hid (isWB xs (tr.getD k 0) = false → storeB xs tr = false) := fun h => by
                have := allI_not (p := isWB xs) hlt h
                unfold storeB; rw [this]; simp
              have HGO : Hid (isWB xs (tr.getD k 0) = true → ∀ j, j < k + 1 → isWB xs (tr.getD j 0) = true) := fun h j hj => by
                rcases Nat.lt_or_eq_of_le (Nat.lt_succ_iff.1 hj) with hj | rfl
                · exact HV.out j hj
                · exact h
              generalize tr.getD k 0 = a at hv HBAD HGO
              clear hci HV
              by_cases a0 : a < 0
              · have HF : Hid (isWB xs a = false) := by show _ = _; simp [isWB]; omega
                go_wp2
                go_ret
                exact ⟨ret_bool (by rw [HBAD.out HF.out]), HBW.out⟩
              · by_cases a1 : a < xs.length
                · obtain ⟨j, rfl⟩ : ∃ j : Nat, a = j := ⟨a.toNat, by omega⟩
                  have hj : j < xs.length := by omega
                  obtain ⟨b, o, rfl, hcs⟩ := HC.out (by omega)
                  obtain ⟨_, _, h0, _, _, _⟩ := (hcs j hj).below HBW.out
                  have HF : Hid (isWB xs j = !decide ((xs.getD j Cel.none).1 = 3)) := by show _ = _; simp [isWB, kndA, hj]
                  generalize (xs.getD j Cel.none).1 = d at h0 HF
                  clear hcs
                  by_cases d3 : d = 3
                  · subst d3
                    go_wp2
                    go_ret
                    exact ⟨ret_bool (by rw [HBAD.out (by rw [HF.out]; rfl)]), HBW.out⟩
                  · have d3' : (d == 3) = false := by simpa using d3
                    have HF' : Hid (isWB xs j = true) := by show _ = _; rw [HF.out]; simp [d3]
                    clear d3 HF
                    go_wp2
                    go_roundw
                    case rel => exact ⟨k + 1, by omega, by go_num, HGO.out HF'.out, HB.out⟩
                    case measure => simp [intOf]; omega
                · have HF : Hid (isWB xs a = false) := by show _ = _; simp [isWB]; omega
                  go_wp2
                  go_ret
                  exact ⟨ret_bool (by rw [HBAD.out HF.out]), HBW.out⟩
            · obtain rfl : k = tr.length := by omega
              have HTA : Hid (tr.all (isWB xs) = true) := allI_at HV.out
              have HS : Hid (Shp xs) := shp_shape hl HSH.out
              have HES : Hid _ := store_end (tr := tr) hl ht HSH.out HTA.out
              obtain ⟨i0, hi0, hz0, hz1, hz2⟩ := info_parts infoInt
              clear HV s0
              have hmx : xs.length ≤ maxLen := by unfold maxLen; omega
              go_wp2_with (at_make; refine wpList_make_full _ rfl _ _ 23 rfl wr.heap.size 3 i0 (.int .i64 0) 1 Try.underlying23 hi0 hz0 hz1 _ _ _ _ xs.length rfl rfl rfl rfl (by rw [hz2]; omega) hmx (Nat.le_refl _) ?_; intro wm hown hgrow)
              have HZ := HSZ.out _ HB.out
              have hb1 : Below wr.heap.size wr wm := (Below.refl _ _).grown hgrow (Nat.le_refl _) (fun k h => by cases h)
              have HO : Hid (RowM wm wr.heap.size xs.length (fun _ => 0)) := by
                have := hown; simp [Value.cells, toList_madeCells_one] at this
                show World.ownsRow _ _ _ _ _ _ _
                rw [mkV_zero]; exact this
              have HBm : Hid (Below (w.heap.size + 1) W1 wm) := HB.out.trans (hb1.mono HZ)
              clear hown hgrow hb1 s1 HB HBW
              generalize wr.heap.size = b at HO HZ ⊢
              go_loopw [10] (fun i wr => ∃ (k : Nat) (m : Nat → Nat), k ≤ xs.length ∧ i = .int .i64 k ∧ Hid (Below (w.heap.size + 1) W1 wr) ∧ Hid (RowM wr b xs.length m) ∧ Hid (∀ o, m o ≠ 1) ∧ Hid (∀ o, m o = 2 → Acc (Stp xs) o) ∧ Hid (∀ o, m o ≤ 2) ∧ Hid (∀ a, a < k → ∀ x, tgt xs (kndA xs a) (numA xs a) = some x → Acc (Stp xs) x)) (fun i _ => xs.length - (intOf i).toNat)
              case atStart => exact ⟨0, fun _ => 0, Nat.zero_le _, rfl, HBm.out, HO.out, fun o h => (by cases h), fun o h => (by cases h), fun o => Nat.zero_le _, fun a h => absurd h (Nat.not_lt_zero _)⟩
              case round =>
                obtain ⟨k, m, hk, rfl, HB, HM, H1, H2, H3, H4⟩ := hrel
                obtain ⟨s0, s1, hbw⟩ := HST.out _ HB.out
                have HBW : Hid (Below w.heap.size w wr) := hbw
                clear hbw
                by_cases hlt : k < xs.length
                · obtain ⟨g, o, rfl, hcs⟩ := HC.out (by omega)
                  obtain ⟨qx, qc, h0, h1, h2, h3⟩ := (hcs k hlt).below HBW.out
                  have HCALL : Hid (∀ d, Calls Try.prog 78 #[.slice (some ⟨g, o, none⟩) xs.length c1, .slice (some ⟨b, 0, none⟩) xs.length xs.length, .agg #[.int .i64 (xs.getD k Cel.none).1, .int .i64 (xs.getD k Cel.none).2.1, .slice qx (xs.getD k Cel.none).2.2.length qc]] (wr.drewN d) (RndOut xs b m (kndA xs k) (numA xs k) (wr.drewN d))) := fun d =>
                    round_any (some ⟨g, o, none⟩) c1 xs w HS.out HC.out (unk xs.length m + 1) b m (kndA xs k) (numA xs k) qx (xs.getD k Cel.none).2.2.length qc (wr.drewN d) (HS.out.word hlt) (by omega) (by omega) (below_drewN HBW.out d) (HM.out.below (below_drewN (Below.refl _ _) d)) (fun x hx oo ho => absurd ho (H1.out oo)) H2.out H3.out
                  have HK3 : Hid ((xs.getD k Cel.none).1 = 3 → ∀ x, tgt xs (kndA xs k) (numA xs k) = some x → Acc (Stp xs) x) := fun h3 x hx => by
                    have h3' : kndA xs k = 3 := h3
                    rw [h3'] at hx; simp [tgt] at hx
                  have HN4 : Hid ((∀ x, tgt xs (kndA xs k) (numA xs k) = some x → Acc (Stp xs) x) → ∀ a, a < k + 1 → ∀ x, tgt xs (kndA xs a) (numA xs a) = some x → Acc (Stp xs) x) := fun hh a ha => by
                    rcases Nat.lt_or_eq_of_le (Nat.lt_succ_iff.1 ha) with ha | rfl
                    · exact H4.out a ha
                    · exact hh
                  have HCY : Hid ((∃ x, tgt xs (kndA xs k) (numA xs k) = some x ∧ ¬ Acc (Stp xs) x) → acycB xs = false) := fun ⟨x, hx, hnx⟩ => acycB_false fun ha => hnx ((acyc_iff HS.out).1 ha k hlt x hx)
                  have HDN : Hid (RowM (wr.drewN 1) b xs.length m) := HM.out.below (below_drewN (Below.refl _ _) 1)
                  generalize (xs.getD k Cel.none).1 = d0 at h0 HCALL HK3
                  generalize (xs.getD k Cel.none).2.1 = d1 at h1 HCALL
                  generalize (xs.getD k Cel.none).2.2.length = d2 at h2 HCALL
                  clear hcs h3
                  by_cases d3 : d0 = 3
                  · have HK : Hid _ := HK3.out d3
                    subst d3
                    clear HCALL
                    go_wp2
                    go_region
                    all_goals go_wp2
                    all_goals go_roundw
                    all_goals first
                      | (exact ⟨k + 1, m, by omega, by go_num, below_drewN HB.out 1, HDN.out, H1.out, H2.out, H3.out, HN4.out HK.out⟩)
                      | (simp [intOf]; omega)
                  · have d3' : (d0 != 3) = true := by simpa using d3
                    clear d3 HK3
                    go_wp2
                    go_region_with (go_at_call 78; refine (HCALL.out 1).mono ?_; rintro e w4 ⟨r, m4, rfl, hg4, hm4, hr1, hr0⟩; have HB4 : Hid (Below (w.heap.size + 1) W1 w4) := (below_drewN HB.out 1).trans (gB_down hg4 (by omega) (by have := HSZ.out _ HB.out; simpa using this)); have HM4 : Hid (RowM w4 b xs.length m4) := hm4; have HR1 : Hid _ := hr1; have HR0 : Hid _ := hr0; clear hg4 hm4 hr1 hr0)
                    all_goals cases r
                    all_goals go_wp2
                    all_goals first
                      | (go_ret; exact ⟨ret_bool (by rw [HES.out, HCY.out (HR0.out (by trivial))]), (HST.out _ HB4.out).2.2⟩)
                      | (go_roundw <;> first
                          | exact ⟨k + 1, m4, by omega, by go_num, HB4.out, HM4.out, fun o ho => H1.out o (((HR1.out (by trivial)).2.1 o).1 ho), (HR1.out (by trivial)).2.2.1, (HR1.out (by trivial)).2.2.2.2, HN4.out (HR1.out (by trivial)).1⟩
                          | (simp [intOf]; omega))
                · obtain rfl : k = xs.length := by omega
                  have HAC : Hid (acycB xs = true) := acycB_true ((acyc_iff HS.out).2 fun a ha => H4.out a ha)
                  go_wp2
                  go_ret
                  exact ⟨ret_bool (by rw [HES.out, HAC.out]), HBW.out⟩
    · have ht' : (20000 : Int) < tr.length := by omega
      have hbad : storeB xs tr = false := by unfold storeB; rw [decide_eq_false ht]; simp
      have HBad : Hid _ := hbad
      clear hbad ht
      go_enter Try.func54, Try.ntmps54
      go_wp2
      go_ret
      exact ⟨ret_bool (by rw [HBad.out]), (Below.refl _ _).alloc (Nat.le_refl _) _⟩
  · have hl' : (20000 : Int) < xs.length := by omega
    have hbad : storeB xs tr = false := by unfold storeB; rw [decide_eq_false hl]; simp
    have HBad : Hid _ := hbad
    clear hbad hl
    go_enter Try.func54, Try.ntmps54
    go_wp2
    go_ret
    exact ⟨ret_bool (by rw [HBad.out]), (Below.refl _ _).alloc (Nat.le_refl _) _⟩

set_option maxRecDepth 100000 in
theorem specVS_any (p q pt : Option Addr) (c1 c2 cap : Nat) (k n : Int) (t : List Int) (xs : List Cel) (tr : List Int) (w : World) (hx : xs.length ≤ 1000000000) (hy : tr.length ≤ 1000000000) (hc : CIn w p xs) (hi : IIn w q tr) :
    Calls Try.prog 38 #[.agg #[.slice p xs.length c1, .slice q tr.length c2], .agg #[.int .i64 k, .int .i64 n, .slice pt t.length cap]] w fun e w' => e = .returned (.bool (vsB xs tr k n t.length)) ∧ Below w.heap.size w w' := by
  have HB0 : Hid (Below w.heap.size w ((w.alloc (.cells #[.slice p xs.length c1, .slice q tr.length c2] 36)).alloc (.cells #[.int .i64 k, .int .i64 n, .slice pt t.length cap] 31))) := ((Below.refl _ _).alloc (Nat.le_refl _) _).alloc (by simp) _
  have HV := l10valid_any p q c1 c2 xs tr _ hx hy (hc.below HB0.out) (hi.below HB0.out)
  have HC : Hid (CIn w p xs) := hc
  have HE : Hid (vsB xs tr k n t.length = (storeB xs tr && wordB xs k n t.length)) := rfl
  have k0 : ((w.alloc (.cells #[.slice p xs.length c1, .slice q tr.length c2] 36)).alloc (.cells #[.int .i64 k, .int .i64 n, .slice pt t.length cap] 31)).heap[w.heap.size]? = some (.cells #[.slice p xs.length c1, .slice q tr.length c2] 36) := by
    rw [Below.heap_alloc _ _ _ (by simp)]; exact heap_alloc_new _ _
  have k1 : ((w.alloc (.cells #[.slice p xs.length c1, .slice q tr.length c2] 36)).alloc (.cells #[.int .i64 k, .int .i64 n, .slice pt t.length cap] 31)).heap[w.heap.size + 1]? = some (.cells #[.int .i64 k, .int .i64 n, .slice pt t.length cap] 31) := by
    have := heap_alloc_new (w.alloc (.cells #[.slice p xs.length c1, .slice q tr.length c2] 36)) (.cells #[.int .i64 k, .int .i64 n, .slice pt t.length cap] 31)
    simpa using this
  have HK0 : Hid _ := k0
  have HK1 : Hid _ := k1
  clear hc hi k0 k1
  go_enter Try.func38, Try.ntmps38
  go_wp2_with fail
  refine HV.mono ?_
  rintro e w1 ⟨rfl, hb⟩
  have b0 := (hb.block w.heap.size (by simp; omega)).trans HK0.out
  have bb : Box3 w1 (w.heap.size + 1) (.int .i64 k) (.int .i64 n) (.slice pt t.length cap) := Box3.of_block (t := 31) ((hb.block _ (by simp)).trans HK1.out)
  have HB1 : Hid (Below w.heap.size w w1) := Below.on HB0.out hb
  have s0 : w1.cell? ⟨w.heap.size, 0, none⟩ = some (.slice p xs.length c1) := by simp [World.cell?, b0]
  obtain ⟨b1, b2, b3, _⟩ := bb
  clear hb HV HK0 HK1 b0
  cases hs : storeB xs tr
  · rw [hs] at HE
    clear hs
    go_wp2
    go_ret
    exact ⟨ret_bool (by rw [HE.out]; rfl), HB1.out⟩
  · rw [hs] at HE
    have HW := l10word_any p pt c1 t.length cap k n xs w1 (storeB_parts hs).1 (HC.out.below HB1.out)
    generalize wordB xs k n t.length = r at HE HW
    clear hs
    go_wp2_with fail
    refine HW.mono ?_
    rintro e w2 ⟨rfl, hb2⟩
    have HB2 : Hid (Below w.heap.size w w2) := Below.on HB1.out hb2
    clear hb2 HW
    go_wp2
    go_ret
    exact ⟨ret_bool (by rw [HE.out]; rfl), HB2.out⟩

end Go.Proofs.Ytedkkghekboahaa

