/- Texts of EvE, EvF, FeB. Own work of the verifier. -/
import Derived.Test.YtkklidpnkofipaaGreatDoorUqan
import Derived.Test.YtkklidpnkofipaaGreatDoorUqam
import Derived.Test.YtkklidpnkofipaaGreatDoorUqal
import Derived.RangeFuncLeaves
import Derived.LoopIn
namespace Go.Proofs.YtkklidpnkofipaaGreatDoor
set_option linter.unusedVariables false
set_option maxRecDepth 100000
section
open Go Go.RowKit Go.Shelf
attribute [local go_sem] Oper.semAt_some
def ElOut (w : World) (r : ER) (e : Ending) (w' : World) : Prop := (match r with
 | .ok v => e = .returned (.tuple #[.int .i64 v, .nilIface])
 | .error t => ∃ tv, e = .returned (.tuple #[.int .i64 0, .iface 57 (.agg #[tv])]) ∧ FoIn w' w.heap.size t.fo [tv]) ∧ Below w.heap.size w w'
set_option maxHeartbeats 600000 in
theorem evaluate_any (c : Cel) (k : Fo) (v : Value) (Bt : Nat) (w : World) (hok : (Fo.node c k .nil).ok) (hfo : FoIn w Bt (.node c k .nil) [v])
  (hg : w.cell? ⟨0, 0, none⟩ = some (.iface 169 (.agg #[.pointer (some ⟨11, 50, none⟩)]))) :
  Calls Tryz.prog 22 #[v] w (ElOut w (evT (c, k))) := by
 have hmf : ∀ (fn : Fn) (first cap : Array Value) (w : World), (Instr.makeFunc fn first cap).run Tryz.prog w = .ok (.func fn first cap) w := fun _ _ _ _ => rfl
 obtain ⟨vt, vx, rfl⟩ := hfo.iface
 obtain ⟨R, eR⟩ : ∃ R, R = evT (c, k) := ⟨_, rfl⟩
 obtain ⟨w2, ew2⟩ : ∃ w2, w2 = (w.alloc (.cells #[.int .i64 0] 48)).alloc (.cells #[.nilIface] 50) := ⟨_, rfl⟩
 have hb2 : Below w.heap.size w w2 := by rw [ew2]; exact ((Below.refl _ _).alloc (Nat.le_refl _) _).alloc (by simp) _
 have HN := newOperations_any w2
 have HV : Hid (∀ b W, TabIn W b 62 opTab → Below w2.heap.size w2 W → Calls Tryz.prog 54 #[.map (some b), .iface vt vx] W (EvOut W R)) := fun b W hT hW => by
  rw [eR]; exact value_any _ c k _ Bt b W W (Nat.le_refl _) hok (FoIn.below (FoIn.below hfo hb2) hW) hT (Below.refl _ _)
 rw [← eR]; have HB2 : Hid (Below w.heap.size w w2) := hb2; have HG : Hid _ := hg; clear eR hfo hok hb2 hg; refine (callsIn_wide (n := 6)).1 ?_; refine callsIn_of_wp_marks Tryz.func22 rfl trivial ?_ rfl; simp only [Tryz.ntmps22, List.size_toArray, List.length_cons, List.length_nil, Nat.reduceAdd, Nat.reduceSub, Array.replicate_succ, Array.replicate_zero, List.push_toArray, List.append_toArray, List.nil_append, List.cons_append]
 gi_wp2_with fail
 rw [← ew2]
 have h20 : w2.heap[w.heap.size]? = some (.cells #[.int .i64 0] 48) := by rw [ew2]; exact (Below.heap_alloc _ _ _ (by simp)).trans (heap_alloc_new _ _)
 have h21 : w2.heap[w.heap.size + 1]? = some (.cells #[.nilIface] 50) := by
  have := heap_alloc_new (w.alloc (.cells #[.int .i64 0] 48)) (.cells #[.nilIface] 50); rw [World.size_alloc] at this; rw [ew2]; exact this
 have hs2 : w2.heap.size = w.heap.size + 2 := by rw [ew2]; simp
 refine ⟨trivial, (callsIn_wide.2 HN).mono ?_⟩; rintro e w3 ⟨b, rfl, hT, hb3⟩; have HV3 := HV.out b w3 hT hb3; have HB3 : Hid (Below w2.heap.size w2 w3) := hb3
 obtain ⟨T, eT⟩ : ∃ T, T = w.heap.size := ⟨_, rfl⟩
 have HS2 : Hid (w2.heap.size = T + 2) := by rw [eT]; exact hs2
 have HTT : Hid (T = w.heap.size) := eT; rw [← eT] at h20 h21; rw [← eT]
 have HA : Hid (∀ W, Below w2.heap.size w2 W → W.cell? ⟨T, 0, none⟩ = some (.int .i64 0) ∧ W.cell? ⟨T + 1, 0, none⟩ = some .nilIface ∧ W.frozen? ⟨T, 0, none⟩ = false ∧ W.frozen? ⟨T + 1, 0, none⟩ = false) := fun W hW => by
  have q0 := (hW.block T (by have := HS2.out; omega)).trans h20; have q1 := (hW.block (T + 1) (by have := HS2.out; omega)).trans h21; exact ⟨cell_of_row _ _ 0 _ _ _ q0, cell_of_row _ _ 0 _ _ _ q1, frozen_of_row _ _ _ _ _ q0, frozen_of_row _ _ _ _ _ q1⟩
 clear HN HV hT hb3 h20 h21 hs2 ew2 eT
 gi_wp2_with fail
 refine ⟨trivial, (callsIn_wide.2 HV3).mono ?_⟩
 have st : Hid (∀ (W : World) (u1 u2 : Value), Below w2.heap.size w2 W → ((W.setCell ⟨T, 0, none⟩ u1).setCell ⟨T + 1, 0, none⟩ u2).cell? ⟨T, 0, none⟩ = some u1 ∧ ((W.setCell ⟨T, 0, none⟩ u1).setCell ⟨T + 1, 0, none⟩ u2).cell? ⟨T + 1, 0, none⟩ = some u2 ∧ Below w.heap.size w ((W.setCell ⟨T, 0, none⟩ u1).setCell ⟨T + 1, 0, none⟩ u2)) := fun W u1 u2 hW => by
  obtain ⟨q0, q1, _, _⟩ := HA.out W hW; have f1 : (W.setCell ⟨T, 0, none⟩ u1).cell? ⟨T + 1, 0, none⟩ = W.cell? ⟨T + 1, 0, none⟩ := World.cell?_setCell_far W ⟨T, 0, none⟩ ⟨T + 1, 0, none⟩ u1 (by simp); refine ⟨?_, World.cell?_setCell_same' _ _ _ (by rw [f1, q1]; rfl), ?_⟩
  ·rw [World.cell?_setCell_far _ ⟨T + 1, 0, none⟩ ⟨T, 0, none⟩ u2 (by simp)]
   exact World.cell?_setCell_same' _ _ _ (by rw [q0]; rfl)
  ·have hb := Below.on HB2.out hW
   rw [← HTT.out] at hb ⊢
   exact ⟨hb.os, hb.tape, hb.output, by have := hb.size; simp; omega, fun k hk => by
    rw [heap_setCell_other _ ⟨T + 1, 0, none⟩ k _ (fun e => by simp at e; omega), heap_setCell_other _ ⟨T, 0, none⟩ k _ (fun e => by simp at e; omega)]
    exact hb.block k hk⟩
 cases R with
 | ok v =>
   rintro e w4 ⟨rfl, hb4⟩; have hw4 : Below w2.heap.size w2 w4 := Below.on HB3.out hb4; obtain ⟨q0, q1, f0, f1⟩ := HA.out w4 hw4; have HW4 : Hid (Below w2.heap.size w2 w4) := hw4; clear hw4 hb4 HV3
   gi_wp2_with fail
   obtain ⟨z0, z1, zb⟩ := st.out w4 (.int .i64 v) .nilIface HW4.out; refine ⟨by simp, .inr ⟨fun _ => by decide, _, _, 51, #[.pointer (some ⟨T, 0, none⟩), .pointer (some ⟨T + 1, 0, none⟩)], rfl, by simp [invoke, go_sem], fun g _ => trivial, (evD_idle _ _ _ _).mono ?_⟩⟩; rintro e u' w' ⟨rfl, rfl, rfl⟩; exact ⟨.tuple #[.int .i64 v, .nilIface], by simp [results, Tryz.results22, go_sem, z0, z1], rfl, zb⟩
 | error t =>
   rintro e w4 ⟨⟨tv, hfo, rfl | rfl⟩, hb4⟩
   ·have hw4 : Below w2.heap.size w2 w4 := Below.on HB3.out hb4
    obtain ⟨q0, q1, f0, f1⟩ := HA.out w4 hw4; have HW4 : Hid (Below w2.heap.size w2 w4) := hw4; have HF4 : Hid (FoIn w4 w3.heap.size t.fo [tv]) := hfo; clear hw4 hb4 HV3 hfo
    gi_wp2_with fail
    obtain ⟨z0, z1, zb⟩ := st.out w4 (.int .i64 0) (.iface 57 (.agg #[tv])) HW4.out; have h3 := HB3.out.size; have h2 := HS2.out; have zf : FoIn ((w4.setCell ⟨T, 0, none⟩ (.int .i64 0)).setCell ⟨T + 1, 0, none⟩ (.iface 57 (.agg #[tv]))) w.heap.size t.fo [tv] := ((HF4.out.setCell (a := ⟨T, 0, none⟩) (by show T < _; omega) _).setCell (a := ⟨T + 1, 0, none⟩) (by show T + 1 < _; omega) _).mono (by rw [← HTT.out]; omega); refine ⟨by simp, .inr ⟨fun _ => by decide, _, _, 51, #[.pointer (some ⟨T, 0, none⟩), .pointer (some ⟨T + 1, 0, none⟩)], rfl, by simp [invoke, go_sem], fun g _ => trivial, (evD_idle _ _ _ _).mono ?_⟩⟩; rintro e u' w' ⟨rfl, rfl, rfl⟩; exact ⟨.tuple #[.int .i64 0, .iface 57 (.agg #[tv])], by simp [results, Tryz.results22, go_sem, z0, z1], ⟨tv, rfl, zf⟩, zb⟩
   ·have hw4 : Below w2.heap.size w2 w4 := Below.on HB3.out hb4
    obtain ⟨q0, q1, f0, f1⟩ := HA.out w4 hw4; obtain ⟨ut, ux, rfl⟩ := FoIn.iface (c := t.1) (k := t.2) (r := .nil) hfo; have hgl := World.block_lt_of_cell? _ _ HG.out; have hww := Below.on HB2.out hw4; have hg4 := (hww.cell hgl).trans HG.out; have h3 := HB3.out.size; have h4 := hb4.size; have h2 := HS2.out; refine ⟨by simp, .inr ⟨fun _ => by decide, _, _, 51, #[.pointer (some ⟨T, 0, none⟩), .pointer (some ⟨T + 1, 0, none⟩)], rfl, by simp [invoke, go_sem], fun g _ => trivial, (evD_panicking _ T (T + 1) _ _ ut ux w4 hg4 q0 q1 f0 f1 rfl).mono ?_⟩⟩; rintro e u' w' ⟨rfl, rfl, hs⟩; refine ⟨.tuple #[.int .i64 0, .iface 57 (.agg #[.iface ut ux])], by simp [results, Tryz.results22, go_sem, hs.val, hs.err], ⟨_, rfl, ?_⟩, ?_⟩
    ·exact FoIn.imp (B := w3.heap.size) (by rw [← HTT.out]; omega) (fun b o hb1 hb2 => World.cell?_of_block (a := ⟨b, o, none⟩) (hs.block b hb2 (by omega) (by omega))) hs.size _ _ hfo
    ·rw [← HTT.out] at hww ⊢
     exact ⟨hs.os.trans hww.os, hs.tape.trans hww.tape, hs.output.trans hww.output, Nat.le_trans hww.size hs.size, fun k hk => (hs.block k (by omega) (by omega) (by omega)).trans (hww.block k hk)⟩
end
section
open Go Go.RowKit
def evZ : ER → List Cel × Int
 | .ok v => ([(1, v, [])], 0)
 | .error t => (t.1 :: t.2.cells, 6)
def errOk (t : Tr) : Prop := (Fo.node t.1 t.2 .nil).ok ∧ t.2.cells.length ≤ 10
theorem byte_of {s : List Int} (h : (s.all fun x => decide (0 ≤ x) && decide (x < 256)) = true) : Byte s := fun x hx => by
 have := List.all_eq_true.1 h x hx
 simpa using this
theorem atom_ok {s : List Int} (h : Byte s) (hl : s.length ≤ 100) {r : Fo} (hr : r.ok) : (Fo.node (2, 0, s) .nil r).ok := ⟨by simp [cellB]; omega, h, fun e => by simp at e, fun _ => rfl, trivial, hr⟩
theorem num_ok {n : Int} (h : InB n) {r : Fo} (hr : r.ok) : (Fo.node (1, n, []) .nil r).ok := ⟨by unfold InB at h; simp [cellB]; omega, fun x hx => (by cases hx), fun e => by simp at e, fun _ => rfl, trivial, hr⟩
theorem comp_ok {s : List Int} {k : Fo} (h : Byte s) (hl : s.length ≤ 100) (hk : k.ok) (h1 : 1 ≤ k.count) (h2 : k.count ≤ 20) : (Fo.node (3, k.count, s) k .nil).ok := ⟨by simp [cellB]; omega, h, fun _ => rfl, fun e => absurd rfl e, hk, trivial⟩
theorem errOk_eval {s : List Int} (h : Byte s) (hl : s.length ≤ 100) : errOk (evalT s) := ⟨comp_ok (k := .node (2, 0, s) .nil .nil) (byte_of (by decide)) (by decide) (atom_ok h hl trivial) (by simp [Fo.count]) (by simp [Fo.count]), by simp [evalT, Fo.cells]⟩
theorem errOk_type {s : List Int} {t : Tr} (h : Byte s) (hl : s.length ≤ 100) (ht : (Fo.node t.1 t.2 .nil).ok) (hc : t.2.cells.length ≤ 5) : errOk (typeT s t) := ⟨comp_ok (k := .node (2, 0, s) .nil (.node t.1 t.2 .nil)) (byte_of (by decide)) (by decide) (atom_ok h hl ht) (by simp [Fo.count]) (by simp [Fo.count]), by simp [typeT, Fo.cells]; omega⟩
theorem errOk_inst : errOk instT := ⟨atom_ok (byte_of (by decide)) (by decide) trivial, by simp [instT, Fo.cells]⟩
theorem errOk_evb {s : List Int} {n : Int} (h : Byte s) (hl : s.length ≤ 100) (hn : InB n) : errOk (evbT s n) := errOk_type (byte_of (by decide)) (by decide) (comp_ok (s := [47]) (k := .node (2, 0, s) .nil (.node (1, n, []) .nil .nil)) (byte_of (by decide)) (by decide) (atom_ok h hl (num_ok hn trivial)) (by simp [Fo.count]) (by simp [Fo.count])) (by simp [indT, Fo.cells])
theorem errOk_float {x : Int} (h : InB x) : errOk (floatT x) := errOk_type (byte_of (by decide)) (by decide) (num_ok h trivial) (by simp [numT, Fo.cells])
theorem errOk_op2 {s : List Int} {x y : Int} {t : Tr} (hx : InB x) (h : op2 s x y = .error t) : errOk t := by
 unfold op2 at h
 by_cases e0 : s = [43]
 ·rw [if_pos e0] at h
  cases h
 rw [if_neg e0] at h
 by_cases e1 : s = [45]
 ·rw [if_pos e1] at h
  cases h
 rw [if_neg e1] at h
 by_cases e2 : s = [42]
 ·rw [if_pos e2] at h
  cases h
 rw [if_neg e2] at h
 by_cases e3 : s = [109, 105, 110]
 ·rw [if_pos e3] at h
  cases h
 rw [if_neg e3] at h
 by_cases e4 : s = [109, 97, 120]
 ·rw [if_pos e4] at h
  cases h
 rw [if_neg e4] at h
 by_cases e5 : s = [47, 47]
 ·rw [if_pos e5] at h
  by_cases y0 : y = 0
  ·rw [if_pos y0] at h; cases h; exact errOk_eval (byte_of (by decide)) (by decide)
  ·rw [if_neg y0] at h; cases h
 rw [if_neg e5] at h
 by_cases e6 : s = [114, 101, 109]
 ·rw [if_pos e6] at h
  by_cases y0 : y = 0
  ·rw [if_pos y0] at h; cases h; exact errOk_eval (byte_of (by decide)) (by decide)
  ·rw [if_neg y0] at h; cases h
 rw [if_neg e6] at h
 by_cases e7 : s = [109, 111, 100]
 ·rw [if_pos e7] at h
  by_cases y0 : y = 0
  ·rw [if_pos y0] at h; cases h; exact errOk_eval (byte_of (by decide)) (by decide)
  ·rw [if_neg y0] at h; cases h
 rw [if_neg e7] at h
 by_cases e8 : s = [62, 62]
 ·rw [if_pos e8] at h
  by_cases y0 : y < 0
  ·rw [if_pos y0] at h; cases h; exact errOk_eval (byte_of (by decide)) (by decide)
  ·rw [if_neg y0] at h; cases h
 rw [if_neg e8] at h
 by_cases e9 : s = [60, 60]
 ·rw [if_pos e9] at h
  by_cases y0 : y < 0
  ·rw [if_pos y0] at h; cases h; exact errOk_eval (byte_of (by decide)) (by decide)
  ·rw [if_neg y0] at h; cases h
 rw [if_neg e9] at h
 by_cases e10 : s = [47, 92]
 ·rw [if_pos e10] at h
  cases h
 rw [if_neg e10] at h
 by_cases e11 : s = [92, 47]
 ·rw [if_pos e11] at h
  cases h
 rw [if_neg e11] at h
 by_cases e12 : s = [120, 111, 114]
 ·rw [if_pos e12] at h
  cases h
 rw [if_neg e12] at h
 unfold powE at h
 by_cases y0 : 0 ≤ y
 ·rw [if_pos y0] at h; cases h
 rw [if_neg y0] at h
 by_cases x0 : x = 0
 ·rw [if_pos x0] at h; cases h; exact errOk_eval (byte_of (by decide)) (by decide)
 rw [if_neg x0] at h
 by_cases x1 : x.natAbs = 1
 ·rw [if_pos x1] at h; cases h
 rw [if_neg x1] at h
 cases h
 exact errOk_float hx
theorem errOk_opV {s xs : List Int} {t : Tr} (hx : ∀ x ∈ xs, InB x) (h : opV s xs = .error t) : errOk t := by
 unfold opV at h
 split at h
 ·cases h
 ·exact errOk_op2 (hx _ (by simp)) h
 ·cases h
theorem errOk_bnd {r : ER} {t : Tr} (hr : ∀ u, r = .error u → errOk u) (h : bndE r = .error t) : errOk t := by
 cases r with
 | error u => cases h; exact hr _ rfl
 | ok v =>
   simp only [bndE] at h
   split at h
   ·cases h
   ·cases h; exact errOk_eval (byte_of (by decide)) (by decide)
mutual
theorem errOk_evT {c : Cel} {k : Fo} {t : Tr} (hok : (Fo.node c k .nil).ok) (h : evT (c, k) = .error t) : errOk t := by
 have hcb := hok.1; simp only [cellB, decide_eq_true_eq] at hcb
 unfold evT evC at h
 split at h
 ·cases h
 split at h
 ·cases h; exact errOk_inst
 split at h
 ·cases h; exact errOk_evb hok.2.1 (by show c.2.2.length ≤ 100; omega) (by unfold InB; simp only at *; omega)
 ·split at h
  ·rename_i u hu
   cases h
   exact errOk_seq k hok.2.2.2.2.1 hu
  ·rename_i xs hxs
   exact errOk_bnd (fun u hu => errOk_opV (vals_in k hok.2.2.2.2.1 hxs) hu) h
theorem errOk_seq : ∀ (k : Fo) {t : Tr}, k.ok → seqE (evF k) = .error t → errOk t
 | .nil, t, _, h => by cases h
 | .node c k r, t, hok, h => by
   simp only [evF_cons] at h
   cases he : evT (c, k) with
   | error u =>
     rw [he] at h; simp only [seqE] at h
     cases h
     exact errOk_evT (c := c) (k := k) ⟨hok.1, hok.2.1, hok.2.2.1, hok.2.2.2.1, hok.2.2.2.2.1, trivial⟩ he
   | ok v =>
     rw [he] at h; simp only [seqE] at h
     cases hs : seqE (evF r) with
     | error u =>
       rw [hs] at h
       cases h
       exact errOk_seq r hok.2.2.2.2.2 hs
     | ok xs => rw [hs] at h; cases h
theorem vals_in : ∀ (k : Fo) {xs : List Int}, k.ok → seqE (evF k) = .ok xs → ∀ x ∈ xs, InB x
 | .nil, xs, _, h, x, hx => by
   simp only [evF, seqE, Except.ok.injEq] at h; subst h
   cases hx
 | .node c k r, xs, hok, h, x, hx => by
   simp only [evF_cons] at h
   cases he : evT (c, k) with
   | error u => rw [he] at h; simp only [seqE] at h; cases h
   | ok v =>
     rw [he] at h; simp only [seqE] at h
     cases hs : seqE (evF r) with
     | error u => rw [hs] at h; cases h
     | ok ys =>
       rw [hs] at h; simp only [Except.ok.injEq] at h; subst h
       rcases List.mem_cons.1 hx with rfl | hx
       ·exact evT_in (c := c) (k := k) ⟨hok.1, hok.2.1, hok.2.2.1, hok.2.2.2.1, hok.2.2.2.2.1, trivial⟩ he
       ·exact vals_in r hok.2.2.2.2.2 hs x hx
end
theorem as_nil (t : TypeId) (y : Value) (w : World) : Calls Tryz.prog 24 #[.nilIface, .iface t y] w fun e w' => e = .returned (.bool false) ∧ Below w.heap.size w w' := by
 go_enter Tryz.func24, Tryz.ntmps24
 go_wp2_with fail; go_ret; exact ⟨rfl, Below.refl _ _⟩
def EvalOut (w : World) (r : List Cel × Int) (e : Ending) (w' : World) : Prop := ∃ q m c2, e = .returned (.tuple #[.slice q m c2, .int .i64 r.2]) ∧ OwnC w' w.heap.size q m c2 r.1 ∧ Below w.heap.size w w'
theorem implEval_any (c : Cel) (k : Fo) (p : Option Addr) (n cap : Nat) (w : World) (hok : (Fo.node c k .nil).ok) (hn : n = k.cells.length + 1) (hm : n ≤ 2000) (hcap : n ≤ cap) (hcm : cap ≤ 9223372036854775807) (hv : validB (c :: k.cells) = true) (hin : CIn w p (c :: k.cells))
  (hg : w.cell? ⟨0, 0, none⟩ = some (.iface 169 (.agg #[.pointer (some ⟨11, 50, none⟩)]))) :
  Calls Tryz.prog 6 #[.slice p n cap] w (EvalOut w (evZ (evT (c, k)))) := by
 have HVA := implValid_any p cap (c :: k.cells) w (by simp; omega) hin; rw [hv, show (c :: k.cells).length = n by simp [hn]] at HVA; have hgl : 0 < w.heap.size := World.block_lt_of_cell? _ _ hg
 have HTO : Hid (∀ W, Below w.heap.size w W → Calls Tryz.prog 23 #[.slice p n cap] W fun e w' => ∃ v, e = .returned v ∧ FoIn w' W.heap.size (.node c k .nil) [v] ∧ Below W.heap.size W w') := fun W hW => termOf_any c k p n cap W hok hn hcap (by omega) (hin.below hW)
 have HEV : Hid (∀ W v B, Below w.heap.size w W → FoIn W B (.node c k .nil) [v] → Calls Tryz.prog 22 #[v] W (ElOut W (evT (c, k)))) := fun W v B hW hf => evaluate_any c k v B W hok hf ((hW.cell (p := ⟨0, 0, none⟩) hgl).trans hg)
 have HG : Hid (∀ W, Below w.heap.size w W → W.cell? ⟨0, 0, none⟩ = some (.iface 169 (.agg #[.pointer (some ⟨11, 50, none⟩)]))) := fun W hW => (hW.cell (p := ⟨0, 0, none⟩) hgl).trans hg
 have HOK : Hid ((∀ v, evT (c, k) = .ok v → InB v) ∧ ∀ t, evT (c, k) = .error t → errOk t) := ⟨fun v h => evT_in hok h, fun t h => errOk_evT hok h⟩
 obtain ⟨R, eR⟩ : ∃ R, R = evT (c, k) := ⟨_, rfl⟩
 rw [← eR] at HEV HOK ⊢; clear hok hn hv hin hg hgl eR
 go_enter Tryz.func6, Tryz.ntmps6
 go_wp2_with fail; refine HVA.mono ?_; rintro e w1 ⟨rfl, hb1⟩; have HB1 : Hid (Below w.heap.size w w1) := hb1; have HT1 := HTO.out w1 hb1; clear hb1 HVA; go_wp2_with fail; refine HT1.mono ?_; rintro e w2 ⟨v, rfl, hfo, hb2⟩; have HB2 : Hid (Below w.heap.size w w2) := Below.on HB1.out hb2; have HE2 := HEV.out w2 v _ HB2.out hfo; obtain ⟨vt, vx, rfl⟩ := hfo.iface; clear hfo hb2 HT1 HTO HEV; go_wp2_with fail; refine HE2.mono ?_
 cases R with
 | ok u =>
   rintro e w3 ⟨rfl, hb3⟩; have HB3 : Hid (Below w.heap.size w w3) := Below.on HB2.out hb3; have HA := as_nil 59 (.pointer (some ⟨w3.heap.size, 0, none⟩)) (w3.alloc (.cells #[.nilIface] 57)); have HB4 : Hid (Below w.heap.size w (w3.alloc (.cells #[.nilIface] 57))) := HB3.out.alloc HB3.out.size _; have HU : Hid (InB u) := HOK.out.1 u rfl; clear hb3 HE2; go_wp2_with fail; refine HA.mono ?_; rintro e w5 ⟨rfl, hb5⟩; have HB5 : Hid (Below w.heap.size w w5) := Below.on HB4.out hb5; have HCO := cellsOf_any (1, u, []) .nil (.iface 48 (.int .i64 u)) 0 w5 (num_ok HU.out trivial) (num_in rfl) (by simp [Fo.cells]); clear hb5 HA; go_wp2_with fail; refine HCO.mono ?_; rintro e w6 ⟨q, m, c2, rfl, ho, hb6⟩; have HO : Hid (OwnC w6 w.heap.size q m c2 [(1, u, [])]) := ho.mono HB5.out.size; have HB6 : Hid (Below w.heap.size w w6) := Below.on HB5.out hb6
   clear ho hb6 HCO; go_wp2_with fail
   go_ret2
   exact ⟨q, m, c2, rfl, HO.out, HB6.out⟩
 | error t =>
   rintro e w3 ⟨⟨tv, rfl, hfo⟩, hb3⟩; have HB3 : Hid (Below w.heap.size w w3) := Below.on HB2.out hb3; obtain ⟨ut, ux, rfl⟩ := FoIn.iface (c := t.1) (k := t.2) (r := .nil) hfo; have HB4 : Hid (Below w.heap.size w (w3.alloc (.cells #[.nilIface] 57))) := HB3.out.alloc HB3.out.size _; have HA := as_hit w3.heap.size ut ux .nilIface (w3.alloc (.cells #[.nilIface] 57)) (HG.out _ HB4.out) (heap_alloc_new w3 _); have HU : Hid (errOk t) := HOK.out.2 t rfl; have HF3 : Hid (FoIn w3 w2.heap.size t.fo [.iface ut ux]) := hfo; clear hb3 HE2 hfo; go_wp2_with fail; refine HA.mono ?_; rintro e w5 ⟨rfl, w4, hb4, hT4, rfl⟩; have hx0 : (w4.setRow w3.heap.size #[Value.iface ut ux]).heap[w3.heap.size]? = some (.cells #[Value.iface ut ux] 57 (0, 0)) := setRow_heap _ _ _ _ _ _ hT4
   have c0 : (w4.setRow w3.heap.size #[Value.iface ut ux]).cell? ⟨w3.heap.size, 0, none⟩ = some (.iface ut ux) := by unfold World.cell?; rw [hx0]; rfl
   have h35 : Below w3.heap.size w3 (w4.setRow w3.heap.size #[Value.iface ut ux]) := below_setRow (Below.on ((Below.refl _ _).alloc (Nat.le_refl _) _) hb4) (Nat.le_refl _) _; have HB5 : Hid (Below w.heap.size w (w4.setRow w3.heap.size #[Value.iface ut ux])) := Below.on HB3.out h35; have HCO := cellsOf_any t.1 t.2 (.iface ut ux) w2.heap.size (w4.setRow w3.heap.size #[Value.iface ut ux]) HU.out.1 (FoIn.below HF3.out h35) (by have := HU.out.2; omega); clear hb4 hT4 hx0 HA h35; go_wp2_with fail; refine HCO.mono ?_; rintro e w6 ⟨q, m, c2, rfl, ho, hb6⟩; have HO : Hid (OwnC w6 w.heap.size q m c2 (t.1 :: t.2.cells)) := ho.mono HB5.out.size; have HB6 : Hid (Below w.heap.size w w6) := Below.on HB5.out hb6; clear ho hb6 HCO; go_wp2_with fail
   go_ret2
   exact ⟨q, m, c2, rfl, HO.out, HB6.out⟩
theorem implEval_bad (p : Option Addr) (cap : Nat) (cs : List Cel) (w : World) (hl : cs.length ≤ 1000000000) (hv : validB cs = false) (hin : CIn w p cs) : Calls Tryz.prog 6 #[.slice p cs.length cap] w (EvalOut w ([], 1)) := by
 have HVA := implValid_any p cap cs w hl hin; rw [hv] at HVA; clear hin
 go_enter Tryz.func6, Tryz.ntmps6
 go_wp2_with fail; refine HVA.mono ?_; rintro e w1 ⟨rfl, hb1⟩; have HB1 : Hid (Below w.heap.size w w1) := hb1; clear hb1 HVA; go_wp2_with fail
 go_ret2
 exact ⟨none, 0, 0, rfl, OwnC.nil _ _, HB1.out⟩
abbrev erV (a : Addr) : Value := .iface 466 (.pointer (some a))
abbrev etG (w : World) : Prop := w.cell? ⟨0, 0, none⟩ = some (.iface 169 (.agg #[.pointer (some ⟨11, 50, none⟩)]))
theorem etG.below {w w' : World} (h : etG w) (hb : Below w.heap.size w w') : etG w' := (hb.cell (World.block_lt_of_cell? _ _ h)).trans h
abbrev noEf : Value := .agg #[.slice none 0 0, .nilIface, .slice none 0 0]
theorem unifying_err (a b er : Value) (t : TypeId) (w : World) : Calls Tryz.prog 165 #[a, b, .iface t er] w fun e w' => e = .returned (.tuple #[noEf, .iface t er]) ∧ Below w.heap.size w w' := by
 go_enter Tryz.func165, Tryz.ntmps165
 go_wp2_with fail; exact bodyPost_ret (v := .tuple #[noEf, .iface t er]) (by simp [results, Tryz.results165, go_sem]) rfl ⟨rfl, (Below.refl _ _).alloc (Nat.le_refl _) _⟩
abbrev wr3 (w : World) (T : Nat) (a b c : Value) : World := ((w.setCell ⟨T, 0, none⟩ a).setCell ⟨T, 1, none⟩ b).setCell ⟨T, 2, none⟩ c
theorem wr3_ne {w : World} {T : Nat} {x y z : Value} {a : Addr} (h : a.block ≠ T) : (wr3 w T x y z).cell? a = w.cell? a := by
 have q : ∀ (W : World) (i : Nat) (v : Value), (W.setCell ⟨T, i, none⟩ v).cell? a = W.cell? a := fun W i v => World.cell?_setCell_far W ⟨T, i, none⟩ a v (Ne.symm h)
 exact (q _ _ _).trans ((q _ _ _).trans (q _ _ _))
theorem wr3_below {B T : Nat} {w0 w : World} {x y z : Value} (hb : Below B w0 w) (h : B ≤ T) : Below B w0 (wr3 w T x y z) := by
 refine ⟨hb.os, hb.tape, hb.output, by simpa [wr3] using hb.size, fun k hk => ?_⟩
 have q : ∀ (W : World) (i : Nat) (v : Value), (W.setCell ⟨T, i, none⟩ v).heap[k]? = W.heap[k]? := fun W i v => heap_setCell_other W ⟨T, i, none⟩ k v (fun e => by simp at e; omega)
 exact (q _ _ _).trans ((q _ _ _).trans ((q _ _ _).trans (hb.block k hk)))
theorem wr3_box {w : World} {T : Nat} {u0 u1 u2 : Value} (h : Box3 w T u0 u1 u2) (v0 v1 v2 : Value) : Box3 (wr3 w T v0 v1 v2) T v0 v1 v2 := by
 obtain ⟨h0, h1, h2, h3⟩ := h; refine ⟨?_, ?_, ?_, fun j => by simpa [wr3] using h3 j⟩
 ·rw [World.cell?_setCell_other _ _ _ _ (by simp), World.cell?_setCell_other _ _ _ _ (by simp), World.cell?_setCell_same' _ _ _ (by rw [h0]; rfl)]
 ·rw [World.cell?_setCell_other _ _ _ _ (by simp), World.cell?_setCell_same' _ _ _ (by rw [World.cell?_setCell_other _ _ _ _ (by simp), h1]; rfl)]
 ·rw [World.cell?_setCell_same' _ _ _ (by rw [World.cell?_setCell_other _ _ _ _ (by simp), World.cell?_setCell_other _ _ _ _ (by simp), h2]; rfl)]
def PairE (w : World) (v0 v1 : Value) (e : Ending) (w' : World) : Prop := ∃ g, e = .returned (.tuple #[.agg #[.slice (some ⟨g, 0, none⟩) 1 1, .nilIface, .slice none 0 0], .nilIface]) ∧ w.heap.size ≤ g ∧ w'.cell? ⟨g, 0, none⟩ = some v0 ∧ w'.cell? ⟨g, 1, none⟩ = some v1 ∧ Below w.heap.size w w'
theorem unifying_ok (ta tb : TypeId) (a b : Value) (w : World) : Calls Tryz.prog 165 #[.iface ta a, .iface tb b, .nilIface] w (PairE w (.iface ta a) (.iface tb b)) := by
 go_enter Tryz.func165, Tryz.ntmps165
 go_wp2_with fail
 obtain ⟨w1, e1⟩ : ∃ w1, w1 = w.alloc (Obj.cells #[Value.slice (some ⟨w.heap.size + 1, 0, none⟩) 1 1, Value.nilIface, Value.slice none 0 0] 86) := ⟨_, rfl⟩
 have hs : w1.heap.size = w.heap.size + 1 := by rw [e1]; simp
 have hb1 : Below w.heap.size w w1 := by rw [e1]; exact (Below.refl _ _).alloc (Nat.le_refl _) _
 have hn := heap_alloc_new w1 (Obj.cells #[Value.iface ta a, Value.iface tb b] 141); rw [hs] at hn; rw [← e1]
 have q : ∀ k v, (#[Value.slice (some ⟨w.heap.size + 1, 0, none⟩) 1 1, Value.nilIface, Value.slice none 0 0] : Array Value)[k]? = some v → (w1.alloc (Obj.cells #[Value.iface ta a, Value.iface tb b] 141)).cell? ⟨w.heap.size, k, none⟩ = some v := fun k v hv => by
  rw [World.cell?_alloc_lt _ _ ⟨w.heap.size, k, none⟩ (by show w.heap.size < _; omega), e1, World.cell?, heap_alloc_new]
  simpa using hv
 have d0 := q 0 _ rfl; have d1 := q 1 _ rfl; have d2 := q 2 _ rfl; refine bodyPost_ret (v := .tuple #[.agg #[.slice (some ⟨w.heap.size + 1, 0, none⟩) 1 1, .nilIface, .slice none 0 0], .nilIface]) (by simp [results, Tryz.results165, go_sem, d0, d1, d2]) rfl ⟨w.heap.size + 1, rfl, Nat.le_succ _, ?_, ?_, ?_⟩
 ·exact cell_of_row _ _ 0 _ _ _ hn
 ·exact cell_of_row _ _ 1 _ _ _ hn
 ·exact hb1.alloc hb1.size _
theorem holds_yes (w : World) : Calls Tryz.prog 167 #[.bool true, .nilIface] w fun e w' => e = .returned (.tuple #[noEf, .nilIface]) ∧ Below w.heap.size w w' := by
 go_enter Tryz.func167, Tryz.ntmps167
 go_wp2_with fail; exact bodyPost_ret (v := .tuple #[noEf, .nilIface]) (by simp [results, Tryz.results167, go_sem]) rfl ⟨rfl, (Below.refl _ _).alloc (Nat.le_refl _) _⟩
theorem holds_no (a : Addr) (w : World) (hg : w.cell? ⟨2, 0, none⟩ = some (erV a)) : Calls Tryz.prog 167 #[.bool false, .nilIface] w fun e w' => e = .returned (.tuple #[noEf, erV a]) ∧ Below w.heap.size w w' := by
 have hl : 2 < w.heap.size := World.block_lt_of_cell? _ _ hg
 have hg2 : (w.alloc (Obj.cells #[Value.slice none 0 0, Value.nilIface, Value.slice none 0 0] 86)).cell? ⟨2, 0, none⟩ = some (erV a) := by rw [World.cell?_alloc_lt _ _ ⟨2, 0, none⟩ hl]; exact hg
 go_enter Tryz.func167, Tryz.ntmps167
 go_wp2_with fail; exact bodyPost_ret (v := .tuple #[noEf, erV a]) (by simp [results, Tryz.results167, go_sem]) rfl ⟨rfl, (Below.refl _ _).alloc (Nat.le_refl _) _⟩
theorem compareS_any (x : Int) (w : World) : Calls Tryz.prog 130 #[.int .i64 x, .int .i64 x] w fun e w' => e = .returned (.int .i64 0) ∧ w' = w := by
 have H1 := isNaNn_any x w
 go_enter Tryz.func130, Tryz.ntmps130
 go_wp2_with fail; refine H1.mono ?_; rintro e w1 ⟨rfl, rfl⟩; go_wp2_with fail; refine H1.mono ?_; rintro e w1 ⟨rfl, rfl⟩; go_wp2_with fail; go_ret; exact ⟨rfl, rfl⟩
structure Two (w : World) (g : Nat) (v0 v1 : Value) : Prop where
 at0 : w.cell? ⟨g, 0, none⟩ = some v0
 at1 : w.cell? ⟨g, 1, none⟩ = some v1
theorem Two.below {w w' : World} {g : Nat} {v0 v1 : Value} (h : Two w g v0 v1) (hb : Below w.heap.size w w') : Two w' g v0 v1 :=
 ⟨(hb.cell (World.block_lt_of_cell? _ _ h.at0)).trans h.at0, (hb.cell (World.block_lt_of_cell? _ _ h.at1)).trans h.at1⟩
abbrev calV (op : Option Addr) (on oc : Nat) (g cap : Nat) (fr : Int) : Value := .agg #[.slice op on oc, .slice (some ⟨g, 0, none⟩) 2 cap, .int .i64 fr]
def IsO (w : World) (v0 : Value) (r : ER) (e : Ending) (w' : World) : Prop := match r with
 | .ok v => PairE w v0 (.iface 48 (.int .i64 v)) e w'
 | .error t => ∃ tv, e = .returned (.tuple #[noEf, .iface 57 (.agg #[tv])]) ∧ FoIn w' w.heap.size t.fo [tv] ∧ Below w.heap.size w w'
set_option maxHeartbeats 600000 in
theorem is_any (c : Cel) (k : Fo) (ta : TypeId) (va v1 : Value) (Bt g cap on oc : Nat) (op : Option Addr) (fr : Int) (w : World) (hok : (Fo.node c k .nil).ok) (hfo : FoIn w Bt (.node c k .nil) [v1]) (hg : etG w) (h2 : Two w g (.iface ta va) v1) :
  Calls Tryz.prog 87 #[calV op on oc g cap fr] w (IsO w (.iface ta va) (evT (c, k))) := by
 obtain ⟨vt, vx, rfl⟩ := hfo.iface
 obtain ⟨w1, e1⟩ : ∃ w1, w1 = w.alloc (Obj.cells #[.slice op on oc, .slice (some ⟨g, 0, none⟩) 2 cap, .int .i64 fr] 83) := ⟨_, rfl⟩
 obtain ⟨w2, e2⟩ : ∃ w2, w2 = w1.alloc (Obj.cells #[Value.slice none 0 0, Value.nilIface, Value.slice none 0 0] 86) := ⟨_, rfl⟩
 have hb1 : Below w.heap.size w w1 := by rw [e1]; exact (Below.refl _ _).alloc (Nat.le_refl _) _
 have hb2 : Below w1.heap.size w1 w2 := by rw [e2]; exact (Below.refl _ _).alloc (Nat.le_refl _) _
 have hb : Below w.heap.size w w2 := Below.on hb1 hb2
 have hs1 : w1.heap.size = w.heap.size + 1 := by rw [e1]; simp
 have hq : w2.cell? ⟨w.heap.size, 1, none⟩ = some (.slice (some ⟨g, 0, none⟩) 2 cap) := by
  rw [hb2.cell (p := ⟨w.heap.size, 1, none⟩) (by show w.heap.size < _; omega), e1, World.cell?, heap_alloc_new]; rfl
 have hr2 : ∀ W, Below w2.heap.size w2 W → W.heap[w.heap.size + 1]? = some (Obj.cells #[Value.slice none 0 0, Value.nilIface, Value.slice none 0 0] 86) := fun W hW => by
  rw [hW.block _ (by rw [e2]; simp; omega), e2, ← hs1, heap_alloc_new]
 have t2 := h2.below hb; have p0 := t2.at0; have p1 := t2.at1; have HEV := evaluate_any c k (.iface vt vx) Bt w2 hok (FoIn.below hfo hb) (hg.below hb)
 have HQ : Hid (∀ W, Below w2.heap.size w2 W → W.cell? ⟨w.heap.size, 1, none⟩ = some (.slice (some ⟨g, 0, none⟩) 2 cap) ∧ W.cell? ⟨g, 0, none⟩ = some (.iface ta va)) := fun W hW => ⟨(hW.cell (World.block_lt_of_cell? _ _ hq)).trans hq, (t2.below hW).at0⟩
 have HB : Hid (Below w.heap.size w w2) := hb; have HR : Hid (∀ W, Below w2.heap.size w2 W → W.heap[w.heap.size + 1]? = some (Obj.cells #[Value.slice none 0 0, Value.nilIface, Value.slice none 0 0] 86)) := hr2
 have HS : Hid (w2.heap.size = w.heap.size + 2) := by show _ = _; rw [e2]; simp; omega
 obtain ⟨R, eR⟩ : ∃ R, R = evT (c, k) := ⟨_, rfl⟩
 rw [← eR] at HEV ⊢; rw [e1] at e2; clear e1 hb1 hb2 hb hs1 t2 eR hok hfo hg h2 hr2
 go_enter Tryz.func87, Tryz.ntmps87
 have p1' := p1; have hq' := hq; rw [e2] at p1' hq'; go_wp2_with fail; rw [← e2]; clear p1' hq' e2 p0 p1 hq; refine HEV.mono ?_
 cases R with
 | ok v =>
   rintro e w3 ⟨rfl, hb3⟩; obtain ⟨q1, q0⟩ := HQ.out w3 hb3; have HB3 : Hid (Below w2.heap.size w2 w3) := hb3; have HU := unifying_ok ta 48 va (.int .i64 v) w3; clear hb3 HEV; go_wp2_with fail; refine HU.mono ?_; rintro e w4 ⟨g4, rfl, hg4, c0, c1, hb4⟩; have hB4 := Below.on HB3.out hb4; have HX := Box3.of_block (HR.out w4 hB4); have HP : Hid _ := wr3_box HX (.slice (some ⟨g4, 0, none⟩) 1 1) .nilIface (.slice none 0 0); obtain ⟨b0, b1, b2, b3⟩ := HX; have hS := HS.out
   have FIN : Hid (PairE w (.iface ta va) (.iface 48 (.int .i64 v)) (.returned (.tuple #[.agg #[.slice (some ⟨g4, 0, none⟩) 1 1, .nilIface, .slice none 0 0], .nilIface])) (wr3 w4 (w.heap.size + 1) (.slice (some ⟨g4, 0, none⟩) 1 1) .nilIface (.slice none 0 0))) := by
    have hs3 := HB3.out.size; refine ⟨g4, rfl, by omega, (wr3_ne (by show g4 ≠ _; omega)).trans c0, (wr3_ne (by show g4 ≠ _; omega)).trans c1, wr3_below (Below.on HB.out hB4) (Nat.le_succ _)⟩
   clear hg4 c0 c1 hb4 hB4 HU hS
   go_wp2
   obtain ⟨d0, d1, d2, _⟩ := HP.out; exact bodyPost_ret (v := .tuple #[.agg #[.slice (some ⟨g4, 0, none⟩) 1 1, .nilIface, .slice none 0 0], .nilIface]) (by simp [results, Tryz.results87, go_sem, d0, d1, d2]) rfl FIN.out
 | error t =>
   rintro e w3 ⟨⟨tv, rfl, hf3⟩, hb3⟩; obtain ⟨q1, q0⟩ := HQ.out w3 hb3; have HB3 : Hid (Below w2.heap.size w2 w3) := hb3; have HU := unifying_err (.iface ta va) (.iface 48 (.int .i64 0)) (.agg #[tv]) 57 w3; clear hb3 HEV; go_wp2_with fail; refine HU.mono ?_; rintro e w4 ⟨rfl, hb4⟩; have hB4 := Below.on HB3.out hb4; have HX := Box3.of_block (HR.out w4 hB4); have HP : Hid _ := wr3_box HX (.slice none 0 0) .nilIface (.slice none 0 0); obtain ⟨b0, b1, b2, b3⟩ := HX; have hS := HS.out; have hB5 : Below w.heap.size w (wr3 w4 (w.heap.size + 1) (.slice none 0 0) .nilIface (.slice none 0 0)) := wr3_below (Below.on HB.out hB4) (Nat.le_succ _)
   have FIN : Hid (IsO w (.iface ta va) (.error t) (.returned (.tuple #[noEf, .iface 57 (.agg #[tv])])) (wr3 w4 (w.heap.size + 1) (.slice none 0 0) .nilIface (.slice none 0 0))) := by
    refine ⟨tv, rfl, FoIn.imp (by omega) (fun b o hb hl => (wr3_ne (by show b ≠ _; omega)).trans (hb4.cell hl)) (by simpa [wr3] using hb4.size) _ _ hf3, hB5⟩
   clear hb4 hB4 HU hS hf3 hB5
   go_wp2
   obtain ⟨d0, d1, d2, _⟩ := HP.out; exact bodyPost_ret (v := .tuple #[noEf, .iface 57 (.agg #[tv])]) (by simp [results, Tryz.results87, go_sem, d0, d1, d2]) rfl FIN.out
set_option maxHeartbeats 600000 in
theorem valueOrder_any (v : Int) (c : Cel) (k : Fo) (v1 : Value) (Bt g cap on oc : Nat) (op : Option Addr) (fr : Int) (w : World) (hv : (Fo.node (1, v, []) .nil .nil).ok) (hok : (Fo.node c k .nil).ok) (hfo : FoIn w Bt (.node c k .nil) [v1]) (hg : etG w) (h2 : Two w g (.iface 48 (.int .i64 v)) v1) (hev : evT (c, k) = .ok v) (hev0 : evT ((1, v, []), .nil) = .ok v) :
  Calls Tryz.prog 172 #[calV op on oc g cap fr] w fun e w' => e = .returned (.tuple #[.int .i64 0, .nilIface]) ∧ Below w.heap.size w w' := by
 obtain ⟨vt, vx, rfl⟩ := hfo.iface
 obtain ⟨w1, e1⟩ : ∃ w1, w1 = w.alloc (Obj.cells #[.slice op on oc, .slice (some ⟨g, 0, none⟩) 2 cap, .int .i64 fr] 83) := ⟨_, rfl⟩
 have hb : Below w.heap.size w w1 := by rw [e1]; exact (Below.refl _ _).alloc (Nat.le_refl _) _
 have hq : w1.cell? ⟨w.heap.size, 1, none⟩ = some (.slice (some ⟨g, 0, none⟩) 2 cap) := by
  rw [e1, World.cell?, heap_alloc_new]; rfl
 have t2 := h2.below hb; have p0 := t2.at0; have HEV := evaluate_any (1, v, []) .nil (.iface 48 (.int .i64 v)) 0 w1 hv (num_in rfl) (hg.below hb)
 have HEW : Hid (∀ W, Below w1.heap.size w1 W → Calls Tryz.prog 22 #[.iface vt vx] W (ElOut W (.ok v))) := fun W hW => by
  have := evaluate_any c k (.iface vt vx) Bt W hok ((FoIn.below hfo hb).below hW) ((hg.below hb).below hW)
  rwa [hev] at this
 rw [hev0] at HEV
 have HQ : Hid (∀ W, Below w1.heap.size w1 W → W.cell? ⟨w.heap.size, 1, none⟩ = some (.slice (some ⟨g, 0, none⟩) 2 cap) ∧ W.cell? ⟨g, 1, none⟩ = some (.iface vt vx)) := fun W hW => ⟨(hW.cell (World.block_lt_of_cell? _ _ hq)).trans hq, (t2.below hW).at1⟩
 have HB : Hid (Below w.heap.size w w1) := hb; clear hb t2 hok hfo hg h2 hv hev hev0
 go_enter Tryz.func172, Tryz.ntmps172
 have p1' := p0; have hq' := hq; rw [e1] at p1' hq'; go_wp2_with fail; rw [← e1]; clear p1' hq' e1 p0 hq; refine HEV.mono ?_; rintro e w3 ⟨rfl, hb3⟩; obtain ⟨q1, q0⟩ := HQ.out w3 hb3; have HB3 : Hid (Below w1.heap.size w1 w3) := hb3; have HE3 := HEW.out w3 hb3; clear hb3 HEV HEW HQ; go_wp2_with fail; refine HE3.mono ?_; rintro e w4 ⟨rfl, hb4⟩; have HB4 : Hid (Below w.heap.size w w4) := Below.on HB.out (Below.on HB3.out hb4); clear hb4 HE3 q1 q0; go_wp2_with fail; refine (compareS_any v w4).mono ?_; rintro e w5 ⟨rfl, rfl⟩; go_wp2_with fail
 go_ret2
 exact ⟨rfl, HB4.out⟩
set_option maxHeartbeats 600000 in
theorem isEqual_any (a : Addr) (v : Int) (c : Cel) (k : Fo) (v1 : Value) (Bt g cap on oc : Nat) (op : Option Addr) (fr : Int) (w : World) (hv : (Fo.node (1, v, []) .nil .nil).ok) (hok : (Fo.node c k .nil).ok) (hfo : FoIn w Bt (.node c k .nil) [v1]) (hg : etG w) (hga : w.cell? ⟨2, 0, none⟩ = some (erV a)) (h2 : Two w g (.iface 48 (.int .i64 v)) v1) (hev : evT (c, k) = .ok v) (hev0 : evT ((1, v, []), .nil) = .ok v) :
  Calls Tryz.prog 88 #[calV op on oc g cap fr] w fun e w' => e = .returned (.tuple #[noEf, .nilIface]) ∧ Below w.heap.size w w' := by
 obtain ⟨w1, e1⟩ : ∃ w1, w1 = w.alloc (Obj.cells #[.slice op on oc, .slice (some ⟨g, 0, none⟩) 2 cap, .int .i64 fr] 83) := ⟨_, rfl⟩
 obtain ⟨w2, e2⟩ : ∃ w2, w2 = w1.alloc (Obj.cells #[Value.slice none 0 0, Value.nilIface, Value.slice none 0 0] 86) := ⟨_, rfl⟩
 have hb1 : Below w.heap.size w w1 := by rw [e1]; exact (Below.refl _ _).alloc (Nat.le_refl _) _
 have hb2 : Below w1.heap.size w1 w2 := by rw [e2]; exact (Below.refl _ _).alloc (Nat.le_refl _) _
 have hb : Below w.heap.size w w2 := Below.on hb1 hb2
 have hs1 : w1.heap.size = w.heap.size + 1 := by rw [e1]; simp
 have hq : ∀ i u, (#[.slice op on oc, .slice (some ⟨g, 0, none⟩) 2 cap, .int .i64 fr] : Array Value)[i]? = some u → w2.cell? ⟨w.heap.size, i, none⟩ = some u := fun i u hu => by
  rw [hb2.cell (p := ⟨w.heap.size, i, none⟩) (by show w.heap.size < _; omega), e1, World.cell?, heap_alloc_new]; simpa using hu
 have HR : Hid (∀ W, Below w2.heap.size w2 W → W.heap[w.heap.size + 1]? = some (Obj.cells #[Value.slice none 0 0, Value.nilIface, Value.slice none 0 0] 86)) := fun W hW => by
  rw [hW.block _ (by rw [e2]; simp; omega), e2, ← hs1, heap_alloc_new]
 have HVO := valueOrder_any v c k v1 Bt g cap on oc op fr w2 hv hok (FoIn.below hfo hb) (hg.below hb) (h2.below hb) hev hev0
 have HG : Hid (∀ W, Below w2.heap.size w2 W → W.cell? ⟨2, 0, none⟩ = some (erV a)) := fun W hW => by
  have h3 := (hb.cell (World.block_lt_of_cell? _ _ hga)).trans hga; exact (hW.cell (World.block_lt_of_cell? _ _ h3)).trans h3
 have HB : Hid (Below w.heap.size w w2) := hb; rw [e1] at e2; have q0 := hq 0 _ rfl; have q1 := hq 1 _ rfl; have q2 := hq 2 _ rfl; rw [e2] at q0 q1 q2; clear e1 hb1 hb2 hb hs1 hok hfo hg h2 hga hq hv hev hev0
 go_enter Tryz.func88, Tryz.ntmps88
 go_wp2_with fail; rw [← e2]; clear q0 q1 q2 e2; refine HVO.mono ?_; rintro e w3 ⟨rfl, hb3⟩; have HB3 : Hid (Below w2.heap.size w2 w3) := hb3; have HU := holds_yes w3; clear hb3 HVO; go_wp2_with fail; refine HU.mono ?_; rintro e w4 ⟨rfl, hb4⟩; have hB4 := Below.on HB3.out hb4; have HX := Box3.of_block (HR.out w4 hB4); have HP : Hid _ := wr3_box HX (.slice none 0 0) .nilIface (.slice none 0 0); obtain ⟨b0, b1, b2, b3⟩ := HX; have FIN : Hid (Below w.heap.size w (wr3 w4 (w.heap.size + 1) (.slice none 0 0) .nilIface (.slice none 0 0))) := wr3_below (Below.on HB.out hB4) (Nat.le_succ _); clear hb4 hB4 HU
 go_wp2
 obtain ⟨d0, d1, d2, _⟩ := HP.out; exact bodyPost_ret (v := .tuple #[noEf, .nilIface]) (by simp [results, Tryz.results88, go_sem, d0, d1, d2]) rfl ⟨rfl, FIN.out⟩
set_option maxHeartbeats 600000 in
theorem isLess_any (a : Addr) (v : Int) (c : Cel) (k : Fo) (v1 : Value) (Bt g cap on oc : Nat) (op : Option Addr) (fr : Int) (w : World) (hv : (Fo.node (1, v, []) .nil .nil).ok) (hok : (Fo.node c k .nil).ok) (hfo : FoIn w Bt (.node c k .nil) [v1]) (hg : etG w) (hga : w.cell? ⟨2, 0, none⟩ = some (erV a)) (h2 : Two w g (.iface 48 (.int .i64 v)) v1) (hev : evT (c, k) = .ok v) (hev0 : evT ((1, v, []), .nil) = .ok v) :
  Calls Tryz.prog 90 #[calV op on oc g cap fr] w fun e w' => e = .returned (.tuple #[noEf, erV a]) ∧ Below w.heap.size w w' := by
 obtain ⟨w1, e1⟩ : ∃ w1, w1 = w.alloc (Obj.cells #[.slice op on oc, .slice (some ⟨g, 0, none⟩) 2 cap, .int .i64 fr] 83) := ⟨_, rfl⟩
 obtain ⟨w2, e2⟩ : ∃ w2, w2 = w1.alloc (Obj.cells #[Value.slice none 0 0, Value.nilIface, Value.slice none 0 0] 86) := ⟨_, rfl⟩
 have hb1 : Below w.heap.size w w1 := by rw [e1]; exact (Below.refl _ _).alloc (Nat.le_refl _) _
 have hb2 : Below w1.heap.size w1 w2 := by rw [e2]; exact (Below.refl _ _).alloc (Nat.le_refl _) _
 have hb : Below w.heap.size w w2 := Below.on hb1 hb2
 have hs1 : w1.heap.size = w.heap.size + 1 := by rw [e1]; simp
 have hq : ∀ i u, (#[.slice op on oc, .slice (some ⟨g, 0, none⟩) 2 cap, .int .i64 fr] : Array Value)[i]? = some u → w2.cell? ⟨w.heap.size, i, none⟩ = some u := fun i u hu => by
  rw [hb2.cell (p := ⟨w.heap.size, i, none⟩) (by show w.heap.size < _; omega), e1, World.cell?, heap_alloc_new]; simpa using hu
 have HR : Hid (∀ W, Below w2.heap.size w2 W → W.heap[w.heap.size + 1]? = some (Obj.cells #[Value.slice none 0 0, Value.nilIface, Value.slice none 0 0] 86)) := fun W hW => by
  rw [hW.block _ (by rw [e2]; simp; omega), e2, ← hs1, heap_alloc_new]
 have HVO := valueOrder_any v c k v1 Bt g cap on oc op fr w2 hv hok (FoIn.below hfo hb) (hg.below hb) (h2.below hb) hev hev0
 have HG : Hid (∀ W, Below w2.heap.size w2 W → W.cell? ⟨2, 0, none⟩ = some (erV a)) := fun W hW => by
  have h3 := (hb.cell (World.block_lt_of_cell? _ _ hga)).trans hga; exact (hW.cell (World.block_lt_of_cell? _ _ h3)).trans h3
 have HB : Hid (Below w.heap.size w w2) := hb; rw [e1] at e2; have q0 := hq 0 _ rfl; have q1 := hq 1 _ rfl; have q2 := hq 2 _ rfl; rw [e2] at q0 q1 q2; clear e1 hb1 hb2 hb hs1 hok hfo hg h2 hga hq hv hev hev0
 go_enter Tryz.func90, Tryz.ntmps90
 go_wp2_with fail; rw [← e2]; clear q0 q1 q2 e2; refine HVO.mono ?_; rintro e w3 ⟨rfl, hb3⟩; have HB3 : Hid (Below w2.heap.size w2 w3) := hb3; have HU := holds_no a w3 (HG.out w3 hb3); clear hb3 HVO; go_wp2_with fail; refine HU.mono ?_; rintro e w4 ⟨rfl, hb4⟩; have hB4 := Below.on HB3.out hb4; have HX := Box3.of_block (HR.out w4 hB4); have HP : Hid _ := wr3_box HX (.slice none 0 0) .nilIface (.slice none 0 0); obtain ⟨b0, b1, b2, b3⟩ := HX; have FIN : Hid (Below w.heap.size w (wr3 w4 (w.heap.size + 1) (.slice none 0 0) .nilIface (.slice none 0 0))) := wr3_below (Below.on HB.out hB4) (Nat.le_succ _); clear hb4 hB4 HU
 go_wp2
 obtain ⟨d0, d1, d2, _⟩ := HP.out; exact bodyPost_ret (v := .tuple #[noEf, erV a]) (by simp [results, Tryz.results90, go_sem, d0, d1, d2]) rfl ⟨rfl, FIN.out⟩
end
end Go.Proofs.YtkklidpnkofipaaGreatDoor
