/- Texts of CeC, ClW, ClX, ClY, ClZ. Own work of the verifier. -/
import Derived.Test.YtickbkcpcgmlmaaGreatDoorUqap
import Derived.Test.YtickbkcpcgmlmaaGreatDoorUqam
import Derived.Test.YtickbkcpcgmlmaaGreatDoorUqas
namespace Go.Proofs.YtickbkcpcgmlmaaGreatDoor
set_option linter.unusedVariables false
set_option maxRecDepth 100000
section
open Go Go.RowKit Go.Maps
set_option linter.unusedSimpArgs false
theorem OwnT.box {w : World} {B b : Nat} {p : Option Addr} {n c : Nat} {ys : List Int} (h : OwnT w B p n c ys) (hb : b < B) (o : Nat) (v : Value) : OwnT (w.setCell ⟨b, o, none⟩ v) B p n c ys := h.other (by simp) fun g h0 e => Below.heap_setCell _ _ _ _ (show g ≠ b by
 obtain ⟨g', e', hB, _⟩ := h.2 h0
 rw [e] at e'; cases e'
 omega)
theorem OwnC.one {w : World} {B : Nat} {p : Option Addr} {n cp : Nat} {c : Cel} (h : OwnC w B p n cp [c]) : n = 1 ∧ ∃ g tp tc, p = some ⟨g, 0, none⟩ ∧ 1 ≤ cp ∧ w.cell? ⟨g, 0, none⟩ = some (.int .i64 c.1) ∧ w.cell? ⟨g, 1, none⟩ = some (.int .i64 c.2.1) ∧ w.cell? ⟨g, 2, none⟩ = some (.slice tp c.2.2.length tc) ∧ OwnT w B tp c.2.2.length tc c.2.2 := by
 obtain ⟨hn, rs, hl, hr, hf, ha⟩ := h; obtain rfl : n = 1 := hn
 match rs, hl with
 | [r], _ =>
   obtain ⟨f0, f1, f2⟩ := hf 0 (by simp); simp only [List.getD_cons_zero] at f0 f1 f2; have hle := hr.1; obtain ⟨g, cap, hv, hb, hg⟩ := hr.form (by omega); simp only [Value.slice.injEq, true_and] at hv; obtain ⟨rfl, rfl⟩ := hv
   have hfl : flat [r] = rcV r := by simp [flat]
   have h2 := hr.2; refine ⟨rfl, g, r.2.2.1, r.2.2.2.2, rfl, ?_, ?_, ?_, ?_, ?_⟩
   ·rcases h2 with ⟨hv, _⟩ | ⟨g', cap', cur, hv, _, _, _, hle', _⟩
    ·simp at hv
    ·simp only [Value.slice.injEq, true_and] at hv
     omega
   ·rw [hr.cellAt 0 (by omega), hfl, ← f0]; rfl
   ·rw [hr.cellAt 1 (by omega), hfl, ← f1]; rfl
   ·rw [hr.cellAt 2 (by omega), hfl, ← f2.1]; rfl
   ·have := f2.1
    rw [this] at f2; exact f2
def FsO (w : World) (c : Cel) (e : Ending) (w' : World) : Prop := ∃ tp tc, e = .returned (celV c tp tc) ∧ OwnT w' w.heap.size tp c.2.2.length tc c.2.2 ∧ Below w.heap.size w w'
set_option maxHeartbeats 1000000 in
theorem firstL_any (c : Cel) (ty : TypeId) (x : Value) (w : World) (hty : ty = 94 ∨ ty = 149 ∨ ty = 143) (hok : (Fo.node c .nil .nil).ok) (hfo : FoIn w 0 (.node c .nil .nil) [.iface ty x]) :
  Calls Tryz.prog 109 #[.iface ty x] w (FsO w c) := by
 obtain ⟨W, eW⟩ : ∃ W, W = w.alloc (.cells #[.int .i64 0, .int .i64 0, .slice none 0 0] 52) := ⟨_, rfl⟩
 have hW : Below w.heap.size w W := by rw [eW]; exact new_lowK w _
 have hsz : W.heap.size = w.heap.size + 1 := by rw [eW]; simp
 have HC := cellsOf_any c .nil (.iface ty x) 0 W hok (hfo.below hW) (by simp [Fo.cells])
 have HF : Hid (∀ W2 p n cp, OwnC W2 W.heap.size p n cp (c :: Fo.nil.cells) → Below W.heap.size W W2 → n = 1 ∧ ∃ g tp tc, p = some ⟨g, 0, none⟩ ∧ 1 ≤ cp ∧ (W2.cell? ⟨g, 0, none⟩ = some (.int .i64 c.1) ∧ W2.cell? ⟨g, 1, none⟩ = some (.int .i64 c.2.1) ∧ W2.cell? ⟨g, 2, none⟩ = some (.slice tp c.2.2.length tc)) ∧
   Box3 W2 w.heap.size (.int .i64 0) (.int .i64 0) (.slice none 0 0) ∧ FsO w c (.returned (celV c tp tc)) (((W2.setCell ⟨w.heap.size, 0, none⟩ (.int .i64 c.1)).setCell ⟨w.heap.size, 1, none⟩ (.int .i64 c.2.1)).setCell ⟨w.heap.size, 2, none⟩ (.slice tp c.2.2.length tc))) := fun W2 p n cp ho hb => by
  obtain ⟨hn, g, tp, tc, hp, hcp, h0, h1, h2, ht⟩ := OwnC.one ho; refine ⟨hn, g, tp, tc, hp, hcp, ⟨h0, h1, h2⟩, Box3.of_block (t := 52) ((hb.block _ (by omega)).trans (by rw [eW]; exact heap_alloc_new w _)), tp, tc, rfl, ?_, ?_⟩
  ·exact (((ht.box (b := w.heap.size) (by omega) _ _).box (b := w.heap.size) (by omega) _ _).box (b := w.heap.size) (by omega) _ _).mono (by omega)
  ·exact (((Below.on hW hb).setCell (p := ⟨w.heap.size, 0, none⟩) (Nat.le_refl _) _).setCell (p := ⟨w.heap.size, 1, none⟩) (Nat.le_refl _) _).setCell (p := ⟨w.heap.size, 2, none⟩) (Nat.le_refl _) _
 have HW : Hid (W = w.alloc (.cells #[.int .i64 0, .int .i64 0, .slice none 0 0] 52)) := eW; obtain ⟨c1, c2, ct⟩ := c; simp only at HF
 obtain ⟨m, em⟩ : ∃ m, m = ct.length := ⟨_, rfl⟩
 have HCL : Hid (celV (c1, c2, ct) = fun tp tc => .agg #[.int .i64 c1, .int .i64 c2, .slice tp m tc]) := by show _ = _; rw [em]
 rw [HCL.out, ← em] at HF; rw [eW] at HC; clear hok hfo hW eW hsz em; have n1 := nbA_var_comp; have n2 := nbA_num_comp; have n3 := nbA_atom_comp
 rcases hty with rfl | rfl | rfl
 all_goals
  go_enter Tryz.func109, Tryz.ntmps109
  go_wp2_with fail; refine HC.mono ?_; rintro e W2 ⟨p, n, cp, rfl, hown, hb2⟩; obtain ⟨rfl, g, tp, tc, rfl, hcp, ⟨d0, d1, d2⟩, ⟨x0, x1, x2, x3⟩, hfin⟩ := HF.out W2 p n cp (by rw [HW.out]; exact hown) (by rw [HW.out]; exact hb2); have HFI : Hid _ := hfin; have HD : Hid _ := box3_set x0 x1 x2 (.int .i64 c1) (.int .i64 c2) (.slice tp m tc); clear HC hown hb2 hfin HF HW HCL; go_wp2_with fail; obtain ⟨e0, e1, e2⟩ := HD.out; exact bodyPost_ret (v := .agg #[.int .i64 c1, .int .i64 c2, .slice tp m tc]) (by simp [results, Tryz.results109, go_sem, e0, e1, e2]) rfl HFI.out
set_option maxHeartbeats 2000000 in
theorem firstC_any (b g q : Nat) (nm : List Int) (w : World) (hby : Byte nm) (c0 : w.cell? ⟨b, 0, none⟩ = some (.string (strOfNums nm))) (c1 : w.cell? ⟨b, 1, none⟩ = some (.slice (some ⟨g, 0, none⟩) q q)) (hq : q ≤ 100000) :
  Calls Tryz.prog 109 #[.iface 156 (ptrK b)] w (FsO w (3, (q : Int), nm)) := by
 obtain ⟨W, eW⟩ : ∃ W, W = (w.alloc (.cells #[.int .i64 0, .int .i64 0, .slice none 0 0] 52)).drew := ⟨_, rfl⟩
 have hW : Below w.heap.size w W := by rw [eW]; exact below_drewK (new_lowK w _)
 have hsz : W.heap.size = w.heap.size + 1 := by rw [eW]; simp [World.drew]
 obtain ⟨W1, cap, hcv, hb1, hot⟩ := conv_bytes W nm hby 9 Tryz.underlying9; obtain ⟨x0, x1, x2, x3⟩ : Box3 W1 w.heap.size (.int .i64 0) (.int .i64 0) (.slice none 0 0) := Box3.of_block (t := 52) ((hb1.block _ (by omega)).trans (by rw [eW]; exact heap_alloc_new w _))
 have hbk : b ≠ w.heap.size := by have := World.block_lt_of_cell? _ _ c0; simp only at this; omega
 have hbl : w.heap.size < W1.heap.size := World.block_lt_of_cell? _ _ x0; have hcv' := hcv
 obtain ⟨str, es⟩ : ∃ str, str = strOfNums nm := ⟨_, rfl⟩
 rw [← es] at c0 hcv'; have d0 := (hW.cell (World.block_lt_of_cell? _ _ c0)).trans c0; have d1 := (hW.cell (World.block_lt_of_cell? _ _ c1)).trans c1; have e0 := (hb1.cell (World.block_lt_of_cell? _ _ d0)).trans d0; have e1 := (hb1.cell (World.block_lt_of_cell? _ _ d1)).trans d1
 obtain ⟨m, em⟩ : ∃ m, m = nm.length := ⟨_, rfl⟩
 obtain ⟨a, ea⟩ : ∃ a, a = W.heap.size := ⟨_, rfl⟩
 have HFI : Hid (FsO w (3, (q : Int), nm) (.returned (.agg #[.int .i64 3, .int .i64 q, .slice (some ⟨a, 0, none⟩) m cap])) (((W1.setCell ⟨w.heap.size, 0, none⟩ (.int .i64 3)).setCell ⟨w.heap.size, 1, none⟩ (.int .i64 q)).setCell ⟨w.heap.size, 2, none⟩ (.slice (some ⟨a, 0, none⟩) m cap))) := by
  refine ⟨some ⟨a, 0, none⟩, cap, by rw [em], ?_, ?_⟩
  ·rw [ea]
   exact (((hot.box (b := w.heap.size) (by omega) _ _).box (b := w.heap.size) (by omega) _ _).box (b := w.heap.size) (by omega) _ _).mono (by omega)
  ·exact (((Below.on hW hb1).setCell (p := ⟨w.heap.size, 0, none⟩) (Nat.le_refl _) _).setCell (p := ⟨w.heap.size, 1, none⟩) (Nat.le_refl _) _).setCell (p := ⟨w.heap.size, 2, none⟩) (Nat.le_refl _) _
 have HD : Hid _ := box3_set x0 x1 x2 (.int .i64 3) (.int .i64 q) (.slice (some ⟨a, 0, none⟩) m cap); rw [← em, ← ea] at hcv'; have HW : Hid (W = (w.alloc (.cells #[.int .i64 0, .int .i64 0, .slice none 0 0] 52)).drew) := eW
 obtain ⟨k, ek⟩ : ∃ k, k = w.heap.size := ⟨_, rfl⟩
 have HK : Hid (k = w.heap.size) := ek; rw [← ek] at x0 x1 x2 x3 hbl HFI HD hbk; clear hW hsz hcv hb1 hot eW es em ea ek hby; have n1 := nbA_comp_comp
 go_enter Tryz.func109, Tryz.ntmps109
 go_wp2_with fail; refine wp_region_held_drew (S := fun W => W.cell? ⟨b, 0, none⟩ = some (.string str) ∧ W.cell? ⟨b, 1, none⟩ = some (.slice (some ⟨g, 0, none⟩) q q)) (by kernel_rfl) ?_ (fun hHeld => ?_)
 ·change (w.alloc (.cells #[.int .i64 0, .int .i64 0, .slice none 0 0] 52)).drew.cell? _ = _ ∧ (w.alloc (.cells #[.int .i64 0, .int .i64 0, .slice none 0 0] 52)).drew.cell? _ = _
  rw [← HW.out]; exact ⟨d0, d1⟩
 change wpAnyH _ _ _ _ _ _ _ _ (w.alloc (.cells #[.int .i64 0, .int .i64 0, .slice none 0 0] 52)).drew
 rw [← HW.out, ← HK.out]
 have hS0 : W.cell? ⟨b, 0, none⟩ = some (.string str) ∧ W.cell? ⟨b, 1, none⟩ = some (.slice (some ⟨g, 0, none⟩) q q) := ⟨d0, d1⟩
 clear hHeld HW HK c0 c1 d0 d1; refine hTk (i := 0) (v := ptrK b) (some 11) (fun o ho W hSw => ?y0) (by assumption) ?_
 case y0 => cases ho; simp [execOp, go_sem, Act.eval]
 simp only [Act.put, zzA, zzB, zzC]; refine hTk (i := 1) (v := ptrK b) (some 12) (fun o ho W hSw => ?y1) (by assumption) ?_
 case y1 => cases ho; simp [execOp, go_sem, Act.eval]
 simp only [Act.put, zzA, zzB, zzC]; refine hTk (i := 2) (v := .pointer (some ⟨b, 1, none⟩)) (some 13) (fun o ho W hSw => ?y2) (by assumption) ?_
 case y2 => cases ho; simp [execOp, go_sem, Act.eval]
 simp only [Act.put, zzA, zzB, zzC]; refine hTk (i := 3) (v := .slice (some ⟨g, 0, none⟩) q q) (some 14) (fun o ho W hSw => ?y3) (by assumption) ?_
 case y3 => cases ho; obtain ⟨s1, s2⟩ := hSw; simp [execOp, go_sem, Act.eval, s2]
 simp only [Act.put, zzA, zzB, zzC]; refine hTk (i := 4) (v := .int .i64 q) (some 15) (fun o ho W hSw => ?y4) (by assumption) ?_
 case y4 => cases ho; simp [execOp, go_sem, Act.eval, resolve, invoke, builtin]
 simp only [Act.put, zzA, zzB, zzC]; refine hTk (i := 5) (v := ptrK b) (some 16) (fun o ho W hSw => ?y5) (by assumption) ?_
 case y5 => cases ho; simp [execOp, go_sem, Act.eval]
 simp only [Act.put, zzA, zzB, zzC]; refine hTk (i := 6) (v := ptrK b) (some 17) (fun o ho W hSw => ?y6) (by assumption) ?_
 case y6 => cases ho; simp [execOp, go_sem, Act.eval]
 simp only [Act.put, zzA, zzB, zzC]; refine hTk (i := 7) (v := .pointer (some ⟨b, 0, none⟩)) (some 18) (fun o ho W hSw => ?y7) (by assumption) ?_
 case y7 => cases ho; simp [execOp, go_sem, Act.eval]
 simp only [Act.put, zzA, zzB, zzC]; refine hTk (i := 8) (v := .string str) (some 19) (fun o ho W hSw => ?y8) (by assumption) ?_
 case y8 => cases ho; obtain ⟨s1, s2⟩ := hSw; simp [execOp, go_sem, Act.eval, s1]
 simp only [Act.put, zzA, zzB, zzC]; refine hStep (i := 9) (v := .slice (some ⟨a, 0, none⟩) m cap) (w' := W1) (some 20) (by kernel_rfl) (by kernel_rfl) (by kernel_rfl) (fun o ho => ?y9) ⟨e0, e1⟩ ?_
 case y9 => cases ho; simp [execOp, go_sem, Act.eval, hcv']
 simp only [Act.put, zzA, zzB, zzC]
 have hS1 : W1.cell? ⟨b, 0, none⟩ = some (.string str) ∧ W1.cell? ⟨b, 1, none⟩ = some (.slice (some ⟨g, 0, none⟩) q q) := ⟨e0, e1⟩
 clear hS0; refine hTk (i := 10) (v := .agg #[.int .i64 3, .int .i64 q, .slice (some ⟨a, 0, none⟩) m cap]) (some 21) (fun o ho W hSw => ?y10) (by assumption) ?_
 case y10 => cases ho; simp [execOp, go_sem, Act.eval]
 simp only [Act.put, zzA, zzB, zzC]; refine hStore (i := 11) (w' := ((W1.setCell ⟨k, 0, none⟩ (.int .i64 3)).setCell ⟨k, 1, none⟩ (.int .i64 q)).setCell ⟨k, 2, none⟩ (.slice (some ⟨a, 0, none⟩) m cap)) (by kernel_rfl) (by kernel_rfl) (by kernel_rfl) (fun o ho => ?ys) ?st ?_
 case ys => cases ho; simp [execOp, go_sem, Act.eval, x0, x1, x2, x3, hbl]
 case st => exact ⟨cell_other (cell_other (cell_other e0 (fun e => hbk e.1)) (fun e => hbk e.1)) (fun e => hbk e.1), cell_other (cell_other (cell_other e1 (fun e => hbk e.1)) (fun e => hbk e.1)) (fun e => hbk e.1)⟩
 refine wpAnyH_done (by kernel_rfl) ?_ _; obtain ⟨y0, y1, y2⟩ := HD.out; go_wp2_with fail; exact bodyPost_ret (v := .agg #[.int .i64 3, .int .i64 q, .slice (some ⟨a, 0, none⟩) m cap]) (by simp [results, Tryz.results109, go_sem, y0, y1, y2]) rfl HFI.out
theorem firstCell_any (t : Tr) (v : Value) (w : World) (hok : t.fo.ok) (hfo : FoIn w 0 t.fo [v]) : Calls Tryz.prog 109 #[v] w (FsO w t.1) := by
 obtain ⟨c, k⟩ := t; have hfo' := hfo; obtain ⟨v', vr, e, hn, _⟩ := hfo; obtain ⟨rfl, rfl⟩ := List.cons.inj e
 have hnil : c.1 ≠ 3 → k = .nil := fun h => hok.2.2.2.1 h
 rcases hn with ⟨h1, h2⟩ | ⟨h1, h2⟩ | ⟨h1, h2⟩ | ⟨h1, b, g, vs, h2, _, _, c0, c1, hg, cg, hk⟩
 ·obtain rfl := hnil (by rw [h1]; decide)
  subst h2; exact firstL_any c _ _ w (.inl rfl) hok hfo'
 ·obtain rfl := hnil (by rw [h1]; decide)
  subst h2; exact firstL_any c _ _ w (.inr (.inl rfl)) hok hfo'
 ·obtain rfl := hnil (by rw [h1]; decide)
  subst h2; exact firstL_any c _ _ w (.inr (.inr rfl)) hok hfo'
 ·subst h2
  have h3 := FoIn.count _ _ hk; have h4 := hok.2.2.1 h1; have h5 := cellB_comp (h1 ▸ hok.1)
  have e1 : c = (3, (vs.length : Int), c.2.2) := by
   obtain ⟨x1, x2, x3⟩ := c; simp only at h1 h4; rw [h1, h4, h3]
  rw [e1]; exact firstC_any b g vs.length c.2.2 w hok.2.1 c0 c1 (by omega)
end
section
open Go Go.RowKit
structure MS (w : World) (B b3 b4 b5 : Nat) (q : Int) (P : List Int × List Int) (p p' : Option Addr) (n c c' : Nat) : Prop where
 c3 : w.cell? ⟨b3, 0, none⟩ = some (.slice p n c)
 c4 : w.cell? ⟨b4, 0, none⟩ = some (.slice p' n c')
 c5 : w.cell? ⟨b5, 0, none⟩ = some (.int .i64 q)
 f3 : w.frozen? ⟨b3, 0, none⟩ = false
 f4 : w.frozen? ⟨b4, 0, none⟩ = false
 f5 : w.frozen? ⟨b5, 0, none⟩ = false
 l1 : n = P.1.length
 l2 : P.2.length = P.1.length
 r1 : w.ownsRow B 3 1 (.slice p n c) n (P.1.map (Value.int .i64))
 r2 : w.ownsRow B 3 1 (.slice p' n c') n (P.2.map (Value.int .i64))
 ne : ∀ k, Value.ownBlock (.slice p n c) = some k → k ≠ b3 ∧ k ≠ b4 ∧ k ≠ b5 ∧ Value.ownBlock (.slice p' n c') ≠ some k
 ne' : ∀ k, Value.ownBlock (.slice p' n c') = some k → k ≠ b3 ∧ k ≠ b4 ∧ k ≠ b5
 bB : B ≤ b3 ∧ B ≤ b4 ∧ B ≤ b5 ∧ b3 ≠ b4 ∧ b3 ≠ b5 ∧ b4 ≠ b5
 lt : b3 < w.heap.size ∧ b4 < w.heap.size ∧ b5 < w.heap.size
theorem MS.of {w w' : World} {B b3 b4 b5 : Nat} {q : Int} {P : List Int × List Int} {p p' : Option Addr} {n c c' : Nat} (h : MS w B b3 b4 b5 q P p p' n c c') (hs : w.heap.size ≤ w'.heap.size) (hb : ∀ k, B ≤ k → k < w.heap.size → w'.heap[k]? = w.heap[k]?) : MS w' B b3 b4 b5 q P p p' n c c' := by
 have cl : ∀ b, B ≤ b → b < w.heap.size → w'.cell? ⟨b, 0, none⟩ = w.cell? ⟨b, 0, none⟩ ∧ w'.frozen? ⟨b, 0, none⟩ = w.frozen? ⟨b, 0, none⟩ := fun b h1 h2 => ⟨World.cell?_of_block (hb b h1 h2), World.frozen?_of_block (hb b h1 h2)⟩
 have rw' : ∀ (v : Value) (m : Nat) (xs : List Value), w.ownsRow B 3 1 v m xs → w'.ownsRow B 3 1 v m xs := fun v m xs hr => by
  refine ⟨hr.1, ?_⟩
  rcases hr.2 with h0 | ⟨g, cap, cur, hv, hg, hh, r⟩
  ·exact .inl h0
  ·exact .inr ⟨g, cap, cur, hv, hg, by rw [hb g hg (Array.getElem?_eq_some_iff.1 hh).1]; exact hh, r⟩
 obtain ⟨x1, x2, x3⟩ := h.lt; obtain ⟨y1, y2, y3, _⟩ := h.bB; exact ⟨(cl b3 y1 x1).1.trans h.c3, (cl b4 y2 x2).1.trans h.c4, (cl b5 y3 x3).1.trans h.c5, (cl b3 y1 x1).2.trans h.f3, (cl b4 y2 x2).2.trans h.f4, (cl b5 y3 x3).2.trans h.f5, h.l1, h.l2, rw' _ _ _ h.r1, rw' _ _ _ h.r2, h.ne, h.ne', h.bB, by omega⟩
theorem MS.below {w w' : World} {B b3 b4 b5 : Nat} {q : Int} {P : List Int × List Int} {p p' : Option Addr} {n c c' : Nat} (h : MS w B b3 b4 b5 q P p p' n c c') (hb : Below w.heap.size w w') : MS w' B b3 b4 b5 q P p p' n c c' := h.of hb.size (fun k _ h2 => hb.block k h2)
theorem MS.drew {w : World} {B b3 b4 b5 : Nat} {q : Int} {P : List Int × List Int} {p p' : Option Addr} {n c c' : Nat} (h : MS w B b3 b4 b5 q P p p' n c c') : MS w.drew B b3 b4 b5 q P p p' n c c' := h.of (Nat.le_refl _) (fun _ _ _ => rfl)
theorem clsOther_any (t : TypeId) (x : Value) (b3 b4 b5 : Nat) (w : World) (ht : t = 149 ∨ t = 143 ∨ t = 156) :
  Calls Tryz.prog 219 #[.iface t x, .pointer (some ⟨b3, 0, none⟩), .pointer (some ⟨b4, 0, none⟩), .pointer (some ⟨b5, 0, none⟩)] w fun e w' => e = .returned (.tuple #[]) ∧ w' = w := by
 have n1 : ∀ W, (Instr.typeAssert (.iface 149 x) 56 94 true).run Tryz.prog W = .ok (.tuple #[.int .i64 0, .bool false]) W := fun W => by kernel_rfl
 have n2 : ∀ W, (Instr.typeAssert (.iface 143 x) 56 94 true).run Tryz.prog W = .ok (.tuple #[.int .i64 0, .bool false]) W := fun W => by kernel_rfl
 have n3 : ∀ W, (Instr.typeAssert (.iface 156 x) 56 94 true).run Tryz.prog W = .ok (.tuple #[.int .i64 0, .bool false]) W := fun W => by kernel_rfl
 rcases ht with rfl | rfl | rfl
 all_goals
  go_enter Tryz.func219, Tryz.ntmps219
  go_wp2_with fail; exact bodyPost_end (v := .tuple #[]) (by simp [results, Tryz.results219, go_sem]) rfl ⟨rfl, rfl⟩
theorem oneI (x : Int) : ∀ u ∈ [Value.int .i64 x], u.oneCell' = true := fun u hu => by simp at hu; rw [hu]; rfl
theorem map_set (l : List Int) (i : Nat) (x : Int) : (l.map (Value.int .i64)).set i (.int .i64 x) = (l.set i x).map (Value.int .i64) := by simp
theorem ms_push {w W : World} {B b3 b4 b5 : Nat} {q : Int} {P : List Int × List Int} {p p' : Option Addr} {n c c' : Nat} (h : MS w B b3 b4 b5 q P p p' n c c') {g1 g2 cap1 cap2 : Nat}
  (r1 : W.ownsRow B 3 1 (.slice (some ⟨g1, 0, none⟩) (n + 1) cap1) (n + 1) (P.1.map (Value.int .i64) ++ [.int .i64 0])) (r2 : W.ownsRow B 3 1 (.slice (some ⟨g2, 0, none⟩) (n + 1) cap2) (n + 1) (P.2.map (Value.int .i64) ++ [.int .i64 q]))
  (hs : w.heap.size ≤ W.heap.size) (hc : ∀ b, b = b3 ∨ b = b4 ∨ b = b5 → W.heap[b]? = w.heap[b]?)
  (n1 : Value.ownBlock (.slice p n c) = some g1 ∨ w.heap.size ≤ g1) (n2 : Value.ownBlock (.slice p' n c') = some g2 ∨ w.heap.size ≤ g2) (n12 : g1 ≠ g2) :
  MS ((W.setCell ⟨b3, 0, none⟩ (.slice (some ⟨g1, 0, none⟩) (n + 1) cap1)).setCell ⟨b4, 0, none⟩ (.slice (some ⟨g2, 0, none⟩) (n + 1) cap2)) B b3 b4 b5 q (P.1 ++ [0], P.2 ++ [q]) (some ⟨g1, 0, none⟩) (some ⟨g2, 0, none⟩) (n + 1) cap1 cap2 := by
 obtain ⟨y1, y2, y3, z1, z2, z3⟩ := h.bB; obtain ⟨x1, x2, x3⟩ := h.lt
 have g1n : g1 ≠ b3 ∧ g1 ≠ b4 ∧ g1 ≠ b5 := by
  rcases n1 with e | e
  ·have := h.ne g1 e; exact ⟨this.1, this.2.1, this.2.2.1⟩
  ·omega
 have g2n : g2 ≠ b3 ∧ g2 ≠ b4 ∧ g2 ≠ b5 := by
  rcases n2 with e | e
  ·exact h.ne' g2 e
  ·omega
 have cW : ∀ b, b = b3 ∨ b = b4 ∨ b = b5 → W.cell? ⟨b, 0, none⟩ = w.cell? ⟨b, 0, none⟩ ∧ W.frozen? ⟨b, 0, none⟩ = w.frozen? ⟨b, 0, none⟩ := fun b hb => ⟨World.cell?_of_block (hc b hb), World.frozen?_of_block (hc b hb)⟩
 have s3 : ∀ (W : World) (b : Nat) (x y : Value), W.cell? ⟨b, 0, none⟩ = some y → (W.setCell ⟨b, 0, none⟩ x).cell? ⟨b, 0, none⟩ = some x := fun W b x y hy => World.cell?_setCell_same _ _ _ hy
 have o3 : ∀ (W : World) (b b' : Nat) (x : Value), b' ≠ b → (W.setCell ⟨b, 0, none⟩ x).cell? ⟨b', 0, none⟩ = W.cell? ⟨b', 0, none⟩ := fun W b b' x hb => World.cell?_of_block (Below.heap_setCell _ _ _ _ hb)
 have fr : ∀ (W : World) (b b' : Nat) (x : Value), (W.setCell ⟨b, 0, none⟩ x).frozen? ⟨b', 0, none⟩ = W.frozen? ⟨b', 0, none⟩ := fun W b b' x => World.frozen?_setCell _ _ _ _
 have rS : ∀ (W : World) (b g m cp : Nat) (x : Value) (xs : List Value), g ≠ b → W.ownsRow B 3 1 (.slice (some ⟨g, 0, none⟩) m cp) m xs → (W.setCell ⟨b, 0, none⟩ x).ownsRow B 3 1 (.slice (some ⟨g, 0, none⟩) m cp) m xs := fun W b g m cp x xs hg hr => by
  refine ⟨hr.1, ?_⟩
  rcases hr.2 with h0 | ⟨g', cap, cur, hv, hgB, hh, r⟩
  ·exact .inl h0
  ·have e9 : g' = g := by injection hv with h1; injection h1 with h2; injection h2 with h3; exact h3.symm
   exact .inr ⟨g', cap, cur, hv, hgB, by rw [Below.heap_setCell _ _ _ _ (by rw [e9]; exact hg)]; exact hh, r⟩
 refine ⟨?_, ?_, ?_, ?_, ?_, ?_, by simp [h.l1], by simp [h.l2], ?_, ?_, ?_, ?_, h.bB, by simp; omega⟩
 ·rw [o3 _ _ _ _ z1]; exact s3 W b3 _ _ ((cW b3 (.inl rfl)).1.trans h.c3)
 ·exact s3 _ b4 _ _ (by rw [o3 _ _ _ _ (fun e => z1 e.symm)]; exact (cW b4 (.inr (.inl rfl))).1.trans h.c4)
 ·rw [o3 _ _ _ _ (fun e => z3 e.symm), o3 _ _ _ _ (fun e => z2 e.symm)]; exact (cW b5 (.inr (.inr rfl))).1.trans h.c5
 ·rw [fr, fr]; exact (cW b3 (.inl rfl)).2.trans h.f3
 ·rw [fr, fr]; exact (cW b4 (.inr (.inl rfl))).2.trans h.f4
 ·rw [fr, fr]; exact (cW b5 (.inr (.inr rfl))).2.trans h.f5
 ·rw [List.map_append]; exact rS _ _ _ _ _ _ _ g1n.2.1 (rS _ _ _ _ _ _ _ g1n.1 r1)
 ·rw [List.map_append]; exact rS _ _ _ _ _ _ _ g2n.2.1 (rS _ _ _ _ _ _ _ g2n.1 r2)
 ·intro k hk
  have e9 : k = g1 := by simp [Value.ownBlock] at hk; exact hk.symm
  rw [e9]; exact ⟨g1n.1, g1n.2.1, g1n.2.2, fun h9 => n12 (by simp [Value.ownBlock] at h9; exact h9.symm)⟩
 ·intro k hk
  have e9 : k = g2 := by simp [Value.ownBlock] at hk; exact hk.symm
  rw [e9]; exact g2n
theorem one_newI (W : World) (x : Value) (t : TypeId) : (W.alloc (.cells #[x] t)).cell? ⟨W.heap.size, 0, none⟩ = some x := by
 rw [cell_of_row _ _ 0 #[x] t (0, 0) (heap_alloc_new W _)]; rfl
theorem run_appI (w : World) (B : Nat) (p : Option Addr) (n c : Nat) (xs : List Value) (z : Int) (g0 : Nat) (hr : w.ownsRow B 3 1 (.slice p n c) n xs) (hc : w.cell? ⟨g0, 0, none⟩ = some (.int .i64 z)) (hn : n ≤ 1000000) (hB : B ≤ w.heap.size) :
  ∃ g cap w', (Builtin.append_ #[42, 42] 42 #[.slice p n c, .slice (some ⟨g0, 0, none⟩) 1 1]).run Tryz.prog w = .ok (.slice (some ⟨g, 0, none⟩) (n + 1) cap) w' ∧
    w'.ownsRow B 3 1 (.slice (some ⟨g, 0, none⟩) (n + 1) cap) (n + 1) (xs ++ [.int .i64 z]) ∧ w.grownBy w' (Value.ownBlock (.slice p n c)) ∧ (Value.ownBlock (.slice p n c) = some g ∨ g = w.heap.size) ∧ g < w'.heap.size := by
 obtain ⟨i0, hi, hz0, hz1, hz2⟩ := info_parts infoInt; refine run_append_lies w 42 42 B 3 i0 (.int .i64 0) 1 8 Tryz.underlying42 hi hz0 hz1 hz2 rfl (by decide) (.slice p n c) n xs hr ⟨g0, 0, none⟩ 1 1 [.int .i64 z] rfl ?_ (oneI z) (by decide) (by unfold maxLen; omega) (by omega) hB _ rfl
 intro j u hj
 cases j with
 | zero => simp at hj; rw [← hj]; exact hc
 | succ j => simp at hj
theorem exec_app {a : Act} {o : Oper} {s x : Operand} {w w' : World} {v u r : Value} (ho : o.op = .call { callee := .builtin .append, args := #[s, x], argTypes := #[42, 42] }) (ht : o.type = 42) (hs : a.eval s = v) (hx : a.eval x = u)
  (hr : (Builtin.append_ #[42, 42] 42 #[v, u]).run Tryz.prog w = .ok r w') : (execOp a.eval o).run Tryz.prog w = .ok (.value r) w' := by
 unfold execOp
 simp only [ho, ht, resolve, invoke, builtin, Sem.run_bind, Sem.run_pure, Result.andThen_ok, List.map_toArray, List.map_cons, List.map_nil, hs, hx, hr]
theorem op_skipN {P : Program} {ops : Array Oper} {Q : Exit → Act → World → Prop} {i : Nat} {o : Oper} {a : Act} {w w' : World} {K : Act → World → Prop} (hi : ops[i]? = some o) (hg : o.guard = none) (hd : o.dst = none) (hr : (execOp a.eval o).run P w = .ok .skip w') (h : K a w') : wpOp P ops Q i K a w :=
 op_skip hi hg hr (by rw [hd]; exact h)
def KpC (w : World) (b3 b4 b5 K : Nat) (ob : Obj) (o1 o2 : Option Nat) : Prop := w.heap[K]? = some ob ∧ K ≠ b3 ∧ K ≠ b4 ∧ K ≠ b5 ∧ o1 ≠ some K ∧ o2 ≠ some K
theorem two_apps {w V w2 U w6 : World} {B b3 b4 b5 : Nat} {q : Int} {P : List Int × List Int} {p p' : Option Addr} {n c c' : Nat} (h : MS w B b3 b4 b5 q P p p' n c c') {g1 g2 cap1 cap2 : Nat} (hV : Below w.heap.size w V) (hU : Below w2.heap.size w2 U)
  (gr1 : V.grownBy w2 (Value.ownBlock (.slice p n c))) (gr2 : U.grownBy w6 (Value.ownBlock (.slice p' n c')))
  (r1 : w2.ownsRow B 3 1 (.slice (some ⟨g1, 0, none⟩) (n + 1) cap1) (n + 1) (P.1.map (Value.int .i64) ++ [.int .i64 0])) (r2 : w6.ownsRow B 3 1 (.slice (some ⟨g2, 0, none⟩) (n + 1) cap2) (n + 1) (P.2.map (Value.int .i64) ++ [.int .i64 q]))
  (a1 : Value.ownBlock (.slice p n c) = some g1 ∨ g1 = V.heap.size) (a2 : Value.ownBlock (.slice p' n c') = some g2 ∨ g2 = U.heap.size) (l1 : g1 < w2.heap.size) (K : Nat) (ob : Obj) (hK : KpC w b3 b4 b5 K ob (Value.ownBlock (.slice p n c)) (Value.ownBlock (.slice p' n c'))) :
  (w6.cell? ⟨b3, 0, none⟩ = some (.slice p n c) ∧ w6.cell? ⟨b4, 0, none⟩ = some (.slice p' n c') ∧ w6.cell? ⟨b5, 0, none⟩ = some (.int .i64 q)) ∧ (w6.frozen? ⟨b3, 0, none⟩ = false ∧ (w6.setCell ⟨b3, 0, none⟩ (.slice (some ⟨g1, 0, none⟩) (n + 1) cap1)).cell? ⟨b4, 0, none⟩ = some (.slice p' n c') ∧ (w6.setCell ⟨b3, 0, none⟩ (.slice (some ⟨g1, 0, none⟩) (n + 1) cap1)).frozen? ⟨b4, 0, none⟩ = false) ∧
  (MS ((w6.setCell ⟨b3, 0, none⟩ (.slice (some ⟨g1, 0, none⟩) (n + 1) cap1)).setCell ⟨b4, 0, none⟩ (.slice (some ⟨g2, 0, none⟩) (n + 1) cap2)) B b3 b4 b5 q (P.1 ++ [0], P.2 ++ [q]) (some ⟨g1, 0, none⟩) (some ⟨g2, 0, none⟩) (n + 1) cap1 cap2 ∧ KpC ((w6.setCell ⟨b3, 0, none⟩ (.slice (some ⟨g1, 0, none⟩) (n + 1) cap1)).setCell ⟨b4, 0, none⟩ (.slice (some ⟨g2, 0, none⟩) (n + 1) cap2)) b3 b4 b5 K ob (Value.ownBlock (.slice (some ⟨g1, 0, none⟩) (n + 1) cap1)) (Value.ownBlock (.slice (some ⟨g2, 0, none⟩) (n + 1) cap2))) ∧
  Below B w ((w6.setCell ⟨b3, 0, none⟩ (.slice (some ⟨g1, 0, none⟩) (n + 1) cap1)).setCell ⟨b4, 0, none⟩ (.slice (some ⟨g2, 0, none⟩) (n + 1) cap2)) := by
 obtain ⟨y1, y2, y3, z1, z2, z3⟩ := h.bB; obtain ⟨x1, x2, x3⟩ := h.lt; have sV := hV.size; have s2 := gr1.size; have sU := hU.size; have s6 := gr2.size
 have o2lt : ∀ k, Value.ownBlock (.slice p' n c') = some k → B ≤ k ∧ k < w.heap.size := fun k hk => h.r2.lt k hk
 have o1lt : ∀ k, Value.ownBlock (.slice p n c) = some k → B ≤ k ∧ k < w.heap.size := fun k hk => h.r1.lt k hk
 have blk : ∀ k, k < w.heap.size → Value.ownBlock (.slice p n c) ≠ some k → Value.ownBlock (.slice p' n c') ≠ some k → w6.heap[k]? = w.heap[k]? := fun k hk e1 e2 =>
  (gr2.block k (by omega) (fun e => e2 e.symm)).trans ((hU.block k (by omega)).trans ((gr1.block k (by omega) (fun e => e1 e.symm)).trans (hV.block k hk)))
 have hc : ∀ b, b = b3 ∨ b = b4 ∨ b = b5 → w6.heap[b]? = w.heap[b]? := fun b hb => by
  refine blk b (by rcases hb with e | e | e <;> omega) (fun e => ?_) (fun e => ?_)
  ·have := h.ne b e; rcases hb with e | e | e <;> (rw [e] at this; omega)
  ·have := h.ne' b e; rcases hb with e | e | e <;> (rw [e] at this; omega)
 have g1o : Value.ownBlock (.slice p' n c') ≠ some g1 := fun e => by
  rcases a1 with h9 | h9
  ·exact (h.ne g1 h9).2.2.2 e
  ·have := o2lt g1 e; omega
 have r1' : w6.ownsRow B 3 1 (.slice (some ⟨g1, 0, none⟩) (n + 1) cap1) (n + 1) (P.1.map (Value.int .i64) ++ [.int .i64 0]) := (row_below r1 hU).kept gr2 (.inr (fun e => g1o (by rw [← e]; rfl)))
 have n12 : g1 ≠ g2 := fun e => by
  rcases a2 with h9 | h9
  ·exact g1o (by rw [e]; exact h9)
  ·omega
 have m := ms_push h r1' r2 (by omega) hc (a1.imp id (fun e => by omega)) (a2.imp id (fun e => by omega)) n12; have e3 : w6.cell? ⟨b3, 0, none⟩ = w.cell? ⟨b3, 0, none⟩ := World.cell?_of_block (hc b3 (.inl rfl)); have e4 : w6.cell? ⟨b4, 0, none⟩ = w.cell? ⟨b4, 0, none⟩ := World.cell?_of_block (hc b4 (.inr (.inl rfl))); have f3 : w6.frozen? ⟨b3, 0, none⟩ = w.frozen? ⟨b3, 0, none⟩ := World.frozen?_of_block (hc b3 (.inl rfl)); have f4 : w6.frozen? ⟨b4, 0, none⟩ = w.frozen? ⟨b4, 0, none⟩ := World.frozen?_of_block (hc b4 (.inr (.inl rfl))); have e5 : w6.cell? ⟨b5, 0, none⟩ = w.cell? ⟨b5, 0, none⟩ := World.cell?_of_block (hc b5 (.inr (.inr rfl))); have hKlt : K < w.heap.size := (Array.getElem?_eq_some_iff.1 hK.1).1
 have mK : KpC ((w6.setCell ⟨b3, 0, none⟩ (.slice (some ⟨g1, 0, none⟩) (n + 1) cap1)).setCell ⟨b4, 0, none⟩ (.slice (some ⟨g2, 0, none⟩) (n + 1) cap2)) b3 b4 b5 K ob (Value.ownBlock (.slice (some ⟨g1, 0, none⟩) (n + 1) cap1)) (Value.ownBlock (.slice (some ⟨g2, 0, none⟩) (n + 1) cap2)) := by
  refine ⟨?_, hK.2.1, hK.2.2.1, hK.2.2.2.1, fun e => ?_, fun e => ?_⟩
  ·rw [Below.heap_setCell _ _ _ _ hK.2.2.1, Below.heap_setCell _ _ _ _ hK.2.1, blk K hKlt hK.2.2.2.2.1 hK.2.2.2.2.2]
   exact hK.1
  ·have e9 : g1 = K := by simpa [Value.ownBlock] using e
   rcases a1 with h9 | h9
   ·exact hK.2.2.2.2.1 (by rw [h9, e9])
   ·omega
  ·have e9 : g2 = K := by simpa [Value.ownBlock] using e
   rcases a2 with h9 | h9
   ·exact hK.2.2.2.2.2 (by rw [h9, e9])
   ·omega
 refine ⟨⟨e3.trans h.c3, e4.trans h.c4, e5.trans h.c5⟩, ⟨f3.trans h.f3, ?_, ?_⟩, ⟨m, mK⟩, ?_⟩
 ·exact ((World.cell?_of_block (Below.heap_setCell _ _ _ _ (show b4 ≠ b3 from fun e => z1 e.symm))).trans e4).trans h.c4
 ·rw [World.frozen?_setCell]; exact f4.trans h.f4
 ·have b1 : Below B w w6 := by
   refine ⟨?_, ?_, ?_, by omega, fun k hk => blk k (by omega) (fun e => by have := o1lt k e; omega) (fun e => by have := o2lt k e; omega)⟩
   ·exact gr2.os.trans (hU.os.trans (gr1.os.trans hV.os))
   ·exact gr2.tape.trans (hU.tape.trans (gr1.tape.trans hV.tape))
   ·exact gr2.output.trans (hU.output.trans (gr1.output.trans hV.output))
  exact (b1.setCell (p := ⟨b3, 0, none⟩) y1 _).setCell (p := ⟨b4, 0, none⟩) y2 _
set_option maxHeartbeats 1000000 in
theorem clsNew_any (B b3 b4 b5 : Nat) (q : Int) (P : List Int × List Int) (p p' : Option Addr) (n c c' : Nat) (w : World) (h : MS w B b3 b4 b5 q P p p' n c c') (hn : n ≤ 100000) (K : Nat) (ob : Obj) (hK : KpC w b3 b4 b5 K ob (Value.ownBlock (.slice p n c)) (Value.ownBlock (.slice p' n c'))) :
  Calls Tryz.prog 219 #[.iface 94 (.int .i64 (n : Int)), .pointer (some ⟨b3, 0, none⟩), .pointer (some ⟨b4, 0, none⟩), .pointer (some ⟨b5, 0, none⟩)] w fun e w' => e = .returned (.tuple #[]) ∧ (∃ p2 p2' n2 c2 c2', MS w' B b3 b4 b5 q (P.1 ++ [0], P.2 ++ [q]) p2 p2' n2 c2 c2' ∧ KpC w' b3 b4 b5 K ob (Value.ownBlock (.slice p2 n2 c2)) (Value.ownBlock (.slice p2' n2 c2'))) ∧ Below B w w' := by
 have n1 := isVar; have x3 := h.c3; have HS : Hid (MS w B b3 b4 b5 q P p p' n c c') := h; have HKW : Hid (KpC w.drew b3 b4 b5 K ob (Value.ownBlock (.slice p n c)) (Value.ownBlock (.slice p' n c'))) := hK
 have HSZ : Hid (B ≤ w.heap.size) := by have := h.lt; have := h.bB; show B ≤ w.heap.size; omega
 clear h hK
 go_enter Tryz.func219, Tryz.ntmps219
 go_wp2_with fail; refine wp_region_any (by kernel_rfl) ?_; refine wpAny_late (p := 7) (q := 8) (f2 := 2) (fin := #[true, true, true, true, true, true, true, false, false]) (S := fun W => W.cell? ⟨b3, 0, none⟩ = some (.slice p n c) ∧ W.cell? ⟨b4, 0, none⟩ = some (.slice p' n c') ∧ W.cell? ⟨b5, 0, none⟩ = some (.int .i64 q)) (by kernel_rfl) 7 _ _ _ rfl (by kernel_rfl) (by kernel_rfl) (by kernel_rfl) ?_
 obtain ⟨w0, ew0⟩ : ∃ w0, w0 = w.drew := ⟨_, rfl⟩
 change wpAnyH _ _ _ _ _ _ _ _ w.drew
 rw [← ew0]
 have HM0 : Hid (MS w0 B b3 b4 b5 q P p p' n c c') := by rw [ew0]; exact HS.out.drew
 have HK0 : Hid (KpC w0 b3 b4 b5 K ob (Value.ownBlock (.slice p n c)) (Value.ownBlock (.slice p' n c'))) := by rw [ew0]; exact HKW.out
 have HSA : Hid (∀ W, Below w0.heap.size w0 W → W.cell? ⟨b3, 0, none⟩ = some (.slice p n c) ∧ W.cell? ⟨b4, 0, none⟩ = some (.slice p' n c') ∧ W.cell? ⟨b5, 0, none⟩ = some (.int .i64 q)) := fun W hW => ⟨(HM0.out.below hW).c3, (HM0.out.below hW).c4, (HM0.out.below hW).c5⟩
 have HSG : Hid (∀ W w2, Below w0.heap.size w0 W → W.grownBy w2 (Value.ownBlock (.slice p n c)) → w2.cell? ⟨b3, 0, none⟩ = some (.slice p n c) ∧ w2.cell? ⟨b4, 0, none⟩ = some (.slice p' n c') ∧ w2.cell? ⟨b5, 0, none⟩ = some (.int .i64 q)) := fun W w2 hW hg => by
  have hm := HM0.out.below hW; have hlt := hm.lt
  have k : ∀ b, b < W.heap.size → Value.ownBlock (.slice p n c) ≠ some b → w2.cell? ⟨b, 0, none⟩ = W.cell? ⟨b, 0, none⟩ := fun b hb hne => World.cell?_of_block (hg.block b hb (fun e => hne e.symm))
  exact ⟨(k b3 hlt.1 (fun e => (hm.ne b3 e).1 rfl)).trans hm.c3, (k b4 hlt.2.1 (fun e => (hm.ne b4 e).2.1 rfl)).trans hm.c4, (k b5 hlt.2.2 (fun e => (hm.ne b5 e).2.2.1 rfl)).trans hm.c5⟩
 have HSL : Hid (∀ (W : World) (Z : Obj), W.cell? ⟨b3, 0, none⟩ = some (.slice p n c) ∧ W.cell? ⟨b4, 0, none⟩ = some (.slice p' n c') ∧ W.cell? ⟨b5, 0, none⟩ = some (.int .i64 q) → (W.alloc Z).cell? ⟨b3, 0, none⟩ = some (.slice p n c) ∧ (W.alloc Z).cell? ⟨b4, 0, none⟩ = some (.slice p' n c') ∧ (W.alloc Z).cell? ⟨b5, 0, none⟩ = some (.int .i64 q)) := fun W Z hW => ⟨Lib.cell?_alloc_marked _ hW.1, Lib.cell?_alloc_marked _ hW.2.1, Lib.cell?_alloc_marked _ hW.2.2⟩
 have HO1 : Hid (∀ k, w0.heap.size ≤ k → Value.ownBlock (.slice p n c) ≠ some k) := fun k hk e => by have := (HM0.out.r1.lt k e).2; omega
 have HNE : Hid (Value.ownBlock (.slice p' n c') = none ∨ Value.ownBlock (.slice p' n c') ≠ Value.ownBlock (.slice p n c)) := by
  show _ ∨ _
  cases h9 : Value.ownBlock (.slice p' n c') with
  | none => exact .inl rfl
  | some k => exact .inr (fun e => (HM0.out.ne k e.symm).2.2.2 h9)
 have hS0 := HSA.out w0 (Below.refl _ _)
 have HSZ0 : Hid (B ≤ w0.heap.size) := by rw [ew0]; exact HSZ.out
 have HBW : Hid (∀ W, Below B w0 W → Below B w W) := fun W hW => by rw [ew0] at hW; exact ⟨hW.os, hW.tape, hW.output, hW.size, hW.block⟩
 clear ew0 HS HKW HSZ x3 n1; refine hTk (i := 0) (v := .slice p n c) (some 23) (fun o ho W hSw => ?y0) hS0 ?_
 case y0 => cases ho; obtain ⟨s1, s2, s3⟩ := hSw; simp [execOp, go_sem, Act.eval, s1]
 simp only [Act.put, zzA, zzB, zzC]; refine hTk (i := 3) (v := .slice p' n c') (some 26) (fun o ho W hSw => ?y1) hS0 ?_
 case y1 => cases ho; obtain ⟨s1, s2, s3⟩ := hSw; simp [execOp, go_sem, Act.eval, s2]
 simp only [Act.put, zzA, zzB, zzC]; refine hTk (i := 4) (v := .int .i64 q) (some 27) (fun o ho W hSw => ?y2) hS0 ?_
 case y2 => cases ho; obtain ⟨s1, s2, s3⟩ := hSw; simp [execOp, go_sem, Act.eval, s3]
 simp only [Act.put, zzA, zzB, zzC]; refine hBoth (i := 1) (j := 5) (by kernel_rfl) ?zA ?zB
 case zA =>
  have hbA : Below w0.heap.size w0 (w0.alloc (.cells #[.int .i64 0] 3)) := (Below.refl _ _).alloc (Nat.le_refl _) _; have cA : (w0.alloc (.cells #[.int .i64 0] 3)).cell? ⟨w0.heap.size, 0, none⟩ = some (.int .i64 0) := one_newI _ _ _; refine opStep (v := .slice (some ⟨w0.heap.size, 0, none⟩) 1 1) (w' := w0.alloc (.cells #[.int .i64 0] 3)) (some 24) (by kernel_rfl) (by kernel_rfl) (fun o ho => ?y3) ⟨HSA.out _ hbA, ?_⟩
  case y3 => cases ho; simp [execOp, go_sem, Act.eval]
  simp only [Act.put, zzA, zzB, zzC]; refine hBoth (i := 2) (j := 5) (by kernel_rfl) ?zA1 ?zA2
  case zA1 =>
   have hbV := hbA; obtain ⟨g1, cap1, w2, hr1, ro1, gr1, at1, lt1⟩ := run_appI (w0.alloc (.cells #[.int .i64 0] 3)) B p n c _ 0 w0.heap.size (HM0.out.below hbA).r1 cA (by omega) (Nat.le_trans HSZ0.out (Below.size hbA)); refine opStep (v := .slice (some ⟨g1, 0, none⟩) (n + 1) cap1) (w' := w2) (some 25) (by kernel_rfl) (by kernel_rfl) (fun o ho => ?y4) ⟨(HSG.out _ w2 hbV gr1), ?_⟩
   case y4 =>
    cases ho
    exact exec_app rfl rfl rfl rfl hr1
   simp only [Act.put, zzA, zzB, zzC]; have hs2 : w0.heap.size ≤ w2.heap.size := Nat.le_trans hbA.size gr1.size; have hbU : Below w2.heap.size w2 (w2.alloc (.cells #[.int .i64 q] 3)) := (Below.refl _ _).alloc (Nat.le_refl _) _; refine hStep (i := 5) (v := .slice (some ⟨w2.heap.size, 0, none⟩) 1 1) (w' := w2.alloc (.cells #[.int .i64 q] 3)) (some 28) (by kernel_rfl) (by kernel_rfl) (by kernel_rfl) (fun o ho => ?y5) (HSL.out _ _ (HSG.out _ w2 hbV gr1)) ?_
   case y5 => cases ho; simp [execOp, go_sem, Act.eval]
   simp only [Act.put, zzA, zzB, zzC]; obtain ⟨g2, cap2, w6, hr2, ro2, gr2, at2, lt2⟩ := run_appI (w2.alloc (.cells #[.int .i64 q] 3)) B p' n c' _ q w2.heap.size (((HM0.out.below hbV).r2.kept gr1 HNE.out).alloc _) (one_newI _ _ _) (by omega) (Nat.le_trans (Nat.le_trans HSZ0.out hs2) hbU.size); have TA := two_apps HM0.out hbV hbU gr1 gr2 ro1 ro2 at1 at2 lt1 K ob HK0.out; refine hStep (i := 6) (v := .slice (some ⟨g2, 0, none⟩) (n + 1) cap2) (w' := w6) (some 29) (by kernel_rfl) (by kernel_rfl) (by kernel_rfl) (fun o ho => ?y6) TA.1 ?_
   case y6 =>
    cases ho
    exact exec_app rfl rfl rfl rfl hr2
   simp only [Act.put, zzA, zzB, zzC]; refine wpAnyH_done (by kernel_rfl) ?_ _
   change wpAny _ _ _ _ 2 _ _ _
   obtain ⟨⟨t1, t2, t3⟩, ⟨t4, t5, t6⟩, t7, t8⟩ := TA; have HT7 : Hid _ := t7; have HT8 : Hid _ := HBW.out _ t8; clear t2 t3 t7 t8 hS0; refine wpAny_all (rs := [7]) (by kernel_rfl) (by simp) (fun i hi => ?_)
   obtain rfl : i = 7 := by simpa using hi
   refine op_skipN (w' := w6.setCell ⟨b3, 0, none⟩ (.slice (some ⟨g1, 0, none⟩) (n + 1) cap1)) rfl rfl rfl ?y7 ?_
   case y7 => simp [execOp, go_sem, Act.eval, t1, t4]
   refine wpAny_all (rs := [8]) (by kernel_rfl) (by simp) (fun i hi => ?_)
   obtain rfl : i = 8 := by simpa using hi
   refine op_skipN (w' := (w6.setCell ⟨b3, 0, none⟩ (.slice (some ⟨g1, 0, none⟩) (n + 1) cap1)).setCell ⟨b4, 0, none⟩ (.slice (some ⟨g2, 0, none⟩) (n + 1) cap2)) rfl rfl rfl ?y8 ?_
   case y8 => simp [execOp, go_sem, Act.eval, t5, t6]
   refine wpAny_done (by kernel_rfl) ?_ _; clear t1 t4 t5 t6; go_wp2_with fail; exact bodyPost_end (v := .tuple #[]) (by simp [results, Tryz.results219, go_sem]) rfl ⟨rfl, ⟨_, _, _, _, _, HT7.out⟩, HT8.out⟩
  case zA2 =>
   have hbV : Below w0.heap.size w0 ((w0.alloc (.cells #[.int .i64 0] 3)).alloc (.cells #[.int .i64 q] 3)) := hbA.alloc hbA.size _; have cV : ((w0.alloc (.cells #[.int .i64 0] 3)).alloc (.cells #[.int .i64 q] 3)).cell? ⟨(w0.alloc (.cells #[.int .i64 0] 3)).heap.size, 0, none⟩ = some (.int .i64 q) := one_newI _ _ _; refine opStep (v := .slice (some ⟨(w0.alloc (.cells #[.int .i64 0] 3)).heap.size, 0, none⟩) 1 1) (w' := (w0.alloc (.cells #[.int .i64 0] 3)).alloc (.cells #[.int .i64 q] 3)) (some 28) (by kernel_rfl) (by kernel_rfl) (fun o ho => ?y9) ⟨HSA.out _ hbV, ?_⟩
   case y9 => cases ho; simp [execOp, go_sem, Act.eval]
   simp only [Act.put, zzA, zzB, zzC]; obtain ⟨g1, cap1, w2, hr1, ro1, gr1, at1, lt1⟩ := run_appI ((w0.alloc (.cells #[.int .i64 0] 3)).alloc (.cells #[.int .i64 q] 3)) B p n c _ 0 w0.heap.size (HM0.out.below hbV).r1 (Lib.cell?_alloc_marked _ cA) (by omega) (Nat.le_trans HSZ0.out (Below.size hbV)); refine hStep (i := 2) (v := .slice (some ⟨g1, 0, none⟩) (n + 1) cap1) (w' := w2) (some 25) (by kernel_rfl) (by kernel_rfl) (by kernel_rfl) (fun o ho => ?y10) (HSG.out _ w2 hbV gr1) ?_
   case y10 =>
    cases ho
    exact exec_app rfl rfl rfl rfl hr1
   simp only [Act.put, zzA, zzB, zzC]; have hbU : Below w2.heap.size w2 w2 := Below.refl _ _; have hs2 : w0.heap.size ≤ w2.heap.size := Nat.le_trans hbV.size gr1.size; have cU : w2.cell? ⟨(w0.alloc (.cells #[.int .i64 0] 3)).heap.size, 0, none⟩ = some (.int .i64 q) := (World.cell?_of_block (gr1.block _ (by simp) (fun e => HO1.out _ hbA.size e.symm))).trans cV; obtain ⟨g2, cap2, w6, hr2, ro2, gr2, at2, lt2⟩ := run_appI w2 B p' n c' _ q (w0.alloc (.cells #[.int .i64 0] 3)).heap.size ((HM0.out.below hbV).r2.kept gr1 HNE.out) cU (by omega) (Nat.le_trans HSZ0.out hs2); have TA := two_apps HM0.out hbV hbU gr1 gr2 ro1 ro2 at1 at2 lt1 K ob HK0.out; refine hStep (i := 6) (v := .slice (some ⟨g2, 0, none⟩) (n + 1) cap2) (w' := w6) (some 29) (by kernel_rfl) (by kernel_rfl) (by kernel_rfl) (fun o ho => ?y11) TA.1 ?_
   case y11 =>
    cases ho
    exact exec_app rfl rfl rfl rfl hr2
   simp only [Act.put, zzA, zzB, zzC]; refine wpAnyH_done (by kernel_rfl) ?_ _
   change wpAny _ _ _ _ 2 _ _ _
   obtain ⟨⟨t1, t2, t3⟩, ⟨t4, t5, t6⟩, t7, t8⟩ := TA; have HT7 : Hid _ := t7; have HT8 : Hid _ := HBW.out _ t8; clear t2 t3 t7 t8 hS0; refine wpAny_all (rs := [7]) (by kernel_rfl) (by simp) (fun i hi => ?_)
   obtain rfl : i = 7 := by simpa using hi
   refine op_skipN (w' := w6.setCell ⟨b3, 0, none⟩ (.slice (some ⟨g1, 0, none⟩) (n + 1) cap1)) rfl rfl rfl ?y12 ?_
   case y12 => simp [execOp, go_sem, Act.eval, t1, t4]
   refine wpAny_all (rs := [8]) (by kernel_rfl) (by simp) (fun i hi => ?_)
   obtain rfl : i = 8 := by simpa using hi
   refine op_skipN (w' := (w6.setCell ⟨b3, 0, none⟩ (.slice (some ⟨g1, 0, none⟩) (n + 1) cap1)).setCell ⟨b4, 0, none⟩ (.slice (some ⟨g2, 0, none⟩) (n + 1) cap2)) rfl rfl rfl ?y13 ?_
   case y13 => simp [execOp, go_sem, Act.eval, t5, t6]
   refine wpAny_done (by kernel_rfl) ?_ _; clear t1 t4 t5 t6; go_wp2_with fail; exact bodyPost_end (v := .tuple #[]) (by simp [results, Tryz.results219, go_sem]) rfl ⟨rfl, ⟨_, _, _, _, _, HT7.out⟩, HT8.out⟩
 case zB =>
  have hbB : Below w0.heap.size w0 (w0.alloc (.cells #[.int .i64 q] 3)) := (Below.refl _ _).alloc (Nat.le_refl _) _; have cB : (w0.alloc (.cells #[.int .i64 q] 3)).cell? ⟨w0.heap.size, 0, none⟩ = some (.int .i64 q) := one_newI _ _ _; refine opStep (v := .slice (some ⟨w0.heap.size, 0, none⟩) 1 1) (w' := w0.alloc (.cells #[.int .i64 q] 3)) (some 28) (by kernel_rfl) (by kernel_rfl) (fun o ho => ?y14) ⟨HSA.out _ hbB, ?_⟩
  case y14 => cases ho; simp [execOp, go_sem, Act.eval]
  simp only [Act.put, zzA, zzB, zzC]; have hbV : Below w0.heap.size w0 ((w0.alloc (.cells #[.int .i64 q] 3)).alloc (.cells #[.int .i64 0] 3)) := hbB.alloc hbB.size _; have cV : ((w0.alloc (.cells #[.int .i64 q] 3)).alloc (.cells #[.int .i64 0] 3)).cell? ⟨(w0.alloc (.cells #[.int .i64 q] 3)).heap.size, 0, none⟩ = some (.int .i64 0) := one_newI _ _ _; refine hStep (i := 1) (v := .slice (some ⟨(w0.alloc (.cells #[.int .i64 q] 3)).heap.size, 0, none⟩) 1 1) (w' := (w0.alloc (.cells #[.int .i64 q] 3)).alloc (.cells #[.int .i64 0] 3)) (some 24) (by kernel_rfl) (by kernel_rfl) (by kernel_rfl) (fun o ho => ?y15) (HSA.out _ hbV) ?_
  case y15 => cases ho; simp [execOp, go_sem, Act.eval]
  simp only [Act.put, zzA, zzB, zzC]; obtain ⟨g1, cap1, w2, hr1, ro1, gr1, at1, lt1⟩ := run_appI ((w0.alloc (.cells #[.int .i64 q] 3)).alloc (.cells #[.int .i64 0] 3)) B p n c _ 0 (w0.alloc (.cells #[.int .i64 q] 3)).heap.size (HM0.out.below hbV).r1 cV (by omega) (Nat.le_trans HSZ0.out (Below.size hbV)); refine hStep (i := 2) (v := .slice (some ⟨g1, 0, none⟩) (n + 1) cap1) (w' := w2) (some 25) (by kernel_rfl) (by kernel_rfl) (by kernel_rfl) (fun o ho => ?y16) (HSG.out _ w2 hbV gr1) ?_
  case y16 =>
   cases ho
   exact exec_app rfl rfl rfl rfl hr1
  simp only [Act.put, zzA, zzB, zzC]; have hbU : Below w2.heap.size w2 w2 := Below.refl _ _; have hs2 : w0.heap.size ≤ w2.heap.size := Nat.le_trans hbV.size gr1.size; have cU : w2.cell? ⟨w0.heap.size, 0, none⟩ = some (.int .i64 q) := (World.cell?_of_block (gr1.block _ (by simp; omega) (fun e => HO1.out _ (Nat.le_refl _) e.symm))).trans (Lib.cell?_alloc_marked _ cB); obtain ⟨g2, cap2, w6, hr2, ro2, gr2, at2, lt2⟩ := run_appI w2 B p' n c' _ q w0.heap.size ((HM0.out.below hbV).r2.kept gr1 HNE.out) cU (by omega) (Nat.le_trans HSZ0.out hs2); have TA := two_apps HM0.out hbV hbU gr1 gr2 ro1 ro2 at1 at2 lt1 K ob HK0.out; refine hStep (i := 6) (v := .slice (some ⟨g2, 0, none⟩) (n + 1) cap2) (w' := w6) (some 29) (by kernel_rfl) (by kernel_rfl) (by kernel_rfl) (fun o ho => ?y17) TA.1 ?_
  case y17 =>
   cases ho
   exact exec_app rfl rfl rfl rfl hr2
  simp only [Act.put, zzA, zzB, zzC]; refine wpAnyH_done (by kernel_rfl) ?_ _
  change wpAny _ _ _ _ 2 _ _ _
  obtain ⟨⟨t1, t2, t3⟩, ⟨t4, t5, t6⟩, t7, t8⟩ := TA; have HT7 : Hid _ := t7; have HT8 : Hid _ := HBW.out _ t8; clear t2 t3 t7 t8 hS0; refine wpAny_all (rs := [7]) (by kernel_rfl) (by simp) (fun i hi => ?_)
  obtain rfl : i = 7 := by simpa using hi
  refine op_skipN (w' := w6.setCell ⟨b3, 0, none⟩ (.slice (some ⟨g1, 0, none⟩) (n + 1) cap1)) rfl rfl rfl ?y18 ?_
  case y18 => simp [execOp, go_sem, Act.eval, t1, t4]
  refine wpAny_all (rs := [8]) (by kernel_rfl) (by simp) (fun i hi => ?_)
  obtain rfl : i = 8 := by simpa using hi
  refine op_skipN (w' := (w6.setCell ⟨b3, 0, none⟩ (.slice (some ⟨g1, 0, none⟩) (n + 1) cap1)).setCell ⟨b4, 0, none⟩ (.slice (some ⟨g2, 0, none⟩) (n + 1) cap2)) rfl rfl rfl ?y19 ?_
  case y19 => simp [execOp, go_sem, Act.eval, t5, t6]
  refine wpAny_done (by kernel_rfl) ?_ _; clear t1 t4 t5 t6; go_wp2_with fail; exact bodyPost_end (v := .tuple #[]) (by simp [results, Tryz.results219, go_sem]) rfl ⟨rfl, ⟨_, _, _, _, _, HT7.out⟩, HT8.out⟩
end
section
open Go Go.RowKit Go.Maps
def MSx (w : World) (B b3 b4 b5 K : Nat) (ob : Obj) (q : Int) (P : List Int × List Int) : Prop := ∃ p p' n c c', MS w B b3 b4 b5 q P p p' n c c' ∧ KpC w b3 b4 b5 K ob (Value.ownBlock (.slice p n c)) (Value.ownBlock (.slice p' n c'))
theorem KpC.below {w w' : World} {b3 b4 b5 K : Nat} {ob : Obj} {o1 o2 : Option Nat} (h : KpC w b3 b4 b5 K ob o1 o2) (hb : Below w.heap.size w w') : KpC w' b3 b4 b5 K ob o1 o2 :=
 ⟨(hb.block K (Array.getElem?_eq_some_iff.1 h.1).1).trans h.1, h.2⟩
theorem MSx.below {w w' : World} {B b3 b4 b5 K : Nat} {ob : Obj} {q : Int} {P : List Int × List Int} (h : MSx w B b3 b4 b5 K ob q P) (hb : Below w.heap.size w w') : MSx w' B b3 b4 b5 K ob q P := by
 obtain ⟨p, p', n, c, c', h, hk⟩ := h; exact ⟨p, p', n, c, c', h.below hb, hk.below hb⟩
def meetC (q : Int) (P : List Int × List Int) (c : Cel) : List Int × List Int := if c.1 = 0 then meetP q P c.2.1 else P
theorem meets_cons (q : Int) (P : List Int × List Int) (c : Cel) (r : List Cel) : meetsP q P (vsC (c :: r)) = meetsP q (meetC q P c) (vsC r) := by
 rw [vsC_cons, meetC]
 split <;> rfl
theorem meets_append (q : Int) (P : List Int × List Int) (a b : List Int) : meetsP q P (a ++ b) = meetsP q (meetsP q P a) b := by simp [meetsP, List.foldl_append]
theorem okV_head {m : Nat} {c : Cel} {r : List Cel} (h : okV m (vsC (c :: r))) : c.1 = 0 → 0 ≤ c.2.1 ∧ c.2.1 ≤ m := fun h0 => by
 rw [vsC_cons, if_pos h0] at h; exact h.1
theorem meetC_len (q : Int) (P : List Int × List Int) (c : Cel) (h : c.1 = 0 → 0 ≤ c.2.1 ∧ c.2.1 ≤ P.1.length) : (meetC q P c).1.length ≤ P.1.length + 1 := by
 unfold meetC
 split
 ·rename_i h0
  rw [meetP_len q P _]
  split <;> omega
 ·omega
theorem okV_tail {c : Cel} {r : List Cel} (q : Int) (P : List Int × List Int) (h : okV P.1.length (vsC (c :: r))) : okV (meetC q P c).1.length (vsC r) := by
 unfold meetC
 rw [vsC_cons] at h
 split
 ·rename_i h0
  rw [if_pos h0] at h; rw [meetP_len q P _]; have := h.2
  by_cases e : c.2.1 = (P.1.length : Int)
  ·rw [if_pos e] at this ⊢; exact this
  ·rw [if_neg e] at this ⊢; exact this
 ·rename_i h0
  rw [if_neg h0] at h; exact h
theorem meets_len (q : Int) : ∀ (vs : List Int) (P : List Int × List Int), okV P.1.length vs → (meetsP q P vs).1.length = endV P.1.length vs
 | [], P, _ => rfl
 | v :: r, P, h => by
   have hl := meetP_len q P v; have h2 := h.2; have : meetsP q P (v :: r) = meetsP q (meetP q P v) r := rfl; rw [this]
   have e : (meetP q P v).1.length = if v = (P.1.length : Int) then P.1.length + 1 else P.1.length := hl
   rw [meets_len q r (meetP q P v) (by rw [e]; exact h2), e]
   rfl
theorem endV_up : ∀ (m : Nat) (vs : List Int), endV m vs ≤ m + vs.length
 | m, [] => Nat.le_refl _
 | m, v :: r => by
   have := endV_up (if v = (m : Int) then m + 1 else m) r
   have h2 : (if v = (m : Int) then m + 1 else m) ≤ m + 1 := by split <;> omega
   have h3 : endV m (v :: r) = endV (if v = (m : Int) then m + 1 else m) r := rfl; rw [h3]; simp only [List.length_cons]
   generalize (if v = (m : Int) then m + 1 else m) = m2 at this h2 ⊢
   omega
theorem vsC_len (cs : List Cel) : (vsC cs).length ≤ cs.length := by
 unfold vsC
 rw [List.length_map]; exact List.length_filter_le _ _
theorem MS.cls {w : World} {B b3 b4 b5 : Nat} {q : Int} {P : List Int × List Int} {p' : Option Addr} {g n c c' : Nat} (h : MS w B b3 b4 b5 q P (some ⟨g, 0, none⟩) p' n c c') (v : Nat) (x : Int) : MS (w.setCell ⟨g, v, none⟩ (.int .i64 x)) B b3 b4 b5 q (P.1.set v x, P.2) (some ⟨g, 0, none⟩) p' n c c' := by
 have hne := h.ne g rfl; have hst := h.r1.stored v (.int .i64 x)
 have blk : ∀ b, b ≠ g → (w.setCell ⟨g, v, none⟩ (.int .i64 x)).heap[b]? = w.heap[b]? := fun b hb => Below.heap_setCell _ _ _ _ hb
 have cl : ∀ b, b ≠ g → (w.setCell ⟨g, v, none⟩ (.int .i64 x)).cell? ⟨b, 0, none⟩ = w.cell? ⟨b, 0, none⟩ := fun b hb => World.cell?_of_block (blk b hb)
 refine ⟨(cl b3 hne.1.symm).trans h.c3, (cl b4 hne.2.1.symm).trans h.c4, (cl b5 hne.2.2.1.symm).trans h.c5, by rw [World.frozen?_setCell]; exact h.f3, by rw [World.frozen?_setCell]; exact h.f4, by rw [World.frozen?_setCell]; exact h.f5, by simp [h.l1], by simp [h.l2], ?_, ?_, h.ne, h.ne', h.bB, by simpa using h.lt⟩
 ·have := hst.1
  rw [map_set] at this; exact this
 ·exact h.r2.kept hst.2 (by
   cases hv : Value.ownBlock (.slice p' n c') with
   | none => exact .inl rfl
   | some k => exact .inr (fun e => hne.2.2.2 (by rw [hv]; exact e)))
theorem clsOld_any (B b3 b4 b5 K : Nat) (ob : Obj) (q : Int) (P : List Int × List Int) (p p' : Option Addr) (n c c' v : Nat) (w : World) (h : MS w B b3 b4 b5 q P p p' n c c') (hn : n ≤ 100000) (hv : v < n) (hK : KpC w b3 b4 b5 K ob (Value.ownBlock (.slice p n c)) (Value.ownBlock (.slice p' n c'))) :
  Calls Tryz.prog 219 #[.iface 94 (.int .i64 (v : Int)), .pointer (some ⟨b3, 0, none⟩), .pointer (some ⟨b4, 0, none⟩), .pointer (some ⟨b5, 0, none⟩)] w fun e w' => e = .returned (.tuple #[]) ∧ MSx w' B b3 b4 b5 K ob q (meetP q P v) ∧ Below B w w' := by
 have n1 := isVar; have hl := h.l1; have hl2 := h.l2; obtain ⟨g1, cap1, hv1, hg1, _⟩ := h.r1.form (by omega); obtain ⟨g2, cap2, hv2, hg2, _⟩ := h.r2.form (by omega); simp only [Value.slice.injEq, true_and] at hv1 hv2; obtain ⟨rfl, rfl⟩ := hv1; obtain ⟨rfl, rfl⟩ := hv2; have x3 := h.c3; have x4 := h.c4; have x5 := h.c5
 have y2 : w.cell? ⟨g2, v, none⟩ = some (.int .i64 (P.2.getD v 0)) := by
  rw [h.r2.cellAt v (by omega)]
  simp [List.getD, show v < P.2.length by omega]
 have y1 : w.cell? ⟨g1, v, none⟩ = some (.int .i64 (P.1.getD v 0)) := by
  rw [h.r1.cellAt v (by omega)]
  simp [List.getD, show v < P.1.length by omega]
 have yf := h.r1.frozenAt v
 obtain ⟨fc, ef⟩ : ∃ fc, fc = P.2.getD v 0 := ⟨_, rfl⟩
 rw [← ef] at y2
 have hnv : ¬ ((v : Int) = (n : Int)) := by omega
 have hnb : ((v : Int) == (n : Int)) = false := by rw [beq_eq_false_iff_ne]; exact hnv
 have hvi : (0 : Int) ≤ (v : Int) := by omega
 have hvj : (v : Int) < (n : Int) := by omega
 have hvn : (v : Int).toNat = v := Int.toNat_natCast v
 have FIN : Hid (∀ m, MSx (((w.drewN m).setCell ⟨g1, v, none⟩ (.int .i64 (if fc ≠ q then 2 else 1)))) B b3 b4 b5 K ob q (meetP q P v) ∧ Below B w ((w.drewN m).setCell ⟨g1, v, none⟩ (.int .i64 (if fc ≠ q then 2 else 1)))) := fun m => by
  have hm : MS (w.drewN m) B b3 b4 b5 q P (some ⟨g1, 0, none⟩) (some ⟨g2, 0, none⟩) n c c' := h.below (below_drewN (Below.refl _ _) m); refine ⟨⟨some ⟨g1, 0, none⟩, some ⟨g2, 0, none⟩, n, c, c', ?_, ?_⟩, Below.setCell (below_drewN (Below.refl _ _) m) hg1 _⟩
  rotate_left
  ·have hk2 : KpC (w.drewN m) b3 b4 b5 K ob (Value.ownBlock (.slice (some ⟨g1, 0, none⟩) n c)) (Value.ownBlock (.slice (some ⟨g2, 0, none⟩) n c')) := hK.below (below_drewN (Below.refl _ _) m)
   refine ⟨?_, hk2.2⟩; rw [Below.heap_setCell _ _ _ _ (fun e => hk2.2.2.2.2.1 (by rw [e]; rfl))]; exact hk2.1
  have he : meetP q P (v : Int) = (P.1.set v (if fc ≠ q then 2 else 1), P.2) := by
   unfold meetP
   rw [if_neg (by rw [← hl]; exact hnv), hvn, ← ef]
   split <;> rfl
  rw [he]; exact hm.cls v _
 clear h hl hl2 hg1 hg2 ef hK
 by_cases hq : fc = q
 rotate_right
 case' _ =>
  have hqb : (fc != q) = true := by simpa using hq
  have F2 : Hid _ := FIN.out; rw [if_pos hq] at F2
 rotate_right
 case' _ =>
  have hqb : (fc != q) = false := by simp [hq]
  have F2 : Hid _ := FIN.out; rw [if_neg (by simp [hq])] at F2
 all_goals
  clear FIN
  go_enter Tryz.func219, Tryz.ntmps219
  go_wp2_with fail
  go_region_held3 (fun W => W.cell? ⟨b4, 0, none⟩ = some (.slice (some ⟨g2, 0, none⟩) n c') ∧ W.cell? ⟨g2, v, none⟩ = some (.int .i64 fc) ∧ W.cell? ⟨b5, 0, none⟩ = some (.int .i64 q)) (go_keep) (fail)
  rename_i hheld; clear hheld
  go_wp2_with fail; exact bodyPost_end (v := .tuple #[]) (by simp [results, Tryz.results219, go_sem]) rfl ⟨rfl, F2.out 1⟩
theorem visitC_any (c : Cel) (KP : List Value → Prop) (v : Value) (Bt B b3 b4 b5 K : Nat) (ob : Obj) (q : Int) (P : List Int × List Int) (w0 w : World) (hc : cellB c.1 c.2.1 c.2.2.length = true) (hl : P.1.length ≤ 100000) (hv : c.1 = 0 → 0 ≤ c.2.1 ∧ c.2.1 ≤ P.1.length) (hn : NodeIn w0 Bt c KP v) (hs : MSx w B b3 b4 b5 K ob q P) :
  Calls Tryz.prog 219 #[v, .pointer (some ⟨b3, 0, none⟩), .pointer (some ⟨b4, 0, none⟩), .pointer (some ⟨b5, 0, none⟩)] w fun e w' => e = .returned (.tuple #[]) ∧ MSx w' B b3 b4 b5 K ob q (meetC q P c) ∧ Below B w w' := by
 obtain ⟨p, p', n, cc, cc', hs, hK⟩ := hs
 have oth : ∀ (t : TypeId) (x : Value), (t = 149 ∨ t = 143 ∨ t = 156) → c.1 ≠ 0 → Calls Tryz.prog 219 #[.iface t x, .pointer (some ⟨b3, 0, none⟩), .pointer (some ⟨b4, 0, none⟩), .pointer (some ⟨b5, 0, none⟩)] w fun e w' => e = .returned (.tuple #[]) ∧ MSx w' B b3 b4 b5 K ob q (meetC q P c) ∧ Below B w w' := fun t x ht h0 =>
  (clsOther_any t x b3 b4 b5 w ht).mono fun e w' ⟨he, hw⟩ => by
    subst hw; exact ⟨he, by rw [meetC, if_neg h0]; exact ⟨_, _, _, _, _, hs, hK⟩, Below.refl _ _⟩
 rcases hn with ⟨h0, rfl⟩ | ⟨h0, rfl⟩ | ⟨h0, rfl⟩ | ⟨h0, b, g, vs, rfl, _⟩
 ·obtain ⟨h1, h2⟩ := hv h0
  rw [meetC, if_pos h0]; have hln := hs.l1
  by_cases e : c.2.1 = (P.1.length : Int)
  ·have hw := clsNew_any B b3 b4 b5 q P p p' n cc cc' w hs (by omega) K ob hK
   rw [show (n : Int) = c.2.1 by omega] at hw
   refine hw.mono fun e' w' ⟨he, hm, hb⟩ => ⟨he, ?_, hb⟩
   rw [meetP, if_pos e]; obtain ⟨p2, p2', n2, c2, c2', hm⟩ := hm; exact ⟨p2, p2', n2, c2, c2', hm⟩
  ·have hw := clsOld_any B b3 b4 b5 K ob q P p p' n cc cc' c.2.1.toNat w hs (by omega) (by omega) hK
   rw [show ((c.2.1.toNat : Nat) : Int) = c.2.1 by omega] at hw; exact hw
 ·exact oth _ _ (.inl rfl) (by rw [h0]; decide)
 ·exact oth _ _ (.inr (.inl rfl)) (by rw [h0]; decide)
 ·exact oth _ _ (.inr (.inr rfl)) (by rw [h0]; decide)
def WalkC (w : World) (B b3 b4 b5 K : Nat) (ob : Obj) (q : Int) (P : List Int × List Int) (e : Ending) (w' : World) : Prop := e = .returned (.tuple #[]) ∧ MSx w' B b3 b4 b5 K ob q P ∧ Below B w w'
set_option maxHeartbeats 1000000 in
theorem walkC_any : ∀ (N : Nat) (c : Cel) (k : Fo) (v : Value) (Bt B b3 b4 b5 K : Nat) (ob : Obj) (q0 : Int) (P : List Int × List Int) (w0 w : World), k.cells.length ≤ N → (Fo.node c k .nil).ok → FoIn w0 Bt (.node c k .nil) [v] → Below w0.heap.size w0 w → w0.heap.size ≤ B → B ≤ w.heap.size → MSx w B b3 b4 b5 K ob q0 P → P.1.length + 1 + k.cells.length ≤ 100000 → okV P.1.length (vsC (c :: k.cells)) →
  Calls Tryz.prog 192 #[v, .func (.func 219) #[] #[.pointer (some ⟨b3, 0, none⟩), .pointer (some ⟨b4, 0, none⟩), .pointer (some ⟨b5, 0, none⟩)]] w (WalkC w B b3 b4 b5 K ob q0 (meetsP q0 P (vsC (c :: k.cells)))) := by
 intro N
 induction N using Nat.strongRecOn with
 | _ N ih =>
   intro c k v Bt B b3 b4 b5 K ob q0 P w0 w hN hok hfo hw hB0 hB hs hlen hov
   obtain ⟨v', vr, e, hnode, _⟩ := hfo; obtain ⟨rfl, rfl⟩ := List.cons.inj e; have HV := visitC_any c _ v Bt B b3 b4 b5 K ob q0 P w0 w hok.1 (by omega) (okV_head hov) hnode hs; rw [meets_cons]; have hvl := meetC_len q0 P c (okV_head hov); have hov2 := okV_tail q0 P hov; have HOV : Hid (okV (meetC q0 P c).1.length (vsC k.cells)) := hov2; clear hov hov2; have HIH : Hid _ := ih; have HW : Hid (Below w0.heap.size w0 w) := hw
   have leaf : ∀ (t : TypeId) (x : Value), v = .iface t x → (t = 94 ∨ t = 149 ∨ t = 143) → c.1 ≠ 3 → Calls Tryz.prog 192 #[v, .func (.func 219) #[] #[.pointer (some ⟨b3, 0, none⟩), .pointer (some ⟨b4, 0, none⟩), .pointer (some ⟨b5, 0, none⟩)]] w (WalkC w B b3 b4 b5 K ob q0 (meetsP q0 (meetC q0 P c) (vsC k.cells))) := fun t x hv ht h3 => by
    have hk : k = .nil := hok.2.2.2.1 h3; subst hk hv
    have HA := fun W => argsLeaf_any t x W ht
    clear hok hnode hs HIH ih e hw
    go_enter Tryz.func192, Tryz.ntmps192
    go_wp2_with fail; refine HV.mono ?_; rintro e w1 ⟨rfl, hst, hb⟩; go_wp2_with fail; refine (HA _).mono ?_; rintro e w2 ⟨rfl, rfl⟩; go_wp2_with fail; refine wp_loop_rounds 1 ?_; rw [rounds_succ]; go_wp2_with fail
    go_end0
    exact ⟨rfl, hst, hb⟩
   rcases hnode with ⟨h0, hv⟩ | ⟨h0, hv⟩ | ⟨h0, hv⟩ | ⟨h0, b, g, vs, hv, hcomp⟩
   ·exact leaf _ _ hv (.inl rfl) (by rw [h0]; decide)
   ·exact leaf _ _ hv (.inr (.inl rfl)) (by rw [h0]; decide)
   ·exact leaf _ _ hv (.inr (.inr rfl)) (by rw [h0]; decide)
   ·subst hv
    clear leaf; have HC : Hid (CompAt w0 Bt c.2.2 k b g vs) := hcomp; have hvl2 : vs.length = k.count := FoIn.count _ _ hcomp.2.2.2.2.2.2
    obtain ⟨q, eq⟩ : ∃ q, q = vs.length := ⟨_, rfl⟩
    have HE : Hid (q = vs.length ∧ vs.length = k.count) := ⟨eq, hvl2⟩
    have hq : q ≤ 100000 := by have := Fo.count_le k; omega
    have HK : Hid k.ok := hok.2.2.2.2.1
    have HBB : Hid (b < w0.heap.size ∧ w0.cell? ⟨b, 1, none⟩ = some (.slice (some ⟨g, 0, none⟩) q q)) := ⟨World.block_lt_of_cell? _ _ hcomp.2.2.2.1, by rw [eq]; exact hcomp.2.2.2.1⟩
    clear hcomp hok hs ih e hw eq hvl2
    go_enter Tryz.func192, Tryz.ntmps192
    go_wp2_with fail; refine HV.mono ?_; rintro e w1 ⟨rfl, hst, hb1⟩; have d1 : w1.cell? ⟨b, 1, none⟩ = some (.slice (some ⟨g, 0, none⟩) q q) := (((HW.out.trans (hb1.mono hB0)).cell (p := ⟨b, 1, none⟩) HBB.out.1)).trans HBB.out.2; have HST : Hid _ := hst; have HB1 : Hid (Below B w w1) := hb1; clear hst hb1 HV; go_wp2_with fail; refine (argsComp_any b g q _ d1).mono ?_; rintro e w2 ⟨rfl, hw2⟩; subst hw2; clear d1; go_wp2_with fail
    go_loopw [12] (fun i wr => ∃ (D R : Fo) (us vs2 : List Value) (j : Nat), j ≤ q ∧ i = .int .i64 j ∧ Hid (k = D.cat R ∧ vs = us ++ vs2 ∧ us.length = j) ∧ Hid (FoIn w0 Bt R vs2) ∧ Hid (MSx wr B b3 b4 b5 K ob q0 (meetsP q0 (meetC q0 P c) (vsC D.cells))) ∧ Hid (Below B w wr)) (fun i _ => q - (intOf i).toNat)
    case atStart => exact ⟨.nil, k, [], vs, 0, Nat.zero_le _, rfl, ⟨rfl, rfl, rfl⟩, HC.out.2.2.2.2.2.2, HST, HB1⟩
    case round =>
     obtain ⟨D, R, us, vs2, j, hj, rfl, HF, HR, HS, HB⟩ := hrel
     by_cases hlt : j < q
     ·obtain ⟨c', k', r', rfl⟩ : ∃ c' k' r', R = .node c' k' r' := by
       cases R with
       | nil =>
         have h1 := HF.out; have h2 : vs2 = [] := HR.out; have h3 := HE.out.1; rw [h1.2.1, h2, List.append_nil] at h3
         omega
       | node c' k' r' => exact ⟨c', k', r', rfl⟩
      obtain ⟨v, vr, rfl, hnode, hrest⟩ := HR.out; have hok2 := (Fo.ok_cat D (.node c' k' r')).1 (HF.out.1 ▸ HK.out)
      have hl2 : D.cells.length + (k'.cells.length + r'.cells.length + 1) = k.cells.length := by
       rw [HF.out.1, Fo.cells_cat]; simp [Fo.cells]
      have hat : w0.cell? ⟨g, j, none⟩ = some v := by
       rw [HC.out.2.2.2.2.2.1 j (by rw [← HE.out.1]; exact hlt), HF.out.2.1]
       simp [List.getD, HF.out.2.2]
      have hwr : Below w0.heap.size w0 wr := HW.out.trans (HB.out.mono hB0); have c5 : wr.cell? ⟨g, j, none⟩ = some v := (hwr.cell (World.block_lt_of_cell? _ _ hat)).trans hat; have hs4 := HS.out
      have hoD : okV (meetC q0 P c).1.length (vsC (D.cells ++ (c' :: (k'.cells ++ r'.cells)))) := by have := HOV.out; rw [HF.out.1, Fo.cells_cat] at this; exact this
      rw [vsC_append, okV_append] at hoD; have hlD := meets_len q0 (vsC D.cells) (meetC q0 P c) hoD.1
      have hoK : okV (meetsP q0 (meetC q0 P c) (vsC D.cells)).1.length (vsC (c' :: k'.cells)) := by
       rw [hlD]; have h9 := hoD.2; rw [show c' :: (k'.cells ++ r'.cells) = (c' :: k'.cells) ++ r'.cells from rfl, vsC_append, okV_append] at h9; exact h9.1
      have hlE := endV_up (meetC q0 P c).1.length (vsC D.cells); have hvcl := vsC_len D.cells; have hB4 : B ≤ wr.heap.size := Nat.le_trans hB HB.out.size; have HWK := HIH.out k'.cells.length (by omega) c' k' v Bt B b3 b4 b5 K ob q0 (meetsP q0 (meetC q0 P c) (vsC D.cells)) w0 wr (Nat.le_refl _) ⟨hok2.2.1, hok2.2.2.1, hok2.2.2.2.1, hok2.2.2.2.2.1, hok2.2.2.2.2.2.1, trivial⟩ ⟨v, [], rfl, hnode, rfl⟩ hwr hB0 hB4 hs4 (by omega) hoK; obtain ⟨vt, vx, rfl⟩ := hnode.iface; have HRR : Hid (FoIn w0 Bt r' vr) := hrest; clear hok2 hl2 hat hwr hs4 hnode hrest HIH hoD hlD hoK hlE hvcl; go_wp2_with fail; refine HWK.mono ?_; rintro e w3 ⟨rfl, hst3, hb3⟩
      have HN : Hid (k = (D.cat (.node c' k' .nil)).cat r' ∧ vs = (us ++ [.iface vt vx]) ++ vr ∧ (us ++ [Value.iface vt vx]).length = j + 1) := ⟨by rw [Fo.cat_assoc]; exact HF.out.1, by rw [HF.out.2.1]; simp, by simp [HF.out.2.2]⟩
      have HST3 : Hid (MSx w3 B b3 b4 b5 K ob q0 (meetsP q0 (meetC q0 P c) (vsC (D.cat (.node c' k' .nil)).cells))) := by
       show MSx w3 B b3 b4 b5 K ob q0 _
       rw [Fo.cells_cat, vsC_append, meets_append]; simpa [Fo.cells] using hst3
      have HB3 : Hid (Below B w w3) := HB.out.trans hb3; clear hst3 hb3 HWK; go_wp2_with fail; go_roundw
      case rel => exact ⟨D.cat (.node c' k' .nil), r', us ++ [.iface vt vx], vr, j + 1, by omega, by go_num, HN, HRR, HST3, HB3⟩
      case measure => simp [intOf]; omega
     ·obtain rfl : j = q := by omega
      obtain rfl : R = .nil := by
       have h1 := FoIn.count _ _ HR.out; have h2 := HE.out; rw [HF.out.2.1, List.length_append] at h2; have h3 := HF.out.2.2
       cases R with
       | nil => rfl
       | node a b d => simp [Fo.count] at h1; omega
      have HF' : Hid (D = k) := by have := HF.out.1; rw [Fo.cat_nil] at this; exact this.symm
      go_wp2_with fail
      go_end0
      refine ⟨rfl, ?_, HB.out⟩; have h1 := HS.out
      rwa [HF'.out] at h1
theorem isCall_any (t : TypeId) (x : Value) (op : Int) (w : World) : Calls Tryz.prog 108 #[.agg #[.iface t x, .int .i64 op]] w fun e w' => e = .returned (.bool (op == 19)) ∧ Below w.heap.size w w' := by
 have HB : Hid (∀ o, Below w.heap.size w (w.alloc o)) := fun o => (Below.refl _ _).alloc (Nat.le_refl _) _
 go_enter Tryz.func108, Tryz.ntmps108
 go_wp2_with fail; go_ret; exact ⟨rfl, HB.out _⟩
theorem giO_call {g : Tr} (hok : (Fo.node g.1 g.2 .nil).ok) (hg : goodG g = true) : (giO g.1 == 19) = !inlG g := by
 obtain ⟨⟨a, b, d⟩, k⟩ := g
 have hcal : calC (a, b, d) = true := by
  unfold goodG at hg
  simp only [Bool.and_eq_true] at hg; exact hg.1
 have hf : fA (a, b, d) = b := by
  unfold fA
  split
  ·rfl
  ·rename_i h3
   have h2 : a = 2 := by
    unfold calC at hcal
    simp only [decide_eq_true_eq] at hcal
    rcases hcal with h | h
    ·exact h
    ·exact absurd h h3
   have h9 : cellB a b d.length = true := hok.1; rw [h2] at h9
   simp [cellB] at h9
   exact h9.2.symm
 have hb : buC (a, b, d) = isBu (unU d) b := rfl
 show (giO (a, b, d) == 19) = !(spcC (a, b, d) || buC (a, b, d))
 rw [hb]
 unfold giO
 rw [hf]
 have hsp : spcC (a, b, d) = decide (((a, b, d) : Cel) = (3, 1, lvlN) ∨ ((a, b, d) : Cel) = (3, 1, mrkN) ∨ ((a, b, d) : Cel) = (3, 1, cutN)) := by
  unfold spcC
  congr 1
  rw [eq_iff_iff]; simp only [Prod.mk.injEq]
  constructor
  ·rintro ⟨h1, h2, h3 | h3 | h3⟩
   ·exact .inl ⟨h1, h2, h3⟩
   ·exact .inr (.inl ⟨h1, h2, h3⟩)
   ·exact .inr (.inr ⟨h1, h2, h3⟩)
  ·rintro (⟨h1, h2, h3⟩ | ⟨h1, h2, h3⟩ | ⟨h1, h2, h3⟩)
   ·exact ⟨h1, h2, .inl h3⟩
   ·exact ⟨h1, h2, .inr (.inl h3)⟩
   ·exact ⟨h1, h2, .inr (.inr h3)⟩
 rw [hsp]
 by_cases h1 : ((a, b, d) : Cel) = (3, 1, lvlN)
 ·rw [if_pos h1, decide_eq_true (.inl h1)]; rfl
 rw [if_neg h1]
 by_cases h2 : ((a, b, d) : Cel) = (3, 1, mrkN)
 ·rw [if_pos h2, decide_eq_true (.inr (.inl h2))]; rfl
 rw [if_neg h2]
 by_cases h3 : ((a, b, d) : Cel) = (3, 1, cutN)
 ·rw [if_pos h3, decide_eq_true (.inr (.inr h3))]; rfl
 rw [if_neg h3, decide_eq_false (by rintro (h | h | h) <;> contradiction)]
 show ((if calC (a, b, d) = true ∧ isBu (unU d) b = true then (22 : Int) else 19) == 19) = _
 rw [hcal]
 cases isBu (unU d) b <;> rfl
theorem gRow_at : ∀ (gs : List Tr) (vs : List Value), vs.length = gs.length → ∀ j (h : j < gs.length) (v : Value), vs[j]? = some v → (gRow gs vs)[j * 2]? = some v ∧ (gRow gs vs)[j * 2 + 1]? = some (.int .i64 (giO gs[j].1))
 | [], vs, _, j, h, _, _ => by simp at h
 | g :: r, [], h, _, _, _, _ => by simp at h
 | g :: r, u :: q, hl, 0, h, v, hv => by
   simp at hv
   subst hv; exact ⟨rfl, rfl⟩
 | g :: r, u :: q, hl, j + 1, h, v, hv => by
   have ih := gRow_at r q (by simpa using hl) j (by simpa using h) v (by simpa using hv); rw [show (j + 1) * 2 = j * 2 + 1 + 1 by omega, show j * 2 + 1 + 1 + 1 = (j * 2 + 1) + 1 + 1 by omega]; exact ih
theorem MS.chunk {w : World} {B b3 b4 b5 : Nat} {q : Int} {P : List Int × List Int} {p p' : Option Addr} {n c c' : Nat} (h : MS w B b3 b4 b5 q P p p' n c c') (x : Int) : MS (w.setCell ⟨b5, 0, none⟩ (.int .i64 x)) B b3 b4 b5 x P p p' n c c' := by
 obtain ⟨y1, y2, y3, z1, z2, z3⟩ := h.bB
 have cl : ∀ b, b ≠ b5 → (w.setCell ⟨b5, 0, none⟩ (.int .i64 x)).cell? ⟨b, 0, none⟩ = w.cell? ⟨b, 0, none⟩ := fun b hb => World.cell?_of_block (Below.heap_setCell _ _ _ _ hb)
 have rS : ∀ (v : Value) (m : Nat) (xs : List Value), (∀ k, Value.ownBlock v = some k → k ≠ b5) → w.ownsRow B 3 1 v m xs → (w.setCell ⟨b5, 0, none⟩ (.int .i64 x)).ownsRow B 3 1 v m xs := fun v m xs hk hr => by
  refine ⟨hr.1, ?_⟩
  rcases hr.2 with h0 | ⟨g', cap, cur, hv, hgB, hh, r⟩
  ·exact .inl h0
  ·exact .inr ⟨g', cap, cur, hv, hgB, by rw [Below.heap_setCell _ _ _ _ (hk g' (by rw [hv]; rfl))]; exact hh, r⟩
 refine ⟨(cl b3 z2).trans h.c3, (cl b4 z3).trans h.c4, World.cell?_setCell_same _ _ _ h.c5, ?_, ?_, ?_, h.l1, h.l2, rS _ _ _ (fun k hk => (h.ne k hk).2.2.1) h.r1, rS _ _ _ (fun k hk => (h.ne' k hk).2.2) h.r2, h.ne, h.ne', h.bB, by simpa using h.lt⟩
 ·rw [World.frozen?_setCell]; exact h.f3
 ·rw [World.frozen?_setCell]; exact h.f4
 ·rw [World.frozen?_setCell]; exact h.f5
theorem MSx.chunk {w : World} {B b3 b4 b5 K : Nat} {ob : Obj} {q : Int} {P : List Int × List Int} (h : MSx w B b3 b4 b5 K ob q P) (x : Int) : MSx (w.setCell ⟨b5, 0, none⟩ (.int .i64 x)) B b3 b4 b5 K ob x P := by
 obtain ⟨p, p', n, c, c', h, hk⟩ := h; exact ⟨p, p', n, c, c', h.chunk x, (Below.heap_setCell _ _ _ _ hk.2.2.2.1).trans hk.1, hk.2⟩
theorem MSx.fresh {w : World} {B b3 b4 b5 K : Nat} {ob : Obj} {q : Int} {P : List Int × List Int} (h : MSx w B b3 b4 b5 K ob q P) (o : Obj) : MSx (w.alloc o) B b3 b4 b5 w.heap.size o q P := by
 obtain ⟨p, p', n, c, c', h, hk⟩ := h; have hlt := h.lt
 have o1 := fun k e => (h.r1.lt k e).2
 have o2 := fun k e => (h.r2.lt k e).2
 refine ⟨p, p', n, c, c', h.below ((Below.refl _ _).alloc (Nat.le_refl _) _), heap_alloc_new w o, by omega, by omega, by omega, fun e => ?_, fun e => ?_⟩
 ·exact absurd (o1 _ e) (Nat.lt_irrefl _)
 ·exact absurd (o2 _ e) (Nat.lt_irrefl _)
theorem ms_new (w : World) (o : Obj) :
  MSx ((((w.alloc o).alloc (.cells #[.slice none 0 0] 42)).alloc (.cells #[.slice none 0 0] 42)).alloc (.cells #[.int .i64 0] 3)) (w.heap.size + 1) (w.heap.size + 1) (w.heap.size + 1 + 1) (w.heap.size + 1 + 1 + 1) w.heap.size o 0 ([], []) := by
 have e3 := heap_three (w.alloc o) (.cells #[.slice none 0 0] 42) (.cells #[.slice none 0 0] 42) (.cells #[.int .i64 0] 3)
 have es : (w.alloc o).heap.size = w.heap.size + 1 := by simp
 rw [es] at e3
 generalize hW : (((w.alloc o).alloc (.cells #[.slice none 0 0] 42)).alloc (.cells #[.slice none 0 0] 42)).alloc (.cells #[.int .i64 0] 3) = W at e3 ⊢
 have h3 : W.heap[w.heap.size + 1]? = some (.cells #[.slice none 0 0] 42) := by
  rw [← hW, Below.heap_alloc _ _ _ (by simp <;> omega), Below.heap_alloc _ _ _ (by simp)]; have := heap_alloc_new (w.alloc o) (.cells #[.slice none 0 0] 42); rw [es] at this; exact this
 have h0 : W.heap[w.heap.size]? = some o := by
  rw [← hW, Below.heap_alloc _ _ _ (by simp <;> omega), Below.heap_alloc _ _ _ (by simp <;> omega), Below.heap_alloc _ _ _ (by simp)]; exact heap_alloc_new w o
 have hsz : W.heap.size = w.heap.size + 4 := by rw [← hW]; simp
 refine ⟨none, none, 0, 0, 0, ⟨cell_of_row _ _ 0 _ _ _ h3, cell_of_row _ _ 0 _ _ _ e3.1, cell_of_row _ _ 0 _ _ _ e3.2, frozen_of_row _ _ 0 _ _ h3, frozen_of_row _ _ 0 _ _ e3.1, frozen_of_row _ _ 0 _ _ e3.2, rfl, rfl, World.ownsRow_nil _ _ _ _, World.ownsRow_nil _ _ _ _, fun k e => (by cases e), fun k e => (by cases e), by omega, by omega⟩, h0, by omega, by omega, by omega, fun e => (by cases e), fun e => (by cases e)⟩
theorem goalsP_drop {gs : List Tr} {j : Nat} (h : j < gs.length) (q : Int) (P : List Int × List Int) : goalsP q P (gs.drop j) = goalsP (if inlG gs[j] then q else q + 1) (meetsP q P (vsC (gs[j].1 :: gs[j].2.cells))) (gs.drop (j + 1)) := by
 rw [List.drop_eq_getElem_cons h]; rfl
theorem vsG_drop {gs : List Tr} {j : Nat} (h : j < gs.length) : vsG (gs.drop j) = vsC (gs[j].1 :: gs[j].2.cells) ++ vsG (gs.drop (j + 1)) := by
 rw [List.drop_eq_getElem_cons h]; rfl
end
end Go.Proofs.YtickbkcpcgmlmaaGreatDoor
