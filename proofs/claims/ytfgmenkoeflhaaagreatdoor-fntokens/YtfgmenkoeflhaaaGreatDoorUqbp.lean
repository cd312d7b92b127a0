/- Texts of Scan10, Scan11, Tk1, LxP. Own work of the verifier. -/
import Derived.Test.YtfgmenkoeflhaaaGreatDoorUqbm
namespace Go.Proofs.YtfgmenkoeflhaaaGreatDoor
set_option linter.unusedVariables false
set_option maxRecDepth 100000
section
open Go Go.RowKit
set_option linter.unusedSimpArgs false
theorem Hid.mk {p : Prop} (h : p) : Hid p := h
theorem grown_on {w w1 : World} {S : Nat} (h : Below w.heap.size w (w.alloc tokO)) (k : (w.alloc tokO).grownBy w1 (some S)) : w.grownBy w1 (some S) := (grown_of_below h _).trans k
theorem size_lt {w w1 : World} {S q : Nat} (M : Moved (w.alloc tokO) w1 S q) : w.heap.size < w1.heap.size := by have := M.grown.size; simp only [World.size_alloc] at this; omega
theorem blk_kept {w w1 : World} {S q : Nat} (hS : S < w.heap.size) (M : Moved (w.alloc tokO) w1 S q) : w1.heap[w.heap.size]? = some tokO :=
 (M.grown.block w.heap.size (by simp) (by simp; omega)).trans (by show (w.heap.push tokO)[w.heap.size]? = _; simp)
theorem next_end {w w1 : World} {S pos len m c1 : Nat} {kd vv : Int} {p : Option Addr} {ys : List Int} (hB : Below w.heap.size w (w.alloc tokO)) (hS : S < w.heap.size) (M : Moved (w.alloc tokO) w1 S (pos + len))
 (ho : OwnS w1 (w.alloc tokO).heap.size p m c1 ys) (hlt : w.heap.size < w1.heap.size) :
 TokOut w S pos (.ok (kd, len, ys, vv)) (.returned (tokV kd pos len p m c1 vv)) (w1.setCells w.heap.size 0 [.int .i64 kd, .int .i64 pos, .int .i64 len, .slice p m c1, .int .i64 vv]) := by
 have hG := grown_set5 w1 w.heap.size (.int .i64 kd) (.int .i64 pos) (.int .i64 len) (.slice p m c1) (.int .i64 vv)
 have hform : ∀ g, p = some ⟨g, 0, none⟩ → w.heap.size + 1 ≤ g := fun g e => by
  rcases ho.form with ⟨e', _⟩ | ⟨g', e', h, _⟩
  ·rw [e'] at e; cases e
  ·rw [e'] at e; cases e; simpa using h
 have hO2 := ho.kept hG (fun g e e' => by have := hform g e; simp only [Option.some.injEq] at e'; omega); refine ⟨p, m, c1, rfl, ⟨hO2.1, hO2.2.1, hO2.2.2.imp id fun ⟨g, c, cur, a1, a2, a3⟩ => ⟨g, c, cur, a1, by simp at a2; omega, a3⟩⟩, ?_⟩; exact Moved.onto hB M (Below.of_grown hG (Nat.le_of_lt hlt) (fun k e => by cases e; exact Nat.le_refl _)) hS
theorem single_out {w w' : World} {S pos : Nat} {kind x : Int} {xs : List Int} {e : Ending} (hx : x = xs.getD pos 0) (h : ∃ p' n' c', e = .returned (tokV kind pos 1 p' n' c' 0) ∧ OwnS w' w.heap.size p' n' c' [xs.getD pos 0] ∧ Moved w w' S (pos + 1)) : TokOut w S pos (.ok (kind, 1, [x], 0)) e w' := by
 rw [hx]; exact h
theorem tok_drew {W w' : World} {S pos k : Nat} {r : TokR} {e : Ending} (hS : S < W.heap.size) (h : TokOut (W.drewN k) S pos r e w') : TokOut W S pos r e w' := by
 have hb : Below W.heap.size W (W.drewN k) := below_drewN (Below.refl _ _) k
 cases r with
 | error code => exact ⟨h.1, (grown_of_below hb _).trans h.2⟩
 | ok r =>
   obtain ⟨kd, len, ys, vv⟩ := r; obtain ⟨p, n, c, he, ho, hm⟩ := h; exact ⟨p, n, c, he, ho, Moved.onto hb hm (Below.refl _ _) hS⟩
def callI (ka la ll : Int) (pos : Nat) : Bool := decide (ka = 1 ∧ la + ll = pos)
theorem behind_any (S pos : Nat) (ka la ll : Int) (w : World) (h1 : w.cell? ⟨S, 1, none⟩ = some (.int .i64 pos)) (h2 : w.cell? ⟨S, 2, none⟩ = some (.int .i64 ka)) (h3 : w.cell? ⟨S, 3, none⟩ = some (.int .i64 la)) (h4 : w.cell? ⟨S, 4, none⟩ = some (.int .i64 ll))
 (hla : 0 ≤ la ∧ la ≤ 100000) (hll : 0 ≤ ll ∧ ll ≤ 100000) (hp : pos ≤ 100000) :
 Calls Tryz.prog 76 #[.pointer (some ⟨S, 0, none⟩)] w fun e w' => e = .returned (.bool (callI ka la ll pos)) ∧ ∃ m, w' = w.drewN m := by
 by_cases a : ka = 1
 ·subst a
  have hwr : IntKind.i64.wrap (la + ll) = la + ll := by rw [IntKind.wrap_i64]; omega
  have e : callI 1 la ll pos = (la + ll == (pos : Int)) := by unfold callI; rw [Bool.eq_iff_iff]; simp
  rw [e]; clear e
  go_enter Tryz.func76, Tryz.ntmps76
  go_wp2
  all_goals (try go_quiet (fail))
  all_goals (try go_wp2)
  go_ret; exact ⟨rfl, _, rfl⟩
 ·have e : callI ka la ll pos = false := by unfold callI; rw [decide_eq_false_iff_not]; omega
  have t : (ka == 1) = false := by simpa using a
  rw [e]; clear e a
  go_enter Tryz.func76, Tryz.ntmps76
  go_wp2
  all_goals (try go_quiet (fail))
  all_goals (try go_wp2)
  go_ret; exact ⟨rfl, _, rfl⟩
theorem isOf7_all : (List.range 257).all (fun c => (!isOfB ((c : Int) - 1) 1 || isOfB ((c : Int) - 1) 7) && (!isOfB ((c : Int) - 1) 2 || isOfB ((c : Int) - 1) 7)) = true := by decide +kernel
theorem isOf7 {b : Int} (h0 : -1 ≤ b) (h1 : b < 256) (h : isOfB b 1 = true ∨ isOfB b 2 = true) : isOfB b 7 = true := by
 have hh := List.all_eq_true.1 isOf7_all (b + 1).toNat (by simp; omega); rw [show (((b + 1).toNat : Nat) : Int) - 1 = b by omega] at hh; simp only [Bool.and_eq_true, Bool.or_eq_true, Bool.not_eq_true'] at hh
 rcases h with h | h
 ·rcases hh.1 with h' | h'
  ·rw [h] at h'; cases h'
  ·exact h'
 ·rcases hh.2 with h' | h'
  ·rw [h] at h'; cases h'
  ·exact h'
def runR (xs : List Int) (pos : Nat) (kind k : Int) : TokR := if 100 < runI k xs pos then .error 3 else .ok (kind, runI k xs pos, (xs.drop pos).take (runI k xs pos), 0)
theorem taken_out {w w' : World} {S pos : Nat} {kind k : Int} {xs : List Int} {e : Ending} (hp : pos ≤ xs.length) (h : Taken w S kind pos (runI k xs pos) ((xs.drop pos).take (runI k xs pos)) e w') : TokOut w S pos (runR xs pos kind k) e w' := by
 have hl : ((xs.drop pos).take (runI k xs pos)).length = runI k xs pos := by have := runI_le k xs pos hp; simp; omega
 unfold runR
 rcases h with ⟨h, p, n, c, he, ho, hm⟩ | ⟨h, hf, hg⟩
 ·rw [hl] at h; rw [if_neg (by omega)]; exact ⟨p, n, c, he, ho, hm⟩
 ·rw [hl] at h; rw [if_pos h]; exact ⟨hf, hg⟩
def nextF (x : Int) (call : Bool) (xs : List Int) (pos : Nat) : TokR :=
 if isOfB x 1 = true then runR xs pos 1 7 else if isOfB x 2 = true then runR xs pos 2 7 else if isOfB x 4 = true then numR xs pos
 else if x = 46 ∧ endsI (byteI xs (pos + 1)) = true then .ok (7, 1, [], 0) else if isOfB x 8 = true then runR xs pos 1 8 else if isOfB x 32 = true then .ok (1, 1, [x], 0)
 else if x = 39 then quoR xs 1 pos else if x = 34 then quoR xs 4 pos else if x = 40 ∧ call = true then .ok (6, 1, [x], 0) else if isOfB x 64 = true then .ok (5, 1, [x], 0) else .error 2
def nextR (xs : List Int) (call : Bool) (pos : Nat) : TokR := nextF (byteI xs pos) call xs pos
set_option maxHeartbeats 4000000 in
theorem nextS_any (S b n c pos : Nat) (ka la ll : Int) (xs : List Int) (w : World) (E : Env w S b n c pos xs) (hp : pos < xs.length)
 (h2 : w.cell? ⟨S, 2, none⟩ = some (.int .i64 ka)) (h3 : w.cell? ⟨S, 3, none⟩ = some (.int .i64 la)) (h4 : w.cell? ⟨S, 4, none⟩ = some (.int .i64 ll)) (hla : 0 ≤ la ∧ la ≤ 100000) (hll : 0 ≤ ll ∧ ll ≤ 100000) :
 Calls Tryz.prog 41 #[.pointer (some ⟨S, 0, none⟩)] w fun e w' => TokOut w S pos (nextR xs (callI ka la ll pos) pos) e w' := by
 have HV : Hid (Env (w.alloc tokO) S b n c pos xs) := E.alloc _; have h1 : (w.alloc tokO).cell? ⟨S, 1, none⟩ = some (.int .i64 pos) := (E.alloc tokO).at1; have HL2 : Hid ((w.alloc tokO).cell? ⟨S, 2, none⟩ = some (.int .i64 ka)) := Lib.cell?_alloc_marked _ h2; have HL3 : Hid ((w.alloc tokO).cell? ⟨S, 3, none⟩ = some (.int .i64 la)) := Lib.cell?_alloc_marked _ h3; have HL4 : Hid ((w.alloc tokO).cell? ⟨S, 4, none⟩ = some (.int .i64 ll)) := Lib.cell?_alloc_marked _ h4; have HB0 : Hid (Below w.heap.size w (w.alloc tokO)) := (Below.refl _ _).alloc (Nat.le_refl _) _; have HS : Hid (S < w.heap.size) := E.inH; have hsm : n ≤ 10000 := E.small
 have hpn : pos < n := by rw [E.len]; exact hp
 have HP : Hid (pos < xs.length) := hp; have hr := byteI_rng E.bytes pos
 obtain ⟨x, ex⟩ : ∃ x, x = byteI xs pos := ⟨_, rfl⟩
 obtain ⟨nd, en⟩ : ∃ nd, nd = endsI (byteI xs (pos + 1)) := ⟨_, rfl⟩
 obtain ⟨cb, ec⟩ : ∃ cb, cb = callI ka la ll pos := ⟨_, rfl⟩
 rw [← ex] at hr
 have HU : Hid (nextR xs (callI ka la ll pos) pos = nextF x cb xs pos) := by show _ = _; rw [ex, ec]; rfl
 have HX : Hid (byteI xs pos = x) := ex.symm; have HN : Hid (endsI (byteI xs (pos + 1)) = nd) := en.symm; have HCB : Hid (callI ka la ll pos = cb) := ec.symm
 have HXD : Hid (x = xs.getD pos 0) := by show _ = _; rw [ex, byteI_lt hp]
 clear E h2 h3 h4 ex en ec hp
 by_cases t1 : isOfB x 1 = true
 ·have HQ : Hid (nextR xs (callI ka la ll pos) pos = runR xs pos 1 7) := by show _ = _; rw [HU.out]; unfold nextF; rw [if_pos t1]
  have HC := (run_any S b n c pos 1 7 xs (w.alloc tokO) HV.out.bytes HV.out.len HV.out.cap (by omega) HP.out (by rw [HX.out]; exact isOf7 hr.1 hr.2 (.inl t1)) HV.out.src HV.out.at1 (HV.out.fz 1) HV.out.inH HV.out.row HV.out.tab).mono (fun e w' h => taken_out (Nat.le_of_lt HP.out) h)
  cases hR : runR xs pos 1 7 with
  | error code =>
    rw [hR] at HC; have HG : Hid (nextR xs (callI ka la ll pos) pos = .error code) := HQ.out.trans hR; clear hR HU HQ
    go_enter Tryz.func41, Tryz.ntmps41
    go_wp2_with (first | (go_at_call 67; refine (byteAt_any S b n c xs pos _ HV.out.bytes HV.out.len (by have := HV.out.small; omega) (by omega) HV.out.src HV.out.row).mono ?_; rintro e w' ⟨rfl, rfl⟩; rw [HX.out]) | (go_at_call 43; refine (isOf_any _ _ _ (by omega) (by omega) HV.out.tab).mono ?_; rintro e w' ⟨rfl, rfl⟩) | (go_at_call 70; refine HC.mono ?_; rintro e w1 ⟨hfa, hgr⟩; cases hfa)); refine ⟨rfl, tokOut_of ?_ HG.out⟩; exact ⟨rfl, grown_on HB0.out hgr⟩
  | ok r =>
    obtain ⟨kd, len, ys, vv⟩ := r; rw [hR] at HC; have HG : Hid (nextR xs (callI ka la ll pos) pos = .ok (kd, len, ys, vv)) := HQ.out.trans hR; clear hR HU HQ
    go_enter Tryz.func41, Tryz.ntmps41
    go_wp2_with (first | (go_at_call 67; refine (byteAt_any S b n c xs pos _ HV.out.bytes HV.out.len (by have := HV.out.small; omega) (by omega) HV.out.src HV.out.row).mono ?_; rintro e w' ⟨rfl, rfl⟩; rw [HX.out]) | (go_at_call 43; refine (isOf_any _ _ _ (by omega) (by omega) HV.out.tab).mono ?_; rintro e w' ⟨rfl, rfl⟩) | (go_at_call 70; refine HC.mono ?_; rintro e w1 ⟨p, m, c1, rfl, hown, M⟩; have HM := Hid.mk M; have HO := Hid.mk hown; have hlt0 := size_lt M; have hblk := blk_kept HS.out M; obtain ⟨d0, d1, d2, d3, d4⟩ := five w1 w.heap.size hblk; obtain ⟨g0, g1, g2, g3, g4⟩ := fiveF w1 w.heap.size hblk; clear M hblk hown)); refine bodyPost_ret (v := tokV kd pos len p m c1 vv) (by simp [results, Tryz.results41, go_sem, d0, d1, d2, d3, d4, hlt0]) rfl (tokOut_of ?_ HG.out); exact next_end HB0.out HS.out HM.out HO.out hlt0
 have s1 : isOfB x 1 = false := by simpa using t1
 by_cases t2 : isOfB x 2 = true
 ·have HQ : Hid (nextR xs (callI ka la ll pos) pos = runR xs pos 2 7) := by show _ = _; rw [HU.out]; unfold nextF; rw [if_neg t1, if_pos t2]
  have HC := (run_any S b n c pos 2 7 xs (w.alloc tokO) HV.out.bytes HV.out.len HV.out.cap (by omega) HP.out (by rw [HX.out]; exact isOf7 hr.1 hr.2 (.inr t2)) HV.out.src HV.out.at1 (HV.out.fz 1) HV.out.inH HV.out.row HV.out.tab).mono (fun e w' h => taken_out (Nat.le_of_lt HP.out) h)
  cases hR : runR xs pos 2 7 with
  | error code =>
    rw [hR] at HC; have HG : Hid (nextR xs (callI ka la ll pos) pos = .error code) := HQ.out.trans hR; clear hR HU HQ
    go_enter Tryz.func41, Tryz.ntmps41
    go_wp2_with (first | (go_at_call 67; refine (byteAt_any S b n c xs pos _ HV.out.bytes HV.out.len (by have := HV.out.small; omega) (by omega) HV.out.src HV.out.row).mono ?_; rintro e w' ⟨rfl, rfl⟩; rw [HX.out]) | (go_at_call 43; refine (isOf_any _ _ _ (by omega) (by omega) HV.out.tab).mono ?_; rintro e w' ⟨rfl, rfl⟩) | (go_at_call 70; refine HC.mono ?_; rintro e w1 ⟨hfa, hgr⟩; cases hfa)); refine ⟨rfl, tokOut_of ?_ HG.out⟩; exact ⟨rfl, grown_on HB0.out hgr⟩
  | ok r =>
    obtain ⟨kd, len, ys, vv⟩ := r; rw [hR] at HC; have HG : Hid (nextR xs (callI ka la ll pos) pos = .ok (kd, len, ys, vv)) := HQ.out.trans hR; clear hR HU HQ
    go_enter Tryz.func41, Tryz.ntmps41
    go_wp2_with (first | (go_at_call 67; refine (byteAt_any S b n c xs pos _ HV.out.bytes HV.out.len (by have := HV.out.small; omega) (by omega) HV.out.src HV.out.row).mono ?_; rintro e w' ⟨rfl, rfl⟩; rw [HX.out]) | (go_at_call 43; refine (isOf_any _ _ _ (by omega) (by omega) HV.out.tab).mono ?_; rintro e w' ⟨rfl, rfl⟩) | (go_at_call 70; refine HC.mono ?_; rintro e w1 ⟨p, m, c1, rfl, hown, M⟩; have HM := Hid.mk M; have HO := Hid.mk hown; have hlt0 := size_lt M; have hblk := blk_kept HS.out M; obtain ⟨d0, d1, d2, d3, d4⟩ := five w1 w.heap.size hblk; obtain ⟨g0, g1, g2, g3, g4⟩ := fiveF w1 w.heap.size hblk; clear M hblk hown)); refine bodyPost_ret (v := tokV kd pos len p m c1 vv) (by simp [results, Tryz.results41, go_sem, d0, d1, d2, d3, d4, hlt0]) rfl (tokOut_of ?_ HG.out); exact next_end HB0.out HS.out HM.out HO.out hlt0
 have s2 : isOfB x 2 = false := by simpa using t2
 by_cases t3 : isOfB x 4 = true
 ·have HQ : Hid (nextR xs (callI ka la ll pos) pos = numR xs pos) := by show _ = _; rw [HU.out]; unfold nextF; rw [if_neg t1, if_neg t2, if_pos t3]
  have HC := number_any S b n c pos xs (w.alloc tokO) HV.out (by omega)
  cases hR : numR xs pos with
  | error code =>
    rw [hR] at HC; have HG : Hid (nextR xs (callI ka la ll pos) pos = .error code) := HQ.out.trans hR; clear hR HU HQ
    go_enter Tryz.func41, Tryz.ntmps41
    go_wp2_with (first | (go_at_call 67; refine (byteAt_any S b n c xs pos _ HV.out.bytes HV.out.len (by have := HV.out.small; omega) (by omega) HV.out.src HV.out.row).mono ?_; rintro e w' ⟨rfl, rfl⟩; rw [HX.out]) | (go_at_call 43; refine (isOf_any _ _ _ (by omega) (by omega) HV.out.tab).mono ?_; rintro e w' ⟨rfl, rfl⟩) | (go_at_call 71; refine HC.mono ?_; rintro e w1 ⟨hfa, hgr⟩; cases hfa)); refine ⟨rfl, tokOut_of ?_ HG.out⟩; exact ⟨rfl, grown_on HB0.out hgr⟩
  | ok r =>
    obtain ⟨kd, len, ys, vv⟩ := r; rw [hR] at HC; have HG : Hid (nextR xs (callI ka la ll pos) pos = .ok (kd, len, ys, vv)) := HQ.out.trans hR; clear hR HU HQ
    go_enter Tryz.func41, Tryz.ntmps41
    go_wp2_with (first | (go_at_call 67; refine (byteAt_any S b n c xs pos _ HV.out.bytes HV.out.len (by have := HV.out.small; omega) (by omega) HV.out.src HV.out.row).mono ?_; rintro e w' ⟨rfl, rfl⟩; rw [HX.out]) | (go_at_call 43; refine (isOf_any _ _ _ (by omega) (by omega) HV.out.tab).mono ?_; rintro e w' ⟨rfl, rfl⟩) | (go_at_call 71; refine HC.mono ?_; rintro e w1 ⟨p, m, c1, rfl, hown, M⟩; have HM := Hid.mk M; have HO := Hid.mk hown; have hlt0 := size_lt M; have hblk := blk_kept HS.out M; obtain ⟨d0, d1, d2, d3, d4⟩ := five w1 w.heap.size hblk; obtain ⟨g0, g1, g2, g3, g4⟩ := fiveF w1 w.heap.size hblk; clear M hblk hown)); refine bodyPost_ret (v := tokV kd pos len p m c1 vv) (by simp [results, Tryz.results41, go_sem, d0, d1, d2, d3, d4, hlt0]) rfl (tokOut_of ?_ HG.out); exact next_end HB0.out HS.out HM.out HO.out hlt0
 have s3 : isOfB x 4 = false := by simpa using t3
 by_cases t46 : x = 46
 ·subst t46
  cases nd
  ·have HQ : Hid (nextR xs (callI ka la ll pos) pos = runR xs pos 1 8) := by show _ = _; rw [HU.out]; unfold nextF; rw [if_neg t1, if_neg t2, if_neg t3, HN.out, if_neg (by simp), if_pos (by decide +kernel)]
   have HC := (run_any S b n c pos 1 8 xs (w.alloc tokO) HV.out.bytes HV.out.len HV.out.cap (by omega) HP.out (by rw [HX.out]; exact (by decide +kernel)) HV.out.src HV.out.at1 (HV.out.fz 1) HV.out.inH HV.out.row HV.out.tab).mono (fun e w' h => taken_out (Nat.le_of_lt HP.out) h)
   have s8 : isOfB 46 8 = true := by decide +kernel
   cases hR : runR xs pos 1 8 with
   | error code =>
     rw [hR] at HC; have HG : Hid (nextR xs (callI ka la ll pos) pos = .error code) := HQ.out.trans hR; clear hR HU HQ
     go_enter Tryz.func41, Tryz.ntmps41
     go_wp2_with (first | (go_at_call 67; refine (byteAt_any S b n c xs pos _ HV.out.bytes HV.out.len (by have := HV.out.small; omega) (by omega) HV.out.src HV.out.row).mono ?_; rintro e w' ⟨rfl, rfl⟩; rw [HX.out]) | (go_at_call 43; refine (isOf_any _ _ _ (by omega) (by omega) HV.out.tab).mono ?_; rintro e w' ⟨rfl, rfl⟩) | (go_at_call 72; refine (endsBehind_any S b n c xs (pos + 1) _ HV.out.bytes HV.out.len (by have := HV.out.small; omega) (by omega) HV.out.src HV.out.row HV.out.tab).mono ?_; rintro e w' ⟨rfl, rfl⟩; rw [HN.out]) | (go_at_call 70; refine (HC).mono ?_; rintro e w1 ⟨hfa, hgr⟩; cases hfa)); refine ⟨rfl, tokOut_of ?_ HG.out⟩; exact ⟨rfl, grown_on HB0.out hgr⟩
   | ok r =>
     obtain ⟨kd, len, ys, vv⟩ := r; rw [hR] at HC; have HG : Hid (nextR xs (callI ka la ll pos) pos = .ok (kd, len, ys, vv)) := HQ.out.trans hR; clear hR HU HQ
     go_enter Tryz.func41, Tryz.ntmps41
     go_wp2_with (first | (go_at_call 67; refine (byteAt_any S b n c xs pos _ HV.out.bytes HV.out.len (by have := HV.out.small; omega) (by omega) HV.out.src HV.out.row).mono ?_; rintro e w' ⟨rfl, rfl⟩; rw [HX.out]) | (go_at_call 43; refine (isOf_any _ _ _ (by omega) (by omega) HV.out.tab).mono ?_; rintro e w' ⟨rfl, rfl⟩) | (go_at_call 72; refine (endsBehind_any S b n c xs (pos + 1) _ HV.out.bytes HV.out.len (by have := HV.out.small; omega) (by omega) HV.out.src HV.out.row HV.out.tab).mono ?_; rintro e w' ⟨rfl, rfl⟩; rw [HN.out]) | (go_at_call 70; refine (HC).mono ?_; rintro e w1 ⟨p, m, c1, rfl, hown, M⟩; have HM := Hid.mk M; have HO := Hid.mk hown; have hlt0 := size_lt M; have hblk := blk_kept HS.out M; obtain ⟨d0, d1, d2, d3, d4⟩ := five w1 w.heap.size hblk; obtain ⟨g0, g1, g2, g3, g4⟩ := fiveF w1 w.heap.size hblk; clear M hblk hown))
     refine bodyPost_ret (v := tokV kd pos len p m c1 vv) (by simp [results, Tryz.results41, go_sem, d0, d1, d2, d3, d4, hlt0]) rfl (tokOut_of ?_ HG.out); exact next_end HB0.out HS.out HM.out HO.out hlt0
  ·have HQ : Hid (nextR xs (callI ka la ll pos) pos = .ok (7, 1, [], 0)) := by show _ = _; rw [HU.out]; unfold nextF; rw [if_neg t1, if_neg t2, if_neg t3, HN.out, if_pos (by simp)]
   have HC : Calls Tryz.prog _ _ _ (fun e w' => TokOut (w.alloc tokO) S pos (.ok (7, 1, [], 0)) e w') := (take_fits S pos 7 (pos + 1) none 0 0 (w.alloc tokO) HV.out.at1 (HV.out.fz 1) HV.out.inH (by decide) (by omega) (by omega)).mono (fun e w' ⟨he, hm⟩ => ⟨none, 0, 0, by rw [he, show ((pos + 1 : Nat) : Int) - pos = ((1 : Nat) : Int) by omega], OwnS.nil _ _, hm⟩); have HG : Hid (nextR xs (callI ka la ll pos) pos = .ok (7, 1, [], 0)) := HQ; clear HU HQ
   go_enter Tryz.func41, Tryz.ntmps41
   go_wp2_with (first | (go_at_call 67; refine (byteAt_any S b n c xs pos _ HV.out.bytes HV.out.len (by have := HV.out.small; omega) (by omega) HV.out.src HV.out.row).mono ?_; rintro e w' ⟨rfl, rfl⟩; rw [HX.out]) | (go_at_call 43; refine (isOf_any _ _ _ (by omega) (by omega) HV.out.tab).mono ?_; rintro e w' ⟨rfl, rfl⟩) | (go_at_call 72; refine (endsBehind_any S b n c xs (pos + 1) _ HV.out.bytes HV.out.len (by have := HV.out.small; omega) (by omega) HV.out.src HV.out.row HV.out.tab).mono ?_; rintro e w' ⟨rfl, rfl⟩; rw [HN.out]) | (go_at_call 73; refine (HC).mono ?_; rintro e w1 ⟨p, m, c1, rfl, hown, M⟩; have HM := Hid.mk M; have HO := Hid.mk hown; have hlt0 := size_lt M; have hblk := blk_kept HS.out M; obtain ⟨d0, d1, d2, d3, d4⟩ := five w1 w.heap.size hblk; obtain ⟨g0, g1, g2, g3, g4⟩ := fiveF w1 w.heap.size hblk; clear M hblk hown))
   refine bodyPost_ret (v := tokV 7 pos ((1 : Nat) : Int) p m c1 0) (by simp [results, Tryz.results41, go_sem, d0, d1, d2, d3, d4, hlt0]) rfl (tokOut_of ?_ HG.out); exact next_end HB0.out HS.out HM.out HO.out hlt0
 have s46 : (x == 46) = false := by simpa using t46
 by_cases t8 : isOfB x 8 = true
 ·have HQ : Hid (nextR xs (callI ka la ll pos) pos = runR xs pos 1 8) := by show _ = _; rw [HU.out]; unfold nextF; rw [if_neg t1, if_neg t2, if_neg t3, if_neg (fun h => t46 h.1), if_pos t8]
  have HC := (run_any S b n c pos 1 8 xs (w.alloc tokO) HV.out.bytes HV.out.len HV.out.cap (by omega) HP.out (by rw [HX.out]; exact t8) HV.out.src HV.out.at1 (HV.out.fz 1) HV.out.inH HV.out.row HV.out.tab).mono (fun e w' h => taken_out (Nat.le_of_lt HP.out) h)
  cases hR : runR xs pos 1 8 with
  | error code =>
    rw [hR] at HC; have HG : Hid (nextR xs (callI ka la ll pos) pos = .error code) := HQ.out.trans hR; clear hR HU HQ
    go_enter Tryz.func41, Tryz.ntmps41
    go_wp2_with (first | (go_at_call 67; refine (byteAt_any S b n c xs pos _ HV.out.bytes HV.out.len (by have := HV.out.small; omega) (by omega) HV.out.src HV.out.row).mono ?_; rintro e w' ⟨rfl, rfl⟩; rw [HX.out]) | (go_at_call 43; refine (isOf_any _ _ _ (by omega) (by omega) HV.out.tab).mono ?_; rintro e w' ⟨rfl, rfl⟩) | (go_at_call 70; refine (HC).mono ?_; rintro e w1 ⟨hfa, hgr⟩; cases hfa)); refine ⟨rfl, tokOut_of ?_ HG.out⟩; exact ⟨rfl, grown_on HB0.out hgr⟩
  | ok r =>
    obtain ⟨kd, len, ys, vv⟩ := r; rw [hR] at HC; have HG : Hid (nextR xs (callI ka la ll pos) pos = .ok (kd, len, ys, vv)) := HQ.out.trans hR; clear hR HU HQ
    go_enter Tryz.func41, Tryz.ntmps41
    go_wp2_with (first | (go_at_call 67; refine (byteAt_any S b n c xs pos _ HV.out.bytes HV.out.len (by have := HV.out.small; omega) (by omega) HV.out.src HV.out.row).mono ?_; rintro e w' ⟨rfl, rfl⟩; rw [HX.out]) | (go_at_call 43; refine (isOf_any _ _ _ (by omega) (by omega) HV.out.tab).mono ?_; rintro e w' ⟨rfl, rfl⟩) | (go_at_call 70; refine (HC).mono ?_; rintro e w1 ⟨p, m, c1, rfl, hown, M⟩; have HM := Hid.mk M; have HO := Hid.mk hown; have hlt0 := size_lt M; have hblk := blk_kept HS.out M; obtain ⟨d0, d1, d2, d3, d4⟩ := five w1 w.heap.size hblk; obtain ⟨g0, g1, g2, g3, g4⟩ := fiveF w1 w.heap.size hblk; clear M hblk hown)); refine bodyPost_ret (v := tokV kd pos len p m c1 vv) (by simp [results, Tryz.results41, go_sem, d0, d1, d2, d3, d4, hlt0]) rfl (tokOut_of ?_ HG.out); exact next_end HB0.out HS.out HM.out HO.out hlt0
 have s8 : isOfB x 8 = false := by simpa using t8
 by_cases t32 : isOfB x 32 = true
 ·have HQ : Hid (nextR xs (callI ka la ll pos) pos = .ok (1, 1, [x], 0)) := by show _ = _; rw [HU.out]; unfold nextF; rw [if_neg t1, if_neg t2, if_neg t3, if_neg (fun h => t46 h.1), if_neg t8, if_pos t32]
  have HC := (single_any S b n c pos 1 xs (w.alloc tokO) HV.out.bytes HV.out.len (by omega) HP.out HV.out.src HV.out.at1 (HV.out.fz 1) HV.out.inH HV.out.row).mono (fun e w' h => single_out HXD.out h); have HG : Hid (nextR xs (callI ka la ll pos) pos = .ok (1, 1, [x], 0)) := HQ; clear HU HQ
  go_enter Tryz.func41, Tryz.ntmps41
  go_wp2_with (first | (go_at_call 67; refine (byteAt_any S b n c xs pos _ HV.out.bytes HV.out.len (by have := HV.out.small; omega) (by omega) HV.out.src HV.out.row).mono ?_; rintro e w' ⟨rfl, rfl⟩; rw [HX.out]) | (go_at_call 43; refine (isOf_any _ _ _ (by omega) (by omega) HV.out.tab).mono ?_; rintro e w' ⟨rfl, rfl⟩) | (go_at_call 74; refine (HC).mono ?_; rintro e w1 ⟨p, m, c1, rfl, hown, M⟩; have HM := Hid.mk M; have HO := Hid.mk hown; have hlt0 := size_lt M; have hblk := blk_kept HS.out M; obtain ⟨d0, d1, d2, d3, d4⟩ := five w1 w.heap.size hblk; obtain ⟨g0, g1, g2, g3, g4⟩ := fiveF w1 w.heap.size hblk; clear M hblk hown)); refine bodyPost_ret (v := tokV 1 pos ((1 : Nat) : Int) p m c1 0) (by simp [results, Tryz.results41, go_sem, d0, d1, d2, d3, d4, hlt0]) rfl (tokOut_of ?_ HG.out); exact next_end HB0.out HS.out HM.out HO.out hlt0
 have s32 : isOfB x 32 = false := by simpa using t32
 by_cases t39 : x = 39
 ·have HQ : Hid (nextR xs (callI ka la ll pos) pos = quoR xs 1 pos) := by show _ = _; rw [HU.out]; unfold nextF; rw [if_neg t1, if_neg t2, if_neg t3, if_neg (fun h => t46 h.1), if_neg t8, if_neg t32, if_pos t39]
  have HC := quoted_any S b n c pos 1 xs (w.alloc tokO) HV.out HP.out (.inl (HX.out.trans t39))
  have s39 : (x == 39) = true := by simpa using t39
  clear t39
  cases hR : quoR xs 1 pos with
  | error code =>
    rw [hR] at HC; have HG : Hid (nextR xs (callI ka la ll pos) pos = .error code) := HQ.out.trans hR; clear hR HU HQ
    go_enter Tryz.func41, Tryz.ntmps41
    go_wp2_with (first | (go_at_call 67; refine (byteAt_any S b n c xs pos _ HV.out.bytes HV.out.len (by have := HV.out.small; omega) (by omega) HV.out.src HV.out.row).mono ?_; rintro e w' ⟨rfl, rfl⟩; rw [HX.out]) | (go_at_call 43; refine (isOf_any _ _ _ (by omega) (by omega) HV.out.tab).mono ?_; rintro e w' ⟨rfl, rfl⟩) | (go_at_call 75; refine (HC).mono ?_; rintro e w1 ⟨hfa, hgr⟩; cases hfa)); refine ⟨rfl, tokOut_of ?_ HG.out⟩; exact ⟨rfl, grown_on HB0.out hgr⟩
  | ok r =>
    obtain ⟨kd, len, ys, vv⟩ := r; rw [hR] at HC; have HG : Hid (nextR xs (callI ka la ll pos) pos = .ok (kd, len, ys, vv)) := HQ.out.trans hR; clear hR HU HQ
    go_enter Tryz.func41, Tryz.ntmps41
    go_wp2_with (first | (go_at_call 67; refine (byteAt_any S b n c xs pos _ HV.out.bytes HV.out.len (by have := HV.out.small; omega) (by omega) HV.out.src HV.out.row).mono ?_; rintro e w' ⟨rfl, rfl⟩; rw [HX.out]) | (go_at_call 43; refine (isOf_any _ _ _ (by omega) (by omega) HV.out.tab).mono ?_; rintro e w' ⟨rfl, rfl⟩) | (go_at_call 75; refine (HC).mono ?_; rintro e w1 ⟨p, m, c1, rfl, hown, M⟩; have HM := Hid.mk M; have HO := Hid.mk hown; have hlt0 := size_lt M; have hblk := blk_kept HS.out M; obtain ⟨d0, d1, d2, d3, d4⟩ := five w1 w.heap.size hblk; obtain ⟨g0, g1, g2, g3, g4⟩ := fiveF w1 w.heap.size hblk; clear M hblk hown)); refine bodyPost_ret (v := tokV kd pos len p m c1 vv) (by simp [results, Tryz.results41, go_sem, d0, d1, d2, d3, d4, hlt0]) rfl (tokOut_of ?_ HG.out); exact next_end HB0.out HS.out HM.out HO.out hlt0
 have s39 : (x == 39) = false := by simpa using t39
 by_cases t34 : x = 34
 ·have HQ : Hid (nextR xs (callI ka la ll pos) pos = quoR xs 4 pos) := by show _ = _; rw [HU.out]; unfold nextF; rw [if_neg t1, if_neg t2, if_neg t3, if_neg (fun h => t46 h.1), if_neg t8, if_neg t32, if_neg t39, if_pos t34]
  have HC := quoted_any S b n c pos 4 xs (w.alloc tokO) HV.out HP.out (.inr (HX.out.trans t34))
  have s34 : (x == 34) = true := by simpa using t34
  clear t34
  cases hR : quoR xs 4 pos with
  | error code =>
    rw [hR] at HC; have HG : Hid (nextR xs (callI ka la ll pos) pos = .error code) := HQ.out.trans hR; clear hR HU HQ
    go_enter Tryz.func41, Tryz.ntmps41
    go_wp2_with (first | (go_at_call 67; refine (byteAt_any S b n c xs pos _ HV.out.bytes HV.out.len (by have := HV.out.small; omega) (by omega) HV.out.src HV.out.row).mono ?_; rintro e w' ⟨rfl, rfl⟩; rw [HX.out]) | (go_at_call 43; refine (isOf_any _ _ _ (by omega) (by omega) HV.out.tab).mono ?_; rintro e w' ⟨rfl, rfl⟩) | (go_at_call 75; refine (HC).mono ?_; rintro e w1 ⟨hfa, hgr⟩; cases hfa)); refine ⟨rfl, tokOut_of ?_ HG.out⟩; exact ⟨rfl, grown_on HB0.out hgr⟩
  | ok r =>
    obtain ⟨kd, len, ys, vv⟩ := r; rw [hR] at HC; have HG : Hid (nextR xs (callI ka la ll pos) pos = .ok (kd, len, ys, vv)) := HQ.out.trans hR; clear hR HU HQ
    go_enter Tryz.func41, Tryz.ntmps41
    go_wp2_with (first | (go_at_call 67; refine (byteAt_any S b n c xs pos _ HV.out.bytes HV.out.len (by have := HV.out.small; omega) (by omega) HV.out.src HV.out.row).mono ?_; rintro e w' ⟨rfl, rfl⟩; rw [HX.out]) | (go_at_call 43; refine (isOf_any _ _ _ (by omega) (by omega) HV.out.tab).mono ?_; rintro e w' ⟨rfl, rfl⟩) | (go_at_call 75; refine (HC).mono ?_; rintro e w1 ⟨p, m, c1, rfl, hown, M⟩; have HM := Hid.mk M; have HO := Hid.mk hown; have hlt0 := size_lt M; have hblk := blk_kept HS.out M; obtain ⟨d0, d1, d2, d3, d4⟩ := five w1 w.heap.size hblk; obtain ⟨g0, g1, g2, g3, g4⟩ := fiveF w1 w.heap.size hblk; clear M hblk hown)); refine bodyPost_ret (v := tokV kd pos len p m c1 vv) (by simp [results, Tryz.results41, go_sem, d0, d1, d2, d3, d4, hlt0]) rfl (tokOut_of ?_ HG.out); exact next_end HB0.out HS.out HM.out HO.out hlt0
 have s34 : (x == 34) = false := by simpa using t34
 by_cases t40 : x = 40
 ·have s40 : (x == 40) = true := by simpa using t40
  cases cb
  ·have HQ : Hid (nextR xs (callI ka la ll pos) pos = .ok (5, 1, [x], 0)) := by show _ = _; rw [HU.out]; unfold nextF; rw [if_neg t1, if_neg t2, if_neg t3, if_neg (fun h => t46 h.1), if_neg t8, if_neg t32, if_neg t39, if_neg t34, if_neg (by simp), if_pos (by rw [t40]; decide +kernel)]
   have HC := fun kb => (single_any S b n c pos 5 xs ((w.alloc tokO).drewN kb) HV.out.bytes HV.out.len (by omega) HP.out HV.out.src HV.out.at1 (HV.out.fz 1) HV.out.inH HV.out.row).mono (fun e w' h => tok_drew HV.out.inH (single_out HXD.out h))
   have s64 : isOfB x 64 = true := by rw [t40]; decide +kernel
   clear t40; have HG : Hid (nextR xs (callI ka la ll pos) pos = .ok (5, 1, [x], 0)) := HQ; clear HU HQ
   go_enter Tryz.func41, Tryz.ntmps41
   go_wp2_with (first | (go_at_call 67; refine (byteAt_any S b n c xs pos _ HV.out.bytes HV.out.len (by have := HV.out.small; omega) (by omega) HV.out.src HV.out.row).mono ?_; rintro e w' ⟨rfl, rfl⟩; rw [HX.out]) | (go_at_call 43; refine (isOf_any _ _ _ (by omega) (by omega) HV.out.tab).mono ?_; rintro e w' ⟨rfl, rfl⟩)); refine (behind_any S pos ka la ll _ HV.out.at1 HL2.out HL3.out HL4.out hla hll (by omega)).mono ?_; rintro e w2 ⟨rfl, kb, rfl⟩; rw [HCB.out]; have HTB : Hid (Tab ((w.alloc tokO).drewN kb)) := HV.out.tab; go_wp2_with (first | (go_at_call 43; refine (isOf_any _ _ _ (by omega) (by omega) HTB.out).mono ?_; rintro e w' ⟨rfl, rfl⟩) | (go_at_call 74; refine (HC _).mono ?_; rintro e w1 ⟨p, m, c1, rfl, hown, M⟩; have HM := Hid.mk M; have HO := Hid.mk hown; have hlt0 := size_lt M; have hblk := blk_kept HS.out M; obtain ⟨d0, d1, d2, d3, d4⟩ := five w1 w.heap.size hblk; obtain ⟨g0, g1, g2, g3, g4⟩ := fiveF w1 w.heap.size hblk; clear M hblk hown))
   refine bodyPost_ret (v := tokV 5 pos ((1 : Nat) : Int) p m c1 0) (by simp [results, Tryz.results41, go_sem, d0, d1, d2, d3, d4, hlt0]) rfl (tokOut_of ?_ HG.out); exact next_end HB0.out HS.out HM.out HO.out hlt0
  ·have HQ : Hid (nextR xs (callI ka la ll pos) pos = .ok (6, 1, [x], 0)) := by show _ = _; rw [HU.out]; unfold nextF; rw [if_neg t1, if_neg t2, if_neg t3, if_neg (fun h => t46 h.1), if_neg t8, if_neg t32, if_neg t39, if_neg t34, if_pos ⟨t40, rfl⟩]
   have HC := fun kb => (single_any S b n c pos 6 xs ((w.alloc tokO).drewN kb) HV.out.bytes HV.out.len (by omega) HP.out HV.out.src HV.out.at1 (HV.out.fz 1) HV.out.inH HV.out.row).mono (fun e w' h => tok_drew HV.out.inH (single_out HXD.out h))
   clear t40; have HG : Hid (nextR xs (callI ka la ll pos) pos = .ok (6, 1, [x], 0)) := HQ; clear HU HQ
   go_enter Tryz.func41, Tryz.ntmps41
   go_wp2_with (first | (go_at_call 67; refine (byteAt_any S b n c xs pos _ HV.out.bytes HV.out.len (by have := HV.out.small; omega) (by omega) HV.out.src HV.out.row).mono ?_; rintro e w' ⟨rfl, rfl⟩; rw [HX.out]) | (go_at_call 43; refine (isOf_any _ _ _ (by omega) (by omega) HV.out.tab).mono ?_; rintro e w' ⟨rfl, rfl⟩)); refine (behind_any S pos ka la ll _ HV.out.at1 HL2.out HL3.out HL4.out hla hll (by omega)).mono ?_; rintro e w2 ⟨rfl, kb, rfl⟩; rw [HCB.out]; have HTB : Hid (Tab ((w.alloc tokO).drewN kb)) := HV.out.tab; go_wp2_with (first | (go_at_call 43; refine (isOf_any _ _ _ (by omega) (by omega) HTB.out).mono ?_; rintro e w' ⟨rfl, rfl⟩) | (go_at_call 74; refine (HC _).mono ?_; rintro e w1 ⟨p, m, c1, rfl, hown, M⟩; have HM := Hid.mk M; have HO := Hid.mk hown; have hlt0 := size_lt M; have hblk := blk_kept HS.out M; obtain ⟨d0, d1, d2, d3, d4⟩ := five w1 w.heap.size hblk; obtain ⟨g0, g1, g2, g3, g4⟩ := fiveF w1 w.heap.size hblk; clear M hblk hown))
   refine bodyPost_ret (v := tokV 6 pos ((1 : Nat) : Int) p m c1 0) (by simp [results, Tryz.results41, go_sem, d0, d1, d2, d3, d4, hlt0]) rfl (tokOut_of ?_ HG.out); exact next_end HB0.out HS.out HM.out HO.out hlt0
 have s40 : (x == 40) = false := by simpa using t40
 by_cases t64 : isOfB x 64 = true
 ·have HQ : Hid (nextR xs (callI ka la ll pos) pos = .ok (5, 1, [x], 0)) := by show _ = _; rw [HU.out]; unfold nextF; rw [if_neg t1, if_neg t2, if_neg t3, if_neg (fun h => t46 h.1), if_neg t8, if_neg t32, if_neg t39, if_neg t34, if_neg (fun h => t40 h.1), if_pos t64]
  have HC := (single_any S b n c pos 5 xs (w.alloc tokO) HV.out.bytes HV.out.len (by omega) HP.out HV.out.src HV.out.at1 (HV.out.fz 1) HV.out.inH HV.out.row).mono (fun e w' h => single_out HXD.out h); have HG : Hid (nextR xs (callI ka la ll pos) pos = .ok (5, 1, [x], 0)) := HQ; clear HU HQ
  go_enter Tryz.func41, Tryz.ntmps41
  go_wp2_with (first | (go_at_call 67; refine (byteAt_any S b n c xs pos _ HV.out.bytes HV.out.len (by have := HV.out.small; omega) (by omega) HV.out.src HV.out.row).mono ?_; rintro e w' ⟨rfl, rfl⟩; rw [HX.out]) | (go_at_call 43; refine (isOf_any _ _ _ (by omega) (by omega) HV.out.tab).mono ?_; rintro e w' ⟨rfl, rfl⟩) | (go_at_call 74; refine (HC).mono ?_; rintro e w1 ⟨p, m, c1, rfl, hown, M⟩; have HM := Hid.mk M; have HO := Hid.mk hown; have hlt0 := size_lt M; have hblk := blk_kept HS.out M; obtain ⟨d0, d1, d2, d3, d4⟩ := five w1 w.heap.size hblk; obtain ⟨g0, g1, g2, g3, g4⟩ := fiveF w1 w.heap.size hblk; clear M hblk hown)); refine bodyPost_ret (v := tokV 5 pos ((1 : Nat) : Int) p m c1 0) (by simp [results, Tryz.results41, go_sem, d0, d1, d2, d3, d4, hlt0]) rfl (tokOut_of ?_ HG.out); exact next_end HB0.out HS.out HM.out HO.out hlt0
 have s64 : isOfB x 64 = false := by simpa using t64
 have HG : Hid (nextR xs (callI ka la ll pos) pos = .error 2) := by show _ = _; rw [HU.out]; unfold nextF; rw [if_neg t1, if_neg t2, if_neg t3, if_neg (fun h => t46 h.1), if_neg t8, if_neg t32, if_neg t39, if_neg t34, if_neg (fun h => t40 h.1), if_neg t64]
 clear HU
 go_enter Tryz.func41, Tryz.ntmps41
 go_wp2_with (first | (go_at_call 67; refine (byteAt_any S b n c xs pos _ HV.out.bytes HV.out.len (by have := HV.out.small; omega) (by omega) HV.out.src HV.out.row).mono ?_; rintro e w' ⟨rfl, rfl⟩; rw [HX.out]) | (go_at_call 43; refine (isOf_any _ _ _ (by omega) (by omega) HV.out.tab).mono ?_; rintro e w' ⟨rfl, rfl⟩) | (go_at_call 77; refine (fault_any S pos 2 _ HV.out.at1 HV.out.inH).mono ?_; rintro e w1 ⟨rfl, hb1⟩)); refine ⟨rfl, tokOut_of ?_ HG.out⟩; exact ⟨rfl, grown_of_below (Below.on HB0.out hb1) _⟩
def lineI (xs : List Int) (pos : Nat) : Nat := runLen (fun c => c != 10) (xs.drop pos)
theorem index10 : ∀ (ys : List Int), Bytes ys → Lib.indexByte (Lib.bytesOf ys) (10 : Int).toNat.toUInt8 = if runLen (fun c => c != 10) ys = ys.length then -1 else (runLen (fun c => c != 10) ys : Int)
 | [], _ => rfl
 | x :: r, h => by
   have hx := h x (List.mem_cons_self ..); have ih := index10 r (fun y hy => h y (List.mem_cons_of_mem _ hy)); have hle := runLen_le (fun c => c != 10) r
   have e : (x.toNat.toUInt8 == (10 : Int).toNat.toUInt8) = decide (x = 10) := by
    rw [Bool.eq_iff_iff, beq_iff_eq, decide_eq_true_iff]
    constructor
    ·intro hh
     have := congrArg UInt8.toNat hh
     simp at this
     omega
    ·intro hh; rw [hh]
   show (if (x.toNat.toUInt8 == (10 : Int).toNat.toUInt8) = true then (0 : Int) else if Lib.indexByte (Lib.bytesOf r) _ == -1 then -1 else Lib.indexByte (Lib.bytesOf r) _ + 1) = _
   have rl : runLen (fun c => c != 10) (x :: r) = if (x != 10) = true then runLen (fun c => c != 10) r + 1 else 0 := rfl
   rw [e, ih, rl]
   by_cases hx10 : x = 10
   ·simp [hx10]
   ·have hb : (x != 10) = true := by simpa using hx10
    simp only [hx10, decide_false, Bool.false_eq_true, if_false, hb, if_true, List.length_cons]
    by_cases hr : runLen (fun c => c != 10) r = r.length
    ·simp [hr]
    ·have h1 : ((if runLen (fun c => c != 10) r = r.length then (-1 : Int) else (runLen (fun c => c != 10) r : Int)) == -1) = false := by
      rw [if_neg hr]; simp
     rw [h1, if_neg hr, if_neg (show ¬ runLen (fun c => c != 10) r + 1 = r.length + 1 by omega)]
     simp
theorem indexByte_any (b o n c : Nat) (ys : List Int) (w : World) (hy : Bytes ys) (hn : ys.length = n) (hc : ∀ i, i < n → w.cell? ⟨b, o + i, none⟩ = some (.int .u8 (ys.getD i 0))) :
 Calls Tryz.prog 90 #[.slice (some ⟨b, o, none⟩) n c, .int .u8 10] w fun e w' => e = .returned (.int .i64 (if runLen (fun c => c != 10) ys = ys.length then -1 else (runLen (fun c => c != 10) ys : Int))) ∧ w' = w := by
 have hx := @run_callFunc_extern Tryz.prog 106 _ Extern.BytealgIndexByte.indexByte Tryz.func106 (by kernel_rfl) (by kernel_rfl) (by kernel_rfl) (by kernel_rfl); have hrun := Lib.run_indexByteSlice (P := Tryz.prog) w b o n c ys hn hc 10; rw [index10 ys hy] at hrun
 obtain ⟨r, er⟩ : ∃ r, r = if runLen (fun c => c != 10) ys = ys.length then -1 else (runLen (fun c => c != 10) ys : Int) := ⟨_, rfl⟩
 rw [← er] at hrun ⊢; clear er hc
 go_enter Tryz.func90, Tryz.ntmps90
 go_wp2
 go_ret; exact ⟨rfl, rfl⟩
theorem skipLine_any (S b n c pos : Nat) (xs : List Int) (w : World) (E : Env w S b n c pos xs) (hp : pos < xs.length) :
 Calls Tryz.prog 68 #[.pointer (some ⟨S, 0, none⟩)] w fun e w' => e = .returned (.tuple #[]) ∧ Moved w w' S (pos + lineI xs pos) := by
 have h0 := E.src; have h1 := E.at1; have hf := E.fz 1; have hsm := E.small
 have hpn : pos < n := by rw [E.len]; exact hp
 have hcn : pos < c := Nat.lt_of_lt_of_le hpn E.cap
 have hne : ¬ c = pos := by omega
 have hpi : (pos : Int) ≤ (n : Nat) := by omega
 have hp0 : (0 : Int) ≤ (pos : Nat) := by omega
 have hnc : n ≤ c := E.cap
 have hle : lineI xs pos ≤ n - pos := by have := runLen_le (fun c => c != 10) (xs.drop pos); unfold lineI; rw [E.len]; simpa using this
 have HI := fun k => indexByte_any b pos (n - pos) (c - pos) (xs.drop pos) (w.drewN k) (E.bytes.drop pos) (by rw [E.len]; simp) (fun i hi => by
  have := E.row (pos + i) (by have := E.len; omega)
  rw [World.cell?_drewN, this]; simp [List.getD, List.getElem?_drop])
 have HL : Hid ((xs.drop pos).length = n - pos) := by rw [E.len]; show _ = _; simp
 have HM : ∀ k q, Hid (Moved w ((w.drewN k).setCell ⟨S, 1, none⟩ (.int .i64 (q : Nat))) S q) := fun k q => Moved.onto (below_drewN (Below.refl _ _) k) (Moved.set pos q (show (w.drewN k).cell? _ = _ from h1)) (Below.refl _ _) E.inH
 have hS := E.inH
 obtain ⟨m, em⟩ : ∃ m, m = lineI xs pos := ⟨_, rfl⟩
 have em2 : runLen (fun c => c != 10) (xs.drop pos) = m := em.symm; rw [← em] at hle ⊢; simp only [em2, HL.out] at HI; clear E em em2
 by_cases t : m = n - pos
 ·simp only [if_pos t] at HI
  go_enter Tryz.func68, Tryz.ntmps68
  go_wp2
  go_quiet ((go_at_call 90; exact Calls.quiet_of_same (HI _)))
  go_wp2
  all_goals (try go_quiet (fail))
  all_goals (try go_wp2)
  refine bodyPost_end (v := .tuple #[]) (by simp [results, Tryz.results68, go_sem]) rfl ⟨rfl, ?_⟩
  have e : (pos : Int) + ((n : Int) - pos) = ((pos + m : Nat) : Int) := by omega
  rw [e]; exact (HM _ _).out
 ·simp only [if_neg t] at HI
  go_enter Tryz.func68, Tryz.ntmps68
  go_wp2
  go_quiet ((go_at_call 90; exact Calls.quiet_of_same (HI _)))
  go_wp2
  refine bodyPost_end (v := .tuple #[]) (by simp [results, Tryz.results68, go_sem]) rfl ⟨rfl, ?_⟩; have hq := (HM nq (pos + m)).out
  simpa using hq
end
section
open Go Go.RowKit
abbrev Tok := (Int × Int × Int × Int) × List Int
def Tok.none : Tok := ((0, 0, 0, 0), [])
abbrev RT := (Int × Int × Int × Int) × Option Addr × Nat × Nat
def RT.zero : RT := ((0, 0, 0, 0), Option.none, 0, 0)
def ttl : List Tok → Nat
 | [] => 0
 | t :: r => t.2.length + ttl r
theorem ttl_at : ∀ (ts : List Tok) (i : Nat), i < ts.length → (ts.getD i Tok.none).2.length ≤ ttl ts
 | [], i, h => by simp at h
 | t :: r, 0, _ => by simp [ttl]
 | t :: r, i + 1, h => by
   have := ttl_at r i (by simpa using h); simp only [List.getD_cons_succ, ttl]; omega
theorem rt_append_at (rs : List RT) (r : RT) (i : Nat) (h : i ≤ rs.length) : (rs ++ [r]).getD i RT.zero = if i = rs.length then r else rs.getD i RT.zero := by
 simp only [List.getD, List.getElem?_append]
 by_cases e : i = rs.length
 ·subst e; simp
 ·rw [if_pos (by omega), if_neg e]
theorem ts_append_at (ts : List Tok) (t : Tok) (i : Nat) (h : i ≤ ts.length) : (ts ++ [t]).getD i Tok.none = if i = ts.length then t else ts.getD i Tok.none := by
 simp only [List.getD, List.getElem?_append]
 by_cases e : i = ts.length
 ·subst e; simp
 ·rw [if_pos (by omega), if_neg e]
def TAt (w : World) (b o : Nat) (t : Tok) : Prop :=
 ∃ p cap, w.cell? ⟨b, o, none⟩ = some (.int .i64 t.1.1) ∧ w.cell? ⟨b, o + 1, none⟩ = some (.int .i64 t.1.2.1) ∧ w.cell? ⟨b, o + 2, none⟩ = some (.int .i64 t.1.2.2.1) ∧ w.cell? ⟨b, o + 3, none⟩ = some (.slice p t.2.length cap) ∧ w.cell? ⟨b, o + 4, none⟩ = some (.int .i64 t.1.2.2.2) ∧ BIn w p t.2
def TIn (w : World) (p : Option Addr) (ts : List Tok) : Prop :=
 0 < ts.length → ∃ b o, p = some ⟨b, o, none⟩ ∧ ∀ i, i < ts.length → TAt w b (o + i * 5) (ts.getD i Tok.none)
theorem TAt.below {W W' : World} {b o : Nat} {t : Tok} (h : TAt W b o t) (hb : Below W.heap.size W W') : TAt W' b o t := by
 obtain ⟨p, cap, h0, h1, h2, h3, h4, h5⟩ := h; exact ⟨p, cap, (hb.cell (World.block_lt_of_cell? _ _ h0)).trans h0, (hb.cell (World.block_lt_of_cell? _ _ h1)).trans h1, (hb.cell (World.block_lt_of_cell? _ _ h2)).trans h2, (hb.cell (World.block_lt_of_cell? _ _ h3)).trans h3, (hb.cell (World.block_lt_of_cell? _ _ h4)).trans h4, h5.below hb⟩
theorem TIn.below {W W' : World} {p : Option Addr} {ts : List Tok} (h : TIn W p ts) (hb : Below W.heap.size W W') : TIn W' p ts := fun hn => by
 obtain ⟨b, o, rfl, hc⟩ := h hn; exact ⟨b, o, rfl, fun i hi => (hc i hi).below hb⟩
theorem infoTok : (Tryz.prog.info? 28).map (fun i => (i.zero, i.size, i.bytes)) = some (some (.agg #[.int .i64 0, .int .i64 0, .int .i64 0, .slice none 0 0, .int .i64 0]), 5, 56) := by kernel_rfl
def rtV (r : RT) : List Value := [.int .i64 r.1.1, .int .i64 r.1.2.1, .int .i64 r.1.2.2.1, .slice r.2.1 r.2.2.1 r.2.2.2, .int .i64 r.1.2.2.2]
def flatT (rs : List RT) : List Value := rs.flatMap rtV
theorem flatT_cons (r : RT) (rs : List RT) : flatT (r :: rs) = .int .i64 r.1.1 :: .int .i64 r.1.2.1 :: .int .i64 r.1.2.2.1 :: .slice r.2.1 r.2.2.1 r.2.2.2 :: .int .i64 r.1.2.2.2 :: flatT rs := rfl
theorem flatT_append (a b : List RT) : flatT (a ++ b) = flatT a ++ flatT b := List.flatMap_append
theorem flatT_one (r : RT) : flatT [r] = rtV r := by simp [flatT]
theorem flatT_at : ∀ (rs : List RT) (i : Nat), i < rs.length → (flatT rs)[i * 5]? = some (.int .i64 (rs.getD i RT.zero).1.1) ∧ (flatT rs)[i * 5 + 1]? = some (.int .i64 (rs.getD i RT.zero).1.2.1) ∧ (flatT rs)[i * 5 + 2]? = some (.int .i64 (rs.getD i RT.zero).1.2.2.1) ∧
 (flatT rs)[i * 5 + 3]? = some (.slice (rs.getD i RT.zero).2.1 (rs.getD i RT.zero).2.2.1 (rs.getD i RT.zero).2.2.2) ∧ (flatT rs)[i * 5 + 4]? = some (.int .i64 (rs.getD i RT.zero).1.2.2.2)
 | [], i, h => by simp at h
 | r :: rs, 0, _ => by simp [flatT_cons]
 | r :: rs, i + 1, h => by
   have := flatT_at rs i (by simpa using h); rw [flatT_cons, show (i + 1) * 5 = (i * 5) + 1 + 1 + 1 + 1 + 1 by omega, show (i * 5) + 1 + 1 + 1 + 1 + 1 + 1 = (i * 5 + 1) + 1 + 1 + 1 + 1 + 1 by omega, show (i * 5) + 1 + 1 + 1 + 1 + 1 + 2 = (i * 5 + 2) + 1 + 1 + 1 + 1 + 1 by omega, show (i * 5) + 1 + 1 + 1 + 1 + 1 + 3 = (i * 5 + 3) + 1 + 1 + 1 + 1 + 1 by omega, show (i * 5) + 1 + 1 + 1 + 1 + 1 + 4 = (i * 5 + 4) + 1 + 1 + 1 + 1 + 1 by omega]
   simpa using this
def FitsT (w : World) (B : Nat) (r : RT) (t : Tok) : Prop := r.1 = t.1 ∧ OwnT w B r.2.1 r.2.2.1 r.2.2.2 t.2
def ApartT (p : Option Addr) (rs : List RT) : Prop :=
 (∀ i, i < rs.length → 0 < (rs.getD i RT.zero).2.2.1 → (rs.getD i RT.zero).2.1 ≠ p) ∧
 (∀ i j, i < rs.length → j < rs.length → i ≠ j → 0 < (rs.getD i RT.zero).2.2.1 → 0 < (rs.getD j RT.zero).2.2.1 → (rs.getD i RT.zero).2.1 ≠ (rs.getD j RT.zero).2.1)
def OwnK (w : World) (B : Nat) (p : Option Addr) (n c : Nat) (ts : List Tok) : Prop :=
 n = ts.length ∧ ∃ rs : List RT, rs.length = ts.length ∧ w.ownsRow B 28 5 (.slice p n c) n (flatT rs) ∧ (∀ i, i < ts.length → FitsT w B (rs.getD i RT.zero) (ts.getD i Tok.none)) ∧ ApartT p rs
theorem OwnK.nil (w : World) (B : Nat) : OwnK w B none 0 0 [] := ⟨rfl, [], rfl, World.ownsRow_nil _ _ _ _, fun i h => by simp at h, fun i h => by simp at h, fun i j h => by simp at h⟩
theorem OwnK.tin {w : World} {B : Nat} {p : Option Addr} {n c : Nat} {ts : List Tok} (h : OwnK w B p n c ts) : TIn w p ts := fun hn => by
 obtain ⟨rfl, rs, hl, hr, hf, _⟩ := h; obtain ⟨g, cap, hv, hb, hg⟩ := hr.form hn; simp only [Value.slice.injEq, true_and] at hv; obtain ⟨rfl, rfl⟩ := hv; refine ⟨g, 0, rfl, fun i hi => ?_⟩; obtain ⟨f0, f2⟩ := hf i hi; obtain ⟨a0, a1, a2, a3, a4⟩ := flatT_at rs i (by omega); rw [Nat.zero_add]; refine ⟨(rs.getD i RT.zero).2.1, (rs.getD i RT.zero).2.2.2, ?_, ?_, ?_, ?_, ?_, f2.bin⟩
 ·rw [hr.cellAt _ (by omega), a0, f0]
 ·rw [hr.cellAt _ (by omega), a1, f0]
 ·rw [hr.cellAt _ (by omega), a2, f0]
 ·rw [hr.cellAt _ (by omega), a3, f2.len]
 ·rw [hr.cellAt _ (by omega), a4, f0]
theorem OwnK.below {w w' : World} {B : Nat} {p : Option Addr} {n c : Nat} {ts : List Tok} (h : OwnK w B p n c ts) (hb : Below w.heap.size w w') : OwnK w' B p n c ts := by
 obtain ⟨rfl, rs, hl, hr, hf, ha⟩ := h; exact ⟨rfl, rs, hl, row_below hr hb, fun i hi => ⟨(hf i hi).1, (hf i hi).2.below hb⟩, ha⟩
theorem OwnK.mono {w : World} {B B' : Nat} {p : Option Addr} {n c : Nat} {ts : List Tok} (h : OwnK w B p n c ts) (hB : B' ≤ B) : OwnK w B' p n c ts := by
 obtain ⟨hn, rs, hl, hr, hf, ha⟩ := h; exact ⟨hn, rs, hl, ownsRow_down hr hB, fun i hi => ⟨(hf i hi).1, (hf i hi).2.mono hB⟩, ha⟩
theorem ownK_grew {W0 w w' : World} {B g n cap cp : Nat} {p : Option Addr} {ts : List Tok} {rs : List RT} (hn : n = ts.length) (hl : rs.length = ts.length) (hr0 : W0.ownsRow B 28 5 (.slice p n cp) n (flatT rs))
 (hf : ∀ i, i < ts.length → FitsT W0 B (rs.getD i RT.zero) (ts.getD i Tok.none)) (ha : ApartT p rs) (hb0 : Below W0.heap.size W0 w) (hB : B ≤ W0.heap.size)
 {hd : Int × Int × Int × Int} {tp : Option Addr} {tn tc : Nat} {t : List Int} (ht : OwnT w W0.heap.size tp tn tc t)
 (hr : w'.ownsRow B 28 5 (.slice (some ⟨g, 0, none⟩) (n + 1) cap) (n + 1) (flatT rs ++ rtV (hd, tp, tn, tc))) (hg : w.grownBy w' (Value.ownBlock (.slice p n cp))) (hat : Value.ownBlock (.slice p n cp) = some g ∨ g = w.heap.size) :
 OwnK w' B (some ⟨g, 0, none⟩) (n + 1) cap (ts ++ [(hd, t)]) := by
 have hown : ∀ k, Value.ownBlock (.slice p n cp) = some k → p = some ⟨k, 0, none⟩ ∧ k < W0.heap.size := fun k hk => by
  rcases hr0.2 with ⟨hv, _⟩ | ⟨g', cap', cur, hv, hb, hg', _⟩
  ·simp only [Value.slice.injEq] at hv; rw [hv.1] at hk; simp [Value.ownBlock] at hk
  ·simp only [Value.slice.injEq] at hv
   rw [hv.1] at hk ⊢
   simp [Value.ownBlock] at hk
   subst hk; exact ⟨rfl, (Array.getElem?_eq_some_iff.1 hg').1⟩
 have hold : ∀ i, i < ts.length → OwnT w B (rs.getD i RT.zero).2.1 (rs.getD i RT.zero).2.2.1 (rs.getD i RT.zero).2.2.2 (ts.getD i Tok.none).2 := fun i hi => (hf i hi).2.below hb0
 have hlow : ∀ i, i < ts.length → 0 < (rs.getD i RT.zero).2.2.1 → ∃ k, (rs.getD i RT.zero).2.1 = some ⟨k, 0, none⟩ ∧ k < W0.heap.size := fun i hi hp => by
  obtain ⟨k, e, _, hlt, _⟩ := (hf i hi).2.2 hp; exact ⟨k, e, hlt⟩
 have hhigh : 0 < tn → ∃ k, tp = some ⟨k, 0, none⟩ ∧ W0.heap.size ≤ k ∧ k < w.heap.size := fun hp => by
  obtain ⟨k, e, h1, h2, _⟩ := ht.2 hp; exact ⟨k, e, h1, h2⟩
 have hnewg : g < W0.heap.size ∨ g = w.heap.size := by
  rcases hat with h | h
  ·exact .inl (hown g h).2
  ·exact .inr h
 refine ⟨by simp; omega, rs ++ [(hd, tp, tn, tc)], by simp; omega, by rw [flatT_append, flatT_one]; exact hr, fun i hi => ?_, fun i hi hp => ?_, fun i j hi hj hij hpi hpj => ?_⟩
 ·have hi' : i ≤ ts.length := by simp at hi; omega
  rw [rt_append_at _ _ _ (by omega), ts_append_at _ _ _ hi']
  by_cases e : i = ts.length
  ·rw [if_pos (by omega), if_pos e]
   refine ⟨rfl, (ht.mono hB).other hg.size (fun k hn0 e' => ?_)⟩; obtain ⟨k', e'', h1, h2⟩ := hhigh hn0
   have hkk : k = k' := by
    have := e'.symm.trans e''; exact congrArg Addr.block (Option.some.inj this)
   refine hg.block k (by omega) (fun hk => ?_); have := (hown k hk.symm).2
   omega
  ·rw [if_neg (by omega), if_neg e]
   refine ⟨(hf i (by omega)).1, (hold i (by omega)).other hg.size (fun k hn0 e' => ?_)⟩; obtain ⟨k', e'', h1⟩ := hlow i (by omega) hn0; have hkk : k = k' := congrArg Addr.block (Option.some.inj (e'.symm.trans e'')); refine hg.block k (by have := hb0.size; omega) (fun hk => ?_); exact ha.1 i (by omega) hn0 (by rw [e', (hown k hk.symm).1])
 ·have hi' : i ≤ rs.length := by simp at hi; omega
  rw [rt_append_at _ _ _ hi'] at hp ⊢
  by_cases e : i = rs.length
  ·rw [if_pos e] at hp ⊢
   obtain ⟨k', e'', h1, h2⟩ := hhigh hp; rw [show ((hd, tp, tn, tc) : RT).2.1 = tp from rfl, e'']; exact ne_block (by omega) hp
  ·rw [if_neg e] at hp ⊢
   obtain ⟨k', e'', h1⟩ := hlow i (by omega) hp
   rcases hat with h | h
   ·rw [← (hown g h).1]
    exact ha.1 i (by omega) hp
   ·rw [e'']
    exact ne_block (by have := hb0.size; omega) hp
 ·have hi' : i ≤ rs.length := by simp at hi; omega
  have hj' : j ≤ rs.length := by simp at hj; omega
  rw [rt_append_at _ _ _ hi'] at hpi ⊢; rw [rt_append_at _ _ _ hj'] at hpj ⊢
  by_cases e : i = rs.length
  ·rw [if_pos e] at hpi ⊢
   rw [if_neg (by omega)] at hpj ⊢; obtain ⟨k', e'', h1, h2⟩ := hhigh hpi; obtain ⟨k2, e2, h3⟩ := hlow j (by omega) hpj; rw [show ((hd, tp, tn, tc) : RT).2.1 = tp from rfl, e'', e2]; exact ne_block (by omega) hpi
  ·rw [if_neg e] at hpi ⊢
   by_cases e' : j = rs.length
   ·rw [if_pos e'] at hpj ⊢
    obtain ⟨k', e'', h1, h2⟩ := hhigh hpj; obtain ⟨k2, e2, h3⟩ := hlow i (by omega) hpi; rw [show ((hd, tp, tn, tc) : RT).2.1 = tp from rfl, e'', e2]; exact ne_block (by omega) hpi
   ·rw [if_neg e'] at hpj ⊢
    exact ha.2 i j (by omega) (by omega) hij hpi hpj
theorem rtV_one (r : RT) : ∀ u ∈ rtV r, u.oneCell' = true := fun u hu => by
 simp [rtV] at hu
 rcases hu with rfl | rfl | rfl | rfl | rfl <;> rfl
def blkF (xs : List Int) : Nat → Nat → Option Nat
 | 0, _ => none
 | f + 1, i => if byteI xs i = 42 ∧ byteI xs (i + 1) = 47 then some i else blkF xs f (i + 1)
def blkI (xs : List Int) (i : Nat) : Option Nat := blkF xs (xs.length - i) i
theorem blk_step (xs : List Int) (i : Nat) (h : i < xs.length) : blkI xs i = if byteI xs i = 42 ∧ byteI xs (i + 1) = 47 then some i else blkI xs (i + 1) := by
 unfold blkI
 rw [show xs.length - i = (xs.length - (i + 1)) + 1 by omega]
 rfl
theorem blk_end (xs : List Int) (i : Nat) (h : xs.length ≤ i) : blkI xs i = none := by unfold blkI; rw [show xs.length - i = 0 by omega]; rfl
theorem blk_rng {xs : List Int} : ∀ (f i j : Nat), blkF xs f i = some j → i ≤ j ∧ j + 1 < xs.length
 | 0, i, j, h => by cases h
 | f + 1, i, j, h => by
   unfold blkF at h
   split at h
   ·rename_i hh
    cases h
    refine ⟨Nat.le_refl _, ?_⟩
    rcases Nat.lt_or_ge (i + 1) xs.length with h' | h'
    ·exact h'
    ·rw [byteI_ge h'] at hh; omega
   ·have := blk_rng f (i + 1) j h; omega
def layI (xs : List Int) (pos : Nat) : Option Nat :=
 if endsI (byteI xs pos) = true ∧ byteI xs pos ≠ -1 ∧ byteI xs pos ≠ 37 then some 1
 else if byteI xs pos = 37 then some (lineI xs pos)
 else if byteI xs pos = 47 ∧ byteI xs (pos + 1) = 42 then (match blkI xs (pos + 2) with
  | none => none
  | some j => some (j + 2 - pos))
 else some 0
abbrev LexR := Except (Int × Nat) (List Tok)
def lexF (xs : List Int) : Nat → Nat → Int → List Tok → LexR
 | 0, _, _, acc => .ok acc
 | f + 1, pos, a, acc => if xs.length ≤ pos then .ok acc else match layI xs pos with
   | none => .error (2, pos)
   | some n => if 0 < n then lexF xs f (pos + n) a acc else match nextR xs (decide (a = pos)) pos with
     | .error c => .error (c, pos)
     | .ok (kind, len, ys, v) => lexF xs f (pos + len) (if kind = 1 then ((pos + len : Nat) : Int) else -1) (acc ++ [((kind, (pos : Int), (len : Int), v), ys)])
def lexI (xs : List Int) (pos : Nat) (a : Int) (acc : List Tok) : LexR := lexF xs (xs.length + 1 - pos) pos a acc
end
end Go.Proofs.YtfgmenkoeflhaaaGreatDoor
