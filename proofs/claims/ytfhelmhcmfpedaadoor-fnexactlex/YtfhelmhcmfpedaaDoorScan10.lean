/- The scanner: the next token. Own work of the verifier. -/
import Derived.Test.YtfhelmhcmfpedaaDoorScan9
namespace Go.Proofs.YtfhelmhcmfpedaaDoor
open Go Go.RowKit
set_option linter.unusedVariables false
set_option linter.unusedSimpArgs false

theorem Hid.mk {p : Prop} (h : p) : Hid p := h
theorem grown_on {w w1 : World} {S : Nat} (h : Below w.heap.size w (w.alloc tokO)) (k : (w.alloc tokO).grownBy w1 (some S)) : w.grownBy w1 (some S) := (grown_of_below h _).trans k
theorem size_lt {w w1 : World} {S q : Nat} (M : Moved (w.alloc tokO) w1 S q) : w.heap.size < w1.heap.size := by have := M.grown.size; simp only [World.size_alloc] at this; omega
theorem blk_kept {w w1 : World} {S q : Nat} (hS : S < w.heap.size) (M : Moved (w.alloc tokO) w1 S q) : w1.heap[w.heap.size]? = some tokO :=
  (M.grown.block w.heap.size (by simp) (by simp; omega)).trans (by show (w.heap.push tokO)[w.heap.size]? = _; simp)
/-- The token that a callee handed back, laid into the result's own variable. -/
theorem next_end {w w1 : World} {S pos len m c1 : Nat} {kd vv : Int} {p : Option Addr} {ys : List Int} (hB : Below w.heap.size w (w.alloc tokO)) (hS : S < w.heap.size) (M : Moved (w.alloc tokO) w1 S (pos + len))
    (ho : OwnS w1 (w.alloc tokO).heap.size p m c1 ys) (hlt : w.heap.size < w1.heap.size) :
    TokOut w S pos (.ok (kd, len, ys, vv)) (.returned (tokV kd pos len p m c1 vv)) (w1.setCells w.heap.size 0 [.int .i64 kd, .int .i64 pos, .int .i64 len, .slice p m c1, .int .i64 vv]) := by
  have hG := grown_set5 w1 w.heap.size (.int .i64 kd) (.int .i64 pos) (.int .i64 len) (.slice p m c1) (.int .i64 vv)
  have hform : ∀ g, p = some ⟨g, 0, none⟩ → w.heap.size + 1 ≤ g := fun g e => by
    rcases ho.form with ⟨e', _⟩ | ⟨g', e', h, _⟩
    · rw [e'] at e; cases e
    · rw [e'] at e; cases e; simpa using h
  have hO2 := ho.kept hG (fun g e e' => by have := hform g e; simp only [Option.some.injEq] at e'; omega)
  refine ⟨p, m, c1, rfl, ⟨hO2.1, hO2.2.1, hO2.2.2.imp id fun ⟨g, c, cur, a1, a2, a3⟩ => ⟨g, c, cur, a1, by simp at a2; omega, a3⟩⟩, ?_⟩
  exact Moved.onto hB M (Below.of_grown hG (Nat.le_of_lt hlt) (fun k e => by cases e; exact Nat.le_refl _)) hS

theorem single_out {w w' : World} {S pos : Nat} {kind x : Int} {xs : List Int} {e : Ending} (hx : x = xs.getD pos 0) (h : ∃ p' n' c', e = .returned (tokV kind pos 1 p' n' c' 0) ∧ OwnS w' w.heap.size p' n' c' [xs.getD pos 0] ∧ Moved w w' S (pos + 1)) : TokOut w S pos (.ok (kind, 1, [x], 0)) e w' := by
  rw [hx]; exact h
theorem tok_drew {W w' : World} {S pos k : Nat} {r : TokR} {e : Ending} (hS : S < W.heap.size) (h : TokOut (W.drewN k) S pos r e w') : TokOut W S pos r e w' := by
  have hb : Below W.heap.size W (W.drewN k) := below_drewN (Below.refl _ _) k
  cases r with
  | error code => exact ⟨h.1, (grown_of_below hb _).trans h.2⟩
  | ok r =>
    obtain ⟨kd, len, ys, vv⟩ := r
    obtain ⟨p, n, c, he, ho, hm⟩ := h
    exact ⟨p, n, c, he, ho, Moved.onto hb hm (Below.refl _ _) hS⟩

/-- Whether an atom ended just here. -/
def callI (ka la ll : Int) (pos : Nat) : Bool := decide (ka = 1 ∧ la + ll = pos)
theorem behind_any (S pos : Nat) (ka la ll : Int) (w : World) (h1 : w.cell? ⟨S, 1, none⟩ = some (.int .i64 pos)) (h2 : w.cell? ⟨S, 2, none⟩ = some (.int .i64 ka)) (h3 : w.cell? ⟨S, 3, none⟩ = some (.int .i64 la)) (h4 : w.cell? ⟨S, 4, none⟩ = some (.int .i64 ll))
    (hla : 0 ≤ la ∧ la ≤ 100000) (hll : 0 ≤ ll ∧ ll ≤ 100000) (hp : pos ≤ 100000) :
    Calls Tryd.prog 61 #[.pointer (some ⟨S, 0, none⟩)] w fun e w' => e = .returned (.bool (callI ka la ll pos)) ∧ ∃ m, w' = w.drewN m := by
  by_cases a : ka = 1
  · subst a
    have hwr : IntKind.i64.wrap (la + ll) = la + ll := by rw [IntKind.wrap_i64]; omega
    have e : callI 1 la ll pos = (la + ll == (pos : Int)) := by unfold callI; rw [Bool.eq_iff_iff]; simp
    rw [e]
    clear e
    go_enter Tryd.func61, Tryd.ntmps61
    go_wp2
    all_goals (try go_quiet (fail))
    all_goals (try go_wp2)
    go_ret
    exact ⟨rfl, _, rfl⟩
  · have e : callI ka la ll pos = false := by unfold callI; rw [decide_eq_false_iff_not]; omega
    have t : (ka == 1) = false := by simpa using a
    rw [e]
    clear e a
    go_enter Tryd.func61, Tryd.ntmps61
    go_wp2
    all_goals (try go_quiet (fail))
    all_goals (try go_wp2)
    go_ret
    exact ⟨rfl, _, rfl⟩

theorem isOf7_all : (List.range 257).all (fun c => (!isOfB ((c : Int) - 1) 1 || isOfB ((c : Int) - 1) 7) && (!isOfB ((c : Int) - 1) 2 || isOfB ((c : Int) - 1) 7)) = true := by decide +kernel
theorem isOf7 {b : Int} (h0 : -1 ≤ b) (h1 : b < 256) (h : isOfB b 1 = true ∨ isOfB b 2 = true) : isOfB b 7 = true := by
  have hh := List.all_eq_true.1 isOf7_all (b + 1).toNat (by simp; omega)
  rw [show (((b + 1).toNat : Nat) : Int) - 1 = b by omega] at hh
  simp only [Bool.and_eq_true, Bool.or_eq_true, Bool.not_eq_true'] at hh
  rcases h with h | h
  · rcases hh.1 with h' | h'
    · rw [h] at h'; cases h'
    · exact h'
  · rcases hh.2 with h' | h'
    · rw [h] at h'; cases h'
    · exact h'
def runR (xs : List Int) (pos : Nat) (kind k : Int) : TokR := if 100 < runI k xs pos then .error 3 else .ok (kind, runI k xs pos, (xs.drop pos).take (runI k xs pos), 0)
theorem taken_out {w w' : World} {S pos : Nat} {kind k : Int} {xs : List Int} {e : Ending} (hp : pos ≤ xs.length) (h : Taken w S kind pos (runI k xs pos) ((xs.drop pos).take (runI k xs pos)) e w') : TokOut w S pos (runR xs pos kind k) e w' := by
  have hl : ((xs.drop pos).take (runI k xs pos)).length = runI k xs pos := by have := runI_le k xs pos hp; simp; omega
  unfold runR
  rcases h with ⟨h, p, n, c, he, ho, hm⟩ | ⟨h, hf, hg⟩
  · rw [hl] at h; rw [if_neg (by omega)]; exact ⟨p, n, c, he, ho, hm⟩
  · rw [hl] at h; rw [if_pos h]; exact ⟨hf, hg⟩
def nextF (x : Int) (call : Bool) (xs : List Int) (pos : Nat) : TokR :=
  if isOfB x 1 = true then runR xs pos 1 7 else if isOfB x 2 = true then runR xs pos 2 7 else if isOfB x 4 = true then numR xs pos
  else if x = 46 ∧ endsI (byteI xs (pos + 1)) = true then .ok (7, 1, [], 0) else if isOfB x 8 = true then runR xs pos 1 8 else if isOfB x 32 = true then .ok (1, 1, [x], 0)
  else if x = 39 then quoR xs 1 pos else if x = 34 then quoR xs 4 pos else if x = 40 ∧ call = true then .ok (6, 1, [x], 0) else if isOfB x 64 = true then .ok (5, 1, [x], 0) else .error 2
def nextR (xs : List Int) (call : Bool) (pos : Nat) : TokR := nextF (byteI xs pos) call xs pos

set_option maxHeartbeats 4000000 in
set_option maxRecDepth 100000 in
theorem next_any (S b n c pos : Nat) (ka la ll : Int) (xs : List Int) (w : World) (E : Env w S b n c pos xs) (hp : pos < xs.length)
    (h2 : w.cell? ⟨S, 2, none⟩ = some (.int .i64 ka)) (h3 : w.cell? ⟨S, 3, none⟩ = some (.int .i64 la)) (h4 : w.cell? ⟨S, 4, none⟩ = some (.int .i64 ll)) (hla : 0 ≤ la ∧ la ≤ 100000) (hll : 0 ≤ ll ∧ ll ≤ 100000) :
    Calls Tryd.prog 43 #[.pointer (some ⟨S, 0, none⟩)] w fun e w' => TokOut w S pos (nextR xs (callI ka la ll pos) pos) e w' := by
  have HV : Hid (Env (w.alloc tokO) S b n c pos xs) := E.alloc _
  have h1 : (w.alloc tokO).cell? ⟨S, 1, none⟩ = some (.int .i64 pos) := (E.alloc tokO).at1
  have HL2 : Hid ((w.alloc tokO).cell? ⟨S, 2, none⟩ = some (.int .i64 ka)) := Lib.cell?_alloc_marked _ h2
  have HL3 : Hid ((w.alloc tokO).cell? ⟨S, 3, none⟩ = some (.int .i64 la)) := Lib.cell?_alloc_marked _ h3
  have HL4 : Hid ((w.alloc tokO).cell? ⟨S, 4, none⟩ = some (.int .i64 ll)) := Lib.cell?_alloc_marked _ h4
  have HB0 : Hid (Below w.heap.size w (w.alloc tokO)) := (Below.refl _ _).alloc (Nat.le_refl _) _
  have HS : Hid (S < w.heap.size) := E.inH
  have hsm : n ≤ 10000 := E.small
  have hpn : pos < n := by rw [E.len]; exact hp
  have HP : Hid (pos < xs.length) := hp
  have hr := byteI_rng E.bytes pos
  obtain ⟨x, ex⟩ : ∃ x, x = byteI xs pos := ⟨_, rfl⟩
  obtain ⟨nd, en⟩ : ∃ nd, nd = endsI (byteI xs (pos + 1)) := ⟨_, rfl⟩
  obtain ⟨cb, ec⟩ : ∃ cb, cb = callI ka la ll pos := ⟨_, rfl⟩
  rw [← ex] at hr
  have HU : Hid (nextR xs (callI ka la ll pos) pos = nextF x cb xs pos) := by show _ = _; rw [ex, ec]; rfl
  have HX : Hid (byteI xs pos = x) := ex.symm
  have HN : Hid (endsI (byteI xs (pos + 1)) = nd) := en.symm
  have HCB : Hid (callI ka la ll pos = cb) := ec.symm
  have HXD : Hid (x = xs.getD pos 0) := by show _ = _; rw [ex, byteI_lt hp]
  clear E h2 h3 h4 ex en ec hp
  by_cases t1 : isOfB x 1 = true
  · have HQ : Hid (nextR xs (callI ka la ll pos) pos = runR xs pos 1 7) := by show _ = _; rw [HU.out]; unfold nextF; rw [if_pos t1]
    have HC := (run_any S b n c pos 1 7 xs (w.alloc tokO) HV.out.bytes HV.out.len HV.out.cap (by omega) HP.out (by rw [HX.out]; exact isOf7 hr.1 hr.2 (.inl t1)) HV.out.src HV.out.at1 (HV.out.fz 1) HV.out.inH HV.out.row HV.out.tab).mono (fun e w' h => taken_out (Nat.le_of_lt HP.out) h)
    cases hR : runR xs pos 1 7 with
    | error code =>
      rw [hR] at HC
      have HG : Hid (nextR xs (callI ka la ll pos) pos = .error code) := HQ.out.trans hR
      clear hR HU HQ
      go_enter Tryd.func43, Tryd.ntmps43
      go_wp2_with (first | (go_at_call 52; refine (byteAt_any S b n c xs pos _ HV.out.bytes HV.out.len (by have := HV.out.small; omega) (by omega) HV.out.src HV.out.row).mono ?_; rintro e w' ⟨rfl, rfl⟩; rw [HX.out]) | (go_at_call 21; refine (isOf_any _ _ _ (by omega) (by omega) HV.out.tab).mono ?_; rintro e w' ⟨rfl, rfl⟩) | (go_at_call 55; refine HC.mono ?_; rintro e w1 ⟨hfa, hgr⟩; cases hfa))
      refine ⟨rfl, tokOut_of ?_ HG.out⟩
      exact ⟨rfl, grown_on HB0.out hgr⟩
    | ok r =>
      obtain ⟨kd, len, ys, vv⟩ := r
      rw [hR] at HC
      have HG : Hid (nextR xs (callI ka la ll pos) pos = .ok (kd, len, ys, vv)) := HQ.out.trans hR
      clear hR HU HQ
      go_enter Tryd.func43, Tryd.ntmps43
      go_wp2_with (first | (go_at_call 52; refine (byteAt_any S b n c xs pos _ HV.out.bytes HV.out.len (by have := HV.out.small; omega) (by omega) HV.out.src HV.out.row).mono ?_; rintro e w' ⟨rfl, rfl⟩; rw [HX.out]) | (go_at_call 21; refine (isOf_any _ _ _ (by omega) (by omega) HV.out.tab).mono ?_; rintro e w' ⟨rfl, rfl⟩) | (go_at_call 55; refine HC.mono ?_; rintro e w1 ⟨p, m, c1, rfl, hown, M⟩; have HM := Hid.mk M; have HO := Hid.mk hown; have hlt0 := size_lt M; have hblk := blk_kept HS.out M; obtain ⟨d0, d1, d2, d3, d4⟩ := five w1 w.heap.size hblk; obtain ⟨g0, g1, g2, g3, g4⟩ := fiveF w1 w.heap.size hblk; clear M hblk hown))
      refine bodyPost_ret (v := tokV kd pos len p m c1 vv) (by simp [results, Tryd.results43, go_sem, d0, d1, d2, d3, d4, hlt0]) rfl (tokOut_of ?_ HG.out)
      exact next_end HB0.out HS.out HM.out HO.out hlt0
  have s1 : isOfB x 1 = false := by simpa using t1
  by_cases t2 : isOfB x 2 = true
  · have HQ : Hid (nextR xs (callI ka la ll pos) pos = runR xs pos 2 7) := by show _ = _; rw [HU.out]; unfold nextF; rw [if_neg t1, if_pos t2]
    have HC := (run_any S b n c pos 2 7 xs (w.alloc tokO) HV.out.bytes HV.out.len HV.out.cap (by omega) HP.out (by rw [HX.out]; exact isOf7 hr.1 hr.2 (.inr t2)) HV.out.src HV.out.at1 (HV.out.fz 1) HV.out.inH HV.out.row HV.out.tab).mono (fun e w' h => taken_out (Nat.le_of_lt HP.out) h)
    cases hR : runR xs pos 2 7 with
    | error code =>
      rw [hR] at HC
      have HG : Hid (nextR xs (callI ka la ll pos) pos = .error code) := HQ.out.trans hR
      clear hR HU HQ
      go_enter Tryd.func43, Tryd.ntmps43
      go_wp2_with (first | (go_at_call 52; refine (byteAt_any S b n c xs pos _ HV.out.bytes HV.out.len (by have := HV.out.small; omega) (by omega) HV.out.src HV.out.row).mono ?_; rintro e w' ⟨rfl, rfl⟩; rw [HX.out]) | (go_at_call 21; refine (isOf_any _ _ _ (by omega) (by omega) HV.out.tab).mono ?_; rintro e w' ⟨rfl, rfl⟩) | (go_at_call 55; refine HC.mono ?_; rintro e w1 ⟨hfa, hgr⟩; cases hfa))
      refine ⟨rfl, tokOut_of ?_ HG.out⟩
      exact ⟨rfl, grown_on HB0.out hgr⟩
    | ok r =>
      obtain ⟨kd, len, ys, vv⟩ := r
      rw [hR] at HC
      have HG : Hid (nextR xs (callI ka la ll pos) pos = .ok (kd, len, ys, vv)) := HQ.out.trans hR
      clear hR HU HQ
      go_enter Tryd.func43, Tryd.ntmps43
      go_wp2_with (first | (go_at_call 52; refine (byteAt_any S b n c xs pos _ HV.out.bytes HV.out.len (by have := HV.out.small; omega) (by omega) HV.out.src HV.out.row).mono ?_; rintro e w' ⟨rfl, rfl⟩; rw [HX.out]) | (go_at_call 21; refine (isOf_any _ _ _ (by omega) (by omega) HV.out.tab).mono ?_; rintro e w' ⟨rfl, rfl⟩) | (go_at_call 55; refine HC.mono ?_; rintro e w1 ⟨p, m, c1, rfl, hown, M⟩; have HM := Hid.mk M; have HO := Hid.mk hown; have hlt0 := size_lt M; have hblk := blk_kept HS.out M; obtain ⟨d0, d1, d2, d3, d4⟩ := five w1 w.heap.size hblk; obtain ⟨g0, g1, g2, g3, g4⟩ := fiveF w1 w.heap.size hblk; clear M hblk hown))
      refine bodyPost_ret (v := tokV kd pos len p m c1 vv) (by simp [results, Tryd.results43, go_sem, d0, d1, d2, d3, d4, hlt0]) rfl (tokOut_of ?_ HG.out)
      exact next_end HB0.out HS.out HM.out HO.out hlt0
  have s2 : isOfB x 2 = false := by simpa using t2
  by_cases t3 : isOfB x 4 = true
  · have HQ : Hid (nextR xs (callI ka la ll pos) pos = numR xs pos) := by show _ = _; rw [HU.out]; unfold nextF; rw [if_neg t1, if_neg t2, if_pos t3]
    have HC := number_any S b n c pos xs (w.alloc tokO) HV.out (by omega)
    cases hR : numR xs pos with
    | error code =>
      rw [hR] at HC
      have HG : Hid (nextR xs (callI ka la ll pos) pos = .error code) := HQ.out.trans hR
      clear hR HU HQ
      go_enter Tryd.func43, Tryd.ntmps43
      go_wp2_with (first | (go_at_call 52; refine (byteAt_any S b n c xs pos _ HV.out.bytes HV.out.len (by have := HV.out.small; omega) (by omega) HV.out.src HV.out.row).mono ?_; rintro e w' ⟨rfl, rfl⟩; rw [HX.out]) | (go_at_call 21; refine (isOf_any _ _ _ (by omega) (by omega) HV.out.tab).mono ?_; rintro e w' ⟨rfl, rfl⟩) | (go_at_call 56; refine HC.mono ?_; rintro e w1 ⟨hfa, hgr⟩; cases hfa))
      refine ⟨rfl, tokOut_of ?_ HG.out⟩
      exact ⟨rfl, grown_on HB0.out hgr⟩
    | ok r =>
      obtain ⟨kd, len, ys, vv⟩ := r
      rw [hR] at HC
      have HG : Hid (nextR xs (callI ka la ll pos) pos = .ok (kd, len, ys, vv)) := HQ.out.trans hR
      clear hR HU HQ
      go_enter Tryd.func43, Tryd.ntmps43
      go_wp2_with (first | (go_at_call 52; refine (byteAt_any S b n c xs pos _ HV.out.bytes HV.out.len (by have := HV.out.small; omega) (by omega) HV.out.src HV.out.row).mono ?_; rintro e w' ⟨rfl, rfl⟩; rw [HX.out]) | (go_at_call 21; refine (isOf_any _ _ _ (by omega) (by omega) HV.out.tab).mono ?_; rintro e w' ⟨rfl, rfl⟩) | (go_at_call 56; refine HC.mono ?_; rintro e w1 ⟨p, m, c1, rfl, hown, M⟩; have HM := Hid.mk M; have HO := Hid.mk hown; have hlt0 := size_lt M; have hblk := blk_kept HS.out M; obtain ⟨d0, d1, d2, d3, d4⟩ := five w1 w.heap.size hblk; obtain ⟨g0, g1, g2, g3, g4⟩ := fiveF w1 w.heap.size hblk; clear M hblk hown))
      refine bodyPost_ret (v := tokV kd pos len p m c1 vv) (by simp [results, Tryd.results43, go_sem, d0, d1, d2, d3, d4, hlt0]) rfl (tokOut_of ?_ HG.out)
      exact next_end HB0.out HS.out HM.out HO.out hlt0
  have s3 : isOfB x 4 = false := by simpa using t3
  by_cases t46 : x = 46
  · subst t46
    cases nd
    · have HQ : Hid (nextR xs (callI ka la ll pos) pos = runR xs pos 1 8) := by show _ = _; rw [HU.out]; unfold nextF; rw [if_neg t1, if_neg t2, if_neg t3, HN.out, if_neg (by simp), if_pos (by decide +kernel)]
      have HC := (run_any S b n c pos 1 8 xs (w.alloc tokO) HV.out.bytes HV.out.len HV.out.cap (by omega) HP.out (by rw [HX.out]; exact (by decide +kernel)) HV.out.src HV.out.at1 (HV.out.fz 1) HV.out.inH HV.out.row HV.out.tab).mono (fun e w' h => taken_out (Nat.le_of_lt HP.out) h)
      have s8 : isOfB 46 8 = true := by decide +kernel
      cases hR : runR xs pos 1 8 with
      | error code =>
        rw [hR] at HC
        have HG : Hid (nextR xs (callI ka la ll pos) pos = .error code) := HQ.out.trans hR
        clear hR HU HQ
        go_enter Tryd.func43, Tryd.ntmps43
        go_wp2_with (first | (go_at_call 52; refine (byteAt_any S b n c xs pos _ HV.out.bytes HV.out.len (by have := HV.out.small; omega) (by omega) HV.out.src HV.out.row).mono ?_; rintro e w' ⟨rfl, rfl⟩; rw [HX.out]) | (go_at_call 21; refine (isOf_any _ _ _ (by omega) (by omega) HV.out.tab).mono ?_; rintro e w' ⟨rfl, rfl⟩) | (go_at_call 57; refine (endsBehind_any S b n c xs (pos + 1) _ HV.out.bytes HV.out.len (by have := HV.out.small; omega) (by omega) HV.out.src HV.out.row HV.out.tab).mono ?_; rintro e w' ⟨rfl, rfl⟩; rw [HN.out]) | (go_at_call 55; refine (HC).mono ?_; rintro e w1 ⟨hfa, hgr⟩; cases hfa))
        refine ⟨rfl, tokOut_of ?_ HG.out⟩
        exact ⟨rfl, grown_on HB0.out hgr⟩
      | ok r =>
        obtain ⟨kd, len, ys, vv⟩ := r
        rw [hR] at HC
        have HG : Hid (nextR xs (callI ka la ll pos) pos = .ok (kd, len, ys, vv)) := HQ.out.trans hR
        clear hR HU HQ
        go_enter Tryd.func43, Tryd.ntmps43
        go_wp2_with (first | (go_at_call 52; refine (byteAt_any S b n c xs pos _ HV.out.bytes HV.out.len (by have := HV.out.small; omega) (by omega) HV.out.src HV.out.row).mono ?_; rintro e w' ⟨rfl, rfl⟩; rw [HX.out]) | (go_at_call 21; refine (isOf_any _ _ _ (by omega) (by omega) HV.out.tab).mono ?_; rintro e w' ⟨rfl, rfl⟩) | (go_at_call 57; refine (endsBehind_any S b n c xs (pos + 1) _ HV.out.bytes HV.out.len (by have := HV.out.small; omega) (by omega) HV.out.src HV.out.row HV.out.tab).mono ?_; rintro e w' ⟨rfl, rfl⟩; rw [HN.out]) | (go_at_call 55; refine (HC).mono ?_; rintro e w1 ⟨p, m, c1, rfl, hown, M⟩; have HM := Hid.mk M; have HO := Hid.mk hown; have hlt0 := size_lt M; have hblk := blk_kept HS.out M; obtain ⟨d0, d1, d2, d3, d4⟩ := five w1 w.heap.size hblk; obtain ⟨g0, g1, g2, g3, g4⟩ := fiveF w1 w.heap.size hblk; clear M hblk hown))
        refine bodyPost_ret (v := tokV kd pos len p m c1 vv) (by simp [results, Tryd.results43, go_sem, d0, d1, d2, d3, d4, hlt0]) rfl (tokOut_of ?_ HG.out)
        exact next_end HB0.out HS.out HM.out HO.out hlt0
    · have HQ : Hid (nextR xs (callI ka la ll pos) pos = .ok (7, 1, [], 0)) := by show _ = _; rw [HU.out]; unfold nextF; rw [if_neg t1, if_neg t2, if_neg t3, HN.out, if_pos (by simp)]
      have HC : Calls Tryd.prog _ _ _ (fun e w' => TokOut (w.alloc tokO) S pos (.ok (7, 1, [], 0)) e w') := (take_fits S pos 7 (pos + 1) none 0 0 (w.alloc tokO) HV.out.at1 (HV.out.fz 1) HV.out.inH (by decide) (by omega) (by omega)).mono (fun e w' ⟨he, hm⟩ => ⟨none, 0, 0, by rw [he, show ((pos + 1 : Nat) : Int) - pos = ((1 : Nat) : Int) by omega], OwnS.nil _ _, hm⟩)
      have HG : Hid (nextR xs (callI ka la ll pos) pos = .ok (7, 1, [], 0)) := HQ
      clear HU HQ
      go_enter Tryd.func43, Tryd.ntmps43
      go_wp2_with (first | (go_at_call 52; refine (byteAt_any S b n c xs pos _ HV.out.bytes HV.out.len (by have := HV.out.small; omega) (by omega) HV.out.src HV.out.row).mono ?_; rintro e w' ⟨rfl, rfl⟩; rw [HX.out]) | (go_at_call 21; refine (isOf_any _ _ _ (by omega) (by omega) HV.out.tab).mono ?_; rintro e w' ⟨rfl, rfl⟩) | (go_at_call 57; refine (endsBehind_any S b n c xs (pos + 1) _ HV.out.bytes HV.out.len (by have := HV.out.small; omega) (by omega) HV.out.src HV.out.row HV.out.tab).mono ?_; rintro e w' ⟨rfl, rfl⟩; rw [HN.out]) | (go_at_call 58; refine (HC).mono ?_; rintro e w1 ⟨p, m, c1, rfl, hown, M⟩; have HM := Hid.mk M; have HO := Hid.mk hown; have hlt0 := size_lt M; have hblk := blk_kept HS.out M; obtain ⟨d0, d1, d2, d3, d4⟩ := five w1 w.heap.size hblk; obtain ⟨g0, g1, g2, g3, g4⟩ := fiveF w1 w.heap.size hblk; clear M hblk hown))
      refine bodyPost_ret (v := tokV 7 pos ((1 : Nat) : Int) p m c1 0) (by simp [results, Tryd.results43, go_sem, d0, d1, d2, d3, d4, hlt0]) rfl (tokOut_of ?_ HG.out)
      exact next_end HB0.out HS.out HM.out HO.out hlt0
  have s46 : (x == 46) = false := by simpa using t46
  by_cases t8 : isOfB x 8 = true
  · have HQ : Hid (nextR xs (callI ka la ll pos) pos = runR xs pos 1 8) := by show _ = _; rw [HU.out]; unfold nextF; rw [if_neg t1, if_neg t2, if_neg t3, if_neg (fun h => t46 h.1), if_pos t8]
    have HC := (run_any S b n c pos 1 8 xs (w.alloc tokO) HV.out.bytes HV.out.len HV.out.cap (by omega) HP.out (by rw [HX.out]; exact t8) HV.out.src HV.out.at1 (HV.out.fz 1) HV.out.inH HV.out.row HV.out.tab).mono (fun e w' h => taken_out (Nat.le_of_lt HP.out) h)
    cases hR : runR xs pos 1 8 with
    | error code =>
      rw [hR] at HC
      have HG : Hid (nextR xs (callI ka la ll pos) pos = .error code) := HQ.out.trans hR
      clear hR HU HQ
      go_enter Tryd.func43, Tryd.ntmps43
      go_wp2_with (first | (go_at_call 52; refine (byteAt_any S b n c xs pos _ HV.out.bytes HV.out.len (by have := HV.out.small; omega) (by omega) HV.out.src HV.out.row).mono ?_; rintro e w' ⟨rfl, rfl⟩; rw [HX.out]) | (go_at_call 21; refine (isOf_any _ _ _ (by omega) (by omega) HV.out.tab).mono ?_; rintro e w' ⟨rfl, rfl⟩) | (go_at_call 55; refine (HC).mono ?_; rintro e w1 ⟨hfa, hgr⟩; cases hfa))
      refine ⟨rfl, tokOut_of ?_ HG.out⟩
      exact ⟨rfl, grown_on HB0.out hgr⟩
    | ok r =>
      obtain ⟨kd, len, ys, vv⟩ := r
      rw [hR] at HC
      have HG : Hid (nextR xs (callI ka la ll pos) pos = .ok (kd, len, ys, vv)) := HQ.out.trans hR
      clear hR HU HQ
      go_enter Tryd.func43, Tryd.ntmps43
      go_wp2_with (first | (go_at_call 52; refine (byteAt_any S b n c xs pos _ HV.out.bytes HV.out.len (by have := HV.out.small; omega) (by omega) HV.out.src HV.out.row).mono ?_; rintro e w' ⟨rfl, rfl⟩; rw [HX.out]) | (go_at_call 21; refine (isOf_any _ _ _ (by omega) (by omega) HV.out.tab).mono ?_; rintro e w' ⟨rfl, rfl⟩) | (go_at_call 55; refine (HC).mono ?_; rintro e w1 ⟨p, m, c1, rfl, hown, M⟩; have HM := Hid.mk M; have HO := Hid.mk hown; have hlt0 := size_lt M; have hblk := blk_kept HS.out M; obtain ⟨d0, d1, d2, d3, d4⟩ := five w1 w.heap.size hblk; obtain ⟨g0, g1, g2, g3, g4⟩ := fiveF w1 w.heap.size hblk; clear M hblk hown))
      refine bodyPost_ret (v := tokV kd pos len p m c1 vv) (by simp [results, Tryd.results43, go_sem, d0, d1, d2, d3, d4, hlt0]) rfl (tokOut_of ?_ HG.out)
      exact next_end HB0.out HS.out HM.out HO.out hlt0
  have s8 : isOfB x 8 = false := by simpa using t8
  by_cases t32 : isOfB x 32 = true
  · have HQ : Hid (nextR xs (callI ka la ll pos) pos = .ok (1, 1, [x], 0)) := by show _ = _; rw [HU.out]; unfold nextF; rw [if_neg t1, if_neg t2, if_neg t3, if_neg (fun h => t46 h.1), if_neg t8, if_pos t32]
    have HC := (single_any S b n c pos 1 xs (w.alloc tokO) HV.out.bytes HV.out.len (by omega) HP.out HV.out.src HV.out.at1 (HV.out.fz 1) HV.out.inH HV.out.row).mono (fun e w' h => single_out HXD.out h)
    have HG : Hid (nextR xs (callI ka la ll pos) pos = .ok (1, 1, [x], 0)) := HQ
    clear HU HQ
    go_enter Tryd.func43, Tryd.ntmps43
    go_wp2_with (first | (go_at_call 52; refine (byteAt_any S b n c xs pos _ HV.out.bytes HV.out.len (by have := HV.out.small; omega) (by omega) HV.out.src HV.out.row).mono ?_; rintro e w' ⟨rfl, rfl⟩; rw [HX.out]) | (go_at_call 21; refine (isOf_any _ _ _ (by omega) (by omega) HV.out.tab).mono ?_; rintro e w' ⟨rfl, rfl⟩) | (go_at_call 59; refine (HC).mono ?_; rintro e w1 ⟨p, m, c1, rfl, hown, M⟩; have HM := Hid.mk M; have HO := Hid.mk hown; have hlt0 := size_lt M; have hblk := blk_kept HS.out M; obtain ⟨d0, d1, d2, d3, d4⟩ := five w1 w.heap.size hblk; obtain ⟨g0, g1, g2, g3, g4⟩ := fiveF w1 w.heap.size hblk; clear M hblk hown))
    refine bodyPost_ret (v := tokV 1 pos ((1 : Nat) : Int) p m c1 0) (by simp [results, Tryd.results43, go_sem, d0, d1, d2, d3, d4, hlt0]) rfl (tokOut_of ?_ HG.out)
    exact next_end HB0.out HS.out HM.out HO.out hlt0
  have s32 : isOfB x 32 = false := by simpa using t32
  by_cases t39 : x = 39
  · have HQ : Hid (nextR xs (callI ka la ll pos) pos = quoR xs 1 pos) := by show _ = _; rw [HU.out]; unfold nextF; rw [if_neg t1, if_neg t2, if_neg t3, if_neg (fun h => t46 h.1), if_neg t8, if_neg t32, if_pos t39]
    have HC := quoted_any S b n c pos 1 xs (w.alloc tokO) HV.out HP.out (.inl (HX.out.trans t39))
    have s39 : (x == 39) = true := by simpa using t39
    clear t39
    cases hR : quoR xs 1 pos with
    | error code =>
      rw [hR] at HC
      have HG : Hid (nextR xs (callI ka la ll pos) pos = .error code) := HQ.out.trans hR
      clear hR HU HQ
      go_enter Tryd.func43, Tryd.ntmps43
      go_wp2_with (first | (go_at_call 52; refine (byteAt_any S b n c xs pos _ HV.out.bytes HV.out.len (by have := HV.out.small; omega) (by omega) HV.out.src HV.out.row).mono ?_; rintro e w' ⟨rfl, rfl⟩; rw [HX.out]) | (go_at_call 21; refine (isOf_any _ _ _ (by omega) (by omega) HV.out.tab).mono ?_; rintro e w' ⟨rfl, rfl⟩) | (go_at_call 60; refine (HC).mono ?_; rintro e w1 ⟨hfa, hgr⟩; cases hfa))
      refine ⟨rfl, tokOut_of ?_ HG.out⟩
      exact ⟨rfl, grown_on HB0.out hgr⟩
    | ok r =>
      obtain ⟨kd, len, ys, vv⟩ := r
      rw [hR] at HC
      have HG : Hid (nextR xs (callI ka la ll pos) pos = .ok (kd, len, ys, vv)) := HQ.out.trans hR
      clear hR HU HQ
      go_enter Tryd.func43, Tryd.ntmps43
      go_wp2_with (first | (go_at_call 52; refine (byteAt_any S b n c xs pos _ HV.out.bytes HV.out.len (by have := HV.out.small; omega) (by omega) HV.out.src HV.out.row).mono ?_; rintro e w' ⟨rfl, rfl⟩; rw [HX.out]) | (go_at_call 21; refine (isOf_any _ _ _ (by omega) (by omega) HV.out.tab).mono ?_; rintro e w' ⟨rfl, rfl⟩) | (go_at_call 60; refine (HC).mono ?_; rintro e w1 ⟨p, m, c1, rfl, hown, M⟩; have HM := Hid.mk M; have HO := Hid.mk hown; have hlt0 := size_lt M; have hblk := blk_kept HS.out M; obtain ⟨d0, d1, d2, d3, d4⟩ := five w1 w.heap.size hblk; obtain ⟨g0, g1, g2, g3, g4⟩ := fiveF w1 w.heap.size hblk; clear M hblk hown))
      refine bodyPost_ret (v := tokV kd pos len p m c1 vv) (by simp [results, Tryd.results43, go_sem, d0, d1, d2, d3, d4, hlt0]) rfl (tokOut_of ?_ HG.out)
      exact next_end HB0.out HS.out HM.out HO.out hlt0
  have s39 : (x == 39) = false := by simpa using t39
  by_cases t34 : x = 34
  · have HQ : Hid (nextR xs (callI ka la ll pos) pos = quoR xs 4 pos) := by show _ = _; rw [HU.out]; unfold nextF; rw [if_neg t1, if_neg t2, if_neg t3, if_neg (fun h => t46 h.1), if_neg t8, if_neg t32, if_neg t39, if_pos t34]
    have HC := quoted_any S b n c pos 4 xs (w.alloc tokO) HV.out HP.out (.inr (HX.out.trans t34))
    have s34 : (x == 34) = true := by simpa using t34
    clear t34
    cases hR : quoR xs 4 pos with
    | error code =>
      rw [hR] at HC
      have HG : Hid (nextR xs (callI ka la ll pos) pos = .error code) := HQ.out.trans hR
      clear hR HU HQ
      go_enter Tryd.func43, Tryd.ntmps43
      go_wp2_with (first | (go_at_call 52; refine (byteAt_any S b n c xs pos _ HV.out.bytes HV.out.len (by have := HV.out.small; omega) (by omega) HV.out.src HV.out.row).mono ?_; rintro e w' ⟨rfl, rfl⟩; rw [HX.out]) | (go_at_call 21; refine (isOf_any _ _ _ (by omega) (by omega) HV.out.tab).mono ?_; rintro e w' ⟨rfl, rfl⟩) | (go_at_call 60; refine (HC).mono ?_; rintro e w1 ⟨hfa, hgr⟩; cases hfa))
      refine ⟨rfl, tokOut_of ?_ HG.out⟩
      exact ⟨rfl, grown_on HB0.out hgr⟩
    | ok r =>
      obtain ⟨kd, len, ys, vv⟩ := r
      rw [hR] at HC
      have HG : Hid (nextR xs (callI ka la ll pos) pos = .ok (kd, len, ys, vv)) := HQ.out.trans hR
      clear hR HU HQ
      go_enter Tryd.func43, Tryd.ntmps43
      go_wp2_with (first | (go_at_call 52; refine (byteAt_any S b n c xs pos _ HV.out.bytes HV.out.len (by have := HV.out.small; omega) (by omega) HV.out.src HV.out.row).mono ?_; rintro e w' ⟨rfl, rfl⟩; rw [HX.out]) | (go_at_call 21; refine (isOf_any _ _ _ (by omega) (by omega) HV.out.tab).mono ?_; rintro e w' ⟨rfl, rfl⟩) | (go_at_call 60; refine (HC).mono ?_; rintro e w1 ⟨p, m, c1, rfl, hown, M⟩; have HM := Hid.mk M; have HO := Hid.mk hown; have hlt0 := size_lt M; have hblk := blk_kept HS.out M; obtain ⟨d0, d1, d2, d3, d4⟩ := five w1 w.heap.size hblk; obtain ⟨g0, g1, g2, g3, g4⟩ := fiveF w1 w.heap.size hblk; clear M hblk hown))
      refine bodyPost_ret (v := tokV kd pos len p m c1 vv) (by simp [results, Tryd.results43, go_sem, d0, d1, d2, d3, d4, hlt0]) rfl (tokOut_of ?_ HG.out)
      exact next_end HB0.out HS.out HM.out HO.out hlt0
  have s34 : (x == 34) = false := by simpa using t34
  by_cases t40 : x = 40
  · have s40 : (x == 40) = true := by simpa using t40
    cases cb
    · have HQ : Hid (nextR xs (callI ka la ll pos) pos = .ok (5, 1, [x], 0)) := by show _ = _; rw [HU.out]; unfold nextF; rw [if_neg t1, if_neg t2, if_neg t3, if_neg (fun h => t46 h.1), if_neg t8, if_neg t32, if_neg t39, if_neg t34, if_neg (by simp), if_pos (by rw [t40]; decide +kernel)]
      have HC := fun kb => (single_any S b n c pos 5 xs ((w.alloc tokO).drewN kb) HV.out.bytes HV.out.len (by omega) HP.out HV.out.src HV.out.at1 (HV.out.fz 1) HV.out.inH HV.out.row).mono (fun e w' h => tok_drew HV.out.inH (single_out HXD.out h))
      have s64 : isOfB x 64 = true := by rw [t40]; decide +kernel
      clear t40
      have HG : Hid (nextR xs (callI ka la ll pos) pos = .ok (5, 1, [x], 0)) := HQ
      clear HU HQ
      go_enter Tryd.func43, Tryd.ntmps43
      go_wp2_with (first | (go_at_call 52; refine (byteAt_any S b n c xs pos _ HV.out.bytes HV.out.len (by have := HV.out.small; omega) (by omega) HV.out.src HV.out.row).mono ?_; rintro e w' ⟨rfl, rfl⟩; rw [HX.out]) | (go_at_call 21; refine (isOf_any _ _ _ (by omega) (by omega) HV.out.tab).mono ?_; rintro e w' ⟨rfl, rfl⟩))
      refine (behind_any S pos ka la ll _ HV.out.at1 HL2.out HL3.out HL4.out hla hll (by omega)).mono ?_
      rintro e w2 ⟨rfl, kb, rfl⟩
      rw [HCB.out]
      have HTB : Hid (Tab ((w.alloc tokO).drewN kb)) := HV.out.tab
      go_wp2_with (first | (go_at_call 21; refine (isOf_any _ _ _ (by omega) (by omega) HTB.out).mono ?_; rintro e w' ⟨rfl, rfl⟩) | (go_at_call 59; refine (HC _).mono ?_; rintro e w1 ⟨p, m, c1, rfl, hown, M⟩; have HM := Hid.mk M; have HO := Hid.mk hown; have hlt0 := size_lt M; have hblk := blk_kept HS.out M; obtain ⟨d0, d1, d2, d3, d4⟩ := five w1 w.heap.size hblk; obtain ⟨g0, g1, g2, g3, g4⟩ := fiveF w1 w.heap.size hblk; clear M hblk hown))
      refine bodyPost_ret (v := tokV 5 pos ((1 : Nat) : Int) p m c1 0) (by simp [results, Tryd.results43, go_sem, d0, d1, d2, d3, d4, hlt0]) rfl (tokOut_of ?_ HG.out)
      exact next_end HB0.out HS.out HM.out HO.out hlt0
    · have HQ : Hid (nextR xs (callI ka la ll pos) pos = .ok (6, 1, [x], 0)) := by show _ = _; rw [HU.out]; unfold nextF; rw [if_neg t1, if_neg t2, if_neg t3, if_neg (fun h => t46 h.1), if_neg t8, if_neg t32, if_neg t39, if_neg t34, if_pos ⟨t40, rfl⟩]
      have HC := fun kb => (single_any S b n c pos 6 xs ((w.alloc tokO).drewN kb) HV.out.bytes HV.out.len (by omega) HP.out HV.out.src HV.out.at1 (HV.out.fz 1) HV.out.inH HV.out.row).mono (fun e w' h => tok_drew HV.out.inH (single_out HXD.out h))
      clear t40
      have HG : Hid (nextR xs (callI ka la ll pos) pos = .ok (6, 1, [x], 0)) := HQ
      clear HU HQ
      go_enter Tryd.func43, Tryd.ntmps43
      go_wp2_with (first | (go_at_call 52; refine (byteAt_any S b n c xs pos _ HV.out.bytes HV.out.len (by have := HV.out.small; omega) (by omega) HV.out.src HV.out.row).mono ?_; rintro e w' ⟨rfl, rfl⟩; rw [HX.out]) | (go_at_call 21; refine (isOf_any _ _ _ (by omega) (by omega) HV.out.tab).mono ?_; rintro e w' ⟨rfl, rfl⟩))
      refine (behind_any S pos ka la ll _ HV.out.at1 HL2.out HL3.out HL4.out hla hll (by omega)).mono ?_
      rintro e w2 ⟨rfl, kb, rfl⟩
      rw [HCB.out]
      have HTB : Hid (Tab ((w.alloc tokO).drewN kb)) := HV.out.tab
      go_wp2_with (first | (go_at_call 21; refine (isOf_any _ _ _ (by omega) (by omega) HTB.out).mono ?_; rintro e w' ⟨rfl, rfl⟩) | (go_at_call 59; refine (HC _).mono ?_; rintro e w1 ⟨p, m, c1, rfl, hown, M⟩; have HM := Hid.mk M; have HO := Hid.mk hown; have hlt0 := size_lt M; have hblk := blk_kept HS.out M; obtain ⟨d0, d1, d2, d3, d4⟩ := five w1 w.heap.size hblk; obtain ⟨g0, g1, g2, g3, g4⟩ := fiveF w1 w.heap.size hblk; clear M hblk hown))
      refine bodyPost_ret (v := tokV 6 pos ((1 : Nat) : Int) p m c1 0) (by simp [results, Tryd.results43, go_sem, d0, d1, d2, d3, d4, hlt0]) rfl (tokOut_of ?_ HG.out)
      exact next_end HB0.out HS.out HM.out HO.out hlt0
  have s40 : (x == 40) = false := by simpa using t40
  by_cases t64 : isOfB x 64 = true
  · have HQ : Hid (nextR xs (callI ka la ll pos) pos = .ok (5, 1, [x], 0)) := by show _ = _; rw [HU.out]; unfold nextF; rw [if_neg t1, if_neg t2, if_neg t3, if_neg (fun h => t46 h.1), if_neg t8, if_neg t32, if_neg t39, if_neg t34, if_neg (fun h => t40 h.1), if_pos t64]
    have HC := (single_any S b n c pos 5 xs (w.alloc tokO) HV.out.bytes HV.out.len (by omega) HP.out HV.out.src HV.out.at1 (HV.out.fz 1) HV.out.inH HV.out.row).mono (fun e w' h => single_out HXD.out h)
    have HG : Hid (nextR xs (callI ka la ll pos) pos = .ok (5, 1, [x], 0)) := HQ
    clear HU HQ
    go_enter Tryd.func43, Tryd.ntmps43
    go_wp2_with (first | (go_at_call 52; refine (byteAt_any S b n c xs pos _ HV.out.bytes HV.out.len (by have := HV.out.small; omega) (by omega) HV.out.src HV.out.row).mono ?_; rintro e w' ⟨rfl, rfl⟩; rw [HX.out]) | (go_at_call 21; refine (isOf_any _ _ _ (by omega) (by omega) HV.out.tab).mono ?_; rintro e w' ⟨rfl, rfl⟩) | (go_at_call 59; refine (HC).mono ?_; rintro e w1 ⟨p, m, c1, rfl, hown, M⟩; have HM := Hid.mk M; have HO := Hid.mk hown; have hlt0 := size_lt M; have hblk := blk_kept HS.out M; obtain ⟨d0, d1, d2, d3, d4⟩ := five w1 w.heap.size hblk; obtain ⟨g0, g1, g2, g3, g4⟩ := fiveF w1 w.heap.size hblk; clear M hblk hown))
    refine bodyPost_ret (v := tokV 5 pos ((1 : Nat) : Int) p m c1 0) (by simp [results, Tryd.results43, go_sem, d0, d1, d2, d3, d4, hlt0]) rfl (tokOut_of ?_ HG.out)
    exact next_end HB0.out HS.out HM.out HO.out hlt0
  have s64 : isOfB x 64 = false := by simpa using t64
  have HG : Hid (nextR xs (callI ka la ll pos) pos = .error 2) := by show _ = _; rw [HU.out]; unfold nextF; rw [if_neg t1, if_neg t2, if_neg t3, if_neg (fun h => t46 h.1), if_neg t8, if_neg t32, if_neg t39, if_neg t34, if_neg (fun h => t40 h.1), if_neg t64]
  clear HU
  go_enter Tryd.func43, Tryd.ntmps43
  go_wp2_with (first | (go_at_call 52; refine (byteAt_any S b n c xs pos _ HV.out.bytes HV.out.len (by have := HV.out.small; omega) (by omega) HV.out.src HV.out.row).mono ?_; rintro e w' ⟨rfl, rfl⟩; rw [HX.out]) | (go_at_call 21; refine (isOf_any _ _ _ (by omega) (by omega) HV.out.tab).mono ?_; rintro e w' ⟨rfl, rfl⟩) | (go_at_call 62; refine (fault_any S pos 2 _ HV.out.at1 HV.out.inH).mono ?_; rintro e w1 ⟨rfl, hb1⟩))
  refine ⟨rfl, tokOut_of ?_ HG.out⟩
  exact ⟨rfl, grown_of_below (Below.on HB0.out hb1) _⟩

end Go.Proofs.YtfhelmhcmfpedaaDoor
