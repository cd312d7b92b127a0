/- Texts of CcO, CcS, CcT, CcV, CcU, CeO. Own work of the verifier. -/
import Derived.Test.YtickbkcpcgmlmaaGreatDoorUqaw
import Derived.Test.YtickbkcpcgmlmaaGreatDoorUqay
namespace Go.Proofs.YtickbkcpcgmlmaaGreatDoor
set_option maxRecDepth 100000
open Go Go.RowKit
set_option linter.unusedVariables false
set_option linter.unusedSimpArgs false
section
variable {Z : List Nat} {W0 w1 : World} {cb gb eb : Nat} {pc : Option Addr} {cc : Nat} {C : List Int} {s : KS} {w : World}
set_option maxHeartbeats 4000000 in
theorem l9goalS_any (E : CEnv w1 cb gb eb pc cc C) (hB : CBase W0 w1 cb gb eb) (h : MK Z w1 cb gb eb pc cc C s w) (t : Tr) (p : Option Addr) (n c : Nat) (hti : TI W0 p n c t) (hg : TG C.length t) (hgd : goodG t = true) (hsp : spcC t.1 = true) (f : Nat) (hM : (golM C f s t).out.length ≤ 700000000 ∧ s.nx ≤ 700000000) :
  Calls Tryz.prog 20 #[ptrK cb, .slice p n c] w (KUnit Z w1 cb gb eb pc cc C w (golM C f s t)) := by
 have hs := hsp
 unfold spcC at hs
 rw [decide_eq_true_eq] at hs; obtain ⟨⟨k1, k2, tx⟩, kt⟩ := t; simp only at hs; obtain ⟨hk1, hk2, htx⟩ := hs; subst hk1 hk2
 have hcnt : kt.count = 1 := by have := hg.ok.2.2.1 rfl; simp only at this; omega
 obtain ⟨c1, ek⟩ : ∃ c1, kt = .node c1 .nil .nil ∧ c1.1 = 0 := by
  match kt, hcnt with
  | .node c1 k' .nil, _ =>
    have h0 : c1.1 = 0 := by
     unfold goodG at hgd
     rw [hsp] at hgd; simp only [Bool.and_eq_true, Bool.or_eq_true, Bool.not_true, decide_eq_true_eq] at hgd
     rcases hgd.2.2 with h9 | h9
     ·cases h9
     ·exact h9
    have hk := hg.ok.2.2.2.2.1; have h9 := hk.2.2.2.1 (by rw [h0]; decide); subst h9; exact ⟨c1, rfl, h0⟩
  | .node c1 k' (.node c2 k2 r), h9 => simp [Fo.count] at h9
 obtain ⟨rfl, h10⟩ := ek; have hv0 := hg.vr c1 (by simp [Fo.cells]) h10; obtain ⟨c10, k2, c12⟩ := c1; simp only at h10 hv0; subst h10
 obtain ⟨v, ev⟩ : ∃ v : Nat, (v : Int) = k2 := ⟨k2.toNat, by omega⟩
 have hvl : v < C.length := by omega
 have hkid : (kid0 ((3, 1, tx), Fo.node (0, k2, c12) .nil .nil)).1 = (0, k2, c12) := rfl
 have hvc : vcl C (0, k2, c12) = C.getD v 0 := by unfold vcl; congr 1; show k2.toNat = v; omega
 have htn : k2.toNat = v := by omega
 -- the cells
 obtain ⟨bt, ot, rfl, hcs⟩ := hti.2.2.2 (by simp); obtain ⟨q1, qc, D0, D1, D2, D3⟩ := hcs 1 (by simp [Fo.cells])
 have D1' : W0.cell? ⟨bt, ot + 3 + 1, none⟩ = some (.int .i64 k2) := by simpa [Fo.cells] using D1
 have hbs := h.base hB; have d1 := (hbs.cell (World.block_lt_of_cell? _ _ D1')).trans D1'; obtain ⟨pb, po, ep, hcl⟩ := h.cls E hvl; have c1 := h.c1; rw [ep] at c1
 have hn2 : n = 2 := by have := hti.1; simpa [Fo.cells] using this
 subst hn2
 have hcap : 2 ≤ c ∧ c ≤ 9223372036854775807 := ⟨hti.2.1, hti.2.2.1⟩
 have hcap2 := E.cap; have hlen := E.len; have HSP := special_any (hti.below hbs) hg.ok.2.1; rw [hsp] at HSP; have hby : Byte tx := hg.ok.2.1
 obtain ⟨opx, bl, bm, hop⟩ : ∃ (opx : Int) (bl bm : Bool), (opx = 23 ∧ bl = true ∧ bm = false ∨ opx = 24 ∧ bl = false ∧ bm = true ∨ opx = 25 ∧ bl = false ∧ bm = false) ∧ spcO (3, 1, tx) = opx ∧ bl = decide (((3, 1, tx) : Cel) = (3, 1, lvlN)) ∧ bm = decide (((3, 1, tx) : Cel) = (3, 1, mrkN)) := by
  rcases htx with rfl | rfl | rfl
  ·exact ⟨23, true, false, .inl ⟨rfl, rfl, rfl⟩, rfl, rfl, rfl⟩
  ·exact ⟨24, false, true, .inr (.inl ⟨rfl, rfl, rfl⟩), rfl, rfl, rfl⟩
  ·exact ⟨25, false, false, .inr (.inr ⟨rfl, rfl, rfl⟩), rfl, rfl, rfl⟩
 obtain ⟨hopc, hop1, hop2, hop3⟩ := hop
 have HLV : Hid (∀ W, Below W0.heap.size W0 W → Calls Tryz.prog 37 #[.slice (some ⟨bt, ot, none⟩) 2 c, .string ⟨#[36, 108, 101, 118, 101, 108]⟩, .int .i64 1] W fun e w' => e = .returned (.bool bl) ∧ w' = W) := fun W hW => by
  have h1 := isT_any (hti.below hW) ⟨#[36, 108, 101, 118, 101, 108]⟩ 1
  have h2 : isB (strOfNums tx) ⟨#[36, 108, 101, 118, 101, 108]⟩ 3 1 1 = bl := by rw [hop2]; exact isB_pos (c := (3, 1, tx)) hby [36, 108, 101, 118, 101, 108] 1 (by decide)
  rw [show isB (strOfNums ((3, 1, tx), Fo.node (0, k2, c12) .nil .nil).1.2.2) ⟨#[36, 108, 101, 118, 101, 108]⟩ ((3, 1, tx), Fo.node (0, k2, c12) .nil .nil).1.1 ((3, 1, tx), Fo.node (0, k2, c12) .nil .nil).1.2.1 1 = bl from h2] at h1; exact h1
 have HMR : Hid (∀ W, Below W0.heap.size W0 W → Calls Tryz.prog 37 #[.slice (some ⟨bt, ot, none⟩) 2 c, .string ⟨#[36, 109, 97, 114, 107]⟩, .int .i64 1] W fun e w' => e = .returned (.bool bm) ∧ w' = W) := fun W hW => by
  have h1 := isT_any (hti.below hW) ⟨#[36, 109, 97, 114, 107]⟩ 1
  have h2 : isB (strOfNums tx) ⟨#[36, 109, 97, 114, 107]⟩ 3 1 1 = bm := by rw [hop3]; exact isB_pos (c := (3, 1, tx)) hby [36, 109, 97, 114, 107] 1 (by decide)
  rw [show isB (strOfNums ((3, 1, tx), Fo.node (0, k2, c12) .nil .nil).1.2.2) ⟨#[36, 109, 97, 114, 107]⟩ ((3, 1, tx), Fo.node (0, k2, c12) .nil .nil).1.1 ((3, 1, tx), Fo.node (0, k2, c12) .nil .nil).1.2.1 1 = bm from h2] at h1; exact h1
 have HEE : Hid (CEnv w1 cb gb eb pc cc C ∧ CBase W0 w1 cb gb eb) := ⟨E, hB⟩
 have HMK : Hid (MK Z w1 cb gb eb pc cc C s w) := h
 have eG : golM C f s ((3, 1, tx), Fo.node (0, k2, c12) .nil .nil) = if C.getD v 0 = 0 then s.put (insN opx 255 0) else (regK C s v).2.2.put (insN opx (regK C s v).1 0) := by
  unfold golM
  rw [hsp, if_pos rfl, hkid, hop1]
  unfold choK
  rw [hvc]
  split
  ·rfl
  ·show (regK C s k2.toNat).2.2.put (insN opx (regK C s k2.toNat).1 0) = _
   rw [htn]
 rw [eG] at hM ⊢
 have hmn : s.out.length ≤ 700000000 := by
  have h1 := mo_reg C E.len s v
  unfold Kmo at h1
  split at hM
  ·simp [KS.put] at hM; omega
  ·simp [KS.put, reg_out] at hM; omega
 obtain ⟨cv, ecv⟩ : ∃ cv, cv = C.getD v 0 := ⟨_, rfl⟩
 have hcr : 0 ≤ cv ∧ cv ≤ 2 := by rw [ecv]; rcases E.three v with q | q | q <;> omega
 rw [← ecv] at hcl
 obtain ⟨R, eR⟩ : ∃ R, R = (if C.getD v 0 = 0 then s.put (insN opx 255 0) else (regK C s v).2.2.put (insN opx (regK C s v).1 0)) := ⟨_, rfl⟩
 rw [← eR]
 have HEM : Hid (∀ W r s2, MK Z w1 cb gb eb pc cc C s2 W → FrX [cb, gb, eb] w W → s2.out.length ≤ 700000000 → R = s2.put (insN opx r 0) → Calls Tryz.prog 18 #[ptrK cb, .int .i64 opx, .int .i64 r, .int .i64 0] W (KUnit Z w1 cb gb eb pc cc C w R)) := fun W r s2 hm hf hl e => by
  rw [e]
  exact (l9emit_any HEE.out.1 hm opx r 0 (by omega)).mono fun e w' ⟨a1, a2, a3⟩ => ⟨a1, a2, hf.trans a3⟩
 have HRG : Hid (¬ cv = 0 → Calls Tryz.prog 49 #[ptrK cb, .int .i64 k2] w.drew fun e W => ∃ r b, e = .returned (.tuple #[.int .i64 r, .bool b]) ∧ Below W0.heap.size W0 W ∧ Calls Tryz.prog 18 #[ptrK cb, .int .i64 opx, .int .i64 r, .int .i64 0] W (KUnit Z w1 cb gb eb pc cc C w R)) := fun h0 => by
  have h1 := l9reg_any HEE.out.1 (HMK.out.below (below_drewK (Below.refl _ _))) v hvl (by rw [← ecv]; exact h0) (by omega); rw [ev] at h1; refine h1.mono ?_; rintro e W ⟨rfl, a2, a3⟩; refine ⟨_, _, rfl, a2.base HEE.out.2, HEM.out W _ _ a2 ((FrX.of _ (below_drewK (Below.refl _ _))).trans a3) (by rw [reg_out]; exact hmn) ?_⟩; rw [eR, if_neg (by rw [← ecv]; exact h0)]
 have HZ : Hid (cv = 0 → Below W0.heap.size W0 w.drew ∧ Calls Tryz.prog 18 #[ptrK cb, .int .i64 opx, .int .i64 255, .int .i64 0] w.drew (KUnit Z w1 cb gb eb pc cc C w R)) := fun h0 => by
  have hd : Below w.heap.size w w.drew := below_drewK (Below.refl _ _); refine ⟨(HMK.out.below hd).base HEE.out.2, HEM.out w.drew 255 s (HMK.out.below hd) (FrX.of _ hd) hmn ?_⟩; rw [eR, if_pos (by rw [← ecv]; exact h0)]
 obtain ⟨N, eN⟩ : ∃ N, N = C.length := ⟨_, rfl⟩
 rw [← eN] at hvl c1 hcap2 hlen; rw [← ev] at d1 HRG; clear h E hB hti hg hgd hsp htx hcnt hv0 ev hkid hvc htn hcs D0 D1 D2 D3 D1' hbs ep hby hop1 hop2 hop3 HEE HMK eG hM hmn ecv eR HEM eN
 go_enter Tryz.func20, Tryz.ntmps20
 go_wp2_with fail; refine HSP.mono ?_; rintro e W1 ⟨rfl, hW1⟩; rw [hW1]; clear hW1 HSP; go_wp2_with fail; refine wp_region_held_drew (S := fun W => W.cell? ⟨cb, 1, none⟩ = some (.slice (some ⟨pb, po, none⟩) N cc) ∧ W.cell? ⟨bt, ot + 3 + 1, none⟩ = some (.int .i64 v) ∧ W.cell? ⟨pb, po + v, none⟩ = some (.int .i64 cv)) (by kernel_rfl) ⟨c1, d1, hcl⟩ (fun hHeld => ?_); refine hTk (i := 0) (v := ptrK cb) (some 11) (fun o ho W hSw => ?y0) (by assumption) ?_
 case y0 => cases ho; simp [execOp, go_sem, Act.eval]
 simp only [Act.put, zzA, zzB, zzC]; refine hTk (i := 1) (v := ptrK cb) (some 12) (fun o ho W hSw => ?y1) (by assumption) ?_
 case y1 => cases ho; simp [execOp, go_sem, Act.eval]
 simp only [Act.put, zzA, zzB, zzC]; refine hTk (i := 2) (v := .pointer (some ⟨cb, 1, none⟩)) (some 13) (fun o ho W hSw => ?y2) (by assumption) ?_
 case y2 => cases ho; simp [execOp, go_sem, Act.eval]
 simp only [Act.put, zzA, zzB, zzC]; refine hTk (i := 3) (v := .slice (some ⟨pb, po, none⟩) N cc) (some 14) (fun o ho W hSw => ?y3) (by assumption) ?_
 case y3 => cases ho; obtain ⟨s1, s2, s3⟩ := hSw; simp [execOp, go_sem, Act.eval, s1]
 simp only [Act.put, zzA, zzB, zzC]; refine hTk (i := 4) (v := .slice (some ⟨bt, ot, none⟩) 2 c) (some 15) (fun o ho W hSw => ?y4) (by assumption) ?_
 case y4 => cases ho; simp [execOp, go_sem, Act.eval]
 simp only [Act.put, zzA, zzB, zzC]; refine hTk (i := 5) (v := .pointer (some ⟨bt, ot + 3, none⟩)) (some 16) (fun o ho W hSw => ?y5) (by assumption) ?_
 case y5 => cases ho; simp [execOp, go_sem, Act.eval]
 simp only [Act.put, zzA, zzB, zzC]; refine hTk (i := 6) (v := .pointer (some ⟨bt, ot + 3 + 1, none⟩)) (some 17) (fun o ho W hSw => ?y6) (by assumption) ?_
 case y6 => cases ho; simp [execOp, go_sem, Act.eval]
 simp only [Act.put, zzA, zzB, zzC]; refine hTk (i := 7) (v := .int .i64 v) (some 18) (fun o ho W hSw => ?y7) (by assumption) ?_
 case y7 => cases ho; obtain ⟨s1, s2, s3⟩ := hSw; simp [execOp, go_sem, Act.eval, s2]
 simp only [Act.put, zzA, zzB, zzC]; refine hTk (i := 8) (v := .pointer (some ⟨pb, po + v, none⟩)) (some 19) (fun o ho W hSw => ?y8) (by assumption) ?_
 case y8 => cases ho; simp [execOp, go_sem, Act.eval, hvl]
 simp only [Act.put, zzA, zzB, zzC]; refine hTk (i := 9) (v := .int .i64 cv) (some 20) (fun o ho W hSw => ?y9) (by assumption) ?_
 case y9 => cases ho; obtain ⟨s1, s2, s3⟩ := hSw; simp [execOp, go_sem, Act.eval, s3]
 simp only [Act.put, zzA, zzB, zzC]; refine hTk (i := 10) (v := .bool (cv != 0)) (some 21) (fun o ho W hSw => ?y10) (by assumption) ?_
 case y10 => cases ho; simp [execOp, go_sem, Act.eval]
 simp only [Act.put, zzA, zzB, zzC]; refine wpAnyH_done (by kernel_rfl) ?_ _
 change Exit.then _ _ _ _ w.drew
 obtain ⟨WD, eWD⟩ : ∃ WD, WD = w.drew := ⟨_, rfl⟩
 have d1' : WD.cell? ⟨bt, ot + 3 + 1, none⟩ = some (.int .i64 v) := by rw [eWD]; exact d1
 rw [← eWD] at HRG HZ ⊢; clear hHeld c1 d1 hcl eWD
 by_cases h0 : cv = 0
 ·obtain ⟨hb0, he0⟩ := HZ.out h0
  have hcb : (cv != 0) = false := by rw [h0]; rfl
  rw [hcb]; have HL := HLV.out WD hb0; have HR := HMR.out WD hb0; clear HRG HZ HLV HMR hcb h0
  rcases hopc with ⟨rfl, rfl, rfl⟩ | ⟨rfl, rfl, rfl⟩ | ⟨rfl, rfl, rfl⟩
  all_goals
   go_wp2_with fail; refine HL.mono ?_; rintro e W2 ⟨rfl, hW2⟩; rw [hW2]; clear hW2; go_wp2_with fail; refine HR.mono ?_; rintro e W2 ⟨rfl, hW2⟩; rw [hW2]; clear hW2; go_wp2_with fail; refine he0.mono ?_; rintro e W3 ⟨rfl, hk⟩; have HK : Hid _ := hk; clear hk; go_wp2_with fail
   go_end0
   exact ⟨rfl, HK.out⟩
 ·have hcb : (cv != 0) = true := by simpa using h0
  rw [hcb]; have HR0 := HRG.out h0; clear HRG HZ hcb; go_wp2_with fail; refine HR0.mono ?_; rintro e W4 ⟨r, b, rfl, hb4, he4⟩; have HL := HLV.out W4 hb4; have HR := HMR.out W4 hb4; clear HR0 HLV HMR hb4
  rcases hopc with ⟨rfl, rfl, rfl⟩ | ⟨rfl, rfl, rfl⟩ | ⟨rfl, rfl, rfl⟩
  all_goals
   go_wp2_with fail; refine HL.mono ?_; rintro e W2 ⟨rfl, hW2⟩; rw [hW2]; clear hW2; go_wp2_with fail; refine HR.mono ?_; rintro e W2 ⟨rfl, hW2⟩; rw [hW2]; clear hW2; go_wp2_with fail; refine he4.mono ?_; rintro e W3 ⟨rfl, hk⟩; have HK : Hid _ := hk; clear hk; go_wp2_with fail
   go_end0
   exact ⟨rfl, HK.out⟩
end
theorem gol1_inl (C : List Int) (f : Nat) (s : KS) (g : Tr) (l : Bool) (h : inlG g = true) : gol1 C f s g l = golM C f s g := by
 unfold gol1 golM
 by_cases h1 : spcC g.1 = true
 ·rw [if_pos h1, if_pos h1]
 ·rw [if_neg h1, if_neg h1]
  have h2 : buC g.1 = true := by unfold inlG at h; simpa [h1] using h
  rw [if_pos h2, if_pos h2]
theorem gol1_call (C : List Int) (f : Nat) (s : KS) (g : Tr) (l : Bool) (h : inlG g = false) : gol1 C f s g l = if l = true then golM C f s g else (golM C f s g).put (insC 19 0 0 (namC g.1)) := by
 unfold inlG at h
 rw [Bool.or_eq_false_iff] at h
 unfold gol1 golM
 rw [h.1, h.2]
 simp
def golsM (C : List Int) (f : Nat) (env : Bool) : KS → List Tr → KS × Bool
 | s, [] => (s, false)
 | s, g :: gs => if inlG g then golsM C f env (golM C f s g) gs else if gs = [] then ((if env then (golM C f s g).put (insN 18 0 0) else golM C f s g).put (insC 20 0 0 (namC g.1)), true) else golsM C f env ((golM C f s g).put (insC 19 0 0 (namC g.1))) gs
def endsM (env : Bool) (x : KS × Bool) : KS := if x.2 then x.1 else (if env then x.1.put (insN 18 0 0) else x.1).put (insN 21 0 0)
theorem endJ_one (g : Tr) : endJ [g] = if inlG g = true then insN 21 0 0 else insC 20 0 0 (namC g.1) := by
 rw [endJ, if_pos rfl]
theorem endJ_more (g x : Tr) (r : List Tr) : endJ (g :: x :: r) = endJ (x :: r) := by
 rw [endJ, if_neg (List.cons_ne_nil x r)]
theorem gols_same (C : List Int) (f : Nat) (env : Bool) : ∀ (gs : List Tr) (s : KS), endsM env (golsM C f env s gs) = (if env then (golsK C f s gs).put (insN 18 0 0) else golsK C f s gs).put (endJ gs)
 | [], s => rfl
 | g :: gs, s => by
   cases hi : inlG g with
   | true =>
     have e1 : golsM C f env s (g :: gs) = golsM C f env (golM C f s g) gs := by rw [golsM, if_pos hi]
     have e2 : golsK C f s (g :: gs) = golsK C f (golM C f s g) gs := by rw [golsK, gol1_inl _ _ _ _ _ hi]
     have e3 : endJ (g :: gs) = endJ gs := by
      cases gs with
      | nil => rw [endJ_one, if_pos hi]; rfl
      | cons x r => exact endJ_more g x r
     rw [e1, e2, e3]; exact gols_same C f env gs _
   | false =>
     have hn : ¬ inlG g = true := by rw [hi]; decide
     cases gs with
     | nil =>
       have e1 : golsM C f env s [g] = ((if env then (golM C f s g).put (insN 18 0 0) else golM C f s g).put (insC 20 0 0 (namC g.1)), true) := by rw [golsM, if_neg hn, if_pos rfl]
       have e2 : golsK C f s [g] = golM C f s g := by
        rw [golsK, gol1_call _ _ _ _ _ hi]; rfl
       rw [e1, e2, endJ_one, if_neg hn]
       rfl
     | cons x r =>
       have e1 : golsM C f env s (g :: x :: r) = golsM C f env ((golM C f s g).put (insC 19 0 0 (namC g.1))) (x :: r) := by rw [golsM, if_neg hn, if_neg (List.cons_ne_nil x r)]
       have e2 : golsK C f s (g :: x :: r) = golsK C f ((golM C f s g).put (insC 19 0 0 (namC g.1))) (x :: r) := by
        rw [golsK, gol1_call _ _ _ _ _ hi]; rfl
       rw [e1, e2, endJ_more]; exact gols_same C f env (x :: r) _
def ccT (t : Tr) : KS := ccK (classP t) 5000 (kid0 t) (goalsT (kid1 t))
def ccBig (t : Tr) : Bool := decide (20000 < (ccT t).out.length) || decide (256 < (ccT t).nx)
theorem meetM_len (q : Int) (st : List Int × List Int × List Int) (v : Int) : (meetM q st v).2.2.length = st.2.2.length := by
 unfold meetM; dsimp only; split <;> simp
theorem meetsM_len (q : Int) : ∀ (vs : List Int) (st : List Int × List Int × List Int), (meetsM q st vs).2.2.length = st.2.2.length
 | [], st => rfl
 | v :: vs, st => (meetsM_len q vs (meetM q st v)).trans (meetM_len q st v)
theorem goalsM_len : ∀ (gs : List Tr) (q : Int) (st : List Int × List Int × List Int), (goalsM q st gs).2.2.length = st.2.2.length
 | [], q, st => rfl
 | g :: gs, q, st => by unfold goalsM; rw [goalsM_len gs, meetsM_len]
theorem classM_len (n : Nat) (t : Tr) : (classM n t).length = n := by
 unfold classM endM
 rw [List.length_map, List.length_range, goalsM_len, meetsM_len]
 simp
theorem tg_parts {c : Cel} {k : Fo} (hok : (Fo.node c k .nil).ok) (hf : flatB (c, k) = true) (hl : k.cells.length + 1 ≤ 2000) : (classP (c, k)).length ≤ 2000 ∧ TG (classP (c, k)).length (kid0 (c, k)) ∧ ∀ g ∈ goalsT (kid1 (c, k)), TG (classP (c, k)).length g ∧ goodG g = true ∧ calC g.1 = true := by
 obtain ⟨f1, f2, f3, f4, f5, f6, f7, f8, f9⟩ := flat_parts hok hf
 have hlen : (classP (c, k)).length = (visits [] (c :: k.cells)).length := by
  rw [← class_same (t := (c, k)) f3 f1 f2 f9, classM_len]
 have hvp := vs_parts (t := (c, k)) f3 f1 f9; obtain ⟨s1, s2⟩ := own_seq f2
 have hall : ∀ v ∈ vsC (c :: k.cells), 0 ≤ v ∧ v < ((visits [] (c :: k.cells)).length : Int) := fun v hv => ⟨okV_pos _ 0 s1 v hv, by rw [← s2]; exact okV_lt _ 0 s1 v hv⟩
 have hvl := visits_len (c :: k.cells) []; refine ⟨by rw [hlen]; simp at hvl; omega, ⟨f6, fun x hx h0 => ?_, by omega⟩, fun g hg => ?_⟩
 ·rw [hlen]
  refine hall _ ?_; rw [hvp]; exact List.mem_append.2 (.inl (vsC_mem hx h0))
 ·have hgd := f5 g hg
  have hcal : calC g.1 = true := by
   unfold goodG at hgd
   simp only [Bool.and_eq_true] at hgd; exact hgd.1
  have hg0 := hg
  unfold goalsT at hg
  split at hg
  ·cases hg
  ·refine ⟨⟨conj_ok _ _ _ (Nat.le_refl _) f7 g hg, fun x hx h0 => ?_, ?_⟩, hgd, hcal⟩
   ·rw [hlen]
    refine hall _ ?_; rw [hvp]; exact List.mem_append.2 (.inr (vsG_mem _ _ hg0 _ (vsC_mem hx h0)))
   ·have := conj_size _ _ _ (Nat.le_refl _) g hg
    omega
set_option maxHeartbeats 1000000 in
theorem clT_any (cs : List Cel) (p : Option Addr) (w : World) (hin : CIn w p cs) (W : World) (ph : Option Addr) (nh ch : Nat) (pg : Option Addr) (mg cg : Nat) (c : Cel) (k : Fo) (rs : List (Option Addr × Nat × Nat)) (hW : Below w.heap.size w W) (e : cs = c :: k.cells) (hok : (Fo.node c k .nil).ok) (hf : flatB (c, k) = true) (hlen : cs.length ≤ 2000) (hti : TI W ph nh ch (kid0 (c, k))) (hmg : mg = (goalsT (kid1 (c, k))).length) (hrow : W.ownsRow w.heap.size 27 1 (.slice pg mg cg) mg (rs.map slV)) (harg : ArgRowU W rs (goalsT (kid1 (c, k)))) :
  Calls Tryz.prog 15 #[.slice p cs.length cs.length, .slice ph nh ch, .slice pg mg cg] W fun e w' => ∃ q m c2, e = .returned (.slice q m c2) ∧ OwnI w' W.heap.size 3 q m c2 (classP (c, k)) ∧ Below W.heap.size W w' := by
 obtain ⟨f1, f2, f3, f4, f5, f6, f7, f8, f9⟩ := flat_parts hok hf
 have hren : renCells cs = cs := by rw [e]; exact f2
 have hlc : k.cells.length + 1 = cs.length := by rw [e]; simp
 have hgok : ∀ g ∈ goalsT (kid1 (c, k)), (Fo.node g.1 g.2 .nil).ok ∧ calC g.1 = true ∧ g.2.cells.length ≤ 2000 := fun g hg => by
  have hgd := f5 g hg
  unfold goodG at hgd
  simp only [Bool.and_eq_true] at hgd
  unfold goalsT at hg
  split at hg
  ·cases hg
  ·refine ⟨conj_ok _ _ _ (Nat.le_refl _) f7 g hg, hgd.1, ?_⟩
   have := conj_size _ _ _ (Nat.le_refl _) g hg
   omega
 have hgl : (goalsT (kid1 (c, k))).length ≤ 2000 := by
  unfold goalsT
  split
  ·simp
  ·have := conj_len _ (kid1 (c, k)).1 (kid1 (c, k)).2 (Nat.le_refl _); omega
 have hvp := vs_parts (t := (c, k)) f3 f1 f9; obtain ⟨s1, s2⟩ := own_seq hren
 have hcs : vsC cs = vsC ((kid0 (c, k)).1 :: (kid0 (c, k)).2.cells) ++ vsG (goalsT (kid1 (c, k))) := by rw [e]; exact hvp
 have hall : ∀ v ∈ vsC cs, 0 ≤ v ∧ v < ((visits [] cs).length : Int) := fun v hv => ⟨okV_pos _ 0 s1 v hv, by rw [← s2]; exact okV_lt _ 0 s1 v hv⟩
 have hvs : ∀ j, j < (goalsT (kid1 (c, k))).length + 1 → ∀ x ∈ (termAt (kid0 (c, k)) (goalsT (kid1 (c, k))) j).1 :: (termAt (kid0 (c, k)) (goalsT (kid1 (c, k))) j).2.cells, x.1 = 0 → 0 ≤ x.2.1 ∧ x.2.1 < ((visits [] cs).length : Nat) := fun j hj x hx h0 => by
  refine hall _ ?_; rw [hcs]
  cases j with
  | zero => exact List.mem_append.2 (.inl (vsC_mem hx h0))
  | succ j =>
    have hj' : j < (goalsT (kid1 (c, k))).length := by omega
    have ej : termAt (kid0 (c, k)) (goalsT (kid1 (c, k))) (j + 1) = (goalsT (kid1 (c, k)))[j] := by show List.getD _ j _ = _; simp [List.getD, hj']
    rw [ej] at hx; exact List.mem_append.2 (.inr (vsG_mem _ _ (List.getElem_mem hj') _ (vsC_mem hx h0)))
 have hvl := visits_len cs []; have H := classesM_any cs (kid0 (c, k)) (goalsT (kid1 (c, k))) rs p ph pg cs.length nh ch mg cg w.heap.size (visits [] cs).length W hlen (by rw [e]; exact fun x hx => Fo.bounds (Fo.node c k .nil) hok x (by simpa [Fo.cells] using hx)) (hin.below hW) (max_count hren) (by simp at hvl; omega) hti (by have := hti.1; omega) hmg (by omega) hrow harg hgok hvs
 have hcm : endM (goalsM 0 (meetsM 0 (List.replicate (visits [] cs).length 0, List.replicate (visits [] cs).length 0, List.replicate (visits [] cs).length 0) (vsC ((kid0 (c, k)).1 :: (kid0 (c, k)).2.cells))) (goalsT (kid1 (c, k)))) = classP (c, k) := by
  have h9 := class_same (t := (c, k)) f3 f1 f2 f9; rw [← h9]
  show _ = classM (visits [] (c :: k.cells)).length (c, k)
  rw [← e]; rfl
 rw [hcm] at H; exact H
structure L1 (W2 wr : World) (q : Option Addr) (c2 : Nat) (C : List Int) (x : Nat) (j : Nat) : Prop where
 low : Below W2.heap.size W2 wr
 c0 : wr.cell? ⟨W2.heap.size, 0, none⟩ = some (.slice none 0 0)
 c1 : wr.cell? ⟨W2.heap.size, 1, none⟩ = some (.slice q C.length c2)
 c2' : wr.cell? ⟨W2.heap.size, 2, none⟩ = some (.slice (some ⟨W2.heap.size + 1, 0, none⟩) C.length C.length)
 c3 : wr.cell? ⟨W2.heap.size, 3, none⟩ = some (.slice (some ⟨W2.heap.size + 2, 0, none⟩) C.length C.length)
 c4 : wr.cell? ⟨W2.heap.size, 4, none⟩ = some (.int .i64 x)
 fz : ∀ b ∈ [W2.heap.size, W2.heap.size + 1, W2.heap.size + 2], ∀ o, wr.frozen? ⟨b, o, none⟩ = false
 rg : ∀ u, u < C.length → wr.cell? ⟨W2.heap.size + 1, u, none⟩ = some (.int .i64 (if u < j ∧ C.getD u 0 = 2 then prmK C u else 0)) ∧ wr.cell? ⟨W2.heap.size + 2, u, none⟩ = some (.bool false)
 sz : W2.heap.size + 3 ≤ wr.heap.size
theorem L1.skip {W2 wr : World} {q : Option Addr} {c2 : Nat} {C : List Int} {x j : Nat} (h : L1 W2 wr q c2 C x j) (hc : ¬ C.getD j 0 = 2) : L1 W2 wr q c2 C x (j + 1) := by
 refine ⟨h.low, h.c0, h.c1, h.c2', h.c3, h.c4, h.fz, fun u hu => ⟨?_, (h.rg u hu).2⟩, h.sz⟩; rw [(h.rg u hu).1]
 congr 2
 by_cases e : u = j
 ·subst e; rw [if_neg (fun h => hc h.2), if_neg (fun h => hc h.2)]
 ·have : (u < j) ↔ (u < j + 1) := by omega
  simp only [this]
theorem L1.set {W2 wr : World} {q : Option Addr} {c2 : Nat} {C : List Int} {x j : Nat} (h : L1 W2 wr q c2 C x j) (hj : j < C.length) (hc : C.getD j 0 = 2) : L1 W2 (wr.setCell ⟨W2.heap.size + 1, j, none⟩ (.int .i64 (prmK C j))) q c2 C x (j + 1) := by
 refine ⟨below_setK h.low (by omega) _ _, cell_other h.c0 (by omega), cell_other h.c1 (by omega), cell_other h.c2' (by omega), cell_other h.c3 (by omega), cell_other h.c4 (by omega), fun b hb o => by rw [World.frozen?_setCell]; exact h.fz b hb o, fun u hu => ⟨?_, cell_other (h.rg u hu).2 (by omega)⟩, by simpa using h.sz⟩
 by_cases e : u = j
 ·subst e
  rw [World.cell?_setCell_same' _ _ _ (by rw [(h.rg u hu).1]; rfl), if_pos ⟨by omega, hc⟩]
 ·rw [cell_other (h.rg u hu).1 (by omega)]
  congr 2
  have : (u < j) ↔ (u < j + 1) := by omega
  simp only [this]
theorem L1.done {W0 W2 wr : World} {q : Option Addr} {c2 : Nat} {t : Tr} {x : Nat} (h : L1 W2 wr q c2 (classP t) x (classP t).length) (hW : Below W0.heap.size W0 W2) (hl : (classP t).length ≤ 2000) (hq : 0 < (classP t).length → ∃ g, q = some ⟨g, 0, none⟩ ∧ g < W2.heap.size ∧ ∀ v, v < (classP t).length → wr.cell? ⟨g, 0 + v, none⟩ = some (.int .i64 ((classP t).getD v 0))) (hcap : (classP t).length ≤ c2) :
  CEnv wr W2.heap.size (W2.heap.size + 1) (W2.heap.size + 2) q c2 (classP t) ∧ CBase W0 wr W2.heap.size (W2.heap.size + 1) (W2.heap.size + 2) ∧ MK [] wr W2.heap.size (W2.heap.size + 1) (W2.heap.size + 2) q c2 (classP t) ⟨[], List.replicate (classP t).length none, x⟩ wr := by
 have hsz := h.sz; refine ⟨⟨⟨by omega, by omega, by omega⟩, ⟨by omega, by omega, by omega⟩, hl, class3 t, hcap, fun h0 => ?_⟩, ⟨Below.on hW h.low, fun y hy => ?_⟩, ⟨StyX.refl _ _, ⟨none, 0, 0, h.c0, OwnIv.nil _ _ _⟩, h.c1, h.c2', h.c3, h.c4, h.fz, fun v hv => ?_, by simp, fun v r hv => ?_, fun b hb => ?_, fun z hz => by simp at hz⟩⟩
 ·obtain ⟨g, e, hg, hc⟩ := hq h0
  exact ⟨g, 0, e, by simp; omega, hc⟩
 ·have := hW.size
  simp at hy
  omega
 ·have hn : (List.replicate (classP t).length (none : Option Int)).getD v none = none := by simp [List.getD_eq_getElem?_getD, List.getElem?_replicate]; split <;> rfl
  refine ⟨?_, ?_⟩
  ·rw [(h.rg v hv).1]
   unfold regM
   rw [hn]
   simp [hv]
  ·rw [(h.rg v hv).2, hn]; rfl
 ·have hn : (List.replicate (classP t).length (none : Option Int)).getD v none = none := by simp [List.getD_eq_getElem?_getD, List.getElem?_replicate]; split <;> rfl
  rw [hn] at hv; cases hv
 ·simp at hb; omega
section
variable {Z : List Nat} {W0 w1 : World} {cb gb eb : Nat} {pc : Option Addr} {cc : Nat} {C : List Int} {s : KS} {w : World}
theorem MK.nxt (E : CEnv w1 cb gb eb pc cc C) (h : MK Z w1 cb gb eb pc cc C s w) (x : Nat) (hx : s.nx ≤ x) : MK Z w1 cb gb eb pc cc C { s with nx := x } (w.setCell ⟨cb, 4, none⟩ (.int .i64 x)) := by
 obtain ⟨p, n, c, h0, ho⟩ := h.c0; have n1 := E.ne.1; have n2 := E.ne.2.1
 exact ⟨h.sty.set (by simp) _ _, ⟨p, n, c, cell_other h0 (by simp), h.own_set (by simp) _ _ ho⟩, cell_other h.c1 (by simp), cell_other h.c2 (by simp), cell_other h.c3 (by simp), World.cell?_setCell_same' _ _ _ (by rw [h.c4]; rfl), fun b hb o => by rw [World.frozen?_setCell]; exact h.fz b hb o,
  fun v hv => ⟨cell_other (h.rg v hv).1 (fun e => n1 e.1.symm), cell_other (h.rg v hv).2 (fun e => n2 e.1.symm)⟩, h.ln, fun v r hv => by have := h.lo v r hv; exact ⟨this.1, by have := this.2; show r ≤ (x : Int); omega⟩, h.lt, by simpa using h.zl⟩
end
theorem prm_take (C : List Int) (j : Nat) (hj : j < C.length) : ((C.take (j + 1)).filter (fun x => decide (x = 2))).length = ((C.take j).filter (fun x => decide (x = 2))).length + (if C.getD j 0 = 2 then 1 else 0) := by
 rw [List.take_add_one, List.filter_append, List.length_append]
 congr 1
 have : C[j]? = some (C.getD j 0) := by simp [List.getD_eq_getElem?_getD, hj]
 rw [this]
 generalize C.getD j 0 = y
 by_cases h : y = 2
 ·simp [h]
 ·simp [h]
theorem prm_all (C : List Int) : ((C.take C.length).filter (fun x => decide (x = 2))).length = prmN C := by rw [List.take_length]; rfl
theorem up_golM (C : List Int) (hC : C.length ≤ 2000) (f : Nat) (s : KS) (g : Tr) : Kup (2 + 3 * g.2.cells.length) s (golM C f s g) := by
 have h := up_alls (golK C f) (up_gol C hC f) (trs g.2) 0 s; have h4 := trs_cellsB g.2
 unfold golM; split
 ·exact ((up_cho C hC s _).trans (up_put _ _)).mono (by omega)
 ·split
  ·exact (h.trans (up_put _ _)).mono (by omega)
  ·exact h.mono (by omega)
theorem mo_golM (C : List Int) (hC : C.length ≤ 2000) (f : Nat) (s : KS) (g : Tr) : Kmo s (golM C f s g) := by
 have h := mo_alls (golK C f) (mo_gol C hC f) (trs g.2) 0 s
 unfold golM; split
 ·refine Kmo.trans ?_ (mo_put _ _)
  unfold choK; split
  ·exact Kmo.refl s
  ·exact mo_reg C hC s _
 ·split
  ·exact h.trans (mo_put _ _)
  ·exact h
def gwK : List Tr → Nat
 | [] => 0
 | g :: gs => 4 + 3 * g.2.cells.length + gwK gs
theorem gwK_le : ∀ gs : List Tr, (∀ g ∈ gs, g.2.cells.length ≤ 2000) → gwK gs ≤ gs.length * 6004
 | [], _ => Nat.zero_le _
 | g :: gs, h => by
   have h1 := gwK_le gs fun x hx => h x (List.mem_cons_of_mem _ hx)
   have h2 := h g (List.mem_cons_self ..); simp only [gwK, List.length_cons]; omega
theorem up_golsM (C : List Int) (hC : C.length ≤ 2000) (f : Nat) (env : Bool) : ∀ (gs : List Tr) (s : KS), Kup (gwK gs) s (golsM C f env s gs).1
 | [], s => Kup.refl s
 | g :: gs, s => by
   have h := up_golM C hC f s g
   unfold golsM
   split
   ·exact (h.trans (up_golsM C hC f env gs _)).mono (by simp only [gwK]; omega)
   ·split
    ·refine Kup.mono (d := 2 + 3 * g.2.cells.length + 1 + 1) ?_ (by simp only [gwK]; omega)
     refine Kup.trans ?_ (up_put _ _)
     split
     ·exact h.trans (up_put _ _)
     ·exact h.mono (by omega)
    ·exact ((h.trans (up_put _ _)).trans (up_golsM C hC f env gs _)).mono (by simp only [gwK]; omega)
theorem mo_golsM (C : List Int) (hC : C.length ≤ 2000) (f : Nat) (env : Bool) : ∀ (gs : List Tr) (s : KS), Kmo s (golsM C f env s gs).1
 | [], s => Kmo.refl s
 | g :: gs, s => by
   have h := mo_golM C hC f s g
   unfold golsM
   split
   ·exact h.trans (mo_golsM C hC f env gs _)
   ·split
    ·refine Kmo.trans ?_ (mo_put _ _)
     split
     ·exact h.trans (mo_put _ _)
     ·exact h
    ·exact (h.trans (mo_put _ _)).trans (mo_golsM C hC f env gs _)
theorem ccT_model (t : Tr) : endsM (envB (goalsT (kid1 t))) (golsM (classP t) 5000 (envB (goalsT (kid1 t))) (alls (hedK (classP t) 5000) 0 (cc0 (classP t) (kid0 t) (goalsT (kid1 t))) (trs (kid0 t).2)) (goalsT (kid1 t))) = ccT t := by
 rw [gols_same]
 rfl
theorem cc_sizes {C : List Int} (hC : C.length ≤ 2000) (env : Bool) (s : KS) (h : Tr) (gs : List Tr) (hs : s.out.length ≤ 1 ∧ s.nx ≤ 4000) (hh : h.2.cells.length ≤ 2000) (hg : gs.length ≤ 2000) (hgs : ∀ g ∈ gs, g.2.cells.length ≤ 2000) :
  ((alls (hedK C 5000) 0 s (trs h.2)).out.length ≤ 20000 ∧ (alls (hedK C 5000) 0 s (trs h.2)).nx ≤ 20000) ∧ ((golsM C 5000 env (alls (hedK C 5000) 0 s (trs h.2)) gs).1.out.length ≤ 20000000 ∧ (golsM C 5000 env (alls (hedK C 5000) 0 s (trs h.2)) gs).1.nx ≤ 20000000) := by
 have h1 := up_alls (hedK C 5000) (up_hed C hC 5000) (trs h.2) 0 s; have h2 := trs_cellsB h.2; have h3 := up_golsM C hC 5000 env gs (alls (hedK C 5000) 0 s (trs h.2)); have h4 := gwK_le gs hgs; have a1 := h1.out; have a2 := h1.nx.2; have a3 := h3.out; have a4 := h3.nx.2; have h5 : gs.length * 6004 ≤ 2000 * 6004 := Nat.mul_le_mul_right _ hg
 omega
def TxK (s : KS) : Prop := ∀ i ∈ s.out, i.c.2.2.length ≤ 100 ∧ i.K = [] ∧ i.L = []
def TxT (t : Tr) : Prop := ∀ c ∈ t.1 :: t.2.cells, c.2.2.length ≤ 100
theorem TG.tx {n : Nat} {t : Tr} (h : TG n t) : TxT t := by
 have hF : ∀ F : Fo, F.ok → ∀ c ∈ F.cells, c.2.2.length ≤ 100 := by
  intro F
  induction F with
  | nil => intro _ c hc; simp [Fo.cells] at hc
  | node c k r ihk ihr =>
    intro hok x hx
    simp only [Fo.cells, List.mem_cons, List.mem_append] at hx
    rcases hx with rfl | hx | hx
    ·have := hok.1
     simp only [cellB, decide_eq_true_eq] at this
     omega
    ·exact ihk hok.2.2.2.2.1 x hx
    ·exact ihr hok.2.2.2.2.2 x hx
 intro c hc
 exact hF t.fo h.ok c (by simpa [Tr.fo, Fo.cells] using hc)
theorem TxT.kid {t x : Tr} (h : TxT t) (hx : x ∈ trs t.2) : TxT x := fun c hc => h c (List.mem_cons_of_mem _ (mem_trs_mem t.2 x hx c hc))
theorem TxK.put {s : KS} (h : TxK s) {i : Iv} (hi : i.c.2.2.length ≤ 100 ∧ i.K = [] ∧ i.L = []) : TxK (s.put i) := fun x hx => by
 simp only [KS.put, List.mem_append, List.mem_cons, List.not_mem_nil, or_false] at hx
 rcases hx with hx | rfl
 ·exact h x hx
 ·exact hi
theorem TxK.putN {s : KS} (h : TxK s) (op r a : Int) : TxK (s.put (insN op r a)) := h.put ⟨by show ([] : List Int).length ≤ 100; simp, rfl, rfl⟩
theorem TxK.take {s : KS} (h : TxK s) : TxK s.take := h
theorem TxK.reg {s : KS} (h : TxK s) (C : List Int) (v : Nat) : TxK (regK C s v).2.2 := by
 intro i hi
 rw [reg_out] at hi; exact h i hi
theorem TxK.arg {s : KS} (h : TxK s) (C : List Int) (o : AO) {c : Cel} (hc : c.2.2.length ≤ 100) (a : Int) : TxK (argK C o s c a) := by
 unfold argK
 split
 ·split
  ·exact h.putN _ _ _
  ·exact (h.reg C _).putN _ _ _
 ·exact h.put ⟨hc, rfl, rfl⟩
theorem tx_apa (C : List Int) : ∀ (ts : List Tr) (s : KS) (q : List (Tr × Int)), TxK s → (∀ t ∈ ts, TxT t) → (∀ x ∈ q, TxT x.1) → TxK (apaK C s q ts).1 ∧ ∀ x ∈ (apaK C s q ts).2, TxT x.1
 | [], s, q, h, _, hq => ⟨h, hq⟩
 | t :: ts, s, q, h, ht, hq => by
   unfold apaK
   split
   ·refine tx_apa C ts _ _ (h.take.putN _ _ _) (fun x hx => ht x (List.mem_cons_of_mem _ hx)) fun x hx => ?_
    rcases List.mem_append.1 hx with hx | hx
    ·exact hq x hx
    ·simp at hx; rw [hx]; exact ht t (List.mem_cons_self ..)
   ·exact tx_apa C ts _ _ (h.arg C _ (ht t (List.mem_cons_self ..) t.1 (List.mem_cons_self ..)) _) (fun x hx => ht x (List.mem_cons_of_mem _ hx)) hq
theorem tx_get (C : List Int) : ∀ (f : Nat) (s : KS) (q : List (Tr × Int)), TxK s → (∀ x ∈ q, TxT x.1) → TxK (getK C f s q)
 | 0, s, q, h, _ => h
 | f + 1, s, [], h, _ => h
 | f + 1, s, x :: q, h, hq => by
   unfold getK
   have hx := hq x (List.mem_cons_self ..); obtain ⟨h1, h2⟩ := tx_apa C (trs x.1.2) (s.put (insC 3 0 x.2 x.1.1)) q (h.put ⟨hx x.1.1 (List.mem_cons_self ..), rfl, rfl⟩) (fun t ht => hx.kid ht) (fun y hy => hq y (List.mem_cons_of_mem _ hy)); exact tx_get C f _ _ h1 h2
theorem tx_inn (g : KS → Tr → Int → KS) (hg : ∀ s t r, TxK s → TxT t → TxK (g s t r)) : ∀ (ts : List Tr) (s : KS), TxK s → (∀ t ∈ ts, TxT t) → TxK (innK g s ts).1
 | [], s, h, _ => h
 | t :: ts, s, h, ht => by
   unfold innK
   split
   ·exact tx_inn g hg ts _ (hg _ _ _ h.take (ht t (List.mem_cons_self ..))) (fun x hx => ht x (List.mem_cons_of_mem _ hx))
   ·exact tx_inn g hg ts s h (fun x hx => ht x (List.mem_cons_of_mem _ hx))
theorem tx_set (C : List Int) : ∀ (ts : List Tr) (s : KS) (rs : List Int), TxK s → (∀ t ∈ ts, TxT t) → TxK (setK C s ts rs)
 | [], s, rs, h, _ => h
 | t :: ts, s, rs, h, ht => by
   unfold setK
   refine tx_set C ts _ _ ?_ (fun x hx => ht x (List.mem_cons_of_mem _ hx))
   unfold stpK
   split
   ·exact h.putN _ _ _
   ·exact h.arg C _ (ht t (List.mem_cons_self ..) t.1 (List.mem_cons_self ..)) _
theorem tx_bld (C : List Int) : ∀ (f : Nat) (s : KS) (t : Tr) (r : Int), TxK s → TxT t → TxK (bldK C f s t r)
 | 0, s, t, r, h, _ => h
 | f + 1, s, t, r, h, ht => by
   unfold bldK
   exact tx_set C _ _ _ ((tx_inn (bldK C f) (tx_bld C f) _ _ h (fun x hx => ht.kid hx)).put ⟨ht t.1 (List.mem_cons_self ..), rfl, rfl⟩) (fun x hx => ht.kid hx)
theorem tx_alls (g : KS → Tr → Int → KS) (hg : ∀ s t r, TxK s → TxT t → TxK (g s t r)) : ∀ (ts : List Tr) (i : Int) (s : KS), TxK s → (∀ t ∈ ts, TxT t) → TxK (alls g i s ts)
 | [], i, s, h, _ => h
 | t :: ts, i, s, h, ht => by
   unfold alls
   exact tx_alls g hg ts _ _ (hg _ _ _ h (ht t (List.mem_cons_self ..))) (fun x hx => ht x (List.mem_cons_of_mem _ hx))
theorem tx_hed (C : List Int) (f : Nat) (s : KS) (t : Tr) (a : Int) (h : TxK s) (ht : TxT t) : TxK (hedK C f s t a) := by
 unfold hedK
 split
 ·exact tx_get C f s _ h (fun x hx => by simp at hx; rw [hx]; exact ht)
 ·split
  ·exact h
  ·exact h.arg C _ (ht t.1 (List.mem_cons_self ..)) _
theorem tx_gol (C : List Int) (f : Nat) (s : KS) (t : Tr) (a : Int) (h : TxK s) (ht : TxT t) : TxK (golK C f s t a) := by
 unfold golK
 split
 ·exact tx_bld C f s t a h ht
 ·exact h.arg C _ (ht t.1 (List.mem_cons_self ..)) _
theorem tx_nam {t : Tr} (ht : TxT t) : (namC t.1).2.2.length ≤ 100 := ht t.1 (List.mem_cons_self ..)
theorem tx_gol1 (C : List Int) (f : Nat) (s : KS) (t : Tr) (l : Bool) (h : TxK s) (ht : TxT t) : TxK (gol1 C f s t l) := by
 have h1 := tx_alls (golK C f) (tx_gol C f) (trs t.2) 0 s h (fun x hx => ht.kid hx)
 unfold gol1
 split
 ·refine TxK.putN ?_ _ _ _
  unfold choK
  split
  ·exact h
  ·exact h.reg C _
 ·split
  ·exact h1.put ⟨tx_nam ht, rfl, rfl⟩
  ·split
   ·exact h1
   ·exact h1.put ⟨tx_nam ht, rfl, rfl⟩
theorem tx_gols (C : List Int) (f : Nat) : ∀ (gs : List Tr) (s : KS), TxK s → (∀ g ∈ gs, TxT g) → TxK (golsK C f s gs)
 | [], s, h, _ => h
 | g :: gs, s, h, hg => tx_gols C f gs _ (tx_gol1 C f s g _ h (hg g (List.mem_cons_self ..))) (fun x hx => hg x (List.mem_cons_of_mem _ hx))
theorem tx_end : ∀ gs : List Tr, (∀ g ∈ gs, TxT g) → (endJ gs).c.2.2.length ≤ 100 ∧ (endJ gs).K = [] ∧ (endJ gs).L = []
 | [], _ => ⟨by show ([] : List Int).length ≤ 100; simp, rfl, rfl⟩
 | g :: gs, h => by
   unfold endJ
   split
   ·split
    ·exact ⟨by show ([] : List Int).length ≤ 100; simp, rfl, rfl⟩
    ·exact ⟨tx_nam (h g (List.mem_cons_self ..)), rfl, rfl⟩
   ·exact tx_end gs fun x hx => h x (List.mem_cons_of_mem _ hx)
theorem tx_ccK (C : List Int) (f : Nat) (h : Tr) (gs : List Tr) (hh : TxT h) (hg : ∀ g ∈ gs, TxT g) : TxK (ccK C f h gs) := by
 have h0 : TxK (cc0 C h gs) := by
  intro i hi
  unfold cc0 at hi
  simp only at hi
  split at hi
  ·simp at hi; rw [hi]; exact ⟨by show ([] : List Int).length ≤ 100; simp, rfl, rfl⟩
  ·cases hi
 have h1 := tx_alls (hedK C f) (tx_hed C f) (trs h.2) 0 _ h0 (fun x hx => hh.kid hx); have h2 : TxK (ccA C f h gs) := tx_gols C f gs _ h1 hg
 unfold ccK
 refine TxK.put ?_ (tx_end gs hg)
 split
 ·exact h2.putN _ _ _
 ·exact h2
theorem szIs_small : ∀ ts : List Iv, (∀ i ∈ ts, i.c.2.2.length ≤ 100 ∧ i.K = [] ∧ i.L = []) → szIs ts ≤ 100 * ts.length
 | [], _ => Nat.zero_le _
 | i :: ts, h => by
   have h1 := szIs_small ts fun x hx => h x (List.mem_cons_of_mem _ hx)
   obtain ⟨h2, h3, h4⟩ := h i (List.mem_cons_self ..); simp only [szIs, szI, h3, h4, List.length_cons, List.length_nil, tl]
   omega
end Go.Proofs.YtickbkcpcgmlmaaGreatDoor
