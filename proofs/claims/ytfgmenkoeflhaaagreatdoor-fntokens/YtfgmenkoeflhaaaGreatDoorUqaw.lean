/- Texts of WtR. Own work of the verifier. -/
import Derived.Test.YtfgmenkoeflhaaaGreatDoorUqav
namespace Go.Proofs.YtfgmenkoeflhaaaGreatDoor
open Go Go.RowKit
set_option linter.unusedVariables false
set_option linter.unusedSimpArgs false
theorem topI_ge (T : List Cel) (c : Cel) : -2 ≤ topI T c := by
 unfold topI
 rcases find_rng T c.2.2 true with f | ⟨i, _, f⟩ <;> rcases find_rng T c.2.2 false with g | ⟨j, _, g⟩ <;> (rw [f, g]; repeat' split) <;> omega
theorem cells3 (w : World) (a b c : Value) (t : TypeId) : (w.alloc (.cells #[a, b, c] t)).cell? ⟨w.heap.size, 0, none⟩ = some a ∧ (w.alloc (.cells #[a, b, c] t)).cell? ⟨w.heap.size, 1, none⟩ = some b ∧ (w.alloc (.cells #[a, b, c] t)).cell? ⟨w.heap.size, 2, none⟩ = some c := by
 have hnew := heap_alloc_new w (.cells #[a, b, c] t)
 refine ⟨?_, ?_, ?_⟩ <;> (simp only [World.cell?]; rw [hnew]; rfl)
set_option maxRecDepth 100000 in
set_option maxHeartbeats 16000000 in
theorem comp_any {W0 : World} {ob : Nat} {po : Option Addr} {co : Nat} {T : List Cel} {pn : Option Addr} {cn : Nat} {N : List (List Int)} {q : Bool} (hE : WEnv W0 ob po co T pn cn N q) (hnn : ∀ j, j < T.length → 0 < (T.getD j Cel.none).2.2.length) (rec : Tr → Int → List Int) (t : Tr) (pr : Int) (tq : Option Addr) (n c : Nat) (w : World) (hw : Below W0.heap.size W0 w) (ht : t.fo.ok) (hl : (itC t).length ≤ 2000) (hin : TW W0 tq n c t) (h3 : t.1.1 = 3)
 (hg : ∀ k ∈ trs t.2, ∀ p, Byte (rec k p) ∧ (rec k p).length ≤ 1100000 * (itC k).length)
 (hT : ∀ k ∈ trs t.2, ∀ p, -1 ≤ p → p ≤ 1200 → ∀ kq kn kc W, TW W0 kq kn kc k → Below W0.heap.size W0 W → Calls Tryz.prog 56 #[.pointer (some ⟨ob, 0, none⟩), .slice kq kn kc, .int .i64 p] W (StrO (rec k p) W)) :
 Calls Tryz.prog 86 #[.pointer (some ⟨ob, 0, none⟩), .slice tq n c, .int .i64 pr] w (StrO (compW rec T q t pr) w) := by
 have HAR := argsW_any W0 w hw t tq n c h3 ht hl hin
 have HTOP : Hid (∀ W, Below W0.heap.size W0 W → Calls Tryz.prog 98 #[.pointer (some ⟨ob, 0, none⟩), .slice tq n c] W (TopO T t.1 W)) := fun W hW => top_any (hE.below hW) t tq n c ht hl (hin.below hW)
 have HPL : Hid (∀ W aq am ac, ArgsW W0 W aq am (trs t.2) → Below W0.heap.size W0 W → Calls Tryz.prog 99 #[.pointer (some ⟨ob, 0, none⟩), .slice tq n c, .slice aq am ac] W (StrO (plainW rec q t) W)) := fun W aq am ac ha hW => plain_any hE rec t tq n c aq am ac W hW ht hl hin ha (fun k hk => (hg k hk 999).2) (fun k hk kq kn kc W' h1 h2 => hT k hk 999 (by decide) (by decide) kq kn kc W' h1 h2)
 have HW0 : Hid (Below W0.heap.size W0 w) := hw
 by_cases htop : topI T t.1 < 0
 ·have HCW : Hid (compW rec T q t pr = plainW rec q t) := by show _ = _; unfold compW; rw [if_pos htop]
  obtain ⟨ti, eti⟩ : ∃ x, x = topI T t.1 := ⟨_, rfl⟩
  have HTI : Hid (∀ W, Below W0.heap.size W0 W → Calls Tryz.prog 98 #[.pointer (some ⟨ob, 0, none⟩), .slice tq n c] W fun e w' => e = .returned (.int .i64 ti) ∧ Below W.heap.size W w') := fun W hW => by rw [eti]; exact HTOP.out W hW
  rw [← eti] at htop
  have hti1 : -2 ≤ ti := by rw [eti]; exact topI_ge T t.1
  clear eti HTOP hE hnn hw ht hl hin h3 hg hT
  go_enter Tryz.func86, Tryz.ntmps86
  go_wp2_with fail; refine HAR.mono ?_; rintro e w1 ⟨ap, am, ac, rfl, ha, hb1⟩; have HA1 : Hid (ArgsW W0 w1 ap am (trs t.2)) := ha; have HB1 : Hid (Below w.heap.size w w1) := hb1; clear ha hb1 HAR; go_wp2_with fail; refine (HTI.out w1 (Below.on HW0.out HB1.out)).mono ?_; rintro e w2 ⟨rfl, hb2⟩; have HB2 : Hid (Below w.heap.size w w2) := Below.on HB1.out hb2; have HA2 : Hid (ArgsW W0 w2 ap am (trs t.2)) := HA1.out.below hb2; clear hb2; go_wp2_with fail; refine (HPL.out w2 ap am ac HA2.out (Below.on HW0.out HB2.out)).mono ?_; rintro e w3 ⟨rfl, hb3⟩; have HB3 : Hid (Below w.heap.size w w3) := Below.on HB2.out hb3; clear hb3
  obtain ⟨s, es⟩ : ∃ s, s = strOfNums (plainW rec q t) := ⟨_, rfl⟩
  have HES : Hid (s = strOfNums (plainW rec q t)) := es; rw [← es]; clear es; go_wp2_with fail; go_ret; exact ⟨by rw [HCW.out, ← HES.out]; rfl, HB3.out⟩
 ·obtain ⟨_, _, _, j, hj, hje, hkind⟩ := top_facts (T := T) (c := t.1) (by omega)
  have hcnt := ht.2.2.1 h3
  have hcnt1 : 1 ≤ t.2.count := by
   have h9 := ht.1; rw [h3] at h9; have := cellB_comp h9
   omega
  obtain ⟨hopb, hopl, hopp, hopt⟩ := hE.opb j hj; have hnn1 := hnn j hj
  have e2 : opW T (j : Int) = T.getD j Cel.none := by simp [opW]
  rw [← e2] at hopb hopl hopp hopt hnn1
  have HROW : Hid (∃ bp op' nq nc, po = some ⟨bp, op', none⟩ ∧ BIn W0 nq (opW T (j : Int)).2.2 ∧ ∀ W, Below W0.heap.size W0 W → W.cell? ⟨ob, 0, none⟩ = some (.slice po T.length co) ∧ W.cell? ⟨bp, op' + j * 3, none⟩ = some (.slice nq (opW T (j : Int)).2.2.length nc) ∧ W.cell? ⟨bp, op' + j * 3 + 1, none⟩ = some (.int .i64 (opW T (j : Int)).1) ∧ W.cell? ⟨bp, op' + j * 3 + 2, none⟩ = some (.int .i64 (opW T (j : Int)).2.1)) := by
   obtain ⟨bp, op', e, h⟩ := hE.ops (by omega); obtain ⟨nq, nc, h1, h2, h4, h5⟩ := h j hj; rw [← e2] at h1 h2 h4 h5; exact ⟨bp, op', nq, nc, e, h5, fun W hW => ⟨(hW.cell (World.block_lt_of_cell? _ _ hE.c0)).trans hE.c0, (hW.cell (World.block_lt_of_cell? _ _ h4)).trans h4, (hW.cell (World.block_lt_of_cell? _ _ h1)).trans h1, (hW.cell (World.block_lt_of_cell? _ _ h2)).trans h2⟩⟩
  obtain ⟨op, eop⟩ : ∃ op, op = opW T (j : Int) := ⟨_, rfl⟩
  have HCW : Hid (compW rec T q t pr = if pr < op.1 then parW (operW rec T q t op) else operW rec T q t op) := by show _ = _; unfold compW; rw [if_neg htop, hje, eop]
  rw [← eop] at hopb hopl hopp hopt hnn1 HROW hkind; obtain ⟨bp, op', nq, nc, hpo, hbn, hrow⟩ := HROW.out
  have HKG : Hid (∀ i, i < t.2.count → ∀ p l, Byte (operandW rec T (kidW t i) p l op) ∧ (operandW rec T (kidW t i) p l op).length ≤ 2300000000) := fun i hi p l => by
   have hk := kid_at (t := t) (i := i) hi; have h9 := trs_le _ _ hk
   have h8 : (itC (kidW t i)).length ≤ 2000 := by simp only [itC, List.length_cons] at hl h9 ⊢; omega
   obtain ⟨g1, g2⟩ := hg _ hk p; have h7 := par_good g1
   unfold operandW
   split
   ·exact ⟨h7.1, by omega⟩
   ·split
    ·exact ⟨h7.1, by omega⟩
    ·exact ⟨g1, by omega⟩
  have HOPR : Hid (∀ i, i < t.2.count → ∀ p l, -1 ≤ p → p ≤ 1200 → ∀ kq kn kc W, TW W0 kq kn kc (kidW t i) → Below W0.heap.size W0 W → Calls Tryz.prog 100 #[.pointer (some ⟨ob, 0, none⟩), .slice kq kn kc, .int .i64 p, .bool l, .agg #[.slice nq op.2.2.length nc, .int .i64 op.1, .int .i64 op.2.1]] W (StrO (operandW rec T (kidW t i) p l op) W)) := fun i hi p l h0 h1 kq kn kc W htw hW => by
   have hk := kid_at (t := t) (i := i) hi; have h9 := trs_le _ _ hk
   have h8 : (itC (kidW t i)).length ≤ 2000 := by simp only [itC, List.length_cons] at hl h9 ⊢; omega
   exact operand_any hE rec (kidW t i) p l op nq op.2.2.length nc kq kn kc W hW (trs_okW ht.2.2.2.2.1 _ hk) h8 htw (by have := (hg _ hk p).2; omega) (fun W' hW' => hT _ hk p h0 h1 kq kn kc W' htw hW')
  have HKID : Hid (∀ i, i < t.2.count → ∀ W aq am, ArgsW W0 W aq am (trs t.2) → (i : Nat) < am ∧ ∃ g kq kn kc, aq = some ⟨g, 0, none⟩ ∧ W.cell? ⟨g, i, none⟩ = some (.slice kq kn kc) ∧ TW W0 kq kn kc (kidW t i)) := fun i hi W aq am ha => by
   have hl9 : i < (trs t.2).length := by rw [trs_len]; exact hi
   have hlt : i < am := by rw [ha.1]; exact hl9
   obtain ⟨g, e, hc⟩ := ha.2 (by omega); obtain ⟨kq, kn, kc, h1, h2⟩ := hc i (kidW t i) (by unfold kidW; simp [List.getD, hl9]); exact ⟨hlt, g, kq, kn, kc, e, h1, h2⟩
  have HNM : Hid (∀ W, Below W0.heap.size W0 W → Calls Tryz.prog 83 #[.pointer (some ⟨ob, 0, none⟩), .slice nq op.2.2.length nc] W (StrO (atomW q op.2.2) W)) := fun W hW => atom_any ob po co T pn cn N q nq op.2.2.length nc op.2.2 W (hE.below hW) rfl hopb (by omega) (hbn.below hW)
  have HCV : Hid (∀ W, Below W0.heap.size W0 W → (convert 22 9 (.slice nq op.2.2.length nc)).run Tryz.prog W = .ok (.string (strOfNums op.2.2)) W) := fun W hW => conv_str (hbn.below hW) op.2.2.length nc rfl 9 Tryz.underlying9
  have HSPC : Hid (∀ W, Below W0.heap.size W0 W → Calls Tryz.prog 103 #[.slice nq op.2.2.length nc] W fun e w' => e = .returned (.bool (spacedB op.2.2)) ∧ w' = W) := fun W hW => spaced_any nq op.2.2.length nc op.2.2 W rfl hopb hopl hnn1 (hbn.below hW)
  have HRG : Hid (∀ W, Calls Tryz.prog 101 #[.agg #[.slice nq op.2.2.length nc, .int .i64 op.1, .int .i64 op.2.1]] W fun e w' => e = .returned (.int .i64 (rightP op)) ∧ Below W.heap.size W w') := fun W => right_any op nq op.2.2.length nc W hopp
  have HLF : Hid (∀ W, Calls Tryz.prog 104 #[.agg #[.slice nq op.2.2.length nc, .int .i64 op.1, .int .i64 op.2.1]] W fun e w' => e = .returned (.int .i64 (leftP op)) ∧ Below W.heap.size W w') := fun W => leftW_any op nq op.2.2.length nc W hopp
  have HPRE : Hid (∀ W, Calls Tryz.prog 81 #[.int .i64 op.2.1] W fun e w' => e = .returned (.bool (preB op.2.1)) ∧ w' = W) := fun W => l3prefix_any op.2.1 W
  have HINF : Hid (∀ W, Calls Tryz.prog 105 #[.int .i64 op.2.1] W fun e w' => e = .returned (.bool (infB op.2.1)) ∧ w' = W) := fun W => l3infix_any op.2.1 W
  have HNG : Hid (Byte (nameW q op) ∧ (nameW q op).length ≤ 601) := name_good q ⟨hopb, hopl⟩
  have hrp : -1 ≤ rightP op ∧ rightP op ≤ 1200 := by unfold rightP; split <;> omega
  have hlp : -1 ≤ leftP op ∧ leftP op ≤ 1200 := by unfold leftP; split <;> omega
  have HPU : Hid ((preB op.2.1 = true → operW rec T q t op = nameW q op ++ preGap q op (operandW rec T (kidW t 0) (rightP op) false op) ++ operandW rec T (kidW t 0) (rightP op) false op) ∧ (preB op.2.1 = false → infB op.2.1 = false → operW rec T q t op = operandW rec T (kidW t 0) (leftP op) true op ++ midGap op (operandW rec T (kidW t 0) (leftP op) true op) (nameW q op) ++ nameW q op) ∧ (preB op.2.1 = false → infB op.2.1 = true → operW rec T q t op = operandW rec T (kidW t 0) (leftP op) true op ++ midGap op (operandW rec T (kidW t 0) (leftP op) true op) (nameW q op) ++ nameW q op ++ (midGap op (nameW q op) (operandW rec T (kidW t 1) (rightP op) false op) ++ operandW rec T (kidW t 1) (rightP op) false op))) := by
   refine ⟨fun h => ?_, fun h h' => ?_, fun h h' => ?_⟩
   ·unfold operW; rw [if_pos h]
   ·unfold operW; rw [if_neg (by rw [h]; decide), if_neg (by rw [h']; decide)]
   ·unfold operW; rw [if_neg (by rw [h]; decide), if_pos h']
  have HC2 : Hid (preB op.2.1 = false → infB op.2.1 = true → t.2.count = 2) := fun h h' => by
   rcases hkind with ⟨hk, _, _⟩ | ⟨_, _, hk | ⟨_, hk⟩⟩
   ·omega
   ·rw [h] at hk; cases hk
   ·rw [h'] at hk; cases hk
  have HC1 : Hid (1 ≤ t.2.count) := hcnt1
  obtain ⟨CW, eCW⟩ : ∃ x, x = compW rec T q t pr := ⟨_, rfl⟩
  rw [← eCW] at HCW ⊢
  obtain ⟨OW, eOW⟩ : ∃ x, x = operW rec T q t op := ⟨_, rfl⟩
  rw [← eOW] at HCW HPU
  obtain ⟨NW, eNW⟩ : ∃ x, x = nameW q op := ⟨_, rfl⟩
  have HNW : Hid (NW = if op.2.2 = [44] then [44] else atomW q op.2.2) := by show _ = _; rw [eNW]; rfl
  rw [← eNW] at HPU HNG
  have HPG : Hid (∀ a, preGap q op a = if spacedB op.2.2 = true then [32] else if a ≠ [] ∧ (a.getD 0 0 = 40 ∨ (op.2.2 = [45] ∧ digitB (a.getD 0 0) = true)) then [32] else gapW NW a) := fun a => by rw [eNW]; rfl
  have HMG : Hid (∀ a b, midGap op a b = if spacedB op.2.2 = true then [32] else gapW a b) := fun a b => rfl
  obtain ⟨X0, eX0⟩ : ∃ x, x = operandW rec T (kidW t 0) (rightP op) false op := ⟨_, rfl⟩
  obtain ⟨Y0, eY0⟩ : ∃ x, x = operandW rec T (kidW t 0) (leftP op) true op := ⟨_, rfl⟩
  obtain ⟨X1, eX1⟩ : ∃ x, x = operandW rec T (kidW t 1) (rightP op) false op := ⟨_, rfl⟩
  have HX0 : Hid ((Byte X0 ∧ X0.length ≤ 2300000000) ∧ (Byte Y0 ∧ Y0.length ≤ 2300000000) ∧ (1 < t.2.count → Byte X1 ∧ X1.length ≤ 2300000000)) := ⟨by rw [eX0]; exact HKG.out 0 (by omega) _ _, by rw [eY0]; exact HKG.out 0 (by omega) _ _, fun h => by rw [eX1]; exact HKG.out 1 (by omega) _ _⟩
  have HOX0 : Hid (∀ kq kn kc W, TW W0 kq kn kc (kidW t 0) → Below W0.heap.size W0 W → Calls Tryz.prog 100 #[.pointer (some ⟨ob, 0, none⟩), .slice kq kn kc, .int .i64 (rightP op), .bool false, .agg #[.slice nq op.2.2.length nc, .int .i64 op.1, .int .i64 op.2.1]] W (StrO X0 W)) := fun kq kn kc W h1 h2 => by rw [eX0]; exact HOPR.out 0 (by omega) _ _ hrp.1 hrp.2 kq kn kc W h1 h2
  have HOY0 : Hid (∀ kq kn kc W, TW W0 kq kn kc (kidW t 0) → Below W0.heap.size W0 W → Calls Tryz.prog 100 #[.pointer (some ⟨ob, 0, none⟩), .slice kq kn kc, .int .i64 (leftP op), .bool true, .agg #[.slice nq op.2.2.length nc, .int .i64 op.1, .int .i64 op.2.1]] W (StrO Y0 W)) := fun kq kn kc W h1 h2 => by rw [eY0]; exact HOPR.out 0 (by omega) _ _ hlp.1 hlp.2 kq kn kc W h1 h2
  have HOX1 : Hid (1 < t.2.count → ∀ kq kn kc W, TW W0 kq kn kc (kidW t 1) → Below W0.heap.size W0 W → Calls Tryz.prog 100 #[.pointer (some ⟨ob, 0, none⟩), .slice kq kn kc, .int .i64 (rightP op), .bool false, .agg #[.slice nq op.2.2.length nc, .int .i64 op.1, .int .i64 op.2.1]] W (StrO X1 W)) := fun h kq kn kc W h1 h2 => by rw [eX1]; exact HOPR.out 1 (by omega) _ _ hrp.1 hrp.2 kq kn kc W h1 h2
  rw [← eX0, ← eY0, ← eX1] at HPU; have HROW2 : Hid (∀ W, Below W0.heap.size W0 W → W.cell? ⟨ob, 0, none⟩ = some (.slice po T.length co) ∧ W.cell? ⟨bp, op' + j * 3, none⟩ = some (.slice nq op.2.2.length nc) ∧ W.cell? ⟨bp, op' + j * 3 + 1, none⟩ = some (.int .i64 op.1) ∧ W.cell? ⟨bp, op' + j * 3 + 2, none⟩ = some (.int .i64 op.2.1)) := hrow; subst hpo
  have HTI : Hid (∀ W, Below W0.heap.size W0 W → Calls Tryz.prog 98 #[.pointer (some ⟨ob, 0, none⟩), .slice tq n c] W fun e w' => e = .returned (.int .i64 (j : Int)) ∧ Below W.heap.size W w') := fun W hW => by rw [← hje]; exact HTOP.out W hW
  have hjT : (j : Int) < (T.length : Int) := by omega
  have hj0 : (0 : Int) ≤ (j : Int) := by omega
  have hoN := hopl; have HOB : Hid (Byte op.2.2) := hopb; have hoP := hopp; have hol := hE.olen
  obtain ⟨TL, eTL⟩ : ∃ x, x = T.length := ⟨_, rfl⟩
  obtain ⟨p1, ep1⟩ : ∃ x, x = op.1 := ⟨_, rfl⟩
  obtain ⟨p2, ep2⟩ : ∃ x, x = op.2.1 := ⟨_, rfl⟩
  obtain ⟨on, eon⟩ : ∃ x, x = op.2.2 := ⟨_, rfl⟩
  obtain ⟨nl, enl⟩ : ∃ x, x = on.length := ⟨_, rfl⟩
  obtain ⟨rp, erp⟩ : ∃ x, x = rightP op := ⟨_, rfl⟩
  obtain ⟨lp, elp⟩ : ∃ x, x = leftP op := ⟨_, rfl⟩
  obtain ⟨son, eson⟩ : ∃ x, x = strOfNums on := ⟨_, rfl⟩
  have hl44 := str_eq HOB.out [44]; have hl45 := str_eq HOB.out [45]; rw [← eon] at hl44 hl45 HOB; rw [← eson] at hl44 hl45; simp only [List.map_cons, List.map_nil] at hl44 hl45; rw [← eon] at HNM HCV HSPC HRG HLF HNW HPG HMG HROW2 HOX0 HOY0 HOX1 hoN; rw [← enl] at HNM HCV HSPC HRG HLF HROW2 HOX0 HOY0 HOX1 hoN; rw [← eson] at HCV; rw [← ep1] at HRG HLF HROW2 HOX0 HOY0 HOX1 HCW hoP; rw [← ep2] at HRG HLF HROW2 HOX0 HOY0 HOX1 HPRE HINF HPU HC2; rw [← erp] at HRG HOX0 HOX1; rw [← elp] at HLF HOY0; rw [← eTL] at HROW2 hjT hol
  have hrp2 : -1 ≤ rp ∧ rp ≤ 1200 := by rw [erp]; exact hrp
  have hlp2 : -1 ≤ lp ∧ lp ≤ 1200 := by rw [elp]; exact hlp
  obtain ⟨hrpa, hrpb⟩ := hrp2; obtain ⟨hlpa, hlpb⟩ := hlp2
  have HAM : Hid ((trs t.2).length ≤ 2000) := by show _ ≤ _; have := len_sum (trs t.2); rw [trs_sum] at this; simp only [itC, List.length_cons] at hl; omega
  clear hE hnn hw ht hl hin h3 hg hT HTOP HPL htop hje hkind hcnt hcnt1 hopb hopl hopp hopt hnn1 e2 HROW eop hbn hrow HKG HOPR eCW eOW eNW eX0 eY0 eX1 hj eTL ep1 ep2 eon enl erp elp eson hrp hlp
  go_enter Tryz.func86, Tryz.ntmps86
  go_wp2_with fail; refine HAR.mono ?_; rintro e w1 ⟨ap, am, ac, rfl, ha, hb1⟩; have HA1 : Hid (ArgsW W0 w1 ap am (trs t.2)) := ha; have HB1 : Hid (Below w.heap.size w w1) := hb1; clear ha hb1 HAR; go_wp2_with fail; refine (HTI.out w1 (Below.on HW0.out HB1.out)).mono ?_; rintro e w2 ⟨rfl, hb2⟩; have HB2 : Hid (Below w.heap.size w w2) := Below.on HB1.out hb2; have HA2 : Hid (ArgsW W0 w2 ap am (trs t.2)) := HA1.out.below hb2; obtain ⟨c0, r0, r1, r2⟩ := HROW2.out w2 (Below.on HW0.out HB2.out); clear hb2
  have hjn : ¬ (j : Int) < 0 := by omega
  obtain ⟨w3, ew3⟩ : ∃ w3, w3 = w2.alloc (.cells #[.slice nq nl nc, .int .i64 p1, .int .i64 p2] 94) := ⟨_, rfl⟩
  have HB3 : Hid (Below w2.heap.size w2 w3) := by rw [ew3]; exact (Below.refl _ _).alloc (Nat.le_refl _) _
  obtain ⟨b0, b1, b2⟩ := cells3 w2 (.slice nq nl nc) (.int .i64 p1) (.int .i64 p2) 94; rw [← ew3] at b0 b1 b2
  have HBX : Hid (∀ W, Below w3.heap.size w3 W → W.cell? ⟨w2.heap.size, 0, none⟩ = some (.slice nq nl nc) ∧ W.cell? ⟨w2.heap.size, 1, none⟩ = some (.int .i64 p1) ∧ W.cell? ⟨w2.heap.size, 2, none⟩ = some (.int .i64 p2)) := fun W hW => ⟨(hW.cell (World.block_lt_of_cell? _ _ b0)).trans b0, (hW.cell (World.block_lt_of_cell? _ _ b1)).trans b1, (hW.cell (World.block_lt_of_cell? _ _ b2)).trans b2⟩
  have HNA := HNM.out w3 (Below.on (Below.on HW0.out HB2.out) HB3.out); rw [ew3] at HNA; clear b0 b1 b2; go_wp2_with fail; refine HNA.mono ?_; rintro e w4 ⟨rfl, hb4⟩; rw [← ew3] at hb4; have H3w4 : Hid (Below w3.heap.size w3 w4) := hb4; have H04 : Hid (Below W0.heap.size W0 w4) := Below.on (Below.on (Below.on HW0.out HB2.out) HB3.out) hb4; obtain ⟨b0, b1, b2⟩ := HBX.out w4 hb4; have cv4 := HCV.out w4 H04.out
  obtain ⟨sA, esA⟩ : ∃ s, s = strOfNums (atomW q on) := ⟨_, rfl⟩
  have HSA : Hid (sA = strOfNums (atomW q on)) := esA; rw [← esA]; clear hb4 esA HNA ew3; have hz40 : (⟨#[40]⟩ : ByteArray).size = 1 := rfl; have hz44 : (⟨#[44]⟩ : ByteArray).size = 1 := rfl; have hz32 : (⟨#[32]⟩ : ByteArray).size = 1 := rfl
  obtain ⟨sX, esX⟩ : ∃ s, s = strOfNums X0 := ⟨_, rfl⟩
  have HSX : Hid (sX = strOfNums X0) := esX
  have hzX : sX.size ≤ 2300000000 := by rw [esX, strOfNums_size]; exact HX0.out.1.2
  have HOXs : Hid (∀ kq kn kc W, TW W0 kq kn kc (kidW t 0) → Below W0.heap.size W0 W → Calls Tryz.prog 100 #[.pointer (some ⟨ob, 0, none⟩), .slice kq kn kc, .int .i64 rp, .bool false, .agg #[.slice nq nl nc, .int .i64 p1, .int .i64 p2]] W fun e w' => e = .returned (.string sX) ∧ Below W.heap.size W w') := fun kq kn kc W h1 h2 => by rw [esX]; exact HOX0.out kq kn kc W h1 h2
  clear esX
  obtain ⟨sY, esY⟩ : ∃ s, s = strOfNums Y0 := ⟨_, rfl⟩
  have HSY : Hid (sY = strOfNums Y0) := esY
  have hzY : sY.size ≤ 2300000000 := by rw [esY, strOfNums_size]; exact HX0.out.2.1.2
  have HOYs : Hid (∀ kq kn kc W, TW W0 kq kn kc (kidW t 0) → Below W0.heap.size W0 W → Calls Tryz.prog 100 #[.pointer (some ⟨ob, 0, none⟩), .slice kq kn kc, .int .i64 lp, .bool true, .agg #[.slice nq nl nc, .int .i64 p1, .int .i64 p2]] W fun e w' => e = .returned (.string sY) ∧ Below W.heap.size W w') := fun kq kn kc W h1 h2 => by rw [esY]; exact HOY0.out kq kn kc W h1 h2
  clear esY
  by_cases hcm : on = [44]
  ·have HNE : Hid (NW = [44]) := by show _ = _; rw [HNW.out, if_pos hcm]
   have t44 : son.toList = [44] := hl44.2 hcm; have HNT : Hid ((⟨#[44]⟩ : ByteArray) = strOfNums [44]) := rfl
   have hnz : (⟨#[44]⟩ : ByteArray).size ≤ 601 := by decide
   have HNB : Hid (Byte [44] ∧ [44].length ≤ 601) := ⟨byte_one (by decide) (by decide), by decide⟩
   rw [HNE.out] at HPG; have HCM : Hid (on = [44]) := hcm; clear hcm
   cases hpre : preB p2 with
   | true =>
     have HP9 := HPRE.out w4; rw [hpre] at HP9; go_wp2_with fail; refine HP9.mono ?_; rintro e w9 ⟨rfl, hw9⟩; rw [hw9]; clear hw9 w9 HP9; obtain ⟨hai, ga, kq, kn, kc, hap, hka, htw⟩ := HKID.out 0 HC1.out w2 ap am HA2.out; subst hap; have HTW : Hid (TW W0 kq kn kc (kidW t 0)) := htw; have HKA : Hid (w2.cell? ⟨ga, 0, none⟩ = some (.slice kq kn kc)) := hka
     have HSP : Hid (∀ W, Below w4.heap.size w4 W → W.cell? ⟨ga, 0, none⟩ = some (.slice kq kn kc) ∧ W.cell? ⟨w2.heap.size, 0, none⟩ = some (.slice nq nl nc) ∧ W.cell? ⟨w2.heap.size, 1, none⟩ = some (.int .i64 p1) ∧ W.cell? ⟨w2.heap.size, 2, none⟩ = some (.int .i64 p2)) := fun W hW => by
      have h9 := Below.on HB3.out (Below.on H3w4.out hW); exact ⟨(h9.cell (World.block_lt_of_cell? _ _ HKA.out)).trans HKA.out, HBX.out W (Below.on H3w4.out hW)⟩
     have haI : (0 : Int) < (am : Int) := by omega
     have haN : 0 < am := hai; clear htw hka hai; go_wp2_with fail; refine wp_region_held_drew (S := (fun W => W.cell? ⟨ga, 0, none⟩ = some (.slice kq kn kc) ∧ W.cell? ⟨w2.heap.size, 0, none⟩ = some (.slice nq nl nc) ∧ W.cell? ⟨w2.heap.size, 1, none⟩ = some (.int .i64 p1) ∧ W.cell? ⟨w2.heap.size, 2, none⟩ = some (.int .i64 p2))) (by kernel_rfl) (HSP.out w4.drew ⟨rfl, rfl, rfl, Nat.le_refl _, fun _ _ => rfl⟩) (fun hHeld => ?_); refine hTk (i := 0) (v := .pointer (some ⟨ob, 0, none⟩)) (some 46) (fun o ho W hSw => ?z1) (hHeld) ?_
     case z1 => cases ho; simp [execOp, go_sem, Act.eval]
     simp only [Act.put, zzA, zzB, zzC]; refine hTk (i := 1) (v := .slice (some ⟨ga, 0, none⟩) am ac) (some 47) (fun o ho W hSw => ?z2) (hHeld) ?_
     case z2 => cases ho; simp [execOp, go_sem, Act.eval]
     simp only [Act.put, zzA, zzB, zzC]; refine hTk (i := 2) (v := .pointer (some ⟨ga, 0, none⟩)) (some 48) (fun o ho W hSw => ?z3) (hHeld) ?_
     case z3 => cases ho; simp [execOp, go_sem, Act.eval, haI, haN]
     simp only [Act.put, zzA, zzB, zzC]; refine hTk (i := 3) (v := .slice kq kn kc) (some 49) (fun o ho W hSw => ?z4) (hHeld) ?_
     case z4 => cases ho; obtain ⟨s0, s1, s2, s3⟩ := hSw; simp [execOp, go_sem, Act.eval, s0]
     simp only [Act.put, zzA, zzB, zzC]; refine hTk (i := 4) (v := .agg #[.slice nq nl nc, .int .i64 p1, .int .i64 p2]) (some 50) (fun o ho W hSw => ?z5) (hHeld) ?_
     case z5 => cases ho; obtain ⟨s0, s1, s2, s3⟩ := hSw; simp [execOp, go_sem, Act.eval, s1, s2, s3]
     simp only [Act.put, zzA, zzB, zzC]; refine hTk (i := 6) (v := .agg #[.slice nq nl nc, .int .i64 p1, .int .i64 p2]) (some 52) (fun o ho W hSw => ?z6) (hHeld) ?_
     case z6 => cases ho; obtain ⟨s0, s1, s2, s3⟩ := hSw; simp [execOp, go_sem, Act.eval, s1, s2, s3]
     simp only [Act.put, zzA, zzB, zzC]; refine hCallE (i := 5) (f := 101) (args := #[.agg #[.slice nq nl nc, .int .i64 p1, .int .i64 p2]]) (some 51) (by kernel_rfl) (by kernel_rfl) (by kernel_rfl) (fun o ho => ?yc5) (HRG.out _) (fun u w5 hu => ?_) (fun ch w' h => by cases h.1) (fun w' h => by cases h.1)
     case yc5 => cases ho; simp [execOp, go_sem, Act.eval]
     obtain ⟨hu, hb5⟩ := hu
     cases hu
     have H4w5 : Hid (Below w4.heap.size w4 w5) := Below.on (⟨rfl, rfl, rfl, Nat.le_refl _, fun _ _ => rfl⟩ : Below w4.heap.size w4 w4.drew) hb5; have hHeld := HSP.out w5 H4w5.out; refine ⟨hHeld, ?_⟩; clear hb5; simp only [Act.put, zzA, zzB, zzC]; refine hCallE (i := 7) (f := 100) (args := #[.pointer (some ⟨ob, 0, none⟩), .slice kq kn kc, .int .i64 rp, .bool false, .agg #[.slice nq nl nc, .int .i64 p1, .int .i64 p2]]) (some 53) (by kernel_rfl) (by kernel_rfl) (by kernel_rfl) (fun o ho => ?yc7) (HOXs.out kq kn kc w5 HTW.out (Below.on (Below.on (Below.on HW0.out HB2.out) HB3.out) (Below.on H3w4.out H4w5.out))) (fun u w6 hu => ?_) (fun ch w' h => by cases h.1) (fun w' h => by cases h.1)
     case yc7 => cases ho; simp [execOp, go_sem, Act.eval]
     obtain ⟨hu, hb6⟩ := hu
     cases hu
     have H4w6 : Hid (Below w4.heap.size w4 w6) := Below.on H4w5.out hb6; have H3w6 : Hid (Below w3.heap.size w3 w6) := Below.on H3w4.out H4w6.out; have hHeld := HSP.out w6 H4w6.out; refine ⟨hHeld, ?_⟩; clear hb6; simp only [Act.put, zzA, zzB, zzC]; refine hTk (i := 8) (v := .string sX) (some 12) (fun o ho W hSw => ?z7) (hHeld) ?_
     case z7 => cases ho; simp [execOp, go_sem, Act.eval]
     simp only [Act.put, zzA, zzB, zzC]; refine wpAnyH_done (by kernel_rfl) ?_ _; obtain ⟨b0, b1, b2⟩ := HBX.out w6 H3w6.out; have H0w6 : Hid (Below W0.heap.size W0 w6) := Below.on (Below.on (Below.on HW0.out HB2.out) HB3.out) H3w6.out
     obtain ⟨sG, esG⟩ : ∃ s, s = strOfNums (gapW [44] X0) := ⟨_, rfl⟩
     have HGPsG : Hid (∀ W, Calls Tryz.prog 102 #[.string (⟨#[44]⟩ : ByteArray), .string sX] W fun e w' => e = .returned (.string sG) ∧ w' = W) := fun W => by
      have h9 := gap_any [44] X0 HNB.out.1 HX0.out.1.1 (by have := HNB.out.2; omega) (by have := HX0.out.1.2; omega) W; rw [HNT.out, HSX.out, esG]; exact h9
     have hzsG : sG.size ≤ 1 := by rw [esG, strOfNums_size]; exact (gap_good _ _).2
     have HEsG : Hid (sG = strOfNums (gapW [44] X0)) := esG; clear esG; go_wp2_with fail; refine (HGPsG.out _).mono ?_; rintro e w9 ⟨rfl, hw9⟩; rw [hw9]; clear hw9 w9
     by_cases hX : X0 = []
     ·have i1 : sX.toList.isEmpty = true := by rw [HSX.out, str_list, hX]; rfl
      have HCND : Hid (¬ (X0 ≠ [] ∧ (X0.getD 0 0 = 40 ∨ (on = [45] ∧ digitB (X0.getD 0 0) = true)))) := fun h => h.1 hX
      clear hX
      cases hsp : spacedB on with
      | true =>
        have HS9 := HSPC.out w6 H0w6.out; rw [hsp] at HS9 HPG HMG; have HSPV : Hid (spacedB on = true) := hsp; clear hsp; go_wp2_with fail; refine HS9.mono ?_; rintro e w9 ⟨rfl, hw9⟩; rw [hw9]; clear hw9 w9 HS9
        have HOUT : Hid ((⟨#[44]⟩ : ByteArray) ++ (⟨#[32]⟩ : ByteArray) ++ sX = strOfNums OW) := by
         have h9 : (⟨#[32]⟩ : ByteArray) = strOfNums ([32]) := rfl
         show _ = _
         rw [HPU.out.1 hpre, HPG.out, if_pos (by trivial), HNE.out, ← str_app, ← str_app, ← HSX.out, ← h9, ← HNT.out]
        have hzn : ((⟨#[44]⟩ : ByteArray) ++ (⟨#[32]⟩ : ByteArray)).size ≤ 602 := by rw [ByteArray.size_append]; omega
        have HPAR : Hid ((⟨#[40]⟩ : ByteArray) ++ ((⟨#[44]⟩ : ByteArray) ++ (⟨#[32]⟩ : ByteArray) ++ sX) ++ ⟨#[41]⟩ = strOfNums (parW OW)) := par_str _ OW HOUT.out
        have hzo : ((⟨#[44]⟩ : ByteArray) ++ (⟨#[32]⟩ : ByteArray) ++ sX).size ≤ 6900000000 := by simp only [ByteArray.size_append]; omega
        have hzp : ((⟨#[40]⟩ : ByteArray) ++ ((⟨#[44]⟩ : ByteArray) ++ (⟨#[32]⟩ : ByteArray) ++ sX)).size ≤ 6900000001 := by rw [ByteArray.size_append]; omega
        by_cases hp : pr < p1
        ·have HR : Hid (CW = parW OW) := by show _ = _; rw [HCW.out, if_pos hp]
         go_wp2_with fail
         all_goals go_ret
         all_goals exact ⟨by rw [HR.out, ← HPAR.out]; rfl, Below.on (Below.on HB2.out HB3.out) H3w6.out⟩
        ·have HR : Hid (CW = OW) := by show _ = _; rw [HCW.out, if_neg hp]
         go_wp2_with fail
         all_goals go_ret
         all_goals exact ⟨by rw [HR.out, ← HOUT.out]; rfl, Below.on (Below.on HB2.out HB3.out) H3w6.out⟩
      | false =>
        have HS9 := HSPC.out w6 H0w6.out; rw [hsp] at HS9 HPG HMG; have HSPV : Hid (spacedB on = false) := hsp; clear hsp; go_wp2_with fail; refine HS9.mono ?_; rintro e w9 ⟨rfl, hw9⟩; rw [hw9]; clear hw9 w9 HS9
        have HOUT : Hid ((⟨#[44]⟩ : ByteArray) ++ sG ++ sX = strOfNums OW) := by
         have h9 : sG = strOfNums (gapW [44] X0) := HEsG.out
         show _ = _
         rw [HPU.out.1 hpre, HPG.out, if_neg (by decide), if_neg HCND.out, HNE.out, ← str_app, ← str_app, ← HSX.out, ← h9, ← HNT.out]
        have hzn : ((⟨#[44]⟩ : ByteArray) ++ sG).size ≤ 602 := by rw [ByteArray.size_append]; omega
        have HPAR : Hid ((⟨#[40]⟩ : ByteArray) ++ ((⟨#[44]⟩ : ByteArray) ++ sG ++ sX) ++ ⟨#[41]⟩ = strOfNums (parW OW)) := par_str _ OW HOUT.out
        have hzo : ((⟨#[44]⟩ : ByteArray) ++ sG ++ sX).size ≤ 6900000000 := by simp only [ByteArray.size_append]; omega
        have hzp : ((⟨#[40]⟩ : ByteArray) ++ ((⟨#[44]⟩ : ByteArray) ++ sG ++ sX)).size ≤ 6900000001 := by rw [ByteArray.size_append]; omega
        by_cases hp : pr < p1
        ·have HR : Hid (CW = parW OW) := by show _ = _; rw [HCW.out, if_pos hp]
         go_wp2_with fail
         all_goals go_ret
         all_goals exact ⟨by rw [HR.out, ← HPAR.out]; rfl, Below.on (Below.on HB2.out HB3.out) H3w6.out⟩
        ·have HR : Hid (CW = OW) := by show _ = _; rw [HCW.out, if_neg hp]
         go_wp2_with fail
         all_goals go_ret
         all_goals exact ⟨by rw [HR.out, ← HOUT.out]; rfl, Below.on (Below.on HB2.out HB3.out) H3w6.out⟩
     ·have i1 : sX.toList.isEmpty = false := by rw [HSX.out, str_list]; cases X0 with | nil => exact absurd rfl hX | cons _ _ => rfl
      have hx0 : 0 < sX.size := by rw [HSX.out, strOfNums_size]; cases X0 with | nil => exact absurd rfl hX | cons _ _ => simp
      have g0 := str_get HX0.out.1.1 HSX.out 0 hx0; have hr0 : 0 ≤ X0.getD 0 0 ∧ X0.getD 0 0 < 256 := HX0.out.1.1 _ (by cases X0 with | nil => exact absurd rfl hX | cons _ _ => simp)
      obtain ⟨x, ex⟩ : ∃ x, x = X0.getD 0 0 := ⟨_, rfl⟩
      have HXN : Hid (X0 ≠ [] ∧ x = X0.getD 0 0) := ⟨hX, ex⟩
      rw [← ex] at g0 hr0; obtain ⟨hr1, hr2⟩ := hr0; clear hX ex
      by_cases h40 : x = 40
      ·have HCND : Hid (X0 ≠ [] ∧ (X0.getD 0 0 = 40 ∨ (on = [45] ∧ digitB (X0.getD 0 0) = true))) := ⟨HXN.out.1, .inl (by rw [← HXN.out.2]; exact h40)⟩
       subst h40
       cases hsp : spacedB on with
       | true =>
         have HS9 := HSPC.out w6 H0w6.out; rw [hsp] at HS9 HPG HMG; have HSPV : Hid (spacedB on = true) := hsp; clear hsp; go_wp2_with fail; refine HS9.mono ?_; rintro e w9 ⟨rfl, hw9⟩; rw [hw9]; clear hw9 w9 HS9
         have HOUT : Hid ((⟨#[44]⟩ : ByteArray) ++ (⟨#[32]⟩ : ByteArray) ++ sX = strOfNums OW) := by
          have h9 : (⟨#[32]⟩ : ByteArray) = strOfNums ([32]) := rfl
          show _ = _
          rw [HPU.out.1 hpre, HPG.out, if_pos (by trivial), HNE.out, ← str_app, ← str_app, ← HSX.out, ← h9, ← HNT.out]
         have hzn : ((⟨#[44]⟩ : ByteArray) ++ (⟨#[32]⟩ : ByteArray)).size ≤ 602 := by rw [ByteArray.size_append]; omega
         have HPAR : Hid ((⟨#[40]⟩ : ByteArray) ++ ((⟨#[44]⟩ : ByteArray) ++ (⟨#[32]⟩ : ByteArray) ++ sX) ++ ⟨#[41]⟩ = strOfNums (parW OW)) := par_str _ OW HOUT.out
         have hzo : ((⟨#[44]⟩ : ByteArray) ++ (⟨#[32]⟩ : ByteArray) ++ sX).size ≤ 6900000000 := by simp only [ByteArray.size_append]; omega
         have hzp : ((⟨#[40]⟩ : ByteArray) ++ ((⟨#[44]⟩ : ByteArray) ++ (⟨#[32]⟩ : ByteArray) ++ sX)).size ≤ 6900000001 := by rw [ByteArray.size_append]; omega
         by_cases hp : pr < p1
         ·have HR : Hid (CW = parW OW) := by show _ = _; rw [HCW.out, if_pos hp]
          go_wp2_with fail
          all_goals go_ret
          all_goals exact ⟨by rw [HR.out, ← HPAR.out]; rfl, Below.on (Below.on HB2.out HB3.out) H3w6.out⟩
         ·have HR : Hid (CW = OW) := by show _ = _; rw [HCW.out, if_neg hp]
          go_wp2_with fail
          all_goals go_ret
          all_goals exact ⟨by rw [HR.out, ← HOUT.out]; rfl, Below.on (Below.on HB2.out HB3.out) H3w6.out⟩
       | false =>
         have HS9 := HSPC.out w6 H0w6.out; rw [hsp] at HS9 HPG HMG; have HSPV : Hid (spacedB on = false) := hsp; clear hsp; go_wp2_with fail; refine HS9.mono ?_; rintro e w9 ⟨rfl, hw9⟩; rw [hw9]; clear hw9 w9 HS9
         have HOUT : Hid ((⟨#[44]⟩ : ByteArray) ++ (⟨#[32]⟩ : ByteArray) ++ sX = strOfNums OW) := by
          have h9 : (⟨#[32]⟩ : ByteArray) = strOfNums ([32]) := rfl
          show _ = _
          rw [HPU.out.1 hpre, HPG.out, if_neg (by decide), if_pos HCND.out, HNE.out, ← str_app, ← str_app, ← HSX.out, ← h9, ← HNT.out]
         have hzn : ((⟨#[44]⟩ : ByteArray) ++ (⟨#[32]⟩ : ByteArray)).size ≤ 602 := by rw [ByteArray.size_append]; omega
         have HPAR : Hid ((⟨#[40]⟩ : ByteArray) ++ ((⟨#[44]⟩ : ByteArray) ++ (⟨#[32]⟩ : ByteArray) ++ sX) ++ ⟨#[41]⟩ = strOfNums (parW OW)) := par_str _ OW HOUT.out
         have hzo : ((⟨#[44]⟩ : ByteArray) ++ (⟨#[32]⟩ : ByteArray) ++ sX).size ≤ 6900000000 := by simp only [ByteArray.size_append]; omega
         have hzp : ((⟨#[40]⟩ : ByteArray) ++ ((⟨#[44]⟩ : ByteArray) ++ (⟨#[32]⟩ : ByteArray) ++ sX)).size ≤ 6900000001 := by rw [ByteArray.size_append]; omega
         by_cases hp : pr < p1
         ·have HR : Hid (CW = parW OW) := by show _ = _; rw [HCW.out, if_pos hp]
          go_wp2_with fail
          all_goals go_ret
          all_goals exact ⟨by rw [HR.out, ← HPAR.out]; rfl, Below.on (Below.on HB2.out HB3.out) H3w6.out⟩
         ·have HR : Hid (CW = OW) := by show _ = _; rw [HCW.out, if_neg hp]
          go_wp2_with fail
          all_goals go_ret
          all_goals exact ⟨by rw [HR.out, ← HOUT.out]; rfl, Below.on (Below.on HB2.out HB3.out) H3w6.out⟩
      ·have h40b : (x == 40) = false := by simpa using h40
       by_cases h45 : on = [45]
       ·exact absurd (HCM.out.symm.trans h45) (by decide)
       ·have t45 : ¬ son.toList = [45] := fun h => h45 (hl45.1 h)
        have t45b : (son.toList == [45]) = false := by simpa using t45
        have cvx := HCV.out w6 H0w6.out
        have HCND : Hid (¬ (X0 ≠ [] ∧ (X0.getD 0 0 = 40 ∨ (on = [45] ∧ digitB (X0.getD 0 0) = true)))) := fun h => h.2.elim (fun h => h40 (by rw [HXN.out.2]; exact h)) (fun h => h45 h.1)
        clear h45
        cases hsp : spacedB on with
        | true =>
          have HS9 := HSPC.out w6 H0w6.out; rw [hsp] at HS9 HPG HMG; have HSPV : Hid (spacedB on = true) := hsp; clear hsp; go_wp2_with fail; refine HS9.mono ?_; rintro e w9 ⟨rfl, hw9⟩; rw [hw9]; clear hw9 w9 HS9
          have HOUT : Hid ((⟨#[44]⟩ : ByteArray) ++ (⟨#[32]⟩ : ByteArray) ++ sX = strOfNums OW) := by
           have h9 : (⟨#[32]⟩ : ByteArray) = strOfNums ([32]) := rfl
           show _ = _
           rw [HPU.out.1 hpre, HPG.out, if_pos (by trivial), HNE.out, ← str_app, ← str_app, ← HSX.out, ← h9, ← HNT.out]
          have hzn : ((⟨#[44]⟩ : ByteArray) ++ (⟨#[32]⟩ : ByteArray)).size ≤ 602 := by rw [ByteArray.size_append]; omega
          have HPAR : Hid ((⟨#[40]⟩ : ByteArray) ++ ((⟨#[44]⟩ : ByteArray) ++ (⟨#[32]⟩ : ByteArray) ++ sX) ++ ⟨#[41]⟩ = strOfNums (parW OW)) := par_str _ OW HOUT.out
          have hzo : ((⟨#[44]⟩ : ByteArray) ++ (⟨#[32]⟩ : ByteArray) ++ sX).size ≤ 6900000000 := by simp only [ByteArray.size_append]; omega
          have hzp : ((⟨#[40]⟩ : ByteArray) ++ ((⟨#[44]⟩ : ByteArray) ++ (⟨#[32]⟩ : ByteArray) ++ sX)).size ≤ 6900000001 := by rw [ByteArray.size_append]; omega
          by_cases hp : pr < p1
          ·have HR : Hid (CW = parW OW) := by show _ = _; rw [HCW.out, if_pos hp]
           go_wp2_with fail
           all_goals go_ret
           all_goals exact ⟨by rw [HR.out, ← HPAR.out]; rfl, Below.on (Below.on HB2.out HB3.out) H3w6.out⟩
          ·have HR : Hid (CW = OW) := by show _ = _; rw [HCW.out, if_neg hp]
           go_wp2_with fail
           all_goals go_ret
           all_goals exact ⟨by rw [HR.out, ← HOUT.out]; rfl, Below.on (Below.on HB2.out HB3.out) H3w6.out⟩
        | false =>
          have HS9 := HSPC.out w6 H0w6.out; rw [hsp] at HS9 HPG HMG; have HSPV : Hid (spacedB on = false) := hsp; clear hsp; go_wp2_with fail; refine HS9.mono ?_; rintro e w9 ⟨rfl, hw9⟩; rw [hw9]; clear hw9 w9 HS9
          have HOUT : Hid ((⟨#[44]⟩ : ByteArray) ++ sG ++ sX = strOfNums OW) := by
           have h9 : sG = strOfNums (gapW [44] X0) := HEsG.out
           show _ = _
           rw [HPU.out.1 hpre, HPG.out, if_neg (by decide), if_neg HCND.out, HNE.out, ← str_app, ← str_app, ← HSX.out, ← h9, ← HNT.out]
          have hzn : ((⟨#[44]⟩ : ByteArray) ++ sG).size ≤ 602 := by rw [ByteArray.size_append]; omega
          have HPAR : Hid ((⟨#[40]⟩ : ByteArray) ++ ((⟨#[44]⟩ : ByteArray) ++ sG ++ sX) ++ ⟨#[41]⟩ = strOfNums (parW OW)) := par_str _ OW HOUT.out
          have hzo : ((⟨#[44]⟩ : ByteArray) ++ sG ++ sX).size ≤ 6900000000 := by simp only [ByteArray.size_append]; omega
          have hzp : ((⟨#[40]⟩ : ByteArray) ++ ((⟨#[44]⟩ : ByteArray) ++ sG ++ sX)).size ≤ 6900000001 := by rw [ByteArray.size_append]; omega
          by_cases hp : pr < p1
          ·have HR : Hid (CW = parW OW) := by show _ = _; rw [HCW.out, if_pos hp]
           go_wp2_with fail
           all_goals go_ret
           all_goals exact ⟨by rw [HR.out, ← HPAR.out]; rfl, Below.on (Below.on HB2.out HB3.out) H3w6.out⟩
          ·have HR : Hid (CW = OW) := by show _ = _; rw [HCW.out, if_neg hp]
           go_wp2_with fail
           all_goals go_ret
           all_goals exact ⟨by rw [HR.out, ← HOUT.out]; rfl, Below.on (Below.on HB2.out HB3.out) H3w6.out⟩
   | false =>
     have HP9 := HPRE.out w4; rw [hpre] at HP9; go_wp2_with fail; refine HP9.mono ?_; rintro e w9 ⟨rfl, hw9⟩; rw [hw9]; clear hw9 w9 HP9; obtain ⟨hai, ga, kq, kn, kc, hap, hka, htw⟩ := HKID.out 0 HC1.out w2 ap am HA2.out; subst hap; have HTW : Hid (TW W0 kq kn kc (kidW t 0)) := htw; have HKA : Hid (w2.cell? ⟨ga, 0, none⟩ = some (.slice kq kn kc)) := hka
     have HSP : Hid (∀ W, Below w4.heap.size w4 W → W.cell? ⟨ga, 0, none⟩ = some (.slice kq kn kc) ∧ W.cell? ⟨w2.heap.size, 0, none⟩ = some (.slice nq nl nc) ∧ W.cell? ⟨w2.heap.size, 1, none⟩ = some (.int .i64 p1) ∧ W.cell? ⟨w2.heap.size, 2, none⟩ = some (.int .i64 p2)) := fun W hW => by
      have h9 := Below.on HB3.out (Below.on H3w4.out hW); exact ⟨(h9.cell (World.block_lt_of_cell? _ _ HKA.out)).trans HKA.out, HBX.out W (Below.on H3w4.out hW)⟩
     have haI : (0 : Int) < (am : Int) := by omega
     have haN : 0 < am := hai; clear htw hka hai; go_wp2_with fail; refine wp_region_held_drew (S := (fun W => W.cell? ⟨ga, 0, none⟩ = some (.slice kq kn kc) ∧ W.cell? ⟨w2.heap.size, 0, none⟩ = some (.slice nq nl nc) ∧ W.cell? ⟨w2.heap.size, 1, none⟩ = some (.int .i64 p1) ∧ W.cell? ⟨w2.heap.size, 2, none⟩ = some (.int .i64 p2))) (by kernel_rfl) (HSP.out w4.drew ⟨rfl, rfl, rfl, Nat.le_refl _, fun _ _ => rfl⟩) (fun hHeld => ?_); refine hTk (i := 0) (v := .pointer (some ⟨ob, 0, none⟩)) (some 83) (fun o ho W hSw => ?z8) (hHeld) ?_
     case z8 => cases ho; simp [execOp, go_sem, Act.eval]
     simp only [Act.put, zzA, zzB, zzC]; refine hTk (i := 1) (v := .slice (some ⟨ga, 0, none⟩) am ac) (some 84) (fun o ho W hSw => ?z9) (hHeld) ?_
     case z9 => cases ho; simp [execOp, go_sem, Act.eval]
     simp only [Act.put, zzA, zzB, zzC]; refine hTk (i := 2) (v := .pointer (some ⟨ga, 0, none⟩)) (some 85) (fun o ho W hSw => ?z10) (hHeld) ?_
     case z10 => cases ho; simp [execOp, go_sem, Act.eval, haI, haN]
     simp only [Act.put, zzA, zzB, zzC]; refine hTk (i := 3) (v := .slice kq kn kc) (some 86) (fun o ho W hSw => ?z11) (hHeld) ?_
     case z11 => cases ho; obtain ⟨s0, s1, s2, s3⟩ := hSw; simp [execOp, go_sem, Act.eval, s0]
     simp only [Act.put, zzA, zzB, zzC]; refine hTk (i := 4) (v := .agg #[.slice nq nl nc, .int .i64 p1, .int .i64 p2]) (some 87) (fun o ho W hSw => ?z12) (hHeld) ?_
     case z12 => cases ho; obtain ⟨s0, s1, s2, s3⟩ := hSw; simp [execOp, go_sem, Act.eval, s1, s2, s3]
     simp only [Act.put, zzA, zzB, zzC]; refine hTk (i := 6) (v := .agg #[.slice nq nl nc, .int .i64 p1, .int .i64 p2]) (some 89) (fun o ho W hSw => ?z13) (hHeld) ?_
     case z13 => cases ho; obtain ⟨s0, s1, s2, s3⟩ := hSw; simp [execOp, go_sem, Act.eval, s1, s2, s3]
     simp only [Act.put, zzA, zzB, zzC]; refine hCallE (i := 5) (f := 104) (args := #[.agg #[.slice nq nl nc, .int .i64 p1, .int .i64 p2]]) (some 88) (by kernel_rfl) (by kernel_rfl) (by kernel_rfl) (fun o ho => ?yc5) (HLF.out _) (fun u w5 hu => ?_) (fun ch w' h => by cases h.1) (fun w' h => by cases h.1)
     case yc5 => cases ho; simp [execOp, go_sem, Act.eval]
     obtain ⟨hu, hb5⟩ := hu
     cases hu
     have H4w5 : Hid (Below w4.heap.size w4 w5) := Below.on (⟨rfl, rfl, rfl, Nat.le_refl _, fun _ _ => rfl⟩ : Below w4.heap.size w4 w4.drew) hb5; have hHeld := HSP.out w5 H4w5.out; refine ⟨hHeld, ?_⟩; clear hb5; simp only [Act.put, zzA, zzB, zzC]; refine hCallE (i := 7) (f := 100) (args := #[.pointer (some ⟨ob, 0, none⟩), .slice kq kn kc, .int .i64 lp, .bool true, .agg #[.slice nq nl nc, .int .i64 p1, .int .i64 p2]]) (some 90) (by kernel_rfl) (by kernel_rfl) (by kernel_rfl) (fun o ho => ?yc7) (HOYs.out kq kn kc w5 HTW.out (Below.on (Below.on (Below.on HW0.out HB2.out) HB3.out) (Below.on H3w4.out H4w5.out))) (fun u w6 hu => ?_) (fun ch w' h => by cases h.1) (fun w' h => by cases h.1)
     case yc7 => cases ho; simp [execOp, go_sem, Act.eval]
     obtain ⟨hu, hb6⟩ := hu
     cases hu
     have H4w6 : Hid (Below w4.heap.size w4 w6) := Below.on H4w5.out hb6; have H3w6 : Hid (Below w3.heap.size w3 w6) := Below.on H3w4.out H4w6.out; have hHeld := HSP.out w6 H4w6.out; refine ⟨hHeld, ?_⟩; clear hb6; simp only [Act.put, zzA, zzB, zzC]; refine hTk (i := 8) (v := .string sY) (some 14) (fun o ho W hSw => ?z14) (hHeld) ?_
     case z14 => cases ho; simp [execOp, go_sem, Act.eval]
     simp only [Act.put, zzA, zzB, zzC]; refine wpAnyH_done (by kernel_rfl) ?_ _; obtain ⟨b0, b1, b2⟩ := HBX.out w6 H3w6.out; have H0w6 : Hid (Below W0.heap.size W0 w6) := Below.on (Below.on (Below.on HW0.out HB2.out) HB3.out) H3w6.out
     obtain ⟨sG, esG⟩ : ∃ s, s = strOfNums (gapW Y0 [44]) := ⟨_, rfl⟩
     have HGPsG : Hid (∀ W, Calls Tryz.prog 102 #[.string sY, .string (⟨#[44]⟩ : ByteArray)] W fun e w' => e = .returned (.string sG) ∧ w' = W) := fun W => by
      have h9 := gap_any Y0 [44] HX0.out.2.1.1 HNB.out.1 (by have := HX0.out.2.1.2; omega) (by have := HNB.out.2; omega) W; rw [HSY.out, HNT.out, esG]; exact h9
     have hzsG : sG.size ≤ 1 := by rw [esG, strOfNums_size]; exact (gap_good _ _).2
     have HEsG : Hid (sG = strOfNums (gapW Y0 [44])) := esG; clear esG; go_wp2_with fail; refine (HGPsG.out _).mono ?_; rintro e w9 ⟨rfl, hw9⟩; rw [hw9]; clear hw9 w9
     cases hsp : spacedB on with
     | true =>
       have HS9 := HSPC.out w6 H0w6.out; rw [hsp] at HS9 HPG HMG; have HSPV : Hid (spacedB on = true) := hsp; clear hsp; go_wp2_with fail; refine HS9.mono ?_; rintro e w9 ⟨rfl, hw9⟩; rw [hw9]; clear hw9 w9 HS9
       have HG9 : Hid ((⟨#[32]⟩ : ByteArray) = strOfNums (midGap op Y0 NW)) := by show _ = _; rw [HMG.out, HNE.out, if_pos (by trivial)]; rfl
       have HO1 : Hid (sY ++ (⟨#[32]⟩ : ByteArray) ++ (⟨#[44]⟩ : ByteArray) = strOfNums (Y0 ++ midGap op Y0 NW ++ NW)) := by show _ = _; rw [← str_app, ← str_app, ← HSY.out, ← HG9.out, HNE.out, ← HNT.out]
       have hz1 : (sY ++ (⟨#[32]⟩ : ByteArray)).size ≤ 2300000001 := by rw [ByteArray.size_append]; omega
       have hz2 : (sY ++ (⟨#[32]⟩ : ByteArray) ++ (⟨#[44]⟩ : ByteArray)).size ≤ 2300000700 := by rw [ByteArray.size_append]; omega
       cases hinf : infB p2 with
       | false =>
         have HI9 := HINF.out w6; rw [hinf] at HI9; go_wp2_with fail
         all_goals refine HI9.mono ?_
         all_goals rintro e w9 ⟨rfl, hw9⟩
         all_goals rw [hw9]
         all_goals clear hw9 w9 HI9
         have HOUT : Hid (sY ++ (⟨#[32]⟩ : ByteArray) ++ (⟨#[44]⟩ : ByteArray) = strOfNums OW) := by show _ = _; rw [HPU.out.2.1 hpre hinf]; exact HO1.out
         have HPAR : Hid ((⟨#[40]⟩ : ByteArray) ++ (sY ++ (⟨#[32]⟩ : ByteArray) ++ (⟨#[44]⟩ : ByteArray)) ++ ⟨#[41]⟩ = strOfNums (parW OW)) := par_str _ OW HOUT.out
         have hzo : (sY ++ (⟨#[32]⟩ : ByteArray) ++ (⟨#[44]⟩ : ByteArray)).size ≤ 6900000000 := by simp only [ByteArray.size_append]; omega
         have hzp : ((⟨#[40]⟩ : ByteArray) ++ (sY ++ (⟨#[32]⟩ : ByteArray) ++ (⟨#[44]⟩ : ByteArray))).size ≤ 6900000001 := by rw [ByteArray.size_append]; omega
         by_cases hp : pr < p1
         ·have HR : Hid (CW = parW OW) := by show _ = _; rw [HCW.out, if_pos hp]
          go_wp2_with fail
          all_goals go_ret
          all_goals exact ⟨by rw [HR.out, ← HPAR.out]; rfl, Below.on (Below.on HB2.out HB3.out) H3w6.out⟩
         ·have HR : Hid (CW = OW) := by show _ = _; rw [HCW.out, if_neg hp]
          go_wp2_with fail
          all_goals go_ret
          all_goals exact ⟨by rw [HR.out, ← HOUT.out]; rfl, Below.on (Below.on HB2.out HB3.out) H3w6.out⟩
       | true =>
         have HI9 := HINF.out w6; rw [hinf] at HI9; go_wp2_with fail
         all_goals refine HI9.mono ?_
         all_goals rintro e w9 ⟨rfl, hw9⟩
         all_goals rw [hw9]
         all_goals clear hw9 w9 HI9
         have HCC : Hid (t.2.count = 2) := HC2.out hpre hinf; have HXX := HX0.out.2.2 (by rw [HCC.out]; decide); have HZB : Hid (Byte X1 ∧ X1.length ≤ 2300000000) := HXX; clear HXX
         obtain ⟨sZ, esZ⟩ : ∃ s, s = strOfNums X1 := ⟨_, rfl⟩
         have HSZ : Hid (sZ = strOfNums X1) := esZ
         have hzZ : sZ.size ≤ 2300000000 := by rw [esZ, strOfNums_size]; exact HZB.out.2
         have HOZs : Hid (∀ kq kn kc W, TW W0 kq kn kc (kidW t 1) → Below W0.heap.size W0 W → Calls Tryz.prog 100 #[.pointer (some ⟨ob, 0, none⟩), .slice kq kn kc, .int .i64 rp, .bool false, .agg #[.slice nq nl nc, .int .i64 p1, .int .i64 p2]] W fun e w' => e = .returned (.string sZ) ∧ Below W.heap.size W w') := fun kq kn kc W h1 h2 => by rw [esZ]; exact HOX1.out (by rw [HCC.out]; decide) kq kn kc W h1 h2
         clear esZ; clear HTW HKA HSP haI haN hHeld; obtain ⟨hai, ga2, kq, kn, kc, hap, hka, htw⟩ := HKID.out 1 (by rw [HCC.out]; decide) w2 (some ⟨ga, 0, none⟩) am HA2.out
         have hga : ga = ga2 := by injection hap with h1; injection h1
         subst hga; clear hap b0 b1 b2; have HTW : Hid (TW W0 kq kn kc (kidW t 1)) := htw; have HKA : Hid (w2.cell? ⟨ga, 1, none⟩ = some (.slice kq kn kc)) := hka
         have HSP : Hid (∀ W, Below w6.heap.size w6 W → W.cell? ⟨ga, 1, none⟩ = some (.slice kq kn kc) ∧ W.cell? ⟨w2.heap.size, 0, none⟩ = some (.slice nq nl nc) ∧ W.cell? ⟨w2.heap.size, 1, none⟩ = some (.int .i64 p1) ∧ W.cell? ⟨w2.heap.size, 2, none⟩ = some (.int .i64 p2)) := fun W hW => by
          have h9 := Below.on HB3.out (Below.on H3w6.out hW); exact ⟨(h9.cell (World.block_lt_of_cell? _ _ HKA.out)).trans HKA.out, HBX.out W (Below.on H3w6.out hW)⟩
         have haI : (1 : Int) < (am : Int) := by omega
         have haN : 1 < am := hai; clear htw hka hai; go_wp2_with fail; refine wp_region_held_drew (S := (fun W => W.cell? ⟨ga, 1, none⟩ = some (.slice kq kn kc) ∧ W.cell? ⟨w2.heap.size, 0, none⟩ = some (.slice nq nl nc) ∧ W.cell? ⟨w2.heap.size, 1, none⟩ = some (.int .i64 p1) ∧ W.cell? ⟨w2.heap.size, 2, none⟩ = some (.int .i64 p2))) (by kernel_rfl) (HSP.out w6.drew ⟨rfl, rfl, rfl, Nat.le_refl _, fun _ _ => rfl⟩) (fun hHeld => ?_); refine hTk (i := 0) (v := .pointer (some ⟨ob, 0, none⟩)) (some 105) (fun o ho W hSw => ?z15) (hHeld) ?_
         case z15 => cases ho; simp [execOp, go_sem, Act.eval]
         simp only [Act.put, zzA, zzB, zzC]; refine hTk (i := 1) (v := .slice (some ⟨ga, 0, none⟩) am ac) (some 106) (fun o ho W hSw => ?z16) (hHeld) ?_
         case z16 => cases ho; simp [execOp, go_sem, Act.eval]
         simp only [Act.put, zzA, zzB, zzC]; refine hTk (i := 2) (v := .pointer (some ⟨ga, 1, none⟩)) (some 107) (fun o ho W hSw => ?z17) (hHeld) ?_
         case z17 => cases ho; simp [execOp, go_sem, Act.eval, haI, haN]
         simp only [Act.put, zzA, zzB, zzC]; refine hTk (i := 3) (v := .slice kq kn kc) (some 108) (fun o ho W hSw => ?z18) (hHeld) ?_
         case z18 => cases ho; obtain ⟨s0, s1, s2, s3⟩ := hSw; simp [execOp, go_sem, Act.eval, s0]
         simp only [Act.put, zzA, zzB, zzC]; refine hTk (i := 4) (v := .agg #[.slice nq nl nc, .int .i64 p1, .int .i64 p2]) (some 109) (fun o ho W hSw => ?z19) (hHeld) ?_
         case z19 => cases ho; obtain ⟨s0, s1, s2, s3⟩ := hSw; simp [execOp, go_sem, Act.eval, s1, s2, s3]
         simp only [Act.put, zzA, zzB, zzC]; refine hTk (i := 6) (v := .agg #[.slice nq nl nc, .int .i64 p1, .int .i64 p2]) (some 111) (fun o ho W hSw => ?z20) (hHeld) ?_
         case z20 => cases ho; obtain ⟨s0, s1, s2, s3⟩ := hSw; simp [execOp, go_sem, Act.eval, s1, s2, s3]
         simp only [Act.put, zzA, zzB, zzC]; refine hCallE (i := 5) (f := 101) (args := #[.agg #[.slice nq nl nc, .int .i64 p1, .int .i64 p2]]) (some 110) (by kernel_rfl) (by kernel_rfl) (by kernel_rfl) (fun o ho => ?yc5) (HRG.out _) (fun u w7 hu => ?_) (fun ch w' h => by cases h.1) (fun w' h => by cases h.1)
         case yc5 => cases ho; simp [execOp, go_sem, Act.eval]
         obtain ⟨hu, hb5⟩ := hu
         cases hu
         have H4w7 : Hid (Below w6.heap.size w6 w7) := Below.on (⟨rfl, rfl, rfl, Nat.le_refl _, fun _ _ => rfl⟩ : Below w6.heap.size w6 w6.drew) hb5; have hHeld := HSP.out w7 H4w7.out; refine ⟨hHeld, ?_⟩; clear hb5; simp only [Act.put, zzA, zzB, zzC]; refine hCallE (i := 7) (f := 100) (args := #[.pointer (some ⟨ob, 0, none⟩), .slice kq kn kc, .int .i64 rp, .bool false, .agg #[.slice nq nl nc, .int .i64 p1, .int .i64 p2]]) (some 112) (by kernel_rfl) (by kernel_rfl) (by kernel_rfl) (fun o ho => ?yc7) (HOZs.out kq kn kc w7 HTW.out (Below.on (Below.on (Below.on HW0.out HB2.out) HB3.out) (Below.on H3w6.out H4w7.out))) (fun u w8 hu => ?_) (fun ch w' h => by cases h.1) (fun w' h => by cases h.1)
         case yc7 => cases ho; simp [execOp, go_sem, Act.eval]
         obtain ⟨hu, hb6⟩ := hu
         cases hu
         have H4w8 : Hid (Below w6.heap.size w6 w8) := Below.on H4w7.out hb6; have H3w8 : Hid (Below w3.heap.size w3 w8) := Below.on H3w6.out H4w8.out; have hHeld := HSP.out w8 H4w8.out; refine ⟨hHeld, ?_⟩; clear hb6; simp only [Act.put, zzA, zzB, zzC]; refine hTk (i := 8) (v := .string sZ) (some 16) (fun o ho W hSw => ?z21) (hHeld) ?_
         case z21 => cases ho; simp [execOp, go_sem, Act.eval]
         simp only [Act.put, zzA, zzB, zzC]; refine wpAnyH_done (by kernel_rfl) ?_ _; obtain ⟨b0, b1, b2⟩ := HBX.out w8 H3w8.out; have H0w8 : Hid (Below W0.heap.size W0 w8) := Below.on (Below.on (Below.on HW0.out HB2.out) HB3.out) H3w8.out
         obtain ⟨sH, esH⟩ : ∃ s, s = strOfNums (gapW [44] X1) := ⟨_, rfl⟩
         have HGPsH : Hid (∀ W, Calls Tryz.prog 102 #[.string (⟨#[44]⟩ : ByteArray), .string sZ] W fun e w' => e = .returned (.string sH) ∧ w' = W) := fun W => by
          have h9 := gap_any [44] X1 HNB.out.1 HZB.out.1 (by have := HNB.out.2; omega) (by have := HZB.out.2; omega) W; rw [HNT.out, HSZ.out, esH]; exact h9
         have hzsH : sH.size ≤ 1 := by rw [esH, strOfNums_size]; exact (gap_good _ _).2
         have HEsH : Hid (sH = strOfNums (gapW [44] X1)) := esH; clear esH; go_wp2_with fail; refine (HGPsH.out _).mono ?_; rintro e w9 ⟨rfl, hw9⟩; rw [hw9]; clear hw9 w9; have HS9 := HSPC.out w8 H0w8.out; rw [HSPV.out] at HS9; go_wp2_with fail; refine HS9.mono ?_; rintro e w9 ⟨rfl, hw9⟩; rw [hw9]; clear hw9 w9 HS9
         have HG8 : Hid ((⟨#[32]⟩ : ByteArray) = strOfNums (midGap op NW X1)) := by show _ = _; rw [HMG.out, HNE.out, if_pos (by trivial)]; rfl
         have HOUT : Hid (sY ++ (⟨#[32]⟩ : ByteArray) ++ (⟨#[44]⟩ : ByteArray) ++ ((⟨#[32]⟩ : ByteArray) ++ sZ) = strOfNums OW) := by show _ = _; rw [HPU.out.2.2 hpre hinf, ← str_app, ← str_app (midGap op NW X1), ← HO1.out, ← HG8.out, ← HSZ.out]
         have hz3 : ((⟨#[32]⟩ : ByteArray) ++ sZ).size ≤ 2300000001 := by rw [ByteArray.size_append]; omega
         have HPAR : Hid ((⟨#[40]⟩ : ByteArray) ++ (sY ++ (⟨#[32]⟩ : ByteArray) ++ (⟨#[44]⟩ : ByteArray) ++ ((⟨#[32]⟩ : ByteArray) ++ sZ)) ++ ⟨#[41]⟩ = strOfNums (parW OW)) := par_str _ OW HOUT.out
         have hzo : (sY ++ (⟨#[32]⟩ : ByteArray) ++ (⟨#[44]⟩ : ByteArray) ++ ((⟨#[32]⟩ : ByteArray) ++ sZ)).size ≤ 6900000000 := by simp only [ByteArray.size_append]; omega
         have hzp : ((⟨#[40]⟩ : ByteArray) ++ (sY ++ (⟨#[32]⟩ : ByteArray) ++ (⟨#[44]⟩ : ByteArray) ++ ((⟨#[32]⟩ : ByteArray) ++ sZ))).size ≤ 6900000001 := by rw [ByteArray.size_append]; omega
         by_cases hp : pr < p1
         ·have HR : Hid (CW = parW OW) := by show _ = _; rw [HCW.out, if_pos hp]
          go_wp2_with fail
          all_goals go_ret
          all_goals exact ⟨by rw [HR.out, ← HPAR.out]; rfl, Below.on (Below.on HB2.out HB3.out) H3w8.out⟩
         ·have HR : Hid (CW = OW) := by show _ = _; rw [HCW.out, if_neg hp]
          go_wp2_with fail
          all_goals go_ret
          all_goals exact ⟨by rw [HR.out, ← HOUT.out]; rfl, Below.on (Below.on HB2.out HB3.out) H3w8.out⟩
     | false =>
       have HS9 := HSPC.out w6 H0w6.out; rw [hsp] at HS9 HPG HMG; have HSPV : Hid (spacedB on = false) := hsp; clear hsp; go_wp2_with fail; refine HS9.mono ?_; rintro e w9 ⟨rfl, hw9⟩; rw [hw9]; clear hw9 w9 HS9
       have HG9 : Hid (sG = strOfNums (midGap op Y0 NW)) := by show _ = _; rw [HMG.out, HNE.out, if_neg (by decide)]; exact HEsG.out
       have HO1 : Hid (sY ++ sG ++ (⟨#[44]⟩ : ByteArray) = strOfNums (Y0 ++ midGap op Y0 NW ++ NW)) := by show _ = _; rw [← str_app, ← str_app, ← HSY.out, ← HG9.out, HNE.out, ← HNT.out]
       have hz1 : (sY ++ sG).size ≤ 2300000001 := by rw [ByteArray.size_append]; omega
       have hz2 : (sY ++ sG ++ (⟨#[44]⟩ : ByteArray)).size ≤ 2300000700 := by rw [ByteArray.size_append]; omega
       cases hinf : infB p2 with
       | false =>
         have HI9 := HINF.out w6; rw [hinf] at HI9; go_wp2_with fail
         all_goals refine HI9.mono ?_
         all_goals rintro e w9 ⟨rfl, hw9⟩
         all_goals rw [hw9]
         all_goals clear hw9 w9 HI9
         have HOUT : Hid (sY ++ sG ++ (⟨#[44]⟩ : ByteArray) = strOfNums OW) := by show _ = _; rw [HPU.out.2.1 hpre hinf]; exact HO1.out
         have HPAR : Hid ((⟨#[40]⟩ : ByteArray) ++ (sY ++ sG ++ (⟨#[44]⟩ : ByteArray)) ++ ⟨#[41]⟩ = strOfNums (parW OW)) := par_str _ OW HOUT.out
         have hzo : (sY ++ sG ++ (⟨#[44]⟩ : ByteArray)).size ≤ 6900000000 := by simp only [ByteArray.size_append]; omega
         have hzp : ((⟨#[40]⟩ : ByteArray) ++ (sY ++ sG ++ (⟨#[44]⟩ : ByteArray))).size ≤ 6900000001 := by rw [ByteArray.size_append]; omega
         by_cases hp : pr < p1
         ·have HR : Hid (CW = parW OW) := by show _ = _; rw [HCW.out, if_pos hp]
          go_wp2_with fail
          all_goals go_ret
          all_goals exact ⟨by rw [HR.out, ← HPAR.out]; rfl, Below.on (Below.on HB2.out HB3.out) H3w6.out⟩
         ·have HR : Hid (CW = OW) := by show _ = _; rw [HCW.out, if_neg hp]
          go_wp2_with fail
          all_goals go_ret
          all_goals exact ⟨by rw [HR.out, ← HOUT.out]; rfl, Below.on (Below.on HB2.out HB3.out) H3w6.out⟩
       | true =>
         have HI9 := HINF.out w6; rw [hinf] at HI9; go_wp2_with fail
         all_goals refine HI9.mono ?_
         all_goals rintro e w9 ⟨rfl, hw9⟩
         all_goals rw [hw9]
         all_goals clear hw9 w9 HI9
         have HCC : Hid (t.2.count = 2) := HC2.out hpre hinf; have HXX := HX0.out.2.2 (by rw [HCC.out]; decide); have HZB : Hid (Byte X1 ∧ X1.length ≤ 2300000000) := HXX; clear HXX
         obtain ⟨sZ, esZ⟩ : ∃ s, s = strOfNums X1 := ⟨_, rfl⟩
         have HSZ : Hid (sZ = strOfNums X1) := esZ
         have hzZ : sZ.size ≤ 2300000000 := by rw [esZ, strOfNums_size]; exact HZB.out.2
         have HOZs : Hid (∀ kq kn kc W, TW W0 kq kn kc (kidW t 1) → Below W0.heap.size W0 W → Calls Tryz.prog 100 #[.pointer (some ⟨ob, 0, none⟩), .slice kq kn kc, .int .i64 rp, .bool false, .agg #[.slice nq nl nc, .int .i64 p1, .int .i64 p2]] W fun e w' => e = .returned (.string sZ) ∧ Below W.heap.size W w') := fun kq kn kc W h1 h2 => by rw [esZ]; exact HOX1.out (by rw [HCC.out]; decide) kq kn kc W h1 h2
         clear esZ; clear HTW HKA HSP haI haN hHeld; obtain ⟨hai, ga2, kq, kn, kc, hap, hka, htw⟩ := HKID.out 1 (by rw [HCC.out]; decide) w2 (some ⟨ga, 0, none⟩) am HA2.out
         have hga : ga = ga2 := by injection hap with h1; injection h1
         subst hga; clear hap b0 b1 b2; have HTW : Hid (TW W0 kq kn kc (kidW t 1)) := htw; have HKA : Hid (w2.cell? ⟨ga, 1, none⟩ = some (.slice kq kn kc)) := hka
         have HSP : Hid (∀ W, Below w6.heap.size w6 W → W.cell? ⟨ga, 1, none⟩ = some (.slice kq kn kc) ∧ W.cell? ⟨w2.heap.size, 0, none⟩ = some (.slice nq nl nc) ∧ W.cell? ⟨w2.heap.size, 1, none⟩ = some (.int .i64 p1) ∧ W.cell? ⟨w2.heap.size, 2, none⟩ = some (.int .i64 p2)) := fun W hW => by
          have h9 := Below.on HB3.out (Below.on H3w6.out hW); exact ⟨(h9.cell (World.block_lt_of_cell? _ _ HKA.out)).trans HKA.out, HBX.out W (Below.on H3w6.out hW)⟩
         have haI : (1 : Int) < (am : Int) := by omega
         have haN : 1 < am := hai; clear htw hka hai; go_wp2_with fail; refine wp_region_held_drew (S := (fun W => W.cell? ⟨ga, 1, none⟩ = some (.slice kq kn kc) ∧ W.cell? ⟨w2.heap.size, 0, none⟩ = some (.slice nq nl nc) ∧ W.cell? ⟨w2.heap.size, 1, none⟩ = some (.int .i64 p1) ∧ W.cell? ⟨w2.heap.size, 2, none⟩ = some (.int .i64 p2))) (by kernel_rfl) (HSP.out w6.drew ⟨rfl, rfl, rfl, Nat.le_refl _, fun _ _ => rfl⟩) (fun hHeld => ?_); refine hTk (i := 0) (v := .pointer (some ⟨ob, 0, none⟩)) (some 105) (fun o ho W hSw => ?z22) (hHeld) ?_
         case z22 => cases ho; simp [execOp, go_sem, Act.eval]
         simp only [Act.put, zzA, zzB, zzC]; refine hTk (i := 1) (v := .slice (some ⟨ga, 0, none⟩) am ac) (some 106) (fun o ho W hSw => ?z23) (hHeld) ?_
         case z23 => cases ho; simp [execOp, go_sem, Act.eval]
         simp only [Act.put, zzA, zzB, zzC]; refine hTk (i := 2) (v := .pointer (some ⟨ga, 1, none⟩)) (some 107) (fun o ho W hSw => ?z24) (hHeld) ?_
         case z24 => cases ho; simp [execOp, go_sem, Act.eval, haI, haN]
         simp only [Act.put, zzA, zzB, zzC]; refine hTk (i := 3) (v := .slice kq kn kc) (some 108) (fun o ho W hSw => ?z25) (hHeld) ?_
         case z25 => cases ho; obtain ⟨s0, s1, s2, s3⟩ := hSw; simp [execOp, go_sem, Act.eval, s0]
         simp only [Act.put, zzA, zzB, zzC]; refine hTk (i := 4) (v := .agg #[.slice nq nl nc, .int .i64 p1, .int .i64 p2]) (some 109) (fun o ho W hSw => ?z26) (hHeld) ?_
         case z26 => cases ho; obtain ⟨s0, s1, s2, s3⟩ := hSw; simp [execOp, go_sem, Act.eval, s1, s2, s3]
         simp only [Act.put, zzA, zzB, zzC]; refine hTk (i := 6) (v := .agg #[.slice nq nl nc, .int .i64 p1, .int .i64 p2]) (some 111) (fun o ho W hSw => ?z27) (hHeld) ?_
         case z27 => cases ho; obtain ⟨s0, s1, s2, s3⟩ := hSw; simp [execOp, go_sem, Act.eval, s1, s2, s3]
         simp only [Act.put, zzA, zzB, zzC]; refine hCallE (i := 5) (f := 101) (args := #[.agg #[.slice nq nl nc, .int .i64 p1, .int .i64 p2]]) (some 110) (by kernel_rfl) (by kernel_rfl) (by kernel_rfl) (fun o ho => ?yc5) (HRG.out _) (fun u w7 hu => ?_) (fun ch w' h => by cases h.1) (fun w' h => by cases h.1)
         case yc5 => cases ho; simp [execOp, go_sem, Act.eval]
         obtain ⟨hu, hb5⟩ := hu
         cases hu
         have H4w7 : Hid (Below w6.heap.size w6 w7) := Below.on (⟨rfl, rfl, rfl, Nat.le_refl _, fun _ _ => rfl⟩ : Below w6.heap.size w6 w6.drew) hb5; have hHeld := HSP.out w7 H4w7.out; refine ⟨hHeld, ?_⟩; clear hb5; simp only [Act.put, zzA, zzB, zzC]; refine hCallE (i := 7) (f := 100) (args := #[.pointer (some ⟨ob, 0, none⟩), .slice kq kn kc, .int .i64 rp, .bool false, .agg #[.slice nq nl nc, .int .i64 p1, .int .i64 p2]]) (some 112) (by kernel_rfl) (by kernel_rfl) (by kernel_rfl) (fun o ho => ?yc7) (HOZs.out kq kn kc w7 HTW.out (Below.on (Below.on (Below.on HW0.out HB2.out) HB3.out) (Below.on H3w6.out H4w7.out))) (fun u w8 hu => ?_) (fun ch w' h => by cases h.1) (fun w' h => by cases h.1)
         case yc7 => cases ho; simp [execOp, go_sem, Act.eval]
         obtain ⟨hu, hb6⟩ := hu
         cases hu
         have H4w8 : Hid (Below w6.heap.size w6 w8) := Below.on H4w7.out hb6; have H3w8 : Hid (Below w3.heap.size w3 w8) := Below.on H3w6.out H4w8.out; have hHeld := HSP.out w8 H4w8.out; refine ⟨hHeld, ?_⟩; clear hb6; simp only [Act.put, zzA, zzB, zzC]; refine hTk (i := 8) (v := .string sZ) (some 16) (fun o ho W hSw => ?z28) (hHeld) ?_
         case z28 => cases ho; simp [execOp, go_sem, Act.eval]
         simp only [Act.put, zzA, zzB, zzC]; refine wpAnyH_done (by kernel_rfl) ?_ _; obtain ⟨b0, b1, b2⟩ := HBX.out w8 H3w8.out; have H0w8 : Hid (Below W0.heap.size W0 w8) := Below.on (Below.on (Below.on HW0.out HB2.out) HB3.out) H3w8.out
         obtain ⟨sH, esH⟩ : ∃ s, s = strOfNums (gapW [44] X1) := ⟨_, rfl⟩
         have HGPsH : Hid (∀ W, Calls Tryz.prog 102 #[.string (⟨#[44]⟩ : ByteArray), .string sZ] W fun e w' => e = .returned (.string sH) ∧ w' = W) := fun W => by
          have h9 := gap_any [44] X1 HNB.out.1 HZB.out.1 (by have := HNB.out.2; omega) (by have := HZB.out.2; omega) W; rw [HNT.out, HSZ.out, esH]; exact h9
         have hzsH : sH.size ≤ 1 := by rw [esH, strOfNums_size]; exact (gap_good _ _).2
         have HEsH : Hid (sH = strOfNums (gapW [44] X1)) := esH; clear esH; go_wp2_with fail; refine (HGPsH.out _).mono ?_; rintro e w9 ⟨rfl, hw9⟩; rw [hw9]; clear hw9 w9; have HS9 := HSPC.out w8 H0w8.out; rw [HSPV.out] at HS9; go_wp2_with fail; refine HS9.mono ?_; rintro e w9 ⟨rfl, hw9⟩; rw [hw9]; clear hw9 w9 HS9
         have HG8 : Hid (sH = strOfNums (midGap op NW X1)) := by show _ = _; rw [HMG.out, HNE.out, if_neg (by decide)]; exact HEsH.out
         have HOUT : Hid (sY ++ sG ++ (⟨#[44]⟩ : ByteArray) ++ (sH ++ sZ) = strOfNums OW) := by show _ = _; rw [HPU.out.2.2 hpre hinf, ← str_app, ← str_app (midGap op NW X1), ← HO1.out, ← HG8.out, ← HSZ.out]
         have hz3 : (sH ++ sZ).size ≤ 2300000001 := by rw [ByteArray.size_append]; omega
         have HPAR : Hid ((⟨#[40]⟩ : ByteArray) ++ (sY ++ sG ++ (⟨#[44]⟩ : ByteArray) ++ (sH ++ sZ)) ++ ⟨#[41]⟩ = strOfNums (parW OW)) := par_str _ OW HOUT.out
         have hzo : (sY ++ sG ++ (⟨#[44]⟩ : ByteArray) ++ (sH ++ sZ)).size ≤ 6900000000 := by simp only [ByteArray.size_append]; omega
         have hzp : ((⟨#[40]⟩ : ByteArray) ++ (sY ++ sG ++ (⟨#[44]⟩ : ByteArray) ++ (sH ++ sZ))).size ≤ 6900000001 := by rw [ByteArray.size_append]; omega
         by_cases hp : pr < p1
         ·have HR : Hid (CW = parW OW) := by show _ = _; rw [HCW.out, if_pos hp]
          go_wp2_with fail
          all_goals go_ret
          all_goals exact ⟨by rw [HR.out, ← HPAR.out]; rfl, Below.on (Below.on HB2.out HB3.out) H3w8.out⟩
         ·have HR : Hid (CW = OW) := by show _ = _; rw [HCW.out, if_neg hp]
          go_wp2_with fail
          all_goals go_ret
          all_goals exact ⟨by rw [HR.out, ← HOUT.out]; rfl, Below.on (Below.on HB2.out HB3.out) H3w8.out⟩
  ·have HNE : Hid (NW = atomW q on) := by show _ = _; rw [HNW.out, if_neg hcm]
   have t44 : ¬ son.toList = [44] := fun h => hcm (hl44.1 h)
   have t44b : (son.toList == [44]) = false := by simpa using t44
   have HNT : Hid (sA = strOfNums (atomW q on)) := HSA
   have HNB : Hid (Byte (atomW q on) ∧ (atomW q on).length ≤ 601) := by rw [← HNE.out]; exact HNG.out
   have hnz : sA.size ≤ 601 := by rw [HSA.out, strOfNums_size]; exact HNB.out.2
   rw [HNE.out] at HPG; clear hcm
   cases hpre : preB p2 with
   | true =>
     have HP9 := HPRE.out w4; rw [hpre] at HP9; go_wp2_with fail; refine HP9.mono ?_; rintro e w9 ⟨rfl, hw9⟩; rw [hw9]; clear hw9 w9 HP9; obtain ⟨hai, ga, kq, kn, kc, hap, hka, htw⟩ := HKID.out 0 HC1.out w2 ap am HA2.out; subst hap; have HTW : Hid (TW W0 kq kn kc (kidW t 0)) := htw; have HKA : Hid (w2.cell? ⟨ga, 0, none⟩ = some (.slice kq kn kc)) := hka
     have HSP : Hid (∀ W, Below w4.heap.size w4 W → W.cell? ⟨ga, 0, none⟩ = some (.slice kq kn kc) ∧ W.cell? ⟨w2.heap.size, 0, none⟩ = some (.slice nq nl nc) ∧ W.cell? ⟨w2.heap.size, 1, none⟩ = some (.int .i64 p1) ∧ W.cell? ⟨w2.heap.size, 2, none⟩ = some (.int .i64 p2)) := fun W hW => by
      have h9 := Below.on HB3.out (Below.on H3w4.out hW); exact ⟨(h9.cell (World.block_lt_of_cell? _ _ HKA.out)).trans HKA.out, HBX.out W (Below.on H3w4.out hW)⟩
     have haI : (0 : Int) < (am : Int) := by omega
     have haN : 0 < am := hai; clear htw hka hai; go_wp2_with fail; refine wp_region_held_drew (S := (fun W => W.cell? ⟨ga, 0, none⟩ = some (.slice kq kn kc) ∧ W.cell? ⟨w2.heap.size, 0, none⟩ = some (.slice nq nl nc) ∧ W.cell? ⟨w2.heap.size, 1, none⟩ = some (.int .i64 p1) ∧ W.cell? ⟨w2.heap.size, 2, none⟩ = some (.int .i64 p2))) (by kernel_rfl) (HSP.out w4.drew ⟨rfl, rfl, rfl, Nat.le_refl _, fun _ _ => rfl⟩) (fun hHeld => ?_); refine hTk (i := 0) (v := .pointer (some ⟨ob, 0, none⟩)) (some 46) (fun o ho W hSw => ?z29) (hHeld) ?_
     case z29 => cases ho; simp [execOp, go_sem, Act.eval]
     simp only [Act.put, zzA, zzB, zzC]; refine hTk (i := 1) (v := .slice (some ⟨ga, 0, none⟩) am ac) (some 47) (fun o ho W hSw => ?z30) (hHeld) ?_
     case z30 => cases ho; simp [execOp, go_sem, Act.eval]
     simp only [Act.put, zzA, zzB, zzC]; refine hTk (i := 2) (v := .pointer (some ⟨ga, 0, none⟩)) (some 48) (fun o ho W hSw => ?z31) (hHeld) ?_
     case z31 => cases ho; simp [execOp, go_sem, Act.eval, haI, haN]
     simp only [Act.put, zzA, zzB, zzC]; refine hTk (i := 3) (v := .slice kq kn kc) (some 49) (fun o ho W hSw => ?z32) (hHeld) ?_
     case z32 => cases ho; obtain ⟨s0, s1, s2, s3⟩ := hSw; simp [execOp, go_sem, Act.eval, s0]
     simp only [Act.put, zzA, zzB, zzC]; refine hTk (i := 4) (v := .agg #[.slice nq nl nc, .int .i64 p1, .int .i64 p2]) (some 50) (fun o ho W hSw => ?z33) (hHeld) ?_
     case z33 => cases ho; obtain ⟨s0, s1, s2, s3⟩ := hSw; simp [execOp, go_sem, Act.eval, s1, s2, s3]
     simp only [Act.put, zzA, zzB, zzC]; refine hTk (i := 6) (v := .agg #[.slice nq nl nc, .int .i64 p1, .int .i64 p2]) (some 52) (fun o ho W hSw => ?z34) (hHeld) ?_
     case z34 => cases ho; obtain ⟨s0, s1, s2, s3⟩ := hSw; simp [execOp, go_sem, Act.eval, s1, s2, s3]
     simp only [Act.put, zzA, zzB, zzC]; refine hCallE (i := 5) (f := 101) (args := #[.agg #[.slice nq nl nc, .int .i64 p1, .int .i64 p2]]) (some 51) (by kernel_rfl) (by kernel_rfl) (by kernel_rfl) (fun o ho => ?yc5) (HRG.out _) (fun u w5 hu => ?_) (fun ch w' h => by cases h.1) (fun w' h => by cases h.1)
     case yc5 => cases ho; simp [execOp, go_sem, Act.eval]
     obtain ⟨hu, hb5⟩ := hu
     cases hu
     have H4w5 : Hid (Below w4.heap.size w4 w5) := Below.on (⟨rfl, rfl, rfl, Nat.le_refl _, fun _ _ => rfl⟩ : Below w4.heap.size w4 w4.drew) hb5; have hHeld := HSP.out w5 H4w5.out; refine ⟨hHeld, ?_⟩; clear hb5; simp only [Act.put, zzA, zzB, zzC]; refine hCallE (i := 7) (f := 100) (args := #[.pointer (some ⟨ob, 0, none⟩), .slice kq kn kc, .int .i64 rp, .bool false, .agg #[.slice nq nl nc, .int .i64 p1, .int .i64 p2]]) (some 53) (by kernel_rfl) (by kernel_rfl) (by kernel_rfl) (fun o ho => ?yc7) (HOXs.out kq kn kc w5 HTW.out (Below.on (Below.on (Below.on HW0.out HB2.out) HB3.out) (Below.on H3w4.out H4w5.out))) (fun u w6 hu => ?_) (fun ch w' h => by cases h.1) (fun w' h => by cases h.1)
     case yc7 => cases ho; simp [execOp, go_sem, Act.eval]
     obtain ⟨hu, hb6⟩ := hu
     cases hu
     have H4w6 : Hid (Below w4.heap.size w4 w6) := Below.on H4w5.out hb6; have H3w6 : Hid (Below w3.heap.size w3 w6) := Below.on H3w4.out H4w6.out; have hHeld := HSP.out w6 H4w6.out; refine ⟨hHeld, ?_⟩; clear hb6; simp only [Act.put, zzA, zzB, zzC]; refine hTk (i := 8) (v := .string sX) (some 12) (fun o ho W hSw => ?z35) (hHeld) ?_
     case z35 => cases ho; simp [execOp, go_sem, Act.eval]
     simp only [Act.put, zzA, zzB, zzC]; refine wpAnyH_done (by kernel_rfl) ?_ _; obtain ⟨b0, b1, b2⟩ := HBX.out w6 H3w6.out; have H0w6 : Hid (Below W0.heap.size W0 w6) := Below.on (Below.on (Below.on HW0.out HB2.out) HB3.out) H3w6.out
     obtain ⟨sG, esG⟩ : ∃ s, s = strOfNums (gapW (atomW q on) X0) := ⟨_, rfl⟩
     have HGPsG : Hid (∀ W, Calls Tryz.prog 102 #[.string sA, .string sX] W fun e w' => e = .returned (.string sG) ∧ w' = W) := fun W => by
      have h9 := gap_any (atomW q on) X0 HNB.out.1 HX0.out.1.1 (by have := HNB.out.2; omega) (by have := HX0.out.1.2; omega) W; rw [HNT.out, HSX.out, esG]; exact h9
     have hzsG : sG.size ≤ 1 := by rw [esG, strOfNums_size]; exact (gap_good _ _).2
     have HEsG : Hid (sG = strOfNums (gapW (atomW q on) X0)) := esG; clear esG; go_wp2_with fail; refine (HGPsG.out _).mono ?_; rintro e w9 ⟨rfl, hw9⟩; rw [hw9]; clear hw9 w9
     by_cases hX : X0 = []
     ·have i1 : sX.toList.isEmpty = true := by rw [HSX.out, str_list, hX]; rfl
      have HCND : Hid (¬ (X0 ≠ [] ∧ (X0.getD 0 0 = 40 ∨ (on = [45] ∧ digitB (X0.getD 0 0) = true)))) := fun h => h.1 hX
      clear hX
      cases hsp : spacedB on with
      | true =>
        have HS9 := HSPC.out w6 H0w6.out; rw [hsp] at HS9 HPG HMG; have HSPV : Hid (spacedB on = true) := hsp; clear hsp; go_wp2_with fail; refine HS9.mono ?_; rintro e w9 ⟨rfl, hw9⟩; rw [hw9]; clear hw9 w9 HS9
        have HOUT : Hid (sA ++ (⟨#[32]⟩ : ByteArray) ++ sX = strOfNums OW) := by
         have h9 : (⟨#[32]⟩ : ByteArray) = strOfNums ([32]) := rfl
         show _ = _
         rw [HPU.out.1 hpre, HPG.out, if_pos (by trivial), HNE.out, ← str_app, ← str_app, ← HSX.out, ← h9, ← HNT.out]
        have hzn : (sA ++ (⟨#[32]⟩ : ByteArray)).size ≤ 602 := by rw [ByteArray.size_append]; omega
        have HPAR : Hid ((⟨#[40]⟩ : ByteArray) ++ (sA ++ (⟨#[32]⟩ : ByteArray) ++ sX) ++ ⟨#[41]⟩ = strOfNums (parW OW)) := par_str _ OW HOUT.out
        have hzo : (sA ++ (⟨#[32]⟩ : ByteArray) ++ sX).size ≤ 6900000000 := by simp only [ByteArray.size_append]; omega
        have hzp : ((⟨#[40]⟩ : ByteArray) ++ (sA ++ (⟨#[32]⟩ : ByteArray) ++ sX)).size ≤ 6900000001 := by rw [ByteArray.size_append]; omega
        by_cases hp : pr < p1
        ·have HR : Hid (CW = parW OW) := by show _ = _; rw [HCW.out, if_pos hp]
         go_wp2_with fail
         all_goals go_ret
         all_goals exact ⟨by rw [HR.out, ← HPAR.out]; rfl, Below.on (Below.on HB2.out HB3.out) H3w6.out⟩
        ·have HR : Hid (CW = OW) := by show _ = _; rw [HCW.out, if_neg hp]
         go_wp2_with fail
         all_goals go_ret
         all_goals exact ⟨by rw [HR.out, ← HOUT.out]; rfl, Below.on (Below.on HB2.out HB3.out) H3w6.out⟩
      | false =>
        have HS9 := HSPC.out w6 H0w6.out; rw [hsp] at HS9 HPG HMG; have HSPV : Hid (spacedB on = false) := hsp; clear hsp; go_wp2_with fail; refine HS9.mono ?_; rintro e w9 ⟨rfl, hw9⟩; rw [hw9]; clear hw9 w9 HS9
        have HOUT : Hid (sA ++ sG ++ sX = strOfNums OW) := by
         have h9 : sG = strOfNums (gapW (atomW q on) X0) := HEsG.out
         show _ = _
         rw [HPU.out.1 hpre, HPG.out, if_neg (by decide), if_neg HCND.out, HNE.out, ← str_app, ← str_app, ← HSX.out, ← h9, ← HNT.out]
        have hzn : (sA ++ sG).size ≤ 602 := by rw [ByteArray.size_append]; omega
        have HPAR : Hid ((⟨#[40]⟩ : ByteArray) ++ (sA ++ sG ++ sX) ++ ⟨#[41]⟩ = strOfNums (parW OW)) := par_str _ OW HOUT.out
        have hzo : (sA ++ sG ++ sX).size ≤ 6900000000 := by simp only [ByteArray.size_append]; omega
        have hzp : ((⟨#[40]⟩ : ByteArray) ++ (sA ++ sG ++ sX)).size ≤ 6900000001 := by rw [ByteArray.size_append]; omega
        by_cases hp : pr < p1
        ·have HR : Hid (CW = parW OW) := by show _ = _; rw [HCW.out, if_pos hp]
         go_wp2_with fail
         all_goals go_ret
         all_goals exact ⟨by rw [HR.out, ← HPAR.out]; rfl, Below.on (Below.on HB2.out HB3.out) H3w6.out⟩
        ·have HR : Hid (CW = OW) := by show _ = _; rw [HCW.out, if_neg hp]
         go_wp2_with fail
         all_goals go_ret
         all_goals exact ⟨by rw [HR.out, ← HOUT.out]; rfl, Below.on (Below.on HB2.out HB3.out) H3w6.out⟩
     ·have i1 : sX.toList.isEmpty = false := by rw [HSX.out, str_list]; cases X0 with | nil => exact absurd rfl hX | cons _ _ => rfl
      have hx0 : 0 < sX.size := by rw [HSX.out, strOfNums_size]; cases X0 with | nil => exact absurd rfl hX | cons _ _ => simp
      have g0 := str_get HX0.out.1.1 HSX.out 0 hx0; have hr0 : 0 ≤ X0.getD 0 0 ∧ X0.getD 0 0 < 256 := HX0.out.1.1 _ (by cases X0 with | nil => exact absurd rfl hX | cons _ _ => simp)
      obtain ⟨x, ex⟩ : ∃ x, x = X0.getD 0 0 := ⟨_, rfl⟩
      have HXN : Hid (X0 ≠ [] ∧ x = X0.getD 0 0) := ⟨hX, ex⟩
      rw [← ex] at g0 hr0; obtain ⟨hr1, hr2⟩ := hr0; clear hX ex
      by_cases h40 : x = 40
      ·have HCND : Hid (X0 ≠ [] ∧ (X0.getD 0 0 = 40 ∨ (on = [45] ∧ digitB (X0.getD 0 0) = true))) := ⟨HXN.out.1, .inl (by rw [← HXN.out.2]; exact h40)⟩
       subst h40
       cases hsp : spacedB on with
       | true =>
         have HS9 := HSPC.out w6 H0w6.out; rw [hsp] at HS9 HPG HMG; have HSPV : Hid (spacedB on = true) := hsp; clear hsp; go_wp2_with fail; refine HS9.mono ?_; rintro e w9 ⟨rfl, hw9⟩; rw [hw9]; clear hw9 w9 HS9
         have HOUT : Hid (sA ++ (⟨#[32]⟩ : ByteArray) ++ sX = strOfNums OW) := by
          have h9 : (⟨#[32]⟩ : ByteArray) = strOfNums ([32]) := rfl
          show _ = _
          rw [HPU.out.1 hpre, HPG.out, if_pos (by trivial), HNE.out, ← str_app, ← str_app, ← HSX.out, ← h9, ← HNT.out]
         have hzn : (sA ++ (⟨#[32]⟩ : ByteArray)).size ≤ 602 := by rw [ByteArray.size_append]; omega
         have HPAR : Hid ((⟨#[40]⟩ : ByteArray) ++ (sA ++ (⟨#[32]⟩ : ByteArray) ++ sX) ++ ⟨#[41]⟩ = strOfNums (parW OW)) := par_str _ OW HOUT.out
         have hzo : (sA ++ (⟨#[32]⟩ : ByteArray) ++ sX).size ≤ 6900000000 := by simp only [ByteArray.size_append]; omega
         have hzp : ((⟨#[40]⟩ : ByteArray) ++ (sA ++ (⟨#[32]⟩ : ByteArray) ++ sX)).size ≤ 6900000001 := by rw [ByteArray.size_append]; omega
         by_cases hp : pr < p1
         ·have HR : Hid (CW = parW OW) := by show _ = _; rw [HCW.out, if_pos hp]
          go_wp2_with fail
          all_goals go_ret
          all_goals exact ⟨by rw [HR.out, ← HPAR.out]; rfl, Below.on (Below.on HB2.out HB3.out) H3w6.out⟩
         ·have HR : Hid (CW = OW) := by show _ = _; rw [HCW.out, if_neg hp]
          go_wp2_with fail
          all_goals go_ret
          all_goals exact ⟨by rw [HR.out, ← HOUT.out]; rfl, Below.on (Below.on HB2.out HB3.out) H3w6.out⟩
       | false =>
         have HS9 := HSPC.out w6 H0w6.out; rw [hsp] at HS9 HPG HMG; have HSPV : Hid (spacedB on = false) := hsp; clear hsp; go_wp2_with fail; refine HS9.mono ?_; rintro e w9 ⟨rfl, hw9⟩; rw [hw9]; clear hw9 w9 HS9
         have HOUT : Hid (sA ++ (⟨#[32]⟩ : ByteArray) ++ sX = strOfNums OW) := by
          have h9 : (⟨#[32]⟩ : ByteArray) = strOfNums ([32]) := rfl
          show _ = _
          rw [HPU.out.1 hpre, HPG.out, if_neg (by decide), if_pos HCND.out, HNE.out, ← str_app, ← str_app, ← HSX.out, ← h9, ← HNT.out]
         have hzn : (sA ++ (⟨#[32]⟩ : ByteArray)).size ≤ 602 := by rw [ByteArray.size_append]; omega
         have HPAR : Hid ((⟨#[40]⟩ : ByteArray) ++ (sA ++ (⟨#[32]⟩ : ByteArray) ++ sX) ++ ⟨#[41]⟩ = strOfNums (parW OW)) := par_str _ OW HOUT.out
         have hzo : (sA ++ (⟨#[32]⟩ : ByteArray) ++ sX).size ≤ 6900000000 := by simp only [ByteArray.size_append]; omega
         have hzp : ((⟨#[40]⟩ : ByteArray) ++ (sA ++ (⟨#[32]⟩ : ByteArray) ++ sX)).size ≤ 6900000001 := by rw [ByteArray.size_append]; omega
         by_cases hp : pr < p1
         ·have HR : Hid (CW = parW OW) := by show _ = _; rw [HCW.out, if_pos hp]
          go_wp2_with fail
          all_goals go_ret
          all_goals exact ⟨by rw [HR.out, ← HPAR.out]; rfl, Below.on (Below.on HB2.out HB3.out) H3w6.out⟩
         ·have HR : Hid (CW = OW) := by show _ = _; rw [HCW.out, if_neg hp]
          go_wp2_with fail
          all_goals go_ret
          all_goals exact ⟨by rw [HR.out, ← HOUT.out]; rfl, Below.on (Below.on HB2.out HB3.out) H3w6.out⟩
      ·have h40b : (x == 40) = false := by simpa using h40
       by_cases h45 : on = [45]
       ·have t45 : son.toList = [45] := hl45.2 h45
        have HDG : Hid (∀ W, Calls Tryz.prog 31 #[.int .u8 x] W fun e w' => e = .returned (.bool (digitB x)) ∧ w' = W) := fun W => digit_any x W hr1 hr2
        have cvx := HCV.out w6 H0w6.out
        cases hdg : digitB x with
        | true =>
          have HCND : Hid (X0 ≠ [] ∧ (X0.getD 0 0 = 40 ∨ (on = [45] ∧ digitB (X0.getD 0 0) = true))) := ⟨HXN.out.1, .inr ⟨h45, by rw [← HXN.out.2]; exact hdg⟩⟩
          have HD9 := HDG.out w6; rw [hdg] at HD9; clear h45 hdg; go_wp2_with fail; refine HD9.mono ?_; rintro e w9 ⟨rfl, hw9⟩; rw [hw9]; clear hw9 w9 HD9
          cases hsp : spacedB on with
          | true =>
            have HS9 := HSPC.out w6 H0w6.out; rw [hsp] at HS9 HPG HMG; have HSPV : Hid (spacedB on = true) := hsp; clear hsp; go_wp2_with fail; refine HS9.mono ?_; rintro e w9 ⟨rfl, hw9⟩; rw [hw9]; clear hw9 w9 HS9
            have HOUT : Hid (sA ++ (⟨#[32]⟩ : ByteArray) ++ sX = strOfNums OW) := by
             have h9 : (⟨#[32]⟩ : ByteArray) = strOfNums ([32]) := rfl
             show _ = _
             rw [HPU.out.1 hpre, HPG.out, if_pos (by trivial), HNE.out, ← str_app, ← str_app, ← HSX.out, ← h9, ← HNT.out]
            have hzn : (sA ++ (⟨#[32]⟩ : ByteArray)).size ≤ 602 := by rw [ByteArray.size_append]; omega
            have HPAR : Hid ((⟨#[40]⟩ : ByteArray) ++ (sA ++ (⟨#[32]⟩ : ByteArray) ++ sX) ++ ⟨#[41]⟩ = strOfNums (parW OW)) := par_str _ OW HOUT.out
            have hzo : (sA ++ (⟨#[32]⟩ : ByteArray) ++ sX).size ≤ 6900000000 := by simp only [ByteArray.size_append]; omega
            have hzp : ((⟨#[40]⟩ : ByteArray) ++ (sA ++ (⟨#[32]⟩ : ByteArray) ++ sX)).size ≤ 6900000001 := by rw [ByteArray.size_append]; omega
            by_cases hp : pr < p1
            ·have HR : Hid (CW = parW OW) := by show _ = _; rw [HCW.out, if_pos hp]
             go_wp2_with fail
             all_goals go_ret
             all_goals exact ⟨by rw [HR.out, ← HPAR.out]; rfl, Below.on (Below.on HB2.out HB3.out) H3w6.out⟩
            ·have HR : Hid (CW = OW) := by show _ = _; rw [HCW.out, if_neg hp]
             go_wp2_with fail
             all_goals go_ret
             all_goals exact ⟨by rw [HR.out, ← HOUT.out]; rfl, Below.on (Below.on HB2.out HB3.out) H3w6.out⟩
          | false =>
            have HS9 := HSPC.out w6 H0w6.out; rw [hsp] at HS9 HPG HMG; have HSPV : Hid (spacedB on = false) := hsp; clear hsp; go_wp2_with fail; refine HS9.mono ?_; rintro e w9 ⟨rfl, hw9⟩; rw [hw9]; clear hw9 w9 HS9
            have HOUT : Hid (sA ++ (⟨#[32]⟩ : ByteArray) ++ sX = strOfNums OW) := by
             have h9 : (⟨#[32]⟩ : ByteArray) = strOfNums ([32]) := rfl
             show _ = _
             rw [HPU.out.1 hpre, HPG.out, if_neg (by decide), if_pos HCND.out, HNE.out, ← str_app, ← str_app, ← HSX.out, ← h9, ← HNT.out]
            have hzn : (sA ++ (⟨#[32]⟩ : ByteArray)).size ≤ 602 := by rw [ByteArray.size_append]; omega
            have HPAR : Hid ((⟨#[40]⟩ : ByteArray) ++ (sA ++ (⟨#[32]⟩ : ByteArray) ++ sX) ++ ⟨#[41]⟩ = strOfNums (parW OW)) := par_str _ OW HOUT.out
            have hzo : (sA ++ (⟨#[32]⟩ : ByteArray) ++ sX).size ≤ 6900000000 := by simp only [ByteArray.size_append]; omega
            have hzp : ((⟨#[40]⟩ : ByteArray) ++ (sA ++ (⟨#[32]⟩ : ByteArray) ++ sX)).size ≤ 6900000001 := by rw [ByteArray.size_append]; omega
            by_cases hp : pr < p1
            ·have HR : Hid (CW = parW OW) := by show _ = _; rw [HCW.out, if_pos hp]
             go_wp2_with fail
             all_goals go_ret
             all_goals exact ⟨by rw [HR.out, ← HPAR.out]; rfl, Below.on (Below.on HB2.out HB3.out) H3w6.out⟩
            ·have HR : Hid (CW = OW) := by show _ = _; rw [HCW.out, if_neg hp]
             go_wp2_with fail
             all_goals go_ret
             all_goals exact ⟨by rw [HR.out, ← HOUT.out]; rfl, Below.on (Below.on HB2.out HB3.out) H3w6.out⟩
        | false =>
          have HCND : Hid (¬ (X0 ≠ [] ∧ (X0.getD 0 0 = 40 ∨ (on = [45] ∧ digitB (X0.getD 0 0) = true)))) := fun h => h.2.elim (fun h => h40 (by rw [HXN.out.2]; exact h)) (fun h => by have := h.2; rw [← HXN.out.2, hdg] at this; cases this)
          have HD9 := HDG.out w6; rw [hdg] at HD9; clear h45 hdg; go_wp2_with fail; refine HD9.mono ?_; rintro e w9 ⟨rfl, hw9⟩; rw [hw9]; clear hw9 w9 HD9
          cases hsp : spacedB on with
          | true =>
            have HS9 := HSPC.out w6 H0w6.out; rw [hsp] at HS9 HPG HMG; have HSPV : Hid (spacedB on = true) := hsp; clear hsp; go_wp2_with fail; refine HS9.mono ?_; rintro e w9 ⟨rfl, hw9⟩; rw [hw9]; clear hw9 w9 HS9
            have HOUT : Hid (sA ++ (⟨#[32]⟩ : ByteArray) ++ sX = strOfNums OW) := by
             have h9 : (⟨#[32]⟩ : ByteArray) = strOfNums ([32]) := rfl
             show _ = _
             rw [HPU.out.1 hpre, HPG.out, if_pos (by trivial), HNE.out, ← str_app, ← str_app, ← HSX.out, ← h9, ← HNT.out]
            have hzn : (sA ++ (⟨#[32]⟩ : ByteArray)).size ≤ 602 := by rw [ByteArray.size_append]; omega
            have HPAR : Hid ((⟨#[40]⟩ : ByteArray) ++ (sA ++ (⟨#[32]⟩ : ByteArray) ++ sX) ++ ⟨#[41]⟩ = strOfNums (parW OW)) := par_str _ OW HOUT.out
            have hzo : (sA ++ (⟨#[32]⟩ : ByteArray) ++ sX).size ≤ 6900000000 := by simp only [ByteArray.size_append]; omega
            have hzp : ((⟨#[40]⟩ : ByteArray) ++ (sA ++ (⟨#[32]⟩ : ByteArray) ++ sX)).size ≤ 6900000001 := by rw [ByteArray.size_append]; omega
            by_cases hp : pr < p1
            ·have HR : Hid (CW = parW OW) := by show _ = _; rw [HCW.out, if_pos hp]
             go_wp2_with fail
             all_goals go_ret
             all_goals exact ⟨by rw [HR.out, ← HPAR.out]; rfl, Below.on (Below.on HB2.out HB3.out) H3w6.out⟩
            ·have HR : Hid (CW = OW) := by show _ = _; rw [HCW.out, if_neg hp]
             go_wp2_with fail
             all_goals go_ret
             all_goals exact ⟨by rw [HR.out, ← HOUT.out]; rfl, Below.on (Below.on HB2.out HB3.out) H3w6.out⟩
          | false =>
            have HS9 := HSPC.out w6 H0w6.out; rw [hsp] at HS9 HPG HMG; have HSPV : Hid (spacedB on = false) := hsp; clear hsp; go_wp2_with fail; refine HS9.mono ?_; rintro e w9 ⟨rfl, hw9⟩; rw [hw9]; clear hw9 w9 HS9
            have HOUT : Hid (sA ++ sG ++ sX = strOfNums OW) := by
             have h9 : sG = strOfNums (gapW (atomW q on) X0) := HEsG.out
             show _ = _
             rw [HPU.out.1 hpre, HPG.out, if_neg (by decide), if_neg HCND.out, HNE.out, ← str_app, ← str_app, ← HSX.out, ← h9, ← HNT.out]
            have hzn : (sA ++ sG).size ≤ 602 := by rw [ByteArray.size_append]; omega
            have HPAR : Hid ((⟨#[40]⟩ : ByteArray) ++ (sA ++ sG ++ sX) ++ ⟨#[41]⟩ = strOfNums (parW OW)) := par_str _ OW HOUT.out
            have hzo : (sA ++ sG ++ sX).size ≤ 6900000000 := by simp only [ByteArray.size_append]; omega
            have hzp : ((⟨#[40]⟩ : ByteArray) ++ (sA ++ sG ++ sX)).size ≤ 6900000001 := by rw [ByteArray.size_append]; omega
            by_cases hp : pr < p1
            ·have HR : Hid (CW = parW OW) := by show _ = _; rw [HCW.out, if_pos hp]
             go_wp2_with fail
             all_goals go_ret
             all_goals exact ⟨by rw [HR.out, ← HPAR.out]; rfl, Below.on (Below.on HB2.out HB3.out) H3w6.out⟩
            ·have HR : Hid (CW = OW) := by show _ = _; rw [HCW.out, if_neg hp]
             go_wp2_with fail
             all_goals go_ret
             all_goals exact ⟨by rw [HR.out, ← HOUT.out]; rfl, Below.on (Below.on HB2.out HB3.out) H3w6.out⟩
       ·have t45 : ¬ son.toList = [45] := fun h => h45 (hl45.1 h)
        have t45b : (son.toList == [45]) = false := by simpa using t45
        have cvx := HCV.out w6 H0w6.out
        have HCND : Hid (¬ (X0 ≠ [] ∧ (X0.getD 0 0 = 40 ∨ (on = [45] ∧ digitB (X0.getD 0 0) = true)))) := fun h => h.2.elim (fun h => h40 (by rw [HXN.out.2]; exact h)) (fun h => h45 h.1)
        clear h45
        cases hsp : spacedB on with
        | true =>
          have HS9 := HSPC.out w6 H0w6.out; rw [hsp] at HS9 HPG HMG; have HSPV : Hid (spacedB on = true) := hsp; clear hsp; go_wp2_with fail; refine HS9.mono ?_; rintro e w9 ⟨rfl, hw9⟩; rw [hw9]; clear hw9 w9 HS9
          have HOUT : Hid (sA ++ (⟨#[32]⟩ : ByteArray) ++ sX = strOfNums OW) := by
           have h9 : (⟨#[32]⟩ : ByteArray) = strOfNums ([32]) := rfl
           show _ = _
           rw [HPU.out.1 hpre, HPG.out, if_pos (by trivial), HNE.out, ← str_app, ← str_app, ← HSX.out, ← h9, ← HNT.out]
          have hzn : (sA ++ (⟨#[32]⟩ : ByteArray)).size ≤ 602 := by rw [ByteArray.size_append]; omega
          have HPAR : Hid ((⟨#[40]⟩ : ByteArray) ++ (sA ++ (⟨#[32]⟩ : ByteArray) ++ sX) ++ ⟨#[41]⟩ = strOfNums (parW OW)) := par_str _ OW HOUT.out
          have hzo : (sA ++ (⟨#[32]⟩ : ByteArray) ++ sX).size ≤ 6900000000 := by simp only [ByteArray.size_append]; omega
          have hzp : ((⟨#[40]⟩ : ByteArray) ++ (sA ++ (⟨#[32]⟩ : ByteArray) ++ sX)).size ≤ 6900000001 := by rw [ByteArray.size_append]; omega
          by_cases hp : pr < p1
          ·have HR : Hid (CW = parW OW) := by show _ = _; rw [HCW.out, if_pos hp]
           go_wp2_with fail
           all_goals go_ret
           all_goals exact ⟨by rw [HR.out, ← HPAR.out]; rfl, Below.on (Below.on HB2.out HB3.out) H3w6.out⟩
          ·have HR : Hid (CW = OW) := by show _ = _; rw [HCW.out, if_neg hp]
           go_wp2_with fail
           all_goals go_ret
           all_goals exact ⟨by rw [HR.out, ← HOUT.out]; rfl, Below.on (Below.on HB2.out HB3.out) H3w6.out⟩
        | false =>
          have HS9 := HSPC.out w6 H0w6.out; rw [hsp] at HS9 HPG HMG; have HSPV : Hid (spacedB on = false) := hsp; clear hsp; go_wp2_with fail; refine HS9.mono ?_; rintro e w9 ⟨rfl, hw9⟩; rw [hw9]; clear hw9 w9 HS9
          have HOUT : Hid (sA ++ sG ++ sX = strOfNums OW) := by
           have h9 : sG = strOfNums (gapW (atomW q on) X0) := HEsG.out
           show _ = _
           rw [HPU.out.1 hpre, HPG.out, if_neg (by decide), if_neg HCND.out, HNE.out, ← str_app, ← str_app, ← HSX.out, ← h9, ← HNT.out]
          have hzn : (sA ++ sG).size ≤ 602 := by rw [ByteArray.size_append]; omega
          have HPAR : Hid ((⟨#[40]⟩ : ByteArray) ++ (sA ++ sG ++ sX) ++ ⟨#[41]⟩ = strOfNums (parW OW)) := par_str _ OW HOUT.out
          have hzo : (sA ++ sG ++ sX).size ≤ 6900000000 := by simp only [ByteArray.size_append]; omega
          have hzp : ((⟨#[40]⟩ : ByteArray) ++ (sA ++ sG ++ sX)).size ≤ 6900000001 := by rw [ByteArray.size_append]; omega
          by_cases hp : pr < p1
          ·have HR : Hid (CW = parW OW) := by show _ = _; rw [HCW.out, if_pos hp]
           go_wp2_with fail
           all_goals go_ret
           all_goals exact ⟨by rw [HR.out, ← HPAR.out]; rfl, Below.on (Below.on HB2.out HB3.out) H3w6.out⟩
          ·have HR : Hid (CW = OW) := by show _ = _; rw [HCW.out, if_neg hp]
           go_wp2_with fail
           all_goals go_ret
           all_goals exact ⟨by rw [HR.out, ← HOUT.out]; rfl, Below.on (Below.on HB2.out HB3.out) H3w6.out⟩
   | false =>
     have HP9 := HPRE.out w4; rw [hpre] at HP9; go_wp2_with fail; refine HP9.mono ?_; rintro e w9 ⟨rfl, hw9⟩; rw [hw9]; clear hw9 w9 HP9; obtain ⟨hai, ga, kq, kn, kc, hap, hka, htw⟩ := HKID.out 0 HC1.out w2 ap am HA2.out; subst hap; have HTW : Hid (TW W0 kq kn kc (kidW t 0)) := htw; have HKA : Hid (w2.cell? ⟨ga, 0, none⟩ = some (.slice kq kn kc)) := hka
     have HSP : Hid (∀ W, Below w4.heap.size w4 W → W.cell? ⟨ga, 0, none⟩ = some (.slice kq kn kc) ∧ W.cell? ⟨w2.heap.size, 0, none⟩ = some (.slice nq nl nc) ∧ W.cell? ⟨w2.heap.size, 1, none⟩ = some (.int .i64 p1) ∧ W.cell? ⟨w2.heap.size, 2, none⟩ = some (.int .i64 p2)) := fun W hW => by
      have h9 := Below.on HB3.out (Below.on H3w4.out hW); exact ⟨(h9.cell (World.block_lt_of_cell? _ _ HKA.out)).trans HKA.out, HBX.out W (Below.on H3w4.out hW)⟩
     have haI : (0 : Int) < (am : Int) := by omega
     have haN : 0 < am := hai; clear htw hka hai; go_wp2_with fail; refine wp_region_held_drew (S := (fun W => W.cell? ⟨ga, 0, none⟩ = some (.slice kq kn kc) ∧ W.cell? ⟨w2.heap.size, 0, none⟩ = some (.slice nq nl nc) ∧ W.cell? ⟨w2.heap.size, 1, none⟩ = some (.int .i64 p1) ∧ W.cell? ⟨w2.heap.size, 2, none⟩ = some (.int .i64 p2))) (by kernel_rfl) (HSP.out w4.drew ⟨rfl, rfl, rfl, Nat.le_refl _, fun _ _ => rfl⟩) (fun hHeld => ?_); refine hTk (i := 0) (v := .pointer (some ⟨ob, 0, none⟩)) (some 83) (fun o ho W hSw => ?z36) (hHeld) ?_
     case z36 => cases ho; simp [execOp, go_sem, Act.eval]
     simp only [Act.put, zzA, zzB, zzC]; refine hTk (i := 1) (v := .slice (some ⟨ga, 0, none⟩) am ac) (some 84) (fun o ho W hSw => ?z37) (hHeld) ?_
     case z37 => cases ho; simp [execOp, go_sem, Act.eval]
     simp only [Act.put, zzA, zzB, zzC]; refine hTk (i := 2) (v := .pointer (some ⟨ga, 0, none⟩)) (some 85) (fun o ho W hSw => ?z38) (hHeld) ?_
     case z38 => cases ho; simp [execOp, go_sem, Act.eval, haI, haN]
     simp only [Act.put, zzA, zzB, zzC]; refine hTk (i := 3) (v := .slice kq kn kc) (some 86) (fun o ho W hSw => ?z39) (hHeld) ?_
     case z39 => cases ho; obtain ⟨s0, s1, s2, s3⟩ := hSw; simp [execOp, go_sem, Act.eval, s0]
     simp only [Act.put, zzA, zzB, zzC]; refine hTk (i := 4) (v := .agg #[.slice nq nl nc, .int .i64 p1, .int .i64 p2]) (some 87) (fun o ho W hSw => ?z40) (hHeld) ?_
     case z40 => cases ho; obtain ⟨s0, s1, s2, s3⟩ := hSw; simp [execOp, go_sem, Act.eval, s1, s2, s3]
     simp only [Act.put, zzA, zzB, zzC]; refine hTk (i := 6) (v := .agg #[.slice nq nl nc, .int .i64 p1, .int .i64 p2]) (some 89) (fun o ho W hSw => ?z41) (hHeld) ?_
     case z41 => cases ho; obtain ⟨s0, s1, s2, s3⟩ := hSw; simp [execOp, go_sem, Act.eval, s1, s2, s3]
     simp only [Act.put, zzA, zzB, zzC]; refine hCallE (i := 5) (f := 104) (args := #[.agg #[.slice nq nl nc, .int .i64 p1, .int .i64 p2]]) (some 88) (by kernel_rfl) (by kernel_rfl) (by kernel_rfl) (fun o ho => ?yc5) (HLF.out _) (fun u w5 hu => ?_) (fun ch w' h => by cases h.1) (fun w' h => by cases h.1)
     case yc5 => cases ho; simp [execOp, go_sem, Act.eval]
     obtain ⟨hu, hb5⟩ := hu
     cases hu
     have H4w5 : Hid (Below w4.heap.size w4 w5) := Below.on (⟨rfl, rfl, rfl, Nat.le_refl _, fun _ _ => rfl⟩ : Below w4.heap.size w4 w4.drew) hb5; have hHeld := HSP.out w5 H4w5.out; refine ⟨hHeld, ?_⟩; clear hb5; simp only [Act.put, zzA, zzB, zzC]; refine hCallE (i := 7) (f := 100) (args := #[.pointer (some ⟨ob, 0, none⟩), .slice kq kn kc, .int .i64 lp, .bool true, .agg #[.slice nq nl nc, .int .i64 p1, .int .i64 p2]]) (some 90) (by kernel_rfl) (by kernel_rfl) (by kernel_rfl) (fun o ho => ?yc7) (HOYs.out kq kn kc w5 HTW.out (Below.on (Below.on (Below.on HW0.out HB2.out) HB3.out) (Below.on H3w4.out H4w5.out))) (fun u w6 hu => ?_) (fun ch w' h => by cases h.1) (fun w' h => by cases h.1)
     case yc7 => cases ho; simp [execOp, go_sem, Act.eval]
     obtain ⟨hu, hb6⟩ := hu
     cases hu
     have H4w6 : Hid (Below w4.heap.size w4 w6) := Below.on H4w5.out hb6; have H3w6 : Hid (Below w3.heap.size w3 w6) := Below.on H3w4.out H4w6.out; have hHeld := HSP.out w6 H4w6.out; refine ⟨hHeld, ?_⟩; clear hb6; simp only [Act.put, zzA, zzB, zzC]; refine hTk (i := 8) (v := .string sY) (some 14) (fun o ho W hSw => ?z42) (hHeld) ?_
     case z42 => cases ho; simp [execOp, go_sem, Act.eval]
     simp only [Act.put, zzA, zzB, zzC]; refine wpAnyH_done (by kernel_rfl) ?_ _; obtain ⟨b0, b1, b2⟩ := HBX.out w6 H3w6.out; have H0w6 : Hid (Below W0.heap.size W0 w6) := Below.on (Below.on (Below.on HW0.out HB2.out) HB3.out) H3w6.out
     obtain ⟨sG, esG⟩ : ∃ s, s = strOfNums (gapW Y0 (atomW q on)) := ⟨_, rfl⟩
     have HGPsG : Hid (∀ W, Calls Tryz.prog 102 #[.string sY, .string sA] W fun e w' => e = .returned (.string sG) ∧ w' = W) := fun W => by
      have h9 := gap_any Y0 (atomW q on) HX0.out.2.1.1 HNB.out.1 (by have := HX0.out.2.1.2; omega) (by have := HNB.out.2; omega) W; rw [HSY.out, HNT.out, esG]; exact h9
     have hzsG : sG.size ≤ 1 := by rw [esG, strOfNums_size]; exact (gap_good _ _).2
     have HEsG : Hid (sG = strOfNums (gapW Y0 (atomW q on))) := esG; clear esG; go_wp2_with fail; refine (HGPsG.out _).mono ?_; rintro e w9 ⟨rfl, hw9⟩; rw [hw9]; clear hw9 w9
     cases hsp : spacedB on with
     | true =>
       have HS9 := HSPC.out w6 H0w6.out; rw [hsp] at HS9 HPG HMG; have HSPV : Hid (spacedB on = true) := hsp; clear hsp; go_wp2_with fail; refine HS9.mono ?_; rintro e w9 ⟨rfl, hw9⟩; rw [hw9]; clear hw9 w9 HS9
       have HG9 : Hid ((⟨#[32]⟩ : ByteArray) = strOfNums (midGap op Y0 NW)) := by show _ = _; rw [HMG.out, HNE.out, if_pos (by trivial)]; rfl
       have HO1 : Hid (sY ++ (⟨#[32]⟩ : ByteArray) ++ sA = strOfNums (Y0 ++ midGap op Y0 NW ++ NW)) := by show _ = _; rw [← str_app, ← str_app, ← HSY.out, ← HG9.out, HNE.out, ← HNT.out]
       have hz1 : (sY ++ (⟨#[32]⟩ : ByteArray)).size ≤ 2300000001 := by rw [ByteArray.size_append]; omega
       have hz2 : (sY ++ (⟨#[32]⟩ : ByteArray) ++ sA).size ≤ 2300000700 := by rw [ByteArray.size_append]; omega
       cases hinf : infB p2 with
       | false =>
         have HI9 := HINF.out w6; rw [hinf] at HI9; go_wp2_with fail
         all_goals refine HI9.mono ?_
         all_goals rintro e w9 ⟨rfl, hw9⟩
         all_goals rw [hw9]
         all_goals clear hw9 w9 HI9
         have HOUT : Hid (sY ++ (⟨#[32]⟩ : ByteArray) ++ sA = strOfNums OW) := by show _ = _; rw [HPU.out.2.1 hpre hinf]; exact HO1.out
         have HPAR : Hid ((⟨#[40]⟩ : ByteArray) ++ (sY ++ (⟨#[32]⟩ : ByteArray) ++ sA) ++ ⟨#[41]⟩ = strOfNums (parW OW)) := par_str _ OW HOUT.out
         have hzo : (sY ++ (⟨#[32]⟩ : ByteArray) ++ sA).size ≤ 6900000000 := by simp only [ByteArray.size_append]; omega
         have hzp : ((⟨#[40]⟩ : ByteArray) ++ (sY ++ (⟨#[32]⟩ : ByteArray) ++ sA)).size ≤ 6900000001 := by rw [ByteArray.size_append]; omega
         by_cases hp : pr < p1
         ·have HR : Hid (CW = parW OW) := by show _ = _; rw [HCW.out, if_pos hp]
          go_wp2_with fail
          all_goals go_ret
          all_goals exact ⟨by rw [HR.out, ← HPAR.out]; rfl, Below.on (Below.on HB2.out HB3.out) H3w6.out⟩
         ·have HR : Hid (CW = OW) := by show _ = _; rw [HCW.out, if_neg hp]
          go_wp2_with fail
          all_goals go_ret
          all_goals exact ⟨by rw [HR.out, ← HOUT.out]; rfl, Below.on (Below.on HB2.out HB3.out) H3w6.out⟩
       | true =>
         have HI9 := HINF.out w6; rw [hinf] at HI9; go_wp2_with fail
         all_goals refine HI9.mono ?_
         all_goals rintro e w9 ⟨rfl, hw9⟩
         all_goals rw [hw9]
         all_goals clear hw9 w9 HI9
         have HCC : Hid (t.2.count = 2) := HC2.out hpre hinf; have HXX := HX0.out.2.2 (by rw [HCC.out]; decide); have HZB : Hid (Byte X1 ∧ X1.length ≤ 2300000000) := HXX; clear HXX
         obtain ⟨sZ, esZ⟩ : ∃ s, s = strOfNums X1 := ⟨_, rfl⟩
         have HSZ : Hid (sZ = strOfNums X1) := esZ
         have hzZ : sZ.size ≤ 2300000000 := by rw [esZ, strOfNums_size]; exact HZB.out.2
         have HOZs : Hid (∀ kq kn kc W, TW W0 kq kn kc (kidW t 1) → Below W0.heap.size W0 W → Calls Tryz.prog 100 #[.pointer (some ⟨ob, 0, none⟩), .slice kq kn kc, .int .i64 rp, .bool false, .agg #[.slice nq nl nc, .int .i64 p1, .int .i64 p2]] W fun e w' => e = .returned (.string sZ) ∧ Below W.heap.size W w') := fun kq kn kc W h1 h2 => by rw [esZ]; exact HOX1.out (by rw [HCC.out]; decide) kq kn kc W h1 h2
         clear esZ; clear HTW HKA HSP haI haN hHeld; obtain ⟨hai, ga2, kq, kn, kc, hap, hka, htw⟩ := HKID.out 1 (by rw [HCC.out]; decide) w2 (some ⟨ga, 0, none⟩) am HA2.out
         have hga : ga = ga2 := by injection hap with h1; injection h1
         subst hga; clear hap b0 b1 b2; have HTW : Hid (TW W0 kq kn kc (kidW t 1)) := htw; have HKA : Hid (w2.cell? ⟨ga, 1, none⟩ = some (.slice kq kn kc)) := hka
         have HSP : Hid (∀ W, Below w6.heap.size w6 W → W.cell? ⟨ga, 1, none⟩ = some (.slice kq kn kc) ∧ W.cell? ⟨w2.heap.size, 0, none⟩ = some (.slice nq nl nc) ∧ W.cell? ⟨w2.heap.size, 1, none⟩ = some (.int .i64 p1) ∧ W.cell? ⟨w2.heap.size, 2, none⟩ = some (.int .i64 p2)) := fun W hW => by
          have h9 := Below.on HB3.out (Below.on H3w6.out hW); exact ⟨(h9.cell (World.block_lt_of_cell? _ _ HKA.out)).trans HKA.out, HBX.out W (Below.on H3w6.out hW)⟩
         have haI : (1 : Int) < (am : Int) := by omega
         have haN : 1 < am := hai; clear htw hka hai; go_wp2_with fail; refine wp_region_held_drew (S := (fun W => W.cell? ⟨ga, 1, none⟩ = some (.slice kq kn kc) ∧ W.cell? ⟨w2.heap.size, 0, none⟩ = some (.slice nq nl nc) ∧ W.cell? ⟨w2.heap.size, 1, none⟩ = some (.int .i64 p1) ∧ W.cell? ⟨w2.heap.size, 2, none⟩ = some (.int .i64 p2))) (by kernel_rfl) (HSP.out w6.drew ⟨rfl, rfl, rfl, Nat.le_refl _, fun _ _ => rfl⟩) (fun hHeld => ?_); refine hTk (i := 0) (v := .pointer (some ⟨ob, 0, none⟩)) (some 105) (fun o ho W hSw => ?z43) (hHeld) ?_
         case z43 => cases ho; simp [execOp, go_sem, Act.eval]
         simp only [Act.put, zzA, zzB, zzC]; refine hTk (i := 1) (v := .slice (some ⟨ga, 0, none⟩) am ac) (some 106) (fun o ho W hSw => ?z44) (hHeld) ?_
         case z44 => cases ho; simp [execOp, go_sem, Act.eval]
         simp only [Act.put, zzA, zzB, zzC]; refine hTk (i := 2) (v := .pointer (some ⟨ga, 1, none⟩)) (some 107) (fun o ho W hSw => ?z45) (hHeld) ?_
         case z45 => cases ho; simp [execOp, go_sem, Act.eval, haI, haN]
         simp only [Act.put, zzA, zzB, zzC]; refine hTk (i := 3) (v := .slice kq kn kc) (some 108) (fun o ho W hSw => ?z46) (hHeld) ?_
         case z46 => cases ho; obtain ⟨s0, s1, s2, s3⟩ := hSw; simp [execOp, go_sem, Act.eval, s0]
         simp only [Act.put, zzA, zzB, zzC]; refine hTk (i := 4) (v := .agg #[.slice nq nl nc, .int .i64 p1, .int .i64 p2]) (some 109) (fun o ho W hSw => ?z47) (hHeld) ?_
         case z47 => cases ho; obtain ⟨s0, s1, s2, s3⟩ := hSw; simp [execOp, go_sem, Act.eval, s1, s2, s3]
         simp only [Act.put, zzA, zzB, zzC]; refine hTk (i := 6) (v := .agg #[.slice nq nl nc, .int .i64 p1, .int .i64 p2]) (some 111) (fun o ho W hSw => ?z48) (hHeld) ?_
         case z48 => cases ho; obtain ⟨s0, s1, s2, s3⟩ := hSw; simp [execOp, go_sem, Act.eval, s1, s2, s3]
         simp only [Act.put, zzA, zzB, zzC]; refine hCallE (i := 5) (f := 101) (args := #[.agg #[.slice nq nl nc, .int .i64 p1, .int .i64 p2]]) (some 110) (by kernel_rfl) (by kernel_rfl) (by kernel_rfl) (fun o ho => ?yc5) (HRG.out _) (fun u w7 hu => ?_) (fun ch w' h => by cases h.1) (fun w' h => by cases h.1)
         case yc5 => cases ho; simp [execOp, go_sem, Act.eval]
         obtain ⟨hu, hb5⟩ := hu
         cases hu
         have H4w7 : Hid (Below w6.heap.size w6 w7) := Below.on (⟨rfl, rfl, rfl, Nat.le_refl _, fun _ _ => rfl⟩ : Below w6.heap.size w6 w6.drew) hb5; have hHeld := HSP.out w7 H4w7.out; refine ⟨hHeld, ?_⟩; clear hb5; simp only [Act.put, zzA, zzB, zzC]; refine hCallE (i := 7) (f := 100) (args := #[.pointer (some ⟨ob, 0, none⟩), .slice kq kn kc, .int .i64 rp, .bool false, .agg #[.slice nq nl nc, .int .i64 p1, .int .i64 p2]]) (some 112) (by kernel_rfl) (by kernel_rfl) (by kernel_rfl) (fun o ho => ?yc7) (HOZs.out kq kn kc w7 HTW.out (Below.on (Below.on (Below.on HW0.out HB2.out) HB3.out) (Below.on H3w6.out H4w7.out))) (fun u w8 hu => ?_) (fun ch w' h => by cases h.1) (fun w' h => by cases h.1)
         case yc7 => cases ho; simp [execOp, go_sem, Act.eval]
         obtain ⟨hu, hb6⟩ := hu
         cases hu
         have H4w8 : Hid (Below w6.heap.size w6 w8) := Below.on H4w7.out hb6; have H3w8 : Hid (Below w3.heap.size w3 w8) := Below.on H3w6.out H4w8.out; have hHeld := HSP.out w8 H4w8.out; refine ⟨hHeld, ?_⟩; clear hb6; simp only [Act.put, zzA, zzB, zzC]; refine hTk (i := 8) (v := .string sZ) (some 16) (fun o ho W hSw => ?z49) (hHeld) ?_
         case z49 => cases ho; simp [execOp, go_sem, Act.eval]
         simp only [Act.put, zzA, zzB, zzC]; refine wpAnyH_done (by kernel_rfl) ?_ _; obtain ⟨b0, b1, b2⟩ := HBX.out w8 H3w8.out; have H0w8 : Hid (Below W0.heap.size W0 w8) := Below.on (Below.on (Below.on HW0.out HB2.out) HB3.out) H3w8.out
         obtain ⟨sH, esH⟩ : ∃ s, s = strOfNums (gapW (atomW q on) X1) := ⟨_, rfl⟩
         have HGPsH : Hid (∀ W, Calls Tryz.prog 102 #[.string sA, .string sZ] W fun e w' => e = .returned (.string sH) ∧ w' = W) := fun W => by
          have h9 := gap_any (atomW q on) X1 HNB.out.1 HZB.out.1 (by have := HNB.out.2; omega) (by have := HZB.out.2; omega) W; rw [HNT.out, HSZ.out, esH]; exact h9
         have hzsH : sH.size ≤ 1 := by rw [esH, strOfNums_size]; exact (gap_good _ _).2
         have HEsH : Hid (sH = strOfNums (gapW (atomW q on) X1)) := esH; clear esH; go_wp2_with fail; refine (HGPsH.out _).mono ?_; rintro e w9 ⟨rfl, hw9⟩; rw [hw9]; clear hw9 w9; have HS9 := HSPC.out w8 H0w8.out; rw [HSPV.out] at HS9; go_wp2_with fail; refine HS9.mono ?_; rintro e w9 ⟨rfl, hw9⟩; rw [hw9]; clear hw9 w9 HS9
         have HG8 : Hid ((⟨#[32]⟩ : ByteArray) = strOfNums (midGap op NW X1)) := by show _ = _; rw [HMG.out, HNE.out, if_pos (by trivial)]; rfl
         have HOUT : Hid (sY ++ (⟨#[32]⟩ : ByteArray) ++ sA ++ ((⟨#[32]⟩ : ByteArray) ++ sZ) = strOfNums OW) := by show _ = _; rw [HPU.out.2.2 hpre hinf, ← str_app, ← str_app (midGap op NW X1), ← HO1.out, ← HG8.out, ← HSZ.out]
         have hz3 : ((⟨#[32]⟩ : ByteArray) ++ sZ).size ≤ 2300000001 := by rw [ByteArray.size_append]; omega
         have HPAR : Hid ((⟨#[40]⟩ : ByteArray) ++ (sY ++ (⟨#[32]⟩ : ByteArray) ++ sA ++ ((⟨#[32]⟩ : ByteArray) ++ sZ)) ++ ⟨#[41]⟩ = strOfNums (parW OW)) := par_str _ OW HOUT.out
         have hzo : (sY ++ (⟨#[32]⟩ : ByteArray) ++ sA ++ ((⟨#[32]⟩ : ByteArray) ++ sZ)).size ≤ 6900000000 := by simp only [ByteArray.size_append]; omega
         have hzp : ((⟨#[40]⟩ : ByteArray) ++ (sY ++ (⟨#[32]⟩ : ByteArray) ++ sA ++ ((⟨#[32]⟩ : ByteArray) ++ sZ))).size ≤ 6900000001 := by rw [ByteArray.size_append]; omega
         by_cases hp : pr < p1
         ·have HR : Hid (CW = parW OW) := by show _ = _; rw [HCW.out, if_pos hp]
          go_wp2_with fail
          all_goals go_ret
          all_goals exact ⟨by rw [HR.out, ← HPAR.out]; rfl, Below.on (Below.on HB2.out HB3.out) H3w8.out⟩
         ·have HR : Hid (CW = OW) := by show _ = _; rw [HCW.out, if_neg hp]
          go_wp2_with fail
          all_goals go_ret
          all_goals exact ⟨by rw [HR.out, ← HOUT.out]; rfl, Below.on (Below.on HB2.out HB3.out) H3w8.out⟩
     | false =>
       have HS9 := HSPC.out w6 H0w6.out; rw [hsp] at HS9 HPG HMG; have HSPV : Hid (spacedB on = false) := hsp; clear hsp; go_wp2_with fail; refine HS9.mono ?_; rintro e w9 ⟨rfl, hw9⟩; rw [hw9]; clear hw9 w9 HS9
       have HG9 : Hid (sG = strOfNums (midGap op Y0 NW)) := by show _ = _; rw [HMG.out, HNE.out, if_neg (by decide)]; exact HEsG.out
       have HO1 : Hid (sY ++ sG ++ sA = strOfNums (Y0 ++ midGap op Y0 NW ++ NW)) := by show _ = _; rw [← str_app, ← str_app, ← HSY.out, ← HG9.out, HNE.out, ← HNT.out]
       have hz1 : (sY ++ sG).size ≤ 2300000001 := by rw [ByteArray.size_append]; omega
       have hz2 : (sY ++ sG ++ sA).size ≤ 2300000700 := by rw [ByteArray.size_append]; omega
       cases hinf : infB p2 with
       | false =>
         have HI9 := HINF.out w6; rw [hinf] at HI9; go_wp2_with fail
         all_goals refine HI9.mono ?_
         all_goals rintro e w9 ⟨rfl, hw9⟩
         all_goals rw [hw9]
         all_goals clear hw9 w9 HI9
         have HOUT : Hid (sY ++ sG ++ sA = strOfNums OW) := by show _ = _; rw [HPU.out.2.1 hpre hinf]; exact HO1.out
         have HPAR : Hid ((⟨#[40]⟩ : ByteArray) ++ (sY ++ sG ++ sA) ++ ⟨#[41]⟩ = strOfNums (parW OW)) := par_str _ OW HOUT.out
         have hzo : (sY ++ sG ++ sA).size ≤ 6900000000 := by simp only [ByteArray.size_append]; omega
         have hzp : ((⟨#[40]⟩ : ByteArray) ++ (sY ++ sG ++ sA)).size ≤ 6900000001 := by rw [ByteArray.size_append]; omega
         by_cases hp : pr < p1
         ·have HR : Hid (CW = parW OW) := by show _ = _; rw [HCW.out, if_pos hp]
          go_wp2_with fail
          all_goals go_ret
          all_goals exact ⟨by rw [HR.out, ← HPAR.out]; rfl, Below.on (Below.on HB2.out HB3.out) H3w6.out⟩
         ·have HR : Hid (CW = OW) := by show _ = _; rw [HCW.out, if_neg hp]
          go_wp2_with fail
          all_goals go_ret
          all_goals exact ⟨by rw [HR.out, ← HOUT.out]; rfl, Below.on (Below.on HB2.out HB3.out) H3w6.out⟩
       | true =>
         have HI9 := HINF.out w6; rw [hinf] at HI9; go_wp2_with fail
         all_goals refine HI9.mono ?_
         all_goals rintro e w9 ⟨rfl, hw9⟩
         all_goals rw [hw9]
         all_goals clear hw9 w9 HI9
         have HCC : Hid (t.2.count = 2) := HC2.out hpre hinf; have HXX := HX0.out.2.2 (by rw [HCC.out]; decide); have HZB : Hid (Byte X1 ∧ X1.length ≤ 2300000000) := HXX; clear HXX
         obtain ⟨sZ, esZ⟩ : ∃ s, s = strOfNums X1 := ⟨_, rfl⟩
         have HSZ : Hid (sZ = strOfNums X1) := esZ
         have hzZ : sZ.size ≤ 2300000000 := by rw [esZ, strOfNums_size]; exact HZB.out.2
         have HOZs : Hid (∀ kq kn kc W, TW W0 kq kn kc (kidW t 1) → Below W0.heap.size W0 W → Calls Tryz.prog 100 #[.pointer (some ⟨ob, 0, none⟩), .slice kq kn kc, .int .i64 rp, .bool false, .agg #[.slice nq nl nc, .int .i64 p1, .int .i64 p2]] W fun e w' => e = .returned (.string sZ) ∧ Below W.heap.size W w') := fun kq kn kc W h1 h2 => by rw [esZ]; exact HOX1.out (by rw [HCC.out]; decide) kq kn kc W h1 h2
         clear esZ; clear HTW HKA HSP haI haN hHeld; obtain ⟨hai, ga2, kq, kn, kc, hap, hka, htw⟩ := HKID.out 1 (by rw [HCC.out]; decide) w2 (some ⟨ga, 0, none⟩) am HA2.out
         have hga : ga = ga2 := by injection hap with h1; injection h1
         subst hga; clear hap b0 b1 b2; have HTW : Hid (TW W0 kq kn kc (kidW t 1)) := htw; have HKA : Hid (w2.cell? ⟨ga, 1, none⟩ = some (.slice kq kn kc)) := hka
         have HSP : Hid (∀ W, Below w6.heap.size w6 W → W.cell? ⟨ga, 1, none⟩ = some (.slice kq kn kc) ∧ W.cell? ⟨w2.heap.size, 0, none⟩ = some (.slice nq nl nc) ∧ W.cell? ⟨w2.heap.size, 1, none⟩ = some (.int .i64 p1) ∧ W.cell? ⟨w2.heap.size, 2, none⟩ = some (.int .i64 p2)) := fun W hW => by
          have h9 := Below.on HB3.out (Below.on H3w6.out hW); exact ⟨(h9.cell (World.block_lt_of_cell? _ _ HKA.out)).trans HKA.out, HBX.out W (Below.on H3w6.out hW)⟩
         have haI : (1 : Int) < (am : Int) := by omega
         have haN : 1 < am := hai; clear htw hka hai; go_wp2_with fail; refine wp_region_held_drew (S := (fun W => W.cell? ⟨ga, 1, none⟩ = some (.slice kq kn kc) ∧ W.cell? ⟨w2.heap.size, 0, none⟩ = some (.slice nq nl nc) ∧ W.cell? ⟨w2.heap.size, 1, none⟩ = some (.int .i64 p1) ∧ W.cell? ⟨w2.heap.size, 2, none⟩ = some (.int .i64 p2))) (by kernel_rfl) (HSP.out w6.drew ⟨rfl, rfl, rfl, Nat.le_refl _, fun _ _ => rfl⟩) (fun hHeld => ?_); refine hTk (i := 0) (v := .pointer (some ⟨ob, 0, none⟩)) (some 105) (fun o ho W hSw => ?z50) (hHeld) ?_
         case z50 => cases ho; simp [execOp, go_sem, Act.eval]
         simp only [Act.put, zzA, zzB, zzC]; refine hTk (i := 1) (v := .slice (some ⟨ga, 0, none⟩) am ac) (some 106) (fun o ho W hSw => ?z51) (hHeld) ?_
         case z51 => cases ho; simp [execOp, go_sem, Act.eval]
         simp only [Act.put, zzA, zzB, zzC]; refine hTk (i := 2) (v := .pointer (some ⟨ga, 1, none⟩)) (some 107) (fun o ho W hSw => ?z52) (hHeld) ?_
         case z52 => cases ho; simp [execOp, go_sem, Act.eval, haI, haN]
         simp only [Act.put, zzA, zzB, zzC]; refine hTk (i := 3) (v := .slice kq kn kc) (some 108) (fun o ho W hSw => ?z53) (hHeld) ?_
         case z53 => cases ho; obtain ⟨s0, s1, s2, s3⟩ := hSw; simp [execOp, go_sem, Act.eval, s0]
         simp only [Act.put, zzA, zzB, zzC]; refine hTk (i := 4) (v := .agg #[.slice nq nl nc, .int .i64 p1, .int .i64 p2]) (some 109) (fun o ho W hSw => ?z54) (hHeld) ?_
         case z54 => cases ho; obtain ⟨s0, s1, s2, s3⟩ := hSw; simp [execOp, go_sem, Act.eval, s1, s2, s3]
         simp only [Act.put, zzA, zzB, zzC]; refine hTk (i := 6) (v := .agg #[.slice nq nl nc, .int .i64 p1, .int .i64 p2]) (some 111) (fun o ho W hSw => ?z55) (hHeld) ?_
         case z55 => cases ho; obtain ⟨s0, s1, s2, s3⟩ := hSw; simp [execOp, go_sem, Act.eval, s1, s2, s3]
         simp only [Act.put, zzA, zzB, zzC]; refine hCallE (i := 5) (f := 101) (args := #[.agg #[.slice nq nl nc, .int .i64 p1, .int .i64 p2]]) (some 110) (by kernel_rfl) (by kernel_rfl) (by kernel_rfl) (fun o ho => ?yc5) (HRG.out _) (fun u w7 hu => ?_) (fun ch w' h => by cases h.1) (fun w' h => by cases h.1)
         case yc5 => cases ho; simp [execOp, go_sem, Act.eval]
         obtain ⟨hu, hb5⟩ := hu
         cases hu
         have H4w7 : Hid (Below w6.heap.size w6 w7) := Below.on (⟨rfl, rfl, rfl, Nat.le_refl _, fun _ _ => rfl⟩ : Below w6.heap.size w6 w6.drew) hb5; have hHeld := HSP.out w7 H4w7.out; refine ⟨hHeld, ?_⟩; clear hb5; simp only [Act.put, zzA, zzB, zzC]; refine hCallE (i := 7) (f := 100) (args := #[.pointer (some ⟨ob, 0, none⟩), .slice kq kn kc, .int .i64 rp, .bool false, .agg #[.slice nq nl nc, .int .i64 p1, .int .i64 p2]]) (some 112) (by kernel_rfl) (by kernel_rfl) (by kernel_rfl) (fun o ho => ?yc7) (HOZs.out kq kn kc w7 HTW.out (Below.on (Below.on (Below.on HW0.out HB2.out) HB3.out) (Below.on H3w6.out H4w7.out))) (fun u w8 hu => ?_) (fun ch w' h => by cases h.1) (fun w' h => by cases h.1)
         case yc7 => cases ho; simp [execOp, go_sem, Act.eval]
         obtain ⟨hu, hb6⟩ := hu
         cases hu
         have H4w8 : Hid (Below w6.heap.size w6 w8) := Below.on H4w7.out hb6; have H3w8 : Hid (Below w3.heap.size w3 w8) := Below.on H3w6.out H4w8.out; have hHeld := HSP.out w8 H4w8.out; refine ⟨hHeld, ?_⟩; clear hb6; simp only [Act.put, zzA, zzB, zzC]; refine hTk (i := 8) (v := .string sZ) (some 16) (fun o ho W hSw => ?z56) (hHeld) ?_
         case z56 => cases ho; simp [execOp, go_sem, Act.eval]
         simp only [Act.put, zzA, zzB, zzC]; refine wpAnyH_done (by kernel_rfl) ?_ _; obtain ⟨b0, b1, b2⟩ := HBX.out w8 H3w8.out; have H0w8 : Hid (Below W0.heap.size W0 w8) := Below.on (Below.on (Below.on HW0.out HB2.out) HB3.out) H3w8.out
         obtain ⟨sH, esH⟩ : ∃ s, s = strOfNums (gapW (atomW q on) X1) := ⟨_, rfl⟩
         have HGPsH : Hid (∀ W, Calls Tryz.prog 102 #[.string sA, .string sZ] W fun e w' => e = .returned (.string sH) ∧ w' = W) := fun W => by
          have h9 := gap_any (atomW q on) X1 HNB.out.1 HZB.out.1 (by have := HNB.out.2; omega) (by have := HZB.out.2; omega) W; rw [HNT.out, HSZ.out, esH]; exact h9
         have hzsH : sH.size ≤ 1 := by rw [esH, strOfNums_size]; exact (gap_good _ _).2
         have HEsH : Hid (sH = strOfNums (gapW (atomW q on) X1)) := esH; clear esH; go_wp2_with fail; refine (HGPsH.out _).mono ?_; rintro e w9 ⟨rfl, hw9⟩; rw [hw9]; clear hw9 w9; have HS9 := HSPC.out w8 H0w8.out; rw [HSPV.out] at HS9; go_wp2_with fail; refine HS9.mono ?_; rintro e w9 ⟨rfl, hw9⟩; rw [hw9]; clear hw9 w9 HS9
         have HG8 : Hid (sH = strOfNums (midGap op NW X1)) := by show _ = _; rw [HMG.out, HNE.out, if_neg (by decide)]; exact HEsH.out
         have HOUT : Hid (sY ++ sG ++ sA ++ (sH ++ sZ) = strOfNums OW) := by show _ = _; rw [HPU.out.2.2 hpre hinf, ← str_app, ← str_app (midGap op NW X1), ← HO1.out, ← HG8.out, ← HSZ.out]
         have hz3 : (sH ++ sZ).size ≤ 2300000001 := by rw [ByteArray.size_append]; omega
         have HPAR : Hid ((⟨#[40]⟩ : ByteArray) ++ (sY ++ sG ++ sA ++ (sH ++ sZ)) ++ ⟨#[41]⟩ = strOfNums (parW OW)) := par_str _ OW HOUT.out
         have hzo : (sY ++ sG ++ sA ++ (sH ++ sZ)).size ≤ 6900000000 := by simp only [ByteArray.size_append]; omega
         have hzp : ((⟨#[40]⟩ : ByteArray) ++ (sY ++ sG ++ sA ++ (sH ++ sZ))).size ≤ 6900000001 := by rw [ByteArray.size_append]; omega
         by_cases hp : pr < p1
         ·have HR : Hid (CW = parW OW) := by show _ = _; rw [HCW.out, if_pos hp]
          go_wp2_with fail
          all_goals go_ret
          all_goals exact ⟨by rw [HR.out, ← HPAR.out]; rfl, Below.on (Below.on HB2.out HB3.out) H3w8.out⟩
         ·have HR : Hid (CW = OW) := by show _ = _; rw [HCW.out, if_neg hp]
          go_wp2_with fail
          all_goals go_ret
          all_goals exact ⟨by rw [HR.out, ← HOUT.out]; rfl, Below.on (Below.on HB2.out HB3.out) H3w8.out⟩
end Go.Proofs.YtfgmenkoeflhaaaGreatDoor
