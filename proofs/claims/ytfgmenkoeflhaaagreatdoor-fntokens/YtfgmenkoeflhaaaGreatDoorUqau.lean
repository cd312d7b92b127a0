/- Texts of WtO. Own work of the verifier. -/
import Derived.Test.YtfgmenkoeflhaaaGreatDoorUqat
namespace Go.Proofs.YtfgmenkoeflhaaaGreatDoor
open Go Go.RowKit
set_option linter.unusedVariables false
set_option linter.unusedSimpArgs false
theorem par_str (s : ByteArray) (xs : List Int) (es : s = strOfNums xs) : (⟨#[40]⟩ : ByteArray) ++ s ++ ⟨#[41]⟩ = strOfNums (parW xs) := by
 have h1 : (⟨#[40]⟩ : ByteArray) = strOfNums [40] := rfl; have h2 : (⟨#[41]⟩ : ByteArray) = strOfNums [41] := rfl; rw [h1, h2, es, str_app, str_app]
 rfl
set_option maxRecDepth 100000 in
set_option maxHeartbeats 8000000 in
theorem operand_any {W0 : World} {ob : Nat} {po : Option Addr} {co : Nat} {T : List Cel} {pn : Option Addr} {cn : Nat} {N : List (List Int)} {q : Bool} (hE : WEnv W0 ob po co T pn cn N q) (rec : Tr → Int → List Int) (t : Tr) (pr : Int) (left : Bool) (op : Cel) (pq : Option Addr) (on oc : Nat) (tq : Option Addr) (n c : Nat) (w : World) (hw : Below W0.heap.size W0 w) (ht : t.fo.ok) (hl : (itC t).length ≤ 2000) (hin : TW W0 tq n c t) (hR : (rec t pr).length ≤ 3000000000)
 (hT : ∀ W, Below W0.heap.size W0 W → Calls Tryz.prog 56 #[.pointer (some ⟨ob, 0, none⟩), .slice tq n c, .int .i64 pr] W (StrO (rec t pr) W)) :
 Calls Tryz.prog 100 #[.pointer (some ⟨ob, 0, none⟩), .slice tq n c, .int .i64 pr, .bool left, .agg #[.slice pq on oc, .int .i64 op.1, .int .i64 op.2.1]] w (StrO (operandW rec T t pr left op) w) := by
 have HT : Hid (∀ W, Below W0.heap.size W0 W → Calls Tryz.prog 56 #[.pointer (some ⟨ob, 0, none⟩), .slice tq n c, .int .i64 pr] W (StrO (rec t pr) W)) := hT
 have HTOP : Hid (∀ W, Below W0.heap.size W0 W → Calls Tryz.prog 98 #[.pointer (some ⟨ob, 0, none⟩), .slice tq n c] W (TopO T t.1 W)) := fun W hW => top_any (hE.below hW) t tq n c ht hl (hin.below hW)
 have hn0 : 0 < n := by rw [hin.1]; simp [itC]
 have hn0i : (0 : Int) < (n : Int) := by omega
 obtain ⟨b, oo, rfl, hcs⟩ := hin.2.2.2 (by simp [itC]); obtain ⟨tp, tc, d0, d1, d2, d3⟩ := hcs 0 (by simp [itC]); simp only [itC, List.getD_cons_zero, Nat.zero_mul, Nat.add_zero] at d0 d1 d2 d3
 have HF : Hid (∀ pf V, Below W0.heap.size W0 V → ∀ W, Below V.heap.size V W → Calls Tryz.prog 117 #[.slice po T.length co, .slice tp t.1.2.2.length tc, .bool pf] W fun e w' => e = .returned (.int .i64 (findW T t.1.2.2 pf)) ∧ w'.cell? ⟨ob, 0, none⟩ = some (.slice po T.length co) ∧ w'.cell? ⟨b, oo + 2, none⟩ = some (.slice tp t.1.2.2.length tc) ∧ Hid (Below V.heap.size V w')) := fun pf V hV W hW => findW_any (hE.below hV) tp t.1.2.2.length tc t.1.2.2 pf b (oo + 2) rfl (d3.below hV) ((hV.cell (World.block_lt_of_cell? _ _ d2)).trans d2) W hW
 have HC : Hid (∀ W, Below W0.heap.size W0 W → W.cell? ⟨b, oo, none⟩ = some (.int .i64 t.1.1) ∧ W.cell? ⟨b, oo + 2, none⟩ = some (.slice tp t.1.2.2.length tc) ∧ W.cell? ⟨ob, 0, none⟩ = some (.slice po T.length co)) := fun W hW => ⟨(hW.cell (World.block_lt_of_cell? _ _ d0)).trans d0, (hW.cell (World.block_lt_of_cell? _ _ d2)).trans d2, (hW.cell (World.block_lt_of_cell? _ _ hE.c0)).trans hE.c0⟩
 have HOP : Hid (∀ j, j < T.length → ∃ bp op', po = some ⟨bp, op', none⟩ ∧ ∀ W, Below W0.heap.size W0 W → W.cell? ⟨bp, op' + j * 3 + 1, none⟩ = some (.int .i64 (opW T (j : Int)).1) ∧ W.cell? ⟨bp, op' + j * 3 + 2, none⟩ = some (.int .i64 (opW T (j : Int)).2.1)) := fun j hj => by
  obtain ⟨bp, op', e, h⟩ := hE.ops (by omega); obtain ⟨_, _, h1, h2, _, _⟩ := h j hj; refine ⟨bp, op', e, fun W hW => ?_⟩
  have e2 : opW T (j : Int) = T.getD j Cel.none := by simp [opW]
  rw [e2]; exact ⟨(hW.cell (World.block_lt_of_cell? _ _ h1)).trans h1, (hW.cell (World.block_lt_of_cell? _ _ h2)).trans h2⟩
 have hol := hE.olen
 have HTR : Hid (topI T t.1 = -1 ∨ ∃ j : Nat, j < T.length ∧ topI T t.1 = (j : Int)) := by
  by_cases h0 : 0 ≤ topI T t.1
  ·obtain ⟨_, _, _, j, hj, e, _⟩ := top_facts h0
   exact .inr ⟨j, hj, e⟩
  ·left
   unfold topI at h0 ⊢
   have f1 := find_rng T t.1.2.2 true; have f2 := find_rng T t.1.2.2 false
   repeat' split at h0
   all_goals first
    | rfl
    | (rcases f1 with f | ⟨j, _, f⟩ <;> rcases f2 with g | ⟨i, _, g⟩ <;> simp_all <;> omega)
 have HATOM : Hid (t.1.1 = 2 → topI T t.1 = -1) := fun h => by unfold topI; rw [if_pos (.inl (by rw [h]; decide))]
 have HOW : Hid (operandW rec T t pr left op = if t.1.1 = 2 ∧ (0 ≤ findW T t.1.2.2 true ∨ 0 ≤ findW T t.1.2.2 false) then parW (rec t pr) else if left = true ∧ 0 ≤ topI T t.1 ∧ (opW T (topI T t.1)).1 = op.1 ∧ pr = op.1 ∧ ((opW T (topI T t.1)).2.1 = 1 ∨ (opW T (topI T t.1)).2.1 = 3) then parW (rec t pr) else rec t pr) := rfl
 obtain ⟨OW, eOW⟩ : ∃ OW, OW = operandW rec T t pr left op := ⟨_, rfl⟩
 rw [← eOW] at HOW ⊢
 obtain ⟨R, eR⟩ : ∃ R, R = rec t pr := ⟨_, rfl⟩
 rw [← eR] at HT HOW hR
 obtain ⟨S, eS⟩ : ∃ S, S = strOfNums R := ⟨_, rfl⟩
 have hSz : S.size ≤ 3000000000 := by rw [eS, strOfNums_size]; exact hR
 have HPAR : Hid ((⟨#[40]⟩ : ByteArray) ++ S ++ ⟨#[41]⟩ = strOfNums (parW R)) := par_str S R eS; have HES : Hid (S = strOfNums R) := eS
 have HFR : Hid ((findW T t.1.2.2 true = -1 ∨ ∃ j, j < T.length ∧ findW T t.1.2.2 true = (j : Nat)) ∧ (findW T t.1.2.2 false = -1 ∨ ∃ j, j < T.length ∧ findW T t.1.2.2 false = (j : Nat))) := ⟨find_rng T _ _, find_rng T _ _⟩
 have HW0 : Hid (Below W0.heap.size W0 w) := hw
 obtain ⟨k0, ek0⟩ : ∃ k, k = t.1.1 := ⟨_, rfl⟩
 obtain ⟨l, el⟩ : ∃ l, l = t.1.2.2.length := ⟨_, rfl⟩
 obtain ⟨TL, eTL⟩ : ∃ TL, TL = T.length := ⟨_, rfl⟩
 have HTL : Hid (TL = T.length) := eTL; have HK0 : Hid (k0 = t.1.1) := ek0
 obtain ⟨p1, ep1⟩ : ∃ x, x = op.1 := ⟨_, rfl⟩
 obtain ⟨p2, ep2⟩ : ∃ x, x = op.2.1 := ⟨_, rfl⟩
 rw [← ep1] at HOW; rw [← ep1, ← ep2]; rw [← ek0] at HC HOW HATOM; rw [← el, ← eTL] at HF HC; rw [← eTL] at hol HOP HTR HFR
 obtain ⟨f1, ef1⟩ : ∃ x, x = findW T t.1.2.2 true := ⟨_, rfl⟩
 obtain ⟨f2, ef2⟩ : ∃ x, x = findW T t.1.2.2 false := ⟨_, rfl⟩
 have HF1 : Hid (∀ V, Below W0.heap.size W0 V → ∀ W, Below V.heap.size V W → Calls Tryz.prog 117 #[.slice po TL co, .slice tp l tc, .bool true] W fun e w' => e = .returned (.int .i64 f1) ∧ w'.cell? ⟨ob, 0, none⟩ = some (.slice po TL co) ∧ w'.cell? ⟨b, oo + 2, none⟩ = some (.slice tp l tc) ∧ w'.cell? ⟨b, oo, none⟩ = some (.int .i64 k0) ∧ Hid (Below V.heap.size V w')) := fun V hV W hW => (HF.out true V hV W hW).mono fun e w' ⟨h1, h2, h3, h4⟩ => ⟨by rw [ef1]; exact h1, h2, h3, (HC.out w' (Below.on hV h4.out)).1, h4⟩
 have HF2 : Hid (∀ V, Below W0.heap.size W0 V → ∀ W, Below V.heap.size V W → Calls Tryz.prog 117 #[.slice po TL co, .slice tp l tc, .bool false] W fun e w' => e = .returned (.int .i64 f2) ∧ w'.cell? ⟨ob, 0, none⟩ = some (.slice po TL co) ∧ w'.cell? ⟨b, oo + 2, none⟩ = some (.slice tp l tc) ∧ w'.cell? ⟨b, oo, none⟩ = some (.int .i64 k0) ∧ Hid (Below V.heap.size V w')) := fun V hV W hW => (HF.out false V hV W hW).mono fun e w' ⟨h1, h2, h3, h4⟩ => ⟨by rw [ef2]; exact h1, h2, h3, (HC.out w' (Below.on hV h4.out)).1, h4⟩
 rw [← ef1, ← ef2] at HOW HFR
 obtain ⟨ti, eti⟩ : ∃ x, x = topI T t.1 := ⟨_, rfl⟩
 have HTI : Hid (∀ W, Below W0.heap.size W0 W → Calls Tryz.prog 98 #[.pointer (some ⟨ob, 0, none⟩), .slice (some ⟨b, oo, none⟩) n c] W fun e w' => e = .returned (.int .i64 ti) ∧ Below W.heap.size W w') := fun W hW => by rw [eti]; exact HTOP.out W hW
 rw [← eti] at HOW HTR HATOM; clear hcs ht hl hin hE d0 d1 d2 d3 el ek0 eTL ep1 ep2 ef1 ef2 eti eR eS eOW hT hw hR HF HTOP
 obtain ⟨wa, ewa⟩ : ∃ wa, wa = w.alloc (.cells #[.slice pq on oc, .int .i64 p1, .int .i64 p2] 94) := ⟨_, rfl⟩
 have HWA : Hid (Below w.heap.size w wa) := by rw [ewa]; exact (Below.refl _ _).alloc (Nat.le_refl _) _
 have HBOX : Hid (∀ W, Below wa.heap.size wa W → W.cell? ⟨w.heap.size, 1, none⟩ = some (.int .i64 p1)) := fun W hW => by
  have h1 : wa.cell? ⟨w.heap.size, 1, none⟩ = some (.int .i64 p1) := by
   have hnew := heap_alloc_new w (.cells #[.slice pq on oc, .int .i64 p1, .int .i64 p2] 94); rw [ewa]; simp only [World.cell?]; rw [hnew]; rfl
  exact (hW.cell (World.block_lt_of_cell? _ _ h1)).trans h1
 have HTA := HT.out wa (Below.on HW0.out HWA.out)
 have hsz2 : ((⟨#[40]⟩ : ByteArray) ++ S).size ≤ 3000000001 := by rw [ByteArray.size_append]; have : (⟨#[40]⟩ : ByteArray).size = 1 := rfl; omega
 rw [ewa] at HTA
 go_enter Tryz.func100, Tryz.ntmps100
 go_wp2_with fail; refine HTA.mono ?_; rintro e w1 ⟨rfl, hb1⟩; rw [← HES.out]; rw [← ewa] at hb1; have HA1 : Hid (Below wa.heap.size wa w1) := hb1; have H01 : Hid (Below W0.heap.size W0 w1) := Below.on (Below.on HW0.out HWA.out) hb1; obtain ⟨d0, d2, c0⟩ := HC.out w1 H01.out; have d0d : w1.drew.cell? ⟨b, oo, none⟩ = some (.int .i64 k0) := d0; have d2d : w1.drew.cell? ⟨b, oo + 2, none⟩ = some (.slice tp l tc) := d2; have c0d : w1.drew.cell? ⟨ob, 0, none⟩ = some (.slice po TL co) := c0
 have H1D : Hid (Below w1.heap.size w1 w1.drew) := ⟨rfl, rfl, rfl, Nat.le_refl _, fun _ _ => rfl⟩
 clear hb1 HTA
 by_cases hk : k0 = 2
 ·subst hk
  have HTIA : Hid (ti = -1) := HATOM.out rfl; obtain ⟨hf1, hf2⟩ := HFR.out; have HC1 := HF1.out w1 H01.out w1.drew H1D.out
  rcases hf1 with hf1 | ⟨j1, hj1, hf1⟩
  ·subst hf1
   rcases hf2 with hf2 | ⟨j2, hj2, hf2⟩
   ·subst hf2
    have HW2 : Hid (OW = if left = true ∧ 0 ≤ ti ∧ (opW T ti).1 = p1 ∧ pr = p1 ∧ ((opW T ti).2.1 = 1 ∨ (opW T ti).2.1 = 3) then parW R else R) := by show _ = _; rw [HOW.out, if_neg (fun h => h.2.elim (by decide) (by decide))]
    have HF2v : Hid _ := HF2.out w1 H01.out; go_wp2_with fail
    go_region_held3 (fun W => W.cell? ⟨ob, 0, none⟩ = some (.slice po TL co) ∧ W.cell? ⟨b, oo + 2, none⟩ = some (.slice tp l tc) ∧ W.cell? ⟨b, oo, none⟩ = some (.int .i64 2)) (exact ⟨by assumption, by assumption, by assumption⟩) ((first | (go_at_call 117; refine HC1.mono ?_; rintro e w2 ⟨rfl, q1, q2, q3, HB2⟩; clear HC1; have HC2 := HF2v.out w2 HB2.out) | (go_at_call 117; refine HC2.mono ?_; rintro e w4 ⟨rfl, q4, q5, q6, HB4⟩)))
    have H04 : Hid (Below W0.heap.size W0 w4) := Below.on H01.out HB4.out; have HA4 : Hid (Below wa.heap.size wa w4) := Below.on HA1.out HB4.out; have HTB := HTI.out w4 H04.out; go_wp2_with fail; refine HTB.mono ?_; rintro e w3 ⟨rfl, hb3⟩; have H03 : Hid (Below W0.heap.size W0 w3) := Below.on H04.out hb3; have HA3 : Hid (Below wa.heap.size wa w3) := Below.on HA4.out hb3
    have HFIN : Hid (∀ xs, OW = xs → ∀ s, s = strOfNums xs → ∀ w', Below w3.heap.size w3 w' → StrO OW w (.returned (.string s)) w') := fun xs e1 s e2 w' hw => ⟨by rw [e1, e2], Below.on (Below.on HWA.out HA3.out) hw⟩
    have H3D : Hid (Below w3.heap.size w3 w3.drew) := ⟨rfl, rfl, rfl, Nat.le_refl _, fun _ _ => rfl⟩
    clear hb3 HTB
    cases left with
    | false =>
      have HW : Hid (OW = R) := by show _ = _; rw [HW2.out, if_neg (fun h => by cases h.1)]
      go_wp2_with fail; refine wp_region_held_drew (S := fun _ => True) (by kernel_rfl) trivial (fun hHeld => ?_); refine hTk (i := 0) (v := .bool false) (some 52) (fun o ho W hSw => ?z1) (trivial) ?_
      case z1 => cases ho; simp [execOp, go_sem, Act.eval]
      simp only [Act.put, zzA, zzB, zzC]; refine hTk (i := 1) (v := .bool false) (some 53) (fun o ho W hSw => ?z2) (trivial) ?_
      case z2 => cases ho; simp [execOp, go_sem, Act.eval]
      simp only [Act.put, zzA, zzB, zzC]; refine hSk (i := 2) (some 54) (trivial) ?_; refine hSk (i := 3) (some 55) (trivial) ?_; simp only [Act.put, zzA, zzB, zzC]; refine hTk (i := 4) (v := .bool false) (some 56) (fun o ho W hSw => ?z3) (trivial) ?_
      case z3 => cases ho; simp [execOp, go_sem, Act.eval]
      simp only [Act.put, zzA, zzB, zzC]; refine hTk (i := 5) (v := .bool false) (some 57) (fun o ho W hSw => ?z4) (trivial) ?_
      case z4 => cases ho; simp [execOp, go_sem, Act.eval]
      simp only [Act.put, zzA, zzB, zzC]; refine hSk (i := 6) (some 58) (trivial) ?_; refine hSk (i := 7) (some 59) (trivial) ?_; refine hSk (i := 8) (some 60) (trivial) ?_; simp only [Act.put, zzA, zzB, zzC]; refine hSk (i := 9) (some 61) (trivial) ?_; refine hSk (i := 10) (some 62) (trivial) ?_; refine hSk (i := 11) (some 63) (trivial) ?_; refine hSk (i := 12) (some 64) (trivial) ?_
      simp only [Act.put, zzA, zzB, zzC]; refine hSk (i := 13) (some 65) (trivial) ?_; refine hSk (i := 14) (some 66) (trivial) ?_; refine hSk (i := 15) (some 67) (trivial) ?_; refine hSk (i := 16) (some 68) (trivial) ?_; simp only [Act.put, zzA, zzB, zzC]; refine hTk (i := 17) (v := .bool false) (some 69) (fun o ho W hSw => ?z5) (trivial) ?_
      case z5 => cases ho; simp [execOp, go_sem, Act.eval]
      simp only [Act.put, zzA, zzB, zzC]; refine hTk (i := 18) (v := .bool false) (some 70) (fun o ho W hSw => ?z6) (trivial) ?_
      case z6 => cases ho; simp [execOp, go_sem, Act.eval]
      simp only [Act.put, zzA, zzB, zzC]; refine hSk (i := 19) (some 71) (trivial) ?_; simp only [Act.put, zzA, zzB, zzC]; refine hSk (i := 20) (some 72) (trivial) ?_; refine hSk (i := 21) (some 73) (trivial) ?_; refine hSk (i := 22) (some 74) (trivial) ?_; simp only [Act.put, zzA, zzB, zzC]; refine hTk (i := 23) (v := .bool false) (some 75) (fun o ho W hSw => ?z7) (trivial) ?_
      case z7 => cases ho; simp [execOp, go_sem, Act.eval]
      simp only [Act.put, zzA, zzB, zzC]; refine hTk (i := 24) (v := .bool false) (some 76) (fun o ho W hSw => ?z8) (trivial) ?_
      case z8 => cases ho; simp [execOp, go_sem, Act.eval]
      simp only [Act.put, zzA, zzB, zzC]; refine hSk (i := 25) (some 77) (trivial) ?_; refine hSk (i := 26) (some 78) (trivial) ?_; simp only [Act.put, zzA, zzB, zzC]; refine hSk (i := 27) (some 79) (trivial) ?_; refine hSk (i := 28) (some 80) (trivial) ?_; refine hSk (i := 29) (some 81) (trivial) ?_; refine hSk (i := 30) (some 82) (trivial) ?_; simp only [Act.put, zzA, zzB, zzC]
      refine hSk (i := 31) (some 83) (trivial) ?_; refine hSk (i := 32) (some 84) (trivial) ?_; refine hSk (i := 33) (some 85) (trivial) ?_; refine hSk (i := 34) (some 86) (trivial) ?_; simp only [Act.put, zzA, zzB, zzC]; refine hSk (i := 35) (some 87) (trivial) ?_; refine hSk (i := 36) (some 88) (trivial) ?_; refine hSk (i := 37) (some 89) (trivial) ?_; refine hSk (i := 38) (some 90) (trivial) ?_; simp only [Act.put, zzA, zzB, zzC]; refine hSk (i := 39) (some 91) (trivial) ?_; refine hSk (i := 40) (some 92) (trivial) ?_; refine hSk (i := 41) (some 93) (trivial) ?_; refine hSk (i := 42) (some 94) (trivial) ?_; simp only [Act.put, zzA, zzB, zzC]; refine hSk (i := 43) (some 95) (trivial) ?_; refine hSk (i := 44) (some 96) (trivial) ?_; simp only [Act.put, zzA, zzB, zzC]
      refine hTk (i := 45) (v := .bool false) (some 97) (fun o ho W hSw => ?z9) (trivial) ?_
      case z9 => cases ho; simp [execOp, go_sem, Act.eval]
      simp only [Act.put, zzA, zzB, zzC]; refine wpAnyH_done (by kernel_rfl) ?_ _; go_wp2_with fail
      all_goals go_ret
      all_goals exact HFIN.out _ HW.out _ HES.out _ H3D.out
    | true =>
      rcases HTR.out with hti | ⟨j, hj, hti⟩
      ·subst hti
       have HW : Hid (OW = R) := by show _ = _; rw [HW2.out, if_neg (fun h => absurd h.2.1 (by decide))]
       go_wp2_with fail; refine wp_region_held_drew (S := fun _ => True) (by kernel_rfl) trivial (fun hHeld => ?_); refine hTk (i := 0) (v := .bool true) (some 52) (fun o ho W hSw => ?z10) (trivial) ?_
       case z10 => cases ho; simp [execOp, go_sem, Act.eval]
       simp only [Act.put, zzA, zzB, zzC]; refine hTk (i := 1) (v := .bool true) (some 53) (fun o ho W hSw => ?z11) (trivial) ?_
       case z11 => cases ho; simp [execOp, go_sem, Act.eval]
       simp only [Act.put, zzA, zzB, zzC]; refine hTk (i := 2) (v := .int .i64 (-1)) (some 54) (fun o ho W hSw => ?z12) (trivial) ?_
       case z12 => cases ho; simp [execOp, go_sem, Act.eval]
       simp only [Act.put, zzA, zzB, zzC]; refine hTk (i := 3) (v := .bool false) (some 55) (fun o ho W hSw => ?z13) (trivial) ?_
       case z13 => cases ho; simp [execOp, go_sem, Act.eval]
       simp only [Act.put, zzA, zzB, zzC]; refine hTk (i := 4) (v := .bool false) (some 56) (fun o ho W hSw => ?z14) (trivial) ?_
       case z14 => cases ho; simp [execOp, go_sem, Act.eval]
       simp only [Act.put, zzA, zzB, zzC]; refine hTk (i := 5) (v := .bool false) (some 57) (fun o ho W hSw => ?z15) (trivial) ?_
       case z15 => cases ho; simp [execOp, go_sem, Act.eval]
       simp only [Act.put, zzA, zzB, zzC]; refine hSk (i := 6) (some 58) (trivial) ?_; refine hSk (i := 7) (some 59) (trivial) ?_; refine hSk (i := 8) (some 60) (trivial) ?_; simp only [Act.put, zzA, zzB, zzC]; refine hSk (i := 9) (some 61) (trivial) ?_; refine hSk (i := 10) (some 62) (trivial) ?_; refine hSk (i := 11) (some 63) (trivial) ?_; refine hSk (i := 12) (some 64) (trivial) ?_
       simp only [Act.put, zzA, zzB, zzC]; refine hSk (i := 13) (some 65) (trivial) ?_; refine hSk (i := 14) (some 66) (trivial) ?_; refine hSk (i := 15) (some 67) (trivial) ?_; refine hSk (i := 16) (some 68) (trivial) ?_; simp only [Act.put, zzA, zzB, zzC]; refine hTk (i := 17) (v := .bool false) (some 69) (fun o ho W hSw => ?z16) (trivial) ?_
       case z16 => cases ho; simp [execOp, go_sem, Act.eval]
       simp only [Act.put, zzA, zzB, zzC]; refine hTk (i := 18) (v := .bool false) (some 70) (fun o ho W hSw => ?z17) (trivial) ?_
       case z17 => cases ho; simp [execOp, go_sem, Act.eval]
       simp only [Act.put, zzA, zzB, zzC]; refine hSk (i := 19) (some 71) (trivial) ?_; simp only [Act.put, zzA, zzB, zzC]; refine hSk (i := 20) (some 72) (trivial) ?_; refine hSk (i := 21) (some 73) (trivial) ?_; refine hSk (i := 22) (some 74) (trivial) ?_; simp only [Act.put, zzA, zzB, zzC]; refine hTk (i := 23) (v := .bool false) (some 75) (fun o ho W hSw => ?z18) (trivial) ?_
       case z18 => cases ho; simp [execOp, go_sem, Act.eval]
       simp only [Act.put, zzA, zzB, zzC]; refine hTk (i := 24) (v := .bool false) (some 76) (fun o ho W hSw => ?z19) (trivial) ?_
       case z19 => cases ho; simp [execOp, go_sem, Act.eval]
       simp only [Act.put, zzA, zzB, zzC]; refine hSk (i := 25) (some 77) (trivial) ?_; refine hSk (i := 26) (some 78) (trivial) ?_; simp only [Act.put, zzA, zzB, zzC]; refine hSk (i := 27) (some 79) (trivial) ?_; refine hSk (i := 28) (some 80) (trivial) ?_; refine hSk (i := 29) (some 81) (trivial) ?_; refine hSk (i := 30) (some 82) (trivial) ?_; simp only [Act.put, zzA, zzB, zzC]
       refine hSk (i := 31) (some 83) (trivial) ?_; refine hSk (i := 32) (some 84) (trivial) ?_; refine hSk (i := 33) (some 85) (trivial) ?_; refine hSk (i := 34) (some 86) (trivial) ?_; simp only [Act.put, zzA, zzB, zzC]; refine hSk (i := 35) (some 87) (trivial) ?_; refine hSk (i := 36) (some 88) (trivial) ?_; refine hSk (i := 37) (some 89) (trivial) ?_; refine hSk (i := 38) (some 90) (trivial) ?_; simp only [Act.put, zzA, zzB, zzC]; refine hSk (i := 39) (some 91) (trivial) ?_; refine hSk (i := 40) (some 92) (trivial) ?_; refine hSk (i := 41) (some 93) (trivial) ?_; refine hSk (i := 42) (some 94) (trivial) ?_; simp only [Act.put, zzA, zzB, zzC]; refine hSk (i := 43) (some 95) (trivial) ?_; refine hSk (i := 44) (some 96) (trivial) ?_; simp only [Act.put, zzA, zzB, zzC]
       refine hTk (i := 45) (v := .bool false) (some 97) (fun o ho W hSw => ?z20) (trivial) ?_
       case z20 => cases ho; simp [execOp, go_sem, Act.eval]
       simp only [Act.put, zzA, zzB, zzC]; refine wpAnyH_done (by kernel_rfl) ?_ _; go_wp2_with fail
       all_goals go_ret
       all_goals exact HFIN.out _ HW.out _ HES.out _ H3D.out
      ·exact absurd (HTIA.out.symm.trans hti) (by omega)
   ·subst hf2
    have HW : Hid (OW = parW R) := by show _ = _; rw [HOW.out, if_pos ⟨rfl, .inr (by omega)⟩]
    have hj20 : (0 : Int) ≤ (j2 : Int) := by omega
    have HF2v : Hid _ := HF2.out w1 H01.out; go_wp2_with fail
    go_region_held3 (fun W => W.cell? ⟨ob, 0, none⟩ = some (.slice po TL co) ∧ W.cell? ⟨b, oo + 2, none⟩ = some (.slice tp l tc) ∧ W.cell? ⟨b, oo, none⟩ = some (.int .i64 2)) (exact ⟨by assumption, by assumption, by assumption⟩) ((first | (go_at_call 117; refine HC1.mono ?_; rintro e w2 ⟨rfl, q1, q2, q3, HB2⟩; clear HC1; have HC2 := HF2v.out w2 HB2.out) | (go_at_call 117; refine HC2.mono ?_; rintro e w4 ⟨rfl, q4, q5, q6, HB4⟩)))
    go_wp2_with fail
    all_goals go_ret
    all_goals exact ⟨by rw [HW.out, ← HPAR.out]; rfl, Below.on HWA.out (Below.on HA1.out HB4.out)⟩
  ·subst hf1
   have HW : Hid (OW = parW R) := by show _ = _; rw [HOW.out, if_pos ⟨rfl, .inl (by omega)⟩]
   have hj10 : (0 : Int) ≤ (j1 : Int) := by omega
   go_wp2_with fail; refine wp_region_held_drew (S := (fun W => W.cell? ⟨ob, 0, none⟩ = some (.slice po TL co) ∧ W.cell? ⟨b, oo + 2, none⟩ = some (.slice tp l tc) ∧ W.cell? ⟨b, oo, none⟩ = some (.int .i64 2))) (by kernel_rfl) ⟨c0d, d2d, d0d⟩ (fun hHeld => ?_); refine hTk (i := 0) (v := .slice (some ⟨b, oo, none⟩) n c) (some 17) (fun o ho W hSw => ?z21) (hHeld) ?_
   case z21 => cases ho; simp [execOp, go_sem, Act.eval]
   simp only [Act.put, zzA, zzB, zzC]; refine hTk (i := 1) (v := .pointer (some ⟨b, oo, none⟩)) (some 18) (fun o ho W hSw => ?z22) (hHeld) ?_
   case z22 => cases ho; simp [execOp, go_sem, Act.eval, hn0i, hn0]
   simp only [Act.put, zzA, zzB, zzC]; refine hTk (i := 2) (v := .pointer (some ⟨b, oo, none⟩)) (some 19) (fun o ho W hSw => ?z23) (hHeld) ?_
   case z23 => cases ho; simp [execOp, go_sem, Act.eval]
   simp only [Act.put, zzA, zzB, zzC]; refine hTk (i := 3) (v := .int .i64 2) (some 20) (fun o ho W hSw => ?z24) (hHeld) ?_
   case z24 => cases ho; obtain ⟨s0, s1, s2⟩ := hSw; simp [execOp, go_sem, Act.eval, s2]
   simp only [Act.put, zzA, zzB, zzC]; refine hTk (i := 4) (v := .bool true) (some 21) (fun o ho W hSw => ?z25) (hHeld) ?_
   case z25 => cases ho; simp [execOp, go_sem, Act.eval]
   simp only [Act.put, zzA, zzB, zzC]; refine hTk (i := 5) (v := .bool true) (some 22) (fun o ho W hSw => ?z26) (hHeld) ?_
   case z26 => cases ho; simp [execOp, go_sem, Act.eval]
   simp only [Act.put, zzA, zzB, zzC]; refine hTk (i := 6) (v := .pointer (some ⟨ob, 0, none⟩)) (some 23) (fun o ho W hSw => ?z27) (hHeld) ?_
   case z27 => cases ho; simp [execOp, go_sem, Act.eval]
   simp only [Act.put, zzA, zzB, zzC]; refine hTk (i := 7) (v := .pointer (some ⟨ob, 0, none⟩)) (some 24) (fun o ho W hSw => ?z28) (hHeld) ?_
   case z28 => cases ho; simp [execOp, go_sem, Act.eval]
   simp only [Act.put, zzA, zzB, zzC]; refine hTk (i := 8) (v := .pointer (some ⟨ob, 0, none⟩)) (some 25) (fun o ho W hSw => ?z29) (hHeld) ?_
   case z29 => cases ho; simp [execOp, go_sem, Act.eval]
   simp only [Act.put, zzA, zzB, zzC]; refine hTk (i := 9) (v := .slice po TL co) (some 26) (fun o ho W hSw => ?z30) (hHeld) ?_
   case z30 => cases ho; obtain ⟨s0, s1, s2⟩ := hSw; simp [execOp, go_sem, Act.eval, s0]
   simp only [Act.put, zzA, zzB, zzC]; refine hTk (i := 10) (v := .slice (some ⟨b, oo, none⟩) n c) (some 27) (fun o ho W hSw => ?z31) (hHeld) ?_
   case z31 => cases ho; simp [execOp, go_sem, Act.eval]
   simp only [Act.put, zzA, zzB, zzC]; refine hTk (i := 11) (v := .pointer (some ⟨b, oo, none⟩)) (some 28) (fun o ho W hSw => ?z32) (hHeld) ?_
   case z32 => cases ho; simp [execOp, go_sem, Act.eval, hn0i, hn0]
   simp only [Act.put, zzA, zzB, zzC]; refine hTk (i := 12) (v := .pointer (some ⟨b, oo + 2, none⟩)) (some 29) (fun o ho W hSw => ?z33) (hHeld) ?_
   case z33 => cases ho; simp [execOp, go_sem, Act.eval]
   simp only [Act.put, zzA, zzB, zzC]; refine hTk (i := 13) (v := .slice tp l tc) (some 30) (fun o ho W hSw => ?z34) (hHeld) ?_
   case z34 => cases ho; obtain ⟨s0, s1, s2⟩ := hSw; simp [execOp, go_sem, Act.eval, s1]
   simp only [Act.put, zzA, zzB, zzC]; refine hCallE (i := 14) (f := 117) (args := #[.slice po TL co, .slice tp l tc, .bool true]) (some 31) (by kernel_rfl) (by kernel_rfl) (by kernel_rfl) (fun o ho => ?yc) HC1 (fun u w2 hu => ?_) (fun ch w' h => by cases h.1) (fun w' h => by cases h.1)
   case yc => cases ho; simp [execOp, go_sem, Act.eval]
   obtain ⟨hu, q1, q2, q3, HB2⟩ := hu
   cases hu
   refine ⟨⟨q1, q2, q3⟩, ?_⟩
   have hHeld : w2.cell? ⟨ob, 0, none⟩ = some (.slice po TL co) ∧ w2.cell? ⟨b, oo + 2, none⟩ = some (.slice tp l tc) ∧ w2.cell? ⟨b, oo, none⟩ = some (.int .i64 2) := ⟨q1, q2, q3⟩
   simp only [Act.put, zzA, zzB, zzC]; refine hTk (i := 15) (v := .bool true) (some 32) (fun o ho W hSw => ?z35) (hHeld) ?_
   case z35 => cases ho; simp [execOp, go_sem, Act.eval, hj10]
   simp only [Act.put, zzA, zzB, zzC]; refine hTk (i := 16) (v := .bool true) (some 33) (fun o ho W hSw => ?z36) (hHeld) ?_
   case z36 => cases ho; simp [execOp, go_sem, Act.eval]
   simp only [Act.put, zzA, zzB, zzC]; refine hSk (i := 17) (some 34) (hHeld) ?_; refine hSk (i := 18) (some 35) (hHeld) ?_; refine hSk (i := 19) (some 36) (hHeld) ?_; simp only [Act.put, zzA, zzB, zzC]; refine hSk (i := 20) (some 37) (hHeld) ?_; refine hSk (i := 21) (some 38) (hHeld) ?_; refine hSk (i := 22) (some 39) (hHeld) ?_; refine hSk (i := 23) (some 40) (hHeld) ?_
   simp only [Act.put, zzA, zzB, zzC]; refine hSk (i := 24) (some 41) (hHeld) ?_; refine hSk (i := 25) (some 42) (hHeld) ?_; refine hSk (i := 26) (some 43) (hHeld) ?_; simp only [Act.put, zzA, zzB, zzC]; refine hTk (i := 27) (v := .bool true) (some 44) (fun o ho W hSw => ?z37) (hHeld) ?_
   case z37 => cases ho; simp [execOp, go_sem, Act.eval]
   simp only [Act.put, zzA, zzB, zzC]; refine hTk (i := 28) (v := .bool true) (some 45) (fun o ho W hSw => ?z38) (hHeld) ?_
   case z38 => cases ho; simp [execOp, go_sem, Act.eval]
   simp only [Act.put, zzA, zzB, zzC]; refine wpAnyH_done (by kernel_rfl) ?_ _; go_wp2_with fail
   all_goals go_ret
   all_goals exact ⟨by rw [HW.out, ← HPAR.out]; rfl, Below.on HWA.out (Below.on HA1.out HB2.out)⟩
 ·skip
  have hkb : (k0 == 2) = false := by simpa using hk
  have HW2 : Hid (OW = if left = true ∧ 0 ≤ ti ∧ (opW T ti).1 = p1 ∧ pr = p1 ∧ ((opW T ti).2.1 = 1 ∨ (opW T ti).2.1 = 3) then parW R else R) := by show _ = _; rw [HOW.out, if_neg (fun h => hk h.1)]
  go_wp2_with fail; refine wp_region_held_drew (S := (fun W => W.cell? ⟨ob, 0, none⟩ = some (.slice po TL co) ∧ W.cell? ⟨b, oo + 2, none⟩ = some (.slice tp l tc) ∧ W.cell? ⟨b, oo, none⟩ = some (.int .i64 k0))) (by kernel_rfl) ⟨c0d, d2d, d0d⟩ (fun hHeld => ?_); refine hTk (i := 0) (v := .slice (some ⟨b, oo, none⟩) n c) (some 17) (fun o ho W hSw => ?z39) (hHeld) ?_
  case z39 => cases ho; simp [execOp, go_sem, Act.eval]
  simp only [Act.put, zzA, zzB, zzC]; refine hTk (i := 1) (v := .pointer (some ⟨b, oo, none⟩)) (some 18) (fun o ho W hSw => ?z40) (hHeld) ?_
  case z40 => cases ho; simp [execOp, go_sem, Act.eval, hn0i, hn0]
  simp only [Act.put, zzA, zzB, zzC]; refine hTk (i := 2) (v := .pointer (some ⟨b, oo, none⟩)) (some 19) (fun o ho W hSw => ?z41) (hHeld) ?_
  case z41 => cases ho; simp [execOp, go_sem, Act.eval]
  simp only [Act.put, zzA, zzB, zzC]; refine hTk (i := 3) (v := .int .i64 k0) (some 20) (fun o ho W hSw => ?z42) (hHeld) ?_
  case z42 => cases ho; obtain ⟨s0, s1, s2⟩ := hSw; simp [execOp, go_sem, Act.eval, s2]
  simp only [Act.put, zzA, zzB, zzC]; refine hTk (i := 4) (v := .bool false) (some 21) (fun o ho W hSw => ?z43) (hHeld) ?_
  case z43 => cases ho; simp [execOp, go_sem, Act.eval, hkb]
  simp only [Act.put, zzA, zzB, zzC]; refine hTk (i := 5) (v := .bool false) (some 22) (fun o ho W hSw => ?z44) (hHeld) ?_
  case z44 => cases ho; simp [execOp, go_sem, Act.eval]
  simp only [Act.put, zzA, zzB, zzC]; refine hSk (i := 6) (some 23) (hHeld) ?_; refine hSk (i := 7) (some 24) (hHeld) ?_; simp only [Act.put, zzA, zzB, zzC]; refine hSk (i := 8) (some 25) (hHeld) ?_; refine hSk (i := 9) (some 26) (hHeld) ?_; refine hSk (i := 10) (some 27) (hHeld) ?_; refine hSk (i := 11) (some 28) (hHeld) ?_; simp only [Act.put, zzA, zzB, zzC]; refine hSk (i := 12) (some 29) (hHeld) ?_; refine hSk (i := 13) (some 30) (hHeld) ?_; refine hSk (i := 14) (some 31) (hHeld) ?_; refine hSk (i := 15) (some 32) (hHeld) ?_; simp only [Act.put, zzA, zzB, zzC]; refine hSk (i := 16) (some 33) (hHeld) ?_; refine hSk (i := 17) (some 34) (hHeld) ?_; refine hSk (i := 18) (some 35) (hHeld) ?_; refine hSk (i := 19) (some 36) (hHeld) ?_
  simp only [Act.put, zzA, zzB, zzC]; refine hSk (i := 20) (some 37) (hHeld) ?_; refine hSk (i := 21) (some 38) (hHeld) ?_; refine hSk (i := 22) (some 39) (hHeld) ?_; refine hSk (i := 23) (some 40) (hHeld) ?_; simp only [Act.put, zzA, zzB, zzC]; refine hSk (i := 24) (some 41) (hHeld) ?_; refine hSk (i := 25) (some 42) (hHeld) ?_; refine hSk (i := 26) (some 43) (hHeld) ?_; refine hSk (i := 27) (some 44) (hHeld) ?_; simp only [Act.put, zzA, zzB, zzC]; refine hTk (i := 28) (v := .bool false) (some 45) (fun o ho W hSw => ?z45) (hHeld) ?_
  case z45 => cases ho; simp [execOp, go_sem, Act.eval]
  simp only [Act.put, zzA, zzB, zzC]; refine wpAnyH_done (by kernel_rfl) ?_ _; have H0D : Hid (Below W0.heap.size W0 w1.drew) := Below.on H01.out H1D.out; have HAD : Hid (Below wa.heap.size wa w1.drew) := Below.on HA1.out H1D.out; have HTB := HTI.out w1.drew H0D.out; go_wp2_with fail; refine HTB.mono ?_; rintro e w3 ⟨rfl, hb3⟩; have H03 : Hid (Below W0.heap.size W0 w3) := Below.on H0D.out hb3; have HA3 : Hid (Below wa.heap.size wa w3) := Below.on HAD.out hb3
  have HFIN : Hid (∀ xs, OW = xs → ∀ s, s = strOfNums xs → ∀ w', Below w3.heap.size w3 w' → StrO OW w (.returned (.string s)) w') := fun xs e1 s e2 w' hw => ⟨by rw [e1, e2], Below.on (Below.on HWA.out HA3.out) hw⟩
  have H3D : Hid (Below w3.heap.size w3 w3.drew) := ⟨rfl, rfl, rfl, Nat.le_refl _, fun _ _ => rfl⟩
  clear hb3 HTB
  cases left with
  | false =>
    have HW : Hid (OW = R) := by show _ = _; rw [HW2.out, if_neg (fun h => by cases h.1)]
    go_wp2_with fail; refine wp_region_held_drew (S := fun _ => True) (by kernel_rfl) trivial (fun hHeld => ?_); refine hTk (i := 0) (v := .bool false) (some 52) (fun o ho W hSw => ?z46) (trivial) ?_
    case z46 => cases ho; simp [execOp, go_sem, Act.eval]
    simp only [Act.put, zzA, zzB, zzC]; refine hTk (i := 1) (v := .bool false) (some 53) (fun o ho W hSw => ?z47) (trivial) ?_
    case z47 => cases ho; simp [execOp, go_sem, Act.eval]
    simp only [Act.put, zzA, zzB, zzC]; refine hSk (i := 2) (some 54) (trivial) ?_; simp only [Act.put, zzA, zzB, zzC]; refine hSk (i := 3) (some 55) (trivial) ?_; simp only [Act.put, zzA, zzB, zzC]; refine hTk (i := 4) (v := .bool false) (some 56) (fun o ho W hSw => ?z48) (trivial) ?_
    case z48 => cases ho; simp [execOp, go_sem, Act.eval]
    simp only [Act.put, zzA, zzB, zzC]; refine hTk (i := 5) (v := .bool false) (some 57) (fun o ho W hSw => ?z49) (trivial) ?_
    case z49 => cases ho; simp [execOp, go_sem, Act.eval]
    simp only [Act.put, zzA, zzB, zzC]; refine hSk (i := 6) (some 58) (trivial) ?_; refine hSk (i := 7) (some 59) (trivial) ?_; refine hSk (i := 8) (some 60) (trivial) ?_; refine hSk (i := 9) (some 61) (trivial) ?_; simp only [Act.put, zzA, zzB, zzC]; refine hSk (i := 10) (some 62) (trivial) ?_; refine hSk (i := 11) (some 63) (trivial) ?_; refine hSk (i := 12) (some 64) (trivial) ?_; refine hSk (i := 13) (some 65) (trivial) ?_; simp only [Act.put, zzA, zzB, zzC]; refine hSk (i := 14) (some 66) (trivial) ?_; refine hSk (i := 15) (some 67) (trivial) ?_; refine hSk (i := 16) (some 68) (trivial) ?_; simp only [Act.put, zzA, zzB, zzC]; refine hTk (i := 17) (v := .bool false) (some 69) (fun o ho W hSw => ?z50) (trivial) ?_
    case z50 => cases ho; simp [execOp, go_sem, Act.eval]
    simp only [Act.put, zzA, zzB, zzC]; refine hTk (i := 18) (v := .bool false) (some 70) (fun o ho W hSw => ?z51) (trivial) ?_
    case z51 => cases ho; simp [execOp, go_sem, Act.eval]
    simp only [Act.put, zzA, zzB, zzC]; refine hSk (i := 19) (some 71) (trivial) ?_; refine hSk (i := 20) (some 72) (trivial) ?_; simp only [Act.put, zzA, zzB, zzC]; refine hSk (i := 21) (some 73) (trivial) ?_; refine hSk (i := 22) (some 74) (trivial) ?_; simp only [Act.put, zzA, zzB, zzC]; refine hTk (i := 23) (v := .bool false) (some 75) (fun o ho W hSw => ?z52) (trivial) ?_
    case z52 => cases ho; simp [execOp, go_sem, Act.eval]
    simp only [Act.put, zzA, zzB, zzC]; refine hTk (i := 24) (v := .bool false) (some 76) (fun o ho W hSw => ?z53) (trivial) ?_
    case z53 => cases ho; simp [execOp, go_sem, Act.eval]
    simp only [Act.put, zzA, zzB, zzC]; refine hSk (i := 25) (some 77) (trivial) ?_; refine hSk (i := 26) (some 78) (trivial) ?_; refine hSk (i := 27) (some 79) (trivial) ?_; simp only [Act.put, zzA, zzB, zzC]; refine hSk (i := 28) (some 80) (trivial) ?_; refine hSk (i := 29) (some 81) (trivial) ?_; refine hSk (i := 30) (some 82) (trivial) ?_; refine hSk (i := 31) (some 83) (trivial) ?_
    simp only [Act.put, zzA, zzB, zzC]; refine hSk (i := 32) (some 84) (trivial) ?_; refine hSk (i := 33) (some 85) (trivial) ?_; refine hSk (i := 34) (some 86) (trivial) ?_; refine hSk (i := 35) (some 87) (trivial) ?_; simp only [Act.put, zzA, zzB, zzC]; refine hSk (i := 36) (some 88) (trivial) ?_; refine hSk (i := 37) (some 89) (trivial) ?_; refine hSk (i := 38) (some 90) (trivial) ?_; refine hSk (i := 39) (some 91) (trivial) ?_; simp only [Act.put, zzA, zzB, zzC]; refine hSk (i := 40) (some 92) (trivial) ?_; refine hSk (i := 41) (some 93) (trivial) ?_; refine hSk (i := 42) (some 94) (trivial) ?_; refine hSk (i := 43) (some 95) (trivial) ?_; simp only [Act.put, zzA, zzB, zzC]; refine hSk (i := 44) (some 96) (trivial) ?_; simp only [Act.put, zzA, zzB, zzC]; refine hTk (i := 45) (v := .bool false) (some 97) (fun o ho W hSw => ?z54) (trivial) ?_
    case z54 => cases ho; simp [execOp, go_sem, Act.eval]
    simp only [Act.put, zzA, zzB, zzC]; refine wpAnyH_done (by kernel_rfl) ?_ _; go_wp2_with fail
    all_goals go_ret
    all_goals exact HFIN.out _ HW.out _ HES.out _ H3D.out
  | true =>
    rcases HTR.out with hti | ⟨j, hj, hti⟩
    ·subst hti
     have HW : Hid (OW = R) := by show _ = _; rw [HW2.out, if_neg (fun h => absurd h.2.1 (by decide))]
     go_wp2_with fail; refine wp_region_held_drew (S := fun _ => True) (by kernel_rfl) trivial (fun hHeld => ?_); refine hTk (i := 0) (v := .bool true) (some 52) (fun o ho W hSw => ?z55) (trivial) ?_
     case z55 => cases ho; simp [execOp, go_sem, Act.eval]
     simp only [Act.put, zzA, zzB, zzC]; refine hTk (i := 1) (v := .bool true) (some 53) (fun o ho W hSw => ?z56) (trivial) ?_
     case z56 => cases ho; simp [execOp, go_sem, Act.eval]
     simp only [Act.put, zzA, zzB, zzC]; refine hTk (i := 2) (v := .int .i64 (-1)) (some 54) (fun o ho W hSw => ?z57) (trivial) ?_
     case z57 => cases ho; simp [execOp, go_sem, Act.eval]
     simp only [Act.put, zzA, zzB, zzC]; refine hTk (i := 3) (v := .bool false) (some 55) (fun o ho W hSw => ?z58) (trivial) ?_
     case z58 => cases ho; simp [execOp, go_sem, Act.eval]
     simp only [Act.put, zzA, zzB, zzC]; refine hTk (i := 4) (v := .bool false) (some 56) (fun o ho W hSw => ?z59) (trivial) ?_
     case z59 => cases ho; simp [execOp, go_sem, Act.eval]
     simp only [Act.put, zzA, zzB, zzC]; refine hTk (i := 5) (v := .bool false) (some 57) (fun o ho W hSw => ?z60) (trivial) ?_
     case z60 => cases ho; simp [execOp, go_sem, Act.eval]
     simp only [Act.put, zzA, zzB, zzC]; refine hSk (i := 6) (some 58) (trivial) ?_; refine hSk (i := 7) (some 59) (trivial) ?_; refine hSk (i := 8) (some 60) (trivial) ?_; refine hSk (i := 9) (some 61) (trivial) ?_; simp only [Act.put, zzA, zzB, zzC]; refine hSk (i := 10) (some 62) (trivial) ?_; refine hSk (i := 11) (some 63) (trivial) ?_; refine hSk (i := 12) (some 64) (trivial) ?_; refine hSk (i := 13) (some 65) (trivial) ?_; simp only [Act.put, zzA, zzB, zzC]; refine hSk (i := 14) (some 66) (trivial) ?_; refine hSk (i := 15) (some 67) (trivial) ?_; refine hSk (i := 16) (some 68) (trivial) ?_; simp only [Act.put, zzA, zzB, zzC]; refine hTk (i := 17) (v := .bool false) (some 69) (fun o ho W hSw => ?z61) (trivial) ?_
     case z61 => cases ho; simp [execOp, go_sem, Act.eval]
     simp only [Act.put, zzA, zzB, zzC]; refine hTk (i := 18) (v := .bool false) (some 70) (fun o ho W hSw => ?z62) (trivial) ?_
     case z62 => cases ho; simp [execOp, go_sem, Act.eval]
     simp only [Act.put, zzA, zzB, zzC]; refine hSk (i := 19) (some 71) (trivial) ?_; refine hSk (i := 20) (some 72) (trivial) ?_; simp only [Act.put, zzA, zzB, zzC]; refine hSk (i := 21) (some 73) (trivial) ?_; refine hSk (i := 22) (some 74) (trivial) ?_; simp only [Act.put, zzA, zzB, zzC]; refine hTk (i := 23) (v := .bool false) (some 75) (fun o ho W hSw => ?z63) (trivial) ?_
     case z63 => cases ho; simp [execOp, go_sem, Act.eval]
     simp only [Act.put, zzA, zzB, zzC]; refine hTk (i := 24) (v := .bool false) (some 76) (fun o ho W hSw => ?z64) (trivial) ?_
     case z64 => cases ho; simp [execOp, go_sem, Act.eval]
     simp only [Act.put, zzA, zzB, zzC]; refine hSk (i := 25) (some 77) (trivial) ?_; refine hSk (i := 26) (some 78) (trivial) ?_; refine hSk (i := 27) (some 79) (trivial) ?_; simp only [Act.put, zzA, zzB, zzC]; refine hSk (i := 28) (some 80) (trivial) ?_; refine hSk (i := 29) (some 81) (trivial) ?_; refine hSk (i := 30) (some 82) (trivial) ?_; refine hSk (i := 31) (some 83) (trivial) ?_
     simp only [Act.put, zzA, zzB, zzC]; refine hSk (i := 32) (some 84) (trivial) ?_; refine hSk (i := 33) (some 85) (trivial) ?_; refine hSk (i := 34) (some 86) (trivial) ?_; refine hSk (i := 35) (some 87) (trivial) ?_; simp only [Act.put, zzA, zzB, zzC]; refine hSk (i := 36) (some 88) (trivial) ?_; refine hSk (i := 37) (some 89) (trivial) ?_; refine hSk (i := 38) (some 90) (trivial) ?_; refine hSk (i := 39) (some 91) (trivial) ?_; simp only [Act.put, zzA, zzB, zzC]; refine hSk (i := 40) (some 92) (trivial) ?_; refine hSk (i := 41) (some 93) (trivial) ?_; refine hSk (i := 42) (some 94) (trivial) ?_; refine hSk (i := 43) (some 95) (trivial) ?_; simp only [Act.put, zzA, zzB, zzC]; refine hSk (i := 44) (some 96) (trivial) ?_; simp only [Act.put, zzA, zzB, zzC]; refine hTk (i := 45) (v := .bool false) (some 97) (fun o ho W hSw => ?z65) (trivial) ?_
     case z65 => cases ho; simp [execOp, go_sem, Act.eval]
     simp only [Act.put, zzA, zzB, zzC]; refine wpAnyH_done (by kernel_rfl) ?_ _; go_wp2_with fail
     all_goals go_ret
     all_goals exact HFIN.out _ HW.out _ HES.out _ H3D.out
    ·subst hti
     obtain ⟨bp, op', hpo, hrow⟩ := HOP.out j hj; subst hpo; obtain ⟨a1, a2⟩ := hrow w3 H03.out; obtain ⟨_, _, c3⟩ := HC.out w3 H03.out; have bx := HBOX.out w3 HA3.out
     have hj0 : (0 : Int) ≤ (j : Int) := by omega
     have hjT : (j : Int) < (TL : Int) := by omega
     obtain ⟨g1, eg1⟩ : ∃ g, g = (opW T (j : Int)).1 := ⟨_, rfl⟩
     obtain ⟨g2, eg2⟩ : ∃ g, g = (opW T (j : Int)).2.1 := ⟨_, rfl⟩
     rw [← eg1] at a1 HW2; rw [← eg2] at a2 HW2; have a1d : w3.drew.cell? ⟨bp, op' + j * 3 + 1, none⟩ = some (.int .i64 g1) := a1; have a2d : w3.drew.cell? ⟨bp, op' + j * 3 + 2, none⟩ = some (.int .i64 g2) := a2; have c3d : w3.drew.cell? ⟨ob, 0, none⟩ = some (.slice (some ⟨bp, op', none⟩) TL co) := c3; have bxd : w3.drew.cell? ⟨w.heap.size, 1, none⟩ = some (.int .i64 p1) := bx; clear hrow eg1 eg2
     by_cases e1 : g1 = p1
     ·by_cases e2 : pr = p1
      ·by_cases e3 : g2 = 1
       ·skip
        have b1 : (g1 == p1) = true := by simpa using e1
        have b2 : (pr == p1) = true := by simpa using e2
        have b3 : (g2 == 1) = true := by simpa using e3
        have HW : Hid (OW = parW R) := by show _ = _; rw [HW2.out, if_pos ⟨rfl, hj0, e1, e2, .inl e3⟩]
        clear e1 e2 e3; go_wp2_with fail; refine wp_region_held_drew (S := (fun W => W.cell? ⟨ob, 0, none⟩ = some (.slice (some ⟨bp, op', none⟩) TL co) ∧ W.cell? ⟨bp, op' + j * 3 + 1, none⟩ = some (.int .i64 g1) ∧ W.cell? ⟨bp, op' + j * 3 + 2, none⟩ = some (.int .i64 g2) ∧ W.cell? ⟨w.heap.size, 1, none⟩ = some (.int .i64 p1))) (by kernel_rfl) ⟨c3d, a1d, a2d, bxd⟩ (fun hHeld => ?_); refine hTk (i := 0) (v := .bool true) (some 52) (fun o ho W hSw => ?z66) (hHeld) ?_
        case z66 => cases ho; simp [execOp, go_sem, Act.eval]
        simp only [Act.put, zzA, zzB, zzC]; refine hTk (i := 1) (v := .bool true) (some 53) (fun o ho W hSw => ?z67) (hHeld) ?_
        case z67 => cases ho; simp [execOp, go_sem, Act.eval]
        simp only [Act.put, zzA, zzB, zzC]; refine hTk (i := 2) (v := .int .i64 (j : Int)) (some 54) (fun o ho W hSw => ?z68) (hHeld) ?_
        case z68 => cases ho; simp [execOp, go_sem, Act.eval]
        simp only [Act.put, zzA, zzB, zzC]; refine hTk (i := 3) (v := .bool true) (some 55) (fun o ho W hSw => ?z69) (hHeld) ?_
        case z69 => cases ho; simp [execOp, go_sem, Act.eval, hj0]
        simp only [Act.put, zzA, zzB, zzC]; refine hTk (i := 4) (v := .bool true) (some 56) (fun o ho W hSw => ?z70) (hHeld) ?_
        case z70 => cases ho; simp [execOp, go_sem, Act.eval]
        simp only [Act.put, zzA, zzB, zzC]; refine hTk (i := 5) (v := .bool true) (some 57) (fun o ho W hSw => ?z71) (hHeld) ?_
        case z71 => cases ho; simp [execOp, go_sem, Act.eval]
        simp only [Act.put, zzA, zzB, zzC]; refine hTk (i := 6) (v := .pointer (some ⟨ob, 0, none⟩)) (some 58) (fun o ho W hSw => ?z72) (hHeld) ?_
        case z72 => cases ho; simp [execOp, go_sem, Act.eval]
        simp only [Act.put, zzA, zzB, zzC]; refine hTk (i := 7) (v := .pointer (some ⟨ob, 0, none⟩)) (some 59) (fun o ho W hSw => ?z73) (hHeld) ?_
        case z73 => cases ho; simp [execOp, go_sem, Act.eval]
        simp only [Act.put, zzA, zzB, zzC]; refine hTk (i := 8) (v := .pointer (some ⟨ob, 0, none⟩)) (some 60) (fun o ho W hSw => ?z74) (hHeld) ?_
        case z74 => cases ho; simp [execOp, go_sem, Act.eval]
        simp only [Act.put, zzA, zzB, zzC]; refine hTk (i := 9) (v := .slice (some ⟨bp, op', none⟩) TL co) (some 61) (fun o ho W hSw => ?z75) (hHeld) ?_
        case z75 => cases ho; obtain ⟨s0, s1, s2, s3⟩ := hSw; simp [execOp, go_sem, Act.eval, s0]
        simp only [Act.put, zzA, zzB, zzC]; refine hTk (i := 10) (v := .int .i64 (j : Int)) (some 62) (fun o ho W hSw => ?z76) (hHeld) ?_
        case z76 => cases ho; simp [execOp, go_sem, Act.eval]
        simp only [Act.put, zzA, zzB, zzC]; refine hTk (i := 11) (v := .pointer (some ⟨bp, op' + j * 3, none⟩)) (some 63) (fun o ho W hSw => ?z77) (hHeld) ?_
        case z77 => cases ho; simp [execOp, go_sem, Act.eval, hj0, hjT]
        simp only [Act.put, zzA, zzB, zzC]; refine hTk (i := 12) (v := .pointer (some ⟨bp, op' + j * 3 + 1, none⟩)) (some 64) (fun o ho W hSw => ?z78) (hHeld) ?_
        case z78 => cases ho; simp [execOp, go_sem, Act.eval]
        simp only [Act.put, zzA, zzB, zzC]; refine hTk (i := 13) (v := .int .i64 g1) (some 65) (fun o ho W hSw => ?z79) (hHeld) ?_
        case z79 => cases ho; obtain ⟨s0, s1, s2, s3⟩ := hSw; simp [execOp, go_sem, Act.eval, s1]
        simp only [Act.put, zzA, zzB, zzC]; refine hTk (i := 14) (v := .pointer (some ⟨w.heap.size, 1, none⟩)) (some 66) (fun o ho W hSw => ?z80) (hHeld) ?_
        case z80 => cases ho; simp [execOp, go_sem, Act.eval]
        simp only [Act.put, zzA, zzB, zzC]; refine hTk (i := 15) (v := .int .i64 p1) (some 67) (fun o ho W hSw => ?z81) (hHeld) ?_
        case z81 => cases ho; obtain ⟨s0, s1, s2, s3⟩ := hSw; simp [execOp, go_sem, Act.eval, s3]
        simp only [Act.put, zzA, zzB, zzC]; refine hTk (i := 16) (v := .bool true) (some 68) (fun o ho W hSw => ?z82) (hHeld) ?_
        case z82 => cases ho; simp [execOp, go_sem, Act.eval, b1]
        simp only [Act.put, zzA, zzB, zzC]; refine hTk (i := 17) (v := .bool true) (some 69) (fun o ho W hSw => ?z83) (hHeld) ?_
        case z83 => cases ho; simp [execOp, go_sem, Act.eval]
        simp only [Act.put, zzA, zzB, zzC]; refine hTk (i := 18) (v := .bool true) (some 70) (fun o ho W hSw => ?z84) (hHeld) ?_
        case z84 => cases ho; simp [execOp, go_sem, Act.eval]
        simp only [Act.put, zzA, zzB, zzC]; refine hTk (i := 19) (v := .int .i64 pr) (some 71) (fun o ho W hSw => ?z85) (hHeld) ?_
        case z85 => cases ho; simp [execOp, go_sem, Act.eval]
        simp only [Act.put, zzA, zzB, zzC]; refine hTk (i := 20) (v := .pointer (some ⟨w.heap.size, 1, none⟩)) (some 72) (fun o ho W hSw => ?z86) (hHeld) ?_
        case z86 => cases ho; simp [execOp, go_sem, Act.eval]
        simp only [Act.put, zzA, zzB, zzC]; refine hTk (i := 21) (v := .int .i64 p1) (some 73) (fun o ho W hSw => ?z87) (hHeld) ?_
        case z87 => cases ho; obtain ⟨s0, s1, s2, s3⟩ := hSw; simp [execOp, go_sem, Act.eval, s3]
        simp only [Act.put, zzA, zzB, zzC]; refine hTk (i := 22) (v := .bool true) (some 74) (fun o ho W hSw => ?z88) (hHeld) ?_
        case z88 => cases ho; simp [execOp, go_sem, Act.eval, b2]
        simp only [Act.put, zzA, zzB, zzC]; refine hTk (i := 23) (v := .bool true) (some 75) (fun o ho W hSw => ?z89) (hHeld) ?_
        case z89 => cases ho; simp [execOp, go_sem, Act.eval]
        simp only [Act.put, zzA, zzB, zzC]; refine hTk (i := 24) (v := .bool true) (some 76) (fun o ho W hSw => ?z90) (hHeld) ?_
        case z90 => cases ho; simp [execOp, go_sem, Act.eval]
        simp only [Act.put, zzA, zzB, zzC]; refine hTk (i := 25) (v := .pointer (some ⟨ob, 0, none⟩)) (some 77) (fun o ho W hSw => ?z91) (hHeld) ?_
        case z91 => cases ho; simp [execOp, go_sem, Act.eval]
        simp only [Act.put, zzA, zzB, zzC]; refine hTk (i := 26) (v := .pointer (some ⟨ob, 0, none⟩)) (some 78) (fun o ho W hSw => ?z92) (hHeld) ?_
        case z92 => cases ho; simp [execOp, go_sem, Act.eval]
        simp only [Act.put, zzA, zzB, zzC]; refine hTk (i := 27) (v := .pointer (some ⟨ob, 0, none⟩)) (some 79) (fun o ho W hSw => ?z93) (hHeld) ?_
        case z93 => cases ho; simp [execOp, go_sem, Act.eval]
        simp only [Act.put, zzA, zzB, zzC]; refine hTk (i := 28) (v := .slice (some ⟨bp, op', none⟩) TL co) (some 80) (fun o ho W hSw => ?z94) (hHeld) ?_
        case z94 => cases ho; obtain ⟨s0, s1, s2, s3⟩ := hSw; simp [execOp, go_sem, Act.eval, s0]
        simp only [Act.put, zzA, zzB, zzC]; refine hTk (i := 29) (v := .int .i64 (j : Int)) (some 81) (fun o ho W hSw => ?z95) (hHeld) ?_
        case z95 => cases ho; simp [execOp, go_sem, Act.eval]
        simp only [Act.put, zzA, zzB, zzC]; refine hTk (i := 30) (v := .pointer (some ⟨bp, op' + j * 3, none⟩)) (some 82) (fun o ho W hSw => ?z96) (hHeld) ?_
        case z96 => cases ho; simp [execOp, go_sem, Act.eval, hj0, hjT]
        simp only [Act.put, zzA, zzB, zzC]; refine hTk (i := 31) (v := .pointer (some ⟨bp, op' + j * 3 + 2, none⟩)) (some 83) (fun o ho W hSw => ?z97) (hHeld) ?_
        case z97 => cases ho; simp [execOp, go_sem, Act.eval]
        simp only [Act.put, zzA, zzB, zzC]; refine hTk (i := 32) (v := .int .i64 g2) (some 84) (fun o ho W hSw => ?z98) (hHeld) ?_
        case z98 => cases ho; obtain ⟨s0, s1, s2, s3⟩ := hSw; simp [execOp, go_sem, Act.eval, s2]
        simp only [Act.put, zzA, zzB, zzC]; refine hTk (i := 33) (v := .bool true) (some 85) (fun o ho W hSw => ?z99) (hHeld) ?_
        case z99 => cases ho; simp [execOp, go_sem, Act.eval, b3]
        simp only [Act.put, zzA, zzB, zzC]; refine hTk (i := 34) (v := .bool true) (some 86) (fun o ho W hSw => ?z100) (hHeld) ?_
        case z100 => cases ho; simp [execOp, go_sem, Act.eval]
        simp only [Act.put, zzA, zzB, zzC]; refine hSk (i := 35) (some 87) (hHeld) ?_; refine hSk (i := 36) (some 88) (hHeld) ?_; refine hSk (i := 37) (some 89) (hHeld) ?_; refine hSk (i := 38) (some 90) (hHeld) ?_; simp only [Act.put, zzA, zzB, zzC]; refine hSk (i := 39) (some 91) (hHeld) ?_; refine hSk (i := 40) (some 92) (hHeld) ?_; refine hSk (i := 41) (some 93) (hHeld) ?_; refine hSk (i := 42) (some 94) (hHeld) ?_; simp only [Act.put, zzA, zzB, zzC]; refine hSk (i := 43) (some 95) (hHeld) ?_; simp only [Act.put, zzA, zzB, zzC]; refine hTk (i := 44) (v := .bool true) (some 96) (fun o ho W hSw => ?z101) (hHeld) ?_
        case z101 => cases ho; simp [execOp, go_sem, Act.eval]
        simp only [Act.put, zzA, zzB, zzC]; refine hTk (i := 45) (v := .bool true) (some 97) (fun o ho W hSw => ?z102) (hHeld) ?_
        case z102 => cases ho; simp [execOp, go_sem, Act.eval]
        simp only [Act.put, zzA, zzB, zzC]; refine wpAnyH_done (by kernel_rfl) ?_ _; go_wp2_with fail
        all_goals go_ret
        all_goals exact HFIN.out _ HW.out _ HPAR.out _ H3D.out
       ·by_cases e4 : g2 = 3
        ·skip
         have b1 : (g1 == p1) = true := by simpa using e1
         have b2 : (pr == p1) = true := by simpa using e2
         have b3 : (g2 == 1) = false := by simpa using e3
         have b4 : (g2 == 3) = true := by simpa using e4
         have HW : Hid (OW = parW R) := by show _ = _; rw [HW2.out, if_pos ⟨rfl, hj0, e1, e2, .inr e4⟩]
         clear e1 e2 e3 e4; go_wp2_with fail; refine wp_region_held_drew (S := (fun W => W.cell? ⟨ob, 0, none⟩ = some (.slice (some ⟨bp, op', none⟩) TL co) ∧ W.cell? ⟨bp, op' + j * 3 + 1, none⟩ = some (.int .i64 g1) ∧ W.cell? ⟨bp, op' + j * 3 + 2, none⟩ = some (.int .i64 g2) ∧ W.cell? ⟨w.heap.size, 1, none⟩ = some (.int .i64 p1))) (by kernel_rfl) ⟨c3d, a1d, a2d, bxd⟩ (fun hHeld => ?_); refine hTk (i := 0) (v := .bool true) (some 52) (fun o ho W hSw => ?z103) (hHeld) ?_
         case z103 => cases ho; simp [execOp, go_sem, Act.eval]
         simp only [Act.put, zzA, zzB, zzC]; refine hTk (i := 1) (v := .bool true) (some 53) (fun o ho W hSw => ?z104) (hHeld) ?_
         case z104 => cases ho; simp [execOp, go_sem, Act.eval]
         simp only [Act.put, zzA, zzB, zzC]; refine hTk (i := 2) (v := .int .i64 (j : Int)) (some 54) (fun o ho W hSw => ?z105) (hHeld) ?_
         case z105 => cases ho; simp [execOp, go_sem, Act.eval]
         simp only [Act.put, zzA, zzB, zzC]; refine hTk (i := 3) (v := .bool true) (some 55) (fun o ho W hSw => ?z106) (hHeld) ?_
         case z106 => cases ho; simp [execOp, go_sem, Act.eval, hj0]
         simp only [Act.put, zzA, zzB, zzC]; refine hTk (i := 4) (v := .bool true) (some 56) (fun o ho W hSw => ?z107) (hHeld) ?_
         case z107 => cases ho; simp [execOp, go_sem, Act.eval]
         simp only [Act.put, zzA, zzB, zzC]; refine hTk (i := 5) (v := .bool true) (some 57) (fun o ho W hSw => ?z108) (hHeld) ?_
         case z108 => cases ho; simp [execOp, go_sem, Act.eval]
         simp only [Act.put, zzA, zzB, zzC]; refine hTk (i := 6) (v := .pointer (some ⟨ob, 0, none⟩)) (some 58) (fun o ho W hSw => ?z109) (hHeld) ?_
         case z109 => cases ho; simp [execOp, go_sem, Act.eval]
         simp only [Act.put, zzA, zzB, zzC]; refine hTk (i := 7) (v := .pointer (some ⟨ob, 0, none⟩)) (some 59) (fun o ho W hSw => ?z110) (hHeld) ?_
         case z110 => cases ho; simp [execOp, go_sem, Act.eval]
         simp only [Act.put, zzA, zzB, zzC]; refine hTk (i := 8) (v := .pointer (some ⟨ob, 0, none⟩)) (some 60) (fun o ho W hSw => ?z111) (hHeld) ?_
         case z111 => cases ho; simp [execOp, go_sem, Act.eval]
         simp only [Act.put, zzA, zzB, zzC]; refine hTk (i := 9) (v := .slice (some ⟨bp, op', none⟩) TL co) (some 61) (fun o ho W hSw => ?z112) (hHeld) ?_
         case z112 => cases ho; obtain ⟨s0, s1, s2, s3⟩ := hSw; simp [execOp, go_sem, Act.eval, s0]
         simp only [Act.put, zzA, zzB, zzC]; refine hTk (i := 10) (v := .int .i64 (j : Int)) (some 62) (fun o ho W hSw => ?z113) (hHeld) ?_
         case z113 => cases ho; simp [execOp, go_sem, Act.eval]
         simp only [Act.put, zzA, zzB, zzC]; refine hTk (i := 11) (v := .pointer (some ⟨bp, op' + j * 3, none⟩)) (some 63) (fun o ho W hSw => ?z114) (hHeld) ?_
         case z114 => cases ho; simp [execOp, go_sem, Act.eval, hj0, hjT]
         simp only [Act.put, zzA, zzB, zzC]; refine hTk (i := 12) (v := .pointer (some ⟨bp, op' + j * 3 + 1, none⟩)) (some 64) (fun o ho W hSw => ?z115) (hHeld) ?_
         case z115 => cases ho; simp [execOp, go_sem, Act.eval]
         simp only [Act.put, zzA, zzB, zzC]; refine hTk (i := 13) (v := .int .i64 g1) (some 65) (fun o ho W hSw => ?z116) (hHeld) ?_
         case z116 => cases ho; obtain ⟨s0, s1, s2, s3⟩ := hSw; simp [execOp, go_sem, Act.eval, s1]
         simp only [Act.put, zzA, zzB, zzC]; refine hTk (i := 14) (v := .pointer (some ⟨w.heap.size, 1, none⟩)) (some 66) (fun o ho W hSw => ?z117) (hHeld) ?_
         case z117 => cases ho; simp [execOp, go_sem, Act.eval]
         simp only [Act.put, zzA, zzB, zzC]; refine hTk (i := 15) (v := .int .i64 p1) (some 67) (fun o ho W hSw => ?z118) (hHeld) ?_
         case z118 => cases ho; obtain ⟨s0, s1, s2, s3⟩ := hSw; simp [execOp, go_sem, Act.eval, s3]
         simp only [Act.put, zzA, zzB, zzC]; refine hTk (i := 16) (v := .bool true) (some 68) (fun o ho W hSw => ?z119) (hHeld) ?_
         case z119 => cases ho; simp [execOp, go_sem, Act.eval, b1]
         simp only [Act.put, zzA, zzB, zzC]; refine hTk (i := 17) (v := .bool true) (some 69) (fun o ho W hSw => ?z120) (hHeld) ?_
         case z120 => cases ho; simp [execOp, go_sem, Act.eval]
         simp only [Act.put, zzA, zzB, zzC]; refine hTk (i := 18) (v := .bool true) (some 70) (fun o ho W hSw => ?z121) (hHeld) ?_
         case z121 => cases ho; simp [execOp, go_sem, Act.eval]
         simp only [Act.put, zzA, zzB, zzC]; refine hTk (i := 19) (v := .int .i64 pr) (some 71) (fun o ho W hSw => ?z122) (hHeld) ?_
         case z122 => cases ho; simp [execOp, go_sem, Act.eval]
         simp only [Act.put, zzA, zzB, zzC]; refine hTk (i := 20) (v := .pointer (some ⟨w.heap.size, 1, none⟩)) (some 72) (fun o ho W hSw => ?z123) (hHeld) ?_
         case z123 => cases ho; simp [execOp, go_sem, Act.eval]
         simp only [Act.put, zzA, zzB, zzC]; refine hTk (i := 21) (v := .int .i64 p1) (some 73) (fun o ho W hSw => ?z124) (hHeld) ?_
         case z124 => cases ho; obtain ⟨s0, s1, s2, s3⟩ := hSw; simp [execOp, go_sem, Act.eval, s3]
         simp only [Act.put, zzA, zzB, zzC]; refine hTk (i := 22) (v := .bool true) (some 74) (fun o ho W hSw => ?z125) (hHeld) ?_
         case z125 => cases ho; simp [execOp, go_sem, Act.eval, b2]
         simp only [Act.put, zzA, zzB, zzC]; refine hTk (i := 23) (v := .bool true) (some 75) (fun o ho W hSw => ?z126) (hHeld) ?_
         case z126 => cases ho; simp [execOp, go_sem, Act.eval]
         simp only [Act.put, zzA, zzB, zzC]; refine hTk (i := 24) (v := .bool true) (some 76) (fun o ho W hSw => ?z127) (hHeld) ?_
         case z127 => cases ho; simp [execOp, go_sem, Act.eval]
         simp only [Act.put, zzA, zzB, zzC]; refine hTk (i := 25) (v := .pointer (some ⟨ob, 0, none⟩)) (some 77) (fun o ho W hSw => ?z128) (hHeld) ?_
         case z128 => cases ho; simp [execOp, go_sem, Act.eval]
         simp only [Act.put, zzA, zzB, zzC]; refine hTk (i := 26) (v := .pointer (some ⟨ob, 0, none⟩)) (some 78) (fun o ho W hSw => ?z129) (hHeld) ?_
         case z129 => cases ho; simp [execOp, go_sem, Act.eval]
         simp only [Act.put, zzA, zzB, zzC]; refine hTk (i := 27) (v := .pointer (some ⟨ob, 0, none⟩)) (some 79) (fun o ho W hSw => ?z130) (hHeld) ?_
         case z130 => cases ho; simp [execOp, go_sem, Act.eval]
         simp only [Act.put, zzA, zzB, zzC]; refine hTk (i := 28) (v := .slice (some ⟨bp, op', none⟩) TL co) (some 80) (fun o ho W hSw => ?z131) (hHeld) ?_
         case z131 => cases ho; obtain ⟨s0, s1, s2, s3⟩ := hSw; simp [execOp, go_sem, Act.eval, s0]
         simp only [Act.put, zzA, zzB, zzC]; refine hTk (i := 29) (v := .int .i64 (j : Int)) (some 81) (fun o ho W hSw => ?z132) (hHeld) ?_
         case z132 => cases ho; simp [execOp, go_sem, Act.eval]
         simp only [Act.put, zzA, zzB, zzC]; refine hTk (i := 30) (v := .pointer (some ⟨bp, op' + j * 3, none⟩)) (some 82) (fun o ho W hSw => ?z133) (hHeld) ?_
         case z133 => cases ho; simp [execOp, go_sem, Act.eval, hj0, hjT]
         simp only [Act.put, zzA, zzB, zzC]; refine hTk (i := 31) (v := .pointer (some ⟨bp, op' + j * 3 + 2, none⟩)) (some 83) (fun o ho W hSw => ?z134) (hHeld) ?_
         case z134 => cases ho; simp [execOp, go_sem, Act.eval]
         simp only [Act.put, zzA, zzB, zzC]; refine hTk (i := 32) (v := .int .i64 g2) (some 84) (fun o ho W hSw => ?z135) (hHeld) ?_
         case z135 => cases ho; obtain ⟨s0, s1, s2, s3⟩ := hSw; simp [execOp, go_sem, Act.eval, s2]
         simp only [Act.put, zzA, zzB, zzC]; refine hTk (i := 33) (v := .bool false) (some 85) (fun o ho W hSw => ?z136) (hHeld) ?_
         case z136 => cases ho; simp [execOp, go_sem, Act.eval, b3]
         simp only [Act.put, zzA, zzB, zzC]; refine hTk (i := 34) (v := .bool false) (some 86) (fun o ho W hSw => ?z137) (hHeld) ?_
         case z137 => cases ho; simp [execOp, go_sem, Act.eval]
         simp only [Act.put, zzA, zzB, zzC]; refine hTk (i := 35) (v := .pointer (some ⟨ob, 0, none⟩)) (some 87) (fun o ho W hSw => ?z138) (hHeld) ?_
         case z138 => cases ho; simp [execOp, go_sem, Act.eval]
         simp only [Act.put, zzA, zzB, zzC]; refine hTk (i := 36) (v := .pointer (some ⟨ob, 0, none⟩)) (some 88) (fun o ho W hSw => ?z139) (hHeld) ?_
         case z139 => cases ho; simp [execOp, go_sem, Act.eval]
         simp only [Act.put, zzA, zzB, zzC]; refine hTk (i := 37) (v := .pointer (some ⟨ob, 0, none⟩)) (some 89) (fun o ho W hSw => ?z140) (hHeld) ?_
         case z140 => cases ho; simp [execOp, go_sem, Act.eval]
         simp only [Act.put, zzA, zzB, zzC]; refine hTk (i := 38) (v := .slice (some ⟨bp, op', none⟩) TL co) (some 90) (fun o ho W hSw => ?z141) (hHeld) ?_
         case z141 => cases ho; obtain ⟨s0, s1, s2, s3⟩ := hSw; simp [execOp, go_sem, Act.eval, s0]
         simp only [Act.put, zzA, zzB, zzC]; refine hTk (i := 39) (v := .int .i64 (j : Int)) (some 91) (fun o ho W hSw => ?z142) (hHeld) ?_
         case z142 => cases ho; simp [execOp, go_sem, Act.eval]
         simp only [Act.put, zzA, zzB, zzC]; refine hTk (i := 40) (v := .pointer (some ⟨bp, op' + j * 3, none⟩)) (some 92) (fun o ho W hSw => ?z143) (hHeld) ?_
         case z143 => cases ho; simp [execOp, go_sem, Act.eval, hj0, hjT]
         simp only [Act.put, zzA, zzB, zzC]; refine hTk (i := 41) (v := .pointer (some ⟨bp, op' + j * 3 + 2, none⟩)) (some 93) (fun o ho W hSw => ?z144) (hHeld) ?_
         case z144 => cases ho; simp [execOp, go_sem, Act.eval]
         simp only [Act.put, zzA, zzB, zzC]; refine hTk (i := 42) (v := .int .i64 g2) (some 94) (fun o ho W hSw => ?z145) (hHeld) ?_
         case z145 => cases ho; obtain ⟨s0, s1, s2, s3⟩ := hSw; simp [execOp, go_sem, Act.eval, s2]
         simp only [Act.put, zzA, zzB, zzC]; refine hTk (i := 43) (v := .bool true) (some 95) (fun o ho W hSw => ?z146) (hHeld) ?_
         case z146 => cases ho; simp [execOp, go_sem, Act.eval, b4]
         simp only [Act.put, zzA, zzB, zzC]; refine hTk (i := 44) (v := .bool true) (some 96) (fun o ho W hSw => ?z147) (hHeld) ?_
         case z147 => cases ho; simp [execOp, go_sem, Act.eval]
         simp only [Act.put, zzA, zzB, zzC]; refine hTk (i := 45) (v := .bool true) (some 97) (fun o ho W hSw => ?z148) (hHeld) ?_
         case z148 => cases ho; simp [execOp, go_sem, Act.eval]
         simp only [Act.put, zzA, zzB, zzC]; refine wpAnyH_done (by kernel_rfl) ?_ _; go_wp2_with fail
         all_goals go_ret
         all_goals exact HFIN.out _ HW.out _ HPAR.out _ H3D.out
        ·skip
         have b1 : (g1 == p1) = true := by simpa using e1
         have b2 : (pr == p1) = true := by simpa using e2
         have b3 : (g2 == 1) = false := by simpa using e3
         have b4 : (g2 == 3) = false := by simpa using e4
         have HW : Hid (OW = R) := by show _ = _; rw [HW2.out, if_neg (fun h => h.2.2.2.2.elim e3 e4)]
         clear e1 e2 e3 e4; go_wp2_with fail; refine wp_region_held_drew (S := (fun W => W.cell? ⟨ob, 0, none⟩ = some (.slice (some ⟨bp, op', none⟩) TL co) ∧ W.cell? ⟨bp, op' + j * 3 + 1, none⟩ = some (.int .i64 g1) ∧ W.cell? ⟨bp, op' + j * 3 + 2, none⟩ = some (.int .i64 g2) ∧ W.cell? ⟨w.heap.size, 1, none⟩ = some (.int .i64 p1))) (by kernel_rfl) ⟨c3d, a1d, a2d, bxd⟩ (fun hHeld => ?_); refine hTk (i := 0) (v := .bool true) (some 52) (fun o ho W hSw => ?z149) (hHeld) ?_
         case z149 => cases ho; simp [execOp, go_sem, Act.eval]
         simp only [Act.put, zzA, zzB, zzC]; refine hTk (i := 1) (v := .bool true) (some 53) (fun o ho W hSw => ?z150) (hHeld) ?_
         case z150 => cases ho; simp [execOp, go_sem, Act.eval]
         simp only [Act.put, zzA, zzB, zzC]; refine hTk (i := 2) (v := .int .i64 (j : Int)) (some 54) (fun o ho W hSw => ?z151) (hHeld) ?_
         case z151 => cases ho; simp [execOp, go_sem, Act.eval]
         simp only [Act.put, zzA, zzB, zzC]; refine hTk (i := 3) (v := .bool true) (some 55) (fun o ho W hSw => ?z152) (hHeld) ?_
         case z152 => cases ho; simp [execOp, go_sem, Act.eval, hj0]
         simp only [Act.put, zzA, zzB, zzC]; refine hTk (i := 4) (v := .bool true) (some 56) (fun o ho W hSw => ?z153) (hHeld) ?_
         case z153 => cases ho; simp [execOp, go_sem, Act.eval]
         simp only [Act.put, zzA, zzB, zzC]; refine hTk (i := 5) (v := .bool true) (some 57) (fun o ho W hSw => ?z154) (hHeld) ?_
         case z154 => cases ho; simp [execOp, go_sem, Act.eval]
         simp only [Act.put, zzA, zzB, zzC]; refine hTk (i := 6) (v := .pointer (some ⟨ob, 0, none⟩)) (some 58) (fun o ho W hSw => ?z155) (hHeld) ?_
         case z155 => cases ho; simp [execOp, go_sem, Act.eval]
         simp only [Act.put, zzA, zzB, zzC]; refine hTk (i := 7) (v := .pointer (some ⟨ob, 0, none⟩)) (some 59) (fun o ho W hSw => ?z156) (hHeld) ?_
         case z156 => cases ho; simp [execOp, go_sem, Act.eval]
         simp only [Act.put, zzA, zzB, zzC]; refine hTk (i := 8) (v := .pointer (some ⟨ob, 0, none⟩)) (some 60) (fun o ho W hSw => ?z157) (hHeld) ?_
         case z157 => cases ho; simp [execOp, go_sem, Act.eval]
         simp only [Act.put, zzA, zzB, zzC]; refine hTk (i := 9) (v := .slice (some ⟨bp, op', none⟩) TL co) (some 61) (fun o ho W hSw => ?z158) (hHeld) ?_
         case z158 => cases ho; obtain ⟨s0, s1, s2, s3⟩ := hSw; simp [execOp, go_sem, Act.eval, s0]
         simp only [Act.put, zzA, zzB, zzC]; refine hTk (i := 10) (v := .int .i64 (j : Int)) (some 62) (fun o ho W hSw => ?z159) (hHeld) ?_
         case z159 => cases ho; simp [execOp, go_sem, Act.eval]
         simp only [Act.put, zzA, zzB, zzC]; refine hTk (i := 11) (v := .pointer (some ⟨bp, op' + j * 3, none⟩)) (some 63) (fun o ho W hSw => ?z160) (hHeld) ?_
         case z160 => cases ho; simp [execOp, go_sem, Act.eval, hj0, hjT]
         simp only [Act.put, zzA, zzB, zzC]; refine hTk (i := 12) (v := .pointer (some ⟨bp, op' + j * 3 + 1, none⟩)) (some 64) (fun o ho W hSw => ?z161) (hHeld) ?_
         case z161 => cases ho; simp [execOp, go_sem, Act.eval]
         simp only [Act.put, zzA, zzB, zzC]; refine hTk (i := 13) (v := .int .i64 g1) (some 65) (fun o ho W hSw => ?z162) (hHeld) ?_
         case z162 => cases ho; obtain ⟨s0, s1, s2, s3⟩ := hSw; simp [execOp, go_sem, Act.eval, s1]
         simp only [Act.put, zzA, zzB, zzC]; refine hTk (i := 14) (v := .pointer (some ⟨w.heap.size, 1, none⟩)) (some 66) (fun o ho W hSw => ?z163) (hHeld) ?_
         case z163 => cases ho; simp [execOp, go_sem, Act.eval]
         simp only [Act.put, zzA, zzB, zzC]; refine hTk (i := 15) (v := .int .i64 p1) (some 67) (fun o ho W hSw => ?z164) (hHeld) ?_
         case z164 => cases ho; obtain ⟨s0, s1, s2, s3⟩ := hSw; simp [execOp, go_sem, Act.eval, s3]
         simp only [Act.put, zzA, zzB, zzC]; refine hTk (i := 16) (v := .bool true) (some 68) (fun o ho W hSw => ?z165) (hHeld) ?_
         case z165 => cases ho; simp [execOp, go_sem, Act.eval, b1]
         simp only [Act.put, zzA, zzB, zzC]; refine hTk (i := 17) (v := .bool true) (some 69) (fun o ho W hSw => ?z166) (hHeld) ?_
         case z166 => cases ho; simp [execOp, go_sem, Act.eval]
         simp only [Act.put, zzA, zzB, zzC]; refine hTk (i := 18) (v := .bool true) (some 70) (fun o ho W hSw => ?z167) (hHeld) ?_
         case z167 => cases ho; simp [execOp, go_sem, Act.eval]
         simp only [Act.put, zzA, zzB, zzC]; refine hTk (i := 19) (v := .int .i64 pr) (some 71) (fun o ho W hSw => ?z168) (hHeld) ?_
         case z168 => cases ho; simp [execOp, go_sem, Act.eval]
         simp only [Act.put, zzA, zzB, zzC]; refine hTk (i := 20) (v := .pointer (some ⟨w.heap.size, 1, none⟩)) (some 72) (fun o ho W hSw => ?z169) (hHeld) ?_
         case z169 => cases ho; simp [execOp, go_sem, Act.eval]
         simp only [Act.put, zzA, zzB, zzC]; refine hTk (i := 21) (v := .int .i64 p1) (some 73) (fun o ho W hSw => ?z170) (hHeld) ?_
         case z170 => cases ho; obtain ⟨s0, s1, s2, s3⟩ := hSw; simp [execOp, go_sem, Act.eval, s3]
         simp only [Act.put, zzA, zzB, zzC]; refine hTk (i := 22) (v := .bool true) (some 74) (fun o ho W hSw => ?z171) (hHeld) ?_
         case z171 => cases ho; simp [execOp, go_sem, Act.eval, b2]
         simp only [Act.put, zzA, zzB, zzC]; refine hTk (i := 23) (v := .bool true) (some 75) (fun o ho W hSw => ?z172) (hHeld) ?_
         case z172 => cases ho; simp [execOp, go_sem, Act.eval]
         simp only [Act.put, zzA, zzB, zzC]; refine hTk (i := 24) (v := .bool true) (some 76) (fun o ho W hSw => ?z173) (hHeld) ?_
         case z173 => cases ho; simp [execOp, go_sem, Act.eval]
         simp only [Act.put, zzA, zzB, zzC]; refine hTk (i := 25) (v := .pointer (some ⟨ob, 0, none⟩)) (some 77) (fun o ho W hSw => ?z174) (hHeld) ?_
         case z174 => cases ho; simp [execOp, go_sem, Act.eval]
         simp only [Act.put, zzA, zzB, zzC]; refine hTk (i := 26) (v := .pointer (some ⟨ob, 0, none⟩)) (some 78) (fun o ho W hSw => ?z175) (hHeld) ?_
         case z175 => cases ho; simp [execOp, go_sem, Act.eval]
         simp only [Act.put, zzA, zzB, zzC]; refine hTk (i := 27) (v := .pointer (some ⟨ob, 0, none⟩)) (some 79) (fun o ho W hSw => ?z176) (hHeld) ?_
         case z176 => cases ho; simp [execOp, go_sem, Act.eval]
         simp only [Act.put, zzA, zzB, zzC]; refine hTk (i := 28) (v := .slice (some ⟨bp, op', none⟩) TL co) (some 80) (fun o ho W hSw => ?z177) (hHeld) ?_
         case z177 => cases ho; obtain ⟨s0, s1, s2, s3⟩ := hSw; simp [execOp, go_sem, Act.eval, s0]
         simp only [Act.put, zzA, zzB, zzC]; refine hTk (i := 29) (v := .int .i64 (j : Int)) (some 81) (fun o ho W hSw => ?z178) (hHeld) ?_
         case z178 => cases ho; simp [execOp, go_sem, Act.eval]
         simp only [Act.put, zzA, zzB, zzC]; refine hTk (i := 30) (v := .pointer (some ⟨bp, op' + j * 3, none⟩)) (some 82) (fun o ho W hSw => ?z179) (hHeld) ?_
         case z179 => cases ho; simp [execOp, go_sem, Act.eval, hj0, hjT]
         simp only [Act.put, zzA, zzB, zzC]; refine hTk (i := 31) (v := .pointer (some ⟨bp, op' + j * 3 + 2, none⟩)) (some 83) (fun o ho W hSw => ?z180) (hHeld) ?_
         case z180 => cases ho; simp [execOp, go_sem, Act.eval]
         simp only [Act.put, zzA, zzB, zzC]; refine hTk (i := 32) (v := .int .i64 g2) (some 84) (fun o ho W hSw => ?z181) (hHeld) ?_
         case z181 => cases ho; obtain ⟨s0, s1, s2, s3⟩ := hSw; simp [execOp, go_sem, Act.eval, s2]
         simp only [Act.put, zzA, zzB, zzC]; refine hTk (i := 33) (v := .bool false) (some 85) (fun o ho W hSw => ?z182) (hHeld) ?_
         case z182 => cases ho; simp [execOp, go_sem, Act.eval, b3]
         simp only [Act.put, zzA, zzB, zzC]; refine hTk (i := 34) (v := .bool false) (some 86) (fun o ho W hSw => ?z183) (hHeld) ?_
         case z183 => cases ho; simp [execOp, go_sem, Act.eval]
         simp only [Act.put, zzA, zzB, zzC]; refine hTk (i := 35) (v := .pointer (some ⟨ob, 0, none⟩)) (some 87) (fun o ho W hSw => ?z184) (hHeld) ?_
         case z184 => cases ho; simp [execOp, go_sem, Act.eval]
         simp only [Act.put, zzA, zzB, zzC]; refine hTk (i := 36) (v := .pointer (some ⟨ob, 0, none⟩)) (some 88) (fun o ho W hSw => ?z185) (hHeld) ?_
         case z185 => cases ho; simp [execOp, go_sem, Act.eval]
         simp only [Act.put, zzA, zzB, zzC]; refine hTk (i := 37) (v := .pointer (some ⟨ob, 0, none⟩)) (some 89) (fun o ho W hSw => ?z186) (hHeld) ?_
         case z186 => cases ho; simp [execOp, go_sem, Act.eval]
         simp only [Act.put, zzA, zzB, zzC]; refine hTk (i := 38) (v := .slice (some ⟨bp, op', none⟩) TL co) (some 90) (fun o ho W hSw => ?z187) (hHeld) ?_
         case z187 => cases ho; obtain ⟨s0, s1, s2, s3⟩ := hSw; simp [execOp, go_sem, Act.eval, s0]
         simp only [Act.put, zzA, zzB, zzC]; refine hTk (i := 39) (v := .int .i64 (j : Int)) (some 91) (fun o ho W hSw => ?z188) (hHeld) ?_
         case z188 => cases ho; simp [execOp, go_sem, Act.eval]
         simp only [Act.put, zzA, zzB, zzC]; refine hTk (i := 40) (v := .pointer (some ⟨bp, op' + j * 3, none⟩)) (some 92) (fun o ho W hSw => ?z189) (hHeld) ?_
         case z189 => cases ho; simp [execOp, go_sem, Act.eval, hj0, hjT]
         simp only [Act.put, zzA, zzB, zzC]; refine hTk (i := 41) (v := .pointer (some ⟨bp, op' + j * 3 + 2, none⟩)) (some 93) (fun o ho W hSw => ?z190) (hHeld) ?_
         case z190 => cases ho; simp [execOp, go_sem, Act.eval]
         simp only [Act.put, zzA, zzB, zzC]; refine hTk (i := 42) (v := .int .i64 g2) (some 94) (fun o ho W hSw => ?z191) (hHeld) ?_
         case z191 => cases ho; obtain ⟨s0, s1, s2, s3⟩ := hSw; simp [execOp, go_sem, Act.eval, s2]
         simp only [Act.put, zzA, zzB, zzC]; refine hTk (i := 43) (v := .bool false) (some 95) (fun o ho W hSw => ?z192) (hHeld) ?_
         case z192 => cases ho; simp [execOp, go_sem, Act.eval, b4]
         simp only [Act.put, zzA, zzB, zzC]; refine hTk (i := 44) (v := .bool false) (some 96) (fun o ho W hSw => ?z193) (hHeld) ?_
         case z193 => cases ho; simp [execOp, go_sem, Act.eval]
         simp only [Act.put, zzA, zzB, zzC]; refine hTk (i := 45) (v := .bool false) (some 97) (fun o ho W hSw => ?z194) (hHeld) ?_
         case z194 => cases ho; simp [execOp, go_sem, Act.eval]
         simp only [Act.put, zzA, zzB, zzC]; refine wpAnyH_done (by kernel_rfl) ?_ _; go_wp2_with fail
         all_goals go_ret
         all_goals exact HFIN.out _ HW.out _ HES.out _ H3D.out
      ·skip
       have b1 : (g1 == p1) = true := by simpa using e1
       have b2 : (pr == p1) = false := by simpa using e2
       have HW : Hid (OW = R) := by show _ = _; rw [HW2.out, if_neg (fun h => e2 h.2.2.2.1)]
       clear e1 e2; go_wp2_with fail; refine wp_region_held_drew (S := (fun W => W.cell? ⟨ob, 0, none⟩ = some (.slice (some ⟨bp, op', none⟩) TL co) ∧ W.cell? ⟨bp, op' + j * 3 + 1, none⟩ = some (.int .i64 g1) ∧ W.cell? ⟨bp, op' + j * 3 + 2, none⟩ = some (.int .i64 g2) ∧ W.cell? ⟨w.heap.size, 1, none⟩ = some (.int .i64 p1))) (by kernel_rfl) ⟨c3d, a1d, a2d, bxd⟩ (fun hHeld => ?_); refine hTk (i := 0) (v := .bool true) (some 52) (fun o ho W hSw => ?z195) (hHeld) ?_
       case z195 => cases ho; simp [execOp, go_sem, Act.eval]
       simp only [Act.put, zzA, zzB, zzC]; refine hTk (i := 1) (v := .bool true) (some 53) (fun o ho W hSw => ?z196) (hHeld) ?_
       case z196 => cases ho; simp [execOp, go_sem, Act.eval]
       simp only [Act.put, zzA, zzB, zzC]; refine hTk (i := 2) (v := .int .i64 (j : Int)) (some 54) (fun o ho W hSw => ?z197) (hHeld) ?_
       case z197 => cases ho; simp [execOp, go_sem, Act.eval]
       simp only [Act.put, zzA, zzB, zzC]; refine hTk (i := 3) (v := .bool true) (some 55) (fun o ho W hSw => ?z198) (hHeld) ?_
       case z198 => cases ho; simp [execOp, go_sem, Act.eval, hj0]
       simp only [Act.put, zzA, zzB, zzC]; refine hTk (i := 4) (v := .bool true) (some 56) (fun o ho W hSw => ?z199) (hHeld) ?_
       case z199 => cases ho; simp [execOp, go_sem, Act.eval]
       simp only [Act.put, zzA, zzB, zzC]; refine hTk (i := 5) (v := .bool true) (some 57) (fun o ho W hSw => ?z200) (hHeld) ?_
       case z200 => cases ho; simp [execOp, go_sem, Act.eval]
       simp only [Act.put, zzA, zzB, zzC]; refine hTk (i := 6) (v := .pointer (some ⟨ob, 0, none⟩)) (some 58) (fun o ho W hSw => ?z201) (hHeld) ?_
       case z201 => cases ho; simp [execOp, go_sem, Act.eval]
       simp only [Act.put, zzA, zzB, zzC]; refine hTk (i := 7) (v := .pointer (some ⟨ob, 0, none⟩)) (some 59) (fun o ho W hSw => ?z202) (hHeld) ?_
       case z202 => cases ho; simp [execOp, go_sem, Act.eval]
       simp only [Act.put, zzA, zzB, zzC]; refine hTk (i := 8) (v := .pointer (some ⟨ob, 0, none⟩)) (some 60) (fun o ho W hSw => ?z203) (hHeld) ?_
       case z203 => cases ho; simp [execOp, go_sem, Act.eval]
       simp only [Act.put, zzA, zzB, zzC]; refine hTk (i := 9) (v := .slice (some ⟨bp, op', none⟩) TL co) (some 61) (fun o ho W hSw => ?z204) (hHeld) ?_
       case z204 => cases ho; obtain ⟨s0, s1, s2, s3⟩ := hSw; simp [execOp, go_sem, Act.eval, s0]
       simp only [Act.put, zzA, zzB, zzC]; refine hTk (i := 10) (v := .int .i64 (j : Int)) (some 62) (fun o ho W hSw => ?z205) (hHeld) ?_
       case z205 => cases ho; simp [execOp, go_sem, Act.eval]
       simp only [Act.put, zzA, zzB, zzC]; refine hTk (i := 11) (v := .pointer (some ⟨bp, op' + j * 3, none⟩)) (some 63) (fun o ho W hSw => ?z206) (hHeld) ?_
       case z206 => cases ho; simp [execOp, go_sem, Act.eval, hj0, hjT]
       simp only [Act.put, zzA, zzB, zzC]; refine hTk (i := 12) (v := .pointer (some ⟨bp, op' + j * 3 + 1, none⟩)) (some 64) (fun o ho W hSw => ?z207) (hHeld) ?_
       case z207 => cases ho; simp [execOp, go_sem, Act.eval]
       simp only [Act.put, zzA, zzB, zzC]; refine hTk (i := 13) (v := .int .i64 g1) (some 65) (fun o ho W hSw => ?z208) (hHeld) ?_
       case z208 => cases ho; obtain ⟨s0, s1, s2, s3⟩ := hSw; simp [execOp, go_sem, Act.eval, s1]
       simp only [Act.put, zzA, zzB, zzC]; refine hTk (i := 14) (v := .pointer (some ⟨w.heap.size, 1, none⟩)) (some 66) (fun o ho W hSw => ?z209) (hHeld) ?_
       case z209 => cases ho; simp [execOp, go_sem, Act.eval]
       simp only [Act.put, zzA, zzB, zzC]; refine hTk (i := 15) (v := .int .i64 p1) (some 67) (fun o ho W hSw => ?z210) (hHeld) ?_
       case z210 => cases ho; obtain ⟨s0, s1, s2, s3⟩ := hSw; simp [execOp, go_sem, Act.eval, s3]
       simp only [Act.put, zzA, zzB, zzC]; refine hTk (i := 16) (v := .bool true) (some 68) (fun o ho W hSw => ?z211) (hHeld) ?_
       case z211 => cases ho; simp [execOp, go_sem, Act.eval, b1]
       simp only [Act.put, zzA, zzB, zzC]; refine hTk (i := 17) (v := .bool true) (some 69) (fun o ho W hSw => ?z212) (hHeld) ?_
       case z212 => cases ho; simp [execOp, go_sem, Act.eval]
       simp only [Act.put, zzA, zzB, zzC]; refine hTk (i := 18) (v := .bool true) (some 70) (fun o ho W hSw => ?z213) (hHeld) ?_
       case z213 => cases ho; simp [execOp, go_sem, Act.eval]
       simp only [Act.put, zzA, zzB, zzC]; refine hTk (i := 19) (v := .int .i64 pr) (some 71) (fun o ho W hSw => ?z214) (hHeld) ?_
       case z214 => cases ho; simp [execOp, go_sem, Act.eval]
       simp only [Act.put, zzA, zzB, zzC]; refine hTk (i := 20) (v := .pointer (some ⟨w.heap.size, 1, none⟩)) (some 72) (fun o ho W hSw => ?z215) (hHeld) ?_
       case z215 => cases ho; simp [execOp, go_sem, Act.eval]
       simp only [Act.put, zzA, zzB, zzC]; refine hTk (i := 21) (v := .int .i64 p1) (some 73) (fun o ho W hSw => ?z216) (hHeld) ?_
       case z216 => cases ho; obtain ⟨s0, s1, s2, s3⟩ := hSw; simp [execOp, go_sem, Act.eval, s3]
       simp only [Act.put, zzA, zzB, zzC]; refine hTk (i := 22) (v := .bool false) (some 74) (fun o ho W hSw => ?z217) (hHeld) ?_
       case z217 => cases ho; simp [execOp, go_sem, Act.eval, b2]
       simp only [Act.put, zzA, zzB, zzC]; refine hTk (i := 23) (v := .bool false) (some 75) (fun o ho W hSw => ?z218) (hHeld) ?_
       case z218 => cases ho; simp [execOp, go_sem, Act.eval]
       simp only [Act.put, zzA, zzB, zzC]; refine hTk (i := 24) (v := .bool false) (some 76) (fun o ho W hSw => ?z219) (hHeld) ?_
       case z219 => cases ho; simp [execOp, go_sem, Act.eval]
       simp only [Act.put, zzA, zzB, zzC]; refine hSk (i := 25) (some 77) (hHeld) ?_; refine hSk (i := 26) (some 78) (hHeld) ?_; refine hSk (i := 27) (some 79) (hHeld) ?_; refine hSk (i := 28) (some 80) (hHeld) ?_; simp only [Act.put, zzA, zzB, zzC]; refine hSk (i := 29) (some 81) (hHeld) ?_; refine hSk (i := 30) (some 82) (hHeld) ?_; refine hSk (i := 31) (some 83) (hHeld) ?_; refine hSk (i := 32) (some 84) (hHeld) ?_; simp only [Act.put, zzA, zzB, zzC]; refine hSk (i := 33) (some 85) (hHeld) ?_; refine hSk (i := 34) (some 86) (hHeld) ?_; refine hSk (i := 35) (some 87) (hHeld) ?_; refine hSk (i := 36) (some 88) (hHeld) ?_; simp only [Act.put, zzA, zzB, zzC]; refine hSk (i := 37) (some 89) (hHeld) ?_; refine hSk (i := 38) (some 90) (hHeld) ?_; refine hSk (i := 39) (some 91) (hHeld) ?_; refine hSk (i := 40) (some 92) (hHeld) ?_; simp only [Act.put, zzA, zzB, zzC]; refine hSk (i := 41) (some 93) (hHeld) ?_; refine hSk (i := 42) (some 94) (hHeld) ?_; refine hSk (i := 43) (some 95) (hHeld) ?_; refine hSk (i := 44) (some 96) (hHeld) ?_; simp only [Act.put, zzA, zzB, zzC]; refine hTk (i := 45) (v := .bool false) (some 97) (fun o ho W hSw => ?z220) (hHeld) ?_
       case z220 => cases ho; simp [execOp, go_sem, Act.eval]
       simp only [Act.put, zzA, zzB, zzC]; refine wpAnyH_done (by kernel_rfl) ?_ _; go_wp2_with fail
       all_goals go_ret
       all_goals exact HFIN.out _ HW.out _ HES.out _ H3D.out
     ·skip
      have b1 : (g1 == p1) = false := by simpa using e1
      have HW : Hid (OW = R) := by show _ = _; rw [HW2.out, if_neg (fun h => e1 h.2.2.1)]
      clear e1; go_wp2_with fail; refine wp_region_held_drew (S := (fun W => W.cell? ⟨ob, 0, none⟩ = some (.slice (some ⟨bp, op', none⟩) TL co) ∧ W.cell? ⟨bp, op' + j * 3 + 1, none⟩ = some (.int .i64 g1) ∧ W.cell? ⟨bp, op' + j * 3 + 2, none⟩ = some (.int .i64 g2) ∧ W.cell? ⟨w.heap.size, 1, none⟩ = some (.int .i64 p1))) (by kernel_rfl) ⟨c3d, a1d, a2d, bxd⟩ (fun hHeld => ?_); refine hTk (i := 0) (v := .bool true) (some 52) (fun o ho W hSw => ?z221) (hHeld) ?_
      case z221 => cases ho; simp [execOp, go_sem, Act.eval]
      simp only [Act.put, zzA, zzB, zzC]; refine hTk (i := 1) (v := .bool true) (some 53) (fun o ho W hSw => ?z222) (hHeld) ?_
      case z222 => cases ho; simp [execOp, go_sem, Act.eval]
      simp only [Act.put, zzA, zzB, zzC]; refine hTk (i := 2) (v := .int .i64 (j : Int)) (some 54) (fun o ho W hSw => ?z223) (hHeld) ?_
      case z223 => cases ho; simp [execOp, go_sem, Act.eval]
      simp only [Act.put, zzA, zzB, zzC]; refine hTk (i := 3) (v := .bool true) (some 55) (fun o ho W hSw => ?z224) (hHeld) ?_
      case z224 => cases ho; simp [execOp, go_sem, Act.eval, hj0]
      simp only [Act.put, zzA, zzB, zzC]; refine hTk (i := 4) (v := .bool true) (some 56) (fun o ho W hSw => ?z225) (hHeld) ?_
      case z225 => cases ho; simp [execOp, go_sem, Act.eval]
      simp only [Act.put, zzA, zzB, zzC]; refine hTk (i := 5) (v := .bool true) (some 57) (fun o ho W hSw => ?z226) (hHeld) ?_
      case z226 => cases ho; simp [execOp, go_sem, Act.eval]
      simp only [Act.put, zzA, zzB, zzC]; refine hTk (i := 6) (v := .pointer (some ⟨ob, 0, none⟩)) (some 58) (fun o ho W hSw => ?z227) (hHeld) ?_
      case z227 => cases ho; simp [execOp, go_sem, Act.eval]
      simp only [Act.put, zzA, zzB, zzC]; refine hTk (i := 7) (v := .pointer (some ⟨ob, 0, none⟩)) (some 59) (fun o ho W hSw => ?z228) (hHeld) ?_
      case z228 => cases ho; simp [execOp, go_sem, Act.eval]
      simp only [Act.put, zzA, zzB, zzC]; refine hTk (i := 8) (v := .pointer (some ⟨ob, 0, none⟩)) (some 60) (fun o ho W hSw => ?z229) (hHeld) ?_
      case z229 => cases ho; simp [execOp, go_sem, Act.eval]
      simp only [Act.put, zzA, zzB, zzC]; refine hTk (i := 9) (v := .slice (some ⟨bp, op', none⟩) TL co) (some 61) (fun o ho W hSw => ?z230) (hHeld) ?_
      case z230 => cases ho; obtain ⟨s0, s1, s2, s3⟩ := hSw; simp [execOp, go_sem, Act.eval, s0]
      simp only [Act.put, zzA, zzB, zzC]; refine hTk (i := 10) (v := .int .i64 (j : Int)) (some 62) (fun o ho W hSw => ?z231) (hHeld) ?_
      case z231 => cases ho; simp [execOp, go_sem, Act.eval]
      simp only [Act.put, zzA, zzB, zzC]; refine hTk (i := 11) (v := .pointer (some ⟨bp, op' + j * 3, none⟩)) (some 63) (fun o ho W hSw => ?z232) (hHeld) ?_
      case z232 => cases ho; simp [execOp, go_sem, Act.eval, hj0, hjT]
      simp only [Act.put, zzA, zzB, zzC]; refine hTk (i := 12) (v := .pointer (some ⟨bp, op' + j * 3 + 1, none⟩)) (some 64) (fun o ho W hSw => ?z233) (hHeld) ?_
      case z233 => cases ho; simp [execOp, go_sem, Act.eval]
      simp only [Act.put, zzA, zzB, zzC]; refine hTk (i := 13) (v := .int .i64 g1) (some 65) (fun o ho W hSw => ?z234) (hHeld) ?_
      case z234 => cases ho; obtain ⟨s0, s1, s2, s3⟩ := hSw; simp [execOp, go_sem, Act.eval, s1]
      simp only [Act.put, zzA, zzB, zzC]; refine hTk (i := 14) (v := .pointer (some ⟨w.heap.size, 1, none⟩)) (some 66) (fun o ho W hSw => ?z235) (hHeld) ?_
      case z235 => cases ho; simp [execOp, go_sem, Act.eval]
      simp only [Act.put, zzA, zzB, zzC]; refine hTk (i := 15) (v := .int .i64 p1) (some 67) (fun o ho W hSw => ?z236) (hHeld) ?_
      case z236 => cases ho; obtain ⟨s0, s1, s2, s3⟩ := hSw; simp [execOp, go_sem, Act.eval, s3]
      simp only [Act.put, zzA, zzB, zzC]; refine hTk (i := 16) (v := .bool false) (some 68) (fun o ho W hSw => ?z237) (hHeld) ?_
      case z237 => cases ho; simp [execOp, go_sem, Act.eval, b1]
      simp only [Act.put, zzA, zzB, zzC]; refine hTk (i := 17) (v := .bool false) (some 69) (fun o ho W hSw => ?z238) (hHeld) ?_
      case z238 => cases ho; simp [execOp, go_sem, Act.eval]
      simp only [Act.put, zzA, zzB, zzC]; refine hTk (i := 18) (v := .bool false) (some 70) (fun o ho W hSw => ?z239) (hHeld) ?_
      case z239 => cases ho; simp [execOp, go_sem, Act.eval]
      simp only [Act.put, zzA, zzB, zzC]; refine hSk (i := 19) (some 71) (hHeld) ?_; simp only [Act.put, zzA, zzB, zzC]; refine hSk (i := 20) (some 72) (hHeld) ?_; refine hSk (i := 21) (some 73) (hHeld) ?_; refine hSk (i := 22) (some 74) (hHeld) ?_; simp only [Act.put, zzA, zzB, zzC]; refine hTk (i := 23) (v := .bool false) (some 75) (fun o ho W hSw => ?z240) (hHeld) ?_
      case z240 => cases ho; simp [execOp, go_sem, Act.eval]
      simp only [Act.put, zzA, zzB, zzC]; refine hTk (i := 24) (v := .bool false) (some 76) (fun o ho W hSw => ?z241) (hHeld) ?_
      case z241 => cases ho; simp [execOp, go_sem, Act.eval]
      simp only [Act.put, zzA, zzB, zzC]; refine hSk (i := 25) (some 77) (hHeld) ?_; refine hSk (i := 26) (some 78) (hHeld) ?_; simp only [Act.put, zzA, zzB, zzC]; refine hSk (i := 27) (some 79) (hHeld) ?_; refine hSk (i := 28) (some 80) (hHeld) ?_; refine hSk (i := 29) (some 81) (hHeld) ?_; refine hSk (i := 30) (some 82) (hHeld) ?_; simp only [Act.put, zzA, zzB, zzC]; refine hSk (i := 31) (some 83) (hHeld) ?_; refine hSk (i := 32) (some 84) (hHeld) ?_; refine hSk (i := 33) (some 85) (hHeld) ?_; refine hSk (i := 34) (some 86) (hHeld) ?_; simp only [Act.put, zzA, zzB, zzC]; refine hSk (i := 35) (some 87) (hHeld) ?_; refine hSk (i := 36) (some 88) (hHeld) ?_; refine hSk (i := 37) (some 89) (hHeld) ?_; refine hSk (i := 38) (some 90) (hHeld) ?_
      simp only [Act.put, zzA, zzB, zzC]; refine hSk (i := 39) (some 91) (hHeld) ?_; refine hSk (i := 40) (some 92) (hHeld) ?_; refine hSk (i := 41) (some 93) (hHeld) ?_; refine hSk (i := 42) (some 94) (hHeld) ?_; simp only [Act.put, zzA, zzB, zzC]; refine hSk (i := 43) (some 95) (hHeld) ?_; refine hSk (i := 44) (some 96) (hHeld) ?_; simp only [Act.put, zzA, zzB, zzC]; refine hTk (i := 45) (v := .bool false) (some 97) (fun o ho W hSw => ?z242) (hHeld) ?_
      case z242 => cases ho; simp [execOp, go_sem, Act.eval]
      simp only [Act.put, zzA, zzB, zzC]; refine wpAnyH_done (by kernel_rfl) ?_ _; go_wp2_with fail
      all_goals go_ret
      all_goals exact HFIN.out _ HW.out _ HES.out _ H3D.out
end Go.Proofs.YtfgmenkoeflhaaaGreatDoor
