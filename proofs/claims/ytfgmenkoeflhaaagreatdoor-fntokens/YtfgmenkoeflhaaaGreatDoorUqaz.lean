/- Texts of OpsV5, WtZ, WrX, FtW. Own work of the verifier. -/
import Derived.Test.YtfgmenkoeflhaaaGreatDoorUqay
namespace Go.Proofs.YtfgmenkoeflhaaaGreatDoor
set_option linter.unusedVariables false
set_option maxRecDepth 100000
section
open Go Go.RowKit Go.Sort
theorem tab_count (cs : List Cel) (a : Option Cel) : (chainO a cs && cs.any comC) = (chainO a cs && (cs.countP comC == 1)) := by
 cases h : chainO a cs with
 | false => rfl
 | true =>
   rw [com_count cs a h]
   cases cs.any comC <;> simp
theorem okB_res {k n : Int} {s : ByteArray} {m : Nat} (h : resB s = true) : okB k n s m = false := by
 have : (s.toList == [44]) = false := by
  simp only [resB, Bool.or_eq_true, beq_iff_eq] at h
  rcases h with (h | h) | h <;> rw [h] <;> rfl
 simp [okB, this, h]
theorem srt_lt {a b : Int} : srt a < srt b ↔ preB a = true ∧ preB b = false := by
 unfold srt
 cases preB a <;> cases preB b <;> simp
set_option maxHeartbeats 6000000 in
theorem specTab_any (p : Option Addr) (c : Nat) (cs : List Cel) (w : World) (hn : cs.length + tl cs ≤ 1000000000) (hc : OIn w p cs) :
 Calls Tryz.prog 55 #[.slice p cs.length c] w fun e w' => e = .returned (.bool (tabB cs)) ∧ Below w.heap.size w w' := by
 have HC : Hid (OIn w p cs) := hc; clear hc
 by_cases hl : cs.length ≤ 200
 ·have hl' : ¬ (200 : Int) < cs.length := by omega
  have HV : Hid (tabB cs = (chainO none cs && (cs.countP comC == 1))) := by show _ = _; rw [← tab_count]; simp [tabB, hl]
  have HF : Hid (∀ b, b = tabB cs → Ending.returned (.bool b) = .returned (.bool (tabB cs))) := fun b h => ret_bool h
  go_enter Tryz.func55, Tryz.ntmps55
  go_wp2
  clear hl'
  go_loopw [3, 4] (fun s i wr => ∃ (k m : Nat), k ≤ cs.length ∧ m ≤ k ∧ s = .int .i64 m ∧ i = .int .i64 k ∧ Hid (tabB cs = (chainO (befO cs k) (cs.drop k) && (m + (cs.drop k).countP comC == 1))) ∧ Hid (Below w.heap.size w wr)) (fun _ i _ => cs.length - (intOf i).toNat)
  case atStart => exact ⟨0, 0, Nat.zero_le _, Nat.zero_le _, rfl, rfl, by show _ = _; rw [HV.out]; simp [befO], Below.refl _ _⟩
  case round =>
   obtain ⟨k, m, hk, hmk, rfl, rfl, HQ, HB⟩ := hrel
   by_cases hlt : k < cs.length
   ·obtain ⟨g, o, rfl, hcs⟩ := HC.out (by omega)
    have hat := (hcs k hlt).below HB.out
    have hpr : 0 < k → OAt wr g (o + (k - 1) * 3) (cs.getD (k - 1) Cel.none) := fun h => (hcs (k - 1) (by omega)).below HB.out
    have hbe : 0 < k → befO cs k = some (cs.getD (k - 1) Cel.none) := fun h => by simp [befO]; omega
    have hb0 : k = 0 → befO cs k = none := fun h => by simp [befO, h]
    have hlk := tl_at cs k hlt
    have hlp : 0 < k → (cs.getD (k - 1) Cel.none).2.2.length ≤ tl cs := fun h => tl_at cs (k - 1) (by omega)
    have HD : Hid (tabB cs = ((okC (cs.getD k Cel.none) && (match befO cs k with | none => true | some x => ltO x (cs.getD k Cel.none)) && chainO (befO cs (k + 1)) (cs.drop (k + 1))) && ((m + (if comC (cs.getD k Cel.none) then 1 else 0)) + (cs.drop (k + 1)).countP comC == 1))) := by
     show _ = _
     rw [HQ.out, chainO_at cs k hlt, drop_at cs k hlt, List.countP_cons]
     congr 2
     omega
    obtain ⟨x, ex⟩ : ∃ x, x = cs.getD k Cel.none := ⟨_, rfl⟩
    obtain ⟨y, ey⟩ : ∃ y, y = cs.getD (k - 1) Cel.none := ⟨_, rfl⟩
    rw [← ex] at hat HD hlk; rw [← ey] at hpr hbe hlp; obtain ⟨q, qc, h0, h1, h2, h3⟩ := hat; obtain ⟨x0, x1, x2⟩ := x; simp only at h0 h1 h2 h3 hlk; have hW : Below wr.heap.size wr (wr.alloc (Obj.cells #[.slice q x2.length qc, .int .i64 x0, .int .i64 x1] 94)) := (Below.refl _ _).alloc (Nat.le_refl _) _
    have HCV : Hid (∀ W, Below wr.heap.size wr W → (convert 22 9 (.slice q x2.length qc)).run Tryz.prog W = .ok (.string (strOfNums x2)) W) := fun W hB => conv_str (h3.below hB) x2.length qc rfl 9 Tryz.underlying9
    have HSP : Hid (∀ W, Below wr.heap.size wr W → Calls Tryz.prog 80 #[.slice q x2.length qc] W fun e w' => e = .returned (.bool (resB (strOfNums x2))) ∧ w' = W) := fun W hB => l3special_any q x2.length qc x2 W rfl (h3.below hB)
    have HOK : Hid (okC (x0, x1, x2) = okB x0 x1 (strOfNums x2) x2.length) := rfl; have HCO : Hid (comC (x0, x1, x2) = ((strOfNums x2).toList == [44])) := rfl
    obtain ⟨l2, el2⟩ : ∃ l, l = x2.length := ⟨_, rfl⟩
    obtain ⟨sx, esx⟩ : ∃ s, s = strOfNums x2 := ⟨_, rfl⟩
    rw [← el2, ← esx] at HCV HSP HOK; rw [← esx] at HCO; rw [← el2] at h2 hW hlk
    have HEX : Hid (l2 = x2.length ∧ sx = strOfNums x2) := ⟨el2, esx⟩
    clear el2 esx ex h3; have cv := HCV.out _ hW; have HSPW := HSP.out _ hW; have HW : Hid _ := hW; have HB1 : Hid (Below w.heap.size w (wr.alloc (Obj.cells #[.slice q l2 qc, .int .i64 x0, .int .i64 x1] 94))) := Below.on HB.out hW; clear hW HSP
    have BAD : Hid (okB x0 x1 sx l2 = false → tabB cs = false) := fun h => by rw [HD.out, HOK.out, h]; simp
    by_cases g1 : l2 < 1
    ·have g1' : ((l2 : Int) < 1) := by omega
     have HZ : Hid (tabB cs = false) := BAD.out (by have h9 : ¬ 1 ≤ l2 := (by omega); simp [okB, h9]); clear hcs hpr hbe hb0 hlp HC HV HQ HD HOK HCO HEX HCV HW BAD; go_wp2_with (first | (go_at_call 80; refine HSPW.mono ?_; rintro e w' ⟨rfl, rfl⟩) | (go_at_call 81; refine (l3prefix_any _ _).mono ?_; rintro e w' ⟨rfl, rfl⟩)); go_ret; exact ⟨HF.out _ HZ.out.symm, HB1.out⟩
    by_cases g2 : 100 < l2
    ·have g2' : (100 : Int) < (l2 : Int) := by omega
     have HZ : Hid (tabB cs = false) := BAD.out (by have h9 : ¬ l2 ≤ 100 := (by omega); simp [okB, h9]); clear hcs hpr hbe hb0 hlp HC HV HQ HD HOK HCO HEX HCV HW BAD; go_wp2_with (first | (go_at_call 80; refine HSPW.mono ?_; rintro e w' ⟨rfl, rfl⟩) | (go_at_call 81; refine (l3prefix_any _ _).mono ?_; rintro e w' ⟨rfl, rfl⟩)); go_ret; exact ⟨HF.out _ HZ.out.symm, HB1.out⟩
    have g1' : ¬ ((l2 : Int) < 1) := by omega
    have g2' : ¬ (100 : Int) < (l2 : Int) := by omega
    cases g3 : resB sx with
    | true =>
      rw [g3] at HSPW; have HZ : Hid (tabB cs = false) := BAD.out (by exact okB_res g3); clear hcs hpr hbe hb0 hlp HC HV HQ HD HOK HCO HEX HCV HW BAD; go_wp2_with (first | (go_at_call 80; refine HSPW.mono ?_; rintro e w' ⟨rfl, rfl⟩) | (go_at_call 81; refine (l3prefix_any _ _).mono ?_; rintro e w' ⟨rfl, rfl⟩)); go_ret; exact ⟨HF.out _ HZ.out.symm, HB1.out⟩
    | false =>
      rw [g3] at HSPW
      by_cases g4 : x0 < 1
      ·skip
       have HZ : Hid (tabB cs = false) := BAD.out (by have h9 : ¬ 1 ≤ x0 := (by omega); simp [okB, h9]); clear hcs hpr hbe hb0 hlp HC HV HQ HD HOK HCO HEX HCV HW BAD; go_wp2_with (first | (go_at_call 80; refine HSPW.mono ?_; rintro e w' ⟨rfl, rfl⟩) | (go_at_call 81; refine (l3prefix_any _ _).mono ?_; rintro e w' ⟨rfl, rfl⟩)); go_ret; exact ⟨HF.out _ HZ.out.symm, HB1.out⟩
      by_cases g5 : 1200 < x0
      ·skip
       have HZ : Hid (tabB cs = false) := BAD.out (by have h9 : ¬ x0 ≤ 1200 := (by omega); simp [okB, h9]); clear hcs hpr hbe hb0 hlp HC HV HQ HD HOK HCO HEX HCV HW BAD; go_wp2_with (first | (go_at_call 80; refine HSPW.mono ?_; rintro e w' ⟨rfl, rfl⟩) | (go_at_call 81; refine (l3prefix_any _ _).mono ?_; rintro e w' ⟨rfl, rfl⟩)); go_ret; exact ⟨HF.out _ HZ.out.symm, HB1.out⟩
      by_cases g6 : x1 < 0
      ·skip
       have HZ : Hid (tabB cs = false) := BAD.out (by have h9 : ¬ 0 ≤ x1 := (by omega); simp [okB, h9]); clear hcs hpr hbe hb0 hlp HC HV HQ HD HOK HCO HEX HCV HW BAD; go_wp2_with (first | (go_at_call 80; refine HSPW.mono ?_; rintro e w' ⟨rfl, rfl⟩) | (go_at_call 81; refine (l3prefix_any _ _).mono ?_; rintro e w' ⟨rfl, rfl⟩)); go_ret; exact ⟨HF.out _ HZ.out.symm, HB1.out⟩
      by_cases g7 : 6 < x1
      ·skip
       have HZ : Hid (tabB cs = false) := BAD.out (by have h9 : ¬ x1 ≤ 6 := (by omega); simp [okB, h9]); clear hcs hpr hbe hb0 hlp HC HV HQ HD HOK HCO HEX HCV HW BAD; go_wp2_with (first | (go_at_call 80; refine HSPW.mono ?_; rintro e w' ⟨rfl, rfl⟩) | (go_at_call 81; refine (l3prefix_any _ _).mono ?_; rintro e w' ⟨rfl, rfl⟩)); go_ret; exact ⟨HF.out _ HZ.out.symm, HB1.out⟩
      have HOK2 : Hid (okB x0 x1 sx l2 = (if sx.toList == [44] then (x0 == 1000 && x1 == 1) else true)) := by
       show _ = _
       have a1 : 1 ≤ l2 := by omega
       have a2 : l2 ≤ 100 := by omega
       have a3 : 0 ≤ x1 := by omega
       have a4 : x1 ≤ 6 := by omega
       have a5 : 1 ≤ x0 := by omega
       have a6 : x0 ≤ 1200 := by omega
       simp only [okB, a1, a2, a3, a4, a5, a6, g3]; simp
      cases g8 : (sx.toList == [44]) with
      | true =>
        cases g9 : (x0 == 1000) with
        | false =>
          have g9' : (x0 != 1000) = true := by simpa using g9
          have HN : Hid (okB x0 x1 sx l2 = false) := by show _ = _; rw [HOK2.out, g8, g9]; simp
          clear HOK2; have HZ : Hid (tabB cs = false) := BAD.out (by exact HN.out); clear hcs hpr hbe hb0 hlp HC HV HQ HD HOK HCO HEX HCV HW BAD; go_wp2_with (first | (go_at_call 80; refine HSPW.mono ?_; rintro e w' ⟨rfl, rfl⟩) | (go_at_call 81; refine (l3prefix_any _ _).mono ?_; rintro e w' ⟨rfl, rfl⟩)); go_ret; exact ⟨HF.out _ HZ.out.symm, HB1.out⟩
        | true =>
          have g9' : (x0 != 1000) = false := by simpa using g9
          cases g10 : (x1 == 1) with
          | false =>
            have g10' : (x1 != 1) = true := by simpa using g10
            have HN : Hid (okB x0 x1 sx l2 = false) := by show _ = _; rw [HOK2.out, g8, g9, g10]; simp
            clear HOK2; have HZ : Hid (tabB cs = false) := BAD.out (by exact HN.out); clear hcs hpr hbe hb0 hlp HC HV HQ HD HOK HCO HEX HCV HW BAD; go_wp2_with (first | (go_at_call 80; refine HSPW.mono ?_; rintro e w' ⟨rfl, rfl⟩) | (go_at_call 81; refine (l3prefix_any _ _).mono ?_; rintro e w' ⟨rfl, rfl⟩)); go_ret; exact ⟨HF.out _ HZ.out.symm, HB1.out⟩
          | true =>
            have g10' : (x1 != 1) = false := by simpa using g10
            have HOKT : Hid (okC (x0, x1, x2) = true) := by show _ = _; rw [HOK.out, HOK2.out, g8, g9, g10]; simp
            have HCT : Hid (comC (x0, x1, x2) = true) := by show _ = _; rw [HCO.out, g8]
            by_cases hk0 : k = 0
            ·subst hk0
             have e0 := hb0 rfl; rw [e0] at HD; simp only [Nat.zero_mul, Nat.add_zero] at h0 h1 h2
             have HZ : Hid (tabB cs = (chainO (befO cs (0 + 1)) (cs.drop (0 + 1)) && ((m + 1) + (cs.drop (0 + 1)).countP comC == 1))) := by show _ = _; rw [HD.out, HOKT.out, HCT.out]; simp
             clear e0 hcs hpr hbe hb0 hlp HC HV HQ HD HOK HCO HEX HCV HW BAD HOK2 HOKT HCT; go_wp2_with (first | (go_at_call 80; refine HSPW.mono ?_; rintro e w' ⟨rfl, rfl⟩) | (go_at_call 81; refine (l3prefix_any _ _).mono ?_; rintro e w' ⟨rfl, rfl⟩)); go_roundw
             case rel => exact ⟨0 + 1, (m + 1), by omega, by omega, by go_num, by go_num, HZ, HB1⟩
             case measure => simp [intOf]; omega
            ·obtain ⟨j, ej⟩ : ∃ j, k = j + 1 := ⟨k - 1, by omega⟩
             have hk0' : ¬ ((k : Int) = 0) := by omega
             have hwrap : IntKind.i64.wrap ((k : Int) - 1) = (j : Int) := by rw [show ((k : Int) - 1) = (j : Int) by omega]; exact wrap_small (by omega) (by omega)
             have hjl : j < cs.length := by omega
             have hjl' : (j : Int) < (cs.length : Int) := by omega
             have hj0 : (0 : Int) ≤ (j : Int) := by omega
             have e0 := hbe (by omega); have hpj := hpr (by omega); have hlj := hlp (by omega); rw [e0] at HD; rw [show k - 1 = j by omega] at hpj; obtain ⟨r, rc, d1, d2, d0, d3⟩ := hpj; obtain ⟨y0, y1, y2⟩ := y; simp only at d0 d1 d2 d3 hlj HD; have hg0 : g < wr.heap.size := World.block_lt_of_cell? _ _ d0
             have HLT : Hid (ltO (y0, y1, y2) (x0, x1, x2) = decide (Op.bytesLess (strOfNums y2).toList (strOfNums x2).toList = true ∨ ((strOfNums y2).toList = (strOfNums x2).toList ∧ srt y1 < srt x1))) := by show _ = _; rw [ltO]; simp only [opCmp_lt]
             have cvy : ∀ W, Below wr.heap.size wr W → (convert 22 9 (.slice r y2.length rc)).run Tryz.prog W = .ok (.string (strOfNums y2)) W := fun W hB => conv_str (d3.below hB) y2.length rc rfl 9 Tryz.underlying9
             obtain ⟨m2, em2⟩ : ∃ l, l = y2.length := ⟨_, rfl⟩
             obtain ⟨sy, esy⟩ : ∃ s, s = strOfNums y2 := ⟨_, rfl⟩
             rw [← em2, ← esy] at cvy; rw [← esy, ← HEX.out.2] at HLT; rw [← em2] at d0; have hW3 : Below wr.heap.size wr (wr.alloc (Obj.cells #[.slice q l2 qc, .int .i64 x0, .int .i64 x1] 94)) := HW.out; have d0 := (hW3.cell (p := ⟨_, _, none⟩) hg0).trans d0; have d1 := (hW3.cell (p := ⟨_, _, none⟩) hg0).trans d1; have d2 := (hW3.cell (p := ⟨_, _, none⟩) hg0).trans d2; have hW4 : Below wr.heap.size wr ((wr.alloc (Obj.cells #[.slice q l2 qc, .int .i64 x0, .int .i64 x1] 94)).alloc (Obj.cells #[.slice r m2 rc, .int .i64 y0, .int .i64 y1] 94)) := hW3.alloc (by simp) _; have cx := HCV.out _ hW4; have cy := cvy _ hW4; have HB2 : Hid (Below w.heap.size w ((wr.alloc (Obj.cells #[.slice q l2 qc, .int .i64 x0, .int .i64 x1] 94)).alloc (Obj.cells #[.slice r m2 rc, .int .i64 y0, .int .i64 y1] 94))) := Below.on HB.out hW4
             have HBADL : Hid (ltO (y0, y1, y2) (x0, x1, x2) = false → tabB cs = false) := fun h => by rw [HD.out, h]; simp
             have HGOOD : Hid (ltO (y0, y1, y2) (x0, x1, x2) = true → tabB cs = (chainO (befO cs (k + 1)) (cs.drop (k + 1)) && ((m + 1) + (cs.drop (k + 1)).countP comC == 1))) := fun h => by rw [HD.out, HOKT.out, HCT.out, h]; simp
             have HEJ : Hid (k = j + 1) := ej; clear e0 hpr hbe hb0 hlp HC HV HQ hcs em2 esy d3 ey hW3 hW4 ej hk0 hlj hg0 HD HOK HCO HEX HCV HW BAD HOK2 HOKT HCT cvy
             cases q1 : Op.bytesLess sy.toList sx.toList with
             | true =>
               have q2 : (sy.toList == sx.toList) = false := by cases h : (sy.toList == sx.toList) with | false => rfl | true => (have h' : sy.toList = sx.toList := (by simpa using h)); rw [h', bl_irrefl] at q1; cases q1
               have HL : Hid (ltO (y0, y1, y2) (x0, x1, x2) = true) := by show _ = _; rw [HLT.out]; simp [q1]
               have HZ := HGOOD.out (by exact HL.out); have HZ' : Hid _ := HZ; clear HZ HGOOD HBADL HLT; go_wp2_with (first | (go_at_call 80; refine HSPW.mono ?_; rintro e w' ⟨rfl, rfl⟩) | (go_at_call 81; refine (l3prefix_any _ _).mono ?_; rintro e w' ⟨rfl, rfl⟩)); go_roundw
               case rel => exact ⟨k + 1, (m + 1), by omega, by omega, by go_num, by go_num, HZ', HB2⟩
               case measure => simp [intOf]; omega
             | false =>
               cases q2 : (sy.toList == sx.toList) with
               | false =>
                 have HL : Hid (ltO (y0, y1, y2) (x0, x1, x2) = false) := by show _ = _; rw [HLT.out]; have q2' : ¬ sy.toList = sx.toList := (by simpa using q2); simp [q1, q2']
                 have HZ := HBADL.out (by exact HL.out); have HZ' : Hid _ := HZ; clear HZ HGOOD HBADL HLT; go_wp2_with (first | (go_at_call 80; refine HSPW.mono ?_; rintro e w' ⟨rfl, rfl⟩) | (go_at_call 81; refine (l3prefix_any _ _).mono ?_; rintro e w' ⟨rfl, rfl⟩)); go_ret; exact ⟨HF.out _ HZ'.out.symm, HB2.out⟩
               | true =>
                 have q2' : sy.toList = sx.toList := by simpa using q2
                 have HL : Hid (ltO (y0, y1, y2) (x0, x1, x2) = decide (preB y1 = true ∧ preB x1 = false)) := by show _ = _; rw [HLT.out]; simp [q2', bl_irrefl, srt_lt]
                 clear q2'
                 cases q5 : preB y1 with
                 | false =>
                   have HZ := HBADL.out (by rw [HL.out, q5]; simp); have HZ' : Hid _ := HZ; clear HZ HGOOD HBADL HLT; go_wp2_with (first | (go_at_call 80; refine HSPW.mono ?_; rintro e w' ⟨rfl, rfl⟩) | (go_at_call 81; refine (l3prefix_any _ _).mono ?_; rintro e w' ⟨rfl, rfl⟩)); go_ret; exact ⟨HF.out _ HZ'.out.symm, HB2.out⟩
                 | true =>
                   cases q6 : preB x1 with
                   | true =>
                     have HZ := HBADL.out (by rw [HL.out, q6]; simp); have HZ' : Hid _ := HZ; clear HZ HGOOD HBADL HLT; go_wp2_with (first | (go_at_call 80; refine HSPW.mono ?_; rintro e w' ⟨rfl, rfl⟩) | (go_at_call 81; refine (l3prefix_any _ _).mono ?_; rintro e w' ⟨rfl, rfl⟩)); go_ret; exact ⟨HF.out _ HZ'.out.symm, HB2.out⟩
                   | false =>
                     have HZ := HGOOD.out (by rw [HL.out, q5, q6]; simp); have HZ' : Hid _ := HZ; clear HZ HGOOD HBADL HLT; go_wp2_with (first | (go_at_call 80; refine HSPW.mono ?_; rintro e w' ⟨rfl, rfl⟩) | (go_at_call 81; refine (l3prefix_any _ _).mono ?_; rintro e w' ⟨rfl, rfl⟩)); go_roundw
                     case rel => exact ⟨k + 1, (m + 1), by omega, by omega, by go_num, by go_num, HZ', HB2⟩
                     case measure => simp [intOf]; omega
      | false =>
        have HOKT : Hid (okC (x0, x1, x2) = true) := by show _ = _; rw [HOK.out, HOK2.out, g8]; simp
        have HCT : Hid (comC (x0, x1, x2) = false) := by show _ = _; rw [HCO.out, g8]
        by_cases hk0 : k = 0
        ·subst hk0
         have e0 := hb0 rfl; rw [e0] at HD; simp only [Nat.zero_mul, Nat.add_zero] at h0 h1 h2
         have HZ : Hid (tabB cs = (chainO (befO cs (0 + 1)) (cs.drop (0 + 1)) && (m + (cs.drop (0 + 1)).countP comC == 1))) := by show _ = _; rw [HD.out, HOKT.out, HCT.out]; simp
         clear e0 hcs hpr hbe hb0 hlp HC HV HQ HD HOK HCO HEX HCV HW BAD HOK2 HOKT HCT; go_wp2_with (first | (go_at_call 80; refine HSPW.mono ?_; rintro e w' ⟨rfl, rfl⟩) | (go_at_call 81; refine (l3prefix_any _ _).mono ?_; rintro e w' ⟨rfl, rfl⟩)); go_roundw
         case rel => exact ⟨0 + 1, m, by omega, by omega, by go_num, by go_num, HZ, HB1⟩
         case measure => simp [intOf]; omega
        ·obtain ⟨j, ej⟩ : ∃ j, k = j + 1 := ⟨k - 1, by omega⟩
         have hk0' : ¬ ((k : Int) = 0) := by omega
         have hwrap : IntKind.i64.wrap ((k : Int) - 1) = (j : Int) := by rw [show ((k : Int) - 1) = (j : Int) by omega]; exact wrap_small (by omega) (by omega)
         have hjl : j < cs.length := by omega
         have hjl' : (j : Int) < (cs.length : Int) := by omega
         have hj0 : (0 : Int) ≤ (j : Int) := by omega
         have e0 := hbe (by omega); have hpj := hpr (by omega); have hlj := hlp (by omega); rw [e0] at HD; rw [show k - 1 = j by omega] at hpj; obtain ⟨r, rc, d1, d2, d0, d3⟩ := hpj; obtain ⟨y0, y1, y2⟩ := y; simp only at d0 d1 d2 d3 hlj HD; have hg0 : g < wr.heap.size := World.block_lt_of_cell? _ _ d0
         have HLT : Hid (ltO (y0, y1, y2) (x0, x1, x2) = decide (Op.bytesLess (strOfNums y2).toList (strOfNums x2).toList = true ∨ ((strOfNums y2).toList = (strOfNums x2).toList ∧ srt y1 < srt x1))) := by show _ = _; rw [ltO]; simp only [opCmp_lt]
         have cvy : ∀ W, Below wr.heap.size wr W → (convert 22 9 (.slice r y2.length rc)).run Tryz.prog W = .ok (.string (strOfNums y2)) W := fun W hB => conv_str (d3.below hB) y2.length rc rfl 9 Tryz.underlying9
         obtain ⟨m2, em2⟩ : ∃ l, l = y2.length := ⟨_, rfl⟩
         obtain ⟨sy, esy⟩ : ∃ s, s = strOfNums y2 := ⟨_, rfl⟩
         rw [← em2, ← esy] at cvy; rw [← esy, ← HEX.out.2] at HLT; rw [← em2] at d0; have hW3 : Below wr.heap.size wr (wr.alloc (Obj.cells #[.slice q l2 qc, .int .i64 x0, .int .i64 x1] 94)) := HW.out; have d0 := (hW3.cell (p := ⟨_, _, none⟩) hg0).trans d0; have d1 := (hW3.cell (p := ⟨_, _, none⟩) hg0).trans d1; have d2 := (hW3.cell (p := ⟨_, _, none⟩) hg0).trans d2; have hW4 : Below wr.heap.size wr ((wr.alloc (Obj.cells #[.slice q l2 qc, .int .i64 x0, .int .i64 x1] 94)).alloc (Obj.cells #[.slice r m2 rc, .int .i64 y0, .int .i64 y1] 94)) := hW3.alloc (by simp) _; have cx := HCV.out _ hW4; have cy := cvy _ hW4; have HB2 : Hid (Below w.heap.size w ((wr.alloc (Obj.cells #[.slice q l2 qc, .int .i64 x0, .int .i64 x1] 94)).alloc (Obj.cells #[.slice r m2 rc, .int .i64 y0, .int .i64 y1] 94))) := Below.on HB.out hW4
         have HBADL : Hid (ltO (y0, y1, y2) (x0, x1, x2) = false → tabB cs = false) := fun h => by rw [HD.out, h]; simp
         have HGOOD : Hid (ltO (y0, y1, y2) (x0, x1, x2) = true → tabB cs = (chainO (befO cs (k + 1)) (cs.drop (k + 1)) && (m + (cs.drop (k + 1)).countP comC == 1))) := fun h => by rw [HD.out, HOKT.out, HCT.out, h]; simp
         have HEJ : Hid (k = j + 1) := ej; clear e0 hpr hbe hb0 hlp HC HV HQ hcs em2 esy d3 ey hW3 hW4 ej hk0 hlj hg0 HD HOK HCO HEX HCV HW BAD HOK2 HOKT HCT cvy
         cases q1 : Op.bytesLess sy.toList sx.toList with
         | true =>
           have q2 : (sy.toList == sx.toList) = false := by cases h : (sy.toList == sx.toList) with | false => rfl | true => (have h' : sy.toList = sx.toList := (by simpa using h)); rw [h', bl_irrefl] at q1; cases q1
           have HL : Hid (ltO (y0, y1, y2) (x0, x1, x2) = true) := by show _ = _; rw [HLT.out]; simp [q1]
           have HZ := HGOOD.out (by exact HL.out); have HZ' : Hid _ := HZ; clear HZ HGOOD HBADL HLT; go_wp2_with (first | (go_at_call 80; refine HSPW.mono ?_; rintro e w' ⟨rfl, rfl⟩) | (go_at_call 81; refine (l3prefix_any _ _).mono ?_; rintro e w' ⟨rfl, rfl⟩)); go_roundw
           case rel => exact ⟨k + 1, m, by omega, by omega, by go_num, by go_num, HZ', HB2⟩
           case measure => simp [intOf]; omega
         | false =>
           cases q2 : (sy.toList == sx.toList) with
           | false =>
             have HL : Hid (ltO (y0, y1, y2) (x0, x1, x2) = false) := by show _ = _; rw [HLT.out]; have q2' : ¬ sy.toList = sx.toList := (by simpa using q2); simp [q1, q2']
             have HZ := HBADL.out (by exact HL.out); have HZ' : Hid _ := HZ; clear HZ HGOOD HBADL HLT; go_wp2_with (first | (go_at_call 80; refine HSPW.mono ?_; rintro e w' ⟨rfl, rfl⟩) | (go_at_call 81; refine (l3prefix_any _ _).mono ?_; rintro e w' ⟨rfl, rfl⟩)); go_ret; exact ⟨HF.out _ HZ'.out.symm, HB2.out⟩
           | true =>
             have q2' : sy.toList = sx.toList := by simpa using q2
             have HL : Hid (ltO (y0, y1, y2) (x0, x1, x2) = decide (preB y1 = true ∧ preB x1 = false)) := by show _ = _; rw [HLT.out]; simp [q2', bl_irrefl, srt_lt]
             clear q2'
             cases q5 : preB y1 with
             | false =>
               have HZ := HBADL.out (by rw [HL.out, q5]; simp); have HZ' : Hid _ := HZ; clear HZ HGOOD HBADL HLT; go_wp2_with (first | (go_at_call 80; refine HSPW.mono ?_; rintro e w' ⟨rfl, rfl⟩) | (go_at_call 81; refine (l3prefix_any _ _).mono ?_; rintro e w' ⟨rfl, rfl⟩)); go_ret; exact ⟨HF.out _ HZ'.out.symm, HB2.out⟩
             | true =>
               cases q6 : preB x1 with
               | true =>
                 have HZ := HBADL.out (by rw [HL.out, q6]; simp); have HZ' : Hid _ := HZ; clear HZ HGOOD HBADL HLT; go_wp2_with (first | (go_at_call 80; refine HSPW.mono ?_; rintro e w' ⟨rfl, rfl⟩) | (go_at_call 81; refine (l3prefix_any _ _).mono ?_; rintro e w' ⟨rfl, rfl⟩)); go_ret; exact ⟨HF.out _ HZ'.out.symm, HB2.out⟩
               | false =>
                 have HZ := HGOOD.out (by rw [HL.out, q5, q6]; simp); have HZ' : Hid _ := HZ; clear HZ HGOOD HBADL HLT; go_wp2_with (first | (go_at_call 80; refine HSPW.mono ?_; rintro e w' ⟨rfl, rfl⟩) | (go_at_call 81; refine (l3prefix_any _ _).mono ?_; rintro e w' ⟨rfl, rfl⟩)); go_roundw
                 case rel => exact ⟨k + 1, m, by omega, by omega, by go_num, by go_num, HZ', HB2⟩
                 case measure => simp [intOf]; omega
   ·obtain rfl : k = cs.length := by omega
    have HQ' : Hid (tabB cs = ((m : Int) == 1)) := by
     have := HQ.out; rw [List.drop_length] at this
     show _ = _
     rw [this, Bool.eq_iff_iff]
     simp [chainO]
     omega
    clear HQ HC HV
    go_wp2
    go_ret; exact ⟨HF.out _ (by rw [HQ'.out]), HB.out⟩
 ·have hl' : (200 : Int) < cs.length := by omega
  have hv : tabB cs = false := by simp [tabB]; omega
  rw [hv]; clear hv
  go_enter Tryz.func55, Tryz.ntmps55
  go_wp2
  go_ret; exact ⟨rfl, Below.refl _ _⟩
end
section
open Go Go.RowKit
theorem tree_ofW {cs : List Cel} (hb : ∀ i, i < cs.length → Byte (cs.getD i Cel.none).2.2) (hv : validB cs = true) : ∃ c k, cs = c :: k.cells ∧ (Fo.node c k .nil).ok ∧ cs.length ≤ 2000 := by
 simp only [validB, Bool.and_eq_true, decide_eq_true_eq] at hv; obtain ⟨F, h1, h2, h3⟩ := forest_of cs 1 hb hv.2
 cases F with
 | nil => simp [Fo.count] at h1
 | node c k r =>
   cases r with
   | nil => exact ⟨c, k, by rw [← h2]; simp [Fo.cells], h3, hv.1⟩
   | node a b d => simp [Fo.count] at h1
def WrIs (T : List Cel) (N : List (List Int)) (q : Bool) (xs : List Cel) (R : List Int) : Prop := (tabB T = true ∧ validB xs = true ∧ ∃ c k, xs = c :: k.cells ∧ (Fo.node c k .nil).ok ∧ R = textF T N q xs.length (c, k) 1200) ∨ (¬ (tabB T = true ∧ validB xs = true) ∧ R = [])
theorem chain_all : ∀ (cs : List Cel) (a : Option Cel), chainO a cs = true → ∀ c ∈ cs, okC c = true
 | [], _, _, c, h => by cases h
 | x :: r, a, h, c, hc => by
   simp only [chainO, Bool.and_eq_true] at h
   rcases List.mem_cons.1 hc with rfl | hc
   ·exact h.1.1
   ·exact chain_all r (some x) h.2 c hc
theorem tab_facts {T : List Cel} (h : tabB T = true) : T.length ≤ 200 ∧ ∀ i, i < T.length → (1 ≤ (T.getD i Cel.none).2.2.length ∧ (T.getD i Cel.none).2.2.length ≤ 100) ∧ (0 ≤ (T.getD i Cel.none).2.1 ∧ (T.getD i Cel.none).2.1 ≤ 6) ∧ 1 ≤ (T.getD i Cel.none).1 ∧ (T.getD i Cel.none).1 ≤ 1200 := by
 simp only [tabB, Bool.and_eq_true, decide_eq_true_eq] at h; refine ⟨h.1, fun i hi => ?_⟩; have h9 := chain_all T none h.2.1 (T.getD i Cel.none) (by simp [List.getD, hi]); simp only [okC, okB, Bool.and_eq_true, decide_eq_true_eq] at h9; exact ⟨h9.1, h9.2.1, h9.2.2.1⟩
theorem wr_det {T : List Cel} {N : List (List Int)} {q : Bool} {xs : List Cel} {R R' : List Int} (h : WrIs T N q xs R) (h' : WrIs T N q xs R') : R = R' := by
 rcases h with ⟨h1, h2, c, k, e, hok, eR⟩ | ⟨h1, eR⟩
 ·rcases h' with ⟨_, _, c', k', e', hok', eR'⟩ | ⟨h3, _⟩
  ·have hh := Fo.cells_inj (.node c k .nil) (.node c' k' .nil) [] [] hok hok' rfl (by simp only [Fo.cells, List.append_nil]; rw [← e, ← e'])
   have h5 := hh.1
   injection h5 with h6 h7
   subst h6 h7; rw [eR, eR']
  ·exact absurd ⟨h1, h2⟩ h3
 ·rcases h' with ⟨h3, h4, _⟩ | ⟨_, eR'⟩
  ·exact absurd ⟨h3, h4⟩ h1
  ·rw [eR, eR']
theorem wr_exB {T : List Cel} {N : List (List Int)} {q : Bool} {xs : List Cel} (hTb : ∀ i, i < T.length → Byte (T.getD i Cel.none).2.2) (hxb : ∀ i, i < xs.length → Byte (xs.getD i Cel.none).2.2) (hN : NmG N) : ∃ R, WrIs T N q xs R ∧ R.length ≤ 3000000000 ∧ Byte R := by
 by_cases h : tabB T = true ∧ validB xs = true
 ·obtain ⟨c, k, e, hok, hl⟩ := tree_ofW hxb h.2
  obtain ⟨_, ft⟩ := tab_facts h.1; refine ⟨_, .inl ⟨h.1, h.2, c, k, e, hok, rfl⟩, ?_⟩
  have hi : (itC (c, k)).length = xs.length := by rw [e]; simp [itC]
  have := text_good (T := T) (N := N) q (fun j hj => ⟨hTb j hj, (ft j hj).1.2⟩) hN xs.length (c, k) 1200 hok (by omega); rw [hi] at this; exact ⟨by omega, this.1⟩
 ·exact ⟨[], .inr ⟨h, rfl⟩, by simp, byte_nil⟩
def WrR (w : World) (T : List Cel) (N : List (List Int)) (q : Bool) (xs : List Cel) (e : Ending) (w' : World) : Prop := ∃ R p n c, WrIs T N q xs R ∧ e = .returned (.slice p n c) ∧ (tabB T = true ∧ validB xs = true → OwnR w' w.heap.size p n c R) ∧ Below w.heap.size w w'
set_option maxHeartbeats 2000000 in
theorem specWriteR_any (T : List Cel) (xs : List Cel) (N : List (List Int)) (q : Bool) (po : Option Addr) (co : Nat) (tq : Option Addr) (tc : Nat) (pn : Option Addr) (cn : Nat) (w : World) (hTb : ∀ i, i < T.length → Byte (T.getD i Cel.none).2.2) (hxb : ∀ i, i < xs.length → Byte (xs.getD i Cel.none).2.2) (hTl : T.length + tl T ≤ 1000000000) (hxl : xs.length ≤ 1000000000) (htc : xs.length ≤ tc ∧ tc ≤ 9223372036854775807) (hNl : N.length ≤ 1048576) (hNb : NmG N) (hT : OIn w po T) (hx : CIn w tq xs) (hN : NIn w pn N) :
 Calls Tryz.prog 28 #[.slice po T.length co, .slice tq xs.length tc, .slice pn N.length cn, .bool q] w (WrR w T N q xs) := by
 have HV1 := specTab_any po co T w hTl hT
 have HF : Hid (¬ (tabB T = true ∧ validB xs = true) → ∀ W, Below w.heap.size w W → WrR w T N q xs (.returned (.slice none 0 0)) W) := fun h W hW => ⟨[], none, 0, 0, .inr ⟨h, rfl⟩, rfl, fun h9 => absurd h9 h, hW⟩
 have HV2 : Hid (∀ W, Below w.heap.size w W → Calls Tryz.prog 26 #[.slice tq xs.length tc] W fun e w' => e = .returned (.bool (validB xs)) ∧ Below W.heap.size W w') := fun W hW => specValid_any tq tc xs W hxl (hx.below hW)
 by_cases h1 : tabB T = true
 ·by_cases h2 : validB xs = true
  ·obtain ⟨c, k, ex, hok, hlx⟩ := tree_ofW hxb h2
   obtain ⟨ft1, ft2⟩ := tab_facts h1; rw [h1] at HV1; rw [h2] at HV2
   have HTX : Hid (∀ W, Below w.heap.size w W → Calls Tryz.prog 56 #[.pointer (some ⟨W.heap.size, 0, none⟩), .slice tq xs.length tc, .int .i64 1200] (W.alloc (.cells #[.slice po T.length co, .slice pn N.length cn, .bool q] 88)) (StrO (textF T N q xs.length (c, k) 1200) (W.alloc (.cells #[.slice po T.length co, .slice pn N.length cn, .bool q] 88)))) := fun W hW => by
    have hal : Below W.heap.size W (W.alloc (.cells #[.slice po T.length co, .slice pn N.length cn, .bool q] 88)) := (Below.refl _ _).alloc (Nat.le_refl _) _; have hbw := Below.on hW hal; obtain ⟨b0, b1, b2⟩ := cells3 W (.slice po T.length co) (.slice pn N.length cn) (.bool q) 88
    have hE : WEnv (W.alloc (.cells #[.slice po T.length co, .slice pn N.length cn, .bool q] 88)) W.heap.size po co T pn cn N q := ⟨b0, b1, b2, hT.below hbw, fun i hi => ⟨hTb i hi, (ft2 i hi).1.2, ⟨by have := (ft2 i hi).2.2.1; omega, (ft2 i hi).2.2.2⟩, (ft2 i hi).2.1.1, (ft2 i hi).2.1.2⟩, by omega, hN.below hbw, fun i hi => hNb i hi, hNl⟩
    have hi : (itC (c, k)).length = xs.length := by rw [ex]; simp [itC]
    exact text_all W.heap.size po co T pn cn N q (fun j hj => (ft2 j hj).1.1) xs.length _ hE (c, k) 1200 tq xs.length tc _ hok (by omega) (by omega) ⟨hi.symm, htc.1, htc.2, by have h9 := hx.below hbw; rw [ex] at h9; exact h9⟩ (by decide) (by decide) (Below.refl _ _)
   have hgood := text_good (T := T) (N := N) q (fun j hj => ⟨hTb j hj, (ft2 j hj).1.2⟩) hNb xs.length (c, k) 1200 hok (by simp [itC]; rw [ex] at hlx; simp at hlx; omega)
   obtain ⟨R, eR⟩ : ∃ R, R = textF T N q xs.length (c, k) 1200 := ⟨_, rfl⟩
   rw [← eR] at HTX hgood
   have HFI : Hid (∀ p n cc W, OwnR W w.heap.size p n cc R → Below w.heap.size w W → WrR w T N q xs (.returned (.slice p n cc)) W) := fun p n cc W ho hW => ⟨R, p, n, cc, .inl ⟨h1, h2, c, k, ex, hok, eR⟩, rfl, fun _ => ho, hW⟩
   have HRB : Hid (Byte R) := hgood.1
   have HRL : Hid (R.length ≤ 9000000000000000000) := by have h8 := hgood.2; have h9 : (itC (c, k)).length ≤ 2000 := by (simp [itC]; rw [ex] at hlx; simp at hlx; omega)
                                                         show _ ≤ _; omega
   obtain ⟨m, em⟩ : ∃ m, m = xs.length := ⟨_, rfl⟩
   rw [← em] at HV2 HTX ⊢; clear h1 h2 hT hx hN hTb hxb hTl hxl htc hNl hNb ex hok hlx ft1 ft2 hgood eR HF em
   go_enter Tryz.func28, Tryz.ntmps28
   go_wp2_with fail; refine HV1.mono ?_; rintro e w1 ⟨rfl, hb1⟩; have HB1 : Hid (Below w.heap.size w w1) := hb1; clear hb1 HV1; go_wp2_with fail; refine (HV2.out w1 HB1.out).mono ?_; rintro e w2 ⟨rfl, hb2⟩; have HB2 : Hid (Below w.heap.size w w2) := Below.on HB1.out hb2; clear hb2; have HX := HTX.out w2 HB2.out; go_wp2_with fail; refine HX.mono ?_; rintro e w3 ⟨rfl, hb3⟩; have HB3 : Hid (Below w.heap.size w w3) := Below.on HB2.out (Below.on ((Below.refl _ _).alloc (Nat.le_refl _) _) hb3); obtain ⟨w4, cp, hcv, hb4, hot⟩ := conv_R w3 R HRB.out HRL.out 9 Tryz.underlying9; have HO4 : Hid (OwnR w4 w.heap.size (some ⟨w3.heap.size, 0, none⟩) R.length cp R) := hot.mono HB3.out.size; have HB4 : Hid (Below w.heap.size w w4) := Below.on HB3.out hb4
   obtain ⟨s, es⟩ : ∃ s, s = strOfNums R := ⟨_, rfl⟩
   rw [← es] at hcv ⊢; clear hb3 hb4 hot HX es; go_wp2_with fail; go_ret; exact HFI.out _ _ _ _ HO4.out HB4.out
  ·have h2' : validB xs = false := by simpa using h2
   rw [h1] at HV1; rw [h2'] at HV2; have HF2 : Hid (∀ W, Below w.heap.size w W → WrR w T N q xs (.returned (.slice none 0 0)) W) := HF.out (fun h => h2 h.2); clear h1 h2 h2' hT hx hN hTb hxb hTl hxl htc hNl hNb HF
   go_enter Tryz.func28, Tryz.ntmps28
   go_wp2_with fail; refine HV1.mono ?_; rintro e w1 ⟨rfl, hb1⟩; have HB1 : Hid (Below w.heap.size w w1) := hb1; clear hb1 HV1; go_wp2_with fail; refine (HV2.out w1 HB1.out).mono ?_; rintro e w2 ⟨rfl, hb2⟩; have HB2 : Hid (Below w.heap.size w w2) := Below.on HB1.out hb2; clear hb2; go_wp2_with fail; go_ret; exact HF2.out _ HB2.out
 ·have h1' : tabB T = false := by simpa using h1
  rw [h1'] at HV1; have HF2 : Hid (∀ W, Below w.heap.size w W → WrR w T N q xs (.returned (.slice none 0 0)) W) := HF.out (fun h => h1 h.1); clear h1 h1' hT hx hN hTb hxb hTl hxl htc hNl hNb HF HV2
  go_enter Tryz.func28, Tryz.ntmps28
  go_wp2_with fail; refine HV1.mono ?_; rintro e w1 ⟨rfl, hb1⟩; have HB1 : Hid (Below w.heap.size w w1) := hb1; clear hb1 HV1; go_wp2_with fail; go_ret; exact HF2.out _ HB1.out
end
end Go.Proofs.YtfgmenkoeflhaaaGreatDoor
