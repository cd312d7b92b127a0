/- Texts of OpsV5, WtZ, WiX. Own work of the verifier. -/
import Derived.Test.YtgonpnnlpkjkcaaGreatDoorUqam
import Derived.Test.YtgonpnnlpkjkcaaGreatDoorUqbk
import Derived.Test.YtgonpnnlpkjkcaaGreatDoorUqbe
import Derived.Test.YtgonpnnlpkjkcaaGreatDoorUqal
namespace Go.Proofs.YtgonpnnlpkjkcaaGreatDoor
open Go Go.RowKit Go.Sort
set_option linter.unusedVariables false

theorem tab_count (cs : List Cel) (a : Option Cel) : (chainO a cs && cs.any comC) = (chainO a cs && (cs.countP comC == 1)) := by
  cases h : chainO a cs with
  | false => rfl
  | true =>
    rw [com_count cs a h]
    cases cs.any comC <;> simp
theorem okB_res {k n : Int} {s : ByteArray} {m : Nat} (h : resB s = true) : okB k n s m = false := by
  have : (s.toList == [44]) = false := by
    simp only [resB, Bool.or_eq_true, beq_iff_eq] at h
    rcases h with (h | h) | h <;> rw [h] <;> rfl
  simp [okB, this, h]
theorem srt_lt {a b : Int} : srt a < srt b ↔ preB a = true ∧ preB b = false := by
  unfold srt
  cases preB a <;> cases preB b <;> simp

set_option maxRecDepth 100000 in
set_option maxHeartbeats 6000000 in
theorem specTab_any (p : Option Addr) (c : Nat) (cs : List Cel) (w : World) (hn : cs.length + tl cs ≤ 1000000000) (hc : OIn w p cs) :
    Calls Tryz.prog 24 #[.slice p cs.length c] w fun e w' => e = .returned (.bool (tabB cs)) ∧ Below w.heap.size w w' := by
  have HC : Hid (OIn w p cs) := hc
  clear hc
  by_cases hl : cs.length ≤ 200
  · have hl' : ¬ (200 : Int) < cs.length := by omega
    have HV : Hid (tabB cs = (chainO none cs && (cs.countP comC == 1))) := by show _ = _; rw [← tab_count]; simp [tabB, hl]
    have HF : Hid (∀ b, b = tabB cs → Ending.returned (.bool b) = .returned (.bool (tabB cs))) := fun b h => ret_bool h
    go_enter Tryz.func24, Tryz.ntmps24
    go_wp2
    clear hl'
    go_loopw [3, 4] (fun s i wr => ∃ (k m : Nat), k ≤ cs.length ∧ m ≤ k ∧ s = .int .i64 m ∧ i = .int .i64 k ∧ Hid (tabB cs = (chainO (befO cs k) (cs.drop k) && (m + (cs.drop k).countP comC == 1))) ∧ Hid (Below w.heap.size w wr)) (fun _ i _ => cs.length - (intOf i).toNat)
    case atStart => exact ⟨0, 0, Nat.zero_le _, Nat.zero_le _, rfl, rfl, by show _ = _; rw [HV.out]; simp [befO], Below.refl _ _⟩
    case round =>
      obtain ⟨k, m, hk, hmk, rfl, rfl, HQ, HB⟩ := hrel
      by_cases hlt : k < cs.length
      · obtain ⟨g, o, rfl, hcs⟩ := HC.out (by omega)
        have hat := (hcs k hlt).below HB.out
        have hpr : 0 < k → OAt wr g (o + (k - 1) * 3) (cs.getD (k - 1) Cel.none) := fun h => (hcs (k - 1) (by omega)).below HB.out
        have hbe : 0 < k → befO cs k = some (cs.getD (k - 1) Cel.none) := fun h => by simp [befO]; omega
        have hb0 : k = 0 → befO cs k = none := fun h => by simp [befO, h]
        have hlk := tl_at cs k hlt
        have hlp : 0 < k → (cs.getD (k - 1) Cel.none).2.2.length ≤ tl cs := fun h => tl_at cs (k - 1) (by omega)
        have HD : Hid (tabB cs = ((okC (cs.getD k Cel.none) && (match befO cs k with | none => true | some x => ltO x (cs.getD k Cel.none)) && chainO (befO cs (k + 1)) (cs.drop (k + 1))) && ((m + (if comC (cs.getD k Cel.none) then 1 else 0)) + (cs.drop (k + 1)).countP comC == 1))) := by
          show _ = _
          rw [HQ.out, chainO_at cs k hlt, drop_at cs k hlt, List.countP_cons]
          congr 2
          omega
        obtain ⟨x, ex⟩ : ∃ x, x = cs.getD k Cel.none := ⟨_, rfl⟩
        obtain ⟨y, ey⟩ : ∃ y, y = cs.getD (k - 1) Cel.none := ⟨_, rfl⟩
        rw [← ex] at hat HD hlk
        rw [← ey] at hpr hbe hlp
        obtain ⟨q, qc, h0, h1, h2, h3⟩ := hat
        obtain ⟨x0, x1, x2⟩ := x
        simp only at h0 h1 h2 h3 hlk
        have hW : Below wr.heap.size wr (wr.alloc (Obj.cells #[.slice q x2.length qc, .int .i64 x0, .int .i64 x1] 55)) := (Below.refl _ _).alloc (Nat.le_refl _) _
        have HCV : Hid (∀ W, Below wr.heap.size wr W → (convert 28 9 (.slice q x2.length qc)).run Tryz.prog W = .ok (.string (strOfNums x2)) W) := fun W hB => conv_str (h3.below hB) x2.length qc rfl 9 Tryz.underlying9
        have HSP : Hid (∀ W, Below wr.heap.size wr W → Calls Tryz.prog 37 #[.slice q x2.length qc] W fun e w' => e = .returned (.bool (resB (strOfNums x2))) ∧ w' = W) := fun W hB => l3special_any q x2.length qc x2 W rfl (h3.below hB)
        have HOK : Hid (okC (x0, x1, x2) = okB x0 x1 (strOfNums x2) x2.length) := rfl
        have HCO : Hid (comC (x0, x1, x2) = ((strOfNums x2).toList == [44])) := rfl
        obtain ⟨l2, el2⟩ : ∃ l, l = x2.length := ⟨_, rfl⟩
        obtain ⟨sx, esx⟩ : ∃ s, s = strOfNums x2 := ⟨_, rfl⟩
        rw [← el2, ← esx] at HCV HSP HOK
        rw [← esx] at HCO
        rw [← el2] at h2 hW hlk
        have HEX : Hid (l2 = x2.length ∧ sx = strOfNums x2) := ⟨el2, esx⟩
        clear el2 esx ex h3
        have cv := HCV.out _ hW
        have HSPW := HSP.out _ hW
        have HW : Hid _ := hW
        have HB1 : Hid (Below w.heap.size w (wr.alloc (Obj.cells #[.slice q l2 qc, .int .i64 x0, .int .i64 x1] 55))) := Below.on HB.out hW
        clear hW HSP
        have BAD : Hid (okB x0 x1 sx l2 = false → tabB cs = false) := fun h => by rw [HD.out, HOK.out, h]; simp
        by_cases g1 : l2 < 1
        · have g1' : ((l2 : Int) < 1) := by omega
          have HZ : Hid (tabB cs = false) := BAD.out (by have h9 : ¬ 1 ≤ l2 := (by omega); simp [okB, h9])
          clear hcs hpr hbe hb0 hlp HC HV HQ HD HOK HCO HEX HCV HW BAD
          go_wp2_with (first | (go_at_call 37; refine HSPW.mono ?_; rintro e w' ⟨rfl, rfl⟩) | (go_at_call 38; refine (l3prefix_any _ _).mono ?_; rintro e w' ⟨rfl, rfl⟩))
          go_ret
          exact ⟨HF.out _ HZ.out.symm, HB1.out⟩
        by_cases g2 : 100 < l2
        · have g2' : (100 : Int) < (l2 : Int) := by omega
          have HZ : Hid (tabB cs = false) := BAD.out (by have h9 : ¬ l2 ≤ 100 := (by omega); simp [okB, h9])
          clear hcs hpr hbe hb0 hlp HC HV HQ HD HOK HCO HEX HCV HW BAD
          go_wp2_with (first | (go_at_call 37; refine HSPW.mono ?_; rintro e w' ⟨rfl, rfl⟩) | (go_at_call 38; refine (l3prefix_any _ _).mono ?_; rintro e w' ⟨rfl, rfl⟩))
          go_ret
          exact ⟨HF.out _ HZ.out.symm, HB1.out⟩
        have g1' : ¬ ((l2 : Int) < 1) := by omega
        have g2' : ¬ (100 : Int) < (l2 : Int) := by omega
        cases g3 : resB sx with
        | true =>
          rw [g3] at HSPW
          have HZ : Hid (tabB cs = false) := BAD.out (by exact okB_res g3)
          clear hcs hpr hbe hb0 hlp HC HV HQ HD HOK HCO HEX HCV HW BAD
          go_wp2_with (first | (go_at_call 37; refine HSPW.mono ?_; rintro e w' ⟨rfl, rfl⟩) | (go_at_call 38; refine (l3prefix_any _ _).mono ?_; rintro e w' ⟨rfl, rfl⟩))
          go_ret
          exact ⟨HF.out _ HZ.out.symm, HB1.out⟩
        | false =>
          rw [g3] at HSPW
          by_cases g4 : x0 < 1
          · skip
            have HZ : Hid (tabB cs = false) := BAD.out (by have h9 : ¬ 1 ≤ x0 := (by omega); simp [okB, h9])
            clear hcs hpr hbe hb0 hlp HC HV HQ HD HOK HCO HEX HCV HW BAD
            go_wp2_with (first | (go_at_call 37; refine HSPW.mono ?_; rintro e w' ⟨rfl, rfl⟩) | (go_at_call 38; refine (l3prefix_any _ _).mono ?_; rintro e w' ⟨rfl, rfl⟩))
            go_ret
            exact ⟨HF.out _ HZ.out.symm, HB1.out⟩
          by_cases g5 : 1200 < x0
          · skip
            have HZ : Hid (tabB cs = false) := BAD.out (by have h9 : ¬ x0 ≤ 1200 := (by omega); simp [okB, h9])
            clear hcs hpr hbe hb0 hlp HC HV HQ HD HOK HCO HEX HCV HW BAD
            go_wp2_with (first | (go_at_call 37; refine HSPW.mono ?_; rintro e w' ⟨rfl, rfl⟩) | (go_at_call 38; refine (l3prefix_any _ _).mono ?_; rintro e w' ⟨rfl, rfl⟩))
            go_ret
            exact ⟨HF.out _ HZ.out.symm, HB1.out⟩
          by_cases g6 : x1 < 0
          · skip
            have HZ : Hid (tabB cs = false) := BAD.out (by have h9 : ¬ 0 ≤ x1 := (by omega); simp [okB, h9])
            clear hcs hpr hbe hb0 hlp HC HV HQ HD HOK HCO HEX HCV HW BAD
            go_wp2_with (first | (go_at_call 37; refine HSPW.mono ?_; rintro e w' ⟨rfl, rfl⟩) | (go_at_call 38; refine (l3prefix_any _ _).mono ?_; rintro e w' ⟨rfl, rfl⟩))
            go_ret
            exact ⟨HF.out _ HZ.out.symm, HB1.out⟩
          by_cases g7 : 6 < x1
          · skip
            have HZ : Hid (tabB cs = false) := BAD.out (by have h9 : ¬ x1 ≤ 6 := (by omega); simp [okB, h9])
            clear hcs hpr hbe hb0 hlp HC HV HQ HD HOK HCO HEX HCV HW BAD
            go_wp2_with (first | (go_at_call 37; refine HSPW.mono ?_; rintro e w' ⟨rfl, rfl⟩) | (go_at_call 38; refine (l3prefix_any _ _).mono ?_; rintro e w' ⟨rfl, rfl⟩))
            go_ret
            exact ⟨HF.out _ HZ.out.symm, HB1.out⟩
          have HOK2 : Hid (okB x0 x1 sx l2 = (if sx.toList == [44] then (x0 == 1000 && x1 == 1) else true)) := by
            show _ = _
            have a1 : 1 ≤ l2 := by omega
            have a2 : l2 ≤ 100 := by omega
            have a3 : 0 ≤ x1 := by omega
            have a4 : x1 ≤ 6 := by omega
            have a5 : 1 ≤ x0 := by omega
            have a6 : x0 ≤ 1200 := by omega
            simp only [okB, a1, a2, a3, a4, a5, a6, g3]; simp
          cases g8 : (sx.toList == [44]) with
          | true =>
            cases g9 : (x0 == 1000) with
            | false =>
              have g9' : (x0 != 1000) = true := by simpa using g9
              have HN : Hid (okB x0 x1 sx l2 = false) := by show _ = _; rw [HOK2.out, g8, g9]; simp
              clear HOK2
              have HZ : Hid (tabB cs = false) := BAD.out (by exact HN.out)
              clear hcs hpr hbe hb0 hlp HC HV HQ HD HOK HCO HEX HCV HW BAD
              go_wp2_with (first | (go_at_call 37; refine HSPW.mono ?_; rintro e w' ⟨rfl, rfl⟩) | (go_at_call 38; refine (l3prefix_any _ _).mono ?_; rintro e w' ⟨rfl, rfl⟩))
              go_ret
              exact ⟨HF.out _ HZ.out.symm, HB1.out⟩
            | true =>
              have g9' : (x0 != 1000) = false := by simpa using g9
              cases g10 : (x1 == 1) with
              | false =>
                have g10' : (x1 != 1) = true := by simpa using g10
                have HN : Hid (okB x0 x1 sx l2 = false) := by show _ = _; rw [HOK2.out, g8, g9, g10]; simp
                clear HOK2
                have HZ : Hid (tabB cs = false) := BAD.out (by exact HN.out)
                clear hcs hpr hbe hb0 hlp HC HV HQ HD HOK HCO HEX HCV HW BAD
                go_wp2_with (first | (go_at_call 37; refine HSPW.mono ?_; rintro e w' ⟨rfl, rfl⟩) | (go_at_call 38; refine (l3prefix_any _ _).mono ?_; rintro e w' ⟨rfl, rfl⟩))
                go_ret
                exact ⟨HF.out _ HZ.out.symm, HB1.out⟩
              | true =>
                have g10' : (x1 != 1) = false := by simpa using g10
                have HOKT : Hid (okC (x0, x1, x2) = true) := by show _ = _; rw [HOK.out, HOK2.out, g8, g9, g10]; simp
                have HCT : Hid (comC (x0, x1, x2) = true) := by show _ = _; rw [HCO.out, g8]
                by_cases hk0 : k = 0
                · subst hk0
                  have e0 := hb0 rfl
                  rw [e0] at HD
                  simp only [Nat.zero_mul, Nat.add_zero] at h0 h1 h2
                  have HZ : Hid (tabB cs = (chainO (befO cs (0 + 1)) (cs.drop (0 + 1)) && ((m + 1) + (cs.drop (0 + 1)).countP comC == 1))) := by show _ = _; rw [HD.out, HOKT.out, HCT.out]; simp
                  clear e0 hcs hpr hbe hb0 hlp HC HV HQ HD HOK HCO HEX HCV HW BAD HOK2 HOKT HCT
                  go_wp2_with (first | (go_at_call 37; refine HSPW.mono ?_; rintro e w' ⟨rfl, rfl⟩) | (go_at_call 38; refine (l3prefix_any _ _).mono ?_; rintro e w' ⟨rfl, rfl⟩))
                  go_roundw
                  case rel => exact ⟨0 + 1, (m + 1), by omega, by omega, by go_num, by go_num, HZ, HB1⟩
                  case measure => simp [intOf]; omega
                · obtain ⟨j, ej⟩ : ∃ j, k = j + 1 := ⟨k - 1, by omega⟩
                  have hk0' : ¬ ((k : Int) = 0) := by omega
                  have hwrap : IntKind.i64.wrap ((k : Int) - 1) = (j : Int) := by rw [show ((k : Int) - 1) = (j : Int) by omega]; exact wrap_small (by omega) (by omega)
                  have hjl : j < cs.length := by omega
                  have hjl' : (j : Int) < (cs.length : Int) := by omega
                  have hj0 : (0 : Int) ≤ (j : Int) := by omega
                  have e0 := hbe (by omega)
                  have hpj := hpr (by omega)
                  have hlj := hlp (by omega)
                  rw [e0] at HD
                  rw [show k - 1 = j by omega] at hpj
                  obtain ⟨r, rc, d1, d2, d0, d3⟩ := hpj
                  obtain ⟨y0, y1, y2⟩ := y
                  simp only at d0 d1 d2 d3 hlj HD
                  have hg0 : g < wr.heap.size := World.block_lt_of_cell? _ _ d0
                  have HLT : Hid (ltO (y0, y1, y2) (x0, x1, x2) = decide (Op.bytesLess (strOfNums y2).toList (strOfNums x2).toList = true ∨ ((strOfNums y2).toList = (strOfNums x2).toList ∧ srt y1 < srt x1))) := by show _ = _; rw [ltO]; simp only [opCmp_lt]
                  have cvy : ∀ W, Below wr.heap.size wr W → (convert 28 9 (.slice r y2.length rc)).run Tryz.prog W = .ok (.string (strOfNums y2)) W := fun W hB => conv_str (d3.below hB) y2.length rc rfl 9 Tryz.underlying9
                  obtain ⟨m2, em2⟩ : ∃ l, l = y2.length := ⟨_, rfl⟩
                  obtain ⟨sy, esy⟩ : ∃ s, s = strOfNums y2 := ⟨_, rfl⟩
                  rw [← em2, ← esy] at cvy
                  rw [← esy, ← HEX.out.2] at HLT
                  rw [← em2] at d0
                  have hW3 : Below wr.heap.size wr (wr.alloc (Obj.cells #[.slice q l2 qc, .int .i64 x0, .int .i64 x1] 55)) := HW.out
                  have d0 := (hW3.cell (p := ⟨_, _, none⟩) hg0).trans d0
                  have d1 := (hW3.cell (p := ⟨_, _, none⟩) hg0).trans d1
                  have d2 := (hW3.cell (p := ⟨_, _, none⟩) hg0).trans d2
                  have hW4 : Below wr.heap.size wr ((wr.alloc (Obj.cells #[.slice q l2 qc, .int .i64 x0, .int .i64 x1] 55)).alloc (Obj.cells #[.slice r m2 rc, .int .i64 y0, .int .i64 y1] 55)) := hW3.alloc (by simp) _
                  have cx := HCV.out _ hW4
                  have cy := cvy _ hW4
                  have HB2 : Hid (Below w.heap.size w ((wr.alloc (Obj.cells #[.slice q l2 qc, .int .i64 x0, .int .i64 x1] 55)).alloc (Obj.cells #[.slice r m2 rc, .int .i64 y0, .int .i64 y1] 55))) := Below.on HB.out hW4
                  have HBADL : Hid (ltO (y0, y1, y2) (x0, x1, x2) = false → tabB cs = false) := fun h => by rw [HD.out, h]; simp
                  have HGOOD : Hid (ltO (y0, y1, y2) (x0, x1, x2) = true → tabB cs = (chainO (befO cs (k + 1)) (cs.drop (k + 1)) && ((m + 1) + (cs.drop (k + 1)).countP comC == 1))) := fun h => by rw [HD.out, HOKT.out, HCT.out, h]; simp
                  have HEJ : Hid (k = j + 1) := ej
                  clear e0 hpr hbe hb0 hlp HC HV HQ hcs em2 esy d3 ey hW3 hW4 ej hk0 hlj hg0 HD HOK HCO HEX HCV HW BAD HOK2 HOKT HCT cvy
                  cases q1 : Op.bytesLess sy.toList sx.toList with
                  | true =>
                    have q2 : (sy.toList == sx.toList) = false := by cases h : (sy.toList == sx.toList) with | false => rfl | true => (have h' : sy.toList = sx.toList := (by simpa using h)); rw [h', bl_irrefl] at q1; cases q1
                    have HL : Hid (ltO (y0, y1, y2) (x0, x1, x2) = true) := by show _ = _; rw [HLT.out]; simp [q1]
                    have HZ := HGOOD.out (by exact HL.out)
                    have HZ' : Hid _ := HZ
                    clear HZ HGOOD HBADL HLT
                    go_wp2_with (first | (go_at_call 37; refine HSPW.mono ?_; rintro e w' ⟨rfl, rfl⟩) | (go_at_call 38; refine (l3prefix_any _ _).mono ?_; rintro e w' ⟨rfl, rfl⟩))
                    go_roundw
                    case rel => exact ⟨k + 1, (m + 1), by omega, by omega, by go_num, by go_num, HZ', HB2⟩
                    case measure => simp [intOf]; omega
                  | false =>
                    cases q2 : (sy.toList == sx.toList) with
                    | false =>
                      have HL : Hid (ltO (y0, y1, y2) (x0, x1, x2) = false) := by show _ = _; rw [HLT.out]; have q2' : ¬ sy.toList = sx.toList := (by simpa using q2); simp [q1, q2']
                      have HZ := HBADL.out (by exact HL.out)
                      have HZ' : Hid _ := HZ
                      clear HZ HGOOD HBADL HLT
                      go_wp2_with (first | (go_at_call 37; refine HSPW.mono ?_; rintro e w' ⟨rfl, rfl⟩) | (go_at_call 38; refine (l3prefix_any _ _).mono ?_; rintro e w' ⟨rfl, rfl⟩))
                      go_ret
                      exact ⟨HF.out _ HZ'.out.symm, HB2.out⟩
                    | true =>
                      have q2' : sy.toList = sx.toList := by simpa using q2
                      have HL : Hid (ltO (y0, y1, y2) (x0, x1, x2) = decide (preB y1 = true ∧ preB x1 = false)) := by show _ = _; rw [HLT.out]; simp [q2', bl_irrefl, srt_lt]
                      clear q2'
                      cases q5 : preB y1 with
                      | false =>
                        have HZ := HBADL.out (by rw [HL.out, q5]; simp)
                        have HZ' : Hid _ := HZ
                        clear HZ HGOOD HBADL HLT
                        go_wp2_with (first | (go_at_call 37; refine HSPW.mono ?_; rintro e w' ⟨rfl, rfl⟩) | (go_at_call 38; refine (l3prefix_any _ _).mono ?_; rintro e w' ⟨rfl, rfl⟩))
                        go_ret
                        exact ⟨HF.out _ HZ'.out.symm, HB2.out⟩
                      | true =>
                        cases q6 : preB x1 with
                        | true =>
                          have HZ := HBADL.out (by rw [HL.out, q6]; simp)
                          have HZ' : Hid _ := HZ
                          clear HZ HGOOD HBADL HLT
                          go_wp2_with (first | (go_at_call 37; refine HSPW.mono ?_; rintro e w' ⟨rfl, rfl⟩) | (go_at_call 38; refine (l3prefix_any _ _).mono ?_; rintro e w' ⟨rfl, rfl⟩))
                          go_ret
                          exact ⟨HF.out _ HZ'.out.symm, HB2.out⟩
                        | false =>
                          have HZ := HGOOD.out (by rw [HL.out, q5, q6]; simp)
                          have HZ' : Hid _ := HZ
                          clear HZ HGOOD HBADL HLT
                          go_wp2_with (first | (go_at_call 37; refine HSPW.mono ?_; rintro e w' ⟨rfl, rfl⟩) | (go_at_call 38; refine (l3prefix_any _ _).mono ?_; rintro e w' ⟨rfl, rfl⟩))
                          go_roundw
                          case rel => exact ⟨k + 1, (m + 1), by omega, by omega, by go_num, by go_num, HZ', HB2⟩
                          case measure => simp [intOf]; omega
          | false =>
            have HOKT : Hid (okC (x0, x1, x2) = true) := by show _ = _; rw [HOK.out, HOK2.out, g8]; simp
            have HCT : Hid (comC (x0, x1, x2) = false) := by show _ = _; rw [HCO.out, g8]
            by_cases hk0 : k = 0
            · subst hk0
              have e0 := hb0 rfl
              rw [e0] at HD
              simp only [Nat.zero_mul, Nat.add_zero] at h0 h1 h2
              have HZ : Hid (tabB cs = (chainO (befO cs (0 + 1)) (cs.drop (0 + 1)) && (m + (cs.drop (0 + 1)).countP comC == 1))) := by show _ = _; rw [HD.out, HOKT.out, HCT.out]; simp
              clear e0 hcs hpr hbe hb0 hlp HC HV HQ HD HOK HCO HEX HCV HW BAD HOK2 HOKT HCT
              go_wp2_with (first | (go_at_call 37; refine HSPW.mono ?_; rintro e w' ⟨rfl, rfl⟩) | (go_at_call 38; refine (l3prefix_any _ _).mono ?_; rintro e w' ⟨rfl, rfl⟩))
              go_roundw
              case rel => exact ⟨0 + 1, m, by omega, by omega, by go_num, by go_num, HZ, HB1⟩
              case measure => simp [intOf]; omega
            · obtain ⟨j, ej⟩ : ∃ j, k = j + 1 := ⟨k - 1, by omega⟩
              have hk0' : ¬ ((k : Int) = 0) := by omega
              have hwrap : IntKind.i64.wrap ((k : Int) - 1) = (j : Int) := by rw [show ((k : Int) - 1) = (j : Int) by omega]; exact wrap_small (by omega) (by omega)
              have hjl : j < cs.length := by omega
              have hjl' : (j : Int) < (cs.length : Int) := by omega
              have hj0 : (0 : Int) ≤ (j : Int) := by omega
              have e0 := hbe (by omega)
              have hpj := hpr (by omega)
              have hlj := hlp (by omega)
              rw [e0] at HD
              rw [show k - 1 = j by omega] at hpj
              obtain ⟨r, rc, d1, d2, d0, d3⟩ := hpj
              obtain ⟨y0, y1, y2⟩ := y
              simp only at d0 d1 d2 d3 hlj HD
              have hg0 : g < wr.heap.size := World.block_lt_of_cell? _ _ d0
              have HLT : Hid (ltO (y0, y1, y2) (x0, x1, x2) = decide (Op.bytesLess (strOfNums y2).toList (strOfNums x2).toList = true ∨ ((strOfNums y2).toList = (strOfNums x2).toList ∧ srt y1 < srt x1))) := by show _ = _; rw [ltO]; simp only [opCmp_lt]
              have cvy : ∀ W, Below wr.heap.size wr W → (convert 28 9 (.slice r y2.length rc)).run Tryz.prog W = .ok (.string (strOfNums y2)) W := fun W hB => conv_str (d3.below hB) y2.length rc rfl 9 Tryz.underlying9
              obtain ⟨m2, em2⟩ : ∃ l, l = y2.length := ⟨_, rfl⟩
              obtain ⟨sy, esy⟩ : ∃ s, s = strOfNums y2 := ⟨_, rfl⟩
              rw [← em2, ← esy] at cvy
              rw [← esy, ← HEX.out.2] at HLT
              rw [← em2] at d0
              have hW3 : Below wr.heap.size wr (wr.alloc (Obj.cells #[.slice q l2 qc, .int .i64 x0, .int .i64 x1] 55)) := HW.out
              have d0 := (hW3.cell (p := ⟨_, _, none⟩) hg0).trans d0
              have d1 := (hW3.cell (p := ⟨_, _, none⟩) hg0).trans d1
              have d2 := (hW3.cell (p := ⟨_, _, none⟩) hg0).trans d2
              have hW4 : Below wr.heap.size wr ((wr.alloc (Obj.cells #[.slice q l2 qc, .int .i64 x0, .int .i64 x1] 55)).alloc (Obj.cells #[.slice r m2 rc, .int .i64 y0, .int .i64 y1] 55)) := hW3.alloc (by simp) _
              have cx := HCV.out _ hW4
              have cy := cvy _ hW4
              have HB2 : Hid (Below w.heap.size w ((wr.alloc (Obj.cells #[.slice q l2 qc, .int .i64 x0, .int .i64 x1] 55)).alloc (Obj.cells #[.slice r m2 rc, .int .i64 y0, .int .i64 y1] 55))) := Below.on HB.out hW4
              have HBADL : Hid (ltO (y0, y1, y2) (x0, x1, x2) = false → tabB cs = false) := fun h => by rw [HD.out, h]; simp
              have HGOOD : Hid (ltO (y0, y1, y2) (x0, x1, x2) = true → tabB cs = (chainO (befO cs (k + 1)) (cs.drop (k + 1)) && (m + (cs.drop (k + 1)).countP comC == 1))) := fun h => by rw [HD.out, HOKT.out, HCT.out, h]; simp
              have HEJ : Hid (k = j + 1) := ej
              clear e0 hpr hbe hb0 hlp HC HV HQ hcs em2 esy d3 ey hW3 hW4 ej hk0 hlj hg0 HD HOK HCO HEX HCV HW BAD HOK2 HOKT HCT cvy
              cases q1 : Op.bytesLess sy.toList sx.toList with
              | true =>
                have q2 : (sy.toList == sx.toList) = false := by cases h : (sy.toList == sx.toList) with | false => rfl | true => (have h' : sy.toList = sx.toList := (by simpa using h)); rw [h', bl_irrefl] at q1; cases q1
                have HL : Hid (ltO (y0, y1, y2) (x0, x1, x2) = true) := by show _ = _; rw [HLT.out]; simp [q1]
                have HZ := HGOOD.out (by exact HL.out)
                have HZ' : Hid _ := HZ
                clear HZ HGOOD HBADL HLT
                go_wp2_with (first | (go_at_call 37; refine HSPW.mono ?_; rintro e w' ⟨rfl, rfl⟩) | (go_at_call 38; refine (l3prefix_any _ _).mono ?_; rintro e w' ⟨rfl, rfl⟩))
                go_roundw
                case rel => exact ⟨k + 1, m, by omega, by omega, by go_num, by go_num, HZ', HB2⟩
                case measure => simp [intOf]; omega
              | false =>
                cases q2 : (sy.toList == sx.toList) with
                | false =>
                  have HL : Hid (ltO (y0, y1, y2) (x0, x1, x2) = false) := by show _ = _; rw [HLT.out]; have q2' : ¬ sy.toList = sx.toList := (by simpa using q2); simp [q1, q2']
                  have HZ := HBADL.out (by exact HL.out)
                  have HZ' : Hid _ := HZ
                  clear HZ HGOOD HBADL HLT
                  go_wp2_with (first | (go_at_call 37; refine HSPW.mono ?_; rintro e w' ⟨rfl, rfl⟩) | (go_at_call 38; refine (l3prefix_any _ _).mono ?_; rintro e w' ⟨rfl, rfl⟩))
                  go_ret
                  exact ⟨HF.out _ HZ'.out.symm, HB2.out⟩
                | true =>
                  have q2' : sy.toList = sx.toList := by simpa using q2
                  have HL : Hid (ltO (y0, y1, y2) (x0, x1, x2) = decide (preB y1 = true ∧ preB x1 = false)) := by show _ = _; rw [HLT.out]; simp [q2', bl_irrefl, srt_lt]
                  clear q2'
                  cases q5 : preB y1 with
                  | false =>
                    have HZ := HBADL.out (by rw [HL.out, q5]; simp)
                    have HZ' : Hid _ := HZ
                    clear HZ HGOOD HBADL HLT
                    go_wp2_with (first | (go_at_call 37; refine HSPW.mono ?_; rintro e w' ⟨rfl, rfl⟩) | (go_at_call 38; refine (l3prefix_any _ _).mono ?_; rintro e w' ⟨rfl, rfl⟩))
                    go_ret
                    exact ⟨HF.out _ HZ'.out.symm, HB2.out⟩
                  | true =>
                    cases q6 : preB x1 with
                    | true =>
                      have HZ := HBADL.out (by rw [HL.out, q6]; simp)
                      have HZ' : Hid _ := HZ
                      clear HZ HGOOD HBADL HLT
                      go_wp2_with (first | (go_at_call 37; refine HSPW.mono ?_; rintro e w' ⟨rfl, rfl⟩) | (go_at_call 38; refine (l3prefix_any _ _).mono ?_; rintro e w' ⟨rfl, rfl⟩))
                      go_ret
                      exact ⟨HF.out _ HZ'.out.symm, HB2.out⟩
                    | false =>
                      have HZ := HGOOD.out (by rw [HL.out, q5, q6]; simp)
                      have HZ' : Hid _ := HZ
                      clear HZ HGOOD HBADL HLT
                      go_wp2_with (first | (go_at_call 37; refine HSPW.mono ?_; rintro e w' ⟨rfl, rfl⟩) | (go_at_call 38; refine (l3prefix_any _ _).mono ?_; rintro e w' ⟨rfl, rfl⟩))
                      go_roundw
                      case rel => exact ⟨k + 1, m, by omega, by omega, by go_num, by go_num, HZ', HB2⟩
                      case measure => simp [intOf]; omega
      · obtain rfl : k = cs.length := by omega
        have HQ' : Hid (tabB cs = ((m : Int) == 1)) := by
          have := HQ.out
          rw [List.drop_length] at this
          show _ = _
          rw [this, Bool.eq_iff_iff]
          simp [chainO]
          omega
        clear HQ HC HV
        go_wp2
        go_ret
        exact ⟨HF.out _ (by rw [HQ'.out]), HB.out⟩
  · have hl' : (200 : Int) < cs.length := by omega
    have hv : tabB cs = false := by simp [tabB]; omega
    rw [hv]
    clear hv
    go_enter Tryz.func24, Tryz.ntmps24
    go_wp2
    go_ret
    exact ⟨rfl, Below.refl _ _⟩

end Go.Proofs.YtgonpnnlpkjkcaaGreatDoor

namespace Go.Proofs.YtgonpnnlpkjkcaaGreatDoor
open Go Go.RowKit
set_option linter.unusedVariables false

/-- What is valid is one tree. -/
theorem tree_ofW {cs : List Cel} (hb : ∀ i, i < cs.length → Byte (cs.getD i Cel.none).2.2) (hv : validB cs = true) : ∃ c k, cs = c :: k.cells ∧ (Fo.node c k .nil).ok ∧ cs.length ≤ 2000 := by
  simp only [validB, Bool.and_eq_true, decide_eq_true_eq] at hv
  obtain ⟨F, h1, h2, h3⟩ := forest_of cs 1 hb hv.2
  cases F with
  | nil => simp [Fo.count] at h1
  | node c k r =>
    cases r with
    | nil => exact ⟨c, k, by rw [← h2]; simp [Fo.cells], h3, hv.1⟩
    | node a b d => simp [Fo.count] at h1
/-- What WriteTerm answers. -/
def WrIs (T : List Cel) (N : List (List Int)) (q : Bool) (xs : List Cel) (R : List Int) : Prop := (tabB T = true ∧ validB xs = true ∧ ∃ c k, xs = c :: k.cells ∧ (Fo.node c k .nil).ok ∧ R = textF T N q xs.length (c, k) 1200) ∨ (¬ (tabB T = true ∧ validB xs = true) ∧ R = [])
def WrO (w : World) (T : List Cel) (N : List (List Int)) (q : Bool) (xs : List Cel) (e : Ending) (w' : World) : Prop := ∃ R p n c, WrIs T N q xs R ∧ e = .returned (.slice p n c) ∧ OwnT w' w.heap.size p n c R ∧ Below w.heap.size w w'
theorem chain_all : ∀ (cs : List Cel) (a : Option Cel), chainO a cs = true → ∀ c ∈ cs, okC c = true
  | [], _, _, c, h => by cases h
  | x :: r, a, h, c, hc => by
    simp only [chainO, Bool.and_eq_true] at h
    rcases List.mem_cons.1 hc with rfl | hc
    · exact h.1.1
    · exact chain_all r (some x) h.2 c hc
theorem tab_facts {T : List Cel} (h : tabB T = true) : T.length ≤ 200 ∧ ∀ i, i < T.length → (1 ≤ (T.getD i Cel.none).2.2.length ∧ (T.getD i Cel.none).2.2.length ≤ 100) ∧ (0 ≤ (T.getD i Cel.none).2.1 ∧ (T.getD i Cel.none).2.1 ≤ 6) ∧ 1 ≤ (T.getD i Cel.none).1 ∧ (T.getD i Cel.none).1 ≤ 1200 := by
  simp only [tabB, Bool.and_eq_true, decide_eq_true_eq] at h
  refine ⟨h.1, fun i hi => ?_⟩
  have h9 := chain_all T none h.2.1 (T.getD i Cel.none) (by simp [List.getD, hi])
  simp only [okC, okB, Bool.and_eq_true, decide_eq_true_eq] at h9
  exact ⟨h9.1, h9.2.1, h9.2.2.1⟩
theorem ownT_nil (w : World) (B : Nat) : OwnT w B none 0 0 [] := ⟨rfl, fun h => by simp at h⟩
set_option maxRecDepth 100000 in
set_option maxHeartbeats 2000000 in
theorem specWrite_any (T : List Cel) (xs : List Cel) (N : List (List Int)) (q : Bool) (po : Option Addr) (co : Nat) (tq : Option Addr) (pn : Option Addr) (cn : Nat) (w : World) (hTb : ∀ i, i < T.length → Byte (T.getD i Cel.none).2.2) (hxb : ∀ i, i < xs.length → Byte (xs.getD i Cel.none).2.2) (hTl : T.length + tl T ≤ 1000000000) (hxl : xs.length ≤ 1000000000) (hNl : N.length ≤ 1048576) (hNb : NmG N) (hT : OIn w po T) (hx : CIn w tq xs) (hN : NIn w pn N) :
    Calls Tryz.prog 7 #[.slice po T.length co, .slice tq xs.length xs.length, .slice pn N.length cn, .bool q] w (WrO w T N q xs) := by
  have HV1 := specTab_any po co T w hTl hT
  have HF : Hid (¬ (tabB T = true ∧ validB xs = true) → ∀ W, Below w.heap.size w W → WrO w T N q xs (.returned (.slice none 0 0)) W) := fun h W hW => ⟨[], none, 0, 0, .inr ⟨h, rfl⟩, rfl, ownT_nil _ _, hW⟩
  have HV2 : Hid (∀ W, Below w.heap.size w W → Calls Tryz.prog 25 #[.slice tq xs.length xs.length] W fun e w' => e = .returned (.bool (validB xs)) ∧ Below W.heap.size W w') := fun W hW => specValid_any tq xs.length xs W hxl (hx.below hW)
  by_cases h1 : tabB T = true
  · by_cases h2 : validB xs = true
    · obtain ⟨c, k, ex, hok, hlx⟩ := tree_ofW hxb h2
      obtain ⟨ft1, ft2⟩ := tab_facts h1
      rw [h1] at HV1
      rw [h2] at HV2
      have HTX : Hid (∀ W, Below w.heap.size w W → Calls Tryz.prog 26 #[.pointer (some ⟨W.heap.size, 0, none⟩), .slice tq xs.length xs.length, .int .i64 1200] (W.alloc (.cells #[.slice po T.length co, .slice pn N.length cn, .bool q] 53)) (StrO (textF T N q xs.length (c, k) 1200) (W.alloc (.cells #[.slice po T.length co, .slice pn N.length cn, .bool q] 53)))) := fun W hW => by
        have hal : Below W.heap.size W (W.alloc (.cells #[.slice po T.length co, .slice pn N.length cn, .bool q] 53)) := (Below.refl _ _).alloc (Nat.le_refl _) _
        have hbw := Below.on hW hal
        obtain ⟨b0, b1, b2⟩ := cells3 W (.slice po T.length co) (.slice pn N.length cn) (.bool q) 53
        have hE : WEnv (W.alloc (.cells #[.slice po T.length co, .slice pn N.length cn, .bool q] 53)) W.heap.size po co T pn cn N q := ⟨b0, b1, b2, hT.below hbw, fun i hi => ⟨hTb i hi, (ft2 i hi).1.2, ⟨by have := (ft2 i hi).2.2.1; omega, (ft2 i hi).2.2.2⟩, (ft2 i hi).2.1.1, (ft2 i hi).2.1.2⟩, by omega, hN.below hbw, fun i hi => hNb i hi, hNl⟩
        have hi : (itC (c, k)).length = xs.length := by rw [ex]; simp [itC]
        exact text_all W.heap.size po co T pn cn N q (fun j hj => (ft2 j hj).1.1) xs.length _ hE (c, k) 1200 tq xs.length xs.length _ hok (by omega) (by omega) ⟨hi.symm, Nat.le_refl _, hxl, by have h9 := hx.below hbw; rw [ex] at h9; exact h9⟩ (by decide) (by decide) (Below.refl _ _)
      have hgood := text_good (T := T) (N := N) q (fun j hj => ⟨hTb j hj, (ft2 j hj).1.2⟩) hNb xs.length (c, k) 1200 hok (by simp [itC]; rw [ex] at hlx; simp at hlx; omega)
      obtain ⟨R, eR⟩ : ∃ R, R = textF T N q xs.length (c, k) 1200 := ⟨_, rfl⟩
      rw [← eR] at HTX hgood
      have HFI : Hid (∀ p n cc W, OwnT W w.heap.size p n cc R → Below w.heap.size w W → WrO w T N q xs (.returned (.slice p n cc)) W) := fun p n cc W ho hW => ⟨R, p, n, cc, .inl ⟨h1, h2, c, k, ex, hok, eR⟩, rfl, ho, hW⟩
      have HRB : Hid (Byte R) := hgood.1
      obtain ⟨m, em⟩ : ∃ m, m = xs.length := ⟨_, rfl⟩
      rw [← em] at HV2 HTX ⊢
      clear h1 h2 hT hx hN hTb hxb hTl hxl hNl hNb ex hok hlx ft1 ft2 hgood eR HF em
      go_enter Tryz.func7, Tryz.ntmps7
      go_wp2_with fail
      refine HV1.mono ?_
      rintro e w1 ⟨rfl, hb1⟩
      have HB1 : Hid (Below w.heap.size w w1) := hb1
      clear hb1 HV1
      go_wp2_with fail
      refine (HV2.out w1 HB1.out).mono ?_
      rintro e w2 ⟨rfl, hb2⟩
      have HB2 : Hid (Below w.heap.size w w2) := Below.on HB1.out hb2
      clear hb2
      have HX := HTX.out w2 HB2.out
      go_wp2_with fail
      refine HX.mono ?_
      rintro e w3 ⟨rfl, hb3⟩
      have HB3 : Hid (Below w.heap.size w w3) := Below.on HB2.out (Below.on ((Below.refl _ _).alloc (Nat.le_refl _) _) hb3)
      obtain ⟨w4, cp, hcv, hb4, hot⟩ := conv_bytes w3 R HRB.out 9 Tryz.underlying9
      have HO4 : Hid (OwnT w4 w.heap.size (some ⟨w3.heap.size, 0, none⟩) R.length cp R) := hot.mono HB3.out.size
      have HB4 : Hid (Below w.heap.size w w4) := Below.on HB3.out hb4
      obtain ⟨s, es⟩ : ∃ s, s = strOfNums R := ⟨_, rfl⟩
      rw [← es] at hcv ⊢
      clear hb3 hb4 hot HX es
      go_wp2_with fail
      go_ret
      exact HFI.out _ _ _ _ HO4.out HB4.out
    · have h2' : validB xs = false := by simpa using h2
      rw [h1] at HV1
      rw [h2'] at HV2
      have HF2 : Hid (∀ W, Below w.heap.size w W → WrO w T N q xs (.returned (.slice none 0 0)) W) := HF.out (fun h => h2 h.2)
      clear h1 h2 h2' hT hx hN hTb hxb hTl hxl hNl hNb HF
      go_enter Tryz.func7, Tryz.ntmps7
      go_wp2_with fail
      refine HV1.mono ?_
      rintro e w1 ⟨rfl, hb1⟩
      have HB1 : Hid (Below w.heap.size w w1) := hb1
      clear hb1 HV1
      go_wp2_with fail
      refine (HV2.out w1 HB1.out).mono ?_
      rintro e w2 ⟨rfl, hb2⟩
      have HB2 : Hid (Below w.heap.size w w2) := Below.on HB1.out hb2
      clear hb2
      go_wp2_with fail
      go_ret
      exact HF2.out _ HB2.out
  · have h1' : tabB T = false := by simpa using h1
    rw [h1'] at HV1
    have HF2 : Hid (∀ W, Below w.heap.size w W → WrO w T N q xs (.returned (.slice none 0 0)) W) := HF.out (fun h => h1 h.1)
    clear h1 h1' hT hx hN hTb hxb hTl hxl hNl hNb HF HV2
    go_enter Tryz.func7, Tryz.ntmps7
    go_wp2_with fail
    refine HV1.mono ?_
    rintro e w1 ⟨rfl, hb1⟩
    have HB1 : Hid (Below w.heap.size w w1) := hb1
    clear hb1 HV1
    go_wp2_with fail
    go_ret
    exact HF2.out _ HB1.out

end Go.Proofs.YtgonpnnlpkjkcaaGreatDoor

namespace Go.Proofs.YtgonpnnlpkjkcaaGreatDoor
open Go Go.RowKit
set_option linter.unusedVariables false

set_option maxRecDepth 100000 in
theorem termOfW_any (c : Cel) (k : Fo) (p : Option Addr) (n cap : Nat) (w : World) (hok : (Fo.node c k .nil).ok) (hn : n = k.cells.length + 1) (hc : n ≤ cap) (hm : cap ≤ 1000000000) (hin : CIn w p (c :: k.cells)) :
    Calls Tryz.prog 34 #[.slice p n cap] w fun e w' => ∃ v, e = .returned v ∧ FoIn w' w.heap.size (.node c k .nil) [v] ∧ Below w.heap.size w w' := by
  have HF : Calls Tryz.prog 54 #[.slice p n cap] w (FirstOut w w c k [] cap) := firstTerm_any k.cells.length c k p n cap [] w w (Below.refl _ _) (Nat.le_refl _) hok (by rw [hn]; rfl) hc hm (by rw [List.append_nil]; exact hin)
  clear hok hin hn
  go_enter Tryz.func34, Tryz.ntmps34
  go_wp2_with fail
  refine HF.mono ?_
  rintro e w1 ⟨v, q, l, cp, rfl, _, _, _, hfo, hb⟩
  obtain ⟨vt, vx, rfl⟩ := hfo.iface
  have HFO : Hid (FoIn w1 w.heap.size (.node c k .nil) [.iface vt vx]) := hfo
  have HB : Hid (Below w.heap.size w w1) := hb
  clear hfo hb HF
  go_wp2_with fail
  go_ret
  exact ⟨_, rfl, HFO.out, HB.out⟩
theorem var_below {P : Program} {W W' : World} {name : String} {cs : Array Value} (h : W.var? P name = some cs) (hb : Below W.heap.size W W') : W'.var? P name = some cs := by
  unfold World.var? at h ⊢
  cases hg : P.globalNamed name with
  | none => rw [hg] at h; simp at h
  | some g =>
    rw [hg] at h
    simp only [Option.bind_some] at h ⊢
    have hl : g < W.heap.size := by
      rcases Nat.lt_or_ge g W.heap.size with h1 | h1
      · exact h1
      · rw [Array.getElem?_eq_none h1] at h; simp at h
    rw [hb.block g hl]; exact h
theorem TabP.below {W W' : World} (h : TabP W) (hb : Below W.heap.size W W') : TabP W' := var_below h hb
theorem chain_ascW {T : List Cel} (h : tabB T = true) : Asc T ∧ ∀ c ∈ T, okC c = true := by
  simp only [tabB, Bool.and_eq_true, decide_eq_true_eq] at h
  exact ⟨chain_asc T none h.2.1, chain_all T none h.2.1⟩
theorem tabG_of {T : List Cel} (h : tabB T = true) (hb : ∀ i, i < T.length → Byte (T.getD i Cel.none).2.2) : TabG T := by
  obtain ⟨_, ft⟩ := tab_facts h
  refine ⟨fun j hj => ⟨hb j hj, (ft j hj).1.2, (ft j hj).2.2, (ft j hj).2.1⟩, fun pf => ?_⟩
  rcases find_rng T [123, 125] pf with hf | ⟨j, hj, hf⟩
  · exact hf
  · have hh := fIdx_hit (strOfNums [123, 125]).toList pf T 0 j (by rw [Nat.zero_add]; exact hf) hj
    have hm : T.getD j Cel.none ∈ T := by simp [List.getD, hj]
    have hok := (chain_ascW h).2 _ hm
    simp only [hitB, Bool.and_eq_true, beq_iff_eq] at hh
    have es : (strOfNums (T.getD j Cel.none).2.2).toList = [123, 125] := by
      rw [hh.1]
      exact (str_eq (xs := [123, 125]) (fun x hx => by simp at hx; omega) [123, 125]).2 rfl
    unfold okC okB at hok
    rw [es] at hok
    have hr : resB (strOfNums (T.getD j Cel.none).2.2) = true := by unfold resB; rw [es]; rfl
    rw [hr] at hok
    simp at hok
theorem foA_up {W : World} {wb B : Nat} {F : Fo} {vs : List Value} (h : FoIn W B F vs) (hb : wb < B) : FoA (fun a => a = wb) W F vs := by
  refine FoIn.imp (Nat.zero_le _) (fun b o h1 h2 => ?_) (by rw [strikeA_size]; exact Nat.le_refl _) F vs h
  cases hc : W.cell? ⟨b, o, none⟩ with
  | some v => exact strikeA_cell.2 ⟨by show ¬ b = wb; omega, hc⟩
  | none =>
    cases hd : (strikeA (fun a => a = wb) W).cell? ⟨b, o, none⟩ with
    | none => rfl
    | some v => rw [(strikeA_cell.1 hd).2] at hc; cases hc
/-- The writer's block. -/
def wrO (mb : Nat) (pn : Option Addr) (nn cn : Nat) (q : Bool) : Obj := .cells #[.slice none 0 0, .nilFunc, .map (some mb), .slice pn nn cn, .bool q] 68
theorem wr_env {w3 W0 : World} {mb M cn : Nat} {pn : Option Addr} {q : Bool} {T : List Cel} {N : List (List Int)} (hT : Tab w3) (hP : TabP w3) (hN : NIn w3 pn N) (hNl : N.length ≤ 1048576) (hNb : NmG N) (hM : OpMap w3 mb M T) (hG : TabG T) (hB : Below (w3.alloc (wrO mb pn N.length cn q)).heap.size (w3.alloc (wrO mb pn N.length cn q)) W0) :
    EnvK W0 w3.heap.size (mb, pn, N.length, cn, q) T N M ∧ (∃ p n c, WS W0 W0 w3.heap.size (mb, pn, N.length, cn, q) p n c [] 0) := by
  have hal : Below w3.heap.size w3 (w3.alloc (wrO mb pn N.length cn q)) := (Below.refl _ _).alloc (Nat.le_refl _) _
  have hB0 : Below w3.heap.size w3 W0 := Below.on hal hB
  have hsz : w3.heap.size < W0.heap.size := by have := hB.size; simp at this; omega
  have key : ∀ W, W0.grownBy W (some w3.heap.size) → Below w3.heap.size w3 W := fun W hW => hB0.grown hW hB0.size (fun k hk => by cases hk; exact Nat.le_refl _)
  have hblk : W0.heap[w3.heap.size]? = some (wrO mb pn N.length cn q) := by
    rw [hB.block w3.heap.size (by simp)]
    show (w3.heap.push _)[w3.heap.size]? = _
    exact Array.getElem?_push_size
  refine ⟨⟨⟨fun W hW => hT.below (key W hW), fun W hW => hP.below (key W hW)⟩, ⟨fun W hW => hN.below (key W hW), rfl, hNl, hNb⟩, fun W hW => hM.below (key W hW), hG⟩, none, 0, 0, ?_⟩
  refine ⟨⟨rfl, rfl, rfl, Nat.le_refl _, fun _ _ _ => rfl⟩, hsz, ⟨_, _, hblk⟩, ?_, ?_, ?_, ?_, ?_, fun o => ?_, OwnS.nil _ _⟩
  · simp [World.cell?, hblk, wrO]
  · simp [World.cell?, hblk, wrO, gV]
  · simp [World.cell?, hblk, wrO]
  · simp [World.cell?, hblk, wrO]
  · simp [World.cell?, hblk, wrO]
  · simp [World.frozen?, hblk, wrO]
set_option maxRecDepth 100000 in
set_option maxHeartbeats 1000000 in
theorem implWrite_any (T : List Cel) (xs : List Cel) (N : List (List Int)) (q : Bool) (po : Option Addr) (co : Nat) (tq : Option Addr) (pn : Option Addr) (cn : Nat) (w : World) (hTb : ∀ i, i < T.length → Byte (T.getD i Cel.none).2.2) (hxb : ∀ i, i < xs.length → Byte (xs.getD i Cel.none).2.2) (hTl : T.length + tl T ≤ 1000000000) (hxl : xs.length ≤ 1000000000) (hNl : N.length ≤ 1048576) (hNb : NmG N) (hT : OIn w po T) (hx : CIn w tq xs) (hN : NIn w pn N) (hTab : Tab w) (hPow : TabP w) :
    Calls Tryz.prog 11 #[.slice po T.length co, .slice tq xs.length xs.length, .slice pn N.length cn, .bool q] w (WrO w T N q xs) := by
  have HV1 := implTab_any po co T w hTl hT
  have HF : Hid (¬ (tabB T = true ∧ validB xs = true) → ∀ W, Below w.heap.size w W → WrO w T N q xs (.returned (.slice none 0 0)) W) := fun h W hW => ⟨[], none, 0, 0, .inr ⟨h, rfl⟩, rfl, ownT_nil _ _, hW⟩
  have HV2 : Hid (∀ W, Below w.heap.size w W → Calls Tryz.prog 31 #[.slice tq xs.length xs.length] W fun e w' => e = .returned (.bool (validB xs)) ∧ Below W.heap.size W w') := fun W hW => implValid_any tq xs.length xs W hxl (hx.below hW)
  by_cases h1 : tabB T = true
  · by_cases h2 : validB xs = true
    · obtain ⟨c, k, ex, hok, hlx⟩ := tree_ofW hxb h2
      obtain ⟨ft1, ft2⟩ := tab_facts h1
      obtain ⟨hasc, hokc⟩ := chain_ascW h1
      have hxc : xs.length = k.cells.length + 1 := by rw [ex]; simp
      rw [h1] at HV1
      rw [h2] at HV2
      have hokT : ∀ x ∈ T, okT x := fun x hx' => by
        obtain ⟨i, hi, rfl⟩ := List.getElem_of_mem hx'
        have h8 := hTb i hi
        have h9 := (ft2 i hi).1.2
        simp only [List.getD, List.getElem?_eq_getElem hi, Option.getD_some] at h8 h9
        exact ⟨h8, by omega⟩
      have HTO : Hid (∀ W, Below w.heap.size w W → Calls Tryz.prog 32 #[.slice po T.length co] W fun e w' => e = .returned (.map (some W.heap.size)) ∧ OpMap w' W.heap.size T.length T ∧ Below W.heap.size W w') := fun W hB => tableOf_any po co T W (by omega) hokT (List.Pairwise.imp (fun h => ltO_key h) hasc) (hT.below hB)
      have HTE : Hid (∀ W, Below w.heap.size w W → Calls Tryz.prog 34 #[.slice tq xs.length xs.length] W fun e w' => ∃ v, e = .returned v ∧ FoIn w' W.heap.size (.node c k .nil) [v] ∧ Below W.heap.size W w') := fun W hB => termOfW_any c k tq xs.length xs.length W hok hxc (Nat.le_refl _) hxl (by have := hx.below hB; rw [ex] at this; exact this)
      obtain ⟨R, eR⟩ : ∃ R, R = textF T N q xs.length (c, k) 1200 := ⟨_, rfl⟩
      have hgood := text_good (T := T) (N := N) q (fun j hj => ⟨hTb j hj, (ft2 j hj).1.2⟩) hNb xs.length (c, k) 1200 hok (by simp [itC]; omega)
      rw [← eR] at hgood
      have hRl : R.length ≤ 10000000000 := by have := hgood.2; simp [itC] at this; omega
      have HTM : Hid (∀ (w3 W0 : World) (mb : Nat) (v : Value), Below w.heap.size w w3 → OpMap w3 mb T.length T → Below (w3.alloc (wrO mb pn N.length cn q)).heap.size (w3.alloc (wrO mb pn N.length cn q)) W0 → FoIn W0 (w3.alloc (wrO mb pn N.length cn q)).heap.size (.node c k .nil) [v] →
          Calls Tryz.prog 33 #[.pointer (some ⟨w3.heap.size, 0, none⟩), v, .int .i64 1200] W0 fun e w' => e = .returned (.tuple #[]) ∧ ∃ p n cc, w'.cell? ⟨w3.heap.size, 0, none⟩ = some (.slice p n cc) ∧ WrO w T N q xs (.returned (.slice p n cc)) w') := fun w3 W0 mb v hb3 hM hB hfo => by
        obtain ⟨hE, hs⟩ := wr_env (cn := cn) (q := q) (hTab.below hb3) (hPow.below hb3) (hN.below hb3) hNl hNb hM (tabG_of h1 hTb) hB
        have ht := term_all hE xs.length c k v hok (foA_up hfo (by simp)) (by omega) (by omega) 1200 (by omega) (by omega)
        have hst : startB [] 0 := fun _ => by decide
        have e0 : putR [] 0 (textF T N q xs.length (c, k) 1200) = R := by rw [putR_zero, ← eR]; rfl
        refine (ht W0 [] 0 (fun x hx => by cases hx) (by rw [e0]; exact hRl) hst (hE.tabs.tab _ (WSx.gr hs)) (hE.tabs.pow _ (WSx.gr hs)) hs).mono ?_
        rintro e w' ⟨he, ⟨k', _, p, n, cc, hw⟩, _⟩
        rw [e0] at hw
        have hal : Below w.heap.size w (w3.alloc (wrO mb pn N.length cn q)) := hb3.alloc hb3.size _
        have hb0 : Below w.heap.size w W0 := Below.on hal hB
        have hbw : Below w.heap.size w w' := hb0.grown hw.gr hb0.size (fun k hk => by cases hk; exact hb3.size)
        exact ⟨he, p, n, cc, hw.c0, R, p, n, cc, .inl ⟨h1, h2, c, k, ex, hok, eR⟩, rfl, (hw.own.toT).mono hb0.size, hbw⟩
      obtain ⟨m, em⟩ : ∃ m, m = xs.length := ⟨_, rfl⟩
      obtain ⟨l, el⟩ : ∃ l, l = T.length := ⟨_, rfl⟩
      obtain ⟨j, ej⟩ : ∃ j, j = N.length := ⟨_, rfl⟩
      obtain ⟨P, eP⟩ : ∃ P, P = WrO w T N q xs := ⟨_, rfl⟩
      rw [← em] at HV2 HTE ⊢
      rw [← el] at HV1 HTO HTM ⊢
      rw [← ej] at HTM ⊢
      rw [← eP] at HTM ⊢
      clear h1 h2 hT hx hN hTb hxb hTl hxl hNl hNb ex hok hlx ft1 ft2 hgood eR HF em el ej eP hTab hPow hasc hokc hokT hxc hRl
      unfold wrO at HTM
      have st0 := fun (W : World) (a : Addr) m => run_store Tryz.prog W a .nilFunc m rfl
      go_enter Tryz.func11, Tryz.ntmps11
      go_wp2_with fail
      refine HV1.mono ?_
      rintro e w1 ⟨rfl, hb1⟩
      have HB1 : Hid (Below w.heap.size w w1) := hb1
      clear hb1 HV1
      go_wp2_with fail
      refine (HV2.out w1 HB1.out).mono ?_
      rintro e w2 ⟨rfl, hb2⟩
      have HB2 : Hid (Below w.heap.size w w2) := Below.on HB1.out hb2
      clear hb2
      go_wp2_with fail
      refine (HTO.out w2 HB2.out).mono ?_
      rintro e w3 ⟨rfl, hm3, hb3⟩
      have HB3 : Hid (Below w.heap.size w w3) := Below.on HB2.out hb3
      have HM3 : Hid (OpMap w3 w2.heap.size l T) := hm3
      have HTE4 := HTE.out (w3.alloc (.cells #[.slice none 0 0, .nilFunc, .map (some w2.heap.size), .slice pn j cn, .bool q] 68)) (HB3.out.alloc HB3.out.size _)
      clear hb3 hm3
      go_wp2_with fail
      refine HTE4.mono ?_
      rintro e w5 ⟨v, rfl, hfo, hb5⟩
      obtain ⟨vt, vx, rfl⟩ := hfo.iface
      have H6 := HTM.out w3 w5 w2.heap.size _ HB3.out HM3.out hb5 hfo
      clear hfo hb5 HTE4 HTM HTE HTO HV2
      go_wp2_with fail
      refine H6.mono ?_
      rintro e w6 ⟨rfl, p, n, cc, h0, hP⟩
      have HP : Hid _ := hP
      clear hP H6
      go_wp2_with fail
      exact HP.out
    · have h2' : validB xs = false := by simpa using h2
      rw [h1] at HV1
      rw [h2'] at HV2
      have HF2 : Hid (∀ W, Below w.heap.size w W → WrO w T N q xs (.returned (.slice none 0 0)) W) := HF.out (fun h => h2 h.2)
      clear h1 h2 h2' hT hx hN hTb hxb hTl hxl hNl hNb HF hTab hPow
      go_enter Tryz.func11, Tryz.ntmps11
      go_wp2_with fail
      refine HV1.mono ?_
      rintro e w1 ⟨rfl, hb1⟩
      have HB1 : Hid (Below w.heap.size w w1) := hb1
      clear hb1 HV1
      go_wp2_with fail
      refine (HV2.out w1 HB1.out).mono ?_
      rintro e w2 ⟨rfl, hb2⟩
      have HB2 : Hid (Below w.heap.size w w2) := Below.on HB1.out hb2
      clear hb2
      go_wp2_with fail
      go_ret
      exact HF2.out _ HB2.out
  · have h1' : tabB T = false := by simpa using h1
    rw [h1'] at HV1
    have HF2 : Hid (∀ W, Below w.heap.size w W → WrO w T N q xs (.returned (.slice none 0 0)) W) := HF.out (fun h => h1 h.1)
    clear h1 h1' hT hx hN hTb hxb hTl hxl hNl hNb HF HV2 hTab hPow
    go_enter Tryz.func11, Tryz.ntmps11
    go_wp2_with fail
    refine HV1.mono ?_
    rintro e w1 ⟨rfl, hb1⟩
    have HB1 : Hid (Below w.heap.size w w1) := hb1
    clear hb1 HV1
    go_wp2_with fail
    go_ret
    exact HF2.out _ HB1.out

end Go.Proofs.YtgonpnnlpkjkcaaGreatDoor

