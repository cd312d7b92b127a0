/- ValidOps of the specification. Own work of the verifier. -/
import Derived.Test.YtbfhpnacoigfkaaOpsV4
namespace Go.Proofs.Ytbfhpnacoigfkaa
open Go Go.RowKit Go.Sort
set_option linter.unusedVariables false

theorem tab_count (cs : List Cel) (a : Option Cel) : (chainO a cs && cs.any comC) = (chainO a cs && (cs.countP comC == 1)) := by
  cases h : chainO a cs with
  | false => rfl
  | true =>
    rw [com_count cs a h]
    cases cs.any comC <;> simp
theorem okB_res {k n : Int} {s : ByteArray} {m : Nat} (h : resB s = true) : okB k n s m = false := by
  have : (s.toList == [44]) = false := by
    simp only [resB, Bool.or_eq_true, beq_iff_eq] at h
    rcases h with (h | h) | h <;> rw [h] <;> rfl
  simp [okB, this, h]
theorem srt_lt {a b : Int} : srt a < srt b ↔ preB a = true ∧ preB b = false := by
  unfold srt
  cases preB a <;> cases preB b <;> simp

set_option maxRecDepth 100000 in
set_option maxHeartbeats 6000000 in
theorem specTab_any (p : Option Addr) (c : Nat) (cs : List Cel) (w : World) (hn : cs.length + tl cs ≤ 1000000000) (hc : OIn w p cs) :
    Calls Try.prog 6 #[.slice p cs.length c] w fun e w' => e = .returned (.bool (tabB cs)) ∧ Below w.heap.size w w' := by
  have HC : Hid (OIn w p cs) := hc
  clear hc
  by_cases hl : cs.length ≤ 200
  · have hl' : ¬ (200 : Int) < cs.length := by omega
    have HV : Hid (tabB cs = (chainO none cs && (cs.countP comC == 1))) := by show _ = _; rw [← tab_count]; simp [tabB, hl]
    have HF : Hid (∀ b, b = tabB cs → Ending.returned (.bool b) = .returned (.bool (tabB cs))) := fun b h => ret_bool h
    go_enter Try.func6, Try.ntmps6
    go_wp2
    clear hl'
    go_loopw [3, 4] (fun s i wr => ∃ (k m : Nat), k ≤ cs.length ∧ m ≤ k ∧ s = .int .i64 m ∧ i = .int .i64 k ∧ Hid (tabB cs = (chainO (befO cs k) (cs.drop k) && (m + (cs.drop k).countP comC == 1))) ∧ Hid (Below w.heap.size w wr)) (fun _ i _ => cs.length - (intOf i).toNat)
    case atStart => exact ⟨0, 0, Nat.zero_le _, Nat.zero_le _, rfl, rfl, by show _ = _; rw [HV.out]; simp [befO], Below.refl _ _⟩
    case round =>
      obtain ⟨k, m, hk, hmk, rfl, rfl, HQ, HB⟩ := hrel
      by_cases hlt : k < cs.length
      · obtain ⟨g, o, rfl, hcs⟩ := HC.out (by omega)
        have hat := (hcs k hlt).below HB.out
        have hpr : 0 < k → OAt wr g (o + (k - 1) * 3) (cs.getD (k - 1) Cel.none) := fun h => (hcs (k - 1) (by omega)).below HB.out
        have hbe : 0 < k → befO cs k = some (cs.getD (k - 1) Cel.none) := fun h => by simp [befO]; omega
        have hb0 : k = 0 → befO cs k = none := fun h => by simp [befO, h]
        have hlk := tl_at cs k hlt
        have hlp : 0 < k → (cs.getD (k - 1) Cel.none).2.2.length ≤ tl cs := fun h => tl_at cs (k - 1) (by omega)
        have HD : Hid (tabB cs = ((okC (cs.getD k Cel.none) && (match befO cs k with | none => true | some x => ltO x (cs.getD k Cel.none)) && chainO (befO cs (k + 1)) (cs.drop (k + 1))) && ((m + (if comC (cs.getD k Cel.none) then 1 else 0)) + (cs.drop (k + 1)).countP comC == 1))) := by
          show _ = _
          rw [HQ.out, chainO_at cs k hlt, drop_at cs k hlt, List.countP_cons]
          congr 2
          omega
        obtain ⟨x, ex⟩ : ∃ x, x = cs.getD k Cel.none := ⟨_, rfl⟩
        obtain ⟨y, ey⟩ : ∃ y, y = cs.getD (k - 1) Cel.none := ⟨_, rfl⟩
        rw [← ex] at hat HD hlk
        rw [← ey] at hpr hbe hlp
        obtain ⟨q, qc, h0, h1, h2, h3⟩ := hat
        obtain ⟨x0, x1, x2⟩ := x
        simp only at h0 h1 h2 h3 hlk
        have hW : Below wr.heap.size wr (wr.alloc (Obj.cells #[.slice q x2.length qc, .int .i64 x0, .int .i64 x1] 40)) := (Below.refl _ _).alloc (Nat.le_refl _) _
        have HCV : Hid (∀ W, Below wr.heap.size wr W → (convert 29 9 (.slice q x2.length qc)).run Try.prog W = .ok (.string (strOfNums x2)) W) := fun W hB => conv_str (h3.below hB) x2.length qc rfl 9 Try.underlying9
        have HSP : Hid (∀ W, Below wr.heap.size wr W → Calls Try.prog 18 #[.slice q x2.length qc] W fun e w' => e = .returned (.bool (resB (strOfNums x2))) ∧ w' = W) := fun W hB => l3special_any q x2.length qc x2 W rfl (h3.below hB)
        have HOK : Hid (okC (x0, x1, x2) = okB x0 x1 (strOfNums x2) x2.length) := rfl
        have HCO : Hid (comC (x0, x1, x2) = ((strOfNums x2).toList == [44])) := rfl
        obtain ⟨l2, el2⟩ : ∃ l, l = x2.length := ⟨_, rfl⟩
        obtain ⟨sx, esx⟩ : ∃ s, s = strOfNums x2 := ⟨_, rfl⟩
        rw [← el2, ← esx] at HCV HSP HOK
        rw [← esx] at HCO
        rw [← el2] at h2 hW hlk
        have HEX : Hid (l2 = x2.length ∧ sx = strOfNums x2) := ⟨el2, esx⟩
        clear el2 esx ex h3
        have cv := HCV.out _ hW
        have HSPW := HSP.out _ hW
        have HW : Hid _ := hW
        have HB1 : Hid (Below w.heap.size w (wr.alloc (Obj.cells #[.slice q l2 qc, .int .i64 x0, .int .i64 x1] 40))) := Below.on HB.out hW
        clear hW HSP
        have BAD : Hid (okB x0 x1 sx l2 = false → tabB cs = false) := fun h => by rw [HD.out, HOK.out, h]; simp
        by_cases g1 : l2 < 1
        · have g1' : ((l2 : Int) < 1) := by omega
          have HZ : Hid (tabB cs = false) := BAD.out (by have h9 : ¬ 1 ≤ l2 := (by omega); simp [okB, h9])
          clear hcs hpr hbe hb0 hlp HC HV HQ HD HOK HCO HEX HCV HW BAD
          go_wp2_with (first | (go_at_call 18; refine HSPW.mono ?_; rintro e w' ⟨rfl, rfl⟩) | (go_at_call 19; refine (l3prefix_any _ _).mono ?_; rintro e w' ⟨rfl, rfl⟩))
          go_ret
          exact ⟨HF.out _ HZ.out.symm, HB1.out⟩
        by_cases g2 : 100 < l2
        · have g2' : (100 : Int) < (l2 : Int) := by omega
          have HZ : Hid (tabB cs = false) := BAD.out (by have h9 : ¬ l2 ≤ 100 := (by omega); simp [okB, h9])
          clear hcs hpr hbe hb0 hlp HC HV HQ HD HOK HCO HEX HCV HW BAD
          go_wp2_with (first | (go_at_call 18; refine HSPW.mono ?_; rintro e w' ⟨rfl, rfl⟩) | (go_at_call 19; refine (l3prefix_any _ _).mono ?_; rintro e w' ⟨rfl, rfl⟩))
          go_ret
          exact ⟨HF.out _ HZ.out.symm, HB1.out⟩
        have g1' : ¬ ((l2 : Int) < 1) := by omega
        have g2' : ¬ (100 : Int) < (l2 : Int) := by omega
        cases g3 : resB sx with
        | true =>
          rw [g3] at HSPW
          have HZ : Hid (tabB cs = false) := BAD.out (by exact okB_res g3)
          clear hcs hpr hbe hb0 hlp HC HV HQ HD HOK HCO HEX HCV HW BAD
          go_wp2_with (first | (go_at_call 18; refine HSPW.mono ?_; rintro e w' ⟨rfl, rfl⟩) | (go_at_call 19; refine (l3prefix_any _ _).mono ?_; rintro e w' ⟨rfl, rfl⟩))
          go_ret
          exact ⟨HF.out _ HZ.out.symm, HB1.out⟩
        | false =>
          rw [g3] at HSPW
          by_cases g4 : x0 < 1
          · skip
            have HZ : Hid (tabB cs = false) := BAD.out (by have h9 : ¬ 1 ≤ x0 := (by omega); simp [okB, h9])
            clear hcs hpr hbe hb0 hlp HC HV HQ HD HOK HCO HEX HCV HW BAD
            go_wp2_with (first | (go_at_call 18; refine HSPW.mono ?_; rintro e w' ⟨rfl, rfl⟩) | (go_at_call 19; refine (l3prefix_any _ _).mono ?_; rintro e w' ⟨rfl, rfl⟩))
            go_ret
            exact ⟨HF.out _ HZ.out.symm, HB1.out⟩
          by_cases g5 : 1200 < x0
          · skip
            have HZ : Hid (tabB cs = false) := BAD.out (by have h9 : ¬ x0 ≤ 1200 := (by omega); simp [okB, h9])
            clear hcs hpr hbe hb0 hlp HC HV HQ HD HOK HCO HEX HCV HW BAD
            go_wp2_with (first | (go_at_call 18; refine HSPW.mono ?_; rintro e w' ⟨rfl, rfl⟩) | (go_at_call 19; refine (l3prefix_any _ _).mono ?_; rintro e w' ⟨rfl, rfl⟩))
            go_ret
            exact ⟨HF.out _ HZ.out.symm, HB1.out⟩
          by_cases g6 : x1 < 0
          · skip
            have HZ : Hid (tabB cs = false) := BAD.out (by have h9 : ¬ 0 ≤ x1 := (by omega); simp [okB, h9])
            clear hcs hpr hbe hb0 hlp HC HV HQ HD HOK HCO HEX HCV HW BAD
            go_wp2_with (first | (go_at_call 18; refine HSPW.mono ?_; rintro e w' ⟨rfl, rfl⟩) | (go_at_call 19; refine (l3prefix_any _ _).mono ?_; rintro e w' ⟨rfl, rfl⟩))
            go_ret
            exact ⟨HF.out _ HZ.out.symm, HB1.out⟩
          by_cases g7 : 6 < x1
          · skip
            have HZ : Hid (tabB cs = false) := BAD.out (by have h9 : ¬ x1 ≤ 6 := (by omega); simp [okB, h9])
            clear hcs hpr hbe hb0 hlp HC HV HQ HD HOK HCO HEX HCV HW BAD
            go_wp2_with (first | (go_at_call 18; refine HSPW.mono ?_; rintro e w' ⟨rfl, rfl⟩) | (go_at_call 19; refine (l3prefix_any _ _).mono ?_; rintro e w' ⟨rfl, rfl⟩))
            go_ret
            exact ⟨HF.out _ HZ.out.symm, HB1.out⟩
          have HOK2 : Hid (okB x0 x1 sx l2 = (if sx.toList == [44] then (x0 == 1000 && x1 == 1) else true)) := by
            show _ = _
            have a1 : 1 ≤ l2 := by omega
            have a2 : l2 ≤ 100 := by omega
            have a3 : 0 ≤ x1 := by omega
            have a4 : x1 ≤ 6 := by omega
            have a5 : 1 ≤ x0 := by omega
            have a6 : x0 ≤ 1200 := by omega
            simp only [okB, a1, a2, a3, a4, a5, a6, g3]; simp
          cases g8 : (sx.toList == [44]) with
          | true =>
            cases g9 : (x0 == 1000) with
            | false =>
              have g9' : (x0 != 1000) = true := by simpa using g9
              have HN : Hid (okB x0 x1 sx l2 = false) := by show _ = _; rw [HOK2.out, g8, g9]; simp
              clear HOK2
              have HZ : Hid (tabB cs = false) := BAD.out (by exact HN.out)
              clear hcs hpr hbe hb0 hlp HC HV HQ HD HOK HCO HEX HCV HW BAD
              go_wp2_with (first | (go_at_call 18; refine HSPW.mono ?_; rintro e w' ⟨rfl, rfl⟩) | (go_at_call 19; refine (l3prefix_any _ _).mono ?_; rintro e w' ⟨rfl, rfl⟩))
              go_ret
              exact ⟨HF.out _ HZ.out.symm, HB1.out⟩
            | true =>
              have g9' : (x0 != 1000) = false := by simpa using g9
              cases g10 : (x1 == 1) with
              | false =>
                have g10' : (x1 != 1) = true := by simpa using g10
                have HN : Hid (okB x0 x1 sx l2 = false) := by show _ = _; rw [HOK2.out, g8, g9, g10]; simp
                clear HOK2
                have HZ : Hid (tabB cs = false) := BAD.out (by exact HN.out)
                clear hcs hpr hbe hb0 hlp HC HV HQ HD HOK HCO HEX HCV HW BAD
                go_wp2_with (first | (go_at_call 18; refine HSPW.mono ?_; rintro e w' ⟨rfl, rfl⟩) | (go_at_call 19; refine (l3prefix_any _ _).mono ?_; rintro e w' ⟨rfl, rfl⟩))
                go_ret
                exact ⟨HF.out _ HZ.out.symm, HB1.out⟩
              | true =>
                have g10' : (x1 != 1) = false := by simpa using g10
                have HOKT : Hid (okC (x0, x1, x2) = true) := by show _ = _; rw [HOK.out, HOK2.out, g8, g9, g10]; simp
                have HCT : Hid (comC (x0, x1, x2) = true) := by show _ = _; rw [HCO.out, g8]
                by_cases hk0 : k = 0
                · subst hk0
                  have e0 := hb0 rfl
                  rw [e0] at HD
                  simp only [Nat.zero_mul, Nat.add_zero] at h0 h1 h2
                  have HZ : Hid (tabB cs = (chainO (befO cs (0 + 1)) (cs.drop (0 + 1)) && ((m + 1) + (cs.drop (0 + 1)).countP comC == 1))) := by show _ = _; rw [HD.out, HOKT.out, HCT.out]; simp
                  clear e0 hcs hpr hbe hb0 hlp HC HV HQ HD HOK HCO HEX HCV HW BAD HOK2 HOKT HCT
                  go_wp2_with (first | (go_at_call 18; refine HSPW.mono ?_; rintro e w' ⟨rfl, rfl⟩) | (go_at_call 19; refine (l3prefix_any _ _).mono ?_; rintro e w' ⟨rfl, rfl⟩))
                  go_roundw
                  case rel => exact ⟨0 + 1, (m + 1), by omega, by omega, by go_num, by go_num, HZ, HB1⟩
                  case measure => simp [intOf]; omega
                · obtain ⟨j, ej⟩ : ∃ j, k = j + 1 := ⟨k - 1, by omega⟩
                  have hk0' : ¬ ((k : Int) = 0) := by omega
                  have hwrap : IntKind.i64.wrap ((k : Int) - 1) = (j : Int) := by rw [show ((k : Int) - 1) = (j : Int) by omega]; exact wrap_small (by omega) (by omega)
                  have hjl : j < cs.length := by omega
                  have hjl' : (j : Int) < (cs.length : Int) := by omega
                  have hj0 : (0 : Int) ≤ (j : Int) := by omega
                  have e0 := hbe (by omega)
                  have hpj := hpr (by omega)
                  have hlj := hlp (by omega)
                  rw [e0] at HD
                  rw [show k - 1 = j by omega] at hpj
                  obtain ⟨r, rc, d1, d2, d0, d3⟩ := hpj
                  obtain ⟨y0, y1, y2⟩ := y
                  simp only at d0 d1 d2 d3 hlj HD
                  have hg0 : g < wr.heap.size := World.block_lt_of_cell? _ _ d0
                  have HLT : Hid (ltO (y0, y1, y2) (x0, x1, x2) = decide (Op.bytesLess (strOfNums y2).toList (strOfNums x2).toList = true ∨ ((strOfNums y2).toList = (strOfNums x2).toList ∧ srt y1 < srt x1))) := by show _ = _; rw [ltO]; simp only [opCmp_lt]
                  have cvy : ∀ W, Below wr.heap.size wr W → (convert 29 9 (.slice r y2.length rc)).run Try.prog W = .ok (.string (strOfNums y2)) W := fun W hB => conv_str (d3.below hB) y2.length rc rfl 9 Try.underlying9
                  obtain ⟨m2, em2⟩ : ∃ l, l = y2.length := ⟨_, rfl⟩
                  obtain ⟨sy, esy⟩ : ∃ s, s = strOfNums y2 := ⟨_, rfl⟩
                  rw [← em2, ← esy] at cvy
                  rw [← esy, ← HEX.out.2] at HLT
                  rw [← em2] at d0
                  have hW3 : Below wr.heap.size wr (wr.alloc (Obj.cells #[.slice q l2 qc, .int .i64 x0, .int .i64 x1] 40)) := HW.out
                  have d0 := (hW3.cell (p := ⟨_, _, none⟩) hg0).trans d0
                  have d1 := (hW3.cell (p := ⟨_, _, none⟩) hg0).trans d1
                  have d2 := (hW3.cell (p := ⟨_, _, none⟩) hg0).trans d2
                  have hW4 : Below wr.heap.size wr ((wr.alloc (Obj.cells #[.slice q l2 qc, .int .i64 x0, .int .i64 x1] 40)).alloc (Obj.cells #[.slice r m2 rc, .int .i64 y0, .int .i64 y1] 40)) := hW3.alloc (by simp) _
                  have cx := HCV.out _ hW4
                  have cy := cvy _ hW4
                  have HB2 : Hid (Below w.heap.size w ((wr.alloc (Obj.cells #[.slice q l2 qc, .int .i64 x0, .int .i64 x1] 40)).alloc (Obj.cells #[.slice r m2 rc, .int .i64 y0, .int .i64 y1] 40))) := Below.on HB.out hW4
                  have HBADL : Hid (ltO (y0, y1, y2) (x0, x1, x2) = false → tabB cs = false) := fun h => by rw [HD.out, h]; simp
                  have HGOOD : Hid (ltO (y0, y1, y2) (x0, x1, x2) = true → tabB cs = (chainO (befO cs (k + 1)) (cs.drop (k + 1)) && ((m + 1) + (cs.drop (k + 1)).countP comC == 1))) := fun h => by rw [HD.out, HOKT.out, HCT.out, h]; simp
                  have HEJ : Hid (k = j + 1) := ej
                  clear e0 hpr hbe hb0 hlp HC HV HQ hcs em2 esy d3 ey hW3 hW4 ej hk0 hlj hg0 HD HOK HCO HEX HCV HW BAD HOK2 HOKT HCT cvy
                  cases q1 : Op.bytesLess sy.toList sx.toList with
                  | true =>
                    have q2 : (sy.toList == sx.toList) = false := by cases h : (sy.toList == sx.toList) with | false => rfl | true => (have h' : sy.toList = sx.toList := (by simpa using h)); rw [h', bl_irrefl] at q1; cases q1
                    have HL : Hid (ltO (y0, y1, y2) (x0, x1, x2) = true) := by show _ = _; rw [HLT.out]; simp [q1]
                    have HZ := HGOOD.out (by exact HL.out)
                    have HZ' : Hid _ := HZ
                    clear HZ HGOOD HBADL HLT
                    go_wp2_with (first | (go_at_call 18; refine HSPW.mono ?_; rintro e w' ⟨rfl, rfl⟩) | (go_at_call 19; refine (l3prefix_any _ _).mono ?_; rintro e w' ⟨rfl, rfl⟩))
                    go_roundw
                    case rel => exact ⟨k + 1, (m + 1), by omega, by omega, by go_num, by go_num, HZ', HB2⟩
                    case measure => simp [intOf]; omega
                  | false =>
                    cases q2 : (sy.toList == sx.toList) with
                    | false =>
                      have HL : Hid (ltO (y0, y1, y2) (x0, x1, x2) = false) := by show _ = _; rw [HLT.out]; have q2' : ¬ sy.toList = sx.toList := (by simpa using q2); simp [q1, q2']
                      have HZ := HBADL.out (by exact HL.out)
                      have HZ' : Hid _ := HZ
                      clear HZ HGOOD HBADL HLT
                      go_wp2_with (first | (go_at_call 18; refine HSPW.mono ?_; rintro e w' ⟨rfl, rfl⟩) | (go_at_call 19; refine (l3prefix_any _ _).mono ?_; rintro e w' ⟨rfl, rfl⟩))
                      go_ret
                      exact ⟨HF.out _ HZ'.out.symm, HB2.out⟩
                    | true =>
                      have q2' : sy.toList = sx.toList := by simpa using q2
                      have HL : Hid (ltO (y0, y1, y2) (x0, x1, x2) = decide (preB y1 = true ∧ preB x1 = false)) := by show _ = _; rw [HLT.out]; simp [q2', bl_irrefl, srt_lt]
                      clear q2'
                      cases q5 : preB y1 with
                      | false =>
                        have HZ := HBADL.out (by rw [HL.out, q5]; simp)
                        have HZ' : Hid _ := HZ
                        clear HZ HGOOD HBADL HLT
                        go_wp2_with (first | (go_at_call 18; refine HSPW.mono ?_; rintro e w' ⟨rfl, rfl⟩) | (go_at_call 19; refine (l3prefix_any _ _).mono ?_; rintro e w' ⟨rfl, rfl⟩))
                        go_ret
                        exact ⟨HF.out _ HZ'.out.symm, HB2.out⟩
                      | true =>
                        cases q6 : preB x1 with
                        | true =>
                          have HZ := HBADL.out (by rw [HL.out, q6]; simp)
                          have HZ' : Hid _ := HZ
                          clear HZ HGOOD HBADL HLT
                          go_wp2_with (first | (go_at_call 18; refine HSPW.mono ?_; rintro e w' ⟨rfl, rfl⟩) | (go_at_call 19; refine (l3prefix_any _ _).mono ?_; rintro e w' ⟨rfl, rfl⟩))
                          go_ret
                          exact ⟨HF.out _ HZ'.out.symm, HB2.out⟩
                        | false =>
                          have HZ := HGOOD.out (by rw [HL.out, q5, q6]; simp)
                          have HZ' : Hid _ := HZ
                          clear HZ HGOOD HBADL HLT
                          go_wp2_with (first | (go_at_call 18; refine HSPW.mono ?_; rintro e w' ⟨rfl, rfl⟩) | (go_at_call 19; refine (l3prefix_any _ _).mono ?_; rintro e w' ⟨rfl, rfl⟩))
                          go_roundw
                          case rel => exact ⟨k + 1, (m + 1), by omega, by omega, by go_num, by go_num, HZ', HB2⟩
                          case measure => simp [intOf]; omega
          | false =>
            have HOKT : Hid (okC (x0, x1, x2) = true) := by show _ = _; rw [HOK.out, HOK2.out, g8]; simp
            have HCT : Hid (comC (x0, x1, x2) = false) := by show _ = _; rw [HCO.out, g8]
            by_cases hk0 : k = 0
            · subst hk0
              have e0 := hb0 rfl
              rw [e0] at HD
              simp only [Nat.zero_mul, Nat.add_zero] at h0 h1 h2
              have HZ : Hid (tabB cs = (chainO (befO cs (0 + 1)) (cs.drop (0 + 1)) && (m + (cs.drop (0 + 1)).countP comC == 1))) := by show _ = _; rw [HD.out, HOKT.out, HCT.out]; simp
              clear e0 hcs hpr hbe hb0 hlp HC HV HQ HD HOK HCO HEX HCV HW BAD HOK2 HOKT HCT
              go_wp2_with (first | (go_at_call 18; refine HSPW.mono ?_; rintro e w' ⟨rfl, rfl⟩) | (go_at_call 19; refine (l3prefix_any _ _).mono ?_; rintro e w' ⟨rfl, rfl⟩))
              go_roundw
              case rel => exact ⟨0 + 1, m, by omega, by omega, by go_num, by go_num, HZ, HB1⟩
              case measure => simp [intOf]; omega
            · obtain ⟨j, ej⟩ : ∃ j, k = j + 1 := ⟨k - 1, by omega⟩
              have hk0' : ¬ ((k : Int) = 0) := by omega
              have hwrap : IntKind.i64.wrap ((k : Int) - 1) = (j : Int) := by rw [show ((k : Int) - 1) = (j : Int) by omega]; exact wrap_small (by omega) (by omega)
              have hjl : j < cs.length := by omega
              have hjl' : (j : Int) < (cs.length : Int) := by omega
              have hj0 : (0 : Int) ≤ (j : Int) := by omega
              have e0 := hbe (by omega)
              have hpj := hpr (by omega)
              have hlj := hlp (by omega)
              rw [e0] at HD
              rw [show k - 1 = j by omega] at hpj
              obtain ⟨r, rc, d1, d2, d0, d3⟩ := hpj
              obtain ⟨y0, y1, y2⟩ := y
              simp only at d0 d1 d2 d3 hlj HD
              have hg0 : g < wr.heap.size := World.block_lt_of_cell? _ _ d0
              have HLT : Hid (ltO (y0, y1, y2) (x0, x1, x2) = decide (Op.bytesLess (strOfNums y2).toList (strOfNums x2).toList = true ∨ ((strOfNums y2).toList = (strOfNums x2).toList ∧ srt y1 < srt x1))) := by show _ = _; rw [ltO]; simp only [opCmp_lt]
              have cvy : ∀ W, Below wr.heap.size wr W → (convert 29 9 (.slice r y2.length rc)).run Try.prog W = .ok (.string (strOfNums y2)) W := fun W hB => conv_str (d3.below hB) y2.length rc rfl 9 Try.underlying9
              obtain ⟨m2, em2⟩ : ∃ l, l = y2.length := ⟨_, rfl⟩
              obtain ⟨sy, esy⟩ : ∃ s, s = strOfNums y2 := ⟨_, rfl⟩
              rw [← em2, ← esy] at cvy
              rw [← esy, ← HEX.out.2] at HLT
              rw [← em2] at d0
              have hW3 : Below wr.heap.size wr (wr.alloc (Obj.cells #[.slice q l2 qc, .int .i64 x0, .int .i64 x1] 40)) := HW.out
              have d0 := (hW3.cell (p := ⟨_, _, none⟩) hg0).trans d0
              have d1 := (hW3.cell (p := ⟨_, _, none⟩) hg0).trans d1
              have d2 := (hW3.cell (p := ⟨_, _, none⟩) hg0).trans d2
              have hW4 : Below wr.heap.size wr ((wr.alloc (Obj.cells #[.slice q l2 qc, .int .i64 x0, .int .i64 x1] 40)).alloc (Obj.cells #[.slice r m2 rc, .int .i64 y0, .int .i64 y1] 40)) := hW3.alloc (by simp) _
              have cx := HCV.out _ hW4
              have cy := cvy _ hW4
              have HB2 : Hid (Below w.heap.size w ((wr.alloc (Obj.cells #[.slice q l2 qc, .int .i64 x0, .int .i64 x1] 40)).alloc (Obj.cells #[.slice r m2 rc, .int .i64 y0, .int .i64 y1] 40))) := Below.on HB.out hW4
              have HBADL : Hid (ltO (y0, y1, y2) (x0, x1, x2) = false → tabB cs = false) := fun h => by rw [HD.out, h]; simp
              have HGOOD : Hid (ltO (y0, y1, y2) (x0, x1, x2) = true → tabB cs = (chainO (befO cs (k + 1)) (cs.drop (k + 1)) && (m + (cs.drop (k + 1)).countP comC == 1))) := fun h => by rw [HD.out, HOKT.out, HCT.out, h]; simp
              have HEJ : Hid (k = j + 1) := ej
              clear e0 hpr hbe hb0 hlp HC HV HQ hcs em2 esy d3 ey hW3 hW4 ej hk0 hlj hg0 HD HOK HCO HEX HCV HW BAD HOK2 HOKT HCT cvy
              cases q1 : Op.bytesLess sy.toList sx.toList with
              | true =>
                have q2 : (sy.toList == sx.toList) = false := by cases h : (sy.toList == sx.toList) with | false => rfl | true => (have h' : sy.toList = sx.toList := (by simpa using h)); rw [h', bl_irrefl] at q1; cases q1
                have HL : Hid (ltO (y0, y1, y2) (x0, x1, x2) = true) := by show _ = _; rw [HLT.out]; simp [q1]
                have HZ := HGOOD.out (by exact HL.out)
                have HZ' : Hid _ := HZ
                clear HZ HGOOD HBADL HLT
                go_wp2_with (first | (go_at_call 18; refine HSPW.mono ?_; rintro e w' ⟨rfl, rfl⟩) | (go_at_call 19; refine (l3prefix_any _ _).mono ?_; rintro e w' ⟨rfl, rfl⟩))
                go_roundw
                case rel => exact ⟨k + 1, m, by omega, by omega, by go_num, by go_num, HZ', HB2⟩
                case measure => simp [intOf]; omega
              | false =>
                cases q2 : (sy.toList == sx.toList) with
                | false =>
                  have HL : Hid (ltO (y0, y1, y2) (x0, x1, x2) = false) := by show _ = _; rw [HLT.out]; have q2' : ¬ sy.toList = sx.toList := (by simpa using q2); simp [q1, q2']
                  have HZ := HBADL.out (by exact HL.out)
                  have HZ' : Hid _ := HZ
                  clear HZ HGOOD HBADL HLT
                  go_wp2_with (first | (go_at_call 18; refine HSPW.mono ?_; rintro e w' ⟨rfl, rfl⟩) | (go_at_call 19; refine (l3prefix_any _ _).mono ?_; rintro e w' ⟨rfl, rfl⟩))
                  go_ret
                  exact ⟨HF.out _ HZ'.out.symm, HB2.out⟩
                | true =>
                  have q2' : sy.toList = sx.toList := by simpa using q2
                  have HL : Hid (ltO (y0, y1, y2) (x0, x1, x2) = decide (preB y1 = true ∧ preB x1 = false)) := by show _ = _; rw [HLT.out]; simp [q2', bl_irrefl, srt_lt]
                  clear q2'
                  cases q5 : preB y1 with
                  | false =>
                    have HZ := HBADL.out (by rw [HL.out, q5]; simp)
                    have HZ' : Hid _ := HZ
                    clear HZ HGOOD HBADL HLT
                    go_wp2_with (first | (go_at_call 18; refine HSPW.mono ?_; rintro e w' ⟨rfl, rfl⟩) | (go_at_call 19; refine (l3prefix_any _ _).mono ?_; rintro e w' ⟨rfl, rfl⟩))
                    go_ret
                    exact ⟨HF.out _ HZ'.out.symm, HB2.out⟩
                  | true =>
                    cases q6 : preB x1 with
                    | true =>
                      have HZ := HBADL.out (by rw [HL.out, q6]; simp)
                      have HZ' : Hid _ := HZ
                      clear HZ HGOOD HBADL HLT
                      go_wp2_with (first | (go_at_call 18; refine HSPW.mono ?_; rintro e w' ⟨rfl, rfl⟩) | (go_at_call 19; refine (l3prefix_any _ _).mono ?_; rintro e w' ⟨rfl, rfl⟩))
                      go_ret
                      exact ⟨HF.out _ HZ'.out.symm, HB2.out⟩
                    | false =>
                      have HZ := HGOOD.out (by rw [HL.out, q5, q6]; simp)
                      have HZ' : Hid _ := HZ
                      clear HZ HGOOD HBADL HLT
                      go_wp2_with (first | (go_at_call 18; refine HSPW.mono ?_; rintro e w' ⟨rfl, rfl⟩) | (go_at_call 19; refine (l3prefix_any _ _).mono ?_; rintro e w' ⟨rfl, rfl⟩))
                      go_roundw
                      case rel => exact ⟨k + 1, m, by omega, by omega, by go_num, by go_num, HZ', HB2⟩
                      case measure => simp [intOf]; omega
      · obtain rfl : k = cs.length := by omega
        have HQ' : Hid (tabB cs = ((m : Int) == 1)) := by
          have := HQ.out
          rw [List.drop_length] at this
          show _ = _
          rw [this, Bool.eq_iff_iff]
          simp [chainO]
          omega
        clear HQ HC HV
        go_wp2
        go_ret
        exact ⟨HF.out _ (by rw [HQ'.out]), HB.out⟩
  · have hl' : (200 : Int) < cs.length := by omega
    have hv : tabB cs = false := by simp [tabB]; omega
    rw [hv]
    clear hv
    go_enter Try.func6, Try.ntmps6
    go_wp2
    go_ret
    exact ⟨rfl, Below.refl _ _⟩

end Go.Proofs.Ytbfhpnacoigfkaa
