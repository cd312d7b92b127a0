/- ValidOps of the program. Own work of the verifier. -/
import Derived.Test.YtbfhpnacoigfkaaOpsV3
import Derived.Deep.RegionWith
import Derived.Test.YtbfhpnacoigfkaaRegK
namespace Go.Proofs.Ytbfhpnacoigfkaa
open Go Go.RowKit Go.Sort
set_option linter.unusedVariables false

theorem below_grow {w : World} (q : Nat) (os : Array Obj) : Below w.heap.size w (grow (w.drewN q) os) :=
  ⟨rfl, rfl, rfl, by simp [grow], fun k hk => (heap_grow_old (w.drewN q) os hk).trans rfl⟩
theorem wrap_small {x : Int} (h0 : -9223372036854775808 ≤ x) (h1 : x ≤ 9223372036854775807) : IntKind.i64.wrap x = x := by rw [IntKind.wrap_i64]; omega
theorem opC {c : Cel} (x : Cel) (h : x = c) : (c.1, c.2.1, c.2.2) = x := h.symm
theorem ltO_iff (a b : Cel) : (decide (0 ≤ opCmp a b)) = !ltO a b := by rw [ltO, Bool.eq_iff_iff]; simp

set_option maxRecDepth 100000 in
set_option maxHeartbeats 1000000 in
theorem implTab_any (p : Option Addr) (c : Nat) (cs : List Cel) (w : World) (hn : cs.length + tl cs ≤ 1000000000) (hc : OIn w p cs) :
    Calls Try.prog 8 #[.slice p cs.length c] w fun e w' => e = .returned (.bool (tabB cs)) ∧ Below w.heap.size w w' := by
  have HC : Hid (OIn w p cs) := hc
  clear hc
  by_cases hl : cs.length ≤ 200
  · have hl' : ¬ (200 : Int) < cs.length := by omega
    have HV : Hid (tabB cs = (chainO none cs && cs.any comC)) := by show _ = _; simp [tabB, hl]
    have HF : Hid (∀ b, b = tabB cs → Ending.returned (.bool b) = .returned (.bool (tabB cs))) := fun b h => ret_bool h
    go_enter Try.func8, Try.ntmps8
    go_wp2
    clear hl'
    go_loopw [3, 11] (fun s i wr => ∃ (k : Nat) (b : Bool), k ≤ cs.length ∧ s = .bool b ∧ i = .int .i64 k ∧ Hid (tabB cs = (chainO (befO cs k) (cs.drop k) && (b || (cs.drop k).any comC))) ∧ Hid (Below w.heap.size w wr)) (fun _ i _ => cs.length - (intOf i).toNat)
    case atStart => exact ⟨0, false, Nat.zero_le _, rfl, rfl, by show _ = _; rw [HV.out]; simp [befO], Below.refl _ _⟩
    case round =>
      obtain ⟨k, b, hk, rfl, rfl, HQ, HB⟩ := hrel
      by_cases hlt : k < cs.length
      · obtain ⟨g, o, rfl, hcs⟩ := HC.out (by omega)
        have hat := (hcs k hlt).below HB.out
        have hpr : 0 < k → OAt wr g (o + (k - 1) * 3) (cs.getD (k - 1) Cel.none) := fun h => (hcs (k - 1) (by omega)).below HB.out
        have hbe : 0 < k → befO cs k = some (cs.getD (k - 1) Cel.none) := fun h => by simp [befO]; omega
        have hb0 : k = 0 → befO cs k = none := fun h => by simp [befO, h]
        have hlk := tl_at cs k hlt
        have hlp : 0 < k → (cs.getD (k - 1) Cel.none).2.2.length ≤ tl cs := fun h => tl_at cs (k - 1) (by omega)
        have HD : Hid (tabB cs = ((okC (cs.getD k Cel.none) && (match befO cs k with | none => true | some x => ltO x (cs.getD k Cel.none)) && chainO (befO cs (k + 1)) (cs.drop (k + 1))) && (b || (comC (cs.getD k Cel.none) || (cs.drop (k + 1)).any comC)))) := by
          show _ = _
          rw [HQ.out, chainO_at cs k hlt, drop_at cs k hlt]; rfl
        obtain ⟨x, ex⟩ : ∃ x, x = cs.getD k Cel.none := ⟨_, rfl⟩
        obtain ⟨y, ey⟩ : ∃ y, y = cs.getD (k - 1) Cel.none := ⟨_, rfl⟩
        rw [← ex] at hat HD hlk
        rw [← ey] at hpr hbe hlp
        obtain ⟨q, qc, h0, h1, h2, h3⟩ := hat
        obtain ⟨x0, x1, x2⟩ := x
        simp only at h0 h1 h2 h3 hlk
        have hW : Below wr.heap.size wr (wr.alloc (Obj.cells #[.slice q x2.length qc, .int .i64 x0, .int .i64 x1] 40)) := (Below.refl _ _).alloc (Nat.le_refl _) _
        have HI : Hid (∀ W, Below wr.heap.size wr W → Calls Try.prog 21 #[.agg #[.slice q x2.length qc, .int .i64 x0, .int .i64 x1]] W fun e w' => e = .returned (.bool (okC (x0, x1, x2))) ∧ Below W.heap.size W w') := fun W hB => isOp_any x0 x1 q x2.length qc x2 W rfl (by omega) (h3.below hB)
        have HCV : Hid (∀ W, Below wr.heap.size wr W → (convert 29 9 (.slice q x2.length qc)).run Try.prog W = .ok (.string (strOfNums x2)) W) := fun W hB => conv_str (h3.below hB) x2.length qc rfl 9 Try.underlying9
        have HB0 : Hid (Below w.heap.size w (wr.alloc (Obj.cells #[.slice q x2.length qc, .int .i64 x0, .int .i64 x1] 40))) := Below.on HB.out hW
        have HW : Hid _ := hW
        have G : Box3 (wr.alloc (Obj.cells #[.slice q x2.length qc, .int .i64 x0, .int .i64 x1] 40)) wr.heap.size (.slice q x2.length qc) (.int .i64 x0) (.int .i64 x1) := Box3.of_block (t := 40) (heap_alloc_new _ _)
        obtain ⟨c0, c1, c2, _⟩ := G
        have HOK : Hid (okC (x0, x1, x2) = okC (x0, x1, x2)) := rfl
        have HCO : Hid (comC (x0, x1, x2) = ((strOfNums x2).toList == [44])) := rfl
        have HXX : Hid ((x0, x1, x2) = cs.getD k Cel.none) := ex
        clear ex hlk
        obtain ⟨l2, el2⟩ : ∃ l, l = x2.length := ⟨_, rfl⟩
        rw [← el2] at h2 HI HCV HB0 HW c0 c1 c2 hW
        have HL2 : Hid (l2 = x2.length) := el2
        clear el2 hW
        obtain ⟨sx, esx⟩ : ∃ s, s = strOfNums x2 := ⟨_, rfl⟩
        rw [← esx] at HCV HCO
        have HSX : Hid _ := esx
        clear esx
        cases hok : okC (x0, x1, x2) with
        | false =>
          rw [hok] at HI HD
          have HZ : Hid (tabB cs = false) := by show _ = _; rw [HD.out]; simp
          clear hok hcs hpr hbe hb0 hlp h3 HC HV HQ HD HCV HCO HSX HL2 HXX HOK
          go_wp2_with fail
          refine wp_region_held_drew (S := fun W => W.cell? ⟨wr.heap.size, 0, none⟩ = some (.slice q l2 qc) ∧ W.cell? ⟨wr.heap.size, 1, none⟩ = some (.int .i64 x0) ∧ W.cell? ⟨wr.heap.size, 2, none⟩ = some (.int .i64 x1)) (by kernel_rfl) ?_ (fun hHeld => ?_)
          · exact ⟨c0, c1, c2⟩
          refine hTake (i := 0) (v := .agg #[.slice q l2 qc, .int .i64 x0, .int .i64 x1]) (some 16) (by kernel_rfl) (by kernel_rfl) (by kernel_rfl) (by kernel_rfl) (by kernel_rfl) (fun _ _ _ h => h) (fun o ho W hSw => ?y0) (by assumption) ?_
          case y0 =>
            cases ho
            simp [execOp, go_sem, Act.eval, hSw.1, hSw.2.1, hSw.2.2]
          simp only [Act.put, List.setIfInBounds_toArray, List.set_cons_zero, List.set_cons_succ]
          refine hCall (i := 1) (some 17) (by kernel_rfl) (by kernel_rfl) (by kernel_rfl) (fun o ho => ?y1) (HI.out _ HW.out.drew) ?_
          case y1 =>
            cases ho
            simp [execOp, go_sem, Act.eval]
          intro w1 hb1
          have kk : w1.cell? ⟨wr.heap.size, 0, none⟩ = some (.slice q l2 qc) ∧ w1.cell? ⟨wr.heap.size, 1, none⟩ = some (.int .i64 x0) ∧ w1.cell? ⟨wr.heap.size, 2, none⟩ = some (.int .i64 x1) := ⟨(hb1.cell (p := ⟨_, _, none⟩) (by simp)).trans c0, (hb1.cell (p := ⟨_, _, none⟩) (by simp)).trans c1, (hb1.cell (p := ⟨_, _, none⟩) (by simp)).trans c2⟩
          refine ⟨kk, ?_⟩
          clear hHeld
          simp only [Act.put, List.setIfInBounds_toArray, List.set_cons_zero, List.set_cons_succ]
          refine hTake (i := 2) (v := .bool true) (some 18) (by kernel_rfl) (by kernel_rfl) (by kernel_rfl) (by kernel_rfl) (by kernel_rfl) (fun _ _ _ h => h) (fun o ho W hSw => ?y2) (by assumption) ?_
          case y2 =>
            cases ho
            simp [execOp, go_sem, Act.eval]
          simp only [Act.put, List.setIfInBounds_toArray, List.set_cons_zero, List.set_cons_succ]
          refine hTake (i := 3) (v := .bool true) (some 19) (by kernel_rfl) (by kernel_rfl) (by kernel_rfl) (by kernel_rfl) (by kernel_rfl) (fun _ _ _ h => h) (fun o ho W hSw => ?y3) (by assumption) ?_
          case y3 =>
            cases ho
            simp [execOp, go_sem, Act.eval]
          simp only [Act.put, List.setIfInBounds_toArray, List.set_cons_zero, List.set_cons_succ]
          refine hSkip (i := 4) (some 20) (by kernel_rfl) (by kernel_rfl) (by kernel_rfl) (by kernel_rfl) (by kernel_rfl) (fun _ _ _ h => h) (by assumption) ?_
          simp only [Act.put, List.setIfInBounds_toArray, List.set_cons_zero, List.set_cons_succ]
          refine hSkip (i := 5) (some 21) (by kernel_rfl) (by kernel_rfl) (by kernel_rfl) (by kernel_rfl) (by kernel_rfl) (fun _ _ _ h => h) (by assumption) ?_
          simp only [Act.put, List.setIfInBounds_toArray, List.set_cons_zero, List.set_cons_succ]
          refine hSkip (i := 6) (some 22) (by kernel_rfl) (by kernel_rfl) (by kernel_rfl) (by kernel_rfl) (by kernel_rfl) (fun _ _ _ h => h) (by assumption) ?_
          simp only [Act.put, List.setIfInBounds_toArray, List.set_cons_zero, List.set_cons_succ]
          refine hSkip (i := 7) (some 23) (by kernel_rfl) (by kernel_rfl) (by kernel_rfl) (by kernel_rfl) (by kernel_rfl) (fun _ _ _ h => h) (by assumption) ?_
          simp only [Act.put, List.setIfInBounds_toArray, List.set_cons_zero, List.set_cons_succ]
          refine hSkip (i := 8) (some 24) (by kernel_rfl) (by kernel_rfl) (by kernel_rfl) (by kernel_rfl) (by kernel_rfl) (fun _ _ _ h => h) (by assumption) ?_
          simp only [Act.put, List.setIfInBounds_toArray, List.set_cons_zero, List.set_cons_succ]
          refine hSkip (i := 9) (some 25) (by kernel_rfl) (by kernel_rfl) (by kernel_rfl) (by kernel_rfl) (by kernel_rfl) (fun _ _ _ h => h) (by assumption) ?_
          simp only [Act.put, List.setIfInBounds_toArray, List.set_cons_zero, List.set_cons_succ]
          refine hSkip (i := 10) (some 26) (by kernel_rfl) (by kernel_rfl) (by kernel_rfl) (by kernel_rfl) (by kernel_rfl) (fun _ _ _ h => h) (by assumption) ?_
          simp only [Act.put, List.setIfInBounds_toArray, List.set_cons_zero, List.set_cons_succ]
          refine hSkip (i := 11) (some 27) (by kernel_rfl) (by kernel_rfl) (by kernel_rfl) (by kernel_rfl) (by kernel_rfl) (fun _ _ _ h => h) (by assumption) ?_
          simp only [Act.put, List.setIfInBounds_toArray, List.set_cons_zero, List.set_cons_succ]
          refine hSkip (i := 12) (some 28) (by kernel_rfl) (by kernel_rfl) (by kernel_rfl) (by kernel_rfl) (by kernel_rfl) (fun _ _ _ h => h) (by assumption) ?_
          simp only [Act.put, List.setIfInBounds_toArray, List.set_cons_zero, List.set_cons_succ]
          refine hSkip (i := 13) (some 29) (by kernel_rfl) (by kernel_rfl) (by kernel_rfl) (by kernel_rfl) (by kernel_rfl) (fun _ _ _ h => h) (by assumption) ?_
          simp only [Act.put, List.setIfInBounds_toArray, List.set_cons_zero, List.set_cons_succ]
          refine hSkip (i := 14) (some 30) (by kernel_rfl) (by kernel_rfl) (by kernel_rfl) (by kernel_rfl) (by kernel_rfl) (fun _ _ _ h => h) (by assumption) ?_
          simp only [Act.put, List.setIfInBounds_toArray, List.set_cons_zero, List.set_cons_succ]
          refine hSkip (i := 15) (some 31) (by kernel_rfl) (by kernel_rfl) (by kernel_rfl) (by kernel_rfl) (by kernel_rfl) (fun _ _ _ h => h) (by assumption) ?_
          simp only [Act.put, List.setIfInBounds_toArray, List.set_cons_zero, List.set_cons_succ]
          refine hTake (i := 16) (v := .bool true) (some 32) (by kernel_rfl) (by kernel_rfl) (by kernel_rfl) (by kernel_rfl) (by kernel_rfl) (fun _ _ _ h => h) (fun o ho W hSw => ?y16) (by assumption) ?_
          case y16 =>
            cases ho
            simp [execOp, go_sem, Act.eval]
          simp only [Act.put, List.setIfInBounds_toArray, List.set_cons_zero, List.set_cons_succ]
          refine wpAnyH_done (by kernel_rfl) ?_ _
          all_goals go_wp2_with fail
          all_goals go_ret
          all_goals exact ⟨HF.out _ HZ.out.symm, (HB0.out.drew).trans (hb1.mono (Nat.le_trans HB.out.size (by simp)))⟩
        | true =>
          rw [hok] at HI HD
          clear hok HOK
          by_cases hk0 : k = 0
          · subst hk0
            have e0 := hb0 rfl
            simp only [Nat.zero_mul, Nat.add_zero] at h0 h1 h2
            rw [e0] at HD
            have HZ : Hid (tabB cs = (chainO (befO cs 1) (cs.drop 1) && ((b || (sx.toList == [44])) || (cs.drop 1).any comC))) := by
              show _ = _
              rw [HD.out, HCO.out]; simp [Bool.or_assoc]
            clear e0 hcs hpr hbe hb0 hlp h3 HC HV HQ HD HCO HSX HL2 HXX
            go_wp2_with fail
            refine wp_region_held_drew (S := fun W => W.cell? ⟨wr.heap.size, 0, none⟩ = some (.slice q l2 qc) ∧ W.cell? ⟨wr.heap.size, 1, none⟩ = some (.int .i64 x0) ∧ W.cell? ⟨wr.heap.size, 2, none⟩ = some (.int .i64 x1)) (by kernel_rfl) ?_ (fun hHeld => ?_)
            · exact ⟨c0, c1, c2⟩
            refine hTake (i := 0) (v := .agg #[.slice q l2 qc, .int .i64 x0, .int .i64 x1]) (some 16) (by kernel_rfl) (by kernel_rfl) (by kernel_rfl) (by kernel_rfl) (by kernel_rfl) (fun _ _ _ h => h) (fun o ho W hSw => ?y0) (by assumption) ?_
            case y0 =>
              cases ho
              simp [execOp, go_sem, Act.eval, hSw.1, hSw.2.1, hSw.2.2]
            simp only [Act.put, List.setIfInBounds_toArray, List.set_cons_zero, List.set_cons_succ]
            refine hCall (i := 1) (some 17) (by kernel_rfl) (by kernel_rfl) (by kernel_rfl) (fun o ho => ?y1) (HI.out _ HW.out.drew) ?_
            case y1 =>
              cases ho
              simp [execOp, go_sem, Act.eval]
            intro w1 hb1
            have kk : w1.cell? ⟨wr.heap.size, 0, none⟩ = some (.slice q l2 qc) ∧ w1.cell? ⟨wr.heap.size, 1, none⟩ = some (.int .i64 x0) ∧ w1.cell? ⟨wr.heap.size, 2, none⟩ = some (.int .i64 x1) := ⟨(hb1.cell (p := ⟨_, _, none⟩) (by simp)).trans c0, (hb1.cell (p := ⟨_, _, none⟩) (by simp)).trans c1, (hb1.cell (p := ⟨_, _, none⟩) (by simp)).trans c2⟩
            refine ⟨kk, ?_⟩
            clear hHeld
            simp only [Act.put, List.setIfInBounds_toArray, List.set_cons_zero, List.set_cons_succ]
            refine hTake (i := 2) (v := .bool false) (some 18) (by kernel_rfl) (by kernel_rfl) (by kernel_rfl) (by kernel_rfl) (by kernel_rfl) (fun _ _ _ h => h) (fun o ho W hSw => ?y2) (by assumption) ?_
            case y2 =>
              cases ho
              simp [execOp, go_sem, Act.eval]
            simp only [Act.put, List.setIfInBounds_toArray, List.set_cons_zero, List.set_cons_succ]
            refine hTake (i := 3) (v := .bool false) (some 19) (by kernel_rfl) (by kernel_rfl) (by kernel_rfl) (by kernel_rfl) (by kernel_rfl) (fun _ _ _ h => h) (fun o ho W hSw => ?y3) (by assumption) ?_
            case y3 =>
              cases ho
              simp [execOp, go_sem, Act.eval]
            simp only [Act.put, List.setIfInBounds_toArray, List.set_cons_zero, List.set_cons_succ]
            refine hTake (i := 4) (v := .int .i64 0) (some 20) (by kernel_rfl) (by kernel_rfl) (by kernel_rfl) (by kernel_rfl) (by kernel_rfl) (fun _ _ _ h => h) (fun o ho W hSw => ?y4) (by assumption) ?_
            case y4 =>
              cases ho
              simp [execOp, go_sem, Act.eval]
            simp only [Act.put, List.setIfInBounds_toArray, List.set_cons_zero, List.set_cons_succ]
            refine hTake (i := 5) (v := .bool false) (some 21) (by kernel_rfl) (by kernel_rfl) (by kernel_rfl) (by kernel_rfl) (by kernel_rfl) (fun _ _ _ h => h) (fun o ho W hSw => ?y5) (by assumption) ?_
            case y5 =>
              cases ho
              simp [execOp, go_sem, Act.eval]
            simp only [Act.put, List.setIfInBounds_toArray, List.set_cons_zero, List.set_cons_succ]
            refine hTake (i := 6) (v := .bool false) (some 22) (by kernel_rfl) (by kernel_rfl) (by kernel_rfl) (by kernel_rfl) (by kernel_rfl) (fun _ _ _ h => h) (fun o ho W hSw => ?y6) (by assumption) ?_
            case y6 =>
              cases ho
              simp [execOp, go_sem, Act.eval]
            simp only [Act.put, List.setIfInBounds_toArray, List.set_cons_zero, List.set_cons_succ]
            refine hSkip (i := 7) (some 23) (by kernel_rfl) (by kernel_rfl) (by kernel_rfl) (by kernel_rfl) (by kernel_rfl) (fun _ _ _ h => h) (by assumption) ?_
            simp only [Act.put, List.setIfInBounds_toArray, List.set_cons_zero, List.set_cons_succ]
            refine hSkip (i := 8) (some 24) (by kernel_rfl) (by kernel_rfl) (by kernel_rfl) (by kernel_rfl) (by kernel_rfl) (fun _ _ _ h => h) (by assumption) ?_
            simp only [Act.put, List.setIfInBounds_toArray, List.set_cons_zero, List.set_cons_succ]
            refine hSkip (i := 9) (some 25) (by kernel_rfl) (by kernel_rfl) (by kernel_rfl) (by kernel_rfl) (by kernel_rfl) (fun _ _ _ h => h) (by assumption) ?_
            simp only [Act.put, List.setIfInBounds_toArray, List.set_cons_zero, List.set_cons_succ]
            refine hSkip (i := 10) (some 26) (by kernel_rfl) (by kernel_rfl) (by kernel_rfl) (by kernel_rfl) (by kernel_rfl) (fun _ _ _ h => h) (by assumption) ?_
            simp only [Act.put, List.setIfInBounds_toArray, List.set_cons_zero, List.set_cons_succ]
            refine hSkip (i := 11) (some 27) (by kernel_rfl) (by kernel_rfl) (by kernel_rfl) (by kernel_rfl) (by kernel_rfl) (fun _ _ _ h => h) (by assumption) ?_
            simp only [Act.put, List.setIfInBounds_toArray, List.set_cons_zero, List.set_cons_succ]
            refine hSkip (i := 12) (some 28) (by kernel_rfl) (by kernel_rfl) (by kernel_rfl) (by kernel_rfl) (by kernel_rfl) (fun _ _ _ h => h) (by assumption) ?_
            simp only [Act.put, List.setIfInBounds_toArray, List.set_cons_zero, List.set_cons_succ]
            refine hSkip (i := 13) (some 29) (by kernel_rfl) (by kernel_rfl) (by kernel_rfl) (by kernel_rfl) (by kernel_rfl) (fun _ _ _ h => h) (by assumption) ?_
            simp only [Act.put, List.setIfInBounds_toArray, List.set_cons_zero, List.set_cons_succ]
            refine hSkip (i := 14) (some 30) (by kernel_rfl) (by kernel_rfl) (by kernel_rfl) (by kernel_rfl) (by kernel_rfl) (fun _ _ _ h => h) (by assumption) ?_
            simp only [Act.put, List.setIfInBounds_toArray, List.set_cons_zero, List.set_cons_succ]
            refine hTake (i := 15) (v := .bool false) (some 31) (by kernel_rfl) (by kernel_rfl) (by kernel_rfl) (by kernel_rfl) (by kernel_rfl) (fun _ _ _ h => h) (fun o ho W hSw => ?y15) (by assumption) ?_
            case y15 =>
              cases ho
              simp [execOp, go_sem, Act.eval]
            simp only [Act.put, List.setIfInBounds_toArray, List.set_cons_zero, List.set_cons_succ]
            refine hTake (i := 16) (v := .bool false) (some 32) (by kernel_rfl) (by kernel_rfl) (by kernel_rfl) (by kernel_rfl) (by kernel_rfl) (fun _ _ _ h => h) (fun o ho W hSw => ?y16) (by assumption) ?_
            case y16 =>
              cases ho
              simp [execOp, go_sem, Act.eval]
            simp only [Act.put, List.setIfInBounds_toArray, List.set_cons_zero, List.set_cons_succ]
            refine wpAnyH_done (by kernel_rfl) ?_ _
            all_goals
              have HB1 : Hid (Below w.heap.size w w1) := (HB0.out.drew).trans (hb1.mono (Nat.le_trans HB.out.size (by simp)))
              have cv := HCV.out w1 (HW.out.drew.trans (hb1.mono (by simp)))
              obtain ⟨k0, k1, k2⟩ := kk
              clear hb1 HI HCV HW HB0 c0 c1 c2
              cases b with
              | true =>
                go_wp2_with fail
                go_roundw
                case rel => exact ⟨1, true, by omega, by go_num, by go_num, by show _ = _; rw [HZ.out]; simp, HB1⟩
                case measure => simp [intOf]; omega
              | false =>
                go_wp2_with fail
                go_roundw
                case rel => exact ⟨1, sx.toList == [44], by omega, by go_num, by go_num, by show _ = _; rw [HZ.out]; simp, HB1⟩
                case measure => simp [intOf]; omega
          · obtain ⟨j, ej⟩ : ∃ j, k = j + 1 := ⟨k - 1, by omega⟩
            have hkj : ((k : Int) - 1) = (j : Int) := by omega
            have hk1 : 0 < k := by omega
            have hkd : decide (0 < k) = true := by simp; omega
            have hjl : j < cs.length := by omega
            have hjl' : (j : Int) < (cs.length : Int) := by omega
            have hj0 : (0 : Int) ≤ (j : Int) := by omega
            have hwrap : IntKind.i64.wrap ((k : Int) - 1) = (j : Int) := by rw [hkj]; exact wrap_small (by omega) (by omega)
            clear hkj
            have e0 := hbe (by omega)
            have hpj := hpr (by omega)
            have hlj := hlp (by omega)
            rw [e0] at HD
            rw [show k - 1 = j by omega] at hpj
            obtain ⟨r, rc, d1, d2, d0, d3⟩ := hpj
            obtain ⟨y0, y1, y2⟩ := y
            simp only at d0 d1 d2 d3 hlj HD
            have hg0 : g < wr.heap.size := World.block_lt_of_cell? _ _ d0
            have HCM : Hid (∀ W, Below wr.heap.size wr W → Calls Try.prog 22 #[.agg #[.slice r y2.length rc, .int .i64 y0, .int .i64 y1], .agg #[.slice q l2 qc, .int .i64 x0, .int .i64 x1]] W fun e w' => e = .returned (.int .i64 (opCmp (y0, y1, y2) (x0, x1, x2))) ∧ ∃ q os', w' = grow (W.drewN q) os') := fun W hB => compareOps_any y0 y1 x0 x1 r q y2.length l2 rc qc y2 x2 W rfl HL2.out (d3.below hB) (h3.below hB)
            obtain ⟨m2, em2⟩ : ∃ l, l = y2.length := ⟨_, rfl⟩
            rw [← em2] at HCM d0
            have HLT : Hid (ltO (y0, y1, y2) (x0, x1, x2) = decide (opCmp (y0, y1, y2) (x0, x1, x2) < 0)) := rfl
            generalize opCmp (y0, y1, y2) (x0, x1, x2) = oc at HCM HLT
            have hW3 : Below wr.heap.size wr (wr.alloc (Obj.cells #[.slice q l2 qc, .int .i64 x0, .int .i64 x1] 40)) := HW.out
            have d0 := (hW3.cell (p := ⟨_, _, none⟩) hg0).trans d0
            have d1 := (hW3.cell (p := ⟨_, _, none⟩) hg0).trans d1
            have d2 := (hW3.cell (p := ⟨_, _, none⟩) hg0).trans d2
            have hg0 : g < (wr.alloc (Obj.cells #[.slice q l2 qc, .int .i64 x0, .int .i64 x1] 40)).heap.size := by simp; omega
            have HEJ : Hid (k = j + 1) := ej
            clear e0 hpr hbe hb0 hlp h3 HC HV HQ HSX HL2 HXX hcs em2 d3 ey hW3 ej hk0 hlj
            by_cases hoc : oc < 0
            · have hoc' : decide (0 ≤ oc) = false := by simp; omega
              have HZ : Hid (tabB cs = (chainO (befO cs (k + 1)) (cs.drop (k + 1)) && ((b || (sx.toList == [44])) || (cs.drop (k + 1)).any comC))) := by
                show _ = _
                rw [HD.out, HLT.out, HCO.out]; simp [hoc, Bool.or_assoc]
              clear HD HLT HCO
              go_wp2_with fail
              go_region_held3 (fun W => (W.cell? ⟨wr.heap.size, 0, none⟩ = some (.slice q l2 qc) ∧ W.cell? ⟨wr.heap.size, 1, none⟩ = some (.int .i64 x0) ∧ W.cell? ⟨wr.heap.size, 2, none⟩ = some (.int .i64 x1)) ∧ W.cell? ⟨g, o + j * 3, none⟩ = some (.slice r m2 rc) ∧ W.cell? ⟨g, o + j * 3 + 1, none⟩ = some (.int .i64 y0) ∧ W.cell? ⟨g, o + j * 3 + 2, none⟩ = some (.int .i64 y1)) (first | exact kk2 | exact kk | go_keep)
                (first | (go_at_call 21; refine (HI.out _ HW.out.drew).mono ?_; rintro e w1 ⟨rfl, hb1⟩; have kk : (w1.cell? ⟨wr.heap.size, 0, none⟩ = some (.slice q l2 qc) ∧ w1.cell? ⟨wr.heap.size, 1, none⟩ = some (.int .i64 x0) ∧ w1.cell? ⟨wr.heap.size, 2, none⟩ = some (.int .i64 x1)) ∧ w1.cell? ⟨g, o + j * 3, none⟩ = some (.slice r m2 rc) ∧ w1.cell? ⟨g, o + j * 3 + 1, none⟩ = some (.int .i64 y0) ∧ w1.cell? ⟨g, o + j * 3 + 2, none⟩ = some (.int .i64 y1) := ⟨⟨(hb1.cell (p := ⟨_, _, none⟩) (by simp)).trans c0, (hb1.cell (p := ⟨_, _, none⟩) (by simp)).trans c1, (hb1.cell (p := ⟨_, _, none⟩) (by simp)).trans c2⟩, ⟨(hb1.cell (p := ⟨_, _, none⟩) hg0).trans d0, (hb1.cell (p := ⟨_, _, none⟩) hg0).trans d1, (hb1.cell (p := ⟨_, _, none⟩) hg0).trans d2⟩⟩) | (go_at_call 22; refine (HCM.out _ (HW.out.drew.trans (hb1.mono (by simp)))).mono ?_; rintro e w2 ⟨rfl, q2, os2, rfl⟩; have kk2 : ((grow (w1.drewN q2) os2).cell? ⟨wr.heap.size, 0, none⟩ = some (.slice q l2 qc) ∧ (grow (w1.drewN q2) os2).cell? ⟨wr.heap.size, 1, none⟩ = some (.int .i64 x0) ∧ (grow (w1.drewN q2) os2).cell? ⟨wr.heap.size, 2, none⟩ = some (.int .i64 x1)) ∧ (grow (w1.drewN q2) os2).cell? ⟨g, o + j * 3, none⟩ = some (.slice r m2 rc) ∧ (grow (w1.drewN q2) os2).cell? ⟨g, o + j * 3 + 1, none⟩ = some (.int .i64 y0) ∧ (grow (w1.drewN q2) os2).cell? ⟨g, o + j * 3 + 2, none⟩ = some (.int .i64 y1) := ⟨⟨((below_grow q2 os2).cell (World.block_lt_of_cell? _ _ kk.1.1)).trans kk.1.1, ((below_grow q2 os2).cell (World.block_lt_of_cell? _ _ kk.1.2.1)).trans kk.1.2.1, ((below_grow q2 os2).cell (World.block_lt_of_cell? _ _ kk.1.2.2)).trans kk.1.2.2⟩, ((below_grow q2 os2).cell (World.block_lt_of_cell? _ _ kk.2.1)).trans kk.2.1, ((below_grow q2 os2).cell (World.block_lt_of_cell? _ _ kk.2.2.1)).trans kk.2.2.1, ((below_grow q2 os2).cell (World.block_lt_of_cell? _ _ kk.2.2.2)).trans kk.2.2.2⟩))
              all_goals
                have HB1 : Hid (Below w.heap.size w (grow (w1.drewN q2) os2)) := ((HB0.out.drew).trans (hb1.mono (Nat.le_trans HB.out.size (by simp)))).trans ((below_grow q2 os2).mono (Nat.le_trans HB.out.size (Nat.le_trans (by simp) hb1.size)))
                have cv := HCV.out _ (HW.out.drew.trans ((hb1.trans ((below_grow q2 os2).mono hb1.size)).mono (by simp)))
                obtain ⟨⟨k0, k1, k2⟩, _⟩ := kk2
                clear kk hb1 HI HCM HCV HW HB0 c0 c1 c2 d0 d1 d2 hg0
                revert HB1 cv k0 k1 k2
                generalize grow (w1.drewN q2) os2 = w3
                intro HB1 cv k0 k1 k2
                cases b with
                | true =>
                  go_wp2_with fail
                  go_roundw
                  case rel => exact ⟨k + 1, true, by omega, by go_num, by go_num, by show _ = _; rw [HZ.out]; simp, HB1⟩
                  case measure => simp [intOf]; omega
                | false =>
                  go_wp2_with fail
                  go_roundw
                  case rel => exact ⟨k + 1, sx.toList == [44], by omega, by go_num, by go_num, by show _ = _; rw [HZ.out]; simp, HB1⟩
                  case measure => simp [intOf]; omega
            · have hoc' : decide (0 ≤ oc) = true := by simp; omega
              have HZ : Hid (tabB cs = false) := by
                show _ = _
                rw [HD.out, HLT.out]; simp [hoc]
              clear HD HLT HCO HCV
              go_wp2_with fail
              go_region_held3 (fun W => (W.cell? ⟨wr.heap.size, 0, none⟩ = some (.slice q l2 qc) ∧ W.cell? ⟨wr.heap.size, 1, none⟩ = some (.int .i64 x0) ∧ W.cell? ⟨wr.heap.size, 2, none⟩ = some (.int .i64 x1)) ∧ W.cell? ⟨g, o + j * 3, none⟩ = some (.slice r m2 rc) ∧ W.cell? ⟨g, o + j * 3 + 1, none⟩ = some (.int .i64 y0) ∧ W.cell? ⟨g, o + j * 3 + 2, none⟩ = some (.int .i64 y1)) (first | exact kk2 | exact kk | go_keep)
                (first | (go_at_call 21; refine (HI.out _ HW.out.drew).mono ?_; rintro e w1 ⟨rfl, hb1⟩; have kk : (w1.cell? ⟨wr.heap.size, 0, none⟩ = some (.slice q l2 qc) ∧ w1.cell? ⟨wr.heap.size, 1, none⟩ = some (.int .i64 x0) ∧ w1.cell? ⟨wr.heap.size, 2, none⟩ = some (.int .i64 x1)) ∧ w1.cell? ⟨g, o + j * 3, none⟩ = some (.slice r m2 rc) ∧ w1.cell? ⟨g, o + j * 3 + 1, none⟩ = some (.int .i64 y0) ∧ w1.cell? ⟨g, o + j * 3 + 2, none⟩ = some (.int .i64 y1) := ⟨⟨(hb1.cell (p := ⟨_, _, none⟩) (by simp)).trans c0, (hb1.cell (p := ⟨_, _, none⟩) (by simp)).trans c1, (hb1.cell (p := ⟨_, _, none⟩) (by simp)).trans c2⟩, ⟨(hb1.cell (p := ⟨_, _, none⟩) hg0).trans d0, (hb1.cell (p := ⟨_, _, none⟩) hg0).trans d1, (hb1.cell (p := ⟨_, _, none⟩) hg0).trans d2⟩⟩) | (go_at_call 22; refine (HCM.out _ (HW.out.drew.trans (hb1.mono (by simp)))).mono ?_; rintro e w2 ⟨rfl, q2, os2, rfl⟩; have kk2 : ((grow (w1.drewN q2) os2).cell? ⟨wr.heap.size, 0, none⟩ = some (.slice q l2 qc) ∧ (grow (w1.drewN q2) os2).cell? ⟨wr.heap.size, 1, none⟩ = some (.int .i64 x0) ∧ (grow (w1.drewN q2) os2).cell? ⟨wr.heap.size, 2, none⟩ = some (.int .i64 x1)) ∧ (grow (w1.drewN q2) os2).cell? ⟨g, o + j * 3, none⟩ = some (.slice r m2 rc) ∧ (grow (w1.drewN q2) os2).cell? ⟨g, o + j * 3 + 1, none⟩ = some (.int .i64 y0) ∧ (grow (w1.drewN q2) os2).cell? ⟨g, o + j * 3 + 2, none⟩ = some (.int .i64 y1) := ⟨⟨((below_grow q2 os2).cell (World.block_lt_of_cell? _ _ kk.1.1)).trans kk.1.1, ((below_grow q2 os2).cell (World.block_lt_of_cell? _ _ kk.1.2.1)).trans kk.1.2.1, ((below_grow q2 os2).cell (World.block_lt_of_cell? _ _ kk.1.2.2)).trans kk.1.2.2⟩, ((below_grow q2 os2).cell (World.block_lt_of_cell? _ _ kk.2.1)).trans kk.2.1, ((below_grow q2 os2).cell (World.block_lt_of_cell? _ _ kk.2.2.1)).trans kk.2.2.1, ((below_grow q2 os2).cell (World.block_lt_of_cell? _ _ kk.2.2.2)).trans kk.2.2.2⟩))
              all_goals go_wp2_with fail
              all_goals go_ret
              all_goals exact ⟨HF.out _ HZ.out.symm, ((HB0.out.drew).trans (hb1.mono (Nat.le_trans HB.out.size (by simp)))).trans ((below_grow q2 os2).mono (Nat.le_trans HB.out.size (Nat.le_trans (by simp) hb1.size)))⟩
      · obtain rfl : k = cs.length := by omega
        have HQ' : Hid (tabB cs = b) := by
          have := HQ.out
          rw [List.drop_length] at this
          show _ = _
          simpa [chainO] using this
        clear HQ HC HV
        go_wp2
        go_ret
        exact ⟨HF.out _ HQ'.out.symm, HB.out⟩
  · have hl' : (200 : Int) < cs.length := by omega
    have hv : tabB cs = false := by simp [tabB]; omega
    rw [hv]
    clear hv
    go_enter Try.func8, Try.ntmps8
    go_wp2
    go_ret
    exact ⟨rfl, Below.refl _ _⟩

end Go.Proofs.Ytbfhpnacoigfkaa
