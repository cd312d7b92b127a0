/- l3find, l3infix. Own work of the verifier. -/
import Derived.Test.YtbfhpnacoigfkaaDoorOpsP
import Derived.Test.YtbfhpnacoigfkaaDoorRegK
namespace Go.Proofs.YtbfhpnacoigfkaaDoor
open Go Go.RowKit
set_option linter.unusedVariables false

theorem l3infix_any (t : Int) (w : World) : Calls Tryd.prog 32 #[.int .i64 t] w fun e w' => e = .returned (.bool (decide (t ≤ 2))) ∧ w' = w := by
  cases h : decide (t ≤ 2)
  all_goals
    go_enter Tryd.func32, Tryd.ntmps32
    go_wp2_with fail
    go_ret
    exact ⟨rfl, rfl⟩

def hitB (s : List UInt8) (pf : Bool) (x : Cel) : Bool := ((strOfNums x.2.2).toList == s) && (preB x.2.1 == pf)
def fIdx (s : List UInt8) (pf : Bool) : Nat → List Cel → Int
  | _, [] => -1
  | k, x :: r => if hitB s pf x then k else fIdx s pf (k + 1) r
theorem fIdx_at (s : List UInt8) (pf : Bool) (cs : List Cel) (k : Nat) (h : k < cs.length) : fIdx s pf k (cs.drop k) = if hitB s pf (cs.getD k Cel.none) then (k : Int) else fIdx s pf (k + 1) (cs.drop (k + 1)) := by
  rw [drop_at cs k h, fIdx]

set_option maxRecDepth 100000 in
set_option maxHeartbeats 2000000 in
theorem l3find_any (p : Option Addr) (c : Nat) (cs : List Cel) (q : Option Addr) (l cq : Nat) (xs : List Int) (pf : Bool) (w : World) (hl : l = xs.length) (hn : cs.length ≤ 1000000) (hin : OIn w p cs) (hx : BIn w q xs) :
    Calls Tryd.prog 30 #[.slice p cs.length c, .slice q l cq, .bool pf] w fun e w' => e = .returned (.int .i64 (fIdx (strOfNums xs).toList pf 0 cs)) ∧ ∃ m, w' = w.drewN m := by
  have HIN : Hid (OIn w p cs) := hin
  have HX : Hid (BIn w q xs) := hx
  have HL : Hid (l = xs.length) := hl
  obtain ⟨sn, esn⟩ : ∃ s, s = strOfNums xs := ⟨_, rfl⟩
  rw [← esn]
  have HSN : Hid (sn = strOfNums xs) := esn
  clear hin hx hl esn
  have HF : Hid (∀ b, b = fIdx sn.toList pf 0 cs → Ending.returned (.int .i64 b) = .returned (.int .i64 (fIdx sn.toList pf 0 cs))) := fun b h => ret_int h
  go_enter Tryd.func30, Tryd.ntmps30
  go_wp2_with fail
  go_loopw [7] (fun i wr => ∃ k m : Nat, k ≤ cs.length ∧ i = .int .i64 k ∧ Hid (wr = w.drewN m) ∧ Hid (fIdx sn.toList pf 0 cs = fIdx sn.toList pf k (cs.drop k))) (fun i _ => cs.length - (intOf i).toNat)
  case atStart => exact ⟨0, 0, Nat.zero_le _, rfl, rfl, rfl⟩
  case round =>
    obtain ⟨k, m, hk, rfl, HW, HQ⟩ := hrel
    by_cases hlt : k < cs.length
    · obtain ⟨g, o, rfl, hcs⟩ := HIN.out (by omega)
      have hat : OAt wr g (o + k * 3) (cs.getD k Cel.none) := by rw [HW.out]; exact hcs k hlt
      have HFI : Hid _ := fIdx_at sn.toList pf cs k hlt
      have HHB : Hid (hitB sn.toList pf (cs.getD k Cel.none) = (((strOfNums (cs.getD k Cel.none).2.2).toList == sn.toList) && (preB (cs.getD k Cel.none).2.1 == pf))) := rfl
      obtain ⟨x, ex⟩ : ∃ x, x = cs.getD k Cel.none := ⟨_, rfl⟩
      rw [← ex] at hat HFI HHB
      obtain ⟨qx, qc, h0, h1, h2, h3⟩ := hat
      obtain ⟨x0, x1, x2⟩ := x
      simp only at h0 h1 h2 h3 HHB
      obtain ⟨l2, el2⟩ : ∃ l, l = x2.length := ⟨_, rfl⟩
      obtain ⟨sx, esx⟩ : ∃ s, s = strOfNums x2 := ⟨_, rfl⟩
      rw [← el2] at h2
      rw [← esx] at HHB
      have HLX : Hid (l2 = x2.length) := el2
      have HSX : Hid (sx = strOfNums x2) := esx
      have H3 : Hid (BIn wr qx x2) := h3
      have HXW : Hid (BIn wr q xs) := by rw [HW.out]; exact HX.out
      have cvx : (convert 27 9 (.slice qx l2 qc)).run Tryd.prog wr.drew = .ok (.string sx) wr.drew := by rw [HSX.out]; exact conv_str (w := wr.drew) H3.out l2 qc HLX.out 9 Tryd.underlying9
      have cvn : (convert 27 9 (.slice q l cq)).run Tryd.prog wr.drew = .ok (.string sn) wr.drew := by rw [HSN.out]; exact conv_str (w := wr.drew) HXW.out l cq HL.out 9 Tryd.underlying9
      clear el2 esx ex h3 hcs h0
      cases hs : (sx.toList == sn.toList) with
      | true =>
        cases hp : (preB x1 == pf) with
        | true =>
          have HR : Hid (fIdx sn.toList pf 0 cs = (k : Int)) := by show _ = _; rw [HQ.out, HFI.out, HHB.out, hs, hp]; rfl
          clear HFI HHB
          go_wp2_with fail
          go_region_held3 (fun W => W = wr.drew) (rfl)
            ((go_at_call 31; refine (l3prefix_any _ _).mono ?_; rintro e w' ⟨rfl, rfl⟩))
          all_goals go_wp2_with fail
          all_goals go_ret
          all_goals exact ⟨HF.out _ HR.out.symm, m + 1, by rw [HW.out]; rfl⟩
        | false =>
          have HR : Hid (fIdx sn.toList pf 0 cs = fIdx sn.toList pf (k + 1) (cs.drop (k + 1))) := by show _ = _; rw [HQ.out, HFI.out, HHB.out, hs, hp]; rfl
          clear HFI HHB
          go_wp2_with fail
          go_region_held3 (fun W => W = wr.drew) (rfl)
            ((go_at_call 31; refine (l3prefix_any _ _).mono ?_; rintro e w' ⟨rfl, rfl⟩))
          all_goals go_wp2_with fail
          all_goals go_roundw
          all_goals first
            | (simp [intOf]; omega)
            | exact ⟨k + 1, m + 1, by omega, by go_num, by rw [HW.out]; rfl, HR⟩
      | false =>
        have HR : Hid (fIdx sn.toList pf 0 cs = fIdx sn.toList pf (k + 1) (cs.drop (k + 1))) := by show _ = _; rw [HQ.out, HFI.out, HHB.out, hs]; rfl
        have HH2 : Hid (wr.cell? ⟨g, o + k * 3, none⟩ = some (.slice qx l2 qc)) := h2
        have hk0 : (0 : Int) ≤ (k : Int) := by omega
        have hk1 : (k : Int) < (cs.length : Int) := by omega
        clear HFI HHB
        go_wp2_with fail
        refine wp_region_held_drew (S := fun W => W = wr.drew) (by kernel_rfl) ?_ (fun hHeld => ?_)
        · exact rfl
        refine hTake (i := 0) (v := .slice (some ⟨g, o, none⟩) cs.length c) (some 14) (by kernel_rfl) (by kernel_rfl) (by kernel_rfl) (by kernel_rfl) (by kernel_rfl) (fun _ _ _ h => h) (fun o ho W hSw => ?y0) (by assumption) ?_
        case y0 =>
          cases ho
          simp [execOp, go_sem, Act.eval]
        simp only [Act.put, List.setIfInBounds_toArray, List.set_cons_zero, List.set_cons_succ]
        refine hTake (i := 1) (v := .int .i64 k) (some 15) (by kernel_rfl) (by kernel_rfl) (by kernel_rfl) (by kernel_rfl) (by kernel_rfl) (fun _ _ _ h => h) (fun o ho W hSw => ?y1) (by assumption) ?_
        case y1 =>
          cases ho
          simp [execOp, go_sem, Act.eval]
        simp only [Act.put, List.setIfInBounds_toArray, List.set_cons_zero, List.set_cons_succ]
        refine hTake (i := 2) (v := .pointer (some ⟨g, o + k * 3, none⟩)) (some 16) (by kernel_rfl) (by kernel_rfl) (by kernel_rfl) (by kernel_rfl) (by kernel_rfl) (fun _ _ _ h => h) (fun o ho W hSw => ?y2) (by assumption) ?_
        case y2 =>
          cases ho
          simp [execOp, go_sem, Act.eval, hk0, hk1]
        simp only [Act.put, List.setIfInBounds_toArray, List.set_cons_zero, List.set_cons_succ]
        refine hTake (i := 3) (v := .pointer (some ⟨g, o + k * 3, none⟩)) (some 17) (by kernel_rfl) (by kernel_rfl) (by kernel_rfl) (by kernel_rfl) (by kernel_rfl) (fun _ _ _ h => h) (fun o ho W hSw => ?y3) (by assumption) ?_
        case y3 =>
          cases ho
          simp [execOp, go_sem, Act.eval]
        simp only [Act.put, List.setIfInBounds_toArray, List.set_cons_zero, List.set_cons_succ]
        refine hTake (i := 4) (v := .slice qx l2 qc) (some 18) (by kernel_rfl) (by kernel_rfl) (by kernel_rfl) (by kernel_rfl) (by kernel_rfl) (fun _ _ _ h => h) (fun o ho W hSw => ?y4) (by assumption) ?_
        case y4 =>
          cases ho
          subst hSw
          simp [execOp, go_sem, Act.eval, h2]
        simp only [Act.put, List.setIfInBounds_toArray, List.set_cons_zero, List.set_cons_succ]
        refine hTake (i := 5) (v := .string sx) (some 19) (by kernel_rfl) (by kernel_rfl) (by kernel_rfl) (by kernel_rfl) (by kernel_rfl) (fun _ _ _ h => h) (fun o ho W hSw => ?y5) (by assumption) ?_
        case y5 =>
          cases ho
          subst hSw
          simp [execOp, go_sem, Act.eval, cvx]
        simp only [Act.put, List.setIfInBounds_toArray, List.set_cons_zero, List.set_cons_succ]
        refine hTake (i := 6) (v := .slice q l cq) (some 20) (by kernel_rfl) (by kernel_rfl) (by kernel_rfl) (by kernel_rfl) (by kernel_rfl) (fun _ _ _ h => h) (fun o ho W hSw => ?y6) (by assumption) ?_
        case y6 =>
          cases ho
          simp [execOp, go_sem, Act.eval]
        simp only [Act.put, List.setIfInBounds_toArray, List.set_cons_zero, List.set_cons_succ]
        refine hTake (i := 7) (v := .string sn) (some 21) (by kernel_rfl) (by kernel_rfl) (by kernel_rfl) (by kernel_rfl) (by kernel_rfl) (fun _ _ _ h => h) (fun o ho W hSw => ?y7) (by assumption) ?_
        case y7 =>
          cases ho
          subst hSw
          simp [execOp, go_sem, Act.eval, cvn]
        simp only [Act.put, List.setIfInBounds_toArray, List.set_cons_zero, List.set_cons_succ]
        refine hTake (i := 8) (v := .bool false) (some 22) (by kernel_rfl) (by kernel_rfl) (by kernel_rfl) (by kernel_rfl) (by kernel_rfl) (fun _ _ _ h => h) (fun o ho W hSw => ?y8) (by assumption) ?_
        case y8 =>
          cases ho
          simp [execOp, go_sem, Act.eval, hs]
        simp only [Act.put, List.setIfInBounds_toArray, List.set_cons_zero, List.set_cons_succ]
        refine hTake (i := 9) (v := .bool false) (some 23) (by kernel_rfl) (by kernel_rfl) (by kernel_rfl) (by kernel_rfl) (by kernel_rfl) (fun _ _ _ h => h) (fun o ho W hSw => ?y9) (by assumption) ?_
        case y9 =>
          cases ho
          simp [execOp, go_sem, Act.eval]
        simp only [Act.put, List.setIfInBounds_toArray, List.set_cons_zero, List.set_cons_succ]
        refine hSkip (i := 10) (some 24) (by kernel_rfl) (by kernel_rfl) (by kernel_rfl) (by kernel_rfl) (by kernel_rfl) (fun _ _ _ h => h) (by assumption) ?_
        simp only [Act.put, List.setIfInBounds_toArray, List.set_cons_zero, List.set_cons_succ]
        refine hSkip (i := 11) (some 25) (by kernel_rfl) (by kernel_rfl) (by kernel_rfl) (by kernel_rfl) (by kernel_rfl) (fun _ _ _ h => h) (by assumption) ?_
        simp only [Act.put, List.setIfInBounds_toArray, List.set_cons_zero, List.set_cons_succ]
        refine hSkip (i := 12) (some 26) (by kernel_rfl) (by kernel_rfl) (by kernel_rfl) (by kernel_rfl) (by kernel_rfl) (fun _ _ _ h => h) (by assumption) ?_
        simp only [Act.put, List.setIfInBounds_toArray, List.set_cons_zero, List.set_cons_succ]
        refine hSkip (i := 13) (some 27) (by kernel_rfl) (by kernel_rfl) (by kernel_rfl) (by kernel_rfl) (by kernel_rfl) (fun _ _ _ h => h) (by assumption) ?_
        simp only [Act.put, List.setIfInBounds_toArray, List.set_cons_zero, List.set_cons_succ]
        refine hSkip (i := 14) (some 28) (by kernel_rfl) (by kernel_rfl) (by kernel_rfl) (by kernel_rfl) (by kernel_rfl) (fun _ _ _ h => h) (by assumption) ?_
        simp only [Act.put, List.setIfInBounds_toArray, List.set_cons_zero, List.set_cons_succ]
        refine hSkip (i := 15) (some 29) (by kernel_rfl) (by kernel_rfl) (by kernel_rfl) (by kernel_rfl) (by kernel_rfl) (fun _ _ _ h => h) (by assumption) ?_
        simp only [Act.put, List.setIfInBounds_toArray, List.set_cons_zero, List.set_cons_succ]
        refine hSkip (i := 16) (some 30) (by kernel_rfl) (by kernel_rfl) (by kernel_rfl) (by kernel_rfl) (by kernel_rfl) (fun _ _ _ h => h) (by assumption) ?_
        simp only [Act.put, List.setIfInBounds_toArray, List.set_cons_zero, List.set_cons_succ]
        refine hSkip (i := 17) (some 31) (by kernel_rfl) (by kernel_rfl) (by kernel_rfl) (by kernel_rfl) (by kernel_rfl) (fun _ _ _ h => h) (by assumption) ?_
        simp only [Act.put, List.setIfInBounds_toArray, List.set_cons_zero, List.set_cons_succ]
        refine hTake (i := 18) (v := .bool false) (some 32) (by kernel_rfl) (by kernel_rfl) (by kernel_rfl) (by kernel_rfl) (by kernel_rfl) (fun _ _ _ h => h) (fun o ho W hSw => ?y18) (by assumption) ?_
        case y18 =>
          cases ho
          simp [execOp, go_sem, Act.eval]
        simp only [Act.put, List.setIfInBounds_toArray, List.set_cons_zero, List.set_cons_succ]
        refine wpAnyH_done (by kernel_rfl) ?_ _
        go_wp2_with fail
        go_roundw
        case rel => exact ⟨k + 1, m + 1, by omega, by go_num, by rw [HW.out]; rfl, HR⟩
        case measure => simp [intOf]; omega
    · obtain rfl : k = cs.length := by omega
      have HR : Hid (fIdx sn.toList pf 0 cs = -1) := by have := HQ.out; rw [List.drop_length] at this; exact this
      clear HIN
      go_wp2_with fail
      go_ret
      exact ⟨HF.out _ HR.out.symm, m, HW.out⟩

end Go.Proofs.YtbfhpnacoigfkaaDoor
