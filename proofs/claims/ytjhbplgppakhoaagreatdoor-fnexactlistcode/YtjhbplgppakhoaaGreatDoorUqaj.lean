/- Texts of OpsM1, OpsV4, OpsM2, OpsM3. Own work of the verifier. -/
import Derived.Test.YtjhbplgppakhoaaGreatDoorUqag
import Derived.Test.YtjhbplgppakhoaaGreatDoorUqai
import Derived.Deep.RegionWith
import Derived.Test.YtjhbplgppakhoaaGreatDoorUqaf
namespace Go.Proofs.YtjhbplgppakhoaaGreatDoor
open Go Go.RowKit Go.Maps
set_option linter.unusedVariables false
abbrev OKey := ByteArray × Int
theorem laidOk : laidOutB Tryz.prog = true := by kernel_rfl
theorem rowOk : (122 : TypeId) < Tryz.prog.types.size := of_decide_eq_true (by kernel_rfl)
theorem keyAtOk : Tryz.prog.keyTypeAt 3 122 = true := by kernel_rfl
set_option maxRecDepth 100000 in
theorem lawOkK : WideMaps.KeyLaw Tryz.prog 122 := deep_law_laid laidOk (m := 3) (by decide) rowOk keyAtOk (by kernel_rfl)
theorem lawOk : Keyed Tryz.prog 122 := Keyed.of_law lawOkK
theorem typOk : Tryz.prog.keyType 122 = true := by kernel_rfl
theorem cellsOk : Tryz.prog.cellsOf 122 = 2 := by kernel_rfl
theorem cellsStrO : Tryz.prog.cellsOf 9 = 1 := by kernel_rfl
theorem cellsSrt : Tryz.prog.cellsOf 120 = 1 := by kernel_rfl
def okk (f : OKey) : Lit := .string (keyBytes [.string f.1.data.toList, .int .i64 f.2])
theorem nTypesO : ∃ n, Tryz.prog.types.size = n + 1 := by
  have h : 122 < Tryz.prog.types.size := rowOk
  generalize Tryz.prog.types.size = m at h
  exact ⟨m - 1, by omega⟩
theorem keyOk (f : OKey) (hs : f.1.size ≤ 1000000) (h0 : 0 ≤ f.2) (h1 : f.2 ≤ 1000000) : keyOf Tryz.prog 122 (.agg #[.string f.1, .int .i64 f.2]) = some (okk f) := by
  obtain ⟨n, hn⟩ := nTypesO
  have hx : f.1.size ≤ maxLen := by unfold maxLen; omega
  have hw : (Lit.int .i64 f.2).wf = true := WalkArith.wf_i64 (by omega)
  exact keyPair Tryz.prog 122 9 120 _ _ _ rfl Tryz.underlying122 rfl rfl rfl rfl (by decide) (by decide) Tryz.underlying9 Tryz.underlying120 cellsOk cellsStrO cellsSrt typOk n hn f.1 f.2 hx hw
theorem ok_inj {f g : OKey} (hf : f.1.size ≤ 1000000 ∧ 0 ≤ f.2 ∧ f.2 ≤ 1000000) (hg : g.1.size ≤ 1000000 ∧ 0 ≤ g.2 ∧ g.2 ≤ 1000000) (h : okk f = okk g) : f = g := by
  have h1 := keyOk f hf.1 hf.2.1 hf.2.2
  have h2 := keyOk g hg.1 hg.2.1 hg.2.2
  rw [← h] at h2
  have := lawOk.inj h1 h2
  obtain ⟨f1, f2⟩ := f
  obtain ⟨g1, g2⟩ := g
  simpa using this
end Go.Proofs.YtjhbplgppakhoaaGreatDoor

namespace Go.Proofs.YtjhbplgppakhoaaGreatDoor
open Go Go.RowKit Go.Sort
set_option linter.unusedVariables false
theorem below_grow {w : World} (q : Nat) (os : Array Obj) : Below w.heap.size w (grow (w.drewN q) os) :=
  ⟨rfl, rfl, rfl, by simp [grow], fun k hk => (heap_grow_old (w.drewN q) os hk).trans rfl⟩
theorem wrap_small {x : Int} (h0 : -9223372036854775808 ≤ x) (h1 : x ≤ 9223372036854775807) : IntKind.i64.wrap x = x := by rw [IntKind.wrap_i64]; omega
set_option maxRecDepth 100000 in
set_option maxHeartbeats 1000000 in
theorem implTab_any (p : Option Addr) (c : Nat) (cs : List Cel) (w : World) (hn : cs.length + tl cs ≤ 1000000000) (hc : OIn w p cs) :
    Calls Tryz.prog 37 #[.slice p cs.length c] w fun e w' => e = .returned (.bool (tabB cs)) ∧ Below w.heap.size w w' := by
  have HC : Hid (OIn w p cs) := hc
  clear hc
  by_cases hl : cs.length ≤ 200
  · have hl' : ¬ (200 : Int) < cs.length := by omega
    have HV : Hid (tabB cs = (chainO none cs && cs.any comC)) := by show _ = _; simp [tabB, hl]
    have HF : Hid (∀ b, b = tabB cs → Ending.returned (.bool b) = .returned (.bool (tabB cs))) := fun b h => ret_bool h
    go_enter Tryz.func37, Tryz.ntmps37
    go_wp2
    clear hl'
    go_loopw [3, 11] (fun s i wr => ∃ (k : Nat) (b : Bool), k ≤ cs.length ∧ s = .bool b ∧ i = .int .i64 k ∧ Hid (tabB cs = (chainO (befO cs k) (cs.drop k) && (b || (cs.drop k).any comC))) ∧ Hid (Below w.heap.size w wr)) (fun _ i _ => cs.length - (intOf i).toNat)
    case atStart => exact ⟨0, false, Nat.zero_le _, rfl, rfl, by show _ = _; rw [HV.out]; simp [befO], Below.refl _ _⟩
    case round =>
      obtain ⟨k, b, hk, rfl, rfl, HQ, HB⟩ := hrel
      by_cases hlt : k < cs.length
      · obtain ⟨g, o, rfl, hcs⟩ := HC.out (by omega)
        have hat := (hcs k hlt).below HB.out
        have hpr : 0 < k → OAt wr g (o + (k - 1) * 3) (cs.getD (k - 1) Cel.none) := fun h => (hcs (k - 1) (by omega)).below HB.out
        have hbe : 0 < k → befO cs k = some (cs.getD (k - 1) Cel.none) := fun h => by simp [befO]; omega
        have hb0 : k = 0 → befO cs k = none := fun h => by simp [befO, h]
        have hlk := tl_at cs k hlt
        have hlp : 0 < k → (cs.getD (k - 1) Cel.none).2.2.length ≤ tl cs := fun h => tl_at cs (k - 1) (by omega)
        have HD : Hid (tabB cs = ((okC (cs.getD k Cel.none) && (match befO cs k with | none => true | some x => ltO x (cs.getD k Cel.none)) && chainO (befO cs (k + 1)) (cs.drop (k + 1))) && (b || (comC (cs.getD k Cel.none) || (cs.drop (k + 1)).any comC)))) := by
          show _ = _
          rw [HQ.out, chainO_at cs k hlt, drop_at cs k hlt]; rfl
        obtain ⟨x, ex⟩ : ∃ x, x = cs.getD k Cel.none := ⟨_, rfl⟩
        obtain ⟨y, ey⟩ : ∃ y, y = cs.getD (k - 1) Cel.none := ⟨_, rfl⟩
        rw [← ex] at hat HD hlk
        rw [← ey] at hpr hbe hlp
        obtain ⟨q, qc, h0, h1, h2, h3⟩ := hat
        obtain ⟨x0, x1, x2⟩ := x
        simp only at h0 h1 h2 h3 hlk
        have hW : Below wr.heap.size wr (wr.alloc (Obj.cells #[.slice q x2.length qc, .int .i64 x0, .int .i64 x1] 69)) := (Below.refl _ _).alloc (Nat.le_refl _) _
        have HI : Hid (∀ W, Below wr.heap.size wr W → Calls Tryz.prog 66 #[.agg #[.slice q x2.length qc, .int .i64 x0, .int .i64 x1]] W fun e w' => e = .returned (.bool (okC (x0, x1, x2))) ∧ Below W.heap.size W w') := fun W hB => isOp_any x0 x1 q x2.length qc x2 W rfl (by omega) (h3.below hB)
        have HCV : Hid (∀ W, Below wr.heap.size wr W → (convert 28 9 (.slice q x2.length qc)).run Tryz.prog W = .ok (.string (strOfNums x2)) W) := fun W hB => conv_str (h3.below hB) x2.length qc rfl 9 Tryz.underlying9
        have HB0 : Hid (Below w.heap.size w (wr.alloc (Obj.cells #[.slice q x2.length qc, .int .i64 x0, .int .i64 x1] 69))) := Below.on HB.out hW
        have HW : Hid _ := hW
        have G : Box3 (wr.alloc (Obj.cells #[.slice q x2.length qc, .int .i64 x0, .int .i64 x1] 69)) wr.heap.size (.slice q x2.length qc) (.int .i64 x0) (.int .i64 x1) := Box3.of_block (t := 69) (heap_alloc_new _ _)
        obtain ⟨c0, c1, c2, _⟩ := G
        have HOK : Hid (okC (x0, x1, x2) = okC (x0, x1, x2)) := rfl
        have HCO : Hid (comC (x0, x1, x2) = ((strOfNums x2).toList == [44])) := rfl
        have HXX : Hid ((x0, x1, x2) = cs.getD k Cel.none) := ex
        clear ex hlk
        obtain ⟨l2, el2⟩ : ∃ l, l = x2.length := ⟨_, rfl⟩
        rw [← el2] at h2 HI HCV HB0 HW c0 c1 c2 hW
        have HL2 : Hid (l2 = x2.length) := el2
        clear el2 hW
        obtain ⟨sx, esx⟩ : ∃ s, s = strOfNums x2 := ⟨_, rfl⟩
        rw [← esx] at HCV HCO
        have HSX : Hid _ := esx
        clear esx
        cases hok : okC (x0, x1, x2) with
        | false =>
          rw [hok] at HI HD
          have HZ : Hid (tabB cs = false) := by show _ = _; rw [HD.out]; simp
          clear hok hcs hpr hbe hb0 hlp h3 HC HV HQ HD HCV HCO HSX HL2 HXX HOK
          go_wp2_with fail
          refine wp_region_held_drew (S := fun W => W.cell? ⟨wr.heap.size, 0, none⟩ = some (.slice q l2 qc) ∧ W.cell? ⟨wr.heap.size, 1, none⟩ = some (.int .i64 x0) ∧ W.cell? ⟨wr.heap.size, 2, none⟩ = some (.int .i64 x1)) (by kernel_rfl) ?_ (fun hHeld => ?_)
          · exact ⟨c0, c1, c2⟩
          refine hTake (i := 0) (v := .agg #[.slice q l2 qc, .int .i64 x0, .int .i64 x1]) (some 16) (by kernel_rfl) (by kernel_rfl) (by kernel_rfl) (by kernel_rfl) (by kernel_rfl) (fun _ _ _ h => h) (fun o ho W hSw => ?y0) (by assumption) ?_
          case y0 =>
            cases ho
            simp [execOp, go_sem, Act.eval, hSw.1, hSw.2.1, hSw.2.2]
          simp only [Act.put, zzA, zzB, zzC]
          refine hCall (i := 1) (some 17) (by kernel_rfl) (by kernel_rfl) (by kernel_rfl) (fun o ho => ?y1) (HI.out _ HW.out.drew) ?_
          case y1 =>
            cases ho
            simp [execOp, go_sem, Act.eval]
          intro w1 hb1
          have kk : w1.cell? ⟨wr.heap.size, 0, none⟩ = some (.slice q l2 qc) ∧ w1.cell? ⟨wr.heap.size, 1, none⟩ = some (.int .i64 x0) ∧ w1.cell? ⟨wr.heap.size, 2, none⟩ = some (.int .i64 x1) := ⟨(hb1.cell (p := ⟨_, _, none⟩) (by simp)).trans c0, (hb1.cell (p := ⟨_, _, none⟩) (by simp)).trans c1, (hb1.cell (p := ⟨_, _, none⟩) (by simp)).trans c2⟩
          refine ⟨kk, ?_⟩
          clear hHeld
          simp only [Act.put, zzA, zzB, zzC]
          refine hTake (i := 2) (v := .bool true) (some 18) (by kernel_rfl) (by kernel_rfl) (by kernel_rfl) (by kernel_rfl) (by kernel_rfl) (fun _ _ _ h => h) (fun o ho W hSw => ?y2) (by assumption) ?_
          case y2 =>
            cases ho
            simp [execOp, go_sem, Act.eval]
          simp only [Act.put, zzA, zzB, zzC]
          refine hTake (i := 3) (v := .bool true) (some 19) (by kernel_rfl) (by kernel_rfl) (by kernel_rfl) (by kernel_rfl) (by kernel_rfl) (fun _ _ _ h => h) (fun o ho W hSw => ?y3) (by assumption) ?_
          case y3 =>
            cases ho
            simp [execOp, go_sem, Act.eval]
          simp only [Act.put, zzA, zzB, zzC]
          refine hSkip (i := 4) (some 20) (by kernel_rfl) (by kernel_rfl) (by kernel_rfl) (by kernel_rfl) (by kernel_rfl) (fun _ _ _ h => h) (by assumption) ?_
          simp only [Act.put, zzA, zzB, zzC]
          refine hSkip (i := 5) (some 21) (by kernel_rfl) (by kernel_rfl) (by kernel_rfl) (by kernel_rfl) (by kernel_rfl) (fun _ _ _ h => h) (by assumption) ?_
          simp only [Act.put, zzA, zzB, zzC]
          refine hSkip (i := 6) (some 22) (by kernel_rfl) (by kernel_rfl) (by kernel_rfl) (by kernel_rfl) (by kernel_rfl) (fun _ _ _ h => h) (by assumption) ?_
          simp only [Act.put, zzA, zzB, zzC]
          refine hSkip (i := 7) (some 23) (by kernel_rfl) (by kernel_rfl) (by kernel_rfl) (by kernel_rfl) (by kernel_rfl) (fun _ _ _ h => h) (by assumption) ?_
          simp only [Act.put, zzA, zzB, zzC]
          refine hSkip (i := 8) (some 24) (by kernel_rfl) (by kernel_rfl) (by kernel_rfl) (by kernel_rfl) (by kernel_rfl) (fun _ _ _ h => h) (by assumption) ?_
          simp only [Act.put, zzA, zzB, zzC]
          refine hSkip (i := 9) (some 25) (by kernel_rfl) (by kernel_rfl) (by kernel_rfl) (by kernel_rfl) (by kernel_rfl) (fun _ _ _ h => h) (by assumption) ?_
          simp only [Act.put, zzA, zzB, zzC]
          refine hSkip (i := 10) (some 26) (by kernel_rfl) (by kernel_rfl) (by kernel_rfl) (by kernel_rfl) (by kernel_rfl) (fun _ _ _ h => h) (by assumption) ?_
          simp only [Act.put, zzA, zzB, zzC]
          refine hSkip (i := 11) (some 27) (by kernel_rfl) (by kernel_rfl) (by kernel_rfl) (by kernel_rfl) (by kernel_rfl) (fun _ _ _ h => h) (by assumption) ?_
          simp only [Act.put, zzA, zzB, zzC]
          refine hSkip (i := 12) (some 28) (by kernel_rfl) (by kernel_rfl) (by kernel_rfl) (by kernel_rfl) (by kernel_rfl) (fun _ _ _ h => h) (by assumption) ?_
          simp only [Act.put, zzA, zzB, zzC]
          refine hSkip (i := 13) (some 29) (by kernel_rfl) (by kernel_rfl) (by kernel_rfl) (by kernel_rfl) (by kernel_rfl) (fun _ _ _ h => h) (by assumption) ?_
          simp only [Act.put, zzA, zzB, zzC]
          refine hSkip (i := 14) (some 30) (by kernel_rfl) (by kernel_rfl) (by kernel_rfl) (by kernel_rfl) (by kernel_rfl) (fun _ _ _ h => h) (by assumption) ?_
          simp only [Act.put, zzA, zzB, zzC]
          refine hSkip (i := 15) (some 31) (by kernel_rfl) (by kernel_rfl) (by kernel_rfl) (by kernel_rfl) (by kernel_rfl) (fun _ _ _ h => h) (by assumption) ?_
          simp only [Act.put, zzA, zzB, zzC]
          refine hTake (i := 16) (v := .bool true) (some 32) (by kernel_rfl) (by kernel_rfl) (by kernel_rfl) (by kernel_rfl) (by kernel_rfl) (fun _ _ _ h => h) (fun o ho W hSw => ?y16) (by assumption) ?_
          case y16 =>
            cases ho
            simp [execOp, go_sem, Act.eval]
          simp only [Act.put, zzA, zzB, zzC]
          refine wpAnyH_done (by kernel_rfl) ?_ _
          all_goals go_wp2_with fail
          all_goals go_ret
          all_goals exact ⟨HF.out _ HZ.out.symm, (HB0.out.drew).trans (hb1.mono (Nat.le_trans HB.out.size (by simp)))⟩
        | true =>
          rw [hok] at HI HD
          clear hok HOK
          by_cases hk0 : k = 0
          · subst hk0
            have e0 := hb0 rfl
            simp only [Nat.zero_mul, Nat.add_zero] at h0 h1 h2
            rw [e0] at HD
            have HZ : Hid (tabB cs = (chainO (befO cs 1) (cs.drop 1) && ((b || (sx.toList == [44])) || (cs.drop 1).any comC))) := by
              show _ = _
              rw [HD.out, HCO.out]; simp [Bool.or_assoc]
            clear e0 hcs hpr hbe hb0 hlp h3 HC HV HQ HD HCO HSX HL2 HXX
            go_wp2_with fail
            refine wp_region_held_drew (S := fun W => W.cell? ⟨wr.heap.size, 0, none⟩ = some (.slice q l2 qc) ∧ W.cell? ⟨wr.heap.size, 1, none⟩ = some (.int .i64 x0) ∧ W.cell? ⟨wr.heap.size, 2, none⟩ = some (.int .i64 x1)) (by kernel_rfl) ?_ (fun hHeld => ?_)
            · exact ⟨c0, c1, c2⟩
            refine hTake (i := 0) (v := .agg #[.slice q l2 qc, .int .i64 x0, .int .i64 x1]) (some 16) (by kernel_rfl) (by kernel_rfl) (by kernel_rfl) (by kernel_rfl) (by kernel_rfl) (fun _ _ _ h => h) (fun o ho W hSw => ?y0) (by assumption) ?_
            case y0 =>
              cases ho
              simp [execOp, go_sem, Act.eval, hSw.1, hSw.2.1, hSw.2.2]
            simp only [Act.put, zzA, zzB, zzC]
            refine hCall (i := 1) (some 17) (by kernel_rfl) (by kernel_rfl) (by kernel_rfl) (fun o ho => ?y1) (HI.out _ HW.out.drew) ?_
            case y1 =>
              cases ho
              simp [execOp, go_sem, Act.eval]
            intro w1 hb1
            have kk : w1.cell? ⟨wr.heap.size, 0, none⟩ = some (.slice q l2 qc) ∧ w1.cell? ⟨wr.heap.size, 1, none⟩ = some (.int .i64 x0) ∧ w1.cell? ⟨wr.heap.size, 2, none⟩ = some (.int .i64 x1) := ⟨(hb1.cell (p := ⟨_, _, none⟩) (by simp)).trans c0, (hb1.cell (p := ⟨_, _, none⟩) (by simp)).trans c1, (hb1.cell (p := ⟨_, _, none⟩) (by simp)).trans c2⟩
            refine ⟨kk, ?_⟩
            clear hHeld
            simp only [Act.put, zzA, zzB, zzC]
            refine hTake (i := 2) (v := .bool false) (some 18) (by kernel_rfl) (by kernel_rfl) (by kernel_rfl) (by kernel_rfl) (by kernel_rfl) (fun _ _ _ h => h) (fun o ho W hSw => ?y2) (by assumption) ?_
            case y2 =>
              cases ho
              simp [execOp, go_sem, Act.eval]
            simp only [Act.put, zzA, zzB, zzC]
            refine hTake (i := 3) (v := .bool false) (some 19) (by kernel_rfl) (by kernel_rfl) (by kernel_rfl) (by kernel_rfl) (by kernel_rfl) (fun _ _ _ h => h) (fun o ho W hSw => ?y3) (by assumption) ?_
            case y3 =>
              cases ho
              simp [execOp, go_sem, Act.eval]
            simp only [Act.put, zzA, zzB, zzC]
            refine hTake (i := 4) (v := .int .i64 0) (some 20) (by kernel_rfl) (by kernel_rfl) (by kernel_rfl) (by kernel_rfl) (by kernel_rfl) (fun _ _ _ h => h) (fun o ho W hSw => ?y4) (by assumption) ?_
            case y4 =>
              cases ho
              simp [execOp, go_sem, Act.eval]
            simp only [Act.put, zzA, zzB, zzC]
            refine hTake (i := 5) (v := .bool false) (some 21) (by kernel_rfl) (by kernel_rfl) (by kernel_rfl) (by kernel_rfl) (by kernel_rfl) (fun _ _ _ h => h) (fun o ho W hSw => ?y5) (by assumption) ?_
            case y5 =>
              cases ho
              simp [execOp, go_sem, Act.eval]
            simp only [Act.put, zzA, zzB, zzC]
            refine hTake (i := 6) (v := .bool false) (some 22) (by kernel_rfl) (by kernel_rfl) (by kernel_rfl) (by kernel_rfl) (by kernel_rfl) (fun _ _ _ h => h) (fun o ho W hSw => ?y6) (by assumption) ?_
            case y6 =>
              cases ho
              simp [execOp, go_sem, Act.eval]
            simp only [Act.put, zzA, zzB, zzC]
            refine hSkip (i := 7) (some 23) (by kernel_rfl) (by kernel_rfl) (by kernel_rfl) (by kernel_rfl) (by kernel_rfl) (fun _ _ _ h => h) (by assumption) ?_
            simp only [Act.put, zzA, zzB, zzC]
            refine hSkip (i := 8) (some 24) (by kernel_rfl) (by kernel_rfl) (by kernel_rfl) (by kernel_rfl) (by kernel_rfl) (fun _ _ _ h => h) (by assumption) ?_
            simp only [Act.put, zzA, zzB, zzC]
            refine hSkip (i := 9) (some 25) (by kernel_rfl) (by kernel_rfl) (by kernel_rfl) (by kernel_rfl) (by kernel_rfl) (fun _ _ _ h => h) (by assumption) ?_
            simp only [Act.put, zzA, zzB, zzC]
            refine hSkip (i := 10) (some 26) (by kernel_rfl) (by kernel_rfl) (by kernel_rfl) (by kernel_rfl) (by kernel_rfl) (fun _ _ _ h => h) (by assumption) ?_
            simp only [Act.put, zzA, zzB, zzC]
            refine hSkip (i := 11) (some 27) (by kernel_rfl) (by kernel_rfl) (by kernel_rfl) (by kernel_rfl) (by kernel_rfl) (fun _ _ _ h => h) (by assumption) ?_
            simp only [Act.put, zzA, zzB, zzC]
            refine hSkip (i := 12) (some 28) (by kernel_rfl) (by kernel_rfl) (by kernel_rfl) (by kernel_rfl) (by kernel_rfl) (fun _ _ _ h => h) (by assumption) ?_
            simp only [Act.put, zzA, zzB, zzC]
            refine hSkip (i := 13) (some 29) (by kernel_rfl) (by kernel_rfl) (by kernel_rfl) (by kernel_rfl) (by kernel_rfl) (fun _ _ _ h => h) (by assumption) ?_
            simp only [Act.put, zzA, zzB, zzC]
            refine hSkip (i := 14) (some 30) (by kernel_rfl) (by kernel_rfl) (by kernel_rfl) (by kernel_rfl) (by kernel_rfl) (fun _ _ _ h => h) (by assumption) ?_
            simp only [Act.put, zzA, zzB, zzC]
            refine hTake (i := 15) (v := .bool false) (some 31) (by kernel_rfl) (by kernel_rfl) (by kernel_rfl) (by kernel_rfl) (by kernel_rfl) (fun _ _ _ h => h) (fun o ho W hSw => ?y15) (by assumption) ?_
            case y15 =>
              cases ho
              simp [execOp, go_sem, Act.eval]
            simp only [Act.put, zzA, zzB, zzC]
            refine hTake (i := 16) (v := .bool false) (some 32) (by kernel_rfl) (by kernel_rfl) (by kernel_rfl) (by kernel_rfl) (by kernel_rfl) (fun _ _ _ h => h) (fun o ho W hSw => ?y16) (by assumption) ?_
            case y16 =>
              cases ho
              simp [execOp, go_sem, Act.eval]
            simp only [Act.put, zzA, zzB, zzC]
            refine wpAnyH_done (by kernel_rfl) ?_ _
            all_goals
              have HB1 : Hid (Below w.heap.size w w1) := (HB0.out.drew).trans (hb1.mono (Nat.le_trans HB.out.size (by simp)))
              have cv := HCV.out w1 (HW.out.drew.trans (hb1.mono (by simp)))
              obtain ⟨k0, k1, k2⟩ := kk
              clear hb1 HI HCV HW HB0 c0 c1 c2
              cases b with
              | true =>
                go_wp2_with fail
                go_roundw
                case rel => exact ⟨1, true, by omega, by go_num, by go_num, by show _ = _; rw [HZ.out]; simp, HB1⟩
                case measure => simp [intOf]; omega
              | false =>
                go_wp2_with fail
                go_roundw
                case rel => exact ⟨1, sx.toList == [44], by omega, by go_num, by go_num, by show _ = _; rw [HZ.out]; simp, HB1⟩
                case measure => simp [intOf]; omega
          · obtain ⟨j, ej⟩ : ∃ j, k = j + 1 := ⟨k - 1, by omega⟩
            have hkj : ((k : Int) - 1) = (j : Int) := by omega
            have hk1 : 0 < k := by omega
            have hkd : decide (0 < k) = true := by simp; omega
            have hjl : j < cs.length := by omega
            have hjl' : (j : Int) < (cs.length : Int) := by omega
            have hj0 : (0 : Int) ≤ (j : Int) := by omega
            have hwrap : IntKind.i64.wrap ((k : Int) - 1) = (j : Int) := by rw [hkj]; exact wrap_small (by omega) (by omega)
            clear hkj
            have e0 := hbe (by omega)
            have hpj := hpr (by omega)
            have hlj := hlp (by omega)
            rw [e0] at HD
            rw [show k - 1 = j by omega] at hpj
            obtain ⟨r, rc, d1, d2, d0, d3⟩ := hpj
            obtain ⟨y0, y1, y2⟩ := y
            simp only at d0 d1 d2 d3 hlj HD
            have hg0 : g < wr.heap.size := World.block_lt_of_cell? _ _ d0
            have HCM : Hid (∀ W, Below wr.heap.size wr W → Calls Tryz.prog 67 #[.agg #[.slice r y2.length rc, .int .i64 y0, .int .i64 y1], .agg #[.slice q l2 qc, .int .i64 x0, .int .i64 x1]] W fun e w' => e = .returned (.int .i64 (opCmp (y0, y1, y2) (x0, x1, x2))) ∧ ∃ q os', w' = grow (W.drewN q) os') := fun W hB => compareOps_any y0 y1 x0 x1 r q y2.length l2 rc qc y2 x2 W rfl HL2.out (d3.below hB) (h3.below hB)
            obtain ⟨m2, em2⟩ : ∃ l, l = y2.length := ⟨_, rfl⟩
            rw [← em2] at HCM d0
            have HLT : Hid (ltO (y0, y1, y2) (x0, x1, x2) = decide (opCmp (y0, y1, y2) (x0, x1, x2) < 0)) := rfl
            generalize opCmp (y0, y1, y2) (x0, x1, x2) = oc at HCM HLT
            have hW3 : Below wr.heap.size wr (wr.alloc (Obj.cells #[.slice q l2 qc, .int .i64 x0, .int .i64 x1] 69)) := HW.out
            have d0 := (hW3.cell (p := ⟨_, _, none⟩) hg0).trans d0
            have d1 := (hW3.cell (p := ⟨_, _, none⟩) hg0).trans d1
            have d2 := (hW3.cell (p := ⟨_, _, none⟩) hg0).trans d2
            have hg0 : g < (wr.alloc (Obj.cells #[.slice q l2 qc, .int .i64 x0, .int .i64 x1] 69)).heap.size := by simp; omega
            have HEJ : Hid (k = j + 1) := ej
            clear e0 hpr hbe hb0 hlp h3 HC HV HQ HSX HL2 HXX hcs em2 d3 ey hW3 ej hk0 hlj
            by_cases hoc : oc < 0
            · have hoc' : decide (0 ≤ oc) = false := by simp; omega
              have HZ : Hid (tabB cs = (chainO (befO cs (k + 1)) (cs.drop (k + 1)) && ((b || (sx.toList == [44])) || (cs.drop (k + 1)).any comC))) := by
                show _ = _
                rw [HD.out, HLT.out, HCO.out]; simp [hoc, Bool.or_assoc]
              clear HD HLT HCO
              go_wp2_with fail
              go_region_held3 (fun W => (W.cell? ⟨wr.heap.size, 0, none⟩ = some (.slice q l2 qc) ∧ W.cell? ⟨wr.heap.size, 1, none⟩ = some (.int .i64 x0) ∧ W.cell? ⟨wr.heap.size, 2, none⟩ = some (.int .i64 x1)) ∧ W.cell? ⟨g, o + j * 3, none⟩ = some (.slice r m2 rc) ∧ W.cell? ⟨g, o + j * 3 + 1, none⟩ = some (.int .i64 y0) ∧ W.cell? ⟨g, o + j * 3 + 2, none⟩ = some (.int .i64 y1)) (first | exact kk2 | exact kk | go_keep)
                (first | (go_at_call 66; refine (HI.out _ HW.out.drew).mono ?_; rintro e w1 ⟨rfl, hb1⟩; have kk : (w1.cell? ⟨wr.heap.size, 0, none⟩ = some (.slice q l2 qc) ∧ w1.cell? ⟨wr.heap.size, 1, none⟩ = some (.int .i64 x0) ∧ w1.cell? ⟨wr.heap.size, 2, none⟩ = some (.int .i64 x1)) ∧ w1.cell? ⟨g, o + j * 3, none⟩ = some (.slice r m2 rc) ∧ w1.cell? ⟨g, o + j * 3 + 1, none⟩ = some (.int .i64 y0) ∧ w1.cell? ⟨g, o + j * 3 + 2, none⟩ = some (.int .i64 y1) := ⟨⟨(hb1.cell (p := ⟨_, _, none⟩) (by simp)).trans c0, (hb1.cell (p := ⟨_, _, none⟩) (by simp)).trans c1, (hb1.cell (p := ⟨_, _, none⟩) (by simp)).trans c2⟩, ⟨(hb1.cell (p := ⟨_, _, none⟩) hg0).trans d0, (hb1.cell (p := ⟨_, _, none⟩) hg0).trans d1, (hb1.cell (p := ⟨_, _, none⟩) hg0).trans d2⟩⟩) | (go_at_call 67; refine (HCM.out _ (HW.out.drew.trans (hb1.mono (by simp)))).mono ?_; rintro e w2 ⟨rfl, q2, os2, rfl⟩; have kk2 : ((grow (w1.drewN q2) os2).cell? ⟨wr.heap.size, 0, none⟩ = some (.slice q l2 qc) ∧ (grow (w1.drewN q2) os2).cell? ⟨wr.heap.size, 1, none⟩ = some (.int .i64 x0) ∧ (grow (w1.drewN q2) os2).cell? ⟨wr.heap.size, 2, none⟩ = some (.int .i64 x1)) ∧ (grow (w1.drewN q2) os2).cell? ⟨g, o + j * 3, none⟩ = some (.slice r m2 rc) ∧ (grow (w1.drewN q2) os2).cell? ⟨g, o + j * 3 + 1, none⟩ = some (.int .i64 y0) ∧ (grow (w1.drewN q2) os2).cell? ⟨g, o + j * 3 + 2, none⟩ = some (.int .i64 y1) := ⟨⟨((below_grow q2 os2).cell (World.block_lt_of_cell? _ _ kk.1.1)).trans kk.1.1, ((below_grow q2 os2).cell (World.block_lt_of_cell? _ _ kk.1.2.1)).trans kk.1.2.1, ((below_grow q2 os2).cell (World.block_lt_of_cell? _ _ kk.1.2.2)).trans kk.1.2.2⟩, ((below_grow q2 os2).cell (World.block_lt_of_cell? _ _ kk.2.1)).trans kk.2.1, ((below_grow q2 os2).cell (World.block_lt_of_cell? _ _ kk.2.2.1)).trans kk.2.2.1, ((below_grow q2 os2).cell (World.block_lt_of_cell? _ _ kk.2.2.2)).trans kk.2.2.2⟩))
              all_goals
                have HB1 : Hid (Below w.heap.size w (grow (w1.drewN q2) os2)) := ((HB0.out.drew).trans (hb1.mono (Nat.le_trans HB.out.size (by simp)))).trans ((below_grow q2 os2).mono (Nat.le_trans HB.out.size (Nat.le_trans (by simp) hb1.size)))
                have cv := HCV.out _ (HW.out.drew.trans ((hb1.trans ((below_grow q2 os2).mono hb1.size)).mono (by simp)))
                obtain ⟨⟨k0, k1, k2⟩, _⟩ := kk2
                clear kk hb1 HI HCM HCV HW HB0 c0 c1 c2 d0 d1 d2 hg0
                revert HB1 cv k0 k1 k2
                generalize grow (w1.drewN q2) os2 = w3
                intro HB1 cv k0 k1 k2
                cases b with
                | true =>
                  go_wp2_with fail
                  go_roundw
                  case rel => exact ⟨k + 1, true, by omega, by go_num, by go_num, by show _ = _; rw [HZ.out]; simp, HB1⟩
                  case measure => simp [intOf]; omega
                | false =>
                  go_wp2_with fail
                  go_roundw
                  case rel => exact ⟨k + 1, sx.toList == [44], by omega, by go_num, by go_num, by show _ = _; rw [HZ.out]; simp, HB1⟩
                  case measure => simp [intOf]; omega
            · have hoc' : decide (0 ≤ oc) = true := by simp; omega
              have HZ : Hid (tabB cs = false) := by
                show _ = _
                rw [HD.out, HLT.out]; simp [hoc]
              clear HD HLT HCO HCV
              go_wp2_with fail
              go_region_held3 (fun W => (W.cell? ⟨wr.heap.size, 0, none⟩ = some (.slice q l2 qc) ∧ W.cell? ⟨wr.heap.size, 1, none⟩ = some (.int .i64 x0) ∧ W.cell? ⟨wr.heap.size, 2, none⟩ = some (.int .i64 x1)) ∧ W.cell? ⟨g, o + j * 3, none⟩ = some (.slice r m2 rc) ∧ W.cell? ⟨g, o + j * 3 + 1, none⟩ = some (.int .i64 y0) ∧ W.cell? ⟨g, o + j * 3 + 2, none⟩ = some (.int .i64 y1)) (first | exact kk2 | exact kk | go_keep)
                (first | (go_at_call 66; refine (HI.out _ HW.out.drew).mono ?_; rintro e w1 ⟨rfl, hb1⟩; have kk : (w1.cell? ⟨wr.heap.size, 0, none⟩ = some (.slice q l2 qc) ∧ w1.cell? ⟨wr.heap.size, 1, none⟩ = some (.int .i64 x0) ∧ w1.cell? ⟨wr.heap.size, 2, none⟩ = some (.int .i64 x1)) ∧ w1.cell? ⟨g, o + j * 3, none⟩ = some (.slice r m2 rc) ∧ w1.cell? ⟨g, o + j * 3 + 1, none⟩ = some (.int .i64 y0) ∧ w1.cell? ⟨g, o + j * 3 + 2, none⟩ = some (.int .i64 y1) := ⟨⟨(hb1.cell (p := ⟨_, _, none⟩) (by simp)).trans c0, (hb1.cell (p := ⟨_, _, none⟩) (by simp)).trans c1, (hb1.cell (p := ⟨_, _, none⟩) (by simp)).trans c2⟩, ⟨(hb1.cell (p := ⟨_, _, none⟩) hg0).trans d0, (hb1.cell (p := ⟨_, _, none⟩) hg0).trans d1, (hb1.cell (p := ⟨_, _, none⟩) hg0).trans d2⟩⟩) | (go_at_call 67; refine (HCM.out _ (HW.out.drew.trans (hb1.mono (by simp)))).mono ?_; rintro e w2 ⟨rfl, q2, os2, rfl⟩; have kk2 : ((grow (w1.drewN q2) os2).cell? ⟨wr.heap.size, 0, none⟩ = some (.slice q l2 qc) ∧ (grow (w1.drewN q2) os2).cell? ⟨wr.heap.size, 1, none⟩ = some (.int .i64 x0) ∧ (grow (w1.drewN q2) os2).cell? ⟨wr.heap.size, 2, none⟩ = some (.int .i64 x1)) ∧ (grow (w1.drewN q2) os2).cell? ⟨g, o + j * 3, none⟩ = some (.slice r m2 rc) ∧ (grow (w1.drewN q2) os2).cell? ⟨g, o + j * 3 + 1, none⟩ = some (.int .i64 y0) ∧ (grow (w1.drewN q2) os2).cell? ⟨g, o + j * 3 + 2, none⟩ = some (.int .i64 y1) := ⟨⟨((below_grow q2 os2).cell (World.block_lt_of_cell? _ _ kk.1.1)).trans kk.1.1, ((below_grow q2 os2).cell (World.block_lt_of_cell? _ _ kk.1.2.1)).trans kk.1.2.1, ((below_grow q2 os2).cell (World.block_lt_of_cell? _ _ kk.1.2.2)).trans kk.1.2.2⟩, ((below_grow q2 os2).cell (World.block_lt_of_cell? _ _ kk.2.1)).trans kk.2.1, ((below_grow q2 os2).cell (World.block_lt_of_cell? _ _ kk.2.2.1)).trans kk.2.2.1, ((below_grow q2 os2).cell (World.block_lt_of_cell? _ _ kk.2.2.2)).trans kk.2.2.2⟩))
              all_goals go_wp2_with fail
              all_goals go_ret
              all_goals exact ⟨HF.out _ HZ.out.symm, ((HB0.out.drew).trans (hb1.mono (Nat.le_trans HB.out.size (by simp)))).trans ((below_grow q2 os2).mono (Nat.le_trans HB.out.size (Nat.le_trans (by simp) hb1.size)))⟩
      · obtain rfl : k = cs.length := by omega
        have HQ' : Hid (tabB cs = b) := by
          have := HQ.out
          rw [List.drop_length] at this
          show _ = _
          simpa [chainO] using this
        clear HQ HC HV
        go_wp2
        go_ret
        exact ⟨HF.out _ HQ'.out.symm, HB.out⟩
  · have hl' : (200 : Int) < cs.length := by omega
    have hv : tabB cs = false := by simp [tabB]; omega
    rw [hv]
    clear hv
    go_enter Tryz.func37, Tryz.ntmps37
    go_wp2
    go_ret
    exact ⟨rfl, Below.refl _ _⟩
end Go.Proofs.YtjhbplgppakhoaaGreatDoor

namespace Go.Proofs.YtjhbplgppakhoaaGreatDoor
open Go Go.RowKit Go.Maps
set_option linter.unusedVariables false
def kO (c : Cel) : OKey := (strOfNums c.2.2, srt c.2.1)
theorem kO_key {x y : Cel} : kO x = kO y ↔ keyC x = keyC y := by
  constructor
  · intro h
    have h1 := (Prod.mk.inj h).1
    have h2 := (Prod.mk.inj h).2
    rw [keyC, keyC, h1, h2]
  · intro h
    exact Prod.ext (ba_ext (Prod.mk.inj h).1) (Prod.mk.inj h).2
def opElem (v : Value) : Option (DataW Unit × List MemPlace) :=
  match v with
  | .agg ⟨[.string s, .int .i64 p, .int .i64 t]⟩ => some (.agg [.lit (.string s.data.toList), .lit (.int .i64 p), .lit (.int .i64 t)], [])
  | _ => none
def encV (c : Cel) : Value := .agg #[.string (strOfNums c.2.2), .int .i64 c.1, .int .i64 c.2.1]
def encD (c : Cel) : DataW Unit := .agg [.lit (.string (strOfNums c.2.2).data.toList), .lit (.int .i64 c.1), .lit (.int .i64 c.2.1)]
theorem opElem_enc (c : Cel) : opElem (encV c) = some (encD c, []) := rfl
theorem opElem_inv {v : Value} {y : DataW Unit × List MemPlace} (h : opElem v = some y) : ∃ x : ByteArray × Int × Int, v = .agg #[.string x.1, .int .i64 x.2.1, .int .i64 x.2.2] ∧ y = (.agg [.lit (.string x.1.data.toList), .lit (.int .i64 x.2.1), .lit (.int .i64 x.2.2)], []) := by
  unfold opElem at h
  split at h
  · rename_i s p t
    exact ⟨(s, p, t), rfl, (Option.some.inj h).symm⟩
  · cases h
theorem opElem_at {v : Value} {c : Cel} {ps : List MemPlace} (h : opElem v = some (encD c, ps)) : v = encV c := by
  obtain ⟨x, rfl, hy⟩ := opElem_inv h
  have h1 := congrArg Prod.fst hy
  simp only [encD, DataW.agg.injEq, List.cons.injEq, DataW.lit.injEq, Lit.string.injEq, Lit.int.injEq, and_true, true_and] at h1
  have e : x.1 = strOfNums c.2.2 := ba_ext (by rw [ByteArray.toList_eq, ByteArray.toList_eq]; exact h1.1.symm)
  rw [encV, e, h1.2.1, h1.2.2]
def zD : DataW Unit := .agg [.lit (.string []), .lit (.int .i64 0), .lit (.int .i64 0)]
def okT (c : Cel) : Prop := Byte c.2.2 ∧ c.2.2.length ≤ 1000000
def Apart (T : List Cel) : Prop := T.Pairwise (fun x y => keyC x ≠ keyC y)
def OpMap (w : World) (b N : Nat) (T : List Cel) : Prop := ∃ D : DataW Unit, w.ownsMap Tryz.prog 122 opElem b N D ∧ (∀ c ∈ T, okT c) ∧ Apart T ∧ Maps.size D = T.length ∧
  (∀ (f : OKey) l, keyOf Tryz.prog 122 (.agg #[.string f.1, .int .i64 f.2]) = some l → (Maps.has D l = true ↔ ∃ c ∈ T, kO c = f)) ∧ (∀ c ∈ T, D.atKey (okk (kO c)) zD = encD c)
theorem OpMap.lt {w : World} {b N : Nat} {T : List Cel} (h : OpMap w b N T) : b < w.heap.size := by obtain ⟨D, h, _⟩ := h; exact h.lt
theorem OpMap.of_block {w w' : World} {b N : Nat} {T : List Cel} (h : OpMap w b N T) (hb : w'.heap[b]? = w.heap[b]?) : OpMap w' b N T := by
  obtain ⟨D, ⟨es, clock, h1, r⟩, h2⟩ := h
  exact ⟨D, ⟨es, clock, hb.trans h1, r⟩, h2⟩
theorem OpMap.below {w w' : World} {b N : Nat} {T : List Cel} (h : OpMap w b N T) (hb : Below w.heap.size w w') : OpMap w' b N T := h.of_block (hb.block _ h.lt)
theorem OpMap.made (w : World) : OpMap (w.alloc (.map #[] 0)) w.heap.size 0 [] := ⟨_, World.ownsMap_made _ _ _ _, fun _ h => by simp at h, List.Pairwise.nil, rfl, fun f l _ => ⟨fun h => by simp [Maps.has] at h, fun ⟨c, h, _⟩ => by cases h⟩, fun x hx => by cases hx⟩
theorem okk_lit (f : OKey) : WideAt.IsKeyLit (okk f) := trivial
theorem srt_range (t : Int) : 0 ≤ srt t ∧ srt t ≤ 1000000 := by rcases srt_two t with h | h <;> omega
theorem kO_ok {c : Cel} (h : okT c) : (kO c).1.size ≤ 1000000 ∧ 0 ≤ (kO c).2 ∧ (kO c).2 ≤ 1000000 := ⟨by rw [kO]; show (strOfNums c.2.2).size ≤ _; rw [strOfNums_size]; exact h.2, srt_range _⟩
theorem keyOf_kO {c : Cel} (h : okT c) : keyOf Tryz.prog 122 (.agg #[.string (kO c).1, .int .i64 (kO c).2]) = some (okk (kO c)) := keyOk (kO c) (kO_ok h).1 (kO_ok h).2.1 (kO_ok h).2.2
def dropK (T : List Cel) (k : List UInt8 × Int) : List Cel := T.filter (fun x => decide (keyC x ≠ k))
theorem mem_dropK {T : List Cel} {k : List UInt8 × Int} {x : Cel} : x ∈ dropK T k ↔ x ∈ T ∧ keyC x ≠ k := by simp [dropK]
theorem dropK_len : ∀ (T : List Cel) (k : List UInt8 × Int), Apart T → (dropK T k).length + (if hasK T k then 1 else 0) = T.length
  | [], k, _ => rfl
  | x :: r, k, h => by
    have h1 := List.pairwise_cons.1 h
    have ih := dropK_len r k h1.2
    by_cases e : keyC x = k
    · have hn : hasK r k = false := by
        rw [hasK, List.any_eq_false]
        intro z hz hk
        exact h1.1 z hz (e.trans (of_decide_eq_true hk).symm)
      have ha : hasK (x :: r) k = true := by simp [hasK, e]
      rw [hn] at ih
      rw [ha]
      simp only [dropK, List.filter_cons, e] at ih ⊢
      simpa using ih
    · have ha : hasK (x :: r) k = hasK r k := by simp [hasK, e]
      rw [ha]
      have ed : dropK (x :: r) k = x :: dropK r k := by simp [dropK, e]
      rw [ed, List.length_cons, List.length_cons]
      omega
theorem hasK_iff {T : List Cel} {k : List UInt8 × Int} : hasK T k = true ↔ ∃ c ∈ T, keyC c = k := by simp [hasK]
theorem has_iff {T : List Cel} {D : DataW Unit} (hh : ∀ (f : OKey) l, keyOf Tryz.prog 122 (.agg #[.string f.1, .int .i64 f.2]) = some l → (Maps.has D l = true ↔ ∃ c ∈ T, kO c = f)) {o : Cel} (ho : okT o) : Maps.has D (okk (kO o)) = hasK T (keyC o) := by
  rw [Bool.eq_iff_iff, hh (kO o) _ (keyOf_kO ho), hasK_iff]
  simp only [kO_key]
theorem OpMap.put {w w' : World} {b N : Nat} {T : List Cel} {D : DataW Unit} {o : Cel} (ho : okT o)
    (hD : w.ownsMap Tryz.prog 122 opElem b N D ∧ (∀ c ∈ T, okT c) ∧ Apart T ∧ Maps.size D = T.length ∧ (∀ (f : OKey) l, keyOf Tryz.prog 122 (.agg #[.string f.1, .int .i64 f.2]) = some l → (Maps.has D l = true ↔ ∃ c ∈ T, kO c = f)) ∧ (∀ c ∈ T, D.atKey (okk (kO c)) zD = encD c))
    (h' : w'.ownsMap Tryz.prog 122 opElem b (N + 1) (D.put (okk (kO o)) (encD o))) : OpMap w' b (N + 1) (dropK T (keyC o) ++ [o]) := by
  obtain ⟨hown, hok, hap, hsz, hhas, hat⟩ := hD
  have hm := hown.isMap
  refine ⟨_, h', fun c hc => ?_, ?_, ?_, fun f l hf => ?_, fun c hc => ?_⟩
  · rcases List.mem_append.1 hc with h | h
    · exact hok c (mem_dropK.1 h).1
    · simp at h; rw [h]; exact ho
  · refine List.pairwise_append.2 ⟨hap.filter _, by simp, fun x hx y hy => ?_⟩
    simp at hy
    rw [hy]; exact (mem_dropK.1 hx).2
  · rw [size_put (hown.tidy lawOk), has_iff hhas ho, hsz, List.length_append]
    have := dropK_len T (keyC o) hap
    by_cases hh : hasK T (keyC o) = true
    · simp [hh] at this ⊢; omega
    · simp [hh] at this ⊢; omega
  · by_cases e : kO o = f
    · subst e
      have el : l = okk (kO o) := by have := keyOf_kO ho; rw [hf] at this; exact Option.some.inj this
      rw [el, has_put_same hm (okk_lit _)]
      exact ⟨fun _ => ⟨o, by simp, rfl⟩, fun _ => rfl⟩
    · have hne : l ≠ okk (kO o) := fun h => e (by
        have h2 := keyOf_kO ho
        rw [← h] at h2
        have := lawOk.inj hf h2
        obtain ⟨f1, f2⟩ := f
        have h9 : (kO o).fst = f1 ∧ (kO o).snd = f2 := by simpa using this.symm
        exact Prod.ext h9.1 h9.2)
      rw [has_put_other hne, hhas f l hf]
      constructor
      · rintro ⟨c, hc, rfl⟩
        exact ⟨c, List.mem_append_left _ (mem_dropK.2 ⟨hc, fun h => e (kO_key.2 h.symm)⟩), rfl⟩
      · rintro ⟨c, hc, rfl⟩
        rcases List.mem_append.1 hc with h | h
        · exact ⟨c, (mem_dropK.1 h).1, rfl⟩
        · simp at h; exact absurd (by rw [h]) e
  · rcases List.mem_append.1 hc with h | h
    · have h1 := mem_dropK.1 h
      rw [atKey_put_other (fun h => h1.2 (kO_key.1 (ok_inj (kO_ok (hok c h1.1)) (kO_ok ho) h)))]
      exact hat c h1.1
    · simp at h
      rw [h, atKey_put_same hm (okk_lit _)]
set_option maxRecDepth 100000 in
theorem key_any (s : ByteArray) (p t : Int) (w : World) : Calls Tryz.prog 68 #[.agg #[.string s, .int .i64 p, .int .i64 t]] w fun e w' => e = .returned (.agg #[.string s, .int .i64 (srt t)]) ∧ Below w.heap.size w w' := by
  have HS := fun W => sortOf_any t W
  generalize srt t = q at HS ⊢
  have G1 : Box3 ((w.alloc (.cells #[.string s, .int .i64 p, .int .i64 t] 119)).alloc (.cells #[.string ⟨#[]⟩, .int .i64 0] 122)) w.heap.size (.string s) (.int .i64 p) (.int .i64 t) := Box3.of_block (t := 119) ((Below.heap_alloc _ _ _ (by simp)).trans (heap_alloc_new _ _))
  have G2 := pair_new (w.alloc (.cells #[.string s, .int .i64 p, .int .i64 t] 119)) (.string ⟨#[]⟩) (.int .i64 0) 122
  have G3 : ∀ j, ((w.alloc (.cells #[.string s, .int .i64 p, .int .i64 t] 119)).alloc (.cells #[.string ⟨#[]⟩, .int .i64 0] 122)).frozen? ⟨w.heap.size + 1, j, none⟩ = false := fun j => by
    have h := heap_alloc_new (w.alloc (.cells #[.string s, .int .i64 p, .int .i64 t] 119)) (.cells #[.string ⟨#[]⟩, .int .i64 0] 122)
    rw [World.size_alloc] at h
    exact frozen_of_row _ _ j _ _ h
  rw [World.size_alloc] at G2
  have HB : Below w.heap.size w ((w.alloc (.cells #[.string s, .int .i64 p, .int .i64 t] 119)).alloc (.cells #[.string ⟨#[]⟩, .int .i64 0] 122)) := ((Below.refl _ _).alloc (Nat.le_refl _) _).alloc (by simp) _
  have HG1 : Hid _ := G1
  have HG2 : Hid _ := G2
  have HG3 : Hid _ := G3
  have HBB : Hid _ := HB
  clear G1 G2 G3 HB
  go_enter Tryz.func68, Tryz.ntmps68
  go_wp2_with fail
  obtain ⟨a0, a1, a2, _⟩ := HG1.out
  obtain ⟨b0, b1⟩ := HG2.out
  have ff := HG3.out
  have hbb := HBB.out
  clear HG1 HG2 HG3 HBB
  generalize (w.alloc (.cells #[.string s, .int .i64 p, .int .i64 t] 119)).alloc (.cells #[.string ⟨#[]⟩, .int .i64 0] 122) = W2 at *
  have HB2 : Hid _ := hbb
  clear hbb
  go_region_held3 (fun W => W.cell? ⟨w.heap.size, 0, none⟩ = some (.string s) ∧ W.cell? ⟨w.heap.size, 2, none⟩ = some (.int .i64 t))
    (go_keep)
    ((go_at_call 104; refine (HS _).mono ?_; rintro e w' ⟨rfl, rfl⟩))
  all_goals go_wp2_with fail
  all_goals refine bodyPost_ret (v := .agg #[.string s, .int .i64 q]) (by simp [results, Tryz.results68, go_sem, b0, b1]) rfl ⟨rfl, ?_⟩
  all_goals exact (HB2.out.drew.setCell (p := ⟨_, _, none⟩) (by simp) _).setCell (p := ⟨_, _, none⟩) (by simp) _
end Go.Proofs.YtjhbplgppakhoaaGreatDoor

namespace Go.Proofs.YtjhbplgppakhoaaGreatDoor
open Go Go.RowKit Go.Maps
set_option linter.unusedVariables false
theorem take_snoc (cs : List Cel) (k : Nat) (h : k < cs.length) : cs.take (k + 1) = cs.take k ++ [cs.getD k Cel.none] := by
  rw [List.take_succ_eq_append_getElem h, List.getD, List.getElem?_eq_getElem h]; rfl
theorem dropK_self {T : List Cel} {k : List UInt8 × Int} (h : ∀ x ∈ T, keyC x ≠ k) : dropK T k = T := List.filter_eq_self.2 (fun x hx => by simpa using h x hx)
theorem apart_take {cs : List Cel} (h : Apart cs) (k : Nat) (hk : k < cs.length) : ∀ x ∈ cs.take k, keyC x ≠ keyC (cs.getD k Cel.none) := fun x hx => by
  obtain ⟨i, hi, rfl⟩ := List.mem_iff_getElem.1 hx
  have hi' : i < k := by simp at hi; omega
  have := List.pairwise_iff_getElem.1 h i k (by omega) hk hi'
  rw [List.getElem_take, List.getD, List.getElem?_eq_getElem hk]
  exact this
theorem kkM {w1 w5 : World} {b g : Nat} {v0 v1 v2 : Value} (hg : w1.grownBy w5 (some b)) (h : w1.cell? ⟨g, 0, none⟩ = some v0 ∧ w1.cell? ⟨g, 1, none⟩ = some v1 ∧ w1.cell? ⟨g, 2, none⟩ = some v2) (hne : g ≠ b) : w5.cell? ⟨g, 0, none⟩ = some v0 ∧ w5.cell? ⟨g, 1, none⟩ = some v1 ∧ w5.cell? ⟨g, 2, none⟩ = some v2 := by
  have hlt : g < w1.heap.size := World.block_lt_of_cell? _ _ h.1
  have hc : ∀ o, w5.cell? ⟨g, o, none⟩ = w1.cell? ⟨g, o, none⟩ := fun o => World.cell?_of_block (hg.block _ hlt (by simpa using hne))
  exact ⟨(hc _).trans h.1, (hc _).trans h.2.1, (hc _).trans h.2.2⟩
set_option maxRecDepth 100000 in
set_option maxHeartbeats 2000000 in
theorem tableOf_any (p : Option Addr) (c : Nat) (cs : List Cel) (w : World) (hn : cs.length ≤ 1000000) (hok : ∀ x ∈ cs, okT x) (hap : Apart cs) (hc : OIn w p cs) :
    Calls Tryz.prog 39 #[.slice p cs.length c] w fun e w' => e = .returned (.map (some w.heap.size)) ∧ OpMap w' w.heap.size cs.length cs ∧ Below w.heap.size w w' := by
  have HC : Hid (OIn w p cs) := hc
  have HOK : Hid (∀ x ∈ cs, okT x) := hok
  have HAP : Hid (Apart cs) := hap
  have hmm := @run_makeMap Tryz.prog
  have HM0 : Hid (OpMap (w.alloc (.map #[] 0)) w.heap.size 0 []) := OpMap.made w
  have HB0 : Hid (Below w.heap.size w (w.alloc (.map #[] 0))) := (Below.refl _ _).alloc (Nat.le_refl _) _
  clear hc hok hap
  go_enter Tryz.func39, Tryz.ntmps39
  go_wp2_with fail
  clear hmm
  go_loopw [10] (fun i wr => ∃ k : Nat, k ≤ cs.length ∧ i = .int .i64 k ∧ Hid (OpMap wr w.heap.size k (cs.take k)) ∧ Hid (Below w.heap.size w wr)) (fun i _ => cs.length - (intOf i).toNat)
  case atStart => exact ⟨0, Nat.zero_le _, rfl, HM0, HB0⟩
  case round =>
    obtain ⟨k, hk, rfl, HM, HB⟩ := hrel
    by_cases hlt : k < cs.length
    · obtain ⟨g, o, rfl, hcs⟩ := HC.out (by omega)
      have hat := (hcs k hlt).below HB.out
      have hox : okT (cs.getD k Cel.none) := HOK.out _ (by rw [List.getD, List.getElem?_eq_getElem hlt]; exact List.getElem_mem hlt)
      have HT : Hid (dropK (cs.take k) (keyC (cs.getD k Cel.none)) ++ [cs.getD k Cel.none] = cs.take (k + 1)) := by show _ = _; rw [dropK_self (apart_take HAP.out k hlt), take_snoc cs k hlt]
      obtain ⟨x, ex⟩ : ∃ x, x = cs.getD k Cel.none := ⟨_, rfl⟩
      rw [← ex] at hat hox HT
      obtain ⟨q, qc, h0, h1, h2, h3⟩ := hat
      obtain ⟨x0, x1, x2⟩ := x
      simp only at h0 h1 h2 h3
      obtain ⟨l2, el2⟩ : ∃ l, l = x2.length := ⟨_, rfl⟩
      obtain ⟨sx, esx⟩ : ∃ s, s = strOfNums x2 := ⟨_, rfl⟩
      rw [← el2] at h2
      have hW : Below wr.heap.size wr (wr.alloc (Obj.cells #[.slice q l2 qc, .int .i64 x0, .int .i64 x1] 69)) := (Below.refl _ _).alloc (Nat.le_refl _) _
      have cv := conv_str (h3.below hW) l2 qc el2 9 Tryz.underlying9
      rw [← esx] at cv
      have hW2 : Below wr.heap.size wr ((wr.alloc (Obj.cells #[.slice q l2 qc, .int .i64 x0, .int .i64 x1] 69)).alloc (Obj.cells #[.string sx, .int .i64 x0, .int .i64 x1] 119)) := hW.alloc (by simp) _
      have G : Box3 ((wr.alloc (Obj.cells #[.slice q l2 qc, .int .i64 x0, .int .i64 x1] 69)).alloc (Obj.cells #[.string sx, .int .i64 x0, .int .i64 x1] 119)) (wr.heap.size + 1) (.string sx) (.int .i64 x0) (.int .i64 x1) := Box3.of_block (t := 119) (by
        have := heap_alloc_new (wr.alloc (Obj.cells #[.slice q l2 qc, .int .i64 x0, .int .i64 x1] 69)) (Obj.cells #[.string sx, .int .i64 x0, .int .i64 x1] 119)
        rw [World.size_alloc] at this
        exact this)
      have HMW : Hid (OpMap ((wr.alloc (Obj.cells #[.slice q l2 qc, .int .i64 x0, .int .i64 x1] 69)).alloc (Obj.cells #[.string sx, .int .i64 x0, .int .i64 x1] 119)) w.heap.size k (cs.take k)) := HM.out.below hW2
      have HBW : Hid (Below w.heap.size w ((wr.alloc (Obj.cells #[.slice q l2 qc, .int .i64 x0, .int .i64 x1] 69)).alloc (Obj.cells #[.string sx, .int .i64 x0, .int .i64 x1] 119))) := Below.on HB.out hW2
      have HG : Hid _ := G
      have HKY : Hid (keyOf Tryz.prog 122 (.agg #[.string sx, .int .i64 (srt x1)]) = some (okk (kO (x0, x1, x2)))) := by rw [esx]; exact keyOf_kO hox
      have HEV : Hid (opElem (.agg #[.string sx, .int .i64 x0, .int .i64 x1]) = some (encD (x0, x1, x2), [])) := by rw [esx]; exact opElem_enc (x0, x1, x2)
      have HOX : Hid (okT (x0, x1, x2)) := hox
      have HK := fun W => key_any sx x0 x1 W
      clear hcs h3 el2 esx ex hW hW2 G HM HC hox
      go_wp2_with fail
      obtain ⟨a0, a1, a2, _⟩ := HG.out
      clear HG
      generalize (wr.alloc (Obj.cells #[.slice q l2 qc, .int .i64 x0, .int .i64 x1] 69)).alloc (Obj.cells #[.string sx, .int .i64 x0, .int .i64 x1] 119) = W2 at *
      have hbl : w.heap.size < W2.heap.size := HMW.out.lt
      go_region_held3 (fun W => W.cell? ⟨wr.heap.size + 1, 0, none⟩ = some (.string sx) ∧ W.cell? ⟨wr.heap.size + 1, 1, none⟩ = some (.int .i64 x0) ∧ W.cell? ⟨wr.heap.size + 1, 2, none⟩ = some (.int .i64 x1))
        (first | exact kk5 | exact kk | go_keep)
        ((go_at_call 68; refine (HK _).mono ?_; rintro e w1 ⟨rfl, hb1⟩; have kk : w1.cell? ⟨wr.heap.size + 1, 0, none⟩ = some (.string sx) ∧ w1.cell? ⟨wr.heap.size + 1, 1, none⟩ = some (.int .i64 x0) ∧ w1.cell? ⟨wr.heap.size + 1, 2, none⟩ = some (.int .i64 x1) := ⟨(hb1.cell (World.block_lt_of_cell? _ _ a0)).trans a0, (hb1.cell (World.block_lt_of_cell? _ _ a1)).trans a1, (hb1.cell (World.block_lt_of_cell? _ _ a2)).trans a2⟩; obtain ⟨D, hD⟩ := HMW.out.below ((Below.refl _ _).drew.trans hb1); obtain ⟨w5, hrun5, hown5, hg5⟩ := hD.1.update lawOk Tryz.underlying75 (by unfold maxLen; omega) HKY.out HEV.out; have hM5 := OpMap.put HOX.out hD hown5; have kk5 : w5.cell? ⟨wr.heap.size + 1, 0, none⟩ = some (.string sx) ∧ w5.cell? ⟨wr.heap.size + 1, 1, none⟩ = some (.int .i64 x0) ∧ w5.cell? ⟨wr.heap.size + 1, 2, none⟩ = some (.int .i64 x1) := kkM hg5 kk (by have := HB.out.size; omega)))
      all_goals
        have HM5 : Hid (OpMap w5 w.heap.size (k + 1) (cs.take (k + 1))) := by rw [← HT.out]; exact hM5
        have HB5 : Hid (Below w.heap.size w w5) := (HBW.out.trans (((Below.refl _ _).drew.trans hb1).mono (Nat.le_of_lt hbl))).grown hg5 (Nat.le_trans (Nat.le_of_lt hbl) hb1.size) (fun j hj => by cases hj; exact Nat.le_refl _)
        clear kk kk5 hD hown5 hg5 hM5 hrun5
        go_wp2_with fail
        go_roundw
        case rel => exact ⟨k + 1, by omega, by go_num, HM5, HB5⟩
        case measure => simp [intOf]; omega
    · obtain rfl : k = cs.length := by omega
      have HM' : Hid (OpMap wr w.heap.size cs.length cs) := by have := HM.out; rwa [List.take_length] at this
      clear HC
      go_wp2_with fail
      go_ret
      exact ⟨rfl, HM'.out, HB.out⟩
end Go.Proofs.YtjhbplgppakhoaaGreatDoor

