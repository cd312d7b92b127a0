/- Texts of BD5. Own work of the verifier. -/
import Derived.Test.YtaakpdakeolgeaaGreatUqbc
import Derived.Test.YtaakpdakeolgeaaGreatUqbd
namespace Go.Proofs.YtaakpdakeolgeaaGreat
open Go Go.RowKit
set_option linter.unusedVariables false
theorem wrapSmall {x : Int} (h0 : -9223372036854775808 ≤ x) (h1 : x ≤ 9223372036854775807) : IntKind.i64.wrap x = x := by rw [IntKind.wrap_i64]; omega
def SVal (wr : World) (vv : Int) (q : Option Addr) (m qc b o k : Nat) (pv : Int) (W : World) : Prop := W.cell? ⟨wr.heap.size, 0, none⟩ = some (.int .i64 vv) ∧ W.cell? ⟨wr.heap.size, 1, none⟩ = some (.slice q m qc) ∧ W.cell? ⟨b, o + (k - 1) * 2, none⟩ = some (.int .i64 pv)
set_option maxRecDepth 100000 in
set_option maxHeartbeats 4000000 in
theorem l5valid_any (p : Option Addr) (n c : Nat) (bs : List Bnd) (w : World) (hn : n = bs.length) (hb : n ≤ 300000000) (hl : bs.length + tll (trm bs) ≤ 300000000) (hw : ∀ i, i < bs.length → -9223372036854775808 ≤ (bs.getD i Bnd.zero).1 ∧ (bs.getD i Bnd.zero).1 ≤ 9223372036854775807) (hin : BdIn w p bs) :
    Calls Tryz.prog 36 #[.slice p n c] w fun e w' => e = .returned (.bool (substB bs)) ∧ Below w.heap.size w w' := by
  have HI : Hid (BdIn w p bs) := hin
  have HN : Hid (n = bs.length) := hn
  by_cases h1 : n ≤ 1000
  · obtain ⟨R, eR⟩ : ∃ R, R = substFrom (-1) bs := ⟨_, rfl⟩
    have hR : substB bs = R := by rw [substB, eR, ← hn, decide_eq_true h1]; rfl
    rw [hR]
    have HR : Hid (R = substFrom (lastB bs 0) (bs.drop 0)) := by show _ = _; rw [eR, List.drop_zero]; rfl
    clear hin hn hR eR
    go_enter Tryz.func36, Tryz.ntmps36
    go_wp2_with fail
    go_loopw [3] (fun i wr => ∃ (k : Nat), k ≤ n ∧ i = .int .i64 k ∧ Hid (R = substFrom (lastB bs k) (bs.drop k) ∧ -1 ≤ lastB bs k) ∧ Hid (Below w.heap.size w wr)) (fun i _ => n - (intOf i).toNat)
    case atStart => exact ⟨0, Nat.zero_le _, rfl, ⟨HR.out, by simp [lastB]⟩, Below.refl _ _⟩
    case round =>
      obtain ⟨k, hk, rfl, HR, HB⟩ := hrel
      by_cases hlt : k < n
      · have hkl : k < bs.length := by rw [← HN.out]; exact hlt
        obtain ⟨b, o, rfl, hcs⟩ := (HI.out.below HB.out) (by omega)
        obtain ⟨q, qc, d0, d1, d2⟩ := hcs k hkl
        have hst := substFrom_at bs k hkl (lastB bs k)
        have hbd := tll_at (trm bs) k (by rw [trm_len]; exact hkl)
        rw [trm_at] at hbd
        have hwv := hw k hkl
        obtain ⟨m, em⟩ : ∃ x, x = (bs.getD k Bnd.zero).2.length := ⟨_, rfl⟩
        obtain ⟨vv, evv⟩ : ∃ x, x = (bs.getD k Bnd.zero).1 := ⟨_, rfl⟩
        obtain ⟨pv, epv⟩ : ∃ x, x = (bs.getD (k - 1) Bnd.zero).1 := ⟨_, rfl⟩
        have dp : wr.cell? ⟨b, o + (k - 1) * 2, none⟩ = some (.int .i64 pv) := by
          obtain ⟨_, _, dp, _⟩ := hcs (k - 1) (by omega)
          rw [epv]; exact dp
        have hla : lastB bs k = if k = 0 then -1 else pv := by rw [lastB, epv]
        have HLA : Hid _ := hla
        have hl1 := HR.out.2
        have HV : Hid (∀ W, Below wr.heap.size wr W → Calls Tryz.prog 17 #[.slice q m qc] W fun e w' => e = .returned (.bool (validB (bs.getD k Bnd.zero).2)) ∧ Below W.heap.size W w') := fun W hW => by rw [em]; exact specValid_any q qc (bs.getD k Bnd.zero).2 W (by omega) (d2.below hW)
        rw [bndB, ← evv] at hst
        rw [← em] at d1
        rw [← evv] at d0 hwv
        have HAD : Hid (Below wr.heap.size wr (wr.alloc (.cells #[.int .i64 vv, .slice q m qc] 33)).drew) := ((Below.refl wr.heap.size wr).alloc (Nat.le_refl _) _).drew
        have hS0 : SVal wr vv q m qc b o k pv (wr.alloc (.cells #[.int .i64 vv, .slice q m qc] 33)).drew := by
          exact ⟨cell_of_row _ _ 0 _ _ _ (heap_alloc_new wr _), cell_of_row _ _ 1 _ _ _ (heap_alloc_new wr _), Lib.cell?_alloc_marked _ dp⟩
        have HAFT : Hid (∀ w5, Below (wr.alloc (.cells #[.int .i64 vv, .slice q m qc] 33)).drew.heap.size (wr.alloc (.cells #[.int .i64 vv, .slice q m qc] 33)).drew w5 → Below w.heap.size w w5 ∧ SVal wr vv q m qc b o k pv w5) := fun w5 h5 => by
          refine ⟨Below.on HB.out (Below.on HAD.out h5), ?_⟩
          exact ⟨(h5.cell (World.block_lt_of_cell? _ _ hS0.1)).trans hS0.1, (h5.cell (World.block_lt_of_cell? _ _ hS0.2.1)).trans hS0.2.1, (h5.cell (World.block_lt_of_cell? _ _ hS0.2.2)).trans hS0.2.2⟩
        have HBA : Hid (Below w.heap.size w (wr.alloc (.cells #[.int .i64 vv, .slice q m qc] 33)).drew) := Below.on HB.out HAD.out
        have HEV : Hid (vv = (bs.getD k Bnd.zero).1) := evv
        clear hcs d2 hbd em evv epv hla dp
        by_cases hlow : vv < 0
        · have HR2 : Hid (R = false) := by
            show _ = _
            rw [HR.out.1, hst, decide_eq_false (show ¬ lastB bs k < vv by omega)]; rfl
          have hhigh : True := trivial
          clear hst
          go_wp2_with fail
          refine wp_region_held (S := SVal wr vv q m qc b o k pv) (by kernel_rfl) ?_
          refine hTake (i := 0) (v := .pointer (some ⟨wr.heap.size, 0, none⟩)) (some 18) (by kernel_rfl) (by kernel_rfl) (by kernel_rfl) (by kernel_rfl) (by kernel_rfl) (fun _ _ _ h => h) (fun o ho W hSw => ?y0) (by assumption) ?_
          case y0 =>
            cases ho
            simp [execOp, go_sem, Act.eval]
          simp only [Act.put, List.setIfInBounds_toArray, List.set_cons_zero, List.set_cons_succ]
          refine hTake (i := 1) (v := .int .i64 vv) (some 19) (by kernel_rfl) (by kernel_rfl) (by kernel_rfl) (by kernel_rfl) (by kernel_rfl) (fun _ _ _ h => h) (fun o ho W hSw => ?y1) (by assumption) ?_
          case y1 =>
            cases ho
            simp [execOp, go_sem, Act.eval, hSw.1]
          simp only [Act.put, List.setIfInBounds_toArray, List.set_cons_zero, List.set_cons_succ]
          refine hTake (i := 2) (v := .bool true) (some 20) (by kernel_rfl) (by kernel_rfl) (by kernel_rfl) (by kernel_rfl) (by kernel_rfl) (fun _ _ _ h => h) (fun o ho W hSw => ?y2) (by assumption) ?_
          case y2 =>
            cases ho
            simp [execOp, go_sem, Act.eval, hlow]
          simp only [Act.put, List.setIfInBounds_toArray, List.set_cons_zero, List.set_cons_succ]
          refine hTake (i := 3) (v := .bool true) (some 21) (by kernel_rfl) (by kernel_rfl) (by kernel_rfl) (by kernel_rfl) (by kernel_rfl) (fun _ _ _ h => h) (fun o ho W hSw => ?y3) (by assumption) ?_
          case y3 =>
            cases ho
            simp [execOp, go_sem, Act.eval]
          simp only [Act.put, List.setIfInBounds_toArray, List.set_cons_zero, List.set_cons_succ]
          refine hSkip (i := 4) (some 22) (by kernel_rfl) (by kernel_rfl) (by kernel_rfl) (by kernel_rfl) (by kernel_rfl) (fun _ _ _ h => h) (by assumption) ?_
          simp only [Act.put, List.setIfInBounds_toArray, List.set_cons_zero, List.set_cons_succ]
          refine hSkip (i := 5) (some 23) (by kernel_rfl) (by kernel_rfl) (by kernel_rfl) (by kernel_rfl) (by kernel_rfl) (fun _ _ _ h => h) (by assumption) ?_
          simp only [Act.put, List.setIfInBounds_toArray, List.set_cons_zero, List.set_cons_succ]
          refine hSkip (i := 6) (some 24) (by kernel_rfl) (by kernel_rfl) (by kernel_rfl) (by kernel_rfl) (by kernel_rfl) (fun _ _ _ h => h) (by assumption) ?_
          simp only [Act.put, List.setIfInBounds_toArray, List.set_cons_zero, List.set_cons_succ]
          refine hTake (i := 7) (v := .bool true) (some 25) (by kernel_rfl) (by kernel_rfl) (by kernel_rfl) (by kernel_rfl) (by kernel_rfl) (fun _ _ _ h => h) (fun o ho W hSw => ?y7) (by assumption) ?_
          case y7 =>
            cases ho
            simp [execOp, go_sem, Act.eval]
          simp only [Act.put, List.setIfInBounds_toArray, List.set_cons_zero, List.set_cons_succ]
          refine hTake (i := 8) (v := .bool true) (some 26) (by kernel_rfl) (by kernel_rfl) (by kernel_rfl) (by kernel_rfl) (by kernel_rfl) (fun _ _ _ h => h) (fun o ho W hSw => ?y8) (by assumption) ?_
          case y8 =>
            cases ho
            simp [execOp, go_sem, Act.eval]
          simp only [Act.put, List.setIfInBounds_toArray, List.set_cons_zero, List.set_cons_succ]
          refine hSkip (i := 9) (some 27) (by kernel_rfl) (by kernel_rfl) (by kernel_rfl) (by kernel_rfl) (by kernel_rfl) (fun _ _ _ h => h) (by assumption) ?_
          simp only [Act.put, List.setIfInBounds_toArray, List.set_cons_zero, List.set_cons_succ]
          refine hSkip (i := 10) (some 28) (by kernel_rfl) (by kernel_rfl) (by kernel_rfl) (by kernel_rfl) (by kernel_rfl) (fun _ _ _ h => h) (by assumption) ?_
          simp only [Act.put, List.setIfInBounds_toArray, List.set_cons_zero, List.set_cons_succ]
          refine hSkip (i := 11) (some 29) (by kernel_rfl) (by kernel_rfl) (by kernel_rfl) (by kernel_rfl) (by kernel_rfl) (fun _ _ _ h => h) (by assumption) ?_
          simp only [Act.put, List.setIfInBounds_toArray, List.set_cons_zero, List.set_cons_succ]
          refine hSkip (i := 12) (some 30) (by kernel_rfl) (by kernel_rfl) (by kernel_rfl) (by kernel_rfl) (by kernel_rfl) (fun _ _ _ h => h) (by assumption) ?_
          simp only [Act.put, List.setIfInBounds_toArray, List.set_cons_zero, List.set_cons_succ]
          refine hSkip (i := 13) (some 31) (by kernel_rfl) (by kernel_rfl) (by kernel_rfl) (by kernel_rfl) (by kernel_rfl) (fun _ _ _ h => h) (by assumption) ?_
          simp only [Act.put, List.setIfInBounds_toArray, List.set_cons_zero, List.set_cons_succ]
          refine hSkip (i := 14) (some 32) (by kernel_rfl) (by kernel_rfl) (by kernel_rfl) (by kernel_rfl) (by kernel_rfl) (fun _ _ _ h => h) (by assumption) ?_
          simp only [Act.put, List.setIfInBounds_toArray, List.set_cons_zero, List.set_cons_succ]
          refine hSkip (i := 15) (some 33) (by kernel_rfl) (by kernel_rfl) (by kernel_rfl) (by kernel_rfl) (by kernel_rfl) (fun _ _ _ h => h) (by assumption) ?_
          simp only [Act.put, List.setIfInBounds_toArray, List.set_cons_zero, List.set_cons_succ]
          refine hSkip (i := 16) (some 34) (by kernel_rfl) (by kernel_rfl) (by kernel_rfl) (by kernel_rfl) (by kernel_rfl) (fun _ _ _ h => h) (by assumption) ?_
          simp only [Act.put, List.setIfInBounds_toArray, List.set_cons_zero, List.set_cons_succ]
          refine hSkip (i := 17) (some 35) (by kernel_rfl) (by kernel_rfl) (by kernel_rfl) (by kernel_rfl) (by kernel_rfl) (fun _ _ _ h => h) (by assumption) ?_
          simp only [Act.put, List.setIfInBounds_toArray, List.set_cons_zero, List.set_cons_succ]
          refine hSkip (i := 18) (some 36) (by kernel_rfl) (by kernel_rfl) (by kernel_rfl) (by kernel_rfl) (by kernel_rfl) (fun _ _ _ h => h) (by assumption) ?_
          simp only [Act.put, List.setIfInBounds_toArray, List.set_cons_zero, List.set_cons_succ]
          refine hSkip (i := 19) (some 37) (by kernel_rfl) (by kernel_rfl) (by kernel_rfl) (by kernel_rfl) (by kernel_rfl) (fun _ _ _ h => h) (by assumption) ?_
          simp only [Act.put, List.setIfInBounds_toArray, List.set_cons_zero, List.set_cons_succ]
          refine hSkip (i := 20) (some 38) (by kernel_rfl) (by kernel_rfl) (by kernel_rfl) (by kernel_rfl) (by kernel_rfl) (fun _ _ _ h => h) (by assumption) ?_
          simp only [Act.put, List.setIfInBounds_toArray, List.set_cons_zero, List.set_cons_succ]
          refine hSkip (i := 21) (some 39) (by kernel_rfl) (by kernel_rfl) (by kernel_rfl) (by kernel_rfl) (by kernel_rfl) (fun _ _ _ h => h) (by assumption) ?_
          simp only [Act.put, List.setIfInBounds_toArray, List.set_cons_zero, List.set_cons_succ]
          refine hTake (i := 22) (v := .bool true) (some 40) (by kernel_rfl) (by kernel_rfl) (by kernel_rfl) (by kernel_rfl) (by kernel_rfl) (fun _ _ _ h => h) (fun o ho W hSw => ?y22) (by assumption) ?_
          case y22 =>
            cases ho
            simp [execOp, go_sem, Act.eval]
          simp only [Act.put, List.setIfInBounds_toArray, List.set_cons_zero, List.set_cons_succ]
          refine hTake (i := 23) (v := .bool true) (some 41) (by kernel_rfl) (by kernel_rfl) (by kernel_rfl) (by kernel_rfl) (by kernel_rfl) (fun _ _ _ h => h) (fun o ho W hSw => ?y23) (by assumption) ?_
          case y23 =>
            cases ho
            simp [execOp, go_sem, Act.eval]
          simp only [Act.put, List.setIfInBounds_toArray, List.set_cons_zero, List.set_cons_succ]
          refine hSkip (i := 24) (some 42) (by kernel_rfl) (by kernel_rfl) (by kernel_rfl) (by kernel_rfl) (by kernel_rfl) (fun _ _ _ h => h) (by assumption) ?_
          simp only [Act.put, List.setIfInBounds_toArray, List.set_cons_zero, List.set_cons_succ]
          refine hSkip (i := 25) (some 43) (by kernel_rfl) (by kernel_rfl) (by kernel_rfl) (by kernel_rfl) (by kernel_rfl) (fun _ _ _ h => h) (by assumption) ?_
          simp only [Act.put, List.setIfInBounds_toArray, List.set_cons_zero, List.set_cons_succ]
          refine hSkip (i := 26) (some 44) (by kernel_rfl) (by kernel_rfl) (by kernel_rfl) (by kernel_rfl) (by kernel_rfl) (fun _ _ _ h => h) (by assumption) ?_
          simp only [Act.put, List.setIfInBounds_toArray, List.set_cons_zero, List.set_cons_succ]
          refine hSkip (i := 27) (some 45) (by kernel_rfl) (by kernel_rfl) (by kernel_rfl) (by kernel_rfl) (by kernel_rfl) (fun _ _ _ h => h) (by assumption) ?_
          simp only [Act.put, List.setIfInBounds_toArray, List.set_cons_zero, List.set_cons_succ]
          refine hTake (i := 28) (v := .bool true) (some 46) (by kernel_rfl) (by kernel_rfl) (by kernel_rfl) (by kernel_rfl) (by kernel_rfl) (fun _ _ _ h => h) (fun o ho W hSw => ?y28) (by assumption) ?_
          case y28 =>
            cases ho
            simp [execOp, go_sem, Act.eval]
          simp only [Act.put, List.setIfInBounds_toArray, List.set_cons_zero, List.set_cons_succ]
          refine wpAnyH_done (by kernel_rfl) ?_ _
          change Exit.then _ _ _ _ (wr.alloc (.cells #[.int .i64 vv, .slice q m qc] 33)).drew
          go_wp2_with fail
          go_ret
          exact ⟨ret_bool HR2.out.symm, HBA.out⟩
        · by_cases hhigh : 1000000 < vv
          · have HR2 : Hid (R = false) := by
              show _ = _
              rw [HR.out.1, hst, decide_eq_false (show ¬ vv ≤ 1000000 by omega)]; simp
            clear hst
            go_wp2_with fail
            refine wp_region_held (S := SVal wr vv q m qc b o k pv) (by kernel_rfl) ?_
            refine hTake (i := 0) (v := .pointer (some ⟨wr.heap.size, 0, none⟩)) (some 18) (by kernel_rfl) (by kernel_rfl) (by kernel_rfl) (by kernel_rfl) (by kernel_rfl) (fun _ _ _ h => h) (fun o ho W hSw => ?y0) (by assumption) ?_
            case y0 =>
              cases ho
              simp [execOp, go_sem, Act.eval]
            simp only [Act.put, List.setIfInBounds_toArray, List.set_cons_zero, List.set_cons_succ]
            refine hTake (i := 1) (v := .int .i64 vv) (some 19) (by kernel_rfl) (by kernel_rfl) (by kernel_rfl) (by kernel_rfl) (by kernel_rfl) (fun _ _ _ h => h) (fun o ho W hSw => ?y1) (by assumption) ?_
            case y1 =>
              cases ho
              simp [execOp, go_sem, Act.eval, hSw.1]
            simp only [Act.put, List.setIfInBounds_toArray, List.set_cons_zero, List.set_cons_succ]
            refine hTake (i := 2) (v := .bool false) (some 20) (by kernel_rfl) (by kernel_rfl) (by kernel_rfl) (by kernel_rfl) (by kernel_rfl) (fun _ _ _ h => h) (fun o ho W hSw => ?y2) (by assumption) ?_
            case y2 =>
              cases ho
              simp [execOp, go_sem, Act.eval, hlow]
            simp only [Act.put, List.setIfInBounds_toArray, List.set_cons_zero, List.set_cons_succ]
            refine hTake (i := 3) (v := .bool false) (some 21) (by kernel_rfl) (by kernel_rfl) (by kernel_rfl) (by kernel_rfl) (by kernel_rfl) (fun _ _ _ h => h) (fun o ho W hSw => ?y3) (by assumption) ?_
            case y3 =>
              cases ho
              simp [execOp, go_sem, Act.eval]
            simp only [Act.put, List.setIfInBounds_toArray, List.set_cons_zero, List.set_cons_succ]
            refine hTake (i := 4) (v := .pointer (some ⟨wr.heap.size, 0, none⟩)) (some 22) (by kernel_rfl) (by kernel_rfl) (by kernel_rfl) (by kernel_rfl) (by kernel_rfl) (fun _ _ _ h => h) (fun o ho W hSw => ?y4) (by assumption) ?_
            case y4 =>
              cases ho
              simp [execOp, go_sem, Act.eval]
            simp only [Act.put, List.setIfInBounds_toArray, List.set_cons_zero, List.set_cons_succ]
            refine hTake (i := 5) (v := .int .i64 vv) (some 23) (by kernel_rfl) (by kernel_rfl) (by kernel_rfl) (by kernel_rfl) (by kernel_rfl) (fun _ _ _ h => h) (fun o ho W hSw => ?y5) (by assumption) ?_
            case y5 =>
              cases ho
              simp [execOp, go_sem, Act.eval, hSw.1]
            simp only [Act.put, List.setIfInBounds_toArray, List.set_cons_zero, List.set_cons_succ]
            refine hTake (i := 6) (v := .bool true) (some 24) (by kernel_rfl) (by kernel_rfl) (by kernel_rfl) (by kernel_rfl) (by kernel_rfl) (fun _ _ _ h => h) (fun o ho W hSw => ?y6) (by assumption) ?_
            case y6 =>
              cases ho
              simp [execOp, go_sem, Act.eval, hhigh]
            simp only [Act.put, List.setIfInBounds_toArray, List.set_cons_zero, List.set_cons_succ]
            refine hTake (i := 7) (v := .bool true) (some 25) (by kernel_rfl) (by kernel_rfl) (by kernel_rfl) (by kernel_rfl) (by kernel_rfl) (fun _ _ _ h => h) (fun o ho W hSw => ?y7) (by assumption) ?_
            case y7 =>
              cases ho
              simp [execOp, go_sem, Act.eval]
            simp only [Act.put, List.setIfInBounds_toArray, List.set_cons_zero, List.set_cons_succ]
            refine hTake (i := 8) (v := .bool true) (some 26) (by kernel_rfl) (by kernel_rfl) (by kernel_rfl) (by kernel_rfl) (by kernel_rfl) (fun _ _ _ h => h) (fun o ho W hSw => ?y8) (by assumption) ?_
            case y8 =>
              cases ho
              simp [execOp, go_sem, Act.eval]
            simp only [Act.put, List.setIfInBounds_toArray, List.set_cons_zero, List.set_cons_succ]
            refine hSkip (i := 9) (some 27) (by kernel_rfl) (by kernel_rfl) (by kernel_rfl) (by kernel_rfl) (by kernel_rfl) (fun _ _ _ h => h) (by assumption) ?_
            simp only [Act.put, List.setIfInBounds_toArray, List.set_cons_zero, List.set_cons_succ]
            refine hSkip (i := 10) (some 28) (by kernel_rfl) (by kernel_rfl) (by kernel_rfl) (by kernel_rfl) (by kernel_rfl) (fun _ _ _ h => h) (by assumption) ?_
            simp only [Act.put, List.setIfInBounds_toArray, List.set_cons_zero, List.set_cons_succ]
            refine hSkip (i := 11) (some 29) (by kernel_rfl) (by kernel_rfl) (by kernel_rfl) (by kernel_rfl) (by kernel_rfl) (fun _ _ _ h => h) (by assumption) ?_
            simp only [Act.put, List.setIfInBounds_toArray, List.set_cons_zero, List.set_cons_succ]
            refine hSkip (i := 12) (some 30) (by kernel_rfl) (by kernel_rfl) (by kernel_rfl) (by kernel_rfl) (by kernel_rfl) (fun _ _ _ h => h) (by assumption) ?_
            simp only [Act.put, List.setIfInBounds_toArray, List.set_cons_zero, List.set_cons_succ]
            refine hSkip (i := 13) (some 31) (by kernel_rfl) (by kernel_rfl) (by kernel_rfl) (by kernel_rfl) (by kernel_rfl) (fun _ _ _ h => h) (by assumption) ?_
            simp only [Act.put, List.setIfInBounds_toArray, List.set_cons_zero, List.set_cons_succ]
            refine hSkip (i := 14) (some 32) (by kernel_rfl) (by kernel_rfl) (by kernel_rfl) (by kernel_rfl) (by kernel_rfl) (fun _ _ _ h => h) (by assumption) ?_
            simp only [Act.put, List.setIfInBounds_toArray, List.set_cons_zero, List.set_cons_succ]
            refine hSkip (i := 15) (some 33) (by kernel_rfl) (by kernel_rfl) (by kernel_rfl) (by kernel_rfl) (by kernel_rfl) (fun _ _ _ h => h) (by assumption) ?_
            simp only [Act.put, List.setIfInBounds_toArray, List.set_cons_zero, List.set_cons_succ]
            refine hSkip (i := 16) (some 34) (by kernel_rfl) (by kernel_rfl) (by kernel_rfl) (by kernel_rfl) (by kernel_rfl) (fun _ _ _ h => h) (by assumption) ?_
            simp only [Act.put, List.setIfInBounds_toArray, List.set_cons_zero, List.set_cons_succ]
            refine hSkip (i := 17) (some 35) (by kernel_rfl) (by kernel_rfl) (by kernel_rfl) (by kernel_rfl) (by kernel_rfl) (fun _ _ _ h => h) (by assumption) ?_
            simp only [Act.put, List.setIfInBounds_toArray, List.set_cons_zero, List.set_cons_succ]
            refine hSkip (i := 18) (some 36) (by kernel_rfl) (by kernel_rfl) (by kernel_rfl) (by kernel_rfl) (by kernel_rfl) (fun _ _ _ h => h) (by assumption) ?_
            simp only [Act.put, List.setIfInBounds_toArray, List.set_cons_zero, List.set_cons_succ]
            refine hSkip (i := 19) (some 37) (by kernel_rfl) (by kernel_rfl) (by kernel_rfl) (by kernel_rfl) (by kernel_rfl) (fun _ _ _ h => h) (by assumption) ?_
            simp only [Act.put, List.setIfInBounds_toArray, List.set_cons_zero, List.set_cons_succ]
            refine hSkip (i := 20) (some 38) (by kernel_rfl) (by kernel_rfl) (by kernel_rfl) (by kernel_rfl) (by kernel_rfl) (fun _ _ _ h => h) (by assumption) ?_
            simp only [Act.put, List.setIfInBounds_toArray, List.set_cons_zero, List.set_cons_succ]
            refine hSkip (i := 21) (some 39) (by kernel_rfl) (by kernel_rfl) (by kernel_rfl) (by kernel_rfl) (by kernel_rfl) (fun _ _ _ h => h) (by assumption) ?_
            simp only [Act.put, List.setIfInBounds_toArray, List.set_cons_zero, List.set_cons_succ]
            refine hTake (i := 22) (v := .bool true) (some 40) (by kernel_rfl) (by kernel_rfl) (by kernel_rfl) (by kernel_rfl) (by kernel_rfl) (fun _ _ _ h => h) (fun o ho W hSw => ?y22) (by assumption) ?_
            case y22 =>
              cases ho
              simp [execOp, go_sem, Act.eval]
            simp only [Act.put, List.setIfInBounds_toArray, List.set_cons_zero, List.set_cons_succ]
            refine hTake (i := 23) (v := .bool true) (some 41) (by kernel_rfl) (by kernel_rfl) (by kernel_rfl) (by kernel_rfl) (by kernel_rfl) (fun _ _ _ h => h) (fun o ho W hSw => ?y23) (by assumption) ?_
            case y23 =>
              cases ho
              simp [execOp, go_sem, Act.eval]
            simp only [Act.put, List.setIfInBounds_toArray, List.set_cons_zero, List.set_cons_succ]
            refine hSkip (i := 24) (some 42) (by kernel_rfl) (by kernel_rfl) (by kernel_rfl) (by kernel_rfl) (by kernel_rfl) (fun _ _ _ h => h) (by assumption) ?_
            simp only [Act.put, List.setIfInBounds_toArray, List.set_cons_zero, List.set_cons_succ]
            refine hSkip (i := 25) (some 43) (by kernel_rfl) (by kernel_rfl) (by kernel_rfl) (by kernel_rfl) (by kernel_rfl) (fun _ _ _ h => h) (by assumption) ?_
            simp only [Act.put, List.setIfInBounds_toArray, List.set_cons_zero, List.set_cons_succ]
            refine hSkip (i := 26) (some 44) (by kernel_rfl) (by kernel_rfl) (by kernel_rfl) (by kernel_rfl) (by kernel_rfl) (fun _ _ _ h => h) (by assumption) ?_
            simp only [Act.put, List.setIfInBounds_toArray, List.set_cons_zero, List.set_cons_succ]
            refine hSkip (i := 27) (some 45) (by kernel_rfl) (by kernel_rfl) (by kernel_rfl) (by kernel_rfl) (by kernel_rfl) (fun _ _ _ h => h) (by assumption) ?_
            simp only [Act.put, List.setIfInBounds_toArray, List.set_cons_zero, List.set_cons_succ]
            refine hTake (i := 28) (v := .bool true) (some 46) (by kernel_rfl) (by kernel_rfl) (by kernel_rfl) (by kernel_rfl) (by kernel_rfl) (fun _ _ _ h => h) (fun o ho W hSw => ?y28) (by assumption) ?_
            case y28 =>
              cases ho
              simp [execOp, go_sem, Act.eval]
            simp only [Act.put, List.setIfInBounds_toArray, List.set_cons_zero, List.set_cons_succ]
            refine wpAnyH_done (by kernel_rfl) ?_ _
            change Exit.then _ _ _ _ (wr.alloc (.cells #[.int .i64 vv, .slice q m qc] 33)).drew
            go_wp2_with fail
            go_ret
            exact ⟨ret_bool HR2.out.symm, HBA.out⟩
          · obtain ⟨r, er⟩ : ∃ r, r = validB (bs.getD k Bnd.zero).2 := ⟨_, rfl⟩
            rw [← er] at hst HV
            by_cases hk0 : k = 0
            · have hpos : ¬ ((0 : Int) < (k : Int)) := by omega
              have hd : decide (lastB bs k < vv) = true := by rw [lastB, if_pos hk0]; simp; omega
              have HK0 : Hid (k = 0) := hk0
              clear hk0
              rw [hd, decide_eq_true (show vv ≤ 1000000 by omega)] at hst
              cases r with
              | true =>
                have HR2 : Hid (R = substFrom (lastB bs (k + 1)) (bs.drop (k + 1)) ∧ -1 ≤ lastB bs (k + 1)) := ⟨by rw [HR.out.1, hst, lastB_succ, ← HEV.out]; simp, by rw [lastB_succ, ← HEV.out]; omega⟩
                clear hst er hd
                go_wp2_with fail
                refine wp_region_held (S := SVal wr vv q m qc b o k pv) (by kernel_rfl) ?_
                refine hTake (i := 0) (v := .pointer (some ⟨wr.heap.size, 0, none⟩)) (some 18) (by kernel_rfl) (by kernel_rfl) (by kernel_rfl) (by kernel_rfl) (by kernel_rfl) (fun _ _ _ h => h) (fun o ho W hSw => ?y0) (by assumption) ?_
                case y0 =>
                  cases ho
                  simp [execOp, go_sem, Act.eval]
                simp only [Act.put, List.setIfInBounds_toArray, List.set_cons_zero, List.set_cons_succ]
                refine hTake (i := 1) (v := .int .i64 vv) (some 19) (by kernel_rfl) (by kernel_rfl) (by kernel_rfl) (by kernel_rfl) (by kernel_rfl) (fun _ _ _ h => h) (fun o ho W hSw => ?y1) (by assumption) ?_
                case y1 =>
                  cases ho
                  simp [execOp, go_sem, Act.eval, hSw.1]
                simp only [Act.put, List.setIfInBounds_toArray, List.set_cons_zero, List.set_cons_succ]
                refine hTake (i := 2) (v := .bool false) (some 20) (by kernel_rfl) (by kernel_rfl) (by kernel_rfl) (by kernel_rfl) (by kernel_rfl) (fun _ _ _ h => h) (fun o ho W hSw => ?y2) (by assumption) ?_
                case y2 =>
                  cases ho
                  simp [execOp, go_sem, Act.eval, hlow]
                simp only [Act.put, List.setIfInBounds_toArray, List.set_cons_zero, List.set_cons_succ]
                refine hTake (i := 3) (v := .bool false) (some 21) (by kernel_rfl) (by kernel_rfl) (by kernel_rfl) (by kernel_rfl) (by kernel_rfl) (fun _ _ _ h => h) (fun o ho W hSw => ?y3) (by assumption) ?_
                case y3 =>
                  cases ho
                  simp [execOp, go_sem, Act.eval]
                simp only [Act.put, List.setIfInBounds_toArray, List.set_cons_zero, List.set_cons_succ]
                refine hTake (i := 4) (v := .pointer (some ⟨wr.heap.size, 0, none⟩)) (some 22) (by kernel_rfl) (by kernel_rfl) (by kernel_rfl) (by kernel_rfl) (by kernel_rfl) (fun _ _ _ h => h) (fun o ho W hSw => ?y4) (by assumption) ?_
                case y4 =>
                  cases ho
                  simp [execOp, go_sem, Act.eval]
                simp only [Act.put, List.setIfInBounds_toArray, List.set_cons_zero, List.set_cons_succ]
                refine hTake (i := 5) (v := .int .i64 vv) (some 23) (by kernel_rfl) (by kernel_rfl) (by kernel_rfl) (by kernel_rfl) (by kernel_rfl) (fun _ _ _ h => h) (fun o ho W hSw => ?y5) (by assumption) ?_
                case y5 =>
                  cases ho
                  simp [execOp, go_sem, Act.eval, hSw.1]
                simp only [Act.put, List.setIfInBounds_toArray, List.set_cons_zero, List.set_cons_succ]
                refine hTake (i := 6) (v := .bool false) (some 24) (by kernel_rfl) (by kernel_rfl) (by kernel_rfl) (by kernel_rfl) (by kernel_rfl) (fun _ _ _ h => h) (fun o ho W hSw => ?y6) (by assumption) ?_
                case y6 =>
                  cases ho
                  simp [execOp, go_sem, Act.eval, hhigh]
                simp only [Act.put, List.setIfInBounds_toArray, List.set_cons_zero, List.set_cons_succ]
                refine hTake (i := 7) (v := .bool false) (some 25) (by kernel_rfl) (by kernel_rfl) (by kernel_rfl) (by kernel_rfl) (by kernel_rfl) (fun _ _ _ h => h) (fun o ho W hSw => ?y7) (by assumption) ?_
                case y7 =>
                  cases ho
                  simp [execOp, go_sem, Act.eval]
                simp only [Act.put, List.setIfInBounds_toArray, List.set_cons_zero, List.set_cons_succ]
                refine hTake (i := 8) (v := .bool false) (some 26) (by kernel_rfl) (by kernel_rfl) (by kernel_rfl) (by kernel_rfl) (by kernel_rfl) (fun _ _ _ h => h) (fun o ho W hSw => ?y8) (by assumption) ?_
                case y8 =>
                  cases ho
                  simp [execOp, go_sem, Act.eval]
                simp only [Act.put, List.setIfInBounds_toArray, List.set_cons_zero, List.set_cons_succ]
                refine hTake (i := 9) (v := .int .i64 (k : Int)) (some 27) (by kernel_rfl) (by kernel_rfl) (by kernel_rfl) (by kernel_rfl) (by kernel_rfl) (fun _ _ _ h => h) (fun o ho W hSw => ?y9) (by assumption) ?_
                case y9 =>
                  cases ho
                  simp [execOp, go_sem, Act.eval]
                simp only [Act.put, List.setIfInBounds_toArray, List.set_cons_zero, List.set_cons_succ]
                refine hTake (i := 10) (v := .bool false) (some 28) (by kernel_rfl) (by kernel_rfl) (by kernel_rfl) (by kernel_rfl) (by kernel_rfl) (fun _ _ _ h => h) (fun o ho W hSw => ?y10) (by assumption) ?_
                case y10 =>
                  cases ho
                  simp [execOp, go_sem, Act.eval, HK0.out]
                simp only [Act.put, List.setIfInBounds_toArray, List.set_cons_zero, List.set_cons_succ]
                refine hTake (i := 11) (v := .bool false) (some 29) (by kernel_rfl) (by kernel_rfl) (by kernel_rfl) (by kernel_rfl) (by kernel_rfl) (fun _ _ _ h => h) (fun o ho W hSw => ?y11) (by assumption) ?_
                case y11 =>
                  cases ho
                  simp [execOp, go_sem, Act.eval]
                simp only [Act.put, List.setIfInBounds_toArray, List.set_cons_zero, List.set_cons_succ]
                refine hSkip (i := 12) (some 30) (by kernel_rfl) (by kernel_rfl) (by kernel_rfl) (by kernel_rfl) (by kernel_rfl) (fun _ _ _ h => h) (by assumption) ?_
                simp only [Act.put, List.setIfInBounds_toArray, List.set_cons_zero, List.set_cons_succ]
                refine hSkip (i := 13) (some 31) (by kernel_rfl) (by kernel_rfl) (by kernel_rfl) (by kernel_rfl) (by kernel_rfl) (fun _ _ _ h => h) (by assumption) ?_
                simp only [Act.put, List.setIfInBounds_toArray, List.set_cons_zero, List.set_cons_succ]
                refine hSkip (i := 14) (some 32) (by kernel_rfl) (by kernel_rfl) (by kernel_rfl) (by kernel_rfl) (by kernel_rfl) (fun _ _ _ h => h) (by assumption) ?_
                simp only [Act.put, List.setIfInBounds_toArray, List.set_cons_zero, List.set_cons_succ]
                refine hSkip (i := 15) (some 33) (by kernel_rfl) (by kernel_rfl) (by kernel_rfl) (by kernel_rfl) (by kernel_rfl) (fun _ _ _ h => h) (by assumption) ?_
                simp only [Act.put, List.setIfInBounds_toArray, List.set_cons_zero, List.set_cons_succ]
                refine hSkip (i := 16) (some 34) (by kernel_rfl) (by kernel_rfl) (by kernel_rfl) (by kernel_rfl) (by kernel_rfl) (fun _ _ _ h => h) (by assumption) ?_
                simp only [Act.put, List.setIfInBounds_toArray, List.set_cons_zero, List.set_cons_succ]
                refine hSkip (i := 17) (some 35) (by kernel_rfl) (by kernel_rfl) (by kernel_rfl) (by kernel_rfl) (by kernel_rfl) (fun _ _ _ h => h) (by assumption) ?_
                simp only [Act.put, List.setIfInBounds_toArray, List.set_cons_zero, List.set_cons_succ]
                refine hSkip (i := 18) (some 36) (by kernel_rfl) (by kernel_rfl) (by kernel_rfl) (by kernel_rfl) (by kernel_rfl) (fun _ _ _ h => h) (by assumption) ?_
                simp only [Act.put, List.setIfInBounds_toArray, List.set_cons_zero, List.set_cons_succ]
                refine hSkip (i := 19) (some 37) (by kernel_rfl) (by kernel_rfl) (by kernel_rfl) (by kernel_rfl) (by kernel_rfl) (fun _ _ _ h => h) (by assumption) ?_
                simp only [Act.put, List.setIfInBounds_toArray, List.set_cons_zero, List.set_cons_succ]
                refine hSkip (i := 20) (some 38) (by kernel_rfl) (by kernel_rfl) (by kernel_rfl) (by kernel_rfl) (by kernel_rfl) (fun _ _ _ h => h) (by assumption) ?_
                simp only [Act.put, List.setIfInBounds_toArray, List.set_cons_zero, List.set_cons_succ]
                refine hTake (i := 21) (v := .bool false) (some 39) (by kernel_rfl) (by kernel_rfl) (by kernel_rfl) (by kernel_rfl) (by kernel_rfl) (fun _ _ _ h => h) (fun o ho W hSw => ?y21) (by assumption) ?_
                case y21 =>
                  cases ho
                  simp [execOp, go_sem, Act.eval]
                simp only [Act.put, List.setIfInBounds_toArray, List.set_cons_zero, List.set_cons_succ]
                refine hTake (i := 22) (v := .bool false) (some 40) (by kernel_rfl) (by kernel_rfl) (by kernel_rfl) (by kernel_rfl) (by kernel_rfl) (fun _ _ _ h => h) (fun o ho W hSw => ?y22) (by assumption) ?_
                case y22 =>
                  cases ho
                  simp [execOp, go_sem, Act.eval]
                simp only [Act.put, List.setIfInBounds_toArray, List.set_cons_zero, List.set_cons_succ]
                refine hTake (i := 23) (v := .bool false) (some 41) (by kernel_rfl) (by kernel_rfl) (by kernel_rfl) (by kernel_rfl) (by kernel_rfl) (fun _ _ _ h => h) (fun o ho W hSw => ?y23) (by assumption) ?_
                case y23 =>
                  cases ho
                  simp [execOp, go_sem, Act.eval]
                simp only [Act.put, List.setIfInBounds_toArray, List.set_cons_zero, List.set_cons_succ]
                refine hTake (i := 24) (v := .pointer (some ⟨wr.heap.size, 1, none⟩)) (some 42) (by kernel_rfl) (by kernel_rfl) (by kernel_rfl) (by kernel_rfl) (by kernel_rfl) (fun _ _ _ h => h) (fun o ho W hSw => ?y24) (by assumption) ?_
                case y24 =>
                  cases ho
                  simp [execOp, go_sem, Act.eval]
                simp only [Act.put, List.setIfInBounds_toArray, List.set_cons_zero, List.set_cons_succ]
                refine hTake (i := 25) (v := .slice q m qc) (some 43) (by kernel_rfl) (by kernel_rfl) (by kernel_rfl) (by kernel_rfl) (by kernel_rfl) (fun _ _ _ h => h) (fun o ho W hSw => ?y25) (by assumption) ?_
                case y25 =>
                  cases ho
                  simp [execOp, go_sem, Act.eval, hSw.2.1]
                simp only [Act.put, List.setIfInBounds_toArray, List.set_cons_zero, List.set_cons_succ]
                refine hCall (i := 26) (f := 17) (args := #[.slice q m qc]) (v := .bool true) (T := fun w5 => Below w.heap.size w w5 ∧ SVal wr vv q m qc b o k pv w5) (some 44) (by kernel_rfl) (by kernel_rfl) (by kernel_rfl) (fun o ho => ?y26) ((HV.out _ HAD.out).mono (fun e w5 h5 => ⟨h5.1, HAFT.out w5 h5.2⟩)) (fun w5 h5 => ⟨h5.2, ?_⟩)
                case y26 =>
                  cases ho
                  simp [execOp, go_sem, Act.eval]
                simp only [Act.put, List.setIfInBounds_toArray, List.set_cons_zero, List.set_cons_succ]
                have hS5 := h5.2
                have HB5 : Hid _ := h5.1
                clear h5 hS0
                refine hTake (i := 27) (v := .bool false) (some 45) (by kernel_rfl) (by kernel_rfl) (by kernel_rfl) (by kernel_rfl) (by kernel_rfl) (fun _ _ _ h => h) (fun o ho W hSw => ?y27) (by assumption) ?_
                case y27 =>
                  cases ho
                  simp [execOp, go_sem, Act.eval]
                simp only [Act.put, List.setIfInBounds_toArray, List.set_cons_zero, List.set_cons_succ]
                refine hTake (i := 28) (v := .bool false) (some 46) (by kernel_rfl) (by kernel_rfl) (by kernel_rfl) (by kernel_rfl) (by kernel_rfl) (fun _ _ _ h => h) (fun o ho W hSw => ?y28) (by assumption) ?_
                case y28 =>
                  cases ho
                  simp [execOp, go_sem, Act.eval]
                simp only [Act.put, List.setIfInBounds_toArray, List.set_cons_zero, List.set_cons_succ]
                refine wpAnyH_done (by kernel_rfl) ?_ _
                go_wp2_with fail
                go_roundw
                case rel => exact ⟨k + 1, by omega, by go_num, HR2, HB5⟩
                case measure => simp [intOf]; omega
              | false =>
                have HR2 : Hid (R = false) := by show _ = _; rw [HR.out.1, hst]; simp
                clear hst er hd
                go_wp2_with fail
                refine wp_region_held (S := SVal wr vv q m qc b o k pv) (by kernel_rfl) ?_
                refine hTake (i := 0) (v := .pointer (some ⟨wr.heap.size, 0, none⟩)) (some 18) (by kernel_rfl) (by kernel_rfl) (by kernel_rfl) (by kernel_rfl) (by kernel_rfl) (fun _ _ _ h => h) (fun o ho W hSw => ?y0) (by assumption) ?_
                case y0 =>
                  cases ho
                  simp [execOp, go_sem, Act.eval]
                simp only [Act.put, List.setIfInBounds_toArray, List.set_cons_zero, List.set_cons_succ]
                refine hTake (i := 1) (v := .int .i64 vv) (some 19) (by kernel_rfl) (by kernel_rfl) (by kernel_rfl) (by kernel_rfl) (by kernel_rfl) (fun _ _ _ h => h) (fun o ho W hSw => ?y1) (by assumption) ?_
                case y1 =>
                  cases ho
                  simp [execOp, go_sem, Act.eval, hSw.1]
                simp only [Act.put, List.setIfInBounds_toArray, List.set_cons_zero, List.set_cons_succ]
                refine hTake (i := 2) (v := .bool false) (some 20) (by kernel_rfl) (by kernel_rfl) (by kernel_rfl) (by kernel_rfl) (by kernel_rfl) (fun _ _ _ h => h) (fun o ho W hSw => ?y2) (by assumption) ?_
                case y2 =>
                  cases ho
                  simp [execOp, go_sem, Act.eval, hlow]
                simp only [Act.put, List.setIfInBounds_toArray, List.set_cons_zero, List.set_cons_succ]
                refine hTake (i := 3) (v := .bool false) (some 21) (by kernel_rfl) (by kernel_rfl) (by kernel_rfl) (by kernel_rfl) (by kernel_rfl) (fun _ _ _ h => h) (fun o ho W hSw => ?y3) (by assumption) ?_
                case y3 =>
                  cases ho
                  simp [execOp, go_sem, Act.eval]
                simp only [Act.put, List.setIfInBounds_toArray, List.set_cons_zero, List.set_cons_succ]
                refine hTake (i := 4) (v := .pointer (some ⟨wr.heap.size, 0, none⟩)) (some 22) (by kernel_rfl) (by kernel_rfl) (by kernel_rfl) (by kernel_rfl) (by kernel_rfl) (fun _ _ _ h => h) (fun o ho W hSw => ?y4) (by assumption) ?_
                case y4 =>
                  cases ho
                  simp [execOp, go_sem, Act.eval]
                simp only [Act.put, List.setIfInBounds_toArray, List.set_cons_zero, List.set_cons_succ]
                refine hTake (i := 5) (v := .int .i64 vv) (some 23) (by kernel_rfl) (by kernel_rfl) (by kernel_rfl) (by kernel_rfl) (by kernel_rfl) (fun _ _ _ h => h) (fun o ho W hSw => ?y5) (by assumption) ?_
                case y5 =>
                  cases ho
                  simp [execOp, go_sem, Act.eval, hSw.1]
                simp only [Act.put, List.setIfInBounds_toArray, List.set_cons_zero, List.set_cons_succ]
                refine hTake (i := 6) (v := .bool false) (some 24) (by kernel_rfl) (by kernel_rfl) (by kernel_rfl) (by kernel_rfl) (by kernel_rfl) (fun _ _ _ h => h) (fun o ho W hSw => ?y6) (by assumption) ?_
                case y6 =>
                  cases ho
                  simp [execOp, go_sem, Act.eval, hhigh]
                simp only [Act.put, List.setIfInBounds_toArray, List.set_cons_zero, List.set_cons_succ]
                refine hTake (i := 7) (v := .bool false) (some 25) (by kernel_rfl) (by kernel_rfl) (by kernel_rfl) (by kernel_rfl) (by kernel_rfl) (fun _ _ _ h => h) (fun o ho W hSw => ?y7) (by assumption) ?_
                case y7 =>
                  cases ho
                  simp [execOp, go_sem, Act.eval]
                simp only [Act.put, List.setIfInBounds_toArray, List.set_cons_zero, List.set_cons_succ]
                refine hTake (i := 8) (v := .bool false) (some 26) (by kernel_rfl) (by kernel_rfl) (by kernel_rfl) (by kernel_rfl) (by kernel_rfl) (fun _ _ _ h => h) (fun o ho W hSw => ?y8) (by assumption) ?_
                case y8 =>
                  cases ho
                  simp [execOp, go_sem, Act.eval]
                simp only [Act.put, List.setIfInBounds_toArray, List.set_cons_zero, List.set_cons_succ]
                refine hTake (i := 9) (v := .int .i64 (k : Int)) (some 27) (by kernel_rfl) (by kernel_rfl) (by kernel_rfl) (by kernel_rfl) (by kernel_rfl) (fun _ _ _ h => h) (fun o ho W hSw => ?y9) (by assumption) ?_
                case y9 =>
                  cases ho
                  simp [execOp, go_sem, Act.eval]
                simp only [Act.put, List.setIfInBounds_toArray, List.set_cons_zero, List.set_cons_succ]
                refine hTake (i := 10) (v := .bool false) (some 28) (by kernel_rfl) (by kernel_rfl) (by kernel_rfl) (by kernel_rfl) (by kernel_rfl) (fun _ _ _ h => h) (fun o ho W hSw => ?y10) (by assumption) ?_
                case y10 =>
                  cases ho
                  simp [execOp, go_sem, Act.eval, HK0.out]
                simp only [Act.put, List.setIfInBounds_toArray, List.set_cons_zero, List.set_cons_succ]
                refine hTake (i := 11) (v := .bool false) (some 29) (by kernel_rfl) (by kernel_rfl) (by kernel_rfl) (by kernel_rfl) (by kernel_rfl) (fun _ _ _ h => h) (fun o ho W hSw => ?y11) (by assumption) ?_
                case y11 =>
                  cases ho
                  simp [execOp, go_sem, Act.eval]
                simp only [Act.put, List.setIfInBounds_toArray, List.set_cons_zero, List.set_cons_succ]
                refine hSkip (i := 12) (some 30) (by kernel_rfl) (by kernel_rfl) (by kernel_rfl) (by kernel_rfl) (by kernel_rfl) (fun _ _ _ h => h) (by assumption) ?_
                simp only [Act.put, List.setIfInBounds_toArray, List.set_cons_zero, List.set_cons_succ]
                refine hSkip (i := 13) (some 31) (by kernel_rfl) (by kernel_rfl) (by kernel_rfl) (by kernel_rfl) (by kernel_rfl) (fun _ _ _ h => h) (by assumption) ?_
                simp only [Act.put, List.setIfInBounds_toArray, List.set_cons_zero, List.set_cons_succ]
                refine hSkip (i := 14) (some 32) (by kernel_rfl) (by kernel_rfl) (by kernel_rfl) (by kernel_rfl) (by kernel_rfl) (fun _ _ _ h => h) (by assumption) ?_
                simp only [Act.put, List.setIfInBounds_toArray, List.set_cons_zero, List.set_cons_succ]
                refine hSkip (i := 15) (some 33) (by kernel_rfl) (by kernel_rfl) (by kernel_rfl) (by kernel_rfl) (by kernel_rfl) (fun _ _ _ h => h) (by assumption) ?_
                simp only [Act.put, List.setIfInBounds_toArray, List.set_cons_zero, List.set_cons_succ]
                refine hSkip (i := 16) (some 34) (by kernel_rfl) (by kernel_rfl) (by kernel_rfl) (by kernel_rfl) (by kernel_rfl) (fun _ _ _ h => h) (by assumption) ?_
                simp only [Act.put, List.setIfInBounds_toArray, List.set_cons_zero, List.set_cons_succ]
                refine hSkip (i := 17) (some 35) (by kernel_rfl) (by kernel_rfl) (by kernel_rfl) (by kernel_rfl) (by kernel_rfl) (fun _ _ _ h => h) (by assumption) ?_
                simp only [Act.put, List.setIfInBounds_toArray, List.set_cons_zero, List.set_cons_succ]
                refine hSkip (i := 18) (some 36) (by kernel_rfl) (by kernel_rfl) (by kernel_rfl) (by kernel_rfl) (by kernel_rfl) (fun _ _ _ h => h) (by assumption) ?_
                simp only [Act.put, List.setIfInBounds_toArray, List.set_cons_zero, List.set_cons_succ]
                refine hSkip (i := 19) (some 37) (by kernel_rfl) (by kernel_rfl) (by kernel_rfl) (by kernel_rfl) (by kernel_rfl) (fun _ _ _ h => h) (by assumption) ?_
                simp only [Act.put, List.setIfInBounds_toArray, List.set_cons_zero, List.set_cons_succ]
                refine hSkip (i := 20) (some 38) (by kernel_rfl) (by kernel_rfl) (by kernel_rfl) (by kernel_rfl) (by kernel_rfl) (fun _ _ _ h => h) (by assumption) ?_
                simp only [Act.put, List.setIfInBounds_toArray, List.set_cons_zero, List.set_cons_succ]
                refine hTake (i := 21) (v := .bool false) (some 39) (by kernel_rfl) (by kernel_rfl) (by kernel_rfl) (by kernel_rfl) (by kernel_rfl) (fun _ _ _ h => h) (fun o ho W hSw => ?y21) (by assumption) ?_
                case y21 =>
                  cases ho
                  simp [execOp, go_sem, Act.eval]
                simp only [Act.put, List.setIfInBounds_toArray, List.set_cons_zero, List.set_cons_succ]
                refine hTake (i := 22) (v := .bool false) (some 40) (by kernel_rfl) (by kernel_rfl) (by kernel_rfl) (by kernel_rfl) (by kernel_rfl) (fun _ _ _ h => h) (fun o ho W hSw => ?y22) (by assumption) ?_
                case y22 =>
                  cases ho
                  simp [execOp, go_sem, Act.eval]
                simp only [Act.put, List.setIfInBounds_toArray, List.set_cons_zero, List.set_cons_succ]
                refine hTake (i := 23) (v := .bool false) (some 41) (by kernel_rfl) (by kernel_rfl) (by kernel_rfl) (by kernel_rfl) (by kernel_rfl) (fun _ _ _ h => h) (fun o ho W hSw => ?y23) (by assumption) ?_
                case y23 =>
                  cases ho
                  simp [execOp, go_sem, Act.eval]
                simp only [Act.put, List.setIfInBounds_toArray, List.set_cons_zero, List.set_cons_succ]
                refine hTake (i := 24) (v := .pointer (some ⟨wr.heap.size, 1, none⟩)) (some 42) (by kernel_rfl) (by kernel_rfl) (by kernel_rfl) (by kernel_rfl) (by kernel_rfl) (fun _ _ _ h => h) (fun o ho W hSw => ?y24) (by assumption) ?_
                case y24 =>
                  cases ho
                  simp [execOp, go_sem, Act.eval]
                simp only [Act.put, List.setIfInBounds_toArray, List.set_cons_zero, List.set_cons_succ]
                refine hTake (i := 25) (v := .slice q m qc) (some 43) (by kernel_rfl) (by kernel_rfl) (by kernel_rfl) (by kernel_rfl) (by kernel_rfl) (fun _ _ _ h => h) (fun o ho W hSw => ?y25) (by assumption) ?_
                case y25 =>
                  cases ho
                  simp [execOp, go_sem, Act.eval, hSw.2.1]
                simp only [Act.put, List.setIfInBounds_toArray, List.set_cons_zero, List.set_cons_succ]
                refine hCall (i := 26) (f := 17) (args := #[.slice q m qc]) (v := .bool false) (T := fun w5 => Below w.heap.size w w5 ∧ SVal wr vv q m qc b o k pv w5) (some 44) (by kernel_rfl) (by kernel_rfl) (by kernel_rfl) (fun o ho => ?y26) ((HV.out _ HAD.out).mono (fun e w5 h5 => ⟨h5.1, HAFT.out w5 h5.2⟩)) (fun w5 h5 => ⟨h5.2, ?_⟩)
                case y26 =>
                  cases ho
                  simp [execOp, go_sem, Act.eval]
                simp only [Act.put, List.setIfInBounds_toArray, List.set_cons_zero, List.set_cons_succ]
                have hS5 := h5.2
                have HB5 : Hid _ := h5.1
                clear h5 hS0
                refine hTake (i := 27) (v := .bool true) (some 45) (by kernel_rfl) (by kernel_rfl) (by kernel_rfl) (by kernel_rfl) (by kernel_rfl) (fun _ _ _ h => h) (fun o ho W hSw => ?y27) (by assumption) ?_
                case y27 =>
                  cases ho
                  simp [execOp, go_sem, Act.eval]
                simp only [Act.put, List.setIfInBounds_toArray, List.set_cons_zero, List.set_cons_succ]
                refine hTake (i := 28) (v := .bool true) (some 46) (by kernel_rfl) (by kernel_rfl) (by kernel_rfl) (by kernel_rfl) (by kernel_rfl) (fun _ _ _ h => h) (fun o ho W hSw => ?y28) (by assumption) ?_
                case y28 =>
                  cases ho
                  simp [execOp, go_sem, Act.eval]
                simp only [Act.put, List.setIfInBounds_toArray, List.set_cons_zero, List.set_cons_succ]
                refine wpAnyH_done (by kernel_rfl) ?_ _
                go_wp2_with fail
                go_ret
                exact ⟨ret_bool HR2.out.symm, HB5.out⟩
            · have hpos : (0 : Int) < (k : Int) := by omega
              have hposN : 0 < k := by omega
              have hk1 : ¬ ((k : Int) < 1) := by omega
              have hsub : IntKind.i64.wrap ((k : Int) - 1) = (k : Int) - 1 := wrapSmall (by omega) (by omega)
              have hix0 : (0 : Int) ≤ (k : Int) - 1 := by omega
              have hix1 : (k : Int) - 1 < (n : Int) := by omega
              have hixe : ((k : Int) - 1).toNat = k - 1 := by omega
              have hla := HLA.out
              rw [if_neg hk0] at hla
              rw [hla] at hst
              by_cases hge : vv ≤ pv
              · have HR2 : Hid (R = false) := by show _ = _; rw [HR.out.1, hla, hst, decide_eq_false (show ¬ pv < vv by omega)]; simp
                clear hst er
                go_wp2_with fail
                refine wp_region_held (S := SVal wr vv q m qc b o k pv) (by kernel_rfl) ?_
                refine hTake (i := 0) (v := .pointer (some ⟨wr.heap.size, 0, none⟩)) (some 18) (by kernel_rfl) (by kernel_rfl) (by kernel_rfl) (by kernel_rfl) (by kernel_rfl) (fun _ _ _ h => h) (fun o ho W hSw => ?y0) (by assumption) ?_
                case y0 =>
                  cases ho
                  simp [execOp, go_sem, Act.eval]
                simp only [Act.put, List.setIfInBounds_toArray, List.set_cons_zero, List.set_cons_succ]
                refine hTake (i := 1) (v := .int .i64 vv) (some 19) (by kernel_rfl) (by kernel_rfl) (by kernel_rfl) (by kernel_rfl) (by kernel_rfl) (fun _ _ _ h => h) (fun o ho W hSw => ?y1) (by assumption) ?_
                case y1 =>
                  cases ho
                  simp [execOp, go_sem, Act.eval, hSw.1]
                simp only [Act.put, List.setIfInBounds_toArray, List.set_cons_zero, List.set_cons_succ]
                refine hTake (i := 2) (v := .bool false) (some 20) (by kernel_rfl) (by kernel_rfl) (by kernel_rfl) (by kernel_rfl) (by kernel_rfl) (fun _ _ _ h => h) (fun o ho W hSw => ?y2) (by assumption) ?_
                case y2 =>
                  cases ho
                  simp [execOp, go_sem, Act.eval, hlow]
                simp only [Act.put, List.setIfInBounds_toArray, List.set_cons_zero, List.set_cons_succ]
                refine hTake (i := 3) (v := .bool false) (some 21) (by kernel_rfl) (by kernel_rfl) (by kernel_rfl) (by kernel_rfl) (by kernel_rfl) (fun _ _ _ h => h) (fun o ho W hSw => ?y3) (by assumption) ?_
                case y3 =>
                  cases ho
                  simp [execOp, go_sem, Act.eval]
                simp only [Act.put, List.setIfInBounds_toArray, List.set_cons_zero, List.set_cons_succ]
                refine hTake (i := 4) (v := .pointer (some ⟨wr.heap.size, 0, none⟩)) (some 22) (by kernel_rfl) (by kernel_rfl) (by kernel_rfl) (by kernel_rfl) (by kernel_rfl) (fun _ _ _ h => h) (fun o ho W hSw => ?y4) (by assumption) ?_
                case y4 =>
                  cases ho
                  simp [execOp, go_sem, Act.eval]
                simp only [Act.put, List.setIfInBounds_toArray, List.set_cons_zero, List.set_cons_succ]
                refine hTake (i := 5) (v := .int .i64 vv) (some 23) (by kernel_rfl) (by kernel_rfl) (by kernel_rfl) (by kernel_rfl) (by kernel_rfl) (fun _ _ _ h => h) (fun o ho W hSw => ?y5) (by assumption) ?_
                case y5 =>
                  cases ho
                  simp [execOp, go_sem, Act.eval, hSw.1]
                simp only [Act.put, List.setIfInBounds_toArray, List.set_cons_zero, List.set_cons_succ]
                refine hTake (i := 6) (v := .bool false) (some 24) (by kernel_rfl) (by kernel_rfl) (by kernel_rfl) (by kernel_rfl) (by kernel_rfl) (fun _ _ _ h => h) (fun o ho W hSw => ?y6) (by assumption) ?_
                case y6 =>
                  cases ho
                  simp [execOp, go_sem, Act.eval, hhigh]
                simp only [Act.put, List.setIfInBounds_toArray, List.set_cons_zero, List.set_cons_succ]
                refine hTake (i := 7) (v := .bool false) (some 25) (by kernel_rfl) (by kernel_rfl) (by kernel_rfl) (by kernel_rfl) (by kernel_rfl) (fun _ _ _ h => h) (fun o ho W hSw => ?y7) (by assumption) ?_
                case y7 =>
                  cases ho
                  simp [execOp, go_sem, Act.eval]
                simp only [Act.put, List.setIfInBounds_toArray, List.set_cons_zero, List.set_cons_succ]
                refine hTake (i := 8) (v := .bool false) (some 26) (by kernel_rfl) (by kernel_rfl) (by kernel_rfl) (by kernel_rfl) (by kernel_rfl) (fun _ _ _ h => h) (fun o ho W hSw => ?y8) (by assumption) ?_
                case y8 =>
                  cases ho
                  simp [execOp, go_sem, Act.eval]
                simp only [Act.put, List.setIfInBounds_toArray, List.set_cons_zero, List.set_cons_succ]
                refine hTake (i := 9) (v := .int .i64 (k : Int)) (some 27) (by kernel_rfl) (by kernel_rfl) (by kernel_rfl) (by kernel_rfl) (by kernel_rfl) (fun _ _ _ h => h) (fun o ho W hSw => ?y9) (by assumption) ?_
                case y9 =>
                  cases ho
                  simp [execOp, go_sem, Act.eval]
                simp only [Act.put, List.setIfInBounds_toArray, List.set_cons_zero, List.set_cons_succ]
                refine hTake (i := 10) (v := .bool true) (some 28) (by kernel_rfl) (by kernel_rfl) (by kernel_rfl) (by kernel_rfl) (by kernel_rfl) (fun _ _ _ h => h) (fun o ho W hSw => ?y10) (by assumption) ?_
                case y10 =>
                  cases ho
                  simp [execOp, go_sem, Act.eval, hposN]
                simp only [Act.put, List.setIfInBounds_toArray, List.set_cons_zero, List.set_cons_succ]
                refine hTake (i := 11) (v := .bool true) (some 29) (by kernel_rfl) (by kernel_rfl) (by kernel_rfl) (by kernel_rfl) (by kernel_rfl) (fun _ _ _ h => h) (fun o ho W hSw => ?y11) (by assumption) ?_
                case y11 =>
                  cases ho
                  simp [execOp, go_sem, Act.eval]
                simp only [Act.put, List.setIfInBounds_toArray, List.set_cons_zero, List.set_cons_succ]
                refine hTake (i := 12) (v := .slice (some ⟨b, o, none⟩) n c) (some 30) (by kernel_rfl) (by kernel_rfl) (by kernel_rfl) (by kernel_rfl) (by kernel_rfl) (fun _ _ _ h => h) (fun o ho W hSw => ?y12) (by assumption) ?_
                case y12 =>
                  cases ho
                  simp [execOp, go_sem, Act.eval]
                simp only [Act.put, List.setIfInBounds_toArray, List.set_cons_zero, List.set_cons_succ]
                refine hTake (i := 13) (v := .int .i64 (k : Int)) (some 31) (by kernel_rfl) (by kernel_rfl) (by kernel_rfl) (by kernel_rfl) (by kernel_rfl) (fun _ _ _ h => h) (fun o ho W hSw => ?y13) (by assumption) ?_
                case y13 =>
                  cases ho
                  simp [execOp, go_sem, Act.eval]
                simp only [Act.put, List.setIfInBounds_toArray, List.set_cons_zero, List.set_cons_succ]
                refine hTake (i := 14) (v := .int .i64 ((k : Int) - 1)) (some 32) (by kernel_rfl) (by kernel_rfl) (by kernel_rfl) (by kernel_rfl) (by kernel_rfl) (fun _ _ _ h => h) (fun o ho W hSw => ?y14) (by assumption) ?_
                case y14 =>
                  cases ho
                  simp [execOp, go_sem, Act.eval, hsub]
                simp only [Act.put, List.setIfInBounds_toArray, List.set_cons_zero, List.set_cons_succ]
                refine hTake (i := 15) (v := .pointer (some ⟨b, o + (k - 1) * 2, none⟩)) (some 33) (by kernel_rfl) (by kernel_rfl) (by kernel_rfl) (by kernel_rfl) (by kernel_rfl) (fun _ _ _ h => h) (fun o ho W hSw => ?y15) (by assumption) ?_
                case y15 =>
                  cases ho
                  simp [execOp, go_sem, Act.eval, hix1, hixe, hk1]
                simp only [Act.put, List.setIfInBounds_toArray, List.set_cons_zero, List.set_cons_succ]
                refine hTake (i := 16) (v := .pointer (some ⟨b, o + (k - 1) * 2, none⟩)) (some 34) (by kernel_rfl) (by kernel_rfl) (by kernel_rfl) (by kernel_rfl) (by kernel_rfl) (fun _ _ _ h => h) (fun o ho W hSw => ?y16) (by assumption) ?_
                case y16 =>
                  cases ho
                  simp [execOp, go_sem, Act.eval]
                simp only [Act.put, List.setIfInBounds_toArray, List.set_cons_zero, List.set_cons_succ]
                refine hTake (i := 17) (v := .int .i64 pv) (some 35) (by kernel_rfl) (by kernel_rfl) (by kernel_rfl) (by kernel_rfl) (by kernel_rfl) (fun _ _ _ h => h) (fun o ho W hSw => ?y17) (by assumption) ?_
                case y17 =>
                  cases ho
                  simp [execOp, go_sem, Act.eval, hSw.2.2]
                simp only [Act.put, List.setIfInBounds_toArray, List.set_cons_zero, List.set_cons_succ]
                refine hTake (i := 18) (v := .pointer (some ⟨wr.heap.size, 0, none⟩)) (some 36) (by kernel_rfl) (by kernel_rfl) (by kernel_rfl) (by kernel_rfl) (by kernel_rfl) (fun _ _ _ h => h) (fun o ho W hSw => ?y18) (by assumption) ?_
                case y18 =>
                  cases ho
                  simp [execOp, go_sem, Act.eval]
                simp only [Act.put, List.setIfInBounds_toArray, List.set_cons_zero, List.set_cons_succ]
                refine hTake (i := 19) (v := .int .i64 vv) (some 37) (by kernel_rfl) (by kernel_rfl) (by kernel_rfl) (by kernel_rfl) (by kernel_rfl) (fun _ _ _ h => h) (fun o ho W hSw => ?y19) (by assumption) ?_
                case y19 =>
                  cases ho
                  simp [execOp, go_sem, Act.eval, hSw.1]
                simp only [Act.put, List.setIfInBounds_toArray, List.set_cons_zero, List.set_cons_succ]
                refine hTake (i := 20) (v := .bool true) (some 38) (by kernel_rfl) (by kernel_rfl) (by kernel_rfl) (by kernel_rfl) (by kernel_rfl) (fun _ _ _ h => h) (fun o ho W hSw => ?y20) (by assumption) ?_
                case y20 =>
                  cases ho
                  simp [execOp, go_sem, Act.eval, hge]
                simp only [Act.put, List.setIfInBounds_toArray, List.set_cons_zero, List.set_cons_succ]
                refine hTake (i := 21) (v := .bool true) (some 39) (by kernel_rfl) (by kernel_rfl) (by kernel_rfl) (by kernel_rfl) (by kernel_rfl) (fun _ _ _ h => h) (fun o ho W hSw => ?y21) (by assumption) ?_
                case y21 =>
                  cases ho
                  simp [execOp, go_sem, Act.eval]
                simp only [Act.put, List.setIfInBounds_toArray, List.set_cons_zero, List.set_cons_succ]
                refine hTake (i := 22) (v := .bool true) (some 40) (by kernel_rfl) (by kernel_rfl) (by kernel_rfl) (by kernel_rfl) (by kernel_rfl) (fun _ _ _ h => h) (fun o ho W hSw => ?y22) (by assumption) ?_
                case y22 =>
                  cases ho
                  simp [execOp, go_sem, Act.eval]
                simp only [Act.put, List.setIfInBounds_toArray, List.set_cons_zero, List.set_cons_succ]
                refine hTake (i := 23) (v := .bool true) (some 41) (by kernel_rfl) (by kernel_rfl) (by kernel_rfl) (by kernel_rfl) (by kernel_rfl) (fun _ _ _ h => h) (fun o ho W hSw => ?y23) (by assumption) ?_
                case y23 =>
                  cases ho
                  simp [execOp, go_sem, Act.eval]
                simp only [Act.put, List.setIfInBounds_toArray, List.set_cons_zero, List.set_cons_succ]
                refine hSkip (i := 24) (some 42) (by kernel_rfl) (by kernel_rfl) (by kernel_rfl) (by kernel_rfl) (by kernel_rfl) (fun _ _ _ h => h) (by assumption) ?_
                simp only [Act.put, List.setIfInBounds_toArray, List.set_cons_zero, List.set_cons_succ]
                refine hSkip (i := 25) (some 43) (by kernel_rfl) (by kernel_rfl) (by kernel_rfl) (by kernel_rfl) (by kernel_rfl) (fun _ _ _ h => h) (by assumption) ?_
                simp only [Act.put, List.setIfInBounds_toArray, List.set_cons_zero, List.set_cons_succ]
                refine hSkip (i := 26) (some 44) (by kernel_rfl) (by kernel_rfl) (by kernel_rfl) (by kernel_rfl) (by kernel_rfl) (fun _ _ _ h => h) (by assumption) ?_
                simp only [Act.put, List.setIfInBounds_toArray, List.set_cons_zero, List.set_cons_succ]
                refine hSkip (i := 27) (some 45) (by kernel_rfl) (by kernel_rfl) (by kernel_rfl) (by kernel_rfl) (by kernel_rfl) (fun _ _ _ h => h) (by assumption) ?_
                simp only [Act.put, List.setIfInBounds_toArray, List.set_cons_zero, List.set_cons_succ]
                refine hTake (i := 28) (v := .bool true) (some 46) (by kernel_rfl) (by kernel_rfl) (by kernel_rfl) (by kernel_rfl) (by kernel_rfl) (fun _ _ _ h => h) (fun o ho W hSw => ?y28) (by assumption) ?_
                case y28 =>
                  cases ho
                  simp [execOp, go_sem, Act.eval]
                simp only [Act.put, List.setIfInBounds_toArray, List.set_cons_zero, List.set_cons_succ]
                refine wpAnyH_done (by kernel_rfl) ?_ _
                change Exit.then _ _ _ _ (wr.alloc (.cells #[.int .i64 vv, .slice q m qc] 33)).drew
                go_wp2_with fail
                go_ret
                exact ⟨ret_bool HR2.out.symm, HBA.out⟩
              · rw [decide_eq_true (show pv < vv by omega), decide_eq_true (show vv ≤ 1000000 by omega)] at hst
                cases r with
                | true =>
                  have HR2 : Hid (R = substFrom (lastB bs (k + 1)) (bs.drop (k + 1)) ∧ -1 ≤ lastB bs (k + 1)) := ⟨by rw [HR.out.1, hla, hst, lastB_succ, ← HEV.out]; simp, by rw [lastB_succ, ← HEV.out]; omega⟩
                  clear hst er
                  go_wp2_with fail
                  refine wp_region_held (S := SVal wr vv q m qc b o k pv) (by kernel_rfl) ?_
                  refine hTake (i := 0) (v := .pointer (some ⟨wr.heap.size, 0, none⟩)) (some 18) (by kernel_rfl) (by kernel_rfl) (by kernel_rfl) (by kernel_rfl) (by kernel_rfl) (fun _ _ _ h => h) (fun o ho W hSw => ?y0) (by assumption) ?_
                  case y0 =>
                    cases ho
                    simp [execOp, go_sem, Act.eval]
                  simp only [Act.put, List.setIfInBounds_toArray, List.set_cons_zero, List.set_cons_succ]
                  refine hTake (i := 1) (v := .int .i64 vv) (some 19) (by kernel_rfl) (by kernel_rfl) (by kernel_rfl) (by kernel_rfl) (by kernel_rfl) (fun _ _ _ h => h) (fun o ho W hSw => ?y1) (by assumption) ?_
                  case y1 =>
                    cases ho
                    simp [execOp, go_sem, Act.eval, hSw.1]
                  simp only [Act.put, List.setIfInBounds_toArray, List.set_cons_zero, List.set_cons_succ]
                  refine hTake (i := 2) (v := .bool false) (some 20) (by kernel_rfl) (by kernel_rfl) (by kernel_rfl) (by kernel_rfl) (by kernel_rfl) (fun _ _ _ h => h) (fun o ho W hSw => ?y2) (by assumption) ?_
                  case y2 =>
                    cases ho
                    simp [execOp, go_sem, Act.eval, hlow]
                  simp only [Act.put, List.setIfInBounds_toArray, List.set_cons_zero, List.set_cons_succ]
                  refine hTake (i := 3) (v := .bool false) (some 21) (by kernel_rfl) (by kernel_rfl) (by kernel_rfl) (by kernel_rfl) (by kernel_rfl) (fun _ _ _ h => h) (fun o ho W hSw => ?y3) (by assumption) ?_
                  case y3 =>
                    cases ho
                    simp [execOp, go_sem, Act.eval]
                  simp only [Act.put, List.setIfInBounds_toArray, List.set_cons_zero, List.set_cons_succ]
                  refine hTake (i := 4) (v := .pointer (some ⟨wr.heap.size, 0, none⟩)) (some 22) (by kernel_rfl) (by kernel_rfl) (by kernel_rfl) (by kernel_rfl) (by kernel_rfl) (fun _ _ _ h => h) (fun o ho W hSw => ?y4) (by assumption) ?_
                  case y4 =>
                    cases ho
                    simp [execOp, go_sem, Act.eval]
                  simp only [Act.put, List.setIfInBounds_toArray, List.set_cons_zero, List.set_cons_succ]
                  refine hTake (i := 5) (v := .int .i64 vv) (some 23) (by kernel_rfl) (by kernel_rfl) (by kernel_rfl) (by kernel_rfl) (by kernel_rfl) (fun _ _ _ h => h) (fun o ho W hSw => ?y5) (by assumption) ?_
                  case y5 =>
                    cases ho
                    simp [execOp, go_sem, Act.eval, hSw.1]
                  simp only [Act.put, List.setIfInBounds_toArray, List.set_cons_zero, List.set_cons_succ]
                  refine hTake (i := 6) (v := .bool false) (some 24) (by kernel_rfl) (by kernel_rfl) (by kernel_rfl) (by kernel_rfl) (by kernel_rfl) (fun _ _ _ h => h) (fun o ho W hSw => ?y6) (by assumption) ?_
                  case y6 =>
                    cases ho
                    simp [execOp, go_sem, Act.eval, hhigh]
                  simp only [Act.put, List.setIfInBounds_toArray, List.set_cons_zero, List.set_cons_succ]
                  refine hTake (i := 7) (v := .bool false) (some 25) (by kernel_rfl) (by kernel_rfl) (by kernel_rfl) (by kernel_rfl) (by kernel_rfl) (fun _ _ _ h => h) (fun o ho W hSw => ?y7) (by assumption) ?_
                  case y7 =>
                    cases ho
                    simp [execOp, go_sem, Act.eval]
                  simp only [Act.put, List.setIfInBounds_toArray, List.set_cons_zero, List.set_cons_succ]
                  refine hTake (i := 8) (v := .bool false) (some 26) (by kernel_rfl) (by kernel_rfl) (by kernel_rfl) (by kernel_rfl) (by kernel_rfl) (fun _ _ _ h => h) (fun o ho W hSw => ?y8) (by assumption) ?_
                  case y8 =>
                    cases ho
                    simp [execOp, go_sem, Act.eval]
                  simp only [Act.put, List.setIfInBounds_toArray, List.set_cons_zero, List.set_cons_succ]
                  refine hTake (i := 9) (v := .int .i64 (k : Int)) (some 27) (by kernel_rfl) (by kernel_rfl) (by kernel_rfl) (by kernel_rfl) (by kernel_rfl) (fun _ _ _ h => h) (fun o ho W hSw => ?y9) (by assumption) ?_
                  case y9 =>
                    cases ho
                    simp [execOp, go_sem, Act.eval]
                  simp only [Act.put, List.setIfInBounds_toArray, List.set_cons_zero, List.set_cons_succ]
                  refine hTake (i := 10) (v := .bool true) (some 28) (by kernel_rfl) (by kernel_rfl) (by kernel_rfl) (by kernel_rfl) (by kernel_rfl) (fun _ _ _ h => h) (fun o ho W hSw => ?y10) (by assumption) ?_
                  case y10 =>
                    cases ho
                    simp [execOp, go_sem, Act.eval, hposN]
                  simp only [Act.put, List.setIfInBounds_toArray, List.set_cons_zero, List.set_cons_succ]
                  refine hTake (i := 11) (v := .bool true) (some 29) (by kernel_rfl) (by kernel_rfl) (by kernel_rfl) (by kernel_rfl) (by kernel_rfl) (fun _ _ _ h => h) (fun o ho W hSw => ?y11) (by assumption) ?_
                  case y11 =>
                    cases ho
                    simp [execOp, go_sem, Act.eval]
                  simp only [Act.put, List.setIfInBounds_toArray, List.set_cons_zero, List.set_cons_succ]
                  refine hTake (i := 12) (v := .slice (some ⟨b, o, none⟩) n c) (some 30) (by kernel_rfl) (by kernel_rfl) (by kernel_rfl) (by kernel_rfl) (by kernel_rfl) (fun _ _ _ h => h) (fun o ho W hSw => ?y12) (by assumption) ?_
                  case y12 =>
                    cases ho
                    simp [execOp, go_sem, Act.eval]
                  simp only [Act.put, List.setIfInBounds_toArray, List.set_cons_zero, List.set_cons_succ]
                  refine hTake (i := 13) (v := .int .i64 (k : Int)) (some 31) (by kernel_rfl) (by kernel_rfl) (by kernel_rfl) (by kernel_rfl) (by kernel_rfl) (fun _ _ _ h => h) (fun o ho W hSw => ?y13) (by assumption) ?_
                  case y13 =>
                    cases ho
                    simp [execOp, go_sem, Act.eval]
                  simp only [Act.put, List.setIfInBounds_toArray, List.set_cons_zero, List.set_cons_succ]
                  refine hTake (i := 14) (v := .int .i64 ((k : Int) - 1)) (some 32) (by kernel_rfl) (by kernel_rfl) (by kernel_rfl) (by kernel_rfl) (by kernel_rfl) (fun _ _ _ h => h) (fun o ho W hSw => ?y14) (by assumption) ?_
                  case y14 =>
                    cases ho
                    simp [execOp, go_sem, Act.eval, hsub]
                  simp only [Act.put, List.setIfInBounds_toArray, List.set_cons_zero, List.set_cons_succ]
                  refine hTake (i := 15) (v := .pointer (some ⟨b, o + (k - 1) * 2, none⟩)) (some 33) (by kernel_rfl) (by kernel_rfl) (by kernel_rfl) (by kernel_rfl) (by kernel_rfl) (fun _ _ _ h => h) (fun o ho W hSw => ?y15) (by assumption) ?_
                  case y15 =>
                    cases ho
                    simp [execOp, go_sem, Act.eval, hix1, hixe, hk1]
                  simp only [Act.put, List.setIfInBounds_toArray, List.set_cons_zero, List.set_cons_succ]
                  refine hTake (i := 16) (v := .pointer (some ⟨b, o + (k - 1) * 2, none⟩)) (some 34) (by kernel_rfl) (by kernel_rfl) (by kernel_rfl) (by kernel_rfl) (by kernel_rfl) (fun _ _ _ h => h) (fun o ho W hSw => ?y16) (by assumption) ?_
                  case y16 =>
                    cases ho
                    simp [execOp, go_sem, Act.eval]
                  simp only [Act.put, List.setIfInBounds_toArray, List.set_cons_zero, List.set_cons_succ]
                  refine hTake (i := 17) (v := .int .i64 pv) (some 35) (by kernel_rfl) (by kernel_rfl) (by kernel_rfl) (by kernel_rfl) (by kernel_rfl) (fun _ _ _ h => h) (fun o ho W hSw => ?y17) (by assumption) ?_
                  case y17 =>
                    cases ho
                    simp [execOp, go_sem, Act.eval, hSw.2.2]
                  simp only [Act.put, List.setIfInBounds_toArray, List.set_cons_zero, List.set_cons_succ]
                  refine hTake (i := 18) (v := .pointer (some ⟨wr.heap.size, 0, none⟩)) (some 36) (by kernel_rfl) (by kernel_rfl) (by kernel_rfl) (by kernel_rfl) (by kernel_rfl) (fun _ _ _ h => h) (fun o ho W hSw => ?y18) (by assumption) ?_
                  case y18 =>
                    cases ho
                    simp [execOp, go_sem, Act.eval]
                  simp only [Act.put, List.setIfInBounds_toArray, List.set_cons_zero, List.set_cons_succ]
                  refine hTake (i := 19) (v := .int .i64 vv) (some 37) (by kernel_rfl) (by kernel_rfl) (by kernel_rfl) (by kernel_rfl) (by kernel_rfl) (fun _ _ _ h => h) (fun o ho W hSw => ?y19) (by assumption) ?_
                  case y19 =>
                    cases ho
                    simp [execOp, go_sem, Act.eval, hSw.1]
                  simp only [Act.put, List.setIfInBounds_toArray, List.set_cons_zero, List.set_cons_succ]
                  refine hTake (i := 20) (v := .bool false) (some 38) (by kernel_rfl) (by kernel_rfl) (by kernel_rfl) (by kernel_rfl) (by kernel_rfl) (fun _ _ _ h => h) (fun o ho W hSw => ?y20) (by assumption) ?_
                  case y20 =>
                    cases ho
                    simp [execOp, go_sem, Act.eval, hge]
                  simp only [Act.put, List.setIfInBounds_toArray, List.set_cons_zero, List.set_cons_succ]
                  refine hTake (i := 21) (v := .bool false) (some 39) (by kernel_rfl) (by kernel_rfl) (by kernel_rfl) (by kernel_rfl) (by kernel_rfl) (fun _ _ _ h => h) (fun o ho W hSw => ?y21) (by assumption) ?_
                  case y21 =>
                    cases ho
                    simp [execOp, go_sem, Act.eval]
                  simp only [Act.put, List.setIfInBounds_toArray, List.set_cons_zero, List.set_cons_succ]
                  refine hTake (i := 22) (v := .bool false) (some 40) (by kernel_rfl) (by kernel_rfl) (by kernel_rfl) (by kernel_rfl) (by kernel_rfl) (fun _ _ _ h => h) (fun o ho W hSw => ?y22) (by assumption) ?_
                  case y22 =>
                    cases ho
                    simp [execOp, go_sem, Act.eval]
                  simp only [Act.put, List.setIfInBounds_toArray, List.set_cons_zero, List.set_cons_succ]
                  refine hTake (i := 23) (v := .bool false) (some 41) (by kernel_rfl) (by kernel_rfl) (by kernel_rfl) (by kernel_rfl) (by kernel_rfl) (fun _ _ _ h => h) (fun o ho W hSw => ?y23) (by assumption) ?_
                  case y23 =>
                    cases ho
                    simp [execOp, go_sem, Act.eval]
                  simp only [Act.put, List.setIfInBounds_toArray, List.set_cons_zero, List.set_cons_succ]
                  refine hTake (i := 24) (v := .pointer (some ⟨wr.heap.size, 1, none⟩)) (some 42) (by kernel_rfl) (by kernel_rfl) (by kernel_rfl) (by kernel_rfl) (by kernel_rfl) (fun _ _ _ h => h) (fun o ho W hSw => ?y24) (by assumption) ?_
                  case y24 =>
                    cases ho
                    simp [execOp, go_sem, Act.eval]
                  simp only [Act.put, List.setIfInBounds_toArray, List.set_cons_zero, List.set_cons_succ]
                  refine hTake (i := 25) (v := .slice q m qc) (some 43) (by kernel_rfl) (by kernel_rfl) (by kernel_rfl) (by kernel_rfl) (by kernel_rfl) (fun _ _ _ h => h) (fun o ho W hSw => ?y25) (by assumption) ?_
                  case y25 =>
                    cases ho
                    simp [execOp, go_sem, Act.eval, hSw.2.1]
                  simp only [Act.put, List.setIfInBounds_toArray, List.set_cons_zero, List.set_cons_succ]
                  refine hCall (i := 26) (f := 17) (args := #[.slice q m qc]) (v := .bool true) (T := fun w5 => Below w.heap.size w w5 ∧ SVal wr vv q m qc b o k pv w5) (some 44) (by kernel_rfl) (by kernel_rfl) (by kernel_rfl) (fun o ho => ?y26) ((HV.out _ HAD.out).mono (fun e w5 h5 => ⟨h5.1, HAFT.out w5 h5.2⟩)) (fun w5 h5 => ⟨h5.2, ?_⟩)
                  case y26 =>
                    cases ho
                    simp [execOp, go_sem, Act.eval]
                  simp only [Act.put, List.setIfInBounds_toArray, List.set_cons_zero, List.set_cons_succ]
                  have hS5 := h5.2
                  have HB5 : Hid _ := h5.1
                  clear h5 hS0
                  refine hTake (i := 27) (v := .bool false) (some 45) (by kernel_rfl) (by kernel_rfl) (by kernel_rfl) (by kernel_rfl) (by kernel_rfl) (fun _ _ _ h => h) (fun o ho W hSw => ?y27) (by assumption) ?_
                  case y27 =>
                    cases ho
                    simp [execOp, go_sem, Act.eval]
                  simp only [Act.put, List.setIfInBounds_toArray, List.set_cons_zero, List.set_cons_succ]
                  refine hTake (i := 28) (v := .bool false) (some 46) (by kernel_rfl) (by kernel_rfl) (by kernel_rfl) (by kernel_rfl) (by kernel_rfl) (fun _ _ _ h => h) (fun o ho W hSw => ?y28) (by assumption) ?_
                  case y28 =>
                    cases ho
                    simp [execOp, go_sem, Act.eval]
                  simp only [Act.put, List.setIfInBounds_toArray, List.set_cons_zero, List.set_cons_succ]
                  refine wpAnyH_done (by kernel_rfl) ?_ _
                  go_wp2_with fail
                  go_roundw
                  case rel => exact ⟨k + 1, by omega, by go_num, HR2, HB5⟩
                  case measure => simp [intOf]; omega
                | false =>
                  have HR2 : Hid (R = false) := by show _ = _; rw [HR.out.1, hla, hst]; simp
                  clear hst er
                  go_wp2_with fail
                  refine wp_region_held (S := SVal wr vv q m qc b o k pv) (by kernel_rfl) ?_
                  refine hTake (i := 0) (v := .pointer (some ⟨wr.heap.size, 0, none⟩)) (some 18) (by kernel_rfl) (by kernel_rfl) (by kernel_rfl) (by kernel_rfl) (by kernel_rfl) (fun _ _ _ h => h) (fun o ho W hSw => ?y0) (by assumption) ?_
                  case y0 =>
                    cases ho
                    simp [execOp, go_sem, Act.eval]
                  simp only [Act.put, List.setIfInBounds_toArray, List.set_cons_zero, List.set_cons_succ]
                  refine hTake (i := 1) (v := .int .i64 vv) (some 19) (by kernel_rfl) (by kernel_rfl) (by kernel_rfl) (by kernel_rfl) (by kernel_rfl) (fun _ _ _ h => h) (fun o ho W hSw => ?y1) (by assumption) ?_
                  case y1 =>
                    cases ho
                    simp [execOp, go_sem, Act.eval, hSw.1]
                  simp only [Act.put, List.setIfInBounds_toArray, List.set_cons_zero, List.set_cons_succ]
                  refine hTake (i := 2) (v := .bool false) (some 20) (by kernel_rfl) (by kernel_rfl) (by kernel_rfl) (by kernel_rfl) (by kernel_rfl) (fun _ _ _ h => h) (fun o ho W hSw => ?y2) (by assumption) ?_
                  case y2 =>
                    cases ho
                    simp [execOp, go_sem, Act.eval, hlow]
                  simp only [Act.put, List.setIfInBounds_toArray, List.set_cons_zero, List.set_cons_succ]
                  refine hTake (i := 3) (v := .bool false) (some 21) (by kernel_rfl) (by kernel_rfl) (by kernel_rfl) (by kernel_rfl) (by kernel_rfl) (fun _ _ _ h => h) (fun o ho W hSw => ?y3) (by assumption) ?_
                  case y3 =>
                    cases ho
                    simp [execOp, go_sem, Act.eval]
                  simp only [Act.put, List.setIfInBounds_toArray, List.set_cons_zero, List.set_cons_succ]
                  refine hTake (i := 4) (v := .pointer (some ⟨wr.heap.size, 0, none⟩)) (some 22) (by kernel_rfl) (by kernel_rfl) (by kernel_rfl) (by kernel_rfl) (by kernel_rfl) (fun _ _ _ h => h) (fun o ho W hSw => ?y4) (by assumption) ?_
                  case y4 =>
                    cases ho
                    simp [execOp, go_sem, Act.eval]
                  simp only [Act.put, List.setIfInBounds_toArray, List.set_cons_zero, List.set_cons_succ]
                  refine hTake (i := 5) (v := .int .i64 vv) (some 23) (by kernel_rfl) (by kernel_rfl) (by kernel_rfl) (by kernel_rfl) (by kernel_rfl) (fun _ _ _ h => h) (fun o ho W hSw => ?y5) (by assumption) ?_
                  case y5 =>
                    cases ho
                    simp [execOp, go_sem, Act.eval, hSw.1]
                  simp only [Act.put, List.setIfInBounds_toArray, List.set_cons_zero, List.set_cons_succ]
                  refine hTake (i := 6) (v := .bool false) (some 24) (by kernel_rfl) (by kernel_rfl) (by kernel_rfl) (by kernel_rfl) (by kernel_rfl) (fun _ _ _ h => h) (fun o ho W hSw => ?y6) (by assumption) ?_
                  case y6 =>
                    cases ho
                    simp [execOp, go_sem, Act.eval, hhigh]
                  simp only [Act.put, List.setIfInBounds_toArray, List.set_cons_zero, List.set_cons_succ]
                  refine hTake (i := 7) (v := .bool false) (some 25) (by kernel_rfl) (by kernel_rfl) (by kernel_rfl) (by kernel_rfl) (by kernel_rfl) (fun _ _ _ h => h) (fun o ho W hSw => ?y7) (by assumption) ?_
                  case y7 =>
                    cases ho
                    simp [execOp, go_sem, Act.eval]
                  simp only [Act.put, List.setIfInBounds_toArray, List.set_cons_zero, List.set_cons_succ]
                  refine hTake (i := 8) (v := .bool false) (some 26) (by kernel_rfl) (by kernel_rfl) (by kernel_rfl) (by kernel_rfl) (by kernel_rfl) (fun _ _ _ h => h) (fun o ho W hSw => ?y8) (by assumption) ?_
                  case y8 =>
                    cases ho
                    simp [execOp, go_sem, Act.eval]
                  simp only [Act.put, List.setIfInBounds_toArray, List.set_cons_zero, List.set_cons_succ]
                  refine hTake (i := 9) (v := .int .i64 (k : Int)) (some 27) (by kernel_rfl) (by kernel_rfl) (by kernel_rfl) (by kernel_rfl) (by kernel_rfl) (fun _ _ _ h => h) (fun o ho W hSw => ?y9) (by assumption) ?_
                  case y9 =>
                    cases ho
                    simp [execOp, go_sem, Act.eval]
                  simp only [Act.put, List.setIfInBounds_toArray, List.set_cons_zero, List.set_cons_succ]
                  refine hTake (i := 10) (v := .bool true) (some 28) (by kernel_rfl) (by kernel_rfl) (by kernel_rfl) (by kernel_rfl) (by kernel_rfl) (fun _ _ _ h => h) (fun o ho W hSw => ?y10) (by assumption) ?_
                  case y10 =>
                    cases ho
                    simp [execOp, go_sem, Act.eval, hposN]
                  simp only [Act.put, List.setIfInBounds_toArray, List.set_cons_zero, List.set_cons_succ]
                  refine hTake (i := 11) (v := .bool true) (some 29) (by kernel_rfl) (by kernel_rfl) (by kernel_rfl) (by kernel_rfl) (by kernel_rfl) (fun _ _ _ h => h) (fun o ho W hSw => ?y11) (by assumption) ?_
                  case y11 =>
                    cases ho
                    simp [execOp, go_sem, Act.eval]
                  simp only [Act.put, List.setIfInBounds_toArray, List.set_cons_zero, List.set_cons_succ]
                  refine hTake (i := 12) (v := .slice (some ⟨b, o, none⟩) n c) (some 30) (by kernel_rfl) (by kernel_rfl) (by kernel_rfl) (by kernel_rfl) (by kernel_rfl) (fun _ _ _ h => h) (fun o ho W hSw => ?y12) (by assumption) ?_
                  case y12 =>
                    cases ho
                    simp [execOp, go_sem, Act.eval]
                  simp only [Act.put, List.setIfInBounds_toArray, List.set_cons_zero, List.set_cons_succ]
                  refine hTake (i := 13) (v := .int .i64 (k : Int)) (some 31) (by kernel_rfl) (by kernel_rfl) (by kernel_rfl) (by kernel_rfl) (by kernel_rfl) (fun _ _ _ h => h) (fun o ho W hSw => ?y13) (by assumption) ?_
                  case y13 =>
                    cases ho
                    simp [execOp, go_sem, Act.eval]
                  simp only [Act.put, List.setIfInBounds_toArray, List.set_cons_zero, List.set_cons_succ]
                  refine hTake (i := 14) (v := .int .i64 ((k : Int) - 1)) (some 32) (by kernel_rfl) (by kernel_rfl) (by kernel_rfl) (by kernel_rfl) (by kernel_rfl) (fun _ _ _ h => h) (fun o ho W hSw => ?y14) (by assumption) ?_
                  case y14 =>
                    cases ho
                    simp [execOp, go_sem, Act.eval, hsub]
                  simp only [Act.put, List.setIfInBounds_toArray, List.set_cons_zero, List.set_cons_succ]
                  refine hTake (i := 15) (v := .pointer (some ⟨b, o + (k - 1) * 2, none⟩)) (some 33) (by kernel_rfl) (by kernel_rfl) (by kernel_rfl) (by kernel_rfl) (by kernel_rfl) (fun _ _ _ h => h) (fun o ho W hSw => ?y15) (by assumption) ?_
                  case y15 =>
                    cases ho
                    simp [execOp, go_sem, Act.eval, hix1, hixe, hk1]
                  simp only [Act.put, List.setIfInBounds_toArray, List.set_cons_zero, List.set_cons_succ]
                  refine hTake (i := 16) (v := .pointer (some ⟨b, o + (k - 1) * 2, none⟩)) (some 34) (by kernel_rfl) (by kernel_rfl) (by kernel_rfl) (by kernel_rfl) (by kernel_rfl) (fun _ _ _ h => h) (fun o ho W hSw => ?y16) (by assumption) ?_
                  case y16 =>
                    cases ho
                    simp [execOp, go_sem, Act.eval]
                  simp only [Act.put, List.setIfInBounds_toArray, List.set_cons_zero, List.set_cons_succ]
                  refine hTake (i := 17) (v := .int .i64 pv) (some 35) (by kernel_rfl) (by kernel_rfl) (by kernel_rfl) (by kernel_rfl) (by kernel_rfl) (fun _ _ _ h => h) (fun o ho W hSw => ?y17) (by assumption) ?_
                  case y17 =>
                    cases ho
                    simp [execOp, go_sem, Act.eval, hSw.2.2]
                  simp only [Act.put, List.setIfInBounds_toArray, List.set_cons_zero, List.set_cons_succ]
                  refine hTake (i := 18) (v := .pointer (some ⟨wr.heap.size, 0, none⟩)) (some 36) (by kernel_rfl) (by kernel_rfl) (by kernel_rfl) (by kernel_rfl) (by kernel_rfl) (fun _ _ _ h => h) (fun o ho W hSw => ?y18) (by assumption) ?_
                  case y18 =>
                    cases ho
                    simp [execOp, go_sem, Act.eval]
                  simp only [Act.put, List.setIfInBounds_toArray, List.set_cons_zero, List.set_cons_succ]
                  refine hTake (i := 19) (v := .int .i64 vv) (some 37) (by kernel_rfl) (by kernel_rfl) (by kernel_rfl) (by kernel_rfl) (by kernel_rfl) (fun _ _ _ h => h) (fun o ho W hSw => ?y19) (by assumption) ?_
                  case y19 =>
                    cases ho
                    simp [execOp, go_sem, Act.eval, hSw.1]
                  simp only [Act.put, List.setIfInBounds_toArray, List.set_cons_zero, List.set_cons_succ]
                  refine hTake (i := 20) (v := .bool false) (some 38) (by kernel_rfl) (by kernel_rfl) (by kernel_rfl) (by kernel_rfl) (by kernel_rfl) (fun _ _ _ h => h) (fun o ho W hSw => ?y20) (by assumption) ?_
                  case y20 =>
                    cases ho
                    simp [execOp, go_sem, Act.eval, hge]
                  simp only [Act.put, List.setIfInBounds_toArray, List.set_cons_zero, List.set_cons_succ]
                  refine hTake (i := 21) (v := .bool false) (some 39) (by kernel_rfl) (by kernel_rfl) (by kernel_rfl) (by kernel_rfl) (by kernel_rfl) (fun _ _ _ h => h) (fun o ho W hSw => ?y21) (by assumption) ?_
                  case y21 =>
                    cases ho
                    simp [execOp, go_sem, Act.eval]
                  simp only [Act.put, List.setIfInBounds_toArray, List.set_cons_zero, List.set_cons_succ]
                  refine hTake (i := 22) (v := .bool false) (some 40) (by kernel_rfl) (by kernel_rfl) (by kernel_rfl) (by kernel_rfl) (by kernel_rfl) (fun _ _ _ h => h) (fun o ho W hSw => ?y22) (by assumption) ?_
                  case y22 =>
                    cases ho
                    simp [execOp, go_sem, Act.eval]
                  simp only [Act.put, List.setIfInBounds_toArray, List.set_cons_zero, List.set_cons_succ]
                  refine hTake (i := 23) (v := .bool false) (some 41) (by kernel_rfl) (by kernel_rfl) (by kernel_rfl) (by kernel_rfl) (by kernel_rfl) (fun _ _ _ h => h) (fun o ho W hSw => ?y23) (by assumption) ?_
                  case y23 =>
                    cases ho
                    simp [execOp, go_sem, Act.eval]
                  simp only [Act.put, List.setIfInBounds_toArray, List.set_cons_zero, List.set_cons_succ]
                  refine hTake (i := 24) (v := .pointer (some ⟨wr.heap.size, 1, none⟩)) (some 42) (by kernel_rfl) (by kernel_rfl) (by kernel_rfl) (by kernel_rfl) (by kernel_rfl) (fun _ _ _ h => h) (fun o ho W hSw => ?y24) (by assumption) ?_
                  case y24 =>
                    cases ho
                    simp [execOp, go_sem, Act.eval]
                  simp only [Act.put, List.setIfInBounds_toArray, List.set_cons_zero, List.set_cons_succ]
                  refine hTake (i := 25) (v := .slice q m qc) (some 43) (by kernel_rfl) (by kernel_rfl) (by kernel_rfl) (by kernel_rfl) (by kernel_rfl) (fun _ _ _ h => h) (fun o ho W hSw => ?y25) (by assumption) ?_
                  case y25 =>
                    cases ho
                    simp [execOp, go_sem, Act.eval, hSw.2.1]
                  simp only [Act.put, List.setIfInBounds_toArray, List.set_cons_zero, List.set_cons_succ]
                  refine hCall (i := 26) (f := 17) (args := #[.slice q m qc]) (v := .bool false) (T := fun w5 => Below w.heap.size w w5 ∧ SVal wr vv q m qc b o k pv w5) (some 44) (by kernel_rfl) (by kernel_rfl) (by kernel_rfl) (fun o ho => ?y26) ((HV.out _ HAD.out).mono (fun e w5 h5 => ⟨h5.1, HAFT.out w5 h5.2⟩)) (fun w5 h5 => ⟨h5.2, ?_⟩)
                  case y26 =>
                    cases ho
                    simp [execOp, go_sem, Act.eval]
                  simp only [Act.put, List.setIfInBounds_toArray, List.set_cons_zero, List.set_cons_succ]
                  have hS5 := h5.2
                  have HB5 : Hid _ := h5.1
                  clear h5 hS0
                  refine hTake (i := 27) (v := .bool true) (some 45) (by kernel_rfl) (by kernel_rfl) (by kernel_rfl) (by kernel_rfl) (by kernel_rfl) (fun _ _ _ h => h) (fun o ho W hSw => ?y27) (by assumption) ?_
                  case y27 =>
                    cases ho
                    simp [execOp, go_sem, Act.eval]
                  simp only [Act.put, List.setIfInBounds_toArray, List.set_cons_zero, List.set_cons_succ]
                  refine hTake (i := 28) (v := .bool true) (some 46) (by kernel_rfl) (by kernel_rfl) (by kernel_rfl) (by kernel_rfl) (by kernel_rfl) (fun _ _ _ h => h) (fun o ho W hSw => ?y28) (by assumption) ?_
                  case y28 =>
                    cases ho
                    simp [execOp, go_sem, Act.eval]
                  simp only [Act.put, List.setIfInBounds_toArray, List.set_cons_zero, List.set_cons_succ]
                  refine wpAnyH_done (by kernel_rfl) ?_ _
                  go_wp2_with fail
                  go_ret
                  exact ⟨ret_bool HR2.out.symm, HB5.out⟩
      · obtain rfl : k = n := by omega
        have HR2 : Hid (R = true) := by show _ = _; rw [HR.out.1, List.drop_eq_nil_of_le (by rw [← HN.out]; exact Nat.le_refl _)]; rfl
        go_wp2_with fail
        go_ret
        exact ⟨ret_bool HR2.out.symm, HB.out⟩
  · have hR : substB bs = false := by rw [substB, ← hn, decide_eq_false h1]; rfl
    rw [hR]
    have h1' : (1000 : Int) < (n : Int) := by omega
    clear hin hn hR h1
    go_enter Tryz.func36, Tryz.ntmps36
    go_wp2_with fail
    go_ret
    exact ⟨rfl, Below.refl _ _⟩
end Go.Proofs.YtaakpdakeolgeaaGreat

