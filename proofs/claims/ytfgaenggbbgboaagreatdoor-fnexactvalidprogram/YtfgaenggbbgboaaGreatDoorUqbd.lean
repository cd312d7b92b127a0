/- Texts of VpT. Own work of the verifier. -/
import Derived.Test.YtfgaenggbbgboaaGreatDoorUqbc
namespace Go.Proofs.YtfgaenggbbgboaaGreatDoor
open Go Go.RowKit
set_option linter.unusedVariables false
set_option linter.unusedSimpArgs false
theorem str_listV {a b : ByteArray} (h : a.toList = b.toList) : a = b := by
  have : a.data = b.data := by
    rw [ByteArray.toList_eq, ByteArray.toList_eq] at h
    exact Array.ext' h
  cases a; cases b; simp_all
def inB (ps : List Prd) (i : Nat) (f : List Int × Int) : Prop := f ∈ (ps.take i).map nmF
set_option maxRecDepth 100000 in
set_option maxHeartbeats 4000000 in
theorem l8pred_any (ps : List Prd) (p : Option Addr) (np cp : Nat) (g : Option Addr) (ng cg : Nat) (nm : List Int) (ar : Int) (q : Option Addr) (m c i : Nat) (w : World) (hnp : np = ps.length) (hnb : np ≤ 1048576) (hok : POk ps) (hp : PTt w p ps) (hnm : Byte nm) (hm : m = nm.length) (hq : BIn w q nm) (hi : i < ps.length) (hni : nmF (ps.getD i Prd.zero) = (nm, ar)) :
    Calls Tryz.prog 12 #[.agg #[.slice p np cp, .slice g ng cg], .slice q m c, .int .i64 ar] w fun e w' => ∃ r : Nat, e = .returned (.int .i64 r) ∧ r ≤ 1048576 ∧ Hid (r = i ↔ ¬ inB ps i (nm, ar)) ∧ Below w.heap.size w w' := by
  obtain ⟨bx, ebx⟩ : ∃ bx : Obj, bx = .cells #[.slice p np cp, .slice g ng cg] 31 := ⟨_, rfl⟩
  have HAL : Hid (Below w.heap.size w (w.alloc bx)) := (Below.refl _ _).alloc (Nat.le_refl _) _
  have HBX : Hid (∀ W, Below (w.alloc bx).heap.size (w.alloc bx) W → W.cell? ⟨w.heap.size, 0, none⟩ = some (.slice p np cp) ∧ W.cell? ⟨w.heap.size, 1, none⟩ = some (.slice g ng cg) ∧ Below w.heap.size w W) := fun W hW => by
    have hk : W.heap[w.heap.size]? = some bx := (hW.block w.heap.size (by simp)).trans (heap_alloc_new w _)
    rw [ebx] at hk
    exact ⟨(two_cells hk).1, (two_cells hk).2.1, Below.on HAL.out hW⟩
  have HEB : Hid (bx = .cells #[.slice p np cp, .slice g ng cg] 31) := ebx
  have HP : Hid (PTt w p ps ∧ np = ps.length ∧ i < ps.length ∧ POk ps ∧ nmF (ps.getD i Prd.zero) = (nm, ar) ∧ Byte nm) := ⟨hp, hnp, hi, hok, hni, hnm⟩
  have HCV : Hid (∀ W, Below w.heap.size w W → (convert 37 9 (.slice q m c)).run Tryz.prog W = .ok (.string (strOfNums nm)) W) := fun W hW => conv_str (hq.below hW) m c hm 9 Tryz.underlying9
  obtain ⟨sn, esn⟩ : ∃ x, x = strOfNums nm := ⟨_, rfl⟩
  have HSN : Hid (sn = strOfNums nm) := esn
  rw [← esn] at HCV
  have hin : i < np := by omega
  clear hp hnp hi hok hni hnm hm hq ebx esn
  go_enter Tryz.func12, Tryz.ntmps12
  go_wp2_with fail
  rw [← HEB.out]
  go_loopw [7] (fun v wr => ∃ (j : Nat), j ≤ i ∧ v = .int .i64 j ∧ Hid (¬ (nm, ar) ∈ (ps.take j).map nmF) ∧ Hid (Below (w.alloc bx).heap.size (w.alloc bx) wr)) (fun v _ => i + 1 - (intOf v).toNat)
  case atStart => exact ⟨0, Nat.zero_le _, rfl, by show ¬ _; simp, Below.refl _ _⟩
  case round =>
    obtain ⟨j, hj, rfl, HNO, HA⟩ := hrel
    obtain ⟨c0, c1, hB⟩ := HBX.out wr HA.out
    have hjn : j < np := by omega
    have hjl : j < ps.length := by have := HP.out.2.1; omega
    obtain ⟨b, o, rfl, hcs⟩ := (HP.out.1.below hB) (by omega)
    obtain ⟨qj, rj, d0, d1, d2, d3, d4, d5⟩ := hcs j hjl
    have hbj := (HP.out.2.2.2.1 j hjl).1
    obtain ⟨aj, eaj⟩ : ∃ x, x = (ps.getD j Prd.zero).2.1 := ⟨_, rfl⟩
    obtain ⟨Wd, eD⟩ : ∃ Wd, Wd = World.drew wr := ⟨_, rfl⟩
    have hcj : (convert 37 9 (.slice qj (ps.getD j Prd.zero).1.length (ps.getD j Prd.zero).1.length)).run Tryz.prog Wd = .ok (.string (strOfNums (ps.getD j Prd.zero).1)) Wd := by
      have hb9 : Below wr.heap.size wr Wd := by rw [eD]; exact (Below.refl _ _).drew
      exact conv_str (d4.below hb9) _ _ rfl 9 Tryz.underlying9
    obtain ⟨mj, emj⟩ : ∃ x, x = (ps.getD j Prd.zero).1.length := ⟨_, rfl⟩
    obtain ⟨sj, esj⟩ : ∃ x, x = strOfNums (ps.getD j Prd.zero).1 := ⟨_, rfl⟩
    have HEQ : Hid (nmF (ps.getD j Prd.zero) = (nm, ar) ↔ aj = ar ∧ sj = sn) := by
      show _ ↔ _
      unfold nmF
      simp only [Prod.mk.injEq]
      rw [esj, HSN.out, eaj]
      exact ⟨fun h => ⟨h.2, by rw [h.1]⟩, fun h => ⟨str_ne hbj HP.out.2.2.2.2.2 h.2, h.1⟩⟩
    rw [← eaj] at d1
    rw [← emj] at d0 hcj
    rw [← esj] at hcj
    have HDe : Hid (World.drew wr = Wd) := eD.symm
    have hz0 : Wd.cell? ⟨w.heap.size, 0, none⟩ = some (.slice (some ⟨b, o, none⟩) np cp) := by rw [eD]; exact c0
    have hz1 : Wd.cell? ⟨b, o + j * 4 + 1, none⟩ = some (.int .i64 aj) := by rw [eD]; exact d1
    have hz2 : Wd.cell? ⟨b, o + j * 4, none⟩ = some (.slice qj mj mj) := by rw [eD]; exact d0
    have HAd : Hid (Below (w.alloc bx).heap.size (w.alloc bx) Wd) := by show Below _ _ _; rw [eD]; exact HA.out.drew
    have hcn := HCV.out Wd (HBX.out Wd HAd.out).2.2
    have hj0 : (0 : Int) ≤ (j : Int) := by omega
    have hj1 : (j : Int) < (np : Int) := by omega
    have HTK : Hid (∀ h : ¬ nmF (ps.getD j Prd.zero) = (nm, ar), ¬ (nm, ar) ∈ (ps.take (j + 1)).map nmF) := fun h h9 => by
      rw [take_at hjl, List.map_append, List.mem_append] at h9
      rcases h9 with h9 | h9
      · exact HNO.out h9
      · exact h (by simpa using (List.mem_singleton.1 h9).symm)
    have HMEM : Hid (nmF (ps.getD j Prd.zero) = (nm, ar) → j ≠ i → (nm, ar) ∈ (ps.take i).map nmF) := fun h hne => by
      refine List.mem_map.2 ⟨ps.getD j Prd.zero, ?_, h⟩
      have hjt : j < (ps.take i).length := by simp; omega
      have e9 : ps.getD j Prd.zero = (ps.take i)[j] := by rw [List.getD, List.getElem?_eq_getElem hjl]; simp
      rw [e9]
      exact List.getElem_mem hjt
    clear hcs d0 d1 d2 d3 d4 d5 hbj eaj eD emj esj hjl hB
    by_cases ha : aj = ar
    · subst ha
      by_cases hs : sj = sn
      · have hmt := HEQ.out.2 ⟨rfl, hs⟩
        have HRES : Hid (j = i ↔ ¬ inB ps i (nm, aj)) := ⟨fun h => by subst h; exact HNO.out, fun h => Classical.byContradiction fun hne => h (HMEM.out hmt hne)⟩
        clear HMEM HTK HEQ hmt HCV
        have hjb : j ≤ 1048576 := by omega
        subst hs
        go_wp2_with fail
        refine wp_region_held_drew (S := (fun W => W = Wd)) (by kernel_rfl) ?_ (fun hHeld => ?_)
        · exact HDe.out
        rw [HDe.out]
        have hS0 : Wd = Wd := rfl
        refine hTake (i := 0) (v := .pointer (some ⟨w.heap.size, 0, none⟩)) (some 15) (by kernel_rfl) (by kernel_rfl) (by kernel_rfl) (by kernel_rfl) (by kernel_rfl) (fun _ _ _ h => h) (fun o ho W hSw => ?y0) (by assumption) ?_
        case y0 =>
          cases ho
          simp [execOp, go_sem, Act.eval]
        simp only [Act.put, List.setIfInBounds_toArray, List.set_cons_zero, List.set_cons_succ]
        refine hTake (i := 1) (v := .slice (some ⟨b, o, none⟩) np cp) (some 16) (by kernel_rfl) (by kernel_rfl) (by kernel_rfl) (by kernel_rfl) (by kernel_rfl) (fun _ _ _ h => h) (fun o ho W hSw => ?y1) (by assumption) ?_
        case y1 =>
          cases ho
          subst hSw
          simp [execOp, go_sem, Act.eval, hz0]
        simp only [Act.put, List.setIfInBounds_toArray, List.set_cons_zero, List.set_cons_succ]
        refine hTake (i := 2) (v := .int .i64 j) (some 17) (by kernel_rfl) (by kernel_rfl) (by kernel_rfl) (by kernel_rfl) (by kernel_rfl) (fun _ _ _ h => h) (fun o ho W hSw => ?y2) (by assumption) ?_
        case y2 =>
          cases ho
          simp [execOp, go_sem, Act.eval]
        simp only [Act.put, List.setIfInBounds_toArray, List.set_cons_zero, List.set_cons_succ]
        refine hTake (i := 3) (v := .pointer (some ⟨b, o + j * 4, none⟩)) (some 18) (by kernel_rfl) (by kernel_rfl) (by kernel_rfl) (by kernel_rfl) (by kernel_rfl) (fun _ _ _ h => h) (fun o ho W hSw => ?y3) (by assumption) ?_
        case y3 =>
          cases ho
          simp [execOp, go_sem, Act.eval, hj0, hj1]
        simp only [Act.put, List.setIfInBounds_toArray, List.set_cons_zero, List.set_cons_succ]
        refine hTake (i := 4) (v := .pointer (some ⟨b, o + j * 4 + 1, none⟩)) (some 19) (by kernel_rfl) (by kernel_rfl) (by kernel_rfl) (by kernel_rfl) (by kernel_rfl) (fun _ _ _ h => h) (fun o ho W hSw => ?y4) (by assumption) ?_
        case y4 =>
          cases ho
          simp [execOp, go_sem, Act.eval]
        simp only [Act.put, List.setIfInBounds_toArray, List.set_cons_zero, List.set_cons_succ]
        refine hTake (i := 5) (v := .int .i64 aj) (some 20) (by kernel_rfl) (by kernel_rfl) (by kernel_rfl) (by kernel_rfl) (by kernel_rfl) (fun _ _ _ h => h) (fun o ho W hSw => ?y5) (by assumption) ?_
        case y5 =>
          cases ho
          subst hSw
          simp [execOp, go_sem, Act.eval, hz1]
        simp only [Act.put, List.setIfInBounds_toArray, List.set_cons_zero, List.set_cons_succ]
        refine hTake (i := 6) (v := .int .i64 aj) (some 21) (by kernel_rfl) (by kernel_rfl) (by kernel_rfl) (by kernel_rfl) (by kernel_rfl) (fun _ _ _ h => h) (fun o ho W hSw => ?y6) (by assumption) ?_
        case y6 =>
          cases ho
          simp [execOp, go_sem, Act.eval]
        simp only [Act.put, List.setIfInBounds_toArray, List.set_cons_zero, List.set_cons_succ]
        refine hTake (i := 7) (v := .bool true) (some 22) (by kernel_rfl) (by kernel_rfl) (by kernel_rfl) (by kernel_rfl) (by kernel_rfl) (fun _ _ _ h => h) (fun o ho W hSw => ?y7) (by assumption) ?_
        case y7 =>
          cases ho
          simp [execOp, go_sem, Act.eval]
        simp only [Act.put, List.setIfInBounds_toArray, List.set_cons_zero, List.set_cons_succ]
        refine hTake (i := 8) (v := .bool true) (some 23) (by kernel_rfl) (by kernel_rfl) (by kernel_rfl) (by kernel_rfl) (by kernel_rfl) (fun _ _ _ h => h) (fun o ho W hSw => ?y8) (by assumption) ?_
        case y8 =>
          cases ho
          simp [execOp, go_sem, Act.eval]
        simp only [Act.put, List.setIfInBounds_toArray, List.set_cons_zero, List.set_cons_succ]
        refine hTake (i := 9) (v := .pointer (some ⟨w.heap.size, 0, none⟩)) (some 24) (by kernel_rfl) (by kernel_rfl) (by kernel_rfl) (by kernel_rfl) (by kernel_rfl) (fun _ _ _ h => h) (fun o ho W hSw => ?y9) (by assumption) ?_
        case y9 =>
          cases ho
          simp [execOp, go_sem, Act.eval]
        simp only [Act.put, List.setIfInBounds_toArray, List.set_cons_zero, List.set_cons_succ]
        refine hTake (i := 10) (v := .slice (some ⟨b, o, none⟩) np cp) (some 25) (by kernel_rfl) (by kernel_rfl) (by kernel_rfl) (by kernel_rfl) (by kernel_rfl) (fun _ _ _ h => h) (fun o ho W hSw => ?y10) (by assumption) ?_
        case y10 =>
          cases ho
          subst hSw
          simp [execOp, go_sem, Act.eval, hz0]
        simp only [Act.put, List.setIfInBounds_toArray, List.set_cons_zero, List.set_cons_succ]
        refine hTake (i := 11) (v := .int .i64 j) (some 26) (by kernel_rfl) (by kernel_rfl) (by kernel_rfl) (by kernel_rfl) (by kernel_rfl) (fun _ _ _ h => h) (fun o ho W hSw => ?y11) (by assumption) ?_
        case y11 =>
          cases ho
          simp [execOp, go_sem, Act.eval]
        simp only [Act.put, List.setIfInBounds_toArray, List.set_cons_zero, List.set_cons_succ]
        refine hTake (i := 12) (v := .pointer (some ⟨b, o + j * 4, none⟩)) (some 27) (by kernel_rfl) (by kernel_rfl) (by kernel_rfl) (by kernel_rfl) (by kernel_rfl) (fun _ _ _ h => h) (fun o ho W hSw => ?y12) (by assumption) ?_
        case y12 =>
          cases ho
          simp [execOp, go_sem, Act.eval, hj0, hj1]
        simp only [Act.put, List.setIfInBounds_toArray, List.set_cons_zero, List.set_cons_succ]
        refine hTake (i := 13) (v := .pointer (some ⟨b, o + j * 4, none⟩)) (some 28) (by kernel_rfl) (by kernel_rfl) (by kernel_rfl) (by kernel_rfl) (by kernel_rfl) (fun _ _ _ h => h) (fun o ho W hSw => ?y13) (by assumption) ?_
        case y13 =>
          cases ho
          simp [execOp, go_sem, Act.eval]
        simp only [Act.put, List.setIfInBounds_toArray, List.set_cons_zero, List.set_cons_succ]
        refine hTake (i := 14) (v := .slice qj mj mj) (some 29) (by kernel_rfl) (by kernel_rfl) (by kernel_rfl) (by kernel_rfl) (by kernel_rfl) (fun _ _ _ h => h) (fun o ho W hSw => ?y14) (by assumption) ?_
        case y14 =>
          cases ho
          subst hSw
          simp [execOp, go_sem, Act.eval, hz2]
        simp only [Act.put, List.setIfInBounds_toArray, List.set_cons_zero, List.set_cons_succ]
        refine hTake (i := 15) (v := .string sj) (some 30) (by kernel_rfl) (by kernel_rfl) (by kernel_rfl) (by kernel_rfl) (by kernel_rfl) (fun _ _ _ h => h) (fun o ho W hSw => ?y15) (by assumption) ?_
        case y15 =>
          cases ho
          subst hSw
          simp [execOp, go_sem, Act.eval, hcj]
        simp only [Act.put, List.setIfInBounds_toArray, List.set_cons_zero, List.set_cons_succ]
        refine hTake (i := 16) (v := .slice q m c) (some 31) (by kernel_rfl) (by kernel_rfl) (by kernel_rfl) (by kernel_rfl) (by kernel_rfl) (fun _ _ _ h => h) (fun o ho W hSw => ?y16) (by assumption) ?_
        case y16 =>
          cases ho
          simp [execOp, go_sem, Act.eval]
        simp only [Act.put, List.setIfInBounds_toArray, List.set_cons_zero, List.set_cons_succ]
        refine hTake (i := 17) (v := .string sj) (some 32) (by kernel_rfl) (by kernel_rfl) (by kernel_rfl) (by kernel_rfl) (by kernel_rfl) (fun _ _ _ h => h) (fun o ho W hSw => ?y17) (by assumption) ?_
        case y17 =>
          cases ho
          subst hSw
          simp [execOp, go_sem, Act.eval, hcn]
        simp only [Act.put, List.setIfInBounds_toArray, List.set_cons_zero, List.set_cons_succ]
        refine hTake (i := 18) (v := .bool true) (some 33) (by kernel_rfl) (by kernel_rfl) (by kernel_rfl) (by kernel_rfl) (by kernel_rfl) (fun _ _ _ h => h) (fun o ho W hSw => ?y18) (by assumption) ?_
        case y18 =>
          cases ho
          simp [execOp, go_sem, Act.eval]
        simp only [Act.put, List.setIfInBounds_toArray, List.set_cons_zero, List.set_cons_succ]
        refine hTake (i := 19) (v := .bool true) (some 34) (by kernel_rfl) (by kernel_rfl) (by kernel_rfl) (by kernel_rfl) (by kernel_rfl) (fun _ _ _ h => h) (fun o ho W hSw => ?y19) (by assumption) ?_
        case y19 =>
          cases ho
          simp [execOp, go_sem, Act.eval]
        simp only [Act.put, List.setIfInBounds_toArray, List.set_cons_zero, List.set_cons_succ]
        refine wpAnyH_done (by kernel_rfl) ?_ _
        change Exit.then _ _ _ _ Wd
        go_wp2_with fail
        go_ret
        exact ⟨j, rfl, hjb, HRES, (HBX.out _ HAd.out).2.2⟩
      · have hs2 : ¬ sj.toList = sn.toList := fun h => hs (str_listV h)
        go_wp2_with fail
        refine wp_region_held_drew (S := (fun W => W = Wd)) (by kernel_rfl) ?_ (fun hHeld => ?_)
        · exact HDe.out
        rw [HDe.out]
        have hS0 : Wd = Wd := rfl
        refine hTake (i := 0) (v := .pointer (some ⟨w.heap.size, 0, none⟩)) (some 15) (by kernel_rfl) (by kernel_rfl) (by kernel_rfl) (by kernel_rfl) (by kernel_rfl) (fun _ _ _ h => h) (fun o ho W hSw => ?y20) (by assumption) ?_
        case y20 =>
          cases ho
          simp [execOp, go_sem, Act.eval]
        simp only [Act.put, List.setIfInBounds_toArray, List.set_cons_zero, List.set_cons_succ]
        refine hTake (i := 1) (v := .slice (some ⟨b, o, none⟩) np cp) (some 16) (by kernel_rfl) (by kernel_rfl) (by kernel_rfl) (by kernel_rfl) (by kernel_rfl) (fun _ _ _ h => h) (fun o ho W hSw => ?y21) (by assumption) ?_
        case y21 =>
          cases ho
          subst hSw
          simp [execOp, go_sem, Act.eval, hz0]
        simp only [Act.put, List.setIfInBounds_toArray, List.set_cons_zero, List.set_cons_succ]
        refine hTake (i := 2) (v := .int .i64 j) (some 17) (by kernel_rfl) (by kernel_rfl) (by kernel_rfl) (by kernel_rfl) (by kernel_rfl) (fun _ _ _ h => h) (fun o ho W hSw => ?y22) (by assumption) ?_
        case y22 =>
          cases ho
          simp [execOp, go_sem, Act.eval]
        simp only [Act.put, List.setIfInBounds_toArray, List.set_cons_zero, List.set_cons_succ]
        refine hTake (i := 3) (v := .pointer (some ⟨b, o + j * 4, none⟩)) (some 18) (by kernel_rfl) (by kernel_rfl) (by kernel_rfl) (by kernel_rfl) (by kernel_rfl) (fun _ _ _ h => h) (fun o ho W hSw => ?y23) (by assumption) ?_
        case y23 =>
          cases ho
          simp [execOp, go_sem, Act.eval, hj0, hj1]
        simp only [Act.put, List.setIfInBounds_toArray, List.set_cons_zero, List.set_cons_succ]
        refine hTake (i := 4) (v := .pointer (some ⟨b, o + j * 4 + 1, none⟩)) (some 19) (by kernel_rfl) (by kernel_rfl) (by kernel_rfl) (by kernel_rfl) (by kernel_rfl) (fun _ _ _ h => h) (fun o ho W hSw => ?y24) (by assumption) ?_
        case y24 =>
          cases ho
          simp [execOp, go_sem, Act.eval]
        simp only [Act.put, List.setIfInBounds_toArray, List.set_cons_zero, List.set_cons_succ]
        refine hTake (i := 5) (v := .int .i64 aj) (some 20) (by kernel_rfl) (by kernel_rfl) (by kernel_rfl) (by kernel_rfl) (by kernel_rfl) (fun _ _ _ h => h) (fun o ho W hSw => ?y25) (by assumption) ?_
        case y25 =>
          cases ho
          subst hSw
          simp [execOp, go_sem, Act.eval, hz1]
        simp only [Act.put, List.setIfInBounds_toArray, List.set_cons_zero, List.set_cons_succ]
        refine hTake (i := 6) (v := .int .i64 aj) (some 21) (by kernel_rfl) (by kernel_rfl) (by kernel_rfl) (by kernel_rfl) (by kernel_rfl) (fun _ _ _ h => h) (fun o ho W hSw => ?y26) (by assumption) ?_
        case y26 =>
          cases ho
          simp [execOp, go_sem, Act.eval]
        simp only [Act.put, List.setIfInBounds_toArray, List.set_cons_zero, List.set_cons_succ]
        refine hTake (i := 7) (v := .bool true) (some 22) (by kernel_rfl) (by kernel_rfl) (by kernel_rfl) (by kernel_rfl) (by kernel_rfl) (fun _ _ _ h => h) (fun o ho W hSw => ?y27) (by assumption) ?_
        case y27 =>
          cases ho
          simp [execOp, go_sem, Act.eval]
        simp only [Act.put, List.setIfInBounds_toArray, List.set_cons_zero, List.set_cons_succ]
        refine hTake (i := 8) (v := .bool true) (some 23) (by kernel_rfl) (by kernel_rfl) (by kernel_rfl) (by kernel_rfl) (by kernel_rfl) (fun _ _ _ h => h) (fun o ho W hSw => ?y28) (by assumption) ?_
        case y28 =>
          cases ho
          simp [execOp, go_sem, Act.eval]
        simp only [Act.put, List.setIfInBounds_toArray, List.set_cons_zero, List.set_cons_succ]
        refine hTake (i := 9) (v := .pointer (some ⟨w.heap.size, 0, none⟩)) (some 24) (by kernel_rfl) (by kernel_rfl) (by kernel_rfl) (by kernel_rfl) (by kernel_rfl) (fun _ _ _ h => h) (fun o ho W hSw => ?y29) (by assumption) ?_
        case y29 =>
          cases ho
          simp [execOp, go_sem, Act.eval]
        simp only [Act.put, List.setIfInBounds_toArray, List.set_cons_zero, List.set_cons_succ]
        refine hTake (i := 10) (v := .slice (some ⟨b, o, none⟩) np cp) (some 25) (by kernel_rfl) (by kernel_rfl) (by kernel_rfl) (by kernel_rfl) (by kernel_rfl) (fun _ _ _ h => h) (fun o ho W hSw => ?y30) (by assumption) ?_
        case y30 =>
          cases ho
          subst hSw
          simp [execOp, go_sem, Act.eval, hz0]
        simp only [Act.put, List.setIfInBounds_toArray, List.set_cons_zero, List.set_cons_succ]
        refine hTake (i := 11) (v := .int .i64 j) (some 26) (by kernel_rfl) (by kernel_rfl) (by kernel_rfl) (by kernel_rfl) (by kernel_rfl) (fun _ _ _ h => h) (fun o ho W hSw => ?y31) (by assumption) ?_
        case y31 =>
          cases ho
          simp [execOp, go_sem, Act.eval]
        simp only [Act.put, List.setIfInBounds_toArray, List.set_cons_zero, List.set_cons_succ]
        refine hTake (i := 12) (v := .pointer (some ⟨b, o + j * 4, none⟩)) (some 27) (by kernel_rfl) (by kernel_rfl) (by kernel_rfl) (by kernel_rfl) (by kernel_rfl) (fun _ _ _ h => h) (fun o ho W hSw => ?y32) (by assumption) ?_
        case y32 =>
          cases ho
          simp [execOp, go_sem, Act.eval, hj0, hj1]
        simp only [Act.put, List.setIfInBounds_toArray, List.set_cons_zero, List.set_cons_succ]
        refine hTake (i := 13) (v := .pointer (some ⟨b, o + j * 4, none⟩)) (some 28) (by kernel_rfl) (by kernel_rfl) (by kernel_rfl) (by kernel_rfl) (by kernel_rfl) (fun _ _ _ h => h) (fun o ho W hSw => ?y33) (by assumption) ?_
        case y33 =>
          cases ho
          simp [execOp, go_sem, Act.eval]
        simp only [Act.put, List.setIfInBounds_toArray, List.set_cons_zero, List.set_cons_succ]
        refine hTake (i := 14) (v := .slice qj mj mj) (some 29) (by kernel_rfl) (by kernel_rfl) (by kernel_rfl) (by kernel_rfl) (by kernel_rfl) (fun _ _ _ h => h) (fun o ho W hSw => ?y34) (by assumption) ?_
        case y34 =>
          cases ho
          subst hSw
          simp [execOp, go_sem, Act.eval, hz2]
        simp only [Act.put, List.setIfInBounds_toArray, List.set_cons_zero, List.set_cons_succ]
        refine hTake (i := 15) (v := .string sj) (some 30) (by kernel_rfl) (by kernel_rfl) (by kernel_rfl) (by kernel_rfl) (by kernel_rfl) (fun _ _ _ h => h) (fun o ho W hSw => ?y35) (by assumption) ?_
        case y35 =>
          cases ho
          subst hSw
          simp [execOp, go_sem, Act.eval, hcj]
        simp only [Act.put, List.setIfInBounds_toArray, List.set_cons_zero, List.set_cons_succ]
        refine hTake (i := 16) (v := .slice q m c) (some 31) (by kernel_rfl) (by kernel_rfl) (by kernel_rfl) (by kernel_rfl) (by kernel_rfl) (fun _ _ _ h => h) (fun o ho W hSw => ?y36) (by assumption) ?_
        case y36 =>
          cases ho
          simp [execOp, go_sem, Act.eval]
        simp only [Act.put, List.setIfInBounds_toArray, List.set_cons_zero, List.set_cons_succ]
        refine hTake (i := 17) (v := .string sn) (some 32) (by kernel_rfl) (by kernel_rfl) (by kernel_rfl) (by kernel_rfl) (by kernel_rfl) (fun _ _ _ h => h) (fun o ho W hSw => ?y37) (by assumption) ?_
        case y37 =>
          cases ho
          subst hSw
          simp [execOp, go_sem, Act.eval, hcn]
        simp only [Act.put, List.setIfInBounds_toArray, List.set_cons_zero, List.set_cons_succ]
        refine hTake (i := 18) (v := .bool false) (some 33) (by kernel_rfl) (by kernel_rfl) (by kernel_rfl) (by kernel_rfl) (by kernel_rfl) (fun _ _ _ h => h) (fun o ho W hSw => ?y38) (by assumption) ?_
        case y38 =>
          cases ho
          simp [execOp, go_sem, Act.eval, hs2, hs]
        simp only [Act.put, List.setIfInBounds_toArray, List.set_cons_zero, List.set_cons_succ]
        refine hTake (i := 19) (v := .bool false) (some 34) (by kernel_rfl) (by kernel_rfl) (by kernel_rfl) (by kernel_rfl) (by kernel_rfl) (fun _ _ _ h => h) (fun o ho W hSw => ?y39) (by assumption) ?_
        case y39 =>
          cases ho
          simp [execOp, go_sem, Act.eval]
        simp only [Act.put, List.setIfInBounds_toArray, List.set_cons_zero, List.set_cons_succ]
        refine wpAnyH_done (by kernel_rfl) ?_ _
        change Exit.then _ _ _ _ Wd
        have HNN : Hid _ := HTK.out (fun h9 => hs (HEQ.out.1 h9).2)
        have hne : j ≠ i := fun h9 => by subst h9; exact absurd HP.out.2.2.2.2.1 (fun h8 => hs (HEQ.out.1 h8).2)
        go_wp2_with fail
        go_roundw
        case rel => exact ⟨j + 1, by omega, by go_num, HNN, HAd⟩
        case measure => simp [intOf]; omega
    · have ha2 : (aj == ar) = false := by simpa using ha
      go_wp2_with fail
      refine wp_region_held_drew (S := (fun W => W = Wd)) (by kernel_rfl) ?_ (fun hHeld => ?_)
      · exact HDe.out
      rw [HDe.out]
      have hS0 : Wd = Wd := rfl
      refine hTake (i := 0) (v := .pointer (some ⟨w.heap.size, 0, none⟩)) (some 15) (by kernel_rfl) (by kernel_rfl) (by kernel_rfl) (by kernel_rfl) (by kernel_rfl) (fun _ _ _ h => h) (fun o ho W hSw => ?y40) (by assumption) ?_
      case y40 =>
        cases ho
        simp [execOp, go_sem, Act.eval]
      simp only [Act.put, List.setIfInBounds_toArray, List.set_cons_zero, List.set_cons_succ]
      refine hTake (i := 1) (v := .slice (some ⟨b, o, none⟩) np cp) (some 16) (by kernel_rfl) (by kernel_rfl) (by kernel_rfl) (by kernel_rfl) (by kernel_rfl) (fun _ _ _ h => h) (fun o ho W hSw => ?y41) (by assumption) ?_
      case y41 =>
        cases ho
        subst hSw
        simp [execOp, go_sem, Act.eval, hz0]
      simp only [Act.put, List.setIfInBounds_toArray, List.set_cons_zero, List.set_cons_succ]
      refine hTake (i := 2) (v := .int .i64 j) (some 17) (by kernel_rfl) (by kernel_rfl) (by kernel_rfl) (by kernel_rfl) (by kernel_rfl) (fun _ _ _ h => h) (fun o ho W hSw => ?y42) (by assumption) ?_
      case y42 =>
        cases ho
        simp [execOp, go_sem, Act.eval]
      simp only [Act.put, List.setIfInBounds_toArray, List.set_cons_zero, List.set_cons_succ]
      refine hTake (i := 3) (v := .pointer (some ⟨b, o + j * 4, none⟩)) (some 18) (by kernel_rfl) (by kernel_rfl) (by kernel_rfl) (by kernel_rfl) (by kernel_rfl) (fun _ _ _ h => h) (fun o ho W hSw => ?y43) (by assumption) ?_
      case y43 =>
        cases ho
        simp [execOp, go_sem, Act.eval, hj0, hj1]
      simp only [Act.put, List.setIfInBounds_toArray, List.set_cons_zero, List.set_cons_succ]
      refine hTake (i := 4) (v := .pointer (some ⟨b, o + j * 4 + 1, none⟩)) (some 19) (by kernel_rfl) (by kernel_rfl) (by kernel_rfl) (by kernel_rfl) (by kernel_rfl) (fun _ _ _ h => h) (fun o ho W hSw => ?y44) (by assumption) ?_
      case y44 =>
        cases ho
        simp [execOp, go_sem, Act.eval]
      simp only [Act.put, List.setIfInBounds_toArray, List.set_cons_zero, List.set_cons_succ]
      refine hTake (i := 5) (v := .int .i64 aj) (some 20) (by kernel_rfl) (by kernel_rfl) (by kernel_rfl) (by kernel_rfl) (by kernel_rfl) (fun _ _ _ h => h) (fun o ho W hSw => ?y45) (by assumption) ?_
      case y45 =>
        cases ho
        subst hSw
        simp [execOp, go_sem, Act.eval, hz1]
      simp only [Act.put, List.setIfInBounds_toArray, List.set_cons_zero, List.set_cons_succ]
      refine hTake (i := 6) (v := .int .i64 ar) (some 21) (by kernel_rfl) (by kernel_rfl) (by kernel_rfl) (by kernel_rfl) (by kernel_rfl) (fun _ _ _ h => h) (fun o ho W hSw => ?y46) (by assumption) ?_
      case y46 =>
        cases ho
        simp [execOp, go_sem, Act.eval]
      simp only [Act.put, List.setIfInBounds_toArray, List.set_cons_zero, List.set_cons_succ]
      refine hTake (i := 7) (v := .bool false) (some 22) (by kernel_rfl) (by kernel_rfl) (by kernel_rfl) (by kernel_rfl) (by kernel_rfl) (fun _ _ _ h => h) (fun o ho W hSw => ?y47) (by assumption) ?_
      case y47 =>
        cases ho
        simp [execOp, go_sem, Act.eval, ha]
      simp only [Act.put, List.setIfInBounds_toArray, List.set_cons_zero, List.set_cons_succ]
      refine hTake (i := 8) (v := .bool false) (some 23) (by kernel_rfl) (by kernel_rfl) (by kernel_rfl) (by kernel_rfl) (by kernel_rfl) (fun _ _ _ h => h) (fun o ho W hSw => ?y48) (by assumption) ?_
      case y48 =>
        cases ho
        simp [execOp, go_sem, Act.eval]
      simp only [Act.put, List.setIfInBounds_toArray, List.set_cons_zero, List.set_cons_succ]
      refine hSkip (i := 9) (some 24) (by kernel_rfl) (by kernel_rfl) (by kernel_rfl) (by kernel_rfl) (by kernel_rfl) (fun _ _ _ h => h) (by assumption) ?_
      simp only [Act.put, List.setIfInBounds_toArray, List.set_cons_zero, List.set_cons_succ]
      refine hSkip (i := 10) (some 25) (by kernel_rfl) (by kernel_rfl) (by kernel_rfl) (by kernel_rfl) (by kernel_rfl) (fun _ _ _ h => h) (by assumption) ?_
      simp only [Act.put, List.setIfInBounds_toArray, List.set_cons_zero, List.set_cons_succ]
      refine hSkip (i := 11) (some 26) (by kernel_rfl) (by kernel_rfl) (by kernel_rfl) (by kernel_rfl) (by kernel_rfl) (fun _ _ _ h => h) (by assumption) ?_
      simp only [Act.put, List.setIfInBounds_toArray, List.set_cons_zero, List.set_cons_succ]
      refine hSkip (i := 12) (some 27) (by kernel_rfl) (by kernel_rfl) (by kernel_rfl) (by kernel_rfl) (by kernel_rfl) (fun _ _ _ h => h) (by assumption) ?_
      simp only [Act.put, List.setIfInBounds_toArray, List.set_cons_zero, List.set_cons_succ]
      refine hSkip (i := 13) (some 28) (by kernel_rfl) (by kernel_rfl) (by kernel_rfl) (by kernel_rfl) (by kernel_rfl) (fun _ _ _ h => h) (by assumption) ?_
      simp only [Act.put, List.setIfInBounds_toArray, List.set_cons_zero, List.set_cons_succ]
      refine hSkip (i := 14) (some 29) (by kernel_rfl) (by kernel_rfl) (by kernel_rfl) (by kernel_rfl) (by kernel_rfl) (fun _ _ _ h => h) (by assumption) ?_
      simp only [Act.put, List.setIfInBounds_toArray, List.set_cons_zero, List.set_cons_succ]
      refine hSkip (i := 15) (some 30) (by kernel_rfl) (by kernel_rfl) (by kernel_rfl) (by kernel_rfl) (by kernel_rfl) (fun _ _ _ h => h) (by assumption) ?_
      simp only [Act.put, List.setIfInBounds_toArray, List.set_cons_zero, List.set_cons_succ]
      refine hSkip (i := 16) (some 31) (by kernel_rfl) (by kernel_rfl) (by kernel_rfl) (by kernel_rfl) (by kernel_rfl) (fun _ _ _ h => h) (by assumption) ?_
      simp only [Act.put, List.setIfInBounds_toArray, List.set_cons_zero, List.set_cons_succ]
      refine hSkip (i := 17) (some 32) (by kernel_rfl) (by kernel_rfl) (by kernel_rfl) (by kernel_rfl) (by kernel_rfl) (fun _ _ _ h => h) (by assumption) ?_
      simp only [Act.put, List.setIfInBounds_toArray, List.set_cons_zero, List.set_cons_succ]
      refine hSkip (i := 18) (some 33) (by kernel_rfl) (by kernel_rfl) (by kernel_rfl) (by kernel_rfl) (by kernel_rfl) (fun _ _ _ h => h) (by assumption) ?_
      simp only [Act.put, List.setIfInBounds_toArray, List.set_cons_zero, List.set_cons_succ]
      refine hTake (i := 19) (v := .bool false) (some 34) (by kernel_rfl) (by kernel_rfl) (by kernel_rfl) (by kernel_rfl) (by kernel_rfl) (fun _ _ _ h => h) (fun o ho W hSw => ?y49) (by assumption) ?_
      case y49 =>
        cases ho
        simp [execOp, go_sem, Act.eval]
      simp only [Act.put, List.setIfInBounds_toArray, List.set_cons_zero, List.set_cons_succ]
      refine wpAnyH_done (by kernel_rfl) ?_ _
      change Exit.then _ _ _ _ Wd
      have HNN : Hid _ := HTK.out (fun h9 => ha (HEQ.out.1 h9).1)
      have hne : j ≠ i := fun h9 => by subst h9; exact absurd HP.out.2.2.2.2.1 (fun h8 => ha (HEQ.out.1 h8).1)
      go_wp2_with fail
      go_roundw
      case rel => exact ⟨j + 1, by omega, by go_num, HNN, HAd⟩
      case measure => simp [intOf]; omega
set_option maxRecDepth 100000 in
theorem normalR_at (cs : List Cel) (hxb : ∀ i, i < cs.length → Byte (cs.getD i Cel.none).2.2) : ∃ r : List Cel × Int, normalR cs r ∧ (r.2 = 0 ∨ r.2 = 1 ∨ r.2 = 3 ∨ r.2 = 4) ∧ (r.2 ≠ 0 → goB cs = false) ∧ (r.2 = 0 → goB cs = decide (r.1 = cs) ∧ r.1.length ≤ 2000 ∧ 0 < r.1.length ∧ ∀ x ∈ r.1, Byte x.2.2) := by
  by_cases hv : validB cs = true
  · obtain ⟨c, k, ex, hok, hlx⟩ := tree_of hxb hv
    refine ⟨normR cs (normT c k), by unfold normalR; rw [if_pos hv]; exact ⟨c, k, ex, hok, hlx, rfl⟩, ?_⟩
    rw [goB_of hv ex hok]
    cases hG : normT c k with
    | none =>
      refine ⟨.inr (.inr (.inr rfl)), fun _ => norB_no (by rw [hG]; simp), fun h => by cases h⟩
    | some G =>
      obtain ⟨c', k', rfl, hGok, hGl⟩ := normT_ok hG hok
      by_cases hlen : (Fo.node c' k' .nil).cells.length ≤ 2000
      · have e : normR cs (some (Fo.node c' k' .nil)) = ((Fo.node c' k' .nil).cells, 0) := by unfold normR; simp only [hlen, if_true]
        rw [e]
        refine ⟨.inl rfl, fun h => absurd rfl h, fun _ => ⟨?_, hlen, by simp [Fo.cells], Fo.byteV _ hGok⟩⟩
        by_cases e2 : (Fo.node c' k' .nil).cells = cs
        · have e' : c' :: k'.cells = c :: k.cells := by rw [← ex, ← e2]; simp [Fo.cells]
          obtain ⟨rfl, rfl⟩ := tree_one e' hGok hok
          rw [norB_yes hG]
          exact (decide_eq_true e2).symm
        · rw [norB_no (fun h9 => e2 (by rw [hG] at h9; simp only [Option.some.injEq] at h9; rw [h9, ex]; simp [Fo.cells]))]
          exact (decide_eq_false e2).symm
      · have e : normR cs (some (Fo.node c' k' .nil)) = ([], 3) := by unfold normR; simp only [hlen, if_false]
        rw [e]
        refine ⟨.inr (.inr (.inl rfl)), fun _ => norB_no (fun h9 => ?_), fun h => by cases h⟩
        rw [hG] at h9
        simp only [Option.some.injEq] at h9
        rw [h9] at hlen
        rw [ex] at hlx
        simp [Fo.cells] at hlen hlx
        omega
  · have hv' : validB cs = false := by simpa using hv
    exact ⟨([], 1), by unfold normalR; rw [if_neg hv], .inr (.inl rfl), fun _ => goB_bad hv', fun h => by cases h⟩
set_option maxRecDepth 100000 in
set_option maxHeartbeats 8000000 in
theorem specVP_any (ps : List Prd) (gs : List (List Cel)) (p : Option Addr) (np cp : Nat) (g : Option Addr) (ng cg : Nat) (w : World) (hnp : np = ps.length) (hng : ng = gs.length) (hsz : szPr ps gs ≤ 1048576) (hok : POk ps) (hgok : CCok gs) (hp : PTt w p ps) (hg : CCT w g gs) :
    Calls Tryz.prog 5 #[.agg #[.slice p np cp, .slice g ng cg]] w fun e w' => e = .returned (.bool (vpB ps gs)) ∧ Below w.heap.size w w' := by
  unfold szPr at hsz
  obtain ⟨bx, ebx⟩ : ∃ bx : Obj, bx = .cells #[.slice p np cp, .slice g ng cg] 31 := ⟨_, rfl⟩
  have HAL : Hid (Below w.heap.size w (w.alloc bx)) := (Below.refl _ _).alloc (Nat.le_refl _) _
  have HBX : Hid (∀ W, Below (w.alloc bx).heap.size (w.alloc bx) W → W.cell? ⟨w.heap.size, 0, none⟩ = some (.slice p np cp) ∧ W.cell? ⟨w.heap.size, 1, none⟩ = some (.slice g ng cg) ∧ Below w.heap.size w W) := fun W hW => by
    have hk : W.heap[w.heap.size]? = some bx := (hW.block w.heap.size (by simp)).trans (heap_alloc_new w _)
    rw [ebx] at hk
    exact ⟨(two_cells hk).1, (two_cells hk).2.1, Below.on HAL.out hW⟩
  have HEB : Hid (bx = .cells #[.slice p np cp, .slice g ng cg] 31) := ebx
  have HP : Hid (PTt w p ps ∧ CCT w g gs ∧ POk ps ∧ CCok gs ∧ np = ps.length ∧ ng = gs.length ∧ (ps.length + szPs ps) + (gs.length + tll gs) ≤ 1048576) := ⟨hp, hg, hok, hgok, hnp, hng, hsz⟩
  have hnb : np ≤ 1048576 := by omega
  have hgb : ng ≤ 1048576 := by omega
  obtain ⟨R, eR⟩ : ∃ R, R = vpB ps gs := ⟨_, rfl⟩
  have HR : Hid (R = vpB ps gs) := eR
  rw [← eR]
  clear hnp hng hsz hok hgok hp hg ebx eR
  by_cases h300 : np ≤ 300
  · have h3' : ¬ ((300 : Int) < (np : Int)) := by omega
    go_enter Tryz.func5, Tryz.ntmps5
    go_wp2_with fail
    rw [← HEB.out]
    clear h3'
    go_loopw [3, 4] (fun s v wo => ∃ (k ct : Nat), k ≤ np ∧ v = .int .i64 k ∧ s = .int .i64 ct ∧ ct ≤ 3000000 ∧ Hid (ct = gs.length + cntP (ps.take k) ∧ (0 < k → ct ≤ 500) ∧ ((ps.take k).map nmF).Nodup ∧ (ps.take k).all prB = true) ∧ Hid (Below (w.alloc bx).heap.size (w.alloc bx) wo)) (fun _ v _ => np - (intOf v).toNat)
    case atStart => exact ⟨0, ng, Nat.zero_le _, rfl, rfl, by omega, ⟨by rw [HP.out.2.2.2.2.2.1]; simp [cntP], fun h => by omega, by simp, by simp⟩, Below.refl _ _⟩
    case round =>
      obtain ⟨k, ct, hk, rfl, rfl, hct, HCT, HA⟩ := hrel
      obtain ⟨wo, rfl⟩ : ∃ wo, wo = wr := ⟨wr, rfl⟩
      obtain ⟨c0, c1, hB⟩ := HBX.out wo HA.out
      by_cases hlt : k < np
      · have hkl : k < ps.length := by have := HP.out.2.2.2.2.1; omega
        have hp9 := HP.out.1.below hB
        obtain ⟨b, o, rfl, hcs⟩ := hp9 (by omega)
        obtain ⟨q, r, d0, d1, d2, d3, d4, d5⟩ := hcs k hkl
        obtain ⟨hby, hwf, hcok⟩ := HP.out.2.2.1 k hkl
        have hbd := szPs_at ps k hkl
        have hbd2 := HP.out.2.2.2.2.2.2
        unfold szP at hbd
        have hszn : (ps.getD k Prd.zero).1.length + ((ps.getD k Prd.zero).2.2.2.length + tll (ps.getD k Prd.zero).2.2.2) ≤ 1048576 := by omega
        have HDUP : Hid (nmF (ps.getD k Prd.zero) ∈ (ps.take k).map nmF → vpB ps gs = false) := vp_dup hkl
        have HBAD : Hid (prB (ps.getD k Prd.zero) = false → vpB ps gs = false) := vp_bad hkl
        have HNX : Hid (¬ nmF (ps.getD k Prd.zero) ∈ (ps.take k).map nmF → prB (ps.getD k Prd.zero) = true → ((ps.take (k + 1)).map nmF).Nodup ∧ (ps.take (k + 1)).all prB = true) := fun h1 h2 => ⟨(nodup_next hkl).2 ⟨HCT.out.2.2.1, h1⟩, by rw [take_at hkl, List.all_append, HCT.out.2.2.2, Bool.true_and]; show (prB _ && true) = true; rw [h2]; rfl⟩
        have HTK : Hid _ := cntP_take ps k hkl
        have HTL : Hid _ := cntP_take_le ps (k + 1)
        have HPR : Hid (prB (ps.getD k Prd.zero) = (decide ((ps.getD k Prd.zero).1.length ≤ 100) && (decide (0 ≤ (ps.getD k Prd.zero).2.1) && (decide ((ps.getD k Prd.zero).2.1 ≤ 20) && (!resvB (ps.getD k Prd.zero).1 (ps.getD k Prd.zero).2.1 && (ps.getD k Prd.zero).2.2.2.all (clB (ps.getD k Prd.zero).1 (ps.getD k Prd.zero).2.1)))))) := rfl
        obtain ⟨nm, enm⟩ : ∃ x, x = (ps.getD k Prd.zero).1 := ⟨_, rfl⟩
        obtain ⟨ar, ear⟩ : ∃ x, x = (ps.getD k Prd.zero).2.1 := ⟨_, rfl⟩
        obtain ⟨dy, edy⟩ : ∃ x, x = (ps.getD k Prd.zero).2.2.1 := ⟨_, rfl⟩
        obtain ⟨css, ecs⟩ : ∃ x, x = (ps.getD k Prd.zero).2.2.2 := ⟨_, rfl⟩
        have hnmF : nmF (ps.getD k Prd.zero) = (nm, ar) := by unfold nmF; rw [enm, ear]
        rw [← enm, ← ear, ← ecs] at HPR
        rw [← ecs] at HTK
        rw [← enm] at d0 d4 hby hszn
        rw [← ear] at d1 hwf
        rw [← edy] at d2
        rw [← ecs] at d3 d5 hcok hszn
        obtain ⟨m, em2⟩ : ∃ m, m = nm.length := ⟨_, rfl⟩
        obtain ⟨nc, enc⟩ : ∃ nc, nc = css.length := ⟨_, rfl⟩
        have HIR : Hid (∀ W, Below wo.heap.size wo W → Calls Tryz.prog 11 #[.slice q m m, .int .i64 ar] W fun e w' => e = .returned (.bool (resvB nm ar)) ∧ Below W.heap.size W w') := fun W hW => by rw [em2]; exact specIsRes_any q nm.length nm ar W (by omega) hby (d4.below hW)
        have HPD : Hid (∀ W, Below wo.heap.size wo W → Calls Tryz.prog 12 #[.agg #[.slice (some ⟨b, o, none⟩) np cp, .slice g ng cg], .slice q m m, .int .i64 ar] W fun e w' => ∃ r : Nat, e = .returned (.int .i64 r) ∧ r ≤ 1048576 ∧ Hid (r = k ↔ ¬ inB ps k (nm, ar)) ∧ Below W.heap.size W w') := fun W hW => l8pred_any ps _ np cp g ng cg nm ar q m m k W HP.out.2.2.2.2.1 hnb HP.out.2.2.1 (hp9.below hW) hby em2 (d4.below hW) hkl hnmF
        have HCC : Hid (∀ W j qj, Below wo.heap.size wo W → j < css.length → CIn W qj (css.getD j []) → Calls Tryz.prog 13 #[.agg #[.slice q m m, .int .i64 ar, .bool dy, .slice r nc nc], .slice qj (css.getD j []).length (css.getD j []).length] W fun e w' => e = .returned (.bool (clB nm ar (css.getD j []))) ∧ Below W.heap.size W w') := fun W j qj hW hj hc => clauseOK_any nm ar dy q m m r nc nc (css.getD j []) qj W hby em2 (by omega) (d4.below hW) (hcok.2 j hj).2.2 (by have := tll_at css j hj; omega) hc
        have HCD : Hid (CCT wo r css ∧ nc = css.length) := ⟨d5, enc⟩
        rw [hnmF] at HDUP HNX
        rw [← em2] at d0 HPR
        rw [← enc] at d3 HTK
        have hnc : nc ≤ 1048576 := by omega
        have hmb : m ≤ 1048576 := by omega
        obtain ⟨pb, epb⟩ : ∃ pb : Obj, pb = .cells #[.slice q m m, .int .i64 ar, .bool dy, .slice r nc nc] 39 := ⟨_, rfl⟩
        have HPB : Hid (pb = .cells #[.slice q m m, .int .i64 ar, .bool dy, .slice r nc nc] 39) := epb
        have HAa : Hid (Below (w.alloc bx).heap.size (w.alloc bx) (wo.alloc pb)) := HA.out.alloc HA.out.size _
        have HBb : Hid (∀ W, Below (wo.alloc pb).heap.size (wo.alloc pb) W → Box4 W wo.heap.size (.slice q m m) (.int .i64 ar) (.bool dy) (.slice r nc nc) ∧ Below wo.heap.size wo W ∧ Below (w.alloc bx).heap.size (w.alloc bx) W) := fun W hW => by
          have hk : W.heap[wo.heap.size]? = some pb := (hW.block wo.heap.size (by simp)).trans (heap_alloc_new wo _)
          rw [epb] at hk
          exact ⟨Box4.of_block hk, Below.on ((Below.refl _ _).alloc (Nat.le_refl _) _) hW, Below.on HAa.out hW⟩
        have HC5 : Hid (500 < ct + nc → vpB ps gs = false) := fun h5 => vpB_no (fun h9 => by have h8 := h9.2.1; have := HCT.out.1; have := HTK.out; have := HTL.out; omega)
        obtain ⟨rb, erb⟩ : ∃ x, x = resvB nm ar := ⟨_, rfl⟩
        rw [← erb] at HIR HPR
        clear hcs d4 d5 hby hwf hcok hbd hbd2 hszn enm ear edy ecs hnmF em2 enc epb erb hp9
        by_cases h1 : m ≤ 100
        · by_cases h2 : 0 ≤ ar
          · by_cases h3 : ar ≤ 20
            · rw [decide_eq_true h1, decide_eq_true h2, decide_eq_true h3] at HPR
              have h1' : ¬ ((100 : Int) < (m : Int)) := by omega
              have h2' : ¬ (ar < 0) := by omega
              have h3' : ¬ (20 < ar) := by omega
              have HIa := HIR.out (wo.alloc pb) ((HBb.out _ (Below.refl _ _)).2.1)
              go_wp2_with fail
              rw [← HPB.out]
              refine HIa.mono ?_
              rintro e w2 ⟨rfl, hb2⟩
              obtain ⟨⟨y0, y1, y2, y3, _⟩, hW2, hA2⟩ := HBb.out w2 hb2
              obtain ⟨c0', c1', hB2⟩ := HBX.out w2 hA2
              have HA2 : Hid (Below (wo.alloc pb).heap.size (wo.alloc pb) w2) := hb2
              have HPD2 := HPD.out w2 hW2
              clear HIa hb2
              cases rb with
              | true =>
                have HRF : Hid (R = false) := by show _ = _; rw [HR.out]; exact HBAD.out (by rw [HPR.out]; rfl)
                have HBf : Hid (Below w.heap.size w w2) := hB2
                clear hB2 hA2 hW2 HPD2
                go_wp2_with fail
                go_ret
                exact ⟨ret_bool HRF.out.symm, HBf.out⟩
              | false =>
                clear hB2 hA2 hW2
                go_wp2_with fail
                refine HPD2.mono ?_
                rintro e w3 ⟨ri, rfl, hri, hrk, hb3⟩
                have hb3' := Below.on HA2.out hb3
                obtain ⟨⟨z0, z1, z2, z3, _⟩, hW3, hA3⟩ := HBb.out w3 hb3'
                obtain ⟨_, _, hB3⟩ := HBX.out w3 hA3
                have HA3 : Hid (Below (wo.alloc pb).heap.size (wo.alloc pb) w3) := hb3'
                have HBf : Hid (Below w.heap.size w w3) := hB3
                clear hb3 hb3' hB3 hA3 hW3 HPD2 y0 y1 y2 y3 c0' c1'
                by_cases hik : ri = k
                · have hnot := hrk.out.1 hik
                  subst hik
                  have HNX2 : Hid _ := HNX.out hnot
                  clear hrk hnot
                  by_cases h5 : ct + nc ≤ 500
                  · have h5' : ¬ ((500 : Int) < (ct : Int) + (nc : Int)) := by omega
                    go_wp2_with fail
                    go_loopw [6] (fun v wr => ∃ (j : Nat), j ≤ nc ∧ v = .int .i64 j ∧ Hid ((css.take j).all (clB nm ar) = true) ∧ Hid (Below (wo.alloc pb).heap.size (wo.alloc pb) wr)) (fun v _ => nc - (intOf v).toNat)
                    case atStart => exact ⟨0, Nat.zero_le _, rfl, by simp [Hid], HA3⟩
                    case round =>
                      obtain ⟨j, hj, rfl, HALL, HAq⟩ := hrel
                      obtain ⟨⟨u0, u1, u2, u3, _⟩, hWq, hAq⟩ := HBb.out wr HAq.out
                      obtain ⟨v0, v1, hBq⟩ := HBX.out wr hAq
                      have HBq : Hid (Below w.heap.size w wr) := hBq
                      by_cases hjl : j < nc
                      · have hjc : j < css.length := by have := HCD.out.2; omega
                        obtain ⟨b9, o9, e9, hcs⟩ := (HCD.out.1.below hWq).at (by omega)
                        obtain ⟨qj, d9, f9⟩ := hcs j hjc
                        subst e9
                        have HCj : Hid (∀ W, Below wr.heap.size wr W → Calls Tryz.prog 13 #[.agg #[.slice q m m, .int .i64 ar, .bool dy, .slice (some ⟨b9, o9, none⟩) nc nc], .slice qj (css.getD j []).length (css.getD j []).length] W fun e w' => e = .returned (.bool (clB nm ar (css.getD j []))) ∧ Below W.heap.size W w') := fun W hW => HCC.out W j qj (Below.on hWq hW) hjc (f9.below hW)
                        have HETK : Hid ((css.take (j + 1)).all (clB nm ar) = clB nm ar (css.getD j [])) := by
                          show _ = _
                          rw [List.take_succ_eq_append_getElem hjc, List.all_append, HALL.out, Bool.true_and, List.getD, List.getElem?_eq_getElem hjc]
                          simp
                        have HALLN : Hid (clB nm ar (css.getD j []) = false → css.all (clB nm ar) = false) := fun h => by
                          cases h9 : css.all (clB nm ar) with
                          | false => rfl
                          | true =>
                            rw [List.all_eq_true] at h9
                            have h8 := h9 (css.getD j []) (by rw [List.getD, List.getElem?_eq_getElem hjc]; exact List.getElem_mem hjc)
                            rw [h] at h8
                            cases h8
                        obtain ⟨l, el⟩ : ∃ l, l = (css.getD j []).length := ⟨_, rfl⟩
                        obtain ⟨cb, ecb⟩ : ∃ x, x = clB nm ar (css.getD j []) := ⟨_, rfl⟩
                        rw [← el] at HCj d9
                        rw [← ecb] at HCj HETK HALLN
                        have hj0 : (0 : Int) ≤ (j : Int) := by omega
                        have hj1 : (j : Int) < (nc : Int) := by omega
                        clear hcs f9 el ecb hBq hAq hWq v0 v1
                        go_wp2_with fail
                        go_region_held3 (fun W => W.cell? ⟨wo.heap.size, 0, none⟩ = some (.slice q m m) ∧ W.cell? ⟨wo.heap.size, 1, none⟩ = some (.int .i64 ar) ∧ W.cell? ⟨wo.heap.size, 2, none⟩ = some (.bool dy) ∧ W.cell? ⟨wo.heap.size, 3, none⟩ = some (.slice (some ⟨b9, o9, none⟩) nc nc) ∧ W.cell? ⟨b9, o9 + j, none⟩ = some (.slice qj l l)) (first | exact kc | go_keep)
                          ((go_at_call 13; refine (HCj.out _ (Below.refl wr.heap.size wr).drew).mono ?_; rintro e w4 ⟨rfl, hb4⟩; have hb5 : Below wr.heap.size wr w4 := ((Below.refl wr.heap.size wr).drew).trans hb4; have kc : w4.cell? ⟨wo.heap.size, 0, none⟩ = some (.slice q m m) ∧ w4.cell? ⟨wo.heap.size, 1, none⟩ = some (.int .i64 ar) ∧ w4.cell? ⟨wo.heap.size, 2, none⟩ = some (.bool dy) ∧ w4.cell? ⟨wo.heap.size, 3, none⟩ = some (.slice (some ⟨b9, o9, none⟩) nc nc) ∧ w4.cell? ⟨b9, o9 + j, none⟩ = some (.slice qj l l) := ⟨(hb5.cell (World.block_lt_of_cell? _ _ u0)).trans u0, (hb5.cell (World.block_lt_of_cell? _ _ u1)).trans u1, (hb5.cell (World.block_lt_of_cell? _ _ u2)).trans u2, (hb5.cell (World.block_lt_of_cell? _ _ u3)).trans u3, (hb5.cell (World.block_lt_of_cell? _ _ d9)).trans d9⟩))
                        have HB4 : Hid (Below w.heap.size w w4) := Below.on HBq.out hb5
                        have HA4 : Hid (Below (wo.alloc pb).heap.size (wo.alloc pb) w4) := Below.on HAq.out hb5
                        clear hb4 hb5 kc u0 u1 u2 u3 d9
                        cases cb with
                        | false =>
                          have HRF : Hid (R = false) := by show _ = _; rw [HR.out]; exact HBAD.out (by rw [HPR.out, HALLN.out rfl]; rfl)
                          go_wp2_with fail
                          go_ret
                          exact ⟨ret_bool HRF.out.symm, HB4.out⟩
                        | true =>
                          go_wp2_with fail
                          go_roundw
                          case rel => exact ⟨j + 1, by omega, by go_num, HETK, HA4⟩
                          case measure => simp [intOf]; omega
                      · obtain rfl : j = nc := by omega
                        have hfull : css.take j = css := by rw [HCD.out.2]; exact List.take_length
                        rw [hfull] at HALL
                        have HN3 : Hid _ := HNX2.out (by rw [HPR.out, HALL.out]; rfl)
                        have HAQ : Hid (Below (w.alloc bx).heap.size (w.alloc bx) wr) := hAq
                        clear hfull hBq hAq hWq v0 v1
                        go_wp2_with fail
                        go_roundw
                        case rel => exact ⟨ri + 1, ct + j, by omega, by go_num, by go_num, by omega, ⟨by have := HCT.out.1; have := HTK.out; omega, fun _ => by omega, HN3.out.1, HN3.out.2⟩, HAQ⟩
                        case measure => simp [intOf]; omega
                  · have HRF : Hid (R = false) := by show _ = _; rw [HR.out]; exact HC5.out (by omega)
                    have h5' : ((500 : Int) < (ct : Int) + (nc : Int)) := by omega
                    go_wp2_with fail
                    go_ret
                    exact ⟨ret_bool HRF.out.symm, HBf.out⟩
                · have hin : (nm, ar) ∈ (ps.take k).map nmF := Classical.byContradiction fun h => hik (hrk.out.2 h)
                  have HRF : Hid (R = false) := by show _ = _; rw [HR.out]; exact HDUP.out hin
                  have hik2 : ¬ (ri : Int) = (k : Int) := by omega
                  have hik3 : ((ri : Int) != (k : Int)) = true := by simpa using hik2
                  clear hrk hin
                  go_wp2_with fail
                  go_ret
                  exact ⟨ret_bool HRF.out.symm, HBf.out⟩
            · have HRF : Hid (R = false) := by show _ = _; rw [HR.out]; exact HBAD.out (by rw [HPR.out, decide_eq_false h3]; simp)
              have h1' : ¬ ((100 : Int) < (m : Int)) := by omega
              have h2' : ¬ (ar < 0) := by omega
              have h3' : (20 < ar) := by omega
              have HBf : Hid (Below w.heap.size w (wo.alloc pb)) := (HBX.out _ HAa.out).2.2
              go_wp2_with fail
              rw [← HPB.out]
              go_ret
              exact ⟨ret_bool HRF.out.symm, HBf.out⟩
          · have HRF : Hid (R = false) := by show _ = _; rw [HR.out]; exact HBAD.out (by rw [HPR.out, decide_eq_false h2]; simp)
            have h1' : ¬ ((100 : Int) < (m : Int)) := by omega
            have h2' : (ar < 0) := by omega
            have HBf : Hid (Below w.heap.size w (wo.alloc pb)) := (HBX.out _ HAa.out).2.2
            go_wp2_with fail
            rw [← HPB.out]
            go_ret
            exact ⟨ret_bool HRF.out.symm, HBf.out⟩
        · have HRF : Hid (R = false) := by show _ = _; rw [HR.out]; exact HBAD.out (by rw [HPR.out, decide_eq_false h1]; simp)
          have h1' : ((100 : Int) < (m : Int)) := by omega
          have HBf : Hid (Below w.heap.size w (wo.alloc pb)) := (HBX.out _ HAa.out).2.2
          go_wp2_with fail
          rw [← HPB.out]
          go_ret
          exact ⟨ret_bool HRF.out.symm, HBf.out⟩
      · obtain rfl : k = np := by omega
        have hfull : ps.take k = ps := by rw [HP.out.2.2.2.2.1]; exact List.take_length
        rw [hfull] at HCT
        have HBr : Hid (Below w.heap.size w wo) := hB
        have hpk := HP.out.2.2.2.2.1
        by_cases h5 : ct ≤ 500
        · have h5' : ¬ ((500 : Int) < (ct : Int)) := by omega
          have HYES : Hid (allG gs gs.length → vpB ps gs = true) := fun h => vpB_yes ⟨by omega, by have := HCT.out.1; omega, HCT.out.2.2.1, HCT.out.2.2.2, (allG_all gs).1 h⟩
          have HNOT : Hid (∀ j, j < gs.length → goB (gs.getD j []) = false → vpB ps gs = false) := fun j hj h => vpB_no (fun h9 => by
            have h8 := (allG_all gs).2 h9.2.2.2.2 j hj
            rw [h] at h8
            cases h8)
          clear hfull hB hpk
          go_wp2_with fail
          clear h5 h5'
          go_loopw [7] (fun v wr => ∃ (j : Nat), j ≤ ng ∧ v = .int .i64 j ∧ Hid (allG gs j) ∧ Hid (Below (w.alloc bx).heap.size (w.alloc bx) wr)) (fun v _ => ng - (intOf v).toNat)
          case atStart => exact ⟨0, Nat.zero_le _, rfl, fun i hi => by omega, HA⟩
          case round =>
            obtain ⟨j, hj, rfl, HALL, HAq⟩ := hrel
            obtain ⟨v0, v1, hBq⟩ := HBX.out wr HAq.out
            have HBq : Hid (Below w.heap.size w wr) := hBq
            by_cases hjl : j < ng
            · have hjc : j < gs.length := by have := HP.out.2.2.2.2.2.1; omega
              obtain ⟨b9, o9, e9, hcs⟩ := (HP.out.2.1.below hBq).at (by omega)
              obtain ⟨qj, d9, f9⟩ := hcs j hjc
              subst e9
              have hbd := tll_at gs j hjc
              have hbd2 := HP.out.2.2.2.2.2.2
              obtain ⟨rr, hnr, hcd, hne, hze⟩ := normalR_at (gs.getD j []) (HP.out.2.2.2.1.2 j hjc).2.2
              have HNB := specNormal_any (gs.getD j []) qj (gs.getD j []).length (gs.getD j []).length wr rfl (Nat.le_refl _) (by omega) f9 rr hnr
              have HNJ : Hid (goB (gs.getD j []) = false → vpB ps gs = false) := HNOT.out j hjc
              have HSV : Hid (∀ (W : World) (qa : Option Addr) (na ca : Nat), rr.2 = 0 → Below wr.heap.size wr W → na = rr.1.length → CIn W qa rr.1 → Calls Tryz.prog 15 #[.slice qa na ca, .slice qj (gs.getD j []).length (gs.getD j []).length] W fun e w' => e = .returned (.bool (goB (gs.getD j []))) ∧ Below W.heap.size W w') := fun W qa na ca h0 hW hna hc => by
                obtain ⟨z1, z2, z3, z4⟩ := hze h0
                rw [z1]
                exact sameV_any rr.1 (gs.getD j []) qa qj ca _ na _ W hna rfl (by omega) (by omega) (by omega) hc (f9.below hW) z4 (byte_mem (HP.out.2.2.2.1.2 j hjc).2.2)
              have HNE : Hid (rr.2 ≠ 0 → goB (gs.getD j []) = false) := hne
              obtain ⟨l, el⟩ : ∃ l, l = (gs.getD j []).length := ⟨_, rfl⟩
              obtain ⟨gb, egb⟩ : ∃ x, x = goB (gs.getD j []) := ⟨_, rfl⟩
              have HGB : Hid (gb = goB (gs.getD j [])) := egb
              rw [← el] at HNB HSV d9
              rw [← egb] at HSV HNJ HNE
              unfold NbRes at HNB
              obtain ⟨r1, er1⟩ : ∃ x, x = rr.1 := ⟨_, rfl⟩
              obtain ⟨r2, er2⟩ : ∃ x, x = rr.2 := ⟨_, rfl⟩
              rw [← er1, ← er2] at HNB HSV
              rw [← er2] at HNE hcd
              clear hcs f9 hbd hbd2 hnr hne hze el egb er1 er2 hBq
              by_cases h0 : r2 = 0
              · subst h0
                go_wp2_with fail
                refine HNB.mono ?_
                rintro e w4 ⟨qa, na, ca, rfl, hown, hb4⟩
                have d9' := (hb4.cell (World.block_lt_of_cell? _ _ d9)).trans d9
                have v1' := (hb4.cell (World.block_lt_of_cell? _ _ v1)).trans v1
                have HS4 := HSV.out w4 qa na ca (by simp) hb4 hown.1 hown.cin
                have HA4 : Hid (Below (w.alloc bx).heap.size (w.alloc bx) w4) := Below.on HAq.out hb4
                clear hb4 hown HNB
                go_wp2_with fail
                refine HS4.mono ?_
                rintro e w5 ⟨rfl, hb5⟩
                have HA5 : Hid (Below (w.alloc bx).heap.size (w.alloc bx) w5) := Below.on HA4.out hb5
                clear hb5 HS4
                cases gb with
                | false =>
                  have HRF : Hid (R = false) := by show _ = _; rw [HR.out]; exact HNJ.out rfl
                  go_wp2_with fail
                  go_ret
                  exact ⟨ret_bool HRF.out.symm, (HBX.out _ HA5.out).2.2⟩
                | true =>
                  go_wp2_with fail
                  go_roundw
                  case rel => exact ⟨j + 1, by omega, by go_num, fun i hi => by
                    rcases Nat.lt_or_ge i j with h | h
                    · exact HALL.out i h
                    · have e : i = j := by omega
                      rw [e]; exact HGB.out.symm, HA5⟩
                  case measure => simp [intOf]; omega
              · have HRF : Hid (R = false) := by show _ = _; rw [HR.out]; exact HNJ.out (HNE.out h0)
                have h0' : (r2 != 0) = true := by simpa using h0
                clear HSV HNE
                go_wp2_with fail
                refine HNB.mono ?_
                rintro e w4 ⟨qa, na, ca, rfl, _, hb4⟩
                have HA4 : Hid (Below (w.alloc bx).heap.size (w.alloc bx) w4) := Below.on HAq.out hb4
                clear hb4 HNB
                go_wp2_with fail
                go_ret
                exact ⟨ret_bool HRF.out.symm, (HBX.out _ HA4.out).2.2⟩
            · obtain rfl : j = ng := by omega
              have HRT : Hid (R = true) := by show _ = _; rw [HR.out]; exact HYES.out (by rw [← HP.out.2.2.2.2.2.1]; exact HALL.out)
              clear hBq
              go_wp2_with fail
              go_ret
              exact ⟨ret_bool HRT.out.symm, HBq.out⟩
        · have HRF : Hid (R = false) := by show _ = _; rw [HR.out]; exact vpB_no (fun h9 => by have := h9.2.1; have := HCT.out.1; omega)
          have h5' : ((500 : Int) < (ct : Int)) := by omega
          clear hfull hB hpk
          go_wp2_with fail
          go_ret
          exact ⟨ret_bool HRF.out.symm, HBr.out⟩
  · have HRF : Hid (R = false) := by show _ = _; rw [HR.out]; exact vpB_no (fun h9 => by have := h9.1; have := HP.out; omega)
    have h3' : ((300 : Int) < (np : Int)) := by omega
    go_enter Tryz.func5, Tryz.ntmps5
    go_wp2_with fail
    rw [← HEB.out]
    go_ret
    exact ⟨ret_bool HRF.out.symm, HAL.out⟩
end Go.Proofs.YtfgaenggbbgboaaGreatDoor

