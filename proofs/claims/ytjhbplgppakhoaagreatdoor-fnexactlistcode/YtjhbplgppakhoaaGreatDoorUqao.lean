/- Texts of RegB, WtA, Tree2, MarkT. Own work of the verifier. -/
import Derived.Test.YtjhbplgppakhoaaGreatDoorUqaf
import Derived.Test.YtjhbplgppakhoaaGreatDoorUqan
import Derived.Test.YtjhbplgppakhoaaGreatDoorUqal
import Derived.Lib.SlBytesConst
import Derived.Test.YtjhbplgppakhoaaGreatDoorUqae
namespace Go.Proofs.YtjhbplgppakhoaaGreatDoor
open Go
section
variable {P : Program} {ops : Array Oper} {Q : Exit → Act → World → Prop} {md : Region.Mode} {S : World → Prop}
theorem hBoth {i j : Nat} {fuel : Nat} {listed : Array Bool} {a : Act} {w : World} (hr : Region.ready md ops listed = [i, j])
    (hi : wpOp P ops Q i (fun a' w' => S w' ∧ wpAnyH P md ops Q S fuel (listed.setIfInBounds i true) a' w') a w)
    (hj : wpOp P ops Q j (fun a' w' => S w' ∧ wpAnyH P md ops Q S fuel (listed.setIfInBounds j true) a' w') a w) : wpAnyH P md ops Q S (fuel + 1) listed a w := by
  refine wpAnyH_all hr (by simp) ?_
  intro k hk
  simp only [List.mem_cons, List.not_mem_nil, or_false] at hk
  rcases hk with rfl | rfl
  · exact hi
  · exact hj
theorem opStep {i : Nat} {v : Value} {K : Act → World → Prop} {a : Act} {w w' : World} (d : Option Tmp) (hd : (ops[i]?).map (·.dst) = some d) (hw : (ops[i]?).map (fun o => Region.wanted o (yielded ops a.tmps)) = some true)
    (hrun : ∀ o, ops[i]? = some o → (execOp a.eval o).run P w = .ok (.value v) w') (h : K (a.put d v) w') : wpOp P ops Q i K a w := by
  cases hi : ops[i]? with
  | none => simp [hi] at hd
  | some o =>
    have hd' : o.dst = d := by simpa [hi] using hd
    have hw' : Region.wanted o (yielded ops a.tmps) = true := by simpa [hi] using hw
    subst hd'
    unfold wpOp
    simp only [hi, hw', if_true, Oper.wp, hrun o hi, Oper.upon]
    exact .inl h
theorem opCall {i : Nat} {f : FuncId} {args : Array Value} {R : Ending → World → Prop} {K : Act → World → Prop} {a : Act} {w : World} (d : Option Tmp) (hd : (ops[i]?).map (·.dst) = some d) (hw : (ops[i]?).map (fun o => Region.wanted o (yielded ops a.tmps)) = some true)
    (hrun : ∀ o, ops[i]? = some o → (execOp a.eval o).run P w = .ok (.enter f args) w) (hC : Calls P f args w R) (hK : ∀ u w', R (.returned u) w' → K (a.put d u) w')
    (hP : ∀ ch w', ¬ R (.panicked ch) w') (hO : ∀ w', ¬ R .outgrown w') : wpOp P ops Q i K a w := by
  cases hi : ops[i]? with
  | none => simp [hi] at hd
  | some o =>
    have hd' : o.dst = d := by simpa [hi] using hd
    have hw' : Region.wanted o (yielded ops a.tmps) = true := by simpa [hi] using hw
    subst hd'
    unfold wpOp
    simp only [hi, hw', if_true, Oper.wp, hrun o hi, Oper.upon]
    refine .inl (hC.mono fun e w'' he => ?_)
    cases e with
    | returned u => exact hK u w'' he
    | panicked ch => exact absurd he (hP ch w'')
    | outgrown => exact absurd he (hO w'')
end
end Go.Proofs.YtjhbplgppakhoaaGreatDoor

namespace Go.Proofs.YtjhbplgppakhoaaGreatDoor
open Go Go.RowKit
set_option linter.unusedVariables false
set_option linter.unusedSimpArgs false
theorem str_app (a b : List Int) : strOfNums a ++ strOfNums b = strOfNums (a ++ b) := by
  apply ByteArray.ext
  rw [ByteArray.data_append]
  simp [strOfNums]
theorem conv_one (w W : World) (x : Int) (hb : Below (w.alloc (.cells #[.int .u8 x] 5)).heap.size (w.alloc (.cells #[.int .u8 x] 5)) W) : (convert 28 9 (.slice (some ⟨w.heap.size, 0, none⟩) 1 1)).run Tryz.prog W = .ok (.string (strOfNums [x])) W := by
  refine conv_str (xs := [x]) (fun _ => ⟨w.heap.size, 0, rfl, fun i hi => ?_⟩) 1 1 rfl 9 Tryz.underlying9
  obtain rfl : i = 0 := by simpa using hi
  have h1 : (w.alloc (.cells #[.int .u8 x] 5)).cell? ⟨w.heap.size, 0, none⟩ = some (.int .u8 x) := by
    have hnew := heap_alloc_new w (.cells #[.int .u8 x] 5)
    simp only [World.cell?]
    rw [hnew]; rfl
  exact (hb.cell (World.block_lt_of_cell? _ _ h1)).trans h1
theorem cell_one (w : World) (x : Int) : (w.alloc (.cells #[.int .u8 x] 5)).cell? ⟨w.heap.size, 0, none⟩ = some (.int .u8 x) := by
  have hnew := heap_alloc_new w (.cells #[.int .u8 x] 5)
  simp only [World.cell?]
  rw [hnew]; rfl
theorem conv_one' (W : World) (b : Nat) (x : Int) (h : W.cell? ⟨b, 0, none⟩ = some (.int .u8 x)) : (convert 28 9 (.slice (some ⟨b, 0, none⟩) 1 1)).run Tryz.prog W = .ok (.string (strOfNums [x])) W := by
  refine conv_str (xs := [x]) (fun _ => ⟨b, 0, rfl, fun i hi => ?_⟩) 1 1 rfl 9 Tryz.underlying9
  obtain rfl : i = 0 := by simpa using hi
  exact h
theorem dec_len : ∀ (f : Nat) (v : Int), (decF f v).length ≤ f + 1
  | 0, v => by simp [decF]
  | f + 1, v => by
    have := dec_len f (v.tdiv 10)
    unfold decF
    split
    · simp
    · split
      · simp; omega
      · split
        · simp
        · simp; omega
theorem wrap_u8W {x : Int} (h0 : 0 ≤ x) (h1 : x < 256) : IntKind.u8.wrap x = x := wrap_u8_in h0 h1
theorem wrap_i64W {x : Int} (h0 : -9223372036854775808 ≤ x) (h1 : x ≤ 9223372036854775807) : IntKind.i64.wrap x = x := by
  simp [IntKind.wrap, IntKind.signed, IntKind.bits]
  omega
set_option maxRecDepth 100000 in
set_option maxHeartbeats 1000000 in
theorem dec_neg (v d r x : Int) (D : List Int) (w : World) (ed : v.tdiv 10 = d) (er : v.tmod 10 = r) (ex : 48 - r = x) (hv : v ≤ -10) (hv1 : -9223372036854775808 ≤ v) (hv2 : v < 9223372036854775808) (hr1 : -10 < r) (hr2 : r < 10) (hx0 : 0 ≤ x) (hx1 : x < 256) (hD : D.length ≤ 20)
    (hI : ∀ W : World, Calls Tryz.prog 48 #[.int .i64 d] W fun e w' => e = .returned (.string (strOfNums D)) ∧ Below W.heap.size W w') :
    Calls Tryz.prog 48 #[.int .i64 v] w fun e w' => e = .returned (.string (strOfNums (D ++ [x]))) ∧ Below w.heap.size w w' := by
  have HI : Hid (∀ W : World, Calls Tryz.prog 48 #[.int .i64 d] W fun e w' => e = .returned (.string (strOfNums D)) ∧ Below W.heap.size W w') := hI
  have wx : IntKind.u8.wrap x = x := wrap_u8W hx0 hx1
  have HE : Hid (strOfNums D ++ strOfNums [x] = strOfNums (D ++ [x])) := str_app _ _
  have HCA : Hid (∀ (W : World) (b : Nat), W.cell? ⟨b, 0, none⟩ = some (.int .u8 x) → (convert 28 9 (.slice (some ⟨b, 0, none⟩) 1 1)).run Tryz.prog W = .ok (.string (strOfNums [x])) W) := fun W b h => conv_one' W b x h
  have HCV : Hid (∀ W0 W : World, Below (W0.alloc (.cells #[.int .u8 x] 5)).heap.size (W0.alloc (.cells #[.int .u8 x] 5)) W → W.cell? ⟨W0.heap.size, 0, none⟩ = some (.int .u8 x)) := fun W0 W hb => (hb.cell (World.block_lt_of_cell? _ _ (cell_one W0 x))).trans (cell_one W0 x)
  obtain ⟨sD, esD⟩ : ∃ sD, sD = strOfNums D := ⟨_, rfl⟩
  obtain ⟨s, es⟩ : ∃ s, s = strOfNums [x] := ⟨_, rfl⟩
  rw [← esD] at HI HE
  rw [← es] at HCA HE
  have hss : s.size = 1 := by rw [es]; exact strOfNums_size _
  have hsD : sD.size ≤ 20 := by rw [esD, strOfNums_size]; exact hD
  clear es esD hI hD
  go_enter Tryz.func48, Tryz.ntmps48
  go_wp2_with fail
  refine wp_region_held_drew (S := fun _ => True) (by kernel_rfl) trivial (fun hHeld => ?_)
  have hsm : sD.size ≤ 9223372036854775806 := by omega
  have wd : IntKind.i64.wrap d = d := wrap_i64W (by have := Int.mul_tdiv_add_tmod v 10; omega) (by have := Int.mul_tdiv_add_tmod v 10; omega)
  have wy : IntKind.i64.wrap x = x := wrap_i64W (by omega) (by omega)
  refine hTake (i := 0) (v := .int .i64 v) (some 17) (by kernel_rfl) (by kernel_rfl) (by kernel_rfl) (by kernel_rfl) (by kernel_rfl) (fun _ _ _ h => h) (fun o ho W hSw => ?y1) trivial ?_
  case y1 => cases ho; simp [execOp, go_sem, Act.eval]
  simp only [Act.put, zzA, zzB, zzC]
  refine hTake (i := 1) (v := .int .i64 d) (some 18) (by kernel_rfl) (by kernel_rfl) (by kernel_rfl) (by kernel_rfl) (by kernel_rfl) (fun _ _ _ h => h) (fun o ho W hSw => ?y2) trivial ?_
  case y2 => cases ho; simp [execOp, go_sem, Act.eval, ed, wd]
  simp only [Act.put, zzA, zzB, zzC]
  refine hTake (i := 3) (v := .int .i64 v) (some 20) (by kernel_rfl) (by kernel_rfl) (by kernel_rfl) (by kernel_rfl) (by kernel_rfl) (fun _ _ _ h => h) (fun o ho W hSw => ?y3) trivial ?_
  case y3 => cases ho; simp [execOp, go_sem, Act.eval]
  simp only [Act.put, zzA, zzB, zzC]
  refine hTake (i := 4) (v := .int .i64 r) (some 21) (by kernel_rfl) (by kernel_rfl) (by kernel_rfl) (by kernel_rfl) (by kernel_rfl) (fun _ _ _ h => h) (fun o ho W hSw => ?y4) trivial ?_
  case y4 => cases ho; simp [execOp, go_sem, Act.eval, er]
  simp only [Act.put, zzA, zzB, zzC]
  refine hTake (i := 5) (v := .int .i64 x) (some 22) (by kernel_rfl) (by kernel_rfl) (by kernel_rfl) (by kernel_rfl) (by kernel_rfl) (fun _ _ _ h => h) (fun o ho W hSw => ?y5) trivial ?_
  case y5 => cases ho; simp [execOp, go_sem, Act.eval, ex, wy]
  simp only [Act.put, zzA, zzB, zzC]
  refine hTake (i := 6) (v := .int .u8 x) (some 23) (by kernel_rfl) (by kernel_rfl) (by kernel_rfl) (by kernel_rfl) (by kernel_rfl) (fun _ _ _ h => h) (fun o ho W hSw => ?y6) trivial ?_
  case y6 => cases ho; simp [execOp, go_sem, Act.eval, wx]
  simp only [Act.put, zzA, zzB, zzC]
  refine hBoth (i := 2) (j := 7) (by kernel_rfl) ?_ ?_
  · skip
    refine opCall (f := 48) (args := #[.int .i64 d]) (some 19) (by kernel_rfl) (by kernel_rfl) (fun o ho => ?y7) (HI.out _) (fun u w1 hu => ⟨trivial, ?_⟩) (fun ch w' h => by cases h.1) (fun w' h => by cases h.1)
    case y7 => cases ho; simp [execOp, go_sem, Act.eval]
    obtain ⟨hu, hb1⟩ := hu
    cases hu
    simp only [Act.put, zzA, zzB, zzC]
    refine hStep (i := 7) (v := .slice (some ⟨w1.heap.size, 0, none⟩) 1 1) (w' := w1.alloc (.cells #[.int .u8 x] 5)) (some 24) (by kernel_rfl) (by kernel_rfl) (by kernel_rfl) (fun o ho => ?y8) trivial ?_
    case y8 => cases ho; simp [execOp, go_sem, Act.eval]
    simp only [Act.put, zzA, zzB, zzC]
    have cv := HCA.out _ _ (cell_one w1 x)
    refine hStep (i := 8) (v := .string s) (w' := w1.alloc (.cells #[.int .u8 x] 5)) (some 25) (by kernel_rfl) (by kernel_rfl) (by kernel_rfl) (fun o ho => ?y9) trivial ?_
    case y9 => cases ho; simp [execOp, go_sem, Act.eval, cv]
    simp only [Act.put, zzA, zzB, zzC]
    refine hTake (i := 9) (v := .string (sD ++ s)) (some 26) (by kernel_rfl) (by kernel_rfl) (by kernel_rfl) (by kernel_rfl) (by kernel_rfl) (fun _ _ _ h => h) (fun o ho W hSw => ?y10) trivial ?_
    case y10 => cases ho; simp [execOp, go_sem, Act.eval, hss, hsm]
    simp only [Act.put, zzA, zzB, zzC]
    refine hTake (i := 10) (v := .string (sD ++ s)) (some 2) (by kernel_rfl) (by kernel_rfl) (by kernel_rfl) (by kernel_rfl) (by kernel_rfl) (fun _ _ _ h => h) (fun o ho W hSw => ?y11) trivial ?_
    case y11 => cases ho; simp [execOp, go_sem, Act.eval]
    simp only [Act.put, zzA, zzB, zzC]
    refine wpAnyH_done (by kernel_rfl) ?_ _
    go_wp2_with fail
    go_ret
    exact ⟨by rw [← HE.out]; rfl, (Below.on (Below.refl _ w).drew hb1).alloc hb1.size _⟩
  · skip
    refine opStep (v := .slice (some ⟨w.drew.heap.size, 0, none⟩) 1 1) (w' := w.drew.alloc (.cells #[.int .u8 x] 5)) (some 24) (by kernel_rfl) (by kernel_rfl) (fun o ho => ?y12) ⟨trivial, ?_⟩
    case y12 => cases ho; simp [execOp, go_sem, Act.eval]
    simp only [Act.put, zzA, zzB, zzC]
    refine hBoth (i := 2) (j := 8) (by kernel_rfl) ?_ ?_
    · skip
      refine opCall (f := 48) (args := #[.int .i64 d]) (some 19) (by kernel_rfl) (by kernel_rfl) (fun o ho => ?y13) (HI.out _) (fun u w1 hu => ⟨trivial, ?_⟩) (fun ch w' h => by cases h.1) (fun w' h => by cases h.1)
      case y13 => cases ho; simp [execOp, go_sem, Act.eval]
      obtain ⟨hu, hb1⟩ := hu
      cases hu
      simp only [Act.put, zzA, zzB, zzC]
      have cv : (convert 28 9 (.slice (some ⟨w.heap.size, 0, none⟩) 1 1)).run Tryz.prog w1 = .ok (.string s) w1 := HCA.out w1 w.heap.size (HCV.out w.drew w1 hb1)
      refine hStep (i := 8) (v := .string s) (w' := w1) (some 25) (by kernel_rfl) (by kernel_rfl) (by kernel_rfl) (fun o ho => ?y14) trivial ?_
      case y14 => cases ho; simp [execOp, go_sem, Act.eval, cv]
      simp only [Act.put, zzA, zzB, zzC]
      refine hTake (i := 9) (v := .string (sD ++ s)) (some 26) (by kernel_rfl) (by kernel_rfl) (by kernel_rfl) (by kernel_rfl) (by kernel_rfl) (fun _ _ _ h => h) (fun o ho W hSw => ?y15) trivial ?_
      case y15 => cases ho; simp [execOp, go_sem, Act.eval, hss, hsm]
      simp only [Act.put, zzA, zzB, zzC]
      refine hTake (i := 10) (v := .string (sD ++ s)) (some 2) (by kernel_rfl) (by kernel_rfl) (by kernel_rfl) (by kernel_rfl) (by kernel_rfl) (fun _ _ _ h => h) (fun o ho W hSw => ?y16) trivial ?_
      case y16 => cases ho; simp [execOp, go_sem, Act.eval]
      simp only [Act.put, zzA, zzB, zzC]
      refine wpAnyH_done (by kernel_rfl) ?_ _
      go_wp2_with fail
      go_ret
      exact ⟨by rw [← HE.out]; rfl, Below.on ((Below.refl _ w).drew.alloc (Nat.le_refl _) _) hb1⟩
    · skip
      have cv : (convert 28 9 (.slice (some ⟨w.heap.size, 0, none⟩) 1 1)).run Tryz.prog (w.alloc (.cells #[.int .u8 x] 5)).drew = .ok (.string s) (w.alloc (.cells #[.int .u8 x] 5)).drew := HCA.out (w.drew.alloc (.cells #[.int .u8 x] 5)) w.heap.size (cell_one w.drew x)
      refine opStep (v := .string s) (w' := w.drew.alloc (.cells #[.int .u8 x] 5)) (some 25) (by kernel_rfl) (by kernel_rfl) (fun o ho => ?y17) ⟨trivial, ?_⟩
      case y17 => cases ho; simp [execOp, go_sem, Act.eval, cv]
      simp only [Act.put, zzA, zzB, zzC]
      refine hCallE (i := 2) (f := 48) (args := #[.int .i64 d]) (some 19) (by kernel_rfl) (by kernel_rfl) (by kernel_rfl) (fun o ho => ?y18) (HI.out _) (fun u w1 hu => ⟨trivial, ?_⟩) (fun ch w' h => by cases h.1) (fun w' h => by cases h.1)
      case y18 => cases ho; simp [execOp, go_sem, Act.eval]
      obtain ⟨hu, hb1⟩ := hu
      cases hu
      simp only [Act.put, zzA, zzB, zzC]
      refine hTake (i := 9) (v := .string (sD ++ s)) (some 26) (by kernel_rfl) (by kernel_rfl) (by kernel_rfl) (by kernel_rfl) (by kernel_rfl) (fun _ _ _ h => h) (fun o ho W hSw => ?y19) trivial ?_
      case y19 => cases ho; simp [execOp, go_sem, Act.eval, hss, hsm]
      simp only [Act.put, zzA, zzB, zzC]
      refine hTake (i := 10) (v := .string (sD ++ s)) (some 2) (by kernel_rfl) (by kernel_rfl) (by kernel_rfl) (by kernel_rfl) (by kernel_rfl) (fun _ _ _ h => h) (fun o ho W hSw => ?y20) trivial ?_
      case y20 => cases ho; simp [execOp, go_sem, Act.eval]
      simp only [Act.put, zzA, zzB, zzC]
      refine wpAnyH_done (by kernel_rfl) ?_ _
      go_wp2_with fail
      go_ret
      exact ⟨by rw [← HE.out]; rfl, Below.on ((Below.refl _ w).drew.alloc (Nat.le_refl _) _) hb1⟩
set_option maxRecDepth 100000 in
set_option maxHeartbeats 1000000 in
theorem dec_pos (v d r x : Int) (D : List Int) (w : World) (ed : v.tdiv 10 = d) (er : v.tmod 10 = r) (ex : 48 + r = x) (hv : 10 ≤ v) (hv1 : -9223372036854775808 ≤ v) (hv2 : v < 9223372036854775808) (hr1 : -10 < r) (hr2 : r < 10) (hx0 : 0 ≤ x) (hx1 : x < 256) (hD : D.length ≤ 20)
    (hI : ∀ W : World, Calls Tryz.prog 48 #[.int .i64 d] W fun e w' => e = .returned (.string (strOfNums D)) ∧ Below W.heap.size W w') :
    Calls Tryz.prog 48 #[.int .i64 v] w fun e w' => e = .returned (.string (strOfNums (D ++ [x]))) ∧ Below w.heap.size w w' := by
  have HI : Hid (∀ W : World, Calls Tryz.prog 48 #[.int .i64 d] W fun e w' => e = .returned (.string (strOfNums D)) ∧ Below W.heap.size W w') := hI
  have wx : IntKind.u8.wrap x = x := wrap_u8W hx0 hx1
  have HE : Hid (strOfNums D ++ strOfNums [x] = strOfNums (D ++ [x])) := str_app _ _
  have HCA : Hid (∀ (W : World) (b : Nat), W.cell? ⟨b, 0, none⟩ = some (.int .u8 x) → (convert 28 9 (.slice (some ⟨b, 0, none⟩) 1 1)).run Tryz.prog W = .ok (.string (strOfNums [x])) W) := fun W b h => conv_one' W b x h
  have HCV : Hid (∀ W0 W : World, Below (W0.alloc (.cells #[.int .u8 x] 5)).heap.size (W0.alloc (.cells #[.int .u8 x] 5)) W → W.cell? ⟨W0.heap.size, 0, none⟩ = some (.int .u8 x)) := fun W0 W hb => (hb.cell (World.block_lt_of_cell? _ _ (cell_one W0 x))).trans (cell_one W0 x)
  obtain ⟨sD, esD⟩ : ∃ sD, sD = strOfNums D := ⟨_, rfl⟩
  obtain ⟨s, es⟩ : ∃ s, s = strOfNums [x] := ⟨_, rfl⟩
  rw [← esD] at HI HE
  rw [← es] at HCA HE
  have hss : s.size = 1 := by rw [es]; exact strOfNums_size _
  have hsD : sD.size ≤ 20 := by rw [esD, strOfNums_size]; exact hD
  clear es esD hI hD
  go_enter Tryz.func48, Tryz.ntmps48
  go_wp2_with fail
  refine wp_region_held_drew (S := fun _ => True) (by kernel_rfl) trivial (fun hHeld => ?_)
  have hsm : sD.size ≤ 9223372036854775806 := by omega
  have wd : IntKind.i64.wrap d = d := wrap_i64W (by have := Int.mul_tdiv_add_tmod v 10; omega) (by have := Int.mul_tdiv_add_tmod v 10; omega)
  have wy : IntKind.i64.wrap x = x := wrap_i64W (by omega) (by omega)
  refine hTake (i := 0) (v := .int .i64 v) (some 34) (by kernel_rfl) (by kernel_rfl) (by kernel_rfl) (by kernel_rfl) (by kernel_rfl) (fun _ _ _ h => h) (fun o ho W hSw => ?y1) trivial ?_
  case y1 => cases ho; simp [execOp, go_sem, Act.eval]
  simp only [Act.put, zzA, zzB, zzC]
  refine hTake (i := 1) (v := .int .i64 d) (some 35) (by kernel_rfl) (by kernel_rfl) (by kernel_rfl) (by kernel_rfl) (by kernel_rfl) (fun _ _ _ h => h) (fun o ho W hSw => ?y2) trivial ?_
  case y2 => cases ho; simp [execOp, go_sem, Act.eval, ed, wd]
  simp only [Act.put, zzA, zzB, zzC]
  refine hTake (i := 3) (v := .int .i64 v) (some 37) (by kernel_rfl) (by kernel_rfl) (by kernel_rfl) (by kernel_rfl) (by kernel_rfl) (fun _ _ _ h => h) (fun o ho W hSw => ?y3) trivial ?_
  case y3 => cases ho; simp [execOp, go_sem, Act.eval]
  simp only [Act.put, zzA, zzB, zzC]
  refine hTake (i := 4) (v := .int .i64 r) (some 38) (by kernel_rfl) (by kernel_rfl) (by kernel_rfl) (by kernel_rfl) (by kernel_rfl) (fun _ _ _ h => h) (fun o ho W hSw => ?y4) trivial ?_
  case y4 => cases ho; simp [execOp, go_sem, Act.eval, er]
  simp only [Act.put, zzA, zzB, zzC]
  refine hTake (i := 5) (v := .int .i64 x) (some 39) (by kernel_rfl) (by kernel_rfl) (by kernel_rfl) (by kernel_rfl) (by kernel_rfl) (fun _ _ _ h => h) (fun o ho W hSw => ?y5) trivial ?_
  case y5 => cases ho; simp [execOp, go_sem, Act.eval, ex, wy]
  simp only [Act.put, zzA, zzB, zzC]
  refine hTake (i := 6) (v := .int .u8 x) (some 40) (by kernel_rfl) (by kernel_rfl) (by kernel_rfl) (by kernel_rfl) (by kernel_rfl) (fun _ _ _ h => h) (fun o ho W hSw => ?y6) trivial ?_
  case y6 => cases ho; simp [execOp, go_sem, Act.eval, wx]
  simp only [Act.put, zzA, zzB, zzC]
  refine hBoth (i := 2) (j := 7) (by kernel_rfl) ?_ ?_
  · skip
    refine opCall (f := 48) (args := #[.int .i64 d]) (some 36) (by kernel_rfl) (by kernel_rfl) (fun o ho => ?y7) (HI.out _) (fun u w1 hu => ⟨trivial, ?_⟩) (fun ch w' h => by cases h.1) (fun w' h => by cases h.1)
    case y7 => cases ho; simp [execOp, go_sem, Act.eval]
    obtain ⟨hu, hb1⟩ := hu
    cases hu
    simp only [Act.put, zzA, zzB, zzC]
    refine hStep (i := 7) (v := .slice (some ⟨w1.heap.size, 0, none⟩) 1 1) (w' := w1.alloc (.cells #[.int .u8 x] 5)) (some 41) (by kernel_rfl) (by kernel_rfl) (by kernel_rfl) (fun o ho => ?y8) trivial ?_
    case y8 => cases ho; simp [execOp, go_sem, Act.eval]
    simp only [Act.put, zzA, zzB, zzC]
    have cv := HCA.out _ _ (cell_one w1 x)
    refine hStep (i := 8) (v := .string s) (w' := w1.alloc (.cells #[.int .u8 x] 5)) (some 42) (by kernel_rfl) (by kernel_rfl) (by kernel_rfl) (fun o ho => ?y9) trivial ?_
    case y9 => cases ho; simp [execOp, go_sem, Act.eval, cv]
    simp only [Act.put, zzA, zzB, zzC]
    refine hTake (i := 9) (v := .string (sD ++ s)) (some 43) (by kernel_rfl) (by kernel_rfl) (by kernel_rfl) (by kernel_rfl) (by kernel_rfl) (fun _ _ _ h => h) (fun o ho W hSw => ?y10) trivial ?_
    case y10 => cases ho; simp [execOp, go_sem, Act.eval, hss, hsm]
    simp only [Act.put, zzA, zzB, zzC]
    refine hTake (i := 10) (v := .string (sD ++ s)) (some 2) (by kernel_rfl) (by kernel_rfl) (by kernel_rfl) (by kernel_rfl) (by kernel_rfl) (fun _ _ _ h => h) (fun o ho W hSw => ?y11) trivial ?_
    case y11 => cases ho; simp [execOp, go_sem, Act.eval]
    simp only [Act.put, zzA, zzB, zzC]
    refine wpAnyH_done (by kernel_rfl) ?_ _
    go_wp2_with fail
    go_ret
    exact ⟨by rw [← HE.out]; rfl, (Below.on (Below.refl _ w).drew hb1).alloc hb1.size _⟩
  · skip
    refine opStep (v := .slice (some ⟨w.drew.heap.size, 0, none⟩) 1 1) (w' := w.drew.alloc (.cells #[.int .u8 x] 5)) (some 41) (by kernel_rfl) (by kernel_rfl) (fun o ho => ?y12) ⟨trivial, ?_⟩
    case y12 => cases ho; simp [execOp, go_sem, Act.eval]
    simp only [Act.put, zzA, zzB, zzC]
    refine hBoth (i := 2) (j := 8) (by kernel_rfl) ?_ ?_
    · skip
      refine opCall (f := 48) (args := #[.int .i64 d]) (some 36) (by kernel_rfl) (by kernel_rfl) (fun o ho => ?y13) (HI.out _) (fun u w1 hu => ⟨trivial, ?_⟩) (fun ch w' h => by cases h.1) (fun w' h => by cases h.1)
      case y13 => cases ho; simp [execOp, go_sem, Act.eval]
      obtain ⟨hu, hb1⟩ := hu
      cases hu
      simp only [Act.put, zzA, zzB, zzC]
      have cv : (convert 28 9 (.slice (some ⟨w.heap.size, 0, none⟩) 1 1)).run Tryz.prog w1 = .ok (.string s) w1 := HCA.out w1 w.heap.size (HCV.out w.drew w1 hb1)
      refine hStep (i := 8) (v := .string s) (w' := w1) (some 42) (by kernel_rfl) (by kernel_rfl) (by kernel_rfl) (fun o ho => ?y14) trivial ?_
      case y14 => cases ho; simp [execOp, go_sem, Act.eval, cv]
      simp only [Act.put, zzA, zzB, zzC]
      refine hTake (i := 9) (v := .string (sD ++ s)) (some 43) (by kernel_rfl) (by kernel_rfl) (by kernel_rfl) (by kernel_rfl) (by kernel_rfl) (fun _ _ _ h => h) (fun o ho W hSw => ?y15) trivial ?_
      case y15 => cases ho; simp [execOp, go_sem, Act.eval, hss, hsm]
      simp only [Act.put, zzA, zzB, zzC]
      refine hTake (i := 10) (v := .string (sD ++ s)) (some 2) (by kernel_rfl) (by kernel_rfl) (by kernel_rfl) (by kernel_rfl) (by kernel_rfl) (fun _ _ _ h => h) (fun o ho W hSw => ?y16) trivial ?_
      case y16 => cases ho; simp [execOp, go_sem, Act.eval]
      simp only [Act.put, zzA, zzB, zzC]
      refine wpAnyH_done (by kernel_rfl) ?_ _
      go_wp2_with fail
      go_ret
      exact ⟨by rw [← HE.out]; rfl, Below.on ((Below.refl _ w).drew.alloc (Nat.le_refl _) _) hb1⟩
    · skip
      have cv : (convert 28 9 (.slice (some ⟨w.heap.size, 0, none⟩) 1 1)).run Tryz.prog (w.alloc (.cells #[.int .u8 x] 5)).drew = .ok (.string s) (w.alloc (.cells #[.int .u8 x] 5)).drew := HCA.out (w.drew.alloc (.cells #[.int .u8 x] 5)) w.heap.size (cell_one w.drew x)
      refine opStep (v := .string s) (w' := w.drew.alloc (.cells #[.int .u8 x] 5)) (some 42) (by kernel_rfl) (by kernel_rfl) (fun o ho => ?y17) ⟨trivial, ?_⟩
      case y17 => cases ho; simp [execOp, go_sem, Act.eval, cv]
      simp only [Act.put, zzA, zzB, zzC]
      refine hCallE (i := 2) (f := 48) (args := #[.int .i64 d]) (some 36) (by kernel_rfl) (by kernel_rfl) (by kernel_rfl) (fun o ho => ?y18) (HI.out _) (fun u w1 hu => ⟨trivial, ?_⟩) (fun ch w' h => by cases h.1) (fun w' h => by cases h.1)
      case y18 => cases ho; simp [execOp, go_sem, Act.eval]
      obtain ⟨hu, hb1⟩ := hu
      cases hu
      simp only [Act.put, zzA, zzB, zzC]
      refine hTake (i := 9) (v := .string (sD ++ s)) (some 43) (by kernel_rfl) (by kernel_rfl) (by kernel_rfl) (by kernel_rfl) (by kernel_rfl) (fun _ _ _ h => h) (fun o ho W hSw => ?y19) trivial ?_
      case y19 => cases ho; simp [execOp, go_sem, Act.eval, hss, hsm]
      simp only [Act.put, zzA, zzB, zzC]
      refine hTake (i := 10) (v := .string (sD ++ s)) (some 2) (by kernel_rfl) (by kernel_rfl) (by kernel_rfl) (by kernel_rfl) (by kernel_rfl) (fun _ _ _ h => h) (fun o ho W hSw => ?y20) trivial ?_
      case y20 => cases ho; simp [execOp, go_sem, Act.eval]
      simp only [Act.put, zzA, zzB, zzC]
      refine wpAnyH_done (by kernel_rfl) ?_ _
      go_wp2_with fail
      go_ret
      exact ⟨by rw [← HE.out]; rfl, Below.on ((Below.refl _ w).drew.alloc (Nat.le_refl _) _) hb1⟩
set_option maxRecDepth 100000 in
set_option maxHeartbeats 1000000 in
theorem l3dec_any : ∀ (f : Nat) (v : Int) (w : World), v.natAbs < 10 ^ f → f ≤ 18 → Calls Tryz.prog 48 #[.int .i64 v] w fun e w' => e = .returned (.string (strOfNums (decF (f + 1) v))) ∧ Below w.heap.size w w' := by
  have small : ∀ (v : Int) (w : World), 0 ≤ v → v < 10 → Calls Tryz.prog 48 #[.int .i64 v] w fun e w' => e = .returned (.string (strOfNums [48 + v])) ∧ Below w.heap.size w w' := by
    intro v w hneg hsm
    have wx : IntKind.u8.wrap (48 + v) = 48 + v := wrap_u8W (by omega) (by omega)
    obtain ⟨x, ex⟩ : ∃ x, x = 48 + v := ⟨_, rfl⟩
    rw [← ex] at wx ⊢
    have cv := conv_one w _ x (Below.refl _ _)
    obtain ⟨s, es⟩ : ∃ s, s = strOfNums [x] := ⟨_, rfl⟩
    rw [← es] at cv ⊢
    have ex' : 48 + v = x := ex.symm
    clear es ex
    go_enter Tryz.func48, Tryz.ntmps48
    go_wp2_with fail
    go_ret
    exact ⟨rfl, (Below.refl _ _).alloc (Nat.le_refl _) _⟩
  have neg1 : ∀ (v : Int) (w : World), v < 0 → -10 < v → Calls Tryz.prog 48 #[.int .i64 v] w fun e w' => e = .returned (.string (strOfNums [45, 48 - v])) ∧ Below w.heap.size w w' := by
    intro v w hneg h10
    have wx : IntKind.u8.wrap (48 - v) = 48 - v := wrap_u8W (by omega) (by omega)
    obtain ⟨x, ex⟩ : ∃ x, x = 48 - v := ⟨_, rfl⟩
    rw [← ex] at wx ⊢
    have cv := conv_one w _ x (Below.refl _ _)
    have HE : Hid ((⟨#[45]⟩ : ByteArray) ++ strOfNums [x] = strOfNums [45, x]) := str_app [45] [x]
    obtain ⟨s, es⟩ : ∃ s, s = strOfNums [x] := ⟨_, rfl⟩
    have hss : s.size = 1 := by rw [es]; exact strOfNums_size _
    rw [← es] at cv HE
    have ex' : 48 - v = x := ex.symm
    clear es ex
    go_enter Tryz.func48, Tryz.ntmps48
    go_wp2_with fail
    all_goals go_ret
    all_goals exact ⟨by rw [← HE.out]; rfl, (Below.refl _ _).alloc (Nat.le_refl _) _⟩
  intro f
  induction f with
  | zero =>
    intro v w h _
    obtain rfl : v = 0 := by simpa using h
    exact small 0 w (by decide) (by decide)
  | succ f ih =>
    intro v w h hf
    have hbig : v.natAbs < 10 ^ 18 := Nat.lt_of_lt_of_le h (Nat.pow_le_pow_right (by decide) hf)
    have h18 : (10 : Nat) ^ 18 = 1000000000000000000 := by decide
    have h2 : (v.tdiv 10).natAbs < 10 ^ f := by
      rw [Int.natAbs_tdiv]
      rw [Nat.pow_succ] at h
      exact Nat.div_lt_of_lt_mul (by rw [Nat.mul_comm]; exact h)
    have hl := dec_len (f + 1) (v.tdiv 10)
    have hm1 : -10 < v.tmod 10 := Int.lt_tmod_of_pos v (by decide)
    have hm2 : v.tmod 10 < 10 := Int.tmod_lt_of_pos v (by decide)
    by_cases hneg : v < 0
    · by_cases h10 : -10 < v
      · have e : decF (f + 1 + 1) v = [45, 48 - v] := by unfold decF; rw [if_pos ⟨hneg, h10⟩]
        rw [e]
        exact neg1 v w hneg h10
      · have e : decF (f + 1 + 1) v = decF (f + 1) (v.tdiv 10) ++ [48 - v.tmod 10] := by
          conv => lhs; unfold decF
          rw [if_neg (fun h => h10 h.2), if_pos hneg]
        have hsg : v.tmod 10 ≤ 0 := by have := Int.tmod_nonneg 10 (a := -v) (by omega); rw [Int.neg_tmod] at this; omega
        rw [e]
        exact dec_neg v _ _ _ _ w rfl rfl rfl (by omega) (by omega) (by omega) hm1 hm2 (by omega) (by omega) (by omega) (fun W => ih _ W h2 (by omega))
    · by_cases hsm : v < 10
      · have e : decF (f + 1 + 1) v = [48 + v] := by
          conv => lhs; unfold decF
          rw [if_neg (fun h => hneg h.1), if_neg hneg, if_pos hsm]
        rw [e]
        exact small v w (by omega) hsm
      · have e : decF (f + 1 + 1) v = decF (f + 1) (v.tdiv 10) ++ [48 + v.tmod 10] := by
          conv => lhs; unfold decF
          rw [if_neg (fun h => hneg h.1), if_neg hneg, if_neg hsm]
        have hsg : 0 ≤ v.tmod 10 := Int.tmod_nonneg 10 (by omega)
        rw [e]
        exact dec_pos v _ _ _ _ w rfl rfl rfl (by omega) (by omega) (by omega) hm1 hm2 (by omega) (by omega) (by omega) (fun W => ih _ W h2 (by omega))
end Go.Proofs.YtjhbplgppakhoaaGreatDoor

namespace Go.Proofs.YtjhbplgppakhoaaGreatDoor
open Go Go.RowKit
set_option linter.unusedVariables false
theorem infoTerm : (Tryz.prog.info? 85).map (fun i => (i.zero, i.size, i.bytes)) = some (some .nilIface, 1, 16) := by kernel_rfl
set_option maxRecDepth 20000 in
theorem firstLeaf_any (c : Cel) (p : Option Addr) (cap : Nat) (tail : List Cel) (w0 w : World) (hw : Below w0.heap.size w0 w) (h3 : c.1 ≠ 3) (hcell : cellB c.1 c.2.1 c.2.2.length = true) (hcap : tail.length + 1 ≤ cap) (hn : cap ≤ 9223372036854775807) (hc : CIn w0 p (c :: tail)) :
    Calls Tryz.prog 74 #[.slice p (tail.length + 1) cap] w fun e w' => ∃ v q, e = .returned (.tuple #[v, .slice q tail.length (cap - 1)]) ∧ CIn w0 q tail ∧ FoIn w' w.heap.size (.node c .nil .nil) [v] ∧ Below w.heap.size w w' := by
  obtain ⟨b, o, rfl, hcs⟩ := hc (by simp)
  obtain ⟨p0, q0, h0, h1, h2, h4⟩ := (hcs 0 (by simp)).below hw
  simp only [List.getD_cons_zero, Nat.zero_mul, Nat.add_zero] at h0 h1 h2 h4
  have HT : Hid (∀ A, (tail.length ≠ 0 → A = some ⟨b, o + 3, none⟩) → CIn w0 A tail) := fun A hA hl => ⟨b, o + 3, hA (by omega), fun i hi => by
    have := hcs (i + 1) (by simpa using hi)
    rw [show o + (i + 1) * 3 = o + 3 + i * 3 by omega] at this
    simpa using this⟩
  clear hcs hw
  obtain ⟨k, n, xs⟩ := c
  simp only at h3 hcell h0 h1 h2 h4
  have hk : k = 0 ∨ k = 1 ∨ k = 2 := by simp [cellB] at hcell; omega
  clear h3
  have HC : Hid _ := hcell
  clear hcell
  obtain ⟨t, et⟩ : ∃ t, t = tail.length := ⟨_, rfl⟩
  rw [← et] at hcap HT ⊢
  obtain ⟨m, hm⟩ : ∃ m, m = xs.length := ⟨_, rfl⟩
  rw [← hm] at h2
  have hle : (1 : Int) ≤ (t : Int) + 1 := by omega
  have hlt : (0 : Int) < (t : Int) + 1 := by omega
  have H4 : Hid (BIn w p0 xs) := h4
  have HM : Hid (m = xs.length) := hm
  clear hc et h4 hm
  rcases hk with rfl | rfl | rfl
  · have a0 : ∀ x, (w.alloc x).cell? ⟨b, o, none⟩ = some (.int .i64 0) := fun x => Lib.cell?_alloc_marked x h0
    have a1 : ∀ x, (w.alloc x).cell? ⟨b, o + 1, none⟩ = some (.int .i64 n) := fun x => Lib.cell?_alloc_marked x h1
    have a2 : ∀ x, (w.alloc x).cell? ⟨b, o + 2, none⟩ = some (.slice p0 m q0) := fun x => Lib.cell?_alloc_marked x h2
    have HB : Hid (Below w.heap.size w (w.alloc (Obj.cells #[Value.int IntKind.i64 0, Value.int IntKind.i64 n, Value.slice p0 m q0] 71)).drew) := ((Below.refl _ _).alloc (Nat.le_refl _) _).drew
    go_enter Tryz.func74, Tryz.ntmps74
    go_wp2
    go_region
    all_goals go_wp2
    · refine bodyPost_ret (v := .tuple #[.iface 125 (.int .i64 n), .slice (some ⟨b, o, none⟩) t 0]) (by simp [results, Tryz.results74, go_sem]) rfl ⟨_, _, rfl, HT.out _ (fun h => by omega), ⟨_, [], rfl, .inl ⟨rfl, rfl⟩, rfl⟩, HB.out⟩
    · refine bodyPost_ret (v := .tuple #[.iface 125 (.int .i64 n), .slice (some ⟨b, o + 3, none⟩) t (cap - 1)]) (by simp [results, Tryz.results74, go_sem]) rfl ⟨_, _, rfl, HT.out _ (fun h => rfl), ⟨_, [], rfl, .inl ⟨rfl, rfl⟩, rfl⟩, HB.out⟩
  · have a0 : ∀ x, (w.alloc x).cell? ⟨b, o, none⟩ = some (.int .i64 1) := fun x => Lib.cell?_alloc_marked x h0
    have a1 : ∀ x, (w.alloc x).cell? ⟨b, o + 1, none⟩ = some (.int .i64 n) := fun x => Lib.cell?_alloc_marked x h1
    have a2 : ∀ x, (w.alloc x).cell? ⟨b, o + 2, none⟩ = some (.slice p0 m q0) := fun x => Lib.cell?_alloc_marked x h2
    have HB : Hid (Below w.heap.size w (w.alloc (Obj.cells #[Value.int IntKind.i64 1, Value.int IntKind.i64 n, Value.slice p0 m q0] 71)).drew) := ((Below.refl _ _).alloc (Nat.le_refl _) _).drew
    go_enter Tryz.func74, Tryz.ntmps74
    go_wp2
    go_region
    all_goals go_wp2
    · refine bodyPost_ret (v := .tuple #[.iface 128 (.int .i64 n), .slice (some ⟨b, o, none⟩) t 0]) (by simp [results, Tryz.results74, go_sem]) rfl ⟨_, _, rfl, HT.out _ (fun h => by omega), ⟨_, [], rfl, .inr (.inl ⟨rfl, rfl⟩), rfl⟩, HB.out⟩
    · refine bodyPost_ret (v := .tuple #[.iface 128 (.int .i64 n), .slice (some ⟨b, o + 3, none⟩) t (cap - 1)]) (by simp [results, Tryz.results74, go_sem]) rfl ⟨_, _, rfl, HT.out _ (fun h => rfl), ⟨_, [], rfl, .inr (.inl ⟨rfl, rfl⟩), rfl⟩, HB.out⟩
  · have a0 : ∀ x, (w.alloc x).cell? ⟨b, o, none⟩ = some (.int .i64 2) := fun x => Lib.cell?_alloc_marked x h0
    have a1 : ∀ x, (w.alloc x).cell? ⟨b, o + 1, none⟩ = some (.int .i64 n) := fun x => Lib.cell?_alloc_marked x h1
    have a2 : ∀ x, (w.alloc x).cell? ⟨b, o + 2, none⟩ = some (.slice p0 m q0) := fun x => Lib.cell?_alloc_marked x h2
    have HB : Hid (Below w.heap.size w (w.alloc (Obj.cells #[Value.int IntKind.i64 2, Value.int IntKind.i64 n, Value.slice p0 m q0] 71)).drew) := ((Below.refl _ _).alloc (Nat.le_refl _) _).drew
    have hcv := fun (W : World) (h : Below w.heap.size w W) => conv_str (H4.out.below h) m q0 HM.out 129 Tryz.underlying129
    have hcv' := hcv _ HB.out
    have hcv2 : (convert 28 129 (.slice p0 m q0)).run Tryz.prog (w.alloc (Obj.cells #[Value.int IntKind.i64 2, Value.int IntKind.i64 n, Value.slice p0 m q0] 71)).drew = .ok (.string (strOfNums xs)) (w.alloc (Obj.cells #[Value.int IntKind.i64 2, Value.int IntKind.i64 n, Value.slice p0 m q0] 71)).drew := hcv'
    clear hcv hcv'
    obtain ⟨str, es⟩ : ∃ str, str = strOfNums xs := ⟨_, rfl⟩
    rw [← es] at hcv2
    have HS : Hid (str = strOfNums xs) := es
    clear es
    go_enter Tryz.func74, Tryz.ntmps74
    go_wp2
    go_region
    all_goals go_wp2
    · refine bodyPost_ret (v := .tuple #[.iface 129 (.string str), .slice (some ⟨b, o, none⟩) t 0]) (by simp [results, Tryz.results74, go_sem]) rfl ⟨_, _, rfl, HT.out _ (fun h => by omega), ⟨_, [], rfl, .inr (.inr (.inl ⟨rfl, by rw [HS.out]⟩)), rfl⟩, HB.out⟩
    · refine bodyPost_ret (v := .tuple #[.iface 129 (.string str), .slice (some ⟨b, o + 3, none⟩) t (cap - 1)]) (by simp [results, Tryz.results74, go_sem]) rfl ⟨_, _, rfl, HT.out _ (fun h => rfl), ⟨_, [], rfl, .inr (.inr (.inl ⟨rfl, by rw [HS.out]⟩)), rfl⟩, HB.out⟩
theorem NodeIn.iface {w : World} {B : Nat} {c : Cel} {K : List Value → Prop} {v : Value} (h : NodeIn w B c K v) : ∃ t x, v = .iface t x := by
  rcases h with h | h | h | ⟨h, b, g, vs, hv, _⟩
  · exact ⟨_, _, h.2⟩
  · exact ⟨_, _, h.2⟩
  · exact ⟨_, _, h.2⟩
  · exact ⟨_, _, hv⟩
theorem FoIn.iface {w : World} {B : Nat} {c : Cel} {k r : Fo} {v : Value} {vs : List Value} (h : FoIn w B (.node c k r) (v :: vs)) : ∃ t x, v = .iface t x := by
  obtain ⟨v', vr, e, hn, _⟩ := h
  obtain ⟨rfl, rfl⟩ := List.cons.inj e
  exact hn.iface
def FirstOut (w0 w : World) (c : Cel) (k : Fo) (tail : List Cel) (cap : Nat) (e : Ending) (w' : World) : Prop :=
  ∃ v q l cp, e = .returned (.tuple #[v, .slice q l cp]) ∧ l = tail.length ∧ cp + 1 + k.cells.length = cap ∧ CIn w0 q tail ∧ FoIn w' w.heap.size (.node c k .nil) [v] ∧ Below w.heap.size w w'
theorem row_next {B g n : Nat} {w : World} {vs : List Value} {j : Nat} (h : w.ownsRow B 85 1 (.slice (some ⟨g, 0, none⟩) n n) n (vs ++ List.replicate (n - j) .nilIface)) (hj : vs.length = j) (hlt : j < n) (v : Value) :
    (w.setCell ⟨g, j, none⟩ v).ownsRow B 85 1 (.slice (some ⟨g, 0, none⟩) n n) n ((vs ++ [v]) ++ List.replicate (n - (j + 1)) .nilIface) := by
  have := (h.stored j v).1
  rw [List.set_append_right _ _ (by omega), show j - vs.length = 0 by omega, show n - j = (n - (j + 1)) + 1 by omega, List.replicate_succ, List.set_cons_zero] at this
  rw [List.append_assoc]
  exact this
set_option maxRecDepth 20000 in
set_option maxHeartbeats 1000000 in
theorem firstTerm_any : ∀ (N : Nat) (c : Cel) (k : Fo) (p : Option Addr) (l cap : Nat) (tail : List Cel) (w0 w : World), Below w0.heap.size w0 w → k.cells.length ≤ N → (Fo.node c k .nil).ok → l = k.cells.length + tail.length + 1 → l ≤ cap → cap ≤ 9223372036854775807 → CIn w0 p (c :: (k.cells ++ tail)) →
    Calls Tryz.prog 74 #[.slice p l cap] w (FirstOut w0 w c k tail cap) := by
  intro N
  induction N with
  | zero =>
    intro c k p l cap tail w0 w hw hN hok hl hcap hn hc
    have hk : k = .nil := by cases k with | nil => rfl | node a b d => simp [Fo.cells] at hN
    subst hk
    have h3 : c.1 ≠ 3 := fun e => by
      have h1 := hok.2.2.1 e
      have h2 := cellB_comp (e ▸ hok.1)
      simp [Fo.count] at h1; omega
    subst hl
    have := firstLeaf_any c p cap tail w0 w hw h3 hok.1 (by simpa [Fo.cells] using hcap) hn hc
    simp only [Fo.cells, List.length_nil, Nat.zero_add]
    refine this.mono fun e w' ⟨v, q, h1, h2, h3, h4⟩ => ⟨v, q, _, _, h1, rfl, by simp [Fo.cells]; simp [Fo.cells] at hcap; omega, h2, h3, h4⟩
  | succ N ih =>
    intro c k p l cap tail w0 w hw hN hok hl hcap hn hc
    by_cases h3 : c.1 = 3
    · obtain ⟨b, o, rfl, hcs⟩ := hc (by simp)
      obtain ⟨p0, q0, h0, h1, h2, h4⟩ := (hcs 0 (by simp)).below hw
      simp only [List.getD_cons_zero, Nat.zero_mul, Nat.add_zero] at h0 h1 h2 h4
      have HW0 : Hid (Below w0.heap.size w0 w) := hw
      have HT : Hid (CIn w0 (some ⟨b, o + 3, none⟩) (k.cells ++ tail)) := fun hl => ⟨b, o + 3, rfl, fun i hi => by
        have := hcs (i + 1) (by simpa using hi)
        rw [show o + (i + 1) * 3 = o + 3 + i * 3 by omega] at this
        simpa using this⟩
      clear hcs hc hw
      have hcnt := hok.2.2.1 h3
      have hc1 := cellB_comp (h3 ▸ hok.1)
      have HOK : Hid k.ok := hok.2.2.2.2.1
      obtain ⟨kd, n0, xs⟩ := c
      simp only at h3 h0 h1 h2 h4 hcnt hc1
      subst h3
      have hcl := Fo.count_le k
      obtain ⟨n, en⟩ : ∃ n, n = k.count := ⟨_, rfl⟩
      have HE : Hid (n = k.count) := en
      rw [← en] at hcnt hcl
      subst hcnt
      have hcap1 : ¬ cap = 1 := by omega
      have hcap2 : (cap = 1) = False := by simpa using hcap1
      obtain ⟨m, hm⟩ : ∃ m, m = xs.length := ⟨_, rfl⟩
      rw [← hm] at h2
      have HM : Hid (m = xs.length) := hm
      have H4 : Hid (BIn w p0 xs) := h4
      have HL : Hid (l = k.cells.length + tail.length + 1) := hl
      have HN : Hid (k.cells.length ≤ N + 1) := hN
      have HCL : Hid (n ≤ k.cells.length) := hcl
      obtain ⟨l', el⟩ : ∃ l', l = l' + 1 := ⟨l - 1, by omega⟩
      subst el
      have HIH : Hid _ := ih
      clear en h4 hm hl hN ih hok hcl
      have a0 : ∀ x, (w.alloc x).cell? ⟨b, o, none⟩ = some (.int .i64 3) := fun x => Lib.cell?_alloc_marked x h0
      have a1 : ∀ x, (w.alloc x).cell? ⟨b, o + 1, none⟩ = some (.int .i64 n) := fun x => Lib.cell?_alloc_marked x h1
      have a2 : ∀ x, (w.alloc x).cell? ⟨b, o + 2, none⟩ = some (.slice p0 m q0) := fun x => Lib.cell?_alloc_marked x h2
      have hle : (1 : Int) ≤ (l' : Int) + 1 := by omega
      have hlt : (0 : Int) < (l' : Int) + 1 := by omega
      obtain ⟨i0, hi, hz0, hz1, hz2⟩ := info_parts infoTerm
      have hmx : n ≤ maxLen := by unfold maxLen; omega
      go_enter Tryz.func74, Tryz.ntmps74
      go_wp2_with fail
      go_region
      all_goals go_wp2_with (at_make; refine wpList_make_full _ rfl _ _ 171 rfl (w.heap.size + 1) 85 i0 .nilIface 1 Tryz.underlying171 hi hz0 hz1 _ _ _ _ n rfl rfl rfl rfl (by rw [hz2]; omega) hmx (by simp) ?_; intro w1 hown hgrow)
      have HO1 : Hid (w1.ownsRow (w.heap.size + 1) 85 1 (.slice (some ⟨w.heap.size + 1, 0, none⟩) n n) n ([] ++ List.replicate (n - 0) .nilIface)) := by
        have := hown
        simp [Value.cells, toList_madeCells_one] at this
        exact this
      have HB1 : Hid (Below (w.heap.size + 1) (w.alloc (Obj.cells #[Value.int IntKind.i64 3, Value.int IntKind.i64 n, Value.slice p0 m q0] 71)).drew w1) := (Below.refl _ _).grown hgrow (by simp) (fun k h => by cases h)
      have HX1 : Hid (Box3 w1 w.heap.size (.int .i64 3) (.int .i64 n) (.slice p0 m q0)) := Box3.of_block (t := 71) ((HB1.out.block _ (by omega)).trans (heap_alloc_new _ _))
      have HW1 : Hid (Below w.heap.size w w1) := ((Below.refl _ _).alloc (Nat.le_refl _) _).drew.trans (HB1.out.mono (by omega))
      have hs1 : w.heap.size + 2 ≤ w1.heap.size := by
        rcases HO1.out.2 with ⟨h', _⟩ | ⟨g', cap', cur, hv, hb', hg', _⟩
        · simp at h'
        · simp only [Value.slice.injEq, Option.some.injEq, Addr.mk.injEq, and_true, true_and] at hv
          have := (Array.getElem?_eq_some_iff.1 hg').1
          omega
      clear hown hgrow hi hz0 hz1 hz2 a0 a1 a2 h0 h1 h2 hle hlt HB1
      go_loopw [5, 39] (fun s i wr => ∃ (D R : Fo) (vs : List Value) (q : Option Addr) (j l2 c2 : Nat), j ≤ n ∧ l2 ≤ c2 ∧ c2 ≤ cap ∧ i = .int .i64 j ∧ s = .slice q l2 c2 ∧ Hid (k = D.cat R ∧ D.count = j ∧ vs.length = j ∧ l2 = R.cells.length + tail.length ∧ c2 + 1 + D.cells.length = cap) ∧
        Hid (CIn w0 q (R.cells ++ tail)) ∧ Hid (FoIn wr (w.heap.size + 2) D vs) ∧ Hid (wr.ownsRow (w.heap.size + 1) 85 1 (.slice (some ⟨w.heap.size + 1, 0, none⟩) n n) n (vs ++ List.replicate (n - j) .nilIface)) ∧
        Hid (Below w.heap.size w wr) ∧ Hid (Box3 wr w.heap.size (.int .i64 3) (.int .i64 n) (.slice p0 m q0)) ∧ w.heap.size + 2 ≤ wr.heap.size) (fun _ i _ => n - (intOf i).toNat)
      case atStart => exact ⟨.nil, k, [], _, 0, l', cap - 1, Nat.zero_le _, by omega, by omega, rfl, rfl, ⟨rfl, rfl, rfl, by have := HL.out; omega, by simp [Fo.cells]; omega⟩, HT.out, rfl, HO1, HW1, HX1, hs1⟩
      case round =>
        obtain ⟨D, R, vs, q, j, l2, c2, hj, hl2, hc2, rfl, rfl, HF, HC, HI, HR, HB, HX, hsz⟩ := hrel
        by_cases hlt : j < n
        · obtain ⟨c', k', r', rfl⟩ : ∃ c' k' r', R = .node c' k' r' := by
            cases R with
            | nil =>
              have := HF.out
              rw [Fo.cat_nil] at this
              have e := HE.out
              rw [this.1, this.2.1] at e
              omega
            | node c' k' r' => exact ⟨c', k', r', rfl⟩
          have hok2 := (Fo.ok_cat D (.node c' k' r')).1 (HF.out.1 ▸ HOK.out)
          have hlen : D.cells.length + (k'.cells.length + r'.cells.length + 1) = k.cells.length := by
            rw [HF.out.1, Fo.cells_cat]; simp [Fo.cells]
          have HS := HIH.out c' k' q l2 c2 (r'.cells ++ tail) w0 wr (Below.on HW0.out HB.out) (by have := HN.out; omega) ⟨hok2.2.1, hok2.2.2.1, hok2.2.2.2.1, hok2.2.2.2.2.1, hok2.2.2.2.2.2.1, trivial⟩ (by rw [HF.out.2.2.2.1]; simp [Fo.cells]; omega) hl2 (by omega)
            (by have := HC.out; simpa [Fo.cells, List.append_assoc] using this)
          have HOK2 : Hid r'.ok := hok2.2.2.2.2.2.2
          have HLEN : Hid _ := hlen
          clear hok2 hlen
          go_wp2_with fail
          refine HS.mono ?_
          rintro e w2 ⟨v, q2, l3, c3, rfl, hl3, hc3, hin3, hfo3, hb3⟩
          obtain ⟨vt, vx, rfl⟩ := hfo3.iface
          have d0 : w2.cell? ⟨w.heap.size + 1, j, none⟩ = some .nilIface := by
            rw [hb3.cell (p := ⟨w.heap.size + 1, j, none⟩) (show w.heap.size + 1 < _ by omega), HR.out.cellAt j (by omega), List.getElem?_append_right (by have := HF.out.2.2.1; omega), List.getElem?_replicate, if_pos (by have := HF.out.2.2.1; omega)]
          have d1 : w2.frozen? ⟨w.heap.size + 1, j, none⟩ = false := (hb3.frozen (p := ⟨w.heap.size + 1, j, none⟩) (show w.heap.size + 1 < _ by omega)).trans (HR.out.frozenAt j)
          have HB3 : Hid (Below wr.heap.size wr w2) := hb3
          have HI3 : Hid (CIn w0 q2 (r'.cells ++ tail)) := hin3
          have HF3 : Hid (FoIn w2 wr.heap.size (.node c' k' .nil) [.iface vt vx]) := hfo3
          have HL3 : Hid (l3 = (r'.cells ++ tail).length ∧ c3 + 1 + k'.cells.length = c2) := ⟨hl3, hc3⟩
          clear hb3 hin3 hfo3 hl3 hc3 HS
          go_wp2
          have HB2 : Hid (Below w.heap.size w w2) := Below.on HB.out HB3.out
          have HR2 : Hid (w2.ownsRow (w.heap.size + 1) 85 1 (.slice (some ⟨w.heap.size + 1, 0, none⟩) n n) n (vs ++ List.replicate (n - j) .nilIface)) := row_below HR.out HB3.out
          have HFI : Hid (FoIn w2 (w.heap.size + 2) (D.cat (.node c' k' .nil)) (vs ++ [.iface vt vx])) := FoIn.cat _ _ _ _ (HI.out.below HB3.out) (HF3.out.mono (by omega))
          have HX2 : Hid (Box3 w2 w.heap.size (.int .i64 3) (.int .i64 n) (.slice p0 m q0)) := HX.out.below HB3.out (by omega)
          have hsz2 : w.heap.size + 2 ≤ w2.heap.size := Nat.le_trans hsz HB3.out.size
          obtain ⟨e1, e2, e3, e4, e5⟩ := HF.out
          have e6 := HLEN.out
          have e7 := HL3.out
          have G1 := HFI.out.setCell (a := ⟨w.heap.size + 1, j, none⟩) (show w.heap.size + 1 < w.heap.size + 2 by omega) (Value.iface vt vx)
          have G2 := row_next HR2.out e3 hlt (Value.iface vt vx)
          have G3 := HX2.out.setCell (a := ⟨w.heap.size + 1, j, none⟩) (show w.heap.size + 1 ≠ w.heap.size by omega) (Value.iface vt vx)
          have G4 := HB2.out.setCell (p := ⟨w.heap.size + 1, j, none⟩) (show w.heap.size ≤ w.heap.size + 1 by omega) (Value.iface vt vx)
          go_roundw
          case rel => exact ⟨D.cat (.node c' k' .nil), r', vs ++ [Value.iface vt vx], q2, j + 1, l3, c3, by omega, by rw [e7.1, List.length_append]; have := HL.out; omega, by omega, by go_num, rfl,
            ⟨by rw [Fo.cat_assoc]; exact e1, by rw [Fo.count_cat, e2]; rfl, by simp [e3], by rw [e7.1, List.length_append], by rw [Fo.cells_cat]; simp [Fo.cells]; omega⟩, HI3, G1, G2, G4, G3, by simpa using hsz2⟩
          case measure => simp [intOf]; omega
        · obtain rfl : j = n := by omega
          obtain ⟨e1, e2, e3, e4, e5⟩ := HF.out
          obtain rfl : R = .nil := by
            have e := HE.out
            rw [e1, Fo.count_cat] at e
            cases R with
            | nil => rfl
            | node a b d => simp [Fo.count] at e; omega
          rw [Fo.cat_nil] at e1
          subst e1
          have hcv := conv_str (H4.out.below HB.out) m q0 HM.out 9 Tryz.underlying9
          obtain ⟨str, es⟩ : ∃ str, str = strOfNums xs := ⟨_, rfl⟩
          rw [← es] at hcv
          have HS : Hid (str = strOfNums xs) := es
          obtain ⟨x0, x1, x2, _⟩ := HX.out
          have HF' : Hid (l2 = tail.length ∧ c2 + 1 + k.cells.length = cap ∧ vs.length = j) := ⟨by simpa [Fo.cells] using e4, e5, e3⟩
          clear es e2 e3 e4 e5 HF
          have HA : Hid (Below w.heap.size w (wr.alloc (Obj.cells #[Value.string str, Value.slice (some ⟨w.heap.size + 1, 0, none⟩) j j] 173))) := HB.out.alloc HB.out.size _
          go_wp2
          refine bodyPost_ret (v := .tuple #[.iface 131 (.pointer (some ⟨wr.heap.size, 0, none⟩)), .slice q l2 c2]) (by simp [results, Tryz.results74, go_sem]) rfl ⟨_, q, l2, c2, rfl, HF'.out.1, HF'.out.2.1, HC.out, ?_, HA.out⟩
          have hv := HF'.out.2.2
          subst hv
          have hnew := heap_alloc_new wr (Obj.cells #[Value.string str, Value.slice (some ⟨w.heap.size + 1, 0, none⟩) vs.length vs.length] 173)
          refine ⟨_, [], rfl, .inr (.inr (.inr ⟨rfl, wr.heap.size, w.heap.size + 1, vs, rfl, by omega, by omega, by rw [← HS.out]; exact (cell_of_row _ _ 0 _ _ _ hnew), cell_of_row _ _ 1 _ _ _ hnew, by simp; omega, fun i hi => ?_, ?_⟩)), rfl⟩
          · refine Lib.cell?_alloc_marked _ ?_
            rw [HR.out.cellAt i (by omega), List.getElem?_append_left (by omega)]
            simp [List.getD, hi]
          · exact (HI.out.below ((Below.refl _ _).alloc (Nat.le_refl _) _)).mono (by omega)
    · have hk : k = .nil := hok.2.2.2.1 h3
      subst hk
      subst hl
      have := firstLeaf_any c p cap tail w0 w hw h3 hok.1 (by simpa [Fo.cells] using hcap) hn hc
      simp only [Fo.cells, List.length_nil, Nat.zero_add]
      refine this.mono fun e w' ⟨v, q, h1, h2, h3, h4⟩ => ⟨v, q, _, _, h1, rfl, by simp [Fo.cells]; simp [Fo.cells] at hcap; omega, h2, h3, h4⟩
end Go.Proofs.YtjhbplgppakhoaaGreatDoor

namespace Go.Proofs.YtjhbplgppakhoaaGreatDoor
open Go Go.RowKit
set_option linter.unusedVariables false
def tb (p : Option Addr) (n : Nat) : Option Nat := if n = 0 then none else p.map Addr.block
theorem partly_at (k : Int) (xs : List Int) (j i : Nat) (hj : j ≤ xs.length) (hi : i < xs.length) : (partly k xs j).getD i 0 = if i < j then (k + i) % 256 else xs.getD i 0 := by
  unfold partly
  by_cases h : i < j
  · rw [if_pos h, ← marks_at j k i h]
    simp only [List.getD]
    rw [List.getElem?_append_left (by rw [marks_len]; exact h)]
  · rw [if_neg h]
    simp only [List.getD]
    rw [List.getElem?_append_right (by rw [marks_len]; omega), marks_len, List.getElem?_drop, show j + (i - j) = i by omega]
theorem markT_any (B : Nat) (p : Option Addr) (n c : Nat) (k : Int) (xs : List Int) (w : World) (h0 : 0 ≤ k) (h1 : k ≤ 1000000000000) (hn : n ≤ 1000000000) (hown : OwnT w B p n c xs) :
    Calls Tryz.prog 20 #[.slice p n c, .int .i64 k] w fun e w' => e = .returned (.int .i64 (k + n)) ∧ OwnT w' B p n c (marks k n) ∧ w.grownBy w' (tb p n) := by
  by_cases hz : n = 0
  · subst hz
    clear hown
    go_enter Tryz.func20, Tryz.ntmps20
    go_wp2
    refine wp_loop_rounds 1 ?_
    rw [rounds_succ]
    go_wp2
    go_ret
    exact ⟨by simp, ⟨rfl, fun h => absurd h (Nat.lt_irrefl 0)⟩, ⟨rfl, rfl, rfl, Nat.le_refl _, fun _ _ _ => rfl⟩⟩
  · obtain ⟨hl, hr⟩ := hown
    obtain ⟨g, rfl, hB, hlt0, hc⟩ := hr (by omega)
    have HN : Hid (n = xs.length) := hl
    have HO : Hid (∀ i, i < n → w.cell? ⟨g, i, none⟩ = some (.int .u8 (xs.getD i 0)) ∧ w.frozen? ⟨g, i, none⟩ = false) := hc
    have ht : tb (some (⟨g, 0, none⟩ : Addr)) n = some g := by simp [tb, hz]
    rw [ht]
    clear hl hr hc ht
    go_enter Tryz.func20, Tryz.ntmps20
    go_wp2
    go_loopw [1, 5] (fun q i wr => ∃ j : Nat, j ≤ n ∧ i = .int .i64 j ∧ q = .int .i64 (k + j) ∧ Hid (∀ i, i < n → wr.cell? ⟨g, i, none⟩ = some (.int .u8 ((partly k xs j).getD i 0)) ∧ wr.frozen? ⟨g, i, none⟩ = false) ∧ Hid (w.grownBy wr (some g))) (fun _ i _ => n - (intOf i).toNat)
    case atStart => exact ⟨0, Nat.zero_le _, rfl, by simp, by simpa [partly, marks] using HO, ⟨rfl, rfl, rfl, Nat.le_refl _, fun _ _ _ => rfl⟩⟩
    case round =>
      obtain ⟨j, hj, rfl, rfl, HR, HG⟩ := hrel
      by_cases hlt : j < n
      · obtain ⟨hd, hf⟩ := HR.out j hlt
        obtain ⟨z, ez⟩ : ∃ z, z = (partly k xs j).getD j 0 := ⟨_, rfl⟩
        rw [← ez] at hd
        clear ez
        have hwr := wrap_byte (k + j) (by omega)
        have HS : Hid ((∀ i, i < n → (wr.setCell ⟨g, j, none⟩ (.int .u8 ((k + j) % 256))).cell? ⟨g, i, none⟩ = some (.int .u8 ((partly k xs (j + 1)).getD i 0)) ∧ (wr.setCell ⟨g, j, none⟩ (.int .u8 ((k + j) % 256))).frozen? ⟨g, i, none⟩ = false) ∧ w.grownBy (wr.setCell ⟨g, j, none⟩ (.int .u8 ((k + j) % 256))) (some g)) := by
          refine ⟨fun i hi => ⟨?_, by rw [World.frozen?_setCell]; exact (HR.out i hi).2⟩, HG.out.trans ⟨rfl, rfl, rfl, by simp, fun b _ hb => Below.heap_setCell _ _ _ _ (fun e => hb (by rw [e]))⟩⟩
          have hxl := HN.out
          rw [partly_at k xs (j + 1) i (by omega) (by omega)]
          by_cases e : i = j
          · subst e
            rw [if_pos (by omega)]
            exact World.cell?_setCell_same _ _ _ hd
          · rw [World.cell?_setCell_other _ _ _ _ (fun e' => e (congrArg Addr.off e').symm), (HR.out i hi).1, partly_at k xs j i (by omega) (by omega)]
            by_cases e2 : i < j
            · rw [if_pos e2, if_pos (by omega)]
            · rw [if_neg e2, if_neg (by omega)]
        go_wp2
        go_roundw
        case rel => exact ⟨j + 1, by omega, by go_num, by simp; omega, HS.out.1, HS.out.2⟩
        case measure => simp [intOf]; omega
      · obtain rfl : j = n := by omega
        go_wp2
        go_ret
        refine ⟨rfl, ⟨(marks_len _ _).symm, fun _ => ⟨g, rfl, hB, Nat.lt_of_lt_of_le hlt0 HG.out.size, fun i hi => ⟨?_, (HR.out i hi).2⟩⟩⟩, HG.out⟩
        have hxl := HN.out
        rw [(HR.out i hi).1, partly_at k xs j i (by omega) (by omega), if_pos hi, marks_at j k i hi]
end Go.Proofs.YtjhbplgppakhoaaGreatDoor

