/- Texts of WtA, ItS, WtB, ArgU. Own work of the verifier. -/
import Derived.Test.YtfgmenkoeflhaaaGreatDoorUqaq
namespace Go.Proofs.YtfgmenkoeflhaaaGreatDoor
set_option linter.unusedVariables false
set_option linter.unusedSimpArgs false
set_option maxRecDepth 100000
section
open Go Go.RowKit
theorem str_app (a b : List Int) : strOfNums a ++ strOfNums b = strOfNums (a ++ b) := by
 apply ByteArray.ext
 rw [ByteArray.data_append]
 simp [strOfNums]
theorem conv_one (w W : World) (x : Int) (hb : Below (w.alloc (.cells #[.int .u8 x] 5)).heap.size (w.alloc (.cells #[.int .u8 x] 5)) W) : (convert 22 9 (.slice (some ⟨w.heap.size, 0, none⟩) 1 1)).run Tryz.prog W = .ok (.string (strOfNums [x])) W := by
 refine conv_str (xs := [x]) (fun _ => ⟨w.heap.size, 0, rfl, fun i hi => ?_⟩) 1 1 rfl 9 Tryz.underlying9
 obtain rfl : i = 0 := by simpa using hi
 have h1 : (w.alloc (.cells #[.int .u8 x] 5)).cell? ⟨w.heap.size, 0, none⟩ = some (.int .u8 x) := by
  have hnew := heap_alloc_new w (.cells #[.int .u8 x] 5); simp only [World.cell?]; rw [hnew]; rfl
 exact (hb.cell (World.block_lt_of_cell? _ _ h1)).trans h1
theorem cell_one (w : World) (x : Int) : (w.alloc (.cells #[.int .u8 x] 5)).cell? ⟨w.heap.size, 0, none⟩ = some (.int .u8 x) := by
 have hnew := heap_alloc_new w (.cells #[.int .u8 x] 5); simp only [World.cell?]; rw [hnew]; rfl
theorem conv_one' (W : World) (b : Nat) (x : Int) (h : W.cell? ⟨b, 0, none⟩ = some (.int .u8 x)) : (convert 22 9 (.slice (some ⟨b, 0, none⟩) 1 1)).run Tryz.prog W = .ok (.string (strOfNums [x])) W := by
 refine conv_str (xs := [x]) (fun _ => ⟨b, 0, rfl, fun i hi => ?_⟩) 1 1 rfl 9 Tryz.underlying9
 obtain rfl : i = 0 := by simpa using hi
 exact h
theorem dec_len : ∀ (f : Nat) (v : Int), (decF f v).length ≤ f + 1
 | 0, v => by simp [decF]
 | f + 1, v => by
   have := dec_len f (v.tdiv 10)
   unfold decF
   split
   ·simp
   ·split
    ·simp; omega
    ·split
     ·simp
     ·simp; omega
theorem wrap_u8W {x : Int} (h0 : 0 ≤ x) (h1 : x < 256) : IntKind.u8.wrap x = x := wrap_u8_in h0 h1
theorem wrap_i64W {x : Int} (h0 : -9223372036854775808 ≤ x) (h1 : x ≤ 9223372036854775807) : IntKind.i64.wrap x = x := by
 simp [IntKind.wrap, IntKind.signed, IntKind.bits]
 omega
set_option maxHeartbeats 1000000 in
theorem dec_neg (v d r x : Int) (D : List Int) (w : World) (ed : v.tdiv 10 = d) (er : v.tmod 10 = r) (ex : 48 - r = x) (hv : v ≤ -10) (hv1 : -9223372036854775808 ≤ v) (hv2 : v < 9223372036854775808) (hr1 : -10 < r) (hr2 : r < 10) (hx0 : 0 ≤ x) (hx1 : x < 256) (hD : D.length ≤ 20)
 (hI : ∀ W : World, Calls Tryz.prog 82 #[.int .i64 d] W fun e w' => e = .returned (.string (strOfNums D)) ∧ Below W.heap.size W w') :
 Calls Tryz.prog 82 #[.int .i64 v] w fun e w' => e = .returned (.string (strOfNums (D ++ [x]))) ∧ Below w.heap.size w w' := by
 have HI : Hid (∀ W : World, Calls Tryz.prog 82 #[.int .i64 d] W fun e w' => e = .returned (.string (strOfNums D)) ∧ Below W.heap.size W w') := hI; have wx : IntKind.u8.wrap x = x := wrap_u8W hx0 hx1; have HE : Hid (strOfNums D ++ strOfNums [x] = strOfNums (D ++ [x])) := str_app _ _
 have HCA : Hid (∀ (W : World) (b : Nat), W.cell? ⟨b, 0, none⟩ = some (.int .u8 x) → (convert 22 9 (.slice (some ⟨b, 0, none⟩) 1 1)).run Tryz.prog W = .ok (.string (strOfNums [x])) W) := fun W b h => conv_one' W b x h
 have HCV : Hid (∀ W0 W : World, Below (W0.alloc (.cells #[.int .u8 x] 5)).heap.size (W0.alloc (.cells #[.int .u8 x] 5)) W → W.cell? ⟨W0.heap.size, 0, none⟩ = some (.int .u8 x)) := fun W0 W hb => (hb.cell (World.block_lt_of_cell? _ _ (cell_one W0 x))).trans (cell_one W0 x)
 obtain ⟨sD, esD⟩ : ∃ sD, sD = strOfNums D := ⟨_, rfl⟩
 obtain ⟨s, es⟩ : ∃ s, s = strOfNums [x] := ⟨_, rfl⟩
 rw [← esD] at HI HE; rw [← es] at HCA HE
 have hss : s.size = 1 := by rw [es]; exact strOfNums_size _
 have hsD : sD.size ≤ 20 := by rw [esD, strOfNums_size]; exact hD
 clear es esD hI hD
 go_enter Tryz.func82, Tryz.ntmps82
 go_wp2_with fail; refine wp_region_held_drew (S := fun _ => True) (by kernel_rfl) trivial (fun hHeld => ?_)
 have hsm : sD.size ≤ 9223372036854775806 := by omega
 have wd : IntKind.i64.wrap d = d := wrap_i64W (by have := Int.mul_tdiv_add_tmod v 10; omega) (by have := Int.mul_tdiv_add_tmod v 10; omega); have wy : IntKind.i64.wrap x = x := wrap_i64W (by omega) (by omega); refine hTk (i := 0) (v := .int .i64 v) (some 17) (fun o ho W hSw => ?y1) trivial ?_
 case y1 => cases ho; simp [execOp, go_sem, Act.eval]
 simp only [Act.put, zzA, zzB, zzC]; refine hTk (i := 1) (v := .int .i64 d) (some 18) (fun o ho W hSw => ?y2) trivial ?_
 case y2 => cases ho; simp [execOp, go_sem, Act.eval, ed, wd]
 simp only [Act.put, zzA, zzB, zzC]; refine hTk (i := 3) (v := .int .i64 v) (some 20) (fun o ho W hSw => ?y3) trivial ?_
 case y3 => cases ho; simp [execOp, go_sem, Act.eval]
 simp only [Act.put, zzA, zzB, zzC]; refine hTk (i := 4) (v := .int .i64 r) (some 21) (fun o ho W hSw => ?y4) trivial ?_
 case y4 => cases ho; simp [execOp, go_sem, Act.eval, er]
 simp only [Act.put, zzA, zzB, zzC]; refine hTk (i := 5) (v := .int .i64 x) (some 22) (fun o ho W hSw => ?y5) trivial ?_
 case y5 => cases ho; simp [execOp, go_sem, Act.eval, ex, wy]
 simp only [Act.put, zzA, zzB, zzC]; refine hTk (i := 6) (v := .int .u8 x) (some 23) (fun o ho W hSw => ?y6) trivial ?_
 case y6 => cases ho; simp [execOp, go_sem, Act.eval, wx]
 simp only [Act.put, zzA, zzB, zzC]; refine hBoth (i := 2) (j := 7) (by kernel_rfl) ?_ ?_
 ·skip
  refine opCall (f := 82) (args := #[.int .i64 d]) (some 19) (by kernel_rfl) (by kernel_rfl) (fun o ho => ?y7) (HI.out _) (fun u w1 hu => ⟨trivial, ?_⟩) (fun ch w' h => by cases h.1) (fun w' h => by cases h.1)
  case y7 => cases ho; simp [execOp, go_sem, Act.eval]
  obtain ⟨hu, hb1⟩ := hu
  cases hu
  simp only [Act.put, zzA, zzB, zzC]; refine hStep (i := 7) (v := .slice (some ⟨w1.heap.size, 0, none⟩) 1 1) (w' := w1.alloc (.cells #[.int .u8 x] 5)) (some 24) (by kernel_rfl) (by kernel_rfl) (by kernel_rfl) (fun o ho => ?y8) trivial ?_
  case y8 => cases ho; simp [execOp, go_sem, Act.eval]
  simp only [Act.put, zzA, zzB, zzC]; have cv := HCA.out _ _ (cell_one w1 x); refine hStep (i := 8) (v := .string s) (w' := w1.alloc (.cells #[.int .u8 x] 5)) (some 25) (by kernel_rfl) (by kernel_rfl) (by kernel_rfl) (fun o ho => ?y9) trivial ?_
  case y9 => cases ho; simp [execOp, go_sem, Act.eval, cv]
  simp only [Act.put, zzA, zzB, zzC]; refine hTk (i := 9) (v := .string (sD ++ s)) (some 26) (fun o ho W hSw => ?y10) trivial ?_
  case y10 => cases ho; simp [execOp, go_sem, Act.eval, hss, hsm]
  simp only [Act.put, zzA, zzB, zzC]; refine hTk (i := 10) (v := .string (sD ++ s)) (some 2) (fun o ho W hSw => ?y11) trivial ?_
  case y11 => cases ho; simp [execOp, go_sem, Act.eval]
  simp only [Act.put, zzA, zzB, zzC]; refine wpAnyH_done (by kernel_rfl) ?_ _; go_wp2_with fail; go_ret; exact ⟨by rw [← HE.out]; rfl, (Below.on (Below.refl _ w).drew hb1).alloc hb1.size _⟩
 ·skip
  refine opStep (v := .slice (some ⟨w.drew.heap.size, 0, none⟩) 1 1) (w' := w.drew.alloc (.cells #[.int .u8 x] 5)) (some 24) (by kernel_rfl) (by kernel_rfl) (fun o ho => ?y12) ⟨trivial, ?_⟩
  case y12 => cases ho; simp [execOp, go_sem, Act.eval]
  simp only [Act.put, zzA, zzB, zzC]; refine hBoth (i := 2) (j := 8) (by kernel_rfl) ?_ ?_
  ·skip
   refine opCall (f := 82) (args := #[.int .i64 d]) (some 19) (by kernel_rfl) (by kernel_rfl) (fun o ho => ?y13) (HI.out _) (fun u w1 hu => ⟨trivial, ?_⟩) (fun ch w' h => by cases h.1) (fun w' h => by cases h.1)
   case y13 => cases ho; simp [execOp, go_sem, Act.eval]
   obtain ⟨hu, hb1⟩ := hu
   cases hu
   simp only [Act.put, zzA, zzB, zzC]; have cv : (convert 22 9 (.slice (some ⟨w.heap.size, 0, none⟩) 1 1)).run Tryz.prog w1 = .ok (.string s) w1 := HCA.out w1 w.heap.size (HCV.out w.drew w1 hb1); refine hStep (i := 8) (v := .string s) (w' := w1) (some 25) (by kernel_rfl) (by kernel_rfl) (by kernel_rfl) (fun o ho => ?y14) trivial ?_
   case y14 => cases ho; simp [execOp, go_sem, Act.eval, cv]
   simp only [Act.put, zzA, zzB, zzC]; refine hTk (i := 9) (v := .string (sD ++ s)) (some 26) (fun o ho W hSw => ?y15) trivial ?_
   case y15 => cases ho; simp [execOp, go_sem, Act.eval, hss, hsm]
   simp only [Act.put, zzA, zzB, zzC]; refine hTk (i := 10) (v := .string (sD ++ s)) (some 2) (fun o ho W hSw => ?y16) trivial ?_
   case y16 => cases ho; simp [execOp, go_sem, Act.eval]
   simp only [Act.put, zzA, zzB, zzC]; refine wpAnyH_done (by kernel_rfl) ?_ _; go_wp2_with fail; go_ret; exact ⟨by rw [← HE.out]; rfl, Below.on ((Below.refl _ w).drew.alloc (Nat.le_refl _) _) hb1⟩
  ·skip
   have cv : (convert 22 9 (.slice (some ⟨w.heap.size, 0, none⟩) 1 1)).run Tryz.prog (w.alloc (.cells #[.int .u8 x] 5)).drew = .ok (.string s) (w.alloc (.cells #[.int .u8 x] 5)).drew := HCA.out (w.drew.alloc (.cells #[.int .u8 x] 5)) w.heap.size (cell_one w.drew x); refine opStep (v := .string s) (w' := w.drew.alloc (.cells #[.int .u8 x] 5)) (some 25) (by kernel_rfl) (by kernel_rfl) (fun o ho => ?y17) ⟨trivial, ?_⟩
   case y17 => cases ho; simp [execOp, go_sem, Act.eval, cv]
   simp only [Act.put, zzA, zzB, zzC]; refine hCallE (i := 2) (f := 82) (args := #[.int .i64 d]) (some 19) (by kernel_rfl) (by kernel_rfl) (by kernel_rfl) (fun o ho => ?y18) (HI.out _) (fun u w1 hu => ⟨trivial, ?_⟩) (fun ch w' h => by cases h.1) (fun w' h => by cases h.1)
   case y18 => cases ho; simp [execOp, go_sem, Act.eval]
   obtain ⟨hu, hb1⟩ := hu
   cases hu
   simp only [Act.put, zzA, zzB, zzC]; refine hTk (i := 9) (v := .string (sD ++ s)) (some 26) (fun o ho W hSw => ?y19) trivial ?_
   case y19 => cases ho; simp [execOp, go_sem, Act.eval, hss, hsm]
   simp only [Act.put, zzA, zzB, zzC]; refine hTk (i := 10) (v := .string (sD ++ s)) (some 2) (fun o ho W hSw => ?y20) trivial ?_
   case y20 => cases ho; simp [execOp, go_sem, Act.eval]
   simp only [Act.put, zzA, zzB, zzC]; refine wpAnyH_done (by kernel_rfl) ?_ _; go_wp2_with fail; go_ret; exact ⟨by rw [← HE.out]; rfl, Below.on ((Below.refl _ w).drew.alloc (Nat.le_refl _) _) hb1⟩
set_option maxHeartbeats 1000000 in
theorem dec_pos (v d r x : Int) (D : List Int) (w : World) (ed : v.tdiv 10 = d) (er : v.tmod 10 = r) (ex : 48 + r = x) (hv : 10 ≤ v) (hv1 : -9223372036854775808 ≤ v) (hv2 : v < 9223372036854775808) (hr1 : -10 < r) (hr2 : r < 10) (hx0 : 0 ≤ x) (hx1 : x < 256) (hD : D.length ≤ 20)
 (hI : ∀ W : World, Calls Tryz.prog 82 #[.int .i64 d] W fun e w' => e = .returned (.string (strOfNums D)) ∧ Below W.heap.size W w') :
 Calls Tryz.prog 82 #[.int .i64 v] w fun e w' => e = .returned (.string (strOfNums (D ++ [x]))) ∧ Below w.heap.size w w' := by
 have HI : Hid (∀ W : World, Calls Tryz.prog 82 #[.int .i64 d] W fun e w' => e = .returned (.string (strOfNums D)) ∧ Below W.heap.size W w') := hI; have wx : IntKind.u8.wrap x = x := wrap_u8W hx0 hx1; have HE : Hid (strOfNums D ++ strOfNums [x] = strOfNums (D ++ [x])) := str_app _ _
 have HCA : Hid (∀ (W : World) (b : Nat), W.cell? ⟨b, 0, none⟩ = some (.int .u8 x) → (convert 22 9 (.slice (some ⟨b, 0, none⟩) 1 1)).run Tryz.prog W = .ok (.string (strOfNums [x])) W) := fun W b h => conv_one' W b x h
 have HCV : Hid (∀ W0 W : World, Below (W0.alloc (.cells #[.int .u8 x] 5)).heap.size (W0.alloc (.cells #[.int .u8 x] 5)) W → W.cell? ⟨W0.heap.size, 0, none⟩ = some (.int .u8 x)) := fun W0 W hb => (hb.cell (World.block_lt_of_cell? _ _ (cell_one W0 x))).trans (cell_one W0 x)
 obtain ⟨sD, esD⟩ : ∃ sD, sD = strOfNums D := ⟨_, rfl⟩
 obtain ⟨s, es⟩ : ∃ s, s = strOfNums [x] := ⟨_, rfl⟩
 rw [← esD] at HI HE; rw [← es] at HCA HE
 have hss : s.size = 1 := by rw [es]; exact strOfNums_size _
 have hsD : sD.size ≤ 20 := by rw [esD, strOfNums_size]; exact hD
 clear es esD hI hD
 go_enter Tryz.func82, Tryz.ntmps82
 go_wp2_with fail; refine wp_region_held_drew (S := fun _ => True) (by kernel_rfl) trivial (fun hHeld => ?_)
 have hsm : sD.size ≤ 9223372036854775806 := by omega
 have wd : IntKind.i64.wrap d = d := wrap_i64W (by have := Int.mul_tdiv_add_tmod v 10; omega) (by have := Int.mul_tdiv_add_tmod v 10; omega); have wy : IntKind.i64.wrap x = x := wrap_i64W (by omega) (by omega); refine hTk (i := 0) (v := .int .i64 v) (some 34) (fun o ho W hSw => ?y1) trivial ?_
 case y1 => cases ho; simp [execOp, go_sem, Act.eval]
 simp only [Act.put, zzA, zzB, zzC]; refine hTk (i := 1) (v := .int .i64 d) (some 35) (fun o ho W hSw => ?y2) trivial ?_
 case y2 => cases ho; simp [execOp, go_sem, Act.eval, ed, wd]
 simp only [Act.put, zzA, zzB, zzC]; refine hTk (i := 3) (v := .int .i64 v) (some 37) (fun o ho W hSw => ?y3) trivial ?_
 case y3 => cases ho; simp [execOp, go_sem, Act.eval]
 simp only [Act.put, zzA, zzB, zzC]; refine hTk (i := 4) (v := .int .i64 r) (some 38) (fun o ho W hSw => ?y4) trivial ?_
 case y4 => cases ho; simp [execOp, go_sem, Act.eval, er]
 simp only [Act.put, zzA, zzB, zzC]; refine hTk (i := 5) (v := .int .i64 x) (some 39) (fun o ho W hSw => ?y5) trivial ?_
 case y5 => cases ho; simp [execOp, go_sem, Act.eval, ex, wy]
 simp only [Act.put, zzA, zzB, zzC]; refine hTk (i := 6) (v := .int .u8 x) (some 40) (fun o ho W hSw => ?y6) trivial ?_
 case y6 => cases ho; simp [execOp, go_sem, Act.eval, wx]
 simp only [Act.put, zzA, zzB, zzC]; refine hBoth (i := 2) (j := 7) (by kernel_rfl) ?_ ?_
 ·skip
  refine opCall (f := 82) (args := #[.int .i64 d]) (some 36) (by kernel_rfl) (by kernel_rfl) (fun o ho => ?y7) (HI.out _) (fun u w1 hu => ⟨trivial, ?_⟩) (fun ch w' h => by cases h.1) (fun w' h => by cases h.1)
  case y7 => cases ho; simp [execOp, go_sem, Act.eval]
  obtain ⟨hu, hb1⟩ := hu
  cases hu
  simp only [Act.put, zzA, zzB, zzC]; refine hStep (i := 7) (v := .slice (some ⟨w1.heap.size, 0, none⟩) 1 1) (w' := w1.alloc (.cells #[.int .u8 x] 5)) (some 41) (by kernel_rfl) (by kernel_rfl) (by kernel_rfl) (fun o ho => ?y8) trivial ?_
  case y8 => cases ho; simp [execOp, go_sem, Act.eval]
  simp only [Act.put, zzA, zzB, zzC]; have cv := HCA.out _ _ (cell_one w1 x); refine hStep (i := 8) (v := .string s) (w' := w1.alloc (.cells #[.int .u8 x] 5)) (some 42) (by kernel_rfl) (by kernel_rfl) (by kernel_rfl) (fun o ho => ?y9) trivial ?_
  case y9 => cases ho; simp [execOp, go_sem, Act.eval, cv]
  simp only [Act.put, zzA, zzB, zzC]; refine hTk (i := 9) (v := .string (sD ++ s)) (some 43) (fun o ho W hSw => ?y10) trivial ?_
  case y10 => cases ho; simp [execOp, go_sem, Act.eval, hss, hsm]
  simp only [Act.put, zzA, zzB, zzC]; refine hTk (i := 10) (v := .string (sD ++ s)) (some 2) (fun o ho W hSw => ?y11) trivial ?_
  case y11 => cases ho; simp [execOp, go_sem, Act.eval]
  simp only [Act.put, zzA, zzB, zzC]; refine wpAnyH_done (by kernel_rfl) ?_ _; go_wp2_with fail; go_ret; exact ⟨by rw [← HE.out]; rfl, (Below.on (Below.refl _ w).drew hb1).alloc hb1.size _⟩
 ·skip
  refine opStep (v := .slice (some ⟨w.drew.heap.size, 0, none⟩) 1 1) (w' := w.drew.alloc (.cells #[.int .u8 x] 5)) (some 41) (by kernel_rfl) (by kernel_rfl) (fun o ho => ?y12) ⟨trivial, ?_⟩
  case y12 => cases ho; simp [execOp, go_sem, Act.eval]
  simp only [Act.put, zzA, zzB, zzC]; refine hBoth (i := 2) (j := 8) (by kernel_rfl) ?_ ?_
  ·skip
   refine opCall (f := 82) (args := #[.int .i64 d]) (some 36) (by kernel_rfl) (by kernel_rfl) (fun o ho => ?y13) (HI.out _) (fun u w1 hu => ⟨trivial, ?_⟩) (fun ch w' h => by cases h.1) (fun w' h => by cases h.1)
   case y13 => cases ho; simp [execOp, go_sem, Act.eval]
   obtain ⟨hu, hb1⟩ := hu
   cases hu
   simp only [Act.put, zzA, zzB, zzC]; have cv : (convert 22 9 (.slice (some ⟨w.heap.size, 0, none⟩) 1 1)).run Tryz.prog w1 = .ok (.string s) w1 := HCA.out w1 w.heap.size (HCV.out w.drew w1 hb1); refine hStep (i := 8) (v := .string s) (w' := w1) (some 42) (by kernel_rfl) (by kernel_rfl) (by kernel_rfl) (fun o ho => ?y14) trivial ?_
   case y14 => cases ho; simp [execOp, go_sem, Act.eval, cv]
   simp only [Act.put, zzA, zzB, zzC]; refine hTk (i := 9) (v := .string (sD ++ s)) (some 43) (fun o ho W hSw => ?y15) trivial ?_
   case y15 => cases ho; simp [execOp, go_sem, Act.eval, hss, hsm]
   simp only [Act.put, zzA, zzB, zzC]; refine hTk (i := 10) (v := .string (sD ++ s)) (some 2) (fun o ho W hSw => ?y16) trivial ?_
   case y16 => cases ho; simp [execOp, go_sem, Act.eval]
   simp only [Act.put, zzA, zzB, zzC]; refine wpAnyH_done (by kernel_rfl) ?_ _; go_wp2_with fail; go_ret; exact ⟨by rw [← HE.out]; rfl, Below.on ((Below.refl _ w).drew.alloc (Nat.le_refl _) _) hb1⟩
  ·skip
   have cv : (convert 22 9 (.slice (some ⟨w.heap.size, 0, none⟩) 1 1)).run Tryz.prog (w.alloc (.cells #[.int .u8 x] 5)).drew = .ok (.string s) (w.alloc (.cells #[.int .u8 x] 5)).drew := HCA.out (w.drew.alloc (.cells #[.int .u8 x] 5)) w.heap.size (cell_one w.drew x); refine opStep (v := .string s) (w' := w.drew.alloc (.cells #[.int .u8 x] 5)) (some 42) (by kernel_rfl) (by kernel_rfl) (fun o ho => ?y17) ⟨trivial, ?_⟩
   case y17 => cases ho; simp [execOp, go_sem, Act.eval, cv]
   simp only [Act.put, zzA, zzB, zzC]; refine hCallE (i := 2) (f := 82) (args := #[.int .i64 d]) (some 36) (by kernel_rfl) (by kernel_rfl) (by kernel_rfl) (fun o ho => ?y18) (HI.out _) (fun u w1 hu => ⟨trivial, ?_⟩) (fun ch w' h => by cases h.1) (fun w' h => by cases h.1)
   case y18 => cases ho; simp [execOp, go_sem, Act.eval]
   obtain ⟨hu, hb1⟩ := hu
   cases hu
   simp only [Act.put, zzA, zzB, zzC]; refine hTk (i := 9) (v := .string (sD ++ s)) (some 43) (fun o ho W hSw => ?y19) trivial ?_
   case y19 => cases ho; simp [execOp, go_sem, Act.eval, hss, hsm]
   simp only [Act.put, zzA, zzB, zzC]; refine hTk (i := 10) (v := .string (sD ++ s)) (some 2) (fun o ho W hSw => ?y20) trivial ?_
   case y20 => cases ho; simp [execOp, go_sem, Act.eval]
   simp only [Act.put, zzA, zzB, zzC]; refine wpAnyH_done (by kernel_rfl) ?_ _; go_wp2_with fail; go_ret; exact ⟨by rw [← HE.out]; rfl, Below.on ((Below.refl _ w).drew.alloc (Nat.le_refl _) _) hb1⟩
set_option maxHeartbeats 1000000 in
theorem l3dec_any : ∀ (f : Nat) (v : Int) (w : World), v.natAbs < 10 ^ f → f ≤ 18 → Calls Tryz.prog 82 #[.int .i64 v] w fun e w' => e = .returned (.string (strOfNums (decF (f + 1) v))) ∧ Below w.heap.size w w' := by
 have small : ∀ (v : Int) (w : World), 0 ≤ v → v < 10 → Calls Tryz.prog 82 #[.int .i64 v] w fun e w' => e = .returned (.string (strOfNums [48 + v])) ∧ Below w.heap.size w w' := by
  intro v w hneg hsm
  have wx : IntKind.u8.wrap (48 + v) = 48 + v := wrap_u8W (by omega) (by omega)
  obtain ⟨x, ex⟩ : ∃ x, x = 48 + v := ⟨_, rfl⟩
  rw [← ex] at wx ⊢; have cv := conv_one w _ x (Below.refl _ _)
  obtain ⟨s, es⟩ : ∃ s, s = strOfNums [x] := ⟨_, rfl⟩
  rw [← es] at cv ⊢; have ex' : 48 + v = x := ex.symm; clear es ex
  go_enter Tryz.func82, Tryz.ntmps82
  go_wp2_with fail; go_ret; exact ⟨rfl, (Below.refl _ _).alloc (Nat.le_refl _) _⟩
 have neg1 : ∀ (v : Int) (w : World), v < 0 → -10 < v → Calls Tryz.prog 82 #[.int .i64 v] w fun e w' => e = .returned (.string (strOfNums [45, 48 - v])) ∧ Below w.heap.size w w' := by
  intro v w hneg h10
  have wx : IntKind.u8.wrap (48 - v) = 48 - v := wrap_u8W (by omega) (by omega)
  obtain ⟨x, ex⟩ : ∃ x, x = 48 - v := ⟨_, rfl⟩
  rw [← ex] at wx ⊢; have cv := conv_one w _ x (Below.refl _ _); have HE : Hid ((⟨#[45]⟩ : ByteArray) ++ strOfNums [x] = strOfNums [45, x]) := str_app [45] [x]
  obtain ⟨s, es⟩ : ∃ s, s = strOfNums [x] := ⟨_, rfl⟩
  have hss : s.size = 1 := by rw [es]; exact strOfNums_size _
  rw [← es] at cv HE; have ex' : 48 - v = x := ex.symm; clear es ex
  go_enter Tryz.func82, Tryz.ntmps82
  go_wp2_with fail
  all_goals go_ret
  all_goals exact ⟨by rw [← HE.out]; rfl, (Below.refl _ _).alloc (Nat.le_refl _) _⟩
 intro f
 induction f with
 | zero =>
   intro v w h _
   obtain rfl : v = 0 := by simpa using h
   exact small 0 w (by decide) (by decide)
 | succ f ih =>
   intro v w h hf
   have hbig : v.natAbs < 10 ^ 18 := Nat.lt_of_lt_of_le h (Nat.pow_le_pow_right (by decide) hf)
   have h18 : (10 : Nat) ^ 18 = 1000000000000000000 := by decide
   have h2 : (v.tdiv 10).natAbs < 10 ^ f := by
    rw [Int.natAbs_tdiv]; rw [Nat.pow_succ] at h; exact Nat.div_lt_of_lt_mul (by rw [Nat.mul_comm]; exact h)
   have hl := dec_len (f + 1) (v.tdiv 10); have hm1 : -10 < v.tmod 10 := Int.lt_tmod_of_pos v (by decide); have hm2 : v.tmod 10 < 10 := Int.tmod_lt_of_pos v (by decide)
   by_cases hneg : v < 0
   ·by_cases h10 : -10 < v
    ·have e : decF (f + 1 + 1) v = [45, 48 - v] := by unfold decF; rw [if_pos ⟨hneg, h10⟩]
     rw [e]; exact neg1 v w hneg h10
    ·have e : decF (f + 1 + 1) v = decF (f + 1) (v.tdiv 10) ++ [48 - v.tmod 10] := by
      conv => lhs; unfold decF
      rw [if_neg (fun h => h10 h.2), if_pos hneg]
     have hsg : v.tmod 10 ≤ 0 := by have := Int.tmod_nonneg 10 (a := -v) (by omega); rw [Int.neg_tmod] at this; omega
     rw [e]; exact dec_neg v _ _ _ _ w rfl rfl rfl (by omega) (by omega) (by omega) hm1 hm2 (by omega) (by omega) (by omega) (fun W => ih _ W h2 (by omega))
   ·by_cases hsm : v < 10
    ·have e : decF (f + 1 + 1) v = [48 + v] := by
      conv => lhs; unfold decF
      rw [if_neg (fun h => hneg h.1), if_neg hneg, if_pos hsm]
     rw [e]; exact small v w (by omega) hsm
    ·have e : decF (f + 1 + 1) v = decF (f + 1) (v.tdiv 10) ++ [48 + v.tmod 10] := by
      conv => lhs; unfold decF
      rw [if_neg (fun h => hneg h.1), if_neg hneg, if_neg hsm]
     have hsg : 0 ≤ v.tmod 10 := Int.tmod_nonneg 10 (by omega); rw [e]; exact dec_pos v _ _ _ _ w rfl rfl rfl (by omega) (by omega) (by omega) hm1 hm2 (by omega) (by omega) (by omega) (fun W => ih _ W h2 (by omega))
end
section
open Go Go.RowKit
theorem isDot_any (c : Cel) (rest : List Cel) (p : Option Addr) (n cap : Nat) (w : World) (hb : Byte c.2.2) (hn : n = rest.length + 1) (hin : CIn w p (c :: rest)) :
 Calls Tryz.prog 84 #[.slice p n cap, .string ⟨#[46]⟩, .int .i64 2] w fun e w' => e = .returned (.bool (decide (c = dot))) ∧ w' = w := by
 obtain ⟨b, o, rfl, hcs⟩ := hin (by simp); obtain ⟨p0, q0, d0, d1, d2, d3⟩ := hcs 0 (by simp); simp only [List.getD_cons_zero, Nat.zero_mul, Nat.add_zero] at d0 d1 d2 d3; have hcv := conv_str d3 c.2.2.length q0 rfl 9 Tryz.underlying9; have hstr := str_eq hb [46]
 have hlt : (0 : Int) < n := by omega
 obtain ⟨str, es⟩ : ∃ str, str = strOfNums c.2.2 := ⟨_, rfl⟩
 rw [← es] at hcv hstr
 obtain ⟨m, em⟩ : ∃ m, m = c.2.2.length := ⟨_, rfl⟩
 rw [← em] at hcv d2
 have HEQ : Hid (c = dot ↔ c.1 = 3 ∧ c.2.1 = 2 ∧ c.2.2 = [46]) := by
  obtain ⟨a, b, d⟩ := c
  simp [dot, Hid]
 clear hcs es em hn d3
 by_cases hs : c.2.2 = [46]
 ·have hs' : str.toList = [46] := hstr.2 (by rw [hs]; rfl)
  have HS : Hid (c.2.2 = [46]) := hs; clear hs hstr
  obtain ⟨c0, e0⟩ : ∃ x, x = c.1 := ⟨_, rfl⟩
  obtain ⟨c1, e1⟩ : ∃ x, x = c.2.1 := ⟨_, rfl⟩
  rw [← e0] at d0; rw [← e1] at d1
  have HE : Hid (c0 = c.1 ∧ c1 = c.2.1) := ⟨e0, e1⟩
  clear e0 e1
  by_cases h3 : c0 = 3
  ·subst h3
   go_enter Tryz.func84, Tryz.ntmps84
   go_wp2_with fail; go_ret
   exact ⟨ret_bool (by
    rw [Bool.eq_iff_iff]; simp only [decide_eq_true_iff, beq_iff_eq, HEQ.out]; have := HE.out
    constructor
    ·intro h; exact ⟨this.1.symm, by rw [← this.2]; exact h, HS.out⟩
    ·intro h; rw [this.2]; exact h.2.1), rfl⟩
  ·have h3' : (c0 == 3) = false := by simpa using h3
   have HD : Hid (decide (c = dot) = false) := by
    show _ = _
    rw [decide_eq_false_iff_not, HEQ.out]
    exact fun h => h3 (by rw [HE.out.1]; exact h.1)
   rw [HD.out]; clear h3
   go_enter Tryz.func84, Tryz.ntmps84
   go_wp2_with fail; go_ret; exact ⟨rfl, rfl⟩
 ·have hs' : (str.toList == [46]) = false := by rw [beq_eq_false_iff_ne]; exact fun h => hs (by have := hstr.1 h; simpa using this)
  have HD : Hid (decide (c = dot) = false) := by
   show _ = _
   rw [decide_eq_false_iff_not, HEQ.out]
   exact fun h => hs h.2.2
  rw [HD.out]; clear hs hstr
  go_enter Tryz.func84, Tryz.ntmps84
  go_wp2_with fail; go_ret; exact ⟨rfl, rfl⟩
theorem isNil_any (c : Cel) (rest : List Cel) (p : Option Addr) (n cap : Nat) (w : World) (hb : Byte c.2.2) (hcl : cellB c.1 c.2.1 c.2.2.length = true) (hn : n = rest.length + 1) (hin : CIn w p (c :: rest)) :
 Calls Tryz.prog 84 #[.slice p n cap, .string ⟨#[91, 93]⟩, .int .i64 0] w fun e w' => e = .returned (.bool (decide (c = nilC))) ∧ w' = w := by
 obtain ⟨b, o, rfl, hcs⟩ := hin (by simp); obtain ⟨p0, q0, d0, d1, d2, d3⟩ := hcs 0 (by simp); simp only [List.getD_cons_zero, Nat.zero_mul, Nat.add_zero] at d0 d1 d2 d3; have hcv := conv_str d3 c.2.2.length q0 rfl 9 Tryz.underlying9; have hstr := str_eq hb [91, 93]
 have hlt : (0 : Int) < n := by omega
 obtain ⟨str, es⟩ : ∃ str, str = strOfNums c.2.2 := ⟨_, rfl⟩
 rw [← es] at hcv hstr
 obtain ⟨m, em⟩ : ∃ m, m = c.2.2.length := ⟨_, rfl⟩
 rw [← em] at hcv d2
 have HEQ : Hid (c = nilC ↔ c.1 = 2 ∧ c.2.2 = [91, 93]) := by
  obtain ⟨a, b, d⟩ := c; simp only at hcl
  constructor
  ·intro h; cases h; exact ⟨rfl, rfl⟩
  ·rintro ⟨h1, h2⟩
   simp only at h1 h2; rw [h1] at hcl
   have : b = 0 := by simp [cellB] at hcl; exact hcl.2
   rw [h1, h2, this]; rfl
 clear hcs es em hn d3 hcl
 by_cases hs : c.2.2 = [91, 93]
 ·have hs' : str.toList = [91, 93] := hstr.2 (by rw [hs]; rfl)
  have HS : Hid (c.2.2 = [91, 93]) := hs; clear hs hstr
  obtain ⟨c0, e0⟩ : ∃ x, x = c.1 := ⟨_, rfl⟩
  rw [← e0] at d0; have HE : Hid (c0 = c.1) := e0; clear e0
  go_enter Tryz.func84, Tryz.ntmps84
  go_wp2_with fail; go_ret
  exact ⟨ret_bool (by
   rw [Bool.eq_iff_iff]; simp only [decide_eq_true_iff, beq_iff_eq, HEQ.out]
   constructor
   ·intro h; exact ⟨by rw [← HE.out]; exact h, HS.out⟩
   ·intro h; rw [HE.out]; exact h.1), rfl⟩
 ·have hs' : (str.toList == [91, 93]) = false := by rw [beq_eq_false_iff_ne]; exact fun h => hs (by have := hstr.1 h; simpa using this)
  have HD : Hid (decide (c = nilC) = false) := by
   show _ = _
   rw [decide_eq_false_iff_not, HEQ.out]
   exact fun h => hs h.2
  rw [HD.out]; clear hs hstr
  go_enter Tryz.func84, Tryz.ntmps84
  go_wp2_with fail; go_ret; exact ⟨rfl, rfl⟩
theorem nextI_any (cs : List Cel) (p : Option Addr) (n cap : Nat) (i : Nat) (c : Cel) (k : Fo) (rest : List Cel) (w : World) (hn : n = cs.length) (hl : n ≤ 2000) (hok : (Fo.node c k .nil).ok) (hd : cs.drop i = (c :: k.cells) ++ rest) (hin : CIn w p cs) :
 Calls Tryz.prog 96 #[.slice p n cap, .int .i64 i] w fun e w' => e = .returned (.int .i64 ((i + 1 + k.cells.length : Nat) : Int)) ∧ w' = w := by
 have HI : Hid (CIn w p cs) := hin; have HN : Hid (n = cs.length) := hn
 obtain ⟨tot, et⟩ : ∃ tot, tot = i + 1 + k.cells.length := ⟨_, rfl⟩
 have htot : tot ≤ n := by
  have := congrArg List.length hd
  simp at this
  omega
 have HST : Hid (cs.drop i = (Fo.node c k .nil).cells ++ rest ∧ i + (Fo.node c k .nil).cells.length = tot ∧ (Fo.node c k .nil).ok) := ⟨by rw [hd]; simp [Fo.cells], by simp [Fo.cells]; omega, hok⟩
 rw [← et]
 have hit : i ≤ tot := by omega
 clear hin hn hd hok et
 go_enter Tryz.func96, Tryz.ntmps96
 go_wp2_with fail
 go_loop [1, 5] (fun a s => ∃ (R : Fo) (j m : Nat), j ≤ tot ∧ m ≤ 2000 ∧ a = .int .i64 j ∧ s = .int .i64 m ∧ Hid (cs.drop j = R.cells ++ rest ∧ j + R.cells.length = tot ∧ R.ok ∧ m = R.count)) (fun a _ => tot - (intOf a).toNat)
 case atStart => exact ⟨.node c k .nil, i, 1, hit, by decide, rfl, rfl, HST.out.1, HST.out.2.1, HST.out.2.2, rfl⟩
 case round =>
  obtain ⟨R, j, m, hj, hm, rfl, rfl, HR⟩ := hrel
  cases R with
  | nil =>
    have hm0 : m = 0 := HR.out.2.2.2
    have HJ : Hid (j = tot) := by show _ = _; have := HR.out.2.1; simpa [Fo.cells] using this
    subst hm0; go_wp2_with fail; go_ret; exact ⟨ret_int (by rw [HJ.out]), rfl⟩
  | node c' k' r' =>
    have hmm : m = r'.count + 1 := HR.out.2.2.2; obtain ⟨hd, hjt, hok', _⟩ := HR.out
    have hjl : j < cs.length := by
     have := congrArg List.length hd
     simp [Fo.cells] at this
     omega
    have hcj : cs.getD j Cel.none = c' := by
     have h1 := drop_at cs j hjl; rw [hd] at h1; simp only [Fo.cells, List.cons_append] at h1; exact (List.cons.inj h1).1.symm
    have hdn : cs.drop (j + 1) = (k'.cat r').cells ++ rest := by
     have h1 := drop_at cs j hjl; rw [hd] at h1; simp only [Fo.cells, List.cons_append] at h1; rw [← (List.cons.inj h1).2, Fo.cells_cat]
    obtain ⟨b, o, rfl, hcs⟩ := HI.out (by omega); obtain ⟨p0, q0, d0, d1, _, _⟩ := hcs j hjl; rw [hcj] at d0 d1
    have hmp : (0 : Int) < m := by omega
    have hjn : (j : Int) < n := by rw [HN.out]; omega
    have HNEXT : Hid (cs.drop (j + 1) = (k'.cat r').cells ++ rest ∧ j + 1 + (k'.cat r').cells.length = tot ∧ (k'.cat r').ok ∧ (k'.cat r').count = k'.count + r'.count) := ⟨hdn, by rw [Fo.cells_cat]; simp [Fo.cells] at hjt; simp; omega, (Fo.ok_cat _ _).2 ⟨hok'.2.2.2.2.1, hok'.2.2.2.2.2⟩, Fo.count_cat _ _⟩
    have hcnt : k'.count + r'.count ≤ 2000 := by
     have := Fo.count_le (k'.cat r'); have h2 := HNEXT.out.2.1; rw [Fo.count_cat] at this
     omega
    have hjt2 : j + 1 ≤ tot := by have := HNEXT.out.2.1; omega
    have HMM : Hid (m = r'.count + 1) := hmm
    obtain ⟨c0, e0⟩ : ∃ x, x = c'.1 := ⟨_, rfl⟩
    rw [← e0] at d0
    by_cases h3 : c0 = 3
    ·subst h3
     have hcn := hok'.2.2.1 e0.symm; rw [hcn] at d1
     have HK : Hid (k'.count ≤ 2000) := by show _ ≤ _; omega
     have hk2 : k'.count ≤ 2000 := by omega
     obtain ⟨kc, ekc⟩ : ∃ kc, kc = k'.count := ⟨_, rfl⟩
     rw [← ekc] at d1 hk2; have HKC : Hid (kc = k'.count) := ekc; clear hcs hcj hdn hd hjt hok' hcn e0 ekc hmm HI HR; go_wp2_with fail
     go_round
     case rel => exact ⟨k'.cat r', j + 1, kc + r'.count, hjt2, by have := HKC.out; omega, by go_num, by have := HMM.out; congr 1; omega, HNEXT.out.1, HNEXT.out.2.1, HNEXT.out.2.2.1, by rw [HNEXT.out.2.2.2, HKC.out]⟩
     case measure => simp [intOf]; omega
    ·have h3' : (c0 == 3) = false := by simpa using h3
     have hk' : k' = .nil := hok'.2.2.2.1 (by rw [← e0]; exact h3); subst hk'; clear hcs hcj hdn hd hjt hok' e0 hmm HI HR h3; go_wp2_with fail
     go_round
     case rel => exact ⟨Fo.nil.cat r', j + 1, r'.count, hjt2, by simp [Fo.count] at hcnt; omega, by go_num, by have := HMM.out; congr 1; omega, HNEXT.out.1, HNEXT.out.2.1, HNEXT.out.2.2.1, rfl⟩
     case measure => simp [intOf]; omega
theorem CIn.partI {w : World} {b o : Nat} {cs a m r : List Cel} (h : CIn w (some ⟨b, o, none⟩) cs) (e : cs = a ++ (m ++ r)) : CIn w (some ⟨b, o + a.length * 3, none⟩) m := fun hm => by
 obtain ⟨b', o', e', hc⟩ := h (by rw [e]; simp; omega)
 cases e'
 refine ⟨b, o + a.length * 3, rfl, fun i hi => ?_⟩; have := hc (a.length + i) (by rw [e]; simp; omega); rw [show o + (a.length + i) * 3 = o + a.length * 3 + i * 3 by omega] at this
 have e2 : cs.getD (a.length + i) Cel.none = m.getD i Cel.none := by
  rw [e, List.getD, List.getElem?_append_right (by omega), show a.length + i - a.length = i by omega, List.getElem?_append_left hi, List.getD]
 rwa [e2] at this
def ItV (w : World) (its : List (Cel × Fo)) (us : List Value) : Prop := us.length = its.length ∧ ∀ i (h : i < its.length), ∃ q c, us[i]? = some (.slice q (itC its[i]).length c) ∧ CIn w q (itC its[i])
theorem ItV.snoc {w : World} {its : List (Cel × Fo)} {us : List Value} (h : ItV w its us) (x : Cel × Fo) (q : Option Addr) (c : Nat) (hq : CIn w q (itC x)) : ItV w (its ++ [x]) (us ++ [.slice q (itC x).length c]) := by
 refine ⟨by simp [h.1], fun i hi => ?_⟩
 by_cases e : i < its.length
 ·obtain ⟨q', c', h1, h2⟩ := h.2 i e
  refine ⟨q', c', ?_, ?_⟩
  ·rw [List.getElem?_append_left (by rw [h.1]; exact e), h1, List.getElem_append_left e]
  ·rw [List.getElem_append_left e]; exact h2
 ·have e' : i = its.length := by simp at hi; omega
  subst e'; refine ⟨q, c, ?_, ?_⟩
  ·rw [List.getElem?_append_right (by rw [h.1]; exact Nat.le_refl _), h.1]; simp
  ·simpa using hq
theorem one_slice (q : Option Addr) (m c : Nat) : ∀ u ∈ [Value.slice q m c], u.oneCell' = true := fun u hu => by simp at hu; rw [hu]; rfl
theorem isCurly_any (c : Cel) (rest : List Cel) (p : Option Addr) (n cap : Nat) (w : World) (hb : Byte c.2.2) (hn : n = rest.length + 1) (hin : CIn w p (c :: rest)) :
 Calls Tryz.prog 84 #[.slice p n cap, .string ⟨#[123, 125]⟩, .int .i64 1] w fun e w' => e = .returned (.bool (decide (c = curly))) ∧ w' = w := by
 obtain ⟨b, o, rfl, hcs⟩ := hin (by simp); obtain ⟨p0, q0, d0, d1, d2, d3⟩ := hcs 0 (by simp); simp only [List.getD_cons_zero, Nat.zero_mul, Nat.add_zero] at d0 d1 d2 d3; have hcv := conv_str d3 c.2.2.length q0 rfl 9 Tryz.underlying9; have hstr := str_eq hb [123, 125]
 have hlt : (0 : Int) < n := by omega
 obtain ⟨str, es⟩ : ∃ str, str = strOfNums c.2.2 := ⟨_, rfl⟩
 rw [← es] at hcv hstr
 obtain ⟨m, em⟩ : ∃ m, m = c.2.2.length := ⟨_, rfl⟩
 rw [← em] at hcv d2
 have HEQ : Hid (c = curly ↔ c.1 = 3 ∧ c.2.1 = 1 ∧ c.2.2 = [123, 125]) := by
  obtain ⟨a, b, d⟩ := c
  simp [curly, Hid]
 clear hcs es em hn d3
 by_cases hs : c.2.2 = [123, 125]
 ·have hs' : str.toList = [123, 125] := hstr.2 (by rw [hs]; rfl)
  have HS : Hid (c.2.2 = [123, 125]) := hs; clear hs hstr
  obtain ⟨c0, e0⟩ : ∃ x, x = c.1 := ⟨_, rfl⟩
  obtain ⟨c1, e1⟩ : ∃ x, x = c.2.1 := ⟨_, rfl⟩
  rw [← e0] at d0; rw [← e1] at d1
  have HE : Hid (c0 = c.1 ∧ c1 = c.2.1) := ⟨e0, e1⟩
  clear e0 e1
  by_cases h3 : c0 = 3
  ·subst h3
   go_enter Tryz.func84, Tryz.ntmps84
   go_wp2_with fail; go_ret
   exact ⟨ret_bool (by
    rw [Bool.eq_iff_iff]; simp only [decide_eq_true_iff, beq_iff_eq, HEQ.out]; have := HE.out
    constructor
    ·intro h; exact ⟨this.1.symm, by rw [← this.2]; exact h, HS.out⟩
    ·intro h; rw [this.2]; exact h.2.1), rfl⟩
  ·have h3' : (c0 == 3) = false := by simpa using h3
   have HD : Hid (decide (c = curly) = false) := by
    show _ = _
    rw [decide_eq_false_iff_not, HEQ.out]
    exact fun h => h3 (by rw [HE.out.1]; exact h.1)
   rw [HD.out]; clear h3
   go_enter Tryz.func84, Tryz.ntmps84
   go_wp2_with fail; go_ret; exact ⟨rfl, rfl⟩
 ·have hs' : (str.toList == [123, 125]) = false := by rw [beq_eq_false_iff_ne]; exact fun h => hs (by have := hstr.1 h; simpa using this)
  have HD : Hid (decide (c = curly) = false) := by
   show _ = _
   rw [decide_eq_false_iff_not, HEQ.out]
   exact fun h => hs h.2.2
  rw [HD.out]; clear hs hstr
  go_enter Tryz.func84, Tryz.ntmps84
  go_wp2_with fail; go_ret; exact ⟨rfl, rfl⟩
def NIn (w : World) (p : Option Addr) (N : List (List Int)) : Prop := 0 < N.length → ∃ b o, p = some ⟨b, o, none⟩ ∧ ∀ i, i < N.length → ∃ q c, w.cell? ⟨b, o + i, none⟩ = some (.slice q (N.getD i []).length c) ∧ BIn w q (N.getD i [])
theorem NIn.below {w W : World} {p : Option Addr} {N : List (List Int)} (h : NIn w p N) (hb : Below w.heap.size w W) : NIn W p N := fun hn => by
 obtain ⟨b, o, e, h⟩ := h hn
 exact ⟨b, o, e, fun i hi => by
  obtain ⟨q, c, h1, h2⟩ := h i hi
  exact ⟨q, c, (hb.cell (World.block_lt_of_cell? _ _ h1)).trans h1, h2.below hb⟩⟩
structure WEnv (W0 : World) (ob : Nat) (po : Option Addr) (co : Nat) (T : List Cel) (pn : Option Addr) (cn : Nat) (N : List (List Int)) (q : Bool) : Prop where
 c0 : W0.cell? ⟨ob, 0, none⟩ = some (.slice po T.length co)
 c1 : W0.cell? ⟨ob, 1, none⟩ = some (.slice pn N.length cn)
 c2 : W0.cell? ⟨ob, 2, none⟩ = some (.bool q)
 ops : OIn W0 po T
 opb : ∀ i, i < T.length → Byte (T.getD i Cel.none).2.2 ∧ (T.getD i Cel.none).2.2.length ≤ 100 ∧ (0 ≤ (T.getD i Cel.none).1 ∧ (T.getD i Cel.none).1 ≤ 1200) ∧ 0 ≤ (T.getD i Cel.none).2.1 ∧ (T.getD i Cel.none).2.1 ≤ 6
 olen : T.length ≤ 1000
 names : NIn W0 pn N
 nb : ∀ i, i < N.length → Byte (N.getD i []) ∧ (N.getD i []).length ≤ 1048576
 nlen : N.length ≤ 1048576
theorem WEnv.below {W0 W : World} {ob : Nat} {po : Option Addr} {co : Nat} {T : List Cel} {pn : Option Addr} {cn : Nat} {N : List (List Int)} {q : Bool} (h : WEnv W0 ob po co T pn cn N q) (hb : Below W0.heap.size W0 W) : WEnv W ob po co T pn cn N q := ⟨(hb.cell (World.block_lt_of_cell? _ _ h.c0)).trans h.c0, (hb.cell (World.block_lt_of_cell? _ _ h.c1)).trans h.c1, (hb.cell (World.block_lt_of_cell? _ _ h.c2)).trans h.c2, h.ops.below hb, h.opb, h.olen, h.names.below hb, h.nb, h.nlen⟩
def StrO (xs : List Int) (w : World) (e : Ending) (w' : World) : Prop := e = .returned (.string (strOfNums xs)) ∧ Below w.heap.size w w'
theorem atom_any (ob : Nat) (po : Option Addr) (co : Nat) (T : List Cel) (pn : Option Addr) (cn : Nat) (N : List (List Int)) (q : Bool) (p : Option Addr) (l c : Nat) (xs : List Int) (w : World) (hE : WEnv w ob po co T pn cn N q) (hl : l = xs.length) (hb : Byte xs) (hn : xs.length ≤ 1048576) (hx : BIn w p xs) :
 Calls Tryz.prog 83 #[.pointer (some ⟨ob, 0, none⟩), .slice p l c] w (StrO (atomW q xs) w) := by
 have c2 := hE.c2
 have HQ : Hid (Calls Tryz.prog 95 #[.slice p l c] w fun e w' => ∃ p' n' c', e = .returned (.slice p' n' c') ∧ OwnS w' w.heap.size p' n' c' (quoteB xs) ∧ Below w.heap.size w w') := by rw [hl]; exact specQuote_in p c xs w hb hn hx
 have cv := conv_str hx l c hl 9 Tryz.underlying9
 have HS : Hid (∀ W, Below w.heap.size w W → ∀ s, s = strOfNums xs → StrO xs w (.returned (.string s)) W) := fun W hW s es => ⟨by rw [es], hW⟩
 obtain ⟨s, es⟩ : ∃ s, s = strOfNums xs := ⟨_, rfl⟩
 have HES : Hid (s = strOfNums xs) := es; rw [← es] at cv; clear es hE hb hx hn hl
 cases q with
 | true =>
   have e : atomW true xs = quoteB xs := rfl; rw [e]; clear e cv
   go_enter Tryz.func83, Tryz.ntmps83
   go_wp2_with fail; refine HQ.out.mono ?_; rintro e w1 ⟨p1, n1, c1, rfl, ho, hb1⟩; have cv1 := conv_str ho.bin n1 c1 ho.1 9 Tryz.underlying9; have HB1 : Hid (Below w.heap.size w w1) := hb1
   obtain ⟨s1, es1⟩ : ∃ s, s = strOfNums (quoteB xs) := ⟨_, rfl⟩
   rw [← es1] at cv1; have HE1 : Hid (s1 = strOfNums (quoteB xs)) := es1; clear ho hb1 es1; go_wp2_with fail; go_ret; exact ⟨by rw [HE1.out]; rfl, HB1.out⟩
 | false =>
   have e : atomW false xs = xs := rfl; rw [e]; clear e
   go_enter Tryz.func83, Tryz.ntmps83
   go_wp2_with fail; go_ret; exact ⟨by rw [HES.out]; rfl, Below.refl _ _⟩
theorem leftW_any (op : Cel) (pq : Option Addr) (n c : Nat) (w : World) (h0 : 0 ≤ op.1 ∧ op.1 ≤ 1200) : Calls Tryz.prog 104 #[.agg #[.slice pq n c, .int .i64 op.1, .int .i64 op.2.1]] w fun e w' => e = .returned (.int .i64 (leftP op)) ∧ Below w.heap.size w w' := by
 obtain ⟨h0, h1⟩ := h0; have HL : Hid (leftP op = if op.2.1 = 2 ∨ op.2.1 = 6 then op.1 else op.1 - 1) := rfl
 obtain ⟨r, er⟩ : ∃ r, r = leftP op := ⟨_, rfl⟩
 rw [← er] at HL ⊢; clear er
 obtain ⟨x, ex⟩ : ∃ x, x = op.1 := ⟨_, rfl⟩
 obtain ⟨t, et⟩ : ∃ t, t = op.2.1 := ⟨_, rfl⟩
 rw [← ex, ← et] at HL; rw [← ex] at h0 h1 ⊢; rw [← et]; clear ex et
 by_cases g1 : t = 2
 ·have e : Hid (r = x) := by show _ = _; rw [HL.out, if_pos (.inl g1)]
  subst g1; clear HL
  go_enter Tryz.func104, Tryz.ntmps104
  go_wp2_with fail; go_ret; exact ⟨by rw [e.out]; rfl, (Below.refl _ _).alloc (Nat.le_refl _) _⟩
 ·by_cases g2 : t = 6
  ·have e : Hid (r = x) := by show _ = _; rw [HL.out, if_pos (.inr g2)]
   subst g2; clear HL
   go_enter Tryz.func104, Tryz.ntmps104
   go_wp2_with fail; go_ret; exact ⟨by rw [e.out]; rfl, (Below.refl _ _).alloc (Nat.le_refl _) _⟩
  ·have e : Hid (r = x - 1) := by show _ = _; rw [HL.out, if_neg (fun h => h.elim g1 g2)]
   have g1' : (t == 2) = false := by simpa using g1
   have g2' : (t == 6) = false := by simpa using g2
   clear HL
   go_enter Tryz.func104, Tryz.ntmps104
   go_wp2_with fail; go_ret; exact ⟨by rw [e.out]; rfl, (Below.refl _ _).alloc (Nat.le_refl _) _⟩
theorem right_any (op : Cel) (pq : Option Addr) (n c : Nat) (w : World) (h0 : 0 ≤ op.1 ∧ op.1 ≤ 1200) : Calls Tryz.prog 101 #[.agg #[.slice pq n c, .int .i64 op.1, .int .i64 op.2.1]] w fun e w' => e = .returned (.int .i64 (rightP op)) ∧ Below w.heap.size w w' := by
 obtain ⟨h0, h1⟩ := h0; have HL : Hid (rightP op = if op.2.1 = 1 ∨ op.2.1 = 3 then op.1 else op.1 - 1) := rfl
 obtain ⟨r, er⟩ : ∃ r, r = rightP op := ⟨_, rfl⟩
 rw [← er] at HL ⊢; clear er
 obtain ⟨x, ex⟩ : ∃ x, x = op.1 := ⟨_, rfl⟩
 obtain ⟨t, et⟩ : ∃ t, t = op.2.1 := ⟨_, rfl⟩
 rw [← ex, ← et] at HL; rw [← ex] at h0 h1 ⊢; rw [← et]; clear ex et
 by_cases g1 : t = 1
 ·have e : Hid (r = x) := by show _ = _; rw [HL.out, if_pos (.inl g1)]
  subst g1; clear HL
  go_enter Tryz.func101, Tryz.ntmps101
  go_wp2_with fail; go_ret; exact ⟨by rw [e.out]; rfl, (Below.refl _ _).alloc (Nat.le_refl _) _⟩
 ·by_cases g2 : t = 3
  ·have e : Hid (r = x) := by show _ = _; rw [HL.out, if_pos (.inr g2)]
   subst g2; clear HL
   go_enter Tryz.func101, Tryz.ntmps101
   go_wp2_with fail; go_ret; exact ⟨by rw [e.out]; rfl, (Below.refl _ _).alloc (Nat.le_refl _) _⟩
  ·have e : Hid (r = x - 1) := by show _ = _; rw [HL.out, if_neg (fun h => h.elim g1 g2)]
   have g1' : (t == 1) = false := by simpa using g1
   have g2' : (t == 3) = false := by simpa using g2
   clear HL
   go_enter Tryz.func101, Tryz.ntmps101
   go_wp2_with fail; go_ret; exact ⟨by rw [e.out]; rfl, (Below.refl _ _).alloc (Nat.le_refl _) _⟩
end
section
open Go Go.RowKit
def ArgRowU (w : World) : List (Option Addr × Nat × Nat) → List Tr → Prop
 | [], [] => True
 | r :: rs, t :: ts => r.2.1 = 1 + t.2.cells.length ∧ r.2.1 ≤ r.2.2 ∧ r.2.2 ≤ 9223372036854775807 ∧ CIn w r.1 (t.1 :: t.2.cells) ∧ ArgRowU w rs ts
 | [], _ :: _ => False
 | _ :: _, [] => False
theorem ArgRowU.snoc {w : World} {r : Option Addr × Nat × Nat} {t : Tr} (h1 : r.2.1 = 1 + t.2.cells.length) (h2 : r.2.1 ≤ r.2.2) (h3 : r.2.2 ≤ 9223372036854775807) (h4 : CIn w r.1 (t.1 :: t.2.cells)) : ∀ {rs : List (Option Addr × Nat × Nat)} {ts : List Tr}, ArgRowU w rs ts → ArgRowU w (rs ++ [r]) (ts ++ [t])
 | [], [], _ => ⟨h1, h2, h3, h4, trivial⟩
 | _ :: _, _ :: _, h => ⟨h.1, h.2.1, h.2.2.1, h.2.2.2.1, ArgRowU.snoc h1 h2 h3 h4 h.2.2.2.2⟩
 | [], _ :: _, h => h.elim
 | _ :: _, [], h => h.elim
structure ArgStU (W0 w wr : World) (cs : List Cel) (k : Fo) (a : Nat) (D : List Tr) (G : Fo) (pt : Option Addr) (nt ct : Nat) (rs : List (Option Addr × Nat × Nat)) : Prop where
 gd : cs.drop a = G.cells
 gok : G.ok
 all : D ++ trs G = trs k
 cnt : nt = D.length
 row : wr.ownsRow w.heap.size 46 1 (.slice pt nt ct) nt (rs.map slV)
 arg : ArgRowU W0 rs D
 low : Below w.heap.size w wr
def ArgsOutU (W0 w : World) (k : Fo) (e : Ending) (w' : World) : Prop := ∃ q m mc rs, e = .returned (.slice q m mc) ∧ m = k.count ∧ w'.ownsRow w.heap.size 46 1 (.slice q m mc) m (rs.map slV) ∧ ArgRowU W0 rs (trs k) ∧ Below w.heap.size w w'
set_option maxHeartbeats 2000000 in
theorem l2argsU_any (c : Cel) (k : Fo) (p : Option Addr) (n cap : Nat) (W0 w : World) (hW : Below W0.heap.size W0 w) (h3 : c.1 = 3) (hok : (Fo.node c k .nil).ok) (hn : n = (c :: k.cells).length) (hnm : n ≤ 2000) (hcap : n ≤ cap) (hcm : cap ≤ 9223372036854775807) (hin0 : CIn W0 p (c :: k.cells)) :
 Calls Tryz.prog 97 #[.slice p n cap] w (ArgsOutU W0 w k) := by
 have hin := hin0.below hW; obtain ⟨b, o, rfl, hcs⟩ := hin (by simp); obtain ⟨b0, o0, eb0, hcs0⟩ := hin0 (by simp)
 cases eb0
 have HK : Hid (∀ wr, Below w.heap.size w wr → wr.cell? ⟨b, o, none⟩ = some (.int .i64 3) ∧ wr.cell? ⟨b, o + 1, none⟩ = some (.int .i64 k.count)) := fun wr hb => by
  obtain ⟨p0, q0, d0, d1, _, _⟩ := (hcs 0 (by simp)).below hb; simp only [List.getD_cons_zero, Nat.zero_mul, Nat.add_zero] at d0 d1; rw [h3] at d0; rw [hok.2.2.1 h3] at d1; exact ⟨d0, d1⟩
 obtain ⟨d0, d1⟩ := HK.out w (Below.refl _ _)
 have hb20 : k.count ≤ 20 := by
  have h := hok.1; rw [h3] at h; have := cellB_comp h; have := hok.2.2.1 h3
  omega
 have HST : Hid (ArgStU W0 w w (c :: k.cells) k 1 [] k none 0 0 []) := ⟨rfl, hok.2.2.2.2.1, rfl, rfl, World.ownsRow_nil _ _ _ _, trivial, Below.refl _ _⟩
 have HGL : Hid (1 + k.cells.length = n) := by show _ = _; rw [hn]; simp; omega
 obtain ⟨cs, ecs⟩ : ∃ cs, cs = c :: k.cells := ⟨_, rfl⟩
 rw [← ecs] at hcs hn HST hin hcs0; have HX : Hid (∀ i, i < cs.length → CAt W0 b (o + i * 3) (cs.getD i Cel.none)) := hcs0; have HIN : Hid (CIn w (some ⟨b, o, none⟩) cs) := hin; have HN : Hid (n = cs.length) := hn
 obtain ⟨M, eM⟩ : ∃ M, M = k.count := ⟨_, rfl⟩
 have HM : Hid (M = k.count) := eM; rw [← eM] at HK d1 hb20
 have hn0 : 0 < n := by have := HGL.out; omega
 have hn00 : ((n : Int) == 0) = false := by rw [beq_eq_false_iff_ne]; omega
 clear hcs hin hn ecs eM h3 hok hcs0 hin0
 go_enter Tryz.func97, Tryz.ntmps97
 go_wp2_with fail; clear d0 d1
 go_loopw [3, 4, 5] (fun s3 s4 s5 wr => ∃ (a : Nat) (D : List Tr) (G : Fo) (pt : Option Addr) (nt ct : Nat) (rs : List (Option Addr × Nat × Nat)), a ≤ n ∧ nt ≤ M ∧ s3 = .slice pt nt ct ∧ s4 = .int .i64 a ∧ s5 = .int .i64 nt ∧ Hid (a + G.cells.length = n) ∧ Hid (ArgStU W0 w wr cs k a D G pt nt ct rs)) (fun _ _ i _ => M - (intOf i).toNat)
 case atStart => exact ⟨1, [], k, none, 0, 0, [], by omega, Nat.zero_le _, rfl, rfl, rfl, HGL.out, HST.out⟩
 case round =>
  obtain ⟨a, D, G, pt, nt, ct, rs, ha, hnt, rfl, rfl, rfl, HL, HS⟩ := hrel; obtain ⟨d0, d1⟩ := HK.out wr HS.out.low
  by_cases hlt : nt < M
  ·obtain ⟨c1, k1, r1, rfl⟩ : ∃ c k r, G = .node c k r := by
    cases G with
    | nil =>
      have h1 := HS.out.all; have h2 := congrArg List.length h1; have h3 := HS.out.cnt; have h4 := HM.out
      simp [trs, trs_len] at h2
      omega
    | node c k r => exact ⟨c, k, r, rfl⟩
   have hgd : cs.drop a = c1 :: (k1.cells ++ r1.cells) := HS.out.gd; have HO : Hid (Fo.node c1 k1 r1).ok := HS.out.gok
   have HT : Hid (Fo.node c1 k1 .nil).ok := ⟨HO.out.1, HO.out.2.1, HO.out.2.2.1, HO.out.2.2.2.1, HO.out.2.2.2.2.1, trivial⟩
   have HNX := l2next_any (some ⟨b, o, none⟩) n cap cs a c1 k1 r1.cells wr HN.out (by omega) hgd HT.out (HIN.out.below HS.out.low); have HPT : Hid (CIn W0 (some ⟨b, o + a * 3, none⟩) (c1 :: k1.cells)) := CIn.part HX.out a (by rw [hgd]; exact ⟨r1.cells, by simp⟩)
   obtain ⟨L, eL⟩ : ∃ L, L = 1 + k1.cells.length := ⟨_, rfl⟩
   have HEL : Hid (L = 1 + k1.cells.length) := eL
   have hnx : a + 1 + k1.cells.length = a + L := by omega
   have HDR : Hid (cs.drop (a + L) = r1.cells) := by
    show _ = _
    rw [← hnx, show a + 1 + k1.cells.length = (a + 1) + k1.cells.length by omega, ← List.drop_drop, (drop_cell hgd).2.2]; simp
   have hle : a + L ≤ n := by have := HL.out; simp [Fo.cells] at this; omega
   rw [hnx] at HNX
   have HLL : Hid (a + L + r1.cells.length = n) := by show _ = _; have := HL.out; simp [Fo.cells] at this; omega
   have hL1 : 1 ≤ L := by omega
   have hma : (0 : Int) < (cap : Int) - (a : Int) := by omega
   have hL2 : (a : Int) ≤ (a : Int) + (L : Int) := by omega
   have hL3 : (a : Int) + (L : Int) ≤ (n : Int) := by omega
   have hL4 : (a : Int) + (L : Int) ≤ (cap : Int) := by omega
   have hcap1 : ¬ cap = a := by omega
   have hcap2 : ¬ cap - a = 0 := by omega
   have hltI : (nt : Int) < (M : Int) := by omega
   clear hgd eL hnx; go_wp2_with fail; refine HNX.mono ?_; rintro e w3 ⟨rfl, rfl⟩; clear HNX; go_wp2_with (at_builtin; refine app_sl _ rfl _ _ rfl w.heap.size pt nt ct rs (some ⟨b, o + a * 3, none⟩) L (cap - a) rfl HS.out.row rfl (by omega) HS.out.low.size ?_; intro g6 cap6 w6 hown6 hg6); have hbal := HS.out.low.alloc HS.out.low.size (.cells #[.slice (some ⟨b, o + a * 3, none⟩) L (cap - a)] 46)
   have HS6 : Hid (ArgStU W0 w w6 cs k (a + L) (D ++ [(c1, k1)]) r1 (some ⟨g6, 0, none⟩) (nt + 1) cap6 (rs ++ [(some ⟨b, o + a * 3, none⟩, L, cap - a)])) :=
    ⟨HDR.out, HO.out.2.2.2.2.2, by rw [← HS.out.all]; simp [trs], by rw [HS.out.cnt]; simp, hown6, ArgRowU.snoc HEL.out (by simp only; omega) (by simp only; omega) HPT.out HS.out.arg, hbal.grown hg6 hbal.size (fun k e => (HS.out.row.lt k e).1)⟩
   clear hown6 hg6 hbal; go_roundw
   case rel => exact ⟨a + L, D ++ [(c1, k1)], r1, some ⟨g6, 0, none⟩, nt + 1, cap6, _, by omega, by omega, rfl, by go_num, by go_num, HLL.out, HS6⟩
   case measure => simp [intOf]; omega
  ·obtain rfl : nt = M := by omega
   have HF : Hid (ArgRowU W0 rs (trs k)) := by
    show ArgRowU W0 rs (trs k)
    have h1 := HS.out.all; have h2 := congrArg List.length h1; have h3 := HS.out.cnt; have h4 := HM.out
    simp [trs_len] at h2
    have h5 : trs G = [] := List.length_eq_zero_iff.1 (by rw [trs_len]; omega); rw [h5, List.append_nil] at h1; rw [← h1]; exact HS.out.arg
   go_wp2_with fail; go_ret; exact ⟨pt, _, ct, rs, rfl, HM.out, HS.out.row, HF.out, HS.out.low⟩
theorem ArgRowU.len {w : World} : ∀ {rs : List (Option Addr × Nat × Nat)} {ts : List Tr}, ArgRowU w rs ts → rs.length = ts.length
 | [], [], _ => rfl
 | _ :: _, _ :: _, h => by simp [ArgRowU.len h.2.2.2.2]
 | [], _ :: _, h => h.elim
 | _ :: _, [], h => h.elim
theorem ArgRowU.below {w w' : World} (hb : Below w.heap.size w w') : ∀ {rs : List (Option Addr × Nat × Nat)} {ts : List Tr}, ArgRowU w rs ts → ArgRowU w' rs ts
 | [], [], _ => trivial
 | _ :: _, _ :: _, h => ⟨h.1, h.2.1, h.2.2.1, h.2.2.2.1.below hb, ArgRowU.below hb h.2.2.2.2⟩
 | [], _ :: _, h => h.elim
 | _ :: _, [], h => h.elim
end
end Go.Proofs.YtfgmenkoeflhaaaGreatDoor
