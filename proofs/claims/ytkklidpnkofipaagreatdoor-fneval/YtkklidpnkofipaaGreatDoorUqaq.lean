/- Texts of FeI. Own work of the verifier. -/
import Derived.Test.YtkklidpnkofipaaGreatDoorUqap
namespace Go.Proofs.YtkklidpnkofipaaGreatDoor
open Go Go.RowKit
set_option linter.unusedVariables false
set_option linter.unusedSimpArgs false
set_option maxRecDepth 100000 in
set_option maxHeartbeats 4000000 in
theorem run_error (K b N : Nat) (s : List Int) (nm : ByteArray) (t : Tr) (ar : Int) (T : Fun → Option Nat) (c0 c1 c2 : Value) (a a2 : Addr) (w : World) (hb : BuIn w b N T) (hk : okN (nm, ar)) (hT : T (nm, ar) = some K) (h0 : c0.oneCell' = true) (h1 : c1.oneCell' = true) (h2 : c2.oneCell' = true)
  (hg : w.cell? ⟨2, 0, none⟩ = some (erV a)) (hg2 : w.cell? ⟨3, 0, none⟩ = some (erV a2)) (hnm : nm = strOfNums s) (het : etG w) (HY : ∀ v V, FoIn V 0 (errT t s ar).fo [v] → Calls Tryz.prog 113 #[.agg #[.slice none 0 0, v, .slice none 0 0]] V fun e w' => e = .returned (.bool false) ∧ Below V.heap.size V w') (hE : ∀ W : World, (callFunc K #[.agg #[c0, c1, c2]]).run Tryz.prog W = .ok (.enter K #[.agg #[c0, c1, c2]]) W)
  (HF : ∀ W, Below w.heap.size w W → Calls Tryz.prog K #[.agg #[c0, c1, c2]] W fun e w' => ∃ ty x, e = .returned (.tuple #[noEf, .iface 57 (.agg #[.iface ty x])]) ∧ Below W.heap.size W w' ∧ FoIn w' W.heap.size t.fo [.iface ty x]) :
  Calls Tryz.prog 32 #[.map (some b), .agg #[.string nm, .int .i64 ar], .agg #[c0, c1, c2]] w fun e w' => ∃ v, e = .returned (.tuple #[.agg #[.slice none 0 0, v, .slice none 0 0], .int .i64 6]) ∧ FoIn w' 0 (errT t s ar).fo [v] ∧ Below w.heap.size w w' := by
 have HNM : Hid (nm = strOfNums s) := hnm; clear hnm
 have HL : Hid (∀ W, Below w.heap.size w W → (Instr.lookup 73 (.map (some b)) (.agg #[.string nm, .int .i64 ar]) false).run Tryz.prog W = .ok (.func (.func K) #[] #[]) W) := fun W hW => (hb.below hW).getE (nm, ar) hk hT
 obtain ⟨w1, e1⟩ : ∃ w1, w1 = w.alloc (.cells #[.string nm, .int .i64 ar] 76) := ⟨_, rfl⟩
 obtain ⟨w2, e2⟩ : ∃ w2, w2 = w1.alloc (.cells #[c0, c1, c2] 83) := ⟨_, rfl⟩
 obtain ⟨w3, e3⟩ : ∃ w3, w3 = w2.alloc (.cells #[.slice none 0 0, .nilIface, .slice none 0 0] 86) := ⟨_, rfl⟩
 have hs1 : w1.heap.size = w.heap.size + 1 := by rw [e1]; simp
 have hs2 : w2.heap.size = w.heap.size + 1 + 1 := by rw [e2, ← hs1]; simp
 have hb1 : Below w.heap.size w w1 := by rw [e1]; exact (Below.refl _ _).alloc (Nat.le_refl _) _
 have hb2 : Below w1.heap.size w1 w2 := by rw [e2]; exact (Below.refl _ _).alloc (Nat.le_refl _) _
 have hb3 : Below w2.heap.size w2 w3 := by rw [e3]; exact (Below.refl _ _).alloc (Nat.le_refl _) _
 have hB3 : Below w.heap.size w w3 := Below.on hb1 (Below.on hb2 hb3)
 have k1 : w3.heap[w.heap.size]? = some (.cells #[.string nm, .int .i64 ar] 76) := by rw [hb3.block _ (by omega), hb2.block _ (by omega), e1]; exact heap_alloc_new _ _
 have k2 : w3.heap[w.heap.size + 1]? = some (.cells #[c0, c1, c2] 83) := by rw [hb3.block _ (by omega), e2, ← hs1]; exact heap_alloc_new _ _
 have k3 : w3.heap[w.heap.size + 1 + 1]? = some (.cells #[.slice none 0 0, .nilIface, .slice none 0 0] 86) := by rw [e3, ← hs2]; exact heap_alloc_new _ _
 have HS : Hid (∀ W, Below w3.heap.size w3 W → W.cell? ⟨w.heap.size, 0, none⟩ = some (.string nm) ∧ W.cell? ⟨w.heap.size, 1, none⟩ = some (.int .i64 ar) ∧ W.cell? ⟨w.heap.size + 1, 0, none⟩ = some c0 ∧ W.cell? ⟨w.heap.size + 1, 1, none⟩ = some c1 ∧ W.cell? ⟨w.heap.size + 1, 2, none⟩ = some c2 ∧ Below w3.heap.size w3 W) := fun W hW => by
  have q1 := (hW.block _ (Array.getElem?_eq_some_iff.1 k1).1).trans k1; have q2 := (hW.block _ (Array.getElem?_eq_some_iff.1 k2).1).trans k2; exact ⟨cell_of_row _ _ 0 _ _ _ q1, cell_of_row _ _ 1 _ _ _ q1, cell_of_row _ _ 0 _ _ _ q2, cell_of_row _ _ 1 _ _ _ q2, cell_of_row _ _ 2 _ _ _ q2, hW⟩
 have HC : Hid (∀ W, Below w3.heap.size w3 W → Calls Tryz.prog K #[.agg #[c0, c1, c2]] W fun e w' => ∃ ty x, e = .returned (.tuple #[noEf, .iface 57 (.agg #[.iface ty x])]) ∧ Below W.heap.size W w' ∧ FoIn w' W.heap.size t.fo [.iface ty x]) := fun W hW => HF W (Below.on hB3 hW)
 have HL3 : Hid (∀ W, Below w3.heap.size w3 W → (Instr.lookup 73 (.map (some b)) (.agg #[.string nm, .int .i64 ar]) false).run Tryz.prog W = .ok (.func (.func K) #[] #[]) W) := fun W hW => HL.out W (Below.on hB3 hW)
 have HG : Hid (∀ W, Below w3.heap.size w3 W → W.cell? ⟨2, 0, none⟩ = some (erV a)) := fun W hW => ((Below.on hB3 hW).cell (World.block_lt_of_cell? _ _ hg)).trans hg
 have HG2 : Hid (∀ W, Below w3.heap.size w3 W → W.cell? ⟨3, 0, none⟩ = some (erV a2)) := fun W hW => ((Below.on hB3 hW).cell (World.block_lt_of_cell? _ _ hg2)).trans hg2
 have HS3 : Hid (w3.heap.size = w.heap.size + 1 + 1 + 1) := by show _ = _; rw [e3, ← hs2]; simp
 have HET : Hid (∀ W, Below w3.heap.size w3 W → etG W) := fun W hW => het.below (Below.on hB3 hW)
 have HHY : Hid (∀ v V, FoIn V 0 (errT t s ar).fo [v] → Calls Tryz.prog 113 #[.agg #[.slice none 0 0, v, .slice none 0 0]] V fun e w' => e = .returned (.bool false) ∧ Below V.heap.size V w') := HY
 have HK3 : Hid (∀ W, Below w3.heap.size w3 W → W.heap[w.heap.size + 1 + 1]? = some (.cells #[.slice none 0 0, .nilIface, .slice none 0 0] 86)) := fun W hW => (hW.block _ (Array.getElem?_eq_some_iff.1 k3).1).trans k3
 have HB3 : Hid (Below w.heap.size w w3) := hB3; rw [e1] at e2; rw [e2] at e3; clear hg hg2 HY het hB3 k3 hb hk hT e1 e2 hs1 hs2 hb1 hb2 hb3 k1 k2 HL HF
 go_enter Tryz.func32, Tryz.ntmps32
 go_wp2_with fail; rw [← e3]; clear e3; refine wp_region_held_drew (S := fun W => Below w3.heap.size w3 W) (by kernel_rfl) ?_ (fun hHeld => ?_)
 ·exact (Below.refl _ _).drew
 refine hTk (i := 0) (v := .map (some b)) (some 13) (fun o ho W hSw => ?y0) (by assumption) ?_
 case y0 => cases ho; simp [execOp, go_sem, Act.eval]
 simp only [Act.put, zzA, zzB, zzC]; refine hTk (i := 1) (v := .agg #[.string nm, .int .i64 ar]) (some 14) (fun o ho W hSw => ?y1) (by assumption) ?_
 case y1 => cases ho; obtain ⟨s0, s1, s2, s3, s4, s5⟩ := HS.out W hSw; simp [execOp, go_sem, Act.eval, s0, s1]
 simp only [Act.put, zzA, zzB, zzC]; refine hTk (i := 2) (v := .func (.func K) #[] #[]) (some 15) (fun o ho W hSw => ?y2) (by assumption) ?_
 case y2 =>
  cases ho
  have sL := HL3.out W hSw
  simp [execOp, go_sem, Act.eval, sL]
 simp only [Act.put, zzA, zzB, zzC]; refine hTk (i := 3) (v := .agg #[c0, c1, c2]) (some 16) (fun o ho W hSw => ?y3) (by assumption) ?_
 case y3 => cases ho; obtain ⟨s0, s1, s2, s3, s4, s5⟩ := HS.out W hSw; simp [execOp, go_sem, Act.eval, s2, s3, s4]
 simp only [Act.put, zzA, zzB, zzC]; refine hBoth (i := 4) (j := 8) (by kernel_rfl) ?zA ?zB
 case zA =>
  refine opCall (f := K) (args := #[.agg #[c0, c1, c2]]) (some 17) (by kernel_rfl) (by kernel_rfl) (fun o ho => ?cA) (HC.out _ (Below.refl _ _).drew) ?kA (fun ch w' h => by obtain ⟨_, _, h, _⟩ := h; cases h) (fun w' h => by obtain ⟨_, _, h, _⟩ := h; cases h)
  case cA => cases ho; simp [execOp, go_sem, Act.eval, hE]
  case kA =>
   rintro u w4 ⟨ty, x, hu, hb4, hf⟩
   have hX : ∀ V, KeepF w3.heap.size w4 V → FoIn V w3.heap.size t.fo [.iface ty x] := fun V hV => FoIn.imp (Nat.le_refl _) (fun b o hb hl => World.cell?_of_block (a := ⟨b, o, none⟩) (hV.2 b hb hl)) hV.1 _ _ hf
   clear hf; obtain rfl := Ending.returned.inj hu; have hB4 : Below w3.heap.size w3 w4 := (Below.refl _ _).drew.trans hb4; refine ⟨hB4, ?_⟩; simp only [Act.put, zzA, zzB, zzC]; refine hTk (i := 5) (v := .tuple #[noEf, .iface 57 (.agg #[.iface ty x])]) (some 12) (fun o ho W hSw => ?y20) (by assumption) ?_
   case y20 => cases ho; simp [execOp, go_sem, Act.eval]
   simp only [Act.put, zzA, zzB, zzC]; refine hTk (i := 6) (v := noEf) (some 18) (fun o ho W hSw => ?y21) (by assumption) ?_
   case y21 => cases ho; simp [execOp, go_sem, Act.eval]
   simp only [Act.put, zzA, zzB, zzC]; refine hTk (i := 7) (v := .iface 57 (.agg #[.iface ty x])) (some 19) (fun o ho W hSw => ?y22) (by assumption) ?_
   case y22 => cases ho; simp [execOp, go_sem, Act.eval]
   simp only [Act.put, zzA, zzB, zzC]; refine hStep (i := 8) (v := .pointer (some ⟨w4.heap.size, 0, none⟩)) (w' := w4.alloc (.cells #[.slice none 0 0, .nilIface, .slice none 0 0] 86)) (some 8) (by kernel_rfl) (by kernel_rfl) (by kernel_rfl) (fun o ho => ?y23) (hB4.alloc hB4.size _) ?_
   case y23 => cases ho; simp [execOp, go_sem, Act.eval]
   simp only [Act.put, zzA, zzB, zzC]
   obtain ⟨w5, e5⟩ : ∃ w5, w5 = w4.alloc (.cells #[.slice none 0 0, .nilIface, .slice none 0 0] 86) := ⟨_, rfl⟩
   have hB5 : Below w3.heap.size w3 w5 := by rw [e5]; exact hB4.alloc hB4.size _
   have HX : Box3 w5 w4.heap.size (.slice none 0 0) .nilIface (.slice none 0 0) := Box3.of_block (by rw [e5]; exact heap_alloc_new _ _)
   obtain ⟨T, eT⟩ : ∃ T, T = w4.heap.size := ⟨_, rfl⟩
   have hT : w3.heap.size ≤ T := by rw [eT]; exact hB4.size
   have HQ : Hid (∀ V, (∀ k, k ≠ T → k ≠ w.heap.size + 1 + 1 → k < w5.heap.size → V.heap[k]? = w5.heap[k]?) → w5.heap.size ≤ V.heap.size → FoIn V w3.heap.size t.fo [.iface ty x]) := fun V h1 h2 => by
    have hs3 := HS3.out; refine hX V ⟨Nat.le_trans (by rw [e5]; simp) h2, fun k hk hl => ?_⟩; have hk' : w3.heap.size ≤ k := hk; rw [h1 k (by omega) (by omega) (by rw [e5]; simp; omega), e5, Go.heap_alloc_old _ _ hl]
   rw [← eT] at HX ⊢; rw [← e5]; clear hX eT e5; have hB6 : Below w3.heap.size w3 (wr3 w5 T (.slice none 0 0) .nilIface (.slice none 0 0)) := wr3_below hB5 hT; refine hStepS (i := 9) (w' := wr3 w5 T (.slice none 0 0) .nilIface (.slice none 0 0)) none (by kernel_rfl) (by kernel_rfl) (by kernel_rfl) (fun o ho => ?y9) hB6 ?_
   case y9 => cases ho; obtain ⟨b0, b1, b2, b3⟩ := HX; simp [execOp, go_sem, Act.eval, b0, b1, b2, b3]
   simp only [Act.put, zzA, zzB, zzC]; refine hTk (i := 10) (v := .iface 57 (.agg #[.iface ty x])) (some 9) (fun o ho W hSw => ?y24) (by assumption) ?_
   case y24 => cases ho; simp [execOp, go_sem, Act.eval]
   simp only [Act.put, zzA, zzB, zzC]; refine wpAnyH_done (by kernel_rfl) ?_ _
   change Exit.then _ _ _ _ (wr3 w5 T (.slice none 0 0) .nilIface (.slice none 0 0))
   obtain ⟨w6, e6⟩ : ∃ w6, w6 = wr3 w5 T (.slice none 0 0) .nilIface (.slice none 0 0) := ⟨_, rfl⟩
   rw [← e6] at hB6; rw [← e6]; have hB7 : Below w3.heap.size w3 (w6.alloc (.cells #[.nilIface] 57)) := hB6.alloc hB6.size _; have g7 := HG.out _ hB7; have hlT : T < w5.heap.size := World.block_lt_of_cell? _ _ HX.1
   have hs6 : w6.heap.size = w5.heap.size := by rw [e6]; simp
   have HBX : Box3 w6 T (.slice none 0 0) .nilIface (.slice none 0 0) := by rw [e6]; exact wr3_box HX _ _ _
   have hb67 : Below w6.heap.size w6 (w6.alloc (.cells #[.nilIface] 57)) := (Below.refl _ _).alloc (Nat.le_refl _) _
   obtain ⟨w7, e7⟩ : ∃ w7, w7 = w6.alloc (.cells #[.nilIface] 57) := ⟨_, rfl⟩
   rw [← e7] at hB7 hb67
   have HV : Hid (∀ V, (∀ k, k ≠ T → k ≠ w.heap.size + 1 + 1 → k < w6.heap.size → V.heap[k]? = w6.heap[k]?) → w6.heap.size ≤ V.heap.size → FoIn V w3.heap.size t.fo [.iface ty x]) := fun V h1 h2 => by
    refine HQ.out V (fun k a1 a3 a4 => ?_) (by omega); rw [h1 k a1 a3 (by omega), e6, wr3_heap a1]
   have hT7 : w7.heap[w6.heap.size]? = some (.cells #[.nilIface] 57 (0, 0)) := by rw [e7]; exact heap_alloc_new _ _
   have HA := as_hit w6.heap.size ty x .nilIface w7 (HET.out w7 hB7) hT7; have HB7 : Hid (Below w3.heap.size w3 w7) := hB7; have HB67 : Hid (Below w6.heap.size w6 w7) := hb67; have HBX6 : Hid (Box3 w6 T (.slice none 0 0) .nilIface (.slice none 0 0)) := HBX
   have HL6 : Hid (T < w6.heap.size ∧ w3.heap.size ≤ T ∧ w3.heap.size ≤ w6.heap.size) := ⟨by omega, hT, hB6.size⟩
   clear hB6 hB7 hB5 hT HX e6 HQ hlT hs6 HBX hb67 hT7; go_wp2_with fail; rw [← e7] at *; clear e7 g7; refine (is_errT _ a w7).mono ?_; rintro e w8 ⟨rfl, h8⟩; rw [h8]; clear h8; go_wp2_with fail; refine HA.mono ?_; rintro e w8 ⟨rfl, w8', hb8, hT8, rfl⟩
   obtain ⟨w8, e8⟩ : ∃ w8, w8 = w8'.setRow w6.heap.size #[.iface ty x] := ⟨_, rfl⟩
   have hl6 := HL6.out; have hs67 := HB67.out.size
   have hB8 : Below w3.heap.size w3 w8 := by rw [e8]; exact below_setRow (Below.on HB7.out hb8) hl6.2.2 _
   have c8 : w8.cell? ⟨w6.heap.size, 0, none⟩ = some (.iface ty x) := by rw [e8]; exact cell_of_row _ _ 0 _ _ _ (setRow_heap _ _ _ _ _ _ hT8)
   have q8 : ∀ k, k < w6.heap.size → w8.heap[k]? = w6.heap[k]? := fun k hk => by rw [e8, setRow_other _ _ _ _ (by omega), hb8.block k (by omega), HB67.out.block k hk]
   have hs8 : w6.heap.size ≤ w8.heap.size := by rw [e8]; have := hb8.size; simp [World.setRow]; omega
   rw [← e8]; have hf8 : FoIn w8 w3.heap.size t.fo [.iface ty x] := HV.out w8 (fun k _ _ hk => q8 k hk) hs8; have HFP := from_parts t s ar w3.heap.size (.iface ty x) w8 hB8.size hf8; rw [← HNM.out] at HFP; obtain ⟨s0, s1, -, -, -, -⟩ := HS.out w8 hB8; have HB8 : Hid (Below w3.heap.size w3 w8) := hB8; have HQ8 : Hid (∀ k, k < w6.heap.size → w8.heap[k]? = w6.heap[k]?) := q8; have HS8 : Hid (w6.heap.size ≤ w8.heap.size) := hs8; clear hb8 hT8 e8 hf8 q8 hs8 hB8 HA hl6 hs67; go_wp2_with fail; refine HFP.mono ?_; rintro e w9 ⟨fb, fg, it, ix, rfl, f1, f2, f3, f4, f5, f6, f7, f8, f9, hb9⟩; have hlT6 := HL6.out; have hsz8 := HS8.out; have hsz9 := hb9.size; have hB9 : Below w3.heap.size w3 w9 := Below.on HB8.out hb9; have hT9 : w9.heap[T]? = w6.heap[T]? := (hb9.block _ (by omega)).trans (HQ8.out _ (by omega))
   have HX9 : Box3 w9 T (.slice none 0 0) .nilIface (.slice none 0 0) := by
    obtain ⟨q0, q1, q2, q3⟩ := HBX6.out; exact ⟨(World.cell?_of_block (a := ⟨_, 0, none⟩) hT9).trans q0, (World.cell?_of_block (a := ⟨_, 1, none⟩) hT9).trans q1, (World.cell?_of_block (a := ⟨_, 2, none⟩) hT9).trans q2, fun j => (World.frozen?_of_block (a := ⟨_, j, none⟩) hT9).trans (q3 j)⟩
   obtain ⟨w10, e10⟩ : ∃ w10, w10 = wr3 w9 T (.slice none 0 0) (.iface 163 (.pointer (some ⟨fb, 0, none⟩))) (.slice none 0 0) := ⟨_, rfl⟩
   have hB10 : Below w3.heap.size w3 w10 := by rw [e10]; exact wr3_below hB9 hlT6.2.1
   have hZ10 : Box3 w10 T (.slice none 0 0) (.iface 163 (.pointer (some ⟨fb, 0, none⟩))) (.slice none 0 0) := by rw [e10]; exact wr3_box HX9 _ _ _
   have hs10 : w10.heap.size = w9.heap.size := by rw [e10]; simp
   have q10 : ∀ k, k ≠ T → w10.heap[k]? = w9.heap[k]? := fun k hk => by rw [e10]; exact wr3_heap hk
   have HF : Hid (∀ V, (∀ k, k ≠ w.heap.size + 1 + 1 → k < w10.heap.size → V.heap[k]? = w10.heap[k]?) → w10.heap.size ≤ V.heap.size → FoIn V 0 (errT t s ar).fo [.iface 163 (.pointer (some ⟨fb, 0, none⟩))]) := fun V h1 h2 => by
    have hs3 := HS3.out
    have kk : ∀ k, k ≠ T → k ≠ w.heap.size + 1 + 1 → k < w9.heap.size → V.heap[k]? = w9.heap[k]? := fun k a1 a2 a3 => (h1 k a2 (by omega)).trans (q10 k a1)
    have cc : ∀ k o, w8.heap.size ≤ k → k < w9.heap.size → V.cell? ⟨k, o, none⟩ = w9.cell? ⟨k, o, none⟩ := fun k o a1 a2 => World.cell?_of_block (a := ⟨k, o, none⟩) (kk k (by omega) (by omega) a2)
    refine comp_in (g := fg) (vs := [.iface ty x, .iface it ix]) (Nat.zero_le _) (Nat.zero_le _) ((cc _ _ f1 f3).trans f5) ((cc _ _ f1 f3).trans f6) (by omega) (fun i hi => ?_) ?_
    ·rcases (by simp at hi; omega : i = 0 ∨ i = 1) with rfl | rfl
     ·exact (cc _ _ f2 f4).trans f7
     ·exact (cc _ _ f2 f4).trans f8
    ·have hft := HV.out V (fun k a1 a2 a3 => ((kk k a1 a2 (by omega)).trans (hb9.block k (by omega))).trans (HQ8.out k a3)) (by omega)
     obtain ⟨_, _, e, hn, hr⟩ := hft.mono (Nat.zero_le _)
     cases e
     exact ⟨_, _, rfl, hn, FoIn.imp (Nat.zero_le _) (fun b o hb hl => cc b o hb hl) (by omega) _ _ f9⟩
   have HYC := HHY.out _ w10 (HF.out w10 (fun _ _ _ => rfl) (Nat.le_refl _)); have g10 := HG2.out _ hB10; have HB10 : Hid (Below w3.heap.size w3 w10) := hB10
   have HZ : Hid (∀ W, Below w10.heap.size w10 W → Box3 W T (.slice none 0 0) (.iface 163 (.pointer (some ⟨fb, 0, none⟩))) (.slice none 0 0)) := fun W hW => hZ10.below hW (World.block_lt_of_cell? _ _ hZ10.1)
   obtain ⟨z0, z1, z2, z3⟩ := hZ10; obtain ⟨x0, x1, x2, x3⟩ := HX9; rw [e10] at g10; clear f1 f2 f3 f4 f5 f6 f7 f8 f9 hb9 hlT6 hsz8 hsz9 hB9 hT9 hB10 hs10 q10 s0 s1 c8 HFP z0 z1 z2 z3; go_wp2_with fail
   change Calls _ _ _ (wr3 w9 T (.slice none 0 0) (.iface 163 (.pointer (some ⟨fb, 0, none⟩))) (.slice none 0 0)) _
   rw [← e10]; clear e10 g10 x0 x1 x2 x3; refine (is_errT _ a2 w10).mono ?_; rintro e w11 ⟨rfl, h11⟩; rw [h11]; clear h11; obtain ⟨z0, z1, z2, z3⟩ := HZ.out w10 (Below.refl _ _); go_wp2_with fail; refine HYC.mono ?_; rintro e w11 ⟨rfl, hb11⟩; have hB11 : Below w3.heap.size w3 w11 := Below.on HB10.out hb11; have HX11 := Box3.of_block (HK3.out _ hB11); have HP : Hid _ := wr3_box HX11 (.slice none 0 0) (.iface 163 (.pointer (some ⟨fb, 0, none⟩))) (.slice none 0 0)
   have FIN : Hid (FoIn (wr3 w11 (w.heap.size + 1 + 1) (.slice none 0 0) (.iface 163 (.pointer (some ⟨fb, 0, none⟩))) (.slice none 0 0)) 0 (errT t s ar).fo [.iface 163 (.pointer (some ⟨fb, 0, none⟩))] ∧ Below w.heap.size w (wr3 w11 (w.heap.size + 1 + 1) (.slice none 0 0) (.iface 163 (.pointer (some ⟨fb, 0, none⟩))) (.slice none 0 0))) :=
    ⟨HF.out _ (fun k h1 h2 => (wr3_heap h1).trans (hb11.block k h2)) (by simpa using hb11.size), wr3_below (Below.on HB3.out hB11) (by omega)⟩
   obtain ⟨b0, b1, b2, b3⟩ := HX11; obtain ⟨y0, y1, y2, y3⟩ := HZ.out w11 hb11; clear z0 z1 z2 z3 hb11 hB11 HYC
   go_wp2
   obtain ⟨d0, d1, d2, _⟩ := HP.out; exact bodyPost_ret (v := .tuple #[.agg #[.slice none 0 0, .iface 163 (.pointer (some ⟨fb, 0, none⟩)), .slice none 0 0], .int .i64 6]) (by simp [results, Tryz.results32, go_sem, d0, d1, d2]) rfl ⟨_, rfl, FIN.out⟩
 case zB =>
  obtain ⟨w4, e4⟩ : ∃ w4, w4 = w3.drew.alloc (.cells #[.slice none 0 0, .nilIface, .slice none 0 0] 86) := ⟨_, rfl⟩
  have hB4 : Below w3.heap.size w3 w4 := by rw [e4]; exact ((Below.refl _ _).drew).alloc (Nat.le_refl _) _
  have HX4 : Box3 w4 w3.heap.size (.slice none 0 0) .nilIface (.slice none 0 0) := Box3.of_block (by rw [e4]; exact heap_alloc_new _ _)
  have hl4 : w3.heap.size < w4.heap.size := by rw [e4]; simp
  refine opStep (v := .pointer (some ⟨w3.heap.size, 0, none⟩)) (w' := w4) (some 8) (by kernel_rfl) (by kernel_rfl) (fun o ho => ?y8) ⟨hB4, ?_⟩
  case y8 =>
   cases ho
   rw [e4]
   simp [execOp, go_sem, Act.eval]
  simp only [Act.put, zzA, zzB, zzC]; refine hCallE (i := 4) (f := K) (args := #[.agg #[c0, c1, c2]]) (some 17) (by kernel_rfl) (by kernel_rfl) (by kernel_rfl) (fun o ho => ?c60) (HC.out w4 hB4) ?k60 (fun ch w' h => by obtain ⟨_, _, h, _⟩ := h; cases h) (fun w' h => by obtain ⟨_, _, h, _⟩ := h; cases h)
  case c60 => cases ho; simp [execOp, go_sem, Act.eval, hE]
  case k60 =>
   rintro u w5 ⟨ty, x, hu, hb5, hf⟩
   have hX : ∀ V, KeepF w4.heap.size w5 V → FoIn V w3.heap.size t.fo [.iface ty x] := fun V hV => FoIn.imp (Nat.le_of_lt hl4) (fun b o hb hl => World.cell?_of_block (a := ⟨b, o, none⟩) (hV.2 b hb hl)) hV.1 _ _ hf
   clear hf; obtain rfl := Ending.returned.inj hu; have hB5 : Below w3.heap.size w3 w5 := Below.on hB4 hb5; have HX := HX4.below hb5 hl4; have hT : w3.heap.size ≤ w3.heap.size := Nat.le_refl _
   have HQ : Hid (∀ V, (∀ k, k ≠ w3.heap.size → k ≠ w.heap.size + 1 + 1 → k < w5.heap.size → V.heap[k]? = w5.heap[k]?) → w5.heap.size ≤ V.heap.size → FoIn V w3.heap.size t.fo [.iface ty x]) := fun V h1 h2 => by
    have hs3 := HS3.out; exact hX V ⟨h2, fun k hk hl => h1 k (by omega) (by omega) hl⟩
   clear hb5 hB4 HX4 hl4 e4 hX; refine ⟨hB5, ?_⟩; simp only [Act.put, zzA, zzB, zzC]; refine hTk (i := 5) (v := .tuple #[noEf, .iface 57 (.agg #[.iface ty x])]) (some 12) (fun o ho W hSw => ?y61) (by assumption) ?_
   case y61 => cases ho; simp [execOp, go_sem, Act.eval]
   simp only [Act.put, zzA, zzB, zzC]; refine hTk (i := 6) (v := noEf) (some 18) (fun o ho W hSw => ?y62) (by assumption) ?_
   case y62 => cases ho; simp [execOp, go_sem, Act.eval]
   simp only [Act.put, zzA, zzB, zzC]; refine hTk (i := 7) (v := .iface 57 (.agg #[.iface ty x])) (some 19) (fun o ho W hSw => ?y63) (by assumption) ?_
   case y63 => cases ho; simp [execOp, go_sem, Act.eval]
   simp only [Act.put, zzA, zzB, zzC]; have hB6 : Below w3.heap.size w3 (wr3 w5 w3.heap.size (.slice none 0 0) .nilIface (.slice none 0 0)) := wr3_below hB5 hT; refine hStepS (i := 9) (w' := wr3 w5 w3.heap.size (.slice none 0 0) .nilIface (.slice none 0 0)) none (by kernel_rfl) (by kernel_rfl) (by kernel_rfl) (fun o ho => ?y9) hB6 ?_
   case y9 => cases ho; obtain ⟨b0, b1, b2, b3⟩ := HX; simp [execOp, go_sem, Act.eval, b0, b1, b2, b3]
   simp only [Act.put, zzA, zzB, zzC]; refine hTk (i := 10) (v := .iface 57 (.agg #[.iface ty x])) (some 9) (fun o ho W hSw => ?y64) (by assumption) ?_
   case y64 => cases ho; simp [execOp, go_sem, Act.eval]
   simp only [Act.put, zzA, zzB, zzC]; refine wpAnyH_done (by kernel_rfl) ?_ _
   change Exit.then _ _ _ _ (wr3 w5 w3.heap.size (.slice none 0 0) .nilIface (.slice none 0 0))
   obtain ⟨w6, e6⟩ : ∃ w6, w6 = wr3 w5 w3.heap.size (.slice none 0 0) .nilIface (.slice none 0 0) := ⟨_, rfl⟩
   rw [← e6] at hB6; rw [← e6]; have hB7 : Below w3.heap.size w3 (w6.alloc (.cells #[.nilIface] 57)) := hB6.alloc hB6.size _; have g7 := HG.out _ hB7; have hlT : w3.heap.size < w5.heap.size := World.block_lt_of_cell? _ _ HX.1
   have hs6 : w6.heap.size = w5.heap.size := by rw [e6]; simp
   have HBX : Box3 w6 w3.heap.size (.slice none 0 0) .nilIface (.slice none 0 0) := by rw [e6]; exact wr3_box HX _ _ _
   have hb67 : Below w6.heap.size w6 (w6.alloc (.cells #[.nilIface] 57)) := (Below.refl _ _).alloc (Nat.le_refl _) _
   obtain ⟨w7, e7⟩ : ∃ w7, w7 = w6.alloc (.cells #[.nilIface] 57) := ⟨_, rfl⟩
   rw [← e7] at hB7 hb67
   have HV : Hid (∀ V, (∀ k, k ≠ w3.heap.size → k ≠ w.heap.size + 1 + 1 → k < w6.heap.size → V.heap[k]? = w6.heap[k]?) → w6.heap.size ≤ V.heap.size → FoIn V w3.heap.size t.fo [.iface ty x]) := fun V h1 h2 => by
    refine HQ.out V (fun k a1 a3 a4 => ?_) (by omega); rw [h1 k a1 a3 (by omega), e6, wr3_heap a1]
   have hT7 : w7.heap[w6.heap.size]? = some (.cells #[.nilIface] 57 (0, 0)) := by rw [e7]; exact heap_alloc_new _ _
   have HA := as_hit w6.heap.size ty x .nilIface w7 (HET.out w7 hB7) hT7; have HB7 : Hid (Below w3.heap.size w3 w7) := hB7; have HB67 : Hid (Below w6.heap.size w6 w7) := hb67; have HBX6 : Hid (Box3 w6 w3.heap.size (.slice none 0 0) .nilIface (.slice none 0 0)) := HBX
   have HL6 : Hid (w3.heap.size < w6.heap.size ∧ w3.heap.size ≤ w3.heap.size ∧ w3.heap.size ≤ w6.heap.size) := ⟨by omega, hT, hB6.size⟩
   clear hB6 hB7 hB5 hT HX e6 HQ hlT hs6 HBX hb67 hT7; go_wp2_with fail; rw [← e7] at *; clear e7 g7; refine (is_errT _ a w7).mono ?_; rintro e w8 ⟨rfl, h8⟩; rw [h8]; clear h8; go_wp2_with fail; refine HA.mono ?_; rintro e w8 ⟨rfl, w8', hb8, hT8, rfl⟩
   obtain ⟨w8, e8⟩ : ∃ w8, w8 = w8'.setRow w6.heap.size #[.iface ty x] := ⟨_, rfl⟩
   have hl6 := HL6.out; have hs67 := HB67.out.size
   have hB8 : Below w3.heap.size w3 w8 := by rw [e8]; exact below_setRow (Below.on HB7.out hb8) hl6.2.2 _
   have c8 : w8.cell? ⟨w6.heap.size, 0, none⟩ = some (.iface ty x) := by rw [e8]; exact cell_of_row _ _ 0 _ _ _ (setRow_heap _ _ _ _ _ _ hT8)
   have q8 : ∀ k, k < w6.heap.size → w8.heap[k]? = w6.heap[k]? := fun k hk => by rw [e8, setRow_other _ _ _ _ (by omega), hb8.block k (by omega), HB67.out.block k hk]
   have hs8 : w6.heap.size ≤ w8.heap.size := by rw [e8]; have := hb8.size; simp [World.setRow]; omega
   rw [← e8]; have hf8 : FoIn w8 w3.heap.size t.fo [.iface ty x] := HV.out w8 (fun k _ _ hk => q8 k hk) hs8; have HFP := from_parts t s ar w3.heap.size (.iface ty x) w8 hB8.size hf8; rw [← HNM.out] at HFP; obtain ⟨s0, s1, -, -, -, -⟩ := HS.out w8 hB8; have HB8 : Hid (Below w3.heap.size w3 w8) := hB8; have HQ8 : Hid (∀ k, k < w6.heap.size → w8.heap[k]? = w6.heap[k]?) := q8; have HS8 : Hid (w6.heap.size ≤ w8.heap.size) := hs8; clear hb8 hT8 e8 hf8 q8 hs8 hB8 HA hl6 hs67; go_wp2_with fail; refine HFP.mono ?_; rintro e w9 ⟨fb, fg, it, ix, rfl, f1, f2, f3, f4, f5, f6, f7, f8, f9, hb9⟩; have hlT6 := HL6.out; have hsz8 := HS8.out; have hsz9 := hb9.size; have hB9 : Below w3.heap.size w3 w9 := Below.on HB8.out hb9; have hT9 : w9.heap[w3.heap.size]? = w6.heap[w3.heap.size]? := (hb9.block _ (by omega)).trans (HQ8.out _ (by omega))
   have HX9 : Box3 w9 w3.heap.size (.slice none 0 0) .nilIface (.slice none 0 0) := by
    obtain ⟨q0, q1, q2, q3⟩ := HBX6.out; exact ⟨(World.cell?_of_block (a := ⟨_, 0, none⟩) hT9).trans q0, (World.cell?_of_block (a := ⟨_, 1, none⟩) hT9).trans q1, (World.cell?_of_block (a := ⟨_, 2, none⟩) hT9).trans q2, fun j => (World.frozen?_of_block (a := ⟨_, j, none⟩) hT9).trans (q3 j)⟩
   obtain ⟨w10, e10⟩ : ∃ w10, w10 = wr3 w9 w3.heap.size (.slice none 0 0) (.iface 163 (.pointer (some ⟨fb, 0, none⟩))) (.slice none 0 0) := ⟨_, rfl⟩
   have hB10 : Below w3.heap.size w3 w10 := by rw [e10]; exact wr3_below hB9 hlT6.2.1
   have hZ10 : Box3 w10 w3.heap.size (.slice none 0 0) (.iface 163 (.pointer (some ⟨fb, 0, none⟩))) (.slice none 0 0) := by rw [e10]; exact wr3_box HX9 _ _ _
   have hs10 : w10.heap.size = w9.heap.size := by rw [e10]; simp
   have q10 : ∀ k, k ≠ w3.heap.size → w10.heap[k]? = w9.heap[k]? := fun k hk => by rw [e10]; exact wr3_heap hk
   have HF : Hid (∀ V, (∀ k, k ≠ w.heap.size + 1 + 1 → k < w10.heap.size → V.heap[k]? = w10.heap[k]?) → w10.heap.size ≤ V.heap.size → FoIn V 0 (errT t s ar).fo [.iface 163 (.pointer (some ⟨fb, 0, none⟩))]) := fun V h1 h2 => by
    have hs3 := HS3.out
    have kk : ∀ k, k ≠ w3.heap.size → k ≠ w.heap.size + 1 + 1 → k < w9.heap.size → V.heap[k]? = w9.heap[k]? := fun k a1 a2 a3 => (h1 k a2 (by omega)).trans (q10 k a1)
    have cc : ∀ k o, w8.heap.size ≤ k → k < w9.heap.size → V.cell? ⟨k, o, none⟩ = w9.cell? ⟨k, o, none⟩ := fun k o a1 a2 => World.cell?_of_block (a := ⟨k, o, none⟩) (kk k (by omega) (by omega) a2)
    refine comp_in (g := fg) (vs := [.iface ty x, .iface it ix]) (Nat.zero_le _) (Nat.zero_le _) ((cc _ _ f1 f3).trans f5) ((cc _ _ f1 f3).trans f6) (by omega) (fun i hi => ?_) ?_
    ·rcases (by simp at hi; omega : i = 0 ∨ i = 1) with rfl | rfl
     ·exact (cc _ _ f2 f4).trans f7
     ·exact (cc _ _ f2 f4).trans f8
    ·have hft := HV.out V (fun k a1 a2 a3 => ((kk k a1 a2 (by omega)).trans (hb9.block k (by omega))).trans (HQ8.out k a3)) (by omega)
     obtain ⟨_, _, e, hn, hr⟩ := hft.mono (Nat.zero_le _)
     cases e
     exact ⟨_, _, rfl, hn, FoIn.imp (Nat.zero_le _) (fun b o hb hl => cc b o hb hl) (by omega) _ _ f9⟩
   have HYC := HHY.out _ w10 (HF.out w10 (fun _ _ _ => rfl) (Nat.le_refl _)); have g10 := HG2.out _ hB10; have HB10 : Hid (Below w3.heap.size w3 w10) := hB10
   have HZ : Hid (∀ W, Below w10.heap.size w10 W → Box3 W w3.heap.size (.slice none 0 0) (.iface 163 (.pointer (some ⟨fb, 0, none⟩))) (.slice none 0 0)) := fun W hW => hZ10.below hW (World.block_lt_of_cell? _ _ hZ10.1)
   obtain ⟨z0, z1, z2, z3⟩ := hZ10; obtain ⟨x0, x1, x2, x3⟩ := HX9; rw [e10] at g10; clear f1 f2 f3 f4 f5 f6 f7 f8 f9 hb9 hlT6 hsz8 hsz9 hB9 hT9 hB10 hs10 q10 s0 s1 c8 HFP z0 z1 z2 z3; go_wp2_with fail
   change Calls _ _ _ (wr3 w9 w3.heap.size (.slice none 0 0) (.iface 163 (.pointer (some ⟨fb, 0, none⟩))) (.slice none 0 0)) _
   rw [← e10]; clear e10 g10 x0 x1 x2 x3; refine (is_errT _ a2 w10).mono ?_; rintro e w11 ⟨rfl, h11⟩; rw [h11]; clear h11; obtain ⟨z0, z1, z2, z3⟩ := HZ.out w10 (Below.refl _ _); go_wp2_with fail; refine HYC.mono ?_; rintro e w11 ⟨rfl, hb11⟩; have hB11 : Below w3.heap.size w3 w11 := Below.on HB10.out hb11; have HX11 := Box3.of_block (HK3.out _ hB11); have HP : Hid _ := wr3_box HX11 (.slice none 0 0) (.iface 163 (.pointer (some ⟨fb, 0, none⟩))) (.slice none 0 0)
   have FIN : Hid (FoIn (wr3 w11 (w.heap.size + 1 + 1) (.slice none 0 0) (.iface 163 (.pointer (some ⟨fb, 0, none⟩))) (.slice none 0 0)) 0 (errT t s ar).fo [.iface 163 (.pointer (some ⟨fb, 0, none⟩))] ∧ Below w.heap.size w (wr3 w11 (w.heap.size + 1 + 1) (.slice none 0 0) (.iface 163 (.pointer (some ⟨fb, 0, none⟩))) (.slice none 0 0))) :=
    ⟨HF.out _ (fun k h1 h2 => (wr3_heap h1).trans (hb11.block k h2)) (by simpa using hb11.size), wr3_below (Below.on HB3.out hB11) (by omega)⟩
   obtain ⟨b0, b1, b2, b3⟩ := HX11; obtain ⟨y0, y1, y2, y3⟩ := HZ.out w11 hb11; clear z0 z1 z2 z3 hb11 hB11 HYC
   go_wp2
   obtain ⟨d0, d1, d2, _⟩ := HP.out; exact bodyPost_ret (v := .tuple #[.agg #[.slice none 0 0, .iface 163 (.pointer (some ⟨fb, 0, none⟩)), .slice none 0 0], .int .i64 6]) (by simp [results, Tryz.results32, go_sem, d0, d1, d2]) rfl ⟨_, rfl, FIN.out⟩
end Go.Proofs.YtkklidpnkofipaaGreatDoor
