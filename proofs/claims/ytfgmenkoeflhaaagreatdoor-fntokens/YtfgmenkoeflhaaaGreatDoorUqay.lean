/- Texts of WtX, WtY, OpsV4. Own work of the verifier. -/
import Derived.Test.YtfgmenkoeflhaaaGreatDoorUqax
import Derived.Test.YtfgmenkoeflhaaaGreatDoorUqaw
namespace Go.Proofs.YtfgmenkoeflhaaaGreatDoor
set_option linter.unusedVariables false
section
open Go Go.RowKit
set_option linter.unusedSimpArgs false
theorem cells3b (w : World) (a b c : Value) (t : TypeId) : (w.alloc (.cells #[a, b, c] t)).cell? ⟨w.heap.size, 0, none⟩ = some a ∧ (w.alloc (.cells #[a, b, c] t)).cell? ⟨w.heap.size, 1, none⟩ = some b ∧ (w.alloc (.cells #[a, b, c] t)).cell? ⟨w.heap.size, 2, none⟩ = some c := by
 have hnew := heap_alloc_new w (.cells #[a, b, c] t)
 refine ⟨?_, ?_, ?_⟩ <;> (simp only [World.cell?]; rw [hnew]; rfl)
set_option maxRecDepth 100000 in
set_option maxHeartbeats 4000000 in
theorem text_var {W0 : World} {ob : Nat} {po : Option Addr} {co : Nat} {T : List Cel} {pn : Option Addr} {cn : Nat} {N : List (List Int)} {q : Bool} (hE : WEnv W0 ob po co T pn cn N q) (t : Tr) (pr : Int) (tq : Option Addr) (n c : Nat) (w : World) (hw : Below W0.heap.size W0 w) (ht : t.fo.ok) (hl : (itC t).length ≤ 2000) (hin : TW W0 tq n c t) (hk : t.1.1 = 0) :
 Calls Tryz.prog 56 #[.pointer (some ⟨ob, 0, none⟩), .slice tq n c, .int .i64 pr] w (StrO (varW N t.1.2.1) w) := by
 have hn0 : 0 < n := by rw [hin.1]; simp [itC]
 have hn0i : (0 : Int) < (n : Int) := by omega
 have hn1 : n = t.2.cells.length + 1 := by rw [hin.1]; simp [itC]
 have hcb := ht.1; simp only [cellB, decide_eq_true_eq] at hcb; obtain ⟨b, oo, rfl, hcs⟩ := (hin.below hw).2.2.2 (by simp [itC]); obtain ⟨tp, tc, d0, d1, d2, d3⟩ := hcs 0 (by simp [itC]); simp only [itC, List.getD_cons_zero, Nat.zero_mul, Nat.add_zero] at d0 d1 d2 d3
 obtain ⟨wa, ewa⟩ : ∃ wa, wa = w.alloc (.cells #[.int .i64 t.1.1, .int .i64 t.1.2.1, .slice tp t.1.2.2.length tc] 78) := ⟨_, rfl⟩
 have HWA : Hid (Below w.heap.size w wa) := by rw [ewa]; exact (Below.refl _ _).alloc (Nat.le_refl _) _
 have HW0 : Hid (Below W0.heap.size W0 w) := hw
 have hv : t.1.2.1.natAbs < 10 ^ 16 := by have : (10 : Nat) ^ 16 = 10000000000000000 := by decide
                                          omega
 have HVW : Hid (varW N t.1.2.1 = if t.1.2.1 < N.length ∧ 0 < (N.getD t.1.2.1.toNat []).length then N.getD t.1.2.1.toNat [] else 95 :: decF (16 + 1) t.1.2.1) := by show _ = _; unfold varW; rw [decW_eq hv]
 obtain ⟨k, ek⟩ : ∃ k : Nat, t.1.2.1 = (k : Int) := ⟨t.1.2.1.toNat, by omega⟩
 have HD : Hid (∀ W, Calls Tryz.prog 82 #[.int .i64 (k : Int)] W fun e w' => e = .returned (.string (strOfNums (decF (16 + 1) (k : Int)))) ∧ Below W.heap.size W w') := fun W => by rw [← ek]; exact l3dec_any 16 t.1.2.1 W hv (by decide)
 have hkb : k ≤ 1000000 := by omega
 rw [ek] at HVW; simp only [Int.toNat_natCast] at HVW
 have HC1 : Hid (∀ W, Below wa.heap.size wa W → W.cell? ⟨w.heap.size, 1, none⟩ = some (.int .i64 (k : Int)) ∧ W.cell? ⟨ob, 1, none⟩ = some (.slice pn N.length cn)) := fun W hW => by
  have h1 : wa.cell? ⟨w.heap.size, 1, none⟩ = some (.int .i64 (k : Int)) := by rw [ewa, ← ek]; exact (cells3b w _ _ _ _).2.1
  have h2 := (hE.below (Below.on (Below.on hw HWA.out) hW)).c1; exact ⟨(hW.cell (World.block_lt_of_cell? _ _ h1)).trans h1, h2⟩
 have HNR : Hid (k < N.length → ∃ nb no nq nc, pn = some ⟨nb, no, none⟩ ∧ BIn W0 nq (N.getD k []) ∧ ∀ W, Below wa.heap.size wa W → W.cell? ⟨nb, no + k, none⟩ = some (.slice nq (N.getD k []).length nc)) := fun h => by
  obtain ⟨nb, no, e, hn⟩ := hE.names (by omega); obtain ⟨nq, nc, h1, h2⟩ := hn k h; exact ⟨nb, no, nq, nc, e, h2, fun W hW => by have h9 := Below.on (Below.on hw HWA.out) hW; exact (h9.cell (World.block_lt_of_cell? _ _ h1)).trans h1⟩
 have HNB : Hid (k < N.length → Byte (N.getD k []) ∧ (N.getD k []).length ≤ 1048576) := fun h => hE.nb k h
 have hNl := hE.nlen
 obtain ⟨VW, eVW⟩ : ∃ x, x = varW N t.1.2.1 := ⟨_, rfl⟩
 have HVE : Hid (VW = if (k : Int) < N.length ∧ 0 < (N.getD k []).length then N.getD k [] else 95 :: decF (16 + 1) (k : Int)) := by show _ = _; rw [eVW, ek, HVW.out]
 rw [← eVW]
 obtain ⟨NL, eNL⟩ : ∃ x, x = N.length := ⟨_, rfl⟩
 rw [← eNL] at HVE HNR HNB hNl HC1
 have HDN : Hid (decF (16 + 1) (k : Int) = decF (16 + 1) (k : Int) ∧ (decF (16 + 1) (k : Int)).length ≤ 18) := ⟨rfl, dec_len _ _⟩
 obtain ⟨sd, esd⟩ : ∃ s, s = strOfNums (decF (16 + 1) (k : Int)) := ⟨_, rfl⟩
 have hsd : sd.size ≤ 18 := by rw [esd, strOfNums_size]; exact HDN.out.2
 have HUN : Hid ((⟨#[95]⟩ : ByteArray) ++ sd = strOfNums (95 :: decF (16 + 1) (k : Int))) := by
  have h1 : (⟨#[95]⟩ : ByteArray) = strOfNums [95] := rfl
  show _ = _
  rw [h1, esd, str_app]; rfl
 rw [← esd] at HD
 obtain ⟨l, el⟩ : ∃ x, x = t.1.2.2.length := ⟨_, rfl⟩
 rw [hk, ek, ← el] at ewa; rw [hk] at d0; rw [ek] at d1; rw [← el] at d2; have HWB : Hid (Below W0.heap.size W0 wa) := Below.on hw HWA.out; clear hcs hin hE ht hl hcb hw d3 el hk hn1 hv HVW eVW eNL esd HDN ek; obtain ⟨n1, n2⟩ := HC1.out wa (Below.refl _ _)
 have HDR : Hid (Below wa.heap.size wa wa.drew) := ⟨rfl, rfl, rfl, Nat.le_refl _, fun _ _ => rfl⟩
 have HDD : Hid (Below wa.heap.size wa wa.drew.drew) := ⟨rfl, rfl, rfl, Nat.le_refl _, fun _ _ => rfl⟩
 have hk0 : (0 : Int) ≤ (k : Int) := by omega
 by_cases hin : k < NL
 ·have hlt : (k : Int) < (NL : Int) := by omega
  obtain ⟨nb, no, nq, nc, hpn, hbn, hrow⟩ := HNR.out hin; subst hpn; have n3 := hrow wa (Below.refl _ _)
  obtain ⟨nn, enn⟩ : ∃ x, x = N.getD k [] := ⟨_, rfl⟩
  rw [← enn] at n3 hbn HVE
  obtain ⟨nl, enl⟩ : ∃ x, x = nn.length := ⟨_, rfl⟩
  have hnl : nl ≤ 1048576 := by rw [enl, enn]; exact (HNB.out hin).2
  have HCV : Hid (∀ W, Below wa.heap.size wa W → (convert 22 9 (.slice nq nl nc)).run Tryz.prog W = .ok (.string (strOfNums nn)) W) := fun W hW => conv_str (hbn.below (Below.on HWB.out hW)) nl nc enl 9 Tryz.underlying9
  rw [← enl] at n3 HVE
  by_cases hp : 0 < nl
  ·have HV : Hid (VW = nn) := by show _ = _; rw [HVE.out, if_pos ⟨hlt, hp⟩]
   have hpos : (0 : Int) < (nl : Int) := by omega
   obtain ⟨s, es⟩ : ∃ s, s = strOfNums nn := ⟨_, rfl⟩
   have HES : Hid (s = strOfNums nn) := es; rw [← es] at HCV; clear es enn enl hbn hrow hin
   go_enter Tryz.func56, Tryz.ntmps56
   go_wp2_with fail; rw [← ewa]; refine wp_region_held_drew (S := (fun W => W.cell? ⟨w.heap.size, 1, none⟩ = some (.int .i64 (k : Int)) ∧ W.cell? ⟨ob, 1, none⟩ = some (.slice (some ⟨nb, no, none⟩) NL cn) ∧ W.cell? ⟨nb, no + k, none⟩ = some (.slice nq nl nc))) (by kernel_rfl) ⟨n1, n2, n3⟩ (fun hHeld => ?_); refine hTk (i := 0) (v := .pointer (some ⟨w.heap.size, 1, none⟩)) (some 18) (fun o ho W hSw => ?z1) (hHeld) ?_
   case z1 => cases ho; simp [execOp, go_sem, Act.eval]
   simp only [Act.put, zzA, zzB, zzC]; refine hTk (i := 1) (v := .int .i64 (k : Int)) (some 19) (fun o ho W hSw => ?z2) (hHeld) ?_
   case z2 => cases ho; obtain ⟨s0, s1, s2⟩ := hSw; simp [execOp, go_sem, Act.eval, s0]
   simp only [Act.put, zzA, zzB, zzC]; refine hTk (i := 2) (v := .pointer (some ⟨ob, 0, none⟩)) (some 20) (fun o ho W hSw => ?z3) (hHeld) ?_
   case z3 => cases ho; simp [execOp, go_sem, Act.eval]
   simp only [Act.put, zzA, zzB, zzC]; refine hTk (i := 3) (v := .pointer (some ⟨ob, 0, none⟩)) (some 21) (fun o ho W hSw => ?z4) (hHeld) ?_
   case z4 => cases ho; simp [execOp, go_sem, Act.eval]
   simp only [Act.put, zzA, zzB, zzC]; refine hTk (i := 4) (v := .pointer (some ⟨ob, 1, none⟩)) (some 22) (fun o ho W hSw => ?z5) (hHeld) ?_
   case z5 => cases ho; simp [execOp, go_sem, Act.eval]
   simp only [Act.put, zzA, zzB, zzC]; refine hTk (i := 5) (v := .slice (some ⟨nb, no, none⟩) NL cn) (some 23) (fun o ho W hSw => ?z6) (hHeld) ?_
   case z6 => cases ho; obtain ⟨s0, s1, s2⟩ := hSw; simp [execOp, go_sem, Act.eval, s1]
   simp only [Act.put, zzA, zzB, zzC]; refine hTk (i := 6) (v := .int .i64 (NL : Int)) (some 24) (fun o ho W hSw => ?z7) (hHeld) ?_
   case z7 => cases ho; simp [execOp, go_sem, Act.eval]
   simp only [Act.put, zzA, zzB, zzC]; refine hTk (i := 7) (v := .bool true) (some 25) (fun o ho W hSw => ?z8) (hHeld) ?_
   case z8 => cases ho; simp [execOp, go_sem, Act.eval, hlt]
   simp only [Act.put, zzA, zzB, zzC]; refine hTk (i := 8) (v := .bool true) (some 26) (fun o ho W hSw => ?z9) (hHeld) ?_
   case z9 => cases ho; simp [execOp, go_sem, Act.eval]
   simp only [Act.put, zzA, zzB, zzC]; refine hTk (i := 9) (v := .pointer (some ⟨ob, 0, none⟩)) (some 27) (fun o ho W hSw => ?z10) (hHeld) ?_
   case z10 => cases ho; simp [execOp, go_sem, Act.eval]
   simp only [Act.put, zzA, zzB, zzC]; refine hTk (i := 10) (v := .pointer (some ⟨ob, 0, none⟩)) (some 28) (fun o ho W hSw => ?z11) (hHeld) ?_
   case z11 => cases ho; simp [execOp, go_sem, Act.eval]
   simp only [Act.put, zzA, zzB, zzC]; refine hTk (i := 11) (v := .pointer (some ⟨ob, 1, none⟩)) (some 29) (fun o ho W hSw => ?z12) (hHeld) ?_
   case z12 => cases ho; simp [execOp, go_sem, Act.eval]
   simp only [Act.put, zzA, zzB, zzC]; refine hTk (i := 12) (v := .slice (some ⟨nb, no, none⟩) NL cn) (some 30) (fun o ho W hSw => ?z13) (hHeld) ?_
   case z13 => cases ho; obtain ⟨s0, s1, s2⟩ := hSw; simp [execOp, go_sem, Act.eval, s1]
   simp only [Act.put, zzA, zzB, zzC]; refine hTk (i := 13) (v := .pointer (some ⟨w.heap.size, 1, none⟩)) (some 31) (fun o ho W hSw => ?z14) (hHeld) ?_
   case z14 => cases ho; simp [execOp, go_sem, Act.eval]
   simp only [Act.put, zzA, zzB, zzC]; refine hTk (i := 14) (v := .int .i64 (k : Int)) (some 32) (fun o ho W hSw => ?z15) (hHeld) ?_
   case z15 => cases ho; obtain ⟨s0, s1, s2⟩ := hSw; simp [execOp, go_sem, Act.eval, s0]
   simp only [Act.put, zzA, zzB, zzC]; refine hTk (i := 15) (v := .pointer (some ⟨nb, no + k, none⟩)) (some 33) (fun o ho W hSw => ?z16) (hHeld) ?_
   case z16 => cases ho; simp [execOp, go_sem, Act.eval, hlt, hk0]
   simp only [Act.put, zzA, zzB, zzC]; refine hTk (i := 16) (v := .slice nq nl nc) (some 34) (fun o ho W hSw => ?z17) (hHeld) ?_
   case z17 => cases ho; obtain ⟨s0, s1, s2⟩ := hSw; simp [execOp, go_sem, Act.eval, s2]
   simp only [Act.put, zzA, zzB, zzC]; refine hTk (i := 17) (v := .int .i64 (nl : Int)) (some 35) (fun o ho W hSw => ?z18) (hHeld) ?_
   case z18 => cases ho; simp [execOp, go_sem, Act.eval]
   simp only [Act.put, zzA, zzB, zzC]; refine hTk (i := 18) (v := .bool true) (some 36) (fun o ho W hSw => ?z19) (hHeld) ?_
   case z19 => cases ho; simp [execOp, go_sem, Act.eval, hp]
   simp only [Act.put, zzA, zzB, zzC]; refine hTk (i := 19) (v := .bool true) (some 37) (fun o ho W hSw => ?z20) (hHeld) ?_
   case z20 => cases ho; simp [execOp, go_sem, Act.eval]
   simp only [Act.put, zzA, zzB, zzC]; refine wpAnyH_done (by kernel_rfl) ?_ _; go_wp2_with fail; refine wp_region_held_drew (S := (fun W => W.cell? ⟨w.heap.size, 1, none⟩ = some (.int .i64 (k : Int)) ∧ W.cell? ⟨ob, 1, none⟩ = some (.slice (some ⟨nb, no, none⟩) NL cn) ∧ W.cell? ⟨nb, no + k, none⟩ = some (.slice nq nl nc))) (by kernel_rfl) ⟨n1, n2, n3⟩ (fun hHeld => ?_); refine hTk (i := 0) (v := .pointer (some ⟨ob, 0, none⟩)) (some 38) (fun o ho W hSw => ?z21) (hHeld) ?_
   case z21 => cases ho; simp [execOp, go_sem, Act.eval]
   simp only [Act.put, zzA, zzB, zzC]; refine hTk (i := 1) (v := .pointer (some ⟨ob, 0, none⟩)) (some 39) (fun o ho W hSw => ?z22) (hHeld) ?_
   case z22 => cases ho; simp [execOp, go_sem, Act.eval]
   simp only [Act.put, zzA, zzB, zzC]; refine hTk (i := 2) (v := .pointer (some ⟨ob, 1, none⟩)) (some 40) (fun o ho W hSw => ?z23) (hHeld) ?_
   case z23 => cases ho; simp [execOp, go_sem, Act.eval]
   simp only [Act.put, zzA, zzB, zzC]; refine hTk (i := 3) (v := .slice (some ⟨nb, no, none⟩) NL cn) (some 41) (fun o ho W hSw => ?z24) (hHeld) ?_
   case z24 => cases ho; obtain ⟨s0, s1, s2⟩ := hSw; simp [execOp, go_sem, Act.eval, s1]
   simp only [Act.put, zzA, zzB, zzC]; refine hTk (i := 4) (v := .pointer (some ⟨w.heap.size, 1, none⟩)) (some 42) (fun o ho W hSw => ?z25) (hHeld) ?_
   case z25 => cases ho; simp [execOp, go_sem, Act.eval]
   simp only [Act.put, zzA, zzB, zzC]; refine hTk (i := 5) (v := .int .i64 (k : Int)) (some 43) (fun o ho W hSw => ?z26) (hHeld) ?_
   case z26 => cases ho; obtain ⟨s0, s1, s2⟩ := hSw; simp [execOp, go_sem, Act.eval, s0]
   simp only [Act.put, zzA, zzB, zzC]; refine hTk (i := 6) (v := .pointer (some ⟨nb, no + k, none⟩)) (some 44) (fun o ho W hSw => ?z27) (hHeld) ?_
   case z27 => cases ho; simp [execOp, go_sem, Act.eval, hlt, hk0]
   simp only [Act.put, zzA, zzB, zzC]; refine hTk (i := 7) (v := .slice nq nl nc) (some 45) (fun o ho W hSw => ?z28) (hHeld) ?_
   case z28 => cases ho; obtain ⟨s0, s1, s2⟩ := hSw; simp [execOp, go_sem, Act.eval, s2]
   simp only [Act.put, zzA, zzB, zzC]; refine hStep (i := 8) (v := .string s) (w' := wa.drew.drew) (some 46) (by kernel_rfl) (by kernel_rfl) (by kernel_rfl) (fun o ho => ?yv) hHeld ?_
   case yv => cases ho; simp [execOp, go_sem, Act.eval, HCV.out wa.drew.drew HDD.out]
   simp only [Act.put, zzA, zzB, zzC]; refine hTk (i := 9) (v := .string s) (some 6) (fun o ho W hSw => ?z29) (hHeld) ?_
   case z29 => cases ho; simp [execOp, go_sem, Act.eval]
   simp only [Act.put, zzA, zzB, zzC]; refine wpAnyH_done (by kernel_rfl) ?_ _; go_wp2_with fail
   all_goals go_ret
   all_goals exact ⟨by rw [HV.out, ← HES.out]; rfl, Below.on HWA.out HDD.out⟩
  ·have HV : Hid (VW = 95 :: decF (16 + 1) (k : Int)) := by show _ = _; rw [HVE.out, if_neg (fun h => hp h.2)]
   obtain rfl : nl = 0 := by omega
   have hpos : True := trivial; clear enn enl hbn hrow hin hp
   go_enter Tryz.func56, Tryz.ntmps56
   go_wp2_with fail; rw [← ewa]; refine wp_region_held_drew (S := (fun W => W.cell? ⟨w.heap.size, 1, none⟩ = some (.int .i64 (k : Int)) ∧ W.cell? ⟨ob, 1, none⟩ = some (.slice (some ⟨nb, no, none⟩) NL cn) ∧ W.cell? ⟨nb, no + k, none⟩ = some (.slice nq 0 nc))) (by kernel_rfl) ⟨n1, n2, n3⟩ (fun hHeld => ?_); refine hTk (i := 0) (v := .pointer (some ⟨w.heap.size, 1, none⟩)) (some 18) (fun o ho W hSw => ?z30) (hHeld) ?_
   case z30 => cases ho; simp [execOp, go_sem, Act.eval]
   simp only [Act.put, zzA, zzB, zzC]; refine hTk (i := 1) (v := .int .i64 (k : Int)) (some 19) (fun o ho W hSw => ?z31) (hHeld) ?_
   case z31 => cases ho; obtain ⟨s0, s1, s2⟩ := hSw; simp [execOp, go_sem, Act.eval, s0]
   simp only [Act.put, zzA, zzB, zzC]; refine hTk (i := 2) (v := .pointer (some ⟨ob, 0, none⟩)) (some 20) (fun o ho W hSw => ?z32) (hHeld) ?_
   case z32 => cases ho; simp [execOp, go_sem, Act.eval]
   simp only [Act.put, zzA, zzB, zzC]; refine hTk (i := 3) (v := .pointer (some ⟨ob, 0, none⟩)) (some 21) (fun o ho W hSw => ?z33) (hHeld) ?_
   case z33 => cases ho; simp [execOp, go_sem, Act.eval]
   simp only [Act.put, zzA, zzB, zzC]; refine hTk (i := 4) (v := .pointer (some ⟨ob, 1, none⟩)) (some 22) (fun o ho W hSw => ?z34) (hHeld) ?_
   case z34 => cases ho; simp [execOp, go_sem, Act.eval]
   simp only [Act.put, zzA, zzB, zzC]; refine hTk (i := 5) (v := .slice (some ⟨nb, no, none⟩) NL cn) (some 23) (fun o ho W hSw => ?z35) (hHeld) ?_
   case z35 => cases ho; obtain ⟨s0, s1, s2⟩ := hSw; simp [execOp, go_sem, Act.eval, s1]
   simp only [Act.put, zzA, zzB, zzC]; refine hTk (i := 6) (v := .int .i64 (NL : Int)) (some 24) (fun o ho W hSw => ?z36) (hHeld) ?_
   case z36 => cases ho; simp [execOp, go_sem, Act.eval]
   simp only [Act.put, zzA, zzB, zzC]; refine hTk (i := 7) (v := .bool true) (some 25) (fun o ho W hSw => ?z37) (hHeld) ?_
   case z37 => cases ho; simp [execOp, go_sem, Act.eval, hlt]
   simp only [Act.put, zzA, zzB, zzC]; refine hTk (i := 8) (v := .bool true) (some 26) (fun o ho W hSw => ?z38) (hHeld) ?_
   case z38 => cases ho; simp [execOp, go_sem, Act.eval]
   simp only [Act.put, zzA, zzB, zzC]; refine hTk (i := 9) (v := .pointer (some ⟨ob, 0, none⟩)) (some 27) (fun o ho W hSw => ?z39) (hHeld) ?_
   case z39 => cases ho; simp [execOp, go_sem, Act.eval]
   simp only [Act.put, zzA, zzB, zzC]; refine hTk (i := 10) (v := .pointer (some ⟨ob, 0, none⟩)) (some 28) (fun o ho W hSw => ?z40) (hHeld) ?_
   case z40 => cases ho; simp [execOp, go_sem, Act.eval]
   simp only [Act.put, zzA, zzB, zzC]; refine hTk (i := 11) (v := .pointer (some ⟨ob, 1, none⟩)) (some 29) (fun o ho W hSw => ?z41) (hHeld) ?_
   case z41 => cases ho; simp [execOp, go_sem, Act.eval]
   simp only [Act.put, zzA, zzB, zzC]; refine hTk (i := 12) (v := .slice (some ⟨nb, no, none⟩) NL cn) (some 30) (fun o ho W hSw => ?z42) (hHeld) ?_
   case z42 => cases ho; obtain ⟨s0, s1, s2⟩ := hSw; simp [execOp, go_sem, Act.eval, s1]
   simp only [Act.put, zzA, zzB, zzC]; refine hTk (i := 13) (v := .pointer (some ⟨w.heap.size, 1, none⟩)) (some 31) (fun o ho W hSw => ?z43) (hHeld) ?_
   case z43 => cases ho; simp [execOp, go_sem, Act.eval]
   simp only [Act.put, zzA, zzB, zzC]; refine hTk (i := 14) (v := .int .i64 (k : Int)) (some 32) (fun o ho W hSw => ?z44) (hHeld) ?_
   case z44 => cases ho; obtain ⟨s0, s1, s2⟩ := hSw; simp [execOp, go_sem, Act.eval, s0]
   simp only [Act.put, zzA, zzB, zzC]; refine hTk (i := 15) (v := .pointer (some ⟨nb, no + k, none⟩)) (some 33) (fun o ho W hSw => ?z45) (hHeld) ?_
   case z45 => cases ho; simp [execOp, go_sem, Act.eval, hlt, hk0]
   simp only [Act.put, zzA, zzB, zzC]; refine hTk (i := 16) (v := .slice nq 0 nc) (some 34) (fun o ho W hSw => ?z46) (hHeld) ?_
   case z46 => cases ho; obtain ⟨s0, s1, s2⟩ := hSw; simp [execOp, go_sem, Act.eval, s2]
   simp only [Act.put, zzA, zzB, zzC]; refine hTk (i := 17) (v := .int .i64 0) (some 35) (fun o ho W hSw => ?z47) (hHeld) ?_
   case z47 => cases ho; simp [execOp, go_sem, Act.eval]
   simp only [Act.put, zzA, zzB, zzC]; refine hTk (i := 18) (v := .bool false) (some 36) (fun o ho W hSw => ?z48) (hHeld) ?_
   case z48 => cases ho; simp [execOp, go_sem, Act.eval]
   simp only [Act.put, zzA, zzB, zzC]; refine hTk (i := 19) (v := .bool false) (some 37) (fun o ho W hSw => ?z49) (hHeld) ?_
   case z49 => cases ho; simp [execOp, go_sem, Act.eval]
   simp only [Act.put, zzA, zzB, zzC]; refine wpAnyH_done (by kernel_rfl) ?_ _; go_wp2_with fail
   all_goals refine (HD.out _).mono ?_
   all_goals rintro e w2 ⟨rfl, hb2⟩
   all_goals rw [← ewa] at hb2
   all_goals have HB2 : Hid (Below w.heap.size w w2) := Below.on (Below.on HWA.out HDR.out) hb2
   all_goals clear hb2
   all_goals go_wp2_with fail
   all_goals go_ret
   all_goals exact ⟨by rw [HV.out, ← HUN.out]; rfl, HB2.out⟩
 ·have hlt : ¬ (k : Int) < (NL : Int) := by omega
  have HV : Hid (VW = 95 :: decF (16 + 1) (k : Int)) := by show _ = _; rw [HVE.out, if_neg (fun h => hlt h.1)]
  have hpos : True := trivial
  have hlt2 : (NL : Int) ≤ (k : Int) := by omega
  have hge : NL ≤ k := by omega
  go_enter Tryz.func56, Tryz.ntmps56
  go_wp2_with fail; rw [← ewa]; refine wp_region_held_drew (S := (fun W => W.cell? ⟨w.heap.size, 1, none⟩ = some (.int .i64 (k : Int)) ∧ W.cell? ⟨ob, 1, none⟩ = some (.slice pn NL cn))) (by kernel_rfl) ⟨n1, n2⟩ (fun hHeld => ?_); refine hTk (i := 0) (v := .pointer (some ⟨w.heap.size, 1, none⟩)) (some 18) (fun o ho W hSw => ?z50) (hHeld) ?_
  case z50 => cases ho; simp [execOp, go_sem, Act.eval]
  simp only [Act.put, zzA, zzB, zzC]; refine hTk (i := 1) (v := .int .i64 (k : Int)) (some 19) (fun o ho W hSw => ?z51) (hHeld) ?_
  case z51 => cases ho; obtain ⟨s0, s1⟩ := hSw; simp [execOp, go_sem, Act.eval, s0]
  simp only [Act.put, zzA, zzB, zzC]; refine hTk (i := 2) (v := .pointer (some ⟨ob, 0, none⟩)) (some 20) (fun o ho W hSw => ?z52) (hHeld) ?_
  case z52 => cases ho; simp [execOp, go_sem, Act.eval]
  simp only [Act.put, zzA, zzB, zzC]; refine hTk (i := 3) (v := .pointer (some ⟨ob, 0, none⟩)) (some 21) (fun o ho W hSw => ?z53) (hHeld) ?_
  case z53 => cases ho; simp [execOp, go_sem, Act.eval]
  simp only [Act.put, zzA, zzB, zzC]; refine hTk (i := 4) (v := .pointer (some ⟨ob, 1, none⟩)) (some 22) (fun o ho W hSw => ?z54) (hHeld) ?_
  case z54 => cases ho; simp [execOp, go_sem, Act.eval]
  simp only [Act.put, zzA, zzB, zzC]; refine hTk (i := 5) (v := .slice pn NL cn) (some 23) (fun o ho W hSw => ?z55) (hHeld) ?_
  case z55 => cases ho; obtain ⟨s0, s1⟩ := hSw; simp [execOp, go_sem, Act.eval, s1]
  simp only [Act.put, zzA, zzB, zzC]; refine hTk (i := 6) (v := .int .i64 (NL : Int)) (some 24) (fun o ho W hSw => ?z56) (hHeld) ?_
  case z56 => cases ho; simp [execOp, go_sem, Act.eval]
  simp only [Act.put, zzA, zzB, zzC]; refine hTk (i := 7) (v := .bool false) (some 25) (fun o ho W hSw => ?z57) (hHeld) ?_
  case z57 => cases ho; simp [execOp, go_sem, Act.eval, hge]
  simp only [Act.put, zzA, zzB, zzC]; refine hTk (i := 8) (v := .bool false) (some 26) (fun o ho W hSw => ?z58) (hHeld) ?_
  case z58 => cases ho; simp [execOp, go_sem, Act.eval]
  simp only [Act.put, zzA, zzB, zzC]; refine hSk (i := 9) (some 27) (hHeld) ?_; refine hSk (i := 10) (some 28) (hHeld) ?_; refine hSk (i := 11) (some 29) (hHeld) ?_; refine hSk (i := 12) (some 30) (hHeld) ?_; simp only [Act.put, zzA, zzB, zzC]; refine hSk (i := 13) (some 31) (hHeld) ?_; refine hSk (i := 14) (some 32) (hHeld) ?_; refine hSk (i := 15) (some 33) (hHeld) ?_; refine hSk (i := 16) (some 34) (hHeld) ?_; simp only [Act.put, zzA, zzB, zzC]; refine hSk (i := 17) (some 35) (hHeld) ?_; refine hSk (i := 18) (some 36) (hHeld) ?_; simp only [Act.put, zzA, zzB, zzC]; refine hTk (i := 19) (v := .bool false) (some 37) (fun o ho W hSw => ?z59) (hHeld) ?_
  case z59 => cases ho; simp [execOp, go_sem, Act.eval]
  simp only [Act.put, zzA, zzB, zzC]; refine wpAnyH_done (by kernel_rfl) ?_ _; go_wp2_with fail
  all_goals refine (HD.out _).mono ?_
  all_goals rintro e w2 ⟨rfl, hb2⟩
  all_goals rw [← ewa] at hb2
  all_goals have HB2 : Hid (Below w.heap.size w w2) := Below.on (Below.on HWA.out HDR.out) hb2
  all_goals clear hb2
  all_goals go_wp2_with fail
  all_goals go_ret
  all_goals exact ⟨by rw [HV.out, ← HUN.out]; rfl, HB2.out⟩
end
section
open Go Go.RowKit
def TextOk (ob : Nat) (po : Option Addr) (co : Nat) (T : List Cel) (pn : Option Addr) (cn : Nat) (N : List (List Int)) (q : Bool) (f : Nat) : Prop := ∀ (W0 : World), WEnv W0 ob po co T pn cn N q → ∀ (t : Tr) (p : Int) (tq : Option Addr) (n c : Nat) (w : World), t.fo.ok → (itC t).length ≤ f → (itC t).length ≤ 2000 → TW W0 tq n c t → -1 ≤ p → p ≤ 1200 → Below W0.heap.size W0 w →
 Calls Tryz.prog 56 #[.pointer (some ⟨ob, 0, none⟩), .slice tq n c, .int .i64 p] w (StrO (textF T N q f t p) w)
theorem text_all (ob : Nat) (po : Option Addr) (co : Nat) (T : List Cel) (pn : Option Addr) (cn : Nat) (N : List (List Int)) (q : Bool) (hnn : ∀ j, j < T.length → 0 < (T.getD j Cel.none).2.2.length) : ∀ f, TextOk ob po co T pn cn N q f
 | 0 => fun W0 hE t p tq n c w ht hf _ _ _ _ _ => by simp [itC] at hf
 | f + 1 => fun W0 hE t p tq n c w ht hf hl hin h0 h1 hw => by
   have ih := text_all ob po co T pn cn N q hnn f
   have hT : OpsG T := fun j hj => ⟨(hE.opb j hj).1, (hE.opb j hj).2.1⟩
   have hN : NmG N := fun i hi => hE.nb i hi
   have hgood := text_good q hT hN f
   have hsz : (itC t).length = t.2.cells.length + 1 := by simp [itC]
   have hcb := ht.1; simp only [cellB, decide_eq_true_eq] at hcb
   have hkid : ∀ k ∈ trs t.2, k.fo.ok ∧ (itC k).length ≤ f ∧ (itC k).length ≤ 2000 := fun k hk => ⟨trs_okW ht.2.2.2.2.1 k hk, by have := trs_le _ _ hk; omega, by have := trs_le _ _ hk; omega⟩
   unfold textF
   by_cases k0 : t.1.1 = 0
   ·rw [if_pos k0]
    exact text_var hE t p tq n c w hw ht hl hin k0
   ·rw [if_neg k0]
    by_cases k1 : t.1.1 = 1
    ·rw [if_pos k1]
     exact text_num hE t p tq n c w hw ht hl hin k1
    ·rw [if_neg k1]
     by_cases k2 : t.1.1 = 2
     ·rw [if_pos k2]
      exact text_atm hE t p tq n c w hw ht hl hin k2
     ·rw [if_neg k2]
      have k3 : t.1.1 = 3 := by omega
      by_cases hd : t.1 = dot
      ·rw [if_pos hd]
       have hs := split_sizeW t.2.cells.length t.1 t.2 (Nat.le_refl _) ht; have hone := hs.2 hd; obtain ⟨o1, o2⟩ := split_in t.2.cells.length t.1 t.2 (Nat.le_refl _) ht
       have hpart : ∀ k : Tr, (k ∈ (splitF t.1 t.2).1 ∨ k = (splitF t.1 t.2).2) → k.fo.ok ∧ (itC k).length ≤ f ∧ (itC k).length ≤ 2000 := fun k hk => by
        rcases hk with hk | rfl
        ·have h9 : (itC k).length ≤ ((splitF t.1 t.2).1.map fun x => (itC x).length).sum := mem_sum _ _ (List.mem_map.2 ⟨_, hk, rfl⟩)
         exact ⟨o1 k hk, by have := hs.1; omega, by have := hs.1; omega⟩
        ·exact ⟨o2, by have := hs.1; omega, by have := hs.1; omega⟩
       exact text_lst hE (textF T N q f) t p tq n c w hw ht hl hin k3 hd (fun k hk => (hgood k 999 (hpart k hk).1 (hpart k hk).2.2).2) (fun V hV k hk kq kn kc W htw hW => ih V (hE.below hV) k 999 kq kn kc W (hpart k hk).1 (hpart k hk).2.1 (hpart k hk).2.2 htw (by decide) (by decide) hW)
      ·rw [if_neg hd]
       by_cases hc : t.1 = curly
       ·rw [if_pos hc]
        have hcnt : t.2.count = 1 := by have h9 := ht.2.2.1 k3; rw [hc] at h9; have e : (curly.2.1 : Int) = 1 := rfl; omega
        have hk := kid_at (t := t) (i := 0) (by omega); obtain ⟨g1, g2, g3⟩ := hkid _ hk; exact text_cur hE (textF T N q f (kidW t 0) 1200) (by have := (hgood (kidW t 0) 1200 g1 g3).2; omega) t p tq n c w hw ht hl hin k3 hc (fun kq kn kc W htw hW => ih W0 hE (kidW t 0) 1200 kq kn kc W g1 g2 g3 htw (by decide) (by decide) hW)
       ·rw [if_neg hc]
        exact text_cmp hE _ t p tq n c w hw ht hl hin k3 hd hc (fun W hW => comp_any hE hnn (textF T N q f) t p tq n c W hW ht hl hin k3 (fun k hk p => hgood k p (hkid k hk).1 (hkid k hk).2.2) (fun k hk p h0 h1 kq kn kc W' htw hW' => ih W0 hE k p kq kn kc W' (hkid k hk).1 (hkid k hk).2.1 (hkid k hk).2.2 htw h0 h1 hW'))
end
section
open Go Go.RowKit Go.Sort
theorem wrap_small {x : Int} (h0 : -9223372036854775808 ≤ x) (h1 : x ≤ 9223372036854775807) : IntKind.i64.wrap x = x := by rw [IntKind.wrap_i64]; omega
end
end Go.Proofs.YtfgmenkoeflhaaaGreatDoor
