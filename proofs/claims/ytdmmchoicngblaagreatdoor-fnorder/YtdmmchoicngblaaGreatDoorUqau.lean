/- Texts of FeK, FeL0, FeL. Own work of the verifier. -/
import Derived.Test.YtdmmchoicngblaaGreatDoorUqas
namespace Go.Proofs.YtdmmchoicngblaaGreatDoor
open Go Go.RowKit
set_option linter.unusedVariables false
set_option linter.unusedSimpArgs false
def ArgsB (w : World) (pa : Option Addr) (ts : List Tr) : Prop := ∀ i, i < ts.length → ∃ g q cc, pa = some ⟨g, 0, none⟩ ∧ w.cell? ⟨g, i, none⟩ = some (.slice q (ts.getD i T0).cs.length cc) ∧ CIn w q (ts.getD i T0).cs ∧ (ts.getD i T0).cs.length ≤ cc ∧ cc ≤ 9223372036854775807
def okTs (ts : List Tr) : Prop := ∀ i, i < ts.length → (ts.getD i T0).fo.ok ∧ validB (ts.getD i T0).cs = true ∧ (ts.getD i T0).cs.length ≤ 2001
theorem BuIn.mapB {w : World} {b N : Nat} {T : Fun → Option Nat} (h : BuIn w b N T) : ∃ es clock, w.heap[b]? = some (.map es clock) := by
 obtain ⟨D, ⟨es, clock, h1, r⟩, h2⟩ := h; exact ⟨es, clock, h1⟩
theorem wr2_block {w : World} {T : Nat} {u0 u1 : Value} {t : TypeId} (h : w.heap[T]? = some (.cells #[u0, u1] t)) (a b : Value) : ((w.setCell ⟨T, 0, none⟩ a).setCell ⟨T, 1, none⟩ b).heap[T]? = some (.cells #[a, b] t) := by
 have h1 : (w.setCell ⟨T, 0, none⟩ a).heap[T]? = some (.cells #[a, u1] t) := by rw [heap_setCell_same _ _ _ _ _ _ h]; rfl
 rw [heap_setCell_same _ _ _ _ _ _ h1]; rfl
theorem wr2_other {w : World} {T k : Nat} {a b : Value} (h : k ≠ T) : ((w.setCell ⟨T, 0, none⟩ a).setCell ⟨T, 1, none⟩ b).heap[k]? = w.heap[k]? := by
 have q : ∀ (W : World) (i : Nat) (v : Value), (W.setCell ⟨T, i, none⟩ v).heap[k]? = W.heap[k]? := fun W i v => heap_setCell_other W ⟨T, i, none⟩ k v (fun e => by simp at e; omega)
 exact (q _ _ _).trans (q _ _ _)
theorem wr2_below {w0 w : World} {T B : Nat} (h : Below B w0 w) (hT : B ≤ T) (a b : Value) : Below B w0 ((w.setCell ⟨T, 0, none⟩ a).setCell ⟨T, 1, none⟩ b) :=
 ⟨h.os, h.tape, h.output, by simpa using h.size, fun k hk => (wr2_other (by omega)).trans (h.block k hk)⟩
theorem lit_wf9 (n : Nat) (h : n ≤ 8) : (Lit.int .i64 (n : Int)).wf = true := by
 have : ∀ k : Fin 9, (Lit.int .i64 ((k.1 : Nat) : Int)).wf = true := by decide
 exact this ⟨n, by omega⟩
theorem func_nil (K : Nat) (W : World) : (binOp BinOp.eql 80 (.func (.func K) #[] #[]) .nilFunc).run Tryz.prog W = .ok (.bool false) W := by
 kernel_rfl
set_option maxRecDepth 100000 in
set_option maxHeartbeats 8000000 in
theorem builtin_by (K : Nat) (p0 : Option Addr) (n0 c0 : Nat) (pn : Option Addr) (s : List Int) (ln cn : Nat) (pa : Option Addr) (na ca : Nat) (ts : List Tr) (fr code : Int) (X : Value → Value → Value → World → Prop) (Y : Value → Value → Value → Value → World → Prop) (w : World)
  (hln : ln = s.length) (hsl : s.length ≤ 255) (hnm : BIn w pn s) (hna : na = ts.length) (hna9 : na ≤ 8) (hok : okTs ts) (hin : ArgsB w pa ts) (hf0 : 0 ≤ fr) (hf1 : fr ≤ 1000000) (hK : buTab (strOfNums s, (na : Int)) = some K)
  (HV : ∀ W, Below w.heap.size w W → Calls Tryz.prog 33 #[.slice p0 n0 c0] W fun e w' => e = .returned (.bool true) ∧ Below W.heap.size W w')
  (HR : ∀ W b p c, Below w.heap.size w W → BuIn W b 92 buTab → ArgT W p ts → Calls Tryz.prog 34 #[.map (some b), .agg #[.string (strOfNums s), .int .i64 na], .agg #[.slice p0 n0 c0, .slice p na c, .int .i64 fr]] W fun e w' => ∃ x0 x1 x2, e = .returned (.tuple #[.agg #[x0, x1, x2], .int .i64 code]) ∧ x0.oneCell' = true ∧ x1.oneCell' = true ∧ x2.oneCell' = true ∧ X x0 x1 x2 w' ∧ Below W.heap.size W w')
  (HX : ∀ x0 x1 x2 W W', X x0 x1 x2 W → Below W.heap.size W W' → X x0 x1 x2 W')
  (HI : ∀ W x0 x1 x2, Below w.heap.size w W → X x0 x1 x2 W → Calls Tryz.prog 35 #[.agg #[x0, x1, x2]] W fun e w' => ∃ v0 v1 v2 v3, e = .returned (.agg #[v0, v1, v2, v3]) ∧ v0.oneCell' = true ∧ v1.oneCell' = true ∧ v2.oneCell' = true ∧ v3.oneCell' = true ∧ Y v0 v1 v2 v3 w' ∧ Below W.heap.size W w')
  (HY : ∀ v0 v1 v2 v3 W T a b c d, Y v0 v1 v2 v3 W → W.heap[T]? = some (.cells #[.slice none 0 0, .slice none 0 0, .slice none 0 0, .slice none 0 0] 40) → Y v0 v1 v2 v3 (wr4 W T a b c d)) :
  Calls Tryz.prog 13 #[.slice p0 n0 c0, .slice pn ln cn, .slice pa na ca, .int .i64 fr] w fun e w' => ∃ v0 v1 v2 v3, e = .returned (.tuple #[.agg #[v0, v1, v2, v3], .int .i64 code]) ∧ Y v0 v1 v2 v3 w' ∧ Below w.heap.size w w' := by
 obtain ⟨nm, enm⟩ : ∃ nm, nm = strOfNums s := ⟨_, rfl⟩
 have HCV : Hid (∀ W, Below w.heap.size w W → (convert 22 9 (.slice pn ln cn)).run Tryz.prog W = .ok (.string nm) W) := fun W hW => by rw [enm]; exact conv_str (hnm.below hW) ln cn hln 9 Tryz.underlying9
 have hsz : nm.size ≤ 255 := by rw [enm]; simpa [strOfNums, ByteArray.size] using hsl
 have hokf : okN (nm, (na : Int)) := ⟨by show nm.size ≤ _; omega, lit_wf9 na hna9⟩
 have HLK : Hid (∀ (W : World) (b : Nat), BuIn W b 92 buTab → (Instr.lookup 75 (.map (some b)) (.agg #[.string nm, .int .i64 na]) false).run Tryz.prog W = .ok (.func (.func K) #[] #[]) W) := fun W b hb => hb.getE (nm, (na : Int)) hokf (by rw [enm]; exact hK)
 have HVO : Hid (∀ W, Below w.heap.size w W → Calls Tryz.prog 33 #[.slice p0 n0 c0] W fun e w' => e = .returned (.bool true) ∧ Below W.heap.size W w') := HV; have HRU : Hid _ := HR; rw [← enm] at HRU; have HIC : Hid _ := HI; have HXB : Hid _ := HX; have HYW : Hid _ := HY; have HOK : Hid (okTs ts) := hok; have HIN : Hid (ArgsB w pa ts) := hin; have HNA : Hid (na = ts.length) := hna
 have d1 : decide (fr < 0) = false := by simp; omega
 have d2 : decide (fr > 1000000) = false := by simp; omega
 have d3 : decide (1000000 < fr) = false := by simp; omega
 obtain ⟨RB, eRB⟩ : ∃ RB, RB = w.heap.size := ⟨_, rfl⟩
 obtain ⟨w1, e1⟩ : ∃ w1, w1 = w.alloc (.cells #[.slice none 0 0, .slice none 0 0, .slice none 0 0, .slice none 0 0] 40) := ⟨_, rfl⟩
 have hb1 : Below w.heap.size w w1 := by rw [e1]; exact (Below.refl _ _).alloc (Nat.le_refl _) _
 have hs1 : w1.heap.size = w.heap.size + 1 := by rw [e1]; simp
 have k1 : w1.heap[RB]? = some (.cells #[.slice none 0 0, .slice none 0 0, .slice none 0 0, .slice none 0 0] 40) := by rw [e1, eRB]; exact heap_alloc_new _ _
 have HB1 : Hid (Below w.heap.size w w1) := hb1
 have HK1 : Hid (w1.heap[RB]? = some (.cells #[.slice none 0 0, .slice none 0 0, .slice none 0 0, .slice none 0 0] 40) ∧ RB = w.heap.size ∧ RB < w1.heap.size) := ⟨k1, eRB, by omega⟩
 have HNB : Hid (∀ W, Calls Tryz.prog 32 #[] W fun e w' => ∃ b, e = .returned (.map (some b)) ∧ BuIn w' b 92 buTab ∧ Below W.heap.size W w') := fun W => newBuiltins_any W
 clear HV HR HX HI HY hok hin hna hln hsl hnm hK enm hsz hokf hb1 hs1 k1
 go_enter Tryz.func13, Tryz.ntmps13
 go_wp2_with fail; rw [← e1, ← eRB]; clear e1 eRB; refine wp_region_held_drew (S := fun W => Below w1.heap.size w1 W) (by kernel_rfl) ?_ (fun hHeld => ?_)
 ·exact (Below.refl _ _).drew
 refine hTk (i := 1) (v := .slice pn ln cn) (some 18) (fun o ho W hSw => ?y100) (by assumption) ?_
 case y100 => cases ho; simp [execOp, go_sem, Act.eval]
 simp only [Act.put, zzA, zzB, zzC]; refine hTk (i := 2) (v := .string nm) (some 19) (fun o ho W hSw => ?y101) (by assumption) ?_
 case y101 =>
  cases ho
  have kc := HCV.out W (Below.on HB1.out hSw)
  simp [execOp, go_sem, Act.eval, kc]
 simp only [Act.put, zzA, zzB, zzC]; refine hTk (i := 3) (v := .slice pa na ca) (some 20) (fun o ho W hSw => ?y102) (by assumption) ?_
 case y102 => cases ho; simp [execOp, go_sem, Act.eval]
 simp only [Act.put, zzA, zzB, zzC]; refine hTk (i := 4) (v := .int .i64 na) (some 21) (fun o ho W hSw => ?y103) (by assumption) ?_
 case y103 => cases ho; simp [execOp, go_sem, Act.eval]
 simp only [Act.put, zzA, zzB, zzC]; refine hTk (i := 5) (v := .agg #[.string nm, .int .i64 na]) (some 22) (fun o ho W hSw => ?y104) (by assumption) ?_
 case y104 => cases ho; simp [execOp, go_sem, Act.eval]
 simp only [Act.put, zzA, zzB, zzC]; refine hBoth (i := 0) (j := 6) (by kernel_rfl) ?zA ?zB
 case zA =>
  refine opCall (f := 32) (args := #[]) (some 17) (by kernel_rfl) (by kernel_rfl) (fun o ho => ?cA) (HNB.out _) ?kA (fun ch w' h => by obtain ⟨_, h, _⟩ := h; cases h) (fun w' h => by obtain ⟨_, h, _⟩ := h; cases h)
  case cA => cases ho; simp [execOp, go_sem, Act.eval]
  case kA =>
   rintro u w3 ⟨b, hu, hM3, hb3⟩; obtain rfl := Ending.returned.inj hu; have hB3 : Below w1.heap.size w1 w3 := (Below.refl _ _).drew.trans hb3; clear hu hb3; refine ⟨hB3, ?_⟩; simp only [Act.put, zzA, zzB, zzC]; refine hStep (i := 6) (v := .pointer (some ⟨w3.heap.size, 0, none⟩)) (w' := w3.alloc (.cells #[.string ⟨#[]⟩, .int .i64 0] 78)) (some 11) (by kernel_rfl) (by kernel_rfl) (by kernel_rfl) (fun o ho => ?y200) (hB3.alloc hB3.size _) ?_
   case y200 => cases ho; simp [execOp, go_sem, Act.eval]
   simp only [Act.put, zzA, zzB, zzC]
   obtain ⟨w4, e4⟩ : ∃ w4, w4 = w3.alloc (.cells #[.string ⟨#[]⟩, .int .i64 0] 78) := ⟨_, rfl⟩
   have hB4 : Below w1.heap.size w1 w4 := by rw [e4]; exact hB3.alloc hB3.size _
   have kF : w4.heap[w3.heap.size]? = some (.cells #[.string ⟨#[]⟩, .int .i64 0] 78) := by rw [e4]; exact heap_alloc_new _ _
   have hF : w1.heap.size ≤ w3.heap.size := hB3.size
   have hM : BuIn w4 b 92 buTab := by rw [e4]; exact hM3.below ((Below.refl _ _).alloc (Nat.le_refl _) _)
   obtain ⟨F, eF⟩ : ∃ F, F = w3.heap.size := ⟨_, rfl⟩
   rw [← eF] at kF hF; rw [← e4, ← eF]; clear e4 eF hM3 hB3; refine hTk (i := 7) (v := .map (some b)) (some 10) (fun o ho W hSw => ?y201) (by assumption) ?_
   case y201 => cases ho; simp [execOp, go_sem, Act.eval]
   simp only [Act.put, zzA, zzB, zzC]
   obtain ⟨w5, e5⟩ : ∃ w5, w5 = (w4.setCell ⟨F, 0, none⟩ (.string nm)).setCell ⟨F, 1, none⟩ (.int .i64 na) := ⟨_, rfl⟩
   have hB5 : Below w1.heap.size w1 w5 := by rw [e5]; exact wr2_below hB4 hF _ _
   have f0 := cell_of_row _ _ 0 _ _ _ kF; have f1 := cell_of_row _ _ 1 _ _ _ kF
   have ff := fun k => frozen_of_row _ _ k _ _ kF
   refine hStepS (i := 8) (w' := w5) none (by kernel_rfl) (by kernel_rfl) (by kernel_rfl) (fun o ho => ?y9) hB5 ?_
   case y9 =>
    cases ho
    rw [e5]
    simp [execOp, go_sem, Act.eval, f0, f1, ff]
   simp only [Act.put, zzA, zzB, zzC]; refine wpAnyH_done (by kernel_rfl) ?_ _
   change Exit.then _ _ _ _ w5
   have kF5 : w5.heap[F]? = some (.cells #[.string nm, .int .i64 na] 78) := by rw [e5]; exact wr2_block kF _ _
   have hM5 : BuIn w5 b 92 buTab := by
    refine hM.of ?_; rw [e5]; exact wr2_other (fun e => by obtain ⟨_, _, h⟩ := hM.mapB; rw [e, kF] at h; cases h)
   have HM5 : Hid (BuIn w5 b 92 buTab ∧ Below w1.heap.size w1 w5 ∧ F < w5.heap.size) := ⟨hM5, hB5, (Array.getElem?_eq_some_iff.1 kF5).1⟩
   have HF5 : Hid (w5.heap[F]? = some (.cells #[.string nm, .int .i64 na] 78)) := kF5; clear hM hB4 hF kF e5 hB5 f0 f1 ff kF5 hM5
   obtain ⟨cb, ecb⟩ : ∃ cb, cb = w5.heap.size := ⟨_, rfl⟩
   obtain ⟨w6, e6⟩ : ∃ w6, w6 = w5.alloc (.cells #[.slice p0 n0 c0, .slice none 0 0, .int .i64 fr] 85) := ⟨_, rfl⟩
   have hb6 : Below w5.heap.size w5 w6 := by rw [e6]; exact (Below.refl _ _).alloc (Nat.le_refl _) _
   have k6 : w6.heap[cb]? = some (.cells #[.slice p0 n0 c0, .slice none 0 0, .int .i64 fr] 85) := by rw [ecb, e6]; exact heap_alloc_new _ _
   have lk := HLK.out w5 b HM5.out.1; have nk := func_nil K w5; have HV5 := HVO.out w5 (Below.on HB1.out HM5.out.2.1); have g0 := cell_of_row _ _ 0 _ _ _ HF5.out; have g1 := cell_of_row _ _ 1 _ _ _ HF5.out; clear e6 k6 hb6 w6 ecb cb; go_wp2_with fail; refine HV5.mono ?_; rintro e v5 ⟨rfl, hv5⟩; have HB5 : Hid (Below w.heap.size w v5) := Below.on (Below.on HB1.out HM5.out.2.1) hv5; have HM6 : Hid (BuIn v5 b 92 buTab) := HM5.out.1.below hv5
   have HF6 : Hid (v5.heap[F]? = some (.cells #[.string nm, .int .i64 na] 78) ∧ v5.heap[RB]? = some (.cells #[.slice none 0 0, .slice none 0 0, .slice none 0 0, .slice none 0 0] 40) ∧ RB < v5.heap.size ∧ w.heap.size ≤ RB ∧ F < v5.heap.size) := by
    have h1 := HM5.out.2.1; have h2 := HK1.out; have h3 := HM5.out.2.2; have h4 := h1.size; have h5 := hv5.size; exact ⟨(hv5.block _ h3).trans HF5.out, (hv5.block _ (by omega)).trans ((h1.block _ h2.2.2).trans h2.1), by omega, by omega, by omega⟩
   obtain ⟨cb, ecb⟩ : ∃ cb, cb = v5.heap.size := ⟨_, rfl⟩
   obtain ⟨w6, e6⟩ : ∃ w6, w6 = v5.alloc (.cells #[.slice p0 n0 c0, .slice none 0 0, .int .i64 fr] 85) := ⟨_, rfl⟩
   have hb6 : Below v5.heap.size v5 w6 := by rw [e6]; exact (Below.refl _ _).alloc (Nat.le_refl _) _
   have k6 : w6.heap[cb]? = some (.cells #[.slice p0 n0 c0, .slice none 0 0, .int .i64 fr] 85) := by rw [ecb, e6]; exact heap_alloc_new _ _
   have HA6 : Hid (AT v5 w6 cb none 0 0 [] [] (.slice p0 n0 c0) (.int .i64 fr)) := ⟨by rw [ecb]; exact hb6, ⟨rfl, rfl⟩, World.ownsRow_nil _ _ _ _, k6, fun i hi => absurd hi (Nat.not_lt_zero _)⟩
   have HCB : Hid (cb = v5.heap.size) := ecb; clear lk nk HV5 g0 g1 hv5 hb6 k6 HM5 HF5; go_wp2_with fail; rw [← e6, ← ecb]; clear e6 ecb
   go_loopw [46] (fun i wr => ∃ (j : Nat) (p : Option Addr) (c : Nat) (V : List Value), j ≤ na ∧ i = .int .i64 j ∧ Hid (AT v5 wr cb p j c V (ts.take j) (.slice p0 n0 c0) (.int .i64 fr))) (fun i _ => na - (intOf i).toNat)
   case atStart => exact ⟨0, none, 0, [], Nat.zero_le _, rfl, HA6.out⟩
   case round =>
    obtain ⟨j, p, c, V, hj, rfl, HA⟩ := hrel
    by_cases hlt : j < na
    ·obtain ⟨g, q, cc, rfl, y0, hci, hcc, hcm⟩ := HIN.out j (by rw [← HNA.out]; exact hlt)
     obtain ⟨o1, o2, o3⟩ := HOK.out j (by rw [← HNA.out]; exact hlt)
     obtain ⟨A, eA⟩ : ∃ A, A = ts.getD j T0 := ⟨_, rfl⟩
     rw [← eA] at y0 hci hcc o1 o2 o3
     have HTS : Hid (ts.take (j + 1) = ts.take j ++ [A]) := by
      have h : j < ts.length := by rw [← HNA.out]; exact hlt
      rw [eA, List.take_succ_eq_append_getElem h, List.getD, List.getElem?_eq_getElem h]
      rfl
     have hbr : Below w.heap.size w wr := ⟨HA.out.bel.os.trans HB5.out.os, HA.out.bel.tape.trans HB5.out.tape, HA.out.bel.output.trans HB5.out.output, Nat.le_trans HB5.out.size HA.out.bel.size, fun k hk => (HA.out.bel.block k (by have h1 := HCB.out; have h2 := HB5.out.size; omega)).trans (HB5.out.block k hk)⟩
     have yr := (hbr.cell (World.block_lt_of_cell? _ _ y0)).trans y0
     obtain ⟨m, em⟩ : ∃ m, m = A.cs.length := ⟨_, rfl⟩
     have hVT := implValid_any q cc A.cs wr (by omega) (hci.below hbr); rw [o2, ← em] at hVT; rw [← em] at yr hcc o3
     have HTO : Hid (∀ W, Below w.heap.size w W → Calls Tryz.prog 24 #[.slice q m cc] W fun e w' => ∃ v, e = .returned v ∧ FoIn w' W.heap.size A.fo [v] ∧ Below W.heap.size W w') := fun W hW => termOf_any A.1 A.2 q m cc W o1 (by rw [em]; simp [Tr.cs]) hcc hcm (hci.below hW)
     have HBR : Hid (Below w.heap.size w wr) := hbr
     have hj1 : j ≤ 1000 := by omega
     clear y0 hci hcc hcm o1 o2 eA hbr em o3; go_wp2_with fail; refine hVT.mono ?_; rintro e wA ⟨rfl, hbA⟩; have HAA : Hid (AT v5 wA cb p j c V (ts.take j) (.slice p0 n0 c0) (.int .i64 fr)) := HA.out.below hbA; have HBA : Hid (Below w.heap.size w wA) := Below.on HBR.out hbA; have hp0 := cell_of_row _ _ 1 _ _ _ HAA.out.box
     have HKEEP : Hid (∀ W, Below wA.heap.size wA W → W.cell? ⟨cb, 1, none⟩ = some (.slice p j c)) := fun W hW => (hW.cell (World.block_lt_of_cell? _ _ hp0)).trans hp0
     clear hVT hbA yr HA HBR hp0; go_wp2_with fail; have HBD : Hid (Below w.heap.size w wA.drew) := HBA.out.trans (Below.refl _ _).drew; have hS0 := HKEEP.out _ (Below.refl _ _).drew; refine wp_region_any (by kernel_rfl) ?_; refine wpAny_tail (p := 6) (S := fun W => W.cell? ⟨cb, 1, none⟩ = some (.slice p j c)) (by kernel_rfl) 6 _ _ _ rfl (clo_start _ _ _) (by kernel_rfl) (by kernel_rfl) ?_
     change wpAnyH _ _ _ _ _ _ _ _ wA.drew
     refine hTk (i := 0) (v := .pointer (some ⟨cb, 1, none⟩)) (some 54) (fun o ho W hSw => ?y252) (by assumption) ?_
     case y252 => cases ho; simp [execOp, go_sem, Act.eval]
     simp only [Act.put, zzA, zzB, zzC]; refine hTk (i := 1) (v := .slice p j c) (some 55) (fun o ho W hSw => ?y253) (by assumption) ?_
     case y253 => cases ho; simp [execOp, go_sem, Act.eval, hSw]
     simp only [Act.put, zzA, zzB, zzC]; refine hTk (i := 2) (v := .slice q m cc) (some 56) (fun o ho W hSw => ?y254) (by assumption) ?_
     case y254 => cases ho; simp [execOp, go_sem, Act.eval]
     simp only [Act.put, zzA, zzB, zzC]; refine hCallE (i := 3) (f := 24) (args := #[.slice q m cc]) (some 57) (by kernel_rfl) (by kernel_rfl) (by kernel_rfl) (fun o ho => ?c255) (HTO.out _ HBD.out) ?k255 (fun ch w' hh => by obtain ⟨_, h, _⟩ := hh; cases h) (fun w' hh => by obtain ⟨_, h, _⟩ := hh; cases h)
     case c255 => cases ho; simp [execOp, go_sem, Act.eval]
     case k255 =>
      rintro u5 w5' ⟨v, hu5, hf5, hb5⟩; obtain rfl := Ending.returned.inj hu5; obtain ⟨tv, xv, rfl⟩ := FoIn.iface (c := A.1) (k := A.2) (r := .nil) hf5; have hb5' : Below wA.heap.size wA w5' := (Below.refl _ _).drew.trans hb5; have HF7 : Hid (FoIn w5' wA.heap.size A.fo [.iface tv xv]) := hf5; clear hu5 hf5 hb5 hS0; refine ⟨HKEEP.out w5' hb5', ?_⟩; simp only [Act.put, zzA, zzB, zzC]; have hbx : Below wA.heap.size wA (w5'.alloc (.cells #[.iface tv xv] 58)) := hb5'.alloc hb5'.size _; refine hStep (i := 4) (v := .slice (some ⟨w5'.heap.size, 0, none⟩) 1 1) (w' := w5'.alloc (.cells #[.iface tv xv] 58)) (some 58) (by kernel_rfl) (by kernel_rfl) (by kernel_rfl) (fun o ho => ?y256) (HKEEP.out _ hbx) ?_
      case y256 => cases ho; simp [execOp, go_sem, Act.eval]
      simp only [Act.put, zzA, zzB, zzC]
      obtain ⟨w6', e6⟩ : ∃ w6', w6' = w5'.alloc (.cells #[.iface tv xv] 58) := ⟨_, rfl⟩
      have kn : w6'.cell? ⟨w5'.heap.size, 0, none⟩ = some (.iface tv xv) := by rw [e6]; exact cell_of_row _ _ 0 _ _ _ (heap_alloc_new _ _)
      have hb56 : Below w5'.heap.size w5' w6' := by rw [e6]; exact (Below.refl _ _).alloc (Nat.le_refl _) _
      rw [← e6] at hbx; rw [← e6]; have hA6 := HAA.out.below hbx
      have hft : FoA (fun k => k = cb ∨ some k = Value.ownBlock (.slice p j c)) w6' A.fo [.iface tv xv] := foA_upF (HF7.out.below hb56) (fun a ha => by
       rcases ha with rfl | ha
       ·exact HAA.out.lt
       ·obtain ⟨_, _, _, _, h⟩ := HAA.out.rowT ha.symm
        exact h)
      obtain ⟨g6, cap6, w7, hr7, hA7, hbx7⟩ := hA6.app 83 A (.iface tv xv) w5'.heap.size hft kn rfl hj1; have hS7 := cell_of_row _ _ 1 _ _ _ hbx7; refine hStep (i := 5) (v := .slice (some ⟨g6, 0, none⟩) (j + 1) cap6) (w' := w7) (some 59) (by kernel_rfl) (by kernel_rfl) (by kernel_rfl) (fun o ho => ?y6) hS7 ?_
      case y6 =>
       cases ho
       exact exec_appF rfl rfl rfl hr7
      simp only [Act.put, zzA, zzB, zzC]; refine wpAnyH_done (by kernel_rfl) ?_ _; have f7 : w7.frozen? ⟨cb, 1, none⟩ = false := frozen_of_row _ _ _ _ _ hbx7
      obtain ⟨w8, e8⟩ : ∃ w8, w8 = w7.setCell ⟨cb, 1, none⟩ (.slice (some ⟨g6, 0, none⟩) (j + 1) cap6) := ⟨_, rfl⟩
      refine tail_store (some 60) (by rfl) (by rfl) (by rfl) (v := .pointer (some ⟨cb, 1, none⟩)) ?_ (by rfl) (by rfl) (by rfl) (w' := w8) ?_ ?_
      ·simp [execOp, go_sem, Act.eval]
      ·rw [e8]; simp [execOp, go_sem, Act.eval, Act.put, hS7, f7]
      simp only [Act.put, zzA, zzB, zzC]; rw [← e8, ← HTS.out] at hA7; have HA8 : Hid _ := hA7; clear hA7 e8 f7 hS7 hbx7 hr7 hft hA6 kn hb56 hbx e6 hb5' HF7; go_wp2_with fail; go_roundw
      case rel => exact ⟨j + 1, some ⟨g6, 0, none⟩, cap6, V ++ [.iface tv xv], by omega, by go_num, HA8⟩
      case measure => simp [intOf]; omega
    ·obtain rfl : j = na := by omega
     have HBR : Hid (Below w.heap.size w wr) := ⟨HA.out.bel.os.trans HB5.out.os, HA.out.bel.tape.trans HB5.out.tape, HA.out.bel.output.trans HB5.out.output, Nat.le_trans HB5.out.size HA.out.bel.size, fun k hk => (HA.out.bel.block k (by have h1 := HCB.out; have h2 := HB5.out.size; omega)).trans (HB5.out.block k hk)⟩
     have hAT : ArgT wr p ts := by
      have h := HA.out.args; rw [List.take_of_length_le (by rw [HNA.out]; exact Nat.le_refl _)] at h; exact h
     have kf : wr.heap[F]? = some (.cells #[.string nm, .int .i64 j] 78) := (HA.out.bel.block _ (by have := HCB.out; have := HF6.out.2.2.2.2; omega)).trans HF6.out.1; have kr : wr.heap[RB]? = some (.cells #[.slice none 0 0, .slice none 0 0, .slice none 0 0, .slice none 0 0] 40) := (HA.out.bel.block _ (by have := HCB.out; have := HF6.out.2.2.1; omega)).trans HF6.out.2.1; have hm : BuIn wr b 92 buTab := HM6.out.of (HA.out.bel.block _ (by have := HCB.out; have := HM6.out.lt; omega)); have kc := HA.out.box; have HRR := HRU.out wr b p c HBR.out hm hAT; have g0 := cell_of_row _ _ 0 _ _ _ kf; have g1 := cell_of_row _ _ 1 _ _ _ kf; have h0 := cell_of_row _ _ 0 _ _ _ kc; have h1 := cell_of_row _ _ 1 _ _ _ kc; have h2 := cell_of_row _ _ 2 _ _ _ kc
     have HKR : Hid (wr.heap[RB]? = some (.cells #[.slice none 0 0, .slice none 0 0, .slice none 0 0, .slice none 0 0] 40) ∧ RB < wr.heap.size) := ⟨kr, (Array.getElem?_eq_some_iff.1 kr).1⟩
     clear HA hAT kf kr hm kc; go_wp2_with fail; refine HRR.mono ?_; rintro e wB ⟨x0, x1, x2, rfl, q0, q1, q2, hX, hbB⟩; have hbC : Below wB.heap.size wB (wB.alloc (.cells #[x0, x1, x2] 88)) := (Below.refl _ _).alloc (Nat.le_refl _) _; have HBC : Hid (Below w.heap.size w (wB.alloc (.cells #[x0, x1, x2] 88))) := Below.on (Below.on HBR.out hbB) hbC; have HKC : Hid ((wB.alloc (.cells #[x0, x1, x2] 88)).heap[RB]? = some (.cells #[.slice none 0 0, .slice none 0 0, .slice none 0 0, .slice none 0 0] 40)) := (hbC.block _ (by have := hbB.size; have := HKR.out.2; omega)).trans ((hbB.block _ HKR.out.2).trans HKR.out.1); have HCI := HIC.out _ x0 x1 x2 HBC.out (HXB.out _ _ _ _ _ hX hbC); clear HRR hX hbB hbC g0 g1 h0 h1 h2
     have st0 := fun W a m => run_store Tryz.prog W a x0 m q0
     have st1 := fun W a m => run_store Tryz.prog W a x1 m q1
     have st2 := fun W a m => run_store Tryz.prog W a x2 m q2
     go_wp2_with fail; refine HCI.mono ?_; rintro e wD ⟨v0, v1, v2, v3, rfl, z0, z1, z2, z3, hY, hbD⟩; have kD := (hbD.block _ (Array.getElem?_eq_some_iff.1 HKC.out).1).trans HKC.out; have r0 := cell_of_row _ _ 0 _ _ _ kD; have r1 := cell_of_row _ _ 1 _ _ _ kD; have r2 := cell_of_row _ _ 2 _ _ _ kD; have r3 := cell_of_row _ _ 3 _ _ _ kD
     have rf := fun k => frozen_of_row _ _ k _ _ kD
     have HP : Hid _ := wr4_box kD v0 v1 v2 v3
     have FIN : Hid (Y v0 v1 v2 v3 (wr4 wD RB v0 v1 v2 v3) ∧ Below w.heap.size w (wr4 wD RB v0 v1 v2 v3)) := ⟨HYW.out _ _ _ _ _ _ _ _ _ _ hY kD, wr4_below (Below.on HBC.out hbD) HF6.out.2.2.2.1 _ _ _ _⟩
     clear HCI hY hbD kD st0 st1 st2
     have st0 := fun W a m => run_store Tryz.prog W a v0 m z0
     have st1 := fun W a m => run_store Tryz.prog W a v1 m z1
     have st2 := fun W a m => run_store Tryz.prog W a v2 m z2
     have st3 := fun W a m => run_store Tryz.prog W a v3 m z3
     go_wp2
     obtain ⟨d0, d1, d2, d3⟩ := HP.out; exact bodyPost_ret (v := .tuple #[.agg #[v0, v1, v2, v3], .int .i64 code]) (by simp [results, Tryz.results13, go_sem, d0, d1, d2, d3]) rfl ⟨v0, v1, v2, v3, rfl, FIN.out⟩
 case zB =>
  obtain ⟨w3, e3⟩ : ∃ w3, w3 = w1.drew.alloc (.cells #[.string ⟨#[]⟩, .int .i64 0] 78) := ⟨_, rfl⟩
  have hB3 : Below w1.heap.size w1 w3 := by rw [e3]; exact ((Below.refl _ _).drew).alloc (Nat.le_refl _) _
  have k3 : w3.heap[w1.heap.size]? = some (.cells #[.string ⟨#[]⟩, .int .i64 0] 78) := by rw [e3]; exact heap_alloc_new w1.drew _
  refine opStep (v := .pointer (some ⟨w1.heap.size, 0, none⟩)) (w' := w3) (some 11) (by kernel_rfl) (by kernel_rfl) (fun o ho => ?y8) ⟨hB3, ?_⟩
  case y8 =>
   cases ho
   rw [e3]
   simp [execOp, go_sem, Act.eval]
  simp only [Act.put, zzA, zzB, zzC]; refine hCallE (i := 0) (f := 32) (args := #[]) (some 17) (by kernel_rfl) (by kernel_rfl) (by kernel_rfl) (fun o ho => ?c600) (HNB.out w3) ?k600 (fun ch w' h => by obtain ⟨_, h, _⟩ := h; cases h) (fun w' h => by obtain ⟨_, h, _⟩ := h; cases h)
  case c600 => cases ho; simp [execOp, go_sem, Act.eval]
  case k600 =>
   rintro u w4 ⟨b, hu, hM, hb4⟩; obtain rfl := Ending.returned.inj hu; have hB4 : Below w1.heap.size w1 w4 := Below.on hB3 hb4; have kF := (hb4.block _ (Array.getElem?_eq_some_iff.1 k3).1).trans k3; have hF : w1.heap.size ≤ w1.heap.size := Nat.le_refl _; clear hu hb4 hB3 k3 e3; refine ⟨hB4, ?_⟩; simp only [Act.put, zzA, zzB, zzC]; refine hTk (i := 7) (v := .map (some b)) (some 10) (fun o ho W hSw => ?y601) (by assumption) ?_
   case y601 => cases ho; simp [execOp, go_sem, Act.eval]
   simp only [Act.put, zzA, zzB, zzC]
   obtain ⟨w5, e5⟩ : ∃ w5, w5 = (w4.setCell ⟨w1.heap.size, 0, none⟩ (.string nm)).setCell ⟨w1.heap.size, 1, none⟩ (.int .i64 na) := ⟨_, rfl⟩
   have hB5 : Below w1.heap.size w1 w5 := by rw [e5]; exact wr2_below hB4 hF _ _
   have f0 := cell_of_row _ _ 0 _ _ _ kF; have f1 := cell_of_row _ _ 1 _ _ _ kF
   have ff := fun k => frozen_of_row _ _ k _ _ kF
   refine hStepS (i := 8) (w' := w5) none (by kernel_rfl) (by kernel_rfl) (by kernel_rfl) (fun o ho => ?y9) hB5 ?_
   case y9 =>
    cases ho
    rw [e5]
    simp [execOp, go_sem, Act.eval, f0, f1, ff]
   simp only [Act.put, zzA, zzB, zzC]; refine wpAnyH_done (by kernel_rfl) ?_ _
   change Exit.then _ _ _ _ w5
   have kF5 : w5.heap[w1.heap.size]? = some (.cells #[.string nm, .int .i64 na] 78) := by rw [e5]; exact wr2_block kF _ _
   have hM5 : BuIn w5 b 92 buTab := by
    refine hM.of ?_; rw [e5]; exact wr2_other (fun e => by obtain ⟨_, _, h⟩ := hM.mapB; rw [e, kF] at h; cases h)
   have HM5 : Hid (BuIn w5 b 92 buTab ∧ Below w1.heap.size w1 w5 ∧ w1.heap.size < w5.heap.size) := ⟨hM5, hB5, (Array.getElem?_eq_some_iff.1 kF5).1⟩
   have HF5 : Hid (w5.heap[w1.heap.size]? = some (.cells #[.string nm, .int .i64 na] 78)) := kF5; clear hM hB4 hF kF e5 hB5 f0 f1 ff kF5 hM5
   obtain ⟨cb, ecb⟩ : ∃ cb, cb = w5.heap.size := ⟨_, rfl⟩
   obtain ⟨w6, e6⟩ : ∃ w6, w6 = w5.alloc (.cells #[.slice p0 n0 c0, .slice none 0 0, .int .i64 fr] 85) := ⟨_, rfl⟩
   have hb6 : Below w5.heap.size w5 w6 := by rw [e6]; exact (Below.refl _ _).alloc (Nat.le_refl _) _
   have k6 : w6.heap[cb]? = some (.cells #[.slice p0 n0 c0, .slice none 0 0, .int .i64 fr] 85) := by rw [ecb, e6]; exact heap_alloc_new _ _
   have lk := HLK.out w5 b HM5.out.1; have nk := func_nil K w5; have HV5 := HVO.out w5 (Below.on HB1.out HM5.out.2.1); have g0 := cell_of_row _ _ 0 _ _ _ HF5.out; have g1 := cell_of_row _ _ 1 _ _ _ HF5.out; clear e6 k6 hb6 w6 ecb cb; go_wp2_with fail; refine HV5.mono ?_; rintro e v5 ⟨rfl, hv5⟩; have HB5 : Hid (Below w.heap.size w v5) := Below.on (Below.on HB1.out HM5.out.2.1) hv5; have HM6 : Hid (BuIn v5 b 92 buTab) := HM5.out.1.below hv5
   have HF6 : Hid (v5.heap[w1.heap.size]? = some (.cells #[.string nm, .int .i64 na] 78) ∧ v5.heap[RB]? = some (.cells #[.slice none 0 0, .slice none 0 0, .slice none 0 0, .slice none 0 0] 40) ∧ RB < v5.heap.size ∧ w.heap.size ≤ RB ∧ w1.heap.size < v5.heap.size) := by
    have h1 := HM5.out.2.1; have h2 := HK1.out; have h3 := HM5.out.2.2; have h4 := h1.size; have h5 := hv5.size; exact ⟨(hv5.block _ h3).trans HF5.out, (hv5.block _ (by omega)).trans ((h1.block _ h2.2.2).trans h2.1), by omega, by omega, by omega⟩
   obtain ⟨cb, ecb⟩ : ∃ cb, cb = v5.heap.size := ⟨_, rfl⟩
   obtain ⟨w6, e6⟩ : ∃ w6, w6 = v5.alloc (.cells #[.slice p0 n0 c0, .slice none 0 0, .int .i64 fr] 85) := ⟨_, rfl⟩
   have hb6 : Below v5.heap.size v5 w6 := by rw [e6]; exact (Below.refl _ _).alloc (Nat.le_refl _) _
   have k6 : w6.heap[cb]? = some (.cells #[.slice p0 n0 c0, .slice none 0 0, .int .i64 fr] 85) := by rw [ecb, e6]; exact heap_alloc_new _ _
   have HA6 : Hid (AT v5 w6 cb none 0 0 [] [] (.slice p0 n0 c0) (.int .i64 fr)) := ⟨by rw [ecb]; exact hb6, ⟨rfl, rfl⟩, World.ownsRow_nil _ _ _ _, k6, fun i hi => absurd hi (Nat.not_lt_zero _)⟩
   have HCB : Hid (cb = v5.heap.size) := ecb; clear lk nk HV5 g0 g1 hv5 hb6 k6 HM5 HF5; go_wp2_with fail; rw [← e6, ← ecb]; clear e6 ecb
   go_loopw [46] (fun i wr => ∃ (j : Nat) (p : Option Addr) (c : Nat) (V : List Value), j ≤ na ∧ i = .int .i64 j ∧ Hid (AT v5 wr cb p j c V (ts.take j) (.slice p0 n0 c0) (.int .i64 fr))) (fun i _ => na - (intOf i).toNat)
   case atStart => exact ⟨0, none, 0, [], Nat.zero_le _, rfl, HA6.out⟩
   case round =>
    obtain ⟨j, p, c, V, hj, rfl, HA⟩ := hrel
    by_cases hlt : j < na
    ·obtain ⟨g, q, cc, rfl, y0, hci, hcc, hcm⟩ := HIN.out j (by rw [← HNA.out]; exact hlt)
     obtain ⟨o1, o2, o3⟩ := HOK.out j (by rw [← HNA.out]; exact hlt)
     obtain ⟨A, eA⟩ : ∃ A, A = ts.getD j T0 := ⟨_, rfl⟩
     rw [← eA] at y0 hci hcc o1 o2 o3
     have HTS : Hid (ts.take (j + 1) = ts.take j ++ [A]) := by
      have h : j < ts.length := by rw [← HNA.out]; exact hlt
      rw [eA, List.take_succ_eq_append_getElem h, List.getD, List.getElem?_eq_getElem h]
      rfl
     have hbr : Below w.heap.size w wr := ⟨HA.out.bel.os.trans HB5.out.os, HA.out.bel.tape.trans HB5.out.tape, HA.out.bel.output.trans HB5.out.output, Nat.le_trans HB5.out.size HA.out.bel.size, fun k hk => (HA.out.bel.block k (by have h1 := HCB.out; have h2 := HB5.out.size; omega)).trans (HB5.out.block k hk)⟩
     have yr := (hbr.cell (World.block_lt_of_cell? _ _ y0)).trans y0
     obtain ⟨m, em⟩ : ∃ m, m = A.cs.length := ⟨_, rfl⟩
     have hVT := implValid_any q cc A.cs wr (by omega) (hci.below hbr); rw [o2, ← em] at hVT; rw [← em] at yr hcc o3
     have HTO : Hid (∀ W, Below w.heap.size w W → Calls Tryz.prog 24 #[.slice q m cc] W fun e w' => ∃ v, e = .returned v ∧ FoIn w' W.heap.size A.fo [v] ∧ Below W.heap.size W w') := fun W hW => termOf_any A.1 A.2 q m cc W o1 (by rw [em]; simp [Tr.cs]) hcc hcm (hci.below hW)
     have HBR : Hid (Below w.heap.size w wr) := hbr
     have hj1 : j ≤ 1000 := by omega
     clear y0 hci hcc hcm o1 o2 eA hbr em o3; go_wp2_with fail; refine hVT.mono ?_; rintro e wA ⟨rfl, hbA⟩; have HAA : Hid (AT v5 wA cb p j c V (ts.take j) (.slice p0 n0 c0) (.int .i64 fr)) := HA.out.below hbA; have HBA : Hid (Below w.heap.size w wA) := Below.on HBR.out hbA; have hp0 := cell_of_row _ _ 1 _ _ _ HAA.out.box
     have HKEEP : Hid (∀ W, Below wA.heap.size wA W → W.cell? ⟨cb, 1, none⟩ = some (.slice p j c)) := fun W hW => (hW.cell (World.block_lt_of_cell? _ _ hp0)).trans hp0
     clear hVT hbA yr HA HBR hp0; go_wp2_with fail; have HBD : Hid (Below w.heap.size w wA.drew) := HBA.out.trans (Below.refl _ _).drew; have hS0 := HKEEP.out _ (Below.refl _ _).drew; refine wp_region_any (by kernel_rfl) ?_; refine wpAny_tail (p := 6) (S := fun W => W.cell? ⟨cb, 1, none⟩ = some (.slice p j c)) (by kernel_rfl) 6 _ _ _ rfl (clo_start _ _ _) (by kernel_rfl) (by kernel_rfl) ?_
     change wpAnyH _ _ _ _ _ _ _ _ wA.drew
     refine hTk (i := 0) (v := .pointer (some ⟨cb, 1, none⟩)) (some 54) (fun o ho W hSw => ?y652) (by assumption) ?_
     case y652 => cases ho; simp [execOp, go_sem, Act.eval]
     simp only [Act.put, zzA, zzB, zzC]; refine hTk (i := 1) (v := .slice p j c) (some 55) (fun o ho W hSw => ?y653) (by assumption) ?_
     case y653 => cases ho; simp [execOp, go_sem, Act.eval, hSw]
     simp only [Act.put, zzA, zzB, zzC]; refine hTk (i := 2) (v := .slice q m cc) (some 56) (fun o ho W hSw => ?y654) (by assumption) ?_
     case y654 => cases ho; simp [execOp, go_sem, Act.eval]
     simp only [Act.put, zzA, zzB, zzC]; refine hCallE (i := 3) (f := 24) (args := #[.slice q m cc]) (some 57) (by kernel_rfl) (by kernel_rfl) (by kernel_rfl) (fun o ho => ?c655) (HTO.out _ HBD.out) ?k655 (fun ch w' hh => by obtain ⟨_, h, _⟩ := hh; cases h) (fun w' hh => by obtain ⟨_, h, _⟩ := hh; cases h)
     case c655 => cases ho; simp [execOp, go_sem, Act.eval]
     case k655 =>
      rintro u5 w5' ⟨v, hu5, hf5, hb5⟩; obtain rfl := Ending.returned.inj hu5; obtain ⟨tv, xv, rfl⟩ := FoIn.iface (c := A.1) (k := A.2) (r := .nil) hf5; have hb5' : Below wA.heap.size wA w5' := (Below.refl _ _).drew.trans hb5; have HF7 : Hid (FoIn w5' wA.heap.size A.fo [.iface tv xv]) := hf5; clear hu5 hf5 hb5 hS0; refine ⟨HKEEP.out w5' hb5', ?_⟩; simp only [Act.put, zzA, zzB, zzC]; have hbx : Below wA.heap.size wA (w5'.alloc (.cells #[.iface tv xv] 58)) := hb5'.alloc hb5'.size _; refine hStep (i := 4) (v := .slice (some ⟨w5'.heap.size, 0, none⟩) 1 1) (w' := w5'.alloc (.cells #[.iface tv xv] 58)) (some 58) (by kernel_rfl) (by kernel_rfl) (by kernel_rfl) (fun o ho => ?y656) (HKEEP.out _ hbx) ?_
      case y656 => cases ho; simp [execOp, go_sem, Act.eval]
      simp only [Act.put, zzA, zzB, zzC]
      obtain ⟨w6', e6⟩ : ∃ w6', w6' = w5'.alloc (.cells #[.iface tv xv] 58) := ⟨_, rfl⟩
      have kn : w6'.cell? ⟨w5'.heap.size, 0, none⟩ = some (.iface tv xv) := by rw [e6]; exact cell_of_row _ _ 0 _ _ _ (heap_alloc_new _ _)
      have hb56 : Below w5'.heap.size w5' w6' := by rw [e6]; exact (Below.refl _ _).alloc (Nat.le_refl _) _
      rw [← e6] at hbx; rw [← e6]; have hA6 := HAA.out.below hbx
      have hft : FoA (fun k => k = cb ∨ some k = Value.ownBlock (.slice p j c)) w6' A.fo [.iface tv xv] := foA_upF (HF7.out.below hb56) (fun a ha => by
       rcases ha with rfl | ha
       ·exact HAA.out.lt
       ·obtain ⟨_, _, _, _, h⟩ := HAA.out.rowT ha.symm
        exact h)
      obtain ⟨g6, cap6, w7, hr7, hA7, hbx7⟩ := hA6.app 83 A (.iface tv xv) w5'.heap.size hft kn rfl hj1; have hS7 := cell_of_row _ _ 1 _ _ _ hbx7; refine hStep (i := 5) (v := .slice (some ⟨g6, 0, none⟩) (j + 1) cap6) (w' := w7) (some 59) (by kernel_rfl) (by kernel_rfl) (by kernel_rfl) (fun o ho => ?y6) hS7 ?_
      case y6 =>
       cases ho
       exact exec_appF rfl rfl rfl hr7
      simp only [Act.put, zzA, zzB, zzC]; refine wpAnyH_done (by kernel_rfl) ?_ _; have f7 : w7.frozen? ⟨cb, 1, none⟩ = false := frozen_of_row _ _ _ _ _ hbx7
      obtain ⟨w8, e8⟩ : ∃ w8, w8 = w7.setCell ⟨cb, 1, none⟩ (.slice (some ⟨g6, 0, none⟩) (j + 1) cap6) := ⟨_, rfl⟩
      refine tail_store (some 60) (by rfl) (by rfl) (by rfl) (v := .pointer (some ⟨cb, 1, none⟩)) ?_ (by rfl) (by rfl) (by rfl) (w' := w8) ?_ ?_
      ·simp [execOp, go_sem, Act.eval]
      ·rw [e8]; simp [execOp, go_sem, Act.eval, Act.put, hS7, f7]
      simp only [Act.put, zzA, zzB, zzC]; rw [← e8, ← HTS.out] at hA7; have HA8 : Hid _ := hA7; clear hA7 e8 f7 hS7 hbx7 hr7 hft hA6 kn hb56 hbx e6 hb5' HF7; go_wp2_with fail; go_roundw
      case rel => exact ⟨j + 1, some ⟨g6, 0, none⟩, cap6, V ++ [.iface tv xv], by omega, by go_num, HA8⟩
      case measure => simp [intOf]; omega
    ·obtain rfl : j = na := by omega
     have HBR : Hid (Below w.heap.size w wr) := ⟨HA.out.bel.os.trans HB5.out.os, HA.out.bel.tape.trans HB5.out.tape, HA.out.bel.output.trans HB5.out.output, Nat.le_trans HB5.out.size HA.out.bel.size, fun k hk => (HA.out.bel.block k (by have h1 := HCB.out; have h2 := HB5.out.size; omega)).trans (HB5.out.block k hk)⟩
     have hAT : ArgT wr p ts := by
      have h := HA.out.args; rw [List.take_of_length_le (by rw [HNA.out]; exact Nat.le_refl _)] at h; exact h
     have kf : wr.heap[w1.heap.size]? = some (.cells #[.string nm, .int .i64 j] 78) := (HA.out.bel.block _ (by have := HCB.out; have := HF6.out.2.2.2.2; omega)).trans HF6.out.1; have kr : wr.heap[RB]? = some (.cells #[.slice none 0 0, .slice none 0 0, .slice none 0 0, .slice none 0 0] 40) := (HA.out.bel.block _ (by have := HCB.out; have := HF6.out.2.2.1; omega)).trans HF6.out.2.1; have hm : BuIn wr b 92 buTab := HM6.out.of (HA.out.bel.block _ (by have := HCB.out; have := HM6.out.lt; omega)); have kc := HA.out.box; have HRR := HRU.out wr b p c HBR.out hm hAT; have g0 := cell_of_row _ _ 0 _ _ _ kf; have g1 := cell_of_row _ _ 1 _ _ _ kf; have h0 := cell_of_row _ _ 0 _ _ _ kc; have h1 := cell_of_row _ _ 1 _ _ _ kc; have h2 := cell_of_row _ _ 2 _ _ _ kc
     have HKR : Hid (wr.heap[RB]? = some (.cells #[.slice none 0 0, .slice none 0 0, .slice none 0 0, .slice none 0 0] 40) ∧ RB < wr.heap.size) := ⟨kr, (Array.getElem?_eq_some_iff.1 kr).1⟩
     clear HA hAT kf kr hm kc; go_wp2_with fail; refine HRR.mono ?_; rintro e wB ⟨x0, x1, x2, rfl, q0, q1, q2, hX, hbB⟩; have hbC : Below wB.heap.size wB (wB.alloc (.cells #[x0, x1, x2] 88)) := (Below.refl _ _).alloc (Nat.le_refl _) _; have HBC : Hid (Below w.heap.size w (wB.alloc (.cells #[x0, x1, x2] 88))) := Below.on (Below.on HBR.out hbB) hbC; have HKC : Hid ((wB.alloc (.cells #[x0, x1, x2] 88)).heap[RB]? = some (.cells #[.slice none 0 0, .slice none 0 0, .slice none 0 0, .slice none 0 0] 40)) := (hbC.block _ (by have := hbB.size; have := HKR.out.2; omega)).trans ((hbB.block _ HKR.out.2).trans HKR.out.1); have HCI := HIC.out _ x0 x1 x2 HBC.out (HXB.out _ _ _ _ _ hX hbC); clear HRR hX hbB hbC g0 g1 h0 h1 h2
     have st0 := fun W a m => run_store Tryz.prog W a x0 m q0
     have st1 := fun W a m => run_store Tryz.prog W a x1 m q1
     have st2 := fun W a m => run_store Tryz.prog W a x2 m q2
     go_wp2_with fail; refine HCI.mono ?_; rintro e wD ⟨v0, v1, v2, v3, rfl, z0, z1, z2, z3, hY, hbD⟩; have kD := (hbD.block _ (Array.getElem?_eq_some_iff.1 HKC.out).1).trans HKC.out; have r0 := cell_of_row _ _ 0 _ _ _ kD; have r1 := cell_of_row _ _ 1 _ _ _ kD; have r2 := cell_of_row _ _ 2 _ _ _ kD; have r3 := cell_of_row _ _ 3 _ _ _ kD
     have rf := fun k => frozen_of_row _ _ k _ _ kD
     have HP : Hid _ := wr4_box kD v0 v1 v2 v3
     have FIN : Hid (Y v0 v1 v2 v3 (wr4 wD RB v0 v1 v2 v3) ∧ Below w.heap.size w (wr4 wD RB v0 v1 v2 v3)) := ⟨HYW.out _ _ _ _ _ _ _ _ _ _ hY kD, wr4_below (Below.on HBC.out hbD) HF6.out.2.2.2.1 _ _ _ _⟩
     clear HCI hY hbD kD st0 st1 st2
     have st0 := fun W a m => run_store Tryz.prog W a v0 m z0
     have st1 := fun W a m => run_store Tryz.prog W a v1 m z1
     have st2 := fun W a m => run_store Tryz.prog W a v2 m z2
     have st3 := fun W a m => run_store Tryz.prog W a v3 m z3
     go_wp2
     obtain ⟨d0, d1, d2, d3⟩ := HP.out; exact bodyPost_ret (v := .tuple #[.agg #[v0, v1, v2, v3], .int .i64 code]) (by simp [results, Tryz.results13, go_sem, d0, d1, d2, d3]) rfl ⟨v0, v1, v2, v3, rfl, FIN.out⟩
theorem bKey_injL {i j : Nat} (hi : i < 45) (hj : j < 45) (h : bKey i = bKey j) : i = j := by
 have h1 := congrArg Prod.fst h; have h2 := congrArg Prod.snd h; have h3 : bEnt i = bEnt j := Prod.ext (bOf_inj h1) h2; have := List.all_eq_true.1 (List.all_eq_true.1 bEnt_inj i (List.mem_range.2 hi)) j (List.mem_range.2 hj); exact (of_decide_eq_true this) h3
theorem buTab_at (j : Nat) (hj : j < 45) : buTab (bKey j) = some (bFn j) := by
 unfold buTab
 cases h : (List.range 45).find? fun i => decide (bKey i = bKey j) with
 | none =>
   have := List.find?_eq_none.1 h j (List.mem_range.2 hj)
   simp at this
 | some i =>
   have h1 := List.find?_some h; have h2 := List.mem_of_find?_eq_some h; rw [bKey_injL (List.mem_range.1 h2) hj (of_decide_eq_true h1)]
   rfl
def smallT (A : Tr) : Prop := A.fo.ok ∧ A.2.cells.length + 1 ≤ 2000 ∧ ∀ x ∈ A.cs, x.2.2.length ≤ 100
theorem smallT.no {A : Tr} (h : smallT A) {v : Value} {W : World} (hf : FoIn W 0 A.fo [v]) : Calls Tryz.prog 178 #[v] W fun e w' => e = .returned (.bool false) ∧ Below W.heap.size W w' :=
 beyond1_no A.1 A.2 v 0 W h.1 hf h.2.1 h.2.2
theorem beyond_pair (A B : Tr) (hA : smallT A) (hB : smallT B) (g : Nat) (ta tb : TypeId) (a b : Value) (w : World) (h0 : w.cell? ⟨g, 0, none⟩ = some (.iface ta a)) (h1 : w.cell? ⟨g, 1, none⟩ = some (.iface tb b)) (hfa : FoIn w 0 A.fo [.iface ta a]) (hfb : FoIn w 0 B.fo [.iface tb b]) :
  Calls Tryz.prog 103 #[efV3 (some ⟨g, 0, none⟩) 1 1] w fun e w' => e = .returned (.bool false) ∧ Below w.heap.size w w' :=
 beyond_no _ _ _ w (fun W hW => (terms_pair g ta tb a b W ((hW.cell (World.block_lt_of_cell? _ _ h0)).trans h0) ((hW.cell (World.block_lt_of_cell? _ _ h1)).trans h1)).mono fun e w' h => by
  obtain ⟨g', cap, h1', h2', h3', hb'⟩ := h; refine ⟨_, 2, cap, h1', by decide, fun i hi => ?_, hb'⟩; have hbw : Below w.heap.size w w' := Below.on hW hb'
  rcases (by omega : i = 0 ∨ i = 1) with rfl | rfl
  ·exact ⟨g', ta, a, rfl, h2', fun V hV => hA.no (hfa.below (Below.on hbw hV))⟩
  ·exact ⟨g', tb, b, rfl, h3', fun V hV => hB.no (hfb.below (Below.on hbw hV))⟩) rfl rfl rfl
theorem two_ofL {W : World} {p : Option Addr} {A B : Tr} (h : ArgT W p [A, B]) : ∃ g va vb, p = some ⟨g, 0, none⟩ ∧ Two W g va vb ∧ FoIn W 0 A.fo [va] ∧ FoIn W 0 B.fo [vb] := by
 obtain ⟨g, v, rfl, h1, h2⟩ := h 0 (by simp); obtain ⟨g', u, e, h3, h4⟩ := h 1 (by simp)
 obtain rfl : g = g' := by simpa using e
 exact ⟨g, v, u, rfl, ⟨h1, h3⟩, h2, h4⟩
theorem var_of {W : World} {B : Nat} {n : Int} {v : Value} (h : FoIn W B (.node (0, n, []) .nil .nil) [v]) : v = .iface 82 (.int .i64 n) := by
 obtain ⟨v', vr, e, hn, _⟩ := h; obtain ⟨rfl, _⟩ := List.cons.inj e
 rcases hn with ⟨_, rfl⟩ | ⟨h, _⟩ | ⟨h, _⟩ | ⟨h, _⟩
 ·rfl
 all_goals cases h
theorem ok_text : ∀ F : Fo, F.ok → ∀ x ∈ F.cells, x.2.2.length ≤ 100
 | .nil, _, x, hx => by simp [Fo.cells] at hx
 | .node c k r, h, x, hx => by
   simp only [Fo.cells, List.mem_cons, List.mem_append] at hx
   rcases hx with rfl | hx | hx
   ·have := h.1
    simp only [cellB, decide_eq_true_eq] at this
    omega
   ·exact ok_text k h.2.2.2.2.1 x hx
   ·exact ok_text r h.2.2.2.2.2 x hx
theorem smallT.of {A : Tr} (h : A.fo.ok) (hl : A.2.cells.length + 1 ≤ 2000) : smallT A := ⟨h, hl, fun x hx => ok_text A.fo h x (by simpa [Tr.fo, Fo.cells, Tr.cs] using hx)⟩
structure BuW (w : World) (a a2 : Addr) (p0 : Option Addr) (n0 c0 : Nat) : Prop where
 fl : w.cell? ⟨1, 0, none⟩ = some (erV a)
 by' : w.cell? ⟨2, 0, none⟩ = some (erV a2)
 et : etG w
 ops : ∀ W, Below w.heap.size w W → Calls Tryz.prog 33 #[.slice p0 n0 c0] W fun e w' => e = .returned (.bool true) ∧ Below W.heap.size W w'
theorem BuW.below {w W : World} {a a2 : Addr} {p0 : Option Addr} {n0 c0 : Nat} (h : BuW w a a2 p0 n0 c0) (hb : Below w.heap.size w W) : BuW W a a2 p0 n0 c0 :=
 ⟨(hb.cell (World.block_lt_of_cell? _ _ h.fl)).trans h.fl, (hb.cell (World.block_lt_of_cell? _ _ h.by')).trans h.by', h.et.below hb, fun W' h' => h.ops W' (Below.on hb h')⟩
def BuOk (w : World) (code : Int) (L R : List (List Cel)) (e : Ending) (w' : World) : Prop := ∃ pl cl pr cr, e = .returned (.tuple #[.agg #[.slice pl L.length cl, .slice pr R.length cr, .slice none 0 0, .slice none 0 0], .int .i64 code]) ∧ CCIn w' pl L ∧ CCIn w' pr R ∧ Below w.heap.size w w' ∧ CapCC w' pr R
def YL (L R : List (List Cel)) : Value → Value → Value → Value → World → Prop := fun v0 v1 v2 v3 W => ∃ B pl cl pr cr, v0 = .slice pl L.length cl ∧ v1 = .slice pr R.length cr ∧ v2 = .slice none 0 0 ∧ v3 = .slice none 0 0 ∧ LS W B pl L.length cl L ∧ LS W B pr R.length cr R
theorem YL.set {L R : List (List Cel)} (v0 v1 v2 v3 : Value) (W : World) (T : Nat) (a b c d : Value) (h : YL L R v0 v1 v2 v3 W) (hT : W.heap[T]? = some (.cells #[.slice none 0 0, .slice none 0 0, .slice none 0 0, .slice none 0 0] 40)) : YL L R v0 v1 v2 v3 (wr4 W T a b c d) := by
 obtain ⟨B, pl, cl, pr, cr, h0, h1, h2, h3, h4, h5⟩ := h; exact ⟨B, pl, cl, pr, cr, h0, h1, h2, h3, wr4_ls h4 hT _ _ _ _, wr4_ls h5 hT _ _ _ _⟩
theorem YL.out {w : World} {code : Int} {L R : List (List Cel)} {e : Ending} {w' : World} (h : ∃ v0 v1 v2 v3, e = .returned (.tuple #[.agg #[v0, v1, v2, v3], .int .i64 code]) ∧ YL L R v0 v1 v2 v3 w' ∧ Below w.heap.size w w') : BuOk w code L R e w' := by
 obtain ⟨v0, v1, v2, v3, rfl, ⟨B, pl, cl, pr, cr, rfl, rfl, rfl, rfl, h4, h5⟩, hb⟩ := h; exact ⟨pl, cl, pr, cr, rfl, h4.ccin, h5.ccin, hb, h5.cap⟩
structure AB2 (w : World) (pn : Option Addr) (s : List Int) (pa : Option Addr) (A B : Tr) : Prop where
 nm : BIn w pn s
 ar : ArgsB w pa [A, B]
 ok : okTs [A, B]
end Go.Proofs.YtdmmchoicngblaaGreatDoor
