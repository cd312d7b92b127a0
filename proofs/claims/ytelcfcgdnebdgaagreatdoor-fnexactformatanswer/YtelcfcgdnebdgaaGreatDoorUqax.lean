/- Texts of WiU. Own work of the verifier. -/
import Derived.Test.YtelcfcgdnebdgaaGreatDoorUqaw
namespace Go.Proofs.YtelcfcgdnebdgaaGreatDoor
open Go Go.RowKit
set_option linter.unusedVariables false
def CompK (W0 : Bas) (wb b g n : Nat) (nm : List Int) : Prop := ∀ W, W0.grownBy W (some wb) → W.cell? ⟨b, 0, none⟩ = some (.string (strOfNums nm)) ∧ W.cell? ⟨b, 1, none⟩ = some (.slice (some ⟨g, 0, none⟩) n n)
def WwK (W0 : Bas) (wb : Nat) (K : WK) (T : List Cel) (b : Nat) (i : Int) : Prop := ∀ W, W0.grownBy W (some wb) → Calls Tryz.prog 88 #[.map (some K.1), .iface 108 (.pointer (some ⟨b, 0, none⟩))] W (WwOut W T i)
theorem ROut.txt {W0 : Bas} {w : World} {wb : Nat} {K : WK} {R X : List Int} {k : Nat} {e : Ending} {w' : World} (h : ROut W0 w wb K (putR R k X) e w') (hX : X ≠ []) : TxtOut W0 w wb K R k X e w' := by
  obtain ⟨h1, ⟨k', h2⟩, h3⟩ := h
  exact ⟨h1, ⟨k', fun h => absurd h hX, h2⟩, h3⟩
theorem quoted_head (xs : List Int) : ∃ r, quotedB xs = 39 :: r := by unfold quotedB; exact ⟨_, rfl⟩
theorem head_eq (q : Bool) (xs : List Int) (hl : xs.length ≤ 100) : headW q xs = if q = true ∧ (xs = [91, 93] ∨ xs = [123, 125]) then 39 :: (xs ++ [39]) else atomW q xs := by
  cases q with
  | false => unfold headW; rw [if_neg (by simp), if_neg (by simp)]
  | true =>
    have ea : atomW true xs = quoteB xs := rfl
    unfold headW
    rw [ea]
    by_cases h : xs = [91, 93] ∨ xs = [123, 125]
    · have e : quoteB xs = xs := by rcases h with rfl | rfl <;> decide
      rw [e]
    · have hn : ¬ (quoteB xs = [91, 93] ∨ quoteB xs = [123, 125]) := by
        unfold quoteB
        rw [if_neg (by omega)]
        cases hp : plainB xs with
        | true => rw [if_pos rfl]; exact h
        | false =>
          rw [if_neg (by decide)]
          obtain ⟨r, hr⟩ := quoted_head xs
          rw [hr]; simp
      rw [if_neg (fun h9 => hn h9.2), if_neg (fun h9 => h h9.2)]
set_option maxRecDepth 100000 in
set_option maxHeartbeats 1000000 in
theorem comp_oper {W0 : Bas} {wb : Nat} {K : WK} {T : List Cel} {i : Int} {b g n : Nat} {nm : List Int} (hWW : WwK W0 wb K T b i) (hC : CompK W0 wb b g n nm) (pri : Int) (h0 : 0 ≤ i) (hp : (opW T i).1 ≤ pri) (R : List Int) (k : Nat) (X : List Int) (hX : X ≠ []) (HOP : Hid (∀ (W : World), (∃ p n c, WS W0 W wb K p n c R k) → Calls Tryz.prog 90 #[.pointer (some ⟨wb, 0, none⟩), encV (opW T i), .slice (some ⟨g, 0, none⟩) n n] W (ROut W0 W wb K (putR R k X)))) (w : World) (hs : ∃ p n c, WS W0 w wb K p n c R k) :
    Calls Tryz.prog 63 #[.pointer (some ⟨wb, 0, none⟩), .pointer (some ⟨b, 0, none⟩), .int .i64 pri] w (TxtOut W0 w wb K R k X) := by
  have hwb : wb < w.heap.size := by obtain ⟨_, _, _, h⟩ := hs; have := h.hwb; have := h.gr.size; omega
  have c2 : w.cell? ⟨wb, 2, none⟩ = some (.map (some K.1)) := by obtain ⟨_, _, _, h⟩ := hs; exact h.c2
  have HWW := hWW w (WSx.gr hs)
  have HS : Hid (∃ p n c, WS W0 w wb K p n c R k) := hs
  have HC : Hid (CompK W0 wb b g n nm) := hC
  have HWB : Hid (wb < w.heap.size) := hwb
  have hf : decide (0 ≤ i) = true := decide_eq_true h0
  have HP : Hid ((opW T i).1 ≤ pri ∧ 0 ≤ i ∧ X ≠ []) := ⟨hp, h0, hX⟩
  clear h0 hp hX
  clear hWW hs hC hwb
  go_enter Tryz.func63, Tryz.ntmps63
  go_wp2_with fail
  refine HWW.mono ?_
  rintro e w1 ⟨so, po, to, rfl, henc, hb1⟩
  have HBA : Hid (Below w.heap.size w (w1.alloc (.cells #[.string so, .int .i64 po, .int .i64 to] 97))) := hb1.alloc hb1.size _
  have HSA : Hid (∃ p n c, WS W0 (w1.alloc (.cells #[.string so, .int .i64 po, .int .i64 to] 97)) wb K p n c R k) := WSx.below HS.out HBA.out
  have HKA : Hid (Kept w (w1.alloc (.cells #[.string so, .int .i64 po, .int .i64 to] 97)) wb) := Kept.below HBA.out
  have HBX : Hid (∀ W, Kept (w1.alloc (.cells #[.string so, .int .i64 po, .int .i64 to] 97)) W wb → BoxAt W w1.heap.size (.string so) (.int .i64 po) (.int .i64 to)) := fun W hW => box_kept (Nat.lt_of_lt_of_le HWB.out hb1.size) hW
  have he := henc HP.out.2.1
  have HOP1 : Hid (∀ (W : World), (∃ p n c, WS W0 W wb K p n c R k) → Calls Tryz.prog 90 #[.pointer (some ⟨wb, 0, none⟩), .agg #[.string so, .int .i64 po, .int .i64 to], .slice (some ⟨g, 0, none⟩) n n] W (ROut W0 W wb K (putR R k X))) := fun W hW => by
    rw [he]; exact HOP.out W hW
  have hpo : decide (pri < po) = false := by
    unfold encV at he
    simp at he
    have := HP.out.1
    exact decide_eq_false (by omega)
  clear henc he hb1 HWW HOP
  go_wp2_with fail
  refine wp_region_held_drew (S := fun W => BoxAt W w1.heap.size (.string so) (.int .i64 po) (.int .i64 to) ∧ W.cell? ⟨b, 1, none⟩ = some (.slice (some ⟨g, 0, none⟩) n n)) (by kernel_rfl) ⟨HBX.out _ (Kept.drewN _ wb 1), (HC.out _ (WSx.gr (WSx.below HSA.out ((Below.refl _ _).drew)))).2⟩ (fun hHeld => ?_)
  have hSS : BoxAt (w1.alloc (.cells #[.string so, .int .i64 po, .int .i64 to] 97)).drew w1.heap.size (.string so) (.int .i64 po) (.int .i64 to) ∧ (w1.alloc (.cells #[.string so, .int .i64 po, .int .i64 to] 97)).drew.cell? ⟨b, 1, none⟩ = some (.slice (some ⟨g, 0, none⟩) n n) := ⟨HBX.out _ (Kept.drewN _ wb 1), (HC.out _ (WSx.gr (WSx.below HSA.out ((Below.refl _ _).drew)))).2⟩
  refine hTake (i := 0) (v := .pointer (some ⟨wb, 0, none⟩)) (some 56) (by kernel_rfl) (by kernel_rfl) (by kernel_rfl) (by kernel_rfl) (by kernel_rfl) (fun _ _ _ h => h) (fun o ho W hSw => ?y0) (by assumption) ?_
  case y0 =>
    cases ho
    obtain ⟨⟨s0, s1, s2⟩, s3⟩ := hSw
    simp [execOp, go_sem, Act.eval]
  simp only [Act.put, zzA, zzB, zzC]
  refine hTake (i := 1) (v := .agg #[.string so, .int .i64 po, .int .i64 to]) (some 57) (by kernel_rfl) (by kernel_rfl) (by kernel_rfl) (by kernel_rfl) (by kernel_rfl) (fun _ _ _ h => h) (fun o ho W hSw => ?y1) (by assumption) ?_
  case y1 =>
    cases ho
    obtain ⟨⟨s0, s1, s2⟩, s3⟩ := hSw
    simp [execOp, go_sem, Act.eval, s0, s1, s2]
  simp only [Act.put, zzA, zzB, zzC]
  refine hTake (i := 2) (v := .pointer (some ⟨b, 0, none⟩)) (some 58) (by kernel_rfl) (by kernel_rfl) (by kernel_rfl) (by kernel_rfl) (by kernel_rfl) (fun _ _ _ h => h) (fun o ho W hSw => ?y2) (by assumption) ?_
  case y2 =>
    cases ho
    obtain ⟨⟨s0, s1, s2⟩, s3⟩ := hSw
    simp [execOp, go_sem, Act.eval]
  simp only [Act.put, zzA, zzB, zzC]
  refine hTake (i := 3) (v := .pointer (some ⟨b, 0, none⟩)) (some 59) (by kernel_rfl) (by kernel_rfl) (by kernel_rfl) (by kernel_rfl) (by kernel_rfl) (fun _ _ _ h => h) (fun o ho W hSw => ?y3) (by assumption) ?_
  case y3 =>
    cases ho
    obtain ⟨⟨s0, s1, s2⟩, s3⟩ := hSw
    simp [execOp, go_sem, Act.eval]
  simp only [Act.put, zzA, zzB, zzC]
  refine hTake (i := 4) (v := .pointer (some ⟨b, 1, none⟩)) (some 60) (by kernel_rfl) (by kernel_rfl) (by kernel_rfl) (by kernel_rfl) (by kernel_rfl) (fun _ _ _ h => h) (fun o ho W hSw => ?y4) (by assumption) ?_
  case y4 =>
    cases ho
    obtain ⟨⟨s0, s1, s2⟩, s3⟩ := hSw
    simp [execOp, go_sem, Act.eval]
  simp only [Act.put, zzA, zzB, zzC]
  refine hTake (i := 5) (v := .slice (some ⟨g, 0, none⟩) n n) (some 61) (by kernel_rfl) (by kernel_rfl) (by kernel_rfl) (by kernel_rfl) (by kernel_rfl) (fun _ _ _ h => h) (fun o ho W hSw => ?y5) (by assumption) ?_
  case y5 =>
    cases ho
    obtain ⟨⟨s0, s1, s2⟩, s3⟩ := hSw
    simp [execOp, go_sem, Act.eval, s3]
  simp only [Act.put, zzA, zzB, zzC]
  refine hCallE (i := 6) (some 62) (by kernel_rfl) (by kernel_rfl) (by kernel_rfl) (fun o ho => ?y6) (HOP1.out _ (WSx.below HSA.out ((Below.refl _ _).drew))) ?_ (fun ch w' h => by obtain ⟨h, _⟩ := h; simp at h) (fun w' h => by obtain ⟨h, _⟩ := h; simp at h)
  case y6 =>
    cases ho
    simp [execOp, go_sem, Act.eval]
  rintro u w6 ⟨hu, hs6, hk6⟩
  cases hu
  have HK6 : Hid (Kept (w1.alloc (.cells #[.string so, .int .i64 po, .int .i64 to] 97)) w6 wb) := (Kept.drewN _ wb 1).trans hk6
  have HF : Hid (TxtOut W0 w wb K R k X (.returned (.tuple #[])) w6) := ROut.txt ⟨rfl, hs6, HKA.out.trans HK6.out⟩ HP.out.2.2
  refine ⟨⟨HBX.out w6 HK6.out, (HC.out _ (by obtain ⟨_, _, _, _, h⟩ := hs6; exact h.gr)).2⟩, ?_⟩
  clear hs6 hk6
  simp only [Act.put, zzA, zzB, zzC]
  refine wpAnyH_done (by kernel_rfl) ?_ _
  clear hHeld hSS
  first | exact bodyPost_end (v := .tuple #[]) (by simp [results, Tryz.results63, go_sem]) rfl HF.out | (change Exit.then _ _ _ _ _; go_wp2_with fail; exact bodyPost_end (v := .tuple #[]) (by simp [results, Tryz.results63, go_sem]) rfl HF.out)
set_option maxRecDepth 100000 in
set_option maxHeartbeats 1000000 in
theorem comp_par {W0 : Bas} {wb : Nat} {K : WK} {T : List Cel} {i : Int} {b g n : Nat} {nm : List Int} (hWW : WwK W0 wb K T b i) (hC : CompK W0 wb b g n nm) (pri : Int) (h0 : 0 ≤ i) (hp : pri < (opW T i).1) (R : List Int) (k : Nat) (X : List Int) (HIP : Hid (∀ (W : World), (∃ p n c, WS W0 W wb K p n c R k) → Calls Tryz.prog 89 #[.pointer (some ⟨wb, 0, none⟩), .iface 108 (.pointer (some ⟨b, 0, none⟩))] W (TxtOut W0 W wb K R k X))) (w : World) (hs : ∃ p n c, WS W0 w wb K p n c R k) :
    Calls Tryz.prog 63 #[.pointer (some ⟨wb, 0, none⟩), .pointer (some ⟨b, 0, none⟩), .int .i64 pri] w (TxtOut W0 w wb K R k X) := by
  have hwb : wb < w.heap.size := by obtain ⟨_, _, _, h⟩ := hs; have := h.hwb; have := h.gr.size; omega
  have c2 : w.cell? ⟨wb, 2, none⟩ = some (.map (some K.1)) := by obtain ⟨_, _, _, h⟩ := hs; exact h.c2
  have HWW := hWW w (WSx.gr hs)
  have HS : Hid (∃ p n c, WS W0 w wb K p n c R k) := hs
  have HC : Hid (CompK W0 wb b g n nm) := hC
  have HWB : Hid (wb < w.heap.size) := hwb
  have hf : decide (0 ≤ i) = true := decide_eq_true h0
  have HP : Hid (pri < (opW T i).1 ∧ 0 ≤ i) := ⟨hp, h0⟩
  clear h0 hp
  clear hWW hs hC hwb
  go_enter Tryz.func63, Tryz.ntmps63
  go_wp2_with fail
  refine HWW.mono ?_
  rintro e w1 ⟨so, po, to, rfl, henc, hb1⟩
  have HBA : Hid (Below w.heap.size w (w1.alloc (.cells #[.string so, .int .i64 po, .int .i64 to] 97))) := hb1.alloc hb1.size _
  have HSA : Hid (∃ p n c, WS W0 (w1.alloc (.cells #[.string so, .int .i64 po, .int .i64 to] 97)) wb K p n c R k) := WSx.below HS.out HBA.out
  have HKA : Hid (Kept w (w1.alloc (.cells #[.string so, .int .i64 po, .int .i64 to] 97)) wb) := Kept.below HBA.out
  have HBX : Hid (∀ W, Kept (w1.alloc (.cells #[.string so, .int .i64 po, .int .i64 to] 97)) W wb → BoxAt W w1.heap.size (.string so) (.int .i64 po) (.int .i64 to)) := fun W hW => box_kept (Nat.lt_of_lt_of_le HWB.out hb1.size) hW
  have he := henc HP.out.2
  have hpo : decide (pri < po) = true := by
    unfold encV at he
    simp at he
    have := HP.out.1
    exact decide_eq_true (by omega)
  clear henc he hb1 HWW
  have H2 := HIP.out _ HSA.out
  clear HIP
  go_wp2_with fail
  refine H2.mono ?_
  rintro e w2 ⟨rfl, h2, h3⟩
  have HF : Hid (TxtOut W0 w wb K R k X (.returned (.tuple #[])) w2) := ⟨rfl, h2, HKA.out.trans h3⟩
  clear h2 h3 H2
  go_wp2_with fail
  exact bodyPost_end (v := .tuple #[]) (by simp [results, Tryz.results63, go_sem]) rfl HF.out
set_option maxRecDepth 100000 in
set_option maxHeartbeats 1000000 in
theorem comp_list {W0 : Bas} {wb : Nat} {K : WK} {T : List Cel} {i : Int} {b g n : Nat} {nm : List Int} (hWW : WwK W0 wb K T b i) (hC : CompK W0 wb b g n nm) (pri : Int) (h0 : i < 0) (R : List Int) (k : Nat) (X : List Int) (hd : (strOfNums nm).toList = [46]) (hn : n = 2) (HLI : Hid (∀ (W : World), (∃ p n c, WS W0 W wb K p n c R k) → Calls Tryz.prog 92 #[.pointer (some ⟨wb, 0, none⟩), .pointer (some ⟨b, 0, none⟩)] W (TxtOut W0 W wb K R k X))) (w : World) (hs : ∃ p n c, WS W0 w wb K p n c R k) :
    Calls Tryz.prog 63 #[.pointer (some ⟨wb, 0, none⟩), .pointer (some ⟨b, 0, none⟩), .int .i64 pri] w (TxtOut W0 w wb K R k X) := by
  have hwb : wb < w.heap.size := by obtain ⟨_, _, _, h⟩ := hs; have := h.hwb; have := h.gr.size; omega
  have c2 : w.cell? ⟨wb, 2, none⟩ = some (.map (some K.1)) := by obtain ⟨_, _, _, h⟩ := hs; exact h.c2
  have HWW := hWW w (WSx.gr hs)
  have HS : Hid (∃ p n c, WS W0 w wb K p n c R k) := hs
  have HC : Hid (CompK W0 wb b g n nm) := hC
  have HWB : Hid (wb < w.heap.size) := hwb
  have hf : decide (0 ≤ i) = false := decide_eq_false (by omega)
  clear h0
  clear hWW hs hC hwb
  go_enter Tryz.func63, Tryz.ntmps63
  go_wp2_with fail
  refine HWW.mono ?_
  rintro e w1 ⟨so, po, to, rfl, henc, hb1⟩
  have HBA : Hid (Below w.heap.size w (w1.alloc (.cells #[.string so, .int .i64 po, .int .i64 to] 97))) := hb1.alloc hb1.size _
  have HSA : Hid (∃ p n c, WS W0 (w1.alloc (.cells #[.string so, .int .i64 po, .int .i64 to] 97)) wb K p n c R k) := WSx.below HS.out HBA.out
  have HKA : Hid (Kept w (w1.alloc (.cells #[.string so, .int .i64 po, .int .i64 to] 97)) wb) := Kept.below HBA.out
  have HBX : Hid (∀ W, Kept (w1.alloc (.cells #[.string so, .int .i64 po, .int .i64 to] 97)) W wb → BoxAt W w1.heap.size (.string so) (.int .i64 po) (.int .i64 to)) := fun W hW => box_kept (Nat.lt_of_lt_of_le HWB.out hb1.size) hW
  clear henc HWW hb1
  obtain ⟨z0, z1⟩ := HC.out _ (WSx.gr HSA.out)
  have HFU := functorW_any b g n (strOfNums nm) (w1.alloc (.cells #[.string so, .int .i64 po, .int .i64 to] 97)) z0 z1
  subst hn
  generalize strOfNums nm = str at hd z0 HFU
  go_wp2_with fail
  refine HFU.mono ?_
  rintro e w2 ⟨rfl, hb2⟩
  have H2 := HLI.out _ (WSx.below HSA.out hb2)
  have HK2 : Hid (Kept w w2 wb) := HKA.out.trans (Kept.below hb2)
  clear HLI hb2 HFU
  go_wp2_with fail
  refine H2.mono ?_
  rintro e w3 ⟨rfl, h2, h3⟩
  have HF : Hid (TxtOut W0 w wb K R k X (.returned (.tuple #[])) w3) := ⟨rfl, h2, HK2.out.trans h3⟩
  clear h2 h3 H2
  go_wp2_with fail
  exact bodyPost_end (v := .tuple #[]) (by simp [results, Tryz.results63, go_sem]) rfl HF.out
set_option maxRecDepth 100000 in
set_option maxHeartbeats 1000000 in
theorem comp_curly {W0 : Bas} {wb : Nat} {K : WK} {T : List Cel} {i : Int} {b g n : Nat} {nm : List Int} (hWW : WwK W0 wb K T b i) (hC : CompK W0 wb b g n nm) (pri : Int) (h0 : i < 0) (R : List Int) (k : Nat) (X : List Int) (hX : X ≠ []) (hd : (strOfNums nm).toList = [123, 125]) (hn : n = 1) (vt : TypeId) (vx : Value) (hc0 : ∀ W, W0.grownBy W (some wb) → W.cell? ⟨g, 0, none⟩ = some (.iface vt vx)) (R1 Y : List Int) (HP1 : Hid (∀ (W : World), (∃ p n c, WS W0 W wb K p n c R k) → Calls Tryz.prog 47 #[.pointer (some ⟨wb, 0, none⟩), .string ⟨#[123]⟩] W (PutOut W0 W wb K R1 0))) (HT : Hid (∀ (W : World), (∃ p n c, WS W0 W wb K p n c R1 0) → Calls Tryz.prog 40 #[.pointer (some ⟨wb, 0, none⟩), .iface vt vx, .int .i64 1200] W (TxtOut W0 W wb K R1 0 Y))) (HP2 : Hid (∀ (W : World) (k1 : Nat), (∃ p n c, WS W0 W wb K p n c (R1 ++ Y) k1) → Calls Tryz.prog 47 #[.pointer (some ⟨wb, 0, none⟩), .string ⟨#[125]⟩] W (PutOut W0 W wb K (putR R k X) 0))) (w : World) (hs : ∃ p n c, WS W0 w wb K p n c R k) :
    Calls Tryz.prog 63 #[.pointer (some ⟨wb, 0, none⟩), .pointer (some ⟨b, 0, none⟩), .int .i64 pri] w (TxtOut W0 w wb K R k X) := by
  have hwb : wb < w.heap.size := by obtain ⟨_, _, _, h⟩ := hs; have := h.hwb; have := h.gr.size; omega
  have c2 : w.cell? ⟨wb, 2, none⟩ = some (.map (some K.1)) := by obtain ⟨_, _, _, h⟩ := hs; exact h.c2
  have HWW := hWW w (WSx.gr hs)
  have HS : Hid (∃ p n c, WS W0 w wb K p n c R k) := hs
  have HC : Hid (CompK W0 wb b g n nm) := hC
  have HWB : Hid (wb < w.heap.size) := hwb
  have hf : decide (0 ≤ i) = false := decide_eq_false (by omega)
  clear h0
  have HX : Hid (X ≠ []) := hX
  have HC0 : Hid (∀ W, W0.grownBy W (some wb) → W.cell? ⟨g, 0, none⟩ = some (.iface vt vx)) := hc0
  clear hX hc0
  clear hWW hs hC hwb
  go_enter Tryz.func63, Tryz.ntmps63
  go_wp2_with fail
  refine HWW.mono ?_
  rintro e w1 ⟨so, po, to, rfl, henc, hb1⟩
  have HBA : Hid (Below w.heap.size w (w1.alloc (.cells #[.string so, .int .i64 po, .int .i64 to] 97))) := hb1.alloc hb1.size _
  have HSA : Hid (∃ p n c, WS W0 (w1.alloc (.cells #[.string so, .int .i64 po, .int .i64 to] 97)) wb K p n c R k) := WSx.below HS.out HBA.out
  have HKA : Hid (Kept w (w1.alloc (.cells #[.string so, .int .i64 po, .int .i64 to] 97)) wb) := Kept.below HBA.out
  have HBX : Hid (∀ W, Kept (w1.alloc (.cells #[.string so, .int .i64 po, .int .i64 to] 97)) W wb → BoxAt W w1.heap.size (.string so) (.int .i64 po) (.int .i64 to)) := fun W hW => box_kept (Nat.lt_of_lt_of_le HWB.out hb1.size) hW
  clear henc HWW hb1
  obtain ⟨z0, z1⟩ := HC.out _ (WSx.gr HSA.out)
  have HFU := functorW_any b g n (strOfNums nm) (w1.alloc (.cells #[.string so, .int .i64 po, .int .i64 to] 97)) z0 z1
  subst hn
  have HFU2 : Hid (∀ W, W0.grownBy W (some wb) → Calls Tryz.prog 91 #[.pointer (some ⟨b, 0, none⟩)] W fun e w' => e = .returned (.agg #[.string (strOfNums nm), .int .i64 (1 : Nat)]) ∧ Below W.heap.size W w') := fun W hW => functorW_any b g 1 (strOfNums nm) W (HC.out W hW).1 (HC.out W hW).2
  have HC1 : Hid (∀ W, W0.grownBy W (some wb) → W.cell? ⟨b, 1, none⟩ = some (.slice (some ⟨g, 0, none⟩) (1 : Nat) (1 : Nat))) := fun W hW => (HC.out W hW).2
  clear HC
  generalize strOfNums nm = str at hd z0 HFU HFU2
  go_wp2_with fail
  refine HFU.mono ?_
  rintro e w2 ⟨rfl, hb2⟩
  have HS2 : Hid (∃ p n c, WS W0 w2 wb K p n c R k) := WSx.below HSA.out hb2
  have HK2 : Hid (Kept w w2 wb) := HKA.out.trans (Kept.below hb2)
  have HFU3 := HFU2.out w2 (WSx.gr HS2.out)
  clear hb2 HFU HFU2 z0 z1
  go_wp2_with fail
  refine HFU3.mono ?_
  rintro e w3 ⟨rfl, hb3⟩
  have HS3 : Hid (∃ p n c, WS W0 w3 wb K p n c R k) := WSx.below HS2.out hb3
  have HK3 : Hid (Kept w w3 wb) := HK2.out.trans (Kept.below hb3)
  have H4 := HP1.out w3 HS3.out
  clear hb3 HFU3
  go_wp2_with fail
  refine H4.mono ?_
  rintro e w4 ⟨rfl, hs4, hk4⟩
  have HS4 : Hid (∃ p n c, WS W0 w4 wb K p n c R1 0) := hs4
  have HK4 : Hid (Kept w w4 wb) := HK3.out.trans hk4
  have H5 := HT.out w4 hs4
  have y0 := HC0.out w4 (WSx.gr hs4)
  have y1 := HC1.out w4 (WSx.gr hs4)
  clear hs4 hk4 H4
  go_wp2_with fail
  refine H5.mono ?_
  rintro e w5 ⟨rfl, ⟨k5, hk5, hs5⟩, hkp5⟩
  rw [putR_zero] at hs5
  have HK5 : Hid (Kept w w5 wb) := HK4.out.trans hkp5
  have H6 := HP2.out w5 k5 hs5
  clear hs5 hk5 hkp5 H5 y0 y1
  go_wp2_with fail
  refine H6.mono ?_
  rintro e w6 ⟨rfl, hs6, hk6⟩
  have HF : Hid (TxtOut W0 w wb K R k X (.returned (.tuple #[])) w6) := ⟨rfl, ⟨0, fun h => absurd h HX.out, hs6⟩, HK5.out.trans hk6⟩
  clear hs6 hk6 H6
  go_wp2_with fail
  exact bodyPost_end (v := .tuple #[]) (by simp [results, Tryz.results63, go_sem]) rfl HF.out
set_option maxRecDepth 100000 in
set_option maxHeartbeats 1000000 in
theorem comp_plain {W0 : Bas} {wb : Nat} {K : WK} {T : List Cel} {i : Int} {b g n : Nat} {nm : List Int} (hWW : WwK W0 wb K T b i) (hC : CompK W0 wb b g n nm) (pri : Int) (h0 : i < 0) (R : List Int) (k : Nat) (X : List Int) (hX : X ≠ []) (hd : ¬ ((strOfNums nm).toList = [46] ∧ n = 2)) (hd2 : ¬ ((strOfNums nm).toList = [123, 125] ∧ n = 1)) (hnb : n ≤ 100000) (R1 R2 J : List Int) (k1 : Nat) (sn : ByteArray) (HNM : Hid (∀ (W : World), (∃ p n c, WS W0 W wb K p n c R k) → Calls Tryz.prog 93 #[.pointer (some ⟨wb, 0, none⟩), .string (strOfNums nm)] W fun e w' => e = .returned (.string sn) ∧ Below W.heap.size W w')) (HPU : Hid (∀ (W : World), (∃ p n c, WS W0 W wb K p n c R k) → Calls Tryz.prog 47 #[.pointer (some ⟨wb, 0, none⟩), .string sn] W (PutOut W0 W wb K R1 k1))) (HP1 : Hid (∀ (W : World), (∃ p n c, WS W0 W wb K p n c R1 k1) → Calls Tryz.prog 47 #[.pointer (some ⟨wb, 0, none⟩), .string ⟨#[40]⟩] W (PutOut W0 W wb K R2 0))) (HT : Hid (∀ (W : World), (∃ p n c, WS W0 W wb K p n c R2 0) → Calls Tryz.prog 94 #[.pointer (some ⟨wb, 0, none⟩), .slice (some ⟨g, 0, none⟩) n n] W (TxtOut W0 W wb K R2 0 J))) (HP2 : Hid (∀ (W : World) (k1 : Nat), (∃ p n c, WS W0 W wb K p n c (R2 ++ J) k1) → Calls Tryz.prog 47 #[.pointer (some ⟨wb, 0, none⟩), .string ⟨#[41]⟩] W (PutOut W0 W wb K (putR R k X) 0))) (w : World) (hs : ∃ p n c, WS W0 w wb K p n c R k) :
    Calls Tryz.prog 63 #[.pointer (some ⟨wb, 0, none⟩), .pointer (some ⟨b, 0, none⟩), .int .i64 pri] w (TxtOut W0 w wb K R k X) := by
  have hwb : wb < w.heap.size := by obtain ⟨_, _, _, h⟩ := hs; have := h.hwb; have := h.gr.size; omega
  have c2 : w.cell? ⟨wb, 2, none⟩ = some (.map (some K.1)) := by obtain ⟨_, _, _, h⟩ := hs; exact h.c2
  have HWW := hWW w (WSx.gr hs)
  have HS : Hid (∃ p n c, WS W0 w wb K p n c R k) := hs
  have HC : Hid (CompK W0 wb b g n nm) := hC
  have HWB : Hid (wb < w.heap.size) := hwb
  have hf : decide (0 ≤ i) = false := decide_eq_false (by omega)
  clear h0
  have HX : Hid (X ≠ []) := hX
  clear hX
  clear hWW hs hC hwb
  go_enter Tryz.func63, Tryz.ntmps63
  go_wp2_with fail
  refine HWW.mono ?_
  rintro e w1 ⟨so, po, to, rfl, henc, hb1⟩
  have HBA : Hid (Below w.heap.size w (w1.alloc (.cells #[.string so, .int .i64 po, .int .i64 to] 97))) := hb1.alloc hb1.size _
  have HSA : Hid (∃ p n c, WS W0 (w1.alloc (.cells #[.string so, .int .i64 po, .int .i64 to] 97)) wb K p n c R k) := WSx.below HS.out HBA.out
  have HKA : Hid (Kept w (w1.alloc (.cells #[.string so, .int .i64 po, .int .i64 to] 97)) wb) := Kept.below HBA.out
  have HBX : Hid (∀ W, Kept (w1.alloc (.cells #[.string so, .int .i64 po, .int .i64 to] 97)) W wb → BoxAt W w1.heap.size (.string so) (.int .i64 po) (.int .i64 to)) := fun W hW => box_kept (Nat.lt_of_lt_of_le HWB.out hb1.size) hW
  clear henc HWW hb1
  obtain ⟨z0, z1⟩ := HC.out _ (WSx.gr HSA.out)
  have HFU := functorW_any b g n (strOfNums nm) (w1.alloc (.cells #[.string so, .int .i64 po, .int .i64 to] 97)) z0 z1
  have HFU2 : Hid (∀ W, W0.grownBy W (some wb) → Calls Tryz.prog 91 #[.pointer (some ⟨b, 0, none⟩)] W fun e w' => e = .returned (.agg #[.string (strOfNums nm), .int .i64 n]) ∧ Below W.heap.size W w') := fun W hW => functorW_any b g n (strOfNums nm) W (HC.out W hW).1 (HC.out W hW).2
  have HCC : Hid (∀ W, W0.grownBy W (some wb) → W.cell? ⟨b, 0, none⟩ = some (.string (strOfNums nm)) ∧ W.cell? ⟨b, 1, none⟩ = some (.slice (some ⟨g, 0, none⟩) n n)) := HC.out
  clear HC
  generalize strOfNums nm = str at hd hd2 z0 HFU HFU2 HCC HNM
  by_cases a : str.toList = [46]
  · have hq : ¬ (n : Int) = 2 := fun h => hd ⟨a, by omega⟩
    clear hd hd2
    go_wp2_with fail
    refine HFU.mono ?_
    rintro e w2 ⟨rfl, hb2⟩
    have HS2 : Hid (∃ p n c, WS W0 w2 wb K p n c R k) := WSx.below HSA.out hb2
    have HK2 : Hid (Kept w w2 wb) := HKA.out.trans (Kept.below hb2)
    have HFU3 := HFU2.out w2 (WSx.gr HS2.out)
    clear hb2 HFU HFU2 z0 z1
    go_wp2_with fail
    refine HFU3.mono ?_
    rintro e w3 ⟨rfl, hb3⟩
    have HS3 : Hid (∃ p n c, WS W0 w3 wb K p n c R k) := WSx.below HS2.out hb3
    have HK3 : Hid (Kept w w3 wb) := HK2.out.trans (Kept.below hb3)
    clear hb3 HFU3
    go_wp2_with fail
    refine wp_region_held_drew (S := fun W => W.cell? ⟨b, 0, none⟩ = some (.string str) ∧ True) (by kernel_rfl) ⟨(HCC.out _ (WSx.gr (WSx.below HS3.out ((Below.refl _ _).drew)))).1, trivial⟩ (fun hHeld => ?_)
    have hSS : w3.drew.cell? ⟨b, 0, none⟩ = some (.string str) ∧ True := ⟨(HCC.out _ (WSx.gr (WSx.below HS3.out ((Below.refl _ _).drew)))).1, trivial⟩
    refine hTake (i := 0) (v := .pointer (some ⟨wb, 0, none⟩)) (some 18) (by kernel_rfl) (by kernel_rfl) (by kernel_rfl) (by kernel_rfl) (by kernel_rfl) (fun _ _ _ h => h) (fun o ho W hSw => ?y0) (by assumption) ?_
    case y0 =>
      cases ho
      obtain ⟨s0, s3⟩ := hSw
      simp [execOp, go_sem, Act.eval]
    simp only [Act.put, zzA, zzB, zzC]
    refine hTake (i := 1) (v := .pointer (some ⟨wb, 0, none⟩)) (some 19) (by kernel_rfl) (by kernel_rfl) (by kernel_rfl) (by kernel_rfl) (by kernel_rfl) (fun _ _ _ h => h) (fun o ho W hSw => ?y1) (by assumption) ?_
    case y1 =>
      cases ho
      obtain ⟨s0, s3⟩ := hSw
      simp [execOp, go_sem, Act.eval]
    simp only [Act.put, zzA, zzB, zzC]
    refine hTake (i := 2) (v := .pointer (some ⟨wb, 0, none⟩)) (some 20) (by kernel_rfl) (by kernel_rfl) (by kernel_rfl) (by kernel_rfl) (by kernel_rfl) (fun _ _ _ h => h) (fun o ho W hSw => ?y2) (by assumption) ?_
    case y2 =>
      cases ho
      obtain ⟨s0, s3⟩ := hSw
      simp [execOp, go_sem, Act.eval]
    simp only [Act.put, zzA, zzB, zzC]
    refine hTake (i := 3) (v := .pointer (some ⟨wb, 0, none⟩)) (some 21) (by kernel_rfl) (by kernel_rfl) (by kernel_rfl) (by kernel_rfl) (by kernel_rfl) (fun _ _ _ h => h) (fun o ho W hSw => ?y3) (by assumption) ?_
    case y3 =>
      cases ho
      obtain ⟨s0, s3⟩ := hSw
      simp [execOp, go_sem, Act.eval]
    simp only [Act.put, zzA, zzB, zzC]
    refine hTake (i := 4) (v := .pointer (some ⟨b, 0, none⟩)) (some 22) (by kernel_rfl) (by kernel_rfl) (by kernel_rfl) (by kernel_rfl) (by kernel_rfl) (fun _ _ _ h => h) (fun o ho W hSw => ?y4) (by assumption) ?_
    case y4 =>
      cases ho
      obtain ⟨s0, s3⟩ := hSw
      simp [execOp, go_sem, Act.eval]
    simp only [Act.put, zzA, zzB, zzC]
    refine hTake (i := 5) (v := .pointer (some ⟨b, 0, none⟩)) (some 23) (by kernel_rfl) (by kernel_rfl) (by kernel_rfl) (by kernel_rfl) (by kernel_rfl) (fun _ _ _ h => h) (fun o ho W hSw => ?y5) (by assumption) ?_
    case y5 =>
      cases ho
      obtain ⟨s0, s3⟩ := hSw
      simp [execOp, go_sem, Act.eval]
    simp only [Act.put, zzA, zzB, zzC]
    refine hTake (i := 6) (v := .pointer (some ⟨b, 0, none⟩)) (some 24) (by kernel_rfl) (by kernel_rfl) (by kernel_rfl) (by kernel_rfl) (by kernel_rfl) (fun _ _ _ h => h) (fun o ho W hSw => ?y6) (by assumption) ?_
    case y6 =>
      cases ho
      obtain ⟨s0, s3⟩ := hSw
      simp [execOp, go_sem, Act.eval]
    simp only [Act.put, zzA, zzB, zzC]
    refine hTake (i := 7) (v := .string str) (some 25) (by kernel_rfl) (by kernel_rfl) (by kernel_rfl) (by kernel_rfl) (by kernel_rfl) (fun _ _ _ h => h) (fun o ho W hSw => ?y7) (by assumption) ?_
    case y7 =>
      cases ho
      obtain ⟨s0, s3⟩ := hSw
      simp [execOp, go_sem, Act.eval, s0]
    simp only [Act.put, zzA, zzB, zzC]
    refine hCallE (i := 8) (some 26) (by kernel_rfl) (by kernel_rfl) (by kernel_rfl) (fun o ho => ?y8) (HNM.out _ (WSx.below HS3.out ((Below.refl _ _).drew))) ?_ (fun ch w' h => by obtain ⟨h, _⟩ := h; simp at h) (fun w' h => by obtain ⟨h, _⟩ := h; simp at h)
    case y8 =>
      cases ho
      simp [execOp, go_sem, Act.eval]
    rintro u w4 ⟨hu, hb4⟩
    cases hu
    have HB4 : Hid (Below w3.heap.size w3 w4) := (Below.refl _ _).drew.trans hb4
    have HS4 : Hid (∃ p n c, WS W0 w4 wb K p n c R k) := WSx.below HS3.out HB4.out
    refine ⟨⟨(HCC.out _ (WSx.gr HS4.out)).1, trivial⟩, ?_⟩
    clear hb4
    simp only [Act.put, zzA, zzB, zzC]
    refine hCallE (i := 9) (some 27) (by kernel_rfl) (by kernel_rfl) (by kernel_rfl) (fun o ho => ?y9) (HPU.out _ HS4.out) ?_ (fun ch w' h => by obtain ⟨h, _⟩ := h; simp at h) (fun w' h => by obtain ⟨h, _⟩ := h; simp at h)
    case y9 =>
      cases ho
      simp [execOp, go_sem, Act.eval]
    rintro u w5 ⟨hu, hs5, hk5⟩
    cases hu
    have HS5 : Hid (∃ p n c, WS W0 w5 wb K p n c R1 k1) := hs5
    have HK5 : Hid (Kept w w5 wb) := HK3.out.trans ((Kept.below HB4.out).trans hk5)
    refine ⟨⟨(HCC.out _ (WSx.gr hs5)).1, trivial⟩, ?_⟩
    clear hs5 hk5
    simp only [Act.put, zzA, zzB, zzC]
    refine wpAnyH_done (by kernel_rfl) ?_ _
    clear hHeld hSS
    have H6 := HP1.out w5 HS5.out
    change Exit.then _ _ _ _ _
    go_wp2_with fail
    refine H6.mono ?_
    rintro e w6 ⟨rfl, hs6, hk6⟩
    have HK6 : Hid (Kept w w6 wb) := HK5.out.trans hk6
    have H7 := HT.out w6 hs6
    have y1 := (HCC.out w6 (WSx.gr hs6)).2
    clear hs6 hk6 H6
    go_wp2_with fail
    refine H7.mono ?_
    rintro e w7 ⟨rfl, ⟨k7, hk7, hs7⟩, hkp7⟩
    rw [putR_zero] at hs7
    have HK7 : Hid (Kept w w7 wb) := HK6.out.trans hkp7
    have H8 := HP2.out w7 k7 hs7
    clear hs7 hk7 hkp7 H7 y1
    go_wp2_with fail
    refine H8.mono ?_
    rintro e w8 ⟨rfl, hs8, hk8⟩
    have HF : Hid (TxtOut W0 w wb K R k X (.returned (.tuple #[])) w8) := ⟨rfl, ⟨0, fun h => absurd h HX.out, hs8⟩, HK7.out.trans hk8⟩
    clear hs8 hk8 H8
    go_wp2_with fail
    exact bodyPost_end (v := .tuple #[]) (by simp [results, Tryz.results63, go_sem]) rfl HF.out
  · by_cases a2 : str.toList = [123, 125]
    · have hq : ¬ (n : Int) = 1 := fun h => hd2 ⟨a2, by omega⟩
      clear hd hd2
      go_wp2_with fail
      refine HFU.mono ?_
      rintro e w2 ⟨rfl, hb2⟩
      have HS2 : Hid (∃ p n c, WS W0 w2 wb K p n c R k) := WSx.below HSA.out hb2
      have HK2 : Hid (Kept w w2 wb) := HKA.out.trans (Kept.below hb2)
      have HFU3 := HFU2.out w2 (WSx.gr HS2.out)
      clear hb2 HFU HFU2 z0 z1
      go_wp2_with fail
      refine HFU3.mono ?_
      rintro e w3 ⟨rfl, hb3⟩
      have HS3 : Hid (∃ p n c, WS W0 w3 wb K p n c R k) := WSx.below HS2.out hb3
      have HK3 : Hid (Kept w w3 wb) := HK2.out.trans (Kept.below hb3)
      clear hb3 HFU3
      go_wp2_with fail
      refine wp_region_held_drew (S := fun W => W.cell? ⟨b, 0, none⟩ = some (.string str) ∧ True) (by kernel_rfl) ⟨(HCC.out _ (WSx.gr (WSx.below HS3.out ((Below.refl _ _).drew)))).1, trivial⟩ (fun hHeld => ?_)
      have hSS : w3.drew.cell? ⟨b, 0, none⟩ = some (.string str) ∧ True := ⟨(HCC.out _ (WSx.gr (WSx.below HS3.out ((Below.refl _ _).drew)))).1, trivial⟩
      refine hTake (i := 0) (v := .pointer (some ⟨wb, 0, none⟩)) (some 18) (by kernel_rfl) (by kernel_rfl) (by kernel_rfl) (by kernel_rfl) (by kernel_rfl) (fun _ _ _ h => h) (fun o ho W hSw => ?y0) (by assumption) ?_
      case y0 =>
        cases ho
        obtain ⟨s0, s3⟩ := hSw
        simp [execOp, go_sem, Act.eval]
      simp only [Act.put, zzA, zzB, zzC]
      refine hTake (i := 1) (v := .pointer (some ⟨wb, 0, none⟩)) (some 19) (by kernel_rfl) (by kernel_rfl) (by kernel_rfl) (by kernel_rfl) (by kernel_rfl) (fun _ _ _ h => h) (fun o ho W hSw => ?y1) (by assumption) ?_
      case y1 =>
        cases ho
        obtain ⟨s0, s3⟩ := hSw
        simp [execOp, go_sem, Act.eval]
      simp only [Act.put, zzA, zzB, zzC]
      refine hTake (i := 2) (v := .pointer (some ⟨wb, 0, none⟩)) (some 20) (by kernel_rfl) (by kernel_rfl) (by kernel_rfl) (by kernel_rfl) (by kernel_rfl) (fun _ _ _ h => h) (fun o ho W hSw => ?y2) (by assumption) ?_
      case y2 =>
        cases ho
        obtain ⟨s0, s3⟩ := hSw
        simp [execOp, go_sem, Act.eval]
      simp only [Act.put, zzA, zzB, zzC]
      refine hTake (i := 3) (v := .pointer (some ⟨wb, 0, none⟩)) (some 21) (by kernel_rfl) (by kernel_rfl) (by kernel_rfl) (by kernel_rfl) (by kernel_rfl) (fun _ _ _ h => h) (fun o ho W hSw => ?y3) (by assumption) ?_
      case y3 =>
        cases ho
        obtain ⟨s0, s3⟩ := hSw
        simp [execOp, go_sem, Act.eval]
      simp only [Act.put, zzA, zzB, zzC]
      refine hTake (i := 4) (v := .pointer (some ⟨b, 0, none⟩)) (some 22) (by kernel_rfl) (by kernel_rfl) (by kernel_rfl) (by kernel_rfl) (by kernel_rfl) (fun _ _ _ h => h) (fun o ho W hSw => ?y4) (by assumption) ?_
      case y4 =>
        cases ho
        obtain ⟨s0, s3⟩ := hSw
        simp [execOp, go_sem, Act.eval]
      simp only [Act.put, zzA, zzB, zzC]
      refine hTake (i := 5) (v := .pointer (some ⟨b, 0, none⟩)) (some 23) (by kernel_rfl) (by kernel_rfl) (by kernel_rfl) (by kernel_rfl) (by kernel_rfl) (fun _ _ _ h => h) (fun o ho W hSw => ?y5) (by assumption) ?_
      case y5 =>
        cases ho
        obtain ⟨s0, s3⟩ := hSw
        simp [execOp, go_sem, Act.eval]
      simp only [Act.put, zzA, zzB, zzC]
      refine hTake (i := 6) (v := .pointer (some ⟨b, 0, none⟩)) (some 24) (by kernel_rfl) (by kernel_rfl) (by kernel_rfl) (by kernel_rfl) (by kernel_rfl) (fun _ _ _ h => h) (fun o ho W hSw => ?y6) (by assumption) ?_
      case y6 =>
        cases ho
        obtain ⟨s0, s3⟩ := hSw
        simp [execOp, go_sem, Act.eval]
      simp only [Act.put, zzA, zzB, zzC]
      refine hTake (i := 7) (v := .string str) (some 25) (by kernel_rfl) (by kernel_rfl) (by kernel_rfl) (by kernel_rfl) (by kernel_rfl) (fun _ _ _ h => h) (fun o ho W hSw => ?y7) (by assumption) ?_
      case y7 =>
        cases ho
        obtain ⟨s0, s3⟩ := hSw
        simp [execOp, go_sem, Act.eval, s0]
      simp only [Act.put, zzA, zzB, zzC]
      refine hCallE (i := 8) (some 26) (by kernel_rfl) (by kernel_rfl) (by kernel_rfl) (fun o ho => ?y8) (HNM.out _ (WSx.below HS3.out ((Below.refl _ _).drew))) ?_ (fun ch w' h => by obtain ⟨h, _⟩ := h; simp at h) (fun w' h => by obtain ⟨h, _⟩ := h; simp at h)
      case y8 =>
        cases ho
        simp [execOp, go_sem, Act.eval]
      rintro u w4 ⟨hu, hb4⟩
      cases hu
      have HB4 : Hid (Below w3.heap.size w3 w4) := (Below.refl _ _).drew.trans hb4
      have HS4 : Hid (∃ p n c, WS W0 w4 wb K p n c R k) := WSx.below HS3.out HB4.out
      refine ⟨⟨(HCC.out _ (WSx.gr HS4.out)).1, trivial⟩, ?_⟩
      clear hb4
      simp only [Act.put, zzA, zzB, zzC]
      refine hCallE (i := 9) (some 27) (by kernel_rfl) (by kernel_rfl) (by kernel_rfl) (fun o ho => ?y9) (HPU.out _ HS4.out) ?_ (fun ch w' h => by obtain ⟨h, _⟩ := h; simp at h) (fun w' h => by obtain ⟨h, _⟩ := h; simp at h)
      case y9 =>
        cases ho
        simp [execOp, go_sem, Act.eval]
      rintro u w5 ⟨hu, hs5, hk5⟩
      cases hu
      have HS5 : Hid (∃ p n c, WS W0 w5 wb K p n c R1 k1) := hs5
      have HK5 : Hid (Kept w w5 wb) := HK3.out.trans ((Kept.below HB4.out).trans hk5)
      refine ⟨⟨(HCC.out _ (WSx.gr hs5)).1, trivial⟩, ?_⟩
      clear hs5 hk5
      simp only [Act.put, zzA, zzB, zzC]
      refine wpAnyH_done (by kernel_rfl) ?_ _
      clear hHeld hSS
      have H6 := HP1.out w5 HS5.out
      change Exit.then _ _ _ _ _
      go_wp2_with fail
      refine H6.mono ?_
      rintro e w6 ⟨rfl, hs6, hk6⟩
      have HK6 : Hid (Kept w w6 wb) := HK5.out.trans hk6
      have H7 := HT.out w6 hs6
      have y1 := (HCC.out w6 (WSx.gr hs6)).2
      clear hs6 hk6 H6
      go_wp2_with fail
      refine H7.mono ?_
      rintro e w7 ⟨rfl, ⟨k7, hk7, hs7⟩, hkp7⟩
      rw [putR_zero] at hs7
      have HK7 : Hid (Kept w w7 wb) := HK6.out.trans hkp7
      have H8 := HP2.out w7 k7 hs7
      clear hs7 hk7 hkp7 H7 y1
      go_wp2_with fail
      refine H8.mono ?_
      rintro e w8 ⟨rfl, hs8, hk8⟩
      have HF : Hid (TxtOut W0 w wb K R k X (.returned (.tuple #[])) w8) := ⟨rfl, ⟨0, fun h => absurd h HX.out, hs8⟩, HK7.out.trans hk8⟩
      clear hs8 hk8 H8
      go_wp2_with fail
      exact bodyPost_end (v := .tuple #[]) (by simp [results, Tryz.results63, go_sem]) rfl HF.out
    · clear hd hd2
      go_wp2_with fail
      refine HFU.mono ?_
      rintro e w2 ⟨rfl, hb2⟩
      have HS2 : Hid (∃ p n c, WS W0 w2 wb K p n c R k) := WSx.below HSA.out hb2
      have HK2 : Hid (Kept w w2 wb) := HKA.out.trans (Kept.below hb2)
      have HFU3 := HFU2.out w2 (WSx.gr HS2.out)
      clear hb2 HFU HFU2 z0 z1
      go_wp2_with fail
      refine HFU3.mono ?_
      rintro e w3 ⟨rfl, hb3⟩
      have HS3 : Hid (∃ p n c, WS W0 w3 wb K p n c R k) := WSx.below HS2.out hb3
      have HK3 : Hid (Kept w w3 wb) := HK2.out.trans (Kept.below hb3)
      clear hb3 HFU3
      go_wp2_with fail
      refine wp_region_held_drew (S := fun W => W.cell? ⟨b, 0, none⟩ = some (.string str) ∧ True) (by kernel_rfl) ⟨(HCC.out _ (WSx.gr (WSx.below HS3.out ((Below.refl _ _).drew)))).1, trivial⟩ (fun hHeld => ?_)
      have hSS : w3.drew.cell? ⟨b, 0, none⟩ = some (.string str) ∧ True := ⟨(HCC.out _ (WSx.gr (WSx.below HS3.out ((Below.refl _ _).drew)))).1, trivial⟩
      refine hTake (i := 0) (v := .pointer (some ⟨wb, 0, none⟩)) (some 18) (by kernel_rfl) (by kernel_rfl) (by kernel_rfl) (by kernel_rfl) (by kernel_rfl) (fun _ _ _ h => h) (fun o ho W hSw => ?y0) (by assumption) ?_
      case y0 =>
        cases ho
        obtain ⟨s0, s3⟩ := hSw
        simp [execOp, go_sem, Act.eval]
      simp only [Act.put, zzA, zzB, zzC]
      refine hTake (i := 1) (v := .pointer (some ⟨wb, 0, none⟩)) (some 19) (by kernel_rfl) (by kernel_rfl) (by kernel_rfl) (by kernel_rfl) (by kernel_rfl) (fun _ _ _ h => h) (fun o ho W hSw => ?y1) (by assumption) ?_
      case y1 =>
        cases ho
        obtain ⟨s0, s3⟩ := hSw
        simp [execOp, go_sem, Act.eval]
      simp only [Act.put, zzA, zzB, zzC]
      refine hTake (i := 2) (v := .pointer (some ⟨wb, 0, none⟩)) (some 20) (by kernel_rfl) (by kernel_rfl) (by kernel_rfl) (by kernel_rfl) (by kernel_rfl) (fun _ _ _ h => h) (fun o ho W hSw => ?y2) (by assumption) ?_
      case y2 =>
        cases ho
        obtain ⟨s0, s3⟩ := hSw
        simp [execOp, go_sem, Act.eval]
      simp only [Act.put, zzA, zzB, zzC]
      refine hTake (i := 3) (v := .pointer (some ⟨wb, 0, none⟩)) (some 21) (by kernel_rfl) (by kernel_rfl) (by kernel_rfl) (by kernel_rfl) (by kernel_rfl) (fun _ _ _ h => h) (fun o ho W hSw => ?y3) (by assumption) ?_
      case y3 =>
        cases ho
        obtain ⟨s0, s3⟩ := hSw
        simp [execOp, go_sem, Act.eval]
      simp only [Act.put, zzA, zzB, zzC]
      refine hTake (i := 4) (v := .pointer (some ⟨b, 0, none⟩)) (some 22) (by kernel_rfl) (by kernel_rfl) (by kernel_rfl) (by kernel_rfl) (by kernel_rfl) (fun _ _ _ h => h) (fun o ho W hSw => ?y4) (by assumption) ?_
      case y4 =>
        cases ho
        obtain ⟨s0, s3⟩ := hSw
        simp [execOp, go_sem, Act.eval]
      simp only [Act.put, zzA, zzB, zzC]
      refine hTake (i := 5) (v := .pointer (some ⟨b, 0, none⟩)) (some 23) (by kernel_rfl) (by kernel_rfl) (by kernel_rfl) (by kernel_rfl) (by kernel_rfl) (fun _ _ _ h => h) (fun o ho W hSw => ?y5) (by assumption) ?_
      case y5 =>
        cases ho
        obtain ⟨s0, s3⟩ := hSw
        simp [execOp, go_sem, Act.eval]
      simp only [Act.put, zzA, zzB, zzC]
      refine hTake (i := 6) (v := .pointer (some ⟨b, 0, none⟩)) (some 24) (by kernel_rfl) (by kernel_rfl) (by kernel_rfl) (by kernel_rfl) (by kernel_rfl) (fun _ _ _ h => h) (fun o ho W hSw => ?y6) (by assumption) ?_
      case y6 =>
        cases ho
        obtain ⟨s0, s3⟩ := hSw
        simp [execOp, go_sem, Act.eval]
      simp only [Act.put, zzA, zzB, zzC]
      refine hTake (i := 7) (v := .string str) (some 25) (by kernel_rfl) (by kernel_rfl) (by kernel_rfl) (by kernel_rfl) (by kernel_rfl) (fun _ _ _ h => h) (fun o ho W hSw => ?y7) (by assumption) ?_
      case y7 =>
        cases ho
        obtain ⟨s0, s3⟩ := hSw
        simp [execOp, go_sem, Act.eval, s0]
      simp only [Act.put, zzA, zzB, zzC]
      refine hCallE (i := 8) (some 26) (by kernel_rfl) (by kernel_rfl) (by kernel_rfl) (fun o ho => ?y8) (HNM.out _ (WSx.below HS3.out ((Below.refl _ _).drew))) ?_ (fun ch w' h => by obtain ⟨h, _⟩ := h; simp at h) (fun w' h => by obtain ⟨h, _⟩ := h; simp at h)
      case y8 =>
        cases ho
        simp [execOp, go_sem, Act.eval]
      rintro u w4 ⟨hu, hb4⟩
      cases hu
      have HB4 : Hid (Below w3.heap.size w3 w4) := (Below.refl _ _).drew.trans hb4
      have HS4 : Hid (∃ p n c, WS W0 w4 wb K p n c R k) := WSx.below HS3.out HB4.out
      refine ⟨⟨(HCC.out _ (WSx.gr HS4.out)).1, trivial⟩, ?_⟩
      clear hb4
      simp only [Act.put, zzA, zzB, zzC]
      refine hCallE (i := 9) (some 27) (by kernel_rfl) (by kernel_rfl) (by kernel_rfl) (fun o ho => ?y9) (HPU.out _ HS4.out) ?_ (fun ch w' h => by obtain ⟨h, _⟩ := h; simp at h) (fun w' h => by obtain ⟨h, _⟩ := h; simp at h)
      case y9 =>
        cases ho
        simp [execOp, go_sem, Act.eval]
      rintro u w5 ⟨hu, hs5, hk5⟩
      cases hu
      have HS5 : Hid (∃ p n c, WS W0 w5 wb K p n c R1 k1) := hs5
      have HK5 : Hid (Kept w w5 wb) := HK3.out.trans ((Kept.below HB4.out).trans hk5)
      refine ⟨⟨(HCC.out _ (WSx.gr hs5)).1, trivial⟩, ?_⟩
      clear hs5 hk5
      simp only [Act.put, zzA, zzB, zzC]
      refine wpAnyH_done (by kernel_rfl) ?_ _
      clear hHeld hSS
      have H6 := HP1.out w5 HS5.out
      change Exit.then _ _ _ _ _
      go_wp2_with fail
      refine H6.mono ?_
      rintro e w6 ⟨rfl, hs6, hk6⟩
      have HK6 : Hid (Kept w w6 wb) := HK5.out.trans hk6
      have H7 := HT.out w6 hs6
      have y1 := (HCC.out w6 (WSx.gr hs6)).2
      clear hs6 hk6 H6
      go_wp2_with fail
      refine H7.mono ?_
      rintro e w7 ⟨rfl, ⟨k7, hk7, hs7⟩, hkp7⟩
      rw [putR_zero] at hs7
      have HK7 : Hid (Kept w w7 wb) := HK6.out.trans hkp7
      have H8 := HP2.out w7 k7 hs7
      clear hs7 hk7 hkp7 H7 y1
      go_wp2_with fail
      refine H8.mono ?_
      rintro e w8 ⟨rfl, hs8, hk8⟩
      have HF : Hid (TxtOut W0 w wb K R k X (.returned (.tuple #[])) w8) := ⟨rfl, ⟨0, fun h => absurd h HX.out, hs8⟩, HK7.out.trans hk8⟩
      clear hs8 hk8 H8
      go_wp2_with fail
      exact bodyPost_end (v := .tuple #[]) (by simp [results, Tryz.results63, go_sem]) rfl HF.out
end Go.Proofs.YtelcfcgdnebdgaaGreatDoor
