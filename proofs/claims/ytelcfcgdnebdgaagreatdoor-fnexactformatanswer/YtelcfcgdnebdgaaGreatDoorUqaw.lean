/- Texts of WiS, WiT. Own work of the verifier. -/
import Derived.Test.YtelcfcgdnebdgaaGreatDoorUqav
namespace Go.Proofs.YtelcfcgdnebdgaaGreatDoor
open Go Go.RowKit
set_option linter.unusedVariables false
def leftR (op : Cel) (R : List Int) (k : Nat) (L : List Int) : List Int := if spacedB op.2.2 = true then putR R k (L ++ [32]) else putR R k L
def leftK (op : Cel) : Nat := if spacedB op.2.2 = true then 0 else 1
theorem WSx.gr {W0 : Bas} {W : World} {wb : Nat} {K : WK} {R : List Int} {k : Nat} (h : ∃ p n c, WS W0 W wb K p n c R k) : W0.grownBy W (some wb) := by obtain ⟨_, _, _, h⟩ := h; exact h.gr
theorem WSx.below {W0 : Bas} {W W' : World} {wb : Nat} {K : WK} {R : List Int} {k : Nat} (h : ∃ p n c, WS W0 W wb K p n c R k) (hb : Below W.heap.size W W') : ∃ p n c, WS W0 W' wb K p n c R k := by obtain ⟨p, n, c, h⟩ := h; exact ⟨p, n, c, h.below hb⟩
theorem nameW_good (q : Bool) {op : Cel} (hb : Byte op.2.2) (hl : op.2.2.length ≤ 100) : Byte (nameW q op) ∧ (nameW q op).length ≤ 601 := name_good q ⟨hb, hl⟩
set_option maxRecDepth 100000 in
set_option maxHeartbeats 1000000 in
theorem oper_pre {W0 : Bas} {wb : Nat} {K : WK} {T : List Cel} {N : List (List Int)} {M : Nat} (hE : EnvK W0 wb K T N M) (op : Cel) (hb : Byte op.2.2) (hl1 : op.2.2.length ≤ 100) (hpre : preB op.2.1 = true) (hpost : postB op.2.1 = false) (g : Nat) (R : List Int) (k : Nat) (hR : Byte R) (u : Value) (hui : ∃ vt vx, u = .iface vt vx) (Y : List Int) (HRO : Hid (∀ (W : World) (k1 : Nat), (∃ p n c, WS W0 W wb K p n c (putR R k (nameW K.2.2.2.2 op)) k1) → Calls Tryz.prog 112 #[.pointer (some ⟨wb, 0, none⟩), encV op, u] W (ROut W0 W wb K (rightR op (putR R k (nameW K.2.2.2.2 op)) Y)))) (hc1 : ∀ W, W0.grownBy W (some wb) → W.cell? ⟨g, 0, none⟩ = some u)
    (w : World) (hl : (putR R k (nameW K.2.2.2.2 op)).length ≤ 10000000000) (hs : ∃ p n c, WS W0 w wb K p n c R k) :
    Calls Tryz.prog 90 #[.pointer (some ⟨wb, 0, none⟩), encV op, .slice (some ⟨g, 0, none⟩) 1 1] w (ROut W0 w wb K (rightR op (putR R k (nameW K.2.2.2.2 op)) Y)) := by
  obtain ⟨ut, ux, rfl⟩ := hui
  have hwb : wb < w.heap.size := by obtain ⟨_, _, _, h⟩ := hs; have := h.hwb; have := h.gr.size; omega
  have hal : Below w.heap.size w (w.alloc (.cells #[.string (strOfNums op.2.2), .int .i64 op.1, .int .i64 op.2.1] 97)) := (Below.refl _ _).alloc (Nat.le_refl _) _
  have HPR := fun W => opPre_any (strOfNums op.2.2) op.1 op.2.1 W
  have HPS := fun W => isPost_any (strOfNums op.2.2) op.1 op.2.1 W
  rw [hpre] at HPR
  rw [hpost] at HPS
  have HTX : Hid (∀ (W : World) (R : List Int) (k : Nat), (∃ p n c, WS W0 W wb K p n c R k) → Calls Tryz.prog 111 #[.pointer (some ⟨wb, 0, none⟩), encV op] W fun e w' => e = .returned (.string (strOfNums (nameW K.2.2.2.2 op))) ∧ Below W.heap.size W w') := fun W R k ⟨p, n, c, h⟩ => opText_any h op hb hl1 (hE.tabs.tab _ h.gr)
  have hng := nameW_good K.2.2.2.2 hb hl1
  have HBX : Hid (∀ W, Kept (w.alloc (.cells #[.string (strOfNums op.2.2), .int .i64 op.1, .int .i64 op.2.1] 97)) W wb → BoxAt W w.heap.size (.string (strOfNums op.2.2)) (.int .i64 op.1) (.int .i64 op.2.1)) := fun W hW => box_kept hwb hW
  have HTB : Hid (TabsK W0 wb) := hE.tabs
  have HAL : Hid _ := hal
  have HS0 : Hid (∃ p n c, WS W0 (w.alloc (.cells #[.string (strOfNums op.2.2), .int .i64 op.1, .int .i64 op.2.1] 97)) wb K p n c R k) := WSx.below hs hal
  have hbR : Byte R := hR
  have HPU : Hid (∀ (W : World), (∃ p n c, WS W0 W wb K p n c (R) (k)) → Calls Tryz.prog 47 #[.pointer (some ⟨wb, 0, none⟩), .string (strOfNums (nameW K.2.2.2.2 op))] W (PutOut W0 W wb K (putR R k (nameW K.2.2.2.2 op)) (putG (k) (nameW K.2.2.2.2 op)))) := fun W hW => put_any W0 W wb K (R) (nameW K.2.2.2.2 op) (k) (hE.tabs.tab _ (WSx.gr hW)) hbR hng.1 (by have := putR_ge (R) (nameW K.2.2.2.2 op) (k); omega) hW
  have HC1 : Hid (∀ W, W0.grownBy W (some wb) → W.cell? ⟨g, 0, none⟩ = some (.iface ut ux)) := hc1
  unfold encV at HRO HTX ⊢
  generalize putR R k (nameW K.2.2.2.2 op) = RM at HPU HRO ⊢
  obtain ⟨RF, eRF⟩ : ∃ RF, RF = rightR op RM Y := ⟨_, rfl⟩
  rw [← eRF] at HRO ⊢
  generalize putG (k) (nameW K.2.2.2.2 op) = kM at HPU
  generalize strOfNums (nameW K.2.2.2.2 op) = sn at HTX HPU
  clear hE hb hl1 hpre hpost hR hl hs hal hwb hng hbR hc1 eRF
  generalize strOfNums op.2.2 = s at HPR HPS HTX HBX HAL HS0 HRO ⊢
  generalize op.1 = po at HPR HPS HTX HBX HAL HS0 HRO ⊢
  generalize op.2.1 = to at HPR HPS HTX HBX HAL HS0 HRO ⊢
  go_enter Tryz.func90, Tryz.ntmps90
  go_wp2_with fail
  refine (HPR _).mono ?_
  rintro e w1 ⟨rfl, hb1⟩
  have HK1 : Hid (Kept (w.alloc (.cells #[.string s, .int .i64 po, .int .i64 to] 97)) w1 wb) := Kept.below hb1
  have HS1 : Hid (∃ p n c, WS W0 w1 wb K p n c R k) := WSx.below HS0.out hb1
  clear hb1 HPR
  go_wp2_with fail
  refine wp_region_held_drew (S := fun W => BoxAt W w.heap.size (.string s) (.int .i64 po) (.int .i64 to) ∧ True) (by kernel_rfl) ⟨HBX.out _ (HK1.out.trans (Kept.drewN w1 wb 1)), trivial⟩ (fun hHeld => ?_)
  have hSS : BoxAt w1.drew w.heap.size (.string s) (.int .i64 po) (.int .i64 to) ∧ True := ⟨HBX.out _ (HK1.out.trans (Kept.drewN w1 wb 1)), trivial⟩
  refine hTake (i := 0) (v := .pointer (some ⟨wb, 0, none⟩)) (some 15) (by kernel_rfl) (by kernel_rfl) (by kernel_rfl) (by kernel_rfl) (by kernel_rfl) (fun _ _ _ h => h) (fun o ho W hSw => ?y0) (by assumption) ?_
  case y0 =>
    cases ho
    obtain ⟨⟨s0, s1, s2⟩, s3⟩ := hSw
    simp [execOp, go_sem, Act.eval]
  simp only [Act.put, zzA, zzB, zzC]
  refine hTake (i := 1) (v := .pointer (some ⟨wb, 0, none⟩)) (some 16) (by kernel_rfl) (by kernel_rfl) (by kernel_rfl) (by kernel_rfl) (by kernel_rfl) (fun _ _ _ h => h) (fun o ho W hSw => ?y1) (by assumption) ?_
  case y1 =>
    cases ho
    obtain ⟨⟨s0, s1, s2⟩, s3⟩ := hSw
    simp [execOp, go_sem, Act.eval]
  simp only [Act.put, zzA, zzB, zzC]
  refine hTake (i := 2) (v := .pointer (some ⟨wb, 0, none⟩)) (some 17) (by kernel_rfl) (by kernel_rfl) (by kernel_rfl) (by kernel_rfl) (by kernel_rfl) (fun _ _ _ h => h) (fun o ho W hSw => ?y2) (by assumption) ?_
  case y2 =>
    cases ho
    obtain ⟨⟨s0, s1, s2⟩, s3⟩ := hSw
    simp [execOp, go_sem, Act.eval]
  simp only [Act.put, zzA, zzB, zzC]
  refine hTake (i := 3) (v := .pointer (some ⟨wb, 0, none⟩)) (some 18) (by kernel_rfl) (by kernel_rfl) (by kernel_rfl) (by kernel_rfl) (by kernel_rfl) (fun _ _ _ h => h) (fun o ho W hSw => ?y3) (by assumption) ?_
  case y3 =>
    cases ho
    obtain ⟨⟨s0, s1, s2⟩, s3⟩ := hSw
    simp [execOp, go_sem, Act.eval]
  simp only [Act.put, zzA, zzB, zzC]
  refine hTake (i := 4) (v := .agg #[.string s, .int .i64 po, .int .i64 to]) (some 19) (by kernel_rfl) (by kernel_rfl) (by kernel_rfl) (by kernel_rfl) (by kernel_rfl) (fun _ _ _ h => h) (fun o ho W hSw => ?y4) (by assumption) ?_
  case y4 =>
    cases ho
    obtain ⟨⟨s0, s1, s2⟩, s3⟩ := hSw
    simp [execOp, go_sem, Act.eval, s0, s1, s2]
  simp only [Act.put, zzA, zzB, zzC]
  refine hCallE (i := 5) (some 20) (by kernel_rfl) (by kernel_rfl) (by kernel_rfl) (fun o ho => ?y5) (HTX.out _ _ _ (WSx.below HS1.out ((Below.refl _ _).drew))) ?_ (fun ch w' h => by obtain ⟨h, _⟩ := h; simp at h) (fun w' h => by obtain ⟨h, _⟩ := h; simp at h)
  case y5 =>
    cases ho
    simp [execOp, go_sem, Act.eval]
  rintro u w3 ⟨hu, hb3⟩
  cases hu
  have HB3 : Hid (Below w1.heap.size w1 w3) := (Below.refl _ _).drew.trans hb3
  have HK3 : Hid (Kept (w.alloc (.cells #[.string s, .int .i64 po, .int .i64 to] 97)) w3 wb) := HK1.out.trans (Kept.below HB3.out)
  refine ⟨⟨HBX.out w3 HK3.out, trivial⟩, ?_⟩
  clear hb3
  simp only [Act.put, zzA, zzB, zzC]
  refine hCallE (i := 6) (some 21) (by kernel_rfl) (by kernel_rfl) (by kernel_rfl) (fun o ho => ?y6) (HPU.out _ (WSx.below HS1.out HB3.out)) ?_ (fun ch w' h => by obtain ⟨h, _⟩ := h; simp at h) (fun w' h => by obtain ⟨h, _⟩ := h; simp at h)
  case y6 =>
    cases ho
    simp [execOp, go_sem, Act.eval]
  rintro u w4 ⟨hu, hs4, hk4⟩
  cases hu
  have HS4 : Hid (∃ p n c, WS W0 w4 wb K p n c RM kM) := hs4
  have HK4 : Hid (Kept (w.alloc (.cells #[.string s, .int .i64 po, .int .i64 to] 97)) w4 wb) := HK3.out.trans hk4
  refine ⟨⟨HBX.out w4 HK4.out, trivial⟩, ?_⟩
  clear hs4 hk4
  simp only [Act.put, zzA, zzB, zzC]
  refine wpAnyH_done (by kernel_rfl) ?_ _
  clear hHeld hSS
  obtain ⟨z0, z1, z2⟩ := HBX.out w4 HK4.out
  change Exit.then _ _ _ _ _
  go_wp2_with fail
  refine (HPS _).mono ?_
  rintro e w5 ⟨rfl, hb5⟩
  have HS5 : Hid (∃ p n c, WS W0 w5 wb K p n c RM kM) := WSx.below HS4.out hb5
  have HK5 : Hid (Kept (w.alloc (.cells #[.string s, .int .i64 po, .int .i64 to] 97)) w5 wb) := HK4.out.trans (Kept.below hb5)
  clear hb5 HPS z0 z1 z2
  go_wp2_with fail
  refine wp_region_held_drew (S := fun W => BoxAt W w.heap.size (.string s) (.int .i64 po) (.int .i64 to) ∧ W.cell? ⟨g, 0, none⟩ = some (.iface ut ux)) (by kernel_rfl) ⟨HBX.out _ (HK5.out.trans (Kept.drewN w5 wb 1)), HC1.out _ (WSx.gr (WSx.below HS5.out ((Below.refl _ _).drew)))⟩ (fun hHeld => ?_)
  have hSS : BoxAt w5.drew w.heap.size (.string s) (.int .i64 po) (.int .i64 to) ∧ w5.drew.cell? ⟨g, 0, none⟩ = some (.iface ut ux) := ⟨HBX.out _ (HK5.out.trans (Kept.drewN w5 wb 1)), HC1.out _ (WSx.gr (WSx.below HS5.out ((Below.refl _ _).drew)))⟩
  refine hTake (i := 0) (v := .pointer (some ⟨wb, 0, none⟩)) (some 25) (by kernel_rfl) (by kernel_rfl) (by kernel_rfl) (by kernel_rfl) (by kernel_rfl) (fun _ _ _ h => h) (fun o ho W hSw => ?y0) (by assumption) ?_
  case y0 =>
    cases ho
    obtain ⟨⟨s0, s1, s2⟩, s3⟩ := hSw
    simp [execOp, go_sem, Act.eval]
  simp only [Act.put, zzA, zzB, zzC]
  refine hTake (i := 1) (v := .agg #[.string s, .int .i64 po, .int .i64 to]) (some 26) (by kernel_rfl) (by kernel_rfl) (by kernel_rfl) (by kernel_rfl) (by kernel_rfl) (fun _ _ _ h => h) (fun o ho W hSw => ?y1) (by assumption) ?_
  case y1 =>
    cases ho
    obtain ⟨⟨s0, s1, s2⟩, s3⟩ := hSw
    simp [execOp, go_sem, Act.eval, s0, s1, s2]
  simp only [Act.put, zzA, zzB, zzC]
  refine hTake (i := 2) (v := .slice (some ⟨g, 0, none⟩) 1 1) (some 27) (by kernel_rfl) (by kernel_rfl) (by kernel_rfl) (by kernel_rfl) (by kernel_rfl) (fun _ _ _ h => h) (fun o ho W hSw => ?y2) (by assumption) ?_
  case y2 =>
    cases ho
    obtain ⟨⟨s0, s1, s2⟩, s3⟩ := hSw
    simp [execOp, go_sem, Act.eval]
  simp only [Act.put, zzA, zzB, zzC]
  refine hTake (i := 3) (v := .slice (some ⟨g, 0, none⟩) 1 1) (some 28) (by kernel_rfl) (by kernel_rfl) (by kernel_rfl) (by kernel_rfl) (by kernel_rfl) (fun _ _ _ h => h) (fun o ho W hSw => ?y3) (by assumption) ?_
  case y3 =>
    cases ho
    obtain ⟨⟨s0, s1, s2⟩, s3⟩ := hSw
    simp [execOp, go_sem, Act.eval]
  simp only [Act.put, zzA, zzB, zzC]
  refine hTake (i := 4) (v := .int .i64 1) (some 29) (by kernel_rfl) (by kernel_rfl) (by kernel_rfl) (by kernel_rfl) (by kernel_rfl) (fun _ _ _ h => h) (fun o ho W hSw => ?y4) (by assumption) ?_
  case y4 =>
    cases ho
    obtain ⟨⟨s0, s1, s2⟩, s3⟩ := hSw
    simp [execOp, go_sem, Act.eval]
  simp only [Act.put, zzA, zzB, zzC]
  refine hTake (i := 5) (v := .int .i64 0) (some 30) (by kernel_rfl) (by kernel_rfl) (by kernel_rfl) (by kernel_rfl) (by kernel_rfl) (fun _ _ _ h => h) (fun o ho W hSw => ?y5) (by assumption) ?_
  case y5 =>
    cases ho
    obtain ⟨⟨s0, s1, s2⟩, s3⟩ := hSw
    simp [execOp, go_sem, Act.eval, IntKind.wrap, IntKind.signed, IntKind.bits]
  simp only [Act.put, zzA, zzB, zzC]
  refine hTake (i := 6) (v := .pointer (some ⟨g, 0, none⟩)) (some 31) (by kernel_rfl) (by kernel_rfl) (by kernel_rfl) (by kernel_rfl) (by kernel_rfl) (fun _ _ _ h => h) (fun o ho W hSw => ?y6) (by assumption) ?_
  case y6 =>
    cases ho
    obtain ⟨⟨s0, s1, s2⟩, s3⟩ := hSw
    simp [execOp, go_sem, Act.eval]
  simp only [Act.put, zzA, zzB, zzC]
  refine hTake (i := 7) (v := .iface ut ux) (some 32) (by kernel_rfl) (by kernel_rfl) (by kernel_rfl) (by kernel_rfl) (by kernel_rfl) (fun _ _ _ h => h) (fun o ho W hSw => ?y7) (by assumption) ?_
  case y7 =>
    cases ho
    obtain ⟨⟨s0, s1, s2⟩, s3⟩ := hSw
    simp [execOp, go_sem, Act.eval, s3]
  simp only [Act.put, zzA, zzB, zzC]
  refine hCallE (i := 8) (some 33) (by kernel_rfl) (by kernel_rfl) (by kernel_rfl) (fun o ho => ?y8) (HRO.out _ _ (WSx.below HS5.out ((Below.refl _ _).drew))) ?_ (fun ch w' h => by obtain ⟨h, _⟩ := h; simp at h) (fun w' h => by obtain ⟨h, _⟩ := h; simp at h)
  case y8 =>
    cases ho
    simp [execOp, go_sem, Act.eval]
  rintro u w6 ⟨hu, hs6, hk6⟩
  cases hu
  have HF : Hid (ROut W0 w wb K RF (.returned (.tuple #[])) w6) := ⟨rfl, hs6, (Kept.below HAL.out).trans (HK5.out.trans ((Kept.drewN w5 wb 1).trans hk6))⟩
  refine ⟨⟨HBX.out w6 (HK5.out.trans ((Kept.drewN w5 wb 1).trans hk6)), HC1.out _ (by obtain ⟨_, _, _, _, h⟩ := hs6; exact h.gr)⟩, ?_⟩
  clear hs6 hk6
  simp only [Act.put, zzA, zzB, zzC]
  refine wpAnyH_done (by kernel_rfl) ?_ _
  exact bodyPost_end (v := .tuple #[]) (by simp [results, Tryz.results90, go_sem]) rfl HF.out
set_option maxRecDepth 100000 in
set_option maxHeartbeats 1000000 in
theorem oper_post {W0 : Bas} {wb : Nat} {K : WK} {T : List Cel} {N : List (List Int)} {M : Nat} (hE : EnvK W0 wb K T N M) (op : Cel) (hb : Byte op.2.2) (hl1 : op.2.2.length ≤ 100) (hpre : preB op.2.1 = false) (hpost : postB op.2.1 = true) (g : Nat) (R : List Int) (k : Nat) (hR : Byte R) (v : Value) (hvi : ∃ vt vx, v = .iface vt vx) (L : List Int) (hL : Byte L) (HLO : Hid (∀ (W : World), (∃ p n c, WS W0 W wb K p n c R k) → Calls Tryz.prog 110 #[.pointer (some ⟨wb, 0, none⟩), encV op, v] W (LOut W0 W wb K (leftR op R k L) (leftK op)))) (hc0 : ∀ W, W0.grownBy W (some wb) → W.cell? ⟨g, 0, none⟩ = some v)
    (w : World) (hl : (putR (leftR op R k L) (leftK op) (nameW K.2.2.2.2 op)).length ≤ 10000000000) (hs : ∃ p n c, WS W0 w wb K p n c R k) :
    Calls Tryz.prog 90 #[.pointer (some ⟨wb, 0, none⟩), encV op, .slice (some ⟨g, 0, none⟩) 1 1] w (ROut W0 w wb K (putR (leftR op R k L) (leftK op) (nameW K.2.2.2.2 op))) := by
  obtain ⟨vt, vx, rfl⟩ := hvi
  have hwb : wb < w.heap.size := by obtain ⟨_, _, _, h⟩ := hs; have := h.hwb; have := h.gr.size; omega
  have hal : Below w.heap.size w (w.alloc (.cells #[.string (strOfNums op.2.2), .int .i64 op.1, .int .i64 op.2.1] 97)) := (Below.refl _ _).alloc (Nat.le_refl _) _
  have HPR := fun W => opPre_any (strOfNums op.2.2) op.1 op.2.1 W
  have HPS := fun W => isPost_any (strOfNums op.2.2) op.1 op.2.1 W
  rw [hpre] at HPR
  rw [hpost] at HPS
  have HTX : Hid (∀ (W : World) (R : List Int) (k : Nat), (∃ p n c, WS W0 W wb K p n c R k) → Calls Tryz.prog 111 #[.pointer (some ⟨wb, 0, none⟩), encV op] W fun e w' => e = .returned (.string (strOfNums (nameW K.2.2.2.2 op))) ∧ Below W.heap.size W w') := fun W R k ⟨p, n, c, h⟩ => opText_any h op hb hl1 (hE.tabs.tab _ h.gr)
  have hng := nameW_good K.2.2.2.2 hb hl1
  have HBX : Hid (∀ W, Kept (w.alloc (.cells #[.string (strOfNums op.2.2), .int .i64 op.1, .int .i64 op.2.1] 97)) W wb → BoxAt W w.heap.size (.string (strOfNums op.2.2)) (.int .i64 op.1) (.int .i64 op.2.1)) := fun W hW => box_kept hwb hW
  have HTB : Hid (TabsK W0 wb) := hE.tabs
  have HAL : Hid _ := hal
  have HS0 : Hid (∃ p n c, WS W0 (w.alloc (.cells #[.string (strOfNums op.2.2), .int .i64 op.1, .int .i64 op.2.1] 97)) wb K p n c R k) := WSx.below hs hal
  have hbR : Byte (leftR op R k L) := by
    unfold leftR
    have b32 : Byte [32] := fun x hx => by simp at hx; omega
    split
    · exact byte_putR hR (byte_app hL b32)
    · exact byte_putR hR hL
  have HPU : Hid (∀ (W : World), (∃ p n c, WS W0 W wb K p n c (leftR op R k L) (leftK op)) → Calls Tryz.prog 47 #[.pointer (some ⟨wb, 0, none⟩), .string (strOfNums (nameW K.2.2.2.2 op))] W (PutOut W0 W wb K (putR (leftR op R k L) (leftK op) (nameW K.2.2.2.2 op)) (putG (leftK op) (nameW K.2.2.2.2 op)))) := fun W hW => put_any W0 W wb K (leftR op R k L) (nameW K.2.2.2.2 op) (leftK op) (hE.tabs.tab _ (WSx.gr hW)) hbR hng.1 (by have := putR_ge (leftR op R k L) (nameW K.2.2.2.2 op) (leftK op); omega) hW
  have HC0 : Hid (∀ W, W0.grownBy W (some wb) → W.cell? ⟨g, 0, none⟩ = some (.iface vt vx)) := hc0
  unfold encV at HLO HTX ⊢
  generalize putR (leftR op R k L) (leftK op) (nameW K.2.2.2.2 op) = RM at HPU ⊢
  generalize putG (leftK op) (nameW K.2.2.2.2 op) = kM at HPU
  generalize strOfNums (nameW K.2.2.2.2 op) = sn at HTX HPU
  generalize leftR op R k L = RL at HLO HPU
  generalize leftK op = kL at HLO HPU
  clear hE hb hl1 hpre hpost hR hl hs hal hwb hng hbR hc0 hL
  generalize strOfNums op.2.2 = s at HPR HPS HTX HBX HAL HS0 HLO ⊢
  generalize op.1 = po at HPR HPS HTX HBX HAL HS0 HLO ⊢
  generalize op.2.1 = to at HPR HPS HTX HBX HAL HS0 HLO ⊢
  go_enter Tryz.func90, Tryz.ntmps90
  go_wp2_with fail
  refine (HPR _).mono ?_
  rintro e w1 ⟨rfl, hb1⟩
  have HK1 : Hid (Kept (w.alloc (.cells #[.string s, .int .i64 po, .int .i64 to] 97)) w1 wb) := Kept.below hb1
  have HS1 : Hid (∃ p n c, WS W0 w1 wb K p n c R k) := WSx.below HS0.out hb1
  clear hb1 HPR
  go_wp2_with fail
  refine wp_region_held_drew (S := fun W => BoxAt W w.heap.size (.string s) (.int .i64 po) (.int .i64 to) ∧ W.cell? ⟨g, 0, none⟩ = some (.iface vt vx)) (by kernel_rfl) ⟨HBX.out _ (HK1.out.trans (Kept.drewN w1 wb 1)), HC0.out _ (WSx.gr (WSx.below HS1.out ((Below.refl _ _).drew)))⟩ (fun hHeld => ?_)
  have hSS : BoxAt w1.drew w.heap.size (.string s) (.int .i64 po) (.int .i64 to) ∧ w1.drew.cell? ⟨g, 0, none⟩ = some (.iface vt vx) := ⟨HBX.out _ (HK1.out.trans (Kept.drewN w1 wb 1)), HC0.out _ (WSx.gr (WSx.below HS1.out ((Below.refl _ _).drew)))⟩
  refine hTake (i := 0) (v := .pointer (some ⟨wb, 0, none⟩)) (some 9) (by kernel_rfl) (by kernel_rfl) (by kernel_rfl) (by kernel_rfl) (by kernel_rfl) (fun _ _ _ h => h) (fun o ho W hSw => ?y0) (by assumption) ?_
  case y0 =>
    cases ho
    obtain ⟨⟨s0, s1, s2⟩, s3⟩ := hSw
    simp [execOp, go_sem, Act.eval]
  simp only [Act.put, zzA, zzB, zzC]
  refine hTake (i := 1) (v := .agg #[.string s, .int .i64 po, .int .i64 to]) (some 10) (by kernel_rfl) (by kernel_rfl) (by kernel_rfl) (by kernel_rfl) (by kernel_rfl) (fun _ _ _ h => h) (fun o ho W hSw => ?y1) (by assumption) ?_
  case y1 =>
    cases ho
    obtain ⟨⟨s0, s1, s2⟩, s3⟩ := hSw
    simp [execOp, go_sem, Act.eval, s0, s1, s2]
  simp only [Act.put, zzA, zzB, zzC]
  refine hTake (i := 2) (v := .slice (some ⟨g, 0, none⟩) 1 1) (some 11) (by kernel_rfl) (by kernel_rfl) (by kernel_rfl) (by kernel_rfl) (by kernel_rfl) (fun _ _ _ h => h) (fun o ho W hSw => ?y2) (by assumption) ?_
  case y2 =>
    cases ho
    obtain ⟨⟨s0, s1, s2⟩, s3⟩ := hSw
    simp [execOp, go_sem, Act.eval]
  simp only [Act.put, zzA, zzB, zzC]
  refine hTake (i := 3) (v := .pointer (some ⟨g, 0, none⟩)) (some 12) (by kernel_rfl) (by kernel_rfl) (by kernel_rfl) (by kernel_rfl) (by kernel_rfl) (fun _ _ _ h => h) (fun o ho W hSw => ?y3) (by assumption) ?_
  case y3 =>
    cases ho
    obtain ⟨⟨s0, s1, s2⟩, s3⟩ := hSw
    simp [execOp, go_sem, Act.eval]
  simp only [Act.put, zzA, zzB, zzC]
  refine hTake (i := 4) (v := .iface vt vx) (some 13) (by kernel_rfl) (by kernel_rfl) (by kernel_rfl) (by kernel_rfl) (by kernel_rfl) (fun _ _ _ h => h) (fun o ho W hSw => ?y4) (by assumption) ?_
  case y4 =>
    cases ho
    obtain ⟨⟨s0, s1, s2⟩, s3⟩ := hSw
    simp [execOp, go_sem, Act.eval, s3]
  simp only [Act.put, zzA, zzB, zzC]
  refine hCallE (i := 5) (some 14) (by kernel_rfl) (by kernel_rfl) (by kernel_rfl) (fun o ho => ?y5) (HLO.out _ (WSx.below HS1.out ((Below.refl _ _).drew))) ?_ (fun ch w' h => by obtain ⟨h, _⟩ := h; simp at h) (fun w' h => by obtain ⟨h, _⟩ := h; simp at h)
  case y5 =>
    cases ho
    simp [execOp, go_sem, Act.eval]
  rintro u w2 ⟨hu, hs2, hk2⟩
  cases hu
  have HS2 : Hid (∃ p n c, WS W0 w2 wb K p n c RL kL) := hs2
  have HK2 : Hid (Kept (w.alloc (.cells #[.string s, .int .i64 po, .int .i64 to] 97)) w2 wb) := HK1.out.trans ((Kept.drewN w1 wb 1).trans hk2)
  refine ⟨⟨HBX.out w2 HK2.out, HC0.out _ (WSx.gr hs2)⟩, ?_⟩
  clear hs2 hk2
  simp only [Act.put, zzA, zzB, zzC]
  refine wpAnyH_done (by kernel_rfl) ?_ _
  clear hHeld hSS
  change Exit.then _ _ _ _ _
  go_wp2_with fail
  refine wp_region_held_drew (S := fun W => BoxAt W w.heap.size (.string s) (.int .i64 po) (.int .i64 to) ∧ True) (by kernel_rfl) ⟨HBX.out _ (HK2.out.trans (Kept.drewN w2 wb 1)), trivial⟩ (fun hHeld => ?_)
  have hSS : BoxAt w2.drew w.heap.size (.string s) (.int .i64 po) (.int .i64 to) ∧ True := ⟨HBX.out _ (HK2.out.trans (Kept.drewN w2 wb 1)), trivial⟩
  refine hTake (i := 0) (v := .pointer (some ⟨wb, 0, none⟩)) (some 15) (by kernel_rfl) (by kernel_rfl) (by kernel_rfl) (by kernel_rfl) (by kernel_rfl) (fun _ _ _ h => h) (fun o ho W hSw => ?y0) (by assumption) ?_
  case y0 =>
    cases ho
    obtain ⟨⟨s0, s1, s2⟩, s3⟩ := hSw
    simp [execOp, go_sem, Act.eval]
  simp only [Act.put, zzA, zzB, zzC]
  refine hTake (i := 1) (v := .pointer (some ⟨wb, 0, none⟩)) (some 16) (by kernel_rfl) (by kernel_rfl) (by kernel_rfl) (by kernel_rfl) (by kernel_rfl) (fun _ _ _ h => h) (fun o ho W hSw => ?y1) (by assumption) ?_
  case y1 =>
    cases ho
    obtain ⟨⟨s0, s1, s2⟩, s3⟩ := hSw
    simp [execOp, go_sem, Act.eval]
  simp only [Act.put, zzA, zzB, zzC]
  refine hTake (i := 2) (v := .pointer (some ⟨wb, 0, none⟩)) (some 17) (by kernel_rfl) (by kernel_rfl) (by kernel_rfl) (by kernel_rfl) (by kernel_rfl) (fun _ _ _ h => h) (fun o ho W hSw => ?y2) (by assumption) ?_
  case y2 =>
    cases ho
    obtain ⟨⟨s0, s1, s2⟩, s3⟩ := hSw
    simp [execOp, go_sem, Act.eval]
  simp only [Act.put, zzA, zzB, zzC]
  refine hTake (i := 3) (v := .pointer (some ⟨wb, 0, none⟩)) (some 18) (by kernel_rfl) (by kernel_rfl) (by kernel_rfl) (by kernel_rfl) (by kernel_rfl) (fun _ _ _ h => h) (fun o ho W hSw => ?y3) (by assumption) ?_
  case y3 =>
    cases ho
    obtain ⟨⟨s0, s1, s2⟩, s3⟩ := hSw
    simp [execOp, go_sem, Act.eval]
  simp only [Act.put, zzA, zzB, zzC]
  refine hTake (i := 4) (v := .agg #[.string s, .int .i64 po, .int .i64 to]) (some 19) (by kernel_rfl) (by kernel_rfl) (by kernel_rfl) (by kernel_rfl) (by kernel_rfl) (fun _ _ _ h => h) (fun o ho W hSw => ?y4) (by assumption) ?_
  case y4 =>
    cases ho
    obtain ⟨⟨s0, s1, s2⟩, s3⟩ := hSw
    simp [execOp, go_sem, Act.eval, s0, s1, s2]
  simp only [Act.put, zzA, zzB, zzC]
  refine hCallE (i := 5) (some 20) (by kernel_rfl) (by kernel_rfl) (by kernel_rfl) (fun o ho => ?y5) (HTX.out _ _ _ (WSx.below HS2.out ((Below.refl _ _).drew))) ?_ (fun ch w' h => by obtain ⟨h, _⟩ := h; simp at h) (fun w' h => by obtain ⟨h, _⟩ := h; simp at h)
  case y5 =>
    cases ho
    simp [execOp, go_sem, Act.eval]
  rintro u w3 ⟨hu, hb3⟩
  cases hu
  have HB3 : Hid (Below w2.heap.size w2 w3) := (Below.refl _ _).drew.trans hb3
  have HK3 : Hid (Kept (w.alloc (.cells #[.string s, .int .i64 po, .int .i64 to] 97)) w3 wb) := HK2.out.trans (Kept.below HB3.out)
  refine ⟨⟨HBX.out w3 HK3.out, trivial⟩, ?_⟩
  clear hb3
  simp only [Act.put, zzA, zzB, zzC]
  refine hCallE (i := 6) (some 21) (by kernel_rfl) (by kernel_rfl) (by kernel_rfl) (fun o ho => ?y6) (HPU.out _ (WSx.below HS2.out HB3.out)) ?_ (fun ch w' h => by obtain ⟨h, _⟩ := h; simp at h) (fun w' h => by obtain ⟨h, _⟩ := h; simp at h)
  case y6 =>
    cases ho
    simp [execOp, go_sem, Act.eval]
  rintro u w4 ⟨hu, hs4, hk4⟩
  cases hu
  have HS4 : Hid (∃ p n c, WS W0 w4 wb K p n c RM kM) := hs4
  have HK4 : Hid (Kept (w.alloc (.cells #[.string s, .int .i64 po, .int .i64 to] 97)) w4 wb) := HK3.out.trans hk4
  refine ⟨⟨HBX.out w4 HK4.out, trivial⟩, ?_⟩
  clear hs4 hk4
  simp only [Act.put, zzA, zzB, zzC]
  refine wpAnyH_done (by kernel_rfl) ?_ _
  clear hHeld hSS
  obtain ⟨z0, z1, z2⟩ := HBX.out w4 HK4.out
  change Exit.then _ _ _ _ _
  go_wp2_with fail
  refine (HPS _).mono ?_
  rintro e w5 ⟨rfl, hb5⟩
  have HS5 : Hid (∃ p n c, WS W0 w5 wb K p n c RM kM) := WSx.below HS4.out hb5
  have HK5 : Hid (Kept (w.alloc (.cells #[.string s, .int .i64 po, .int .i64 to] 97)) w5 wb) := HK4.out.trans (Kept.below hb5)
  clear hb5 HPS z0 z1 z2
  have HF : Hid (ROut W0 w wb K RM (.returned (.tuple #[])) w5) := ⟨rfl, ⟨_, HS5.out⟩, (Kept.below HAL.out).trans HK5.out⟩
  go_wp2_with fail
  exact bodyPost_end (v := .tuple #[]) (by simp [results, Tryz.results90, go_sem]) rfl HF.out
set_option maxRecDepth 100000 in
set_option maxHeartbeats 1000000 in
theorem oper_inf {W0 : Bas} {wb : Nat} {K : WK} {T : List Cel} {N : List (List Int)} {M : Nat} (hE : EnvK W0 wb K T N M) (op : Cel) (hb : Byte op.2.2) (hl1 : op.2.2.length ≤ 100) (hpre : preB op.2.1 = false) (hpost : postB op.2.1 = false) (g : Nat) (R : List Int) (k : Nat) (hR : Byte R) (v : Value) (hvi : ∃ vt vx, v = .iface vt vx) (L : List Int) (hL : Byte L) (HLO : Hid (∀ (W : World), (∃ p n c, WS W0 W wb K p n c R k) → Calls Tryz.prog 110 #[.pointer (some ⟨wb, 0, none⟩), encV op, v] W (LOut W0 W wb K (leftR op R k L) (leftK op)))) (hc0 : ∀ W, W0.grownBy W (some wb) → W.cell? ⟨g, 0, none⟩ = some v) (u : Value) (hui : ∃ vt vx, u = .iface vt vx) (Y : List Int) (HRO : Hid (∀ (W : World) (k1 : Nat), (∃ p n c, WS W0 W wb K p n c (putR (leftR op R k L) (leftK op) (nameW K.2.2.2.2 op)) k1) → Calls Tryz.prog 112 #[.pointer (some ⟨wb, 0, none⟩), encV op, u] W (ROut W0 W wb K (rightR op (putR (leftR op R k L) (leftK op) (nameW K.2.2.2.2 op)) Y)))) (hc1 : ∀ W, W0.grownBy W (some wb) → W.cell? ⟨g, 1, none⟩ = some u)
    (w : World) (hl : (putR (leftR op R k L) (leftK op) (nameW K.2.2.2.2 op)).length ≤ 10000000000) (hs : ∃ p n c, WS W0 w wb K p n c R k) :
    Calls Tryz.prog 90 #[.pointer (some ⟨wb, 0, none⟩), encV op, .slice (some ⟨g, 0, none⟩) 2 2] w (ROut W0 w wb K (rightR op (putR (leftR op R k L) (leftK op) (nameW K.2.2.2.2 op)) Y)) := by
  obtain ⟨vt, vx, rfl⟩ := hvi
  obtain ⟨ut, ux, rfl⟩ := hui
  have hwb : wb < w.heap.size := by obtain ⟨_, _, _, h⟩ := hs; have := h.hwb; have := h.gr.size; omega
  have hal : Below w.heap.size w (w.alloc (.cells #[.string (strOfNums op.2.2), .int .i64 op.1, .int .i64 op.2.1] 97)) := (Below.refl _ _).alloc (Nat.le_refl _) _
  have HPR := fun W => opPre_any (strOfNums op.2.2) op.1 op.2.1 W
  have HPS := fun W => isPost_any (strOfNums op.2.2) op.1 op.2.1 W
  rw [hpre] at HPR
  rw [hpost] at HPS
  have HTX : Hid (∀ (W : World) (R : List Int) (k : Nat), (∃ p n c, WS W0 W wb K p n c R k) → Calls Tryz.prog 111 #[.pointer (some ⟨wb, 0, none⟩), encV op] W fun e w' => e = .returned (.string (strOfNums (nameW K.2.2.2.2 op))) ∧ Below W.heap.size W w') := fun W R k ⟨p, n, c, h⟩ => opText_any h op hb hl1 (hE.tabs.tab _ h.gr)
  have hng := nameW_good K.2.2.2.2 hb hl1
  have HBX : Hid (∀ W, Kept (w.alloc (.cells #[.string (strOfNums op.2.2), .int .i64 op.1, .int .i64 op.2.1] 97)) W wb → BoxAt W w.heap.size (.string (strOfNums op.2.2)) (.int .i64 op.1) (.int .i64 op.2.1)) := fun W hW => box_kept hwb hW
  have HTB : Hid (TabsK W0 wb) := hE.tabs
  have HAL : Hid _ := hal
  have HS0 : Hid (∃ p n c, WS W0 (w.alloc (.cells #[.string (strOfNums op.2.2), .int .i64 op.1, .int .i64 op.2.1] 97)) wb K p n c R k) := WSx.below hs hal
  have hbR : Byte (leftR op R k L) := by
    unfold leftR
    have b32 : Byte [32] := fun x hx => by simp at hx; omega
    split
    · exact byte_putR hR (byte_app hL b32)
    · exact byte_putR hR hL
  have HPU : Hid (∀ (W : World), (∃ p n c, WS W0 W wb K p n c (leftR op R k L) (leftK op)) → Calls Tryz.prog 47 #[.pointer (some ⟨wb, 0, none⟩), .string (strOfNums (nameW K.2.2.2.2 op))] W (PutOut W0 W wb K (putR (leftR op R k L) (leftK op) (nameW K.2.2.2.2 op)) (putG (leftK op) (nameW K.2.2.2.2 op)))) := fun W hW => put_any W0 W wb K (leftR op R k L) (nameW K.2.2.2.2 op) (leftK op) (hE.tabs.tab _ (WSx.gr hW)) hbR hng.1 (by have := putR_ge (leftR op R k L) (nameW K.2.2.2.2 op) (leftK op); omega) hW
  have HC0 : Hid (∀ W, W0.grownBy W (some wb) → W.cell? ⟨g, 0, none⟩ = some (.iface vt vx)) := hc0
  have HC1 : Hid (∀ W, W0.grownBy W (some wb) → W.cell? ⟨g, 1, none⟩ = some (.iface ut ux)) := hc1
  unfold encV at HLO HRO HTX ⊢
  generalize putR (leftR op R k L) (leftK op) (nameW K.2.2.2.2 op) = RM at HPU HRO ⊢
  obtain ⟨RF, eRF⟩ : ∃ RF, RF = rightR op RM Y := ⟨_, rfl⟩
  rw [← eRF] at HRO ⊢
  generalize putG (leftK op) (nameW K.2.2.2.2 op) = kM at HPU
  generalize strOfNums (nameW K.2.2.2.2 op) = sn at HTX HPU
  generalize leftR op R k L = RL at HLO HPU
  generalize leftK op = kL at HLO HPU
  clear hE hb hl1 hpre hpost hR hl hs hal hwb hng hbR hc0 hL hc1 eRF
  generalize strOfNums op.2.2 = s at HPR HPS HTX HBX HAL HS0 HLO HRO ⊢
  generalize op.1 = po at HPR HPS HTX HBX HAL HS0 HLO HRO ⊢
  generalize op.2.1 = to at HPR HPS HTX HBX HAL HS0 HLO HRO ⊢
  go_enter Tryz.func90, Tryz.ntmps90
  go_wp2_with fail
  refine (HPR _).mono ?_
  rintro e w1 ⟨rfl, hb1⟩
  have HK1 : Hid (Kept (w.alloc (.cells #[.string s, .int .i64 po, .int .i64 to] 97)) w1 wb) := Kept.below hb1
  have HS1 : Hid (∃ p n c, WS W0 w1 wb K p n c R k) := WSx.below HS0.out hb1
  clear hb1 HPR
  go_wp2_with fail
  refine wp_region_held_drew (S := fun W => BoxAt W w.heap.size (.string s) (.int .i64 po) (.int .i64 to) ∧ W.cell? ⟨g, 0, none⟩ = some (.iface vt vx)) (by kernel_rfl) ⟨HBX.out _ (HK1.out.trans (Kept.drewN w1 wb 1)), HC0.out _ (WSx.gr (WSx.below HS1.out ((Below.refl _ _).drew)))⟩ (fun hHeld => ?_)
  have hSS : BoxAt w1.drew w.heap.size (.string s) (.int .i64 po) (.int .i64 to) ∧ w1.drew.cell? ⟨g, 0, none⟩ = some (.iface vt vx) := ⟨HBX.out _ (HK1.out.trans (Kept.drewN w1 wb 1)), HC0.out _ (WSx.gr (WSx.below HS1.out ((Below.refl _ _).drew)))⟩
  refine hTake (i := 0) (v := .pointer (some ⟨wb, 0, none⟩)) (some 9) (by kernel_rfl) (by kernel_rfl) (by kernel_rfl) (by kernel_rfl) (by kernel_rfl) (fun _ _ _ h => h) (fun o ho W hSw => ?y0) (by assumption) ?_
  case y0 =>
    cases ho
    obtain ⟨⟨s0, s1, s2⟩, s3⟩ := hSw
    simp [execOp, go_sem, Act.eval]
  simp only [Act.put, zzA, zzB, zzC]
  refine hTake (i := 1) (v := .agg #[.string s, .int .i64 po, .int .i64 to]) (some 10) (by kernel_rfl) (by kernel_rfl) (by kernel_rfl) (by kernel_rfl) (by kernel_rfl) (fun _ _ _ h => h) (fun o ho W hSw => ?y1) (by assumption) ?_
  case y1 =>
    cases ho
    obtain ⟨⟨s0, s1, s2⟩, s3⟩ := hSw
    simp [execOp, go_sem, Act.eval, s0, s1, s2]
  simp only [Act.put, zzA, zzB, zzC]
  refine hTake (i := 2) (v := .slice (some ⟨g, 0, none⟩) 2 2) (some 11) (by kernel_rfl) (by kernel_rfl) (by kernel_rfl) (by kernel_rfl) (by kernel_rfl) (fun _ _ _ h => h) (fun o ho W hSw => ?y2) (by assumption) ?_
  case y2 =>
    cases ho
    obtain ⟨⟨s0, s1, s2⟩, s3⟩ := hSw
    simp [execOp, go_sem, Act.eval]
  simp only [Act.put, zzA, zzB, zzC]
  refine hTake (i := 3) (v := .pointer (some ⟨g, 0, none⟩)) (some 12) (by kernel_rfl) (by kernel_rfl) (by kernel_rfl) (by kernel_rfl) (by kernel_rfl) (fun _ _ _ h => h) (fun o ho W hSw => ?y3) (by assumption) ?_
  case y3 =>
    cases ho
    obtain ⟨⟨s0, s1, s2⟩, s3⟩ := hSw
    simp [execOp, go_sem, Act.eval]
  simp only [Act.put, zzA, zzB, zzC]
  refine hTake (i := 4) (v := .iface vt vx) (some 13) (by kernel_rfl) (by kernel_rfl) (by kernel_rfl) (by kernel_rfl) (by kernel_rfl) (fun _ _ _ h => h) (fun o ho W hSw => ?y4) (by assumption) ?_
  case y4 =>
    cases ho
    obtain ⟨⟨s0, s1, s2⟩, s3⟩ := hSw
    simp [execOp, go_sem, Act.eval, s3]
  simp only [Act.put, zzA, zzB, zzC]
  refine hCallE (i := 5) (some 14) (by kernel_rfl) (by kernel_rfl) (by kernel_rfl) (fun o ho => ?y5) (HLO.out _ (WSx.below HS1.out ((Below.refl _ _).drew))) ?_ (fun ch w' h => by obtain ⟨h, _⟩ := h; simp at h) (fun w' h => by obtain ⟨h, _⟩ := h; simp at h)
  case y5 =>
    cases ho
    simp [execOp, go_sem, Act.eval]
  rintro u w2 ⟨hu, hs2, hk2⟩
  cases hu
  have HS2 : Hid (∃ p n c, WS W0 w2 wb K p n c RL kL) := hs2
  have HK2 : Hid (Kept (w.alloc (.cells #[.string s, .int .i64 po, .int .i64 to] 97)) w2 wb) := HK1.out.trans ((Kept.drewN w1 wb 1).trans hk2)
  refine ⟨⟨HBX.out w2 HK2.out, HC0.out _ (WSx.gr hs2)⟩, ?_⟩
  clear hs2 hk2
  simp only [Act.put, zzA, zzB, zzC]
  refine wpAnyH_done (by kernel_rfl) ?_ _
  clear hHeld hSS
  change Exit.then _ _ _ _ _
  go_wp2_with fail
  refine wp_region_held_drew (S := fun W => BoxAt W w.heap.size (.string s) (.int .i64 po) (.int .i64 to) ∧ True) (by kernel_rfl) ⟨HBX.out _ (HK2.out.trans (Kept.drewN w2 wb 1)), trivial⟩ (fun hHeld => ?_)
  have hSS : BoxAt w2.drew w.heap.size (.string s) (.int .i64 po) (.int .i64 to) ∧ True := ⟨HBX.out _ (HK2.out.trans (Kept.drewN w2 wb 1)), trivial⟩
  refine hTake (i := 0) (v := .pointer (some ⟨wb, 0, none⟩)) (some 15) (by kernel_rfl) (by kernel_rfl) (by kernel_rfl) (by kernel_rfl) (by kernel_rfl) (fun _ _ _ h => h) (fun o ho W hSw => ?y0) (by assumption) ?_
  case y0 =>
    cases ho
    obtain ⟨⟨s0, s1, s2⟩, s3⟩ := hSw
    simp [execOp, go_sem, Act.eval]
  simp only [Act.put, zzA, zzB, zzC]
  refine hTake (i := 1) (v := .pointer (some ⟨wb, 0, none⟩)) (some 16) (by kernel_rfl) (by kernel_rfl) (by kernel_rfl) (by kernel_rfl) (by kernel_rfl) (fun _ _ _ h => h) (fun o ho W hSw => ?y1) (by assumption) ?_
  case y1 =>
    cases ho
    obtain ⟨⟨s0, s1, s2⟩, s3⟩ := hSw
    simp [execOp, go_sem, Act.eval]
  simp only [Act.put, zzA, zzB, zzC]
  refine hTake (i := 2) (v := .pointer (some ⟨wb, 0, none⟩)) (some 17) (by kernel_rfl) (by kernel_rfl) (by kernel_rfl) (by kernel_rfl) (by kernel_rfl) (fun _ _ _ h => h) (fun o ho W hSw => ?y2) (by assumption) ?_
  case y2 =>
    cases ho
    obtain ⟨⟨s0, s1, s2⟩, s3⟩ := hSw
    simp [execOp, go_sem, Act.eval]
  simp only [Act.put, zzA, zzB, zzC]
  refine hTake (i := 3) (v := .pointer (some ⟨wb, 0, none⟩)) (some 18) (by kernel_rfl) (by kernel_rfl) (by kernel_rfl) (by kernel_rfl) (by kernel_rfl) (fun _ _ _ h => h) (fun o ho W hSw => ?y3) (by assumption) ?_
  case y3 =>
    cases ho
    obtain ⟨⟨s0, s1, s2⟩, s3⟩ := hSw
    simp [execOp, go_sem, Act.eval]
  simp only [Act.put, zzA, zzB, zzC]
  refine hTake (i := 4) (v := .agg #[.string s, .int .i64 po, .int .i64 to]) (some 19) (by kernel_rfl) (by kernel_rfl) (by kernel_rfl) (by kernel_rfl) (by kernel_rfl) (fun _ _ _ h => h) (fun o ho W hSw => ?y4) (by assumption) ?_
  case y4 =>
    cases ho
    obtain ⟨⟨s0, s1, s2⟩, s3⟩ := hSw
    simp [execOp, go_sem, Act.eval, s0, s1, s2]
  simp only [Act.put, zzA, zzB, zzC]
  refine hCallE (i := 5) (some 20) (by kernel_rfl) (by kernel_rfl) (by kernel_rfl) (fun o ho => ?y5) (HTX.out _ _ _ (WSx.below HS2.out ((Below.refl _ _).drew))) ?_ (fun ch w' h => by obtain ⟨h, _⟩ := h; simp at h) (fun w' h => by obtain ⟨h, _⟩ := h; simp at h)
  case y5 =>
    cases ho
    simp [execOp, go_sem, Act.eval]
  rintro u w3 ⟨hu, hb3⟩
  cases hu
  have HB3 : Hid (Below w2.heap.size w2 w3) := (Below.refl _ _).drew.trans hb3
  have HK3 : Hid (Kept (w.alloc (.cells #[.string s, .int .i64 po, .int .i64 to] 97)) w3 wb) := HK2.out.trans (Kept.below HB3.out)
  refine ⟨⟨HBX.out w3 HK3.out, trivial⟩, ?_⟩
  clear hb3
  simp only [Act.put, zzA, zzB, zzC]
  refine hCallE (i := 6) (some 21) (by kernel_rfl) (by kernel_rfl) (by kernel_rfl) (fun o ho => ?y6) (HPU.out _ (WSx.below HS2.out HB3.out)) ?_ (fun ch w' h => by obtain ⟨h, _⟩ := h; simp at h) (fun w' h => by obtain ⟨h, _⟩ := h; simp at h)
  case y6 =>
    cases ho
    simp [execOp, go_sem, Act.eval]
  rintro u w4 ⟨hu, hs4, hk4⟩
  cases hu
  have HS4 : Hid (∃ p n c, WS W0 w4 wb K p n c RM kM) := hs4
  have HK4 : Hid (Kept (w.alloc (.cells #[.string s, .int .i64 po, .int .i64 to] 97)) w4 wb) := HK3.out.trans hk4
  refine ⟨⟨HBX.out w4 HK4.out, trivial⟩, ?_⟩
  clear hs4 hk4
  simp only [Act.put, zzA, zzB, zzC]
  refine wpAnyH_done (by kernel_rfl) ?_ _
  clear hHeld hSS
  obtain ⟨z0, z1, z2⟩ := HBX.out w4 HK4.out
  change Exit.then _ _ _ _ _
  go_wp2_with fail
  refine (HPS _).mono ?_
  rintro e w5 ⟨rfl, hb5⟩
  have HS5 : Hid (∃ p n c, WS W0 w5 wb K p n c RM kM) := WSx.below HS4.out hb5
  have HK5 : Hid (Kept (w.alloc (.cells #[.string s, .int .i64 po, .int .i64 to] 97)) w5 wb) := HK4.out.trans (Kept.below hb5)
  clear hb5 HPS z0 z1 z2
  go_wp2_with fail
  refine wp_region_held_drew (S := fun W => BoxAt W w.heap.size (.string s) (.int .i64 po) (.int .i64 to) ∧ W.cell? ⟨g, 1, none⟩ = some (.iface ut ux)) (by kernel_rfl) ⟨HBX.out _ (HK5.out.trans (Kept.drewN w5 wb 1)), HC1.out _ (WSx.gr (WSx.below HS5.out ((Below.refl _ _).drew)))⟩ (fun hHeld => ?_)
  have hSS : BoxAt w5.drew w.heap.size (.string s) (.int .i64 po) (.int .i64 to) ∧ w5.drew.cell? ⟨g, 1, none⟩ = some (.iface ut ux) := ⟨HBX.out _ (HK5.out.trans (Kept.drewN w5 wb 1)), HC1.out _ (WSx.gr (WSx.below HS5.out ((Below.refl _ _).drew)))⟩
  refine hTake (i := 0) (v := .pointer (some ⟨wb, 0, none⟩)) (some 25) (by kernel_rfl) (by kernel_rfl) (by kernel_rfl) (by kernel_rfl) (by kernel_rfl) (fun _ _ _ h => h) (fun o ho W hSw => ?y0) (by assumption) ?_
  case y0 =>
    cases ho
    obtain ⟨⟨s0, s1, s2⟩, s3⟩ := hSw
    simp [execOp, go_sem, Act.eval]
  simp only [Act.put, zzA, zzB, zzC]
  refine hTake (i := 1) (v := .agg #[.string s, .int .i64 po, .int .i64 to]) (some 26) (by kernel_rfl) (by kernel_rfl) (by kernel_rfl) (by kernel_rfl) (by kernel_rfl) (fun _ _ _ h => h) (fun o ho W hSw => ?y1) (by assumption) ?_
  case y1 =>
    cases ho
    obtain ⟨⟨s0, s1, s2⟩, s3⟩ := hSw
    simp [execOp, go_sem, Act.eval, s0, s1, s2]
  simp only [Act.put, zzA, zzB, zzC]
  refine hTake (i := 2) (v := .slice (some ⟨g, 0, none⟩) 2 2) (some 27) (by kernel_rfl) (by kernel_rfl) (by kernel_rfl) (by kernel_rfl) (by kernel_rfl) (fun _ _ _ h => h) (fun o ho W hSw => ?y2) (by assumption) ?_
  case y2 =>
    cases ho
    obtain ⟨⟨s0, s1, s2⟩, s3⟩ := hSw
    simp [execOp, go_sem, Act.eval]
  simp only [Act.put, zzA, zzB, zzC]
  refine hTake (i := 3) (v := .slice (some ⟨g, 0, none⟩) 2 2) (some 28) (by kernel_rfl) (by kernel_rfl) (by kernel_rfl) (by kernel_rfl) (by kernel_rfl) (fun _ _ _ h => h) (fun o ho W hSw => ?y3) (by assumption) ?_
  case y3 =>
    cases ho
    obtain ⟨⟨s0, s1, s2⟩, s3⟩ := hSw
    simp [execOp, go_sem, Act.eval]
  simp only [Act.put, zzA, zzB, zzC]
  refine hTake (i := 4) (v := .int .i64 2) (some 29) (by kernel_rfl) (by kernel_rfl) (by kernel_rfl) (by kernel_rfl) (by kernel_rfl) (fun _ _ _ h => h) (fun o ho W hSw => ?y4) (by assumption) ?_
  case y4 =>
    cases ho
    obtain ⟨⟨s0, s1, s2⟩, s3⟩ := hSw
    simp [execOp, go_sem, Act.eval]
  simp only [Act.put, zzA, zzB, zzC]
  refine hTake (i := 5) (v := .int .i64 1) (some 30) (by kernel_rfl) (by kernel_rfl) (by kernel_rfl) (by kernel_rfl) (by kernel_rfl) (fun _ _ _ h => h) (fun o ho W hSw => ?y5) (by assumption) ?_
  case y5 =>
    cases ho
    obtain ⟨⟨s0, s1, s2⟩, s3⟩ := hSw
    simp [execOp, go_sem, Act.eval, IntKind.wrap, IntKind.signed, IntKind.bits]
  simp only [Act.put, zzA, zzB, zzC]
  refine hTake (i := 6) (v := .pointer (some ⟨g, 1, none⟩)) (some 31) (by kernel_rfl) (by kernel_rfl) (by kernel_rfl) (by kernel_rfl) (by kernel_rfl) (fun _ _ _ h => h) (fun o ho W hSw => ?y6) (by assumption) ?_
  case y6 =>
    cases ho
    obtain ⟨⟨s0, s1, s2⟩, s3⟩ := hSw
    simp [execOp, go_sem, Act.eval]
  simp only [Act.put, zzA, zzB, zzC]
  refine hTake (i := 7) (v := .iface ut ux) (some 32) (by kernel_rfl) (by kernel_rfl) (by kernel_rfl) (by kernel_rfl) (by kernel_rfl) (fun _ _ _ h => h) (fun o ho W hSw => ?y7) (by assumption) ?_
  case y7 =>
    cases ho
    obtain ⟨⟨s0, s1, s2⟩, s3⟩ := hSw
    simp [execOp, go_sem, Act.eval, s3]
  simp only [Act.put, zzA, zzB, zzC]
  refine hCallE (i := 8) (some 33) (by kernel_rfl) (by kernel_rfl) (by kernel_rfl) (fun o ho => ?y8) (HRO.out _ _ (WSx.below HS5.out ((Below.refl _ _).drew))) ?_ (fun ch w' h => by obtain ⟨h, _⟩ := h; simp at h) (fun w' h => by obtain ⟨h, _⟩ := h; simp at h)
  case y8 =>
    cases ho
    simp [execOp, go_sem, Act.eval]
  rintro u w6 ⟨hu, hs6, hk6⟩
  cases hu
  have HF : Hid (ROut W0 w wb K RF (.returned (.tuple #[])) w6) := ⟨rfl, hs6, (Kept.below HAL.out).trans (HK5.out.trans ((Kept.drewN w5 wb 1).trans hk6))⟩
  refine ⟨⟨HBX.out w6 (HK5.out.trans ((Kept.drewN w5 wb 1).trans hk6)), HC1.out _ (by obtain ⟨_, _, _, _, h⟩ := hs6; exact h.gr)⟩, ?_⟩
  clear hs6 hk6
  simp only [Act.put, zzA, zzB, zzC]
  refine wpAnyH_done (by kernel_rfl) ?_ _
  exact bodyPost_end (v := .tuple #[]) (by simp [results, Tryz.results90, go_sem]) rfl HF.out
end Go.Proofs.YtelcfcgdnebdgaaGreatDoor
namespace Go.Proofs.YtelcfcgdnebdgaaGreatDoor
open Go Go.RowKit
set_option linter.unusedVariables false
theorem isOf_dig_all : (List.range 256).all (fun c => isOfB c 4 == digitB c) = true := by decide +kernel
theorem isOf_dig {c : Int} (h0 : 0 ≤ c) (h1 : c < 256) : isOfB c 4 = digitB c := by
  have h := List.all_eq_true.1 isOf_dig_all c.toNat (by simp; omega)
  rw [show ((c.toNat : Nat) : Int) = c by omega] at h
  simpa using h
def marksB (c : Int) : Prop := alnumB c = false ∧ digitB c = false ∧ c ≠ 40 ∧ isOfB c 4 = false
theorem mark_at {c : Int} (h : symbolB c = true ∨ c = 44 ∨ c = 59 ∨ c = 33) : marksB c := by
  have key : ∀ x ∈ (44 : Int) :: 59 :: 33 :: symL, marksB x := by
    intro x hx
    unfold symL at hx
    simp only [List.mem_cons, List.not_mem_nil, or_false] at hx
    rcases hx with rfl | rfl | rfl | rfl | rfl | rfl | rfl | rfl | rfl | rfl | rfl | rfl | rfl | rfl | rfl | rfl | rfl | rfl | rfl | rfl
    all_goals exact ⟨rfl, rfl, by decide, rfl⟩
  refine key c ?_
  rcases h with h | h | h | h
  · have hm : c ∈ symL := by simpa [symbolB] using h
    exact List.mem_cons_of_mem _ (List.mem_cons_of_mem _ (List.mem_cons_of_mem _ hm))
  · rw [h]; simp
  · rw [h]; simp
  · rw [h]; simp
structure MarkN (q : Bool) (op : Cel) : Prop where
  nm : nameW q op = op.2.2
  ne : op.2.2 ≠ []
  bs : ∀ y ∈ op.2.2, marksB y
theorem markN (q : Bool) {op : Cel} (h : spacedB op.2.2 = false) (hl : op.2.2.length ≤ 100) : MarkN q op := by
  by_cases a : op.2.2 = [44]
  · exact ⟨by unfold nameW; rw [if_pos a, a], by rw [a]; simp, by rw [a]; intro y hy; simp at hy; exact mark_at (.inr (.inl hy))⟩
  have key : plainB op.2.2 = true ∧ (∀ y ∈ op.2.2, symbolB y = true ∨ y = 44 ∨ y = 59 ∨ y = 33) := by
    by_cases b : op.2.2 = [59]
    · rw [b]; exact ⟨by decide, by intro y hy; simp at hy; exact .inr (.inr (.inl hy))⟩
    by_cases c : op.2.2 = [33]
    · rw [c]; exact ⟨by decide, by intro y hy; simp at hy; exact .inr (.inr (.inr hy))⟩
    unfold spacedB at h
    have ha : decide (op.2.2 ≠ [44]) = true := decide_eq_true a
    have hb : decide (op.2.2 ≠ [59]) = true := decide_eq_true b
    have hc : decide (op.2.2 ≠ [33]) = true := decide_eq_true c
    rw [ha, hb, hc] at h
    have h1 : runLen symbolB op.2.2 = op.2.2.length ∧ plainB op.2.2 = true := by
      by_cases hr : runLen symbolB op.2.2 = op.2.2.length
      · cases hp : plainB op.2.2 with
        | true => exact ⟨hr, rfl⟩
        | false => rw [hp] at h; simp at h
      · rw [decide_eq_true hr] at h; simp at h
    have h2 := (runLen_all symbolB op.2.2).1 h1.1
    exact ⟨h1.2, fun y hy => .inl (List.all_eq_true.1 h2 y hy)⟩
  have hne : op.2.2 ≠ [] := fun hh => by rw [hh] at key; exact absurd key.1 (by decide)
  refine ⟨?_, hne, fun y hy => mark_at (key.2 y hy)⟩
  unfold nameW
  rw [if_neg a]
  unfold atomW quoteB
  rw [if_neg (by omega : ¬ 100 < op.2.2.length), if_pos key.1]
  split <;> rfl
theorem first_mem {a : List Int} (h : a ≠ []) : a.getD 0 0 ∈ a := by
  cases a with
  | nil => exact absurd rfl h
  | cons x r => simp
theorem last_mem {a : List Int} (h : a ≠ []) : lastI a ∈ a := by
  have hl : a.length - 1 < a.length := by cases a with | nil => exact absurd rfl h | cons x r => simp
  unfold lastI
  rw [List.getD, List.getElem?_eq_getElem hl]
  exact List.getElem_mem hl
theorem endI_putR {X : List Int} (h : X ≠ []) (R : List Int) (k : Nat) : endI (putR R k X) = lastI X := by
  unfold putR
  rw [if_neg h]
  split
  · rw [show R ++ 32 :: X = (R ++ [32]) ++ X by simp, endI_append h]
  · exact endI_append h
theorem lastI_append {A B : List Int} (h : B ≠ []) : lastI (A ++ B) = lastI B := by
  have h1 := endI_append (R := A) h
  have h2 := endI_append (R := []) (X := A ++ B) (by simp [h])
  rw [List.nil_append] at h2
  rw [← h2, h1]
theorem putR_pos {Y : List Int} (h : Y ≠ []) (R : List Int) (k : Nat) : putR R k Y = if gR k (endI R) (Y.getD 0 0) = true then R ++ 32 :: Y else R ++ Y := by unfold putR; rw [if_neg h]
theorem putR_sp (R S Y : List Int) (k : Nat) : putR R k S ++ 32 :: Y = putR R k (S ++ 32 :: Y) := by
  by_cases h : S = []
  · subst h
    rw [List.nil_append, putR_close (.inr (.inr (.inr (.inr (.inr rfl)))))]; rfl
  · exact putR_more h R k _
theorem gap_mark {A B : List Int} (hA : Byte A) (hB : Byte B) (ha : A ≠ []) (hb : B ≠ []) (h : alnumB (lastI A) = false ∨ alnumB (B.getD 0 0) = false) : gapW A B = if gap1 (lastI A) (B.getD 0 0) = true then [32] else [] := by
  unfold gapW gap1
  rw [if_neg (by rintro (h1 | h1); exact ha h1; exact hb h1)]
  have x := hA _ (last_mem ha)
  have y := hB _ (first_mem hb)
  rw [(isOf_at x.1 x.2).2.2, (isOf_at y.1 y.2).2.2]
  have e : ((alnumB (lastI A) = true ∧ alnumB (B.getD 0 0) = true) ∨ (symbolB (lastI A) = true ∧ symbolB (B.getD 0 0) = true)) ↔ (symbolB (lastI A) && symbolB (B.getD 0 0)) = true := by
    rw [Bool.and_eq_true]
    constructor
    · rintro (⟨h1, h2⟩ | h1)
      · rcases h with h | h
        · rw [h] at h1; exact absurd h1 (by decide)
        · rw [h] at h2; exact absurd h2 (by decide)
      · exact h1
    · exact .inr
  by_cases hh : (symbolB (lastI A) && symbolB (B.getD 0 0)) = true
  · rw [if_pos hh, if_pos (e.2 hh)]
  · rw [if_neg hh, if_neg (fun h9 => hh (e.1 h9))]
theorem left_name {R L NM : List Int} {k : Nat} (hL : Byte L) (hN : Byte NM) (hne : NM ≠ []) (hm : ∀ y ∈ NM, marksB y) (hst : startB R k) : putR (putR R k L) 1 NM = putR R k (L ++ gapW L NM ++ NM) := by
  have h0 := hm _ (first_mem hne)
  by_cases h : L = []
  · subst h
    have e : gapW [] NM = [] := by unfold gapW; rw [if_pos (.inl rfl)]
    rw [e]
    simp only [List.nil_append]
    rw [show putR R k [] = R from rfl, putR_pos hne, putR_pos hne]
    have e4 := h0.2.2.2
    have e40 : (NM.getD 0 0 == 40) = false := beq_eq_false_iff_ne.2 h0.2.2.1
    have ek : gR 1 (endI R) (NM.getD 0 0) = gR k (endI R) (NM.getD 0 0) := by
      match k, hst with
      | 0, hst => show gap1 _ _ = false; unfold gap1; rw [hst rfl]; rfl
      | 1, _ => rfl
      | 2, _ => show gap1 _ _ = gap2 _ _; unfold gap2; rw [e40]; rfl
      | m + 3, _ => show gap1 _ _ = gap3 _ _; unfold gap3 gap2; rw [e4, e40]; rfl
    rw [ek]
  · rw [putR_pos hne, endI_putR h, gap_mark hL hN h hne (.inr h0.1)]
    show (if gap1 (lastI L) (NM.getD 0 0) = true then _ else _) = _
    split
    · rw [putR_more h]; simp
    · rw [putR_more h]; simp
theorem wt_left {R L : List Int} {k : Nat} (q : Bool) {op : Cel} (hb : Byte op.2.2) (hl : op.2.2.length ≤ 100) (hL : Byte L) (hst : startB R k) :
    putR (leftR op R k L) (leftK op) (nameW q op) = putR R k (L ++ midGap op L (nameW q op) ++ nameW q op) := by
  unfold leftR leftK midGap
  cases h : spacedB op.2.2 with
  | true =>
    rw [if_pos rfl, if_pos rfl, if_pos rfl, putR_zero]
    by_cases hX : L ++ [32] = []
    · simp at hX
    · rw [putR_more hX]
  | false =>
    have hm := markN q h hl
    rw [if_neg (by decide), if_neg (by decide), if_neg (by decide), hm.nm]
    exact left_name hL hb hm.ne hm.bs hst
theorem wt_mid {R S Y : List Int} {k : Nat} (q : Bool) {op : Cel} (hp : preB op.2.1 = false) (hb : Byte op.2.2) (hl : op.2.2.length ≤ 100) (hY : Byte Y) :
    rightR op (putR R k (S ++ nameW q op)) Y = putR R k (S ++ nameW q op ++ (midGap op (nameW q op) Y ++ Y)) := by
  unfold rightR midGap
  cases h : spacedB op.2.2 with
  | true => rw [if_pos rfl, if_pos rfl, putR_sp]; rfl
  | false =>
    have hm := markN q h hl
    rw [if_neg (by decide), if_neg (by decide), hm.nm]
    have hk : behK op = 1 := by unfold behK; rw [if_pos hp]
    have hS : S ++ op.2.2 ≠ [] := by simp [hm.ne]
    rw [hk]
    by_cases hy : Y = []
    · subst hy
      have e : gapW op.2.2 [] = [] := by unfold gapW; rw [if_pos (.inr rfl)]
      rw [e]; simp [putR]
    · rw [putR_pos hy, endI_putR hS, lastI_append hm.ne, gap_mark hb hY hm.ne hy (.inl (hm.bs _ (last_mem hm.ne)).1)]
      show (if gap1 (lastI op.2.2) (Y.getD 0 0) = true then _ else _) = _
      split
      · rw [putR_more hS]; simp
      · rw [putR_more hS]; simp
theorem wt_pre {R Y : List Int} {k : Nat} (q : Bool) {op : Cel} (hp : preB op.2.1 = true) (hb : Byte op.2.2) (hl : op.2.2.length ≤ 100) (hY : Byte Y) :
    rightR op (putR R k (nameW q op)) Y = putR R k (nameW q op ++ preGap q op Y ++ Y) := by
  unfold rightR preGap
  cases h : spacedB op.2.2 with
  | true => rw [if_pos rfl, if_pos rfl, putR_sp]; simp
  | false =>
    have hm := markN q h hl
    rw [if_neg (by decide), if_neg (by decide), hm.nm]
    by_cases hy : Y = []
    · subst hy
      have e : gapW op.2.2 [] = [] := by unfold gapW; rw [if_pos (.inr rfl)]
      rw [if_neg (by simp), e]; simp [putR]
    · have y := hY _ (first_mem hy)
      have hmk := (hm.bs _ (last_mem hm.ne)).1
      rw [putR_pos hy, endI_putR hm.ne, gap_mark hb hY hm.ne hy (.inl hmk)]
      generalize Y.getD 0 0 = y0 at y ⊢
      have key : gR (behK op) (lastI op.2.2) y0 = (decide (y0 = 40 ∨ (op.2.2 = [45] ∧ digitB y0 = true)) || gap1 (lastI op.2.2) y0) := by
        unfold behK
        rw [if_neg (by rw [hp]; decide)]
        by_cases h45 : op.2.2 = [45]
        · rw [if_pos h45]
          show gap3 _ _ = _
          unfold gap3 gap2
          rw [isOf_dig y.1 y.2]
          generalize gap1 (lastI op.2.2) y0 = gg
          by_cases h40 : y0 = 40
          · simp [h40]
          · cases hd : digitB y0 <;> simp [h40, h45]
        · rw [if_neg h45]
          show gap2 _ _ = _
          unfold gap2
          generalize gap1 (lastI op.2.2) y0 = gg
          by_cases h40 : y0 = 40
          · simp [h40]
          · simp [h40, h45]
      rw [key]
      by_cases hh : y0 = 40 ∨ (op.2.2 = [45] ∧ digitB y0 = true)
      · rw [decide_eq_true hh, Bool.true_or, if_pos rfl, if_pos ⟨hy, hh⟩, putR_more hm.ne]; simp
      · rw [decide_eq_false hh, Bool.false_or, if_neg (fun h9 : Y ≠ [] ∧ _ => hh h9.2)]
        split
        · rw [putR_more hm.ne]; simp
        · rw [putR_more hm.ne]; simp
theorem right_opd (rec : Tr → Int → List Int) (T : List Cel) (t : Tr) (p : Int) (op : Cel) : operandW rec T t p false op = opdW T t.1 (rec t p) := by
  unfold operandW opdW
  by_cases h : t.1.1 = 2 ∧ (0 ≤ findW T t.1.2.2 true ∨ 0 ≤ findW T t.1.2.2 false)
  · rw [if_pos h, if_pos h]
  · rw [if_neg h, if_neg h, if_neg (fun h9 => by simp at h9)]
theorem ownR_iff (t : Int) : ownR t = true ↔ (t = 1 ∨ t = 3) := by unfold ownR; simp
theorem left_opd {rec : Tr → Int → List Int} {T : List Cel} {t : Tr} {op : Cel} (hr : 0 ≤ topI T t.1 → ∃ Z, ∀ p, p ≤ 1200 → rec t p = if p < (opW T (topI T t.1)).1 then parW Z else Z) (hop : 1 ≤ op.1 ∧ op.1 ≤ 1200) (ht : 0 ≤ topI T t.1 → (opW T (topI T t.1)).1 ≤ 1200) :
    operandW rec T t (leftP op) true op = leftT T op t.1 (rec t (leftP op)) (rec t 1200) := by
  have hle : leftP op ≤ 1200 := by unfold leftP; split <;> omega
  unfold operandW leftT
  by_cases h : t.1.1 = 2 ∧ (0 ≤ findW T t.1.2.2 true ∨ 0 ≤ findW T t.1.2.2 false)
  · have hn : topI T t.1 = -1 := by unfold topI; rw [if_pos (.inl (by rw [h.1]; decide))]
    have hq : leftQ T op t.1 = false := by unfold leftQ; rw [hn]; rfl
    rw [if_pos h, hq, if_neg (by decide)]
    unfold opdW
    rw [if_pos h]
  · rw [if_neg h]
    have ho : opdW T t.1 (rec t (leftP op)) = rec t (leftP op) := by unfold opdW; rw [if_neg h]
    rw [ho]
    by_cases h0 : 0 ≤ topI T t.1
    · obtain ⟨Z, hZ⟩ := hr h0
      have h12 := ht h0
      by_cases hq : leftQ T op t.1 = true
      · rw [if_pos hq]
        unfold leftQ at hq
        simp only [Bool.and_eq_true, decide_eq_true_eq, beq_iff_eq] at hq
        have ho := (ownR_iff _).1 hq.2.2
        have e1 : rec t 1200 = Z := by rw [hZ 1200 (by omega), if_neg (by omega)]
        rw [e1]
        by_cases hp : leftP op = op.1
        · have e2 : rec t (leftP op) = Z := by rw [hZ _ hle, if_neg (by omega)]
          rw [if_pos ⟨rfl, h0, hq.2.1, hp, ho⟩, e2]
        · have h9 : leftP op = op.1 - 1 := by
            unfold leftP at hp ⊢
            split at hp
            · exact absurd rfl hp
            · rename_i hh; rw [if_neg hh]
          have e2 : rec t (leftP op) = parW Z := by rw [hZ _ hle, if_pos (by omega)]
          rw [if_neg (fun h9 => hp h9.2.2.2.1), e2]
      · rw [if_neg hq, if_neg]
        rintro ⟨_, a, b, _, d⟩
        refine hq ?_
        unfold leftQ
        simp only [Bool.and_eq_true, decide_eq_true_eq, beq_iff_eq]
        exact ⟨a, b, (ownR_iff _).2 d⟩
    · have hq : leftQ T op t.1 = false := by unfold leftQ; rw [decide_eq_false h0]; rfl
      rw [hq, if_neg (fun h9 => h0 h9.2.1), if_neg (by decide)]
end Go.Proofs.YtelcfcgdnebdgaaGreatDoor
