/- Texts of WiQ, WiR. Own work of the verifier. -/
import Derived.Test.YtelcfcgdnebdgaaGreatDoorUqau
namespace Go.Proofs.YtelcfcgdnebdgaaGreatDoor
open Go Go.RowKit
set_option linter.unusedVariables false
def BoxAt (W : World) (b : Nat) (v0 v1 v2 : Value) : Prop := W.cell? ⟨b, 0, none⟩ = some v0 ∧ W.cell? ⟨b, 1, none⟩ = some v1 ∧ W.cell? ⟨b, 2, none⟩ = some v2
theorem box_kept {w W : World} {wb : Nat} {v0 v1 v2 : Value} (hwb : wb < w.heap.size) (h : Kept (w.alloc (.cells #[v0, v1, v2] 97)) W wb) : BoxAt W w.heap.size v0 v1 v2 := by
  have hb : (w.alloc (.cells #[v0, v1, v2] 97)).heap[w.heap.size]? = some (.cells #[v0, v1, v2] 97) := by show (w.heap.push _)[w.heap.size]? = _; exact Array.getElem?_push_size
  have h1 := h.blk _ _ hb (by omega) (fun cur fr e => by simp at e)
  refine ⟨?_, ?_, ?_⟩ <;> simp [World.cell?, h1]
def rightR (op : Cel) (R Y : List Int) : List Int := if spacedB op.2.2 = true then R ++ 32 :: Y else putR R (behK op) Y
def ROut (W0 : Bas) (w : World) (wb : Nat) (K : WK) (R' : List Int) (e : Ending) (w' : World) : Prop := e = .returned (.tuple #[]) ∧ (∃ k' p n c, WS W0 w' wb K p n c R' k') ∧ Kept w w' wb
theorem TxtOut.rout {W0 : Bas} {w w1 : World} {wb : Nat} {K : WK} {R X R' : List Int} {k : Nat} {e : Ending} {w' : World} (h : TxtOut W0 w1 wb K R k X e w') (hk : Kept w w1 wb) (hR : putR R k X = R') : ROut W0 w wb K R' e w' := by
  obtain ⟨h1, ⟨k', _, h2⟩, h3⟩ := h
  exact ⟨h1, ⟨k', by rw [← hR]; exact h2⟩, hk.trans h3⟩
theorem behK_ne (op : Cel) : behK op ≠ 0 := by unfold behK; split; decide; split <;> decide
set_option maxRecDepth 100000 in
set_option maxHeartbeats 1000000 in
theorem rightOp_any {W0 : Bas} {wb : Nat} {K : WK} {T : List Cel} {N : List (List Int)} {M : Nat} (hE : EnvK W0 wb K T N M) (op : Cel) (hb : Byte op.2.2) (hl1 : op.2.2.length ≤ 100) (hp : 1 ≤ op.1 ∧ op.1 ≤ 1200) (c : Cel) (kk : Fo) (v : Value) (hv : NodeK W0 wb c kk v) (X : List Int) (hX : Byte X) (ht : TermAt W0 wb K v (rightI op.1 op.2.1) X) (ha : c.1 = 2 → TermAt W0 wb K v 1200 X)
    (w : World) (R : List Int) (k : Nat) (hR : Byte R) (hl : (rightR op R (opdW T c X)).length ≤ 10000000000) (hs : ∃ p n c, WS W0 w wb K p n c R k) :
    Calls Tryz.prog 112 #[.pointer (some ⟨wb, 0, none⟩), encV op, v] w (ROut W0 w wb K (rightR op R (opdW T c X))) := by
  have b32 : Byte [32] := fun x hx => by simp at hx; omega
  have e32 : strOfNums [32] = ⟨#[32]⟩ := rfl
  have hif : ∃ vt vx, v = .iface vt vx := by
    have hgr : W0.grownBy w (some wb) := by obtain ⟨_, _, _, h⟩ := hs; exact h.gr
    exact (hv.2 w hgr).iface
  obtain ⟨vt, vx, rfl⟩ := hif
  have hwb : wb < w.heap.size := by obtain ⟨_, _, _, h⟩ := hs; have := h.hwb; have := h.gr.size; omega
  have HO : Hid (∀ (W : World) (R1 : List Int) (k1 : Nat), Byte R1 → (putR R1 k1 (opdW T c X)).length ≤ 10000000000 → startB R1 k1 → (∃ p n c, WS W0 W wb K p n c R1 k1) → Calls Tryz.prog 123 #[.pointer (some ⟨wb, 0, none⟩), .iface vt vx, .int .i64 (rightI op.1 op.2.1)] W (TxtOut W0 W wb K R1 k1 (opdW T c X))) := fun W R1 k1 h1 h2 h3 h4 => opdI_any hE c kk _ hv X hX _ ht ha W R1 k1 h1 h2 h3 h4
  have HRP := fun W => opRight_any (strOfNums op.2.2) op.1 op.2.1 (by omega) W
  have hal : Below w.heap.size w (w.alloc (.cells #[.string (strOfNums op.2.2), .int .i64 op.1, .int .i64 op.2.1] 97)) := (Below.refl _ _).alloc (Nat.le_refl _) _
  have HSP := isSpaced_any op hb hl1 (w.alloc (.cells #[.string (strOfNums op.2.2), .int .i64 op.1, .int .i64 op.2.1] 97)) (hE.tabs.tab _ (by obtain ⟨_, _, _, h⟩ := hs; exact (h.below hal).gr))
  have HGB := fun W => gapBehind_any op hb W
  have HBX : Hid (∀ W, Kept (w.alloc (.cells #[.string (strOfNums op.2.2), .int .i64 op.1, .int .i64 op.2.1] 97)) W wb → BoxAt W w.heap.size (.string (strOfNums op.2.2)) (.int .i64 op.1) (.int .i64 op.2.1)) := fun W hW => box_kept hwb hW
  have HWS : Hid (∀ W, Below w.heap.size w W → ∃ p n c, WS W0 W wb K p n c R k) := fun W hW => by obtain ⟨p, n, c, h⟩ := hs; exact ⟨p, n, c, h.below hW⟩
  have HTB : Hid (∀ W, (∃ p n c R k, WS W0 W wb K p n c R k) → Tab W) := fun W ⟨_, _, _, _, _, h⟩ => hE.tabs.tab _ h.gr
  have HAL : Hid _ := hal
  have HR : Hid (Byte R ∧ Byte [32]) := ⟨hR, b32⟩
  unfold encV at HSP HGB ⊢
  cases hsp : spacedB op.2.2 with
  | true =>
    have e1 : rightR op R (opdW T c X) = R ++ 32 :: opdW T c X := by unfold rightR; rw [if_pos hsp]
    rw [e1] at hl ⊢
    rw [hsp] at HSP
    have HL : Hid ((R ++ 32 :: opdW T c X).length ≤ 10000000000) := hl
    clear hE hb hl1 hp hv ht ha hR hl hs hal b32 e1 HGB hsp hX hwb
    generalize opdW T c X = Y at HO HL ⊢
    generalize strOfNums op.2.2 = s at HRP HSP HBX HAL ⊢
    generalize rightI op.1 op.2.1 = ri at HO HRP
    generalize op.1 = po at HRP HSP HBX HAL ⊢
    generalize op.2.1 = to at HRP HSP HBX HAL ⊢
    go_enter Tryz.func112, Tryz.ntmps112
    go_wp2_with fail
    refine HSP.mono ?_
    rintro e w1 ⟨rfl, hb1⟩
    have HB1 : Hid (Below w.heap.size w w1) := Below.on HAL.out hb1
    have HK1 : Hid (Kept (w.alloc (.cells #[.string s, .int .i64 po, .int .i64 to] 97)) w1 wb) := Kept.below hb1
    have hs1 := HWS.out w1 HB1.out
    have H1 := put_any W0 w1 wb K R [32] k (HTB.out w1 (by obtain ⟨p, n, c, h⟩ := hs1; exact ⟨p, n, c, _, _, h⟩)) HR.out.1 HR.out.2 (by have := HL.out; simp at this ⊢; omega) hs1
    rw [e32, putR_close (.inr (.inr (.inr (.inr (.inr rfl)))))] at H1
    clear hb1 hs1 HSP
    go_wp2_with fail
    refine H1.mono ?_
    rintro e w2 ⟨rfl, hs2, hk2⟩
    rw [show putG k [32] = 0 from rfl] at hs2
    have HK2 : Hid (Kept (w.alloc (.cells #[.string s, .int .i64 po, .int .i64 to] 97)) w2 wb) := HK1.out.trans hk2
    have HS2 : Hid (∃ p n c, WS W0 w2 wb K p n c (R ++ [32]) 0) := hs2
    obtain ⟨z0, z1, z2⟩ := HBX.out w2 HK2.out
    have HRP2 := HRP w2
    clear hs2 hk2 H1 HRP
    go_wp2_with fail
    refine HRP2.mono ?_
    rintro e w3 ⟨rfl, hb3⟩
    have hs3 : ∃ p n c, WS W0 w3 wb K p n c (R ++ [32]) 0 := by obtain ⟨p, n, c, h⟩ := HS2.out; exact ⟨p, n, c, h.below hb3⟩
    have H3 := HO.out w3 (R ++ [32]) 0 (byte_app HR.out.1 HR.out.2) (by rw [putR_zero]; have := HL.out; simp at this ⊢; omega) (start_behind rfl 0) hs3
    have HK3 : Hid (Kept w w3 wb) := (Kept.below HAL.out).trans (HK2.out.trans (Kept.below hb3))
    clear hb3 hs3 HRP2 z0 z1 z2
    go_wp2_with fail
    refine H3.mono ?_
    rintro e w4 hout
    have HF : Hid (ROut W0 w wb K (R ++ 32 :: Y) e w4) := hout.rout HK3.out (by rw [putR_zero]; simp)
    obtain ⟨rfl, _, _⟩ := hout
    go_wp2_with fail
    exact bodyPost_end (v := .tuple #[]) (by simp [results, Tryz.results112, go_sem]) rfl HF.out
  | false =>
    have e1 : rightR op R (opdW T c X) = putR R (behK op) (opdW T c X) := by unfold rightR; rw [if_neg (by rw [hsp]; decide)]
    rw [e1] at hl ⊢
    rw [hsp] at HSP
    have HL : Hid ((putR R (behK op) (opdW T c X)).length ≤ 10000000000) := hl
    have HNE : Hid (behK op ≠ 0) := behK_ne op
    clear hE hb hl1 hp hv ht ha hR hl hs hal b32 e1 hsp hX hwb
    generalize opdW T c X = Y at HO HL ⊢
    generalize behK op = bk at HGB HL HNE ⊢
    generalize strOfNums op.2.2 = s at HRP HSP HBX HAL HGB ⊢
    generalize rightI op.1 op.2.1 = ri at HO HRP
    generalize op.1 = po at HRP HSP HBX HAL HGB ⊢
    generalize op.2.1 = to at HRP HSP HBX HAL HGB ⊢
    go_enter Tryz.func112, Tryz.ntmps112
    go_wp2_with fail
    refine HSP.mono ?_
    rintro e w1 ⟨rfl, hb1⟩
    have HB1 : Hid (Below w.heap.size w w1) := Below.on HAL.out hb1
    have HK1 : Hid (Kept (w.alloc (.cells #[.string s, .int .i64 po, .int .i64 to] 97)) w1 wb) := Kept.below hb1
    clear hb1 HSP
    go_wp2_with fail
    refine wp_region_held_drew (S := fun W => BoxAt W w.heap.size (.string s) (.int .i64 po) (.int .i64 to)) (by kernel_rfl) (HBX.out _ (HK1.out.trans (Kept.drewN w1 wb 1))) (fun hHeld => ?_)
    have hS0 : BoxAt w1.drew w.heap.size (.string s) (.int .i64 po) (.int .i64 to) := HBX.out _ (HK1.out.trans (Kept.drewN w1 wb 1))
    refine hTake (i := 0) (v := .pointer (some ⟨wb, 0, none⟩)) (some 12) (by kernel_rfl) (by kernel_rfl) (by kernel_rfl) (by kernel_rfl) (by kernel_rfl) (fun _ _ _ h => h) (fun o ho W hSw => ?y0) (by assumption) ?_
    case y0 =>
      cases ho
      obtain ⟨s0, s1, s2⟩ := hSw
      simp [execOp, go_sem, Act.eval]
    simp only [Act.put, zzA, zzB, zzC]
    refine hTake (i := 1) (v := .pointer (some ⟨wb, 0, none⟩)) (some 13) (by kernel_rfl) (by kernel_rfl) (by kernel_rfl) (by kernel_rfl) (by kernel_rfl) (fun _ _ _ h => h) (fun o ho W hSw => ?y1) (by assumption) ?_
    case y1 =>
      cases ho
      obtain ⟨s0, s1, s2⟩ := hSw
      simp [execOp, go_sem, Act.eval]
    simp only [Act.put, zzA, zzB, zzC]
    refine hTake (i := 2) (v := .pointer (some ⟨wb, 0, none⟩)) (some 14) (by kernel_rfl) (by kernel_rfl) (by kernel_rfl) (by kernel_rfl) (by kernel_rfl) (fun _ _ _ h => h) (fun o ho W hSw => ?y2) (by assumption) ?_
    case y2 =>
      cases ho
      obtain ⟨s0, s1, s2⟩ := hSw
      simp [execOp, go_sem, Act.eval]
    simp only [Act.put, zzA, zzB, zzC]
    refine hTake (i := 3) (v := .agg #[.string s, .int .i64 po, .int .i64 to]) (some 15) (by kernel_rfl) (by kernel_rfl) (by kernel_rfl) (by kernel_rfl) (by kernel_rfl) (fun _ _ _ h => h) (fun o ho W hSw => ?y3) (by assumption) ?_
    case y3 =>
      cases ho
      obtain ⟨s0, s1, s2⟩ := hSw
      simp [execOp, go_sem, Act.eval, s0, s1, s2]
    simp only [Act.put, zzA, zzB, zzC]
    refine hCallE (i := 4) (some 16) (by kernel_rfl) (by kernel_rfl) (by kernel_rfl) (fun o ho => ?y4) (HGB _) ?_ (fun ch w' h => by obtain ⟨h, _⟩ := h; simp at h) (fun w' h => by obtain ⟨h, _⟩ := h; simp at h)
    case y4 =>
      cases ho
      simp [execOp, go_sem, Act.eval]
    rintro u w2 ⟨hu, hb2⟩
    cases hu
    have HB2 : Hid (Below w1.heap.size w1 w2) := (Below.refl _ _).drew.trans hb2
    have HK2 : Hid (Kept (w.alloc (.cells #[.string s, .int .i64 po, .int .i64 to] 97)) w2 wb) := HK1.out.trans (Kept.below HB2.out)
    have hS2 := HBX.out w2 HK2.out
    refine ⟨hS2, ?_⟩
    obtain ⟨p2, n2, c2, h2⟩ := HWS.out w2 (HB1.out.trans (HB2.out.mono HB1.out.size))
    have HWS2 : Hid (WS W0 w2 wb K p2 n2 c2 R k) := h2
    clear hb2 h2
    simp only [Act.put, zzA, zzB, zzC]
    refine hCallE (i := 5) (some 17) (by kernel_rfl) (by kernel_rfl) (by kernel_rfl) (fun o ho => ?y5) (leaveGap_any bk HWS2.out) ?_ (fun ch w' h => by obtain ⟨h, _⟩ := h; simp at h) (fun w' h => by obtain ⟨h, _⟩ := h; simp at h)
    case y5 =>
      cases ho
      simp [execOp, go_sem, Act.eval]
    rintro u w3 ⟨hu, hw3⟩
    cases hu
    have HS3 : Hid (∃ p n c, WS W0 w3 wb K p n c R bk) := by show ∃ _, _; rw [hw3]; exact ⟨p2, n2, c2, HWS2.out.gap bk⟩
    have HK3 : Hid (Kept (w.alloc (.cells #[.string s, .int .i64 po, .int .i64 to] 97)) w3 wb) := by show Kept _ _ _; rw [hw3]; exact HK2.out.trans (Kept.setCell w2 wb 1 _)
    have hS3 := HBX.out w3 HK3.out
    refine ⟨hS3, ?_⟩
    clear hw3
    simp only [Act.put, zzA, zzB, zzC]
    refine wpAnyH_done (by kernel_rfl) ?_ _
    obtain ⟨z0, z1, z2⟩ := hS3
    have HRP3 := HRP w3
    clear HRP HGB hHeld hS0 hS2
    change Exit.then _ _ _ _ _
    go_wp2_with fail
    refine HRP3.mono ?_
    rintro e w4 ⟨rfl, hb4⟩
    have hs4 : ∃ p n c, WS W0 w4 wb K p n c R bk := by obtain ⟨p, n, c, h⟩ := HS3.out; exact ⟨p, n, c, h.below hb4⟩
    have H4 := HO.out w4 R bk HR.out.1 HL.out (fun h0 => absurd h0 HNE.out) hs4
    have HK4 : Hid (Kept w w4 wb) := (Kept.below HAL.out).trans (HK3.out.trans (Kept.below hb4))
    clear hb4 hs4 HRP3 z0 z1 z2
    go_wp2_with fail
    refine H4.mono ?_
    rintro e w5 hout
    have HF : Hid (ROut W0 w wb K (putR R bk Y) e w5) := hout.rout HK4.out rfl
    obtain ⟨rfl, _, _⟩ := hout
    go_wp2_with fail
    exact bodyPost_end (v := .tuple #[]) (by simp [results, Tryz.results112, go_sem]) rfl HF.out
end Go.Proofs.YtelcfcgdnebdgaaGreatDoor
namespace Go.Proofs.YtelcfcgdnebdgaaGreatDoor
open Go Go.RowKit
set_option linter.unusedVariables false
def leftQ (T : List Cel) (op c : Cel) : Bool := decide (0 ≤ topI T c) && (((opW T (topI T c)).1 == op.1) && ownR (opW T (topI T c)).2.1)
def leftT (T : List Cel) (op c : Cel) (X1 X2 : List Int) : List Int := if leftQ T op c = true then parW X2 else opdW T c X1
def LOut (W0 : Bas) (w : World) (wb : Nat) (K : WK) (R' : List Int) (k' : Nat) (e : Ending) (w' : World) : Prop := e = .returned (.tuple #[]) ∧ (∃ p n c, WS W0 w' wb K p n c R' k') ∧ Kept w w' wb
set_option maxRecDepth 100000 in
set_option maxHeartbeats 1000000 in
theorem leftOp_any {W0 : Bas} {wb : Nat} {K : WK} {T : List Cel} {N : List (List Int)} {M : Nat} (hE : EnvK W0 wb K T N M) (op : Cel) (hb : Byte op.2.2) (hl1 : op.2.2.length ≤ 100) (hp : 1 ≤ op.1 ∧ op.1 ≤ 1200) (c : Cel) (kk : Fo) (v : Value) (hv : NodeK W0 wb c kk v) (X1 X2 : List Int) (hX1 : Byte X1) (hX2 : Byte X2) (ht : TermAt W0 wb K v (leftI op.1 op.2.1) X1) (ha : c.1 = 2 → TermAt W0 wb K v 1200 X1) (ht2 : TermAt W0 wb K v 1200 X2)
    (w : World) (R : List Int) (k : Nat) (hR : Byte R) (hst : startB R k) (hl : (putR R k (leftT T op c X1 X2)).length ≤ 10000000000) (hs : ∃ p n c, WS W0 w wb K p n c R k) :
    Calls Tryz.prog 110 #[.pointer (some ⟨wb, 0, none⟩), encV op, v] w (LOut W0 w wb K (if spacedB op.2.2 = true then putR R k (leftT T op c X1 X2 ++ [32]) else putR R k (leftT T op c X1 X2)) (if spacedB op.2.2 = true then 0 else 1)) := by
  have b32 : Byte [32] := fun x hx => by simp at hx; omega
  have e32 : strOfNums [32] = ⟨#[32]⟩ := rfl
  have hgr : W0.grownBy w (some wb) := by obtain ⟨_, _, _, h⟩ := hs; exact h.gr
  obtain ⟨vt, vx, rfl⟩ := (hv.2 w hgr).iface
  have hwb : wb < w.heap.size := by obtain ⟨_, _, _, h⟩ := hs; have := h.hwb; have := h.gr.size; omega
  have hal : Below w.heap.size w (w.alloc (.cells #[.string (strOfNums op.2.2), .int .i64 op.1, .int .i64 op.2.1] 97)) := (Below.refl _ _).alloc (Nat.le_refl _) _
  have hsA : ∃ p n c, WS W0 (w.alloc (.cells #[.string (strOfNums op.2.2), .int .i64 op.1, .int .i64 op.2.1] 97)) wb K p n c R k := by obtain ⟨p, n, c, h⟩ := hs; exact ⟨p, n, c, h.below hal⟩
  have hgrA : W0.grownBy (w.alloc (.cells #[.string (strOfNums op.2.2), .int .i64 op.1, .int .i64 op.2.1] 97)) (some wb) := by obtain ⟨_, _, _, h⟩ := hsA; exact h.gr
  have c2 : (w.alloc (.cells #[.string (strOfNums op.2.2), .int .i64 op.1, .int .i64 op.2.1] 97)).cell? ⟨wb, 2, none⟩ = some (.map (some K.1)) := by obtain ⟨_, _, _, h⟩ := hsA; exact h.c2
  have HWW := ww_all (hE.ops _ hgrA) hE.tab c kk hv.1 _ (hv.2 _ hgrA)
  have HO : Hid (∀ (W : World), (∃ p n c, WS W0 W wb K p n c R k) → (putR R k (opdW T c X1)).length ≤ 10000000000 → Calls Tryz.prog 123 #[.pointer (some ⟨wb, 0, none⟩), .iface vt vx, .int .i64 (leftI op.1 op.2.1)] W (TxtOut W0 W wb K R k (opdW T c X1))) := fun W h4 h2 => opdI_any hE c kk _ hv X1 hX1 _ ht ha W R k hR h2 hst h4
  have HIP : Hid (∀ (W : World), (∃ p n c, WS W0 W wb K p n c R k) → (putR R k (parW X2)).length ≤ 10000000000 → Calls Tryz.prog 89 #[.pointer (some ⟨wb, 0, none⟩), .iface vt vx] W (TxtOut W0 W wb K R k (parW X2))) := fun W h4 h2 => inParens_any hE.tabs _ _ X2 hX2 ht2 W R k hR h2 h4
  have HLP := fun W => opLeft_any (strOfNums op.2.2) op.1 op.2.1 (by omega) W
  have HBX : Hid (∀ W, Kept (w.alloc (.cells #[.string (strOfNums op.2.2), .int .i64 op.1, .int .i64 op.2.1] 97)) W wb → BoxAt W w.heap.size (.string (strOfNums op.2.2)) (.int .i64 op.1) (.int .i64 op.2.1)) := fun W hW => box_kept hwb hW
  have HWS : Hid (∀ W, Below w.heap.size w W → ∃ p n c, WS W0 W wb K p n c R k) := fun W hW => by obtain ⟨p, n, c, h⟩ := hs; exact ⟨p, n, c, h.below hW⟩
  have HSP : Hid (∀ W, W0.grownBy W (some wb) → Calls Tryz.prog 125 #[encV op] W fun e w' => e = .returned (.bool (spacedB op.2.2)) ∧ Below W.heap.size W w') := fun W hW => isSpaced_any op hb hl1 W (hE.tabs.tab _ hW)
  have HOW := fun s p t W => opOwn_any s p t W
  have HAL : Hid _ := hal
  have HR : Hid (Byte R ∧ Byte [32] ∧ TabsK W0 wb ∧ wb < w.heap.size) := ⟨hR, b32, hE.tabs, hwb⟩
  have HQ : Hid (leftQ T op c = (decide (0 ≤ topI T c) && (((opW T (topI T c)).1 == op.1) && ownR (opW T (topI T c)).2.1))) := rfl
  have HBT : Hid (Byte (leftT T op c X1 X2)) := by
    show Byte _
    unfold leftT opdW
    split
    · exact (par_good hX2).1
    · split
      · exact (par_good hX1).1
      · exact hX1
  clear hb hl1 hp hv ht ha ht2 hX1 hX2 b32 hsA hgrA hgr hs hal hE hwb
  obtain ⟨RF, eRF⟩ : ∃ RF, RF = (if spacedB op.2.2 = true then putR R k (leftT T op c X1 X2 ++ [32]) else putR R k (leftT T op c X1 X2)) := ⟨_, rfl⟩
  obtain ⟨kF, ekF⟩ : ∃ kF, kF = (if spacedB op.2.2 = true then 0 else 1) := ⟨_, rfl⟩
  rw [← eRF, ← ekF]
  have HRF : Hid (RF = (if spacedB op.2.2 = true then putR R k (leftT T op c X1 X2 ++ [32]) else putR R k (leftT T op c X1 X2)) ∧ kF = (if spacedB op.2.2 = true then 0 else 1)) := ⟨eRF, ekF⟩
  have HLL : Hid ((putR R k (leftT T op c X1 X2)).length ≤ 10000000000) := hl
  clear eRF ekF hl
  unfold encV at HSP ⊢
  obtain ⟨s, es⟩ : ∃ s, s = strOfNums op.2.2 := ⟨_, rfl⟩
  rw [← es] at HSP HWW HLP HBX HAL c2 ⊢
  obtain ⟨o1, eo1⟩ : ∃ o1, o1 = op.1 := ⟨_, rfl⟩
  obtain ⟨o2, eo2⟩ : ∃ o2, o2 = op.2.1 := ⟨_, rfl⟩
  obtain ⟨lp, elp⟩ : ∃ lp, lp = leftI op.1 op.2.1 := ⟨_, rfl⟩
  rw [← elp] at HO HLP
  rw [← eo1] at HSP HWW HLP HBX HAL HQ c2 ⊢
  rw [← eo2] at HSP HWW HLP HBX HAL c2 ⊢
  obtain ⟨sp, esp⟩ : ∃ sp, sp = spacedB op.2.2 := ⟨_, rfl⟩
  rw [← esp] at HSP HRF
  clear es eo1 eo2 elp esp
  obtain ⟨L, eL⟩ : ∃ L, L = leftT T op c X1 X2 := ⟨_, rfl⟩
  rw [← eL] at HRF HLL HBT
  have HEL : Hid (L = if leftQ T op c = true then parW X2 else opdW T c X1) := eL
  have HO2 : Hid (leftQ T op c = false → ∀ (W : World), (∃ p n c, WS W0 W wb K p n c R k) → Calls Tryz.prog 123 #[.pointer (some ⟨wb, 0, none⟩), .iface vt vx, .int .i64 lp] W (TxtOut W0 W wb K R k L)) := fun hq W hW => by
    have e : L = opdW T c X1 := by rw [HEL.out, if_neg (by rw [hq]; decide)]
    have hl9 := HLL.out
    rw [e] at hl9 ⊢
    exact HO.out W hW (by omega)
  have HI2 : Hid (leftQ T op c = true → ∀ (W : World), (∃ p n c, WS W0 W wb K p n c R k) → Calls Tryz.prog 89 #[.pointer (some ⟨wb, 0, none⟩), .iface vt vx] W (TxtOut W0 W wb K R k L)) := fun hq W hW => by
    have e : L = parW X2 := by rw [HEL.out, if_pos hq]
    have hl9 := HLL.out
    rw [e] at hl9 ⊢
    exact HIP.out W hW (by omega)
  clear HO HIP eL HEL hst
  go_enter Tryz.func110, Tryz.ntmps110
  go_wp2_with fail
  refine HWW.mono ?_
  rintro e w1 ⟨so, po, to, rfl, henc, hb1⟩
  have HK1 : Hid (Kept (w.alloc (.cells #[.string s, .int .i64 o1, .int .i64 o2] 97)) w1 wb) := Kept.below hb1
  have HA1 : Hid (Below w1.heap.size w1 (w1.alloc (.cells #[.string so, .int .i64 po, .int .i64 to] 97))) := (Below.refl _ _).alloc (Nat.le_refl _) _
  have HB1 : Hid (Below w.heap.size w (w1.alloc (.cells #[.string so, .int .i64 po, .int .i64 to] 97))) := (Below.on HAL.out hb1).trans (HA1.out.mono (Below.on HAL.out hb1).size)
  have HKA : Hid (Kept (w.alloc (.cells #[.string s, .int .i64 o1, .int .i64 o2] 97)) (w1.alloc (.cells #[.string so, .int .i64 po, .int .i64 to] 97)) wb) := HK1.out.trans (Kept.below HA1.out)
  have HEN : Hid (0 ≤ topI T c → po = (opW T (topI T c)).1 ∧ to = (opW T (topI T c)).2.1) := fun h0 => by
    have h := henc h0
    unfold encV at h
    simp at h
    exact ⟨h.2.1, h.2.2⟩
  have HSA : Hid (∃ p n c, WS W0 (w1.alloc (.cells #[.string so, .int .i64 po, .int .i64 to] 97)) wb K p n c R k) := HWS.out _ HB1.out
  obtain ⟨y0, y1, y2⟩ := HBX.out _ HKA.out
  clear HWW henc hb1 c2 HWS HK1 HA1 HB1
  cases hf : decide (0 ≤ topI T c) with
  | false =>
    have HQF : Hid (leftQ T op c = false) := by show _ = _; rw [HQ.out, hf]; rfl
    have HSB : Hid _ := HSA.out
    have HKB : Hid _ := HKA.out
    go_wp2_with fail
    refine (HLP _).mono ?_
    rintro e w2 ⟨rfl, hb2⟩
    have hs2 : ∃ p n c, WS W0 w2 wb K p n c R k := by obtain ⟨p, n, c, h⟩ := HSB.out; exact ⟨p, n, c, h.below hb2⟩
    have H2 := HO2.out HQF.out w2 hs2
    have HK2 : Hid (Kept (w.alloc (.cells #[.string s, .int .i64 o1, .int .i64 o2] 97)) w2 wb) := HKB.out.trans (Kept.below hb2)
    clear hb2 hs2 HLP
    go_wp2_with fail
    refine H2.mono ?_
    rintro e w3 ⟨rfl, hs3, hk3⟩
    have HS3 : Hid (∃ k', (L = [] → k' = k) ∧ ∃ p n c, WS W0 w3 wb K p n c (putR R k L) k') := hs3
    have HK3 : Hid (Kept (w.alloc (.cells #[.string s, .int .i64 o1, .int .i64 o2] 97)) w3 wb) := HK2.out.trans hk3
    have hgr3 : W0.grownBy w3 (some wb) := by obtain ⟨_, _, _, _, _, h⟩ := hs3; exact h.gr
    have HSP3 := HSP.out w3 hgr3
    obtain ⟨z0, z1, z2⟩ := HBX.out w3 HK3.out
    clear hgr3 hs3 hk3 H2
    go_wp2_with fail
    refine HSP3.mono ?_
    rintro e w4 ⟨rfl, hb4⟩
    obtain ⟨k3, hk3, p3, n3, c3, h3⟩ := HS3.out
    have HW4 : Hid (WS W0 w4 wb K p3 n3 c3 (putR R k L) k3) := h3.below hb4
    have HK4 : Hid (Kept w w4 wb) := (Kept.below HAL.out).trans (HK3.out.trans (Kept.below hb4))
    have HK3' : Hid (L = [] → k3 = k) := hk3
    clear hb4 h3 hk3 HSP3 z0 z1 z2
    cases sp with
    | true =>
      have H5 := put_any W0 w4 wb K (putR R k L) [32] k3 (HR.out.2.2.1.tab _ HW4.out.gr) (byte_putR HR.out.1 HBT.out) HR.out.2.1 (by have := HLL.out; simp; omega) ⟨p3, n3, c3, HW4.out⟩
      rw [e32, putR_end (.inr (.inr (.inr (.inr (.inr rfl))))) R L k k3 HK3'.out []] at H5
      go_wp2_with fail
      refine H5.mono ?_
      rintro e w5 ⟨rfl, hs5, hk5⟩
      have HF : Hid (LOut W0 w wb K RF kF (.returned (.tuple #[])) w5) := ⟨rfl, by rw [HRF.out.1, HRF.out.2]; exact hs5, HK4.out.trans hk5⟩
      clear hs5 hk5 H5
      go_wp2_with fail
      exact bodyPost_end (v := .tuple #[]) (by simp [results, Tryz.results110, go_sem]) rfl HF.out
    | false =>
      have H5 : Calls Tryz.prog 126 #[.pointer (some ⟨wb, 0, none⟩), .func (.func 127) #[] #[]] w4 fun e w' => e = .returned (.tuple #[]) ∧ w' = w4.setCell ⟨wb, 1, none⟩ (gV 1) := leaveGap_any 1 HW4.out
      go_wp2_with fail
      refine H5.mono ?_
      rintro e w5 ⟨rfl, hw5⟩
      have HF : Hid (LOut W0 w wb K RF kF (.returned (.tuple #[])) w5) := by
        refine ⟨rfl, ?_, ?_⟩
        · rw [HRF.out.1, HRF.out.2, hw5]; exact ⟨p3, n3, c3, HW4.out.gap 1⟩
        · rw [hw5]; exact HK4.out.trans (Kept.setCell w4 wb 1 _)
      clear hw5 H5
      go_wp2_with fail
      exact bodyPost_end (v := .tuple #[]) (by simp [results, Tryz.results110, go_sem]) rfl HF.out
  | true =>
    have hpt := HEN.out (of_decide_eq_true hf)
    cases he : (po == o1) with
    | false =>
      have HQF : Hid (leftQ T op c = false) := by show _ = _; rw [HQ.out, hf, ← hpt.1, he]; rfl
      have hne : ¬ po = o1 := by simpa using he
      clear hpt
      have HSB : Hid _ := HSA.out
      have HKB : Hid _ := HKA.out
      go_wp2_with fail
      refine (HLP _).mono ?_
      rintro e w2 ⟨rfl, hb2⟩
      have hs2 : ∃ p n c, WS W0 w2 wb K p n c R k := by obtain ⟨p, n, c, h⟩ := HSB.out; exact ⟨p, n, c, h.below hb2⟩
      have H2 := HO2.out HQF.out w2 hs2
      have HK2 : Hid (Kept (w.alloc (.cells #[.string s, .int .i64 o1, .int .i64 o2] 97)) w2 wb) := HKB.out.trans (Kept.below hb2)
      clear hb2 hs2 HLP
      go_wp2_with fail
      refine H2.mono ?_
      rintro e w3 ⟨rfl, hs3, hk3⟩
      have HS3 : Hid (∃ k', (L = [] → k' = k) ∧ ∃ p n c, WS W0 w3 wb K p n c (putR R k L) k') := hs3
      have HK3 : Hid (Kept (w.alloc (.cells #[.string s, .int .i64 o1, .int .i64 o2] 97)) w3 wb) := HK2.out.trans hk3
      have hgr3 : W0.grownBy w3 (some wb) := by obtain ⟨_, _, _, _, _, h⟩ := hs3; exact h.gr
      have HSP3 := HSP.out w3 hgr3
      obtain ⟨z0, z1, z2⟩ := HBX.out w3 HK3.out
      clear hgr3 hs3 hk3 H2
      go_wp2_with fail
      refine HSP3.mono ?_
      rintro e w4 ⟨rfl, hb4⟩
      obtain ⟨k3, hk3, p3, n3, c3, h3⟩ := HS3.out
      have HW4 : Hid (WS W0 w4 wb K p3 n3 c3 (putR R k L) k3) := h3.below hb4
      have HK4 : Hid (Kept w w4 wb) := (Kept.below HAL.out).trans (HK3.out.trans (Kept.below hb4))
      have HK3' : Hid (L = [] → k3 = k) := hk3
      clear hb4 h3 hk3 HSP3 z0 z1 z2
      cases sp with
      | true =>
        have H5 := put_any W0 w4 wb K (putR R k L) [32] k3 (HR.out.2.2.1.tab _ HW4.out.gr) (byte_putR HR.out.1 HBT.out) HR.out.2.1 (by have := HLL.out; simp; omega) ⟨p3, n3, c3, HW4.out⟩
        rw [e32, putR_end (.inr (.inr (.inr (.inr (.inr rfl))))) R L k k3 HK3'.out []] at H5
        go_wp2_with fail
        refine H5.mono ?_
        rintro e w5 ⟨rfl, hs5, hk5⟩
        have HF : Hid (LOut W0 w wb K RF kF (.returned (.tuple #[])) w5) := ⟨rfl, by rw [HRF.out.1, HRF.out.2]; exact hs5, HK4.out.trans hk5⟩
        clear hs5 hk5 H5
        go_wp2_with fail
        exact bodyPost_end (v := .tuple #[]) (by simp [results, Tryz.results110, go_sem]) rfl HF.out
      | false =>
        have H5 : Calls Tryz.prog 126 #[.pointer (some ⟨wb, 0, none⟩), .func (.func 127) #[] #[]] w4 fun e w' => e = .returned (.tuple #[]) ∧ w' = w4.setCell ⟨wb, 1, none⟩ (gV 1) := leaveGap_any 1 HW4.out
        go_wp2_with fail
        refine H5.mono ?_
        rintro e w5 ⟨rfl, hw5⟩
        have HF : Hid (LOut W0 w wb K RF kF (.returned (.tuple #[])) w5) := by
          refine ⟨rfl, ?_, ?_⟩
          · rw [HRF.out.1, HRF.out.2, hw5]; exact ⟨p3, n3, c3, HW4.out.gap 1⟩
          · rw [hw5]; exact HK4.out.trans (Kept.setCell w4 wb 1 _)
        clear hw5 H5
        go_wp2_with fail
        exact bodyPost_end (v := .tuple #[]) (by simp [results, Tryz.results110, go_sem]) rfl HF.out
    | true =>
      obtain rfl : po = o1 := by simpa using he
      have HOWA := HOW so po to (w1.alloc (.cells #[.string so, .int .i64 po, .int .i64 to] 97))
      cases ho : ownR to with
      | false =>
        have HQF : Hid (leftQ T op c = false) := by show _ = _; rw [HQ.out, hf, ← hpt.1, ← hpt.2, ho]; simp
        rw [ho] at HOWA
        clear hpt
        go_wp2_with fail
        refine HOWA.mono ?_
        rintro e wo ⟨rfl, hbo⟩
        have HSB : Hid (∃ p n c, WS W0 wo wb K p n c R k) := by obtain ⟨p, n, c, h⟩ := HSA.out; exact ⟨p, n, c, h.below hbo⟩
        have HKB : Hid (Kept (w.alloc (.cells #[.string s, .int .i64 po, .int .i64 o2] 97)) wo wb) := HKA.out.trans (Kept.below hbo)
        obtain ⟨x0, x1, x2⟩ := HBX.out wo HKB.out
        clear hbo HOWA y0 y1 y2
        go_wp2_with fail
        refine (HLP _).mono ?_
        rintro e w2 ⟨rfl, hb2⟩
        have hs2 : ∃ p n c, WS W0 w2 wb K p n c R k := by obtain ⟨p, n, c, h⟩ := HSB.out; exact ⟨p, n, c, h.below hb2⟩
        have H2 := HO2.out HQF.out w2 hs2
        have HK2 : Hid (Kept (w.alloc (.cells #[.string s, .int .i64 po, .int .i64 o2] 97)) w2 wb) := HKB.out.trans (Kept.below hb2)
        clear hb2 hs2 HLP
        go_wp2_with fail
        refine H2.mono ?_
        rintro e w3 ⟨rfl, hs3, hk3⟩
        have HS3 : Hid (∃ k', (L = [] → k' = k) ∧ ∃ p n c, WS W0 w3 wb K p n c (putR R k L) k') := hs3
        have HK3 : Hid (Kept (w.alloc (.cells #[.string s, .int .i64 po, .int .i64 o2] 97)) w3 wb) := HK2.out.trans hk3
        have hgr3 : W0.grownBy w3 (some wb) := by obtain ⟨_, _, _, _, _, h⟩ := hs3; exact h.gr
        have HSP3 := HSP.out w3 hgr3
        obtain ⟨z0, z1, z2⟩ := HBX.out w3 HK3.out
        clear hgr3 hs3 hk3 H2
        go_wp2_with fail
        refine HSP3.mono ?_
        rintro e w4 ⟨rfl, hb4⟩
        obtain ⟨k3, hk3, p3, n3, c3, h3⟩ := HS3.out
        have HW4 : Hid (WS W0 w4 wb K p3 n3 c3 (putR R k L) k3) := h3.below hb4
        have HK4 : Hid (Kept w w4 wb) := (Kept.below HAL.out).trans (HK3.out.trans (Kept.below hb4))
        have HK3' : Hid (L = [] → k3 = k) := hk3
        clear hb4 h3 hk3 HSP3 z0 z1 z2
        cases sp with
        | true =>
          have H5 := put_any W0 w4 wb K (putR R k L) [32] k3 (HR.out.2.2.1.tab _ HW4.out.gr) (byte_putR HR.out.1 HBT.out) HR.out.2.1 (by have := HLL.out; simp; omega) ⟨p3, n3, c3, HW4.out⟩
          rw [e32, putR_end (.inr (.inr (.inr (.inr (.inr rfl))))) R L k k3 HK3'.out []] at H5
          go_wp2_with fail
          refine H5.mono ?_
          rintro e w5 ⟨rfl, hs5, hk5⟩
          have HF : Hid (LOut W0 w wb K RF kF (.returned (.tuple #[])) w5) := ⟨rfl, by rw [HRF.out.1, HRF.out.2]; exact hs5, HK4.out.trans hk5⟩
          clear hs5 hk5 H5
          go_wp2_with fail
          exact bodyPost_end (v := .tuple #[]) (by simp [results, Tryz.results110, go_sem]) rfl HF.out
        | false =>
          have H5 : Calls Tryz.prog 126 #[.pointer (some ⟨wb, 0, none⟩), .func (.func 127) #[] #[]] w4 fun e w' => e = .returned (.tuple #[]) ∧ w' = w4.setCell ⟨wb, 1, none⟩ (gV 1) := leaveGap_any 1 HW4.out
          go_wp2_with fail
          refine H5.mono ?_
          rintro e w5 ⟨rfl, hw5⟩
          have HF : Hid (LOut W0 w wb K RF kF (.returned (.tuple #[])) w5) := by
            refine ⟨rfl, ?_, ?_⟩
            · rw [HRF.out.1, HRF.out.2, hw5]; exact ⟨p3, n3, c3, HW4.out.gap 1⟩
            · rw [hw5]; exact HK4.out.trans (Kept.setCell w4 wb 1 _)
          clear hw5 H5
          go_wp2_with fail
          exact bodyPost_end (v := .tuple #[]) (by simp [results, Tryz.results110, go_sem]) rfl HF.out
      | true =>
        have HQF : Hid (leftQ T op c = true) := by show _ = _; rw [HQ.out, hf, ← hpt.1, ← hpt.2, ho]; simp
        rw [ho] at HOWA
        clear hpt
        go_wp2_with fail
        refine HOWA.mono ?_
        rintro e wo ⟨rfl, hbo⟩
        have hs2 : ∃ p n c, WS W0 wo wb K p n c R k := by obtain ⟨p, n, c, h⟩ := HSA.out; exact ⟨p, n, c, h.below hbo⟩
        have HK2 : Hid (Kept (w.alloc (.cells #[.string s, .int .i64 po, .int .i64 o2] 97)) wo wb) := HKA.out.trans (Kept.below hbo)
        have H2 := HI2.out HQF.out wo hs2
        clear hbo HOWA y0 y1 y2 hs2
        go_wp2_with fail
        refine H2.mono ?_
        rintro e w3 ⟨rfl, hs3, hk3⟩
        have HS3 : Hid (∃ k', (L = [] → k' = k) ∧ ∃ p n c, WS W0 w3 wb K p n c (putR R k L) k') := hs3
        have HK3 : Hid (Kept (w.alloc (.cells #[.string s, .int .i64 po, .int .i64 o2] 97)) w3 wb) := HK2.out.trans hk3
        have hgr3 : W0.grownBy w3 (some wb) := by obtain ⟨_, _, _, _, _, h⟩ := hs3; exact h.gr
        have HSP3 := HSP.out w3 hgr3
        obtain ⟨z0, z1, z2⟩ := HBX.out w3 HK3.out
        clear hgr3 hs3 hk3 H2
        go_wp2_with fail
        refine HSP3.mono ?_
        rintro e w4 ⟨rfl, hb4⟩
        obtain ⟨k3, hk3, p3, n3, c3, h3⟩ := HS3.out
        have HW4 : Hid (WS W0 w4 wb K p3 n3 c3 (putR R k L) k3) := h3.below hb4
        have HK4 : Hid (Kept w w4 wb) := (Kept.below HAL.out).trans (HK3.out.trans (Kept.below hb4))
        have HK3' : Hid (L = [] → k3 = k) := hk3
        clear hb4 h3 hk3 HSP3 z0 z1 z2
        cases sp with
        | true =>
          have H5 := put_any W0 w4 wb K (putR R k L) [32] k3 (HR.out.2.2.1.tab _ HW4.out.gr) (byte_putR HR.out.1 HBT.out) HR.out.2.1 (by have := HLL.out; simp; omega) ⟨p3, n3, c3, HW4.out⟩
          rw [e32, putR_end (.inr (.inr (.inr (.inr (.inr rfl))))) R L k k3 HK3'.out []] at H5
          go_wp2_with fail
          refine H5.mono ?_
          rintro e w5 ⟨rfl, hs5, hk5⟩
          have HF : Hid (LOut W0 w wb K RF kF (.returned (.tuple #[])) w5) := ⟨rfl, by rw [HRF.out.1, HRF.out.2]; exact hs5, HK4.out.trans hk5⟩
          clear hs5 hk5 H5
          go_wp2_with fail
          exact bodyPost_end (v := .tuple #[]) (by simp [results, Tryz.results110, go_sem]) rfl HF.out
        | false =>
          have H5 : Calls Tryz.prog 126 #[.pointer (some ⟨wb, 0, none⟩), .func (.func 127) #[] #[]] w4 fun e w' => e = .returned (.tuple #[]) ∧ w' = w4.setCell ⟨wb, 1, none⟩ (gV 1) := leaveGap_any 1 HW4.out
          go_wp2_with fail
          refine H5.mono ?_
          rintro e w5 ⟨rfl, hw5⟩
          have HF : Hid (LOut W0 w wb K RF kF (.returned (.tuple #[])) w5) := by
            refine ⟨rfl, ?_, ?_⟩
            · rw [HRF.out.1, HRF.out.2, hw5]; exact ⟨p3, n3, c3, HW4.out.gap 1⟩
            · rw [hw5]; exact HK4.out.trans (Kept.setCell w4 wb 1 _)
          clear hw5 H5
          go_wp2_with fail
          exact bodyPost_end (v := .tuple #[]) (by simp [results, Tryz.results110, go_sem]) rfl HF.out
end Go.Proofs.YtelcfcgdnebdgaaGreatDoor
