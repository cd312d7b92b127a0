/- Texts of LcK, LcL. Own work of the verifier. -/
import Derived.Test.YtjhbplgppakhoaaGreatDoorUqbk
import Derived.Test.YtjhbplgppakhoaaGreatDoorUqat
import Derived.Test.YtjhbplgppakhoaaGreatDoorUqbd
namespace Go.Proofs.YtjhbplgppakhoaaGreatDoor
open Go Go.RowKit
set_option linter.unusedVariables false
set_option linter.unusedSimpArgs false
theorem putG_zero (X : List Int) : putG 0 X = 0 := by unfold putG; split <;> rfl
theorem putG_some {X : List Int} (h : X ≠ []) (k : Nat) : putG k X = 0 := by unfold putG; rw [if_neg h]
theorem put0 {B : Bas} {wb : Nat} {K : WK} (hK : TabsK B wb) (W : World) (R X : List Int) (hR : Byte R) (hX : Byte X) (hl : R.length + X.length ≤ 100000000) (h : ∃ p n c, WS B W wb K p n c R 0) :
    Calls Tryz.prog 69 #[.pointer (some ⟨wb, 0, none⟩), .string (strOfNums X)] W (PutOut B W wb K (R ++ X) 0) := by
  have hg : B.grownBy W (some wb) := by obtain ⟨_, _, _, h⟩ := h; exact h.gr
  have := put_any B W wb K R X 0 (hK.tab _ hg) hR hX (by omega) h
  rw [putR_zero, putG_zero] at this
  exact this
theorem gR_lf (k : Nat) (z : Int) : gR k z 10 = false := by
  have h8 : isOfB 10 8 = false := rfl
  have h4 : isOfB 10 4 = false := rfl
  have g1 : gap1 z 10 = false := by unfold gap1; rw [h8]; simp
  have g2 : gap2 z 10 = false := by unfold gap2; rw [g1]; rfl
  match k with
  | 0 => rfl
  | 1 => exact g1
  | 2 => exact g2
  | m + 3 => show gap3 z 10 = false; unfold gap3; rw [h4, g2]; rfl
theorem put1 {B : Bas} {wb : Nat} {K : WK} (hK : TabsK B wb) (W : World) (R : List Int) (y : Int) (hy : y = 32 ∨ y = 10) (hR : Byte R) (hl : R.length ≤ 100000000) (h : ∃ k p n c, WS B W wb K p n c R k) :
    Calls Tryz.prog 69 #[.pointer (some ⟨wb, 0, none⟩), .string (strOfNums [y])] W (PutOut B W wb K (R ++ [y]) 0) := by
  obtain ⟨k, h⟩ := h
  have hg : B.grownBy W (some wb) := by obtain ⟨_, _, _, h⟩ := h; exact h.gr
  have := put_any B W wb K R [y] k (hK.tab _ hg) hR (byte_one (by omega) (by omega)) (by simp; omega) h
  rw [putG_some (by simp), putR_cons] at this
  have e : gR k (endI R) y = false := by
    rcases hy with rfl | rfl
    · exact gR_close (by unfold closeB; omega) k _
    · exact gR_lf k _
  rw [e] at this
  exact this
set_option maxRecDepth 100000 in
theorem hasFunctor_any (op r a kd cn : Int) (q : Option Addr) (m qc : Nat) (s : Option Addr) (n sc : Nat) (u : Option Addr) (l uc : Nat) (w : World) :
    Calls Tryz.prog 119 #[.agg #[.int .i64 op, .int .i64 r, .int .i64 a, .int .i64 kd, .int .i64 cn, .slice q m qc, .slice s n sc, .slice u l uc]] w fun e w' => e = .returned (.bool (hfB op)) ∧ Below w.heap.size w w' := by
  have HF : Hid (∀ o, Below w.heap.size w (w.alloc o)) := fun o => (Below.refl _ _).alloc (Nat.le_refl _) _
  by_cases h3 : op = 3
  · subst h3
    go_enter Tryz.func119, Tryz.ntmps119
    go_wp2_with fail
    go_ret
    exact ⟨rfl, HF.out _⟩
  · by_cases h12 : op = 12
    · subst h12
      go_enter Tryz.func119, Tryz.ntmps119
      go_wp2_with fail
      go_ret
      exact ⟨rfl, HF.out _⟩
    · by_cases h19 : op = 19
      · subst h19
        go_enter Tryz.func119, Tryz.ntmps119
        go_wp2_with fail
        go_ret
        exact ⟨rfl, HF.out _⟩
      · by_cases h20 : op = 20
        · subst h20
          go_enter Tryz.func119, Tryz.ntmps119
          go_wp2_with fail
          go_ret
          exact ⟨rfl, HF.out _⟩
        · by_cases h22 : op = 22
          · subst h22
            go_enter Tryz.func119, Tryz.ntmps119
            go_wp2_with fail
            go_ret
            exact ⟨rfl, HF.out _⟩
          · have HE : Hid (hfB op = false) := by show hfB op = false; unfold hfB; exact decide_eq_false (by omega)
            rw [HE.out]
            go_enter Tryz.func119, Tryz.ntmps119
            go_wp2_with fail
            go_ret
            exact ⟨rfl, HF.out _⟩
set_option maxRecDepth 100000 in
set_option maxHeartbeats 1000000 in
theorem register_any {B : Bas} {wb : Nat} {K : WK} (hK : TabsK B wb) (r : Int) (h0 : -9223372036854775808 ≤ r) (h1 : r < 9223372036854775808) (w : World) (R : List Int) (hR : Byte R) (hl : R.length ≤ 90000000) (hs : ∃ p n c, WS B w wb K p n c R 0) :
    Calls Tryz.prog 82 #[.pointer (some ⟨wb, 0, none⟩), .int .i64 r] w (PutOut B w wb K (R ++ regT r) 0) := by
  by_cases hr : r < 0
  · skip
    have HY := put0 hK w R [121] hR (byte_one (by decide) (by decide)) (by simp; omega) hs
    rw [show strOfNums [121] = ⟨#[121]⟩ from rfl] at HY
    have HI : Hid (∀ W, B.grownBy W (some wb) → Calls Tryz.prog 71 #[.int .i64 (-1 - r)] W fun e w' => e = .returned (.string (strOfNums (decW (-1 - r)))) ∧ Below W.heap.size W w') := fun W hW => itoa64_any _ (by omega) (by omega) W (hK.pow _ hW)
    obtain ⟨X, eX⟩ : ∃ X, X = decW (-1 - r) := ⟨_, rfl⟩
    have HP : Hid (∀ W, (∃ p n c, WS B W wb K p n c (R ++ [121]) 0) → Calls Tryz.prog 69 #[.pointer (some ⟨wb, 0, none⟩), .string (strOfNums (decW (-1 - r)))] W (PutOut B W wb K (R ++ [121] ++ X) 0)) := fun W hW => by
      rw [eX]
      exact put0 hK W (R ++ [121]) _ (byte_app hR (byte_one (by decide) (by decide))) (decW_byte _) (by have := decW_len (-1 - r); simp; omega) hW
    have HE : Hid (X = decW (-1 - r)) := eX
    obtain ⟨sx, esx⟩ : ∃ sx, sx = strOfNums (decW (-1 - r)) := ⟨_, rfl⟩
    rw [← esx] at HI HP
    have HR : Hid (r < 0) := hr
    have hwr : IntKind.i64.wrap (-1 - r) = -1 - r := by rw [IntKind.wrap_i64]; omega
    clear eX esx hs hR hl hK
    go_enter Tryz.func82, Tryz.ntmps82
    go_wp2_with fail
    refine HY.mono ?_
    rintro e w2 ⟨rfl, hs2, hkp⟩
    have HS2 : Hid (∃ p n c, WS B w2 wb K p n c (R ++ [121]) 0) := hs2
    have HKP : Hid (Kept w w2 wb) := hkp
    have HB : Hid (B.grownBy (w2.drewN 1) (some wb)) := by obtain ⟨p, n, c, h⟩ := hs2; exact (h.drewN 1).gr
    clear hs2 hkp HY
    go_wp2_with fail
    refine wp_region_held_drew (S := fun _ => True) (by kernel_rfl) trivial (fun hHeld => ?_)
    have hS0 : True := trivial
    refine hTake (i := 0) (v := .pointer (some ⟨wb, 0, none⟩)) (some 11) (by kernel_rfl) (by kernel_rfl) (by kernel_rfl) (by kernel_rfl) (by kernel_rfl) (fun _ _ _ h => h) (fun o ho W hSw => ?y0) (by assumption) ?_
    case y0 =>
      cases ho
      simp [execOp, go_sem, Act.eval]
    simp only [Act.put, zzA, zzB, zzC]
    refine hTake (i := 1) (v := .pointer (some ⟨wb, 0, none⟩)) (some 12) (by kernel_rfl) (by kernel_rfl) (by kernel_rfl) (by kernel_rfl) (by kernel_rfl) (fun _ _ _ h => h) (fun o ho W hSw => ?y1) (by assumption) ?_
    case y1 =>
      cases ho
      simp [execOp, go_sem, Act.eval]
    simp only [Act.put, zzA, zzB, zzC]
    refine hTake (i := 2) (v := .pointer (some ⟨wb, 0, none⟩)) (some 13) (by kernel_rfl) (by kernel_rfl) (by kernel_rfl) (by kernel_rfl) (by kernel_rfl) (fun _ _ _ h => h) (fun o ho W hSw => ?y2) (by assumption) ?_
    case y2 =>
      cases ho
      simp [execOp, go_sem, Act.eval]
    simp only [Act.put, zzA, zzB, zzC]
    refine hTake (i := 3) (v := .pointer (some ⟨wb, 0, none⟩)) (some 14) (by kernel_rfl) (by kernel_rfl) (by kernel_rfl) (by kernel_rfl) (by kernel_rfl) (fun _ _ _ h => h) (fun o ho W hSw => ?y3) (by assumption) ?_
    case y3 =>
      cases ho
      simp [execOp, go_sem, Act.eval]
    simp only [Act.put, zzA, zzB, zzC]
    refine hTake (i := 4) (v := .int .i64 r) (some 15) (by kernel_rfl) (by kernel_rfl) (by kernel_rfl) (by kernel_rfl) (by kernel_rfl) (fun _ _ _ h => h) (fun o ho W hSw => ?y4) (by assumption) ?_
    case y4 =>
      cases ho
      simp [execOp, go_sem, Act.eval]
    simp only [Act.put, zzA, zzB, zzC]
    refine hTake (i := 5) (v := .int .i64 (-1 - r)) (some 16) (by kernel_rfl) (by kernel_rfl) (by kernel_rfl) (by kernel_rfl) (by kernel_rfl) (fun _ _ _ h => h) (fun o ho W hSw => ?y5) (by assumption) ?_
    case y5 =>
      cases ho
      simp [execOp, go_sem, Act.eval, hwr]
    simp only [Act.put, zzA, zzB, zzC]
    refine hCallE (i := 6) (some 17) (by kernel_rfl) (by kernel_rfl) (by kernel_rfl) (fun o ho => ?y6) (HI.out _ HB.out) ?_ (fun ch w' h => by obtain ⟨h, _⟩ := h; simp at h) (fun w' h => by obtain ⟨h, _⟩ := h; simp at h)
    case y6 =>
      cases ho
      simp [execOp, go_sem, Act.eval]
    rintro u w3 ⟨hu, hb3⟩
    cases hu
    have HB3 : Hid (∃ p n c, WS B w3 wb K p n c (R ++ [121]) 0) := by obtain ⟨p, n, c, h⟩ := HS2.out; exact ⟨p, n, c, (h.drewN 1).below hb3⟩
    have HK3 : Hid (Kept w w3 wb) := HKP.out.trans ((Kept.drewN w2 wb 1).trans (Kept.below hb3))
    clear hb3
    refine ⟨trivial, ?_⟩
    simp only [Act.put, zzA, zzB, zzC]
    refine hCallE (i := 7) (some 18) (by kernel_rfl) (by kernel_rfl) (by kernel_rfl) (fun o ho => ?y7) (HP.out w3 HB3.out) ?_ (fun ch w' h => by obtain ⟨h, _⟩ := h; simp at h) (fun w' h => by obtain ⟨h, _⟩ := h; simp at h)
    case y7 =>
      cases ho
      simp [execOp, go_sem, Act.eval]
    rintro u w4 hout
    have HO : Hid (PutOut B w wb K (R ++ regT r) 0 (.returned (.tuple #[])) w4) := by
      obtain ⟨h1, h2, h3⟩ := hout
      have e : R ++ regT r = R ++ [121] ++ decW (-1 - r) := by unfold regT; rw [if_pos HR.out]; simp
      rw [HE.out] at h2
      show PutOut _ _ _ _ _ _ _ _
      rw [e]
      exact ⟨rfl, h2, HK3.out.trans h3⟩
    obtain ⟨hu, _, _⟩ := hout
    cases hu
    refine ⟨trivial, ?_⟩
    simp only [Act.put, zzA, zzB, zzC]
    refine wpAnyH_done (by kernel_rfl) ?_ _
    go_wp2_with fail
    exact bodyPost_ret (v := .tuple #[]) (by simp [results, Tryz.results82, go_sem]) rfl HO.out
  · skip
    have HY := put0 hK w R [120] hR (byte_one (by decide) (by decide)) (by simp; omega) hs
    rw [show strOfNums [120] = ⟨#[120]⟩ from rfl] at HY
    have HI : Hid (∀ W, B.grownBy W (some wb) → Calls Tryz.prog 71 #[.int .i64 r] W fun e w' => e = .returned (.string (strOfNums (decW r))) ∧ Below W.heap.size W w') := fun W hW => itoa64_any _ (by omega) (by omega) W (hK.pow _ hW)
    obtain ⟨X, eX⟩ : ∃ X, X = decW r := ⟨_, rfl⟩
    have HP : Hid (∀ W, (∃ p n c, WS B W wb K p n c (R ++ [120]) 0) → Calls Tryz.prog 69 #[.pointer (some ⟨wb, 0, none⟩), .string (strOfNums (decW r))] W (PutOut B W wb K (R ++ [120] ++ X) 0)) := fun W hW => by
      rw [eX]
      exact put0 hK W (R ++ [120]) _ (byte_app hR (byte_one (by decide) (by decide))) (decW_byte _) (by have := decW_len r; simp; omega) hW
    have HE : Hid (X = decW r) := eX
    obtain ⟨sx, esx⟩ : ∃ sx, sx = strOfNums (decW r) := ⟨_, rfl⟩
    rw [← esx] at HI HP
    have HR : Hid (¬ r < 0) := hr
    have hwr : True := trivial
    clear eX esx hs hR hl hK
    go_enter Tryz.func82, Tryz.ntmps82
    go_wp2_with fail
    refine HY.mono ?_
    rintro e w2 ⟨rfl, hs2, hkp⟩
    have HS2 : Hid (∃ p n c, WS B w2 wb K p n c (R ++ [120]) 0) := hs2
    have HKP : Hid (Kept w w2 wb) := hkp
    have HB : Hid (B.grownBy (w2.drewN 1) (some wb)) := by obtain ⟨p, n, c, h⟩ := hs2; exact (h.drewN 1).gr
    clear hs2 hkp HY
    go_wp2_with fail
    refine wp_region_held_drew (S := fun _ => True) (by kernel_rfl) trivial (fun hHeld => ?_)
    have hS0 : True := trivial
    refine hTake (i := 0) (v := .pointer (some ⟨wb, 0, none⟩)) (some 24) (by kernel_rfl) (by kernel_rfl) (by kernel_rfl) (by kernel_rfl) (by kernel_rfl) (fun _ _ _ h => h) (fun o ho W hSw => ?y0) (by assumption) ?_
    case y0 =>
      cases ho
      simp [execOp, go_sem, Act.eval]
    simp only [Act.put, zzA, zzB, zzC]
    refine hTake (i := 1) (v := .pointer (some ⟨wb, 0, none⟩)) (some 25) (by kernel_rfl) (by kernel_rfl) (by kernel_rfl) (by kernel_rfl) (by kernel_rfl) (fun _ _ _ h => h) (fun o ho W hSw => ?y1) (by assumption) ?_
    case y1 =>
      cases ho
      simp [execOp, go_sem, Act.eval]
    simp only [Act.put, zzA, zzB, zzC]
    refine hTake (i := 2) (v := .pointer (some ⟨wb, 0, none⟩)) (some 26) (by kernel_rfl) (by kernel_rfl) (by kernel_rfl) (by kernel_rfl) (by kernel_rfl) (fun _ _ _ h => h) (fun o ho W hSw => ?y2) (by assumption) ?_
    case y2 =>
      cases ho
      simp [execOp, go_sem, Act.eval]
    simp only [Act.put, zzA, zzB, zzC]
    refine hTake (i := 3) (v := .pointer (some ⟨wb, 0, none⟩)) (some 27) (by kernel_rfl) (by kernel_rfl) (by kernel_rfl) (by kernel_rfl) (by kernel_rfl) (fun _ _ _ h => h) (fun o ho W hSw => ?y3) (by assumption) ?_
    case y3 =>
      cases ho
      simp [execOp, go_sem, Act.eval]
    simp only [Act.put, zzA, zzB, zzC]
    refine hTake (i := 4) (v := .int .i64 r) (some 28) (by kernel_rfl) (by kernel_rfl) (by kernel_rfl) (by kernel_rfl) (by kernel_rfl) (fun _ _ _ h => h) (fun o ho W hSw => ?y4) (by assumption) ?_
    case y4 =>
      cases ho
      simp [execOp, go_sem, Act.eval]
    simp only [Act.put, zzA, zzB, zzC]
    refine hCallE (i := 5) (some 29) (by kernel_rfl) (by kernel_rfl) (by kernel_rfl) (fun o ho => ?y5) (HI.out _ HB.out) ?_ (fun ch w' h => by obtain ⟨h, _⟩ := h; simp at h) (fun w' h => by obtain ⟨h, _⟩ := h; simp at h)
    case y5 =>
      cases ho
      simp [execOp, go_sem, Act.eval]
    rintro u w3 ⟨hu, hb3⟩
    cases hu
    have HB3 : Hid (∃ p n c, WS B w3 wb K p n c (R ++ [120]) 0) := by obtain ⟨p, n, c, h⟩ := HS2.out; exact ⟨p, n, c, (h.drewN 1).below hb3⟩
    have HK3 : Hid (Kept w w3 wb) := HKP.out.trans ((Kept.drewN w2 wb 1).trans (Kept.below hb3))
    clear hb3
    refine ⟨trivial, ?_⟩
    simp only [Act.put, zzA, zzB, zzC]
    refine hCallE (i := 6) (some 30) (by kernel_rfl) (by kernel_rfl) (by kernel_rfl) (fun o ho => ?y6) (HP.out w3 HB3.out) ?_ (fun ch w' h => by obtain ⟨h, _⟩ := h; simp at h) (fun w' h => by obtain ⟨h, _⟩ := h; simp at h)
    case y6 =>
      cases ho
      simp [execOp, go_sem, Act.eval]
    rintro u w4 hout
    have HO : Hid (PutOut B w wb K (R ++ regT r) 0 (.returned (.tuple #[])) w4) := by
      obtain ⟨h1, h2, h3⟩ := hout
      have e : R ++ regT r = R ++ [120] ++ decW r := by unfold regT; rw [if_neg (by have := HR.out; omega)]; simp
      rw [HE.out] at h2
      show PutOut _ _ _ _ _ _ _ _
      rw [e]
      exact ⟨rfl, h2, HK3.out.trans h3⟩
    obtain ⟨hu, _, _⟩ := hout
    cases hu
    refine ⟨trivial, ?_⟩
    simp only [Act.put, zzA, zzB, zzC]
    refine wpAnyH_done (by kernel_rfl) ?_ _
    exact bodyPost_end (v := .tuple #[]) (by simp [results, Tryz.results82, go_sem]) rfl HO.out
end Go.Proofs.YtjhbplgppakhoaaGreatDoor

namespace Go.Proofs.YtjhbplgppakhoaaGreatDoor
open Go Go.RowKit
set_option linter.unusedVariables false
set_option linter.unusedSimpArgs false
theorem varW_nil {n : Int} (h : 0 ≤ n) : varW [] n = 95 :: decW n := by
  unfold varW; rw [if_neg (fun h' => by have := h'.1; simp at this; omega)]
theorem leaf_term {B : Bas} {wb : Nat} {K : WK} (hK : TabsK B wb) (hN : NamesK B wb K []) (hq : K.2.2.2.2 = true) (c : Cel) (hc : cellB c.1 c.2.1 c.2.2.length = true) (h3 : c.1 ≠ 3) (hb : Byte c.2.2) (W : World) (A : Nat) (v : Value) (hfo : FoIn W A (.node c .nil .nil) [v]) : TermAt B wb K v 1200 (leafW c) := by
  obtain ⟨v', vr, e, hn, _⟩ := hfo
  obtain ⟨rfl, _⟩ : v = v' ∧ [] = vr := by simpa using e
  simp only [cellB, decide_eq_true_eq] at hc
  rcases hn with ⟨h, rfl⟩ | ⟨h, rfl⟩ | ⟨h, rfl⟩ | ⟨h, _⟩
  · have e2 : leafW c = varW [] c.2.1 := by unfold leafW; rw [if_pos h, varW_nil (by omega)]
    rw [e2]; exact term_var hN hK c.2.1 (by omega) (by omega) 1200
  · have e2 : leafW c = decW c.2.1 := by unfold leafW; rw [if_neg (by omega), if_pos h]
    rw [e2]; exact term_num hN hK c.2.1 (by omega) (by omega) 1200
  · have e2 : leafW c = atomW K.2.2.2.2 c.2.2 := by unfold leafW atomW; rw [if_neg (by omega), if_neg (by omega), hq]; rfl
    rw [e2]; exact term_atom hN hK c.2.2 hb (by omega) 1200
  · exact absurd h h3
theorem cin_one {W : World} {b : Nat} {kd cn : Int} {q : Option Addr} {m qc : Nat} {c : Cel} (e1 : kd = c.1) (e2 : cn = c.2.1) (e3 : m = c.2.2.length) (h : W.heap[b]? = some (.cells #[.int .i64 kd, .int .i64 cn, .slice q m qc] 71)) (hq : BIn W q c.2.2) : CIn W (some ⟨b, 0, none⟩) (c :: Fo.nil.cells) := fun _ => by
  refine ⟨b, 0, rfl, fun i hi => ?_⟩
  obtain rfl : i = 0 := by simp [Fo.cells] at hi; exact hi
  subst e1 e2 e3
  exact ⟨q, qc, by simp [World.cell?, h], by simp [World.cell?, h], by simp [World.cell?, h], hq⟩
def CellOut (B : Bas) (w : World) (wb : Nat) (K : WK) (R : List Int) (e : Ending) (w' : World) : Prop := e = .returned (.tuple #[]) ∧ (∃ k p n c, WS B w' wb K p n c R k) ∧ Kept w w' wb
theorem BoxL.kept {w w' : World} {b wb : Nat} {vs : Array Value} (t : TypeId) (h : w.heap[b]? = some (.cells vs t)) (hk : Kept w w' wb) (hb : b ≠ wb) (ht : t ≠ 5) : w'.heap[b]? = some (.cells vs t) := hk.blk b _ h hb (fun cur fr e => by simp at e; exact ht e.2.1)
structure CS (B : Bas) (wb : Nat) (K : WK) (w : World) (bx : Nat) (o : Obj) (R : List Int) (W : World) : Prop where
  blk : W.heap[bx]? = some o
  ws : ∃ p n c, WS B W wb K p n c R 0
  kept : Kept w W wb
theorem CS.gr {B : Bas} {wb : Nat} {K : WK} {w : World} {bx : Nat} {o : Obj} {R : List Int} {W : World} (h : CS B wb K w bx o R W) : B.grownBy W (some wb) := by obtain ⟨_, _, _, h⟩ := h.ws; exact h.gr
theorem CS.below {B : Bas} {wb : Nat} {K : WK} {w : World} {bx : Nat} {o : Obj} {R : List Int} {W W' : World} (h : CS B wb K w bx o R W) (hb : Below W.heap.size W W') : CS B wb K w bx o R W' :=
  ⟨(hb.block bx (Array.getElem?_eq_some_iff.1 h.blk).1).trans h.blk, by obtain ⟨p, n, c, h⟩ := h.ws; exact ⟨p, n, c, h.below hb⟩, h.kept.trans (Kept.below hb)⟩
theorem CS.drew {B : Bas} {wb : Nat} {K : WK} {w : World} {bx : Nat} {o : Obj} {R : List Int} {W : World} (h : CS B wb K w bx o R W) : CS B wb K w bx o R W.drew := h.below ((Below.refl _ _).drew)
theorem CS.put {B : Bas} {wb : Nat} {K : WK} {w : World} {bx : Nat} {o : Obj} {R R' : List Int} {W W' : World} {e : Ending} (h : CS B wb K w bx o R W) (hp : PutOut B W wb K R' 0 e W') (hb : bx ≠ wb) (ho : ∀ cur fr, o ≠ .cells cur 5 fr) : CS B wb K w bx o R' W' :=
  ⟨hp.2.2.blk bx o h.blk hb ho, hp.2.1, h.kept.trans hp.2.2⟩
def CSs (B : Bas) (wb bx : Nat) (o : Obj) (W : World) : Prop := W.heap[bx]? = some o ∧ B.grownBy W (some wb)
theorem CS.s {B : Bas} {wb : Nat} {K : WK} {w : World} {bx : Nat} {o : Obj} {R : List Int} {W : World} (h : CS B wb K w bx o R W) : CSs B wb bx o W := ⟨h.blk, h.gr⟩
set_option maxRecDepth 100000 in
set_option maxHeartbeats 2000000 in
theorem cellL_any {B : Bas} {wb : Nat} {K : WK} (hK : TabsK B wb) (hN : NamesK B wb K []) (hq : K.2.2.2.2 = true) (x : Iv) (op r a kd cn : Int) (q : Option Addr) (m qc : Nat) (s : Option Addr) (n sc : Nat) (u : Option Addr) (l uc : Nat) (eop : op = x.op) (ekd : kd = x.c.1) (ecn : cn = x.c.2.1) (em : m = x.c.2.2.length) (hcell : cellB x.c.1 x.c.2.1 x.c.2.2.length = true) (hby : Byte x.c.2.2) (hbi : ∀ W, B.grownBy W (some wb) → BIn W q x.c.2.2) (hwc : -9223372036854775808 ≤ cn ∧ cn < 9223372036854775808) (w : World) (R : List Int) (hR : Byte R) (hl : R.length ≤ 90000000) (hst : startB R 0) (hs : ∃ p n c, WS B w wb K p n c R 0) :
    Calls Tryz.prog 83 #[.pointer (some ⟨wb, 0, none⟩), .agg #[.int .i64 op, .int .i64 r, .int .i64 a, .int .i64 kd, .int .i64 cn, .slice q m qc, .slice s n sc, .slice u l uc]] w (CellOut B w wb K (R ++ cellT (hfB x.op) x.c)) := by
  have hcell' := hcell
  simp only [cellB, decide_eq_true_eq] at hcell'
  have HNE : Hid (w.heap.size ≠ wb) := by obtain ⟨_, _, _, h⟩ := hs; have := h.hwb; have := h.gr.size; show _ ≠ _; omega
  have HC0 : Hid (CS B wb K w w.heap.size (.cells #[.int .i64 op, .int .i64 r, .int .i64 a, .int .i64 kd, .int .i64 cn, .slice q m qc, .slice s n sc, .slice u l uc] 93) R (w.alloc (.cells #[.int .i64 op, .int .i64 r, .int .i64 a, .int .i64 kd, .int .i64 cn, .slice q m qc, .slice s n sc, .slice u l uc] 93))) := by
    have hb : Below w.heap.size w (w.alloc (.cells #[.int .i64 op, .int .i64 r, .int .i64 a, .int .i64 kd, .int .i64 cn, .slice q m qc, .slice s n sc, .slice u l uc] 93)) := (Below.refl _ _).alloc (Nat.le_refl _) _
    exact ⟨heap_alloc_new w _, by obtain ⟨p, n, c, h⟩ := hs; exact ⟨p, n, c, h.below hb⟩, Kept.below hb⟩
  have HF : Hid (∀ W, Calls Tryz.prog 119 #[.agg #[.int .i64 op, .int .i64 r, .int .i64 a, .int .i64 kd, .int .i64 cn, .slice q m qc, .slice s n sc, .slice u l uc]] W fun e w' => e = .returned (.bool (hfB op)) ∧ Below W.heap.size W w') := fun W => hasFunctor_any op r a kd cn q m qc s n sc u l uc W
  rw [← eop]
  cases hf : hfB op with
  | true =>
    have HE : Hid (cellT true x.c = funT x.c) := by show _ = _; unfold cellT; rw [if_pos (.inl rfl)]
    rw [HE.out]
    rw [hf] at HF
    have HCV : Hid (∀ W, B.grownBy W (some wb) → (convert 28 9 (.slice q m qc)).run Tryz.prog W = .ok (.string (strOfNums x.c.2.2)) W) := fun W hW => conv_str (hbi W hW) m qc em 9 Tryz.underlying9
    have HAT : Hid (∀ W, (∃ p n c, WS B W wb K p n c R 0) → Calls Tryz.prog 72 #[.pointer (some ⟨wb, 0, none⟩), .string (strOfNums x.c.2.2)] W fun e w' => e = .returned (.string (strOfNums (quoteB x.c.2.2))) ∧ Below W.heap.size W w') := fun W hW => by
      obtain ⟨p, n, c, h⟩ := hW
      have := atomText_any h x.c.2.2 hby (by omega) (hK.tab _ h.gr)
      rw [hq] at this
      exact this
    have hql := quote_lenW x.c.2.2
    have HP1 : Hid (∀ W, (∃ p n c, WS B W wb K p n c R 0) → Calls Tryz.prog 69 #[.pointer (some ⟨wb, 0, none⟩), .string (strOfNums (quoteB x.c.2.2))] W (PutOut B W wb K (R ++ quoteB x.c.2.2) 0)) := fun W hW => put0 hK W R _ hR (quote_byte hby) (by omega) hW
    have HP2 : Hid (∀ W, (∃ p n c, WS B W wb K p n c (R ++ quoteB x.c.2.2) 0) → Calls Tryz.prog 69 #[.pointer (some ⟨wb, 0, none⟩), .string ⟨#[47]⟩] W (PutOut B W wb K (R ++ quoteB x.c.2.2 ++ [47]) 0)) := fun W hW => put0 hK W (R ++ quoteB x.c.2.2) [47] (byte_app hR (quote_byte hby)) (byte_one (by decide) (by decide)) (by simp; omega) hW
    have hdl := decW_len cn
    have HP3 : Hid (∀ W, (∃ p n c, WS B W wb K p n c (R ++ quoteB x.c.2.2 ++ [47]) 0) → Calls Tryz.prog 69 #[.pointer (some ⟨wb, 0, none⟩), .string (strOfNums (decW cn))] W (PutOut B W wb K (R ++ quoteB x.c.2.2 ++ [47] ++ decW cn) 0)) := fun W hW => put0 hK W _ _ (byte_app (byte_app hR (quote_byte hby)) (byte_one (by decide) (by decide))) (decW_byte _) (by simp; omega) hW
    have HI : Hid (∀ W, B.grownBy W (some wb) → Calls Tryz.prog 71 #[.int .i64 cn] W fun e w' => e = .returned (.string (strOfNums (decW cn))) ∧ Below W.heap.size W w') := fun W hW => itoa64_any _ (by omega) (by omega) W (hK.pow _ hW)
    have HCN : Hid (cn = x.c.2.1) := ecn
    obtain ⟨sx, esx⟩ : ∃ sx, sx = strOfNums x.c.2.2 := ⟨_, rfl⟩
    rw [← esx] at HCV HAT
    obtain ⟨sq, esq⟩ : ∃ sq, sq = strOfNums (quoteB x.c.2.2) := ⟨_, rfl⟩
    rw [← esq] at HAT HP1
    obtain ⟨sd, esd⟩ : ∃ sd, sd = strOfNums (decW cn) := ⟨_, rfl⟩
    rw [← esd] at HI HP3
    clear esx esq esd hql hdl hs hK hN hR hl hst hby hbi hcell hcell' hq eop ekd ecn em hwc
    go_enter Tryz.func83, Tryz.ntmps83
    go_wp2_with fail
    refine (HF.out _).mono ?_
    rintro e w1 ⟨rfl, hb1⟩
    have HC1 : Hid (CS B wb K w w.heap.size (.cells #[.int .i64 op, .int .i64 r, .int .i64 a, .int .i64 kd, .int .i64 cn, .slice q m qc, .slice s n sc, .slice u l uc] 93) R w1) := HC0.out.below hb1
    have d3 : w1.cell? ⟨w.heap.size, 3, none⟩ = some (.int .i64 kd) := by simp [World.cell?, HC1.out.blk]
    clear hb1
    go_wp2_with fail
    refine wp_region_held_drew (S := CSs B wb w.heap.size (.cells #[.int .i64 op, .int .i64 r, .int .i64 a, .int .i64 kd, .int .i64 cn, .slice q m qc, .slice s n sc, .slice u l uc] 93)) (by kernel_rfl) (HC1.out.drew.s) (fun hHeld => ?_)
    refine hTake (i := 0) (v := .pointer (some ⟨wb, 0, none⟩)) (some 21) (by kernel_rfl) (by kernel_rfl) (by kernel_rfl) (by kernel_rfl) (by kernel_rfl) (fun _ _ _ h => h) (fun o ho W hSw => ?y0) (HC1.out.drew.s) ?_
    case y0 =>
      cases ho
      simp [execOp, go_sem, Act.eval]
    simp only [Act.put, zzA, zzB, zzC]
    refine hTake (i := 1) (v := .pointer (some ⟨wb, 0, none⟩)) (some 22) (by kernel_rfl) (by kernel_rfl) (by kernel_rfl) (by kernel_rfl) (by kernel_rfl) (fun _ _ _ h => h) (fun o ho W hSw => ?y1) (HC1.out.drew.s) ?_
    case y1 =>
      cases ho
      simp [execOp, go_sem, Act.eval]
    simp only [Act.put, zzA, zzB, zzC]
    refine hTake (i := 2) (v := .pointer (some ⟨wb, 0, none⟩)) (some 23) (by kernel_rfl) (by kernel_rfl) (by kernel_rfl) (by kernel_rfl) (by kernel_rfl) (fun _ _ _ h => h) (fun o ho W hSw => ?y2) (HC1.out.drew.s) ?_
    case y2 =>
      cases ho
      simp [execOp, go_sem, Act.eval]
    simp only [Act.put, zzA, zzB, zzC]
    refine hTake (i := 3) (v := .pointer (some ⟨wb, 0, none⟩)) (some 24) (by kernel_rfl) (by kernel_rfl) (by kernel_rfl) (by kernel_rfl) (by kernel_rfl) (fun _ _ _ h => h) (fun o ho W hSw => ?y3) (HC1.out.drew.s) ?_
    case y3 =>
      cases ho
      simp [execOp, go_sem, Act.eval]
    simp only [Act.put, zzA, zzB, zzC]
    refine hTake (i := 4) (v := .pointer (some ⟨wb, 0, none⟩)) (some 25) (by kernel_rfl) (by kernel_rfl) (by kernel_rfl) (by kernel_rfl) (by kernel_rfl) (fun _ _ _ h => h) (fun o ho W hSw => ?y4) (HC1.out.drew.s) ?_
    case y4 =>
      cases ho
      simp [execOp, go_sem, Act.eval]
    simp only [Act.put, zzA, zzB, zzC]
    refine hTake (i := 5) (v := .pointer (some ⟨wb, 0, none⟩)) (some 26) (by kernel_rfl) (by kernel_rfl) (by kernel_rfl) (by kernel_rfl) (by kernel_rfl) (fun _ _ _ h => h) (fun o ho W hSw => ?y5) (HC1.out.drew.s) ?_
    case y5 =>
      cases ho
      simp [execOp, go_sem, Act.eval]
    simp only [Act.put, zzA, zzB, zzC]
    refine hTake (i := 6) (v := .pointer (some ⟨wb, 0, none⟩)) (some 27) (by kernel_rfl) (by kernel_rfl) (by kernel_rfl) (by kernel_rfl) (by kernel_rfl) (fun _ _ _ h => h) (fun o ho W hSw => ?y6) (HC1.out.drew.s) ?_
    case y6 =>
      cases ho
      simp [execOp, go_sem, Act.eval]
    simp only [Act.put, zzA, zzB, zzC]
    refine hTake (i := 7) (v := .pointer (some ⟨w.heap.size, 3, none⟩)) (some 28) (by kernel_rfl) (by kernel_rfl) (by kernel_rfl) (by kernel_rfl) (by kernel_rfl) (fun _ _ _ h => h) (fun o ho W hSw => ?y7) (HC1.out.drew.s) ?_
    case y7 =>
      cases ho
      simp [execOp, go_sem, Act.eval]
    simp only [Act.put, zzA, zzB, zzC]
    refine hTake (i := 8) (v := .pointer (some ⟨w.heap.size, 5, none⟩)) (some 29) (by kernel_rfl) (by kernel_rfl) (by kernel_rfl) (by kernel_rfl) (by kernel_rfl) (fun _ _ _ h => h) (fun o ho W hSw => ?y8) (HC1.out.drew.s) ?_
    case y8 =>
      cases ho
      simp [execOp, go_sem, Act.eval]
    simp only [Act.put, zzA, zzB, zzC]
    refine hTake (i := 9) (v := .slice q m qc) (some 30) (by kernel_rfl) (by kernel_rfl) (by kernel_rfl) (by kernel_rfl) (by kernel_rfl) (fun _ _ _ h => h) (fun o ho W hSw => ?y9) (HC1.out.drew.s) ?_
    case y9 =>
      cases ho
      have x5 : W.cell? ⟨w.heap.size, 5, none⟩ = some (.slice q m qc) := by simp [World.cell?, hSw.1]
      simp [execOp, go_sem, Act.eval, x5]
    simp only [Act.put, zzA, zzB, zzC]
    refine hTake (i := 10) (v := .string sx) (some 31) (by kernel_rfl) (by kernel_rfl) (by kernel_rfl) (by kernel_rfl) (by kernel_rfl) (fun _ _ _ h => h) (fun o ho W hSw => ?yc) (HC1.out.drew.s) ?_
    case yc =>
      cases ho
      have cv := HCV.out W hSw.2
      simp [execOp, go_sem, Act.eval, cv]
    simp only [Act.put, zzA, zzB, zzC]
    refine hCallE (i := 11) (some 32) (by kernel_rfl) (by kernel_rfl) (by kernel_rfl) (fun o ho => ?y10) (HAT.out w1.drew HC1.out.drew.ws) ?_ (fun ch w' h => by obtain ⟨h, _⟩ := h; simp at h) (fun w' h => by obtain ⟨h, _⟩ := h; simp at h)
    case y10 =>
      cases ho
      simp [execOp, go_sem, Act.eval]
    rintro rv w3 ⟨hu, hb3⟩
    cases hu
    have HC3 : Hid _ := HC1.out.drew.below hb3
    clear hb3
    refine ⟨HC3.out.s, ?_⟩
    simp only [Act.put, zzA, zzB, zzC]
    refine hCallE (i := 12) (some 33) (by kernel_rfl) (by kernel_rfl) (by kernel_rfl) (fun o ho => ?y11) (HP1.out w3 HC3.out.ws) ?_ (fun ch w' h => by obtain ⟨h, _⟩ := h; simp at h) (fun w' h => by obtain ⟨h, _⟩ := h; simp at h)
    case y11 =>
      cases ho
      simp [execOp, go_sem, Act.eval]
    rintro rv w4 hout
    have HC4 : Hid (CS B wb K w w.heap.size (.cells #[.int .i64 op, .int .i64 r, .int .i64 a, .int .i64 kd, .int .i64 cn, .slice q m qc, .slice s n sc, .slice u l uc] 93) (R ++ quoteB x.c.2.2) w4) := HC3.out.put hout HNE.out (fun cur fr e => by simp at e)
    obtain ⟨hu, _, _⟩ := hout
    cases hu
    refine ⟨HC4.out.s, ?_⟩
    simp only [Act.put, zzA, zzB, zzC]
    refine wpAnyH_done (by kernel_rfl) ?_ _
    go_wp2_with fail
    refine (HP2.out w4 HC4.out.ws).mono ?_
    rintro e w5 hout5
    have HC5 : Hid (CS B wb K w w.heap.size (.cells #[.int .i64 op, .int .i64 r, .int .i64 a, .int .i64 kd, .int .i64 cn, .slice q m qc, .slice s n sc, .slice u l uc] 93) (R ++ quoteB x.c.2.2 ++ [47]) w5) := HC4.out.put hout5 HNE.out (fun cur fr e => by simp at e)
    obtain ⟨rfl, _, _⟩ := hout5
    go_wp2_with fail
    refine wp_region_held_drew (S := CSs B wb w.heap.size (.cells #[.int .i64 op, .int .i64 r, .int .i64 a, .int .i64 kd, .int .i64 cn, .slice q m qc, .slice s n sc, .slice u l uc] 93)) (by kernel_rfl) (HC5.out.drew.s) (fun hHeld => ?_)
    refine hTake (i := 0) (v := .pointer (some ⟨wb, 0, none⟩)) (some 39) (by kernel_rfl) (by kernel_rfl) (by kernel_rfl) (by kernel_rfl) (by kernel_rfl) (fun _ _ _ h => h) (fun o ho W hSw => ?y30) (HC5.out.drew.s) ?_
    case y30 =>
      cases ho
      simp [execOp, go_sem, Act.eval]
    simp only [Act.put, zzA, zzB, zzC]
    refine hTake (i := 1) (v := .pointer (some ⟨wb, 0, none⟩)) (some 40) (by kernel_rfl) (by kernel_rfl) (by kernel_rfl) (by kernel_rfl) (by kernel_rfl) (fun _ _ _ h => h) (fun o ho W hSw => ?y31) (HC5.out.drew.s) ?_
    case y31 =>
      cases ho
      simp [execOp, go_sem, Act.eval]
    simp only [Act.put, zzA, zzB, zzC]
    refine hTake (i := 2) (v := .pointer (some ⟨wb, 0, none⟩)) (some 41) (by kernel_rfl) (by kernel_rfl) (by kernel_rfl) (by kernel_rfl) (by kernel_rfl) (fun _ _ _ h => h) (fun o ho W hSw => ?y32) (HC5.out.drew.s) ?_
    case y32 =>
      cases ho
      simp [execOp, go_sem, Act.eval]
    simp only [Act.put, zzA, zzB, zzC]
    refine hTake (i := 3) (v := .pointer (some ⟨wb, 0, none⟩)) (some 42) (by kernel_rfl) (by kernel_rfl) (by kernel_rfl) (by kernel_rfl) (by kernel_rfl) (fun _ _ _ h => h) (fun o ho W hSw => ?y33) (HC5.out.drew.s) ?_
    case y33 =>
      cases ho
      simp [execOp, go_sem, Act.eval]
    simp only [Act.put, zzA, zzB, zzC]
    refine hTake (i := 4) (v := .pointer (some ⟨w.heap.size, 3, none⟩)) (some 43) (by kernel_rfl) (by kernel_rfl) (by kernel_rfl) (by kernel_rfl) (by kernel_rfl) (fun _ _ _ h => h) (fun o ho W hSw => ?y34) (HC5.out.drew.s) ?_
    case y34 =>
      cases ho
      simp [execOp, go_sem, Act.eval]
    simp only [Act.put, zzA, zzB, zzC]
    refine hTake (i := 5) (v := .pointer (some ⟨w.heap.size, 4, none⟩)) (some 44) (by kernel_rfl) (by kernel_rfl) (by kernel_rfl) (by kernel_rfl) (by kernel_rfl) (fun _ _ _ h => h) (fun o ho W hSw => ?y35) (HC5.out.drew.s) ?_
    case y35 =>
      cases ho
      simp [execOp, go_sem, Act.eval]
    simp only [Act.put, zzA, zzB, zzC]
    refine hTake (i := 6) (v := .int .i64 cn) (some 45) (by kernel_rfl) (by kernel_rfl) (by kernel_rfl) (by kernel_rfl) (by kernel_rfl) (fun _ _ _ h => h) (fun o ho W hSw => ?y36) (HC5.out.drew.s) ?_
    case y36 =>
      cases ho
      have x4 : W.cell? ⟨w.heap.size, 4, none⟩ = some (.int .i64 cn) := by simp [World.cell?, hSw.1]
      simp [execOp, go_sem, Act.eval, x4]
    simp only [Act.put, zzA, zzB, zzC]
    refine hCallE (i := 7) (some 46) (by kernel_rfl) (by kernel_rfl) (by kernel_rfl) (fun o ho => ?y37) (HI.out w5.drew HC5.out.drew.gr) ?_ (fun ch w' h => by obtain ⟨h, _⟩ := h; simp at h) (fun w' h => by obtain ⟨h, _⟩ := h; simp at h)
    case y37 =>
      cases ho
      simp [execOp, go_sem, Act.eval]
    rintro rv w6 ⟨hu, hb6⟩
    cases hu
    have HC6 : Hid _ := HC5.out.drew.below hb6
    clear hb6
    refine ⟨HC6.out.s, ?_⟩
    simp only [Act.put, zzA, zzB, zzC]
    refine hCallE (i := 8) (some 47) (by kernel_rfl) (by kernel_rfl) (by kernel_rfl) (fun o ho => ?y38) (HP3.out w6 HC6.out.ws) ?_ (fun ch w' h => by obtain ⟨h, _⟩ := h; simp at h) (fun w' h => by obtain ⟨h, _⟩ := h; simp at h)
    case y38 =>
      cases ho
      simp [execOp, go_sem, Act.eval]
    rintro rv w7 hout
    have HC7 : Hid (CS B wb K w w.heap.size (.cells #[.int .i64 op, .int .i64 r, .int .i64 a, .int .i64 kd, .int .i64 cn, .slice q m qc, .slice s n sc, .slice u l uc] 93) (R ++ quoteB x.c.2.2 ++ [47] ++ decW cn) w7) := HC6.out.put hout HNE.out (fun cur fr e => by simp at e)
    obtain ⟨hu, _, _⟩ := hout
    cases hu
    refine ⟨HC7.out.s, ?_⟩
    simp only [Act.put, zzA, zzB, zzC]
    refine wpAnyH_done (by kernel_rfl) ?_ _
    have HO : Hid (CellOut B w wb K (R ++ funT x.c) (.returned (.tuple #[])) w7) := by
      have e : R ++ funT x.c = R ++ quoteB x.c.2.2 ++ [47] ++ decW cn := by rw [HCN.out]; unfold funT; simp
      show CellOut _ _ _ _ _ _ _
      rw [e]
      obtain ⟨p7, n7, c7, h7⟩ := HC7.out.ws
      exact ⟨rfl, ⟨0, p7, n7, c7, h7⟩, HC7.out.kept⟩
    exact bodyPost_end (v := .tuple #[]) (by simp [results, Tryz.results83, go_sem]) rfl HO.out
  | false =>
    rw [hf] at HF
    by_cases hk3 : kd = 3
    · have HE : Hid (cellT false x.c = funT x.c) := by show _ = _; unfold cellT; rw [if_pos (.inr (by omega))]
      rw [HE.out]
      subst hk3
      have HCV : Hid (∀ W, B.grownBy W (some wb) → (convert 28 9 (.slice q m qc)).run Tryz.prog W = .ok (.string (strOfNums x.c.2.2)) W) := fun W hW => conv_str (hbi W hW) m qc em 9 Tryz.underlying9
      have HAT : Hid (∀ W, (∃ p n c, WS B W wb K p n c R 0) → Calls Tryz.prog 72 #[.pointer (some ⟨wb, 0, none⟩), .string (strOfNums x.c.2.2)] W fun e w' => e = .returned (.string (strOfNums (quoteB x.c.2.2))) ∧ Below W.heap.size W w') := fun W hW => by
        obtain ⟨p, n, c, h⟩ := hW
        have := atomText_any h x.c.2.2 hby (by omega) (hK.tab _ h.gr)
        rw [hq] at this
        exact this
      have hql := quote_lenW x.c.2.2
      have HP1 : Hid (∀ W, (∃ p n c, WS B W wb K p n c R 0) → Calls Tryz.prog 69 #[.pointer (some ⟨wb, 0, none⟩), .string (strOfNums (quoteB x.c.2.2))] W (PutOut B W wb K (R ++ quoteB x.c.2.2) 0)) := fun W hW => put0 hK W R _ hR (quote_byte hby) (by omega) hW
      have HP2 : Hid (∀ W, (∃ p n c, WS B W wb K p n c (R ++ quoteB x.c.2.2) 0) → Calls Tryz.prog 69 #[.pointer (some ⟨wb, 0, none⟩), .string ⟨#[47]⟩] W (PutOut B W wb K (R ++ quoteB x.c.2.2 ++ [47]) 0)) := fun W hW => put0 hK W (R ++ quoteB x.c.2.2) [47] (byte_app hR (quote_byte hby)) (byte_one (by decide) (by decide)) (by simp; omega) hW
      have hdl := decW_len cn
      have HP3 : Hid (∀ W, (∃ p n c, WS B W wb K p n c (R ++ quoteB x.c.2.2 ++ [47]) 0) → Calls Tryz.prog 69 #[.pointer (some ⟨wb, 0, none⟩), .string (strOfNums (decW cn))] W (PutOut B W wb K (R ++ quoteB x.c.2.2 ++ [47] ++ decW cn) 0)) := fun W hW => put0 hK W _ _ (byte_app (byte_app hR (quote_byte hby)) (byte_one (by decide) (by decide))) (decW_byte _) (by simp; omega) hW
      have HI : Hid (∀ W, B.grownBy W (some wb) → Calls Tryz.prog 71 #[.int .i64 cn] W fun e w' => e = .returned (.string (strOfNums (decW cn))) ∧ Below W.heap.size W w') := fun W hW => itoa64_any _ (by omega) (by omega) W (hK.pow _ hW)
      have HCN : Hid (cn = x.c.2.1) := ecn
      obtain ⟨sx, esx⟩ : ∃ sx, sx = strOfNums x.c.2.2 := ⟨_, rfl⟩
      rw [← esx] at HCV HAT
      obtain ⟨sq, esq⟩ : ∃ sq, sq = strOfNums (quoteB x.c.2.2) := ⟨_, rfl⟩
      rw [← esq] at HAT HP1
      obtain ⟨sd, esd⟩ : ∃ sd, sd = strOfNums (decW cn) := ⟨_, rfl⟩
      rw [← esd] at HI HP3
      clear esx esq esd hql hdl hs hK hN hR hl hst hby hbi hcell hcell' hq eop ekd ecn em hwc
      go_enter Tryz.func83, Tryz.ntmps83
      go_wp2_with fail
      refine (HF.out _).mono ?_
      rintro e w1 ⟨rfl, hb1⟩
      have HC1 : Hid (CS B wb K w w.heap.size (.cells #[.int .i64 op, .int .i64 r, .int .i64 a, .int .i64 3, .int .i64 cn, .slice q m qc, .slice s n sc, .slice u l uc] 93) R w1) := HC0.out.below hb1
      have d3 : w1.cell? ⟨w.heap.size, 3, none⟩ = some (.int .i64 3) := by simp [World.cell?, HC1.out.blk]
      clear hb1
      go_wp2_with fail
      refine wp_region_held_drew (S := CSs B wb w.heap.size (.cells #[.int .i64 op, .int .i64 r, .int .i64 a, .int .i64 3, .int .i64 cn, .slice q m qc, .slice s n sc, .slice u l uc] 93)) (by kernel_rfl) (HC1.out.drew.s) (fun hHeld => ?_)
      refine hTake (i := 0) (v := .pointer (some ⟨wb, 0, none⟩)) (some 21) (by kernel_rfl) (by kernel_rfl) (by kernel_rfl) (by kernel_rfl) (by kernel_rfl) (fun _ _ _ h => h) (fun o ho W hSw => ?y0) (HC1.out.drew.s) ?_
      case y0 =>
        cases ho
        simp [execOp, go_sem, Act.eval]
      simp only [Act.put, zzA, zzB, zzC]
      refine hTake (i := 1) (v := .pointer (some ⟨wb, 0, none⟩)) (some 22) (by kernel_rfl) (by kernel_rfl) (by kernel_rfl) (by kernel_rfl) (by kernel_rfl) (fun _ _ _ h => h) (fun o ho W hSw => ?y1) (HC1.out.drew.s) ?_
      case y1 =>
        cases ho
        simp [execOp, go_sem, Act.eval]
      simp only [Act.put, zzA, zzB, zzC]
      refine hTake (i := 2) (v := .pointer (some ⟨wb, 0, none⟩)) (some 23) (by kernel_rfl) (by kernel_rfl) (by kernel_rfl) (by kernel_rfl) (by kernel_rfl) (fun _ _ _ h => h) (fun o ho W hSw => ?y2) (HC1.out.drew.s) ?_
      case y2 =>
        cases ho
        simp [execOp, go_sem, Act.eval]
      simp only [Act.put, zzA, zzB, zzC]
      refine hTake (i := 3) (v := .pointer (some ⟨wb, 0, none⟩)) (some 24) (by kernel_rfl) (by kernel_rfl) (by kernel_rfl) (by kernel_rfl) (by kernel_rfl) (fun _ _ _ h => h) (fun o ho W hSw => ?y3) (HC1.out.drew.s) ?_
      case y3 =>
        cases ho
        simp [execOp, go_sem, Act.eval]
      simp only [Act.put, zzA, zzB, zzC]
      refine hTake (i := 4) (v := .pointer (some ⟨wb, 0, none⟩)) (some 25) (by kernel_rfl) (by kernel_rfl) (by kernel_rfl) (by kernel_rfl) (by kernel_rfl) (fun _ _ _ h => h) (fun o ho W hSw => ?y4) (HC1.out.drew.s) ?_
      case y4 =>
        cases ho
        simp [execOp, go_sem, Act.eval]
      simp only [Act.put, zzA, zzB, zzC]
      refine hTake (i := 5) (v := .pointer (some ⟨wb, 0, none⟩)) (some 26) (by kernel_rfl) (by kernel_rfl) (by kernel_rfl) (by kernel_rfl) (by kernel_rfl) (fun _ _ _ h => h) (fun o ho W hSw => ?y5) (HC1.out.drew.s) ?_
      case y5 =>
        cases ho
        simp [execOp, go_sem, Act.eval]
      simp only [Act.put, zzA, zzB, zzC]
      refine hTake (i := 6) (v := .pointer (some ⟨wb, 0, none⟩)) (some 27) (by kernel_rfl) (by kernel_rfl) (by kernel_rfl) (by kernel_rfl) (by kernel_rfl) (fun _ _ _ h => h) (fun o ho W hSw => ?y6) (HC1.out.drew.s) ?_
      case y6 =>
        cases ho
        simp [execOp, go_sem, Act.eval]
      simp only [Act.put, zzA, zzB, zzC]
      refine hTake (i := 7) (v := .pointer (some ⟨w.heap.size, 3, none⟩)) (some 28) (by kernel_rfl) (by kernel_rfl) (by kernel_rfl) (by kernel_rfl) (by kernel_rfl) (fun _ _ _ h => h) (fun o ho W hSw => ?y7) (HC1.out.drew.s) ?_
      case y7 =>
        cases ho
        simp [execOp, go_sem, Act.eval]
      simp only [Act.put, zzA, zzB, zzC]
      refine hTake (i := 8) (v := .pointer (some ⟨w.heap.size, 5, none⟩)) (some 29) (by kernel_rfl) (by kernel_rfl) (by kernel_rfl) (by kernel_rfl) (by kernel_rfl) (fun _ _ _ h => h) (fun o ho W hSw => ?y8) (HC1.out.drew.s) ?_
      case y8 =>
        cases ho
        simp [execOp, go_sem, Act.eval]
      simp only [Act.put, zzA, zzB, zzC]
      refine hTake (i := 9) (v := .slice q m qc) (some 30) (by kernel_rfl) (by kernel_rfl) (by kernel_rfl) (by kernel_rfl) (by kernel_rfl) (fun _ _ _ h => h) (fun o ho W hSw => ?y9) (HC1.out.drew.s) ?_
      case y9 =>
        cases ho
        have x5 : W.cell? ⟨w.heap.size, 5, none⟩ = some (.slice q m qc) := by simp [World.cell?, hSw.1]
        simp [execOp, go_sem, Act.eval, x5]
      simp only [Act.put, zzA, zzB, zzC]
      refine hTake (i := 10) (v := .string sx) (some 31) (by kernel_rfl) (by kernel_rfl) (by kernel_rfl) (by kernel_rfl) (by kernel_rfl) (fun _ _ _ h => h) (fun o ho W hSw => ?yc) (HC1.out.drew.s) ?_
      case yc =>
        cases ho
        have cv := HCV.out W hSw.2
        simp [execOp, go_sem, Act.eval, cv]
      simp only [Act.put, zzA, zzB, zzC]
      refine hCallE (i := 11) (some 32) (by kernel_rfl) (by kernel_rfl) (by kernel_rfl) (fun o ho => ?y10) (HAT.out w1.drew HC1.out.drew.ws) ?_ (fun ch w' h => by obtain ⟨h, _⟩ := h; simp at h) (fun w' h => by obtain ⟨h, _⟩ := h; simp at h)
      case y10 =>
        cases ho
        simp [execOp, go_sem, Act.eval]
      rintro rv w3 ⟨hu, hb3⟩
      cases hu
      have HC3 : Hid _ := HC1.out.drew.below hb3
      clear hb3
      refine ⟨HC3.out.s, ?_⟩
      simp only [Act.put, zzA, zzB, zzC]
      refine hCallE (i := 12) (some 33) (by kernel_rfl) (by kernel_rfl) (by kernel_rfl) (fun o ho => ?y11) (HP1.out w3 HC3.out.ws) ?_ (fun ch w' h => by obtain ⟨h, _⟩ := h; simp at h) (fun w' h => by obtain ⟨h, _⟩ := h; simp at h)
      case y11 =>
        cases ho
        simp [execOp, go_sem, Act.eval]
      rintro rv w4 hout
      have HC4 : Hid (CS B wb K w w.heap.size (.cells #[.int .i64 op, .int .i64 r, .int .i64 a, .int .i64 3, .int .i64 cn, .slice q m qc, .slice s n sc, .slice u l uc] 93) (R ++ quoteB x.c.2.2) w4) := HC3.out.put hout HNE.out (fun cur fr e => by simp at e)
      obtain ⟨hu, _, _⟩ := hout
      cases hu
      refine ⟨HC4.out.s, ?_⟩
      simp only [Act.put, zzA, zzB, zzC]
      refine wpAnyH_done (by kernel_rfl) ?_ _
      go_wp2_with fail
      refine (HP2.out w4 HC4.out.ws).mono ?_
      rintro e w5 hout5
      have HC5 : Hid (CS B wb K w w.heap.size (.cells #[.int .i64 op, .int .i64 r, .int .i64 a, .int .i64 3, .int .i64 cn, .slice q m qc, .slice s n sc, .slice u l uc] 93) (R ++ quoteB x.c.2.2 ++ [47]) w5) := HC4.out.put hout5 HNE.out (fun cur fr e => by simp at e)
      obtain ⟨rfl, _, _⟩ := hout5
      go_wp2_with fail
      refine wp_region_held_drew (S := CSs B wb w.heap.size (.cells #[.int .i64 op, .int .i64 r, .int .i64 a, .int .i64 3, .int .i64 cn, .slice q m qc, .slice s n sc, .slice u l uc] 93)) (by kernel_rfl) (HC5.out.drew.s) (fun hHeld => ?_)
      refine hTake (i := 0) (v := .pointer (some ⟨wb, 0, none⟩)) (some 39) (by kernel_rfl) (by kernel_rfl) (by kernel_rfl) (by kernel_rfl) (by kernel_rfl) (fun _ _ _ h => h) (fun o ho W hSw => ?y30) (HC5.out.drew.s) ?_
      case y30 =>
        cases ho
        simp [execOp, go_sem, Act.eval]
      simp only [Act.put, zzA, zzB, zzC]
      refine hTake (i := 1) (v := .pointer (some ⟨wb, 0, none⟩)) (some 40) (by kernel_rfl) (by kernel_rfl) (by kernel_rfl) (by kernel_rfl) (by kernel_rfl) (fun _ _ _ h => h) (fun o ho W hSw => ?y31) (HC5.out.drew.s) ?_
      case y31 =>
        cases ho
        simp [execOp, go_sem, Act.eval]
      simp only [Act.put, zzA, zzB, zzC]
      refine hTake (i := 2) (v := .pointer (some ⟨wb, 0, none⟩)) (some 41) (by kernel_rfl) (by kernel_rfl) (by kernel_rfl) (by kernel_rfl) (by kernel_rfl) (fun _ _ _ h => h) (fun o ho W hSw => ?y32) (HC5.out.drew.s) ?_
      case y32 =>
        cases ho
        simp [execOp, go_sem, Act.eval]
      simp only [Act.put, zzA, zzB, zzC]
      refine hTake (i := 3) (v := .pointer (some ⟨wb, 0, none⟩)) (some 42) (by kernel_rfl) (by kernel_rfl) (by kernel_rfl) (by kernel_rfl) (by kernel_rfl) (fun _ _ _ h => h) (fun o ho W hSw => ?y33) (HC5.out.drew.s) ?_
      case y33 =>
        cases ho
        simp [execOp, go_sem, Act.eval]
      simp only [Act.put, zzA, zzB, zzC]
      refine hTake (i := 4) (v := .pointer (some ⟨w.heap.size, 3, none⟩)) (some 43) (by kernel_rfl) (by kernel_rfl) (by kernel_rfl) (by kernel_rfl) (by kernel_rfl) (fun _ _ _ h => h) (fun o ho W hSw => ?y34) (HC5.out.drew.s) ?_
      case y34 =>
        cases ho
        simp [execOp, go_sem, Act.eval]
      simp only [Act.put, zzA, zzB, zzC]
      refine hTake (i := 5) (v := .pointer (some ⟨w.heap.size, 4, none⟩)) (some 44) (by kernel_rfl) (by kernel_rfl) (by kernel_rfl) (by kernel_rfl) (by kernel_rfl) (fun _ _ _ h => h) (fun o ho W hSw => ?y35) (HC5.out.drew.s) ?_
      case y35 =>
        cases ho
        simp [execOp, go_sem, Act.eval]
      simp only [Act.put, zzA, zzB, zzC]
      refine hTake (i := 6) (v := .int .i64 cn) (some 45) (by kernel_rfl) (by kernel_rfl) (by kernel_rfl) (by kernel_rfl) (by kernel_rfl) (fun _ _ _ h => h) (fun o ho W hSw => ?y36) (HC5.out.drew.s) ?_
      case y36 =>
        cases ho
        have x4 : W.cell? ⟨w.heap.size, 4, none⟩ = some (.int .i64 cn) := by simp [World.cell?, hSw.1]
        simp [execOp, go_sem, Act.eval, x4]
      simp only [Act.put, zzA, zzB, zzC]
      refine hCallE (i := 7) (some 46) (by kernel_rfl) (by kernel_rfl) (by kernel_rfl) (fun o ho => ?y37) (HI.out w5.drew HC5.out.drew.gr) ?_ (fun ch w' h => by obtain ⟨h, _⟩ := h; simp at h) (fun w' h => by obtain ⟨h, _⟩ := h; simp at h)
      case y37 =>
        cases ho
        simp [execOp, go_sem, Act.eval]
      rintro rv w6 ⟨hu, hb6⟩
      cases hu
      have HC6 : Hid _ := HC5.out.drew.below hb6
      clear hb6
      refine ⟨HC6.out.s, ?_⟩
      simp only [Act.put, zzA, zzB, zzC]
      refine hCallE (i := 8) (some 47) (by kernel_rfl) (by kernel_rfl) (by kernel_rfl) (fun o ho => ?y38) (HP3.out w6 HC6.out.ws) ?_ (fun ch w' h => by obtain ⟨h, _⟩ := h; simp at h) (fun w' h => by obtain ⟨h, _⟩ := h; simp at h)
      case y38 =>
        cases ho
        simp [execOp, go_sem, Act.eval]
      rintro rv w7 hout
      have HC7 : Hid (CS B wb K w w.heap.size (.cells #[.int .i64 op, .int .i64 r, .int .i64 a, .int .i64 3, .int .i64 cn, .slice q m qc, .slice s n sc, .slice u l uc] 93) (R ++ quoteB x.c.2.2 ++ [47] ++ decW cn) w7) := HC6.out.put hout HNE.out (fun cur fr e => by simp at e)
      obtain ⟨hu, _, _⟩ := hout
      cases hu
      refine ⟨HC7.out.s, ?_⟩
      simp only [Act.put, zzA, zzB, zzC]
      refine wpAnyH_done (by kernel_rfl) ?_ _
      have HO : Hid (CellOut B w wb K (R ++ funT x.c) (.returned (.tuple #[])) w7) := by
        have e : R ++ funT x.c = R ++ quoteB x.c.2.2 ++ [47] ++ decW cn := by rw [HCN.out]; unfold funT; simp
        show CellOut _ _ _ _ _ _ _
        rw [e]
        obtain ⟨p7, n7, c7, h7⟩ := HC7.out.ws
        exact ⟨rfl, ⟨0, p7, n7, c7, h7⟩, HC7.out.kept⟩
      exact bodyPost_end (v := .tuple #[]) (by simp [results, Tryz.results83, go_sem]) rfl HO.out
    · have HE : Hid (cellT false x.c = leafW x.c) := by show _ = _; unfold cellT; rw [if_neg (fun h => h.elim (fun h => by cases h) (fun h => by omega))]
      rw [HE.out]
      have HA : Hid (∀ w1, CS B wb K w w.heap.size (.cells #[.int .i64 op, .int .i64 r, .int .i64 a, .int .i64 kd, .int .i64 cn, .slice q m qc, .slice s n sc, .slice u l uc] 93) R w1 → CS B wb K w w.heap.size (.cells #[.int .i64 op, .int .i64 r, .int .i64 a, .int .i64 kd, .int .i64 cn, .slice q m qc, .slice s n sc, .slice u l uc] 93) R (w1.drew.alloc (.cells #[.int .i64 kd, .int .i64 cn, .slice q m qc] 71))) := fun w1 h => h.drew.below ((Below.refl _ _).alloc (Nat.le_refl _) _)
      have HTT : Hid (∀ w1, CS B wb K w w.heap.size (.cells #[.int .i64 op, .int .i64 r, .int .i64 a, .int .i64 kd, .int .i64 cn, .slice q m qc, .slice s n sc, .slice u l uc] 93) R w1 → Calls Tryz.prog 41 #[.slice (some ⟨w1.heap.size, 0, none⟩) 1 1] (w1.drew.alloc (.cells #[.int .i64 kd, .int .i64 cn, .slice q m qc] 71)) fun e w' => ∃ v, e = .returned v ∧ FoIn w' (w1.drew.alloc (.cells #[.int .i64 kd, .int .i64 cn, .slice q m qc] 71)).heap.size (.node x.c .nil .nil) [v] ∧ Below (w1.drew.alloc (.cells #[.int .i64 kd, .int .i64 cn, .slice q m qc] 71)).heap.size (w1.drew.alloc (.cells #[.int .i64 kd, .int .i64 cn, .slice q m qc] 71)) w') := fun w1 h => termOfW_any x.c .nil (some ⟨w1.heap.size, 0, none⟩) 1 1 _ ⟨hcell, hby, fun h => absurd h (by omega), fun _ => rfl, trivial, trivial⟩ rfl (by decide) (by decide) (cin_one ekd ecn em (heap_alloc_new w1.drew _) (hbi _ (HA.out w1 h).gr))
      have HTE : Hid (∀ (W : World) (v : Value) {A : Nat}, FoIn W A (.node x.c .nil .nil) [v] → B.grownBy W (some wb) → (∃ p n c, WS B W wb K p n c R 0) → Calls Tryz.prog 40 #[.pointer (some ⟨wb, 0, none⟩), v, .int .i64 1200] W (TxtOut B W wb K R 0 (leafW x.c))) := fun W v A hfo hg hw => leaf_term hK hN hq x.c hcell (by omega) hby W A v hfo W R 0 hR (by rw [putR_zero]; have := leafW_len x.c; simp; omega) hst (hK.tab _ hg) (hK.pow _ hg) hw
      clear hs hK hN hR hl hst hby hbi hcell hcell' hq eop ekd ecn em hwc
      go_enter Tryz.func83, Tryz.ntmps83
      go_wp2_with fail
      refine (HF.out _).mono ?_
      rintro e w1 ⟨rfl, hb1⟩
      have HC1 : Hid (CS B wb K w w.heap.size (.cells #[.int .i64 op, .int .i64 r, .int .i64 a, .int .i64 kd, .int .i64 cn, .slice q m qc, .slice s n sc, .slice u l uc] 93) R w1) := HC0.out.below hb1
      have d3 : w1.cell? ⟨w.heap.size, 3, none⟩ = some (.int .i64 kd) := by simp [World.cell?, HC1.out.blk]
      clear hb1
      go_wp2_with fail
      have HT : Hid _ := HTT.out w1 HC1.out
      have HA' := HA.out w1 HC1.out
      clear HTT HA
      have HA : Hid _ := HA'
      clear HA'
      refine wp_region_held_drew (S := CSs B wb w.heap.size (.cells #[.int .i64 op, .int .i64 r, .int .i64 a, .int .i64 kd, .int .i64 cn, .slice q m qc, .slice s n sc, .slice u l uc] 93)) (by kernel_rfl) (HC1.out.drew.s) (fun hHeld => ?_)
      refine hTake (i := 0) (v := .pointer (some ⟨wb, 0, none⟩)) (some 13) (by kernel_rfl) (by kernel_rfl) (by kernel_rfl) (by kernel_rfl) (by kernel_rfl) (fun _ _ _ h => h) (fun o ho W hSw => ?y0) (HC1.out.drew.s) ?_
      case y0 =>
        cases ho
        simp [execOp, go_sem, Act.eval]
      simp only [Act.put, zzA, zzB, zzC]
      refine hTake (i := 1) (v := .pointer (some ⟨wb, 0, none⟩)) (some 14) (by kernel_rfl) (by kernel_rfl) (by kernel_rfl) (by kernel_rfl) (by kernel_rfl) (fun _ _ _ h => h) (fun o ho W hSw => ?y1) (HC1.out.drew.s) ?_
      case y1 =>
        cases ho
        simp [execOp, go_sem, Act.eval]
      simp only [Act.put, zzA, zzB, zzC]
      refine hTake (i := 2) (v := .pointer (some ⟨wb, 0, none⟩)) (some 15) (by kernel_rfl) (by kernel_rfl) (by kernel_rfl) (by kernel_rfl) (by kernel_rfl) (fun _ _ _ h => h) (fun o ho W hSw => ?y2) (HC1.out.drew.s) ?_
      case y2 =>
        cases ho
        simp [execOp, go_sem, Act.eval]
      simp only [Act.put, zzA, zzB, zzC]
      refine hTake (i := 3) (v := .pointer (some ⟨w.heap.size, 3, none⟩)) (some 16) (by kernel_rfl) (by kernel_rfl) (by kernel_rfl) (by kernel_rfl) (by kernel_rfl) (fun _ _ _ h => h) (fun o ho W hSw => ?y3) (HC1.out.drew.s) ?_
      case y3 =>
        cases ho
        simp [execOp, go_sem, Act.eval]
      simp only [Act.put, zzA, zzB, zzC]
      refine hTake (i := 4) (v := .agg #[.int .i64 kd, .int .i64 cn, .slice q m qc]) (some 17) (by kernel_rfl) (by kernel_rfl) (by kernel_rfl) (by kernel_rfl) (by kernel_rfl) (fun _ _ _ h => h) (fun o ho W hSw => ?y4) (HC1.out.drew.s) ?_
      case y4 =>
        cases ho
        have x3 : W.cell? ⟨w.heap.size, 3, none⟩ = some (.int .i64 kd) := by simp [World.cell?, hSw.1]
        have x4 : W.cell? ⟨w.heap.size, 4, none⟩ = some (.int .i64 cn) := by simp [World.cell?, hSw.1]
        have x5 : W.cell? ⟨w.heap.size, 5, none⟩ = some (.slice q m qc) := by simp [World.cell?, hSw.1]
        simp [execOp, go_sem, Act.eval, x3, x4, x5]
      simp only [Act.put, zzA, zzB, zzC]
      refine hStep (i := 5) (v := .slice (some ⟨w1.heap.size, 0, none⟩) 1 1) (w' := w1.drew.alloc (.cells #[.int .i64 kd, .int .i64 cn, .slice q m qc] 71)) (some 18) (by kernel_rfl) (by kernel_rfl) (by kernel_rfl) (fun o ho => ?y5) (HA.out.s) ?_
      case y5 =>
        cases ho
        simp [execOp, go_sem, Act.eval]
      simp only [Act.put, zzA, zzB, zzC]
      refine hCallE (i := 6) (some 19) (by kernel_rfl) (by kernel_rfl) (by kernel_rfl) (fun o ho => ?y6) (HT.out) ?_ (fun ch w' h => by obtain ⟨_, h, _⟩ := h; simp at h) (fun w' h => by obtain ⟨_, h, _⟩ := h; simp at h)
      case y6 =>
        cases ho
        simp [execOp, go_sem, Act.eval]
      rintro rv w3 ⟨v, hu, hfo, hb3⟩
      cases hu
      have HC3 := HA.out.below hb3
      have HTM := HTE.out w3 rv hfo HC3.gr HC3.ws
      refine ⟨HC3.s, ?_⟩
      simp only [Act.put, zzA, zzB, zzC]
      refine hCallE (i := 7) (some 20) (by kernel_rfl) (by kernel_rfl) (by kernel_rfl) (fun o ho => ?y7) (HTM) ?_ (fun ch w' h => by obtain ⟨h, _⟩ := h; simp at h) (fun w' h => by obtain ⟨h, _⟩ := h; simp at h)
      case y7 =>
        cases ho
        simp [execOp, go_sem, Act.eval]
      rintro rv w4 hout
      obtain ⟨hu, ⟨k', _, p4, n4, c4, hw⟩, hkp⟩ := hout
      have HO : Hid (CellOut B w wb K (R ++ leafW x.c) (.returned (.tuple #[])) w4) := ⟨rfl, ⟨k', p4, n4, c4, by rw [putR_zero] at hw; exact hw⟩, HC3.kept.trans hkp⟩
      have hS4 : CSs B wb w.heap.size (.cells #[.int .i64 op, .int .i64 r, .int .i64 a, .int .i64 kd, .int .i64 cn, .slice q m qc, .slice s n sc, .slice u l uc] 93) w4 := ⟨hkp.blk _ _ HC3.blk HNE.out (fun cur fr e => by simp at e), hw.gr⟩
      cases hu
      clear hw hkp HTM
      refine ⟨hS4, ?_⟩
      simp only [Act.put, zzA, zzB, zzC]
      refine wpAnyH_done (by kernel_rfl) ?_ _
      go_wp2_with fail
      exact bodyPost_ret (v := .tuple #[]) (by simp [results, Tryz.results83, go_sem]) rfl HO.out
end Go.Proofs.YtjhbplgppakhoaaGreatDoor

