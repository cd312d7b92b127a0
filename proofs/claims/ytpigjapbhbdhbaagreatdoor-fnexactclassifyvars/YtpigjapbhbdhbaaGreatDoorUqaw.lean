/- Texts of ClM, ClN, SSG, NextG. Own work of the verifier. -/
import Derived.Test.YtpigjapbhbdhbaaGreatDoorUqar
import Derived.Test.YtpigjapbhbdhbaaGreatDoorUqav
import Derived.Test.YtpigjapbhbdhbaaGreatDoorUqas
import Derived.Test.YtpigjapbhbdhbaaGreatDoorUqad
import Derived.Test.YtpigjapbhbdhbaaGreatDoorUqaf
namespace Go.Proofs.YtpigjapbhbdhbaaGreatDoor
open Go Go.RowKit
set_option linter.unusedVariables false
def TI (w : World) (q : Option Addr) (n c : Nat) (t : Tr) : Prop := n = t.2.cells.length + 1 ∧ n ≤ c ∧ c ≤ 9223372036854775807 ∧ CIn w q (t.1 :: t.2.cells)
theorem TI.below {w w' : World} {q : Option Addr} {n c : Nat} {t : Tr} (h : TI w q n c t) (hb : Below w.heap.size w w') : TI w' q n c t := ⟨h.1, h.2.1, h.2.2.1, h.2.2.2.below hb⟩
theorem TI.head {w : World} {q : Option Addr} {n c : Nat} {t : Tr} (h : TI w q n c t) : ∃ b o q1 qc, q = some ⟨b, o, none⟩ ∧ w.cell? ⟨b, o, none⟩ = some (.int .i64 t.1.1) ∧ w.cell? ⟨b, o + 1, none⟩ = some (.int .i64 t.1.2.1) ∧ w.cell? ⟨b, o + 2, none⟩ = some (.slice q1 t.1.2.2.length qc) ∧ BIn w q1 t.1.2.2 := by
  obtain ⟨b, o, rfl, hc⟩ := h.2.2.2 (by simp)
  obtain ⟨q1, qc, d0, d1, d2, d3⟩ := hc 0 (by simp)
  simp only [Nat.zero_mul, Nat.add_zero, List.getD_cons_zero] at d0 d1 d2 d3
  exact ⟨b, o, q1, qc, rfl, d0, d1, d2, d3⟩
theorem isT_any {w : World} {q : Option Addr} {n c : Nat} {t : Tr} (h : TI w q n c t) (nm : ByteArray) (ar : Int) :
    Calls Tryz.prog 24 #[.slice q n c, .string nm, .int .i64 ar] w fun e w' => e = .returned (.bool (isB (strOfNums t.1.2.2) nm t.1.1 t.1.2.1 ar)) ∧ w' = w := by
  obtain ⟨b, o, q1, qc, rfl, d0, d1, d2, d3⟩ := h.head
  exact l2isG_any (strOfNums t.1.2.2) nm t.1.1 t.1.2.1 ar b o q1 _ qc n c w (by have := h.1; omega) d0 d1 d2 (conv_str d3 _ qc rfl 9 Tryz.underlying9)
theorem isB_pos {c : Cel} (hb : Byte c.2.2) (l : List UInt8) (a : Int) (ha : 0 < a) : isB (strOfNums c.2.2) ⟨l.toArray⟩ c.1 c.2.1 a = decide (c = (3, a, l.map fun u => (u.toNat : Int))) := by
  unfold isB
  have e1 : (ByteArray.mk l.toArray).toList = l := by rw [ByteArray.toList_eq]
  have e2 : (a == 0) = false := by rw [beq_eq_false_iff_ne]; omega
  rw [e1, e2, Bool.eq_iff_iff]
  simp only [Bool.false_eq_true, if_false, Bool.and_eq_true, beq_iff_eq, decide_eq_true_eq]
  constructor
  · rintro ⟨h1, h2, h3⟩
    exact Prod.ext h2 (Prod.ext h3 ((str_eq hb l).1 h1))
  · intro h
    refine ⟨(str_eq hb l).2 (by rw [h]), by rw [h], by rw [h]⟩
theorem isB_zero {c : Cel} (hb : Byte c.2.2) (hc : cellB c.1 c.2.1 c.2.2.length = true) (l : List UInt8) : isB (strOfNums c.2.2) ⟨l.toArray⟩ c.1 c.2.1 0 = decide (c = (2, 0, l.map fun u => (u.toNat : Int))) := by
  simp only [cellB, decide_eq_true_eq] at hc
  unfold isB
  have e1 : (ByteArray.mk l.toArray).toList = l := by rw [ByteArray.toList_eq]
  rw [e1, Bool.eq_iff_iff]
  simp only [beq_self_eq_true, if_true, Bool.and_eq_true, beq_iff_eq, decide_eq_true_eq]
  constructor
  · rintro ⟨h1, h2⟩
    exact Prod.ext h2 (Prod.ext (by show c.2.1 = 0; omega) ((str_eq hb l).1 h1))
  · intro h
    exact ⟨(str_eq hb l).2 (by rw [h]), by rw [h]⟩
theorem callable_any {w : World} {q : Option Addr} {n c : Nat} {t : Tr} (h : TI w q n c t) (hn : n ≤ 1000000) :
    Calls Tryz.prog 28 #[.slice q n c] w fun e w' => e = .returned (.bool (calC t.1)) ∧ w' = w := by
  obtain ⟨b, o, q1, qc, rfl, d0, d1, d2, d3⟩ := h.head
  have hn0 : 0 < n := by have := h.1; omega
  have HE : Hid (calC t.1 = ((t.1.1 == 2) || (t.1.1 == 3))) := by
    show _ = _
    unfold calC
    rw [Bool.eq_iff_iff]
    simp
  rw [HE.out]
  generalize t.1.1 = k at d0 ⊢
  clear h d1 d2 d3 HE
  cases h2 : (k == 2) with
  | true =>
    go_enter Tryz.func28, Tryz.ntmps28
    go_wp2_with fail
    go_ret
    exact ⟨rfl, rfl⟩
  | false =>
    go_enter Tryz.func28, Tryz.ntmps28
    go_wp2_with fail
    go_ret
    exact ⟨by simp, rfl⟩
theorem arity_any {w : World} {q : Option Addr} {n c : Nat} {t : Tr} (h : TI w q n c t) (hn : n ≤ 1000000) :
    Calls Tryz.prog 146 #[.slice q n c] w fun e w' => e = .returned (.int .i64 (fA t.1)) ∧ w' = w := by
  obtain ⟨b, o, q1, qc, rfl, d0, d1, d2, d3⟩ := h.head
  have hn0 : 0 < n := by have := h.1; omega
  by_cases h3 : t.1.1 = 3
  · have e : fA t.1 = t.1.2.1 := by unfold fA; rw [if_pos h3]
    rw [e]
    rw [h3] at d0
    generalize t.1.2.1 = m at d1 ⊢
    clear h d2 d3 h3 e
    go_enter Tryz.func146, Tryz.ntmps146
    go_wp2_with fail
    go_ret
    exact ⟨rfl, rfl⟩
  · have e : fA t.1 = 0 := by unfold fA; rw [if_neg h3]
    rw [e]
    generalize t.1.1 = k at d0 h3
    clear h d1 d2 d3 e
    go_enter Tryz.func146, Tryz.ntmps146
    go_wp2_with fail
    go_ret
    exact ⟨rfl, rfl⟩
theorem special_any {w : World} {q : Option Addr} {n c : Nat} {t : Tr} (h : TI w q n c t) (hb : Byte t.1.2.2) :
    Calls Tryz.prog 93 #[.slice q n c] w fun e w' => e = .returned (.bool (spcC t.1)) ∧ w' = w := by
  have H1 := isT_any h ⟨#[36, 108, 101, 118, 101, 108]⟩ 1
  have H2 := isT_any h ⟨#[36, 109, 97, 114, 107]⟩ 1
  have H3 := isT_any h ⟨#[36, 99, 117, 116]⟩ 1
  have e1 := isB_pos hb [36, 108, 101, 118, 101, 108] 1 (by decide)
  have e2 := isB_pos hb [36, 109, 97, 114, 107] 1 (by decide)
  have e3 := isB_pos hb [36, 99, 117, 116] 1 (by decide)
  have HE : Hid (spcC t.1 = (isB (strOfNums t.1.2.2) ⟨#[36, 108, 101, 118, 101, 108]⟩ t.1.1 t.1.2.1 1 || (isB (strOfNums t.1.2.2) ⟨#[36, 109, 97, 114, 107]⟩ t.1.1 t.1.2.1 1 || isB (strOfNums t.1.2.2) ⟨#[36, 99, 117, 116]⟩ t.1.1 t.1.2.1 1))) := by
    show _ = _
    rw [Bool.eq_iff_iff, spc_iff]
    have e1' : isB (strOfNums t.1.2.2) ⟨#[36, 108, 101, 118, 101, 108]⟩ t.1.1 t.1.2.1 1 = decide (t.1 = (3, 1, lvlN)) := e1
    have e2' : isB (strOfNums t.1.2.2) ⟨#[36, 109, 97, 114, 107]⟩ t.1.1 t.1.2.1 1 = decide (t.1 = (3, 1, mrkN)) := e2
    have e3' : isB (strOfNums t.1.2.2) ⟨#[36, 99, 117, 116]⟩ t.1.1 t.1.2.1 1 = decide (t.1 = (3, 1, cutN)) := e3
    rw [e1', e2', e3']
    simp
  rw [HE.out]
  clear e1 e2 e3 h hb HE
  generalize isB (strOfNums t.1.2.2) ⟨#[36, 108, 101, 118, 101, 108]⟩ t.1.1 t.1.2.1 1 = r1 at H1 ⊢
  generalize isB (strOfNums t.1.2.2) ⟨#[36, 109, 97, 114, 107]⟩ t.1.1 t.1.2.1 1 = r2 at H2 ⊢
  generalize isB (strOfNums t.1.2.2) ⟨#[36, 99, 117, 116]⟩ t.1.1 t.1.2.1 1 = r3 at H3 ⊢
  cases r1 with
  | true =>
    go_enter Tryz.func93, Tryz.ntmps93
    go_wp2_with fail
    refine H1.mono ?_
    rintro e w1 ⟨rfl, rfl⟩
    go_wp2_with fail
    go_ret
    exact ⟨rfl, rfl⟩
  | false =>
    cases r2 with
    | true =>
      go_enter Tryz.func93, Tryz.ntmps93
      go_wp2_with fail
      refine H1.mono ?_
      rintro e w1 ⟨rfl, rfl⟩
      go_wp2_with fail
      refine H2.mono ?_
      rintro e w2 ⟨rfl, rfl⟩
      go_wp2_with fail
      go_ret
      exact ⟨rfl, rfl⟩
    | false =>
      go_enter Tryz.func93, Tryz.ntmps93
      go_wp2_with fail
      refine H1.mono ?_
      rintro e w1 ⟨rfl, rfl⟩
      go_wp2_with fail
      refine H2.mono ?_
      rintro e w2 ⟨rfl, rfl⟩
      go_wp2_with fail
      refine H3.mono ?_
      rintro e w3 ⟨rfl, rfl⟩
      go_wp2_with fail
      go_ret
      exact ⟨by simp, rfl⟩
theorem con_tree {c : Cel} {k : Fo} (hok : (Fo.node c k .nil).ok) (hc : calC c = true) : con7 (strOfNums c.2.2) c.1 c.2.1 = conC c := by
  have hcb := hok.1
  simp only [cellB, decide_eq_true_eq] at hcb
  unfold calC at hc
  rw [decide_eq_true_eq] at hc
  have hpos : c.1 = 3 → 1 ≤ c.2.1 := fun h => by omega
  unfold con7 conC conB isB
  generalize (strOfNums c.2.2).toList = l
  have l0 : ∀ x : List UInt8, (ByteArray.mk x.toArray).toList = x := fun x => by rw [ByteArray.toList_eq]
  have m1 : (⟨#[44]⟩ : ByteArray).toList = [44] := l0 [44]
  have m2 : (⟨#[59]⟩ : ByteArray).toList = [59] := l0 [59]
  have m3 : (⟨#[45, 62]⟩ : ByteArray).toList = [45, 62] := l0 [45, 62]
  have m4 : (⟨#[92, 43]⟩ : ByteArray).toList = [92, 43] := l0 [92, 43]
  have m5 : (⟨#[111, 110, 99, 101]⟩ : ByteArray).toList = [111, 110, 99, 101] := l0 [111, 110, 99, 101]
  have m6 : (⟨#[102, 111, 114, 97, 108, 108]⟩ : ByteArray).toList = [102, 111, 114, 97, 108, 108] := l0 [102, 111, 114, 97, 108, 108]
  have m7 : (⟨#[33]⟩ : ByteArray).toList = [33] := l0 [33]
  rw [m1, m2, m3, m4, m5, m6, m7]
  have k2 : ((2 : Int) == 0) = false := rfl
  have k1 : ((1 : Int) == 0) = false := rfl
  have k0 : ((0 : Int) == 0) = true := rfl
  simp only [k2, k1, k0, Bool.false_eq_true, if_false, if_true]
  rcases hc with h | h
  · have hn : c.2.1 = 0 := by omega
    rw [h, hn]
    have a1 : ((2 : Int) == 3) = false := rfl
    have a2 : ((0 : Int) == 2) = false := rfl
    have a3 : ((0 : Int) == 1) = false := rfl
    have a4 : ((2 : Int) == 2) = true := rfl
    simp only [a1, a2, a3, a4, k0, Bool.and_false, Bool.false_or, Bool.and_true]
    by_cases e : l = [33]
    · subst e; rfl
    · have e' : (l == [33]) = false := beq_eq_false_iff_ne.2 e
      rw [e']
      split <;> first | rfl | (split <;> rfl)
  · have hn := hpos h
    have z : (c.2.1 == 0) = false := by rw [beq_eq_false_iff_ne]; omega
    have a4 : ((3 : Int) == 2) = false := rfl
    have a5 : ((3 : Int) == 3) = true := rfl
    rw [h, z]
    simp only [a4, a5, Bool.true_and, Bool.and_false, Bool.or_false]
    by_cases e1 : l = [44]
    · subst e1; simp
    by_cases e2 : l = [59]
    · subst e2; simp
    by_cases e3 : l = [45, 62]
    · subst e3; simp
    by_cases e4 : l = [92, 43]
    · subst e4; simp
    by_cases e5 : l = [111, 110, 99, 101]
    · subst e5; simp
    by_cases e6 : l = [102, 111, 114, 97, 108, 108]
    · subst e6; simp
    have f1 : (l == [44]) = false := beq_eq_false_iff_ne.2 e1
    have f2 : (l == [59]) = false := beq_eq_false_iff_ne.2 e2
    have f3 : (l == [45, 62]) = false := beq_eq_false_iff_ne.2 e3
    have f4 : (l == [92, 43]) = false := beq_eq_false_iff_ne.2 e4
    have f5 : (l == [111, 110, 99, 101]) = false := beq_eq_false_iff_ne.2 e5
    have f6 : (l == [102, 111, 114, 97, 108, 108]) = false := beq_eq_false_iff_ne.2 e6
    simp [f1, f2, f3, f4, f5, f6]
theorem conM_any {w : World} {q : Option Addr} {n c : Nat} {t : Tr} (h : TI w q n c t) (hok : (Fo.node t.1 t.2 .nil).ok) (hc : calC t.1 = true) :
    Calls Tryz.prog 92 #[.slice q n c] w fun e w' => e = .returned (.bool (conC t.1)) ∧ w' = w := by
  obtain ⟨b, o, q1, qc, rfl, d0, d1, d2, d3⟩ := h.head
  rw [← con_tree hok hc]
  exact l8construct_any (strOfNums t.1.2.2) t.1.1 t.1.2.1 b o q1 _ qc n c w (by have := h.1; omega) d0 d1 d2 (conv_str d3 _ qc rfl 9 Tryz.underlying9)
end Go.Proofs.YtpigjapbhbdhbaaGreatDoor

namespace Go.Proofs.YtpigjapbhbdhbaaGreatDoor
open Go Go.RowKit
set_option linter.unusedVariables false
set_option maxRecDepth 100000 in
set_option maxHeartbeats 1000000 in
theorem inline_any {w : World} {q : Option Addr} {n c : Nat} {t : Tr} (h : TI w q n c t) (hn : n ≤ 1000000) (hok : (Fo.node t.1 t.2 .nil).ok) (hcal : calC t.1 = true) :
    Calls Tryz.prog 94 #[.slice q n c] w fun e w' => e = .returned (.bool (inlG t)) ∧ Below w.heap.size w w' := by
  have HSP : Hid (∀ W, Below w.heap.size w W → Calls Tryz.prog 93 #[.slice q n c] W fun e w' => e = .returned (.bool (spcC t.1)) ∧ w' = W) := fun W hW => special_any (h.below hW) hok.2.1
  have HAR : Hid (∀ W, Below w.heap.size w W → Calls Tryz.prog 146 #[.slice q n c] W fun e w' => e = .returned (.int .i64 (fA t.1)) ∧ w' = W) := fun W hW => arity_any (h.below hW) hn
  obtain ⟨b, o, q1, qc, rfl, d0, d1, d2, d3⟩ := h.head
  have HBU : Hid (∀ W, Below w.heap.size w W → Calls Tryz.prog 145 #[.slice q1 t.1.2.2.length qc, .int .i64 (fA t.1)] W fun e w' => e = .returned (.bool (isBu (unU t.1.2.2) (fA t.1))) ∧ Below W.heap.size W w') := fun W hW => specIsBu_any q1 qc t.1.2.2 (fA t.1) W (d3.below hW)
  have hE : inlG t = (spcC t.1 || isBu (unU t.1.2.2) (fA t.1)) := by unfold inlG buC; rw [fA_num hok hcal]
  have HE : Hid (inlG t = (spcC t.1 || isBu (unU t.1.2.2) (fA t.1))) := hE
  have hn0 : 0 < n := by have := h.1; omega
  have hln : t.1.2.2.length ≤ 1000000 := by have := hok.1; simp only [cellB, decide_eq_true_eq] at this; omega
  rw [HE.out]
  generalize isBu (unU t.1.2.2) (fA t.1) = bu at HBU ⊢
  generalize fA t.1 = ar at HAR HBU
  generalize t.1.2.2.length = ln at HBU d2 hln
  generalize spcC t.1 = sp at HSP ⊢
  have HD2 : Hid (∀ W, Below w.heap.size w W → W.cell? ⟨b, o + 2, none⟩ = some (.slice q1 ln qc)) := fun W hW => (hW.cell (World.block_lt_of_cell? _ _ d2)).trans d2
  clear hE HE h hok hcal d0 d1 d2 d3
  go_enter Tryz.func94, Tryz.ntmps94
  go_wp2_with fail
  refine wp_region_held_drew (S := fun W => W.cell? ⟨b, o + 2, none⟩ = some (.slice q1 ln qc)) (by kernel_rfl) (HD2.out _ (Below.refl _ _).drew) (fun hHeld => ?_)
  have hSS : w.drew.cell? ⟨b, o + 2, none⟩ = some (.slice q1 ln qc) := HD2.out _ (Below.refl _ _).drew
  refine hTake (i := 0) (v := .slice (some ⟨b, o, none⟩) n c) (some 3) (by kernel_rfl) (by kernel_rfl) (by kernel_rfl) (by kernel_rfl) (by kernel_rfl) (fun _ _ _ h => h) (fun o ho W hSw => ?y0) (by assumption) ?_
  case y0 =>
    cases ho
    simp [execOp, go_sem, Act.eval]
  simp only [Act.put, List.setIfInBounds_toArray, List.set_cons_zero, List.set_cons_succ]
  refine hCallE (i := 1) (some 4) (by kernel_rfl) (by kernel_rfl) (by kernel_rfl) (fun o ho => ?y1) (HSP.out _ (Below.refl _ _).drew) ?_ (fun ch w' h => by obtain ⟨h, _⟩ := h; simp at h) (fun w' h => by obtain ⟨h, _⟩ := h; simp at h)
  case y1 =>
    cases ho
    simp [execOp, go_sem, Act.eval]
  rintro u w1 ⟨hu, hw1⟩
  cases hu
  subst hw1
  refine ⟨hSS, ?_⟩
  simp only [Act.put, List.setIfInBounds_toArray, List.set_cons_zero, List.set_cons_succ]
  cases sp with
  | true =>
    refine hTake (i := 2) (v := .bool true) (some 5) (by kernel_rfl) (by kernel_rfl) (by kernel_rfl) (by kernel_rfl) (by kernel_rfl) (fun _ _ _ h => h) (fun o ho W hSw => ?y2) (by assumption) ?_
    case y2 =>
      cases ho
      simp [execOp, go_sem, Act.eval]
    simp only [Act.put, List.setIfInBounds_toArray, List.set_cons_zero, List.set_cons_succ]
    refine hSkip (i := 3) (some 6) (by kernel_rfl) (by kernel_rfl) (by kernel_rfl) (by kernel_rfl) (by kernel_rfl) (fun _ _ _ h => h) (by assumption) ?_
    simp only [Act.put, List.setIfInBounds_toArray, List.set_cons_zero, List.set_cons_succ]
    refine hSkip (i := 4) (some 7) (by kernel_rfl) (by kernel_rfl) (by kernel_rfl) (by kernel_rfl) (by kernel_rfl) (fun _ _ _ h => h) (by assumption) ?_
    simp only [Act.put, List.setIfInBounds_toArray, List.set_cons_zero, List.set_cons_succ]
    refine hSkip (i := 5) (some 8) (by kernel_rfl) (by kernel_rfl) (by kernel_rfl) (by kernel_rfl) (by kernel_rfl) (fun _ _ _ h => h) (by assumption) ?_
    simp only [Act.put, List.setIfInBounds_toArray, List.set_cons_zero, List.set_cons_succ]
    refine hSkip (i := 6) (some 9) (by kernel_rfl) (by kernel_rfl) (by kernel_rfl) (by kernel_rfl) (by kernel_rfl) (fun _ _ _ h => h) (by assumption) ?_
    simp only [Act.put, List.setIfInBounds_toArray, List.set_cons_zero, List.set_cons_succ]
    refine hSkip (i := 7) (some 10) (by kernel_rfl) (by kernel_rfl) (by kernel_rfl) (by kernel_rfl) (by kernel_rfl) (fun _ _ _ h => h) (by assumption) ?_
    simp only [Act.put, List.setIfInBounds_toArray, List.set_cons_zero, List.set_cons_succ]
    refine hSkip (i := 8) (some 11) (by kernel_rfl) (by kernel_rfl) (by kernel_rfl) (by kernel_rfl) (by kernel_rfl) (fun _ _ _ h => h) (by assumption) ?_
    simp only [Act.put, List.setIfInBounds_toArray, List.set_cons_zero, List.set_cons_succ]
    refine hSkip (i := 9) (some 12) (by kernel_rfl) (by kernel_rfl) (by kernel_rfl) (by kernel_rfl) (by kernel_rfl) (fun _ _ _ h => h) (by assumption) ?_
    simp only [Act.put, List.setIfInBounds_toArray, List.set_cons_zero, List.set_cons_succ]
    refine hTake (i := 10) (v := .bool true) (some 13) (by kernel_rfl) (by kernel_rfl) (by kernel_rfl) (by kernel_rfl) (by kernel_rfl) (fun _ _ _ h => h) (fun o ho W hSw => ?y10) (by assumption) ?_
    case y10 =>
      cases ho
      simp [execOp, go_sem, Act.eval]
    simp only [Act.put, List.setIfInBounds_toArray, List.set_cons_zero, List.set_cons_succ]
    refine hTake (i := 11) (v := .bool true) (some 2) (by kernel_rfl) (by kernel_rfl) (by kernel_rfl) (by kernel_rfl) (by kernel_rfl) (fun _ _ _ h => h) (fun o ho W hSw => ?y11) (by assumption) ?_
    case y11 =>
      cases ho
      simp [execOp, go_sem, Act.eval]
    simp only [Act.put, List.setIfInBounds_toArray, List.set_cons_zero, List.set_cons_succ]
    refine wpAnyH_done (by kernel_rfl) ?_ _
    clear hHeld hSS
    change Exit.then _ _ _ _ _
    go_wp2_with fail
    go_ret
    exact ⟨rfl, (Below.refl _ _).drew⟩
  | false =>
    refine hTake (i := 2) (v := .bool false) (some 5) (by kernel_rfl) (by kernel_rfl) (by kernel_rfl) (by kernel_rfl) (by kernel_rfl) (fun _ _ _ h => h) (fun o ho W hSw => ?y2) (by assumption) ?_
    case y2 =>
      cases ho
      simp [execOp, go_sem, Act.eval]
    simp only [Act.put, List.setIfInBounds_toArray, List.set_cons_zero, List.set_cons_succ]
    refine hTake (i := 3) (v := .slice (some ⟨b, o, none⟩) n c) (some 6) (by kernel_rfl) (by kernel_rfl) (by kernel_rfl) (by kernel_rfl) (by kernel_rfl) (fun _ _ _ h => h) (fun o ho W hSw => ?y3) (by assumption) ?_
    case y3 =>
      cases ho
      simp [execOp, go_sem, Act.eval]
    simp only [Act.put, List.setIfInBounds_toArray, List.set_cons_zero, List.set_cons_succ]
    refine hTake (i := 4) (v := .pointer (some ⟨b, o, none⟩)) (some 7) (by kernel_rfl) (by kernel_rfl) (by kernel_rfl) (by kernel_rfl) (by kernel_rfl) (fun _ _ _ h => h) (fun o ho W hSw => ?y4) (by assumption) ?_
    case y4 =>
      cases ho
      simp [execOp, go_sem, Act.eval, hn0]
    simp only [Act.put, List.setIfInBounds_toArray, List.set_cons_zero, List.set_cons_succ]
    refine hTake (i := 5) (v := .pointer (some ⟨b, o + 2, none⟩)) (some 8) (by kernel_rfl) (by kernel_rfl) (by kernel_rfl) (by kernel_rfl) (by kernel_rfl) (fun _ _ _ h => h) (fun o ho W hSw => ?y5) (by assumption) ?_
    case y5 =>
      cases ho
      simp [execOp, go_sem, Act.eval]
    simp only [Act.put, List.setIfInBounds_toArray, List.set_cons_zero, List.set_cons_succ]
    refine hTake (i := 6) (v := .slice q1 ln qc) (some 9) (by kernel_rfl) (by kernel_rfl) (by kernel_rfl) (by kernel_rfl) (by kernel_rfl) (fun _ _ _ h => h) (fun o ho W hSw => ?y6) (by assumption) ?_
    case y6 =>
      cases ho
      simp [execOp, go_sem, Act.eval, hSw]
    simp only [Act.put, List.setIfInBounds_toArray, List.set_cons_zero, List.set_cons_succ]
    refine hTake (i := 7) (v := .slice (some ⟨b, o, none⟩) n c) (some 10) (by kernel_rfl) (by kernel_rfl) (by kernel_rfl) (by kernel_rfl) (by kernel_rfl) (fun _ _ _ h => h) (fun o ho W hSw => ?y7) (by assumption) ?_
    case y7 =>
      cases ho
      simp [execOp, go_sem, Act.eval]
    simp only [Act.put, List.setIfInBounds_toArray, List.set_cons_zero, List.set_cons_succ]
    refine hCallE (i := 8) (some 11) (by kernel_rfl) (by kernel_rfl) (by kernel_rfl) (fun o ho => ?y8) (HAR.out _ (Below.refl _ _).drew) ?_ (fun ch w' h => by obtain ⟨h, _⟩ := h; simp at h) (fun w' h => by obtain ⟨h, _⟩ := h; simp at h)
    case y8 =>
      cases ho
      simp [execOp, go_sem, Act.eval]
    rintro u w2 ⟨hu, hw2⟩
    cases hu
    subst hw2
    refine ⟨hSS, ?_⟩
    simp only [Act.put, List.setIfInBounds_toArray, List.set_cons_zero, List.set_cons_succ]
    refine hCallE (i := 9) (some 12) (by kernel_rfl) (by kernel_rfl) (by kernel_rfl) (fun o ho => ?y9) (HBU.out _ (Below.refl _ _).drew) ?_ (fun ch w' h => by obtain ⟨h, _⟩ := h; simp at h) (fun w' h => by obtain ⟨h, _⟩ := h; simp at h)
    case y9 =>
      cases ho
      simp [execOp, go_sem, Act.eval]
    rintro u w3 ⟨hu, hb3⟩
    cases hu
    have HB3 : Hid (Below w.heap.size w w3) := (Below.refl _ _).drew.trans hb3
    refine ⟨HD2.out _ HB3.out, ?_⟩
    have hS3 : w3.cell? ⟨b, o + 2, none⟩ = some (.slice q1 ln qc) := HD2.out _ HB3.out
    clear hb3
    simp only [Act.put, List.setIfInBounds_toArray, List.set_cons_zero, List.set_cons_succ]
    refine hTake (i := 10) (v := .bool bu) (some 13) (by kernel_rfl) (by kernel_rfl) (by kernel_rfl) (by kernel_rfl) (by kernel_rfl) (fun _ _ _ h => h) (fun o ho W hSw => ?y10) (by assumption) ?_
    case y10 =>
      cases ho
      simp [execOp, go_sem, Act.eval]
    simp only [Act.put, List.setIfInBounds_toArray, List.set_cons_zero, List.set_cons_succ]
    refine hTake (i := 11) (v := .bool bu) (some 2) (by kernel_rfl) (by kernel_rfl) (by kernel_rfl) (by kernel_rfl) (by kernel_rfl) (fun _ _ _ h => h) (fun o ho W hSw => ?y11) (by assumption) ?_
    case y11 =>
      cases ho
      simp [execOp, go_sem, Act.eval]
    simp only [Act.put, List.setIfInBounds_toArray, List.set_cons_zero, List.set_cons_succ]
    refine wpAnyH_done (by kernel_rfl) ?_ _
    clear hHeld hSS hS3
    change Exit.then _ _ _ _ _
    go_wp2_with fail
    go_ret
    exact ⟨by simp, HB3.out⟩
def maxV (m : Int) : List Cel → Int
  | [] => m
  | c :: r => maxV (if c.1 = 0 ∧ m < c.2.1 then c.2.1 else m) r
theorem maxV_snoc : ∀ (l : List Cel) (c : Cel) (m : Int), maxV m (l ++ [c]) = if c.1 = 0 ∧ maxV m l < c.2.1 then c.2.1 else maxV m l
  | [], c, m => rfl
  | a :: r, c, m => maxV_snoc r c _
set_option maxRecDepth 100000 in
theorem maxVar_any (cs : List Cel) (p : Option Addr) (cap : Nat) (w : World) (hn : cs.length ≤ 1000000) (hb : ∀ c ∈ cs, cellB c.1 c.2.1 c.2.2.length = true) (hin : CIn w p cs) :
    Calls Tryz.prog 30 #[.slice p cs.length cap] w fun e w' => e = .returned (.int .i64 (maxV (-1) cs)) ∧ w' = w := by
  have HI : Hid (CIn w p cs) := hin
  have HB : Hid (∀ c ∈ cs, cellB c.1 c.2.1 c.2.2.length = true) := hb
  clear hin hb
  go_enter Tryz.func30, Tryz.ntmps30
  go_wp2_with fail
  go_loop [3, 4] (fun m i => ∃ (j : Nat) (mm : Int), j ≤ cs.length ∧ i = .int .i64 j ∧ m = .int .i64 mm ∧ (-1 ≤ mm ∧ mm ≤ 1000000000000000) ∧ Hid (mm = maxV (-1) (cs.take j))) (fun _ i => cs.length - (intOf i).toNat)
  case atStart => exact ⟨0, -1, Nat.zero_le _, rfl, rfl, by omega, rfl⟩
  case round =>
    obtain ⟨j, mm, hj, rfl, rfl, hmb, HM⟩ := hrel
    by_cases hlt : j < cs.length
    · obtain ⟨b, o, rfl, hc⟩ := HI.out (by omega)
      obtain ⟨q1, qc, d0, d1, d2, d3⟩ := hc j hlt
      have htk : cs.take (j + 1) = cs.take j ++ [cs.getD j Cel.none] := by rw [List.take_succ_eq_append_getElem hlt]; simp [List.getD, hlt]
      have hcb := HB.out (cs.getD j Cel.none) (by simp [List.getD, hlt])
      simp only [cellB, decide_eq_true_eq] at hcb
      have HN : Hid (maxV (-1) (cs.take (j + 1)) = if (cs.getD j Cel.none).1 = 0 ∧ mm < (cs.getD j Cel.none).2.1 then (cs.getD j Cel.none).2.1 else mm) := by show _ = _; rw [htk, maxV_snoc, ← HM.out]
      generalize (cs.getD j Cel.none).1 = k1 at d0 HN hcb
      generalize (cs.getD j Cel.none).2.1 = k2 at d1 HN hcb
      have hk2 : -1000000000000000 ≤ k2 ∧ k2 ≤ 1000000000000000 := by omega
      clear hc d2 d3 htk hcb
      by_cases h0 : k1 = 0
      · subst h0
        by_cases hg : mm < k2
        · have hgd : decide (mm < k2) = true := decide_eq_true hg
          go_wp2_with fail
          go_round
          case rel => exact ⟨j + 1, k2, by omega, by go_num, rfl, by omega, by show _ = _; rw [HN.out, if_pos ⟨rfl, hg⟩]⟩
          case measure => simp [intOf]; omega
        · have hgd : decide (mm < k2) = false := decide_eq_false hg
          go_wp2_with fail
          go_round
          case rel => exact ⟨j + 1, mm, by omega, by go_num, rfl, hmb, by show _ = _; rw [HN.out, if_neg (fun h => hg h.2)]⟩
          case measure => simp [intOf]; omega
      · have hgd : (k1 == 0) = false := beq_eq_false_iff_ne.2 h0
        go_wp2_with fail
        go_round
        case rel => exact ⟨j + 1, mm, by omega, by go_num, rfl, hmb, by show _ = _; rw [HN.out, if_neg (fun h => h0 h.1)]⟩
        case measure => simp [intOf]; omega
    · obtain rfl : j = cs.length := by omega
      have HM2 : Hid (mm = maxV (-1) cs) := by have := HM.out; rw [List.take_length] at this; exact this
      go_wp2_with fail
      go_ret
      exact ⟨ret_int HM2.out, rfl⟩
theorem maxV_le : ∀ (l : List Cel) (m : Int), m ≤ maxV m l ∧ ∀ v ∈ vsC l, v ≤ maxV m l
  | [], m => ⟨Int.le_refl _, fun v h => by simp [vsC] at h⟩
  | c :: r, m => by
    have ih := maxV_le r (if c.1 = 0 ∧ m < c.2.1 then c.2.1 else m)
    have e : maxV m (c :: r) = maxV (if c.1 = 0 ∧ m < c.2.1 then c.2.1 else m) r := rfl
    rw [e]
    have h1 : m ≤ (if c.1 = 0 ∧ m < c.2.1 then c.2.1 else m) := by split <;> omega
    refine ⟨Int.le_trans h1 ih.1, fun v hv => ?_⟩
    rw [vsC_cons] at hv
    by_cases h0 : c.1 = 0
    · rw [if_pos h0] at hv
      rcases List.mem_cons.1 hv with rfl | hv
      · have h2 : c.2.1 ≤ (if c.1 = 0 ∧ m < c.2.1 then c.2.1 else m) := by
          by_cases h9 : m < c.2.1
          · rw [if_pos ⟨h0, h9⟩]; exact Int.le_refl _
          · rw [if_neg (fun h => h9 h.2)]; omega
        exact Int.le_trans h2 ih.1
      · exact ih.2 v hv
    · rw [if_neg h0] at hv
      exact ih.2 v hv
theorem maxV_mem : ∀ (l : List Cel) (m : Int), maxV m l = m ∨ maxV m l ∈ vsC l
  | [], m => .inl rfl
  | c :: r, m => by
    have e : maxV m (c :: r) = maxV (if c.1 = 0 ∧ m < c.2.1 then c.2.1 else m) r := rfl
    rw [e, vsC_cons]
    rcases maxV_mem r (if c.1 = 0 ∧ m < c.2.1 then c.2.1 else m) with h | h
    · rw [h]
      by_cases h9 : c.1 = 0 ∧ m < c.2.1
      · rw [if_pos h9, if_pos h9.1]; exact .inr (List.mem_cons_self ..)
      · rw [if_neg h9]; exact .inl rfl
    · by_cases h0 : c.1 = 0
      · rw [if_pos h0]; exact .inr (List.mem_cons_of_mem _ h)
      · rw [if_neg h0]; exact .inr h
theorem okV_lt : ∀ (vs : List Int) (m : Nat), okV m vs → ∀ v ∈ vs, v < endV m vs
  | [], m, _, v, h => by cases h
  | x :: r, m, h, v, hv => by
    have hl := endV_le r (if x = m then m + 1 else m)
    rcases List.mem_cons.1 hv with rfl | hv
    · show v < endV (if v = m then m + 1 else m) r
      have h1 := h.1
      by_cases e : v = m
      · rw [if_pos e] at hl ⊢; omega
      · rw [if_neg e] at hl ⊢; omega
    · exact okV_lt r _ h.2 v hv
theorem okV_all : ∀ (vs : List Int) (m : Nat), okV m vs → ∀ u : Nat, m ≤ u → u < endV m vs → (u : Int) ∈ vs
  | [], m, _, u, h1, h2 => by simp [endV] at h2; omega
  | x :: r, m, h, u, h1, h2 => by
    by_cases e : x = m
    · by_cases hu : u = m
      · rw [hu, ← e]; exact List.mem_cons_self ..
      · refine List.mem_cons_of_mem _ (okV_all r (m + 1) ?_ u (by omega) ?_)
        · have := h.2; rw [if_pos e] at this; exact this
        · have h3 : endV m (x :: r) = endV (if x = m then m + 1 else m) r := rfl
          rw [h3, if_pos e] at h2; exact h2
    · refine List.mem_cons_of_mem _ (okV_all r m ?_ u h1 ?_)
      · have := h.2; rw [if_neg e] at this; exact this
      · have h3 : endV m (x :: r) = endV (if x = m then m + 1 else m) r := rfl
        rw [h3, if_neg e] at h2; exact h2
theorem max_count {cs : List Cel} (h : renCells cs = cs) : maxV (-1) cs + 1 = ((visits [] cs).length : Int) := by
  obtain ⟨h1, h2⟩ := own_seq h
  have hle := maxV_le cs (-1)
  rw [← h2]
  rcases maxV_mem cs (-1) with e | e
  · by_cases hz : endV 0 (vsC cs) = 0
    · rw [e, hz]; rfl
    · have := hle.2 _ (okV_all _ 0 h1 (endV 0 (vsC cs) - 1) (Nat.zero_le _) (by omega))
      omega
  · have hlt := okV_lt _ 0 h1 _ e
    by_cases hz : endV 0 (vsC cs) = 0
    · rw [hz] at hlt; have := hle.1; omega
    · have := hle.2 _ (okV_all _ 0 h1 (endV 0 (vsC cs) - 1) (Nat.zero_le _) (by omega))
      omega
end Go.Proofs.YtpigjapbhbdhbaaGreatDoor

namespace Go.Proofs.YtpigjapbhbdhbaaGreatDoor
open Go Go.RowKit
set_option linter.unusedVariables false
theorem infoCells : (Tryz.prog.info? 27).map (fun i => (i.zero, i.size, i.bytes)) = some (some (.slice none 0 0), 1, 24) := by kernel_rfl
abbrev It := Option Addr × Nat × Nat × Nat
def It.zero : It := (none, 0, 0, 0)
end Go.Proofs.YtpigjapbhbdhbaaGreatDoor

namespace Go.Proofs.YtpigjapbhbdhbaaGreatDoor
open Go Go.RowKit
set_option linter.unusedVariables false
theorem CIn.part {w : World} {b o : Nat} {cs ds : List Cel} (h : ∀ i, i < cs.length → CAt w b (o + i * 3) (cs.getD i Cel.none)) (j : Nat) (hd : ds <+: cs.drop j) : CIn w (some ⟨b, o + j * 3, none⟩) ds := fun _ => by
  refine ⟨b, o + j * 3, rfl, fun i hi => ?_⟩
  obtain ⟨r, hr⟩ := hd
  have hl : j + i < cs.length := by
    have := congrArg List.length hr
    simp at this; omega
  have e : cs.getD (j + i) Cel.none = ds.getD i Cel.none := by
    have h1 : (cs.drop j)[i]? = ds[i]? := by rw [← hr, List.getElem?_append_left hi]
    rw [List.getElem?_drop] at h1
    simp only [List.getD, h1]
  have := h (j + i) hl
  rw [e, show o + (j + i) * 3 = o + j * 3 + i * 3 by omega] at this
  exact this
theorem drop_cell {cs : List Cel} {j : Nat} {c : Cel} {r : List Cel} (h : cs.drop j = c :: r) : j < cs.length ∧ cs.getD j Cel.none = c ∧ cs.drop (j + 1) = r := by
  have hl : j < cs.length := by
    rcases Nat.lt_or_ge j cs.length with h' | h'
    · exact h'
    · rw [List.drop_eq_nil_of_le h'] at h; cases h
  rw [List.drop_eq_getElem_cons hl] at h
  injection h with h1 h2
  exact ⟨hl, by simp [List.getD, hl, h1], h2⟩
set_option maxRecDepth 100000 in
theorem l2next_any (p : Option Addr) (n cap : Nat) (cs : List Cel) (at_ : Nat) (c : Cel) (k : Fo) (tail : List Cel) (w : World) (hn : n = cs.length) (hm : n ≤ 1000000) (hd : cs.drop at_ = c :: (k.cells ++ tail)) (hok : (Fo.node c k .nil).ok) (hin : CIn w p cs) :
    Calls Tryz.prog 91 #[.slice p n cap, .int .i64 at_] w fun e w' => e = .returned (.int .i64 ((at_ + 1 + k.cells.length : Nat) : Int)) ∧ w' = w := by
  obtain ⟨E, eE⟩ : ∃ E, E = at_ + 1 + k.cells.length := ⟨_, rfl⟩
  have HE : Hid (E = at_ + 1 + k.cells.length) := eE
  have hEn : E ≤ n := by
    have := congrArg List.length hd
    simp at this; omega
  have HD : Hid (cs.drop at_ = (Fo.node c k .nil).cells ++ tail ∧ n = cs.length) := ⟨by simp [Fo.cells, hd], hn⟩
  have HOK : Hid (Fo.node c k .nil).ok := hok
  have HIN : Hid (CIn w p cs) := hin
  have hA : at_ ≤ E := by omega
  rw [← eE]
  clear hn hd hok hin eE
  go_enter Tryz.func91, Tryz.ntmps91
  go_wp2
  go_loop [1, 5] (fun a l => ∃ (j : Nat) (q : Nat), j ≤ E ∧ a = .int .i64 j ∧ l = .int .i64 q ∧ q ≤ 1000000 ∧ Hid (∃ F : Fo, F.ok ∧ F.count = q ∧ cs.drop j = F.cells ++ tail ∧ j + F.cells.length = E)) (fun a _ => E - (intOf a).toNat)
  case atStart => exact ⟨at_, 1, hA, rfl, rfl, by decide, .node c k .nil, HOK.out, rfl, HD.out.1, by rw [HE.out]; simp [Fo.cells]; omega⟩
  case round =>
    obtain ⟨j, q, hj, rfl, rfl, hq, HF⟩ := hrel
    by_cases h0 : 0 < q
    · obtain ⟨F, hFok, hFc, hFd, hFl⟩ := HF.out
      cases F with
      | nil => simp [Fo.count] at hFc; omega
      | node c1 k1 r1 =>
        simp only [Fo.cells, List.cons_append, List.append_assoc] at hFd
        obtain ⟨hjl, hg, hd1⟩ := drop_cell hFd
        have hjn : j < n := by rw [HD.out.2]; exact hjl
        obtain ⟨b, o, rfl, hcs⟩ := HIN.out (by omega)
        obtain ⟨p0, q0, d0, d1, _, _⟩ := hcs j hjl
        rw [hg] at d0 d1
        have hjE : j + 1 ≤ E := by rw [← hFl]; simp only [Fo.cells, List.length_cons, List.length_append]; omega
        have hcB := hFok.1
        by_cases h3 : c1.1 = 3
        · have hc1 := hFok.2.2.1 h3
          rw [h3] at hcB
          have hb20 := cellB_comp hcB
          have HN : Hid (∃ F : Fo, F.ok ∧ F.count = q + k1.count - 1 ∧ cs.drop (j + 1) = F.cells ++ tail ∧ j + 1 + F.cells.length = E) := by
            refine ⟨k1.cat r1, (Fo.ok_cat _ _).2 ⟨hFok.2.2.2.2.1, hFok.2.2.2.2.2⟩, ?_, ?_, ?_⟩
            · rw [Fo.count_cat]; simp [Fo.count] at hFc; omega
            · rw [Fo.cells_cat, hd1, List.append_assoc]
            · rw [Fo.cells_cat, ← hFl]; simp [Fo.cells]; omega
          rw [h3] at d0
          rw [hc1] at d1
          have hk20 : k1.count ≤ 20 := by omega
          have hq2 : q + k1.count - 1 ≤ 1000000 := by
            obtain ⟨F, _, hc, _, hl⟩ := HN.out
            have := Fo.count_le F
            omega
          obtain ⟨m, em⟩ : ∃ m, m = k1.count := ⟨_, rfl⟩
          rw [← em] at d1 hk20 HN hq2
          have hm1 : 1 ≤ m := by omega
          clear hFok hFc hFd hFl hcs hcB h3 hc1 hb20 hd1 hg em HF
          go_wp2
          go_round
          case rel => exact ⟨j + 1, q + m - 1, hjE, by go_num, by go_num, hq2, HN⟩
          case measure => simp [intOf]; omega
        · have hk1 : k1 = .nil := hFok.2.2.2.1 h3
          have h3' : (c1.1 == 3) = false := by simpa using h3
          have HN : Hid (∃ F : Fo, F.ok ∧ F.count = q - 1 ∧ cs.drop (j + 1) = F.cells ++ tail ∧ j + 1 + F.cells.length = E) := by
            refine ⟨r1, hFok.2.2.2.2.2, ?_, ?_, ?_⟩
            · simp [Fo.count] at hFc; omega
            · rw [hd1, hk1]; rfl
            · rw [← hFl, hk1]; simp [Fo.cells]; omega
          obtain ⟨kd, ekd⟩ : ∃ kd, kd = c1.1 := ⟨_, rfl⟩
          rw [← ekd] at d0 h3'
          clear hFok hFc hFd hFl hcs hcB h3 hd1 hg HF hk1 ekd
          go_wp2
          go_round
          case rel => exact ⟨j + 1, q - 1, hjE, by go_num, by go_num, by omega, HN⟩
          case measure => simp [intOf]; omega
    · obtain rfl : q = 0 := by omega
      have HJ : Hid (j = E) := by
        obtain ⟨F, _, hc, _, hl⟩ := HF.out
        cases F with
        | nil => simpa [Fo.cells, Hid] using hl
        | node a b d => simp [Fo.count] at hc
      clear HF
      go_wp2
      go_ret
      exact ⟨ret_int (by rw [HJ.out]), rfl⟩
def slV (r : Option Addr × Nat × Nat) : Value := .slice r.1 r.2.1 r.2.2
theorem app_sl (w : World) {ops : Array Oper} {rest : List Oper} {o : Oper} {a : Act} {Q : Exit → Act → World → Prop} (hgd : o.guard = none) (s x : Operand)
    (ho : o.op = .call { callee := .builtin .append, args := #[s, x], argTypes := #[38, 38] }) (B : Nat) (p : Option Addr) (n c : Nat) (rs : List (Option Addr × Nat × Nat)) (q : Option Addr) (m c' : Nat)
    (hs : a.eval s = .slice p n c) (hown : w.ownsRow B 27 1 (.slice p n c) n (rs.map slV)) (hx : a.eval x = .slice (some ⟨w.heap.size, 0, none⟩) 1 1)
    (hlen : n + 1 ≤ 1000000) (hbase : B ≤ w.heap.size)
    (h : ∀ g cap w', w'.ownsRow B 27 1 (.slice (some ⟨g, 0, none⟩) (n + 1) cap) (n + 1) ((rs ++ [(q, m, c')]).map slV) → (w.alloc (.cells #[.slice q m c'] 27)).grownBy w' (Value.ownBlock (.slice p n c)) → wpList Tryz.prog ops Q rest (a.put o.dst (.slice (some ⟨g, 0, none⟩) (n + 1) cap)) w') : wpList Tryz.prog ops Q (o :: rest) a (w.alloc (.cells #[.slice q m c'] 27)) := by
  obtain ⟨i0, hi, hz0, hz1, hz2⟩ := info_parts infoCells
  refine wpList_append_lies _ hgd s x 38 ho B 27 i0 (.slice none 0 0) 1 24 Tryz.underlying38 hi hz0 hz1 hz2 rfl (by decide) (.slice p n c) n (rs.map slV) hs (hown.alloc _) ⟨w.heap.size, 0, none⟩ 1 1 [.slice q m c'] hx rfl (cell_one_new _ _ _) (by simp [Value.oneCell']) (by decide) (by unfold maxLen; omega) (by omega) (by simp; omega) _ rfl ?_
  intro g cap w' hown' hgrow hat hlt
  exact h g cap w' (by rw [List.map_append]; exact hown') hgrow
end Go.Proofs.YtpigjapbhbdhbaaGreatDoor

