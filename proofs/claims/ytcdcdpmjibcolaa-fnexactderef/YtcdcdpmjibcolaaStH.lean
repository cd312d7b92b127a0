/- A heap of words in memory; what is asked of an address. Own work of the verifier. -/
import Derived.Test.YtcdcdpmjibcolaaStP
import Derived.Test.YtcdcdpmjibcolaaStr0
import Derived.Test.YtcdcdpmjibcolaaIntG
namespace Go.Proofs.Ytcdcdpmjibcolaa
open Go Go.RowKit
set_option linter.unusedVariables false

/-- A cell of a store as a word. -/
def wv (c : Cel) : Value :=
  if c.1 = 0 then .iface 93 (.int .i64 c.2.1) else if c.1 = 1 then .iface 132 (.int .i64 c.2.1) else if c.1 = 2 then .iface 133 (.string (strOfNums c.2.2))
  else if c.1 = 3 then .iface 125 (.agg #[.string (strOfNums c.2.2), .int .i64 c.2.1]) else .iface 134 (.int .i64 c.2.1)
/-- What the type switches say of a word. -/
structure IsW (v : Value) (c : Cel) : Prop where
  rf : ∀ W, (Instr.typeAssert v 70 93 true).run Try.prog W = .ok (.tuple #[.int .i64 (if c.1 = 0 then c.2.1 else 0), .bool (decide (c.1 = 0))]) W
  st : ∀ W, (Instr.typeAssert v 70 134 true).run Try.prog W = .ok (.tuple #[.int .i64 (if c.1 = 4 then c.2.1 else 0), .bool (decide (c.1 = 4))]) W
  fn : ∀ W, (Instr.typeAssert v 70 125 true).run Try.prog W = .ok (.tuple #[.agg #[.string (if c.1 = 3 then strOfNums c.2.2 else ⟨#[]⟩), .int .i64 (if c.1 = 3 then c.2.1 else 0)], .bool (decide (c.1 = 3))]) W
theorem isW (c : Cel) (h : c.1 = 0 ∨ c.1 = 1 ∨ c.1 = 2 ∨ c.1 = 3 ∨ c.1 = 4) : IsW (wv c) c := by
  obtain ⟨k, n, t⟩ := c
  rcases h with h | h | h | h | h <;> (simp only at h; subst h)
  · exact ⟨fun W => by kernel_rfl, fun W => by kernel_rfl, fun W => by kernel_rfl⟩
  · exact ⟨fun W => by kernel_rfl, fun W => by kernel_rfl, fun W => by kernel_rfl⟩
  · exact ⟨fun W => by kernel_rfl, fun W => by kernel_rfl, fun W => by kernel_rfl⟩
  · exact ⟨fun W => by kernel_rfl, fun W => by kernel_rfl, fun W => by kernel_rfl⟩
  · exact ⟨fun W => by kernel_rfl, fun W => by kernel_rfl, fun W => by kernel_rfl⟩
/-- Kinds that a heap has. -/
def Knds (xs : List Cel) : Prop := ∀ a, a < xs.length → kndA xs a = 0 ∨ kndA xs a = 1 ∨ kndA xs a = 2 ∨ kndA xs a = 3 ∨ kndA xs a = 4
/-- Words that lie at the head of a block. -/
def WIn (w : World) (p : Option Addr) (xs : List Cel) : Prop := 0 < xs.length → ∃ g, p = some ⟨g, 0, none⟩ ∧ ∀ i, i < xs.length → w.cell? ⟨g, i, none⟩ = some (wv (xs.getD i Cel.none))
theorem WIn.below {w w' : World} {p : Option Addr} {xs : List Cel} (h : WIn w p xs) (hb : Below w.heap.size w w') : WIn w' p xs := fun hn => by
  obtain ⟨g, rfl, hc⟩ := h hn
  exact ⟨g, rfl, fun i hi => (hb.cell (World.block_lt_of_cell? _ _ (hc i hi))).trans (hc i hi)⟩
/-- Block h is a heap with these words and this trail. -/
def HeapAt (w : World) (h : Nat) (xs : List Cel) (tr : List Int) : Prop :=
  ∃ pw cw pt ct, w.cell? ⟨h, 0, none⟩ = some (.slice pw xs.length cw) ∧ w.cell? ⟨h, 1, none⟩ = some (.slice pt tr.length ct) ∧ WIn w pw xs ∧ IIn w pt tr
theorem HeapAt.below {w w' : World} {h : Nat} {xs : List Cel} {tr : List Int} (H : HeapAt w h xs tr) (hb : Below w.heap.size w w') : HeapAt w' h xs tr := by
  obtain ⟨pw, cw, pt, ct, h0, h1, h2, h3⟩ := H
  exact ⟨pw, cw, pt, ct, (hb.cell (World.block_lt_of_cell? _ _ h0)).trans h0, (hb.cell (World.block_lt_of_cell? _ _ h1)).trans h1, h2.below hb, h3.below hb⟩

set_option maxRecDepth 100000 in
theorem isAddress_any (h : Nat) (a : Int) (xs : List Cel) (tr : List Int) (w : World) (hl : xs.length ≤ 20000) (H : HeapAt w h xs tr) :
    Calls Try.prog 88 #[.pointer (some ⟨h, 0, none⟩), .int .i64 a] w fun e w' => e = .returned (.bool (decide (0 ≤ a ∧ a < xs.length))) ∧ Below w.heap.size w w' := by
  obtain ⟨pw, cw, pt, ct, h0, _, _, _⟩ := H
  by_cases h1 : 0 ≤ a
  · by_cases h2 : a < xs.length
    · have e : decide (0 ≤ a ∧ a < xs.length) = true := by simp [h1, h2]
      rw [e]; clear e
      go_enter Try.func88, Try.ntmps88
      go_wp2
      go_ret
      exact ⟨ret_bool (by simp), Below.refl _ _⟩
    · have e : decide (0 ≤ a ∧ a < xs.length) = false := by simp [h2]
      rw [e]; clear e
      go_enter Try.func88, Try.ntmps88
      go_wp2
      go_ret
      exact ⟨ret_bool (by simp), Below.refl _ _⟩
  · have e : decide (0 ≤ a ∧ a < xs.length) = false := by simp [h1]
    rw [e]; clear e
    go_enter Try.func88, Try.ntmps88
    go_wp2
    go_ret
    exact ⟨ret_bool (by simp), Below.refl _ _⟩

set_option maxRecDepth 100000 in
theorem holdsFunctor_any (h : Nat) (a : Int) (xs : List Cel) (tr : List Int) (w : World) (hl : xs.length ≤ 20000) (hk : Knds xs) (H : HeapAt w h xs tr) :
    Calls Try.prog 105 #[.pointer (some ⟨h, 0, none⟩), .int .i64 a] w fun e w' => e = .returned (.bool (funB xs a)) ∧ Below w.heap.size w w' := by
  have HA := isAddress_any h a xs tr w hl H
  by_cases h1 : 0 ≤ a ∧ a < xs.length
  · rw [decide_eq_true h1] at HA
    obtain ⟨pw, cw, pt, ct, h0, _, hw, _⟩ := H
    obtain ⟨g, rfl, hc⟩ := hw (by omega)
    obtain ⟨j, rfl⟩ : ∃ j : Nat, a = j := ⟨a.toNat, by omega⟩
    have hj : j < xs.length := by omega
    have hv := hc j hj
    have I := (isW (xs.getD j Cel.none) (hk j hj)).fn
    have HF : Hid (funB xs j = decide ((xs.getD j Cel.none).1 = 3)) := by show _ = _; simp only [funB, kndA]; simp [hj]
    have HB0 : Hid (j < xs.length) := hj
    generalize wv (xs.getD j Cel.none) = v at hv I
    generalize decide ((xs.getD j Cel.none).1 = 3) = r at I HF
    generalize (if (xs.getD j Cel.none).1 = 3 then strOfNums (xs.getD j Cel.none).2.2 else ⟨#[]⟩) = s at I
    generalize (if (xs.getD j Cel.none).1 = 3 then (xs.getD j Cel.none).2.1 else 0) = n at I
    have hlt := World.block_lt_of_cell? _ _ h0
    have hlt' := World.block_lt_of_cell? _ _ hv
    clear hc hw h1
    go_enter Try.func105, Try.ntmps105
    go_wp2_with fail
    refine HA.mono ?_
    rintro e w1 ⟨rfl, hb⟩
    have h0' := (hb.cell hlt).trans h0
    have hv' := (hb.cell hlt').trans hv
    have HB : Hid (Below w.heap.size w w1) := hb
    clear hb h0 hv HA hlt hlt'
    go_wp2
    go_ret
    exact ⟨ret_bool HF.out.symm, HB.out.alloc HB.out.size _⟩
  · rw [decide_eq_false h1] at HA
    have HF : Hid (funB xs a = false) := by show _ = _; simp only [funB]; simp; intro a1 a2; exact absurd ⟨a1, a2⟩ h1
    clear h1 H
    go_enter Try.func105, Try.ntmps105
    go_wp2_with (go_at_call 88; refine HA.mono ?_; rintro e w1 ⟨rfl, hb⟩)
    go_ret
    exact ⟨ret_bool HF.out.symm, hb⟩

set_option maxRecDepth 100000 in
theorem holdsWord_any (h : Nat) (a : Int) (xs : List Cel) (tr : List Int) (w : World) (hl : xs.length ≤ 20000) (hk : Knds xs) (H : HeapAt w h xs tr) :
    Calls Try.prog 99 #[.pointer (some ⟨h, 0, none⟩), .int .i64 a] w fun e w' => e = .returned (.bool (isWB xs a)) ∧ Below w.heap.size w w' := by
  have HA := isAddress_any h a xs tr w hl H
  by_cases h1 : 0 ≤ a ∧ a < xs.length
  · rw [decide_eq_true h1] at HA
    have HC : Hid (∀ W, Below w.heap.size w W → Calls Try.prog 105 #[.pointer (some ⟨h, 0, none⟩), .int .i64 a] W fun e w' => e = .returned (.bool (funB xs a)) ∧ Below W.heap.size W w') := fun W hW => holdsFunctor_any h a xs tr W hl hk (H.below hW)
    have HF : Hid (isWB xs a = !funB xs a) := by show _ = _; simp only [funB, isWB]; simp [h1.1, h1.2]
    generalize funB xs a = r at HC HF
    clear h1 H
    go_enter Try.func99, Try.ntmps99
    go_wp2_with fail
    refine HA.mono ?_
    rintro e w1 ⟨rfl, hb⟩
    have HB : Hid (Below w.heap.size w w1) := hb
    clear hb HA
    go_wp2_with fail
    refine (HC.out w1 HB.out).mono ?_
    rintro e w2 ⟨rfl, hb⟩
    have HB2 : Hid (Below w.heap.size w w2) := Below.on HB.out hb
    clear hb HC
    go_wp2
    go_ret
    exact ⟨ret_bool HF.out.symm, HB2.out⟩
  · rw [decide_eq_false h1] at HA
    have HF : Hid (isWB xs a = false) := by show _ = _; simp only [isWB]; simp; intro a1 a2; exact absurd ⟨a1, a2⟩ h1
    clear h1 H
    go_enter Try.func99, Try.ntmps99
    go_wp2_with (go_at_call 88; refine HA.mono ?_; rintro e w1 ⟨rfl, hb⟩)
    go_ret
    exact ⟨ret_bool HF.out.symm, hb⟩

set_option maxRecDepth 100000 in
theorem holdsVariable_any (h : Nat) (a : Int) (xs : List Cel) (tr : List Int) (w : World) (hl : xs.length ≤ 20000) (hk : Knds xs) (H : HeapAt w h xs tr) :
    Calls Try.prog 61 #[.pointer (some ⟨h, 0, none⟩), .int .i64 a] w fun e w' => e = .returned (.bool (varB xs a)) ∧ Below w.heap.size w w' := by
  have HA := isAddress_any h a xs tr w hl H
  by_cases h1 : 0 ≤ a ∧ a < xs.length
  · rw [decide_eq_true h1] at HA
    obtain ⟨pw, cw, pt, ct, h0, _, hw, _⟩ := H
    obtain ⟨g, rfl, hc⟩ := hw (by omega)
    obtain ⟨j, rfl⟩ : ∃ j : Nat, a = j := ⟨a.toNat, by omega⟩
    have hj : j < xs.length := by omega
    have hv := hc j hj
    have I := (isW (xs.getD j Cel.none) (hk j hj)).rf
    have HF : Hid (varB xs j = (decide ((xs.getD j Cel.none).1 = 0) && (xs.getD j Cel.none).2.1 == j)) := by
      show _ = _
      rw [Bool.eq_iff_iff]
      simp only [varB, kndA, numA]; simp [hj]
    generalize wv (xs.getD j Cel.none) = v at hv I
    have hlt := World.block_lt_of_cell? _ _ h0
    have hlt' := World.block_lt_of_cell? _ _ hv
    clear hc hw h1
    by_cases k0 : (xs.getD j Cel.none).1 = 0
    · simp only [k0, if_true, decide_true, Bool.true_and] at I HF
      generalize (xs.getD j Cel.none).2.1 = n at I HF
      clear k0
      go_enter Try.func61, Try.ntmps61
      go_wp2_with fail
      refine HA.mono ?_
      rintro e w1 ⟨rfl, hb⟩
      have h0' := (hb.cell hlt).trans h0
      have hv' := (hb.cell hlt').trans hv
      have HB : Hid (Below w.heap.size w w1) := hb
      clear hb h0 hv HA hlt hlt'
      go_wp2
      go_ret
      exact ⟨ret_bool HF.out.symm, HB.out⟩
    · simp only [k0, if_false, decide_false, Bool.false_and] at I HF
      clear k0
      go_enter Try.func61, Try.ntmps61
      go_wp2_with fail
      refine HA.mono ?_
      rintro e w1 ⟨rfl, hb⟩
      have h0' := (hb.cell hlt).trans h0
      have hv' := (hb.cell hlt').trans hv
      have HB : Hid (Below w.heap.size w w1) := hb
      clear hb h0 hv HA hlt hlt'
      go_wp2
      go_ret
      exact ⟨ret_bool HF.out.symm, HB.out⟩
  · rw [decide_eq_false h1] at HA
    have HF : Hid (varB xs a = false) := by show _ = _; simp only [varB]; simp; intro a1 a2; exact absurd ⟨a1, a2⟩ h1
    clear h1 H
    go_enter Try.func61, Try.ntmps61
    go_wp2_with (go_at_call 88; refine HA.mono ?_; rintro e w1 ⟨rfl, hb⟩)
    go_ret
    exact ⟨ret_bool HF.out.symm, hb⟩

set_option maxRecDepth 100000 in
theorem functorAt_any (h j : Nat) (xs : List Cel) (tr : List Int) (w : World) (hl : xs.length ≤ 20000) (hj : j < xs.length) (h3 : kndA xs j = 3) (H : HeapAt w h xs tr) :
    Calls Try.prog 104 #[.pointer (some ⟨h, 0, none⟩), .int .i64 j] w fun e w' => e = .returned (.agg #[.string (strOfNums (xs.getD j Cel.none).2.2), .int .i64 (numA xs j)]) ∧ Below w.heap.size w w' := by
  obtain ⟨pw, cw, pt, ct, h0, _, hw, _⟩ := H
  obtain ⟨g, rfl, hc⟩ := hw (by omega)
  have hv := hc j hj
  have I := (isW (xs.getD j Cel.none) (.inr (.inr (.inr (.inl h3))))).fn
  have h3' : (xs.getD j Cel.none).1 = 3 := h3
  simp only [h3', if_true, decide_true] at I
  generalize wv (xs.getD j Cel.none) = v at hv I
  unfold numA
  generalize (xs.getD j Cel.none).2.1 = n at I ⊢
  generalize strOfNums (xs.getD j Cel.none).2.2 = s at I ⊢
  have hlt := World.block_lt_of_cell? _ _ h0
  have hlt' := World.block_lt_of_cell? _ _ hv
  have HB0 : Hid (Below w.heap.size w (w.alloc (Obj.cells #[.string ⟨#[]⟩, .int .i64 0] 125))) := (Below.refl _ _).alloc (Nat.le_refl _) _
  have h0' := (HB0.out.cell hlt).trans h0
  have hv' := (HB0.out.cell hlt').trans hv
  clear h3 h3' hc hw h0 hv
  go_enter Try.func104, Try.ntmps104
  go_wp2
  exact bodyPost_ret (v := .agg #[.string s, .int .i64 n]) (by simp [results, Try.results104, go_sem]) rfl ⟨rfl, ((Below.refl _ _).alloc (Nat.le_refl _) _).alloc (by simp) _⟩

end Go.Proofs.Ytcdcdpmjibcolaa
