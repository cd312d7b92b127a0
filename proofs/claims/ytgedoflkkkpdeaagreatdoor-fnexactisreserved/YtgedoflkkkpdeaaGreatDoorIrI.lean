/- IsReserved of the program. Own work of the verifier. Made by wip/draft/iri.py. -/
import Derived.Test.YtgedoflkkkpdeaaGreatDoorIrC
import Derived.Test.YtgedoflkkkpdeaaGreatDoorIbI
import Derived.Test.YtgedoflkkkpdeaaGreatDoorRowT
namespace Go.Proofs.YtgedoflkkkpdeaaGreatDoor
open Go Go.RowKit
set_option linter.unusedVariables false

/-- Whether a name with an arity is reserved. -/
def resvB (xs : List Int) (a : Int) : Bool := if a < 0 ∨ 20 < a then false else (dolB (strOfNums xs) || resN (strOfNums xs)) || (conB (strOfNums xs) a || ctlB (strOfNums xs) a || senB (strOfNums xs) a || isBu (unU xs) a)
theorem strSize (xs : List Int) : (strOfNums xs).size = xs.length := by simp [strOfNums, ByteArray.size]
set_option maxRecDepth 100000 in
set_option maxHeartbeats 1000000 in
theorem isResF_any (xs : List Int) (hb : Byte xs) (hl : xs.length ≤ 1048576) (a : Int) (ha : (Lit.int .i64 a).wf = true) (w : World) :
    Calls Tryz.prog 17 #[.agg #[.string (strOfNums xs), .int .i64 a]] w fun e w' => e = .returned (.bool (resvB xs a)) ∧ Below w.heap.size w w' := by
  have HF : Hid (∀ b, b = resvB xs a → Ending.returned (.bool b) = .returned (.bool (resvB xs a))) := fun b h => ret_bool h
  have hBA : Below w.heap.size w (w.alloc (.cells #[.string (strOfNums xs), .int .i64 a] 37)) := (Below.refl _ _).alloc (Nat.le_refl _) _
  by_cases h0 : a < 0
  · have HR : Hid (resvB xs a = false) := by show _ = _; unfold resvB; rw [if_pos (.inl h0)]
    have HBA : Hid _ := hBA
    clear hb hl ha hBA
    generalize strOfNums xs = s at HBA ⊢
    go_enter Tryz.func17, Tryz.ntmps17
    go_wp2_with fail
    go_ret
    exact ⟨HF.out _ HR.out.symm, HBA.out⟩
  by_cases h1 : 20 < a
  · have HR : Hid (resvB xs a = false) := by show _ = _; unfold resvB; rw [if_pos (.inr h1)]
    have HBA : Hid _ := hBA
    clear hb hl ha hBA
    generalize strOfNums xs = s at HBA ⊢
    go_enter Tryz.func17, Tryz.ntmps17
    go_wp2_with fail
    go_ret
    exact ⟨HF.out _ HR.out.symm, HBA.out⟩
  have hsz : (strOfNums xs).size ≤ 1000000000 := by rw [strSize]; omega
  have HR : Hid (resvB xs a = ((dolB (strOfNums xs) || resN (strOfNums xs)) || (conB (strOfNums xs) a || ctlB (strOfNums xs) a || senB (strOfNums xs) a || isBu (unU xs) a))) := by show _ = _; unfold resvB; rw [if_neg (by omega)]
  have H0 := fun W => isNew_any (strOfNums xs) a W hsz
  have H1 := fun W => resName_any (strOfNums xs) W
  have H2 := fun W => isConstruct_any (strOfNums xs) a W
  have H3 := fun W => isControl_any (strOfNums xs) a W
  have H4 := fun W => isSentence_any (strOfNums xs) a W
  have HCV : Hid (∀ W, ∃ w1 cap1, (convert 9 22 (.string (strOfNums xs))).run Tryz.prog W = .ok (.slice (some ⟨W.heap.size, 0, none⟩) xs.length cap1) w1 ∧ Below W.heap.size W w1 ∧ Calls Tryz.prog 7 #[.slice (some ⟨W.heap.size, 0, none⟩) xs.length cap1, .int .i64 a] w1 fun e w' => e = .returned (.bool (isBu (unU xs) a)) ∧ Below w1.heap.size w1 w') := fun W => by
    obtain ⟨w1, cap1, hcv, hb1, ht⟩ := conv_bytes W xs hb 9 Tryz.underlying9
    exact ⟨w1, cap1, hcv, hb1, implIsBu_any _ cap1 xs a w1 hl ht.bin ha⟩
  obtain ⟨d0, e0⟩ : ∃ d, d = dolB (strOfNums xs) := ⟨_, rfl⟩
  obtain ⟨d1, e1⟩ : ∃ d, d = resN (strOfNums xs) := ⟨_, rfl⟩
  obtain ⟨d2, e2⟩ : ∃ d, d = conB (strOfNums xs) a := ⟨_, rfl⟩
  obtain ⟨d3, e3⟩ : ∃ d, d = ctlB (strOfNums xs) a := ⟨_, rfl⟩
  obtain ⟨d4, e4⟩ : ∃ d, d = senB (strOfNums xs) a := ⟨_, rfl⟩
  obtain ⟨d5, e5⟩ : ∃ d, d = isBu (unU xs) a := ⟨_, rfl⟩
  obtain ⟨L, eL⟩ : ∃ L, L = xs.length := ⟨_, rfl⟩
  rw [← e0] at H0 HR
  rw [← e1] at H1 HR
  rw [← e2] at H2 HR
  rw [← e3] at H3 HR
  rw [← e4] at H4 HR
  rw [← e5] at HCV HR
  rw [← eL] at HCV
  have hnw := heap_alloc_new w (.cells #[.string (strOfNums xs), .int .i64 a] 37)
  generalize strOfNums xs = s at *
  have HBA : Hid _ := hBA
  have HNW : Hid _ := hnw
  clear hb hl ha hBA e0 e1 e2 e3 e4 e5 eL hsz hnw
  cases d0
  rotate_left
  · have HR : Hid (resvB xs a = true) := by show _ = _; rw [HR.out]; simp
    go_enter Tryz.func17, Tryz.ntmps17
    go_wp2_with fail
    refine (H0 _).mono ?_
    rintro e w0 ⟨rfl, hb0⟩
    have HB0 : Hid (Below w.heap.size w w0) := Below.on HBA.out hb0
    have HK0 : Hid (w0.heap[w.heap.size]? = some (.cells #[.string s, .int .i64 a] 37)) := (hb0.block _ (show w.heap.size < _ by simp)).trans HNW.out
    have HL0 : Hid (w.heap.size < w0.heap.size) := Nat.lt_of_lt_of_le (show w.heap.size < _ by simp) hb0.size
    obtain ⟨x0, x1, _, _⟩ := two_cells HK0.out
    clear hb0
    go_wp2_with fail
    go_ret
    exact ⟨HF.out _ HR.out.symm, HB0.out⟩
  cases d1
  rotate_left
  · have HR : Hid (resvB xs a = true) := by show _ = _; rw [HR.out]; simp
    go_enter Tryz.func17, Tryz.ntmps17
    go_wp2_with fail
    refine (H0 _).mono ?_
    rintro e w0 ⟨rfl, hb0⟩
    have HB0 : Hid (Below w.heap.size w w0) := Below.on HBA.out hb0
    have HK0 : Hid (w0.heap[w.heap.size]? = some (.cells #[.string s, .int .i64 a] 37)) := (hb0.block _ (show w.heap.size < _ by simp)).trans HNW.out
    have HL0 : Hid (w.heap.size < w0.heap.size) := Nat.lt_of_lt_of_le (show w.heap.size < _ by simp) hb0.size
    obtain ⟨x0, x1, _, _⟩ := two_cells HK0.out
    clear hb0
    go_wp2_with fail
    refine (H1 _).mono ?_
    rintro e w0' ⟨rfl, hw0⟩
    subst hw0
    go_wp2_with fail
    go_ret
    exact ⟨HF.out _ HR.out.symm, HB0.out⟩
  cases d2
  rotate_left
  · have HR : Hid (resvB xs a = true) := by show _ = _; rw [HR.out]; simp
    go_enter Tryz.func17, Tryz.ntmps17
    go_wp2_with fail
    refine (H0 _).mono ?_
    rintro e w0 ⟨rfl, hb0⟩
    have HB0 : Hid (Below w.heap.size w w0) := Below.on HBA.out hb0
    have HK0 : Hid (w0.heap[w.heap.size]? = some (.cells #[.string s, .int .i64 a] 37)) := (hb0.block _ (show w.heap.size < _ by simp)).trans HNW.out
    have HL0 : Hid (w.heap.size < w0.heap.size) := Nat.lt_of_lt_of_le (show w.heap.size < _ by simp) hb0.size
    obtain ⟨x0, x1, _, _⟩ := two_cells HK0.out
    clear hb0
    go_wp2_with fail
    refine (H1 _).mono ?_
    rintro e w0' ⟨rfl, hw0⟩
    subst hw0
    clear x0 x1
    obtain ⟨x0, x1, _, _⟩ := two_cells HK0.out
    go_wp2_with fail
    refine (H2 _).mono ?_
    rintro e w2 ⟨rfl, hb2⟩
    clear x0 x1
    have HB2 : Hid (Below w.heap.size w w2) := Below.on HB0.out hb2
    have HK2 : Hid (w2.heap[w.heap.size]? = some (.cells #[.string s, .int .i64 a] 37)) := (hb2.block _ HL0.out).trans HK0.out
    have HL2 : Hid (w.heap.size < w2.heap.size) := Nat.lt_of_lt_of_le HL0.out hb2.size
    obtain ⟨x0, x1, _, _⟩ := two_cells HK2.out
    clear hb2
    go_wp2_with fail
    go_ret
    exact ⟨HF.out _ HR.out.symm, HB2.out⟩
  cases d3
  rotate_left
  · have HR : Hid (resvB xs a = true) := by show _ = _; rw [HR.out]; simp
    go_enter Tryz.func17, Tryz.ntmps17
    go_wp2_with fail
    refine (H0 _).mono ?_
    rintro e w0 ⟨rfl, hb0⟩
    have HB0 : Hid (Below w.heap.size w w0) := Below.on HBA.out hb0
    have HK0 : Hid (w0.heap[w.heap.size]? = some (.cells #[.string s, .int .i64 a] 37)) := (hb0.block _ (show w.heap.size < _ by simp)).trans HNW.out
    have HL0 : Hid (w.heap.size < w0.heap.size) := Nat.lt_of_lt_of_le (show w.heap.size < _ by simp) hb0.size
    obtain ⟨x0, x1, _, _⟩ := two_cells HK0.out
    clear hb0
    go_wp2_with fail
    refine (H1 _).mono ?_
    rintro e w0' ⟨rfl, hw0⟩
    subst hw0
    clear x0 x1
    obtain ⟨x0, x1, _, _⟩ := two_cells HK0.out
    go_wp2_with fail
    refine (H2 _).mono ?_
    rintro e w2 ⟨rfl, hb2⟩
    clear x0 x1
    have HB2 : Hid (Below w.heap.size w w2) := Below.on HB0.out hb2
    have HK2 : Hid (w2.heap[w.heap.size]? = some (.cells #[.string s, .int .i64 a] 37)) := (hb2.block _ HL0.out).trans HK0.out
    have HL2 : Hid (w.heap.size < w2.heap.size) := Nat.lt_of_lt_of_le HL0.out hb2.size
    obtain ⟨x0, x1, _, _⟩ := two_cells HK2.out
    clear hb2
    go_wp2_with fail
    refine (H3 _).mono ?_
    rintro e w3 ⟨rfl, hb3⟩
    clear x0 x1
    have HB3 : Hid (Below w.heap.size w w3) := Below.on HB2.out hb3
    have HK3 : Hid (w3.heap[w.heap.size]? = some (.cells #[.string s, .int .i64 a] 37)) := (hb3.block _ HL2.out).trans HK2.out
    have HL3 : Hid (w.heap.size < w3.heap.size) := Nat.lt_of_lt_of_le HL2.out hb3.size
    obtain ⟨x0, x1, _, _⟩ := two_cells HK3.out
    clear hb3
    go_wp2_with fail
    go_ret
    exact ⟨HF.out _ HR.out.symm, HB3.out⟩
  cases d4
  rotate_left
  · have HR : Hid (resvB xs a = true) := by show _ = _; rw [HR.out]; simp
    go_enter Tryz.func17, Tryz.ntmps17
    go_wp2_with fail
    refine (H0 _).mono ?_
    rintro e w0 ⟨rfl, hb0⟩
    have HB0 : Hid (Below w.heap.size w w0) := Below.on HBA.out hb0
    have HK0 : Hid (w0.heap[w.heap.size]? = some (.cells #[.string s, .int .i64 a] 37)) := (hb0.block _ (show w.heap.size < _ by simp)).trans HNW.out
    have HL0 : Hid (w.heap.size < w0.heap.size) := Nat.lt_of_lt_of_le (show w.heap.size < _ by simp) hb0.size
    obtain ⟨x0, x1, _, _⟩ := two_cells HK0.out
    clear hb0
    go_wp2_with fail
    refine (H1 _).mono ?_
    rintro e w0' ⟨rfl, hw0⟩
    subst hw0
    clear x0 x1
    obtain ⟨x0, x1, _, _⟩ := two_cells HK0.out
    go_wp2_with fail
    refine (H2 _).mono ?_
    rintro e w2 ⟨rfl, hb2⟩
    clear x0 x1
    have HB2 : Hid (Below w.heap.size w w2) := Below.on HB0.out hb2
    have HK2 : Hid (w2.heap[w.heap.size]? = some (.cells #[.string s, .int .i64 a] 37)) := (hb2.block _ HL0.out).trans HK0.out
    have HL2 : Hid (w.heap.size < w2.heap.size) := Nat.lt_of_lt_of_le HL0.out hb2.size
    obtain ⟨x0, x1, _, _⟩ := two_cells HK2.out
    clear hb2
    go_wp2_with fail
    refine (H3 _).mono ?_
    rintro e w3 ⟨rfl, hb3⟩
    clear x0 x1
    have HB3 : Hid (Below w.heap.size w w3) := Below.on HB2.out hb3
    have HK3 : Hid (w3.heap[w.heap.size]? = some (.cells #[.string s, .int .i64 a] 37)) := (hb3.block _ HL2.out).trans HK2.out
    have HL3 : Hid (w.heap.size < w3.heap.size) := Nat.lt_of_lt_of_le HL2.out hb3.size
    obtain ⟨x0, x1, _, _⟩ := two_cells HK3.out
    clear hb3
    go_wp2_with fail
    refine (H4 _).mono ?_
    rintro e w4 ⟨rfl, hb4⟩
    clear x0 x1
    have HB4 : Hid (Below w.heap.size w w4) := Below.on HB3.out hb4
    have HK4 : Hid (w4.heap[w.heap.size]? = some (.cells #[.string s, .int .i64 a] 37)) := (hb4.block _ HL3.out).trans HK3.out
    have HL4 : Hid (w.heap.size < w4.heap.size) := Nat.lt_of_lt_of_le HL3.out hb4.size
    obtain ⟨x0, x1, _, _⟩ := two_cells HK4.out
    clear hb4
    go_wp2_with fail
    go_ret
    exact ⟨HF.out _ HR.out.symm, HB4.out⟩
  cases d5
  rotate_left
  · have HR : Hid (resvB xs a = true) := by show _ = _; rw [HR.out]; simp
    go_enter Tryz.func17, Tryz.ntmps17
    go_wp2_with fail
    refine (H0 _).mono ?_
    rintro e w0 ⟨rfl, hb0⟩
    have HB0 : Hid (Below w.heap.size w w0) := Below.on HBA.out hb0
    have HK0 : Hid (w0.heap[w.heap.size]? = some (.cells #[.string s, .int .i64 a] 37)) := (hb0.block _ (show w.heap.size < _ by simp)).trans HNW.out
    have HL0 : Hid (w.heap.size < w0.heap.size) := Nat.lt_of_lt_of_le (show w.heap.size < _ by simp) hb0.size
    obtain ⟨x0, x1, _, _⟩ := two_cells HK0.out
    clear hb0
    go_wp2_with fail
    refine (H1 _).mono ?_
    rintro e w0' ⟨rfl, hw0⟩
    subst hw0
    clear x0 x1
    obtain ⟨x0, x1, _, _⟩ := two_cells HK0.out
    go_wp2_with fail
    refine (H2 _).mono ?_
    rintro e w2 ⟨rfl, hb2⟩
    clear x0 x1
    have HB2 : Hid (Below w.heap.size w w2) := Below.on HB0.out hb2
    have HK2 : Hid (w2.heap[w.heap.size]? = some (.cells #[.string s, .int .i64 a] 37)) := (hb2.block _ HL0.out).trans HK0.out
    have HL2 : Hid (w.heap.size < w2.heap.size) := Nat.lt_of_lt_of_le HL0.out hb2.size
    obtain ⟨x0, x1, _, _⟩ := two_cells HK2.out
    clear hb2
    go_wp2_with fail
    refine (H3 _).mono ?_
    rintro e w3 ⟨rfl, hb3⟩
    clear x0 x1
    have HB3 : Hid (Below w.heap.size w w3) := Below.on HB2.out hb3
    have HK3 : Hid (w3.heap[w.heap.size]? = some (.cells #[.string s, .int .i64 a] 37)) := (hb3.block _ HL2.out).trans HK2.out
    have HL3 : Hid (w.heap.size < w3.heap.size) := Nat.lt_of_lt_of_le HL2.out hb3.size
    obtain ⟨x0, x1, _, _⟩ := two_cells HK3.out
    clear hb3
    go_wp2_with fail
    refine (H4 _).mono ?_
    rintro e w4 ⟨rfl, hb4⟩
    clear x0 x1
    have HB4 : Hid (Below w.heap.size w w4) := Below.on HB3.out hb4
    have HK4 : Hid (w4.heap[w.heap.size]? = some (.cells #[.string s, .int .i64 a] 37)) := (hb4.block _ HL3.out).trans HK3.out
    have HL4 : Hid (w.heap.size < w4.heap.size) := Nat.lt_of_lt_of_le HL3.out hb4.size
    obtain ⟨x0, x1, _, _⟩ := two_cells HK4.out
    clear hb4
    obtain ⟨w5, cap5, hcv5, hb5, HI⟩ := HCV.out w4
    have HB5 : Hid (Below w.heap.size w w5) := Below.on HB4.out hb5
    have y1 := (hb5.cell (p := ⟨w.heap.size, 1, none⟩) HL4.out).trans x1
    clear hb5
    go_wp2_with fail
    refine HI.mono ?_
    rintro e w6 ⟨rfl, hb6⟩
    have HB6 : Hid (Below w.heap.size w w6) := Below.on HB5.out hb6
    clear hb6 HI
    go_wp2_with fail
    go_ret
    exact ⟨HF.out _ HR.out.symm, HB6.out⟩
  have HR : Hid (resvB xs a = false) := by show _ = _; rw [HR.out]; rfl
  go_enter Tryz.func17, Tryz.ntmps17
  go_wp2_with fail
  refine (H0 _).mono ?_
  rintro e w0 ⟨rfl, hb0⟩
  have HB0 : Hid (Below w.heap.size w w0) := Below.on HBA.out hb0
  have HK0 : Hid (w0.heap[w.heap.size]? = some (.cells #[.string s, .int .i64 a] 37)) := (hb0.block _ (show w.heap.size < _ by simp)).trans HNW.out
  have HL0 : Hid (w.heap.size < w0.heap.size) := Nat.lt_of_lt_of_le (show w.heap.size < _ by simp) hb0.size
  obtain ⟨x0, x1, _, _⟩ := two_cells HK0.out
  clear hb0
  go_wp2_with fail
  refine (H1 _).mono ?_
  rintro e w0' ⟨rfl, hw0⟩
  subst hw0
  clear x0 x1
  obtain ⟨x0, x1, _, _⟩ := two_cells HK0.out
  go_wp2_with fail
  refine (H2 _).mono ?_
  rintro e w2 ⟨rfl, hb2⟩
  clear x0 x1
  have HB2 : Hid (Below w.heap.size w w2) := Below.on HB0.out hb2
  have HK2 : Hid (w2.heap[w.heap.size]? = some (.cells #[.string s, .int .i64 a] 37)) := (hb2.block _ HL0.out).trans HK0.out
  have HL2 : Hid (w.heap.size < w2.heap.size) := Nat.lt_of_lt_of_le HL0.out hb2.size
  obtain ⟨x0, x1, _, _⟩ := two_cells HK2.out
  clear hb2
  go_wp2_with fail
  refine (H3 _).mono ?_
  rintro e w3 ⟨rfl, hb3⟩
  clear x0 x1
  have HB3 : Hid (Below w.heap.size w w3) := Below.on HB2.out hb3
  have HK3 : Hid (w3.heap[w.heap.size]? = some (.cells #[.string s, .int .i64 a] 37)) := (hb3.block _ HL2.out).trans HK2.out
  have HL3 : Hid (w.heap.size < w3.heap.size) := Nat.lt_of_lt_of_le HL2.out hb3.size
  obtain ⟨x0, x1, _, _⟩ := two_cells HK3.out
  clear hb3
  go_wp2_with fail
  refine (H4 _).mono ?_
  rintro e w4 ⟨rfl, hb4⟩
  clear x0 x1
  have HB4 : Hid (Below w.heap.size w w4) := Below.on HB3.out hb4
  have HK4 : Hid (w4.heap[w.heap.size]? = some (.cells #[.string s, .int .i64 a] 37)) := (hb4.block _ HL3.out).trans HK3.out
  have HL4 : Hid (w.heap.size < w4.heap.size) := Nat.lt_of_lt_of_le HL3.out hb4.size
  obtain ⟨x0, x1, _, _⟩ := two_cells HK4.out
  clear hb4
  obtain ⟨w5, cap5, hcv5, hb5, HI⟩ := HCV.out w4
  have HB5 : Hid (Below w.heap.size w w5) := Below.on HB4.out hb5
  have y1 := (hb5.cell (p := ⟨w.heap.size, 1, none⟩) HL4.out).trans x1
  clear hb5
  go_wp2_with fail
  refine HI.mono ?_
  rintro e w6 ⟨rfl, hb6⟩
  have HB6 : Hid (Below w.heap.size w w6) := Below.on HB5.out hb6
  clear hb6 HI
  go_wp2_with fail
  go_ret
  exact ⟨HF.out _ HR.out.symm, HB6.out⟩

theorem implIsRes_any (p : Option Addr) (cap : Nat) (xs : List Int) (a : Int) (w : World) (hn : xs.length ≤ 1048576) (hb : Byte xs) (hin : BIn w p xs) (ha : (Lit.int .i64 a).wf = true) :
    Calls Tryz.prog 10 #[.slice p xs.length cap, .int .i64 a] w fun e w' => e = .returned (.bool (resvB xs a)) ∧ Below w.heap.size w w' := by
  have hcv := conv_str hin xs.length cap rfl 9 Tryz.underlying9
  have H := isResF_any xs hb hn a ha w
  obtain ⟨s, es⟩ : ∃ s, s = strOfNums xs := ⟨_, rfl⟩
  obtain ⟨L, eL⟩ : ∃ L, L = xs.length := ⟨_, rfl⟩
  rw [← es] at hcv H
  rw [← eL] at hcv ⊢
  clear hn hb hin ha es eL
  go_enter Tryz.func10, Tryz.ntmps10
  go_wp2_with fail
  refine H.mono ?_
  rintro e w1 ⟨rfl, hb1⟩
  have HB : Hid (Below w.heap.size w w1) := hb1
  clear hb1 H
  go_wp2_with fail
  go_ret
  exact ⟨rfl, HB.out⟩

end Go.Proofs.YtgedoflkkkpdeaaGreatDoor
