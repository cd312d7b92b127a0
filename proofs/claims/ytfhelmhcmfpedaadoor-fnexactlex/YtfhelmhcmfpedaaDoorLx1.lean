/- Lex of the specification: l1hex, l1raw, l1blank, l1escape. Own work of the verifier. -/
import Derived.Test.YtfhelmhcmfpedaaDoorScan9
namespace Go.Proofs.YtfhelmhcmfpedaaDoor
open Go Go.RowKit
set_option linter.unusedVariables false

def hexS (c : Int) : Int := if 48 ≤ c ∧ c ≤ 57 then c - 48 else if 97 ≤ c ∧ c ≤ 102 then c - 87 else if 65 ≤ c ∧ c ≤ 70 then c - 55 else 99
theorem hex_dig (c : Int) {base : Int} (h : base ≤ 16) : hexS c < base ↔ digI c < base := by unfold hexS digI; repeat' split <;> omega
theorem hex_same {c : Int} (h : digI c < 16) : hexS c = digI c := by unfold hexS; unfold digI at h ⊢; repeat' split <;> first | rfl | omega
theorem hexS_rng {c : Int} (h0 : 0 ≤ c) (h1 : c < 256) : 0 ≤ hexS c ∧ hexS c ≤ 99 := by unfold hexS; repeat' split <;> omega
theorem hex_any (c : Int) (w : World) (h0 : 0 ≤ c) (h1 : c < 256) : Calls Tryd.prog 45 #[.int .u8 c] w fun e w' => e = .returned (.int .i64 (hexS c)) ∧ w' = w := by
  by_cases a : 48 ≤ c ∧ c ≤ 57
  · have hd : digitB c = true := by simp [digitB, a]
    have HE : Hid (hexS c = c - 48) := by show _ = _; rw [hexS, if_pos a]
    obtain ⟨a0, a1⟩ := a
    go_enter Tryd.func45, Tryd.ntmps45
    go_wp2_with (go_at_call 38; refine (digit_any c _ h0 h1).mono ?_; rintro e w' ⟨rfl, rfl⟩)
    go_ret
    exact ⟨ret_int HE.out.symm, rfl⟩
  have hd : digitB c = false := by simp [digitB]; omega
  by_cases a2 : 97 ≤ c
  · by_cases a3 : c ≤ 102
    · have HE : Hid (hexS c = c - 87) := by show _ = _; rw [hexS, if_neg a, if_pos ⟨a2, a3⟩]
      clear a
      go_enter Tryd.func45, Tryd.ntmps45
      go_wp2_with (go_at_call 38; refine (digit_any c _ h0 h1).mono ?_; rintro e w' ⟨rfl, rfl⟩)
      go_ret
      exact ⟨ret_int (by rw [HE.out]; omega), rfl⟩
    · have HE : Hid (hexS c = 99) := by show _ = _; rw [hexS, if_neg a, if_neg (by omega), if_neg (by omega)]
      have a4 : ¬ c ≤ 70 := by omega
      have a5 : 65 ≤ c := by omega
      clear a
      go_enter Tryd.func45, Tryd.ntmps45
      go_wp2_with (go_at_call 38; refine (digit_any c _ h0 h1).mono ?_; rintro e w' ⟨rfl, rfl⟩)
      go_ret
      exact ⟨ret_int HE.out.symm, rfl⟩
  · by_cases a4 : 65 ≤ c
    · by_cases a5 : c ≤ 70
      · have HE : Hid (hexS c = c - 55) := by show _ = _; rw [hexS, if_neg a, if_neg (by omega), if_pos ⟨a4, a5⟩]
        clear a
        go_enter Tryd.func45, Tryd.ntmps45
        go_wp2_with (go_at_call 38; refine (digit_any c _ h0 h1).mono ?_; rintro e w' ⟨rfl, rfl⟩)
        go_ret
        exact ⟨ret_int (by rw [HE.out]; omega), rfl⟩
      · have HE : Hid (hexS c = 99) := by show _ = _; rw [hexS, if_neg a, if_neg (by omega), if_neg (by omega)]
        clear a
        go_enter Tryd.func45, Tryd.ntmps45
        go_wp2_with (go_at_call 38; refine (digit_any c _ h0 h1).mono ?_; rintro e w' ⟨rfl, rfl⟩)
        go_ret
        exact ⟨ret_int HE.out.symm, rfl⟩
    · have HE : Hid (hexS c = 99) := by show _ = _; rw [hexS, if_neg a, if_neg (by omega), if_neg (by omega)]
      clear a
      go_enter Tryd.func45, Tryd.ntmps45
      go_wp2_with (go_at_call 38; refine (digit_any c _ h0 h1).mono ?_; rintro e w' ⟨rfl, rfl⟩)
      go_ret
      exact ⟨ret_int HE.out.symm, rfl⟩
def rawB (c : Int) : Bool := decide (32 ≤ c ∧ c ≠ 127)
theorem raw_any (c : Int) (w : World) (h0 : 0 ≤ c) (h1 : c < 256) : Calls Tryd.prog 47 #[.int .u8 c] w fun e w' => e = .returned (.bool (rawB c)) ∧ w' = w := by
  by_cases a : 32 ≤ c
  · by_cases b : c = 127
    · subst b
      go_enter Tryd.func47, Tryd.ntmps47
      go_wp2
      go_ret
      exact ⟨by simp [rawB], rfl⟩
    · have b' : (c != 127) = true := by simpa using b
      have HE : Hid (rawB c = true) := by show _ = _; simp [rawB, a, b]
      go_enter Tryd.func47, Tryd.ntmps47
      go_wp2
      go_ret
      exact ⟨ret_bool HE.out.symm, rfl⟩
  · have HE : Hid (rawB c = false) := by show _ = _; simp [rawB, a]
    go_enter Tryd.func47, Tryd.ntmps47
    go_wp2
    go_ret
    exact ⟨ret_bool HE.out.symm, rfl⟩
def blankB (c : Int) : Bool := c == 32 || c == 9 || c == 10 || c == 13
theorem blank_any (c : Int) (w : World) (h0 : 0 ≤ c) (h1 : c < 256) : Calls Tryd.prog 37 #[.int .u8 c] w fun e w' => e = .returned (.bool (blankB c)) ∧ w' = w := by
  cases a : (c == 32) <;> cases b : (c == 9) <;> cases d : (c == 10) <;> cases f : (c == 13)
  all_goals
    have HE : Hid (blankB c = (c == 32 || c == 9 || c == 10 || c == 13)) := rfl
    rw [a, b, d, f] at HE
    go_enter Tryd.func37, Tryd.ntmps37
    go_wp2
    go_ret
    exact ⟨ret_bool HE.out.symm, rfl⟩

/-- What stands behind a backslash at i, and how many bytes it took. -/
def escS (xs : List Int) (i : Nat) : List Int × Nat :=
  if byteI xs (i + 1) = 10 then ([], 1) else match escI xs i with
    | none => ([], 0)
    | some (v, j) => ([v], j - (i + 1))
/-- A literal of one byte. -/
theorem one_byte (W : World) (x : Int) : OwnS (W.alloc (.cells #[.int .u8 x] 5)) W.heap.size (some ⟨W.heap.size, 0, none⟩) 1 1 [x] :=
  ⟨rfl, ⟨rfl, .inr ⟨W.heap.size, 1, #[.int .u8 x], rfl, Nat.le_refl _, heap_alloc_new _ _, Nat.le_refl _, by decide, rfl, rfl⟩⟩⟩
theorem no_bytes (W : World) (B : Nat) : OwnS W B none 0 0 [] := ⟨rfl, World.ownsRow_nil _ _ _ _⟩
def EscOut (w : World) (r : List Int × Nat) (e : Ending) (w' : World) : Prop := ∃ p n c, e = .returned (.tuple #[.slice p n c, .int .i64 r.2]) ∧ OwnS w' w.heap.size p n c r.1 ∧ Below w.heap.size w w'
theorem dig_92 : ¬ digI 92 < 16 := by decide
theorem hexI_of {xs : List Int} {a q : Nat} {v : Int} (h : digsB xs 16 xs.length a 0 = (v, q)) : hexI xs a = if q = a ∨ a + 2 < q ∨ byteI xs q ≠ 92 then none else some (v, q + 1) := by simp only [hexI, h]
theorem hexI_cases (xs : List Int) (a : Nat) : hexI xs a =
    if ¬ digI (byteI xs a) < 16 then none
    else if ¬ digI (byteI xs (a + 1)) < 16 then (if byteI xs (a + 1) = 92 then some (digI (byteI xs a), a + 2) else none)
    else if byteI xs (a + 2) = 92 then some (digI (byteI xs a) * 16 + digI (byteI xs (a + 1)), a + 3) else none := by
  have r0 := digI_rng (byteI xs a)
  have r1 := digI_rng (byteI xs (a + 1))
  by_cases h0 : digI (byteI xs a) < 16
  · have e1 : min ((0 : Int) * 16 + digI (byteI xs a)) 1000000000000001 = digI (byteI xs a) := by omega
    have s1 := digs_step xs 16 (by decide) a 0 h0
    rw [e1] at s1
    by_cases h1 : digI (byteI xs (a + 1)) < 16
    · have e2 : min (digI (byteI xs a) * 16 + digI (byteI xs (a + 1))) 1000000000000001 = digI (byteI xs a) * 16 + digI (byteI xs (a + 1)) := by omega
      have s2 := s1.trans (digs_step xs 16 (by decide) (a + 1) _ h1)
      rw [e2] at s2
      by_cases h2 : digI (byteI xs (a + 2)) < 16
      · have s3 := s2.trans (digs_step xs 16 (by decide) (a + 2) _ h2)
        have h3 := digs_ge xs 16 xs.length (a + 2 + 1) (min ((digI (byteI xs a) * 16 + digI (byteI xs (a + 1))) * 16 + digI (byteI xs (a + 2))) 1000000000000001)
        rw [← s3] at h3
        have h4 : ¬ byteI xs (a + 2) = 92 := fun e => by rw [e] at h2; exact dig_92 h2
        rw [hexI_of (xs := xs) (a := a) (q := (digsB xs 16 xs.length a 0).2) (v := (digsB xs 16 xs.length a 0).1) rfl]
        simp only [h0, h1, h4, not_true, if_false]
        rw [if_pos (by omega)]
      · have s3 := s2.trans (digs_stop xs 16 (a + 2) _ h2)
        rw [hexI_of s3]
        simp only [h0, h1, not_true, if_false]
        by_cases h4 : byteI xs (a + 2) = 92
        · rw [if_neg (by omega), if_pos h4]
        · rw [if_pos (.inr (.inr h4)), if_neg h4]
    · have s3 := s1.trans (digs_stop xs 16 (a + 1) _ h1)
      rw [hexI_of s3]
      simp only [h0, h1, not_true, not_false_eq_true, if_false, if_true]
      by_cases h4 : byteI xs (a + 1) = 92
      · rw [if_neg (by omega), if_pos h4]
      · rw [if_pos (.inr (.inr h4)), if_neg h4]
  · rw [hexI_of (digs_stop xs 16 a 0 h0), if_pos h0, if_pos (.inl rfl)]

end Go.Proofs.YtfhelmhcmfpedaaDoor
