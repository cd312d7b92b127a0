/- isOp; what a table is. Own work of the verifier. -/
import Derived.Test.YtbfhpnacoigfkaaOpsV2
namespace Go.Proofs.Ytbfhpnacoigfkaa
open Go Go.RowKit
set_option linter.unusedVariables false

/-- What is asked of one operator. -/
def okB (k n : Int) (s : ByteArray) (m : Nat) : Bool := decide (1 ≤ m ∧ m ≤ 100) && (decide (0 ≤ n ∧ n ≤ 6) && (decide (1 ≤ k ∧ k ≤ 1200) && (if s.toList == [44] then (k == 1000 && n == 1) else !resB s)))

set_option maxRecDepth 100000 in
theorem isOp_any (k n : Int) (p : Option Addr) (m cap : Nat) (xs : List Int) (w : World) (hm : m = xs.length) (hb : m ≤ 1000000000) (hx : BIn w p xs) :
    Calls Try.prog 21 #[.agg #[.slice p m cap, .int .i64 k, .int .i64 n]] w fun e w' => e = .returned (.bool (okB k n (strOfNums xs) m)) ∧ Below w.heap.size w w' := by
  have hB : Below w.heap.size w (w.alloc (Obj.cells #[.slice p m cap, .int .i64 k, .int .i64 n] 40)) := (Below.refl _ _).alloc (Nat.le_refl _) _
  have cv := conv_str (hx.below hB) m cap hm 9 Try.underlying9
  have HB : Hid _ := hB
  have HN := isOpName_any p m cap (w.alloc (Obj.cells #[.slice p m cap, .int .i64 k, .int .i64 n] 40)) hb
  have HT := isOpType_any n (w.alloc (Obj.cells #[.slice p m cap, .int .i64 k, .int .i64 n] 40))
  clear hx hm hb hB
  generalize strOfNums xs = s at cv ⊢
  have HR := isReserved_any s (w.alloc (Obj.cells #[.slice p m cap, .int .i64 k, .int .i64 n] 40))
  have HE : Hid (okB k n s m = (decide (1 ≤ m ∧ m ≤ 100) && (decide (0 ≤ n ∧ n ≤ 6) && (decide (1 ≤ k ∧ k ≤ 1200) && (if s.toList == [44] then (k == 1000 && n == 1) else !resB s))))) := rfl
  generalize resB s = r at HR HE
  generalize decide (1 ≤ m ∧ m ≤ 100) = b1 at HN HE
  generalize decide (0 ≤ n ∧ n ≤ 6) = b2 at HT HE
  have HF : Hid (∀ b, b = okB k n s m → Ending.returned (.bool b) = .returned (.bool (okB k n s m))) := fun b h => ret_bool h
  cases b1 with
  | false =>
    have HQ : Hid (okB k n s m = false) := by show _ = _; rw [HE.out]; rfl
    go_enter Try.func21, Try.ntmps21
    go_wp2_with (first | (go_at_call 34; refine HN.mono ?_; rintro e w' ⟨rfl, rfl⟩) | (go_at_call 35; refine HT.mono ?_; rintro e w' ⟨rfl, rfl⟩) | (go_at_call 36; refine HR.mono ?_; rintro e w' ⟨rfl, rfl⟩))
    go_ret
    exact ⟨HF.out _ HQ.out.symm, HB.out⟩
  | true =>
    cases b2 with
    | false =>
      have HQ : Hid (okB k n s m = false) := by show _ = _; rw [HE.out]; rfl
      go_enter Try.func21, Try.ntmps21
      go_wp2_with (first | (go_at_call 34; refine HN.mono ?_; rintro e w' ⟨rfl, rfl⟩) | (go_at_call 35; refine HT.mono ?_; rintro e w' ⟨rfl, rfl⟩) | (go_at_call 36; refine HR.mono ?_; rintro e w' ⟨rfl, rfl⟩))
      go_ret
      exact ⟨HF.out _ HQ.out.symm, HB.out⟩
    | true =>
      by_cases h3 : k < 1
      · have h3' : decide (1 ≤ k ∧ k ≤ 1200) = false := by simp; omega
        have HQ : Hid (okB k n s m = false) := by show _ = _; rw [HE.out]; rw [h3']; rfl
        go_enter Try.func21, Try.ntmps21
        go_wp2_with (first | (go_at_call 34; refine HN.mono ?_; rintro e w' ⟨rfl, rfl⟩) | (go_at_call 35; refine HT.mono ?_; rintro e w' ⟨rfl, rfl⟩) | (go_at_call 36; refine HR.mono ?_; rintro e w' ⟨rfl, rfl⟩))
        go_ret
        exact ⟨HF.out _ HQ.out.symm, HB.out⟩
      · by_cases h4 : 1200 < k
        · have h4' : decide (1 ≤ k ∧ k ≤ 1200) = false := by simp; omega
          have HQ : Hid (okB k n s m = false) := by show _ = _; rw [HE.out]; rw [h4']; rfl
          go_enter Try.func21, Try.ntmps21
          go_wp2_with (first | (go_at_call 34; refine HN.mono ?_; rintro e w' ⟨rfl, rfl⟩) | (go_at_call 35; refine HT.mono ?_; rintro e w' ⟨rfl, rfl⟩) | (go_at_call 36; refine HR.mono ?_; rintro e w' ⟨rfl, rfl⟩))
          go_ret
          exact ⟨HF.out _ HQ.out.symm, HB.out⟩
        · have h4' : decide (1 ≤ k ∧ k ≤ 1200) = true := by simp; omega
          have HE4 : Hid _ := h4'
          clear h4'
          cases h5 : (s.toList == [44]) with
          | false =>
            have HQ : Hid (okB k n s m = !r) := by show _ = _; rw [HE.out]; rw [HE4.out, h5]; simp
            go_enter Try.func21, Try.ntmps21
            go_wp2_with (first | (go_at_call 34; refine HN.mono ?_; rintro e w' ⟨rfl, rfl⟩) | (go_at_call 35; refine HT.mono ?_; rintro e w' ⟨rfl, rfl⟩) | (go_at_call 36; refine HR.mono ?_; rintro e w' ⟨rfl, rfl⟩))
            go_ret
            exact ⟨HF.out _ HQ.out.symm, HB.out⟩
          | true =>
            cases h6 : (k == 1000) with
            | false =>
              have HQ : Hid (okB k n s m = false) := by show _ = _; rw [HE.out]; rw [HE4.out, h5, h6]; simp
              go_enter Try.func21, Try.ntmps21
              go_wp2_with (first | (go_at_call 34; refine HN.mono ?_; rintro e w' ⟨rfl, rfl⟩) | (go_at_call 35; refine HT.mono ?_; rintro e w' ⟨rfl, rfl⟩) | (go_at_call 36; refine HR.mono ?_; rintro e w' ⟨rfl, rfl⟩))
              go_ret
              exact ⟨HF.out _ HQ.out.symm, HB.out⟩
            | true =>
              cases h7 : (n == 1) with
              | false =>
                have HQ : Hid (okB k n s m = false) := by show _ = _; rw [HE.out]; rw [HE4.out, h5, h6, h7]; simp
                go_enter Try.func21, Try.ntmps21
                go_wp2_with (first | (go_at_call 34; refine HN.mono ?_; rintro e w' ⟨rfl, rfl⟩) | (go_at_call 35; refine HT.mono ?_; rintro e w' ⟨rfl, rfl⟩) | (go_at_call 36; refine HR.mono ?_; rintro e w' ⟨rfl, rfl⟩))
                go_ret
                exact ⟨HF.out _ HQ.out.symm, HB.out⟩
              | true =>
                have HQ : Hid (okB k n s m = true) := by show _ = _; rw [HE.out]; rw [HE4.out, h5, h6, h7]; simp
                go_enter Try.func21, Try.ntmps21
                go_wp2_with (first | (go_at_call 34; refine HN.mono ?_; rintro e w' ⟨rfl, rfl⟩) | (go_at_call 35; refine HT.mono ?_; rintro e w' ⟨rfl, rfl⟩) | (go_at_call 36; refine HR.mono ?_; rintro e w' ⟨rfl, rfl⟩))
                go_ret
                exact ⟨HF.out _ HQ.out.symm, HB.out⟩

/-- One operator right before another. -/
def ltO (a b : Cel) : Bool := decide (opCmp a b < 0)
def okC (c : Cel) : Bool := okB c.1 c.2.1 (strOfNums c.2.2) c.2.2.length
def comC (c : Cel) : Bool := (strOfNums c.2.2).toList == [44]
/-- From an operator on: all are well, each right behind the one before. -/
def chainO : Option Cel → List Cel → Bool
  | _, [] => true
  | a, c :: r => okC c && (match a with | none => true | some x => ltO x c) && chainO (some c) r
def tabB (cs : List Cel) : Bool := decide (cs.length ≤ 200) && (chainO none cs && cs.any comC)
def befO (cs : List Cel) (k : Nat) : Option Cel := if k = 0 then none else some (cs.getD (k - 1) Cel.none)
theorem chainO_at (cs : List Cel) (k : Nat) (h : k < cs.length) : chainO (befO cs k) (cs.drop k) = (okC (cs.getD k Cel.none) && (match befO cs k with | none => true | some x => ltO x (cs.getD k Cel.none)) && chainO (befO cs (k + 1)) (cs.drop (k + 1))) := by
  have e : befO cs (k + 1) = some (cs.getD k Cel.none) := by simp [befO]
  rw [drop_at cs k h, e]
  generalize befO cs k = a
  cases a <;> rfl
theorem opCmp_lt (x y : Cel) : opCmp x y < 0 ↔ Op.bytesLess (strOfNums x.2.2).toList (strOfNums y.2.2).toList = true ∨ ((strOfNums x.2.2).toList = (strOfNums y.2.2).toList ∧ srt x.2.1 < srt y.2.1) := by
  unfold opCmp orI cmpI cmpS
  cases h1 : Op.bytesLess (strOfNums x.2.2).toList (strOfNums y.2.2).toList with
  | true => simp
  | false =>
    by_cases e : (strOfNums x.2.2).toList = (strOfNums y.2.2).toList
    · simp only [e]
      simp
      split
      · simp; omega
      · split <;> simp <;> omega
    · simp [e]
theorem ltO_trans {x y z : Cel} (h1 : ltO x y = true) (h2 : ltO y z = true) : ltO x z = true := by
  simp only [ltO, decide_eq_true_eq, opCmp_lt] at *
  rcases h1 with h1 | ⟨h1, h1'⟩ <;> rcases h2 with h2 | ⟨h2, h2'⟩
  · exact .inl (bl_trans _ _ _ h1 h2)
  · exact .inl (h2 ▸ h1)
  · exact .inl (h1 ▸ h2)
  · exact .inr ⟨h1.trans h2, by omega⟩
/-- A comma is never a prefix operator. -/
theorem com_srt {c : Cel} (h : okC c = true) (hc : comC c = true) : srt c.2.1 = 1 := by
  simp only [okC, okB, Bool.and_eq_true] at h
  rw [comC] at hc
  rw [if_pos hc] at h
  simp only [Bool.and_eq_true, beq_iff_eq] at h
  rw [h.2.2.2.2]; decide
theorem com_not_lt {x y : Cel} (hx : okC x = true) (hy : okC y = true) (cx : comC x = true) (cy : comC y = true) : ltO x y = false := by
  rw [ltO, decide_eq_false_iff_not, opCmp_lt]
  have ex : (strOfNums x.2.2).toList = [44] := by simpa [comC] using cx
  have ey : (strOfNums y.2.2).toList = [44] := by simpa [comC] using cy
  rw [ex, ey, bl_irrefl, com_srt hx cx, com_srt hy cy]
  simp
/-- All behind the first are behind it. -/
theorem chainO_all : ∀ (cs : List Cel) (a : Cel), chainO (some a) cs = true → ∀ c ∈ cs, ltO a c = true ∧ okC c = true
  | [], a, _, c, hc => by cases hc
  | x :: r, a, h, c, hc => by
    simp only [chainO, Bool.and_eq_true] at h
    rcases List.mem_cons.1 hc with rfl | hc
    · exact ⟨h.1.2, h.1.1⟩
    · have := chainO_all r x h.2 c hc
      exact ⟨ltO_trans h.1.2 this.1, this.2⟩
theorem com_count : ∀ (cs : List Cel) (a : Option Cel), chainO a cs = true → cs.countP comC = if cs.any comC then 1 else 0
  | [], _, _ => rfl
  | x :: r, a, h => by
    simp only [chainO, Bool.and_eq_true] at h
    have ih := com_count r (some x) h.2
    rw [List.countP_cons, ih]
    cases hx : comC x with
    | false => rw [List.any_cons, hx]; cases r.any comC <;> simp
    | true =>
      have : r.any comC = false := by
        rw [List.any_eq_false]
        intro c hc hcc
        have := chainO_all r x h.2 c hc
        rw [com_not_lt h.1.1 this.2 hx hcc] at this
        cases this.1
      rw [List.any_cons, hx, this]; simp

end Go.Proofs.Ytbfhpnacoigfkaa
