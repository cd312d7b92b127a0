/- Texts of OpsV3, OpsP, OpsM1. Own work of the verifier. -/
import Derived.Test.YtgonpnnlpkjkcaaGreatDoorUqak
import Derived.Test.YtgonpnnlpkjkcaaGreatDoorUqai
namespace Go.Proofs.YtgonpnnlpkjkcaaGreatDoor
open Go Go.RowKit
set_option linter.unusedVariables false

/-- What is asked of one operator. -/
def okB (k n : Int) (s : ByteArray) (m : Nat) : Bool := decide (1 ≤ m ∧ m ≤ 100) && (decide (0 ≤ n ∧ n ≤ 6) && (decide (1 ≤ k ∧ k ≤ 1200) && (if s.toList == [44] then (k == 1000 && n == 1) else !resB s)))

set_option maxRecDepth 100000 in
theorem isOp_any (k n : Int) (p : Option Addr) (m cap : Nat) (xs : List Int) (w : World) (hm : m = xs.length) (hb : m ≤ 1000000000) (hx : BIn w p xs) :
    Calls Tryz.prog 45 #[.agg #[.slice p m cap, .int .i64 k, .int .i64 n]] w fun e w' => e = .returned (.bool (okB k n (strOfNums xs) m)) ∧ Below w.heap.size w w' := by
  have hB : Below w.heap.size w (w.alloc (Obj.cells #[.slice p m cap, .int .i64 k, .int .i64 n] 55)) := (Below.refl _ _).alloc (Nat.le_refl _) _
  have cv := conv_str (hx.below hB) m cap hm 9 Tryz.underlying9
  have HB : Hid _ := hB
  have HN := isOpName_any p m cap (w.alloc (Obj.cells #[.slice p m cap, .int .i64 k, .int .i64 n] 55)) hb
  have HT := isOpType_any n (w.alloc (Obj.cells #[.slice p m cap, .int .i64 k, .int .i64 n] 55))
  clear hx hm hb hB
  generalize strOfNums xs = s at cv ⊢
  have HR := isReserved_any s (w.alloc (Obj.cells #[.slice p m cap, .int .i64 k, .int .i64 n] 55))
  have HE : Hid (okB k n s m = (decide (1 ≤ m ∧ m ≤ 100) && (decide (0 ≤ n ∧ n ≤ 6) && (decide (1 ≤ k ∧ k ≤ 1200) && (if s.toList == [44] then (k == 1000 && n == 1) else !resB s))))) := rfl
  generalize resB s = r at HR HE
  generalize decide (1 ≤ m ∧ m ≤ 100) = b1 at HN HE
  generalize decide (0 ≤ n ∧ n ≤ 6) = b2 at HT HE
  have HF : Hid (∀ b, b = okB k n s m → Ending.returned (.bool b) = .returned (.bool (okB k n s m))) := fun b h => ret_bool h
  cases b1 with
  | false =>
    have HQ : Hid (okB k n s m = false) := by show _ = _; rw [HE.out]; rfl
    go_enter Tryz.func45, Tryz.ntmps45
    go_wp2_with (first | (go_at_call 67; refine HN.mono ?_; rintro e w' ⟨rfl, rfl⟩) | (go_at_call 68; refine HT.mono ?_; rintro e w' ⟨rfl, rfl⟩) | (go_at_call 69; refine HR.mono ?_; rintro e w' ⟨rfl, rfl⟩))
    go_ret
    exact ⟨HF.out _ HQ.out.symm, HB.out⟩
  | true =>
    cases b2 with
    | false =>
      have HQ : Hid (okB k n s m = false) := by show _ = _; rw [HE.out]; rfl
      go_enter Tryz.func45, Tryz.ntmps45
      go_wp2_with (first | (go_at_call 67; refine HN.mono ?_; rintro e w' ⟨rfl, rfl⟩) | (go_at_call 68; refine HT.mono ?_; rintro e w' ⟨rfl, rfl⟩) | (go_at_call 69; refine HR.mono ?_; rintro e w' ⟨rfl, rfl⟩))
      go_ret
      exact ⟨HF.out _ HQ.out.symm, HB.out⟩
    | true =>
      by_cases h3 : k < 1
      · have h3' : decide (1 ≤ k ∧ k ≤ 1200) = false := by simp; omega
        have HQ : Hid (okB k n s m = false) := by show _ = _; rw [HE.out]; rw [h3']; rfl
        go_enter Tryz.func45, Tryz.ntmps45
        go_wp2_with (first | (go_at_call 67; refine HN.mono ?_; rintro e w' ⟨rfl, rfl⟩) | (go_at_call 68; refine HT.mono ?_; rintro e w' ⟨rfl, rfl⟩) | (go_at_call 69; refine HR.mono ?_; rintro e w' ⟨rfl, rfl⟩))
        go_ret
        exact ⟨HF.out _ HQ.out.symm, HB.out⟩
      · by_cases h4 : 1200 < k
        · have h4' : decide (1 ≤ k ∧ k ≤ 1200) = false := by simp; omega
          have HQ : Hid (okB k n s m = false) := by show _ = _; rw [HE.out]; rw [h4']; rfl
          go_enter Tryz.func45, Tryz.ntmps45
          go_wp2_with (first | (go_at_call 67; refine HN.mono ?_; rintro e w' ⟨rfl, rfl⟩) | (go_at_call 68; refine HT.mono ?_; rintro e w' ⟨rfl, rfl⟩) | (go_at_call 69; refine HR.mono ?_; rintro e w' ⟨rfl, rfl⟩))
          go_ret
          exact ⟨HF.out _ HQ.out.symm, HB.out⟩
        · have h4' : decide (1 ≤ k ∧ k ≤ 1200) = true := by simp; omega
          have HE4 : Hid _ := h4'
          clear h4'
          cases h5 : (s.toList == [44]) with
          | false =>
            have HQ : Hid (okB k n s m = !r) := by show _ = _; rw [HE.out]; rw [HE4.out, h5]; simp
            go_enter Tryz.func45, Tryz.ntmps45
            go_wp2_with (first | (go_at_call 67; refine HN.mono ?_; rintro e w' ⟨rfl, rfl⟩) | (go_at_call 68; refine HT.mono ?_; rintro e w' ⟨rfl, rfl⟩) | (go_at_call 69; refine HR.mono ?_; rintro e w' ⟨rfl, rfl⟩))
            go_ret
            exact ⟨HF.out _ HQ.out.symm, HB.out⟩
          | true =>
            cases h6 : (k == 1000) with
            | false =>
              have HQ : Hid (okB k n s m = false) := by show _ = _; rw [HE.out]; rw [HE4.out, h5, h6]; simp
              go_enter Tryz.func45, Tryz.ntmps45
              go_wp2_with (first | (go_at_call 67; refine HN.mono ?_; rintro e w' ⟨rfl, rfl⟩) | (go_at_call 68; refine HT.mono ?_; rintro e w' ⟨rfl, rfl⟩) | (go_at_call 69; refine HR.mono ?_; rintro e w' ⟨rfl, rfl⟩))
              go_ret
              exact ⟨HF.out _ HQ.out.symm, HB.out⟩
            | true =>
              cases h7 : (n == 1) with
              | false =>
                have HQ : Hid (okB k n s m = false) := by show _ = _; rw [HE.out]; rw [HE4.out, h5, h6, h7]; simp
                go_enter Tryz.func45, Tryz.ntmps45
                go_wp2_with (first | (go_at_call 67; refine HN.mono ?_; rintro e w' ⟨rfl, rfl⟩) | (go_at_call 68; refine HT.mono ?_; rintro e w' ⟨rfl, rfl⟩) | (go_at_call 69; refine HR.mono ?_; rintro e w' ⟨rfl, rfl⟩))
                go_ret
                exact ⟨HF.out _ HQ.out.symm, HB.out⟩
              | true =>
                have HQ : Hid (okB k n s m = true) := by show _ = _; rw [HE.out]; rw [HE4.out, h5, h6, h7]; simp
                go_enter Tryz.func45, Tryz.ntmps45
                go_wp2_with (first | (go_at_call 67; refine HN.mono ?_; rintro e w' ⟨rfl, rfl⟩) | (go_at_call 68; refine HT.mono ?_; rintro e w' ⟨rfl, rfl⟩) | (go_at_call 69; refine HR.mono ?_; rintro e w' ⟨rfl, rfl⟩))
                go_ret
                exact ⟨HF.out _ HQ.out.symm, HB.out⟩

/-- One operator right before another. -/
def ltO (a b : Cel) : Bool := decide (opCmp a b < 0)
def okC (c : Cel) : Bool := okB c.1 c.2.1 (strOfNums c.2.2) c.2.2.length
def comC (c : Cel) : Bool := (strOfNums c.2.2).toList == [44]
/-- From an operator on: all are well, each right behind the one before. -/
def chainO : Option Cel → List Cel → Bool
  | _, [] => true
  | a, c :: r => okC c && (match a with | none => true | some x => ltO x c) && chainO (some c) r
def tabB (cs : List Cel) : Bool := decide (cs.length ≤ 200) && (chainO none cs && cs.any comC)
def befO (cs : List Cel) (k : Nat) : Option Cel := if k = 0 then none else some (cs.getD (k - 1) Cel.none)
theorem chainO_at (cs : List Cel) (k : Nat) (h : k < cs.length) : chainO (befO cs k) (cs.drop k) = (okC (cs.getD k Cel.none) && (match befO cs k with | none => true | some x => ltO x (cs.getD k Cel.none)) && chainO (befO cs (k + 1)) (cs.drop (k + 1))) := by
  have e : befO cs (k + 1) = some (cs.getD k Cel.none) := by simp [befO]
  rw [drop_at cs k h, e]
  generalize befO cs k = a
  cases a <;> rfl
theorem opCmp_lt (x y : Cel) : opCmp x y < 0 ↔ Op.bytesLess (strOfNums x.2.2).toList (strOfNums y.2.2).toList = true ∨ ((strOfNums x.2.2).toList = (strOfNums y.2.2).toList ∧ srt x.2.1 < srt y.2.1) := by
  unfold opCmp orI cmpI cmpS
  cases h1 : Op.bytesLess (strOfNums x.2.2).toList (strOfNums y.2.2).toList with
  | true => simp
  | false =>
    by_cases e : (strOfNums x.2.2).toList = (strOfNums y.2.2).toList
    · simp only [e]
      simp
      split
      · simp; omega
      · split <;> simp <;> omega
    · simp [e]
theorem ltO_trans {x y z : Cel} (h1 : ltO x y = true) (h2 : ltO y z = true) : ltO x z = true := by
  simp only [ltO, decide_eq_true_eq, opCmp_lt] at *
  rcases h1 with h1 | ⟨h1, h1'⟩ <;> rcases h2 with h2 | ⟨h2, h2'⟩
  · exact .inl (bl_trans _ _ _ h1 h2)
  · exact .inl (h2 ▸ h1)
  · exact .inl (h1 ▸ h2)
  · exact .inr ⟨h1.trans h2, by omega⟩
/-- A comma is never a prefix operator. -/
theorem com_srt {c : Cel} (h : okC c = true) (hc : comC c = true) : srt c.2.1 = 1 := by
  simp only [okC, okB, Bool.and_eq_true] at h
  rw [comC] at hc
  rw [if_pos hc] at h
  simp only [Bool.and_eq_true, beq_iff_eq] at h
  rw [h.2.2.2.2]; decide
theorem com_not_lt {x y : Cel} (hx : okC x = true) (hy : okC y = true) (cx : comC x = true) (cy : comC y = true) : ltO x y = false := by
  rw [ltO, decide_eq_false_iff_not, opCmp_lt]
  have ex : (strOfNums x.2.2).toList = [44] := by simpa [comC] using cx
  have ey : (strOfNums y.2.2).toList = [44] := by simpa [comC] using cy
  rw [ex, ey, bl_irrefl, com_srt hx cx, com_srt hy cy]
  simp
/-- All behind the first are behind it. -/
theorem chainO_all : ∀ (cs : List Cel) (a : Cel), chainO (some a) cs = true → ∀ c ∈ cs, ltO a c = true ∧ okC c = true
  | [], a, _, c, hc => by cases hc
  | x :: r, a, h, c, hc => by
    simp only [chainO, Bool.and_eq_true] at h
    rcases List.mem_cons.1 hc with rfl | hc
    · exact ⟨h.1.2, h.1.1⟩
    · have := chainO_all r x h.2 c hc
      exact ⟨ltO_trans h.1.2 this.1, this.2⟩
theorem com_count : ∀ (cs : List Cel) (a : Option Cel), chainO a cs = true → cs.countP comC = if cs.any comC then 1 else 0
  | [], _, _ => rfl
  | x :: r, a, h => by
    simp only [chainO, Bool.and_eq_true] at h
    have ih := com_count r (some x) h.2
    rw [List.countP_cons, ih]
    cases hx : comC x with
    | false => rw [List.any_cons, hx]; cases r.any comC <;> simp
    | true =>
      have : r.any comC = false := by
        rw [List.any_eq_false]
        intro c hc hcc
        have := chainO_all r x h.2 c hc
        rw [com_not_lt h.1.1 this.2 hx hcc] at this
        cases this.1
      rw [List.any_cons, hx, this]; simp

end Go.Proofs.YtgonpnnlpkjkcaaGreatDoor

namespace Go.Proofs.YtgonpnnlpkjkcaaGreatDoor
open Go Go.RowKit
set_option linter.unusedVariables false

/-- What tells operators apart: the name and the sort. -/
def keyC (c : Cel) : List UInt8 × Int := ((strOfNums c.2.2).toList, srt c.2.1)
theorem ltO_iff_key (x y : Cel) : ltO x y = true ↔ Op.bytesLess (keyC x).1 (keyC y).1 = true ∨ ((keyC x).1 = (keyC y).1 ∧ (keyC x).2 < (keyC y).2) := by
  rw [ltO, decide_eq_true_eq, opCmp_lt]; rfl
theorem ltO_irrefl (x : Cel) : ltO x x = false := by
  cases h : ltO x x with
  | false => rfl
  | true => rw [ltO_iff_key, bl_irrefl] at h; simp at h
theorem ltO_asymm {x y : Cel} (h : ltO x y = true) : ltO y x = false := by
  cases h2 : ltO y x with
  | false => rfl
  | true => have := ltO_trans h h2; rw [ltO_irrefl] at this; cases this
theorem ltO_key {x y : Cel} (h : ltO x y = true) : keyC x ≠ keyC y := fun e => by
  rw [ltO_iff_key, e, bl_irrefl] at h; simp at h
theorem srt_two (t : Int) : srt t = 0 ∨ srt t = 1 := by unfold srt; split <;> simp
theorem ltO_tri {x y : Cel} (hk : keyC x ≠ keyC y) (h : ltO x y = false) : ltO y x = true := by
  have h' : ¬ ltO x y = true := by rw [h]; simp
  rw [ltO_iff_key] at h' ⊢
  by_cases e : (keyC x).1 = (keyC y).1
  · refine .inr ⟨e.symm, ?_⟩
    have n : ¬ (keyC x).2 < (keyC y).2 := fun z => h' (.inr ⟨e, z⟩)
    have n2 : (keyC x).2 ≠ (keyC y).2 := fun z => hk (Prod.ext e z)
    omega
  · exact .inl (bl_tri _ _ (by simpa using fun z => h' (.inl z)) e)

/-- An operator put into a table: the one of its key is gone; with done it is not put in. -/
def putL (o : Cel) : Bool → List Cel → List Cel
  | done, [] => if done then [] else [o]
  | done, x :: r => if keyC x = keyC o then putL o done r else if !done && ltO o x then o :: x :: putL o true r else x :: putL o done r
def putO (cs : List Cel) (o : Cel) : List Cel := putL o (o.1 == 0) cs

theorem putL_done (o : Cel) : ∀ cs : List Cel, putL o true cs = cs.filter (fun x => decide (keyC x ≠ keyC o))
  | [] => rfl
  | x :: r => by
    rw [putL, putL_done o r, List.filter_cons]
    by_cases e : keyC x = keyC o <;> simp [e]
theorem putL_mem (o : Cel) : ∀ (cs : List Cel) (x : Cel), x ∈ putL o false cs ↔ x = o ∨ (x ∈ cs ∧ keyC x ≠ keyC o)
  | [], x => by simp [putL]
  | y :: r, x => by
    have ih := putL_mem o r x
    rw [putL]
    by_cases e : keyC y = keyC o
    · rw [if_pos e, ih, List.mem_cons]
      constructor
      · rintro (h | h)
        · exact .inl h
        · exact .inr ⟨.inr h.1, h.2⟩
      · rintro (h | ⟨h | h, h2⟩)
        · exact .inl h
        · exact absurd (h ▸ e) h2
        · exact .inr ⟨h, h2⟩
    · rw [if_neg e]
      by_cases l : ltO o y = true
      · rw [if_pos (by simp [l]), putL_done]
        simp only [List.mem_cons, List.mem_filter, decide_eq_true_eq]
        constructor
        · rintro (h | h | h)
          · exact .inl h
          · exact .inr ⟨.inl h, by rw [h]; exact e⟩
          · exact .inr ⟨.inr h.1, h.2⟩
        · rintro (h | ⟨h | h, h2⟩)
          · exact .inl h
          · exact .inr (.inl h)
          · exact .inr (.inr ⟨h, h2⟩)
      · rw [if_neg (by simp [l]), List.mem_cons, ih, List.mem_cons]
        constructor
        · rintro (h | h | h)
          · exact .inr ⟨.inl h, by rw [h]; exact e⟩
          · exact .inl h
          · exact .inr ⟨.inr h.1, h.2⟩
        · rintro (h | ⟨h | h, h2⟩)
          · exact .inr (.inl h)
          · exact .inl h
          · exact .inr (.inr ⟨h, h2⟩)

def Asc (cs : List Cel) : Prop := cs.Pairwise (fun x y => ltO x y = true)
theorem chain_asc : ∀ (cs : List Cel) (a : Option Cel), chainO a cs = true → Asc cs
  | [], _, _ => List.Pairwise.nil
  | x :: r, a, h => by
    simp only [chainO, Bool.and_eq_true] at h
    exact List.Pairwise.cons (fun y hy => (chainO_all r x h.2 y hy).1) (chain_asc r (some x) h.2)
theorem Asc.filter {cs : List Cel} (h : Asc cs) (p : Cel → Bool) : Asc (cs.filter p) := List.Pairwise.filter p h
theorem putL_asc (o : Cel) : ∀ cs : List Cel, Asc cs → Asc (putL o false cs)
  | [], _ => by simp [putL, Asc]
  | y :: r, h => by
    have h1 := List.pairwise_cons.1 h
    have ih := putL_asc o r h1.2
    rw [putL]
    by_cases e : keyC y = keyC o
    · rw [if_pos e]; exact ih
    · rw [if_neg e]
      by_cases l : ltO o y = true
      · rw [if_pos (by simp [l]), putL_done]
        refine List.Pairwise.cons (fun z hz => ?_) (List.Pairwise.cons (fun z hz => h1.1 z (List.mem_filter.1 hz).1) (h1.2.filter _))
        rcases List.mem_cons.1 hz with rfl | hz
        · exact l
        · exact ltO_trans l (h1.1 z (List.mem_filter.1 hz).1)
      · rw [if_neg (by simp [l])]
        refine List.Pairwise.cons (fun z hz => ?_) ih
        rcases (putL_mem o r z).1 hz with rfl | hz
        · exact ltO_tri (fun x => e x.symm) (by simpa using l)
        · exact h1.1 z hz.1
/-- Two ascending lists with the same members are one. -/
theorem asc_unique : ∀ (a b : List Cel), Asc a → Asc b → (∀ x, x ∈ a ↔ x ∈ b) → a = b
  | [], [], _, _, _ => rfl
  | [], y :: s, _, _, h => by have := (h y).2 (List.mem_cons_self ..); cases this
  | x :: r, [], _, _, h => by have := (h x).1 (List.mem_cons_self ..); cases this
  | x :: r, y :: s, ha, hb, h => by
    have h1 := List.pairwise_cons.1 ha
    have h2 := List.pairwise_cons.1 hb
    have e : x = y := by
      rcases List.mem_cons.1 ((h x).1 (List.mem_cons_self ..)) with h3 | h3
      · exact h3
      · rcases List.mem_cons.1 ((h y).2 (List.mem_cons_self ..)) with h4 | h4
        · exact h4.symm
        · have := ltO_asymm (h1.1 y h4)
          rw [h2.1 x h3] at this
          cases this
    subst e
    rw [asc_unique r s h1.2 h2.2 (fun z => ?_)]
    constructor
    · intro hz
      rcases List.mem_cons.1 ((h z).1 (List.mem_cons_of_mem _ hz)) with h3 | h3
      · subst h3; have := h1.1 z hz; rw [ltO_irrefl] at this; cases this
      · exact h3
    · intro hz
      rcases List.mem_cons.1 ((h z).2 (List.mem_cons_of_mem _ hz)) with h3 | h3
      · subst h3; have := h2.1 z hz; rw [ltO_irrefl] at this; cases this
      · exact h3
theorem asc_keys {cs : List Cel} (h : Asc cs) : ∀ x ∈ cs, ∀ y ∈ cs, keyC x = keyC y → x = y := by
  induction cs with
  | nil => intro x hx; cases hx
  | cons a r ih =>
    have h1 := List.pairwise_cons.1 h
    intro x hx y hy e
    rcases List.mem_cons.1 hx with hx' | hx' <;> rcases List.mem_cons.1 hy with hy' | hy'
    · rw [hx', hy']
    · rw [hx'] at e; exact absurd e (ltO_key (h1.1 y hy'))
    · rw [hy'] at e; exact absurd e.symm (ltO_key (h1.1 x hx'))
    · exact ih h1.2 x hx' y hy' e
/-- The one of a key, if there is one. -/
def findK (cs : List Cel) (k : List UInt8 × Int) : Option Cel := cs.find? (fun x => decide (keyC x = k))
def hasK (cs : List Cel) (k : List UInt8 × Int) : Bool := cs.any (fun x => decide (keyC x = k))
theorem putL_len (o : Cel) : ∀ cs : List Cel, Asc cs → (putL o false cs).length = if hasK cs (keyC o) then cs.length else cs.length + 1
  | [], _ => rfl
  | y :: r, h => by
    have h1 := List.pairwise_cons.1 h
    have ih := putL_len o r h1.2
    rw [putL, hasK, List.any_cons]
    by_cases e : keyC y = keyC o
    · have hn : hasK r (keyC o) = false := by
        rw [hasK, List.any_eq_false]
        intro z hz hk
        exact ltO_key (h1.1 z hz) (e.trans (of_decide_eq_true hk).symm)
      rw [if_pos e, ih, hn]
      simp [e]
    · rw [if_neg e]
      by_cases l : ltO o y = true
      · have hn : ∀ z ∈ r, keyC z ≠ keyC o := fun z hz hk => ltO_key (ltO_trans l (h1.1 z hz)) hk.symm
        have hf : r.filter (fun x => decide (keyC x ≠ keyC o)) = r := List.filter_eq_self.2 (fun z hz => by simpa using hn z hz)
        have ha : (r.any fun x => decide (keyC x = keyC o)) = false := by
          rw [List.any_eq_false]; intro z hz hk; exact hn z hz (of_decide_eq_true hk)
        rw [if_pos (by simp [l]), putL_done, hf, ha]
        simp [e]
      · rw [if_neg (by simp [l]), List.length_cons, ih]
        rw [show (r.any fun x => decide (keyC x = keyC o)) = hasK r (keyC o) from rfl]
        by_cases hh : hasK r (keyC o) = true
        · simp [hh]
        · simp [hh, e]

end Go.Proofs.YtgonpnnlpkjkcaaGreatDoor

namespace Go.Proofs.YtgonpnnlpkjkcaaGreatDoor
open Go Go.RowKit Go.Maps
set_option linter.unusedVariables false

/-- A name and a sort. -/
abbrev OKey := ByteArray × Int
theorem laidOk : laidOutB Tryz.prog = true := by kernel_rfl
theorem rowOk : (90 : TypeId) < Tryz.prog.types.size := of_decide_eq_true (by kernel_rfl)
theorem wideOk : (match Tryz.prog.underlying 90 with | some (.array _ _) | some (.struct _) => true | _ => false) = true := by kernel_rfl
theorem keyAtOk : Tryz.prog.keyTypeAt 3 90 = true := by kernel_rfl
set_option maxRecDepth 100000 in
theorem lawOkK : WideMaps.KeyLaw Tryz.prog 90 := deep_law_laid laidOk (m := 3) (by decide) rowOk keyAtOk (by kernel_rfl)
theorem lawOk : Keyed Tryz.prog 90 := Keyed.of_law lawOkK
theorem typOk : Tryz.prog.keyType 90 = true := by kernel_rfl
theorem cellsOk : Tryz.prog.cellsOf 90 = 2 := by kernel_rfl
theorem cellsStrO : Tryz.prog.cellsOf 9 = 1 := by kernel_rfl
theorem cellsSrt : Tryz.prog.cellsOf 88 = 1 := by kernel_rfl

/-- A name's key. -/
def okk (f : OKey) : Lit := .string (keyBytes [.string f.1.data.toList, .int .i64 f.2])
theorem nTypesO : ∃ n, Tryz.prog.types.size = n + 1 := by
  have h : 90 < Tryz.prog.types.size := rowOk
  generalize Tryz.prog.types.size = m at h
  exact ⟨m - 1, by omega⟩
theorem keyOk (f : OKey) (hs : f.1.size ≤ 1000000) (h0 : 0 ≤ f.2) (h1 : f.2 ≤ 1000000) : keyOf Tryz.prog 90 (.agg #[.string f.1, .int .i64 f.2]) = some (okk f) := by
  obtain ⟨n, hn⟩ := nTypesO
  have hx : f.1.size ≤ maxLen := by unfold maxLen; omega
  have hw : (Lit.int .i64 f.2).wf = true := WalkArith.wf_i64 (by omega)
  exact keyPair Tryz.prog 90 9 88 _ _ _ rfl Tryz.underlying90 rfl rfl rfl rfl (by decide) (by decide) Tryz.underlying9 Tryz.underlying88 cellsOk cellsStrO cellsSrt typOk n hn f.1 f.2 hx hw
theorem ok_inj {f g : OKey} (hf : f.1.size ≤ 1000000 ∧ 0 ≤ f.2 ∧ f.2 ≤ 1000000) (hg : g.1.size ≤ 1000000 ∧ 0 ≤ g.2 ∧ g.2 ≤ 1000000) (h : okk f = okk g) : f = g := by
  have h1 := keyOk f hf.1 hf.2.1 hf.2.2
  have h2 := keyOk g hg.1 hg.2.1 hg.2.2
  rw [← h] at h2
  have := lawOk.inj h1 h2
  obtain ⟨f1, f2⟩ := f
  obtain ⟨g1, g2⟩ := g
  simpa using this
theorem keyOk_inv (key : Value) (kl : Lit) (h : keyOf Tryz.prog 90 key = some kl) : ∃ x : OKey, key = .agg #[.string x.1, .int .i64 x.2] := by
  obtain ⟨n, hn⟩ := nTypesO
  obtain ⟨x, y, h⟩ := keyPair_inv Tryz.prog 90 9 88 _ _ _ rfl Tryz.underlying90 rfl rfl rfl rfl (by decide) (by decide) Tryz.underlying9 Tryz.underlying88 cellsOk cellsStrO cellsSrt n hn h
  exact ⟨(x, y), h⟩

end Go.Proofs.YtgonpnnlpkjkcaaGreatDoor

