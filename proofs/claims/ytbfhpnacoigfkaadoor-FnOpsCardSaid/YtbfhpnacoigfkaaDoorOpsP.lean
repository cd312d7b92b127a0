/- Tables of operators as lists: one put in, taken away; sorted lists are one. Own work of the verifier. -/
import Derived.Test.YtbfhpnacoigfkaaDoorOpsV3
namespace Go.Proofs.YtbfhpnacoigfkaaDoor
open Go Go.RowKit
set_option linter.unusedVariables false

/-- What tells operators apart: the name and the sort. -/
def keyC (c : Cel) : List UInt8 × Int := ((strOfNums c.2.2).toList, srt c.2.1)
theorem ltO_iff_key (x y : Cel) : ltO x y = true ↔ Op.bytesLess (keyC x).1 (keyC y).1 = true ∨ ((keyC x).1 = (keyC y).1 ∧ (keyC x).2 < (keyC y).2) := by
  rw [ltO, decide_eq_true_eq, opCmp_lt]; rfl
theorem ltO_irrefl (x : Cel) : ltO x x = false := by
  cases h : ltO x x with
  | false => rfl
  | true => rw [ltO_iff_key, bl_irrefl] at h; simp at h
theorem ltO_asymm {x y : Cel} (h : ltO x y = true) : ltO y x = false := by
  cases h2 : ltO y x with
  | false => rfl
  | true => have := ltO_trans h h2; rw [ltO_irrefl] at this; cases this
theorem ltO_key {x y : Cel} (h : ltO x y = true) : keyC x ≠ keyC y := fun e => by
  rw [ltO_iff_key, e, bl_irrefl] at h; simp at h
theorem srt_two (t : Int) : srt t = 0 ∨ srt t = 1 := by unfold srt; split <;> simp
theorem ltO_tri {x y : Cel} (hk : keyC x ≠ keyC y) (h : ltO x y = false) : ltO y x = true := by
  have h' : ¬ ltO x y = true := by rw [h]; simp
  rw [ltO_iff_key] at h' ⊢
  by_cases e : (keyC x).1 = (keyC y).1
  · refine .inr ⟨e.symm, ?_⟩
    have n : ¬ (keyC x).2 < (keyC y).2 := fun z => h' (.inr ⟨e, z⟩)
    have n2 : (keyC x).2 ≠ (keyC y).2 := fun z => hk (Prod.ext e z)
    omega
  · exact .inl (bl_tri _ _ (by simpa using fun z => h' (.inl z)) e)

/-- An operator put into a table: the one of its key is gone; with done it is not put in. -/
def putL (o : Cel) : Bool → List Cel → List Cel
  | done, [] => if done then [] else [o]
  | done, x :: r => if keyC x = keyC o then putL o done r else if !done && ltO o x then o :: x :: putL o true r else x :: putL o done r
def putO (cs : List Cel) (o : Cel) : List Cel := putL o (o.1 == 0) cs

theorem putL_done (o : Cel) : ∀ cs : List Cel, putL o true cs = cs.filter (fun x => decide (keyC x ≠ keyC o))
  | [] => rfl
  | x :: r => by
    rw [putL, putL_done o r, List.filter_cons]
    by_cases e : keyC x = keyC o <;> simp [e]
theorem putL_mem (o : Cel) : ∀ (cs : List Cel) (x : Cel), x ∈ putL o false cs ↔ x = o ∨ (x ∈ cs ∧ keyC x ≠ keyC o)
  | [], x => by simp [putL]
  | y :: r, x => by
    have ih := putL_mem o r x
    rw [putL]
    by_cases e : keyC y = keyC o
    · rw [if_pos e, ih, List.mem_cons]
      constructor
      · rintro (h | h)
        · exact .inl h
        · exact .inr ⟨.inr h.1, h.2⟩
      · rintro (h | ⟨h | h, h2⟩)
        · exact .inl h
        · exact absurd (h ▸ e) h2
        · exact .inr ⟨h, h2⟩
    · rw [if_neg e]
      by_cases l : ltO o y = true
      · rw [if_pos (by simp [l]), putL_done]
        simp only [List.mem_cons, List.mem_filter, decide_eq_true_eq]
        constructor
        · rintro (h | h | h)
          · exact .inl h
          · exact .inr ⟨.inl h, by rw [h]; exact e⟩
          · exact .inr ⟨.inr h.1, h.2⟩
        · rintro (h | ⟨h | h, h2⟩)
          · exact .inl h
          · exact .inr (.inl h)
          · exact .inr (.inr ⟨h, h2⟩)
      · rw [if_neg (by simp [l]), List.mem_cons, ih, List.mem_cons]
        constructor
        · rintro (h | h | h)
          · exact .inr ⟨.inl h, by rw [h]; exact e⟩
          · exact .inl h
          · exact .inr ⟨.inr h.1, h.2⟩
        · rintro (h | ⟨h | h, h2⟩)
          · exact .inr (.inl h)
          · exact .inl h
          · exact .inr (.inr ⟨h, h2⟩)

def Asc (cs : List Cel) : Prop := cs.Pairwise (fun x y => ltO x y = true)
theorem chain_asc : ∀ (cs : List Cel) (a : Option Cel), chainO a cs = true → Asc cs
  | [], _, _ => List.Pairwise.nil
  | x :: r, a, h => by
    simp only [chainO, Bool.and_eq_true] at h
    exact List.Pairwise.cons (fun y hy => (chainO_all r x h.2 y hy).1) (chain_asc r (some x) h.2)
theorem Asc.filter {cs : List Cel} (h : Asc cs) (p : Cel → Bool) : Asc (cs.filter p) := List.Pairwise.filter p h
theorem putL_asc (o : Cel) : ∀ cs : List Cel, Asc cs → Asc (putL o false cs)
  | [], _ => by simp [putL, Asc]
  | y :: r, h => by
    have h1 := List.pairwise_cons.1 h
    have ih := putL_asc o r h1.2
    rw [putL]
    by_cases e : keyC y = keyC o
    · rw [if_pos e]; exact ih
    · rw [if_neg e]
      by_cases l : ltO o y = true
      · rw [if_pos (by simp [l]), putL_done]
        refine List.Pairwise.cons (fun z hz => ?_) (List.Pairwise.cons (fun z hz => h1.1 z (List.mem_filter.1 hz).1) (h1.2.filter _))
        rcases List.mem_cons.1 hz with rfl | hz
        · exact l
        · exact ltO_trans l (h1.1 z (List.mem_filter.1 hz).1)
      · rw [if_neg (by simp [l])]
        refine List.Pairwise.cons (fun z hz => ?_) ih
        rcases (putL_mem o r z).1 hz with rfl | hz
        · exact ltO_tri (fun x => e x.symm) (by simpa using l)
        · exact h1.1 z hz.1
/-- Two ascending lists with the same members are one. -/
theorem asc_unique : ∀ (a b : List Cel), Asc a → Asc b → (∀ x, x ∈ a ↔ x ∈ b) → a = b
  | [], [], _, _, _ => rfl
  | [], y :: s, _, _, h => by have := (h y).2 (List.mem_cons_self ..); cases this
  | x :: r, [], _, _, h => by have := (h x).1 (List.mem_cons_self ..); cases this
  | x :: r, y :: s, ha, hb, h => by
    have h1 := List.pairwise_cons.1 ha
    have h2 := List.pairwise_cons.1 hb
    have e : x = y := by
      rcases List.mem_cons.1 ((h x).1 (List.mem_cons_self ..)) with h3 | h3
      · exact h3
      · rcases List.mem_cons.1 ((h y).2 (List.mem_cons_self ..)) with h4 | h4
        · exact h4.symm
        · have := ltO_asymm (h1.1 y h4)
          rw [h2.1 x h3] at this
          cases this
    subst e
    rw [asc_unique r s h1.2 h2.2 (fun z => ?_)]
    constructor
    · intro hz
      rcases List.mem_cons.1 ((h z).1 (List.mem_cons_of_mem _ hz)) with h3 | h3
      · subst h3; have := h1.1 z hz; rw [ltO_irrefl] at this; cases this
      · exact h3
    · intro hz
      rcases List.mem_cons.1 ((h z).2 (List.mem_cons_of_mem _ hz)) with h3 | h3
      · subst h3; have := h2.1 z hz; rw [ltO_irrefl] at this; cases this
      · exact h3
theorem asc_keys {cs : List Cel} (h : Asc cs) : ∀ x ∈ cs, ∀ y ∈ cs, keyC x = keyC y → x = y := by
  induction cs with
  | nil => intro x hx; cases hx
  | cons a r ih =>
    have h1 := List.pairwise_cons.1 h
    intro x hx y hy e
    rcases List.mem_cons.1 hx with hx' | hx' <;> rcases List.mem_cons.1 hy with hy' | hy'
    · rw [hx', hy']
    · rw [hx'] at e; exact absurd e (ltO_key (h1.1 y hy'))
    · rw [hy'] at e; exact absurd e.symm (ltO_key (h1.1 x hx'))
    · exact ih h1.2 x hx' y hy' e
/-- The one of a key, if there is one. -/
def findK (cs : List Cel) (k : List UInt8 × Int) : Option Cel := cs.find? (fun x => decide (keyC x = k))
def hasK (cs : List Cel) (k : List UInt8 × Int) : Bool := cs.any (fun x => decide (keyC x = k))
theorem putL_len (o : Cel) : ∀ cs : List Cel, Asc cs → (putL o false cs).length = if hasK cs (keyC o) then cs.length else cs.length + 1
  | [], _ => rfl
  | y :: r, h => by
    have h1 := List.pairwise_cons.1 h
    have ih := putL_len o r h1.2
    rw [putL, hasK, List.any_cons]
    by_cases e : keyC y = keyC o
    · have hn : hasK r (keyC o) = false := by
        rw [hasK, List.any_eq_false]
        intro z hz hk
        exact ltO_key (h1.1 z hz) (e.trans (of_decide_eq_true hk).symm)
      rw [if_pos e, ih, hn]
      simp [e]
    · rw [if_neg e]
      by_cases l : ltO o y = true
      · have hn : ∀ z ∈ r, keyC z ≠ keyC o := fun z hz hk => ltO_key (ltO_trans l (h1.1 z hz)) hk.symm
        have hf : r.filter (fun x => decide (keyC x ≠ keyC o)) = r := List.filter_eq_self.2 (fun z hz => by simpa using hn z hz)
        have ha : (r.any fun x => decide (keyC x = keyC o)) = false := by
          rw [List.any_eq_false]; intro z hz hk; exact hn z hz (of_decide_eq_true hk)
        rw [if_pos (by simp [l]), putL_done, hf, ha]
        simp [e]
      · rw [if_neg (by simp [l]), List.length_cons, ih]
        rw [show (r.any fun x => decide (keyC x = keyC o)) = hasK r (keyC o) from rfl]
        by_cases hh : hasK r (keyC o) = true
        · simp [hh]
        · simp [hh, e]

end Go.Proofs.YtbfhpnacoigfkaaDoor
