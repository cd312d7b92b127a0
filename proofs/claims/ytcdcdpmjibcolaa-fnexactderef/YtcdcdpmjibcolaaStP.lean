/- Stores: when they are valid. Own work of the verifier. -/
import Derived.Test.YtcdcdpmjibcolaaIsC
namespace Go.Proofs.Ytcdcdpmjibcolaa
open Go Go.RowKit
set_option linter.unusedVariables false

/-- The kind of the cell at an address. -/
def kndA (xs : List Cel) (i : Nat) : Int := (xs.getD i Cel.none).1
def numA (xs : List Cel) (i : Nat) : Int := (xs.getD i Cel.none).2.1
/-- Is it an address? Of a functor, of a word? -/
def funB (xs : List Cel) (a : Int) : Bool := decide (0 ≤ a ∧ a < xs.length ∧ kndA xs a.toNat = 3)
def isWB (xs : List Cel) (a : Int) : Bool := decide (0 ≤ a ∧ a < xs.length ∧ kndA xs a.toNat ≠ 3)
def varB (xs : List Cel) (a : Int) : Bool := decide (0 ≤ a ∧ a < xs.length ∧ kndA xs a.toNat = 0 ∧ numA xs a.toNat = a)
/-- Does a word lead to what it has to? -/
def leadB (xs : List Cel) (k n : Int) : Bool := if k = 0 then isWB xs n else if k = 4 then funB xs n else if k = 3 then false else true
/-- Can it be a word or functor of any heap? -/
def okW (k n : Int) (m : Nat) : Bool := if k = 4 then m == 0 else cellB k n m
/-- Is it a word of a store? -/
def wordB (xs : List Cel) (k n : Int) (m : Nat) : Bool := okW k n m && leadB xs k n
/-- Has each functor its arguments behind it? -/
def wholeF : Int → List Cel → Bool
  | m, [] => m == 0
  | m, c :: r => if c.1 = 3 then (if 0 < m then false else wholeF c.2.1 r) else wholeF (if 0 < m then m - 1 else m) r
/-- The same, as the other side goes through it. -/
def shapeF (xs : List Cel) : Int → List Cel → Bool
  | _, [] => true
  | b, c :: r => if c.1 = 3 then (if 0 < b ∨ c.2.1 < 1 ∨ 20 < c.2.1 ∨ 100 < c.2.2.length ∨ (r.length : Int) < c.2.1 then false else shapeF xs c.2.1 r)
      else if wordB xs c.1 c.2.1 c.2.2.length = false then false else shapeF xs (if 0 < b then b - 1 else b) r
/-- Good cell by cell: a functor, or a word. -/
def goodC (xs : List Cel) (c : Cel) : Bool := okW c.1 c.2.1 c.2.2.length && (decide (c.1 = 3) || leadB xs c.1 c.2.1)

theorem whole_room : ∀ (ys : List Cel) (m : Int), 0 ≤ m → (∀ c ∈ ys, c.1 = 3 → 1 ≤ c.2.1) → wholeF m ys = true → m ≤ ys.length
  | [], m, h0, _, h => by simp [wholeF] at h; omega
  | c :: r, m, h0, hc, h => by
    have hr : ∀ c ∈ r, c.1 = 3 → 1 ≤ c.2.1 := fun x hx => hc x (List.mem_cons_of_mem _ hx)
    simp only [wholeF] at h
    by_cases k : c.1 = 3
    · rw [if_pos k] at h
      by_cases hm : 0 < m
      · rw [if_pos hm] at h; cases h
      · simp; omega
    · rw [if_neg k] at h
      by_cases hm : 0 < m
      · rw [if_pos hm] at h
        have := whole_room r (m - 1) (by omega) hr h
        simp; omega
      · simp; omega
theorem okW_fun {n : Int} {m : Nat} : okW 3 n m = true ↔ 1 ≤ n ∧ n ≤ 20 ∧ m ≤ 100 := by
  simp [okW, cellB]; omega
/-- Both ways through are the same. -/
theorem shape_whole (xs : List Cel) : ∀ (ys : List Cel) (b : Int), 0 ≤ b → b ≤ ys.length → shapeF xs b ys = (ys.all (goodC xs) && wholeF b ys)
  | [], b, h0, h1 => by
    obtain rfl : b = 0 := by simp at h1; omega
    rfl
  | c :: r, b, h0, h1 => by
    obtain ⟨k, n, t⟩ := c
    simp only [shapeF, wholeF, List.all_cons]
    by_cases hk : k = 3
    · subst hk
      rw [if_pos rfl, if_pos rfl]
      have hg : goodC xs (3, n, t) = okW 3 n t.length := by simp [goodC]
      rw [hg]
      by_cases hb : 0 < b
      · rw [if_pos (.inl hb), if_pos hb]; simp
      · rw [if_neg hb]
        by_cases ho : okW 3 n t.length = true
        · have hoo := okW_fun.1 ho
          by_cases hr : (r.length : Int) < n
          · rw [if_pos (.inr (.inr (.inr (.inr hr))))]
            have : ¬ (r.all (goodC xs) = true ∧ wholeF n r = true) := by
              rintro ⟨ha, hw⟩
              have := whole_room r n (by omega) (fun c hc h3 => by
                have := List.all_eq_true.1 ha c hc
                simp only [goodC, Bool.and_eq_true, h3] at this
                exact (okW_fun.1 this.1).1) hw
              omega
            symm
            rw [ho, Bool.true_and, Bool.eq_false_iff]
            intro h
            rw [Bool.and_eq_true] at h
            exact this h
          · rw [if_neg (by omega), shape_whole xs r n (by omega) (by omega), ho, Bool.true_and]
        · rw [if_pos (by rw [okW_fun] at ho; omega)]
          rw [Bool.not_eq_true] at ho
          rw [ho]; rfl
    · rw [if_neg hk, if_neg hk]
      have hg : goodC xs (k, n, t) = wordB xs k n t.length := by simp [goodC, wordB, hk]
      rw [hg]
      cases hw : wordB xs k n t.length
      · rw [if_pos rfl]; simp
      · rw [if_neg (by simp)]
        simp only [List.length_cons] at h1
        rw [shape_whole xs r _ (by split <;> omega) (by split <;> omega), Bool.true_and]

/-- What holds of a store that is whole. -/
theorem whole_fits : ∀ (ys : List Cel) (m : Int), 0 ≤ m → (∀ c ∈ ys, c.1 = 3 → 1 ≤ c.2.1) → wholeF m ys = true →
    (∀ j : Nat, (j : Int) < m → j < ys.length ∧ kndA ys j ≠ 3) ∧ ∀ f, f < ys.length → kndA ys f = 3 → ∀ i : Nat, 1 ≤ i → (i : Int) ≤ numA ys f → f + i < ys.length ∧ kndA ys (f + i) ≠ 3
  | [], m, h0, _, h => by
    simp [wholeF] at h
    exact ⟨fun j hj => by omega, fun f hf => by simp at hf⟩
  | c :: r, m, h0, hc, h => by
    have hr : ∀ c ∈ r, c.1 = 3 → 1 ≤ c.2.1 := fun x hx => hc x (List.mem_cons_of_mem _ hx)
    simp only [wholeF] at h
    have up : ∀ j, kndA (c :: r) (j + 1) = kndA r j := fun j => by simp [kndA, List.getD]
    have un : ∀ j, numA (c :: r) (j + 1) = numA r j := fun j => by simp [numA, List.getD]
    have k0 : kndA (c :: r) 0 = c.1 := by simp [kndA, List.getD]
    have n0 : numA (c :: r) 0 = c.2.1 := by simp [numA, List.getD]
    by_cases k : c.1 = 3
    · rw [if_pos k] at h
      by_cases hm : 0 < m
      · rw [if_pos hm] at h; cases h
      · rw [if_neg hm] at h
        have h1 := hc c (List.mem_cons_self ..) k
        obtain ⟨a, b⟩ := whole_fits r c.2.1 (by omega) hr h
        refine ⟨fun j hj => by omega, fun f hf hk i h1 h2 => ?_⟩
        rcases f with _ | f
        · rw [n0] at h2
          obtain ⟨i, rfl⟩ : ∃ j, i = j + 1 := ⟨i - 1, by omega⟩
          have := a i (by omega)
          rw [Nat.zero_add, up]
          exact ⟨by simp; omega, this.2⟩
        · rw [up] at hk; rw [un] at h2
          have := b f (by simpa using hf) hk i h1 h2
          rw [show f + 1 + i = (f + i) + 1 by omega, up]
          exact ⟨by simp; omega, this.2⟩
    · rw [if_neg k] at h
      have hm' : 0 ≤ (if 0 < m then m - 1 else m) := by split <;> omega
      obtain ⟨a, b⟩ := whole_fits r _ hm' hr h
      refine ⟨fun j hj => ?_, fun f hf hk i h1 h2 => ?_⟩
      · rcases j with _ | j
        · rw [k0]; exact ⟨by simp, k⟩
        · have := a j (by rw [if_pos (by omega)]; omega)
          rw [up]
          exact ⟨by simp; omega, this.2⟩
      · rcases f with _ | f
        · rw [k0] at hk; exact absurd hk k
        · rw [up] at hk; rw [un] at h2
          have := b f (by simpa using hf) hk i h1 h2
          rw [show f + 1 + i = (f + i) + 1 by omega, up]
          exact ⟨by simp; omega, this.2⟩

/-- A store whose words lead to what they have to. -/
structure Shp (xs : List Cel) : Prop where
  len : xs.length ≤ 20000
  refs : ∀ a, a < xs.length → kndA xs a = 0 → 0 ≤ numA xs a ∧ numA xs a < xs.length ∧ kndA xs (numA xs a).toNat ≠ 3
  stru : ∀ a, a < xs.length → kndA xs a = 4 → 0 ≤ numA xs a ∧ numA xs a < xs.length ∧ kndA xs (numA xs a).toNat = 3
  funs : ∀ f, f < xs.length → kndA xs f = 3 → 1 ≤ numA xs f ∧ numA xs f ≤ 20 ∧ ∀ i : Nat, 1 ≤ i → (i : Int) ≤ numA xs f → f + i < xs.length ∧ kndA xs (f + i) ≠ 3
  knds : ∀ a, a < xs.length → kndA xs a = 0 ∨ kndA xs a = 1 ∨ kndA xs a = 2 ∨ kndA xs a = 3 ∨ kndA xs a = 4
theorem mem_at {xs : List Cel} {a : Nat} (h : a < xs.length) : xs.getD a Cel.none ∈ xs := by
  simp [List.getD, h]
theorem shp_of {xs : List Cel} (hl : xs.length ≤ 20000) (hg : xs.all (goodC xs) = true) (hw : wholeF 0 xs = true) : Shp xs := by
  have hh : ∀ a, a < xs.length → goodC xs (xs.getD a Cel.none) = true := fun a ha => List.all_eq_true.1 hg _ (mem_at ha)
  have hf : ∀ c ∈ xs, c.1 = 3 → 1 ≤ c.2.1 ∧ c.2.1 ≤ 20 := fun c hc h3 => by
    have := List.all_eq_true.1 hg c hc
    simp only [goodC, Bool.and_eq_true, h3] at this
    exact ⟨(okW_fun.1 this.1).1, (okW_fun.1 this.1).2.1⟩
  obtain ⟨_, hb⟩ := whole_fits xs 0 (Int.le_refl _) (fun c hc h3 => (hf c hc h3).1) hw
  refine ⟨hl, fun a ha hk => ?_, fun a ha hk => ?_, fun f hf' hk => ⟨(hf _ (mem_at hf') hk).1, (hf _ (mem_at hf') hk).2, hb f hf' hk⟩, fun a ha => ?_⟩
  · have := hh a ha
    unfold kndA at hk
    simp only [goodC, Bool.and_eq_true, hk] at this
    have h2 := this.2
    simp only [leadB, isWB] at h2
    simpa [numA] using h2
  · have := hh a ha
    unfold kndA at hk
    simp only [goodC, Bool.and_eq_true, hk] at this
    have h2 := this.2
    simp only [leadB, funB] at h2
    simpa [numA] using h2
  · have := hh a ha
    simp only [goodC, Bool.and_eq_true] at this
    have := this.1
    unfold kndA
    generalize (xs.getD a Cel.none).1 = k at this ⊢
    unfold okW at this
    split at this
    · omega
    · simp [cellB] at this; omega

/-- The words to which the word at an address leads, from the first to that behind the last. -/
def firstK (xs : List Cel) (a : Nat) : Nat := if kndA xs a = 0 then (numA xs a).toNat else if kndA xs a = 4 then (numA xs a).toNat + 1 else 0
def endK (xs : List Cel) (a : Nat) : Nat := if kndA xs a = 0 then (numA xs a).toNat + 1 else if kndA xs a = 4 then (numA xs a).toNat + 1 + (numA xs (numA xs a).toNat).toNat else 0
/-- y is one of the words to which a leads (a variable leads nowhere). -/
def Kid (xs : List Cel) (y a : Nat) : Prop := varB xs a = false ∧ firstK xs a ≤ y ∧ y < endK xs a
/-- No word leads back to itself. -/
def Acyc (xs : List Cel) : Prop := ∀ a, a < xs.length → Acc (Kid xs) a
noncomputable def acycB (xs : List Cel) : Bool := @decide (Acyc xs) (Classical.propDecidable _)
theorem acycB_true {xs : List Cel} (h : Acyc xs) : acycB xs = true := by unfold acycB; exact @decide_eq_true _ (Classical.propDecidable _) h
theorem acycB_false {xs : List Cel} (h : ¬ Acyc xs) : acycB xs = false := by unfold acycB; exact @decide_eq_false _ (Classical.propDecidable _) h
/-- Is the store valid? -/
noncomputable def storeB (xs : List Cel) (tr : List Int) : Bool := decide (xs.length ≤ 20000) && decide (tr.length ≤ 20000) && (xs.all (goodC xs) && wholeF 0 xs) && tr.all (isWB xs) && acycB xs

theorem acc_irr {α : Type} {r : α → α → Prop} {a : α} (h : Acc r a) : ¬ r a a := by
  induction h with
  | intro x _ ih => exact fun hr => ih x hr hr
theorem acc_loop {α : Type} {r : α → α → Prop} {a : α} (h : Relation.TransGen r a a) : ¬ Acc r a := fun ha => acc_irr ha.transGen h

/-- The other side's steps: from what a word names to what the words there name. -/
def tgt (xs : List Cel) (k n : Int) : Option Nat := if k = 0 then (if varB xs n then none else some n.toNat) else if k = 4 then some n.toNat else none
def Stp (xs : List Cel) (y x : Nat) : Prop := if kndA xs x = 3 then ∃ i : Nat, 1 ≤ i ∧ (i : Int) ≤ numA xs x ∧ tgt xs (kndA xs (x + i)) (numA xs (x + i)) = some y else tgt xs (kndA xs x) (numA xs x) = some y
theorem varB_knd {xs : List Cel} {a : Nat} (h : varB xs a = true) : kndA xs a = 0 ∧ numA xs a = a := by
  simp [varB] at h; exact h.2
theorem kid_ref {xs : List Cel} {y a : Nat} (h : kndA xs a = 0) (hk : Kid xs y a) : y = (numA xs a).toNat := by
  have h1 := hk.2.1; have h2 := hk.2.2
  simp only [firstK, endK, h, if_true] at h1 h2; omega
theorem kid_str {xs : List Cel} {y a : Nat} (h : kndA xs a = 4) (hk : Kid xs y a) : ∃ i : Nat, 1 ≤ i ∧ i ≤ (numA xs (numA xs a).toNat).toNat ∧ y = (numA xs a).toNat + i := by
  have h1 := hk.2.1; have h2 := hk.2.2
  simp only [firstK, endK, h] at h1 h2
  simp at h1 h2
  exact ⟨y - (numA xs a).toNat, by omega, by omega, by omega⟩
theorem kid_no {xs : List Cel} {y a : Nat} (h : kndA xs a ≠ 0) (h4 : kndA xs a ≠ 4) : ¬ Kid xs y a := fun hk => by
  have h1 := hk.2.1; have h2 := hk.2.2
  simp only [firstK, endK, if_neg h, if_neg h4] at h1 h2; omega
/-- What leads nowhere back, leads nowhere back on the other side. -/
theorem acyc_stp {xs : List Cel} (hs : Shp xs) : ∀ {a : Nat}, Acc (Kid xs) a → a < xs.length → ∀ x, tgt xs (kndA xs a) (numA xs a) = some x → Acc (Stp xs) x := by
  intro a h
  induction h with
  | intro a _ ih =>
    intro ha x hx
    by_cases k0 : kndA xs a = 0
    · obtain ⟨r0, r1, r2⟩ := hs.refs a ha k0
      have hv : varB xs (numA xs a) = false := by
        cases hv : varB xs (numA xs a)
        · rfl
        · simp [tgt, k0, hv] at hx
      have hx' : (numA xs a).toNat = x := by simpa [tgt, k0, hv] using hx
      subst hx'
      have hva : varB xs a = false := by
        cases hva : varB xs a
        · rfl
        · have := (varB_knd hva).2
          rw [this, hva] at hv; cases hv
      have hk : Kid xs (numA xs a).toNat a := ⟨hva, by simp [firstK, k0], by simp [endK, k0]⟩
      refine Acc.intro _ fun y hy => ?_
      rw [Stp, if_neg r2] at hy
      exact ih _ hk (by omega) y hy
    · by_cases k4 : kndA xs a = 4
      · obtain ⟨r0, r1, r2⟩ := hs.stru a ha k4
        have hx' : (numA xs a).toNat = x := by simpa [tgt, k4] using hx
        subst hx'
        have hva : varB xs a = false := by
          cases hva : varB xs a
          · rfl
          · exact absurd (varB_knd hva).1 k0
        refine Acc.intro _ fun y hy => ?_
        rw [Stp, if_pos r2] at hy
        obtain ⟨i, h1, h2, hy⟩ := hy
        have f := (hs.funs _ (by omega) r2).2.2 i h1 h2
        exact ih ((numA xs a).toNat + i) ⟨hva, by simp [firstK, k4]; omega, by simp [endK, k4]; omega⟩ f.1 y hy
      · simp [tgt, k0, k4] at hx
/-- If all that a word names leads nowhere back, so does the word. -/
theorem acc_word {xs : List Cel} (hs : Shp xs) {a : Nat} (ha : a < xs.length) (h : ∀ x, tgt xs (kndA xs a) (numA xs a) = some x → (kndA xs x ≠ 3 → Acc (Kid xs) x) ∧ (kndA xs x = 3 → ∀ i : Nat, 1 ≤ i → (i : Int) ≤ numA xs x → Acc (Kid xs) (x + i))) : Acc (Kid xs) a := by
  refine Acc.intro _ fun y hy => ?_
  by_cases k0 : kndA xs a = 0
  · obtain ⟨r0, r1, r2⟩ := hs.refs a ha k0
    have e := kid_ref k0 hy
    subst e
    cases hv : varB xs (numA xs a)
    · exact (h (numA xs a).toNat (by simp [tgt, k0, hv])).1 r2
    · refine Acc.intro _ fun z hz => ?_
      have : varB xs ((numA xs a).toNat : Nat) = false := hz.1
      rw [show (((numA xs a).toNat : Nat) : Int) = numA xs a by omega, hv] at this
      cases this
  · by_cases k4 : kndA xs a = 4
    · obtain ⟨r0, r1, r2⟩ := hs.stru a ha k4
      obtain ⟨i, h1, h2, rfl⟩ := kid_str k4 hy
      exact (h (numA xs a).toNat (by simp [tgt, k4])).2 r2 i h1 (by have := (hs.funs _ (by omega) r2).1; omega)
    · exact absurd hy (kid_no k0 k4)
theorem tgt_lt {xs : List Cel} (hs : Shp xs) {a x : Nat} (ha : a < xs.length) (h : tgt xs (kndA xs a) (numA xs a) = some x) : x < xs.length := by
  by_cases k0 : kndA xs a = 0
  · obtain ⟨r0, r1, r2⟩ := hs.refs a ha k0
    simp only [tgt, k0, if_true] at h
    split at h
    · cases h
    · cases h; omega
  · by_cases k4 : kndA xs a = 4
    · obtain ⟨r0, r1, r2⟩ := hs.stru a ha k4
      simp [tgt, k4] at h; omega
    · simp [tgt, k0, k4] at h
theorem stp_kid {xs : List Cel} (hs : Shp xs) : ∀ {x : Nat}, Acc (Stp xs) x → x < xs.length → (kndA xs x ≠ 3 → Acc (Kid xs) x) ∧ (kndA xs x = 3 → ∀ i : Nat, 1 ≤ i → (i : Int) ≤ numA xs x → Acc (Kid xs) (x + i)) := by
  intro x h
  induction h with
  | intro x _ ih =>
    intro hx
    constructor
    · intro k3
      exact acc_word hs hx fun y hy => ih y (by rw [Stp, if_neg k3]; exact hy) (tgt_lt hs hx hy)
    · intro k3 i h1 h2
      have f := (hs.funs x hx k3).2.2 i h1 h2
      exact acc_word hs f.1 fun y hy => ih y (by rw [Stp, if_pos k3]; exact ⟨i, h1, h2, hy⟩) (tgt_lt hs f.1 hy)
/-- Both sides' searches ask the same. -/
theorem acyc_iff {xs : List Cel} (hs : Shp xs) : Acyc xs ↔ ∀ a, a < xs.length → ∀ x, tgt xs (kndA xs a) (numA xs a) = some x → Acc (Stp xs) x :=
  ⟨fun h a ha x hx => acyc_stp hs (h a ha) ha x hx, fun h a ha => acc_word hs ha fun x hx => stp_kid hs (h a ha x hx) (tgt_lt hs ha hx)⟩

/-- How many are not marked yet. -/
def unk (n : Nat) (m : Nat → Nat) : Nat := ((List.range n).filter (fun i => decide (m i = 0))).length
def setM (m : Nat → Nat) (a v : Nat) : Nat → Nat := fun i => if i = a then v else m i
theorem filter_le {α : Type} (p q : α → Bool) : ∀ l : List α, (∀ x ∈ l, q x = true → p x = true) → (l.filter q).length ≤ (l.filter p).length
  | [], _ => Nat.le_refl _
  | x :: r, h => by
    have ih := filter_le p q r (fun y hy => h y (List.mem_cons_of_mem _ hy))
    simp only [List.filter_cons]
    cases hq : q x
    · cases hp : p x
      · simpa using ih
      · simp; omega
    · rw [h x (List.mem_cons_self ..) hq]; simpa using ih
theorem filter_lt {α : Type} (p q : α → Bool) : ∀ (l : List α) (a : α), a ∈ l → p a = true → q a = false → (∀ x ∈ l, q x = true → p x = true) → (l.filter q).length < (l.filter p).length
  | [], a, ha, _, _, _ => by cases ha
  | x :: r, a, ha, hp, hq, h => by
    have hr : ∀ y ∈ r, q y = true → p y = true := fun y hy => h y (List.mem_cons_of_mem _ hy)
    have ih := filter_le p q r hr
    simp only [List.filter_cons]
    rcases List.mem_cons.1 ha with rfl | ha'
    · rw [hp, hq]; simp; omega
    · have ih' := filter_lt p q r a ha' hp hq hr
      cases hqx : q x
      · cases hpx : p x
        · simpa using ih'
        · simp; omega
      · rw [h x (List.mem_cons_self ..) hqx]; simpa using ih'
theorem unk_le {n : Nat} {m m' : Nat → Nat} (h : ∀ i, m i ≠ 0 → m' i ≠ 0) : unk n m' ≤ unk n m := by
  refine filter_le _ _ _ fun x _ hx => ?_
  simp only [decide_eq_true_eq] at hx ⊢
  cases hm : m x with
  | zero => rfl
  | succ k => exact absurd hx (h x (by omega))
theorem unk_lt {n a : Nat} {m : Nat → Nat} (ha : a < n) (h0 : m a = 0) {v : Nat} (hv : v ≠ 0) : unk n (setM m a v) < unk n m := by
  refine filter_lt _ _ _ a (by simpa using ha) (by simpa using h0) (by simpa [setM] using hv) fun x _ hx => ?_
  simp only [decide_eq_true_eq] at hx ⊢
  unfold setM at hx
  split at hx
  · omega
  · exact hx
theorem unk_top (n : Nat) (m : Nat → Nat) : unk n m ≤ n := by
  have := List.length_filter_le (fun i => decide (m i = 0)) (List.range n)
  simpa [unk] using this

end Go.Proofs.Ytcdcdpmjibcolaa
