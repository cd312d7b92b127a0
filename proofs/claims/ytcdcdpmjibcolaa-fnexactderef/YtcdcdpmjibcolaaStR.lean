/- How far a word leads; where references end. Own work of the verifier. -/
import Derived.Test.YtcdcdpmjibcolaaStP
namespace Go.Proofs.Ytcdcdpmjibcolaa
open Go Go.RowKit
set_option linter.unusedVariables false

/-- The greatest of f 0 .. f (n - 1). -/
def supF (f : Nat → Nat) : Nat → Nat
  | 0 => 0
  | n + 1 => max (supF f n) (f n)
theorem le_supF (f : Nat → Nat) : ∀ (n i : Nat), i < n → f i ≤ supF f n
  | 0, i, h => absurd h (Nat.not_lt_zero _)
  | n + 1, i, h => by
    simp only [supF]
    rcases Nat.lt_or_eq_of_le (Nat.lt_succ_iff.1 h) with h | rfl
    · have := le_supF f n i h; omega
    · omega
open Classical in
/-- How many steps a word leads at most. -/
noncomputable def rkA (xs : List Cel) (a : Nat) (h : Acc (Kid xs) a) : Nat :=
  Acc.rec (motive := fun _ _ => Nat) (fun a _ ih => 1 + supF (fun i => if hk : Kid xs i a then ih i hk else 0) (endK xs a)) h
open Classical in
theorem rkA_lt {xs : List Cel} {a y : Nat} (h : Acc (Kid xs) a) (hk : Kid xs y a) : rkA xs y (h.inv hk) < rkA xs a h := by
  have e : rkA xs a h = 1 + supF (fun i => if hk : Kid xs i a then rkA xs i (h.inv hk) else 0) (endK xs a) := by
    cases h with
    | intro _ f => rfl
  have := le_supF (fun i => if hk : Kid xs i a then rkA xs i (h.inv hk) else 0) (endK xs a) y hk.2.2
  simp only [dif_pos hk] at this
  omega
open Classical in
noncomputable def rk (xs : List Cel) (a : Nat) : Nat := if h : Acc (Kid xs) a then rkA xs a h else 0
theorem rk_lt {xs : List Cel} {a y : Nat} (h : Acc (Kid xs) a) (hk : Kid xs y a) : rk xs y < rk xs a := by
  unfold rk
  rw [dif_pos h, dif_pos (h.inv hk)]
  exact rkA_lt h hk
/-- The same of a word: how many references may be followed. -/
noncomputable def rkW (xs : List Cel) (c : Cel) : Nat := if c.1 = 0 then rk xs c.2.1.toNat + 1 else 0

/-- A word of a store, by its kind and number. -/
def WdC (xs : List Cel) (c : Cel) : Prop := (c.1 = 0 ∨ c.1 = 1 ∨ c.1 = 2 ∨ c.1 = 4) ∧ (c.1 = 0 → 0 ≤ c.2.1 ∧ c.2.1 < xs.length ∧ kndA xs c.2.1.toNat ≠ 3) ∧ (c.1 = 4 → 0 ≤ c.2.1 ∧ c.2.1 < xs.length ∧ kndA xs c.2.1.toNat = 3)
/-- A store that is as it has to be. -/
structure Good (xs : List Cel) : Prop where
  shp : Shp xs
  acyc : Acyc xs
theorem Good.at {xs : List Cel} (h : Good xs) {a : Nat} (ha : a < xs.length) (h3 : kndA xs a ≠ 3) : WdC xs (xs.getD a Cel.none) := by
  refine ⟨?_, fun k => h.shp.refs a ha k, fun k => h.shp.stru a ha k⟩
  have := h.shp.knds a ha
  unfold kndA at this h3
  omega
theorem WdC.of_word {xs : List Cel} {c : Cel} (h : wordB xs c.1 c.2.1 c.2.2.length = true) : WdC xs c := by
  unfold wordB at h
  rw [Bool.and_eq_true] at h
  obtain ⟨ho, hl⟩ := h
  have hk : c.1 = 0 ∨ c.1 = 1 ∨ c.1 = 2 ∨ c.1 = 3 ∨ c.1 = 4 := by
    unfold okW at ho
    split at ho
    · omega
    · simp [cellB] at ho; omega
  unfold leadB at hl
  refine ⟨?_, fun k => ?_, fun k => ?_⟩
  · rcases hk with k | k | k | k | k
    · exact .inl k
    · exact .inr (.inl k)
    · exact .inr (.inr (.inl k))
    · rw [k] at hl; simp at hl
    · exact .inr (.inr (.inr k))
  · rw [if_pos k] at hl
    simpa [isWB] using hl
  · rw [k] at hl
    simp at hl
    simpa [funB] using hl

/-- Is it a reference that leads on? -/
def onB (xs : List Cel) (c : Cel) : Bool := decide (c.1 = 0) && !varB xs c.2.1
noncomputable def derN (xs : List Cel) : Nat → Cel → Cel
  | 0, c => c
  | f + 1, c => if onB xs c = true then derN xs f (xs.getD c.2.1.toNat Cel.none) else c
/-- The word to which references lead. -/
noncomputable def drf (xs : List Cel) (c : Cel) : Cel := derN xs (rkW xs c) c
theorem on_ref {xs : List Cel} {c : Cel} (h : onB xs c = true) : c.1 = 0 ∧ varB xs c.2.1 = false := by
  simpa [onB] using h
/-- Behind a reference the way is shorter. -/
theorem rk_next {xs : List Cel} (g : Good xs) {c : Cel} (hc : WdC xs c) (h : onB xs c = true) : rkW xs (xs.getD c.2.1.toNat Cel.none) < rkW xs c ∧ WdC xs (xs.getD c.2.1.toNat Cel.none) := by
  obtain ⟨h0, hv⟩ := on_ref h
  obtain ⟨r0, r1, r2⟩ := hc.2.1 h0
  have ha : c.2.1.toNat < xs.length := by omega
  refine ⟨?_, g.at ha r2⟩
  unfold rkW
  rw [if_pos h0]
  by_cases hk : (xs.getD c.2.1.toNat Cel.none).1 = 0
  · rw [if_pos hk]
    have hkid : Kid xs (xs.getD c.2.1.toNat Cel.none).2.1.toNat c.2.1.toNat := by
      refine ⟨?_, ?_, ?_⟩
      · rw [show ((c.2.1.toNat : Nat) : Int) = c.2.1 by omega]; exact hv
      · unfold firstK kndA; rw [if_pos hk]; exact Nat.le_refl _
      · unfold endK kndA; rw [if_pos hk]; exact Nat.lt_succ_self _
    have := rk_lt (g.acyc _ ha) hkid
    omega
  · rw [if_neg hk]; omega
theorem derN_more {xs : List Cel} (g : Good xs) : ∀ (f : Nat) (c : Cel), WdC xs c → rkW xs c ≤ f → derN xs f c = drf xs c := by
  intro f
  induction f with
  | zero =>
    intro c hc h
    unfold drf
    rw [show rkW xs c = 0 by omega]
  | succ f ih =>
    intro c hc h
    unfold drf
    cases hr : rkW xs c with
    | zero =>
      have h0 : ¬ c.1 = 0 := fun h0 => by unfold rkW at hr; rw [if_pos h0] at hr; omega
      have : onB xs c = false := by simp [onB, h0]
      simp [derN, this]
    | succ m =>
      simp only [derN]
      by_cases ho : onB xs c = true
      · rw [if_pos ho, if_pos ho]
        obtain ⟨n1, n2⟩ := rk_next g hc ho
        rw [ih _ n2 (by omega)]
        -- the shorter fuel serves, too
        have aux : ∀ (f : Nat) (c : Cel), WdC xs c → rkW xs c ≤ f → derN xs f c = derN xs (rkW xs c) c := by
          intro f
          induction f with
          | zero => intro c _ h; rw [show rkW xs c = 0 by omega]
          | succ f ih2 =>
            intro c hc h
            cases hr2 : rkW xs c with
            | zero =>
              have h0 : ¬ c.1 = 0 := fun h0 => by unfold rkW at hr2; rw [if_pos h0] at hr2; omega
              have : onB xs c = false := by simp [onB, h0]
              simp [derN, this]
            | succ k =>
              simp only [derN]
              by_cases ho : onB xs c = true
              · rw [if_pos ho, if_pos ho]
                obtain ⟨n1, n2⟩ := rk_next g hc ho
                rw [ih2 _ n2 (by omega)]
                by_cases hkf : k ≤ f
                · -- both are the same at the least fuel
                  have e1 := ih2 (xs.getD c.2.1.toNat Cel.none) n2 (by omega)
                  clear ih2
                  have : ∀ (a b : Nat) (c : Cel), WdC xs c → rkW xs c ≤ a → a ≤ b → derN xs b c = derN xs a c := by
                    intro a
                    induction a with
                    | zero =>
                      intro b c hc h hab
                      have h0 : ¬ c.1 = 0 := fun h0 => by unfold rkW at h; rw [if_pos h0] at h; omega
                      have hn : onB xs c = false := by simp [onB, h0]
                      cases b with
                      | zero => rfl
                      | succ b => simp [derN, hn]
                    | succ a iha =>
                      intro b c hc h hab
                      obtain ⟨b, rfl⟩ : ∃ b', b = b' + 1 := ⟨b - 1, by omega⟩
                      simp only [derN]
                      by_cases ho : onB xs c = true
                      · rw [if_pos ho, if_pos ho]
                        obtain ⟨m1, m2⟩ := rk_next g hc ho
                        exact iha b _ m2 (by omega) (by omega)
                      · rw [if_neg ho, if_neg ho]
                  exact (this _ k _ n2 (Nat.le_refl _) (by omega)).symm
                · omega
              · rw [if_neg ho, if_neg ho]
        exact (aux m _ n2 (by omega)).symm
      · rw [if_neg ho, if_neg ho]
theorem drf_step {xs : List Cel} (g : Good xs) {c : Cel} (hc : WdC xs c) (h : onB xs c = true) : drf xs c = drf xs (xs.getD c.2.1.toNat Cel.none) := by
  obtain ⟨n1, n2⟩ := rk_next g hc h
  have : drf xs c = derN xs (rkW xs c) c := rfl
  rw [this]
  obtain ⟨m, hm⟩ : ∃ m, rkW xs c = m + 1 := ⟨rkW xs c - 1, by omega⟩
  rw [hm]
  simp only [derN, if_pos h]
  exact derN_more g m _ n2 (by omega)
theorem drf_stop {xs : List Cel} {c : Cel} (h : onB xs c = false) : drf xs c = c := by
  unfold drf
  cases rkW xs c with
  | zero => rfl
  | succ m => simp [derN, h]
/-- What holds of every word on the way, holds of the last. -/
theorem drf_ind {xs : List Cel} (g : Good xs) {P : Cel → Prop} (hP : ∀ a, a < xs.length → kndA xs a ≠ 3 → P (xs.getD a Cel.none)) : ∀ (n : Nat) (c : Cel), rkW xs c ≤ n → WdC xs c → P c → P (drf xs c) ∧ WdC xs (drf xs c) ∧ onB xs (drf xs c) = false := by
  intro n
  induction n with
  | zero =>
    intro c hr hc hp
    have h0 : ¬ c.1 = 0 := fun h0 => by unfold rkW at hr; rw [if_pos h0] at hr; omega
    have hn : onB xs c = false := by simp [onB, h0]
    rw [drf_stop hn]
    exact ⟨hp, hc, hn⟩
  | succ n ih =>
    intro c hr hc hp
    cases ho : onB xs c
    · rw [drf_stop ho]; exact ⟨hp, hc, ho⟩
    · obtain ⟨n1, n2⟩ := rk_next g hc ho
      obtain ⟨h0, hv⟩ := on_ref ho
      obtain ⟨r0, r1, r2⟩ := hc.2.1 h0
      rw [drf_step g hc ho]
      exact ih _ (by omega) n2 (hP _ (by omega) r2)
theorem drf_word {xs : List Cel} (g : Good xs) {c : Cel} (hc : WdC xs c) : WdC xs (drf xs c) ∧ onB xs (drf xs c) = false :=
  (drf_ind g (P := fun _ => True) (fun _ _ _ => trivial) _ c (Nat.le_refl _) hc trivial).2

theorem storeB_ok {xs : List Cel} {tr : List Int} (h : storeB xs tr = true) (a : Nat) (ha : a < xs.length) : okW (xs.getD a Cel.none).1 (xs.getD a Cel.none).2.1 (xs.getD a Cel.none).2.2.length = true := by
  unfold storeB at h
  simp only [Bool.and_eq_true, decide_eq_true_eq] at h
  have := List.all_eq_true.1 h.1.1.2.1 _ (mem_at ha)
  simp only [goodC, Bool.and_eq_true] at this
  exact this.1
theorem okW_text {k n : Int} {t : List Int} (h : okW k n t.length = true) (h2 : k ≠ 2) (h3 : k ≠ 3) : t = [] := by
  have : t.length = 0 := by
    generalize t.length = m at h
    unfold okW at h
    split at h
    · simpa using h
    · simp only [cellB, decide_eq_true_eq] at h; omega
  exact List.length_eq_zero_iff.1 this

end Go.Proofs.Ytcdcdpmjibcolaa
