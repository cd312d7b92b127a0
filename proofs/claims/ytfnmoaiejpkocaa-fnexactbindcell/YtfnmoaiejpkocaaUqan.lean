/- Texts of StR, BdP, UwP. Own work of the verifier. -/
import Derived.Test.YtfnmoaiejpkocaaUqae
import Derived.Test.YtfnmoaiejpkocaaUqai
namespace Go.Proofs.Ytfnmoaiejpkocaa
open Go Go.RowKit
set_option linter.unusedVariables false

/-- The greatest of f 0 .. f (n - 1). -/
def supF (f : Nat → Nat) : Nat → Nat
  | 0 => 0
  | n + 1 => max (supF f n) (f n)
theorem le_supF (f : Nat → Nat) : ∀ (n i : Nat), i < n → f i ≤ supF f n
  | 0, i, h => absurd h (Nat.not_lt_zero _)
  | n + 1, i, h => by
    simp only [supF]
    rcases Nat.lt_or_eq_of_le (Nat.lt_succ_iff.1 h) with h | rfl
    · have := le_supF f n i h; omega
    · omega
open Classical in
/-- How many steps a word leads at most. -/
noncomputable def rkA (xs : List Cel) (a : Nat) (h : Acc (Kid xs) a) : Nat :=
  Acc.rec (motive := fun _ _ => Nat) (fun a _ ih => 1 + supF (fun i => if hk : Kid xs i a then ih i hk else 0) (endK xs a)) h
open Classical in
theorem rkA_lt {xs : List Cel} {a y : Nat} (h : Acc (Kid xs) a) (hk : Kid xs y a) : rkA xs y (h.inv hk) < rkA xs a h := by
  have e : rkA xs a h = 1 + supF (fun i => if hk : Kid xs i a then rkA xs i (h.inv hk) else 0) (endK xs a) := by
    cases h with
    | intro _ f => rfl
  have := le_supF (fun i => if hk : Kid xs i a then rkA xs i (h.inv hk) else 0) (endK xs a) y hk.2.2
  simp only [dif_pos hk] at this
  omega
open Classical in
noncomputable def rk (xs : List Cel) (a : Nat) : Nat := if h : Acc (Kid xs) a then rkA xs a h else 0
theorem rk_lt {xs : List Cel} {a y : Nat} (h : Acc (Kid xs) a) (hk : Kid xs y a) : rk xs y < rk xs a := by
  unfold rk
  rw [dif_pos h, dif_pos (h.inv hk)]
  exact rkA_lt h hk
/-- The same of a word: how many references may be followed. -/
noncomputable def rkW (xs : List Cel) (c : Cel) : Nat := if c.1 = 0 then rk xs c.2.1.toNat + 1 else 0

/-- A word of a store, by its kind and number. -/
def WdC (xs : List Cel) (c : Cel) : Prop := (c.1 = 0 ∨ c.1 = 1 ∨ c.1 = 2 ∨ c.1 = 4) ∧ (c.1 = 0 → 0 ≤ c.2.1 ∧ c.2.1 < xs.length ∧ kndA xs c.2.1.toNat ≠ 3) ∧ (c.1 = 4 → 0 ≤ c.2.1 ∧ c.2.1 < xs.length ∧ kndA xs c.2.1.toNat = 3)
/-- A store that is as it has to be. -/
structure Good (xs : List Cel) : Prop where
  shp : Shp xs
  acyc : Acyc xs
theorem Good.at {xs : List Cel} (h : Good xs) {a : Nat} (ha : a < xs.length) (h3 : kndA xs a ≠ 3) : WdC xs (xs.getD a Cel.none) := by
  refine ⟨?_, fun k => h.shp.refs a ha k, fun k => h.shp.stru a ha k⟩
  have := h.shp.knds a ha
  unfold kndA at this h3
  omega
theorem WdC.of_word {xs : List Cel} {c : Cel} (h : wordB xs c.1 c.2.1 c.2.2.length = true) : WdC xs c := by
  unfold wordB at h
  rw [Bool.and_eq_true] at h
  obtain ⟨ho, hl⟩ := h
  have hk : c.1 = 0 ∨ c.1 = 1 ∨ c.1 = 2 ∨ c.1 = 3 ∨ c.1 = 4 := by
    unfold okW at ho
    split at ho
    · omega
    · simp [cellB] at ho; omega
  unfold leadB at hl
  refine ⟨?_, fun k => ?_, fun k => ?_⟩
  · rcases hk with k | k | k | k | k
    · exact .inl k
    · exact .inr (.inl k)
    · exact .inr (.inr (.inl k))
    · rw [k] at hl; simp at hl
    · exact .inr (.inr (.inr k))
  · rw [if_pos k] at hl
    simpa [isWB] using hl
  · rw [k] at hl
    simp at hl
    simpa [funB] using hl

/-- Is it a reference that leads on? -/
def onB (xs : List Cel) (c : Cel) : Bool := decide (c.1 = 0) && !varB xs c.2.1
noncomputable def derN (xs : List Cel) : Nat → Cel → Cel
  | 0, c => c
  | f + 1, c => if onB xs c = true then derN xs f (xs.getD c.2.1.toNat Cel.none) else c
/-- The word to which references lead. -/
noncomputable def drf (xs : List Cel) (c : Cel) : Cel := derN xs (rkW xs c) c
theorem on_ref {xs : List Cel} {c : Cel} (h : onB xs c = true) : c.1 = 0 ∧ varB xs c.2.1 = false := by
  simpa [onB] using h
/-- Behind a reference the way is shorter. -/
theorem rk_next {xs : List Cel} (g : Good xs) {c : Cel} (hc : WdC xs c) (h : onB xs c = true) : rkW xs (xs.getD c.2.1.toNat Cel.none) < rkW xs c ∧ WdC xs (xs.getD c.2.1.toNat Cel.none) := by
  obtain ⟨h0, hv⟩ := on_ref h
  obtain ⟨r0, r1, r2⟩ := hc.2.1 h0
  have ha : c.2.1.toNat < xs.length := by omega
  refine ⟨?_, g.at ha r2⟩
  unfold rkW
  rw [if_pos h0]
  by_cases hk : (xs.getD c.2.1.toNat Cel.none).1 = 0
  · rw [if_pos hk]
    have hkid : Kid xs (xs.getD c.2.1.toNat Cel.none).2.1.toNat c.2.1.toNat := by
      refine ⟨?_, ?_, ?_⟩
      · rw [show ((c.2.1.toNat : Nat) : Int) = c.2.1 by omega]; exact hv
      · unfold firstK kndA; rw [if_pos hk]; exact Nat.le_refl _
      · unfold endK kndA; rw [if_pos hk]; exact Nat.lt_succ_self _
    have := rk_lt (g.acyc _ ha) hkid
    omega
  · rw [if_neg hk]; omega
theorem derN_more {xs : List Cel} (g : Good xs) : ∀ (f : Nat) (c : Cel), WdC xs c → rkW xs c ≤ f → derN xs f c = drf xs c := by
  intro f
  induction f with
  | zero =>
    intro c hc h
    unfold drf
    rw [show rkW xs c = 0 by omega]
  | succ f ih =>
    intro c hc h
    unfold drf
    cases hr : rkW xs c with
    | zero =>
      have h0 : ¬ c.1 = 0 := fun h0 => by unfold rkW at hr; rw [if_pos h0] at hr; omega
      have : onB xs c = false := by simp [onB, h0]
      simp [derN, this]
    | succ m =>
      simp only [derN]
      by_cases ho : onB xs c = true
      · rw [if_pos ho, if_pos ho]
        obtain ⟨n1, n2⟩ := rk_next g hc ho
        rw [ih _ n2 (by omega)]
        -- the shorter fuel serves, too
        have aux : ∀ (f : Nat) (c : Cel), WdC xs c → rkW xs c ≤ f → derN xs f c = derN xs (rkW xs c) c := by
          intro f
          induction f with
          | zero => intro c _ h; rw [show rkW xs c = 0 by omega]
          | succ f ih2 =>
            intro c hc h
            cases hr2 : rkW xs c with
            | zero =>
              have h0 : ¬ c.1 = 0 := fun h0 => by unfold rkW at hr2; rw [if_pos h0] at hr2; omega
              have : onB xs c = false := by simp [onB, h0]
              simp [derN, this]
            | succ k =>
              simp only [derN]
              by_cases ho : onB xs c = true
              · rw [if_pos ho, if_pos ho]
                obtain ⟨n1, n2⟩ := rk_next g hc ho
                rw [ih2 _ n2 (by omega)]
                by_cases hkf : k ≤ f
                · -- both are the same at the least fuel
                  have e1 := ih2 (xs.getD c.2.1.toNat Cel.none) n2 (by omega)
                  clear ih2
                  have : ∀ (a b : Nat) (c : Cel), WdC xs c → rkW xs c ≤ a → a ≤ b → derN xs b c = derN xs a c := by
                    intro a
                    induction a with
                    | zero =>
                      intro b c hc h hab
                      have h0 : ¬ c.1 = 0 := fun h0 => by unfold rkW at h; rw [if_pos h0] at h; omega
                      have hn : onB xs c = false := by simp [onB, h0]
                      cases b with
                      | zero => rfl
                      | succ b => simp [derN, hn]
                    | succ a iha =>
                      intro b c hc h hab
                      obtain ⟨b, rfl⟩ : ∃ b', b = b' + 1 := ⟨b - 1, by omega⟩
                      simp only [derN]
                      by_cases ho : onB xs c = true
                      · rw [if_pos ho, if_pos ho]
                        obtain ⟨m1, m2⟩ := rk_next g hc ho
                        exact iha b _ m2 (by omega) (by omega)
                      · rw [if_neg ho, if_neg ho]
                  exact (this _ k _ n2 (Nat.le_refl _) (by omega)).symm
                · omega
              · rw [if_neg ho, if_neg ho]
        exact (aux m _ n2 (by omega)).symm
      · rw [if_neg ho, if_neg ho]
theorem drf_step {xs : List Cel} (g : Good xs) {c : Cel} (hc : WdC xs c) (h : onB xs c = true) : drf xs c = drf xs (xs.getD c.2.1.toNat Cel.none) := by
  obtain ⟨n1, n2⟩ := rk_next g hc h
  have : drf xs c = derN xs (rkW xs c) c := rfl
  rw [this]
  obtain ⟨m, hm⟩ : ∃ m, rkW xs c = m + 1 := ⟨rkW xs c - 1, by omega⟩
  rw [hm]
  simp only [derN, if_pos h]
  exact derN_more g m _ n2 (by omega)
theorem drf_stop {xs : List Cel} {c : Cel} (h : onB xs c = false) : drf xs c = c := by
  unfold drf
  cases rkW xs c with
  | zero => rfl
  | succ m => simp [derN, h]
/-- What holds of every word on the way, holds of the last. -/
theorem drf_ind {xs : List Cel} (g : Good xs) {P : Cel → Prop} (hP : ∀ a, a < xs.length → kndA xs a ≠ 3 → P (xs.getD a Cel.none)) : ∀ (n : Nat) (c : Cel), rkW xs c ≤ n → WdC xs c → P c → P (drf xs c) ∧ WdC xs (drf xs c) ∧ onB xs (drf xs c) = false := by
  intro n
  induction n with
  | zero =>
    intro c hr hc hp
    have h0 : ¬ c.1 = 0 := fun h0 => by unfold rkW at hr; rw [if_pos h0] at hr; omega
    have hn : onB xs c = false := by simp [onB, h0]
    rw [drf_stop hn]
    exact ⟨hp, hc, hn⟩
  | succ n ih =>
    intro c hr hc hp
    cases ho : onB xs c
    · rw [drf_stop ho]; exact ⟨hp, hc, ho⟩
    · obtain ⟨n1, n2⟩ := rk_next g hc ho
      obtain ⟨h0, hv⟩ := on_ref ho
      obtain ⟨r0, r1, r2⟩ := hc.2.1 h0
      rw [drf_step g hc ho]
      exact ih _ (by omega) n2 (hP _ (by omega) r2)
theorem drf_word {xs : List Cel} (g : Good xs) {c : Cel} (hc : WdC xs c) : WdC xs (drf xs c) ∧ onB xs (drf xs c) = false :=
  (drf_ind g (P := fun _ => True) (fun _ _ _ => trivial) _ c (Nat.le_refl _) hc trivial).2

theorem storeB_ok {xs : List Cel} {tr : List Int} (h : storeB xs tr = true) (a : Nat) (ha : a < xs.length) : okW (xs.getD a Cel.none).1 (xs.getD a Cel.none).2.1 (xs.getD a Cel.none).2.2.length = true := by
  unfold storeB at h
  simp only [Bool.and_eq_true, decide_eq_true_eq] at h
  have := List.all_eq_true.1 h.1.1.2.1 _ (mem_at ha)
  simp only [goodC, Bool.and_eq_true] at this
  exact this.1
theorem okW_text {k n : Int} {t : List Int} (h : okW k n t.length = true) (h2 : k ≠ 2) (h3 : k ≠ 3) : t = [] := by
  have : t.length = 0 := by
    generalize t.length = m at h
    unfold okW at h
    split at h
    · simpa using h
    · simp only [cellB, decide_eq_true_eq] at h; omega
  exact List.length_eq_zero_iff.1 this

end Go.Proofs.Ytfnmoaiejpkocaa

namespace Go.Proofs.Ytfnmoaiejpkocaa
open Go Go.RowKit
set_option linter.unusedVariables false

/-- y lies right behind the word c. -/
def Beh (xs : List Cel) (c : Cel) (y : Nat) : Prop := fW c.1 c.2.1 ≤ y ∧ (y : Int) < eW xs c.1 c.2.1
/-- The address a lies on a way from the word c. -/
inductive Rch (xs : List Cel) (a : Nat) : Cel → Prop
  | here {c : Cel} (h : Beh xs c a) : Rch xs a c
  | on {c : Cel} {y : Nat} (h : Beh xs c y) (h2 : Rch xs a (xs.getD y Cel.none)) : Rch xs a c

theorem beh_ref {xs : List Cel} {c : Cel} (h0 : c.1 = 0) {y : Nat} : Beh xs c y ↔ (y : Int) = c.2.1 := by
  unfold Beh fW eW
  rw [if_pos h0, if_pos h0]
  omega
theorem beh_str {xs : List Cel} {c : Cel} (h4 : c.1 = 4) {y : Nat} : Beh xs c y ↔ (c.2.1 + 1 ≤ y ∧ (y : Int) < c.2.1 + 1 + numA xs c.2.1.toNat) := by
  unfold Beh fW eW
  have h0 : ¬ c.1 = 0 := by omega
  rw [if_neg h0, if_neg h0, if_pos h4, if_pos h4]
theorem beh_no {xs : List Cel} {c : Cel} (h0 : c.1 ≠ 0) (h4 : c.1 ≠ 4) {y : Nat} : ¬ Beh xs c y := by
  unfold Beh fW eW
  rw [if_neg h0, if_neg h0, if_neg h4, if_neg h4]
  omega
theorem beh_word {xs : List Cel} (g : Shp xs) {c : Cel} (hc : WdC xs c) {y : Nat} (h : Beh xs c y) : y < xs.length ∧ kndA xs y ≠ 3 := by
  by_cases h0 : c.1 = 0
  · obtain ⟨r0, r1, r2⟩ := hc.2.1 h0
    rw [beh_ref h0] at h
    rw [show y = c.2.1.toNat by omega]
    exact ⟨by omega, r2⟩
  · by_cases h4 : c.1 = 4
    · obtain ⟨r0, r1, r2⟩ := hc.2.2 h4
      rw [beh_str h4] at h
      obtain ⟨_, _, f3⟩ := g.funs c.2.1.toNat (by omega) r2
      have := f3 (y - c.2.1.toNat) (by omega) (by omega)
      rw [show c.2.1.toNat + (y - c.2.1.toNat) = y by omega] at this
      exact this
    · exact absurd h (beh_no h0 h4)

/-- Where all that was gone through leads to what was gone through, and never to a, a is on no way. -/
theorem rch_no {xs : List Cel} {a : Nat} {V : Nat → Prop} (hV : ∀ x, V x → ∀ y, Beh xs (xs.getD x Cel.none) y → y ≠ a ∧ (V y ∨ ∀ z, ¬ Beh xs (xs.getD y Cel.none) z)) {c : Cel}
    (hc : ∀ y, Beh xs c y → y ≠ a ∧ (V y ∨ ∀ z, ¬ Beh xs (xs.getD y Cel.none) z)) : ¬ Rch xs a c := by
  intro h
  induction h with
  | here h => exact (hc _ h).1 rfl
  | on h h2 ih =>
    rcases (hc _ h).2 with hv | hl
    · exact ih (hV _ hv)
    · cases h2 with
      | here h3 => exact hl _ h3
      | on h3 _ => exact hl _ h3

theorem rch_drf {xs : List Cel} {a : Nat} (g : Good xs) : ∀ (n : Nat) (c : Cel), rkW xs c ≤ n → WdC xs c → Rch xs a (drf xs c) → Rch xs a c := by
  intro n
  induction n with
  | zero =>
    intro c hr hc h
    have h0 : ¬ c.1 = 0 := fun h0 => by unfold rkW at hr; rw [if_pos h0] at hr; omega
    have hn : onB xs c = false := by simp [onB, h0]
    rw [drf_stop hn] at h
    exact h
  | succ n ih =>
    intro c hr hc h
    cases ho : onB xs c
    · rw [drf_stop ho] at h; exact h
    · obtain ⟨n1, n2⟩ := rk_next g hc ho
      obtain ⟨h0, hv⟩ := on_ref ho
      obtain ⟨r0, r1, r2⟩ := hc.2.1 h0
      rw [drf_step g hc ho] at h
      exact .on ((beh_ref h0).2 (by omega)) (ih _ (by omega) n2 h)
/-- A variable lies on a way from every reference that ends at it. -/
theorem rch_var {xs : List Cel} {a : Nat} (g : Good xs) {c : Cel} (hc : WdC xs c) (h0 : (drf xs c).1 = 0) (hn : (drf xs c).2.1 = a) : Rch xs a c :=
  rch_drf g _ c (Nat.le_refl _) hc (.here ((beh_ref h0).2 hn.symm))
theorem rch_arg {xs : List Cel} {a : Nat} (g : Good xs) {c : Cel} (hc : WdC xs c) (h4 : (drf xs c).1 = 4) {i : Nat} (h1 : 1 ≤ i) (h2 : (i : Int) ≤ numA xs (drf xs c).2.1.toNat) (h : Rch xs a (xs.getD ((drf xs c).2.1.toNat + i) Cel.none)) : Rch xs a c := by
  have hw := (drf_word g hc).1.2.2 h4
  exact rch_drf g _ c (Nat.le_refl _) hc (.on ((beh_str h4).2 (by omega)) h)

/-- A word with which the model's search is done. -/
def DoneW (xs : List Cel) (a : Nat) (S : Nat → Prop) (x : Cel) : Prop := ¬ ((drf xs x).1 = 0 ∧ (drf xs x).2.1 = a) ∧ ((drf xs x).1 = 4 → S (drf xs x).2.1.toNat)
theorem varB_at {xs : List Cel} {n : Int} (h : varB xs n = true) : 0 ≤ n ∧ n < xs.length ∧ kndA xs n.toNat = 0 ∧ numA xs n.toNat = n := by
  unfold varB at h
  simp only [decide_eq_true_eq] at h
  obtain ⟨h1, h2, h3⟩ := h
  exact ⟨h1, h2, h3⟩
theorem done_no {xs : List Cel} {a : Nat} (g : Good xs) (ha : varB xs a = true) {S : Nat → Prop} (hS : ∀ s, S s → ∀ i : Nat, 1 ≤ i → (i : Int) ≤ numA xs s → DoneW xs a S (xs.getD (s + i) Cel.none)) {c : Cel} (hc : WdC xs c) (hd : DoneW xs a S c) : ¬ Rch xs a c := by
  intro h
  have hva : ∀ v : Nat, varB xs v = true → drf xs (xs.getD v Cel.none) = xs.getD v Cel.none ∧ (xs.getD v Cel.none).1 = 0 ∧ (xs.getD v Cel.none).2.1 = v := fun v hv => by
    obtain ⟨v1, v2, v3, v4⟩ := varB_at hv
    simp only [Int.toNat_natCast] at v3 v4
    refine ⟨drf_stop ?_, v3, v4⟩
    have e : (xs.getD v Cel.none).2.1 = v := v4
    unfold onB
    rw [e, hv]
    simp
  have hstr : ∀ {c : Cel} {y : Nat}, WdC xs c → DoneW xs a S c → c.1 = 4 → Beh xs c y → DoneW xs a S (xs.getD y Cel.none) := fun {c y} hc hd h4 hb => by
    have hn : onB xs c = false := by simp [onB, h4]
    have e := drf_stop hn
    have := hd.2
    rw [e] at this
    obtain ⟨r0, r1, r2⟩ := hc.2.2 h4
    rw [beh_str h4] at hb
    have := hS _ (this h4) (y - c.2.1.toNat) (by omega) (by omega)
    rw [show c.2.1.toNat + (y - c.2.1.toNat) = y by omega] at this
    exact this
  induction h with
  | @here c h =>
    by_cases h0 : c.1 = 0
    · have hn := (beh_ref h0).1 h
      have ho : onB xs c = false := by simp [onB, ← hn, ha]
      have := hd.1
      rw [drf_stop ho] at this
      exact this ⟨h0, hn.symm⟩
    · by_cases h4 : c.1 = 4
      · have hd2 := (hstr hc hd h4 h).1
        obtain ⟨e1, e2, e3⟩ := hva a ha
        rw [e1] at hd2
        exact hd2 ⟨e2, e3⟩
      · exact beh_no h0 h4 h
  | @on c y h h2 ih =>
    obtain ⟨hy1, hy2⟩ := beh_word g.shp hc h
    refine ih (g.at hy1 hy2) ?_
    by_cases h0 : c.1 = 0
    · have hn := (beh_ref h0).1 h
      cases ho : onB xs c
      · have hv : varB xs y = true := by
          simp [onB, h0, ← hn] at ho; exact ho
        obtain ⟨e1, e2, e3⟩ := hva y hv
        unfold DoneW at hd ⊢
        rw [drf_stop ho] at hd
        rw [e1]
        refine ⟨fun hh => hd.1 ⟨h0, by omega⟩, fun hh => by omega⟩
      · unfold DoneW at hd ⊢
        rw [drf_step g hc ho, ← hn] at hd
        simpa using hd
    · by_cases h4 : c.1 = 4
      · exact hstr hc hd h4 h
      · exact absurd h (beh_no h0 h4)

open Classical in
/-- What binding the variable a to the word c, which was followed, gives. -/
noncomputable def bndT (xs : List Cel) (tr : List Int) (a : Nat) (c : Cel) : (List Cel × List Int) × Int :=
  if c.1 = 4 ∧ Rch xs a c then (([], []), 5)
  else if 20000 ≤ tr.length then (([], []), 10)
  else if c.1 = 0 ∧ (a : Int) < c.2.1 then ((xs.set c.2.1.toNat (0, a, []), tr ++ [c.2.1]), 0)
  else ((xs.set a c, tr ++ [(a : Int)]), 0)
/-- What BindCell answers. -/
noncomputable def bndA (xs : List Cel) (tr : List Int) (a : Int) (c : Cel) : (List Cel × List Int) × Int :=
  if (vsB xs tr c.1 c.2.1 c.2.2.length && varB xs a) = true then
    (if (drf xs c).1 = 0 ∧ (drf xs c).2.1 = a then (([], []), 1) else bndT xs tr a.toNat (drf xs c))
  else (([], []), 1)

end Go.Proofs.Ytfnmoaiejpkocaa

namespace Go.Proofs.Ytfnmoaiejpkocaa
open Go Go.RowKit
set_option linter.unusedVariables false

/-- The cells in which those at some addresses are variables again. -/
def unwC (xs : List Cel) (ds : List Int) : List Cel := (List.range xs.length).map fun (i : Nat) => if (i : Int) ∈ ds then (0, (i : Int), []) else xs.getD i Cel.none
theorem unwC_len (xs : List Cel) (ds : List Int) : (unwC xs ds).length = xs.length := by simp [unwC]
theorem unwC_at (xs : List Cel) (ds : List Int) (i : Nat) (h : i < xs.length) : (unwC xs ds).getD i Cel.none = if (i : Int) ∈ ds then (0, (i : Int), []) else xs.getD i Cel.none := by
  simp [unwC, List.getD, h]
theorem cels_ext {a b : List Cel} (hl : a.length = b.length) (h : ∀ i, i < a.length → a.getD i Cel.none = b.getD i Cel.none) : a = b := by
  apply List.ext_getElem hl
  intro i h1 h2
  have := h i h1
  simpa [List.getD, h1, h2] using this
theorem unwC_nil (xs : List Cel) : unwC xs [] = xs := cels_ext (unwC_len _ _) fun i hi => by
  rw [unwC_len] at hi
  rw [unwC_at _ _ _ hi, if_neg (by simp)]
theorem unwC_cons (xs : List Cel) (ds : List Int) (a : Nat) (ha : a < xs.length) : (unwC xs ds).set a (0, (a : Int), []) = unwC xs ((a : Int) :: ds) := cels_ext (by simp [unwC_len]) fun i hi => by
  rw [List.length_set, unwC_len] at hi
  rw [unwC_at _ _ _ hi]
  by_cases e : i = a
  · subst e
    simp [List.getD, unwC_len, hi]
  · have e1 : ((unwC xs ds).set a (0, (a : Int), [])).getD i Cel.none = (unwC xs ds).getD i Cel.none := by
      simp only [List.getD, List.getElem?_set]
      have : ¬ a = i := fun x => e x.symm
      simp [this]
    rw [e1, unwC_at _ _ _ hi]
    have e2 : ((i : Int) ∈ (a : Int) :: ds) ↔ (i : Int) ∈ ds := by
      rw [List.mem_cons]
      constructor
      · rintro (h | h)
        · exact absurd (by omega) e
        · exact h
      · exact .inr
    by_cases h9 : (i : Int) ∈ ds
    · rw [if_pos h9, if_pos (e2.2 h9)]
    · rw [if_neg h9, if_neg (fun h => h9 (e2.1 h))]
theorem drop_int (tr : List Int) (j : Nat) (h : j < tr.length) : tr.drop j = tr.getD j 0 :: tr.drop (j + 1) := by
  rw [List.drop_eq_getElem_cons h]; simp [List.getD, h]
/-- What is true of the cells, and of variables, is true of all. -/
theorem unwC_all {P : Cel → Prop} {xs : List Cel} {ds : List Int} (h : ∀ i, i < xs.length → P (xs.getD i Cel.none)) (hv : ∀ i : Nat, i < xs.length → P (0, (i : Int), [])) (i : Nat) (hi : i < xs.length) : P ((unwC xs ds).getD i Cel.none) := by
  rw [unwC_at _ _ _ hi]
  split
  · exact hv i hi
  · exact h i hi
theorem take_at (xs : List Cel) (k i : Nat) (h : i < k) : (xs.take k).getD i Cel.none = xs.getD i Cel.none := by
  simp [List.getD, h]
/-- A head of what is whole is whole if no functor in it reaches beyond. -/
theorem whole_take : ∀ (ys : List Cel) (m : Int) (k : Nat), 0 ≤ m → k ≤ ys.length → (∀ c ∈ ys, c.1 = 3 → 1 ≤ c.2.1) → wholeF m ys = true → (wholeF m (ys.take k) = true ↔ m ≤ k ∧ ∀ i, i < k → (ys.getD i Cel.none).1 = 3 → (i : Int) + (ys.getD i Cel.none).2.1 < k)
  | [], m, k, h0, hk, _, h => by
    obtain rfl : k = 0 := by simpa using hk
    simp [wholeF] at h
    subst h
    simp [wholeF]
  | c :: r, m, 0, h0, hk, hc, h => by
    simp only [List.take_zero, wholeF]
    constructor
    · intro e
      have : m = 0 := by simpa using e
      exact ⟨by omega, fun i hi => absurd hi (Nat.not_lt_zero _)⟩
    · rintro ⟨e, _⟩
      have : m = 0 := by simp at e; omega
      simp [this]
  | c :: r, m, k + 1, h0, hk, hc, h => by
    have hr : ∀ c ∈ r, c.1 = 3 → 1 ≤ c.2.1 := fun x hx => hc x (List.mem_cons_of_mem _ hx)
    have hk' : k ≤ r.length := by simpa using hk
    simp only [List.take_succ_cons, wholeF] at h ⊢
    by_cases k3 : c.1 = 3
    · rw [if_pos k3] at h ⊢
      by_cases hm : 0 < m
      · rw [if_pos hm] at h; cases h
      · rw [if_neg hm] at h ⊢
        have h1 := hc c (List.mem_cons_self ..) k3
        rw [whole_take r c.2.1 k (by omega) hk' hr h]
        constructor
        · rintro ⟨a, b⟩
          refine ⟨by omega, fun i hi h3 => ?_⟩
          cases i with
          | zero => simp; omega
          | succ i =>
            rw [List.getD_cons_succ] at h3 ⊢
            have := b i (by omega) h3
            omega
        · rintro ⟨a, b⟩
          refine ⟨?_, fun i hi h3 => ?_⟩
          · have := b 0 (by omega) (by simpa using k3)
            simp at this; omega
          · have := b (i + 1) (by omega) (by rw [List.getD_cons_succ]; exact h3)
            rw [List.getD_cons_succ] at this; omega
    · rw [if_neg k3] at h ⊢
      have hm' : 0 ≤ (if 0 < m then m - 1 else m) := by split <;> omega
      rw [whole_take r _ k hm' hk' hr h]
      constructor
      · rintro ⟨a, b⟩
        refine ⟨by split at a <;> omega, fun i hi h3 => ?_⟩
        cases i with
        | zero => exact absurd (by simpa using h3) k3
        | succ i =>
          rw [List.getD_cons_succ] at h3 ⊢
          have := b i (by omega) h3
          omega
      · rintro ⟨a, b⟩
        refine ⟨by split <;> omega, fun i hi h3 => ?_⟩
        have := b (i + 1) (by omega) (by rw [List.getD_cons_succ]; exact h3)
        rw [List.getD_cons_succ] at this; omega

/-- May it be unwound so? -/
noncomputable def unwB (xs : List Cel) (tr : List Int) (mark top : Int) : Bool := storeB xs tr && (decide (0 ≤ mark ∧ mark ≤ tr.length) && (decide (0 ≤ top ∧ top ≤ xs.length) && wholeF 0 (xs.take top.toNat)))
def unwX (xs : List Cel) (tr : List Int) (mark top : Int) : List Cel := (unwC xs (tr.drop mark.toNat)).take top.toNat
def unwT (tr : List Int) (mark : Int) : List Int := tr.take mark.toNat
/-- What Unwind answers. -/
noncomputable def unwA (xs : List Cel) (tr : List Int) (mark top : Int) : (List Cel × List Int) × Int :=
  if unwB xs tr mark top = true then (if storeB (unwX xs tr mark top) (unwT tr mark) = true then ((unwX xs tr mark top, unwT tr mark), 0) else (([], []), 4)) else (([], []), 1)
theorem unwX_all {P : Cel → Prop} {xs : List Cel} {tr : List Int} {mark top : Int} (h : ∀ i, i < xs.length → P (xs.getD i Cel.none)) (hv : ∀ i : Nat, i < xs.length → P (0, (i : Int), [])) (i : Nat) (hi : i < (unwX xs tr mark top).length) : P ((unwX xs tr mark top).getD i Cel.none) := by
  unfold unwX at hi ⊢
  rw [List.length_take, unwC_len] at hi
  rw [take_at _ _ _ (by omega)]
  exact unwC_all h hv i (by omega)
theorem okW_var (i : Nat) (h : i < 20000) : okW 0 (i : Int) ([] : List Int).length = true := by
  simp [okW, cellB]; omega

end Go.Proofs.Ytfnmoaiejpkocaa

