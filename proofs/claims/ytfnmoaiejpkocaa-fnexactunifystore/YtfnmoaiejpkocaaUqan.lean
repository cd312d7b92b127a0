/- Texts of StR, BdP, DrA. Own work of the verifier. -/
import Derived.Test.YtfnmoaiejpkocaaUqae
import Derived.Test.YtfnmoaiejpkocaaUqai
import Derived.Handy
namespace Go.Proofs.Ytfnmoaiejpkocaa
open Go Go.RowKit
set_option linter.unusedVariables false

/-- The greatest of f 0 .. f (n - 1). -/
def supF (f : Nat → Nat) : Nat → Nat
  | 0 => 0
  | n + 1 => max (supF f n) (f n)
theorem le_supF (f : Nat → Nat) : ∀ (n i : Nat), i < n → f i ≤ supF f n
  | 0, i, h => absurd h (Nat.not_lt_zero _)
  | n + 1, i, h => by
    simp only [supF]
    rcases Nat.lt_or_eq_of_le (Nat.lt_succ_iff.1 h) with h | rfl
    · have := le_supF f n i h; omega
    · omega
open Classical in
/-- How many steps a word leads at most. -/
noncomputable def rkA (xs : List Cel) (a : Nat) (h : Acc (Kid xs) a) : Nat :=
  Acc.rec (motive := fun _ _ => Nat) (fun a _ ih => 1 + supF (fun i => if hk : Kid xs i a then ih i hk else 0) (endK xs a)) h
open Classical in
theorem rkA_lt {xs : List Cel} {a y : Nat} (h : Acc (Kid xs) a) (hk : Kid xs y a) : rkA xs y (h.inv hk) < rkA xs a h := by
  have e : rkA xs a h = 1 + supF (fun i => if hk : Kid xs i a then rkA xs i (h.inv hk) else 0) (endK xs a) := by
    cases h with
    | intro _ f => rfl
  have := le_supF (fun i => if hk : Kid xs i a then rkA xs i (h.inv hk) else 0) (endK xs a) y hk.2.2
  simp only [dif_pos hk] at this
  omega
open Classical in
noncomputable def rk (xs : List Cel) (a : Nat) : Nat := if h : Acc (Kid xs) a then rkA xs a h else 0
theorem rk_lt {xs : List Cel} {a y : Nat} (h : Acc (Kid xs) a) (hk : Kid xs y a) : rk xs y < rk xs a := by
  unfold rk
  rw [dif_pos h, dif_pos (h.inv hk)]
  exact rkA_lt h hk
/-- The same of a word: how many references may be followed. -/
noncomputable def rkW (xs : List Cel) (c : Cel) : Nat := if c.1 = 0 then rk xs c.2.1.toNat + 1 else 0

/-- A word of a store, by its kind and number. -/
def WdC (xs : List Cel) (c : Cel) : Prop := (c.1 = 0 ∨ c.1 = 1 ∨ c.1 = 2 ∨ c.1 = 4) ∧ (c.1 = 0 → 0 ≤ c.2.1 ∧ c.2.1 < xs.length ∧ kndA xs c.2.1.toNat ≠ 3) ∧ (c.1 = 4 → 0 ≤ c.2.1 ∧ c.2.1 < xs.length ∧ kndA xs c.2.1.toNat = 3)
/-- A store that is as it has to be. -/
structure Good (xs : List Cel) : Prop where
  shp : Shp xs
  acyc : Acyc xs
theorem Good.at {xs : List Cel} (h : Good xs) {a : Nat} (ha : a < xs.length) (h3 : kndA xs a ≠ 3) : WdC xs (xs.getD a Cel.none) := by
  refine ⟨?_, fun k => h.shp.refs a ha k, fun k => h.shp.stru a ha k⟩
  have := h.shp.knds a ha
  unfold kndA at this h3
  omega
theorem WdC.of_word {xs : List Cel} {c : Cel} (h : wordB xs c.1 c.2.1 c.2.2.length = true) : WdC xs c := by
  unfold wordB at h
  rw [Bool.and_eq_true] at h
  obtain ⟨ho, hl⟩ := h
  have hk : c.1 = 0 ∨ c.1 = 1 ∨ c.1 = 2 ∨ c.1 = 3 ∨ c.1 = 4 := by
    unfold okW at ho
    split at ho
    · omega
    · simp [cellB] at ho; omega
  unfold leadB at hl
  refine ⟨?_, fun k => ?_, fun k => ?_⟩
  · rcases hk with k | k | k | k | k
    · exact .inl k
    · exact .inr (.inl k)
    · exact .inr (.inr (.inl k))
    · rw [k] at hl; simp at hl
    · exact .inr (.inr (.inr k))
  · rw [if_pos k] at hl
    simpa [isWB] using hl
  · rw [k] at hl
    simp at hl
    simpa [funB] using hl

/-- Is it a reference that leads on? -/
def onB (xs : List Cel) (c : Cel) : Bool := decide (c.1 = 0) && !varB xs c.2.1
noncomputable def derN (xs : List Cel) : Nat → Cel → Cel
  | 0, c => c
  | f + 1, c => if onB xs c = true then derN xs f (xs.getD c.2.1.toNat Cel.none) else c
/-- The word to which references lead. -/
noncomputable def drf (xs : List Cel) (c : Cel) : Cel := derN xs (rkW xs c) c
theorem on_ref {xs : List Cel} {c : Cel} (h : onB xs c = true) : c.1 = 0 ∧ varB xs c.2.1 = false := by
  simpa [onB] using h
/-- Behind a reference the way is shorter. -/
theorem rk_next {xs : List Cel} (g : Good xs) {c : Cel} (hc : WdC xs c) (h : onB xs c = true) : rkW xs (xs.getD c.2.1.toNat Cel.none) < rkW xs c ∧ WdC xs (xs.getD c.2.1.toNat Cel.none) := by
  obtain ⟨h0, hv⟩ := on_ref h
  obtain ⟨r0, r1, r2⟩ := hc.2.1 h0
  have ha : c.2.1.toNat < xs.length := by omega
  refine ⟨?_, g.at ha r2⟩
  unfold rkW
  rw [if_pos h0]
  by_cases hk : (xs.getD c.2.1.toNat Cel.none).1 = 0
  · rw [if_pos hk]
    have hkid : Kid xs (xs.getD c.2.1.toNat Cel.none).2.1.toNat c.2.1.toNat := by
      refine ⟨?_, ?_, ?_⟩
      · rw [show ((c.2.1.toNat : Nat) : Int) = c.2.1 by omega]; exact hv
      · unfold firstK kndA; rw [if_pos hk]; exact Nat.le_refl _
      · unfold endK kndA; rw [if_pos hk]; exact Nat.lt_succ_self _
    have := rk_lt (g.acyc _ ha) hkid
    omega
  · rw [if_neg hk]; omega
theorem derN_more {xs : List Cel} (g : Good xs) : ∀ (f : Nat) (c : Cel), WdC xs c → rkW xs c ≤ f → derN xs f c = drf xs c := by
  intro f
  induction f with
  | zero =>
    intro c hc h
    unfold drf
    rw [show rkW xs c = 0 by omega]
  | succ f ih =>
    intro c hc h
    unfold drf
    cases hr : rkW xs c with
    | zero =>
      have h0 : ¬ c.1 = 0 := fun h0 => by unfold rkW at hr; rw [if_pos h0] at hr; omega
      have : onB xs c = false := by simp [onB, h0]
      simp [derN, this]
    | succ m =>
      simp only [derN]
      by_cases ho : onB xs c = true
      · rw [if_pos ho, if_pos ho]
        obtain ⟨n1, n2⟩ := rk_next g hc ho
        rw [ih _ n2 (by omega)]
        -- the shorter fuel serves, too
        have aux : ∀ (f : Nat) (c : Cel), WdC xs c → rkW xs c ≤ f → derN xs f c = derN xs (rkW xs c) c := by
          intro f
          induction f with
          | zero => intro c _ h; rw [show rkW xs c = 0 by omega]
          | succ f ih2 =>
            intro c hc h
            cases hr2 : rkW xs c with
            | zero =>
              have h0 : ¬ c.1 = 0 := fun h0 => by unfold rkW at hr2; rw [if_pos h0] at hr2; omega
              have : onB xs c = false := by simp [onB, h0]
              simp [derN, this]
            | succ k =>
              simp only [derN]
              by_cases ho : onB xs c = true
              · rw [if_pos ho, if_pos ho]
                obtain ⟨n1, n2⟩ := rk_next g hc ho
                rw [ih2 _ n2 (by omega)]
                by_cases hkf : k ≤ f
                · -- both are the same at the least fuel
                  have e1 := ih2 (xs.getD c.2.1.toNat Cel.none) n2 (by omega)
                  clear ih2
                  have : ∀ (a b : Nat) (c : Cel), WdC xs c → rkW xs c ≤ a → a ≤ b → derN xs b c = derN xs a c := by
                    intro a
                    induction a with
                    | zero =>
                      intro b c hc h hab
                      have h0 : ¬ c.1 = 0 := fun h0 => by unfold rkW at h; rw [if_pos h0] at h; omega
                      have hn : onB xs c = false := by simp [onB, h0]
                      cases b with
                      | zero => rfl
                      | succ b => simp [derN, hn]
                    | succ a iha =>
                      intro b c hc h hab
                      obtain ⟨b, rfl⟩ : ∃ b', b = b' + 1 := ⟨b - 1, by omega⟩
                      simp only [derN]
                      by_cases ho : onB xs c = true
                      · rw [if_pos ho, if_pos ho]
                        obtain ⟨m1, m2⟩ := rk_next g hc ho
                        exact iha b _ m2 (by omega) (by omega)
                      · rw [if_neg ho, if_neg ho]
                  exact (this _ k _ n2 (Nat.le_refl _) (by omega)).symm
                · omega
              · rw [if_neg ho, if_neg ho]
        exact (aux m _ n2 (by omega)).symm
      · rw [if_neg ho, if_neg ho]
theorem drf_step {xs : List Cel} (g : Good xs) {c : Cel} (hc : WdC xs c) (h : onB xs c = true) : drf xs c = drf xs (xs.getD c.2.1.toNat Cel.none) := by
  obtain ⟨n1, n2⟩ := rk_next g hc h
  have : drf xs c = derN xs (rkW xs c) c := rfl
  rw [this]
  obtain ⟨m, hm⟩ : ∃ m, rkW xs c = m + 1 := ⟨rkW xs c - 1, by omega⟩
  rw [hm]
  simp only [derN, if_pos h]
  exact derN_more g m _ n2 (by omega)
theorem drf_stop {xs : List Cel} {c : Cel} (h : onB xs c = false) : drf xs c = c := by
  unfold drf
  cases rkW xs c with
  | zero => rfl
  | succ m => simp [derN, h]
/-- What holds of every word on the way, holds of the last. -/
theorem drf_ind {xs : List Cel} (g : Good xs) {P : Cel → Prop} (hP : ∀ a, a < xs.length → kndA xs a ≠ 3 → P (xs.getD a Cel.none)) : ∀ (n : Nat) (c : Cel), rkW xs c ≤ n → WdC xs c → P c → P (drf xs c) ∧ WdC xs (drf xs c) ∧ onB xs (drf xs c) = false := by
  intro n
  induction n with
  | zero =>
    intro c hr hc hp
    have h0 : ¬ c.1 = 0 := fun h0 => by unfold rkW at hr; rw [if_pos h0] at hr; omega
    have hn : onB xs c = false := by simp [onB, h0]
    rw [drf_stop hn]
    exact ⟨hp, hc, hn⟩
  | succ n ih =>
    intro c hr hc hp
    cases ho : onB xs c
    · rw [drf_stop ho]; exact ⟨hp, hc, ho⟩
    · obtain ⟨n1, n2⟩ := rk_next g hc ho
      obtain ⟨h0, hv⟩ := on_ref ho
      obtain ⟨r0, r1, r2⟩ := hc.2.1 h0
      rw [drf_step g hc ho]
      exact ih _ (by omega) n2 (hP _ (by omega) r2)
theorem drf_word {xs : List Cel} (g : Good xs) {c : Cel} (hc : WdC xs c) : WdC xs (drf xs c) ∧ onB xs (drf xs c) = false :=
  (drf_ind g (P := fun _ => True) (fun _ _ _ => trivial) _ c (Nat.le_refl _) hc trivial).2

theorem storeB_ok {xs : List Cel} {tr : List Int} (h : storeB xs tr = true) (a : Nat) (ha : a < xs.length) : okW (xs.getD a Cel.none).1 (xs.getD a Cel.none).2.1 (xs.getD a Cel.none).2.2.length = true := by
  unfold storeB at h
  simp only [Bool.and_eq_true, decide_eq_true_eq] at h
  have := List.all_eq_true.1 h.1.1.2.1 _ (mem_at ha)
  simp only [goodC, Bool.and_eq_true] at this
  exact this.1
theorem okW_text {k n : Int} {t : List Int} (h : okW k n t.length = true) (h2 : k ≠ 2) (h3 : k ≠ 3) : t = [] := by
  have : t.length = 0 := by
    generalize t.length = m at h
    unfold okW at h
    split at h
    · simpa using h
    · simp only [cellB, decide_eq_true_eq] at h; omega
  exact List.length_eq_zero_iff.1 this

end Go.Proofs.Ytfnmoaiejpkocaa

namespace Go.Proofs.Ytfnmoaiejpkocaa
open Go Go.RowKit
set_option linter.unusedVariables false

/-- y lies right behind the word c. -/
def Beh (xs : List Cel) (c : Cel) (y : Nat) : Prop := fW c.1 c.2.1 ≤ y ∧ (y : Int) < eW xs c.1 c.2.1
/-- The address a lies on a way from the word c. -/
inductive Rch (xs : List Cel) (a : Nat) : Cel → Prop
  | here {c : Cel} (h : Beh xs c a) : Rch xs a c
  | on {c : Cel} {y : Nat} (h : Beh xs c y) (h2 : Rch xs a (xs.getD y Cel.none)) : Rch xs a c

theorem beh_ref {xs : List Cel} {c : Cel} (h0 : c.1 = 0) {y : Nat} : Beh xs c y ↔ (y : Int) = c.2.1 := by
  unfold Beh fW eW
  rw [if_pos h0, if_pos h0]
  omega
theorem beh_str {xs : List Cel} {c : Cel} (h4 : c.1 = 4) {y : Nat} : Beh xs c y ↔ (c.2.1 + 1 ≤ y ∧ (y : Int) < c.2.1 + 1 + numA xs c.2.1.toNat) := by
  unfold Beh fW eW
  have h0 : ¬ c.1 = 0 := by omega
  rw [if_neg h0, if_neg h0, if_pos h4, if_pos h4]
theorem beh_no {xs : List Cel} {c : Cel} (h0 : c.1 ≠ 0) (h4 : c.1 ≠ 4) {y : Nat} : ¬ Beh xs c y := by
  unfold Beh fW eW
  rw [if_neg h0, if_neg h0, if_neg h4, if_neg h4]
  omega
theorem beh_word {xs : List Cel} (g : Shp xs) {c : Cel} (hc : WdC xs c) {y : Nat} (h : Beh xs c y) : y < xs.length ∧ kndA xs y ≠ 3 := by
  by_cases h0 : c.1 = 0
  · obtain ⟨r0, r1, r2⟩ := hc.2.1 h0
    rw [beh_ref h0] at h
    rw [show y = c.2.1.toNat by omega]
    exact ⟨by omega, r2⟩
  · by_cases h4 : c.1 = 4
    · obtain ⟨r0, r1, r2⟩ := hc.2.2 h4
      rw [beh_str h4] at h
      obtain ⟨_, _, f3⟩ := g.funs c.2.1.toNat (by omega) r2
      have := f3 (y - c.2.1.toNat) (by omega) (by omega)
      rw [show c.2.1.toNat + (y - c.2.1.toNat) = y by omega] at this
      exact this
    · exact absurd h (beh_no h0 h4)

/-- Where all that was gone through leads to what was gone through, and never to a, a is on no way. -/
theorem rch_no {xs : List Cel} {a : Nat} {V : Nat → Prop} (hV : ∀ x, V x → ∀ y, Beh xs (xs.getD x Cel.none) y → y ≠ a ∧ (V y ∨ ∀ z, ¬ Beh xs (xs.getD y Cel.none) z)) {c : Cel}
    (hc : ∀ y, Beh xs c y → y ≠ a ∧ (V y ∨ ∀ z, ¬ Beh xs (xs.getD y Cel.none) z)) : ¬ Rch xs a c := by
  intro h
  induction h with
  | here h => exact (hc _ h).1 rfl
  | on h h2 ih =>
    rcases (hc _ h).2 with hv | hl
    · exact ih (hV _ hv)
    · cases h2 with
      | here h3 => exact hl _ h3
      | on h3 _ => exact hl _ h3

theorem rch_drf {xs : List Cel} {a : Nat} (g : Good xs) : ∀ (n : Nat) (c : Cel), rkW xs c ≤ n → WdC xs c → Rch xs a (drf xs c) → Rch xs a c := by
  intro n
  induction n with
  | zero =>
    intro c hr hc h
    have h0 : ¬ c.1 = 0 := fun h0 => by unfold rkW at hr; rw [if_pos h0] at hr; omega
    have hn : onB xs c = false := by simp [onB, h0]
    rw [drf_stop hn] at h
    exact h
  | succ n ih =>
    intro c hr hc h
    cases ho : onB xs c
    · rw [drf_stop ho] at h; exact h
    · obtain ⟨n1, n2⟩ := rk_next g hc ho
      obtain ⟨h0, hv⟩ := on_ref ho
      obtain ⟨r0, r1, r2⟩ := hc.2.1 h0
      rw [drf_step g hc ho] at h
      exact .on ((beh_ref h0).2 (by omega)) (ih _ (by omega) n2 h)
/-- A variable lies on a way from every reference that ends at it. -/
theorem rch_var {xs : List Cel} {a : Nat} (g : Good xs) {c : Cel} (hc : WdC xs c) (h0 : (drf xs c).1 = 0) (hn : (drf xs c).2.1 = a) : Rch xs a c :=
  rch_drf g _ c (Nat.le_refl _) hc (.here ((beh_ref h0).2 hn.symm))
theorem rch_arg {xs : List Cel} {a : Nat} (g : Good xs) {c : Cel} (hc : WdC xs c) (h4 : (drf xs c).1 = 4) {i : Nat} (h1 : 1 ≤ i) (h2 : (i : Int) ≤ numA xs (drf xs c).2.1.toNat) (h : Rch xs a (xs.getD ((drf xs c).2.1.toNat + i) Cel.none)) : Rch xs a c := by
  have hw := (drf_word g hc).1.2.2 h4
  exact rch_drf g _ c (Nat.le_refl _) hc (.on ((beh_str h4).2 (by omega)) h)

/-- A word with which the model's search is done. -/
def DoneW (xs : List Cel) (a : Nat) (S : Nat → Prop) (x : Cel) : Prop := ¬ ((drf xs x).1 = 0 ∧ (drf xs x).2.1 = a) ∧ ((drf xs x).1 = 4 → S (drf xs x).2.1.toNat)
theorem varB_at {xs : List Cel} {n : Int} (h : varB xs n = true) : 0 ≤ n ∧ n < xs.length ∧ kndA xs n.toNat = 0 ∧ numA xs n.toNat = n := by
  unfold varB at h
  simp only [decide_eq_true_eq] at h
  obtain ⟨h1, h2, h3⟩ := h
  exact ⟨h1, h2, h3⟩
theorem done_no {xs : List Cel} {a : Nat} (g : Good xs) (ha : varB xs a = true) {S : Nat → Prop} (hS : ∀ s, S s → ∀ i : Nat, 1 ≤ i → (i : Int) ≤ numA xs s → DoneW xs a S (xs.getD (s + i) Cel.none)) {c : Cel} (hc : WdC xs c) (hd : DoneW xs a S c) : ¬ Rch xs a c := by
  intro h
  have hva : ∀ v : Nat, varB xs v = true → drf xs (xs.getD v Cel.none) = xs.getD v Cel.none ∧ (xs.getD v Cel.none).1 = 0 ∧ (xs.getD v Cel.none).2.1 = v := fun v hv => by
    obtain ⟨v1, v2, v3, v4⟩ := varB_at hv
    simp only [Int.toNat_natCast] at v3 v4
    refine ⟨drf_stop ?_, v3, v4⟩
    have e : (xs.getD v Cel.none).2.1 = v := v4
    unfold onB
    rw [e, hv]
    simp
  have hstr : ∀ {c : Cel} {y : Nat}, WdC xs c → DoneW xs a S c → c.1 = 4 → Beh xs c y → DoneW xs a S (xs.getD y Cel.none) := fun {c y} hc hd h4 hb => by
    have hn : onB xs c = false := by simp [onB, h4]
    have e := drf_stop hn
    have := hd.2
    rw [e] at this
    obtain ⟨r0, r1, r2⟩ := hc.2.2 h4
    rw [beh_str h4] at hb
    have := hS _ (this h4) (y - c.2.1.toNat) (by omega) (by omega)
    rw [show c.2.1.toNat + (y - c.2.1.toNat) = y by omega] at this
    exact this
  induction h with
  | @here c h =>
    by_cases h0 : c.1 = 0
    · have hn := (beh_ref h0).1 h
      have ho : onB xs c = false := by simp [onB, ← hn, ha]
      have := hd.1
      rw [drf_stop ho] at this
      exact this ⟨h0, hn.symm⟩
    · by_cases h4 : c.1 = 4
      · have hd2 := (hstr hc hd h4 h).1
        obtain ⟨e1, e2, e3⟩ := hva a ha
        rw [e1] at hd2
        exact hd2 ⟨e2, e3⟩
      · exact beh_no h0 h4 h
  | @on c y h h2 ih =>
    obtain ⟨hy1, hy2⟩ := beh_word g.shp hc h
    refine ih (g.at hy1 hy2) ?_
    by_cases h0 : c.1 = 0
    · have hn := (beh_ref h0).1 h
      cases ho : onB xs c
      · have hv : varB xs y = true := by
          simp [onB, h0, ← hn] at ho; exact ho
        obtain ⟨e1, e2, e3⟩ := hva y hv
        unfold DoneW at hd ⊢
        rw [drf_stop ho] at hd
        rw [e1]
        refine ⟨fun hh => hd.1 ⟨h0, by omega⟩, fun hh => by omega⟩
      · unfold DoneW at hd ⊢
        rw [drf_step g hc ho, ← hn] at hd
        simpa using hd
    · by_cases h4 : c.1 = 4
      · exact hstr hc hd h4 h
      · exact absurd h (beh_no h0 h4)

open Classical in
/-- What binding the variable a to the word c, which was followed, gives. -/
noncomputable def bndT (xs : List Cel) (tr : List Int) (a : Nat) (c : Cel) : (List Cel × List Int) × Int :=
  if c.1 = 4 ∧ Rch xs a c then (([], []), 5)
  else if 20000 ≤ tr.length then (([], []), 10)
  else if c.1 = 0 ∧ (a : Int) < c.2.1 then ((xs.set c.2.1.toNat (0, a, []), tr ++ [c.2.1]), 0)
  else ((xs.set a c, tr ++ [(a : Int)]), 0)
/-- What BindCell answers. -/
noncomputable def bndA (xs : List Cel) (tr : List Int) (a : Int) (c : Cel) : (List Cel × List Int) × Int :=
  if (vsB xs tr c.1 c.2.1 c.2.2.length && varB xs a) = true then
    (if (drf xs c).1 = 0 ∧ (drf xs c).2.1 = a then (([], []), 1) else bndT xs tr a.toNat (drf xs c))
  else (([], []), 1)

end Go.Proofs.Ytfnmoaiejpkocaa

namespace Go.Proofs.Ytfnmoaiejpkocaa
open Go Go.RowKit Go.Maps
set_option linter.unusedVariables false

/-- How many references may be followed from a word as it lies. -/
noncomputable def rkV (xs : List Cel) : Value → Nat
  | .iface t (.int _ n) => if t = 100 then rk xs n.toNat + 1 else 0
  | _ => 0
theorem rkV_wv (xs : List Cel) (c : Cel) : rkV xs (wv c) = rkW xs c := by
  unfold wv rkW
  split
  · simp [rkV]
  · split
    · simp [rkV]
    · split
      · rfl
      · split
        · rfl
        · simp [rkV]
theorem WdC.knd {xs : List Cel} {c : Cel} (h : WdC xs c) : c.1 = 0 ∨ c.1 = 1 ∨ c.1 = 2 ∨ c.1 = 3 ∨ c.1 = 4 := by
  have := h.1; omega

set_option maxHeartbeats 1000000 in
set_option maxRecDepth 100000 in
theorem deref_any (h : Nat) (c : Cel) (xs : List Cel) (tr : List Int) (w : World) (g : Good xs) (hc : WdC xs c) (H : HeapAt w h xs tr) :
    Calls Try.prog 45 #[.pointer (some ⟨h, 0, none⟩), wv c] w fun e w' => e = .returned (wv (drf xs c)) ∧ Below w.heap.size w w' := by
  have HH : Hid (HeapAt w h xs tr) := H
  have HG : Hid (Good xs) := g
  have HC : Hid (WdC xs c) := hc
  have hl := g.shp.len
  obtain ⟨v0, ev0⟩ : ∃ v, v = wv c := ⟨_, rfl⟩
  have HV0 : Hid (v0 = wv c) := ev0
  rw [← ev0]
  clear H g hc ev0
  go_enter Try.func45, Try.ntmps45
  go_wp2
  go_loopw [1] (fun v wr => ∃ c', Hid (v = wv c') ∧ Hid (WdC xs c') ∧ Hid (drf xs c' = drf xs c) ∧ Hid (Below w.heap.size w wr)) (fun v _ => rkV xs v)
  case atStart => exact ⟨c, HV0, HC, rfl, Below.refl _ _⟩
  case round v =>
    obtain ⟨c', HV, HW, HD, HB⟩ := hrel
    have I := (isW c' HW.out.knd).rf
    have HHr : Hid (HeapAt wr h xs tr) := HH.out.below HB.out
    rw [← HV.out] at I
    by_cases k0 : c'.1 = 0
    · simp only [k0, if_true, decide_true] at I
      obtain ⟨r0, r1, r2⟩ := HW.out.2.1 k0
      obtain ⟨j, ej⟩ : ∃ j : Nat, c'.2.1 = j := ⟨c'.2.1.toNat, by omega⟩
      have hj : j < xs.length := by omega
      rw [ej] at I
      have HJ : Hid (c'.1 = 0 ∧ c'.2.1 = j) := ⟨k0, ej⟩
      have HVA := holdsVariable_any h j xs tr wr hl HG.out.shp.knds HHr.out
      obtain ⟨pw, cw, pt, ct, h0, _, hw, _⟩ := HHr.out
      obtain ⟨gg, rfl, hcs⟩ := hw (by omega)
      have hv := hcs j hj
      have hlt := World.block_lt_of_cell? _ _ h0
      have hlt' := World.block_lt_of_cell? _ _ hv
      have HNX : Hid (wv (xs.getD j Cel.none) = wv (xs.getD j Cel.none)) := rfl
      obtain ⟨vn, evn⟩ : ∃ v, v = wv (xs.getD j Cel.none) := ⟨_, rfl⟩
      rw [← evn] at hv
      have HVN : Hid (vn = wv (xs.getD j Cel.none)) := evn
      clear hcs hw k0 ej r0 r1 r2 evn HNX
      cases hb : varB xs j
      · rw [hb] at HVA
        have HO : Hid (onB xs c' = true) := by show _ = _; simp [onB, HJ.out.1, HJ.out.2, hb]
        clear hb
        go_wp2_with fail
        refine HVA.mono ?_
        rintro e w2 ⟨rfl, hb2⟩
        have h0' := (hb2.cell hlt).trans h0
        have hv' := (hb2.cell hlt').trans hv
        have HB2 : Hid (Below w.heap.size w w2) := Below.on HB.out hb2
        clear hb2 h0 hv HVA hlt hlt'
        go_wp2
        have hn := rk_next HG.out HW.out HO.out
        have hs := drf_step HG.out HW.out HO.out
        have e1 : c'.2.1.toNat = j := by rw [HJ.out.2]; rfl
        rw [e1] at hn hs
        go_roundw
        case rel => exact ⟨xs.getD j Cel.none, HVN.out, hn.2, by show _ = _; rw [← hs]; exact HD.out, HB2.out⟩
        case measure => rw [HVN.out, HV.out, rkV_wv, rkV_wv]; exact hn.1
      · rw [hb] at HVA
        have HO : Hid (onB xs c' = false) := by show _ = _; simp [onB, HJ.out.1, HJ.out.2, hb]
        clear hb h0 hv hlt hlt'
        go_wp2_with fail
        refine HVA.mono ?_
        rintro e w2 ⟨rfl, hb2⟩
        have HB2 : Hid (Below w.heap.size w w2) := Below.on HB.out hb2
        clear hb2 HVA
        go_wp2
        go_ret
        exact ⟨by rw [HV.out, ← HD.out, drf_stop HO.out]; rfl, HB2.out⟩
    · simp only [k0, if_false, decide_false] at I
      have HO : Hid (onB xs c' = false) := by show _ = _; simp [onB, k0]
      clear k0
      go_wp2
      go_ret
      exact ⟨by rw [HV.out, ← HD.out, drf_stop HO.out]; rfl, HB.out⟩

set_option maxRecDepth 100000 in
theorem refCell_any (n : Int) (w : World) : Calls Try.prog 135 #[.int .i64 n] w fun e w' => e = .returned (.agg #[.int .i64 0, .int .i64 n, .slice none 0 0]) ∧ Below w.heap.size w w' := by
  go_enter Try.func135, Try.ntmps135
  go_wp2
  exact bodyPost_ret (v := .agg #[.int .i64 0, .int .i64 n, .slice none 0 0]) (by simp [results, Try.results135, go_sem]) rfl ⟨rfl, by first | exact Below.refl _ _ | exact (Below.refl _ _).alloc (Nat.le_refl _) _⟩
set_option maxRecDepth 100000 in
theorem numCell_any (n : Int) (w : World) : Calls Try.prog 138 #[.int .i64 n] w fun e w' => e = .returned (.agg #[.int .i64 1, .int .i64 n, .slice none 0 0]) ∧ Below w.heap.size w w' := by
  go_enter Try.func138, Try.ntmps138
  go_wp2
  exact bodyPost_ret (v := .agg #[.int .i64 1, .int .i64 n, .slice none 0 0]) (by simp [results, Try.results138, go_sem]) rfl ⟨rfl, by first | exact Below.refl _ _ | exact (Below.refl _ _).alloc (Nat.le_refl _) _⟩
set_option maxRecDepth 100000 in
theorem strCell_any (n : Int) (w : World) : Calls Try.prog 141 #[.int .i64 n] w fun e w' => e = .returned (.agg #[.int .i64 4, .int .i64 n, .slice none 0 0]) ∧ Below w.heap.size w w' := by
  go_enter Try.func141, Try.ntmps141
  go_wp2
  exact bodyPost_ret (v := .agg #[.int .i64 4, .int .i64 n, .slice none 0 0]) (by simp [results, Try.results141, go_sem]) rfl ⟨rfl, by first | exact Below.refl _ _ | exact (Below.refl _ _).alloc (Nat.le_refl _) _⟩
set_option maxRecDepth 100000 in
theorem atomCell_any (t : List Int) (w : World) (hx : Byte t) : Calls Try.prog 140 #[.string (strOfNums t)] w fun e w' => ∃ p c, e = .returned (.agg #[.int .i64 2, .int .i64 0, .slice p t.length c]) ∧ OwnT w' w.heap.size p t.length c t ∧ Below w.heap.size w w' := by
  obtain ⟨w1, cap, hcv, hb1, hb2⟩ := conv_bytes (w.alloc (.cells #[.int .i64 0, .int .i64 0, .slice none 0 0] 31)) t hx 122 Try.underlying122
  have b0 : Box3 w1 w.heap.size (.int .i64 0) (.int .i64 0) (.slice none 0 0) := Box3.of_block (t := 31) ((hb1.block _ (by simp)).trans (heap_alloc_new _ _))
  have HB : Hid (Below w.heap.size w w1) := Below.on ((Below.refl _ _).alloc (Nat.le_refl _) _) hb1
  simp only [World.size_alloc] at hb2 hcv
  have HO : Hid (OwnT w1 (w.heap.size + 1) (some ⟨w.heap.size + 1, 0, none⟩) t.length cap t) := hb2
  obtain ⟨c0, c1, c2, f1⟩ := b0
  have HD : Hid _ := box3_set c0 c1 c2 (.int .i64 2) (.int .i64 0) (.slice (some ⟨w.heap.size + 1, 0, none⟩) t.length cap)
  clear hx hb1 hb2
  go_enter Try.func140, Try.ntmps140
  go_wp2
  obtain ⟨d0, d1, d2⟩ := HD.out
  refine bodyPost_ret (v := .agg #[.int .i64 2, .int .i64 0, .slice (some ⟨w.heap.size + 1, 0, none⟩) t.length cap]) (by simp [results, Try.results140, go_sem, d0, d1, d2]) rfl ⟨_, _, rfl, ?_, ?_⟩
  · exact (((HO.out.setCell (a := ⟨w.heap.size, 0, none⟩) (fun _ => by simp) _).setCell (a := ⟨w.heap.size, 1, none⟩) (fun _ => by simp) _).setCell (a := ⟨w.heap.size, 2, none⟩) (fun _ => by simp) _).mono (by omega)
  · exact ((HB.out.setCell (p := ⟨_, _, none⟩) (Nat.le_refl _) _).setCell (p := ⟨_, _, none⟩) (Nat.le_refl _) _).setCell (p := ⟨_, _, none⟩) (Nat.le_refl _) _

end Go.Proofs.Ytfnmoaiejpkocaa

