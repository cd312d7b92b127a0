/- Texts of Cell3, IsC, StP. Own work of the verifier. -/
import Derived.Test.YtedkkghekboahaaUqad
import Derived.Deep.RegionWith
namespace Go.Proofs.Ytedkkghekboahaa
open Go Go.RowKit
set_option linter.unusedVariables false

theorem eqCell_any (k1 n1 k2 n2 : Int) (p q : Option Addr) (m1 m2 c1 c2 : Nat) (xs ys : List Int) (w : World) (hl1 : m1 = xs.length) (hl2 : m2 = ys.length) (hn : m1 ≤ 1000000000) (hm : m2 ≤ 1000000000) (hx : BIn w p xs) (hy : BIn w q ys) :
    Calls Try.prog 15 #[.agg #[.int .i64 k1, .int .i64 n1, .slice p m1 c1], .agg #[.int .i64 k2, .int .i64 n2, .slice q m2 c2]] w fun e w' => e = .returned (.bool (decide (((k1, n1, xs) : Cel) = (k2, n2, ys)))) ∧ Below w.heap.size w w' := by
  subst hl1 hl2
  have HSS : Hid (∀ W, Below w.heap.size w W → Calls Try.prog 46 #[.slice p xs.length c1, .slice q ys.length c2] W fun e w' => e = .returned (.bool (decide (xs = ys))) ∧ ∃ n, w' = W.drewN n) := fun W hW => eqByteS_any p q c1 c2 xs ys W hn hm (hx.below hW) (hy.below hW)
  have hb0 : Below w.heap.size w ((w.alloc (Obj.cells #[Value.int IntKind.i64 k1, Value.int IntKind.i64 n1, Value.slice p xs.length c1] 31)).alloc (Obj.cells #[Value.int IntKind.i64 k2, Value.int IntKind.i64 n2, Value.slice q ys.length c2] 31)) := ((Below.refl _ _).alloc (Nat.le_refl _) _).alloc (by simp) _
  clear hx hy
  by_cases hk : k1 = k2
  · subst hk
    by_cases hnn : n1 = n2
    · subst hnn
      have HS := HSS.out _ hb0
      have HB : Hid _ := hb0
      clear hb0 HSS
      have hd : decide (((k1, n1, xs) : Cel) = (k1, n1, ys)) = decide (xs = ys) := by simp
      rw [hd]
      cases ht : decide (xs = ys)
      · rw [ht] at HS
        clear ht hd
        go_enter Try.func15, Try.ntmps15
        go_wp2_with (go_at_call 46; refine HS.mono ?_; rintro e w' ⟨rfl, m, rfl⟩)
        go_ret
        exact ⟨rfl, below_drewN HB.out _⟩
      · rw [ht] at HS
        clear ht hd
        go_enter Try.func15, Try.ntmps15
        go_wp2_with (go_at_call 46; refine HS.mono ?_; rintro e w' ⟨rfl, m, rfl⟩)
        go_ret
        exact ⟨rfl, below_drewN HB.out _⟩
    · have hd : decide (((k1, n1, xs) : Cel) = (k1, n2, ys)) = false := by simp [hnn]
      rw [hd]
      have HB : Hid _ := hb0
      clear hd HSS hb0
      have hnn' : (n1 != n2) = true := by simpa using hnn
      go_enter Try.func15, Try.ntmps15
      go_wp2
      go_ret
      exact ⟨rfl, HB.out⟩
  · have hd : decide (((k1, n1, xs) : Cel) = (k2, n2, ys)) = false := by simp [hk]
    rw [hd]
    have HB : Hid _ := hb0
    clear hd HSS hb0
    have hk' : (k1 != k2) = true := by simpa using hk
    go_enter Try.func15, Try.ntmps15
    go_wp2
    go_ret
    exact ⟨rfl, HB.out⟩

theorem eqCellS_any (p q : Option Addr) (c1 c2 : Nat) (xs ys : List Cel) (w : World) (hn : xs.length + tl xs ≤ 1000000000) (hm : ys.length + tl ys ≤ 1000000000) (hx : CIn w p xs) (hy : CIn w q ys) :
    Calls Try.prog 22 #[.slice p xs.length c1, .slice q ys.length c2] w fun e w' => e = .returned (.bool (decide (xs = ys))) ∧ Below w.heap.size w w' := by
  have HX : Hid (CIn w p xs) := hx
  have HY : Hid (CIn w q ys) := hy
  clear hx hy
  by_cases hl : xs.length = ys.length
  · have HL : Hid (xs.length = ys.length) := hl
    obtain ⟨n, en⟩ : ∃ n, ys.length = n := ⟨_, rfl⟩
    rw [hl]
    rw [hl] at hn
    rw [en] at hn hm hl ⊢
    have HE : Hid (ys.length = n) := en
    clear hl en
    go_enter Try.func22, Try.ntmps22
    go_wp2
    go_loopw [5] (fun i wr => ∃ k : Nat, k ≤ n ∧ i = .int .i64 k ∧ Hid (Below w.heap.size w wr) ∧ Hid (∀ j, j < k → xs.getD j Cel.none = ys.getD j Cel.none)) (fun i _ => n - (intOf i).toNat)
    case atStart => exact ⟨0, Nat.zero_le _, rfl, Below.refl _ _, fun _ h => absurd h (Nat.not_lt_zero _)⟩
    case round =>
      obtain ⟨k, hk, rfl, HB, HN⟩ := hrel
      by_cases hlt : k < n
      · have hkx : k < xs.length := by rw [HL.out, HE.out]; exact hlt
        have hky : k < ys.length := by rw [HE.out]; exact hlt
        obtain ⟨b, o, rfl, hcx⟩ := HX.out (by omega)
        obtain ⟨b', o', rfl, hcy⟩ := HY.out (by omega)
        obtain ⟨px, qx, x0, x1, x2, x3⟩ := (hcx k hkx).below HB.out
        obtain ⟨py, qy, y0, y1, y2, y3⟩ := (hcy k hky).below HB.out
        have bx := tl_at xs k hkx
        have bY := tl_at ys k hky
        have HEQ : Hid (decide (((xs.getD k Cel.none).1, (xs.getD k Cel.none).2.1, (xs.getD k Cel.none).2.2) = (((ys.getD k Cel.none).1, (ys.getD k Cel.none).2.1, (ys.getD k Cel.none).2.2) : Cel)) = decide (xs.getD k Cel.none = ys.getD k Cel.none)) := rfl
        obtain ⟨a0, ea0⟩ : ∃ x, x = (xs.getD k Cel.none).1 := ⟨_, rfl⟩
        obtain ⟨a1, ea1⟩ : ∃ x, x = (xs.getD k Cel.none).2.1 := ⟨_, rfl⟩
        obtain ⟨am, eam⟩ : ∃ x, x = (xs.getD k Cel.none).2.2.length := ⟨_, rfl⟩
        obtain ⟨e0, ee0⟩ : ∃ x, x = (ys.getD k Cel.none).1 := ⟨_, rfl⟩
        obtain ⟨e1, ee1⟩ : ∃ x, x = (ys.getD k Cel.none).2.1 := ⟨_, rfl⟩
        obtain ⟨em, eem⟩ : ∃ x, x = (ys.getD k Cel.none).2.2.length := ⟨_, rfl⟩
        have HS : Hid (∀ W, Below wr.heap.size wr W → Calls Try.prog 15 #[.agg #[.int .i64 a0, .int .i64 a1, .slice px am qx], .agg #[.int .i64 e0, .int .i64 e1, .slice py em qy]] W fun e w' => e = .returned (.bool (decide (xs.getD k Cel.none = ys.getD k Cel.none))) ∧ Below W.heap.size W w') := fun W hW => by
          have := eqCell_any a0 a1 e0 e1 px py am em qx qy _ _ W eam eem (by omega) (by omega) (x3.below hW) (y3.below hW)
          rwa [ea0, ea1, ee0, ee1, HEQ.out, ← ea0, ← ea1, ← ee0, ← ee1] at this
        rw [← ea0] at x0
        rw [← ea1] at x1
        rw [← eam] at x2
        rw [← ee0] at y0
        rw [← ee1] at y1
        rw [← eem] at y2
        clear ea0 ea1 eam ee0 ee1 eem HEQ x3 y3 hcx hcy HX HY bx bY hkx hky
        cases ht : decide (xs.getD k Cel.none = ys.getD k Cel.none)
        · rw [ht] at HS
          have HT : Hid _ := ht
          clear ht
          go_wp2
          go_region_with (go_at_call 15; refine (HS.out _ (Below.refl _ _).drew).mono ?_; rintro e w2 ⟨rfl, hb2⟩)
          all_goals go_wp2
          all_goals go_ret
          all_goals exact ⟨ret_bool (by
            symm; rw [decide_eq_false_iff_not]; intro e
            have := HT.out
            rw [decide_eq_false_iff_not] at this
            exact this (by rw [e])), Below.on HB.out ((Below.refl _ _).drew.trans hb2)⟩
        · rw [ht] at HS
          have HT : Hid _ := ht
          clear ht
          go_wp2
          go_region_with (go_at_call 15; refine (HS.out _ (Below.refl _ _).drew).mono ?_; rintro e w2 ⟨rfl, hb2⟩)
          all_goals go_wp2
          all_goals go_roundw
          all_goals first
            | (simp [intOf]; omega)
            | exact ⟨k + 1, by omega, by go_num, Below.on HB.out ((Below.refl _ _).drew.trans hb2), fun j hj => by
                by_cases e : j = k
                · subst e; exact of_decide_eq_true HT.out
                · exact HN.out j (by omega)⟩
      · obtain rfl : k = n := by omega
        go_wp2
        go_ret
        exact ⟨ret_bool (by symm; rw [decide_eq_true_iff]; exact same_cells HL.out (by rw [HL.out, HE.out]; exact HN.out)), HB.out⟩
  · have hne : ¬ ((xs.length : Int) = (ys.length : Int)) := by omega
    have e : decide (xs = ys) = false := by rw [decide_eq_false_iff_not]; intro e; exact hl (by rw [e])
    rw [e]
    clear e
    go_enter Try.func22, Try.ntmps22
    go_wp2
    go_ret
    exact ⟨rfl, Below.refl _ _⟩

end Go.Proofs.Ytedkkghekboahaa

namespace Go.Proofs.Ytedkkghekboahaa
open Go Go.RowKit
set_option linter.unusedVariables false

def cellB (k n : Int) (m : Nat) : Bool := decide ((k = 0 ∧ 0 ≤ n ∧ n ≤ 1000000 ∧ m = 0) ∨ (k = 1 ∧ -1000000000000000 ≤ n ∧ n ≤ 1000000000000000 ∧ m = 0) ∨ (k = 2 ∧ m ≤ 100 ∧ n = 0) ∨ (k = 3 ∧ m ≤ 100 ∧ 1 ≤ n ∧ n ≤ 20))

theorem isCell_any (k n : Int) (p : Option Addr) (m c : Nat) (w : World) :
    Calls Try.prog 96 #[.agg #[.int .i64 k, .int .i64 n, .slice p m c]] w fun e w' => e = .returned (.bool (cellB k n m)) ∧ Below w.heap.size w w' := by
  have fin : ∀ {a : Bool} {o : Obj}, a = cellB k n m → (Ending.returned (.bool a) = .returned (.bool (cellB k n m)) ∧ Below w.heap.size w (w.alloc o)) := fun h => ⟨ret_bool h, (Below.refl _ _).alloc (Nat.le_refl _) _⟩
  have FIN : Hid _ := @fin
  clear fin
  by_cases k0 : k = 0
  · subst k0
    by_cases hm : m = 0
    · subst hm
      by_cases a : 0 ≤ n
      · go_enter Try.func96, Try.ntmps96
        go_wp2
        go_ret
        exact FIN.out (by rw [Bool.eq_iff_iff]; simp [cellB]; omega)
      · go_enter Try.func96, Try.ntmps96
        go_wp2
        go_ret
        exact FIN.out (by rw [Bool.eq_iff_iff]; simp [cellB]; omega)
    · have hm' : ((m : Int) == 0) = false := by simp; omega
      have HM : Hid (m ≠ 0) := hm
      clear hm
      go_enter Try.func96, Try.ntmps96
      go_wp2
      go_ret
      exact FIN.out (by have := HM.out; rw [Bool.eq_iff_iff]; simp [cellB]; omega)
  · by_cases k1 : k = 1
    · subst k1
      by_cases hm : m = 0
      · subst hm
        by_cases a : -1000000000000000 ≤ n
        · go_enter Try.func96, Try.ntmps96
          go_wp2
          go_ret
          exact FIN.out (by rw [Bool.eq_iff_iff]; simp [cellB]; omega)
        · go_enter Try.func96, Try.ntmps96
          go_wp2
          go_ret
          exact FIN.out (by rw [Bool.eq_iff_iff]; simp [cellB]; omega)
      · have hm' : ((m : Int) == 0) = false := by simp; omega
        have HM : Hid (m ≠ 0) := hm
        clear hm k0
        go_enter Try.func96, Try.ntmps96
        go_wp2
        go_ret
        exact FIN.out (by have := HM.out; rw [Bool.eq_iff_iff]; simp [cellB]; omega)
    · have t0 : (k == 0) = false := by simpa using k0
      have t1 : (k == 1) = false := by simpa using k1
      by_cases k2 : k = 2
      · subst k2
        clear t0 t1 k0 k1
        by_cases hm : (m : Int) ≤ 100
        · go_enter Try.func96, Try.ntmps96
          go_wp2
          go_ret
          exact FIN.out (by rw [Bool.eq_iff_iff]; simp [cellB]; omega)
        · go_enter Try.func96, Try.ntmps96
          go_wp2
          go_ret
          exact FIN.out (by rw [Bool.eq_iff_iff]; simp [cellB]; omega)
      · by_cases k3 : k = 3
        · subst k3
          clear t0 t1 k0 k1 k2
          by_cases hm : (m : Int) ≤ 100
          · by_cases a : 1 ≤ n
            · go_enter Try.func96, Try.ntmps96
              go_wp2
              go_ret
              exact FIN.out (by rw [Bool.eq_iff_iff]; simp [cellB]; omega)
            · go_enter Try.func96, Try.ntmps96
              go_wp2
              go_ret
              exact FIN.out (by rw [Bool.eq_iff_iff]; simp [cellB]; omega)
          · go_enter Try.func96, Try.ntmps96
            go_wp2
            go_ret
            exact FIN.out (by rw [Bool.eq_iff_iff]; simp [cellB]; omega)
        · have t2 : (k == 2) = false := by simpa using k2
          have t3 : (k == 3) = false := by simpa using k3
          have HK : Hid (k ≠ 0 ∧ k ≠ 1 ∧ k ≠ 2 ∧ k ≠ 3) := ⟨k0, k1, k2, k3⟩
          clear k0 k1 k2 k3
          go_enter Try.func96, Try.ntmps96
          go_wp2
          go_ret
          exact FIN.out (by have := HK.out; rw [Bool.eq_iff_iff]; simp [cellB]; omega)

end Go.Proofs.Ytedkkghekboahaa

namespace Go.Proofs.Ytedkkghekboahaa
open Go Go.RowKit
set_option linter.unusedVariables false

/-- The kind of the cell at an address. -/
def kndA (xs : List Cel) (i : Nat) : Int := (xs.getD i Cel.none).1
def numA (xs : List Cel) (i : Nat) : Int := (xs.getD i Cel.none).2.1
/-- Is it an address? Of a functor, of a word? -/
def funB (xs : List Cel) (a : Int) : Bool := decide (0 ≤ a ∧ a < xs.length ∧ kndA xs a.toNat = 3)
def isWB (xs : List Cel) (a : Int) : Bool := decide (0 ≤ a ∧ a < xs.length ∧ kndA xs a.toNat ≠ 3)
def varB (xs : List Cel) (a : Int) : Bool := decide (0 ≤ a ∧ a < xs.length ∧ kndA xs a.toNat = 0 ∧ numA xs a.toNat = a)
/-- Does a word lead to what it has to? -/
def leadB (xs : List Cel) (k n : Int) : Bool := if k = 0 then isWB xs n else if k = 4 then funB xs n else if k = 3 then false else true
/-- Can it be a word or functor of any heap? -/
def okW (k n : Int) (m : Nat) : Bool := if k = 4 then m == 0 else cellB k n m
/-- Is it a word of a store? -/
def wordB (xs : List Cel) (k n : Int) (m : Nat) : Bool := okW k n m && leadB xs k n
/-- Has each functor its arguments behind it? -/
def wholeF : Int → List Cel → Bool
  | m, [] => m == 0
  | m, c :: r => if c.1 = 3 then (if 0 < m then false else wholeF c.2.1 r) else wholeF (if 0 < m then m - 1 else m) r
/-- The same, as the other side goes through it. -/
def shapeF (xs : List Cel) : Int → List Cel → Bool
  | _, [] => true
  | b, c :: r => if c.1 = 3 then (if 0 < b ∨ c.2.1 < 1 ∨ 20 < c.2.1 ∨ 100 < c.2.2.length ∨ (r.length : Int) < c.2.1 then false else shapeF xs c.2.1 r)
      else if wordB xs c.1 c.2.1 c.2.2.length = false then false else shapeF xs (if 0 < b then b - 1 else b) r
/-- Good cell by cell: a functor, or a word. -/
def goodC (xs : List Cel) (c : Cel) : Bool := okW c.1 c.2.1 c.2.2.length && (decide (c.1 = 3) || leadB xs c.1 c.2.1)

theorem whole_room : ∀ (ys : List Cel) (m : Int), 0 ≤ m → (∀ c ∈ ys, c.1 = 3 → 1 ≤ c.2.1) → wholeF m ys = true → m ≤ ys.length
  | [], m, h0, _, h => by simp [wholeF] at h; omega
  | c :: r, m, h0, hc, h => by
    have hr : ∀ c ∈ r, c.1 = 3 → 1 ≤ c.2.1 := fun x hx => hc x (List.mem_cons_of_mem _ hx)
    simp only [wholeF] at h
    by_cases k : c.1 = 3
    · rw [if_pos k] at h
      by_cases hm : 0 < m
      · rw [if_pos hm] at h; cases h
      · simp; omega
    · rw [if_neg k] at h
      by_cases hm : 0 < m
      · rw [if_pos hm] at h
        have := whole_room r (m - 1) (by omega) hr h
        simp; omega
      · simp; omega
theorem okW_fun {n : Int} {m : Nat} : okW 3 n m = true ↔ 1 ≤ n ∧ n ≤ 20 ∧ m ≤ 100 := by
  simp [okW, cellB]; omega
/-- Both ways through are the same. -/
theorem shape_whole (xs : List Cel) : ∀ (ys : List Cel) (b : Int), 0 ≤ b → b ≤ ys.length → shapeF xs b ys = (ys.all (goodC xs) && wholeF b ys)
  | [], b, h0, h1 => by
    obtain rfl : b = 0 := by simp at h1; omega
    rfl
  | c :: r, b, h0, h1 => by
    obtain ⟨k, n, t⟩ := c
    simp only [shapeF, wholeF, List.all_cons]
    by_cases hk : k = 3
    · subst hk
      rw [if_pos rfl, if_pos rfl]
      have hg : goodC xs (3, n, t) = okW 3 n t.length := by simp [goodC]
      rw [hg]
      by_cases hb : 0 < b
      · rw [if_pos (.inl hb), if_pos hb]; simp
      · rw [if_neg hb]
        by_cases ho : okW 3 n t.length = true
        · have hoo := okW_fun.1 ho
          by_cases hr : (r.length : Int) < n
          · rw [if_pos (.inr (.inr (.inr (.inr hr))))]
            have : ¬ (r.all (goodC xs) = true ∧ wholeF n r = true) := by
              rintro ⟨ha, hw⟩
              have := whole_room r n (by omega) (fun c hc h3 => by
                have := List.all_eq_true.1 ha c hc
                simp only [goodC, Bool.and_eq_true, h3] at this
                exact (okW_fun.1 this.1).1) hw
              omega
            symm
            rw [ho, Bool.true_and, Bool.eq_false_iff]
            intro h
            rw [Bool.and_eq_true] at h
            exact this h
          · rw [if_neg (by omega), shape_whole xs r n (by omega) (by omega), ho, Bool.true_and]
        · rw [if_pos (by rw [okW_fun] at ho; omega)]
          rw [Bool.not_eq_true] at ho
          rw [ho]; rfl
    · rw [if_neg hk, if_neg hk]
      have hg : goodC xs (k, n, t) = wordB xs k n t.length := by simp [goodC, wordB, hk]
      rw [hg]
      cases hw : wordB xs k n t.length
      · rw [if_pos rfl]; simp
      · rw [if_neg (by simp)]
        simp only [List.length_cons] at h1
        rw [shape_whole xs r _ (by split <;> omega) (by split <;> omega), Bool.true_and]

/-- What holds of a store that is whole. -/
theorem whole_fits : ∀ (ys : List Cel) (m : Int), 0 ≤ m → (∀ c ∈ ys, c.1 = 3 → 1 ≤ c.2.1) → wholeF m ys = true →
    (∀ j : Nat, (j : Int) < m → j < ys.length ∧ kndA ys j ≠ 3) ∧ ∀ f, f < ys.length → kndA ys f = 3 → ∀ i : Nat, 1 ≤ i → (i : Int) ≤ numA ys f → f + i < ys.length ∧ kndA ys (f + i) ≠ 3
  | [], m, h0, _, h => by
    simp [wholeF] at h
    exact ⟨fun j hj => by omega, fun f hf => by simp at hf⟩
  | c :: r, m, h0, hc, h => by
    have hr : ∀ c ∈ r, c.1 = 3 → 1 ≤ c.2.1 := fun x hx => hc x (List.mem_cons_of_mem _ hx)
    simp only [wholeF] at h
    have up : ∀ j, kndA (c :: r) (j + 1) = kndA r j := fun j => by simp [kndA, List.getD]
    have un : ∀ j, numA (c :: r) (j + 1) = numA r j := fun j => by simp [numA, List.getD]
    have k0 : kndA (c :: r) 0 = c.1 := by simp [kndA, List.getD]
    have n0 : numA (c :: r) 0 = c.2.1 := by simp [numA, List.getD]
    by_cases k : c.1 = 3
    · rw [if_pos k] at h
      by_cases hm : 0 < m
      · rw [if_pos hm] at h; cases h
      · rw [if_neg hm] at h
        have h1 := hc c (List.mem_cons_self ..) k
        obtain ⟨a, b⟩ := whole_fits r c.2.1 (by omega) hr h
        refine ⟨fun j hj => by omega, fun f hf hk i h1 h2 => ?_⟩
        rcases f with _ | f
        · rw [n0] at h2
          obtain ⟨i, rfl⟩ : ∃ j, i = j + 1 := ⟨i - 1, by omega⟩
          have := a i (by omega)
          rw [Nat.zero_add, up]
          exact ⟨by simp; omega, this.2⟩
        · rw [up] at hk; rw [un] at h2
          have := b f (by simpa using hf) hk i h1 h2
          rw [show f + 1 + i = (f + i) + 1 by omega, up]
          exact ⟨by simp; omega, this.2⟩
    · rw [if_neg k] at h
      have hm' : 0 ≤ (if 0 < m then m - 1 else m) := by split <;> omega
      obtain ⟨a, b⟩ := whole_fits r _ hm' hr h
      refine ⟨fun j hj => ?_, fun f hf hk i h1 h2 => ?_⟩
      · rcases j with _ | j
        · rw [k0]; exact ⟨by simp, k⟩
        · have := a j (by rw [if_pos (by omega)]; omega)
          rw [up]
          exact ⟨by simp; omega, this.2⟩
      · rcases f with _ | f
        · rw [k0] at hk; exact absurd hk k
        · rw [up] at hk; rw [un] at h2
          have := b f (by simpa using hf) hk i h1 h2
          rw [show f + 1 + i = (f + i) + 1 by omega, up]
          exact ⟨by simp; omega, this.2⟩

/-- A store whose words lead to what they have to. -/
structure Shp (xs : List Cel) : Prop where
  len : xs.length ≤ 20000
  refs : ∀ a, a < xs.length → kndA xs a = 0 → 0 ≤ numA xs a ∧ numA xs a < xs.length ∧ kndA xs (numA xs a).toNat ≠ 3
  stru : ∀ a, a < xs.length → kndA xs a = 4 → 0 ≤ numA xs a ∧ numA xs a < xs.length ∧ kndA xs (numA xs a).toNat = 3
  funs : ∀ f, f < xs.length → kndA xs f = 3 → 1 ≤ numA xs f ∧ numA xs f ≤ 20 ∧ ∀ i : Nat, 1 ≤ i → (i : Int) ≤ numA xs f → f + i < xs.length ∧ kndA xs (f + i) ≠ 3
  knds : ∀ a, a < xs.length → kndA xs a = 0 ∨ kndA xs a = 1 ∨ kndA xs a = 2 ∨ kndA xs a = 3 ∨ kndA xs a = 4
theorem mem_at {xs : List Cel} {a : Nat} (h : a < xs.length) : xs.getD a Cel.none ∈ xs := by
  simp [List.getD, h]
theorem shp_of {xs : List Cel} (hl : xs.length ≤ 20000) (hg : xs.all (goodC xs) = true) (hw : wholeF 0 xs = true) : Shp xs := by
  have hh : ∀ a, a < xs.length → goodC xs (xs.getD a Cel.none) = true := fun a ha => List.all_eq_true.1 hg _ (mem_at ha)
  have hf : ∀ c ∈ xs, c.1 = 3 → 1 ≤ c.2.1 ∧ c.2.1 ≤ 20 := fun c hc h3 => by
    have := List.all_eq_true.1 hg c hc
    simp only [goodC, Bool.and_eq_true, h3] at this
    exact ⟨(okW_fun.1 this.1).1, (okW_fun.1 this.1).2.1⟩
  obtain ⟨_, hb⟩ := whole_fits xs 0 (Int.le_refl _) (fun c hc h3 => (hf c hc h3).1) hw
  refine ⟨hl, fun a ha hk => ?_, fun a ha hk => ?_, fun f hf' hk => ⟨(hf _ (mem_at hf') hk).1, (hf _ (mem_at hf') hk).2, hb f hf' hk⟩, fun a ha => ?_⟩
  · have := hh a ha
    unfold kndA at hk
    simp only [goodC, Bool.and_eq_true, hk] at this
    have h2 := this.2
    simp only [leadB, isWB] at h2
    simpa [numA] using h2
  · have := hh a ha
    unfold kndA at hk
    simp only [goodC, Bool.and_eq_true, hk] at this
    have h2 := this.2
    simp only [leadB, funB] at h2
    simpa [numA] using h2
  · have := hh a ha
    simp only [goodC, Bool.and_eq_true] at this
    have := this.1
    unfold kndA
    generalize (xs.getD a Cel.none).1 = k at this ⊢
    unfold okW at this
    split at this
    · omega
    · simp [cellB] at this; omega

/-- The words to which the word at an address leads, from the first to that behind the last. -/
def firstK (xs : List Cel) (a : Nat) : Nat := if kndA xs a = 0 then (numA xs a).toNat else if kndA xs a = 4 then (numA xs a).toNat + 1 else 0
def endK (xs : List Cel) (a : Nat) : Nat := if kndA xs a = 0 then (numA xs a).toNat + 1 else if kndA xs a = 4 then (numA xs a).toNat + 1 + (numA xs (numA xs a).toNat).toNat else 0
/-- y is one of the words to which a leads (a variable leads nowhere). -/
def Kid (xs : List Cel) (y a : Nat) : Prop := varB xs a = false ∧ firstK xs a ≤ y ∧ y < endK xs a
/-- No word leads back to itself. -/
def Acyc (xs : List Cel) : Prop := ∀ a, a < xs.length → Acc (Kid xs) a
noncomputable def acycB (xs : List Cel) : Bool := @decide (Acyc xs) (Classical.propDecidable _)
theorem acycB_true {xs : List Cel} (h : Acyc xs) : acycB xs = true := by unfold acycB; exact @decide_eq_true _ (Classical.propDecidable _) h
theorem acycB_false {xs : List Cel} (h : ¬ Acyc xs) : acycB xs = false := by unfold acycB; exact @decide_eq_false _ (Classical.propDecidable _) h
/-- Is the store valid? -/
noncomputable def storeB (xs : List Cel) (tr : List Int) : Bool := decide (xs.length ≤ 20000) && decide (tr.length ≤ 20000) && (xs.all (goodC xs) && wholeF 0 xs) && tr.all (isWB xs) && acycB xs

theorem acc_irr {α : Type} {r : α → α → Prop} {a : α} (h : Acc r a) : ¬ r a a := by
  induction h with
  | intro x _ ih => exact fun hr => ih x hr hr
theorem acc_loop {α : Type} {r : α → α → Prop} {a : α} (h : Relation.TransGen r a a) : ¬ Acc r a := fun ha => acc_irr ha.transGen h

/-- The other side's steps: from what a word names to what the words there name. -/
def tgt (xs : List Cel) (k n : Int) : Option Nat := if k = 0 then (if varB xs n then none else some n.toNat) else if k = 4 then some n.toNat else none
def Stp (xs : List Cel) (y x : Nat) : Prop := if kndA xs x = 3 then ∃ i : Nat, 1 ≤ i ∧ (i : Int) ≤ numA xs x ∧ tgt xs (kndA xs (x + i)) (numA xs (x + i)) = some y else tgt xs (kndA xs x) (numA xs x) = some y
theorem varB_knd {xs : List Cel} {a : Nat} (h : varB xs a = true) : kndA xs a = 0 ∧ numA xs a = a := by
  simp [varB] at h; exact h.2
theorem kid_ref {xs : List Cel} {y a : Nat} (h : kndA xs a = 0) (hk : Kid xs y a) : y = (numA xs a).toNat := by
  have h1 := hk.2.1; have h2 := hk.2.2
  simp only [firstK, endK, h, if_true] at h1 h2; omega
theorem kid_str {xs : List Cel} {y a : Nat} (h : kndA xs a = 4) (hk : Kid xs y a) : ∃ i : Nat, 1 ≤ i ∧ i ≤ (numA xs (numA xs a).toNat).toNat ∧ y = (numA xs a).toNat + i := by
  have h1 := hk.2.1; have h2 := hk.2.2
  simp only [firstK, endK, h] at h1 h2
  simp at h1 h2
  exact ⟨y - (numA xs a).toNat, by omega, by omega, by omega⟩
theorem kid_no {xs : List Cel} {y a : Nat} (h : kndA xs a ≠ 0) (h4 : kndA xs a ≠ 4) : ¬ Kid xs y a := fun hk => by
  have h1 := hk.2.1; have h2 := hk.2.2
  simp only [firstK, endK, if_neg h, if_neg h4] at h1 h2; omega
/-- What leads nowhere back, leads nowhere back on the other side. -/
theorem acyc_stp {xs : List Cel} (hs : Shp xs) : ∀ {a : Nat}, Acc (Kid xs) a → a < xs.length → ∀ x, tgt xs (kndA xs a) (numA xs a) = some x → Acc (Stp xs) x := by
  intro a h
  induction h with
  | intro a _ ih =>
    intro ha x hx
    by_cases k0 : kndA xs a = 0
    · obtain ⟨r0, r1, r2⟩ := hs.refs a ha k0
      have hv : varB xs (numA xs a) = false := by
        cases hv : varB xs (numA xs a)
        · rfl
        · simp [tgt, k0, hv] at hx
      have hx' : (numA xs a).toNat = x := by simpa [tgt, k0, hv] using hx
      subst hx'
      have hva : varB xs a = false := by
        cases hva : varB xs a
        · rfl
        · have := (varB_knd hva).2
          rw [this, hva] at hv; cases hv
      have hk : Kid xs (numA xs a).toNat a := ⟨hva, by simp [firstK, k0], by simp [endK, k0]⟩
      refine Acc.intro _ fun y hy => ?_
      rw [Stp, if_neg r2] at hy
      exact ih _ hk (by omega) y hy
    · by_cases k4 : kndA xs a = 4
      · obtain ⟨r0, r1, r2⟩ := hs.stru a ha k4
        have hx' : (numA xs a).toNat = x := by simpa [tgt, k4] using hx
        subst hx'
        have hva : varB xs a = false := by
          cases hva : varB xs a
          · rfl
          · exact absurd (varB_knd hva).1 k0
        refine Acc.intro _ fun y hy => ?_
        rw [Stp, if_pos r2] at hy
        obtain ⟨i, h1, h2, hy⟩ := hy
        have f := (hs.funs _ (by omega) r2).2.2 i h1 h2
        exact ih ((numA xs a).toNat + i) ⟨hva, by simp [firstK, k4]; omega, by simp [endK, k4]; omega⟩ f.1 y hy
      · simp [tgt, k0, k4] at hx
/-- If all that a word names leads nowhere back, so does the word. -/
theorem acc_word {xs : List Cel} (hs : Shp xs) {a : Nat} (ha : a < xs.length) (h : ∀ x, tgt xs (kndA xs a) (numA xs a) = some x → (kndA xs x ≠ 3 → Acc (Kid xs) x) ∧ (kndA xs x = 3 → ∀ i : Nat, 1 ≤ i → (i : Int) ≤ numA xs x → Acc (Kid xs) (x + i))) : Acc (Kid xs) a := by
  refine Acc.intro _ fun y hy => ?_
  by_cases k0 : kndA xs a = 0
  · obtain ⟨r0, r1, r2⟩ := hs.refs a ha k0
    have e := kid_ref k0 hy
    subst e
    cases hv : varB xs (numA xs a)
    · exact (h (numA xs a).toNat (by simp [tgt, k0, hv])).1 r2
    · refine Acc.intro _ fun z hz => ?_
      have : varB xs ((numA xs a).toNat : Nat) = false := hz.1
      rw [show (((numA xs a).toNat : Nat) : Int) = numA xs a by omega, hv] at this
      cases this
  · by_cases k4 : kndA xs a = 4
    · obtain ⟨r0, r1, r2⟩ := hs.stru a ha k4
      obtain ⟨i, h1, h2, rfl⟩ := kid_str k4 hy
      exact (h (numA xs a).toNat (by simp [tgt, k4])).2 r2 i h1 (by have := (hs.funs _ (by omega) r2).1; omega)
    · exact absurd hy (kid_no k0 k4)
theorem tgt_lt {xs : List Cel} (hs : Shp xs) {a x : Nat} (ha : a < xs.length) (h : tgt xs (kndA xs a) (numA xs a) = some x) : x < xs.length := by
  by_cases k0 : kndA xs a = 0
  · obtain ⟨r0, r1, r2⟩ := hs.refs a ha k0
    simp only [tgt, k0, if_true] at h
    split at h
    · cases h
    · cases h; omega
  · by_cases k4 : kndA xs a = 4
    · obtain ⟨r0, r1, r2⟩ := hs.stru a ha k4
      simp [tgt, k4] at h; omega
    · simp [tgt, k0, k4] at h
theorem stp_kid {xs : List Cel} (hs : Shp xs) : ∀ {x : Nat}, Acc (Stp xs) x → x < xs.length → (kndA xs x ≠ 3 → Acc (Kid xs) x) ∧ (kndA xs x = 3 → ∀ i : Nat, 1 ≤ i → (i : Int) ≤ numA xs x → Acc (Kid xs) (x + i)) := by
  intro x h
  induction h with
  | intro x _ ih =>
    intro hx
    constructor
    · intro k3
      exact acc_word hs hx fun y hy => ih y (by rw [Stp, if_neg k3]; exact hy) (tgt_lt hs hx hy)
    · intro k3 i h1 h2
      have f := (hs.funs x hx k3).2.2 i h1 h2
      exact acc_word hs f.1 fun y hy => ih y (by rw [Stp, if_pos k3]; exact ⟨i, h1, h2, hy⟩) (tgt_lt hs f.1 hy)
/-- Both sides' searches ask the same. -/
theorem acyc_iff {xs : List Cel} (hs : Shp xs) : Acyc xs ↔ ∀ a, a < xs.length → ∀ x, tgt xs (kndA xs a) (numA xs a) = some x → Acc (Stp xs) x :=
  ⟨fun h a ha x hx => acyc_stp hs (h a ha) ha x hx, fun h a ha => acc_word hs ha fun x hx => stp_kid hs (h a ha x hx) (tgt_lt hs ha hx)⟩

/-- How many are not marked yet. -/
def unk (n : Nat) (m : Nat → Nat) : Nat := ((List.range n).filter (fun i => decide (m i = 0))).length
def setM (m : Nat → Nat) (a v : Nat) : Nat → Nat := fun i => if i = a then v else m i
theorem filter_le {α : Type} (p q : α → Bool) : ∀ l : List α, (∀ x ∈ l, q x = true → p x = true) → (l.filter q).length ≤ (l.filter p).length
  | [], _ => Nat.le_refl _
  | x :: r, h => by
    have ih := filter_le p q r (fun y hy => h y (List.mem_cons_of_mem _ hy))
    simp only [List.filter_cons]
    cases hq : q x
    · cases hp : p x
      · simpa using ih
      · simp; omega
    · rw [h x (List.mem_cons_self ..) hq]; simpa using ih
theorem filter_lt {α : Type} (p q : α → Bool) : ∀ (l : List α) (a : α), a ∈ l → p a = true → q a = false → (∀ x ∈ l, q x = true → p x = true) → (l.filter q).length < (l.filter p).length
  | [], a, ha, _, _, _ => by cases ha
  | x :: r, a, ha, hp, hq, h => by
    have hr : ∀ y ∈ r, q y = true → p y = true := fun y hy => h y (List.mem_cons_of_mem _ hy)
    have ih := filter_le p q r hr
    simp only [List.filter_cons]
    rcases List.mem_cons.1 ha with rfl | ha'
    · rw [hp, hq]; simp; omega
    · have ih' := filter_lt p q r a ha' hp hq hr
      cases hqx : q x
      · cases hpx : p x
        · simpa using ih'
        · simp; omega
      · rw [h x (List.mem_cons_self ..) hqx]; simpa using ih'
theorem unk_le {n : Nat} {m m' : Nat → Nat} (h : ∀ i, m i ≠ 0 → m' i ≠ 0) : unk n m' ≤ unk n m := by
  refine filter_le _ _ _ fun x _ hx => ?_
  simp only [decide_eq_true_eq] at hx ⊢
  cases hm : m x with
  | zero => rfl
  | succ k => exact absurd hx (h x (by omega))
theorem unk_lt {n a : Nat} {m : Nat → Nat} (ha : a < n) (h0 : m a = 0) {v : Nat} (hv : v ≠ 0) : unk n (setM m a v) < unk n m := by
  refine filter_lt _ _ _ a (by simpa using ha) (by simpa using h0) (by simpa [setM] using hv) fun x _ hx => ?_
  simp only [decide_eq_true_eq] at hx ⊢
  unfold setM at hx
  split at hx
  · omega
  · exact hx
theorem unk_top (n : Nat) (m : Nat → Nat) : unk n m ≤ n := by
  have := List.length_filter_le (fun i => decide (m i = 0)) (List.range n)
  simpa [unk] using this

end Go.Proofs.Ytedkkghekboahaa

