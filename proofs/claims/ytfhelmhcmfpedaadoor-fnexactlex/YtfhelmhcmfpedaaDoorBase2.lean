/- The walks of the small functions of both sides: the loops. Own work of the verifier. -/
import Derived.Test.YtfhelmhcmfpedaaDoorBase
namespace Go.Proofs.YtfhelmhcmfpedaaDoor
open Go Go.RowKit
set_option linter.unusedVariables false

theorem sym_none (c : Int) (h : ∀ j, j < 17 → symL.getD j 0 ≠ c) : symbolB c = false := by
  unfold symbolB
  rw [Bool.eq_false_iff]
  intro hm
  rw [List.contains_iff_mem] at hm
  obtain ⟨i, hi, he⟩ := List.mem_iff_getElem.1 hm
  have h17 : i < 17 := hi
  exact h i h17 (by rw [List.getD, List.getElem?_eq_getElem hi]; exact he)
theorem sym_hit (c : Int) (k : Nat) (h : k < 17) (hk : symL.getD k 0 = c) : symbolB c = true := by
  unfold symbolB
  rw [List.contains_iff_mem, ← hk, List.getD, List.getElem?_eq_getElem (show k < symL.length from h)]
  exact List.getElem_mem _
theorem sym_fin : ∀ k : Fin 17, ((((⟨#[43, 45, 42, 47, 92, 94, 60, 62, 61, 126, 58, 46, 63, 64, 35, 38, 36]⟩ : ByteArray)[k.1]'k.2).toNat : Nat) : Int) = symL.getD k.1 0 := by decide +kernel
theorem sym_at (k : Nat) (h : k < (⟨#[43, 45, 42, 47, 92, 94, 60, 62, 61, 126, 58, 46, 63, 64, 35, 38, 36]⟩ : ByteArray).size) : ((((⟨#[43, 45, 42, 47, 92, 94, 60, 62, 61, 126, 58, 46, 63, 64, 35, 38, 36]⟩ : ByteArray)[k]'h).toNat : Nat) : Int) = symL.getD k 0 := sym_fin ⟨k, h⟩

theorem symbol_any (c : Int) (w : World) (h0 : 0 ≤ c) (h1 : c < 256) : Calls Tryd.prog 34 #[.int .u8 c] w fun e w' => e = .returned (.bool (symbolB c)) ∧ w' = w := by
  go_enter Tryd.func34, Tryd.ntmps34
  go_wp2
  go_loop [4] (fun i => ∃ k : Nat, k ≤ 17 ∧ i = .int .i64 k ∧ Hid (∀ j, j < k → symL.getD j 0 ≠ c)) (fun i => 17 - (intOf i).toNat)
  case atStart => exact ⟨0, Nat.zero_le _, rfl, fun _ h => absurd h (Nat.not_lt_zero _)⟩
  case round =>
    obtain ⟨k, hk, rfl, HN⟩ := hrel
    by_cases hlt : k < 17
    · go_wp2
      · go_ret
        have ht := ‹(_ == c) = true›
        rw [sym_at k hlt] at ht
        exact ⟨ret_bool (sym_hit c k hlt (by simpa using ht)).symm, rfl⟩
      · have ht := ‹(_ == c) = false›
        rw [sym_at k hlt] at ht
        go_round
        case rel => exact ⟨k + 1, by omega, by go_num, fun j hj => by
          by_cases e : j = k
          · subst e; simpa using ht
          · exact HN.out j (by omega)⟩
        case measure => simp [intOf]; omega
    · obtain rfl : k = 17 := by omega
      go_wp2
      go_ret
      exact ⟨ret_bool (sym_none c HN.out).symm, rfl⟩

theorem isOf_any (b k : Int) (w : World) (h0 : -9223372036854775808 ≤ b) (h1 : b ≤ 9223372036854775807) (hT : ∀ i, i < 128 → w.cell? ⟨0, i, none⟩ = some (.int .u8 (tab.getD i 0))) :
    Calls Tryd.prog 21 #[.int .i64 b, .int .u8 k] w fun e w' => e = .returned (.bool (isOfB b k)) ∧ w' = w := by
  by_cases a : 0 ≤ b
  · by_cases b' : b < 128
    · have hc := hT b.toNat (by omega)
      rw [isOf_in a b']
      clear hT
      go_enter Tryd.func21, Tryd.ntmps21
      go_wp2
      go_ret
      exact ⟨rfl, rfl⟩
    · rw [isOf_hi (by omega)]
      clear hT
      go_enter Tryd.func21, Tryd.ntmps21
      go_wp2
      go_ret
      exact ⟨rfl, rfl⟩
  · rw [isOf_lo (by omega)]
    clear hT
    go_enter Tryd.func21, Tryd.ntmps21
    go_wp2
    go_ret
    exact ⟨rfl, rfl⟩

theorem all_none {f : Int → Bool} {xs : List Int} (k : Nat) (h : k < xs.length) (hf : f (xs.getD k 0) = false) : xs.all f = false := by
  rw [Bool.eq_false_iff]
  intro ha
  have := List.all_eq_true.1 ha xs[k] (List.getElem_mem h)
  rw [List.getD, List.getElem?_eq_getElem h] at hf
  simp [this] at hf
theorem all_every {f : Int → Bool} {xs : List Int} (h : ∀ j, j < xs.length → f (xs.getD j 0) = true) : xs.all f = true := by
  rw [List.all_eq_true]
  intro x hx
  obtain ⟨i, hi, rfl⟩ := List.mem_iff_getElem.1 hx
  have := h i hi
  rwa [List.getD, List.getElem?_eq_getElem hi] at this

/-- All numbers are of a class (a name of its own: the walk must not open it). -/
def allB (k : Int) (xs : List Int) : Bool := xs.all (isOfB · k)
theorem allOf_any (b cap : Nat) (xs : List Int) (k : Int) (w : World) (hb : Bytes xs) (hn : xs.length ≤ 100000000)
    (hc : ∀ i, i < xs.length → w.cell? ⟨b, i, none⟩ = some (.int .u8 (xs.getD i 0)))
    (hT : ∀ i, i < 128 → w.cell? ⟨0, i, none⟩ = some (.int .u8 (tab.getD i 0))) :
    Calls Tryd.prog 22 #[.slice (some ⟨b, 0, none⟩) xs.length cap, .int .u8 k] w fun e w' => e = .returned (.bool (allB k xs)) ∧ w' = w := by
  have HT : Hid (∀ i, i < 128 → w.cell? ⟨0, i, none⟩ = some (.int .u8 (tab.getD i 0))) := hT
  clear hT
  go_enter Tryd.func22, Tryd.ntmps22
  go_wp2
  go_loop [9] (fun i => ∃ j : Nat, j ≤ xs.length ∧ i = .int .i64 j ∧ Hid (∀ m, m < j → isOfB (xs.getD m 0) k = true)) (fun i => xs.length - (intOf i).toNat)
  case atStart => exact ⟨0, Nat.zero_le _, rfl, fun _ h => absurd h (Nat.not_lt_zero _)⟩
  case round =>
    obtain ⟨j, hj, rfl, HN⟩ := hrel
    by_cases hlt : j < xs.length
    · have hx := hc j hlt
      have hr := hb.at j
      obtain ⟨x, ex⟩ : ∃ x, x = xs.getD j 0 := ⟨_, rfl⟩
      rw [← ex] at hx hr
      have HX : Hid (x = xs.getD j 0) := ex
      clear ex hc
      by_cases ht : isOfB x k = true
      · go_wp2_with (go_at_call 21; refine (isOf_any _ _ _ (by omega) (by omega) HT.out).mono ?_; rintro e w' ⟨rfl, rfl⟩)
        go_round
        case rel => exact ⟨j + 1, by omega, by go_num, fun m hm => by
          by_cases e : m = j
          · subst e; rw [← HX.out]; exact ht
          · exact HN.out m (by omega)⟩
        case measure => simp [intOf]; omega
      · have ht' : isOfB x k = false := by simpa using ht
        clear ht
        go_wp2_with (go_at_call 21; refine (isOf_any _ _ _ (by omega) (by omega) HT.out).mono ?_; rintro e w' ⟨rfl, rfl⟩)
        go_ret
        exact ⟨ret_bool (all_none (f := (isOfB · k)) j hlt (by rw [← HX.out]; exact ht')).symm, rfl⟩
    · obtain rfl : j = xs.length := by omega
      go_wp2
      go_ret
      exact ⟨ret_bool (all_every (f := (isOfB · k)) HN.out).symm, rfl⟩

/-- The class that l1run takes, by its flag. -/
def clsB (s : Bool) (c : Int) : Bool := if s then symbolB c else alnumB c

theorem l1run_any (b cap : Nat) (xs : List Int) (at_ : Nat) (s : Bool) (w : World) (hb : Bytes xs) (hn : xs.length ≤ 100000000) (ha : at_ ≤ xs.length)
    (hc : ∀ i, i < xs.length → w.cell? ⟨b, i, none⟩ = some (.int .u8 (xs.getD i 0))) :
    Calls Tryd.prog 20 #[.slice (some ⟨b, 0, none⟩) xs.length cap, .int .i64 at_, .bool s] w fun e w' => e = .returned (.int .i64 (runLen (clsB s) (xs.drop at_))) ∧ w' = w := by
  go_enter Tryd.func20, Tryd.ntmps20
  go_wp2
  go_loop [7] (fun i => ∃ j : Nat, at_ + j ≤ xs.length ∧ i = .int .i64 j ∧ Hid (∀ m, m < j → clsB s ((xs.drop at_).getD m 0) = true)) (fun i => xs.length - (intOf i).toNat)
  case atStart => exact ⟨0, by omega, rfl, fun _ h => absurd h (Nat.not_lt_zero _)⟩
  case round =>
    obtain ⟨j, hj, rfl, HN⟩ := hrel
    by_cases hlt : at_ + j < xs.length
    · have hx := hc (at_ + j) hlt
      have hr := hb.at (at_ + j)
      obtain ⟨x, ex⟩ : ∃ x, x = xs.getD (at_ + j) 0 := ⟨_, rfl⟩
      rw [← ex] at hx hr
      have HX : Hid (x = (xs.drop at_).getD j 0) := by rw [ex]; simp [List.getD, List.getElem?_drop, Hid]
      clear ex hc
      have hnx : symbolB x = clsB true x := rfl
      have hnx' : alnumB x = clsB false x := rfl
      by_cases ht : clsB s x = true
      · have go : ∀ m, m < j + 1 → clsB s ((xs.drop at_).getD m 0) = true := fun m hm => by
          by_cases e : m = j
          · subst e; rw [← HX.out]; exact ht
          · exact HN.out m (by omega)
        have GO : Hid (∀ m, m < j + 1 → clsB s ((xs.drop at_).getD m 0) = true) := go
        clear go
        cases s
        · rw [← hnx'] at ht
          clear hnx hnx'
          go_wp2_with (first | (go_at_call 34; refine (symbol_any _ _ hr.1 hr.2).mono ?_; rintro e w' ⟨rfl, rfl⟩) | (go_at_call 35; refine (alnum_any _ _ hr.1 hr.2).mono ?_; rintro e w' ⟨rfl, rfl⟩))
          go_round
          case rel => exact ⟨j + 1, by omega, by go_num, GO⟩
          case measure => simp [intOf]; omega
        · rw [← hnx] at ht
          clear hnx hnx'
          go_wp2_with (first | (go_at_call 34; refine (symbol_any _ _ hr.1 hr.2).mono ?_; rintro e w' ⟨rfl, rfl⟩) | (go_at_call 35; refine (alnum_any _ _ hr.1 hr.2).mono ?_; rintro e w' ⟨rfl, rfl⟩))
          go_round
          case rel => exact ⟨j + 1, by omega, by go_num, GO⟩
          case measure => simp [intOf]; omega
      · have ht' : clsB s x = false := by simpa using ht
        have HE : Hid (runLen (clsB s) (xs.drop at_) = j) := runLen_stop _ _ _ (by simp; omega) HN.out (.inr (by rw [← HX.out]; exact ht'))
        clear ht
        cases s
        · rw [← hnx'] at ht'
          clear hnx hnx'
          go_wp2_with (first | (go_at_call 34; refine (symbol_any _ _ hr.1 hr.2).mono ?_; rintro e w' ⟨rfl, rfl⟩) | (go_at_call 35; refine (alnum_any _ _ hr.1 hr.2).mono ?_; rintro e w' ⟨rfl, rfl⟩))
          go_ret
          exact ⟨ret_int (by rw [HE.out]), rfl⟩
        · rw [← hnx] at ht'
          clear hnx hnx'
          go_wp2_with (first | (go_at_call 34; refine (symbol_any _ _ hr.1 hr.2).mono ?_; rintro e w' ⟨rfl, rfl⟩) | (go_at_call 35; refine (alnum_any _ _ hr.1 hr.2).mono ?_; rintro e w' ⟨rfl, rfl⟩))
          go_ret
          exact ⟨ret_int (by rw [HE.out]), rfl⟩
    · have HE : Hid (runLen (clsB s) (xs.drop at_) = j) := runLen_stop _ _ _ (by simp; omega) HN.out (.inl (by simp; omega))
      go_wp2
      go_ret
      exact ⟨ret_int (by rw [HE.out]), rfl⟩

end Go.Proofs.YtfhelmhcmfpedaaDoor
