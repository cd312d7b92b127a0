/- Texts of Base, Base2, Strs, Plain. Own work of the verifier. -/
import Derived.Test.YtfgmenkoeflhaaaGreatDoorUqaa
import Derived.Laws.BytesArg
import Derived.Lib.Strings
import Derived.WideShapes
import Derived.Lib.SlBytesConst
import Derived.Deep.Light
namespace Go.Proofs.YtfgmenkoeflhaaaGreatDoor
set_option linter.unusedVariables false
section
open Go Go.RowKit
theorem small_any (c : Int) (w : World) (h0 : 0 ≤ c) (h1 : c < 256) : Calls Tryz.prog 35 #[.int .u8 c] w fun e w' => e = .returned (.bool (smallB c)) ∧ w' = w := by
 by_cases a : 97 ≤ c
 ·by_cases b : c ≤ 122
  ·go_enter Tryz.func35, Tryz.ntmps35
   go_wp2
   go_ret; exact ⟨by simp [smallB, a, b], rfl⟩
  ·go_enter Tryz.func35, Tryz.ntmps35
   go_wp2
   go_ret; exact ⟨by simp [smallB, a, b], rfl⟩
 ·go_enter Tryz.func35, Tryz.ntmps35
  go_wp2
  go_ret; exact ⟨ret_bool (by simp only [smallB]; symm; simp; omega), rfl⟩
theorem digit_any (c : Int) (w : World) (h0 : 0 ≤ c) (h1 : c < 256) : Calls Tryz.prog 31 #[.int .u8 c] w fun e w' => e = .returned (.bool (digitB c)) ∧ w' = w := by
 by_cases a : 48 ≤ c
 ·by_cases b : c ≤ 57
  ·go_enter Tryz.func31, Tryz.ntmps31
   go_wp2
   go_ret; exact ⟨by simp [digitB, a, b], rfl⟩
  ·go_enter Tryz.func31, Tryz.ntmps31
   go_wp2
   go_ret; exact ⟨by simp [digitB, a, b], rfl⟩
 ·go_enter Tryz.func31, Tryz.ntmps31
  go_wp2
  go_ret; exact ⟨ret_bool (by simp only [digitB]; symm; simp; omega), rfl⟩
theorem alnum_any (c : Int) (w : World) (h0 : 0 ≤ c) (h1 : c < 256) : Calls Tryz.prog 33 #[.int .u8 c] w fun e w' => e = .returned (.bool (alnumB c)) ∧ w' = w := by
 by_cases a : 97 ≤ c ∧ c ≤ 122
 ·have hs : smallB c = true := by simp [smallB, a]
  go_enter Tryz.func33, Tryz.ntmps33
  go_wp2_with (go_at_call 35; refine (small_any c _ h0 h1).mono ?_; rintro e w' ⟨rfl, rfl⟩); go_ret; exact ⟨by simp [alnumB, a], rfl⟩
 ·have hs : smallB c = false := by simp only [smallB, a, decide_false]
  by_cases b : 65 ≤ c
  ·by_cases b' : c ≤ 90
   ·go_enter Tryz.func33, Tryz.ntmps33
    go_wp2_with (go_at_call 35; refine (small_any c _ h0 h1).mono ?_; rintro e w' ⟨rfl, rfl⟩); go_ret; exact ⟨by simp [alnumB, a, b, b'], rfl⟩
   ·by_cases d : c = 95
    ·subst d
     go_enter Tryz.func33, Tryz.ntmps33
     go_wp2_with (go_at_call 35; refine (small_any _ _ h0 h1).mono ?_; rintro e w' ⟨rfl, rfl⟩); go_ret; exact ⟨rfl, rfl⟩
    ·have hd : digitB c = false := by simp [digitB]; omega
     have hz : alnumB c = false := by simp only [alnumB, decide_eq_false_iff_not]; omega
     rw [hz]; clear a
     go_enter Tryz.func33, Tryz.ntmps33
     go_wp2_with (first | (go_at_call 35; refine (small_any c _ h0 h1).mono ?_; rintro e w' ⟨rfl, rfl⟩) | (go_at_call 31; refine (digit_any c _ h0 h1).mono ?_; rintro e w' ⟨rfl, rfl⟩)); go_ret; exact ⟨ret_bool (by simp [d, b']), rfl⟩
  ·have d : ¬ c = 95 := by omega
   have hz : alnumB c = digitB c := by simp only [alnumB, digitB]; congr 1; rw [eq_iff_iff]; omega
   rw [hz]; clear a
   go_enter Tryz.func33, Tryz.ntmps33
   go_wp2_with (first | (go_at_call 35; refine (small_any c _ h0 h1).mono ?_; rintro e w' ⟨rfl, rfl⟩) | (go_at_call 31; refine (digit_any c _ h0 h1).mono ?_; rintro e w' ⟨rfl, rfl⟩)); go_ret; exact ⟨ret_bool (by simp [d]), rfl⟩
end
section
open Go Go.RowKit
theorem sym_none (c : Int) (h : ∀ j, j < 17 → symL.getD j 0 ≠ c) : symbolB c = false := by
 unfold symbolB
 rw [Bool.eq_false_iff]
 intro hm
 rw [List.contains_iff_mem] at hm; obtain ⟨i, hi, he⟩ := List.mem_iff_getElem.1 hm; have h17 : i < 17 := hi; exact h i h17 (by rw [List.getD, List.getElem?_eq_getElem hi]; exact he)
theorem sym_hit (c : Int) (k : Nat) (h : k < 17) (hk : symL.getD k 0 = c) : symbolB c = true := by
 unfold symbolB
 rw [List.contains_iff_mem, ← hk, List.getD, List.getElem?_eq_getElem (show k < symL.length from h)]; exact List.getElem_mem _
theorem sym_fin : ∀ k : Fin 17, ((((⟨#[43, 45, 42, 47, 92, 94, 60, 62, 61, 126, 58, 46, 63, 64, 35, 38, 36]⟩ : ByteArray)[k.1]'k.2).toNat : Nat) : Int) = symL.getD k.1 0 := by decide +kernel
theorem sym_at (k : Nat) (h : k < (⟨#[43, 45, 42, 47, 92, 94, 60, 62, 61, 126, 58, 46, 63, 64, 35, 38, 36]⟩ : ByteArray).size) : ((((⟨#[43, 45, 42, 47, 92, 94, 60, 62, 61, 126, 58, 46, 63, 64, 35, 38, 36]⟩ : ByteArray)[k]'h).toNat : Nat) : Int) = symL.getD k 0 := sym_fin ⟨k, h⟩
theorem symbol_any (c : Int) (w : World) (h0 : 0 ≤ c) (h1 : c < 256) : Calls Tryz.prog 36 #[.int .u8 c] w fun e w' => e = .returned (.bool (symbolB c)) ∧ w' = w := by
 go_enter Tryz.func36, Tryz.ntmps36
 go_wp2
 go_loop [4] (fun i => ∃ k : Nat, k ≤ 17 ∧ i = .int .i64 k ∧ Hid (∀ j, j < k → symL.getD j 0 ≠ c)) (fun i => 17 - (intOf i).toNat)
 case atStart => exact ⟨0, Nat.zero_le _, rfl, fun _ h => absurd h (Nat.not_lt_zero _)⟩
 case round =>
  obtain ⟨k, hk, rfl, HN⟩ := hrel
  by_cases hlt : k < 17
  ·go_wp2
   ·go_ret
    have ht := ‹(_ == c) = true›; rw [sym_at k hlt] at ht; exact ⟨ret_bool (sym_hit c k hlt (by simpa using ht)).symm, rfl⟩
   ·have ht := ‹(_ == c) = false›
    rw [sym_at k hlt] at ht
    go_round
    case rel => exact ⟨k + 1, by omega, by go_num, fun j hj => by
     by_cases e : j = k
     ·subst e; simpa using ht
     ·exact HN.out j (by omega)⟩
    case measure => simp [intOf]; omega
  ·obtain rfl : k = 17 := by omega
   go_wp2
   go_ret; exact ⟨ret_bool (sym_none c HN.out).symm, rfl⟩
theorem isOf_any (b k : Int) (w : World) (h0 : -9223372036854775808 ≤ b) (h1 : b ≤ 9223372036854775807) (hT : ∀ i, i < 128 → w.cell? ⟨1, i, none⟩ = some (.int .u8 (tab.getD i 0))) :
 Calls Tryz.prog 43 #[.int .i64 b, .int .u8 k] w fun e w' => e = .returned (.bool (isOfB b k)) ∧ w' = w := by
 by_cases a : 0 ≤ b
 ·by_cases b' : b < 128
  ·have hc := hT b.toNat (by omega)
   rw [isOf_in a b']; clear hT
   go_enter Tryz.func43, Tryz.ntmps43
   go_wp2
   go_ret; exact ⟨rfl, rfl⟩
  ·rw [isOf_hi (by omega)]
   clear hT
   go_enter Tryz.func43, Tryz.ntmps43
   go_wp2
   go_ret; exact ⟨rfl, rfl⟩
 ·rw [isOf_lo (by omega)]
  clear hT
  go_enter Tryz.func43, Tryz.ntmps43
  go_wp2
  go_ret; exact ⟨rfl, rfl⟩
theorem all_none {f : Int → Bool} {xs : List Int} (k : Nat) (h : k < xs.length) (hf : f (xs.getD k 0) = false) : xs.all f = false := by
 rw [Bool.eq_false_iff]
 intro ha
 have := List.all_eq_true.1 ha xs[k] (List.getElem_mem h); rw [List.getD, List.getElem?_eq_getElem h] at hf
 simp [this] at hf
theorem all_every {f : Int → Bool} {xs : List Int} (h : ∀ j, j < xs.length → f (xs.getD j 0) = true) : xs.all f = true := by
 rw [List.all_eq_true]
 intro x hx
 obtain ⟨i, hi, rfl⟩ := List.mem_iff_getElem.1 hx; have := h i hi
 rwa [List.getD, List.getElem?_eq_getElem hi] at this
def allB (k : Int) (xs : List Int) : Bool := xs.all (isOfB · k)
theorem allOf_any (b cap : Nat) (xs : List Int) (k : Int) (w : World) (hb : Bytes xs) (hn : xs.length ≤ 100000000)
 (hc : ∀ i, i < xs.length → w.cell? ⟨b, i, none⟩ = some (.int .u8 (xs.getD i 0)))
 (hT : ∀ i, i < 128 → w.cell? ⟨1, i, none⟩ = some (.int .u8 (tab.getD i 0))) :
 Calls Tryz.prog 44 #[.slice (some ⟨b, 0, none⟩) xs.length cap, .int .u8 k] w fun e w' => e = .returned (.bool (allB k xs)) ∧ w' = w := by
 have HT : Hid (∀ i, i < 128 → w.cell? ⟨1, i, none⟩ = some (.int .u8 (tab.getD i 0))) := hT; clear hT
 go_enter Tryz.func44, Tryz.ntmps44
 go_wp2
 go_loop [9] (fun i => ∃ j : Nat, j ≤ xs.length ∧ i = .int .i64 j ∧ Hid (∀ m, m < j → isOfB (xs.getD m 0) k = true)) (fun i => xs.length - (intOf i).toNat)
 case atStart => exact ⟨0, Nat.zero_le _, rfl, fun _ h => absurd h (Nat.not_lt_zero _)⟩
 case round =>
  obtain ⟨j, hj, rfl, HN⟩ := hrel
  by_cases hlt : j < xs.length
  ·have hx := hc j hlt
   have hr := hb.at j
   obtain ⟨x, ex⟩ : ∃ x, x = xs.getD j 0 := ⟨_, rfl⟩
   rw [← ex] at hx hr; have HX : Hid (x = xs.getD j 0) := ex; clear ex hc
   by_cases ht : isOfB x k = true
   ·go_wp2_with (go_at_call 43; refine (isOf_any _ _ _ (by omega) (by omega) HT.out).mono ?_; rintro e w' ⟨rfl, rfl⟩)
    go_round
    case rel => exact ⟨j + 1, by omega, by go_num, fun m hm => by
     by_cases e : m = j
     ·subst e; rw [← HX.out]; exact ht
     ·exact HN.out m (by omega)⟩
    case measure => simp [intOf]; omega
   ·have ht' : isOfB x k = false := by simpa using ht
    clear ht; go_wp2_with (go_at_call 43; refine (isOf_any _ _ _ (by omega) (by omega) HT.out).mono ?_; rintro e w' ⟨rfl, rfl⟩); go_ret; exact ⟨ret_bool (all_none (f := (isOfB · k)) j hlt (by rw [← HX.out]; exact ht')).symm, rfl⟩
  ·obtain rfl : j = xs.length := by omega
   go_wp2
   go_ret; exact ⟨ret_bool (all_every (f := (isOfB · k)) HN.out).symm, rfl⟩
def clsB (s : Bool) (c : Int) : Bool := if s then symbolB c else alnumB c
theorem l1run_any (b cap : Nat) (xs : List Int) (at_ : Nat) (s : Bool) (w : World) (hb : Bytes xs) (hn : xs.length ≤ 100000000) (ha : at_ ≤ xs.length)
 (hc : ∀ i, i < xs.length → w.cell? ⟨b, i, none⟩ = some (.int .u8 (xs.getD i 0))) :
 Calls Tryz.prog 34 #[.slice (some ⟨b, 0, none⟩) xs.length cap, .int .i64 at_, .bool s] w fun e w' => e = .returned (.int .i64 (runLen (clsB s) (xs.drop at_))) ∧ w' = w := by
 go_enter Tryz.func34, Tryz.ntmps34
 go_wp2
 go_loop [7] (fun i => ∃ j : Nat, at_ + j ≤ xs.length ∧ i = .int .i64 j ∧ Hid (∀ m, m < j → clsB s ((xs.drop at_).getD m 0) = true)) (fun i => xs.length - (intOf i).toNat)
 case atStart => exact ⟨0, by omega, rfl, fun _ h => absurd h (Nat.not_lt_zero _)⟩
 case round =>
  obtain ⟨j, hj, rfl, HN⟩ := hrel
  by_cases hlt : at_ + j < xs.length
  ·have hx := hc (at_ + j) hlt
   have hr := hb.at (at_ + j)
   obtain ⟨x, ex⟩ : ∃ x, x = xs.getD (at_ + j) 0 := ⟨_, rfl⟩
   rw [← ex] at hx hr
   have HX : Hid (x = (xs.drop at_).getD j 0) := by rw [ex]; simp [List.getD, List.getElem?_drop, Hid]
   clear ex hc; have hnx : symbolB x = clsB true x := rfl; have hnx' : alnumB x = clsB false x := rfl
   by_cases ht : clsB s x = true
   ·have go : ∀ m, m < j + 1 → clsB s ((xs.drop at_).getD m 0) = true := fun m hm => by
     by_cases e : m = j
     ·subst e; rw [← HX.out]; exact ht
     ·exact HN.out m (by omega)
    have GO : Hid (∀ m, m < j + 1 → clsB s ((xs.drop at_).getD m 0) = true) := go; clear go
    cases s
    ·rw [← hnx'] at ht
     clear hnx hnx'; go_wp2_with (first | (go_at_call 36; refine (symbol_any _ _ hr.1 hr.2).mono ?_; rintro e w' ⟨rfl, rfl⟩) | (go_at_call 33; refine (alnum_any _ _ hr.1 hr.2).mono ?_; rintro e w' ⟨rfl, rfl⟩))
     go_round
     case rel => exact ⟨j + 1, by omega, by go_num, GO⟩
     case measure => simp [intOf]; omega
    ·rw [← hnx] at ht
     clear hnx hnx'; go_wp2_with (first | (go_at_call 36; refine (symbol_any _ _ hr.1 hr.2).mono ?_; rintro e w' ⟨rfl, rfl⟩) | (go_at_call 33; refine (alnum_any _ _ hr.1 hr.2).mono ?_; rintro e w' ⟨rfl, rfl⟩))
     go_round
     case rel => exact ⟨j + 1, by omega, by go_num, GO⟩
     case measure => simp [intOf]; omega
   ·have ht' : clsB s x = false := by simpa using ht
    have HE : Hid (runLen (clsB s) (xs.drop at_) = j) := runLen_stop _ _ _ (by simp; omega) HN.out (.inr (by rw [← HX.out]; exact ht')); clear ht
    cases s
    ·rw [← hnx'] at ht'
     clear hnx hnx'; go_wp2_with (first | (go_at_call 36; refine (symbol_any _ _ hr.1 hr.2).mono ?_; rintro e w' ⟨rfl, rfl⟩) | (go_at_call 33; refine (alnum_any _ _ hr.1 hr.2).mono ?_; rintro e w' ⟨rfl, rfl⟩)); go_ret; exact ⟨ret_int (by rw [HE.out]), rfl⟩
    ·rw [← hnx] at ht'
     clear hnx hnx'; go_wp2_with (first | (go_at_call 36; refine (symbol_any _ _ hr.1 hr.2).mono ?_; rintro e w' ⟨rfl, rfl⟩) | (go_at_call 33; refine (alnum_any _ _ hr.1 hr.2).mono ?_; rintro e w' ⟨rfl, rfl⟩)); go_ret; exact ⟨ret_int (by rw [HE.out]), rfl⟩
  ·have HE : Hid (runLen (clsB s) (xs.drop at_) = j) := runLen_stop _ _ _ (by simp; omega) HN.out (.inl (by simp; omega))
   go_wp2
   go_ret; exact ⟨ret_int (by rw [HE.out]), rfl⟩
end
section
open Go Go.RowKit
theorem u8_ofS {x : Int} (h0 : 0 ≤ x) (h1 : x < 256) : ((UInt8.ofNat x.toNat).toNat : Int) = x := by
 simp only [UInt8.toNat_ofNat']; omega
theorem str_listS {xs : List Int} : (strOfNums xs).toList = xs.map fun n => UInt8.ofNat n.toNat := by
 rw [ByteArray.toList_eq]; rfl
theorem map_backS : ∀ {xs : List Int}, Bytes xs → (xs.map fun n => UInt8.ofNat n.toNat).map (fun u => (u.toNat : Int)) = xs
 | [], _ => rfl
 | x :: r, h => by
   have hx := h x (List.mem_cons_self ..); simp only [List.map_cons]; rw [u8_ofS hx.1 hx.2, map_backS (fun y hy => h y (List.mem_cons_of_mem _ hy))]
theorem map_forthS (l : List UInt8) : ((l.map (fun u => (u.toNat : Int))).map fun n => UInt8.ofNat n.toNat) = l := by
 induction l with
 | nil => rfl
 | cons a r ih => simp only [List.map_cons, ih]; simp
theorem str_eqS {xs : List Int} (hb : Bytes xs) (l : List UInt8) : (strOfNums xs).toList = l ↔ xs = l.map (fun u => (u.toNat : Int)) := by
 rw [str_listS]
 constructor
 ·intro h; rw [← h, map_backS hb]
 ·intro h; rw [h, map_forthS]
theorem str_cut {xs : List Int} (n : Nat) : (strOfNums xs).extract 0 n = strOfNums (xs.take n) := by
 apply Go.WideShapes.bytes_inj
 rw [Lib.extract_data, strOfNums_data, strOfNums_data]
 simp [List.map_take]
theorem runLen_eq (s : Bool) (xs : List Int) : ((runLen (clsB s) xs : Int) == (xs.length : Int)) = xs.all (clsB s) := by
 have := runLen_all (clsB s) xs; rw [Bool.eq_iff_iff, ← this, beq_iff_eq]
 omega
theorem plain_str {xs : List Int} (hb : Bytes xs) {s : ByteArray} (hs : s = strOfNums xs) {x : Int} (hx : x = xs.getD 0 0) :
 plainB xs = if xs.length = 0 ∨ 100 < xs.length then false
  else if s.toList = [33] ∨ s.toList = [59] ∨ s.toList = [91, 93] ∨ s.toList = [123, 125] then true
  else if smallB x = true then xs.all (clsB false)
  else if s.toList = [46] ∨ (s.extract 0 2).toList = [47, 42] then false
  else xs.all (clsB true) := by
 subst hs; subst hx; simp only [str_cut, str_eqS hb, str_eqS (hb.take 2)]
 rfl
end
section
open Go Go.RowKit
end
end Go.Proofs.YtfgmenkoeflhaaaGreatDoor
