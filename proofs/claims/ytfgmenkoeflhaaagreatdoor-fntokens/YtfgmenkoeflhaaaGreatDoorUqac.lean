/- Texts of Plain2, Tab0, CopyT, LawPlain. Own work of the verifier. -/
import Derived.Test.YtfgmenkoeflhaaaGreatDoorUqab
namespace Go.Proofs.YtfgmenkoeflhaaaGreatDoor
open Go Go.RowKit
set_option linter.unusedVariables false
theorem strOf_eq {xs ys : List Int} (hx : Bytes xs) (hy : Bytes ys) : ((strOfNums xs).toList == (strOfNums ys).toList) = decide (xs = ys) := by
 rw [Bool.eq_iff_iff, beq_iff_eq, decide_eq_true_iff, str_eqS hx, str_listS, map_backS hy]
theorem bequal_any (b1 c1 b2 c2 n m : Nat) (xs ys : List Int) (w : World) (hx : Bytes xs) (hy : Bytes ys) (hn : xs.length = n) (hm : ys.length = m)
 (hcx : ∀ i, i < n → w.cell? ⟨b1, i, none⟩ = some (.int .u8 (xs.getD i 0))) (hcy : ∀ i, i < m → w.cell? ⟨b2, i, none⟩ = some (.int .u8 (ys.getD i 0))) :
 Calls Tryz.prog 78 #[.slice (some ⟨b1, 0, none⟩) n c1, .slice (some ⟨b2, 0, none⟩) m c2] w fun e w' => e = .returned (.bool (decide (xs = ys))) ∧ w' = w := by
 have h1 := run_convert_bytes_arg (P := Tryz.prog) w 22 5 Tryz.underlying22 Tryz.underlying5 b1 0 n c1 xs hn (fun i hi => by simpa using hcx i hi) 9 Tryz.underlying9; have h2 := run_convert_bytes_arg (P := Tryz.prog) w 22 5 Tryz.underlying22 Tryz.underlying5 b2 0 m c2 ys hm (fun i hi => by simpa using hcy i hi) 9 Tryz.underlying9; have he := strOf_eq hx hy
 obtain ⟨s, es⟩ : ∃ s, s = strOfNums xs := ⟨_, rfl⟩
 obtain ⟨t, et⟩ : ∃ t, t = strOfNums ys := ⟨_, rfl⟩
 rw [← es] at h1 he; rw [← et] at h2 he; rw [← he]; clear es et he hcx hcy
 go_enter Tryz.func78, Tryz.ntmps78
 go_wp2
 go_ret; exact ⟨rfl, rfl⟩
theorem hasPrefix_any (b1 c1 b2 c2 : Nat) (xs ys : List Int) (w : World) (hx : Bytes xs) (hy : Bytes ys) (hn : xs.length ≤ 1000000) (hm : ys.length ≤ 1000000) (hc1 : xs.length ≤ c1)
 (hcx : ∀ i, i < xs.length → w.cell? ⟨b1, i, none⟩ = some (.int .u8 (xs.getD i 0))) (hcy : ∀ i, i < ys.length → w.cell? ⟨b2, i, none⟩ = some (.int .u8 (ys.getD i 0))) :
 Calls Tryz.prog 45 #[.slice (some ⟨b1, 0, none⟩) xs.length c1, .slice (some ⟨b2, 0, none⟩) ys.length c2] w fun e w' => e = .returned (.bool (decide (xs.take ys.length = ys))) ∧ w' = w := by
 have HX : Hid (∀ i, i < xs.length → w.cell? ⟨b1, i, none⟩ = some (.int .u8 (xs.getD i 0))) := hcx; have HY : Hid (∀ i, i < ys.length → w.cell? ⟨b2, i, none⟩ = some (.int .u8 (ys.getD i 0))) := hcy; clear hcx hcy
 by_cases hl : ys.length ≤ xs.length
 ·go_enter Tryz.func45, Tryz.ntmps45
  go_wp2_with (go_at_call 78; refine (bequal_any b1 c1 b2 c2 ys.length ys.length (xs.take ys.length) ys _ (hx.take _) hy (by simp; omega) rfl (fun i hi => by rw [HX.out i (by omega)]; simp [List.getD, hi]) HY.out).mono ?_; rintro e w' ⟨rfl, rfl⟩); go_ret; exact ⟨rfl, rfl⟩
 ·have e : decide (xs.take ys.length = ys) = false := by
   rw [decide_eq_false_iff_not]; intro e; have := congrArg List.length e
   simp at this
   omega
  rw [e]; clear e
  go_enter Tryz.func45, Tryz.ntmps45
  go_wp2
  go_ret; exact ⟨rfl, rfl⟩
theorem all_same {f g : Int → Bool} : ∀ {xs : List Int}, (∀ y ∈ xs, f y = g y) → xs.all f = xs.all g
 | [], _ => rfl
 | x :: r, h => by rw [List.all_cons, List.all_cons, h x (List.mem_cons_self ..), all_same (fun y hy => h y (List.mem_cons_of_mem _ hy))]
theorem plain_impl {xs : List Int} (hb : Bytes xs) {s : ByteArray} (hs : s = strOfNums xs) {x : Int} (hx : x = xs.getD 0 0) :
 plainB xs = if xs.length = 0 ∨ 100 < xs.length then false
  else if s.toList = [33] ∨ s.toList = [59] ∨ s.toList = [91, 93] ∨ s.toList = [123, 125] then true
  else if s.toList = [46] then false
  else if isOfB x 1 = true then allB 7 xs
  else allB 8 xs && !decide (xs.take 2 = [47, 42]) := by
 have hxr := hb.at 0; rw [← hx] at hxr
 have e7 : allB 7 xs = xs.all (clsB false) := all_same fun y hy => (isOf_at (hb y hy).1 (hb y hy).2).2.1
 have e8 : allB 8 xs = xs.all (clsB true) := all_same fun y hy => (isOf_at (hb y hy).1 (hb y hy).2).2.2
 rw [plain_str hb hs hx, e7, e8, (isOf_at hxr.1 hxr.2).1]
 have hd : s.toList = [46] ↔ xs = [46] := by rw [hs]; exact str_eqS hb _
 have hk : (s.extract 0 2).toList = [47, 42] ↔ xs.take 2 = [47, 42] := by rw [hs, str_cut]; exact str_eqS (hb.take 2) _
 by_cases h46 : s.toList = [46]
 ·have h46' := hd.1 h46
  subst h46'; subst hx
  simp [h46, smallB]
 ·by_cases h2 : xs.take 2 = [47, 42]
  ·simp [h46, hk, h2]
  ·simp [h46, hk, h2]
set_option maxRecDepth 100000 in
theorem implPlain_any (b cap : Nat) (xs : List Int) (w : World) (hb : Bytes xs) (hn : xs.length ≤ 1048576) (hcap : xs.length ≤ cap)
 (hc : ∀ i, i < xs.length → w.cell? ⟨b, i, none⟩ = some (.int .u8 (xs.getD i 0)))
 (hT : ∀ i, i < 128 → w.cell? ⟨1, i, none⟩ = some (.int .u8 (tab.getD i 0))) :
 Calls Tryz.prog 18 #[.slice (some ⟨b, 0, none⟩) xs.length cap] w fun e w' => e = .returned (.bool (plainB xs)) ∧ Below w.heap.size w w' := by
 have hcv := run_convert_bytes_arg (P := Tryz.prog) w 22 5 Tryz.underlying22 Tryz.underlying5 b 0 xs.length cap xs rfl (fun i hi => by simpa using hc i hi) 9 Tryz.underlying9; have HC : Hid (∀ i, i < xs.length → w.cell? ⟨b, i, none⟩ = some (.int .u8 (xs.getD i 0))) := hc; have HT : Hid (∀ i, i < 128 → w.cell? ⟨1, i, none⟩ = some (.int .u8 (tab.getD i 0))) := hT
 obtain ⟨s, es⟩ : ∃ s, s = strOfNums xs := ⟨_, rfl⟩
 rw [← es] at hcv; clear hc hT
 by_cases h0 : xs.length = 0
 ·have e : plainB xs = false := by unfold plainB; rw [if_pos (.inl h0)]
  rw [e]; obtain rfl : xs = [] := List.eq_nil_of_length_eq_zero h0; clear h0; simp only [List.length_nil] at hcv ⊢; clear es
  go_enter Tryz.func18, Tryz.ntmps18
  go_wp2
  go_ret; exact ⟨rfl, Below.refl _ _⟩
 by_cases h100 : 100 < xs.length
 ·have e : plainB xs = false := by unfold plainB; rw [if_pos (.inr h100)]
  rw [e]; clear es
  go_enter Tryz.func18, Tryz.ntmps18
  go_wp2
  go_ret; exact ⟨rfl, Below.refl _ _⟩
 have hc0 := HC.out 0 (by omega); have hx0 := hb.at 0
 obtain ⟨x, ex⟩ : ∃ x, x = xs.getD 0 0 := ⟨_, rfl⟩
 rw [← ex] at hc0 hx0; have HP : Hid (plainB xs = _) := plain_impl hb es ex; have HB : Hid (b < w.heap.size) := World.block_lt_of_cell? _ _ hc0; clear ex es
 have kc := fun (w : World) (C : Array Value) (n c : Nat) => Lib.run_convert_bytes_const (P := Tryz.prog) w 22 5 C n c Tryz.underlying22 Tryz.underlying5
 have HA : Hid (∀ o i, i < xs.length → (w.alloc o).cell? ⟨b, i, none⟩ = some (.int .u8 (xs.getD i 0))) := fun o i hi => Lib.cell?_alloc_marked o (HC.out i hi)
 have HK : Hid (∀ i, i < 2 → (w.alloc (.cells #[.int .u8 47, .int .u8 42] 5 (2, 3))).cell? ⟨w.heap.size, i, none⟩ = some (.int .u8 (([47, 42] : List Int).getD i 0))) := fun i hi => by
  rw [World.cell?_alloc_mark]
  match i, hi with
  | 0, _ => rfl
  | 1, _ => rfl
 have hz : ((xs.length : Int) == 0) = false := by rw [beq_eq_false_iff_ne]; omega
 have hz2 : decide (100 < (xs.length : Int)) = false := by rw [decide_eq_false_iff_not]; omega
 have h2 : Bytes [47, 42] := fun y hy => by simp at hy; omega
 cases t1 : (s.toList == [33])
 rotate_left
 ·go_enter Tryz.func18, Tryz.ntmps18
  go_wp2_with (first | (go_at_call 43; refine (isOf_any _ _ _ (by omega) (by omega) HT.out).mono ?_; rintro e w' ⟨rfl, rfl⟩) | (go_at_call 44; refine (allOf_any b cap xs _ _ hb (by omega) HC.out HT.out).mono ?_; rintro e w' ⟨rfl, rfl⟩) | (go_at_call 45; refine (hasPrefix_any b cap _ 2 xs [47, 42] _ hb h2 (by omega) (by decide) hcap (HA.out _) HK.out).mono ?_; rintro e w' ⟨rfl, rfl⟩)); go_ret; refine ⟨ret_bool ?_, Below.refl _ _⟩; rw [HP.out, if_neg (by omega)]
  go_light
  simp_all
 cases t2 : (s.toList == [59])
 rotate_left
 ·go_enter Tryz.func18, Tryz.ntmps18
  go_wp2_with (first | (go_at_call 43; refine (isOf_any _ _ _ (by omega) (by omega) HT.out).mono ?_; rintro e w' ⟨rfl, rfl⟩) | (go_at_call 44; refine (allOf_any b cap xs _ _ hb (by omega) HC.out HT.out).mono ?_; rintro e w' ⟨rfl, rfl⟩) | (go_at_call 45; refine (hasPrefix_any b cap _ 2 xs [47, 42] _ hb h2 (by omega) (by decide) hcap (HA.out _) HK.out).mono ?_; rintro e w' ⟨rfl, rfl⟩)); go_ret; refine ⟨ret_bool ?_, Below.refl _ _⟩; rw [HP.out, if_neg (by omega)]
  go_light
  simp_all
 cases t3 : (s.toList == [91, 93])
 rotate_left
 ·go_enter Tryz.func18, Tryz.ntmps18
  go_wp2_with (first | (go_at_call 43; refine (isOf_any _ _ _ (by omega) (by omega) HT.out).mono ?_; rintro e w' ⟨rfl, rfl⟩) | (go_at_call 44; refine (allOf_any b cap xs _ _ hb (by omega) HC.out HT.out).mono ?_; rintro e w' ⟨rfl, rfl⟩) | (go_at_call 45; refine (hasPrefix_any b cap _ 2 xs [47, 42] _ hb h2 (by omega) (by decide) hcap (HA.out _) HK.out).mono ?_; rintro e w' ⟨rfl, rfl⟩)); go_ret; refine ⟨ret_bool ?_, Below.refl _ _⟩; rw [HP.out, if_neg (by omega)]
  go_light
  simp_all
 cases t4 : (s.toList == [123, 125])
 rotate_left
 ·go_enter Tryz.func18, Tryz.ntmps18
  go_wp2_with (first | (go_at_call 43; refine (isOf_any _ _ _ (by omega) (by omega) HT.out).mono ?_; rintro e w' ⟨rfl, rfl⟩) | (go_at_call 44; refine (allOf_any b cap xs _ _ hb (by omega) HC.out HT.out).mono ?_; rintro e w' ⟨rfl, rfl⟩) | (go_at_call 45; refine (hasPrefix_any b cap _ 2 xs [47, 42] _ hb h2 (by omega) (by decide) hcap (HA.out _) HK.out).mono ?_; rintro e w' ⟨rfl, rfl⟩)); go_ret; refine ⟨ret_bool ?_, Below.refl _ _⟩; rw [HP.out, if_neg (by omega)]
  go_light
  simp_all
 cases t5 : (s.toList == [46])
 rotate_left
 ·go_enter Tryz.func18, Tryz.ntmps18
  go_wp2_with (first | (go_at_call 43; refine (isOf_any _ _ _ (by omega) (by omega) HT.out).mono ?_; rintro e w' ⟨rfl, rfl⟩) | (go_at_call 44; refine (allOf_any b cap xs _ _ hb (by omega) HC.out HT.out).mono ?_; rintro e w' ⟨rfl, rfl⟩) | (go_at_call 45; refine (hasPrefix_any b cap _ 2 xs [47, 42] _ hb h2 (by omega) (by decide) hcap (HA.out _) HK.out).mono ?_; rintro e w' ⟨rfl, rfl⟩)); go_ret; refine ⟨ret_bool ?_, Below.refl _ _⟩; rw [HP.out, if_neg (by omega)]
  go_light
  simp_all
 cases t6 : isOfB x 1
 rotate_left
 ·go_enter Tryz.func18, Tryz.ntmps18
  go_wp2_with (first | (go_at_call 43; refine (isOf_any _ _ _ (by omega) (by omega) HT.out).mono ?_; rintro e w' ⟨rfl, rfl⟩) | (go_at_call 44; refine (allOf_any b cap xs _ _ hb (by omega) HC.out HT.out).mono ?_; rintro e w' ⟨rfl, rfl⟩) | (go_at_call 45; refine (hasPrefix_any b cap _ 2 xs [47, 42] _ hb h2 (by omega) (by decide) hcap (HA.out _) HK.out).mono ?_; rintro e w' ⟨rfl, rfl⟩)); go_ret; refine ⟨ret_bool ?_, Below.refl _ _⟩; rw [HP.out, if_neg (by omega)]
  go_light
  simp_all
 cases t7 : allB 8 xs
 ·go_enter Tryz.func18, Tryz.ntmps18
  go_wp2_with (first | (go_at_call 43; refine (isOf_any _ _ _ (by omega) (by omega) HT.out).mono ?_; rintro e w' ⟨rfl, rfl⟩) | (go_at_call 44; refine (allOf_any b cap xs _ _ hb (by omega) HC.out HT.out).mono ?_; rintro e w' ⟨rfl, rfl⟩) | (go_at_call 45; refine (hasPrefix_any b cap _ 2 xs [47, 42] _ hb h2 (by omega) (by decide) hcap (HA.out _) HK.out).mono ?_; rintro e w' ⟨rfl, rfl⟩)); go_ret; refine ⟨ret_bool ?_, Below.refl _ _⟩; rw [HP.out, if_neg (by omega)]
  go_light
  simp_all
 ·go_enter Tryz.func18, Tryz.ntmps18
  go_wp2_with (first | (go_at_call 43; refine (isOf_any _ _ _ (by omega) (by omega) HT.out).mono ?_; rintro e w' ⟨rfl, rfl⟩) | (go_at_call 44; refine (allOf_any b cap xs _ _ hb (by omega) HC.out HT.out).mono ?_; rintro e w' ⟨rfl, rfl⟩) | (go_at_call 45; refine (hasPrefix_any b cap _ 2 xs [47, 42] _ hb h2 (by omega) (by decide) hcap (HA.out _) HK.out).mono ?_; rintro e w' ⟨rfl, rfl⟩)); go_ret; refine ⟨ret_bool ?_, (Below.refl _ _).alloc (Nat.le_refl _) _⟩; rw [HP.out, if_neg (by omega)]
  go_light
  simp_all
def Tab (W : World) : Prop := ∀ i, i < 128 → W.cell? ⟨1, i, none⟩ = some (.int .u8 (tab.getD i 0))
theorem Tab.below {W W' : World} (h : Tab W) (hb : Below W.heap.size W W') : Tab W' := fun i hi => (hb.cell (World.block_lt_of_cell? _ _ (h i hi))).trans (h i hi)
end Go.Proofs.YtfgmenkoeflhaaaGreatDoor
