/- The scanner's small methods. Own work of the verifier. -/
import Derived.Test.YtfhelmhcmfpedaaDoorOwn
import Derived.Test.YtfhelmhcmfpedaaDoorLawPlain
namespace Go.Proofs.YtfhelmhcmfpedaaDoor
open Go Go.RowKit
set_option linter.unusedVariables false

/-- The byte at a place, -1 behind the end. -/
def byteI (xs : List Int) (i : Nat) : Int := if i < xs.length then xs.getD i 0 else -1
theorem byteI_lt {xs : List Int} {i : Nat} (h : i < xs.length) : byteI xs i = xs.getD i 0 := by unfold byteI; rw [if_pos h]
theorem byteI_ge {xs : List Int} {i : Nat} (h : xs.length ≤ i) : byteI xs i = -1 := by unfold byteI; rw [if_neg (by omega)]
theorem byteI_rng {xs : List Int} (hb : Bytes xs) (i : Nat) : -1 ≤ byteI xs i ∧ byteI xs i < 256 := by
  unfold byteI; split
  · have := hb.at i; omega
  · omega

theorem byteAt_any (S b n c : Nat) (xs : List Int) (at_ : Nat) (w : World) (hb : Bytes xs) (hn : n = xs.length) (hm : n ≤ 1000000) (ha : at_ ≤ 10000000)
    (h0 : w.cell? ⟨S, 0, none⟩ = some (.slice (some ⟨b, 0, none⟩) n c)) (hc : ∀ i, i < xs.length → w.cell? ⟨b, i, none⟩ = some (.int .u8 (xs.getD i 0))) :
    Calls Tryd.prog 52 #[.pointer (some ⟨S, 0, none⟩), .int .i64 at_] w fun e w' => e = .returned (.int .i64 (byteI xs at_)) ∧ w' = w := by
  by_cases h : at_ < xs.length
  · rw [byteI_lt h]
    have hx := hc at_ h
    have hr := hb.at at_
    have hlt : at_ < n := by omega
    obtain ⟨x, ex⟩ : ∃ x, x = xs.getD at_ 0 := ⟨_, rfl⟩
    rw [← ex] at hx hr ⊢
    clear ex hc hn
    go_enter Tryd.func52, Tryd.ntmps52
    go_wp2
    go_ret
    exact ⟨rfl, rfl⟩
  · rw [byteI_ge (by omega)]
    have hge : n ≤ at_ := by omega
    clear hc hn
    go_enter Tryd.func52, Tryd.ntmps52
    go_wp2
    go_ret
    exact ⟨rfl, rfl⟩

/-- What is a digit's value, as the program and the specification tell it: 16 where it is none. -/
def digI (b : Int) : Int := if 48 ≤ b ∧ b ≤ 57 then b - 48 else if 97 ≤ b ∧ b ≤ 102 then b - 87 else if 65 ≤ b ∧ b ≤ 70 then b - 55 else 16
theorem digitValue_any (b : Int) (w : World) (h0 : -1 ≤ b) (h1 : b < 256) : Calls Tryd.prog 78 #[.int .i64 b] w fun e w' => e = .returned (.int .i64 (digI b)) ∧ w' = w := by
  by_cases a : 48 ≤ b ∧ b ≤ 57
  · rw [show digI b = b - 48 by unfold digI; rw [if_pos a]]
    obtain ⟨a1, a2⟩ := a
    go_enter Tryd.func78, Tryd.ntmps78
    go_wp2
    go_ret
    exact ⟨rfl, rfl⟩
  by_cases a2 : 97 ≤ b ∧ b ≤ 102
  · rw [show digI b = b - 87 by unfold digI; rw [if_neg a, if_pos a2]]
    obtain ⟨a3, a4⟩ := a2
    have t1 : decide (48 ≤ b) = true := by rw [decide_eq_true_iff]; omega
    have t2 : decide (b ≤ 57) = false := by rw [decide_eq_false_iff_not]; omega
    clear a
    go_enter Tryd.func78, Tryd.ntmps78
    go_wp2
    go_ret
    exact ⟨ret_int (by omega), rfl⟩
  by_cases a3 : 65 ≤ b ∧ b ≤ 70
  · rw [show digI b = b - 55 by unfold digI; rw [if_neg a, if_neg a2, if_pos a3]]
    obtain ⟨a4, a5⟩ := a3
    have t1 : decide (48 ≤ b) = true := by rw [decide_eq_true_iff]; omega
    have t2 : decide (b ≤ 57) = false := by rw [decide_eq_false_iff_not]; omega
    have t3 : decide (97 ≤ b) = false := by rw [decide_eq_false_iff_not]; omega
    clear a a2
    go_enter Tryd.func78, Tryd.ntmps78
    go_wp2
    go_ret
    exact ⟨ret_int (by omega), rfl⟩
  · rw [show digI b = 16 by unfold digI; rw [if_neg a, if_neg a2, if_neg a3]]
    have t1 : (decide (48 ≤ b) && decide (b ≤ 57)) = false := by simp; omega
    have t2 : (decide (97 ≤ b) && decide (b ≤ 102)) = false := by simp; omega
    have t3 : (decide (65 ≤ b) && decide (b ≤ 70)) = false := by simp; omega
    go_enter Tryd.func78, Tryd.ntmps78
    go_wp2
    all_goals go_ret
    all_goals exact ⟨rfl, rfl⟩

theorem standsFor_any (b : Int) (w : World) (h0 : -1 ≤ b) (h1 : b < 256) : Calls Tryd.prog 70 #[.int .i64 b] w fun e w' => e = .returned (.bool (decide (32 ≤ b ∧ b ≠ 127))) ∧ w' = w := by
  by_cases a : 32 ≤ b
  · go_enter Tryd.func70, Tryd.ntmps70
    go_wp2
    go_ret
    exact ⟨ret_bool (by rw [Bool.eq_iff_iff]; simp [a]), rfl⟩
  · have t1 : decide (32 ≤ b) = false := by rw [decide_eq_false_iff_not]; omega
    go_enter Tryd.func70, Tryd.ntmps70
    go_wp2
    go_ret
    exact ⟨ret_bool (by first | rfl | (rw [eq_comm, decide_eq_false_iff_not]; omega)), rfl⟩

def baseI (b : Int) : Int := if b = 120 then 16 else if b = 111 then 8 else if b = 98 then 2 else 0
theorem baseOf_any (b : Int) (w : World) (h0 : -1 ≤ b) (h1 : b < 256) : Calls Tryd.prog 77 #[.int .i64 b] w fun e w' => e = .returned (.int .i64 (baseI b)) ∧ w' = w := by
  by_cases a : b = 120
  · subst a
    go_enter Tryd.func77, Tryd.ntmps77
    go_wp2
    go_ret
    exact ⟨rfl, rfl⟩
  by_cases a2 : b = 111
  · subst a2
    clear a
    go_enter Tryd.func77, Tryd.ntmps77
    go_wp2
    go_ret
    exact ⟨rfl, rfl⟩
  by_cases a3 : b = 98
  · subst a3
    clear a a2
    go_enter Tryd.func77, Tryd.ntmps77
    go_wp2
    go_ret
    exact ⟨rfl, rfl⟩
  · rw [show baseI b = 0 by unfold baseI; rw [if_neg a, if_neg a2, if_neg a3]]
    have t1 : (b == 120) = false := by simpa using a
    have t2 : (b == 111) = false := by simpa using a2
    have t3 : (b == 98) = false := by simpa using a3
    clear a a2 a3
    go_enter Tryd.func77, Tryd.ntmps77
    go_wp2
    go_ret
    exact ⟨rfl, rfl⟩

/-- What is behind a point that ends a clause. -/
def endsI (b : Int) : Bool := decide (b = -1 ∨ b = 37 ∨ b = 32 ∨ b = 9 ∨ b = 10 ∨ b = 13)
theorem isOf16_all : (List.range 257).all (fun c => isOfB ((c : Int) - 1) 16 == decide (((c : Int) - 1) = 32 ∨ ((c : Int) - 1) = 9 ∨ ((c : Int) - 1) = 10 ∨ ((c : Int) - 1) = 13)) = true := by decide +kernel
theorem isOf16 {b : Int} (h0 : -1 ≤ b) (h1 : b < 256) : isOfB b 16 = decide (b = 32 ∨ b = 9 ∨ b = 10 ∨ b = 13) := by
  have h := List.all_eq_true.1 isOf16_all (b + 1).toNat (by simp; omega)
  rw [show (((b + 1).toNat : Nat) : Int) - 1 = b by omega] at h
  simpa using h
theorem endsBehind_any (S b n c : Nat) (xs : List Int) (at_ : Nat) (w : World) (hb : Bytes xs) (hn : n = xs.length) (hm : n ≤ 1000000) (ha : at_ ≤ 10000000)
    (h0 : w.cell? ⟨S, 0, none⟩ = some (.slice (some ⟨b, 0, none⟩) n c)) (hc : ∀ i, i < xs.length → w.cell? ⟨b, i, none⟩ = some (.int .u8 (xs.getD i 0))) (hT : Tab w) :
    Calls Tryd.prog 57 #[.pointer (some ⟨S, 0, none⟩), .int .i64 at_] w fun e w' => e = .returned (.bool (endsI (byteI xs at_))) ∧ w' = w := by
  have HC : Hid (∀ i, i < xs.length → w.cell? ⟨b, i, none⟩ = some (.int .u8 (xs.getD i 0))) := hc
  have HT : Hid (Tab w) := hT
  have HN : Hid (n = xs.length) := hn
  have hr := byteI_rng hb at_
  have hk := isOf16 hr.1 hr.2
  clear hc hT hn
  obtain ⟨x, ex⟩ : ∃ x, x = byteI xs at_ := ⟨_, rfl⟩
  rw [← ex] at hr hk ⊢
  have HX : Hid (byteI xs at_ = x) := ex.symm
  clear ex
  have arm : ∀ r : Bool, endsI x = r → Hid (endsI x = r) := fun _ h => h
  by_cases a : x = -1
  · have E := arm true (by simp [endsI, a])
    subst a
    go_enter Tryd.func57, Tryd.ntmps57
    go_wp2_with (go_at_call 52; refine (byteAt_any S b n c xs at_ _ hb HN.out hm ha h0 HC.out).mono ?_; rintro e w' ⟨rfl, rfl⟩; rw [HX.out])
    go_ret
    exact ⟨ret_bool E.out.symm, rfl⟩
  by_cases a2 : x = 37
  · have E := arm true (by simp [endsI, a2])
    subst a2
    clear a
    go_enter Tryd.func57, Tryd.ntmps57
    go_wp2_with (go_at_call 52; refine (byteAt_any S b n c xs at_ _ hb HN.out hm ha h0 HC.out).mono ?_; rintro e w' ⟨rfl, rfl⟩; rw [HX.out])
    go_ret
    exact ⟨ret_bool E.out.symm, rfl⟩
  · have E := arm (isOfB x 16) (by rw [hk]; simp [endsI, a, a2])
    have t1 : (x == -1) = false := by simpa using a
    have t2 : (x == 37) = false := by simpa using a2
    clear a a2 hk
    go_enter Tryd.func57, Tryd.ntmps57
    go_wp2_with (first | (go_at_call 52; refine (byteAt_any S b n c xs at_ _ hb HN.out hm ha h0 HC.out).mono ?_; rintro e w' ⟨rfl, rfl⟩; rw [HX.out]) | (go_at_call 21; refine (isOf_any _ _ _ (by omega) (by omega) HT.out).mono ?_; rintro e w' ⟨rfl, rfl⟩))
    go_ret
    exact ⟨ret_bool E.out.symm, rfl⟩

/-- All digits of a base from a place on: the value stays at one too many. -/
def digsB (xs : List Int) (base : Int) : Nat → Nat → Int → Int × Nat
  | 0, i, v => (v, i)
  | f + 1, i, v => if digI (byteI xs i) < base then digsB xs base f (i + 1) (min (v * base + digI (byteI xs i)) 1000000000000001) else (v, i)

theorem digs_end (xs : List Int) (base : Int) (hbs : base ≤ 16) : ∀ (f i : Nat) (v : Int), xs.length ≤ i + f → ∀ g, digsB xs base (f + g) i v = digsB xs base f i v
  | 0, i, v, h, 0 => rfl
  | 0, i, v, h, g + 1 => by
    have : digI (byteI xs i) = 16 := by rw [byteI_ge (by omega)]; rfl
    have e : (0 : Nat) + (g + 1) = g + 1 := by omega
    rw [e]
    unfold digsB
    rw [if_neg (by omega)]
  | f + 1, i, v, h, g => by
    have e : f + 1 + g = (f + g) + 1 := by omega
    rw [e]
    unfold digsB
    split
    · exact digs_end xs base hbs f (i + 1) _ (by omega) g
    · rfl

theorem digs_step (xs : List Int) (base : Int) (hbs : base ≤ 16) (k : Nat) (v : Int) (h : digI (byteI xs k) < base) : digsB xs base xs.length k v = digsB xs base xs.length (k + 1) (min (v * base + digI (byteI xs k)) 1000000000000001) := by
  have hk : k < xs.length := by
    rcases Nat.lt_or_ge k xs.length with h' | h'
    · exact h'
    · rw [byteI_ge h'] at h; have : digI (-1) = 16 := rfl; omega
  obtain ⟨m, em⟩ : ∃ m, xs.length = m + 1 := ⟨xs.length - 1, by omega⟩
  have e1 : digsB xs base (m + 1) k v = digsB xs base m (k + 1) (min (v * base + digI (byteI xs k)) 1000000000000001) := by
    show (if digI (byteI xs k) < base then _ else _) = _
    rw [if_pos h]
  rw [em, e1, digs_end xs base hbs m (k + 1) _ (by omega) 1]
theorem digs_stop (xs : List Int) (base : Int) (k : Nat) (v : Int) (h : ¬ digI (byteI xs k) < base) : digsB xs base xs.length k v = (v, k) := by
  cases e : xs.length with
  | zero => rfl
  | succ m => unfold digsB; rw [if_neg h]
theorem digI_rng (b : Int) : 0 ≤ digI b ∧ digI b ≤ 16 := by
  unfold digI
  repeat' split
  all_goals omega

theorem digits_any (S b n c : Nat) (xs : List Int) (at_ : Nat) (base : Int) (w : World) (hb : Bytes xs) (hn : n = xs.length) (hm : n ≤ 1000000) (ha : at_ ≤ 1000010) (hb0 : 0 ≤ base) (hb1 : base ≤ 16)
    (h0 : w.cell? ⟨S, 0, none⟩ = some (.slice (some ⟨b, 0, none⟩) n c)) (hc : ∀ i, i < xs.length → w.cell? ⟨b, i, none⟩ = some (.int .u8 (xs.getD i 0))) :
    Calls Tryd.prog 75 #[.pointer (some ⟨S, 0, none⟩), .int .i64 at_, .int .i64 base] w fun e w' => e = .returned (.tuple #[.int .i64 (digsB xs base xs.length at_ 0).1, .int .i64 (digsB xs base xs.length at_ 0).2]) ∧ w' = w := by
  have HC : Hid (∀ i, i < xs.length → w.cell? ⟨b, i, none⟩ = some (.int .u8 (xs.getD i 0))) := hc
  have HN : Hid (n = xs.length) := hn
  clear hc hn
  go_enter Tryd.func75, Tryd.ntmps75
  go_wp2
  go_loop [1, 8] (fun i q => ∃ (k : Nat) (v : Int), i = .int .i64 k ∧ q = .int .i64 v ∧ 0 ≤ v ∧ v ≤ 1000000000000001 ∧ k ≤ 2000010 ∧ Hid (k ≤ xs.length + at_) ∧ Hid (digsB xs base xs.length at_ 0 = digsB xs base xs.length k v)) (fun i _ => 3000000 - (intOf i).toNat)
  case atStart => exact ⟨at_, 0, rfl, rfl, by decide, by decide, by omega, Nat.le_add_left _ _, rfl⟩
  case round =>
    obtain ⟨k, v, rfl, rfl, hv0, hv1, hk, HL, HE⟩ := hrel
    have hr := byteI_rng hb k
    have hd := digI_rng (byteI xs k)
    obtain ⟨x, ex⟩ : ∃ x, x = byteI xs k := ⟨_, rfl⟩
    rw [← ex] at hr hd
    have HX : Hid (byteI xs k = x) := ex.symm
    obtain ⟨d, ed⟩ : ∃ d, d = digI x := ⟨_, rfl⟩
    rw [← ed] at hd
    have HD : Hid (digI x = d) := ed.symm
    clear ex ed
    by_cases hlt : d < base
    · have hmul : v * base ≤ 1000000000000001 * 16 := by
        have := Int.mul_le_mul hv1 hb1 hb0 (by decide)
        omega
      have hmul0 : 0 ≤ v * base := Int.mul_nonneg hv0 hb0
      obtain ⟨z, ez⟩ : ∃ z, z = v * base := ⟨_, rfl⟩
      have HK : Hid (k < xs.length) := by
        rcases Nat.lt_or_ge k xs.length with h' | h'
        · exact h'
        · have := HX.out; rw [byteI_ge h'] at this; have h3 := HD.out; rw [← this] at h3; have : digI (-1) = 16 := rfl; omega
      have HS : Hid (digsB xs base xs.length at_ 0 = digsB xs base xs.length (k + 1) (min (z + d) 1000000000000001)) := by
        show _ = _
        rw [HE.out, digs_step xs base hb1 k v (by rw [HX.out, HD.out]; exact hlt), HX.out, HD.out, ez]
      rw [← ez] at hmul hmul0
      have hz : v * base = z := ez.symm
      clear ez HE
      have hk' : k < n := by rw [HN.out]; exact HK.out
      go_wp2_with (first | (go_at_call 52; refine (byteAt_any S b n c xs k _ hb HN.out hm (by omega) h0 HC.out).mono ?_; rintro e w' ⟨rfl, rfl⟩; rw [HX.out]) | (go_at_call 78; refine (digitValue_any x _ hr.1 hr.2).mono ?_; rintro e w' ⟨rfl, rfl⟩; rw [HD.out]))
      go_round
      case rel =>
        have hmin : min (z + d) 1000000000000001 = if 1000000000000001 < z + d then 1000000000000001 else z + d := by split <;> omega
        exact ⟨k + 1, _, by go_num, rfl, by split <;> omega, by split <;> omega, by omega, by have := HK.out; show _ ≤ _; omega, by rw [← hmin]; exact HS⟩
      case measure => simp [intOf]; omega
    · go_wp2_with (first | (go_at_call 52; refine (byteAt_any S b n c xs k _ hb HN.out hm (by omega) h0 HC.out).mono ?_; rintro e w' ⟨rfl, rfl⟩; rw [HX.out]) | (go_at_call 78; refine (digitValue_any x _ hr.1 hr.2).mono ?_; rintro e w' ⟨rfl, rfl⟩; rw [HD.out]))
      go_ret2
      refine ⟨?_, rfl⟩
      rw [HE.out, digs_stop xs base k v (by rw [HX.out, HD.out]; omega)]
      rfl

end Go.Proofs.YtfhelmhcmfpedaaDoor
