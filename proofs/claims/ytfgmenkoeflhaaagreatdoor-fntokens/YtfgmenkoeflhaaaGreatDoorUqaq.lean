/- Texts of Quote3, QuoO, RegK2, RegB. Own work of the verifier. -/
import Derived.Test.YtfgmenkoeflhaaaGreatDoorUqap
namespace Go.Proofs.YtfgmenkoeflhaaaGreatDoor
set_option maxRecDepth 100000
section
open Go Go.RowKit
set_option linter.unusedVariables false
theorem wrap_u8_in {x : Int} (h0 : 0 ≤ x) (h1 : x < 256) : IntKind.u8.wrap x = x := by
 simp [IntKind.wrap, IntKind.signed, IntKind.bits]
 omega
theorem l1runO (b o cap : Nat) (xs : List Int) (at_ : Nat) (s : Bool) (w : World) (hb : Bytes xs) (hn : xs.length ≤ 100000000) (ha : at_ ≤ xs.length)
 (hc : ∀ i, i < xs.length → w.cell? ⟨b, o + i, none⟩ = some (.int .u8 (xs.getD i 0))) :
 Calls Tryz.prog 34 #[.slice (some ⟨b, o, none⟩) xs.length cap, .int .i64 at_, .bool s] w fun e w' => e = .returned (.int .i64 (runLen (clsB s) (xs.drop at_))) ∧ w' = w := by
 go_enter Tryz.func34, Tryz.ntmps34
 go_wp2
 go_loop [7] (fun i => ∃ j : Nat, at_ + j ≤ xs.length ∧ i = .int .i64 j ∧ Hid (∀ m, m < j → clsB s ((xs.drop at_).getD m 0) = true)) (fun i => xs.length - (intOf i).toNat)
 case atStart => exact ⟨0, by omega, rfl, fun _ h => absurd h (Nat.not_lt_zero _)⟩
 case round =>
  obtain ⟨j, hj, rfl, HN⟩ := hrel
  by_cases hlt : at_ + j < xs.length
  ·have hx := hc (at_ + j) hlt
   have hr := hb.at (at_ + j)
   obtain ⟨x, ex⟩ : ∃ x, x = xs.getD (at_ + j) 0 := ⟨_, rfl⟩
   rw [← ex] at hx hr
   have HX : Hid (x = (xs.drop at_).getD j 0) := by rw [ex]; simp [List.getD, List.getElem?_drop, Hid]
   clear ex hc; have hnx : symbolB x = clsB true x := rfl; have hnx' : alnumB x = clsB false x := rfl
   by_cases ht : clsB s x = true
   ·have go : ∀ m, m < j + 1 → clsB s ((xs.drop at_).getD m 0) = true := fun m hm => by
     by_cases e : m = j
     ·subst e; rw [← HX.out]; exact ht
     ·exact HN.out m (by omega)
    have GO : Hid (∀ m, m < j + 1 → clsB s ((xs.drop at_).getD m 0) = true) := go; clear go
    cases s
    ·rw [← hnx'] at ht
     clear hnx hnx'; go_wp2_with (first | (go_at_call 36; refine (symbol_any _ _ hr.1 hr.2).mono ?_; rintro e w' ⟨rfl, rfl⟩) | (go_at_call 33; refine (alnum_any _ _ hr.1 hr.2).mono ?_; rintro e w' ⟨rfl, rfl⟩))
     go_round
     case rel => exact ⟨j + 1, by omega, by go_num, GO⟩
     case measure => simp [intOf]; omega
    ·rw [← hnx] at ht
     clear hnx hnx'; go_wp2_with (first | (go_at_call 36; refine (symbol_any _ _ hr.1 hr.2).mono ?_; rintro e w' ⟨rfl, rfl⟩) | (go_at_call 33; refine (alnum_any _ _ hr.1 hr.2).mono ?_; rintro e w' ⟨rfl, rfl⟩))
     go_round
     case rel => exact ⟨j + 1, by omega, by go_num, GO⟩
     case measure => simp [intOf]; omega
   ·have ht' : clsB s x = false := by simpa using ht
    have HE : Hid (runLen (clsB s) (xs.drop at_) = j) := runLen_stop _ _ _ (by simp; omega) HN.out (.inr (by rw [← HX.out]; exact ht')); clear ht
    cases s
    ·rw [← hnx'] at ht'
     clear hnx hnx'; go_wp2_with (first | (go_at_call 36; refine (symbol_any _ _ hr.1 hr.2).mono ?_; rintro e w' ⟨rfl, rfl⟩) | (go_at_call 33; refine (alnum_any _ _ hr.1 hr.2).mono ?_; rintro e w' ⟨rfl, rfl⟩)); go_ret; exact ⟨ret_int (by rw [HE.out]), rfl⟩
    ·rw [← hnx] at ht'
     clear hnx hnx'; go_wp2_with (first | (go_at_call 36; refine (symbol_any _ _ hr.1 hr.2).mono ?_; rintro e w' ⟨rfl, rfl⟩) | (go_at_call 33; refine (alnum_any _ _ hr.1 hr.2).mono ?_; rintro e w' ⟨rfl, rfl⟩)); go_ret; exact ⟨ret_int (by rw [HE.out]), rfl⟩
  ·have HE : Hid (runLen (clsB s) (xs.drop at_) = j) := runLen_stop _ _ _ (by simp; omega) HN.out (.inl (by simp; omega))
   go_wp2
   go_ret; exact ⟨ret_int (by rw [HE.out]), rfl⟩
theorem specPlainO (b o cap : Nat) (xs : List Int) (w : World) (hb : Bytes xs) (hn : xs.length ≤ 1048576)
 (hc : ∀ i, i < xs.length → w.cell? ⟨b, o + i, none⟩ = some (.int .u8 (xs.getD i 0))) :
 Calls Tryz.prog 115 #[.slice (some ⟨b, o, none⟩) xs.length cap] w fun e w' => e = .returned (.bool (plainB xs)) ∧ w' = w := by
 have hcv := run_convert_bytes_arg (P := Tryz.prog) w 22 5 Tryz.underlying22 Tryz.underlying5 b o xs.length cap xs rfl (fun i hi => by simpa using hc i hi) 9 Tryz.underlying9; have HC : Hid (∀ i, i < xs.length → w.cell? ⟨b, o + i, none⟩ = some (.int .u8 (xs.getD i 0))) := hc; have hss : (strOfNums xs).size = xs.length := strOfNums_size xs
 obtain ⟨s, es⟩ : ∃ s, s = strOfNums xs := ⟨_, rfl⟩
 rw [← es] at hcv hss; have HS : Hid (s = strOfNums xs) := es; clear es hc
 have HT : Hid (xs.length ≤ 1 → ¬ (s.extract 0 2).toList = [47, 42]) := fun h e => by
  have := congrArg List.length e; rw [HS.out, str_cut, str_listS] at this
  simp at this
  omega
 by_cases h0 : xs.length = 0
 ·have e : plainB xs = false := by unfold plainB; rw [if_pos (.inl h0)]
  rw [e]; obtain rfl : xs = [] := List.eq_nil_of_length_eq_zero h0; clear h0; simp only [List.length_nil] at hcv hss ⊢
  go_enter Tryz.func115, Tryz.ntmps115
  go_wp2
  go_ret; exact ⟨rfl, rfl⟩
 by_cases h100 : 100 < xs.length
 ·have e : plainB xs = false := by unfold plainB; rw [if_pos (.inr h100)]
  rw [e]
  go_enter Tryz.func115, Tryz.ntmps115
  go_wp2
  go_ret; exact ⟨rfl, rfl⟩
 have hc0 := HC.out 0 (by omega); rw [Nat.add_zero] at hc0; have hx0 := hb.at 0
 obtain ⟨x, ex⟩ : ∃ x, x = xs.getD 0 0 := ⟨_, rfl⟩
 rw [← ex] at hc0 hx0; have HP : Hid (plainB xs = _) := plain_str hb HS.out ex; clear ex
 go_enter Tryz.func115, Tryz.ntmps115
 go_wp2_with (first | (go_at_call 35; refine (small_any _ _ hx0.1 hx0.2).mono ?_; rintro e w' ⟨rfl, rfl⟩) | (go_at_call 34; refine (l1runO b o cap xs 0 _ _ hb (by omega) (Nat.zero_le _) HC.out).mono ?_; rintro e w' ⟨rfl, rfl⟩))
 all_goals go_ret
 all_goals refine ⟨ret_bool ?_, rfl⟩
 all_goals rw [HP.out, if_neg (by omega)]
 all_goals clear HC HP
 all_goals go_light
 all_goals simp_all [runLen_eq]
 all_goals (first | (exfalso; omega) | exact fun _ => HT.out (by omega))
set_option maxHeartbeats 1000000 in
theorem l1quotedO (b o cap : Nat) (xs : List Int) (w : World) (hb : Bytes xs) (hn : xs.length ≤ 100) (hR : ∀ i, i < xs.length → w.cell? ⟨b, o + i, none⟩ = some (.int .u8 (xs.getD i 0))) :
 Calls Tryz.prog 116 #[.slice (some ⟨b, o, none⟩) xs.length cap] w fun e w' => ∃ p' n' c', e = .returned (.slice p' n' c') ∧ OwnS w' w.heap.size p' n' c' (quotedB xs) ∧ Below w.heap.size w w' := by
 have HR1 : Hid (∀ i, i < xs.length → w.cell? ⟨b, o + i, none⟩ = some (.int .u8 (xs.getD i 0))) := hR; clear hR
 go_enter Tryz.func116, Tryz.ntmps116
 go_wp2
 go_loopw [4, 5] (fun v i wr => ∃ (k : Nat) (p : Option Addr) (n c : Nat), k ≤ xs.length ∧ i = .int .i64 k ∧ v = .slice p n c ∧ Hid (OwnS wr w.heap.size p n c (39 :: (xs.take k).flatMap q1)) ∧ Hid (Below w.heap.size w wr)) (fun _ i _ => xs.length - (intOf i).toNat)
 case atStart => exact ⟨0, _, _, _, Nat.zero_le _, rfl, rfl, own1 w 39, (Below.refl _ _).alloc (Nat.le_refl _) _⟩
 case round =>
  obtain ⟨k, p, n, c, hk, rfl, rfl, HO, HB⟩ := hrel; have hlen := q1s_bound xs k hk (by omega)
  have hn' : n ≤ 600 := by rw [HO.out.len]; exact hlen
  have hsz := HB.out.size; clear hlen
  by_cases hlt : k < xs.length
  ·have hx : wr.cell? ⟨b, o + k, none⟩ = some (.int .u8 (xs.getD k 0)) := (HB.out.cell (World.block_lt_of_cell? _ _ (HR1.out k hlt))).trans (HR1.out k hlt)
   have hr := hb.at k
   obtain ⟨x, ex⟩ : ∃ x, x = xs.getD k 0 := ⟨_, rfl⟩
   rw [← ex] at hx hr
   have HX : Hid (39 :: (xs.take (k + 1)).flatMap q1 = (39 :: (xs.take k).flatMap q1) ++ q1 x) := by rw [ex]; exact q1s_snoc xs k hlt
   obtain ⟨h0, h1⟩ := hr; clear ex
   by_cases a : x = 39
   ·subst a
    have E : Hid (q1 39 = [92, 39]) := rfl; go_wp2_with (at_builtin; refine app_bytes _ rfl _ _ rfl w.heap.size p n c _ [92, 39] 2 rfl rfl (HO.out.alloc _) _ 2 rfl (news2 _ _ _) (by decide) (by omega) (by simp; omega) ?_; intro g n1 cap1 w1 hown1 hb1 hn1); go_roundw
    case rel => exact ⟨k + 1, _, _, _, by omega, by go_num, rfl, by rw [HX.out, E.out]; exact hown1, (HB.out.alloc hsz _).trans hb1⟩
    case measure => simp [intOf]; omega
   have t1 : (x == 39) = false := by simpa using a
   have u1 : Hid (¬ x = 39) := a; clear a
   by_cases a : x = 92
   ·subst a
    have E : Hid (q1 92 = [92, 92]) := rfl; go_wp2_with (at_builtin; refine app_bytes _ rfl _ _ rfl w.heap.size p n c _ [92, 92] 2 rfl rfl (HO.out.alloc _) _ 2 rfl (news2 _ _ _) (by decide) (by omega) (by simp; omega) ?_; intro g n1 cap1 w1 hown1 hb1 hn1); go_roundw
    case rel => exact ⟨k + 1, _, _, _, by omega, by go_num, rfl, by rw [HX.out, E.out]; exact hown1, (HB.out.alloc hsz _).trans hb1⟩
    case measure => simp [intOf]; omega
   have t2 : (x == 92) = false := by simpa using a
   have u2 : Hid (¬ x = 92) := a; clear a
   by_cases a : x = 10
   ·subst a
    have E : Hid (q1 10 = [92, 110]) := rfl; go_wp2_with (at_builtin; refine app_bytes _ rfl _ _ rfl w.heap.size p n c _ [92, 110] 2 rfl rfl (HO.out.alloc _) _ 2 rfl (news2 _ _ _) (by decide) (by omega) (by simp; omega) ?_; intro g n1 cap1 w1 hown1 hb1 hn1); go_roundw
    case rel => exact ⟨k + 1, _, _, _, by omega, by go_num, rfl, by rw [HX.out, E.out]; exact hown1, (HB.out.alloc hsz _).trans hb1⟩
    case measure => simp [intOf]; omega
   have t3 : (x == 10) = false := by simpa using a
   have u3 : Hid (¬ x = 10) := a; clear a
   by_cases a : x = 9
   ·subst a
    have E : Hid (q1 9 = [92, 116]) := rfl; go_wp2_with (at_builtin; refine app_bytes _ rfl _ _ rfl w.heap.size p n c _ [92, 116] 2 rfl rfl (HO.out.alloc _) _ 2 rfl (news2 _ _ _) (by decide) (by omega) (by simp; omega) ?_; intro g n1 cap1 w1 hown1 hb1 hn1); go_roundw
    case rel => exact ⟨k + 1, _, _, _, by omega, by go_num, rfl, by rw [HX.out, E.out]; exact hown1, (HB.out.alloc hsz _).trans hb1⟩
    case measure => simp [intOf]; omega
   have t4 : (x == 9) = false := by simpa using a
   have u4 : Hid (¬ x = 9) := a; clear a
   by_cases a5 : 32 ≤ x ∧ x ≤ 126
   ·have E : Hid (q1 x = [x]) := by
     have := u1.out; have := u2.out; have := u3.out; have := u4.out
     unfold q1; rw [if_neg (by omega), if_neg (by omega), if_neg (by omega), if_neg (by omega)]; rfl
    have t5 : decide (x < 32) = false := by rw [decide_eq_false_iff_not]; omega
    have t6 : decide (126 < x) = false := by rw [decide_eq_false_iff_not]; omega
    clear a5; go_wp2_with (at_builtin; refine app_bytes _ rfl _ _ rfl w.heap.size p n c _ [x] 1 rfl rfl (HO.out.alloc _) _ 1 rfl (news1 _ _) (by decide) (by omega) (by simp; omega) ?_; intro g n1 cap1 w1 hown1 hb1 hn1); go_roundw
    case rel => exact ⟨k + 1, _, _, _, by omega, by go_num, rfl, by rw [HX.out, E.out]; exact hown1, (HB.out.alloc hsz _).trans hb1⟩
    case measure => simp [intOf]; omega
   have E : Hid (q1 x = [92, 120, hexD (x / 16), hexD (x % 16), 92]) := by
    have := u1.out; have := u2.out; have := u3.out; have := u4.out
    unfold q1; rw [if_neg (by omega), if_neg (by omega), if_neg (by omega), if_pos (by omega)]; rfl
   have d1 : x.tdiv 16 = x / 16 := Int.tdiv_eq_ediv_of_nonneg h0; have d2 : x.tmod 16 = x % 16 := Int.tmod_eq_emod_of_nonneg h0; have d3 : IntKind.u8.wrap (x / 16) = x / 16 := wrap_u8_in (by omega) (by omega); have d4 : IntKind.u8.wrap (x % 16) = x % 16 := wrap_u8_in (by omega) (by omega)
   have d5 : x / 16 < 16 := by omega
   have d6 : x % 16 < 16 := by omega
   have d7 : 0 ≤ x / 16 := by omega
   have d8 : 0 ≤ x % 16 := by omega
   by_cases a6 : x < 32
   ·have t5 : decide (x < 32) = true := by rw [decide_eq_true_iff]; omega
    clear a5
    go_wp2
    go_region_held3 (fun _ => True) (trivial) ((refine step_app_bytes _ (by rfl) _ _ (by rfl) w.heap.size p n c _ [92, 120, _, _, 92] 5 rfl (by rfl) (HO.out.alloc _) _ 5 (by rfl) (news5 _ _ _ _ _ _) (by decide) (by omega) (by simp; omega) ?_; intro g n1 cap1 w1 hown1 hb1 hn1))
    all_goals go_wp2
    all_goals go_roundw
    all_goals rw [hex_at, hex_at] at hown1
    all_goals first | exact ⟨k + 1, _, _, _, by omega, by go_num, rfl, by rw [HX.out, E.out]; exact hown1, (HB.out.alloc hsz _).drew.trans hb1⟩ | (simp [intOf]; omega)
   ·have t5 : decide (x < 32) = false := by rw [decide_eq_false_iff_not]; omega
    have t6 : decide (126 < x) = true := by rw [decide_eq_true_iff]; omega
    clear a5
    go_wp2
    go_region_held3 (fun _ => True) (trivial) ((refine step_app_bytes _ (by rfl) _ _ (by rfl) w.heap.size p n c _ [92, 120, _, _, 92] 5 rfl (by rfl) (HO.out.alloc _) _ 5 (by rfl) (news5 _ _ _ _ _ _) (by decide) (by omega) (by simp; omega) ?_; intro g n1 cap1 w1 hown1 hb1 hn1))
    all_goals go_wp2
    all_goals go_roundw
    all_goals rw [hex_at, hex_at] at hown1
    all_goals first | exact ⟨k + 1, _, _, _, by omega, by go_num, rfl, by rw [HX.out, E.out]; exact hown1, (HB.out.alloc hsz _).drew.trans hb1⟩ | (simp [intOf]; omega)
  ·obtain rfl : k = xs.length := by omega
   go_wp2_with (at_builtin; refine app_bytes _ rfl _ _ rfl w.heap.size p n c _ [39] 1 rfl rfl (HO.out.alloc _) _ 1 rfl (news1 _ _) (by decide) (by omega) (by simp; omega) ?_; intro g n3 cap3 w3 hown3 hb3 hn3); go_ret; exact ⟨_, _, _, rfl, by rw [List.take_length] at hown3; exact hown3, (HB.out.alloc hsz _).trans hb3⟩
theorem specQuoteO (b o cap : Nat) (xs : List Int) (w : World) (hb : Bytes xs) (hn : xs.length ≤ 1048576) (hR : ∀ i, i < xs.length → w.cell? ⟨b, o + i, none⟩ = some (.int .u8 (xs.getD i 0))) :
 Calls Tryz.prog 95 #[.slice (some ⟨b, o, none⟩) xs.length cap] w fun e w' => ∃ p' n' c', e = .returned (.slice p' n' c') ∧ OwnS w' w.heap.size p' n' c' (quoteB xs) ∧ Below w.heap.size w w' := by
 have HR : Hid (∀ i, i < xs.length → w.cell? ⟨b, o + i, none⟩ = some (.int .u8 (xs.getD i 0))) := hR; clear hR
 by_cases h100 : 100 < xs.length
 ·have e : quoteB xs = [] := by unfold quoteB; rw [if_pos h100]
  rw [e]; clear e
  go_enter Tryz.func95, Tryz.ntmps95
  go_wp2
  go_ret; exact ⟨_, _, _, rfl, OwnS.nil _ _, Below.refl _ _⟩
 cases hp : plainB xs
 ·have e : quoteB xs = quotedB xs := by unfold quoteB; rw [if_neg h100, hp]; rfl
  rw [e]; clear e
  go_enter Tryz.func95, Tryz.ntmps95
  go_wp2_with fail; refine (specPlainO b o cap xs w hb hn HR.out).mono ?_; rintro e w1 ⟨rfl, rfl⟩; rw [hp]; go_wp2_with (go_at_call 116; refine (l1quotedO b o cap xs _ hb (by omega) HR.out).mono ?_; rintro e w2 ⟨p2, n2, c2, rfl, hown2, hb2⟩); go_ret; exact ⟨_, _, _, rfl, hown2, hb2⟩
 ·have e : quoteB xs = xs := by unfold quoteB; rw [if_neg h100, hp]; rfl
  rw [e]; clear e
  have hpos : 0 < xs.length := by
   rcases Nat.eq_zero_or_pos xs.length with h | h
   ·unfold plainB at hp; rw [if_pos (.inl h)] at hp; cases hp
   ·exact h
  go_enter Tryz.func95, Tryz.ntmps95
  go_wp2_with fail; refine (specPlainO b o cap xs w hb hn HR.out).mono ?_; rintro e w1 ⟨rfl, rfl⟩; rw [hp]; go_wp2_with (go_at_call 38; refine (l1copy_any b o xs.length cap xs _ rfl hpos (by omega) HR.out).mono ?_; rintro e w2 ⟨p2, n2, c2, rfl, hown2, hb2⟩); go_ret; exact ⟨_, _, _, rfl, hown2, hb2⟩
theorem specPlain_nil (p : Option Addr) (cap : Nat) (w : World) : Calls Tryz.prog 115 #[.slice p 0 cap] w fun e w' => e = .returned (.bool false) ∧ w' = w := by
 have hcv := conv_str (w := w) (p := p) (xs := []) (fun h => by simp at h) 0 cap rfl 9 Tryz.underlying9
 obtain ⟨s, es⟩ : ∃ s, s = strOfNums [] := ⟨_, rfl⟩
 rw [← es] at hcv; clear es
 go_enter Tryz.func115, Tryz.ntmps115
 go_wp2
 go_ret; exact ⟨rfl, rfl⟩
theorem l1quoted_nil (p : Option Addr) (cap : Nat) (w : World) : Calls Tryz.prog 116 #[.slice p 0 cap] w fun e w' => ∃ p' n' c', e = .returned (.slice p' n' c') ∧ OwnS w' w.heap.size p' n' c' [39, 39] ∧ Below w.heap.size w w' := by
 go_enter Tryz.func116, Tryz.ntmps116
 go_wp2
 go_loopw [4, 5] (fun v i wr => i = .int .i64 0 ∧ ∃ (p : Option Addr) (n c : Nat), v = .slice p n c ∧ Hid (OwnS wr w.heap.size p n c [39]) ∧ Hid (Below w.heap.size w wr)) (fun _ i _ => 0)
 case atStart => exact ⟨rfl, _, _, _, rfl, own1 w 39, (Below.refl _ _).alloc (Nat.le_refl _) _⟩
 case round =>
  obtain ⟨rfl, p, n, c, rfl, HO, HB⟩ := hrel; have hsz := HB.out.size
  have hn' : n ≤ 600 := by rw [HO.out.len]; decide
  go_wp2_with (at_builtin; refine app_bytes _ rfl _ _ rfl w.heap.size p n c _ [39] 1 rfl rfl (HO.out.alloc _) _ 1 rfl (news1 _ _) (by decide) (by omega) (by simp; omega) ?_; intro g n3 cap3 w3 hown3 hb3 hn3); go_ret; exact ⟨_, _, _, rfl, hown3, (HB.out.alloc hsz _).trans hb3⟩
theorem specQuote_in (p : Option Addr) (cap : Nat) (xs : List Int) (w : World) (hb : Bytes xs) (hn : xs.length ≤ 1048576) (hx : BIn w p xs) :
 Calls Tryz.prog 95 #[.slice p xs.length cap] w fun e w' => ∃ p' n' c', e = .returned (.slice p' n' c') ∧ OwnS w' w.heap.size p' n' c' (quoteB xs) ∧ Below w.heap.size w w' := by
 by_cases h0 : 0 < xs.length
 ·obtain ⟨b, o, rfl, hc⟩ := hx h0
  exact specQuoteO b o cap xs w hb hn hc
 ·obtain rfl : xs = [] := List.eq_nil_of_length_eq_zero (by omega)
  clear hx hb hn h0; simp only [List.length_nil]
  go_enter Tryz.func95, Tryz.ntmps95
  go_wp2_with fail; refine (specPlain_nil p cap w).mono ?_; rintro e w1 ⟨rfl, rfl⟩; go_wp2_with (go_at_call 116; refine (l1quoted_nil p cap _).mono ?_; rintro e w2 ⟨p2, n2, c2, rfl, hown2, hb2⟩); go_ret; exact ⟨_, _, _, rfl, hown2, hb2⟩
end
section
open Go
theorem hStep {P : Program} {ops : Array Oper} {Q : Exit → Act → World → Prop} {md : Region.Mode} {S : World → Prop} {i : Nat} {v : Value} {fuel : Nat} {listed : Array Bool} {a : Act} {w w' : World} (d : Option Tmp) (hd : (ops[i]?).map (·.dst) = some d)
 (hr : Region.ready md ops listed = [i]) (hw : (ops[i]?).map (fun o => Region.wanted o (yielded ops a.tmps)) = some true)
 (hrun : ∀ o, ops[i]? = some o → (execOp a.eval o).run P w = .ok (.value v) w') (hS : S w') (h : wpAnyH P md ops Q S fuel (listed.setIfInBounds i true) (a.put d v) w') : wpAnyH P md ops Q S (fuel + 1) listed a w := by
 refine wpAnyH_all hr (by simp) ?_
 intro j hj
 obtain rfl : j = i := by simpa using hj
 cases hi : ops[j]? with
 | none => simp [hi] at hd
 | some o =>
   have hd' : o.dst = d := by simpa [hi] using hd
   have hw' : Region.wanted o (yielded ops a.tmps) = true := by simpa [hi] using hw
   subst hd'
   unfold wpOp
   simp only [hi, hw', if_true, Oper.wp, hrun o hi, Oper.upon]; exact .inl ⟨hS, h⟩
theorem hCallE {P : Program} {ops : Array Oper} {Q : Exit → Act → World → Prop} {md : Region.Mode} {S : World → Prop} {i : Nat} {f : FuncId} {args : Array Value} {R : Ending → World → Prop} {fuel : Nat} {listed : Array Bool} {a : Act} {w : World} (d : Option Tmp) (hd : (ops[i]?).map (·.dst) = some d)
 (hr : Region.ready md ops listed = [i]) (hw : (ops[i]?).map (fun o => Region.wanted o (yielded ops a.tmps)) = some true)
 (hrun : ∀ o, ops[i]? = some o → (execOp a.eval o).run P w = .ok (.enter f args) w) (hC : Calls P f args w R) (hK : ∀ u w', R (.returned u) w' → S w' ∧ wpAnyH P md ops Q S fuel (listed.setIfInBounds i true) (a.put d u) w')
 (hP : ∀ ch w', ¬ R (.panicked ch) w') (hO : ∀ w', ¬ R .outgrown w') : wpAnyH P md ops Q S (fuel + 1) listed a w := by
 refine wpAnyH_all hr (by simp) ?_
 intro j hj
 obtain rfl : j = i := by simpa using hj
 cases hi : ops[j]? with
 | none => simp [hi] at hd
 | some o =>
   have hd' : o.dst = d := by simpa [hi] using hd
   have hw' : Region.wanted o (yielded ops a.tmps) = true := by simpa [hi] using hw
   subst hd'
   unfold wpOp
   simp only [hi, hw', if_true, Oper.wp, hrun o hi, Oper.upon]; refine .inl (hC.mono fun e w'' he => ?_)
   cases e with
   | returned u => exact hK u w'' he
   | panicked ch => exact absurd he (hP ch w'')
   | outgrown => exact absurd he (hO w'')
section
variable {P : Program} {ops : Array Oper} {Q : Exit → Act → World → Prop} {md : Region.Mode} {S : World → Prop}
theorem hBoth {i j : Nat} {fuel : Nat} {listed : Array Bool} {a : Act} {w : World} (hr : Region.ready md ops listed = [i, j])
 (hi : wpOp P ops Q i (fun a' w' => S w' ∧ wpAnyH P md ops Q S fuel (listed.setIfInBounds i true) a' w') a w)
 (hj : wpOp P ops Q j (fun a' w' => S w' ∧ wpAnyH P md ops Q S fuel (listed.setIfInBounds j true) a' w') a w) : wpAnyH P md ops Q S (fuel + 1) listed a w := by
 refine wpAnyH_all hr (by simp) ?_
 intro k hk
 simp only [List.mem_cons, List.not_mem_nil, or_false] at hk
 rcases hk with rfl | rfl
 ·exact hi
 ·exact hj
theorem opStep {i : Nat} {v : Value} {K : Act → World → Prop} {a : Act} {w w' : World} (d : Option Tmp) (hd : (ops[i]?).map (·.dst) = some d) (hw : (ops[i]?).map (fun o => Region.wanted o (yielded ops a.tmps)) = some true)
 (hrun : ∀ o, ops[i]? = some o → (execOp a.eval o).run P w = .ok (.value v) w') (h : K (a.put d v) w') : wpOp P ops Q i K a w := by
 cases hi : ops[i]? with
 | none => simp [hi] at hd
 | some o =>
   have hd' : o.dst = d := by simpa [hi] using hd
   have hw' : Region.wanted o (yielded ops a.tmps) = true := by simpa [hi] using hw
   subst hd'
   unfold wpOp
   simp only [hi, hw', if_true, Oper.wp, hrun o hi, Oper.upon]; exact .inl h
theorem opCall {i : Nat} {f : FuncId} {args : Array Value} {R : Ending → World → Prop} {K : Act → World → Prop} {a : Act} {w : World} (d : Option Tmp) (hd : (ops[i]?).map (·.dst) = some d) (hw : (ops[i]?).map (fun o => Region.wanted o (yielded ops a.tmps)) = some true)
 (hrun : ∀ o, ops[i]? = some o → (execOp a.eval o).run P w = .ok (.enter f args) w) (hC : Calls P f args w R) (hK : ∀ u w', R (.returned u) w' → K (a.put d u) w')
 (hP : ∀ ch w', ¬ R (.panicked ch) w') (hO : ∀ w', ¬ R .outgrown w') : wpOp P ops Q i K a w := by
 cases hi : ops[i]? with
 | none => simp [hi] at hd
 | some o =>
   have hd' : o.dst = d := by simpa [hi] using hd
   have hw' : Region.wanted o (yielded ops a.tmps) = true := by simpa [hi] using hw
   subst hd'
   unfold wpOp
   simp only [hi, hw', if_true, Oper.wp, hrun o hi, Oper.upon]; refine .inl (hC.mono fun e w'' he => ?_)
   cases e with
   | returned u => exact hK u w'' he
   | panicked ch => exact absurd he (hP ch w'')
   | outgrown => exact absurd he (hO w'')
end
end
end Go.Proofs.YtfgmenkoeflhaaaGreatDoor
