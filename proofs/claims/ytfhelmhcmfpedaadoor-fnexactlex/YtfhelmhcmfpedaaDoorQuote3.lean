/- l1quoted and QuoteAtom of the specification. Own work of the verifier. -/
import Derived.Test.YtfhelmhcmfpedaaDoorQuote2
namespace Go.Proofs.YtfhelmhcmfpedaaDoor
open Go Go.RowKit
set_option linter.unusedVariables false

theorem wrap_u8_in {x : Int} (h0 : 0 ≤ x) (h1 : x < 256) : IntKind.u8.wrap x = x := by
  simp [IntKind.wrap, IntKind.signed, IntKind.bits]
  omega
set_option maxRecDepth 100000 in
set_option maxHeartbeats 1000000 in
theorem l1quoted_any (b cap : Nat) (xs : List Int) (w : World) (hb : Bytes xs) (hn : xs.length ≤ 100) (hR : Row w b xs) :
    Calls Tryd.prog 25 #[.slice (some ⟨b, 0, none⟩) xs.length cap] w fun e w' => ∃ p' n' c', e = .returned (.slice p' n' c') ∧ OwnS w' w.heap.size p' n' c' (quotedB xs) ∧ Below w.heap.size w w' := by
  have HR1 : Hid (Row w b xs) := hR
  clear hR
  go_enter Tryd.func25, Tryd.ntmps25
  go_wp2
  go_loopw [4, 5] (fun v i wr => ∃ (k : Nat) (p : Option Addr) (n c : Nat), k ≤ xs.length ∧ i = .int .i64 k ∧ v = .slice p n c ∧ Hid (OwnS wr w.heap.size p n c (39 :: (xs.take k).flatMap q1)) ∧ Hid (Below w.heap.size w wr)) (fun _ i _ => xs.length - (intOf i).toNat)
  case atStart => exact ⟨0, _, _, _, Nat.zero_le _, rfl, rfl, own1 w 39, (Below.refl _ _).alloc (Nat.le_refl _) _⟩
  case round =>
    obtain ⟨k, p, n, c, hk, rfl, rfl, HO, HB⟩ := hrel
    have hlen := q1s_bound xs k hk (by omega)
    have hn' : n ≤ 600 := by rw [HO.out.len]; exact hlen
    have hsz := HB.out.size
    clear hlen
    by_cases hlt : k < xs.length
    · have hx : wr.cell? ⟨b, k, none⟩ = some (.int .u8 (xs.getD k 0)) := (HR1.out.below HB.out).2 k hlt
      have hr := hb.at k
      obtain ⟨x, ex⟩ : ∃ x, x = xs.getD k 0 := ⟨_, rfl⟩
      rw [← ex] at hx hr
      have HX : Hid (39 :: (xs.take (k + 1)).flatMap q1 = (39 :: (xs.take k).flatMap q1) ++ q1 x) := by rw [ex]; exact q1s_snoc xs k hlt
      obtain ⟨h0, h1⟩ := hr
      clear ex
      by_cases a : x = 39
      · subst a
        have E : Hid (q1 39 = [92, 39]) := rfl
        go_wp2_with (at_builtin; refine app_bytes _ rfl _ _ rfl w.heap.size p n c _ [92, 39] 2 rfl rfl (HO.out.alloc _) _ 2 rfl (news2 _ _ _) (by decide) (by omega) (by simp; omega) ?_; intro g n1 cap1 w1 hown1 hb1 hn1)
        go_roundw
        case rel => exact ⟨k + 1, _, _, _, by omega, by go_num, rfl, by rw [HX.out, E.out]; exact hown1, (HB.out.alloc hsz _).trans hb1⟩
        case measure => simp [intOf]; omega
      have t1 : (x == 39) = false := by simpa using a
      have u1 : Hid (¬ x = 39) := a
      clear a
      by_cases a : x = 92
      · subst a
        have E : Hid (q1 92 = [92, 92]) := rfl
        go_wp2_with (at_builtin; refine app_bytes _ rfl _ _ rfl w.heap.size p n c _ [92, 92] 2 rfl rfl (HO.out.alloc _) _ 2 rfl (news2 _ _ _) (by decide) (by omega) (by simp; omega) ?_; intro g n1 cap1 w1 hown1 hb1 hn1)
        go_roundw
        case rel => exact ⟨k + 1, _, _, _, by omega, by go_num, rfl, by rw [HX.out, E.out]; exact hown1, (HB.out.alloc hsz _).trans hb1⟩
        case measure => simp [intOf]; omega
      have t2 : (x == 92) = false := by simpa using a
      have u2 : Hid (¬ x = 92) := a
      clear a
      by_cases a : x = 10
      · subst a
        have E : Hid (q1 10 = [92, 110]) := rfl
        go_wp2_with (at_builtin; refine app_bytes _ rfl _ _ rfl w.heap.size p n c _ [92, 110] 2 rfl rfl (HO.out.alloc _) _ 2 rfl (news2 _ _ _) (by decide) (by omega) (by simp; omega) ?_; intro g n1 cap1 w1 hown1 hb1 hn1)
        go_roundw
        case rel => exact ⟨k + 1, _, _, _, by omega, by go_num, rfl, by rw [HX.out, E.out]; exact hown1, (HB.out.alloc hsz _).trans hb1⟩
        case measure => simp [intOf]; omega
      have t3 : (x == 10) = false := by simpa using a
      have u3 : Hid (¬ x = 10) := a
      clear a
      by_cases a : x = 9
      · subst a
        have E : Hid (q1 9 = [92, 116]) := rfl
        go_wp2_with (at_builtin; refine app_bytes _ rfl _ _ rfl w.heap.size p n c _ [92, 116] 2 rfl rfl (HO.out.alloc _) _ 2 rfl (news2 _ _ _) (by decide) (by omega) (by simp; omega) ?_; intro g n1 cap1 w1 hown1 hb1 hn1)
        go_roundw
        case rel => exact ⟨k + 1, _, _, _, by omega, by go_num, rfl, by rw [HX.out, E.out]; exact hown1, (HB.out.alloc hsz _).trans hb1⟩
        case measure => simp [intOf]; omega
      have t4 : (x == 9) = false := by simpa using a
      have u4 : Hid (¬ x = 9) := a
      clear a
      by_cases a5 : 32 ≤ x ∧ x ≤ 126
      · have E : Hid (q1 x = [x]) := by
          have := u1.out; have := u2.out; have := u3.out; have := u4.out
          unfold q1; rw [if_neg (by omega), if_neg (by omega), if_neg (by omega), if_neg (by omega)]; rfl
        have t5 : decide (x < 32) = false := by rw [decide_eq_false_iff_not]; omega
        have t6 : decide (126 < x) = false := by rw [decide_eq_false_iff_not]; omega
        clear a5
        go_wp2_with (at_builtin; refine app_bytes _ rfl _ _ rfl w.heap.size p n c _ [x] 1 rfl rfl (HO.out.alloc _) _ 1 rfl (news1 _ _) (by decide) (by omega) (by simp; omega) ?_; intro g n1 cap1 w1 hown1 hb1 hn1)
        go_roundw
        case rel => exact ⟨k + 1, _, _, _, by omega, by go_num, rfl, by rw [HX.out, E.out]; exact hown1, (HB.out.alloc hsz _).trans hb1⟩
        case measure => simp [intOf]; omega
      have E : Hid (q1 x = [92, 120, hexD (x / 16), hexD (x % 16), 92]) := by
        have := u1.out; have := u2.out; have := u3.out; have := u4.out
        unfold q1; rw [if_neg (by omega), if_neg (by omega), if_neg (by omega), if_pos (by omega)]; rfl
      have d1 : x.tdiv 16 = x / 16 := Int.tdiv_eq_ediv_of_nonneg h0
      have d2 : x.tmod 16 = x % 16 := Int.tmod_eq_emod_of_nonneg h0
      have d3 : IntKind.u8.wrap (x / 16) = x / 16 := wrap_u8_in (by omega) (by omega)
      have d4 : IntKind.u8.wrap (x % 16) = x % 16 := wrap_u8_in (by omega) (by omega)
      have d5 : x / 16 < 16 := by omega
      have d6 : x % 16 < 16 := by omega
      have d7 : 0 ≤ x / 16 := by omega
      have d8 : 0 ≤ x % 16 := by omega
      by_cases a6 : x < 32
      · have t5 : decide (x < 32) = true := by rw [decide_eq_true_iff]; omega
        clear a5
        go_wp2
        go_region_held3 (fun _ => True) (trivial) ((refine step_app_bytes _ (by rfl) _ _ (by rfl) w.heap.size p n c _ [92, 120, _, _, 92] 5 rfl (by rfl) (HO.out.alloc _) _ 5 (by rfl) (news5 _ _ _ _ _ _) (by decide) (by omega) (by simp; omega) ?_; intro g n1 cap1 w1 hown1 hb1 hn1))
        all_goals go_wp2
        all_goals go_roundw
        all_goals rw [hex_at, hex_at] at hown1
        all_goals first | exact ⟨k + 1, _, _, _, by omega, by go_num, rfl, by rw [HX.out, E.out]; exact hown1, (HB.out.alloc hsz _).drew.trans hb1⟩ | (simp [intOf]; omega)
      · have t5 : decide (x < 32) = false := by rw [decide_eq_false_iff_not]; omega
        have t6 : decide (126 < x) = true := by rw [decide_eq_true_iff]; omega
        clear a5
        go_wp2
        go_region_held3 (fun _ => True) (trivial) ((refine step_app_bytes _ (by rfl) _ _ (by rfl) w.heap.size p n c _ [92, 120, _, _, 92] 5 rfl (by rfl) (HO.out.alloc _) _ 5 (by rfl) (news5 _ _ _ _ _ _) (by decide) (by omega) (by simp; omega) ?_; intro g n1 cap1 w1 hown1 hb1 hn1))
        all_goals go_wp2
        all_goals go_roundw
        all_goals rw [hex_at, hex_at] at hown1
        all_goals first | exact ⟨k + 1, _, _, _, by omega, by go_num, rfl, by rw [HX.out, E.out]; exact hown1, (HB.out.alloc hsz _).drew.trans hb1⟩ | (simp [intOf]; omega)
    · obtain rfl : k = xs.length := by omega
      go_wp2_with (at_builtin; refine app_bytes _ rfl _ _ rfl w.heap.size p n c _ [39] 1 rfl rfl (HO.out.alloc _) _ 1 rfl (news1 _ _) (by decide) (by omega) (by simp; omega) ?_; intro g n3 cap3 w3 hown3 hb3 hn3)
      go_ret
      exact ⟨_, _, _, rfl, by rw [List.take_length] at hown3; exact hown3, (HB.out.alloc hsz _).trans hb3⟩

set_option maxRecDepth 100000 in
theorem specQuote_any (b cap : Nat) (xs : List Int) (w : World) (hb : Bytes xs) (hn : xs.length ≤ 1048576) (hcap : xs.length ≤ cap) (hR : Row w b xs) :
    Calls Tryd.prog 10 #[.slice (some ⟨b, 0, none⟩) xs.length cap] w fun e w' => ∃ p' n' c', e = .returned (.slice p' n' c') ∧ OwnS w' w.heap.size p' n' c' (quoteB xs) ∧ Below w.heap.size w w' := by
  have HR : Hid (Row w b xs) := hR
  clear hR
  by_cases h100 : 100 < xs.length
  · have e : quoteB xs = [] := by unfold quoteB; rw [if_pos h100]
    rw [e]
    clear e
    go_enter Tryd.func10, Tryd.ntmps10
    go_wp2
    go_ret
    exact ⟨_, _, _, rfl, OwnS.nil _ _, Below.refl _ _⟩
  cases hp : plainB xs
  · have e : quoteB xs = quotedB xs := by unfold quoteB; rw [if_neg h100, hp]; rfl
    rw [e]
    clear e
    go_enter Tryd.func10, Tryd.ntmps10
    go_wp2_with fail
    refine (specPlain_any b cap xs w hb hn hcap HR.out.2).mono ?_
    rintro e w1 ⟨rfl, rfl⟩
    rw [hp]
    go_wp2_with (go_at_call 25; refine (l1quoted_any b cap xs _ hb (by omega) HR.out).mono ?_; rintro e w2 ⟨p2, n2, c2, rfl, hown2, hb2⟩)
    go_ret
    exact ⟨_, _, _, rfl, hown2, hb2⟩
  · have e : quoteB xs = xs := by unfold quoteB; rw [if_neg h100, hp]; rfl
    rw [e]
    clear e
    have hpos : 0 < xs.length := by
      rcases Nat.eq_zero_or_pos xs.length with h | h
      · unfold plainB at hp; rw [if_pos (.inl h)] at hp; cases hp
      · exact h
    go_enter Tryd.func10, Tryd.ntmps10
    go_wp2_with fail
    refine (specPlain_any b cap xs w hb hn hcap HR.out.2).mono ?_
    rintro e w1 ⟨rfl, rfl⟩
    rw [hp]
    go_wp2_with (go_at_call 24; refine (l1copy_any b 0 xs.length cap xs _ rfl hpos (by omega) (fun i hi => by rw [Nat.zero_add]; exact HR.out.2 i hi)).mono ?_; rintro e w2 ⟨p2, n2, c2, rfl, hown2, hb2⟩)
    go_ret
    exact ⟨_, _, _, rfl, hown2, hb2⟩

end Go.Proofs.YtfhelmhcmfpedaaDoor
