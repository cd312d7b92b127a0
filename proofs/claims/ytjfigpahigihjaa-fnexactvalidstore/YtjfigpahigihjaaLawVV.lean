/- The law FnExactValidStore, walked. Own work of the verifier. -/
import Derived.Test.YtjfigpahigihjaaLawVS
namespace Go.Proofs.Ytjfigpahigihjaa
open Go Go.RowKit
set_option linter.unusedVariables false

/-- What is asked of a text that came in. -/
structure BArg (w : World) (p : Option Addr) (t : List Int) : Prop where
  lies : BIn w p t
  len : t.length ≤ 9223372036854775807

set_option maxHeartbeats 16000000 in
set_option maxRecDepth 100000 in
theorem lawVS_any (p q pt : Option Addr) (c1 c2 cap : Nat) (k n : Int) (t : List Int) (xs : List Cel) (tr : List Int) (w : World) (hx : CArg w p xs) (hy : IArg w q tr) (ht : BArg w pt t) :
    Calls Try.prog 3 #[.agg #[.slice p xs.length c1, .slice q tr.length c2], .agg #[.int .i64 k, .int .i64 n, .slice pt t.length cap]] w fun e w' => e = .returned (.bool true) ∧ Below w.heap.size w w' := by
  obtain ⟨W0, eW0⟩ : ∃ W0, W0 = (w.alloc (.cells #[.slice p xs.length c1, .slice q tr.length c2] 25)).alloc (.cells #[.int .i64 k, .int .i64 n, .slice pt t.length cap] 28) := ⟨_, rfl⟩
  have hb0 : Below w.heap.size w W0 := by rw [eW0]; exact ((Below.refl _ _).alloc (Nat.le_refl _) _).alloc (by simp) _
  have hz0 : W0.heap.size = w.heap.size + 1 + 1 := by rw [eW0]; simp
  have k0 : W0.heap[w.heap.size]? = some (.cells #[.slice p xs.length c1, .slice q tr.length c2] 25) := by
    rw [eW0, Below.heap_alloc _ _ _ (by simp)]; exact heap_alloc_new _ _
  have k1 : W0.heap[w.heap.size + 1]? = some (.cells #[.int .i64 k, .int .i64 n, .slice pt t.length cap] 28) := by
    rw [eW0]
    have := heap_alloc_new (w.alloc (.cells #[.slice p xs.length c1, .slice q tr.length c2] 25)) (.cells #[.int .i64 k, .int .i64 n, .slice pt t.length cap] 28)
    simpa using this
  -- the boxes of both arguments, and what came in, in every later world
  have HX : Hid (∀ W, Below W0.heap.size W0 W → (W.cell? ⟨w.heap.size, 0, none⟩ = some (.slice p xs.length c1) ∧ W.cell? ⟨w.heap.size, 1, none⟩ = some (.slice q tr.length c2)) ∧ Box3 W (w.heap.size + 1) (.int .i64 k) (.int .i64 n) (.slice pt t.length cap)) := fun W hW => by
    have j0 := (hW.block w.heap.size (by omega)).trans k0
    have j1 := (hW.block (w.heap.size + 1) (by omega)).trans k1
    exact ⟨⟨by simp [World.cell?, j0], by simp [World.cell?, j0]⟩, Box3.of_block j1⟩
  have HL : Hid (∀ W, Below W0.heap.size W0 W → CIn W p xs ∧ IIn W q tr ∧ BIn W pt t ∧ Below w.heap.size w W) := fun W hW => by
    have hb := Below.on hb0 hW
    exact ⟨hx.lies.below hb, hy.lies.below hb, ht.lies.below hb, hb⟩
  have HS1 := szStore_any p q c1 c2 xs tr 1048576 W0 (Nat.le_refl _) (hx.below hb0) (hy.below hb0)
  have htl := ht.len
  have HE0 : Hid _ := eW0
  clear hx hy ht k0 k1 hb0 hz0
  by_cases hn : xs.length + tl xs + tr.length ≤ 1048576
  · obtain ⟨r, er⟩ : ∃ r : Nat, szR 1048576 (xs.length + tl xs + tr.length) = r := ⟨1048576 - (xs.length + tl xs + tr.length), by rw [szR, if_pos hn]; omega⟩
    have hr : r ≤ 1048576 := by rw [szR, if_pos hn] at er; omega
    rw [er] at HS1
    have H2 := fun W => szCell_any k n pt t.length cap r W hr htl
    clear er
    by_cases hm : t.length ≤ r
    · obtain ⟨r2, er2⟩ : ∃ r2 : Nat, szR r t.length = r2 := ⟨r - t.length, by rw [szR, if_pos hm]; omega⟩
      rw [er2] at H2
      clear er2
      rw [eW0] at HS1
      clear eW0
      have htm : t.length ≤ 1048576 := by omega
      have hxn : xs.length + tl xs ≤ 1048576 := by omega
      have htr : tr.length ≤ 1048576 := by omega
      clear hn hm hr
      go_enter Try.func3, Try.ntmps3
      go_wp2_with fail
      refine HS1.mono ?_
      rintro e w1 ⟨rfl, hb⟩
      rw [← HE0.out] at hb
      have HB1 : Hid (Below W0.heap.size W0 w1) := hb
      obtain ⟨⟨s0, s1⟩, b0, b1, b2, _⟩ := HX.out _ hb
      clear hb HS1
      go_wp2_with fail
      refine (H2 _).mono ?_
      rintro e w2 ⟨rfl, hb⟩
      have HB2 : Hid (Below W0.heap.size W0 w2) := Below.on HB1.out hb
      clear hb H2 s0 s1 b0 b1 b2
      obtain ⟨⟨s0, s1⟩, b0, b1, b2, _⟩ := HX.out _ HB2.out
      have HT1 : Hid _ := toStore_any p q c1 c2 xs tr (w2.drewN 1) hxn htr (HL.out _ (below_drewN HB2.out 1)).1 (HL.out _ (below_drewN HB2.out 1)).2.1
      go_wp2
      go_region_with (first
        | (go_at_call 11; refine Calls.mono HT1.out ?_; rintro e w3 ⟨g1, g2, rfl, hc3, hi3, hb3⟩; have HB3 : Hid (Below W0.heap.size W0 w3) := Below.on (below_drewN HB2.out 1) hb3; have HC3 : Hid (CIn w3 (some ⟨g1, 0, none⟩) xs) := hc3.cin; have HI3 : Hid (IIn w3 (some ⟨g2, 0, none⟩) tr) := hi3.iin; obtain ⟨_, d0, d1, d2, _⟩ := HX.out _ HB3.out; have HT2 : Hid _ := toCell_any k n pt t.length cap t w3 rfl htm (HL.out _ HB3.out).2.2.1; clear hb3 hc3 hi3)
        | (go_at_call 12; go_loud (refine Calls.mono HT2.out ?_; rintro e w4 ⟨g3, rfl, hs4, hb4⟩; have HB4 : Hid (Below W0.heap.size W0 w4) := Below.on HB3.out hb4; have HT3 : Hid _ := specVS_any (some ⟨g1, 0, none⟩) (some ⟨g2, 0, none⟩) (some ⟨g3, 0, none⟩) xs.length tr.length t.length k n t xs tr w4 (by omega) (by omega) (HC3.out.below hb4) (HI3.out.below hb4); clear hb4 hs4 d0 d1 d2))
        | (go_at_call 10; refine Calls.mono HT3.out ?_; rintro e w5 ⟨rfl, hb5⟩; have HB5 : Hid (Below W0.heap.size W0 w5) := Below.on HB4.out hb5; clear hb5))
      all_goals
        obtain ⟨⟨e0, e1⟩, e2, e3, e4, _⟩ := HX.out _ HB5.out
        have HT4 : Hid _ := toStore_any p q c1 c2 xs tr w5 hxn htr (HL.out _ HB5.out).1 (HL.out _ HB5.out).2.1
        clear HT1 HT2 HT3 HC3 HI3 HB1 HB2 HB3 HB4 s0 s1 b0 b1 b2
        go_wp2_with fail
        refine Calls.mono HT4.out ?_
        rintro e w6 ⟨g4, g5, rfl, hc6, hi6, hb6⟩
        have HB6 : Hid (Below W0.heap.size W0 w6) := Below.on HB5.out hb6
        have HB6a : Hid (Below W0.heap.size W0 (w6.alloc (.cells #[.slice (some ⟨g4, 0, none⟩) xs.length xs.length, .slice (some ⟨g5, 0, none⟩) tr.length tr.length] 34))) := HB6.out.alloc HB6.out.size _
        have HC6 : Hid (CIn w6 (some ⟨g4, 0, none⟩) xs) := hc6.cin
        have HI6 : Hid (IIn w6 (some ⟨g5, 0, none⟩) tr) := hi6.iin
        obtain ⟨_, e2', e3', e4', _⟩ := HX.out _ HB6a.out
        have HT5 : Hid _ := toCell_any k n pt t.length cap t (w6.alloc (.cells #[.slice (some ⟨g4, 0, none⟩) xs.length xs.length, .slice (some ⟨g5, 0, none⟩) tr.length tr.length] 34)) rfl htm (HL.out _ HB6a.out).2.2.1
        clear HT4 hc6 hi6 hb6 e0 e1 e2 e3 e4
        go_wp2_with fail
        refine Calls.mono HT5.out ?_
        rintro e w7 ⟨g6, rfl, hs7, hb7⟩
        have hb7a : Below (w6.alloc (.cells #[.slice (some ⟨g4, 0, none⟩) xs.length xs.length, .slice (some ⟨g5, 0, none⟩) tr.length tr.length] 34)).heap.size (w6.alloc (.cells #[.slice (some ⟨g4, 0, none⟩) xs.length xs.length, .slice (some ⟨g5, 0, none⟩) tr.length tr.length] 34)) (w7.alloc (.cells #[.int .i64 k, .int .i64 n, .slice (some ⟨g6, 0, none⟩) t.length t.length] 36)) := hb7.alloc hb7.size _
        have HB7 : Hid (Below W0.heap.size W0 (w7.alloc (.cells #[.int .i64 k, .int .i64 n, .slice (some ⟨g6, 0, none⟩) t.length t.length] 36))) := Below.on HB6a.out hb7a
        have x0 : (w7.alloc (.cells #[.int .i64 k, .int .i64 n, .slice (some ⟨g6, 0, none⟩) t.length t.length] 36)).heap[w6.heap.size]? = some (.cells #[.slice (some ⟨g4, 0, none⟩) xs.length xs.length, .slice (some ⟨g5, 0, none⟩) tr.length tr.length] 34) := (hb7a.block w6.heap.size (by simp)).trans (heap_alloc_new _ _)
        have x1 : (w7.alloc (.cells #[.int .i64 k, .int .i64 n, .slice (some ⟨g6, 0, none⟩) t.length t.length] 36)).heap[w7.heap.size]? = some (.cells #[.int .i64 k, .int .i64 n, .slice (some ⟨g6, 0, none⟩) t.length t.length] 36) := heap_alloc_new _ _
        have HC7 : Hid (CIn (w7.alloc (.cells #[.int .i64 k, .int .i64 n, .slice (some ⟨g6, 0, none⟩) t.length t.length] 36)) (some ⟨g4, 0, none⟩) xs) := HC6.out.below (Below.on ((Below.refl _ _).alloc (Nat.le_refl _) _) hb7a)
        have HI7 : Hid (IIn (w7.alloc (.cells #[.int .i64 k, .int .i64 n, .slice (some ⟨g6, 0, none⟩) t.length t.length] 36)) (some ⟨g5, 0, none⟩) tr) := HI6.out.below (Below.on ((Below.refl _ _).alloc (Nat.le_refl _) _) hb7a)
        have HT7 : Hid (BIn (w7.alloc (.cells #[.int .i64 k, .int .i64 n, .slice (some ⟨g6, 0, none⟩) t.length t.length] 36)) (some ⟨g6, 0, none⟩) t) := hs7.toT.bin.below ((Below.refl _ _).alloc (Nat.le_refl _) _)
        have y0 : (w7.alloc (.cells #[.int .i64 k, .int .i64 n, .slice (some ⟨g6, 0, none⟩) t.length t.length] 36)).cell? ⟨w6.heap.size, 0, none⟩ = some (.slice (some ⟨g4, 0, none⟩) xs.length xs.length) := by simp [World.cell?, x0]
        have y1 : (w7.alloc (.cells #[.int .i64 k, .int .i64 n, .slice (some ⟨g6, 0, none⟩) t.length t.length] 36)).cell? ⟨w6.heap.size, 1, none⟩ = some (.slice (some ⟨g5, 0, none⟩) tr.length tr.length) := by simp [World.cell?, x0]
        have HT6 : Hid _ := implVS_any (some ⟨g4, 0, none⟩) (some ⟨g5, 0, none⟩) (some ⟨g6, 0, none⟩) xs.length tr.length t.length k n t xs tr (w7.alloc (.cells #[.int .i64 k, .int .i64 n, .slice (some ⟨g6, 0, none⟩) t.length t.length] 36)) (by omega) (by omega) HC7.out HI7.out HT7.out
        have HXX : Hid (∀ W, Below (w7.alloc (.cells #[.int .i64 k, .int .i64 n, .slice (some ⟨g6, 0, none⟩) t.length t.length] 36)).heap.size (w7.alloc (.cells #[.int .i64 k, .int .i64 n, .slice (some ⟨g6, 0, none⟩) t.length t.length] 36)) W → (W.cell? ⟨w6.heap.size, 0, none⟩ = some (.slice (some ⟨g4, 0, none⟩) xs.length xs.length) ∧ W.cell? ⟨w6.heap.size, 1, none⟩ = some (.slice (some ⟨g5, 0, none⟩) tr.length tr.length)) ∧ Box3 W w7.heap.size (.int .i64 k) (.int .i64 n) (.slice (some ⟨g6, 0, none⟩) t.length t.length) ∧ (CIn W (some ⟨g4, 0, none⟩) xs ∧ IIn W (some ⟨g5, 0, none⟩) tr ∧ BIn W (some ⟨g6, 0, none⟩) t) ∧ Below W0.heap.size W0 W) := fun W hW => by
          have z0 := (hW.block w6.heap.size (by have := hb7a.size; simp at this ⊢; omega)).trans x0
          have z1 := (hW.block w7.heap.size (by simp)).trans x1
          exact ⟨⟨by simp [World.cell?, z0], by simp [World.cell?, z0]⟩, Box3.of_block z1, ⟨HC7.out.below hW, HI7.out.below hW, HT7.out.below hW⟩, Below.on HB7.out hW⟩
        clear HT5 hs7 hb7 hb7a x0 x1 HC6 HI6 HB6 HB6a e2' e3' e4'
        go_wp2_with fail
        refine Calls.mono HT6.out ?_
        rintro e w8 ⟨rfl, hb8⟩
        obtain ⟨⟨q0, q1⟩, ⟨r0, r1, r2, _⟩, _, _⟩ := HXX.out _ hb8
        have HB8 : Hid (Below (w7.alloc (.cells #[.int .i64 k, .int .i64 n, .slice (some ⟨g6, 0, none⟩) t.length t.length] 36)).heap.size (w7.alloc (.cells #[.int .i64 k, .int .i64 n, .slice (some ⟨g6, 0, none⟩) t.length t.length] 36)) w8) := hb8
        obtain ⟨⟨a0, a1⟩, a2, a3, a4, _⟩ := HX.out _ (HXX.out _ hb8).2.2.2
        have HT8 : Hid _ := toStore_any p q c1 c2 xs tr (w8.drewN 1) hxn htr (HL.out _ (HXX.out _ (below_drewN hb8 1)).2.2.2).1 (HL.out _ (HXX.out _ (below_drewN hb8 1)).2.2.2).2.1
        have hbne : (vsB xs tr k n t.length != vsB xs tr k n t.length) = false := by simp
        clear hb8 y0 y1 HT6 HC7 HI7 HT7 HB7
        go_wp2
        go_region_with (first
          | (go_at_call 11; refine Calls.mono HT8.out ?_; rintro e w9 ⟨h1, h2, rfl, hc9, hi9, hb9⟩; have HB9 : Hid (Below (w7.alloc (.cells #[.int .i64 k, .int .i64 n, .slice (some ⟨g6, 0, none⟩) t.length t.length] 36)).heap.size (w7.alloc (.cells #[.int .i64 k, .int .i64 n, .slice (some ⟨g6, 0, none⟩) t.length t.length] 36)) w9) := Below.on (below_drewN HB8.out 1) hb9; have HC9 : Hid (CIn w9 (some ⟨h1, 0, none⟩) xs) := hc9.cin; have HI9 : Hid (IIn w9 (some ⟨h2, 0, none⟩) tr) := hi9.iin; obtain ⟨⟨u0, u1⟩, _, _, _⟩ := HXX.out _ HB9.out; have HT9 : Hid _ := eqStore_any (some ⟨g4, 0, none⟩) (some ⟨g5, 0, none⟩) (some ⟨h1, 0, none⟩) (some ⟨h2, 0, none⟩) xs.length tr.length xs.length tr.length xs tr w9 (by omega) (by omega) (HXX.out _ HB9.out).2.2.1.1 (HXX.out _ HB9.out).2.2.1.2.1 HC9.out HI9.out; clear hb9 hc9 hi9)
          | (go_at_call 14; refine Calls.mono HT9.out ?_; rintro e w10 ⟨rfl, hb10⟩; have HB10 : Hid (Below (w7.alloc (.cells #[.int .i64 k, .int .i64 n, .slice (some ⟨g6, 0, none⟩) t.length t.length] 36)).heap.size (w7.alloc (.cells #[.int .i64 k, .int .i64 n, .slice (some ⟨g6, 0, none⟩) t.length t.length] 36)) w10) := Below.on HB9.out hb10; clear hb10))
        all_goals
          obtain ⟨_, ⟨v0, v1, v2, _⟩, _, hb10⟩ := HXX.out _ HB10.out
          obtain ⟨_, m0, m1, m2, _⟩ := HX.out _ hb10
          have HTA : Hid _ := toCell_any k n pt t.length cap t (w10.drewN 1) rfl htm (HL.out _ (HXX.out _ (below_drewN HB10.out 1)).2.2.2).2.2.1
          clear hb10 HT8 HT9 HC9 HI9 u0 u1 q0 q1 r0 r1 r2 a0 a1 a2 a3 a4 HB8 HB9
          go_wp2
          go_region_with (first
            | (go_at_call 12; refine Calls.mono HTA.out ?_; rintro e w11 ⟨h3, rfl, hs11, hb11⟩; have HB11 : Hid (Below (w7.alloc (.cells #[.int .i64 k, .int .i64 n, .slice (some ⟨g6, 0, none⟩) t.length t.length] 36)).heap.size (w7.alloc (.cells #[.int .i64 k, .int .i64 n, .slice (some ⟨g6, 0, none⟩) t.length t.length] 36)) w11) := Below.on (below_drewN HB10.out 1) hb11; have HS11 : Hid (BIn w11 (some ⟨h3, 0, none⟩) t) := hs11.toT.bin; obtain ⟨_, ⟨n0, n1, n2, _⟩, _, _⟩ := HXX.out _ HB11.out; have HTB' := eqCell_any k n k n (some ⟨g6, 0, none⟩) (some ⟨h3, 0, none⟩) t.length t.length t.length t.length t t w11 rfl rfl (by omega) (by omega) (HXX.out _ HB11.out).2.2.1.2.2 HS11.out; rw [decide_eq_true (rfl : ((k, n, t) : Cel) = (k, n, t))] at HTB'; have HTB : Hid _ := HTB'; clear hb11 hs11 HTB')
            | (go_at_call 15; refine Calls.mono HTB.out ?_; rintro e w12 ⟨rfl, hb12⟩; have HB12 : Hid (Below (w7.alloc (.cells #[.int .i64 k, .int .i64 n, .slice (some ⟨g6, 0, none⟩) t.length t.length] 36)).heap.size (w7.alloc (.cells #[.int .i64 k, .int .i64 n, .slice (some ⟨g6, 0, none⟩) t.length t.length] 36)) w12) := Below.on HB11.out hb12; clear hb12))
          all_goals go_wp2
          all_goals go_ret
          all_goals exact ⟨rfl, (HL.out _ (HXX.out _ HB12.out).2.2.2).2.2.2⟩
    · have er2 : szR r t.length = -1 := by rw [szR, if_neg hm]
      rw [er2] at H2
      rw [eW0] at HS1
      clear er2 eW0 hm
      go_enter Try.func3, Try.ntmps3
      go_wp2_with fail
      refine HS1.mono ?_
      rintro e w1 ⟨rfl, hb⟩
      rw [← HE0.out] at hb
      have HB1 : Hid (Below W0.heap.size W0 w1) := hb
      obtain ⟨⟨s0, s1⟩, b0, b1, b2, _⟩ := HX.out _ hb
      clear hb HS1
      go_wp2_with fail
      refine (H2 _).mono ?_
      rintro e w2 ⟨rfl, hb⟩
      have HB2 : Hid (Below W0.heap.size W0 w2) := Below.on HB1.out hb
      clear hb H2 s0 s1 b0 b1 b2
      go_wp2
      go_ret
      exact ⟨rfl, (HL.out _ HB2.out).2.2.2⟩
  · have er : szR 1048576 (xs.length + tl xs + tr.length) = -1 := by rw [szR, if_neg hn]
    rw [er, eW0] at HS1
    clear er eW0 hn
    go_enter Try.func3, Try.ntmps3
    go_wp2_with fail
    refine HS1.mono ?_
    rintro e w1 ⟨rfl, hb⟩
    rw [← HE0.out] at hb
    have HB1 : Hid (Below W0.heap.size W0 w1) := hb
    clear hb HS1
    go_wp2
    go_ret
    exact ⟨rfl, (HL.out _ HB1.out).2.2.2⟩

end Go.Proofs.Ytjfigpahigihjaa
