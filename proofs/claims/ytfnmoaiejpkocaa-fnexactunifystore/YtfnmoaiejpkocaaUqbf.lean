/- Texts of LawUf. Own work of the verifier. -/
import Derived.Test.YtfnmoaiejpkocaaUqbe
namespace Go.Proofs.Ytfnmoaiejpkocaa
open Go Go.RowKit
set_option linter.unusedVariables false

theorem fine_size {Z : List Cel} {T : List Int} (h1 : Z.length ≤ 20000) (h2 : T.length ≤ 20000) (h3 : ∀ i, i < Z.length → (Z.getD i Cel.none).2.2.length ≤ 100) : Z.length + tl Z ≤ 3000000 ∧ T.length ≤ 20000 := by
  have := tl_le100 Z (fun c hc => by
    obtain ⟨i, hi, rfl⟩ := List.mem_iff_getElem.1 hc
    have := h3 i hi
    simpa [List.getD, hi] using this)
  exact ⟨by omega, h2⟩
theorem joinN10 {A0 A1 A2 A3 A4 A5 A6 A7 A8 A9 : Type} {F G : A0 → A1 → A2 → A3 → A4 → A5 → A6 → A7 → A8 → A9 → Prop} {goal : Prop} (h1 : Hid (∀ a0 a1 a2 a3 a4 a5 a6 a7 a8 a9, F a0 a1 a2 a3 a4 a5 a6 a7 a8 a9 → G a0 a1 a2 a3 a4 a5 a6 a7 a8 a9) → goal) (h2 : ∀ a0 a1 a2 a3 a4 a5 a6 a7 a8 a9, F a0 a1 a2 a3 a4 a5 a6 a7 a8 a9 → G a0 a1 a2 a3 a4 a5 a6 a7 a8 a9) : goal := h1 h2
theorem three_at (w : World) (o0 o1 o2 : Obj) : (((w.alloc o0).alloc o1).alloc o2).heap[w.heap.size]? = some o0 ∧ (((w.alloc o0).alloc o1).alloc o2).heap[w.heap.size + 1]? = some o1 ∧ (((w.alloc o0).alloc o1).alloc o2).heap[w.heap.size + 1 + 1]? = some o2 := by
  refine ⟨?_, ?_, ?_⟩
  · rw [Below.heap_alloc _ _ _ (by simp <;> omega), Below.heap_alloc _ _ _ (by simp)]; exact heap_alloc_new _ _
  · rw [Below.heap_alloc _ _ _ (by simp)]
    have := heap_alloc_new (w.alloc o0) o1
    simpa using this
  · have := heap_alloc_new ((w.alloc o0).alloc o1) o2
    simpa using this
theorem uniA_size (xs : List Cel) (tr : List Int) (a b : Cel) (hbx : ∀ i, i < xs.length → Byte (xs.getD i Cel.none).2.2) (hba : Byte a.2.2) (hbb : Byte b.2.2) : (uniA xs tr a b).1.1.length + tl (uniA xs tr a b).1.1 ≤ 3000000 ∧ (uniA xs tr a b).1.2.length ≤ 20000 := by
  unfold uniA
  split
  · rename_i hv
    rw [Bool.and_eq_true] at hv
    obtain ⟨g, hwa, ho, hoa, htl⟩ := vsB_parts hv.1
    obtain ⟨_, hwb, _, hob, _⟩ := vsB_parts hv.2
    obtain ⟨hF, _, _⟩ := uRun_fit 20000 [(a, b)] (xs, tr) ⟨g, fun i hi => ⟨ho i hi, hbx i hi⟩, htl⟩ (fun p hp => by rw [List.mem_singleton.1 hp]; exact ⟨⟨hwa, hoa, hba⟩, hwb, hob, hbb⟩)
    exact fine_size hF.1.shp.len hF.2.2 (fit_len hF)
  · simp [tl]

set_option maxHeartbeats 16000000 in
set_option maxRecDepth 100000 in
theorem lawUf_any (p q pt pb : Option Addr) (c1 c2 cap capb : Nat) (k n kb nb : Int) (t tb : List Int) (xs : List Cel) (tr : List Int) (w : World) (hx : CArg w p xs) (hy : IArg w q tr) (ht : BArgB w pt t) (htb : BArgB w pb tb) :
    Calls Try.prog 7 #[.agg #[.slice p xs.length c1, .slice q tr.length c2], .agg #[.int .i64 k, .int .i64 n, .slice pt t.length cap], .agg #[.int .i64 kb, .int .i64 nb, .slice pb tb.length capb]] w fun e w' => e = .returned (.bool true) ∧ Below w.heap.size w w' := by
  obtain ⟨W0, eW0⟩ : ∃ W0, W0 = ((w.alloc (.cells #[.slice p xs.length c1, .slice q tr.length c2] 25)).alloc (.cells #[.int .i64 k, .int .i64 n, .slice pt t.length cap] 28)).alloc (.cells #[.int .i64 kb, .int .i64 nb, .slice pb tb.length capb] 28) := ⟨_, rfl⟩
  have hb0 : Below w.heap.size w W0 := by rw [eW0]; exact (((Below.refl _ _).alloc (Nat.le_refl _) _).alloc (by simp) _).alloc (by simp; omega) _
  have hz0 : W0.heap.size = w.heap.size + 1 + 1 + 1 := by rw [eW0]; simp
  have k012 := three_at w (.cells #[.slice p xs.length c1, .slice q tr.length c2] 25) (.cells #[.int .i64 k, .int .i64 n, .slice pt t.length cap] 28) (.cells #[.int .i64 kb, .int .i64 nb, .slice pb tb.length capb] 28)
  rw [← eW0] at k012
  obtain ⟨k0, k1, k2⟩ := k012
  -- the boxes of both arguments, and what came in, in every later world
  have HX : Hid (∀ W, Below W0.heap.size W0 W → (W.cell? ⟨w.heap.size, 0, none⟩ = some (.slice p xs.length c1) ∧ W.cell? ⟨w.heap.size, 1, none⟩ = some (.slice q tr.length c2)) ∧ W.cell? ⟨w.heap.size + 1, 0, none⟩ = some (.int .i64 k) ∧ W.cell? ⟨w.heap.size + 1, 1, none⟩ = some (.int .i64 n) ∧ W.cell? ⟨w.heap.size + 1, 2, none⟩ = some (.slice pt t.length cap) ∧ W.cell? ⟨w.heap.size + 1 + 1, 0, none⟩ = some (.int .i64 kb) ∧ W.cell? ⟨w.heap.size + 1 + 1, 1, none⟩ = some (.int .i64 nb) ∧ W.cell? ⟨w.heap.size + 1 + 1, 2, none⟩ = some (.slice pb tb.length capb)) := fun W hW => by
    have j0 := (hW.block w.heap.size (by omega)).trans k0
    have j1 := (hW.block (w.heap.size + 1) (by omega)).trans k1
    have j2 := (hW.block (w.heap.size + 1 + 1) (by omega)).trans k2
    exact ⟨⟨by simp [World.cell?, j0], by simp [World.cell?, j0]⟩, by simp [World.cell?, j1], by simp [World.cell?, j1], by simp [World.cell?, j1], by simp [World.cell?, j2], by simp [World.cell?, j2], by simp [World.cell?, j2]⟩
  have HL : Hid (∀ W, Below W0.heap.size W0 W → CIn W p xs ∧ IIn W q tr ∧ BIn W pt t ∧ BIn W pb tb ∧ Below w.heap.size w W) := fun W hW => by
    have hb := Below.on hb0 hW
    exact ⟨hx.lies.below hb, hy.lies.below hb, ht.lies.below hb, htb.lies.below hb, hb⟩
  have HS1 := szStore_any p q c1 c2 xs tr 1048576 W0 (Nat.le_refl _) (hx.below hb0) (hy.below hb0)
  have htl := ht.len
  have htbl := htb.len
  have HE0 : Hid _ := eW0
  have HZ0 : Hid _ := hz0
  have HBX : Hid _ := hx.byte
  have HBT : Hid _ := ht.byte
  have HBU : Hid _ := htb.byte
  clear hx hy ht htb k0 k1 k2 hb0 hz0
  by_cases hn : xs.length + tl xs + tr.length ≤ 1048576
  · obtain ⟨r, er⟩ : ∃ r : Nat, szR 1048576 (xs.length + tl xs + tr.length) = r := ⟨1048576 - (xs.length + tl xs + tr.length), by rw [szR, if_pos hn]; omega⟩
    have hr : r ≤ 1048576 := by rw [szR, if_pos hn] at er; omega
    rw [er] at HS1
    have H2 := fun W => szCell_any k n pt t.length cap r W hr htl
    clear er
    by_cases hm : t.length ≤ r
    · obtain ⟨r2, er2⟩ : ∃ r2 : Nat, szR r t.length = r2 := ⟨r - t.length, by rw [szR, if_pos hm]; omega⟩
      have hr2 : r2 ≤ 1048576 := by rw [szR, if_pos hm] at er2; omega
      rw [er2] at H2
      have H3 := fun W => szCell_any kb nb pb tb.length capb r2 W hr2 htbl
      clear er2
      by_cases hm2 : tb.length ≤ r2
      rotate_left
      · have er3 : szR r2 tb.length = -1 := by rw [szR, if_neg hm2]
        rw [er3] at H3
        rw [eW0] at HS1
        clear er3 eW0 hm hm2
        go_enter Try.func7, Try.ntmps7
        go_wp2_with fail
        refine HS1.mono ?_
        rintro e w1 ⟨rfl, hb⟩
        rw [← HE0.out] at hb
        have HB1 : Hid (Below W0.heap.size W0 w1) := hb
        obtain ⟨⟨s0, s1⟩, b0, b1, b2, b3, b4, b5⟩ := HX.out _ hb
        clear hb HS1
        go_wp2_with fail
        refine (H2 _).mono ?_
        rintro e w2 ⟨rfl, hb⟩
        have HB2 : Hid (Below W0.heap.size W0 w2) := Below.on HB1.out hb
        clear hb H2 s0 s1 b0 b1 b2 b3 b4 b5
        obtain ⟨⟨s0, s1⟩, b0, b1, b2, b3, b4, b5⟩ := HX.out _ HB2.out
        go_wp2_with fail
        refine (H3 _).mono ?_
        rintro e w3 ⟨rfl, hb⟩
        have HB3 : Hid (Below W0.heap.size W0 w3) := Below.on HB2.out hb
        clear hb H3 s0 s1 b0 b1 b2 b3 b4 b5
        go_wp2
        go_ret
        exact ⟨rfl, (HL.out _ HB3.out).2.2.2.2⟩
      obtain ⟨r3, er3⟩ : ∃ r3 : Nat, szR r2 tb.length = r3 := ⟨r2 - tb.length, by rw [szR, if_pos hm2]; omega⟩
      rw [er3] at H3
      clear er3
      rw [eW0] at HS1
      clear eW0
      have htm : t.length ≤ 1048576 := by omega
      have hum : tb.length ≤ 1048576 := by omega
      have hxn : xs.length + tl xs ≤ 1048576 := by omega
      have htr : tr.length ≤ 1048576 := by omega
      clear hn hm hr hm2 hr2
      obtain ⟨AA, eA⟩ : ∃ A, A = uniA xs tr (k, n, t) (kb, nb, tb) := ⟨_, rfl⟩
      have hsz : AA.1.1.length + tl AA.1.1 ≤ 3000000 ∧ AA.1.2.length ≤ 20000 := by rw [eA]; exact uniA_size _ _ _ _ HBX.out HBT.out HBU.out
      have HTS : Hid (∀ W, Below W0.heap.size W0 W → Calls Try.prog 12 #[.agg #[.slice p xs.length c1, .slice q tr.length c2]] W fun e w' => ∃ g1 g2, e = .returned (.agg #[.slice (some ⟨g1, 0, none⟩) xs.length xs.length, .slice (some ⟨g2, 0, none⟩) tr.length tr.length]) ∧ (∃ M, OwnCU w' W.heap.size M (some ⟨g1, 0, none⟩) xs.length xs.length xs ∧ OwnI w' M 3 (some ⟨g2, 0, none⟩) tr.length tr.length tr ∧ W.heap.size ≤ M ∧ M ≤ w'.heap.size) ∧ Below W.heap.size W w') := fun W hW => toStoreU_any p q c1 c2 xs tr W hxn htr (HL.out W hW).1 (HL.out W hW).2.1
      have HTC : Hid (∀ W, Below W0.heap.size W0 W → Calls Try.prog 13 #[.agg #[.int .i64 k, .int .i64 n, .slice pt t.length cap]] W fun e w' => ∃ g, e = .returned (.agg #[.int .i64 k, .int .i64 n, .slice (some ⟨g, 0, none⟩) t.length t.length]) ∧ OwnS w' W.heap.size (some ⟨g, 0, none⟩) t.length t.length t ∧ Below W.heap.size W w') := fun W hW => toCell_any k n pt t.length cap t W rfl htm (HL.out W hW).2.2.1
      have HTD : Hid (∀ W, Below W0.heap.size W0 W → Calls Try.prog 13 #[.agg #[.int .i64 kb, .int .i64 nb, .slice pb tb.length capb]] W fun e w' => ∃ g, e = .returned (.agg #[.int .i64 kb, .int .i64 nb, .slice (some ⟨g, 0, none⟩) tb.length tb.length]) ∧ OwnS w' W.heap.size (some ⟨g, 0, none⟩) tb.length tb.length tb ∧ Below W.heap.size W w') := fun W hW => toCell_any kb nb pb tb.length capb tb W rfl hum (HL.out W hW).2.2.2.1
      have HSP : Hid (∀ W a b c d, CIn W a xs → IIn W b tr → BIn W c t → BIn W d tb → Calls Try.prog 30 #[.agg #[.slice a xs.length xs.length, .slice b tr.length tr.length], .agg #[.int .i64 k, .int .i64 n, .slice c t.length t.length], .agg #[.int .i64 kb, .int .i64 nb, .slice d tb.length tb.length]] W (StoreB AA W)) := fun W a b c d h1 h2 h3 h4 => by rw [eA]; exact specUni_any a b c d xs.length tr.length t.length tb.length (k, n, t) (kb, nb, tb) xs tr W (by omega) (by omega) HBX.out HBT.out HBU.out h1 h2 h3 h4
      have HIM : Hid (∀ W a b c d, CIn W a xs → IIn W b tr → BIn W c t → BIn W d tb → Calls Try.prog 31 #[.agg #[.slice a xs.length xs.length, .slice b tr.length tr.length], .agg #[.int .i64 k, .int .i64 n, .slice c t.length t.length], .agg #[.int .i64 kb, .int .i64 nb, .slice d tb.length tb.length]] W (StoreA AA W)) := fun W a b c d h1 h2 h3 h4 => by rw [eA]; exact implUni_any a b c d xs.length tr.length t.length tb.length (k, n, t) (kb, nb, tb) xs tr W (by omega) (by omega) HBX.out HBT.out HBU.out h1 h2 h3 h4
      clear eA HBX HBT HBU
      obtain ⟨⟨Z, T⟩, code⟩ := AA
      simp only at hsz
      have hZ : Z.length + tl Z ≤ 3000000 := hsz.1
      have hT : T.length ≤ 20000 := hsz.2
      clear hsz
      go_enter Try.func7, Try.ntmps7
      go_wp2_with fail
      refine HS1.mono ?_
      rintro e w1 ⟨rfl, hb⟩
      rw [← HE0.out] at hb
      have HB1 : Hid (Below W0.heap.size W0 w1) := hb
      obtain ⟨⟨s0, s1⟩, b0, b1, b2, b3, b4, b5⟩ := HX.out _ hb
      clear hb HS1
      go_wp2_with fail
      refine (H2 _).mono ?_
      rintro e w1b ⟨rfl, hb⟩
      have HA1b : Hid (Below W0.heap.size W0 w1b) := Below.on HB1.out hb
      clear hb H2 HB1 s0 s1 b0 b1 b2 b3 b4 b5
      obtain ⟨⟨s0, s1⟩, b0, b1, b2, b3, b4, b5⟩ := HX.out _ HA1b.out
      go_wp2_with fail
      refine (H3 _).mono ?_
      rintro e w2 ⟨rfl, hb⟩
      have HA2 : Hid (Below W0.heap.size W0 w2) := Below.on HA1b.out hb
      clear hb H3 HA1b s0 s1 b0 b1 b2 b3 b4 b5
      obtain ⟨⟨s0, s1⟩, b0, b1, b2, b3, b4, b5⟩ := HX.out _ HA2.out
      have hge2 : w.heap.size + 1 + 1 + 1 ≤ w2.heap.size := by have := HA2.out.size; have h2 := HZ0.out; omega
      go_wp2
      have HD0 : Hid (Below W0.heap.size W0 (w2.drewN 1)) := below_drewN HA2.out 1
      have hwz : W0.heap.size ≤ w2.heap.size := HA2.out.size
      apply joinN10 (F := fun (W : World) (b g1 g2 g3 g3b : Nat) (pp qq : Option Addr) (cc dd : Nat) => Box2 W b (.slice pp Z.length cc) (.slice qq T.length dd) ∧ Below W0.heap.size W0 W ∧ (CIn W pp Z ∧ IIn W qq T) ∧ w2.heap.size ≤ b ∧ Below w2.heap.size w2 W)
      · intro KEY
        have HTC1 := hid HTC.out
        go_region_held3 (fun W => (W.cell? ⟨w.heap.size, 0, none⟩ = some (.slice p xs.length c1) ∧ W.cell? ⟨w.heap.size, 1, none⟩ = some (.slice q tr.length c2)) ∧ W.cell? ⟨w.heap.size + 1, 0, none⟩ = some (.int .i64 k) ∧ W.cell? ⟨w.heap.size + 1, 1, none⟩ = some (.int .i64 n) ∧ W.cell? ⟨w.heap.size + 1, 2, none⟩ = some (.slice pt t.length cap) ∧ W.cell? ⟨w.heap.size + 1 + 1, 0, none⟩ = some (.int .i64 kb) ∧ W.cell? ⟨w.heap.size + 1 + 1, 1, none⟩ = some (.int .i64 nb) ∧ W.cell? ⟨w.heap.size + 1 + 1, 2, none⟩ = some (.slice pb tb.length capb)) (first | exact kk | go_keep | ((try dsimp only); (repeat' apply And.intro) <;> first | go_keep | ((repeat rw [World.cell?_setCell_other _ _ _ _ (by simp <;> omega)]) <;> (first | exact kk.1.1 | exact kk.1.2 | exact kk.2.1 | exact kk.2.2.1 | exact kk.2.2.2.1 | exact kk.2.2.2.2.1 | exact kk.2.2.2.2.2.1 | exact kk.2.2.2.2.2.2))))
          (first
            | (go_at_call 12; refine Calls.mono (HTS.out _ (by first | exact HD0.out | exact HD0.out.alloc HD0.out.size _)) ?_; rintro e w2a ⟨g1, g2, rfl, ⟨M, hc, hi, hM1, hM2⟩, hb⟩; have hbn : Below (w2.drewN 1).heap.size (w2.drewN 1) w2a := (by first | exact hb | exact Below.on (alloc_on _ _) hb); have hle_w2a : w2.heap.size ≤ w2a.heap.size := Nat.le_trans (by simp) hbn.size; have HD1 : Hid (Below W0.heap.size W0 w2a) := Below.on HD0.out hbn; have HQ1 : Hid (Below w2.heap.size w2 w2a) := (below_drewN (Below.refl _ _) 1).trans hbn; have HC1 : Hid (CIn w2a (some ⟨g1, 0, none⟩) xs) := hc.toC.cin; have HI1 : Hid (IIn w2a (some ⟨g2, 0, none⟩) tr) := hi.iin; have kk := HX.out _ HD1.out; clear hc hi hM1 hM2; (first | (have HZ2 := hid (Box2.on HZ.out hbn); clear HZ; have HZ := HZ2; clear HZ2) | (have HZ : Hid (Box2 w2a w2.heap.size (.slice none 0 0) (.slice none 0 0)) := Box2.of_block (t := 36) ((hb.block w2.heap.size (by simp)).trans (heap_alloc_new (w2.drewN 1) _))) | skip); (first | (have hzl_w2a := HZ.out.lt) | skip); clear hb hbn)
            | (go_at_call 13; refine Calls.mono (HTC1.out _ (by first | exact HD1.out | exact HD1.out.alloc HD1.out.size _)) ?_; rintro e w2b ⟨g3, rfl, hs, hb⟩; have hbn : Below w2a.heap.size w2a w2b := (by first | exact hb | exact Below.on (alloc_on _ _) hb); have hle_w2b : w2a.heap.size ≤ w2b.heap.size := hbn.size; have HD2 : Hid (Below W0.heap.size W0 w2b) := Below.on HD1.out hbn; have HQ2 : Hid (Below w2.heap.size w2 w2b) := Below.on HQ1.out hbn; have HC2 : Hid (CIn w2b (some ⟨g1, 0, none⟩) xs) := HC1.out.below hbn; have HI2 : Hid (IIn w2b (some ⟨g2, 0, none⟩) tr) := HI1.out.below hbn; have HT2 : Hid (BIn w2b (some ⟨g3, 0, none⟩) t) := hs.toT.bin; have kk := HX.out _ HD2.out; clear hs HTC1; (first | (have HZ2 := hid (Box2.on HZ.out hbn); clear HZ; have HZ := HZ2; clear HZ2) | (have HZ : Hid (Box2 w2b w2a.heap.size (.slice none 0 0) (.slice none 0 0)) := Box2.of_block (t := 36) ((hb.block w2a.heap.size (by simp)).trans (heap_alloc_new w2a _))) | skip); (first | (have hzl_w2b := HZ.out.lt) | skip); clear hb hbn)
            | (go_at_call 13; refine Calls.mono (HTD.out _ (by first | exact HD2.out | exact HD2.out.alloc HD2.out.size _)) ?_; rintro e w2c ⟨g3b, rfl, hs, hb⟩; have hbn : Below w2b.heap.size w2b w2c := (by first | exact hb | exact Below.on (alloc_on _ _) hb); have hle_w2c : w2b.heap.size ≤ w2c.heap.size := hbn.size; have HD3 : Hid (Below W0.heap.size W0 w2c) := Below.on HD2.out hbn; have HQ3 : Hid (Below w2.heap.size w2 w2c) := Below.on HQ2.out hbn; have HC3 : Hid (CIn w2c (some ⟨g1, 0, none⟩) xs) := HC2.out.below hbn; have HI3 : Hid (IIn w2c (some ⟨g2, 0, none⟩) tr) := HI2.out.below hbn; have HT3 : Hid (BIn w2c (some ⟨g3, 0, none⟩) t) := HT2.out.below hbn; have HV3 : Hid (BIn w2c (some ⟨g3b, 0, none⟩) tb) := hs.toT.bin; have kk := HX.out _ HD3.out; clear hs; (first | (have HZ2 := hid (Box2.on HZ.out hbn); clear HZ; have HZ := HZ2; clear HZ2) | (have HZ : Hid (Box2 w2c w2b.heap.size (.slice none 0 0) (.slice none 0 0)) := Box2.of_block (t := 36) ((hb.block w2b.heap.size (by simp)).trans (heap_alloc_new w2b _))) | skip); (first | (have hzl_w2c := HZ.out.lt) | skip); clear hb hbn)
            | (go_at_call 30; refine Calls.mono (HSP.out _ _ _ _ _ (by first | exact HC3.out | exact HC3.out.below (alloc_on _ _)) (by first | exact HI3.out | exact HI3.out.below (alloc_on _ _)) (by first | exact HT3.out | exact HT3.out.below (alloc_on _ _)) (by first | exact HV3.out | exact HV3.out.below (alloc_on _ _))) ?_; rintro e w2d ⟨pp, qq, cc, dd, rfl, hbc, hbi, hb⟩; have hbn : Below w2c.heap.size w2c w2d := (by first | exact hb | exact Below.on (alloc_on _ _) hb); have hle_w2d : w2c.heap.size ≤ w2d.heap.size := hbn.size; have HD4 : Hid (Below W0.heap.size W0 w2d) := Below.on HD3.out hbn; have HQ4 : Hid (Below w2.heap.size w2 w2d) := Below.on HQ3.out hbn; have HBP := hid (And.intro hbc hbi); clear hbc hbi; have kk := HX.out _ HD4.out; (first | (have HZ2 := hid (Box2.on HZ.out hbn); clear HZ; have HZ := HZ2; clear HZ2) | (have HZ : Hid (Box2 w2d w2c.heap.size (.slice none 0 0) (.slice none 0 0)) := Box2.of_block (t := 36) ((hb.block w2c.heap.size (by simp)).trans (heap_alloc_new w2c _))) | skip); (first | (have hzl_w2d := HZ.out.lt) | skip); (first | (obtain ⟨z0, z1, z2⟩ := HZ.out) | skip); clear hb hbn))
        · have hF : Box2 (w2d.alloc (.cells #[.slice pp Z.length cc, .slice qq T.length dd] 36)) w2d.heap.size (.slice pp Z.length cc) (.slice qq T.length dd) ∧ Below W0.heap.size W0 (w2d.alloc (.cells #[.slice pp Z.length cc, .slice qq T.length dd] 36)) ∧ (CIn (w2d.alloc (.cells #[.slice pp Z.length cc, .slice qq T.length dd] 36)) pp Z ∧ IIn (w2d.alloc (.cells #[.slice pp Z.length cc, .slice qq T.length dd] 36)) qq T) ∧ w2.heap.size ≤ w2d.heap.size ∧ Below w2.heap.size w2 (w2d.alloc (.cells #[.slice pp Z.length cc, .slice qq T.length dd] 36)) :=
            ⟨Box2.of_block (t := 36) (heap_alloc_new _ _), HD4.out.alloc HD4.out.size _, ⟨HBP.out.1.cin.below (alloc_on _ _), HBP.out.2.iin.below (alloc_on _ _)⟩, by omega, HQ4.out.alloc (by omega) _⟩
          clear kk
          revert hF
          generalize (w2d.alloc (.cells #[.slice pp Z.length cc, .slice qq T.length dd] 36)) = W
          generalize w2d.heap.size = b
          intro hF
          exact KEY.out W b g1 g2 g3 g3b pp qq cc dd hF
        all_goals exact KEY.out _ _ g1 g2 g3 g3b pp qq cc dd ⟨HZ.out.put _ _, below_put2 HD4.out (by omega) _ _, ⟨((HBP.out.1.set (by first | (simp; done) | (simp; omega)) _).set (by first | (simp; done) | (simp; omega)) _).cin, ((HBP.out.2.set (by first | (simp; done) | (simp; omega)) _).set (by first | (simp; done) | (simp; omega)) _).iin⟩, by omega, below_put2 HQ4.out (by omega) _ _⟩
      · intro w3 bw g1 g2 g3 g3b pw qw cw dw hF
        obtain ⟨hF1, hF2, hF3, hF4, hF5⟩ := hF
        have HA3 : Hid (Below W0.heap.size W0 w3) := hF2
        have HW3 : Hid (Box2 w3 bw (.slice pw Z.length cw) (.slice qw T.length dw) ∧ CIn w3 pw Z ∧ IIn w3 qw T) := ⟨hF1, hF3⟩
        have hge3 : w.heap.size + 1 + 1 + 1 ≤ w3.heap.size := by have := HA3.out.size; have h2 := HZ0.out; omega
        have hbw : bw < w3.heap.size := hF1.lt
        clear hF1 hF2 hF3 hF4 hF5 s0 s1 b0 b1 b2 b3 b4 b5 HA2 HD0 hwz hge2 HSP
        obtain ⟨⟨s0, s1⟩, b0, b1, b2, b3, b4, b5⟩ := HX.out _ HA3.out
        try dsimp only
        go_wp2_with fail
        refine Calls.mono (HTS.out _ HA3.out) ?_
        rintro e w4 ⟨g4, g5, rfl, ⟨M4, hc, hi, hM1, hM2⟩, hb⟩
        obtain ⟨oS, eoS⟩ : ∃ o : Obj, o = .cells #[.slice (some ⟨g4, 0, none⟩) xs.length xs.length, .slice (some ⟨g5, 0, none⟩) tr.length tr.length] 36 := ⟨_, rfl⟩
        have HA4 : Hid (Below W0.heap.size W0 (w4.alloc oS)) := Below.on (Below.on HA3.out hb) (alloc_on _ _)
        have HB4 : Hid (Below w3.heap.size w3 (w4.alloc oS)) := Below.on hb (alloc_on _ _)
        have HX4 : Hid (OwnCU (w4.alloc oS) w3.heap.size M4 (some ⟨g4, 0, none⟩) xs.length xs.length xs ∧ OwnIU (w4.alloc oS) M4 w4.heap.size (some ⟨g5, 0, none⟩) tr.length tr.length tr) := ⟨hc.below (alloc_on _ _), hi.up.on (alloc_on _ _)⟩
        have HBX4 : Hid (Box2 (w4.alloc oS) w4.heap.size (.slice (some ⟨g4, 0, none⟩) xs.length xs.length) (.slice (some ⟨g5, 0, none⟩) tr.length tr.length)) := by show Box2 _ _ _ _; rw [eoS]; exact Box2.of_block (t := 36) (heap_alloc_new _ _)
        have hz4 : (w4.alloc oS).heap.size = w4.heap.size + 1 := by simp
        have HM4 : Hid (w3.heap.size ≤ M4 ∧ M4 ≤ w4.heap.size) := ⟨hM1, hM2⟩
        have q4 := HX.out _ HA4.out
        rw [eoS] at q4
        obtain ⟨⟨t0, t1⟩, u0, u1, u2, u3, u4, u5⟩ := q4
        have HO4 : Hid (oS = .cells #[.slice (some ⟨g4, 0, none⟩) xs.length xs.length, .slice (some ⟨g5, 0, none⟩) tr.length tr.length] 36) := eoS
        clear hc hi hb hM1 hM2 s0 s1 b0 b1 b2 b3 b4 b5 eoS
        go_wp2_with fail
        rw [← HO4.out]
        refine Calls.mono (HTC.out _ HA4.out) ?_
        rintro e w5 ⟨g6, rfl, hs, hb⟩
        obtain ⟨oC, eoC⟩ : ∃ o : Obj, o = .cells #[.int .i64 k, .int .i64 n, .slice (some ⟨g6, 0, none⟩) t.length t.length] 31 := ⟨_, rfl⟩
        have hb' : Below (w4.alloc oS).heap.size (w4.alloc oS) (w5.alloc oC) := Below.on hb (alloc_on _ _)
        have HA5 : Hid (Below W0.heap.size W0 (w5.alloc oC)) := Below.on HA4.out hb'
        have HB5 : Hid (Below w3.heap.size w3 (w5.alloc oC)) := Below.on HB4.out hb'
        have HX5 : Hid (OwnCU (w5.alloc oC) w3.heap.size M4 (some ⟨g4, 0, none⟩) xs.length xs.length xs ∧ OwnIU (w5.alloc oC) M4 w4.heap.size (some ⟨g5, 0, none⟩) tr.length tr.length tr) := ⟨HX4.out.1.below hb', HX4.out.2.on hb'⟩
        have HBX5 : Hid (Box2 (w5.alloc oC) w4.heap.size (.slice (some ⟨g4, 0, none⟩) xs.length xs.length) (.slice (some ⟨g5, 0, none⟩) tr.length tr.length)) := HBX4.out.on hb'
        have hs45 : w4.heap.size + 1 ≤ w5.heap.size := by have := hb.size; omega
        have HY5 : Hid (OwnTU (w5.alloc oC) (w4.heap.size + 1) w5.heap.size (some ⟨g6, 0, none⟩) t.length t.length t) := by have h := hs.toT.up; rw [hz4] at h; exact h.on (alloc_on _ _)
        have HBY5 : Hid (Box3 (w5.alloc oC) w5.heap.size (.int .i64 k) (.int .i64 n) (.slice (some ⟨g6, 0, none⟩) t.length t.length)) := by show Box3 _ _ _ _ _; rw [eoC]; exact Box3.of_block (t := 31) (heap_alloc_new _ _)
        have hz5 : (w5.alloc oC).heap.size = w5.heap.size + 1 := by simp
        have q5 := HX.out _ HA5.out
        rw [eoC] at q5
        obtain ⟨⟨t0', t1'⟩, u0', u1', u2', u3', u4', u5'⟩ := q5
        have HOC : Hid (oC = .cells #[.int .i64 k, .int .i64 n, .slice (some ⟨g6, 0, none⟩) t.length t.length] 31) := eoC
        clear hb hb' hs eoC HA4 HB4 HX4 HBX4 t0 t1 u0 u1 u2 u3 u4 u5 HO4 hz4
        go_wp2_with fail
        rw [← HOC.out]
        refine Calls.mono (HTD.out _ HA5.out) ?_
        rintro e v5 ⟨g6b, rfl, hs, hb⟩
        obtain ⟨oD, eoD⟩ : ∃ o : Obj, o = .cells #[.int .i64 kb, .int .i64 nb, .slice (some ⟨g6b, 0, none⟩) tb.length tb.length] 31 := ⟨_, rfl⟩
        have hb' : Below (w5.alloc oC).heap.size (w5.alloc oC) (v5.alloc oD) := Below.on hb (alloc_on _ _)
        have HAv : Hid (Below W0.heap.size W0 (v5.alloc oD)) := Below.on HA5.out hb'
        have HBv : Hid (Below w3.heap.size w3 (v5.alloc oD)) := Below.on HB5.out hb'
        have HXv : Hid (OwnCU (v5.alloc oD) w3.heap.size M4 (some ⟨g4, 0, none⟩) xs.length xs.length xs ∧ OwnIU (v5.alloc oD) M4 w4.heap.size (some ⟨g5, 0, none⟩) tr.length tr.length tr) := ⟨HX5.out.1.below hb', HX5.out.2.on hb'⟩
        have HBXv : Hid (Box2 (v5.alloc oD) w4.heap.size (.slice (some ⟨g4, 0, none⟩) xs.length xs.length) (.slice (some ⟨g5, 0, none⟩) tr.length tr.length)) := HBX5.out.on hb'
        have HYv : Hid (OwnTU (v5.alloc oD) (w4.heap.size + 1) w5.heap.size (some ⟨g6, 0, none⟩) t.length t.length t) := HY5.out.on hb'
        have HBYv : Hid (Box3 (v5.alloc oD) w5.heap.size (.int .i64 k) (.int .i64 n) (.slice (some ⟨g6, 0, none⟩) t.length t.length)) := HBY5.out.on hb'
        have hs5v : w5.heap.size + 1 ≤ v5.heap.size := by have := hb.size; omega
        have HPv : Hid (OwnTU (v5.alloc oD) (w5.heap.size + 1) v5.heap.size (some ⟨g6b, 0, none⟩) tb.length tb.length tb) := by have h := hs.toT.up; rw [hz5] at h; exact h.on (alloc_on _ _)
        have HBPv : Hid (Box3 (v5.alloc oD) v5.heap.size (.int .i64 kb) (.int .i64 nb) (.slice (some ⟨g6b, 0, none⟩) tb.length tb.length)) := by show Box3 _ _ _ _ _; rw [eoD]; exact Box3.of_block (t := 31) (heap_alloc_new _ _)
        have hzv : (v5.alloc oD).heap.size = v5.heap.size + 1 := by simp
        obtain ⟨x0, x1, x2⟩ := HBXv.out
        obtain ⟨y0, y1, y2, y3⟩ := HBYv.out
        obtain ⟨z0, z1, z2, z3⟩ := HBPv.out
        rw [eoD] at x0 x1 x2 y0 y1 y2 y3 z0 z1 z2 z3
        have HOD : Hid (oD = .cells #[.int .i64 kb, .int .i64 nb, .slice (some ⟨g6b, 0, none⟩) tb.length tb.length] 31) := eoD
        clear hb hb' hs eoD HA5 HB5 HX5 HBX5 HY5 HBY5 t0' t1' u0' u1' u2' u3' u4' u5' HOC hz5
        go_wp2_with fail
        rw [← HOD.out]
        refine Calls.mono (HIM.out _ _ _ _ _ HXv.out.1.toC.cin HXv.out.2.1.iin HYv.out.1.bin HPv.out.1.bin) ?_
        rintro e w6 ⟨pg, qg, cg, dg, M6, rfl, hoi, hoc, hq1, hq2, hb⟩
        obtain ⟨oG, eoG⟩ : ∃ o : Obj, o = .cells #[.slice pg Z.length cg, .slice qg T.length dg] 36 := ⟨_, rfl⟩
        have hb' : Below (v5.alloc oD).heap.size (v5.alloc oD) (w6.alloc oG) := Below.on hb (alloc_on _ _)
        have hs56 : v5.heap.size + 1 ≤ w6.heap.size := by have := hb.size; simp at this; omega
        rw [hzv] at hoi hq1
        have HA6 : Hid (Below W0.heap.size W0 (w6.alloc oG)) := Below.on HAv.out hb'
        have HB6 : Hid (Below w3.heap.size w3 (w6.alloc oG)) := Below.on HBv.out hb'
        have HX6 : Hid (OwnCU (w6.alloc oG) w3.heap.size M4 (some ⟨g4, 0, none⟩) xs.length xs.length xs ∧ OwnIU (w6.alloc oG) M4 w4.heap.size (some ⟨g5, 0, none⟩) tr.length tr.length tr) := ⟨HXv.out.1.below hb', HXv.out.2.on hb'⟩
        have HU6 : Hid (Box2 (w6.alloc oG) w4.heap.size (.slice (some ⟨g4, 0, none⟩) xs.length xs.length) (.slice (some ⟨g5, 0, none⟩) tr.length tr.length)) := HBXv.out.on hb'
        have HY6 : Hid (OwnTU (w6.alloc oG) (w4.heap.size + 1) w5.heap.size (some ⟨g6, 0, none⟩) t.length t.length t) := HYv.out.on hb'
        have HV6 : Hid (Box3 (w6.alloc oG) w5.heap.size (.int .i64 k) (.int .i64 n) (.slice (some ⟨g6, 0, none⟩) t.length t.length)) := HBYv.out.on hb'
        have HP6 : Hid (OwnTU (w6.alloc oG) (w5.heap.size + 1) v5.heap.size (some ⟨g6b, 0, none⟩) tb.length tb.length tb) := HPv.out.on hb'
        have HR6 : Hid (Box3 (w6.alloc oG) v5.heap.size (.int .i64 kb) (.int .i64 nb) (.slice (some ⟨g6b, 0, none⟩) tb.length tb.length)) := HBPv.out.on hb'
        have HG6 : Hid (OwnCU (w6.alloc oG) M6 w6.heap.size pg Z.length cg Z ∧ OwnIU (w6.alloc oG) (v5.heap.size + 1) M6 qg T.length dg T) := ⟨hoc.below (alloc_on _ _), hoi.on (alloc_on _ _)⟩
        have HH6 : Hid (Box2 (w6.alloc oG) w6.heap.size (.slice pg Z.length cg) (.slice qg T.length dg)) := by show Box2 _ _ _ _; rw [eoG]; exact Box2.of_block (t := 36) (heap_alloc_new _ _)
        clear x0 x1 x2 y0 y1 y2 y3 z0 z1 z2 z3
        obtain ⟨y0, y1, y2⟩ := HH6.out
        obtain ⟨z0, z1, z2⟩ := HW3.out.1.on HB6.out
        rw [eoG] at y0 y1 y2 z0 z1 z2
        have HOG : Hid (oG = .cells #[.slice pg Z.length cg, .slice qg T.length dg] 36) := eoG
        have hcc : (code != code) = false := by simp
        have hM41 : w3.heap.size ≤ M4 := HM4.out.1
        have hM42 : M4 ≤ w4.heap.size := HM4.out.2
        have hz03 : W0.heap.size ≤ w3.heap.size := HA3.out.size
        have hq1' : v5.heap.size + 1 ≤ M6 := hq1
        have hq2' : M6 ≤ w6.heap.size := hq2
        clear hb hb' hoi hoc hq1 hq2 eoG HAv HBv HXv HBXv HYv HBYv HPv HBPv HOD hzv
        go_wp2_with fail
        rw [← HOG.out]
        refine Calls.mono (eqStore_any pg qg pw qw cg dg cw dw Z T (w6.alloc oG) (by omega) (by omega) HG6.out.1.toC.cin HG6.out.2.1.iin (HW3.out.2.1.below HB6.out) (HW3.out.2.2.below HB6.out)) ?_
        rintro e w7 ⟨rfl, hb⟩
        clear y0 y1 y2 z0 z1 z2
        have HA7 : Hid (Below W0.heap.size W0 w7) := Below.on HA6.out hb
        have HB7 : Hid (Below w3.heap.size w3 w7) := Below.on HB6.out hb
        have HX7 : Hid (OwnCU w7 w3.heap.size M4 (some ⟨g4, 0, none⟩) xs.length xs.length xs ∧ OwnIU w7 M4 w4.heap.size (some ⟨g5, 0, none⟩) tr.length tr.length tr) := ⟨HX6.out.1.below hb, HX6.out.2.on hb⟩
        have HU7 : Hid (Box2 w7 w4.heap.size (.slice (some ⟨g4, 0, none⟩) xs.length xs.length) (.slice (some ⟨g5, 0, none⟩) tr.length tr.length)) := HU6.out.on hb
        have HY7 : Hid (OwnTU w7 (w4.heap.size + 1) w5.heap.size (some ⟨g6, 0, none⟩) t.length t.length t) := HY6.out.on hb
        have HV7 : Hid (Box3 w7 w5.heap.size (.int .i64 k) (.int .i64 n) (.slice (some ⟨g6, 0, none⟩) t.length t.length)) := HV6.out.on hb
        have HP7 : Hid (OwnTU w7 (w5.heap.size + 1) v5.heap.size (some ⟨g6b, 0, none⟩) tb.length tb.length tb) := HP6.out.on hb
        have HR7 : Hid (Box3 w7 v5.heap.size (.int .i64 kb) (.int .i64 nb) (.slice (some ⟨g6b, 0, none⟩) tb.length tb.length)) := HR6.out.on hb
        have HG7 : Hid (OwnCU w7 M6 w6.heap.size pg Z.length cg Z ∧ OwnIU w7 (v5.heap.size + 1) M6 qg T.length dg T) := ⟨HG6.out.1.below hb, HG6.out.2.on hb⟩
        have HH7 : Hid (Box2 w7 w6.heap.size (.slice pg Z.length cg) (.slice qg T.length dg)) := HH6.out.on hb
        have hsz7 : w6.heap.size + 1 ≤ w7.heap.size := Nat.le_trans (by simp) hb.size
        clear HA6 HB6 HX6 HU6 HY6 HV6 HP6 HR6 HG6 HH6 hb
        clear HOG HA3 HM4
        obtain ⟨⟨s0, s1⟩, b0, b1, b2, b3, b4, b5⟩ := HX.out _ HA7.out
        obtain ⟨x0, x1, x2⟩ := HU7.out
        go_wp2
        have HA7d : Hid (Below W0.heap.size W0 (w7.drewN 1)) := below_drewN HA7.out 1
        have HK7 : Hid (∀ W, Below w7.heap.size w7 W → ((W.cell? ⟨w.heap.size, 0, none⟩ = some (.slice p xs.length c1) ∧ W.cell? ⟨w.heap.size, 1, none⟩ = some (.slice q tr.length c2)) ∧ W.cell? ⟨w4.heap.size, 0, none⟩ = some (.slice (some ⟨g4, 0, none⟩) xs.length xs.length) ∧ W.cell? ⟨w4.heap.size, 1, none⟩ = some (.slice (some ⟨g5, 0, none⟩) tr.length tr.length)) ∧ (CIn W (some ⟨g4, 0, none⟩) xs ∧ IIn W (some ⟨g5, 0, none⟩) tr)) := fun W hW => ⟨⟨(HX.out _ (Below.on HA7.out hW)).1, (HU7.out.on hW).1, (HU7.out.on hW).2.1⟩, (HX7.out.1.below hW).toC.cin, (HX7.out.2.on hW).1.iin⟩
        go_region_held3 (fun W => ((W.cell? ⟨w.heap.size, 0, none⟩ = some (.slice p xs.length c1) ∧ W.cell? ⟨w.heap.size, 1, none⟩ = some (.slice q tr.length c2)) ∧ W.cell? ⟨w4.heap.size, 0, none⟩ = some (.slice (some ⟨g4, 0, none⟩) xs.length xs.length) ∧ W.cell? ⟨w4.heap.size, 1, none⟩ = some (.slice (some ⟨g5, 0, none⟩) tr.length tr.length))) (first | exact kk | go_keep)
          (first
            | (go_at_call 12; refine Calls.mono (HTS.out _ HA7d.out) ?_; rintro e w8 ⟨g7, g8, rfl, ⟨M, hc, hi, hM1, hM2⟩, hb⟩; have HQ8 : Hid (Below w7.heap.size w7 w8) := (below_drewN (Below.refl _ _) 1).trans hb; have HC8 : Hid (CIn w8 (some ⟨g7, 0, none⟩) xs ∧ IIn w8 (some ⟨g8, 0, none⟩) tr) := ⟨hc.toC.cin, hi.iin⟩; have kk := (HK7.out _ HQ8.out).1; clear hc hi hM1 hM2 hb)
            | (go_at_call 16; refine Calls.mono (eqStore_any (some ⟨g4, 0, none⟩) (some ⟨g5, 0, none⟩) (some ⟨g7, 0, none⟩) (some ⟨g8, 0, none⟩) xs.length tr.length xs.length tr.length xs tr w8 (by omega) (by omega) (HK7.out _ HQ8.out).2.1 (HK7.out _ HQ8.out).2.2 HC8.out.1 HC8.out.2) ?_; rintro e w9 ⟨rfl, hb⟩; have HQ9 : Hid (Below w7.heap.size w7 w9) := Below.on HQ8.out hb; have kk := (HK7.out _ HQ9.out).1; clear hb))
        rename_i hheld; clear hheld
        clear kk HK7 HA7d HQ8 HC8
        have hb : Below w7.heap.size w7 w9 := HQ9.out
        have HA9 : Hid (Below W0.heap.size W0 w9) := Below.on HA7.out hb
        have HB9 : Hid (Below w3.heap.size w3 w9) := Below.on HB7.out hb
        have HX9 : Hid (OwnCU w9 w3.heap.size M4 (some ⟨g4, 0, none⟩) xs.length xs.length xs ∧ OwnIU w9 M4 w4.heap.size (some ⟨g5, 0, none⟩) tr.length tr.length tr) := ⟨HX7.out.1.below hb, HX7.out.2.on hb⟩
        have HU9 : Hid (Box2 w9 w4.heap.size (.slice (some ⟨g4, 0, none⟩) xs.length xs.length) (.slice (some ⟨g5, 0, none⟩) tr.length tr.length)) := HU7.out.on hb
        have HY9 : Hid (OwnTU w9 (w4.heap.size + 1) w5.heap.size (some ⟨g6, 0, none⟩) t.length t.length t) := HY7.out.on hb
        have HV9 : Hid (Box3 w9 w5.heap.size (.int .i64 k) (.int .i64 n) (.slice (some ⟨g6, 0, none⟩) t.length t.length)) := HV7.out.on hb
        have HP9 : Hid (OwnTU w9 (w5.heap.size + 1) v5.heap.size (some ⟨g6b, 0, none⟩) tb.length tb.length tb) := HP7.out.on hb
        have HR9 : Hid (Box3 w9 v5.heap.size (.int .i64 kb) (.int .i64 nb) (.slice (some ⟨g6b, 0, none⟩) tb.length tb.length)) := HR7.out.on hb
        have HG9 : Hid (OwnCU w9 M6 w6.heap.size pg Z.length cg Z ∧ OwnIU w9 (v5.heap.size + 1) M6 qg T.length dg T) := ⟨HG7.out.1.below hb, HG7.out.2.on hb⟩
        have HH9 : Hid (Box2 w9 w6.heap.size (.slice pg Z.length cg) (.slice qg T.length dg)) := HH7.out.on hb
        have hsz9 : w6.heap.size + 1 ≤ w9.heap.size := Nat.le_trans hsz7 hb.size
        clear HA7 HB7 HX7 HU7 HY7 HV7 HP7 HR7 HG7 HH7 hb
        clear HQ9
        clear s0 s1 b0 b1 b2 b3 b4 b5 x0 x1 x2
        obtain ⟨⟨s0, s1⟩, b0, b1, b2, b3, b4, b5⟩ := HX.out _ HA9.out
        obtain ⟨v0, v1, v2, v3⟩ := HV9.out
        go_wp2
        have HA9d : Hid (Below W0.heap.size W0 (w9.drewN 1)) := below_drewN HA9.out 1
        have HK9 : Hid (∀ W, Below w9.heap.size w9 W → ((W.cell? ⟨w.heap.size + 1, 0, none⟩ = some (.int .i64 k) ∧ W.cell? ⟨w.heap.size + 1, 1, none⟩ = some (.int .i64 n) ∧ W.cell? ⟨w.heap.size + 1, 2, none⟩ = some (.slice pt t.length cap)) ∧ W.cell? ⟨w5.heap.size, 0, none⟩ = some (.int .i64 k) ∧ W.cell? ⟨w5.heap.size, 1, none⟩ = some (.int .i64 n) ∧ W.cell? ⟨w5.heap.size, 2, none⟩ = some (.slice (some ⟨g6, 0, none⟩) t.length t.length)) ∧ BIn W (some ⟨g6, 0, none⟩) t) := fun W hW => ⟨⟨⟨(HX.out _ (Below.on HA9.out hW)).2.1, (HX.out _ (Below.on HA9.out hW)).2.2.1, (HX.out _ (Below.on HA9.out hW)).2.2.2.1⟩, (HV9.out.on hW).1, (HV9.out.on hW).2.1, (HV9.out.on hW).2.2.1⟩, (HY9.out.on hW).1.bin⟩
        go_region_held3 (fun W => ((W.cell? ⟨w.heap.size + 1, 0, none⟩ = some (.int .i64 k) ∧ W.cell? ⟨w.heap.size + 1, 1, none⟩ = some (.int .i64 n) ∧ W.cell? ⟨w.heap.size + 1, 2, none⟩ = some (.slice pt t.length cap)) ∧ W.cell? ⟨w5.heap.size, 0, none⟩ = some (.int .i64 k) ∧ W.cell? ⟨w5.heap.size, 1, none⟩ = some (.int .i64 n) ∧ W.cell? ⟨w5.heap.size, 2, none⟩ = some (.slice (some ⟨g6, 0, none⟩) t.length t.length))) (first | exact kk | go_keep)
          (first
            | (go_at_call 13; refine Calls.mono (HTC.out _ HA9d.out) ?_; rintro e w10 ⟨g9, rfl, hs, hb⟩; have HQ10 : Hid (Below w9.heap.size w9 w10) := (below_drewN (Below.refl _ _) 1).trans hb; have HC10 : Hid (BIn w10 (some ⟨g9, 0, none⟩) t) := hs.toT.bin; have kk := (HK9.out _ HQ10.out).1; clear hs hb)
            | (go_at_call 15; have HQ := eqCell_any k n k n (some ⟨g6, 0, none⟩) (some ⟨g9, 0, none⟩) t.length t.length t.length t.length t t w10 rfl rfl (by omega) (by omega) (HK9.out _ HQ10.out).2 HC10.out; rw [decide_eq_true (rfl : ((k, n, t) : Cel) = (k, n, t))] at HQ; refine Calls.mono HQ ?_; clear HQ; rintro e w11 ⟨rfl, hb⟩; have HQ11 : Hid (Below w9.heap.size w9 w11) := Below.on HQ10.out hb; have kk := (HK9.out _ HQ11.out).1; clear hb))
        rename_i hheld; clear hheld
        clear kk HK9 HA9d HQ10 HC10
        have hb : Below w9.heap.size w9 w11 := HQ11.out
        have HA11 : Hid (Below W0.heap.size W0 w11) := Below.on HA9.out hb
        have HB11 : Hid (Below w3.heap.size w3 w11) := Below.on HB9.out hb
        have HX11 : Hid (OwnCU w11 w3.heap.size M4 (some ⟨g4, 0, none⟩) xs.length xs.length xs ∧ OwnIU w11 M4 w4.heap.size (some ⟨g5, 0, none⟩) tr.length tr.length tr) := ⟨HX9.out.1.below hb, HX9.out.2.on hb⟩
        have HU11 : Hid (Box2 w11 w4.heap.size (.slice (some ⟨g4, 0, none⟩) xs.length xs.length) (.slice (some ⟨g5, 0, none⟩) tr.length tr.length)) := HU9.out.on hb
        have HY11 : Hid (OwnTU w11 (w4.heap.size + 1) w5.heap.size (some ⟨g6, 0, none⟩) t.length t.length t) := HY9.out.on hb
        have HV11 : Hid (Box3 w11 w5.heap.size (.int .i64 k) (.int .i64 n) (.slice (some ⟨g6, 0, none⟩) t.length t.length)) := HV9.out.on hb
        have HP11 : Hid (OwnTU w11 (w5.heap.size + 1) v5.heap.size (some ⟨g6b, 0, none⟩) tb.length tb.length tb) := HP9.out.on hb
        have HR11 : Hid (Box3 w11 v5.heap.size (.int .i64 kb) (.int .i64 nb) (.slice (some ⟨g6b, 0, none⟩) tb.length tb.length)) := HR9.out.on hb
        have HG11 : Hid (OwnCU w11 M6 w6.heap.size pg Z.length cg Z ∧ OwnIU w11 (v5.heap.size + 1) M6 qg T.length dg T) := ⟨HG9.out.1.below hb, HG9.out.2.on hb⟩
        have HH11 : Hid (Box2 w11 w6.heap.size (.slice pg Z.length cg) (.slice qg T.length dg)) := HH9.out.on hb
        have hsz11 : w6.heap.size + 1 ≤ w11.heap.size := Nat.le_trans hsz9 hb.size
        clear HA9 HB9 HX9 HU9 HY9 HV9 HP9 HR9 HG9 HH9 hb
        clear HQ11
        clear s0 s1 b0 b1 b2 b3 b4 b5 v0 v1 v2 v3
        obtain ⟨⟨s0, s1⟩, b0, b1, b2, b3, b4, b5⟩ := HX.out _ HA11.out
        obtain ⟨v0, v1, v2, v3⟩ := HR11.out
        go_wp2
        have HA11d : Hid (Below W0.heap.size W0 (w11.drewN 1)) := below_drewN HA11.out 1
        have HK11 : Hid (∀ W, Below w11.heap.size w11 W → ((W.cell? ⟨w.heap.size + 1 + 1, 0, none⟩ = some (.int .i64 kb) ∧ W.cell? ⟨w.heap.size + 1 + 1, 1, none⟩ = some (.int .i64 nb) ∧ W.cell? ⟨w.heap.size + 1 + 1, 2, none⟩ = some (.slice pb tb.length capb)) ∧ W.cell? ⟨v5.heap.size, 0, none⟩ = some (.int .i64 kb) ∧ W.cell? ⟨v5.heap.size, 1, none⟩ = some (.int .i64 nb) ∧ W.cell? ⟨v5.heap.size, 2, none⟩ = some (.slice (some ⟨g6b, 0, none⟩) tb.length tb.length)) ∧ BIn W (some ⟨g6b, 0, none⟩) tb) := fun W hW => ⟨⟨(HX.out _ (Below.on HA11.out hW)).2.2.2.2, (HR11.out.on hW).1, (HR11.out.on hW).2.1, (HR11.out.on hW).2.2.1⟩, (HP11.out.on hW).1.bin⟩
        go_region_held3 (fun W => ((W.cell? ⟨w.heap.size + 1 + 1, 0, none⟩ = some (.int .i64 kb) ∧ W.cell? ⟨w.heap.size + 1 + 1, 1, none⟩ = some (.int .i64 nb) ∧ W.cell? ⟨w.heap.size + 1 + 1, 2, none⟩ = some (.slice pb tb.length capb)) ∧ W.cell? ⟨v5.heap.size, 0, none⟩ = some (.int .i64 kb) ∧ W.cell? ⟨v5.heap.size, 1, none⟩ = some (.int .i64 nb) ∧ W.cell? ⟨v5.heap.size, 2, none⟩ = some (.slice (some ⟨g6b, 0, none⟩) tb.length tb.length))) (first | exact kk | go_keep)
          (first
            | (go_at_call 13; refine Calls.mono (HTD.out _ HA11d.out) ?_; rintro e w10 ⟨g9, rfl, hs, hb⟩; have HQ10 : Hid (Below w11.heap.size w11 w10) := (below_drewN (Below.refl _ _) 1).trans hb; have HC10 : Hid (BIn w10 (some ⟨g9, 0, none⟩) tb) := hs.toT.bin; have kk := (HK11.out _ HQ10.out).1; clear hs hb)
            | (go_at_call 15; have HQ := eqCell_any kb nb kb nb (some ⟨g6b, 0, none⟩) (some ⟨g9, 0, none⟩) tb.length tb.length tb.length tb.length tb tb w10 rfl rfl (by omega) (by omega) (HK11.out _ HQ10.out).2 HC10.out; rw [decide_eq_true (rfl : ((kb, nb, tb) : Cel) = (kb, nb, tb))] at HQ; refine Calls.mono HQ ?_; clear HQ; rintro e w21 ⟨rfl, hb⟩; have HQ11 : Hid (Below w11.heap.size w11 w21) := Below.on HQ10.out hb; have kk := (HK11.out _ HQ11.out).1; clear hb))
        rename_i hheld; clear hheld
        clear kk HK11 HA11d HQ10 HC10
        have hb : Below w11.heap.size w11 w21 := HQ11.out
        have HA21 : Hid (Below W0.heap.size W0 w21) := Below.on HA11.out hb
        have HB21 : Hid (Below w3.heap.size w3 w21) := Below.on HB11.out hb
        have HX21 : Hid (OwnCU w21 w3.heap.size M4 (some ⟨g4, 0, none⟩) xs.length xs.length xs ∧ OwnIU w21 M4 w4.heap.size (some ⟨g5, 0, none⟩) tr.length tr.length tr) := ⟨HX11.out.1.below hb, HX11.out.2.on hb⟩
        have HU21 : Hid (Box2 w21 w4.heap.size (.slice (some ⟨g4, 0, none⟩) xs.length xs.length) (.slice (some ⟨g5, 0, none⟩) tr.length tr.length)) := HU11.out.on hb
        have HY21 : Hid (OwnTU w21 (w4.heap.size + 1) w5.heap.size (some ⟨g6, 0, none⟩) t.length t.length t) := HY11.out.on hb
        have HV21 : Hid (Box3 w21 w5.heap.size (.int .i64 k) (.int .i64 n) (.slice (some ⟨g6, 0, none⟩) t.length t.length)) := HV11.out.on hb
        have HP21 : Hid (OwnTU w21 (w5.heap.size + 1) v5.heap.size (some ⟨g6b, 0, none⟩) tb.length tb.length tb) := HP11.out.on hb
        have HR21 : Hid (Box3 w21 v5.heap.size (.int .i64 kb) (.int .i64 nb) (.slice (some ⟨g6b, 0, none⟩) tb.length tb.length)) := HR11.out.on hb
        have HG21 : Hid (OwnCU w21 M6 w6.heap.size pg Z.length cg Z ∧ OwnIU w21 (v5.heap.size + 1) M6 qg T.length dg T) := ⟨HG11.out.1.below hb, HG11.out.2.on hb⟩
        have HH21 : Hid (Box2 w21 w6.heap.size (.slice pg Z.length cg) (.slice qg T.length dg)) := HH11.out.on hb
        have hsz21 : w6.heap.size + 1 ≤ w21.heap.size := Nat.le_trans hsz11 hb.size
        clear HA11 HB11 HX11 HU11 HY11 HV11 HP11 HR11 HG11 HH11 hb
        clear HQ11
        clear s0 s1 b0 b1 b2 b3 b4 b5 v0 v1 v2 v3
        obtain ⟨x0, x1, x2⟩ := HU21.out
        go_wp2_with fail
        refine Calls.mono (markStore_any w3.heap.size M4 w4.heap.size (some ⟨g4, 0, none⟩) (some ⟨g5, 0, none⟩) xs.length tr.length xs.length tr.length 1 xs tr w21 (by decide) (by decide) (by omega) (by omega) hM41 hM42 (by omega) HX21.out.2.2 HX21.out.1 HX21.out.2.1) ?_
        rintro e w12 ⟨rfl, _, hk⟩
        clear x0 x1 x2
        have HA12 : Hid (Below W0.heap.size W0 w12) := HA21.out.trans (hk.below (by omega) HA21.out.size)
        have HB12 : Hid (Below w3.heap.size w3 w12) := HB21.out.trans (hk.below (by omega) HB21.out.size)
        have HU12 : Hid (Box2 w12 w4.heap.size (.slice (some ⟨g4, 0, none⟩) xs.length xs.length) (.slice (some ⟨g5, 0, none⟩) tr.length tr.length)) := HU21.out.keep hk (by omega)
        have HY12 : Hid (OwnTU w12 (w4.heap.size + 1) w5.heap.size (some ⟨g6, 0, none⟩) t.length t.length t) := HY21.out.keep hk (by omega)
        have HV12 : Hid (Box3 w12 w5.heap.size (.int .i64 k) (.int .i64 n) (.slice (some ⟨g6, 0, none⟩) t.length t.length)) := HV21.out.keep hk (by omega)
        have HP12 : Hid (OwnTU w12 (w5.heap.size + 1) v5.heap.size (some ⟨g6b, 0, none⟩) tb.length tb.length tb) := HP21.out.keep hk (by omega)
        have HR12 : Hid (Box3 w12 v5.heap.size (.int .i64 kb) (.int .i64 nb) (.slice (some ⟨g6b, 0, none⟩) tb.length tb.length)) := HR21.out.keep hk (by omega)
        have HG12 : Hid (OwnCU w12 M6 w6.heap.size pg Z.length cg Z ∧ OwnIU w12 (v5.heap.size + 1) M6 qg T.length dg T) := ⟨HG21.out.1.keep hk (by omega), HG21.out.2.keep hk (by omega)⟩
        have HH12 : Hid (Box2 w12 w6.heap.size (.slice pg Z.length cg) (.slice qg T.length dg)) := HH21.out.keep hk (by omega)
        have hsz12 : w6.heap.size + 1 ≤ w12.heap.size := Nat.le_trans hsz21 hk.size
        clear HA21 HB21 HU21 HY21 HV21 HP21 HR21 HG21 HH21 HX21 hk
        obtain ⟨k1, ek1⟩ : ∃ k1, k1 = endC 1 xs + (tr.length : Int) := ⟨_, rfl⟩
        have hk1 : 0 ≤ k1 ∧ k1 ≤ 10000000 := by rw [ek1, endC_eqM]; omega
        rw [← ek1]
        clear ek1
        obtain ⟨v0, v1, v2, v3⟩ := HV12.out
        go_wp2_with fail
        refine Calls.mono (markCell_any (w4.heap.size + 1) w5.heap.size k n (some ⟨g6, 0, none⟩) t.length t.length k1 t w12 hk1.1 (by omega) (by omega) HY12.out.2 HY12.out.1) ?_
        rintro e w13 ⟨rfl, _, hk⟩
        clear v0 v1 v2 v3
        have HA13 : Hid (Below W0.heap.size W0 w13) := HA12.out.trans (hk.below (by omega) HA12.out.size)
        have HB13 : Hid (Below w3.heap.size w3 w13) := HB12.out.trans (hk.below (by omega) HB12.out.size)
        have HU13 : Hid (Box2 w13 w4.heap.size (.slice (some ⟨g4, 0, none⟩) xs.length xs.length) (.slice (some ⟨g5, 0, none⟩) tr.length tr.length)) := HU12.out.keep hk (by omega)
        have HV13 : Hid (Box3 w13 w5.heap.size (.int .i64 k) (.int .i64 n) (.slice (some ⟨g6, 0, none⟩) t.length t.length)) := HV12.out.keep hk (by omega)
        have HP13 : Hid (OwnTU w13 (w5.heap.size + 1) v5.heap.size (some ⟨g6b, 0, none⟩) tb.length tb.length tb) := HP12.out.keep hk (by omega)
        have HR13 : Hid (Box3 w13 v5.heap.size (.int .i64 kb) (.int .i64 nb) (.slice (some ⟨g6b, 0, none⟩) tb.length tb.length)) := HR12.out.keep hk (by omega)
        have HG13 : Hid (OwnCU w13 M6 w6.heap.size pg Z.length cg Z ∧ OwnIU w13 (v5.heap.size + 1) M6 qg T.length dg T) := ⟨HG12.out.1.keep hk (by omega), HG12.out.2.keep hk (by omega)⟩
        have HH13 : Hid (Box2 w13 w6.heap.size (.slice pg Z.length cg) (.slice qg T.length dg)) := HH12.out.keep hk (by omega)
        have hsz13 : w6.heap.size + 1 ≤ w13.heap.size := Nat.le_trans hsz12 hk.size
        clear HA12 HB12 HU12 HV12 HP12 HR12 HG12 HH12 HY12 hk
        obtain ⟨k2, ek2⟩ : ∃ k2, k2 = k1 + (t.length : Int) := ⟨_, rfl⟩
        have hk2 : 0 ≤ k2 ∧ k2 ≤ 20000000 := by omega
        rw [← ek2]
        clear ek2
        obtain ⟨v0, v1, v2, v3⟩ := HR13.out
        go_wp2_with fail
        refine Calls.mono (markCell_any (w5.heap.size + 1) v5.heap.size kb nb (some ⟨g6b, 0, none⟩) tb.length tb.length k2 tb w13 hk2.1 (by omega) (by omega) HP13.out.2 HP13.out.1) ?_
        rintro e w22 ⟨rfl, _, hk⟩
        clear v0 v1 v2 v3
        have HA22 : Hid (Below W0.heap.size W0 w22) := HA13.out.trans (hk.below (by omega) HA13.out.size)
        have HB22 : Hid (Below w3.heap.size w3 w22) := HB13.out.trans (hk.below (by omega) HB13.out.size)
        have HU22 : Hid (Box2 w22 w4.heap.size (.slice (some ⟨g4, 0, none⟩) xs.length xs.length) (.slice (some ⟨g5, 0, none⟩) tr.length tr.length)) := HU13.out.keep hk (by omega)
        have HV22 : Hid (Box3 w22 w5.heap.size (.int .i64 k) (.int .i64 n) (.slice (some ⟨g6, 0, none⟩) t.length t.length)) := HV13.out.keep hk (by omega)
        have HR22 : Hid (Box3 w22 v5.heap.size (.int .i64 kb) (.int .i64 nb) (.slice (some ⟨g6b, 0, none⟩) tb.length tb.length)) := HR13.out.keep hk (by omega)
        have HG22 : Hid (OwnCU w22 M6 w6.heap.size pg Z.length cg Z ∧ OwnIU w22 (v5.heap.size + 1) M6 qg T.length dg T) := ⟨HG13.out.1.keep hk (by omega), HG13.out.2.keep hk (by omega)⟩
        have HH22 : Hid (Box2 w22 w6.heap.size (.slice pg Z.length cg) (.slice qg T.length dg)) := HH13.out.keep hk (by omega)
        have hsz22 : w6.heap.size + 1 ≤ w22.heap.size := Nat.le_trans hsz13 hk.size
        clear HA13 HB13 HU13 HV13 HR13 HG13 HH13 HP13 hk
        obtain ⟨k3, ek3⟩ : ∃ k3, k3 = k2 + (tb.length : Int) := ⟨_, rfl⟩
        have hk3 : ¬ k3 < 0 := by omega
        rw [← ek3]
        clear ek3
        obtain ⟨y0, y1, y2⟩ := HH22.out
        obtain ⟨z0, z1, z2⟩ := HW3.out.1.on HB22.out
        go_wp2_with fail
        refine Calls.mono (eqStore_any pg qg pw qw cg dg cw dw Z T w22 (by omega) (by omega) HG22.out.1.toC.cin HG22.out.2.1.iin (HW3.out.2.1.below HB22.out) (HW3.out.2.2.below HB22.out)) ?_
        rintro e w14 ⟨rfl, hb⟩
        clear y0 y1 y2 z0 z1 z2
        have HA14 : Hid (Below W0.heap.size W0 w14) := Below.on HA22.out hb
        have HB14 : Hid (Below w3.heap.size w3 w14) := Below.on HB22.out hb
        have HU14 : Hid (Box2 w14 w4.heap.size (.slice (some ⟨g4, 0, none⟩) xs.length xs.length) (.slice (some ⟨g5, 0, none⟩) tr.length tr.length)) := HU22.out.on hb
        have HV14 : Hid (Box3 w14 w5.heap.size (.int .i64 k) (.int .i64 n) (.slice (some ⟨g6, 0, none⟩) t.length t.length)) := HV22.out.on hb
        have HR14 : Hid (Box3 w14 v5.heap.size (.int .i64 kb) (.int .i64 nb) (.slice (some ⟨g6b, 0, none⟩) tb.length tb.length)) := HR22.out.on hb
        have HG14 : Hid (OwnCU w14 M6 w6.heap.size pg Z.length cg Z ∧ OwnIU w14 (v5.heap.size + 1) M6 qg T.length dg T) := ⟨HG22.out.1.below hb, HG22.out.2.on hb⟩
        have HH14 : Hid (Box2 w14 w6.heap.size (.slice pg Z.length cg) (.slice qg T.length dg)) := HH22.out.on hb
        have hsz14 : w6.heap.size + 1 ≤ w14.heap.size := Nat.le_trans hsz22 hb.size
        clear HA22 HB22 HU22 HV22 HR22 HG22 HH22 hb
        obtain ⟨y0, y1, y2⟩ := HH14.out
        go_wp2_with fail
        refine Calls.mono (markStoreT_any (v5.heap.size + 1) M6 w6.heap.size pg qg Z.length T.length cg dg 1 Z T w14 (by decide) (by decide) (by omega) (by omega) hq1' hq2' (by omega) HG14.out.1 HG14.out.2) ?_
        rintro e w15 ⟨rfl, ho, hk⟩
        clear y0 y1 y2
        have HZ15 : Hid (CIn w15 pg (markC 1 Z) ∧ IIn w15 qg (ups (endC 1 Z) T.length)) := ho
        clear ho
        have HA15 : Hid (Below W0.heap.size W0 w15) := HA14.out.trans (hk.below (by omega) HA14.out.size)
        have HB15 : Hid (Below w3.heap.size w3 w15) := HB14.out.trans (hk.below (by omega) HB14.out.size)
        have HU15 : Hid (Box2 w15 w4.heap.size (.slice (some ⟨g4, 0, none⟩) xs.length xs.length) (.slice (some ⟨g5, 0, none⟩) tr.length tr.length)) := HU14.out.keep hk (by omega)
        have HV15 : Hid (Box3 w15 w5.heap.size (.int .i64 k) (.int .i64 n) (.slice (some ⟨g6, 0, none⟩) t.length t.length)) := HV14.out.keep hk (by omega)
        have HR15 : Hid (Box3 w15 v5.heap.size (.int .i64 kb) (.int .i64 nb) (.slice (some ⟨g6b, 0, none⟩) tb.length tb.length)) := HR14.out.keep hk (by omega)
        have HH15 : Hid (Box2 w15 w6.heap.size (.slice pg Z.length cg) (.slice qg T.length dg)) := HH14.out.keep hk (by omega)
        have hsz15 : w6.heap.size + 1 ≤ w15.heap.size := Nat.le_trans hsz14 hk.size
        clear HA14 HB14 HU14 HV14 HR14 HH14 HG14 hk
        obtain ⟨mm, emm⟩ : ∃ m : Int, m = endC 1 Z + (T.length : Int) := ⟨_, rfl⟩
        have hmm : ¬ mm < 0 := by rw [emm, endC_eqM]; omega
        have HMM : Hid (mm = endC 1 Z + (T.length : Int)) := emm
        rw [← emm]
        clear emm
        have hmq : (mm != mm) = false := by simp
        obtain ⟨y0, y1, y2⟩ := HH15.out
        go_wp2_with fail
        refine Calls.mono (heldStore_any pg qg Z.length T.length cg dg 1 Z w15 (by decide) (by decide) (by omega) (by omega) rfl HZ15.out.1 HZ15.out.2) ?_
        rintro e w16 ⟨rfl, hb⟩
        rw [← HMM.out]
        clear y0 y1 y2
        have HA16 : Hid (Below W0.heap.size W0 w16) := Below.on HA15.out hb
        have HB16 : Hid (Below w3.heap.size w3 w16) := Below.on HB15.out hb
        have HU16 : Hid (Box2 w16 w4.heap.size (.slice (some ⟨g4, 0, none⟩) xs.length xs.length) (.slice (some ⟨g5, 0, none⟩) tr.length tr.length)) := HU15.out.on hb
        have HV16 : Hid (Box3 w16 w5.heap.size (.int .i64 k) (.int .i64 n) (.slice (some ⟨g6, 0, none⟩) t.length t.length)) := HV15.out.on hb
        have HR16 : Hid (Box3 w16 v5.heap.size (.int .i64 kb) (.int .i64 nb) (.slice (some ⟨g6b, 0, none⟩) tb.length tb.length)) := HR15.out.on hb
        have HH16 : Hid (Box2 w16 w6.heap.size (.slice pg Z.length cg) (.slice qg T.length dg)) := HH15.out.on hb
        have HZ16 : Hid (CIn w16 pg (markC 1 Z) ∧ IIn w16 qg (ups (endC 1 Z) T.length)) := ⟨HZ15.out.1.below hb, HZ15.out.2.below hb⟩
        have hsz16 : w6.heap.size + 1 ≤ w16.heap.size := Nat.le_trans hsz15 hb.size
        clear HA15 HB15 HU15 HV15 HR15 HH15 HZ15 hb
        obtain ⟨⟨s0, s1⟩, b0, b1, b2, b3, b4, b5⟩ := HX.out _ HA16.out
        have hge16 : w.heap.size + 1 + 1 + 1 ≤ w16.heap.size := by have := HA16.out.size; have h2 := HZ0.out; omega
        go_wp2
        have HD0 : Hid (Below W0.heap.size W0 (w16.drewN 1)) := below_drewN HA16.out 1
        have hwz : W0.heap.size ≤ w16.heap.size := HA16.out.size
        apply joinN10 (F := fun (W : World) (b g1 g2 g3 g3b : Nat) (pp qq : Option Addr) (cc dd : Nat) => Box2 W b (.slice pp Z.length cc) (.slice qq T.length dd) ∧ Below W0.heap.size W0 W ∧ (CIn W pp Z ∧ IIn W qq T) ∧ w16.heap.size ≤ b ∧ Below w16.heap.size w16 W)
        · intro KEY
          have HTC1 := hid HTC.out
          go_region_held3 (fun W => (W.cell? ⟨w.heap.size, 0, none⟩ = some (.slice p xs.length c1) ∧ W.cell? ⟨w.heap.size, 1, none⟩ = some (.slice q tr.length c2)) ∧ W.cell? ⟨w.heap.size + 1, 0, none⟩ = some (.int .i64 k) ∧ W.cell? ⟨w.heap.size + 1, 1, none⟩ = some (.int .i64 n) ∧ W.cell? ⟨w.heap.size + 1, 2, none⟩ = some (.slice pt t.length cap) ∧ W.cell? ⟨w.heap.size + 1 + 1, 0, none⟩ = some (.int .i64 kb) ∧ W.cell? ⟨w.heap.size + 1 + 1, 1, none⟩ = some (.int .i64 nb) ∧ W.cell? ⟨w.heap.size + 1 + 1, 2, none⟩ = some (.slice pb tb.length capb)) (first | exact kk | go_keep | ((try dsimp only); (repeat' apply And.intro) <;> first | go_keep | ((repeat rw [World.cell?_setCell_other _ _ _ _ (by simp <;> omega)]) <;> (first | exact kk.1.1 | exact kk.1.2 | exact kk.2.1 | exact kk.2.2.1 | exact kk.2.2.2.1 | exact kk.2.2.2.2.1 | exact kk.2.2.2.2.2.1 | exact kk.2.2.2.2.2.2))))
            (first
              | (go_at_call 12; refine Calls.mono (HTS.out _ (by first | exact HD0.out | exact HD0.out.alloc HD0.out.size _)) ?_; rintro e w16a ⟨g1, g2, rfl, ⟨M, hc, hi, hM1, hM2⟩, hb⟩; have hbn : Below (w16.drewN 1).heap.size (w16.drewN 1) w16a := (by first | exact hb | exact Below.on (alloc_on _ _) hb); have hle_w16a : w16.heap.size ≤ w16a.heap.size := Nat.le_trans (by simp) hbn.size; have HD1 : Hid (Below W0.heap.size W0 w16a) := Below.on HD0.out hbn; have HQ1 : Hid (Below w16.heap.size w16 w16a) := (below_drewN (Below.refl _ _) 1).trans hbn; have HC1 : Hid (CIn w16a (some ⟨g1, 0, none⟩) xs) := hc.toC.cin; have HI1 : Hid (IIn w16a (some ⟨g2, 0, none⟩) tr) := hi.iin; have kk := HX.out _ HD1.out; clear hc hi hM1 hM2; (first | (have HZ2 := hid (Box2.on HZ.out hbn); clear HZ; have HZ := HZ2; clear HZ2) | (have HZ : Hid (Box2 w16a w16.heap.size (.slice none 0 0) (.slice none 0 0)) := Box2.of_block (t := 36) ((hb.block w16.heap.size (by simp)).trans (heap_alloc_new (w16.drewN 1) _))) | skip); (first | (have hzl_w16a := HZ.out.lt) | skip); clear hb hbn)
              | (go_at_call 13; refine Calls.mono (HTC1.out _ (by first | exact HD1.out | exact HD1.out.alloc HD1.out.size _)) ?_; rintro e w16b ⟨g3, rfl, hs, hb⟩; have hbn : Below w16a.heap.size w16a w16b := (by first | exact hb | exact Below.on (alloc_on _ _) hb); have hle_w16b : w16a.heap.size ≤ w16b.heap.size := hbn.size; have HD2 : Hid (Below W0.heap.size W0 w16b) := Below.on HD1.out hbn; have HQ2 : Hid (Below w16.heap.size w16 w16b) := Below.on HQ1.out hbn; have HC2 : Hid (CIn w16b (some ⟨g1, 0, none⟩) xs) := HC1.out.below hbn; have HI2 : Hid (IIn w16b (some ⟨g2, 0, none⟩) tr) := HI1.out.below hbn; have HT2 : Hid (BIn w16b (some ⟨g3, 0, none⟩) t) := hs.toT.bin; have kk := HX.out _ HD2.out; clear hs HTC1; (first | (have HZ2 := hid (Box2.on HZ.out hbn); clear HZ; have HZ := HZ2; clear HZ2) | (have HZ : Hid (Box2 w16b w16a.heap.size (.slice none 0 0) (.slice none 0 0)) := Box2.of_block (t := 36) ((hb.block w16a.heap.size (by simp)).trans (heap_alloc_new w16a _))) | skip); (first | (have hzl_w16b := HZ.out.lt) | skip); clear hb hbn)
              | (go_at_call 13; refine Calls.mono (HTD.out _ (by first | exact HD2.out | exact HD2.out.alloc HD2.out.size _)) ?_; rintro e w16c ⟨g3b, rfl, hs, hb⟩; have hbn : Below w16b.heap.size w16b w16c := (by first | exact hb | exact Below.on (alloc_on _ _) hb); have hle_w16c : w16b.heap.size ≤ w16c.heap.size := hbn.size; have HD3 : Hid (Below W0.heap.size W0 w16c) := Below.on HD2.out hbn; have HQ3 : Hid (Below w16.heap.size w16 w16c) := Below.on HQ2.out hbn; have HC3 : Hid (CIn w16c (some ⟨g1, 0, none⟩) xs) := HC2.out.below hbn; have HI3 : Hid (IIn w16c (some ⟨g2, 0, none⟩) tr) := HI2.out.below hbn; have HT3 : Hid (BIn w16c (some ⟨g3, 0, none⟩) t) := HT2.out.below hbn; have HV3 : Hid (BIn w16c (some ⟨g3b, 0, none⟩) tb) := hs.toT.bin; have kk := HX.out _ HD3.out; clear hs; (first | (have HZ2 := hid (Box2.on HZ.out hbn); clear HZ; have HZ := HZ2; clear HZ2) | (have HZ : Hid (Box2 w16c w16b.heap.size (.slice none 0 0) (.slice none 0 0)) := Box2.of_block (t := 36) ((hb.block w16b.heap.size (by simp)).trans (heap_alloc_new w16b _))) | skip); (first | (have hzl_w16c := HZ.out.lt) | skip); clear hb hbn)
              | (go_at_call 31; refine Calls.mono (HIM.out _ _ _ _ _ (by first | exact HC3.out | exact HC3.out.below (alloc_on _ _)) (by first | exact HI3.out | exact HI3.out.below (alloc_on _ _)) (by first | exact HT3.out | exact HT3.out.below (alloc_on _ _)) (by first | exact HV3.out | exact HV3.out.below (alloc_on _ _))) ?_; rintro e w16d ⟨pp, qq, cc, dd, M9, rfl, hbi, hbc, hq3, hq4, hb⟩; have hbn : Below w16c.heap.size w16c w16d := (by first | exact hb | exact Below.on (alloc_on _ _) hb); have hle_w16d : w16c.heap.size ≤ w16d.heap.size := hbn.size; have HD4 : Hid (Below W0.heap.size W0 w16d) := Below.on HD3.out hbn; have HQ4 : Hid (Below w16.heap.size w16 w16d) := Below.on HQ3.out hbn; have HBP := hid (And.intro (hbc.toC.mono hq3) hbi.1); clear hbc hbi hq3 hq4; have kk := HX.out _ HD4.out; (first | (have HZ2 := hid (Box2.on HZ.out hbn); clear HZ; have HZ := HZ2; clear HZ2) | (have HZ : Hid (Box2 w16d w16c.heap.size (.slice none 0 0) (.slice none 0 0)) := Box2.of_block (t := 36) ((hb.block w16c.heap.size (by simp)).trans (heap_alloc_new w16c _))) | skip); (first | (have hzl_w16d := HZ.out.lt) | skip); (first | (obtain ⟨z0, z1, z2⟩ := HZ.out) | skip); clear hb hbn))
          · have hF : Box2 (w16d.alloc (.cells #[.slice pp Z.length cc, .slice qq T.length dd] 36)) w16d.heap.size (.slice pp Z.length cc) (.slice qq T.length dd) ∧ Below W0.heap.size W0 (w16d.alloc (.cells #[.slice pp Z.length cc, .slice qq T.length dd] 36)) ∧ (CIn (w16d.alloc (.cells #[.slice pp Z.length cc, .slice qq T.length dd] 36)) pp Z ∧ IIn (w16d.alloc (.cells #[.slice pp Z.length cc, .slice qq T.length dd] 36)) qq T) ∧ w16.heap.size ≤ w16d.heap.size ∧ Below w16.heap.size w16 (w16d.alloc (.cells #[.slice pp Z.length cc, .slice qq T.length dd] 36)) :=
              ⟨Box2.of_block (t := 36) (heap_alloc_new _ _), HD4.out.alloc HD4.out.size _, ⟨HBP.out.1.cin.below (alloc_on _ _), HBP.out.2.iin.below (alloc_on _ _)⟩, by omega, HQ4.out.alloc (by omega) _⟩
            clear kk
            revert hF
            generalize (w16d.alloc (.cells #[.slice pp Z.length cc, .slice qq T.length dd] 36)) = W
            generalize w16d.heap.size = b
            intro hF
            exact KEY.out W b g1 g2 g3 g3b pp qq cc dd hF
          all_goals exact KEY.out _ _ g1 g2 g3 g3b pp qq cc dd ⟨HZ.out.put _ _, below_put2 HD4.out (by omega) _ _, ⟨((HBP.out.1.set (by first | (simp; done) | (simp; omega)) _).set (by first | (simp; done) | (simp; omega)) _).cin, ((HBP.out.2.set (by first | (simp; done) | (simp; omega)) _).set (by first | (simp; done) | (simp; omega)) _).iin⟩, by omega, below_put2 HQ4.out (by omega) _ _⟩
        · intro w17 bh g11 g12 g13 g13b ph qh ch dh hF
          obtain ⟨hF1, hF2, hF3, hF4, hb⟩ := hF
          have HP17 : Hid (Box2 w17 bh (.slice ph Z.length ch) (.slice qh T.length dh) ∧ CIn w17 ph Z ∧ IIn w17 qh T) := ⟨hF1, hF3⟩
          clear hF1 hF2 hF3 hF4 HD0 hwz hge16
          clear s0 s1 b0 b1 b2 b3 b4 b5
          have HA17 : Hid (Below W0.heap.size W0 w17) := Below.on HA16.out hb
          have HB17 : Hid (Below w3.heap.size w3 w17) := Below.on HB16.out hb
          have HU17 : Hid (Box2 w17 w4.heap.size (.slice (some ⟨g4, 0, none⟩) xs.length xs.length) (.slice (some ⟨g5, 0, none⟩) tr.length tr.length)) := HU16.out.on hb
          have HV17 : Hid (Box3 w17 w5.heap.size (.int .i64 k) (.int .i64 n) (.slice (some ⟨g6, 0, none⟩) t.length t.length)) := HV16.out.on hb
          have HR17 : Hid (Box3 w17 v5.heap.size (.int .i64 kb) (.int .i64 nb) (.slice (some ⟨g6b, 0, none⟩) tb.length tb.length)) := HR16.out.on hb
          have HH17 : Hid (Box2 w17 w6.heap.size (.slice pg Z.length cg) (.slice qg T.length dg)) := HH16.out.on hb
          have HZ17 : Hid (CIn w17 pg (markC 1 Z) ∧ IIn w17 qg (ups (endC 1 Z) T.length)) := ⟨HZ16.out.1.below hb, HZ16.out.2.below hb⟩
          have hsz17 : w6.heap.size + 1 ≤ w17.heap.size := Nat.le_trans hsz16 hb.size
          clear HA16 HB16 HU16 HV16 HR16 HH16 HZ16 hb
          obtain ⟨y0, y1, y2⟩ := HP17.out.1
          obtain ⟨z0, z1, z2⟩ := HW3.out.1.on HB17.out
          try dsimp only
          go_wp2_with fail
          refine Calls.mono (eqStore_any ph qh pw qw ch dh cw dw Z T w17 (by omega) (by omega) HP17.out.2.1 HP17.out.2.2 (HW3.out.2.1.below HB17.out) (HW3.out.2.2.below HB17.out)) ?_
          rintro e w18 ⟨rfl, hb⟩
          clear HP17
          clear y0 y1 y2 z0 z1 z2
          have HA18 : Hid (Below W0.heap.size W0 w18) := Below.on HA17.out hb
          have HB18 : Hid (Below w3.heap.size w3 w18) := Below.on HB17.out hb
          have HU18 : Hid (Box2 w18 w4.heap.size (.slice (some ⟨g4, 0, none⟩) xs.length xs.length) (.slice (some ⟨g5, 0, none⟩) tr.length tr.length)) := HU17.out.on hb
          have HV18 : Hid (Box3 w18 w5.heap.size (.int .i64 k) (.int .i64 n) (.slice (some ⟨g6, 0, none⟩) t.length t.length)) := HV17.out.on hb
          have HR18 : Hid (Box3 w18 v5.heap.size (.int .i64 kb) (.int .i64 nb) (.slice (some ⟨g6b, 0, none⟩) tb.length tb.length)) := HR17.out.on hb
          have HH18 : Hid (Box2 w18 w6.heap.size (.slice pg Z.length cg) (.slice qg T.length dg)) := HH17.out.on hb
          have HZ18 : Hid (CIn w18 pg (markC 1 Z) ∧ IIn w18 qg (ups (endC 1 Z) T.length)) := ⟨HZ17.out.1.below hb, HZ17.out.2.below hb⟩
          have hsz18 : w6.heap.size + 1 ≤ w18.heap.size := Nat.le_trans hsz17 hb.size
          clear HA17 HB17 HU17 HV17 HR17 HH17 HZ17 hb
          obtain ⟨y0, y1, y2⟩ := HH18.out
          go_wp2_with fail
          refine Calls.mono (heldStore_any pg qg Z.length T.length cg dg 1 Z w18 (by decide) (by decide) (by omega) (by omega) rfl HZ18.out.1 HZ18.out.2) ?_
          rintro e w19 ⟨rfl, hb⟩
          rw [← HMM.out]
          clear y0 y1 y2
          have HA19 : Hid (Below W0.heap.size W0 w19) := Below.on HA18.out hb
          have HB19 : Hid (Below w3.heap.size w3 w19) := Below.on HB18.out hb
          have HU19 : Hid (Box2 w19 w4.heap.size (.slice (some ⟨g4, 0, none⟩) xs.length xs.length) (.slice (some ⟨g5, 0, none⟩) tr.length tr.length)) := HU18.out.on hb
          have HV19 : Hid (Box3 w19 w5.heap.size (.int .i64 k) (.int .i64 n) (.slice (some ⟨g6, 0, none⟩) t.length t.length)) := HV18.out.on hb
          have HR19 : Hid (Box3 w19 v5.heap.size (.int .i64 kb) (.int .i64 nb) (.slice (some ⟨g6b, 0, none⟩) tb.length tb.length)) := HR18.out.on hb
          have HH19 : Hid (Box2 w19 w6.heap.size (.slice pg Z.length cg) (.slice qg T.length dg)) := HH18.out.on hb
          have HZ19 : Hid (CIn w19 pg (markC 1 Z) ∧ IIn w19 qg (ups (endC 1 Z) T.length)) := ⟨HZ18.out.1.below hb, HZ18.out.2.below hb⟩
          have hsz19 : w6.heap.size + 1 ≤ w19.heap.size := Nat.le_trans hsz18 hb.size
          clear HA18 HB18 HU18 HV18 HR18 HH18 HZ18 hb
          go_wp2_with fail
          go_ret
          exact ⟨rfl, (HL.out _ HA19.out).2.2.2.2⟩
    · have er2 : szR r t.length = -1 := by rw [szR, if_neg hm]
      rw [er2] at H2
      rw [eW0] at HS1
      clear er2 eW0 hm
      go_enter Try.func7, Try.ntmps7
      go_wp2_with fail
      refine HS1.mono ?_
      rintro e w1 ⟨rfl, hb⟩
      rw [← HE0.out] at hb
      have HB1 : Hid (Below W0.heap.size W0 w1) := hb
      obtain ⟨⟨s0, s1⟩, b0, b1, b2, b3, b4, b5⟩ := HX.out _ hb
      clear hb HS1
      go_wp2_with fail
      refine (H2 _).mono ?_
      rintro e w2 ⟨rfl, hb⟩
      have HB2 : Hid (Below W0.heap.size W0 w2) := Below.on HB1.out hb
      clear hb H2 s0 s1 b0 b1 b2 b3 b4 b5
      go_wp2
      go_ret
      exact ⟨rfl, (HL.out _ HB2.out).2.2.2.2⟩
  · have er : szR 1048576 (xs.length + tl xs + tr.length) = -1 := by rw [szR, if_neg hn]
    rw [er, eW0] at HS1
    clear er eW0 hn
    go_enter Try.func7, Try.ntmps7
    go_wp2_with fail
    refine HS1.mono ?_
    rintro e w1 ⟨rfl, hb⟩
    rw [← HE0.out] at hb
    have HB1 : Hid (Below W0.heap.size W0 w1) := hb
    clear hb HS1
    go_wp2
    go_ret
    exact ⟨rfl, (HL.out _ HB1.out).2.2.2.2⟩

end Go.Proofs.Ytfnmoaiejpkocaa

