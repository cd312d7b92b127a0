/- Texts of MkU, LawGt. Own work of the verifier. -/
import Derived.Test.YtfnmoaiejpkocaaUqam
import Derived.Test.YtfnmoaiejpkocaaUqax
namespace Go.Proofs.Ytfnmoaiejpkocaa
open Go Go.RowKit
set_option linter.unusedVariables false

theorem tl_le100 : ∀ cs : List Cel, (∀ c ∈ cs, c.2.2.length ≤ 100) → tl cs ≤ 100 * cs.length
  | [], _ => by simp [tl]
  | a :: r, h => by
    have h1 := tl_le100 r (fun c hc => h c (by simp [hc]))
    have h2 := h a (by simp)
    simp only [tl, List.length_cons]
    omega
set_option maxRecDepth 100000 in
theorem markStoreT_any (B M U : Nat) (p q : Option Addr) (n m c1 c2 : Nat) (k : Int) (xs : List Cel) (tr : List Int) (w : World) (h0 : 0 ≤ k) (h1 : k ≤ 10000000) (hx : xs.length + tl xs ≤ 100000000) (hm : m ≤ 100000000) (hBM : B ≤ M) (hMU : M ≤ U) (hU : U ≤ w.heap.size) (hown : OwnCU w M U p n c1 xs) (hint : OwnIU w B M q m c2 tr) :
    Calls Try.prog 17 #[.agg #[.slice p n c1, .slice q m c2], .int .i64 k] w fun e w' => e = .returned (.int .i64 (endC k xs + m)) ∧ (CIn w' p (markC k xs) ∧ IIn w' q (ups (endC k xs) m)) ∧ Keep B U w w' := by
  obtain ⟨W0, eW0⟩ : ∃ W0, W0 = w.alloc (.cells #[.slice p n c1, .slice q m c2] 36) := ⟨_, rfl⟩
  have hb0 : Below w.heap.size w W0 := by rw [eW0]; exact (Below.refl _ _).alloc (Nat.le_refl _) _
  have H1 := markCells_any M U p n c1 k xs W0 h0 h1 hx (hown.below hb0)
  have k0 : W0.heap[w.heap.size]? = some (.cells #[.slice p n c1, .slice q m c2] 36) := by rw [eW0]; exact heap_alloc_new _ _
  have hz : W0.heap.size = w.heap.size + 1 := by rw [eW0]; simp
  have HI : Hid (OwnIU W0 B M q m c2 tr) := hint.on hb0
  have hke : 0 ≤ endC k xs ∧ endC k xs ≤ 1000000000000 := by rw [endC_eqM]; omega
  generalize endC k xs = ke at H1 hke ⊢
  have HC : Hid (∀ w1, Keep M U W0 w1 → w1.cell? ⟨w.heap.size, 1, none⟩ = some (.slice q m c2) ∧ OwnIU w1 B M q m c2 tr) := fun w1 hk => by
    have j0 := (hk.block w.heap.size (by omega) (by omega)).trans k0
    exact ⟨by simp [World.cell?, j0], HI.out.keep hk (.inl (Nat.le_refl _))⟩
  have HF : Hid (∀ w1 w2, Keep M U W0 w1 → w1.grownBy w2 (Value.ownBlock (.slice q m c2)) → OwnCU w1 M U p n c1 (markC k xs) → CIn w2 p (markC k xs) ∧ Keep B U w w2) := fun w1 w2 hk hg ho => by
    have hrow : ∀ g, Value.ownBlock (.slice q m c2) = some g → B ≤ g ∧ g < M := fun g e => ⟨(HI.out.1.2.lt g e).1, HI.out.2 g e⟩
    refine ⟨(ho.other hg.size (fun j hj hj1 hj2 => hg.block j hj (fun e => by have := hrow j e.symm; omega))).toC.cin, ?_⟩
    have a1 : Keep B U w W0 := by rw [eW0]; exact Keep.new B U w _
    exact (a1.trans (hk.widen hBM (Nat.le_refl _))).trans (Keep.of_grown hg (fun g e => ⟨(hrow g e).1, by have := (hrow g e).2; omega⟩))
  have HM : Hid (∀ w1, OwnIU w1 B M q m c2 tr → Calls Try.prog 48 #[.slice q m c2, .int .i64 ke] w1 fun e w' => e = .returned (.int .i64 (ke + m)) ∧ OwnI w' B 3 q m c2 (ups ke m) ∧ w1.grownBy w' (Value.ownBlock (.slice q m c2))) := fun w1 h => markIntS_any B q m c2 ke tr w1 hke.1 hke.2 (by omega) h.1
  rw [eW0] at H1
  have HE0 : Hid _ := eW0
  clear hown hint hb0 k0 hz hBM hMU hU HI eW0 hx
  go_enter Try.func17, Try.ntmps17
  go_wp2_with fail
  refine H1.mono ?_
  rintro e w1 ⟨rfl, ho1, hk1⟩
  rw [← HE0.out] at hk1
  obtain ⟨s1, hi1⟩ := HC.out w1 hk1
  have HM1 := HM.out w1 hi1
  have HO1 : Hid (OwnCU w1 M U p n c1 (markC k xs) ∧ Keep M U W0 w1) := ⟨ho1, hk1⟩
  clear H1 HM HC ho1 hk1 hi1
  go_wp2_with (go_at_call 48; refine HM1.mono ?_; rintro e w2 ⟨rfl, ho2, hg2⟩)
  go_ret
  obtain ⟨f1, f2⟩ := HF.out w1 w2 HO1.out.2 hg2 HO1.out.1
  exact ⟨rfl, ⟨f1, ho2.iin⟩, f2⟩

end Go.Proofs.Ytfnmoaiejpkocaa

namespace Go.Proofs.Ytfnmoaiejpkocaa
open Go Go.RowKit
set_option linter.unusedVariables false

theorem fo_texts : ∀ F : Fo, F.ok → ∀ c ∈ F.cells, c.2.2.length ≤ 100
  | .nil, _, c, h => by cases h
  | .node a k r, ho, c, h => by
    simp only [Fo.cells, List.mem_cons, List.mem_append] at h
    rcases h with rfl | h | h
    · have := ho.1
      simp only [cellB, decide_eq_true_eq] at this
      omega
    · exact fo_texts k ho.2.2.2.2.1 c h
    · exact fo_texts r ho.2.2.2.2.2 c h
theorem getA_size (xs : List Cel) (tr : List Int) (c : Cel) (hbx : ∀ a, a < xs.length → Byte (xs.getD a Cel.none).2.2) (hbc : Byte c.2.2) : (getA xs tr c).1.length + tl (getA xs tr c).1 ≤ 3000000 := by
  unfold getA
  split
  · rename_i hv
    obtain ⟨g, hw, ho, hoc, htl⟩ := vsB_parts hv
    split
    · rename_i hz
      have h1 := gF_ok g (fun a ha => ⟨ho a ha, hbx a ha⟩) (gD xs c) c hw hoc hbc (Nat.lt_succ_self _)
      have h2 := tl_le100 (gF xs (gD xs c) c).cells (fo_texts _ h1)
      have h3 : (gF xs (gD xs c) c).cells.length ≤ 2000 := hz
      show (gF xs (gD xs c) c).cells.length + tl (gF xs (gD xs c) c).cells ≤ _
      omega
    · simp [tl]
  · simp [tl]

set_option maxHeartbeats 16000000 in
set_option maxRecDepth 100000 in
theorem lawGt_any (p q pt : Option Addr) (c1 c2 cap : Nat) (k n : Int) (t : List Int) (xs : List Cel) (tr : List Int) (w : World) (hx : CArg w p xs) (hy : IArg w q tr) (ht : BArgB w pt t) :
    Calls Try.prog 4 #[.agg #[.slice p xs.length c1, .slice q tr.length c2], .agg #[.int .i64 k, .int .i64 n, .slice pt t.length cap]] w fun e w' => e = .returned (.bool true) ∧ Below w.heap.size w w' := by
  obtain ⟨W0, eW0⟩ : ∃ W0, W0 = (w.alloc (.cells #[.slice p xs.length c1, .slice q tr.length c2] 25)).alloc (.cells #[.int .i64 k, .int .i64 n, .slice pt t.length cap] 28) := ⟨_, rfl⟩
  have hb0 : Below w.heap.size w W0 := by rw [eW0]; exact ((Below.refl _ _).alloc (Nat.le_refl _) _).alloc (by simp) _
  have hz0 : W0.heap.size = w.heap.size + 1 + 1 := by rw [eW0]; simp
  have k0 : W0.heap[w.heap.size]? = some (.cells #[.slice p xs.length c1, .slice q tr.length c2] 25) := by
    rw [eW0, Below.heap_alloc _ _ _ (by simp)]; exact heap_alloc_new _ _
  have k1 : W0.heap[w.heap.size + 1]? = some (.cells #[.int .i64 k, .int .i64 n, .slice pt t.length cap] 28) := by
    rw [eW0]
    have := heap_alloc_new (w.alloc (.cells #[.slice p xs.length c1, .slice q tr.length c2] 25)) (.cells #[.int .i64 k, .int .i64 n, .slice pt t.length cap] 28)
    simpa using this
  -- the boxes of both arguments, and what came in, in every later world
  have HX : Hid (∀ W, Below W0.heap.size W0 W → (W.cell? ⟨w.heap.size, 0, none⟩ = some (.slice p xs.length c1) ∧ W.cell? ⟨w.heap.size, 1, none⟩ = some (.slice q tr.length c2)) ∧ W.cell? ⟨w.heap.size + 1, 0, none⟩ = some (.int .i64 k) ∧ W.cell? ⟨w.heap.size + 1, 1, none⟩ = some (.int .i64 n) ∧ W.cell? ⟨w.heap.size + 1, 2, none⟩ = some (.slice pt t.length cap)) := fun W hW => by
    have j0 := (hW.block w.heap.size (by omega)).trans k0
    have j1 := (hW.block (w.heap.size + 1) (by omega)).trans k1
    exact ⟨⟨by simp [World.cell?, j0], by simp [World.cell?, j0]⟩, by simp [World.cell?, j1], by simp [World.cell?, j1], by simp [World.cell?, j1]⟩
  have HL : Hid (∀ W, Below W0.heap.size W0 W → CIn W p xs ∧ IIn W q tr ∧ BIn W pt t ∧ Below w.heap.size w W) := fun W hW => by
    have hb := Below.on hb0 hW
    exact ⟨hx.lies.below hb, hy.lies.below hb, ht.lies.below hb, hb⟩
  have HS1 := szStore_any p q c1 c2 xs tr 1048576 W0 (Nat.le_refl _) (hx.below hb0) (hy.below hb0)
  have htl := ht.len
  have HE0 : Hid _ := eW0
  have HZ0 : Hid _ := hz0
  have HBX : Hid _ := hx.byte
  have HBT : Hid _ := ht.byte
  clear hx hy ht k0 k1 hb0 hz0
  by_cases hn : xs.length + tl xs + tr.length ≤ 1048576
  · obtain ⟨r, er⟩ : ∃ r : Nat, szR 1048576 (xs.length + tl xs + tr.length) = r := ⟨1048576 - (xs.length + tl xs + tr.length), by rw [szR, if_pos hn]; omega⟩
    have hr : r ≤ 1048576 := by rw [szR, if_pos hn] at er; omega
    rw [er] at HS1
    have H2 := fun W => szCell_any k n pt t.length cap r W hr htl
    clear er
    by_cases hm : t.length ≤ r
    · obtain ⟨r2, er2⟩ : ∃ r2 : Nat, szR r t.length = r2 := ⟨r - t.length, by rw [szR, if_pos hm]; omega⟩
      rw [er2] at H2
      clear er2
      rw [eW0] at HS1
      clear eW0
      have htm : t.length ≤ 1048576 := by omega
      have hxn : xs.length + tl xs ≤ 1048576 := by omega
      have htr : tr.length ≤ 1048576 := by omega
      clear hn hm hr
      obtain ⟨AA, eA⟩ : ∃ A, A = getA xs tr (k, n, t) := ⟨_, rfl⟩
      have hsz : AA.1.length + tl AA.1 ≤ 3000000 := by rw [eA]; exact getA_size _ _ _ HBX.out HBT.out
      have HTS : Hid (∀ W, Below W0.heap.size W0 W → Calls Try.prog 12 #[.agg #[.slice p xs.length c1, .slice q tr.length c2]] W fun e w' => ∃ g1 g2, e = .returned (.agg #[.slice (some ⟨g1, 0, none⟩) xs.length xs.length, .slice (some ⟨g2, 0, none⟩) tr.length tr.length]) ∧ (∃ M, OwnCU w' W.heap.size M (some ⟨g1, 0, none⟩) xs.length xs.length xs ∧ OwnI w' M 3 (some ⟨g2, 0, none⟩) tr.length tr.length tr ∧ W.heap.size ≤ M ∧ M ≤ w'.heap.size) ∧ Below W.heap.size W w') := fun W hW => toStoreU_any p q c1 c2 xs tr W hxn htr (HL.out W hW).1 (HL.out W hW).2.1
      have HTC : Hid (∀ W, Below W0.heap.size W0 W → Calls Try.prog 13 #[.agg #[.int .i64 k, .int .i64 n, .slice pt t.length cap]] W fun e w' => ∃ g, e = .returned (.agg #[.int .i64 k, .int .i64 n, .slice (some ⟨g, 0, none⟩) t.length t.length]) ∧ OwnS w' W.heap.size (some ⟨g, 0, none⟩) t.length t.length t ∧ Below W.heap.size W w') := fun W hW => toCell_any k n pt t.length cap t W rfl htm (HL.out W hW).2.2.1
      have HSP : Hid (∀ W a b c, CIn W a xs → IIn W b tr → BIn W c t → Calls Try.prog 20 #[.agg #[.slice a xs.length xs.length, .slice b tr.length tr.length], .agg #[.int .i64 k, .int .i64 n, .slice c t.length t.length]] W (CellsA AA W)) := fun W a b c h1 h2 h3 => by rw [eA]; exact specGet_any a b c xs.length tr.length t.length (k, n, t) xs tr W (by omega) (by omega) (by show t.length ≤ _; omega) HBX.out HBT.out h1 h2 h3
      have HIM : Hid (∀ W a b c, CIn W a xs → IIn W b tr → BIn W c t → Calls Try.prog 21 #[.agg #[.slice a xs.length xs.length, .slice b tr.length tr.length], .agg #[.int .i64 k, .int .i64 n, .slice c t.length t.length]] W (CellsA AA W)) := fun W a b c h1 h2 h3 => by rw [eA]; exact implGet_any a b c xs.length tr.length t.length (k, n, t) xs tr W (by omega) (by omega) HBX.out HBT.out h1 h2 h3
      clear eA HBX HBT
      obtain ⟨Z, code⟩ := AA
      simp only at hsz
      have hZ : Z.length + tl Z ≤ 3000000 := hsz
      clear hsz
      go_enter Try.func4, Try.ntmps4
      go_wp2_with fail
      refine HS1.mono ?_
      rintro e w1 ⟨rfl, hb⟩
      rw [← HE0.out] at hb
      have HB1 : Hid (Below W0.heap.size W0 w1) := hb
      obtain ⟨⟨s0, s1⟩, b0, b1, b2⟩ := HX.out _ hb
      clear hb HS1
      go_wp2_with fail
      refine (H2 _).mono ?_
      rintro e w2 ⟨rfl, hb⟩
      have HA2 : Hid (Below W0.heap.size W0 w2) := Below.on HB1.out hb
      clear hb H2 HB1 s0 s1 b0 b1 b2
      obtain ⟨⟨s0, s1⟩, b0, b1, b2⟩ := HX.out _ HA2.out
      have hge2 : w.heap.size + 1 + 1 ≤ w2.heap.size := by have := HA2.out.size; have h2 := HZ0.out; omega
      go_wp2
      have HD0 : Hid (Below W0.heap.size W0 (w2.drewN 1)) := below_drewN HA2.out 1
      go_region_held3 (fun W => (W.cell? ⟨w.heap.size, 0, none⟩ = some (.slice p xs.length c1) ∧ W.cell? ⟨w.heap.size, 1, none⟩ = some (.slice q tr.length c2)) ∧ W.cell? ⟨w.heap.size + 1, 0, none⟩ = some (.int .i64 k) ∧ W.cell? ⟨w.heap.size + 1, 1, none⟩ = some (.int .i64 n) ∧ W.cell? ⟨w.heap.size + 1, 2, none⟩ = some (.slice pt t.length cap)) (first | exact kk | go_keep)
        (first
          | (go_at_call 12; refine Calls.mono (HTS.out _ HD0.out) ?_; rintro e w2a ⟨g1, g2, rfl, ⟨M, hc, hi, hM1, hM2⟩, hb⟩; have hbn : Below (w2.drewN 1).heap.size (w2.drewN 1) w2a := hb; have HD1 : Hid (Below W0.heap.size W0 w2a) := Below.on HD0.out hbn; have HQ1 : Hid (Below w2.heap.size w2 w2a) := (below_drewN (Below.refl _ _) 1).trans hbn; have HC1 : Hid (CIn w2a (some ⟨g1, 0, none⟩) xs) := hc.toC.cin; have HI1 : Hid (IIn w2a (some ⟨g2, 0, none⟩) tr) := hi.iin; have kk := HX.out _ HD1.out; clear hc hi hM1 hM2; clear hb hbn)
          | (go_at_call 13; refine Calls.mono (HTC.out _ HD1.out) ?_; rintro e w2b ⟨g3, rfl, hs, hb⟩; have hbn : Below w2a.heap.size w2a w2b := hb; have HD2 : Hid (Below W0.heap.size W0 w2b) := Below.on HD1.out hbn; have HQ2 : Hid (Below w2.heap.size w2 w2b) := Below.on HQ1.out hbn; have HC2 : Hid (CIn w2b (some ⟨g1, 0, none⟩) xs) := HC1.out.below hbn; have HI2 : Hid (IIn w2b (some ⟨g2, 0, none⟩) tr) := HI1.out.below hbn; have HT2 : Hid (BIn w2b (some ⟨g3, 0, none⟩) t) := hs.toT.bin; have kk := HX.out _ HD2.out; clear hs; clear hb hbn)
          | (go_at_call 20; refine Calls.mono (HSP.out _ _ _ _ HC2.out HI2.out HT2.out) ?_; rintro e w2c ⟨pp, cc, rfl, hbc, hb⟩; have hbn : Below w2b.heap.size w2b w2c := hb; have HD3 : Hid (Below W0.heap.size W0 w2c) := Below.on HD2.out hbn; have HQ3 : Hid (Below w2.heap.size w2 w2c) := Below.on HQ2.out hbn; have HBP : Hid (CIn w2c pp Z) := hbc.cin; have kk := HX.out _ HD3.out; clear hbc; clear hb hbn))
      rename_i hheld; clear hheld
      clear kk HC1 HI1 HC2 HI2 HT2 HD0 HD1 HD2 HQ1 HQ2
      have HA3 : Hid (Below W0.heap.size W0 w2c) := HD3.out
      have HW3 : Hid (CIn w2c pp Z) := HBP.out
      have hge3 : w.heap.size + 1 + 1 ≤ w2c.heap.size := by have := HA3.out.size; have h2 := HZ0.out; omega
      clear HD3 HBP HQ3 s0 s1 b0 b1 b2 HA2 hge2 HSP
      generalize w2c = w3 at HA3 HW3 hge3 ⊢
      generalize pp = pw at HW3 ⊢
      generalize cc = cw at *
      obtain ⟨⟨s0, s1⟩, b0, b1, b2⟩ := HX.out _ HA3.out
      try dsimp only
      go_wp2_with fail
      refine Calls.mono (HTS.out _ HA3.out) ?_
      rintro e w4 ⟨g4, g5, rfl, ⟨M4, hc, hi, hM1, hM2⟩, hb⟩
      obtain ⟨oS, eoS⟩ : ∃ o : Obj, o = .cells #[.slice (some ⟨g4, 0, none⟩) xs.length xs.length, .slice (some ⟨g5, 0, none⟩) tr.length tr.length] 36 := ⟨_, rfl⟩
      have HA4 : Hid (Below W0.heap.size W0 (w4.alloc oS)) := Below.on (Below.on HA3.out hb) (alloc_on _ _)
      have HB4 : Hid (Below w3.heap.size w3 (w4.alloc oS)) := Below.on hb (alloc_on _ _)
      have HX4 : Hid (OwnCU (w4.alloc oS) w3.heap.size M4 (some ⟨g4, 0, none⟩) xs.length xs.length xs ∧ OwnIU (w4.alloc oS) M4 w4.heap.size (some ⟨g5, 0, none⟩) tr.length tr.length tr) := ⟨hc.below (alloc_on _ _), hi.up.on (alloc_on _ _)⟩
      have HBX4 : Hid (Box2 (w4.alloc oS) w4.heap.size (.slice (some ⟨g4, 0, none⟩) xs.length xs.length) (.slice (some ⟨g5, 0, none⟩) tr.length tr.length)) := by show Box2 _ _ _ _; rw [eoS]; exact Box2.of_block (t := 36) (heap_alloc_new _ _)
      have hz4 : (w4.alloc oS).heap.size = w4.heap.size + 1 := by simp
      have HM4 : Hid (w3.heap.size ≤ M4 ∧ M4 ≤ w4.heap.size) := ⟨hM1, hM2⟩
      have q4 := HX.out _ HA4.out
      rw [eoS] at q4
      obtain ⟨⟨t0, t1⟩, u0, u1, u2⟩ := q4
      have HO4 : Hid (oS = .cells #[.slice (some ⟨g4, 0, none⟩) xs.length xs.length, .slice (some ⟨g5, 0, none⟩) tr.length tr.length] 36) := eoS
      clear hc hi hb hM1 hM2 s0 s1 b0 b1 b2 eoS
      go_wp2_with fail
      rw [← HO4.out]
      refine Calls.mono (HTC.out _ HA4.out) ?_
      rintro e w5 ⟨g6, rfl, hs, hb⟩
      obtain ⟨oC, eoC⟩ : ∃ o : Obj, o = .cells #[.int .i64 k, .int .i64 n, .slice (some ⟨g6, 0, none⟩) t.length t.length] 31 := ⟨_, rfl⟩
      have hb' : Below (w4.alloc oS).heap.size (w4.alloc oS) (w5.alloc oC) := Below.on hb (alloc_on _ _)
      have HA5 : Hid (Below W0.heap.size W0 (w5.alloc oC)) := Below.on HA4.out hb'
      have HB5 : Hid (Below w3.heap.size w3 (w5.alloc oC)) := Below.on HB4.out hb'
      have HX5 : Hid (OwnCU (w5.alloc oC) w3.heap.size M4 (some ⟨g4, 0, none⟩) xs.length xs.length xs ∧ OwnIU (w5.alloc oC) M4 w4.heap.size (some ⟨g5, 0, none⟩) tr.length tr.length tr) := ⟨HX4.out.1.below hb', HX4.out.2.on hb'⟩
      have HBX5 : Hid (Box2 (w5.alloc oC) w4.heap.size (.slice (some ⟨g4, 0, none⟩) xs.length xs.length) (.slice (some ⟨g5, 0, none⟩) tr.length tr.length)) := HBX4.out.on hb'
      have hs45 : w4.heap.size + 1 ≤ w5.heap.size := by have := hb.size; omega
      have HY5 : Hid (OwnTU (w5.alloc oC) (w4.heap.size + 1) w5.heap.size (some ⟨g6, 0, none⟩) t.length t.length t) := by have h := hs.toT.up; rw [hz4] at h; exact h.on (alloc_on _ _)
      have HBY5 : Hid (Box3 (w5.alloc oC) w5.heap.size (.int .i64 k) (.int .i64 n) (.slice (some ⟨g6, 0, none⟩) t.length t.length)) := by show Box3 _ _ _ _ _; rw [eoC]; exact Box3.of_block (t := 31) (heap_alloc_new _ _)
      have hz5 : (w5.alloc oC).heap.size = w5.heap.size + 1 := by simp
      obtain ⟨x0, x1, x2⟩ := HBX5.out
      obtain ⟨y0, y1, y2, y3⟩ := HBY5.out
      rw [eoC] at x0 x1 x2 y0 y1 y2 y3
      have HOC : Hid (oC = .cells #[.int .i64 k, .int .i64 n, .slice (some ⟨g6, 0, none⟩) t.length t.length] 31) := eoC
      clear hb hb' hs eoC HA4 HB4 HX4 HBX4 t0 t1 u0 u1 u2 HO4 hz4
      go_wp2_with fail
      rw [← HOC.out]
      refine Calls.mono (HIM.out _ _ _ _ HX5.out.1.toC.cin HX5.out.2.1.iin HY5.out.1.bin) ?_
      rintro e w6 ⟨pg, cg, rfl, hog, hb⟩
      have hs56 : w5.heap.size + 1 ≤ w6.heap.size := by have := hb.size; simp at this; omega
      rw [hz5] at hog
      have HA6 : Hid (Below W0.heap.size W0 w6) := Below.on HA5.out hb
      have HB6 : Hid (Below w3.heap.size w3 w6) := Below.on HB5.out hb
      have HX6 : Hid (OwnCU w6 w3.heap.size M4 (some ⟨g4, 0, none⟩) xs.length xs.length xs ∧ OwnIU w6 M4 w4.heap.size (some ⟨g5, 0, none⟩) tr.length tr.length tr) := ⟨HX5.out.1.below hb, HX5.out.2.on hb⟩
      have HU6 : Hid (Box2 w6 w4.heap.size (.slice (some ⟨g4, 0, none⟩) xs.length xs.length) (.slice (some ⟨g5, 0, none⟩) tr.length tr.length)) := HBX5.out.on hb
      have HY6 : Hid (OwnTU w6 (w4.heap.size + 1) w5.heap.size (some ⟨g6, 0, none⟩) t.length t.length t) := HY5.out.on hb
      have HV6 : Hid (Box3 w6 w5.heap.size (.int .i64 k) (.int .i64 n) (.slice (some ⟨g6, 0, none⟩) t.length t.length)) := HBY5.out.on hb
      have HG6 : Hid (OwnCU w6 (w5.heap.size + 1) w6.heap.size pg Z.length cg Z) := hog.up
      have hcc : (code != code) = false := by simp
      have hM41 : w3.heap.size ≤ M4 := HM4.out.1
      have hM42 : M4 ≤ w4.heap.size := HM4.out.2
      have hz03 : W0.heap.size ≤ w3.heap.size := HA3.out.size
      clear hb hog HA5 HB5 HX5 HBX5 HY5 HBY5 x0 x1 x2 y0 y1 y2 y3 HOC hz5
      go_wp2_with fail
      have HQ := eqCellS_any pg pw cg cw Z Z w6 (by omega) (by omega) HG6.out.toC.cin (HW3.out.below HB6.out)
      rw [decide_eq_true (rfl : Z = Z)] at HQ
      refine Calls.mono HQ ?_
      rintro e w7 ⟨rfl, hb⟩
      clear HQ
      have HA7 : Hid (Below W0.heap.size W0 w7) := Below.on HA6.out hb
      have HB7 : Hid (Below w3.heap.size w3 w7) := Below.on HB6.out hb
      have HX7 : Hid (OwnCU w7 w3.heap.size M4 (some ⟨g4, 0, none⟩) xs.length xs.length xs ∧ OwnIU w7 M4 w4.heap.size (some ⟨g5, 0, none⟩) tr.length tr.length tr) := ⟨HX6.out.1.below hb, HX6.out.2.on hb⟩
      have HU7 : Hid (Box2 w7 w4.heap.size (.slice (some ⟨g4, 0, none⟩) xs.length xs.length) (.slice (some ⟨g5, 0, none⟩) tr.length tr.length)) := HU6.out.on hb
      have HY7 : Hid (OwnTU w7 (w4.heap.size + 1) w5.heap.size (some ⟨g6, 0, none⟩) t.length t.length t) := HY6.out.on hb
      have HV7 : Hid (Box3 w7 w5.heap.size (.int .i64 k) (.int .i64 n) (.slice (some ⟨g6, 0, none⟩) t.length t.length)) := HV6.out.on hb
      have HG7 : Hid (OwnCU w7 (w5.heap.size + 1) w6.heap.size pg Z.length cg Z) := HG6.out.below hb
      have hsz7 : w6.heap.size ≤ w7.heap.size := hb.size
      clear HA6 HB6 HX6 HU6 HY6 HV6 HG6 hb
      clear HA3 HM4
      obtain ⟨⟨s0, s1⟩, b0, b1, b2⟩ := HX.out _ HA7.out
      obtain ⟨x0, x1, x2⟩ := HU7.out
      go_wp2
      have HA7d : Hid (Below W0.heap.size W0 (w7.drewN 1)) := below_drewN HA7.out 1
      have HK7 : Hid (∀ W, Below w7.heap.size w7 W → ((W.cell? ⟨w.heap.size, 0, none⟩ = some (.slice p xs.length c1) ∧ W.cell? ⟨w.heap.size, 1, none⟩ = some (.slice q tr.length c2)) ∧ W.cell? ⟨w4.heap.size, 0, none⟩ = some (.slice (some ⟨g4, 0, none⟩) xs.length xs.length) ∧ W.cell? ⟨w4.heap.size, 1, none⟩ = some (.slice (some ⟨g5, 0, none⟩) tr.length tr.length)) ∧ (CIn W (some ⟨g4, 0, none⟩) xs ∧ IIn W (some ⟨g5, 0, none⟩) tr)) := fun W hW => ⟨⟨(HX.out _ (Below.on HA7.out hW)).1, (HU7.out.on hW).1, (HU7.out.on hW).2.1⟩, (HX7.out.1.below hW).toC.cin, (HX7.out.2.on hW).1.iin⟩
      go_region_held3 (fun W => ((W.cell? ⟨w.heap.size, 0, none⟩ = some (.slice p xs.length c1) ∧ W.cell? ⟨w.heap.size, 1, none⟩ = some (.slice q tr.length c2)) ∧ W.cell? ⟨w4.heap.size, 0, none⟩ = some (.slice (some ⟨g4, 0, none⟩) xs.length xs.length) ∧ W.cell? ⟨w4.heap.size, 1, none⟩ = some (.slice (some ⟨g5, 0, none⟩) tr.length tr.length))) (first | exact kk | go_keep)
        (first
          | (go_at_call 12; refine Calls.mono (HTS.out _ HA7d.out) ?_; rintro e w8 ⟨g7, g8, rfl, ⟨M, hc, hi, hM1, hM2⟩, hb⟩; have HQ8 : Hid (Below w7.heap.size w7 w8) := (below_drewN (Below.refl _ _) 1).trans hb; have HC8 : Hid (CIn w8 (some ⟨g7, 0, none⟩) xs ∧ IIn w8 (some ⟨g8, 0, none⟩) tr) := ⟨hc.toC.cin, hi.iin⟩; have kk := (HK7.out _ HQ8.out).1; clear hc hi hM1 hM2 hb)
          | (go_at_call 16; refine Calls.mono (eqStore_any (some ⟨g4, 0, none⟩) (some ⟨g5, 0, none⟩) (some ⟨g7, 0, none⟩) (some ⟨g8, 0, none⟩) xs.length tr.length xs.length tr.length xs tr w8 (by omega) (by omega) (HK7.out _ HQ8.out).2.1 (HK7.out _ HQ8.out).2.2 HC8.out.1 HC8.out.2) ?_; rintro e w9 ⟨rfl, hb⟩; have HQ9 : Hid (Below w7.heap.size w7 w9) := Below.on HQ8.out hb; have kk := (HK7.out _ HQ9.out).1; clear hb))
      rename_i hheld; clear hheld
      clear kk HK7 HA7d HQ8 HC8
      have hb : Below w7.heap.size w7 w9 := HQ9.out
      have HA9 : Hid (Below W0.heap.size W0 w9) := Below.on HA7.out hb
      have HB9 : Hid (Below w3.heap.size w3 w9) := Below.on HB7.out hb
      have HX9 : Hid (OwnCU w9 w3.heap.size M4 (some ⟨g4, 0, none⟩) xs.length xs.length xs ∧ OwnIU w9 M4 w4.heap.size (some ⟨g5, 0, none⟩) tr.length tr.length tr) := ⟨HX7.out.1.below hb, HX7.out.2.on hb⟩
      have HU9 : Hid (Box2 w9 w4.heap.size (.slice (some ⟨g4, 0, none⟩) xs.length xs.length) (.slice (some ⟨g5, 0, none⟩) tr.length tr.length)) := HU7.out.on hb
      have HY9 : Hid (OwnTU w9 (w4.heap.size + 1) w5.heap.size (some ⟨g6, 0, none⟩) t.length t.length t) := HY7.out.on hb
      have HV9 : Hid (Box3 w9 w5.heap.size (.int .i64 k) (.int .i64 n) (.slice (some ⟨g6, 0, none⟩) t.length t.length)) := HV7.out.on hb
      have HG9 : Hid (OwnCU w9 (w5.heap.size + 1) w6.heap.size pg Z.length cg Z) := HG7.out.below hb
      have hsz9 : w6.heap.size ≤ w9.heap.size := Nat.le_trans hsz7 hb.size
      clear HA7 HB7 HX7 HU7 HY7 HV7 HG7 hb
      clear HQ9
      clear s0 s1 b0 b1 b2 x0 x1 x2
      obtain ⟨⟨s0, s1⟩, b0, b1, b2⟩ := HX.out _ HA9.out
      obtain ⟨v0, v1, v2, v3⟩ := HV9.out
      go_wp2
      have HA9d : Hid (Below W0.heap.size W0 (w9.drewN 1)) := below_drewN HA9.out 1
      have HK9 : Hid (∀ W, Below w9.heap.size w9 W → ((W.cell? ⟨w.heap.size + 1, 0, none⟩ = some (.int .i64 k) ∧ W.cell? ⟨w.heap.size + 1, 1, none⟩ = some (.int .i64 n) ∧ W.cell? ⟨w.heap.size + 1, 2, none⟩ = some (.slice pt t.length cap)) ∧ W.cell? ⟨w5.heap.size, 0, none⟩ = some (.int .i64 k) ∧ W.cell? ⟨w5.heap.size, 1, none⟩ = some (.int .i64 n) ∧ W.cell? ⟨w5.heap.size, 2, none⟩ = some (.slice (some ⟨g6, 0, none⟩) t.length t.length)) ∧ BIn W (some ⟨g6, 0, none⟩) t) := fun W hW => ⟨⟨(HX.out _ (Below.on HA9.out hW)).2, (HV9.out.on hW).1, (HV9.out.on hW).2.1, (HV9.out.on hW).2.2.1⟩, (HY9.out.on hW).1.bin⟩
      go_region_held3 (fun W => ((W.cell? ⟨w.heap.size + 1, 0, none⟩ = some (.int .i64 k) ∧ W.cell? ⟨w.heap.size + 1, 1, none⟩ = some (.int .i64 n) ∧ W.cell? ⟨w.heap.size + 1, 2, none⟩ = some (.slice pt t.length cap)) ∧ W.cell? ⟨w5.heap.size, 0, none⟩ = some (.int .i64 k) ∧ W.cell? ⟨w5.heap.size, 1, none⟩ = some (.int .i64 n) ∧ W.cell? ⟨w5.heap.size, 2, none⟩ = some (.slice (some ⟨g6, 0, none⟩) t.length t.length))) (first | exact kk | go_keep)
        (first
          | (go_at_call 13; refine Calls.mono (HTC.out _ HA9d.out) ?_; rintro e w10 ⟨g9, rfl, hs, hb⟩; have HQ10 : Hid (Below w9.heap.size w9 w10) := (below_drewN (Below.refl _ _) 1).trans hb; have HC10 : Hid (BIn w10 (some ⟨g9, 0, none⟩) t) := hs.toT.bin; have kk := (HK9.out _ HQ10.out).1; clear hs hb)
          | (go_at_call 15; have HQ := eqCell_any k n k n (some ⟨g6, 0, none⟩) (some ⟨g9, 0, none⟩) t.length t.length t.length t.length t t w10 rfl rfl (by omega) (by omega) (HK9.out _ HQ10.out).2 HC10.out; rw [decide_eq_true (rfl : ((k, n, t) : Cel) = (k, n, t))] at HQ; refine Calls.mono HQ ?_; clear HQ; rintro e w11 ⟨rfl, hb⟩; have HQ11 : Hid (Below w9.heap.size w9 w11) := Below.on HQ10.out hb; have kk := (HK9.out _ HQ11.out).1; clear hb))
      rename_i hheld; clear hheld
      clear kk HK9 HA9d HQ10 HC10
      have hb : Below w9.heap.size w9 w11 := HQ11.out
      have HA11 : Hid (Below W0.heap.size W0 w11) := Below.on HA9.out hb
      have HB11 : Hid (Below w3.heap.size w3 w11) := Below.on HB9.out hb
      have HX11 : Hid (OwnCU w11 w3.heap.size M4 (some ⟨g4, 0, none⟩) xs.length xs.length xs ∧ OwnIU w11 M4 w4.heap.size (some ⟨g5, 0, none⟩) tr.length tr.length tr) := ⟨HX9.out.1.below hb, HX9.out.2.on hb⟩
      have HU11 : Hid (Box2 w11 w4.heap.size (.slice (some ⟨g4, 0, none⟩) xs.length xs.length) (.slice (some ⟨g5, 0, none⟩) tr.length tr.length)) := HU9.out.on hb
      have HY11 : Hid (OwnTU w11 (w4.heap.size + 1) w5.heap.size (some ⟨g6, 0, none⟩) t.length t.length t) := HY9.out.on hb
      have HV11 : Hid (Box3 w11 w5.heap.size (.int .i64 k) (.int .i64 n) (.slice (some ⟨g6, 0, none⟩) t.length t.length)) := HV9.out.on hb
      have HG11 : Hid (OwnCU w11 (w5.heap.size + 1) w6.heap.size pg Z.length cg Z) := HG9.out.below hb
      have hsz11 : w6.heap.size ≤ w11.heap.size := Nat.le_trans hsz9 hb.size
      clear HA9 HB9 HX9 HU9 HY9 HV9 HG9 hb
      clear HQ11
      clear s0 s1 b0 b1 b2 v0 v1 v2 v3
      obtain ⟨x0, x1, x2⟩ := HU11.out
      go_wp2_with fail
      refine Calls.mono (markStore_any w3.heap.size M4 w4.heap.size (some ⟨g4, 0, none⟩) (some ⟨g5, 0, none⟩) xs.length tr.length xs.length tr.length 1 xs tr w11 (by decide) (by decide) (by omega) (by omega) hM41 hM42 (by omega) HX11.out.2.2 HX11.out.1 HX11.out.2.1) ?_
      rintro e w12 ⟨rfl, _, hk⟩
      clear x0 x1 x2
      have HA12 : Hid (Below W0.heap.size W0 w12) := HA11.out.trans (hk.below (by omega) HA11.out.size)
      have HB12 : Hid (Below w3.heap.size w3 w12) := HB11.out.trans (hk.below (by omega) HB11.out.size)
      have HU12 : Hid (Box2 w12 w4.heap.size (.slice (some ⟨g4, 0, none⟩) xs.length xs.length) (.slice (some ⟨g5, 0, none⟩) tr.length tr.length)) := HU11.out.keep hk (by omega)
      have HY12 : Hid (OwnTU w12 (w4.heap.size + 1) w5.heap.size (some ⟨g6, 0, none⟩) t.length t.length t) := HY11.out.keep hk (by omega)
      have HV12 : Hid (Box3 w12 w5.heap.size (.int .i64 k) (.int .i64 n) (.slice (some ⟨g6, 0, none⟩) t.length t.length)) := HV11.out.keep hk (by omega)
      have HG12 : Hid (OwnCU w12 (w5.heap.size + 1) w6.heap.size pg Z.length cg Z) := HG11.out.keep hk (by omega)
      have hsz12 : w6.heap.size ≤ w12.heap.size := Nat.le_trans hsz11 hk.size
      clear HA11 HB11 HU11 HY11 HV11 HG11 HX11 hk
      obtain ⟨k1, ek1⟩ : ∃ k1, k1 = endC 1 xs + (tr.length : Int) := ⟨_, rfl⟩
      have hk1 : 0 ≤ k1 ∧ k1 ≤ 10000000 := by rw [ek1, endC_eqM]; omega
      rw [← ek1]
      clear ek1
      obtain ⟨v0, v1, v2, v3⟩ := HV12.out
      go_wp2_with fail
      refine Calls.mono (markCell_any (w4.heap.size + 1) w5.heap.size k n (some ⟨g6, 0, none⟩) t.length t.length k1 t w12 hk1.1 (by omega) (by omega) HY12.out.2 HY12.out.1) ?_
      rintro e w13 ⟨rfl, _, hk⟩
      clear v0 v1 v2 v3
      have HA13 : Hid (Below W0.heap.size W0 w13) := HA12.out.trans (hk.below (by omega) HA12.out.size)
      have HB13 : Hid (Below w3.heap.size w3 w13) := HB12.out.trans (hk.below (by omega) HB12.out.size)
      have HU13 : Hid (Box2 w13 w4.heap.size (.slice (some ⟨g4, 0, none⟩) xs.length xs.length) (.slice (some ⟨g5, 0, none⟩) tr.length tr.length)) := HU12.out.keep hk (by omega)
      have HV13 : Hid (Box3 w13 w5.heap.size (.int .i64 k) (.int .i64 n) (.slice (some ⟨g6, 0, none⟩) t.length t.length)) := HV12.out.keep hk (by omega)
      have HG13 : Hid (OwnCU w13 (w5.heap.size + 1) w6.heap.size pg Z.length cg Z) := HG12.out.keep hk (by omega)
      have hsz13 : w6.heap.size ≤ w13.heap.size := Nat.le_trans hsz12 hk.size
      clear HA12 HB12 HU12 HV12 HG12 HY12 hk
      obtain ⟨k2, ek2⟩ : ∃ k2, k2 = k1 + (t.length : Int) := ⟨_, rfl⟩
      have hk2 : ¬ k2 < 0 := by omega
      rw [← ek2]
      clear ek2
      go_wp2_with fail
      have HQ := eqCellS_any pg pw cg cw Z Z w13 (by omega) (by omega) HG13.out.toC.cin (HW3.out.below HB13.out)
      rw [decide_eq_true (rfl : Z = Z)] at HQ
      refine Calls.mono HQ ?_
      rintro e w14 ⟨rfl, hb⟩
      clear HQ
      have HA14 : Hid (Below W0.heap.size W0 w14) := Below.on HA13.out hb
      have HB14 : Hid (Below w3.heap.size w3 w14) := Below.on HB13.out hb
      have HU14 : Hid (Box2 w14 w4.heap.size (.slice (some ⟨g4, 0, none⟩) xs.length xs.length) (.slice (some ⟨g5, 0, none⟩) tr.length tr.length)) := HU13.out.on hb
      have HV14 : Hid (Box3 w14 w5.heap.size (.int .i64 k) (.int .i64 n) (.slice (some ⟨g6, 0, none⟩) t.length t.length)) := HV13.out.on hb
      have HG14 : Hid (OwnCU w14 (w5.heap.size + 1) w6.heap.size pg Z.length cg Z) := HG13.out.below hb
      have hsz14 : w6.heap.size ≤ w14.heap.size := Nat.le_trans hsz13 hb.size
      clear HA13 HB13 HU13 HV13 HG13 hb
      go_wp2_with fail
      refine Calls.mono (markCells_any (w5.heap.size + 1) w6.heap.size pg Z.length cg 1 Z w14 (by decide) (by decide) (by omega) HG14.out) ?_
      rintro e w15 ⟨rfl, ho, hk⟩
      have HZ15 : Hid (CIn w15 pg (markC 1 Z)) := ho.toC.cin
      clear ho
      have HA15 : Hid (Below W0.heap.size W0 w15) := HA14.out.trans (hk.below (by omega) HA14.out.size)
      have HB15 : Hid (Below w3.heap.size w3 w15) := HB14.out.trans (hk.below (by omega) HB14.out.size)
      have HU15 : Hid (Box2 w15 w4.heap.size (.slice (some ⟨g4, 0, none⟩) xs.length xs.length) (.slice (some ⟨g5, 0, none⟩) tr.length tr.length)) := HU14.out.keep hk (by omega)
      have HV15 : Hid (Box3 w15 w5.heap.size (.int .i64 k) (.int .i64 n) (.slice (some ⟨g6, 0, none⟩) t.length t.length)) := HV14.out.keep hk (by omega)
      have hsz15 : w6.heap.size ≤ w15.heap.size := Nat.le_trans hsz14 hk.size
      clear HA14 HB14 HU14 HV14 HG14 hk
      obtain ⟨mm, emm⟩ : ∃ m : Int, m = endC 1 Z := ⟨_, rfl⟩
      have hmm : ¬ mm < 0 := by rw [emm, endC_eqM]; omega
      have HMM : Hid (mm = endC 1 Z) := emm
      rw [← emm]
      clear emm
      have hmq : (mm != mm) = false := by simp
      go_wp2_with fail
      refine Calls.mono (heldCells_any pg Z.length cg 1 Z w15 (by decide) (by decide) (by omega) rfl HZ15.out) ?_
      rintro e w16 ⟨rfl, hww⟩
      have hb : Below w15.heap.size w15 w16 := by rw [hww]; exact Below.refl _ _
      rw [← HMM.out]
      clear hww
      have HA16 : Hid (Below W0.heap.size W0 w16) := Below.on HA15.out hb
      have HB16 : Hid (Below w3.heap.size w3 w16) := Below.on HB15.out hb
      have HU16 : Hid (Box2 w16 w4.heap.size (.slice (some ⟨g4, 0, none⟩) xs.length xs.length) (.slice (some ⟨g5, 0, none⟩) tr.length tr.length)) := HU15.out.on hb
      have HV16 : Hid (Box3 w16 w5.heap.size (.int .i64 k) (.int .i64 n) (.slice (some ⟨g6, 0, none⟩) t.length t.length)) := HV15.out.on hb
      have HZ16 : Hid (CIn w16 pg (markC 1 Z)) := HZ15.out.below hb
      have hsz16 : w6.heap.size ≤ w16.heap.size := Nat.le_trans hsz15 hb.size
      clear HA15 HB15 HU15 HV15 HZ15 hb
      obtain ⟨⟨s0, s1⟩, b0, b1, b2⟩ := HX.out _ HA16.out
      have hge16 : w.heap.size + 1 + 1 ≤ w16.heap.size := by have := HA16.out.size; have h2 := HZ0.out; omega
      go_wp2
      have HD0 : Hid (Below W0.heap.size W0 (w16.drewN 1)) := below_drewN HA16.out 1
      go_region_held3 (fun W => (W.cell? ⟨w.heap.size, 0, none⟩ = some (.slice p xs.length c1) ∧ W.cell? ⟨w.heap.size, 1, none⟩ = some (.slice q tr.length c2)) ∧ W.cell? ⟨w.heap.size + 1, 0, none⟩ = some (.int .i64 k) ∧ W.cell? ⟨w.heap.size + 1, 1, none⟩ = some (.int .i64 n) ∧ W.cell? ⟨w.heap.size + 1, 2, none⟩ = some (.slice pt t.length cap)) (first | exact kk | go_keep)
        (first
          | (go_at_call 12; refine Calls.mono (HTS.out _ HD0.out) ?_; rintro e w16a ⟨g1, g2, rfl, ⟨M, hc, hi, hM1, hM2⟩, hb⟩; have hbn : Below (w16.drewN 1).heap.size (w16.drewN 1) w16a := hb; have HD1 : Hid (Below W0.heap.size W0 w16a) := Below.on HD0.out hbn; have HQ1 : Hid (Below w16.heap.size w16 w16a) := (below_drewN (Below.refl _ _) 1).trans hbn; have HC1 : Hid (CIn w16a (some ⟨g1, 0, none⟩) xs) := hc.toC.cin; have HI1 : Hid (IIn w16a (some ⟨g2, 0, none⟩) tr) := hi.iin; have kk := HX.out _ HD1.out; clear hc hi hM1 hM2; clear hb hbn)
          | (go_at_call 13; refine Calls.mono (HTC.out _ HD1.out) ?_; rintro e w16b ⟨g3, rfl, hs, hb⟩; have hbn : Below w16a.heap.size w16a w16b := hb; have HD2 : Hid (Below W0.heap.size W0 w16b) := Below.on HD1.out hbn; have HQ2 : Hid (Below w16.heap.size w16 w16b) := Below.on HQ1.out hbn; have HC2 : Hid (CIn w16b (some ⟨g1, 0, none⟩) xs) := HC1.out.below hbn; have HI2 : Hid (IIn w16b (some ⟨g2, 0, none⟩) tr) := HI1.out.below hbn; have HT2 : Hid (BIn w16b (some ⟨g3, 0, none⟩) t) := hs.toT.bin; have kk := HX.out _ HD2.out; clear hs; clear hb hbn)
          | (go_at_call 21; refine Calls.mono (HIM.out _ _ _ _ HC2.out HI2.out HT2.out) ?_; rintro e w16c ⟨pp, cc, rfl, hbc, hb⟩; have hbn : Below w16b.heap.size w16b w16c := hb; have HD3 : Hid (Below W0.heap.size W0 w16c) := Below.on HD2.out hbn; have HQ3 : Hid (Below w16.heap.size w16 w16c) := Below.on HQ2.out hbn; have HBP : Hid (CIn w16c pp Z) := hbc.cin; have kk := HX.out _ HD3.out; clear hbc; clear hb hbn))
      rename_i hheld; clear hheld
      clear kk HC1 HI1 HC2 HI2 HT2 HD0 HD1 HD2 HQ1 HQ2
      have hb := HQ3.out
      have HP17 : Hid (CIn w16c pp Z) := HBP.out
      clear HD3 HBP HQ3 hge16
      clear s0 s1 b0 b1 b2
      generalize w16c = w17 at hb HP17 ⊢
      have HA17 : Hid (Below W0.heap.size W0 w17) := Below.on HA16.out hb
      have HB17 : Hid (Below w3.heap.size w3 w17) := Below.on HB16.out hb
      have HU17 : Hid (Box2 w17 w4.heap.size (.slice (some ⟨g4, 0, none⟩) xs.length xs.length) (.slice (some ⟨g5, 0, none⟩) tr.length tr.length)) := HU16.out.on hb
      have HV17 : Hid (Box3 w17 w5.heap.size (.int .i64 k) (.int .i64 n) (.slice (some ⟨g6, 0, none⟩) t.length t.length)) := HV16.out.on hb
      have HZ17 : Hid (CIn w17 pg (markC 1 Z)) := HZ16.out.below hb
      have hsz17 : w6.heap.size ≤ w17.heap.size := Nat.le_trans hsz16 hb.size
      clear HA16 HB16 HU16 HV16 HZ16 hb
      go_wp2_with fail
      have HQ := eqCellS_any pp pw cc cw Z Z w17 (by omega) (by omega) HP17.out (HW3.out.below HB17.out)
      rw [decide_eq_true (rfl : Z = Z)] at HQ
      refine Calls.mono HQ ?_
      rintro e w18 ⟨rfl, hb⟩
      clear HQ HP17
      have HA18 : Hid (Below W0.heap.size W0 w18) := Below.on HA17.out hb
      have HB18 : Hid (Below w3.heap.size w3 w18) := Below.on HB17.out hb
      have HU18 : Hid (Box2 w18 w4.heap.size (.slice (some ⟨g4, 0, none⟩) xs.length xs.length) (.slice (some ⟨g5, 0, none⟩) tr.length tr.length)) := HU17.out.on hb
      have HV18 : Hid (Box3 w18 w5.heap.size (.int .i64 k) (.int .i64 n) (.slice (some ⟨g6, 0, none⟩) t.length t.length)) := HV17.out.on hb
      have HZ18 : Hid (CIn w18 pg (markC 1 Z)) := HZ17.out.below hb
      have hsz18 : w6.heap.size ≤ w18.heap.size := Nat.le_trans hsz17 hb.size
      clear HA17 HB17 HU17 HV17 HZ17 hb
      go_wp2_with fail
      refine Calls.mono (heldCells_any pg Z.length cg 1 Z w18 (by decide) (by decide) (by omega) rfl HZ18.out) ?_
      rintro e w19 ⟨rfl, hww⟩
      have hb : Below w18.heap.size w18 w19 := by rw [hww]; exact Below.refl _ _
      rw [← HMM.out]
      clear hww
      have HA19 : Hid (Below W0.heap.size W0 w19) := Below.on HA18.out hb
      have HB19 : Hid (Below w3.heap.size w3 w19) := Below.on HB18.out hb
      have HU19 : Hid (Box2 w19 w4.heap.size (.slice (some ⟨g4, 0, none⟩) xs.length xs.length) (.slice (some ⟨g5, 0, none⟩) tr.length tr.length)) := HU18.out.on hb
      have HV19 : Hid (Box3 w19 w5.heap.size (.int .i64 k) (.int .i64 n) (.slice (some ⟨g6, 0, none⟩) t.length t.length)) := HV18.out.on hb
      have HZ19 : Hid (CIn w19 pg (markC 1 Z)) := HZ18.out.below hb
      have hsz19 : w6.heap.size ≤ w19.heap.size := Nat.le_trans hsz18 hb.size
      clear HA18 HB18 HU18 HV18 HZ18 hb
      go_wp2_with fail
      go_ret
      exact ⟨rfl, (HL.out _ HA19.out).2.2.2⟩
    · have er2 : szR r t.length = -1 := by rw [szR, if_neg hm]
      rw [er2] at H2
      rw [eW0] at HS1
      clear er2 eW0 hm
      go_enter Try.func4, Try.ntmps4
      go_wp2_with fail
      refine HS1.mono ?_
      rintro e w1 ⟨rfl, hb⟩
      rw [← HE0.out] at hb
      have HB1 : Hid (Below W0.heap.size W0 w1) := hb
      obtain ⟨⟨s0, s1⟩, b0, b1, b2⟩ := HX.out _ hb
      clear hb HS1
      go_wp2_with fail
      refine (H2 _).mono ?_
      rintro e w2 ⟨rfl, hb⟩
      have HB2 : Hid (Below W0.heap.size W0 w2) := Below.on HB1.out hb
      clear hb H2 s0 s1 b0 b1 b2
      go_wp2
      go_ret
      exact ⟨rfl, (HL.out _ HB2.out).2.2.2⟩
  · have er : szR 1048576 (xs.length + tl xs + tr.length) = -1 := by rw [szR, if_neg hn]
    rw [er, eW0] at HS1
    clear er eW0 hn
    go_enter Try.func4, Try.ntmps4
    go_wp2_with fail
    refine HS1.mono ?_
    rintro e w1 ⟨rfl, hb⟩
    rw [← HE0.out] at hb
    have HB1 : Hid (Below W0.heap.size W0 w1) := hb
    clear hb HS1
    go_wp2
    go_ret
    exact ⟨rfl, (HL.out _ HB1.out).2.2.2⟩

end Go.Proofs.Ytfnmoaiejpkocaa

