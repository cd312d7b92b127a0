/- Texts of LawUw. Own work of the verifier. -/
import Derived.Test.YtcdcdpmjibcolaaUqav
namespace Go.Proofs.Ytcdcdpmjibcolaa
open Go Go.RowKit
set_option linter.unusedVariables false

theorem tl_le100 : ∀ cs : List Cel, (∀ c ∈ cs, c.2.2.length ≤ 100) → tl cs ≤ 100 * cs.length
  | [], _ => by simp [tl]
  | a :: r, h => by
    have h1 := tl_le100 r (fun c hc => h c (by simp [hc]))
    have h2 := h a (by simp)
    simp only [tl, List.length_cons]
    omega
theorem unwA_size (xs : List Cel) (tr : List Int) (mark top : Int) : (unwA xs tr mark top).1.1.length + tl (unwA xs tr mark top).1.1 ≤ 3000000 ∧ (unwA xs tr mark top).1.2.length ≤ 20000 := by
  unfold unwA
  split
  · rename_i hb
    split
    · have hs : storeB xs tr = true := by unfold unwB at hb; rw [Bool.and_eq_true] at hb; exact hb.1
      obtain ⟨hl, ht, _⟩ := storeB_parts hs
      have hok := storeB_ok hs
      have h1 : (unwX xs tr mark top).length ≤ 20000 := by unfold unwX; rw [List.length_take, unwC_len]; omega
      have h2 : (unwT tr mark).length ≤ 20000 := by unfold unwT; rw [List.length_take]; omega
      have h3 := tl_le100 (unwX xs tr mark top) (fun c hc => by
        obtain ⟨i, hi, rfl⟩ := List.mem_iff_getElem.1 hc
        have := unwX_all (P := fun c => c.2.2.length ≤ 100) (xs := xs) (tr := tr) (mark := mark) (top := top) (fun i hi => by
          have := hok i hi
          generalize (xs.getD i Cel.none).2.2.length = m at this ⊢
          unfold okW at this
          split at this
          · simp at this; omega
          · simp only [cellB, decide_eq_true_eq] at this; omega) (fun i hi => by simp) i hi
        simpa [List.getD, hi] using this)
      exact ⟨by show (unwX xs tr mark top).length + tl (unwX xs tr mark top) ≤ _; omega, h2⟩
    · simp [tl]
  · simp [tl]
set_option maxRecDepth 100000 in
theorem markStoreT_any (B M U : Nat) (p q : Option Addr) (n m c1 c2 : Nat) (k : Int) (xs : List Cel) (tr : List Int) (w : World) (h0 : 0 ≤ k) (h1 : k ≤ 10000000) (hx : xs.length + tl xs ≤ 100000000) (hm : m ≤ 100000000) (hBM : B ≤ M) (hMU : M ≤ U) (hU : U ≤ w.heap.size) (hown : OwnCU w M U p n c1 xs) (hint : OwnIU w B M q m c2 tr) :
    Calls Try.prog 17 #[.agg #[.slice p n c1, .slice q m c2], .int .i64 k] w fun e w' => e = .returned (.int .i64 (endC k xs + m)) ∧ (CIn w' p (markC k xs) ∧ IIn w' q (ups (endC k xs) m)) ∧ Keep B U w w' := by
  obtain ⟨W0, eW0⟩ : ∃ W0, W0 = w.alloc (.cells #[.slice p n c1, .slice q m c2] 36) := ⟨_, rfl⟩
  have hb0 : Below w.heap.size w W0 := by rw [eW0]; exact (Below.refl _ _).alloc (Nat.le_refl _) _
  have H1 := markCells_any M U p n c1 k xs W0 h0 h1 hx (hown.below hb0)
  have k0 : W0.heap[w.heap.size]? = some (.cells #[.slice p n c1, .slice q m c2] 36) := by rw [eW0]; exact heap_alloc_new _ _
  have hz : W0.heap.size = w.heap.size + 1 := by rw [eW0]; simp
  have HI : Hid (OwnIU W0 B M q m c2 tr) := hint.on hb0
  have hke : 0 ≤ endC k xs ∧ endC k xs ≤ 1000000000000 := by rw [endC_eqM]; omega
  generalize endC k xs = ke at H1 hke ⊢
  have HC : Hid (∀ w1, Keep M U W0 w1 → w1.cell? ⟨w.heap.size, 1, none⟩ = some (.slice q m c2) ∧ OwnIU w1 B M q m c2 tr) := fun w1 hk => by
    have j0 := (hk.block w.heap.size (by omega) (by omega)).trans k0
    exact ⟨by simp [World.cell?, j0], HI.out.keep hk (.inl (Nat.le_refl _))⟩
  have HF : Hid (∀ w1 w2, Keep M U W0 w1 → w1.grownBy w2 (Value.ownBlock (.slice q m c2)) → OwnCU w1 M U p n c1 (markC k xs) → CIn w2 p (markC k xs) ∧ Keep B U w w2) := fun w1 w2 hk hg ho => by
    have hrow : ∀ g, Value.ownBlock (.slice q m c2) = some g → B ≤ g ∧ g < M := fun g e => ⟨(HI.out.1.2.lt g e).1, HI.out.2 g e⟩
    refine ⟨(ho.other hg.size (fun j hj hj1 hj2 => hg.block j hj (fun e => by have := hrow j e.symm; omega))).toC.cin, ?_⟩
    have a1 : Keep B U w W0 := by rw [eW0]; exact Keep.new B U w _
    exact (a1.trans (hk.widen hBM (Nat.le_refl _))).trans (Keep.of_grown hg (fun g e => ⟨(hrow g e).1, by have := (hrow g e).2; omega⟩))
  have HM : Hid (∀ w1, OwnIU w1 B M q m c2 tr → Calls Try.prog 48 #[.slice q m c2, .int .i64 ke] w1 fun e w' => e = .returned (.int .i64 (ke + m)) ∧ OwnI w' B 3 q m c2 (ups ke m) ∧ w1.grownBy w' (Value.ownBlock (.slice q m c2))) := fun w1 h => markIntS_any B q m c2 ke tr w1 hke.1 hke.2 (by omega) h.1
  rw [eW0] at H1
  have HE0 : Hid _ := eW0
  clear hown hint hb0 k0 hz hBM hMU hU HI eW0 hx
  go_enter Try.func17, Try.ntmps17
  go_wp2_with fail
  refine H1.mono ?_
  rintro e w1 ⟨rfl, ho1, hk1⟩
  rw [← HE0.out] at hk1
  obtain ⟨s1, hi1⟩ := HC.out w1 hk1
  have HM1 := HM.out w1 hi1
  have HO1 : Hid (OwnCU w1 M U p n c1 (markC k xs) ∧ Keep M U W0 w1) := ⟨ho1, hk1⟩
  clear H1 HM HC ho1 hk1 hi1
  go_wp2_with (go_at_call 48; refine HM1.mono ?_; rintro e w2 ⟨rfl, ho2, hg2⟩)
  go_ret
  obtain ⟨f1, f2⟩ := HF.out w1 w2 HO1.out.2 hg2 HO1.out.1
  exact ⟨rfl, ⟨f1, ho2.iin⟩, f2⟩

set_option maxHeartbeats 16000000 in
set_option maxRecDepth 100000 in
theorem lawUw_any (p q : Option Addr) (c1 c2 : Nat) (mark top : Int) (xs : List Cel) (tr : List Int) (w : World) (hx : CArg w p xs) (hy : IArg w q tr) :
    Calls Try.prog 4 #[.agg #[.slice p xs.length c1, .slice q tr.length c2], .int .i64 mark, .int .i64 top] w fun e w' => e = .returned (.bool true) ∧ Below w.heap.size w w' := by
  obtain ⟨W0, eW0⟩ : ∃ W0, W0 = w.alloc (.cells #[.slice p xs.length c1, .slice q tr.length c2] 25) := ⟨_, rfl⟩
  have hb0 : Below w.heap.size w W0 := by rw [eW0]; exact (Below.refl _ _).alloc (Nat.le_refl _) _
  have hz0 : W0.heap.size = w.heap.size + 1 := by rw [eW0]; simp
  have k0 : W0.heap[w.heap.size]? = some (.cells #[.slice p xs.length c1, .slice q tr.length c2] 25) := by
    rw [eW0]; exact heap_alloc_new _ _
  have HX : Hid (∀ W, Below W0.heap.size W0 W → (W.cell? ⟨w.heap.size, 0, none⟩ = some (.slice p xs.length c1) ∧ W.cell? ⟨w.heap.size, 1, none⟩ = some (.slice q tr.length c2))) := fun W hW => by
    have j0 := (hW.block w.heap.size (by omega)).trans k0
    exact ⟨by simp [World.cell?, j0], by simp [World.cell?, j0]⟩
  have HL : Hid (∀ W, Below W0.heap.size W0 W → CIn W p xs ∧ IIn W q tr ∧ Below w.heap.size w W) := fun W hW => by
    have hb := Below.on hb0 hW
    exact ⟨hx.lies.below hb, hy.lies.below hb, hb⟩
  have HS1 := szStore_any p q c1 c2 xs tr 1048576 W0 (Nat.le_refl _) (hx.below hb0) (hy.below hb0)
  have HE0 : Hid _ := eW0
  have HZ0 : Hid _ := hz0
  have HBX : Hid _ := hx.byte
  clear hx hy k0 hb0 hz0
  by_cases hn : xs.length + tl xs + tr.length ≤ 1048576
  · obtain ⟨r, er⟩ : ∃ r : Nat, szR 1048576 (xs.length + tl xs + tr.length) = r := ⟨1048576 - (xs.length + tl xs + tr.length), by rw [szR, if_pos hn]; omega⟩
    rw [er] at HS1
    clear er
    rw [eW0] at HS1
    clear eW0
    have hxn : xs.length + tl xs ≤ 1048576 := by omega
    have htr : tr.length ≤ 1048576 := by omega
    clear hn
    obtain ⟨AA, eA⟩ : ∃ A, A = unwA xs tr mark top := ⟨_, rfl⟩
    have hsz : AA.1.1.length + tl AA.1.1 ≤ 3000000 ∧ AA.1.2.length ≤ 20000 := by rw [eA]; exact unwA_size _ _ _ _
    have HTS : Hid (∀ W, Below W0.heap.size W0 W → Calls Try.prog 12 #[.agg #[.slice p xs.length c1, .slice q tr.length c2]] W fun e w' => ∃ g1 g2, e = .returned (.agg #[.slice (some ⟨g1, 0, none⟩) xs.length xs.length, .slice (some ⟨g2, 0, none⟩) tr.length tr.length]) ∧ (∃ M, OwnCU w' W.heap.size M (some ⟨g1, 0, none⟩) xs.length xs.length xs ∧ OwnI w' M 3 (some ⟨g2, 0, none⟩) tr.length tr.length tr ∧ W.heap.size ≤ M ∧ M ≤ w'.heap.size) ∧ Below W.heap.size W w') := fun W hW => toStoreU_any p q c1 c2 xs tr W hxn htr (HL.out W hW).1 (HL.out W hW).2.1
    have HSP : Hid (∀ W a b, CIn W a xs → IIn W b tr → Calls Try.prog 20 #[.agg #[.slice a xs.length xs.length, .slice b tr.length tr.length], .int .i64 mark, .int .i64 top] W (StoreB AA W)) := fun W a b h1 h2 => by rw [eA]; exact specUnwind_any a b xs.length tr.length mark top xs tr W (by omega) (by omega) h1 h2
    have HIM : Hid (∀ W a b, CIn W a xs → IIn W b tr → Calls Try.prog 21 #[.agg #[.slice a xs.length xs.length, .slice b tr.length tr.length], .int .i64 mark, .int .i64 top] W (StoreA AA W)) := fun W a b h1 h2 => by rw [eA]; exact implUnwind_any a b xs.length tr.length mark top xs tr W (by omega) (by omega) HBX.out h1 h2
    clear eA HBX
    obtain ⟨⟨Z, T⟩, code⟩ := AA
    simp only at hsz
    have hZ : Z.length + tl Z ≤ 3000000 := hsz.1
    have hT : T.length ≤ 20000 := hsz.2
    clear hsz
    go_enter Try.func4, Try.ntmps4
    go_wp2_with fail
    refine HS1.mono ?_
    rintro e w2 ⟨rfl, hb⟩
    rw [← HE0.out] at hb
    have HA2 : Hid (Below W0.heap.size W0 w2) := hb
    clear hb HS1
    obtain ⟨s0, s1⟩ := HX.out _ HA2.out
    have hge2 : w.heap.size + 1 ≤ w2.heap.size := by have := HA2.out.size; have h2 := HZ0.out; omega
    go_wp2_with fail
    refine Calls.mono (HTS.out _ HA2.out) ?_
    rintro e w2a ⟨g12, g22, rfl, ⟨M, hc, hi, hM1, hM2⟩, hb⟩
    have HDw2a : Hid (Below w2.heap.size w2 w2a) := hb
    have HCw2a : Hid (CIn w2a (some ⟨g12, 0, none⟩) xs ∧ IIn w2a (some ⟨g22, 0, none⟩) tr) := ⟨hc.toC.cin, hi.iin⟩
    clear hc hi hM1 hM2 hb
    obtain ⟨s0, s1⟩ := HX.out _ (Below.on HA2.out HDw2a.out)
    go_wp2_with fail
    refine Calls.mono (HSP.out _ _ _ HCw2a.out.1 HCw2a.out.2) ?_
    rintro e w2b ⟨pp2, qq2, cc2, dd2, rfl, hbc, hbi, hb⟩
    have HBP2 : Hid (OwnC w2b w2a.heap.size pp2 Z.length cc2 Z ∧ OwnI w2b w2a.heap.size 3 qq2 T.length dd2 T) := ⟨hbc, hbi⟩
    obtain ⟨w3, ew3⟩ : ∃ W, W = w2b.alloc (.cells #[.slice pp2 Z.length cc2, .slice qq2 T.length dd2] 36) := ⟨_, rfl⟩
    have hF5 : Below w2.heap.size w2 w3 := by rw [ew3]; exact Below.on (Below.on HDw2a.out hb) (alloc_on _ _)
    have hF2 : Below W0.heap.size W0 w3 := Below.on HA2.out hF5
    have hF1 : Box2 w3 w2b.heap.size (.slice pp2 Z.length cc2) (.slice qq2 T.length dd2) := by rw [ew3]; exact Box2.of_block (t := 36) (heap_alloc_new _ _)
    have hF3 : CIn w3 pp2 Z ∧ IIn w3 qq2 T := by rw [ew3]; exact ⟨HBP2.out.1.cin.below (alloc_on _ _), HBP2.out.2.iin.below (alloc_on _ _)⟩
    have HE3 : Hid _ := ew3
    have hbw3 : w2b.heap.size < w3.heap.size := hF1.lt
    clear hbc hbi hb HBP2 HCw2a HDw2a ew3 HSP
    have HA3 : Hid (Below W0.heap.size W0 w3) := hF2
    have HW3 : Hid (Box2 w3 w2b.heap.size (.slice pp2 Z.length cc2) (.slice qq2 T.length dd2) ∧ CIn w3 pp2 Z ∧ IIn w3 qq2 T) := ⟨hF1, hF3⟩
    have hge3 : w.heap.size + 1 ≤ w3.heap.size := by have := HA3.out.size; have h2 := HZ0.out; omega
    clear hF1 hF2 hF3 hF5 s0 s1 HA2 hge2
    obtain ⟨s0, s1⟩ := HX.out _ HA3.out
    rw [HE3.out] at s0 s1
    go_wp2_with fail
    rw [← HE3.out]
    clear HE3
    refine Calls.mono (HTS.out _ HA3.out) ?_
    rintro e w4 ⟨g4, g5, rfl, ⟨M4, hc, hi, hM1, hM2⟩, hb⟩
    obtain ⟨oS, eoS⟩ : ∃ o : Obj, o = .cells #[.slice (some ⟨g4, 0, none⟩) xs.length xs.length, .slice (some ⟨g5, 0, none⟩) tr.length tr.length] 36 := ⟨_, rfl⟩
    have HA5 : Hid (Below W0.heap.size W0 (w4.alloc oS)) := Below.on (Below.on HA3.out hb) (alloc_on _ _)
    have HB5 : Hid (Below w3.heap.size w3 (w4.alloc oS)) := Below.on hb (alloc_on _ _)
    have HX5 : Hid (OwnCU (w4.alloc oS) w3.heap.size M4 (some ⟨g4, 0, none⟩) xs.length xs.length xs ∧ OwnIU (w4.alloc oS) M4 w4.heap.size (some ⟨g5, 0, none⟩) tr.length tr.length tr) := ⟨hc.below (alloc_on _ _), hi.up.on (alloc_on _ _)⟩
    have HBX5 : Hid (Box2 (w4.alloc oS) w4.heap.size (.slice (some ⟨g4, 0, none⟩) xs.length xs.length) (.slice (some ⟨g5, 0, none⟩) tr.length tr.length)) := by show Box2 _ _ _ _; rw [eoS]; exact Box2.of_block (t := 36) (heap_alloc_new _ _)
    have hz4 : (w4.alloc oS).heap.size = w4.heap.size + 1 := by simp
    have hM41 : w3.heap.size ≤ M4 := hM1
    have hM42 : M4 ≤ w4.heap.size := hM2
    obtain ⟨x0, x1, x2⟩ := HBX5.out
    rw [eoS] at x0 x1 x2
    have HO4 : Hid (oS = .cells #[.slice (some ⟨g4, 0, none⟩) xs.length xs.length, .slice (some ⟨g5, 0, none⟩) tr.length tr.length] 36) := eoS
    clear hc hi hb hM1 hM2 s0 s1 eoS
    go_wp2_with fail
    rw [← HO4.out]
    refine Calls.mono (HIM.out _ _ _ HX5.out.1.toC.cin HX5.out.2.1.iin) ?_
    rintro e w6 ⟨pg, qg, cg, dg, M6, rfl, hoi, hoc, hq1, hq2, hb⟩
    obtain ⟨oG, eoG⟩ : ∃ o : Obj, o = .cells #[.slice pg Z.length cg, .slice qg T.length dg] 36 := ⟨_, rfl⟩
    have hb' : Below (w4.alloc oS).heap.size (w4.alloc oS) (w6.alloc oG) := Below.on hb (alloc_on _ _)
    rw [hz4] at hoi hq1
    have HA6 : Hid (Below W0.heap.size W0 (w6.alloc oG)) := Below.on HA5.out hb'
    have HB6 : Hid (Below w3.heap.size w3 (w6.alloc oG)) := Below.on HB5.out hb'
    have HX6 : Hid (OwnCU (w6.alloc oG) w3.heap.size M4 (some ⟨g4, 0, none⟩) xs.length xs.length xs ∧ OwnIU (w6.alloc oG) M4 w4.heap.size (some ⟨g5, 0, none⟩) tr.length tr.length tr) := ⟨HX5.out.1.below hb', HX5.out.2.on hb'⟩
    have HU6 : Hid (Box2 (w6.alloc oG) w4.heap.size (.slice (some ⟨g4, 0, none⟩) xs.length xs.length) (.slice (some ⟨g5, 0, none⟩) tr.length tr.length)) := HBX5.out.on hb'
    have HG6 : Hid (OwnCU (w6.alloc oG) M6 w6.heap.size pg Z.length cg Z ∧ OwnIU (w6.alloc oG) (w4.heap.size + 1) M6 qg T.length dg T) := ⟨hoc.below (alloc_on _ _), hoi.on (alloc_on _ _)⟩
    have HH6 : Hid (Box2 (w6.alloc oG) w6.heap.size (.slice pg Z.length cg) (.slice qg T.length dg)) := by show Box2 _ _ _ _; rw [eoG]; exact Box2.of_block (t := 36) (heap_alloc_new _ _)
    obtain ⟨y0, y1, y2⟩ := HH6.out
    obtain ⟨z0, z1, z2⟩ := HW3.out.1.on HB6.out
    rw [eoG] at y0 y1 y2 z0 z1 z2
    have HOG : Hid (oG = .cells #[.slice pg Z.length cg, .slice qg T.length dg] 36) := eoG
    have hcc : (code != code) = false := by simp
    have hz03 : W0.heap.size ≤ w3.heap.size := HA3.out.size
    have hq1' : w4.heap.size + 1 ≤ M6 := hq1
    have hq2' : M6 ≤ w6.heap.size := hq2
    clear hb hb' hoi hoc hq1 hq2 eoG HA5 HB5 HX5 HBX5 x0 x1 x2 HO4 hz4
    go_wp2_with fail
    rw [← HOG.out]
    refine Calls.mono (eqStore_any pg qg pp2 qq2 cg dg cc2 dd2 Z T (w6.alloc oG) (by omega) (by omega) HG6.out.1.toC.cin HG6.out.2.1.iin (HW3.out.2.1.below HB6.out) (HW3.out.2.2.below HB6.out)) ?_
    rintro e w7 ⟨rfl, hb⟩
    clear y0 y1 y2 z0 z1 z2
    have HA7 : Hid (Below W0.heap.size W0 w7) := Below.on HA6.out hb
    have HB7 : Hid (Below w3.heap.size w3 w7) := Below.on HB6.out hb
    have HX7 : Hid (OwnCU w7 w3.heap.size M4 (some ⟨g4, 0, none⟩) xs.length xs.length xs ∧ OwnIU w7 M4 w4.heap.size (some ⟨g5, 0, none⟩) tr.length tr.length tr) := ⟨HX6.out.1.below hb, HX6.out.2.on hb⟩
    have HU7 : Hid (Box2 w7 w4.heap.size (.slice (some ⟨g4, 0, none⟩) xs.length xs.length) (.slice (some ⟨g5, 0, none⟩) tr.length tr.length)) := HU6.out.on hb
    have HG7 : Hid (OwnCU w7 M6 w6.heap.size pg Z.length cg Z ∧ OwnIU w7 (w4.heap.size + 1) M6 qg T.length dg T) := ⟨HG6.out.1.below hb, HG6.out.2.on hb⟩
    have HH7 : Hid (Box2 w7 w6.heap.size (.slice pg Z.length cg) (.slice qg T.length dg)) := HH6.out.on hb
    have hsz7 : w6.heap.size + 1 ≤ w7.heap.size := Nat.le_trans (by simp) hb.size
    clear HA6 HB6 HX6 HU6 HG6 HH6 hb
    clear HOG HA3
    obtain ⟨s0, s1⟩ := HX.out _ HA7.out
    obtain ⟨x0, x1, x2⟩ := HU7.out
    go_wp2
    have HA7d : Hid (Below W0.heap.size W0 (w7.drewN 1)) := below_drewN HA7.out 1
    have HK7 : Hid (∀ W, Below w7.heap.size w7 W → ((W.cell? ⟨w.heap.size, 0, none⟩ = some (.slice p xs.length c1) ∧ W.cell? ⟨w.heap.size, 1, none⟩ = some (.slice q tr.length c2)) ∧ W.cell? ⟨w4.heap.size, 0, none⟩ = some (.slice (some ⟨g4, 0, none⟩) xs.length xs.length) ∧ W.cell? ⟨w4.heap.size, 1, none⟩ = some (.slice (some ⟨g5, 0, none⟩) tr.length tr.length)) ∧ (CIn W (some ⟨g4, 0, none⟩) xs ∧ IIn W (some ⟨g5, 0, none⟩) tr)) := fun W hW => ⟨⟨HX.out _ (Below.on HA7.out hW), (HU7.out.on hW).1, (HU7.out.on hW).2.1⟩, (HX7.out.1.below hW).toC.cin, (HX7.out.2.on hW).1.iin⟩
    go_region_held3 (fun W => ((W.cell? ⟨w.heap.size, 0, none⟩ = some (.slice p xs.length c1) ∧ W.cell? ⟨w.heap.size, 1, none⟩ = some (.slice q tr.length c2)) ∧ W.cell? ⟨w4.heap.size, 0, none⟩ = some (.slice (some ⟨g4, 0, none⟩) xs.length xs.length) ∧ W.cell? ⟨w4.heap.size, 1, none⟩ = some (.slice (some ⟨g5, 0, none⟩) tr.length tr.length))) (first | exact kk | go_keep)
      (first
        | (go_at_call 12; refine Calls.mono (HTS.out _ HA7d.out) ?_; rintro e w8 ⟨g7, g8, rfl, ⟨M, hc, hi, hM1, hM2⟩, hb⟩; have HQ8 : Hid (Below w7.heap.size w7 w8) := (below_drewN (Below.refl _ _) 1).trans hb; have HC8 : Hid (CIn w8 (some ⟨g7, 0, none⟩) xs ∧ IIn w8 (some ⟨g8, 0, none⟩) tr) := ⟨hc.toC.cin, hi.iin⟩; have kk := (HK7.out _ HQ8.out).1; clear hc hi hM1 hM2 hb)
        | (go_at_call 16; refine Calls.mono (eqStore_any (some ⟨g4, 0, none⟩) (some ⟨g5, 0, none⟩) (some ⟨g7, 0, none⟩) (some ⟨g8, 0, none⟩) xs.length tr.length xs.length tr.length xs tr w8 (by omega) (by omega) (HK7.out _ HQ8.out).2.1 (HK7.out _ HQ8.out).2.2 HC8.out.1 HC8.out.2) ?_; rintro e w9 ⟨rfl, hb⟩; have HQ9 : Hid (Below w7.heap.size w7 w9) := Below.on HQ8.out hb; have kk := (HK7.out _ HQ9.out).1; clear hb))
    rename_i hheld; clear hheld
    clear kk HK7 HA7d HQ8 HC8
    have hb : Below w7.heap.size w7 w9 := HQ9.out
    have HA9 : Hid (Below W0.heap.size W0 w9) := Below.on HA7.out hb
    have HB9 : Hid (Below w3.heap.size w3 w9) := Below.on HB7.out hb
    have HX9 : Hid (OwnCU w9 w3.heap.size M4 (some ⟨g4, 0, none⟩) xs.length xs.length xs ∧ OwnIU w9 M4 w4.heap.size (some ⟨g5, 0, none⟩) tr.length tr.length tr) := ⟨HX7.out.1.below hb, HX7.out.2.on hb⟩
    have HU9 : Hid (Box2 w9 w4.heap.size (.slice (some ⟨g4, 0, none⟩) xs.length xs.length) (.slice (some ⟨g5, 0, none⟩) tr.length tr.length)) := HU7.out.on hb
    have HG9 : Hid (OwnCU w9 M6 w6.heap.size pg Z.length cg Z ∧ OwnIU w9 (w4.heap.size + 1) M6 qg T.length dg T) := ⟨HG7.out.1.below hb, HG7.out.2.on hb⟩
    have HH9 : Hid (Box2 w9 w6.heap.size (.slice pg Z.length cg) (.slice qg T.length dg)) := HH7.out.on hb
    have hsz9 : w6.heap.size + 1 ≤ w9.heap.size := Nat.le_trans hsz7 hb.size
    clear HA7 HB7 HX7 HU7 HG7 HH7 hb
    clear HQ9
    clear s0 s1 x0 x1 x2
    obtain ⟨x0, x1, x2⟩ := HU9.out
    go_wp2_with fail
    refine Calls.mono (markStore_any w3.heap.size M4 w4.heap.size (some ⟨g4, 0, none⟩) (some ⟨g5, 0, none⟩) xs.length tr.length xs.length tr.length 1 xs tr w9 (by decide) (by decide) (by omega) (by omega) hM41 hM42 (by omega) HX9.out.2.2 HX9.out.1 HX9.out.2.1) ?_
    rintro e w12 ⟨rfl, _, hk⟩
    clear x0 x1 x2
    have HA12 : Hid (Below W0.heap.size W0 w12) := HA9.out.trans (hk.below (by omega) HA9.out.size)
    have HB12 : Hid (Below w3.heap.size w3 w12) := HB9.out.trans (hk.below (by omega) HB9.out.size)
    have HU12 : Hid (Box2 w12 w4.heap.size (.slice (some ⟨g4, 0, none⟩) xs.length xs.length) (.slice (some ⟨g5, 0, none⟩) tr.length tr.length)) := HU9.out.keep hk (by omega)
    have HG12 : Hid (OwnCU w12 M6 w6.heap.size pg Z.length cg Z ∧ OwnIU w12 (w4.heap.size + 1) M6 qg T.length dg T) := ⟨HG9.out.1.keep hk (by omega), HG9.out.2.keep hk (by omega)⟩
    have HH12 : Hid (Box2 w12 w6.heap.size (.slice pg Z.length cg) (.slice qg T.length dg)) := HH9.out.keep hk (by omega)
    have hsz12 : w6.heap.size + 1 ≤ w12.heap.size := Nat.le_trans hsz9 hk.size
    clear HA9 HB9 HU9 HG9 HH9 HX9 hk
    obtain ⟨k1, ek1⟩ : ∃ k1, k1 = endC 1 xs + (tr.length : Int) := ⟨_, rfl⟩
    have hk1 : ¬ k1 < 0 := by rw [ek1, endC_eqM]; omega
    rw [← ek1]
    clear ek1
    obtain ⟨y0, y1, y2⟩ := HH12.out
    obtain ⟨z0, z1, z2⟩ := HW3.out.1.on HB12.out
    go_wp2_with fail
    refine Calls.mono (eqStore_any pg qg pp2 qq2 cg dg cc2 dd2 Z T w12 (by omega) (by omega) HG12.out.1.toC.cin HG12.out.2.1.iin (HW3.out.2.1.below HB12.out) (HW3.out.2.2.below HB12.out)) ?_
    rintro e w14 ⟨rfl, hb⟩
    clear y0 y1 y2 z0 z1 z2
    have HA14 : Hid (Below W0.heap.size W0 w14) := Below.on HA12.out hb
    have HB14 : Hid (Below w3.heap.size w3 w14) := Below.on HB12.out hb
    have HU14 : Hid (Box2 w14 w4.heap.size (.slice (some ⟨g4, 0, none⟩) xs.length xs.length) (.slice (some ⟨g5, 0, none⟩) tr.length tr.length)) := HU12.out.on hb
    have HG14 : Hid (OwnCU w14 M6 w6.heap.size pg Z.length cg Z ∧ OwnIU w14 (w4.heap.size + 1) M6 qg T.length dg T) := ⟨HG12.out.1.below hb, HG12.out.2.on hb⟩
    have HH14 : Hid (Box2 w14 w6.heap.size (.slice pg Z.length cg) (.slice qg T.length dg)) := HH12.out.on hb
    have hsz14 : w6.heap.size + 1 ≤ w14.heap.size := Nat.le_trans hsz12 hb.size
    clear HA12 HB12 HU12 HG12 HH12 hb
    obtain ⟨y0, y1, y2⟩ := HH14.out
    go_wp2_with fail
    refine Calls.mono (markStoreT_any (w4.heap.size + 1) M6 w6.heap.size pg qg Z.length T.length cg dg 1 Z T w14 (by decide) (by decide) (by omega) (by omega) hq1' hq2' (by omega) HG14.out.1 HG14.out.2) ?_
    rintro e w15 ⟨rfl, ho, hk⟩
    clear y0 y1 y2
    have HZ15 : Hid (CIn w15 pg (markC 1 Z) ∧ IIn w15 qg (ups (endC 1 Z) T.length)) := ho
    clear ho
    have HA15 : Hid (Below W0.heap.size W0 w15) := HA14.out.trans (hk.below (by omega) HA14.out.size)
    have HB15 : Hid (Below w3.heap.size w3 w15) := HB14.out.trans (hk.below (by omega) HB14.out.size)
    have HU15 : Hid (Box2 w15 w4.heap.size (.slice (some ⟨g4, 0, none⟩) xs.length xs.length) (.slice (some ⟨g5, 0, none⟩) tr.length tr.length)) := HU14.out.keep hk (by omega)
    have HH15 : Hid (Box2 w15 w6.heap.size (.slice pg Z.length cg) (.slice qg T.length dg)) := HH14.out.keep hk (by omega)
    have hsz15 : w6.heap.size + 1 ≤ w15.heap.size := Nat.le_trans hsz14 hk.size
    clear HA14 HB14 HU14 HH14 HG14 hk
    obtain ⟨mm, emm⟩ : ∃ m : Int, m = endC 1 Z + (T.length : Int) := ⟨_, rfl⟩
    have hmm : ¬ mm < 0 := by rw [emm, endC_eqM]; omega
    have HMM : Hid (mm = endC 1 Z + (T.length : Int)) := emm
    rw [← emm]
    clear emm
    have hmq : (mm != mm) = false := by simp
    obtain ⟨y0, y1, y2⟩ := HH15.out
    go_wp2_with fail
    refine Calls.mono (heldStore_any pg qg Z.length T.length cg dg 1 Z w15 (by decide) (by decide) (by omega) (by omega) rfl HZ15.out.1 HZ15.out.2) ?_
    rintro e w16 ⟨rfl, hb⟩
    rw [← HMM.out]
    clear y0 y1 y2
    have HA16 : Hid (Below W0.heap.size W0 w16) := Below.on HA15.out hb
    have HB16 : Hid (Below w3.heap.size w3 w16) := Below.on HB15.out hb
    have HU16 : Hid (Box2 w16 w4.heap.size (.slice (some ⟨g4, 0, none⟩) xs.length xs.length) (.slice (some ⟨g5, 0, none⟩) tr.length tr.length)) := HU15.out.on hb
    have HH16 : Hid (Box2 w16 w6.heap.size (.slice pg Z.length cg) (.slice qg T.length dg)) := HH15.out.on hb
    have HZ16 : Hid (CIn w16 pg (markC 1 Z) ∧ IIn w16 qg (ups (endC 1 Z) T.length)) := ⟨HZ15.out.1.below hb, HZ15.out.2.below hb⟩
    have hsz16 : w6.heap.size + 1 ≤ w16.heap.size := Nat.le_trans hsz15 hb.size
    clear HA15 HB15 HU15 HH15 HZ15 hb
    obtain ⟨s0, s1⟩ := HX.out _ HA16.out
    have hge16 : w.heap.size + 1 ≤ w16.heap.size := by have := HA16.out.size; have h2 := HZ0.out; omega
    go_wp2_with fail
    refine Calls.mono (HTS.out _ HA16.out) ?_
    rintro e w16a ⟨g116, g216, rfl, ⟨M, hc, hi, hM1, hM2⟩, hb⟩
    have HDw16a : Hid (Below w16.heap.size w16 w16a) := hb
    have HCw16a : Hid (CIn w16a (some ⟨g116, 0, none⟩) xs ∧ IIn w16a (some ⟨g216, 0, none⟩) tr) := ⟨hc.toC.cin, hi.iin⟩
    clear hc hi hM1 hM2 hb
    obtain ⟨s0, s1⟩ := HX.out _ (Below.on HA16.out HDw16a.out)
    go_wp2_with fail
    refine Calls.mono (HIM.out _ _ _ HCw16a.out.1 HCw16a.out.2) ?_
    rintro e w16b ⟨pp16, qq16, cc16, dd16, M2, rfl, hbi, hbc, hq3, hq4, hb⟩
    have HBP16 : Hid (OwnC w16b w16a.heap.size pp16 Z.length cc16 Z ∧ OwnI w16b w16a.heap.size 3 qq16 T.length dd16 T) := ⟨(hbc.toC.mono hq3), hbi.1⟩
    obtain ⟨w17, ew17⟩ : ∃ W, W = w16b.alloc (.cells #[.slice pp16 Z.length cc16, .slice qq16 T.length dd16] 36) := ⟨_, rfl⟩
    have hF5 : Below w16.heap.size w16 w17 := by rw [ew17]; exact Below.on (Below.on HDw16a.out hb) (alloc_on _ _)
    have hF2 : Below W0.heap.size W0 w17 := Below.on HA16.out hF5
    have hF1 : Box2 w17 w16b.heap.size (.slice pp16 Z.length cc16) (.slice qq16 T.length dd16) := by rw [ew17]; exact Box2.of_block (t := 36) (heap_alloc_new _ _)
    have hF3 : CIn w17 pp16 Z ∧ IIn w17 qq16 T := by rw [ew17]; exact ⟨HBP16.out.1.cin.below (alloc_on _ _), HBP16.out.2.iin.below (alloc_on _ _)⟩
    have HE17 : Hid _ := ew17
    have hbw17 : w16b.heap.size < w17.heap.size := hF1.lt
    clear hbc hbi hb HBP16 HCw16a HDw16a ew17 hq3 hq4
    have HP17 : Hid (Box2 w17 w16b.heap.size (.slice pp16 Z.length cc16) (.slice qq16 T.length dd16) ∧ CIn w17 pp16 Z ∧ IIn w17 qq16 T) := ⟨hF1, hF3⟩
    have hb := hF5
    clear hF1 hF2 hF3 hF5 hge16
    clear s0 s1
    have HA17 : Hid (Below W0.heap.size W0 w17) := Below.on HA16.out hb
    have HB17 : Hid (Below w3.heap.size w3 w17) := Below.on HB16.out hb
    have HU17 : Hid (Box2 w17 w4.heap.size (.slice (some ⟨g4, 0, none⟩) xs.length xs.length) (.slice (some ⟨g5, 0, none⟩) tr.length tr.length)) := HU16.out.on hb
    have HH17 : Hid (Box2 w17 w6.heap.size (.slice pg Z.length cg) (.slice qg T.length dg)) := HH16.out.on hb
    have HZ17 : Hid (CIn w17 pg (markC 1 Z) ∧ IIn w17 qg (ups (endC 1 Z) T.length)) := ⟨HZ16.out.1.below hb, HZ16.out.2.below hb⟩
    have hsz17 : w6.heap.size + 1 ≤ w17.heap.size := Nat.le_trans hsz16 hb.size
    clear HA16 HB16 HU16 HH16 HZ16 hb
    obtain ⟨y0, y1, y2⟩ := HP17.out.1
    obtain ⟨z0, z1, z2⟩ := HW3.out.1.on HB17.out
    rw [HE17.out] at y0 y1 y2 z0 z1 z2
    go_wp2_with fail
    rw [← HE17.out]
    refine Calls.mono (eqStore_any pp16 qq16 pp2 qq2 cc16 dd16 cc2 dd2 Z T w17 (by omega) (by omega) HP17.out.2.1 HP17.out.2.2 (HW3.out.2.1.below HB17.out) (HW3.out.2.2.below HB17.out)) ?_
    rintro e w18 ⟨rfl, hb⟩
    clear HP17
    clear y0 y1 y2 z0 z1 z2
    have HA18 : Hid (Below W0.heap.size W0 w18) := Below.on HA17.out hb
    have HB18 : Hid (Below w3.heap.size w3 w18) := Below.on HB17.out hb
    have HU18 : Hid (Box2 w18 w4.heap.size (.slice (some ⟨g4, 0, none⟩) xs.length xs.length) (.slice (some ⟨g5, 0, none⟩) tr.length tr.length)) := HU17.out.on hb
    have HH18 : Hid (Box2 w18 w6.heap.size (.slice pg Z.length cg) (.slice qg T.length dg)) := HH17.out.on hb
    have HZ18 : Hid (CIn w18 pg (markC 1 Z) ∧ IIn w18 qg (ups (endC 1 Z) T.length)) := ⟨HZ17.out.1.below hb, HZ17.out.2.below hb⟩
    have hsz18 : w6.heap.size + 1 ≤ w18.heap.size := Nat.le_trans hsz17 hb.size
    clear HA17 HB17 HU17 HH17 HZ17 hb
    obtain ⟨y0, y1, y2⟩ := HH18.out
    go_wp2_with fail
    refine Calls.mono (heldStore_any pg qg Z.length T.length cg dg 1 Z w18 (by decide) (by decide) (by omega) (by omega) rfl HZ18.out.1 HZ18.out.2) ?_
    rintro e w19 ⟨rfl, hb⟩
    rw [← HMM.out]
    clear y0 y1 y2
    have HA19 : Hid (Below W0.heap.size W0 w19) := Below.on HA18.out hb
    have HB19 : Hid (Below w3.heap.size w3 w19) := Below.on HB18.out hb
    have HU19 : Hid (Box2 w19 w4.heap.size (.slice (some ⟨g4, 0, none⟩) xs.length xs.length) (.slice (some ⟨g5, 0, none⟩) tr.length tr.length)) := HU18.out.on hb
    have HH19 : Hid (Box2 w19 w6.heap.size (.slice pg Z.length cg) (.slice qg T.length dg)) := HH18.out.on hb
    have HZ19 : Hid (CIn w19 pg (markC 1 Z) ∧ IIn w19 qg (ups (endC 1 Z) T.length)) := ⟨HZ18.out.1.below hb, HZ18.out.2.below hb⟩
    have hsz19 : w6.heap.size + 1 ≤ w19.heap.size := Nat.le_trans hsz18 hb.size
    clear HA18 HB18 HU18 HH18 HZ18 hb
    go_wp2_with fail
    go_ret
    exact ⟨rfl, (HL.out _ HA19.out).2.2⟩
  · have er : szR 1048576 (xs.length + tl xs + tr.length) = -1 := by rw [szR, if_neg hn]
    rw [er, eW0] at HS1
    clear er eW0 hn
    go_enter Try.func4, Try.ntmps4
    go_wp2_with fail
    refine HS1.mono ?_
    rintro e w1 ⟨rfl, hb⟩
    rw [← HE0.out] at hb
    have HB1 : Hid (Below W0.heap.size W0 w1) := hb
    clear hb HS1
    go_wp2
    go_ret
    exact ⟨rfl, (HL.out _ HB1.out).2.2⟩

end Go.Proofs.Ytcdcdpmjibcolaa

