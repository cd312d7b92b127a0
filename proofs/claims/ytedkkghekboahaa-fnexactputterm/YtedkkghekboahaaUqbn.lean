/- Texts of LawPt. Own work of the verifier. -/
import Derived.Test.YtedkkghekboahaaUqbd
import Derived.Test.YtedkkghekboahaaUqbe
import Derived.Test.YtedkkghekboahaaUqbf
import Derived.Test.YtedkkghekboahaaUqbk
import Derived.Test.YtedkkghekboahaaUqbl
import Derived.Test.YtedkkghekboahaaUqbm
import Derived.Test.YtedkkghekboahaaUqak
namespace Go.Proofs.Ytedkkghekboahaa
open Go Go.RowKit
set_option linter.unusedVariables false

theorem implPut_any (p q pt : Option Addr) (c1 c2 cap : Nat) (cs xs : List Cel) (tr : List Int) (w : World) (hx : xs.length ≤ 1000000000) (hy : tr.length ≤ 1000000000) (hz : cs.length ≤ cap) (hcm : cap ≤ 1000000000) (hbx : ∀ a, a < xs.length → Byte (xs.getD a Cel.none).2.2) (hbc : ∀ i, i < cs.length → Byte (cs.getD i Cel.none).2.2) (hc : CIn w p xs) (hi : IIn w q tr) (hin : CIn w pt cs) :
    Calls Try.prog 35 #[.agg #[.slice p xs.length c1, .slice q tr.length c2], .slice pt cs.length cap] w (PutAns (putA xs tr cs) w) := by
  cases hs : storeB xs tr
  · exact implPut_a p q pt c1 c2 cap cs xs tr w hx hy hz hcm hbx hbc hc hi hin hs
  · cases hv : validB cs
    · exact implPut_b p q pt c1 c2 cap cs xs tr w hx hy hz hcm hbx hbc hc hi hin hs hv
    · cases hcan : canB xs cs
      · exact implPut_c p q pt c1 c2 cap cs xs tr w hx hy hz hcm hbx hbc hc hi hin hs hv hcan
      · by_cases hle : xs.length + (ptB xs.length (treeOf cs).1 (treeOf cs).2).length ≤ 20000
        · exact implPut_d p q pt c1 c2 cap cs xs tr w hx hy hz hcm hbx hbc hc hi hin hs hv hcan hle
        · exact implPut_e p q pt c1 c2 cap cs xs tr w hx hy hz hcm hbx hbc hc hi hin hs hv hcan hle
theorem specPut_any (p q pt : Option Addr) (c1 c2 cap : Nat) (cs xs : List Cel) (tr : List Int) (w : World) (hx : xs.length ≤ 1000000000) (hy : tr.length ≤ 1000000000) (hz : cs.length ≤ cap) (hcm : cap ≤ 1000000000) (hbc : ∀ i, i < cs.length → Byte (cs.getD i Cel.none).2.2) (hc : CIn w p xs) (hi : IIn w q tr) (hin : CIn w pt cs) :
    Calls Try.prog 33 #[.agg #[.slice p xs.length c1, .slice q tr.length c2], .slice pt cs.length cap] w (PutB (putA xs tr cs) w) := by
  cases hs : storeB xs tr
  · exact specPut_a p q pt c1 c2 cap cs xs tr w hx hy hz hcm hbc hc hi hin hs
  · cases hv : validB cs
    · exact specPut_b p q pt c1 c2 cap cs xs tr w hx hy hz hcm hbc hc hi hin hs hv
    · exact specPut_c p q pt c1 c2 cap cs xs tr w hx hy hz hcm hbc hc hi hin hs hv
set_option maxRecDepth 100000 in
theorem markStoreV_any (B M U : Nat) (p q : Option Addr) (n m c1 c2 : Nat) (k : Int) (xs : List Cel) (tr : List Int) (w : World) (h0 : 0 ≤ k) (h1 : k ≤ 10000000) (hx : xs.length + tl xs ≤ 100000000) (hm : m ≤ 100000000) (hBM : B ≤ M) (hMU : M ≤ U) (hU : U ≤ w.heap.size) (hown : OwnCU w M U p n c1 xs) (hint : OwnIU w B M q m c2 tr) :
    Calls Try.prog 17 #[.agg #[.slice p n c1, .slice q m c2], .int .i64 k] w fun e w' => e = .returned (.int .i64 (endC k xs + m)) ∧ (OwnCU w' M U p n c1 (markC k xs) ∧ OwnIU w' B M q m c2 (ups (endC k xs) m)) ∧ Keep B U w w' := by
  obtain ⟨W0, eW0⟩ : ∃ W0, W0 = w.alloc (.cells #[.slice p n c1, .slice q m c2] 36) := ⟨_, rfl⟩
  have hb0 : Below w.heap.size w W0 := by rw [eW0]; exact (Below.refl _ _).alloc (Nat.le_refl _) _
  have H1 := markCells_any M U p n c1 k xs W0 h0 h1 hx (hown.below hb0)
  have k0 : W0.heap[w.heap.size]? = some (.cells #[.slice p n c1, .slice q m c2] 36) := by rw [eW0]; exact heap_alloc_new _ _
  have hz : W0.heap.size = w.heap.size + 1 := by rw [eW0]; simp
  have HI : Hid (OwnIU W0 B M q m c2 tr) := hint.on hb0
  have HIB : Hid (∀ g, Value.ownBlock (.slice q m c2) = some g → g < M) := hint.2
  have hke : 0 ≤ endC k xs ∧ endC k xs ≤ 1000000000000 := by rw [endC_eqM]; omega
  generalize endC k xs = ke at H1 hke ⊢
  have HC : Hid (∀ w1, Keep M U W0 w1 → w1.cell? ⟨w.heap.size, 1, none⟩ = some (.slice q m c2) ∧ OwnIU w1 B M q m c2 tr) := fun w1 hk => by
    have j0 := (hk.block w.heap.size (by omega) (by omega)).trans k0
    exact ⟨by simp [World.cell?, j0], HI.out.keep hk (.inl (Nat.le_refl _))⟩
  have HF : Hid (∀ w1 w2, Keep M U W0 w1 → w1.grownBy w2 (Value.ownBlock (.slice q m c2)) → OwnCU w1 M U p n c1 (markC k xs) → OwnCU w2 M U p n c1 (markC k xs) ∧ Keep B U w w2) := fun w1 w2 hk hg ho => by
    have hrow : ∀ g, Value.ownBlock (.slice q m c2) = some g → B ≤ g ∧ g < M := fun g e => ⟨(HI.out.1.2.lt g e).1, HI.out.2 g e⟩
    refine ⟨(ho.other hg.size (fun j hj hj1 hj2 => hg.block j hj (fun e => by have := hrow j e.symm; omega))), ?_⟩
    have a1 : Keep B U w W0 := by rw [eW0]; exact Keep.new B U w _
    exact (a1.trans (hk.widen hBM (Nat.le_refl _))).trans (Keep.of_grown hg (fun g e => ⟨(hrow g e).1, by have := (hrow g e).2; omega⟩))
  have HM : Hid (∀ w1, OwnIU w1 B M q m c2 tr → Calls Try.prog 48 #[.slice q m c2, .int .i64 ke] w1 fun e w' => e = .returned (.int .i64 (ke + m)) ∧ OwnI w' B 3 q m c2 (ups ke m) ∧ w1.grownBy w' (Value.ownBlock (.slice q m c2))) := fun w1 h => markIntS_any B q m c2 ke tr w1 hke.1 hke.2 (by omega) h.1
  rw [eW0] at H1
  have HE0 : Hid _ := eW0
  clear hown hint hb0 k0 hz hBM hMU hU HI eW0 hx
  go_enter Try.func17, Try.ntmps17
  go_wp2_with fail
  refine H1.mono ?_
  rintro e w1 ⟨rfl, ho1, hk1⟩
  rw [← HE0.out] at hk1
  obtain ⟨s1, hi1⟩ := HC.out w1 hk1
  have HM1 := HM.out w1 hi1
  have HO1 : Hid (OwnCU w1 M U p n c1 (markC k xs) ∧ Keep M U W0 w1) := ⟨ho1, hk1⟩
  clear H1 HM HC ho1 hk1 hi1
  go_wp2_with (go_at_call 48; refine HM1.mono ?_; rintro e w2 ⟨rfl, ho2, hg2⟩)
  go_ret
  obtain ⟨f1, f2⟩ := HF.out w1 w2 HO1.out.2 hg2 HO1.out.1
  exact ⟨rfl, ⟨f1, ho2, HIB.out⟩, f2⟩
theorem okP_len {k n : Int} {m : Nat} (h : okW k n m = true) : m ≤ 100 := by
  unfold okW at h
  split at h
  · simp at h; omega
  · simp only [cellB, decide_eq_true_eq] at h; omega
theorem putA_size (xs : List Cel) (tr : List Int) (cs : List Cel) (hbc : ∀ i, i < cs.length → Byte (cs.getD i Cel.none).2.2) : (putA xs tr cs).1.1.length + tl (putA xs tr cs).1.1 ≤ 3000000 ∧ (putA xs tr cs).1.2.length ≤ 20000 ∧ (putA xs tr cs).2.1.2.2.length ≤ 100 := by
  have none : ∀ c, (noneP c).1.1.length + tl (noneP c).1.1 ≤ 3000000 ∧ (noneP c).1.2.length ≤ 20000 ∧ (noneP c).2.1.2.2.length ≤ 100 := fun c => by simp [noneP, tl]
  unfold putA
  split
  · rename_i hs
    split
    · rename_i hv
      split
      · obtain ⟨hxl, htl, hshp, _, _⟩ := storeB_parts hs
        have hoks := storeB_ok hs
        obtain ⟨hcs, hok, h2000⟩ := treeOf_spec hbc hv
        have hkl : (treeOf cs).2.cells.length ≤ 2000 := by rw [hcs] at h2000; simp at h2000; omega
        obtain ⟨f1, f2⟩ := ptB_fine xs.length (treeOf cs).1 (treeOf cs).2 hok hxl hkl
        unfold putT
        split
        · rename_i hle
          refine ⟨?_, htl, okP_len f2.1⟩
          have h3 := tl_le100 (xs ++ ptB xs.length (treeOf cs).1 (treeOf cs).2) (fun c hc => by
            rcases List.mem_append.1 hc with h | h
            · obtain ⟨i, hi, rfl⟩ := List.mem_iff_getElem.1 h
              have := okP_len (hoks i hi)
              simpa [List.getD, hi] using this
            · exact okP_len (f1 c h).1)
          show (xs ++ ptB xs.length (treeOf cs).1 (treeOf cs).2).length + tl (xs ++ ptB xs.length (treeOf cs).1 (treeOf cs).2) ≤ _
          rw [List.length_append] at h3 ⊢
          omega
        · exact none 10
      · exact none 1
    · exact none 1
  · exact none 1

set_option maxHeartbeats 16000000 in
set_option maxRecDepth 100000 in
theorem lawPt_any (p q pt : Option Addr) (c1 c2 cap : Nat) (cs xs : List Cel) (tr : List Int) (w : World) (hx : CArg w p xs) (hy : IArg w q tr) (ht : CArg w pt cs) :
    Calls Try.prog 8 #[.agg #[.slice p xs.length c1, .slice q tr.length c2], .slice pt cs.length cap] w fun e w' => e = .returned (.bool true) ∧ Below w.heap.size w w' := by
  obtain ⟨W0, eW0⟩ : ∃ W0, W0 = w.alloc (.cells #[.slice p xs.length c1, .slice q tr.length c2] 25) := ⟨_, rfl⟩
  have hb0 : Below w.heap.size w W0 := by rw [eW0]; exact (Below.refl _ _).alloc (Nat.le_refl _) _
  have hz0 : W0.heap.size = w.heap.size + 1 := by rw [eW0]; simp
  have k0 : W0.heap[w.heap.size]? = some (.cells #[.slice p xs.length c1, .slice q tr.length c2] 25) := by rw [eW0]; exact heap_alloc_new _ _
  have HX : Hid (∀ W, Below W0.heap.size W0 W → W.cell? ⟨w.heap.size, 0, none⟩ = some (.slice p xs.length c1) ∧ W.cell? ⟨w.heap.size, 1, none⟩ = some (.slice q tr.length c2)) := fun W hW => by
    have j0 := (hW.block w.heap.size (by omega)).trans k0
    exact ⟨by simp [World.cell?, j0], by simp [World.cell?, j0]⟩
  have HL : Hid (∀ W, Below W0.heap.size W0 W → CIn W p xs ∧ IIn W q tr ∧ CIn W pt cs ∧ Below w.heap.size w W) := fun W hW => by
    have hb := Below.on hb0 hW
    exact ⟨hx.lies.below hb, hy.lies.below hb, ht.lies.below hb, hb⟩
  have HS1 := szStore_any p q c1 c2 xs tr 1048576 W0 (Nat.le_refl _) (hx.below hb0) (hy.below hb0)
  have HE0 : Hid _ := eW0
  have HZ0 : Hid _ := hz0
  have HBX : Hid _ := hx.byte
  have HBT : Hid _ := ht.byte
  have HTA : Hid (CArg w pt cs) := ht
  have HB0 : Hid (Below w.heap.size w W0) := hb0
  clear hx hy ht k0 hb0 hz0
  by_cases hn : xs.length + tl xs + tr.length ≤ 1048576
  · obtain ⟨r, er⟩ : ∃ r : Nat, szR 1048576 (xs.length + tl xs + tr.length) = r := ⟨1048576 - (xs.length + tl xs + tr.length), by rw [szR, if_pos hn]; omega⟩
    have hr : r ≤ 1048576 := by rw [szR, if_pos hn] at er; omega
    rw [er] at HS1
    have H2 : Hid (∀ W, Below W0.heap.size W0 W → _) := fun W hW => szCellS_any pt cap cs r W hr HTA.out.len HTA.out.text (HL.out W hW).2.2.1
    clear er
    by_cases hm : cs.length + tl cs ≤ r
    · obtain ⟨r2, er2⟩ : ∃ r2 : Nat, szR r (cs.length + tl cs) = r2 := ⟨r - (cs.length + tl cs), by rw [szR, if_pos hm]; omega⟩
      rw [er2] at H2
      clear er2
      rw [eW0] at HS1
      clear eW0
      have htm : cs.length + tl cs ≤ 1048576 := by omega
      have hxn : xs.length + tl xs ≤ 1048576 := by omega
      have htr : tr.length ≤ 1048576 := by omega
      clear hn hm hr
      obtain ⟨AA, eA⟩ : ∃ A, A = putA xs tr cs := ⟨_, rfl⟩
      have hsz : AA.1.1.length + tl AA.1.1 ≤ 3000000 ∧ AA.1.2.length ≤ 20000 ∧ AA.2.1.2.2.length ≤ 100 := by rw [eA]; exact putA_size _ _ _ HBT.out
      have HTS : Hid (∀ W, Below W0.heap.size W0 W → Calls Try.prog 12 #[.agg #[.slice p xs.length c1, .slice q tr.length c2]] W fun e w' => ∃ g1 g2, e = .returned (.agg #[.slice (some ⟨g1, 0, none⟩) xs.length xs.length, .slice (some ⟨g2, 0, none⟩) tr.length tr.length]) ∧ (∃ M, OwnCU w' W.heap.size M (some ⟨g1, 0, none⟩) xs.length xs.length xs ∧ OwnI w' M 3 (some ⟨g2, 0, none⟩) tr.length tr.length tr ∧ W.heap.size ≤ M ∧ M ≤ w'.heap.size) ∧ Below W.heap.size W w') := fun W hW => toStoreU_any p q c1 c2 xs tr W hxn htr (HL.out W hW).1 (HL.out W hW).2.1
      have HTC : Hid (∀ W, Below W0.heap.size W0 W → Calls Try.prog 34 #[.slice pt cs.length cap] W fun e w' => ∃ g, e = .returned (.slice (some ⟨g, 0, none⟩) cs.length cs.length) ∧ OwnCU w' W.heap.size w'.heap.size (some ⟨g, 0, none⟩) cs.length cs.length cs ∧ Below W.heap.size W w') := fun W hW => (toCellS_any pt cap cs W htm (HL.out W hW).2.2.1).mono (fun e w' hh => ⟨_, hh.1, hh.2.1.up, hh.2.2⟩)
      have HSP0 : Hid (∀ W a b c, CIn W a xs → IIn W b tr → CIn W c cs → Calls Try.prog 33 #[.agg #[.slice a xs.length xs.length, .slice b tr.length tr.length], .slice c cs.length cs.length] W (PutB AA W)) := fun W a b c h1 h2 h3 => by rw [eA]; exact specPut_any a b c xs.length tr.length cs.length cs xs tr W (by omega) (by omega) (Nat.le_refl _) (by omega) HBT.out h1 h2 h3
      have HIM0 : Hid (∀ W a b c, CIn W a xs → IIn W b tr → CIn W c cs → Calls Try.prog 35 #[.agg #[.slice a xs.length xs.length, .slice b tr.length tr.length], .slice c cs.length cs.length] W (PutAns AA W)) := fun W a b c h1 h2 h3 => by rw [eA]; exact implPut_any a b c xs.length tr.length cs.length cs xs tr W (by omega) (by omega) (Nat.le_refl _) (by omega) HBX.out HBT.out h1 h2 h3
      clear eA HBX HBT HTA
      obtain ⟨⟨Z, T⟩, ⟨d0, d1, dt⟩, code⟩ := AA
      simp only at hsz
      obtain ⟨hZ, hT, hdl0⟩ := hsz
      obtain ⟨dl, edl⟩ : ∃ m, m = dt.length := ⟨_, rfl⟩
      rw [← edl] at hdl0
      have HDL : Hid (dl = dt.length) := edl
      have HSP : Hid (∀ W a b c, CIn W a xs → IIn W b tr → CIn W c cs → Calls Try.prog 33 #[.agg #[.slice a xs.length xs.length, .slice b tr.length tr.length], .slice c cs.length cs.length] W fun e w' => ∃ pp qq tt cc dd tc, e = .returned (.tuple #[.agg #[.slice pp Z.length cc, .slice qq T.length dd], .agg #[.int .i64 d0, .int .i64 d1, .slice tt dl tc], .int .i64 code]) ∧ CIn w' pp Z ∧ IIn w' qq T ∧ BIn w' tt dt ∧ Below W.heap.size W w') := fun W a b c h1 h2 h3 => by
        refine (HSP0.out W a b c h1 h2 h3).mono ?_
        rintro e w' ⟨pp, qq, tt, cc, dd, tc, he, q1, q2, q3, q4⟩
        exact ⟨pp, qq, tt, cc, dd, tc, by rw [he, edl], q1.cin, q2.iin, q3.bin, q4⟩
      have HIM : Hid (∀ W a b c, CIn W a xs → IIn W b tr → CIn W c cs → Calls Try.prog 35 #[.agg #[.slice a xs.length xs.length, .slice b tr.length tr.length], .slice c cs.length cs.length] W fun e w' => ∃ pp qq tt cc dd tc M U, e = .returned (.tuple #[.agg #[.slice pp Z.length cc, .slice qq T.length dd], .agg #[.int .i64 d0, .int .i64 d1, .slice tt dl tc], .int .i64 code]) ∧ OwnIU w' W.heap.size M qq T.length dd T ∧ OwnCU w' M U pp Z.length cc Z ∧ OwnT w' U tt dl tc dt ∧ W.heap.size ≤ M ∧ M ≤ U ∧ U ≤ w'.heap.size ∧ Below W.heap.size W w') := fun W a b c h1 h2 h3 => by
        refine (HIM0.out W a b c h1 h2 h3).mono ?_
        rintro e w' ⟨pp, qq, tt, cc, dd, tc, M, U, he, q1, q2, q3, q4⟩
        exact ⟨pp, qq, tt, cc, dd, tc, M, U, by rw [he, edl], q1, q2, by rw [edl]; exact q3, q4⟩
      have hcc : (code != code) = false := by simp
      clear edl HSP0 HIM0
      go_enter Try.func8, Try.ntmps8
      go_wp2_with fail
      refine HS1.mono ?_
      rintro e w1 ⟨rfl, hb⟩
      rw [← HE0.out] at hb
      have HA1 : Hid (Below W0.heap.size W0 w1) := hb
      have HS2 : Hid _ := H2.out w1 hb
      clear hb HS1 H2
      go_wp2_with fail
      refine Calls.mono HS2.out ?_
      rintro e w2 ⟨rfl, hb⟩
      have HA2 : Hid (Below W0.heap.size W0 w2) := Below.on HA1.out hb
      clear hb HS2 HA1
      obtain ⟨s0, s1⟩ := HX.out _ HA2.out
      go_wp2_with fail
      refine Calls.mono (HTS.out _ HA2.out) ?_
      rintro e wa ⟨g1, g2, rfl, ⟨M, hc, hi, hM1, hM2⟩, hb⟩
      have HAa : Hid (Below W0.heap.size W0 wa) := Below.on HA2.out hb
      have HCa : Hid (CIn wa (some ⟨g1, 0, none⟩) xs ∧ IIn wa (some ⟨g2, 0, none⟩) tr) := ⟨hc.toC.cin, hi.iin⟩
      clear hc hi hM1 hM2 hb s0 s1
      go_wp2_with fail
      refine Calls.mono (HTC.out _ HAa.out) ?_
      rintro e wb ⟨g3, rfl, hs, hb⟩
      have HAb : Hid (Below W0.heap.size W0 wb) := Below.on HAa.out hb
      have HCb : Hid (CIn wb (some ⟨g1, 0, none⟩) xs ∧ IIn wb (some ⟨g2, 0, none⟩) tr ∧ CIn wb (some ⟨g3, 0, none⟩) cs) := ⟨HCa.out.1.below hb, HCa.out.2.below hb, hs.toC.cin⟩
      clear hs hb HAa HCa
      go_wp2_with fail
      refine Calls.mono (HSP.out _ _ _ _ HCb.out.1 HCb.out.2.1 HCb.out.2.2) ?_
      rintro e wc ⟨pw, qw, tw, cw, dw, tcw, rfl, hcz, hit, hbt, hb⟩
      have hbc : Below W0.heap.size W0 wc := Below.on HAb.out hb
      obtain ⟨o6, eo6⟩ : ∃ o : Obj, o = .cells #[.slice pw Z.length cw, .slice qw T.length dw] 36 := ⟨_, rfl⟩
      obtain ⟨o7, eo7⟩ : ∃ o : Obj, o = .cells #[.int .i64 d0, .int .i64 d1, .slice tw dl tcw] 31 := ⟨_, rfl⟩
      obtain ⟨w3, ew3⟩ : ∃ w3, w3 = (wc.alloc o6).alloc o7 := ⟨_, rfl⟩
      have hb3 : Below wc.heap.size wc w3 := by rw [ew3]; exact ((Below.refl _ _).alloc (Nat.le_refl _) _).alloc (by simp) _
      have HA3 : Hid (Below W0.heap.size W0 w3) := Below.on hbc hb3
      obtain ⟨b6, eb6⟩ : ∃ b6 : Nat, b6 = wc.heap.size := ⟨_, rfl⟩
      have hx6 : Box2 w3 b6 (.slice pw Z.length cw) (.slice qw T.length dw) := Box2.of_block (t := 36) (by rw [ew3, eb6, Below.heap_alloc _ _ _ (by simp), ← eo6]; exact heap_alloc_new _ _)
      have hx7 : Box3 w3 (b6 + 1) (.int .i64 d0) (.int .i64 d1) (.slice tw dl tcw) := Box3.of_block (t := 31) (by
        rw [ew3, eb6, ← eo7]
        have := heap_alloc_new (wc.alloc o6) o7
        simpa using this)
      have HW3 : Hid (Box2 w3 b6 (.slice pw Z.length cw) (.slice qw T.length dw) ∧ (CIn w3 pw Z ∧ IIn w3 qw T) ∧ Box3 w3 (b6 + 1) (.int .i64 d0) (.int .i64 d1) (.slice tw dl tcw) ∧ BIn w3 tw dt) := ⟨hx6, ⟨hcz.below hb3, hit.below hb3⟩, hx7, hbt.below hb3⟩
      have hb63 : b6 + 1 < w3.heap.size := World.block_lt_of_cell? _ _ hx7.1
      have HE3 : Hid _ := ew3
      have HO6 : Hid (o6 = .cells #[.slice pw Z.length cw, .slice qw T.length dw] 36) := eo6
      have HO7 : Hid (o7 = .cells #[.int .i64 d0, .int .i64 d1, .slice tw dl tcw] 31) := eo7
      have HB6 : Hid (b6 = wc.heap.size) := eb6
      obtain ⟨s0, s1⟩ := HX.out _ HA3.out
      rw [ew3, eo6, eo7] at s0 s1
      clear hcz hit hbt hb hbc hb3 hx6 hx7 ew3 eo6 eo7 eb6 HAb HCb HSP HA2
      go_wp2_with fail
      rw [← HO6.out, ← HO7.out, ← HE3.out, ← HB6.out]
      refine Calls.mono (HTS.out _ HA3.out) ?_
      rintro e w4 ⟨g4, g5, rfl, ⟨M4, hc, hi, hM1, hM2⟩, hb⟩
      obtain ⟨oS, eoS⟩ : ∃ o : Obj, o = .cells #[.slice (some ⟨g4, 0, none⟩) xs.length xs.length, .slice (some ⟨g5, 0, none⟩) tr.length tr.length] 36 := ⟨_, rfl⟩
      have HA4 : Hid (Below W0.heap.size W0 (w4.alloc oS)) := Below.on (Below.on HA3.out hb) (alloc_on _ _)
      have HB4 : Hid (Below w3.heap.size w3 (w4.alloc oS)) := Below.on hb (alloc_on _ _)
      have HX4 : Hid (OwnCU (w4.alloc oS) w3.heap.size M4 (some ⟨g4, 0, none⟩) xs.length xs.length xs ∧ OwnIU (w4.alloc oS) M4 w4.heap.size (some ⟨g5, 0, none⟩) tr.length tr.length tr) := ⟨hc.below (alloc_on _ _), hi.up.on (alloc_on _ _)⟩
      have HU4 : Hid (Box2 (w4.alloc oS) w4.heap.size (.slice (some ⟨g4, 0, none⟩) xs.length xs.length) (.slice (some ⟨g5, 0, none⟩) tr.length tr.length)) := by show Box2 _ _ _ _; rw [eoS]; exact Box2.of_block (t := 36) (heap_alloc_new _ _)
      have hz4 : (w4.alloc oS).heap.size = w4.heap.size + 1 := by simp
      have HM4 : Hid (w3.heap.size ≤ M4 ∧ M4 ≤ w4.heap.size) := ⟨hM1, hM2⟩
      have HOS : Hid (oS = .cells #[.slice (some ⟨g4, 0, none⟩) xs.length xs.length, .slice (some ⟨g5, 0, none⟩) tr.length tr.length] 36) := eoS
      clear hc hi hb hM1 hM2 s0 s1 eoS HE3 HO6 HO7 HB6
      go_wp2_with fail
      rw [← HOS.out]
      refine Calls.mono (HTC.out _ HA4.out) ?_
      rintro e w5 ⟨g6, rfl, hs, hb⟩
      rw [hz4] at hs
      have HA5 : Hid (Below W0.heap.size W0 w5) := Below.on HA4.out hb
      have HB5 : Hid (Below w3.heap.size w3 w5) := Below.on HB4.out hb
      have HX5 : Hid (OwnCU w5 w3.heap.size M4 (some ⟨g4, 0, none⟩) xs.length xs.length xs ∧ OwnIU w5 M4 w4.heap.size (some ⟨g5, 0, none⟩) tr.length tr.length tr) := ⟨HX4.out.1.below hb, HX4.out.2.on hb⟩
      have HU5 : Hid (Box2 w5 w4.heap.size (.slice (some ⟨g4, 0, none⟩) xs.length xs.length) (.slice (some ⟨g5, 0, none⟩) tr.length tr.length)) := HU4.out.on hb
      have HY5 : Hid (OwnCU w5 (w4.heap.size + 1) w5.heap.size (some ⟨g6, 0, none⟩) cs.length cs.length cs) := hs
      have hs45 : w4.heap.size + 1 ≤ w5.heap.size := by have := hb.size; omega
      obtain ⟨x0, x1, x2⟩ := HU5.out
      clear hs hb HA4 HB4 HX4 HU4 HOS hz4
      go_wp2_with fail
      refine Calls.mono (HIM.out _ _ _ _ HX5.out.1.toC.cin HX5.out.2.1.iin HY5.out.toC.cin) ?_
      rintro e w6 ⟨pg, qg, tg, cg, dg, tcg, M6, U6, rfl, hoi, hoc, hot, hq1, hq2, hq3, hb⟩
      obtain ⟨oG, eoG⟩ : ∃ o : Obj, o = .cells #[.slice pg Z.length cg, .slice qg T.length dg] 36 := ⟨_, rfl⟩
      obtain ⟨oK, eoK⟩ : ∃ o : Obj, o = .cells #[.int .i64 d0, .int .i64 d1, .slice tg dl tcg] 31 := ⟨_, rfl⟩
      obtain ⟨v6, ev6⟩ : ∃ v6, v6 = (w6.alloc oG).alloc oK := ⟨_, rfl⟩
      have hb6 : Below w6.heap.size w6 v6 := by rw [ev6]; exact ((Below.refl _ _).alloc (Nat.le_refl _) _).alloc (by simp) _
      have hz6 : v6.heap.size = w6.heap.size + 2 := by rw [ev6]; simp
      have hb' : Below w5.heap.size w5 v6 := Below.on hb hb6
      have HA6 : Hid (Below W0.heap.size W0 v6) := Below.on HA5.out hb'
      have HB6 : Hid (Below w3.heap.size w3 v6) := Below.on HB5.out hb'
      have HX6 : Hid (OwnCU v6 w3.heap.size M4 (some ⟨g4, 0, none⟩) xs.length xs.length xs ∧ OwnIU v6 M4 w4.heap.size (some ⟨g5, 0, none⟩) tr.length tr.length tr) := ⟨HX5.out.1.below hb', HX5.out.2.on hb'⟩
      have HU6 : Hid (Box2 v6 w4.heap.size (.slice (some ⟨g4, 0, none⟩) xs.length xs.length) (.slice (some ⟨g5, 0, none⟩) tr.length tr.length)) := HU5.out.on hb'
      have HY6 : Hid (OwnCU v6 (w4.heap.size + 1) w5.heap.size (some ⟨g6, 0, none⟩) cs.length cs.length cs) := HY5.out.below hb'
      have HG6 : Hid (OwnCU v6 M6 U6 pg Z.length cg Z ∧ OwnIU v6 w5.heap.size M6 qg T.length dg T) := ⟨hoc.below hb6, hoi.on hb6⟩
      have HT6 : Hid (OwnTU v6 U6 w6.heap.size tg dl tcg dt) := hot.up.on hb6
      have HH6 : Hid (Box2 v6 w6.heap.size (.slice pg Z.length cg) (.slice qg T.length dg)) := Box2.of_block (t := 36) (by rw [ev6, Below.heap_alloc _ _ _ (by simp), ← eoG]; exact heap_alloc_new _ _)
      have HK6 : Hid (Box3 v6 (w6.heap.size + 1) (.int .i64 d0) (.int .i64 d1) (.slice tg dl tcg)) := Box3.of_block (t := 31) (by
        rw [ev6, ← eoK]
        have := heap_alloc_new (w6.alloc oG) oK
        simpa using this)
      have hs56 : w5.heap.size ≤ M6 := hq1
      have hs66 : M6 ≤ U6 := hq2
      have hs67 : U6 ≤ w6.heap.size := hq3
      have hM41 : w3.heap.size ≤ M4 := HM4.out.1
      have hM42 : M4 ≤ w4.heap.size := HM4.out.2
      have hz03 : W0.heap.size ≤ w3.heap.size := HA3.out.size
      have HOG : Hid (oG = .cells #[.slice pg Z.length cg, .slice qg T.length dg] 36) := eoG
      have HOK : Hid (oK = .cells #[.int .i64 d0, .int .i64 d1, .slice tg dl tcg] 31) := eoK
      have HE6 : Hid _ := ev6
      obtain ⟨y0, y1, y2⟩ := HH6.out
      obtain ⟨z0, z1, z2⟩ := HW3.out.1.on HB6.out
      rw [ev6, eoG, eoK] at y0 y1 y2 z0 z1 z2
      clear hb hb' hb6 hoi hoc hot hq1 hq2 hq3 eoG eoK ev6 HA5 HB5 HX5 HU5 HY5 x0 x1 x2
      go_wp2_with fail
      rw [← HOG.out, ← HOK.out, ← HE6.out]
      refine Calls.mono (eqStore_any pg qg pw qw cg dg cw dw Z T v6 (by omega) (by omega) HG6.out.1.toC.cin HG6.out.2.1.iin (HW3.out.2.1.1.below HB6.out) (HW3.out.2.1.2.below HB6.out)) ?_
      rintro e w7 ⟨rfl, hb⟩
      clear y0 y1 y2 z0 z1 z2 HOG HOK HE6
      have HA7 : Hid (Below W0.heap.size W0 w7) := Below.on HA6.out hb
      have HB7 : Hid (Below w3.heap.size w3 w7) := Below.on HB6.out hb
      have HX7 : Hid (OwnCU w7 w3.heap.size M4 (some ⟨g4, 0, none⟩) xs.length xs.length xs ∧ OwnIU w7 M4 w4.heap.size (some ⟨g5, 0, none⟩) tr.length tr.length tr) := ⟨HX6.out.1.below hb, HX6.out.2.on hb⟩
      have HU7 : Hid (Box2 w7 w4.heap.size (.slice (some ⟨g4, 0, none⟩) xs.length xs.length) (.slice (some ⟨g5, 0, none⟩) tr.length tr.length)) := HU6.out.on hb
      have HY7 : Hid (OwnCU w7 (w4.heap.size + 1) w5.heap.size (some ⟨g6, 0, none⟩) cs.length cs.length cs) := HY6.out.below hb
      have HG7 : Hid (OwnCU w7 M6 U6 pg Z.length cg Z ∧ OwnIU w7 w5.heap.size M6 qg T.length dg T) := ⟨HG6.out.1.below hb, HG6.out.2.on hb⟩
      have HT7 : Hid (OwnTU w7 U6 w6.heap.size tg dl tcg dt) := HT6.out.on hb
      have HH7 : Hid (Box2 w7 w6.heap.size (.slice pg Z.length cg) (.slice qg T.length dg)) := HH6.out.on hb
      have HK7 : Hid (Box3 w7 (w6.heap.size + 1) (.int .i64 d0) (.int .i64 d1) (.slice tg dl tcg)) := HK6.out.on hb
      have hsz7 : w6.heap.size + 2 ≤ w7.heap.size := by rw [← hz6]; exact hb.size
      clear HA6 HB6 HX6 HU6 HY6 HG6 HT6 HH6 HK6 hb
      obtain ⟨v0, v1, v2, v3⟩ := HK7.out
      obtain ⟨u0, u1, u2, u3⟩ := HW3.out.2.2.1.on HB7.out
      go_wp2_with fail
      have HQ := eqCell_any d0 d1 d0 d1 tg tw dl dl tcg tcw dt dt w7 HDL.out HDL.out (by omega) (by omega) HT7.out.1.bin (HW3.out.2.2.2.below HB7.out)
      rw [decide_eq_true (rfl : ((d0, d1, dt) : Cel) = (d0, d1, dt))] at HQ
      refine Calls.mono HQ ?_
      clear HQ
      rintro e w8 ⟨rfl, hb⟩
      clear v0 v1 v2 v3 u0 u1 u2 u3
      have HA8 : Hid (Below W0.heap.size W0 w8) := Below.on HA7.out hb
      have HB8 : Hid (Below w3.heap.size w3 w8) := Below.on HB7.out hb
      have HX8 : Hid (OwnCU w8 w3.heap.size M4 (some ⟨g4, 0, none⟩) xs.length xs.length xs ∧ OwnIU w8 M4 w4.heap.size (some ⟨g5, 0, none⟩) tr.length tr.length tr) := ⟨HX7.out.1.below hb, HX7.out.2.on hb⟩
      have HU8 : Hid (Box2 w8 w4.heap.size (.slice (some ⟨g4, 0, none⟩) xs.length xs.length) (.slice (some ⟨g5, 0, none⟩) tr.length tr.length)) := HU7.out.on hb
      have HY8 : Hid (OwnCU w8 (w4.heap.size + 1) w5.heap.size (some ⟨g6, 0, none⟩) cs.length cs.length cs) := HY7.out.below hb
      have HG8 : Hid (OwnCU w8 M6 U6 pg Z.length cg Z ∧ OwnIU w8 w5.heap.size M6 qg T.length dg T) := ⟨HG7.out.1.below hb, HG7.out.2.on hb⟩
      have HT8 : Hid (OwnTU w8 U6 w6.heap.size tg dl tcg dt) := HT7.out.on hb
      have HH8 : Hid (Box2 w8 w6.heap.size (.slice pg Z.length cg) (.slice qg T.length dg)) := HH7.out.on hb
      have HK8 : Hid (Box3 w8 (w6.heap.size + 1) (.int .i64 d0) (.int .i64 d1) (.slice tg dl tcg)) := HK7.out.on hb
      have hsz8 : w6.heap.size + 2 ≤ w8.heap.size := Nat.le_trans hsz7 hb.size
      clear HA7 HB7 HX7 HU7 HY7 HG7 HT7 HH7 HK7 hb
      obtain ⟨s0, s1⟩ := HX.out _ HA8.out
      obtain ⟨x0, x1, x2⟩ := HU8.out
      go_wp2
      have HA8d : Hid (Below W0.heap.size W0 (w8.drewN 1)) := below_drewN HA8.out 1
      have HK8d : Hid (∀ W, Below w8.heap.size w8 W → ((W.cell? ⟨w.heap.size, 0, none⟩ = some (.slice p xs.length c1) ∧ W.cell? ⟨w.heap.size, 1, none⟩ = some (.slice q tr.length c2)) ∧ W.cell? ⟨w4.heap.size, 0, none⟩ = some (.slice (some ⟨g4, 0, none⟩) xs.length xs.length) ∧ W.cell? ⟨w4.heap.size, 1, none⟩ = some (.slice (some ⟨g5, 0, none⟩) tr.length tr.length)) ∧ (CIn W (some ⟨g4, 0, none⟩) xs ∧ IIn W (some ⟨g5, 0, none⟩) tr)) := fun W hW => ⟨⟨HX.out _ (Below.on HA8.out hW), (HU8.out.on hW).1, (HU8.out.on hW).2.1⟩, (HX8.out.1.below hW).toC.cin, (HX8.out.2.on hW).1.iin⟩
      go_region_held3 (fun W => ((W.cell? ⟨w.heap.size, 0, none⟩ = some (.slice p xs.length c1) ∧ W.cell? ⟨w.heap.size, 1, none⟩ = some (.slice q tr.length c2)) ∧ W.cell? ⟨w4.heap.size, 0, none⟩ = some (.slice (some ⟨g4, 0, none⟩) xs.length xs.length) ∧ W.cell? ⟨w4.heap.size, 1, none⟩ = some (.slice (some ⟨g5, 0, none⟩) tr.length tr.length))) (first | exact kk | go_keep)
        (first
          | (go_at_call 12; refine Calls.mono (HTS.out _ HA8d.out) ?_; rintro e w9 ⟨g7, g8, rfl, ⟨M, hc, hi, hM1, hM2⟩, hb⟩; have HQ9 : Hid (Below w8.heap.size w8 w9) := (below_drewN (Below.refl _ _) 1).trans hb; have HC9 : Hid (CIn w9 (some ⟨g7, 0, none⟩) xs ∧ IIn w9 (some ⟨g8, 0, none⟩) tr) := ⟨hc.toC.cin, hi.iin⟩; have kk := (HK8d.out _ HQ9.out).1; clear hc hi hM1 hM2 hb)
          | (go_at_call 16; refine Calls.mono (eqStore_any (some ⟨g4, 0, none⟩) (some ⟨g5, 0, none⟩) (some ⟨g7, 0, none⟩) (some ⟨g8, 0, none⟩) xs.length tr.length xs.length tr.length xs tr w9 (by omega) (by omega) (HK8d.out _ HQ9.out).2.1 (HK8d.out _ HQ9.out).2.2 HC9.out.1 HC9.out.2) ?_; rintro e w10 ⟨rfl, hb⟩; have HQ10 : Hid (Below w8.heap.size w8 w10) := Below.on HQ9.out hb; have kk := (HK8d.out _ HQ10.out).1; clear hb))
      rename_i hheld; clear hheld
      clear kk HK8d HA8d HQ9 HC9
      have hb : Below w8.heap.size w8 w10 := HQ10.out
      have HA10 : Hid (Below W0.heap.size W0 w10) := Below.on HA8.out hb
      have HB10 : Hid (Below w3.heap.size w3 w10) := Below.on HB8.out hb
      have HX10 : Hid (OwnCU w10 w3.heap.size M4 (some ⟨g4, 0, none⟩) xs.length xs.length xs ∧ OwnIU w10 M4 w4.heap.size (some ⟨g5, 0, none⟩) tr.length tr.length tr) := ⟨HX8.out.1.below hb, HX8.out.2.on hb⟩
      have HU10 : Hid (Box2 w10 w4.heap.size (.slice (some ⟨g4, 0, none⟩) xs.length xs.length) (.slice (some ⟨g5, 0, none⟩) tr.length tr.length)) := HU8.out.on hb
      have HY10 : Hid (OwnCU w10 (w4.heap.size + 1) w5.heap.size (some ⟨g6, 0, none⟩) cs.length cs.length cs) := HY8.out.below hb
      have HG10 : Hid (OwnCU w10 M6 U6 pg Z.length cg Z ∧ OwnIU w10 w5.heap.size M6 qg T.length dg T) := ⟨HG8.out.1.below hb, HG8.out.2.on hb⟩
      have HT10 : Hid (OwnTU w10 U6 w6.heap.size tg dl tcg dt) := HT8.out.on hb
      have HH10 : Hid (Box2 w10 w6.heap.size (.slice pg Z.length cg) (.slice qg T.length dg)) := HH8.out.on hb
      have HK10 : Hid (Box3 w10 (w6.heap.size + 1) (.int .i64 d0) (.int .i64 d1) (.slice tg dl tcg)) := HK8.out.on hb
      have hsz10 : w6.heap.size + 2 ≤ w10.heap.size := Nat.le_trans hsz8 hb.size
      clear HA8 HB8 HX8 HU8 HY8 HG8 HT8 HH8 HK8 hb
      clear HQ10
      clear s0 s1 x0 x1 x2
      go_wp2_with fail
      refine Calls.mono (HTC.out _ HA10.out) ?_
      rintro e w11 ⟨g9, rfl, hs, hb⟩
      have HC11 : Hid (CIn w11 (some ⟨g9, 0, none⟩) cs) := hs.toC.cin
      clear hs
      have HA11 : Hid (Below W0.heap.size W0 w11) := Below.on HA10.out hb
      have HB11 : Hid (Below w3.heap.size w3 w11) := Below.on HB10.out hb
      have HX11 : Hid (OwnCU w11 w3.heap.size M4 (some ⟨g4, 0, none⟩) xs.length xs.length xs ∧ OwnIU w11 M4 w4.heap.size (some ⟨g5, 0, none⟩) tr.length tr.length tr) := ⟨HX10.out.1.below hb, HX10.out.2.on hb⟩
      have HU11 : Hid (Box2 w11 w4.heap.size (.slice (some ⟨g4, 0, none⟩) xs.length xs.length) (.slice (some ⟨g5, 0, none⟩) tr.length tr.length)) := HU10.out.on hb
      have HY11 : Hid (OwnCU w11 (w4.heap.size + 1) w5.heap.size (some ⟨g6, 0, none⟩) cs.length cs.length cs) := HY10.out.below hb
      have HG11 : Hid (OwnCU w11 M6 U6 pg Z.length cg Z ∧ OwnIU w11 w5.heap.size M6 qg T.length dg T) := ⟨HG10.out.1.below hb, HG10.out.2.on hb⟩
      have HT11 : Hid (OwnTU w11 U6 w6.heap.size tg dl tcg dt) := HT10.out.on hb
      have HH11 : Hid (Box2 w11 w6.heap.size (.slice pg Z.length cg) (.slice qg T.length dg)) := HH10.out.on hb
      have HK11 : Hid (Box3 w11 (w6.heap.size + 1) (.int .i64 d0) (.int .i64 d1) (.slice tg dl tcg)) := HK10.out.on hb
      have hsz11 : w6.heap.size + 2 ≤ w11.heap.size := Nat.le_trans hsz10 hb.size
      clear HA10 HB10 HX10 HU10 HY10 HG10 HT10 HH10 HK10 hb
      go_wp2_with fail
      have HQ := eqCellS_any (some ⟨g6, 0, none⟩) (some ⟨g9, 0, none⟩) cs.length cs.length cs cs w11 (by omega) (by omega) HY11.out.toC.cin HC11.out
      rw [decide_eq_true (rfl : cs = cs)] at HQ
      refine Calls.mono HQ ?_
      clear HQ
      rintro e w12 ⟨rfl, hb⟩
      clear HC11
      have HA12 : Hid (Below W0.heap.size W0 w12) := Below.on HA11.out hb
      have HB12 : Hid (Below w3.heap.size w3 w12) := Below.on HB11.out hb
      have HX12 : Hid (OwnCU w12 w3.heap.size M4 (some ⟨g4, 0, none⟩) xs.length xs.length xs ∧ OwnIU w12 M4 w4.heap.size (some ⟨g5, 0, none⟩) tr.length tr.length tr) := ⟨HX11.out.1.below hb, HX11.out.2.on hb⟩
      have HU12 : Hid (Box2 w12 w4.heap.size (.slice (some ⟨g4, 0, none⟩) xs.length xs.length) (.slice (some ⟨g5, 0, none⟩) tr.length tr.length)) := HU11.out.on hb
      have HY12 : Hid (OwnCU w12 (w4.heap.size + 1) w5.heap.size (some ⟨g6, 0, none⟩) cs.length cs.length cs) := HY11.out.below hb
      have HG12 : Hid (OwnCU w12 M6 U6 pg Z.length cg Z ∧ OwnIU w12 w5.heap.size M6 qg T.length dg T) := ⟨HG11.out.1.below hb, HG11.out.2.on hb⟩
      have HT12 : Hid (OwnTU w12 U6 w6.heap.size tg dl tcg dt) := HT11.out.on hb
      have HH12 : Hid (Box2 w12 w6.heap.size (.slice pg Z.length cg) (.slice qg T.length dg)) := HH11.out.on hb
      have HK12 : Hid (Box3 w12 (w6.heap.size + 1) (.int .i64 d0) (.int .i64 d1) (.slice tg dl tcg)) := HK11.out.on hb
      have hsz12 : w6.heap.size + 2 ≤ w12.heap.size := Nat.le_trans hsz11 hb.size
      clear HA11 HB11 HX11 HU11 HY11 HG11 HT11 HH11 HK11 hb
      obtain ⟨x0, x1, x2⟩ := HU12.out
      go_wp2_with fail
      refine Calls.mono (markStore_any w3.heap.size M4 w4.heap.size (some ⟨g4, 0, none⟩) (some ⟨g5, 0, none⟩) xs.length tr.length xs.length tr.length 1 xs tr w12 (by decide) (by decide) (by omega) (by omega) hM41 hM42 (by omega) HX12.out.2.2 HX12.out.1 HX12.out.2.1) ?_
      rintro e w13 ⟨rfl, _, hk⟩
      clear x0 x1 x2
      have HA13 : Hid (Below W0.heap.size W0 w13) := HA12.out.trans (hk.below (by omega) HA12.out.size)
      have HB13 : Hid (Below w3.heap.size w3 w13) := HB12.out.trans (hk.below (by omega) HB12.out.size)
      have HU13 : Hid (Box2 w13 w4.heap.size (.slice (some ⟨g4, 0, none⟩) xs.length xs.length) (.slice (some ⟨g5, 0, none⟩) tr.length tr.length)) := HU12.out.keep hk (by omega)
      have HY13 : Hid (OwnCU w13 (w4.heap.size + 1) w5.heap.size (some ⟨g6, 0, none⟩) cs.length cs.length cs) := HY12.out.keep hk (by omega)
      have HG13 : Hid (OwnCU w13 M6 U6 pg Z.length cg Z ∧ OwnIU w13 w5.heap.size M6 qg T.length dg T) := ⟨HG12.out.1.keep hk (by omega), HG12.out.2.keep hk (by omega)⟩
      have HT13 : Hid (OwnTU w13 U6 w6.heap.size tg dl tcg dt) := HT12.out.keep hk (by omega)
      have HH13 : Hid (Box2 w13 w6.heap.size (.slice pg Z.length cg) (.slice qg T.length dg)) := HH12.out.keep hk (by omega)
      have HK13 : Hid (Box3 w13 (w6.heap.size + 1) (.int .i64 d0) (.int .i64 d1) (.slice tg dl tcg)) := HK12.out.keep hk (by omega)
      have hsz13 : w6.heap.size + 2 ≤ w13.heap.size := Nat.le_trans hsz12 hk.size
      clear HA12 HB12 HU12 HY12 HG12 HT12 HH12 HK12 HX12 hk
      obtain ⟨k1, ek1⟩ : ∃ k1, k1 = endC 1 xs + (tr.length : Int) := ⟨_, rfl⟩
      have hk1 : 0 ≤ k1 ∧ k1 ≤ 10000000 := by rw [ek1, endC_eqM]; omega
      rw [← ek1]
      clear ek1
      go_wp2_with fail
      refine Calls.mono (markCells_any (w4.heap.size + 1) w5.heap.size (some ⟨g6, 0, none⟩) cs.length cs.length k1 cs w13 hk1.1 (by omega) (by omega) HY13.out) ?_
      rintro e w14 ⟨rfl, _, hk⟩
      have HA14 : Hid (Below W0.heap.size W0 w14) := HA13.out.trans (hk.below (by omega) HA13.out.size)
      have HB14 : Hid (Below w3.heap.size w3 w14) := HB13.out.trans (hk.below (by omega) HB13.out.size)
      have HU14 : Hid (Box2 w14 w4.heap.size (.slice (some ⟨g4, 0, none⟩) xs.length xs.length) (.slice (some ⟨g5, 0, none⟩) tr.length tr.length)) := HU13.out.keep hk (by omega)
      have HG14 : Hid (OwnCU w14 M6 U6 pg Z.length cg Z ∧ OwnIU w14 w5.heap.size M6 qg T.length dg T) := ⟨HG13.out.1.keep hk (by omega), HG13.out.2.keep hk (by omega)⟩
      have HT14 : Hid (OwnTU w14 U6 w6.heap.size tg dl tcg dt) := HT13.out.keep hk (by omega)
      have HH14 : Hid (Box2 w14 w6.heap.size (.slice pg Z.length cg) (.slice qg T.length dg)) := HH13.out.keep hk (by omega)
      have HK14 : Hid (Box3 w14 (w6.heap.size + 1) (.int .i64 d0) (.int .i64 d1) (.slice tg dl tcg)) := HK13.out.keep hk (by omega)
      have hsz14 : w6.heap.size + 2 ≤ w14.heap.size := Nat.le_trans hsz13 hk.size
      clear HA13 HB13 HU13 HG13 HT13 HH13 HK13 HY13 hk
      obtain ⟨k2, ek2⟩ : ∃ k2, k2 = endC k1 cs := ⟨_, rfl⟩
      have hk2 : ¬ k2 < 0 := by rw [ek2, endC_eqM]; omega
      rw [← ek2]
      clear ek2
      obtain ⟨y0, y1, y2⟩ := HH14.out
      obtain ⟨z0, z1, z2⟩ := HW3.out.1.on HB14.out
      go_wp2_with fail
      refine Calls.mono (eqStore_any pg qg pw qw cg dg cw dw Z T w14 (by omega) (by omega) HG14.out.1.toC.cin HG14.out.2.1.iin (HW3.out.2.1.1.below HB14.out) (HW3.out.2.1.2.below HB14.out)) ?_
      rintro e w15 ⟨rfl, hb⟩
      clear y0 y1 y2 z0 z1 z2
      have HA15 : Hid (Below W0.heap.size W0 w15) := Below.on HA14.out hb
      have HB15 : Hid (Below w3.heap.size w3 w15) := Below.on HB14.out hb
      have HU15 : Hid (Box2 w15 w4.heap.size (.slice (some ⟨g4, 0, none⟩) xs.length xs.length) (.slice (some ⟨g5, 0, none⟩) tr.length tr.length)) := HU14.out.on hb
      have HG15 : Hid (OwnCU w15 M6 U6 pg Z.length cg Z ∧ OwnIU w15 w5.heap.size M6 qg T.length dg T) := ⟨HG14.out.1.below hb, HG14.out.2.on hb⟩
      have HT15 : Hid (OwnTU w15 U6 w6.heap.size tg dl tcg dt) := HT14.out.on hb
      have HH15 : Hid (Box2 w15 w6.heap.size (.slice pg Z.length cg) (.slice qg T.length dg)) := HH14.out.on hb
      have HK15 : Hid (Box3 w15 (w6.heap.size + 1) (.int .i64 d0) (.int .i64 d1) (.slice tg dl tcg)) := HK14.out.on hb
      have hsz15 : w6.heap.size + 2 ≤ w15.heap.size := Nat.le_trans hsz14 hb.size
      clear HA14 HB14 HU14 HG14 HT14 HH14 HK14 hb
      obtain ⟨v0, v1, v2, v3⟩ := HK15.out
      obtain ⟨u0, u1, u2, u3⟩ := HW3.out.2.2.1.on HB15.out
      go_wp2_with fail
      have HQ := eqCell_any d0 d1 d0 d1 tg tw dl dl tcg tcw dt dt w15 HDL.out HDL.out (by omega) (by omega) HT15.out.1.bin (HW3.out.2.2.2.below HB15.out)
      rw [decide_eq_true (rfl : ((d0, d1, dt) : Cel) = (d0, d1, dt))] at HQ
      refine Calls.mono HQ ?_
      clear HQ
      rintro e w16 ⟨rfl, hb⟩
      clear v0 v1 v2 v3 u0 u1 u2 u3
      have HA16 : Hid (Below W0.heap.size W0 w16) := Below.on HA15.out hb
      have HB16 : Hid (Below w3.heap.size w3 w16) := Below.on HB15.out hb
      have HU16 : Hid (Box2 w16 w4.heap.size (.slice (some ⟨g4, 0, none⟩) xs.length xs.length) (.slice (some ⟨g5, 0, none⟩) tr.length tr.length)) := HU15.out.on hb
      have HG16 : Hid (OwnCU w16 M6 U6 pg Z.length cg Z ∧ OwnIU w16 w5.heap.size M6 qg T.length dg T) := ⟨HG15.out.1.below hb, HG15.out.2.on hb⟩
      have HT16 : Hid (OwnTU w16 U6 w6.heap.size tg dl tcg dt) := HT15.out.on hb
      have HH16 : Hid (Box2 w16 w6.heap.size (.slice pg Z.length cg) (.slice qg T.length dg)) := HH15.out.on hb
      have HK16 : Hid (Box3 w16 (w6.heap.size + 1) (.int .i64 d0) (.int .i64 d1) (.slice tg dl tcg)) := HK15.out.on hb
      have hsz16 : w6.heap.size + 2 ≤ w16.heap.size := Nat.le_trans hsz15 hb.size
      clear HA15 HB15 HU15 HG15 HT15 HH15 HK15 hb
      obtain ⟨y0, y1, y2⟩ := HH16.out
      go_wp2_with fail
      refine Calls.mono (markStoreV_any w5.heap.size M6 U6 pg qg Z.length T.length cg dg 1 Z T w16 (by decide) (by decide) (by omega) (by omega) hs56 hs66 (by omega) HG16.out.1 HG16.out.2) ?_
      rintro e w17 ⟨rfl, ho, hk⟩
      clear y0 y1 y2
      have HZ17 : Hid (OwnCU w17 M6 U6 pg Z.length cg (markC 1 Z) ∧ OwnIU w17 w5.heap.size M6 qg T.length dg (ups (endC 1 Z) T.length)) := ho
      clear ho
      have HA17 : Hid (Below W0.heap.size W0 w17) := HA16.out.trans (hk.below (by omega) HA16.out.size)
      have HB17 : Hid (Below w3.heap.size w3 w17) := HB16.out.trans (hk.below (by omega) HB16.out.size)
      have HU17 : Hid (Box2 w17 w4.heap.size (.slice (some ⟨g4, 0, none⟩) xs.length xs.length) (.slice (some ⟨g5, 0, none⟩) tr.length tr.length)) := HU16.out.keep hk (by omega)
      have HT17 : Hid (OwnTU w17 U6 w6.heap.size tg dl tcg dt) := HT16.out.keep hk (by omega)
      have HH17 : Hid (Box2 w17 w6.heap.size (.slice pg Z.length cg) (.slice qg T.length dg)) := HH16.out.keep hk (by omega)
      have HK17 : Hid (Box3 w17 (w6.heap.size + 1) (.int .i64 d0) (.int .i64 d1) (.slice tg dl tcg)) := HK16.out.keep hk (by omega)
      have hsz17 : w6.heap.size + 2 ≤ w17.heap.size := Nat.le_trans hsz16 hk.size
      clear HA16 HB16 HU16 HT16 HH16 HK16 HG16 hk
      obtain ⟨m1, em1⟩ : ∃ m : Int, m = endC 1 Z + (T.length : Int) := ⟨_, rfl⟩
      have hm1 : 0 ≤ m1 ∧ m1 ≤ 1000000000 := by rw [em1, endC_eqM]; omega
      have HM1 : Hid (m1 = endC 1 Z + (T.length : Int)) := em1
      rw [← em1]
      clear em1
      obtain ⟨v0, v1, v2, v3⟩ := HK17.out
      go_wp2_with fail
      refine Calls.mono (markCell_any U6 w6.heap.size d0 d1 tg dl tcg m1 dt w17 hm1.1 (by omega) (by omega) HT17.out.2 HT17.out.1) ?_
      rintro e w18 ⟨rfl, ho, hk⟩
      clear v0 v1 v2 v3
      have HS18 : Hid (BIn w18 tg (marks m1 dl)) := ho.bin
      clear ho
      have HA18 : Hid (Below W0.heap.size W0 w18) := HA17.out.trans (hk.below (by omega) HA17.out.size)
      have HB18 : Hid (Below w3.heap.size w3 w18) := HB17.out.trans (hk.below (by omega) HB17.out.size)
      have HU18 : Hid (Box2 w18 w4.heap.size (.slice (some ⟨g4, 0, none⟩) xs.length xs.length) (.slice (some ⟨g5, 0, none⟩) tr.length tr.length)) := HU17.out.keep hk (by omega)
      have HH18 : Hid (Box2 w18 w6.heap.size (.slice pg Z.length cg) (.slice qg T.length dg)) := HH17.out.keep hk (by omega)
      have HK18 : Hid (Box3 w18 (w6.heap.size + 1) (.int .i64 d0) (.int .i64 d1) (.slice tg dl tcg)) := HK17.out.keep hk (by omega)
      have HZ18 : Hid (OwnCU w18 M6 U6 pg Z.length cg (markC 1 Z) ∧ OwnIU w18 w5.heap.size M6 qg T.length dg (ups (endC 1 Z) T.length)) := ⟨HZ17.out.1.keep hk (by omega), HZ17.out.2.keep hk (by omega)⟩
      have hsz18 : w6.heap.size + 2 ≤ w18.heap.size := Nat.le_trans hsz17 hk.size
      clear HA17 HB17 HU17 HH17 HK17 HZ17 HT17 hk
      obtain ⟨mm, emm⟩ : ∃ m : Int, m = m1 + (dl : Int) := ⟨_, rfl⟩
      have hmm : ¬ mm < 0 := by omega
      have hmn : ¬ m1 < 0 := by omega
      have HMM : Hid (mm = m1 + (dl : Int)) := emm
      rw [← emm]
      clear emm
      have hmq : (mm != mm) = false := by simp
      obtain ⟨y0, y1, y2⟩ := HH18.out
      go_wp2_with fail
      refine Calls.mono (heldStore_any pg qg Z.length T.length cg dg 1 Z w18 (by decide) (by decide) (by omega) (by omega) rfl HZ18.out.1.toC.cin HZ18.out.2.1.iin) ?_
      rintro e w19 ⟨rfl, hb⟩
      rw [← HM1.out]
      clear y0 y1 y2
      have HA19 : Hid (Below W0.heap.size W0 w19) := Below.on HA18.out hb
      have HB19 : Hid (Below w3.heap.size w3 w19) := Below.on HB18.out hb
      have HU19 : Hid (Box2 w19 w4.heap.size (.slice (some ⟨g4, 0, none⟩) xs.length xs.length) (.slice (some ⟨g5, 0, none⟩) tr.length tr.length)) := HU18.out.on hb
      have HH19 : Hid (Box2 w19 w6.heap.size (.slice pg Z.length cg) (.slice qg T.length dg)) := HH18.out.on hb
      have HK19 : Hid (Box3 w19 (w6.heap.size + 1) (.int .i64 d0) (.int .i64 d1) (.slice tg dl tcg)) := HK18.out.on hb
      have HZ19 : Hid (OwnCU w19 M6 U6 pg Z.length cg (markC 1 Z) ∧ OwnIU w19 w5.heap.size M6 qg T.length dg (ups (endC 1 Z) T.length)) := ⟨HZ18.out.1.below hb, HZ18.out.2.on hb⟩
      have HS19 : Hid (BIn w19 tg (marks m1 dl)) := HS18.out.below hb
      have hsz19 : w6.heap.size + 2 ≤ w19.heap.size := Nat.le_trans hsz18 hb.size
      clear HA18 HB18 HU18 HH18 HK18 HZ18 HS18 hb
      obtain ⟨v0, v1, v2, v3⟩ := HK19.out
      go_wp2_with fail
      refine Calls.mono (heldCell_any d0 d1 tg dl tcg m1 w19 hm1.1 (by omega) (by omega) HS19.out) ?_
      rintro e w20 ⟨rfl, hb⟩
      rw [← HMM.out]
      clear v0 v1 v2 v3
      have HA20 : Hid (Below W0.heap.size W0 w20) := Below.on HA19.out hb
      have HB20 : Hid (Below w3.heap.size w3 w20) := Below.on HB19.out hb
      have HU20 : Hid (Box2 w20 w4.heap.size (.slice (some ⟨g4, 0, none⟩) xs.length xs.length) (.slice (some ⟨g5, 0, none⟩) tr.length tr.length)) := HU19.out.on hb
      have HH20 : Hid (Box2 w20 w6.heap.size (.slice pg Z.length cg) (.slice qg T.length dg)) := HH19.out.on hb
      have HK20 : Hid (Box3 w20 (w6.heap.size + 1) (.int .i64 d0) (.int .i64 d1) (.slice tg dl tcg)) := HK19.out.on hb
      have HZ20 : Hid (OwnCU w20 M6 U6 pg Z.length cg (markC 1 Z) ∧ OwnIU w20 w5.heap.size M6 qg T.length dg (ups (endC 1 Z) T.length)) := ⟨HZ19.out.1.below hb, HZ19.out.2.on hb⟩
      have HS20 : Hid (BIn w20 tg (marks m1 dl)) := HS19.out.below hb
      have hsz20 : w6.heap.size + 2 ≤ w20.heap.size := Nat.le_trans hsz19 hb.size
      clear HA19 HB19 HU19 HH19 HK19 HZ19 HS19 hb
      obtain ⟨s0, s1⟩ := HX.out _ HA20.out
      go_wp2_with fail
      refine Calls.mono (HTS.out _ HA20.out) ?_
      rintro e w21 ⟨g11, g12, rfl, ⟨M, hc, hi, hM1, hM2⟩, hb⟩
      have HC21 : Hid (CIn w21 (some ⟨g11, 0, none⟩) xs ∧ IIn w21 (some ⟨g12, 0, none⟩) tr) := ⟨hc.toC.cin, hi.iin⟩
      clear hc hi hM1 hM2
      clear s0 s1
      have HA21 : Hid (Below W0.heap.size W0 w21) := Below.on HA20.out hb
      have HB21 : Hid (Below w3.heap.size w3 w21) := Below.on HB20.out hb
      have HU21 : Hid (Box2 w21 w4.heap.size (.slice (some ⟨g4, 0, none⟩) xs.length xs.length) (.slice (some ⟨g5, 0, none⟩) tr.length tr.length)) := HU20.out.on hb
      have HH21 : Hid (Box2 w21 w6.heap.size (.slice pg Z.length cg) (.slice qg T.length dg)) := HH20.out.on hb
      have HK21 : Hid (Box3 w21 (w6.heap.size + 1) (.int .i64 d0) (.int .i64 d1) (.slice tg dl tcg)) := HK20.out.on hb
      have HZ21 : Hid (OwnCU w21 M6 U6 pg Z.length cg (markC 1 Z) ∧ OwnIU w21 w5.heap.size M6 qg T.length dg (ups (endC 1 Z) T.length)) := ⟨HZ20.out.1.below hb, HZ20.out.2.on hb⟩
      have HS21 : Hid (BIn w21 tg (marks m1 dl)) := HS20.out.below hb
      have hsz21 : w6.heap.size + 2 ≤ w21.heap.size := Nat.le_trans hsz20 hb.size
      clear HA20 HB20 HU20 HH20 HK20 HZ20 HS20 hb
      go_wp2_with fail
      refine Calls.mono (HTC.out _ HA21.out) ?_
      rintro e w22 ⟨g13, rfl, hs, hb⟩
      have HC22 : Hid (CIn w22 (some ⟨g11, 0, none⟩) xs ∧ IIn w22 (some ⟨g12, 0, none⟩) tr ∧ CIn w22 (some ⟨g13, 0, none⟩) cs) := ⟨HC21.out.1.below hb, HC21.out.2.below hb, hs.toC.cin⟩
      clear hs HC21
      have HA22 : Hid (Below W0.heap.size W0 w22) := Below.on HA21.out hb
      have HB22 : Hid (Below w3.heap.size w3 w22) := Below.on HB21.out hb
      have HU22 : Hid (Box2 w22 w4.heap.size (.slice (some ⟨g4, 0, none⟩) xs.length xs.length) (.slice (some ⟨g5, 0, none⟩) tr.length tr.length)) := HU21.out.on hb
      have HH22 : Hid (Box2 w22 w6.heap.size (.slice pg Z.length cg) (.slice qg T.length dg)) := HH21.out.on hb
      have HK22 : Hid (Box3 w22 (w6.heap.size + 1) (.int .i64 d0) (.int .i64 d1) (.slice tg dl tcg)) := HK21.out.on hb
      have HZ22 : Hid (OwnCU w22 M6 U6 pg Z.length cg (markC 1 Z) ∧ OwnIU w22 w5.heap.size M6 qg T.length dg (ups (endC 1 Z) T.length)) := ⟨HZ21.out.1.below hb, HZ21.out.2.on hb⟩
      have HS22 : Hid (BIn w22 tg (marks m1 dl)) := HS21.out.below hb
      have hsz22 : w6.heap.size + 2 ≤ w22.heap.size := Nat.le_trans hsz21 hb.size
      clear HA21 HB21 HU21 HH21 HK21 HZ21 HS21 hb
      go_wp2_with fail
      refine Calls.mono (HIM.out _ _ _ _ HC22.out.1 HC22.out.2.1 HC22.out.2.2) ?_
      rintro e wd ⟨ph, qh, th, ch, dh, tch, M7, U7, rfl, hoi, hoc, hot, hq1, hq2, hq3, hb⟩
      obtain ⟨oP, eoP⟩ : ∃ o : Obj, o = .cells #[.slice ph Z.length ch, .slice qh T.length dh] 36 := ⟨_, rfl⟩
      obtain ⟨oQ, eoQ⟩ : ∃ o : Obj, o = .cells #[.int .i64 d0, .int .i64 d1, .slice th dl tch] 31 := ⟨_, rfl⟩
      obtain ⟨w23, ew23⟩ : ∃ v, v = (wd.alloc oP).alloc oQ := ⟨_, rfl⟩
      have hbd : Below wd.heap.size wd w23 := by rw [ew23]; exact ((Below.refl _ _).alloc (Nat.le_refl _) _).alloc (by simp) _
      have HP23 : Hid (Box2 w23 wd.heap.size (.slice ph Z.length ch) (.slice qh T.length dh) ∧ Box3 w23 (wd.heap.size + 1) (.int .i64 d0) (.int .i64 d1) (.slice th dl tch)) := ⟨Box2.of_block (t := 36) (by rw [ew23, Below.heap_alloc _ _ _ (by simp), ← eoP]; exact heap_alloc_new _ _), Box3.of_block (t := 31) (by
        rw [ew23, ← eoQ]
        have := heap_alloc_new (wd.alloc oP) oQ
        simpa using this)⟩
      have HR23 : Hid (CIn w23 ph Z ∧ IIn w23 qh T ∧ BIn w23 th dt) := ⟨(hoc.below hbd).toC.cin, (hoi.on hbd).1.iin, (hot.below hbd).bin⟩
      have HOP : Hid (oP = .cells #[.slice ph Z.length ch, .slice qh T.length dh] 36) := eoP
      have HOQ : Hid (oQ = .cells #[.int .i64 d0, .int .i64 d1, .slice th dl tch] 31) := eoQ
      have HE23 : Hid _ := ew23
      have hb2 := hb
      clear hb
      have hb : Below w22.heap.size w22 w23 := Below.on hb2 hbd
      clear hoi hoc hot hq1 hq2 hq3 hb2 hbd HC22
      have HA23 : Hid (Below W0.heap.size W0 w23) := Below.on HA22.out hb
      have HB23 : Hid (Below w3.heap.size w3 w23) := Below.on HB22.out hb
      have HU23 : Hid (Box2 w23 w4.heap.size (.slice (some ⟨g4, 0, none⟩) xs.length xs.length) (.slice (some ⟨g5, 0, none⟩) tr.length tr.length)) := HU22.out.on hb
      have HH23 : Hid (Box2 w23 w6.heap.size (.slice pg Z.length cg) (.slice qg T.length dg)) := HH22.out.on hb
      have HK23 : Hid (Box3 w23 (w6.heap.size + 1) (.int .i64 d0) (.int .i64 d1) (.slice tg dl tcg)) := HK22.out.on hb
      have HZ23 : Hid (OwnCU w23 M6 U6 pg Z.length cg (markC 1 Z) ∧ OwnIU w23 w5.heap.size M6 qg T.length dg (ups (endC 1 Z) T.length)) := ⟨HZ22.out.1.below hb, HZ22.out.2.on hb⟩
      have HS23 : Hid (BIn w23 tg (marks m1 dl)) := HS22.out.below hb
      have hsz23 : w6.heap.size + 2 ≤ w23.heap.size := Nat.le_trans hsz22 hb.size
      clear HA22 HB22 HU22 HH22 HK22 HZ22 HS22 hb
      obtain ⟨y0, y1, y2⟩ := HP23.out.1
      obtain ⟨z0, z1, z2⟩ := HW3.out.1.on HB23.out
      rw [ew23, eoP, eoQ] at y0 y1 y2 z0 z1 z2
      clear ew23 eoP eoQ
      go_wp2_with fail
      rw [← HOP.out, ← HOQ.out, ← HE23.out]
      refine Calls.mono (eqStore_any ph qh pw qw ch dh cw dw Z T w23 (by omega) (by omega) HR23.out.1 HR23.out.2.1 (HW3.out.2.1.1.below HB23.out) (HW3.out.2.1.2.below HB23.out)) ?_
      rintro e w24 ⟨rfl, hb⟩
      have HR24 : Hid (Box3 w24 (wd.heap.size + 1) (.int .i64 d0) (.int .i64 d1) (.slice th dl tch) ∧ BIn w24 th dt) := ⟨HP23.out.2.on hb, HR23.out.2.2.below hb⟩
      clear y0 y1 y2 z0 z1 z2 HOP HOQ HE23 HP23 HR23
      have HA24 : Hid (Below W0.heap.size W0 w24) := Below.on HA23.out hb
      have HB24 : Hid (Below w3.heap.size w3 w24) := Below.on HB23.out hb
      have HU24 : Hid (Box2 w24 w4.heap.size (.slice (some ⟨g4, 0, none⟩) xs.length xs.length) (.slice (some ⟨g5, 0, none⟩) tr.length tr.length)) := HU23.out.on hb
      have HH24 : Hid (Box2 w24 w6.heap.size (.slice pg Z.length cg) (.slice qg T.length dg)) := HH23.out.on hb
      have HK24 : Hid (Box3 w24 (w6.heap.size + 1) (.int .i64 d0) (.int .i64 d1) (.slice tg dl tcg)) := HK23.out.on hb
      have HZ24 : Hid (OwnCU w24 M6 U6 pg Z.length cg (markC 1 Z) ∧ OwnIU w24 w5.heap.size M6 qg T.length dg (ups (endC 1 Z) T.length)) := ⟨HZ23.out.1.below hb, HZ23.out.2.on hb⟩
      have HS24 : Hid (BIn w24 tg (marks m1 dl)) := HS23.out.below hb
      have hsz24 : w6.heap.size + 2 ≤ w24.heap.size := Nat.le_trans hsz23 hb.size
      clear HA23 HB23 HU23 HH23 HK23 HZ23 HS23 hb
      obtain ⟨v0, v1, v2, v3⟩ := HR24.out.1
      obtain ⟨u0, u1, u2, u3⟩ := HW3.out.2.2.1.on HB24.out
      go_wp2_with fail
      have HQ := eqCell_any d0 d1 d0 d1 th tw dl dl tch tcw dt dt w24 HDL.out HDL.out (by omega) (by omega) HR24.out.2 (HW3.out.2.2.2.below HB24.out)
      rw [decide_eq_true (rfl : ((d0, d1, dt) : Cel) = (d0, d1, dt))] at HQ
      refine Calls.mono HQ ?_
      clear HQ
      rintro e w25 ⟨rfl, hb⟩
      clear v0 v1 v2 v3 u0 u1 u2 u3
      clear HR24
      have HA25 : Hid (Below W0.heap.size W0 w25) := Below.on HA24.out hb
      have HB25 : Hid (Below w3.heap.size w3 w25) := Below.on HB24.out hb
      have HU25 : Hid (Box2 w25 w4.heap.size (.slice (some ⟨g4, 0, none⟩) xs.length xs.length) (.slice (some ⟨g5, 0, none⟩) tr.length tr.length)) := HU24.out.on hb
      have HH25 : Hid (Box2 w25 w6.heap.size (.slice pg Z.length cg) (.slice qg T.length dg)) := HH24.out.on hb
      have HK25 : Hid (Box3 w25 (w6.heap.size + 1) (.int .i64 d0) (.int .i64 d1) (.slice tg dl tcg)) := HK24.out.on hb
      have HZ25 : Hid (OwnCU w25 M6 U6 pg Z.length cg (markC 1 Z) ∧ OwnIU w25 w5.heap.size M6 qg T.length dg (ups (endC 1 Z) T.length)) := ⟨HZ24.out.1.below hb, HZ24.out.2.on hb⟩
      have HS25 : Hid (BIn w25 tg (marks m1 dl)) := HS24.out.below hb
      have hsz25 : w6.heap.size + 2 ≤ w25.heap.size := Nat.le_trans hsz24 hb.size
      clear HA24 HB24 HU24 HH24 HK24 HZ24 HS24 hb
      obtain ⟨y0, y1, y2⟩ := HH25.out
      go_wp2_with fail
      refine Calls.mono (heldStore_any pg qg Z.length T.length cg dg 1 Z w25 (by decide) (by decide) (by omega) (by omega) rfl HZ25.out.1.toC.cin HZ25.out.2.1.iin) ?_
      rintro e w26 ⟨rfl, hb⟩
      rw [← HM1.out]
      clear y0 y1 y2
      have HA26 : Hid (Below W0.heap.size W0 w26) := Below.on HA25.out hb
      have HB26 : Hid (Below w3.heap.size w3 w26) := Below.on HB25.out hb
      have HU26 : Hid (Box2 w26 w4.heap.size (.slice (some ⟨g4, 0, none⟩) xs.length xs.length) (.slice (some ⟨g5, 0, none⟩) tr.length tr.length)) := HU25.out.on hb
      have HH26 : Hid (Box2 w26 w6.heap.size (.slice pg Z.length cg) (.slice qg T.length dg)) := HH25.out.on hb
      have HK26 : Hid (Box3 w26 (w6.heap.size + 1) (.int .i64 d0) (.int .i64 d1) (.slice tg dl tcg)) := HK25.out.on hb
      have HZ26 : Hid (OwnCU w26 M6 U6 pg Z.length cg (markC 1 Z) ∧ OwnIU w26 w5.heap.size M6 qg T.length dg (ups (endC 1 Z) T.length)) := ⟨HZ25.out.1.below hb, HZ25.out.2.on hb⟩
      have HS26 : Hid (BIn w26 tg (marks m1 dl)) := HS25.out.below hb
      have hsz26 : w6.heap.size + 2 ≤ w26.heap.size := Nat.le_trans hsz25 hb.size
      clear HA25 HB25 HU25 HH25 HK25 HZ25 HS25 hb
      obtain ⟨v0, v1, v2, v3⟩ := HK26.out
      go_wp2_with fail
      refine Calls.mono (heldCell_any d0 d1 tg dl tcg m1 w26 hm1.1 (by omega) (by omega) HS26.out) ?_
      rintro e w27 ⟨rfl, hb⟩
      rw [← HMM.out]
      clear v0 v1 v2 v3
      have HA27 : Hid (Below W0.heap.size W0 w27) := Below.on HA26.out hb
      have HB27 : Hid (Below w3.heap.size w3 w27) := Below.on HB26.out hb
      have HU27 : Hid (Box2 w27 w4.heap.size (.slice (some ⟨g4, 0, none⟩) xs.length xs.length) (.slice (some ⟨g5, 0, none⟩) tr.length tr.length)) := HU26.out.on hb
      have HH27 : Hid (Box2 w27 w6.heap.size (.slice pg Z.length cg) (.slice qg T.length dg)) := HH26.out.on hb
      have HK27 : Hid (Box3 w27 (w6.heap.size + 1) (.int .i64 d0) (.int .i64 d1) (.slice tg dl tcg)) := HK26.out.on hb
      have HZ27 : Hid (OwnCU w27 M6 U6 pg Z.length cg (markC 1 Z) ∧ OwnIU w27 w5.heap.size M6 qg T.length dg (ups (endC 1 Z) T.length)) := ⟨HZ26.out.1.below hb, HZ26.out.2.on hb⟩
      have HS27 : Hid (BIn w27 tg (marks m1 dl)) := HS26.out.below hb
      have hsz27 : w6.heap.size + 2 ≤ w27.heap.size := Nat.le_trans hsz26 hb.size
      clear HA26 HB26 HU26 HH26 HK26 HZ26 HS26 hb
      go_wp2_with fail
      go_ret
      exact ⟨rfl, (HL.out _ HA27.out).2.2.2⟩
    · have er2 : szR r (cs.length + tl cs) = -1 := by rw [szR, if_neg hm]
      rw [er2] at H2
      rw [eW0] at HS1
      clear er2 eW0 hm
      go_enter Try.func8, Try.ntmps8
      go_wp2_with fail
      refine HS1.mono ?_
      rintro e w1 ⟨rfl, hb⟩
      rw [← HE0.out] at hb
      have HB1 : Hid (Below W0.heap.size W0 w1) := hb
      have HS2 : Hid _ := H2.out w1 hb
      clear hb HS1 H2
      go_wp2_with fail
      refine Calls.mono HS2.out ?_
      rintro e w2 ⟨rfl, hb⟩
      have HB2 : Hid (Below W0.heap.size W0 w2) := Below.on HB1.out hb
      clear hb HS2
      go_wp2
      go_ret
      exact ⟨rfl, (HL.out _ HB2.out).2.2.2⟩
  · have er : szR 1048576 (xs.length + tl xs + tr.length) = -1 := by rw [szR, if_neg hn]
    rw [er, eW0] at HS1
    clear er eW0 hn
    go_enter Try.func8, Try.ntmps8
    go_wp2_with fail
    refine HS1.mono ?_
    rintro e w1 ⟨rfl, hb⟩
    rw [← HE0.out] at hb
    have HB1 : Hid (Below W0.heap.size W0 w1) := hb
    clear hb HS1
    go_wp2
    go_ret
    exact ⟨rfl, (HL.out _ HB1.out).2.2.2⟩

end Go.Proofs.Ytedkkghekboahaa

