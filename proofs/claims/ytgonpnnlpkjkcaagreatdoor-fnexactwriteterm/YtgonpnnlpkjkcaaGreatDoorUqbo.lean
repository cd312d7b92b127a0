/- Texts of LawWr. Own work of the verifier. -/
import Derived.Test.YtgonpnnlpkjkcaaGreatDoorUqbl
import Derived.Test.YtgonpnnlpkjkcaaGreatDoorUqbm
import Derived.Test.YtgonpnnlpkjkcaaGreatDoorUqbn
import Derived.Test.YtgonpnnlpkjkcaaGreatDoorUqac
namespace Go.Proofs.YtgonpnnlpkjkcaaGreatDoor
open Go Go.RowKit
set_option linter.unusedVariables false

theorem OwnT.keepU {w w' : World} {B B' U' : Nat} {p : Option Addr} {n c : Nat} {ys : List Int} (h : OwnT w B p n c ys) (hk : Keep B' U' w w') (ho : U' ≤ B) : OwnT w' B p n c ys :=
  h.other hk.size fun g hn e => by
    obtain ⟨g', e', h1, h2, _⟩ := h.2 hn
    rw [e'] at e
    injection e with e
    injection e with e
    subst e
    exact hk.block _ h2 (.inr (by omega))
theorem OwnNN.keep {w w' : World} {B U B' U' g : Nat} {N : List (List Int)} {gs : List Nat} (h : OwnNN w B U g N gs) (hk : Keep B' U' w w') (ho : U' ≤ B) : OwnNN w' B U g N gs :=
  ⟨h.len, rowNN_block h.row (hk.block g (h.row.lt g rfl).2 (.inr (Nat.le_trans ho (h.row.lt g rfl).1))), fun i hi => ownS_block (h.item i hi) (hk.block _ (ownS_lt (h.item i hi)).2 (.inr (Nat.le_trans ho (ownS_lt (h.item i hi)).1))), h.up, h.apart⟩
theorem eqB_same (p q : Option Addr) (c1 c2 n m : Nat) (xs : List Int) (w : World) (hl : xs.length ≤ 10000000000) (en : n = xs.length) (em : m = xs.length) (hx : BIn w p xs) (hy : BIn w q xs) :
    Calls Tryz.prog 12 #[.slice p n c1, .slice q m c2] w fun e w' => e = .returned (.bool true) ∧ Below w.heap.size w w' := by
  rw [en, em]
  refine (eqByteB_any p q c1 c2 xs xs w hl hl hx hy).mono ?_
  rintro e w' ⟨rfl, n, rfl⟩
  exact ⟨by simp, ⟨rfl, rfl, rfl, Nat.le_refl _, fun _ _ => rfl⟩⟩
theorem wr_det {T : List Cel} {N : List (List Int)} {q : Bool} {xs : List Cel} {R R' : List Int} (h : WrIs T N q xs R) (h' : WrIs T N q xs R') : R = R' := by
  rcases h with ⟨h1, h2, c, k, e, hok, eR⟩ | ⟨h1, eR⟩
  · rcases h' with ⟨_, _, c', k', e', hok', eR'⟩ | ⟨h3, _⟩
    · have hh := Fo.cells_inj (.node c k .nil) (.node c' k' .nil) [] [] hok hok' rfl (by simp only [Fo.cells, List.append_nil]; rw [← e, ← e'])
      have h5 := hh.1
      injection h5 with h6 h7
      subst h6 h7
      rw [eR, eR']
    · exact absurd ⟨h1, h2⟩ h3
  · rcases h' with ⟨h3, h4, _⟩ | ⟨_, eR'⟩
    · exact absurd ⟨h3, h4⟩ h1
    · rw [eR, eR']
theorem wr_ex {T : List Cel} {N : List (List Int)} {q : Bool} {xs : List Cel} (hTb : ∀ i, i < T.length → Byte (T.getD i Cel.none).2.2) (hxb : ∀ i, i < xs.length → Byte (xs.getD i Cel.none).2.2) (hN : NmG N) : ∃ R, WrIs T N q xs R ∧ R.length ≤ 3000000000 := by
  by_cases h : tabB T = true ∧ validB xs = true
  · obtain ⟨c, k, e, hok, hl⟩ := tree_ofW hxb h.2
    obtain ⟨_, ft⟩ := tab_facts h.1
    refine ⟨_, .inl ⟨h.1, h.2, c, k, e, hok, rfl⟩, ?_⟩
    have hi : (itC (c, k)).length = xs.length := by rw [e]; simp [itC]
    have := (text_good (T := T) (N := N) q (fun j hj => ⟨hTb j hj, (ft j hj).1.2⟩) hN xs.length (c, k) 1200 hok (by omega)).2
    rw [hi] at this
    omega
  · exact ⟨[], .inr ⟨h, rfl⟩, by simp⟩
theorem endO_eq (k : Int) (cs : List Cel) : endO k cs = k + 2 * cs.length + tl cs := by simp [endO, kAt]
set_option maxRecDepth 100000 in
set_option maxHeartbeats 2000000 in
theorem lawWr_any (po : Option Addr) (co : Nat) (T : List Cel) (tq : Option Addr) (ct : Nat) (xs : List Cel) (pn : Option Addr) (cn : Nat) (N : List (List Int)) (bq : Bool) (w : World) (hin : OArg w po T) (hin2 : CArg w tq xs) (hin3 : NArg w pn N) (hTab : Tab w) (hPow : TabP w) :
    Calls Tryz.prog 3 #[.slice po T.length co, .slice tq xs.length ct, .slice pn N.length cn, .bool bq] w fun e w' => e = .returned (.bool true) ∧ Below w.heap.size w w' := by
  have HI : Hid (OArg w po T) := hin
  have HJ : Hid (CArg w tq xs) := hin2
  have HL : Hid (NArg w pn N) := hin3
  have HS := szOpS_any po co T 1048576 w (Nat.le_refl _) hin.len hin.text hin.lies
  have HTP : Hid (Tab w ∧ TabP w) := ⟨hTab, hPow⟩
  have hlen1 := hin.len
  have hlen2 := hin2.len
  have hlen3 := hin3.len
  clear hin hin2 hin3 hTab hPow
  by_cases hn : T.length + tl T ≤ 1048576
  · obtain ⟨r, er, hr⟩ : ∃ r : Nat, szR 1048576 (T.length + tl T) = r ∧ r ≤ 1048576 := ⟨1048576 - (T.length + tl T), by rw [szR, if_pos hn]; omega, by omega⟩
    rw [er] at HS
    clear er
    have HS2 : Hid (∀ W, Below w.heap.size w W → Calls Tryz.prog 5 #[.slice tq xs.length ct, .int .i64 r] W fun e w' => e = .returned (.int .i64 (szR r (xs.length + tl xs))) ∧ Below W.heap.size W w') := fun W hW => szCellS_any tq ct xs r W hr HJ.out.len HJ.out.text (HJ.out.below hW).lies
    by_cases hm0 : xs.length + tl xs ≤ r
    · obtain ⟨r2, er2, hr2⟩ : ∃ r2 : Nat, szR r (xs.length + tl xs) = r2 ∧ r2 ≤ 1048576 := ⟨r - (xs.length + tl xs), by rw [szR, if_pos hm0]; omega, by omega⟩
      rw [er2] at HS2
      clear er2
      have HS3 : Hid (∀ W, Below w.heap.size w W → Calls Tryz.prog 6 #[.slice pn N.length cn, .int .i64 r2] W fun e w' => e = .returned (.int .i64 (szR r2 (N.length + tnn N))) ∧ Below W.heap.size W w') := fun W hW => szNN_any pn cn N r2 W hr2 (HL.out.below hW)
      have hm : xs.length + tl xs ≤ 1048576 := by omega
      by_cases hk0 : N.length + tnn N ≤ r2
      · obtain ⟨r3, er3⟩ : ∃ r3 : Nat, szR r2 (N.length + tnn N) = r3 := ⟨r2 - (N.length + tnn N), by rw [szR, if_pos hk0]; omega⟩
        rw [er3] at HS3
        clear er3
        have hkn : N.length + tnn N ≤ 1048576 := by omega
        have hNG : NmG N := fun i hi => ⟨(HL.out.item i hi).2, by have := tnn_at N i hi; omega⟩
        obtain ⟨R, hR, hRL⟩ := wr_ex (T := T) (N := N) (q := bq) (xs := xs) HI.out.byte HJ.out.byte hNG
        have HZL : Hid (R.length ≤ 3000000000) := hRL
        have HSP : Hid (∀ (p q u : Option Addr) (w : World), OIn w p T → CIn w q xs → NIn w u N → Calls Tryz.prog 7 #[.slice p T.length T.length, .slice q xs.length xs.length, .slice u N.length N.length, .bool bq] w fun e w' => ∃ q m c2, e = .returned (.slice q m c2) ∧ OwnT w' w.heap.size q m c2 R ∧ Below w.heap.size w w') := fun p q u w h1 h2 h3 => by
          refine (specWrite_any T xs N bq p T.length q u N.length w HI.out.byte HJ.out.byte (by omega) (by omega) (by omega) hNG h1 h2 h3).mono ?_
          rintro e w' ⟨R', q', m, c2, hR', rfl, ho, hb⟩
          rw [wr_det hR' hR] at ho
          exact ⟨q', m, c2, rfl, ho, hb⟩
        have HIM : Hid (∀ (p q u : Option Addr) (W : World), Below w.heap.size w W → OIn W p T → CIn W q xs → NIn W u N → Calls Tryz.prog 11 #[.slice p T.length T.length, .slice q xs.length xs.length, .slice u N.length N.length, .bool bq] W fun e w' => ∃ q m c2, e = .returned (.slice q m c2) ∧ OwnT w' W.heap.size q m c2 R ∧ Below W.heap.size W w') := fun p q u W hW h1 h2 h3 => by
          refine (implWrite_any T xs N bq p T.length q u N.length W HI.out.byte HJ.out.byte (by omega) (by omega) (by omega) hNG h1 h2 h3 (HTP.out.1.below hW) (HTP.out.2.below hW)).mono ?_
          rintro e w' ⟨R', q', m, c2, hR', rfl, ho, hb⟩
          rw [wr_det hR' hR] at ho
          exact ⟨q', m, c2, rfl, ho, hb⟩
        clear hR hRL hNG HTP hm0 hk0 hr hr2 hlen1 hlen2 hlen3
        go_enter Tryz.func3, Tryz.ntmps3
        go_wp2_with fail
        refine (HS).mono ?_
        rintro e w0 ⟨rfl, hb⟩
        have HA0 : Hid (Below w.heap.size w w0) := hb
        clear hb HS
        go_wp2_with fail
        refine (HS2.out w0 HA0.out).mono ?_
        rintro e w1 ⟨rfl, hb⟩
        have HA1 : Hid (Below w.heap.size w w1) := Below.on HA0.out hb
        clear hb
        go_wp2_with fail
        refine (HS3.out w1 HA1.out).mono ?_
        rintro e w2 ⟨rfl, hb⟩
        have HA2 : Hid (Below w.heap.size w w2) := Below.on HA1.out hb
        clear hb HA0 HA1 HS2 HS3
        go_wp2_with fail
        refine (toOpS_any po co T w2 hn (HI.out.below HA2.out).lies).mono ?_
        rintro e w3 ⟨rfl, ho, hb⟩
        have HA3 : Hid (Below w.heap.size w w3) := Below.on HA2.out hb
        have HP3 : Hid (OIn w3 (some ⟨w2.heap.size, 0, none⟩) T) := ho.oin
        clear ho hb
        go_wp2_with fail
        refine (toCellS_any tq ct xs w3 hm (HJ.out.below HA3.out).lies).mono ?_
        rintro e w4 ⟨rfl, ho, hb⟩
        have HA4 : Hid (Below w.heap.size w w4) := Below.on HA3.out hb
        have HP4 : Hid (OIn w4 (some ⟨w2.heap.size, 0, none⟩) T) := HP3.out.below hb
        have HQ4 : Hid (CIn w4 (some ⟨w3.heap.size, 0, none⟩) xs) := ho.cin
        clear ho hb
        go_wp2_with fail
        refine (toNN_any pn cn N w4 hkn (HL.out.below HA4.out)).mono ?_
        rintro e w5 ⟨rfl, ⟨gs2, ho⟩, hb⟩
        have HA5 : Hid (Below w.heap.size w w5) := Below.on HA4.out hb
        have HP5 : Hid (OIn w5 (some ⟨w2.heap.size, 0, none⟩) T) := HP4.out.below hb
        have HQ5 : Hid (CIn w5 (some ⟨w3.heap.size, 0, none⟩) xs) := HQ4.out.below hb
        have HV5 : Hid (NIn w5 (some ⟨w4.heap.size, 0, none⟩) N) := ho.nin
        clear ho hb
        go_wp2_with fail
        refine (HSP.out _ _ _ w5 HP5.out HQ5.out HV5.out).mono ?_
        rintro e w6 ⟨p6, n6, c6, rfl, ho, hb⟩
        have HA6 : Hid (Below w.heap.size w w6) := Below.on HA5.out hb
        have HB6 : Hid (Below w6.heap.size w6 w6) := Below.refl _ _
        have HZ6 : Hid (BIn w6 p6 R ∧ n6 = R.length) := ⟨ho.bin, ho.1⟩
        clear ho hb
        go_wp2_with fail
        refine (toOpS_any po co T w6 hn (HI.out.below HA6.out).lies).mono ?_
        rintro e w7 ⟨rfl, ho, hb⟩
        have HA7 : Hid (Below w.heap.size w w7) := Below.on HA6.out hb
        have HB7 : Hid (Below w6.heap.size w6 w7) := Below.on HB6.out hb
        have HX7 : Hid (OwnOU w7 w6.heap.size w7.heap.size (some ⟨w6.heap.size, 0, none⟩) T.length T.length T) := ho.up
        clear ho hb
        go_wp2_with fail
        refine (toCellS_any tq ct xs w7 hm (HJ.out.below HA7.out).lies).mono ?_
        rintro e w8 ⟨rfl, ho, hb⟩
        have HA8 : Hid (Below w.heap.size w w8) := Below.on HA7.out hb
        have HB8 : Hid (Below w6.heap.size w6 w8) := Below.on HB7.out hb
        have HX8 : Hid (OwnOU w8 w6.heap.size w7.heap.size (some ⟨w6.heap.size, 0, none⟩) T.length T.length T) := HX7.out.below hb
        have HY8 : Hid (OwnCU w8 w7.heap.size w8.heap.size (some ⟨w7.heap.size, 0, none⟩) xs.length xs.length xs) := ho.up
        have HS7 : Hid (w7.heap.size ≤ w8.heap.size) := hb.size
        clear ho hb
        go_wp2_with fail
        refine (toNN_any pn cn N w8 hkn (HL.out.below HA8.out)).mono ?_
        rintro e w9 ⟨rfl, ⟨gs9, ho⟩, hb⟩
        have HA9 : Hid (Below w.heap.size w w9) := Below.on HA8.out hb
        have HB9 : Hid (Below w6.heap.size w6 w9) := Below.on HB8.out hb
        have HX9 : Hid (OwnOU w9 w6.heap.size w7.heap.size (some ⟨w6.heap.size, 0, none⟩) T.length T.length T) := HX8.out.below hb
        have HY9 : Hid (OwnCU w9 w7.heap.size w8.heap.size (some ⟨w7.heap.size, 0, none⟩) xs.length xs.length xs) := HY8.out.below hb
        have HW9 : Hid (OwnNN w9 w8.heap.size w9.heap.size w8.heap.size N gs9) := ho
        have HS8 : Hid (w8.heap.size ≤ w9.heap.size) := hb.size
        clear ho hb
        go_wp2_with fail
        refine (HIM.out _ _ _ w9 HA9.out HX9.out.toO.oin HY9.out.toC.cin HW9.out.nin).mono ?_
        rintro e w10 ⟨p10, n10, c10, rfl, ho, hb⟩
        have HA10 : Hid (Below w.heap.size w w10) := Below.on HA9.out hb
        have HB10 : Hid (Below w6.heap.size w6 w10) := Below.on HB9.out hb
        have HX10 : Hid (OwnOU w10 w6.heap.size w7.heap.size (some ⟨w6.heap.size, 0, none⟩) T.length T.length T) := HX9.out.below hb
        have HY10 : Hid (OwnCU w10 w7.heap.size w8.heap.size (some ⟨w7.heap.size, 0, none⟩) xs.length xs.length xs) := HY9.out.below hb
        have HW10 : Hid (OwnNN w10 w8.heap.size w9.heap.size w8.heap.size N gs9) := HW9.out.below hb
        have HG10 : Hid (OwnT w10 w9.heap.size p10 n10 c10 R) := ho
        have HN10 : Hid (n10 = R.length) := ho.1
        clear ho hb
        go_wp2_with fail
        refine (eqB_same p10 p6 c10 c6 _ _ R w10 (by have := HZL.out; omega) HN10.out HZ6.out.2 (HG10.out.bin) (HZ6.out.1.below HB10.out)).mono ?_
        rintro e w11 ⟨rfl, hb⟩
        have HA11 : Hid (Below w.heap.size w w11) := Below.on HA10.out hb
        have HB11 : Hid (Below w6.heap.size w6 w11) := Below.on HB10.out hb
        have HX11 : Hid (OwnOU w11 w6.heap.size w7.heap.size (some ⟨w6.heap.size, 0, none⟩) T.length T.length T) := HX10.out.below hb
        have HY11 : Hid (OwnCU w11 w7.heap.size w8.heap.size (some ⟨w7.heap.size, 0, none⟩) xs.length xs.length xs) := HY10.out.below hb
        have HW11 : Hid (OwnNN w11 w8.heap.size w9.heap.size w8.heap.size N gs9) := HW10.out.below hb
        have HG11 : Hid (OwnT w11 w9.heap.size p10 n10 c10 R) := HG10.out.below hb
        clear hb
        go_wp2_with fail
        refine (toOpS_any po co T w11 hn (HI.out.below HA11.out).lies).mono ?_
        rintro e w12 ⟨rfl, ho, hb⟩
        have HA12 : Hid (Below w.heap.size w w12) := Below.on HA11.out hb
        have HB12 : Hid (Below w6.heap.size w6 w12) := Below.on HB11.out hb
        have HX12 : Hid (OwnOU w12 w6.heap.size w7.heap.size (some ⟨w6.heap.size, 0, none⟩) T.length T.length T) := HX11.out.below hb
        have HY12 : Hid (OwnCU w12 w7.heap.size w8.heap.size (some ⟨w7.heap.size, 0, none⟩) xs.length xs.length xs) := HY11.out.below hb
        have HW12 : Hid (OwnNN w12 w8.heap.size w9.heap.size w8.heap.size N gs9) := HW11.out.below hb
        have HG12 : Hid (OwnT w12 w9.heap.size p10 n10 c10 R) := HG11.out.below hb
        have HP12 : Hid (OIn w12 (some ⟨w11.heap.size, 0, none⟩) T) := ho.oin
        clear ho hb
        go_wp2_with fail
        refine (eqOpS_any _ _ _ _ T T w12 (by omega) (by omega) HX12.out.toO.oin HP12.out).mono ?_
        rintro e w13 ⟨rfl, hb⟩
        have HA13 : Hid (Below w.heap.size w w13) := Below.on HA12.out hb
        have HB13 : Hid (Below w6.heap.size w6 w13) := Below.on HB12.out hb
        have HX13 : Hid (OwnOU w13 w6.heap.size w7.heap.size (some ⟨w6.heap.size, 0, none⟩) T.length T.length T) := HX12.out.below hb
        have HY13 : Hid (OwnCU w13 w7.heap.size w8.heap.size (some ⟨w7.heap.size, 0, none⟩) xs.length xs.length xs) := HY12.out.below hb
        have HW13 : Hid (OwnNN w13 w8.heap.size w9.heap.size w8.heap.size N gs9) := HW12.out.below hb
        have HG13 : Hid (OwnT w13 w9.heap.size p10 n10 c10 R) := HG12.out.below hb
        have ht : decide (T = T) = true := by simp
        rw [ht]
        clear ht hb HP12
        go_wp2_with fail
        refine (toCellS_any tq ct xs w13 hm (HJ.out.below HA13.out).lies).mono ?_
        rintro e w14 ⟨rfl, ho, hb⟩
        have HA14 : Hid (Below w.heap.size w w14) := Below.on HA13.out hb
        have HB14 : Hid (Below w6.heap.size w6 w14) := Below.on HB13.out hb
        have HX14 : Hid (OwnOU w14 w6.heap.size w7.heap.size (some ⟨w6.heap.size, 0, none⟩) T.length T.length T) := HX13.out.below hb
        have HY14 : Hid (OwnCU w14 w7.heap.size w8.heap.size (some ⟨w7.heap.size, 0, none⟩) xs.length xs.length xs) := HY13.out.below hb
        have HW14 : Hid (OwnNN w14 w8.heap.size w9.heap.size w8.heap.size N gs9) := HW13.out.below hb
        have HG14 : Hid (OwnT w14 w9.heap.size p10 n10 c10 R) := HG13.out.below hb
        have HQ14 : Hid (CIn w14 (some ⟨w13.heap.size, 0, none⟩) xs) := ho.cin
        clear ho hb
        go_wp2_with fail
        refine (eqCellS_any _ _ _ _ xs xs w14 (by omega) (by omega) HY14.out.toC.cin HQ14.out).mono ?_
        rintro e w15 ⟨rfl, hb⟩
        have HA15 : Hid (Below w.heap.size w w15) := Below.on HA14.out hb
        have HB15 : Hid (Below w6.heap.size w6 w15) := Below.on HB14.out hb
        have HX15 : Hid (OwnOU w15 w6.heap.size w7.heap.size (some ⟨w6.heap.size, 0, none⟩) T.length T.length T) := HX14.out.below hb
        have HY15 : Hid (OwnCU w15 w7.heap.size w8.heap.size (some ⟨w7.heap.size, 0, none⟩) xs.length xs.length xs) := HY14.out.below hb
        have HW15 : Hid (OwnNN w15 w8.heap.size w9.heap.size w8.heap.size N gs9) := HW14.out.below hb
        have HG15 : Hid (OwnT w15 w9.heap.size p10 n10 c10 R) := HG14.out.below hb
        have ht : decide (xs = xs) = true := by simp
        rw [ht]
        clear ht hb HQ14
        go_wp2_with fail
        refine (toNN_any pn cn N w15 hkn (HL.out.below HA15.out)).mono ?_
        rintro e w16 ⟨rfl, ⟨gs15, ho⟩, hb⟩
        have HA16 : Hid (Below w.heap.size w w16) := Below.on HA15.out hb
        have HB16 : Hid (Below w6.heap.size w6 w16) := Below.on HB15.out hb
        have HX16 : Hid (OwnOU w16 w6.heap.size w7.heap.size (some ⟨w6.heap.size, 0, none⟩) T.length T.length T) := HX15.out.below hb
        have HY16 : Hid (OwnCU w16 w7.heap.size w8.heap.size (some ⟨w7.heap.size, 0, none⟩) xs.length xs.length xs) := HY15.out.below hb
        have HW16 : Hid (OwnNN w16 w8.heap.size w9.heap.size w8.heap.size N gs9) := HW15.out.below hb
        have HG16 : Hid (OwnT w16 w9.heap.size p10 n10 c10 R) := HG15.out.below hb
        have HV16 : Hid (NIn w16 (some ⟨w15.heap.size, 0, none⟩) N) := ho.nin
        clear ho hb
        go_wp2_with fail
        refine (eqNN_same _ _ _ _ N w16 hkn HW16.out.nin HV16.out).mono ?_
        rintro e w17 ⟨rfl, hb⟩
        have HA17 : Hid (Below w.heap.size w w17) := Below.on HA16.out hb
        have HB17 : Hid (Below w6.heap.size w6 w17) := Below.on HB16.out hb
        have HX17 : Hid (OwnOU w17 w6.heap.size w7.heap.size (some ⟨w6.heap.size, 0, none⟩) T.length T.length T) := HX16.out.below hb
        have HY17 : Hid (OwnCU w17 w7.heap.size w8.heap.size (some ⟨w7.heap.size, 0, none⟩) xs.length xs.length xs) := HY16.out.below hb
        have HW17 : Hid (OwnNN w17 w8.heap.size w9.heap.size w8.heap.size N gs9) := HW16.out.below hb
        have HG17 : Hid (OwnT w17 w9.heap.size p10 n10 c10 R) := HG16.out.below hb
        clear hb HV16
        go_wp2_with fail
        refine (markOps_any w6.heap.size w7.heap.size _ _ _ 1 T w17 (by decide) (by decide) (by omega) HX17.out).mono ?_
        rintro e w18 ⟨rfl, ho, hk⟩
        have HA18 : Hid (Below w.heap.size w w18) := HA17.out.trans (hk.below HA6.out.size HA17.out.size)
        have HB18 : Hid (Below w6.heap.size w6 w18) := HB17.out.trans (hk.below (Nat.le_refl _) HB17.out.size)
        have HY18 : Hid (OwnCU w18 w7.heap.size w8.heap.size (some ⟨w7.heap.size, 0, none⟩) xs.length xs.length xs) := HY17.out.keep hk (.inr (Nat.le_refl _))
        have HW18 : Hid (OwnNN w18 w8.heap.size w9.heap.size w8.heap.size N gs9) := HW17.out.keep hk HS7.out
        have HG18 : Hid (OwnT w18 w9.heap.size p10 n10 c10 R) := HG17.out.keepU hk (Nat.le_trans HS7.out HS8.out)
        obtain ⟨k1, ek1⟩ : ∃ k, k = endO 1 T := ⟨_, rfl⟩
        have hk1 : 0 ≤ k1 ∧ k1 ≤ 10000000 := by rw [ek1, endO_eq]; omega
        rw [← ek1]
        clear ek1 ho hk HX17
        go_wp2_with fail
        refine (markCells_any w7.heap.size w8.heap.size _ _ _ k1 xs w18 hk1.1 hk1.2 (by omega) HY18.out).mono ?_
        rintro e w19 ⟨rfl, ho, hk⟩
        have HA19 : Hid (Below w.heap.size w w19) := HA18.out.trans (hk.below HA7.out.size HA18.out.size)
        have HB19 : Hid (Below w6.heap.size w6 w19) := HB18.out.trans (hk.below HB7.out.size HB18.out.size)
        have HW19 : Hid (OwnNN w19 w8.heap.size w9.heap.size w8.heap.size N gs9) := HW18.out.keep hk (Nat.le_refl _)
        have HG19 : Hid (OwnT w19 w9.heap.size p10 n10 c10 R) := HG18.out.keepU hk HS8.out
        obtain ⟨k2, ek2⟩ : ∃ k, k = endC k1 xs := ⟨_, rfl⟩
        have hk2 : 0 ≤ k2 ∧ k2 ≤ 100000000 := by rw [ek2, endC_eq]; omega
        rw [← ek2]
        clear ek2 ho hk HY18 hk1
        go_wp2_with fail
        refine (markNN_any w8.heap.size w9.heap.size w8.heap.size k2 N gs9 w19 hk2.1 (by omega) hkn HW19.out).mono ?_
        rintro e w20 ⟨rfl, hk⟩
        have HA20 : Hid (Below w.heap.size w w20) := HA19.out.trans (hk.below HA8.out.size HA19.out.size)
        have HB20 : Hid (Below w6.heap.size w6 w20) := HB19.out.trans (hk.below HB8.out.size HB19.out.size)
        have HG20 : Hid (OwnT w20 w9.heap.size p10 n10 c10 R) := HG19.out.keepU hk (Nat.le_refl _)
        obtain ⟨k3, ek3⟩ : ∃ k : Int, k = k2 + (tnn N : Nat) := ⟨_, rfl⟩
        have hk3 : ¬ k3 < 0 := by rw [ek3]; omega
        rw [← ek3]
        clear ek3 hk HW19 hk2
        go_wp2_with fail
        refine (eqB_same p10 p6 c10 c6 _ _ R w20 (by have := HZL.out; omega) HN10.out HZ6.out.2 (HG20.out.bin) (HZ6.out.1.below HB20.out)).mono ?_
        rintro e w21 ⟨rfl, hb⟩
        have HA21 : Hid (Below w.heap.size w w21) := Below.on HA20.out hb
        have HB21 : Hid (Below w6.heap.size w6 w21) := Below.on HB20.out hb
        have HG21 : Hid (OwnT w21 w9.heap.size p10 n10 c10 R) := HG20.out.below hb
        clear hb
        go_wp2_with fail
        refine (markTB_any w9.heap.size p10 n10 c10 1 R w21 (by decide) (by decide) (by have := HZL.out; have := HN10.out; omega) HG21.out).mono ?_
        rintro e w22 ⟨rfl, ho, hg⟩
        have hk : Keep w9.heap.size w21.heap.size w21 w22 := Keep.of_grown hg (fun k e => (HG21.out.tb e).2)
        have HA22 : Hid (Below w.heap.size w w22) := HA21.out.trans (hk.below HA9.out.size HA21.out.size)
        have HB22 : Hid (Below w6.heap.size w6 w22) := HB21.out.trans (hk.below HB9.out.size HB21.out.size)
        have HH22 : Hid (BIn w22 p10 (marks 1 n10)) := ho.bin
        obtain ⟨mm, emm⟩ : ∃ mm : Int, mm = 1 + (n10 : Nat) := ⟨_, rfl⟩
        have hmm : ¬ mm < 0 := by rw [emm]; omega
        have HMM : Hid (mm = 1 + (n10 : Nat)) := emm
        rw [← emm]
        clear emm ho hk hg HG21
        go_wp2_with fail
        refine (heldB_any p10 n10 c10 1 w22 (by decide) (by decide) (by have := HZL.out; have := HN10.out; omega) HH22.out).mono ?_
        rintro e wh ⟨rfl, hwh⟩
        rw [hwh, ← HMM.out]
        clear hwh
        go_wp2_with fail
        refine (toOpS_any po co T w22 hn (HI.out.below HA22.out).lies).mono ?_
        rintro e w23 ⟨rfl, ho, hb⟩
        have HA23 : Hid (Below w.heap.size w w23) := Below.on HA22.out hb
        have HB23 : Hid (Below w6.heap.size w6 w23) := Below.on HB22.out hb
        have HH23 : Hid (BIn w23 p10 (marks 1 n10)) := HH22.out.below hb
        have HP23 : Hid (OIn w23 (some ⟨w22.heap.size, 0, none⟩) T) := ho.oin
        clear ho hb
        go_wp2_with fail
        refine (toCellS_any tq ct xs w23 hm (HJ.out.below HA23.out).lies).mono ?_
        rintro e w24 ⟨rfl, ho, hb⟩
        have HA24 : Hid (Below w.heap.size w w24) := Below.on HA23.out hb
        have HB24 : Hid (Below w6.heap.size w6 w24) := Below.on HB23.out hb
        have HH24 : Hid (BIn w24 p10 (marks 1 n10)) := HH23.out.below hb
        have HP24 : Hid (OIn w24 (some ⟨w22.heap.size, 0, none⟩) T) := HP23.out.below hb
        have HQ24 : Hid (CIn w24 (some ⟨w23.heap.size, 0, none⟩) xs) := ho.cin
        clear ho hb
        go_wp2_with fail
        refine (toNN_any pn cn N w24 hkn (HL.out.below HA24.out)).mono ?_
        rintro e w25 ⟨rfl, ⟨gs22, ho⟩, hb⟩
        have HA25 : Hid (Below w.heap.size w w25) := Below.on HA24.out hb
        have HB25 : Hid (Below w6.heap.size w6 w25) := Below.on HB24.out hb
        have HH25 : Hid (BIn w25 p10 (marks 1 n10)) := HH24.out.below hb
        have HP25 : Hid (OIn w25 (some ⟨w22.heap.size, 0, none⟩) T) := HP24.out.below hb
        have HQ25 : Hid (CIn w25 (some ⟨w23.heap.size, 0, none⟩) xs) := HQ24.out.below hb
        have HV25 : Hid (NIn w25 (some ⟨w24.heap.size, 0, none⟩) N) := ho.nin
        clear ho hb
        go_wp2_with fail
        refine (HIM.out _ _ _ w25 HA25.out HP25.out HQ25.out HV25.out).mono ?_
        rintro e w26 ⟨p26, n26, c26, rfl, ho, hb⟩
        have HA26 : Hid (Below w.heap.size w w26) := Below.on HA25.out hb
        have HB26 : Hid (Below w6.heap.size w6 w26) := Below.on HB25.out hb
        have HH26 : Hid (BIn w26 p10 (marks 1 n10)) := HH25.out.below hb
        have HG26 : Hid (BIn w26 p26 R ∧ n26 = R.length) := ⟨ho.bin, ho.1⟩
        clear ho hb
        go_wp2_with fail
        refine (eqB_same p26 p6 c26 c6 _ _ R w26 (by have := HZL.out; omega) HG26.out.2 HZ6.out.2 (HG26.out.1) (HZ6.out.1.below HB26.out)).mono ?_
        rintro e w27 ⟨rfl, hb⟩
        have HA27 : Hid (Below w.heap.size w w27) := Below.on HA26.out hb
        have HB27 : Hid (Below w6.heap.size w6 w27) := Below.on HB26.out hb
        have HH27 : Hid (BIn w27 p10 (marks 1 n10)) := HH26.out.below hb
        clear hb
        go_wp2_with fail
        refine (heldB_any p10 n10 c10 1 w27 (by decide) (by decide) (by have := HZL.out; have := HN10.out; omega) HH27.out).mono ?_
        rintro e wh ⟨rfl, hwh⟩
        rw [hwh, ← HMM.out]
        clear hwh
        go_wp2_with fail
        go_ret
        exact ⟨rfl, HA27.out⟩
      · have er3 : szR r2 (N.length + tnn N) = -1 := by rw [szR, if_neg hk0]
        rw [er3] at HS3
        clear er3 HTP
        go_enter Tryz.func3, Tryz.ntmps3
        go_wp2_with fail
        refine (HS).mono ?_
        rintro e w0 ⟨rfl, hb⟩
        have HA0 : Hid (Below w.heap.size w w0) := hb
        clear hb
        go_wp2_with fail
        refine (HS2.out w0 HA0.out).mono ?_
        rintro e w1 ⟨rfl, hb⟩
        have HA1 : Hid (Below w.heap.size w w1) := Below.on HA0.out hb
        clear hb
        go_wp2_with fail
        refine (HS3.out w1 HA1.out).mono ?_
        rintro e w2 ⟨rfl, hb⟩
        have HA2 : Hid (Below w.heap.size w w2) := Below.on HA1.out hb
        clear hb
        go_wp2_with fail
        go_ret
        exact ⟨rfl, HA2.out⟩
    · have er2 : szR r (xs.length + tl xs) = -1 := by rw [szR, if_neg hm0]
      rw [er2] at HS2
      clear er2 HTP
      go_enter Tryz.func3, Tryz.ntmps3
      go_wp2_with fail
      refine (HS).mono ?_
      rintro e w0 ⟨rfl, hb⟩
      have HA0 : Hid (Below w.heap.size w w0) := hb
      clear hb
      go_wp2_with fail
      refine (HS2.out w0 HA0.out).mono ?_
      rintro e w1 ⟨rfl, hb⟩
      have HA1 : Hid (Below w.heap.size w w1) := Below.on HA0.out hb
      clear hb
      go_wp2_with fail
      go_ret
      exact ⟨rfl, HA1.out⟩
  · have er : szR 1048576 (T.length + tl T) = -1 := by rw [szR, if_neg hn]
    rw [er] at HS
    clear er HTP
    go_enter Tryz.func3, Tryz.ntmps3
    go_wp2_with fail
    refine (HS).mono ?_
    rintro e w0 ⟨rfl, hb⟩
    have HA0 : Hid (Below w.heap.size w w0) := hb
    clear hb
    go_wp2_with fail
    go_ret
    exact ⟨rfl, HA0.out⟩

end Go.Proofs.YtgonpnnlpkjkcaaGreatDoor

