/- The law FnExactMakeList, walked. Own work of the verifier. -/
import Derived.Test.YtopdhjnpcpkmlaaMake5
import Derived.Test.YtopdhjnpcpkmlaaLawVars
namespace Go.Proofs.Ytopdhjnpcpkmlaa
open Go Go.RowKit
set_option linter.unusedVariables false

theorem tl_cat : ∀ a b : List Cel, tl (a ++ b) = tl a + tl b
  | [], b => by simp [tl]
  | x :: r, b => by simp only [List.cons_append, tl, tl_cat r b]; omega
theorem mkL_tl : ∀ css : List (List Cel), tl (mkL css) ≤ css.length + tll css
  | [] => by simp [mkL, tl]
  | c :: r => by
    have := mkL_tl r
    simp only [mkL] at this
    simp only [mkL, List.flatMap_cons, tl_cat, List.cons_append, tl, tll, List.length_cons]
    have e : dot.2.2.length = 1 := rfl
    omega
theorem mkR_size (css : List (List Cel)) (hn : css.length + tll css ≤ 1048576) : (mkR css).1.length + tl (mkR css).1 ≤ 2000000 := by
  unfold mkR
  split
  · simp [tl]
  · split
    · simp [tl]
    · have := mkL_tl css
      have e : tl [nilC] = 2 := rfl
      simp only [List.length_append, List.length_singleton, tl_cat, e]
      omega

set_option maxRecDepth 100000 in
set_option maxHeartbeats 1000000 in
theorem lawMake_any (p : Option Addr) (cap : Nat) (css : List (List Cel)) (w : World) (hin : CCArg w p css) :
    Calls Try.prog 7 #[.slice p css.length cap] w fun e w' => e = .returned (.bool true) ∧ Below w.heap.size w w' := by
  have HI : Hid (CCArg w p css) := hin
  have HS := szSS_any p cap css 1048576 w (Nat.le_refl _) hin
  have HBY : Hid (∀ i, i < css.length → ∀ j, j < (css.getD i []).length → Byte ((css.getD i []).getD j Cel.none).2.2) := fun i hi j hj => (hin.item i hi).2.2 j hj
  clear hin
  by_cases hn : css.length + tll css ≤ 1048576
  · obtain ⟨r, er⟩ : ∃ r : Nat, szR 1048576 (css.length + tll css) = r := ⟨1048576 - (css.length + tll css), by rw [szR, if_pos hn]; omega⟩
    rw [er] at HS
    clear er
    obtain ⟨zs, ezs⟩ : ∃ zs, zs = (mkR css).1 := ⟨_, rfl⟩
    obtain ⟨code, ecode⟩ : ∃ code, code = (mkR css).2 := ⟨_, rfl⟩
    have HZL : Hid (zs.length + tl zs ≤ 2000000) := by
      show _ ≤ _
      rw [ezs]
      exact mkR_size css hn
    have HSP : Hid (∀ (p : Option Addr) (w : World), CCIn w p css → Calls Try.prog 26 #[.slice p css.length css.length] w (MakeOut w zs code)) := fun p w h => by rw [ezs, ecode]; exact specMake_any css p css.length css.length w rfl hn h
    have HIM : Hid (∀ (p : Option Addr) (w : World), CCIn w p css → TightCC w p css → Calls Try.prog 28 #[.slice p css.length css.length] w (MakeOut w zs code)) := fun p w h h' => by rw [ezs, ecode]; exact implMake_any css p css.length css.length w rfl hn HBY.out h h'
    clear ezs ecode HBY
    go_enter Try.func7, Try.ntmps7
    go_wp2_with fail
    refine HS.mono ?_
    rintro e w0 ⟨rfl, hb⟩
    have HA0 : Hid (Below w.heap.size w w0) := hb
    clear hb HS
    go_wp2_with fail
    refine (toSS_any p cap css w0 hn (HI.out.below HA0.out)).mono ?_
    rintro e w1 ⟨rfl, ho1, ht1, hb⟩
    have HC1 : Hid (CCIn w1 (some ⟨w0.heap.size, 0, none⟩) css) := ho1.ccin
    have HA1 : Hid (Below w.heap.size w w1) := Below.on HA0.out hb
    clear ho1 ht1 hb
    go_wp2_with fail
    refine (HSP.out _ w1 HC1.out).mono ?_
    rintro e w2 ⟨p2, n2, c2, rfl, ho2, hb⟩
    have HZ2 : Hid (CIn w2 p2 zs ∧ n2 = zs.length) := ⟨ho2.cin, ho2.1⟩
    have HA2 : Hid (Below w.heap.size w w2) := Below.on HA1.out hb
    clear ho2 hb HC1
    go_wp2_with fail
    refine (toSS_any p cap css w2 hn (HI.out.below HA2.out)).mono ?_
    rintro e w3 ⟨rfl, ho3, ht3, hb⟩
    have HX3 : Hid (OwnCC w3 w2.heap.size w3.heap.size (some ⟨w2.heap.size, 0, none⟩) css.length css.length css) := ho3
    have HT3 : Hid (TightCC w3 (some ⟨w2.heap.size, 0, none⟩) css) := ht3
    have HA3 : Hid (Below w.heap.size w w3) := Below.on HA2.out hb
    have HB3 : Hid (Below w2.heap.size w2 w3) := hb
    clear ho3 ht3 hb
    go_wp2_with fail
    refine (HIM.out _ w3 HX3.out.ccin HT3.out).mono ?_
    rintro e w4 ⟨p4, n4, c4, rfl, ho4, hb⟩
    have HG4 : Hid (OwnCU w4 w3.heap.size w4.heap.size p4 n4 c4 zs) := ho4.up
    have HX4 : Hid (OwnCC w4 w2.heap.size w3.heap.size (some ⟨w2.heap.size, 0, none⟩) css.length css.length css) := HX3.out.below hb
    have HA4 : Hid (Below w.heap.size w w4) := Below.on HA3.out hb
    have HB4 : Hid (Below w2.heap.size w2 w4) := Below.on HB3.out hb
    have HS4 : Hid (w3.heap.size ≤ w4.heap.size) := hb.size
    have HN4 : Hid (n4 = zs.length) := ho4.1
    clear ho4 hb HX3 HT3
    go_wp2_with fail
    rw [HN4.out, HZ2.out.2]
    refine (eqCellS_any p4 p2 c4 c2 zs zs w4 (by have := HZL.out; omega) (by have := HZL.out; omega) HG4.out.toC.cin (HZ2.out.1.below HB4.out)).mono ?_
    rintro e w5 ⟨rfl, hb⟩
    have ht : decide (zs = zs) = true := by simp
    rw [ht, ← HN4.out]
    clear ht
    have HG5 : Hid (OwnCU w5 w3.heap.size w4.heap.size p4 n4 c4 zs) := HG4.out.below hb
    have HX5 : Hid (OwnCC w5 w2.heap.size w3.heap.size (some ⟨w2.heap.size, 0, none⟩) css.length css.length css) := HX4.out.below hb
    have HA5 : Hid (Below w.heap.size w w5) := Below.on HA4.out hb
    have HB5 : Hid (Below w2.heap.size w2 w5) := Below.on HB4.out hb
    have HS5 : Hid (w3.heap.size ≤ w5.heap.size) := Nat.le_trans HS4.out hb.size
    clear hb HG4 HX4
    go_wp2_with fail
    refine (toSS_any p cap css w5 hn (HI.out.below HA5.out)).mono ?_
    rintro e w6 ⟨rfl, ho6, ht6, hb⟩
    have HC6 : Hid (CCIn w6 (some ⟨w5.heap.size, 0, none⟩) css) := ho6.ccin
    have HG6 : Hid (OwnCU w6 w3.heap.size w4.heap.size p4 n4 c4 zs) := HG5.out.below hb
    have HX6 : Hid (OwnCC w6 w2.heap.size w3.heap.size (some ⟨w2.heap.size, 0, none⟩) css.length css.length css) := HX5.out.below hb
    have HA6 : Hid (Below w.heap.size w w6) := Below.on HA5.out hb
    have HB6 : Hid (Below w2.heap.size w2 w6) := Below.on HB5.out hb
    have HS6 : Hid (w3.heap.size ≤ w6.heap.size) := Nat.le_trans HS5.out hb.size
    clear ho6 ht6 hb HG5 HX5
    go_wp2_with fail
    refine (eqSS_any _ _ _ _ _ _ css w6 rfl rfl (by omega) HX6.out.ccin HC6.out).mono ?_
    rintro e w7 ⟨rfl, hb⟩
    have HG7 : Hid (OwnCU w7 w3.heap.size w4.heap.size p4 n4 c4 zs) := HG6.out.below hb
    have HX7 : Hid (OwnCC w7 w2.heap.size w3.heap.size (some ⟨w2.heap.size, 0, none⟩) css.length css.length css) := HX6.out.below hb
    have HA7 : Hid (Below w.heap.size w w7) := Below.on HA6.out hb
    have HB7 : Hid (Below w2.heap.size w2 w7) := Below.on HB6.out hb
    have HS7 : Hid (w3.heap.size ≤ w7.heap.size) := Nat.le_trans HS6.out hb.size
    clear hb HG6 HX6 HC6
    go_wp2_with fail
    refine (markSS_any w2.heap.size w3.heap.size _ _ _ 1 css w7 (by decide) (by decide) (by omega) HX7.out).mono ?_
    rintro e w8 ⟨rfl, ho8, hk⟩
    have HG8 : Hid (OwnCU w8 w3.heap.size w4.heap.size p4 n4 c4 zs) := HG7.out.keep hk (.inr (Nat.le_refl _))
    have HA8 : Hid (Below w.heap.size w w8) := HA7.out.trans (hk.below HA2.out.size HA7.out.size)
    have HB8 : Hid (Below w2.heap.size w2 w8) := HB7.out.trans (hk.below (Nat.le_refl _) HB7.out.size)
    have HS8 : Hid (w3.heap.size ≤ w8.heap.size) := Nat.le_trans HS7.out hk.size
    clear ho8 hk HG7 HX7
    obtain ⟨kk, ekk⟩ : ∃ kk, kk = endSS 1 css := ⟨_, rfl⟩
    have hkk : ¬ kk < 0 := by rw [ekk]; have := (kS_bound 1 css css.length).1; simp only [endSS]; omega
    rw [← ekk]
    clear ekk
    go_wp2_with fail
    rw [HN4.out]
    refine (eqCellS_any p4 p2 c4 c2 zs zs w8 (by have := HZL.out; omega) (by have := HZL.out; omega) HG8.out.toC.cin (HZ2.out.1.below HB8.out)).mono ?_
    rintro e w9 ⟨rfl, hb⟩
    have ht : decide (zs = zs) = true := by simp
    rw [ht, ← HN4.out]
    clear ht
    have HG9 : Hid (OwnCU w9 w3.heap.size w4.heap.size p4 n4 c4 zs) := HG8.out.below hb
    have HA9 : Hid (Below w.heap.size w w9) := Below.on HA8.out hb
    have HB9 : Hid (Below w2.heap.size w2 w9) := Below.on HB8.out hb
    have HS9 : Hid (w3.heap.size ≤ w9.heap.size) := Nat.le_trans HS8.out hb.size
    clear hb HG8
    go_wp2_with fail
    refine (markCells_any w3.heap.size w4.heap.size p4 n4 c4 1 zs w9 (by decide) (by decide) (by have := HZL.out; omega) HG9.out).mono ?_
    rintro e w10 ⟨rfl, ho10, hg⟩
    have hb : Below w3.heap.size w9 w10 := hg.below (Nat.le_refl _) HS9.out
    have HH10 : Hid (CIn w10 p4 (markC 1 zs)) := ho10.toC.cin
    have HA10 : Hid (Below w.heap.size w w10) := HA9.out.trans (hb.mono HA3.out.size)
    have HB10 : Hid (Below w2.heap.size w2 w10) := HB9.out.trans (hb.mono HB3.out.size)
    clear hb hg ho10 HG9
    obtain ⟨mm, emm⟩ : ∃ mm, mm = endC 1 zs := ⟨_, rfl⟩
    have hm0 : ¬ mm < 0 := by rw [emm]; exact endC_pos (by decide) zs
    have HMM : Hid (mm = endC 1 zs) := emm
    rw [← emm]
    clear emm
    go_wp2_with fail
    refine (heldCells_any p4 n4 c4 1 zs w10 (by decide) (by decide) (by have := HZL.out; omega) HN4.out HH10.out).mono ?_
    rintro e w11 ⟨rfl, rfl⟩
    rw [← HMM.out]
    go_wp2_with fail
    refine (toSS_any p cap css _ hn (HI.out.below HA10.out)).mono ?_
    rintro e w12 ⟨rfl, ho12, ht12, hb⟩
    have HC12 : Hid (CCIn w12 _ css) := ho12.ccin
    have HT12 : Hid (TightCC w12 _ css) := ht12
    have HH12 : Hid (CIn w12 p4 (markC 1 zs)) := HH10.out.below hb
    have HA12 : Hid (Below w.heap.size w w12) := Below.on HA10.out hb
    have HB12 : Hid (Below w2.heap.size w2 w12) := Below.on HB10.out hb
    clear ho12 ht12 hb HH10
    go_wp2_with fail
    refine (HIM.out _ w12 HC12.out HT12.out).mono ?_
    rintro e w13 ⟨p13, n13, c13, rfl, ho13, hb⟩
    have HH13 : Hid (CIn w13 p4 (markC 1 zs)) := HH12.out.below hb
    have HG13 : Hid (CIn w13 p13 zs ∧ n13 = zs.length) := ⟨ho13.cin, ho13.1⟩
    have HA13 : Hid (Below w.heap.size w w13) := Below.on HA12.out hb
    have HB13 : Hid (Below w2.heap.size w2 w13) := Below.on HB12.out hb
    clear ho13 hb HH12 HC12
    go_wp2_with fail
    rw [HG13.out.2, HN4.out]
    refine (eqCellS_any p13 p2 c13 c2 zs zs w13 (by have := HZL.out; omega) (by have := HZL.out; omega) HG13.out.1 (HZ2.out.1.below HB13.out)).mono ?_
    rintro e w14 ⟨rfl, hb⟩
    have ht : decide (zs = zs) = true := by simp
    rw [ht]
    clear ht
    have HH14 : Hid (CIn w14 p4 (markC 1 zs)) := HH13.out.below hb
    have HA14 : Hid (Below w.heap.size w w14) := Below.on HA13.out hb
    clear hb HH13
    go_wp2_with fail
    refine (heldCells_any p4 zs.length c4 1 zs w14 (by decide) (by decide) (by have := HZL.out; omega) rfl HH14.out).mono ?_
    rintro e w15 ⟨rfl, rfl⟩
    rw [← HMM.out]
    go_wp2_with fail
    go_ret
    exact ⟨rfl, HA14.out⟩
  · have er : szR 1048576 (css.length + tll css) = -1 := by rw [szR, if_neg hn]
    rw [er] at HS
    clear er HBY
    go_enter Try.func7, Try.ntmps7
    go_wp2_with (go_at_call 25; refine HS.mono ?_; rintro e w0 ⟨rfl, hb0⟩)
    go_ret
    exact ⟨rfl, hb0⟩

end Go.Proofs.Ytopdhjnpcpkmlaa
