/- The law FnExactRenumber, walked. Own work of the verifier. -/
import Derived.Test.YtopdhjnpcpkmlaaRen3
import Derived.Test.YtopdhjnpcpkmlaaLawVars
namespace Go.Proofs.Ytopdhjnpcpkmlaa
open Go Go.RowKit
set_option linter.unusedVariables false

theorem tl_map (f : Cel → Cel) (hf : ∀ c, (f c).2.2 = c.2.2) : ∀ cs : List Cel, tl (cs.map f) = tl cs
  | [] => rfl
  | c :: r => by simp only [List.map_cons, tl, hf, tl_map f hf r]
theorem tl_ren (cs : List Cel) : tl (renCells cs) = tl cs := tl_map _ (renI_text _) cs

set_option maxRecDepth 100000 in
set_option maxHeartbeats 1000000 in
theorem lawRen_any (p : Option Addr) (cap : Nat) (cs : List Cel) (w : World) (hin : CArg w p cs) :
    Calls Try.prog 6 #[.slice p cs.length cap] w fun e w' => e = .returned (.bool true) ∧ Below w.heap.size w w' := by
  have HI : Hid (CArg w p cs) := hin
  have HS := szCellS_any p cap cs 1048576 w (Nat.le_refl _) hin.len hin.text hin.lies
  have HBY : Hid (∀ i, i < cs.length → Byte (cs.getD i Cel.none).2.2) := hin.byte
  clear hin
  by_cases hn : cs.length + tl cs ≤ 1048576
  · obtain ⟨r, er⟩ : ∃ r : Nat, szR 1048576 (cs.length + tl cs) = r := ⟨1048576 - (cs.length + tl cs), by rw [szR, if_pos hn]; omega⟩
    rw [er] at HS
    clear er
    obtain ⟨zs, ezs⟩ : ∃ zs, zs = (if validB cs = true then renCells cs else []) := ⟨_, rfl⟩
    have HZL : Hid (zs.length + tl zs ≤ 1048576) := by
      show _ ≤ _
      rw [ezs]
      split
      · rw [tl_ren, renCells, List.length_map]; exact hn
      · simp [tl]
    have HSP : Hid (∀ (p : Option Addr) (w : World), CIn w p cs → Calls Try.prog 22 #[.slice p cs.length cs.length] w fun e w' => ∃ q m c2, e = .returned (.slice q m c2) ∧ OwnC w' w.heap.size q m c2 zs ∧ Below w.heap.size w w') := fun p w h => by rw [ezs]; exact specRen_any cs p cs.length cs.length w rfl (by omega) h
    have HIM : Hid (∀ (p : Option Addr) (w : World), CIn w p cs → Calls Try.prog 23 #[.slice p cs.length cs.length] w fun e w' => ∃ q m c2, e = .returned (.slice q m c2) ∧ OwnC w' w.heap.size q m c2 zs ∧ Below w.heap.size w w') := fun p w h => by rw [ezs]; exact implRen_any cs p cs.length cs.length w HBY.out rfl (Nat.le_refl _) (by omega) h
    clear ezs HBY
    go_enter Try.func6, Try.ntmps6
    go_wp2_with fail
    refine HS.mono ?_
    rintro e w0 ⟨rfl, hb⟩
    have HA0 : Hid (Below w.heap.size w w0) := hb
    clear hb HS
    go_wp2_with fail
    refine (toCellS_any p cap cs w0 hn (HI.out.below HA0.out).lies).mono ?_
    rintro e w1 ⟨rfl, ho1, hb⟩
    have HC1 : Hid (CIn w1 (some ⟨w0.heap.size, 0, none⟩) cs) := ho1.cin
    have HA1 : Hid (Below w.heap.size w w1) := Below.on HA0.out hb
    clear ho1 hb
    go_wp2_with fail
    refine (HSP.out _ w1 HC1.out).mono ?_
    rintro e w2 ⟨p2, n2, c2, rfl, ho2, hb⟩
    have HZ2 : Hid (CIn w2 p2 zs ∧ n2 = zs.length) := ⟨ho2.cin, ho2.1⟩
    have HA2 : Hid (Below w.heap.size w w2) := Below.on HA1.out hb
    clear ho2 hb HC1
    go_wp2_with fail
    refine (toCellS_any p cap cs w2 hn (HI.out.below HA2.out).lies).mono ?_
    rintro e w3 ⟨rfl, ho3, hb⟩
    have HX3 : Hid (OwnCU w3 w2.heap.size w3.heap.size (some ⟨w2.heap.size, 0, none⟩) cs.length cs.length cs) := ho3.up
    have HA3 : Hid (Below w.heap.size w w3) := Below.on HA2.out hb
    have HB3 : Hid (Below w2.heap.size w2 w3) := hb
    clear ho3 hb
    go_wp2_with fail
    refine (HIM.out _ w3 HX3.out.toC.cin).mono ?_
    rintro e w4 ⟨p4, n4, c4, rfl, ho4, hb⟩
    have HG4 : Hid (OwnCU w4 w3.heap.size w4.heap.size p4 n4 c4 zs) := ho4.up
    have HX4 : Hid (OwnCU w4 w2.heap.size w3.heap.size (some ⟨w2.heap.size, 0, none⟩) cs.length cs.length cs) := HX3.out.below hb
    have HA4 : Hid (Below w.heap.size w w4) := Below.on HA3.out hb
    have HB4 : Hid (Below w2.heap.size w2 w4) := Below.on HB3.out hb
    have HS4 : Hid (w3.heap.size ≤ w4.heap.size) := hb.size
    have HN4 : Hid (n4 = zs.length) := ho4.1
    clear ho4 hb HX3
    go_wp2_with fail
    rw [HN4.out, HZ2.out.2]
    refine (eqCellS_any p4 p2 c4 c2 zs zs w4 (by have := HZL.out; omega) (by have := HZL.out; omega) HG4.out.toC.cin (HZ2.out.1.below HB4.out)).mono ?_
    rintro e w5 ⟨rfl, hb⟩
    have ht : decide (zs = zs) = true := by simp
    rw [ht, ← HN4.out]
    clear ht
    have HG5 : Hid (OwnCU w5 w3.heap.size w4.heap.size p4 n4 c4 zs) := HG4.out.below hb
    have HX5 : Hid (OwnCU w5 w2.heap.size w3.heap.size (some ⟨w2.heap.size, 0, none⟩) cs.length cs.length cs) := HX4.out.below hb
    have HA5 : Hid (Below w.heap.size w w5) := Below.on HA4.out hb
    have HB5 : Hid (Below w2.heap.size w2 w5) := Below.on HB4.out hb
    have HS5 : Hid (w3.heap.size ≤ w5.heap.size) := Nat.le_trans HS4.out hb.size
    clear hb HG4 HX4
    go_wp2_with fail
    refine (toCellS_any p cap cs w5 hn (HI.out.below HA5.out).lies).mono ?_
    rintro e w6 ⟨rfl, ho6, hb⟩
    have HC6 : Hid (CIn w6 (some ⟨w5.heap.size, 0, none⟩) cs) := ho6.cin
    have HG6 : Hid (OwnCU w6 w3.heap.size w4.heap.size p4 n4 c4 zs) := HG5.out.below hb
    have HX6 : Hid (OwnCU w6 w2.heap.size w3.heap.size (some ⟨w2.heap.size, 0, none⟩) cs.length cs.length cs) := HX5.out.below hb
    have HA6 : Hid (Below w.heap.size w w6) := Below.on HA5.out hb
    have HB6 : Hid (Below w2.heap.size w2 w6) := Below.on HB5.out hb
    have HS6 : Hid (w3.heap.size ≤ w6.heap.size) := Nat.le_trans HS5.out hb.size
    clear ho6 hb HG5 HX5
    go_wp2_with fail
    refine (eqCellS_any _ _ _ _ cs cs w6 (by omega) (by omega) HX6.out.toC.cin HC6.out).mono ?_
    rintro e w7 ⟨rfl, hb⟩
    have HG7 : Hid (OwnCU w7 w3.heap.size w4.heap.size p4 n4 c4 zs) := HG6.out.below hb
    have HX7 : Hid (OwnCU w7 w2.heap.size w3.heap.size (some ⟨w2.heap.size, 0, none⟩) cs.length cs.length cs) := HX6.out.below hb
    have HA7 : Hid (Below w.heap.size w w7) := Below.on HA6.out hb
    have HB7 : Hid (Below w2.heap.size w2 w7) := Below.on HB6.out hb
    have HS7 : Hid (w3.heap.size ≤ w7.heap.size) := Nat.le_trans HS6.out hb.size
    clear hb HG6 HX6 HC6
    have ht : decide (cs = cs) = true := by simp
    rw [ht]
    clear ht
    go_wp2_with fail
    refine (markCells_any w2.heap.size w3.heap.size _ _ _ 1 cs w7 (by decide) (by decide) (by omega) HX7.out).mono ?_
    rintro e w8 ⟨rfl, ho8, hk⟩
    have HG8 : Hid (OwnCU w8 w3.heap.size w4.heap.size p4 n4 c4 zs) := HG7.out.keep hk (.inr (Nat.le_refl _))
    have HA8 : Hid (Below w.heap.size w w8) := HA7.out.trans (hk.below HA2.out.size HA7.out.size)
    have HB8 : Hid (Below w2.heap.size w2 w8) := HB7.out.trans (hk.below (Nat.le_refl _) HB7.out.size)
    have HS8 : Hid (w3.heap.size ≤ w8.heap.size) := Nat.le_trans HS7.out hk.size
    clear ho8 hk HG7 HX7
    obtain ⟨kk, ekk⟩ : ∃ kk, kk = endC 1 cs := ⟨_, rfl⟩
    have hkk : ¬ kk < 0 := by rw [ekk]; exact endC_pos (by decide) cs
    rw [← ekk]
    clear ekk
    go_wp2_with fail
    rw [HN4.out]
    refine (eqCellS_any p4 p2 c4 c2 zs zs w8 (by have := HZL.out; omega) (by have := HZL.out; omega) HG8.out.toC.cin (HZ2.out.1.below HB8.out)).mono ?_
    rintro e w9 ⟨rfl, hb⟩
    have ht : decide (zs = zs) = true := by simp
    rw [ht, ← HN4.out]
    clear ht
    have HG9 : Hid (OwnCU w9 w3.heap.size w4.heap.size p4 n4 c4 zs) := HG8.out.below hb
    have HA9 : Hid (Below w.heap.size w w9) := Below.on HA8.out hb
    have HB9 : Hid (Below w2.heap.size w2 w9) := Below.on HB8.out hb
    have HS9 : Hid (w3.heap.size ≤ w9.heap.size) := Nat.le_trans HS8.out hb.size
    clear hb HG8
    go_wp2_with fail
    refine (markCells_any w3.heap.size w4.heap.size p4 n4 c4 1 zs w9 (by decide) (by decide) (by have := HZL.out; omega) HG9.out).mono ?_
    rintro e w10 ⟨rfl, ho10, hg⟩
    have hb : Below w3.heap.size w9 w10 := hg.below (Nat.le_refl _) HS9.out
    have HH10 : Hid (CIn w10 p4 (markC 1 zs)) := ho10.toC.cin
    have HA10 : Hid (Below w.heap.size w w10) := HA9.out.trans (hb.mono HA3.out.size)
    have HB10 : Hid (Below w2.heap.size w2 w10) := HB9.out.trans (hb.mono HB3.out.size)
    clear hb hg ho10 HG9
    obtain ⟨mm, emm⟩ : ∃ mm, mm = endC 1 zs := ⟨_, rfl⟩
    have hm0 : ¬ mm < 0 := by rw [emm]; exact endC_pos (by decide) zs
    have HMM : Hid (mm = endC 1 zs) := emm
    rw [← emm]
    clear emm
    go_wp2_with fail
    refine (heldCells_any p4 n4 c4 1 zs w10 (by decide) (by decide) (by have := HZL.out; omega) HN4.out HH10.out).mono ?_
    rintro e w11 ⟨rfl, rfl⟩
    rw [← HMM.out]
    go_wp2_with fail
    refine (toCellS_any p cap cs _ hn (HI.out.below HA10.out).lies).mono ?_
    rintro e w12 ⟨rfl, ho12, hb⟩
    have HC12 : Hid (CIn w12 _ cs) := ho12.cin
    have HH12 : Hid (CIn w12 p4 (markC 1 zs)) := HH10.out.below hb
    have HA12 : Hid (Below w.heap.size w w12) := Below.on HA10.out hb
    have HB12 : Hid (Below w2.heap.size w2 w12) := Below.on HB10.out hb
    clear ho12 hb HH10
    go_wp2_with fail
    refine (HIM.out _ w12 HC12.out).mono ?_
    rintro e w13 ⟨p13, n13, c13, rfl, ho13, hb⟩
    have HH13 : Hid (CIn w13 p4 (markC 1 zs)) := HH12.out.below hb
    have HG13 : Hid (CIn w13 p13 zs ∧ n13 = zs.length) := ⟨ho13.cin, ho13.1⟩
    have HA13 : Hid (Below w.heap.size w w13) := Below.on HA12.out hb
    have HB13 : Hid (Below w2.heap.size w2 w13) := Below.on HB12.out hb
    clear ho13 hb HH12 HC12
    go_wp2_with fail
    rw [HG13.out.2, HN4.out]
    refine (eqCellS_any p13 p2 c13 c2 zs zs w13 (by have := HZL.out; omega) (by have := HZL.out; omega) HG13.out.1 (HZ2.out.1.below HB13.out)).mono ?_
    rintro e w14 ⟨rfl, hb⟩
    have ht : decide (zs = zs) = true := by simp
    rw [ht]
    clear ht
    have HH14 : Hid (CIn w14 p4 (markC 1 zs)) := HH13.out.below hb
    have HA14 : Hid (Below w.heap.size w w14) := Below.on HA13.out hb
    clear hb HH13
    go_wp2_with fail
    refine (heldCells_any p4 zs.length c4 1 zs w14 (by decide) (by decide) (by have := HZL.out; omega) rfl HH14.out).mono ?_
    rintro e w15 ⟨rfl, rfl⟩
    rw [← HMM.out]
    go_wp2_with fail
    go_ret
    exact ⟨rfl, HA14.out⟩
  · have er : szR 1048576 (cs.length + tl cs) = -1 := by rw [szR, if_neg hn]
    rw [er] at HS
    clear er HBY
    go_enter Try.func6, Try.ntmps6
    go_wp2_with (go_at_call 9; refine HS.mono ?_; rintro e w0 ⟨rfl, hb0⟩)
    go_ret
    exact ⟨rfl, hb0⟩

end Go.Proofs.Ytopdhjnpcpkmlaa
