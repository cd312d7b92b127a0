/- The law FnExactTermVars, walked. Own work of the verifier. -/
import Derived.Test.YtopdhjnpcpkmlaaVars4
import Derived.Test.YtopdhjnpcpkmlaaLawValid
namespace Go.Proofs.Ytopdhjnpcpkmlaa
open Go Go.RowKit
set_option linter.unusedVariables false

theorem below_drew_any {w : World} (k : Nat) : Below w.heap.size w (w.drewN k) := ⟨rfl, rfl, rfl, Nat.le_refl _, fun _ _ => rfl⟩
theorem OwnI.other {w w' : World} {B : Nat} {t : TypeId} {p : Option Addr} {n c : Nat} {zs : List Int} (h : OwnI w B t p n c zs) (hb : ∀ k, k < w.heap.size → B ≤ k → w'.heap[k]? = w.heap[k]?) : OwnI w' B t p n c zs := by
  refine ⟨h.1, h.2.1, ?_⟩
  rcases h.2.2 with h' | ⟨g, cap, cur, hv, hB, hg, r⟩
  · exact .inl h'
  · exact .inr ⟨g, cap, cur, hv, hB, (hb g (Array.getElem?_eq_some_iff.1 hg).1 hB).trans hg, r⟩
theorem endC_pos {k : Int} (h : 0 ≤ k) (cs : List Cel) : ¬ endC k cs < 0 := by simp only [endC, kAt]; omega

set_option maxRecDepth 100000 in
set_option maxHeartbeats 1000000 in
theorem lawVars_any (p : Option Addr) (cap : Nat) (cs : List Cel) (w : World) (hin : CArg w p cs) :
    Calls Try.prog 5 #[.slice p cs.length cap] w fun e w' => e = .returned (.bool true) ∧ Below w.heap.size w w' := by
  have HI : Hid (CArg w p cs) := hin
  have HS := szCellS_any p cap cs 1048576 w (Nat.le_refl _) hin.len hin.text hin.lies
  have HBY : Hid (∀ i, i < cs.length → Byte (cs.getD i Cel.none).2.2) := hin.byte
  clear hin
  by_cases hn : cs.length + tl cs ≤ 1048576
  · obtain ⟨r, er⟩ : ∃ r : Nat, szR 1048576 (cs.length + tl cs) = r := ⟨1048576 - (cs.length + tl cs), by rw [szR, if_pos hn]; omega⟩
    rw [er] at HS
    clear er
    obtain ⟨zs, ezs⟩ : ∃ zs, zs = (if validB cs = true then visits [] cs else []) := ⟨_, rfl⟩
    have HZL : Hid (zs.length ≤ 2000) := by
      show _ ≤ _
      rw [ezs]
      split
      · rename_i hv
        have := visits_len cs []
        simp only [validB, Bool.and_eq_true, decide_eq_true_eq] at hv
        simp at this; omega
      · simp
    have HSP : Hid (∀ (p : Option Addr) (w : World), CIn w p cs → Calls Try.prog 16 #[.slice p cs.length cs.length] w fun e w' => ∃ q m c2, e = .returned (.slice q m c2) ∧ OwnI w' w.heap.size 3 q m c2 zs ∧ Below w.heap.size w w') := fun p w h => by rw [ezs]; exact specVars_any cs p cs.length cs.length w rfl (by omega) h
    have HIM : Hid (∀ (p : Option Addr) (w : World), CIn w p cs → Calls Try.prog 17 #[.slice p cs.length cs.length] w fun e w' => ∃ q m c2, e = .returned (.slice q m c2) ∧ OwnI w' w.heap.size 3 q m c2 zs ∧ Below w.heap.size w w') := fun p w h => by rw [ezs]; exact implVars_any cs p cs.length cs.length w HBY.out rfl (Nat.le_refl _) (by omega) h
    clear ezs HBY
    go_enter Try.func5, Try.ntmps5
    go_wp2_with fail
    refine HS.mono ?_
    rintro e w0 ⟨rfl, hb⟩
    have HA0 : Hid (Below w.heap.size w w0) := hb
    clear hb HS
    go_wp2_with fail
    refine (toCellS_any p cap cs w0 hn (HI.out.below HA0.out).lies).mono ?_
    rintro e w1 ⟨rfl, ho1, hb⟩
    have HC1 : Hid (CIn w1 (some ⟨w0.heap.size, 0, none⟩) cs) := ho1.cin
    have HA1 : Hid (Below w.heap.size w w1) := Below.on HA0.out hb
    clear ho1 hb
    go_wp2_with fail
    refine (HSP.out _ w1 HC1.out).mono ?_
    rintro e w2 ⟨p2, n2, c2, rfl, ho2, hb⟩
    have HZ2 : Hid (IIn w2 p2 zs ∧ n2 = zs.length) := ⟨ho2.iin, ho2.1⟩
    have HA2 : Hid (Below w.heap.size w w2) := Below.on HA1.out hb
    have hn2 : n2 ≤ 2000 := by have := HZ2.out.2; have := HZL.out; omega
    clear ho2 hb HC1
    go_wp2_with fail
    refine (toCellS_any p cap cs w2 hn (HI.out.below HA2.out).lies).mono ?_
    rintro e w3 ⟨rfl, ho3, hb⟩
    have HX3 : Hid (OwnCU w3 w2.heap.size w3.heap.size (some ⟨w2.heap.size, 0, none⟩) cs.length cs.length cs) := ho3.up
    have HA3 : Hid (Below w.heap.size w w3) := Below.on HA2.out hb
    have HB3 : Hid (Below w2.heap.size w2 w3) := hb
    clear ho3 hb
    go_wp2_with fail
    refine (HIM.out _ w3 HX3.out.toC.cin).mono ?_
    rintro e w4 ⟨p4, n4, c4, rfl, ho4, hb⟩
    have HG4 : Hid (OwnI w4 w3.heap.size 3 p4 n4 c4 zs) := ho4
    have HX4 : Hid (OwnCU w4 w2.heap.size w3.heap.size (some ⟨w2.heap.size, 0, none⟩) cs.length cs.length cs) := HX3.out.below hb
    have HA4 : Hid (Below w.heap.size w w4) := Below.on HA3.out hb
    have HB4 : Hid (Below w2.heap.size w2 w4) := Below.on HB3.out hb
    have HS4 : Hid (w3.heap.size ≤ w4.heap.size) := hb.size
    have hn4 : n4 ≤ 2000 := by have := ho4.1; have := HZL.out; omega
    clear ho4 hb HX3
    go_wp2_with fail
    refine (eqIntS_any p4 p2 n4 n2 c4 c2 zs w4 HG4.out.1 HZ2.out.2 (by omega) HG4.out.iin (HZ2.out.1.below HB4.out)).mono ?_
    rintro e w5 ⟨rfl, d5, hw5⟩
    have hb : Below w4.heap.size w4 w5 := by rw [hw5]; exact below_drew_any _
    have HG5 : Hid (OwnI w5 w3.heap.size 3 p4 n4 c4 zs) := HG4.out.below hb
    have HX5 : Hid (OwnCU w5 w2.heap.size w3.heap.size (some ⟨w2.heap.size, 0, none⟩) cs.length cs.length cs) := HX4.out.below hb
    have HA5 : Hid (Below w.heap.size w w5) := Below.on HA4.out hb
    have HB5 : Hid (Below w2.heap.size w2 w5) := Below.on HB4.out hb
    have HS5 : Hid (w3.heap.size ≤ w5.heap.size) := Nat.le_trans HS4.out hb.size
    clear hb hw5 HG4 HX4
    go_wp2_with fail
    refine (toCellS_any p cap cs w5 hn (HI.out.below HA5.out).lies).mono ?_
    rintro e w6 ⟨rfl, ho6, hb⟩
    have HC6 : Hid (CIn w6 (some ⟨w5.heap.size, 0, none⟩) cs) := ho6.cin
    have HG6 : Hid (OwnI w6 w3.heap.size 3 p4 n4 c4 zs) := HG5.out.below hb
    have HX6 : Hid (OwnCU w6 w2.heap.size w3.heap.size (some ⟨w2.heap.size, 0, none⟩) cs.length cs.length cs) := HX5.out.below hb
    have HA6 : Hid (Below w.heap.size w w6) := Below.on HA5.out hb
    have HB6 : Hid (Below w2.heap.size w2 w6) := Below.on HB5.out hb
    have HS6 : Hid (w3.heap.size ≤ w6.heap.size) := Nat.le_trans HS5.out hb.size
    clear ho6 hb HG5 HX5
    go_wp2_with fail
    refine (eqCellS_any _ _ _ _ cs cs w6 (by omega) (by omega) HX6.out.toC.cin HC6.out).mono ?_
    rintro e w7 ⟨rfl, hb⟩
    have HG7 : Hid (OwnI w7 w3.heap.size 3 p4 n4 c4 zs) := HG6.out.below hb
    have HX7 : Hid (OwnCU w7 w2.heap.size w3.heap.size (some ⟨w2.heap.size, 0, none⟩) cs.length cs.length cs) := HX6.out.below hb
    have HA7 : Hid (Below w.heap.size w w7) := Below.on HA6.out hb
    have HB7 : Hid (Below w2.heap.size w2 w7) := Below.on HB6.out hb
    have HS7 : Hid (w3.heap.size ≤ w7.heap.size) := Nat.le_trans HS6.out hb.size
    clear hb HG6 HX6 HC6
    have ht : decide (cs = cs) = true := by simp
    rw [ht]
    clear ht
    go_wp2_with fail
    refine (markCells_any w2.heap.size w3.heap.size _ _ _ 1 cs w7 (by decide) (by decide) (by omega) HX7.out).mono ?_
    rintro e w8 ⟨rfl, ho8, hk⟩
    have HG8 : Hid (OwnI w8 w3.heap.size 3 p4 n4 c4 zs) := HG7.out.other (fun k h1 h2 => hk.block k h1 (.inr h2))
    have HA8 : Hid (Below w.heap.size w w8) := HA7.out.trans (hk.below HA2.out.size HA7.out.size)
    have HB8 : Hid (Below w2.heap.size w2 w8) := HB7.out.trans (hk.below (Nat.le_refl _) HB7.out.size)
    have HS8 : Hid (w3.heap.size ≤ w8.heap.size) := Nat.le_trans HS7.out hk.size
    clear ho8 hk HG7 HX7
    obtain ⟨kk, ekk⟩ : ∃ kk, kk = endC 1 cs := ⟨_, rfl⟩
    have hkk : ¬ kk < 0 := by rw [ekk]; exact endC_pos (by decide) cs
    rw [← ekk]
    clear ekk
    go_wp2_with fail
    refine (eqIntS_any p4 p2 n4 n2 c4 c2 zs w8 HG8.out.1 HZ2.out.2 (by omega) HG8.out.iin (HZ2.out.1.below HB8.out)).mono ?_
    rintro e w9 ⟨rfl, d9, hw9⟩
    have hb : Below w8.heap.size w8 w9 := by rw [hw9]; exact below_drew_any _
    have HG9 : Hid (OwnI w9 w3.heap.size 3 p4 n4 c4 zs) := HG8.out.below hb
    have HA9 : Hid (Below w.heap.size w w9) := Below.on HA8.out hb
    have HB9 : Hid (Below w2.heap.size w2 w9) := Below.on HB8.out hb
    have HS9 : Hid (w3.heap.size ≤ w9.heap.size) := Nat.le_trans HS8.out hb.size
    clear hb hw9 HG8
    go_wp2_with fail
    refine (markIntS_any w3.heap.size p4 n4 c4 1 zs w9 (by decide) (by decide) (by omega) HG9.out).mono ?_
    rintro e w10 ⟨rfl, ho10, hg⟩
    have hb : Below w3.heap.size w9 w10 := (Below.refl _ _).grown hg HS9.out (fun k hk => (HG9.out.2.lt k hk).1)
    have HH10 : Hid (IIn w10 p4 (ups 1 n4)) := ho10.iin
    have HA10 : Hid (Below w.heap.size w w10) := HA9.out.trans (hb.mono HA3.out.size)
    have HB10 : Hid (Below w2.heap.size w2 w10) := HB9.out.trans (hb.mono HB3.out.size)
    clear hb hg ho10 HG9
    have hm0 : ¬ ((1 : Int) + n4 < 0) := by omega
    go_wp2_with fail
    refine (heldIntS_any p4 n4 c4 1 w10 (by decide) (by decide) (by omega) HH10.out).mono ?_
    rintro e w11 ⟨rfl, rfl⟩
    go_wp2_with fail
    refine (toCellS_any p cap cs _ hn (HI.out.below HA10.out).lies).mono ?_
    rintro e w12 ⟨rfl, ho12, hb⟩
    have HC12 : Hid (CIn w12 _ cs) := ho12.cin
    have HH12 : Hid (IIn w12 p4 (ups 1 n4)) := HH10.out.below hb
    have HA12 : Hid (Below w.heap.size w w12) := Below.on HA10.out hb
    have HB12 : Hid (Below w2.heap.size w2 w12) := Below.on HB10.out hb
    clear ho12 hb HH10
    go_wp2_with fail
    refine (HIM.out _ w12 HC12.out).mono ?_
    rintro e w13 ⟨p13, n13, c13, rfl, ho13, hb⟩
    have HH13 : Hid (IIn w13 p4 (ups 1 n4)) := HH12.out.below hb
    have HG13 : Hid (IIn w13 p13 zs ∧ n13 = zs.length) := ⟨ho13.iin, ho13.1⟩
    have HA13 : Hid (Below w.heap.size w w13) := Below.on HA12.out hb
    have HB13 : Hid (Below w2.heap.size w2 w13) := Below.on HB12.out hb
    have hn13 : n13 ≤ 2000 := by have := ho13.1; have := HZL.out; omega
    clear ho13 hb HH12 HC12
    go_wp2_with fail
    refine (eqIntS_any p13 p2 n13 n2 c13 c2 zs w13 HG13.out.2 HZ2.out.2 (by omega) HG13.out.1 (HZ2.out.1.below HB13.out)).mono ?_
    rintro e w14 ⟨rfl, d14, hw14⟩
    have hb : Below w13.heap.size w13 w14 := by rw [hw14]; exact below_drew_any _
    have HH14 : Hid (IIn w14 p4 (ups 1 n4)) := HH13.out.below hb
    have HA14 : Hid (Below w.heap.size w w14) := Below.on HA13.out hb
    clear hb hw14 HH13
    go_wp2_with fail
    refine (heldIntS_any p4 n4 c4 1 w14 (by decide) (by decide) (by omega) HH14.out).mono ?_
    rintro e w15 ⟨rfl, rfl⟩
    go_wp2_with fail
    go_ret
    exact ⟨rfl, HA14.out⟩
  · have er : szR 1048576 (cs.length + tl cs) = -1 := by rw [szR, if_neg hn]
    rw [er] at HS
    clear er HBY
    go_enter Try.func5, Try.ntmps5
    go_wp2_with (go_at_call 9; refine HS.mono ?_; rintro e w0 ⟨rfl, hb0⟩)
    go_ret
    exact ⟨rfl, hb0⟩

end Go.Proofs.Ytopdhjnpcpkmlaa
