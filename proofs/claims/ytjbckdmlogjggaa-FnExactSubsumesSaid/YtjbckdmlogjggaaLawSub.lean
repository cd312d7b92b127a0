/- The law FnExactSubsumes, walked. Own work of the verifier. -/
import Derived.Test.YtjbckdmlogjggaaSub4
import Derived.Test.YtjbckdmlogjggaaCArg
namespace Go.Proofs.Ytjbckdmlogjggaa
open Go Go.RowKit
set_option linter.unusedVariables false

set_option maxRecDepth 100000 in
set_option maxHeartbeats 1000000 in
theorem lawSub_any (p q : Option Addr) (cap cap' : Nat) (xs ys : List Cel) (w : World) (hin : CArg w p xs) (hin' : CArg w q ys) :
    Calls Try.prog 3 #[.slice p xs.length cap, .slice q ys.length cap'] w fun e w' => e = .returned (.bool true) ∧ Below w.heap.size w w' := by
  have HI : Hid (CArg w p xs) := hin
  have HJ : Hid (CArg w q ys) := hin'
  have HS := szCellS_any p cap xs 1048576 w (Nat.le_refl _) hin.len hin.text hin.lies
  have hlen1 := hin.len
  have hlen2 := hin'.len
  have HBX : Hid (∀ i, i < xs.length → Byte (xs.getD i Cel.none).2.2) := hin.byte
  have HBY : Hid (∀ i, i < ys.length → Byte (ys.getD i Cel.none).2.2) := hin'.byte
  clear hin hin'
  by_cases hn : xs.length + tl xs ≤ 1048576
  · obtain ⟨r, er, hr⟩ : ∃ r : Nat, szR 1048576 (xs.length + tl xs) = r ∧ r ≤ 1048576 := ⟨1048576 - (xs.length + tl xs), by rw [szR, if_pos hn]; omega, by omega⟩
    rw [er] at HS
    clear er
    have HS2 : Hid (∀ W, Below w.heap.size w W → Calls Try.prog 7 #[.slice q ys.length cap', .int .i64 r] W fun e w' => e = .returned (.int .i64 (szR r (ys.length + tl ys))) ∧ Below W.heap.size W w') := fun W hW => szCellS_any q cap' ys r W hr HJ.out.len HJ.out.text (HJ.out.below hW).lies
    by_cases hm : ys.length + tl ys ≤ r
    · obtain ⟨r2, er2⟩ : ∃ r2 : Nat, szR r (ys.length + tl ys) = r2 := ⟨r - (ys.length + tl ys), by rw [szR, if_pos hm]; omega⟩
      rw [er2] at HS2
      clear er2
      obtain ⟨R1, hR1⟩ := subsIs HBX.out HBY.out
      have HSP : Hid (∀ (p q : Option Addr) (w : World), CIn w p xs → CIn w q ys → Calls Try.prog 8 #[.slice p xs.length xs.length, .slice q ys.length ys.length] w fun e w' => e = .returned (.bool (R1)) ∧ Below w.heap.size w w') := fun p q w h h' => specSubs_any xs ys R1 p q w hR1 (by omega) (by omega) h h'
      have HIM : Hid (∀ (p q : Option Addr) (w : World), CIn w p xs → CIn w q ys → Calls Try.prog 10 #[.slice p xs.length xs.length, .slice q ys.length ys.length] w fun e w' => e = .returned (.bool (R1)) ∧ Below w.heap.size w w') := fun p q w h h' => implSubs_any xs ys R1 p q w hR1 (by omega) (by omega) h h'
      have hm' : ys.length + tl ys ≤ 1048576 := by omega
      clear HBX HBY hR1
      go_enter Try.func3, Try.ntmps3
      go_wp2_with fail
      refine HS.mono ?_
      rintro e w0 ⟨rfl, hb⟩
      have HA0 : Hid (Below w.heap.size w w0) := hb
      clear hb HS
      go_wp2_with fail
      refine (HS2.out w0 HA0.out).mono ?_
      rintro e w1 ⟨rfl, hb⟩
      have HA1 : Hid (Below w.heap.size w w1) := Below.on HA0.out hb
      clear hb
      go_wp2_with fail
      refine (toCellS_any p cap xs w1 hn (HI.out.below HA1.out).lies).mono ?_
      rintro e w2 ⟨rfl, ho, hb⟩
      have HC2 : Hid (CIn w2 (some ⟨w1.heap.size, 0, none⟩) xs) := ho.cin
      have HA2 : Hid (Below w.heap.size w w2) := Below.on HA1.out hb
      clear ho hb
      go_wp2_with fail
      refine (toCellS_any q cap' ys w2 hm' (HJ.out.below HA2.out).lies).mono ?_
      rintro e w3 ⟨rfl, ho, hb⟩
      have HC3 : Hid (CIn w3 (some ⟨w1.heap.size, 0, none⟩) xs ∧ CIn w3 (some ⟨w2.heap.size, 0, none⟩) ys) := ⟨HC2.out.below hb, ho.cin⟩
      have HA3 : Hid (Below w.heap.size w w3) := Below.on HA2.out hb
      clear ho hb HC2
      go_wp2_with fail
      refine (HSP.out _ _ w3 HC3.out.1 HC3.out.2).mono ?_
      rintro e w4 ⟨rfl, hb⟩
      have HA4 : Hid (Below w.heap.size w w4) := Below.on HA3.out hb
      clear hb HC3
      go_wp2_with fail
      refine (toCellS_any p cap xs w4 hn (HI.out.below HA4.out).lies).mono ?_
      rintro e w5 ⟨rfl, ho, hb⟩
      have HC5 : Hid (CIn w5 (some ⟨w4.heap.size, 0, none⟩) xs) := ho.cin
      have HA5 : Hid (Below w.heap.size w w5) := Below.on HA4.out hb
      clear ho hb
      go_wp2_with fail
      refine (toCellS_any q cap' ys w5 hm' (HJ.out.below HA5.out).lies).mono ?_
      rintro e w6 ⟨rfl, ho, hb⟩
      have HC6 : Hid (CIn w6 (some ⟨w4.heap.size, 0, none⟩) xs ∧ CIn w6 (some ⟨w5.heap.size, 0, none⟩) ys) := ⟨HC5.out.below hb, ho.cin⟩
      have HA6 : Hid (Below w.heap.size w w6) := Below.on HA5.out hb
      clear ho hb HC5
      go_wp2_with fail
      refine (HIM.out _ _ w6 HC6.out.1 HC6.out.2).mono ?_
      rintro e w7 ⟨rfl, hb⟩
      have HC7 : Hid (CIn w7 (some ⟨w4.heap.size, 0, none⟩) xs ∧ CIn w7 (some ⟨w5.heap.size, 0, none⟩) ys) := ⟨HC6.out.1.below hb, HC6.out.2.below hb⟩
      have HA7 : Hid (Below w.heap.size w w7) := Below.on HA6.out hb
      clear hb HC6
      go_wp2_with fail
      refine (toCellS_any p cap xs w7 hn (HI.out.below HA7.out).lies).mono ?_
      rintro e w8 ⟨rfl, ho, hb⟩
      have HC8 : Hid (CIn w8 (some ⟨w7.heap.size, 0, none⟩) xs ∧ CIn w8 (some ⟨w4.heap.size, 0, none⟩) xs ∧ CIn w8 (some ⟨w5.heap.size, 0, none⟩) ys) := ⟨ho.cin, HC7.out.1.below hb, HC7.out.2.below hb⟩
      have HA8 : Hid (Below w.heap.size w w8) := Below.on HA7.out hb
      clear ho hb HC7
      go_wp2_with fail
      refine (eqCellS_any _ _ _ _ xs xs w8 (by omega) (by omega) HC8.out.2.1 HC8.out.1).mono ?_
      rintro e w9 ⟨rfl, hb⟩
      have HC9 : Hid (CIn w9 (some ⟨w5.heap.size, 0, none⟩) ys) := HC8.out.2.2.below hb
      have HA9 : Hid (Below w.heap.size w w9) := Below.on HA8.out hb
      clear hb HC8
      have ht : decide (xs = xs) = true := by simp
      rw [ht]
      clear ht
      go_wp2_with fail
      refine (toCellS_any q cap' ys w9 hm' (HJ.out.below HA9.out).lies).mono ?_
      rintro e w10 ⟨rfl, ho, hb⟩
      have HC10 : Hid (CIn w10 (some ⟨w9.heap.size, 0, none⟩) ys ∧ CIn w10 (some ⟨w5.heap.size, 0, none⟩) ys) := ⟨ho.cin, HC9.out.below hb⟩
      have HA10 : Hid (Below w.heap.size w w10) := Below.on HA9.out hb
      clear ho hb HC9
      go_wp2_with fail
      refine (eqCellS_any _ _ _ _ ys ys w10 (by omega) (by omega) HC10.out.2 HC10.out.1).mono ?_
      rintro e w11 ⟨rfl, hb⟩
      have HA11 : Hid (Below w.heap.size w w11) := Below.on HA10.out hb
      clear hb
      have ht : decide (ys = ys) = true := by simp
      rw [ht]
      clear ht
      go_wp2_with fail
      go_ret
      exact ⟨rfl, HA11.out⟩
    · have er2 : szR r (ys.length + tl ys) = -1 := by rw [szR, if_neg hm]
      rw [er2] at HS2
      clear er2 HBX HBY
      go_enter Try.func3, Try.ntmps3
      go_wp2_with fail
      refine HS.mono ?_
      rintro e w0 ⟨rfl, hb⟩
      have HA0 : Hid (Below w.heap.size w w0) := hb
      clear hb HS
      go_wp2_with fail
      refine (HS2.out w0 HA0.out).mono ?_
      rintro e w1 ⟨rfl, hb⟩
      have HA1 : Hid (Below w.heap.size w w1) := Below.on HA0.out hb
      clear hb
      go_wp2_with fail
      go_ret
      exact ⟨rfl, HA1.out⟩
  · have er : szR 1048576 (xs.length + tl xs) = -1 := by rw [szR, if_neg hn]
    rw [er] at HS
    clear er HBX HBY
    go_enter Try.func3, Try.ntmps3
    go_wp2_with fail
    refine HS.mono ?_
    rintro e w0 ⟨rfl, hb0⟩
    go_wp2_with fail
    go_ret
    exact ⟨rfl, hb0⟩

end Go.Proofs.Ytjbckdmlogjggaa
