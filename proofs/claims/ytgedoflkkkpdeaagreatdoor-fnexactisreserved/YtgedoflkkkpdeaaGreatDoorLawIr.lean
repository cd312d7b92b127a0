/- The law FnExactIsReserved, walked. Own work of the verifier. -/
import Derived.Test.YtgedoflkkkpdeaaGreatDoorIrS
import Derived.Test.YtgedoflkkkpdeaaGreatDoorRowT
namespace Go.Proofs.YtgedoflkkkpdeaaGreatDoor
open Go Go.RowKit
set_option linter.unusedVariables false

set_option maxRecDepth 100000 in
theorem lawIr_any (p : Option Addr) (cap : Nat) (xs : List Int) (w : World) (hin : BIn w p xs) (hb : Byte xs) (a : Int) (ha : (Lit.int .i64 a).wf = true) :
    Calls Tryz.prog 4 #[.slice p xs.length cap, .int .i64 a] w fun e w' => e = .returned (.bool true) ∧ Below w.heap.size w w' := by
  by_cases hn : xs.length ≤ 1048576
  · have HI : Hid (BIn w p xs) := hin
    have HA : Hid ((Lit.int .i64 a).wf = true) := ha
    have HBY : Hid (Byte xs) := hb
    obtain ⟨R, eR⟩ : ∃ R, R = resvB xs a := ⟨_, rfl⟩
    have HRE : Hid (R = resvB xs a) := eR
    clear hin ha eR hb
    go_enter Tryz.func4, Tryz.ntmps4
    go_wp2_with fail
    refine (toByteS_any p cap xs w hn HI.out).mono ?_
    rintro e w1 ⟨rfl, hown1, hb1⟩
    have HR1 : Hid (Row w1 w.heap.size xs) := row_of_owns hown1
    have HB1 : Hid (Below w.heap.size w w1) := hb1
    clear hown1 hb1
    go_wp2_with fail
    refine (specIsRes_any _ _ xs a w1 hn HBY.out HR1.out.bin).mono ?_
    rintro e w1' ⟨rfl, hb1'⟩
    have HB1' : Hid (Below w.heap.size w w1') := Below.on HB1.out hb1'
    rw [← HRE.out]
    clear hb1'
    go_wp2_with fail
    refine (toByteS_any p cap xs _ hn (HI.out.below HB1'.out)).mono ?_
    rintro e w2 ⟨rfl, hown2, hb2⟩
    have HR2 : Hid (Row w2 w1'.heap.size xs) := row_of_owns hown2
    have HB2 : Hid (Below w.heap.size w w2) := Below.on HB1'.out hb2
    clear hown2 hb2
    go_wp2_with fail
    refine (implIsRes_any _ _ xs a w2 hn HBY.out HR2.out.bin HA.out).mono ?_
    rintro e w3 ⟨rfl, hb3⟩
    rw [← HRE.out]
    have HR3 : Hid (Row w3 w1'.heap.size xs) := HR2.out.below hb3
    have HB3 : Hid (Below w.heap.size w w3) := Below.on HB2.out hb3
    clear hb3
    go_wp2_with fail
    refine (toByteS_any p cap xs _ hn (HI.out.below HB3.out)).mono ?_
    rintro e w4 ⟨rfl, hown4, hb4⟩
    have HR4 : Hid (Row w4 w3.heap.size xs) := row_of_owns hown4
    have HR4' : Hid (Row w4 w1'.heap.size xs) := HR3.out.below hb4
    have HB4 : Hid (Below w.heap.size w w4) := Below.on HB3.out hb4
    clear hown4 hb4
    go_wp2_with fail
    refine (eqByteS_any _ _ _ _ xs xs w4 (by omega) (by omega) HR4'.out.bin HR4.out.bin).mono ?_
    rintro e w5 ⟨rfl, n5, rfl⟩
    have ht : decide (xs = xs) = true := by simp
    rw [ht]
    clear ht
    go_wp2
    go_ret
    exact ⟨rfl, below_drewN HB4.out _⟩
  · have hn' : (1048576 : Int) < xs.length := by omega
    clear hin ha hb
    go_enter Tryz.func4, Tryz.ntmps4
    go_wp2
    go_ret
    exact ⟨rfl, Below.refl _ _⟩

end Go.Proofs.YtgedoflkkkpdeaaGreatDoor
