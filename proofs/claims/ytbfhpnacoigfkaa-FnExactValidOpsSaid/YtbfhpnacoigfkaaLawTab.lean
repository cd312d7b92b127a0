/- The law FnExactValidOps, walked. Own work of the verifier. -/
import Derived.Test.YtbfhpnacoigfkaaOpsZ
import Derived.Test.YtbfhpnacoigfkaaOpsT
import Derived.Test.YtbfhpnacoigfkaaOpsV5
namespace Go.Proofs.Ytbfhpnacoigfkaa
open Go Go.RowKit
set_option linter.unusedVariables false

/-- What is asked of a slice of cells that came in. -/
structure OArg (w : World) (p : Option Addr) (cs : List Cel) : Prop where
  lies : OIn w p cs
  len : cs.length ≤ 9223372036854775807
  text : ∀ i, i < cs.length → (cs.getD i Cel.none).2.2.length ≤ 9223372036854775807
  byte : ∀ i, i < cs.length → ∀ x ∈ (cs.getD i Cel.none).2.2, 0 ≤ x ∧ x < 256
  wide : ∀ i, i < cs.length → -9223372036854775808 ≤ (cs.getD i Cel.none).1 ∧ (cs.getD i Cel.none).1 ≤ 9223372036854775807 ∧ -9223372036854775808 ≤ (cs.getD i Cel.none).2.1 ∧ (cs.getD i Cel.none).2.1 ≤ 9223372036854775807
theorem OArg.below {W W' : World} {p : Option Addr} {cs : List Cel} (h : OArg W p cs) (hb : Below W.heap.size W W') : OArg W' p cs := ⟨h.lies.below hb, h.len, h.text, h.byte, h.wide⟩

set_option maxRecDepth 100000 in
theorem lawTab_any (p : Option Addr) (cap : Nat) (cs : List Cel) (w : World) (hin : OArg w p cs) :
    Calls Try.prog 3 #[.slice p cs.length cap] w fun e w' => e = .returned (.bool true) ∧ Below w.heap.size w w' := by
  have HI : Hid (OArg w p cs) := hin
  have HS := szOpS_any p cap cs 1048576 w (Nat.le_refl _) hin.len hin.text hin.lies
  clear hin
  by_cases hn : cs.length + tl cs ≤ 1048576
  · obtain ⟨r, er⟩ : ∃ r : Nat, szR 1048576 (cs.length + tl cs) = r := ⟨1048576 - (cs.length + tl cs), by rw [szR, if_pos hn]; omega⟩
    rw [er] at HS
    clear er
    go_enter Try.func3, Try.ntmps3
    go_wp2_with fail
    refine HS.mono ?_
    rintro e w0 ⟨rfl, hb0⟩
    have HB0 : Hid (Below w.heap.size w w0) := hb0
    clear hb0 HS
    go_wp2_with fail
    refine (toOpS_any p cap cs w0 hn (HI.out.below HB0.out).lies).mono ?_
    rintro e w1 ⟨rfl, ho1, hb1⟩
    have HC1 : Hid (OIn w1 (some ⟨w0.heap.size, 0, none⟩) cs) := ho1.oin
    have HB1 : Hid (Below w.heap.size w w1) := Below.on HB0.out hb1
    clear ho1 hb1
    go_wp2_with fail
    refine (specTab_any _ _ cs w1 (by omega) HC1.out).mono ?_
    rintro e w2 ⟨rfl, hb2⟩
    have HB2 : Hid (Below w.heap.size w w2) := Below.on HB1.out hb2
    clear hb2
    go_wp2_with fail
    refine (toOpS_any p cap cs _ hn (HI.out.below HB2.out).lies).mono ?_
    rintro e w3 ⟨rfl, ho3, hb3⟩
    have HC3 : Hid (OIn w3 (some ⟨w2.heap.size, 0, none⟩) cs) := ho3.oin
    have HB3 : Hid (Below w.heap.size w w3) := Below.on HB2.out hb3
    clear ho3 hb3
    go_wp2_with fail
    refine (implTab_any _ _ cs w3 (by omega) HC3.out).mono ?_
    rintro e w4 ⟨rfl, hb4⟩
    have HC4 : Hid (OIn w4 (some ⟨w2.heap.size, 0, none⟩) cs) := HC3.out.below hb4
    have HB4 : Hid (Below w.heap.size w w4) := Below.on HB3.out hb4
    clear hb4
    obtain ⟨v, ev⟩ : ∃ v, v = tabB cs := ⟨_, rfl⟩
    rw [← ev]
    clear ev
    go_wp2_with fail
    refine (toOpS_any p cap cs _ hn (HI.out.below HB4.out).lies).mono ?_
    rintro e w5 ⟨rfl, ho5, hb5⟩
    have HC5 : Hid (OIn w5 (some ⟨w4.heap.size, 0, none⟩) cs) := ho5.oin
    have HC5' : Hid (OIn w5 (some ⟨w2.heap.size, 0, none⟩) cs) := HC4.out.below hb5
    have HB5 : Hid (Below w.heap.size w w5) := Below.on HB4.out hb5
    clear ho5 hb5
    go_wp2_with fail
    refine (eqOpS_any _ _ _ _ cs cs w5 (by omega) (by omega) HC5'.out HC5.out).mono ?_
    rintro e w6 ⟨rfl, hb6⟩
    have HB6 : Hid (Below w.heap.size w w6) := Below.on HB5.out hb6
    clear hb6
    have ht : decide (cs = cs) = true := by simp
    rw [ht]
    clear ht
    go_wp2
    go_ret
    exact ⟨rfl, HB6.out⟩
  · have er : szR 1048576 (cs.length + tl cs) = -1 := by rw [szR, if_neg hn]
    rw [er] at HS
    clear er
    go_enter Try.func3, Try.ntmps3
    go_wp2_with (go_at_call 5; refine HS.mono ?_; rintro e w0 ⟨rfl, hb0⟩)
    go_ret
    exact ⟨rfl, hb0⟩

end Go.Proofs.Ytbfhpnacoigfkaa
