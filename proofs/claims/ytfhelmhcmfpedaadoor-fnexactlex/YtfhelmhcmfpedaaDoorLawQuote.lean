/- The law FnExactQuoteAtom, walked. Own work of the verifier. -/
import Derived.Test.YtfhelmhcmfpedaaDoorCopyT
import Derived.Test.YtfhelmhcmfpedaaDoorQuote3
import Derived.Test.YtfhelmhcmfpedaaDoorMark
namespace Go.Proofs.YtfhelmhcmfpedaaDoor
open Go Go.RowKit
set_option linter.unusedVariables false

theorem quote_len (xs : List Int) : (quoteB xs).length ≤ 600 := by
  unfold quoteB
  split
  · simp
  · split
    · omega
    · have := q1s_len xs
      simp only [quotedB, List.length_cons, List.length_append, List.length_nil]
      omega
theorem eqOwn (B B' : Nat) (p q : Option Addr) (n m c1 c2 : Nat) (xs ys : List Int) (w : World) (hx : OwnS w B p n c1 xs) (hy : OwnS w B' q m c2 ys) (hn : n ≤ 1000000000) (hm : m ≤ 1000000000) :
    Calls Tryd.prog 9 #[.slice p n c1, .slice q m c2] w fun e w' => e = .returned (.bool (decide (xs = ys))) ∧ ∃ k, w' = w.drewN k := by
  have e1 := hx.1
  have e2 := hy.1
  have b1 := hx.bin
  have b2 := hy.bin
  clear hx hy
  subst e1
  subst e2
  exact eqByteS_any p q c1 c2 xs ys w hn hm b1 b2
theorem eqSame (B B' : Nat) (p q : Option Addr) (n m c1 c2 : Nat) (xs : List Int) (w : World) (hx : OwnS w B p n c1 xs) (hy : OwnS w B' q m c2 xs) (hn : n ≤ 1000000000) (hm : m ≤ 1000000000) :
    Calls Tryd.prog 9 #[.slice p n c1, .slice q m c2] w fun e w' => e = .returned (.bool true) ∧ ∃ k, w' = w.drewN k :=
  (eqOwn B B' p q n m c1 c2 xs xs w hx hy hn hm).mono fun e w' ⟨he, hw⟩ => ⟨by rw [he]; simp, hw⟩
theorem Below.of_grown {B : Nat} {w w' : World} {row : Option Nat} (hg : w.grownBy w' row) (hB : B ≤ w.heap.size) (hr : ∀ k, row = some k → B ≤ k) : Below B w w' := (Below.refl _ _).grown hg hB hr
theorem ownBlock_some {g n c k : Nat} (h : Value.ownBlock (.slice (some ⟨g, 0, none⟩) n c) = some k) : k = g := by simp [Value.ownBlock] at h; exact h.symm

set_option maxRecDepth 100000 in
theorem lawQuote_any (p : Option Addr) (cap : Nat) (xs : List Int) (w : World) (hb : Bytes xs) (hm : xs.length ≤ 9223372036854775807) (hin : BIn w p xs) (hT : Tab w) :
    Calls Tryd.prog 4 #[.slice p xs.length cap] w fun e w' => e = .returned (.bool true) ∧ Below w.heap.size w w' := by
  by_cases hn : xs.length ≤ 1048576
  · have HI : Hid (BIn w p xs) := hin
    have HT : Hid (Tab w) := hT
    have HQ : Hid ((quoteB xs).length ≤ 600) := quote_len xs
    clear hin hT
    go_enter Tryd.func4, Tryd.ntmps4
    go_wp2_with fail
    refine (toByteS_any p cap xs w hn HI.out).mono ?_
    rintro e w1 ⟨rfl, hown1, hb1⟩
    have HR1 : Hid (Row w1 w.heap.size xs) := row_of_owns hown1
    have HB1 : Hid (Below w.heap.size w w1) := hb1
    clear hown1 hb1
    go_wp2_with fail
    refine (specQuote_any w.heap.size xs.length xs w1 hb hn (Nat.le_refl _) HR1.out).mono ?_
    rintro e w2 ⟨p0, n0, c0, rfl, hown2, hb2⟩
    have HO2 : Hid (OwnS w2 w1.heap.size p0 n0 c0 (quoteB xs)) := hown2
    have HB2 : Hid (Below w.heap.size w w2) := Below.on HB1.out hb2
    have HF2 : Hid (∀ g, p0 = some ⟨g, 0, none⟩ → g < w2.heap.size) := fun g e => by
      rcases hown2.form with ⟨e', _⟩ | ⟨g', e', _, h⟩
      · rw [e'] at e; cases e
      · rw [e'] at e; cases e; exact h
    have hn0 : n0 ≤ 600 := by rw [hown2.1]; exact HQ.out
    clear hown2 hb2 HR1 HB1
    go_wp2_with fail
    refine (toByteS_any p cap xs w2 hn (HI.out.below HB2.out)).mono ?_
    rintro e w3 ⟨rfl, hown3, hb3⟩
    have HX3 : Hid (OwnS w3 w2.heap.size (some ⟨w2.heap.size, 0, none⟩) xs.length xs.length xs) := OwnS.of_row hown3
    have HO3 : Hid (OwnS w3 w1.heap.size p0 n0 c0 (quoteB xs)) := HO2.out.below hb3
    have HB3 : Hid (Below w.heap.size w w3) := Below.on HB2.out hb3
    have HS3 : Hid (w2.heap.size < w3.heap.size) := HX3.out.row.1
    clear hown3 hb3 HO2
    go_wp2_with fail
    refine (implQuote_any w2.heap.size xs.length xs w3 hb hn (Nat.le_refl _) HX3.out.row (HT.out.below HB3.out)).mono ?_
    rintro e w4 ⟨p1, n1, c1, rfl, hown4, hb4⟩
    have HG4 : Hid (OwnS w4 w3.heap.size p1 n1 c1 (quoteB xs)) := hown4
    have HX4 : Hid (OwnS w4 w2.heap.size (some ⟨w2.heap.size, 0, none⟩) xs.length xs.length xs) := HX3.out.below hb4
    have HO4 : Hid (OwnS w4 w1.heap.size p0 n0 c0 (quoteB xs)) := HO3.out.below hb4
    have HB4 : Hid (Below w.heap.size w w4) := Below.on HB3.out hb4
    have HF4 : Hid (∀ g, p1 = some ⟨g, 0, none⟩ → w3.heap.size ≤ g) := fun g e => by
      rcases hown4.form with ⟨e', _⟩ | ⟨g', e', h, _⟩
      · rw [e'] at e; cases e
      · rw [e'] at e; cases e; exact h
    have hn1 : n1 ≤ 600 := by rw [hown4.1]; exact HQ.out
    clear hown4 hb4 HX3 HO3
    go_wp2_with fail
    refine (eqSame _ _ _ _ _ _ _ _ (quoteB xs) w4 HG4.out HO4.out (by omega) (by omega)).mono ?_
    rintro e w5 ⟨rfl, k5, rfl⟩
    go_wp2_with fail
    refine (toByteS_any p cap xs _ hn (HI.out.below (below_drewN HB4.out k5))).mono ?_
    rintro e w6 ⟨rfl, hown6, hb6⟩
    have HA6 : Hid (OwnS w6 w4.heap.size (some ⟨w4.heap.size, 0, none⟩) xs.length xs.length xs) := OwnS.of_row hown6
    have HG6 : Hid (OwnS w6 w3.heap.size p1 n1 c1 (quoteB xs)) := (HG4.out.drewN k5).below hb6
    have HX6 : Hid (OwnS w6 w2.heap.size (some ⟨w2.heap.size, 0, none⟩) xs.length xs.length xs) := (HX4.out.drewN k5).below hb6
    have HO6 : Hid (OwnS w6 w1.heap.size p0 n0 c0 (quoteB xs)) := (HO4.out.drewN k5).below hb6
    have HB6 : Hid (Below w.heap.size w w6) := Below.on (below_drewN HB4.out k5) hb6
    clear hown6 hb6 HG4 HX4 HO4 HB4
    go_wp2_with fail
    refine (eqSame _ _ _ _ _ _ _ _ xs w6 HX6.out HA6.out (by omega) (by omega)).mono ?_
    rintro e w7 ⟨rfl, k7, rfl⟩
    clear HA6
    go_wp2_with fail
    refine (mark_own _ _ _ _ 1 xs _ (by decide) (by decide) (by omega) (HX6.out.drewN k7)).mono ?_
    rintro e w8 ⟨rfl, hown8, hg8⟩
    have HG8 : Hid (OwnS w8 w3.heap.size p1 n1 c1 (quoteB xs)) := (HG6.out.drewN k7).kept hg8 (fun g e e' => by have := ownBlock_some e'; have := HF4.out g e; have := HS3.out; omega)
    have HO8 : Hid (OwnS w8 w1.heap.size p0 n0 c0 (quoteB xs)) := (HO6.out.drewN k7).kept hg8 (fun g e e' => by have := ownBlock_some e'; have := HF2.out g e; omega)
    have HB8 : Hid (Below w.heap.size w w8) := (below_drewN HB6.out k7).trans (Below.of_grown hg8 HB6.out.size (fun k e => by have := ownBlock_some e; have := HB2.out.size; omega))
    clear hown8 hg8 HG6 HX6 HO6 HB6
    go_wp2_with fail
    refine (eqSame _ _ _ _ _ _ _ _ (quoteB xs) w8 HG8.out HO8.out (by omega) (by omega)).mono ?_
    rintro e w9 ⟨rfl, k9, rfl⟩
    go_wp2_with fail
    refine (mark_own _ _ _ _ 1 (quoteB xs) _ (by decide) (by decide) (by omega) (HG8.out.drewN k9)).mono ?_
    rintro e w10 ⟨rfl, hown10, hg10⟩
    have HG10 : Hid (OwnS w10 w3.heap.size p1 n1 c1 (marks 1 n1)) := hown10
    have HW10 : Hid (∀ k, Value.ownBlock (.slice p1 n1 c1) = some k → w3.heap.size ≤ k) := fun k e => by
      rcases hown10.form with ⟨rfl, _⟩ | ⟨g, rfl, h, _⟩
      · simp [Value.ownBlock] at e
      · have := ownBlock_some e; omega
    have HO10 : Hid (OwnS w10 w1.heap.size p0 n0 c0 (quoteB xs)) := (HO8.out.drewN k9).kept hg10 (fun g e e' => by have := HW10.out g e'; have := HF2.out g e; have := HS3.out; omega)
    have HB10 : Hid (Below w.heap.size w w10) := (below_drewN HB8.out k9).trans (Below.of_grown hg10 HB8.out.size (fun k e => by have := HW10.out k e; have := HB3.out.size; omega))
    clear hown10 hg10 HG8 HO8 HB8 HW10
    go_wp2_with fail
    refine (held_any p1 n1 c1 1 w10 (by decide) (by decide) (by omega) HG10.out.bin).mono ?_
    rintro e w10' ⟨rfl, rfl⟩
    go_wp2_with fail
    refine (toByteS_any p cap xs _ hn (HI.out.below HB10.out)).mono ?_
    rintro e w11 ⟨rfl, hown11, hb11⟩
    have HX11 : Hid (OwnS w11 w10'.heap.size (some ⟨w10'.heap.size, 0, none⟩) xs.length xs.length xs) := OwnS.of_row hown11
    have HG11 : Hid (OwnS w11 w3.heap.size p1 n1 c1 (marks 1 n1)) := HG10.out.below hb11
    have HO11 : Hid (OwnS w11 w1.heap.size p0 n0 c0 (quoteB xs)) := HO10.out.below hb11
    have HB11 : Hid (Below w.heap.size w w11) := Below.on HB10.out hb11
    clear hown11 hb11 HG10 HO10 HB10
    go_wp2_with fail
    refine (implQuote_any w10'.heap.size xs.length xs w11 hb hn (Nat.le_refl _) HX11.out.row (HT.out.below HB11.out)).mono ?_
    rintro e w12 ⟨p2, n2, c2, rfl, hown12, hb12⟩
    have HH12 : Hid (OwnS w12 w11.heap.size p2 n2 c2 (quoteB xs)) := hown12
    have HG12 : Hid (OwnS w12 w3.heap.size p1 n1 c1 (marks 1 n1)) := HG11.out.below hb12
    have HO12 : Hid (OwnS w12 w1.heap.size p0 n0 c0 (quoteB xs)) := HO11.out.below hb12
    have HB12 : Hid (Below w.heap.size w w12) := Below.on HB11.out hb12
    have hn2 : n2 ≤ 600 := by rw [hown12.1]; exact HQ.out
    clear hown12 hb12 HG11 HO11 HB11 HX11
    go_wp2_with fail
    refine (eqSame _ _ _ _ _ _ _ _ (quoteB xs) w12 HH12.out HO12.out (by omega) (by omega)).mono ?_
    rintro e w13 ⟨rfl, k13, rfl⟩
    go_wp2_with fail
    refine (held_any p1 n1 c1 1 _ (by decide) (by decide) (by omega) (HG12.out.drewN k13).bin).mono ?_
    rintro e w14 ⟨rfl, rfl⟩
    go_wp2
    go_ret
    exact ⟨rfl, below_drewN HB12.out k13⟩
  · have hn' : (1048576 : Int) < xs.length := by omega
    clear hin hT
    go_enter Tryd.func4, Tryd.ntmps4
    go_wp2
    go_ret
    exact ⟨rfl, Below.refl _ _⟩

end Go.Proofs.YtfhelmhcmfpedaaDoor
