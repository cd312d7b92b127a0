/- CompareTerms of the implementation; the law FnExactCompareTerms, walked. Own work of the verifier. -/
import Derived.Test.YtopdhjnpcpkmlaaCmp15
import Derived.Test.YtopdhjnpcpkmlaaLawVars
namespace Go.Proofs.Ytopdhjnpcpkmlaa
open Go Go.RowKit Go.Maps
set_option linter.unusedVariables false

set_option maxRecDepth 100000 in
set_option maxHeartbeats 1000000 in
theorem implCmp_any (xs ys : List Cel) (p q : Option Addr) (w : World) (hn : xs.length ≤ 10000000) (hm : ys.length ≤ 10000000) (hbx : ∀ i, i < xs.length → Byte (xs.getD i Cel.none).2.2) (hby : ∀ i, i < ys.length → Byte (ys.getD i Cel.none).2.2) (hx : CIn w p xs) (hy : CIn w q ys) :
    Calls Try.prog 15 #[.slice p xs.length xs.length, .slice q ys.length ys.length] w fun e w' => e = .returned (.tuple #[.int .i64 (cmpR xs ys).1, .int .i64 (cmpR xs ys).2]) ∧ Below w.heap.size w w' := by
  have HVX := implValid_any p xs.length xs w (by omega) hx
  have HVY : Hid (∀ W, Below w.heap.size w W → Calls Try.prog 12 #[.slice q ys.length ys.length] W fun e w' => e = .returned (.bool (validB ys)) ∧ Below W.heap.size W w') := fun W hW => implValid_any q ys.length ys W (by omega) (hy.below hW)
  cases hv : validB xs with
  | false =>
    have HF : Hid (cmpR xs ys = (0, 1)) := by show _ = _; rw [cmpR, if_neg (by rw [hv]; simp)]
    rw [HF.out]
    rw [hv] at HVX
    generalize xs.length = n at *
    generalize ys.length = m at *
    clear hx hy hbx hby
    go_enter Try.func15, Try.ntmps15
    go_wp2_with fail
    refine HVX.mono ?_
    rintro e w1 ⟨rfl, hb1⟩
    go_wp2_with fail
    go_ret2
    exact ⟨rfl, hb1⟩
  | true =>
    rw [hv] at HVX
    cases hv2 : validB ys with
    | false =>
      have HF : Hid (cmpR xs ys = (0, 1)) := by show _ = _; rw [cmpR, if_neg (by rw [hv2]; simp)]
      rw [HF.out]
      rw [hv2] at HVY
      generalize xs.length = n at *
      generalize ys.length = m at *
      clear hx hy hbx hby
      go_enter Try.func15, Try.ntmps15
      go_wp2_with fail
      refine HVX.mono ?_
      rintro e w1 ⟨rfl, hb1⟩
      have HB1 : Hid (Below w.heap.size w w1) := hb1
      clear hb1 HVX
      go_wp2_with fail
      refine (HVY.out _ HB1.out).mono ?_
      rintro e w2 ⟨rfl, hb2⟩
      go_wp2_with fail
      go_ret2
      exact ⟨rfl, Below.on HB1.out hb2⟩
    | true =>
      have HF : Hid (cmpR xs ys = (cmpC xs ys, 0)) := by show _ = _; rw [cmpR, if_pos ⟨hv, hv2⟩]
      rw [HF.out]
      rw [hv2] at HVY
      obtain ⟨c, k, ex, hok, hlx⟩ := tree_of hbx hv
      obtain ⟨c', k', ey, hok', hly⟩ := tree_of hby hv2
      have hkx : xs.length = k.cells.length + 1 := by rw [ex]; simp
      have hky : ys.length = k'.cells.length + 1 := by rw [ey]; simp
      have HT1 : Hid (∀ W, Below w.heap.size w W → Calls Try.prog 40 #[.slice p xs.length xs.length] W fun e w' => ∃ v, e = .returned v ∧ FoIn w' W.heap.size (.node c k .nil) [v] ∧ Below W.heap.size W w') := fun W hW => termOf_any c k p xs.length xs.length W hok hkx (Nat.le_refl _) (by omega) (by rw [← ex]; exact hx.below hW)
      have HT2 : Hid (∀ W, Below w.heap.size w W → Calls Try.prog 40 #[.slice q ys.length ys.length] W fun e w' => ∃ v, e = .returned v ∧ FoIn w' W.heap.size (.node c' k' .nil) [v] ∧ Below W.heap.size W w') := fun W hW => termOf_any c' k' q ys.length ys.length W hok' hky (Nat.le_refl _) (by omega) (by rw [← ey]; exact hy.below hW)
      have HOK : Hid ((Fo.node c k .nil).ok ∧ (Fo.node c' k' .nil).ok ∧ k.cells.length + 1 ≤ 2000 ∧ k'.cells.length + 1 ≤ 2000) := ⟨hok, hok', by omega, by omega⟩
      have HXY : Hid (xs = c :: k.cells ∧ ys = c' :: k'.cells) := ⟨ex, ey⟩
      clear ex ey hok hok' hlx hly hkx hky hbx hby hx hy
      generalize xs.length = n at *
      generalize ys.length = m at *
      go_enter Try.func15, Try.ntmps15
      go_wp2_with fail
      refine HVX.mono ?_
      rintro e w1 ⟨rfl, hb1⟩
      have HB1 : Hid (Below w.heap.size w w1) := hb1
      clear hb1 HVX
      go_wp2_with fail
      refine (HVY.out _ HB1.out).mono ?_
      rintro e w2 ⟨rfl, hb2⟩
      have HB2 : Hid (Below w.heap.size w w2) := Below.on HB1.out hb2
      clear hb2
      go_wp2_with fail
      refine (HT1.out w2 HB2.out).mono ?_
      rintro e w3 ⟨v, rfl, hfo, hb3⟩
      obtain ⟨t1, x1, rfl⟩ := hfo.iface
      have HB3 : Hid (Below w.heap.size w w3) := Below.on HB2.out hb3
      have HFO : Hid (FoIn w3 w2.heap.size (.node c k .nil) [.iface t1 x1]) := hfo
      have HS3 : Hid (w2.heap.size ≤ w3.heap.size) := hb3.size
      clear hfo hb3
      go_wp2_with fail
      refine (HT2.out w3 HB3.out).mono ?_
      rintro e w4 ⟨v', rfl, hfo', hb4⟩
      obtain ⟨t2, x2, rfl⟩ := hfo'.iface
      have HB4 : Hid (Below w.heap.size w w4) := Below.on HB3.out hb4
      have HFO' : Hid (FoIn w4 w2.heap.size (.node c' k' .nil) [.iface t2 x2]) := FoIn.imp HS3.out (fun _ _ _ _ => rfl) (Nat.le_refl _) _ _ hfo'
      have HFO4 : Hid (FoIn w4 w2.heap.size (.node c k .nil) [.iface t1 x1]) := HFO.out.below hb4
      have HST : Hid (Calls Try.prog 41 #[.slice (some ⟨w4.heap.size, 0, none⟩) 2 2] (w4.alloc (.cells #[.iface t1 x1, .iface t2 x2] 59)) (StdOut (w4.alloc (.cells #[.iface t1 x1, .iface t2 x2] 59)) (c :: k.cells) (c' :: k'.cells))) :=
        standard_any c k _ c' k' _ w2.heap.size w4.heap.size w4 _ HOK.out.1 HOK.out.2.1 HFO4.out HFO'.out ((Below.refl _ _).alloc (Nat.le_refl _) _) (pair_new w4 _ _ _).1 (pair_new w4 _ _ _).2 HOK.out.2.2.1 HOK.out.2.2.2
      have HB5 : Hid (Below w4.heap.size w4 (w4.alloc (.cells #[.iface t1 x1, .iface t2 x2] 59))) := (Below.refl _ _).alloc (Nat.le_refl _) _
      clear hfo' hb4
      go_wp2_with fail
      refine HST.out.mono ?_
      rintro e w6 ⟨b, N, ks, rk, rfl, hfm, hrk, hn1, hn2, hb6⟩
      have HB6 : Hid (Below w4.heap.size w4 w6) := Below.on HB5.out hb6
      have HCMP := compare_any w4 w2.heap.size b N ks rk 2000 (by omega) c k _ c' k' _ w6 HOK.out.2.2.1 HOK.out.1 HOK.out.2.1 HFO4.out HFO'.out hn1 hn2 HB6.out hfm
      rw [compare_cells hrk c c' k k' HOK.out.1 HOK.out.2.1 hn1 hn2, ← HXY.out.1, ← HXY.out.2] at HCMP
      clear hfm hrk hn1 hn2 hb6 HST
      go_wp2_with fail
      refine HCMP.mono ?_
      rintro e w7 ⟨rfl, hb7⟩
      have HFIN : Hid (Below w.heap.size w w7) := Below.on (Below.on HB4.out HB6.out) hb7
      clear hb7 HCMP
      go_wp2_with fail
      go_ret2
      exact ⟨rfl, HFIN.out⟩

end Go.Proofs.Ytopdhjnpcpkmlaa
