/- Texts of LawOr1, LawOrB, LawOr. Own work of the verifier. -/
import Derived.Test.YtdmmchoicngblaaGreatDoorUqay
namespace Go.Proofs.YtdmmchoicngblaaGreatDoor
set_option maxRecDepth 100000
open Go Go.RowKit
set_option linter.unusedVariables false
set_option linter.unusedSimpArgs false
set_option maxHeartbeats 16000000 in
theorem lawOr_good (p : Option Addr) (cap n : Nat) (xs : List Int) (a a2 : Addr) (w : World) (hx : CodeIn w p cap n xs) (hg : FeW w a a2) (sa sb sc ta tb tc : Tr) (m : Nat) (hD : dcF (xs.take 500) = (itC sa, itC sb)) (hV : dvF (xs.take 500) = itC sc)
  (hsa : sa.fo.ok) (hsb : sb.fo.ok) (hsc : sc.fo.ok) (hl : (itC sa).length + (itC sb).length + (itC sc).length ≤ 900) (hT : Tri (itC sa) (itC sb) (itC sc) ta tb tc m) :
  Calls Tryz.prog 3 #[.slice p n cap] w fun e w' => e = .returned (.bool true) ∧ Below w.heap.size w w' := by
 have HG : Hid (FeW w a a2) := hg; have HT : Hid (Tri (itC sa) (itC sb) (itC sc) ta tb tc m) := hT
 have HDC : Hid (∀ W, Below w.heap.size w W → Calls Tryz.prog 4 #[.slice p n cap] W fun e w' => ∃ p1 n1 c1 p2 n2 c2, e = .returned (.tuple #[.slice p1 n1 c1, .slice p2 n2 c2]) ∧ TmC w' p1 n1 c1 (itC sa) ∧ TmC w' p2 n2 c2 (itC sb) ∧ Below W.heap.size W w') := fun W hW => by
  rw [hx.len]
  refine (drawC_any p cap xs W hx.byt hx.small hx.room (hx.bin.below hW)).mono fun e w' h => ?_
  rw [hD] at h; obtain ⟨p1, n1, c1, p2, n2, c2, rfl, ⟨h1, h2, h3, h4⟩, ⟨h5, h6, h7, h8⟩, hb⟩ := h; exact ⟨p1, n1, c1, p2, n2, c2, rfl, ⟨h1, h2, by rw [h1]; exact h3, h4⟩, ⟨h5, h6, by rw [h5]; exact h7, h8⟩, hb⟩
 have HDV : Hid (∀ W, Below w.heap.size w W → Calls Tryz.prog 5 #[.slice p n cap] W fun e w' => ∃ q m c, e = .returned (.slice q m c) ∧ TmC w' q m c (itC sc) ∧ Below W.heap.size W w') := fun W hW => by
  rw [hx.len]
  refine (drawV_any p cap xs W hx.byt hx.small hx.room (hx.bin.below hW)).mono fun e w' h => ?_
  rw [hV] at h; obtain ⟨q, m, c, rfl, ho, hb⟩ := h; exact ⟨q, m, c, rfl, ho.tmc, hb⟩
 have HOS : Hid (sa.fo.ok ∧ sb.fo.ok ∧ sc.fo.ok ∧ (itC sa).length + (itC sb).length + (itC sc).length ≤ 900) := ⟨hsa, hsb, hsc, hl⟩
 have HVT : Hid (∀ t : Tr, t.fo.ok → (itC t).length ≤ 900 → ∀ (W : World) (q : Option Addr) (k c : Nat), TmC W q k c (itC t) → Calls Tryz.prog 6 #[.slice q k c] W fun e w' => e = .returned (.bool true) ∧ Below W.heap.size W w') := fun t ht hl W q k c h => by
  have := validV_any (by omega) h
  rwa [tr_valid ht (by omega)] at this
 obtain ⟨x1, ex1⟩ : ∃ x, x = cmpC (itC sa) (itC sb) := ⟨_, rfl⟩
 obtain ⟨x2, ex2⟩ : ∃ x, x = cmpC (itC sb) (itC sc) := ⟨_, rfl⟩
 obtain ⟨x3, ex3⟩ : ∃ x, x = cmpC (itC sa) (itC sc) := ⟨_, rfl⟩
 obtain ⟨tt, ett⟩ : ∃ x, x = decide (itC sa = itC sb) := ⟨_, rfl⟩
 have hz : (x1 == 0) = tt := by
  rw [ett, Bool.eq_iff_iff, beq_iff_eq, decide_eq_true_eq, ex1]; exact cmp_eq hsa hsb
 have hq : -1 ≤ x1 ∧ x1 ≤ 1 := by rcases cmpC_vals (itC sa) (itC sb) with h | h | h <;> omega
 have hq2 : -1 ≤ x2 ∧ x2 ≤ 1 := by rcases cmpC_vals (itC sb) (itC sc) with h | h | h <;> omega
 have hq3 : -1 ≤ x3 ∧ x3 ≤ 1 := by rcases cmpC_vals (itC sa) (itC sc) with h | h | h <;> omega
 obtain ⟨hq1, hq1'⟩ := hq; obtain ⟨hq2, hq2'⟩ := hq2; obtain ⟨hq3, hq3'⟩ := hq3
 have hC : 0 < x1 ∨ (x1 ≤ 0 ∧ 0 < x2) ∨ (x1 ≤ 0 ∧ x2 ≤ 0 ∧ x3 ≤ 0) := by
  by_cases h1 : x1 ≤ 0
  ·by_cases h2 : x2 ≤ 0
   ·exact .inr (.inr ⟨h1, h2, by rw [ex3]; exact cmp_tr hsa hsb hsc (by rw [← ex1]; exact h1) (by rw [← ex2]; exact h2)⟩)
   ·exact .inr (.inl ⟨h1, by omega⟩)
  ·exact .inl (by omega)
 have HCab : Hid (∀ W p q m c k d, TmC W p m c (itC sa) → TmC W q k d (itC sb) → Calls Tryz.prog 7 #[.slice p m c, .slice q k d] W fun e w' => e = .returned (.tuple #[.int .i64 x1, .int .i64 0]) ∧ Below W.heap.size W w') := fun W p q m c k d h1 h2 => by rw [ex1]; exact cmpT_any hsa hsb (by omega) (by omega) h1 h2
 have HCba : Hid (∀ W p q m c k d, TmC W p m c (itC sb) → TmC W q k d (itC sa) → Calls Tryz.prog 7 #[.slice p m c, .slice q k d] W fun e w' => e = .returned (.tuple #[.int .i64 (-x1), .int .i64 0]) ∧ Below W.heap.size W w') := fun W p q m c k d h1 h2 => by rw [ex1, ← cmpC_swap]; exact cmpT_any hsb hsa (by omega) (by omega) h1 h2
 have HCbc : Hid (∀ W p q m c k d, TmC W p m c (itC sb) → TmC W q k d (itC sc) → Calls Tryz.prog 7 #[.slice p m c, .slice q k d] W fun e w' => e = .returned (.tuple #[.int .i64 x2, .int .i64 0]) ∧ Below W.heap.size W w') := fun W p q m c k d h1 h2 => by rw [ex2]; exact cmpT_any hsb hsc (by omega) (by omega) h1 h2
 have HCac : Hid (∀ W p q m c k d, TmC W p m c (itC sa) → TmC W q k d (itC sc) → Calls Tryz.prog 7 #[.slice p m c, .slice q k d] W fun e w' => e = .returned (.tuple #[.int .i64 x3, .int .i64 0]) ∧ Below W.heap.size W w') := fun W p q m c k d h1 h2 => by rw [ex3]; exact cmpT_any hsa hsc (by omega) (by omega) h1 h2
 have HTL : Hid (∀ t : Tr, t.fo.ok → (itC t).length ≤ 900 → 0 < (itC t).length ∧ (itC t).length + tl (itC t) ≤ 100000) := fun t ht hl => ⟨by simp [itC], by have := tl_okO ht; omega⟩
 have HSab : Hid (∀ W p q m c k d, TmC W p m c (itC sa) → TmC W q k d (itC sb) → Calls Tryz.prog 8 #[.slice p m c, .slice q k d] W fun e w' => e = .returned (.bool tt) ∧ Below W.heap.size W w') := fun W p q m c k d h1 h2 => by
  rw [ett]; exact sameV_any (by have := (HTL.out sa hsa (by omega)).2; omega) (by have := (HTL.out sb hsb (by omega)).2; omega) h1 h2
 obtain ⟨y1, ey1⟩ : ∃ x, x = cmpC (itC ta) (itC tb) := ⟨_, rfl⟩
 obtain ⟨tu, etu⟩ : ∃ x, x = decide (itC ta = itC tb) := ⟨_, rfl⟩
 have hzu : (y1 == 0) = tu := by
  rw [etu, Bool.eq_iff_iff, beq_iff_eq, decide_eq_true_eq, ey1]; exact cmp_eq hT.oka hT.okb
 have hqy : -1 ≤ y1 ∧ y1 ≤ 1 := by rcases cmpC_vals (itC ta) (itC tb) with h | h | h <;> omega
 obtain ⟨hqy, hqy'⟩ := hqy
 obtain ⟨yi, eyi⟩ : ∃ yi : Nat, y1 + 1 = yi := ⟨(y1 + 1).toNat, by omega⟩
 have hyi : yi < 3 := by omega
 have HYS : Hid (∀ (W : World) (g : Nat), W.heap[g]? = some (.cells #[.string ⟨#[60]⟩, .string ⟨#[61]⟩, .string ⟨#[62]⟩] 9) → W.cell? ⟨g, yi, none⟩ = some (.string (strOfNums (sgnN y1)))) := fun W g h => by
  rcases (by omega : yi = 0 ∨ yi = 1 ∨ yi = 2) with e | e | e
  ·rw [e, show y1 = -1 by omega]; exact cell_of_row _ _ 0 _ _ _ h
  ·rw [e, show y1 = 0 by omega]; exact cell_of_row _ _ 1 _ _ _ h
  ·rw [e, show y1 = 1 by omega]; exact cell_of_row _ _ 2 _ _ _ h
 have HLT : Hid ((itC ta).length ≤ 900 ∧ (itC tb).length ≤ 900 ∧ (itC tc).length ≤ 900 ∧ (itC ta).length + (itC tb).length + (itC tc).length ≤ 900) := by
  have h1 := hT.la; have h2 := hT.lb; have h3 := hT.lc; exact ⟨by omega, by omega, by omega, by omega⟩
 have HDab : Hid (∀ W p q m c k d, TmC W p m c (itC ta) → TmC W q k d (itC tb) → Calls Tryz.prog 7 #[.slice p m c, .slice q k d] W fun e w' => e = .returned (.tuple #[.int .i64 y1, .int .i64 0]) ∧ Below W.heap.size W w') := fun W p q m c k d h1 h2 => by rw [ey1]; exact cmpT_any hT.oka hT.okb (by have := HLT.out; omega) (by have := HLT.out; omega) h1 h2
 have HSuv : Hid (∀ W p q m c k d, TmC W p m c (itC ta) → TmC W q k d (itC tb) → Calls Tryz.prog 8 #[.slice p m c, .slice q k d] W fun e w' => e = .returned (.bool tu) ∧ Below W.heap.size W w') := fun W p q m c k d h1 h2 => by
  rw [etu]; exact sameV_any (by have := (HTL.out ta hT.oka HLT.out.1).2; omega) (by have := (HTL.out tb hT.okb HLT.out.2.1).2; omega) h1 h2
 have HOD : Hid (ordC ta.cs tb.cs = y1) := by show _ = _; rw [ey1]; exact ordC_num hT.two
 obtain ⟨LA, hLA⟩ := four_of hT.oka hT.okb hT.okc HLT.out.2.2.2; have HLA : Hid (Four ta tb tc LA) := hLA
 have HMK : Hid (∀ (W : World) (g : Nat), CapCC W (some ⟨g, 0, none⟩) ([ta, tb, tc, ta].map itC) → Calls Tryz.prog 16 #[.slice (some ⟨g, 0, none⟩) 4 4] W fun e w' => ∃ q m cq, e = .returned (.tuple #[.slice q m cq, .int .i64 0]) ∧ TmC w' q m cq LA.cs ∧ Below W.heap.size W w') := fun W g h => by
  rw [← HLA.out.cs]; exact makeT_any [ta, tb, tc, ta] HLA.out.oks HLA.out.sml rfl h
 have HDF : Hid (∀ W, Below w.heap.size w W → Calls Tryz.prog 12 #[] W fun e w' => ∃ p0 n0 c0, e = .returned (.slice p0 n0 c0) ∧ BuW w' a a2 p0 n0 c0 ∧ Below W.heap.size W w') := fun W hW => (hg.below hW).ops
 have d1 : n ≤ 1048576 := by have := hx.len; have := hx.small; omega
 have HB : Hid (Below w.heap.size w w) := Below.refl _ _; clear hx hg hT hD hV hsa hsb hsc hl ex1 ex2 ex3 ett ey1 etu hLA
 go_enter Tryz.func3, Tryz.ntmps3
 go_wp2_with fail; refine (HDC.out w HB.out).mono ?_; rintro e w1 ⟨p1, n1, c1, p2, n2, c2, rfl, h1, h2, hb⟩; have HB : Hid (Below w.heap.size w w1) := Below.on HB.out hb; have HA : Hid (TmC w1 p1 n1 c1 (itC sa)) := h1; have HBB : Hid (TmC w1 p2 n2 c2 (itC sb)) := h2; clear hb h1 h2; go_wp2_with fail; refine (HDV.out w1 HB.out).mono ?_; rintro e w2 ⟨p3, n3, c3, rfl, h3, hb⟩; have HB : Hid (Below w.heap.size w w2) := Below.on HB.out hb; have HA : Hid (TmC w2 p1 n1 c1 (itC sa)) := HA.out.below hb; have HBB : Hid (TmC w2 p2 n2 c2 (itC sb)) := HBB.out.below hb; have HC : Hid (TmC w2 p3 n3 c3 (itC sc)) := h3; clear hb h3
 have hl9 : n1 + n2 + n3 ≤ 900 ∧ 0 < n1 ∧ 0 < n2 ∧ 0 < n3 := by
  have h1 := HA.out.1; have h2 := HBB.out.1; have h3 := HC.out.1; have h4 := HOS.out.2.2.2; rw [h1, h2, h3]; exact ⟨h4, by simp [itC], by simp [itC], by simp [itC]⟩
 obtain ⟨hl9, hp1, hp2, hp3⟩ := hl9
 have HLE : Hid ((itC sa).length ≤ 900 ∧ (itC sb).length ≤ 900 ∧ (itC sc).length ≤ 900) := by
  have h4 := HOS.out.2.2.2; exact ⟨by omega, by omega, by omega⟩
 go_wp2_with fail; refine (HVT.out sa HOS.out.1 HLE.out.1 w2 _ _ _ HA.out).mono ?_; rintro e w3 ⟨rfl, hb⟩; have HB : Hid (Below w.heap.size w w3) := Below.on HB.out hb; have HA : Hid (TmC w3 p1 n1 c1 (itC sa)) := HA.out.below hb; have HBB : Hid (TmC w3 p2 n2 c2 (itC sb)) := HBB.out.below hb; have HC : Hid (TmC w3 p3 n3 c3 (itC sc)) := HC.out.below hb; clear hb; go_wp2_with fail; refine (HVT.out sb HOS.out.2.1 HLE.out.2.1 w3 _ _ _ HBB.out).mono ?_; rintro e w4 ⟨rfl, hb⟩; have HB : Hid (Below w.heap.size w w4) := Below.on HB.out hb; have HA : Hid (TmC w4 p1 n1 c1 (itC sa)) := HA.out.below hb; have HBB : Hid (TmC w4 p2 n2 c2 (itC sb)) := HBB.out.below hb; have HC : Hid (TmC w4 p3 n3 c3 (itC sc)) := HC.out.below hb; clear hb; go_wp2_with fail; refine (HVT.out sc HOS.out.2.2.1 HLE.out.2.2 w4 _ _ _ HC.out).mono ?_; rintro e w5 ⟨rfl, hb⟩; have HB : Hid (Below w.heap.size w w5) := Below.on HB.out hb
 have HA : Hid (TmC w5 p1 n1 c1 (itC sa)) := HA.out.below hb; have HBB : Hid (TmC w5 p2 n2 c2 (itC sb)) := HBB.out.below hb; have HC : Hid (TmC w5 p3 n3 c3 (itC sc)) := HC.out.below hb; clear hb; go_wp2_with fail; refine (HCab.out w5 _ _ _ _ _ _ HA.out HBB.out).mono ?_; rintro e w6 ⟨rfl, hb⟩; have HB : Hid (Below w.heap.size w w6) := Below.on HB.out hb; have HA : Hid (TmC w6 p1 n1 c1 (itC sa)) := HA.out.below hb; have HBB : Hid (TmC w6 p2 n2 c2 (itC sb)) := HBB.out.below hb; have HC : Hid (TmC w6 p3 n3 c3 (itC sc)) := HC.out.below hb; clear hb; go_wp2_with fail; refine (HCba.out w6 _ _ _ _ _ _ HBB.out HA.out).mono ?_; rintro e w7 ⟨rfl, hb⟩; have HB : Hid (Below w.heap.size w w7) := Below.on HB.out hb; have HA : Hid (TmC w7 p1 n1 c1 (itC sa)) := HA.out.below hb; have HBB : Hid (TmC w7 p2 n2 c2 (itC sb)) := HBB.out.below hb; have HC : Hid (TmC w7 p3 n3 c3 (itC sc)) := HC.out.below hb; clear hb
 go_wp2_with fail; refine (HCbc.out w7 _ _ _ _ _ _ HBB.out HC.out).mono ?_; rintro e w8 ⟨rfl, hb⟩; have HB : Hid (Below w.heap.size w w8) := Below.on HB.out hb; have HA : Hid (TmC w8 p1 n1 c1 (itC sa)) := HA.out.below hb; have HBB : Hid (TmC w8 p2 n2 c2 (itC sb)) := HBB.out.below hb; have HC : Hid (TmC w8 p3 n3 c3 (itC sc)) := HC.out.below hb; clear hb; go_wp2_with fail; refine (HCac.out w8 _ _ _ _ _ _ HA.out HC.out).mono ?_; rintro e w9 ⟨rfl, hb⟩; have HB : Hid (Below w.heap.size w w9) := Below.on HB.out hb; have HA : Hid (TmC w9 p1 n1 c1 (itC sa)) := HA.out.below hb; have HBB : Hid (TmC w9 p2 n2 c2 (itC sb)) := HBB.out.below hb; have HC : Hid (TmC w9 p3 n3 c3 (itC sc)) := HC.out.below hb; clear hb
 have hw1 : wrap64 (- -x1) = x1 := by unfold wrap64; omega
 have hw2 : IntKind.i64.wrap (- -x1) = x1 := by rw [IntKind.wrap_i64]; omega
 have hw3 : IntKind.i64.wrap x1 = x1 := by rw [IntKind.wrap_i64]; omega
 go_wp2_with fail; refine (HSab.out w9 _ _ _ _ _ _ HA.out HBB.out).mono ?_; rintro e w10 ⟨rfl, hb⟩; have HB : Hid (Below w.heap.size w w10) := Below.on HB.out hb; have HA : Hid (TmC w10 p1 n1 c1 (itC sa)) := HA.out.below hb; have HBB : Hid (TmC w10 p2 n2 c2 (itC sb)) := HBB.out.below hb; have HC : Hid (TmC w10 p3 n3 c3 (itC sc)) := HC.out.below hb; clear hb
 have hD3 : (¬ x1 ≤ 0) ∨ (x1 ≤ 0 ∧ ¬ x2 ≤ 0) ∨ (x1 ≤ 0 ∧ x2 ≤ 0 ∧ ¬ 0 < x3) := by
  rcases hC with hc | ⟨hc, hc'⟩ | ⟨hc, hc', hc''⟩
  ·exact .inl (by omega)
  ·exact .inr (.inl ⟨hc, by omega⟩)
  ·exact .inr (.inr ⟨hc, hc', by omega⟩)
 clear hC
 rcases hD3 with hc1 | ⟨hc1, hc2⟩ | ⟨hc1, hc2, hc3⟩
 iterate 3
  focus
   go_wp2_with fail
   obtain ⟨wr0, er⟩ : ∃ wr0, wr0 = w10.alloc (.cells #[.slice p1 n1 c1, .slice p2 n2 c2, .slice p3 n3 c3] 23) := ⟨_, rfl⟩
   obtain ⟨rb0, erb⟩ : ∃ rb0, rb0 = w10.heap.size := ⟨_, rfl⟩
   have hb : Below w10.heap.size w10 wr0 := by rw [er]; exact (Below.refl _ _).alloc (Nat.le_refl _) _
   have HRW0 : Hid (wr0.heap[rb0]? = some (.cells #[.slice p1 n1 c1, .slice p2 n2 c2, .slice p3 n3 c3] 23)) := by rw [er, erb]; exact heap_alloc_new _ _
   have HB : Hid (Below w.heap.size w wr0) := Below.on HB.out hb; have HA : Hid (TmC wr0 p1 n1 c1 (itC sa)) := HA.out.below hb; have HBB : Hid (TmC wr0 p2 n2 c2 (itC sb)) := HBB.out.below hb; have HC : Hid (TmC wr0 p3 n3 c3 (itC sc)) := HC.out.below hb; rw [← er, ← erb]; clear er erb hb; have HRI : Hid (RowsIn wr0 rb0 [itC sa, itC sb, itC sc]) := rows3 HRW0.out HA.out HBB.out HC.out (HTL.out sa HOS.out.1 HLE.out.1) (HTL.out sb HOS.out.2.1 HLE.out.2.1) (HTL.out sc HOS.out.2.2.1 HLE.out.2.2); refine (listL_any rb0 3 3 [itC sa, itC sb, itC sc] wr0 rfl (by decide) HRI.out).mono ?_; rintro e w11 ⟨q4, m4, c4, rfl, h4, h5, h6, h7, hb⟩; have HB : Hid (Below w.heap.size w w11) := Below.on HB.out hb; have HA : Hid (TmC w11 p1 n1 c1 (itC sa)) := HA.out.below hb; have HBB : Hid (TmC w11 p2 n2 c2 (itC sb)) := HBB.out.below hb; have HC : Hid (TmC w11 p3 n3 c3 (itC sc)) := HC.out.below hb; clear hb HRI HRW0
   have HRN := specRen_any (lsC [itC sa, itC sb, itC sc] ++ [nilC]) q4 m4 c4 w11 h4 (by
    have h1 := (HTL.out sa HOS.out.1 HLE.out.1).2; have h2 := (HTL.out sb HOS.out.2.1 HLE.out.2.1).2; have h3 := (HTL.out sc HOS.out.2.2.1 HLE.out.2.2).2
    have e : lsC [itC sa, itC sb, itC sc] ++ [nilC] = [dot] ++ itC sa ++ [dot] ++ itC sb ++ [dot] ++ itC sc ++ [nilC] := by simp [lsC]
    have e1 : tl [dot] = 1 := rfl; have e2 : tl [nilC] = 2 := rfl; rw [e]; simp only [tl_app, List.length_append, List.length_singleton, e1, e2]
    omega) h5
   rw [HT.out.val, if_pos rfl, HT.out.ren] at HRN; clear h4 h5 h6 h7; go_wp2_with fail
   obtain ⟨L, eL⟩ : ∃ L, L = dot :: (itC ta ++ (dot :: (itC tb ++ (dot :: (itC tc ++ [nilC]))))) := ⟨_, rfl⟩
   rw [← eL] at HRN; have HL : Hid (L = dot :: (itC ta ++ (dot :: (itC tb ++ (dot :: (itC tc ++ [nilC])))))) := eL; clear eL; refine (HRN).mono ?_; rintro e w12 ⟨q5, m5, c5, rfl, ho5, hb⟩; have HB : Hid (Below w.heap.size w w12) := Below.on HB.out hb; have HA : Hid (TmC w12 p1 n1 c1 (itC sa)) := HA.out.below hb; have HBB : Hid (TmC w12 p2 n2 c2 (itC sb)) := HBB.out.below hb; have HC : Hid (TmC w12 p3 n3 c3 (itC sc)) := HC.out.below hb; have HOL : Hid (OwnC w12 w11.heap.size q5 m5 c5 L) := ho5; clear hb HRN
   have HTA : Hid ((itC ta).length = n1 ∧ (itC tb).length = n2 ∧ (itC tc).length = n3) := ⟨HT.out.la.trans HA.out.1.symm, HT.out.lb.trans HBB.out.1.symm, HT.out.lc.trans HC.out.1.symm⟩
   have hm5 : m5 = n1 + n2 + n3 + 4 := by
    have h1 := HTA.out; rw [ho5.1, HL.out]; simp only [List.length_cons, List.length_append, List.length_nil]
    omega
   obtain ⟨g5, rfl, -, -⟩ := ho5.at0 (by rw [HL.out]; simp); subst hm5; have hc5 := ho5.room; obtain ⟨hc5, hc5'⟩ := hc5
   have HVL : Hid (validB L = true ∧ (visits [] L).length = m) := by rw [HL.out]; exact ⟨HT.out.val2, HT.out.num⟩
   have HSV := specVars_any L (some ⟨g5, 0, none⟩) (n1 + n2 + n3 + 4) c5 w12 ho5.1 (by omega) ho5.cin; rw [HVL.out.1, if_pos rfl] at HSV; clear ho5; have HLC : Hid (CIn w12 (some ⟨g5, 0, none⟩) L) := HOL.out.cin; clear HOL; go_wp2_with fail; refine (HSV).mono ?_; rintro e w13 ⟨q6, m6, c6, rfl, ho6, hb⟩; have HB : Hid (Below w.heap.size w w13) := Below.on HB.out hb; have HA : Hid (TmC w13 p1 n1 c1 (itC sa)) := HA.out.below hb; have HBB : Hid (TmC w13 p2 n2 c2 (itC sb)) := HBB.out.below hb; have HC : Hid (TmC w13 p3 n3 c3 (itC sc)) := HC.out.below hb; have HLC : Hid (CIn w13 (some ⟨g5, 0, none⟩) L) := HLC.out.below hb; clear hb HSV; obtain rfl : m6 = m := ho6.1.trans HVL.out.2; have hm1 : m6 ≤ 1000 := HT.out.small; clear ho6; obtain ⟨gpa, kpa, w14, hrpa, hppa, hb⟩ := part_any w13 23 g5 0 (c5 - 1) n1 (3) L ([dot]) (itC ta) (dot :: (itC tb ++ (dot :: (itC tc ++ [nilC])))) (by first | rfl | (have := HTA.out; simp only [List.length_cons, List.length_append, List.length_nil]; omega)) HLC.out (by rw [HL.out]; simp) HTA.out.1.symm (by omega) (by omega)
   have HB : Hid (Below w.heap.size w w14) := Below.on HB.out hb; have HA : Hid (TmC w14 p1 n1 c1 (itC sa)) := HA.out.below hb; have HBB : Hid (TmC w14 p2 n2 c2 (itC sb)) := HBB.out.below hb; have HC : Hid (TmC w14 p3 n3 c3 (itC sc)) := HC.out.below hb; have HLC : Hid (CIn w14 (some ⟨g5, 0, none⟩) L) := HLC.out.below hb; have Hpa : Hid (TmC w14 (some ⟨gpa, 0, none⟩) n1 kpa (itC ta)) := hppa; clear hb hppa; obtain ⟨gpb, kpb, w15, hrpb, hppb, hb⟩ := part_any w14 23 g5 0 (c5 - (2 + n1)) n2 ((2 + n1) * 3) L (dot :: (itC ta ++ [dot])) (itC tb) (dot :: (itC tc ++ [nilC])) (by first | rfl | (have := HTA.out; simp only [List.length_cons, List.length_append, List.length_nil]; omega)) HLC.out (by rw [HL.out]; simp) HTA.out.2.1.symm (by omega) (by omega); have HB : Hid (Below w.heap.size w w15) := Below.on HB.out hb; have HA : Hid (TmC w15 p1 n1 c1 (itC sa)) := HA.out.below hb; have HBB : Hid (TmC w15 p2 n2 c2 (itC sb)) := HBB.out.below hb
   have HC : Hid (TmC w15 p3 n3 c3 (itC sc)) := HC.out.below hb; have HLC : Hid (CIn w15 (some ⟨g5, 0, none⟩) L) := HLC.out.below hb; have Hpa : Hid (TmC w15 (some ⟨gpa, 0, none⟩) n1 kpa (itC ta)) := Hpa.out.below hb; have Hpb : Hid (TmC w15 (some ⟨gpb, 0, none⟩) n2 kpb (itC tb)) := hppb; clear hb hppb; obtain ⟨gpc, kpc, w16, hrpc, hppc, hb⟩ := part_any w15 23 g5 0 (c5 - (3 + n1 + n2)) n3 ((3 + n1 + n2) * 3) L (dot :: (itC ta ++ (dot :: (itC tb ++ [dot])))) (itC tc) ([nilC]) (by first | rfl | (have := HTA.out; simp only [List.length_cons, List.length_append, List.length_nil]; omega)) HLC.out (by rw [HL.out]; simp) HTA.out.2.2.symm (by omega) (by omega); have HB : Hid (Below w.heap.size w w16) := Below.on HB.out hb; have HA : Hid (TmC w16 p1 n1 c1 (itC sa)) := HA.out.below hb; have HBB : Hid (TmC w16 p2 n2 c2 (itC sb)) := HBB.out.below hb; have HC : Hid (TmC w16 p3 n3 c3 (itC sc)) := HC.out.below hb
   have HLC : Hid (CIn w16 (some ⟨g5, 0, none⟩) L) := HLC.out.below hb; have Hpa : Hid (TmC w16 (some ⟨gpa, 0, none⟩) n1 kpa (itC ta)) := Hpa.out.below hb; have Hpb : Hid (TmC w16 (some ⟨gpb, 0, none⟩) n2 kpb (itC tb)) := Hpb.out.below hb; have Hpc : Hid (TmC w16 (some ⟨gpc, 0, none⟩) n3 kpc (itC tc)) := hppc; clear hb hppc; have tok0 : True := trivial; go_wp2_with (at_builtin; first | (have _t := tok0; refine app_runL _ _ rfl _ _ _ rfl (.slice (some ⟨w13.heap.size, 0, none⟩) 0 0) (.slice (some ⟨g5, 3, none⟩) n1 (c5 - 1)) (.slice (some ⟨gpa, 0, none⟩) n1 kpa) (by simp [Act.eval]) (by simp [Act.eval]) hrpa ?_; clear tok0; have tok1 : True := trivial) | (have _t := tok1; refine app_runL _ _ rfl _ _ _ rfl (.slice (some ⟨w14.heap.size, 0, none⟩) 0 0) (.slice (some ⟨g5, (2 + n1) * 3, none⟩) n2 (c5 - (2 + n1))) (.slice (some ⟨gpb, 0, none⟩) n2 kpb) (by simp [Act.eval]) (by simp [Act.eval]) hrpb ?_; clear tok1; have tok2 : True := trivial) | (have _t := tok2; refine app_runL _ _ rfl _ _ _ rfl (.slice (some ⟨w15.heap.size, 0, none⟩) 0 0) (.slice (some ⟨g5, (3 + n1 + n2) * 3, none⟩) n3 (c5 - (3 + n1 + n2))) (.slice (some ⟨gpc, 0, none⟩) n3 kpc) (by simp [Act.eval]) (by simp [Act.eval]) hrpc ?_; clear tok2))
   clear hrpa hrpb hrpc; refine (HDab.out w16 _ _ _ _ _ _ Hpa.out Hpb.out).mono ?_; rintro e w17 ⟨rfl, hb⟩; have HB : Hid (Below w.heap.size w w17) := Below.on HB.out hb; have Hpa : Hid (TmC w17 (some ⟨gpa, 0, none⟩) n1 kpa (itC ta)) := Hpa.out.below hb; have Hpb : Hid (TmC w17 (some ⟨gpb, 0, none⟩) n2 kpb (itC tb)) := Hpb.out.below hb; have Hpc : Hid (TmC w17 (some ⟨gpc, 0, none⟩) n3 kpc (itC tc)) := Hpc.out.below hb; clear hb
   have hw4 : IntKind.i64.wrap (y1 + 1) = (yi : Int) := by rw [eyi, IntKind.wrap_i64]; omega
   have hw5 : wrap64 (y1 + 1) = (yi : Int) := by rw [eyi]; unfold wrap64; omega
   go_wp2_with fail; refine (HSuv.out w17 _ _ _ _ _ _ Hpa.out Hpb.out).mono ?_; rintro e w18 ⟨rfl, hb⟩; have HB : Hid (Below w.heap.size w w18) := Below.on HB.out hb; have Hpa : Hid (TmC w18 (some ⟨gpa, 0, none⟩) n1 kpa (itC ta)) := Hpa.out.below hb; have Hpb : Hid (TmC w18 (some ⟨gpb, 0, none⟩) n2 kpb (itC tb)) := Hpb.out.below hb; have Hpc : Hid (TmC w18 (some ⟨gpc, 0, none⟩) n3 kpc (itC tc)) := Hpc.out.below hb; clear hb; go_wp2_with fail
   obtain ⟨wS, eS⟩ : ∃ wS, wS = w18.alloc (.cells #[.string ⟨#[60]⟩, .string ⟨#[61]⟩, .string ⟨#[62]⟩] 9) := ⟨_, rfl⟩
   obtain ⟨sb0, esb⟩ : ∃ sb0, sb0 = w18.heap.size := ⟨_, rfl⟩
   have hb : Below w18.heap.size w18 wS := by rw [eS]; exact (Below.refl _ _).alloc (Nat.le_refl _) _
   have HSG : Hid (wS.cell? ⟨sb0, yi, none⟩ = some (.string (strOfNums (sgnN y1)))) := HYS.out _ _ (by rw [eS, esb]; exact heap_alloc_new _ _); have HB : Hid (Below w.heap.size w wS) := Below.on HB.out hb; have Hpa : Hid (TmC wS (some ⟨gpa, 0, none⟩) n1 kpa (itC ta)) := Hpa.out.below hb; have Hpb : Hid (TmC wS (some ⟨gpb, 0, none⟩) n2 kpb (itC tb)) := Hpb.out.below hb; have Hpc : Hid (TmC wS (some ⟨gpc, 0, none⟩) n3 kpc (itC tc)) := Hpc.out.below hb; rw [← eS, ← esb]; clear eS esb hb; refine (HDF.out wS HB.out).mono ?_; rintro e w19 ⟨p0, n0, c0, rfl, h6, hb⟩; have HB : Hid (Below w.heap.size w w19) := Below.on HB.out hb; have Hpa : Hid (TmC w19 (some ⟨gpa, 0, none⟩) n1 kpa (itC ta)) := Hpa.out.below hb; have Hpb : Hid (TmC w19 (some ⟨gpb, 0, none⟩) n2 kpb (itC tb)) := Hpb.out.below hb; have Hpc : Hid (TmC w19 (some ⟨gpc, 0, none⟩) n3 kpc (itC tc)) := Hpc.out.below hb; have HSG : Hid (w19.cell? ⟨sb0, yi, none⟩ = some (.string (strOfNums (sgnN y1)))) := (hb.cell (World.block_lt_of_cell? _ _ HSG.out)).trans HSG.out
   have HBW : Hid (BuW w19 a a2 p0 n0 c0) := h6; clear hb h6; have hcv := Lib.run_convert_bytes_const (P := Tryz.prog) w19 22 5 #[.int .u8 99, .int .u8 111, .int .u8 109, .int .u8 112, .int .u8 97, .int .u8 114, .int .u8 101] 7 7 Tryz.underlying22 Tryz.underlying5; go_wp2_with fail
   obtain ⟨wn0, en⟩ : ∃ wn0, wn0 = w19.alloc (.cells #[.int .u8 99, .int .u8 111, .int .u8 109, .int .u8 112, .int .u8 97, .int .u8 114, .int .u8 101] 5 (7, 8)) := ⟨_, rfl⟩
   obtain ⟨nb0, enb⟩ : ∃ nb0, nb0 = w19.heap.size := ⟨_, rfl⟩
   have hb : Below w19.heap.size w19 wn0 := by rw [en]; exact (Below.refl _ _).alloc (Nat.le_refl _) _
   have HNB0 : Hid (BIn wn0 (some ⟨nb0, 0, none⟩) nCmp) := by rw [en, enb]; exact bin_lit w19 nCmp #[.int .u8 99, .int .u8 111, .int .u8 109, .int .u8 112, .int .u8 97, .int .u8 114, .int .u8 101] _ rfl
   have HB : Hid (Below w.heap.size w wn0) := Below.on HB.out hb; have Hpa : Hid (TmC wn0 (some ⟨gpa, 0, none⟩) n1 kpa (itC ta)) := Hpa.out.below hb; have Hpb : Hid (TmC wn0 (some ⟨gpb, 0, none⟩) n2 kpb (itC tb)) := Hpb.out.below hb; have Hpc : Hid (TmC wn0 (some ⟨gpc, 0, none⟩) n3 kpc (itC tc)) := Hpc.out.below hb; have HSG : Hid (wn0.cell? ⟨sb0, yi, none⟩ = some (.string (strOfNums (sgnN y1)))) := (hb.cell (World.block_lt_of_cell? _ _ HSG.out)).trans HSG.out; have HBW : Hid (BuW wn0 a a2 p0 n0 c0) := HBW.out.below hb; rw [← en, ← enb]; clear en enb hb hcv; refine (variable_any (m6 : Int) wn0).mono ?_; rintro e w20 ⟨q7, m7, c7, rfl, h7, hb⟩; have HB : Hid (Below w.heap.size w w20) := Below.on HB.out hb; have Hpa : Hid (TmC w20 (some ⟨gpa, 0, none⟩) n1 kpa (itC ta)) := Hpa.out.below hb; have Hpb : Hid (TmC w20 (some ⟨gpb, 0, none⟩) n2 kpb (itC tb)) := Hpb.out.below hb; have Hpc : Hid (TmC w20 (some ⟨gpc, 0, none⟩) n3 kpc (itC tc)) := Hpc.out.below hb
   have HSG : Hid (w20.cell? ⟨sb0, yi, none⟩ = some (.string (strOfNums (sgnN y1)))) := (hb.cell (World.block_lt_of_cell? _ _ HSG.out)).trans HSG.out; have HBW : Hid (BuW w20 a a2 p0 n0 c0) := HBW.out.below hb; have HNB0 : Hid (BIn w20 (some ⟨nb0, 0, none⟩) nCmp) := HNB0.out.below hb; have HV7 : Hid (TmIn w20 q7 m7 c7 [(0, (m6 : Int), [])]) := h7; clear hb h7; go_wp2_with fail
   obtain ⟨wr1, er⟩ : ∃ wr1, wr1 = w20.alloc (.cells #[.slice q7 m7 c7, .slice (some ⟨gpa, 0, none⟩) n1 kpa, .slice (some ⟨gpb, 0, none⟩) n2 kpb] 23) := ⟨_, rfl⟩
   obtain ⟨rb1, erb⟩ : ∃ rb1, rb1 = w20.heap.size := ⟨_, rfl⟩
   have hb : Below w20.heap.size w20 wr1 := by rw [er]; exact (Below.refl _ _).alloc (Nat.le_refl _) _
   have HRW1 : Hid (wr1.heap[rb1]? = some (.cells #[.slice q7 m7 c7, .slice (some ⟨gpa, 0, none⟩) n1 kpa, .slice (some ⟨gpb, 0, none⟩) n2 kpb] 23)) := by rw [er, erb]; exact heap_alloc_new _ _
   have HB : Hid (Below w.heap.size w wr1) := Below.on HB.out hb; have Hpa : Hid (TmC wr1 (some ⟨gpa, 0, none⟩) n1 kpa (itC ta)) := Hpa.out.below hb; have Hpb : Hid (TmC wr1 (some ⟨gpb, 0, none⟩) n2 kpb (itC tb)) := Hpb.out.below hb; have Hpc : Hid (TmC wr1 (some ⟨gpc, 0, none⟩) n3 kpc (itC tc)) := Hpc.out.below hb; have HSG : Hid (wr1.cell? ⟨sb0, yi, none⟩ = some (.string (strOfNums (sgnN y1)))) := (hb.cell (World.block_lt_of_cell? _ _ HSG.out)).trans HSG.out; have HBW : Hid (BuW wr1 a a2 p0 n0 c0) := HBW.out.below hb; have HNB0 : Hid (BIn wr1 (some ⟨nb0, 0, none⟩) nCmp) := HNB0.out.below hb; have HV7 : Hid (TmIn wr1 q7 m7 c7 [(0, (m6 : Int), [])]) := HV7.out.below hb; rw [← er, ← erb]; clear er erb hb; have hvt : smallT (vrT (m6 : Int)) := vrT_small (by omega) (by omega); have HBC := bu_cmp HBW.out (some ⟨nb0, 0, none⟩) 7 (some ⟨rb1, 0, none⟩) 3 (m6 : Int) ((m6 : Int) + 1) ta tb (by omega) (by omega) (by omega) (by omega) (mkAB3 HNB0.out HRW1.out HV7.out.tmc Hpa.out Hpb.out hvt.1 HT.out.oka HT.out.okb (tr_valid (t := vrT (m6 : Int)) hvt.1 (by simp [itC, vrT, Fo.cells])) (tr_valid HT.out.oka (by have := HLT.out; omega)) (tr_valid HT.out.okb (by have := HLT.out; omega))) (by have := HLT.out; simp only [itC, List.length_cons] at this; omega)
   rw [HOD.out] at HBC; clear hvt; refine (HBC).mono ?_; rintro e w21 hh; obtain ⟨plw21, clw21, prw21, crw21, he, hL, hR, hb, hcp⟩ := hh; have he' : e = .returned (.tuple #[.agg #[.slice plw21 1 clw21, .slice prw21 1 crw21, .slice none 0 0, .slice none 0 0], .int .i64 0]) := he; clear he; subst he'; have HB : Hid (Below w.heap.size w w21) := Below.on HB.out hb; have Hpa : Hid (TmC w21 (some ⟨gpa, 0, none⟩) n1 kpa (itC ta)) := Hpa.out.below hb; have Hpb : Hid (TmC w21 (some ⟨gpb, 0, none⟩) n2 kpb (itC tb)) := Hpb.out.below hb; have Hpc : Hid (TmC w21 (some ⟨gpc, 0, none⟩) n3 kpc (itC tc)) := Hpc.out.below hb; have HSG : Hid (w21.cell? ⟨sb0, yi, none⟩ = some (.string (strOfNums (sgnN y1)))) := (hb.cell (World.block_lt_of_cell? _ _ HSG.out)).trans HSG.out; have HBW : Hid (BuW w21 a a2 p0 n0 c0) := HBW.out.below hb; have HNB0 : Hid (BIn w21 (some ⟨nb0, 0, none⟩) nCmp) := HNB0.out.below hb
   have HV7 : Hid (TmIn w21 q7 m7 c7 [(0, (m6 : Int), [])]) := HV7.out.below hb; obtain ⟨gRa, oRa, rfl, hR9⟩ := hcp (by simp); obtain ⟨qRa, cRa, hR0, hR1, hR2, hR3⟩ := hR9 0 (by simp); have ekR : 1 = (([(2, 0, sgnN y1)] : List Cel)).length := rfl
   have hR0' : w21.cell? ⟨gRa, oRa, none⟩ = some (.slice qRa 1 cRa) := by rw [ekR]; exact hR0
   have hR2' : 1 ≤ cRa := by rw [ekR]; exact hR2
   have HRa : Hid (w21.cell? ⟨gRa, oRa, none⟩ = some (.slice qRa 1 cRa) ∧ TmC w21 qRa 1 cRa (([(2, 0, sgnN y1)] : List Cel))) := ⟨hR0', ekR, hR1, hR2', hR3⟩
   clear hL hR hR9 hR0 hR1 hR2 hR3 hR0' hR2' hb hcp ekR
   obtain ⟨wx0, ex0⟩ : ∃ wx0, wx0 = w21.alloc (.cells #[.slice plw21 1 clw21, .slice (some ⟨gRa, oRa, none⟩) 1 crw21, .slice none 0 0, .slice none 0 0] 40) := ⟨_, rfl⟩
   obtain ⟨xb0, exb0⟩ : ∃ xb0, xb0 = w21.heap.size := ⟨_, rfl⟩
   have hb : Below w21.heap.size w21 wx0 := by rw [ex0]; exact (Below.refl _ _).alloc (Nat.le_refl _) _
   have HXB0 : Hid (wx0.heap[xb0]? = some (.cells #[.slice plw21 1 clw21, .slice (some ⟨gRa, oRa, none⟩) 1 crw21, .slice none 0 0, .slice none 0 0] 40)) := by rw [ex0, exb0]; exact heap_alloc_new _ _
   have HB : Hid (Below w.heap.size w wx0) := Below.on HB.out hb; have Hpa : Hid (TmC wx0 (some ⟨gpa, 0, none⟩) n1 kpa (itC ta)) := Hpa.out.below hb; have Hpb : Hid (TmC wx0 (some ⟨gpb, 0, none⟩) n2 kpb (itC tb)) := Hpb.out.below hb; have Hpc : Hid (TmC wx0 (some ⟨gpc, 0, none⟩) n3 kpc (itC tc)) := Hpc.out.below hb; have HSG : Hid (wx0.cell? ⟨sb0, yi, none⟩ = some (.string (strOfNums (sgnN y1)))) := (hb.cell (World.block_lt_of_cell? _ _ HSG.out)).trans HSG.out; have HBW : Hid (BuW wx0 a a2 p0 n0 c0) := HBW.out.below hb
   have HRa : Hid (wx0.cell? ⟨gRa, oRa, none⟩ = some (.slice qRa 1 cRa) ∧ TmC wx0 qRa 1 cRa (([(2, 0, sgnN y1)] : List Cel))) := ⟨(hb.cell (World.block_lt_of_cell? _ _ HRa.out.1)).trans HRa.out.1, HRa.out.2.below hb⟩
   clear hb; go_wp2_with fail; rw [← ex0, ← exb0]; clear ex0 exb0 HBC; have hX1 : wx0.cell? ⟨xb0, 1, none⟩ = some (.slice (some ⟨gRa, oRa, none⟩) 1 crw21) := cell_of_row _ _ 1 _ _ _ HXB0.out
   have KS : Hid (∀ W, Below wx0.heap.size wx0 W → W.cell? ⟨xb0, 1, none⟩ = some (.slice (some ⟨gRa, oRa, none⟩) 1 crw21) ∧ W.cell? ⟨gRa, oRa, none⟩ = some (.slice qRa 1 cRa) ∧ W.cell? ⟨sb0, yi, none⟩ = some (.string (strOfNums (sgnN y1)))) := fun W hW =>
    ⟨(hW.cell (World.block_lt_of_cell? _ _ hX1)).trans hX1, (hW.cell (World.block_lt_of_cell? _ _ HRa.out.1)).trans HRa.out.1, (hW.cell (World.block_lt_of_cell? _ _ HSG.out)).trans HSG.out⟩
   have hS := KS.out wx0 (Below.refl _ _)
   have HAT : Hid (∀ W, Calls Tryz.prog 15 #[.string (strOfNums (sgnN y1))] W fun e w' => ∃ p, e = .returned (.slice p 1 1) ∧ OwnC w' W.heap.size p 1 1 [(2, 0, sgnN y1)] ∧ Below W.heap.size W w') := fun W => atomL_any _ (sgnN_len y1).2 W
   have HSM : Hid (∀ W p, Below wx0.heap.size wx0 W → TmC W p 1 1 [(2, 0, sgnN y1)] → Calls Tryz.prog 8 #[.slice qRa 1 cRa, .slice p 1 1] W fun e w' => e = .returned (.bool true) ∧ Below W.heap.size W w') := fun W p hW hp => by
    have h := sameV_any (by have := (sgnN_len y1).1; simp [tl]; omega) (by have := (sgnN_len y1).1; simp [tl]; omega) (HRa.out.2.below hW) hp
    simpa using h
   have i1 : (0 : Int) ≤ (yi : Int) := by omega
   have i2 : (yi : Int) < 3 := by omega
   have i3 : (yi : Int).toNat = yi := by omega
   have i4 : IntKind.i64.wrap (yi : Int) = (yi : Int) := by rw [IntKind.wrap_i64]; omega
   have i5 : (0 : Int) ≤ y1 + 1 := by omega
   have i6 : y1 + 1 < 3 := by omega
   have i7 : (y1 + 1).toNat = yi := by omega
   have tok0 : True := trivial; have tok1 : True := trivial; clear hX1
   go_region_held3 (fun W => W.cell? ⟨xb0, 1, none⟩ = some (.slice (some ⟨gRa, oRa, none⟩) 1 crw21) ∧ W.cell? ⟨gRa, oRa, none⟩ = some (.slice qRa 1 cRa) ∧ W.cell? ⟨sb0, yi, none⟩ = some (.string (strOfNums (sgnN y1)))) (first | exact kk2 | exact kk | exact hS | go_keep)
    (first
      | (have _t := tok0; go_at_call 15; refine Calls.mono (HAT.out _) ?_; rintro e w22 ⟨pA, rfl, hoa, hba⟩; have HB22 : Hid (Below wx0.heap.size wx0 w22) := Below.on (Below.refl _ _).drew hba; have kk := KS.out w22 HB22.out; have HPA : Hid (TmC w22 pA 1 1 [(2, 0, sgnN y1)]) := hoa.tmc; clear hoa hba tok0)
      | (have _t := tok1; go_at_call 8; refine Calls.mono (HSM.out _ _ HB22.out HPA.out) ?_; rintro e w23 ⟨rfl, hb23⟩; have HB23 : Hid (Below wx0.heap.size wx0 w23) := Below.on HB22.out hb23; have kk2 := KS.out w23 HB23.out; clear hb23 tok1))
   rename_i hheld
   clear hheld kk kk2 hS; have hb := HB23.out; have HB : Hid (Below w.heap.size w w23) := Below.on HB.out hb; have Hpa : Hid (TmC w23 (some ⟨gpa, 0, none⟩) n1 kpa (itC ta)) := Hpa.out.below hb; have Hpb : Hid (TmC w23 (some ⟨gpb, 0, none⟩) n2 kpb (itC tb)) := Hpb.out.below hb; have Hpc : Hid (TmC w23 (some ⟨gpc, 0, none⟩) n3 kpc (itC tc)) := Hpc.out.below hb; have HSG : Hid (w23.cell? ⟨sb0, yi, none⟩ = some (.string (strOfNums (sgnN y1)))) := (hb.cell (World.block_lt_of_cell? _ _ HSG.out)).trans HSG.out; have HBW : Hid (BuW w23 a a2 p0 n0 c0) := HBW.out.below hb
   have HRa : Hid (w23.cell? ⟨gRa, oRa, none⟩ = some (.slice qRa 1 cRa) ∧ TmC w23 qRa 1 cRa (([(2, 0, sgnN y1)] : List Cel))) := ⟨(hb.cell (World.block_lt_of_cell? _ _ HRa.out.1)).trans HRa.out.1, HRa.out.2.below hb⟩
   have HXB0 : Hid (w23.heap[xb0]? = some (.cells #[.slice plw21 1 clw21, .slice (some ⟨gRa, oRa, none⟩) 1 crw21, .slice none 0 0, .slice none 0 0] 40)) := (hb.block _ (Array.getElem?_eq_some_iff.1 HXB0.out).1).trans HXB0.out; clear hb HB22 HB23 HPA HAT HSM KS; go_wp2_with fail
   obtain ⟨wr2, er⟩ : ∃ wr2, wr2 = w23.alloc (.cells #[.slice (some ⟨gpa, 0, none⟩) n1 kpa, .slice (some ⟨gpb, 0, none⟩) n2 kpb, .slice (some ⟨gpc, 0, none⟩) n3 kpc, .slice (some ⟨gpa, 0, none⟩) n1 kpa] 23) := ⟨_, rfl⟩
   obtain ⟨rb2, erb⟩ : ∃ rb2, rb2 = w23.heap.size := ⟨_, rfl⟩
   have hb : Below w23.heap.size w23 wr2 := by rw [er]; exact (Below.refl _ _).alloc (Nat.le_refl _) _
   have HRW2 : Hid (wr2.heap[rb2]? = some (.cells #[.slice (some ⟨gpa, 0, none⟩) n1 kpa, .slice (some ⟨gpb, 0, none⟩) n2 kpb, .slice (some ⟨gpc, 0, none⟩) n3 kpc, .slice (some ⟨gpa, 0, none⟩) n1 kpa] 23)) := by rw [er, erb]; exact heap_alloc_new _ _
   have HB : Hid (Below w.heap.size w wr2) := Below.on HB.out hb; have Hpa : Hid (TmC wr2 (some ⟨gpa, 0, none⟩) n1 kpa (itC ta)) := Hpa.out.below hb; have Hpb : Hid (TmC wr2 (some ⟨gpb, 0, none⟩) n2 kpb (itC tb)) := Hpb.out.below hb; have Hpc : Hid (TmC wr2 (some ⟨gpc, 0, none⟩) n3 kpc (itC tc)) := Hpc.out.below hb; have HBW : Hid (BuW wr2 a a2 p0 n0 c0) := HBW.out.below hb; rw [← er, ← erb]; clear er erb hb; refine (HMK.out wr2 rb2 (cap4 HRW2.out Hpa.out Hpb.out Hpc.out)).mono ?_; rintro e w24 ⟨q8, m8, c8, rfl, h8, hb⟩; have HB : Hid (Below w.heap.size w w24) := Below.on HB.out hb; have Hpa : Hid (TmC w24 (some ⟨gpa, 0, none⟩) n1 kpa (itC ta)) := Hpa.out.below hb; have Hpb : Hid (TmC w24 (some ⟨gpb, 0, none⟩) n2 kpb (itC tb)) := Hpb.out.below hb; have Hpc : Hid (TmC w24 (some ⟨gpc, 0, none⟩) n3 kpc (itC tc)) := Hpc.out.below hb; have HBW : Hid (BuW w24 a a2 p0 n0 c0) := HBW.out.below hb
   have HLI : Hid (TmC w24 q8 m8 c8 LA.cs) := h8; clear hb h8; have hcv := Lib.run_convert_bytes_const (P := Tryz.prog) w24 22 5 #[.int .u8 109, .int .u8 115, .int .u8 111, .int .u8 114, .int .u8 116] 5 5 Tryz.underlying22 Tryz.underlying5; go_wp2_with fail
   obtain ⟨wn1, en⟩ : ∃ wn1, wn1 = w24.alloc (.cells #[.int .u8 109, .int .u8 115, .int .u8 111, .int .u8 114, .int .u8 116] 5 (5, 6)) := ⟨_, rfl⟩
   obtain ⟨nb1, enb⟩ : ∃ nb1, nb1 = w24.heap.size := ⟨_, rfl⟩
   have hb : Below w24.heap.size w24 wn1 := by rw [en]; exact (Below.refl _ _).alloc (Nat.le_refl _) _
   have HNB1 : Hid (BIn wn1 (some ⟨nb1, 0, none⟩) nMs) := by rw [en, enb]; exact bin_lit w24 nMs #[.int .u8 109, .int .u8 115, .int .u8 111, .int .u8 114, .int .u8 116] _ rfl
   have HB : Hid (Below w.heap.size w wn1) := Below.on HB.out hb; have Hpa : Hid (TmC wn1 (some ⟨gpa, 0, none⟩) n1 kpa (itC ta)) := Hpa.out.below hb; have Hpb : Hid (TmC wn1 (some ⟨gpb, 0, none⟩) n2 kpb (itC tb)) := Hpb.out.below hb; have Hpc : Hid (TmC wn1 (some ⟨gpc, 0, none⟩) n3 kpc (itC tc)) := Hpc.out.below hb; have HBW : Hid (BuW wn1 a a2 p0 n0 c0) := HBW.out.below hb; have HLI : Hid (TmC wn1 q8 m8 c8 LA.cs) := HLI.out.below hb; rw [← en, ← enb]; clear en enb hb hcv; refine (variable_any (m6 : Int) wn1).mono ?_; rintro e w25 ⟨q9, m9, c9, rfl, h9, hb⟩; have HB : Hid (Below w.heap.size w w25) := Below.on HB.out hb; have Hpa : Hid (TmC w25 (some ⟨gpa, 0, none⟩) n1 kpa (itC ta)) := Hpa.out.below hb; have Hpb : Hid (TmC w25 (some ⟨gpb, 0, none⟩) n2 kpb (itC tb)) := Hpb.out.below hb; have Hpc : Hid (TmC w25 (some ⟨gpc, 0, none⟩) n3 kpc (itC tc)) := Hpc.out.below hb; have HBW : Hid (BuW w25 a a2 p0 n0 c0) := HBW.out.below hb
   have HLI : Hid (TmC w25 q8 m8 c8 LA.cs) := HLI.out.below hb; have HNB1 : Hid (BIn w25 (some ⟨nb1, 0, none⟩) nMs) := HNB1.out.below hb; have HV9 : Hid (TmIn w25 q9 m9 c9 [(0, (m6 : Int), [])]) := h9; clear hb h9; go_wp2_with fail
   obtain ⟨wr3, er⟩ : ∃ wr3, wr3 = w25.alloc (.cells #[.slice q8 m8 c8, .slice q9 m9 c9] 23) := ⟨_, rfl⟩
   obtain ⟨rb3, erb⟩ : ∃ rb3, rb3 = w25.heap.size := ⟨_, rfl⟩
   have hb : Below w25.heap.size w25 wr3 := by rw [er]; exact (Below.refl _ _).alloc (Nat.le_refl _) _
   have HRW3 : Hid (wr3.heap[rb3]? = some (.cells #[.slice q8 m8 c8, .slice q9 m9 c9] 23)) := by rw [er, erb]; exact heap_alloc_new _ _
   have HB : Hid (Below w.heap.size w wr3) := Below.on HB.out hb; have Hpa : Hid (TmC wr3 (some ⟨gpa, 0, none⟩) n1 kpa (itC ta)) := Hpa.out.below hb; have Hpb : Hid (TmC wr3 (some ⟨gpb, 0, none⟩) n2 kpb (itC tb)) := Hpb.out.below hb; have Hpc : Hid (TmC wr3 (some ⟨gpc, 0, none⟩) n3 kpc (itC tc)) := Hpc.out.below hb; have HBW : Hid (BuW wr3 a a2 p0 n0 c0) := HBW.out.below hb; have HLI : Hid (TmC wr3 q8 m8 c8 LA.cs) := HLI.out.below hb; have HNB1 : Hid (BIn wr3 (some ⟨nb1, 0, none⟩) nMs) := HNB1.out.below hb; have HV9 : Hid (TmIn wr3 q9 m9 c9 [(0, (m6 : Int), [])]) := HV9.out.below hb; rw [← er, ← erb]; clear er erb hb; have hvt : smallT (vrT (m6 : Int)) := vrT_small (by omega) (by omega); have HBM := bu_ms HBW.out (some ⟨nb1, 0, none⟩) 5 (some ⟨rb3, 0, none⟩) 2 (m6 : Int) ((m6 : Int) + 1) LA [ta, tb, tc, ta] (by omega) (by omega) (by omega) (by omega) (mkAB HNB1.out HRW3.out HLI.out HV9.out.tmc HLA.out.ok hvt.1 HLA.out.val (tr_valid (t := vrT (m6 : Int)) hvt.1 (by simp [itC, vrT, Fo.cells]))) HLA.out.len HLA.out.spl (by simp) (by simp) HLA.out.its HLA.out.oks (fun its' h => (HLA.out.prm its' h).1)
   clear hvt; refine HBM.mono ?_; rintro e w26 ⟨ia, hia, hh⟩; obtain ⟨plw26, clw26, prw26, crw26, he, hL, hR, hb, hcp⟩ := hh; have he' : e = .returned (.tuple #[.agg #[.slice plw26 1 clw26, .slice prw26 1 crw26, .slice none 0 0, .slice none 0 0], .int .i64 0]) := he; clear he; subst he'; have HB : Hid (Below w.heap.size w w26) := Below.on HB.out hb; have Hpa : Hid (TmC w26 (some ⟨gpa, 0, none⟩) n1 kpa (itC ta)) := Hpa.out.below hb; have Hpb : Hid (TmC w26 (some ⟨gpb, 0, none⟩) n2 kpb (itC tb)) := Hpb.out.below hb; have Hpc : Hid (TmC w26 (some ⟨gpc, 0, none⟩) n3 kpc (itC tc)) := Hpc.out.below hb; have HBW : Hid (BuW w26 a a2 p0 n0 c0) := HBW.out.below hb; have HLI : Hid (TmC w26 q8 m8 c8 LA.cs) := HLI.out.below hb; have HNB1 : Hid (BIn w26 (some ⟨nb1, 0, none⟩) nMs) := HNB1.out.below hb; have HV9 : Hid (TmIn w26 q9 m9 c9 [(0, (m6 : Int), [])]) := HV9.out.below hb; obtain ⟨gRb, oRb, rfl, hR9⟩ := hcp (by simp)
   obtain ⟨qRb, cRb, hR0, hR1, hR2, hR3⟩ := hR9 0 (by simp)
   obtain ⟨kRb, ekR⟩ : ∃ k, k = ((listT ia).cells).length := ⟨_, rfl⟩
   have hR0' : w26.cell? ⟨gRb, oRb, none⟩ = some (.slice qRb kRb cRb) := by rw [ekR]; exact hR0
   have hR2' : kRb ≤ cRb := by rw [ekR]; exact hR2
   have HRb : Hid (w26.cell? ⟨gRb, oRb, none⟩ = some (.slice qRb kRb cRb) ∧ TmC w26 qRb kRb cRb ((listT ia).cells)) := ⟨hR0', ekR, hR1, hR2', hR3⟩
   clear hL hR hR9 hR0 hR1 hR2 hR3 hR0' hR2' hb hcp ekR; have HSA : Hid (Srt ta tb tc ia) := srt_of HT.out.oka HT.out.okb HT.out.okc hia HT.out.four; have HSAP : Hid (ia.Perm [ta, tb, tc, ta]) := hia.1; clear hia HBM
   obtain ⟨wx1, ex1⟩ : ∃ wx1, wx1 = w26.alloc (.cells #[.slice plw26 1 clw26, .slice (some ⟨gRb, oRb, none⟩) 1 crw26, .slice none 0 0, .slice none 0 0] 40) := ⟨_, rfl⟩
   obtain ⟨xb1, exb1⟩ : ∃ xb1, xb1 = w26.heap.size := ⟨_, rfl⟩
   have hb : Below w26.heap.size w26 wx1 := by rw [ex1]; exact (Below.refl _ _).alloc (Nat.le_refl _) _
   have HXB1 : Hid (wx1.heap[xb1]? = some (.cells #[.slice plw26 1 clw26, .slice (some ⟨gRb, oRb, none⟩) 1 crw26, .slice none 0 0, .slice none 0 0] 40)) := by rw [ex1, exb1]; exact heap_alloc_new _ _
   have HB : Hid (Below w.heap.size w wx1) := Below.on HB.out hb; have Hpa : Hid (TmC wx1 (some ⟨gpa, 0, none⟩) n1 kpa (itC ta)) := Hpa.out.below hb; have Hpb : Hid (TmC wx1 (some ⟨gpb, 0, none⟩) n2 kpb (itC tb)) := Hpb.out.below hb; have Hpc : Hid (TmC wx1 (some ⟨gpc, 0, none⟩) n3 kpc (itC tc)) := Hpc.out.below hb; have HBW : Hid (BuW wx1 a a2 p0 n0 c0) := HBW.out.below hb; have HLI : Hid (TmC wx1 q8 m8 c8 LA.cs) := HLI.out.below hb
   have HRb : Hid (wx1.cell? ⟨gRb, oRb, none⟩ = some (.slice qRb kRb cRb) ∧ TmC wx1 qRb kRb cRb ((listT ia).cells)) := ⟨(hb.cell (World.block_lt_of_cell? _ _ HRb.out.1)).trans HRb.out.1, HRb.out.2.below hb⟩
   clear hb; have hcv := Lib.run_convert_bytes_const (P := Tryz.prog) (w26.alloc (.cells #[.slice plw26 1 clw26, .slice (some ⟨gRb, oRb, none⟩) 1 crw26, .slice none 0 0, .slice none 0 0] 40)) 22 5 #[.int .u8 115, .int .u8 111, .int .u8 114, .int .u8 116] 4 4 Tryz.underlying22 Tryz.underlying5; rw [show (w26.alloc (.cells #[.slice plw26 1 clw26, .slice (some ⟨gRb, oRb, none⟩) 1 crw26, .slice none 0 0, .slice none 0 0] 40)).heap.size = w26.heap.size + 1 from by simp] at hcv; go_wp2_with fail; rw [← ex1, ← exb1]
   obtain ⟨nb2, enb⟩ : ∃ nb, nb = xb1 + 1 := ⟨_, rfl⟩
   have hsz : wx1.heap.size = nb2 := by rw [ex1, enb, exb1]; simp
   clear hcv ex1 exb1
   obtain ⟨wn2, en⟩ : ∃ wn2, wn2 = wx1.alloc (.cells #[.int .u8 115, .int .u8 111, .int .u8 114, .int .u8 116] 5 (4, 5)) := ⟨_, rfl⟩
   have hb : Below wx1.heap.size wx1 wn2 := by rw [en]; exact (Below.refl _ _).alloc (Nat.le_refl _) _
   have HNB2 : Hid (BIn wn2 (some ⟨nb2, 0, none⟩) nSt) := by rw [en, ← hsz]; exact bin_lit wx1 nSt #[.int .u8 115, .int .u8 111, .int .u8 114, .int .u8 116] _ rfl
   have HB : Hid (Below w.heap.size w wn2) := Below.on HB.out hb; have Hpa : Hid (TmC wn2 (some ⟨gpa, 0, none⟩) n1 kpa (itC ta)) := Hpa.out.below hb; have Hpb : Hid (TmC wn2 (some ⟨gpb, 0, none⟩) n2 kpb (itC tb)) := Hpb.out.below hb; have Hpc : Hid (TmC wn2 (some ⟨gpc, 0, none⟩) n3 kpc (itC tc)) := Hpc.out.below hb; have HBW : Hid (BuW wn2 a a2 p0 n0 c0) := HBW.out.below hb; have HLI : Hid (TmC wn2 q8 m8 c8 LA.cs) := HLI.out.below hb
   have HRb : Hid (wn2.cell? ⟨gRb, oRb, none⟩ = some (.slice qRb kRb cRb) ∧ TmC wn2 qRb kRb cRb ((listT ia).cells)) := ⟨(hb.cell (World.block_lt_of_cell? _ _ HRb.out.1)).trans HRb.out.1, HRb.out.2.below hb⟩
   have HXB1 : Hid (wn2.heap[xb1]? = some (.cells #[.slice plw26 1 clw26, .slice (some ⟨gRb, oRb, none⟩) 1 crw26, .slice none 0 0, .slice none 0 0] 40)) := (hb.block _ (Array.getElem?_eq_some_iff.1 HXB1.out).1).trans HXB1.out; rw [← en, ← enb]; clear en enb hb hsz; refine (variable_any (m6 : Int) wn2).mono ?_; rintro e w27 ⟨q10, m10, c10, rfl, h10, hb⟩; have HB : Hid (Below w.heap.size w w27) := Below.on HB.out hb; have Hpa : Hid (TmC w27 (some ⟨gpa, 0, none⟩) n1 kpa (itC ta)) := Hpa.out.below hb; have Hpb : Hid (TmC w27 (some ⟨gpb, 0, none⟩) n2 kpb (itC tb)) := Hpb.out.below hb; have Hpc : Hid (TmC w27 (some ⟨gpc, 0, none⟩) n3 kpc (itC tc)) := Hpc.out.below hb; have HBW : Hid (BuW w27 a a2 p0 n0 c0) := HBW.out.below hb; have HLI : Hid (TmC w27 q8 m8 c8 LA.cs) := HLI.out.below hb
   have HRb : Hid (w27.cell? ⟨gRb, oRb, none⟩ = some (.slice qRb kRb cRb) ∧ TmC w27 qRb kRb cRb ((listT ia).cells)) := ⟨(hb.cell (World.block_lt_of_cell? _ _ HRb.out.1)).trans HRb.out.1, HRb.out.2.below hb⟩
   have HXB1 : Hid (w27.heap[xb1]? = some (.cells #[.slice plw26 1 clw26, .slice (some ⟨gRb, oRb, none⟩) 1 crw26, .slice none 0 0, .slice none 0 0] 40)) := (hb.block _ (Array.getElem?_eq_some_iff.1 HXB1.out).1).trans HXB1.out; have HNB2 : Hid (BIn w27 (some ⟨nb2, 0, none⟩) nSt) := HNB2.out.below hb; have HV10 : Hid (TmIn w27 q10 m10 c10 [(0, (m6 : Int), [])]) := h10; clear hb h10; go_wp2_with fail
   obtain ⟨wr4, er⟩ : ∃ wr4, wr4 = w27.alloc (.cells #[.slice q8 m8 c8, .slice q10 m10 c10] 23) := ⟨_, rfl⟩
   obtain ⟨rb4, erb⟩ : ∃ rb4, rb4 = w27.heap.size := ⟨_, rfl⟩
   have hb : Below w27.heap.size w27 wr4 := by rw [er]; exact (Below.refl _ _).alloc (Nat.le_refl _) _
   have HRW4 : Hid (wr4.heap[rb4]? = some (.cells #[.slice q8 m8 c8, .slice q10 m10 c10] 23)) := by rw [er, erb]; exact heap_alloc_new _ _
   have HB : Hid (Below w.heap.size w wr4) := Below.on HB.out hb; have Hpa : Hid (TmC wr4 (some ⟨gpa, 0, none⟩) n1 kpa (itC ta)) := Hpa.out.below hb; have Hpb : Hid (TmC wr4 (some ⟨gpb, 0, none⟩) n2 kpb (itC tb)) := Hpb.out.below hb; have Hpc : Hid (TmC wr4 (some ⟨gpc, 0, none⟩) n3 kpc (itC tc)) := Hpc.out.below hb; have HBW : Hid (BuW wr4 a a2 p0 n0 c0) := HBW.out.below hb; have HLI : Hid (TmC wr4 q8 m8 c8 LA.cs) := HLI.out.below hb
   have HRb : Hid (wr4.cell? ⟨gRb, oRb, none⟩ = some (.slice qRb kRb cRb) ∧ TmC wr4 qRb kRb cRb ((listT ia).cells)) := ⟨(hb.cell (World.block_lt_of_cell? _ _ HRb.out.1)).trans HRb.out.1, HRb.out.2.below hb⟩
   have HXB1 : Hid (wr4.heap[xb1]? = some (.cells #[.slice plw26 1 clw26, .slice (some ⟨gRb, oRb, none⟩) 1 crw26, .slice none 0 0, .slice none 0 0] 40)) := (hb.block _ (Array.getElem?_eq_some_iff.1 HXB1.out).1).trans HXB1.out; have HNB2 : Hid (BIn wr4 (some ⟨nb2, 0, none⟩) nSt) := HNB2.out.below hb; have HV10 : Hid (TmIn wr4 q10 m10 c10 [(0, (m6 : Int), [])]) := HV10.out.below hb; rw [← er, ← erb]; clear er erb hb; have hvt : smallT (vrT (m6 : Int)) := vrT_small (by omega) (by omega); have HBM := bu_st HBW.out (some ⟨nb2, 0, none⟩) 4 (some ⟨rb4, 0, none⟩) 2 (m6 : Int) ((m6 : Int) + 1) LA [ta, tb, tc, ta] (by omega) (by omega) (by omega) (by omega) (mkAB HNB2.out HRW4.out HLI.out HV10.out.tmc HLA.out.ok hvt.1 HLA.out.val (tr_valid (t := vrT (m6 : Int)) hvt.1 (by simp [itC, vrT, Fo.cells]))) HLA.out.len HLA.out.spl (by simp) (by simp) HLA.out.its HLA.out.oks (fun its' h => (HLA.out.prm its' h).2)
   clear hvt; refine HBM.mono ?_; rintro e w28 ⟨ib, hib, hh⟩; obtain ⟨plw28, clw28, prw28, crw28, he, hL, hR, hb, hcp⟩ := hh; have he' : e = .returned (.tuple #[.agg #[.slice plw28 1 clw28, .slice prw28 1 crw28, .slice none 0 0, .slice none 0 0], .int .i64 0]) := he; clear he; subst he'; have HB : Hid (Below w.heap.size w w28) := Below.on HB.out hb; have Hpa : Hid (TmC w28 (some ⟨gpa, 0, none⟩) n1 kpa (itC ta)) := Hpa.out.below hb; have Hpb : Hid (TmC w28 (some ⟨gpb, 0, none⟩) n2 kpb (itC tb)) := Hpb.out.below hb; have Hpc : Hid (TmC w28 (some ⟨gpc, 0, none⟩) n3 kpc (itC tc)) := Hpc.out.below hb; have HBW : Hid (BuW w28 a a2 p0 n0 c0) := HBW.out.below hb; have HLI : Hid (TmC w28 q8 m8 c8 LA.cs) := HLI.out.below hb
   have HRb : Hid (w28.cell? ⟨gRb, oRb, none⟩ = some (.slice qRb kRb cRb) ∧ TmC w28 qRb kRb cRb ((listT ia).cells)) := ⟨(hb.cell (World.block_lt_of_cell? _ _ HRb.out.1)).trans HRb.out.1, HRb.out.2.below hb⟩
   have HXB1 : Hid (w28.heap[xb1]? = some (.cells #[.slice plw26 1 clw26, .slice (some ⟨gRb, oRb, none⟩) 1 crw26, .slice none 0 0, .slice none 0 0] 40)) := (hb.block _ (Array.getElem?_eq_some_iff.1 HXB1.out).1).trans HXB1.out; have HNB2 : Hid (BIn w28 (some ⟨nb2, 0, none⟩) nSt) := HNB2.out.below hb; have HV10 : Hid (TmIn w28 q10 m10 c10 [(0, (m6 : Int), [])]) := HV10.out.below hb; obtain ⟨gRc, oRc, rfl, hR9⟩ := hcp (by simp); obtain ⟨qRc, cRc, hR0, hR1, hR2, hR3⟩ := hR9 0 (by simp)
   obtain ⟨kRc, ekR⟩ : ∃ k, k = ((listT (compB fI ib)).cells).length := ⟨_, rfl⟩
   have hR0' : w28.cell? ⟨gRc, oRc, none⟩ = some (.slice qRc kRc cRc) := by rw [ekR]; exact hR0
   have hR2' : kRc ≤ cRc := by rw [ekR]; exact hR2
   have HRc : Hid (w28.cell? ⟨gRc, oRc, none⟩ = some (.slice qRc kRc cRc) ∧ TmC w28 qRc kRc cRc ((listT (compB fI ib)).cells)) := ⟨hR0', ekR, hR1, hR2', hR3⟩
   clear hL hR hR9 hR0 hR1 hR2 hR3 hR0' hR2' hb hcp ekR; have HSB : Hid (Srt ta tb tc ib) := srt_of HT.out.oka HT.out.okb HT.out.okc hib HT.out.four; have HSBP : Hid (ib.Perm [ta, tb, tc, ta]) := hib.1; clear hib HBM
   obtain ⟨wx2, ex2⟩ : ∃ wx2, wx2 = w28.alloc (.cells #[.slice plw28 1 clw28, .slice (some ⟨gRc, oRc, none⟩) 1 crw28, .slice none 0 0, .slice none 0 0] 40) := ⟨_, rfl⟩
   obtain ⟨xb2, exb2⟩ : ∃ xb2, xb2 = w28.heap.size := ⟨_, rfl⟩
   have hb : Below w28.heap.size w28 wx2 := by rw [ex2]; exact (Below.refl _ _).alloc (Nat.le_refl _) _
   have HXB2 : Hid (wx2.heap[xb2]? = some (.cells #[.slice plw28 1 clw28, .slice (some ⟨gRc, oRc, none⟩) 1 crw28, .slice none 0 0, .slice none 0 0] 40)) := by rw [ex2, exb2]; exact heap_alloc_new _ _
   have HB : Hid (Below w.heap.size w wx2) := Below.on HB.out hb; have Hpa : Hid (TmC wx2 (some ⟨gpa, 0, none⟩) n1 kpa (itC ta)) := Hpa.out.below hb; have Hpb : Hid (TmC wx2 (some ⟨gpb, 0, none⟩) n2 kpb (itC tb)) := Hpb.out.below hb; have Hpc : Hid (TmC wx2 (some ⟨gpc, 0, none⟩) n3 kpc (itC tc)) := Hpc.out.below hb
   have HRb : Hid (wx2.cell? ⟨gRb, oRb, none⟩ = some (.slice qRb kRb cRb) ∧ TmC wx2 qRb kRb cRb ((listT ia).cells)) := ⟨(hb.cell (World.block_lt_of_cell? _ _ HRb.out.1)).trans HRb.out.1, HRb.out.2.below hb⟩
   have HXB1 : Hid (wx2.heap[xb1]? = some (.cells #[.slice plw26 1 clw26, .slice (some ⟨gRb, oRb, none⟩) 1 crw26, .slice none 0 0, .slice none 0 0] 40)) := (hb.block _ (Array.getElem?_eq_some_iff.1 HXB1.out).1).trans HXB1.out
   have HRc : Hid (wx2.cell? ⟨gRc, oRc, none⟩ = some (.slice qRc kRc cRc) ∧ TmC wx2 qRc kRc cRc ((listT (compB fI ib)).cells)) := ⟨(hb.cell (World.block_lt_of_cell? _ _ HRc.out.1)).trans HRc.out.1, HRc.out.2.below hb⟩
   clear hb; have z0 := cell_of_row _ _ 1 _ _ _ HXB1.out; have z1 := cell_of_row _ _ 1 _ _ _ HXB2.out; have z2 := HRb.out.1; have z3 := HRc.out.1; rw [ex2] at z0 z2 z3; rw [exb2, ex2] at z1; go_wp2_with fail; rw [← ex2, ← exb2]; clear ex2 exb2 z0 z1 z2 z3; have HI1 := itemsT_any ia (fun x hx => HLA.out.oks x (HSAP.out.subset hx)) (HLA.out.prm ia HSAP.out).1 HRb.out.2; rw [HSA.out.len] at HI1; refine (HI1).mono ?_; rintro e w29 ⟨pI, cpI, rfl, hcI, hb⟩; have HB : Hid (Below w.heap.size w w29) := Below.on HB.out hb; have Hpa : Hid (TmC w29 (some ⟨gpa, 0, none⟩) n1 kpa (itC ta)) := Hpa.out.below hb; have Hpb : Hid (TmC w29 (some ⟨gpb, 0, none⟩) n2 kpb (itC tb)) := Hpb.out.below hb; have Hpc : Hid (TmC w29 (some ⟨gpc, 0, none⟩) n3 kpc (itC tc)) := Hpc.out.below hb
   have HRb : Hid (w29.cell? ⟨gRb, oRb, none⟩ = some (.slice qRb kRb cRb) ∧ TmC w29 qRb kRb cRb ((listT ia).cells)) := ⟨(hb.cell (World.block_lt_of_cell? _ _ HRb.out.1)).trans HRb.out.1, HRb.out.2.below hb⟩
   have HXB1 : Hid (w29.heap[xb1]? = some (.cells #[.slice plw26 1 clw26, .slice (some ⟨gRb, oRb, none⟩) 1 crw26, .slice none 0 0, .slice none 0 0] 40)) := (hb.block _ (Array.getElem?_eq_some_iff.1 HXB1.out).1).trans HXB1.out
   have HRc : Hid (w29.cell? ⟨gRc, oRc, none⟩ = some (.slice qRc kRc cRc) ∧ TmC w29 qRc kRc cRc ((listT (compB fI ib)).cells)) := ⟨(hb.cell (World.block_lt_of_cell? _ _ HRc.out.1)).trans HRc.out.1, HRc.out.2.below hb⟩
   have HXB2 : Hid (w29.heap[xb2]? = some (.cells #[.slice plw28 1 clw28, .slice (some ⟨gRc, oRc, none⟩) 1 crw28, .slice none 0 0, .slice none 0 0] 40)) := (hb.block _ (Array.getElem?_eq_some_iff.1 HXB2.out).1).trans HXB2.out; clear hb HI1; obtain ⟨gI, oI, rfl, hrI⟩ := hcI.rowT (n := 4) (by rw [List.length_map, HSA.out.len]) (by decide); have HRI : Hid (RowT w29 gI oI 4 (ia.map itC)) := hrI; clear hcI hrI; have z1 := cell_of_row _ _ 1 _ _ _ HXB2.out; have z3 := HRc.out.1; have HI2 := itemsT_any (compB fI ib) (fun x hx => HLA.out.oks x (HSBP.out.subset ((compB_sub fI ib).subset hx))) (HLA.out.prm ib HSBP.out).2 HRc.out.2
   obtain ⟨k1, ek1⟩ : ∃ k, k = (compB fI ib).length := ⟨_, rfl⟩
   have HK1 : Hid (k1 = (compB fI ib).length) := ek1
   have hk1 : 0 < k1 := by have := HSB.out.pos; omega
   have hk3 : k1 ≤ 3 := by have := HSB.out.few; omega
   rw [← ek1] at HI2
   have hkz : ((k1 : Int) == 0) = false := by rw [beq_eq_false_iff_ne]; omega
   have hk4 : ¬ (3 : Int) < (k1 : Int) := by omega
   clear ek1; go_wp2_with fail; refine (HI2).mono ?_; rintro e w30 ⟨pJ, cpJ, rfl, hcJ, hb⟩; have HB : Hid (Below w.heap.size w w30) := Below.on HB.out hb; have Hpa : Hid (TmC w30 (some ⟨gpa, 0, none⟩) n1 kpa (itC ta)) := Hpa.out.below hb; have Hpb : Hid (TmC w30 (some ⟨gpb, 0, none⟩) n2 kpb (itC tb)) := Hpb.out.below hb; have Hpc : Hid (TmC w30 (some ⟨gpc, 0, none⟩) n3 kpc (itC tc)) := Hpc.out.below hb
   have HRc : Hid (w30.cell? ⟨gRc, oRc, none⟩ = some (.slice qRc kRc cRc) ∧ TmC w30 qRc kRc cRc ((listT (compB fI ib)).cells)) := ⟨(hb.cell (World.block_lt_of_cell? _ _ HRc.out.1)).trans HRc.out.1, HRc.out.2.below hb⟩
   have HXB2 : Hid (w30.heap[xb2]? = some (.cells #[.slice plw28 1 clw28, .slice (some ⟨gRc, oRc, none⟩) 1 crw28, .slice none 0 0, .slice none 0 0] 40)) := (hb.block _ (Array.getElem?_eq_some_iff.1 HXB2.out).1).trans HXB2.out; have HRI : Hid (RowT w30 gI oI 4 (ia.map itC)) := HRI.out.below hb; clear hb HI2; obtain ⟨gJ, oJ, rfl, hrJ⟩ := hcJ.rowT (n := k1) (by rw [List.length_map]; exact HK1.out) hk1; have HRJ : Hid (RowT w30 gJ oJ k1 ((compB fI ib).map itC)) := hrJ; clear hcJ hrJ z1 z3
   go_upto_region 39 with fail
   rename_i hK
   have HK : Hid _ := hK; clear hK; go_wp2_with fail; refine HK.out _ _ ?_; exact tailOr w w30 ta tb tc ia ib gpa n1 kpa gpb n2 kpb gpc n3 kpc gI oI gJ oJ k1 cpI cpJ ⟨HB.out, HT.out.oka, HT.out.okb, HT.out.okc, ⟨HLT.out.1, HLT.out.2.1, HLT.out.2.2.1⟩, HSA.out, HSB.out, Hpa.out, Hpb.out, Hpc.out, HRI.out, HRJ.out, HK1.out⟩ _ _ _ _ _ _ _ _ _ _ _ _ _ _ _ _ _ _ _ _ _ _ _ _ _ _ _ _ _ _ _ _ _ _ _ _ _ _ _ _ _ _ _ _ _ _ _ _ _ _ _ _ _ _ _ _ _ _ _ _ _ _ _ _ _ _ _ _ _ _ _ _ _ _ _ _ _ _ _ _ _ _ _ _ _ _ _ _ _ _ _ _ _ _ _ _ _ _ _ _ _ _ _ _ _ _ _ _ _ _ _ _ _ _ _ _ _ _ _ _ _ _ _ _ _ _ _ _ _ _ _ _ _ _ _ _ _ _ _ _ _ _ _ _ _ _ _ _ _ _ _ _ _ _ _ _ _ _ _ _ _ _ _ _ _ _ _ _ _ _ _ _ _ _ _ _ _ _ _ _ _ _ _ _ _ _ _ _ _ _ _ _ _ _ _ _ _ _ _ _ _ _ _ _ _ _ _ _ _ _ _ _ _ _ _ _ _ _ _ _ _ _ _ _ _ _ _ _ _ _ _ _ _ _ _ _ _ _ _ _ _ _ _ _ _ _ _ _ _ _ _ _ _ _ _ _ _ _ _ _ _ _ _ _ _ _ _ _ _ _ _ _ _ _ _ _ _ _ _ _ _ _ _ _ _ _ _ _ _ _ _ _ _ _ _ _ _ _ _ _ _ _ _ _ _ _ _ _ _ _ _ _ _ _ _ _ _ _ _ _ _ _ _ _ _ _ _ _ _ _ _ _ _ _ _ _ _ _ _ _ _ _ _ _ _ _ _ _ _ _ _ _ _ _ _ _ _ _ _ _ _ _ _ _ _ _ _ _ _ _ _ _ _ _ _ _ _ _ _ _ _ _ _ _ _ _ _ _ _ _ _ _ _ _ _ _ _ _ _ _ _ _ _ _ _ _ _ _ _ _ _ _ _ _ _ _
set_option maxHeartbeats 4000000 in
theorem lawOr_bad (p : Option Addr) (cap n : Nat) (xs : List Int) (w : World) (hx : CodeIn w p cap n xs) (A B C : List Cel) (hA : BdO A) (hB : BdO B) (hC : BdO C) (hD : dcF (xs.take 500) = (A, B)) (hV : dvF (xs.take 500) = C)
  (hbad : validB A = false ∨ (validB A = true ∧ validB B = false) ∨ (validB A = true ∧ validB B = true ∧ validB C = false) ∨ (validB A = true ∧ validB B = true ∧ validB C = true ∧ 900 < A.length + B.length + C.length)) :
  Calls Tryz.prog 3 #[.slice p n cap] w fun e w' => e = .returned (.bool true) ∧ Below w.heap.size w w' := by
 have HDC : Hid (∀ W, Below w.heap.size w W → Calls Tryz.prog 4 #[.slice p n cap] W fun e w' => ∃ p1 n1 c1 p2 n2 c2, e = .returned (.tuple #[.slice p1 n1 c1, .slice p2 n2 c2]) ∧ TmC w' p1 n1 c1 A ∧ TmC w' p2 n2 c2 B ∧ Below W.heap.size W w') := fun W hW => by
  rw [hx.len]
  refine (drawC_any p cap xs W hx.byt hx.small hx.room (hx.bin.below hW)).mono fun e w' h => ?_
  rw [hD] at h; obtain ⟨p1, n1, c1, p2, n2, c2, rfl, ⟨h1, h2, h3, h4⟩, ⟨h5, h6, h7, h8⟩, hb⟩ := h; exact ⟨p1, n1, c1, p2, n2, c2, rfl, ⟨h1, h2, by rw [h1]; exact h3, h4⟩, ⟨h5, h6, by rw [h5]; exact h7, h8⟩, hb⟩
 have HDV : Hid (∀ W, Below w.heap.size w W → Calls Tryz.prog 5 #[.slice p n cap] W fun e w' => ∃ q m c, e = .returned (.slice q m c) ∧ TmC w' q m c C ∧ Below W.heap.size W w') := fun W hW => by
  rw [hx.len]
  refine (drawV_any p cap xs W hx.byt hx.small hx.room (hx.bin.below hW)).mono fun e w' h => ?_
  rw [hV] at h; obtain ⟨q, m, c, rfl, ho, hb⟩ := h; exact ⟨q, m, c, rfl, ho.tmc, hb⟩
 have HVT : Hid (∀ X, X.length ≤ 2001 → ∀ v, validB X = v → ∀ (W : World) (q : Option Addr) (k c : Nat), TmC W q k c X → Calls Tryz.prog 6 #[.slice q k c] W fun e w' => e = .returned (.bool v) ∧ Below W.heap.size W w') := fun X hX v hv W q k c h => by
  have := validV_any (by omega) h
  rwa [hv] at this
 have HL : Hid (A.length ≤ 2001 ∧ B.length ≤ 2001 ∧ C.length ≤ 2001) := ⟨hA.len, hB.len, hC.len⟩
 have d1 : n ≤ 1048576 := by have := hx.len; have := hx.small; omega
 have HBAD : Hid _ := hbad; clear hx hA hB hC hD hV hbad
 go_enter Tryz.func3, Tryz.ntmps3
 go_wp2_with fail; refine (HDC.out w (Below.refl _ _)).mono ?_; rintro e w1 ⟨p1, n1, c1, p2, n2, c2, rfl, h1, h2, hb1⟩; have HB1 : Hid (Below w.heap.size w w1) := hb1; have HA1 : Hid (TmC w1 p1 n1 c1 A) := h1; have HB1' : Hid (TmC w1 p2 n2 c2 B) := h2; clear h1 h2 hb1; go_wp2_with fail; refine (HDV.out w1 HB1.out).mono ?_; rintro e w2 ⟨p3, n3, c3, rfl, h3, hb2⟩; have HB2 : Hid (Below w.heap.size w w2) := Below.on HB1.out hb2; have HA2 : Hid (TmC w2 p1 n1 c1 A) := HA1.out.below hb2; have HBB2 : Hid (TmC w2 p2 n2 c2 B) := HB1'.out.below hb2; have HC2 : Hid (TmC w2 p3 n3 c3 C) := h3; clear h3 hb2
 have l1 : n1 ≤ 2001 := by rw [HA2.out.1]; exact HL.out.1
 have l2 : n2 ≤ 2001 := by rw [HBB2.out.1]; exact HL.out.2.1
 have l3 : n3 ≤ 2001 := by rw [HC2.out.1]; exact HL.out.2.2
 rcases HBAD.out with hv | ⟨hv, hv2⟩ | ⟨hv, hv2, hv3⟩ | ⟨hv, hv2, hv3, hl⟩
 ·have HV1 := HVT.out A HL.out.1 false hv w2 _ _ _ HA2.out
  clear hv HBAD; go_wp2_with fail; refine HV1.mono ?_; rintro e w3 ⟨rfl, hb⟩; have HB3 : Hid (Below w.heap.size w w3) := Below.on HB2.out hb; clear hb HV1; go_wp2_with fail; go_ret; exact ⟨rfl, HB3.out⟩
 ·have HV1 := HVT.out A HL.out.1 true hv w2 _ _ _ HA2.out
  have HVB : Hid (validB B = false) := hv2; clear hv hv2 HBAD; go_wp2_with fail; refine HV1.mono ?_; rintro e w3 ⟨rfl, hb⟩; have HB3 : Hid (Below w.heap.size w w3) := Below.on HB2.out hb; have HV2 := HVT.out B HL.out.2.1 false HVB.out w3 _ _ _ (HBB2.out.below hb); clear hb HV1; go_wp2_with fail; refine HV2.mono ?_; rintro e w4 ⟨rfl, hb⟩; have HB4 : Hid (Below w.heap.size w w4) := Below.on HB3.out hb; clear hb HV2; go_wp2_with fail; go_ret; exact ⟨rfl, HB4.out⟩
 rotate_right
 case' _ =>
  have HV1 := HVT.out A HL.out.1 true hv w2 _ _ _ HA2.out; have HVB : Hid (validB B = true) := hv2; have HVC : Hid (validB C = true) := hv3
  have h9 : 900 < n1 + n2 + n3 := by rw [HA2.out.1, HBB2.out.1, HC2.out.1]; exact hl
  have h9' : (900 : Int) < (n1 : Int) + (n2 : Int) + (n3 : Int) := by omega
  clear hv hv2 hv3 hl HBAD; go_wp2_with fail; refine HV1.mono ?_; rintro e w3 ⟨rfl, hb⟩; have HB3 : Hid (Below w.heap.size w w3) := Below.on HB2.out hb; have HC3 : Hid (TmC w3 p3 n3 c3 C) := HC2.out.below hb; have HV2 := HVT.out B HL.out.2.1 true HVB.out w3 _ _ _ (HBB2.out.below hb); clear hb HV1; go_wp2_with fail; refine HV2.mono ?_; rintro e w4 ⟨rfl, hb⟩; have HB4 : Hid (Below w.heap.size w w4) := Below.on HB3.out hb; have HV3 := HVT.out C HL.out.2.2 true HVC.out w4 _ _ _ (HC3.out.below hb)
 rotate_right
 case' _ =>
  have HV1 := HVT.out A HL.out.1 true hv w2 _ _ _ HA2.out; have HVB : Hid (validB B = true) := hv2; have HVC : Hid (validB C = false) := hv3; clear hv hv2 hv3 HBAD; go_wp2_with fail; refine HV1.mono ?_; rintro e w3 ⟨rfl, hb⟩; have HB3 : Hid (Below w.heap.size w w3) := Below.on HB2.out hb; have HC3 : Hid (TmC w3 p3 n3 c3 C) := HC2.out.below hb; have HV2 := HVT.out B HL.out.2.1 true HVB.out w3 _ _ _ (HBB2.out.below hb); clear hb HV1; go_wp2_with fail; refine HV2.mono ?_; rintro e w4 ⟨rfl, hb⟩; have HB4 : Hid (Below w.heap.size w w4) := Below.on HB3.out hb; have HV3 := HVT.out C HL.out.2.2 false HVC.out w4 _ _ _ (HC3.out.below hb)
 all_goals
  clear hb HV2; go_wp2_with fail; refine HV3.mono ?_; rintro e w5 ⟨rfl, hb⟩; have HB5 : Hid (Below w.heap.size w w5) := Below.on HB4.out hb; clear hb HV3; go_wp2_with fail; go_ret; exact ⟨rfl, HB5.out⟩
set_option maxHeartbeats 4000000 in
theorem lawOr_any (p : Option Addr) (cap n : Nat) (xs : List Int) (a a2 : Addr) (w : World) (hn : n = xs.length) (hb : Bytes xs) (hc : n ≤ cap) (hm : n ≤ 9223372036854775807) (hx : BIn w p xs) (hg : FeW w a a2) :
  Calls Tryz.prog 3 #[.slice p n cap] w fun e w' => e = .returned (.bool true) ∧ Below w.heap.size w w' := by
 by_cases h1 : 1048576 < n
 ·have h1' : (1048576 : Int) < (n : Int) := by omega
  clear hg hx hb hc hn
  go_enter Tryz.func3, Tryz.ntmps3
  go_wp2_with fail; go_ret; exact ⟨rfl, Below.refl _ _⟩
 have HX : CodeIn w p cap n xs := ⟨hb, hn, by omega, by omega, hx⟩
 obtain ⟨bA, bB⟩ := dcF_bd (xs.take 500); have bC : BdO (dvF (xs.take 500)) := (any_bd _ _).o
 cases hvA : validB (dcF (xs.take 500)).1 with
 | false => exact lawOr_bad p cap n xs w HX _ _ _ bA bB bC rfl rfl (.inl hvA)
 | true =>
   cases hvB : validB (dcF (xs.take 500)).2 with
   | false => exact lawOr_bad p cap n xs w HX _ _ _ bA bB bC rfl rfl (.inr (.inl ⟨hvA, hvB⟩))
   | true =>
     cases hvC : validB (dvF (xs.take 500)) with
     | false => exact lawOr_bad p cap n xs w HX _ _ _ bA bB bC rfl rfl (.inr (.inr (.inl ⟨hvA, hvB, hvC⟩)))
     | true =>
       by_cases hl : 900 < (dcF (xs.take 500)).1.length + (dcF (xs.take 500)).2.length + (dvF (xs.take 500)).length
       ·exact lawOr_bad p cap n xs w HX _ _ _ bA bB bC rfl rfl (.inr (.inr (.inr ⟨hvA, hvB, hvC, hl⟩)))
       ·obtain ⟨ca, ka, ea, oa, _⟩ := tree_of (fun i hi => bA.byte.get i hi) hvA
        obtain ⟨cb, kb, eb, ob, _⟩ := tree_of (fun i hi => bB.byte.get i hi) hvB; obtain ⟨cc, kc, ec, oc, _⟩ := tree_of (fun i hi => bC.byte.get i hi) hvC; have hD : dcF (xs.take 500) = (itC (ca, ka), itC (cb, kb)) := Prod.ext ea eb; have hV : dvF (xs.take 500) = itC (cc, kc) := ec
        have hl' : (itC (ca, ka)).length + (itC (cb, kb)).length + (itC (cc, kc)).length ≤ 900 := by
         rw [hD, hV] at hl; simp only at hl
         omega
        obtain ⟨ta, tb, tc, m, hT⟩ := tri_of (sa := (ca, ka)) (sb := (cb, kb)) (sc := (cc, kc)) oa ob oc hl'; exact lawOr_good p cap n xs a a2 w HX hg (ca, ka) (cb, kb) (cc, kc) ta tb tc m hD hV oa ob oc hl' hT
end Go.Proofs.YtdmmchoicngblaaGreatDoor
