/- Texts of GmT. Own work of the verifier. -/
import Derived.Test.YtbnmmcegjlmdmaaGreatDoorUqbj
import Derived.Test.YtbnmmcegjlmdmaaGreatDoorUqbb
import Derived.Test.YtbnmmcegjlmdmaaGreatDoorUqbk
import Derived.Test.YtbnmmcegjlmdmaaGreatDoorUqaf
import Derived.Test.YtbnmmcegjlmdmaaGreatDoorUqam
namespace Go.Proofs.YtbnmmcegjlmdmaaGreatDoor
open Go Go.RowKit
set_option linter.unusedVariables false
set_option linter.unusedSimpArgs false
abbrev cArrow : Cel := (3, 2, [45, 45, 62])
def transT (t : Tr) : List Cel × Int := if t.1 = cArrow then gAns (gCl nilT (kidG t 0) (kidG t 1) (maxV (-1) (itC t) + 1)) else ([], 1)
def transR (cs : List Cel) (r : List Cel × Int) : Prop := if validB cs = true then ∃ t : Tr, cs = itC t ∧ t.fo.ok ∧ cs.length ≤ 2000 ∧ r = transT t else r = ([], 1)
theorem maxV_range : ∀ (cs : List Cel) (m : Int), (∀ c ∈ cs, cellB c.1 c.2.1 c.2.2.length = true) → -1 ≤ m → m ≤ 1000000 → -1 ≤ maxV m cs ∧ maxV m cs ≤ 1000000
  | [], m, _, h0, h1 => ⟨h0, h1⟩
  | c :: r, m, h, h0, h1 => by
    have hc := h c (by simp)
    simp only [cellB, decide_eq_true_eq] at hc
    exact maxV_range r _ (fun x hx => h x (by simp [hx])) (by split <;> omega) (by split <;> omega)
theorem cells_ok : ∀ (F : Fo), F.ok → ∀ c ∈ F.cells, cellB c.1 c.2.1 c.2.2.length = true
  | .nil, _, c, h => by simp [Fo.cells] at h
  | .node a k r, hok, c, h => by
    simp only [Fo.cells, List.mem_cons, List.mem_append] at h
    rcases h with rfl | h | h
    · exact hok.1
    · exact cells_ok k hok.2.2.2.2.1 c h
    · exact cells_ok r hok.2.2.2.2.2 c h
theorem itC_ok {t : Tr} (h : t.fo.ok) : ∀ c ∈ itC t, cellB c.1 c.2.1 c.2.2.length = true := fun c hc => cells_ok t.fo h c (by simpa [Tr.fo, Fo.cells, itC] using hc)
theorem gin_of {t : Tr} (ht : t.fo.ok) (hl : (itC t).length ≤ 2000) (ha : t.1 = cArrow) : GIn (kidG t 0) (kidG t 1) (maxV (-1) (itC t) + 1) ∧ t.2.count = 2 := by
  have hc : t.2.count = 2 := count_of ht (n := 2) ha
  have k0 := kid_ok ht (i := 0) (by omega)
  have k1 := kid_ok ht (i := 1) (by omega)
  have hm := maxV_range (itC t) (-1) (itC_ok ht) (by decide) (by decide)
  have hs : (itC t).length = ((trs t.2).flatMap itC).length + 1 := by rw [trs_cells]; simp [itC]
  rw [two_kid hc] at hs
  simp only [List.flatMap_cons, List.flatMap_nil, List.length_append, List.length_nil] at hs
  exact ⟨⟨k0.1, k1.1, by omega, by omega, by omega⟩, hc⟩
theorem gm_new (w : World) (nx : Int) (h : 0 ≤ nx ∧ nx ≤ 1000001) : GMm (w.alloc (.cells #[.int .i64 nx, .int .i64 0] 40)) w.heap.size (nx, 0) := by
  refine ⟨by simp [World.cell?_alloc_new], by simp [World.cell?_alloc_new], fun o => ?_, ⟨h.1, by show nx ≤ 2000000; omega, by show (0 : Int) ≤ 0; decide, by show (0 : Int) ≤ 10; decide⟩⟩
  have hb := heap_alloc_new w (Obj.cells #[.int .i64 nx, .int .i64 0] 40)
  obtain ⟨W, eW⟩ : ∃ W, W = w.alloc (Obj.cells #[.int .i64 nx, .int .i64 0] 40) := ⟨_, rfl⟩
  rw [← eW] at hb ⊢
  simp [World.frozen?, hb]
theorem gAns_code {x : Tr × GSt} (h : x.2.2 ≠ 0) : gAns x = ([], x.2.2) := by unfold gAns; rw [if_pos h]
set_option maxRecDepth 100000 in
set_option maxHeartbeats 2000000 in
theorem tr_push_var (t : Tr) (p : Option Addr) (n cap : Nat) (w : World) (ht : t.fo.ok) (hl : (itC t).length ≤ 2000) (hti : TI w p n cap t) (hv : validB (itC t) = true) (ha : t.1 = cArrow) (hc : (kidG t 0).1 = cComma) (kk : (kidG (kidG t 0) 0).1.1 = 0) :
    Calls Tryz.prog 5 #[.slice p n cap] w (NbRes w (transT t)) := by
  have hn : n = (itC t).length := by rw [hti.1]; simp [itC]
  have HV : Calls Tryz.prog 12 #[.slice p n cap] w fun e w' => e = .returned (.bool true) ∧ Below w.heap.size w w' := by
    have h8 := specValid_any p cap (itC t) w (by omega) hti.2.2.2
    rw [hv, ← hn] at h8; exact h8
  have HQA : Hid (∀ W, Below w.heap.size w W → Calls Tryz.prog 13 #[.slice p n cap, .string ⟨#[45, 45, 62]⟩, .int .i64 2] W fun e w' => e = .returned (.bool true) ∧ w' = W) := fun W hB => by
    have h8 : Calls Tryz.prog 13 #[.slice p n cap, .string ⟨#[45, 45, 62]⟩, .int .i64 2] W fun e w' => e = .returned (.bool (decide (t.1 = cArrow))) ∧ w' = W := isP_any (hti.below hB) ht.2.1 [45, 45, 62] 2 (by decide)
    rw [show decide (t.1 = cArrow) = true by simpa using ha] at h8; exact h8
  obtain ⟨mx, emx⟩ : ∃ mx, mx = maxV (-1) (itC t) := ⟨_, rfl⟩
  have HMX : Hid (∀ W, Below w.heap.size w W → Calls Tryz.prog 14 #[.slice p n cap] W fun e w' => e = .returned (.int .i64 mx) ∧ w' = W) := fun W hB => by
    rw [hn, emx]; exact maxVar_any (itC t) p cap W (by omega) (itC_ok ht) (hti.2.2.2.below hB)
  obtain ⟨hgi, hcnt⟩ := gin_of ht hl ha
  rw [← emx] at hgi
  have hmr : -1 ≤ mx ∧ mx ≤ 1000000 := by rw [emx]; exact maxV_range (itC t) (-1) (itC_ok ht) (by decide) (by decide)
  have HTR : Hid (transT t = gAns (gCl nilT (kidG t 0) (kidG t 1) (mx + 1))) := by show _ = _; unfold transT; rw [if_pos ha, emx]
  have HAR : Hid (∀ W, Below w.heap.size w W → Calls Tryz.prog 15 #[.slice p n cap] W fun e w' => ∃ q m mc rs, e = .returned (.slice q m mc) ∧ m = (trs t.2).length ∧ w'.ownsRow W.heap.size 24 1 (.slice q m mc) m (rs.map slV) ∧ ArgRowU w rs (trs t.2) ∧ Below W.heap.size W w') := fun W hB => l2argsG_any hti hB (by omega) ht
  obtain ⟨l, el⟩ : ∃ l, l = kidG t 0 := ⟨_, rfl⟩
  obtain ⟨r, er⟩ : ∃ r, r = kidG t 1 := ⟨_, rfl⟩
  rw [← el, ← er] at hgi HTR
  rw [← el] at hc
  rw [← el] at kk
  obtain ⟨k0, k1, k2, _, _⟩ := kid2 hgi.lo hc
  have hcl : l.2.count = 2 := count_of hgi.lo (n := 2) hc
  have HA2 : Hid (∀ (W : World) (u : Option Addr) (nu cu : Nat), TI w u nu cu l → Below w.heap.size w W → Calls Tryz.prog 15 #[.slice u nu cu] W fun e w' => ∃ q m mc rs, e = .returned (.slice q m mc) ∧ m = (trs l.2).length ∧ w'.ownsRow W.heap.size 24 1 (.slice q m mc) m (rs.map slV) ∧ ArgRowU w rs (trs l.2) ∧ Below W.heap.size W w') := fun W u nu cu hT hB => l2argsG_any hT hB (by rw [hT.1]; have := hgi.sz; simp only [itC, List.length_cons] at this; omega) hgi.lo
  obtain ⟨L, eL⟩ : ∃ L, L = kidG l 0 := ⟨_, rfl⟩
  obtain ⟨U, eU⟩ : ∃ U, U = kidG l 1 := ⟨_, rfl⟩
  have hLo : L.fo.ok := by rw [eL]; exact k0
  have hLs : (itC L).length ≤ 1999 := by rw [eL]; have := hgi.sz; omega
  have HQC : Hid (∀ (W : World) (u : Option Addr) (nu cu : Nat), TI w u nu cu l → Below w.heap.size w W → Calls Tryz.prog 13 #[.slice u nu cu, .string ⟨#[44]⟩, .int .i64 2] W fun e w' => e = .returned (.bool true) ∧ w' = W) := fun W u nu cu hT hB => by
    have h8 : Calls Tryz.prog 13 #[.slice u nu cu, .string ⟨#[44]⟩, .int .i64 2] W fun e w' => e = .returned (.bool (decide (l.1 = cComma))) ∧ w' = W := isP_any (hT.below hB) hgi.lo.2.1 [44] 2 (by decide)
    rw [show decide (l.1 = cComma) = true by simpa using hc] at h8; exact h8
  rw [← eL] at kk
  have hbad : (gCl nilT l r (mx + 1)).2.2 = 4 := gCl_bad (by rw [if_pos hc, ← eL]; exact .inl kk)
  have HFI : Hid (∀ W, Below w.heap.size w W → NbRes w (transT t) (.returned (.tuple #[.slice none 0 0, .int .i64 4])) W) := fun W hB => by
    rw [HTR.out, gAns_code (by rw [hbad]; decide), hbad]
    exact ⟨none, 0, 0, rfl, OwnC.nil _ _, hB⟩
  have HEL : Hid (l = kidG t 0) := el
  have HER : Hid (r = kidG t 1) := er
  have HLL : Hid (L = kidG l 0) := eL
  have HLS : Hid ((itC L).length ≤ 1999) := hLs
  have HLU : Hid (U = kidG l 1) := eU
  clear hn hv ha emx el er hl ht hti hgi eL hbad hLo hLs HTR k0 k1 k2 eU
  go_enter Tryz.func5, Tryz.ntmps5
  go_wp2_with fail
  refine HV.mono ?_
  rintro e w1 ⟨rfl, hb1⟩
  have HB1 : Hid (Below w.heap.size w w1) := hb1
  clear hb1 HV
  go_wp2_with fail
  refine (HQA.out w1 HB1.out).mono ?_
  rintro e wq ⟨rfl, ew⟩
  rw [ew]
  clear ew HQA
  go_wp2_with fail
  refine (HMX.out w1 HB1.out).mono ?_
  rintro e wq ⟨rfl, ew⟩
  rw [ew]
  clear ew HMX
  have HGA : Hid (GMm (w1.alloc (.cells #[.int .i64 (mx + 1), .int .i64 0] 40)) w1.heap.size (mx + 1, 0)) := gm_new w1 (mx + 1) (by omega)
  have HBA : Hid (Below w.heap.size w (w1.alloc (.cells #[.int .i64 (mx + 1), .int .i64 0] 40))) := HB1.out.alloc HB1.out.size _
  have HSA : Hid (w1.heap.size < (w1.alloc (.cells #[.int .i64 (mx + 1), .int .i64 0] 40)).heap.size) := by show _ < _; simp
  have HWG : Hid (w.heap.size ≤ w1.heap.size) := HB1.out.size
  go_wp2_with fail
  obtain ⟨W2, eW2⟩ : ∃ W2, W2 = w1.alloc (.cells #[.int .i64 (mx + 1), .int .i64 0] 40) := ⟨_, rfl⟩
  obtain ⟨gb, egb⟩ : ∃ gb, gb = w1.heap.size := ⟨_, rfl⟩
  rw [← eW2, ← egb] at HGA HSA
  rw [← eW2] at HBA
  rw [← egb] at HWG
  rw [← eW2, ← egb]
  clear eW2 egb HB1
  refine (HAR.out W2 HBA.out).mono ?_
  rintro e w3 ⟨q, m, mc, rs, rfl, hm, hrow, harg, hb3⟩
  have hm0 : 0 < m := by rw [hm, trs_len]; omega
  obtain ⟨g, eg, hkid⟩ := args_tk (gb := gb) hrow hm harg HSA.out hm0
  subst eg
  have hm2 : m = 2 := by rw [hm, trs_len]; exact hcnt
  obtain ⟨r0, n0, c0, kc0, kt0⟩ := hkid 0 (by omega)
  obtain ⟨r1, n1, c1, kc1, kt1⟩ := hkid 1 (by omega)
  rw [← HEL.out] at kt0
  rw [← HER.out] at kt1
  have HK1 : Hid (∀ W, w3.grownBy W (some gb) → W.cell? ⟨g, 1, none⟩ = some (.slice r1 n1 c1)) := kc1
  have HT0 : Hid (TI w r0 n0 c0 l) := kt0
  have HT1 : Hid (TI w r1 n1 c1 r) := kt1
  have HG3 : Hid (GMm w3 gb (mx + 1, 0)) := HGA.out.below hb3
  have HB3 : Hid (Below w.heap.size w w3) := Below.on HBA.out hb3
  have HS3 : Hid (gb < w3.heap.size) := Nat.lt_of_lt_of_le HSA.out hb3.size
  have f0 := kc0 w3 (grown_refl _ _)
  clear hkid kc0 kc1 kt0 kt1 hm hrow harg hb3 HAR hm0 HGA HBA HSA hcnt
  subst hm2
  go_wp2_with fail
  refine (HQC.out w3 r0 n0 c0 HT0.out HB3.out).mono ?_
  rintro e wq ⟨rfl, ew⟩
  rw [ew]
  clear ew HQC f0
  go_wp2_with fail
  refine (HA2.out w3 r0 n0 c0 HT0.out HB3.out).mono ?_
  rintro e w4 ⟨q4, m4, mc4, rs4, rfl, hm4, hrow4, harg4, hb4⟩
  have hm40 : 0 < m4 := by rw [hm4, trs_len]; omega
  obtain ⟨g4, eg4, hkid4⟩ := args_tk (gb := gb) hrow4 hm4 harg4 HS3.out hm40
  subst eg4
  have hm42 : m4 = 2 := by rw [hm4, trs_len]; exact hcl
  obtain ⟨s0, x0, y0, kd0, ku0⟩ := hkid4 0 (by omega)
  obtain ⟨s1, x1, y1, kd1, ku1⟩ := hkid4 1 (by omega)
  rw [← HLL.out] at ku0
  rw [← HLU.out] at ku1
  have HU0 : Hid (TI w s0 x0 y0 L) := ku0
  have HU1 : Hid (TI w s1 x1 y1 U) := ku1
  have HG4 : Hid (GMm w4 gb (mx + 1, 0)) := HG3.out.below hb4
  have HB4 : Hid (Below w.heap.size w w4) := Below.on HB3.out hb4
  have HK4 : Hid (w3.grownBy w4 (some gb)) := grownM_below gb hb4
  have f0 := kd0 w4 (grown_refl _ _)
  have f1 := kd1 w4 (grown_refl _ _)
  have HB3W : Hid (∀ W, w3.grownBy W (some gb) → Below w.heap.size w W) := fun W hW => below_in HB3.out hW HWG.out
  clear hkid4 kd0 kd1 ku0 ku1 hm4 hrow4 harg4 hb4 HA2 hm40 HG3 HB3 hcl
  subst hm42
  obtain ⟨bL, oL, qL, cL, epL, d0, d1, d2, d3⟩ := (HU0.out.below HB4.out).head
  have hnL : 0 < x0 := by have := HU0.out.1; omega
  have hnLs : x0 ≤ 2000 := by have h8 := HU0.out.1; have h9 := HLS.out; simp only [itC, List.length_cons] at h9; omega
  rw [kk] at d0
  clear d1 d2 d3 kk
  have HU0' : Hid (TI w (some ⟨bL, oL, none⟩) x0 y0 L) := by rw [← epL]; exact HU0.out
  subst epL
  go_wp2_with fail
  go_ret2
  exact HFI.out _ HB4.out
set_option maxRecDepth 100000 in
set_option maxHeartbeats 2000000 in
theorem tr_push_num (t : Tr) (p : Option Addr) (n cap : Nat) (w : World) (ht : t.fo.ok) (hl : (itC t).length ≤ 2000) (hti : TI w p n cap t) (hv : validB (itC t) = true) (ha : t.1 = cArrow) (hc : (kidG t 0).1 = cComma) (kk : (kidG (kidG t 0) 0).1.1 = 1) :
    Calls Tryz.prog 5 #[.slice p n cap] w (NbRes w (transT t)) := by
  have hn : n = (itC t).length := by rw [hti.1]; simp [itC]
  have HV : Calls Tryz.prog 12 #[.slice p n cap] w fun e w' => e = .returned (.bool true) ∧ Below w.heap.size w w' := by
    have h8 := specValid_any p cap (itC t) w (by omega) hti.2.2.2
    rw [hv, ← hn] at h8; exact h8
  have HQA : Hid (∀ W, Below w.heap.size w W → Calls Tryz.prog 13 #[.slice p n cap, .string ⟨#[45, 45, 62]⟩, .int .i64 2] W fun e w' => e = .returned (.bool true) ∧ w' = W) := fun W hB => by
    have h8 : Calls Tryz.prog 13 #[.slice p n cap, .string ⟨#[45, 45, 62]⟩, .int .i64 2] W fun e w' => e = .returned (.bool (decide (t.1 = cArrow))) ∧ w' = W := isP_any (hti.below hB) ht.2.1 [45, 45, 62] 2 (by decide)
    rw [show decide (t.1 = cArrow) = true by simpa using ha] at h8; exact h8
  obtain ⟨mx, emx⟩ : ∃ mx, mx = maxV (-1) (itC t) := ⟨_, rfl⟩
  have HMX : Hid (∀ W, Below w.heap.size w W → Calls Tryz.prog 14 #[.slice p n cap] W fun e w' => e = .returned (.int .i64 mx) ∧ w' = W) := fun W hB => by
    rw [hn, emx]; exact maxVar_any (itC t) p cap W (by omega) (itC_ok ht) (hti.2.2.2.below hB)
  obtain ⟨hgi, hcnt⟩ := gin_of ht hl ha
  rw [← emx] at hgi
  have hmr : -1 ≤ mx ∧ mx ≤ 1000000 := by rw [emx]; exact maxV_range (itC t) (-1) (itC_ok ht) (by decide) (by decide)
  have HTR : Hid (transT t = gAns (gCl nilT (kidG t 0) (kidG t 1) (mx + 1))) := by show _ = _; unfold transT; rw [if_pos ha, emx]
  have HAR : Hid (∀ W, Below w.heap.size w W → Calls Tryz.prog 15 #[.slice p n cap] W fun e w' => ∃ q m mc rs, e = .returned (.slice q m mc) ∧ m = (trs t.2).length ∧ w'.ownsRow W.heap.size 24 1 (.slice q m mc) m (rs.map slV) ∧ ArgRowU w rs (trs t.2) ∧ Below W.heap.size W w') := fun W hB => l2argsG_any hti hB (by omega) ht
  obtain ⟨l, el⟩ : ∃ l, l = kidG t 0 := ⟨_, rfl⟩
  obtain ⟨r, er⟩ : ∃ r, r = kidG t 1 := ⟨_, rfl⟩
  rw [← el, ← er] at hgi HTR
  rw [← el] at hc
  rw [← el] at kk
  obtain ⟨k0, k1, k2, _, _⟩ := kid2 hgi.lo hc
  have hcl : l.2.count = 2 := count_of hgi.lo (n := 2) hc
  have HA2 : Hid (∀ (W : World) (u : Option Addr) (nu cu : Nat), TI w u nu cu l → Below w.heap.size w W → Calls Tryz.prog 15 #[.slice u nu cu] W fun e w' => ∃ q m mc rs, e = .returned (.slice q m mc) ∧ m = (trs l.2).length ∧ w'.ownsRow W.heap.size 24 1 (.slice q m mc) m (rs.map slV) ∧ ArgRowU w rs (trs l.2) ∧ Below W.heap.size W w') := fun W u nu cu hT hB => l2argsG_any hT hB (by rw [hT.1]; have := hgi.sz; simp only [itC, List.length_cons] at this; omega) hgi.lo
  obtain ⟨L, eL⟩ : ∃ L, L = kidG l 0 := ⟨_, rfl⟩
  obtain ⟨U, eU⟩ : ∃ U, U = kidG l 1 := ⟨_, rfl⟩
  have hLo : L.fo.ok := by rw [eL]; exact k0
  have hLs : (itC L).length ≤ 1999 := by rw [eL]; have := hgi.sz; omega
  have HQC : Hid (∀ (W : World) (u : Option Addr) (nu cu : Nat), TI w u nu cu l → Below w.heap.size w W → Calls Tryz.prog 13 #[.slice u nu cu, .string ⟨#[44]⟩, .int .i64 2] W fun e w' => e = .returned (.bool true) ∧ w' = W) := fun W u nu cu hT hB => by
    have h8 : Calls Tryz.prog 13 #[.slice u nu cu, .string ⟨#[44]⟩, .int .i64 2] W fun e w' => e = .returned (.bool (decide (l.1 = cComma))) ∧ w' = W := isP_any (hT.below hB) hgi.lo.2.1 [44] 2 (by decide)
    rw [show decide (l.1 = cComma) = true by simpa using hc] at h8; exact h8
  rw [← eL] at kk
  have hbad : (gCl nilT l r (mx + 1)).2.2 = 4 := gCl_bad (by rw [if_pos hc, ← eL]; exact .inr (.inl kk))
  have HFI : Hid (∀ W, Below w.heap.size w W → NbRes w (transT t) (.returned (.tuple #[.slice none 0 0, .int .i64 4])) W) := fun W hB => by
    rw [HTR.out, gAns_code (by rw [hbad]; decide), hbad]
    exact ⟨none, 0, 0, rfl, OwnC.nil _ _, hB⟩
  have HEL : Hid (l = kidG t 0) := el
  have HER : Hid (r = kidG t 1) := er
  have HLL : Hid (L = kidG l 0) := eL
  have HLS : Hid ((itC L).length ≤ 1999) := hLs
  have HLU : Hid (U = kidG l 1) := eU
  clear hn hv ha emx el er hl ht hti hgi eL hbad hLo hLs HTR k0 k1 k2 eU
  go_enter Tryz.func5, Tryz.ntmps5
  go_wp2_with fail
  refine HV.mono ?_
  rintro e w1 ⟨rfl, hb1⟩
  have HB1 : Hid (Below w.heap.size w w1) := hb1
  clear hb1 HV
  go_wp2_with fail
  refine (HQA.out w1 HB1.out).mono ?_
  rintro e wq ⟨rfl, ew⟩
  rw [ew]
  clear ew HQA
  go_wp2_with fail
  refine (HMX.out w1 HB1.out).mono ?_
  rintro e wq ⟨rfl, ew⟩
  rw [ew]
  clear ew HMX
  have HGA : Hid (GMm (w1.alloc (.cells #[.int .i64 (mx + 1), .int .i64 0] 40)) w1.heap.size (mx + 1, 0)) := gm_new w1 (mx + 1) (by omega)
  have HBA : Hid (Below w.heap.size w (w1.alloc (.cells #[.int .i64 (mx + 1), .int .i64 0] 40))) := HB1.out.alloc HB1.out.size _
  have HSA : Hid (w1.heap.size < (w1.alloc (.cells #[.int .i64 (mx + 1), .int .i64 0] 40)).heap.size) := by show _ < _; simp
  have HWG : Hid (w.heap.size ≤ w1.heap.size) := HB1.out.size
  go_wp2_with fail
  obtain ⟨W2, eW2⟩ : ∃ W2, W2 = w1.alloc (.cells #[.int .i64 (mx + 1), .int .i64 0] 40) := ⟨_, rfl⟩
  obtain ⟨gb, egb⟩ : ∃ gb, gb = w1.heap.size := ⟨_, rfl⟩
  rw [← eW2, ← egb] at HGA HSA
  rw [← eW2] at HBA
  rw [← egb] at HWG
  rw [← eW2, ← egb]
  clear eW2 egb HB1
  refine (HAR.out W2 HBA.out).mono ?_
  rintro e w3 ⟨q, m, mc, rs, rfl, hm, hrow, harg, hb3⟩
  have hm0 : 0 < m := by rw [hm, trs_len]; omega
  obtain ⟨g, eg, hkid⟩ := args_tk (gb := gb) hrow hm harg HSA.out hm0
  subst eg
  have hm2 : m = 2 := by rw [hm, trs_len]; exact hcnt
  obtain ⟨r0, n0, c0, kc0, kt0⟩ := hkid 0 (by omega)
  obtain ⟨r1, n1, c1, kc1, kt1⟩ := hkid 1 (by omega)
  rw [← HEL.out] at kt0
  rw [← HER.out] at kt1
  have HK1 : Hid (∀ W, w3.grownBy W (some gb) → W.cell? ⟨g, 1, none⟩ = some (.slice r1 n1 c1)) := kc1
  have HT0 : Hid (TI w r0 n0 c0 l) := kt0
  have HT1 : Hid (TI w r1 n1 c1 r) := kt1
  have HG3 : Hid (GMm w3 gb (mx + 1, 0)) := HGA.out.below hb3
  have HB3 : Hid (Below w.heap.size w w3) := Below.on HBA.out hb3
  have HS3 : Hid (gb < w3.heap.size) := Nat.lt_of_lt_of_le HSA.out hb3.size
  have f0 := kc0 w3 (grown_refl _ _)
  clear hkid kc0 kc1 kt0 kt1 hm hrow harg hb3 HAR hm0 HGA HBA HSA hcnt
  subst hm2
  go_wp2_with fail
  refine (HQC.out w3 r0 n0 c0 HT0.out HB3.out).mono ?_
  rintro e wq ⟨rfl, ew⟩
  rw [ew]
  clear ew HQC f0
  go_wp2_with fail
  refine (HA2.out w3 r0 n0 c0 HT0.out HB3.out).mono ?_
  rintro e w4 ⟨q4, m4, mc4, rs4, rfl, hm4, hrow4, harg4, hb4⟩
  have hm40 : 0 < m4 := by rw [hm4, trs_len]; omega
  obtain ⟨g4, eg4, hkid4⟩ := args_tk (gb := gb) hrow4 hm4 harg4 HS3.out hm40
  subst eg4
  have hm42 : m4 = 2 := by rw [hm4, trs_len]; exact hcl
  obtain ⟨s0, x0, y0, kd0, ku0⟩ := hkid4 0 (by omega)
  obtain ⟨s1, x1, y1, kd1, ku1⟩ := hkid4 1 (by omega)
  rw [← HLL.out] at ku0
  rw [← HLU.out] at ku1
  have HU0 : Hid (TI w s0 x0 y0 L) := ku0
  have HU1 : Hid (TI w s1 x1 y1 U) := ku1
  have HG4 : Hid (GMm w4 gb (mx + 1, 0)) := HG3.out.below hb4
  have HB4 : Hid (Below w.heap.size w w4) := Below.on HB3.out hb4
  have HK4 : Hid (w3.grownBy w4 (some gb)) := grownM_below gb hb4
  have f0 := kd0 w4 (grown_refl _ _)
  have f1 := kd1 w4 (grown_refl _ _)
  have HB3W : Hid (∀ W, w3.grownBy W (some gb) → Below w.heap.size w W) := fun W hW => below_in HB3.out hW HWG.out
  clear hkid4 kd0 kd1 ku0 ku1 hm4 hrow4 harg4 hb4 HA2 hm40 HG3 HB3 hcl
  subst hm42
  obtain ⟨bL, oL, qL, cL, epL, d0, d1, d2, d3⟩ := (HU0.out.below HB4.out).head
  have hnL : 0 < x0 := by have := HU0.out.1; omega
  have hnLs : x0 ≤ 2000 := by have h8 := HU0.out.1; have h9 := HLS.out; simp only [itC, List.length_cons] at h9; omega
  rw [kk] at d0
  clear d1 d2 d3 kk
  have HU0' : Hid (TI w (some ⟨bL, oL, none⟩) x0 y0 L) := by rw [← epL]; exact HU0.out
  subst epL
  go_wp2_with fail
  go_ret2
  exact HFI.out _ HB4.out
set_option maxRecDepth 100000 in
set_option maxHeartbeats 2000000 in
theorem tr_push_nil (t : Tr) (p : Option Addr) (n cap : Nat) (w : World) (ht : t.fo.ok) (hl : (itC t).length ≤ 2000) (hti : TI w p n cap t) (hv : validB (itC t) = true) (ha : t.1 = cArrow) (hc : (kidG t 0).1 = cComma) (kz : ¬ (kidG (kidG t 0) 0).1.1 = 0) (ko : ¬ (kidG (kidG t 0) 0).1.1 = 1) (knilC : (kidG (kidG t 0) 0).1 = nilC) :
    Calls Tryz.prog 5 #[.slice p n cap] w (NbRes w (transT t)) := by
  have hn : n = (itC t).length := by rw [hti.1]; simp [itC]
  have HV : Calls Tryz.prog 12 #[.slice p n cap] w fun e w' => e = .returned (.bool true) ∧ Below w.heap.size w w' := by
    have h8 := specValid_any p cap (itC t) w (by omega) hti.2.2.2
    rw [hv, ← hn] at h8; exact h8
  have HQA : Hid (∀ W, Below w.heap.size w W → Calls Tryz.prog 13 #[.slice p n cap, .string ⟨#[45, 45, 62]⟩, .int .i64 2] W fun e w' => e = .returned (.bool true) ∧ w' = W) := fun W hB => by
    have h8 : Calls Tryz.prog 13 #[.slice p n cap, .string ⟨#[45, 45, 62]⟩, .int .i64 2] W fun e w' => e = .returned (.bool (decide (t.1 = cArrow))) ∧ w' = W := isP_any (hti.below hB) ht.2.1 [45, 45, 62] 2 (by decide)
    rw [show decide (t.1 = cArrow) = true by simpa using ha] at h8; exact h8
  obtain ⟨mx, emx⟩ : ∃ mx, mx = maxV (-1) (itC t) := ⟨_, rfl⟩
  have HMX : Hid (∀ W, Below w.heap.size w W → Calls Tryz.prog 14 #[.slice p n cap] W fun e w' => e = .returned (.int .i64 mx) ∧ w' = W) := fun W hB => by
    rw [hn, emx]; exact maxVar_any (itC t) p cap W (by omega) (itC_ok ht) (hti.2.2.2.below hB)
  obtain ⟨hgi, hcnt⟩ := gin_of ht hl ha
  rw [← emx] at hgi
  have hmr : -1 ≤ mx ∧ mx ≤ 1000000 := by rw [emx]; exact maxV_range (itC t) (-1) (itC_ok ht) (by decide) (by decide)
  have HTR : Hid (transT t = gAns (gCl nilT (kidG t 0) (kidG t 1) (mx + 1))) := by show _ = _; unfold transT; rw [if_pos ha, emx]
  have HAR : Hid (∀ W, Below w.heap.size w W → Calls Tryz.prog 15 #[.slice p n cap] W fun e w' => ∃ q m mc rs, e = .returned (.slice q m mc) ∧ m = (trs t.2).length ∧ w'.ownsRow W.heap.size 24 1 (.slice q m mc) m (rs.map slV) ∧ ArgRowU w rs (trs t.2) ∧ Below W.heap.size W w') := fun W hB => l2argsG_any hti hB (by omega) ht
  obtain ⟨l, el⟩ : ∃ l, l = kidG t 0 := ⟨_, rfl⟩
  obtain ⟨r, er⟩ : ∃ r, r = kidG t 1 := ⟨_, rfl⟩
  rw [← el, ← er] at hgi HTR
  rw [← el] at hc
  rw [← el] at kz ko knilC
  obtain ⟨k0, k1, k2, _, _⟩ := kid2 hgi.lo hc
  have hcl : l.2.count = 2 := count_of hgi.lo (n := 2) hc
  have HA2 : Hid (∀ (W : World) (u : Option Addr) (nu cu : Nat), TI w u nu cu l → Below w.heap.size w W → Calls Tryz.prog 15 #[.slice u nu cu] W fun e w' => ∃ q m mc rs, e = .returned (.slice q m mc) ∧ m = (trs l.2).length ∧ w'.ownsRow W.heap.size 24 1 (.slice q m mc) m (rs.map slV) ∧ ArgRowU w rs (trs l.2) ∧ Below W.heap.size W w') := fun W u nu cu hT hB => l2argsG_any hT hB (by rw [hT.1]; have := hgi.sz; simp only [itC, List.length_cons] at this; omega) hgi.lo
  obtain ⟨L, eL⟩ : ∃ L, L = kidG l 0 := ⟨_, rfl⟩
  obtain ⟨U, eU⟩ : ∃ U, U = kidG l 1 := ⟨_, rfl⟩
  have hLo : L.fo.ok := by rw [eL]; exact k0
  have hLs : (itC L).length ≤ 1999 := by rw [eL]; have := hgi.sz; omega
  have HQC : Hid (∀ (W : World) (u : Option Addr) (nu cu : Nat), TI w u nu cu l → Below w.heap.size w W → Calls Tryz.prog 13 #[.slice u nu cu, .string ⟨#[44]⟩, .int .i64 2] W fun e w' => e = .returned (.bool true) ∧ w' = W) := fun W u nu cu hT hB => by
    have h8 : Calls Tryz.prog 13 #[.slice u nu cu, .string ⟨#[44]⟩, .int .i64 2] W fun e w' => e = .returned (.bool (decide (l.1 = cComma))) ∧ w' = W := isP_any (hT.below hB) hgi.lo.2.1 [44] 2 (by decide)
    rw [show decide (l.1 = cComma) = true by simpa using hc] at h8; exact h8
  rw [← eL] at kz ko knilC
  have hbad : (gCl nilT l r (mx + 1)).2.2 = 4 := gCl_bad (by rw [if_pos hc, ← eL]; exact .inr (.inr (.inl knilC)))
  have HFI : Hid (∀ W, Below w.heap.size w W → NbRes w (transT t) (.returned (.tuple #[.slice none 0 0, .int .i64 4])) W) := fun W hB => by
    rw [HTR.out, gAns_code (by rw [hbad]; decide), hbad]
    exact ⟨none, 0, 0, rfl, OwnC.nil _ _, hB⟩
  have HQN : Hid (∀ (W : World) (u : Option Addr) (nu cu : Nat), TI w u nu cu L → Below w.heap.size w W → Calls Tryz.prog 13 #[.slice u nu cu, .string ⟨#[91, 93]⟩, .int .i64 0] W fun e w' => e = .returned (.bool true) ∧ w' = W) := fun W u nu cu hT hB => by
    have h8 : Calls Tryz.prog 13 #[.slice u nu cu, .string ⟨#[91, 93]⟩, .int .i64 0] W fun e w' => e = .returned (.bool (decide (L.1 = nilC))) ∧ w' = W := isZ_any (hT.below hB) hLo.2.1 hLo.1 [91, 93]
    rw [show decide (L.1 = nilC) = true by simpa using knilC] at h8; exact h8
  have HEL : Hid (l = kidG t 0) := el
  have HER : Hid (r = kidG t 1) := er
  have HLL : Hid (L = kidG l 0) := eL
  have HLS : Hid ((itC L).length ≤ 1999) := hLs
  have HLU : Hid (U = kidG l 1) := eU
  clear hn hv ha emx el er hl ht hti hgi eL hbad hLo hLs HTR k0 k1 k2 eU knilC
  go_enter Tryz.func5, Tryz.ntmps5
  go_wp2_with fail
  refine HV.mono ?_
  rintro e w1 ⟨rfl, hb1⟩
  have HB1 : Hid (Below w.heap.size w w1) := hb1
  clear hb1 HV
  go_wp2_with fail
  refine (HQA.out w1 HB1.out).mono ?_
  rintro e wq ⟨rfl, ew⟩
  rw [ew]
  clear ew HQA
  go_wp2_with fail
  refine (HMX.out w1 HB1.out).mono ?_
  rintro e wq ⟨rfl, ew⟩
  rw [ew]
  clear ew HMX
  have HGA : Hid (GMm (w1.alloc (.cells #[.int .i64 (mx + 1), .int .i64 0] 40)) w1.heap.size (mx + 1, 0)) := gm_new w1 (mx + 1) (by omega)
  have HBA : Hid (Below w.heap.size w (w1.alloc (.cells #[.int .i64 (mx + 1), .int .i64 0] 40))) := HB1.out.alloc HB1.out.size _
  have HSA : Hid (w1.heap.size < (w1.alloc (.cells #[.int .i64 (mx + 1), .int .i64 0] 40)).heap.size) := by show _ < _; simp
  have HWG : Hid (w.heap.size ≤ w1.heap.size) := HB1.out.size
  go_wp2_with fail
  obtain ⟨W2, eW2⟩ : ∃ W2, W2 = w1.alloc (.cells #[.int .i64 (mx + 1), .int .i64 0] 40) := ⟨_, rfl⟩
  obtain ⟨gb, egb⟩ : ∃ gb, gb = w1.heap.size := ⟨_, rfl⟩
  rw [← eW2, ← egb] at HGA HSA
  rw [← eW2] at HBA
  rw [← egb] at HWG
  rw [← eW2, ← egb]
  clear eW2 egb HB1
  refine (HAR.out W2 HBA.out).mono ?_
  rintro e w3 ⟨q, m, mc, rs, rfl, hm, hrow, harg, hb3⟩
  have hm0 : 0 < m := by rw [hm, trs_len]; omega
  obtain ⟨g, eg, hkid⟩ := args_tk (gb := gb) hrow hm harg HSA.out hm0
  subst eg
  have hm2 : m = 2 := by rw [hm, trs_len]; exact hcnt
  obtain ⟨r0, n0, c0, kc0, kt0⟩ := hkid 0 (by omega)
  obtain ⟨r1, n1, c1, kc1, kt1⟩ := hkid 1 (by omega)
  rw [← HEL.out] at kt0
  rw [← HER.out] at kt1
  have HK1 : Hid (∀ W, w3.grownBy W (some gb) → W.cell? ⟨g, 1, none⟩ = some (.slice r1 n1 c1)) := kc1
  have HT0 : Hid (TI w r0 n0 c0 l) := kt0
  have HT1 : Hid (TI w r1 n1 c1 r) := kt1
  have HG3 : Hid (GMm w3 gb (mx + 1, 0)) := HGA.out.below hb3
  have HB3 : Hid (Below w.heap.size w w3) := Below.on HBA.out hb3
  have HS3 : Hid (gb < w3.heap.size) := Nat.lt_of_lt_of_le HSA.out hb3.size
  have f0 := kc0 w3 (grown_refl _ _)
  clear hkid kc0 kc1 kt0 kt1 hm hrow harg hb3 HAR hm0 HGA HBA HSA hcnt
  subst hm2
  go_wp2_with fail
  refine (HQC.out w3 r0 n0 c0 HT0.out HB3.out).mono ?_
  rintro e wq ⟨rfl, ew⟩
  rw [ew]
  clear ew HQC f0
  go_wp2_with fail
  refine (HA2.out w3 r0 n0 c0 HT0.out HB3.out).mono ?_
  rintro e w4 ⟨q4, m4, mc4, rs4, rfl, hm4, hrow4, harg4, hb4⟩
  have hm40 : 0 < m4 := by rw [hm4, trs_len]; omega
  obtain ⟨g4, eg4, hkid4⟩ := args_tk (gb := gb) hrow4 hm4 harg4 HS3.out hm40
  subst eg4
  have hm42 : m4 = 2 := by rw [hm4, trs_len]; exact hcl
  obtain ⟨s0, x0, y0, kd0, ku0⟩ := hkid4 0 (by omega)
  obtain ⟨s1, x1, y1, kd1, ku1⟩ := hkid4 1 (by omega)
  rw [← HLL.out] at ku0
  rw [← HLU.out] at ku1
  have HU0 : Hid (TI w s0 x0 y0 L) := ku0
  have HU1 : Hid (TI w s1 x1 y1 U) := ku1
  have HG4 : Hid (GMm w4 gb (mx + 1, 0)) := HG3.out.below hb4
  have HB4 : Hid (Below w.heap.size w w4) := Below.on HB3.out hb4
  have HK4 : Hid (w3.grownBy w4 (some gb)) := grownM_below gb hb4
  have f0 := kd0 w4 (grown_refl _ _)
  have f1 := kd1 w4 (grown_refl _ _)
  have HB3W : Hid (∀ W, w3.grownBy W (some gb) → Below w.heap.size w W) := fun W hW => below_in HB3.out hW HWG.out
  clear hkid4 kd0 kd1 ku0 ku1 hm4 hrow4 harg4 hb4 HA2 hm40 HG3 HB3 hcl
  subst hm42
  obtain ⟨bL, oL, qL, cL, epL, d0, d1, d2, d3⟩ := (HU0.out.below HB4.out).head
  have hnL : 0 < x0 := by have := HU0.out.1; omega
  have hnLs : x0 ≤ 2000 := by have h8 := HU0.out.1; have h9 := HLS.out; simp only [itC, List.length_cons] at h9; omega
  obtain ⟨x, ex⟩ : ∃ x, x = L.1.1 := ⟨_, rfl⟩
  rw [← ex] at d0 kz ko
  have kzb : (x == 0) = false := by simpa using kz
  have kob : (x == 1) = false := by simpa using ko
  clear ex d1 d2 d3
  have HU0' : Hid (TI w (some ⟨bL, oL, none⟩) x0 y0 L) := by rw [← epL]; exact HU0.out
  subst epL
  go_wp2_with fail
  refine (HQN.out w4 (some ⟨bL, oL, none⟩) x0 y0 HU0'.out HB4.out).mono ?_
  rintro e wq ⟨rfl, ew⟩
  rw [ew]
  clear ew
  go_wp2_with fail
  go_ret2
  exact HFI.out _ HB4.out
set_option maxRecDepth 100000 in
set_option maxHeartbeats 2000000 in
theorem tr_push_dot (t : Tr) (p : Option Addr) (n cap : Nat) (w : World) (ht : t.fo.ok) (hl : (itC t).length ≤ 2000) (hti : TI w p n cap t) (hv : validB (itC t) = true) (ha : t.1 = cArrow) (hc : (kidG t 0).1 = cComma) (kz : ¬ (kidG (kidG t 0) 0).1.1 = 0) (ko : ¬ (kidG (kidG t 0) 0).1.1 = 1) (knilC : ¬ (kidG (kidG t 0) 0).1 = nilC) (kdot : (kidG (kidG t 0) 0).1 = dot) :
    Calls Tryz.prog 5 #[.slice p n cap] w (NbRes w (transT t)) := by
  have hn : n = (itC t).length := by rw [hti.1]; simp [itC]
  have HV : Calls Tryz.prog 12 #[.slice p n cap] w fun e w' => e = .returned (.bool true) ∧ Below w.heap.size w w' := by
    have h8 := specValid_any p cap (itC t) w (by omega) hti.2.2.2
    rw [hv, ← hn] at h8; exact h8
  have HQA : Hid (∀ W, Below w.heap.size w W → Calls Tryz.prog 13 #[.slice p n cap, .string ⟨#[45, 45, 62]⟩, .int .i64 2] W fun e w' => e = .returned (.bool true) ∧ w' = W) := fun W hB => by
    have h8 : Calls Tryz.prog 13 #[.slice p n cap, .string ⟨#[45, 45, 62]⟩, .int .i64 2] W fun e w' => e = .returned (.bool (decide (t.1 = cArrow))) ∧ w' = W := isP_any (hti.below hB) ht.2.1 [45, 45, 62] 2 (by decide)
    rw [show decide (t.1 = cArrow) = true by simpa using ha] at h8; exact h8
  obtain ⟨mx, emx⟩ : ∃ mx, mx = maxV (-1) (itC t) := ⟨_, rfl⟩
  have HMX : Hid (∀ W, Below w.heap.size w W → Calls Tryz.prog 14 #[.slice p n cap] W fun e w' => e = .returned (.int .i64 mx) ∧ w' = W) := fun W hB => by
    rw [hn, emx]; exact maxVar_any (itC t) p cap W (by omega) (itC_ok ht) (hti.2.2.2.below hB)
  obtain ⟨hgi, hcnt⟩ := gin_of ht hl ha
  rw [← emx] at hgi
  have hmr : -1 ≤ mx ∧ mx ≤ 1000000 := by rw [emx]; exact maxV_range (itC t) (-1) (itC_ok ht) (by decide) (by decide)
  have HTR : Hid (transT t = gAns (gCl nilT (kidG t 0) (kidG t 1) (mx + 1))) := by show _ = _; unfold transT; rw [if_pos ha, emx]
  have HAR : Hid (∀ W, Below w.heap.size w W → Calls Tryz.prog 15 #[.slice p n cap] W fun e w' => ∃ q m mc rs, e = .returned (.slice q m mc) ∧ m = (trs t.2).length ∧ w'.ownsRow W.heap.size 24 1 (.slice q m mc) m (rs.map slV) ∧ ArgRowU w rs (trs t.2) ∧ Below W.heap.size W w') := fun W hB => l2argsG_any hti hB (by omega) ht
  obtain ⟨l, el⟩ : ∃ l, l = kidG t 0 := ⟨_, rfl⟩
  obtain ⟨r, er⟩ : ∃ r, r = kidG t 1 := ⟨_, rfl⟩
  rw [← el, ← er] at hgi HTR
  rw [← el] at hc
  rw [← el] at kz ko knilC kdot
  obtain ⟨k0, k1, k2, _, _⟩ := kid2 hgi.lo hc
  have hcl : l.2.count = 2 := count_of hgi.lo (n := 2) hc
  have HA2 : Hid (∀ (W : World) (u : Option Addr) (nu cu : Nat), TI w u nu cu l → Below w.heap.size w W → Calls Tryz.prog 15 #[.slice u nu cu] W fun e w' => ∃ q m mc rs, e = .returned (.slice q m mc) ∧ m = (trs l.2).length ∧ w'.ownsRow W.heap.size 24 1 (.slice q m mc) m (rs.map slV) ∧ ArgRowU w rs (trs l.2) ∧ Below W.heap.size W w') := fun W u nu cu hT hB => l2argsG_any hT hB (by rw [hT.1]; have := hgi.sz; simp only [itC, List.length_cons] at this; omega) hgi.lo
  obtain ⟨L, eL⟩ : ∃ L, L = kidG l 0 := ⟨_, rfl⟩
  obtain ⟨U, eU⟩ : ∃ U, U = kidG l 1 := ⟨_, rfl⟩
  have hLo : L.fo.ok := by rw [eL]; exact k0
  have hLs : (itC L).length ≤ 1999 := by rw [eL]; have := hgi.sz; omega
  have HQC : Hid (∀ (W : World) (u : Option Addr) (nu cu : Nat), TI w u nu cu l → Below w.heap.size w W → Calls Tryz.prog 13 #[.slice u nu cu, .string ⟨#[44]⟩, .int .i64 2] W fun e w' => e = .returned (.bool true) ∧ w' = W) := fun W u nu cu hT hB => by
    have h8 : Calls Tryz.prog 13 #[.slice u nu cu, .string ⟨#[44]⟩, .int .i64 2] W fun e w' => e = .returned (.bool (decide (l.1 = cComma))) ∧ w' = W := isP_any (hT.below hB) hgi.lo.2.1 [44] 2 (by decide)
    rw [show decide (l.1 = cComma) = true by simpa using hc] at h8; exact h8
  rw [← eL] at kz ko knilC kdot
  have hbad : (gCl nilT l r (mx + 1)).2.2 = 4 := gCl_bad (by rw [if_pos hc, ← eL]; exact .inr (.inr (.inr kdot)))
  have HFI : Hid (∀ W, Below w.heap.size w W → NbRes w (transT t) (.returned (.tuple #[.slice none 0 0, .int .i64 4])) W) := fun W hB => by
    rw [HTR.out, gAns_code (by rw [hbad]; decide), hbad]
    exact ⟨none, 0, 0, rfl, OwnC.nil _ _, hB⟩
  have HQN : Hid (∀ (W : World) (u : Option Addr) (nu cu : Nat), TI w u nu cu L → Below w.heap.size w W → Calls Tryz.prog 13 #[.slice u nu cu, .string ⟨#[91, 93]⟩, .int .i64 0] W fun e w' => e = .returned (.bool false) ∧ w' = W) := fun W u nu cu hT hB => by
    have h8 : Calls Tryz.prog 13 #[.slice u nu cu, .string ⟨#[91, 93]⟩, .int .i64 0] W fun e w' => e = .returned (.bool (decide (L.1 = nilC))) ∧ w' = W := isZ_any (hT.below hB) hLo.2.1 hLo.1 [91, 93]
    rw [show decide (L.1 = nilC) = false by simpa using knilC] at h8; exact h8
  have HQD : Hid (∀ (W : World) (u : Option Addr) (nu cu : Nat), TI w u nu cu L → Below w.heap.size w W → Calls Tryz.prog 13 #[.slice u nu cu, .string ⟨#[46]⟩, .int .i64 2] W fun e w' => e = .returned (.bool true) ∧ w' = W) := fun W u nu cu hT hB => by
    have h8 : Calls Tryz.prog 13 #[.slice u nu cu, .string ⟨#[46]⟩, .int .i64 2] W fun e w' => e = .returned (.bool (decide (L.1 = dot))) ∧ w' = W := isP_any (hT.below hB) hLo.2.1 [46] 2 (by decide)
    rw [show decide (L.1 = dot) = true by simpa using kdot] at h8; exact h8
  have HEL : Hid (l = kidG t 0) := el
  have HER : Hid (r = kidG t 1) := er
  have HLL : Hid (L = kidG l 0) := eL
  have HLS : Hid ((itC L).length ≤ 1999) := hLs
  have HLU : Hid (U = kidG l 1) := eU
  clear hn hv ha emx el er hl ht hti hgi eL hbad hLo hLs HTR k0 k1 k2 eU knilC kdot
  go_enter Tryz.func5, Tryz.ntmps5
  go_wp2_with fail
  refine HV.mono ?_
  rintro e w1 ⟨rfl, hb1⟩
  have HB1 : Hid (Below w.heap.size w w1) := hb1
  clear hb1 HV
  go_wp2_with fail
  refine (HQA.out w1 HB1.out).mono ?_
  rintro e wq ⟨rfl, ew⟩
  rw [ew]
  clear ew HQA
  go_wp2_with fail
  refine (HMX.out w1 HB1.out).mono ?_
  rintro e wq ⟨rfl, ew⟩
  rw [ew]
  clear ew HMX
  have HGA : Hid (GMm (w1.alloc (.cells #[.int .i64 (mx + 1), .int .i64 0] 40)) w1.heap.size (mx + 1, 0)) := gm_new w1 (mx + 1) (by omega)
  have HBA : Hid (Below w.heap.size w (w1.alloc (.cells #[.int .i64 (mx + 1), .int .i64 0] 40))) := HB1.out.alloc HB1.out.size _
  have HSA : Hid (w1.heap.size < (w1.alloc (.cells #[.int .i64 (mx + 1), .int .i64 0] 40)).heap.size) := by show _ < _; simp
  have HWG : Hid (w.heap.size ≤ w1.heap.size) := HB1.out.size
  go_wp2_with fail
  obtain ⟨W2, eW2⟩ : ∃ W2, W2 = w1.alloc (.cells #[.int .i64 (mx + 1), .int .i64 0] 40) := ⟨_, rfl⟩
  obtain ⟨gb, egb⟩ : ∃ gb, gb = w1.heap.size := ⟨_, rfl⟩
  rw [← eW2, ← egb] at HGA HSA
  rw [← eW2] at HBA
  rw [← egb] at HWG
  rw [← eW2, ← egb]
  clear eW2 egb HB1
  refine (HAR.out W2 HBA.out).mono ?_
  rintro e w3 ⟨q, m, mc, rs, rfl, hm, hrow, harg, hb3⟩
  have hm0 : 0 < m := by rw [hm, trs_len]; omega
  obtain ⟨g, eg, hkid⟩ := args_tk (gb := gb) hrow hm harg HSA.out hm0
  subst eg
  have hm2 : m = 2 := by rw [hm, trs_len]; exact hcnt
  obtain ⟨r0, n0, c0, kc0, kt0⟩ := hkid 0 (by omega)
  obtain ⟨r1, n1, c1, kc1, kt1⟩ := hkid 1 (by omega)
  rw [← HEL.out] at kt0
  rw [← HER.out] at kt1
  have HK1 : Hid (∀ W, w3.grownBy W (some gb) → W.cell? ⟨g, 1, none⟩ = some (.slice r1 n1 c1)) := kc1
  have HT0 : Hid (TI w r0 n0 c0 l) := kt0
  have HT1 : Hid (TI w r1 n1 c1 r) := kt1
  have HG3 : Hid (GMm w3 gb (mx + 1, 0)) := HGA.out.below hb3
  have HB3 : Hid (Below w.heap.size w w3) := Below.on HBA.out hb3
  have HS3 : Hid (gb < w3.heap.size) := Nat.lt_of_lt_of_le HSA.out hb3.size
  have f0 := kc0 w3 (grown_refl _ _)
  clear hkid kc0 kc1 kt0 kt1 hm hrow harg hb3 HAR hm0 HGA HBA HSA hcnt
  subst hm2
  go_wp2_with fail
  refine (HQC.out w3 r0 n0 c0 HT0.out HB3.out).mono ?_
  rintro e wq ⟨rfl, ew⟩
  rw [ew]
  clear ew HQC f0
  go_wp2_with fail
  refine (HA2.out w3 r0 n0 c0 HT0.out HB3.out).mono ?_
  rintro e w4 ⟨q4, m4, mc4, rs4, rfl, hm4, hrow4, harg4, hb4⟩
  have hm40 : 0 < m4 := by rw [hm4, trs_len]; omega
  obtain ⟨g4, eg4, hkid4⟩ := args_tk (gb := gb) hrow4 hm4 harg4 HS3.out hm40
  subst eg4
  have hm42 : m4 = 2 := by rw [hm4, trs_len]; exact hcl
  obtain ⟨s0, x0, y0, kd0, ku0⟩ := hkid4 0 (by omega)
  obtain ⟨s1, x1, y1, kd1, ku1⟩ := hkid4 1 (by omega)
  rw [← HLL.out] at ku0
  rw [← HLU.out] at ku1
  have HU0 : Hid (TI w s0 x0 y0 L) := ku0
  have HU1 : Hid (TI w s1 x1 y1 U) := ku1
  have HG4 : Hid (GMm w4 gb (mx + 1, 0)) := HG3.out.below hb4
  have HB4 : Hid (Below w.heap.size w w4) := Below.on HB3.out hb4
  have HK4 : Hid (w3.grownBy w4 (some gb)) := grownM_below gb hb4
  have f0 := kd0 w4 (grown_refl _ _)
  have f1 := kd1 w4 (grown_refl _ _)
  have HB3W : Hid (∀ W, w3.grownBy W (some gb) → Below w.heap.size w W) := fun W hW => below_in HB3.out hW HWG.out
  clear hkid4 kd0 kd1 ku0 ku1 hm4 hrow4 harg4 hb4 HA2 hm40 HG3 HB3 hcl
  subst hm42
  obtain ⟨bL, oL, qL, cL, epL, d0, d1, d2, d3⟩ := (HU0.out.below HB4.out).head
  have hnL : 0 < x0 := by have := HU0.out.1; omega
  have hnLs : x0 ≤ 2000 := by have h8 := HU0.out.1; have h9 := HLS.out; simp only [itC, List.length_cons] at h9; omega
  obtain ⟨x, ex⟩ : ∃ x, x = L.1.1 := ⟨_, rfl⟩
  rw [← ex] at d0 kz ko
  have kzb : (x == 0) = false := by simpa using kz
  have kob : (x == 1) = false := by simpa using ko
  clear ex d1 d2 d3
  have HU0' : Hid (TI w (some ⟨bL, oL, none⟩) x0 y0 L) := by rw [← epL]; exact HU0.out
  subst epL
  go_wp2_with fail
  refine (HQN.out w4 (some ⟨bL, oL, none⟩) x0 y0 HU0'.out HB4.out).mono ?_
  rintro e wq ⟨rfl, ew⟩
  rw [ew]
  clear ew
  go_wp2_with fail
  refine (HQD.out w4 (some ⟨bL, oL, none⟩) x0 y0 HU0'.out HB4.out).mono ?_
  rintro e wq ⟨rfl, ew⟩
  rw [ew]
  clear ew
  go_wp2_with fail
  go_ret2
  exact HFI.out _ HB4.out
set_option maxRecDepth 100000 in
set_option maxHeartbeats 2000000 in
theorem tr_plain_var (t : Tr) (p : Option Addr) (n cap : Nat) (w : World) (ht : t.fo.ok) (hl : (itC t).length ≤ 2000) (hti : TI w p n cap t) (hv : validB (itC t) = true) (ha : t.1 = cArrow) (hc : ¬ (kidG t 0).1 = cComma) (kk : (kidG t 0).1.1 = 0) :
    Calls Tryz.prog 5 #[.slice p n cap] w (NbRes w (transT t)) := by
  have hn : n = (itC t).length := by rw [hti.1]; simp [itC]
  have HV : Calls Tryz.prog 12 #[.slice p n cap] w fun e w' => e = .returned (.bool true) ∧ Below w.heap.size w w' := by
    have h8 := specValid_any p cap (itC t) w (by omega) hti.2.2.2
    rw [hv, ← hn] at h8; exact h8
  have HQA : Hid (∀ W, Below w.heap.size w W → Calls Tryz.prog 13 #[.slice p n cap, .string ⟨#[45, 45, 62]⟩, .int .i64 2] W fun e w' => e = .returned (.bool true) ∧ w' = W) := fun W hB => by
    have h8 : Calls Tryz.prog 13 #[.slice p n cap, .string ⟨#[45, 45, 62]⟩, .int .i64 2] W fun e w' => e = .returned (.bool (decide (t.1 = cArrow))) ∧ w' = W := isP_any (hti.below hB) ht.2.1 [45, 45, 62] 2 (by decide)
    rw [show decide (t.1 = cArrow) = true by simpa using ha] at h8; exact h8
  obtain ⟨mx, emx⟩ : ∃ mx, mx = maxV (-1) (itC t) := ⟨_, rfl⟩
  have HMX : Hid (∀ W, Below w.heap.size w W → Calls Tryz.prog 14 #[.slice p n cap] W fun e w' => e = .returned (.int .i64 mx) ∧ w' = W) := fun W hB => by
    rw [hn, emx]; exact maxVar_any (itC t) p cap W (by omega) (itC_ok ht) (hti.2.2.2.below hB)
  obtain ⟨hgi, hcnt⟩ := gin_of ht hl ha
  rw [← emx] at hgi
  have hmr : -1 ≤ mx ∧ mx ≤ 1000000 := by rw [emx]; exact maxV_range (itC t) (-1) (itC_ok ht) (by decide) (by decide)
  have HTR : Hid (transT t = gAns (gCl nilT (kidG t 0) (kidG t 1) (mx + 1))) := by show _ = _; unfold transT; rw [if_pos ha, emx]
  have HAR : Hid (∀ W, Below w.heap.size w W → Calls Tryz.prog 15 #[.slice p n cap] W fun e w' => ∃ q m mc rs, e = .returned (.slice q m mc) ∧ m = (trs t.2).length ∧ w'.ownsRow W.heap.size 24 1 (.slice q m mc) m (rs.map slV) ∧ ArgRowU w rs (trs t.2) ∧ Below W.heap.size W w') := fun W hB => l2argsG_any hti hB (by omega) ht
  obtain ⟨l, el⟩ : ∃ l, l = kidG t 0 := ⟨_, rfl⟩
  obtain ⟨r, er⟩ : ∃ r, r = kidG t 1 := ⟨_, rfl⟩
  rw [← el, ← er] at hgi HTR
  rw [← el] at hc
  rw [← el] at kk
  obtain ⟨L, eL⟩ : ∃ L, L = l := ⟨_, rfl⟩
  have hLo : L.fo.ok := by rw [eL]; exact hgi.lo
  have hLs : (itC L).length ≤ 1999 := by rw [eL]; have := hgi.sz; omega
  have HQC : Hid (∀ (W : World) (u : Option Addr) (nu cu : Nat), TI w u nu cu l → Below w.heap.size w W → Calls Tryz.prog 13 #[.slice u nu cu, .string ⟨#[44]⟩, .int .i64 2] W fun e w' => e = .returned (.bool false) ∧ w' = W) := fun W u nu cu hT hB => by
    have h8 : Calls Tryz.prog 13 #[.slice u nu cu, .string ⟨#[44]⟩, .int .i64 2] W fun e w' => e = .returned (.bool (decide (l.1 = cComma))) ∧ w' = W := isP_any (hT.below hB) hgi.lo.2.1 [44] 2 (by decide)
    rw [show decide (l.1 = cComma) = false by simpa using hc] at h8; exact h8
  rw [← eL] at kk
  have hbad : (gCl nilT l r (mx + 1)).2.2 = 4 := gCl_bad (by rw [if_neg hc]; rw [eL] at kk; exact .inl kk)
  have HFI : Hid (∀ W, Below w.heap.size w W → NbRes w (transT t) (.returned (.tuple #[.slice none 0 0, .int .i64 4])) W) := fun W hB => by
    rw [HTR.out, gAns_code (by rw [hbad]; decide), hbad]
    exact ⟨none, 0, 0, rfl, OwnC.nil _ _, hB⟩
  have HEL : Hid (l = kidG t 0) := el
  have HER : Hid (r = kidG t 1) := er
  have HLL : Hid (L = l) := eL
  have HLS : Hid ((itC L).length ≤ 1999) := hLs
  clear hn hv ha emx el er hl ht hti hgi eL hbad hLo hLs HTR
  go_enter Tryz.func5, Tryz.ntmps5
  go_wp2_with fail
  refine HV.mono ?_
  rintro e w1 ⟨rfl, hb1⟩
  have HB1 : Hid (Below w.heap.size w w1) := hb1
  clear hb1 HV
  go_wp2_with fail
  refine (HQA.out w1 HB1.out).mono ?_
  rintro e wq ⟨rfl, ew⟩
  rw [ew]
  clear ew HQA
  go_wp2_with fail
  refine (HMX.out w1 HB1.out).mono ?_
  rintro e wq ⟨rfl, ew⟩
  rw [ew]
  clear ew HMX
  have HGA : Hid (GMm (w1.alloc (.cells #[.int .i64 (mx + 1), .int .i64 0] 40)) w1.heap.size (mx + 1, 0)) := gm_new w1 (mx + 1) (by omega)
  have HBA : Hid (Below w.heap.size w (w1.alloc (.cells #[.int .i64 (mx + 1), .int .i64 0] 40))) := HB1.out.alloc HB1.out.size _
  have HSA : Hid (w1.heap.size < (w1.alloc (.cells #[.int .i64 (mx + 1), .int .i64 0] 40)).heap.size) := by show _ < _; simp
  have HWG : Hid (w.heap.size ≤ w1.heap.size) := HB1.out.size
  go_wp2_with fail
  obtain ⟨W2, eW2⟩ : ∃ W2, W2 = w1.alloc (.cells #[.int .i64 (mx + 1), .int .i64 0] 40) := ⟨_, rfl⟩
  obtain ⟨gb, egb⟩ : ∃ gb, gb = w1.heap.size := ⟨_, rfl⟩
  rw [← eW2, ← egb] at HGA HSA
  rw [← eW2] at HBA
  rw [← egb] at HWG
  rw [← eW2, ← egb]
  clear eW2 egb HB1
  refine (HAR.out W2 HBA.out).mono ?_
  rintro e w3 ⟨q, m, mc, rs, rfl, hm, hrow, harg, hb3⟩
  have hm0 : 0 < m := by rw [hm, trs_len]; omega
  obtain ⟨g, eg, hkid⟩ := args_tk (gb := gb) hrow hm harg HSA.out hm0
  subst eg
  have hm2 : m = 2 := by rw [hm, trs_len]; exact hcnt
  obtain ⟨r0, n0, c0, kc0, kt0⟩ := hkid 0 (by omega)
  obtain ⟨r1, n1, c1, kc1, kt1⟩ := hkid 1 (by omega)
  rw [← HEL.out] at kt0
  rw [← HER.out] at kt1
  have HK1 : Hid (∀ W, w3.grownBy W (some gb) → W.cell? ⟨g, 1, none⟩ = some (.slice r1 n1 c1)) := kc1
  have HT0 : Hid (TI w r0 n0 c0 l) := kt0
  have HT1 : Hid (TI w r1 n1 c1 r) := kt1
  have HG3 : Hid (GMm w3 gb (mx + 1, 0)) := HGA.out.below hb3
  have HB3 : Hid (Below w.heap.size w w3) := Below.on HBA.out hb3
  have HS3 : Hid (gb < w3.heap.size) := Nat.lt_of_lt_of_le HSA.out hb3.size
  have f0 := kc0 w3 (grown_refl _ _)
  clear hkid kc0 kc1 kt0 kt1 hm hrow harg hb3 HAR hm0 HGA HBA HSA hcnt
  subst hm2
  go_wp2_with fail
  refine (HQC.out w3 r0 n0 c0 HT0.out HB3.out).mono ?_
  rintro e wq ⟨rfl, ew⟩
  rw [ew]
  clear ew HQC f0
  have HU0 : Hid (TI w r0 n0 c0 L) := by rw [HLL.out]; exact HT0.out
  have HG4 : Hid (GMm w3 gb (mx + 1, 0)) := HG3.out
  have HB4 : Hid (Below w.heap.size w w3) := HB3.out
  have HK4 : Hid (w3.grownBy w3 (some gb)) := grown_refl _ _
  obtain ⟨bL, oL, qL, cL, epL, d0, d1, d2, d3⟩ := (HU0.out.below HB4.out).head
  have hnL : 0 < n0 := by have := HU0.out.1; omega
  have hnLs : n0 ≤ 2000 := by have h8 := HU0.out.1; have h9 := HLS.out; simp only [itC, List.length_cons] at h9; omega
  rw [kk] at d0
  clear d1 d2 d3 kk
  have HU0' : Hid (TI w (some ⟨bL, oL, none⟩) n0 c0 L) := by rw [← epL]; exact HU0.out
  subst epL
  go_wp2_with fail
  go_ret2
  exact HFI.out _ HB4.out
set_option maxRecDepth 100000 in
set_option maxHeartbeats 2000000 in
theorem tr_plain_num (t : Tr) (p : Option Addr) (n cap : Nat) (w : World) (ht : t.fo.ok) (hl : (itC t).length ≤ 2000) (hti : TI w p n cap t) (hv : validB (itC t) = true) (ha : t.1 = cArrow) (hc : ¬ (kidG t 0).1 = cComma) (kk : (kidG t 0).1.1 = 1) :
    Calls Tryz.prog 5 #[.slice p n cap] w (NbRes w (transT t)) := by
  have hn : n = (itC t).length := by rw [hti.1]; simp [itC]
  have HV : Calls Tryz.prog 12 #[.slice p n cap] w fun e w' => e = .returned (.bool true) ∧ Below w.heap.size w w' := by
    have h8 := specValid_any p cap (itC t) w (by omega) hti.2.2.2
    rw [hv, ← hn] at h8; exact h8
  have HQA : Hid (∀ W, Below w.heap.size w W → Calls Tryz.prog 13 #[.slice p n cap, .string ⟨#[45, 45, 62]⟩, .int .i64 2] W fun e w' => e = .returned (.bool true) ∧ w' = W) := fun W hB => by
    have h8 : Calls Tryz.prog 13 #[.slice p n cap, .string ⟨#[45, 45, 62]⟩, .int .i64 2] W fun e w' => e = .returned (.bool (decide (t.1 = cArrow))) ∧ w' = W := isP_any (hti.below hB) ht.2.1 [45, 45, 62] 2 (by decide)
    rw [show decide (t.1 = cArrow) = true by simpa using ha] at h8; exact h8
  obtain ⟨mx, emx⟩ : ∃ mx, mx = maxV (-1) (itC t) := ⟨_, rfl⟩
  have HMX : Hid (∀ W, Below w.heap.size w W → Calls Tryz.prog 14 #[.slice p n cap] W fun e w' => e = .returned (.int .i64 mx) ∧ w' = W) := fun W hB => by
    rw [hn, emx]; exact maxVar_any (itC t) p cap W (by omega) (itC_ok ht) (hti.2.2.2.below hB)
  obtain ⟨hgi, hcnt⟩ := gin_of ht hl ha
  rw [← emx] at hgi
  have hmr : -1 ≤ mx ∧ mx ≤ 1000000 := by rw [emx]; exact maxV_range (itC t) (-1) (itC_ok ht) (by decide) (by decide)
  have HTR : Hid (transT t = gAns (gCl nilT (kidG t 0) (kidG t 1) (mx + 1))) := by show _ = _; unfold transT; rw [if_pos ha, emx]
  have HAR : Hid (∀ W, Below w.heap.size w W → Calls Tryz.prog 15 #[.slice p n cap] W fun e w' => ∃ q m mc rs, e = .returned (.slice q m mc) ∧ m = (trs t.2).length ∧ w'.ownsRow W.heap.size 24 1 (.slice q m mc) m (rs.map slV) ∧ ArgRowU w rs (trs t.2) ∧ Below W.heap.size W w') := fun W hB => l2argsG_any hti hB (by omega) ht
  obtain ⟨l, el⟩ : ∃ l, l = kidG t 0 := ⟨_, rfl⟩
  obtain ⟨r, er⟩ : ∃ r, r = kidG t 1 := ⟨_, rfl⟩
  rw [← el, ← er] at hgi HTR
  rw [← el] at hc
  rw [← el] at kk
  obtain ⟨L, eL⟩ : ∃ L, L = l := ⟨_, rfl⟩
  have hLo : L.fo.ok := by rw [eL]; exact hgi.lo
  have hLs : (itC L).length ≤ 1999 := by rw [eL]; have := hgi.sz; omega
  have HQC : Hid (∀ (W : World) (u : Option Addr) (nu cu : Nat), TI w u nu cu l → Below w.heap.size w W → Calls Tryz.prog 13 #[.slice u nu cu, .string ⟨#[44]⟩, .int .i64 2] W fun e w' => e = .returned (.bool false) ∧ w' = W) := fun W u nu cu hT hB => by
    have h8 : Calls Tryz.prog 13 #[.slice u nu cu, .string ⟨#[44]⟩, .int .i64 2] W fun e w' => e = .returned (.bool (decide (l.1 = cComma))) ∧ w' = W := isP_any (hT.below hB) hgi.lo.2.1 [44] 2 (by decide)
    rw [show decide (l.1 = cComma) = false by simpa using hc] at h8; exact h8
  rw [← eL] at kk
  have hbad : (gCl nilT l r (mx + 1)).2.2 = 4 := gCl_bad (by rw [if_neg hc]; rw [eL] at kk; exact .inr (.inl kk))
  have HFI : Hid (∀ W, Below w.heap.size w W → NbRes w (transT t) (.returned (.tuple #[.slice none 0 0, .int .i64 4])) W) := fun W hB => by
    rw [HTR.out, gAns_code (by rw [hbad]; decide), hbad]
    exact ⟨none, 0, 0, rfl, OwnC.nil _ _, hB⟩
  have HEL : Hid (l = kidG t 0) := el
  have HER : Hid (r = kidG t 1) := er
  have HLL : Hid (L = l) := eL
  have HLS : Hid ((itC L).length ≤ 1999) := hLs
  clear hn hv ha emx el er hl ht hti hgi eL hbad hLo hLs HTR
  go_enter Tryz.func5, Tryz.ntmps5
  go_wp2_with fail
  refine HV.mono ?_
  rintro e w1 ⟨rfl, hb1⟩
  have HB1 : Hid (Below w.heap.size w w1) := hb1
  clear hb1 HV
  go_wp2_with fail
  refine (HQA.out w1 HB1.out).mono ?_
  rintro e wq ⟨rfl, ew⟩
  rw [ew]
  clear ew HQA
  go_wp2_with fail
  refine (HMX.out w1 HB1.out).mono ?_
  rintro e wq ⟨rfl, ew⟩
  rw [ew]
  clear ew HMX
  have HGA : Hid (GMm (w1.alloc (.cells #[.int .i64 (mx + 1), .int .i64 0] 40)) w1.heap.size (mx + 1, 0)) := gm_new w1 (mx + 1) (by omega)
  have HBA : Hid (Below w.heap.size w (w1.alloc (.cells #[.int .i64 (mx + 1), .int .i64 0] 40))) := HB1.out.alloc HB1.out.size _
  have HSA : Hid (w1.heap.size < (w1.alloc (.cells #[.int .i64 (mx + 1), .int .i64 0] 40)).heap.size) := by show _ < _; simp
  have HWG : Hid (w.heap.size ≤ w1.heap.size) := HB1.out.size
  go_wp2_with fail
  obtain ⟨W2, eW2⟩ : ∃ W2, W2 = w1.alloc (.cells #[.int .i64 (mx + 1), .int .i64 0] 40) := ⟨_, rfl⟩
  obtain ⟨gb, egb⟩ : ∃ gb, gb = w1.heap.size := ⟨_, rfl⟩
  rw [← eW2, ← egb] at HGA HSA
  rw [← eW2] at HBA
  rw [← egb] at HWG
  rw [← eW2, ← egb]
  clear eW2 egb HB1
  refine (HAR.out W2 HBA.out).mono ?_
  rintro e w3 ⟨q, m, mc, rs, rfl, hm, hrow, harg, hb3⟩
  have hm0 : 0 < m := by rw [hm, trs_len]; omega
  obtain ⟨g, eg, hkid⟩ := args_tk (gb := gb) hrow hm harg HSA.out hm0
  subst eg
  have hm2 : m = 2 := by rw [hm, trs_len]; exact hcnt
  obtain ⟨r0, n0, c0, kc0, kt0⟩ := hkid 0 (by omega)
  obtain ⟨r1, n1, c1, kc1, kt1⟩ := hkid 1 (by omega)
  rw [← HEL.out] at kt0
  rw [← HER.out] at kt1
  have HK1 : Hid (∀ W, w3.grownBy W (some gb) → W.cell? ⟨g, 1, none⟩ = some (.slice r1 n1 c1)) := kc1
  have HT0 : Hid (TI w r0 n0 c0 l) := kt0
  have HT1 : Hid (TI w r1 n1 c1 r) := kt1
  have HG3 : Hid (GMm w3 gb (mx + 1, 0)) := HGA.out.below hb3
  have HB3 : Hid (Below w.heap.size w w3) := Below.on HBA.out hb3
  have HS3 : Hid (gb < w3.heap.size) := Nat.lt_of_lt_of_le HSA.out hb3.size
  have f0 := kc0 w3 (grown_refl _ _)
  clear hkid kc0 kc1 kt0 kt1 hm hrow harg hb3 HAR hm0 HGA HBA HSA hcnt
  subst hm2
  go_wp2_with fail
  refine (HQC.out w3 r0 n0 c0 HT0.out HB3.out).mono ?_
  rintro e wq ⟨rfl, ew⟩
  rw [ew]
  clear ew HQC f0
  have HU0 : Hid (TI w r0 n0 c0 L) := by rw [HLL.out]; exact HT0.out
  have HG4 : Hid (GMm w3 gb (mx + 1, 0)) := HG3.out
  have HB4 : Hid (Below w.heap.size w w3) := HB3.out
  have HK4 : Hid (w3.grownBy w3 (some gb)) := grown_refl _ _
  obtain ⟨bL, oL, qL, cL, epL, d0, d1, d2, d3⟩ := (HU0.out.below HB4.out).head
  have hnL : 0 < n0 := by have := HU0.out.1; omega
  have hnLs : n0 ≤ 2000 := by have h8 := HU0.out.1; have h9 := HLS.out; simp only [itC, List.length_cons] at h9; omega
  rw [kk] at d0
  clear d1 d2 d3 kk
  have HU0' : Hid (TI w (some ⟨bL, oL, none⟩) n0 c0 L) := by rw [← epL]; exact HU0.out
  subst epL
  go_wp2_with fail
  go_ret2
  exact HFI.out _ HB4.out
set_option maxRecDepth 100000 in
set_option maxHeartbeats 2000000 in
theorem tr_plain_nil (t : Tr) (p : Option Addr) (n cap : Nat) (w : World) (ht : t.fo.ok) (hl : (itC t).length ≤ 2000) (hti : TI w p n cap t) (hv : validB (itC t) = true) (ha : t.1 = cArrow) (hc : ¬ (kidG t 0).1 = cComma) (kz : ¬ (kidG t 0).1.1 = 0) (ko : ¬ (kidG t 0).1.1 = 1) (knilC : (kidG t 0).1 = nilC) :
    Calls Tryz.prog 5 #[.slice p n cap] w (NbRes w (transT t)) := by
  have hn : n = (itC t).length := by rw [hti.1]; simp [itC]
  have HV : Calls Tryz.prog 12 #[.slice p n cap] w fun e w' => e = .returned (.bool true) ∧ Below w.heap.size w w' := by
    have h8 := specValid_any p cap (itC t) w (by omega) hti.2.2.2
    rw [hv, ← hn] at h8; exact h8
  have HQA : Hid (∀ W, Below w.heap.size w W → Calls Tryz.prog 13 #[.slice p n cap, .string ⟨#[45, 45, 62]⟩, .int .i64 2] W fun e w' => e = .returned (.bool true) ∧ w' = W) := fun W hB => by
    have h8 : Calls Tryz.prog 13 #[.slice p n cap, .string ⟨#[45, 45, 62]⟩, .int .i64 2] W fun e w' => e = .returned (.bool (decide (t.1 = cArrow))) ∧ w' = W := isP_any (hti.below hB) ht.2.1 [45, 45, 62] 2 (by decide)
    rw [show decide (t.1 = cArrow) = true by simpa using ha] at h8; exact h8
  obtain ⟨mx, emx⟩ : ∃ mx, mx = maxV (-1) (itC t) := ⟨_, rfl⟩
  have HMX : Hid (∀ W, Below w.heap.size w W → Calls Tryz.prog 14 #[.slice p n cap] W fun e w' => e = .returned (.int .i64 mx) ∧ w' = W) := fun W hB => by
    rw [hn, emx]; exact maxVar_any (itC t) p cap W (by omega) (itC_ok ht) (hti.2.2.2.below hB)
  obtain ⟨hgi, hcnt⟩ := gin_of ht hl ha
  rw [← emx] at hgi
  have hmr : -1 ≤ mx ∧ mx ≤ 1000000 := by rw [emx]; exact maxV_range (itC t) (-1) (itC_ok ht) (by decide) (by decide)
  have HTR : Hid (transT t = gAns (gCl nilT (kidG t 0) (kidG t 1) (mx + 1))) := by show _ = _; unfold transT; rw [if_pos ha, emx]
  have HAR : Hid (∀ W, Below w.heap.size w W → Calls Tryz.prog 15 #[.slice p n cap] W fun e w' => ∃ q m mc rs, e = .returned (.slice q m mc) ∧ m = (trs t.2).length ∧ w'.ownsRow W.heap.size 24 1 (.slice q m mc) m (rs.map slV) ∧ ArgRowU w rs (trs t.2) ∧ Below W.heap.size W w') := fun W hB => l2argsG_any hti hB (by omega) ht
  obtain ⟨l, el⟩ : ∃ l, l = kidG t 0 := ⟨_, rfl⟩
  obtain ⟨r, er⟩ : ∃ r, r = kidG t 1 := ⟨_, rfl⟩
  rw [← el, ← er] at hgi HTR
  rw [← el] at hc
  rw [← el] at kz ko knilC
  obtain ⟨L, eL⟩ : ∃ L, L = l := ⟨_, rfl⟩
  have hLo : L.fo.ok := by rw [eL]; exact hgi.lo
  have hLs : (itC L).length ≤ 1999 := by rw [eL]; have := hgi.sz; omega
  have HQC : Hid (∀ (W : World) (u : Option Addr) (nu cu : Nat), TI w u nu cu l → Below w.heap.size w W → Calls Tryz.prog 13 #[.slice u nu cu, .string ⟨#[44]⟩, .int .i64 2] W fun e w' => e = .returned (.bool false) ∧ w' = W) := fun W u nu cu hT hB => by
    have h8 : Calls Tryz.prog 13 #[.slice u nu cu, .string ⟨#[44]⟩, .int .i64 2] W fun e w' => e = .returned (.bool (decide (l.1 = cComma))) ∧ w' = W := isP_any (hT.below hB) hgi.lo.2.1 [44] 2 (by decide)
    rw [show decide (l.1 = cComma) = false by simpa using hc] at h8; exact h8
  rw [← eL] at kz ko knilC
  have hbad : (gCl nilT l r (mx + 1)).2.2 = 4 := gCl_bad (by rw [if_neg hc]; rw [eL] at knilC; exact .inr (.inr (.inl knilC)))
  have HFI : Hid (∀ W, Below w.heap.size w W → NbRes w (transT t) (.returned (.tuple #[.slice none 0 0, .int .i64 4])) W) := fun W hB => by
    rw [HTR.out, gAns_code (by rw [hbad]; decide), hbad]
    exact ⟨none, 0, 0, rfl, OwnC.nil _ _, hB⟩
  have HQN : Hid (∀ (W : World) (u : Option Addr) (nu cu : Nat), TI w u nu cu L → Below w.heap.size w W → Calls Tryz.prog 13 #[.slice u nu cu, .string ⟨#[91, 93]⟩, .int .i64 0] W fun e w' => e = .returned (.bool true) ∧ w' = W) := fun W u nu cu hT hB => by
    have h8 : Calls Tryz.prog 13 #[.slice u nu cu, .string ⟨#[91, 93]⟩, .int .i64 0] W fun e w' => e = .returned (.bool (decide (L.1 = nilC))) ∧ w' = W := isZ_any (hT.below hB) hLo.2.1 hLo.1 [91, 93]
    rw [show decide (L.1 = nilC) = true by simpa using knilC] at h8; exact h8
  have HEL : Hid (l = kidG t 0) := el
  have HER : Hid (r = kidG t 1) := er
  have HLL : Hid (L = l) := eL
  have HLS : Hid ((itC L).length ≤ 1999) := hLs
  clear hn hv ha emx el er hl ht hti hgi eL hbad hLo hLs HTR knilC
  go_enter Tryz.func5, Tryz.ntmps5
  go_wp2_with fail
  refine HV.mono ?_
  rintro e w1 ⟨rfl, hb1⟩
  have HB1 : Hid (Below w.heap.size w w1) := hb1
  clear hb1 HV
  go_wp2_with fail
  refine (HQA.out w1 HB1.out).mono ?_
  rintro e wq ⟨rfl, ew⟩
  rw [ew]
  clear ew HQA
  go_wp2_with fail
  refine (HMX.out w1 HB1.out).mono ?_
  rintro e wq ⟨rfl, ew⟩
  rw [ew]
  clear ew HMX
  have HGA : Hid (GMm (w1.alloc (.cells #[.int .i64 (mx + 1), .int .i64 0] 40)) w1.heap.size (mx + 1, 0)) := gm_new w1 (mx + 1) (by omega)
  have HBA : Hid (Below w.heap.size w (w1.alloc (.cells #[.int .i64 (mx + 1), .int .i64 0] 40))) := HB1.out.alloc HB1.out.size _
  have HSA : Hid (w1.heap.size < (w1.alloc (.cells #[.int .i64 (mx + 1), .int .i64 0] 40)).heap.size) := by show _ < _; simp
  have HWG : Hid (w.heap.size ≤ w1.heap.size) := HB1.out.size
  go_wp2_with fail
  obtain ⟨W2, eW2⟩ : ∃ W2, W2 = w1.alloc (.cells #[.int .i64 (mx + 1), .int .i64 0] 40) := ⟨_, rfl⟩
  obtain ⟨gb, egb⟩ : ∃ gb, gb = w1.heap.size := ⟨_, rfl⟩
  rw [← eW2, ← egb] at HGA HSA
  rw [← eW2] at HBA
  rw [← egb] at HWG
  rw [← eW2, ← egb]
  clear eW2 egb HB1
  refine (HAR.out W2 HBA.out).mono ?_
  rintro e w3 ⟨q, m, mc, rs, rfl, hm, hrow, harg, hb3⟩
  have hm0 : 0 < m := by rw [hm, trs_len]; omega
  obtain ⟨g, eg, hkid⟩ := args_tk (gb := gb) hrow hm harg HSA.out hm0
  subst eg
  have hm2 : m = 2 := by rw [hm, trs_len]; exact hcnt
  obtain ⟨r0, n0, c0, kc0, kt0⟩ := hkid 0 (by omega)
  obtain ⟨r1, n1, c1, kc1, kt1⟩ := hkid 1 (by omega)
  rw [← HEL.out] at kt0
  rw [← HER.out] at kt1
  have HK1 : Hid (∀ W, w3.grownBy W (some gb) → W.cell? ⟨g, 1, none⟩ = some (.slice r1 n1 c1)) := kc1
  have HT0 : Hid (TI w r0 n0 c0 l) := kt0
  have HT1 : Hid (TI w r1 n1 c1 r) := kt1
  have HG3 : Hid (GMm w3 gb (mx + 1, 0)) := HGA.out.below hb3
  have HB3 : Hid (Below w.heap.size w w3) := Below.on HBA.out hb3
  have HS3 : Hid (gb < w3.heap.size) := Nat.lt_of_lt_of_le HSA.out hb3.size
  have f0 := kc0 w3 (grown_refl _ _)
  clear hkid kc0 kc1 kt0 kt1 hm hrow harg hb3 HAR hm0 HGA HBA HSA hcnt
  subst hm2
  go_wp2_with fail
  refine (HQC.out w3 r0 n0 c0 HT0.out HB3.out).mono ?_
  rintro e wq ⟨rfl, ew⟩
  rw [ew]
  clear ew HQC f0
  have HU0 : Hid (TI w r0 n0 c0 L) := by rw [HLL.out]; exact HT0.out
  have HG4 : Hid (GMm w3 gb (mx + 1, 0)) := HG3.out
  have HB4 : Hid (Below w.heap.size w w3) := HB3.out
  have HK4 : Hid (w3.grownBy w3 (some gb)) := grown_refl _ _
  obtain ⟨bL, oL, qL, cL, epL, d0, d1, d2, d3⟩ := (HU0.out.below HB4.out).head
  have hnL : 0 < n0 := by have := HU0.out.1; omega
  have hnLs : n0 ≤ 2000 := by have h8 := HU0.out.1; have h9 := HLS.out; simp only [itC, List.length_cons] at h9; omega
  obtain ⟨x, ex⟩ : ∃ x, x = L.1.1 := ⟨_, rfl⟩
  rw [← ex] at d0 kz ko
  have kzb : (x == 0) = false := by simpa using kz
  have kob : (x == 1) = false := by simpa using ko
  clear ex d1 d2 d3
  have HU0' : Hid (TI w (some ⟨bL, oL, none⟩) n0 c0 L) := by rw [← epL]; exact HU0.out
  subst epL
  go_wp2_with fail
  refine (HQN.out w3 (some ⟨bL, oL, none⟩) n0 c0 HU0'.out HB4.out).mono ?_
  rintro e wq ⟨rfl, ew⟩
  rw [ew]
  clear ew
  go_wp2_with fail
  go_ret2
  exact HFI.out _ HB4.out
set_option maxRecDepth 100000 in
set_option maxHeartbeats 2000000 in
theorem tr_plain_dot (t : Tr) (p : Option Addr) (n cap : Nat) (w : World) (ht : t.fo.ok) (hl : (itC t).length ≤ 2000) (hti : TI w p n cap t) (hv : validB (itC t) = true) (ha : t.1 = cArrow) (hc : ¬ (kidG t 0).1 = cComma) (kz : ¬ (kidG t 0).1.1 = 0) (ko : ¬ (kidG t 0).1.1 = 1) (knilC : ¬ (kidG t 0).1 = nilC) (kdot : (kidG t 0).1 = dot) :
    Calls Tryz.prog 5 #[.slice p n cap] w (NbRes w (transT t)) := by
  have hn : n = (itC t).length := by rw [hti.1]; simp [itC]
  have HV : Calls Tryz.prog 12 #[.slice p n cap] w fun e w' => e = .returned (.bool true) ∧ Below w.heap.size w w' := by
    have h8 := specValid_any p cap (itC t) w (by omega) hti.2.2.2
    rw [hv, ← hn] at h8; exact h8
  have HQA : Hid (∀ W, Below w.heap.size w W → Calls Tryz.prog 13 #[.slice p n cap, .string ⟨#[45, 45, 62]⟩, .int .i64 2] W fun e w' => e = .returned (.bool true) ∧ w' = W) := fun W hB => by
    have h8 : Calls Tryz.prog 13 #[.slice p n cap, .string ⟨#[45, 45, 62]⟩, .int .i64 2] W fun e w' => e = .returned (.bool (decide (t.1 = cArrow))) ∧ w' = W := isP_any (hti.below hB) ht.2.1 [45, 45, 62] 2 (by decide)
    rw [show decide (t.1 = cArrow) = true by simpa using ha] at h8; exact h8
  obtain ⟨mx, emx⟩ : ∃ mx, mx = maxV (-1) (itC t) := ⟨_, rfl⟩
  have HMX : Hid (∀ W, Below w.heap.size w W → Calls Tryz.prog 14 #[.slice p n cap] W fun e w' => e = .returned (.int .i64 mx) ∧ w' = W) := fun W hB => by
    rw [hn, emx]; exact maxVar_any (itC t) p cap W (by omega) (itC_ok ht) (hti.2.2.2.below hB)
  obtain ⟨hgi, hcnt⟩ := gin_of ht hl ha
  rw [← emx] at hgi
  have hmr : -1 ≤ mx ∧ mx ≤ 1000000 := by rw [emx]; exact maxV_range (itC t) (-1) (itC_ok ht) (by decide) (by decide)
  have HTR : Hid (transT t = gAns (gCl nilT (kidG t 0) (kidG t 1) (mx + 1))) := by show _ = _; unfold transT; rw [if_pos ha, emx]
  have HAR : Hid (∀ W, Below w.heap.size w W → Calls Tryz.prog 15 #[.slice p n cap] W fun e w' => ∃ q m mc rs, e = .returned (.slice q m mc) ∧ m = (trs t.2).length ∧ w'.ownsRow W.heap.size 24 1 (.slice q m mc) m (rs.map slV) ∧ ArgRowU w rs (trs t.2) ∧ Below W.heap.size W w') := fun W hB => l2argsG_any hti hB (by omega) ht
  obtain ⟨l, el⟩ : ∃ l, l = kidG t 0 := ⟨_, rfl⟩
  obtain ⟨r, er⟩ : ∃ r, r = kidG t 1 := ⟨_, rfl⟩
  rw [← el, ← er] at hgi HTR
  rw [← el] at hc
  rw [← el] at kz ko knilC kdot
  obtain ⟨L, eL⟩ : ∃ L, L = l := ⟨_, rfl⟩
  have hLo : L.fo.ok := by rw [eL]; exact hgi.lo
  have hLs : (itC L).length ≤ 1999 := by rw [eL]; have := hgi.sz; omega
  have HQC : Hid (∀ (W : World) (u : Option Addr) (nu cu : Nat), TI w u nu cu l → Below w.heap.size w W → Calls Tryz.prog 13 #[.slice u nu cu, .string ⟨#[44]⟩, .int .i64 2] W fun e w' => e = .returned (.bool false) ∧ w' = W) := fun W u nu cu hT hB => by
    have h8 : Calls Tryz.prog 13 #[.slice u nu cu, .string ⟨#[44]⟩, .int .i64 2] W fun e w' => e = .returned (.bool (decide (l.1 = cComma))) ∧ w' = W := isP_any (hT.below hB) hgi.lo.2.1 [44] 2 (by decide)
    rw [show decide (l.1 = cComma) = false by simpa using hc] at h8; exact h8
  rw [← eL] at kz ko knilC kdot
  have hbad : (gCl nilT l r (mx + 1)).2.2 = 4 := gCl_bad (by rw [if_neg hc]; rw [eL] at kdot; exact .inr (.inr (.inr kdot)))
  have HFI : Hid (∀ W, Below w.heap.size w W → NbRes w (transT t) (.returned (.tuple #[.slice none 0 0, .int .i64 4])) W) := fun W hB => by
    rw [HTR.out, gAns_code (by rw [hbad]; decide), hbad]
    exact ⟨none, 0, 0, rfl, OwnC.nil _ _, hB⟩
  have HQN : Hid (∀ (W : World) (u : Option Addr) (nu cu : Nat), TI w u nu cu L → Below w.heap.size w W → Calls Tryz.prog 13 #[.slice u nu cu, .string ⟨#[91, 93]⟩, .int .i64 0] W fun e w' => e = .returned (.bool false) ∧ w' = W) := fun W u nu cu hT hB => by
    have h8 : Calls Tryz.prog 13 #[.slice u nu cu, .string ⟨#[91, 93]⟩, .int .i64 0] W fun e w' => e = .returned (.bool (decide (L.1 = nilC))) ∧ w' = W := isZ_any (hT.below hB) hLo.2.1 hLo.1 [91, 93]
    rw [show decide (L.1 = nilC) = false by simpa using knilC] at h8; exact h8
  have HQD : Hid (∀ (W : World) (u : Option Addr) (nu cu : Nat), TI w u nu cu L → Below w.heap.size w W → Calls Tryz.prog 13 #[.slice u nu cu, .string ⟨#[46]⟩, .int .i64 2] W fun e w' => e = .returned (.bool true) ∧ w' = W) := fun W u nu cu hT hB => by
    have h8 : Calls Tryz.prog 13 #[.slice u nu cu, .string ⟨#[46]⟩, .int .i64 2] W fun e w' => e = .returned (.bool (decide (L.1 = dot))) ∧ w' = W := isP_any (hT.below hB) hLo.2.1 [46] 2 (by decide)
    rw [show decide (L.1 = dot) = true by simpa using kdot] at h8; exact h8
  have HEL : Hid (l = kidG t 0) := el
  have HER : Hid (r = kidG t 1) := er
  have HLL : Hid (L = l) := eL
  have HLS : Hid ((itC L).length ≤ 1999) := hLs
  clear hn hv ha emx el er hl ht hti hgi eL hbad hLo hLs HTR knilC kdot
  go_enter Tryz.func5, Tryz.ntmps5
  go_wp2_with fail
  refine HV.mono ?_
  rintro e w1 ⟨rfl, hb1⟩
  have HB1 : Hid (Below w.heap.size w w1) := hb1
  clear hb1 HV
  go_wp2_with fail
  refine (HQA.out w1 HB1.out).mono ?_
  rintro e wq ⟨rfl, ew⟩
  rw [ew]
  clear ew HQA
  go_wp2_with fail
  refine (HMX.out w1 HB1.out).mono ?_
  rintro e wq ⟨rfl, ew⟩
  rw [ew]
  clear ew HMX
  have HGA : Hid (GMm (w1.alloc (.cells #[.int .i64 (mx + 1), .int .i64 0] 40)) w1.heap.size (mx + 1, 0)) := gm_new w1 (mx + 1) (by omega)
  have HBA : Hid (Below w.heap.size w (w1.alloc (.cells #[.int .i64 (mx + 1), .int .i64 0] 40))) := HB1.out.alloc HB1.out.size _
  have HSA : Hid (w1.heap.size < (w1.alloc (.cells #[.int .i64 (mx + 1), .int .i64 0] 40)).heap.size) := by show _ < _; simp
  have HWG : Hid (w.heap.size ≤ w1.heap.size) := HB1.out.size
  go_wp2_with fail
  obtain ⟨W2, eW2⟩ : ∃ W2, W2 = w1.alloc (.cells #[.int .i64 (mx + 1), .int .i64 0] 40) := ⟨_, rfl⟩
  obtain ⟨gb, egb⟩ : ∃ gb, gb = w1.heap.size := ⟨_, rfl⟩
  rw [← eW2, ← egb] at HGA HSA
  rw [← eW2] at HBA
  rw [← egb] at HWG
  rw [← eW2, ← egb]
  clear eW2 egb HB1
  refine (HAR.out W2 HBA.out).mono ?_
  rintro e w3 ⟨q, m, mc, rs, rfl, hm, hrow, harg, hb3⟩
  have hm0 : 0 < m := by rw [hm, trs_len]; omega
  obtain ⟨g, eg, hkid⟩ := args_tk (gb := gb) hrow hm harg HSA.out hm0
  subst eg
  have hm2 : m = 2 := by rw [hm, trs_len]; exact hcnt
  obtain ⟨r0, n0, c0, kc0, kt0⟩ := hkid 0 (by omega)
  obtain ⟨r1, n1, c1, kc1, kt1⟩ := hkid 1 (by omega)
  rw [← HEL.out] at kt0
  rw [← HER.out] at kt1
  have HK1 : Hid (∀ W, w3.grownBy W (some gb) → W.cell? ⟨g, 1, none⟩ = some (.slice r1 n1 c1)) := kc1
  have HT0 : Hid (TI w r0 n0 c0 l) := kt0
  have HT1 : Hid (TI w r1 n1 c1 r) := kt1
  have HG3 : Hid (GMm w3 gb (mx + 1, 0)) := HGA.out.below hb3
  have HB3 : Hid (Below w.heap.size w w3) := Below.on HBA.out hb3
  have HS3 : Hid (gb < w3.heap.size) := Nat.lt_of_lt_of_le HSA.out hb3.size
  have f0 := kc0 w3 (grown_refl _ _)
  clear hkid kc0 kc1 kt0 kt1 hm hrow harg hb3 HAR hm0 HGA HBA HSA hcnt
  subst hm2
  go_wp2_with fail
  refine (HQC.out w3 r0 n0 c0 HT0.out HB3.out).mono ?_
  rintro e wq ⟨rfl, ew⟩
  rw [ew]
  clear ew HQC f0
  have HU0 : Hid (TI w r0 n0 c0 L) := by rw [HLL.out]; exact HT0.out
  have HG4 : Hid (GMm w3 gb (mx + 1, 0)) := HG3.out
  have HB4 : Hid (Below w.heap.size w w3) := HB3.out
  have HK4 : Hid (w3.grownBy w3 (some gb)) := grown_refl _ _
  obtain ⟨bL, oL, qL, cL, epL, d0, d1, d2, d3⟩ := (HU0.out.below HB4.out).head
  have hnL : 0 < n0 := by have := HU0.out.1; omega
  have hnLs : n0 ≤ 2000 := by have h8 := HU0.out.1; have h9 := HLS.out; simp only [itC, List.length_cons] at h9; omega
  obtain ⟨x, ex⟩ : ∃ x, x = L.1.1 := ⟨_, rfl⟩
  rw [← ex] at d0 kz ko
  have kzb : (x == 0) = false := by simpa using kz
  have kob : (x == 1) = false := by simpa using ko
  clear ex d1 d2 d3
  have HU0' : Hid (TI w (some ⟨bL, oL, none⟩) n0 c0 L) := by rw [← epL]; exact HU0.out
  subst epL
  go_wp2_with fail
  refine (HQN.out w3 (some ⟨bL, oL, none⟩) n0 c0 HU0'.out HB4.out).mono ?_
  rintro e wq ⟨rfl, ew⟩
  rw [ew]
  clear ew
  go_wp2_with fail
  refine (HQD.out w3 (some ⟨bL, oL, none⟩) n0 c0 HU0'.out HB4.out).mono ?_
  rintro e wq ⟨rfl, ew⟩
  rw [ew]
  clear ew
  go_wp2_with fail
  go_ret2
  exact HFI.out _ HB4.out
set_option maxRecDepth 100000 in
set_option maxHeartbeats 2000000 in
theorem tr_push_good (t : Tr) (p : Option Addr) (n cap : Nat) (w : World) (ht : t.fo.ok) (hl : (itC t).length ≤ 2000) (hti : TI w p n cap t) (hv : validB (itC t) = true) (ha : t.1 = cArrow) (hc : (kidG t 0).1 = cComma) (kz : ¬ (kidG (kidG t 0) 0).1.1 = 0) (ko : ¬ (kidG (kidG t 0) 0).1.1 = 1) (knilC : ¬ (kidG (kidG t 0) 0).1 = nilC) (kdot : ¬ (kidG (kidG t 0) 0).1 = dot) :
    Calls Tryz.prog 5 #[.slice p n cap] w (NbRes w (transT t)) := by
  have hn : n = (itC t).length := by rw [hti.1]; simp [itC]
  have HV : Calls Tryz.prog 12 #[.slice p n cap] w fun e w' => e = .returned (.bool true) ∧ Below w.heap.size w w' := by
    have h8 := specValid_any p cap (itC t) w (by omega) hti.2.2.2
    rw [hv, ← hn] at h8; exact h8
  have HQA : Hid (∀ W, Below w.heap.size w W → Calls Tryz.prog 13 #[.slice p n cap, .string ⟨#[45, 45, 62]⟩, .int .i64 2] W fun e w' => e = .returned (.bool true) ∧ w' = W) := fun W hB => by
    have h8 : Calls Tryz.prog 13 #[.slice p n cap, .string ⟨#[45, 45, 62]⟩, .int .i64 2] W fun e w' => e = .returned (.bool (decide (t.1 = cArrow))) ∧ w' = W := isP_any (hti.below hB) ht.2.1 [45, 45, 62] 2 (by decide)
    rw [show decide (t.1 = cArrow) = true by simpa using ha] at h8; exact h8
  obtain ⟨mx, emx⟩ : ∃ mx, mx = maxV (-1) (itC t) := ⟨_, rfl⟩
  have HMX : Hid (∀ W, Below w.heap.size w W → Calls Tryz.prog 14 #[.slice p n cap] W fun e w' => e = .returned (.int .i64 mx) ∧ w' = W) := fun W hB => by
    rw [hn, emx]; exact maxVar_any (itC t) p cap W (by omega) (itC_ok ht) (hti.2.2.2.below hB)
  obtain ⟨hgi, hcnt⟩ := gin_of ht hl ha
  rw [← emx] at hgi
  have hmr : -1 ≤ mx ∧ mx ≤ 1000000 := by rw [emx]; exact maxV_range (itC t) (-1) (itC_ok ht) (by decide) (by decide)
  have HTR : Hid (transT t = gAns (gCl nilT (kidG t 0) (kidG t 1) (mx + 1))) := by show _ = _; unfold transT; rw [if_pos ha, emx]
  have HAR : Hid (∀ W, Below w.heap.size w W → Calls Tryz.prog 15 #[.slice p n cap] W fun e w' => ∃ q m mc rs, e = .returned (.slice q m mc) ∧ m = (trs t.2).length ∧ w'.ownsRow W.heap.size 24 1 (.slice q m mc) m (rs.map slV) ∧ ArgRowU w rs (trs t.2) ∧ Below W.heap.size W w') := fun W hB => l2argsG_any hti hB (by omega) ht
  obtain ⟨l, el⟩ : ∃ l, l = kidG t 0 := ⟨_, rfl⟩
  obtain ⟨r, er⟩ : ∃ r, r = kidG t 1 := ⟨_, rfl⟩
  rw [← el, ← er] at hgi HTR
  rw [← el] at hc kz ko knilC kdot
  obtain ⟨k0, k1, k2, _, _⟩ := kid2 hgi.lo hc
  have hcl : l.2.count = 2 := count_of hgi.lo (n := 2) hc
  have HA2 : Hid (∀ (W : World) (u : Option Addr) (nu cu : Nat), TI w u nu cu l → Below w.heap.size w W → Calls Tryz.prog 15 #[.slice u nu cu] W fun e w' => ∃ q m mc rs, e = .returned (.slice q m mc) ∧ m = (trs l.2).length ∧ w'.ownsRow W.heap.size 24 1 (.slice q m mc) m (rs.map slV) ∧ ArgRowU w rs (trs l.2) ∧ Below W.heap.size W w') := fun W u nu cu hT hB => l2argsG_any hT hB (by rw [hT.1]; have := hgi.sz; simp only [itC, List.length_cons] at this; omega) hgi.lo
  obtain ⟨L, eL⟩ : ∃ L, L = kidG l 0 := ⟨_, rfl⟩
  obtain ⟨U, eU⟩ : ∃ U, U = kidG l 1 := ⟨_, rfl⟩
  have hLo : L.fo.ok := by rw [eL]; exact k0
  have hLs : (itC L).length ≤ 1999 := by rw [eL]; have := hgi.sz; omega
  have HQC : Hid (∀ (W : World) (u : Option Addr) (nu cu : Nat), TI w u nu cu l → Below w.heap.size w W → Calls Tryz.prog 13 #[.slice u nu cu, .string ⟨#[44]⟩, .int .i64 2] W fun e w' => e = .returned (.bool true) ∧ w' = W) := fun W u nu cu hT hB => by
    have h8 : Calls Tryz.prog 13 #[.slice u nu cu, .string ⟨#[44]⟩, .int .i64 2] W fun e w' => e = .returned (.bool (decide (l.1 = cComma))) ∧ w' = W := isP_any (hT.below hB) hgi.lo.2.1 [44] 2 (by decide)
    rw [show decide (l.1 = cComma) = true by simpa using hc] at h8; exact h8
  rw [← eL] at kz ko knilC kdot
  have HQN : Hid (∀ (W : World) (u : Option Addr) (nu cu : Nat), TI w u nu cu L → Below w.heap.size w W → Calls Tryz.prog 13 #[.slice u nu cu, .string ⟨#[91, 93]⟩, .int .i64 0] W fun e w' => e = .returned (.bool false) ∧ w' = W) := fun W u nu cu hT hB => by
    have h8 : Calls Tryz.prog 13 #[.slice u nu cu, .string ⟨#[91, 93]⟩, .int .i64 0] W fun e w' => e = .returned (.bool (decide (L.1 = nilC))) ∧ w' = W := isZ_any (hT.below hB) hLo.2.1 hLo.1 [91, 93]
    rw [show decide (L.1 = nilC) = false by simpa using knilC] at h8; exact h8
  have HQD : Hid (∀ (W : World) (u : Option Addr) (nu cu : Nat), TI w u nu cu L → Below w.heap.size w W → Calls Tryz.prog 13 #[.slice u nu cu, .string ⟨#[46]⟩, .int .i64 2] W fun e w' => e = .returned (.bool false) ∧ w' = W) := fun W u nu cu hT hB => by
    have h8 : Calls Tryz.prog 13 #[.slice u nu cu, .string ⟨#[46]⟩, .int .i64 2] W fun e w' => e = .returned (.bool (decide (L.1 = dot))) ∧ w' = W := isP_any (hT.below hB) hLo.2.1 [46] 2 (by decide)
    rw [show decide (L.1 = dot) = false by simpa using kdot] at h8; exact h8
  have hng : ¬ (L.1.1 = 0 ∨ L.1.1 = 1 ∨ L.1 = nilC ∨ L.1 = dot) := fun h => by rcases h with h | h | h | h; exact kz h; exact ko h; exact knilC h; exact kdot h
  have h0 := hgi.nx0
  have h1 := hgi.nx1
  have hs := hgi.sz
  obtain ⟨H, eH⟩ : ∃ H, H = gMore nilT L (mx + 1) (mx + 1 + 1) (mx + 1 + 1 + 1, 0) := ⟨_, rfl⟩
  have hH1 : H.2.1 = mx + 1 + 1 + 1 := by rw [eH]; exact gMore_fst _ _ _ _ _
  have HMO : Hid (∀ (W : World) (u : Option Addr) (nu cu : Nat) (pa pb : Option Addr) (ca cb : Nat), TI w u nu cu L → Below w.heap.size w W → ∀ gb, TK W gb pa 1 ca (vT (mx + 1)) → TK W gb pb 1 cb (vT (mx + 1 + 1)) → GMm W gb (mx + 1 + 1 + 1, 0) → Calls Tryz.prog 17 #[.pointer (some ⟨gb, 0, none⟩), .slice u nu cu, .slice pa 1 ca, .slice pb 1 cb] W (GOutM W gb H)) := fun W u nu cu pa pb ca cb hT hB gb h1 h2 h3 => by rw [eH]; exact l8more_any gb w L u nu cu pa pb ca cb _ _ _ W hLo (by omega) hT hB h1 h2 h3
  obtain ⟨B, eB⟩ : ∃ B, B = gPh nilT (itC r).length r (mx + 1) (mx + 1 + 1 + 1) (mx + 1 + 1 + 1 + 1, H.2.2) := ⟨_, rfl⟩
  have hBo : GOk r (itC r).length (mx + 1 + 1 + 1 + 1, H.2.2) B := by rw [eB]; exact gPh_ok nilT_ok (itC r).length r (mx + 1) (mx + 1 + 1 + 1) (mx + 1 + 1 + 1 + 1, H.2.2) hgi.ro (Nat.le_refl _) ⟨h0, by omega⟩ ⟨by omega, by omega⟩ (by show 0 ≤ mx + 1 + 1 + 1 + 1; omega) (by show mx + 1 + 1 + 1 + 1 + _ ≤ _; omega)
  have hBu := hBo.up
  have hBf := hBo.few
  simp only at hBu hBf
  have HPH : Hid (∀ (W : World) (u : Option Addr) (nu cu : Nat) (pa pb : Option Addr) (ca cb : Nat), TI w u nu cu r → Below w.heap.size w W → ∀ gb, w.heap.size ≤ gb → TK W gb pa 1 ca (vT (mx + 1)) → TK W gb pb 1 cb (vT (mx + 1 + 1 + 1)) → GMm W gb (mx + 1 + 1 + 1 + 1, H.2.2) → Calls Tryz.prog 18 #[.pointer (some ⟨gb, 0, none⟩), .slice u nu cu, .slice pa 1 ca, .slice pb 1 cb] W (GOutM W gb B)) := fun W u nu cu pa pb ca cb hT hB gb hgb h1' h2 h3 => by rw [eB]; exact phrase_all gb w hgb (itC r).length r u nu cu pa pb ca cb _ _ _ W hgi.ro (Nat.le_refl _) (by omega) hT hB h1' h2 ⟨h0, by omega⟩ ⟨by omega, by omega⟩ (by show 0 ≤ mx + 1 + 1 + 1 + 1; omega) (by show mx + 1 + 1 + 1 + 1 + _ ≤ _; omega) h3
  have HNW : Hid (∀ (W : World) (gb : Nat) (s : GSt), s.1 ≤ 1500000 → GMm W gb s → Calls Tryz.prog 16 #[.pointer (some ⟨gb, 0, none⟩)] W (GOutM W gb (vT s.1, (s.1 + 1, s.2)))) := fun W gb s hs' hG => l8new_any gb s W hG hs'
  have hHo : Fit H.1 := by rw [eH]; exact ⟨(gMore_ok nilT_ok ⟨h0, by omega⟩ ⟨by omega, by omega⟩ _ hLo).ok, by have := (gMore_ok nilT_ok (a := mx + 1) (b := mx + 1 + 1) ⟨h0, by omega⟩ ⟨by omega, by omega⟩ (mx + 1 + 1 + 1, 0) hLo).len; omega⟩
  obtain ⟨D, eD⟩ : ∃ D, D = gTer nilT U (mx + 1 + 1) (mx + 1 + 1 + 1) B.2 := ⟨_, rfl⟩
  have hUo : U.fo.ok := by rw [eU]; exact k1
  have hUs : (itC U).length ≤ 1999 := by rw [eU]; omega
  have hDo : GOk U (itC U).length B.2 D := by rw [eD]; exact gTer_ok nilT_ok ⟨by omega, by omega⟩ ⟨by omega, by omega⟩ _ hUo
  have HTE : Hid (∀ (W : World) (u : Option Addr) (nu cu : Nat) (pa pb : Option Addr) (ca cb : Nat), TI w u nu cu U → Below w.heap.size w W → ∀ gb, TK W gb pa 1 ca (vT (mx + 1 + 1)) → TK W gb pb 1 cb (vT (mx + 1 + 1 + 1)) → GMm W gb B.2 → Calls Tryz.prog 20 #[.pointer (some ⟨gb, 0, none⟩), .slice u nu cu, .slice pa 1 ca, .slice pb 1 cb] W (GOutM W gb D)) := fun W u nu cu pa pb ca cb hT hB gb h1' h2 h3 => by rw [eD]; exact l8ter_any gb U u nu cu pa pb ca cb _ _ ⟨by omega, by omega⟩ ⟨by omega, by omega⟩ _ W hUo (by omega) (hT.below hB) h1' h2 h3
  have eK : strOfNums [44] = ⟨#[44]⟩ := rfl
  have HPA : Hid (∀ (W : World) (gb : Nat) (r1 r2 : Option Addr) (n1 n2 c1 c2 : Nat), TK W gb r1 n1 c1 B.1 → TK W gb r2 n2 c2 D.1 → GMm W gb D.2 → Calls Tryz.prog 19 #[.string ⟨#[44]⟩, .slice r1 n1 c1, .slice r2 n2 c2] W (GOutM W gb (cmpT [44] [B.1, D.1], D.2))) := fun W gb r1 r2 n1 n2 c1 c2 h1' h2 h3 => by
    have h8 := pair_tk gb [44] (byte_small (by decide)) B.1 D.1 (fit_g hBo (by omega)) (fit_g hDo (by omega)) r1 r2 n1 n2 c1 c2 _ W h1' h2 h3
    rw [eK] at h8; exact h8
  have hgn := gMore_next nilT L (mx + 1) (mx + 1 + 1) (mx + 1 + 1 + 1 + 1) (mx + 1 + 1 + 1) 0
  rw [← eH] at hgn
  have EC : gCl nilT l r (mx + 1) = (cmpT [58, 45] [H.1, cmpT [44] [B.1, D.1]], D.2) := by
    have e3 : mx + 1 + 3 = mx + 1 + 1 + 1 + 1 := by omega
    have e2 : mx + 1 + 2 = mx + 1 + 1 + 1 := by omega
    have eh : gHd nilT (kidG l 0) (mx + 1) (mx + 1 + 1) (mx + 1 + 3, 0) = (H.1, (mx + 1 + 1 + 1 + 1, H.2.2)) := by rw [← eL, e3]; unfold gHd; rw [if_neg hng]; exact Prod.ext hgn.1 hgn.2
    rw [gCl_push nilT r (mx + 1) hc, eh, e2, ← eU, ← eB, ← eD]
  have hbl : (itC (cmpT [44] [B.1, D.1])).length ≤ 21000 := by rw [cmpT_cells]; have := hBo.len; have := hDo.len; simp only [List.flatMap_cons, List.flatMap_nil, List.length_cons, List.length_append, List.length_nil]; omega
  have hbo : okG (cmpT [44] [B.1, D.1]).fo := cmpT_okG (byte_small (by decide)) (by decide) (by simp) (by simp) (fun x hx => by rcases mem2 hx with rfl | rfl; exact hBo.ok; exact hDo.ok)
  have hgk := gCl_ok nilT_ok hgi
  have hkl := hgk.len
  have hku := hgk.up
  have hkf := hgk.few
  rw [EC] at hkl hku hkf
  simp only at hku hkf hkl
  have eR : strOfNums [58, 45] = ⟨#[58, 45]⟩ := rfl
  have HCL : Hid (itC (cmpT [58, 45] [H.1, cmpT [44] [B.1, D.1]]) = (3, 2, [58, 45]) :: (itC H.1 ++ itC (cmpT [44] [B.1, D.1]))) := by show _ = _; rw [cmpT_cells]; simp
  have HPR : Hid (∀ (W : World) (gb : Nat) (r1 r2 : Option Addr) (n1 n2 c1 c2 : Nat), TK W gb r1 n1 c1 H.1 → TK W gb r2 n2 c2 (cmpT [44] [B.1, D.1]) → Calls Tryz.prog 19 #[.string ⟨#[58, 45]⟩, .slice r1 n1 c1, .slice r2 n2 c2] W fun e w' => ∃ q m c2, e = .returned (.slice q m c2) ∧ OwnC w' W.heap.size q m c2 (itC (cmpT [58, 45] [H.1, cmpT [44] [B.1, D.1]])) ∧ Below W.heap.size W w') := fun W gb r1 r2 n1 n2 c1 c2 h1' h2 => by
    have hb9 : (itC (cmpT [44] [B.1, D.1])).length + tl (itC (cmpT [44] [B.1, D.1])) ≤ 2000000 := by
      have h7 : (itC (cmpT [44] [B.1, D.1])).length ≤ 10000 := by have h8 := HCL.out; have h9 := congrArg List.length h8; simp only [List.length_cons, List.length_append] at h9; omega
      have := tr_size hbo h7; omega
    have h8 := l2pairO_any [58, 45] (byte_small (by decide)) r1 r2 n1 n2 c1 c2 (itC H.1) (itC (cmpT [44] [B.1, D.1])) W h1'.1 h2.1 h1'.2.2.2.cin h2.2.2.2.cin (itC_pos _) (itC_pos _) hHo.size hb9
    rw [eR] at h8
    rw [HCL.out]; exact h8
  obtain ⟨X, eX⟩ : ∃ X, X = cmpT [58, 45] [H.1, cmpT [44] [B.1, D.1]] := ⟨_, rfl⟩
  rw [← eX] at HPR EC hkl
  obtain ⟨S, eS⟩ : ∃ S : GSt, S = D.2 := ⟨_, rfl⟩
  have HES : Hid (S = D.2) := eS
  rw [← eS] at EC hku hkf
  rw [EC] at HTR
  have HEL : Hid (l = kidG t 0) := el
  have HER : Hid (r = kidG t 1) := er
  have HLL : Hid (L = kidG l 0) := eL
  have HLS : Hid ((itC L).length ≤ 1999) := hLs
  have HLU : Hid (U = kidG l 1) := eU
  clear hn hv ha emx el er hl ht hti hgi eL hLo hLs hng eH eB hBo hBu hBf hHo hs h1 hbl hbo hgk eR eX eS EC knilC kdot HCL k0 k1 k2 eU eD hUo hUs hDo eK hgn
  go_enter Tryz.func5, Tryz.ntmps5
  go_wp2_with fail
  refine HV.mono ?_
  rintro e w1 ⟨rfl, hb1⟩
  have HB1 : Hid (Below w.heap.size w w1) := hb1
  clear hb1 HV
  go_wp2_with fail
  refine (HQA.out w1 HB1.out).mono ?_
  rintro e wq ⟨rfl, ew⟩
  rw [ew]
  clear ew HQA
  go_wp2_with fail
  refine (HMX.out w1 HB1.out).mono ?_
  rintro e wq ⟨rfl, ew⟩
  rw [ew]
  clear ew HMX
  have HGA : Hid (GMm (w1.alloc (.cells #[.int .i64 (mx + 1), .int .i64 0] 40)) w1.heap.size (mx + 1, 0)) := gm_new w1 (mx + 1) (by omega)
  have HBA : Hid (Below w.heap.size w (w1.alloc (.cells #[.int .i64 (mx + 1), .int .i64 0] 40))) := HB1.out.alloc HB1.out.size _
  have HSA : Hid (w1.heap.size < (w1.alloc (.cells #[.int .i64 (mx + 1), .int .i64 0] 40)).heap.size) := by show _ < _; simp
  have HWG : Hid (w.heap.size ≤ w1.heap.size) := HB1.out.size
  go_wp2_with fail
  obtain ⟨W2, eW2⟩ : ∃ W2, W2 = w1.alloc (.cells #[.int .i64 (mx + 1), .int .i64 0] 40) := ⟨_, rfl⟩
  obtain ⟨gb, egb⟩ : ∃ gb, gb = w1.heap.size := ⟨_, rfl⟩
  rw [← eW2, ← egb] at HGA HSA
  rw [← eW2] at HBA
  rw [← egb] at HWG
  rw [← eW2, ← egb]
  clear eW2 egb HB1
  refine (HAR.out W2 HBA.out).mono ?_
  rintro e w3 ⟨q, m, mc, rs, rfl, hm, hrow, harg, hb3⟩
  have hm0 : 0 < m := by rw [hm, trs_len]; omega
  obtain ⟨g, eg, hkid⟩ := args_tk (gb := gb) hrow hm harg HSA.out hm0
  subst eg
  have hm2 : m = 2 := by rw [hm, trs_len]; exact hcnt
  obtain ⟨r0, n0, c0, kc0, kt0⟩ := hkid 0 (by omega)
  obtain ⟨r1, n1, c1, kc1, kt1⟩ := hkid 1 (by omega)
  rw [← HEL.out] at kt0
  rw [← HER.out] at kt1
  have HK1 : Hid (∀ W, w3.grownBy W (some gb) → W.cell? ⟨g, 1, none⟩ = some (.slice r1 n1 c1)) := kc1
  have HT0 : Hid (TI w r0 n0 c0 l) := kt0
  have HT1 : Hid (TI w r1 n1 c1 r) := kt1
  have HG3 : Hid (GMm w3 gb (mx + 1, 0)) := HGA.out.below hb3
  have HB3 : Hid (Below w.heap.size w w3) := Below.on HBA.out hb3
  have HS3 : Hid (gb < w3.heap.size) := Nat.lt_of_lt_of_le HSA.out hb3.size
  have f0 := kc0 w3 (grown_refl _ _)
  clear hkid kc0 kc1 kt0 kt1 hm hrow harg hb3 HAR hm0 HGA HBA HSA hcnt
  subst hm2
  go_wp2_with fail
  refine (HQC.out w3 r0 n0 c0 HT0.out HB3.out).mono ?_
  rintro e wq ⟨rfl, ew⟩
  rw [ew]
  clear ew HQC f0
  go_wp2_with fail
  refine (HA2.out w3 r0 n0 c0 HT0.out HB3.out).mono ?_
  rintro e w4 ⟨q4, m4, mc4, rs4, rfl, hm4, hrow4, harg4, hb4⟩
  have hm40 : 0 < m4 := by rw [hm4, trs_len]; omega
  obtain ⟨g4, eg4, hkid4⟩ := args_tk (gb := gb) hrow4 hm4 harg4 HS3.out hm40
  subst eg4
  have hm42 : m4 = 2 := by rw [hm4, trs_len]; exact hcl
  obtain ⟨s0, x0, y0, kd0, ku0⟩ := hkid4 0 (by omega)
  obtain ⟨s1, x1, y1, kd1, ku1⟩ := hkid4 1 (by omega)
  rw [← HLL.out] at ku0
  rw [← HLU.out] at ku1
  have HU0 : Hid (TI w s0 x0 y0 L) := ku0
  have HU1 : Hid (TI w s1 x1 y1 U) := ku1
  have HG4 : Hid (GMm w4 gb (mx + 1, 0)) := HG3.out.below hb4
  have HB4 : Hid (Below w.heap.size w w4) := Below.on HB3.out hb4
  have HK4 : Hid (w3.grownBy w4 (some gb)) := grownM_below gb hb4
  have f0 := kd0 w4 (grown_refl _ _)
  have f1 := kd1 w4 (grown_refl _ _)
  have HB3W : Hid (∀ W, w3.grownBy W (some gb) → Below w.heap.size w W) := fun W hW => below_in HB3.out hW HWG.out
  clear hkid4 kd0 kd1 ku0 ku1 hm4 hrow4 harg4 hb4 HA2 hm40 HG3 HB3 hcl
  subst hm42
  obtain ⟨bL, oL, qL, cL, epL, d0, d1, d2, d3⟩ := (HU0.out.below HB4.out).head
  have hnL : 0 < x0 := by have := HU0.out.1; omega
  have hnLs : x0 ≤ 2000 := by have h8 := HU0.out.1; have h9 := HLS.out; simp only [itC, List.length_cons] at h9; omega
  obtain ⟨x, ex⟩ : ∃ x, x = L.1.1 := ⟨_, rfl⟩
  rw [← ex] at d0 kz ko
  have kzb : (x == 0) = false := by simpa using kz
  have kob : (x == 1) = false := by simpa using ko
  clear ex d1 d2 d3
  have HU0' : Hid (TI w (some ⟨bL, oL, none⟩) x0 y0 L) := by rw [← epL]; exact HU0.out
  subst epL
  go_wp2_with fail
  refine (HQN.out w4 (some ⟨bL, oL, none⟩) x0 y0 HU0'.out HB4.out).mono ?_
  rintro e wq ⟨rfl, ew⟩
  rw [ew]
  clear ew
  go_wp2_with fail
  refine (HQD.out w4 (some ⟨bL, oL, none⟩) x0 y0 HU0'.out HB4.out).mono ?_
  rintro e wq ⟨rfl, ew⟩
  rw [ew]
  clear ew
  go_wp2_with fail
  refine (HNW.out w4 gb (mx + 1, 0) (by show mx + 1 ≤ _; omega) HG4.out).mono ?_
  rintro e w5 ⟨p5, m5, c5, rfl, tk5, gm5, gr5⟩
  obtain rfl : m5 = 1 := tk5.1
  have HA5 : Hid (TK w5 gb p5 1 c5 (vT (mx + 1))) := tk5
  have HG5 : Hid (w3.grownBy w5 (some gb)) := grown_trans HK4.out gr5
  have HM5 : Hid (GMm w5 gb (mx + 1 + 1, 0)) := gm5
  clear tk5 gm5 gr5
  go_wp2_with fail
  refine (HNW.out w5 gb (mx + 1 + 1, 0) (by show mx + 1 + 1 ≤ _; omega) HM5.out).mono ?_
  rintro e w6 ⟨p6, m6, c6, rfl, tk6, gm6, gr6⟩
  obtain rfl : m6 = 1 := tk6.1
  have HA6 : Hid (TK w6 gb p5 1 c5 (vT (mx + 1))) := HA5.out.move gr6
  have HC6 : Hid (TK w6 gb p6 1 c6 (vT (mx + 1 + 1))) := tk6
  have HG6 : Hid (w3.grownBy w6 (some gb)) := grown_trans HG5.out gr6
  have HM6 : Hid (GMm w6 gb (mx + 1 + 1 + 1, 0)) := gm6
  have HBB : Hid (∀ W, w3.grownBy W (some gb) → Below w.heap.size w W) := fun W hW => HB3W.out W hW
  clear tk6 gm6 gr6 HA5 HM5
  go_wp2_with fail
  refine (HMO.out w6 (some ⟨bL, oL, none⟩) x0 y0 p5 p6 c5 c6 HU0'.out (HBB.out _ HG6.out) gb HA6.out HC6.out HM6.out).mono ?_
  rintro e w7 ⟨p7, m7, c7, rfl, tk7, gm7, gr7⟩
  have HH7 : Hid (TK w7 gb p7 m7 c7 H.1) := tk7
  have HA7 : Hid (TK w7 gb p5 1 c5 (vT (mx + 1))) := HA6.out.move gr7
  have HC7 : Hid (TK w7 gb p6 1 c6 (vT (mx + 1 + 1))) := HC6.out.move gr7
  have HG7 : Hid (w3.grownBy w7 (some gb)) := grown_trans HG6.out gr7
  have HM7 : Hid (GMm w7 gb H.2) := gm7
  have hH7 : Hid (H.2.1 = mx + 1 + 1 + 1) := hH1
  clear tk7 gm7 gr7 HA6 HC6 HM6 HMO hH1
  have hx1 : 0 < x1 := by have := HU1.out.1; omega
  have hx1i : (0 : Int) < x1 := by omega
  go_wp2_with fail
  refine (HNW.out w7 gb H.2 (by have := hH7.out; omega) HM7.out).mono ?_
  rintro e w8 ⟨p8, m8, c8, rfl, tk8, gm8, gr8⟩
  obtain rfl : m8 = 1 := tk8.1
  rw [hH7.out] at tk8 gm8
  have HD8 : Hid (TK w8 gb p8 1 c8 (vT (mx + 1 + 1 + 1))) := tk8
  have HH8 : Hid (TK w8 gb p7 m7 c7 H.1) := HH7.out.move gr8
  have HA8 : Hid (TK w8 gb p5 1 c5 (vT (mx + 1))) := HA7.out.move gr8
  have HC8 : Hid (TK w8 gb p6 1 c6 (vT (mx + 1 + 1))) := HC7.out.move gr8
  have HG8 : Hid (w3.grownBy w8 (some gb)) := grown_trans HG7.out gr8
  have HM8 : Hid (GMm w8 gb (mx + 1 + 1 + 1 + 1, H.2.2)) := gm8
  have f8 := HK1.out w8 HG8.out
  clear tk8 gm8 gr8 HH7 HA7 HC7 HM7 HNW
  go_wp2_with fail
  refine (HPH.out w8 r1 n1 c1 p5 p8 c5 c8 HT1.out (HBB.out _ HG8.out) gb HWG.out HA8.out HD8.out HM8.out).mono ?_
  rintro e w9 ⟨p9, m9, c9, rfl, tk9, gm9, gr9⟩
  have HB9 : Hid (TK w9 gb p9 m9 c9 B.1) := tk9
  have HH9 : Hid (TK w9 gb p7 m7 c7 H.1) := HH8.out.move gr9
  have HG9 : Hid (w3.grownBy w9 (some gb)) := grown_trans HG8.out gr9
  have HT9 := HTE.out w9 s1 x1 y1 p6 p8 c6 c8 HU1.out (HBB.out _ HG9.out) gb (HC8.out.move gr9) (HD8.out.move gr9) gm9
  clear tk9 gm9 gr9 HH8 HA8 HC8 HD8 HM8 HPH HTE f8
  go_wp2_with fail
  refine HT9.mono ?_
  rintro e wa ⟨pA, mA, cA, rfl, tkA, gmA, grA⟩
  have HHA : Hid (TK wa gb p7 m7 c7 H.1) := HH9.out.move grA
  have HGA : Hid (w3.grownBy wa (some gb)) := grown_trans HG9.out grA
  have HTA := HPA.out wa gb p9 pA m9 mA c9 cA (HB9.out.move grA) tkA gmA
  clear tkA gmA grA HH9 HB9 HT9 HPA
  go_wp2_with fail
  refine HTA.mono ?_
  rintro e wz ⟨pz, mz, cz, rfl, tkz, gmz, grz⟩
  have HHZ : Hid (TK wz gb p7 m7 c7 H.1) := HHA.out.move grz
  have HGZ : Hid (w3.grownBy wz (some gb)) := grown_trans HGA.out grz
  rw [← HES.out] at gmz
  have HMZ : Hid (GMm wz gb S) := gmz
  have HTZ : Hid (TK wz gb pz mz cz (cmpT [44] [B.1, D.1])) := tkz
  clear tkz gmz grz HHA HTA
  have HBZ : Hid (Below w.heap.size w wz) := HBB.out _ HGZ.out
  obtain ⟨nz, cd⟩ := S
  have z0 := HMZ.out.c0
  have z1 := HMZ.out.c1
  have hzr := HMZ.out.rng
  simp only at z0 z1 hzr hku hkf
  by_cases hcd : cd = 0
  · subst hcd
    have HP9 := HPR.out wz gb p7 pz m7 mz c7 cz HHZ.out HTZ.out
    obtain ⟨LX, eLX⟩ : ∃ LX, LX = (itC X).length := ⟨_, rfl⟩
    have HLX : Hid (LX = (itC X).length) := eLX
    rw [← eLX] at hkl
    clear eLX HPR HHZ HTZ
    go_wp2_with fail
    refine HP9.mono ?_
    rintro e wy ⟨py, my, cy, rfl, hoy, hby⟩
    have HOY : Hid (OwnC wy w.heap.size py my cy (itC X)) := hoy.mono HBZ.out.size
    have HBY : Hid (Below w.heap.size w wy) := Below.on HBZ.out hby
    have hmy : my = LX := by rw [HLX.out]; exact hoy.1
    subst hmy
    have y0 := (HMZ.out.below hby).c0
    simp only at y0
    clear hoy hby HP9 z0 z1 HMZ HBZ
    by_cases hlx : 2000 < my
    · have hli : (2000 : Int) < my := by omega
      have HRR : Hid (transT t = ([], 3)) := by show _ = _; rw [HTR.out]; unfold gAns; rw [if_neg (by simp), if_pos (.inl (by rw [← HLX.out]; exact hlx))]
      go_wp2_with fail
      go_ret2
      rw [HRR.out]
      exact ⟨none, 0, 0, rfl, OwnC.nil _ _, HBY.out⟩
    · have hli : ¬ (2000 : Int) < my := by omega
      by_cases hnz : 1000000 < nz - 1
      · have HRR : Hid (transT t = ([], 3)) := by show _ = _; rw [HTR.out]; unfold gAns; rw [if_neg (by simp), if_pos (.inr hnz)]
        go_wp2_with fail
        go_ret2
        rw [HRR.out]
        exact ⟨none, 0, 0, rfl, OwnC.nil _ _, HBY.out⟩
      · have HRR : Hid (transT t = (itC X, 0)) := by show _ = _; rw [HTR.out]; unfold gAns; rw [if_neg (by simp), if_neg (fun h => h.elim (fun h => hlx (by rw [HLX.out]; exact h)) hnz)]
        go_wp2_with fail
        go_ret2
        rw [HRR.out]
        exact ⟨py, my, cy, rfl, HOY.out, HBY.out⟩
  · have hcb : (cd == 0) = false := by simpa using hcd
    have hcn : (cd != 0) = true := by simpa using hcd
    have HRR : Hid (transT t = ([], cd)) := by show _ = _; rw [HTR.out]; exact gAns_code hcd
    have HZ1 : Hid _ := z1
    clear HPR HHZ HTZ HMZ
    go_wp2_with fail
    go_region_held3 (fun W => W.cell? ⟨gb, 1, none⟩ = some (.int .i64 cd)) (go_keep) (fail)
    go_wp2_with fail
    go_ret2
    rw [HRR.out]
    exact ⟨none, 0, 0, rfl, OwnC.nil _ _, HBZ.out.trans ((Below.refl _ _).drew.mono HBZ.out.size)⟩
set_option maxRecDepth 100000 in
set_option maxHeartbeats 2000000 in
theorem tr_plain_good (t : Tr) (p : Option Addr) (n cap : Nat) (w : World) (ht : t.fo.ok) (hl : (itC t).length ≤ 2000) (hti : TI w p n cap t) (hv : validB (itC t) = true) (ha : t.1 = cArrow) (hc : ¬ (kidG t 0).1 = cComma) (kz : ¬ (kidG t 0).1.1 = 0) (ko : ¬ (kidG t 0).1.1 = 1) (knilC : ¬ (kidG t 0).1 = nilC) (kdot : ¬ (kidG t 0).1 = dot) :
    Calls Tryz.prog 5 #[.slice p n cap] w (NbRes w (transT t)) := by
  have hn : n = (itC t).length := by rw [hti.1]; simp [itC]
  have HV : Calls Tryz.prog 12 #[.slice p n cap] w fun e w' => e = .returned (.bool true) ∧ Below w.heap.size w w' := by
    have h8 := specValid_any p cap (itC t) w (by omega) hti.2.2.2
    rw [hv, ← hn] at h8; exact h8
  have HQA : Hid (∀ W, Below w.heap.size w W → Calls Tryz.prog 13 #[.slice p n cap, .string ⟨#[45, 45, 62]⟩, .int .i64 2] W fun e w' => e = .returned (.bool true) ∧ w' = W) := fun W hB => by
    have h8 : Calls Tryz.prog 13 #[.slice p n cap, .string ⟨#[45, 45, 62]⟩, .int .i64 2] W fun e w' => e = .returned (.bool (decide (t.1 = cArrow))) ∧ w' = W := isP_any (hti.below hB) ht.2.1 [45, 45, 62] 2 (by decide)
    rw [show decide (t.1 = cArrow) = true by simpa using ha] at h8; exact h8
  obtain ⟨mx, emx⟩ : ∃ mx, mx = maxV (-1) (itC t) := ⟨_, rfl⟩
  have HMX : Hid (∀ W, Below w.heap.size w W → Calls Tryz.prog 14 #[.slice p n cap] W fun e w' => e = .returned (.int .i64 mx) ∧ w' = W) := fun W hB => by
    rw [hn, emx]; exact maxVar_any (itC t) p cap W (by omega) (itC_ok ht) (hti.2.2.2.below hB)
  obtain ⟨hgi, hcnt⟩ := gin_of ht hl ha
  rw [← emx] at hgi
  have hmr : -1 ≤ mx ∧ mx ≤ 1000000 := by rw [emx]; exact maxV_range (itC t) (-1) (itC_ok ht) (by decide) (by decide)
  have HTR : Hid (transT t = gAns (gCl nilT (kidG t 0) (kidG t 1) (mx + 1))) := by show _ = _; unfold transT; rw [if_pos ha, emx]
  have HAR : Hid (∀ W, Below w.heap.size w W → Calls Tryz.prog 15 #[.slice p n cap] W fun e w' => ∃ q m mc rs, e = .returned (.slice q m mc) ∧ m = (trs t.2).length ∧ w'.ownsRow W.heap.size 24 1 (.slice q m mc) m (rs.map slV) ∧ ArgRowU w rs (trs t.2) ∧ Below W.heap.size W w') := fun W hB => l2argsG_any hti hB (by omega) ht
  obtain ⟨l, el⟩ : ∃ l, l = kidG t 0 := ⟨_, rfl⟩
  obtain ⟨r, er⟩ : ∃ r, r = kidG t 1 := ⟨_, rfl⟩
  rw [← el, ← er] at hgi HTR
  rw [← el] at hc kz ko knilC kdot
  obtain ⟨L, eL⟩ : ∃ L, L = l := ⟨_, rfl⟩
  have hLo : L.fo.ok := by rw [eL]; exact hgi.lo
  have hLs : (itC L).length ≤ 1999 := by rw [eL]; have := hgi.sz; omega
  have HQC : Hid (∀ (W : World) (u : Option Addr) (nu cu : Nat), TI w u nu cu l → Below w.heap.size w W → Calls Tryz.prog 13 #[.slice u nu cu, .string ⟨#[44]⟩, .int .i64 2] W fun e w' => e = .returned (.bool false) ∧ w' = W) := fun W u nu cu hT hB => by
    have h8 : Calls Tryz.prog 13 #[.slice u nu cu, .string ⟨#[44]⟩, .int .i64 2] W fun e w' => e = .returned (.bool (decide (l.1 = cComma))) ∧ w' = W := isP_any (hT.below hB) hgi.lo.2.1 [44] 2 (by decide)
    rw [show decide (l.1 = cComma) = false by simpa using hc] at h8; exact h8
  rw [← eL] at kz ko knilC kdot
  have HQN : Hid (∀ (W : World) (u : Option Addr) (nu cu : Nat), TI w u nu cu L → Below w.heap.size w W → Calls Tryz.prog 13 #[.slice u nu cu, .string ⟨#[91, 93]⟩, .int .i64 0] W fun e w' => e = .returned (.bool false) ∧ w' = W) := fun W u nu cu hT hB => by
    have h8 : Calls Tryz.prog 13 #[.slice u nu cu, .string ⟨#[91, 93]⟩, .int .i64 0] W fun e w' => e = .returned (.bool (decide (L.1 = nilC))) ∧ w' = W := isZ_any (hT.below hB) hLo.2.1 hLo.1 [91, 93]
    rw [show decide (L.1 = nilC) = false by simpa using knilC] at h8; exact h8
  have HQD : Hid (∀ (W : World) (u : Option Addr) (nu cu : Nat), TI w u nu cu L → Below w.heap.size w W → Calls Tryz.prog 13 #[.slice u nu cu, .string ⟨#[46]⟩, .int .i64 2] W fun e w' => e = .returned (.bool false) ∧ w' = W) := fun W u nu cu hT hB => by
    have h8 : Calls Tryz.prog 13 #[.slice u nu cu, .string ⟨#[46]⟩, .int .i64 2] W fun e w' => e = .returned (.bool (decide (L.1 = dot))) ∧ w' = W := isP_any (hT.below hB) hLo.2.1 [46] 2 (by decide)
    rw [show decide (L.1 = dot) = false by simpa using kdot] at h8; exact h8
  have hng : ¬ (L.1.1 = 0 ∨ L.1.1 = 1 ∨ L.1 = nilC ∨ L.1 = dot) := fun h => by rcases h with h | h | h | h; exact kz h; exact ko h; exact knilC h; exact kdot h
  have h0 := hgi.nx0
  have h1 := hgi.nx1
  have hs := hgi.sz
  obtain ⟨H, eH⟩ : ∃ H, H = gMore nilT L (mx + 1) (mx + 1 + 1) (mx + 1 + 1 + 1, 0) := ⟨_, rfl⟩
  have hH1 : H.2.1 = mx + 1 + 1 + 1 := by rw [eH]; exact gMore_fst _ _ _ _ _
  have HMO : Hid (∀ (W : World) (u : Option Addr) (nu cu : Nat) (pa pb : Option Addr) (ca cb : Nat), TI w u nu cu L → Below w.heap.size w W → ∀ gb, TK W gb pa 1 ca (vT (mx + 1)) → TK W gb pb 1 cb (vT (mx + 1 + 1)) → GMm W gb (mx + 1 + 1 + 1, 0) → Calls Tryz.prog 17 #[.pointer (some ⟨gb, 0, none⟩), .slice u nu cu, .slice pa 1 ca, .slice pb 1 cb] W (GOutM W gb H)) := fun W u nu cu pa pb ca cb hT hB gb h1 h2 h3 => by rw [eH]; exact l8more_any gb w L u nu cu pa pb ca cb _ _ _ W hLo (by omega) hT hB h1 h2 h3
  obtain ⟨B, eB⟩ : ∃ B, B = gPh nilT (itC r).length r (mx + 1) (mx + 1 + 1) H.2 := ⟨_, rfl⟩
  have hBo : GOk r (itC r).length H.2 B := by rw [eB]; exact gPh_ok nilT_ok (itC r).length r (mx + 1) (mx + 1 + 1) H.2 hgi.ro (Nat.le_refl _) ⟨h0, by omega⟩ ⟨by omega, by omega⟩ (by omega) (by omega)
  have hBu := hBo.up
  have hBf := hBo.few
  have HPH : Hid (∀ (W : World) (u : Option Addr) (nu cu : Nat) (pa pb : Option Addr) (ca cb : Nat), TI w u nu cu r → Below w.heap.size w W → ∀ gb, w.heap.size ≤ gb → TK W gb pa 1 ca (vT (mx + 1)) → TK W gb pb 1 cb (vT (mx + 1 + 1)) → GMm W gb H.2 → Calls Tryz.prog 18 #[.pointer (some ⟨gb, 0, none⟩), .slice u nu cu, .slice pa 1 ca, .slice pb 1 cb] W (GOutM W gb B)) := fun W u nu cu pa pb ca cb hT hB gb hgb h1' h2 h3 => by rw [eB]; exact phrase_all gb w hgb (itC r).length r u nu cu pa pb ca cb _ _ _ W hgi.ro (Nat.le_refl _) (by omega) hT hB h1' h2 ⟨h0, by omega⟩ ⟨by omega, by omega⟩ (by omega) (by omega) h3
  have HNW : Hid (∀ (W : World) (gb : Nat) (s : GSt), s.1 ≤ 1500000 → GMm W gb s → Calls Tryz.prog 16 #[.pointer (some ⟨gb, 0, none⟩)] W (GOutM W gb (vT s.1, (s.1 + 1, s.2)))) := fun W gb s hs' hG => l8new_any gb s W hG hs'
  have hHo : Fit H.1 := by rw [eH]; exact ⟨(gMore_ok nilT_ok ⟨h0, by omega⟩ ⟨by omega, by omega⟩ _ hLo).ok, by have := (gMore_ok nilT_ok (a := mx + 1) (b := mx + 1 + 1) ⟨h0, by omega⟩ ⟨by omega, by omega⟩ (mx + 1 + 1 + 1, 0) hLo).len; omega⟩
  have EC : gCl nilT l r (mx + 1) = (cmpT [58, 45] [H.1, B.1], B.2) := by
    have e2 : mx + 1 + 2 = mx + 1 + 1 + 1 := by omega
    have eh : gHd nilT l (mx + 1) (mx + 1 + 1) (mx + 1 + 2, 0) = H := by rw [e2, ← eL]; unfold gHd; rw [if_neg hng]; exact eH.symm
    rw [gCl_plain nilT r (mx + 1) hc, eh, ← eB]
  have hbl : (itC B.1).length ≤ 21000 := by have := hBo.len; omega
  have hbo : okG B.1.fo := hBo.ok
  have hgk := gCl_ok nilT_ok hgi
  have hkl := hgk.len
  have hku := hgk.up
  have hkf := hgk.few
  rw [EC] at hkl hku hkf
  simp only at hku hkf hkl
  have eR : strOfNums [58, 45] = ⟨#[58, 45]⟩ := rfl
  have HCL : Hid (itC (cmpT [58, 45] [H.1, B.1]) = (3, 2, [58, 45]) :: (itC H.1 ++ itC (B.1))) := by show _ = _; rw [cmpT_cells]; simp
  have HPR : Hid (∀ (W : World) (gb : Nat) (r1 r2 : Option Addr) (n1 n2 c1 c2 : Nat), TK W gb r1 n1 c1 H.1 → TK W gb r2 n2 c2 (B.1) → Calls Tryz.prog 19 #[.string ⟨#[58, 45]⟩, .slice r1 n1 c1, .slice r2 n2 c2] W fun e w' => ∃ q m c2, e = .returned (.slice q m c2) ∧ OwnC w' W.heap.size q m c2 (itC (cmpT [58, 45] [H.1, B.1])) ∧ Below W.heap.size W w') := fun W gb r1 r2 n1 n2 c1 c2 h1' h2 => by
    have hb9 : (itC (B.1)).length + tl (itC (B.1)) ≤ 2000000 := by
      have h7 : (itC (B.1)).length ≤ 10000 := by have h8 := HCL.out; have h9 := congrArg List.length h8; simp only [List.length_cons, List.length_append] at h9; omega
      have := tr_size hbo h7; omega
    have h8 := l2pairO_any [58, 45] (byte_small (by decide)) r1 r2 n1 n2 c1 c2 (itC H.1) (itC (B.1)) W h1'.1 h2.1 h1'.2.2.2.cin h2.2.2.2.cin (itC_pos _) (itC_pos _) hHo.size hb9
    rw [eR] at h8
    rw [HCL.out]; exact h8
  obtain ⟨X, eX⟩ : ∃ X, X = cmpT [58, 45] [H.1, B.1] := ⟨_, rfl⟩
  rw [← eX] at HPR EC hkl
  obtain ⟨S, eS⟩ : ∃ S : GSt, S = B.2 := ⟨_, rfl⟩
  have HES : Hid (S = B.2) := eS
  rw [← eS] at EC hku hkf
  rw [EC] at HTR
  have HEL : Hid (l = kidG t 0) := el
  have HER : Hid (r = kidG t 1) := er
  have HLL : Hid (L = l) := eL
  have HLS : Hid ((itC L).length ≤ 1999) := hLs
  clear hn hv ha emx el er hl ht hti hgi eL hLo hLs hng eH eB hBo hBu hBf hHo hs h1 hbl hbo hgk eR eX eS EC knilC kdot HCL
  go_enter Tryz.func5, Tryz.ntmps5
  go_wp2_with fail
  refine HV.mono ?_
  rintro e w1 ⟨rfl, hb1⟩
  have HB1 : Hid (Below w.heap.size w w1) := hb1
  clear hb1 HV
  go_wp2_with fail
  refine (HQA.out w1 HB1.out).mono ?_
  rintro e wq ⟨rfl, ew⟩
  rw [ew]
  clear ew HQA
  go_wp2_with fail
  refine (HMX.out w1 HB1.out).mono ?_
  rintro e wq ⟨rfl, ew⟩
  rw [ew]
  clear ew HMX
  have HGA : Hid (GMm (w1.alloc (.cells #[.int .i64 (mx + 1), .int .i64 0] 40)) w1.heap.size (mx + 1, 0)) := gm_new w1 (mx + 1) (by omega)
  have HBA : Hid (Below w.heap.size w (w1.alloc (.cells #[.int .i64 (mx + 1), .int .i64 0] 40))) := HB1.out.alloc HB1.out.size _
  have HSA : Hid (w1.heap.size < (w1.alloc (.cells #[.int .i64 (mx + 1), .int .i64 0] 40)).heap.size) := by show _ < _; simp
  have HWG : Hid (w.heap.size ≤ w1.heap.size) := HB1.out.size
  go_wp2_with fail
  obtain ⟨W2, eW2⟩ : ∃ W2, W2 = w1.alloc (.cells #[.int .i64 (mx + 1), .int .i64 0] 40) := ⟨_, rfl⟩
  obtain ⟨gb, egb⟩ : ∃ gb, gb = w1.heap.size := ⟨_, rfl⟩
  rw [← eW2, ← egb] at HGA HSA
  rw [← eW2] at HBA
  rw [← egb] at HWG
  rw [← eW2, ← egb]
  clear eW2 egb HB1
  refine (HAR.out W2 HBA.out).mono ?_
  rintro e w3 ⟨q, m, mc, rs, rfl, hm, hrow, harg, hb3⟩
  have hm0 : 0 < m := by rw [hm, trs_len]; omega
  obtain ⟨g, eg, hkid⟩ := args_tk (gb := gb) hrow hm harg HSA.out hm0
  subst eg
  have hm2 : m = 2 := by rw [hm, trs_len]; exact hcnt
  obtain ⟨r0, n0, c0, kc0, kt0⟩ := hkid 0 (by omega)
  obtain ⟨r1, n1, c1, kc1, kt1⟩ := hkid 1 (by omega)
  rw [← HEL.out] at kt0
  rw [← HER.out] at kt1
  have HK1 : Hid (∀ W, w3.grownBy W (some gb) → W.cell? ⟨g, 1, none⟩ = some (.slice r1 n1 c1)) := kc1
  have HT0 : Hid (TI w r0 n0 c0 l) := kt0
  have HT1 : Hid (TI w r1 n1 c1 r) := kt1
  have HG3 : Hid (GMm w3 gb (mx + 1, 0)) := HGA.out.below hb3
  have HB3 : Hid (Below w.heap.size w w3) := Below.on HBA.out hb3
  have HS3 : Hid (gb < w3.heap.size) := Nat.lt_of_lt_of_le HSA.out hb3.size
  have f0 := kc0 w3 (grown_refl _ _)
  clear hkid kc0 kc1 kt0 kt1 hm hrow harg hb3 HAR hm0 HGA HBA HSA hcnt
  subst hm2
  go_wp2_with fail
  refine (HQC.out w3 r0 n0 c0 HT0.out HB3.out).mono ?_
  rintro e wq ⟨rfl, ew⟩
  rw [ew]
  clear ew HQC f0
  have HU0 : Hid (TI w r0 n0 c0 L) := by rw [HLL.out]; exact HT0.out
  have HG4 : Hid (GMm w3 gb (mx + 1, 0)) := HG3.out
  have HB4 : Hid (Below w.heap.size w w3) := HB3.out
  have HK4 : Hid (w3.grownBy w3 (some gb)) := grown_refl _ _
  obtain ⟨bL, oL, qL, cL, epL, d0, d1, d2, d3⟩ := (HU0.out.below HB4.out).head
  have hnL : 0 < n0 := by have := HU0.out.1; omega
  have hnLs : n0 ≤ 2000 := by have h8 := HU0.out.1; have h9 := HLS.out; simp only [itC, List.length_cons] at h9; omega
  obtain ⟨x, ex⟩ : ∃ x, x = L.1.1 := ⟨_, rfl⟩
  rw [← ex] at d0 kz ko
  have kzb : (x == 0) = false := by simpa using kz
  have kob : (x == 1) = false := by simpa using ko
  clear ex d1 d2 d3
  have HU0' : Hid (TI w (some ⟨bL, oL, none⟩) n0 c0 L) := by rw [← epL]; exact HU0.out
  subst epL
  go_wp2_with fail
  refine (HQN.out w3 (some ⟨bL, oL, none⟩) n0 c0 HU0'.out HB4.out).mono ?_
  rintro e wq ⟨rfl, ew⟩
  rw [ew]
  clear ew
  go_wp2_with fail
  refine (HQD.out w3 (some ⟨bL, oL, none⟩) n0 c0 HU0'.out HB4.out).mono ?_
  rintro e wq ⟨rfl, ew⟩
  rw [ew]
  clear ew
  go_wp2_with fail
  refine (HNW.out w3 gb (mx + 1, 0) (by show mx + 1 ≤ _; omega) HG4.out).mono ?_
  rintro e w5 ⟨p5, m5, c5, rfl, tk5, gm5, gr5⟩
  obtain rfl : m5 = 1 := tk5.1
  have HA5 : Hid (TK w5 gb p5 1 c5 (vT (mx + 1))) := tk5
  have HG5 : Hid (w3.grownBy w5 (some gb)) := grown_trans HK4.out gr5
  have HM5 : Hid (GMm w5 gb (mx + 1 + 1, 0)) := gm5
  clear tk5 gm5 gr5
  go_wp2_with fail
  refine (HNW.out w5 gb (mx + 1 + 1, 0) (by show mx + 1 + 1 ≤ _; omega) HM5.out).mono ?_
  rintro e w6 ⟨p6, m6, c6, rfl, tk6, gm6, gr6⟩
  obtain rfl : m6 = 1 := tk6.1
  have HA6 : Hid (TK w6 gb p5 1 c5 (vT (mx + 1))) := HA5.out.move gr6
  have HC6 : Hid (TK w6 gb p6 1 c6 (vT (mx + 1 + 1))) := tk6
  have HG6 : Hid (w3.grownBy w6 (some gb)) := grown_trans HG5.out gr6
  have HM6 : Hid (GMm w6 gb (mx + 1 + 1 + 1, 0)) := gm6
  have HBB : Hid (∀ W, w3.grownBy W (some gb) → Below w.heap.size w W) := fun W hW => below_in HB3.out hW HWG.out
  clear tk6 gm6 gr6 HA5 HM5
  go_wp2_with fail
  refine (HMO.out w6 (some ⟨bL, oL, none⟩) n0 c0 p5 p6 c5 c6 HU0'.out (HBB.out _ HG6.out) gb HA6.out HC6.out HM6.out).mono ?_
  rintro e w7 ⟨p7, m7, c7, rfl, tk7, gm7, gr7⟩
  have HH7 : Hid (TK w7 gb p7 m7 c7 H.1) := tk7
  have HA7 : Hid (TK w7 gb p5 1 c5 (vT (mx + 1))) := HA6.out.move gr7
  have HC7 : Hid (TK w7 gb p6 1 c6 (vT (mx + 1 + 1))) := HC6.out.move gr7
  have HG7 : Hid (w3.grownBy w7 (some gb)) := grown_trans HG6.out gr7
  have HM7 : Hid (GMm w7 gb H.2) := gm7
  have hH7 : Hid (H.2.1 = mx + 1 + 1 + 1) := hH1
  clear tk7 gm7 gr7 HA6 HC6 HM6 HMO hH1
  have f8 := HK1.out w7 HG7.out
  go_wp2_with fail
  refine (HPH.out w7 r1 n1 c1 p5 p6 c5 c6 HT1.out (HBB.out _ HG7.out) gb HWG.out HA7.out HC7.out HM7.out).mono ?_
  rintro e wz ⟨pz, mz, cz, rfl, tkz, gmz, grz⟩
  have HHZ : Hid (TK wz gb p7 m7 c7 H.1) := HH7.out.move grz
  have HGZ : Hid (w3.grownBy wz (some gb)) := grown_trans HG7.out grz
  rw [← HES.out] at gmz
  have HMZ : Hid (GMm wz gb S) := gmz
  have HTZ : Hid (TK wz gb pz mz cz B.1) := tkz
  clear tkz gmz grz HH7 HA7 HC7 HM7 HPH HNW f8
  have HBZ : Hid (Below w.heap.size w wz) := HBB.out _ HGZ.out
  obtain ⟨nz, cd⟩ := S
  have z0 := HMZ.out.c0
  have z1 := HMZ.out.c1
  have hzr := HMZ.out.rng
  simp only at z0 z1 hzr hku hkf
  by_cases hcd : cd = 0
  · subst hcd
    have HP9 := HPR.out wz gb p7 pz m7 mz c7 cz HHZ.out HTZ.out
    obtain ⟨LX, eLX⟩ : ∃ LX, LX = (itC X).length := ⟨_, rfl⟩
    have HLX : Hid (LX = (itC X).length) := eLX
    rw [← eLX] at hkl
    clear eLX HPR HHZ HTZ
    go_wp2_with fail
    refine HP9.mono ?_
    rintro e wy ⟨py, my, cy, rfl, hoy, hby⟩
    have HOY : Hid (OwnC wy w.heap.size py my cy (itC X)) := hoy.mono HBZ.out.size
    have HBY : Hid (Below w.heap.size w wy) := Below.on HBZ.out hby
    have hmy : my = LX := by rw [HLX.out]; exact hoy.1
    subst hmy
    have y0 := (HMZ.out.below hby).c0
    simp only at y0
    clear hoy hby HP9 z0 z1 HMZ HBZ
    by_cases hlx : 2000 < my
    · have hli : (2000 : Int) < my := by omega
      have HRR : Hid (transT t = ([], 3)) := by show _ = _; rw [HTR.out]; unfold gAns; rw [if_neg (by simp), if_pos (.inl (by rw [← HLX.out]; exact hlx))]
      go_wp2_with fail
      go_ret2
      rw [HRR.out]
      exact ⟨none, 0, 0, rfl, OwnC.nil _ _, HBY.out⟩
    · have hli : ¬ (2000 : Int) < my := by omega
      by_cases hnz : 1000000 < nz - 1
      · have HRR : Hid (transT t = ([], 3)) := by show _ = _; rw [HTR.out]; unfold gAns; rw [if_neg (by simp), if_pos (.inr hnz)]
        go_wp2_with fail
        go_ret2
        rw [HRR.out]
        exact ⟨none, 0, 0, rfl, OwnC.nil _ _, HBY.out⟩
      · have HRR : Hid (transT t = (itC X, 0)) := by show _ = _; rw [HTR.out]; unfold gAns; rw [if_neg (by simp), if_neg (fun h => h.elim (fun h => hlx (by rw [HLX.out]; exact h)) hnz)]
        go_wp2_with fail
        go_ret2
        rw [HRR.out]
        exact ⟨py, my, cy, rfl, HOY.out, HBY.out⟩
  · have hcb : (cd == 0) = false := by simpa using hcd
    have hcn : (cd != 0) = true := by simpa using hcd
    have HRR : Hid (transT t = ([], cd)) := by show _ = _; rw [HTR.out]; exact gAns_code hcd
    have HZ1 : Hid _ := z1
    clear HPR HHZ HTZ HMZ
    go_wp2_with fail
    go_region_held3 (fun W => W.cell? ⟨gb, 1, none⟩ = some (.int .i64 cd)) (go_keep) (fail)
    go_wp2_with fail
    go_ret2
    rw [HRR.out]
    exact ⟨none, 0, 0, rfl, OwnC.nil _ _, HBZ.out.trans ((Below.refl _ _).drew.mono HBZ.out.size)⟩
set_option maxRecDepth 100000 in
theorem tr_other (t : Tr) (p : Option Addr) (n cap : Nat) (w : World) (ht : t.fo.ok) (hl : (itC t).length ≤ 2000) (hti : TI w p n cap t) (hv : validB (itC t) = true) (ha : ¬ t.1 = cArrow) :
    Calls Tryz.prog 5 #[.slice p n cap] w (NbRes w (transT t)) := by
  have hn : n = (itC t).length := by rw [hti.1]; simp [itC]
  have HV : Calls Tryz.prog 12 #[.slice p n cap] w fun e w' => e = .returned (.bool true) ∧ Below w.heap.size w w' := by
    have h8 := specValid_any p cap (itC t) w (by omega) hti.2.2.2
    rw [hv, ← hn] at h8; exact h8
  have HQA : Hid (∀ W, Below w.heap.size w W → Calls Tryz.prog 13 #[.slice p n cap, .string ⟨#[45, 45, 62]⟩, .int .i64 2] W fun e w' => e = .returned (.bool false) ∧ w' = W) := fun W hB => by
    have h8 : Calls Tryz.prog 13 #[.slice p n cap, .string ⟨#[45, 45, 62]⟩, .int .i64 2] W fun e w' => e = .returned (.bool (decide (t.1 = cArrow))) ∧ w' = W := isP_any (hti.below hB) ht.2.1 [45, 45, 62] 2 (by decide)
    rw [show decide (t.1 = cArrow) = false by simpa using ha] at h8; exact h8
  have HRR : Hid (transT t = ([], 1)) := by show _ = _; unfold transT; rw [if_neg ha]
  clear hn hv ha ht hl hti
  go_enter Tryz.func5, Tryz.ntmps5
  go_wp2_with fail
  refine HV.mono ?_
  rintro e w1 ⟨rfl, hb1⟩
  have HB1 : Hid (Below w.heap.size w w1) := hb1
  clear hb1 HV
  go_wp2_with fail
  refine (HQA.out w1 HB1.out).mono ?_
  rintro e wq ⟨rfl, ew⟩
  rw [ew]
  clear ew HQA
  go_wp2_with fail
  go_ret2
  rw [HRR.out]
  exact ⟨none, 0, 0, rfl, OwnC.nil _ _, HB1.out⟩
set_option maxRecDepth 100000 in
theorem tr_invalid (cs : List Cel) (p : Option Addr) (cap : Nat) (w : World) (hl : cs.length ≤ 1000000000) (hin : CIn w p cs) (hv : validB cs = false) :
    Calls Tryz.prog 5 #[.slice p cs.length cap] w (NbRes w ([], 1)) := by
  have HV := specValid_any p cap cs w hl hin
  rw [hv] at HV
  generalize cs.length = n at HV ⊢
  clear hin hv
  go_enter Tryz.func5, Tryz.ntmps5
  go_wp2_with fail
  refine HV.mono ?_
  rintro e w1 ⟨rfl, hb1⟩
  have HB1 : Hid (Below w.heap.size w w1) := hb1
  clear hb1 HV
  go_wp2_with fail
  go_ret2
  exact ⟨none, 0, 0, rfl, OwnC.nil _ _, HB1.out⟩
theorem specTr_any (cs : List Cel) (p : Option Addr) (cap : Nat) (w : World) (hl : cs.length ≤ 1000000000) (hc : cs.length ≤ cap) (hm : cap ≤ 9223372036854775807) (hin : CIn w p cs) (r : List Cel × Int) (hr : transR cs r) :
    Calls Tryz.prog 5 #[.slice p cs.length cap] w (NbRes w r) := by
  unfold transR at hr
  cases hv : validB cs with
  | false =>
    rw [hv] at hr
    rw [if_neg (by decide)] at hr
    subst hr
    exact tr_invalid cs p cap w hl hin hv
  | true =>
    rw [hv] at hr
    rw [if_pos rfl] at hr
    obtain ⟨t, rfl, ht, hl2, rfl⟩ := hr
    have hti : TI w p (itC t).length cap t := ⟨by simp [itC], hc, hm, hin⟩
    by_cases ha : t.1 = cArrow
    · by_cases hcc : (kidG t 0).1 = cComma
      · by_cases k0 : (kidG (kidG t 0) 0).1.1 = 0
        · exact tr_push_var t p _ cap w ht hl2 hti hv ha hcc k0
        by_cases k1 : (kidG (kidG t 0) 0).1.1 = 1
        · exact tr_push_num t p _ cap w ht hl2 hti hv ha hcc k1
        by_cases k2 : (kidG (kidG t 0) 0).1 = nilC
        · exact tr_push_nil t p _ cap w ht hl2 hti hv ha hcc k0 k1 k2
        by_cases k3 : (kidG (kidG t 0) 0).1 = dot
        · exact tr_push_dot t p _ cap w ht hl2 hti hv ha hcc k0 k1 k2 k3
        exact tr_push_good t p _ cap w ht hl2 hti hv ha hcc k0 k1 k2 k3
      · by_cases k0 : (kidG t 0).1.1 = 0
        · exact tr_plain_var t p _ cap w ht hl2 hti hv ha hcc k0
        by_cases k1 : (kidG t 0).1.1 = 1
        · exact tr_plain_num t p _ cap w ht hl2 hti hv ha hcc k1
        by_cases k2 : (kidG t 0).1 = nilC
        · exact tr_plain_nil t p _ cap w ht hl2 hti hv ha hcc k0 k1 k2
        by_cases k3 : (kidG t 0).1 = dot
        · exact tr_plain_dot t p _ cap w ht hl2 hti hv ha hcc k0 k1 k2 k3
        exact tr_plain_good t p _ cap w ht hl2 hti hv ha hcc k0 k1 k2 k3
    · exact tr_other t p _ cap w ht hl2 hti hv ha
end Go.Proofs.YtbnmmcegjlmdmaaGreatDoor

