/- Texts of PtUB, PtUC, PtUD. Own work of the verifier. -/
import Derived.Test.YtedkkghekboahaaUqbd
namespace Go.Proofs.Ytedkkghekboahaa
open Go Go.RowKit Go.Maps
set_option linter.unusedVariables false

set_option maxHeartbeats 8000000 in
set_option maxRecDepth 100000 in
theorem implPut_b (p q pt : Option Addr) (c1 c2 cap : Nat) (cs xs : List Cel) (tr : List Int) (w : World) (hx : xs.length ≤ 1000000000) (hy : tr.length ≤ 1000000000) (hz : cs.length ≤ cap) (hcm : cap ≤ 1000000000) (hbx : ∀ a, a < xs.length → Byte (xs.getD a Cel.none).2.2) (hbc : ∀ i, i < cs.length → Byte (cs.getD i Cel.none).2.2) (hc : CIn w p xs) (hi : IIn w q tr) (hin : CIn w pt cs) (hs : storeB xs tr = true) (hv : validB cs = false) :
    Calls Try.prog 35 #[.agg #[.slice p xs.length c1, .slice q tr.length c2], .slice pt cs.length cap] w (PutAns (putA xs tr cs) w) := by
  obtain ⟨W0, eW0⟩ : ∃ W0, W0 = ((w.alloc (.cells #[.slice p xs.length c1, .slice q tr.length c2] 36)).alloc (.cells #[.slice none 0 0, .slice none 0 0] 36)).alloc (.cells #[.int .i64 0, .int .i64 0, .slice none 0 0] 31) := ⟨_, rfl⟩
  have hb0 : Below w.heap.size w W0 := by
    rw [eW0]; exact (((Below.refl _ _).alloc (Nat.le_refl _) _).alloc (by simp) _).alloc (by simp; omega) _
  have k0 := heap_three w (.cells #[.slice p xs.length c1, .slice q tr.length c2] 36) (.cells #[.slice none 0 0, .slice none 0 0] 36) (.cells #[.int .i64 0, .int .i64 0, .slice none 0 0] 31)
  rw [← eW0] at k0
  obtain ⟨k1, k2⟩ := k0
  have hz0 : W0.heap.size = w.heap.size + 1 + 1 + 1 := by rw [eW0]; simp
  have HBX : Hid (∀ W, Below W0.heap.size W0 W → Box2 W (w.heap.size + 1) (.slice none 0 0) (.slice none 0 0)) := fun W hW => Box2.of_block ((hW.block (w.heap.size + 1) (by omega)).trans k1)
  have HCX : Hid (∀ W, Below W0.heap.size W0 W → Box3 W (w.heap.size + 1 + 1) (.int .i64 0) (.int .i64 0) (.slice none 0 0)) := fun W hW => Box3.of_block ((hW.block (w.heap.size + 1 + 1) (by omega)).trans k2)
  have HO := heapOf_any p q c1 c2 xs tr W0 hx hy (hc.below hb0) (hi.below hb0)
  have HIN : Hid (∀ W, Below W0.heap.size W0 W → CIn W pt cs) := fun W hW => hin.below (Below.on hb0 hW)
  have HB0 : Hid (∀ W v0 v1 u0 u1 u2, Below W0.heap.size W0 W → Below w.heap.size w (((((W.setCell ⟨w.heap.size + 1, 0, none⟩ v0).setCell ⟨w.heap.size + 1, 1, none⟩ v1).setCell ⟨w.heap.size + 1 + 1, 0, none⟩ u0).setCell ⟨w.heap.size + 1 + 1, 1, none⟩ u1).setCell ⟨w.heap.size + 1 + 1, 2, none⟩ u2)) := fun W v0 v1 u0 u1 u2 hW => below_put3 (below_put2 (Below.on hb0 hW) (by omega) _ _) (by omega) _ _ _
  have HE0 : Hid _ := eW0
  have HZ0 : Hid _ := hz0
  have HVT : Hid (∀ W, Below W0.heap.size W0 W → Calls Try.prog 71 #[.slice pt cs.length cap] W fun e w' => e = .returned (.bool (validB cs)) ∧ Below W.heap.size W w') := fun W hW => implValid_any pt cap cs W (by omega) (HIN.out W hW)
  clear hc hi hin hb0 k1 k2 hz0
  unfold HeapOut at HO
  rw [eW0] at HO
  clear eW0
  · rw [hs] at HO
    · have HA : Hid (putA xs tr cs = noneP 1) := by show _ = _; unfold putA; rw [if_pos hs, if_neg (by simp [hv])]
      rw [HA.out]
      rw [hv] at HVT
      clear hs hv HA HIN hbx hbc
      go_enter Try.func35, Try.ntmps35
      go_wp2_with fail
      refine HO.mono ?_
      rintro e w1 ⟨v, rfl, hb, _⟩
      rw [← HE0.out] at hb
      have HB1 : Hid (Below W0.heap.size W0 w1) := hb
      have HV1 : Hid _ := HVT.out w1 hb
      clear hb HO HVT
      go_wp2_with fail
      refine Calls.mono HV1.out ?_
      rintro e w2 ⟨rfl, hb2⟩
      have HBn : Hid (Below W0.heap.size W0 w2) := Below.on HB1.out hb2
      clear hb2 HV1
      have HR : Hid _ := put5 (HBX.out w2 HBn.out) (HCX.out w2 HBn.out) (by omega) (.slice none 0 0) (.slice none 0 0) (.int .i64 0) (.int .i64 0) (.slice none 0 0)
      have HBF : Hid _ := HB0.out w2 (.slice none 0 0) (.slice none 0 0) (.int .i64 0) (.int .i64 0) (.slice none 0 0) HBn.out
      obtain ⟨x0, x1, x2⟩ := HBX.out w2 HBn.out
      obtain ⟨y0, y1, y2, y3⟩ := HCX.out w2 HBn.out
      clear HBX HCX HB0
      go_wp2
      obtain ⟨⟨d0, d1, _⟩, d2, d3, d4, _⟩ := HR.out
      exact bodyPost_ret (v := .tuple #[.agg #[.slice none 0 0, .slice none 0 0], .agg #[.int .i64 0, .int .i64 0, .slice none 0 0], .int .i64 1]) (by simp [results, Try.results35, go_sem, d0, d1, d2, d3, d4]) rfl (PutAns.none 1 HBF.out)

end Go.Proofs.Ytedkkghekboahaa

namespace Go.Proofs.Ytedkkghekboahaa
open Go Go.RowKit Go.Maps
set_option linter.unusedVariables false

set_option maxHeartbeats 8000000 in
set_option maxRecDepth 100000 in
theorem implPut_c (p q pt : Option Addr) (c1 c2 cap : Nat) (cs xs : List Cel) (tr : List Int) (w : World) (hx : xs.length ≤ 1000000000) (hy : tr.length ≤ 1000000000) (hz : cs.length ≤ cap) (hcm : cap ≤ 1000000000) (hbx : ∀ a, a < xs.length → Byte (xs.getD a Cel.none).2.2) (hbc : ∀ i, i < cs.length → Byte (cs.getD i Cel.none).2.2) (hc : CIn w p xs) (hi : IIn w q tr) (hin : CIn w pt cs) (hs : storeB xs tr = true) (hv : validB cs = true) (hcan : canB xs cs = false) :
    Calls Try.prog 35 #[.agg #[.slice p xs.length c1, .slice q tr.length c2], .slice pt cs.length cap] w (PutAns (putA xs tr cs) w) := by
  obtain ⟨W0, eW0⟩ : ∃ W0, W0 = ((w.alloc (.cells #[.slice p xs.length c1, .slice q tr.length c2] 36)).alloc (.cells #[.slice none 0 0, .slice none 0 0] 36)).alloc (.cells #[.int .i64 0, .int .i64 0, .slice none 0 0] 31) := ⟨_, rfl⟩
  have hb0 : Below w.heap.size w W0 := by
    rw [eW0]; exact (((Below.refl _ _).alloc (Nat.le_refl _) _).alloc (by simp) _).alloc (by simp; omega) _
  have k0 := heap_three w (.cells #[.slice p xs.length c1, .slice q tr.length c2] 36) (.cells #[.slice none 0 0, .slice none 0 0] 36) (.cells #[.int .i64 0, .int .i64 0, .slice none 0 0] 31)
  rw [← eW0] at k0
  obtain ⟨k1, k2⟩ := k0
  have hz0 : W0.heap.size = w.heap.size + 1 + 1 + 1 := by rw [eW0]; simp
  have HBX : Hid (∀ W, Below W0.heap.size W0 W → Box2 W (w.heap.size + 1) (.slice none 0 0) (.slice none 0 0)) := fun W hW => Box2.of_block ((hW.block (w.heap.size + 1) (by omega)).trans k1)
  have HCX : Hid (∀ W, Below W0.heap.size W0 W → Box3 W (w.heap.size + 1 + 1) (.int .i64 0) (.int .i64 0) (.slice none 0 0)) := fun W hW => Box3.of_block ((hW.block (w.heap.size + 1 + 1) (by omega)).trans k2)
  have HO := heapOf_any p q c1 c2 xs tr W0 hx hy (hc.below hb0) (hi.below hb0)
  have HIN : Hid (∀ W, Below W0.heap.size W0 W → CIn W pt cs) := fun W hW => hin.below (Below.on hb0 hW)
  have HB0 : Hid (∀ W v0 v1 u0 u1 u2, Below W0.heap.size W0 W → Below w.heap.size w (((((W.setCell ⟨w.heap.size + 1, 0, none⟩ v0).setCell ⟨w.heap.size + 1, 1, none⟩ v1).setCell ⟨w.heap.size + 1 + 1, 0, none⟩ u0).setCell ⟨w.heap.size + 1 + 1, 1, none⟩ u1).setCell ⟨w.heap.size + 1 + 1, 2, none⟩ u2)) := fun W v0 v1 u0 u1 u2 hW => below_put3 (below_put2 (Below.on hb0 hW) (by omega) _ _) (by omega) _ _ _
  have HE0 : Hid _ := eW0
  have HZ0 : Hid _ := hz0
  have HVT : Hid (∀ W, Below W0.heap.size W0 W → Calls Try.prog 71 #[.slice pt cs.length cap] W fun e w' => e = .returned (.bool (validB cs)) ∧ Below W.heap.size W w') := fun W hW => implValid_any pt cap cs W (by omega) (HIN.out W hW)
  clear hc hi hin hb0 k1 k2 hz0
  unfold HeapOut at HO
  rw [eW0] at HO
  clear eW0
  · rw [hs] at HO
    obtain ⟨hxl, htl, hshp, _, _⟩ := storeB_parts hs
    have hoks := storeB_ok hs
    · rw [hv] at HVT
      obtain ⟨hcs, hok, h2000⟩ := treeOf_spec hbc hv
      have HPA : Hid (putA xs tr cs = if canB xs cs = true then putT xs tr (treeOf cs) else noneP 1) := by show _ = _; unfold putA; rw [if_pos hs, if_pos hv]
      obtain ⟨⟨c, k⟩, et⟩ : ∃ t, t = treeOf cs := ⟨_, rfl⟩
      rw [← et] at hcs hok HPA
      have HTC : Hid (treeOf cs = (c, k)) := et.symm
      simp only at hcs hok
      have hkl : k.cells.length ≤ 2000 := by rw [hcs] at h2000; simp at h2000; omega
      have hlen : cs.length = k.cells.length + 1 := by rw [hcs]; simp
      have HTO : Hid (∀ W, Below W0.heap.size W0 W → Calls Try.prog 72 #[.slice pt cs.length cap] W fun e w' => ∃ v, e = .returned v ∧ FoIn w' W.heap.size (.node c k .nil) [v] ∧ Below W.heap.size W w') := fun W hW => termOf_any c k pt cs.length cap W hok hlen hz hcm (by have := HIN.out W hW; rwa [hcs] at this)
      have HCH : Hid (∀ W h v Bt, HeapAt W h xs tr → FoIn W Bt (.node c k .nil) [v] → Calls Try.prog 73 #[.pointer (some ⟨h, 0, none⟩), v] W fun e w' => e = .returned (.bool (canB xs cs)) ∧ Below W.heap.size W w') := fun W h v Bt H hf => by rw [hcs]; exact canHold_any h xs tr c k v Bt W hxl hshp.knds hok hf (by omega) H
      rw [hcan] at HPA HCH
      have HOK : Hid ((Fo.node c k .nil).ok) := hok
      have HOKS : Hid (∀ a, a < xs.length → okW (xs.getD a Cel.none).1 (xs.getD a Cel.none).2.1 (xs.getD a Cel.none).2.2.length = true) := hoks
      have HBY : Hid (∀ a, a < xs.length → Byte (xs.getD a Cel.none).2.2) := hbx
      clear hs hv HIN hbx hbc hshp hoks hcs h2000 hok et hcan hlen
      · have HA : Hid (putA xs tr cs = noneP 1) := by show _ = _; rw [HPA.out, if_neg (by simp)]
        rw [HA.out]
        clear HA HPA HOK HOKS HBY
        go_enter Try.func35, Try.ntmps35
        go_wp2_with fail
        refine HO.mono ?_
        rintro e w1 ⟨v, rfl, hb, hh⟩
        obtain ⟨h, m, rfl, hho, _, hmw⟩ := hh (by trivial)
        rw [← HE0.out] at hb hmw
        have HB1 : Hid (Below W0.heap.size W0 w1) := hb
        have HV1 : Hid _ := HVT.out w1 hb
        have HHO : Hid (HeapO w1 h xs tr m 0) := hho
        clear hb HO HVT hh hho hmw
        go_wp2_with fail
        refine Calls.mono HV1.out ?_
        rintro e w2 ⟨rfl, hb2⟩
        have HB2 : Hid (Below W0.heap.size W0 w2) := Below.on HB1.out hb2
        have HT2 : Hid _ := HTO.out w2 HB2.out
        have HH2 : Hid (HeapO w2 h xs tr m 0) := HHO.out.below hb2
        clear hb2 HV1 HTO HHO
        go_wp2_with fail
        refine Calls.mono HT2.out ?_
        rintro e w3 ⟨v3, rfl, hfo3, hb3⟩
        have HB3 : Hid (Below W0.heap.size W0 w3) := Below.on HB2.out hb3
        have HC3 : Hid _ := HCH.out w3 h v3 _ (HH2.out.below hb3).at hfo3
        obtain ⟨vt, vx, rfl⟩ := hfo3.iface
        clear hb3 hfo3 HT2 HCH HH2
        go_wp2_with fail
        refine Calls.mono HC3.out ?_
        rintro e w4 ⟨rfl, hb4⟩
        have HBn : Hid (Below W0.heap.size W0 w4) := Below.on HB3.out hb4
        clear hb4 HC3
        have HR : Hid _ := put5 (HBX.out w4 HBn.out) (HCX.out w4 HBn.out) (by omega) (.slice none 0 0) (.slice none 0 0) (.int .i64 0) (.int .i64 0) (.slice none 0 0)
        have HBF : Hid _ := HB0.out w4 (.slice none 0 0) (.slice none 0 0) (.int .i64 0) (.int .i64 0) (.slice none 0 0) HBn.out
        obtain ⟨x0, x1, x2⟩ := HBX.out w4 HBn.out
        obtain ⟨y0, y1, y2, y3⟩ := HCX.out w4 HBn.out
        clear HBX HCX HB0
        go_wp2
        obtain ⟨⟨d0, d1, _⟩, d2, d3, d4, _⟩ := HR.out
        exact bodyPost_ret (v := .tuple #[.agg #[.slice none 0 0, .slice none 0 0], .agg #[.int .i64 0, .int .i64 0, .slice none 0 0], .int .i64 1]) (by simp [results, Try.results35, go_sem, d0, d1, d2, d3, d4]) rfl (PutAns.none 1 HBF.out)

end Go.Proofs.Ytedkkghekboahaa

namespace Go.Proofs.Ytedkkghekboahaa
open Go Go.RowKit Go.Maps
set_option linter.unusedVariables false

set_option maxHeartbeats 8000000 in
set_option maxRecDepth 100000 in
theorem implPut_d (p q pt : Option Addr) (c1 c2 cap : Nat) (cs xs : List Cel) (tr : List Int) (w : World) (hx : xs.length ≤ 1000000000) (hy : tr.length ≤ 1000000000) (hz : cs.length ≤ cap) (hcm : cap ≤ 1000000000) (hbx : ∀ a, a < xs.length → Byte (xs.getD a Cel.none).2.2) (hbc : ∀ i, i < cs.length → Byte (cs.getD i Cel.none).2.2) (hc : CIn w p xs) (hi : IIn w q tr) (hin : CIn w pt cs) (hs : storeB xs tr = true) (hv : validB cs = true) (hcan : canB xs cs = true) (hle : xs.length + (ptB xs.length (treeOf cs).1 (treeOf cs).2).length ≤ 20000) :
    Calls Try.prog 35 #[.agg #[.slice p xs.length c1, .slice q tr.length c2], .slice pt cs.length cap] w (PutAns (putA xs tr cs) w) := by
  obtain ⟨W0, eW0⟩ : ∃ W0, W0 = ((w.alloc (.cells #[.slice p xs.length c1, .slice q tr.length c2] 36)).alloc (.cells #[.slice none 0 0, .slice none 0 0] 36)).alloc (.cells #[.int .i64 0, .int .i64 0, .slice none 0 0] 31) := ⟨_, rfl⟩
  have hb0 : Below w.heap.size w W0 := by
    rw [eW0]; exact (((Below.refl _ _).alloc (Nat.le_refl _) _).alloc (by simp) _).alloc (by simp; omega) _
  have k0 := heap_three w (.cells #[.slice p xs.length c1, .slice q tr.length c2] 36) (.cells #[.slice none 0 0, .slice none 0 0] 36) (.cells #[.int .i64 0, .int .i64 0, .slice none 0 0] 31)
  rw [← eW0] at k0
  obtain ⟨k1, k2⟩ := k0
  have hz0 : W0.heap.size = w.heap.size + 1 + 1 + 1 := by rw [eW0]; simp
  have HBX : Hid (∀ W, Below W0.heap.size W0 W → Box2 W (w.heap.size + 1) (.slice none 0 0) (.slice none 0 0)) := fun W hW => Box2.of_block ((hW.block (w.heap.size + 1) (by omega)).trans k1)
  have HCX : Hid (∀ W, Below W0.heap.size W0 W → Box3 W (w.heap.size + 1 + 1) (.int .i64 0) (.int .i64 0) (.slice none 0 0)) := fun W hW => Box3.of_block ((hW.block (w.heap.size + 1 + 1) (by omega)).trans k2)
  have HO := heapOf_any p q c1 c2 xs tr W0 hx hy (hc.below hb0) (hi.below hb0)
  have HIN : Hid (∀ W, Below W0.heap.size W0 W → CIn W pt cs) := fun W hW => hin.below (Below.on hb0 hW)
  have HB0 : Hid (∀ W v0 v1 u0 u1 u2, Below W0.heap.size W0 W → Below w.heap.size w (((((W.setCell ⟨w.heap.size + 1, 0, none⟩ v0).setCell ⟨w.heap.size + 1, 1, none⟩ v1).setCell ⟨w.heap.size + 1 + 1, 0, none⟩ u0).setCell ⟨w.heap.size + 1 + 1, 1, none⟩ u1).setCell ⟨w.heap.size + 1 + 1, 2, none⟩ u2)) := fun W v0 v1 u0 u1 u2 hW => below_put3 (below_put2 (Below.on hb0 hW) (by omega) _ _) (by omega) _ _ _
  have HE0 : Hid _ := eW0
  have HZ0 : Hid _ := hz0
  have HVT : Hid (∀ W, Below W0.heap.size W0 W → Calls Try.prog 71 #[.slice pt cs.length cap] W fun e w' => e = .returned (.bool (validB cs)) ∧ Below W.heap.size W w') := fun W hW => implValid_any pt cap cs W (by omega) (HIN.out W hW)
  clear hc hi hin hb0 k1 k2 hz0
  unfold HeapOut at HO
  rw [eW0] at HO
  clear eW0
  · rw [hs] at HO
    obtain ⟨hxl, htl, hshp, _, _⟩ := storeB_parts hs
    have hoks := storeB_ok hs
    · rw [hv] at HVT
      obtain ⟨hcs, hok, h2000⟩ := treeOf_spec hbc hv
      have HPA : Hid (putA xs tr cs = if canB xs cs = true then putT xs tr (treeOf cs) else noneP 1) := by show _ = _; unfold putA; rw [if_pos hs, if_pos hv]
      obtain ⟨⟨c, k⟩, et⟩ : ∃ t, t = treeOf cs := ⟨_, rfl⟩
      rw [← et] at hcs hok HPA
      have HTC : Hid (treeOf cs = (c, k)) := et.symm
      simp only at hcs hok
      have hkl : k.cells.length ≤ 2000 := by rw [hcs] at h2000; simp at h2000; omega
      have hlen : cs.length = k.cells.length + 1 := by rw [hcs]; simp
      have HTO : Hid (∀ W, Below W0.heap.size W0 W → Calls Try.prog 72 #[.slice pt cs.length cap] W fun e w' => ∃ v, e = .returned v ∧ FoIn w' W.heap.size (.node c k .nil) [v] ∧ Below W.heap.size W w') := fun W hW => termOf_any c k pt cs.length cap W hok hlen hz hcm (by have := HIN.out W hW; rwa [hcs] at this)
      have HCH : Hid (∀ W h v Bt, HeapAt W h xs tr → FoIn W Bt (.node c k .nil) [v] → Calls Try.prog 73 #[.pointer (some ⟨h, 0, none⟩), v] W fun e w' => e = .returned (.bool (canB xs cs)) ∧ Below W.heap.size W w') := fun W h v Bt H hf => by rw [hcs]; exact canHold_any h xs tr c k v Bt W hxl hshp.knds hok hf (by omega) H
      rw [hcan] at HPA HCH
      have HOK : Hid ((Fo.node c k .nil).ok) := hok
      have HOKS : Hid (∀ a, a < xs.length → okW (xs.getD a Cel.none).1 (xs.getD a Cel.none).2.1 (xs.getD a Cel.none).2.2.length = true) := hoks
      have HBY : Hid (∀ a, a < xs.length → Byte (xs.getD a Cel.none).2.2) := hbx
      clear hs hv HIN hbx hbc hshp hoks hcs h2000 hok et hcan hlen
      · have HA : Hid (putA xs tr cs = putT xs tr (c, k)) := by show _ = _; rw [HPA.out, if_pos rfl]
        rw [HA.out]
        have hform := ptA_form xs.length c k HOK.out.2.1
        obtain ⟨hfB, hfA⟩ := ptB_fine xs.length c k HOK.out hxl hkl
        have HPU : Hid (∀ W W' h m mf Bt (v : Value), FoIn W Bt (.node c k .nil) [v] → PS W0.heap.size Bt W.heap.size h m mf 0 0 W tr (xs.map wv) [] W' → Calls Try.prog 75 #[.agg #[.pointer (some ⟨h, 0, none⟩), .int .i64 (xs.length : Nat), .map (some mf)], v] W' fun e w' => e = .returned (wv (ptA xs.length c k).1) ∧ HeapAt w' h (xs ++ ptB xs.length c k) tr ∧ Below W0.heap.size W w') := fun W W' h m mf Bt v hf hps => by
          have hh := put_any W0.heap.size Bt W.heap.size h m mf 0 W tr rfl c k v (xs.map wv) W' HOK.out hf (by rw [List.length_map]; exact hxl) hkl hps
          rw [List.length_map] at hh
          refine hh.mono ?_
          rintro e w' ⟨he, ⟨N, E, hp⟩, _⟩
          rw [← List.map_append] at hp
          obtain ⟨pw, cw, hp'⟩ := id hp
          exact ⟨he, hp.at, hp'.2.2.2.2.2.2.2⟩
        have HST : Hid (xs.length + (ptB xs.length c k).length ≤ 20000 → ∀ W h, HeapAt W h (xs ++ ptB xs.length c k) tr → Calls Try.prog 61 #[.pointer (some ⟨h, 0, none⟩)] W (StoreOut (xs ++ ptB xs.length c k) tr W)) := fun hle W h H => by
          have hall : ∀ a, a < (xs ++ ptB xs.length c k).length → okW ((xs ++ ptB xs.length c k).getD a Cel.none).1 ((xs ++ ptB xs.length c k).getD a Cel.none).2.1 ((xs ++ ptB xs.length c k).getD a Cel.none).2.2.length = true ∧ Byte ((xs ++ ptB xs.length c k).getD a Cel.none).2.2 := fun a ha => by
            by_cases h1 : a < xs.length
            · have e : (xs ++ ptB xs.length c k).getD a Cel.none = xs.getD a Cel.none := by simp [List.getD, List.getElem?_append_left h1]
              rw [e]; exact ⟨HOKS.out a h1, HBY.out a h1⟩
            · have h2 : a - xs.length < (ptB xs.length c k).length := by rw [List.length_append] at ha; omega
              have e : (xs ++ ptB xs.length c k).getD a Cel.none = (ptB xs.length c k)[a - xs.length] := by
                have h3 : xs.length ≤ a := by omega
                simp [List.getD, List.getElem?_append_right h3, h2]
              rw [e]
              have := hfB _ (List.getElem_mem h2)
              exact ⟨this.1, this.2.1⟩
          exact store_any h _ tr W (by rw [List.length_append]; exact hle) htl (fun a ha => (hall a ha).1) (fun a ha => (hall a ha).2) H
        have HPT : Hid (putT xs tr (c, k) = if xs.length + (ptB xs.length c k).length ≤ 20000 then ((xs ++ ptB xs.length c k, tr), (ptA xs.length c k).1, 0) else noneP 10) := rfl
        rw [HPT.out]
        have hLB : (xs ++ ptB xs.length c k).length ≤ 1000000 := by
          have := put1_blk xs.length c k xs.length xs.length [] (putL_blk xs.length k)
          unfold ptB ptA
          rw [List.length_append, List.length_append]
          split <;> simp <;> omega
        have HLX : Hid ((xs ++ ptB xs.length c k).length = xs.length + (ptB xs.length c k).length) := by show _ = _; rw [List.length_append]
        rw [HTC.out] at hle
        simp only at hle
        rw [← HLX.out] at hle
        rw [← HLX.out] at HST ⊢
        rw [if_pos hle]
        generalize xs ++ ptB xs.length c k = X at HPU HST HLX hLB hle ⊢
        generalize (ptA xs.length c k).1 = d at HPU hform hfA ⊢
        obtain ⟨n0, en0⟩ : ∃ n0, n0 = xs.length := ⟨_, rfl⟩
        rw [← en0] at HPU
        obtain ⟨LX, eLX⟩ : ∃ LX, LX = X.length := ⟨_, rfl⟩
        have HLE : Hid (LX = X.length) := eLX
        have HN0 : Hid (n0 = xs.length) := en0
        rw [← eLX] at hLB hle
        clear HA HPA HOKS HBY HLX HPT hfB hfA
        obtain ⟨ty, y, hvv⟩ := wv_iface d
        have HWV : Hid (wv d = .iface ty y) := hvv
        rw [hvv] at HPU
        clear hvv en0 eLX
        go_enter Try.func35, Try.ntmps35
        go_wp2_with fail
        refine HO.mono ?_
        rintro e w1 ⟨v, rfl, hb, hh⟩
        obtain ⟨h, m, rfl, hho, _, hmw⟩ := hh (by trivial)
        rw [← HE0.out] at hb hmw
        have HB1 : Hid (Below W0.heap.size W0 w1) := hb
        have HV1 : Hid _ := HVT.out w1 hb
        have HHO : Hid (HeapO w1 h xs tr m 0) := hho
        have HMW : Hid (W0.heap.size ≤ m) := hmw
        clear hb HO HVT hh hho hmw
        go_wp2_with fail
        refine Calls.mono HV1.out ?_
        rintro e w2 ⟨rfl, hb2⟩
        have HB2 : Hid (Below W0.heap.size W0 w2) := Below.on HB1.out hb2
        have HT2 : Hid _ := HTO.out w2 HB2.out
        have HH2 : Hid (HeapO w2 h xs tr m 0) := HHO.out.below hb2
        clear hb2 HV1 HTO HHO
        go_wp2_with fail
        refine Calls.mono HT2.out ?_
        rintro e w3 ⟨v3, rfl, hfo3, hb3⟩
        have HB3 : Hid (Below W0.heap.size W0 w3) := Below.on HB2.out hb3
        have HC3 : Hid _ := HCH.out w3 h v3 _ (HH2.out.below hb3).at hfo3
        have HF3 : Hid (FoIn w3 w2.heap.size (.node c k .nil) [v3]) := hfo3
        have HB23 : Hid (Below w2.heap.size w2 w3) := hb3
        obtain ⟨vt, vx, rfl⟩ := hfo3.iface
        clear hb3 hfo3 HT2 HCH
        go_wp2_with fail
        refine Calls.mono HC3.out ?_
        rintro e w4 ⟨rfl, hb4⟩
        have HB4 : Hid (Below W0.heap.size W0 w4) := Below.on HB3.out hb4
        have HB24 : Hid (Below w2.heap.size w2 w4) := Below.on HB23.out hb4
        have HF4 : Hid (FoIn w4 w2.heap.size (.node c k .nil) [.iface vt vx]) := HF3.out.below hb4
        obtain ⟨pw4, cw4, pt4, ct4, h04, _⟩ := HH2.out.below HB24.out
        have hc0 : w4.cell? ⟨h, 0, none⟩ = some (.slice pw4 n0 cw4) := by rw [HN0.out]; simp [World.cell?, h04]
        clear h04
        have HFI := filler_any h (n0 : Int) w4
        clear hb4 HC3 HF3 HB23
        have hn0 : n0 ≤ 20000 := by have := HN0.out; omega
        go_wp2_with fail
        refine HFI.mono ?_
        rintro e w5 ⟨mf, rfl, hvm, hmf, hb5⟩
        have HPP : Hid _ := HPU.out w4 w5 h m mf w2.heap.size (.iface vt vx) HF4.out (ps_start (wT := w3) HH2.out HMW.out HB24.out hb5 hvm hmf)
        clear hvm hmf hb5 HFI HPU HF4 hc0
        go_wp2_with fail
        refine Calls.mono HPP.out ?_
        rintro e w6 ⟨rfl, hat6, hb6⟩
        have HB6 : Hid (Below W0.heap.size W0 w6) := HB4.out.trans hb6
        have HAT : Hid (HeapAt w6 h X tr) := hat6
        obtain ⟨pw6, cw6, _, _, hc6, _⟩ := hat6
        rw [← HLE.out] at hc6
        clear hb6 HPP HH2 HB24
        · have HS6 : Hid _ := HST.out (by rw [← HLE.out]; exact hle) w6 h HAT.out
          have hd : ¬ ((20000 : Int) < LX) := by omega
          clear HST HAT hle
          rcases hform with ⟨a, rfl⟩ | ⟨a, rfl⟩ | ⟨t, rfl, hbt⟩ | ⟨a, rfl⟩
          · have e0 : wv (0, a, []) = .iface 100 (.int .i64 a) := rfl
            rw [e0] at HWV
            obtain ⟨rfl, rfl⟩ : 100 = ty ∧ .int .i64 a = y := by have := HWV.out; simpa using this
            clear e0 HWV
            go_wp2_with fail
            refine Calls.mono HS6.out ?_
            rintro e w7 ⟨p7, q7, c7, d7, M, rfl, hoi, hoc, hM1, hM2, hb7⟩
            have HB7 : Hid (Below W0.heap.size W0 w7) := Below.on HB6.out hb7
            have HR7 := refCell_any a w7
            have HOI : Hid (OwnIU w7 w6.heap.size M q7 tr.length d7 tr) := hoi
            have HOC : Hid (OwnCU w7 M w7.heap.size p7 X.length c7 X) := hoc
            have HM : Hid (w6.heap.size ≤ M ∧ M ≤ w7.heap.size) := ⟨hM1, hM2⟩
            clear hoi hoc hM1 hM2 hb7 HS6
            go_wp2_with (go_at_call 135; refine HR7.mono ?_; rintro e w8 ⟨rfl, hb8⟩; have HB8 : Hid (Below W0.heap.size W0 w8) := Below.on HB7.out hb8; have HB78 : Hid (Below w7.heap.size w7 w8) := hb8; obtain ⟨x0, x1, x2⟩ := HBX.out w8 HB8.out; obtain ⟨y0, y1, y2, y3⟩ := HCX.out w8 HB8.out; clear hb8)
            have HR : Hid _ := put5 (HBX.out w8 HB8.out) (HCX.out w8 HB8.out) (by omega) (.slice p7 X.length c7) (.slice q7 tr.length d7) (.int .i64 0) (.int .i64 a) (.slice none 0 0)
            obtain ⟨⟨d0, d1, _⟩, d2, d3, d4, _⟩ := HR.out
            refine bodyPost_ret (v := .tuple #[.agg #[.slice p7 X.length c7, .slice q7 tr.length d7], .agg #[.int .i64 0, .int .i64 a, .slice none 0 0], .int .i64 0]) (by simp [results, Try.results35, go_sem, d0, d1, d2, d3, d4]) rfl ?_
            have hs6 := HB6.out.size
            have hz := HZ0.out
            have hm := HM.out
            refine ⟨p7, q7, none, c7, d7, 0, M, w7.heap.size, rfl, ?_, ?_, ?_, by omega, hm.2, by simpa using HB78.out.size, HB0.out w8 _ _ _ _ _ HB8.out⟩
            · have h1 := (HOI.out.on HB78.out)
              exact ⟨(((((h1.1.set (by simp; omega) _).set (by simp; omega) _).set (by simp; omega) _).set (by simp; omega) _).set (by simp; omega) _).mono (by omega), h1.2⟩
            · exact (((((HOC.out.below HB78.out).set (by simp; omega) _).set (by simp; omega) _).set (by simp; omega) _).set (by simp; omega) _).set (by simp; omega) _
            · exact OwnT.nilT _ _
          · have e0 : wv (1, a, []) = .iface 121 (.int .i64 a) := rfl
            rw [e0] at HWV
            obtain ⟨rfl, rfl⟩ : 121 = ty ∧ .int .i64 a = y := by have := HWV.out; simpa using this
            clear e0 HWV
            go_wp2_with fail
            refine Calls.mono HS6.out ?_
            rintro e w7 ⟨p7, q7, c7, d7, M, rfl, hoi, hoc, hM1, hM2, hb7⟩
            have HB7 : Hid (Below W0.heap.size W0 w7) := Below.on HB6.out hb7
            have HR7 := numCell_any a w7
            have HOI : Hid (OwnIU w7 w6.heap.size M q7 tr.length d7 tr) := hoi
            have HOC : Hid (OwnCU w7 M w7.heap.size p7 X.length c7 X) := hoc
            have HM : Hid (w6.heap.size ≤ M ∧ M ≤ w7.heap.size) := ⟨hM1, hM2⟩
            clear hoi hoc hM1 hM2 hb7 HS6
            go_wp2_with (go_at_call 138; refine HR7.mono ?_; rintro e w8 ⟨rfl, hb8⟩; have HB8 : Hid (Below W0.heap.size W0 w8) := Below.on HB7.out hb8; have HB78 : Hid (Below w7.heap.size w7 w8) := hb8; obtain ⟨x0, x1, x2⟩ := HBX.out w8 HB8.out; obtain ⟨y0, y1, y2, y3⟩ := HCX.out w8 HB8.out; clear hb8)
            have HR : Hid _ := put5 (HBX.out w8 HB8.out) (HCX.out w8 HB8.out) (by omega) (.slice p7 X.length c7) (.slice q7 tr.length d7) (.int .i64 1) (.int .i64 a) (.slice none 0 0)
            obtain ⟨⟨d0, d1, _⟩, d2, d3, d4, _⟩ := HR.out
            refine bodyPost_ret (v := .tuple #[.agg #[.slice p7 X.length c7, .slice q7 tr.length d7], .agg #[.int .i64 1, .int .i64 a, .slice none 0 0], .int .i64 0]) (by simp [results, Try.results35, go_sem, d0, d1, d2, d3, d4]) rfl ?_
            have hs6 := HB6.out.size
            have hz := HZ0.out
            have hm := HM.out
            refine ⟨p7, q7, none, c7, d7, 0, M, w7.heap.size, rfl, ?_, ?_, ?_, by omega, hm.2, by simpa using HB78.out.size, HB0.out w8 _ _ _ _ _ HB8.out⟩
            · have h1 := (HOI.out.on HB78.out)
              exact ⟨(((((h1.1.set (by simp; omega) _).set (by simp; omega) _).set (by simp; omega) _).set (by simp; omega) _).set (by simp; omega) _).mono (by omega), h1.2⟩
            · exact (((((HOC.out.below HB78.out).set (by simp; omega) _).set (by simp; omega) _).set (by simp; omega) _).set (by simp; omega) _).set (by simp; omega) _
            · exact OwnT.nilT _ _
          · have e0 : wv (2, 0, t) = .iface 122 (.string (strOfNums t)) := rfl
            rw [e0] at HWV
            obtain ⟨rfl, rfl⟩ : 122 = ty ∧ .string (strOfNums t) = y := by have := HWV.out; simpa using this
            clear e0 HWV
            go_wp2_with fail
            refine Calls.mono HS6.out ?_
            rintro e w7 ⟨p7, q7, c7, d7, M, rfl, hoi, hoc, hM1, hM2, hb7⟩
            have HB7 : Hid (Below W0.heap.size W0 w7) := Below.on HB6.out hb7
            have HR7 := atomCell_any t w7 hbt
            have HOI : Hid (OwnIU w7 w6.heap.size M q7 tr.length d7 tr) := hoi
            have HOC : Hid (OwnCU w7 M w7.heap.size p7 X.length c7 X) := hoc
            have HM : Hid (w6.heap.size ≤ M ∧ M ≤ w7.heap.size) := ⟨hM1, hM2⟩
            clear hoi hoc hM1 hM2 hb7 HS6
            go_wp2_with (go_at_call 140; refine HR7.mono ?_; rintro e w8 ⟨pp, cc, rfl, ho8, hb8⟩; have HB8 : Hid (Below W0.heap.size W0 w8) := Below.on HB7.out hb8; have HB78 : Hid (Below w7.heap.size w7 w8) := hb8; have HO8 : Hid (OwnT w8 w7.heap.size pp t.length cc t) := ho8; clear ho8; obtain ⟨x0, x1, x2⟩ := HBX.out w8 HB8.out; obtain ⟨y0, y1, y2, y3⟩ := HCX.out w8 HB8.out; clear hb8)
            have HR : Hid _ := put5 (HBX.out w8 HB8.out) (HCX.out w8 HB8.out) (by omega) (.slice p7 X.length c7) (.slice q7 tr.length d7) (.int .i64 2) (.int .i64 0) (.slice pp t.length cc)
            obtain ⟨⟨d0, d1, _⟩, d2, d3, d4, _⟩ := HR.out
            refine bodyPost_ret (v := .tuple #[.agg #[.slice p7 X.length c7, .slice q7 tr.length d7], .agg #[.int .i64 2, .int .i64 0, .slice pp t.length cc], .int .i64 0]) (by simp [results, Try.results35, go_sem, d0, d1, d2, d3, d4]) rfl ?_
            have hs6 := HB6.out.size
            have hz := HZ0.out
            have hm := HM.out
            refine ⟨p7, q7, pp, c7, d7, cc, M, w7.heap.size, rfl, ?_, ?_, ?_, by omega, hm.2, by simpa using HB78.out.size, HB0.out w8 _ _ _ _ _ HB8.out⟩
            · have h1 := (HOI.out.on HB78.out)
              exact ⟨(((((h1.1.set (by simp; omega) _).set (by simp; omega) _).set (by simp; omega) _).set (by simp; omega) _).set (by simp; omega) _).mono (by omega), h1.2⟩
            · exact (((((HOC.out.below HB78.out).set (by simp; omega) _).set (by simp; omega) _).set (by simp; omega) _).set (by simp; omega) _).set (by simp; omega) _
            · have hs7 := HB7.out.size
              have hne : ∀ b, b < w7.heap.size → 0 < t.length → pp ≠ some ⟨b, 0, none⟩ := fun b hb hp e => by
                obtain ⟨g, hg, hg2, _⟩ := HO8.out.2 hp
                rw [hg] at e
                have := congrArg Addr.block (Option.some.inj e)
                simp at this; omega
              exact ((((HO8.out.setCell (fun hp => hne _ (by simp; omega) hp) _).setCell (fun hp => hne _ (by simp; omega) hp) _).setCell (fun hp => hne _ (by simp; omega) hp) _).setCell (fun hp => hne _ (by simp; omega) hp) _).setCell (fun hp => hne _ (by simp; omega) hp) _
          · have e0 : wv (4, a, []) = .iface 123 (.int .i64 a) := rfl
            rw [e0] at HWV
            obtain ⟨rfl, rfl⟩ : 123 = ty ∧ .int .i64 a = y := by have := HWV.out; simpa using this
            clear e0 HWV
            go_wp2_with fail
            refine Calls.mono HS6.out ?_
            rintro e w7 ⟨p7, q7, c7, d7, M, rfl, hoi, hoc, hM1, hM2, hb7⟩
            have HB7 : Hid (Below W0.heap.size W0 w7) := Below.on HB6.out hb7
            have HR7 := strCell_any a w7
            have HOI : Hid (OwnIU w7 w6.heap.size M q7 tr.length d7 tr) := hoi
            have HOC : Hid (OwnCU w7 M w7.heap.size p7 X.length c7 X) := hoc
            have HM : Hid (w6.heap.size ≤ M ∧ M ≤ w7.heap.size) := ⟨hM1, hM2⟩
            clear hoi hoc hM1 hM2 hb7 HS6
            go_wp2_with (go_at_call 141; refine HR7.mono ?_; rintro e w8 ⟨rfl, hb8⟩; have HB8 : Hid (Below W0.heap.size W0 w8) := Below.on HB7.out hb8; have HB78 : Hid (Below w7.heap.size w7 w8) := hb8; obtain ⟨x0, x1, x2⟩ := HBX.out w8 HB8.out; obtain ⟨y0, y1, y2, y3⟩ := HCX.out w8 HB8.out; clear hb8)
            have HR : Hid _ := put5 (HBX.out w8 HB8.out) (HCX.out w8 HB8.out) (by omega) (.slice p7 X.length c7) (.slice q7 tr.length d7) (.int .i64 4) (.int .i64 a) (.slice none 0 0)
            obtain ⟨⟨d0, d1, _⟩, d2, d3, d4, _⟩ := HR.out
            refine bodyPost_ret (v := .tuple #[.agg #[.slice p7 X.length c7, .slice q7 tr.length d7], .agg #[.int .i64 4, .int .i64 a, .slice none 0 0], .int .i64 0]) (by simp [results, Try.results35, go_sem, d0, d1, d2, d3, d4]) rfl ?_
            have hs6 := HB6.out.size
            have hz := HZ0.out
            have hm := HM.out
            refine ⟨p7, q7, none, c7, d7, 0, M, w7.heap.size, rfl, ?_, ?_, ?_, by omega, hm.2, by simpa using HB78.out.size, HB0.out w8 _ _ _ _ _ HB8.out⟩
            · have h1 := (HOI.out.on HB78.out)
              exact ⟨(((((h1.1.set (by simp; omega) _).set (by simp; omega) _).set (by simp; omega) _).set (by simp; omega) _).set (by simp; omega) _).mono (by omega), h1.2⟩
            · exact (((((HOC.out.below HB78.out).set (by simp; omega) _).set (by simp; omega) _).set (by simp; omega) _).set (by simp; omega) _).set (by simp; omega) _
            · exact OwnT.nilT _ _

end Go.Proofs.Ytedkkghekboahaa

