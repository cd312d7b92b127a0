/- Texts of PtXA. Own work of the verifier. -/
import Derived.Test.YtedkkghekboahaaUqbj
namespace Go.Proofs.Ytedkkghekboahaa
open Go Go.RowKit Go.Maps
set_option linter.unusedVariables false

set_option maxHeartbeats 8000000 in
set_option maxRecDepth 100000 in
theorem specPut_a (p q pt : Option Addr) (c1 c2 cap : Nat) (cs xs : List Cel) (tr : List Int) (w : World) (hx : xs.length ≤ 1000000000) (hy : tr.length ≤ 1000000000) (hz : cs.length ≤ cap) (hcm : cap ≤ 1000000000) (hbc : ∀ i, i < cs.length → Byte (cs.getD i Cel.none).2.2) (hc : CIn w p xs) (hi : IIn w q tr) (hin : CIn w pt cs) (hs : storeB xs tr = false) :
    Calls Try.prog 33 #[.agg #[.slice p xs.length c1, .slice q tr.length c2], .slice pt cs.length cap] w (PutB (putA xs tr cs) w) := by
  obtain ⟨W0, eW0⟩ : ∃ W0, W0 = ((w.alloc (.cells #[.slice p xs.length c1, .slice q tr.length c2] 36)).alloc (.cells #[.slice none 0 0, .slice none 0 0] 36)).alloc (.cells #[.int .i64 0, .int .i64 0, .slice none 0 0] 31) := ⟨_, rfl⟩
  have hb0 : Below w.heap.size w W0 := by
    rw [eW0]; exact (((Below.refl _ _).alloc (Nat.le_refl _) _).alloc (by simp) _).alloc (by simp; omega) _
  have k0 := heap_three w (.cells #[.slice p xs.length c1, .slice q tr.length c2] 36) (.cells #[.slice none 0 0, .slice none 0 0] 36) (.cells #[.int .i64 0, .int .i64 0, .slice none 0 0] 31)
  have kS : W0.heap[w.heap.size]? = some (.cells #[.slice p xs.length c1, .slice q tr.length c2] 36) := by
    rw [eW0, Below.heap_alloc _ _ _ (by simp; omega), Below.heap_alloc _ _ _ (by simp)]; exact heap_alloc_new _ _
  rw [← eW0] at k0
  obtain ⟨k1, k2⟩ := k0
  have hz0 : W0.heap.size = w.heap.size + 1 + 1 + 1 := by rw [eW0]; simp
  have HSX : Hid (∀ W, Below W0.heap.size W0 W → Box2 W w.heap.size (.slice p xs.length c1) (.slice q tr.length c2)) := fun W hW => Box2.of_block ((hW.block w.heap.size (by omega)).trans kS)
  have HBX : Hid (∀ W, Below W0.heap.size W0 W → Box2 W (w.heap.size + 1) (.slice none 0 0) (.slice none 0 0)) := fun W hW => Box2.of_block ((hW.block (w.heap.size + 1) (by omega)).trans k1)
  have HCX : Hid (∀ W, Below W0.heap.size W0 W → Box3 W (w.heap.size + 1 + 1) (.int .i64 0) (.int .i64 0) (.slice none 0 0)) := fun W hW => Box3.of_block ((hW.block (w.heap.size + 1 + 1) (by omega)).trans k2)
  have HO := l10valid_any p q c1 c2 xs tr W0 hx hy (hc.below hb0) (hi.below hb0)
  have HIN : Hid (∀ W, Below W0.heap.size W0 W → CIn W p xs ∧ IIn W q tr ∧ CIn W pt cs) := fun W hW => ⟨hc.below (Below.on hb0 hW), hi.below (Below.on hb0 hW), hin.below (Below.on hb0 hW)⟩
  have HB0 : Hid (∀ W v0 v1 u0 u1 u2, Below W0.heap.size W0 W → Below w.heap.size w (((((W.setCell ⟨w.heap.size + 1, 0, none⟩ v0).setCell ⟨w.heap.size + 1, 1, none⟩ v1).setCell ⟨w.heap.size + 1 + 1, 0, none⟩ u0).setCell ⟨w.heap.size + 1 + 1, 1, none⟩ u1).setCell ⟨w.heap.size + 1 + 1, 2, none⟩ u2)) := fun W v0 v1 u0 u1 u2 hW => below_put3 (below_put2 (Below.on hb0 hW) (by omega) _ _) (by omega) _ _ _
  have HE0 : Hid _ := eW0
  have HZ0 : Hid _ := hz0
  have HVT : Hid (∀ W, Below W0.heap.size W0 W → Calls Try.prog 69 #[.slice pt cs.length cap] W fun e w' => e = .returned (.bool (validB cs)) ∧ Below W.heap.size W w') := fun W hW => specValid_any pt cap cs W (by omega) (HIN.out W hW).2.2
  clear hc hi hin hb0 k1 k2 kS hz0
  rw [eW0] at HO
  clear eW0
  have HA : Hid (putA xs tr cs = noneP 1) := by show _ = _; unfold putA; rw [if_neg (by simp [hs])]
  rw [HA.out]
  rw [hs] at HO
  clear hs HA HIN HVT hbc HSX
  go_enter Try.func33, Try.ntmps33
  go_wp2_with fail
  refine HO.mono ?_
  rintro e w1 ⟨rfl, hb⟩
  rw [← HE0.out] at hb
  have HBn : Hid (Below W0.heap.size W0 w1) := hb
  clear hb HO
  have HR : Hid _ := put5 (HBX.out w1 HBn.out) (HCX.out w1 HBn.out) (by omega) (.slice none 0 0) (.slice none 0 0) (.int .i64 0) (.int .i64 0) (.slice none 0 0)
  have HBF : Hid _ := HB0.out w1 (.slice none 0 0) (.slice none 0 0) (.int .i64 0) (.int .i64 0) (.slice none 0 0) HBn.out
  obtain ⟨x0, x1, x2⟩ := HBX.out w1 HBn.out
  obtain ⟨y0, y1, y2, y3⟩ := HCX.out w1 HBn.out
  clear HBX HCX HB0
  go_wp2
  obtain ⟨⟨d0, d1, _⟩, d2, d3, d4, _⟩ := HR.out
  exact bodyPost_ret (v := .tuple #[.agg #[.slice none 0 0, .slice none 0 0], .agg #[.int .i64 0, .int .i64 0, .slice none 0 0], .int .i64 1]) (by simp [results, Try.results33, go_sem, d0, d1, d2, d3, d4]) rfl (id (PutB.none 1 HBF.out))

set_option maxHeartbeats 8000000 in
set_option maxRecDepth 100000 in
theorem specPut_b (p q pt : Option Addr) (c1 c2 cap : Nat) (cs xs : List Cel) (tr : List Int) (w : World) (hx : xs.length ≤ 1000000000) (hy : tr.length ≤ 1000000000) (hz : cs.length ≤ cap) (hcm : cap ≤ 1000000000) (hbc : ∀ i, i < cs.length → Byte (cs.getD i Cel.none).2.2) (hc : CIn w p xs) (hi : IIn w q tr) (hin : CIn w pt cs) (hs : storeB xs tr = true) (hv : validB cs = false) :
    Calls Try.prog 33 #[.agg #[.slice p xs.length c1, .slice q tr.length c2], .slice pt cs.length cap] w (PutB (putA xs tr cs) w) := by
  obtain ⟨W0, eW0⟩ : ∃ W0, W0 = ((w.alloc (.cells #[.slice p xs.length c1, .slice q tr.length c2] 36)).alloc (.cells #[.slice none 0 0, .slice none 0 0] 36)).alloc (.cells #[.int .i64 0, .int .i64 0, .slice none 0 0] 31) := ⟨_, rfl⟩
  have hb0 : Below w.heap.size w W0 := by
    rw [eW0]; exact (((Below.refl _ _).alloc (Nat.le_refl _) _).alloc (by simp) _).alloc (by simp; omega) _
  have k0 := heap_three w (.cells #[.slice p xs.length c1, .slice q tr.length c2] 36) (.cells #[.slice none 0 0, .slice none 0 0] 36) (.cells #[.int .i64 0, .int .i64 0, .slice none 0 0] 31)
  have kS : W0.heap[w.heap.size]? = some (.cells #[.slice p xs.length c1, .slice q tr.length c2] 36) := by
    rw [eW0, Below.heap_alloc _ _ _ (by simp; omega), Below.heap_alloc _ _ _ (by simp)]; exact heap_alloc_new _ _
  rw [← eW0] at k0
  obtain ⟨k1, k2⟩ := k0
  have hz0 : W0.heap.size = w.heap.size + 1 + 1 + 1 := by rw [eW0]; simp
  have HSX : Hid (∀ W, Below W0.heap.size W0 W → Box2 W w.heap.size (.slice p xs.length c1) (.slice q tr.length c2)) := fun W hW => Box2.of_block ((hW.block w.heap.size (by omega)).trans kS)
  have HBX : Hid (∀ W, Below W0.heap.size W0 W → Box2 W (w.heap.size + 1) (.slice none 0 0) (.slice none 0 0)) := fun W hW => Box2.of_block ((hW.block (w.heap.size + 1) (by omega)).trans k1)
  have HCX : Hid (∀ W, Below W0.heap.size W0 W → Box3 W (w.heap.size + 1 + 1) (.int .i64 0) (.int .i64 0) (.slice none 0 0)) := fun W hW => Box3.of_block ((hW.block (w.heap.size + 1 + 1) (by omega)).trans k2)
  have HO := l10valid_any p q c1 c2 xs tr W0 hx hy (hc.below hb0) (hi.below hb0)
  have HIN : Hid (∀ W, Below W0.heap.size W0 W → CIn W p xs ∧ IIn W q tr ∧ CIn W pt cs) := fun W hW => ⟨hc.below (Below.on hb0 hW), hi.below (Below.on hb0 hW), hin.below (Below.on hb0 hW)⟩
  have HB0 : Hid (∀ W v0 v1 u0 u1 u2, Below W0.heap.size W0 W → Below w.heap.size w (((((W.setCell ⟨w.heap.size + 1, 0, none⟩ v0).setCell ⟨w.heap.size + 1, 1, none⟩ v1).setCell ⟨w.heap.size + 1 + 1, 0, none⟩ u0).setCell ⟨w.heap.size + 1 + 1, 1, none⟩ u1).setCell ⟨w.heap.size + 1 + 1, 2, none⟩ u2)) := fun W v0 v1 u0 u1 u2 hW => below_put3 (below_put2 (Below.on hb0 hW) (by omega) _ _) (by omega) _ _ _
  have HE0 : Hid _ := eW0
  have HZ0 : Hid _ := hz0
  have HVT : Hid (∀ W, Below W0.heap.size W0 W → Calls Try.prog 69 #[.slice pt cs.length cap] W fun e w' => e = .returned (.bool (validB cs)) ∧ Below W.heap.size W w') := fun W hW => specValid_any pt cap cs W (by omega) (HIN.out W hW).2.2
  clear hc hi hin hb0 k1 k2 kS hz0
  rw [eW0] at HO
  clear eW0
  have HA : Hid (putA xs tr cs = noneP 1) := by show _ = _; unfold putA; rw [if_pos hs, if_neg (by simp [hv])]
  rw [HA.out]
  rw [hs] at HO
  rw [hv] at HVT
  clear hs hv HA HIN hbc HSX
  go_enter Try.func33, Try.ntmps33
  go_wp2_with fail
  refine HO.mono ?_
  rintro e w1 ⟨rfl, hb⟩
  rw [← HE0.out] at hb
  have HB1 : Hid (Below W0.heap.size W0 w1) := hb
  have HV1 : Hid _ := HVT.out w1 hb
  clear hb HO HVT
  go_wp2_with fail
  refine Calls.mono HV1.out ?_
  rintro e w2 ⟨rfl, hb2⟩
  have HBn : Hid (Below W0.heap.size W0 w2) := Below.on HB1.out hb2
  clear hb2 HV1
  have HR : Hid _ := put5 (HBX.out w2 HBn.out) (HCX.out w2 HBn.out) (by omega) (.slice none 0 0) (.slice none 0 0) (.int .i64 0) (.int .i64 0) (.slice none 0 0)
  have HBF : Hid _ := HB0.out w2 (.slice none 0 0) (.slice none 0 0) (.int .i64 0) (.int .i64 0) (.slice none 0 0) HBn.out
  obtain ⟨x0, x1, x2⟩ := HBX.out w2 HBn.out
  obtain ⟨y0, y1, y2, y3⟩ := HCX.out w2 HBn.out
  clear HBX HCX HB0
  go_wp2
  obtain ⟨⟨d0, d1, _⟩, d2, d3, d4, _⟩ := HR.out
  exact bodyPost_ret (v := .tuple #[.agg #[.slice none 0 0, .slice none 0 0], .agg #[.int .i64 0, .int .i64 0, .slice none 0 0], .int .i64 1]) (by simp [results, Try.results33, go_sem, d0, d1, d2, d3, d4]) rfl (id (PutB.none 1 HBF.out))

end Go.Proofs.Ytedkkghekboahaa

