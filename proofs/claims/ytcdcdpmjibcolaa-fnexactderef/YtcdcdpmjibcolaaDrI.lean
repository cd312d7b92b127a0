/- Deref of the program. Own work of the verifier. -/
import Derived.Test.YtcdcdpmjibcolaaDrA
namespace Go.Proofs.Ytcdcdpmjibcolaa
open Go Go.RowKit Go.Maps
set_option linter.unusedVariables false

/-- What Deref answers: the word, or what is not a word, and the code. -/
noncomputable def derA (xs : List Cel) (tr : List Int) (c : Cel) : Cel × Int := if vsB xs tr c.1 c.2.1 c.2.2.length = true then (drf xs c, 0) else ((0, 0, []), 1)
theorem vsB_parts {xs : List Cel} {tr : List Int} {c : Cel} (h : vsB xs tr c.1 c.2.1 c.2.2.length = true) : Good xs ∧ WdC xs c ∧ (∀ a, a < xs.length → okW (xs.getD a Cel.none).1 (xs.getD a Cel.none).2.1 (xs.getD a Cel.none).2.2.length = true) ∧ okW c.1 c.2.1 c.2.2.length = true ∧ tr.length ≤ 20000 := by
  unfold vsB at h
  rw [Bool.and_eq_true] at h
  obtain ⟨hs, hw⟩ := h
  obtain ⟨_, p2, p3, _, p5⟩ := storeB_parts hs
  have hw' := hw
  unfold wordB at hw'
  rw [Bool.and_eq_true] at hw'
  exact ⟨⟨p3, p5⟩, WdC.of_word hw, storeB_ok hs, hw'.1, p2⟩
/-- What a word that was followed is. -/
theorem drf_facts {xs : List Cel} {c : Cel} (g : Good xs) (hc : WdC xs c) (ho : ∀ a, a < xs.length → okW (xs.getD a Cel.none).1 (xs.getD a Cel.none).2.1 (xs.getD a Cel.none).2.2.length = true) (hoc : okW c.1 c.2.1 c.2.2.length = true) (hb : ∀ a, a < xs.length → Byte (xs.getD a Cel.none).2.2) (hbc : Byte c.2.2) :
    (drf xs c).1 = 0 ∧ (drf xs c).2.2 = [] ∨ (drf xs c).1 = 1 ∧ (drf xs c).2.2 = [] ∨ (drf xs c).1 = 2 ∧ (drf xs c).2.1 = 0 ∧ Byte (drf xs c).2.2 ∨ (drf xs c).1 = 4 ∧ (drf xs c).2.2 = [] := by
  obtain ⟨⟨h1, h2⟩, hw, _⟩ := drf_ind g (P := fun c => okW c.1 c.2.1 c.2.2.length = true ∧ Byte c.2.2) (fun a ha _ => ⟨ho a ha, hb a ha⟩) _ c (Nat.le_refl _) hc ⟨hoc, hbc⟩
  rcases hw.1 with k | k | k | k
  · exact .inl ⟨k, okW_text h1 (by omega) (by omega)⟩
  · exact .inr (.inl ⟨k, okW_text h1 (by omega) (by omega)⟩)
  · refine .inr (.inr (.inl ⟨k, ?_, h2⟩))
    rw [k] at h1
    generalize (drf xs c).2.2.length = m at h1
    simp only [okW, cellB] at h1
    simp at h1
    omega
  · exact .inr (.inr (.inr ⟨k, okW_text h1 (by omega) (by omega)⟩))

set_option maxHeartbeats 1000000 in
set_option maxRecDepth 100000 in
theorem implDeref_any (p q pt : Option Addr) (c1 c2 cap : Nat) (c : Cel) (xs : List Cel) (tr : List Int) (w : World) (hx : xs.length ≤ 1000000000) (hy : tr.length ≤ 1000000000) (hbx : ∀ a, a < xs.length → Byte (xs.getD a Cel.none).2.2) (hbc : Byte c.2.2) (hc : CIn w p xs) (hi : IIn w q tr) (hin : BIn w pt c.2.2) :
    Calls Try.prog 14 #[.agg #[.slice p xs.length c1, .slice q tr.length c2], .agg #[.int .i64 c.1, .int .i64 c.2.1, .slice pt c.2.2.length cap]] w fun e w' => ∃ pp cc, e = .returned (.tuple #[.agg #[.int .i64 (derA xs tr c).1.1, .int .i64 (derA xs tr c).1.2.1, .slice pp (derA xs tr c).1.2.2.length cc], .int .i64 (derA xs tr c).2]) ∧ OwnT w' w.heap.size pp (derA xs tr c).1.2.2.length cc (derA xs tr c).1.2.2 ∧ Below w.heap.size w w' := by
  obtain ⟨k, n, t⟩ := c
  obtain ⟨W0, eW0⟩ : ∃ W0, W0 = ((w.alloc (.cells #[.slice p xs.length c1, .slice q tr.length c2] 36)).alloc (.cells #[.int .i64 k, .int .i64 n, .slice pt t.length cap] 31)).alloc (.cells #[.int .i64 0, .int .i64 0, .slice none 0 0] 31) := ⟨_, rfl⟩
  have HB0 : Hid (Below w.heap.size w W0) := by
    show Below _ _ _
    rw [eW0]; exact (((Below.refl _ _).alloc (Nat.le_refl _) _).alloc (by simp) _).alloc (by simp; omega) _
  have k2 : W0.heap[w.heap.size + 1 + 1]? = some (.cells #[.int .i64 0, .int .i64 0, .slice none 0 0] 31) := by
    rw [eW0]
    exact (heap_three w _ _ _).2
  have hz0 : W0.heap.size = w.heap.size + 1 + 1 + 1 := by rw [eW0]; simp
  -- the box of the answer, filled
  have HBX2 : Hid (∀ W v0 v1 v2, Below W0.heap.size W0 W → (Box3 W (w.heap.size + 1 + 1) (.int .i64 0) (.int .i64 0) (.slice none 0 0)) ∧ ((((W.setCell ⟨w.heap.size + 1 + 1, 0, none⟩ v0).setCell ⟨w.heap.size + 1 + 1, 1, none⟩ v1).setCell ⟨w.heap.size + 1 + 1, 2, none⟩ v2).cell? ⟨w.heap.size + 1 + 1, 0, none⟩ = some v0 ∧ (((W.setCell ⟨w.heap.size + 1 + 1, 0, none⟩ v0).setCell ⟨w.heap.size + 1 + 1, 1, none⟩ v1).setCell ⟨w.heap.size + 1 + 1, 2, none⟩ v2).cell? ⟨w.heap.size + 1 + 1, 1, none⟩ = some v1 ∧ (((W.setCell ⟨w.heap.size + 1 + 1, 0, none⟩ v0).setCell ⟨w.heap.size + 1 + 1, 1, none⟩ v1).setCell ⟨w.heap.size + 1 + 1, 2, none⟩ v2).cell? ⟨w.heap.size + 1 + 1, 2, none⟩ = some v2) ∧ Below w.heap.size w (((W.setCell ⟨w.heap.size + 1 + 1, 0, none⟩ v0).setCell ⟨w.heap.size + 1 + 1, 1, none⟩ v1).setCell ⟨w.heap.size + 1 + 1, 2, none⟩ v2)) := fun W v0 v1 v2 hW => by
    have b := Box3.of_block (t := 31) ((hW.block (w.heap.size + 1 + 1) (by omega)).trans k2)
    exact ⟨b, box3_set b.1 b.2.1 b.2.2.1 v0 v1 v2, (((Below.on HB0.out hW).setCell (p := ⟨_, _, none⟩) (by simp; omega) _).setCell (p := ⟨_, _, none⟩) (by simp; omega) _).setCell (p := ⟨_, _, none⟩) (by simp; omega) _⟩
  have HO := heapWith_any p q pt c1 c2 cap k n t xs tr W0 hx hy (hc.below HB0.out) (hi.below HB0.out) (hin.below HB0.out)
  have HBX : Hid _ := hbx
  have HBC : Hid (Byte t) := hbc
  have HE0 : Hid _ := eW0
  have HZ0 : Hid _ := hz0
  clear hc hi hin hbx hbc k2 hz0
  cases hv : vsB xs tr k n t.length
  · have HE : Hid (derA xs tr (k, n, t) = ((0, 0, []), 1)) := by show _ = _; unfold derA; rw [if_neg (by simp [hv])]
    rw [HE.out]
    unfold WithOut at HO
    rw [hv, eW0] at HO
    clear hv HE HBX HBC eW0
    go_enter Try.func14, Try.ntmps14
    go_wp2_with fail
    refine HO.mono ?_
    rintro e w1 ⟨v, u, rfl, hb, _⟩
    rw [← HE0.out] at hb
    have HX : Hid _ := HBX2.out w1 (.int .i64 0) (.int .i64 0) (.slice none 0 0) hb
    obtain ⟨b0, b1, b2, b3⟩ := HX.out.1
    clear hb HO HBX2
    go_wp2
    obtain ⟨_, ⟨d0, d1, d2⟩, hbb⟩ := HX.out
    exact bodyPost_ret (v := .tuple #[.agg #[.int .i64 0, .int .i64 0, .slice none 0 0], .int .i64 1]) (by simp [results, Try.results14, go_sem, d0, d1, d2]) rfl ⟨none, 0, rfl, ⟨rfl, fun h => absurd h (Nat.lt_irrefl 0)⟩, hbb⟩
  · have HE : Hid (derA xs tr (k, n, t) = (drf xs (k, n, t), 0)) := by show _ = _; unfold derA; rw [if_pos hv]
    rw [HE.out]
    unfold WithOut at HO
    rw [hv, eW0] at HO
    obtain ⟨g, hw, ho, hoc, _⟩ := vsB_parts (c := (k, n, t)) hv
    have HF := drf_facts g hw ho hoc HBX.out HBC.out
    have HD : Hid (∀ h W, HeapAt W h xs tr → Calls Try.prog 45 #[.pointer (some ⟨h, 0, none⟩), wv (k, n, t)] W fun e w' => e = .returned (wv (drf xs (k, n, t))) ∧ Below W.heap.size W w') := fun h W H => deref_any h _ xs tr W g hw H
    clear hv HE HBX HBC ho hoc g hw eW0
    generalize drf xs (k, n, t) = d at HF HD ⊢
    obtain ⟨dk, dn, dt⟩ := d
    simp only at HF ⊢
    go_enter Try.func14, Try.ntmps14
    go_wp2_with fail
    refine HO.mono ?_
    rintro e w1 ⟨v, u, rfl, hb, hh⟩
    obtain ⟨h, rfl, rfl, hat⟩ := hh (by trivial)
    rw [← HE0.out] at hb
    have HB1 : Hid (Below W0.heap.size W0 w1) := hb
    have HDD : Hid _ := HD.out h w1 hat
    clear hb HO hat hh HD
    rcases HF with ⟨rfl, rfl⟩ | ⟨rfl, rfl⟩ | ⟨rfl, rfl, hbt⟩ | ⟨rfl, rfl⟩
    · have e : wv (0, dn, []) = .iface 93 (.int .i64 dn) := rfl
      rw [e] at HDD
      go_wp2_with fail
      refine Calls.mono HDD.out ?_
      rintro e w2 ⟨rfl, hb2⟩
      have HB2 : Hid (Below W0.heap.size W0 w2) := Below.on HB1.out hb2
      have HR := refCell_any dn w2
      clear hb2 HDD
      go_wp2_with (go_at_call 135; refine HR.mono ?_; rintro e w3 ⟨rfl, hb3⟩; have HX : Hid _ := HBX2.out w3 (.int .i64 0) (.int .i64 dn) (.slice none 0 0) (Below.on HB2.out hb3); obtain ⟨b0, b1, b2, b3⟩ := HX.out.1; clear hb3)
      obtain ⟨_, ⟨d0, d1, d2⟩, hbb⟩ := HX.out
      exact bodyPost_ret (v := .tuple #[.agg #[.int .i64 0, .int .i64 dn, .slice none 0 0], .int .i64 0]) (by simp [results, Try.results14, go_sem, d0, d1, d2]) rfl ⟨none, 0, rfl, ⟨rfl, fun h => absurd h (Nat.lt_irrefl 0)⟩, hbb⟩
    · have e : wv (1, dn, []) = .iface 132 (.int .i64 dn) := rfl
      rw [e] at HDD
      go_wp2_with fail
      refine Calls.mono HDD.out ?_
      rintro e w2 ⟨rfl, hb2⟩
      have HB2 : Hid (Below W0.heap.size W0 w2) := Below.on HB1.out hb2
      have HR := numCell_any dn w2
      clear hb2 HDD
      go_wp2_with (go_at_call 140; refine HR.mono ?_; rintro e w3 ⟨rfl, hb3⟩; have HX : Hid _ := HBX2.out w3 (.int .i64 1) (.int .i64 dn) (.slice none 0 0) (Below.on HB2.out hb3); obtain ⟨b0, b1, b2, b3⟩ := HX.out.1; clear hb3)
      obtain ⟨_, ⟨d0, d1, d2⟩, hbb⟩ := HX.out
      exact bodyPost_ret (v := .tuple #[.agg #[.int .i64 1, .int .i64 dn, .slice none 0 0], .int .i64 0]) (by simp [results, Try.results14, go_sem, d0, d1, d2]) rfl ⟨none, 0, rfl, ⟨rfl, fun h => absurd h (Nat.lt_irrefl 0)⟩, hbb⟩
    · have e : wv (2, 0, dt) = .iface 133 (.string (strOfNums dt)) := rfl
      rw [e] at HDD
      go_wp2_with fail
      refine Calls.mono HDD.out ?_
      rintro e w2 ⟨rfl, hb2⟩
      have HB2 : Hid (Below W0.heap.size W0 w2) := Below.on HB1.out hb2
      have HR := atomCell_any dt w2 hbt
      clear hb2 HDD hbt
      go_wp2_with (go_at_call 142; refine HR.mono ?_; rintro e w3 ⟨pp, cc, rfl, ho3, hb3⟩; have HX : Hid _ := HBX2.out w3 (.int .i64 2) (.int .i64 0) (.slice pp dt.length cc) (Below.on HB2.out hb3); obtain ⟨b0, b1, b2, b3⟩ := HX.out.1; have HO3 : Hid (OwnT w3 w.heap.size pp dt.length cc dt) := ho3.mono (Nat.le_trans HB0.out.size HB2.out.size); have HNE : Hid (0 < dt.length → pp ≠ some ⟨w.heap.size + 1 + 1, 0, none⟩) := fun hp => by { obtain ⟨g, rfl, hg, _⟩ := ho3.2 hp; intro e; have := congrArg Addr.block (Option.some.inj e); have hz := HZ0.out; have hs := HB2.out.size; simp at this; omega }; clear hb3 ho3)
      obtain ⟨_, ⟨d0, d1, d2⟩, hbb⟩ := HX.out
      exact bodyPost_ret (v := .tuple #[.agg #[.int .i64 2, .int .i64 0, .slice pp dt.length cc], .int .i64 0]) (by simp [results, Try.results14, go_sem, d0, d1, d2]) rfl ⟨pp, cc, rfl, ((HO3.out.setCell (a := ⟨_, 0, none⟩) (fun hp => HNE.out hp) _).setCell (a := ⟨_, 1, none⟩) (fun hp => HNE.out hp) _).setCell (a := ⟨_, 2, none⟩) (fun hp => HNE.out hp) _, hbb⟩
    · have e : wv (4, dn, []) = .iface 134 (.int .i64 dn) := rfl
      rw [e] at HDD
      go_wp2_with fail
      refine Calls.mono HDD.out ?_
      rintro e w2 ⟨rfl, hb2⟩
      have HB2 : Hid (Below W0.heap.size W0 w2) := Below.on HB1.out hb2
      have HR := strCell_any dn w2
      clear hb2 HDD
      go_wp2_with (go_at_call 143; refine HR.mono ?_; rintro e w3 ⟨rfl, hb3⟩; have HX : Hid _ := HBX2.out w3 (.int .i64 4) (.int .i64 dn) (.slice none 0 0) (Below.on HB2.out hb3); obtain ⟨b0, b1, b2, b3⟩ := HX.out.1; clear hb3)
      obtain ⟨_, ⟨d0, d1, d2⟩, hbb⟩ := HX.out
      exact bodyPost_ret (v := .tuple #[.agg #[.int .i64 4, .int .i64 dn, .slice none 0 0], .int .i64 0]) (by simp [results, Try.results14, go_sem, d0, d1, d2]) rfl ⟨none, 0, rfl, ⟨rfl, fun h => absurd h (Nat.lt_irrefl 0)⟩, hbb⟩

end Go.Proofs.Ytcdcdpmjibcolaa
