/- Deref of the model. Own work of the verifier. -/
import Derived.Test.YtcdcdpmjibcolaaDrM
namespace Go.Proofs.Ytcdcdpmjibcolaa
open Go Go.RowKit Go.Maps
set_option linter.unusedVariables false

theorem bin_box3 {W : World} {b : Nat} {u0 u1 u2 : Value} {p : Option Addr} {t : List Int} (h : BIn W p t) (hb : Box3 W b u0 u1 u2) (v0 v1 v2 : Value) (h0 : ∀ x, u0 = .int .u8 x → False := by intro x h; cases h) (h1 : ∀ x, u1 = .int .u8 x → False := by intro x h; cases h) (h2 : ∀ x, u2 = .int .u8 x → False := by intro x h; cases h) : BIn (((W.setCell ⟨b, 0, none⟩ v0).setCell ⟨b, 1, none⟩ v1).setCell ⟨b, 2, none⟩ v2) p t := fun hn => by
  obtain ⟨g, o, rfl, hc⟩ := h hn
  refine ⟨g, o, rfl, fun i hi => ?_⟩
  have hci := hc i hi
  have n0 : (⟨g, o + i, none⟩ : Addr) ≠ ⟨b, 0, none⟩ := fun e => by rw [e, hb.1] at hci; exact h0 _ (Option.some.inj hci)
  have n1 : (⟨g, o + i, none⟩ : Addr) ≠ ⟨b, 1, none⟩ := fun e => by rw [e, hb.2.1] at hci; exact h1 _ (Option.some.inj hci)
  have n2 : (⟨g, o + i, none⟩ : Addr) ≠ ⟨b, 2, none⟩ := fun e => by rw [e, hb.2.2.1] at hci; exact h2 _ (Option.some.inj hci)
  rw [World.cell?_setCell_other _ _ _ _ (fun e => n2 e.symm), World.cell?_setCell_other _ _ _ _ (fun e => n1 e.symm), World.cell?_setCell_other _ _ _ _ (fun e => n0 e.symm)]
  exact hci
/-- Several orders of a statement, joined: what follows is shown once. -/
theorem join5 {A B C D E : Type} {F G : A → B → C → D → E → Prop} {goal : Prop} (h1 : Hid (∀ a b c d e, F a b c d e → G a b c d e) → goal) (h2 : ∀ a b c d e, F a b c d e → G a b c d e) : goal := h1 h2

set_option maxHeartbeats 2000000 in
set_option maxRecDepth 100000 in
theorem specDeref_any (p q pt : Option Addr) (c1 c2 cap : Nat) (c : Cel) (xs : List Cel) (tr : List Int) (w : World) (hx : xs.length ≤ 1000000000) (hy : tr.length ≤ 1000000000) (ht : c.2.2.length ≤ 1000000000) (hc : CIn w p xs) (hi : IIn w q tr) (hin : BIn w pt c.2.2) :
    Calls Try.prog 11 #[.agg #[.slice p xs.length c1, .slice q tr.length c2], .agg #[.int .i64 c.1, .int .i64 c.2.1, .slice pt c.2.2.length cap]] w fun e w' => ∃ pp cc, e = .returned (.tuple #[.agg #[.int .i64 (derA xs tr c).1.1, .int .i64 (derA xs tr c).1.2.1, .slice pp (derA xs tr c).1.2.2.length cc], .int .i64 (derA xs tr c).2]) ∧ BIn w' pp (derA xs tr c).1.2.2 ∧ Below w.heap.size w w' := by
  obtain ⟨k, n, t⟩ := c
  obtain ⟨W0, eW0⟩ : ∃ W0, W0 = ((w.alloc (.cells #[.slice p xs.length c1, .slice q tr.length c2] 36)).alloc (.cells #[.int .i64 k, .int .i64 n, .slice pt t.length cap] 31)).alloc (.cells #[.int .i64 0, .int .i64 0, .slice none 0 0] 31) := ⟨_, rfl⟩
  have hb0 : Below w.heap.size w W0 := by
    rw [eW0]; exact (((Below.refl _ _).alloc (Nat.le_refl _) _).alloc (by simp) _).alloc (by simp; omega) _
  have HB0 : Hid _ := hb0
  have k0 : W0.heap[w.heap.size]? = some (.cells #[.slice p xs.length c1, .slice q tr.length c2] 36) := by
    rw [eW0, Below.heap_alloc _ _ _ (by simp; omega), Below.heap_alloc _ _ _ (by simp)]; exact heap_alloc_new _ _
  have k1 : W0.heap[w.heap.size + 1]? = some (.cells #[.int .i64 k, .int .i64 n, .slice pt t.length cap] 31) := by
    rw [eW0]; exact (heap_three w _ _ _).1
  have k2 : W0.heap[w.heap.size + 1 + 1]? = some (.cells #[.int .i64 0, .int .i64 0, .slice none 0 0] 31) := by
    rw [eW0]; exact (heap_three w _ _ _).2
  have hz0 : W0.heap.size = w.heap.size + 1 + 1 + 1 := by rw [eW0]; simp
  -- the boxes, in every later world
  have HX : Hid (∀ W, Below W0.heap.size W0 W → ((W.cell? ⟨w.heap.size, 0, none⟩ = some (.slice p xs.length c1) ∧ W.cell? ⟨w.heap.size, 1, none⟩ = some (.slice q tr.length c2)) ∧ Box3 W (w.heap.size + 1) (.int .i64 k) (.int .i64 n) (.slice pt t.length cap)) ∧ Box3 W (w.heap.size + 1 + 1) (.int .i64 0) (.int .i64 0) (.slice none 0 0)) := fun W hW => by
    have j0 := (hW.block w.heap.size (by omega)).trans k0
    have j1 := (hW.block (w.heap.size + 1) (by omega)).trans k1
    have j2 := (hW.block (w.heap.size + 1 + 1) (by omega)).trans k2
    exact ⟨⟨⟨by simp [World.cell?, j0], by simp [World.cell?, j0]⟩, Box3.of_block j1⟩, Box3.of_block j2⟩
  have HRES : Hid (∀ W v0 v1 v2, Below W0.heap.size W0 W → ((((W.setCell ⟨w.heap.size + 1 + 1, 0, none⟩ v0).setCell ⟨w.heap.size + 1 + 1, 1, none⟩ v1).setCell ⟨w.heap.size + 1 + 1, 2, none⟩ v2).cell? ⟨w.heap.size + 1 + 1, 0, none⟩ = some v0 ∧ (((W.setCell ⟨w.heap.size + 1 + 1, 0, none⟩ v0).setCell ⟨w.heap.size + 1 + 1, 1, none⟩ v1).setCell ⟨w.heap.size + 1 + 1, 2, none⟩ v2).cell? ⟨w.heap.size + 1 + 1, 1, none⟩ = some v1 ∧ (((W.setCell ⟨w.heap.size + 1 + 1, 0, none⟩ v0).setCell ⟨w.heap.size + 1 + 1, 1, none⟩ v1).setCell ⟨w.heap.size + 1 + 1, 2, none⟩ v2).cell? ⟨w.heap.size + 1 + 1, 2, none⟩ = some v2) ∧ Below w.heap.size w (((W.setCell ⟨w.heap.size + 1 + 1, 0, none⟩ v0).setCell ⟨w.heap.size + 1 + 1, 1, none⟩ v1).setCell ⟨w.heap.size + 1 + 1, 2, none⟩ v2)) := fun W v0 v1 v2 hW => by
    have b := (HX.out W hW).2
    exact ⟨box3_set b.1 b.2.1 b.2.2.1 v0 v1 v2, (((Below.on HB0.out hW).setCell (p := ⟨_, _, none⟩) (by simp; omega) _).setCell (p := ⟨_, _, none⟩) (by simp; omega) _).setCell (p := ⟨_, _, none⟩) (by simp; omega) _⟩
  have HO := specVS_any p q pt c1 c2 cap k n t xs tr W0 hx hy (hc.below hb0) (hi.below hb0)
  have HL : Hid (∀ W, Below W0.heap.size W0 W → CIn W p xs ∧ IIn W q tr ∧ BIn W pt t) := fun W hW => by
    have hb := Below.on hb0 hW
    exact ⟨hc.below hb, hi.below hb, hin.below hb⟩
  have HE0 : Hid _ := eW0
  have HZ0 : Hid _ := hz0
  clear hc hi hin k0 k1 k2 hz0 hb0
  cases hv : vsB xs tr k n t.length
  · have HE : Hid (derA xs tr (k, n, t) = ((0, 0, []), 1)) := by show _ = _; unfold derA; rw [if_neg (by simp [hv])]
    rw [HE.out]
    rw [hv, eW0] at HO
    clear hv HE eW0
    go_enter Try.func11, Try.ntmps11
    go_wp2_with fail
    refine HO.mono ?_
    rintro e w1 ⟨rfl, hb⟩
    rw [← HE0.out] at hb
    have HR : Hid _ := HRES.out w1 (.int .i64 0) (.int .i64 0) (.slice none 0 0) hb
    obtain ⟨_, b0, b1, b2, b3⟩ := HX.out _ hb
    clear hb HO HX HRES
    go_wp2
    obtain ⟨⟨d0, d1, d2⟩, hbb⟩ := HR.out
    exact bodyPost_ret (v := .tuple #[.agg #[.int .i64 0, .int .i64 0, .slice none 0 0], .int .i64 1]) (by simp [results, Try.results11, go_sem, d0, d1, d2]) rfl ⟨none, 0, rfl, fun h => absurd h (Nat.lt_irrefl 0), hbb⟩
  · have HE : Hid (derA xs tr (k, n, t) = (drf xs (k, n, t), 0)) := by show _ = _; unfold derA; rw [if_pos hv]
    rw [HE.out]
    rw [hv, eW0] at HO
    obtain ⟨g, hw, ho, hoc, htl⟩ := vsB_parts (c := (k, n, t)) hv
    have hdl : (drf xs (k, n, t)).2.2.length ≤ 100 := by
      obtain ⟨h1, _⟩ := drf_ind g (P := fun c => okW c.1 c.2.1 c.2.2.length = true) (fun a ha _ => ho a ha) _ (k, n, t) (Nat.le_refl _) hw hoc
      generalize (drf xs (k, n, t)).2.2.length = m at h1
      unfold okW at h1
      split at h1
      · simp at h1; omega
      · simp only [cellB, decide_eq_true_eq] at h1; omega
    have hxl := g.shp.len
    have HOP : Hid (∀ W, Below W0.heap.size W0 W → Calls Try.prog 40 #[.agg #[.slice p xs.length c1, .slice q tr.length c2]] W fun e w' => ∃ h, e = .returned (.pointer (some ⟨h, 0, none⟩)) ∧ SHp W w' h xs tr 0 ∧ Below W.heap.size W w') := fun W hW => l10open_any p q c1 c2 xs tr W hxl htl (HL.out W hW).1 (HL.out W hW).2.1
    have HDE : Hid (∀ W W' h, Below W0.heap.size W0 W → SHp W W' h xs tr 0 → Calls Try.prog 39 #[.pointer (some ⟨h, 0, none⟩), .agg #[.int .i64 k, .int .i64 n, .slice pt t.length cap]] W' fun e w' => ∃ p' cp', e = .returned (.agg #[.int .i64 (drf xs (k, n, t)).1, .int .i64 (drf xs (k, n, t)).2.1, .slice p' (drf xs (k, n, t)).2.2.length cp']) ∧ BIn W p' (drf xs (k, n, t)).2.2 ∧ Below W'.heap.size W' w') := fun W W' h hW H => l10deref_any W h pt cap (k, n, t) xs tr 0 W' g hw (HL.out W hW).2.2 H
    clear hv HE ho hoc g hw eW0 HL htl
    generalize drf xs (k, n, t) = d at HDE hdl ⊢
    obtain ⟨dk, dn, dt⟩ := d
    simp only at hdl HDE ⊢
    obtain ⟨dl, edl⟩ : ∃ m, m = dt.length := ⟨_, rfl⟩
    rw [← edl] at HDE hdl ⊢
    have HDL : Hid (dl = dt.length) := edl
    clear edl
    go_enter Try.func11, Try.ntmps11
    go_wp2_with fail
    refine HO.mono ?_
    rintro e w1 ⟨rfl, hb⟩
    rw [← HE0.out] at hb
    have HB1 : Hid (Below W0.heap.size W0 w1) := hb
    obtain ⟨⟨⟨s0, s1⟩, b0, b1, b2, b3⟩, _⟩ := HX.out _ hb
    clear hb HO
    go_wp2
    have HBa : Hid (∀ o, Below W0.heap.size W0 ((w1.drewN 1).alloc o)) := fun o => (below_drewN HB1.out 1).alloc (Nat.le_trans HB1.out.size (Nat.le_refl _)) o
    have HBb : Hid (Below W0.heap.size W0 (w1.drewN 1)) := below_drewN HB1.out 1
    have hsz1 : w.heap.size + 1 + 1 + 1 ≤ w1.heap.size := by have := HB1.out.size; have h2 := HZ0.out; omega
    apply join5 (F := fun (W : World) (b : Nat) (h : Nat) (p' : Option Addr) (cp' : Nat) => Box3 W b (.int .i64 dk) (.int .i64 dn) (.slice p' dl cp') ∧ Below W0.heap.size W0 W ∧ BIn W p' dt ∧ W0.heap.size ≤ b ∧ b < W.heap.size)
    · intro KEY
      go_region_held3 (fun W => (W.cell? ⟨w.heap.size, 0, none⟩ = some (.slice p xs.length c1) ∧ W.cell? ⟨w.heap.size, 1, none⟩ = some (.slice q tr.length c2)) ∧ W.cell? ⟨w.heap.size + 1, 0, none⟩ = some (.int .i64 k) ∧ W.cell? ⟨w.heap.size + 1, 1, none⟩ = some (.int .i64 n) ∧ W.cell? ⟨w.heap.size + 1, 2, none⟩ = some (.slice pt t.length cap)) (first | exact kk | go_keep | ((try dsimp only); (repeat' apply And.intro) <;> first | go_keep | ((repeat rw [World.cell?_setCell_other _ _ _ _ (by simp <;> omega)]) <;> (first | exact kk.1.1 | exact kk.1.2 | exact kk.2.1 | exact kk.2.2.1 | exact kk.2.2.2))))
        (first
          | (go_at_call 40; first
              | (refine Calls.mono (HOP.out (w1.drewN 1) HBb.out) ?_; rintro e w2 ⟨h, rfl, hsh, hb2⟩; have hsz2 : w1.heap.size ≤ w2.heap.size := Nat.le_trans (by simp) hb2.size; have HB2 : Hid (Below W0.heap.size W0 w2) := Below.on HBb.out hb2; have HSH : Hid (∀ w', Below w2.heap.size w2 w' → SHp (w1.drewN 1) w' h xs tr 0) := fun w' hw' => hsh.below hw'; have HD2 : Hid _ := fun w' H => HDE.out (w1.drewN 1) w' h HBb.out H; have HBX : Hid (∀ w' r, Below w2.heap.size w2 w' → BIn (w1.drewN 1) r dt → BIn w' r dt) := fun w' r hw' hr => hr.below (Below.on hb2 hw'); have kk : (w2.cell? ⟨w.heap.size, 0, none⟩ = some (.slice p xs.length c1) ∧ w2.cell? ⟨w.heap.size, 1, none⟩ = some (.slice q tr.length c2)) ∧ w2.cell? ⟨w.heap.size + 1, 0, none⟩ = some (.int .i64 k) ∧ w2.cell? ⟨w.heap.size + 1, 1, none⟩ = some (.int .i64 n) ∧ w2.cell? ⟨w.heap.size + 1, 2, none⟩ = some (.slice pt t.length cap) := (fun z => ⟨z.1, z.2.1, z.2.2.1, z.2.2.2.1⟩) (HX.out _ HB2.out).1; have HXB : Hid True := trivial; clear hsh hb2)
              | (refine Calls.mono (HOP.out ((w1.drewN 1).alloc (.cells #[.int .i64 0, .int .i64 0, .slice none 0 0] 31)) (HBa.out _)) ?_; rintro e w2 ⟨h, rfl, hsh, hb2⟩; have hsz2 : w1.heap.size ≤ w2.heap.size := Nat.le_trans (by simp) hb2.size; have HB2 : Hid (Below W0.heap.size W0 w2) := Below.on (HBa.out _) hb2; have HSH : Hid (∀ w', Below w2.heap.size w2 w' → SHp ((w1.drewN 1).alloc (.cells #[.int .i64 0, .int .i64 0, .slice none 0 0] 31)) w' h xs tr 0) := fun w' hw' => hsh.below hw'; have HD2 : Hid _ := fun w' H => HDE.out ((w1.drewN 1).alloc (.cells #[.int .i64 0, .int .i64 0, .slice none 0 0] 31)) w' h (HBa.out _) H; have HBX : Hid (∀ w' r, Below w2.heap.size w2 w' → BIn ((w1.drewN 1).alloc (.cells #[.int .i64 0, .int .i64 0, .slice none 0 0] 31)) r dt → BIn w' r dt) := fun w' r hw' hr => hr.below (Below.on hb2 hw'); have kk : (w2.cell? ⟨w.heap.size, 0, none⟩ = some (.slice p xs.length c1) ∧ w2.cell? ⟨w.heap.size, 1, none⟩ = some (.slice q tr.length c2)) ∧ w2.cell? ⟨w.heap.size + 1, 0, none⟩ = some (.int .i64 k) ∧ w2.cell? ⟨w.heap.size + 1, 1, none⟩ = some (.int .i64 n) ∧ w2.cell? ⟨w.heap.size + 1, 2, none⟩ = some (.slice pt t.length cap) := (fun z => ⟨z.1, z.2.1, z.2.2.1, z.2.2.2.1⟩) (HX.out _ HB2.out).1; have HXB : Hid (∀ w', Below w2.heap.size w2 w' → Box3 w' w1.heap.size (.int .i64 0) (.int .i64 0) (.slice none 0 0)) := fun w' hw' => Box3.of_block (t := 31) ((hw'.block w1.heap.size (Nat.lt_of_lt_of_le (by simp) hb2.size)).trans ((hb2.block w1.heap.size (by simp)).trans (heap_alloc_new (w1.drewN 1) _))); clear hsh hb2))
          | (go_at_call 39; first
              | (refine Calls.mono (HD2.out w2 (HSH.out w2 (Below.refl _ _))) ?_; rintro e w3 ⟨p', cp', rfl, hbp, hb3⟩; have HB3 : Hid (Below W0.heap.size W0 w3) := Below.on HB2.out hb3; have HBP : Hid (BIn w3 p' dt) := HBX.out w3 p' hb3 hbp; have kk : (w3.cell? ⟨w.heap.size, 0, none⟩ = some (.slice p xs.length c1) ∧ w3.cell? ⟨w.heap.size, 1, none⟩ = some (.slice q tr.length c2)) ∧ w3.cell? ⟨w.heap.size + 1, 0, none⟩ = some (.int .i64 k) ∧ w3.cell? ⟨w.heap.size + 1, 1, none⟩ = some (.int .i64 n) ∧ w3.cell? ⟨w.heap.size + 1, 2, none⟩ = some (.slice pt t.length cap) := (fun z => ⟨z.1, z.2.1, z.2.2.1, z.2.2.2.1⟩) (HX.out _ HB3.out).1; try (obtain ⟨z0, z1, z2, z3⟩ := HXB.out w3 hb3; have HZZ : Hid (Box3 w3 w1.heap.size (.int .i64 0) (.int .i64 0) (.slice none 0 0)) := ⟨z0, z1, z2, z3⟩); clear hbp hb3)
              | (refine Calls.mono (HD2.out (w2.alloc (.cells #[.int .i64 0, .int .i64 0, .slice none 0 0] 31)) (HSH.out _ ((Below.refl _ _).alloc (Nat.le_refl _) _))) ?_; rintro e w3 ⟨p', cp', rfl, hbp, hb3⟩; have hb3a := Below.on ((Below.refl w2.heap.size w2).alloc (Nat.le_refl _) (.cells #[.int .i64 0, .int .i64 0, .slice none 0 0] 31)) hb3; have HB3 : Hid (Below W0.heap.size W0 w3) := Below.on HB2.out hb3a; have HBP : Hid (BIn w3 p' dt) := HBX.out w3 p' hb3a hbp; have kk : (w3.cell? ⟨w.heap.size, 0, none⟩ = some (.slice p xs.length c1) ∧ w3.cell? ⟨w.heap.size, 1, none⟩ = some (.slice q tr.length c2)) ∧ w3.cell? ⟨w.heap.size + 1, 0, none⟩ = some (.int .i64 k) ∧ w3.cell? ⟨w.heap.size + 1, 1, none⟩ = some (.int .i64 n) ∧ w3.cell? ⟨w.heap.size + 1, 2, none⟩ = some (.slice pt t.length cap) := (fun z => ⟨z.1, z.2.1, z.2.2.1, z.2.2.2.1⟩) (HX.out _ HB3.out).1; have HZZ : Hid (Box3 w3 w2.heap.size (.int .i64 0) (.int .i64 0) (.slice none 0 0)) := Box3.of_block (t := 31) ((hb3.block w2.heap.size (by simp)).trans (heap_alloc_new w2 _)); obtain ⟨z0, z1, z2, z3⟩ := HZZ.out; clear hbp hb3 hb3a)))
      · have hF : Box3 (w3.alloc (.cells #[.int .i64 dk, .int .i64 dn, .slice p' dl cp'] 31)) w3.heap.size (.int .i64 dk) (.int .i64 dn) (.slice p' dl cp') ∧ Below W0.heap.size W0 (w3.alloc (.cells #[.int .i64 dk, .int .i64 dn, .slice p' dl cp'] 31)) ∧ BIn (w3.alloc (.cells #[.int .i64 dk, .int .i64 dn, .slice p' dl cp'] 31)) p' dt ∧ W0.heap.size ≤ w3.heap.size ∧ w3.heap.size < (w3.alloc (.cells #[.int .i64 dk, .int .i64 dn, .slice p' dl cp'] 31)).heap.size :=
          ⟨Box3.of_block (t := 31) (heap_alloc_new _ _), HB3.out.alloc HB3.out.size _, HBP.out.below ((Below.refl _ _).alloc (Nat.le_refl _) _), HB3.out.size, by simp⟩
        clear kk
        revert hF
        generalize (w3.alloc (.cells #[.int .i64 dk, .int .i64 dn, .slice p' dl cp'] 31)) = W
        generalize w3.heap.size = b
        intro hF
        exact KEY.out W b h p' cp' hF
      · refine KEY.out _ w2.heap.size h p' cp' ⟨?_, ?_, ?_, ?_, ?_⟩
        · obtain ⟨e0, e1, e2⟩ := box3_set HZZ.out.1 HZZ.out.2.1 HZZ.out.2.2.1 (.int .i64 dk) (.int .i64 dn) (.slice p' dl cp')
          exact ⟨e0, e1, e2, fun i => by rw [World.frozen?_setCell, World.frozen?_setCell, World.frozen?_setCell]; exact HZZ.out.2.2.2 i⟩
        · exact ((HB3.out.setCell (p := ⟨_, _, none⟩) (HB2.out.size) _).setCell (p := ⟨_, _, none⟩) (HB2.out.size) _).setCell (p := ⟨_, _, none⟩) (HB2.out.size) _
        · exact bin_box3 HBP.out HZZ.out _ _ _
        · exact HB2.out.size
        · have := World.block_lt_of_cell? _ _ HZZ.out.1; simpa using this
      · refine KEY.out _ w1.heap.size h p' cp' ⟨?_, ?_, ?_, ?_, ?_⟩
        · obtain ⟨e0, e1, e2⟩ := box3_set HZZ.out.1 HZZ.out.2.1 HZZ.out.2.2.1 (.int .i64 dk) (.int .i64 dn) (.slice p' dl cp')
          exact ⟨e0, e1, e2, fun i => by rw [World.frozen?_setCell, World.frozen?_setCell, World.frozen?_setCell]; exact HZZ.out.2.2.2 i⟩
        · exact ((HB3.out.setCell (p := ⟨_, _, none⟩) (HB1.out.size) _).setCell (p := ⟨_, _, none⟩) (HB1.out.size) _).setCell (p := ⟨_, _, none⟩) (HB1.out.size) _
        · exact bin_box3 HBP.out HZZ.out _ _ _
        · exact HB1.out.size
        · have := World.block_lt_of_cell? _ _ HZZ.out.1; simpa using this
    · intro W b h p' cp' hF
      obtain ⟨⟨x0, x1, x2, x3⟩, hbW, hbp, hb1, hb2⟩ := hF
      have HBW : Hid (Below W0.heap.size W0 W) := hbW
      have HBB : Hid (W0.heap.size ≤ b ∧ b < W.heap.size) := ⟨hb1, hb2⟩
      have HCP : Hid (∀ m, Calls Try.prog 41 #[.slice p' dl cp'] (W.drewN m) fun e w' => ∃ p'' n' c', e = .returned (.slice p'' n' c') ∧ OwnS w' W.heap.size p'' n' c' dt ∧ Below W.heap.size (W.drewN m) w') := fun m => l1copy_all p' dl cp' dt (W.drewN m) HDL.out (by omega) (fun hn => hbp hn)
      have HXX : Hid (∀ W', Below W.heap.size W W' → W'.cell? ⟨b, 0, none⟩ = some (.int .i64 dk) ∧ W'.cell? ⟨b, 1, none⟩ = some (.int .i64 dn) ∧ W'.cell? ⟨b, 2, none⟩ = some (.slice p' dl cp')) := fun W' hW => ⟨(hW.cell hb2).trans x0, (hW.cell hb2).trans x1, (hW.cell hb2).trans x2⟩
      have hbz : b ≠ w.heap.size + 1 + 1 := by have := HZ0.out; omega
      clear hbW hbp hb1 hb2 HOP HDE s0 s1 b0 b1 b2 b3 HB1 HBa HBb hsz1
      have HX2 : Hid (∀ W', Below W.heap.size W W' → Box3 W' (w.heap.size + 1 + 1) (.int .i64 0) (.int .i64 0) (.slice none 0 0)) := fun W' hW => (HX.out _ (Below.on HBW.out hW)).2
      try dsimp only
      go_wp2
      go_region_held3 (fun W' => W'.cell? ⟨b, 0, none⟩ = some (.int .i64 dk) ∧ W'.cell? ⟨b, 1, none⟩ = some (.int .i64 dn) ∧ W'.cell? ⟨b, 2, none⟩ = some (.slice p' dl cp')) (first | exact kk | go_keep | ((try dsimp only); (repeat' apply And.intro) <;> ((repeat rw [World.cell?_setCell_other _ _ _ _ (by simp <;> omega)]) <;> (first | exact kk.1 | exact kk.2.1 | exact kk.2.2))))
        (first | (go_at_call 41; refine Calls.mono (HCP.out 1) ?_; rintro e w4 ⟨p2, n2, c2', rfl, hos, hb4⟩; have hb4' : Below W.heap.size W w4 := (below_drewN (Below.refl _ W) 1).trans hb4; have kk := HXX.out w4 hb4'; have HOS : Hid (BIn w4 p2 dt ∧ n2 = dt.length) := ⟨hos.toT.bin, hos.1⟩; have HB4 : Hid (Below W.heap.size W w4) := hb4'; have HRS : Hid _ := HRES.out w4 (.int .i64 dk) (.int .i64 dn) (.slice p2 n2 c2') (Below.on HBW.out hb4'); obtain ⟨y0, y1, y2, y3⟩ := HX2.out w4 hb4'; have HY : Hid (Box3 w4 (w.heap.size + 1 + 1) (.int .i64 0) (.int .i64 0) (.slice none 0 0)) := ⟨y0, y1, y2, y3⟩; clear hos hb4 hb4'))
      all_goals
        go_wp2
        obtain ⟨⟨d0, d1, d2⟩, hbb⟩ := HRS.out
        refine bodyPost_ret (v := .tuple #[.agg #[.int .i64 dk, .int .i64 dn, .slice p2 n2 c2'], .int .i64 0]) (by simp [results, Try.results11, go_sem, d0, d1, d2]) rfl ⟨p2, c2', by rw [HOS.out.2, HDL.out], ?_, hbb⟩
        exact bin_box3 HOS.out.1 HY.out _ _ _

end Go.Proofs.Ytcdcdpmjibcolaa
