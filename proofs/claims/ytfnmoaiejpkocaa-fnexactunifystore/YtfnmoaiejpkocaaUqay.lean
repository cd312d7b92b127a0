/- Texts of BdB, UfP, GtP. Own work of the verifier. -/
import Derived.Test.YtfnmoaiejpkocaaUqax
import Derived.Test.YtfnmoaiejpkocaaUqan
import Derived.Test.YtfnmoaiejpkocaaUqau
import Derived.Test.YtfnmoaiejpkocaaUqar
namespace Go.Proofs.Ytfnmoaiejpkocaa
open Go Go.RowKit Go.Maps
set_option linter.unusedVariables false

/-- What l10bind answers. -/
def BOut (V : World) (h : Nat) (A : (List Cel × List Int) × Int) (kk : Int) (e : Ending) (w' : World) : Prop :=
  e = .returned (.int .i64 A.2) ∧ (A.2 = 0 → SHp V w' h A.1.1 A.1.2 kk) ∧ Below V.heap.size V w'
theorem bndT_cyc {xs : List Cel} {tr : List Int} {a : Nat} {c : Cel} (h4 : c.1 = 4) (hr : Rch xs a c) : bndT xs tr a c = (([], []), 5) := by unfold bndT; rw [if_pos ⟨h4, hr⟩]
theorem bndT_full {xs : List Cel} {tr : List Int} {a : Nat} {c : Cel} (h : ¬ (c.1 = 4 ∧ Rch xs a c)) (ht : 20000 ≤ tr.length) : bndT xs tr a c = (([], []), 10) := by unfold bndT; rw [if_neg h, if_pos ht]
theorem bndT_ref {xs : List Cel} {tr : List Int} {a : Nat} {c : Cel} (h0 : c.1 = 0) (ht : ¬ 20000 ≤ tr.length) (j : Nat) (hj : c.2.1 = j) (hlt : a < j) : bndT xs tr a c = ((xs.set j (0, (a : Int), []), tr ++ [(j : Int)]), 0) := by
  unfold bndT; rw [if_neg (fun h => by omega), if_neg ht, if_pos ⟨h0, by omega⟩, hj]; rfl
theorem bndT_set {xs : List Cel} {tr : List Int} {a : Nat} {c : Cel} (h : ¬ (c.1 = 4 ∧ Rch xs a c)) (ht : ¬ 20000 ≤ tr.length) (hn : ¬ (c.1 = 0 ∧ (a : Int) < c.2.1)) : bndT xs tr a c = ((xs.set a c, tr ++ [(a : Int)]), 0) := by unfold bndT; rw [if_neg h, if_neg ht, if_neg hn]

set_option maxHeartbeats 1000000 in
set_option maxRecDepth 100000 in
theorem l10bind_any (V : World) (h a : Nat) (p : Option Addr) (cp : Nat) (c : Cel) (xs : List Cel) (tr : List Int) (kk : Int) (w : World) (g : Good xs) (ha : varB xs a = true) (hc : WdC xs c) (ht : tr.length ≤ 20000) (hp : BIn V p c.2.2) (H : SHp V w h xs tr kk) :
    Calls Try.prog 63 #[.pointer (some ⟨h, 0, none⟩), .int .i64 (a : Int), .agg #[.int .i64 c.1, .int .i64 c.2.1, .slice p c.2.2.length cp]] w (BOut V h (bndT xs tr a c) kk) := by
  have hl := g.shp.len
  have hal : a < xs.length := by have := varB_at ha; omega
  have hVw : Below V.heap.size V w := by obtain ⟨_, _, _, _, _, _, _, _, h4⟩ := H; exact h4
  -- putting: in every world behind w
  have HSET : Hid (∀ W i q cq (y : Cel) (Ax : (List Cel × List Int) × Int), Below w.heap.size w W → i < xs.length → BIn V q y.2.2 → (20000 ≤ tr.length → Ax = (([], []), 10)) → (¬ 20000 ≤ tr.length → Ax = ((xs.set i y, tr ++ [(i : Int)]), 0)) → Calls Try.prog 87 #[.pointer (some ⟨h, 0, none⟩), .int .i64 (i : Int), .agg #[.int .i64 y.1, .int .i64 y.2.1, .slice q y.2.2.length cq]] W (BOut V h Ax kk)) := fun W i q cq y Ax hW hi hq h1 h2 => by
    refine (l10set_any V h i q cq y xs tr kk W hl ht hi hq (H.below hW)).mono fun e w' hh => ?_
    by_cases hf : 20000 ≤ tr.length
    · rw [if_pos hf] at hh
      rw [h1 hf]
      exact ⟨hh.1, fun h => absurd h (by decide), (Below.on hVw hW).trans hh.2⟩
    · rw [if_neg hf] at hh
      rw [h2 hf]
      obtain ⟨_, _, _, _, _, _, _, _, h4⟩ := id hh.2
      exact ⟨hh.1, fun _ => hh.2, h4⟩
  have HWI : Hid (∀ W, Below w.heap.size w W → Calls Try.prog 88 #[.pointer (some ⟨h, 0, none⟩), .int .i64 (a : Int), .agg #[.int .i64 c.1, .int .i64 c.2.1, .slice p c.2.2.length cp]] W fun e w' => ∃ r : Bool, e = .returned (.bool r) ∧ (r = true ↔ Rch xs a c) ∧ Below W.heap.size W w') := fun W hW => l10within_any V h a p cp c xs tr kk W g ha hc hp (H.below hW)
  obtain ⟨W0, eW0⟩ : ∃ W, W = w.alloc (.cells #[.int .i64 c.1, .int .i64 c.2.1, .slice p c.2.2.length cp] 31) := ⟨_, rfl⟩
  have hB0 : Below w.heap.size w W0 := by rw [eW0]; exact alloc_on _ _
  have HB0 : Hid _ := hB0
  have hbk : W0.heap[w.heap.size]? = some (.cells #[.int .i64 c.1, .int .i64 c.2.1, .slice p c.2.2.length cp] 31) := by rw [eW0]; exact heap_alloc_new _ _
  have HX : Hid (∀ W, Below W0.heap.size W0 W → Box3 W w.heap.size (.int .i64 c.1) (.int .i64 c.2.1) (.slice p c.2.2.length cp)) := fun W hW => (Box3.of_block (t := 31) hbk).on hW
  have HE0 : Hid _ := eW0
  have HP : Hid (BIn V p c.2.2) := hp
  have HVW : Hid (Below V.heap.size V W0) := Below.on hVw hB0
  obtain ⟨k, n, t⟩ := c
  simp only at HSET HWI HX HE0 eW0 hc
  by_cases q0 : k = 0
  · obtain ⟨n0, n1, _⟩ := hc.2.1 q0
    obtain ⟨j, rfl⟩ : ∃ j : Nat, n = j := ⟨n.toNat, by simp only at n0; omega⟩
    have hj : j < xs.length := by simp only at n1; omega
    have e0 : (k == 0) = true := by simp [q0]
    by_cases q1 : a < j
    · have e1 : (a : Int) < (j : Int) := by omega
      have HF : Hid (∀ W, Below w.heap.size w W → Calls Try.prog 87 #[.pointer (some ⟨h, 0, none⟩), .int .i64 (j : Int), .agg #[.int .i64 0, .int .i64 (a : Int), .slice none 0 0]] W (BOut V h (bndT xs tr a (k, (j : Int), t)) kk)) := fun W hW => HSET.out W j none 0 (0, (a : Int), []) _ hW hj (fun h => absurd h (Nat.lt_irrefl 0)) (fun hf => bndT_full (fun hh => by have := hh.1; simp only at this; omega) hf) (fun hf => bndT_ref q0 hf j rfl q1)
      have HLR : Hid (Calls Try.prog 79 #[.int .i64 (a : Int)] (W0.drewN 1) fun e w' => e = .returned (.agg #[.int .i64 0, .int .i64 (a : Int), .slice none 0 0]) ∧ Below W0.heap.size W0 w') := (l10ref_any a (W0.drewN 1)).mono fun e w' ⟨h1, h2⟩ => ⟨h1, (below_drewN (Below.refl _ _) 1).trans h2⟩
      generalize bndT xs tr a (k, (j : Int), t) = AA at HF ⊢
      obtain ⟨b0, b1, b2, b3⟩ := HX.out W0 (Below.refl _ _)
      have b1' := b1
      rw [eW0] at b0 b1 b2 b3
      clear HSET HWI hc H g ha hp hVw hbk q0 q1 n0 n1 hB0 eW0
      go_enter Try.func63, Try.ntmps63
      go_wp2
      rw [← HE0.out]
      go_region_with (first
        | (go_at_call 79; refine Calls.mono HLR.out ?_; rintro e w2 ⟨rfl, hb2⟩; have HB2 : Hid (Below w.heap.size w w2) := Below.on HB0.out hb2; obtain ⟨y0, y1, y2, y3⟩ := HX.out _ hb2; clear hb2)
        | (go_at_call 87; refine Calls.mono (HF.out _ HB2.out) ?_; rintro e w3 ⟨rfl, hs3, hb3⟩; have H3 : Hid _ := hs3; have HB3 : Hid _ := hb3; clear hs3 hb3))
      all_goals
        go_wp2
        go_ret
        exact ⟨rfl, H3.out, HB3.out⟩
    · have e1 : ¬ (a : Int) < (j : Int) := by omega
      have HF : Hid (∀ W, Below w.heap.size w W → Calls Try.prog 87 #[.pointer (some ⟨h, 0, none⟩), .int .i64 (a : Int), .agg #[.int .i64 k, .int .i64 (j : Int), .slice p t.length cp]] W (BOut V h (bndT xs tr a (k, (j : Int), t)) kk)) := fun W hW => HSET.out W a p cp (k, (j : Int), t) _ hW hal HP.out (fun hf => bndT_full (fun hh => by have := hh.1; simp only at this; omega) hf) (fun hf => bndT_set (fun hh => by have := hh.1; simp only at this; omega) hf (fun hh => by have := hh.2; simp only at this; omega))
      generalize bndT xs tr a (k, (j : Int), t) = AA at HF ⊢
      obtain ⟨b0, b1, b2, b3⟩ := HX.out W0 (Below.refl _ _)
      rw [eW0] at b0 b1 b2 b3
      clear HSET HWI hc H g ha hp hVw hbk q0 q1 n0 n1 hB0 eW0
      go_enter Try.func63, Try.ntmps63
      go_wp2_with fail
      rw [← HE0.out]
      refine Calls.mono (HF.out _ HB0.out) ?_
      rintro e w3 ⟨rfl, hs3, hb3⟩
      have H3 : Hid _ := hs3
      have HB3 : Hid _ := hb3
      clear hs3 hb3
      go_wp2
      go_ret
      exact ⟨rfl, H3.out, HB3.out⟩
  · have e0 : (k == 0) = false := by simp [q0]
    have HF : Hid (¬ (k = 4 ∧ Rch xs a (k, n, t)) → ∀ W, Below w.heap.size w W → Calls Try.prog 87 #[.pointer (some ⟨h, 0, none⟩), .int .i64 (a : Int), .agg #[.int .i64 k, .int .i64 n, .slice p t.length cp]] W (BOut V h (bndT xs tr a (k, n, t)) kk)) := fun hnr W hW => HSET.out W a p cp (k, n, t) _ hW hal HP.out (fun hf => bndT_full hnr hf) (fun hf => bndT_set hnr hf (fun hh => q0 hh.1))
    obtain ⟨b0, b1, b2, b3⟩ := HX.out W0 (Below.refl _ _)
    rw [eW0] at b0 b1 b2 b3
    by_cases q4 : k = 4
    · have e4 : (k == 4) = true := by simp [q4]
      have HCY : Hid (Rch xs a (k, n, t) → bndT xs tr a (k, n, t) = (([], []), 5)) := fun hr => bndT_cyc q4 hr
      have HQ4 : Hid (k = 4) := q4
      generalize bndT xs tr a (k, n, t) = AA at HF HCY ⊢
      clear HSET hc H g ha hp hVw hbk q0 q4 hB0 eW0
      go_enter Try.func63, Try.ntmps63
      go_wp2_with fail
      rw [← HE0.out]
      refine Calls.mono (HWI.out _ HB0.out) ?_
      rintro e w2 ⟨r, rfl, hr, hb2⟩
      have HB2 : Hid (Below W0.heap.size W0 w2) := hb2
      clear b0 b1 b2 b3 HWI
      obtain ⟨b0, b1, b2, b3⟩ := HX.out w2 hb2
      clear hb2
      cases r
      · have HF2 : Hid _ := HF.out (fun hh => by have := hr.2 hh.2; cases this) w2 (Below.on HB0.out HB2.out)
        clear hr HF
        go_wp2_with fail
        refine Calls.mono HF2.out ?_
        rintro e w3 ⟨rfl, hs3, hb3⟩
        have H3 : Hid _ := hs3
        have HB3 : Hid _ := hb3
        clear hs3 hb3
        go_wp2
        go_ret
        exact ⟨rfl, H3.out, HB3.out⟩
      · have HA : Hid (AA = (([], []), 5)) := HCY.out (hr.1 rfl)
        clear hr HF HCY
        go_wp2
        go_ret
        refine ⟨by rw [HA.out]; rfl, fun h0 => ?_, Below.on HVW.out HB2.out⟩
        rw [HA.out] at h0
        exact absurd h0 (by decide)
    · have e4 : (k == 4) = false := by simp [q4]
      have HF2 : Hid _ := HF.out (fun hh => q4 hh.1) W0 HB0.out
      generalize bndT xs tr a (k, n, t) = AA at HF2 ⊢
      clear HSET hc H g ha hp hVw hbk q0 q4 hB0 eW0 HF HWI
      go_enter Try.func63, Try.ntmps63
      go_wp2_with fail
      rw [← HE0.out]
      refine Calls.mono HF2.out ?_
      rintro e w3 ⟨rfl, hs3, hb3⟩
      have H3 : Hid _ := hs3
      have HB3 : Hid _ := hb3
      clear hs3 hb3
      go_wp2
      go_ret
      exact ⟨rfl, H3.out, HB3.out⟩

end Go.Proofs.Ytfnmoaiejpkocaa

namespace Go.Proofs.Ytfnmoaiejpkocaa
open Go Go.RowKit
set_option linter.unusedVariables false

theorem celSet_at {xs : List Cel} {a : Nat} {c : Cel} (ha : a < xs.length) (i : Nat) : (xs.set a c).getD i Cel.none = if i = a then c else xs.getD i Cel.none := by
  by_cases e : i = a
  · subst e; rw [if_pos rfl]; simp [List.getD, ha]
  · have ne : ¬ a = i := fun x => e x.symm
    rw [if_neg e]; simp [List.getD, ne]
theorem knd_set {xs : List Cel} {a : Nat} {c : Cel} (ha : a < xs.length) (i : Nat) : kndA (xs.set a c) i = if i = a then c.1 else kndA xs i := by
  unfold kndA; rw [celSet_at ha]; split <;> rfl
theorem num_set {xs : List Cel} {a : Nat} {c : Cel} (ha : a < xs.length) (i : Nat) : numA (xs.set a c) i = if i = a then c.2.1 else numA xs i := by
  unfold numA; rw [celSet_at ha]; split <;> rfl
theorem knd3_set {xs : List Cel} {a : Nat} {c : Cel} (ha : varB xs a = true) (hc : WdC xs c) (i : Nat) : kndA (xs.set a c) i = 3 ↔ kndA xs i = 3 := by
  obtain ⟨_, h1, h2, _⟩ := varB_at ha
  simp only [Int.toNat_natCast] at h2
  rw [knd_set (by omega)]
  by_cases e : i = a
  · subst e; rw [if_pos rfl]
    have := hc.1
    constructor <;> intro h <;> omega
  · rw [if_neg e]
theorem WdC.set {xs : List Cel} {a : Nat} {c : Cel} (ha : varB xs a = true) (hc : WdC xs c) {d : Cel} (hd : WdC xs d) : WdC (xs.set a c) d := by
  refine ⟨hd.1, fun h0 => ?_, fun h4 => ?_⟩
  · obtain ⟨r0, r1, r2⟩ := hd.2.1 h0
    rw [List.length_set]
    exact ⟨r0, r1, fun h => r2 ((knd3_set ha hc _).1 h)⟩
  · obtain ⟨r0, r1, r2⟩ := hd.2.2 h4
    rw [List.length_set]
    exact ⟨r0, r1, (knd3_set ha hc _).2 r2⟩
theorem shp_set {xs : List Cel} {a : Nat} {c : Cel} (g : Shp xs) (ha : varB xs a = true) (hc : WdC xs c) : Shp (xs.set a c) := by
  obtain ⟨_, h1, h2, _⟩ := varB_at ha
  simp only [Int.toNat_natCast] at h2
  have hal : a < xs.length := by omega
  refine ⟨by rw [List.length_set]; exact g.len, fun i hi k => ?_, fun i hi k => ?_, fun i hi k => ?_, fun i hi => ?_⟩
  · rw [List.length_set] at hi ⊢
    rw [knd_set hal] at k
    rw [num_set hal]
    by_cases e : i = a
    · rw [if_pos e] at k ⊢
      obtain ⟨r0, r1, r2⟩ := hc.2.1 k
      exact ⟨r0, r1, fun h => r2 ((knd3_set ha hc _).1 h)⟩
    · rw [if_neg e] at k ⊢
      obtain ⟨r0, r1, r2⟩ := g.refs i hi k
      exact ⟨r0, r1, fun h => r2 ((knd3_set ha hc _).1 h)⟩
  · rw [List.length_set] at hi ⊢
    rw [knd_set hal] at k
    rw [num_set hal]
    by_cases e : i = a
    · rw [if_pos e] at k ⊢
      obtain ⟨r0, r1, r2⟩ := hc.2.2 k
      exact ⟨r0, r1, (knd3_set ha hc _).2 r2⟩
    · rw [if_neg e] at k ⊢
      obtain ⟨r0, r1, r2⟩ := g.stru i hi k
      exact ⟨r0, r1, (knd3_set ha hc _).2 r2⟩
  · rw [List.length_set] at hi
    have k' := (knd3_set ha hc i).1 k
    have e : ¬ i = a := fun e => by rw [e] at k'; omega
    rw [num_set hal, if_neg e]
    obtain ⟨f1, f2, f3⟩ := g.funs i hi k'
    refine ⟨f1, f2, fun j h1 h2 => ?_⟩
    obtain ⟨f4, f5⟩ := f3 j h1 h2
    rw [List.length_set]
    exact ⟨f4, fun h => f5 ((knd3_set ha hc _).1 h)⟩
  · rw [List.length_set] at hi
    rw [knd_set hal]
    by_cases e : i = a
    · rw [if_pos e]; have := hc.1; omega
    · rw [if_neg e]; exact g.knds i hi
/-- A word that is bound where nothing leads back to it: no word leads back to itself. -/
theorem set_good {xs : List Cel} {a : Nat} {c : Cel} (g : Good xs) (ha : varB xs a = true) (hc : WdC xs c) (ho : onB xs c = false) (hne : ¬ (c.1 = 0 ∧ c.2.1 = a)) (hr : c.1 = 4 → ¬ Rch xs a c) : Good (xs.set a c) := by
  refine ⟨shp_set g.shp ha hc, ?_⟩
  obtain ⟨_, h1, h2, h3⟩ := varB_at ha
  simp only [Int.toNat_natCast] at h2 h3
  have hal : a < xs.length := by omega
  -- at another word nothing is changed
  have hvar : ∀ x : Nat, x ≠ a → varB (xs.set a c) x = varB xs x := fun x hx => by
    unfold varB
    simp only [List.length_set, Int.toNat_natCast]
    rw [knd_set hal, num_set hal, if_neg hx, if_neg hx]
  have hkid : ∀ x y, x < xs.length → x ≠ a → Kid (xs.set a c) y x → Kid xs y x := fun x y hx hxa hk => by
    obtain ⟨k1, k2, k3⟩ := hk
    rw [hvar x hxa] at k1
    unfold firstK at k2
    unfold endK at k3
    rw [knd_set hal, num_set hal, if_neg hxa, if_neg hxa] at k2 k3
    refine ⟨k1, k2, ?_⟩
    unfold endK
    by_cases h0 : kndA xs x = 0
    · rw [if_pos h0] at k3 ⊢; exact k3
    · by_cases h4 : kndA xs x = 4
      · rw [if_neg h0, if_pos h4] at k3 ⊢
        obtain ⟨s0, s1, s2⟩ := g.shp.stru x hx h4
        rw [num_set hal, if_neg (fun e => by rw [e] at s2; omega)] at k3
        exact k3
      · rw [if_neg h0, if_neg h4] at k3 ⊢; exact k3
  have hbeh : ∀ x y, x < xs.length → Kid xs y x → Beh xs (xs.getD x Cel.none) y := fun x y hx hk => by
    obtain ⟨k1, k2, k3⟩ := hk
    by_cases h0 : kndA xs x = 0
    · have r := g.shp.refs x hx h0
      unfold firstK at k2; unfold endK at k3
      rw [if_pos h0] at k2 k3
      rw [beh_ref h0]
      have e : (xs.getD x Cel.none).2.1 = numA xs x := rfl
      rw [e]; omega
    · by_cases h4 : kndA xs x = 4
      · have r := g.shp.stru x hx h4
        have f := g.shp.funs (numA xs x).toNat (by omega) r.2.2
        unfold firstK at k2; unfold endK at k3
        rw [if_neg h0, if_pos h4] at k2 k3
        rw [beh_str h4]
        have e : (xs.getD x Cel.none).2.1 = numA xs x := rfl
        rw [e]
        omega
      · unfold endK at k3
        rw [if_neg h0, if_neg h4] at k3
        omega
  -- what does not lead to a
  have hnr : ∀ x, Acc (Kid xs) x → x < xs.length → x ≠ a → ¬ Rch xs a (xs.getD x Cel.none) → kndA xs x ≠ 3 → Acc (Kid (xs.set a c)) x := fun x hx => by
    induction hx with
    | intro x _ ih =>
      intro hl hxa hnr hx3
      refine Acc.intro x fun y hy => ?_
      have hk := hkid x y hl hxa hy
      have hb := hbeh x y hl hk
      obtain ⟨hy1, hy2⟩ := beh_word g.shp (g.at hl hx3) hb
      exact ih y hk hy1 (fun e => hnr (.here (e ▸ hb))) (fun h => hnr (.on hb h)) hy2
  have hacca : Acc (Kid (xs.set a c)) a := by
    refine Acc.intro a fun y hy => ?_
    obtain ⟨k1, k2, k3⟩ := hy
    unfold firstK at k2; unfold endK at k3
    rw [knd_set hal, num_set hal, if_pos rfl, if_pos rfl] at k2 k3
    by_cases h0 : c.1 = 0
    · rw [if_pos h0] at k2 k3
      obtain ⟨r0, r1, r2⟩ := hc.2.1 h0
      have hv : varB xs c.2.1 = true := by simp [onB, h0] at ho; exact ho
      have hy' : (y : Int) = c.2.1 := by omega
      rw [← hy'] at hv
      refine Acc.intro y fun z hz => ?_
      have := hz.1
      rw [hvar y (fun e => hne ⟨h0, by omega⟩), hv] at this
      cases this
    · by_cases h4 : c.1 = 4
      · rw [if_neg h0, if_pos h4] at k2 k3
        obtain ⟨r0, r1, r2⟩ := hc.2.2 h4
        obtain ⟨f1, f2, f3⟩ := g.shp.funs c.2.1.toNat (by omega) r2
        rw [num_set hal, if_neg (fun e => by rw [e] at r2; omega)] at k3
        have hb : Beh xs c y := by rw [beh_str h4]; omega
        obtain ⟨hy1, hy2⟩ := beh_word g.shp hc hb
        exact hnr y (g.acyc y hy1) hy1 (fun e => hr h4 (.here (e ▸ hb))) (fun h => hr h4 (.on hb h)) hy2
      · rw [if_neg h0, if_neg h4] at k3
        omega
  intro x hx
  rw [List.length_set] at hx
  have hall : ∀ x, Acc (Kid xs) x → x < xs.length → Acc (Kid (xs.set a c)) x := fun x hacc => by
    induction hacc with
    | intro x _ ih =>
      intro hl
      by_cases e : x = a
      · rw [e]; exact hacca
      · refine Acc.intro x fun y hy => ?_
        have hk := hkid x y hl e hy
        have hb := hbeh x y hl hk
        have hy1 : y < xs.length := by
          by_cases h3 : kndA xs x = 3
          · exact absurd hb (beh_no (by show kndA xs x ≠ 0; omega) (by show kndA xs x ≠ 4; omega))
          · exact (beh_word g.shp (g.at hl h3) hb).1
        exact ih y hk hy1
  exact hall x (g.acyc x hx) hx

end Go.Proofs.Ytfnmoaiejpkocaa

namespace Go.Proofs.Ytfnmoaiejpkocaa
open Go Go.RowKit
set_option linter.unusedVariables false

theorem supF_le (f : Nat → Nat) (m : Nat) : ∀ n : Nat, (∀ i, i < n → f i ≤ m) → supF f n ≤ m
  | 0, _ => Nat.zero_le _
  | n + 1, h => by
    simp only [supF]
    have h1 := supF_le f m n (fun i hi => h i (by omega))
    have h2 := h n (by omega)
    omega
/-- How deep a word that was followed leads. -/
noncomputable def dW (xs : List Cel) (d : Cel) : Nat := if d.1 = 4 then 1 + supF (fun i => rk xs (d.2.1.toNat + (i + 1))) (numA xs d.2.1.toNat).toNat else 0
theorem dW_at {xs : List Cel} (g : Good xs) : ∀ (N a : Nat), rk xs a ≤ N → a < xs.length → kndA xs a ≠ 3 → dW xs (drf xs (xs.getD a Cel.none)) ≤ rk xs a := by
  intro N
  induction N with
  | zero =>
    intro a hr ha h3
    cases ho : onB xs (xs.getD a Cel.none)
    · rw [drf_stop ho]
      unfold dW
      by_cases h4 : (xs.getD a Cel.none).1 = 4
      · exfalso
        obtain ⟨s0, s1, s2⟩ := g.shp.stru a ha h4
        obtain ⟨f1, f2, f3⟩ := g.shp.funs (numA xs a).toNat (by omega) s2
        have hk : Kid xs ((numA xs a).toNat + 1) a := by
          have h40 : kndA xs a = 4 := h4
          refine ⟨?_, ?_, ?_⟩
          · simp [varB, h40]
          · unfold firstK; rw [if_neg (by omega), if_pos h40]; exact Nat.le_refl _
          · unfold endK; rw [if_neg (by omega), if_pos h40]; omega
        have := rk_lt (g.acyc a ha) hk
        omega
      · rw [if_neg h4]; exact Nat.zero_le _
    · exfalso
      obtain ⟨h0, hv⟩ := on_ref ho
      have h00 : kndA xs a = 0 := h0
      have hva : varB xs a = false := by
        cases hv2 : varB xs (a : Int)
        · rfl
        · simp [varB] at hv2
          have e : (xs.getD a Cel.none).2.1 = (a : Int) := hv2.2.2
          rw [e] at hv
          simp [varB] at hv
          have := hv hv2.1 hv2.2.1
          exact absurd hv2.2.2 this
      have hk : Kid xs (numA xs a).toNat a := by
        refine ⟨hva, ?_, ?_⟩
        · unfold firstK; rw [if_pos h00]; exact Nat.le_refl _
        · unfold endK; rw [if_pos h00]; omega
      have := rk_lt (g.acyc a ha) hk
      omega
  | succ N ih =>
    intro a hr ha h3
    cases ho : onB xs (xs.getD a Cel.none)
    · rw [drf_stop ho]
      unfold dW
      by_cases h4 : (xs.getD a Cel.none).1 = 4
      · rw [if_pos h4]
        have h40 : kndA xs a = 4 := h4
        obtain ⟨s0, s1, s2⟩ := g.shp.stru a ha h4
        obtain ⟨f1, f2, f3⟩ := g.shp.funs (numA xs a).toNat (by omega) s2
        have hk : ∀ i, i < (numA xs (numA xs a).toNat).toNat → rk xs ((numA xs a).toNat + (i + 1)) < rk xs a := fun i hi => by
          refine rk_lt (g.acyc a ha) ⟨?_, ?_, ?_⟩
          · simp [varB, h40]
          · unfold firstK; rw [if_neg (by omega), if_pos h40]; omega
          · unfold endK; rw [if_neg (by omega), if_pos h40]; omega
        have h1 := hk 0 (by omega)
        have h2 := supF_le (fun i => rk xs ((numA xs a).toNat + (i + 1))) (rk xs a - 1) (numA xs (numA xs a).toNat).toNat (fun i hi => by have := hk i hi; omega)
        show 1 + supF (fun i => rk xs ((numA xs a).toNat + (i + 1))) (numA xs (numA xs a).toNat).toNat ≤ rk xs a
        omega
      · rw [if_neg h4]; exact Nat.zero_le _
    · obtain ⟨h0, hv⟩ := on_ref ho
      have h00 : kndA xs a = 0 := h0
      obtain ⟨r0, r1, r2⟩ := g.shp.refs a ha h00
      have hva : varB xs a = false := by
        cases hv2 : varB xs (a : Int)
        · rfl
        · simp [varB] at hv2
          have e : (xs.getD a Cel.none).2.1 = (a : Int) := hv2.2.2
          rw [e] at hv
          simp [varB] at hv
          have := hv hv2.1 hv2.2.1
          exact absurd hv2.2.2 this
      have hk : Kid xs (numA xs a).toNat a := by
        refine ⟨hva, ?_, ?_⟩
        · unfold firstK; rw [if_pos h00]; exact Nat.le_refl _
        · unfold endK; rw [if_pos h00]; omega
      have hl := rk_lt (g.acyc a ha) hk
      rw [drf_step g (g.at ha h3) ho]
      have := ih (numA xs a).toNat (by omega) (by omega) r2
      have e : (xs.getD a Cel.none).2.1.toNat = (numA xs a).toNat := rfl
      rw [e]
      omega
theorem dW_arg {xs : List Cel} (g : Good xs) {d : Cel} (hd : WdC xs d) (h4 : d.1 = 4) {i : Nat} (hi : (i : Int) < numA xs d.2.1.toNat) : dW xs (drf xs (xs.getD (d.2.1.toNat + (i + 1)) Cel.none)) < dW xs d := by
  obtain ⟨s0, s1, s2⟩ := hd.2.2 h4
  obtain ⟨f1, f2, f3⟩ := g.shp.funs d.2.1.toNat (by omega) s2
  obtain ⟨f4, f5⟩ := f3 (i + 1) (by omega) (by omega)
  have h1 := dW_at g _ (d.2.1.toNat + (i + 1)) (Nat.le_refl _) f4 f5
  have h2 : dW xs d = 1 + supF (fun i => rk xs (d.2.1.toNat + (i + 1))) (numA xs d.2.1.toNat).toNat := by unfold dW; rw [if_pos h4]
  have h3 := le_supF (fun i => rk xs (d.2.1.toNat + (i + 1))) (numA xs d.2.1.toNat).toNat i (by omega)
  omega

/-- Forests one behind the other. -/
def catF (f : Nat → Fo) : Nat → Fo
  | 0 => .nil
  | n + 1 => (catF f n).cat (f n)
/-- The term at a word, as a tree. -/
noncomputable def gF (xs : List Cel) : Nat → Cel → Fo
  | 0, c => .node (drf xs c) .nil .nil
  | f + 1, c => if (drf xs c).1 = 4 then .node (3, numA xs (drf xs c).2.1.toNat, (xs.getD (drf xs c).2.1.toNat Cel.none).2.2) (catF (fun i => gF xs f (xs.getD ((drf xs c).2.1.toNat + (i + 1)) Cel.none)) (numA xs (drf xs c).2.1.toNat).toNat) .nil else .node (drf xs c) .nil .nil
theorem gF_leaf {xs : List Cel} {f : Nat} {c : Cel} (h : (drf xs c).1 ≠ 4) : gF xs f c = .node (drf xs c) .nil .nil := by
  cases f with
  | zero => rfl
  | succ f => simp only [gF]; rw [if_neg h]
/-- The trees of the first k arguments of the structure at s. -/
noncomputable def argF (xs : List Cel) (f s k : Nat) : Fo := catF (fun i => gF xs f (xs.getD (s + (i + 1)) Cel.none)) k
theorem argF_zero (xs : List Cel) (f s : Nat) : argF xs f s 0 = .nil := rfl
theorem argF_succ (xs : List Cel) (f s k : Nat) : argF xs f s (k + 1) = (argF xs f s k).cat (gF xs f (xs.getD (s + (k + 1)) Cel.none)) := rfl
theorem gF_comp {xs : List Cel} {f : Nat} {c : Cel} (h : (drf xs c).1 = 4) (s n : Nat) (hs : (drf xs c).2.1 = s) (hn : numA xs s = n) : gF xs (f + 1) c = .node (3, (n : Int), (xs.getD s Cel.none).2.2) (argF xs f s n) .nil := by
  simp only [gF]
  rw [if_pos h, hs]
  simp only [Int.toNat_natCast]
  rw [hn]
  rfl
theorem gF_one (xs : List Cel) (f : Nat) (c : Cel) : ∃ d k, gF xs f c = .node d k .nil := by
  cases f with
  | zero => exact ⟨_, _, rfl⟩
  | succ f =>
    by_cases h : (drf xs c).1 = 4
    · simp only [gF]; rw [if_pos h]; exact ⟨_, _, rfl⟩
    · simp only [gF]; rw [if_neg h]; exact ⟨_, _, rfl⟩
theorem gF_count (xs : List Cel) (f : Nat) (c : Cel) : (gF xs f c).count = 1 := by
  obtain ⟨d, k, e⟩ := gF_one xs f c
  rw [e]; rfl
theorem argF_count (xs : List Cel) (f s : Nat) : ∀ k, (argF xs f s k).count = k
  | 0 => rfl
  | k + 1 => by rw [argF_succ, Fo.count_cat, argF_count xs f s k, gF_count]
/-- How many cells the term has. -/
noncomputable def gZ (xs : List Cel) (f : Nat) (c : Cel) : Nat := (gF xs f c).cells.length
noncomputable def aZ (xs : List Cel) (f s k : Nat) : Nat := (argF xs f s k).cells.length
theorem aZ_zero (xs : List Cel) (f s : Nat) : aZ xs f s 0 = 0 := rfl
theorem aZ_succ (xs : List Cel) (f s k : Nat) : aZ xs f s (k + 1) = aZ xs f s k + gZ xs f (xs.getD (s + (k + 1)) Cel.none) := by
  unfold aZ gZ; rw [argF_succ, Fo.cells_cat, List.length_append]
theorem aZ_mono (xs : List Cel) (f s : Nat) {k n : Nat} (h : k ≤ n) : aZ xs f s k ≤ aZ xs f s n := by
  induction n with
  | zero => rw [show k = 0 by omega]; exact Nat.le_refl _
  | succ n ih =>
    by_cases e : k = n + 1
    · rw [e]; exact Nat.le_refl _
    · have := ih (by omega); rw [aZ_succ]; omega
theorem gZ_pos (xs : List Cel) (f : Nat) (c : Cel) : 1 ≤ gZ xs f c := by
  obtain ⟨d, k, e⟩ := gF_one xs f c
  unfold gZ; rw [e]; simp [Fo.cells]
theorem gZ_leaf {xs : List Cel} {f : Nat} {c : Cel} (h : (drf xs c).1 ≠ 4) : gZ xs f c = 1 := by unfold gZ; rw [gF_leaf h]; rfl
theorem gZ_comp {xs : List Cel} {f : Nat} {c : Cel} (h : (drf xs c).1 = 4) (s n : Nat) (hs : (drf xs c).2.1 = s) (hn : numA xs s = n) : gZ xs (f + 1) c = 1 + aZ xs f s n := by
  unfold gZ aZ; rw [gF_comp h s n hs hn]; simp [Fo.cells]; omega
/-- What is asked of the cells of a store. -/
def OkS (xs : List Cel) : Prop := ∀ a, a < xs.length → okW (xs.getD a Cel.none).1 (xs.getD a Cel.none).2.1 (xs.getD a Cel.none).2.2.length = true ∧ Byte (xs.getD a Cel.none).2.2
theorem ok_cell {xs : List Cel} {d : Cel} (g : Shp xs) (hd : WdC xs d) (h4 : d.1 ≠ 4) (ho : okW d.1 d.2.1 d.2.2.length = true) : cellB d.1 d.2.1 d.2.2.length = true := by
  unfold okW at ho; rw [if_neg h4] at ho; exact ho
theorem gF_ok {xs : List Cel} (g : Good xs) (hO : OkS xs) : ∀ (f : Nat) (c : Cel), WdC xs c → okW c.1 c.2.1 c.2.2.length = true → Byte c.2.2 → dW xs (drf xs c) < f → (gF xs f c).ok := by
  intro f
  induction f with
  | zero => intro c _ _ _ h; exact absurd h (Nat.not_lt_zero _)
  | succ f ih =>
    intro c hc ho hb hf
    obtain ⟨⟨h1, h2⟩, hw, _⟩ := drf_ind g (P := fun c => okW c.1 c.2.1 c.2.2.length = true ∧ Byte c.2.2) (fun a ha _ => hO a ha) _ c (Nat.le_refl _) hc ⟨ho, hb⟩
    have hw' := (drf_word g hc).1
    by_cases h4 : (drf xs c).1 = 4
    · obtain ⟨s0, s1, s2⟩ := hw'.2.2 h4
      obtain ⟨s, es⟩ : ∃ s : Nat, (drf xs c).2.1 = s := ⟨(drf xs c).2.1.toNat, by omega⟩
      rw [es] at s0 s1 s2
      simp only [Int.toNat_natCast] at s2
      obtain ⟨f1, f2, f3⟩ := g.shp.funs s (by omega) s2
      obtain ⟨n, en⟩ : ∃ n : Nat, numA xs s = n := ⟨(numA xs s).toNat, by omega⟩
      rw [gF_comp h4 s n es en]
      have hargs : ∀ k, k ≤ n → (argF xs f s k).ok := by
        intro k
        induction k with
        | zero => intro _; exact trivial
        | succ k ihk =>
          intro hk
          rw [argF_succ, Fo.ok_cat]
          obtain ⟨f4, f5⟩ := f3 (k + 1) (by omega) (by omega)
          have hd := dW_arg g hw' h4 (i := k) (by rw [es]; simp only [Int.toNat_natCast]; omega)
          rw [es] at hd
          simp only [Int.toNat_natCast] at hd
          exact ⟨ihk (by omega), ih _ (g.at f4 f5) (hO _ f4).1 (hO _ f4).2 (by omega)⟩
      have hos := (hO s (by omega)).1
      refine ⟨?_, (hO s (by omega)).2, fun _ => by rw [argF_count], fun h => absurd rfl h, hargs n (Nat.le_refl _), trivial⟩
      have e3 : (xs.getD s Cel.none).1 = 3 := s2
      have en' : (xs.getD s Cel.none).2.1 = (n : Int) := en
      rw [e3, en'] at hos
      unfold okW at hos
      simpa using hos
    · rw [gF_leaf h4]
      exact ⟨ok_cell g.shp hw' h4 h1, h2, fun h3 => by have := hw'.1; omega, fun _ => rfl, trivial, trivial⟩

end Go.Proofs.Ytfnmoaiejpkocaa

