/- Texts of BdB, UwS. Own work of the verifier. -/
import Derived.Test.YtfnmoaiejpkocaaUqav
import Derived.Test.YtfnmoaiejpkocaaUqau
namespace Go.Proofs.Ytfnmoaiejpkocaa
open Go Go.RowKit Go.Maps
set_option linter.unusedVariables false

/-- What l10bind answers. -/
def BOut (V : World) (h : Nat) (A : (List Cel × List Int) × Int) (kk : Int) (e : Ending) (w' : World) : Prop :=
  e = .returned (.int .i64 A.2) ∧ (A.2 = 0 → SHp V w' h A.1.1 A.1.2 kk) ∧ Below V.heap.size V w'
theorem bndT_cyc {xs : List Cel} {tr : List Int} {a : Nat} {c : Cel} (h4 : c.1 = 4) (hr : Rch xs a c) : bndT xs tr a c = (([], []), 5) := by unfold bndT; rw [if_pos ⟨h4, hr⟩]
theorem bndT_full {xs : List Cel} {tr : List Int} {a : Nat} {c : Cel} (h : ¬ (c.1 = 4 ∧ Rch xs a c)) (ht : 20000 ≤ tr.length) : bndT xs tr a c = (([], []), 10) := by unfold bndT; rw [if_neg h, if_pos ht]
theorem bndT_ref {xs : List Cel} {tr : List Int} {a : Nat} {c : Cel} (h0 : c.1 = 0) (ht : ¬ 20000 ≤ tr.length) (j : Nat) (hj : c.2.1 = j) (hlt : a < j) : bndT xs tr a c = ((xs.set j (0, (a : Int), []), tr ++ [(j : Int)]), 0) := by
  unfold bndT; rw [if_neg (fun h => by omega), if_neg ht, if_pos ⟨h0, by omega⟩, hj]; rfl
theorem bndT_set {xs : List Cel} {tr : List Int} {a : Nat} {c : Cel} (h : ¬ (c.1 = 4 ∧ Rch xs a c)) (ht : ¬ 20000 ≤ tr.length) (hn : ¬ (c.1 = 0 ∧ (a : Int) < c.2.1)) : bndT xs tr a c = ((xs.set a c, tr ++ [(a : Int)]), 0) := by unfold bndT; rw [if_neg h, if_neg ht, if_neg hn]

set_option maxHeartbeats 1000000 in
set_option maxRecDepth 100000 in
theorem l10bind_any (V : World) (h a : Nat) (p : Option Addr) (cp : Nat) (c : Cel) (xs : List Cel) (tr : List Int) (kk : Int) (w : World) (g : Good xs) (ha : varB xs a = true) (hc : WdC xs c) (ht : tr.length ≤ 20000) (hp : BIn V p c.2.2) (H : SHp V w h xs tr kk) :
    Calls Try.prog 63 #[.pointer (some ⟨h, 0, none⟩), .int .i64 (a : Int), .agg #[.int .i64 c.1, .int .i64 c.2.1, .slice p c.2.2.length cp]] w (BOut V h (bndT xs tr a c) kk) := by
  have hl := g.shp.len
  have hal : a < xs.length := by have := varB_at ha; omega
  have hVw : Below V.heap.size V w := by obtain ⟨_, _, _, _, _, _, _, _, h4⟩ := H; exact h4
  -- putting: in every world behind w
  have HSET : Hid (∀ W i q cq (y : Cel) (Ax : (List Cel × List Int) × Int), Below w.heap.size w W → i < xs.length → BIn V q y.2.2 → (20000 ≤ tr.length → Ax = (([], []), 10)) → (¬ 20000 ≤ tr.length → Ax = ((xs.set i y, tr ++ [(i : Int)]), 0)) → Calls Try.prog 87 #[.pointer (some ⟨h, 0, none⟩), .int .i64 (i : Int), .agg #[.int .i64 y.1, .int .i64 y.2.1, .slice q y.2.2.length cq]] W (BOut V h Ax kk)) := fun W i q cq y Ax hW hi hq h1 h2 => by
    refine (l10set_any V h i q cq y xs tr kk W hl ht hi hq (H.below hW)).mono fun e w' hh => ?_
    by_cases hf : 20000 ≤ tr.length
    · rw [if_pos hf] at hh
      rw [h1 hf]
      exact ⟨hh.1, fun h => absurd h (by decide), (Below.on hVw hW).trans hh.2⟩
    · rw [if_neg hf] at hh
      rw [h2 hf]
      obtain ⟨_, _, _, _, _, _, _, _, h4⟩ := id hh.2
      exact ⟨hh.1, fun _ => hh.2, h4⟩
  have HWI : Hid (∀ W, Below w.heap.size w W → Calls Try.prog 88 #[.pointer (some ⟨h, 0, none⟩), .int .i64 (a : Int), .agg #[.int .i64 c.1, .int .i64 c.2.1, .slice p c.2.2.length cp]] W fun e w' => ∃ r : Bool, e = .returned (.bool r) ∧ (r = true ↔ Rch xs a c) ∧ Below W.heap.size W w') := fun W hW => l10within_any V h a p cp c xs tr kk W g ha hc hp (H.below hW)
  obtain ⟨W0, eW0⟩ : ∃ W, W = w.alloc (.cells #[.int .i64 c.1, .int .i64 c.2.1, .slice p c.2.2.length cp] 31) := ⟨_, rfl⟩
  have hB0 : Below w.heap.size w W0 := by rw [eW0]; exact alloc_on _ _
  have HB0 : Hid _ := hB0
  have hbk : W0.heap[w.heap.size]? = some (.cells #[.int .i64 c.1, .int .i64 c.2.1, .slice p c.2.2.length cp] 31) := by rw [eW0]; exact heap_alloc_new _ _
  have HX : Hid (∀ W, Below W0.heap.size W0 W → Box3 W w.heap.size (.int .i64 c.1) (.int .i64 c.2.1) (.slice p c.2.2.length cp)) := fun W hW => (Box3.of_block (t := 31) hbk).on hW
  have HE0 : Hid _ := eW0
  have HP : Hid (BIn V p c.2.2) := hp
  have HVW : Hid (Below V.heap.size V W0) := Below.on hVw hB0
  obtain ⟨k, n, t⟩ := c
  simp only at HSET HWI HX HE0 eW0 hc
  by_cases q0 : k = 0
  · obtain ⟨n0, n1, _⟩ := hc.2.1 q0
    obtain ⟨j, rfl⟩ : ∃ j : Nat, n = j := ⟨n.toNat, by simp only at n0; omega⟩
    have hj : j < xs.length := by simp only at n1; omega
    have e0 : (k == 0) = true := by simp [q0]
    by_cases q1 : a < j
    · have e1 : (a : Int) < (j : Int) := by omega
      have HF : Hid (∀ W, Below w.heap.size w W → Calls Try.prog 87 #[.pointer (some ⟨h, 0, none⟩), .int .i64 (j : Int), .agg #[.int .i64 0, .int .i64 (a : Int), .slice none 0 0]] W (BOut V h (bndT xs tr a (k, (j : Int), t)) kk)) := fun W hW => HSET.out W j none 0 (0, (a : Int), []) _ hW hj (fun h => absurd h (Nat.lt_irrefl 0)) (fun hf => bndT_full (fun hh => by have := hh.1; simp only at this; omega) hf) (fun hf => bndT_ref q0 hf j rfl q1)
      have HLR : Hid (Calls Try.prog 79 #[.int .i64 (a : Int)] (W0.drewN 1) fun e w' => e = .returned (.agg #[.int .i64 0, .int .i64 (a : Int), .slice none 0 0]) ∧ Below W0.heap.size W0 w') := (l10ref_any a (W0.drewN 1)).mono fun e w' ⟨h1, h2⟩ => ⟨h1, (below_drewN (Below.refl _ _) 1).trans h2⟩
      generalize bndT xs tr a (k, (j : Int), t) = AA at HF ⊢
      obtain ⟨b0, b1, b2, b3⟩ := HX.out W0 (Below.refl _ _)
      have b1' := b1
      rw [eW0] at b0 b1 b2 b3
      clear HSET HWI hc H g ha hp hVw hbk q0 q1 n0 n1 hB0 eW0
      go_enter Try.func63, Try.ntmps63
      go_wp2
      rw [← HE0.out]
      go_region_with (first
        | (go_at_call 79; refine Calls.mono HLR.out ?_; rintro e w2 ⟨rfl, hb2⟩; have HB2 : Hid (Below w.heap.size w w2) := Below.on HB0.out hb2; obtain ⟨y0, y1, y2, y3⟩ := HX.out _ hb2; clear hb2)
        | (go_at_call 87; refine Calls.mono (HF.out _ HB2.out) ?_; rintro e w3 ⟨rfl, hs3, hb3⟩; have H3 : Hid _ := hs3; have HB3 : Hid _ := hb3; clear hs3 hb3))
      all_goals
        go_wp2
        go_ret
        exact ⟨rfl, H3.out, HB3.out⟩
    · have e1 : ¬ (a : Int) < (j : Int) := by omega
      have HF : Hid (∀ W, Below w.heap.size w W → Calls Try.prog 87 #[.pointer (some ⟨h, 0, none⟩), .int .i64 (a : Int), .agg #[.int .i64 k, .int .i64 (j : Int), .slice p t.length cp]] W (BOut V h (bndT xs tr a (k, (j : Int), t)) kk)) := fun W hW => HSET.out W a p cp (k, (j : Int), t) _ hW hal HP.out (fun hf => bndT_full (fun hh => by have := hh.1; simp only at this; omega) hf) (fun hf => bndT_set (fun hh => by have := hh.1; simp only at this; omega) hf (fun hh => by have := hh.2; simp only at this; omega))
      generalize bndT xs tr a (k, (j : Int), t) = AA at HF ⊢
      obtain ⟨b0, b1, b2, b3⟩ := HX.out W0 (Below.refl _ _)
      rw [eW0] at b0 b1 b2 b3
      clear HSET HWI hc H g ha hp hVw hbk q0 q1 n0 n1 hB0 eW0
      go_enter Try.func63, Try.ntmps63
      go_wp2_with fail
      rw [← HE0.out]
      refine Calls.mono (HF.out _ HB0.out) ?_
      rintro e w3 ⟨rfl, hs3, hb3⟩
      have H3 : Hid _ := hs3
      have HB3 : Hid _ := hb3
      clear hs3 hb3
      go_wp2
      go_ret
      exact ⟨rfl, H3.out, HB3.out⟩
  · have e0 : (k == 0) = false := by simp [q0]
    have HF : Hid (¬ (k = 4 ∧ Rch xs a (k, n, t)) → ∀ W, Below w.heap.size w W → Calls Try.prog 87 #[.pointer (some ⟨h, 0, none⟩), .int .i64 (a : Int), .agg #[.int .i64 k, .int .i64 n, .slice p t.length cp]] W (BOut V h (bndT xs tr a (k, n, t)) kk)) := fun hnr W hW => HSET.out W a p cp (k, n, t) _ hW hal HP.out (fun hf => bndT_full hnr hf) (fun hf => bndT_set hnr hf (fun hh => q0 hh.1))
    obtain ⟨b0, b1, b2, b3⟩ := HX.out W0 (Below.refl _ _)
    rw [eW0] at b0 b1 b2 b3
    by_cases q4 : k = 4
    · have e4 : (k == 4) = true := by simp [q4]
      have HCY : Hid (Rch xs a (k, n, t) → bndT xs tr a (k, n, t) = (([], []), 5)) := fun hr => bndT_cyc q4 hr
      have HQ4 : Hid (k = 4) := q4
      generalize bndT xs tr a (k, n, t) = AA at HF HCY ⊢
      clear HSET hc H g ha hp hVw hbk q0 q4 hB0 eW0
      go_enter Try.func63, Try.ntmps63
      go_wp2_with fail
      rw [← HE0.out]
      refine Calls.mono (HWI.out _ HB0.out) ?_
      rintro e w2 ⟨r, rfl, hr, hb2⟩
      have HB2 : Hid (Below W0.heap.size W0 w2) := hb2
      clear b0 b1 b2 b3 HWI
      obtain ⟨b0, b1, b2, b3⟩ := HX.out w2 hb2
      clear hb2
      cases r
      · have HF2 : Hid _ := HF.out (fun hh => by have := hr.2 hh.2; cases this) w2 (Below.on HB0.out HB2.out)
        clear hr HF
        go_wp2_with fail
        refine Calls.mono HF2.out ?_
        rintro e w3 ⟨rfl, hs3, hb3⟩
        have H3 : Hid _ := hs3
        have HB3 : Hid _ := hb3
        clear hs3 hb3
        go_wp2
        go_ret
        exact ⟨rfl, H3.out, HB3.out⟩
      · have HA : Hid (AA = (([], []), 5)) := HCY.out (hr.1 rfl)
        clear hr HF HCY
        go_wp2
        go_ret
        refine ⟨by rw [HA.out]; rfl, fun h0 => ?_, Below.on HVW.out HB2.out⟩
        rw [HA.out] at h0
        exact absurd h0 (by decide)
    · have e4 : (k == 4) = false := by simp [q4]
      have HF2 : Hid _ := HF.out (fun hh => q4 hh.1) W0 HB0.out
      generalize bndT xs tr a (k, n, t) = AA at HF2 ⊢
      clear HSET hc H g ha hp hVw hbk q0 q4 hB0 eW0 HF HWI
      go_enter Try.func63, Try.ntmps63
      go_wp2_with fail
      rw [← HE0.out]
      refine Calls.mono HF2.out ?_
      rintro e w3 ⟨rfl, hs3, hb3⟩
      have H3 : Hid _ := hs3
      have HB3 : Hid _ := hb3
      clear hs3 hb3
      go_wp2
      go_ret
      exact ⟨rfl, H3.out, HB3.out⟩

end Go.Proofs.Ytfnmoaiejpkocaa

namespace Go.Proofs.Ytfnmoaiejpkocaa
open Go Go.RowKit Go.Maps
set_option linter.unusedVariables false

/-- A store and a code, to be read. -/
def StoreB (A : (List Cel × List Int) × Int) (w : World) (e : Ending) (w' : World) : Prop :=
  ∃ p q c1 c2, e = .returned (.tuple #[.agg #[.slice p A.1.1.length c1, .slice q A.1.2.length c2], .int .i64 A.2]) ∧ OwnC w' w.heap.size p A.1.1.length c1 A.1.1 ∧ OwnI w' w.heap.size 3 q A.1.2.length c2 A.1.2 ∧ Below w.heap.size w w'
theorem StoreB.none {w w' : World} (code : Int) (hb : Below w.heap.size w w') : StoreB (([], []), code) w (.returned (.tuple #[.agg #[.slice none 0 0, .slice none 0 0], .int .i64 code])) w' :=
  ⟨Option.none, Option.none, 0, 0, rfl, ⟨rfl, [], rfl, World.ownsRow_nil _ _ _ _, fun i h => absurd h (Nat.not_lt_zero _), ⟨fun i h => absurd h (Nat.not_lt_zero _), fun i j h => absurd h (Nat.not_lt_zero _)⟩⟩, OwnI.nil _ _ _, hb⟩
theorem unwB_fits {xs : List Cel} {tr : List Int} {mk tp : Nat} (hs : storeB xs tr = true) (hm : mk ≤ tr.length) (hp : tp ≤ xs.length) : unwB xs tr mk tp = true ↔ ∀ i, i < tp → (xs.getD i Cel.none).1 = 3 → (i : Int) + (xs.getD i Cel.none).2.1 < tp := by
  have hsp := (storeB_parts hs).2.2.1
  have hw : wholeF 0 xs = true := by
    unfold storeB at hs
    simp only [Bool.and_eq_true, decide_eq_true_eq] at hs
    exact hs.1.1.2.2
  have ha : ∀ c ∈ xs, c.1 = 3 → 1 ≤ c.2.1 := fun c hc h3 => by
    obtain ⟨i, hi, rfl⟩ := List.mem_iff_getElem.1 hc
    have := hsp.funs i hi (by unfold kndA; simpa [List.getD, hi] using h3)
    have := this.1
    unfold numA at this
    simpa [List.getD, hi] using this
  have := whole_take xs 0 tp (Int.le_refl _) hp ha hw
  unfold unwB
  rw [hs]
  simp only [Bool.true_and, Bool.and_eq_true, decide_eq_true_eq]
  rw [show ((tp : Int)).toNat = tp by simp, this]
  constructor
  · rintro ⟨_, _, _, h⟩; exact h
  · intro h; exact ⟨by omega, by omega, by omega, h⟩

set_option maxHeartbeats 4000000 in
set_option maxRecDepth 100000 in
theorem specUnwind_any (p q : Option Addr) (c1 c2 : Nat) (mark top : Int) (xs : List Cel) (tr : List Int) (w : World) (hx : xs.length ≤ 1000000000) (hy : tr.length ≤ 1000000000) (hc : CIn w p xs) (hi : IIn w q tr) :
    Calls Try.prog 25 #[.agg #[.slice p xs.length c1, .slice q tr.length c2], .int .i64 mark, .int .i64 top] w (StoreB (unwA xs tr mark top) w) := by
  obtain ⟨W0, eW0⟩ : ∃ W0, W0 = (w.alloc (.cells #[.slice p xs.length c1, .slice q tr.length c2] 36)).alloc (.cells #[.slice none 0 0, .slice none 0 0] 36) := ⟨_, rfl⟩
  have hb0 : Below w.heap.size w W0 := by rw [eW0]; exact ((Below.refl _ _).alloc (Nat.le_refl _) _).alloc (by simp) _
  have hz0 : W0.heap.size = w.heap.size + 1 + 1 := by rw [eW0]; simp
  have k0 : W0.heap[w.heap.size]? = some (.cells #[.slice p xs.length c1, .slice q tr.length c2] 36) := by
    rw [eW0, Below.heap_alloc _ _ _ (by simp)]; exact heap_alloc_new _ _
  have k1 : W0.heap[w.heap.size + 1]? = some (.cells #[.slice none 0 0, .slice none 0 0] 36) := by
    rw [eW0]
    have := heap_alloc_new (w.alloc (.cells #[.slice p xs.length c1, .slice q tr.length c2] 36)) (.cells #[.slice none 0 0, .slice none 0 0] 36)
    simpa using this
  have HSB : Hid (∀ W, Below W0.heap.size W0 W → Box2 W w.heap.size (.slice p xs.length c1) (.slice q tr.length c2)) := fun W hW => Box2.of_block ((hW.block w.heap.size (by omega)).trans k0)
  have HBX : Hid (∀ W, Below W0.heap.size W0 W → Box2 W (w.heap.size + 1) (.slice none 0 0) (.slice none 0 0)) := fun W hW => Box2.of_block ((hW.block (w.heap.size + 1) (by omega)).trans k1)
  have HO := l10valid_any p q c1 c2 xs tr W0 hx hy (hc.below hb0) (hi.below hb0)
  have HL : Hid (∀ W, Below W0.heap.size W0 W → CIn W p xs ∧ IIn W q tr) := fun W hW => ⟨hc.below (Below.on hb0 hW), hi.below (Below.on hb0 hW)⟩
  have HB0 : Hid (∀ W v0 v1, Below W0.heap.size W0 W → Below w.heap.size w ((W.setCell ⟨w.heap.size + 1, 0, none⟩ v0).setCell ⟨w.heap.size + 1, 1, none⟩ v1)) := fun W v0 v1 hW => below_put2 (Below.on hb0 hW) (by omega) _ _
  have HE0 : Hid _ := eW0
  have HZ0 : Hid _ := hz0
  clear hc hi hb0 k0 k1 hz0
  rw [eW0] at HO
  clear eW0
  cases hs : storeB xs tr
  · have HA : Hid (unwA xs tr mark top = (([], []), 1)) := by show _ = _; unfold unwA unwB; rw [hs]; simp
    rw [HA.out]
    rw [hs] at HO
    clear hs HA HL
    go_enter Try.func25, Try.ntmps25
    go_wp2_with fail
    refine HO.mono ?_
    rintro e w1 ⟨rfl, hb⟩
    rw [← HE0.out] at hb
    have HB1 : Hid (Below W0.heap.size W0 w1) := hb
    obtain ⟨s0, s1, s2⟩ := HSB.out w1 hb
    clear hb HO
    have HR : Hid _ := (HBX.out w1 HB1.out).put (.slice none 0 0) (.slice none 0 0)
    have HBF : Hid _ := HB0.out w1 (.slice none 0 0) (.slice none 0 0) HB1.out
    obtain ⟨b0, b1, b2⟩ := HBX.out w1 HB1.out
    clear HBX HB0
    go_wp2
    obtain ⟨d0, d1, _⟩ := HR.out
    exact bodyPost_ret (v := .tuple #[.agg #[.slice none 0 0, .slice none 0 0], .int .i64 1]) (by simp [results, Try.results25, go_sem, d0, d1]) rfl (StoreB.none 1 HBF.out)
  · rw [hs] at HO
    obtain ⟨hl, ht, hsp, hwb, _⟩ := storeB_parts hs
    have hok := storeB_ok hs
    by_cases hm : 0 ≤ mark ∧ mark ≤ tr.length
    · obtain ⟨mk, rfl⟩ : ∃ k : Nat, mark = k := ⟨mark.toNat, by omega⟩
      have hmk : mk ≤ tr.length := by omega
      have n1 : ¬ ((mk : Int) < 0) := by omega
      have n2 : ¬ ((tr.length : Int) < mk) := by omega
      by_cases hp : 0 ≤ top ∧ top ≤ xs.length
      · obtain ⟨tp, rfl⟩ : ∃ k : Nat, top = k := ⟨top.toNat, by omega⟩
        have htp : tp ≤ xs.length := by omega
        have n3 : ¬ ((tp : Int) < 0) := by omega
        have n4 : ¬ ((xs.length : Int) < tp) := by omega
        have HUB : Hid _ := unwB_fits (mk := mk) hs hmk htp
        have hlx : (unwX xs tr mk tp).length = tp := by unfold unwX; rw [List.length_take, unwC_len]; simp; omega
        have hlt : (unwT tr mk).length = mk := by unfold unwT; rw [List.length_take]; simp; omega
        have HTX : Hid (∀ a, a < (unwX xs tr mk tp).length → ((unwX xs tr mk tp).getD a Cel.none).2.2.length ≤ 100) := fun a ha => unwX_all (P := fun c => c.2.2.length ≤ 100) (fun i hi => by
          have := hok i hi
          generalize (xs.getD i Cel.none).2.2.length = m at this ⊢
          unfold okW at this
          split at this
          · simp at this; omega
          · simp only [cellB, decide_eq_true_eq] at this; omega) (fun i hi => by simp) a ha
        have HNM : Hid (∀ i, i < xs.length → (xs.getD i Cel.none).1 = 3 → 1 ≤ (xs.getD i Cel.none).2.1 ∧ (xs.getD i Cel.none).2.1 ≤ 20) := fun i hi h3 => ⟨(hsp.funs i hi h3).1, (hsp.funs i hi h3).2.1⟩
        have HOP : Hid (∀ W, Below W0.heap.size W0 W → Calls Try.prog 40 #[.agg #[.slice p xs.length c1, .slice q tr.length c2]] W fun e w' => ∃ h, e = .returned (.pointer (some ⟨h, 0, none⟩)) ∧ SHp W w' h xs tr 0 ∧ Below W.heap.size W w') := fun W hW => l10open_any p q c1 c2 xs tr W hl ht (HL.out W hW).1 (HL.out W hW).2
        have HUN : Hid (∀ V W h, SHp V W h xs tr 0 → Calls Try.prog 55 #[.pointer (some ⟨h, 0, none⟩), .int .i64 mk, .int .i64 tp] W fun e w' => e = .returned (.tuple #[]) ∧ SHp V w' h (unwX xs tr mk tp) (unwT tr mk) 0) := fun V W h H => l10unwind_any V h xs tr 0 mk tp W hl ht hmk htp hwb H
        have HCL : Hid (∀ V W h, SHp V W h (unwX xs tr mk tp) (unwT tr mk) 0 → Calls Try.prog 56 #[.pointer (some ⟨h, 0, none⟩)] W (StoreR (unwX xs tr mk tp) (unwT tr mk) W)) := fun V W h H => l10close_any V h _ _ 0 W (by omega) (by omega) HTX.out H
        have HVX : Hid (∀ W p' q' c3 c4, CIn W p' (unwX xs tr mk tp) → IIn W q' (unwT tr mk) → Calls Try.prog 54 #[.agg #[.slice p' (unwX xs tr mk tp).length c3, .slice q' (unwT tr mk).length c4]] W fun e w' => e = .returned (.bool (storeB (unwX xs tr mk tp) (unwT tr mk))) ∧ Below W.heap.size W w') := fun W p' q' c3 c4 a b => l10valid_any p' q' c3 c4 _ _ W (by omega) (by omega) a b
        have HA1 : Hid (unwB xs tr mk tp = false → unwA xs tr mk tp = (([], []), 1)) := fun h => by unfold unwA; rw [h]; simp
        have HA4 : Hid (unwB xs tr mk tp = true → storeB (unwX xs tr mk tp) (unwT tr mk) = false → unwA xs tr mk tp = (([], []), 4)) := fun h h2 => by unfold unwA; rw [h, h2]; simp
        have HA0 : Hid (unwB xs tr mk tp = true → storeB (unwX xs tr mk tp) (unwT tr mk) = true → unwA xs tr mk tp = ((unwX xs tr mk tp, unwT tr mk), 0)) := fun h h2 => by unfold unwA; rw [h, h2]; simp
        clear hlx hlt HTX
        generalize unwX xs tr mk tp = X at HUN HCL HVX HA4 HA0
        generalize unwT tr mk = T at HUN HCL HVX HA4 HA0
        generalize storeB X T = sx at HVX HA4 HA0
        generalize unwB xs tr mk tp = ub at HUB HA1 HA4 HA0
        generalize unwA xs tr mk tp = AA at HA1 HA4 HA0 ⊢
        clear hm hp hs hok hsp hwb
        go_enter Try.func25, Try.ntmps25
        go_wp2_with fail
        refine HO.mono ?_
        rintro e w1 ⟨rfl, hb⟩
        rw [← HE0.out] at hb
        have HB1 : Hid (Below W0.heap.size W0 w1) := hb
        obtain ⟨s0, s1, s2⟩ := HSB.out w1 hb
        clear hb HO
        go_wp2
        clear s0 s1 s2
        go_loopw [8] (fun i wr => ∃ k : Nat, k ≤ tp ∧ i = .int .i64 k ∧ Hid (∀ j, j < k → (xs.getD j Cel.none).1 = 3 → (j : Int) + (xs.getD j Cel.none).2.1 < tp) ∧ Hid (Below W0.heap.size W0 wr)) (fun i _ => tp - (intOf i).toNat)
        case atStart => exact ⟨0, Nat.zero_le _, rfl, fun j h => absurd h (Nat.not_lt_zero _), HB1⟩
        case round =>
          obtain ⟨k, hk, rfl, HF, HB⟩ := hrel
          by_cases hlt2 : k < tp
          · have hkx : k < xs.length := by omega
            obtain ⟨b, o, rfl, hcs⟩ := (HL.out wr HB.out).1 (by omega)
            obtain ⟨qx, cx, d0, d1, _, _⟩ := hcs k hkx
            obtain ⟨s0, s1, s2⟩ := HSB.out wr HB.out
            have HNK : Hid _ := HNM.out k hkx
            obtain ⟨y0, ey0⟩ : ∃ y, y = (xs.getD k Cel.none).1 := ⟨_, rfl⟩
            obtain ⟨y1, ey1⟩ : ∃ y, y = (xs.getD k Cel.none).2.1 := ⟨_, rfl⟩
            rw [← ey0] at d0 HNK
            rw [← ey1] at d1 HNK
            have HY : Hid (y0 = (xs.getD k Cel.none).1 ∧ y1 = (xs.getD k Cel.none).2.1) := ⟨ey0, ey1⟩
            clear hcs ey0 ey1
            have hkI : (0 : Int) ≤ (k : Int) := by omega
            have hkL : (k : Int) < (xs.length : Int) := by omega
            by_cases q0 : y0 = 3
            · have e0 : (y0 == 3) = true := by simp [q0]
              obtain ⟨z0, z1⟩ := HNK.out q0
              by_cases q1 : (k : Int) + y1 < tp
              · have e1 : ¬ ((tp : Int) ≤ (k : Int) + y1) := by omega
                have HF2 : Hid (∀ j, j < k + 1 → (xs.getD j Cel.none).1 = 3 → (j : Int) + (xs.getD j Cel.none).2.1 < tp) := fun j hj h3 => by
                  rcases Nat.lt_or_eq_of_le (Nat.lt_succ_iff.1 hj) with h | rfl
                  · exact HF.out j h h3
                  · rw [← HY.out.2]; exact q1
                clear q0
                go_wp2
                go_roundw
                case rel => exact ⟨k + 1, by omega, by go_num, HF2, HB⟩
                case measure => simp [intOf]; omega
              · have e1 : (tp : Int) ≤ (k : Int) + y1 := by omega
                have hub : ub = false := by
                  cases hu : ub
                  · rfl
                  · have := HUB.out.1 hu k hlt2 (by rw [← HY.out.1]; exact q0)
                    rw [← HY.out.2] at this
                    omega
                rw [HA1.out hub]
                clear q0 q1 hub
                have HR : Hid _ := (HBX.out wr HB.out).put (.slice none 0 0) (.slice none 0 0)
                have HBF : Hid _ := HB0.out wr (.slice none 0 0) (.slice none 0 0) HB.out
                obtain ⟨b0, b1, b2⟩ := HBX.out wr HB.out
                clear HBX HB0
                go_wp2
                obtain ⟨d0, d1, _⟩ := HR.out
                exact bodyPost_ret (v := .tuple #[.agg #[.slice none 0 0, .slice none 0 0], .int .i64 1]) (by simp [results, Try.results25, go_sem, d0, d1]) rfl (StoreB.none 1 HBF.out)
            · have e0 : (y0 == 3) = false := by simp [q0]
              have HF2 : Hid (∀ j, j < k + 1 → (xs.getD j Cel.none).1 = 3 → (j : Int) + (xs.getD j Cel.none).2.1 < tp) := fun j hj h3 => by
                rcases Nat.lt_or_eq_of_le (Nat.lt_succ_iff.1 hj) with h | rfl
                · exact HF.out j h h3
                · exact absurd (HY.out.1.trans h3) q0
              clear q0
              go_wp2
              go_roundw
              case rel => exact ⟨k + 1, by omega, by go_num, HF2, HB⟩
              case measure => simp [intOf]; omega
          · obtain rfl : k = tp := by omega
            have HUT : Hid (ub = true) := HUB.out.2 HF.out
            obtain ⟨s0, s1, s2⟩ := HSB.out wr HB.out
            have HP1 : Hid _ := HOP.out wr HB.out
            clear HF HUB HNM HOP
            go_wp2_with fail
            refine Calls.mono HP1.out ?_
            rintro e w2 ⟨h, rfl, hsh, hb2⟩
            have HB2 : Hid (Below W0.heap.size W0 w2) := Below.on HB.out hb2
            have HU2 : Hid _ := HUN.out wr w2 h hsh
            clear hsh hb2 s0 s1 s2 HP1 HUN
            go_wp2_with fail
            refine Calls.mono HU2.out ?_
            rintro e w3 ⟨rfl, hsh⟩
            have HB3 : Hid (Below W0.heap.size W0 w3) := Below.on HB.out hsh.choose_spec.choose_spec.choose_spec.choose_spec.2.2.2.2
            have HC3 : Hid _ := HCL.out wr w3 h hsh
            clear hsh HU2 HCL
            go_wp2_with fail
            refine Calls.mono HC3.out ?_
            rintro e w4 ⟨p4, q4, c4, d4, rfl, hc4, hi4, hb4⟩
            obtain ⟨oS, eoS⟩ : ∃ o : Obj, o = .cells #[.slice p4 X.length c4, .slice q4 T.length d4] 36 := ⟨_, rfl⟩
            have HB4 : Hid (Below W0.heap.size W0 (w4.alloc oS)) := Below.on (Below.on HB3.out hb4) (alloc_on _ _)
            have HC4 : Hid (OwnC (w4.alloc oS) w3.heap.size p4 X.length c4 X ∧ OwnI (w4.alloc oS) w3.heap.size 3 q4 T.length d4 T) := ⟨hc4.below (alloc_on _ _), hi4.below (alloc_on _ _)⟩
            have HX4 : Hid (∀ W, Below (w4.alloc oS).heap.size (w4.alloc oS) W → Box2 W w4.heap.size (.slice p4 X.length c4) (.slice q4 T.length d4)) := fun W hW => (Box2.of_block (t := 36) (by rw [eoS]; exact heap_alloc_new _ _)).on hW
            have HV4 : Hid _ := HVX.out (w4.alloc oS) p4 q4 c4 d4 HC4.out.1.cin HC4.out.2.iin
            have HOS : Hid _ := eoS
            clear hc4 hi4 hb4 HC3 HVX eoS
            go_wp2_with fail
            rw [← HOS.out]
            refine Calls.mono HV4.out ?_
            rintro e w5 ⟨rfl, hb5⟩
            have HB5 : Hid (Below W0.heap.size W0 w5) := Below.on HB4.out hb5
            obtain ⟨x0, x1, x2⟩ := HX4.out w5 hb5
            have HC5 : Hid (OwnC w5 w3.heap.size p4 X.length c4 X ∧ OwnI w5 w3.heap.size 3 q4 T.length d4 T) := ⟨HC4.out.1.below hb5, HC4.out.2.below hb5⟩
            have hz3 : w.heap.size + 1 + 1 ≤ w3.heap.size := by have := HB3.out.size; have h2 := HZ0.out; omega
            clear hb5 HV4 HC4 HX4 HOS
            cases sx
            · clear x0 x1 x2
              have HR : Hid _ := (HBX.out w5 HB5.out).put (.slice none 0 0) (.slice none 0 0)
              have HBF : Hid _ := HB0.out w5 (.slice none 0 0) (.slice none 0 0) HB5.out
              obtain ⟨b0, b1, b2⟩ := HBX.out w5 HB5.out
              clear HBX HB0
              go_wp2
              obtain ⟨d0, d1, _⟩ := HR.out
              exact bodyPost_ret (v := .tuple #[.agg #[.slice none 0 0, .slice none 0 0], .int .i64 4]) (by simp [results, Try.results25, go_sem, d0, d1]) rfl (by rw [HA4.out HUT.out (by trivial)]; exact StoreB.none 4 HBF.out)
            · have HR : Hid _ := (HBX.out w5 HB5.out).put (.slice p4 X.length c4) (.slice q4 T.length d4)
              have HBF : Hid _ := HB0.out w5 (.slice p4 X.length c4) (.slice q4 T.length d4) HB5.out
              obtain ⟨b0, b1, b2⟩ := HBX.out w5 HB5.out
              have HF5 : Hid (OwnC ((w5.setCell ⟨w.heap.size + 1, 0, none⟩ (.slice p4 X.length c4)).setCell ⟨w.heap.size + 1, 1, none⟩ (.slice q4 T.length d4)) w.heap.size p4 X.length c4 X ∧ OwnI ((w5.setCell ⟨w.heap.size + 1, 0, none⟩ (.slice p4 X.length c4)).setCell ⟨w.heap.size + 1, 1, none⟩ (.slice q4 T.length d4)) w.heap.size 3 q4 T.length d4 T) := ⟨((HC5.out.1.set (by simp; omega) _).set (by simp; omega) _).mono (by omega), ((HC5.out.2.set (by simp; omega) _).set (by simp; omega) _).mono (by omega)⟩
              clear HBX HB0 HC5
              go_wp2
              obtain ⟨d0, d1, _⟩ := HR.out
              exact bodyPost_ret (v := .tuple #[.agg #[.slice p4 X.length c4, .slice q4 T.length d4], .int .i64 0]) (by simp [results, Try.results25, go_sem, d0, d1]) rfl (by rw [HA0.out HUT.out (by trivial)]; exact ⟨p4, q4, c4, d4, rfl, HF5.out.1, HF5.out.2, HBF.out⟩)
      · have HA : Hid (unwA xs tr mk top = (([], []), 1)) := by show _ = _; unfold unwA unwB; rw [decide_eq_false hp]; simp
        rw [HA.out]
        clear hs hok hsp hwb HA hm HL
        by_cases h0 : top < 0
        · clear hp
          go_enter Try.func25, Try.ntmps25
          go_wp2_with fail
          refine HO.mono ?_
          rintro e w1 ⟨rfl, hb⟩
          rw [← HE0.out] at hb
          have HB1 : Hid (Below W0.heap.size W0 w1) := hb
          obtain ⟨s0, s1, s2⟩ := HSB.out w1 hb
          clear hb HO
          have HR : Hid _ := (HBX.out w1 HB1.out).put (.slice none 0 0) (.slice none 0 0)
          have HBF : Hid _ := HB0.out w1 (.slice none 0 0) (.slice none 0 0) HB1.out
          obtain ⟨b0, b1, b2⟩ := HBX.out w1 HB1.out
          clear HBX HB0
          go_wp2
          obtain ⟨d0, d1, _⟩ := HR.out
          exact bodyPost_ret (v := .tuple #[.agg #[.slice none 0 0, .slice none 0 0], .int .i64 1]) (by simp [results, Try.results25, go_sem, d0, d1]) rfl (StoreB.none 1 HBF.out)
        · have n4 : (xs.length : Int) < top := by omega
          clear hp
          go_enter Try.func25, Try.ntmps25
          go_wp2_with fail
          refine HO.mono ?_
          rintro e w1 ⟨rfl, hb⟩
          rw [← HE0.out] at hb
          have HB1 : Hid (Below W0.heap.size W0 w1) := hb
          obtain ⟨s0, s1, s2⟩ := HSB.out w1 hb
          clear hb HO
          have HR : Hid _ := (HBX.out w1 HB1.out).put (.slice none 0 0) (.slice none 0 0)
          have HBF : Hid _ := HB0.out w1 (.slice none 0 0) (.slice none 0 0) HB1.out
          obtain ⟨b0, b1, b2⟩ := HBX.out w1 HB1.out
          clear HBX HB0
          go_wp2
          obtain ⟨d0, d1, _⟩ := HR.out
          exact bodyPost_ret (v := .tuple #[.agg #[.slice none 0 0, .slice none 0 0], .int .i64 1]) (by simp [results, Try.results25, go_sem, d0, d1]) rfl (StoreB.none 1 HBF.out)
    · have HA : Hid (unwA xs tr mark top = (([], []), 1)) := by show _ = _; unfold unwA unwB; rw [decide_eq_false hm]; simp
      rw [HA.out]
      clear hs hok hsp hwb HA HL
      by_cases h0 : mark < 0
      · clear hm
        go_enter Try.func25, Try.ntmps25
        go_wp2_with fail
        refine HO.mono ?_
        rintro e w1 ⟨rfl, hb⟩
        rw [← HE0.out] at hb
        have HB1 : Hid (Below W0.heap.size W0 w1) := hb
        obtain ⟨s0, s1, s2⟩ := HSB.out w1 hb
        clear hb HO
        have HR : Hid _ := (HBX.out w1 HB1.out).put (.slice none 0 0) (.slice none 0 0)
        have HBF : Hid _ := HB0.out w1 (.slice none 0 0) (.slice none 0 0) HB1.out
        obtain ⟨b0, b1, b2⟩ := HBX.out w1 HB1.out
        clear HBX HB0
        go_wp2
        obtain ⟨d0, d1, _⟩ := HR.out
        exact bodyPost_ret (v := .tuple #[.agg #[.slice none 0 0, .slice none 0 0], .int .i64 1]) (by simp [results, Try.results25, go_sem, d0, d1]) rfl (StoreB.none 1 HBF.out)
      · have n4 : (tr.length : Int) < mark := by omega
        clear hm
        go_enter Try.func25, Try.ntmps25
        go_wp2_with fail
        refine HO.mono ?_
        rintro e w1 ⟨rfl, hb⟩
        rw [← HE0.out] at hb
        have HB1 : Hid (Below W0.heap.size W0 w1) := hb
        obtain ⟨s0, s1, s2⟩ := HSB.out w1 hb
        clear hb HO
        have HR : Hid _ := (HBX.out w1 HB1.out).put (.slice none 0 0) (.slice none 0 0)
        have HBF : Hid _ := HB0.out w1 (.slice none 0 0) (.slice none 0 0) HB1.out
        obtain ⟨b0, b1, b2⟩ := HBX.out w1 HB1.out
        clear HBX HB0
        go_wp2
        obtain ⟨d0, d1, _⟩ := HR.out
        exact bodyPost_ret (v := .tuple #[.agg #[.slice none 0 0, .slice none 0 0], .int .i64 1]) (by simp [results, Try.results25, go_sem, d0, d1]) rfl (StoreB.none 1 HBF.out)

end Go.Proofs.Ytfnmoaiejpkocaa

