/- Texts of UwS, UfS, UwJ. Own work of the verifier. -/
import Derived.Test.YtfnmoaiejpkocaaUqaw
import Derived.Test.YtfnmoaiejpkocaaUqbc
import Derived.Test.YtfnmoaiejpkocaaUqat
namespace Go.Proofs.Ytfnmoaiejpkocaa
open Go Go.RowKit Go.Maps
set_option linter.unusedVariables false

/-- A store and a code, to be read. -/
def StoreB (A : (List Cel × List Int) × Int) (w : World) (e : Ending) (w' : World) : Prop :=
  ∃ p q c1 c2, e = .returned (.tuple #[.agg #[.slice p A.1.1.length c1, .slice q A.1.2.length c2], .int .i64 A.2]) ∧ OwnC w' w.heap.size p A.1.1.length c1 A.1.1 ∧ OwnI w' w.heap.size 3 q A.1.2.length c2 A.1.2 ∧ Below w.heap.size w w'
theorem StoreB.none {w w' : World} (code : Int) (hb : Below w.heap.size w w') : StoreB (([], []), code) w (.returned (.tuple #[.agg #[.slice none 0 0, .slice none 0 0], .int .i64 code])) w' :=
  ⟨Option.none, Option.none, 0, 0, rfl, ⟨rfl, [], rfl, World.ownsRow_nil _ _ _ _, fun i h => absurd h (Nat.not_lt_zero _), ⟨fun i h => absurd h (Nat.not_lt_zero _), fun i j h => absurd h (Nat.not_lt_zero _)⟩⟩, OwnI.nil _ _ _, hb⟩
theorem unwB_fits {xs : List Cel} {tr : List Int} {mk tp : Nat} (hs : storeB xs tr = true) (hm : mk ≤ tr.length) (hp : tp ≤ xs.length) : unwB xs tr mk tp = true ↔ ∀ i, i < tp → (xs.getD i Cel.none).1 = 3 → (i : Int) + (xs.getD i Cel.none).2.1 < tp := by
  have hsp := (storeB_parts hs).2.2.1
  have hw : wholeF 0 xs = true := by
    unfold storeB at hs
    simp only [Bool.and_eq_true, decide_eq_true_eq] at hs
    exact hs.1.1.2.2
  have ha : ∀ c ∈ xs, c.1 = 3 → 1 ≤ c.2.1 := fun c hc h3 => by
    obtain ⟨i, hi, rfl⟩ := List.mem_iff_getElem.1 hc
    have := hsp.funs i hi (by unfold kndA; simpa [List.getD, hi] using h3)
    have := this.1
    unfold numA at this
    simpa [List.getD, hi] using this
  have := whole_take xs 0 tp (Int.le_refl _) hp ha hw
  unfold unwB
  rw [hs]
  simp only [Bool.true_and, Bool.and_eq_true, decide_eq_true_eq]
  rw [show ((tp : Int)).toNat = tp by simp, this]
  constructor
  · rintro ⟨_, _, _, h⟩; exact h
  · intro h; exact ⟨by omega, by omega, by omega, h⟩

set_option maxHeartbeats 4000000 in
set_option maxRecDepth 100000 in
theorem specUnwind_any (p q : Option Addr) (c1 c2 : Nat) (mark top : Int) (xs : List Cel) (tr : List Int) (w : World) (hx : xs.length ≤ 1000000000) (hy : tr.length ≤ 1000000000) (hc : CIn w p xs) (hi : IIn w q tr) :
    Calls Try.prog 25 #[.agg #[.slice p xs.length c1, .slice q tr.length c2], .int .i64 mark, .int .i64 top] w (StoreB (unwA xs tr mark top) w) := by
  obtain ⟨W0, eW0⟩ : ∃ W0, W0 = (w.alloc (.cells #[.slice p xs.length c1, .slice q tr.length c2] 36)).alloc (.cells #[.slice none 0 0, .slice none 0 0] 36) := ⟨_, rfl⟩
  have hb0 : Below w.heap.size w W0 := by rw [eW0]; exact ((Below.refl _ _).alloc (Nat.le_refl _) _).alloc (by simp) _
  have hz0 : W0.heap.size = w.heap.size + 1 + 1 := by rw [eW0]; simp
  have k0 : W0.heap[w.heap.size]? = some (.cells #[.slice p xs.length c1, .slice q tr.length c2] 36) := by
    rw [eW0, Below.heap_alloc _ _ _ (by simp)]; exact heap_alloc_new _ _
  have k1 : W0.heap[w.heap.size + 1]? = some (.cells #[.slice none 0 0, .slice none 0 0] 36) := by
    rw [eW0]
    have := heap_alloc_new (w.alloc (.cells #[.slice p xs.length c1, .slice q tr.length c2] 36)) (.cells #[.slice none 0 0, .slice none 0 0] 36)
    simpa using this
  have HSB : Hid (∀ W, Below W0.heap.size W0 W → Box2 W w.heap.size (.slice p xs.length c1) (.slice q tr.length c2)) := fun W hW => Box2.of_block ((hW.block w.heap.size (by omega)).trans k0)
  have HBX : Hid (∀ W, Below W0.heap.size W0 W → Box2 W (w.heap.size + 1) (.slice none 0 0) (.slice none 0 0)) := fun W hW => Box2.of_block ((hW.block (w.heap.size + 1) (by omega)).trans k1)
  have HO := l10valid_any p q c1 c2 xs tr W0 hx hy (hc.below hb0) (hi.below hb0)
  have HL : Hid (∀ W, Below W0.heap.size W0 W → CIn W p xs ∧ IIn W q tr) := fun W hW => ⟨hc.below (Below.on hb0 hW), hi.below (Below.on hb0 hW)⟩
  have HB0 : Hid (∀ W v0 v1, Below W0.heap.size W0 W → Below w.heap.size w ((W.setCell ⟨w.heap.size + 1, 0, none⟩ v0).setCell ⟨w.heap.size + 1, 1, none⟩ v1)) := fun W v0 v1 hW => below_put2 (Below.on hb0 hW) (by omega) _ _
  have HE0 : Hid _ := eW0
  have HZ0 : Hid _ := hz0
  clear hc hi hb0 k0 k1 hz0
  rw [eW0] at HO
  clear eW0
  cases hs : storeB xs tr
  · have HA : Hid (unwA xs tr mark top = (([], []), 1)) := by show _ = _; unfold unwA unwB; rw [hs]; simp
    rw [HA.out]
    rw [hs] at HO
    clear hs HA HL
    go_enter Try.func25, Try.ntmps25
    go_wp2_with fail
    refine HO.mono ?_
    rintro e w1 ⟨rfl, hb⟩
    rw [← HE0.out] at hb
    have HB1 : Hid (Below W0.heap.size W0 w1) := hb
    obtain ⟨s0, s1, s2⟩ := HSB.out w1 hb
    clear hb HO
    have HR : Hid _ := (HBX.out w1 HB1.out).put (.slice none 0 0) (.slice none 0 0)
    have HBF : Hid _ := HB0.out w1 (.slice none 0 0) (.slice none 0 0) HB1.out
    obtain ⟨b0, b1, b2⟩ := HBX.out w1 HB1.out
    clear HBX HB0
    go_wp2
    obtain ⟨d0, d1, _⟩ := HR.out
    exact bodyPost_ret (v := .tuple #[.agg #[.slice none 0 0, .slice none 0 0], .int .i64 1]) (by simp [results, Try.results25, go_sem, d0, d1]) rfl (StoreB.none 1 HBF.out)
  · rw [hs] at HO
    obtain ⟨hl, ht, hsp, hwb, _⟩ := storeB_parts hs
    have hok := storeB_ok hs
    by_cases hm : 0 ≤ mark ∧ mark ≤ tr.length
    · obtain ⟨mk, rfl⟩ : ∃ k : Nat, mark = k := ⟨mark.toNat, by omega⟩
      have hmk : mk ≤ tr.length := by omega
      have n1 : ¬ ((mk : Int) < 0) := by omega
      have n2 : ¬ ((tr.length : Int) < mk) := by omega
      by_cases hp : 0 ≤ top ∧ top ≤ xs.length
      · obtain ⟨tp, rfl⟩ : ∃ k : Nat, top = k := ⟨top.toNat, by omega⟩
        have htp : tp ≤ xs.length := by omega
        have n3 : ¬ ((tp : Int) < 0) := by omega
        have n4 : ¬ ((xs.length : Int) < tp) := by omega
        have HUB : Hid _ := unwB_fits (mk := mk) hs hmk htp
        have hlx : (unwX xs tr mk tp).length = tp := by unfold unwX; rw [List.length_take, unwC_len]; simp; omega
        have hlt : (unwT tr mk).length = mk := by unfold unwT; rw [List.length_take]; simp; omega
        have HTX : Hid (∀ a, a < (unwX xs tr mk tp).length → ((unwX xs tr mk tp).getD a Cel.none).2.2.length ≤ 100) := fun a ha => unwX_all (P := fun c => c.2.2.length ≤ 100) (fun i hi => by
          have := hok i hi
          generalize (xs.getD i Cel.none).2.2.length = m at this ⊢
          unfold okW at this
          split at this
          · simp at this; omega
          · simp only [cellB, decide_eq_true_eq] at this; omega) (fun i hi => by simp) a ha
        have HNM : Hid (∀ i, i < xs.length → (xs.getD i Cel.none).1 = 3 → 1 ≤ (xs.getD i Cel.none).2.1 ∧ (xs.getD i Cel.none).2.1 ≤ 20) := fun i hi h3 => ⟨(hsp.funs i hi h3).1, (hsp.funs i hi h3).2.1⟩
        have HOP : Hid (∀ W, Below W0.heap.size W0 W → Calls Try.prog 40 #[.agg #[.slice p xs.length c1, .slice q tr.length c2]] W fun e w' => ∃ h, e = .returned (.pointer (some ⟨h, 0, none⟩)) ∧ SHp W w' h xs tr 0 ∧ Below W.heap.size W w') := fun W hW => l10open_any p q c1 c2 xs tr W hl ht (HL.out W hW).1 (HL.out W hW).2
        have HUN : Hid (∀ V W h, SHp V W h xs tr 0 → Calls Try.prog 55 #[.pointer (some ⟨h, 0, none⟩), .int .i64 mk, .int .i64 tp] W fun e w' => e = .returned (.tuple #[]) ∧ SHp V w' h (unwX xs tr mk tp) (unwT tr mk) 0) := fun V W h H => l10unwind_any V h xs tr 0 mk tp W hl ht hmk htp hwb H
        have HCL : Hid (∀ V W h, SHp V W h (unwX xs tr mk tp) (unwT tr mk) 0 → Calls Try.prog 56 #[.pointer (some ⟨h, 0, none⟩)] W (StoreR (unwX xs tr mk tp) (unwT tr mk) W)) := fun V W h H => l10close_any V h _ _ 0 W (by omega) (by omega) HTX.out H
        have HVX : Hid (∀ W p' q' c3 c4, CIn W p' (unwX xs tr mk tp) → IIn W q' (unwT tr mk) → Calls Try.prog 54 #[.agg #[.slice p' (unwX xs tr mk tp).length c3, .slice q' (unwT tr mk).length c4]] W fun e w' => e = .returned (.bool (storeB (unwX xs tr mk tp) (unwT tr mk))) ∧ Below W.heap.size W w') := fun W p' q' c3 c4 a b => l10valid_any p' q' c3 c4 _ _ W (by omega) (by omega) a b
        have HA1 : Hid (unwB xs tr mk tp = false → unwA xs tr mk tp = (([], []), 1)) := fun h => by unfold unwA; rw [h]; simp
        have HA4 : Hid (unwB xs tr mk tp = true → storeB (unwX xs tr mk tp) (unwT tr mk) = false → unwA xs tr mk tp = (([], []), 4)) := fun h h2 => by unfold unwA; rw [h, h2]; simp
        have HA0 : Hid (unwB xs tr mk tp = true → storeB (unwX xs tr mk tp) (unwT tr mk) = true → unwA xs tr mk tp = ((unwX xs tr mk tp, unwT tr mk), 0)) := fun h h2 => by unfold unwA; rw [h, h2]; simp
        clear hlx hlt HTX
        generalize unwX xs tr mk tp = X at HUN HCL HVX HA4 HA0
        generalize unwT tr mk = T at HUN HCL HVX HA4 HA0
        generalize storeB X T = sx at HVX HA4 HA0
        generalize unwB xs tr mk tp = ub at HUB HA1 HA4 HA0
        generalize unwA xs tr mk tp = AA at HA1 HA4 HA0 ⊢
        clear hm hp hs hok hsp hwb
        go_enter Try.func25, Try.ntmps25
        go_wp2_with fail
        refine HO.mono ?_
        rintro e w1 ⟨rfl, hb⟩
        rw [← HE0.out] at hb
        have HB1 : Hid (Below W0.heap.size W0 w1) := hb
        obtain ⟨s0, s1, s2⟩ := HSB.out w1 hb
        clear hb HO
        go_wp2
        clear s0 s1 s2
        go_loopw [8] (fun i wr => ∃ k : Nat, k ≤ tp ∧ i = .int .i64 k ∧ Hid (∀ j, j < k → (xs.getD j Cel.none).1 = 3 → (j : Int) + (xs.getD j Cel.none).2.1 < tp) ∧ Hid (Below W0.heap.size W0 wr)) (fun i _ => tp - (intOf i).toNat)
        case atStart => exact ⟨0, Nat.zero_le _, rfl, fun j h => absurd h (Nat.not_lt_zero _), HB1⟩
        case round =>
          obtain ⟨k, hk, rfl, HF, HB⟩ := hrel
          by_cases hlt2 : k < tp
          · have hkx : k < xs.length := by omega
            obtain ⟨b, o, rfl, hcs⟩ := (HL.out wr HB.out).1 (by omega)
            obtain ⟨qx, cx, d0, d1, _, _⟩ := hcs k hkx
            obtain ⟨s0, s1, s2⟩ := HSB.out wr HB.out
            have HNK : Hid _ := HNM.out k hkx
            obtain ⟨y0, ey0⟩ : ∃ y, y = (xs.getD k Cel.none).1 := ⟨_, rfl⟩
            obtain ⟨y1, ey1⟩ : ∃ y, y = (xs.getD k Cel.none).2.1 := ⟨_, rfl⟩
            rw [← ey0] at d0 HNK
            rw [← ey1] at d1 HNK
            have HY : Hid (y0 = (xs.getD k Cel.none).1 ∧ y1 = (xs.getD k Cel.none).2.1) := ⟨ey0, ey1⟩
            clear hcs ey0 ey1
            have hkI : (0 : Int) ≤ (k : Int) := by omega
            have hkL : (k : Int) < (xs.length : Int) := by omega
            by_cases q0 : y0 = 3
            · have e0 : (y0 == 3) = true := by simp [q0]
              obtain ⟨z0, z1⟩ := HNK.out q0
              by_cases q1 : (k : Int) + y1 < tp
              · have e1 : ¬ ((tp : Int) ≤ (k : Int) + y1) := by omega
                have HF2 : Hid (∀ j, j < k + 1 → (xs.getD j Cel.none).1 = 3 → (j : Int) + (xs.getD j Cel.none).2.1 < tp) := fun j hj h3 => by
                  rcases Nat.lt_or_eq_of_le (Nat.lt_succ_iff.1 hj) with h | rfl
                  · exact HF.out j h h3
                  · rw [← HY.out.2]; exact q1
                clear q0
                go_wp2
                go_roundw
                case rel => exact ⟨k + 1, by omega, by go_num, HF2, HB⟩
                case measure => simp [intOf]; omega
              · have e1 : (tp : Int) ≤ (k : Int) + y1 := by omega
                have hub : ub = false := by
                  cases hu : ub
                  · rfl
                  · have := HUB.out.1 hu k hlt2 (by rw [← HY.out.1]; exact q0)
                    rw [← HY.out.2] at this
                    omega
                rw [HA1.out hub]
                clear q0 q1 hub
                have HR : Hid _ := (HBX.out wr HB.out).put (.slice none 0 0) (.slice none 0 0)
                have HBF : Hid _ := HB0.out wr (.slice none 0 0) (.slice none 0 0) HB.out
                obtain ⟨b0, b1, b2⟩ := HBX.out wr HB.out
                clear HBX HB0
                go_wp2
                obtain ⟨d0, d1, _⟩ := HR.out
                exact bodyPost_ret (v := .tuple #[.agg #[.slice none 0 0, .slice none 0 0], .int .i64 1]) (by simp [results, Try.results25, go_sem, d0, d1]) rfl (StoreB.none 1 HBF.out)
            · have e0 : (y0 == 3) = false := by simp [q0]
              have HF2 : Hid (∀ j, j < k + 1 → (xs.getD j Cel.none).1 = 3 → (j : Int) + (xs.getD j Cel.none).2.1 < tp) := fun j hj h3 => by
                rcases Nat.lt_or_eq_of_le (Nat.lt_succ_iff.1 hj) with h | rfl
                · exact HF.out j h h3
                · exact absurd (HY.out.1.trans h3) q0
              clear q0
              go_wp2
              go_roundw
              case rel => exact ⟨k + 1, by omega, by go_num, HF2, HB⟩
              case measure => simp [intOf]; omega
          · obtain rfl : k = tp := by omega
            have HUT : Hid (ub = true) := HUB.out.2 HF.out
            obtain ⟨s0, s1, s2⟩ := HSB.out wr HB.out
            have HP1 : Hid _ := HOP.out wr HB.out
            clear HF HUB HNM HOP
            go_wp2_with fail
            refine Calls.mono HP1.out ?_
            rintro e w2 ⟨h, rfl, hsh, hb2⟩
            have HB2 : Hid (Below W0.heap.size W0 w2) := Below.on HB.out hb2
            have HU2 : Hid _ := HUN.out wr w2 h hsh
            clear hsh hb2 s0 s1 s2 HP1 HUN
            go_wp2_with fail
            refine Calls.mono HU2.out ?_
            rintro e w3 ⟨rfl, hsh⟩
            have HB3 : Hid (Below W0.heap.size W0 w3) := Below.on HB.out hsh.choose_spec.choose_spec.choose_spec.choose_spec.2.2.2.2
            have HC3 : Hid _ := HCL.out wr w3 h hsh
            clear hsh HU2 HCL
            go_wp2_with fail
            refine Calls.mono HC3.out ?_
            rintro e w4 ⟨p4, q4, c4, d4, rfl, hc4, hi4, hb4⟩
            obtain ⟨oS, eoS⟩ : ∃ o : Obj, o = .cells #[.slice p4 X.length c4, .slice q4 T.length d4] 36 := ⟨_, rfl⟩
            have HB4 : Hid (Below W0.heap.size W0 (w4.alloc oS)) := Below.on (Below.on HB3.out hb4) (alloc_on _ _)
            have HC4 : Hid (OwnC (w4.alloc oS) w3.heap.size p4 X.length c4 X ∧ OwnI (w4.alloc oS) w3.heap.size 3 q4 T.length d4 T) := ⟨hc4.below (alloc_on _ _), hi4.below (alloc_on _ _)⟩
            have HX4 : Hid (∀ W, Below (w4.alloc oS).heap.size (w4.alloc oS) W → Box2 W w4.heap.size (.slice p4 X.length c4) (.slice q4 T.length d4)) := fun W hW => (Box2.of_block (t := 36) (by rw [eoS]; exact heap_alloc_new _ _)).on hW
            have HV4 : Hid _ := HVX.out (w4.alloc oS) p4 q4 c4 d4 HC4.out.1.cin HC4.out.2.iin
            have HOS : Hid _ := eoS
            clear hc4 hi4 hb4 HC3 HVX eoS
            go_wp2_with fail
            rw [← HOS.out]
            refine Calls.mono HV4.out ?_
            rintro e w5 ⟨rfl, hb5⟩
            have HB5 : Hid (Below W0.heap.size W0 w5) := Below.on HB4.out hb5
            obtain ⟨x0, x1, x2⟩ := HX4.out w5 hb5
            have HC5 : Hid (OwnC w5 w3.heap.size p4 X.length c4 X ∧ OwnI w5 w3.heap.size 3 q4 T.length d4 T) := ⟨HC4.out.1.below hb5, HC4.out.2.below hb5⟩
            have hz3 : w.heap.size + 1 + 1 ≤ w3.heap.size := by have := HB3.out.size; have h2 := HZ0.out; omega
            clear hb5 HV4 HC4 HX4 HOS
            cases sx
            · clear x0 x1 x2
              have HR : Hid _ := (HBX.out w5 HB5.out).put (.slice none 0 0) (.slice none 0 0)
              have HBF : Hid _ := HB0.out w5 (.slice none 0 0) (.slice none 0 0) HB5.out
              obtain ⟨b0, b1, b2⟩ := HBX.out w5 HB5.out
              clear HBX HB0
              go_wp2
              obtain ⟨d0, d1, _⟩ := HR.out
              exact bodyPost_ret (v := .tuple #[.agg #[.slice none 0 0, .slice none 0 0], .int .i64 4]) (by simp [results, Try.results25, go_sem, d0, d1]) rfl (by rw [HA4.out HUT.out (by trivial)]; exact StoreB.none 4 HBF.out)
            · have HR : Hid _ := (HBX.out w5 HB5.out).put (.slice p4 X.length c4) (.slice q4 T.length d4)
              have HBF : Hid _ := HB0.out w5 (.slice p4 X.length c4) (.slice q4 T.length d4) HB5.out
              obtain ⟨b0, b1, b2⟩ := HBX.out w5 HB5.out
              have HF5 : Hid (OwnC ((w5.setCell ⟨w.heap.size + 1, 0, none⟩ (.slice p4 X.length c4)).setCell ⟨w.heap.size + 1, 1, none⟩ (.slice q4 T.length d4)) w.heap.size p4 X.length c4 X ∧ OwnI ((w5.setCell ⟨w.heap.size + 1, 0, none⟩ (.slice p4 X.length c4)).setCell ⟨w.heap.size + 1, 1, none⟩ (.slice q4 T.length d4)) w.heap.size 3 q4 T.length d4 T) := ⟨((HC5.out.1.set (by simp; omega) _).set (by simp; omega) _).mono (by omega), ((HC5.out.2.set (by simp; omega) _).set (by simp; omega) _).mono (by omega)⟩
              clear HBX HB0 HC5
              go_wp2
              obtain ⟨d0, d1, _⟩ := HR.out
              exact bodyPost_ret (v := .tuple #[.agg #[.slice p4 X.length c4, .slice q4 T.length d4], .int .i64 0]) (by simp [results, Try.results25, go_sem, d0, d1]) rfl (by rw [HA0.out HUT.out (by trivial)]; exact ⟨p4, q4, c4, d4, rfl, HF5.out.1, HF5.out.2, HBF.out⟩)
      · have HA : Hid (unwA xs tr mk top = (([], []), 1)) := by show _ = _; unfold unwA unwB; rw [decide_eq_false hp]; simp
        rw [HA.out]
        clear hs hok hsp hwb HA hm HL
        by_cases h0 : top < 0
        · clear hp
          go_enter Try.func25, Try.ntmps25
          go_wp2_with fail
          refine HO.mono ?_
          rintro e w1 ⟨rfl, hb⟩
          rw [← HE0.out] at hb
          have HB1 : Hid (Below W0.heap.size W0 w1) := hb
          obtain ⟨s0, s1, s2⟩ := HSB.out w1 hb
          clear hb HO
          have HR : Hid _ := (HBX.out w1 HB1.out).put (.slice none 0 0) (.slice none 0 0)
          have HBF : Hid _ := HB0.out w1 (.slice none 0 0) (.slice none 0 0) HB1.out
          obtain ⟨b0, b1, b2⟩ := HBX.out w1 HB1.out
          clear HBX HB0
          go_wp2
          obtain ⟨d0, d1, _⟩ := HR.out
          exact bodyPost_ret (v := .tuple #[.agg #[.slice none 0 0, .slice none 0 0], .int .i64 1]) (by simp [results, Try.results25, go_sem, d0, d1]) rfl (StoreB.none 1 HBF.out)
        · have n4 : (xs.length : Int) < top := by omega
          clear hp
          go_enter Try.func25, Try.ntmps25
          go_wp2_with fail
          refine HO.mono ?_
          rintro e w1 ⟨rfl, hb⟩
          rw [← HE0.out] at hb
          have HB1 : Hid (Below W0.heap.size W0 w1) := hb
          obtain ⟨s0, s1, s2⟩ := HSB.out w1 hb
          clear hb HO
          have HR : Hid _ := (HBX.out w1 HB1.out).put (.slice none 0 0) (.slice none 0 0)
          have HBF : Hid _ := HB0.out w1 (.slice none 0 0) (.slice none 0 0) HB1.out
          obtain ⟨b0, b1, b2⟩ := HBX.out w1 HB1.out
          clear HBX HB0
          go_wp2
          obtain ⟨d0, d1, _⟩ := HR.out
          exact bodyPost_ret (v := .tuple #[.agg #[.slice none 0 0, .slice none 0 0], .int .i64 1]) (by simp [results, Try.results25, go_sem, d0, d1]) rfl (StoreB.none 1 HBF.out)
    · have HA : Hid (unwA xs tr mark top = (([], []), 1)) := by show _ = _; unfold unwA unwB; rw [decide_eq_false hm]; simp
      rw [HA.out]
      clear hs hok hsp hwb HA HL
      by_cases h0 : mark < 0
      · clear hm
        go_enter Try.func25, Try.ntmps25
        go_wp2_with fail
        refine HO.mono ?_
        rintro e w1 ⟨rfl, hb⟩
        rw [← HE0.out] at hb
        have HB1 : Hid (Below W0.heap.size W0 w1) := hb
        obtain ⟨s0, s1, s2⟩ := HSB.out w1 hb
        clear hb HO
        have HR : Hid _ := (HBX.out w1 HB1.out).put (.slice none 0 0) (.slice none 0 0)
        have HBF : Hid _ := HB0.out w1 (.slice none 0 0) (.slice none 0 0) HB1.out
        obtain ⟨b0, b1, b2⟩ := HBX.out w1 HB1.out
        clear HBX HB0
        go_wp2
        obtain ⟨d0, d1, _⟩ := HR.out
        exact bodyPost_ret (v := .tuple #[.agg #[.slice none 0 0, .slice none 0 0], .int .i64 1]) (by simp [results, Try.results25, go_sem, d0, d1]) rfl (StoreB.none 1 HBF.out)
      · have n4 : (tr.length : Int) < mark := by omega
        clear hm
        go_enter Try.func25, Try.ntmps25
        go_wp2_with fail
        refine HO.mono ?_
        rintro e w1 ⟨rfl, hb⟩
        rw [← HE0.out] at hb
        have HB1 : Hid (Below W0.heap.size W0 w1) := hb
        obtain ⟨s0, s1, s2⟩ := HSB.out w1 hb
        clear hb HO
        have HR : Hid _ := (HBX.out w1 HB1.out).put (.slice none 0 0) (.slice none 0 0)
        have HBF : Hid _ := HB0.out w1 (.slice none 0 0) (.slice none 0 0) HB1.out
        obtain ⟨b0, b1, b2⟩ := HBX.out w1 HB1.out
        clear HBX HB0
        go_wp2
        obtain ⟨d0, d1, _⟩ := HR.out
        exact bodyPost_ret (v := .tuple #[.agg #[.slice none 0 0, .slice none 0 0], .int .i64 1]) (by simp [results, Try.results25, go_sem, d0, d1]) rfl (StoreB.none 1 HBF.out)

end Go.Proofs.Ytfnmoaiejpkocaa

namespace Go.Proofs.Ytfnmoaiejpkocaa
open Go Go.RowKit Go.Maps
set_option linter.unusedVariables false

/-- What UnifyStore answers. -/
noncomputable def uniA (xs : List Cel) (tr : List Int) (a b : Cel) : (List Cel × List Int) × Int :=
  if (vsB xs tr a.1 a.2.1 a.2.2.length && vsB xs tr b.1 b.2.1 b.2.2.length) = true then ((uRun 20000 [(a, b)] (xs, tr)).1, (uRun 20000 [(a, b)] (xs, tr)).2.1) else (([], []), 1)
theorem uniA_bad {xs : List Cel} {tr : List Int} {a b : Cel} (h : (vsB xs tr a.1 a.2.1 a.2.2.length && vsB xs tr b.1 b.2.1 b.2.2.length) = false) : uniA xs tr a b = (([], []), 1) := by unfold uniA; rw [if_neg (by rw [h]; decide)]
theorem uniA_ok {xs : List Cel} {tr : List Int} {a b : Cel} (h : (vsB xs tr a.1 a.2.1 a.2.2.length && vsB xs tr b.1 b.2.1 b.2.2.length) = true) : uniA xs tr a b = ((uRun 20000 [(a, b)] (xs, tr)).1, (uRun 20000 [(a, b)] (xs, tr)).2.1) := by unfold uniA; rw [if_pos h]
theorem fit_len {st : USt} (h : Fit st) : ∀ i, i < st.1.length → (st.1.getD i Cel.none).2.2.length ≤ 100 := fun i hi => by
  have := (h.2.1 i hi).1
  generalize (st.1.getD i Cel.none).2.2.length = m at this ⊢
  unfold okW at this
  split at this
  · simp at this; omega
  · simp only [cellB, decide_eq_true_eq] at this; omega
theorem heap_four (w : World) (o0 o1 o2 o3 : Obj) : ((((w.alloc o0).alloc o1).alloc o2).alloc o3).heap[w.heap.size]? = some o0 ∧ ((((w.alloc o0).alloc o1).alloc o2).alloc o3).heap[w.heap.size + 1]? = some o1 ∧ ((((w.alloc o0).alloc o1).alloc o2).alloc o3).heap[w.heap.size + 2]? = some o2 ∧ ((((w.alloc o0).alloc o1).alloc o2).alloc o3).heap[w.heap.size + 3]? = some o3 := by
  refine ⟨?_, ?_, ?_, ?_⟩
  · rw [Below.heap_alloc _ _ _ (by simp <;> omega), Below.heap_alloc _ _ _ (by simp <;> omega), Below.heap_alloc _ _ _ (by simp)]; exact heap_alloc_new _ _
  · rw [Below.heap_alloc _ _ _ (by simp <;> omega), Below.heap_alloc _ _ _ (by simp)]
    have := heap_alloc_new (w.alloc o0) o1
    simpa using this
  · rw [Below.heap_alloc _ _ _ (by simp)]
    have := heap_alloc_new ((w.alloc o0).alloc o1) o2
    simpa using this
  · have := heap_alloc_new (((w.alloc o0).alloc o1).alloc o2) o3
    simpa using this

set_option maxHeartbeats 4000000 in
set_option maxRecDepth 100000 in
theorem specUni_any (p q pa pb : Option Addr) (c1 c2 ca cb : Nat) (a b : Cel) (xs : List Cel) (tr : List Int) (w : World) (hx : xs.length ≤ 1000000000) (hy : tr.length ≤ 1000000000) (hbx : ∀ i, i < xs.length → Byte (xs.getD i Cel.none).2.2) (hba : Byte a.2.2) (hbb : Byte b.2.2) (hc : CIn w p xs) (hi : IIn w q tr) (hia : BIn w pa a.2.2) (hib : BIn w pb b.2.2) :
    Calls Try.prog 30 #[.agg #[.slice p xs.length c1, .slice q tr.length c2], .agg #[.int .i64 a.1, .int .i64 a.2.1, .slice pa a.2.2.length ca], .agg #[.int .i64 b.1, .int .i64 b.2.1, .slice pb b.2.2.length cb]] w (StoreB (uniA xs tr a b) w) := by
  obtain ⟨a0, a1, ta⟩ := a
  obtain ⟨b0, b1, tb⟩ := b
  obtain ⟨W0, eW0⟩ : ∃ W0, W0 = (((w.alloc (.cells #[.slice p xs.length c1, .slice q tr.length c2] 36)).alloc (.cells #[.int .i64 a0, .int .i64 a1, .slice pa ta.length ca] 31)).alloc (.cells #[.int .i64 b0, .int .i64 b1, .slice pb tb.length cb] 31)).alloc (.cells #[.slice none 0 0, .slice none 0 0] 36) := ⟨_, rfl⟩
  have hb0 : Below w.heap.size w W0 := by
    rw [eW0]; exact ((((Below.refl _ _).alloc (Nat.le_refl _) _).alloc (by simp) _).alloc (by simp; omega) _).alloc (by simp; omega) _
  have k0 := (heap_four w (.cells #[.slice p xs.length c1, .slice q tr.length c2] 36) (.cells #[.int .i64 a0, .int .i64 a1, .slice pa ta.length ca] 31) (.cells #[.int .i64 b0, .int .i64 b1, .slice pb tb.length cb] 31) (.cells #[.slice none 0 0, .slice none 0 0] 36))
  rw [← eW0] at k0
  obtain ⟨k0, k1, k2, k3⟩ := k0
  have hz0 : W0.heap.size = w.heap.size + 1 + 1 + 1 + 1 := by rw [eW0]; simp
  have HSB : Hid (∀ W, Below W0.heap.size W0 W → Box2 W w.heap.size (.slice p xs.length c1) (.slice q tr.length c2)) := fun W hW => Box2.of_block ((hW.block w.heap.size (by omega)).trans k0)
  have HCA : Hid (∀ W, Below W0.heap.size W0 W → Box3 W (w.heap.size + 1) (.int .i64 a0) (.int .i64 a1) (.slice pa ta.length ca)) := fun W hW => Box3.of_block ((hW.block (w.heap.size + 1) (by omega)).trans k1)
  have HCB : Hid (∀ W, Below W0.heap.size W0 W → Box3 W (w.heap.size + 1 + 1) (.int .i64 b0) (.int .i64 b1) (.slice pb tb.length cb)) := fun W hW => Box3.of_block ((hW.block (w.heap.size + 1 + 1) (by omega)).trans k2)
  have HBX : Hid (∀ W, Below W0.heap.size W0 W → Box2 W (w.heap.size + 1 + 1 + 1) (.slice none 0 0) (.slice none 0 0)) := fun W hW => Box2.of_block ((hW.block (w.heap.size + 1 + 1 + 1) (by omega)).trans k3)
  have HOA := specVS_any p q pa c1 c2 ca a0 a1 ta xs tr W0 hx hy (hc.below hb0) (hi.below hb0)
  have HOB : Hid (∀ W, Below W0.heap.size W0 W → Calls Try.prog 38 #[.agg #[.slice p xs.length c1, .slice q tr.length c2], .agg #[.int .i64 b0, .int .i64 b1, .slice pb tb.length cb]] W fun e w' => e = .returned (.bool (vsB xs tr b0 b1 tb.length)) ∧ Below W.heap.size W w') := fun W hW => specVS_any p q pb c1 c2 cb b0 b1 tb xs tr W hx hy (hc.below (Below.on hb0 hW)) (hi.below (Below.on hb0 hW))
  have HL : Hid (∀ W, Below W0.heap.size W0 W → CIn W p xs ∧ IIn W q tr ∧ BIn W pa ta ∧ BIn W pb tb) := fun W hW => by
    have hb := Below.on hb0 hW
    exact ⟨hc.below hb, hi.below hb, hia.below hb, hib.below hb⟩
  have HB0 : Hid (∀ W v0 v1, Below W0.heap.size W0 W → Below w.heap.size w ((W.setCell ⟨w.heap.size + 1 + 1 + 1, 0, none⟩ v0).setCell ⟨w.heap.size + 1 + 1 + 1, 1, none⟩ v1)) := fun W v0 v1 hW => below_put2 (Below.on hb0 hW) (by omega) _ _
  have HE0 : Hid _ := eW0
  have HZ0 : Hid _ := hz0
  clear hc hi hia hib k0 k1 k2 k3 hz0 hb0
  rw [eW0] at HOA
  clear eW0
  cases hva : vsB xs tr a0 a1 ta.length
  · rw [uniA_bad (a := (a0, a1, ta)) (b := (b0, b1, tb)) (by simp [hva])]
    rw [hva] at HOA
    clear hva HL HCB HCA HOB hbx hba hbb
    go_enter Try.func30, Try.ntmps30
    go_wp2_with fail
    refine HOA.mono ?_
    rintro e w1 ⟨rfl, hb⟩
    rw [← HE0.out] at hb
    have HB1 : Hid (Below W0.heap.size W0 w1) := hb
    clear hb HOA
    have HR : Hid _ := (HBX.out w1 HB1.out).put (.slice none 0 0) (.slice none 0 0)
    have HBF : Hid _ := HB0.out w1 (.slice none 0 0) (.slice none 0 0) HB1.out
    obtain ⟨x0, x1, x2⟩ := HBX.out w1 HB1.out
    clear HBX HB0 HSB
    go_wp2
    obtain ⟨d0, d1, _⟩ := HR.out
    exact bodyPost_ret (v := .tuple #[.agg #[.slice none 0 0, .slice none 0 0], .int .i64 1]) (by simp [results, Try.results30, go_sem, d0, d1]) rfl (StoreB.none 1 HBF.out)
  · rw [hva] at HOA
    cases hvb : vsB xs tr b0 b1 tb.length
    · rw [uniA_bad (a := (a0, a1, ta)) (b := (b0, b1, tb)) (by simp [hvb])]
      rw [hvb] at HOB
      clear hva hvb HL HCA hbx hba hbb
      go_enter Try.func30, Try.ntmps30
      go_wp2_with fail
      refine HOA.mono ?_
      rintro e w1 ⟨rfl, hb⟩
      rw [← HE0.out] at hb
      have HB1 : Hid (Below W0.heap.size W0 w1) := hb
      have hcall := HOB.out w1 hb
      obtain ⟨s0, s1, s2⟩ := HSB.out w1 hb
      obtain ⟨u0, u1, u2, u3⟩ := HCB.out w1 hb
      clear hb HOA HOB
      go_wp2_with fail
      refine hcall.mono ?_
      rintro e w2 ⟨rfl, hb⟩
      have HB2 : Hid (Below W0.heap.size W0 w2) := Below.on HB1.out hb
      clear hb hcall s0 s1 s2 u0 u1 u2 u3
      have HR : Hid _ := (HBX.out w2 HB2.out).put (.slice none 0 0) (.slice none 0 0)
      have HBF : Hid _ := HB0.out w2 (.slice none 0 0) (.slice none 0 0) HB2.out
      obtain ⟨x0, x1, x2⟩ := HBX.out w2 HB2.out
      clear HBX HB0 HSB
      go_wp2
      obtain ⟨d0, d1, _⟩ := HR.out
      exact bodyPost_ret (v := .tuple #[.agg #[.slice none 0 0, .slice none 0 0], .int .i64 1]) (by simp [results, Try.results30, go_sem, d0, d1]) rfl (StoreB.none 1 HBF.out)
    · have HUA : Hid (uniA xs tr (a0, a1, ta) (b0, b1, tb) = ((uRun 20000 [((a0, a1, ta), (b0, b1, tb))] (xs, tr)).1, (uRun 20000 [((a0, a1, ta), (b0, b1, tb))] (xs, tr)).2.1)) := uniA_ok (a := (a0, a1, ta)) (b := (b0, b1, tb)) (by simp [hva, hvb])
      rw [hvb] at HOB
      obtain ⟨g, hwa, ho, hoa, htl⟩ := vsB_parts (c := (a0, a1, ta)) hva
      obtain ⟨_, hwb, _, hob, _⟩ := vsB_parts (c := (b0, b1, tb)) hvb
      have hxl := g.shp.len
      have hfit : Fit (xs, tr) := ⟨g, fun i hi => ⟨ho i hi, hbx i hi⟩, htl⟩
      have hka : WOk xs (a0, a1, ta) := ⟨hwa, hoa, hba⟩
      have hkb : WOk xs (b0, b1, tb) := ⟨hwb, hob, hbb⟩
      obtain ⟨hF, _, _⟩ := uRun_fit 20000 [((a0, a1, ta), (b0, b1, tb))] (xs, tr) hfit (fun p hp => by rw [List.mem_singleton.1 hp]; exact ⟨hka, hkb⟩)
      have HOP : Hid (∀ W, Below W0.heap.size W0 W → Calls Try.prog 40 #[.agg #[.slice p xs.length c1, .slice q tr.length c2]] W fun e w' => ∃ h, e = .returned (.pointer (some ⟨h, 0, none⟩)) ∧ SHp W w' h xs tr 0 ∧ Below W.heap.size W w') := fun W hW => l10open_any p q c1 c2 xs tr W hxl htl (HL.out W hW).1 (HL.out W hW).2.1
      have HUN : Hid (∀ V W h, Below W0.heap.size W0 V → SHp V W h xs tr 0 → Calls Try.prog 66 #[.pointer (some ⟨h, 0, none⟩), .agg #[.int .i64 a0, .int .i64 a1, .slice pa ta.length ca], .agg #[.int .i64 b0, .int .i64 b1, .slice pb tb.length cb]] W (UniOut V W h (uRun 20000 [((a0, a1, ta), (b0, b1, tb))] (xs, tr)))) := fun V W h hV H => l10unify_any V h 20000 (a0, a1, ta) (b0, b1, tb) pa pb ca cb (xs, tr) W (Nat.le_refl _) hfit hka hkb (HL.out V hV).2.2.1 (HL.out V hV).2.2.2 (by simpa using H)
      have HCL : Hid (∀ V W h k, SHp V W h (uRun 20000 [((a0, a1, ta), (b0, b1, tb))] (xs, tr)).1.1 (uRun 20000 [((a0, a1, ta), (b0, b1, tb))] (xs, tr)).1.2 k → Calls Try.prog 56 #[.pointer (some ⟨h, 0, none⟩)] W (StoreR (uRun 20000 [((a0, a1, ta), (b0, b1, tb))] (xs, tr)).1.1 (uRun 20000 [((a0, a1, ta), (b0, b1, tb))] (xs, tr)).1.2 W)) := fun V W h k H => l10close_any V h _ _ k W hF.1.shp.len hF.2.2 (fit_len hF) H
      generalize uRun 20000 [((a0, a1, ta), (b0, b1, tb))] (xs, tr) = R at HUN HCL HUA
      generalize uniA xs tr (a0, a1, ta) (b0, b1, tb) = AA at HUA ⊢
      clear hva hvb g hwa ho hoa htl hwb hob hxl hfit hka hkb hF hbx hba hbb HL
      obtain ⟨⟨X, T⟩, code, m⟩ := R
      simp only at HUA HCL
      go_enter Try.func30, Try.ntmps30
      go_wp2_with fail
      refine HOA.mono ?_
      rintro e w1 ⟨rfl, hb⟩
      rw [← HE0.out] at hb
      have HB1 : Hid (Below W0.heap.size W0 w1) := hb
      have hcall := HOB.out w1 hb
      obtain ⟨s0, s1, s2⟩ := HSB.out w1 hb
      obtain ⟨u0, u1, u2, u3⟩ := HCB.out w1 hb
      clear hb HOA HOB
      go_wp2_with fail
      refine hcall.mono ?_
      rintro e w2 ⟨rfl, hb⟩
      have HB2 : Hid (Below W0.heap.size W0 w2) := Below.on HB1.out hb
      clear hb hcall s0 s1 s2 u0 u1 u2 u3
      obtain ⟨s0, s1, s2⟩ := HSB.out w2 HB2.out
      have hcall := HOP.out w2 HB2.out
      go_wp2_with fail
      refine hcall.mono ?_
      rintro e w3 ⟨h, rfl, hsh, hb⟩
      have HB3 : Hid (Below W0.heap.size W0 w3) := Below.on HB2.out hb
      have hcall2 := HUN.out w2 w3 h HB2.out hsh
      clear hb hcall s0 s1 s2 hsh HOP HUN
      obtain ⟨v0, v1, v2, v3⟩ := HCA.out w3 HB3.out
      obtain ⟨u0, u1, u2, u3⟩ := HCB.out w3 HB3.out
      go_wp2_with fail
      refine hcall2.mono ?_
      rintro e w4 ⟨rfl, hs4, _⟩
      have HB4 : Hid (Below W0.heap.size W0 w4) := by obtain ⟨_, _, _, _, _, _, _, _, hb⟩ := id hs4; exact Below.on HB2.out hb
      have hcall3 := HCL.out w2 w4 h _ hs4
      clear hs4 hcall2 v0 v1 v2 v3 u0 u1 u2 u3 HCL
      go_wp2_with fail
      refine hcall3.mono ?_
      rintro e w6 ⟨p4, q4, c4, d4, rfl, hc4, hi4, hb4⟩
      have HB6 : Hid (Below W0.heap.size W0 w6) := Below.on HB4.out hb4
      have hz3 : w.heap.size + 1 + 1 + 1 + 1 ≤ w4.heap.size := by have := HB4.out.size; have h2 := HZ0.out; omega
      have HR : Hid _ := (HBX.out w6 HB6.out).put (.slice p4 X.length c4) (.slice q4 T.length d4)
      have HBF : Hid _ := HB0.out w6 (.slice p4 X.length c4) (.slice q4 T.length d4) HB6.out
      obtain ⟨x0, x1, x2⟩ := HBX.out w6 HB6.out
      have HF5 : Hid (OwnC ((w6.setCell ⟨w.heap.size + 1 + 1 + 1, 0, none⟩ (.slice p4 X.length c4)).setCell ⟨w.heap.size + 1 + 1 + 1, 1, none⟩ (.slice q4 T.length d4)) w.heap.size p4 X.length c4 X ∧ OwnI ((w6.setCell ⟨w.heap.size + 1 + 1 + 1, 0, none⟩ (.slice p4 X.length c4)).setCell ⟨w.heap.size + 1 + 1 + 1, 1, none⟩ (.slice q4 T.length d4)) w.heap.size 3 q4 T.length d4 T) := ⟨((hc4.set (by simp; omega) _).set (by simp; omega) _).mono (by omega), ((hi4.set (by simp; omega) _).set (by simp; omega) _).mono (by omega)⟩
      clear HBX HB0 hc4 hi4 hb4 hcall3 HSB HCA HCB
      go_wp2
      obtain ⟨d0, d1, _⟩ := HR.out
      exact bodyPost_ret (v := .tuple #[.agg #[.slice p4 X.length c4, .slice q4 T.length d4], .int .i64 code]) (by simp [results, Try.results30, go_sem, d0, d1]) rfl (by rw [HUA.out]; exact ⟨p4, q4, c4, d4, rfl, HF5.out.1, HF5.out.2, HBF.out⟩)

end Go.Proofs.Ytfnmoaiejpkocaa

namespace Go.Proofs.Ytfnmoaiejpkocaa
open Go Go.RowKit Go.Maps
set_option linter.unusedVariables false

/-- A store and a code, as they are answered: the trail lies ahead of M, the cells behind. -/
def StoreA (A : (List Cel × List Int) × Int) (w : World) (e : Ending) (w' : World) : Prop :=
  ∃ p q c1 c2 M, e = .returned (.tuple #[.agg #[.slice p A.1.1.length c1, .slice q A.1.2.length c2], .int .i64 A.2]) ∧ OwnIU w' w.heap.size M q A.1.2.length c2 A.1.2 ∧ OwnCU w' M w'.heap.size p A.1.1.length c1 A.1.1 ∧ w.heap.size ≤ M ∧ M ≤ w'.heap.size ∧ Below w.heap.size w w'
theorem OwnCU.nil (w : World) (B U : Nat) : OwnCU w B U none 0 0 [] := ⟨rfl, [], rfl, World.ownsRow_nil _ _ _ _, fun i h => absurd h (Nat.not_lt_zero _), ⟨fun i h => absurd h (Nat.not_lt_zero _), fun i j h => absurd h (Nat.not_lt_zero _)⟩, (fun k e => by cases e), fun i h => absurd h (Nat.not_lt_zero _)⟩
theorem StoreA.none {w w' : World} (code : Int) (hb : Below w.heap.size w w') : StoreA (([], []), code) w (.returned (.tuple #[.agg #[.slice none 0 0, .slice none 0 0], .int .i64 code])) w' :=
  ⟨Option.none, Option.none, 0, 0, w.heap.size, rfl, ⟨OwnI.nil _ _ _, fun g e => by cases e⟩, OwnCU.nil _ _ _, Nat.le_refl _, hb.size, hb⟩

set_option maxHeartbeats 4000000 in
set_option maxRecDepth 100000 in
theorem implUnwind_any (p q : Option Addr) (c1 c2 : Nat) (mark top : Int) (xs : List Cel) (tr : List Int) (w : World) (hx : xs.length ≤ 1000000000) (hy : tr.length ≤ 1000000000) (hbx : ∀ a, a < xs.length → Byte (xs.getD a Cel.none).2.2) (hc : CIn w p xs) (hi : IIn w q tr) :
    Calls Try.prog 26 #[.agg #[.slice p xs.length c1, .slice q tr.length c2], .int .i64 mark, .int .i64 top] w (StoreA (unwA xs tr mark top) w) := by
  obtain ⟨W0, eW0⟩ : ∃ W0, W0 = (w.alloc (.cells #[.slice p xs.length c1, .slice q tr.length c2] 36)).alloc (.cells #[.slice none 0 0, .slice none 0 0] 36) := ⟨_, rfl⟩
  have hb0 : Below w.heap.size w W0 := by rw [eW0]; exact ((Below.refl _ _).alloc (Nat.le_refl _) _).alloc (by simp) _
  have hz0 : W0.heap.size = w.heap.size + 1 + 1 := by rw [eW0]; simp
  have k1 : W0.heap[w.heap.size + 1]? = some (.cells #[.slice none 0 0, .slice none 0 0] 36) := by
    rw [eW0]
    have := heap_alloc_new (w.alloc (.cells #[.slice p xs.length c1, .slice q tr.length c2] 36)) (.cells #[.slice none 0 0, .slice none 0 0] 36)
    simpa using this
  have HBX : Hid (∀ W, Below W0.heap.size W0 W → Box2 W (w.heap.size + 1) (.slice none 0 0) (.slice none 0 0)) := fun W hW => Box2.of_block ((hW.block (w.heap.size + 1) (by omega)).trans k1)
  have HO := heapOf_any p q c1 c2 xs tr W0 hx hy (hc.below hb0) (hi.below hb0)
  have HB0 : Hid (∀ W v0 v1, Below W0.heap.size W0 W → Below w.heap.size w ((W.setCell ⟨w.heap.size + 1, 0, none⟩ v0).setCell ⟨w.heap.size + 1, 1, none⟩ v1)) := fun W v0 v1 hW => below_put2 (Below.on hb0 hW) (by omega) _ _
  have HE0 : Hid _ := eW0
  have HZ0 : Hid _ := hz0
  have HBY : Hid _ := hbx
  clear hc hi hb0 k1 hbx hz0
  cases hs : storeB xs tr
  · have HA : Hid (unwA xs tr mark top = (([], []), 1)) := by show _ = _; unfold unwA unwB; rw [hs]; simp
    rw [HA.out]
    unfold HeapOut at HO
    rw [hs, eW0] at HO
    clear hs HA eW0
    go_enter Try.func26, Try.ntmps26
    go_wp2_with fail
    refine HO.mono ?_
    rintro e w1 ⟨v, rfl, hb, _⟩
    rw [← HE0.out] at hb
    have HR : Hid _ := (HBX.out w1 hb).put (.slice none 0 0) (.slice none 0 0)
    have HBF : Hid _ := HB0.out w1 (.slice none 0 0) (.slice none 0 0) hb
    obtain ⟨b0, b1, b2⟩ := HBX.out w1 hb
    clear hb HO HBX HB0
    go_wp2
    obtain ⟨d0, d1, _⟩ := HR.out
    exact bodyPost_ret (v := .tuple #[.agg #[.slice none 0 0, .slice none 0 0], .int .i64 1]) (by simp [results, Try.results26, go_sem, d0, d1]) rfl (StoreA.none 1 HBF.out)
  · unfold HeapOut at HO
    rw [hs, eW0] at HO
    obtain ⟨hl, ht, hsp, hwb, _⟩ := storeB_parts hs
    have hok := storeB_ok hs
    have hkn : Knds xs := hsp.knds
    have HFU : Hid (∀ a, a < xs.length → kndA xs a = 3 → 1 ≤ numA xs a ∧ numA xs a ≤ 20) := fun a ha h3 => ⟨(hsp.funs a ha h3).1, (hsp.funs a ha h3).2.1⟩
    by_cases hm : 0 ≤ mark ∧ mark ≤ tr.length
    · by_cases hp : 0 ≤ top ∧ top ≤ xs.length
      · obtain ⟨mk, rfl⟩ : ∃ k : Nat, mark = k := ⟨mark.toNat, by omega⟩
        obtain ⟨tp, rfl⟩ : ∃ k : Nat, top = k := ⟨top.toNat, by omega⟩
        have hmk : mk ≤ tr.length := by omega
        have htp : tp ≤ xs.length := by omega
        have n1 : ¬ ((mk : Int) < 0) := by omega
        have n2 : ¬ ((tr.length : Int) < mk) := by omega
        have n3 : ¬ ((tp : Int) < 0) := by omega
        have n4 : ¬ ((xs.length : Int) < tp) := by omega
        have HWH : Hid (∀ W h m lk, HeapO W h xs tr m lk → ∀ cw pw, W.cell? ⟨h, 0, none⟩ = some (.slice pw xs.length cw) → Calls Try.prog 58 #[.slice pw tp cw] W fun e w' => e = .returned (.bool (wholeF 0 (xs.take tp))) ∧ Below W.heap.size W w') := fun W h m lk H cw pw hcell => by
          have hlen : (xs.take tp).length = tp := by rw [List.length_take]; omega
          have := isWhole_any pw cw (xs.take tp) W (by omega) (fun a ha => by rw [hlen] at ha; have := hkn a (by omega); unfold kndA at this ⊢; rw [take_at _ _ _ ha]; exact this) (fun a ha h3 => by
            rw [hlen] at ha
            have e := take_at xs tp a ha
            unfold kndA at h3; rw [e] at h3
            have := HFU.out a (by omega) h3
            unfold numA at this ⊢; rw [e]; exact this) (fun hn => by
            obtain ⟨pw', cw', pt', ct', e0, _, hw, _⟩ := H.at
            rw [hcell] at e0
            simp only [Option.some.injEq, Value.slice.injEq, true_and] at e0
            obtain ⟨rfl, rfl⟩ := e0
            obtain ⟨g, rfl, hcs⟩ := hw (by rw [hlen] at hn; omega)
            exact ⟨g, rfl, fun i hi => by rw [hlen] at hi; rw [hcs i (by omega), take_at _ _ _ hi]⟩)
          rw [hlen] at this
          exact this
        clear hm hp
        cases hwf : wholeF 0 (xs.take tp)
        · have HA : Hid (unwA xs tr mk tp = (([], []), 1)) := by show _ = _; unfold unwA unwB; rw [if_neg (by simp [hwf])]
          rw [HA.out]
          rw [hwf] at HWH
          clear hwf HA eW0 hs hok hsp hwb hkn HFU
          go_enter Try.func26, Try.ntmps26
          go_wp2_with fail
          refine HO.mono ?_
          rintro e w1 ⟨v, rfl, hb, hh⟩
          obtain ⟨h, m, rfl, hho, _, hmw⟩ := hh (by trivial)
          rw [← HE0.out] at hb
          obtain ⟨pw, cw, pt, ct, hblk, hrw, _, hmh⟩ := id hho
          have hcw : xs.length ≤ cw := by
            rcases hrw.2 with ⟨_, h'⟩ | ⟨g, cap, cur, hv, _, _, hc, _⟩
            · omega
            · simp only [Value.slice.injEq] at hv; omega
          have c0 : w1.cell? ⟨h, 0, none⟩ = some (.slice pw xs.length cw) := by simp [World.cell?, hblk]
          have c1' : w1.cell? ⟨h, 1, none⟩ = some (.slice pt tr.length ct) := by simp [World.cell?, hblk]
          have HW1 := HWH.out w1 h m 0 hho cw pw c0
          have HB1 : Hid (Below W0.heap.size W0 w1) := hb
          clear hb HO hh hho hblk HWH hrw
          go_wp2_with fail
          refine HW1.mono ?_
          rintro e w2 ⟨rfl, hb2⟩
          have HB2 : Hid (Below W0.heap.size W0 w2) := Below.on HB1.out hb2
          clear hb2 HW1 c0 c1'
          have HR : Hid _ := (HBX.out w2 HB2.out).put (.slice none 0 0) (.slice none 0 0)
          have HBF : Hid _ := HB0.out w2 (.slice none 0 0) (.slice none 0 0) HB2.out
          obtain ⟨b0, b1, b2⟩ := HBX.out w2 HB2.out
          clear HBX HB0
          go_wp2
          obtain ⟨d0, d1, _⟩ := HR.out
          exact bodyPost_ret (v := .tuple #[.agg #[.slice none 0 0, .slice none 0 0], .int .i64 1]) (by simp [results, Try.results26, go_sem, d0, d1]) rfl (StoreA.none 1 HBF.out)
        · have hlx : (unwX xs tr mk tp).length = tp := by unfold unwX; rw [List.length_take, unwC_len]; simp; omega
          have hlt : (unwT tr mk).length = mk := by unfold unwT; rw [List.length_take]; simp; omega
          have hokX : ∀ a, a < (unwX xs tr mk tp).length → okW ((unwX xs tr mk tp).getD a Cel.none).1 ((unwX xs tr mk tp).getD a Cel.none).2.1 ((unwX xs tr mk tp).getD a Cel.none).2.2.length = true := fun a ha => unwX_all (P := fun c => okW c.1 c.2.1 c.2.2.length = true) hok (fun i hi => okW_var i (by omega)) a ha
          have hbyX : ∀ a, a < (unwX xs tr mk tp).length → Byte ((unwX xs tr mk tp).getD a Cel.none).2.2 := fun a ha => unwX_all (P := fun c => Byte c.2.2) HBY.out (fun i hi x hx => by cases hx) a ha
          have HES : Hid _ := store_heap (xs := unwX xs tr mk tp) (tr := unwT tr mk) (by omega) (by omega) hokX
          have HVA : Hid (∀ W h, HeapAt W h (unwX xs tr mk tp) (unwT tr mk) → Calls Try.prog 60 #[.pointer (some ⟨h, 0, none⟩)] W fun e w' => e = .returned (.bool (heapB (unwX xs tr mk tp) (unwT tr mk))) ∧ Below W.heap.size W w') := fun W h H => isValid_any h _ _ W (by omega) (by omega) hokX H
          have HST : Hid (∀ W h, HeapAt W h (unwX xs tr mk tp) (unwT tr mk) → Calls Try.prog 61 #[.pointer (some ⟨h, 0, none⟩)] W (StoreOut (unwX xs tr mk tp) (unwT tr mk) W)) := fun W h H => store_any h _ _ W (by omega) (by omega) hokX hbyX H
          have HUN : Hid (∀ W h m lk, HeapO W h xs tr m lk → Calls Try.prog 59 #[.pointer (some ⟨h, 0, none⟩), .int .i64 mk, .int .i64 tp] W fun e w' => e = .returned (.tuple #[]) ∧ HeapAt w' h (unwX xs tr mk tp) (unwT tr mk) ∧ Below h W w') := fun W h m lk H => unwind_any h xs tr m lk mk tp W hl ht hmk htp hwb H
          have hub : unwB xs tr mk tp = true := by unfold unwB; rw [hs]; simp [hwf]; omega
          rw [hwf] at HWH
          cases hsx : storeB (unwX xs tr mk tp) (unwT tr mk)
          · have HA : Hid (unwA xs tr mk tp = (([], []), 4)) := by show _ = _; unfold unwA; rw [if_pos hub, hsx]; simp
            rw [HA.out]
            have HES' : Hid (heapB (unwX xs tr mk tp) (unwT tr mk) = false) := by show _ = _; rw [← HES.out]; exact hsx
            rw [HES'.out] at HVA
            clear hwf HA eW0 hs hok hsp hwb hkn HFU hokX hbyX HES HES' hsx hub hlx hlt HST
            generalize unwX xs tr mk tp = X at HVA HUN
            generalize unwT tr mk = T at HVA HUN
            go_enter Try.func26, Try.ntmps26
            go_wp2_with fail
            refine HO.mono ?_
            rintro e w1 ⟨v, rfl, hb, hh⟩
            obtain ⟨h, m, rfl, hho, _, hmw⟩ := hh (by trivial)
            rw [← HE0.out] at hb hmw
            obtain ⟨pw, cw, pt, ct, hblk, hrw, _, hmh⟩ := id hho
            have hcw : xs.length ≤ cw := by
              rcases hrw.2 with ⟨_, h'⟩ | ⟨g, cap, cur, hv, _, _, hc, _⟩
              · omega
              · simp only [Value.slice.injEq] at hv; omega
            have c0 : w1.cell? ⟨h, 0, none⟩ = some (.slice pw xs.length cw) := by simp [World.cell?, hblk]
            have c1' : w1.cell? ⟨h, 1, none⟩ = some (.slice pt tr.length ct) := by simp [World.cell?, hblk]
            have HW1 := HWH.out w1 h m 0 hho cw pw c0
            have HB1 : Hid (Below W0.heap.size W0 w1) := hb
            have HHO : Hid (HeapO w1 h xs tr m 0) := hho
            have hhz : W0.heap.size ≤ h := by omega
            clear hb HO hh hho hblk HWH hrw hmh
            go_wp2_with fail
            refine HW1.mono ?_
            rintro e w2 ⟨rfl, hb2⟩
            have HU2 := HUN.out w2 h m 0 (HHO.out.below hb2)
            have HB2 : Hid (Below W0.heap.size W0 w2) := Below.on HB1.out hb2
            clear hb2 HW1 c0 c1' HUN HHO
            go_wp2_with fail
            refine HU2.mono ?_
            rintro e w3 ⟨rfl, hat, hb3⟩
            have HAT : Hid (HeapAt w3 h X T) := hat
            have HB3 : Hid (Below W0.heap.size W0 w3) := HB2.out.trans (hb3.mono hhz)
            clear hat hb3 HU2
            go_wp2_with fail
            refine (HVA.out w3 h HAT.out).mono ?_
            rintro e w4 ⟨rfl, hb4⟩
            have HB4 : Hid (Below W0.heap.size W0 w4) := Below.on HB3.out hb4
            clear hb4 HVA HAT
            have HR : Hid _ := (HBX.out w4 HB4.out).put (.slice none 0 0) (.slice none 0 0)
            have HBF : Hid _ := HB0.out w4 (.slice none 0 0) (.slice none 0 0) HB4.out
            obtain ⟨b0, b1, b2⟩ := HBX.out w4 HB4.out
            clear HBX HB0
            go_wp2
            obtain ⟨d0, d1, _⟩ := HR.out
            exact bodyPost_ret (v := .tuple #[.agg #[.slice none 0 0, .slice none 0 0], .int .i64 4]) (by simp [results, Try.results26, go_sem, d0, d1]) rfl (StoreA.none 4 HBF.out)
          · have HA : Hid (unwA xs tr mk tp = ((unwX xs tr mk tp, unwT tr mk), 0)) := by show _ = _; unfold unwA; rw [if_pos hub, if_pos hsx]
            rw [HA.out]
            have HES' : Hid (heapB (unwX xs tr mk tp) (unwT tr mk) = true) := by show _ = _; rw [← HES.out]; exact hsx
            rw [HES'.out] at HVA
            clear hwf HA eW0 hs hok hsp hwb hkn HFU hokX hbyX HES HES' hsx hub hlx hlt
            generalize unwX xs tr mk tp = X at HVA HUN HST ⊢
            generalize unwT tr mk = T at HVA HUN HST ⊢
            go_enter Try.func26, Try.ntmps26
            go_wp2_with fail
            refine HO.mono ?_
            rintro e w1 ⟨v, rfl, hb, hh⟩
            obtain ⟨h, m, rfl, hho, _, hmw⟩ := hh (by trivial)
            rw [← HE0.out] at hb hmw
            obtain ⟨pw, cw, pt, ct, hblk, hrw, _, hmh⟩ := id hho
            have hcw : xs.length ≤ cw := by
              rcases hrw.2 with ⟨_, h'⟩ | ⟨g, cap, cur, hv, _, _, hc, _⟩
              · omega
              · simp only [Value.slice.injEq] at hv; omega
            have c0 : w1.cell? ⟨h, 0, none⟩ = some (.slice pw xs.length cw) := by simp [World.cell?, hblk]
            have c1' : w1.cell? ⟨h, 1, none⟩ = some (.slice pt tr.length ct) := by simp [World.cell?, hblk]
            have HW1 := HWH.out w1 h m 0 hho cw pw c0
            have HB1 : Hid (Below W0.heap.size W0 w1) := hb
            have HHO : Hid (HeapO w1 h xs tr m 0) := hho
            have hhz : W0.heap.size ≤ h := by omega
            clear hb HO hh hho hblk HWH hrw hmh
            go_wp2_with fail
            refine HW1.mono ?_
            rintro e w2 ⟨rfl, hb2⟩
            have HU2 := HUN.out w2 h m 0 (HHO.out.below hb2)
            have HB2 : Hid (Below W0.heap.size W0 w2) := Below.on HB1.out hb2
            clear hb2 HW1 c0 c1' HUN HHO
            go_wp2_with fail
            refine HU2.mono ?_
            rintro e w3 ⟨rfl, hat, hb3⟩
            have HAT : Hid (HeapAt w3 h X T) := hat
            have HB3 : Hid (Below W0.heap.size W0 w3) := HB2.out.trans (hb3.mono hhz)
            clear hat hb3 HU2
            go_wp2_with fail
            refine (HVA.out w3 h HAT.out).mono ?_
            rintro e w4 ⟨rfl, hb4⟩
            have HB4 : Hid (Below W0.heap.size W0 w4) := Below.on HB3.out hb4
            have HS4 : Hid _ := HST.out w4 h (HAT.out.below hb4)
            clear hb4 HVA HAT HST
            go_wp2_with fail
            refine Calls.mono HS4.out ?_
            rintro e w5 ⟨p5, q5, c5, d5, M, rfl, hoi, hoc, hM1, hM2, hb5⟩
            have HB5 : Hid (Below W0.heap.size W0 w5) := Below.on HB4.out hb5
            have HR : Hid _ := (HBX.out w5 HB5.out).put (.slice p5 X.length c5) (.slice q5 T.length d5)
            have HBF : Hid _ := HB0.out w5 (.slice p5 X.length c5) (.slice q5 T.length d5) HB5.out
            have HF : Hid (StoreA ((X, T), 0) w (.returned (.tuple #[.agg #[.slice p5 X.length c5, .slice q5 T.length d5], .int .i64 0])) ((w5.setCell ⟨w.heap.size + 1, 0, none⟩ (.slice p5 X.length c5)).setCell ⟨w.heap.size + 1, 1, none⟩ (.slice q5 T.length d5))) := by
              have hz := HZ0.out
              have h4 := HB4.out.size
              refine ⟨p5, q5, c5, d5, M, rfl, ⟨((hoi.1.set (by simp; omega) _).set (by simp; omega) _).mono (by omega), hoi.2⟩, ?_, by omega, by simpa using hM2, HBF.out⟩
              have := (hoc.set (a := ⟨w.heap.size + 1, 0, none⟩) (by simp; omega) (.slice p5 X.length c5)).set (a := ⟨w.heap.size + 1, 1, none⟩) (by simp; omega) (.slice q5 T.length d5)
              simpa using this
            obtain ⟨b0, b1, b2⟩ := HBX.out w5 HB5.out
            clear hoi hoc hM1 hM2 hb5 HS4 HBX HB0
            go_wp2
            obtain ⟨d0, d1, _⟩ := HR.out
            exact bodyPost_ret (v := .tuple #[.agg #[.slice p5 X.length c5, .slice q5 T.length d5], .int .i64 0]) (by simp [results, Try.results26, go_sem, d0, d1]) rfl HF.out
      · have HA : Hid (unwA xs tr mark top = (([], []), 1)) := by show _ = _; unfold unwA unwB; rw [decide_eq_false hp]; simp
        rw [HA.out]
        obtain ⟨mk, rfl⟩ : ∃ k : Nat, mark = k := ⟨mark.toNat, by omega⟩
        have n1 : ¬ ((mk : Int) < 0) := by omega
        have n2 : ¬ ((tr.length : Int) < mk) := by omega
        clear hs hok hsp hwb hkn HFU HA eW0 hm
        by_cases h0 : top < 0
        · clear hp
          go_enter Try.func26, Try.ntmps26
          go_wp2_with fail
          refine HO.mono ?_
          rintro e w1 ⟨v, rfl, hb, hh⟩
          obtain ⟨h, m, rfl, hho, _, hmw⟩ := hh (by trivial)
          rw [← HE0.out] at hb
          obtain ⟨pw, cw, pt, ct, hblk, hrw, _, hmh⟩ := id hho
          have hcw : xs.length ≤ cw := by
            rcases hrw.2 with ⟨_, h'⟩ | ⟨g, cap, cur, hv, _, _, hc, _⟩
            · omega
            · simp only [Value.slice.injEq] at hv; omega
          have c0 : w1.cell? ⟨h, 0, none⟩ = some (.slice pw xs.length cw) := by simp [World.cell?, hblk]
          have c1' : w1.cell? ⟨h, 1, none⟩ = some (.slice pt tr.length ct) := by simp [World.cell?, hblk]
          have HB2 : Hid (Below W0.heap.size W0 w1) := hb
          clear hb HO hh hho hblk hrw hmh hmw
          have HR : Hid _ := (HBX.out w1 HB2.out).put (.slice none 0 0) (.slice none 0 0)
          have HBF : Hid _ := HB0.out w1 (.slice none 0 0) (.slice none 0 0) HB2.out
          obtain ⟨b0, b1, b2⟩ := HBX.out w1 HB2.out
          clear HBX HB0
          go_wp2
          obtain ⟨d0, d1, _⟩ := HR.out
          exact bodyPost_ret (v := .tuple #[.agg #[.slice none 0 0, .slice none 0 0], .int .i64 1]) (by simp [results, Try.results26, go_sem, d0, d1]) rfl (StoreA.none 1 HBF.out)
        · have n4 : (xs.length : Int) < top := by omega
          clear hp
          go_enter Try.func26, Try.ntmps26
          go_wp2_with fail
          refine HO.mono ?_
          rintro e w1 ⟨v, rfl, hb, hh⟩
          obtain ⟨h, m, rfl, hho, _, hmw⟩ := hh (by trivial)
          rw [← HE0.out] at hb
          obtain ⟨pw, cw, pt, ct, hblk, hrw, _, hmh⟩ := id hho
          have hcw : xs.length ≤ cw := by
            rcases hrw.2 with ⟨_, h'⟩ | ⟨g, cap, cur, hv, _, _, hc, _⟩
            · omega
            · simp only [Value.slice.injEq] at hv; omega
          have c0 : w1.cell? ⟨h, 0, none⟩ = some (.slice pw xs.length cw) := by simp [World.cell?, hblk]
          have c1' : w1.cell? ⟨h, 1, none⟩ = some (.slice pt tr.length ct) := by simp [World.cell?, hblk]
          have HB2 : Hid (Below W0.heap.size W0 w1) := hb
          clear hb HO hh hho hblk hrw hmh hmw
          have HR : Hid _ := (HBX.out w1 HB2.out).put (.slice none 0 0) (.slice none 0 0)
          have HBF : Hid _ := HB0.out w1 (.slice none 0 0) (.slice none 0 0) HB2.out
          obtain ⟨b0, b1, b2⟩ := HBX.out w1 HB2.out
          clear HBX HB0
          go_wp2
          obtain ⟨d0, d1, _⟩ := HR.out
          exact bodyPost_ret (v := .tuple #[.agg #[.slice none 0 0, .slice none 0 0], .int .i64 1]) (by simp [results, Try.results26, go_sem, d0, d1]) rfl (StoreA.none 1 HBF.out)
    · have HA : Hid (unwA xs tr mark top = (([], []), 1)) := by show _ = _; unfold unwA unwB; rw [decide_eq_false hm]; simp
      rw [HA.out]
      clear hs hok hsp hwb hkn HFU HA eW0
      by_cases h0 : mark < 0
      · clear hm
        go_enter Try.func26, Try.ntmps26
        go_wp2_with fail
        refine HO.mono ?_
        rintro e w1 ⟨v, rfl, hb, hh⟩
        obtain ⟨h, m, rfl, hho, _, hmw⟩ := hh (by trivial)
        rw [← HE0.out] at hb
        obtain ⟨pw, cw, pt, ct, hblk, hrw, _, hmh⟩ := id hho
        have hcw : xs.length ≤ cw := by
          rcases hrw.2 with ⟨_, h'⟩ | ⟨g, cap, cur, hv, _, _, hc, _⟩
          · omega
          · simp only [Value.slice.injEq] at hv; omega
        have c0 : w1.cell? ⟨h, 0, none⟩ = some (.slice pw xs.length cw) := by simp [World.cell?, hblk]
        have c1' : w1.cell? ⟨h, 1, none⟩ = some (.slice pt tr.length ct) := by simp [World.cell?, hblk]
        have HB2 : Hid (Below W0.heap.size W0 w1) := hb
        clear hb HO hh hho hblk hrw hmh hmw
        have HR : Hid _ := (HBX.out w1 HB2.out).put (.slice none 0 0) (.slice none 0 0)
        have HBF : Hid _ := HB0.out w1 (.slice none 0 0) (.slice none 0 0) HB2.out
        obtain ⟨b0, b1, b2⟩ := HBX.out w1 HB2.out
        clear HBX HB0
        go_wp2
        obtain ⟨d0, d1, _⟩ := HR.out
        exact bodyPost_ret (v := .tuple #[.agg #[.slice none 0 0, .slice none 0 0], .int .i64 1]) (by simp [results, Try.results26, go_sem, d0, d1]) rfl (StoreA.none 1 HBF.out)
      · have n4 : (tr.length : Int) < mark := by omega
        clear hm
        go_enter Try.func26, Try.ntmps26
        go_wp2_with fail
        refine HO.mono ?_
        rintro e w1 ⟨v, rfl, hb, hh⟩
        obtain ⟨h, m, rfl, hho, _, hmw⟩ := hh (by trivial)
        rw [← HE0.out] at hb
        obtain ⟨pw, cw, pt, ct, hblk, hrw, _, hmh⟩ := id hho
        have hcw : xs.length ≤ cw := by
          rcases hrw.2 with ⟨_, h'⟩ | ⟨g, cap, cur, hv, _, _, hc, _⟩
          · omega
          · simp only [Value.slice.injEq] at hv; omega
        have c0 : w1.cell? ⟨h, 0, none⟩ = some (.slice pw xs.length cw) := by simp [World.cell?, hblk]
        have c1' : w1.cell? ⟨h, 1, none⟩ = some (.slice pt tr.length ct) := by simp [World.cell?, hblk]
        have HB2 : Hid (Below W0.heap.size W0 w1) := hb
        clear hb HO hh hho hblk hrw hmh hmw
        have HR : Hid _ := (HBX.out w1 HB2.out).put (.slice none 0 0) (.slice none 0 0)
        have HBF : Hid _ := HB0.out w1 (.slice none 0 0) (.slice none 0 0) HB2.out
        obtain ⟨b0, b1, b2⟩ := HBX.out w1 HB2.out
        clear HBX HB0
        go_wp2
        obtain ⟨d0, d1, _⟩ := HR.out
        exact bodyPost_ret (v := .tuple #[.agg #[.slice none 0 0, .slice none 0 0], .int .i64 1]) (by simp [results, Try.results26, go_sem, d0, d1]) rfl (StoreA.none 1 HBF.out)

end Go.Proofs.Ytfnmoaiejpkocaa

