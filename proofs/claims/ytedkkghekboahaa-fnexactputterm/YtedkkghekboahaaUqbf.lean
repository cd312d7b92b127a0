/- Texts of PtUE, UwM, BdM. Own work of the verifier. -/
import Derived.Test.YtedkkghekboahaaUqbd
import Derived.Test.YtedkkghekboahaaUqbb
import Derived.Test.YtedkkghekboahaaUqaw
import Derived.Test.YtedkkghekboahaaUqba
import Derived.Test.YtedkkghekboahaaUqav
namespace Go.Proofs.Ytedkkghekboahaa
open Go Go.RowKit Go.Maps
set_option linter.unusedVariables false

set_option maxHeartbeats 8000000 in
set_option maxRecDepth 100000 in
theorem implPut_e (p q pt : Option Addr) (c1 c2 cap : Nat) (cs xs : List Cel) (tr : List Int) (w : World) (hx : xs.length ≤ 1000000000) (hy : tr.length ≤ 1000000000) (hz : cs.length ≤ cap) (hcm : cap ≤ 1000000000) (hbx : ∀ a, a < xs.length → Byte (xs.getD a Cel.none).2.2) (hbc : ∀ i, i < cs.length → Byte (cs.getD i Cel.none).2.2) (hc : CIn w p xs) (hi : IIn w q tr) (hin : CIn w pt cs) (hs : storeB xs tr = true) (hv : validB cs = true) (hcan : canB xs cs = true) (hle : ¬ xs.length + (ptB xs.length (treeOf cs).1 (treeOf cs).2).length ≤ 20000) :
    Calls Try.prog 35 #[.agg #[.slice p xs.length c1, .slice q tr.length c2], .slice pt cs.length cap] w (PutAns (putA xs tr cs) w) := by
  obtain ⟨W0, eW0⟩ : ∃ W0, W0 = ((w.alloc (.cells #[.slice p xs.length c1, .slice q tr.length c2] 36)).alloc (.cells #[.slice none 0 0, .slice none 0 0] 36)).alloc (.cells #[.int .i64 0, .int .i64 0, .slice none 0 0] 31) := ⟨_, rfl⟩
  have hb0 : Below w.heap.size w W0 := by
    rw [eW0]; exact (((Below.refl _ _).alloc (Nat.le_refl _) _).alloc (by simp) _).alloc (by simp; omega) _
  have k0 := heap_three w (.cells #[.slice p xs.length c1, .slice q tr.length c2] 36) (.cells #[.slice none 0 0, .slice none 0 0] 36) (.cells #[.int .i64 0, .int .i64 0, .slice none 0 0] 31)
  rw [← eW0] at k0
  obtain ⟨k1, k2⟩ := k0
  have hz0 : W0.heap.size = w.heap.size + 1 + 1 + 1 := by rw [eW0]; simp
  have HBX : Hid (∀ W, Below W0.heap.size W0 W → Box2 W (w.heap.size + 1) (.slice none 0 0) (.slice none 0 0)) := fun W hW => Box2.of_block ((hW.block (w.heap.size + 1) (by omega)).trans k1)
  have HCX : Hid (∀ W, Below W0.heap.size W0 W → Box3 W (w.heap.size + 1 + 1) (.int .i64 0) (.int .i64 0) (.slice none 0 0)) := fun W hW => Box3.of_block ((hW.block (w.heap.size + 1 + 1) (by omega)).trans k2)
  have HO := heapOf_any p q c1 c2 xs tr W0 hx hy (hc.below hb0) (hi.below hb0)
  have HIN : Hid (∀ W, Below W0.heap.size W0 W → CIn W pt cs) := fun W hW => hin.below (Below.on hb0 hW)
  have HB0 : Hid (∀ W v0 v1 u0 u1 u2, Below W0.heap.size W0 W → Below w.heap.size w (((((W.setCell ⟨w.heap.size + 1, 0, none⟩ v0).setCell ⟨w.heap.size + 1, 1, none⟩ v1).setCell ⟨w.heap.size + 1 + 1, 0, none⟩ u0).setCell ⟨w.heap.size + 1 + 1, 1, none⟩ u1).setCell ⟨w.heap.size + 1 + 1, 2, none⟩ u2)) := fun W v0 v1 u0 u1 u2 hW => below_put3 (below_put2 (Below.on hb0 hW) (by omega) _ _) (by omega) _ _ _
  have HE0 : Hid _ := eW0
  have HZ0 : Hid _ := hz0
  have HVT : Hid (∀ W, Below W0.heap.size W0 W → Calls Try.prog 71 #[.slice pt cs.length cap] W fun e w' => e = .returned (.bool (validB cs)) ∧ Below W.heap.size W w') := fun W hW => implValid_any pt cap cs W (by omega) (HIN.out W hW)
  clear hc hi hin hb0 k1 k2 hz0
  unfold HeapOut at HO
  rw [eW0] at HO
  clear eW0
  · rw [hs] at HO
    obtain ⟨hxl, htl, hshp, _, _⟩ := storeB_parts hs
    have hoks := storeB_ok hs
    · rw [hv] at HVT
      obtain ⟨hcs, hok, h2000⟩ := treeOf_spec hbc hv
      have HPA : Hid (putA xs tr cs = if canB xs cs = true then putT xs tr (treeOf cs) else noneP 1) := by show _ = _; unfold putA; rw [if_pos hs, if_pos hv]
      obtain ⟨⟨c, k⟩, et⟩ : ∃ t, t = treeOf cs := ⟨_, rfl⟩
      rw [← et] at hcs hok HPA
      have HTC : Hid (treeOf cs = (c, k)) := et.symm
      simp only at hcs hok
      have hkl : k.cells.length ≤ 2000 := by rw [hcs] at h2000; simp at h2000; omega
      have hlen : cs.length = k.cells.length + 1 := by rw [hcs]; simp
      have HTO : Hid (∀ W, Below W0.heap.size W0 W → Calls Try.prog 72 #[.slice pt cs.length cap] W fun e w' => ∃ v, e = .returned v ∧ FoIn w' W.heap.size (.node c k .nil) [v] ∧ Below W.heap.size W w') := fun W hW => termOf_any c k pt cs.length cap W hok hlen hz hcm (by have := HIN.out W hW; rwa [hcs] at this)
      have HCH : Hid (∀ W h v Bt, HeapAt W h xs tr → FoIn W Bt (.node c k .nil) [v] → Calls Try.prog 73 #[.pointer (some ⟨h, 0, none⟩), v] W fun e w' => e = .returned (.bool (canB xs cs)) ∧ Below W.heap.size W w') := fun W h v Bt H hf => by rw [hcs]; exact canHold_any h xs tr c k v Bt W hxl hshp.knds hok hf (by omega) H
      rw [hcan] at HPA HCH
      have HOK : Hid ((Fo.node c k .nil).ok) := hok
      have HOKS : Hid (∀ a, a < xs.length → okW (xs.getD a Cel.none).1 (xs.getD a Cel.none).2.1 (xs.getD a Cel.none).2.2.length = true) := hoks
      have HBY : Hid (∀ a, a < xs.length → Byte (xs.getD a Cel.none).2.2) := hbx
      clear hs hv HIN hbx hbc hshp hoks hcs h2000 hok et hcan hlen
      · have HA : Hid (putA xs tr cs = putT xs tr (c, k)) := by show _ = _; rw [HPA.out, if_pos rfl]
        rw [HA.out]
        have hform := ptA_form xs.length c k HOK.out.2.1
        obtain ⟨hfB, hfA⟩ := ptB_fine xs.length c k HOK.out hxl hkl
        have HPU : Hid (∀ W W' h m mf Bt (v : Value), FoIn W Bt (.node c k .nil) [v] → PS W0.heap.size Bt W.heap.size h m mf 0 0 W tr (xs.map wv) [] W' → Calls Try.prog 75 #[.agg #[.pointer (some ⟨h, 0, none⟩), .int .i64 (xs.length : Nat), .map (some mf)], v] W' fun e w' => e = .returned (wv (ptA xs.length c k).1) ∧ HeapAt w' h (xs ++ ptB xs.length c k) tr ∧ Below W0.heap.size W w') := fun W W' h m mf Bt v hf hps => by
          have hh := put_any W0.heap.size Bt W.heap.size h m mf 0 W tr rfl c k v (xs.map wv) W' HOK.out hf (by rw [List.length_map]; exact hxl) hkl hps
          rw [List.length_map] at hh
          refine hh.mono ?_
          rintro e w' ⟨he, ⟨N, E, hp⟩, _⟩
          rw [← List.map_append] at hp
          obtain ⟨pw, cw, hp'⟩ := id hp
          exact ⟨he, hp.at, hp'.2.2.2.2.2.2.2⟩
        have HST : Hid (xs.length + (ptB xs.length c k).length ≤ 20000 → ∀ W h, HeapAt W h (xs ++ ptB xs.length c k) tr → Calls Try.prog 61 #[.pointer (some ⟨h, 0, none⟩)] W (StoreOut (xs ++ ptB xs.length c k) tr W)) := fun hle W h H => by
          have hall : ∀ a, a < (xs ++ ptB xs.length c k).length → okW ((xs ++ ptB xs.length c k).getD a Cel.none).1 ((xs ++ ptB xs.length c k).getD a Cel.none).2.1 ((xs ++ ptB xs.length c k).getD a Cel.none).2.2.length = true ∧ Byte ((xs ++ ptB xs.length c k).getD a Cel.none).2.2 := fun a ha => by
            by_cases h1 : a < xs.length
            · have e : (xs ++ ptB xs.length c k).getD a Cel.none = xs.getD a Cel.none := by simp [List.getD, List.getElem?_append_left h1]
              rw [e]; exact ⟨HOKS.out a h1, HBY.out a h1⟩
            · have h2 : a - xs.length < (ptB xs.length c k).length := by rw [List.length_append] at ha; omega
              have e : (xs ++ ptB xs.length c k).getD a Cel.none = (ptB xs.length c k)[a - xs.length] := by
                have h3 : xs.length ≤ a := by omega
                simp [List.getD, List.getElem?_append_right h3, h2]
              rw [e]
              have := hfB _ (List.getElem_mem h2)
              exact ⟨this.1, this.2.1⟩
          exact store_any h _ tr W (by rw [List.length_append]; exact hle) htl (fun a ha => (hall a ha).1) (fun a ha => (hall a ha).2) H
        have HPT : Hid (putT xs tr (c, k) = if xs.length + (ptB xs.length c k).length ≤ 20000 then ((xs ++ ptB xs.length c k, tr), (ptA xs.length c k).1, 0) else noneP 10) := rfl
        rw [HPT.out]
        have hLB : (xs ++ ptB xs.length c k).length ≤ 1000000 := by
          have := put1_blk xs.length c k xs.length xs.length [] (putL_blk xs.length k)
          unfold ptB ptA
          rw [List.length_append, List.length_append]
          split <;> simp <;> omega
        have HLX : Hid ((xs ++ ptB xs.length c k).length = xs.length + (ptB xs.length c k).length) := by show _ = _; rw [List.length_append]
        rw [HTC.out] at hle
        simp only at hle
        rw [← HLX.out] at hle
        rw [← HLX.out] at HST ⊢
        rw [if_neg hle]
        generalize xs ++ ptB xs.length c k = X at HPU HST HLX hLB hle ⊢
        generalize (ptA xs.length c k).1 = d at HPU hform hfA ⊢
        obtain ⟨n0, en0⟩ : ∃ n0, n0 = xs.length := ⟨_, rfl⟩
        rw [← en0] at HPU
        obtain ⟨LX, eLX⟩ : ∃ LX, LX = X.length := ⟨_, rfl⟩
        have HLE : Hid (LX = X.length) := eLX
        have HN0 : Hid (n0 = xs.length) := en0
        rw [← eLX] at hLB hle
        clear HA HPA HOKS HBY HLX HPT hfB hfA
        obtain ⟨ty, y, hvv⟩ := wv_iface d
        have HWV : Hid (wv d = .iface ty y) := hvv
        rw [hvv] at HPU
        clear hvv en0 eLX
        go_enter Try.func35, Try.ntmps35
        go_wp2_with fail
        refine HO.mono ?_
        rintro e w1 ⟨v, rfl, hb, hh⟩
        obtain ⟨h, m, rfl, hho, _, hmw⟩ := hh (by trivial)
        rw [← HE0.out] at hb hmw
        have HB1 : Hid (Below W0.heap.size W0 w1) := hb
        have HV1 : Hid _ := HVT.out w1 hb
        have HHO : Hid (HeapO w1 h xs tr m 0) := hho
        have HMW : Hid (W0.heap.size ≤ m) := hmw
        clear hb HO HVT hh hho hmw
        go_wp2_with fail
        refine Calls.mono HV1.out ?_
        rintro e w2 ⟨rfl, hb2⟩
        have HB2 : Hid (Below W0.heap.size W0 w2) := Below.on HB1.out hb2
        have HT2 : Hid _ := HTO.out w2 HB2.out
        have HH2 : Hid (HeapO w2 h xs tr m 0) := HHO.out.below hb2
        clear hb2 HV1 HTO HHO
        go_wp2_with fail
        refine Calls.mono HT2.out ?_
        rintro e w3 ⟨v3, rfl, hfo3, hb3⟩
        have HB3 : Hid (Below W0.heap.size W0 w3) := Below.on HB2.out hb3
        have HC3 : Hid _ := HCH.out w3 h v3 _ (HH2.out.below hb3).at hfo3
        have HF3 : Hid (FoIn w3 w2.heap.size (.node c k .nil) [v3]) := hfo3
        have HB23 : Hid (Below w2.heap.size w2 w3) := hb3
        obtain ⟨vt, vx, rfl⟩ := hfo3.iface
        clear hb3 hfo3 HT2 HCH
        go_wp2_with fail
        refine Calls.mono HC3.out ?_
        rintro e w4 ⟨rfl, hb4⟩
        have HB4 : Hid (Below W0.heap.size W0 w4) := Below.on HB3.out hb4
        have HB24 : Hid (Below w2.heap.size w2 w4) := Below.on HB23.out hb4
        have HF4 : Hid (FoIn w4 w2.heap.size (.node c k .nil) [.iface vt vx]) := HF3.out.below hb4
        obtain ⟨pw4, cw4, pt4, ct4, h04, _⟩ := HH2.out.below HB24.out
        have hc0 : w4.cell? ⟨h, 0, none⟩ = some (.slice pw4 n0 cw4) := by rw [HN0.out]; simp [World.cell?, h04]
        clear h04
        have HFI := filler_any h (n0 : Int) w4
        clear hb4 HC3 HF3 HB23
        have hn0 : n0 ≤ 20000 := by have := HN0.out; omega
        go_wp2_with fail
        refine HFI.mono ?_
        rintro e w5 ⟨mf, rfl, hvm, hmf, hb5⟩
        have HPP : Hid _ := HPU.out w4 w5 h m mf w2.heap.size (.iface vt vx) HF4.out (ps_start (wT := w3) HH2.out HMW.out HB24.out hb5 hvm hmf)
        clear hvm hmf hb5 HFI HPU HF4 hc0
        go_wp2_with fail
        refine Calls.mono HPP.out ?_
        rintro e w6 ⟨rfl, hat6, hb6⟩
        have HB6 : Hid (Below W0.heap.size W0 w6) := HB4.out.trans hb6
        have HAT : Hid (HeapAt w6 h X tr) := hat6
        obtain ⟨pw6, cw6, _, _, hc6, _⟩ := hat6
        rw [← HLE.out] at hc6
        clear hb6 HPP HH2 HB24
        · have hd : (20000 : Int) < LX := by omega
          have HBn : Hid (Below W0.heap.size W0 w6) := HB6.out
          clear HST HAT hle hform
          have HR : Hid _ := put5 (HBX.out w6 HBn.out) (HCX.out w6 HBn.out) (by omega) (.slice none 0 0) (.slice none 0 0) (.int .i64 0) (.int .i64 0) (.slice none 0 0)
          have HBF : Hid _ := HB0.out w6 (.slice none 0 0) (.slice none 0 0) (.int .i64 0) (.int .i64 0) (.slice none 0 0) HBn.out
          obtain ⟨x0, x1, x2⟩ := HBX.out w6 HBn.out
          obtain ⟨y0, y1, y2, y3⟩ := HCX.out w6 HBn.out
          clear HBX HCX HB0
          go_wp2
          obtain ⟨⟨d0, d1, _⟩, d2, d3, d4, _⟩ := HR.out
          exact bodyPost_ret (v := .tuple #[.agg #[.slice none 0 0, .slice none 0 0], .agg #[.int .i64 0, .int .i64 0, .slice none 0 0], .int .i64 10]) (by simp [results, Try.results35, go_sem, d0, d1, d2, d3, d4]) rfl (PutAns.none 10 HBF.out)

end Go.Proofs.Ytedkkghekboahaa

namespace Go.Proofs.Ytedkkghekboahaa
open Go Go.RowKit Go.Maps
set_option linter.unusedVariables false

theorem ownsRow_shrink {w : World} {B s n k c : Nat} {e : TypeId} {p : Option Addr} {vs : List Value} (h : w.ownsRow B e s (.slice p n c) n vs) (hk : k ≤ n) : w.ownsRow B e s (.slice p k c) k (vs.take (k * s)) := by
  obtain ⟨h1, h2⟩ := h
  have hks : k * s ≤ n * s := Nat.mul_le_mul_right s hk
  refine ⟨by rw [List.length_take]; omega, ?_⟩
  rcases h2 with ⟨hv, h0⟩ | ⟨g, cap, cur, hv, hB, hg, hc, hm, hs, ht⟩
  · simp only [Value.slice.injEq] at hv
    exact .inl ⟨by simp only [Value.slice.injEq]; exact ⟨hv.1, by omega, hv.2.2⟩, by omega⟩
  · simp only [Value.slice.injEq, true_and] at hv
    refine .inr ⟨g, cap, cur, by simp only [Value.slice.injEq, true_and]; exact hv, hB, hg, by omega, hm, hs, ?_⟩
    rw [← ht, List.take_take, Nat.min_eq_left hks]
theorem ownsRow_block {w : World} {B s n g : Nat} {e : TypeId} {v : Value} {vs : List Value} (h : w.ownsRow B e s v n vs) (hg : v.ownBlock = some g) : ∃ cur, w.heap[g]? = some (.cells cur e (0, 0)) := by
  rcases h.2 with ⟨hv, _⟩ | ⟨g', cap, cur, hv, _, hh, _⟩
  · rw [hv] at hg; cases hg
  · rw [hv] at hg
    simp only [Value.ownBlock, Option.some.injEq] at hg
    rw [← hg]; exact ⟨cur, hh⟩
theorem flat_take (rs : List RC) (k : Nat) : (flat rs).take (k * 3) = flat (rs.take k) := by
  induction rs generalizing k with
  | nil => simp [flat]
  | cons r rs ih =>
    cases k with
    | zero => simp [flat]
    | succ k =>
      rw [List.take_succ_cons, flat_cons, flat_cons, show (k + 1) * 3 = k * 3 + 1 + 1 + 1 by omega]
      simp only [List.take_succ_cons, ih]
theorem RowC.shrink {W0 w : World} {p : Option Addr} {n c k : Nat} {xs : List Cel} (h : RowC W0 w p n c xs) (hk : k ≤ n) : RowC W0 w p k c (xs.take k) := by
  obtain ⟨hn, rs, hl, hr, hf⟩ := h
  refine ⟨by rw [List.length_take]; omega, rs.take k, by simp [hl], ?_, fun i hi => ?_⟩
  · rw [← flat_take]; exact ownsRow_shrink hr hk
  · rw [List.length_take] at hi
    have hik : i < k := by omega
    have e1 : (rs.take k).getD i RC.zero = rs.getD i RC.zero := by simp [List.getD, hik]
    rw [e1, take_at _ _ _ (by omega)]
    exact hf i (by omega)
theorem OwnI.shrink {w : World} {B : Nat} {p : Option Addr} {n c k : Nat} {zs : List Int} (h : OwnI w B 3 p n c zs) (hk : k ≤ n) : OwnI w B 3 p k c (zs.take k) := by
  refine ⟨by have := h.1; rw [List.length_take]; omega, ?_⟩
  have := ownsRow_shrink h.2 hk
  rw [Nat.mul_one, ← List.map_take] at this
  exact this
theorem below_put3g {B g o1 o2 o3 : Nat} {w w' : World} {v0 v1 v2 : Value} (h : Below B w w') (hb : B ≤ g) : Below B w (((w'.setCell ⟨g, o1, none⟩ v0).setCell ⟨g, o2, none⟩ v1).setCell ⟨g, o3, none⟩ v2) := ((h.setCell (p := ⟨g, o1, none⟩) hb _).setCell (p := ⟨g, o2, none⟩) hb _).setCell (p := ⟨g, o3, none⟩) hb _
/-- A cell of the row becomes a variable. -/
theorem SHp.set {V w : World} {h : Nat} {xs : List Cel} {tr : List Int} {k : Int} {a g cc : Nat} {pt : Option Addr} {ct : Nat} (hh : w.heap[h]? = some (.cells #[.slice (some ⟨g, 0, none⟩) xs.length cc, .slice pt tr.length ct, .int .i64 k] 118)) (hrow : RowC V w (some ⟨g, 0, none⟩) xs.length cc xs) (hint : OwnI w V.heap.size 3 pt tr.length ct tr) (hV : V.heap.size ≤ h) (hB : Below V.heap.size V w) (ha : a < xs.length) :
    SHp V (((w.setCell ⟨g, a * 3, none⟩ (.int .i64 0)).setCell ⟨g, a * 3 + 1, none⟩ (.int .i64 (a : Int))).setCell ⟨g, a * 3 + 2, none⟩ (.slice none 0 0)) h (xs.set a (0, (a : Int), [])) tr k := by
  obtain ⟨hn, rs, hl, hr, hf⟩ := hrow
  obtain ⟨cur, hg⟩ := ownsRow_block hr (g := g) rfl
  have hgB := (hr.lt g rfl).1
  have hgh : g ≠ h := fun e => by
    rw [e, hh] at hg
    simp only [Option.some.injEq, Obj.cells.injEq] at hg
    exact absurd hg.2.1 (by decide)
  have hgt : Value.ownBlock (.slice pt tr.length ct) ≠ some g := fun e => by
    obtain ⟨cur', hg'⟩ := ownsRow_block hint.2 e
    rw [hg] at hg'
    simp only [Option.some.injEq, Obj.cells.injEq] at hg'
    exact absurd hg'.2.1 (by decide)
  refine ⟨some ⟨g, 0, none⟩, cc, pt, ct, ?_, ⟨by simp, rs.set a (0, (a : Int), none, 0, 0), by simp [hl], ?_, fun i hi => ?_⟩, ?_, hV, below_put3g hB hgB⟩
  · rw [heap_setCell_other _ _ _ _ (by simp; exact fun e => hgh e.symm), heap_setCell_other _ _ _ _ (by simp; exact fun e => hgh e.symm), heap_setCell_other _ _ _ _ (by simp; exact fun e => hgh e.symm), List.length_set]
    exact hh
  · have h3 := (((hr.stored (a * 3) (.int .i64 0)).1.stored (a * 3 + 1) (.int .i64 (a : Int))).1.stored (a * 3 + 2) (.slice none 0 0)).1
    rw [flat_set rs a (0, (a : Int), none, 0, 0) (by omega)] at h3
    rw [List.length_set]
    exact h3
  · rw [List.length_set] at hi
    by_cases e : i = a
    · subst e
      have e1 : (rs.set i (0, (i : Int), none, 0, 0)).getD i RC.zero = (0, (i : Int), none, 0, 0) := by
        have : i < rs.length := by omega
        simp [List.getD, this]
      have e2 : (xs.set i (0, (i : Int), [])).getD i Cel.none = (0, (i : Int), []) := by simp [List.getD, hi]
      rw [e1, e2]
      exact ⟨rfl, rfl, rfl, fun h => absurd h (Nat.lt_irrefl 0)⟩
    · have ne : ¬ a = i := fun x => e x.symm
      have e1 : (rs.set a (0, (a : Int), none, 0, 0)).getD i RC.zero = rs.getD i RC.zero := by simp [List.getD, ne]
      have e2 : (xs.set a (0, (a : Int), [])).getD i Cel.none = xs.getD i Cel.none := by simp [List.getD, ne]
      rw [e1, e2]
      exact hf i hi
  · exact ⟨hint.1, ownsRow_setCell_other (ownsRow_setCell_other (ownsRow_setCell_other hint.2 (fun e => hgt e) _) (fun e => hgt e) _) (fun e => hgt e) _⟩

set_option maxRecDepth 100000 in
theorem l10ref_any (a : Int) (w : World) : Calls Try.prog 79 #[.int .i64 a] w fun e w' => e = .returned (.agg #[.int .i64 0, .int .i64 a, .slice none 0 0]) ∧ Below w.heap.size w w' := by
  go_enter Try.func79, Try.ntmps79
  go_wp2
  exact bodyPost_ret (v := .agg #[.int .i64 0, .int .i64 a, .slice none 0 0]) (by simp [results, Try.results79, go_sem]) rfl ⟨rfl, by first | exact Below.refl _ _ | exact (Below.refl _ _).alloc (Nat.le_refl _) _⟩

set_option maxHeartbeats 2000000 in
set_option maxRecDepth 100000 in
theorem l10unwind_any (V : World) (h : Nat) (xs : List Cel) (tr : List Int) (kk0 : Int) (mark top : Nat) (w : World) (hl : xs.length ≤ 20000) (ht : tr.length ≤ 20000) (hm : mark ≤ tr.length) (hp : top ≤ xs.length) (hw : tr.all (isWB xs) = true) (H : SHp V w h xs tr kk0) :
    Calls Try.prog 55 #[.pointer (some ⟨h, 0, none⟩), .int .i64 mark, .int .i64 top] w fun e w' => e = .returned (.tuple #[]) ∧ SHp V w' h (unwX xs tr mark top) (unwT tr mark) kk0 := by
  have HWB : Hid (∀ j, j < tr.length → ∃ a : Nat, tr.getD j 0 = (a : Int) ∧ a < xs.length) := fun j hj => by
    have := List.all_eq_true.1 hw (tr.getD j 0) (by simp [List.getD, hj])
    simp only [isWB, decide_eq_true_eq] at this
    exact ⟨(tr.getD j 0).toNat, by omega, by omega⟩
  have HS0 : Hid (SHp V w h (unwC xs (tr.drop tr.length)) tr kk0) := by show SHp _ _ _ _ _ _; rw [List.drop_length, unwC_nil]; exact H
  obtain ⟨pc0, cc0, pt0, ct0, hh0, _⟩ := H
  have t0 : w.cell? ⟨h, 1, none⟩ = some (.slice pt0 tr.length ct0) := by simp [World.cell?, hh0]
  clear hw hh0
  go_enter Try.func55, Try.ntmps55
  go_wp2
  clear t0
  go_loopw [6] (fun i wr => ∃ j : Nat, mark ≤ j ∧ j ≤ tr.length ∧ i = .int .i64 ((j : Int) - 1) ∧ Hid (SHp V wr h (unwC xs (tr.drop j)) tr kk0)) (fun i _ => (intOf i + 1).toNat)
  case atStart => exact ⟨tr.length, hm, Nat.le_refl _, by first | rfl | simp, HS0⟩
  case round =>
    obtain ⟨j, hj1, hj2, rfl, HR⟩ := hrel
    obtain ⟨pc, cc, pt, ct, hh, hrow, hint, hVh, hB⟩ := HR.out
    rw [unwC_len] at hh hrow
    have c0 : wr.cell? ⟨h, 0, none⟩ = some (.slice pc xs.length cc) := by simp [World.cell?, hh]
    have c1 : wr.cell? ⟨h, 1, none⟩ = some (.slice pt tr.length ct) := by simp [World.cell?, hh]
    by_cases hlt : mark < j
    · obtain ⟨i, rfl⟩ : ∃ i, j = i + 1 := ⟨j - 1, by omega⟩
      obtain ⟨a, ea, hal⟩ := HWB.out i (by omega)
      obtain ⟨b, o, rfl, hz⟩ := hint.iin (by omega)
      have hv := hz i (by omega)
      rw [ea] at hv
      have hrl := hrow.1
      obtain ⟨g, qx, cx, rfl, hg1, hg2, d0, d1, d2, _⟩ := hrow.at a (by rw [unwC_len]; exact hal)
      have HST : Hid (∀ w2, Below wr.heap.size wr w2 → SHp V (((w2.setCell ⟨g, a * 3, none⟩ (.int .i64 0)).setCell ⟨g, a * 3 + 1, none⟩ (.int .i64 (a : Int))).setCell ⟨g, a * 3 + 2, none⟩ (.slice none 0 0)) h (unwC xs (tr.drop i)) tr kk0) := fun w2 hb2 => by
        have h2 := (hb2.block h (Array.getElem?_eq_some_iff.1 hh).1).trans hh
        have r2 := hrow.below hb2
        have i2 := hint.below hb2
        have hlen := unwC_len xs (tr.drop (i + 1))
        rw [← hlen] at h2 r2
        have := SHp.set h2 r2 i2 hVh (Below.on hB hb2) (a := a) (by rw [hlen]; exact hal)
        rw [unwC_cons xs _ a hal, ← ea, ← drop_int tr i (by omega)] at this
        rw [ea] at this
        exact this
      have hrf : ∀ o, wr.frozen? ⟨g, o, none⟩ = false := fun o => by
        obtain ⟨_, rs, _, hr, _⟩ := hrow
        exact hr.frozenAt o
      have hlh := World.block_lt_of_cell? _ _ c0
      have hghb : g ≠ h := fun e => by
        obtain ⟨_, rs, _, hr, _⟩ := hrow
        obtain ⟨cur, hg⟩ := ownsRow_block hr (g := g) rfl
        rw [e, hh] at hg
        simp only [Option.some.injEq, Obj.cells.injEq] at hg
        exact absurd hg.2.1 (by decide)
      have HFA : Hid (∀ w2, Below wr.heap.size wr w2 → w2.cell? ⟨h, 0, none⟩ = some (.slice (some ⟨g, 0, none⟩) xs.length cc) ∧ (∃ u0 u1 u2, w2.cell? ⟨g, a * 3, none⟩ = some u0 ∧ w2.cell? ⟨g, a * 3 + 1, none⟩ = some u1 ∧ w2.cell? ⟨g, a * 3 + 2, none⟩ = some u2) ∧ ∀ o, w2.frozen? ⟨g, o, none⟩ = false) := fun w2 hb2 =>
        ⟨(hb2.cell hlh).trans c0, ⟨_, _, _, (hb2.cell (p := ⟨g, _, none⟩) hg2).trans d0, (hb2.cell (p := ⟨g, _, none⟩) hg2).trans d1, (hb2.cell (p := ⟨g, _, none⟩) hg2).trans d2⟩, fun o => (hb2.frozen (p := ⟨g, o, none⟩) hg2).trans (hrf o)⟩
      have haI : (0 : Int) ≤ (a : Int) := by omega
      have hlI : (a : Int) < (xs.length : Int) := by omega
      have HLR : Hid (Calls Try.prog 79 #[.int .i64 (a : Int)] (wr.drewN 1) fun e w' => e = .returned (.agg #[.int .i64 0, .int .i64 (a : Int), .slice none 0 0]) ∧ Below wr.heap.size wr w') := (l10ref_any a (wr.drewN 1)).mono fun e w' ⟨h1, h2⟩ => ⟨h1, (below_drewN (Below.refl _ _) 1).trans h2⟩
      have hiI : (0 : Int) ≤ (i : Int) := by omega
      have hiL : (i : Int) < (tr.length : Int) := by omega
      clear hh hrow hint hz hrl d0 d1 d2 hrf ea HWB HS0 hal hg1 hlh
      go_wp2
      go_region_held3 (fun W => W.cell? ⟨h, 0, none⟩ = some (.slice (some ⟨g, 0, none⟩) xs.length cc)) (first | exact kk | go_keep | ((try dsimp only); (repeat rw [World.cell?_setCell_other _ _ _ _ (by simp <;> omega)]); exact kk))
        (first | (go_at_call 79; refine Calls.mono HLR.out ?_; rintro e w2 ⟨rfl, hb2⟩; have HF2 : Hid _ := HST.out w2 hb2; obtain ⟨kk, ⟨u0, u1, u2, y0, y1, y2⟩, yf⟩ := HFA.out w2 hb2; have yf0 := yf (a * 3); have yf1 := yf (a * 3 + 1); have yf2 := yf (a * 3 + 2); clear hb2 yf))
      rename_i hheld
      clear hheld kk y0 y1 y2 yf0 yf1 yf2 HST HFA HLR c0 c1
      generalize (((w2.setCell ⟨g, a * 3, none⟩ (.int .i64 0)).setCell ⟨g, a * 3 + 1, none⟩ (.int .i64 (a : Int))).setCell ⟨g, a * 3 + 2, none⟩ (.slice none 0 0)) = w3 at HF2 ⊢
      go_wp2
      go_roundw
      case rel => exact ⟨i, by omega, by omega, by first | rfl | simp, HF2⟩
      case measure => simp [intOf]
    · obtain rfl : j = mark := by omega
      have hrl := hrow.1
      have hct : tr.length ≤ ct := by
        rcases hint.2.2 with ⟨e, h'⟩ | ⟨g, cap, cur, hv, _, _, hc, _⟩
        · omega
        · simp only [Value.slice.injEq] at hv; omega
      have hcc : xs.length ≤ cc := by
        obtain ⟨_, rs, _, hr, _⟩ := hrow
        rcases hr.2 with ⟨e, h'⟩ | ⟨g, cap, cur, hv, _, _, hc, _⟩
        · omega
        · simp only [Value.slice.injEq] at hv; omega
      have hpc : pc = none → top = 0 := fun e => by
        obtain ⟨_, rs, _, hr, _⟩ := hrow
        rcases hr.2 with ⟨_, h'⟩ | ⟨g, cap, cur, hv, _⟩
        · omega
        · rw [e] at hv; simp at hv
      have hpt : pt = none → j = 0 := fun e => by
        rcases hint.2.2 with ⟨_, h'⟩ | ⟨g, cap, cur, hv, _⟩
        · omega
        · rw [e] at hv; simp at hv
      have hlx : (unwX xs tr j top).length = top := by unfold unwX; rw [List.length_take, unwC_len]; simp; omega
      have hlt' : (unwT tr j).length = j := by unfold unwT; rw [List.length_take]; simp; omega
      have HFIN : Hid (SHp V ((wr.setCell ⟨h, 1, none⟩ (.slice pt j ct)).setCell ⟨h, 0, none⟩ (.slice pc top cc)) h (unwX xs tr j top) (unwT tr j) kk0) := by
        have hrs := hrow.shrink (k := top) (by omega)
        have his := hint.shrink (k := j) (by omega)
        have hnr : Value.ownBlock (.slice pc top cc) ≠ some h := fun e => by
          obtain ⟨_, rs, _, hr, _⟩ := hrs
          obtain ⟨cur, hg⟩ := ownsRow_block hr e
          rw [hh] at hg
          simp only [Option.some.injEq, Obj.cells.injEq] at hg
          exact absurd hg.2.1 (by decide)
        have hni : Value.ownBlock (.slice pt j ct) ≠ some h := fun e => by
          obtain ⟨cur, hg⟩ := ownsRow_block his.2 e
          rw [hh] at hg
          simp only [Option.some.injEq, Obj.cells.injEq] at hg
          exact absurd hg.2.1 (by decide)
        refine ⟨pc, cc, pt, ct, ?_, ?_, ?_, hVh, (hB.setCell (p := ⟨h, 1, none⟩) hVh _).setCell (p := ⟨h, 0, none⟩) hVh _⟩
        · rw [hlx, hlt', heap_setCell_same _ _ _ _ _ _ (heap_setCell_same _ _ _ _ _ _ hh)]; rfl
        · obtain ⟨hn, rs, hl', hr, hf⟩ := hrs
          rw [hlx]
          refine ⟨hlx.symm, rs, ?_, ownsRow_setCell_other (ownsRow_setCell_other hr (fun e => hnr e) _) (fun e => hnr e) _, ?_⟩
          · unfold unwX; simpa using hl'
          · unfold unwX; simpa using hf
        · rw [hlt']
          refine ⟨hlt'.symm, ?_⟩
          have := ownsRow_setCell_other (ownsRow_setCell_other his.2 (a := ⟨h, 1, none⟩) (fun e => hni e) (.slice pt j ct)) (a := ⟨h, 0, none⟩) (fun e => hni e) (.slice pc top cc)
          unfold unwT
          simpa using this
      have hf0 : ∀ o, wr.frozen? ⟨h, o, none⟩ = false := fun o => frozen_of_row _ _ _ _ _ hh
      have hf00 := hf0 0
      have hf01 := hf0 1
      clear hh hrow hint HWB HS0 hlx hlt' hf0 hrl
      cases pc with
      | none =>
        obtain rfl := hpc rfl
        cases pt with
        | none =>
          obtain rfl := hpt rfl
          clear hpc hpt
          go_wp2
          refine bodyPost_end (v := .tuple #[]) (by simp [results, Try.results55, go_sem]) rfl ?_
          exact ⟨rfl, HFIN.out⟩
        | some ad =>
          clear hpc hpt
          go_wp2
          refine bodyPost_end (v := .tuple #[]) (by simp [results, Try.results55, go_sem]) rfl ?_
          exact ⟨rfl, HFIN.out⟩
      | some ad =>
        cases pt with
        | none =>
          obtain rfl := hpt rfl
          clear hpc hpt
          go_wp2
          refine bodyPost_end (v := .tuple #[]) (by simp [results, Try.results55, go_sem]) rfl ?_
          exact ⟨rfl, HFIN.out⟩
        | some ad2 =>
          clear hpc hpt
          go_wp2
          refine bodyPost_end (v := .tuple #[]) (by simp [results, Try.results55, go_sem]) rfl ?_
          exact ⟨rfl, HFIN.out⟩

end Go.Proofs.Ytedkkghekboahaa

namespace Go.Proofs.Ytedkkghekboahaa
open Go Go.RowKit Go.Maps
set_option linter.unusedVariables false

/-- A cell of the row set anew. -/
theorem SHp.setC {V w : World} {h : Nat} {xs : List Cel} {tr : List Int} {k : Int} {a g cc : Nat} {pt : Option Addr} {ct : Nat} (hh : w.heap[h]? = some (.cells #[.slice (some ⟨g, 0, none⟩) xs.length cc, .slice pt tr.length ct, .int .i64 k] 118)) (hrow : RowC V w (some ⟨g, 0, none⟩) xs.length cc xs) (hint : OwnI w V.heap.size 3 pt tr.length ct tr) (hV : V.heap.size ≤ h) (hB : Below V.heap.size V w) (ha : a < xs.length) (c : Cel) (p : Option Addr) (cp : Nat) (hp : BIn V p c.2.2) :
    SHp V (((w.setCell ⟨g, a * 3, none⟩ (.int .i64 c.1)).setCell ⟨g, a * 3 + 1, none⟩ (.int .i64 c.2.1)).setCell ⟨g, a * 3 + 2, none⟩ (.slice p c.2.2.length cp)) h (xs.set a c) tr k ∧ (((w.setCell ⟨g, a * 3, none⟩ (.int .i64 c.1)).setCell ⟨g, a * 3 + 1, none⟩ (.int .i64 c.2.1)).setCell ⟨g, a * 3 + 2, none⟩ (.slice p c.2.2.length cp)).heap[h]? = w.heap[h]? := by
  obtain ⟨hn, rs, hl, hr, hf⟩ := hrow
  obtain ⟨cur, hg⟩ := ownsRow_block hr (g := g) rfl
  have hgB := (hr.lt g rfl).1
  have hgh : g ≠ h := fun e => by
    rw [e, hh] at hg
    simp only [Option.some.injEq, Obj.cells.injEq] at hg
    exact absurd hg.2.1 (by decide)
  have hgt : Value.ownBlock (.slice pt tr.length ct) ≠ some g := fun e => by
    obtain ⟨cur', hg'⟩ := ownsRow_block hint.2 e
    rw [hg] at hg'
    simp only [Option.some.injEq, Obj.cells.injEq] at hg'
    exact absurd hg'.2.1 (by decide)
  have hsame : (((w.setCell ⟨g, a * 3, none⟩ (.int .i64 c.1)).setCell ⟨g, a * 3 + 1, none⟩ (.int .i64 c.2.1)).setCell ⟨g, a * 3 + 2, none⟩ (.slice p c.2.2.length cp)).heap[h]? = w.heap[h]? := by
    rw [heap_setCell_other _ _ _ _ (by simp; exact fun e => hgh e.symm), heap_setCell_other _ _ _ _ (by simp; exact fun e => hgh e.symm), heap_setCell_other _ _ _ _ (by simp; exact fun e => hgh e.symm)]
  refine ⟨⟨some ⟨g, 0, none⟩, cc, pt, ct, ?_, ⟨by simp, rs.set a (c.1, c.2.1, p, c.2.2.length, cp), by simp [hl], ?_, fun i hi => ?_⟩, ?_, hV, below_put3g hB hgB⟩, hsame⟩
  · rw [hsame, List.length_set]
    exact hh
  · have h3 := (((hr.stored (a * 3) (.int .i64 c.1)).1.stored (a * 3 + 1) (.int .i64 c.2.1)).1.stored (a * 3 + 2) (.slice p c.2.2.length cp)).1
    rw [flat_set rs a (c.1, c.2.1, p, c.2.2.length, cp) (by omega)] at h3
    rw [List.length_set]
    exact h3
  · rw [List.length_set] at hi
    by_cases e : i = a
    · subst e
      have e1 : (rs.set i (c.1, c.2.1, p, c.2.2.length, cp)).getD i RC.zero = (c.1, c.2.1, p, c.2.2.length, cp) := by
        have : i < rs.length := by omega
        simp [List.getD, this]
      have e2 : (xs.set i c).getD i Cel.none = c := by simp [List.getD, hi]
      rw [e1, e2]
      exact ⟨rfl, rfl, rfl, hp⟩
    · have ne : ¬ a = i := fun x => e x.symm
      have e1 : (rs.set a (c.1, c.2.1, p, c.2.2.length, cp)).getD i RC.zero = rs.getD i RC.zero := by simp [List.getD, ne]
      have e2 : (xs.set a c).getD i Cel.none = xs.getD i Cel.none := by simp [List.getD, ne]
      rw [e1, e2]
      exact hf i hi
  · exact ⟨hint.1, ownsRow_setCell_other (ownsRow_setCell_other (ownsRow_setCell_other hint.2 (fun e => hgt e) _) (fun e => hgt e) _) (fun e => hgt e) _⟩

theorem far3 {w : World} {g b o1 o2 o3 i : Nat} {v0 v1 v2 : Value} (h : g ≠ b) : (((w.setCell ⟨g, o1, none⟩ v0).setCell ⟨g, o2, none⟩ v1).setCell ⟨g, o3, none⟩ v2).cell? ⟨b, i, none⟩ = w.cell? ⟨b, i, none⟩ := by
  have n : ∀ o, (⟨g, o, none⟩ : Addr) ≠ ⟨b, i, none⟩ := fun o e => h (congrArg Addr.block e)
  rw [World.cell?_setCell_other _ _ _ _ (n _), World.cell?_setCell_other _ _ _ _ (n _), World.cell?_setCell_other _ _ _ _ (n _)]
theorem app_intM (w : World) (ty : TypeId) (B : Nat) (pt : Option Addr) (ct b : Nat) (tr : List Int) (z : Int) (hl : tr.length ≤ 20000) (hB : B ≤ w.heap.size) (ho : OwnI w B 3 pt tr.length ct tr) (hz : w.cell? ⟨b, 0, none⟩ = some (.int .i64 z)) :
    ∃ g cap w1, (Builtin.append_ #[23, 23] ty #[.slice pt tr.length ct, .slice (some ⟨b, 0, none⟩) 1 1]).run Try.prog w = .ok (.slice (some ⟨g, 0, none⟩) (tr.length + 1) cap) w1 ∧ OwnI w1 B 3 (some ⟨g, 0, none⟩) (tr.length + 1) cap (tr ++ [z]) ∧ w.grownBy w1 (Value.ownBlock (.slice pt tr.length ct)) := by
  obtain ⟨i0, hi, hz0, hz1, hz2⟩ := info_parts infoInt
  obtain ⟨g', cap, w', hr, h2, h3, _, _⟩ := run_append_lies (P := Try.prog) w 23 ty B 3 i0 (.int .i64 0) 1 8 Try.underlying23 hi hz0 hz1 hz2 rfl (by decide) (.slice pt tr.length ct) tr.length (tr.map (Value.int .i64)) ho.2 ⟨b, 0, none⟩ 1 1 [.int .i64 z] rfl
    (fun j u hj => by
      cases j with
      | zero => simp at hj; subst hj; rw [show (⟨b, 0, none⟩ : Addr).add 0 = ⟨b, 0 + 0, none⟩ from WideShapes.add_plain _ _ _]; exact hz
      | succ j => simp at hj) (ints_oneCell .i64 [z]) (by decide) (by unfold maxLen; omega) (by omega) hB _ rfl
  exact ⟨g', cap, w', hr, ⟨by simp, by rw [List.map_append]; exact h2⟩, h3⟩

theorem row_ne2 {w : World} {B s n : Nat} {t : TypeId} {v : Value} {vs : List Value} (h : w.ownsRow B t s v n vs) {b : Nat} {cs : Array Value} {t' : TypeId} (hb : w.heap[b]? = some (.cells cs t')) (ht : t ≠ t') : Value.ownBlock v ≠ some b := fun e => by
  obtain ⟨cur, hg⟩ := ownsRow_block h e
  rw [hb] at hg
  simp only [Option.some.injEq, Obj.cells.injEq] at hg
  exact ht hg.2.1.symm
theorem row_ne3 {w : World} {B B' s s' n n' : Nat} {t t' : TypeId} {v v' : Value} {vs vs' : List Value} (h : w.ownsRow B t s v n vs) (h' : w.ownsRow B' t' s' v' n' vs') (ht : t ≠ t') {g : Nat} (e : Value.ownBlock v = some g) : Value.ownBlock v' ≠ some g := fun e' => by
  obtain ⟨c1, h1⟩ := ownsRow_block h e
  obtain ⟨c2, h2⟩ := ownsRow_block h' e'
  rw [h1] at h2
  simp only [Option.some.injEq, Obj.cells.injEq] at h2
  exact ht h2.2.1
theorem SHp.pushed {V w w1 : World} {h : Nat} {xs : List Cel} {tr : List Int} {k : Int} (H : SHp V w h xs tr k) {pt : Option Addr} {ct : Nat} (c1 : w.cell? ⟨h, 1, none⟩ = some (.slice pt tr.length ct)) (hg : w.grownBy w1 (Value.ownBlock (.slice pt tr.length ct))) {g ct' : Nat} {z : Int} (ho : OwnI w1 V.heap.size 3 (some ⟨g, 0, none⟩) (tr.length + 1) ct' (tr ++ [z])) :
    SHp V (w1.setCell ⟨h, 1, none⟩ (.slice (some ⟨g, 0, none⟩) (tr.length + 1) ct')) h xs (tr ++ [z]) k := by
  obtain ⟨pc, cc, pt', ct2, h0, h1, h2, h3, h4⟩ := H
  have e : w.cell? ⟨h, 1, none⟩ = some (.slice pt' tr.length ct2) := by simp [World.cell?, h0]
  rw [e] at c1
  simp only [Option.some.injEq, Value.slice.injEq, true_and] at c1
  obtain ⟨rfl, rfl⟩ := c1
  have hl : h < w.heap.size := (Array.getElem?_eq_some_iff.1 h0).1
  have b0 := (hg.block h hl (fun e => row_ne2 h2.2 h0 (by decide) e.symm)).trans h0
  obtain ⟨hn, rs, hrl, hr, hf⟩ := h1
  have r1 : w1.ownsRow V.heap.size 31 3 (.slice pc xs.length cc) xs.length (flat rs) := by
    refine ⟨hr.1, ?_⟩
    rcases hr.2 with h' | ⟨g1, cap, cur, hv, hB, hgg, r⟩
    · exact .inl h'
    · exact .inr ⟨g1, cap, cur, hv, hB, (hg.block g1 (Array.getElem?_eq_some_iff.1 hgg).1 (fun e => row_ne3 hr h2.2 (by decide) (g := g1) (by rw [hv]; rfl) e.symm)).trans hgg, r⟩
  have hle : (tr ++ [z]).length = tr.length + 1 := by simp
  refine ⟨pc, cc, some ⟨g, 0, none⟩, ct', ?_, ⟨hn, rs, hrl, ownsRow_setCell_other r1 (row_ne2 r1 b0 (by decide)) _, hf⟩, ?_, h3, ?_⟩
  · rw [heap_setCell_same _ _ _ _ _ _ b0, hle]; rfl
  · rw [hle]
    exact ⟨ho.1, ownsRow_setCell_other ho.2 (row_ne2 ho.2 b0 (by decide)) _⟩
  · exact (h4.grown hg (by omega) (fun k e => (h2.2.lt _ e).1)).setCell (p := ⟨h, 1, none⟩) h3 _

set_option maxHeartbeats 1000000 in
set_option maxRecDepth 100000 in
theorem l10set_any (V : World) (h : Nat) (a : Nat) (p : Option Addr) (cp : Nat) (c : Cel) (xs : List Cel) (tr : List Int) (kk : Int) (w : World) (hl : xs.length ≤ 20000) (ht : tr.length ≤ 20000) (ha : a < xs.length) (hp : BIn V p c.2.2) (H : SHp V w h xs tr kk) :
    Calls Try.prog 87 #[.pointer (some ⟨h, 0, none⟩), .int .i64 a, .agg #[.int .i64 c.1, .int .i64 c.2.1, .slice p c.2.2.length cp]] w fun e w' => if 20000 ≤ tr.length then e = .returned (.int .i64 10) ∧ Below V.heap.size w w' else e = .returned (.int .i64 0) ∧ SHp V w' h (xs.set a c) (tr ++ [(a : Int)]) kk := by
  obtain ⟨W0, eW0⟩ : ∃ W, W = w.alloc (.cells #[.int .i64 c.1, .int .i64 c.2.1, .slice p c.2.2.length cp] 31) := ⟨_, rfl⟩
  have hB0 : Below w.heap.size w W0 := by rw [eW0]; exact alloc_on _ _
  have HB : Hid (Box3 W0 w.heap.size (.int .i64 c.1) (.int .i64 c.2.1) (.slice p c.2.2.length cp)) := by show Box3 _ _ _ _ _; rw [eW0]; exact Box3.of_block (t := 31) (heap_alloc_new _ _)
  obtain ⟨pc, cc, pt, ct, hh', hrow', hint', hV, hB'⟩ := id H
  have hh := (hB0.block h (Array.getElem?_eq_some_iff.1 hh').1).trans hh'
  have hrow := hrow'.below hB0
  have hint := hint'.below hB0
  have hB := Below.on hB' hB0
  have HRB : Hid (∀ gg : Nat, pc = some ⟨gg, 0, none⟩ → gg < w.heap.size) := fun gg e => by
    obtain ⟨_, rs, _, hr, _⟩ := hrow'
    exact (hr.lt gg (by rw [e]; rfl)).2
  clear hh' hrow' hint' hB'
  have c1 : W0.cell? ⟨h, 1, none⟩ = some (.slice pt tr.length ct) := by simp [World.cell?, hh]
  have c0 : W0.cell? ⟨h, 0, none⟩ = some (.slice pc xs.length cc) := by simp [World.cell?, hh]
  have HE0 : Hid _ := eW0
  obtain ⟨b0, b1, b2, b3⟩ := HB.out
  by_cases hfull : 20000 ≤ tr.length
  · simp only [if_pos hfull]
    have hge : (20000 : Int) ≤ tr.length := by omega
    have HZ : Hid (Below V.heap.size w W0) := hB0.mono (by obtain ⟨_, _, _, _, _, _, _, _, hb⟩ := H; exact hb.size)
    rw [eW0] at c1
    clear hh hrow hint hV hB H c0 hp hfull eW0 b0 b1 b2 b3
    go_enter Try.func87, Try.ntmps87
    go_wp2_with fail
    rw [← HE0.out]
    go_ret
    exact ⟨rfl, HZ.out⟩
  · simp only [if_neg hfull]
    have hge : ¬ (20000 : Int) ≤ tr.length := by omega
    obtain ⟨gg, qx, cx, rfl, hg1, hg2, d0, d1, d2, hbx⟩ := hrow.at a ha
    clear hfull
    generalize (xs.getD a Cel.none).1 = y0 at d0
    generalize (xs.getD a Cel.none).2.1 = y1 at d1
    generalize (xs.getD a Cel.none).2.2.length = y2 at d2
    have hbd : Below W0.heap.size W0 W0.drew := (Below.refl _ _).drew
    have hhD := (hbd.block h (Array.getElem?_eq_some_iff.1 hh).1).trans hh
    have HH : Hid _ := SHp.setC hhD (hrow.below hbd) (hint.below hbd) hV (Below.on hB hbd) ha c p cp hp
    have hf : ∀ i, W0.frozen? ⟨gg, i, none⟩ = false := fun i => by obtain ⟨_, rs, _, hr, _⟩ := hrow; exact hr.frozenAt i
    have hgw : gg < W0.heap.size := by obtain ⟨_, rs, _, hr, _⟩ := hrow; exact (hr.lt gg rfl).2
    have hgh : gg ≠ h := fun e => by
      obtain ⟨_, rs, _, hr, _⟩ := hrow
      obtain ⟨cur, hg⟩ := ownsRow_block hr (g := gg) rfl
      rw [e, hh] at hg
      simp only [Option.some.injEq, Obj.cells.injEq] at hg
      exact absurd hg.2.1 (by decide)
    have hgb : gg ≠ w.heap.size := by have := HRB.out gg rfl; omega
    clear hh hrow hint hV hB H hp hbx eW0 hhD
    have c1' := c1
    rw [HE0.out] at c1
    go_enter Try.func87, Try.ntmps87
    go_wp2_with fail
    rw [← HE0.out]
    clear c1
    refine wp_region_held_drew (S := fun W => W.cell? ⟨h, 0, none⟩ = some (.slice (some ⟨gg, 0, none⟩) xs.length cc) ∧ W.cell? ⟨w.heap.size, 0, none⟩ = some (.int .i64 c.1) ∧ W.cell? ⟨w.heap.size, 1, none⟩ = some (.int .i64 c.2.1) ∧ W.cell? ⟨w.heap.size, 2, none⟩ = some (.slice p c.2.2.length cp)) (by kernel_rfl) ⟨c0, b0, b1, b2⟩ (fun hHeld => ?_)
    refine hTake (i := 0) (v := .pointer (some ⟨h, 0, none⟩)) (some 13) (by kernel_rfl) (by kernel_rfl) (by kernel_rfl) (by kernel_rfl) (by kernel_rfl) (fun _ _ _ h => h) (fun o ho W hSw => ?y0) (by assumption) ?_
    case y0 =>
      cases ho
      simp [execOp, go_sem, Act.eval]
    simp only [Act.put, List.setIfInBounds_toArray, List.set_cons_zero, List.set_cons_succ]
    refine hTake (i := 1) (v := .pointer (some ⟨h, 0, none⟩)) (some 14) (by kernel_rfl) (by kernel_rfl) (by kernel_rfl) (by kernel_rfl) (by kernel_rfl) (fun _ _ _ h => h) (fun o ho W hSw => ?y1) (by assumption) ?_
    case y1 =>
      cases ho
      simp [execOp, go_sem, Act.eval]
    simp only [Act.put, List.setIfInBounds_toArray, List.set_cons_zero, List.set_cons_succ]
    refine hTake (i := 2) (v := .pointer (some ⟨h, 0, none⟩)) (some 15) (by kernel_rfl) (by kernel_rfl) (by kernel_rfl) (by kernel_rfl) (by kernel_rfl) (fun _ _ _ h => h) (fun o ho W hSw => ?y2) (by assumption) ?_
    case y2 =>
      cases ho
      simp [execOp, go_sem, Act.eval]
    simp only [Act.put, List.setIfInBounds_toArray, List.set_cons_zero, List.set_cons_succ]
    refine hTake (i := 3) (v := .slice (some ⟨gg, 0, none⟩) xs.length cc) (some 16) (by kernel_rfl) (by kernel_rfl) (by kernel_rfl) (by kernel_rfl) (by kernel_rfl) (fun _ _ _ h => h) (fun o ho W hSw => ?y3) (by assumption) ?_
    case y3 =>
      cases ho
      simp [execOp, go_sem, Act.eval, hSw]
    simp only [Act.put, List.setIfInBounds_toArray, List.set_cons_zero, List.set_cons_succ]
    refine hTake (i := 4) (v := .int .i64 a) (some 17) (by kernel_rfl) (by kernel_rfl) (by kernel_rfl) (by kernel_rfl) (by kernel_rfl) (fun _ _ _ h => h) (fun o ho W hSw => ?y4) (by assumption) ?_
    case y4 =>
      cases ho
      simp [execOp, go_sem, Act.eval]
    simp only [Act.put, List.setIfInBounds_toArray, List.set_cons_zero, List.set_cons_succ]
    refine hTake (i := 5) (v := .agg #[.int .i64 c.1, .int .i64 c.2.1, .slice p c.2.2.length cp]) (some 18) (by kernel_rfl) (by kernel_rfl) (by kernel_rfl) (by kernel_rfl) (by kernel_rfl) (fun _ _ _ h => h) (fun o ho W hSw => ?y5) (by assumption) ?_
    case y5 =>
      cases ho
      simp [execOp, go_sem, Act.eval, hSw]
    simp only [Act.put, List.setIfInBounds_toArray, List.set_cons_zero, List.set_cons_succ]
    refine hTake (i := 6) (v := .pointer (some ⟨gg, a * 3, none⟩)) (some 19) (by kernel_rfl) (by kernel_rfl) (by kernel_rfl) (by kernel_rfl) (by kernel_rfl) (fun _ _ _ h => h) (fun o ho W hSw => ?y6) (by assumption) ?_
    case y6 =>
      cases ho
      simp [execOp, go_sem, Act.eval, ha]
    simp only [Act.put, List.setIfInBounds_toArray, List.set_cons_zero, List.set_cons_succ]
    have hS9 : (fun W => W.cell? ⟨h, 0, none⟩ = some (.slice (some ⟨gg, 0, none⟩) xs.length cc) ∧ W.cell? ⟨w.heap.size, 0, none⟩ = some (.int .i64 c.1) ∧ W.cell? ⟨w.heap.size, 1, none⟩ = some (.int .i64 c.2.1) ∧ W.cell? ⟨w.heap.size, 2, none⟩ = some (.slice p c.2.2.length cp)) (((W0.drew.setCell ⟨gg, a * 3, none⟩ (.int .i64 c.1)).setCell ⟨gg, a * 3 + 1, none⟩ (.int .i64 c.2.1)).setCell ⟨gg, a * 3 + 2, none⟩ (.slice p c.2.2.length cp)) := ⟨(far3 hgh).trans c0, (far3 hgb).trans b0, (far3 hgb).trans b1, (far3 hgb).trans b2⟩
    refine hStore (i := 7) (w' := (((W0.drew.setCell ⟨gg, a * 3, none⟩ (.int .i64 c.1)).setCell ⟨gg, a * 3 + 1, none⟩ (.int .i64 c.2.1)).setCell ⟨gg, a * 3 + 2, none⟩ (.slice p c.2.2.length cp))) (by kernel_rfl) (by kernel_rfl) (by kernel_rfl) (fun o ho => ?y7) hS9 ?_
    case y7 =>
      cases ho
      simp [execOp, go_sem, Act.eval, d0, d1, d2, hf]
    have c1W : (((W0.drew.setCell ⟨gg, a * 3, none⟩ (.int .i64 c.1)).setCell ⟨gg, a * 3 + 1, none⟩ (.int .i64 c.2.1)).setCell ⟨gg, a * 3 + 2, none⟩ (.slice p c.2.2.length cp)).cell? ⟨h, 1, none⟩ = some (.slice pt tr.length ct) := (far3 hgh).trans c1'
    clear hS9 hHeld c0 b0 b1 b2 b3 d0 d1 d2 hf c1' HB hbd HE0 HRB hgw
    generalize (((W0.drew.setCell ⟨gg, a * 3, none⟩ (.int .i64 c.1)).setCell ⟨gg, a * 3 + 1, none⟩ (.int .i64 c.2.1)).setCell ⟨gg, a * 3 + 2, none⟩ (.slice p c.2.2.length cp)) = W2 at HH c1W ⊢
    refine wpAnyH_done (by kernel_rfl) ?_ _
    change Exit.then _ _ _ _ _
    have H3 := HH.out.1.below (alloc_on W2 (.cells #[.int .i64 (a : Int)] 3))
    have hn3 : (W2.alloc (.cells #[.int .i64 (a : Int)] 3)).cell? ⟨W2.heap.size, 0, none⟩ = some (.int .i64 (a : Int)) := by
      unfold World.cell?
      rw [heap_alloc_new W2 (.cells #[.int .i64 (a : Int)] 3)]
      rfl
    have c13 : (W2.alloc (.cells #[.int .i64 (a : Int)] 3)).cell? ⟨h, 1, none⟩ = some (.slice pt tr.length ct) := ((alloc_on W2 _).cell (World.block_lt_of_cell? _ _ c1W)).trans c1W
    obtain ⟨pc3, cc3, pt3, ct3, hh3, hrow3, hint3, hV3, hB3⟩ := id H3
    have e3 : (W2.alloc (.cells #[.int .i64 (a : Int)] 3)).cell? ⟨h, 1, none⟩ = some (.slice pt3 tr.length ct3) := by simp [World.cell?, hh3]
    rw [c13] at e3
    simp only [Option.some.injEq, Value.slice.injEq, true_and] at e3
    obtain ⟨rfl, rfl⟩ := e3
    obtain ⟨g9, cap9, w9, hr9, ho9, hg9⟩ := app_intM (W2.alloc (.cells #[.int .i64 (a : Int)] 3)) 23 V.heap.size pt ct W2.heap.size tr (a : Int) ht hB3.size hint3 hn3
    have HF : Hid _ := H3.pushed c13 hg9 ho9
    have b9 := (hg9.block h (Array.getElem?_eq_some_iff.1 hh3).1 (fun e => row_ne2 hint3.2 hh3 (by decide) e.symm)).trans hh3
    have k9 : w9.cell? ⟨h, 1, none⟩ = some (.slice pt tr.length ct) := by simp [World.cell?, b9]
    have f9 : w9.frozen? ⟨h, 1, none⟩ = false := frozen_of_row _ _ _ _ _ b9
    clear hh3 hrow3 hint3 hV3 hB3 H3 hn3 c13 ho9 hg9 b9 HH
    go_wp2_with (at_builtin; refine wpList_app_run rfl _ _ _ _ rfl _ _ _ _ _ rfl rfl hr9 ?_)
    go_ret
    exact ⟨rfl, HF.out⟩

end Go.Proofs.Ytedkkghekboahaa

