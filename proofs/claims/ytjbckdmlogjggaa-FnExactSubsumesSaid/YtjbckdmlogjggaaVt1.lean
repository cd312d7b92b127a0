/- Variant, both sides. Own work of the verifier. -/
import Derived.Test.YtjbckdmlogjggaaStk5
import Derived.Test.YtjbckdmlogjggaaRen3
import Derived.Test.YtjbckdmlogjggaaCmp0
namespace Go.Proofs.Ytjbckdmlogjggaa
open Go Go.RowKit
set_option linter.unusedVariables false

theorem cellCmp_zero {x y : Cel} (hx : Byte x.2.2) (hy : Byte y.2.2) : cellCmp x y = 0 ↔ x = y := by
  obtain ⟨a, b, c⟩ := x
  obtain ⟨a', b', c'⟩ := y
  simp only at hx hy
  simp only [cellCmp]
  by_cases h1 : a = a'
  · by_cases h2 : b = b'
    · subst h1 h2
      have hs := str_inj hx hy
      rw [beq_toListBytes] at hs
      simp only [ne_eq, not_true_eq_false, if_false, hs]
      by_cases h3 : c = c'
      · simp [h3]
      · simp [h3, sgn_ne]
    · simp [h1, h2, sgn_ne]
  · simp [h1, sgn_ne]
theorem cmpC_zero : ∀ (xs ys : List Cel), xs.length = ys.length → (∀ x ∈ xs, Byte x.2.2) → (∀ y ∈ ys, Byte y.2.2) → (cmpC xs ys = 0 ↔ xs = ys)
  | [], [], _, _, _ => by simp [cmpC]
  | [], _ :: _, h, _, _ => by simp at h
  | _ :: _, [], h, _, _ => by simp at h
  | x :: xs, y :: ys, h, hx, hy => by
    have h0 := cellCmp_zero (hx x (by simp)) (hy y (by simp))
    have ih := cmpC_zero xs ys (by simpa using h) (fun z hz => hx z (by simp [hz])) (fun z hz => hy z (by simp [hz]))
    simp only [cmpC]
    by_cases hc : cellCmp x y = 0
    · rw [if_neg (by simp [hc]), ih, h0.1 hc]; simp
    · rw [if_pos hc]
      constructor
      · intro e; exact absurd e hc
      · intro e; injection e with e1 e2; exact absurd (h0.2 e1) hc
theorem byte_mem {cs : List Cel} (hb : ∀ i, i < cs.length → Byte (cs.getD i Cel.none).2.2) : ∀ x ∈ cs, Byte x.2.2 := fun x hx => by
  obtain ⟨i, hi, e⟩ := List.getElem_of_mem hx
  have := hb i hi
  rwa [List.getD, List.getElem?_eq_getElem hi, Option.getD_some, e] at this
theorem ren_byte {cs : List Cel} (hb : ∀ x ∈ cs, Byte x.2.2) : ∀ y ∈ renCells cs, Byte y.2.2 := fun y hy => by
  obtain ⟨x, hx, rfl⟩ := List.mem_map.1 hy
  rw [renI_text]; exact hb x hx
theorem ren_len (cs : List Cel) : (renCells cs).length = cs.length := by simp [renCells]
/-- What Variant answers. -/
def variantB (xs ys : List Cel) : Bool := validB xs && validB ys && decide (renCells xs = renCells ys)

set_option maxRecDepth 100000 in
set_option maxHeartbeats 1000000 in
theorem implVariant_any (xs ys : List Cel) (p q : Option Addr) (w : World) (hx : ∀ i, i < xs.length → Byte (xs.getD i Cel.none).2.2) (hy : ∀ i, i < ys.length → Byte (ys.getD i Cel.none).2.2) (hn : xs.length ≤ 1000000000) (hm : ys.length ≤ 1000000000) (hp : CIn w p xs) (hq : CIn w q ys) :
    Calls Try.prog 13 #[.slice p xs.length xs.length, .slice q ys.length ys.length] w fun e w' => e = .returned (.bool (variantB xs ys)) ∧ Below w.heap.size w w' := by
  have HV1 := implValid_any p xs.length xs w hn hp
  by_cases h1 : validB xs = true
  · have HV2 : Hid (∀ W, Below w.heap.size w W → Calls Try.prog 31 #[.slice q ys.length ys.length] W fun e w' => e = .returned (.bool (validB ys)) ∧ Below W.heap.size W w') := fun W hW => implValid_any q ys.length ys W hm (hq.below hW)
    rw [h1] at HV1
    by_cases h2 : validB ys = true
    · rw [h2] at HV2
      obtain ⟨c, k, ex, hok, hlx⟩ := tree_of hx h1
      obtain ⟨c', k', ey, hok', hly⟩ := tree_of hy h2
      have HR : Hid (variantB xs ys = decide (renCells xs = renCells ys)) := by show _ = _; rw [variantB, h1, h2]; rfl
      obtain ⟨n, en⟩ : ∃ n, n = xs.length := ⟨_, rfl⟩
      obtain ⟨m, em⟩ : ∃ m, m = ys.length := ⟨_, rfl⟩
      rw [← en] at HV1 hn hlx ⊢
      rw [← em] at HV2 hm hly ⊢
      have HX : Hid (xs = c :: k.cells ∧ n = xs.length ∧ (Fo.node c k .nil).ok) := ⟨ex, en, hok⟩
      have HY : Hid (ys = c' :: k'.cells ∧ m = ys.length ∧ (Fo.node c' k' .nil).ok) := ⟨ey, em, hok'⟩
      have HT1 : Hid (∀ W, Below w.heap.size w W → Calls Try.prog 33 #[.slice p n n] W fun e w' => ∃ v, e = .returned v ∧ FoIn w' W.heap.size (.node c k .nil) [v] ∧ Below W.heap.size W w') := fun W hW => termOf_any c k p n n W hok (by rw [en, ex]; simp) (Nat.le_refl _) hn (by have := hp.below hW; rwa [ex] at this)
      have HT2 : Hid (∀ W, Below w.heap.size w W → Calls Try.prog 33 #[.slice q m m] W fun e w' => ∃ v, e = .returned v ∧ FoIn w' W.heap.size (.node c' k' .nil) [v] ∧ Below W.heap.size W w') := fun W hW => termOf_any c' k' q m m W hok' (by rw [em, ey]; simp) (Nat.le_refl _) hm (by have := hq.below hW; rwa [ey] at this)
      clear h1 h2 hx hy hp hq ex ey en em hok hok'
      go_enter Try.func13, Try.ntmps13
      go_wp2_with fail
      refine HV1.mono ?_
      rintro e w1 ⟨rfl, hb1⟩
      have HB1 : Hid (Below w.heap.size w w1) := hb1
      clear hb1 HV1
      go_wp2_with fail
      refine (HV2.out w1 HB1.out).mono ?_
      rintro e w2 ⟨rfl, hb2⟩
      have HB2 : Hid (Below w.heap.size w w2) := Below.on HB1.out hb2
      clear hb2
      go_wp2_with fail
      refine (HT1.out w2 HB2.out).mono ?_
      rintro e w3 ⟨v3, rfl, hf3, hb3⟩
      have HB3 : Hid (Below w.heap.size w w3) := Below.on HB2.out hb3
      have hk1 : k.cells.length ≤ 10000 := by have := HX.out.1; have := HX.out.2.1; rw [HX.out.1] at this; simp at this; omega
      have hk2 : k'.cells.length ≤ 10000 := by have := HY.out.2.1; rw [HY.out.1] at this; simp at this; omega
      have HN3 := renumber_any c k v3 w2.heap.size w3 HX.out.2.2 hf3 hk1
      obtain ⟨t3, y3, rfl⟩ := hf3.iface
      clear hb3 hf3
      go_wp2_with fail
      refine HN3.mono ?_
      rintro e w4 ⟨v4, rfl, hf4, hb4⟩
      have HB4 : Hid (Below w.heap.size w w4) := Below.on HB3.out hb4
      have HF4 : Hid _ := hf4
      obtain ⟨t4, y4, rfl⟩ := hf4.iface
      clear hb4 hf4 HN3
      go_wp2_with fail
      refine (HT2.out w4 HB4.out).mono ?_
      rintro e w5 ⟨v5, rfl, hf5, hb5⟩
      have HB5 : Hid (Below w.heap.size w w5) := Below.on HB4.out hb5
      have HB45 : Hid (Below w4.heap.size w4 w5) := hb5
      have HN5 := renumber_any c' k' v5 w4.heap.size w5 HY.out.2.2 hf5 hk2
      obtain ⟨t5, y5, rfl⟩ := hf5.iface
      clear hb5 hf5
      go_wp2_with fail
      refine HN5.mono ?_
      rintro e w6 ⟨v6, rfl, hf6, hb6⟩
      have HB6 : Hid (Below w.heap.size w w6) := Below.on HB5.out hb6
      have hlen : ∀ (c : Cel) (k : Fo), k.cells.length ≤ 10000 → (visits [] (c :: k.cells)).length ≤ 1000000 := fun c k h => by have := visits_len (c :: k.cells) []; simp at this; omega
      have ok1 : Tr.ok (renI (visits [] (c :: k.cells)) c, k.map (renI (visits [] (c :: k.cells)))) := Fo.ok_ren (hlen c k hk1) (.node c k .nil) HX.out.2.2
      have ok2 : Tr.ok (renI (visits [] (c' :: k'.cells)) c', k'.map (renI (visits [] (c' :: k'.cells)))) := Fo.ok_ren (hlen c' k' hk2) (.node c' k' .nil) HY.out.2.2
      have HS := isSame_any w6 0 w6 ((renI (visits [] (c :: k.cells)) c, k.map (renI (visits [] (c :: k.cells)))), (renI (visits [] (c' :: k'.cells)) c', k'.map (renI (visits [] (c' :: k'.cells))))) (.iface t4 y4) v6 (Below.refl _ _) (FoIn.mono (FoIn.below HF4.out (Below.on HB45.out hb6)) (Nat.zero_le _)) (FoIn.mono hf6 (Nat.zero_le _)) ok1 ok2 (by simp only [Fo.cells_map, List.length_map]; exact hk1)
      have he : eqT ((renI (visits [] (c :: k.cells)) c, k.map (renI (visits [] (c :: k.cells)))), (renI (visits [] (c' :: k'.cells)) c', k'.map (renI (visits [] (c' :: k'.cells))))) = variantB xs ys := by
        rw [eqT_cells ok1 ok2, HR.out, HX.out.1, HY.out.1]
        simp only [Fo.cells_map, renCells, List.map_cons]
      rw [he] at HS
      obtain ⟨t6, y6, rfl⟩ := hf6.iface
      obtain ⟨R, eR⟩ : ∃ R, R = variantB xs ys := ⟨_, rfl⟩
      rw [← eR] at HS
      have HER : Hid (R = variantB xs ys) := eR
      clear hb6 hf6 HN5 he eR hlen ok1 ok2
      go_wp2_with fail
      refine HS.mono ?_
      rintro e w7 ⟨rfl, hb7⟩
      have HB7 : Hid (Below w.heap.size w w7) := Below.on HB6.out hb7
      clear hb7 HS
      go_wp2_with fail
      go_ret
      exact ⟨ret_bool HER.out, HB7.out⟩
    · have h2' : validB ys = false := by simpa using h2
      have hr : variantB xs ys = false := by rw [variantB, h2']; simp
      rw [h2'] at HV2
      rw [hr]
      clear h1 h2 h2' hx hy hp hq hr
      go_enter Try.func13, Try.ntmps13
      go_wp2_with fail
      refine HV1.mono ?_
      rintro e w1 ⟨rfl, hb1⟩
      have HB1 : Hid (Below w.heap.size w w1) := hb1
      clear hb1 HV1
      go_wp2_with fail
      refine (HV2.out w1 HB1.out).mono ?_
      rintro e w2 ⟨rfl, hb2⟩
      have HB2 : Hid (Below w.heap.size w w2) := Below.on HB1.out hb2
      clear hb2
      go_wp2_with fail
      go_ret
      exact ⟨rfl, HB2.out⟩
  · have h1' : validB xs = false := by simpa using h1
    have hr : variantB xs ys = false := by rw [variantB, h1']; simp
    rw [h1'] at HV1
    rw [hr]
    clear h1 h1' hx hy hp hq hr
    go_enter Try.func13, Try.ntmps13
    go_wp2_with fail
    refine HV1.mono ?_
    rintro e w1 ⟨rfl, hb1⟩
    go_wp2_with fail
    go_ret
    exact ⟨rfl, hb1⟩

set_option maxRecDepth 100000 in
set_option maxHeartbeats 1000000 in
theorem specVariant_any (xs ys : List Cel) (p q : Option Addr) (w : World) (hx : ∀ i, i < xs.length → Byte (xs.getD i Cel.none).2.2) (hy : ∀ i, i < ys.length → Byte (ys.getD i Cel.none).2.2) (hn : xs.length + tl xs ≤ 10000000) (hm : ys.length + tl ys ≤ 10000000) (hp : CIn w p xs) (hq : CIn w q ys) :
    Calls Try.prog 12 #[.slice p xs.length xs.length, .slice q ys.length ys.length] w fun e w' => e = .returned (.bool (variantB xs ys)) ∧ Below w.heap.size w w' := by
  have HV1 := specValid_any p xs.length xs w (by omega) hp
  by_cases h1 : validB xs = true
  · have HV2 : Hid (∀ W, Below w.heap.size w W → Calls Try.prog 26 #[.slice q ys.length ys.length] W fun e w' => e = .returned (.bool (validB ys)) ∧ Below W.heap.size W w') := fun W hW => specValid_any q ys.length ys W (by omega) (hq.below hW)
    rw [h1] at HV1
    by_cases h2 : validB ys = true
    · rw [h2] at HV2
      by_cases hl : xs.length = ys.length
      · have HR : Hid (variantB xs ys = (cmpC (renCells xs) (renCells ys) == 0)) := by
          show _ = _
          rw [variantB, h1, h2, Bool.eq_iff_iff]
          simp [cmpC_zero _ _ (by rw [ren_len, ren_len]; exact hl) (ren_byte (byte_mem hx)) (ren_byte (byte_mem hy))]
        have HR1 : Hid (∀ W, Below w.heap.size w W → Calls Try.prog 35 #[.slice p xs.length xs.length] W fun e w' => ∃ q m c2, e = .returned (.slice q m c2) ∧ OwnC w' W.heap.size q m c2 (renCells xs) ∧ Below W.heap.size W w') := fun W hW => by
          have := specRen_any xs p xs.length xs.length W rfl hn (hp.below hW)
          rwa [if_pos h1] at this
        have HR2 : Hid (∀ W, Below w.heap.size w W → Calls Try.prog 35 #[.slice q ys.length ys.length] W fun e w' => ∃ q m c2, e = .returned (.slice q m c2) ∧ OwnC w' W.heap.size q m c2 (renCells ys) ∧ Below W.heap.size W w') := fun W hW => by
          have := specRen_any ys q ys.length ys.length W rfl hm (hq.below hW)
          rwa [if_pos h2] at this
        rw [← hl] at HV2 HR2 ⊢
        obtain ⟨n, en⟩ : ∃ n, n = xs.length := ⟨_, rfl⟩
        have HEN : Hid (n = xs.length ∧ n = ys.length ∧ n ≤ 10000000) := ⟨en, by rw [en, hl], by omega⟩
        rw [← en] at HV1 HV2 HR1 HR2 ⊢
        obtain ⟨R, eR⟩ : ∃ R, R = cmpC (renCells xs) (renCells ys) := ⟨_, rfl⟩
        have HER : Hid (R = cmpC (renCells xs) (renCells ys)) := eR
        rw [HR.out, ← eR]
        clear h1 h2 hx hy hp hq hl en hn hm eR HR
        go_enter Try.func12, Try.ntmps12
        go_wp2_with fail
        refine HV1.mono ?_
        rintro e w1 ⟨rfl, hb1⟩
        have HB1 : Hid (Below w.heap.size w w1) := hb1
        clear hb1 HV1
        go_wp2_with fail
        refine (HV2.out w1 HB1.out).mono ?_
        rintro e w2 ⟨rfl, hb2⟩
        have HB2 : Hid (Below w.heap.size w w2) := Below.on HB1.out hb2
        clear hb2
        go_wp2_with fail
        refine (HR1.out w2 HB2.out).mono ?_
        rintro e w3 ⟨p3, n3, c3, rfl, ho3, hb3⟩
        have HB3 : Hid (Below w.heap.size w w3) := Below.on HB2.out hb3
        have HO3 : Hid (CIn w3 p3 (renCells xs) ∧ n3 = (renCells xs).length) := ⟨ho3.cin, ho3.1⟩
        clear hb3 ho3
        go_wp2_with fail
        refine (HR2.out w3 HB3.out).mono ?_
        rintro e w4 ⟨p4, n4, c4, rfl, ho4, hb4⟩
        have HB4 : Hid (Below w.heap.size w w4) := Below.on HB3.out hb4
        have hb34 := hb4
        have HC := l2compare_any (renCells xs) (renCells ys) p3 p4 n3 n4 c3 c4 w4 HO3.out.2 ho4.1 (by have := HO3.out.2; rw [ren_len] at this; have := HEN.out; omega) (by have := ho4.1; rw [ren_len] at this; have := HEN.out; omega) (HO3.out.1.below hb34) ho4.cin
        rw [← HER.out] at HC
        clear hb4 ho4 hb34
        go_wp2_with fail
        refine HC.mono ?_
        rintro e w5 ⟨rfl, hb5⟩
        have HB5 : Hid (Below w.heap.size w w5) := Below.on HB4.out hb5
        clear hb5 HC
        go_wp2_with fail
        go_ret
        exact ⟨rfl, HB5.out⟩
      · have hr : variantB xs ys = false := by
          rw [variantB, h1, h2]
          simp only [Bool.true_and, decide_eq_false_iff_not]
          exact fun e => hl (by have := congrArg List.length e; rwa [ren_len, ren_len] at this)
        have hl' : ¬ (xs.length : Int) = (ys.length : Int) := by omega
        rw [hr]
        clear h1 h2 hx hy hp hq hr hl
        go_enter Try.func12, Try.ntmps12
        go_wp2_with fail
        refine HV1.mono ?_
        rintro e w1 ⟨rfl, hb1⟩
        have HB1 : Hid (Below w.heap.size w w1) := hb1
        clear hb1 HV1
        go_wp2_with fail
        refine (HV2.out w1 HB1.out).mono ?_
        rintro e w2 ⟨rfl, hb2⟩
        have HB2 : Hid (Below w.heap.size w w2) := Below.on HB1.out hb2
        clear hb2
        go_wp2_with fail
        go_ret
        exact ⟨rfl, HB2.out⟩
    · have h2' : validB ys = false := by simpa using h2
      have hr : variantB xs ys = false := by rw [variantB, h2']; simp
      rw [h2'] at HV2
      rw [hr]
      clear h1 h2 h2' hx hy hp hq hr
      go_enter Try.func12, Try.ntmps12
      go_wp2_with fail
      refine HV1.mono ?_
      rintro e w1 ⟨rfl, hb1⟩
      have HB1 : Hid (Below w.heap.size w w1) := hb1
      clear hb1 HV1
      go_wp2_with fail
      refine (HV2.out w1 HB1.out).mono ?_
      rintro e w2 ⟨rfl, hb2⟩
      have HB2 : Hid (Below w.heap.size w w2) := Below.on HB1.out hb2
      clear hb2
      go_wp2_with fail
      go_ret
      exact ⟨rfl, HB2.out⟩
  · have h1' : validB xs = false := by simpa using h1
    have hr : variantB xs ys = false := by rw [variantB, h1']; simp
    rw [h1'] at HV1
    rw [hr]
    clear h1 h1' hx hy hp hq hr
    go_enter Try.func12, Try.ntmps12
    go_wp2_with fail
    refine HV1.mono ?_
    rintro e w1 ⟨rfl, hb1⟩
    go_wp2_with fail
    go_ret
    exact ⟨rfl, hb1⟩

end Go.Proofs.Ytjbckdmlogjggaa
