/- Texts of BdJ, BdS, MkU. Own work of the verifier. -/
import Derived.Test.YtfnmoaiejpkocaaUqay
import Derived.Test.YtfnmoaiejpkocaaUqar
import Derived.Test.YtfnmoaiejpkocaaUqaw
import Derived.Test.YtfnmoaiejpkocaaUqam
namespace Go.Proofs.Ytfnmoaiejpkocaa
open Go Go.RowKit Go.Maps
set_option linter.unusedVariables false

theorem eqR_ref (w : World) (x y : Int) : (binOp .eql 70 (.iface 100 (.int .i64 x)) (.iface 100 (.int .i64 y))).run Try.prog w = .ok (.bool (x == y)) w := by kernel_rfl
theorem eqR_num (w : World) (x : Value) (y : Int) : (binOp .eql 70 (.iface 121 x) (.iface 100 (.int .i64 y))).run Try.prog w = .ok (.bool false) w := by kernel_rfl
theorem eqR_atom (w : World) (x : Value) (y : Int) : (binOp .eql 70 (.iface 122 x) (.iface 100 (.int .i64 y))).run Try.prog w = .ok (.bool false) w := by kernel_rfl
theorem eqR_str (w : World) (x : Value) (y : Int) : (binOp .eql 70 (.iface 123 x) (.iface 100 (.int .i64 y))).run Try.prog w = .ok (.bool false) w := by kernel_rfl
theorem eqR_any (w : World) (d : Cel) (y : Int) (hd : d.1 = 0 ∨ d.1 = 1 ∨ d.1 = 2 ∨ d.1 = 4) : (binOp .eql 70 (wv d) (.iface 100 (.int .i64 y))).run Try.prog w = .ok (.bool (decide (d.1 = 0 ∧ d.2.1 = y))) w := by
  obtain ⟨k, n, t⟩ := d
  simp only at hd ⊢
  rcases hd with rfl | rfl | rfl | rfl
  · have e : wv (0, n, t) = .iface 100 (.int .i64 n) := rfl
    rw [e, eqR_ref]
    by_cases h : n = y <;> simp [h]
  · have e : wv (1, n, t) = .iface 121 (.int .i64 n) := rfl
    rw [e, eqR_num]; simp
  · have e : wv (2, n, t) = .iface 122 (.string (strOfNums t)) := rfl
    rw [e, eqR_atom]; simp
  · have e : wv (4, n, t) = .iface 123 (.int .i64 n) := rfl
    rw [e, eqR_str]; simp
theorem SMap.empty {w : World} {m : Nat} (h : w.heap[m]? = some (.map #[] 0)) : SMap w m 0 (fun _ => 0) := by
  obtain ⟨D, ⟨es, clock, h1, r⟩, h2⟩ := SMap.made w
  rw [heap_alloc_new] at h1
  simp only [Option.some.injEq, Obj.map.injEq] at h1
  obtain ⟨rfl, rfl⟩ := h1
  exact ⟨D, ⟨_, _, h, r⟩, h2⟩
theorem set_all {P : Cel → Prop} {xs : List Cel} (h : ∀ i, i < xs.length → P (xs.getD i Cel.none)) {a : Nat} {c : Cel} (hc : P c) : ∀ i, i < (xs.set a c).length → P ((xs.set a c).getD i Cel.none) := fun i hi => by
  rw [List.length_set] at hi
  have e : (xs.set a c).getD i Cel.none = if a = i then c else xs.getD i Cel.none := by
    simp only [List.getD, List.getElem?_set]
    by_cases ha : a = i
    · subst ha; simp [hi]
    · simp [ha]
  rw [e]
  split
  · exact hc
  · exact h i hi
/-- What is bound is a store again, as far as its cells go. -/
theorem bndT_fine {P : Cel → Prop} {xs : List Cel} {tr : List Int} {a : Nat} {c : Cel} (hl : xs.length ≤ 20000) (h : ∀ i, i < xs.length → P (xs.getD i Cel.none)) (hc : P c) (hv : P (0, (a : Int), [])) :
    (bndT xs tr a c).1.1.length ≤ 20000 ∧ (bndT xs tr a c).1.2.length ≤ 20000 ∧ (∀ i, i < (bndT xs tr a c).1.1.length → P ((bndT xs tr a c).1.1.getD i Cel.none)) ∧ ((bndT xs tr a c).2 ≠ 0 → (bndT xs tr a c).1 = ([], [])) := by
  unfold bndT
  split
  · exact ⟨by simp, by simp, fun i hi => absurd hi (Nat.not_lt_zero _), fun _ => rfl⟩
  · split
    · exact ⟨by simp, by simp, fun i hi => absurd hi (Nat.not_lt_zero _), fun _ => rfl⟩
    · split
      · exact ⟨by simpa using hl, by simp; omega, set_all h hv, fun hh => absurd rfl hh⟩
      · exact ⟨by simpa using hl, by simp; omega, set_all h hc, fun hh => absurd rfl hh⟩

set_option maxHeartbeats 4000000 in
set_option maxRecDepth 100000 in
theorem implBind_any (p q pt : Option Addr) (c1 c2 cap : Nat) (a : Int) (c : Cel) (xs : List Cel) (tr : List Int) (w : World) (hx : xs.length ≤ 1000000000) (hy : tr.length ≤ 1000000000) (hbx : ∀ a, a < xs.length → Byte (xs.getD a Cel.none).2.2) (hbc : Byte c.2.2) (hc : CIn w p xs) (hi : IIn w q tr) (hin : BIn w pt c.2.2) :
    Calls Try.prog 29 #[.agg #[.slice p xs.length c1, .slice q tr.length c2], .int .i64 a, .agg #[.int .i64 c.1, .int .i64 c.2.1, .slice pt c.2.2.length cap]] w (StoreA (bndA xs tr a c) w) := by
  obtain ⟨k, n, t⟩ := c
  obtain ⟨W0, eW0⟩ : ∃ W0, W0 = ((w.alloc (.cells #[.slice p xs.length c1, .slice q tr.length c2] 36)).alloc (.cells #[.int .i64 k, .int .i64 n, .slice pt t.length cap] 31)).alloc (.cells #[.slice none 0 0, .slice none 0 0] 36) := ⟨_, rfl⟩
  have hb0 : Below w.heap.size w W0 := by rw [eW0]; exact (((Below.refl _ _).alloc (Nat.le_refl _) _).alloc (by simp) _).alloc (by simp; omega) _
  have hz0 : W0.heap.size = w.heap.size + 1 + 1 + 1 := by rw [eW0]; simp
  have k1 : W0.heap[w.heap.size + 1 + 1]? = some (.cells #[.slice none 0 0, .slice none 0 0] 36) := by
    rw [eW0]
    exact (heap_three w _ _ _).2
  have HBX : Hid (∀ W, Below W0.heap.size W0 W → Box2 W (w.heap.size + 1 + 1) (.slice none 0 0) (.slice none 0 0)) := fun W hW => Box2.of_block ((hW.block (w.heap.size + 1 + 1) (by omega)).trans k1)
  have HO := heapWithO_any p q pt c1 c2 cap k n t xs tr W0 hx hy (hc.below hb0) (hi.below hb0) (hin.below hb0)
  have HB0 : Hid (∀ W v0 v1, Below W0.heap.size W0 W → Below w.heap.size w ((W.setCell ⟨w.heap.size + 1 + 1, 0, none⟩ v0).setCell ⟨w.heap.size + 1 + 1, 1, none⟩ v1)) := fun W v0 v1 hW => below_put2 (Below.on hb0 hW) (by omega) _ _
  have HE0 : Hid _ := eW0
  have HZ0 : Hid _ := hz0
  have HBY : Hid (∀ a, a < xs.length → Byte (xs.getD a Cel.none).2.2) := hbx
  have HBC : Hid (Byte t) := hbc
  clear hc hi hin hb0 k1 hbx hz0 hbc
  unfold WithOutO at HO
  rw [eW0] at HO
  cases hv : vsB xs tr k n t.length
  · have HA : Hid (bndA xs tr a (k, n, t) = (([], []), 1)) := by show _ = _; unfold bndA; rw [if_neg (by simp [hv])]
    rw [HA.out]
    rw [hv] at HO
    clear hv HA eW0 HBY HBC
    go_enter Try.func29, Try.ntmps29
    go_wp2_with fail
    refine HO.mono ?_
    rintro e w1 ⟨v, u, rfl, hb, _⟩
    rw [← HE0.out] at hb
    have HBn : Hid (Below W0.heap.size W0 w1) := hb
    clear hb HO
    have HR : Hid _ := (HBX.out w1 HBn.out).put (.slice none 0 0) (.slice none 0 0)
    have HBF : Hid _ := HB0.out w1 (.slice none 0 0) (.slice none 0 0) HBn.out
    obtain ⟨b0, b1, b2⟩ := HBX.out w1 HBn.out
    clear HBX HB0
    go_wp2
    obtain ⟨d0, d1, _⟩ := HR.out
    exact bodyPost_ret (v := .tuple #[.agg #[.slice none 0 0, .slice none 0 0], .int .i64 1]) (by simp [results, Try.results29, go_sem, d0, d1]) rfl (StoreA.none 1 HBF.out)
  · rw [hv] at HO
    obtain ⟨g, hw, ho, hoc, ht⟩ := vsB_parts (c := (k, n, t)) hv
    have hl := g.shp.len
    have HV : Hid (∀ W h m, HeapO W h xs tr m 0 → Calls Try.prog 64 #[.pointer (some ⟨h, 0, none⟩), .int .i64 a] W fun e w' => e = .returned (.bool (varB xs a)) ∧ Below W.heap.size W w') := fun W h m H => holdsVariable_any h a xs tr W hl g.shp.knds H.at
    cases hva : varB xs a
    · have HA : Hid (bndA xs tr a (k, n, t) = (([], []), 1)) := by show _ = _; unfold bndA; rw [if_neg (by simp [hva])]
      rw [HA.out]
      rw [hva] at HV
      clear hv hva HA eW0 HBY HBC g hw ho hoc
      go_enter Try.func29, Try.ntmps29
      go_wp2_with fail
      refine HO.mono ?_
      rintro e w1 ⟨v, u, rfl, hb, hh⟩
      obtain ⟨h, m, rfl, rfl, hho, hm0, hmw⟩ := hh (by trivial)
      rw [← HE0.out] at hb hmw
      have HB1 : Hid (Below W0.heap.size W0 w1) := hb
      have HHO : Hid (HeapO w1 h xs tr m 0) := hho
      have HM0 : Hid (w1.heap[m]? = some (.map #[] 0)) := hm0
      have HMW : Hid (W0.heap.size ≤ m) := hmw
      clear hb HO hh hho hm0 hmw
      go_wp2_with fail
      refine (HV.out w1 h m HHO.out).mono ?_
      rintro e w2 ⟨rfl, hb2⟩
      have HBn : Hid (Below W0.heap.size W0 w2) := Below.on HB1.out hb2
      clear hb2 HV
      have HR : Hid _ := (HBX.out w2 HBn.out).put (.slice none 0 0) (.slice none 0 0)
      have HBF : Hid _ := HB0.out w2 (.slice none 0 0) (.slice none 0 0) HBn.out
      obtain ⟨b0, b1, b2⟩ := HBX.out w2 HBn.out
      clear HBX HB0
      go_wp2
      obtain ⟨d0, d1, _⟩ := HR.out
      exact bodyPost_ret (v := .tuple #[.agg #[.slice none 0 0, .slice none 0 0], .int .i64 1]) (by simp [results, Try.results29, go_sem, d0, d1]) rfl (StoreA.none 1 HBF.out)
    · obtain ⟨n0, rfl⟩ : ∃ j : Nat, a = j := ⟨a.toNat, by have := varB_at hva; omega⟩
      have hn0 : n0 < xs.length := by have := varB_at hva; omega
      rw [hva] at HV
      have HD : Hid (∀ h W, HeapAt W h xs tr → Calls Try.prog 45 #[.pointer (some ⟨h, 0, none⟩), wv (k, n, t)] W fun e w' => e = .returned (wv (drf xs (k, n, t))) ∧ Below W.heap.size W w') := fun h W H => deref_any h _ xs tr W g hw H
      have HWD : Hid (WdC xs (drf xs (k, n, t))) := (drf_word g hw).1
      have HFA : Hid ((okW (drf xs (k, n, t)).1 (drf xs (k, n, t)).2.1 (drf xs (k, n, t)).2.2.length = true) ∧ Byte (drf xs (k, n, t)).2.2) := (drf_ind g (P := fun c => okW c.1 c.2.1 c.2.2.length = true ∧ Byte c.2.2) (fun a ha _ => ⟨ho a ha, HBY.out a ha⟩) _ (k, n, t) (Nat.le_refl _) hw ⟨hoc, HBC.out⟩).1
      have HA : Hid (bndA xs tr n0 (k, n, t) = if (drf xs (k, n, t)).1 = 0 ∧ (drf xs (k, n, t)).2.1 = n0 then (([], []), 1) else bndT xs tr n0 (drf xs (k, n, t))) := by show _ = _; unfold bndA; rw [if_pos (by simp [hv, hva])]; rfl
      rw [HA.out]
      have HOK : Hid (∀ a, a < xs.length → okW (xs.getD a Cel.none).1 (xs.getD a Cel.none).2.1 (xs.getD a Cel.none).2.2.length = true) := ho
      have HSH : Hid (Shp xs) := g.shp
      clear hv hva HA eW0 HBC g hw ho hoc
      generalize drf xs (k, n, t) = d at HD HWD HFA ⊢
      have HEQ : ∀ W, (binOp .eql 70 (wv d) (.iface 100 (.int .i64 n0))).run Try.prog W = .ok (.bool (decide (d.1 = 0 ∧ d.2.1 = (n0 : Int)))) W := fun W => eqR_any W d n0 HWD.out.1
      by_cases hra : d.1 = 0 ∧ d.2.1 = n0
      · rw [if_pos hra]
        have ewv : wv d = .iface 100 (.int .i64 n0) := by unfold wv; rw [if_pos hra.1, hra.2]
        rw [ewv] at HD HEQ
        rw [decide_eq_true hra] at HEQ
        clear hra ewv HFA HWD HBY HOK
        go_enter Try.func29, Try.ntmps29
        go_wp2_with fail
        refine HO.mono ?_
        rintro e w1 ⟨v, u, rfl, hb, hh⟩
        obtain ⟨h, m, rfl, rfl, hho, hm0, hmw⟩ := hh (by trivial)
        rw [← HE0.out] at hb hmw
        have HB1 : Hid (Below W0.heap.size W0 w1) := hb
        have HHO : Hid (HeapO w1 h xs tr m 0) := hho
        have HM0 : Hid (w1.heap[m]? = some (.map #[] 0)) := hm0
        have HMW : Hid (W0.heap.size ≤ m) := hmw
        clear hb HO hh hho hm0 hmw
        go_wp2_with fail
        refine (HV.out w1 h m HHO.out).mono ?_
        rintro e w2 ⟨rfl, hb2⟩
        have HB2 : Hid (Below W0.heap.size W0 w2) := Below.on HB1.out hb2
        have HD2 := HD.out h w2 (HHO.out.below hb2).at
        clear hb2 HV HD
        go_wp2_with fail
        refine HD2.mono ?_
        rintro e w3 ⟨rfl, hb3⟩
        have HBn : Hid (Below W0.heap.size W0 w3) := Below.on HB2.out hb3
        clear hb3 HD2
        have HR : Hid _ := (HBX.out w3 HBn.out).put (.slice none 0 0) (.slice none 0 0)
        have HBF : Hid _ := HB0.out w3 (.slice none 0 0) (.slice none 0 0) HBn.out
        obtain ⟨b0, b1, b2⟩ := HBX.out w3 HBn.out
        clear HBX HB0
        go_wp2
        obtain ⟨d0, d1, _⟩ := HR.out
        exact bodyPost_ret (v := .tuple #[.agg #[.slice none 0 0, .slice none 0 0], .int .i64 1]) (by simp [results, Try.results29, go_sem, d0, d1]) rfl (StoreA.none 1 HBF.out)
      · rw [if_neg hra]
        rw [decide_eq_false hra] at HEQ
        have hF := bndT_fine (P := fun c => okW c.1 c.2.1 c.2.2.length = true ∧ Byte c.2.2) (tr := tr) (a := n0) (c := d) hl (fun i hi => ⟨HOK.out i hi, HBY.out i hi⟩) HFA.out ⟨okW_var n0 (by omega), fun x hx => by cases hx⟩
        have HBI : Hid (∀ W h m, HeapO W h xs tr m 0 → W.heap[m]? = some (.map #[] 0) → Calls Try.prog 65 #[.pointer (some ⟨h, 0, none⟩), .int .i64 n0, wv d] W (BindOut (bndT xs tr n0 d) h m 0 0 xs.length W)) := fun W h m H hm => bind_any h m 0 0 n0 xs tr (fun _ => 0) d W HSH.out hn0 (by omega) (by omega) ht HWD.out hra (fun _ => Nat.le_refl _) H (SMap.empty hm)
        generalize bndT xs tr n0 d = A at HBI hF ⊢
        obtain ⟨⟨X, T⟩, code⟩ := A
        simp only at hF
        have HSA : Hid (∀ W h, HeapAt W h X T → Calls Try.prog 61 #[.pointer (some ⟨h, 0, none⟩)] W (StoreOut X T W)) := fun W h H => store_any h X T W (by omega) (by omega) (fun a ha => (hF.2.2.1 a ha).1) (fun a ha => (hF.2.2.1 a ha).2) H
        have HNO : Hid (code ≠ 0 → (X, T) = ([], [])) := hF.2.2.2
        obtain ⟨ty, y, hvv⟩ := wv_iface d
        rw [hvv] at HBI HD HEQ
        clear hra HFA HWD HBY HOK HSH hF hvv
        go_enter Try.func29, Try.ntmps29
        go_wp2_with fail
        refine HO.mono ?_
        rintro e w1 ⟨v, u, rfl, hb, hh⟩
        obtain ⟨h, m, rfl, rfl, hho, hm0, hmw⟩ := hh (by trivial)
        rw [← HE0.out] at hb hmw
        have HB1 : Hid (Below W0.heap.size W0 w1) := hb
        have HHO : Hid (HeapO w1 h xs tr m 0) := hho
        have HM0 : Hid (w1.heap[m]? = some (.map #[] 0)) := hm0
        have HMW : Hid (W0.heap.size ≤ m) := hmw
        clear hb HO hh hho hm0 hmw
        go_wp2_with fail
        refine (HV.out w1 h m HHO.out).mono ?_
        rintro e w2 ⟨rfl, hb2⟩
        have HB2 : Hid (Below W0.heap.size W0 w2) := Below.on HB1.out hb2
        have HH2 : Hid (HeapO w2 h xs tr m 0 ∧ w2.heap[m]? = some (.map #[] 0)) := ⟨HHO.out.below hb2, (hb2.block m (by obtain ⟨_, _, _, _, _, _, _, h3⟩ := HHO.out; have := HHO.out.lt; omega)).trans HM0.out⟩
        have HD2 := HD.out h w2 HH2.out.1.at
        clear hb2 HV HD
        go_wp2_with fail
        refine HD2.mono ?_
        rintro e w3 ⟨rfl, hb3⟩
        have HB3 : Hid (Below W0.heap.size W0 w3) := Below.on HB2.out hb3
        have HBB := HBI.out w3 h m (HH2.out.1.below hb3) ((hb3.block m (by obtain ⟨_, _, _, _, _, _, _, h3⟩ := HH2.out.1; have := HH2.out.1.lt; omega)).trans HH2.out.2)
        clear hb3 HD2 HH2 HHO HM0 HBI
        go_wp2_with fail
        refine HBB.mono ?_
        rintro e w4 ⟨rfl, hb4, hok⟩
        have HB4 : Hid (Below W0.heap.size W0 w4) := HB3.out.trans (hb4.mono HMW.out)
        have HOK4 : Hid (code = 0 → HeapAt w4 h X T) := fun e0 => by obtain ⟨_, _, _, q, _⟩ := hok e0; exact q.at
        clear hb4 hok HBB
        by_cases hc0 : code = 0
        · subst hc0
          have HS4 : Hid _ := HSA.out w4 h (HOK4.out rfl)
          clear HSA HNO HOK4
          go_wp2_with fail
          refine Calls.mono HS4.out ?_
          rintro e w5 ⟨p5, q5, c5, d5, M, rfl, hoi, hoc, hM1, hM2, hb5⟩
          have HB5 : Hid (Below W0.heap.size W0 w5) := Below.on HB4.out hb5
          have HR : Hid _ := (HBX.out w5 HB5.out).put (.slice p5 X.length c5) (.slice q5 T.length d5)
          have HBF : Hid _ := HB0.out w5 (.slice p5 X.length c5) (.slice q5 T.length d5) HB5.out
          have HF : Hid (StoreA ((X, T), 0) w (.returned (.tuple #[.agg #[.slice p5 X.length c5, .slice q5 T.length d5], .int .i64 0])) ((w5.setCell ⟨w.heap.size + 1 + 1, 0, none⟩ (.slice p5 X.length c5)).setCell ⟨w.heap.size + 1 + 1, 1, none⟩ (.slice q5 T.length d5))) := by
            have hz := HZ0.out
            have h4 := HB4.out.size
            refine ⟨p5, q5, c5, d5, M, rfl, ⟨((hoi.1.set (by simp; omega) _).set (by simp; omega) _).mono (by omega), hoi.2⟩, ?_, by omega, by simpa using hM2, HBF.out⟩
            have := (hoc.set (a := ⟨w.heap.size + 1 + 1, 0, none⟩) (by simp; omega) (.slice p5 X.length c5)).set (a := ⟨w.heap.size + 1 + 1, 1, none⟩) (by simp; omega) (.slice q5 T.length d5)
            simpa using this
          obtain ⟨b0, b1, b2⟩ := HBX.out w5 HB5.out
          clear hoi hoc hM1 hM2 hb5 HS4 HBX HB0
          go_wp2
          obtain ⟨d0, d1, _⟩ := HR.out
          exact bodyPost_ret (v := .tuple #[.agg #[.slice p5 X.length c5, .slice q5 T.length d5], .int .i64 0]) (by simp [results, Try.results29, go_sem, d0, d1]) rfl HF.out
        · obtain ⟨rfl, rfl⟩ : X = [] ∧ T = [] := by have := HNO.out hc0; simpa using this
          have hcn : (code != 0) = true := by simpa using hc0
          have HBn : Hid (Below W0.heap.size W0 w4) := HB4.out
          clear HSA HNO HOK4 hc0
          have HR : Hid _ := (HBX.out w4 HBn.out).put (.slice none 0 0) (.slice none 0 0)
          have HBF : Hid _ := HB0.out w4 (.slice none 0 0) (.slice none 0 0) HBn.out
          obtain ⟨b0, b1, b2⟩ := HBX.out w4 HBn.out
          clear HBX HB0
          go_wp2
          obtain ⟨d0, d1, _⟩ := HR.out
          exact bodyPost_ret (v := .tuple #[.agg #[.slice none 0 0, .slice none 0 0], .int .i64 code]) (by simp [results, Try.results29, go_sem, d0, d1]) rfl (StoreA.none code HBF.out)

end Go.Proofs.Ytfnmoaiejpkocaa

namespace Go.Proofs.Ytfnmoaiejpkocaa
open Go Go.RowKit Go.Maps
set_option linter.unusedVariables false

theorem bndA_bad {xs : List Cel} {tr : List Int} {a : Int} {c : Cel} (h : (vsB xs tr c.1 c.2.1 c.2.2.length && varB xs a) = false) : bndA xs tr a c = (([], []), 1) := by unfold bndA; rw [if_neg (by rw [h]; decide)]
theorem bndA_same {xs : List Cel} {tr : List Int} {a : Int} {c : Cel} (h : (vsB xs tr c.1 c.2.1 c.2.2.length && varB xs a) = true) (h2 : (drf xs c).1 = 0 ∧ (drf xs c).2.1 = a) : bndA xs tr a c = (([], []), 1) := by unfold bndA; rw [if_pos h, if_pos h2]
theorem bndA_on {xs : List Cel} {tr : List Int} {a : Int} {c : Cel} (h : (vsB xs tr c.1 c.2.1 c.2.2.length && varB xs a) = true) (h2 : ¬ ((drf xs c).1 = 0 ∧ (drf xs c).2.1 = a)) : bndA xs tr a c = bndT xs tr a.toNat (drf xs c) := by unfold bndA; rw [if_pos h, if_neg h2]

set_option maxHeartbeats 4000000 in
set_option maxRecDepth 100000 in
theorem specBind_any (p q pt : Option Addr) (c1 c2 cap : Nat) (a : Int) (c : Cel) (xs : List Cel) (tr : List Int) (w : World) (hx : xs.length ≤ 1000000000) (hy : tr.length ≤ 1000000000) (ht : c.2.2.length ≤ 1000000000) (hc : CIn w p xs) (hi : IIn w q tr) (hin : BIn w pt c.2.2) :
    Calls Try.prog 28 #[.agg #[.slice p xs.length c1, .slice q tr.length c2], .int .i64 a, .agg #[.int .i64 c.1, .int .i64 c.2.1, .slice pt c.2.2.length cap]] w (StoreB (bndA xs tr a c) w) := by
  obtain ⟨k, n, t⟩ := c
  obtain ⟨W0, eW0⟩ : ∃ W0, W0 = ((w.alloc (.cells #[.slice p xs.length c1, .slice q tr.length c2] 36)).alloc (.cells #[.int .i64 k, .int .i64 n, .slice pt t.length cap] 31)).alloc (.cells #[.slice none 0 0, .slice none 0 0] 36) := ⟨_, rfl⟩
  have hb0 : Below w.heap.size w W0 := by
    rw [eW0]; exact (((Below.refl _ _).alloc (Nat.le_refl _) _).alloc (by simp) _).alloc (by simp; omega) _
  have k0 : W0.heap[w.heap.size]? = some (.cells #[.slice p xs.length c1, .slice q tr.length c2] 36) := by
    rw [eW0, Below.heap_alloc _ _ _ (by simp; omega), Below.heap_alloc _ _ _ (by simp)]; exact heap_alloc_new _ _
  have k1 : W0.heap[w.heap.size + 1]? = some (.cells #[.int .i64 k, .int .i64 n, .slice pt t.length cap] 31) := by
    rw [eW0]; exact (heap_three w _ _ _).1
  have k2 : W0.heap[w.heap.size + 1 + 1]? = some (.cells #[.slice none 0 0, .slice none 0 0] 36) := by
    rw [eW0]; exact (heap_three w _ _ _).2
  have hz0 : W0.heap.size = w.heap.size + 1 + 1 + 1 := by rw [eW0]; simp
  have HSB : Hid (∀ W, Below W0.heap.size W0 W → Box2 W w.heap.size (.slice p xs.length c1) (.slice q tr.length c2)) := fun W hW => Box2.of_block ((hW.block w.heap.size (by omega)).trans k0)
  have HCB : Hid (∀ W, Below W0.heap.size W0 W → Box3 W (w.heap.size + 1) (.int .i64 k) (.int .i64 n) (.slice pt t.length cap)) := fun W hW => Box3.of_block ((hW.block (w.heap.size + 1) (by omega)).trans k1)
  have HBX : Hid (∀ W, Below W0.heap.size W0 W → Box2 W (w.heap.size + 1 + 1) (.slice none 0 0) (.slice none 0 0)) := fun W hW => Box2.of_block ((hW.block (w.heap.size + 1 + 1) (by omega)).trans k2)
  have HO := specVS_any p q pt c1 c2 cap k n t xs tr W0 hx hy (hc.below hb0) (hi.below hb0)
  have HL : Hid (∀ W, Below W0.heap.size W0 W → CIn W p xs ∧ IIn W q tr ∧ BIn W pt t) := fun W hW => by
    have hb := Below.on hb0 hW
    exact ⟨hc.below hb, hi.below hb, hin.below hb⟩
  have HB0 : Hid (∀ W v0 v1, Below W0.heap.size W0 W → Below w.heap.size w ((W.setCell ⟨w.heap.size + 1 + 1, 0, none⟩ v0).setCell ⟨w.heap.size + 1 + 1, 1, none⟩ v1)) := fun W v0 v1 hW => below_put2 (Below.on hb0 hW) (by omega) _ _
  have HE0 : Hid _ := eW0
  have HZ0 : Hid _ := hz0
  clear hc hi hin k0 k1 k2 hz0 hb0
  rw [eW0] at HO
  clear eW0
  cases hv : vsB xs tr k n t.length
  · rw [bndA_bad (c := (k, n, t)) (by simp [hv])]
    rw [hv] at HO
    clear hv HL HCB
    go_enter Try.func28, Try.ntmps28
    go_wp2_with fail
    refine HO.mono ?_
    rintro e w1 ⟨rfl, hb⟩
    rw [← HE0.out] at hb
    have HB1 : Hid (Below W0.heap.size W0 w1) := hb
    obtain ⟨s0, s1, s2⟩ := HSB.out w1 hb
    clear hb HO
    have HR : Hid _ := (HBX.out w1 HB1.out).put (.slice none 0 0) (.slice none 0 0)
    have HBF : Hid _ := HB0.out w1 (.slice none 0 0) (.slice none 0 0) HB1.out
    obtain ⟨b0, b1, b2⟩ := HBX.out w1 HB1.out
    clear HBX HB0
    go_wp2
    obtain ⟨d0, d1, _⟩ := HR.out
    exact bodyPost_ret (v := .tuple #[.agg #[.slice none 0 0, .slice none 0 0], .int .i64 1]) (by simp [results, Try.results28, go_sem, d0, d1]) rfl (StoreB.none 1 HBF.out)
  · rw [hv] at HO
    obtain ⟨g, hw, ho, hoc, htl⟩ := vsB_parts (c := (k, n, t)) hv
    have hxl := g.shp.len
    by_cases ha0 : a < 0
    · rw [bndA_bad (c := (k, n, t)) (by rw [hv]; simp [varB]; omega)]
      clear hv HL HCB g hw ho hoc htl
      go_enter Try.func28, Try.ntmps28
      go_wp2_with fail
      refine HO.mono ?_
      rintro e w1 ⟨rfl, hb⟩
      rw [← HE0.out] at hb
      have HB1 : Hid (Below W0.heap.size W0 w1) := hb
      obtain ⟨s0, s1, s2⟩ := HSB.out w1 hb
      clear hb HO
      have HR : Hid _ := (HBX.out w1 HB1.out).put (.slice none 0 0) (.slice none 0 0)
      have HBF : Hid _ := HB0.out w1 (.slice none 0 0) (.slice none 0 0) HB1.out
      obtain ⟨b0, b1, b2⟩ := HBX.out w1 HB1.out
      clear HBX HB0
      go_wp2
      obtain ⟨d0, d1, _⟩ := HR.out
      exact bodyPost_ret (v := .tuple #[.agg #[.slice none 0 0, .slice none 0 0], .int .i64 1]) (by simp [results, Try.results28, go_sem, d0, d1]) rfl (StoreB.none 1 HBF.out)
    · obtain ⟨aa, rfl⟩ : ∃ k : Nat, a = k := ⟨a.toNat, by omega⟩
      by_cases ha1 : aa < xs.length
      · obtain ⟨bq, oq, rfl, hcs⟩ := (HL.out W0 (Below.refl _ _)).1 (by omega)
        obtain ⟨qx, cx, y0c, y1c, _, _⟩ := hcs aa ha1
        have HCA : Hid (∀ W, Below W0.heap.size W0 W → W.cell? ⟨bq, oq + aa * 3, none⟩ = some (.int .i64 (xs.getD aa Cel.none).1) ∧ W.cell? ⟨bq, oq + aa * 3 + 1, none⟩ = some (.int .i64 (xs.getD aa Cel.none).2.1)) := fun W hW => ⟨(hW.cell (World.block_lt_of_cell? _ _ y0c)).trans y0c, (hW.cell (World.block_lt_of_cell? _ _ y1c)).trans y1c⟩
        obtain ⟨v0, ev0⟩ : ∃ y, y = (xs.getD aa Cel.none).1 := ⟨_, rfl⟩
        obtain ⟨v1, ev1⟩ : ∃ y, y = (xs.getD aa Cel.none).2.1 := ⟨_, rfl⟩
        have HVB : Hid (varB xs aa = (decide (v0 = 0) && decide (v1 = aa))) := by
          show _ = _
          rw [Bool.eq_iff_iff]
          simp [varB, kndA, numA, ha1, ev0, ev1]
        rw [← ev0, ← ev1] at HCA
        clear hcs y0c y1c ev0 ev1
        have n1 : ¬ ((aa : Int) < 0) := by omega
        have n2 : ¬ ((xs.length : Int) ≤ (aa : Int)) := by omega
        by_cases q0 : v0 = 0
        · have e0 : (v0 != 0) = false := by simp [q0]
          by_cases q1 : v1 = aa
          · have e1 : (v1 != (aa : Int)) = false := by simp [q1]
            have hvb : varB xs aa = true := by rw [HVB.out, q0, q1]; simp
            have hboth : (vsB xs tr k n t.length && varB xs (aa : Int)) = true := by rw [hv, hvb]; rfl
            have hdw := (drf_word g hw).1
            have HOP : Hid (∀ W, Below W0.heap.size W0 W → Calls Try.prog 40 #[.agg #[.slice (some ⟨bq, oq, none⟩) xs.length c1, .slice q tr.length c2]] W fun e w' => ∃ h, e = .returned (.pointer (some ⟨h, 0, none⟩)) ∧ SHp W w' h xs tr 0 ∧ Below W.heap.size W w') := fun W hW => l10open_any _ q c1 c2 xs tr W hxl htl (HL.out W hW).1 (HL.out W hW).2.1
            have HDE : Hid (∀ W W' h, Below W0.heap.size W0 W → SHp W W' h xs tr 0 → Calls Try.prog 39 #[.pointer (some ⟨h, 0, none⟩), .agg #[.int .i64 k, .int .i64 n, .slice pt t.length cap]] W' fun e w' => ∃ p' cp', e = .returned (.agg #[.int .i64 (drf xs (k, n, t)).1, .int .i64 (drf xs (k, n, t)).2.1, .slice p' (drf xs (k, n, t)).2.2.length cp']) ∧ BIn W p' (drf xs (k, n, t)).2.2 ∧ Below W'.heap.size W' w') := fun W W' h hW H => l10deref_any W h pt cap (k, n, t) xs tr 0 W' g hw (HL.out W hW).2.2 H
            have hP : ∀ i, i < xs.length → (fun c : Cel => c.2.2.length ≤ 100) (xs.getD i Cel.none) := fun i hi => by
              have := ho i hi
              show (xs.getD i Cel.none).2.2.length ≤ 100
              generalize (xs.getD i Cel.none).2.2.length = m at this ⊢
              unfold okW at this
              split at this
              · simp at this; omega
              · simp only [cellB, decide_eq_true_eq] at this; omega
            have hPd : (fun c : Cel => c.2.2.length ≤ 100) (drf xs (k, n, t)) := by
              obtain ⟨h1, _⟩ := drf_ind g (P := fun c => okW c.1 c.2.1 c.2.2.length = true) (fun a ha _ => ho a ha) _ (k, n, t) (Nat.le_refl _) hw hoc
              show (drf xs (k, n, t)).2.2.length ≤ 100
              generalize (drf xs (k, n, t)).2.2.length = m at h1 ⊢
              unfold okW at h1
              split at h1
              · simp at h1; omega
              · simp only [cellB, decide_eq_true_eq] at h1; omega
            have hfine := bndT_fine (P := fun c : Cel => c.2.2.length ≤ 100) (tr := tr) (a := aa) (c := drf xs (k, n, t)) hxl hP hPd (by show (0 : Nat) ≤ 100; omega)
            have HBI : Hid (∀ V W h p' cp', SHp V W h xs tr 0 → BIn V p' (drf xs (k, n, t)).2.2 → Calls Try.prog 63 #[.pointer (some ⟨h, 0, none⟩), .int .i64 (aa : Int), .agg #[.int .i64 (drf xs (k, n, t)).1, .int .i64 (drf xs (k, n, t)).2.1, .slice p' (drf xs (k, n, t)).2.2.length cp']] W (BOut V h (bndT xs tr aa (drf xs (k, n, t))) 0)) := fun V W h p' cp' H hp' => l10bind_any V h aa p' cp' (drf xs (k, n, t)) xs tr 0 W g hvb hdw htl hp' H
            have HCL : Hid (∀ V W h, SHp V W h (bndT xs tr aa (drf xs (k, n, t))).1.1 (bndT xs tr aa (drf xs (k, n, t))).1.2 0 → Calls Try.prog 56 #[.pointer (some ⟨h, 0, none⟩)] W (StoreR (bndT xs tr aa (drf xs (k, n, t))).1.1 (bndT xs tr aa (drf xs (k, n, t))).1.2 W)) := fun V W h H => l10close_any V h _ _ 0 W hfine.1 hfine.2.1 hfine.2.2.1 H
            have HA1 : Hid ((drf xs (k, n, t)).1 = 0 ∧ (drf xs (k, n, t)).2.1 = (aa : Int) → bndA xs tr (aa : Int) (k, n, t) = (([], []), 1)) := fun h => bndA_same hboth h
            have HA2 : Hid (¬ ((drf xs (k, n, t)).1 = 0 ∧ (drf xs (k, n, t)).2.1 = (aa : Int)) → bndA xs tr (aa : Int) (k, n, t) = bndT xs tr aa (drf xs (k, n, t))) := fun h => by rw [bndA_on hboth h, Int.toNat_natCast]
            have HNZ : Hid ((bndT xs tr aa (drf xs (k, n, t))).2 ≠ 0 → (bndT xs tr aa (drf xs (k, n, t))).1 = ([], [])) := hfine.2.2.2
            clear hP hPd hfine hdw hboth hvb hv g hw ho hoc HVB HL q0 q1
            generalize bndT xs tr aa (drf xs (k, n, t)) = BT at HBI HCL HA2 HNZ
            generalize bndA xs tr (aa : Int) (k, n, t) = AA at HA1 HA2 ⊢
            generalize drf xs (k, n, t) = d at HDE HBI HA1 HA2
            obtain ⟨dk, dn, dt⟩ := d
            simp only at HDE HBI HA1 HA2
            obtain ⟨dl, edl⟩ : ∃ m, m = dt.length := ⟨_, rfl⟩
            rw [← edl] at HDE HBI
            clear edl
            go_enter Try.func28, Try.ntmps28
            go_wp2_with fail
            refine HO.mono ?_
            rintro e w1 ⟨rfl, hb⟩
            rw [← HE0.out] at hb
            have HB1 : Hid (Below W0.heap.size W0 w1) := hb
            obtain ⟨s0, s1, s2⟩ := HSB.out w1 hb
            clear hb HO
            obtain ⟨z0, z1⟩ := HCA.out w1 HB1.out
            obtain ⟨u0, u1, u2, u3⟩ := HCB.out w1 HB1.out
            have HP1 : Hid _ := HOP.out w1 HB1.out
            go_wp2_with fail
            refine Calls.mono HP1.out ?_
            rintro e w2 ⟨h, rfl, hsh, hb2⟩
            have HB2 : Hid (Below W0.heap.size W0 w2) := Below.on HB1.out hb2
            have HD2 : Hid _ := HDE.out w1 w2 h HB1.out hsh
            have HS2 : Hid (SHp w1 w2 h xs tr 0) := hsh
            clear s0 s1 s2 z0 z1 u0 u1 u2 u3 hsh hb2 HP1 HOP HDE
            obtain ⟨u0, u1, u2, u3⟩ := HCB.out w2 HB2.out
            go_wp2_with fail
            refine Calls.mono HD2.out ?_
            rintro e w3 ⟨p3, cp3, rfl, hp3, hb3⟩
            obtain ⟨W4, eW4⟩ : ∃ W, W = w3.alloc (.cells #[.int .i64 dk, .int .i64 dn, .slice p3 dl cp3] 31) := ⟨_, rfl⟩
            have hb4 : Below w2.heap.size w2 W4 := by rw [eW4]; exact Below.on hb3 (alloc_on _ _)
            have HB4 : Hid (Below W0.heap.size W0 W4) := Below.on HB2.out hb4
            have HBI4 : Hid _ := HBI.out w1 W4 h p3 cp3 (HS2.out.below hb4) hp3
            have HX4 : Hid (Box3 W4 w3.heap.size (.int .i64 dk) (.int .i64 dn) (.slice p3 dl cp3)) := by show Box3 _ _ _ _ _; rw [eW4]; exact Box3.of_block (t := 31) (heap_alloc_new _ _)
            have HE4 : Hid _ := eW4
            clear hb4 hb3 hp3 u0 u1 u2 u3 HD2 HS2 HBI eW4
            by_cases hsame : dk = 0 ∧ dn = (aa : Int)
            · have HEQ : Hid (AA = (([], []), 1)) := HA1.out hsame
              have f0 : (dk == 0) = true := by simp [hsame.1]
              have f1 : (dn == (aa : Int)) = true := by simp [hsame.2]
              clear hsame HA1 HA2 HBI4
              have HR : Hid _ := (HBX.out W4 HB4.out).put (.slice none 0 0) (.slice none 0 0)
              have HBF : Hid _ := HB0.out W4 (.slice none 0 0) (.slice none 0 0) HB4.out
              obtain ⟨b0, b1, b2⟩ := HBX.out W4 HB4.out
              clear HBX HB0
              rw [HE4.out] at b0 b1 b2
              go_wp2
              rw [← HE4.out]
              obtain ⟨d0, d1, _⟩ := HR.out
              exact bodyPost_ret (v := .tuple #[.agg #[.slice none 0 0, .slice none 0 0], .int .i64 1]) (by simp [results, Try.results28, go_sem, d0, d1]) rfl (by rw [HEQ.out]; exact StoreB.none 1 HBF.out)
            · have HEQ : Hid (AA = BT) := HA2.out hsame
              have HBC : Hid (Calls Try.prog 28 #[] W4 (fun _ _ => True) → True) := fun _ => trivial
              have f01 : (dk == 0) = false ∨ ((dk == 0) = true ∧ (dn == (aa : Int)) = false) := by
                by_cases e : dk = 0
                · exact .inr ⟨by simp [e], by simp; exact fun e2 => hsame ⟨e, e2⟩⟩
                · exact .inl (by simp [e])
              clear hsame HA1 HA2 HBC
              rcases f01 with f0 | ⟨f0, f1⟩
              · obtain ⟨x0, x1, x2, x3⟩ := HX4.out
                rw [HE4.out] at x0 x1 x2 x3
                go_wp2_with fail
                rw [← HE4.out]
                refine Calls.mono HBI4.out ?_
                rintro e w5 ⟨rfl, hs5, hb5⟩
                have HB5 : Hid (Below W0.heap.size W0 w5) := Below.on HB1.out hb5
                have HCL5 : Hid (BT.2 = 0 → Calls Try.prog 56 #[.pointer (some ⟨h, 0, none⟩)] w5 (StoreR BT.1.1 BT.1.2 w5)) := fun h0 => HCL.out w1 w5 h (hs5 h0)
                clear hs5 hb5 HBI4 HCL x0 x1 x2 x3
                obtain ⟨⟨X, T⟩, code⟩ := BT
                simp only at HNZ HCL5
                by_cases hc0 : code = 0
                · subst hc0
                  have HC5 := HCL5.out rfl
                  go_wp2_with fail
                  refine Calls.mono HC5 ?_
                  rintro e w6 ⟨p4, q4, c4, d4, rfl, hc4, hi4, hb4⟩
                  have HB6 : Hid (Below W0.heap.size W0 w6) := Below.on HB5.out hb4
                  have hz3 : w.heap.size + 1 + 1 + 1 ≤ w5.heap.size := by have := HB5.out.size; have h2 := HZ0.out; omega
                  have HR : Hid _ := (HBX.out w6 HB6.out).put (.slice p4 X.length c4) (.slice q4 T.length d4)
                  have HBF : Hid _ := HB0.out w6 (.slice p4 X.length c4) (.slice q4 T.length d4) HB6.out
                  obtain ⟨b0, b1, b2⟩ := HBX.out w6 HB6.out
                  have HF5 : Hid (OwnC ((w6.setCell ⟨w.heap.size + 1 + 1, 0, none⟩ (.slice p4 X.length c4)).setCell ⟨w.heap.size + 1 + 1, 1, none⟩ (.slice q4 T.length d4)) w.heap.size p4 X.length c4 X ∧ OwnI ((w6.setCell ⟨w.heap.size + 1 + 1, 0, none⟩ (.slice p4 X.length c4)).setCell ⟨w.heap.size + 1 + 1, 1, none⟩ (.slice q4 T.length d4)) w.heap.size 3 q4 T.length d4 T) := ⟨((hc4.set (by simp; omega) _).set (by simp; omega) _).mono (by omega), ((hi4.set (by simp; omega) _).set (by simp; omega) _).mono (by omega)⟩
                  clear HBX HB0 hc4 hi4 hb4
                  go_wp2
                  obtain ⟨d0, d1, _⟩ := HR.out
                  exact bodyPost_ret (v := .tuple #[.agg #[.slice p4 X.length c4, .slice q4 T.length d4], .int .i64 0]) (by simp [results, Try.results28, go_sem, d0, d1]) rfl (by rw [HEQ.out]; exact ⟨p4, q4, c4, d4, rfl, HF5.out.1, HF5.out.2, HBF.out⟩)
                · have hcn : (code != 0) = true := by simp [hc0]
                  have HE : Hid ((X, T) = (([] : List Cel), ([] : List Int))) := HNZ.out hc0
                  clear hc0 HNZ HCL5
                  have HR : Hid _ := (HBX.out w5 HB5.out).put (.slice none 0 0) (.slice none 0 0)
                  have HBF : Hid _ := HB0.out w5 (.slice none 0 0) (.slice none 0 0) HB5.out
                  obtain ⟨b0, b1, b2⟩ := HBX.out w5 HB5.out
                  clear HBX HB0
                  go_wp2
                  obtain ⟨d0, d1, _⟩ := HR.out
                  exact bodyPost_ret (v := .tuple #[.agg #[.slice none 0 0, .slice none 0 0], .int .i64 code]) (by simp [results, Try.results28, go_sem, d0, d1]) rfl (by rw [HEQ.out, HE.out]; exact StoreB.none code HBF.out)
              · obtain ⟨x0, x1, x2, x3⟩ := HX4.out
                rw [HE4.out] at x0 x1 x2 x3
                go_wp2_with fail
                rw [← HE4.out]
                refine Calls.mono HBI4.out ?_
                rintro e w5 ⟨rfl, hs5, hb5⟩
                have HB5 : Hid (Below W0.heap.size W0 w5) := Below.on HB1.out hb5
                have HCL5 : Hid (BT.2 = 0 → Calls Try.prog 56 #[.pointer (some ⟨h, 0, none⟩)] w5 (StoreR BT.1.1 BT.1.2 w5)) := fun h0 => HCL.out w1 w5 h (hs5 h0)
                clear hs5 hb5 HBI4 HCL x0 x1 x2 x3
                obtain ⟨⟨X, T⟩, code⟩ := BT
                simp only at HNZ HCL5
                by_cases hc0 : code = 0
                · subst hc0
                  have HC5 := HCL5.out rfl
                  go_wp2_with fail
                  refine Calls.mono HC5 ?_
                  rintro e w6 ⟨p4, q4, c4, d4, rfl, hc4, hi4, hb4⟩
                  have HB6 : Hid (Below W0.heap.size W0 w6) := Below.on HB5.out hb4
                  have hz3 : w.heap.size + 1 + 1 + 1 ≤ w5.heap.size := by have := HB5.out.size; have h2 := HZ0.out; omega
                  have HR : Hid _ := (HBX.out w6 HB6.out).put (.slice p4 X.length c4) (.slice q4 T.length d4)
                  have HBF : Hid _ := HB0.out w6 (.slice p4 X.length c4) (.slice q4 T.length d4) HB6.out
                  obtain ⟨b0, b1, b2⟩ := HBX.out w6 HB6.out
                  have HF5 : Hid (OwnC ((w6.setCell ⟨w.heap.size + 1 + 1, 0, none⟩ (.slice p4 X.length c4)).setCell ⟨w.heap.size + 1 + 1, 1, none⟩ (.slice q4 T.length d4)) w.heap.size p4 X.length c4 X ∧ OwnI ((w6.setCell ⟨w.heap.size + 1 + 1, 0, none⟩ (.slice p4 X.length c4)).setCell ⟨w.heap.size + 1 + 1, 1, none⟩ (.slice q4 T.length d4)) w.heap.size 3 q4 T.length d4 T) := ⟨((hc4.set (by simp; omega) _).set (by simp; omega) _).mono (by omega), ((hi4.set (by simp; omega) _).set (by simp; omega) _).mono (by omega)⟩
                  clear HBX HB0 hc4 hi4 hb4
                  go_wp2
                  obtain ⟨d0, d1, _⟩ := HR.out
                  exact bodyPost_ret (v := .tuple #[.agg #[.slice p4 X.length c4, .slice q4 T.length d4], .int .i64 0]) (by simp [results, Try.results28, go_sem, d0, d1]) rfl (by rw [HEQ.out]; exact ⟨p4, q4, c4, d4, rfl, HF5.out.1, HF5.out.2, HBF.out⟩)
                · have hcn : (code != 0) = true := by simp [hc0]
                  have HE : Hid ((X, T) = (([] : List Cel), ([] : List Int))) := HNZ.out hc0
                  clear hc0 HNZ HCL5
                  have HR : Hid _ := (HBX.out w5 HB5.out).put (.slice none 0 0) (.slice none 0 0)
                  have HBF : Hid _ := HB0.out w5 (.slice none 0 0) (.slice none 0 0) HB5.out
                  obtain ⟨b0, b1, b2⟩ := HBX.out w5 HB5.out
                  clear HBX HB0
                  go_wp2
                  obtain ⟨d0, d1, _⟩ := HR.out
                  exact bodyPost_ret (v := .tuple #[.agg #[.slice none 0 0, .slice none 0 0], .int .i64 code]) (by simp [results, Try.results28, go_sem, d0, d1]) rfl (by rw [HEQ.out, HE.out]; exact StoreB.none code HBF.out)
          · rw [bndA_bad (c := (k, n, t)) (by rw [HVB.out]; simp [q1])]
            have e1 : (v1 != (aa : Int)) = true := by simp [q1]
            clear hv HL HCB g hw ho hoc htl HVB q0 q1
            go_enter Try.func28, Try.ntmps28
            go_wp2_with fail
            refine HO.mono ?_
            rintro e w1 ⟨rfl, hb⟩
            rw [← HE0.out] at hb
            have HB1 : Hid (Below W0.heap.size W0 w1) := hb
            obtain ⟨s0, s1, s2⟩ := HSB.out w1 hb
            clear hb HO
            obtain ⟨z0, z1⟩ := HCA.out w1 HB1.out
            have HR : Hid _ := (HBX.out w1 HB1.out).put (.slice none 0 0) (.slice none 0 0)
            have HBF : Hid _ := HB0.out w1 (.slice none 0 0) (.slice none 0 0) HB1.out
            obtain ⟨b0, b1, b2⟩ := HBX.out w1 HB1.out
            clear HBX HB0
            go_wp2
            obtain ⟨d0, d1, _⟩ := HR.out
            exact bodyPost_ret (v := .tuple #[.agg #[.slice none 0 0, .slice none 0 0], .int .i64 1]) (by simp [results, Try.results28, go_sem, d0, d1]) rfl (StoreB.none 1 HBF.out)
        · rw [bndA_bad (c := (k, n, t)) (by rw [HVB.out]; simp [q0])]
          have e0 : (v0 != 0) = true := by simp [q0]
          clear hv HL HCB g hw ho hoc htl HVB q0
          go_enter Try.func28, Try.ntmps28
          go_wp2_with fail
          refine HO.mono ?_
          rintro e w1 ⟨rfl, hb⟩
          rw [← HE0.out] at hb
          have HB1 : Hid (Below W0.heap.size W0 w1) := hb
          obtain ⟨s0, s1, s2⟩ := HSB.out w1 hb
          clear hb HO
          obtain ⟨z0, z1⟩ := HCA.out w1 HB1.out
          have HR : Hid _ := (HBX.out w1 HB1.out).put (.slice none 0 0) (.slice none 0 0)
          have HBF : Hid _ := HB0.out w1 (.slice none 0 0) (.slice none 0 0) HB1.out
          obtain ⟨b0, b1, b2⟩ := HBX.out w1 HB1.out
          clear HBX HB0
          go_wp2
          obtain ⟨d0, d1, _⟩ := HR.out
          exact bodyPost_ret (v := .tuple #[.agg #[.slice none 0 0, .slice none 0 0], .int .i64 1]) (by simp [results, Try.results28, go_sem, d0, d1]) rfl (StoreB.none 1 HBF.out)
      · rw [bndA_bad (c := (k, n, t)) (by rw [hv]; simp [varB]; omega)]
        have n1 : ¬ ((aa : Int) < 0) := by omega
        have n2 : (xs.length : Int) ≤ (aa : Int) := by omega
        clear hv HL HCB g hw ho hoc htl ha1 ha0
        go_enter Try.func28, Try.ntmps28
        go_wp2_with fail
        refine HO.mono ?_
        rintro e w1 ⟨rfl, hb⟩
        rw [← HE0.out] at hb
        have HB1 : Hid (Below W0.heap.size W0 w1) := hb
        obtain ⟨s0, s1, s2⟩ := HSB.out w1 hb
        clear hb HO
        have HR : Hid _ := (HBX.out w1 HB1.out).put (.slice none 0 0) (.slice none 0 0)
        have HBF : Hid _ := HB0.out w1 (.slice none 0 0) (.slice none 0 0) HB1.out
        obtain ⟨b0, b1, b2⟩ := HBX.out w1 HB1.out
        clear HBX HB0
        go_wp2
        obtain ⟨d0, d1, _⟩ := HR.out
        exact bodyPost_ret (v := .tuple #[.agg #[.slice none 0 0, .slice none 0 0], .int .i64 1]) (by simp [results, Try.results28, go_sem, d0, d1]) rfl (StoreB.none 1 HBF.out)

end Go.Proofs.Ytfnmoaiejpkocaa

namespace Go.Proofs.Ytfnmoaiejpkocaa
open Go Go.RowKit
set_option linter.unusedVariables false

theorem tl_le100 : ∀ cs : List Cel, (∀ c ∈ cs, c.2.2.length ≤ 100) → tl cs ≤ 100 * cs.length
  | [], _ => by simp [tl]
  | a :: r, h => by
    have h1 := tl_le100 r (fun c hc => h c (by simp [hc]))
    have h2 := h a (by simp)
    simp only [tl, List.length_cons]
    omega
set_option maxRecDepth 100000 in
theorem markStoreT_any (B M U : Nat) (p q : Option Addr) (n m c1 c2 : Nat) (k : Int) (xs : List Cel) (tr : List Int) (w : World) (h0 : 0 ≤ k) (h1 : k ≤ 10000000) (hx : xs.length + tl xs ≤ 100000000) (hm : m ≤ 100000000) (hBM : B ≤ M) (hMU : M ≤ U) (hU : U ≤ w.heap.size) (hown : OwnCU w M U p n c1 xs) (hint : OwnIU w B M q m c2 tr) :
    Calls Try.prog 17 #[.agg #[.slice p n c1, .slice q m c2], .int .i64 k] w fun e w' => e = .returned (.int .i64 (endC k xs + m)) ∧ (CIn w' p (markC k xs) ∧ IIn w' q (ups (endC k xs) m)) ∧ Keep B U w w' := by
  obtain ⟨W0, eW0⟩ : ∃ W0, W0 = w.alloc (.cells #[.slice p n c1, .slice q m c2] 36) := ⟨_, rfl⟩
  have hb0 : Below w.heap.size w W0 := by rw [eW0]; exact (Below.refl _ _).alloc (Nat.le_refl _) _
  have H1 := markCells_any M U p n c1 k xs W0 h0 h1 hx (hown.below hb0)
  have k0 : W0.heap[w.heap.size]? = some (.cells #[.slice p n c1, .slice q m c2] 36) := by rw [eW0]; exact heap_alloc_new _ _
  have hz : W0.heap.size = w.heap.size + 1 := by rw [eW0]; simp
  have HI : Hid (OwnIU W0 B M q m c2 tr) := hint.on hb0
  have hke : 0 ≤ endC k xs ∧ endC k xs ≤ 1000000000000 := by rw [endC_eqM]; omega
  generalize endC k xs = ke at H1 hke ⊢
  have HC : Hid (∀ w1, Keep M U W0 w1 → w1.cell? ⟨w.heap.size, 1, none⟩ = some (.slice q m c2) ∧ OwnIU w1 B M q m c2 tr) := fun w1 hk => by
    have j0 := (hk.block w.heap.size (by omega) (by omega)).trans k0
    exact ⟨by simp [World.cell?, j0], HI.out.keep hk (.inl (Nat.le_refl _))⟩
  have HF : Hid (∀ w1 w2, Keep M U W0 w1 → w1.grownBy w2 (Value.ownBlock (.slice q m c2)) → OwnCU w1 M U p n c1 (markC k xs) → CIn w2 p (markC k xs) ∧ Keep B U w w2) := fun w1 w2 hk hg ho => by
    have hrow : ∀ g, Value.ownBlock (.slice q m c2) = some g → B ≤ g ∧ g < M := fun g e => ⟨(HI.out.1.2.lt g e).1, HI.out.2 g e⟩
    refine ⟨(ho.other hg.size (fun j hj hj1 hj2 => hg.block j hj (fun e => by have := hrow j e.symm; omega))).toC.cin, ?_⟩
    have a1 : Keep B U w W0 := by rw [eW0]; exact Keep.new B U w _
    exact (a1.trans (hk.widen hBM (Nat.le_refl _))).trans (Keep.of_grown hg (fun g e => ⟨(hrow g e).1, by have := (hrow g e).2; omega⟩))
  have HM : Hid (∀ w1, OwnIU w1 B M q m c2 tr → Calls Try.prog 48 #[.slice q m c2, .int .i64 ke] w1 fun e w' => e = .returned (.int .i64 (ke + m)) ∧ OwnI w' B 3 q m c2 (ups ke m) ∧ w1.grownBy w' (Value.ownBlock (.slice q m c2))) := fun w1 h => markIntS_any B q m c2 ke tr w1 hke.1 hke.2 (by omega) h.1
  rw [eW0] at H1
  have HE0 : Hid _ := eW0
  clear hown hint hb0 k0 hz hBM hMU hU HI eW0 hx
  go_enter Try.func17, Try.ntmps17
  go_wp2_with fail
  refine H1.mono ?_
  rintro e w1 ⟨rfl, ho1, hk1⟩
  rw [← HE0.out] at hk1
  obtain ⟨s1, hi1⟩ := HC.out w1 hk1
  have HM1 := HM.out w1 hi1
  have HO1 : Hid (OwnCU w1 M U p n c1 (markC k xs) ∧ Keep M U W0 w1) := ⟨ho1, hk1⟩
  clear H1 HM HC ho1 hk1 hi1
  go_wp2_with (go_at_call 48; refine HM1.mono ?_; rintro e w2 ⟨rfl, ho2, hg2⟩)
  go_ret
  obtain ⟨f1, f2⟩ := HF.out w1 w2 HO1.out.2 hg2 HO1.out.1
  exact ⟨rfl, ⟨f1, ho2.iin⟩, f2⟩

end Go.Proofs.Ytfnmoaiejpkocaa

