/- Texts of BdJ, UfO, MkU. Own work of the verifier. -/
import Derived.Test.YtfnmoaiejpkocaaUqat
import Derived.Test.YtfnmoaiejpkocaaUqau
import Derived.Test.YtfnmoaiejpkocaaUqbd
import Derived.Test.YtfnmoaiejpkocaaUqbb
import Derived.Test.YtfnmoaiejpkocaaUqam
namespace Go.Proofs.Ytfnmoaiejpkocaa
open Go Go.RowKit Go.Maps
set_option linter.unusedVariables false

theorem eqR_ref (w : World) (x y : Int) : (binOp .eql 70 (.iface 100 (.int .i64 x)) (.iface 100 (.int .i64 y))).run Try.prog w = .ok (.bool (x == y)) w := by kernel_rfl
theorem eqR_num (w : World) (x : Value) (y : Int) : (binOp .eql 70 (.iface 121 x) (.iface 100 (.int .i64 y))).run Try.prog w = .ok (.bool false) w := by kernel_rfl
theorem eqR_atom (w : World) (x : Value) (y : Int) : (binOp .eql 70 (.iface 122 x) (.iface 100 (.int .i64 y))).run Try.prog w = .ok (.bool false) w := by kernel_rfl
theorem eqR_str (w : World) (x : Value) (y : Int) : (binOp .eql 70 (.iface 123 x) (.iface 100 (.int .i64 y))).run Try.prog w = .ok (.bool false) w := by kernel_rfl
theorem eqR_any (w : World) (d : Cel) (y : Int) (hd : d.1 = 0 ∨ d.1 = 1 ∨ d.1 = 2 ∨ d.1 = 4) : (binOp .eql 70 (wv d) (.iface 100 (.int .i64 y))).run Try.prog w = .ok (.bool (decide (d.1 = 0 ∧ d.2.1 = y))) w := by
  obtain ⟨k, n, t⟩ := d
  simp only at hd ⊢
  rcases hd with rfl | rfl | rfl | rfl
  · have e : wv (0, n, t) = .iface 100 (.int .i64 n) := rfl
    rw [e, eqR_ref]
    by_cases h : n = y <;> simp [h]
  · have e : wv (1, n, t) = .iface 121 (.int .i64 n) := rfl
    rw [e, eqR_num]; simp
  · have e : wv (2, n, t) = .iface 122 (.string (strOfNums t)) := rfl
    rw [e, eqR_atom]; simp
  · have e : wv (4, n, t) = .iface 123 (.int .i64 n) := rfl
    rw [e, eqR_str]; simp
theorem SMap.empty {w : World} {m : Nat} (h : w.heap[m]? = some (.map #[] 0)) : SMap w m 0 (fun _ => 0) := by
  obtain ⟨D, ⟨es, clock, h1, r⟩, h2⟩ := SMap.made w
  rw [heap_alloc_new] at h1
  simp only [Option.some.injEq, Obj.map.injEq] at h1
  obtain ⟨rfl, rfl⟩ := h1
  exact ⟨D, ⟨_, _, h, r⟩, h2⟩
theorem set_all {P : Cel → Prop} {xs : List Cel} (h : ∀ i, i < xs.length → P (xs.getD i Cel.none)) {a : Nat} {c : Cel} (hc : P c) : ∀ i, i < (xs.set a c).length → P ((xs.set a c).getD i Cel.none) := fun i hi => by
  rw [List.length_set] at hi
  have e : (xs.set a c).getD i Cel.none = if a = i then c else xs.getD i Cel.none := by
    simp only [List.getD, List.getElem?_set]
    by_cases ha : a = i
    · subst ha; simp [hi]
    · simp [ha]
  rw [e]
  split
  · exact hc
  · exact h i hi
/-- What is bound is a store again, as far as its cells go. -/
theorem bndT_fine {P : Cel → Prop} {xs : List Cel} {tr : List Int} {a : Nat} {c : Cel} (hl : xs.length ≤ 20000) (h : ∀ i, i < xs.length → P (xs.getD i Cel.none)) (hc : P c) (hv : P (0, (a : Int), [])) :
    (bndT xs tr a c).1.1.length ≤ 20000 ∧ (bndT xs tr a c).1.2.length ≤ 20000 ∧ (∀ i, i < (bndT xs tr a c).1.1.length → P ((bndT xs tr a c).1.1.getD i Cel.none)) ∧ ((bndT xs tr a c).2 ≠ 0 → (bndT xs tr a c).1 = ([], [])) := by
  unfold bndT
  split
  · exact ⟨by simp, by simp, fun i hi => absurd hi (Nat.not_lt_zero _), fun _ => rfl⟩
  · split
    · exact ⟨by simp, by simp, fun i hi => absurd hi (Nat.not_lt_zero _), fun _ => rfl⟩
    · split
      · exact ⟨by simpa using hl, by simp; omega, set_all h hv, fun hh => absurd rfl hh⟩
      · exact ⟨by simpa using hl, by simp; omega, set_all h hc, fun hh => absurd rfl hh⟩

set_option maxHeartbeats 4000000 in
set_option maxRecDepth 100000 in
theorem implBind_any (p q pt : Option Addr) (c1 c2 cap : Nat) (a : Int) (c : Cel) (xs : List Cel) (tr : List Int) (w : World) (hx : xs.length ≤ 1000000000) (hy : tr.length ≤ 1000000000) (hbx : ∀ a, a < xs.length → Byte (xs.getD a Cel.none).2.2) (hbc : Byte c.2.2) (hc : CIn w p xs) (hi : IIn w q tr) (hin : BIn w pt c.2.2) :
    Calls Try.prog 29 #[.agg #[.slice p xs.length c1, .slice q tr.length c2], .int .i64 a, .agg #[.int .i64 c.1, .int .i64 c.2.1, .slice pt c.2.2.length cap]] w (StoreA (bndA xs tr a c) w) := by
  obtain ⟨k, n, t⟩ := c
  obtain ⟨W0, eW0⟩ : ∃ W0, W0 = ((w.alloc (.cells #[.slice p xs.length c1, .slice q tr.length c2] 36)).alloc (.cells #[.int .i64 k, .int .i64 n, .slice pt t.length cap] 31)).alloc (.cells #[.slice none 0 0, .slice none 0 0] 36) := ⟨_, rfl⟩
  have hb0 : Below w.heap.size w W0 := by rw [eW0]; exact (((Below.refl _ _).alloc (Nat.le_refl _) _).alloc (by simp) _).alloc (by simp; omega) _
  have hz0 : W0.heap.size = w.heap.size + 1 + 1 + 1 := by rw [eW0]; simp
  have k1 : W0.heap[w.heap.size + 1 + 1]? = some (.cells #[.slice none 0 0, .slice none 0 0] 36) := by
    rw [eW0]
    exact (heap_three w _ _ _).2
  have HBX : Hid (∀ W, Below W0.heap.size W0 W → Box2 W (w.heap.size + 1 + 1) (.slice none 0 0) (.slice none 0 0)) := fun W hW => Box2.of_block ((hW.block (w.heap.size + 1 + 1) (by omega)).trans k1)
  have HO := heapWithO_any p q pt c1 c2 cap k n t xs tr W0 hx hy (hc.below hb0) (hi.below hb0) (hin.below hb0)
  have HB0 : Hid (∀ W v0 v1, Below W0.heap.size W0 W → Below w.heap.size w ((W.setCell ⟨w.heap.size + 1 + 1, 0, none⟩ v0).setCell ⟨w.heap.size + 1 + 1, 1, none⟩ v1)) := fun W v0 v1 hW => below_put2 (Below.on hb0 hW) (by omega) _ _
  have HE0 : Hid _ := eW0
  have HZ0 : Hid _ := hz0
  have HBY : Hid (∀ a, a < xs.length → Byte (xs.getD a Cel.none).2.2) := hbx
  have HBC : Hid (Byte t) := hbc
  clear hc hi hin hb0 k1 hbx hz0 hbc
  unfold WithOutO at HO
  rw [eW0] at HO
  cases hv : vsB xs tr k n t.length
  · have HA : Hid (bndA xs tr a (k, n, t) = (([], []), 1)) := by show _ = _; unfold bndA; rw [if_neg (by simp [hv])]
    rw [HA.out]
    rw [hv] at HO
    clear hv HA eW0 HBY HBC
    go_enter Try.func29, Try.ntmps29
    go_wp2_with fail
    refine HO.mono ?_
    rintro e w1 ⟨v, u, rfl, hb, _⟩
    rw [← HE0.out] at hb
    have HBn : Hid (Below W0.heap.size W0 w1) := hb
    clear hb HO
    have HR : Hid _ := (HBX.out w1 HBn.out).put (.slice none 0 0) (.slice none 0 0)
    have HBF : Hid _ := HB0.out w1 (.slice none 0 0) (.slice none 0 0) HBn.out
    obtain ⟨b0, b1, b2⟩ := HBX.out w1 HBn.out
    clear HBX HB0
    go_wp2
    obtain ⟨d0, d1, _⟩ := HR.out
    exact bodyPost_ret (v := .tuple #[.agg #[.slice none 0 0, .slice none 0 0], .int .i64 1]) (by simp [results, Try.results29, go_sem, d0, d1]) rfl (StoreA.none 1 HBF.out)
  · rw [hv] at HO
    obtain ⟨g, hw, ho, hoc, ht⟩ := vsB_parts (c := (k, n, t)) hv
    have hl := g.shp.len
    have HV : Hid (∀ W h m, HeapO W h xs tr m 0 → Calls Try.prog 64 #[.pointer (some ⟨h, 0, none⟩), .int .i64 a] W fun e w' => e = .returned (.bool (varB xs a)) ∧ Below W.heap.size W w') := fun W h m H => holdsVariable_any h a xs tr W hl g.shp.knds H.at
    cases hva : varB xs a
    · have HA : Hid (bndA xs tr a (k, n, t) = (([], []), 1)) := by show _ = _; unfold bndA; rw [if_neg (by simp [hva])]
      rw [HA.out]
      rw [hva] at HV
      clear hv hva HA eW0 HBY HBC g hw ho hoc
      go_enter Try.func29, Try.ntmps29
      go_wp2_with fail
      refine HO.mono ?_
      rintro e w1 ⟨v, u, rfl, hb, hh⟩
      obtain ⟨h, m, rfl, rfl, hho, hm0, hmw⟩ := hh (by trivial)
      rw [← HE0.out] at hb hmw
      have HB1 : Hid (Below W0.heap.size W0 w1) := hb
      have HHO : Hid (HeapO w1 h xs tr m 0) := hho
      have HM0 : Hid (w1.heap[m]? = some (.map #[] 0)) := hm0
      have HMW : Hid (W0.heap.size ≤ m) := hmw
      clear hb HO hh hho hm0 hmw
      go_wp2_with fail
      refine (HV.out w1 h m HHO.out).mono ?_
      rintro e w2 ⟨rfl, hb2⟩
      have HBn : Hid (Below W0.heap.size W0 w2) := Below.on HB1.out hb2
      clear hb2 HV
      have HR : Hid _ := (HBX.out w2 HBn.out).put (.slice none 0 0) (.slice none 0 0)
      have HBF : Hid _ := HB0.out w2 (.slice none 0 0) (.slice none 0 0) HBn.out
      obtain ⟨b0, b1, b2⟩ := HBX.out w2 HBn.out
      clear HBX HB0
      go_wp2
      obtain ⟨d0, d1, _⟩ := HR.out
      exact bodyPost_ret (v := .tuple #[.agg #[.slice none 0 0, .slice none 0 0], .int .i64 1]) (by simp [results, Try.results29, go_sem, d0, d1]) rfl (StoreA.none 1 HBF.out)
    · obtain ⟨n0, rfl⟩ : ∃ j : Nat, a = j := ⟨a.toNat, by have := varB_at hva; omega⟩
      have hn0 : n0 < xs.length := by have := varB_at hva; omega
      rw [hva] at HV
      have HD : Hid (∀ h W, HeapAt W h xs tr → Calls Try.prog 45 #[.pointer (some ⟨h, 0, none⟩), wv (k, n, t)] W fun e w' => e = .returned (wv (drf xs (k, n, t))) ∧ Below W.heap.size W w') := fun h W H => deref_any h _ xs tr W g hw H
      have HWD : Hid (WdC xs (drf xs (k, n, t))) := (drf_word g hw).1
      have HFA : Hid ((okW (drf xs (k, n, t)).1 (drf xs (k, n, t)).2.1 (drf xs (k, n, t)).2.2.length = true) ∧ Byte (drf xs (k, n, t)).2.2) := (drf_ind g (P := fun c => okW c.1 c.2.1 c.2.2.length = true ∧ Byte c.2.2) (fun a ha _ => ⟨ho a ha, HBY.out a ha⟩) _ (k, n, t) (Nat.le_refl _) hw ⟨hoc, HBC.out⟩).1
      have HA : Hid (bndA xs tr n0 (k, n, t) = if (drf xs (k, n, t)).1 = 0 ∧ (drf xs (k, n, t)).2.1 = n0 then (([], []), 1) else bndT xs tr n0 (drf xs (k, n, t))) := by show _ = _; unfold bndA; rw [if_pos (by simp [hv, hva])]; rfl
      rw [HA.out]
      have HOK : Hid (∀ a, a < xs.length → okW (xs.getD a Cel.none).1 (xs.getD a Cel.none).2.1 (xs.getD a Cel.none).2.2.length = true) := ho
      have HSH : Hid (Shp xs) := g.shp
      clear hv hva HA eW0 HBC g hw ho hoc
      generalize drf xs (k, n, t) = d at HD HWD HFA ⊢
      have HEQ : ∀ W, (binOp .eql 70 (wv d) (.iface 100 (.int .i64 n0))).run Try.prog W = .ok (.bool (decide (d.1 = 0 ∧ d.2.1 = (n0 : Int)))) W := fun W => eqR_any W d n0 HWD.out.1
      by_cases hra : d.1 = 0 ∧ d.2.1 = n0
      · rw [if_pos hra]
        have ewv : wv d = .iface 100 (.int .i64 n0) := by unfold wv; rw [if_pos hra.1, hra.2]
        rw [ewv] at HD HEQ
        rw [decide_eq_true hra] at HEQ
        clear hra ewv HFA HWD HBY HOK
        go_enter Try.func29, Try.ntmps29
        go_wp2_with fail
        refine HO.mono ?_
        rintro e w1 ⟨v, u, rfl, hb, hh⟩
        obtain ⟨h, m, rfl, rfl, hho, hm0, hmw⟩ := hh (by trivial)
        rw [← HE0.out] at hb hmw
        have HB1 : Hid (Below W0.heap.size W0 w1) := hb
        have HHO : Hid (HeapO w1 h xs tr m 0) := hho
        have HM0 : Hid (w1.heap[m]? = some (.map #[] 0)) := hm0
        have HMW : Hid (W0.heap.size ≤ m) := hmw
        clear hb HO hh hho hm0 hmw
        go_wp2_with fail
        refine (HV.out w1 h m HHO.out).mono ?_
        rintro e w2 ⟨rfl, hb2⟩
        have HB2 : Hid (Below W0.heap.size W0 w2) := Below.on HB1.out hb2
        have HD2 := HD.out h w2 (HHO.out.below hb2).at
        clear hb2 HV HD
        go_wp2_with fail
        refine HD2.mono ?_
        rintro e w3 ⟨rfl, hb3⟩
        have HBn : Hid (Below W0.heap.size W0 w3) := Below.on HB2.out hb3
        clear hb3 HD2
        have HR : Hid _ := (HBX.out w3 HBn.out).put (.slice none 0 0) (.slice none 0 0)
        have HBF : Hid _ := HB0.out w3 (.slice none 0 0) (.slice none 0 0) HBn.out
        obtain ⟨b0, b1, b2⟩ := HBX.out w3 HBn.out
        clear HBX HB0
        go_wp2
        obtain ⟨d0, d1, _⟩ := HR.out
        exact bodyPost_ret (v := .tuple #[.agg #[.slice none 0 0, .slice none 0 0], .int .i64 1]) (by simp [results, Try.results29, go_sem, d0, d1]) rfl (StoreA.none 1 HBF.out)
      · rw [if_neg hra]
        rw [decide_eq_false hra] at HEQ
        have hF := bndT_fine (P := fun c => okW c.1 c.2.1 c.2.2.length = true ∧ Byte c.2.2) (tr := tr) (a := n0) (c := d) hl (fun i hi => ⟨HOK.out i hi, HBY.out i hi⟩) HFA.out ⟨okW_var n0 (by omega), fun x hx => by cases hx⟩
        have HBI : Hid (∀ W h m, HeapO W h xs tr m 0 → W.heap[m]? = some (.map #[] 0) → Calls Try.prog 65 #[.pointer (some ⟨h, 0, none⟩), .int .i64 n0, wv d] W (BindOut (bndT xs tr n0 d) h m 0 0 xs.length W)) := fun W h m H hm => bind_any h m 0 0 n0 xs tr (fun _ => 0) d W HSH.out hn0 (by omega) (by omega) ht HWD.out hra (fun _ => Nat.le_refl _) H (SMap.empty hm)
        generalize bndT xs tr n0 d = A at HBI hF ⊢
        obtain ⟨⟨X, T⟩, code⟩ := A
        simp only at hF
        have HSA : Hid (∀ W h, HeapAt W h X T → Calls Try.prog 61 #[.pointer (some ⟨h, 0, none⟩)] W (StoreOut X T W)) := fun W h H => store_any h X T W (by omega) (by omega) (fun a ha => (hF.2.2.1 a ha).1) (fun a ha => (hF.2.2.1 a ha).2) H
        have HNO : Hid (code ≠ 0 → (X, T) = ([], [])) := hF.2.2.2
        obtain ⟨ty, y, hvv⟩ := wv_iface d
        rw [hvv] at HBI HD HEQ
        clear hra HFA HWD HBY HOK HSH hF hvv
        go_enter Try.func29, Try.ntmps29
        go_wp2_with fail
        refine HO.mono ?_
        rintro e w1 ⟨v, u, rfl, hb, hh⟩
        obtain ⟨h, m, rfl, rfl, hho, hm0, hmw⟩ := hh (by trivial)
        rw [← HE0.out] at hb hmw
        have HB1 : Hid (Below W0.heap.size W0 w1) := hb
        have HHO : Hid (HeapO w1 h xs tr m 0) := hho
        have HM0 : Hid (w1.heap[m]? = some (.map #[] 0)) := hm0
        have HMW : Hid (W0.heap.size ≤ m) := hmw
        clear hb HO hh hho hm0 hmw
        go_wp2_with fail
        refine (HV.out w1 h m HHO.out).mono ?_
        rintro e w2 ⟨rfl, hb2⟩
        have HB2 : Hid (Below W0.heap.size W0 w2) := Below.on HB1.out hb2
        have HH2 : Hid (HeapO w2 h xs tr m 0 ∧ w2.heap[m]? = some (.map #[] 0)) := ⟨HHO.out.below hb2, (hb2.block m (by obtain ⟨_, _, _, _, _, _, _, h3⟩ := HHO.out; have := HHO.out.lt; omega)).trans HM0.out⟩
        have HD2 := HD.out h w2 HH2.out.1.at
        clear hb2 HV HD
        go_wp2_with fail
        refine HD2.mono ?_
        rintro e w3 ⟨rfl, hb3⟩
        have HB3 : Hid (Below W0.heap.size W0 w3) := Below.on HB2.out hb3
        have HBB := HBI.out w3 h m (HH2.out.1.below hb3) ((hb3.block m (by obtain ⟨_, _, _, _, _, _, _, h3⟩ := HH2.out.1; have := HH2.out.1.lt; omega)).trans HH2.out.2)
        clear hb3 HD2 HH2 HHO HM0 HBI
        go_wp2_with fail
        refine HBB.mono ?_
        rintro e w4 ⟨rfl, hb4, hok⟩
        have HB4 : Hid (Below W0.heap.size W0 w4) := HB3.out.trans (hb4.mono HMW.out)
        have HOK4 : Hid (code = 0 → HeapAt w4 h X T) := fun e0 => by obtain ⟨_, _, _, q, _⟩ := hok e0; exact q.at
        clear hb4 hok HBB
        by_cases hc0 : code = 0
        · subst hc0
          have HS4 : Hid _ := HSA.out w4 h (HOK4.out rfl)
          clear HSA HNO HOK4
          go_wp2_with fail
          refine Calls.mono HS4.out ?_
          rintro e w5 ⟨p5, q5, c5, d5, M, rfl, hoi, hoc, hM1, hM2, hb5⟩
          have HB5 : Hid (Below W0.heap.size W0 w5) := Below.on HB4.out hb5
          have HR : Hid _ := (HBX.out w5 HB5.out).put (.slice p5 X.length c5) (.slice q5 T.length d5)
          have HBF : Hid _ := HB0.out w5 (.slice p5 X.length c5) (.slice q5 T.length d5) HB5.out
          have HF : Hid (StoreA ((X, T), 0) w (.returned (.tuple #[.agg #[.slice p5 X.length c5, .slice q5 T.length d5], .int .i64 0])) ((w5.setCell ⟨w.heap.size + 1 + 1, 0, none⟩ (.slice p5 X.length c5)).setCell ⟨w.heap.size + 1 + 1, 1, none⟩ (.slice q5 T.length d5))) := by
            have hz := HZ0.out
            have h4 := HB4.out.size
            refine ⟨p5, q5, c5, d5, M, rfl, ⟨((hoi.1.set (by simp; omega) _).set (by simp; omega) _).mono (by omega), hoi.2⟩, ?_, by omega, by simpa using hM2, HBF.out⟩
            have := (hoc.set (a := ⟨w.heap.size + 1 + 1, 0, none⟩) (by simp; omega) (.slice p5 X.length c5)).set (a := ⟨w.heap.size + 1 + 1, 1, none⟩) (by simp; omega) (.slice q5 T.length d5)
            simpa using this
          obtain ⟨b0, b1, b2⟩ := HBX.out w5 HB5.out
          clear hoi hoc hM1 hM2 hb5 HS4 HBX HB0
          go_wp2
          obtain ⟨d0, d1, _⟩ := HR.out
          exact bodyPost_ret (v := .tuple #[.agg #[.slice p5 X.length c5, .slice q5 T.length d5], .int .i64 0]) (by simp [results, Try.results29, go_sem, d0, d1]) rfl HF.out
        · obtain ⟨rfl, rfl⟩ : X = [] ∧ T = [] := by have := HNO.out hc0; simpa using this
          have hcn : (code != 0) = true := by simpa using hc0
          have HBn : Hid (Below W0.heap.size W0 w4) := HB4.out
          clear HSA HNO HOK4 hc0
          have HR : Hid _ := (HBX.out w4 HBn.out).put (.slice none 0 0) (.slice none 0 0)
          have HBF : Hid _ := HB0.out w4 (.slice none 0 0) (.slice none 0 0) HBn.out
          obtain ⟨b0, b1, b2⟩ := HBX.out w4 HBn.out
          clear HBX HB0
          go_wp2
          obtain ⟨d0, d1, _⟩ := HR.out
          exact bodyPost_ret (v := .tuple #[.agg #[.slice none 0 0, .slice none 0 0], .int .i64 code]) (by simp [results, Try.results29, go_sem, d0, d1]) rfl (StoreA.none code HBF.out)

end Go.Proofs.Ytfnmoaiejpkocaa

namespace Go.Proofs.Ytfnmoaiejpkocaa
open Go Go.RowKit Go.Maps
set_option linter.unusedVariables false

set_option maxHeartbeats 4000000 in
set_option maxRecDepth 100000 in
theorem implUni_any (p q pa pb : Option Addr) (c1 c2 ca cb : Nat) (a b : Cel) (xs : List Cel) (tr : List Int) (w : World) (hx : xs.length ≤ 1000000000) (hy : tr.length ≤ 1000000000) (hbx : ∀ i, i < xs.length → Byte (xs.getD i Cel.none).2.2) (hba : Byte a.2.2) (hbb : Byte b.2.2) (hc : CIn w p xs) (hi : IIn w q tr) (hia : BIn w pa a.2.2) (hib : BIn w pb b.2.2) :
    Calls Try.prog 31 #[.agg #[.slice p xs.length c1, .slice q tr.length c2], .agg #[.int .i64 a.1, .int .i64 a.2.1, .slice pa a.2.2.length ca], .agg #[.int .i64 b.1, .int .i64 b.2.1, .slice pb b.2.2.length cb]] w (StoreA (uniA xs tr a b) w) := by
  obtain ⟨a0, a1, ta⟩ := a
  obtain ⟨b0, b1, tb⟩ := b
  obtain ⟨W0, eW0⟩ : ∃ W0, W0 = (((w.alloc (.cells #[.slice p xs.length c1, .slice q tr.length c2] 36)).alloc (.cells #[.int .i64 a0, .int .i64 a1, .slice pa ta.length ca] 31)).alloc (.cells #[.int .i64 b0, .int .i64 b1, .slice pb tb.length cb] 31)).alloc (.cells #[.slice none 0 0, .slice none 0 0] 36) := ⟨_, rfl⟩
  have hb0 : Below w.heap.size w W0 := by
    rw [eW0]; exact ((((Below.refl _ _).alloc (Nat.le_refl _) _).alloc (by simp) _).alloc (by simp; omega) _).alloc (by simp; omega) _
  have k0 := (heap_four w (.cells #[.slice p xs.length c1, .slice q tr.length c2] 36) (.cells #[.int .i64 a0, .int .i64 a1, .slice pa ta.length ca] 31) (.cells #[.int .i64 b0, .int .i64 b1, .slice pb tb.length cb] 31) (.cells #[.slice none 0 0, .slice none 0 0] 36))
  rw [← eW0] at k0
  obtain ⟨_, _, k2, k3⟩ := k0
  have hz0 : W0.heap.size = w.heap.size + 1 + 1 + 1 + 1 := by rw [eW0]; simp
  have HCB : Hid (∀ W, Below W0.heap.size W0 W → Box3 W (w.heap.size + 1 + 1) (.int .i64 b0) (.int .i64 b1) (.slice pb tb.length cb)) := fun W hW => Box3.of_block ((hW.block (w.heap.size + 1 + 1) (by omega)).trans k2)
  have HBX : Hid (∀ W, Below W0.heap.size W0 W → Box2 W (w.heap.size + 1 + 1 + 1) (.slice none 0 0) (.slice none 0 0)) := fun W hW => Box2.of_block ((hW.block (w.heap.size + 1 + 1 + 1) (by omega)).trans k3)
  have HO := heapWithO_any p q pa c1 c2 ca a0 a1 ta xs tr W0 hx hy (hc.below hb0) (hi.below hb0) (hia.below hb0)
  have HIB : Hid (∀ W, Below W0.heap.size W0 W → BIn W pb tb) := fun W hW => hib.below (Below.on hb0 hW)
  have HB0 : Hid (∀ W v0 v1, Below W0.heap.size W0 W → Below w.heap.size w ((W.setCell ⟨w.heap.size + 1 + 1 + 1, 0, none⟩ v0).setCell ⟨w.heap.size + 1 + 1 + 1, 1, none⟩ v1)) := fun W v0 v1 hW => below_put2 (Below.on hb0 hW) (by omega) _ _
  have HE0 : Hid _ := eW0
  have HZ0 : Hid _ := hz0
  clear hc hi hia hib hb0 k2 k3 hz0
  unfold WithOutO at HO
  rw [eW0] at HO
  clear eW0
  cases hva : vsB xs tr a0 a1 ta.length
  · rw [uniA_bad (a := (a0, a1, ta)) (b := (b0, b1, tb)) (by simp [hva])]
    rw [hva] at HO
    clear hva HIB HCB hbx hba hbb
    go_enter Try.func31, Try.ntmps31
    go_wp2_with fail
    refine HO.mono ?_
    rintro e w1 ⟨v, u, rfl, hb, _⟩
    rw [← HE0.out] at hb
    have HBn : Hid (Below W0.heap.size W0 w1) := hb
    clear hb HO
    have HR : Hid _ := (HBX.out w1 HBn.out).put (.slice none 0 0) (.slice none 0 0)
    have HBF : Hid _ := HB0.out w1 (.slice none 0 0) (.slice none 0 0) HBn.out
    obtain ⟨x0, x1, x2⟩ := HBX.out w1 HBn.out
    clear HBX HB0
    go_wp2
    obtain ⟨d0, d1, _⟩ := HR.out
    exact bodyPost_ret (v := .tuple #[.agg #[.slice none 0 0, .slice none 0 0], .int .i64 1]) (by simp [results, Try.results31, go_sem, d0, d1]) rfl (StoreA.none 1 HBF.out)
  · rw [hva] at HO
    obtain ⟨g, hwa, ho, hoa, htl⟩ := vsB_parts (c := (a0, a1, ta)) hva
    have hxl := g.shp.len
    have hsb : vsB xs tr b0 b1 tb.length = wordB xs b0 b1 tb.length := by
      have hs : storeB xs tr = true := by
        have := hva; unfold vsB at this; simp only [Bool.and_eq_true] at this; exact this.1
      unfold vsB; rw [hs, Bool.true_and]
    have HRD : Hid (∀ W h m, Below W0.heap.size W0 W → HeapO W h xs tr m 0 → Calls Try.prog 67 #[.pointer (some ⟨h, 0, none⟩), .agg #[.int .i64 b0, .int .i64 b1, .slice pb tb.length cb]] W fun e w' => (∃ v, e = .returned (.tuple #[v, .bool (vsB xs tr b0 b1 tb.length)]) ∧ (vsB xs tr b0 b1 tb.length = true → v = wv (b0, b1, tb))) ∧ Below W.heap.size W w') := fun W h m hW H => by
      rw [hsb]; exact read_any h b0 b1 pb tb.length cb tb xs tr W hxl g.shp.knds rfl (HIB.out W hW) H.at
    clear hsb
    cases hvb : vsB xs tr b0 b1 tb.length
    · rw [uniA_bad (a := (a0, a1, ta)) (b := (b0, b1, tb)) (by simp [hvb])]
      rw [hvb] at HRD
      clear hva hvb hbx hba hbb g hwa ho hoa htl hxl HIB
      go_enter Try.func31, Try.ntmps31
      go_wp2_with fail
      refine HO.mono ?_
      rintro e w1 ⟨v, u, rfl, hb, hh⟩
      obtain ⟨h, m, rfl, rfl, hho, hm0, hmw⟩ := hh (by trivial)
      rw [← HE0.out] at hb hmw
      have HB1 : Hid (Below W0.heap.size W0 w1) := hb
      have hcall := HRD.out w1 h m hb hho
      obtain ⟨u0, u1, u2, u3⟩ := HCB.out w1 hb
      clear hb HO hh hho hm0 hmw HRD HCB
      go_wp2_with fail
      refine hcall.mono ?_
      rintro e w2 ⟨⟨v2, rfl, _⟩, hb⟩
      have HBn : Hid (Below W0.heap.size W0 w2) := Below.on HB1.out hb
      clear hb hcall u0 u1 u2 u3
      have HR : Hid _ := (HBX.out w2 HBn.out).put (.slice none 0 0) (.slice none 0 0)
      have HBF : Hid _ := HB0.out w2 (.slice none 0 0) (.slice none 0 0) HBn.out
      obtain ⟨x0, x1, x2⟩ := HBX.out w2 HBn.out
      clear HBX HB0
      go_wp2
      obtain ⟨d0, d1, _⟩ := HR.out
      exact bodyPost_ret (v := .tuple #[.agg #[.slice none 0 0, .slice none 0 0], .int .i64 1]) (by simp [results, Try.results31, go_sem, d0, d1]) rfl (StoreA.none 1 HBF.out)
    · have HUA : Hid (uniA xs tr (a0, a1, ta) (b0, b1, tb) = ((uRun 20000 [((a0, a1, ta), (b0, b1, tb))] (xs, tr)).1, (uRun 20000 [((a0, a1, ta), (b0, b1, tb))] (xs, tr)).2.1)) := uniA_ok (a := (a0, a1, ta)) (b := (b0, b1, tb)) (by simp [hva, hvb])
      rw [hvb] at HRD
      obtain ⟨_, hwb, _, hob, _⟩ := vsB_parts (c := (b0, b1, tb)) hvb
      have hfit : Fit (xs, tr) := ⟨g, fun i hi => ⟨ho i hi, hbx i hi⟩, htl⟩
      have hka : WOk xs (a0, a1, ta) := ⟨hwa, hoa, hba⟩
      have hkb : WOk xs (b0, b1, tb) := ⟨hwb, hob, hbb⟩
      obtain ⟨hF, _, _⟩ := uRun_fit 20000 [((a0, a1, ta), (b0, b1, tb))] (xs, tr) hfit (fun p hp => by rw [List.mem_singleton.1 hp]; exact ⟨hka, hkb⟩)
      have HUN : Hid (∀ W h m, HeapO W h xs tr m 0 → W.heap[m]? = some (.map #[] 0) → Calls Try.prog 68 #[.pointer (some ⟨h, 0, none⟩), wv (a0, a1, ta), wv (b0, b1, tb)] W (UniI (uRun 20000 [((a0, a1, ta), (b0, b1, tb))] (xs, tr)) h m W)) := fun W h m H hm => unify_any h m (a0, a1, ta) (b0, b1, tb) (xs, tr) W hfit hka hkb H (SMap.empty hm)
      have HSA : Hid (∀ W h, HeapAt W h (uRun 20000 [((a0, a1, ta), (b0, b1, tb))] (xs, tr)).1.1 (uRun 20000 [((a0, a1, ta), (b0, b1, tb))] (xs, tr)).1.2 → Calls Try.prog 61 #[.pointer (some ⟨h, 0, none⟩)] W (StoreOut (uRun 20000 [((a0, a1, ta), (b0, b1, tb))] (xs, tr)).1.1 (uRun 20000 [((a0, a1, ta), (b0, b1, tb))] (xs, tr)).1.2 W)) := fun W h H => store_any h _ _ W hF.1.shp.len hF.2.2 (fun a ha => (hF.2.1 a ha).1) (fun a ha => (hF.2.1 a ha).2) H
      generalize uRun 20000 [((a0, a1, ta), (b0, b1, tb))] (xs, tr) = R at HUN HSA HUA
      generalize uniA xs tr (a0, a1, ta) (b0, b1, tb) = AA at HUA ⊢
      rw [HUA.out]
      clear hva hvb g hwa ho hoa htl hwb hob hxl hfit hka hkb hF hbx hba hbb HIB HUA AA
      obtain ⟨⟨X, T⟩, code, mm⟩ := R
      obtain ⟨ty1, y1, e1⟩ := wv_iface (a0, a1, ta)
      obtain ⟨ty2, y2, e2⟩ := wv_iface (b0, b1, tb)
      rw [e1, e2] at HUN
      rw [e1] at HO
      rw [e2] at HRD
      clear e1 e2
      go_enter Try.func31, Try.ntmps31
      go_wp2_with fail
      refine HO.mono ?_
      rintro e w1 ⟨v, u, rfl, hb, hh⟩
      obtain ⟨h, m, rfl, rfl, hho, hm0, hmw⟩ := hh (by trivial)
      rw [← HE0.out] at hb hmw
      have HB1 : Hid (Below W0.heap.size W0 w1) := hb
      have HHO : Hid (HeapO w1 h xs tr m 0) := hho
      have HM0 : Hid (w1.heap[m]? = some (.map #[] 0)) := hm0
      have HMW : Hid (W0.heap.size ≤ m) := hmw
      have hcall := HRD.out w1 h m hb hho
      obtain ⟨u0, u1, u2, u3⟩ := HCB.out w1 hb
      clear hb HO hh hho hm0 hmw HRD HCB
      go_wp2_with fail
      refine hcall.mono ?_
      rintro e w2 ⟨⟨v2, rfl, hv2⟩, hb2⟩
      obtain rfl := hv2 (by trivial)
      have HB2 : Hid (Below W0.heap.size W0 w2) := Below.on HB1.out hb2
      have HUC := HUN.out w2 h m (HHO.out.below hb2) ((hb2.block m (by obtain ⟨_, _, _, _, _, _, _, h3⟩ := HHO.out; have := HHO.out.lt; omega)).trans HM0.out)
      clear hb2 hcall u0 u1 u2 u3 HHO HM0 HUN hv2
      go_wp2_with fail
      refine HUC.mono ?_
      rintro e w4 ⟨rfl, ⟨lk, hok⟩, hb4⟩
      have HB4 : Hid (Below W0.heap.size W0 w4) := HB2.out.trans (hb4.mono HMW.out)
      have HS4 : Hid _ := HSA.out w4 h hok.at
      clear hb4 hok HUC HSA
      go_wp2_with fail
      refine Calls.mono HS4.out ?_
      rintro e w5 ⟨p5, q5, c5, d5, M, rfl, hoi, hoc, hM1, hM2, hb5⟩
      have HB5 : Hid (Below W0.heap.size W0 w5) := Below.on HB4.out hb5
      have HR : Hid _ := (HBX.out w5 HB5.out).put (.slice p5 X.length c5) (.slice q5 T.length d5)
      have HBF : Hid _ := HB0.out w5 (.slice p5 X.length c5) (.slice q5 T.length d5) HB5.out
      have HF : Hid (StoreA ((X, T), code) w (.returned (.tuple #[.agg #[.slice p5 X.length c5, .slice q5 T.length d5], .int .i64 code])) ((w5.setCell ⟨w.heap.size + 1 + 1 + 1, 0, none⟩ (.slice p5 X.length c5)).setCell ⟨w.heap.size + 1 + 1 + 1, 1, none⟩ (.slice q5 T.length d5))) := by
        have hz := HZ0.out
        have h4 := HB4.out.size
        refine ⟨p5, q5, c5, d5, M, rfl, ⟨((hoi.1.set (by simp; omega) _).set (by simp; omega) _).mono (by omega), hoi.2⟩, ?_, by omega, by simpa using hM2, HBF.out⟩
        have := (hoc.set (a := ⟨w.heap.size + 1 + 1 + 1, 0, none⟩) (by simp; omega) (.slice p5 X.length c5)).set (a := ⟨w.heap.size + 1 + 1 + 1, 1, none⟩) (by simp; omega) (.slice q5 T.length d5)
        simpa using this
      obtain ⟨x0, x1, x2⟩ := HBX.out w5 HB5.out
      clear hoi hoc hM1 hM2 hb5 HS4 HBX HB0
      go_wp2
      obtain ⟨d0, d1, _⟩ := HR.out
      exact bodyPost_ret (v := .tuple #[.agg #[.slice p5 X.length c5, .slice q5 T.length d5], .int .i64 code]) (by simp [results, Try.results31, go_sem, d0, d1]) rfl HF.out

end Go.Proofs.Ytfnmoaiejpkocaa

namespace Go.Proofs.Ytfnmoaiejpkocaa
open Go Go.RowKit
set_option linter.unusedVariables false

theorem tl_le100 : ∀ cs : List Cel, (∀ c ∈ cs, c.2.2.length ≤ 100) → tl cs ≤ 100 * cs.length
  | [], _ => by simp [tl]
  | a :: r, h => by
    have h1 := tl_le100 r (fun c hc => h c (by simp [hc]))
    have h2 := h a (by simp)
    simp only [tl, List.length_cons]
    omega
set_option maxRecDepth 100000 in
theorem markStoreT_any (B M U : Nat) (p q : Option Addr) (n m c1 c2 : Nat) (k : Int) (xs : List Cel) (tr : List Int) (w : World) (h0 : 0 ≤ k) (h1 : k ≤ 10000000) (hx : xs.length + tl xs ≤ 100000000) (hm : m ≤ 100000000) (hBM : B ≤ M) (hMU : M ≤ U) (hU : U ≤ w.heap.size) (hown : OwnCU w M U p n c1 xs) (hint : OwnIU w B M q m c2 tr) :
    Calls Try.prog 17 #[.agg #[.slice p n c1, .slice q m c2], .int .i64 k] w fun e w' => e = .returned (.int .i64 (endC k xs + m)) ∧ (CIn w' p (markC k xs) ∧ IIn w' q (ups (endC k xs) m)) ∧ Keep B U w w' := by
  obtain ⟨W0, eW0⟩ : ∃ W0, W0 = w.alloc (.cells #[.slice p n c1, .slice q m c2] 36) := ⟨_, rfl⟩
  have hb0 : Below w.heap.size w W0 := by rw [eW0]; exact (Below.refl _ _).alloc (Nat.le_refl _) _
  have H1 := markCells_any M U p n c1 k xs W0 h0 h1 hx (hown.below hb0)
  have k0 : W0.heap[w.heap.size]? = some (.cells #[.slice p n c1, .slice q m c2] 36) := by rw [eW0]; exact heap_alloc_new _ _
  have hz : W0.heap.size = w.heap.size + 1 := by rw [eW0]; simp
  have HI : Hid (OwnIU W0 B M q m c2 tr) := hint.on hb0
  have hke : 0 ≤ endC k xs ∧ endC k xs ≤ 1000000000000 := by rw [endC_eqM]; omega
  generalize endC k xs = ke at H1 hke ⊢
  have HC : Hid (∀ w1, Keep M U W0 w1 → w1.cell? ⟨w.heap.size, 1, none⟩ = some (.slice q m c2) ∧ OwnIU w1 B M q m c2 tr) := fun w1 hk => by
    have j0 := (hk.block w.heap.size (by omega) (by omega)).trans k0
    exact ⟨by simp [World.cell?, j0], HI.out.keep hk (.inl (Nat.le_refl _))⟩
  have HF : Hid (∀ w1 w2, Keep M U W0 w1 → w1.grownBy w2 (Value.ownBlock (.slice q m c2)) → OwnCU w1 M U p n c1 (markC k xs) → CIn w2 p (markC k xs) ∧ Keep B U w w2) := fun w1 w2 hk hg ho => by
    have hrow : ∀ g, Value.ownBlock (.slice q m c2) = some g → B ≤ g ∧ g < M := fun g e => ⟨(HI.out.1.2.lt g e).1, HI.out.2 g e⟩
    refine ⟨(ho.other hg.size (fun j hj hj1 hj2 => hg.block j hj (fun e => by have := hrow j e.symm; omega))).toC.cin, ?_⟩
    have a1 : Keep B U w W0 := by rw [eW0]; exact Keep.new B U w _
    exact (a1.trans (hk.widen hBM (Nat.le_refl _))).trans (Keep.of_grown hg (fun g e => ⟨(hrow g e).1, by have := (hrow g e).2; omega⟩))
  have HM : Hid (∀ w1, OwnIU w1 B M q m c2 tr → Calls Try.prog 48 #[.slice q m c2, .int .i64 ke] w1 fun e w' => e = .returned (.int .i64 (ke + m)) ∧ OwnI w' B 3 q m c2 (ups ke m) ∧ w1.grownBy w' (Value.ownBlock (.slice q m c2))) := fun w1 h => markIntS_any B q m c2 ke tr w1 hke.1 hke.2 (by omega) h.1
  rw [eW0] at H1
  have HE0 : Hid _ := eW0
  clear hown hint hb0 k0 hz hBM hMU hU HI eW0 hx
  go_enter Try.func17, Try.ntmps17
  go_wp2_with fail
  refine H1.mono ?_
  rintro e w1 ⟨rfl, ho1, hk1⟩
  rw [← HE0.out] at hk1
  obtain ⟨s1, hi1⟩ := HC.out w1 hk1
  have HM1 := HM.out w1 hi1
  have HO1 : Hid (OwnCU w1 M U p n c1 (markC k xs) ∧ Keep M U W0 w1) := ⟨ho1, hk1⟩
  clear H1 HM HC ho1 hk1 hi1
  go_wp2_with (go_at_call 48; refine HM1.mono ?_; rintro e w2 ⟨rfl, ho2, hg2⟩)
  go_ret
  obtain ⟨f1, f2⟩ := HF.out w1 w2 HO1.out.2 hg2 HO1.out.1
  exact ⟨rfl, ⟨f1, ho2.iin⟩, f2⟩

end Go.Proofs.Ytfnmoaiejpkocaa

