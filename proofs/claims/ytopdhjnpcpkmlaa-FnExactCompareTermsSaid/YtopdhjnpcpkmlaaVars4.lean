/- TermVars of the specification; numbers compared, marked, held. Own work of the verifier. -/
import Derived.Test.YtopdhjnpcpkmlaaVars3
import Derived.Test.YtopdhjnpcpkmlaaMarkC
namespace Go.Proofs.Ytopdhjnpcpkmlaa
open Go Go.RowKit Go.Maps
set_option linter.unusedVariables false

def findI (ks : List Int) (x : Int) : Int := if x ∈ ks then (ks.idxOf x : Nat) else -1
theorem mem_getD {ks : List Int} {i : Nat} (h : i < ks.length) : ks.getD i 0 ∈ ks := by simp [List.getD, h]
theorem idxOf_le : ∀ (ks : List Int) (j : Nat) (x : Int), j < ks.length → ks.getD j 0 = x → ks.idxOf x ≤ j
  | [], j, x, h, _ => by simp at h
  | a :: r, 0, x, _, e => by
    have e : a = x := by simpa using e
    simp [e]
  | a :: r, j + 1, x, h, e => by
    have := idxOf_le r j x (by simpa using h) (by simpa using e)
    rw [List.idxOf_cons]
    cases a == x
    · simp; omega
    · simp
theorem find_at {ks : List Int} {x : Int} {j : Nat} (hj : j < ks.length) (h : ∀ i, i < j → ks.getD i 0 ≠ x) (e : ks.getD j 0 = x) : findI ks x = j := by
  have hm : x ∈ ks := e ▸ mem_getD hj
  have hlt := List.idxOf_lt_length_of_mem hm
  have hat : ks.getD (ks.idxOf x) 0 = x := by simp [List.getD, hlt]
  rw [findI, if_pos hm]
  have h1 : ¬ ks.idxOf x < j := fun hl => h _ hl hat
  have h2 : ks.idxOf x ≤ j := idxOf_le ks j x hj e
  omega
theorem find_none {ks : List Int} {x : Int} (h : ∀ i, i < ks.length → ks.getD i 0 ≠ x) : findI ks x = -1 := by
  rw [findI, if_neg]
  intro hm
  have hlt := List.idxOf_lt_length_of_mem hm
  exact h _ hlt (by simp [List.getD, hlt])

theorem l2find_any (p : Option Addr) (n c : Nat) (ks : List Int) (x : Int) (w : World) (hn : n = ks.length) (hl : n ≤ 1000000) (hin : IIn w p ks) :
    Calls Try.prog 65 #[.slice p n c, .int .i64 x] w fun e w' => e = .returned (.int .i64 (findI ks x)) ∧ w' = w := by
  have HI : Hid (IIn w p ks) := hin
  have HN : Hid (n = ks.length) := hn
  clear hin hn
  go_enter Try.func65, Try.ntmps65
  go_wp2_with fail
  go_loop [5] (fun i => ∃ j : Nat, j ≤ n ∧ i = .int .i64 j ∧ Hid (∀ i, i < j → ks.getD i 0 ≠ x)) (fun i => n - (intOf i).toNat)
  case atStart => exact ⟨0, Nat.zero_le _, rfl, fun _ h => absurd h (Nat.not_lt_zero _)⟩
  case round =>
    obtain ⟨j, hj, rfl, HF⟩ := hrel
    by_cases hlt : j < n
    · have hjl : j < ks.length := by rw [← HN.out]; exact hlt
      obtain ⟨b, o, rfl, hc⟩ := HI.out (by omega)
      have hx := hc j hjl
      obtain ⟨y, ey⟩ : ∃ y, y = ks.getD j 0 := ⟨_, rfl⟩
      rw [← ey] at hx
      have HY : Hid (y = ks.getD j 0) := ey
      clear hc ey
      by_cases he : y = x
      · have he' : (y == x) = true := by simpa using he
        have HE : Hid (y = x) := he
        clear he
        go_wp2_with fail
        go_ret
        exact ⟨ret_int (find_at hjl HF.out (by rw [← HY.out]; exact HE.out)).symm, rfl⟩
      · have he' : (y == x) = false := by simpa using he
        have HE : Hid (y ≠ x) := he
        clear he
        go_wp2_with fail
        go_round
        case rel => exact ⟨j + 1, by omega, by go_num, fun i hi => by
          by_cases e : i = j
          · subst e; rw [← HY.out]; exact HE.out
          · exact HF.out i (by omega)⟩
        case measure => simp [intOf]; omega
    · obtain rfl : j = n := by omega
      go_wp2_with fail
      go_ret
      exact ⟨ret_int (find_none (by rw [← HN.out]; exact HF.out)).symm, rfl⟩

theorem visits_take (cs : List Cel) (j : Nat) (h : j < cs.length) (ks : List Int) : visits ks (cs.take (j + 1)) = visitL (visits ks (cs.take j)) (cs.getD j Cel.none) := by
  rw [List.take_succ_eq_append_getElem h, visits_append, List.getD, List.getElem?_eq_getElem h]; rfl

set_option maxRecDepth 100000 in
theorem l2vars_any (p : Option Addr) (n c : Nat) (cs : List Cel) (w : World) (hn : n = cs.length) (hl : n ≤ 100000) (hin : CIn w p cs) :
    Calls Try.prog 42 #[.slice p n c, .slice none 0 0] w fun e w' => ∃ q m c2, e = .returned (.slice q m c2) ∧ OwnI w' w.heap.size 3 q m c2 (visits [] cs) ∧ Below w.heap.size w w' := by
  have HI : Hid (CIn w p cs) := hin
  have HN : Hid (n = cs.length) := hn
  clear hin hn
  go_enter Try.func42, Try.ntmps42
  go_wp2_with fail
  go_loopw [1, 5] (fun s i wr => ∃ (j : Nat) (q : Option Addr) (m c2 : Nat), j ≤ n ∧ m ≤ j ∧ i = .int .i64 j ∧ s = .slice q m c2 ∧ Hid (OwnI wr w.heap.size 3 q m c2 (visits [] (cs.take j))) ∧ Hid (Below w.heap.size w wr)) (fun _ i _ => n - (intOf i).toNat)
  case atStart => exact ⟨0, none, 0, 0, Nat.zero_le _, Nat.le_refl _, rfl, rfl, OwnI.nil _ _ _, Below.refl _ _⟩
  case round =>
    obtain ⟨j, q, m, c2, hj, hm, rfl, rfl, HO, HB⟩ := hrel
    by_cases hlt : j < n
    · have hjl : j < cs.length := by rw [← HN.out]; exact hlt
      obtain ⟨b, o, rfl, hcs⟩ := HI.out (by omega)
      obtain ⟨p0, q0, d0, d1, _, _⟩ := (hcs j hjl).below HB.out
      have HV : Hid _ := visits_take cs j hjl []
      obtain ⟨c0, e0⟩ : ∃ x, x = (cs.getD j Cel.none).1 := ⟨_, rfl⟩
      obtain ⟨c1, e1⟩ : ∃ x, x = (cs.getD j Cel.none).2.1 := ⟨_, rfl⟩
      rw [← e0] at d0
      rw [← e1] at d1
      have HE : Hid (c0 = (cs.getD j Cel.none).1 ∧ c1 = (cs.getD j Cel.none).2.1) := ⟨e0, e1⟩
      clear hcs e0 e1
      by_cases h0 : c0 = 0
      · subst h0
        have HFD := l2find_any q m c2 _ c1 wr HO.out.1 (by omega) HO.out.iin
        by_cases hx : c1 ∈ visits [] (cs.take j)
        · have hf : ¬ findI (visits [] (cs.take j)) c1 < 0 := by rw [findI, if_pos hx]; omega
          have HX : Hid (visits [] (cs.take (j + 1)) = visits [] (cs.take j)) := by
            show _ = _
            rw [HV.out, visitL, if_pos HE.out.1.symm, putV, if_pos (by rw [← HE.out.2]; exact hx)]
          obtain ⟨fi, ef⟩ : ∃ fi, fi = findI (visits [] (cs.take j)) c1 := ⟨_, rfl⟩
          rw [← ef] at HFD hf
          clear ef hx
          go_wp2_with fail
          refine HFD.mono ?_
          rintro e w1 ⟨rfl, rfl⟩
          go_wp2_with fail
          go_roundw
          case rel => exact ⟨j + 1, q, m, c2, by omega, by omega, by go_num, rfl, by rw [HX.out]; exact HO, HB⟩
          case measure => simp [intOf]; omega
        · have hf : findI (visits [] (cs.take j)) c1 = -1 := by rw [findI, if_neg hx]
          have HX : Hid (visits [] (cs.take (j + 1)) = visits [] (cs.take j) ++ [c1]) := by
            show _ = _
            rw [HV.out, visitL, if_pos HE.out.1.symm, putV, if_neg (by rw [← HE.out.2]; exact hx), ← HE.out.2]
          rw [hf] at HFD
          clear hf hx
          go_wp2_with fail
          refine HFD.mono ?_
          rintro e w1 ⟨rfl, rfl⟩
          go_wp2_with (at_builtin; refine app_int _ rfl _ _ rfl w.heap.size q m c2 _ c1 rfl HO.out rfl (by omega) HB.out.size ?_; intro g n' cap' w5 hown5 hb5 hn5)
          have HB5 : Hid (Below w.heap.size w w5) := (HB.out.alloc HB.out.size _).trans hb5
          have HO5 : Hid (OwnI w5 w.heap.size 3 (some ⟨g, 0, none⟩) n' cap' (visits [] (cs.take (j + 1)))) := by rw [HX.out]; exact hown5
          clear hown5 hb5
          go_roundw
          case rel => exact ⟨j + 1, _, _, _, by omega, by have := hn5.out; omega, by go_num, rfl, HO5, HB5⟩
          case measure => simp [intOf]; omega
      · have h0' : (c0 == 0) = false := by simpa using h0
        have HX : Hid (visits [] (cs.take (j + 1)) = visits [] (cs.take j)) := by
          show _ = _
          rw [HV.out, visitL, if_neg (by rw [← HE.out.1]; exact h0)]
        clear h0
        go_wp2_with fail
        go_roundw
        case rel => exact ⟨j + 1, q, m, c2, by omega, by omega, by go_num, rfl, by rw [HX.out]; exact HO, HB⟩
        case measure => simp [intOf]; omega
    · obtain rfl : j = n := by omega
      go_wp2_with fail
      go_ret
      refine ⟨_, _, _, rfl, ?_, HB.out⟩
      have := HO.out
      rwa [List.take_of_length_le (by rw [← HN.out]; exact Nat.le_refl _)] at this

theorem specVars_any (cs : List Cel) (p : Option Addr) (n cap : Nat) (w : World) (hn : n = cs.length) (hl : n ≤ 10000000) (hin : CIn w p cs) :
    Calls Try.prog 16 #[.slice p n cap] w fun e w' => ∃ q m c2, e = .returned (.slice q m c2) ∧ OwnI w' w.heap.size 3 q m c2 (if validB cs = true then visits [] cs else []) ∧ Below w.heap.size w w' := by
  subst hn
  have HV := specValid_any p cap cs w (by omega) hin
  have HI : Hid (CIn w p cs) := hin
  clear hin
  by_cases hv : validB cs = true
  · have hlen : cs.length ≤ 2000 := by simp only [validB, Bool.and_eq_true, decide_eq_true_eq] at hv; exact hv.1
    rw [if_pos hv]
    rw [hv] at HV
    clear hv
    go_enter Try.func16, Try.ntmps16
    go_wp2_with fail
    refine HV.mono ?_
    rintro e w1 ⟨rfl, hb1⟩
    have HB1 : Hid (Below w.heap.size w w1) := hb1
    have HT := l2vars_any p cs.length cap cs w1 rfl (by omega) (HI.out.below hb1)
    clear hb1 HV
    go_wp2_with fail
    refine HT.mono ?_
    rintro e w2 ⟨q, m, c2, rfl, ho, hb2⟩
    go_wp2_with fail
    go_ret
    exact ⟨_, _, _, rfl, ho.mono HB1.out.size, Below.on HB1.out hb2⟩
  · have hv' : validB cs = false := by simpa using hv
    rw [if_neg hv]
    rw [hv'] at HV
    clear hv hv'
    go_enter Try.func16, Try.ntmps16
    go_wp2_with (go_at_call 10; refine HV.mono ?_; rintro e w1 ⟨rfl, hb1⟩)
    go_ret
    exact ⟨_, _, _, rfl, OwnI.nil _ _ _, hb1⟩

theorem eqIntS_any (p q : Option Addr) (n m c1 c2 : Nat) (xs : List Int) (w : World) (hn : n = xs.length) (hm : m = xs.length) (hl : n ≤ 1000000) (hx : IIn w p xs) (hy : IIn w q xs) :
    Calls Try.prog 18 #[.slice p n c1, .slice q m c2] w fun e w' => e = .returned (.bool true) ∧ ∃ k, w' = w.drewN k := by
  obtain rfl : m = n := by omega
  have HN : Hid (m = xs.length) := hn
  have HX : Hid (IIn w p xs) := hx
  have HY : Hid (IIn w q xs) := hy
  clear hn hm hx hy
  go_enter Try.func18, Try.ntmps18
  go_wp2_with fail
  go_loopw [5] (fun i wr => ∃ k d : Nat, k ≤ m ∧ i = .int .i64 k ∧ Hid (wr = w.drewN d)) (fun i _ => m - (intOf i).toNat)
  case atStart => exact ⟨0, 0, Nat.zero_le _, rfl, rfl⟩
  case round =>
    obtain ⟨k, d, hk, rfl, HW⟩ := hrel
    by_cases hlt : k < m
    · have hkl : k < xs.length := by rw [← HN.out]; exact hlt
      obtain ⟨b, o, rfl, hcx⟩ := HX.out (by omega)
      obtain ⟨b', o', rfl, hcy⟩ := HY.out (by omega)
      have h1 : wr.cell? ⟨b, o + k, none⟩ = some (.int .i64 (xs.getD k 0)) := by rw [HW.out]; exact hcx k hkl
      have h2 : wr.cell? ⟨b', o' + k, none⟩ = some (.int .i64 (xs.getD k 0)) := by rw [HW.out]; exact hcy k hkl
      obtain ⟨x, ex⟩ : ∃ x, x = xs.getD k 0 := ⟨_, rfl⟩
      rw [← ex] at h1 h2
      clear ex hcx hcy
      go_wp2_with fail
      go_region
      all_goals go_wp2_with fail
      all_goals go_roundw
      case rel => exact ⟨k + 1, d + 1, by omega, by go_num, by rw [HW.out]; rfl⟩
      case measure => simp [intOf]; omega
    · obtain rfl : k = m := by omega
      go_wp2_with fail
      go_ret
      exact ⟨rfl, d, HW.out⟩

/-- Numbers that go up. -/
def ups (k : Int) (n : Nat) : List Int := (List.range n).map fun (i : Nat) => k + (i : Int)
theorem ups_len (k : Int) (n : Nat) : (ups k n).length = n := by simp [ups]
theorem ups_at (k : Int) (n i : Nat) (h : i < n) : (ups k n).getD i 0 = k + i := by simp [ups, List.getD, h]

theorem markIntS_any (B : Nat) (p : Option Addr) (n c : Nat) (k : Int) (xs : List Int) (w : World) (h0 : 0 ≤ k) (h1 : k ≤ 1000000) (hn : n ≤ 1000000) (hown : OwnI w B 3 p n c xs) :
    Calls Try.prog 20 #[.slice p n c, .int .i64 k] w fun e w' => e = .returned (.int .i64 (k + n)) ∧ OwnI w' B 3 p n c (ups k n) ∧ w.grownBy w' (Value.ownBlock (.slice p n c)) := by
  rcases hown.2.2 with ⟨hv, h00⟩ | ⟨g, cap, cur, hv, hbg, hg, _⟩
  · simp only [Value.slice.injEq] at hv
    obtain ⟨rfl, rfl, rfl⟩ := hv
    clear hown
    go_enter Try.func20, Try.ntmps20
    go_wp2
    refine wp_loop_rounds 1 ?_
    rw [rounds_succ]
    go_wp2
    go_ret
    exact ⟨by simp, OwnI.nil _ _ _, ⟨rfl, rfl, rfl, Nat.le_refl _, fun _ _ _ => rfl⟩⟩
  · simp only [Value.slice.injEq, true_and] at hv
    obtain ⟨rfl, rfl⟩ := hv
    have HN : Hid (n = xs.length) := hown.1
    have HO : Hid (w.ownsRow B 3 1 (.slice (some ⟨g, 0, none⟩) n c) n (xs.map (Value.int .i64))) := hown.2
    clear hown hg
    go_enter Try.func20, Try.ntmps20
    go_wp2_with fail
    go_loopw [1, 5] (fun q i wr => ∃ j : Nat, j ≤ n ∧ i = .int .i64 j ∧ q = .int .i64 (k + j) ∧ Hid (wr.ownsRow B 3 1 (.slice (some ⟨g, 0, none⟩) n c) n ((ups k j ++ xs.drop j).map (Value.int .i64))) ∧ Hid (w.grownBy wr (some g))) (fun _ i _ => n - (intOf i).toNat)
    case atStart => exact ⟨0, Nat.zero_le _, rfl, by simp, by simpa [ups] using HO, ⟨rfl, rfl, rfl, Nat.le_refl _, fun _ _ _ => rfl⟩⟩
    case round =>
      obtain ⟨j, hj, rfl, rfl, HR, HG⟩ := hrel
      by_cases hlt : j < n
      · have hxl := HN.out
        have hd : ∃ z, wr.cell? ⟨g, j, none⟩ = some (.int .i64 z) := by
          rw [HR.out.cellAt j (by omega)]
          simp only [List.getElem?_map]
          have : j < (ups k j ++ xs.drop j).length := by simp [ups_len]; omega
          rw [List.getElem?_eq_getElem this]
          exact ⟨_, rfl⟩
        obtain ⟨z, hd⟩ := hd
        have hf := HR.out.frozenAt j
        have HS : Hid ((wr.setCell ⟨g, j, none⟩ (.int .i64 (k + j))).ownsRow B 3 1 (.slice (some ⟨g, 0, none⟩) n c) n ((ups k (j + 1) ++ xs.drop (j + 1)).map (Value.int .i64)) ∧ wr.grownBy (wr.setCell ⟨g, j, none⟩ (.int .i64 (k + j))) (some g)) := by
          have hs := HR.out.stored j (.int .i64 (k + j))
          have e : ((ups k j ++ xs.drop j).map (Value.int .i64)).set j (.int .i64 (k + j)) = (ups k (j + 1) ++ xs.drop (j + 1)).map (Value.int .i64) := by
            have e1 : j - ((ups k j).map (Value.int IntKind.i64)).length = 0 := by simp [ups_len]
            rw [List.map_append, List.set_append_right _ _ (by simp [ups_len]), e1, List.drop_eq_getElem_cons (by omega), List.map_cons, List.set_cons_zero]
            simp [ups, List.range_succ]
          rw [e] at hs
          exact hs
        clear hxl
        go_wp2_with fail
        go_roundw
        case rel => exact ⟨j + 1, by omega, by go_num, by simp; omega, HS.out.1, HG.out.trans HS.out.2⟩
        case measure => simp [intOf]; omega
      · obtain rfl : j = n := by omega
        go_wp2_with fail
        go_ret
        refine ⟨rfl, ⟨(ups_len _ _).symm, ?_⟩, HG.out⟩
        have := HR.out
        rw [List.drop_eq_nil_of_le (by rw [← HN.out]; exact Nat.le_refl _), List.append_nil] at this
        exact this

theorem heldIntS_any (p : Option Addr) (n c : Nat) (k : Int) (w : World) (h0 : 0 ≤ k) (h1 : k ≤ 1000000) (hn : n ≤ 1000000) (hin : IIn w p (ups k n)) :
    Calls Try.prog 21 #[.slice p n c, .int .i64 k] w fun e w' => e = .returned (.int .i64 (k + n)) ∧ w' = w := by
  have HI : Hid (IIn w p (ups k n)) := hin
  clear hin
  go_enter Try.func21, Try.ntmps21
  go_wp2_with fail
  go_loop [1, 5] (fun q i => ∃ j : Nat, j ≤ n ∧ i = .int .i64 j ∧ q = .int .i64 (k + j)) (fun _ i => n - (intOf i).toNat)
  case atStart => exact ⟨0, Nat.zero_le _, rfl, by simp⟩
  case round =>
    obtain ⟨j, hj, rfl, rfl⟩ := hrel
    by_cases hlt : j < n
    · obtain ⟨b, o, rfl, hc⟩ := HI.out (by rw [ups_len]; omega)
      have hx := hc j (by rw [ups_len]; exact hlt)
      rw [ups_at k n j hlt] at hx
      clear hc
      go_wp2_with fail
      go_round
      case rel => exact ⟨j + 1, by omega, by go_num, by simp; omega⟩
      case measure => simp [intOf]; omega
    · obtain rfl : j = n := by omega
      go_wp2_with fail
      go_ret
      exact ⟨rfl, rfl⟩

end Go.Proofs.Ytopdhjnpcpkmlaa
