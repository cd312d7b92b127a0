/- Texts of Dt2, Dt4, SSO, MkL. Own work of the verifier. -/
import Derived.Test.YtaakpdakeolgeaaGreatUqag
import Derived.Test.YtaakpdakeolgeaaGreatUqai
import Derived.Maps.AppendAt
import Derived.Test.YtaakpdakeolgeaaGreatUqah
import Derived.Test.YtaakpdakeolgeaaGreatUqaf
namespace Go.Proofs.YtaakpdakeolgeaaGreat
open Go Go.RowKit
set_option linter.unusedVariables false
theorem RdIn.grow {w w' : World} {R : Nat} {p : Option Addr} {c : Nat} {xs : List Int} {i : Nat} (h : RdIn w R p c xs i) (k : Below w.heap.size w w') : RdIn w' R p c xs i := h.below k h.lt
theorem left_any (R c i : Nat) (p : Option Addr) (xs : List Int) (w : World) (h : RdIn w R p c xs i) :
    Calls Tryz.prog 50 #[.pointer (some ⟨R, 0, none⟩)] w fun e w' => e = .returned (.int .i64 ((xs.length - i : Nat) : Int)) ∧ Below w.heap.size w w' := by
  have h0 := h.at0
  have h1 := h.at1
  have hs := h.small
  have hi := h.le
  obtain ⟨n, en⟩ : ∃ n, n = xs.length := ⟨_, rfl⟩
  rw [← en] at h0 hs hi ⊢
  have HE : Hid (n = xs.length) := en
  have hsub : ((n - i : Nat) : Int) = (n : Int) - i := by omega
  rw [hsub]
  have hd : Below w.heap.size w w.drew := below_drewN (Below.refl _ _) 1
  clear h en hsub
  go_enter Tryz.func50, Tryz.ntmps50
  go_wp2
  go_region
  all_goals go_wp2
  all_goals go_ret
  all_goals exact ⟨rfl, hd⟩
def oddV : List Value := oddI.map (fun n => .int .i64 n)
theorem intD_rng (x : Nat) : -1000000000000000 ≤ intD x ∧ intD x ≤ 1000000000000000 := by
  unfold intD
  split
  · have h : ∀ j, j < 8 → -1000000000000000 ≤ oddI.getD j 0 ∧ oddI.getD j 0 ≤ 1000000000000000 := by decide
    exact h _ (by omega)
  · omega
theorem odd_at : ∀ (j : Nat) (h : j < 8), (#[.int .i64 0, .int .i64 1, .int .i64 (-1), .int .i64 42, .int .i64 1000000000000000, .int .i64 (-1000000000000000), .int .i64 255, .int .i64 1000000] : Array Value)[j]'h = .int .i64 (oddI.getD j 0)
  | 0, _ => rfl
  | 1, _ => rfl
  | 2, _ => rfl
  | 3, _ => rfl
  | 4, _ => rfl
  | 5, _ => rfl
  | 6, _ => rfl
  | 7, _ => rfl
set_option maxRecDepth 100000 in
set_option maxHeartbeats 1000000 in
theorem l4int_any (R c i : Nat) (p : Option Addr) (xs : List Int) (w : World) (h : RdIn w R p c xs i) :
    Calls Tryz.prog 74 #[.pointer (some ⟨R, 0, none⟩)] w fun e w' => e = .returned (.int .i64 (intD (rdI xs i).toNat)) ∧ Keep R (R + 1) w w' ∧ RdIn w' R p c xs (rdN xs i) := by
  have HH : Hid (RdIn w R p c xs i) := h
  have hr := rdI_rng h.bytes i
  clear h
  go_enter Tryz.func74, Tryz.ntmps74
  go_wp2_with fail
  refine (next_any R c i p xs w HH.out).mono ?_
  rintro e w2 ⟨rfl, hk2, hs2, hR2⟩
  have HR2 : Hid (RdIn w2 R p c xs (rdN xs i)) := hR2
  obtain ⟨x, ex⟩ : ∃ x : Nat, rdI xs i = x := ⟨(rdI xs i).toNat, by omega⟩
  rw [ex] at hr ⊢
  obtain ⟨wA, eA⟩ : ∃ wA, wA = w2.alloc (.cells oddV.toArray 3) := ⟨_, rfl⟩
  have hBA : Below w2.heap.size w2 wA := by rw [eA]; exact (Below.refl _ _).alloc (Nat.le_refl _) _
  have FIN : Hid (Keep R (R + 1) w wA ∧ RdIn wA R p c xs (rdN xs i)) := ⟨hk2.trans (Keep.of_below hBA), hR2.grow hBA⟩
  have HX : Hid ((rdI xs i).toNat = x) := by show _ = _; rw [ex]; exact Int.toNat_natCast x
  have eA' : wA = w2.alloc (Obj.cells #[.int .i64 0, .int .i64 1, .int .i64 (-1), .int .i64 42, .int .i64 1000000000000000, .int .i64 (-1000000000000000), .int .i64 255, .int .i64 1000000] 3) := by rw [eA]; rfl
  by_cases hlt : x < 40
  · obtain ⟨j, ej⟩ : ∃ j, j = x % 8 := ⟨_, rfl⟩
    have hj : j < 8 := by omega
    have HV : Hid (intD x = oddI.getD j 0) := by show _ = _; rw [ej, intD, if_pos hlt]
    have hmod : (x : Int).tmod 8 = (j : Int) := by rw [ej, Int.tmod_eq_emod_of_nonneg (by omega)]; rfl
    clear ej hBA hk2 hR2 ex hs2
    go_wp2_with fail
    rw [← eA'] at *
    clear eA eA'
    go_wp2_with fail
    go_ret
    refine ⟨?_, FIN.out⟩
    rw [HX.out, HV.out]
    exact congrArg Ending.returned (odd_at j hj)
  · have hmod : (x : Int).tmod 12 = ((x % 12 : Nat) : Int) := by rw [Int.tmod_eq_emod_of_nonneg (by omega)]; rfl
    obtain ⟨j, ej⟩ : ∃ j, j = x % 12 := ⟨_, rfl⟩
    have hj : j < 12 := by omega
    have HV : Hid (intD x = (j : Int) - 2) := by show _ = _; rw [ej, intD, if_neg hlt]
    rw [← ej] at hmod
    clear ej hBA hk2 hR2 ex hs2
    go_wp2_with fail
    rw [← eA'] at *
    clear eA eA'
    go_wp2_with fail
    go_ret
    refine ⟨?_, FIN.out⟩
    rw [HX.out, HV.out]
    rfl
theorem own_leaf (w : World) (k n : Int) : OwnC (w.alloc (Obj.cells #[Value.int IntKind.i64 k, Value.int IntKind.i64 n, Value.slice none 0 0] 35)) w.heap.size (some ⟨w.heap.size, 0, none⟩) 1 1 [(k, n, [])] :=
  own_one (heap_alloc_new w _) (Nat.le_refl _) ⟨rfl, fun h => absurd h (by decide)⟩ (fun a h => by cases h)
theorem l2numO_any (n : Int) (w : World) : Calls Tryz.prog 73 #[.int .i64 n] w fun e w' => e = .returned (.slice (some ⟨w.heap.size, 0, none⟩) 1 1) ∧ OwnC w' w.heap.size (some ⟨w.heap.size, 0, none⟩) 1 1 [(1, n, [])] ∧ Below w.heap.size w w' := by
  have HX : Hid _ := own_leaf w 1 n
  go_enter Tryz.func73, Tryz.ntmps73
  go_wp2_with fail
  go_ret
  exact ⟨rfl, HX.out, (Below.refl _ _).alloc (Nat.le_refl _) _⟩
theorem l2varO_any (n : Int) (w : World) : Calls Tryz.prog 18 #[.int .i64 n] w fun e w' => e = .returned (.slice (some ⟨w.heap.size, 0, none⟩) 1 1) ∧ OwnC w' w.heap.size (some ⟨w.heap.size, 0, none⟩) 1 1 [(0, n, [])] ∧ Below w.heap.size w w' := by
  have HX : Hid _ := own_leaf w 0 n
  go_enter Tryz.func18, Tryz.ntmps18
  go_wp2_with fail
  go_ret
  exact ⟨rfl, HX.out, (Below.refl _ _).alloc (Nat.le_refl _) _⟩
end Go.Proofs.YtaakpdakeolgeaaGreat

namespace Go.Proofs.YtaakpdakeolgeaaGreat
open Go Go.RowKit
set_option linter.unusedVariables false
def TermOut (w : World) (R : Nat) (p : Option Addr) (c : Nat) (xs : List Int) (res : List Cel × Nat) (e : Ending) (w' : World) : Prop :=
  ∃ q n cap, e = .returned (.slice q n cap) ∧ OwnC w' w.heap.size q n cap res.1 ∧ Keep R (R + 1) w w' ∧ RdIn w' R p c xs res.2
theorem TermOut.of {w W W' : World} {R : Nat} {p : Option Addr} {c : Nat} {xs : List Int} {cs : List Cel} {i : Nat} {q : Option Addr} {n cap : Nat} (hk : Keep R (R + 1) w W) (hr : RdIn W R p c xs i) (ho : OwnC W' W.heap.size q n cap cs) (hb : Below W.heap.size W W') : TermOut w R p c xs (cs, i) (.returned (.slice q n cap)) W' :=
  ⟨q, n, cap, rfl, ho.mono hk.size, hk.trans (Keep.of_below hb), hr.grow hb⟩
theorem own_oneN {w : World} {B g tn tc : Nat} {k n : Int} {tp : Option Addr} {s : List Int} (hg : w.heap[g]? = some (.cells #[.int .i64 k, .int .i64 n, .slice tp tn tc] 35)) (hB : B ≤ g) (ht : OwnT w B tp tn tc s) (hne : 0 < tn → ∀ a, tp = some a → a.block ≠ g) : OwnC w B (some ⟨g, 0, none⟩) 1 1 [(k, n, s)] := by
  refine ⟨rfl, [(k, n, tp, tn, tc)], rfl, ⟨rfl, .inr ⟨g, 1, _, rfl, hB, hg, Nat.le_refl _, by decide, rfl, rfl⟩⟩, fun i hi => ?_, ?_⟩
  · obtain rfl : i = 0 := by simp at hi; omega
    exact ⟨rfl, rfl, ht⟩
  · refine ⟨fun i hi h => ?_, fun i j hi hj h => ?_⟩
    · obtain rfl : i = 0 := by simp at hi; omega
      exact fun e => hne h _ e rfl
    · simp at hi hj
      omega
set_option maxRecDepth 100000 in
set_option maxHeartbeats 2000000 in
theorem term_low (R c i : Nat) (p : Option Addr) (xs : List Int) (D : Int) (w : World) (h : RdIn w R p c xs i) (hD : -10 ≤ D ∧ D ≤ 10) (hc : D ≤ 0) :
    Calls Tryz.prog 46 #[.pointer (some ⟨R, 0, none⟩), .int .i64 D] w (TermOut w R p c xs (leafT xs (rdI xs i).toNat (rdN xs i))) := by
  have HH : Hid (RdIn w R p c xs i) := h
  have hr := rdI_rng h.bytes i
  have hle := rdN_le h.le
  have hsm := h.small
  have hr1 := rdI_rng h.bytes (rdN xs i)
  obtain ⟨n, en⟩ : ∃ n, n = xs.length := ⟨_, rfl⟩
  rw [← en] at hle hsm
  have HEN : Hid (n = xs.length) := en
  obtain ⟨i1, ei⟩ : ∃ i1, i1 = rdN xs i := ⟨_, rfl⟩
  rw [← ei] at hle hr1 ⊢
  have HEI : Hid (i1 = rdN xs i) := ei
  have hd : decide (D ≤ 0) = true := decide_eq_true hc
  clear h en ei
  go_enter Tryz.func46, Tryz.ntmps46
  go_wp2_with fail
  refine (next_any R c i p xs w HH.out).mono ?_
  rintro e w2 ⟨rfl, hk2, hs2, hR2⟩
  have HK2 : Hid (Keep R (R + 1) w w2) := hk2
  have HR2 : Hid (RdIn w2 R p c xs i1) := by rw [HEI.out]; exact hR2
  obtain ⟨x, ex⟩ : ∃ x : Nat, rdI xs i = x := ⟨(rdI xs i).toNat, by omega⟩
  rw [ex] at hr ⊢
  have HX : Hid ((rdI xs i).toNat = x) := by show _ = _; rw [ex]; exact Int.toNat_natCast x
  obtain ⟨j, ej⟩ : ∃ j, j = x % 5 := ⟨_, rfl⟩
  have hj : j < 5 := by omega
  have hm : (x : Int).tmod 5 = (j : Int) := by rw [ej, Int.tmod_eq_emod_of_nonneg (by omega)]; rfl
  have HJ : Hid (j = x % 5) := ej
  have hxt : ((x : Nat) : Int).toNat = x := Int.toNat_natCast x
  have HX2 : Hid ((rdI xs i).toNat = x) := HX.out
  clear hk2 hs2 hR2 ex ej
  rcases (by omega : j = 0 ∨ j = 1 ∨ j = 2 ∨ 3 ≤ j) with hj0 | hj0 | hj0 | hj0
  · have hb1 : ((j : Int) == 0) = true := by rw [hj0]; rfl
    have HF : Hid (leafT xs x i1 = ([(1, intD (rdI xs i1).toNat, [])], rdN xs i1)) := by show _ = _; rw [leafT, if_pos (by rw [← HJ.out]; exact hj0)]
    clear hj0
    go_wp2_with fail
    refine (l4int_any R c i1 p xs w2 HR2.out).mono ?_
    rintro e w3 ⟨rfl, hk3, hR3⟩
    have HK3 : Hid (Keep R (R + 1) w w3) := HK2.out.trans hk3
    have HR3 : Hid (RdIn w3 R p c xs (rdN xs i1)) := hR3
    clear hk3 hR3
    go_wp2_with fail
    refine (l2numO_any _ w3).mono ?_
    rintro e w4 ⟨rfl, ho4, hb4⟩
    have FIN : Hid _ := TermOut.of HK3.out HR3.out ho4 hb4
    clear ho4 hb4
    go_wp2_with fail
    go_ret
    rw [HX2.out, HF.out]
    exact FIN.out
  · have hb1 : ((j : Int) == 0) = false := by rw [hj0]; rfl
    have hb2 : decide ((j : Int) < 3) = true := by rw [hj0]; rfl
    have HF : Hid (leafT xs x i1 = ([(0, (((rdI xs i1).toNat % 5 : Nat) : Int), [])], rdN xs i1)) := by show _ = _; rw [leafT, if_neg (by rw [← HJ.out, hj0]; decide), if_pos (by rw [← HJ.out, hj0]; decide)]
    clear hj0
    go_wp2_with fail
    refine (next_any R c i1 p xs w2 HR2.out).mono ?_
    rintro e w3 ⟨rfl, hk3, hs3, hR3⟩
    have HK3 : Hid (Keep R (R + 1) w w3) := HK2.out.trans hk3
    have HR3 : Hid (RdIn w3 R p c xs (rdN xs i1)) := hR3
    obtain ⟨y, ey⟩ : ∃ y : Nat, rdI xs i1 = y := ⟨(rdI xs i1).toNat, by omega⟩
    rw [ey] at hr1 ⊢
    obtain ⟨z, ez⟩ : ∃ z, z = y % 5 := ⟨_, rfl⟩
    have hz : z < 5 := by omega
    have hmz : (y : Int).tmod 5 = (z : Int) := by rw [ez, Int.tmod_eq_emod_of_nonneg (by omega)]; rfl
    have HZ : Hid (([(0, (((rdI xs i1).toNat % 5 : Nat) : Int), [])] : List Cel) = [(0, (z : Int), [])]) := by show _ = _; rw [ey, Int.toNat_natCast, ez]
    clear hk3 hs3 hR3 ey ez
    go_wp2_with fail
    refine (l2varO_any _ w3).mono ?_
    rintro e w4 ⟨rfl, ho4, hb4⟩
    have FIN : Hid _ := TermOut.of HK3.out HR3.out ho4 hb4
    clear ho4 hb4
    go_wp2_with fail
    go_ret
    rw [HX2.out, HF.out, HZ.out]
    exact FIN.out
  · have hb1 : ((j : Int) == 0) = false := by rw [hj0]; rfl
    have hb2 : decide ((j : Int) < 3) = true := by rw [hj0]; rfl
    have HF : Hid (leafT xs x i1 = ([(0, (((rdI xs i1).toNat % 5 : Nat) : Int), [])], rdN xs i1)) := by show _ = _; rw [leafT, if_neg (by rw [← HJ.out, hj0]; decide), if_pos (by rw [← HJ.out, hj0]; decide)]
    clear hj0
    go_wp2_with fail
    refine (next_any R c i1 p xs w2 HR2.out).mono ?_
    rintro e w3 ⟨rfl, hk3, hs3, hR3⟩
    have HK3 : Hid (Keep R (R + 1) w w3) := HK2.out.trans hk3
    have HR3 : Hid (RdIn w3 R p c xs (rdN xs i1)) := hR3
    obtain ⟨y, ey⟩ : ∃ y : Nat, rdI xs i1 = y := ⟨(rdI xs i1).toNat, by omega⟩
    rw [ey] at hr1 ⊢
    obtain ⟨z, ez⟩ : ∃ z, z = y % 5 := ⟨_, rfl⟩
    have hz : z < 5 := by omega
    have hmz : (y : Int).tmod 5 = (z : Int) := by rw [ez, Int.tmod_eq_emod_of_nonneg (by omega)]; rfl
    have HZ : Hid (([(0, (((rdI xs i1).toNat % 5 : Nat) : Int), [])] : List Cel) = [(0, (z : Int), [])]) := by show _ = _; rw [ey, Int.toNat_natCast, ez]
    clear hk3 hs3 hR3 ey ez
    go_wp2_with fail
    refine (l2varO_any _ w3).mono ?_
    rintro e w4 ⟨rfl, ho4, hb4⟩
    have FIN : Hid _ := TermOut.of HK3.out HR3.out ho4 hb4
    clear ho4 hb4
    go_wp2_with fail
    go_ret
    rw [HX2.out, HF.out, HZ.out]
    exact FIN.out
  · have hb1 : ((j : Int) == 0) = false := by simp; omega
    have hb2 : decide ((j : Int) < 3) = false := by simp; omega
    have HF : Hid (leafT xs x i1 = ([(2, 0, numsU (nameAt (rdI xs i1).toNat))], rdN xs i1)) := by show _ = _; rw [leafT, if_neg (by rw [← HJ.out]; omega), if_neg (by rw [← HJ.out]; omega)]
    clear hj0
    go_wp2_with fail
    refine (l4name_any R c i1 p xs w2 HR2.out).mono ?_
    rintro e w3 ⟨g, n3, cap, rfl, hn3, hk3, hR3, hg, ht⟩
    have HK3 : Hid (Keep R (R + 1) w w3) := HK2.out.trans hk3
    have HR3 : Hid (RdIn w3 R p c xs (rdN xs i1)) := hR3
    have HT3 : Hid (OwnT w3 w2.heap.size (some ⟨g, 0, none⟩) n3 cap (numsU (nameAt (rdI xs i1).toNat))) := ht
    have HBW : Hid (w.heap.size ≤ w2.heap.size) := HK2.out.size
    have hbA : Below w3.heap.size w3 (w3.alloc (Obj.cells #[Value.int IntKind.i64 2, Value.int IntKind.i64 0, Value.slice (some ⟨g, 0, none⟩) n3 cap] 35)) := (Below.refl _ _).alloc (Nat.le_refl _) _
    have HO3 : Hid (OwnC (w3.alloc (Obj.cells #[Value.int IntKind.i64 2, Value.int IntKind.i64 0, Value.slice (some ⟨g, 0, none⟩) n3 cap] 35)) w.heap.size (some ⟨w3.heap.size, 0, none⟩) 1 1 [(2, 0, numsU (nameAt (rdI xs i1).toNat))]) := by
      refine own_oneN (heap_alloc_new w3 _) (Nat.le_trans HBW.out hk3.size) ((ht.mono HBW.out).below hbA) (fun h0 a ea => ?_)
      obtain ⟨g', eg, hB', hl', hc'⟩ := ht.2 h0
      cases eg
      cases ea
      exact Nat.ne_of_lt hl'
    have HBA : Hid _ := hbA
    clear hk3 hR3 ht hbA hg hn3
    go_wp2_with fail
    go_ret
    rw [HX2.out, HF.out]
    exact ⟨_, _, _, rfl, HO3.out, HK3.out.trans (Keep.of_below HBA.out), HR3.out.grow HBA.out⟩
set_option maxRecDepth 100000 in
set_option maxHeartbeats 2000000 in
theorem term_end (R c i : Nat) (p : Option Addr) (xs : List Int) (D : Int) (w : World) (h : RdIn w R p c xs i) (hD : -10 ≤ D ∧ D ≤ 10) (hc : 0 < D) (h0 : rdN xs i = xs.length) :
    Calls Tryz.prog 46 #[.pointer (some ⟨R, 0, none⟩), .int .i64 D] w (TermOut w R p c xs (leafT xs (rdI xs i).toNat (rdN xs i))) := by
  have HH : Hid (RdIn w R p c xs i) := h
  have hr := rdI_rng h.bytes i
  have hle := rdN_le h.le
  have hsm := h.small
  have hr1 := rdI_rng h.bytes (rdN xs i)
  obtain ⟨n, en⟩ : ∃ n, n = xs.length := ⟨_, rfl⟩
  rw [← en] at hle hsm
  have HEN : Hid (n = xs.length) := en
  obtain ⟨i1, ei⟩ : ∃ i1, i1 = rdN xs i := ⟨_, rfl⟩
  rw [← ei] at hle hr1 ⊢
  have HEI : Hid (i1 = rdN xs i) := ei
  have hd : decide (D ≤ 0) = false := decide_eq_false (by omega)
  rw [← ei, ← en] at h0
  have H0 : Hid (i1 = n) := h0
  clear h0
  clear h en ei
  go_enter Tryz.func46, Tryz.ntmps46
  go_wp2_with fail
  refine (next_any R c i p xs w HH.out).mono ?_
  rintro e w2 ⟨rfl, hk2, hs2, hR2⟩
  have HK2 : Hid (Keep R (R + 1) w w2) := hk2
  have HR2 : Hid (RdIn w2 R p c xs i1) := by rw [HEI.out]; exact hR2
  obtain ⟨x, ex⟩ : ∃ x : Nat, rdI xs i = x := ⟨(rdI xs i).toNat, by omega⟩
  rw [ex] at hr ⊢
  have HX : Hid ((rdI xs i).toNat = x) := by show _ = _; rw [ex]; exact Int.toNat_natCast x
  obtain ⟨j, ej⟩ : ∃ j, j = x % 5 := ⟨_, rfl⟩
  have hj : j < 5 := by omega
  have hm : (x : Int).tmod 5 = (j : Int) := by rw [ej, Int.tmod_eq_emod_of_nonneg (by omega)]; rfl
  have HJ : Hid (j = x % 5) := ej
  have hxt : ((x : Nat) : Int).toNat = x := Int.toNat_natCast x
  have HX2 : Hid ((rdI xs i).toNat = x) := HX.out
  clear hk2 hs2 hR2 ex ej
  go_wp2_with fail
  refine (left_any R c i1 p xs w2 HR2.out).mono ?_
  rintro e wL ⟨rfl, hbL⟩
  have HRL : Hid (RdIn wL R p c xs i1) := HR2.out.grow hbL
  have HKL : Hid (Keep R (R + 1) w wL) := HK2.out.trans (Keep.of_below hbL)
  rw [← HEN.out]
  obtain ⟨lf, el⟩ : ∃ lf, lf = n - i1 := ⟨_, rfl⟩
  rw [← el]
  have hlf : lf ≤ 500 := by omega
  clear hbL
  have hz0 : ((lf : Int) == 0) = true := by rw [el, H0.out, Nat.sub_self]; rfl
  clear el
  rcases (by omega : j = 0 ∨ j = 1 ∨ j = 2 ∨ 3 ≤ j) with hj0 | hj0 | hj0 | hj0
  · have hb1 : ((j : Int) == 0) = true := by rw [hj0]; rfl
    have HF : Hid (leafT xs x i1 = ([(1, intD (rdI xs i1).toNat, [])], rdN xs i1)) := by show _ = _; rw [leafT, if_pos (by rw [← HJ.out]; exact hj0)]
    clear hj0
    go_wp2_with fail
    refine (l4int_any R c i1 p xs wL HRL.out).mono ?_
    rintro e w3 ⟨rfl, hk3, hR3⟩
    have HK3 : Hid (Keep R (R + 1) w w3) := HKL.out.trans hk3
    have HR3 : Hid (RdIn w3 R p c xs (rdN xs i1)) := hR3
    clear hk3 hR3
    go_wp2_with fail
    refine (l2numO_any _ w3).mono ?_
    rintro e w4 ⟨rfl, ho4, hb4⟩
    have FIN : Hid _ := TermOut.of HK3.out HR3.out ho4 hb4
    clear ho4 hb4
    go_wp2_with fail
    go_ret
    rw [HX2.out, HF.out]
    exact FIN.out
  · have hb1 : ((j : Int) == 0) = false := by rw [hj0]; rfl
    have hb2 : decide ((j : Int) < 3) = true := by rw [hj0]; rfl
    have HF : Hid (leafT xs x i1 = ([(0, (((rdI xs i1).toNat % 5 : Nat) : Int), [])], rdN xs i1)) := by show _ = _; rw [leafT, if_neg (by rw [← HJ.out, hj0]; decide), if_pos (by rw [← HJ.out, hj0]; decide)]
    clear hj0
    go_wp2_with fail
    refine (next_any R c i1 p xs wL HRL.out).mono ?_
    rintro e w3 ⟨rfl, hk3, hs3, hR3⟩
    have HK3 : Hid (Keep R (R + 1) w w3) := HKL.out.trans hk3
    have HR3 : Hid (RdIn w3 R p c xs (rdN xs i1)) := hR3
    obtain ⟨y, ey⟩ : ∃ y : Nat, rdI xs i1 = y := ⟨(rdI xs i1).toNat, by omega⟩
    rw [ey] at hr1 ⊢
    obtain ⟨z, ez⟩ : ∃ z, z = y % 5 := ⟨_, rfl⟩
    have hz : z < 5 := by omega
    have hmz : (y : Int).tmod 5 = (z : Int) := by rw [ez, Int.tmod_eq_emod_of_nonneg (by omega)]; rfl
    have HZ : Hid (([(0, (((rdI xs i1).toNat % 5 : Nat) : Int), [])] : List Cel) = [(0, (z : Int), [])]) := by show _ = _; rw [ey, Int.toNat_natCast, ez]
    clear hk3 hs3 hR3 ey ez
    go_wp2_with fail
    refine (l2varO_any _ w3).mono ?_
    rintro e w4 ⟨rfl, ho4, hb4⟩
    have FIN : Hid _ := TermOut.of HK3.out HR3.out ho4 hb4
    clear ho4 hb4
    go_wp2_with fail
    go_ret
    rw [HX2.out, HF.out, HZ.out]
    exact FIN.out
  · have hb1 : ((j : Int) == 0) = false := by rw [hj0]; rfl
    have hb2 : decide ((j : Int) < 3) = true := by rw [hj0]; rfl
    have HF : Hid (leafT xs x i1 = ([(0, (((rdI xs i1).toNat % 5 : Nat) : Int), [])], rdN xs i1)) := by show _ = _; rw [leafT, if_neg (by rw [← HJ.out, hj0]; decide), if_pos (by rw [← HJ.out, hj0]; decide)]
    clear hj0
    go_wp2_with fail
    refine (next_any R c i1 p xs wL HRL.out).mono ?_
    rintro e w3 ⟨rfl, hk3, hs3, hR3⟩
    have HK3 : Hid (Keep R (R + 1) w w3) := HKL.out.trans hk3
    have HR3 : Hid (RdIn w3 R p c xs (rdN xs i1)) := hR3
    obtain ⟨y, ey⟩ : ∃ y : Nat, rdI xs i1 = y := ⟨(rdI xs i1).toNat, by omega⟩
    rw [ey] at hr1 ⊢
    obtain ⟨z, ez⟩ : ∃ z, z = y % 5 := ⟨_, rfl⟩
    have hz : z < 5 := by omega
    have hmz : (y : Int).tmod 5 = (z : Int) := by rw [ez, Int.tmod_eq_emod_of_nonneg (by omega)]; rfl
    have HZ : Hid (([(0, (((rdI xs i1).toNat % 5 : Nat) : Int), [])] : List Cel) = [(0, (z : Int), [])]) := by show _ = _; rw [ey, Int.toNat_natCast, ez]
    clear hk3 hs3 hR3 ey ez
    go_wp2_with fail
    refine (l2varO_any _ w3).mono ?_
    rintro e w4 ⟨rfl, ho4, hb4⟩
    have FIN : Hid _ := TermOut.of HK3.out HR3.out ho4 hb4
    clear ho4 hb4
    go_wp2_with fail
    go_ret
    rw [HX2.out, HF.out, HZ.out]
    exact FIN.out
  · have hb1 : ((j : Int) == 0) = false := by simp; omega
    have hb2 : decide ((j : Int) < 3) = false := by simp; omega
    have HF : Hid (leafT xs x i1 = ([(2, 0, numsU (nameAt (rdI xs i1).toNat))], rdN xs i1)) := by show _ = _; rw [leafT, if_neg (by rw [← HJ.out]; omega), if_neg (by rw [← HJ.out]; omega)]
    clear hj0
    go_wp2_with fail
    refine (l4name_any R c i1 p xs wL HRL.out).mono ?_
    rintro e w3 ⟨g, n3, cap, rfl, hn3, hk3, hR3, hg, ht⟩
    have HK3 : Hid (Keep R (R + 1) w w3) := HKL.out.trans hk3
    have HR3 : Hid (RdIn w3 R p c xs (rdN xs i1)) := hR3
    have HT3 : Hid (OwnT w3 wL.heap.size (some ⟨g, 0, none⟩) n3 cap (numsU (nameAt (rdI xs i1).toNat))) := ht
    have HBW : Hid (w.heap.size ≤ wL.heap.size) := HKL.out.size
    have hbA : Below w3.heap.size w3 (w3.alloc (Obj.cells #[Value.int IntKind.i64 2, Value.int IntKind.i64 0, Value.slice (some ⟨g, 0, none⟩) n3 cap] 35)) := (Below.refl _ _).alloc (Nat.le_refl _) _
    have HO3 : Hid (OwnC (w3.alloc (Obj.cells #[Value.int IntKind.i64 2, Value.int IntKind.i64 0, Value.slice (some ⟨g, 0, none⟩) n3 cap] 35)) w.heap.size (some ⟨w3.heap.size, 0, none⟩) 1 1 [(2, 0, numsU (nameAt (rdI xs i1).toNat))]) := by
      refine own_oneN (heap_alloc_new w3 _) (Nat.le_trans HBW.out hk3.size) ((ht.mono HBW.out).below hbA) (fun h0 a ea => ?_)
      obtain ⟨g', eg, hB', hl', hc'⟩ := ht.2 h0
      cases eg
      cases ea
      exact Nat.ne_of_lt hl'
    have HBA : Hid _ := hbA
    clear hk3 hR3 ht hbA hg hn3
    go_wp2_with fail
    go_ret
    rw [HX2.out, HF.out]
    exact ⟨_, _, _, rfl, HO3.out, HK3.out.trans (Keep.of_below HBA.out), HR3.out.grow HBA.out⟩
set_option maxRecDepth 100000 in
set_option maxHeartbeats 2000000 in
theorem term_few (R c i : Nat) (p : Option Addr) (xs : List Int) (D : Int) (w : World) (h : RdIn w R p c xs i) (hD : -10 ≤ D ∧ D ≤ 10) (hc : 0 < D) (h0 : ¬ rdN xs i = xs.length) (h50 : (rdI xs i).toNat < 50) :
    Calls Tryz.prog 46 #[.pointer (some ⟨R, 0, none⟩), .int .i64 D] w (TermOut w R p c xs (leafT xs (rdI xs i).toNat (rdN xs i))) := by
  have HH : Hid (RdIn w R p c xs i) := h
  have hr := rdI_rng h.bytes i
  have hle := rdN_le h.le
  have hsm := h.small
  have hr1 := rdI_rng h.bytes (rdN xs i)
  obtain ⟨n, en⟩ : ∃ n, n = xs.length := ⟨_, rfl⟩
  rw [← en] at hle hsm
  have HEN : Hid (n = xs.length) := en
  obtain ⟨i1, ei⟩ : ∃ i1, i1 = rdN xs i := ⟨_, rfl⟩
  rw [← ei] at hle hr1 ⊢
  have HEI : Hid (i1 = rdN xs i) := ei
  have hd : decide (D ≤ 0) = false := decide_eq_false (by omega)
  rw [← ei, ← en] at h0
  clear h en ei
  go_enter Tryz.func46, Tryz.ntmps46
  go_wp2_with fail
  refine (next_any R c i p xs w HH.out).mono ?_
  rintro e w2 ⟨rfl, hk2, hs2, hR2⟩
  have HK2 : Hid (Keep R (R + 1) w w2) := hk2
  have HR2 : Hid (RdIn w2 R p c xs i1) := by rw [HEI.out]; exact hR2
  obtain ⟨x, ex⟩ : ∃ x : Nat, rdI xs i = x := ⟨(rdI xs i).toNat, by omega⟩
  rw [ex] at hr ⊢
  have HX : Hid ((rdI xs i).toNat = x) := by show _ = _; rw [ex]; exact Int.toNat_natCast x
  obtain ⟨j, ej⟩ : ∃ j, j = x % 5 := ⟨_, rfl⟩
  have hj : j < 5 := by omega
  have hm : (x : Int).tmod 5 = (j : Int) := by rw [ej, Int.tmod_eq_emod_of_nonneg (by omega)]; rfl
  have HJ : Hid (j = x % 5) := ej
  have hxt : ((x : Nat) : Int).toNat = x := Int.toNat_natCast x
  have HX2 : Hid ((rdI xs i).toNat = x) := HX.out
  have hx50 : decide ((x : Int) < 50) = true := by rw [HX.out] at h50; exact decide_eq_true (by omega)
  clear hk2 hs2 hR2 ex ej
  go_wp2_with fail
  refine (left_any R c i1 p xs w2 HR2.out).mono ?_
  rintro e wL ⟨rfl, hbL⟩
  have HRL : Hid (RdIn wL R p c xs i1) := HR2.out.grow hbL
  have HKL : Hid (Keep R (R + 1) w wL) := HK2.out.trans (Keep.of_below hbL)
  rw [← HEN.out]
  obtain ⟨lf, el⟩ : ∃ lf, lf = n - i1 := ⟨_, rfl⟩
  rw [← el]
  have hlf : lf ≤ 500 := by omega
  clear hbL
  have hz0 : ((lf : Int) == 0) = false := by simp; omega
  clear el
  rcases (by omega : j = 0 ∨ j = 1 ∨ j = 2 ∨ 3 ≤ j) with hj0 | hj0 | hj0 | hj0
  · have hb1 : ((j : Int) == 0) = true := by rw [hj0]; rfl
    have HF : Hid (leafT xs x i1 = ([(1, intD (rdI xs i1).toNat, [])], rdN xs i1)) := by show _ = _; rw [leafT, if_pos (by rw [← HJ.out]; exact hj0)]
    clear hj0
    go_wp2_with fail
    refine (l4int_any R c i1 p xs wL HRL.out).mono ?_
    rintro e w3 ⟨rfl, hk3, hR3⟩
    have HK3 : Hid (Keep R (R + 1) w w3) := HKL.out.trans hk3
    have HR3 : Hid (RdIn w3 R p c xs (rdN xs i1)) := hR3
    clear hk3 hR3
    go_wp2_with fail
    refine (l2numO_any _ w3).mono ?_
    rintro e w4 ⟨rfl, ho4, hb4⟩
    have FIN : Hid _ := TermOut.of HK3.out HR3.out ho4 hb4
    clear ho4 hb4
    go_wp2_with fail
    go_ret
    rw [HX2.out, HF.out]
    exact FIN.out
  · have hb1 : ((j : Int) == 0) = false := by rw [hj0]; rfl
    have hb2 : decide ((j : Int) < 3) = true := by rw [hj0]; rfl
    have HF : Hid (leafT xs x i1 = ([(0, (((rdI xs i1).toNat % 5 : Nat) : Int), [])], rdN xs i1)) := by show _ = _; rw [leafT, if_neg (by rw [← HJ.out, hj0]; decide), if_pos (by rw [← HJ.out, hj0]; decide)]
    clear hj0
    go_wp2_with fail
    refine (next_any R c i1 p xs wL HRL.out).mono ?_
    rintro e w3 ⟨rfl, hk3, hs3, hR3⟩
    have HK3 : Hid (Keep R (R + 1) w w3) := HKL.out.trans hk3
    have HR3 : Hid (RdIn w3 R p c xs (rdN xs i1)) := hR3
    obtain ⟨y, ey⟩ : ∃ y : Nat, rdI xs i1 = y := ⟨(rdI xs i1).toNat, by omega⟩
    rw [ey] at hr1 ⊢
    obtain ⟨z, ez⟩ : ∃ z, z = y % 5 := ⟨_, rfl⟩
    have hz : z < 5 := by omega
    have hmz : (y : Int).tmod 5 = (z : Int) := by rw [ez, Int.tmod_eq_emod_of_nonneg (by omega)]; rfl
    have HZ : Hid (([(0, (((rdI xs i1).toNat % 5 : Nat) : Int), [])] : List Cel) = [(0, (z : Int), [])]) := by show _ = _; rw [ey, Int.toNat_natCast, ez]
    clear hk3 hs3 hR3 ey ez
    go_wp2_with fail
    refine (l2varO_any _ w3).mono ?_
    rintro e w4 ⟨rfl, ho4, hb4⟩
    have FIN : Hid _ := TermOut.of HK3.out HR3.out ho4 hb4
    clear ho4 hb4
    go_wp2_with fail
    go_ret
    rw [HX2.out, HF.out, HZ.out]
    exact FIN.out
  · have hb1 : ((j : Int) == 0) = false := by rw [hj0]; rfl
    have hb2 : decide ((j : Int) < 3) = true := by rw [hj0]; rfl
    have HF : Hid (leafT xs x i1 = ([(0, (((rdI xs i1).toNat % 5 : Nat) : Int), [])], rdN xs i1)) := by show _ = _; rw [leafT, if_neg (by rw [← HJ.out, hj0]; decide), if_pos (by rw [← HJ.out, hj0]; decide)]
    clear hj0
    go_wp2_with fail
    refine (next_any R c i1 p xs wL HRL.out).mono ?_
    rintro e w3 ⟨rfl, hk3, hs3, hR3⟩
    have HK3 : Hid (Keep R (R + 1) w w3) := HKL.out.trans hk3
    have HR3 : Hid (RdIn w3 R p c xs (rdN xs i1)) := hR3
    obtain ⟨y, ey⟩ : ∃ y : Nat, rdI xs i1 = y := ⟨(rdI xs i1).toNat, by omega⟩
    rw [ey] at hr1 ⊢
    obtain ⟨z, ez⟩ : ∃ z, z = y % 5 := ⟨_, rfl⟩
    have hz : z < 5 := by omega
    have hmz : (y : Int).tmod 5 = (z : Int) := by rw [ez, Int.tmod_eq_emod_of_nonneg (by omega)]; rfl
    have HZ : Hid (([(0, (((rdI xs i1).toNat % 5 : Nat) : Int), [])] : List Cel) = [(0, (z : Int), [])]) := by show _ = _; rw [ey, Int.toNat_natCast, ez]
    clear hk3 hs3 hR3 ey ez
    go_wp2_with fail
    refine (l2varO_any _ w3).mono ?_
    rintro e w4 ⟨rfl, ho4, hb4⟩
    have FIN : Hid _ := TermOut.of HK3.out HR3.out ho4 hb4
    clear ho4 hb4
    go_wp2_with fail
    go_ret
    rw [HX2.out, HF.out, HZ.out]
    exact FIN.out
  · have hb1 : ((j : Int) == 0) = false := by simp; omega
    have hb2 : decide ((j : Int) < 3) = false := by simp; omega
    have HF : Hid (leafT xs x i1 = ([(2, 0, numsU (nameAt (rdI xs i1).toNat))], rdN xs i1)) := by show _ = _; rw [leafT, if_neg (by rw [← HJ.out]; omega), if_neg (by rw [← HJ.out]; omega)]
    clear hj0
    go_wp2_with fail
    refine (l4name_any R c i1 p xs wL HRL.out).mono ?_
    rintro e w3 ⟨g, n3, cap, rfl, hn3, hk3, hR3, hg, ht⟩
    have HK3 : Hid (Keep R (R + 1) w w3) := HKL.out.trans hk3
    have HR3 : Hid (RdIn w3 R p c xs (rdN xs i1)) := hR3
    have HT3 : Hid (OwnT w3 wL.heap.size (some ⟨g, 0, none⟩) n3 cap (numsU (nameAt (rdI xs i1).toNat))) := ht
    have HBW : Hid (w.heap.size ≤ wL.heap.size) := HKL.out.size
    have hbA : Below w3.heap.size w3 (w3.alloc (Obj.cells #[Value.int IntKind.i64 2, Value.int IntKind.i64 0, Value.slice (some ⟨g, 0, none⟩) n3 cap] 35)) := (Below.refl _ _).alloc (Nat.le_refl _) _
    have HO3 : Hid (OwnC (w3.alloc (Obj.cells #[Value.int IntKind.i64 2, Value.int IntKind.i64 0, Value.slice (some ⟨g, 0, none⟩) n3 cap] 35)) w.heap.size (some ⟨w3.heap.size, 0, none⟩) 1 1 [(2, 0, numsU (nameAt (rdI xs i1).toNat))]) := by
      refine own_oneN (heap_alloc_new w3 _) (Nat.le_trans HBW.out hk3.size) ((ht.mono HBW.out).below hbA) (fun h0 a ea => ?_)
      obtain ⟨g', eg, hB', hl', hc'⟩ := ht.2 h0
      cases eg
      cases ea
      exact Nat.ne_of_lt hl'
    have HBA : Hid _ := hbA
    clear hk3 hR3 ht hbA hg hn3
    go_wp2_with fail
    go_ret
    rw [HX2.out, HF.out]
    exact ⟨_, _, _, rfl, HO3.out, HK3.out.trans (Keep.of_below HBA.out), HR3.out.grow HBA.out⟩
end Go.Proofs.YtaakpdakeolgeaaGreat

namespace Go.Proofs.YtaakpdakeolgeaaGreat
open Go Go.RowKit
set_option linter.unusedVariables false
def CCIn (w : World) (p : Option Addr) (css : List (List Cel)) : Prop :=
  0 < css.length → ∃ b o, p = some ⟨b, o, none⟩ ∧ ∀ i, i < css.length → ∃ q c, w.cell? ⟨b, o + i, none⟩ = some (.slice q (css.getD i []).length c) ∧ CIn w q (css.getD i [])
theorem CCIn.below {W W' : World} {p : Option Addr} {css : List (List Cel)} (h : CCIn W p css) (hb : Below W.heap.size W W') : CCIn W' p css := fun hn => by
  obtain ⟨b, o, rfl, hc⟩ := h hn
  refine ⟨b, o, rfl, fun i hi => ?_⟩
  obtain ⟨q, c, h1, h2⟩ := hc i hi
  exact ⟨q, c, (hb.cell (World.block_lt_of_cell? _ _ h1)).trans h1, h2.below hb⟩
def vals (ds : List It) (css : List (List Cel)) : List Value := (List.range css.length).map fun i => .slice (ds.getD i It.zero).1 (css.getD i []).length (ds.getD i It.zero).2.1
theorem vals_at (ds : List It) (css : List (List Cel)) (i : Nat) (h : i < css.length) : (vals ds css)[i]? = some (.slice (ds.getD i It.zero).1 (css.getD i []).length (ds.getD i It.zero).2.1) := by simp [vals, h]
structure OwnSS (w : World) (B U : Nat) (p : Option Addr) (n c : Nat) (css : List (List Cel)) (ds : List It) : Prop where
  len : n = css.length
  dlen : ds.length = css.length
  row : w.ownsRow B 23 1 (.slice p n c) n (vals ds css)
  item : ∀ i, i < css.length → OwnCU w (ds.getD i It.zero).2.2.1 (ds.getD i It.zero).2.2.2 (ds.getD i It.zero).1 (css.getD i []).length (ds.getD i It.zero).2.1 (css.getD i [])
  low : ∀ i, i < css.length → B ≤ (ds.getD i It.zero).2.2.1 ∧ (ds.getD i It.zero).2.2.2 ≤ U
  away : ∀ i, i < css.length → ∀ g, Value.ownBlock (.slice p n c) = some g → g < (ds.getD i It.zero).2.2.1 ∨ (ds.getD i It.zero).2.2.2 ≤ g
  apart : ∀ i j, i < j → j < css.length → (ds.getD i It.zero).2.2.2 ≤ (ds.getD j It.zero).2.2.1
  top : ∀ g, Value.ownBlock (.slice p n c) = some g → g < U
def OwnCC (w : World) (B U : Nat) (p : Option Addr) (n c : Nat) (css : List (List Cel)) : Prop := ∃ ds, OwnSS w B U p n c css ds
theorem OwnCC.nil (w : World) (B U : Nat) : OwnCC w B U none 0 0 [] := ⟨[], rfl, rfl, World.ownsRow_nil _ _ _ _, fun i h => by simp at h, fun i h => by simp at h, fun i h => by simp at h, fun i j _ h => by simp at h, fun g h => by cases h⟩
theorem OwnCC.ccin {w : World} {B U : Nat} {p : Option Addr} {n c : Nat} {css : List (List Cel)} (h : OwnCC w B U p n c css) : CCIn w p css := fun hn => by
  obtain ⟨ds, h⟩ := h
  have hl := h.len
  obtain ⟨g, cap, hv, hb, hg⟩ := h.row.form (by omega)
  simp only [Value.slice.injEq, true_and] at hv
  obtain ⟨rfl, rfl⟩ := hv
  refine ⟨g, 0, rfl, fun i hi => ⟨(ds.getD i It.zero).1, (ds.getD i It.zero).2.1, ?_, (h.item i hi).toC.cin⟩⟩
  rw [Nat.zero_add, h.row.cellAt i (by omega)]
  exact vals_at ds css i hi
theorem OwnSS.other {w w' : World} {B U : Nat} {p : Option Addr} {n c : Nat} {css : List (List Cel)} {ds : List It} (h : OwnSS w B U p n c css ds) (hs : w.heap.size ≤ w'.heap.size) (hb : ∀ k, k < w.heap.size → B ≤ k → k < U → w'.heap[k]? = w.heap[k]?) : OwnSS w' B U p n c css ds := by
  refine ⟨h.len, h.dlen, ⟨h.row.1, ?_⟩, fun i hi => (h.item i hi).other hs (fun k h1 h2 h3 => hb k h1 (by have := h.low i hi; omega) (by have := h.low i hi; omega)), h.low, h.away, h.apart, h.top⟩
  rcases h.row.2 with h' | ⟨g, cap, cur, hv, hB, hg, r⟩
  · exact .inl h'
  · refine .inr ⟨g, cap, cur, hv, hB, (hb g (Array.getElem?_eq_some_iff.1 hg).1 hB (h.top g ?_)).trans hg, r⟩
    simp only [Value.slice.injEq] at hv
    rw [hv.1]; rfl
theorem OwnCC.below {w w' : World} {B U : Nat} {p : Option Addr} {n c : Nat} {css : List (List Cel)} (h : OwnCC w B U p n c css) (hb : Below w.heap.size w w') : OwnCC w' B U p n c css := by
  obtain ⟨ds, h⟩ := h
  exact ⟨ds, h.other hb.size (fun k hk _ _ => hb.block k hk)⟩
theorem OwnCC.keep {w w' : World} {B U B' U' : Nat} {p : Option Addr} {n c : Nat} {css : List (List Cel)} (h : OwnCC w B U p n c css) (hk : Keep B' U' w w') (ho : U ≤ B' ∨ U' ≤ B) : OwnCC w' B U p n c css := by
  obtain ⟨ds, h⟩ := h
  exact ⟨ds, h.other hk.size (fun k h1 h2 h3 => hk.block k h1 (by omega))⟩
theorem OwnCC.up {w : World} {B U U' : Nat} {p : Option Addr} {n c : Nat} {css : List (List Cel)} (h : OwnCC w B U p n c css) (hU : U ≤ U') : OwnCC w B U' p n c css := by
  obtain ⟨ds, h⟩ := h
  exact ⟨ds, h.len, h.dlen, h.row, h.item, fun i hi => ⟨(h.low i hi).1, Nat.le_trans (h.low i hi).2 hU⟩, h.away, h.apart, fun g hg => Nat.lt_of_lt_of_le (h.top g hg) hU⟩
theorem css_append_at (cs : List (List Cel)) (c : List Cel) (i : Nat) (h : i ≤ cs.length) : (cs ++ [c]).getD i [] = if i = cs.length then c else cs.getD i [] := by
  by_cases e : i = cs.length
  · subst e; simp [List.getD]
  · rw [if_neg e, List.getD, List.getD, List.getElem?_append_left (by omega)]
theorem vals_append (ds : List It) (css : List (List Cel)) (d : It) (c : List Cel) (h : ds.length = css.length) : vals (ds ++ [d]) (css ++ [c]) = vals ds css ++ [.slice d.1 c.length d.2.1] := by
  apply List.ext_getElem?
  intro i
  rcases Nat.lt_trichotomy i css.length with hi | hi | hi
  · rw [vals_at _ _ _ (by simp; omega), List.getElem?_append_left (by simpa [vals] using hi), vals_at _ _ _ hi, ds_append_at _ _ _ (by omega), css_append_at _ _ _ (by omega), if_neg (by omega), if_neg (by omega)]
  · subst hi
    rw [vals_at _ _ _ (by simp), List.getElem?_append_right (by simp [vals]), ds_append_at _ _ _ (by omega), css_append_at _ _ _ (by omega), if_pos h.symm, if_pos rfl]
    simp [vals]
  · rw [List.getElem?_eq_none (by simp [vals]; omega), List.getElem?_eq_none (by simp [vals]; omega)]
theorem app_item (W0 w : World) {ops : Array Oper} {rest : List Oper} {o : Oper} {a : Act} {Q : Exit → Act → World → Prop} (hgd : o.guard = none) (s x : Operand)
    (ho : o.op = .call { callee := .builtin .append, args := #[s, x], argTypes := #[42, 42] }) (B : Nat) (p : Option Addr) (n c : Nat) (css : List (List Cel))
    (hs : a.eval s = .slice p n c) (hown : OwnCC W0 B W0.heap.size p n c css) (hb0 : Below W0.heap.size W0 w) (hB : B ≤ W0.heap.size) (q : Option Addr) (m cq : Nat) (cs : List Cel) (hit : OwnC w W0.heap.size q m cq cs)
    (hx : a.eval x = .slice (some ⟨w.heap.size, 0, none⟩) 1 1) (hlen : n + 1 ≤ 1000000)
    (h : ∀ g n' cap w', OwnCC w' B w'.heap.size (some ⟨g, 0, none⟩) n' cap (css ++ [cs]) → Below B (w.alloc (.cells #[.slice q m cq] 23)) w' → Hid (n' = n + 1) → wpList Tryz.prog ops Q rest (a.put o.dst (.slice (some ⟨g, 0, none⟩) n' cap)) w') : wpList Tryz.prog ops Q (o :: rest) a (w.alloc (.cells #[.slice q m cq] 23)) := by
  obtain ⟨i0, hi, hz0, hz1, hz2⟩ := info_parts infoCells
  obtain ⟨ds, hss⟩ := hown
  have hal : Below w.heap.size w (w.alloc (.cells #[.slice q m cq] 23)) := (Below.refl _ _).alloc (Nat.le_refl _) _
  have hb1 := Below.on hb0 hal
  refine wpList_append_lies _ hgd s x 42 ho B 23 i0 (.slice none 0 0) 1 24 Tryz.underlying42 hi hz0 hz1 hz2 rfl (by decide) (.slice p n c) n (vals ds css) hs (row_below hss.row hb1) ⟨w.heap.size, 0, none⟩ 1 1 [.slice q m cq] hx rfl (cell_one_new _ _ _) (fun u hu => by simp at hu; rw [hu]; rfl) (by decide) (by unfold maxLen; omega) (by omega) (Nat.le_trans hB hb1.size) _ rfl ?_
  intro g cap w' hown' hgrow hat hlt
  have hown : ∀ k, Value.ownBlock (.slice p n c) = some k → B ≤ k ∧ k < W0.heap.size := fun k hk => hss.row.lt k hk
  have hm := hit.1
  have hg2 : g < W0.heap.size ∨ w.heap.size ≤ g := by
    rcases hat with h' | h'
    · exact .inl (hown g h').2
    · right; rw [h']; simp
  have hws := hb0.size
  have keepS : ∀ k, k < w.heap.size → (∀ j, Value.ownBlock (.slice p n c) = some j → k ≠ j) → w'.heap[k]? = w.heap[k]? := fun k hk hne =>
    (hgrow.block k (by simp; omega) (fun e => hne k e.symm rfl)).trans (Below.heap_alloc _ _ _ hk)
  have hitU := hit.up
  refine h g _ cap w' ⟨ds ++ [(q, cq, W0.heap.size, w.heap.size)], ?_⟩ ((Below.refl _ _).grown hgrow (Nat.le_trans hB hb1.size) (fun k hk => (hown k hk).1)) rfl
  have hdl := hss.dlen
  have hln := hss.len
  refine ⟨by simp; omega, by simp; omega, by rw [vals_append _ _ _ _ hdl, ← hm]; exact hown', fun i hi => ?_, fun i hi => ?_, fun i hi k hk => ?_, fun i j hij hj => ?_, fun k hk => ?_⟩
  · have hi' : i ≤ css.length := by simp at hi; omega
    rw [ds_append_at _ _ _ (by omega), css_append_at _ _ _ hi']
    by_cases e : i = css.length
    · rw [if_pos (by omega), if_pos e, ← hm]
      exact hitU.other (by have := hgrow.size; simp at this; omega) (fun k h1 h2 h3 => keepS k h1 (fun j hj => by have := (hown j hj).2; omega))
    · rw [if_neg (by omega), if_neg e]
      refine ((hss.item i (by omega)).below hb0).other (by have := hgrow.size; simp at this; omega) (fun k h1 h2 h3 => keepS k h1 (fun j hj => ?_))
      have := hss.away i (by omega) j hj
      omega
  · have hi' : i ≤ css.length := by simp at hi; omega
    rw [ds_append_at _ _ _ (by omega)]
    have hwl : w.heap.size ≤ w'.heap.size := by have := hgrow.size; simp at this; omega
    by_cases e : i = css.length
    · rw [if_pos (by omega)]; exact ⟨hB, hwl⟩
    · rw [if_neg (by omega)]
      have := hss.low i (by omega)
      exact ⟨this.1, by omega⟩
  · have hi' : i ≤ css.length := by simp at hi; omega
    have hk' : k = g := (Option.some.inj hk).symm
    subst hk'
    rw [ds_append_at _ _ _ (by omega)]
    by_cases e : i = css.length
    · rw [if_pos (by omega)]; exact hg2
    · rw [if_neg (by omega)]
      rcases hat with h' | h'
      · exact hss.away i (by omega) _ h'
      · right
        have := (hss.low i (by omega)).2
        have hsz : (w.alloc (.cells #[.slice q m cq] 23)).heap.size = w.heap.size + 1 := by simp
        rw [h', hsz]; omega
  · have hj' : j ≤ css.length := by simp at hj; omega
    rw [ds_append_at _ _ _ (by omega), ds_append_at _ _ _ (by omega), if_neg (by omega)]
    by_cases e : j = css.length
    · rw [if_pos (by omega)]
      exact (hss.low i (by omega)).2
    · rw [if_neg (by omega)]
      exact hss.apart i j hij (by omega)
  · have hk' : k = g := (Option.some.inj hk).symm
    omega
end Go.Proofs.YtaakpdakeolgeaaGreat

namespace Go.Proofs.YtaakpdakeolgeaaGreat
open Go Go.RowKit
set_option linter.unusedVariables false
theorem conv_dot (w : World) : (convert 22 22 (.slice (some ⟨w.heap.size, 0, none⟩) 1 1)).run Tryz.prog (w.alloc (.cells #[.int .u8 46] 5)) = .ok (.slice (some ⟨w.heap.size, 0, none⟩) 1 1) (w.alloc (.cells #[.int .u8 46] 5 (1, 2))) :=
  Lib.run_convert_bytes_const (P := Tryz.prog) w 22 5 #[.int .u8 46] 1 1 Tryz.underlying22 Tryz.underlying5
theorem dot_text (w : World) : OwnT (w.alloc (.cells #[.int .u8 46] 5 (1, 2))) w.heap.size (some ⟨w.heap.size, 0, none⟩) 1 1 [46] := ⟨rfl, fun _ => ⟨w.heap.size, rfl, Nat.le_refl _, by simp, fun i hi => by
  have hi0 : i = 0 := by omega
  subst hi0
  refine ⟨cell_of_row _ _ 0 _ _ _ (heap_alloc_new _ _), ?_⟩
  simp only [World.frozen?, heap_alloc_new]
  simp⟩⟩
def mkL (css : List (List Cel)) : List Cel := css.flatMap (fun cs => dot :: cs)
theorem mkL_take (css : List (List Cel)) (j : Nat) (h : j < css.length) : mkL (css.take (j + 1)) = mkL (css.take j) ++ [dot] ++ css.getD j [] := by
  rw [mkL, List.take_succ_eq_append_getElem h, List.flatMap_append, List.getD, List.getElem?_eq_getElem h]
  simp [mkL]
set_option maxRecDepth 100000 in
set_option maxHeartbeats 1000000 in
theorem l2listE_any (css : List (List Cel)) (en : List Cel) (p q : Option Addr) (n c le cq : Nat) (w : World) (hle : le = en.length) (hle0 : 0 < le) (hlb : le + tl en ≤ 1000000) (hn : n = css.length) (hl : n ≤ 2000) (hne : ∀ i, i < css.length → 0 < (css.getD i []).length) (hb : css.length + tll css ≤ 1048576) (hsz : (mkL css).length ≤ 1000000) (hin : CCIn w p css) (hend : CIn w q en) :
    Calls Tryz.prog 20 #[.slice p n c, .slice q le cq] w fun e w' => ∃ r m cr, e = .returned (.slice r m cr) ∧ OwnC w' w.heap.size r m cr (mkL css ++ en) ∧ Below w.heap.size w w' := by
  have HI : Hid (CCIn w p css) := hin
  have HE : Hid (CIn w q en) := hend
  have HLE : Hid (le = en.length) := hle
  have HLB : Hid (le + tl en ≤ 1000000) := hlb
  have hle1 : le ≤ 1000000 := by omega
  have HN : Hid (n = css.length) := hn
  have HNE : Hid _ := hne
  have hcs := conv_dot
  clear hin hend hn hne hle hlb
  go_enter Tryz.func20, Tryz.ntmps20
  go_wp2_with fail
  go_loopw [5, 6] (fun s i wr => ∃ (j : Nat) (r : Option Addr) (m cr : Nat), j ≤ n ∧ m ≤ 1000000 ∧ i = .int .i64 j ∧ s = .slice r m cr ∧ Hid (OwnC wr w.heap.size r m cr (mkL (css.take j))) ∧ Hid (Below w.heap.size w wr)) (fun _ i _ => n - (intOf i).toNat)
  case atStart => exact ⟨0, none, 0, 0, Nat.zero_le _, by decide, rfl, rfl, OwnC.nil _ _, Below.refl _ _⟩
  case round =>
    obtain ⟨j, r, m, cr, hj, hm, rfl, rfl, HO, HB⟩ := hrel
    have hBs : w.heap.size ≤ wr.heap.size := HB.out.size
    by_cases hlt : j < n
    · have hjl : j < css.length := by rw [← HN.out]; exact hlt
      have hal : Below wr.heap.size wr (wr.alloc (.cells #[.int .u8 46] 5 (1, 2))) := (Below.refl _ _).alloc (Nat.le_refl _) _
      have HT0 : Hid (OwnT (wr.alloc (.cells #[.int .u8 46] 5 (1, 2))) wr.heap.size (some ⟨wr.heap.size, 0, none⟩) 1 1 [46]) := dot_text wr
      obtain ⟨b, o, rfl, hcss⟩ := HI.out (by omega)
      obtain ⟨qi, ci, x0, x1⟩ := hcss j hjl
      have HX1 : Hid (CIn w qi (css.getD j [])) := x1
      have hbj := tll_at css j hjl
      have hpos := HNE.out j hjl
      obtain ⟨li, eli⟩ : ∃ li, li = (css.getD j []).length := ⟨_, rfl⟩
      have HLI : Hid (li = (css.getD j []).length) := eli
      have hli : 0 < li := by omega
      have hli2 : li ≤ 1048576 := by omega
      rw [← eli] at x0
      have X0 : Hid (w.cell? ⟨b, o + j, none⟩ = some (.slice qi li ci)) := x0
      have HBJ : Hid ((css.getD j []).length + tl (css.getD j []) ≤ 1048576) := by show _ ≤ _; omega
      have HMK : Hid _ := mkL_take css j hjl
      have HML : Hid ((mkL (css.take (j + 1))).length ≤ 1000000) := by
        have h1 : mkL css = mkL (css.take (j + 1)) ++ mkL (css.drop (j + 1)) := by rw [mkL, mkL, mkL, ← List.flatMap_append, List.take_append_drop]
        have h2 := congrArg List.length h1
        rw [List.length_append] at h2
        show _ ≤ _
        omega
      clear hcss x1 hbj hpos eli x0
      have hal2 : Below (wr.alloc (.cells #[.int .u8 46] 5 (1, 2))).heap.size (wr.alloc (.cells #[.int .u8 46] 5 (1, 2))) ((wr.alloc (.cells #[.int .u8 46] 5 (1, 2))).alloc (Obj.cells #[Value.int IntKind.i64 3, Value.int IntKind.i64 2, Value.slice (some ⟨wr.heap.size, 0, none⟩) 1 1] 35)) := (Below.refl _ _).alloc (Nat.le_refl _) _
      have HBA : Hid (Below wr.heap.size wr ((wr.alloc (.cells #[.int .u8 46] 5 (1, 2))).alloc (Obj.cells #[Value.int IntKind.i64 3, Value.int IntKind.i64 2, Value.slice (some ⟨wr.heap.size, 0, none⟩) 1 1] 35))) := Below.on hal hal2
      have HTT : Hid (OwnT ((wr.alloc (.cells #[.int .u8 46] 5 (1, 2))).alloc (Obj.cells #[Value.int IntKind.i64 3, Value.int IntKind.i64 2, Value.slice (some ⟨wr.heap.size, 0, none⟩) 1 1] 35)) wr.heap.size (some ⟨wr.heap.size, 0, none⟩) 1 1 [46]) := HT0.out.below hal2
      have hnew := heap_alloc_new (wr.alloc (.cells #[.int .u8 46] 5 (1, 2))) (Obj.cells #[Value.int IntKind.i64 3, Value.int IntKind.i64 2, Value.slice (some ⟨wr.heap.size, 0, none⟩) 1 1] 35)
      have esz : (wr.alloc (.cells #[.int .u8 46] 5 (1, 2))).heap.size = wr.heap.size + 1 := by simp
      rw [esz] at hnew
      have HBX : Hid (Box3 ((wr.alloc (.cells #[.int .u8 46] 5 (1, 2))).alloc (Obj.cells #[Value.int IntKind.i64 3, Value.int IntKind.i64 2, Value.slice (some ⟨wr.heap.size, 0, none⟩) 1 1] 35)) (wr.heap.size + 1) (.int .i64 3) (.int .i64 2) (.slice (some ⟨wr.heap.size, 0, none⟩) 1 1)) := Box3.of_block (t := 35) hnew
      clear hal hal2 hnew esz HT0
      go_wp2_with (at_builtin; refine app_cell wr _ rfl _ _ rfl w.heap.size r m cr _ rfl HO.out HBA.out hBs ⟨wr.heap.size + 1, 0, none⟩ 1 rfl 3 2 (some ⟨wr.heap.size, 0, none⟩) 1 1 [46] HTT.out (news_rc HBX.out) (by omega) ?_; intro g1 n1 cap1 w2 hown2 hb2 hn1; have hB2 : Below w.heap.size w w2 := (HB.out.trans (HBA.out.mono hBs)).trans hb2; have y0 := (hB2.cell (World.block_lt_of_cell? _ _ X0.out)).trans X0.out)
      have HB2 : Hid (Below w.heap.size w w2) := hB2
      have HO2 : Hid (OwnC w2 w.heap.size (some ⟨g1, 0, none⟩) n1 cap1 (mkL (css.take j) ++ [dot])) := hown2
      have HN1 : Hid (n1 = m + 1) := hn1.out
      have hn1' : n1 ≤ 1000001 := by have := hn1.out; omega
      have HCP := l2copy_any qi li ci (css.getD j []) w2 HLI.out (by have := HBJ.out; omega) (HX1.out.below hB2)
      clear hown2 hb2 hB2
      refine HCP.mono ?_
      rintro e w3 ⟨q3, m3, c3, rfl, ho3, hb3⟩
      have HO3 : Hid (OwnC w3 w2.heap.size q3 m3 c3 (css.getD j [])) := ho3
      have HB3 : Hid (Below w2.heap.size w2 w3) := hb3
      have HM3 : Hid (m3 = li) := by show _ = _; rw [ho3.1, HLI.out]
      have hm3 : 0 < m3 := by have := HM3.out; omega
      have hm3' : m3 ≤ 1048576 := by have := HM3.out; omega
      have hBs2 : w.heap.size ≤ w2.heap.size := HB2.out.size
      clear ho3 hb3 HCP
      go_wp2_with (at_builtin; refine app_cells w2 w3 rfl _ _ rfl w.heap.size (some ⟨g1, 0, none⟩) n1 cap1 _ rfl HO2.out HB3.out hBs2 q3 m3 c3 _ rfl HO3.out hm3 (by omega) ?_; intro g4 n4 cap4 w4 hown4 hb4 hn4)
      have HO4 : Hid (OwnC w4 w.heap.size (some ⟨g4, 0, none⟩) n4 cap4 (mkL (css.take (j + 1)))) := by rw [HMK.out]; exact hown4
      have HB4 : Hid (Below w.heap.size w w4) := (Below.on HB2.out HB3.out).trans hb4
      have hn4' : n4 ≤ 1000000 := by rw [HO4.out.1]; exact HML.out
      clear hown4 hb4
      go_roundw
      case rel => exact ⟨j + 1, _, n4, cap4, by omega, hn4', by go_num, rfl, HO4, HB4⟩
      case measure => simp [intOf]; omega
    · obtain rfl : j = n := by omega
      have HCP := l2copy_any q le cq en wr HLE.out (by have := HLB.out; have := HLE.out; omega) (HE.out.below HB.out)
      have HOA : Hid (OwnC wr w.heap.size r m cr (mkL css)) := by have := HO.out; rwa [List.take_of_length_le (by rw [← HN.out]; exact Nat.le_refl _)] at this
      go_wp2_with fail
      refine HCP.mono ?_
      rintro e w3 ⟨q3, m3, c3, rfl, ho3, hb3⟩
      have HO3 : Hid (OwnC w3 wr.heap.size q3 m3 c3 en) := ho3
      have HB3 : Hid (Below wr.heap.size wr w3) := hb3
      have hm3 : m3 = le := by rw [ho3.1, HLE.out]
      subst hm3
      clear ho3 hb3 HCP
      go_wp2_with (at_builtin; refine app_cells wr w3 rfl _ _ rfl w.heap.size r m cr _ rfl HOA.out HB3.out hBs q3 m3 c3 _ rfl HO3.out hle0 (by omega) ?_; intro g4 n4 cap4 w4 hown4 hb4 hn4)
      go_ret
      exact ⟨_, _, _, rfl, hown4, (Below.on HB.out HB3.out).trans hb4⟩
end Go.Proofs.YtaakpdakeolgeaaGreat

