/- Texts of Dt16, FtF, Scan1, Mark. Own work of the verifier. -/
import Derived.Test.YtfgmenkoeflhaaaGreatDoorUqbi
namespace Go.Proofs.YtfgmenkoeflhaaaGreatDoor
set_option linter.unusedVariables false
set_option maxRecDepth 100000
section
open Go Go.RowKit
theorem sameB_any (p q : Option Addr) (c1 c2 : Nat) (xs ys : List Int) (w : World) (hn : xs.length ≤ 1000000000) (hm : ys.length ≤ 1000000000) (hx : BIn w p xs) (hy : BIn w q ys) :
 Calls Tryz.prog 7 #[.slice p xs.length c1, .slice q ys.length c2] w fun e w' => e = .returned (.bool (decide (xs = ys))) ∧ ∃ n, w' = w.drewN n := by
 by_cases hl : xs.length = ys.length
 ·have HL : Hid (xs.length = ys.length) := hl
  obtain ⟨n, en⟩ : ∃ n, ys.length = n := ⟨_, rfl⟩
  rw [hl]; rw [hl] at hn; rw [en] at hn hm hl ⊢; have HE : Hid (ys.length = n) := en; clear hl en
  go_enter Tryz.func7, Tryz.ntmps7
  go_wp2
  go_loopw [5] (fun i wr => ∃ k m : Nat, k ≤ n ∧ i = .int .i64 k ∧ Hid (wr = w.drewN m) ∧ Hid (∀ j, j < k → xs.getD j 0 = ys.getD j 0)) (fun i _ => n - (intOf i).toNat)
  case atStart => exact ⟨0, 0, Nat.zero_le _, rfl, rfl, fun _ h => absurd h (Nat.not_lt_zero _)⟩
  case round =>
   obtain ⟨k, m, hk, rfl, HW, HN⟩ := hrel
   by_cases hlt : k < n
   ·obtain ⟨b, o, rfl, hcx⟩ := hx (by rw [HL.out, HE.out]; omega)
    obtain ⟨b', o', rfl, hcy⟩ := hy (by rw [HE.out]; omega)
    have h1 : wr.cell? ⟨b, o + k, none⟩ = some (.int .u8 (xs.getD k 0)) := by rw [HW.out]; exact hcx k (by rw [HL.out, HE.out]; exact hlt)
    have h2 : wr.cell? ⟨b', o' + k, none⟩ = some (.int .u8 (ys.getD k 0)) := by rw [HW.out]; exact hcy k (by rw [HE.out]; exact hlt)
    obtain ⟨x, ex⟩ : ∃ x, x = xs.getD k 0 := ⟨_, rfl⟩
    obtain ⟨y, ey⟩ : ∃ y, y = ys.getD k 0 := ⟨_, rfl⟩
    rw [← ex] at h1; rw [← ey] at h2; have HX : Hid (x = xs.getD k 0) := ex; have HY : Hid (y = ys.getD k 0) := ey; clear ex ey hcx hcy hx hy
    by_cases ht : x = y
    ·subst ht
     go_wp2
     go_region
     all_goals go_wp2
     all_goals go_roundw
     case rel => exact ⟨k + 1, m + 1, by omega, by go_num, by rw [HW.out]; rfl, fun j hj => by
      by_cases e : j = k
      ·subst e; rw [← HX.out, ← HY.out]
      ·exact HN.out j (by omega)⟩
     case measure => simp [intOf]; omega
    ·have ht' : (x != y) = true := by simpa using ht
     go_wp2
     go_region
     all_goals go_wp2
     all_goals go_ret
     exact ⟨ret_bool (by
      symm; rw [decide_eq_false_iff_not]; intro e
      exact ht (by rw [HX.out, HY.out, e])), m + 1, by rw [HW.out]; rfl⟩
   ·obtain rfl : k = n := by omega
    go_wp2
    go_ret; exact ⟨ret_bool (by symm; rw [decide_eq_true_iff]; exact same_every HL.out (by rw [HL.out, HE.out]; exact HN.out)), m, HW.out⟩
 ·have hne : ¬ ((xs.length : Int) = (ys.length : Int)) := by omega
  have e : decide (xs = ys) = false := by rw [decide_eq_false_iff_not]; intro e; exact hl (by rw [e])
  rw [e]; clear e hx hy
  go_enter Tryz.func7, Tryz.ntmps7
  go_wp2
  go_ret; exact ⟨rfl, 0, rfl⟩
end
section
open Go Go.RowKit
set_option linter.unusedSimpArgs false
def nmD (xs : List Int) (i : Nat) : List Int := numsU (nameAt (rdI xs i).toNat)
def dqG (xs : List Int) : List Int :=
 if (rdI xs 0).toNat % 4 = 0 then nmD xs (rdN xs 0) ++ nmD xs (rdN xs (rdN xs 0))
 else if (rdI xs 0).toNat = 5 then List.replicate (99 + (rdI xs (rdN xs (rdN xs 0))).toNat % 3) 97
 else if (rdI xs 0).toNat % 16 = 1 then nmD xs (rdN xs 0) ++ [((rdI xs (rdN xs (rdN xs 0))).toNat : Int)]
 else nmD xs (rdN xs 0)
def dqF (xs : List Int) : List Int := dqG (xs.take 500)
theorem nmD_good (xs : List Int) (i : Nat) : Byte (nmD xs i) ∧ (nmD xs i).length ≤ 11 := ⟨byte_numsU _, nameU_len _⟩
theorem dqF_good {xs : List Int} (hb : Bytes xs) : Byte (dqF xs) ∧ (dqF xs).length ≤ 110 := by
 have hb' := hb.take 500
 unfold dqF
 generalize xs.take 500 = ys at hb'
 unfold dqG
 split
 ·exact ⟨byte_app (nmD_good _ _).1 (nmD_good _ _).1, by have := (nmD_good ys (rdN ys 0)).2; have := (nmD_good ys (rdN ys (rdN ys 0))).2; rw [List.length_append]; omega⟩
 ·split
  ·exact ⟨rep_byte _ (by decide) (by decide), by rw [List.length_replicate]; omega⟩
  ·split
   ·have hr := rdI_rng hb' (rdN ys (rdN ys 0))
    exact ⟨byte_app (nmD_good _ _).1 (byte_one (by omega) (by omega)), by have := (nmD_good ys (rdN ys 0)).2; rw [List.length_append]; simp; omega⟩
   ·exact ⟨(nmD_good _ _).1, by have := (nmD_good ys (rdN ys 0)).2; omega⟩
def AtOut (w : World) (X : List Int) (e : Ending) (w' : World) : Prop := ∃ q m cap, e = .returned (.slice q m cap) ∧ OwnR w' w.heap.size q m cap X ∧ Below w.heap.size w w'
theorem AtOut.of {w : World} {R : Nat} {pr : Option Addr} {cr : Nat} {xs : List Int} {j : Nat} {w1 w2 : World} {p : Option Addr} {n c : Nat} {ys : List Int} (hb : Below w.heap.size w w1) (hs : w1.heap.size = w.heap.size + 1) (hR : R = w.heap.size) (h : TxS w1 R pr cr xs j w2 p n c ys) : AtOut w ys (.returned (.slice p n c)) w2 := by
 subst hR; exact ⟨p, n, c, rfl, h.own.mono (by omega), hb.trans (h.keep.below (Nat.le_refl _) (by omega))⟩
set_option maxHeartbeats 4000000 in
theorem dq_two (p : Option Addr) (c n : Nat) (xs : List Int) (w : World) (hb : Bytes xs) (hn : xs.length ≤ 1048576) (hc : xs.length ≤ c) (hx : BIn w p xs) (en : n = xs.length) (hk : (rdI (xs.take 500) 0).toNat % 4 = 0) :
 Calls Tryz.prog 17 #[.slice p n c] w (AtOut w (dqF xs)) := by
 obtain ⟨ys, eys⟩ : ∃ ys, ys = xs.take 500 := ⟨_, rfl⟩
 have HO := l4open_any p c xs w hb hn hc hx; rw [← en, ← eys] at HO
 have hby : Bytes ys := by rw [eys]; exact hb.take 500
 have EQ0 : dqF xs = dqG ys := by unfold dqF; rw [eys]
 rw [EQ0]; rw [← eys] at hk
 obtain ⟨x, ex, hx0⟩ : ∃ x : Nat, (rdI ys 0).toNat = x ∧ x < 256 := ⟨_, rfl, by have := (rdI_rng hby 0).2; omega⟩
 obtain ⟨i1, ei1⟩ : ∃ i1, i1 = rdN ys 0 := ⟨_, rfl⟩
 obtain ⟨i2, ei2⟩ : ∃ i2, i2 = rdN ys i1 := ⟨_, rfl⟩
 obtain ⟨y, ey, hy0⟩ : ∃ y : Nat, (rdI ys i2).toNat = y ∧ y < 256 := ⟨_, rfl, by have := (rdI_rng hby i2).2; omega⟩
 have HX : Hid (∀ W R, RdIn W R p c ys 0 → Calls Tryz.prog 21 #[.pointer (some ⟨R, 0, none⟩)] W fun e w' => e = .returned (.int .i64 (x : Int)) ∧ Keep R (R + 1) W w' ∧ w'.heap.size = W.heap.size ∧ RdIn w' R p c ys i1) := fun W R hW => by
  obtain ⟨x', ex', _, h'⟩ := nextN R c 0 p ys W hW; rw [ex] at ex'; rw [← ex', ← ei1] at h'; exact h'
 have HNM : Hid (∀ W R, RdIn W R p c ys i1 → Calls Tryz.prog 42 #[.pointer (some ⟨R, 0, none⟩)] W (NameOutR W R p c ys i1)) := fun W R hW => l4nameR_any R c i1 p ys W hW
 have HN2 : Hid (∀ W R, RdIn W R p c ys i2 → Calls Tryz.prog 42 #[.pointer (some ⟨R, 0, none⟩)] W (NameOutR W R p c ys i2)) := fun W R hW => l4nameR_any R c i2 p ys W hW
 have HYN : Hid (∀ W R, RdIn W R p c ys i2 → Calls Tryz.prog 21 #[.pointer (some ⟨R, 0, none⟩)] W fun e w' => e = .returned (.int .i64 (y : Int)) ∧ Keep R (R + 1) W w' ∧ w'.heap.size = W.heap.size ∧ RdIn w' R p c ys (rdN ys i2)) := fun W R hW => by
  obtain ⟨x', ex', _, h'⟩ := nextN R c i2 p ys W hW; rw [ey] at ex'; rw [← ex'] at h'; exact h'
 have HGN : Hid (dqG ys = if x % 4 = 0 then nmD ys i1 ++ nmD ys i2 else if x = 5 then List.replicate (99 + y % 3) 97 else if x % 16 = 1 then nmD ys i1 ++ [(y : Int)] else nmD ys i1) := by show _ = _; unfold dqG; rw [ex, ← ei1, ← ei2, ey]
 rw [ex] at hk
 obtain ⟨m4, em4⟩ : ∃ m, m = x % 4 := ⟨_, rfl⟩
 have hm4 : m4 < 4 := by omega
 have hmod4 : (x : Int).tmod 4 = (m4 : Int) := by rw [em4, Int.tmod_eq_emod_of_nonneg (by omega)]; rfl
 obtain ⟨m16, em16⟩ : ∃ m, m = x % 16 := ⟨_, rfl⟩
 have hm16 : m16 < 16 := by omega
 have hmod16 : (x : Int).tmod 16 = (m16 : Int) := by rw [em16, Int.tmod_eq_emod_of_nonneg (by omega)]; rfl
 have HEI : Hid (i2 = rdN ys i1) := ei2
 have EG : dqG ys = nmD ys i1 ++ nmD ys i2 := by rw [HGN.out]; rw [if_pos hk]
 rw [EG]
 have b0 : ((m4 : Int) == 0) = true := by simp; omega
 clear hb hn hc hx en eys hby EQ0 ex ei1 ei2 ey em4 em16 hk HGN EG
 go_enter Tryz.func17, Tryz.ntmps17
 go_wp2_with fail; refine HO.mono ?_; rintro e w1 ⟨rfl, hb1, hs1, hR1⟩
 have HB1 : Hid (Below w.heap.size w w1 ∧ w1.heap.size = w.heap.size + 1) := ⟨hb1, hs1⟩
 have HRW : Hid (w.heap.size < w1.heap.size) := by show _ < _; omega
 have HC1 := HX.out w1 w.heap.size hR1; clear hb1 hs1 hR1 HO; go_wp2_with fail; refine HC1.mono ?_; rintro e w2 ⟨rfl, hk2, hs2, hR2⟩; have HK2 : Hid (Keep w.heap.size (w.heap.size + 1) w1 w2) := hk2; have HC2 := HNM.out w2 w.heap.size hR2; clear hk2 hs2 hR2 HC1; go_wp2_with fail; refine HC2.mono ?_; rintro e w3 ⟨g3, n3, c3, rfl, hn3, hk3, hR3, ho3⟩
 have HT3 : Hid (TxS w1 w.heap.size p c ys i2 w3 (some ⟨g3, 0, none⟩) n3 c3 (nmD ys i1)) := ⟨ho3.mono HK2.out.size, HK2.out.trans hk3, by rw [HEI.out]; exact hR3⟩
 have HL3 : Hid (n3 ≤ 11) := by have := ho3.1; have := (nmD_good ys i1).2; unfold nmD at this; show _ ≤ _; omega
 clear hn3 hk3 hR3 ho3 HC2; have HC3 := HN2.out w3 w.heap.size HT3.out.rd; go_wp2_with fail; refine HC3.mono ?_; rintro e w4 ⟨g4, n4, c4, rfl, hn4, hk4, hR4, ho4⟩
 have HT4 : Hid (TxS w1 w.heap.size p c ys (rdN ys i2) w4 (some ⟨g3, 0, none⟩) n3 c3 (nmD ys i1)) := HT3.out.next HRW.out hk4 hR4
 have HQ4 : Hid (BIn w4 (some ⟨g4, 0, none⟩) (nmD ys i2) ∧ n4 = (nmD ys i2).length) := ⟨ho4.bin, ho4.1⟩
 clear hn4 hk4 hR4 ho4 HC3; go_wp2_with (at_builtin; refine appR_bytes _ rfl _ _ rfl w1.heap.size (some ⟨g3, 0, none⟩) n3 c3 (nmD ys i1) (nmD ys i2) (some ⟨g4, 0, none⟩) n4 c4 HQ4.out.2 rfl HT4.out.own rfl HQ4.out.1 (by have := HL3.out; have := (nmD_good ys i2).2; omega) HT4.out.keep.size ?_; intro p9 n9 c9 w9 ho9 hg9); have HO : Hid _ := AtOut.of HB1.out.1 HB1.out.2 rfl (HT4.out.app HRW.out ho9 hg9); clear ho9 hg9; go_wp2_with fail; go_ret; exact HO.out
set_option maxHeartbeats 4000000 in
theorem dq_fill (p : Option Addr) (c n : Nat) (xs : List Int) (w : World) (hb : Bytes xs) (hn : xs.length ≤ 1048576) (hc : xs.length ≤ c) (hx : BIn w p xs) (en : n = xs.length) (hk : (rdI (xs.take 500) 0).toNat = 5) :
 Calls Tryz.prog 17 #[.slice p n c] w (AtOut w (dqF xs)) := by
 obtain ⟨ys, eys⟩ : ∃ ys, ys = xs.take 500 := ⟨_, rfl⟩
 have HO := l4open_any p c xs w hb hn hc hx; rw [← en, ← eys] at HO
 have hby : Bytes ys := by rw [eys]; exact hb.take 500
 have EQ0 : dqF xs = dqG ys := by unfold dqF; rw [eys]
 rw [EQ0]; rw [← eys] at hk
 obtain ⟨x, ex, hx0⟩ : ∃ x : Nat, (rdI ys 0).toNat = x ∧ x < 256 := ⟨_, rfl, by have := (rdI_rng hby 0).2; omega⟩
 obtain ⟨i1, ei1⟩ : ∃ i1, i1 = rdN ys 0 := ⟨_, rfl⟩
 obtain ⟨i2, ei2⟩ : ∃ i2, i2 = rdN ys i1 := ⟨_, rfl⟩
 obtain ⟨y, ey, hy0⟩ : ∃ y : Nat, (rdI ys i2).toNat = y ∧ y < 256 := ⟨_, rfl, by have := (rdI_rng hby i2).2; omega⟩
 have HX : Hid (∀ W R, RdIn W R p c ys 0 → Calls Tryz.prog 21 #[.pointer (some ⟨R, 0, none⟩)] W fun e w' => e = .returned (.int .i64 (x : Int)) ∧ Keep R (R + 1) W w' ∧ w'.heap.size = W.heap.size ∧ RdIn w' R p c ys i1) := fun W R hW => by
  obtain ⟨x', ex', _, h'⟩ := nextN R c 0 p ys W hW; rw [ex] at ex'; rw [← ex', ← ei1] at h'; exact h'
 have HNM : Hid (∀ W R, RdIn W R p c ys i1 → Calls Tryz.prog 42 #[.pointer (some ⟨R, 0, none⟩)] W (NameOutR W R p c ys i1)) := fun W R hW => l4nameR_any R c i1 p ys W hW
 have HN2 : Hid (∀ W R, RdIn W R p c ys i2 → Calls Tryz.prog 42 #[.pointer (some ⟨R, 0, none⟩)] W (NameOutR W R p c ys i2)) := fun W R hW => l4nameR_any R c i2 p ys W hW
 have HYN : Hid (∀ W R, RdIn W R p c ys i2 → Calls Tryz.prog 21 #[.pointer (some ⟨R, 0, none⟩)] W fun e w' => e = .returned (.int .i64 (y : Int)) ∧ Keep R (R + 1) W w' ∧ w'.heap.size = W.heap.size ∧ RdIn w' R p c ys (rdN ys i2)) := fun W R hW => by
  obtain ⟨x', ex', _, h'⟩ := nextN R c i2 p ys W hW; rw [ey] at ex'; rw [← ex'] at h'; exact h'
 have HGN : Hid (dqG ys = if x % 4 = 0 then nmD ys i1 ++ nmD ys i2 else if x = 5 then List.replicate (99 + y % 3) 97 else if x % 16 = 1 then nmD ys i1 ++ [(y : Int)] else nmD ys i1) := by show _ = _; unfold dqG; rw [ex, ← ei1, ← ei2, ey]
 rw [ex] at hk
 obtain ⟨m4, em4⟩ : ∃ m, m = x % 4 := ⟨_, rfl⟩
 have hm4 : m4 < 4 := by omega
 have hmod4 : (x : Int).tmod 4 = (m4 : Int) := by rw [em4, Int.tmod_eq_emod_of_nonneg (by omega)]; rfl
 obtain ⟨m16, em16⟩ : ∃ m, m = x % 16 := ⟨_, rfl⟩
 have hm16 : m16 < 16 := by omega
 have hmod16 : (x : Int).tmod 16 = (m16 : Int) := by rw [em16, Int.tmod_eq_emod_of_nonneg (by omega)]; rfl
 have HEI : Hid (i2 = rdN ys i1) := ei2
 have EG : dqG ys = List.replicate (99 + y % 3) 97 := by rw [HGN.out]; rw [if_neg (by omega), if_pos hk]
 rw [EG]; subst hk
 obtain ⟨m, em⟩ : ∃ m, m = y % 3 := ⟨_, rfl⟩
 have hm : m < 3 := by omega
 have hmod : (y : Int).tmod 3 = (m : Int) := by rw [em, Int.tmod_eq_emod_of_nonneg (by omega)]; rfl
 rw [← em]
 obtain ⟨N, eN⟩ : ∃ N, N = 99 + m := ⟨_, rfl⟩
 have hadd : (99 : Int) + (m : Int) = (N : Int) := by omega
 have hN : N ≤ 102 := by omega
 rw [← eN]; have hk : True := trivial
 have HF1 : Hid (∀ W, Calls Tryz.prog 24 #[.int .u8 97, .int .i64 (N : Int)] W fun e w' => ∃ g n c, e = .returned (.slice (some ⟨g, 0, none⟩) n c) ∧ OwnS w' W.heap.size (some ⟨g, 0, none⟩) n c (List.replicate N 97) ∧ Below W.heap.size W w') := fun W => by
  refine (l4fillG_any 97 N (by omega) W).mono ?_; rintro e w' ⟨p, n, c, rfl, ho, hb⟩; have hn := ho.1
  rcases ho.2.2 with ⟨h1, _⟩ | ⟨g, cap, cur, hv, _⟩
  ·simp at h1; rw [List.length_replicate] at hn; omega
  ·simp only [Value.slice.injEq, true_and] at hv
   obtain ⟨rfl, rfl⟩ := hv; exact ⟨g, n, c, rfl, ho, hb⟩
 clear em eN; clear hb hn hc hx en eys hby EQ0 ex ei1 ei2 ey em4 em16 hk HGN EG
 go_enter Tryz.func17, Tryz.ntmps17
 go_wp2_with fail; refine HO.mono ?_; rintro e w1 ⟨rfl, hb1, hs1, hR1⟩
 have HB1 : Hid (Below w.heap.size w w1 ∧ w1.heap.size = w.heap.size + 1) := ⟨hb1, hs1⟩
 have HRW : Hid (w.heap.size < w1.heap.size) := by show _ < _; omega
 have HC1 := HX.out w1 w.heap.size hR1; clear hb1 hs1 hR1 HO; go_wp2_with fail; refine HC1.mono ?_; rintro e w2 ⟨rfl, hk2, hs2, hR2⟩; have HK2 : Hid (Keep w.heap.size (w.heap.size + 1) w1 w2) := hk2; have HC2 := HNM.out w2 w.heap.size hR2; clear hk2 hs2 hR2 HC1; go_wp2_with fail; refine HC2.mono ?_; rintro e w3 ⟨g3, n3, c3, rfl, hn3, hk3, hR3, ho3⟩
 have HT3 : Hid (TxS w1 w.heap.size p c ys i2 w3 (some ⟨g3, 0, none⟩) n3 c3 (nmD ys i1)) := ⟨ho3.mono HK2.out.size, HK2.out.trans hk3, by rw [HEI.out]; exact hR3⟩
 have HL3 : Hid (n3 ≤ 11) := by have := ho3.1; have := (nmD_good ys i1).2; unfold nmD at this; show _ ≤ _; omega
 clear hn3 hk3 hR3 ho3 HC2; have HC3 := HYN.out w3 w.heap.size HT3.out.rd; go_wp2_with fail; refine HC3.mono ?_; rintro e w4 ⟨rfl, hk4, hs4, hR4⟩
 have HK4 : Hid (Keep w.heap.size (w.heap.size + 1) w1 w4 ∧ RdIn w4 w.heap.size p c ys (rdN ys i2)) := ⟨HT3.out.keep.trans hk4, hR4⟩
 clear hk4 hs4 hR4 HC3; go_wp2_with fail; refine (HF1.out w4).mono ?_; rintro e w5 ⟨g5, n5, c5, rfl, ho5, hb5⟩; have HO : Hid _ := AtOut.of HB1.out.1 HB1.out.2 rfl (⟨ho5.toR.mono HK4.out.1.size, HK4.out.1.trans (Keep.of_below hb5), HK4.out.2.below hb5 HK4.out.2.lt⟩ : TxS w1 w.heap.size p c ys (rdN ys i2) w5 (some ⟨g5, 0, none⟩) n5 c5 (List.replicate N 97)); clear ho5 hb5; go_wp2_with fail; go_ret; exact HO.out
set_option maxHeartbeats 4000000 in
theorem dq_one (p : Option Addr) (c n : Nat) (xs : List Int) (w : World) (hb : Bytes xs) (hn : xs.length ≤ 1048576) (hc : xs.length ≤ c) (hx : BIn w p xs) (en : n = xs.length) (hk : ¬ (rdI (xs.take 500) 0).toNat % 4 = 0 ∧ ¬ (rdI (xs.take 500) 0).toNat = 5 ∧ (rdI (xs.take 500) 0).toNat % 16 = 1) :
 Calls Tryz.prog 17 #[.slice p n c] w (AtOut w (dqF xs)) := by
 obtain ⟨ys, eys⟩ : ∃ ys, ys = xs.take 500 := ⟨_, rfl⟩
 have HO := l4open_any p c xs w hb hn hc hx; rw [← en, ← eys] at HO
 have hby : Bytes ys := by rw [eys]; exact hb.take 500
 have EQ0 : dqF xs = dqG ys := by unfold dqF; rw [eys]
 rw [EQ0]; rw [← eys] at hk
 obtain ⟨x, ex, hx0⟩ : ∃ x : Nat, (rdI ys 0).toNat = x ∧ x < 256 := ⟨_, rfl, by have := (rdI_rng hby 0).2; omega⟩
 obtain ⟨i1, ei1⟩ : ∃ i1, i1 = rdN ys 0 := ⟨_, rfl⟩
 obtain ⟨i2, ei2⟩ : ∃ i2, i2 = rdN ys i1 := ⟨_, rfl⟩
 obtain ⟨y, ey, hy0⟩ : ∃ y : Nat, (rdI ys i2).toNat = y ∧ y < 256 := ⟨_, rfl, by have := (rdI_rng hby i2).2; omega⟩
 have HX : Hid (∀ W R, RdIn W R p c ys 0 → Calls Tryz.prog 21 #[.pointer (some ⟨R, 0, none⟩)] W fun e w' => e = .returned (.int .i64 (x : Int)) ∧ Keep R (R + 1) W w' ∧ w'.heap.size = W.heap.size ∧ RdIn w' R p c ys i1) := fun W R hW => by
  obtain ⟨x', ex', _, h'⟩ := nextN R c 0 p ys W hW; rw [ex] at ex'; rw [← ex', ← ei1] at h'; exact h'
 have HNM : Hid (∀ W R, RdIn W R p c ys i1 → Calls Tryz.prog 42 #[.pointer (some ⟨R, 0, none⟩)] W (NameOutR W R p c ys i1)) := fun W R hW => l4nameR_any R c i1 p ys W hW
 have HN2 : Hid (∀ W R, RdIn W R p c ys i2 → Calls Tryz.prog 42 #[.pointer (some ⟨R, 0, none⟩)] W (NameOutR W R p c ys i2)) := fun W R hW => l4nameR_any R c i2 p ys W hW
 have HYN : Hid (∀ W R, RdIn W R p c ys i2 → Calls Tryz.prog 21 #[.pointer (some ⟨R, 0, none⟩)] W fun e w' => e = .returned (.int .i64 (y : Int)) ∧ Keep R (R + 1) W w' ∧ w'.heap.size = W.heap.size ∧ RdIn w' R p c ys (rdN ys i2)) := fun W R hW => by
  obtain ⟨x', ex', _, h'⟩ := nextN R c i2 p ys W hW; rw [ey] at ex'; rw [← ex'] at h'; exact h'
 have HGN : Hid (dqG ys = if x % 4 = 0 then nmD ys i1 ++ nmD ys i2 else if x = 5 then List.replicate (99 + y % 3) 97 else if x % 16 = 1 then nmD ys i1 ++ [(y : Int)] else nmD ys i1) := by show _ = _; unfold dqG; rw [ex, ← ei1, ← ei2, ey]
 rw [ex] at hk
 obtain ⟨m4, em4⟩ : ∃ m, m = x % 4 := ⟨_, rfl⟩
 have hm4 : m4 < 4 := by omega
 have hmod4 : (x : Int).tmod 4 = (m4 : Int) := by rw [em4, Int.tmod_eq_emod_of_nonneg (by omega)]; rfl
 obtain ⟨m16, em16⟩ : ∃ m, m = x % 16 := ⟨_, rfl⟩
 have hm16 : m16 < 16 := by omega
 have hmod16 : (x : Int).tmod 16 = (m16 : Int) := by rw [em16, Int.tmod_eq_emod_of_nonneg (by omega)]; rfl
 have HEI : Hid (i2 = rdN ys i1) := ei2
 have EG : dqG ys = nmD ys i1 ++ [(y : Int)] := by rw [HGN.out]; rw [if_neg hk.1, if_neg hk.2.1, if_pos hk.2.2]
 rw [EG]
 have b0 : ((m4 : Int) == 0) = false := by simp; omega
 have b5 : ((x : Int) == 5) = false := by simp; omega
 have b1 : ((m16 : Int) == 1) = true := by simp; omega
 have hw8 : IntKind.u8.wrap (y : Int) = (y : Int) := by rw [IntKind.wrap_u8]; omega
 clear hb hn hc hx en eys hby EQ0 ex ei1 ei2 ey em4 em16 hk HGN EG
 go_enter Tryz.func17, Tryz.ntmps17
 go_wp2_with fail; refine HO.mono ?_; rintro e w1 ⟨rfl, hb1, hs1, hR1⟩
 have HB1 : Hid (Below w.heap.size w w1 ∧ w1.heap.size = w.heap.size + 1) := ⟨hb1, hs1⟩
 have HRW : Hid (w.heap.size < w1.heap.size) := by show _ < _; omega
 have HC1 := HX.out w1 w.heap.size hR1; clear hb1 hs1 hR1 HO; go_wp2_with fail; refine HC1.mono ?_; rintro e w2 ⟨rfl, hk2, hs2, hR2⟩; have HK2 : Hid (Keep w.heap.size (w.heap.size + 1) w1 w2) := hk2; have HC2 := HNM.out w2 w.heap.size hR2; clear hk2 hs2 hR2 HC1; go_wp2_with fail; refine HC2.mono ?_; rintro e w3 ⟨g3, n3, c3, rfl, hn3, hk3, hR3, ho3⟩
 have HT3 : Hid (TxS w1 w.heap.size p c ys i2 w3 (some ⟨g3, 0, none⟩) n3 c3 (nmD ys i1)) := ⟨ho3.mono HK2.out.size, HK2.out.trans hk3, by rw [HEI.out]; exact hR3⟩
 have HL3 : Hid (n3 ≤ 11) := by have := ho3.1; have := (nmD_good ys i1).2; unfold nmD at this; show _ ≤ _; omega
 clear hn3 hk3 hR3 ho3 HC2; have HC3 := HYN.out w3 w.heap.size HT3.out.rd; go_wp2_with fail; refine HC3.mono ?_; rintro e w4 ⟨rfl, hk4, hs4, hR4⟩
 have HT4 : Hid (TxS w1 w.heap.size p c ys (rdN ys i2) w4 (some ⟨g3, 0, none⟩) n3 c3 (nmD ys i1)) := HT3.out.next HRW.out hk4 hR4
 clear hk4 hs4 hR4 HC3
 obtain ⟨w5, ew5⟩ : ∃ W, W = w4.alloc (.cells #[.int .u8 (y : Int)] 5) := ⟨_, rfl⟩
 have HE5 : Hid (w5 = w4.alloc (.cells #[.int .u8 (y : Int)] 5)) := ew5; have HT5 : Hid (TxS w1 w.heap.size p c ys (rdN ys i2) (w4.alloc (.cells #[.int .u8 (y : Int)] 5)) (some ⟨g3, 0, none⟩) n3 c3 (nmD ys i1)) := HT4.out.below ((Below.refl _ _).alloc (Nat.le_refl _) _)
 have HQ5 : Hid (BIn (w4.alloc (.cells #[.int .u8 (y : Int)] 5)) (some ⟨w4.heap.size, 0, none⟩) [(y : Int)]) := fun _ => ⟨w4.heap.size, 0, rfl, fun i hi => by cases i with | zero => simp [World.cell?_alloc_new] | succ j => simp at hi⟩
 clear ew5; go_wp2_with (at_builtin; refine appR_bytes _ rfl _ _ rfl w1.heap.size (some ⟨g3, 0, none⟩) n3 c3 (nmD ys i1) [(y : Int)] (some ⟨w4.heap.size, 0, none⟩) 1 1 rfl rfl HT5.out.own rfl HQ5.out (by have := HL3.out; simp; omega) HT5.out.keep.size ?_; intro p9 n9 c9 w9 ho9 hg9); have HO : Hid _ := AtOut.of HB1.out.1 HB1.out.2 rfl (HT5.out.app HRW.out ho9 hg9); clear ho9 hg9; go_wp2_with fail; go_ret; exact HO.out
set_option maxHeartbeats 4000000 in
theorem dq_name (p : Option Addr) (c n : Nat) (xs : List Int) (w : World) (hb : Bytes xs) (hn : xs.length ≤ 1048576) (hc : xs.length ≤ c) (hx : BIn w p xs) (en : n = xs.length) (hk : ¬ (rdI (xs.take 500) 0).toNat % 4 = 0 ∧ ¬ (rdI (xs.take 500) 0).toNat = 5 ∧ ¬ (rdI (xs.take 500) 0).toNat % 16 = 1) :
 Calls Tryz.prog 17 #[.slice p n c] w (AtOut w (dqF xs)) := by
 obtain ⟨ys, eys⟩ : ∃ ys, ys = xs.take 500 := ⟨_, rfl⟩
 have HO := l4open_any p c xs w hb hn hc hx; rw [← en, ← eys] at HO
 have hby : Bytes ys := by rw [eys]; exact hb.take 500
 have EQ0 : dqF xs = dqG ys := by unfold dqF; rw [eys]
 rw [EQ0]; rw [← eys] at hk
 obtain ⟨x, ex, hx0⟩ : ∃ x : Nat, (rdI ys 0).toNat = x ∧ x < 256 := ⟨_, rfl, by have := (rdI_rng hby 0).2; omega⟩
 obtain ⟨i1, ei1⟩ : ∃ i1, i1 = rdN ys 0 := ⟨_, rfl⟩
 obtain ⟨i2, ei2⟩ : ∃ i2, i2 = rdN ys i1 := ⟨_, rfl⟩
 obtain ⟨y, ey, hy0⟩ : ∃ y : Nat, (rdI ys i2).toNat = y ∧ y < 256 := ⟨_, rfl, by have := (rdI_rng hby i2).2; omega⟩
 have HX : Hid (∀ W R, RdIn W R p c ys 0 → Calls Tryz.prog 21 #[.pointer (some ⟨R, 0, none⟩)] W fun e w' => e = .returned (.int .i64 (x : Int)) ∧ Keep R (R + 1) W w' ∧ w'.heap.size = W.heap.size ∧ RdIn w' R p c ys i1) := fun W R hW => by
  obtain ⟨x', ex', _, h'⟩ := nextN R c 0 p ys W hW; rw [ex] at ex'; rw [← ex', ← ei1] at h'; exact h'
 have HNM : Hid (∀ W R, RdIn W R p c ys i1 → Calls Tryz.prog 42 #[.pointer (some ⟨R, 0, none⟩)] W (NameOutR W R p c ys i1)) := fun W R hW => l4nameR_any R c i1 p ys W hW
 have HN2 : Hid (∀ W R, RdIn W R p c ys i2 → Calls Tryz.prog 42 #[.pointer (some ⟨R, 0, none⟩)] W (NameOutR W R p c ys i2)) := fun W R hW => l4nameR_any R c i2 p ys W hW
 have HYN : Hid (∀ W R, RdIn W R p c ys i2 → Calls Tryz.prog 21 #[.pointer (some ⟨R, 0, none⟩)] W fun e w' => e = .returned (.int .i64 (y : Int)) ∧ Keep R (R + 1) W w' ∧ w'.heap.size = W.heap.size ∧ RdIn w' R p c ys (rdN ys i2)) := fun W R hW => by
  obtain ⟨x', ex', _, h'⟩ := nextN R c i2 p ys W hW; rw [ey] at ex'; rw [← ex'] at h'; exact h'
 have HGN : Hid (dqG ys = if x % 4 = 0 then nmD ys i1 ++ nmD ys i2 else if x = 5 then List.replicate (99 + y % 3) 97 else if x % 16 = 1 then nmD ys i1 ++ [(y : Int)] else nmD ys i1) := by show _ = _; unfold dqG; rw [ex, ← ei1, ← ei2, ey]
 rw [ex] at hk
 obtain ⟨m4, em4⟩ : ∃ m, m = x % 4 := ⟨_, rfl⟩
 have hm4 : m4 < 4 := by omega
 have hmod4 : (x : Int).tmod 4 = (m4 : Int) := by rw [em4, Int.tmod_eq_emod_of_nonneg (by omega)]; rfl
 obtain ⟨m16, em16⟩ : ∃ m, m = x % 16 := ⟨_, rfl⟩
 have hm16 : m16 < 16 := by omega
 have hmod16 : (x : Int).tmod 16 = (m16 : Int) := by rw [em16, Int.tmod_eq_emod_of_nonneg (by omega)]; rfl
 have HEI : Hid (i2 = rdN ys i1) := ei2
 have EG : dqG ys = nmD ys i1 := by rw [HGN.out]; rw [if_neg hk.1, if_neg hk.2.1, if_neg hk.2.2]
 rw [EG]
 have b0 : ((m4 : Int) == 0) = false := by simp; omega
 have b5 : ((x : Int) == 5) = false := by simp; omega
 have b1 : ((m16 : Int) == 1) = false := by simp; omega
 clear hb hn hc hx en eys hby EQ0 ex ei1 ei2 ey em4 em16 hk HGN EG
 go_enter Tryz.func17, Tryz.ntmps17
 go_wp2_with fail; refine HO.mono ?_; rintro e w1 ⟨rfl, hb1, hs1, hR1⟩
 have HB1 : Hid (Below w.heap.size w w1 ∧ w1.heap.size = w.heap.size + 1) := ⟨hb1, hs1⟩
 have HRW : Hid (w.heap.size < w1.heap.size) := by show _ < _; omega
 have HC1 := HX.out w1 w.heap.size hR1; clear hb1 hs1 hR1 HO; go_wp2_with fail; refine HC1.mono ?_; rintro e w2 ⟨rfl, hk2, hs2, hR2⟩; have HK2 : Hid (Keep w.heap.size (w.heap.size + 1) w1 w2) := hk2; have HC2 := HNM.out w2 w.heap.size hR2; clear hk2 hs2 hR2 HC1; go_wp2_with fail; refine HC2.mono ?_; rintro e w3 ⟨g3, n3, c3, rfl, hn3, hk3, hR3, ho3⟩
 have HT3 : Hid (TxS w1 w.heap.size p c ys i2 w3 (some ⟨g3, 0, none⟩) n3 c3 (nmD ys i1)) := ⟨ho3.mono HK2.out.size, HK2.out.trans hk3, by rw [HEI.out]; exact hR3⟩
 have HL3 : Hid (n3 ≤ 11) := by have := ho3.1; have := (nmD_good ys i1).2; unfold nmD at this; show _ ≤ _; omega
 clear hn3 hk3 hR3 ho3 HC2; have HO : Hid _ := AtOut.of HB1.out.1 HB1.out.2 rfl HT3.out; go_wp2_with fail; go_ret; exact HO.out
theorem drawPlain_any (p : Option Addr) (c n : Nat) (xs : List Int) (w : World) (hb : Bytes xs) (hn : xs.length ≤ 1048576) (hc : xs.length ≤ c) (hx : BIn w p xs) (en : n = xs.length) :
 Calls Tryz.prog 17 #[.slice p n c] w (AtOut w (dqF xs)) := by
 by_cases h0 : (rdI (xs.take 500) 0).toNat % 4 = 0
 ·exact dq_two p c n xs w hb hn hc hx en h0
 by_cases h1 : (rdI (xs.take 500) 0).toNat = 5
 ·exact dq_fill p c n xs w hb hn hc hx en h1
 by_cases h2 : (rdI (xs.take 500) 0).toNat % 16 = 1
 ·exact dq_one p c n xs w hb hn hc hx en ⟨h0, h1, h2⟩
 ·exact dq_name p c n xs w hb hn hc hx en ⟨h0, h1, h2⟩
theorem drawQuote_any (p : Option Addr) (c n : Nat) (xs : List Int) (w : World) (hb : Bytes xs) (hn : xs.length ≤ 1048576) (hc : xs.length ≤ c) (hx : BIn w p xs) (en : n = xs.length) :
 Calls Tryz.prog 8 #[.slice p n c] w (AtOut w (dqF xs)) := by
 have HP := drawPlain_any p c n xs w hb hn hc hx en
 generalize dqF xs = Z at HP ⊢
 clear hb hn hc hx en
 go_enter Tryz.func8, Tryz.ntmps8
 go_wp2_with fail; refine HP.mono ?_; rintro e w1 ⟨q, m, cap, rfl, ho, hb⟩
 have HO : Hid (AtOut w Z (.returned (.slice q m cap)) w1) := ⟨q, m, cap, rfl, ho, hb⟩
 clear ho hb HP; go_wp2_with fail; go_ret; exact HO.out
theorem sameBF_any (p q : Option Addr) (n c1 c2 : Nat) (zs : List Int) (w : World) (en : n = zs.length) (hl : n ≤ 10000000) (h1 : BIn w p zs) (h2 : BIn w q zs) :
 Calls Tryz.prog 7 #[.slice p n c1, .slice q n c2] w fun e w' => e = .returned (.bool true) ∧ Below w.heap.size w w' := by
 subst en; refine (sameB_any p q c1 c2 zs zs w (by omega) (by omega) h1 h2).mono ?_; rintro e w' ⟨rfl, m, rfl⟩; exact ⟨by simp, ⟨rfl, rfl, rfl, Nat.le_refl _, fun _ _ => rfl⟩⟩
end
section
open Go Go.RowKit
def byteI (xs : List Int) (i : Nat) : Int := if i < xs.length then xs.getD i 0 else -1
theorem byteI_lt {xs : List Int} {i : Nat} (h : i < xs.length) : byteI xs i = xs.getD i 0 := by unfold byteI; rw [if_pos h]
theorem byteI_ge {xs : List Int} {i : Nat} (h : xs.length ≤ i) : byteI xs i = -1 := by unfold byteI; rw [if_neg (by omega)]
theorem byteI_rng {xs : List Int} (hb : Bytes xs) (i : Nat) : -1 ≤ byteI xs i ∧ byteI xs i < 256 := by
 unfold byteI; split
 ·have := hb.at i; omega
 ·omega
theorem byteAt_any (S b n c : Nat) (xs : List Int) (at_ : Nat) (w : World) (hb : Bytes xs) (hn : n = xs.length) (hm : n ≤ 1000000) (ha : at_ ≤ 10000000)
 (h0 : w.cell? ⟨S, 0, none⟩ = some (.slice (some ⟨b, 0, none⟩) n c)) (hc : ∀ i, i < xs.length → w.cell? ⟨b, i, none⟩ = some (.int .u8 (xs.getD i 0))) :
 Calls Tryz.prog 67 #[.pointer (some ⟨S, 0, none⟩), .int .i64 at_] w fun e w' => e = .returned (.int .i64 (byteI xs at_)) ∧ w' = w := by
 by_cases h : at_ < xs.length
 ·rw [byteI_lt h]
  have hx := hc at_ h; have hr := hb.at at_
  have hlt : at_ < n := by omega
  obtain ⟨x, ex⟩ : ∃ x, x = xs.getD at_ 0 := ⟨_, rfl⟩
  rw [← ex] at hx hr ⊢; clear ex hc hn
  go_enter Tryz.func67, Tryz.ntmps67
  go_wp2
  go_ret; exact ⟨rfl, rfl⟩
 ·rw [byteI_ge (by omega)]
  have hge : n ≤ at_ := by omega
  clear hc hn
  go_enter Tryz.func67, Tryz.ntmps67
  go_wp2
  go_ret; exact ⟨rfl, rfl⟩
def digI (b : Int) : Int := if 48 ≤ b ∧ b ≤ 57 then b - 48 else if 97 ≤ b ∧ b ≤ 102 then b - 87 else if 65 ≤ b ∧ b ≤ 70 then b - 55 else 16
theorem digitValue_any (b : Int) (w : World) (h0 : -1 ≤ b) (h1 : b < 256) : Calls Tryz.prog 113 #[.int .i64 b] w fun e w' => e = .returned (.int .i64 (digI b)) ∧ w' = w := by
 by_cases a : 48 ≤ b ∧ b ≤ 57
 ·rw [show digI b = b - 48 by unfold digI; rw [if_pos a]]
  obtain ⟨a1, a2⟩ := a
  go_enter Tryz.func113, Tryz.ntmps113
  go_wp2
  go_ret; exact ⟨rfl, rfl⟩
 by_cases a2 : 97 ≤ b ∧ b ≤ 102
 ·rw [show digI b = b - 87 by unfold digI; rw [if_neg a, if_pos a2]]
  obtain ⟨a3, a4⟩ := a2
  have t1 : decide (48 ≤ b) = true := by rw [decide_eq_true_iff]; omega
  have t2 : decide (b ≤ 57) = false := by rw [decide_eq_false_iff_not]; omega
  clear a
  go_enter Tryz.func113, Tryz.ntmps113
  go_wp2
  go_ret; exact ⟨ret_int (by omega), rfl⟩
 by_cases a3 : 65 ≤ b ∧ b ≤ 70
 ·rw [show digI b = b - 55 by unfold digI; rw [if_neg a, if_neg a2, if_pos a3]]
  obtain ⟨a4, a5⟩ := a3
  have t1 : decide (48 ≤ b) = true := by rw [decide_eq_true_iff]; omega
  have t2 : decide (b ≤ 57) = false := by rw [decide_eq_false_iff_not]; omega
  have t3 : decide (97 ≤ b) = false := by rw [decide_eq_false_iff_not]; omega
  clear a a2
  go_enter Tryz.func113, Tryz.ntmps113
  go_wp2
  go_ret; exact ⟨ret_int (by omega), rfl⟩
 ·rw [show digI b = 16 by unfold digI; rw [if_neg a, if_neg a2, if_neg a3]]
  have t1 : (decide (48 ≤ b) && decide (b ≤ 57)) = false := by simp; omega
  have t2 : (decide (97 ≤ b) && decide (b ≤ 102)) = false := by simp; omega
  have t3 : (decide (65 ≤ b) && decide (b ≤ 70)) = false := by simp; omega
  go_enter Tryz.func113, Tryz.ntmps113
  go_wp2
  all_goals go_ret
  all_goals exact ⟨rfl, rfl⟩
theorem standsFor_any (b : Int) (w : World) (h0 : -1 ≤ b) (h1 : b < 256) : Calls Tryz.prog 94 #[.int .i64 b] w fun e w' => e = .returned (.bool (decide (32 ≤ b ∧ b ≠ 127))) ∧ w' = w := by
 by_cases a : 32 ≤ b
 ·go_enter Tryz.func94, Tryz.ntmps94
  go_wp2
  go_ret; exact ⟨ret_bool (by rw [Bool.eq_iff_iff]; simp [a]), rfl⟩
 ·have t1 : decide (32 ≤ b) = false := by rw [decide_eq_false_iff_not]; omega
  go_enter Tryz.func94, Tryz.ntmps94
  go_wp2
  go_ret; exact ⟨ret_bool (by first | rfl | (rw [eq_comm, decide_eq_false_iff_not]; omega)), rfl⟩
def baseI (b : Int) : Int := if b = 120 then 16 else if b = 111 then 8 else if b = 98 then 2 else 0
theorem baseOf_any (b : Int) (w : World) (h0 : -1 ≤ b) (h1 : b < 256) : Calls Tryz.prog 112 #[.int .i64 b] w fun e w' => e = .returned (.int .i64 (baseI b)) ∧ w' = w := by
 by_cases a : b = 120
 ·subst a
  go_enter Tryz.func112, Tryz.ntmps112
  go_wp2
  go_ret; exact ⟨rfl, rfl⟩
 by_cases a2 : b = 111
 ·subst a2
  clear a
  go_enter Tryz.func112, Tryz.ntmps112
  go_wp2
  go_ret; exact ⟨rfl, rfl⟩
 by_cases a3 : b = 98
 ·subst a3
  clear a a2
  go_enter Tryz.func112, Tryz.ntmps112
  go_wp2
  go_ret; exact ⟨rfl, rfl⟩
 ·rw [show baseI b = 0 by unfold baseI; rw [if_neg a, if_neg a2, if_neg a3]]
  have t1 : (b == 120) = false := by simpa using a
  have t2 : (b == 111) = false := by simpa using a2
  have t3 : (b == 98) = false := by simpa using a3
  clear a a2 a3
  go_enter Tryz.func112, Tryz.ntmps112
  go_wp2
  go_ret; exact ⟨rfl, rfl⟩
def endsI (b : Int) : Bool := decide (b = -1 ∨ b = 37 ∨ b = 32 ∨ b = 9 ∨ b = 10 ∨ b = 13)
theorem isOf16_all : (List.range 257).all (fun c => isOfB ((c : Int) - 1) 16 == decide (((c : Int) - 1) = 32 ∨ ((c : Int) - 1) = 9 ∨ ((c : Int) - 1) = 10 ∨ ((c : Int) - 1) = 13)) = true := by decide +kernel
theorem isOf16 {b : Int} (h0 : -1 ≤ b) (h1 : b < 256) : isOfB b 16 = decide (b = 32 ∨ b = 9 ∨ b = 10 ∨ b = 13) := by
 have h := List.all_eq_true.1 isOf16_all (b + 1).toNat (by simp; omega); rw [show (((b + 1).toNat : Nat) : Int) - 1 = b by omega] at h
 simpa using h
theorem endsBehind_any (S b n c : Nat) (xs : List Int) (at_ : Nat) (w : World) (hb : Bytes xs) (hn : n = xs.length) (hm : n ≤ 1000000) (ha : at_ ≤ 10000000)
 (h0 : w.cell? ⟨S, 0, none⟩ = some (.slice (some ⟨b, 0, none⟩) n c)) (hc : ∀ i, i < xs.length → w.cell? ⟨b, i, none⟩ = some (.int .u8 (xs.getD i 0))) (hT : Tab w) :
 Calls Tryz.prog 72 #[.pointer (some ⟨S, 0, none⟩), .int .i64 at_] w fun e w' => e = .returned (.bool (endsI (byteI xs at_))) ∧ w' = w := by
 have HC : Hid (∀ i, i < xs.length → w.cell? ⟨b, i, none⟩ = some (.int .u8 (xs.getD i 0))) := hc; have HT : Hid (Tab w) := hT; have HN : Hid (n = xs.length) := hn; have hr := byteI_rng hb at_; have hk := isOf16 hr.1 hr.2; clear hc hT hn
 obtain ⟨x, ex⟩ : ∃ x, x = byteI xs at_ := ⟨_, rfl⟩
 rw [← ex] at hr hk ⊢; have HX : Hid (byteI xs at_ = x) := ex.symm; clear ex
 have arm : ∀ r : Bool, endsI x = r → Hid (endsI x = r) := fun _ h => h
 by_cases a : x = -1
 ·have E := arm true (by simp [endsI, a])
  subst a
  go_enter Tryz.func72, Tryz.ntmps72
  go_wp2_with (go_at_call 67; refine (byteAt_any S b n c xs at_ _ hb HN.out hm ha h0 HC.out).mono ?_; rintro e w' ⟨rfl, rfl⟩; rw [HX.out]); go_ret; exact ⟨ret_bool E.out.symm, rfl⟩
 by_cases a2 : x = 37
 ·have E := arm true (by simp [endsI, a2])
  subst a2; clear a
  go_enter Tryz.func72, Tryz.ntmps72
  go_wp2_with (go_at_call 67; refine (byteAt_any S b n c xs at_ _ hb HN.out hm ha h0 HC.out).mono ?_; rintro e w' ⟨rfl, rfl⟩; rw [HX.out]); go_ret; exact ⟨ret_bool E.out.symm, rfl⟩
 ·have E := arm (isOfB x 16) (by rw [hk]; simp [endsI, a, a2])
  have t1 : (x == -1) = false := by simpa using a
  have t2 : (x == 37) = false := by simpa using a2
  clear a a2 hk
  go_enter Tryz.func72, Tryz.ntmps72
  go_wp2_with (first | (go_at_call 67; refine (byteAt_any S b n c xs at_ _ hb HN.out hm ha h0 HC.out).mono ?_; rintro e w' ⟨rfl, rfl⟩; rw [HX.out]) | (go_at_call 43; refine (isOf_any _ _ _ (by omega) (by omega) HT.out).mono ?_; rintro e w' ⟨rfl, rfl⟩)); go_ret; exact ⟨ret_bool E.out.symm, rfl⟩
def digsB (xs : List Int) (base : Int) : Nat → Nat → Int → Int × Nat
 | 0, i, v => (v, i)
 | f + 1, i, v => if digI (byteI xs i) < base then digsB xs base f (i + 1) (min (v * base + digI (byteI xs i)) 1000000000000001) else (v, i)
theorem digs_end (xs : List Int) (base : Int) (hbs : base ≤ 16) : ∀ (f i : Nat) (v : Int), xs.length ≤ i + f → ∀ g, digsB xs base (f + g) i v = digsB xs base f i v
 | 0, i, v, h, 0 => rfl
 | 0, i, v, h, g + 1 => by
   have : digI (byteI xs i) = 16 := by rw [byteI_ge (by omega)]; rfl
   have e : (0 : Nat) + (g + 1) = g + 1 := by omega
   rw [e]
   unfold digsB
   rw [if_neg (by omega)]
 | f + 1, i, v, h, g => by
   have e : f + 1 + g = (f + g) + 1 := by omega
   rw [e]
   unfold digsB
   split
   ·exact digs_end xs base hbs f (i + 1) _ (by omega) g
   ·rfl
theorem digs_step (xs : List Int) (base : Int) (hbs : base ≤ 16) (k : Nat) (v : Int) (h : digI (byteI xs k) < base) : digsB xs base xs.length k v = digsB xs base xs.length (k + 1) (min (v * base + digI (byteI xs k)) 1000000000000001) := by
 have hk : k < xs.length := by
  rcases Nat.lt_or_ge k xs.length with h' | h'
  ·exact h'
  ·rw [byteI_ge h'] at h; have : digI (-1) = 16 := rfl; omega
 obtain ⟨m, em⟩ : ∃ m, xs.length = m + 1 := ⟨xs.length - 1, by omega⟩
 have e1 : digsB xs base (m + 1) k v = digsB xs base m (k + 1) (min (v * base + digI (byteI xs k)) 1000000000000001) := by
  show (if digI (byteI xs k) < base then _ else _) = _
  rw [if_pos h]
 rw [em, e1, digs_end xs base hbs m (k + 1) _ (by omega) 1]
theorem digs_stop (xs : List Int) (base : Int) (k : Nat) (v : Int) (h : ¬ digI (byteI xs k) < base) : digsB xs base xs.length k v = (v, k) := by
 cases e : xs.length with
 | zero => rfl
 | succ m => unfold digsB; rw [if_neg h]
theorem digI_rng (b : Int) : 0 ≤ digI b ∧ digI b ≤ 16 := by
 unfold digI
 repeat' split
 all_goals omega
theorem digits_any (S b n c : Nat) (xs : List Int) (at_ : Nat) (base : Int) (w : World) (hb : Bytes xs) (hn : n = xs.length) (hm : n ≤ 1000000) (ha : at_ ≤ 1000010) (hb0 : 0 ≤ base) (hb1 : base ≤ 16)
 (h0 : w.cell? ⟨S, 0, none⟩ = some (.slice (some ⟨b, 0, none⟩) n c)) (hc : ∀ i, i < xs.length → w.cell? ⟨b, i, none⟩ = some (.int .u8 (xs.getD i 0))) :
 Calls Tryz.prog 110 #[.pointer (some ⟨S, 0, none⟩), .int .i64 at_, .int .i64 base] w fun e w' => e = .returned (.tuple #[.int .i64 (digsB xs base xs.length at_ 0).1, .int .i64 (digsB xs base xs.length at_ 0).2]) ∧ w' = w := by
 have HC : Hid (∀ i, i < xs.length → w.cell? ⟨b, i, none⟩ = some (.int .u8 (xs.getD i 0))) := hc; have HN : Hid (n = xs.length) := hn; clear hc hn
 go_enter Tryz.func110, Tryz.ntmps110
 go_wp2
 go_loop [1, 8] (fun i q => ∃ (k : Nat) (v : Int), i = .int .i64 k ∧ q = .int .i64 v ∧ 0 ≤ v ∧ v ≤ 1000000000000001 ∧ k ≤ 2000010 ∧ Hid (k ≤ xs.length + at_) ∧ Hid (digsB xs base xs.length at_ 0 = digsB xs base xs.length k v)) (fun i _ => 3000000 - (intOf i).toNat)
 case atStart => exact ⟨at_, 0, rfl, rfl, by decide, by decide, by omega, Nat.le_add_left _ _, rfl⟩
 case round =>
  obtain ⟨k, v, rfl, rfl, hv0, hv1, hk, HL, HE⟩ := hrel; have hr := byteI_rng hb k; have hd := digI_rng (byteI xs k)
  obtain ⟨x, ex⟩ : ∃ x, x = byteI xs k := ⟨_, rfl⟩
  rw [← ex] at hr hd; have HX : Hid (byteI xs k = x) := ex.symm
  obtain ⟨d, ed⟩ : ∃ d, d = digI x := ⟨_, rfl⟩
  rw [← ed] at hd; have HD : Hid (digI x = d) := ed.symm; clear ex ed
  by_cases hlt : d < base
  ·have hmul : v * base ≤ 1000000000000001 * 16 := by
    have := Int.mul_le_mul hv1 hb1 hb0 (by decide)
    omega
   have hmul0 : 0 ≤ v * base := Int.mul_nonneg hv0 hb0
   obtain ⟨z, ez⟩ : ∃ z, z = v * base := ⟨_, rfl⟩
   have HK : Hid (k < xs.length) := by
    rcases Nat.lt_or_ge k xs.length with h' | h'
    ·exact h'
    ·have := HX.out; rw [byteI_ge h'] at this; have h3 := HD.out; rw [← this] at h3; have : digI (-1) = 16 := rfl; omega
   have HS : Hid (digsB xs base xs.length at_ 0 = digsB xs base xs.length (k + 1) (min (z + d) 1000000000000001)) := by
    show _ = _
    rw [HE.out, digs_step xs base hb1 k v (by rw [HX.out, HD.out]; exact hlt), HX.out, HD.out, ez]
   rw [← ez] at hmul hmul0; have hz : v * base = z := ez.symm; clear ez HE
   have hk' : k < n := by rw [HN.out]; exact HK.out
   go_wp2_with (first | (go_at_call 67; refine (byteAt_any S b n c xs k _ hb HN.out hm (by omega) h0 HC.out).mono ?_; rintro e w' ⟨rfl, rfl⟩; rw [HX.out]) | (go_at_call 113; refine (digitValue_any x _ hr.1 hr.2).mono ?_; rintro e w' ⟨rfl, rfl⟩; rw [HD.out]))
   go_round
   case rel =>
    have hmin : min (z + d) 1000000000000001 = if 1000000000000001 < z + d then 1000000000000001 else z + d := by split <;> omega
    exact ⟨k + 1, _, by go_num, rfl, by split <;> omega, by split <;> omega, by omega, by have := HK.out; show _ ≤ _; omega, by rw [← hmin]; exact HS⟩
   case measure => simp [intOf]; omega
  ·go_wp2_with (first | (go_at_call 67; refine (byteAt_any S b n c xs k _ hb HN.out hm (by omega) h0 HC.out).mono ?_; rintro e w' ⟨rfl, rfl⟩; rw [HX.out]) | (go_at_call 113; refine (digitValue_any x _ hr.1 hr.2).mono ?_; rintro e w' ⟨rfl, rfl⟩; rw [HD.out]))
   go_ret2
   refine ⟨?_, rfl⟩; rw [HE.out, digs_stop xs base k v (by rw [HX.out, HD.out]; omega)]
   rfl
end
end Go.Proofs.YtfgmenkoeflhaaaGreatDoor
