/- Texts of Dt9, Dt10. Own work of the verifier. -/
import Derived.Test.YtdmmchoicngblaaGreatDoorUqaj
namespace Go.Proofs.YtdmmchoicngblaaGreatDoor
set_option maxRecDepth 100000
open Go Go.RowKit
set_option linter.unusedVariables false
def SpoilOut (w : World) (B R : Nat) (p : Option Addr) (c : Nat) (xs : List Int) (res : List Cel × Nat) (e : Ending) (w' : World) : Prop :=
 ∃ q n cap, e = .returned (.slice q n cap) ∧ OwnC w' B q n cap res.1 ∧ Kb B R w w' ∧ RdIn w' R p c xs res.2
theorem OwnC.low2 {w w' : World} {B n c : Nat} {p : Option Addr} {cs : List Cel} (h : OwnC w B p n c cs) (hb : Below w.heap.size w w') : ∀ rs : List RC, rs.length = cs.length → w'.ownsRow B 55 3 (.slice p n c) n (flat rs) → ∀ i, i < rs.length → 0 < (rs.getD i RC.zero).2.2.2.1 → ∀ a, (rs.getD i RC.zero).2.2.1 = some a → a.block < w.heap.size := by
 intro rs hl hr
 refine h.low rs hl ⟨hr.1, ?_⟩
 rcases hr.2 with h' | ⟨g, cap, cur, hv, hB, hg, r⟩
 ·exact .inl h'
 ·refine .inr ⟨g, cap, cur, hv, hB, ?_, r⟩
  simp only [Value.slice.injEq] at hv; obtain ⟨hn, rs0, hl0, hr0, _⟩ := h; have hlt := (hr0.lt g (by rw [hv.1]; rfl)).2; exact (hb.block g hlt).symm.trans hg
theorem one_newsF (w : World) (y : Int) : ∀ j u, ([y].map (Value.int .u8))[j]? = some u → (w.alloc (.cells #[.int .u8 y] 5)).cell? ((⟨w.heap.size, 0, none⟩ : Addr).add j) = some u := fun j u hu => by
 match j, hu with
 | 0, hu => simp at hu; rw [← hu]; simp [Addr.add, World.cell?_alloc_new]
 | j + 1, hu => simp at hu
theorem l4fill_any (m : Nat) (hm : m ≤ 1000) (w : World) : Calls Tryz.prog 115 #[.int .u8 116, .int .i64 m] w fun e w' => ∃ p n c, e = .returned (.slice p n c) ∧ OwnS w' w.heap.size p n c (List.replicate m 116) ∧ Below w.heap.size w w' := by
 go_enter Tryz.func115, Tryz.ntmps115
 go_wp2_with fail
 go_loopw [5, 6] (fun s i wr => ∃ (j n c : Nat) (p : Option Addr), j ≤ m ∧ n = j ∧ i = .int .i64 j ∧ s = .slice p n c ∧ Hid (OwnS wr w.heap.size p n c (List.replicate j 116)) ∧ Hid (Below w.heap.size w wr)) (fun _ i _ => m - (intOf i).toNat)
 case atStart => exact ⟨0, 0, 0, none, Nat.zero_le _, rfl, rfl, rfl, OwnS.nil _ _, Below.refl _ _⟩
 case round =>
  obtain ⟨j, n, c, p, hj, rfl, rfl, rfl, HO, HB⟩ := hrel; have hBs : w.heap.size ≤ wr.heap.size := HB.out.size
  by_cases hlt : n < m
  ·go_wp2_with (at_builtin; refine app_bytes _ rfl _ _ rfl w.heap.size p n c _ [116] 1 rfl rfl (HO.out.alloc _) ⟨wr.heap.size, 0, none⟩ 1 rfl (one_newsF wr 116) (by omega) (by omega) (by simp; omega) ?_; intro g4 n4 cap4 w4 hown4 hb4 hn4)
   have HO4 : Hid (OwnS w4 w.heap.size (some ⟨g4, 0, none⟩) n4 cap4 (List.replicate (n + 1) 116)) := by rw [List.replicate_succ']; exact hown4
   have HB4 : Hid (Below w.heap.size w w4) := (HB.out.alloc hBs _).trans hb4; have hn4' : n4 = n + 1 := hn4.out; clear hown4 hb4 hn4; subst hn4'; go_roundw
   case rel => exact ⟨n + 1, n + 1, cap4, _, by omega, rfl, by go_num, rfl, HO4, HB4⟩
   case measure => simp [intOf]; omega
  ·obtain rfl : n = m := by omega
   go_wp2_with fail; go_ret; exact ⟨_, _, _, rfl, HO.out, HB.out⟩
set_option maxHeartbeats 2000000 in
theorem spoil_0 (R c i : Nat) (p : Option Addr) (xs : List Int) (B g n cp : Nat) (cs : List Cel) (w : World) (h : RdIn w R p c xs i) (hRB : R < B) (hBw : B ≤ w.heap.size) (ho : OwnC w B (some ⟨g, 0, none⟩) n cp cs) (h0 : 0 < cs.length) (hl : cs.length ≤ 600) (hnum : NumC cs) (hk : (rdI xs i).toNat % 9 = 0) :
  Calls Tryz.prog 40 #[.slice (some ⟨g, 0, none⟩) n cp, .pointer (some ⟨R, 0, none⟩)] w (SpoilOut w B R p c xs (spoilF xs cs i)) := by
 have HH : Hid (RdIn w R p c xs i) := h; have HO : Hid (OwnC w B (some ⟨g, 0, none⟩) n cp cs) := ho; have hn : n = cs.length := ho.1; have hcap := ho.cap
 have hgB : B ≤ g ∧ g < w.heap.size := by obtain ⟨g', e, h1, h2⟩ := ho.at0 h0; cases e; exact ⟨h1, h2⟩
 have hr := rdI_rng h.bytes i; have hr1 := rdI_rng h.bytes (rdN xs i); have hr2 := rdI_rng h.bytes (rdN xs (rdN xs i))
 obtain ⟨res, er⟩ : ∃ res, res = spoilF xs cs i := ⟨_, rfl⟩
 rw [← er]; have HER : Hid (res = spoilF xs cs i) := er
 obtain ⟨i1, ei⟩ : ∃ i1, i1 = rdN xs i := ⟨_, rfl⟩
 obtain ⟨i2, ei2⟩ : ∃ i2, i2 = rdN xs i1 := ⟨_, rfl⟩
 rw [← ei] at hr1 hr2; rw [← ei2] at hr2
 obtain ⟨x, ex⟩ : ∃ x : Nat, rdI xs i = x := ⟨(rdI xs i).toNat, by omega⟩
 obtain ⟨u, eu⟩ : ∃ u : Nat, rdI xs i1 = u := ⟨(rdI xs i1).toNat, by omega⟩
 obtain ⟨y, ey⟩ : ∃ y : Nat, rdI xs i2 = y := ⟨(rdI xs i2).toNat, by omega⟩
 have hx9 : (x : Int).tmod 9 = 0 := by rw [Int.tmod_eq_emod_of_nonneg (by omega)]; rw [ex] at hk; omega
 have hx : x < 256 := by omega
 have hu : u < 256 := by omega
 have hy : y < 256 := by omega
 obtain ⟨a, ea⟩ : ∃ a, a = u % cs.length := ⟨_, rfl⟩
 have hal : a < cs.length := by rw [ea]; exact Nat.mod_lt _ h0
 have han : a < n := by omega
 have hn0 : ((n : Int) == 0) = false := by rw [beq_eq_false_iff_ne]; omega
 have hma : (u : Int).tmod (n : Int) = (a : Int) := by rw [ea, hn, Int.tmod_eq_emod_of_nonneg (by omega)]; rfl
 have hn600 : n ≤ 600 := by omega
 obtain ⟨z, ez⟩ : ∃ z, z = y % 6 := ⟨_, rfl⟩
 have hz : z < 6 := by omega
 have hmz : (y : Int).tmod 6 = (z : Int) := by rw [ez, Int.tmod_eq_emod_of_nonneg (by omega)]; rfl
 have HV : Hid (res = (cs.set a ((z : Int) - 1, (cs.getD a Cel.none).2.1, (cs.getD a Cel.none).2.2), rdN xs i2)) := by
  show _ = _
  rw [HER.out]
  unfold spoilF
  simp only; rw [← ei, ← ei2, eu, ey, Int.toNat_natCast, Int.toNat_natCast, ← ea, ← ez, hk]
  first | rfl | (rw [if_pos rfl])
 have HN1 : Hid (∀ W, RdIn W R p c xs i → Calls Tryz.prog 19 #[.pointer (some ⟨R, 0, none⟩)] W fun e w' => e = .returned (.int .i64 (x : Int)) ∧ Keep R (R + 1) W w' ∧ w'.heap.size = W.heap.size ∧ RdIn w' R p c xs i1) := fun W hW => by
  have := next_any R c i p xs W hW; rw [ex, ← ei] at this; exact this
 have HN2 : Hid (∀ W, RdIn W R p c xs i1 → Calls Tryz.prog 19 #[.pointer (some ⟨R, 0, none⟩)] W fun e w' => e = .returned (.int .i64 (u : Int)) ∧ Keep R (R + 1) W w' ∧ w'.heap.size = W.heap.size ∧ RdIn w' R p c xs i2) := fun W hW => by
  have := next_any R c i1 p xs W hW; rw [eu, ← ei2] at this; exact this
 have HN3 : Hid (∀ W, RdIn W R p c xs i2 → Calls Tryz.prog 19 #[.pointer (some ⟨R, 0, none⟩)] W fun e w' => e = .returned (.int .i64 (y : Int)) ∧ Keep R (R + 1) W w' ∧ w'.heap.size = W.heap.size ∧ RdIn w' R p c xs (rdN xs i2)) := fun W hW => by
  have := next_any R c i2 p xs W hW; rw [ey] at this; exact this
 have HAL : Hid (a < cs.length) := hal; have HNE : Hid (n = cs.length) := hn; clear h ho er ei ei2 ex eu ey ea hn hk hnum h0 hl hr hr1 hr2 hal ez
 go_enter Tryz.func40, Tryz.ntmps40
 go_wp2_with fail; refine (HN1.out w HH.out).mono ?_; rintro e w2 ⟨rfl, hk2, hs2, hR2⟩; have HR2 : Hid (RdIn w2 R p c xs i1) := hR2; have HK2 : Hid (Keep R (R + 1) w w2) := hk2; clear hk2 hs2 hR2; go_wp2_with fail; refine (HN2.out w2 HR2.out).mono ?_; rintro e w3 ⟨rfl, hk3, hs3, hR3⟩; have HR3 : Hid (RdIn w3 R p c xs i2) := hR3; have HK3 : Hid (Keep R (R + 1) w w3) := HK2.out.trans hk3; have HO3 : Hid (OwnC w3 B (some ⟨g, 0, none⟩) n cp cs) := HO.out.keepR HK3.out hRB; have hB3 : B ≤ w3.heap.size := Nat.le_trans hBw HK3.out.size; clear hk3 hs3 hR3; go_wp2_with fail; refine (HN3.out w3 HR3.out).mono ?_; rintro e w4 ⟨rfl, hk4, hs4, hR4⟩; have HR4 : Hid (RdIn w4 R p c xs (rdN xs i2)) := hR4; have HK4 : Hid (Keep R (R + 1) w w4) := HK3.out.trans hk4; have HO4 : Hid (OwnC w4 B (some ⟨g, 0, none⟩) n cp cs) := HO.out.keepR HK4.out hRB; have hB4 : B ≤ w4.heap.size := Nat.le_trans hBw HK4.out.size
 clear hk4 hs4 hR4; obtain ⟨k0, k1, ⟨tq, tk, td, k2⟩, kf⟩ := HO4.out.cells HAL.out; have kf0 := kf (a * 3); have kf1 := kf (a * 3 + 1); have kf2 := kf (a * 3 + 2); clear kf
 have FIN : Hid (SpoilOut w B R p c xs ((cs.set a ((z : Int) - 1, (cs.getD a Cel.none).2.1, (cs.getD a Cel.none).2.2), rdN xs i2)) (.returned (.slice (some ⟨g, 0, none⟩) n cp)) (w4.setCell ⟨g, a * 3, none⟩ (.int .i64 ((z : Int) - 1)))) := ⟨_, _, _, rfl, HO4.out.setK HAL.out _, (Kb.of_keep HK4.out hBw).trans (Kb.of_below (Below.setCell (Below.refl _ _) hgB.1 _)), HR4.out.below (Below.setCell (Below.refl _ _) hgB.1 _) hRB⟩
 clear hB3; go_wp2_with fail; go_ret; rw [HV.out]; exact FIN.out
set_option maxHeartbeats 2000000 in
theorem spoil_1 (R c i : Nat) (p : Option Addr) (xs : List Int) (B g n cp : Nat) (cs : List Cel) (w : World) (h : RdIn w R p c xs i) (hRB : R < B) (hBw : B ≤ w.heap.size) (ho : OwnC w B (some ⟨g, 0, none⟩) n cp cs) (h0 : 0 < cs.length) (hl : cs.length ≤ 600) (hnum : NumC cs) (hk : (rdI xs i).toNat % 9 = 1) :
  Calls Tryz.prog 40 #[.slice (some ⟨g, 0, none⟩) n cp, .pointer (some ⟨R, 0, none⟩)] w (SpoilOut w B R p c xs (spoilF xs cs i)) := by
 have HH : Hid (RdIn w R p c xs i) := h; have HO : Hid (OwnC w B (some ⟨g, 0, none⟩) n cp cs) := ho; have hn : n = cs.length := ho.1; have hcap := ho.cap
 have hgB : B ≤ g ∧ g < w.heap.size := by obtain ⟨g', e, h1, h2⟩ := ho.at0 h0; cases e; exact ⟨h1, h2⟩
 have hr := rdI_rng h.bytes i; have hr1 := rdI_rng h.bytes (rdN xs i); have hr2 := rdI_rng h.bytes (rdN xs (rdN xs i))
 obtain ⟨res, er⟩ : ∃ res, res = spoilF xs cs i := ⟨_, rfl⟩
 rw [← er]; have HER : Hid (res = spoilF xs cs i) := er
 obtain ⟨i1, ei⟩ : ∃ i1, i1 = rdN xs i := ⟨_, rfl⟩
 obtain ⟨i2, ei2⟩ : ∃ i2, i2 = rdN xs i1 := ⟨_, rfl⟩
 rw [← ei] at hr1 hr2; rw [← ei2] at hr2
 obtain ⟨x, ex⟩ : ∃ x : Nat, rdI xs i = x := ⟨(rdI xs i).toNat, by omega⟩
 obtain ⟨u, eu⟩ : ∃ u : Nat, rdI xs i1 = u := ⟨(rdI xs i1).toNat, by omega⟩
 obtain ⟨y, ey⟩ : ∃ y : Nat, rdI xs i2 = y := ⟨(rdI xs i2).toNat, by omega⟩
 have hx9 : (x : Int).tmod 9 = 1 := by rw [Int.tmod_eq_emod_of_nonneg (by omega)]; rw [ex] at hk; omega
 have hx : x < 256 := by omega
 have hu : u < 256 := by omega
 have hy : y < 256 := by omega
 obtain ⟨a, ea⟩ : ∃ a, a = u % cs.length := ⟨_, rfl⟩
 have hal : a < cs.length := by rw [ea]; exact Nat.mod_lt _ h0
 have han : a < n := by omega
 have hn0 : ((n : Int) == 0) = false := by rw [beq_eq_false_iff_ne]; omega
 have hma : (u : Int).tmod (n : Int) = (a : Int) := by rw [ea, hn, Int.tmod_eq_emod_of_nonneg (by omega)]; rfl
 have hn600 : n ≤ 600 := by omega
 obtain ⟨v, ev⟩ : ∃ v, v = (cs.getD a Cel.none).2.1 := ⟨_, rfl⟩
 have hv : -1000000000000000 ≤ v ∧ v ≤ 1000000000000000 := by
  rw [ev, List.getD, List.getElem?_eq_getElem hal]; exact hnum _ (List.getElem_mem hal)
 have HV : Hid (res = (cs.set a ((cs.getD a Cel.none).1, v + 1, (cs.getD a Cel.none).2.2), i2)) := by
  show _ = _
  rw [HER.out]
  unfold spoilF
  simp only; rw [← ei, ← ei2, eu, ey, Int.toNat_natCast, Int.toNat_natCast, ← ea, ← ev, hk]
  first | rfl | (rw [if_neg (by decide), if_pos rfl])
 have HN1 : Hid (∀ W, RdIn W R p c xs i → Calls Tryz.prog 19 #[.pointer (some ⟨R, 0, none⟩)] W fun e w' => e = .returned (.int .i64 (x : Int)) ∧ Keep R (R + 1) W w' ∧ w'.heap.size = W.heap.size ∧ RdIn w' R p c xs i1) := fun W hW => by
  have := next_any R c i p xs W hW; rw [ex, ← ei] at this; exact this
 have HN2 : Hid (∀ W, RdIn W R p c xs i1 → Calls Tryz.prog 19 #[.pointer (some ⟨R, 0, none⟩)] W fun e w' => e = .returned (.int .i64 (u : Int)) ∧ Keep R (R + 1) W w' ∧ w'.heap.size = W.heap.size ∧ RdIn w' R p c xs i2) := fun W hW => by
  have := next_any R c i1 p xs W hW; rw [eu, ← ei2] at this; exact this
 have HN3 : Hid (∀ W, RdIn W R p c xs i2 → Calls Tryz.prog 19 #[.pointer (some ⟨R, 0, none⟩)] W fun e w' => e = .returned (.int .i64 (y : Int)) ∧ Keep R (R + 1) W w' ∧ w'.heap.size = W.heap.size ∧ RdIn w' R p c xs (rdN xs i2)) := fun W hW => by
  have := next_any R c i2 p xs W hW; rw [ey] at this; exact this
 have HAL : Hid (a < cs.length) := hal; have HNE : Hid (n = cs.length) := hn; clear h ho er ei ei2 ex eu ey ea hn hk hnum h0 hl hr hr1 hr2 hal
 go_enter Tryz.func40, Tryz.ntmps40
 go_wp2_with fail; refine (HN1.out w HH.out).mono ?_; rintro e w2 ⟨rfl, hk2, hs2, hR2⟩; have HR2 : Hid (RdIn w2 R p c xs i1) := hR2; have HK2 : Hid (Keep R (R + 1) w w2) := hk2; clear hk2 hs2 hR2; go_wp2_with fail; refine (HN2.out w2 HR2.out).mono ?_; rintro e w3 ⟨rfl, hk3, hs3, hR3⟩; have HR3 : Hid (RdIn w3 R p c xs i2) := hR3; have HK3 : Hid (Keep R (R + 1) w w3) := HK2.out.trans hk3; have HO3 : Hid (OwnC w3 B (some ⟨g, 0, none⟩) n cp cs) := HO.out.keepR HK3.out hRB; have hB3 : B ≤ w3.heap.size := Nat.le_trans hBw HK3.out.size; clear hk3 hs3 hR3; obtain ⟨k0, k1, ⟨tq, tk, td, k2⟩, kf⟩ := HO3.out.cells HAL.out; have kf0 := kf (a * 3); have kf1 := kf (a * 3 + 1); have kf2 := kf (a * 3 + 2); clear kf; rw [← ev] at k1; clear ev
 have FIN : Hid (SpoilOut w B R p c xs ((cs.set a ((cs.getD a Cel.none).1, v + 1, (cs.getD a Cel.none).2.2), i2)) (.returned (.slice (some ⟨g, 0, none⟩) n cp)) (w3.setCell ⟨g, a * 3 + 1, none⟩ (.int .i64 (v + 1)))) := ⟨_, _, _, rfl, HO3.out.setN HAL.out _, (Kb.of_keep HK3.out hBw).trans (Kb.of_below (Below.setCell (Below.refl _ _) hgB.1 _)), HR3.out.below (Below.setCell (Below.refl _ _) hgB.1 _) hRB⟩
 clear hB3; go_wp2_with fail; go_ret; rw [HV.out]; exact FIN.out
set_option maxHeartbeats 2000000 in
theorem spoil_2 (R c i : Nat) (p : Option Addr) (xs : List Int) (B g n cp : Nat) (cs : List Cel) (w : World) (h : RdIn w R p c xs i) (hRB : R < B) (hBw : B ≤ w.heap.size) (ho : OwnC w B (some ⟨g, 0, none⟩) n cp cs) (h0 : 0 < cs.length) (hl : cs.length ≤ 600) (hnum : NumC cs) (hk : (rdI xs i).toNat % 9 = 2) :
  Calls Tryz.prog 40 #[.slice (some ⟨g, 0, none⟩) n cp, .pointer (some ⟨R, 0, none⟩)] w (SpoilOut w B R p c xs (spoilF xs cs i)) := by
 have HH : Hid (RdIn w R p c xs i) := h; have HO : Hid (OwnC w B (some ⟨g, 0, none⟩) n cp cs) := ho; have hn : n = cs.length := ho.1; have hcap := ho.cap
 have hgB : B ≤ g ∧ g < w.heap.size := by obtain ⟨g', e, h1, h2⟩ := ho.at0 h0; cases e; exact ⟨h1, h2⟩
 have hr := rdI_rng h.bytes i; have hr1 := rdI_rng h.bytes (rdN xs i); have hr2 := rdI_rng h.bytes (rdN xs (rdN xs i))
 obtain ⟨res, er⟩ : ∃ res, res = spoilF xs cs i := ⟨_, rfl⟩
 rw [← er]; have HER : Hid (res = spoilF xs cs i) := er
 obtain ⟨i1, ei⟩ : ∃ i1, i1 = rdN xs i := ⟨_, rfl⟩
 obtain ⟨i2, ei2⟩ : ∃ i2, i2 = rdN xs i1 := ⟨_, rfl⟩
 rw [← ei] at hr1 hr2; rw [← ei2] at hr2
 obtain ⟨x, ex⟩ : ∃ x : Nat, rdI xs i = x := ⟨(rdI xs i).toNat, by omega⟩
 obtain ⟨u, eu⟩ : ∃ u : Nat, rdI xs i1 = u := ⟨(rdI xs i1).toNat, by omega⟩
 obtain ⟨y, ey⟩ : ∃ y : Nat, rdI xs i2 = y := ⟨(rdI xs i2).toNat, by omega⟩
 have hx9 : (x : Int).tmod 9 = 2 := by rw [Int.tmod_eq_emod_of_nonneg (by omega)]; rw [ex] at hk; omega
 have hx : x < 256 := by omega
 have hu : u < 256 := by omega
 have hy : y < 256 := by omega
 obtain ⟨a, ea⟩ : ∃ a, a = u % cs.length := ⟨_, rfl⟩
 have hal : a < cs.length := by rw [ea]; exact Nat.mod_lt _ h0
 have han : a < n := by omega
 have hn0 : ((n : Int) == 0) = false := by rw [beq_eq_false_iff_ne]; omega
 have hma : (u : Int).tmod (n : Int) = (a : Int) := by rw [ea, hn, Int.tmod_eq_emod_of_nonneg (by omega)]; rfl
 have hn600 : n ≤ 600 := by omega
 have HV : Hid (res = (cs.set a ((cs.getD a Cel.none).1, -1, (cs.getD a Cel.none).2.2), i2)) := by
  show _ = _
  rw [HER.out]
  unfold spoilF
  simp only; rw [← ei, ← ei2, eu, ey, Int.toNat_natCast, Int.toNat_natCast, ← ea, hk]
  first | rfl | (rw [if_neg (by decide), if_neg (by decide), if_pos rfl])
 have HN1 : Hid (∀ W, RdIn W R p c xs i → Calls Tryz.prog 19 #[.pointer (some ⟨R, 0, none⟩)] W fun e w' => e = .returned (.int .i64 (x : Int)) ∧ Keep R (R + 1) W w' ∧ w'.heap.size = W.heap.size ∧ RdIn w' R p c xs i1) := fun W hW => by
  have := next_any R c i p xs W hW; rw [ex, ← ei] at this; exact this
 have HN2 : Hid (∀ W, RdIn W R p c xs i1 → Calls Tryz.prog 19 #[.pointer (some ⟨R, 0, none⟩)] W fun e w' => e = .returned (.int .i64 (u : Int)) ∧ Keep R (R + 1) W w' ∧ w'.heap.size = W.heap.size ∧ RdIn w' R p c xs i2) := fun W hW => by
  have := next_any R c i1 p xs W hW; rw [eu, ← ei2] at this; exact this
 have HN3 : Hid (∀ W, RdIn W R p c xs i2 → Calls Tryz.prog 19 #[.pointer (some ⟨R, 0, none⟩)] W fun e w' => e = .returned (.int .i64 (y : Int)) ∧ Keep R (R + 1) W w' ∧ w'.heap.size = W.heap.size ∧ RdIn w' R p c xs (rdN xs i2)) := fun W hW => by
  have := next_any R c i2 p xs W hW; rw [ey] at this; exact this
 have HAL : Hid (a < cs.length) := hal; have HNE : Hid (n = cs.length) := hn; clear h ho er ei ei2 ex eu ey ea hn hk hnum h0 hl hr hr1 hr2 hal
 go_enter Tryz.func40, Tryz.ntmps40
 go_wp2_with fail; refine (HN1.out w HH.out).mono ?_; rintro e w2 ⟨rfl, hk2, hs2, hR2⟩; have HR2 : Hid (RdIn w2 R p c xs i1) := hR2; have HK2 : Hid (Keep R (R + 1) w w2) := hk2; clear hk2 hs2 hR2; go_wp2_with fail; refine (HN2.out w2 HR2.out).mono ?_; rintro e w3 ⟨rfl, hk3, hs3, hR3⟩; have HR3 : Hid (RdIn w3 R p c xs i2) := hR3; have HK3 : Hid (Keep R (R + 1) w w3) := HK2.out.trans hk3; have HO3 : Hid (OwnC w3 B (some ⟨g, 0, none⟩) n cp cs) := HO.out.keepR HK3.out hRB; have hB3 : B ≤ w3.heap.size := Nat.le_trans hBw HK3.out.size; clear hk3 hs3 hR3; obtain ⟨k0, k1, ⟨tq, tk, td, k2⟩, kf⟩ := HO3.out.cells HAL.out; have kf0 := kf (a * 3); have kf1 := kf (a * 3 + 1); have kf2 := kf (a * 3 + 2); clear kf
 have FIN : Hid (SpoilOut w B R p c xs ((cs.set a ((cs.getD a Cel.none).1, -1, (cs.getD a Cel.none).2.2), i2)) (.returned (.slice (some ⟨g, 0, none⟩) n cp)) (w3.setCell ⟨g, a * 3 + 1, none⟩ (.int .i64 (-1)))) := ⟨_, _, _, rfl, HO3.out.setN HAL.out _, (Kb.of_keep HK3.out hBw).trans (Kb.of_below (Below.setCell (Below.refl _ _) hgB.1 _)), HR3.out.below (Below.setCell (Below.refl _ _) hgB.1 _) hRB⟩
 clear hB3; go_wp2_with fail; go_ret; rw [HV.out]; exact FIN.out
set_option maxHeartbeats 2000000 in
theorem spoil_6 (R c i : Nat) (p : Option Addr) (xs : List Int) (B g n cp : Nat) (cs : List Cel) (w : World) (h : RdIn w R p c xs i) (hRB : R < B) (hBw : B ≤ w.heap.size) (ho : OwnC w B (some ⟨g, 0, none⟩) n cp cs) (h0 : 0 < cs.length) (hl : cs.length ≤ 600) (hnum : NumC cs) (hk : (rdI xs i).toNat % 9 = 6) :
  Calls Tryz.prog 40 #[.slice (some ⟨g, 0, none⟩) n cp, .pointer (some ⟨R, 0, none⟩)] w (SpoilOut w B R p c xs (spoilF xs cs i)) := by
 have HH : Hid (RdIn w R p c xs i) := h; have HO : Hid (OwnC w B (some ⟨g, 0, none⟩) n cp cs) := ho; have hn : n = cs.length := ho.1; have hcap := ho.cap
 have hgB : B ≤ g ∧ g < w.heap.size := by obtain ⟨g', e, h1, h2⟩ := ho.at0 h0; cases e; exact ⟨h1, h2⟩
 have hr := rdI_rng h.bytes i; have hr1 := rdI_rng h.bytes (rdN xs i); have hr2 := rdI_rng h.bytes (rdN xs (rdN xs i))
 obtain ⟨res, er⟩ : ∃ res, res = spoilF xs cs i := ⟨_, rfl⟩
 rw [← er]; have HER : Hid (res = spoilF xs cs i) := er
 obtain ⟨i1, ei⟩ : ∃ i1, i1 = rdN xs i := ⟨_, rfl⟩
 obtain ⟨i2, ei2⟩ : ∃ i2, i2 = rdN xs i1 := ⟨_, rfl⟩
 rw [← ei] at hr1 hr2; rw [← ei2] at hr2
 obtain ⟨x, ex⟩ : ∃ x : Nat, rdI xs i = x := ⟨(rdI xs i).toNat, by omega⟩
 obtain ⟨u, eu⟩ : ∃ u : Nat, rdI xs i1 = u := ⟨(rdI xs i1).toNat, by omega⟩
 obtain ⟨y, ey⟩ : ∃ y : Nat, rdI xs i2 = y := ⟨(rdI xs i2).toNat, by omega⟩
 have hx9 : (x : Int).tmod 9 = 6 := by rw [Int.tmod_eq_emod_of_nonneg (by omega)]; rw [ex] at hk; omega
 have hx : x < 256 := by omega
 have hu : u < 256 := by omega
 have hy : y < 256 := by omega
 obtain ⟨a, ea⟩ : ∃ a, a = u % cs.length := ⟨_, rfl⟩
 have hal : a < cs.length := by rw [ea]; exact Nat.mod_lt _ h0
 have han : a < n := by omega
 have hn0 : ((n : Int) == 0) = false := by rw [beq_eq_false_iff_ne]; omega
 have hma : (u : Int).tmod (n : Int) = (a : Int) := by rw [ea, hn, Int.tmod_eq_emod_of_nonneg (by omega)]; rfl
 have hn600 : n ≤ 600 := by omega
 obtain ⟨z, ez⟩ : ∃ z, z = y % 2 := ⟨_, rfl⟩
 have hz : z < 2 := by omega
 have hmz : (y : Int).tmod 2 = (z : Int) := by rw [ez, Int.tmod_eq_emod_of_nonneg (by omega)]; rfl
 have HV : Hid (res = (cs.set a ((cs.getD a Cel.none).1, 1000000000000000 + (z : Int), (cs.getD a Cel.none).2.2), rdN xs i2)) := by
  show _ = _
  rw [HER.out]
  unfold spoilF
  simp only; rw [← ei, ← ei2, eu, ey, Int.toNat_natCast, Int.toNat_natCast, ← ea, ← ez, hk]
  first | rfl | (rw [if_neg (by decide), if_neg (by decide), if_neg (by decide), if_neg (by decide), if_neg (by decide), if_neg (by decide), if_pos rfl])
 have HN1 : Hid (∀ W, RdIn W R p c xs i → Calls Tryz.prog 19 #[.pointer (some ⟨R, 0, none⟩)] W fun e w' => e = .returned (.int .i64 (x : Int)) ∧ Keep R (R + 1) W w' ∧ w'.heap.size = W.heap.size ∧ RdIn w' R p c xs i1) := fun W hW => by
  have := next_any R c i p xs W hW; rw [ex, ← ei] at this; exact this
 have HN2 : Hid (∀ W, RdIn W R p c xs i1 → Calls Tryz.prog 19 #[.pointer (some ⟨R, 0, none⟩)] W fun e w' => e = .returned (.int .i64 (u : Int)) ∧ Keep R (R + 1) W w' ∧ w'.heap.size = W.heap.size ∧ RdIn w' R p c xs i2) := fun W hW => by
  have := next_any R c i1 p xs W hW; rw [eu, ← ei2] at this; exact this
 have HN3 : Hid (∀ W, RdIn W R p c xs i2 → Calls Tryz.prog 19 #[.pointer (some ⟨R, 0, none⟩)] W fun e w' => e = .returned (.int .i64 (y : Int)) ∧ Keep R (R + 1) W w' ∧ w'.heap.size = W.heap.size ∧ RdIn w' R p c xs (rdN xs i2)) := fun W hW => by
  have := next_any R c i2 p xs W hW; rw [ey] at this; exact this
 have HAL : Hid (a < cs.length) := hal; have HNE : Hid (n = cs.length) := hn; clear h ho er ei ei2 ex eu ey ea hn hk hnum h0 hl hr hr1 hr2 hal ez
 go_enter Tryz.func40, Tryz.ntmps40
 go_wp2_with fail; refine (HN1.out w HH.out).mono ?_; rintro e w2 ⟨rfl, hk2, hs2, hR2⟩; have HR2 : Hid (RdIn w2 R p c xs i1) := hR2; have HK2 : Hid (Keep R (R + 1) w w2) := hk2; clear hk2 hs2 hR2; go_wp2_with fail; refine (HN2.out w2 HR2.out).mono ?_; rintro e w3 ⟨rfl, hk3, hs3, hR3⟩; have HR3 : Hid (RdIn w3 R p c xs i2) := hR3; have HK3 : Hid (Keep R (R + 1) w w3) := HK2.out.trans hk3; have HO3 : Hid (OwnC w3 B (some ⟨g, 0, none⟩) n cp cs) := HO.out.keepR HK3.out hRB; have hB3 : B ≤ w3.heap.size := Nat.le_trans hBw HK3.out.size; clear hk3 hs3 hR3; go_wp2_with fail; refine (HN3.out w3 HR3.out).mono ?_; rintro e w4 ⟨rfl, hk4, hs4, hR4⟩; have HR4 : Hid (RdIn w4 R p c xs (rdN xs i2)) := hR4; have HK4 : Hid (Keep R (R + 1) w w4) := HK3.out.trans hk4; have HO4 : Hid (OwnC w4 B (some ⟨g, 0, none⟩) n cp cs) := HO.out.keepR HK4.out hRB; have hB4 : B ≤ w4.heap.size := Nat.le_trans hBw HK4.out.size
 clear hk4 hs4 hR4; obtain ⟨k0, k1, ⟨tq, tk, td, k2⟩, kf⟩ := HO4.out.cells HAL.out; have kf0 := kf (a * 3); have kf1 := kf (a * 3 + 1); have kf2 := kf (a * 3 + 2); clear kf
 have FIN : Hid (SpoilOut w B R p c xs ((cs.set a ((cs.getD a Cel.none).1, 1000000000000000 + (z : Int), (cs.getD a Cel.none).2.2), rdN xs i2)) (.returned (.slice (some ⟨g, 0, none⟩) n cp)) (w4.setCell ⟨g, a * 3 + 1, none⟩ (.int .i64 (1000000000000000 + (z : Int))))) := ⟨_, _, _, rfl, HO4.out.setN HAL.out _, (Kb.of_keep HK4.out hBw).trans (Kb.of_below (Below.setCell (Below.refl _ _) hgB.1 _)), HR4.out.below (Below.setCell (Below.refl _ _) hgB.1 _) hRB⟩
 clear hB3; go_wp2_with fail; go_ret; rw [HV.out]; exact FIN.out
set_option maxHeartbeats 2000000 in
theorem spoil_3 (R c i : Nat) (p : Option Addr) (xs : List Int) (B g n cp : Nat) (cs : List Cel) (w : World) (h : RdIn w R p c xs i) (hRB : R < B) (hBw : B ≤ w.heap.size) (ho : OwnC w B (some ⟨g, 0, none⟩) n cp cs) (h0 : 0 < cs.length) (hl : cs.length ≤ 600) (hnum : NumC cs) (hk : (rdI xs i).toNat % 9 = 3) :
  Calls Tryz.prog 40 #[.slice (some ⟨g, 0, none⟩) n cp, .pointer (some ⟨R, 0, none⟩)] w (SpoilOut w B R p c xs (spoilF xs cs i)) := by
 have HH : Hid (RdIn w R p c xs i) := h; have HO : Hid (OwnC w B (some ⟨g, 0, none⟩) n cp cs) := ho; have hn : n = cs.length := ho.1; have hcap := ho.cap
 have hgB : B ≤ g ∧ g < w.heap.size := by obtain ⟨g', e, h1, h2⟩ := ho.at0 h0; cases e; exact ⟨h1, h2⟩
 have hr := rdI_rng h.bytes i; have hr1 := rdI_rng h.bytes (rdN xs i); have hr2 := rdI_rng h.bytes (rdN xs (rdN xs i))
 obtain ⟨res, er⟩ : ∃ res, res = spoilF xs cs i := ⟨_, rfl⟩
 rw [← er]; have HER : Hid (res = spoilF xs cs i) := er
 obtain ⟨i1, ei⟩ : ∃ i1, i1 = rdN xs i := ⟨_, rfl⟩
 obtain ⟨i2, ei2⟩ : ∃ i2, i2 = rdN xs i1 := ⟨_, rfl⟩
 rw [← ei] at hr1 hr2; rw [← ei2] at hr2
 obtain ⟨x, ex⟩ : ∃ x : Nat, rdI xs i = x := ⟨(rdI xs i).toNat, by omega⟩
 obtain ⟨u, eu⟩ : ∃ u : Nat, rdI xs i1 = u := ⟨(rdI xs i1).toNat, by omega⟩
 obtain ⟨y, ey⟩ : ∃ y : Nat, rdI xs i2 = y := ⟨(rdI xs i2).toNat, by omega⟩
 have hx9 : (x : Int).tmod 9 = 3 := by rw [Int.tmod_eq_emod_of_nonneg (by omega)]; rw [ex] at hk; omega
 have hx : x < 256 := by omega
 have hu : u < 256 := by omega
 have hy : y < 256 := by omega
 obtain ⟨a, ea⟩ : ∃ a, a = u % cs.length := ⟨_, rfl⟩
 have hal : a < cs.length := by rw [ea]; exact Nat.mod_lt _ h0
 have han : a < n := by omega
 have hn0 : ((n : Int) == 0) = false := by rw [beq_eq_false_iff_ne]; omega
 have hma : (u : Int).tmod (n : Int) = (a : Int) := by rw [ea, hn, Int.tmod_eq_emod_of_nonneg (by omega)]; rfl
 have hn600 : n ≤ 600 := by omega
 obtain ⟨m1, em1⟩ : ∃ m1, m1 = cs.length - 1 := ⟨_, rfl⟩
 have hsub : (n : Int) - 1 = (m1 : Int) := by omega
 have hm1 : m1 ≤ n := by omega
 have HV : Hid (res = (cs.take m1, i2)) := by
  show _ = _
  rw [HER.out]
  unfold spoilF
  simp only; rw [← ei, ← ei2, eu, ey, Int.toNat_natCast, Int.toNat_natCast, ← ea, ← em1, hk]
  first | rfl | (rw [if_neg (by decide), if_neg (by decide), if_neg (by decide), if_pos rfl])
 have HN1 : Hid (∀ W, RdIn W R p c xs i → Calls Tryz.prog 19 #[.pointer (some ⟨R, 0, none⟩)] W fun e w' => e = .returned (.int .i64 (x : Int)) ∧ Keep R (R + 1) W w' ∧ w'.heap.size = W.heap.size ∧ RdIn w' R p c xs i1) := fun W hW => by
  have := next_any R c i p xs W hW; rw [ex, ← ei] at this; exact this
 have HN2 : Hid (∀ W, RdIn W R p c xs i1 → Calls Tryz.prog 19 #[.pointer (some ⟨R, 0, none⟩)] W fun e w' => e = .returned (.int .i64 (u : Int)) ∧ Keep R (R + 1) W w' ∧ w'.heap.size = W.heap.size ∧ RdIn w' R p c xs i2) := fun W hW => by
  have := next_any R c i1 p xs W hW; rw [eu, ← ei2] at this; exact this
 have HN3 : Hid (∀ W, RdIn W R p c xs i2 → Calls Tryz.prog 19 #[.pointer (some ⟨R, 0, none⟩)] W fun e w' => e = .returned (.int .i64 (y : Int)) ∧ Keep R (R + 1) W w' ∧ w'.heap.size = W.heap.size ∧ RdIn w' R p c xs (rdN xs i2)) := fun W hW => by
  have := next_any R c i2 p xs W hW; rw [ey] at this; exact this
 have HAL : Hid (a < cs.length) := hal; have HNE : Hid (n = cs.length) := hn; clear h ho er ei ei2 ex eu ey ea hn hk hnum h0 hl hr hr1 hr2 hal em1
 go_enter Tryz.func40, Tryz.ntmps40
 go_wp2_with fail; refine (HN1.out w HH.out).mono ?_; rintro e w2 ⟨rfl, hk2, hs2, hR2⟩; have HR2 : Hid (RdIn w2 R p c xs i1) := hR2; have HK2 : Hid (Keep R (R + 1) w w2) := hk2; clear hk2 hs2 hR2; go_wp2_with fail; refine (HN2.out w2 HR2.out).mono ?_; rintro e w3 ⟨rfl, hk3, hs3, hR3⟩; have HR3 : Hid (RdIn w3 R p c xs i2) := hR3; have HK3 : Hid (Keep R (R + 1) w w3) := HK2.out.trans hk3; have HO3 : Hid (OwnC w3 B (some ⟨g, 0, none⟩) n cp cs) := HO.out.keepR HK3.out hRB; have hB3 : B ≤ w3.heap.size := Nat.le_trans hBw HK3.out.size; clear hk3 hs3 hR3
 have FIN : Hid (SpoilOut w B R p c xs (cs.take m1, i2) (.returned (.slice (some ⟨g, 0, none⟩) m1 cp)) w3) := ⟨_, _, _, rfl, HO3.out.cut hm1, Kb.of_keep HK3.out hBw, HR3.out⟩
 have hcn : n ≤ cp := by rw [HNE.out]; exact hcap.1
 go_wp2_with fail; go_ret; rw [HV.out]; exact FIN.out
set_option maxHeartbeats 2000000 in
theorem spoil_4 (R c i : Nat) (p : Option Addr) (xs : List Int) (B g n cp : Nat) (cs : List Cel) (w : World) (h : RdIn w R p c xs i) (hRB : R < B) (hBw : B ≤ w.heap.size) (ho : OwnC w B (some ⟨g, 0, none⟩) n cp cs) (h0 : 0 < cs.length) (hl : cs.length ≤ 600) (hnum : NumC cs) (hk : (rdI xs i).toNat % 9 = 4) :
  Calls Tryz.prog 40 #[.slice (some ⟨g, 0, none⟩) n cp, .pointer (some ⟨R, 0, none⟩)] w (SpoilOut w B R p c xs (spoilF xs cs i)) := by
 have HH : Hid (RdIn w R p c xs i) := h; have HO : Hid (OwnC w B (some ⟨g, 0, none⟩) n cp cs) := ho; have hn : n = cs.length := ho.1; have hcap := ho.cap
 have hgB : B ≤ g ∧ g < w.heap.size := by obtain ⟨g', e, h1, h2⟩ := ho.at0 h0; cases e; exact ⟨h1, h2⟩
 have hr := rdI_rng h.bytes i; have hr1 := rdI_rng h.bytes (rdN xs i); have hr2 := rdI_rng h.bytes (rdN xs (rdN xs i))
 obtain ⟨res, er⟩ : ∃ res, res = spoilF xs cs i := ⟨_, rfl⟩
 rw [← er]; have HER : Hid (res = spoilF xs cs i) := er
 obtain ⟨i1, ei⟩ : ∃ i1, i1 = rdN xs i := ⟨_, rfl⟩
 obtain ⟨i2, ei2⟩ : ∃ i2, i2 = rdN xs i1 := ⟨_, rfl⟩
 rw [← ei] at hr1 hr2; rw [← ei2] at hr2
 obtain ⟨x, ex⟩ : ∃ x : Nat, rdI xs i = x := ⟨(rdI xs i).toNat, by omega⟩
 obtain ⟨u, eu⟩ : ∃ u : Nat, rdI xs i1 = u := ⟨(rdI xs i1).toNat, by omega⟩
 obtain ⟨y, ey⟩ : ∃ y : Nat, rdI xs i2 = y := ⟨(rdI xs i2).toNat, by omega⟩
 have hx9 : (x : Int).tmod 9 = 4 := by rw [Int.tmod_eq_emod_of_nonneg (by omega)]; rw [ex] at hk; omega
 have hx : x < 256 := by omega
 have hu : u < 256 := by omega
 have hy : y < 256 := by omega
 obtain ⟨a, ea⟩ : ∃ a, a = u % cs.length := ⟨_, rfl⟩
 have hal : a < cs.length := by rw [ea]; exact Nat.mod_lt _ h0
 have han : a < n := by omega
 have hn0 : ((n : Int) == 0) = false := by rw [beq_eq_false_iff_ne]; omega
 have hma : (u : Int).tmod (n : Int) = (a : Int) := by rw [ea, hn, Int.tmod_eq_emod_of_nonneg (by omega)]; rfl
 have hn600 : n ≤ 600 := by omega
 have HV : Hid (res = (cs ++ [(2, 0, [])], i2)) := by
  show _ = _
  rw [HER.out]
  unfold spoilF
  simp only; rw [← ei, ← ei2, eu, ey, Int.toNat_natCast, Int.toNat_natCast, ← ea, hk]
  first | rfl | (rw [if_neg (by decide), if_neg (by decide), if_neg (by decide), if_neg (by decide), if_pos rfl])
 have HN1 : Hid (∀ W, RdIn W R p c xs i → Calls Tryz.prog 19 #[.pointer (some ⟨R, 0, none⟩)] W fun e w' => e = .returned (.int .i64 (x : Int)) ∧ Keep R (R + 1) W w' ∧ w'.heap.size = W.heap.size ∧ RdIn w' R p c xs i1) := fun W hW => by
  have := next_any R c i p xs W hW; rw [ex, ← ei] at this; exact this
 have HN2 : Hid (∀ W, RdIn W R p c xs i1 → Calls Tryz.prog 19 #[.pointer (some ⟨R, 0, none⟩)] W fun e w' => e = .returned (.int .i64 (u : Int)) ∧ Keep R (R + 1) W w' ∧ w'.heap.size = W.heap.size ∧ RdIn w' R p c xs i2) := fun W hW => by
  have := next_any R c i1 p xs W hW; rw [eu, ← ei2] at this; exact this
 have HN3 : Hid (∀ W, RdIn W R p c xs i2 → Calls Tryz.prog 19 #[.pointer (some ⟨R, 0, none⟩)] W fun e w' => e = .returned (.int .i64 (y : Int)) ∧ Keep R (R + 1) W w' ∧ w'.heap.size = W.heap.size ∧ RdIn w' R p c xs (rdN xs i2)) := fun W hW => by
  have := next_any R c i2 p xs W hW; rw [ey] at this; exact this
 have HAL : Hid (a < cs.length) := hal; have HNE : Hid (n = cs.length) := hn; clear h ho er ei ei2 ex eu ey ea hn hk hnum h0 hl hr hr1 hr2 hal
 go_enter Tryz.func40, Tryz.ntmps40
 go_wp2_with fail; refine (HN1.out w HH.out).mono ?_; rintro e w2 ⟨rfl, hk2, hs2, hR2⟩; have HR2 : Hid (RdIn w2 R p c xs i1) := hR2; have HK2 : Hid (Keep R (R + 1) w w2) := hk2; clear hk2 hs2 hR2; go_wp2_with fail; refine (HN2.out w2 HR2.out).mono ?_; rintro e w3 ⟨rfl, hk3, hs3, hR3⟩; have HR3 : Hid (RdIn w3 R p c xs i2) := hR3; have HK3 : Hid (Keep R (R + 1) w w3) := HK2.out.trans hk3; have HO3 : Hid (OwnC w3 B (some ⟨g, 0, none⟩) n cp cs) := HO.out.keepR HK3.out hRB; have hB3 : B ≤ w3.heap.size := Nat.le_trans hBw HK3.out.size; clear hk3 hs3 hR3; have hbA : Below w3.heap.size w3 (w3.alloc (Obj.cells #[Value.int IntKind.i64 2, Value.int IntKind.i64 0, Value.slice none 0 0] 55)) := (Below.refl _ _).alloc (Nat.le_refl _) _; have HBA : Hid _ := hbA; have HBX : Hid (Box3 (w3.alloc (Obj.cells #[Value.int IntKind.i64 2, Value.int IntKind.i64 0, Value.slice none 0 0] 55)) w3.heap.size (.int .i64 2) (.int .i64 0) (.slice none 0 0)) := Box3.of_block (t := 55) (heap_alloc_new w3 _)
 have HOT : Hid (OwnT (w3.alloc (Obj.cells #[Value.int IntKind.i64 2, Value.int IntKind.i64 0, Value.slice none 0 0] 55)) w3.heap.size none 0 0 []) := ⟨rfl, fun h => absurd h (by decide)⟩
 clear hbA; go_wp2_with (at_builtin; refine app_cell w3 _ rfl _ _ rfl B (some ⟨g, 0, none⟩) n cp _ rfl HO3.out HBA.out hB3 ⟨w3.heap.size, 0, none⟩ 1 rfl 2 0 none 0 0 [] HOT.out (news_rc HBX.out) (by omega) ?_; intro g4 n4 cap4 w4 hown4 hb4 hn4); have hbb : Below B w3 w4 := (HBA.out.mono hB3).trans hb4
 have FIN : Hid (SpoilOut w B R p c xs (cs ++ [(2, 0, [])], i2) (.returned (.slice (some ⟨g4, 0, none⟩) n4 cap4)) w4) := ⟨_, _, _, rfl, hown4, (Kb.of_keep HK3.out hBw).trans (Kb.of_below hbb), HR3.out.below hbb hRB⟩
 clear hown4 hb4 hbb; go_wp2_with fail; go_ret; rw [HV.out]; exact FIN.out
set_option maxHeartbeats 2000000 in
theorem spoil_5 (R c i : Nat) (p : Option Addr) (xs : List Int) (B g n cp : Nat) (cs : List Cel) (w : World) (h : RdIn w R p c xs i) (hRB : R < B) (hBw : B ≤ w.heap.size) (ho : OwnC w B (some ⟨g, 0, none⟩) n cp cs) (h0 : 0 < cs.length) (hl : cs.length ≤ 600) (hnum : NumC cs) (hk : (rdI xs i).toNat % 9 = 5) :
  Calls Tryz.prog 40 #[.slice (some ⟨g, 0, none⟩) n cp, .pointer (some ⟨R, 0, none⟩)] w (SpoilOut w B R p c xs (spoilF xs cs i)) := by
 have HH : Hid (RdIn w R p c xs i) := h; have HO : Hid (OwnC w B (some ⟨g, 0, none⟩) n cp cs) := ho; have hn : n = cs.length := ho.1; have hcap := ho.cap
 have hgB : B ≤ g ∧ g < w.heap.size := by obtain ⟨g', e, h1, h2⟩ := ho.at0 h0; cases e; exact ⟨h1, h2⟩
 have hr := rdI_rng h.bytes i; have hr1 := rdI_rng h.bytes (rdN xs i); have hr2 := rdI_rng h.bytes (rdN xs (rdN xs i))
 obtain ⟨res, er⟩ : ∃ res, res = spoilF xs cs i := ⟨_, rfl⟩
 rw [← er]; have HER : Hid (res = spoilF xs cs i) := er
 obtain ⟨i1, ei⟩ : ∃ i1, i1 = rdN xs i := ⟨_, rfl⟩
 obtain ⟨i2, ei2⟩ : ∃ i2, i2 = rdN xs i1 := ⟨_, rfl⟩
 rw [← ei] at hr1 hr2; rw [← ei2] at hr2
 obtain ⟨x, ex⟩ : ∃ x : Nat, rdI xs i = x := ⟨(rdI xs i).toNat, by omega⟩
 obtain ⟨u, eu⟩ : ∃ u : Nat, rdI xs i1 = u := ⟨(rdI xs i1).toNat, by omega⟩
 obtain ⟨y, ey⟩ : ∃ y : Nat, rdI xs i2 = y := ⟨(rdI xs i2).toNat, by omega⟩
 have hx9 : (x : Int).tmod 9 = 5 := by rw [Int.tmod_eq_emod_of_nonneg (by omega)]; rw [ex] at hk; omega
 have hx : x < 256 := by omega
 have hu : u < 256 := by omega
 have hy : y < 256 := by omega
 obtain ⟨a, ea⟩ : ∃ a, a = u % cs.length := ⟨_, rfl⟩
 have hal : a < cs.length := by rw [ea]; exact Nat.mod_lt _ h0
 have han : a < n := by omega
 have hn0 : ((n : Int) == 0) = false := by rw [beq_eq_false_iff_ne]; omega
 have hma : (u : Int).tmod (n : Int) = (a : Int) := by rw [ea, hn, Int.tmod_eq_emod_of_nonneg (by omega)]; rfl
 have hn600 : n ≤ 600 := by omega
 obtain ⟨z, ez⟩ : ∃ z, z = y % 2 := ⟨_, rfl⟩
 have hz : z < 2 := by omega
 have hmz : (y : Int).tmod 2 = (z : Int) := by rw [ez, Int.tmod_eq_emod_of_nonneg (by omega)]; rfl
 obtain ⟨mm, emm⟩ : ∃ mm, mm = 100 + z := ⟨_, rfl⟩
 have hadd : (100 : Int) + (z : Int) = (mm : Int) := by omega
 have hmm : mm ≤ 1000 := by omega
 have HV : Hid (res = (cs.set a ((cs.getD a Cel.none).1, (cs.getD a Cel.none).2.1, List.replicate mm 116), rdN xs i2)) := by
  show _ = _
  rw [HER.out]
  unfold spoilF
  simp only; rw [← ei, ← ei2, eu, ey, Int.toNat_natCast, Int.toNat_natCast, ← ea, ← ez, ← emm, hk]
  first | rfl | (rw [if_neg (by decide), if_neg (by decide), if_neg (by decide), if_neg (by decide), if_neg (by decide), if_pos rfl])
 have HN1 : Hid (∀ W, RdIn W R p c xs i → Calls Tryz.prog 19 #[.pointer (some ⟨R, 0, none⟩)] W fun e w' => e = .returned (.int .i64 (x : Int)) ∧ Keep R (R + 1) W w' ∧ w'.heap.size = W.heap.size ∧ RdIn w' R p c xs i1) := fun W hW => by
  have := next_any R c i p xs W hW; rw [ex, ← ei] at this; exact this
 have HN2 : Hid (∀ W, RdIn W R p c xs i1 → Calls Tryz.prog 19 #[.pointer (some ⟨R, 0, none⟩)] W fun e w' => e = .returned (.int .i64 (u : Int)) ∧ Keep R (R + 1) W w' ∧ w'.heap.size = W.heap.size ∧ RdIn w' R p c xs i2) := fun W hW => by
  have := next_any R c i1 p xs W hW; rw [eu, ← ei2] at this; exact this
 have HN3 : Hid (∀ W, RdIn W R p c xs i2 → Calls Tryz.prog 19 #[.pointer (some ⟨R, 0, none⟩)] W fun e w' => e = .returned (.int .i64 (y : Int)) ∧ Keep R (R + 1) W w' ∧ w'.heap.size = W.heap.size ∧ RdIn w' R p c xs (rdN xs i2)) := fun W hW => by
  have := next_any R c i2 p xs W hW; rw [ey] at this; exact this
 have HAL : Hid (a < cs.length) := hal; have HNE : Hid (n = cs.length) := hn; clear h ho er ei ei2 ex eu ey ea hn hk hnum h0 hl hr hr1 hr2 hal ez emm
 go_enter Tryz.func40, Tryz.ntmps40
 go_wp2_with fail; refine (HN1.out w HH.out).mono ?_; rintro e w2 ⟨rfl, hk2, hs2, hR2⟩; have HR2 : Hid (RdIn w2 R p c xs i1) := hR2; have HK2 : Hid (Keep R (R + 1) w w2) := hk2; clear hk2 hs2 hR2; go_wp2_with fail; refine (HN2.out w2 HR2.out).mono ?_; rintro e w3 ⟨rfl, hk3, hs3, hR3⟩; have HR3 : Hid (RdIn w3 R p c xs i2) := hR3; have HK3 : Hid (Keep R (R + 1) w w3) := HK2.out.trans hk3; have HO3 : Hid (OwnC w3 B (some ⟨g, 0, none⟩) n cp cs) := HO.out.keepR HK3.out hRB; have hB3 : B ≤ w3.heap.size := Nat.le_trans hBw HK3.out.size; clear hk3 hs3 hR3; go_wp2_with fail; refine (HN3.out w3 HR3.out).mono ?_; rintro e w4 ⟨rfl, hk4, hs4, hR4⟩; have HR4 : Hid (RdIn w4 R p c xs (rdN xs i2)) := hR4; have HK4 : Hid (Keep R (R + 1) w w4) := HK3.out.trans hk4; have HO4 : Hid (OwnC w4 B (some ⟨g, 0, none⟩) n cp cs) := HO.out.keepR HK4.out hRB; have hB4 : B ≤ w4.heap.size := Nat.le_trans hBw HK4.out.size
 clear hk4 hs4 hR4; go_wp2_with fail; refine (l4fill_any mm hmm w4).mono ?_; rintro e w5 ⟨p5, n5, c5, rfl, hs5, hb5⟩; have hgw : g < w4.heap.size := Nat.lt_of_lt_of_le hgB.2 HK4.out.size; have ho5 := HO4.out.below hb5; obtain ⟨k0, k1, ⟨tq, tk, td, k2⟩, kf⟩ := ho5.cells HAL.out; have kf2 := kf (a * 3 + 2); have hown := ho5.setT HAL.out hB4 hgw (HO4.out.low2 hb5) hs5.toT; have hbb : Below B w4 (w5.setCell ⟨g, a * 3 + 2, none⟩ (.slice p5 n5 c5)) := Below.setCell (hb5.mono hB4) hgB.1 _
 have FIN : Hid (SpoilOut w B R p c xs (cs.set a ((cs.getD a Cel.none).1, (cs.getD a Cel.none).2.1, List.replicate mm 116), rdN xs i2) (.returned (.slice (some ⟨g, 0, none⟩) n cp)) (w5.setCell ⟨g, a * 3 + 2, none⟩ (.slice p5 n5 c5))) := ⟨_, _, _, rfl, hown, (Kb.of_keep HK4.out hBw).trans (Kb.of_below hbb), HR4.out.below hbb hRB⟩
 clear hs5 hb5 ho5 hown hbb kf; go_wp2_with fail; go_ret; rw [HV.out]; exact FIN.out
set_option maxHeartbeats 2000000 in
theorem spoil_8 (R c i : Nat) (p : Option Addr) (xs : List Int) (B g n cp : Nat) (cs : List Cel) (w : World) (h : RdIn w R p c xs i) (hRB : R < B) (hBw : B ≤ w.heap.size) (ho : OwnC w B (some ⟨g, 0, none⟩) n cp cs) (h0 : 0 < cs.length) (hl : cs.length ≤ 600) (hnum : NumC cs) (hk : (rdI xs i).toNat % 9 = 8) :
  Calls Tryz.prog 40 #[.slice (some ⟨g, 0, none⟩) n cp, .pointer (some ⟨R, 0, none⟩)] w (SpoilOut w B R p c xs (spoilF xs cs i)) := by
 have HH : Hid (RdIn w R p c xs i) := h; have HO : Hid (OwnC w B (some ⟨g, 0, none⟩) n cp cs) := ho; have hn : n = cs.length := ho.1; have hcap := ho.cap
 have hgB : B ≤ g ∧ g < w.heap.size := by obtain ⟨g', e, h1, h2⟩ := ho.at0 h0; cases e; exact ⟨h1, h2⟩
 have hr := rdI_rng h.bytes i; have hr1 := rdI_rng h.bytes (rdN xs i); have hr2 := rdI_rng h.bytes (rdN xs (rdN xs i))
 obtain ⟨res, er⟩ : ∃ res, res = spoilF xs cs i := ⟨_, rfl⟩
 rw [← er]; have HER : Hid (res = spoilF xs cs i) := er
 obtain ⟨i1, ei⟩ : ∃ i1, i1 = rdN xs i := ⟨_, rfl⟩
 obtain ⟨i2, ei2⟩ : ∃ i2, i2 = rdN xs i1 := ⟨_, rfl⟩
 rw [← ei] at hr1 hr2; rw [← ei2] at hr2
 obtain ⟨x, ex⟩ : ∃ x : Nat, rdI xs i = x := ⟨(rdI xs i).toNat, by omega⟩
 obtain ⟨u, eu⟩ : ∃ u : Nat, rdI xs i1 = u := ⟨(rdI xs i1).toNat, by omega⟩
 obtain ⟨y, ey⟩ : ∃ y : Nat, rdI xs i2 = y := ⟨(rdI xs i2).toNat, by omega⟩
 have hx9 : (x : Int).tmod 9 = 8 := by rw [Int.tmod_eq_emod_of_nonneg (by omega)]; rw [ex] at hk; omega
 have hx : x < 256 := by omega
 have hu : u < 256 := by omega
 have hy : y < 256 := by omega
 obtain ⟨a, ea⟩ : ∃ a, a = u % cs.length := ⟨_, rfl⟩
 have hal : a < cs.length := by rw [ea]; exact Nat.mod_lt _ h0
 have han : a < n := by omega
 have hn0 : ((n : Int) == 0) = false := by rw [beq_eq_false_iff_ne]; omega
 have hma : (u : Int).tmod (n : Int) = (a : Int) := by rw [ea, hn, Int.tmod_eq_emod_of_nonneg (by omega)]; rfl
 have hn600 : n ≤ 600 := by omega
 obtain ⟨z, ez⟩ : ∃ z, z = y % 2 := ⟨_, rfl⟩
 have hz : z < 2 := by omega
 have hmz : (y : Int).tmod 2 = (z : Int) := by rw [ez, Int.tmod_eq_emod_of_nonneg (by omega)]; rfl
 have HV : Hid (res = (cs.set a (0, 1000000 + (z : Int), []), rdN xs i2)) := by
  show _ = _
  rw [HER.out]
  unfold spoilF
  simp only; rw [← ei, ← ei2, eu, ey, Int.toNat_natCast, Int.toNat_natCast, ← ea, ← ez, hk]
  first | rfl | (rw [if_neg (by decide), if_neg (by decide), if_neg (by decide), if_neg (by decide), if_neg (by decide), if_neg (by decide), if_neg (by decide), if_neg (by decide)])
 have HN1 : Hid (∀ W, RdIn W R p c xs i → Calls Tryz.prog 19 #[.pointer (some ⟨R, 0, none⟩)] W fun e w' => e = .returned (.int .i64 (x : Int)) ∧ Keep R (R + 1) W w' ∧ w'.heap.size = W.heap.size ∧ RdIn w' R p c xs i1) := fun W hW => by
  have := next_any R c i p xs W hW; rw [ex, ← ei] at this; exact this
 have HN2 : Hid (∀ W, RdIn W R p c xs i1 → Calls Tryz.prog 19 #[.pointer (some ⟨R, 0, none⟩)] W fun e w' => e = .returned (.int .i64 (u : Int)) ∧ Keep R (R + 1) W w' ∧ w'.heap.size = W.heap.size ∧ RdIn w' R p c xs i2) := fun W hW => by
  have := next_any R c i1 p xs W hW; rw [eu, ← ei2] at this; exact this
 have HN3 : Hid (∀ W, RdIn W R p c xs i2 → Calls Tryz.prog 19 #[.pointer (some ⟨R, 0, none⟩)] W fun e w' => e = .returned (.int .i64 (y : Int)) ∧ Keep R (R + 1) W w' ∧ w'.heap.size = W.heap.size ∧ RdIn w' R p c xs (rdN xs i2)) := fun W hW => by
  have := next_any R c i2 p xs W hW; rw [ey] at this; exact this
 have HAL : Hid (a < cs.length) := hal; have HNE : Hid (n = cs.length) := hn; clear h ho er ei ei2 ex eu ey ea hn hk hnum h0 hl hr hr1 hr2 hal ez
 go_enter Tryz.func40, Tryz.ntmps40
 go_wp2_with fail; refine (HN1.out w HH.out).mono ?_; rintro e w2 ⟨rfl, hk2, hs2, hR2⟩; have HR2 : Hid (RdIn w2 R p c xs i1) := hR2; have HK2 : Hid (Keep R (R + 1) w w2) := hk2; clear hk2 hs2 hR2; go_wp2_with fail; refine (HN2.out w2 HR2.out).mono ?_; rintro e w3 ⟨rfl, hk3, hs3, hR3⟩; have HR3 : Hid (RdIn w3 R p c xs i2) := hR3; have HK3 : Hid (Keep R (R + 1) w w3) := HK2.out.trans hk3; have HO3 : Hid (OwnC w3 B (some ⟨g, 0, none⟩) n cp cs) := HO.out.keepR HK3.out hRB; have hB3 : B ≤ w3.heap.size := Nat.le_trans hBw HK3.out.size; clear hk3 hs3 hR3; go_wp2_with fail; refine (HN3.out w3 HR3.out).mono ?_; rintro e w4 ⟨rfl, hk4, hs4, hR4⟩; have HR4 : Hid (RdIn w4 R p c xs (rdN xs i2)) := hR4; have HK4 : Hid (Keep R (R + 1) w w4) := HK3.out.trans hk4; have HO4 : Hid (OwnC w4 B (some ⟨g, 0, none⟩) n cp cs) := HO.out.keepR HK4.out hRB; have hB4 : B ≤ w4.heap.size := Nat.le_trans hBw HK4.out.size
 clear hk4 hs4 hR4; obtain ⟨k0, k1, ⟨tq, tk, td, k2⟩, kf⟩ := HO4.out.cells HAL.out; have kf0 := kf (a * 3); have kf1 := kf (a * 3 + 1); have kf2 := kf (a * 3 + 2); clear kf; have o1 := HO4.out.setK HAL.out 0; have o2 := o1.setN (j := a) (by rw [List.length_set]; exact HAL.out) (1000000 + (z : Int)); have o3 := o2.setT (j := a) (M := w4.heap.size) (tp := none) (tn := 0) (tc := 0) (s := []) (by rw [List.length_set, List.length_set]; exact HAL.out) hB4 (Nat.lt_of_lt_of_le hgB.2 HK4.out.size) (by have := o2.low; simpa using this) ⟨rfl, fun h => absurd h (by decide)⟩
 have el : ((cs.set a (0, (cs.getD a Cel.none).2)).set a (((cs.set a (0, (cs.getD a Cel.none).2)).getD a Cel.none).1, 1000000 + (z : Int), ((cs.set a (0, (cs.getD a Cel.none).2)).getD a Cel.none).2.2)) = cs.set a (0, 1000000 + (z : Int), (cs.getD a Cel.none).2.2) := by
  rw [List.set_set, cs_set_at _ _ _ _ HAL.out, if_pos rfl]
 have e4 : (cs.set a (0, 1000000 + (z : Int), (cs.getD a Cel.none).2.2)).set a (((cs.set a (0, 1000000 + (z : Int), (cs.getD a Cel.none).2.2)).getD a Cel.none).1, ((cs.set a (0, 1000000 + (z : Int), (cs.getD a Cel.none).2.2)).getD a Cel.none).2.1, []) = cs.set a (0, 1000000 + (z : Int), []) := by
  rw [List.set_set, cs_set_at _ _ _ _ HAL.out, if_pos rfl]
 rw [el, e4] at o3; have hbb : Below B w4 (((w4.setCell ⟨g, a * 3, none⟩ (.int .i64 0)).setCell ⟨g, a * 3 + 1, none⟩ (.int .i64 (1000000 + (z : Int)))).setCell ⟨g, a * 3 + 2, none⟩ (.slice none 0 0)) := Below.setCell (Below.setCell (Below.setCell (Below.refl _ _) hgB.1 _) hgB.1 _) hgB.1 _
 have FIN : Hid (SpoilOut w B R p c xs (cs.set a (0, 1000000 + (z : Int), []), rdN xs i2) (.returned (.slice (some ⟨g, 0, none⟩) n cp)) (((w4.setCell ⟨g, a * 3, none⟩ (.int .i64 0)).setCell ⟨g, a * 3 + 1, none⟩ (.int .i64 (1000000 + (z : Int)))).setCell ⟨g, a * 3 + 2, none⟩ (.slice none 0 0))) := ⟨_, _, _, rfl, o3, (Kb.of_keep HK4.out hBw).trans (Kb.of_below hbb), HR4.out.below hbb hRB⟩
 clear o1 o2 o3 el e4 hbb; go_wp2_with fail; go_ret; rw [HV.out]; exact FIN.out
theorem conv_byte (w : World) (x : Int) : (convert 22 22 (.slice (some ⟨w.heap.size, 0, none⟩) 1 1)).run Tryz.prog (w.alloc (.cells #[.int .u8 x] 5)) = .ok (.slice (some ⟨w.heap.size, 0, none⟩) 1 1) (w.alloc (.cells #[.int .u8 x] 5 (1, 2))) :=
 Lib.run_convert_bytes_const (P := Tryz.prog) w 22 5 #[.int .u8 x] 1 1 Tryz.underlying22 Tryz.underlying5
theorem byte_text (w : World) (x : Int) : OwnT (w.alloc (.cells #[.int .u8 x] 5 (1, 2))) w.heap.size (some ⟨w.heap.size, 0, none⟩) 1 1 [x] := ⟨rfl, fun _ => ⟨w.heap.size, rfl, Nat.le_refl _, by simp, fun i hi => by
 have hi0 : i = 0 := by omega
 subst hi0; refine ⟨cell_of_row _ _ 0 _ _ _ (heap_alloc_new _ _), ?_⟩; simp only [World.frozen?, heap_alloc_new]
 simp⟩⟩
theorem own_two {w : World} {B g tn tc : Nat} {k n k' n' : Int} {tp : Option Addr} {s : List Int} (hg : w.heap[g]? = some (.cells #[.int .i64 k, .int .i64 n, .slice tp tn tc, .int .i64 k', .int .i64 n', .slice none 0 0] 55)) (hB : B ≤ g) (ht : OwnT w B tp tn tc s) (hne : 0 < tn → ∀ a, tp = some a → a.block ≠ g) : OwnC w B (some ⟨g, 0, none⟩) 2 2 [(k, n, s), (k', n', [])] := by
 refine ⟨rfl, [(k, n, tp, tn, tc), (k', n', none, 0, 0)], rfl, ⟨rfl, .inr ⟨g, 2, _, rfl, hB, hg, Nat.le_refl _, by decide, rfl, rfl⟩⟩, fun i hi => ?_, ?_⟩
 ·rcases (by simp at hi; omega : i = 0 ∨ i = 1) with rfl | rfl
  ·exact ⟨rfl, rfl, ht⟩
  ·exact ⟨rfl, rfl, rfl, fun h => absurd (show 0 < 0 from h) (Nat.lt_irrefl 0)⟩
 ·refine ⟨fun i hi h => ?_, fun i j hi hj hne' h1 h2 => ?_⟩
  ·rcases (by simp at hi; omega : i = 0 ∨ i = 1) with rfl | rfl
   ·exact fun e => hne h _ e rfl
   ·exact absurd (show 0 < 0 from h) (Nat.lt_irrefl 0)
  ·rcases (by simp at hi; omega : i = 0 ∨ i = 1) with rfl | rfl
   ·rcases (by simp at hj; omega : j = 0 ∨ j = 1) with rfl | rfl
    ·exact absurd rfl hne'
    ·exact absurd (show 0 < 0 from h2) (Nat.lt_irrefl 0)
   ·exact absurd (show 0 < 0 from h1) (Nat.lt_irrefl 0)
theorem l2atomW_any (s : List Int) (hs : Byte s) (w : World) : Calls Tryz.prog 111 #[.string (strOfNums s)] w fun e w' => ∃ p, e = .returned (.slice p 1 1) ∧ OwnC w' w.heap.size p 1 1 [(2, 0, s)] ∧ Below w.heap.size w w' := by
 obtain ⟨w1, cap1, hcv, hb1, ht⟩ := conv_bytes w s hs 9 Tryz.underlying9
 obtain ⟨l, el⟩ : ∃ l, l = s.length := ⟨_, rfl⟩
 rw [← el] at hcv ht; have hb : Below w1.heap.size w1 (w1.alloc (Obj.cells #[Value.int IntKind.i64 2, Value.int IntKind.i64 0, Value.slice (some ⟨w.heap.size, 0, none⟩) l cap1] 55)) := (Below.refl _ _).alloc (Nat.le_refl _) _
 have HO : Hid (OwnC (w1.alloc (Obj.cells #[Value.int IntKind.i64 2, Value.int IntKind.i64 0, Value.slice (some ⟨w.heap.size, 0, none⟩) l cap1] 55)) w.heap.size (some ⟨w1.heap.size, 0, none⟩) 1 1 [(2, 0, s)]) := own_oneN (heap_alloc_new w1 _) hb1.size (ht.below hb) (fun h0 a ea => by
  obtain ⟨g', e', _, h3, _⟩ := ht.2 h0
  cases e'
  cases ea
  exact Nat.ne_of_lt h3)
 have HB : Hid (Below w.heap.size w (w1.alloc (Obj.cells #[Value.int IntKind.i64 2, Value.int IntKind.i64 0, Value.slice (some ⟨w.heap.size, 0, none⟩) l cap1] 55))) := Below.on hb1 hb; clear hb1 ht hb el
 go_enter Tryz.func111, Tryz.ntmps111
 go_wp2_with fail; go_ret; exact ⟨_, rfl, HO.out, HB.out⟩
set_option maxHeartbeats 2000000 in
theorem spoil_7 (R c i : Nat) (p : Option Addr) (xs : List Int) (B g n cp : Nat) (cs : List Cel) (w : World) (h : RdIn w R p c xs i) (hRB : R < B) (hBw : B ≤ w.heap.size) (ho : OwnC w B (some ⟨g, 0, none⟩) n cp cs) (h0 : 0 < cs.length) (hl : cs.length ≤ 600) (hnum : NumC cs) (hk : (rdI xs i).toNat % 9 = 7) :
  Calls Tryz.prog 40 #[.slice (some ⟨g, 0, none⟩) n cp, .pointer (some ⟨R, 0, none⟩)] w (SpoilOut w B R p c xs (spoilF xs cs i)) := by
 have HH : Hid (RdIn w R p c xs i) := h; have HO : Hid (OwnC w B (some ⟨g, 0, none⟩) n cp cs) := ho; have hn : n = cs.length := ho.1; have hcap := ho.cap
 have hgB : B ≤ g ∧ g < w.heap.size := by obtain ⟨g', e, h1, h2⟩ := ho.at0 h0; cases e; exact ⟨h1, h2⟩
 have hr := rdI_rng h.bytes i; have hr1 := rdI_rng h.bytes (rdN xs i); have hr2 := rdI_rng h.bytes (rdN xs (rdN xs i))
 obtain ⟨res, er⟩ : ∃ res, res = spoilF xs cs i := ⟨_, rfl⟩
 rw [← er]; have HER : Hid (res = spoilF xs cs i) := er
 obtain ⟨i1, ei⟩ : ∃ i1, i1 = rdN xs i := ⟨_, rfl⟩
 obtain ⟨i2, ei2⟩ : ∃ i2, i2 = rdN xs i1 := ⟨_, rfl⟩
 rw [← ei] at hr1 hr2; rw [← ei2] at hr2
 obtain ⟨x, ex⟩ : ∃ x : Nat, rdI xs i = x := ⟨(rdI xs i).toNat, by omega⟩
 obtain ⟨u, eu⟩ : ∃ u : Nat, rdI xs i1 = u := ⟨(rdI xs i1).toNat, by omega⟩
 obtain ⟨y, ey⟩ : ∃ y : Nat, rdI xs i2 = y := ⟨(rdI xs i2).toNat, by omega⟩
 have hx9 : (x : Int).tmod 9 = 7 := by rw [Int.tmod_eq_emod_of_nonneg (by omega)]; rw [ex] at hk; omega
 have hx : x < 256 := by omega
 have hu : u < 256 := by omega
 have hy : y < 256 := by omega
 obtain ⟨a, ea⟩ : ∃ a, a = u % cs.length := ⟨_, rfl⟩
 have hal : a < cs.length := by rw [ea]; exact Nat.mod_lt _ h0
 have han : a < n := by omega
 have hn0 : ((n : Int) == 0) = false := by rw [beq_eq_false_iff_ne]; omega
 have hma : (u : Int).tmod (n : Int) = (a : Int) := by rw [ea, hn, Int.tmod_eq_emod_of_nonneg (by omega)]; rfl
 have hn600 : n ≤ 600 := by omega
 obtain ⟨z, ez⟩ : ∃ z, z = y % 3 := ⟨_, rfl⟩
 have hz : z < 3 := by omega
 have hmz : (y : Int).tmod 3 = (z : Int) := by rw [ez, Int.tmod_eq_emod_of_nonneg (by omega)]; rfl
 obtain ⟨N, eN⟩ : ∃ N, N = 1999 + z := ⟨_, rfl⟩
 have hadd : (1999 : Int) + (z : Int) = (N : Int) := by omega
 have hN : 1999 ≤ N ∧ N ≤ 2001 := by omega
 obtain ⟨hh, ehh⟩ : ∃ hh, hh = (N - 1) / 2 := ⟨_, rfl⟩
 have hhh : hh ≤ 1000 := by omega
 have hsub : (N : Int) - 1 = ((N - 1 : Nat) : Int) := by omega
 have hquo : ((N : Int) - 1).tdiv 2 = (hh : Int) := by rw [hsub, ehh]; rfl
 have HHH : Hid (hh = (N - 1) / 2) := ehh
 obtain ⟨z2, ez2⟩ : ∃ z, z = N % 2 := ⟨_, rfl⟩
 have hz2 : z2 < 2 := by omega
 have hmz2 : (N : Int).tmod 2 = (z2 : Int) := by rw [ez2, Int.tmod_eq_emod_of_nonneg (by omega)]; rfl
 have HZ2 : Hid (z2 = N % 2) := ez2
 have HV : Hid (res = (bigF N, rdN xs i2)) := by
  show _ = _
  rw [HER.out]
  unfold spoilF
  simp only; rw [← ei, ← ei2, eu, ey, Int.toNat_natCast, Int.toNat_natCast, ← ea, ← ez, ← eN, hk]
  first | rfl | (rw [if_neg (by decide), if_neg (by decide), if_neg (by decide), if_neg (by decide), if_neg (by decide), if_neg (by decide), if_neg (by decide), if_pos rfl])
 have HN1 : Hid (∀ W, RdIn W R p c xs i → Calls Tryz.prog 19 #[.pointer (some ⟨R, 0, none⟩)] W fun e w' => e = .returned (.int .i64 (x : Int)) ∧ Keep R (R + 1) W w' ∧ w'.heap.size = W.heap.size ∧ RdIn w' R p c xs i1) := fun W hW => by
  have := next_any R c i p xs W hW; rw [ex, ← ei] at this; exact this
 have HN2 : Hid (∀ W, RdIn W R p c xs i1 → Calls Tryz.prog 19 #[.pointer (some ⟨R, 0, none⟩)] W fun e w' => e = .returned (.int .i64 (u : Int)) ∧ Keep R (R + 1) W w' ∧ w'.heap.size = W.heap.size ∧ RdIn w' R p c xs i2) := fun W hW => by
  have := next_any R c i1 p xs W hW; rw [eu, ← ei2] at this; exact this
 have HN3 : Hid (∀ W, RdIn W R p c xs i2 → Calls Tryz.prog 19 #[.pointer (some ⟨R, 0, none⟩)] W fun e w' => e = .returned (.int .i64 (y : Int)) ∧ Keep R (R + 1) W w' ∧ w'.heap.size = W.heap.size ∧ RdIn w' R p c xs (rdN xs i2)) := fun W hW => by
  have := next_any R c i2 p xs W hW; rw [ey] at this; exact this
 have HAL : Hid (a < cs.length) := hal; have HNE : Hid (n = cs.length) := hn; clear h ho er ei ei2 ex eu ey ea hn hk hnum h0 hl hr hr1 hr2 hal ez eN ehh hsub ez2
 go_enter Tryz.func40, Tryz.ntmps40
 go_wp2_with fail; refine (HN1.out w HH.out).mono ?_; rintro e w2 ⟨rfl, hk2, hs2, hR2⟩; have HR2 : Hid (RdIn w2 R p c xs i1) := hR2; have HK2 : Hid (Keep R (R + 1) w w2) := hk2; clear hk2 hs2 hR2; go_wp2_with fail; refine (HN2.out w2 HR2.out).mono ?_; rintro e w3 ⟨rfl, hk3, hs3, hR3⟩; have HR3 : Hid (RdIn w3 R p c xs i2) := hR3; have HK3 : Hid (Keep R (R + 1) w w3) := HK2.out.trans hk3; have HO3 : Hid (OwnC w3 B (some ⟨g, 0, none⟩) n cp cs) := HO.out.keepR HK3.out hRB; have hB3 : B ≤ w3.heap.size := Nat.le_trans hBw HK3.out.size; clear hk3 hs3 hR3; go_wp2_with fail; refine (HN3.out w3 HR3.out).mono ?_; rintro e w4 ⟨rfl, hk4, hs4, hR4⟩; have HR4 : Hid (RdIn w4 R p c xs (rdN xs i2)) := hR4; have HK4 : Hid (Keep R (R + 1) w w4) := HK3.out.trans hk4; have HO4 : Hid (OwnC w4 B (some ⟨g, 0, none⟩) n cp cs) := HO.out.keepR HK4.out hRB; have hB4 : B ≤ w4.heap.size := Nat.le_trans hBw HK4.out.size
 clear hk4 hs4 hR4; have hcs := conv_byte
 have HBB : Hid (bigF N = (bigL hh ++ (if z2 = 0 then [(3, 1, [102])] else [])) ++ [nilC]) := by rw [HHH.out, HZ2.out]; rfl
 go_wp2_with fail
 go_loopw [7, 9] (fun s jv wr => ∃ (j m cr : Nat) (r : Option Addr), j ≤ hh ∧ m ≤ 2 * hh ∧ Hid (m = 2 * j) ∧ jv = .int .i64 j ∧ s = .slice r m cr ∧ Hid (OwnC wr w4.heap.size r m cr (bigL j)) ∧ Hid (Below w4.heap.size w4 wr)) (fun _ jv _ => hh - (intOf jv).toNat)
 case atStart => exact ⟨0, 0, 0, none, Nat.zero_le _, Nat.zero_le _, rfl, rfl, rfl, OwnC.nil _ _, Below.refl _ _⟩
 case round =>
  obtain ⟨j, m, cr, r, hj, hmh, HMJ, rfl, rfl, HOB, HB⟩ := hrel; have hBs : w4.heap.size ≤ wr.heap.size := HB.out.size
  by_cases hlt : j < hh
  ·obtain ⟨jm, ejm⟩ : ∃ jm, jm = j % 7 := ⟨_, rfl⟩
   have hjm : (j : Int).tmod 7 = (jm : Int) := by rw [ejm, Int.tmod_eq_emod_of_nonneg (by omega)]; rfl
   have hjm7 : jm < 7 := by omega
   obtain ⟨wt, ewt⟩ : ∃ wt, wt = wr.alloc (.cells #[.int .u8 46] 5 (1, 2)) := ⟨_, rfl⟩
   have hbt : Below wr.heap.size wr wt := by rw [ewt]; exact (Below.refl _ _).alloc (Nat.le_refl _) _
   have hst : wt.heap.size = wr.heap.size + 1 := by rw [ewt]; simp
   have htx := byte_text wr 46; rw [← ewt] at htx
   obtain ⟨wc, ewc⟩ : ∃ wc, wc = wt.alloc (Obj.cells #[Value.int IntKind.i64 3, Value.int IntKind.i64 2, Value.slice (some ⟨wr.heap.size, 0, none⟩) 1 1, Value.int IntKind.i64 0, Value.int IntKind.i64 (jm : Int), Value.slice none 0 0] 55) := ⟨_, rfl⟩
   have hbc : Below wt.heap.size wt wc := by rw [ewc]; exact (Below.refl _ _).alloc (Nat.le_refl _) _
   have hnew := heap_alloc_new wt (Obj.cells #[Value.int IntKind.i64 3, Value.int IntKind.i64 2, Value.slice (some ⟨wr.heap.size, 0, none⟩) 1 1, Value.int IntKind.i64 0, Value.int IntKind.i64 (jm : Int), Value.slice none 0 0] 55); rw [← ewc, hst] at hnew; have HO2 : Hid (OwnC wc wr.heap.size (some ⟨wr.heap.size + 1, 0, none⟩) 2 2 [dot, (0, (jm : Int), [])]) := own_two hnew (by omega) (htx.below hbc) (fun _ a ea => by cases ea; simp); have HBC : Hid (Below wr.heap.size wr wc) := Below.on hbt hbc
   have HSU : Hid (bigL (j + 1) = bigL j ++ [dot, (0, (jm : Int), [])]) := by rw [ejm]; exact bigL_succ j
   rw [ewt] at ewc; clear hbt hbc hnew htx ewt hst ejm; have hcs2 := hcs wr 46; go_wp2_with (at_builtin; rw [← ewc]; refine app_cells wr wc rfl _ _ rfl w4.heap.size r m cr _ rfl HOB.out HBC.out hBs (some ⟨wr.heap.size + 1, 0, none⟩) 2 2 _ rfl HO2.out (by decide) (by omega) ?_; intro g4 n4 cap4 w5 hown4 hb4 hn4)
   have HO5 : Hid (OwnC w5 w4.heap.size (some ⟨g4, 0, none⟩) n4 cap4 (bigL (j + 1))) := by rw [HSU.out]; exact hown4
   have HB5 : Hid (Below w4.heap.size w4 w5) := (Below.on HB.out HBC.out).trans hb4
   have HN4 : Hid (n4 = 2 * (j + 1)) := by show _ = _; have := hn4.out; have := HMJ.out; omega
   have hn4' : n4 ≤ 2 * hh := by have := HN4.out; omega
   clear hown4 hb4 hn4; go_roundw
   case rel => exact ⟨j + 1, n4, cap4, _, by omega, hn4', HN4, by go_num, rfl, HO5, HB5⟩
   case measure => simp [intOf]; omega
  ·obtain rfl : j = hh := by omega
   have hm2 : m ≤ 2000 := by omega
   have LAST : Hid (∀ (W W' : World) (r2 : Option Addr) (m2 c2 : Nat), Below w4.heap.size w4 W → OwnC W' B r2 m2 c2 (bigF N) → Below B W W' → SpoilOut w B R p c xs (bigF N, rdN xs i2) (.returned (.slice r2 m2 c2)) W') := fun W W' r2 m2 c2 h1 h2 h3 => by
    have hbb : Below B w4 W' := (h1.mono hB4).trans h3; exact ⟨_, _, _, rfl, h2, (Kb.of_keep HK4.out hBw).trans (Kb.of_below hbb), HR4.out.below hbb hRB⟩
   rcases (by omega : z2 = 0 ∨ z2 = 1) with h2 | h2
   ·have hb2 : ((z2 : Int) == 0) = true := by rw [h2]; rfl
    have HBG : Hid (bigF N = (bigL j ++ [(3, 1, [102])]) ++ [nilC]) := by show _ = _; rw [HBB.out, if_pos h2]
    clear h2
    obtain ⟨wt, ewt⟩ : ∃ wt, wt = wr.alloc (.cells #[.int .u8 102] 5 (1, 2)) := ⟨_, rfl⟩
    have hbt : Below wr.heap.size wr wt := by rw [ewt]; exact (Below.refl _ _).alloc (Nat.le_refl _) _
    have hst : wt.heap.size = wr.heap.size + 1 := by rw [ewt]; simp
    have htx := byte_text wr 102; rw [← ewt] at htx
    obtain ⟨wc, ewc⟩ : ∃ wc, wc = wt.alloc (Obj.cells #[Value.int IntKind.i64 3, Value.int IntKind.i64 1, Value.slice (some ⟨wr.heap.size, 0, none⟩) 1 1] 55) := ⟨_, rfl⟩
    have hbc : Below wt.heap.size wt wc := by rw [ewc]; exact (Below.refl _ _).alloc (Nat.le_refl _) _
    have hnew := heap_alloc_new wt (Obj.cells #[Value.int IntKind.i64 3, Value.int IntKind.i64 1, Value.slice (some ⟨wr.heap.size, 0, none⟩) 1 1] 55); rw [← ewc, hst] at hnew; have HO1 : Hid (OwnC wc wr.heap.size (some ⟨wr.heap.size + 1, 0, none⟩) 1 1 [(3, 1, [102])]) := own_oneN hnew (by omega) (htx.below hbc) (fun _ a ea => by cases ea; simp); have HBC : Hid (Below wr.heap.size wr wc) := Below.on hbt hbc; rw [ewt] at ewc; clear hbt hbc hnew htx ewt hst; have hcs2 := hcs wr 102; go_wp2_with (at_builtin; rw [← ewc]; refine app_cells wr wc rfl _ _ rfl w4.heap.size r m cr _ rfl HOB.out HBC.out hBs (some ⟨wr.heap.size + 1, 0, none⟩) 1 1 _ rfl HO1.out (by decide) (by omega) ?_; intro g5 n5 cap5 w5 hown5 hb5 hn5); have HO5 : Hid (OwnC w5 w4.heap.size (some ⟨g5, 0, none⟩) n5 cap5 (bigL j ++ [(3, 1, [102])])) := hown5; have HB5 : Hid (Below w4.heap.size w4 w5) := (Below.on HB.out HBC.out).trans hb5
    have hn5' : n5 ≤ 2001 := by have := hn5.out; omega
    have hB5s : w4.heap.size ≤ w5.heap.size := HB5.out.size; clear hown5 hb5 hn5 hcs2 ewc; rw [nilStr]; refine (l2atomW_any [91, 93] (fun x hx => by simp at hx; omega) w5).mono ?_; rintro e w6 ⟨p6, rfl, ho6, hb6⟩; have HO6 : Hid (OwnC w6 w5.heap.size p6 1 1 [nilC]) := ho6; have HB6 : Hid (Below w5.heap.size w5 w6) := hb6; clear ho6 hb6; go_wp2_with (at_builtin; refine app_cells w5 w6 rfl _ _ rfl w4.heap.size (some ⟨g5, 0, none⟩) n5 cap5 _ rfl HO5.out HB6.out hB5s p6 1 1 _ rfl HO6.out (by decide) (by omega) ?_; intro g7 n7 cap7 w7 hown7 hb7 hn7); go_ret; rw [HV.out]; exact LAST.out w6 w7 _ _ _ (Below.on HB5.out HB6.out) (by rw [HBG.out]; exact hown7.mono hB4) (hb7.mono hB4)
   ·have hb2 : ((z2 : Int) == 0) = false := by rw [h2]; rfl
    have HBG : Hid (bigF N = bigL j ++ [nilC]) := by show _ = _; rw [HBB.out, if_neg (by omega), List.append_nil]
    clear h2; go_wp2_with fail; rw [nilStr]; refine (l2atomW_any [91, 93] (fun x hx => by simp at hx; omega) wr).mono ?_; rintro e w6 ⟨p6, rfl, ho6, hb6⟩; have HO6 : Hid (OwnC w6 wr.heap.size p6 1 1 [nilC]) := ho6; have HB6 : Hid (Below wr.heap.size wr w6) := hb6; clear ho6 hb6; go_wp2_with (at_builtin; refine app_cells wr w6 rfl _ _ rfl w4.heap.size r m cr _ rfl HOB.out HB6.out hBs p6 1 1 _ rfl HO6.out (by decide) (by omega) ?_; intro g7 n7 cap7 w7 hown7 hb7 hn7); go_ret; rw [HV.out]; exact LAST.out w6 w7 _ _ _ (Below.on HB.out HB6.out) (by rw [HBG.out]; exact hown7.mono hB4) (hb7.mono hB4)
theorem l4spoil_any (R c i : Nat) (p : Option Addr) (xs : List Int) (B g n cp : Nat) (cs : List Cel) (w : World) (h : RdIn w R p c xs i) (hRB : R < B) (hBw : B ≤ w.heap.size) (ho : OwnC w B (some ⟨g, 0, none⟩) n cp cs) (h0 : 0 < cs.length) (hl : cs.length ≤ 600) (hnum : NumC cs) :
  Calls Tryz.prog 40 #[.slice (some ⟨g, 0, none⟩) n cp, .pointer (some ⟨R, 0, none⟩)] w (SpoilOut w B R p c xs (spoilF xs cs i)) := by
 rcases (by omega : (rdI xs i).toNat % 9 = 0 ∨ (rdI xs i).toNat % 9 = 1 ∨ (rdI xs i).toNat % 9 = 2 ∨ (rdI xs i).toNat % 9 = 3 ∨ (rdI xs i).toNat % 9 = 4 ∨ (rdI xs i).toNat % 9 = 5 ∨ (rdI xs i).toNat % 9 = 6 ∨ (rdI xs i).toNat % 9 = 7 ∨ (rdI xs i).toNat % 9 = 8) with hk | hk | hk | hk | hk | hk | hk | hk | hk
 ·exact spoil_0 R c i p xs B g n cp cs w h hRB hBw ho h0 hl hnum hk
 ·exact spoil_1 R c i p xs B g n cp cs w h hRB hBw ho h0 hl hnum hk
 ·exact spoil_2 R c i p xs B g n cp cs w h hRB hBw ho h0 hl hnum hk
 ·exact spoil_3 R c i p xs B g n cp cs w h hRB hBw ho h0 hl hnum hk
 ·exact spoil_4 R c i p xs B g n cp cs w h hRB hBw ho h0 hl hnum hk
 ·exact spoil_5 R c i p xs B g n cp cs w h hRB hBw ho h0 hl hnum hk
 ·exact spoil_6 R c i p xs B g n cp cs w h hRB hBw ho h0 hl hnum hk
 ·exact spoil_7 R c i p xs B g n cp cs w h hRB hBw ho h0 hl hnum hk
 ·exact spoil_8 R c i p xs B g n cp cs w h hRB hBw ho h0 hl hnum hk
set_option maxHeartbeats 1000000 in
theorem l4any_any (R c i : Nat) (p : Option Addr) (xs : List Int) (w : World) (h : RdIn w R p c xs i) :
  Calls Tryz.prog 20 #[.pointer (some ⟨R, 0, none⟩)] w (TermOut w R p c xs (anyF xs i)) := by
 have HH : Hid (RdIn w R p c xs i) := h; have hr := rdI_rng h.bytes i; have hRw : R < w.heap.size := h.lt
 obtain ⟨res, er⟩ : ∃ res, res = anyF xs i := ⟨_, rfl⟩
 rw [← er]
 obtain ⟨i1, ei⟩ : ∃ i1, i1 = rdN xs i := ⟨_, rfl⟩
 obtain ⟨x, ex⟩ : ∃ x : Nat, rdI xs i = x := ⟨(rdI xs i).toNat, by omega⟩
 have hx : x < 256 := by omega
 obtain ⟨z, ez⟩ : ∃ z, z = x % 16 := ⟨_, rfl⟩
 have hz : z < 16 := by omega
 have hmz : (x : Int).tmod 16 = (z : Int) := by rw [ez, Int.tmod_eq_emod_of_nonneg (by omega)]; rfl
 have HV : Hid (res = if z = 0 then spoilF xs (drawT xs 4 i1).1 (drawT xs 4 i1).2 else drawT xs 4 i1) := by
  show _ = _
  rw [er]
  unfold anyF
  simp only; rw [← ei, ex, Int.toNat_natCast, ← ez]
 have HN1 : Hid (∀ W, RdIn W R p c xs i → Calls Tryz.prog 19 #[.pointer (some ⟨R, 0, none⟩)] W fun e w' => e = .returned (.int .i64 (x : Int)) ∧ Keep R (R + 1) W w' ∧ w'.heap.size = W.heap.size ∧ RdIn w' R p c xs i1) := fun W hW => by
  have := next_any R c i p xs W hW; rw [ex, ← ei] at this; exact this
 clear h er ei ex ez hr
 go_enter Tryz.func20, Tryz.ntmps20
 go_wp2_with fail; refine (HN1.out w HH.out).mono ?_; rintro e w2 ⟨rfl, hk2, hs2, hR2⟩; have HR2 : Hid (RdIn w2 R p c xs i1) := hR2; have HK2 : Hid (Keep R (R + 1) w w2) := hk2; clear hk2 hs2 hR2; go_wp2_with fail; refine (l4term_any R c p xs 4 4 (by decide) rfl (by decide) i1 w2 HR2.out).mono ?_; rintro e w3 ⟨q3, n3, c3, rfl, ho3, hk3, hR3⟩; obtain ⟨h1, h2, h3⟩ := drawT_mid xs i1; obtain ⟨g3, rfl, hg1, hg2⟩ := ho3.at0 h3; have HR3 : Hid (RdIn w3 R p c xs (drawT xs 4 i1).2) := hR3; have HK3 : Hid (Keep R (R + 1) w w3) := HK2.out.trans hk3; have HO3 : Hid (OwnC w3 w.heap.size (some ⟨g3, 0, none⟩) n3 c3 (drawT xs 4 i1).1) := ho3.mono HK2.out.size; have HSP := l4spoil_any R c (drawT xs 4 i1).2 p xs w.heap.size g3 n3 c3 (drawT xs 4 i1).1 w3 hR3 hRw HK3.out.size HO3.out h3 (by omega) (drawT_num xs 4 i1); clear ho3 hk3 hR3 h1 h2 h3 hg1 hg2
 by_cases hz0 : z = 0
 ·have hb : ((z : Int) == 0) = true := by rw [hz0]; rfl
  have HW : Hid (res = spoilF xs (drawT xs 4 i1).1 (drawT xs 4 i1).2) := HV.out.trans (if_pos hz0); clear hz0; go_wp2_with fail; refine HSP.mono ?_; rintro e w4 ⟨q4, n4, c4, rfl, ho4, hk4, hR4⟩
  have FIN : Hid (TermOut w R p c xs (spoilF xs (drawT xs 4 i1).1 (drawT xs 4 i1).2) (.returned (.slice q4 n4 c4)) w4) := ⟨_, _, _, rfl, ho4, HK3.out.on_kb hk4 (Nat.le_refl _), hR4⟩
  clear ho4 hk4 hR4 HSP; go_wp2_with fail; go_ret; rw [HW.out]; exact FIN.out
 ·have hb : ((z : Int) == 0) = false := by rw [beq_eq_false_iff_ne]; omega
  have HW : Hid (res = drawT xs 4 i1) := HV.out.trans (if_neg hz0); clear hz0 HSP; go_wp2_with fail; go_ret; rw [HW.out]; exact ⟨_, _, _, rfl, HO3.out, HK3.out, HR3.out⟩
end Go.Proofs.YtdmmchoicngblaaGreatDoor
