/- Texts of Dt9. Own work of the verifier. -/
import Derived.Test.YtaakpdakeolgeaaGreatUqan
namespace Go.Proofs.YtaakpdakeolgeaaGreat
open Go Go.RowKit
set_option linter.unusedVariables false
def SpoilOut (w : World) (B R : Nat) (p : Option Addr) (c : Nat) (xs : List Int) (res : List Cel × Nat) (e : Ending) (w' : World) : Prop :=
  ∃ q n cap, e = .returned (.slice q n cap) ∧ OwnC w' B q n cap res.1 ∧ Kb B R w w' ∧ RdIn w' R p c xs res.2
theorem OwnC.low2 {w w' : World} {B n c : Nat} {p : Option Addr} {cs : List Cel} (h : OwnC w B p n c cs) (hb : Below w.heap.size w w') : ∀ rs : List RC, rs.length = cs.length → w'.ownsRow B 35 3 (.slice p n c) n (flat rs) → ∀ i, i < rs.length → 0 < (rs.getD i RC.zero).2.2.2.1 → ∀ a, (rs.getD i RC.zero).2.2.1 = some a → a.block < w.heap.size := by
  intro rs hl hr
  refine h.low rs hl ⟨hr.1, ?_⟩
  rcases hr.2 with h' | ⟨g, cap, cur, hv, hB, hg, r⟩
  · exact .inl h'
  · refine .inr ⟨g, cap, cur, hv, hB, ?_, r⟩
    simp only [Value.slice.injEq] at hv
    obtain ⟨hn, rs0, hl0, hr0, _⟩ := h
    have hlt := (hr0.lt g (by rw [hv.1]; rfl)).2
    exact (hb.block g hlt).symm.trans hg
theorem one_newsF (w : World) (y : Int) : ∀ j u, ([y].map (Value.int .u8))[j]? = some u → (w.alloc (.cells #[.int .u8 y] 5)).cell? ((⟨w.heap.size, 0, none⟩ : Addr).add j) = some u := fun j u hu => by
  match j, hu with
  | 0, hu => simp at hu; rw [← hu]; simp [Addr.add, World.cell?_alloc_new]
  | j + 1, hu => simp at hu
set_option maxRecDepth 100000 in
theorem l4fill_any (m : Nat) (hm : m ≤ 1000) (w : World) : Calls Tryz.prog 76 #[.int .u8 116, .int .i64 m] w fun e w' => ∃ p n c, e = .returned (.slice p n c) ∧ OwnS w' w.heap.size p n c (List.replicate m 116) ∧ Below w.heap.size w w' := by
  go_enter Tryz.func76, Tryz.ntmps76
  go_wp2_with fail
  go_loopw [5, 6] (fun s i wr => ∃ (j n c : Nat) (p : Option Addr), j ≤ m ∧ n = j ∧ i = .int .i64 j ∧ s = .slice p n c ∧ Hid (OwnS wr w.heap.size p n c (List.replicate j 116)) ∧ Hid (Below w.heap.size w wr)) (fun _ i _ => m - (intOf i).toNat)
  case atStart => exact ⟨0, 0, 0, none, Nat.zero_le _, rfl, rfl, rfl, OwnS.nil _ _, Below.refl _ _⟩
  case round =>
    obtain ⟨j, n, c, p, hj, rfl, rfl, rfl, HO, HB⟩ := hrel
    have hBs : w.heap.size ≤ wr.heap.size := HB.out.size
    by_cases hlt : n < m
    · go_wp2_with (at_builtin; refine app_bytes _ rfl _ _ rfl w.heap.size p n c _ [116] 1 rfl rfl (HO.out.alloc _) ⟨wr.heap.size, 0, none⟩ 1 rfl (one_newsF wr 116) (by omega) (by omega) (by simp; omega) ?_; intro g4 n4 cap4 w4 hown4 hb4 hn4)
      have HO4 : Hid (OwnS w4 w.heap.size (some ⟨g4, 0, none⟩) n4 cap4 (List.replicate (n + 1) 116)) := by rw [List.replicate_succ']; exact hown4
      have HB4 : Hid (Below w.heap.size w w4) := (HB.out.alloc hBs _).trans hb4
      have hn4' : n4 = n + 1 := hn4.out
      clear hown4 hb4 hn4
      subst hn4'
      go_roundw
      case rel => exact ⟨n + 1, n + 1, cap4, _, by omega, rfl, by go_num, rfl, HO4, HB4⟩
      case measure => simp [intOf]; omega
    · obtain rfl : n = m := by omega
      go_wp2_with fail
      go_ret
      exact ⟨_, _, _, rfl, HO.out, HB.out⟩
set_option maxRecDepth 100000 in
set_option maxHeartbeats 2000000 in
theorem spoil_0 (R c i : Nat) (p : Option Addr) (xs : List Int) (B g n cp : Nat) (cs : List Cel) (w : World) (h : RdIn w R p c xs i) (hRB : R < B) (hBw : B ≤ w.heap.size) (ho : OwnC w B (some ⟨g, 0, none⟩) n cp cs) (h0 : 0 < cs.length) (hl : cs.length ≤ 600) (hnum : NumC cs) (hk : (rdI xs i).toNat % 9 = 0) :
    Calls Tryz.prog 47 #[.slice (some ⟨g, 0, none⟩) n cp, .pointer (some ⟨R, 0, none⟩)] w (SpoilOut w B R p c xs (spoilF xs cs i)) := by
  have HH : Hid (RdIn w R p c xs i) := h
  have HO : Hid (OwnC w B (some ⟨g, 0, none⟩) n cp cs) := ho
  have hn : n = cs.length := ho.1
  have hcap := ho.cap
  have hgB : B ≤ g ∧ g < w.heap.size := by obtain ⟨g', e, h1, h2⟩ := ho.at0 h0; cases e; exact ⟨h1, h2⟩
  have hr := rdI_rng h.bytes i
  have hr1 := rdI_rng h.bytes (rdN xs i)
  have hr2 := rdI_rng h.bytes (rdN xs (rdN xs i))
  obtain ⟨res, er⟩ : ∃ res, res = spoilF xs cs i := ⟨_, rfl⟩
  rw [← er]
  have HER : Hid (res = spoilF xs cs i) := er
  obtain ⟨i1, ei⟩ : ∃ i1, i1 = rdN xs i := ⟨_, rfl⟩
  obtain ⟨i2, ei2⟩ : ∃ i2, i2 = rdN xs i1 := ⟨_, rfl⟩
  rw [← ei] at hr1 hr2
  rw [← ei2] at hr2
  obtain ⟨x, ex⟩ : ∃ x : Nat, rdI xs i = x := ⟨(rdI xs i).toNat, by omega⟩
  obtain ⟨u, eu⟩ : ∃ u : Nat, rdI xs i1 = u := ⟨(rdI xs i1).toNat, by omega⟩
  obtain ⟨y, ey⟩ : ∃ y : Nat, rdI xs i2 = y := ⟨(rdI xs i2).toNat, by omega⟩
  have hx9 : (x : Int).tmod 9 = 0 := by rw [Int.tmod_eq_emod_of_nonneg (by omega)]; rw [ex] at hk; omega
  have hx : x < 256 := by omega
  have hu : u < 256 := by omega
  have hy : y < 256 := by omega
  obtain ⟨a, ea⟩ : ∃ a, a = u % cs.length := ⟨_, rfl⟩
  have hal : a < cs.length := by rw [ea]; exact Nat.mod_lt _ h0
  have han : a < n := by omega
  have hn0 : ((n : Int) == 0) = false := by rw [beq_eq_false_iff_ne]; omega
  have hma : (u : Int).tmod (n : Int) = (a : Int) := by rw [ea, hn, Int.tmod_eq_emod_of_nonneg (by omega)]; rfl
  have hn600 : n ≤ 600 := by omega
  obtain ⟨z, ez⟩ : ∃ z, z = y % 6 := ⟨_, rfl⟩
  have hz : z < 6 := by omega
  have hmz : (y : Int).tmod 6 = (z : Int) := by rw [ez, Int.tmod_eq_emod_of_nonneg (by omega)]; rfl
  have HV : Hid (res = (cs.set a ((z : Int) - 1, (cs.getD a Cel.none).2.1, (cs.getD a Cel.none).2.2), rdN xs i2)) := by
    show _ = _
    rw [HER.out]
    unfold spoilF
    simp only
    rw [← ei, ← ei2, eu, ey, Int.toNat_natCast, Int.toNat_natCast, ← ea, ← ez, hk]
    first | rfl | (rw [if_pos rfl])
  have HN1 : Hid (∀ W, RdIn W R p c xs i → Calls Tryz.prog 15 #[.pointer (some ⟨R, 0, none⟩)] W fun e w' => e = .returned (.int .i64 (x : Int)) ∧ Keep R (R + 1) W w' ∧ w'.heap.size = W.heap.size ∧ RdIn w' R p c xs i1) := fun W hW => by
    have := next_any R c i p xs W hW
    rw [ex, ← ei] at this; exact this
  have HN2 : Hid (∀ W, RdIn W R p c xs i1 → Calls Tryz.prog 15 #[.pointer (some ⟨R, 0, none⟩)] W fun e w' => e = .returned (.int .i64 (u : Int)) ∧ Keep R (R + 1) W w' ∧ w'.heap.size = W.heap.size ∧ RdIn w' R p c xs i2) := fun W hW => by
    have := next_any R c i1 p xs W hW
    rw [eu, ← ei2] at this; exact this
  have HN3 : Hid (∀ W, RdIn W R p c xs i2 → Calls Tryz.prog 15 #[.pointer (some ⟨R, 0, none⟩)] W fun e w' => e = .returned (.int .i64 (y : Int)) ∧ Keep R (R + 1) W w' ∧ w'.heap.size = W.heap.size ∧ RdIn w' R p c xs (rdN xs i2)) := fun W hW => by
    have := next_any R c i2 p xs W hW
    rw [ey] at this; exact this
  have HAL : Hid (a < cs.length) := hal
  have HNE : Hid (n = cs.length) := hn
  clear h ho er ei ei2 ex eu ey ea hn hk hnum h0 hl hr hr1 hr2 hal ez
  go_enter Tryz.func47, Tryz.ntmps47
  go_wp2_with fail
  refine (HN1.out w HH.out).mono ?_
  rintro e w2 ⟨rfl, hk2, hs2, hR2⟩
  have HR2 : Hid (RdIn w2 R p c xs i1) := hR2
  have HK2 : Hid (Keep R (R + 1) w w2) := hk2
  clear hk2 hs2 hR2
  go_wp2_with fail
  refine (HN2.out w2 HR2.out).mono ?_
  rintro e w3 ⟨rfl, hk3, hs3, hR3⟩
  have HR3 : Hid (RdIn w3 R p c xs i2) := hR3
  have HK3 : Hid (Keep R (R + 1) w w3) := HK2.out.trans hk3
  have HO3 : Hid (OwnC w3 B (some ⟨g, 0, none⟩) n cp cs) := HO.out.keepR HK3.out hRB
  have hB3 : B ≤ w3.heap.size := Nat.le_trans hBw HK3.out.size
  clear hk3 hs3 hR3
  go_wp2_with fail
  refine (HN3.out w3 HR3.out).mono ?_
  rintro e w4 ⟨rfl, hk4, hs4, hR4⟩
  have HR4 : Hid (RdIn w4 R p c xs (rdN xs i2)) := hR4
  have HK4 : Hid (Keep R (R + 1) w w4) := HK3.out.trans hk4
  have HO4 : Hid (OwnC w4 B (some ⟨g, 0, none⟩) n cp cs) := HO.out.keepR HK4.out hRB
  have hB4 : B ≤ w4.heap.size := Nat.le_trans hBw HK4.out.size
  clear hk4 hs4 hR4
  obtain ⟨k0, k1, ⟨tq, tk, td, k2⟩, kf⟩ := HO4.out.cells HAL.out
  have kf0 := kf (a * 3)
  have kf1 := kf (a * 3 + 1)
  have kf2 := kf (a * 3 + 2)
  clear kf
  have FIN : Hid (SpoilOut w B R p c xs ((cs.set a ((z : Int) - 1, (cs.getD a Cel.none).2.1, (cs.getD a Cel.none).2.2), rdN xs i2)) (.returned (.slice (some ⟨g, 0, none⟩) n cp)) (w4.setCell ⟨g, a * 3, none⟩ (.int .i64 ((z : Int) - 1)))) := ⟨_, _, _, rfl, HO4.out.setK HAL.out _, (Kb.of_keep HK4.out hBw).trans (Kb.of_below (Below.setCell (Below.refl _ _) hgB.1 _)), HR4.out.below (Below.setCell (Below.refl _ _) hgB.1 _) hRB⟩
  clear hB3
  go_wp2_with fail
  go_ret
  rw [HV.out]
  exact FIN.out
set_option maxRecDepth 100000 in
set_option maxHeartbeats 2000000 in
theorem spoil_1 (R c i : Nat) (p : Option Addr) (xs : List Int) (B g n cp : Nat) (cs : List Cel) (w : World) (h : RdIn w R p c xs i) (hRB : R < B) (hBw : B ≤ w.heap.size) (ho : OwnC w B (some ⟨g, 0, none⟩) n cp cs) (h0 : 0 < cs.length) (hl : cs.length ≤ 600) (hnum : NumC cs) (hk : (rdI xs i).toNat % 9 = 1) :
    Calls Tryz.prog 47 #[.slice (some ⟨g, 0, none⟩) n cp, .pointer (some ⟨R, 0, none⟩)] w (SpoilOut w B R p c xs (spoilF xs cs i)) := by
  have HH : Hid (RdIn w R p c xs i) := h
  have HO : Hid (OwnC w B (some ⟨g, 0, none⟩) n cp cs) := ho
  have hn : n = cs.length := ho.1
  have hcap := ho.cap
  have hgB : B ≤ g ∧ g < w.heap.size := by obtain ⟨g', e, h1, h2⟩ := ho.at0 h0; cases e; exact ⟨h1, h2⟩
  have hr := rdI_rng h.bytes i
  have hr1 := rdI_rng h.bytes (rdN xs i)
  have hr2 := rdI_rng h.bytes (rdN xs (rdN xs i))
  obtain ⟨res, er⟩ : ∃ res, res = spoilF xs cs i := ⟨_, rfl⟩
  rw [← er]
  have HER : Hid (res = spoilF xs cs i) := er
  obtain ⟨i1, ei⟩ : ∃ i1, i1 = rdN xs i := ⟨_, rfl⟩
  obtain ⟨i2, ei2⟩ : ∃ i2, i2 = rdN xs i1 := ⟨_, rfl⟩
  rw [← ei] at hr1 hr2
  rw [← ei2] at hr2
  obtain ⟨x, ex⟩ : ∃ x : Nat, rdI xs i = x := ⟨(rdI xs i).toNat, by omega⟩
  obtain ⟨u, eu⟩ : ∃ u : Nat, rdI xs i1 = u := ⟨(rdI xs i1).toNat, by omega⟩
  obtain ⟨y, ey⟩ : ∃ y : Nat, rdI xs i2 = y := ⟨(rdI xs i2).toNat, by omega⟩
  have hx9 : (x : Int).tmod 9 = 1 := by rw [Int.tmod_eq_emod_of_nonneg (by omega)]; rw [ex] at hk; omega
  have hx : x < 256 := by omega
  have hu : u < 256 := by omega
  have hy : y < 256 := by omega
  obtain ⟨a, ea⟩ : ∃ a, a = u % cs.length := ⟨_, rfl⟩
  have hal : a < cs.length := by rw [ea]; exact Nat.mod_lt _ h0
  have han : a < n := by omega
  have hn0 : ((n : Int) == 0) = false := by rw [beq_eq_false_iff_ne]; omega
  have hma : (u : Int).tmod (n : Int) = (a : Int) := by rw [ea, hn, Int.tmod_eq_emod_of_nonneg (by omega)]; rfl
  have hn600 : n ≤ 600 := by omega
  obtain ⟨v, ev⟩ : ∃ v, v = (cs.getD a Cel.none).2.1 := ⟨_, rfl⟩
  have hv : -1000000000000000 ≤ v ∧ v ≤ 1000000000000000 := by
    rw [ev, List.getD, List.getElem?_eq_getElem hal]; exact hnum _ (List.getElem_mem hal)
  have HV : Hid (res = (cs.set a ((cs.getD a Cel.none).1, v + 1, (cs.getD a Cel.none).2.2), i2)) := by
    show _ = _
    rw [HER.out]
    unfold spoilF
    simp only
    rw [← ei, ← ei2, eu, ey, Int.toNat_natCast, Int.toNat_natCast, ← ea, ← ev, hk]
    first | rfl | (rw [if_neg (by decide), if_pos rfl])
  have HN1 : Hid (∀ W, RdIn W R p c xs i → Calls Tryz.prog 15 #[.pointer (some ⟨R, 0, none⟩)] W fun e w' => e = .returned (.int .i64 (x : Int)) ∧ Keep R (R + 1) W w' ∧ w'.heap.size = W.heap.size ∧ RdIn w' R p c xs i1) := fun W hW => by
    have := next_any R c i p xs W hW
    rw [ex, ← ei] at this; exact this
  have HN2 : Hid (∀ W, RdIn W R p c xs i1 → Calls Tryz.prog 15 #[.pointer (some ⟨R, 0, none⟩)] W fun e w' => e = .returned (.int .i64 (u : Int)) ∧ Keep R (R + 1) W w' ∧ w'.heap.size = W.heap.size ∧ RdIn w' R p c xs i2) := fun W hW => by
    have := next_any R c i1 p xs W hW
    rw [eu, ← ei2] at this; exact this
  have HN3 : Hid (∀ W, RdIn W R p c xs i2 → Calls Tryz.prog 15 #[.pointer (some ⟨R, 0, none⟩)] W fun e w' => e = .returned (.int .i64 (y : Int)) ∧ Keep R (R + 1) W w' ∧ w'.heap.size = W.heap.size ∧ RdIn w' R p c xs (rdN xs i2)) := fun W hW => by
    have := next_any R c i2 p xs W hW
    rw [ey] at this; exact this
  have HAL : Hid (a < cs.length) := hal
  have HNE : Hid (n = cs.length) := hn
  clear h ho er ei ei2 ex eu ey ea hn hk hnum h0 hl hr hr1 hr2 hal 
  go_enter Tryz.func47, Tryz.ntmps47
  go_wp2_with fail
  refine (HN1.out w HH.out).mono ?_
  rintro e w2 ⟨rfl, hk2, hs2, hR2⟩
  have HR2 : Hid (RdIn w2 R p c xs i1) := hR2
  have HK2 : Hid (Keep R (R + 1) w w2) := hk2
  clear hk2 hs2 hR2
  go_wp2_with fail
  refine (HN2.out w2 HR2.out).mono ?_
  rintro e w3 ⟨rfl, hk3, hs3, hR3⟩
  have HR3 : Hid (RdIn w3 R p c xs i2) := hR3
  have HK3 : Hid (Keep R (R + 1) w w3) := HK2.out.trans hk3
  have HO3 : Hid (OwnC w3 B (some ⟨g, 0, none⟩) n cp cs) := HO.out.keepR HK3.out hRB
  have hB3 : B ≤ w3.heap.size := Nat.le_trans hBw HK3.out.size
  clear hk3 hs3 hR3
  obtain ⟨k0, k1, ⟨tq, tk, td, k2⟩, kf⟩ := HO3.out.cells HAL.out
  have kf0 := kf (a * 3)
  have kf1 := kf (a * 3 + 1)
  have kf2 := kf (a * 3 + 2)
  clear kf
  rw [← ev] at k1
  clear ev
  have FIN : Hid (SpoilOut w B R p c xs ((cs.set a ((cs.getD a Cel.none).1, v + 1, (cs.getD a Cel.none).2.2), i2)) (.returned (.slice (some ⟨g, 0, none⟩) n cp)) (w3.setCell ⟨g, a * 3 + 1, none⟩ (.int .i64 (v + 1)))) := ⟨_, _, _, rfl, HO3.out.setN HAL.out _, (Kb.of_keep HK3.out hBw).trans (Kb.of_below (Below.setCell (Below.refl _ _) hgB.1 _)), HR3.out.below (Below.setCell (Below.refl _ _) hgB.1 _) hRB⟩
  clear hB3
  go_wp2_with fail
  go_ret
  rw [HV.out]
  exact FIN.out
set_option maxRecDepth 100000 in
set_option maxHeartbeats 2000000 in
theorem spoil_2 (R c i : Nat) (p : Option Addr) (xs : List Int) (B g n cp : Nat) (cs : List Cel) (w : World) (h : RdIn w R p c xs i) (hRB : R < B) (hBw : B ≤ w.heap.size) (ho : OwnC w B (some ⟨g, 0, none⟩) n cp cs) (h0 : 0 < cs.length) (hl : cs.length ≤ 600) (hnum : NumC cs) (hk : (rdI xs i).toNat % 9 = 2) :
    Calls Tryz.prog 47 #[.slice (some ⟨g, 0, none⟩) n cp, .pointer (some ⟨R, 0, none⟩)] w (SpoilOut w B R p c xs (spoilF xs cs i)) := by
  have HH : Hid (RdIn w R p c xs i) := h
  have HO : Hid (OwnC w B (some ⟨g, 0, none⟩) n cp cs) := ho
  have hn : n = cs.length := ho.1
  have hcap := ho.cap
  have hgB : B ≤ g ∧ g < w.heap.size := by obtain ⟨g', e, h1, h2⟩ := ho.at0 h0; cases e; exact ⟨h1, h2⟩
  have hr := rdI_rng h.bytes i
  have hr1 := rdI_rng h.bytes (rdN xs i)
  have hr2 := rdI_rng h.bytes (rdN xs (rdN xs i))
  obtain ⟨res, er⟩ : ∃ res, res = spoilF xs cs i := ⟨_, rfl⟩
  rw [← er]
  have HER : Hid (res = spoilF xs cs i) := er
  obtain ⟨i1, ei⟩ : ∃ i1, i1 = rdN xs i := ⟨_, rfl⟩
  obtain ⟨i2, ei2⟩ : ∃ i2, i2 = rdN xs i1 := ⟨_, rfl⟩
  rw [← ei] at hr1 hr2
  rw [← ei2] at hr2
  obtain ⟨x, ex⟩ : ∃ x : Nat, rdI xs i = x := ⟨(rdI xs i).toNat, by omega⟩
  obtain ⟨u, eu⟩ : ∃ u : Nat, rdI xs i1 = u := ⟨(rdI xs i1).toNat, by omega⟩
  obtain ⟨y, ey⟩ : ∃ y : Nat, rdI xs i2 = y := ⟨(rdI xs i2).toNat, by omega⟩
  have hx9 : (x : Int).tmod 9 = 2 := by rw [Int.tmod_eq_emod_of_nonneg (by omega)]; rw [ex] at hk; omega
  have hx : x < 256 := by omega
  have hu : u < 256 := by omega
  have hy : y < 256 := by omega
  obtain ⟨a, ea⟩ : ∃ a, a = u % cs.length := ⟨_, rfl⟩
  have hal : a < cs.length := by rw [ea]; exact Nat.mod_lt _ h0
  have han : a < n := by omega
  have hn0 : ((n : Int) == 0) = false := by rw [beq_eq_false_iff_ne]; omega
  have hma : (u : Int).tmod (n : Int) = (a : Int) := by rw [ea, hn, Int.tmod_eq_emod_of_nonneg (by omega)]; rfl
  have hn600 : n ≤ 600 := by omega
  have HV : Hid (res = (cs.set a ((cs.getD a Cel.none).1, -1, (cs.getD a Cel.none).2.2), i2)) := by
    show _ = _
    rw [HER.out]
    unfold spoilF
    simp only
    rw [← ei, ← ei2, eu, ey, Int.toNat_natCast, Int.toNat_natCast, ← ea, hk]
    first | rfl | (rw [if_neg (by decide), if_neg (by decide), if_pos rfl])
  have HN1 : Hid (∀ W, RdIn W R p c xs i → Calls Tryz.prog 15 #[.pointer (some ⟨R, 0, none⟩)] W fun e w' => e = .returned (.int .i64 (x : Int)) ∧ Keep R (R + 1) W w' ∧ w'.heap.size = W.heap.size ∧ RdIn w' R p c xs i1) := fun W hW => by
    have := next_any R c i p xs W hW
    rw [ex, ← ei] at this; exact this
  have HN2 : Hid (∀ W, RdIn W R p c xs i1 → Calls Tryz.prog 15 #[.pointer (some ⟨R, 0, none⟩)] W fun e w' => e = .returned (.int .i64 (u : Int)) ∧ Keep R (R + 1) W w' ∧ w'.heap.size = W.heap.size ∧ RdIn w' R p c xs i2) := fun W hW => by
    have := next_any R c i1 p xs W hW
    rw [eu, ← ei2] at this; exact this
  have HN3 : Hid (∀ W, RdIn W R p c xs i2 → Calls Tryz.prog 15 #[.pointer (some ⟨R, 0, none⟩)] W fun e w' => e = .returned (.int .i64 (y : Int)) ∧ Keep R (R + 1) W w' ∧ w'.heap.size = W.heap.size ∧ RdIn w' R p c xs (rdN xs i2)) := fun W hW => by
    have := next_any R c i2 p xs W hW
    rw [ey] at this; exact this
  have HAL : Hid (a < cs.length) := hal
  have HNE : Hid (n = cs.length) := hn
  clear h ho er ei ei2 ex eu ey ea hn hk hnum h0 hl hr hr1 hr2 hal 
  go_enter Tryz.func47, Tryz.ntmps47
  go_wp2_with fail
  refine (HN1.out w HH.out).mono ?_
  rintro e w2 ⟨rfl, hk2, hs2, hR2⟩
  have HR2 : Hid (RdIn w2 R p c xs i1) := hR2
  have HK2 : Hid (Keep R (R + 1) w w2) := hk2
  clear hk2 hs2 hR2
  go_wp2_with fail
  refine (HN2.out w2 HR2.out).mono ?_
  rintro e w3 ⟨rfl, hk3, hs3, hR3⟩
  have HR3 : Hid (RdIn w3 R p c xs i2) := hR3
  have HK3 : Hid (Keep R (R + 1) w w3) := HK2.out.trans hk3
  have HO3 : Hid (OwnC w3 B (some ⟨g, 0, none⟩) n cp cs) := HO.out.keepR HK3.out hRB
  have hB3 : B ≤ w3.heap.size := Nat.le_trans hBw HK3.out.size
  clear hk3 hs3 hR3
  obtain ⟨k0, k1, ⟨tq, tk, td, k2⟩, kf⟩ := HO3.out.cells HAL.out
  have kf0 := kf (a * 3)
  have kf1 := kf (a * 3 + 1)
  have kf2 := kf (a * 3 + 2)
  clear kf
  have FIN : Hid (SpoilOut w B R p c xs ((cs.set a ((cs.getD a Cel.none).1, -1, (cs.getD a Cel.none).2.2), i2)) (.returned (.slice (some ⟨g, 0, none⟩) n cp)) (w3.setCell ⟨g, a * 3 + 1, none⟩ (.int .i64 (-1)))) := ⟨_, _, _, rfl, HO3.out.setN HAL.out _, (Kb.of_keep HK3.out hBw).trans (Kb.of_below (Below.setCell (Below.refl _ _) hgB.1 _)), HR3.out.below (Below.setCell (Below.refl _ _) hgB.1 _) hRB⟩
  clear hB3
  go_wp2_with fail
  go_ret
  rw [HV.out]
  exact FIN.out
set_option maxRecDepth 100000 in
set_option maxHeartbeats 2000000 in
theorem spoil_6 (R c i : Nat) (p : Option Addr) (xs : List Int) (B g n cp : Nat) (cs : List Cel) (w : World) (h : RdIn w R p c xs i) (hRB : R < B) (hBw : B ≤ w.heap.size) (ho : OwnC w B (some ⟨g, 0, none⟩) n cp cs) (h0 : 0 < cs.length) (hl : cs.length ≤ 600) (hnum : NumC cs) (hk : (rdI xs i).toNat % 9 = 6) :
    Calls Tryz.prog 47 #[.slice (some ⟨g, 0, none⟩) n cp, .pointer (some ⟨R, 0, none⟩)] w (SpoilOut w B R p c xs (spoilF xs cs i)) := by
  have HH : Hid (RdIn w R p c xs i) := h
  have HO : Hid (OwnC w B (some ⟨g, 0, none⟩) n cp cs) := ho
  have hn : n = cs.length := ho.1
  have hcap := ho.cap
  have hgB : B ≤ g ∧ g < w.heap.size := by obtain ⟨g', e, h1, h2⟩ := ho.at0 h0; cases e; exact ⟨h1, h2⟩
  have hr := rdI_rng h.bytes i
  have hr1 := rdI_rng h.bytes (rdN xs i)
  have hr2 := rdI_rng h.bytes (rdN xs (rdN xs i))
  obtain ⟨res, er⟩ : ∃ res, res = spoilF xs cs i := ⟨_, rfl⟩
  rw [← er]
  have HER : Hid (res = spoilF xs cs i) := er
  obtain ⟨i1, ei⟩ : ∃ i1, i1 = rdN xs i := ⟨_, rfl⟩
  obtain ⟨i2, ei2⟩ : ∃ i2, i2 = rdN xs i1 := ⟨_, rfl⟩
  rw [← ei] at hr1 hr2
  rw [← ei2] at hr2
  obtain ⟨x, ex⟩ : ∃ x : Nat, rdI xs i = x := ⟨(rdI xs i).toNat, by omega⟩
  obtain ⟨u, eu⟩ : ∃ u : Nat, rdI xs i1 = u := ⟨(rdI xs i1).toNat, by omega⟩
  obtain ⟨y, ey⟩ : ∃ y : Nat, rdI xs i2 = y := ⟨(rdI xs i2).toNat, by omega⟩
  have hx9 : (x : Int).tmod 9 = 6 := by rw [Int.tmod_eq_emod_of_nonneg (by omega)]; rw [ex] at hk; omega
  have hx : x < 256 := by omega
  have hu : u < 256 := by omega
  have hy : y < 256 := by omega
  obtain ⟨a, ea⟩ : ∃ a, a = u % cs.length := ⟨_, rfl⟩
  have hal : a < cs.length := by rw [ea]; exact Nat.mod_lt _ h0
  have han : a < n := by omega
  have hn0 : ((n : Int) == 0) = false := by rw [beq_eq_false_iff_ne]; omega
  have hma : (u : Int).tmod (n : Int) = (a : Int) := by rw [ea, hn, Int.tmod_eq_emod_of_nonneg (by omega)]; rfl
  have hn600 : n ≤ 600 := by omega
  obtain ⟨z, ez⟩ : ∃ z, z = y % 2 := ⟨_, rfl⟩
  have hz : z < 2 := by omega
  have hmz : (y : Int).tmod 2 = (z : Int) := by rw [ez, Int.tmod_eq_emod_of_nonneg (by omega)]; rfl
  have HV : Hid (res = (cs.set a ((cs.getD a Cel.none).1, 1000000000000000 + (z : Int), (cs.getD a Cel.none).2.2), rdN xs i2)) := by
    show _ = _
    rw [HER.out]
    unfold spoilF
    simp only
    rw [← ei, ← ei2, eu, ey, Int.toNat_natCast, Int.toNat_natCast, ← ea, ← ez, hk]
    first | rfl | (rw [if_neg (by decide), if_neg (by decide), if_neg (by decide), if_neg (by decide), if_neg (by decide), if_neg (by decide), if_pos rfl])
  have HN1 : Hid (∀ W, RdIn W R p c xs i → Calls Tryz.prog 15 #[.pointer (some ⟨R, 0, none⟩)] W fun e w' => e = .returned (.int .i64 (x : Int)) ∧ Keep R (R + 1) W w' ∧ w'.heap.size = W.heap.size ∧ RdIn w' R p c xs i1) := fun W hW => by
    have := next_any R c i p xs W hW
    rw [ex, ← ei] at this; exact this
  have HN2 : Hid (∀ W, RdIn W R p c xs i1 → Calls Tryz.prog 15 #[.pointer (some ⟨R, 0, none⟩)] W fun e w' => e = .returned (.int .i64 (u : Int)) ∧ Keep R (R + 1) W w' ∧ w'.heap.size = W.heap.size ∧ RdIn w' R p c xs i2) := fun W hW => by
    have := next_any R c i1 p xs W hW
    rw [eu, ← ei2] at this; exact this
  have HN3 : Hid (∀ W, RdIn W R p c xs i2 → Calls Tryz.prog 15 #[.pointer (some ⟨R, 0, none⟩)] W fun e w' => e = .returned (.int .i64 (y : Int)) ∧ Keep R (R + 1) W w' ∧ w'.heap.size = W.heap.size ∧ RdIn w' R p c xs (rdN xs i2)) := fun W hW => by
    have := next_any R c i2 p xs W hW
    rw [ey] at this; exact this
  have HAL : Hid (a < cs.length) := hal
  have HNE : Hid (n = cs.length) := hn
  clear h ho er ei ei2 ex eu ey ea hn hk hnum h0 hl hr hr1 hr2 hal ez
  go_enter Tryz.func47, Tryz.ntmps47
  go_wp2_with fail
  refine (HN1.out w HH.out).mono ?_
  rintro e w2 ⟨rfl, hk2, hs2, hR2⟩
  have HR2 : Hid (RdIn w2 R p c xs i1) := hR2
  have HK2 : Hid (Keep R (R + 1) w w2) := hk2
  clear hk2 hs2 hR2
  go_wp2_with fail
  refine (HN2.out w2 HR2.out).mono ?_
  rintro e w3 ⟨rfl, hk3, hs3, hR3⟩
  have HR3 : Hid (RdIn w3 R p c xs i2) := hR3
  have HK3 : Hid (Keep R (R + 1) w w3) := HK2.out.trans hk3
  have HO3 : Hid (OwnC w3 B (some ⟨g, 0, none⟩) n cp cs) := HO.out.keepR HK3.out hRB
  have hB3 : B ≤ w3.heap.size := Nat.le_trans hBw HK3.out.size
  clear hk3 hs3 hR3
  go_wp2_with fail
  refine (HN3.out w3 HR3.out).mono ?_
  rintro e w4 ⟨rfl, hk4, hs4, hR4⟩
  have HR4 : Hid (RdIn w4 R p c xs (rdN xs i2)) := hR4
  have HK4 : Hid (Keep R (R + 1) w w4) := HK3.out.trans hk4
  have HO4 : Hid (OwnC w4 B (some ⟨g, 0, none⟩) n cp cs) := HO.out.keepR HK4.out hRB
  have hB4 : B ≤ w4.heap.size := Nat.le_trans hBw HK4.out.size
  clear hk4 hs4 hR4
  obtain ⟨k0, k1, ⟨tq, tk, td, k2⟩, kf⟩ := HO4.out.cells HAL.out
  have kf0 := kf (a * 3)
  have kf1 := kf (a * 3 + 1)
  have kf2 := kf (a * 3 + 2)
  clear kf
  have FIN : Hid (SpoilOut w B R p c xs ((cs.set a ((cs.getD a Cel.none).1, 1000000000000000 + (z : Int), (cs.getD a Cel.none).2.2), rdN xs i2)) (.returned (.slice (some ⟨g, 0, none⟩) n cp)) (w4.setCell ⟨g, a * 3 + 1, none⟩ (.int .i64 (1000000000000000 + (z : Int))))) := ⟨_, _, _, rfl, HO4.out.setN HAL.out _, (Kb.of_keep HK4.out hBw).trans (Kb.of_below (Below.setCell (Below.refl _ _) hgB.1 _)), HR4.out.below (Below.setCell (Below.refl _ _) hgB.1 _) hRB⟩
  clear hB3
  go_wp2_with fail
  go_ret
  rw [HV.out]
  exact FIN.out
set_option maxRecDepth 100000 in
set_option maxHeartbeats 2000000 in
theorem spoil_3 (R c i : Nat) (p : Option Addr) (xs : List Int) (B g n cp : Nat) (cs : List Cel) (w : World) (h : RdIn w R p c xs i) (hRB : R < B) (hBw : B ≤ w.heap.size) (ho : OwnC w B (some ⟨g, 0, none⟩) n cp cs) (h0 : 0 < cs.length) (hl : cs.length ≤ 600) (hnum : NumC cs) (hk : (rdI xs i).toNat % 9 = 3) :
    Calls Tryz.prog 47 #[.slice (some ⟨g, 0, none⟩) n cp, .pointer (some ⟨R, 0, none⟩)] w (SpoilOut w B R p c xs (spoilF xs cs i)) := by
  have HH : Hid (RdIn w R p c xs i) := h
  have HO : Hid (OwnC w B (some ⟨g, 0, none⟩) n cp cs) := ho
  have hn : n = cs.length := ho.1
  have hcap := ho.cap
  have hgB : B ≤ g ∧ g < w.heap.size := by obtain ⟨g', e, h1, h2⟩ := ho.at0 h0; cases e; exact ⟨h1, h2⟩
  have hr := rdI_rng h.bytes i
  have hr1 := rdI_rng h.bytes (rdN xs i)
  have hr2 := rdI_rng h.bytes (rdN xs (rdN xs i))
  obtain ⟨res, er⟩ : ∃ res, res = spoilF xs cs i := ⟨_, rfl⟩
  rw [← er]
  have HER : Hid (res = spoilF xs cs i) := er
  obtain ⟨i1, ei⟩ : ∃ i1, i1 = rdN xs i := ⟨_, rfl⟩
  obtain ⟨i2, ei2⟩ : ∃ i2, i2 = rdN xs i1 := ⟨_, rfl⟩
  rw [← ei] at hr1 hr2
  rw [← ei2] at hr2
  obtain ⟨x, ex⟩ : ∃ x : Nat, rdI xs i = x := ⟨(rdI xs i).toNat, by omega⟩
  obtain ⟨u, eu⟩ : ∃ u : Nat, rdI xs i1 = u := ⟨(rdI xs i1).toNat, by omega⟩
  obtain ⟨y, ey⟩ : ∃ y : Nat, rdI xs i2 = y := ⟨(rdI xs i2).toNat, by omega⟩
  have hx9 : (x : Int).tmod 9 = 3 := by rw [Int.tmod_eq_emod_of_nonneg (by omega)]; rw [ex] at hk; omega
  have hx : x < 256 := by omega
  have hu : u < 256 := by omega
  have hy : y < 256 := by omega
  obtain ⟨a, ea⟩ : ∃ a, a = u % cs.length := ⟨_, rfl⟩
  have hal : a < cs.length := by rw [ea]; exact Nat.mod_lt _ h0
  have han : a < n := by omega
  have hn0 : ((n : Int) == 0) = false := by rw [beq_eq_false_iff_ne]; omega
  have hma : (u : Int).tmod (n : Int) = (a : Int) := by rw [ea, hn, Int.tmod_eq_emod_of_nonneg (by omega)]; rfl
  have hn600 : n ≤ 600 := by omega
  obtain ⟨m1, em1⟩ : ∃ m1, m1 = cs.length - 1 := ⟨_, rfl⟩
  have hsub : (n : Int) - 1 = (m1 : Int) := by omega
  have hm1 : m1 ≤ n := by omega
  have HV : Hid (res = (cs.take m1, i2)) := by
    show _ = _
    rw [HER.out]
    unfold spoilF
    simp only
    rw [← ei, ← ei2, eu, ey, Int.toNat_natCast, Int.toNat_natCast, ← ea, ← em1, hk]
    first | rfl | (rw [if_neg (by decide), if_neg (by decide), if_neg (by decide), if_pos rfl])
  have HN1 : Hid (∀ W, RdIn W R p c xs i → Calls Tryz.prog 15 #[.pointer (some ⟨R, 0, none⟩)] W fun e w' => e = .returned (.int .i64 (x : Int)) ∧ Keep R (R + 1) W w' ∧ w'.heap.size = W.heap.size ∧ RdIn w' R p c xs i1) := fun W hW => by
    have := next_any R c i p xs W hW
    rw [ex, ← ei] at this; exact this
  have HN2 : Hid (∀ W, RdIn W R p c xs i1 → Calls Tryz.prog 15 #[.pointer (some ⟨R, 0, none⟩)] W fun e w' => e = .returned (.int .i64 (u : Int)) ∧ Keep R (R + 1) W w' ∧ w'.heap.size = W.heap.size ∧ RdIn w' R p c xs i2) := fun W hW => by
    have := next_any R c i1 p xs W hW
    rw [eu, ← ei2] at this; exact this
  have HN3 : Hid (∀ W, RdIn W R p c xs i2 → Calls Tryz.prog 15 #[.pointer (some ⟨R, 0, none⟩)] W fun e w' => e = .returned (.int .i64 (y : Int)) ∧ Keep R (R + 1) W w' ∧ w'.heap.size = W.heap.size ∧ RdIn w' R p c xs (rdN xs i2)) := fun W hW => by
    have := next_any R c i2 p xs W hW
    rw [ey] at this; exact this
  have HAL : Hid (a < cs.length) := hal
  have HNE : Hid (n = cs.length) := hn
  clear h ho er ei ei2 ex eu ey ea hn hk hnum h0 hl hr hr1 hr2 hal em1
  go_enter Tryz.func47, Tryz.ntmps47
  go_wp2_with fail
  refine (HN1.out w HH.out).mono ?_
  rintro e w2 ⟨rfl, hk2, hs2, hR2⟩
  have HR2 : Hid (RdIn w2 R p c xs i1) := hR2
  have HK2 : Hid (Keep R (R + 1) w w2) := hk2
  clear hk2 hs2 hR2
  go_wp2_with fail
  refine (HN2.out w2 HR2.out).mono ?_
  rintro e w3 ⟨rfl, hk3, hs3, hR3⟩
  have HR3 : Hid (RdIn w3 R p c xs i2) := hR3
  have HK3 : Hid (Keep R (R + 1) w w3) := HK2.out.trans hk3
  have HO3 : Hid (OwnC w3 B (some ⟨g, 0, none⟩) n cp cs) := HO.out.keepR HK3.out hRB
  have hB3 : B ≤ w3.heap.size := Nat.le_trans hBw HK3.out.size
  clear hk3 hs3 hR3
  have FIN : Hid (SpoilOut w B R p c xs (cs.take m1, i2) (.returned (.slice (some ⟨g, 0, none⟩) m1 cp)) w3) := ⟨_, _, _, rfl, HO3.out.cut hm1, Kb.of_keep HK3.out hBw, HR3.out⟩
  have hcn : n ≤ cp := by rw [HNE.out]; exact hcap.1
  go_wp2_with fail
  go_ret
  rw [HV.out]
  exact FIN.out
set_option maxRecDepth 100000 in
set_option maxHeartbeats 2000000 in
theorem spoil_4 (R c i : Nat) (p : Option Addr) (xs : List Int) (B g n cp : Nat) (cs : List Cel) (w : World) (h : RdIn w R p c xs i) (hRB : R < B) (hBw : B ≤ w.heap.size) (ho : OwnC w B (some ⟨g, 0, none⟩) n cp cs) (h0 : 0 < cs.length) (hl : cs.length ≤ 600) (hnum : NumC cs) (hk : (rdI xs i).toNat % 9 = 4) :
    Calls Tryz.prog 47 #[.slice (some ⟨g, 0, none⟩) n cp, .pointer (some ⟨R, 0, none⟩)] w (SpoilOut w B R p c xs (spoilF xs cs i)) := by
  have HH : Hid (RdIn w R p c xs i) := h
  have HO : Hid (OwnC w B (some ⟨g, 0, none⟩) n cp cs) := ho
  have hn : n = cs.length := ho.1
  have hcap := ho.cap
  have hgB : B ≤ g ∧ g < w.heap.size := by obtain ⟨g', e, h1, h2⟩ := ho.at0 h0; cases e; exact ⟨h1, h2⟩
  have hr := rdI_rng h.bytes i
  have hr1 := rdI_rng h.bytes (rdN xs i)
  have hr2 := rdI_rng h.bytes (rdN xs (rdN xs i))
  obtain ⟨res, er⟩ : ∃ res, res = spoilF xs cs i := ⟨_, rfl⟩
  rw [← er]
  have HER : Hid (res = spoilF xs cs i) := er
  obtain ⟨i1, ei⟩ : ∃ i1, i1 = rdN xs i := ⟨_, rfl⟩
  obtain ⟨i2, ei2⟩ : ∃ i2, i2 = rdN xs i1 := ⟨_, rfl⟩
  rw [← ei] at hr1 hr2
  rw [← ei2] at hr2
  obtain ⟨x, ex⟩ : ∃ x : Nat, rdI xs i = x := ⟨(rdI xs i).toNat, by omega⟩
  obtain ⟨u, eu⟩ : ∃ u : Nat, rdI xs i1 = u := ⟨(rdI xs i1).toNat, by omega⟩
  obtain ⟨y, ey⟩ : ∃ y : Nat, rdI xs i2 = y := ⟨(rdI xs i2).toNat, by omega⟩
  have hx9 : (x : Int).tmod 9 = 4 := by rw [Int.tmod_eq_emod_of_nonneg (by omega)]; rw [ex] at hk; omega
  have hx : x < 256 := by omega
  have hu : u < 256 := by omega
  have hy : y < 256 := by omega
  obtain ⟨a, ea⟩ : ∃ a, a = u % cs.length := ⟨_, rfl⟩
  have hal : a < cs.length := by rw [ea]; exact Nat.mod_lt _ h0
  have han : a < n := by omega
  have hn0 : ((n : Int) == 0) = false := by rw [beq_eq_false_iff_ne]; omega
  have hma : (u : Int).tmod (n : Int) = (a : Int) := by rw [ea, hn, Int.tmod_eq_emod_of_nonneg (by omega)]; rfl
  have hn600 : n ≤ 600 := by omega
  have HV : Hid (res = (cs ++ [(2, 0, [])], i2)) := by
    show _ = _
    rw [HER.out]
    unfold spoilF
    simp only
    rw [← ei, ← ei2, eu, ey, Int.toNat_natCast, Int.toNat_natCast, ← ea, hk]
    first | rfl | (rw [if_neg (by decide), if_neg (by decide), if_neg (by decide), if_neg (by decide), if_pos rfl])
  have HN1 : Hid (∀ W, RdIn W R p c xs i → Calls Tryz.prog 15 #[.pointer (some ⟨R, 0, none⟩)] W fun e w' => e = .returned (.int .i64 (x : Int)) ∧ Keep R (R + 1) W w' ∧ w'.heap.size = W.heap.size ∧ RdIn w' R p c xs i1) := fun W hW => by
    have := next_any R c i p xs W hW
    rw [ex, ← ei] at this; exact this
  have HN2 : Hid (∀ W, RdIn W R p c xs i1 → Calls Tryz.prog 15 #[.pointer (some ⟨R, 0, none⟩)] W fun e w' => e = .returned (.int .i64 (u : Int)) ∧ Keep R (R + 1) W w' ∧ w'.heap.size = W.heap.size ∧ RdIn w' R p c xs i2) := fun W hW => by
    have := next_any R c i1 p xs W hW
    rw [eu, ← ei2] at this; exact this
  have HN3 : Hid (∀ W, RdIn W R p c xs i2 → Calls Tryz.prog 15 #[.pointer (some ⟨R, 0, none⟩)] W fun e w' => e = .returned (.int .i64 (y : Int)) ∧ Keep R (R + 1) W w' ∧ w'.heap.size = W.heap.size ∧ RdIn w' R p c xs (rdN xs i2)) := fun W hW => by
    have := next_any R c i2 p xs W hW
    rw [ey] at this; exact this
  have HAL : Hid (a < cs.length) := hal
  have HNE : Hid (n = cs.length) := hn
  clear h ho er ei ei2 ex eu ey ea hn hk hnum h0 hl hr hr1 hr2 hal
  go_enter Tryz.func47, Tryz.ntmps47
  go_wp2_with fail
  refine (HN1.out w HH.out).mono ?_
  rintro e w2 ⟨rfl, hk2, hs2, hR2⟩
  have HR2 : Hid (RdIn w2 R p c xs i1) := hR2
  have HK2 : Hid (Keep R (R + 1) w w2) := hk2
  clear hk2 hs2 hR2
  go_wp2_with fail
  refine (HN2.out w2 HR2.out).mono ?_
  rintro e w3 ⟨rfl, hk3, hs3, hR3⟩
  have HR3 : Hid (RdIn w3 R p c xs i2) := hR3
  have HK3 : Hid (Keep R (R + 1) w w3) := HK2.out.trans hk3
  have HO3 : Hid (OwnC w3 B (some ⟨g, 0, none⟩) n cp cs) := HO.out.keepR HK3.out hRB
  have hB3 : B ≤ w3.heap.size := Nat.le_trans hBw HK3.out.size
  clear hk3 hs3 hR3
  have hbA : Below w3.heap.size w3 (w3.alloc (Obj.cells #[Value.int IntKind.i64 2, Value.int IntKind.i64 0, Value.slice none 0 0] 35)) := (Below.refl _ _).alloc (Nat.le_refl _) _
  have HBA : Hid _ := hbA
  have HBX : Hid (Box3 (w3.alloc (Obj.cells #[Value.int IntKind.i64 2, Value.int IntKind.i64 0, Value.slice none 0 0] 35)) w3.heap.size (.int .i64 2) (.int .i64 0) (.slice none 0 0)) := Box3.of_block (t := 35) (heap_alloc_new w3 _)
  have HOT : Hid (OwnT (w3.alloc (Obj.cells #[Value.int IntKind.i64 2, Value.int IntKind.i64 0, Value.slice none 0 0] 35)) w3.heap.size none 0 0 []) := ⟨rfl, fun h => absurd h (by decide)⟩
  clear hbA
  go_wp2_with (at_builtin; refine app_cell w3 _ rfl _ _ rfl B (some ⟨g, 0, none⟩) n cp _ rfl HO3.out HBA.out hB3 ⟨w3.heap.size, 0, none⟩ 1 rfl 2 0 none 0 0 [] HOT.out (news_rc HBX.out) (by omega) ?_; intro g4 n4 cap4 w4 hown4 hb4 hn4)
  have hbb : Below B w3 w4 := (HBA.out.mono hB3).trans hb4
  have FIN : Hid (SpoilOut w B R p c xs (cs ++ [(2, 0, [])], i2) (.returned (.slice (some ⟨g4, 0, none⟩) n4 cap4)) w4) := ⟨_, _, _, rfl, hown4, (Kb.of_keep HK3.out hBw).trans (Kb.of_below hbb), HR3.out.below hbb hRB⟩
  clear hown4 hb4 hbb
  go_wp2_with fail
  go_ret
  rw [HV.out]
  exact FIN.out
set_option maxRecDepth 100000 in
set_option maxHeartbeats 2000000 in
theorem spoil_5 (R c i : Nat) (p : Option Addr) (xs : List Int) (B g n cp : Nat) (cs : List Cel) (w : World) (h : RdIn w R p c xs i) (hRB : R < B) (hBw : B ≤ w.heap.size) (ho : OwnC w B (some ⟨g, 0, none⟩) n cp cs) (h0 : 0 < cs.length) (hl : cs.length ≤ 600) (hnum : NumC cs) (hk : (rdI xs i).toNat % 9 = 5) :
    Calls Tryz.prog 47 #[.slice (some ⟨g, 0, none⟩) n cp, .pointer (some ⟨R, 0, none⟩)] w (SpoilOut w B R p c xs (spoilF xs cs i)) := by
  have HH : Hid (RdIn w R p c xs i) := h
  have HO : Hid (OwnC w B (some ⟨g, 0, none⟩) n cp cs) := ho
  have hn : n = cs.length := ho.1
  have hcap := ho.cap
  have hgB : B ≤ g ∧ g < w.heap.size := by obtain ⟨g', e, h1, h2⟩ := ho.at0 h0; cases e; exact ⟨h1, h2⟩
  have hr := rdI_rng h.bytes i
  have hr1 := rdI_rng h.bytes (rdN xs i)
  have hr2 := rdI_rng h.bytes (rdN xs (rdN xs i))
  obtain ⟨res, er⟩ : ∃ res, res = spoilF xs cs i := ⟨_, rfl⟩
  rw [← er]
  have HER : Hid (res = spoilF xs cs i) := er
  obtain ⟨i1, ei⟩ : ∃ i1, i1 = rdN xs i := ⟨_, rfl⟩
  obtain ⟨i2, ei2⟩ : ∃ i2, i2 = rdN xs i1 := ⟨_, rfl⟩
  rw [← ei] at hr1 hr2
  rw [← ei2] at hr2
  obtain ⟨x, ex⟩ : ∃ x : Nat, rdI xs i = x := ⟨(rdI xs i).toNat, by omega⟩
  obtain ⟨u, eu⟩ : ∃ u : Nat, rdI xs i1 = u := ⟨(rdI xs i1).toNat, by omega⟩
  obtain ⟨y, ey⟩ : ∃ y : Nat, rdI xs i2 = y := ⟨(rdI xs i2).toNat, by omega⟩
  have hx9 : (x : Int).tmod 9 = 5 := by rw [Int.tmod_eq_emod_of_nonneg (by omega)]; rw [ex] at hk; omega
  have hx : x < 256 := by omega
  have hu : u < 256 := by omega
  have hy : y < 256 := by omega
  obtain ⟨a, ea⟩ : ∃ a, a = u % cs.length := ⟨_, rfl⟩
  have hal : a < cs.length := by rw [ea]; exact Nat.mod_lt _ h0
  have han : a < n := by omega
  have hn0 : ((n : Int) == 0) = false := by rw [beq_eq_false_iff_ne]; omega
  have hma : (u : Int).tmod (n : Int) = (a : Int) := by rw [ea, hn, Int.tmod_eq_emod_of_nonneg (by omega)]; rfl
  have hn600 : n ≤ 600 := by omega
  obtain ⟨z, ez⟩ : ∃ z, z = y % 2 := ⟨_, rfl⟩
  have hz : z < 2 := by omega
  have hmz : (y : Int).tmod 2 = (z : Int) := by rw [ez, Int.tmod_eq_emod_of_nonneg (by omega)]; rfl
  obtain ⟨mm, emm⟩ : ∃ mm, mm = 100 + z := ⟨_, rfl⟩
  have hadd : (100 : Int) + (z : Int) = (mm : Int) := by omega
  have hmm : mm ≤ 1000 := by omega
  have HV : Hid (res = (cs.set a ((cs.getD a Cel.none).1, (cs.getD a Cel.none).2.1, List.replicate mm 116), rdN xs i2)) := by
    show _ = _
    rw [HER.out]
    unfold spoilF
    simp only
    rw [← ei, ← ei2, eu, ey, Int.toNat_natCast, Int.toNat_natCast, ← ea, ← ez, ← emm, hk]
    first | rfl | (rw [if_neg (by decide), if_neg (by decide), if_neg (by decide), if_neg (by decide), if_neg (by decide), if_pos rfl])
  have HN1 : Hid (∀ W, RdIn W R p c xs i → Calls Tryz.prog 15 #[.pointer (some ⟨R, 0, none⟩)] W fun e w' => e = .returned (.int .i64 (x : Int)) ∧ Keep R (R + 1) W w' ∧ w'.heap.size = W.heap.size ∧ RdIn w' R p c xs i1) := fun W hW => by
    have := next_any R c i p xs W hW
    rw [ex, ← ei] at this; exact this
  have HN2 : Hid (∀ W, RdIn W R p c xs i1 → Calls Tryz.prog 15 #[.pointer (some ⟨R, 0, none⟩)] W fun e w' => e = .returned (.int .i64 (u : Int)) ∧ Keep R (R + 1) W w' ∧ w'.heap.size = W.heap.size ∧ RdIn w' R p c xs i2) := fun W hW => by
    have := next_any R c i1 p xs W hW
    rw [eu, ← ei2] at this; exact this
  have HN3 : Hid (∀ W, RdIn W R p c xs i2 → Calls Tryz.prog 15 #[.pointer (some ⟨R, 0, none⟩)] W fun e w' => e = .returned (.int .i64 (y : Int)) ∧ Keep R (R + 1) W w' ∧ w'.heap.size = W.heap.size ∧ RdIn w' R p c xs (rdN xs i2)) := fun W hW => by
    have := next_any R c i2 p xs W hW
    rw [ey] at this; exact this
  have HAL : Hid (a < cs.length) := hal
  have HNE : Hid (n = cs.length) := hn
  clear h ho er ei ei2 ex eu ey ea hn hk hnum h0 hl hr hr1 hr2 hal ez emm
  go_enter Tryz.func47, Tryz.ntmps47
  go_wp2_with fail
  refine (HN1.out w HH.out).mono ?_
  rintro e w2 ⟨rfl, hk2, hs2, hR2⟩
  have HR2 : Hid (RdIn w2 R p c xs i1) := hR2
  have HK2 : Hid (Keep R (R + 1) w w2) := hk2
  clear hk2 hs2 hR2
  go_wp2_with fail
  refine (HN2.out w2 HR2.out).mono ?_
  rintro e w3 ⟨rfl, hk3, hs3, hR3⟩
  have HR3 : Hid (RdIn w3 R p c xs i2) := hR3
  have HK3 : Hid (Keep R (R + 1) w w3) := HK2.out.trans hk3
  have HO3 : Hid (OwnC w3 B (some ⟨g, 0, none⟩) n cp cs) := HO.out.keepR HK3.out hRB
  have hB3 : B ≤ w3.heap.size := Nat.le_trans hBw HK3.out.size
  clear hk3 hs3 hR3
  go_wp2_with fail
  refine (HN3.out w3 HR3.out).mono ?_
  rintro e w4 ⟨rfl, hk4, hs4, hR4⟩
  have HR4 : Hid (RdIn w4 R p c xs (rdN xs i2)) := hR4
  have HK4 : Hid (Keep R (R + 1) w w4) := HK3.out.trans hk4
  have HO4 : Hid (OwnC w4 B (some ⟨g, 0, none⟩) n cp cs) := HO.out.keepR HK4.out hRB
  have hB4 : B ≤ w4.heap.size := Nat.le_trans hBw HK4.out.size
  clear hk4 hs4 hR4
  go_wp2_with fail
  refine (l4fill_any mm hmm w4).mono ?_
  rintro e w5 ⟨p5, n5, c5, rfl, hs5, hb5⟩
  have hgw : g < w4.heap.size := Nat.lt_of_lt_of_le hgB.2 HK4.out.size
  have ho5 := HO4.out.below hb5
  obtain ⟨k0, k1, ⟨tq, tk, td, k2⟩, kf⟩ := ho5.cells HAL.out
  have kf2 := kf (a * 3 + 2)
  have hown := ho5.setT HAL.out hB4 hgw (HO4.out.low2 hb5) hs5.toT
  have hbb : Below B w4 (w5.setCell ⟨g, a * 3 + 2, none⟩ (.slice p5 n5 c5)) := Below.setCell (hb5.mono hB4) hgB.1 _
  have FIN : Hid (SpoilOut w B R p c xs (cs.set a ((cs.getD a Cel.none).1, (cs.getD a Cel.none).2.1, List.replicate mm 116), rdN xs i2) (.returned (.slice (some ⟨g, 0, none⟩) n cp)) (w5.setCell ⟨g, a * 3 + 2, none⟩ (.slice p5 n5 c5))) := ⟨_, _, _, rfl, hown, (Kb.of_keep HK4.out hBw).trans (Kb.of_below hbb), HR4.out.below hbb hRB⟩
  clear hs5 hb5 ho5 hown hbb kf
  go_wp2_with fail
  go_ret
  rw [HV.out]
  exact FIN.out
set_option maxRecDepth 100000 in
set_option maxHeartbeats 2000000 in
theorem spoil_8 (R c i : Nat) (p : Option Addr) (xs : List Int) (B g n cp : Nat) (cs : List Cel) (w : World) (h : RdIn w R p c xs i) (hRB : R < B) (hBw : B ≤ w.heap.size) (ho : OwnC w B (some ⟨g, 0, none⟩) n cp cs) (h0 : 0 < cs.length) (hl : cs.length ≤ 600) (hnum : NumC cs) (hk : (rdI xs i).toNat % 9 = 8) :
    Calls Tryz.prog 47 #[.slice (some ⟨g, 0, none⟩) n cp, .pointer (some ⟨R, 0, none⟩)] w (SpoilOut w B R p c xs (spoilF xs cs i)) := by
  have HH : Hid (RdIn w R p c xs i) := h
  have HO : Hid (OwnC w B (some ⟨g, 0, none⟩) n cp cs) := ho
  have hn : n = cs.length := ho.1
  have hcap := ho.cap
  have hgB : B ≤ g ∧ g < w.heap.size := by obtain ⟨g', e, h1, h2⟩ := ho.at0 h0; cases e; exact ⟨h1, h2⟩
  have hr := rdI_rng h.bytes i
  have hr1 := rdI_rng h.bytes (rdN xs i)
  have hr2 := rdI_rng h.bytes (rdN xs (rdN xs i))
  obtain ⟨res, er⟩ : ∃ res, res = spoilF xs cs i := ⟨_, rfl⟩
  rw [← er]
  have HER : Hid (res = spoilF xs cs i) := er
  obtain ⟨i1, ei⟩ : ∃ i1, i1 = rdN xs i := ⟨_, rfl⟩
  obtain ⟨i2, ei2⟩ : ∃ i2, i2 = rdN xs i1 := ⟨_, rfl⟩
  rw [← ei] at hr1 hr2
  rw [← ei2] at hr2
  obtain ⟨x, ex⟩ : ∃ x : Nat, rdI xs i = x := ⟨(rdI xs i).toNat, by omega⟩
  obtain ⟨u, eu⟩ : ∃ u : Nat, rdI xs i1 = u := ⟨(rdI xs i1).toNat, by omega⟩
  obtain ⟨y, ey⟩ : ∃ y : Nat, rdI xs i2 = y := ⟨(rdI xs i2).toNat, by omega⟩
  have hx9 : (x : Int).tmod 9 = 8 := by rw [Int.tmod_eq_emod_of_nonneg (by omega)]; rw [ex] at hk; omega
  have hx : x < 256 := by omega
  have hu : u < 256 := by omega
  have hy : y < 256 := by omega
  obtain ⟨a, ea⟩ : ∃ a, a = u % cs.length := ⟨_, rfl⟩
  have hal : a < cs.length := by rw [ea]; exact Nat.mod_lt _ h0
  have han : a < n := by omega
  have hn0 : ((n : Int) == 0) = false := by rw [beq_eq_false_iff_ne]; omega
  have hma : (u : Int).tmod (n : Int) = (a : Int) := by rw [ea, hn, Int.tmod_eq_emod_of_nonneg (by omega)]; rfl
  have hn600 : n ≤ 600 := by omega
  obtain ⟨z, ez⟩ : ∃ z, z = y % 2 := ⟨_, rfl⟩
  have hz : z < 2 := by omega
  have hmz : (y : Int).tmod 2 = (z : Int) := by rw [ez, Int.tmod_eq_emod_of_nonneg (by omega)]; rfl
  have HV : Hid (res = (cs.set a (0, 1000000 + (z : Int), []), rdN xs i2)) := by
    show _ = _
    rw [HER.out]
    unfold spoilF
    simp only
    rw [← ei, ← ei2, eu, ey, Int.toNat_natCast, Int.toNat_natCast, ← ea, ← ez, hk]
    first | rfl | (rw [if_neg (by decide), if_neg (by decide), if_neg (by decide), if_neg (by decide), if_neg (by decide), if_neg (by decide), if_neg (by decide), if_neg (by decide)])
  have HN1 : Hid (∀ W, RdIn W R p c xs i → Calls Tryz.prog 15 #[.pointer (some ⟨R, 0, none⟩)] W fun e w' => e = .returned (.int .i64 (x : Int)) ∧ Keep R (R + 1) W w' ∧ w'.heap.size = W.heap.size ∧ RdIn w' R p c xs i1) := fun W hW => by
    have := next_any R c i p xs W hW
    rw [ex, ← ei] at this; exact this
  have HN2 : Hid (∀ W, RdIn W R p c xs i1 → Calls Tryz.prog 15 #[.pointer (some ⟨R, 0, none⟩)] W fun e w' => e = .returned (.int .i64 (u : Int)) ∧ Keep R (R + 1) W w' ∧ w'.heap.size = W.heap.size ∧ RdIn w' R p c xs i2) := fun W hW => by
    have := next_any R c i1 p xs W hW
    rw [eu, ← ei2] at this; exact this
  have HN3 : Hid (∀ W, RdIn W R p c xs i2 → Calls Tryz.prog 15 #[.pointer (some ⟨R, 0, none⟩)] W fun e w' => e = .returned (.int .i64 (y : Int)) ∧ Keep R (R + 1) W w' ∧ w'.heap.size = W.heap.size ∧ RdIn w' R p c xs (rdN xs i2)) := fun W hW => by
    have := next_any R c i2 p xs W hW
    rw [ey] at this; exact this
  have HAL : Hid (a < cs.length) := hal
  have HNE : Hid (n = cs.length) := hn
  clear h ho er ei ei2 ex eu ey ea hn hk hnum h0 hl hr hr1 hr2 hal ez
  go_enter Tryz.func47, Tryz.ntmps47
  go_wp2_with fail
  refine (HN1.out w HH.out).mono ?_
  rintro e w2 ⟨rfl, hk2, hs2, hR2⟩
  have HR2 : Hid (RdIn w2 R p c xs i1) := hR2
  have HK2 : Hid (Keep R (R + 1) w w2) := hk2
  clear hk2 hs2 hR2
  go_wp2_with fail
  refine (HN2.out w2 HR2.out).mono ?_
  rintro e w3 ⟨rfl, hk3, hs3, hR3⟩
  have HR3 : Hid (RdIn w3 R p c xs i2) := hR3
  have HK3 : Hid (Keep R (R + 1) w w3) := HK2.out.trans hk3
  have HO3 : Hid (OwnC w3 B (some ⟨g, 0, none⟩) n cp cs) := HO.out.keepR HK3.out hRB
  have hB3 : B ≤ w3.heap.size := Nat.le_trans hBw HK3.out.size
  clear hk3 hs3 hR3
  go_wp2_with fail
  refine (HN3.out w3 HR3.out).mono ?_
  rintro e w4 ⟨rfl, hk4, hs4, hR4⟩
  have HR4 : Hid (RdIn w4 R p c xs (rdN xs i2)) := hR4
  have HK4 : Hid (Keep R (R + 1) w w4) := HK3.out.trans hk4
  have HO4 : Hid (OwnC w4 B (some ⟨g, 0, none⟩) n cp cs) := HO.out.keepR HK4.out hRB
  have hB4 : B ≤ w4.heap.size := Nat.le_trans hBw HK4.out.size
  clear hk4 hs4 hR4
  obtain ⟨k0, k1, ⟨tq, tk, td, k2⟩, kf⟩ := HO4.out.cells HAL.out
  have kf0 := kf (a * 3)
  have kf1 := kf (a * 3 + 1)
  have kf2 := kf (a * 3 + 2)
  clear kf
  have o1 := HO4.out.setK HAL.out 0
  have o2 := o1.setN (j := a) (by rw [List.length_set]; exact HAL.out) (1000000 + (z : Int))
  have o3 := o2.setT (j := a) (M := w4.heap.size) (tp := none) (tn := 0) (tc := 0) (s := []) (by rw [List.length_set, List.length_set]; exact HAL.out) hB4 (Nat.lt_of_lt_of_le hgB.2 HK4.out.size) (by have := o2.low; simpa using this) ⟨rfl, fun h => absurd h (by decide)⟩
  have el : ((cs.set a (0, (cs.getD a Cel.none).2)).set a (((cs.set a (0, (cs.getD a Cel.none).2)).getD a Cel.none).1, 1000000 + (z : Int), ((cs.set a (0, (cs.getD a Cel.none).2)).getD a Cel.none).2.2)) = cs.set a (0, 1000000 + (z : Int), (cs.getD a Cel.none).2.2) := by
    rw [List.set_set, cs_set_at _ _ _ _ HAL.out, if_pos rfl]
  have e4 : (cs.set a (0, 1000000 + (z : Int), (cs.getD a Cel.none).2.2)).set a (((cs.set a (0, 1000000 + (z : Int), (cs.getD a Cel.none).2.2)).getD a Cel.none).1, ((cs.set a (0, 1000000 + (z : Int), (cs.getD a Cel.none).2.2)).getD a Cel.none).2.1, []) = cs.set a (0, 1000000 + (z : Int), []) := by
    rw [List.set_set, cs_set_at _ _ _ _ HAL.out, if_pos rfl]
  rw [el, e4] at o3
  have hbb : Below B w4 (((w4.setCell ⟨g, a * 3, none⟩ (.int .i64 0)).setCell ⟨g, a * 3 + 1, none⟩ (.int .i64 (1000000 + (z : Int)))).setCell ⟨g, a * 3 + 2, none⟩ (.slice none 0 0)) := Below.setCell (Below.setCell (Below.setCell (Below.refl _ _) hgB.1 _) hgB.1 _) hgB.1 _
  have FIN : Hid (SpoilOut w B R p c xs (cs.set a (0, 1000000 + (z : Int), []), rdN xs i2) (.returned (.slice (some ⟨g, 0, none⟩) n cp)) (((w4.setCell ⟨g, a * 3, none⟩ (.int .i64 0)).setCell ⟨g, a * 3 + 1, none⟩ (.int .i64 (1000000 + (z : Int)))).setCell ⟨g, a * 3 + 2, none⟩ (.slice none 0 0))) := ⟨_, _, _, rfl, o3, (Kb.of_keep HK4.out hBw).trans (Kb.of_below hbb), HR4.out.below hbb hRB⟩
  clear o1 o2 o3 el e4 hbb
  go_wp2_with fail
  go_ret
  rw [HV.out]
  exact FIN.out
end Go.Proofs.YtaakpdakeolgeaaGreat

