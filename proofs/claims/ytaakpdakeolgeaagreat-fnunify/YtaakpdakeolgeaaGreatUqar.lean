/- Texts of Dt15, Dt16, PrP, SubP. Own work of the verifier. -/
import Derived.Test.YtaakpdakeolgeaaGreatUqaq
import Derived.Test.YtaakpdakeolgeaaGreatUqae
import Derived.Deep.RegionWith
import Derived.Test.YtaakpdakeolgeaaGreatUqaf
namespace Go.Proofs.YtaakpdakeolgeaaGreat
open Go Go.RowKit
set_option linter.unusedVariables false
theorem OwnC.same {w W : World} {B n c : Nat} {p : Option Addr} {cs : List Cel} (h : OwnC w B p n c cs) (hs : w.heap.size ≤ W.heap.size) (hb : ∀ k, B ≤ k → k < w.heap.size → W.heap[k]? = w.heap[k]?) : OwnC W B p n c cs := by
  obtain ⟨rfl, rs, hl, hr, hf, ha⟩ := h
  refine ⟨rfl, rs, hl, ⟨hr.1, ?_⟩, fun i hi => ⟨(hf i hi).1, (hf i hi).2.1, (hf i hi).2.2.other hs (fun g hn e => ?_)⟩, ha⟩
  · rcases hr.2 with h' | ⟨g, cap, cur, hv, hB, hg, r⟩
    · exact .inl h'
    · exact .inr ⟨g, cap, cur, hv, hB, (hb g hB (Array.getElem?_eq_some_iff.1 hg).1).trans hg, r⟩
  · obtain ⟨g', e', hB, hlt, _⟩ := (hf i hi).2.2.2 hn
    rw [e] at e'
    cases e'
    exact hb g hB hlt
def FarC (w : World) (g : Nat) (p : Option Addr) (cs : List Cel) : Prop := ∀ W : World, w.heap.size ≤ W.heap.size → (∀ k, k ≠ g → k < w.heap.size → W.heap[k]? = w.heap[k]?) → CIn W p cs
def DrawSO (w : World) (r : List Cel × List Cel) (e : Ending) (w' : World) : Prop :=
  ∃ p1 n1 c1 p2 n2 c2, e = .returned (.tuple #[.slice p1 n1 c1, .slice p2 n2 c2]) ∧ (n1 = r.1.length ∧ CIn w' p1 r.1 ∧ r.1.length ≤ c1 ∧ c1 ≤ 9223372036854775807) ∧ (n2 = r.2.length ∧ CIn w' p2 r.2 ∧ r.2.length ≤ c2 ∧ c2 ≤ 9223372036854775807) ∧ Below w.heap.size w w' ∧
    (validB r.1 = true → validB r.2 = true → ∃ g, p2 = some ⟨g, 0, none⟩ ∧ OwnC w' w.heap.size p2 n2 c2 r.2 ∧ FarC w' g p1 r.1)
theorem alike_pos (ys : List Int) : ∀ (F : Fo) (i : Nat), 0 < F.cells.length → 0 < (alikeF ys F i).1.length
  | .nil, i, h => by simp [Fo.cells] at h
  | .node c k r, i, h => by
    simp only [alikeF]
    split
    · simp
    split <;> simp
set_option maxRecDepth 100000 in
set_option maxHeartbeats 4000000 in
theorem drawS_0 (p : Option Addr) (c : Nat) (xs : List Int) (w : World) (hb : Bytes xs) (hn : xs.length ≤ 1048576) (hc : xs.length ≤ c) (hx : BIn w p xs) (hval : validB (anyF (xs.take 500) (rdN (xs.take 500) 0)).1 = false) :
    Calls Tryz.prog 11 #[.slice p xs.length c] w (DrawSO w (drawS (xs.take 500))) := by
  have HOP := l4open_any p c xs w hb hn hc hx
  obtain ⟨ys, ey⟩ : ∃ ys, ys = xs.take 500 := ⟨_, rfl⟩
  rw [← ey] at HOP hval ⊢
  obtain ⟨res, er⟩ : ∃ res, res = drawS ys := ⟨_, rfl⟩
  rw [← er]
  obtain ⟨R, eR⟩ : ∃ R, R = w.heap.size := ⟨_, rfl⟩
  have HRW : Hid (R = w.heap.size) := eR
  rw [← eR] at HOP
  have hby : Bytes ys := fun x hx => hb x (by rw [ey] at hx; exact List.mem_of_mem_take hx)
  obtain ⟨i1, ei⟩ : ∃ i1, i1 = rdN ys 0 := ⟨_, rfl⟩
  obtain ⟨A, eA⟩ : ∃ A, A = anyF ys i1 := ⟨_, rfl⟩
  have hrx := rdI_rng hby 0
  obtain ⟨x, ex⟩ : ∃ x : Nat, rdI ys 0 = x := ⟨(rdI ys 0).toNat, by omega⟩
  have hx2 : x < 256 := by omega
  rw [← ei, ← eA] at hval
  obtain ⟨z, ez⟩ : ∃ z, z = x % 4 := ⟨_, rfl⟩
  have hz : z < 4 := by omega
  have hmz : (x : Int).tmod 4 = (z : Int) := by rw [ez, Int.tmod_eq_emod_of_nonneg (by omega)]; rfl
  have hBD : Bd A.1 := by rw [eA]; exact any_bd _ _
  have HBD : Hid (Bd A.1) := hBD
  have HTL : Hid (tl A.1 ≤ 12000) := by rw [eA]; exact (anyF_mid ys i1).1.txt
  have HN1 : Hid (∀ W, RdIn W R p c ys 0 → Calls Tryz.prog 15 #[.pointer (some ⟨R, 0, none⟩)] W fun e w' => e = .returned (.int .i64 (x : Int)) ∧ Keep R (R + 1) W w' ∧ w'.heap.size = W.heap.size ∧ RdIn w' R p c ys i1) := fun W hW => by
    have := next_any R c 0 p ys W hW
    rw [ex, ← ei] at this; exact this
  have HANY : Hid (∀ W, RdIn W R p c ys i1 → Calls Tryz.prog 16 #[.pointer (some ⟨R, 0, none⟩)] W (TermOut W R p c ys A)) := fun W hW => by
    have := l4any_any R c i1 p ys W hW
    rw [← eA] at this; exact this
  have HV : Hid (res = (A.1, A.1)) := by
    show _ = _
    rw [er]
    unfold drawS
    simp only
    rw [← ei, ← eA, if_pos hval]
  obtain ⟨nx, enx⟩ : ∃ nx, nx = xs.length := ⟨_, rfl⟩
  rw [← enx] at HOP ⊢
  clear ey er eR ei eA ex ez enx hb hn hc hx hrx hBD 
  go_enter Tryz.func11, Tryz.ntmps11
  go_wp2_with fail
  refine HOP.mono ?_
  rintro e w1 ⟨rfl, hb1, hs1, hR1⟩
  have HB1 : Hid (Below R w w1) := hb1
  have HR1 : Hid (RdIn w1 R p c ys 0) := hR1
  have hsz1 : R + 1 ≤ w1.heap.size := by omega
  clear hb1 hs1 hR1 HOP
  go_wp2_with fail
  refine (HN1.out w1 HR1.out).mono ?_
  rintro e w2 ⟨rfl, hk2, hs2, hR2⟩
  have HR2 : Hid (RdIn w2 R p c ys i1) := hR2
  have HK2 : Hid (Keep R (R + 1) w1 w2) := hk2
  have hsz2 : R < w2.heap.size := by have := hk2.size; omega
  clear hk2 hs2 hR2
  go_wp2_with fail
  refine (HANY.out w2 HR2.out).mono ?_
  rintro e w3 ⟨q3, n3, c3, rfl, ho3, hk3, hR3⟩
  have HO3 : Hid (OwnC w3 w2.heap.size q3 n3 c3 A.1) := ho3
  have HR3 : Hid (RdIn w3 R p c ys A.2) := hR3
  have HK3 : Hid (Keep R (R + 1) w1 w3) := HK2.out.trans hk3
  have HLO : Hid (∀ W, Keep R (R + 1) w1 W → Below w.heap.size w W) := fun W hW => by rw [← HRW.out]; exact below_onK HB1.out hW (by omega)
  have hn3 : n3 = A.1.length := ho3.1
  have HN3 : Hid (n3 = A.1.length) := hn3
  have HV3 : Hid (∀ b, validB A.1 = b → Calls Tryz.prog 17 #[.slice q3 n3 c3] w3 fun e w' => e = .returned (.bool b) ∧ Below w3.heap.size w3 w') := fun b h => by
    have := specValid_any q3 c3 A.1 w3 (by have := HBD.out.len; omega) ho3.cin
    rw [h, ← hn3] at this; exact this
  have hsz3 : w2.heap.size ≤ w3.heap.size := hk3.size
  clear ho3 hR3 hk3 hn3
  have HVV := HV3.out false hval
  have hvd : True := trivial
  go_wp2_with fail
  refine HVV.mono ?_
  rintro e w4 ⟨rfl, hb4⟩
  have HO4 : Hid (OwnC w4 w2.heap.size q3 n3 c3 A.1) := HO3.out.below hb4
  have HR4 : Hid (RdIn w4 R p c ys A.2) := HR3.out.grow hb4
  have HK4 : Hid (Keep R (R + 1) w1 w4) := HK3.out.trans (Keep.of_below hb4)
  have hsz4 : w2.heap.size ≤ w4.heap.size := Nat.le_trans hsz3 hb4.size
  clear hb4 HVV
  have FIN : Hid (DrawSO w (A.1, A.1) (.returned (.tuple #[.slice q3 n3 c3, .slice q3 n3 c3])) w4) := ⟨q3, n3, c3, q3, n3, c3, rfl, ⟨HN3.out, HO4.out.cin, HO4.out.cap⟩, ⟨HN3.out, HO4.out.cin, HO4.out.cap⟩, HLO.out w4 HK4.out, fun h => by rw [hval] at h; cases h⟩
  clear hval hvd
  go_wp2_with fail
  go_ret2
  rw [HV.out]
  exact FIN.out
set_option maxRecDepth 100000 in
set_option maxHeartbeats 4000000 in
theorem drawS_1 (p : Option Addr) (c : Nat) (xs : List Int) (w : World) (hb : Bytes xs) (hn : xs.length ≤ 1048576) (hc : xs.length ≤ c) (hx : BIn w p xs) (hval : validB (anyF (xs.take 500) (rdN (xs.take 500) 0)).1 = true) (h0 : (rdI (xs.take 500) 0).toNat % 4 = 0) :
    Calls Tryz.prog 11 #[.slice p xs.length c] w (DrawSO w (drawS (xs.take 500))) := by
  have HOP := l4open_any p c xs w hb hn hc hx
  obtain ⟨ys, ey⟩ : ∃ ys, ys = xs.take 500 := ⟨_, rfl⟩
  rw [← ey] at HOP hval h0 ⊢
  obtain ⟨res, er⟩ : ∃ res, res = drawS ys := ⟨_, rfl⟩
  rw [← er]
  obtain ⟨R, eR⟩ : ∃ R, R = w.heap.size := ⟨_, rfl⟩
  have HRW : Hid (R = w.heap.size) := eR
  rw [← eR] at HOP
  have hby : Bytes ys := fun x hx => hb x (by rw [ey] at hx; exact List.mem_of_mem_take hx)
  obtain ⟨i1, ei⟩ : ∃ i1, i1 = rdN ys 0 := ⟨_, rfl⟩
  obtain ⟨A, eA⟩ : ∃ A, A = anyF ys i1 := ⟨_, rfl⟩
  have hrx := rdI_rng hby 0
  obtain ⟨x, ex⟩ : ∃ x : Nat, rdI ys 0 = x := ⟨(rdI ys 0).toNat, by omega⟩
  have hx2 : x < 256 := by omega
  rw [← ei, ← eA] at hval
  obtain ⟨z, ez⟩ : ∃ z, z = x % 4 := ⟨_, rfl⟩
  have hz : z < 4 := by omega
  have hmz : (x : Int).tmod 4 = (z : Int) := by rw [ez, Int.tmod_eq_emod_of_nonneg (by omega)]; rfl
  have hBD : Bd A.1 := by rw [eA]; exact any_bd _ _
  have HBD : Hid (Bd A.1) := hBD
  have HTL : Hid (tl A.1 ≤ 12000) := by rw [eA]; exact (anyF_mid ys i1).1.txt
  have HN1 : Hid (∀ W, RdIn W R p c ys 0 → Calls Tryz.prog 15 #[.pointer (some ⟨R, 0, none⟩)] W fun e w' => e = .returned (.int .i64 (x : Int)) ∧ Keep R (R + 1) W w' ∧ w'.heap.size = W.heap.size ∧ RdIn w' R p c ys i1) := fun W hW => by
    have := next_any R c 0 p ys W hW
    rw [ex, ← ei] at this; exact this
  have HANY : Hid (∀ W, RdIn W R p c ys i1 → Calls Tryz.prog 16 #[.pointer (some ⟨R, 0, none⟩)] W (TermOut W R p c ys A)) := fun W hW => by
    have := l4any_any R c i1 p ys W hW
    rw [← eA] at this; exact this
  rw [ex, Int.toNat_natCast, ← ez] at h0
  have hb0 : ((z : Int) == 0) = true := by rw [h0]; rfl
  have HV : Hid (res = (A.1, (alikeF ys (treeC A.1) A.2).1)) := by
    show _ = _
    rw [er]
    unfold drawS
    simp only
    rw [← ei, ← eA, if_neg (by rw [hval]; decide), ex, Int.toNat_natCast, ← ez, if_pos h0]
  obtain ⟨nx, enx⟩ : ∃ nx, nx = xs.length := ⟨_, rfl⟩
  rw [← enx] at HOP ⊢
  clear ey er eR ei eA ex ez enx hb hn hc hx hrx hBD h0
  go_enter Tryz.func11, Tryz.ntmps11
  go_wp2_with fail
  refine HOP.mono ?_
  rintro e w1 ⟨rfl, hb1, hs1, hR1⟩
  have HB1 : Hid (Below R w w1) := hb1
  have HR1 : Hid (RdIn w1 R p c ys 0) := hR1
  have hsz1 : R + 1 ≤ w1.heap.size := by omega
  clear hb1 hs1 hR1 HOP
  go_wp2_with fail
  refine (HN1.out w1 HR1.out).mono ?_
  rintro e w2 ⟨rfl, hk2, hs2, hR2⟩
  have HR2 : Hid (RdIn w2 R p c ys i1) := hR2
  have HK2 : Hid (Keep R (R + 1) w1 w2) := hk2
  have hsz2 : R < w2.heap.size := by have := hk2.size; omega
  clear hk2 hs2 hR2
  go_wp2_with fail
  refine (HANY.out w2 HR2.out).mono ?_
  rintro e w3 ⟨q3, n3, c3, rfl, ho3, hk3, hR3⟩
  have HO3 : Hid (OwnC w3 w2.heap.size q3 n3 c3 A.1) := ho3
  have HR3 : Hid (RdIn w3 R p c ys A.2) := hR3
  have HK3 : Hid (Keep R (R + 1) w1 w3) := HK2.out.trans hk3
  have HLO : Hid (∀ W, Keep R (R + 1) w1 W → Below w.heap.size w W) := fun W hW => by rw [← HRW.out]; exact below_onK HB1.out hW (by omega)
  have hn3 : n3 = A.1.length := ho3.1
  have HN3 : Hid (n3 = A.1.length) := hn3
  have HV3 : Hid (∀ b, validB A.1 = b → Calls Tryz.prog 17 #[.slice q3 n3 c3] w3 fun e w' => e = .returned (.bool b) ∧ Below w3.heap.size w3 w') := fun b h => by
    have := specValid_any q3 c3 A.1 w3 (by have := HBD.out.len; omega) ho3.cin
    rw [h, ← hn3] at this; exact this
  have hsz3 : w2.heap.size ≤ w3.heap.size := hk3.size
  clear ho3 hR3 hk3 hn3
  have HVV := HV3.out true hval
  have hvd : True := trivial
  go_wp2_with fail
  refine HVV.mono ?_
  rintro e w4 ⟨rfl, hb4⟩
  have HO4 : Hid (OwnC w4 w2.heap.size q3 n3 c3 A.1) := HO3.out.below hb4
  have HR4 : Hid (RdIn w4 R p c ys A.2) := HR3.out.grow hb4
  have HK4 : Hid (Keep R (R + 1) w1 w4) := HK3.out.trans (Keep.of_below hb4)
  have hsz4 : w2.heap.size ≤ w4.heap.size := Nat.le_trans hsz3 hb4.size
  clear hb4 HVV
  obtain ⟨f1, f2⟩ := treeC_of (valid_forest HBD.out.byte hval)
  have hl := vB_len hval
  have hp0 := vB_pos hval
  obtain ⟨g3, rfl, hg1, hg2⟩ := HO4.out.at0 hp0
  have HG3 : Hid (w2.heap.size ≤ g3 ∧ g3 < w4.heap.size) := ⟨hg1, hg2⟩
  have HAL := l13alike_any R c A.2 p ys w2.heap.size g3 n3 c3 A.1 (treeC A.1) w4 HR4.out hsz2 HO4.out f1.symm f2 hl HTL.out
  have HPS : Hid (0 < (alikeF ys (treeC A.1) A.2).1.length) := alike_pos ys _ _ (by rw [f1]; exact hp0)
  clear f1 f2 hl hval hvd hg1 hg2 hp0
  go_wp2_with fail
  refine HAL.mono ?_
  rintro e w6 ⟨q6, n6, c6, rfl, ho6, hk6, hR6⟩
  obtain ⟨g6, rfl, hh1, hh2⟩ := ho6.at0 HPS.out
  have hlow := HLO.out w6 (HK4.out.trans hk6)
  have ha6 := HO4.out.keepR hk6 hsz2
  have hw2 : w.heap.size ≤ w2.heap.size := by rw [← HRW.out]; omega
  have hw4 : w.heap.size ≤ w4.heap.size := Nat.le_trans hw2 hsz4
  have FIN : Hid (DrawSO w (A.1, (alikeF ys (treeC A.1) A.2).1) (.returned (.tuple #[.slice (some ⟨g3, 0, none⟩) n3 c3, .slice (some ⟨g6, 0, none⟩) n6 c6])) w6) := by
    refine ⟨_, _, _, _, _, _, rfl, ⟨ha6.1, ha6.cin, ha6.cap⟩, ⟨ho6.1, ho6.cin, ho6.cap⟩, hlow, fun _ _ => ⟨g6, rfl, ho6.mono hw4, fun W hs hW => ?_⟩⟩
    exact (HO4.out.same (W := W) (Nat.le_trans hk6.size hs) (fun k h1 h2 => (hW k (by omega) (Nat.lt_of_lt_of_le h2 hk6.size)).trans (hk6.block k h2 (.inr (by omega))))).cin
  clear ho6 hk6 hR6 HAL ha6 hlow hh1 hh2
  go_wp2_with fail
  go_ret2
  rw [HV.out]
  exact FIN.out
set_option maxRecDepth 100000 in
set_option maxHeartbeats 4000000 in
theorem drawS_2 (p : Option Addr) (c : Nat) (xs : List Int) (w : World) (hb : Bytes xs) (hn : xs.length ≤ 1048576) (hc : xs.length ≤ c) (hx : BIn w p xs) (hval : validB (anyF (xs.take 500) (rdN (xs.take 500) 0)).1 = true) (h0 : ¬ (rdI (xs.take 500) 0).toNat % 4 = 0) :
    Calls Tryz.prog 11 #[.slice p xs.length c] w (DrawSO w (drawS (xs.take 500))) := by
  have HOP := l4open_any p c xs w hb hn hc hx
  obtain ⟨ys, ey⟩ : ∃ ys, ys = xs.take 500 := ⟨_, rfl⟩
  rw [← ey] at HOP hval h0 ⊢
  obtain ⟨res, er⟩ : ∃ res, res = drawS ys := ⟨_, rfl⟩
  rw [← er]
  obtain ⟨R, eR⟩ : ∃ R, R = w.heap.size := ⟨_, rfl⟩
  have HRW : Hid (R = w.heap.size) := eR
  rw [← eR] at HOP
  have hby : Bytes ys := fun x hx => hb x (by rw [ey] at hx; exact List.mem_of_mem_take hx)
  obtain ⟨i1, ei⟩ : ∃ i1, i1 = rdN ys 0 := ⟨_, rfl⟩
  obtain ⟨A, eA⟩ : ∃ A, A = anyF ys i1 := ⟨_, rfl⟩
  have hrx := rdI_rng hby 0
  obtain ⟨x, ex⟩ : ∃ x : Nat, rdI ys 0 = x := ⟨(rdI ys 0).toNat, by omega⟩
  have hx2 : x < 256 := by omega
  rw [← ei, ← eA] at hval
  obtain ⟨z, ez⟩ : ∃ z, z = x % 4 := ⟨_, rfl⟩
  have hz : z < 4 := by omega
  have hmz : (x : Int).tmod 4 = (z : Int) := by rw [ez, Int.tmod_eq_emod_of_nonneg (by omega)]; rfl
  have hBD : Bd A.1 := by rw [eA]; exact any_bd _ _
  have HBD : Hid (Bd A.1) := hBD
  have HTL : Hid (tl A.1 ≤ 12000) := by rw [eA]; exact (anyF_mid ys i1).1.txt
  have HN1 : Hid (∀ W, RdIn W R p c ys 0 → Calls Tryz.prog 15 #[.pointer (some ⟨R, 0, none⟩)] W fun e w' => e = .returned (.int .i64 (x : Int)) ∧ Keep R (R + 1) W w' ∧ w'.heap.size = W.heap.size ∧ RdIn w' R p c ys i1) := fun W hW => by
    have := next_any R c 0 p ys W hW
    rw [ex, ← ei] at this; exact this
  have HANY : Hid (∀ W, RdIn W R p c ys i1 → Calls Tryz.prog 16 #[.pointer (some ⟨R, 0, none⟩)] W (TermOut W R p c ys A)) := fun W hW => by
    have := l4any_any R c i1 p ys W hW
    rw [← eA] at this; exact this
  rw [ex, Int.toNat_natCast, ← ez] at h0
  have hb0 : ((z : Int) == 0) = false := by rw [beq_eq_false_iff_ne]; omega
  have HV : Hid (res = ((alikeF ys (treeC A.1) A.2).1, A.1)) := by
    show _ = _
    rw [er]
    unfold drawS
    simp only
    rw [← ei, ← eA, if_neg (by rw [hval]; decide), ex, Int.toNat_natCast, ← ez, if_neg h0]
  obtain ⟨nx, enx⟩ : ∃ nx, nx = xs.length := ⟨_, rfl⟩
  rw [← enx] at HOP ⊢
  clear ey er eR ei eA ex ez enx hb hn hc hx hrx hBD h0
  go_enter Tryz.func11, Tryz.ntmps11
  go_wp2_with fail
  refine HOP.mono ?_
  rintro e w1 ⟨rfl, hb1, hs1, hR1⟩
  have HB1 : Hid (Below R w w1) := hb1
  have HR1 : Hid (RdIn w1 R p c ys 0) := hR1
  have hsz1 : R + 1 ≤ w1.heap.size := by omega
  clear hb1 hs1 hR1 HOP
  go_wp2_with fail
  refine (HN1.out w1 HR1.out).mono ?_
  rintro e w2 ⟨rfl, hk2, hs2, hR2⟩
  have HR2 : Hid (RdIn w2 R p c ys i1) := hR2
  have HK2 : Hid (Keep R (R + 1) w1 w2) := hk2
  have hsz2 : R < w2.heap.size := by have := hk2.size; omega
  clear hk2 hs2 hR2
  go_wp2_with fail
  refine (HANY.out w2 HR2.out).mono ?_
  rintro e w3 ⟨q3, n3, c3, rfl, ho3, hk3, hR3⟩
  have HO3 : Hid (OwnC w3 w2.heap.size q3 n3 c3 A.1) := ho3
  have HR3 : Hid (RdIn w3 R p c ys A.2) := hR3
  have HK3 : Hid (Keep R (R + 1) w1 w3) := HK2.out.trans hk3
  have HLO : Hid (∀ W, Keep R (R + 1) w1 W → Below w.heap.size w W) := fun W hW => by rw [← HRW.out]; exact below_onK HB1.out hW (by omega)
  have hn3 : n3 = A.1.length := ho3.1
  have HN3 : Hid (n3 = A.1.length) := hn3
  have HV3 : Hid (∀ b, validB A.1 = b → Calls Tryz.prog 17 #[.slice q3 n3 c3] w3 fun e w' => e = .returned (.bool b) ∧ Below w3.heap.size w3 w') := fun b h => by
    have := specValid_any q3 c3 A.1 w3 (by have := HBD.out.len; omega) ho3.cin
    rw [h, ← hn3] at this; exact this
  have hsz3 : w2.heap.size ≤ w3.heap.size := hk3.size
  clear ho3 hR3 hk3 hn3
  have HVV := HV3.out true hval
  have hvd : True := trivial
  go_wp2_with fail
  refine HVV.mono ?_
  rintro e w4 ⟨rfl, hb4⟩
  have HO4 : Hid (OwnC w4 w2.heap.size q3 n3 c3 A.1) := HO3.out.below hb4
  have HR4 : Hid (RdIn w4 R p c ys A.2) := HR3.out.grow hb4
  have HK4 : Hid (Keep R (R + 1) w1 w4) := HK3.out.trans (Keep.of_below hb4)
  have hsz4 : w2.heap.size ≤ w4.heap.size := Nat.le_trans hsz3 hb4.size
  clear hb4 HVV
  obtain ⟨f1, f2⟩ := treeC_of (valid_forest HBD.out.byte hval)
  have hl := vB_len hval
  have hp0 := vB_pos hval
  obtain ⟨g3, rfl, hg1, hg2⟩ := HO4.out.at0 hp0
  have HG3 : Hid (w2.heap.size ≤ g3 ∧ g3 < w4.heap.size) := ⟨hg1, hg2⟩
  have HAL := l13alike_any R c A.2 p ys w2.heap.size g3 n3 c3 A.1 (treeC A.1) w4 HR4.out hsz2 HO4.out f1.symm f2 hl HTL.out
  have HPS : Hid (0 < (alikeF ys (treeC A.1) A.2).1.length) := alike_pos ys _ _ (by rw [f1]; exact hp0)
  clear f1 f2 hl hval hvd hg1 hg2 hp0
  go_wp2_with fail
  refine HAL.mono ?_
  rintro e w6 ⟨q6, n6, c6, rfl, ho6, hk6, hR6⟩
  obtain ⟨g6, rfl, hh1, hh2⟩ := ho6.at0 HPS.out
  have hlow := HLO.out w6 (HK4.out.trans hk6)
  have ha6 := HO4.out.keepR hk6 hsz2
  have hw2 : w.heap.size ≤ w2.heap.size := by rw [← HRW.out]; omega
  have hw4 : w.heap.size ≤ w4.heap.size := Nat.le_trans hw2 hsz4
  have FIN : Hid (DrawSO w ((alikeF ys (treeC A.1) A.2).1, A.1) (.returned (.tuple #[.slice (some ⟨g6, 0, none⟩) n6 c6, .slice (some ⟨g3, 0, none⟩) n3 c3])) w6) := by
    refine ⟨_, _, _, _, _, _, rfl, ⟨ho6.1, ho6.cin, ho6.cap⟩, ⟨ha6.1, ha6.cin, ha6.cap⟩, hlow, fun _ _ => ⟨g3, rfl, ha6.mono hw2, fun W hs hW => ?_⟩⟩
    exact (ho6.same (W := W) hs (fun k h1 h2 => hW k (by have := HG3.out.2; omega) h2)).cin
  clear ho6 hk6 hR6 HAL ha6 hlow hh1 hh2
  go_wp2_with fail
  go_ret2
  rw [HV.out]
  exact FIN.out
theorem drawS_any (p : Option Addr) (c : Nat) (xs : List Int) (w : World) (hb : Bytes xs) (hn : xs.length ≤ 1048576) (hc : xs.length ≤ c) (hx : BIn w p xs) :
    Calls Tryz.prog 11 #[.slice p xs.length c] w (DrawSO w (drawS (xs.take 500))) := by
  cases hv : validB (anyF (xs.take 500) (rdN (xs.take 500) 0)).1 with
  | false => exact drawS_0 p c xs w hb hn hc hx hv
  | true =>
    by_cases h0 : (rdI (xs.take 500) 0).toNat % 4 = 0
    · exact drawS_1 p c xs w hb hn hc hx hv h0
    · exact drawS_2 p c xs w hb hn hc hx hv h0
end Go.Proofs.YtaakpdakeolgeaaGreat

namespace Go.Proofs.YtaakpdakeolgeaaGreat
open Go Go.RowKit
set_option linter.unusedVariables false
theorem sameB_any (p q : Option Addr) (c1 c2 : Nat) (xs ys : List Int) (w : World) (hn : xs.length ≤ 1000000000) (hm : ys.length ≤ 1000000000) (hx : BIn w p xs) (hy : BIn w q ys) :
    Calls Tryz.prog 66 #[.slice p xs.length c1, .slice q ys.length c2] w fun e w' => e = .returned (.bool (decide (xs = ys))) ∧ ∃ n, w' = w.drewN n := by
  by_cases hl : xs.length = ys.length
  · have HL : Hid (xs.length = ys.length) := hl
    obtain ⟨n, en⟩ : ∃ n, ys.length = n := ⟨_, rfl⟩
    rw [hl]
    rw [hl] at hn
    rw [en] at hn hm hl ⊢
    have HE : Hid (ys.length = n) := en
    clear hl en
    go_enter Tryz.func66, Tryz.ntmps66
    go_wp2
    go_loopw [5] (fun i wr => ∃ k m : Nat, k ≤ n ∧ i = .int .i64 k ∧ Hid (wr = w.drewN m) ∧ Hid (∀ j, j < k → xs.getD j 0 = ys.getD j 0)) (fun i _ => n - (intOf i).toNat)
    case atStart => exact ⟨0, 0, Nat.zero_le _, rfl, rfl, fun _ h => absurd h (Nat.not_lt_zero _)⟩
    case round =>
      obtain ⟨k, m, hk, rfl, HW, HN⟩ := hrel
      by_cases hlt : k < n
      · obtain ⟨b, o, rfl, hcx⟩ := hx (by rw [HL.out, HE.out]; omega)
        obtain ⟨b', o', rfl, hcy⟩ := hy (by rw [HE.out]; omega)
        have h1 : wr.cell? ⟨b, o + k, none⟩ = some (.int .u8 (xs.getD k 0)) := by rw [HW.out]; exact hcx k (by rw [HL.out, HE.out]; exact hlt)
        have h2 : wr.cell? ⟨b', o' + k, none⟩ = some (.int .u8 (ys.getD k 0)) := by rw [HW.out]; exact hcy k (by rw [HE.out]; exact hlt)
        obtain ⟨x, ex⟩ : ∃ x, x = xs.getD k 0 := ⟨_, rfl⟩
        obtain ⟨y, ey⟩ : ∃ y, y = ys.getD k 0 := ⟨_, rfl⟩
        rw [← ex] at h1
        rw [← ey] at h2
        have HX : Hid (x = xs.getD k 0) := ex
        have HY : Hid (y = ys.getD k 0) := ey
        clear ex ey hcx hcy hx hy
        by_cases ht : x = y
        · subst ht
          go_wp2
          go_region
          all_goals go_wp2
          all_goals go_roundw
          case rel => exact ⟨k + 1, m + 1, by omega, by go_num, by rw [HW.out]; rfl, fun j hj => by
            by_cases e : j = k
            · subst e; rw [← HX.out, ← HY.out]
            · exact HN.out j (by omega)⟩
          case measure => simp [intOf]; omega
        · have ht' : (x != y) = true := by simpa using ht
          go_wp2
          go_region
          all_goals go_wp2
          all_goals go_ret
          exact ⟨ret_bool (by
            symm; rw [decide_eq_false_iff_not]; intro e
            exact ht (by rw [HX.out, HY.out, e])), m + 1, by rw [HW.out]; rfl⟩
      · obtain rfl : k = n := by omega
        go_wp2
        go_ret
        exact ⟨ret_bool (by symm; rw [decide_eq_true_iff]; exact same_every HL.out (by rw [HL.out, HE.out]; exact HN.out)), m, HW.out⟩
  · have hne : ¬ ((xs.length : Int) = (ys.length : Int)) := by omega
    have e : decide (xs = ys) = false := by rw [decide_eq_false_iff_not]; intro e; exact hl (by rw [e])
    rw [e]
    clear e hx hy
    go_enter Tryz.func66, Tryz.ntmps66
    go_wp2
    go_ret
    exact ⟨rfl, 0, rfl⟩
theorem sameCell_any (k1 n1 k2 n2 : Int) (p q : Option Addr) (m1 m2 c1 c2 : Nat) (xs ys : List Int) (w : World) (hl1 : m1 = xs.length) (hl2 : m2 = ys.length) (hn : m1 ≤ 1000000000) (hm : m2 ≤ 1000000000) (hx : BIn w p xs) (hy : BIn w q ys) :
    Calls Tryz.prog 39 #[.agg #[.int .i64 k1, .int .i64 n1, .slice p m1 c1], .agg #[.int .i64 k2, .int .i64 n2, .slice q m2 c2]] w fun e w' => e = .returned (.bool (decide (((k1, n1, xs) : Cel) = (k2, n2, ys)))) ∧ Below w.heap.size w w' := by
  subst hl1 hl2
  have HSS : Hid (∀ W, Below w.heap.size w W → Calls Tryz.prog 66 #[.slice p xs.length c1, .slice q ys.length c2] W fun e w' => e = .returned (.bool (decide (xs = ys))) ∧ ∃ n, w' = W.drewN n) := fun W hW => sameB_any p q c1 c2 xs ys W hn hm (hx.below hW) (hy.below hW)
  have hb0 : Below w.heap.size w ((w.alloc (Obj.cells #[Value.int IntKind.i64 k1, Value.int IntKind.i64 n1, Value.slice p xs.length c1] 35)).alloc (Obj.cells #[Value.int IntKind.i64 k2, Value.int IntKind.i64 n2, Value.slice q ys.length c2] 35)) := ((Below.refl _ _).alloc (Nat.le_refl _) _).alloc (by simp) _
  clear hx hy
  by_cases hk : k1 = k2
  · subst hk
    by_cases hnn : n1 = n2
    · subst hnn
      have HS := HSS.out _ hb0
      have HB : Hid _ := hb0
      clear hb0 HSS
      have hd : decide (((k1, n1, xs) : Cel) = (k1, n1, ys)) = decide (xs = ys) := by simp
      rw [hd]
      cases ht : decide (xs = ys)
      · rw [ht] at HS
        clear ht hd
        go_enter Tryz.func39, Tryz.ntmps39
        go_wp2_with (go_at_call 66; refine HS.mono ?_; rintro e w' ⟨rfl, m, rfl⟩)
        go_ret
        exact ⟨rfl, below_drewN HB.out _⟩
      · rw [ht] at HS
        clear ht hd
        go_enter Tryz.func39, Tryz.ntmps39
        go_wp2_with (go_at_call 66; refine HS.mono ?_; rintro e w' ⟨rfl, m, rfl⟩)
        go_ret
        exact ⟨rfl, below_drewN HB.out _⟩
    · have hd : decide (((k1, n1, xs) : Cel) = (k1, n2, ys)) = false := by simp [hnn]
      rw [hd]
      have HB : Hid _ := hb0
      clear hd HSS hb0
      have hnn' : (n1 == n2) = false := by simpa using hnn
      have hnq : ¬ n1 = n2 := hnn
      go_enter Tryz.func39, Tryz.ntmps39
      go_wp2
      go_ret
      exact ⟨rfl, HB.out⟩
  · have hd : decide (((k1, n1, xs) : Cel) = (k2, n2, ys)) = false := by simp [hk]
    rw [hd]
    have HB : Hid _ := hb0
    clear hd HSS hb0
    have hk' : (k1 == k2) = false := by simpa using hk
    have hkq : ¬ k1 = k2 := hk
    go_enter Tryz.func39, Tryz.ntmps39
    go_wp2
    go_ret
    exact ⟨rfl, HB.out⟩
theorem sameT_any (p q : Option Addr) (c1 c2 : Nat) (xs ys : List Cel) (w : World) (hn : xs.length + tl xs ≤ 1000000000) (hm : ys.length + tl ys ≤ 1000000000) (hx : CIn w p xs) (hy : CIn w q ys) :
    Calls Tryz.prog 9 #[.slice p xs.length c1, .slice q ys.length c2] w fun e w' => e = .returned (.bool (decide (xs = ys))) ∧ Below w.heap.size w w' := by
  have HX : Hid (CIn w p xs) := hx
  have HY : Hid (CIn w q ys) := hy
  clear hx hy
  by_cases hl : xs.length = ys.length
  · have HL : Hid (xs.length = ys.length) := hl
    obtain ⟨n, en⟩ : ∃ n, ys.length = n := ⟨_, rfl⟩
    rw [hl]
    rw [hl] at hn
    rw [en] at hn hm hl ⊢
    have HE : Hid (ys.length = n) := en
    clear hl en
    go_enter Tryz.func9, Tryz.ntmps9
    go_wp2
    go_loopw [5] (fun i wr => ∃ k : Nat, k ≤ n ∧ i = .int .i64 k ∧ Hid (Below w.heap.size w wr) ∧ Hid (∀ j, j < k → xs.getD j Cel.none = ys.getD j Cel.none)) (fun i _ => n - (intOf i).toNat)
    case atStart => exact ⟨0, Nat.zero_le _, rfl, Below.refl _ _, fun _ h => absurd h (Nat.not_lt_zero _)⟩
    case round =>
      obtain ⟨k, hk, rfl, HB, HN⟩ := hrel
      by_cases hlt : k < n
      · have hkx : k < xs.length := by rw [HL.out, HE.out]; exact hlt
        have hky : k < ys.length := by rw [HE.out]; exact hlt
        obtain ⟨b, o, rfl, hcx⟩ := HX.out (by omega)
        obtain ⟨b', o', rfl, hcy⟩ := HY.out (by omega)
        obtain ⟨px, qx, x0, x1, x2, x3⟩ := (hcx k hkx).below HB.out
        obtain ⟨py, qy, y0, y1, y2, y3⟩ := (hcy k hky).below HB.out
        have bx := tl_at xs k hkx
        have bY := tl_at ys k hky
        have HEQ : Hid (decide (((xs.getD k Cel.none).1, (xs.getD k Cel.none).2.1, (xs.getD k Cel.none).2.2) = (((ys.getD k Cel.none).1, (ys.getD k Cel.none).2.1, (ys.getD k Cel.none).2.2) : Cel)) = decide (xs.getD k Cel.none = ys.getD k Cel.none)) := rfl
        obtain ⟨a0, ea0⟩ : ∃ x, x = (xs.getD k Cel.none).1 := ⟨_, rfl⟩
        obtain ⟨a1, ea1⟩ : ∃ x, x = (xs.getD k Cel.none).2.1 := ⟨_, rfl⟩
        obtain ⟨am, eam⟩ : ∃ x, x = (xs.getD k Cel.none).2.2.length := ⟨_, rfl⟩
        obtain ⟨e0, ee0⟩ : ∃ x, x = (ys.getD k Cel.none).1 := ⟨_, rfl⟩
        obtain ⟨e1, ee1⟩ : ∃ x, x = (ys.getD k Cel.none).2.1 := ⟨_, rfl⟩
        obtain ⟨em, eem⟩ : ∃ x, x = (ys.getD k Cel.none).2.2.length := ⟨_, rfl⟩
        have HS : Hid (∀ W, Below wr.heap.size wr W → Calls Tryz.prog 39 #[.agg #[.int .i64 a0, .int .i64 a1, .slice px am qx], .agg #[.int .i64 e0, .int .i64 e1, .slice py em qy]] W fun e w' => e = .returned (.bool (decide (xs.getD k Cel.none = ys.getD k Cel.none))) ∧ Below W.heap.size W w') := fun W hW => by
          have := sameCell_any a0 a1 e0 e1 px py am em qx qy _ _ W eam eem (by omega) (by omega) (x3.below hW) (y3.below hW)
          rwa [ea0, ea1, ee0, ee1, HEQ.out, ← ea0, ← ea1, ← ee0, ← ee1] at this
        rw [← ea0] at x0
        rw [← ea1] at x1
        rw [← eam] at x2
        rw [← ee0] at y0
        rw [← ee1] at y1
        rw [← eem] at y2
        clear ea0 ea1 eam ee0 ee1 eem HEQ x3 y3 hcx hcy HX HY bx bY hkx hky
        cases ht : decide (xs.getD k Cel.none = ys.getD k Cel.none)
        · rw [ht] at HS
          have HT : Hid _ := ht
          clear ht
          go_wp2
          go_region_with (go_at_call 39; refine (HS.out _ (Below.refl _ _).drew).mono ?_; rintro e w2 ⟨rfl, hb2⟩)
          all_goals go_wp2
          all_goals go_ret
          all_goals exact ⟨ret_bool (by
            symm; rw [decide_eq_false_iff_not]; intro e
            have := HT.out
            rw [decide_eq_false_iff_not] at this
            exact this (by rw [e])), Below.on HB.out ((Below.refl _ _).drew.trans hb2)⟩
        · rw [ht] at HS
          have HT : Hid _ := ht
          clear ht
          go_wp2
          go_region_with (go_at_call 39; refine (HS.out _ (Below.refl _ _).drew).mono ?_; rintro e w2 ⟨rfl, hb2⟩)
          all_goals go_wp2
          all_goals go_roundw
          all_goals first
            | (simp [intOf]; omega)
            | exact ⟨k + 1, by omega, by go_num, Below.on HB.out ((Below.refl _ _).drew.trans hb2), fun j hj => by
                by_cases e : j = k
                · subst e; exact of_decide_eq_true HT.out
                · exact HN.out j (by omega)⟩
      · obtain rfl : k = n := by omega
        go_wp2
        go_ret
        exact ⟨ret_bool (by symm; rw [decide_eq_true_iff]; exact same_cells HL.out (by rw [HL.out, HE.out]; exact HN.out)), HB.out⟩
  · have hne : ¬ ((xs.length : Int) = (ys.length : Int)) := by omega
    have e : decide (xs = ys) = false := by rw [decide_eq_false_iff_not]; intro e; exact hl (by rw [e])
    rw [e]
    clear e
    go_enter Tryz.func9, Tryz.ntmps9
    go_wp2
    go_ret
    exact ⟨rfl, Below.refl _ _⟩
end Go.Proofs.YtaakpdakeolgeaaGreat

namespace Go.Proofs.YtaakpdakeolgeaaGreat
open Go Go.RowKit
set_option linter.unusedVariables false
abbrev Tr := Cel × Fo
abbrev TT := Tr × Tr
def Tr.fo (t : Tr) : Fo := .node t.1 t.2 .nil
def trs : Fo → List Tr
  | .nil => []
  | .node c k r => (c, k) :: trs r
theorem trs_len : ∀ F : Fo, (trs F).length = F.count
  | .nil => rfl
  | .node c k r => by simp [trs, Fo.count, trs_len r]
def eqFo : Fo → Fo → Bool
  | .nil, .nil => true
  | .node c k r, .node c' k' r' => decide (c = c') && eqFo k k' && eqFo r r'
  | .nil, .node _ _ _ => false
  | .node _ _ _, .nil => false
theorem eqFo_iff : ∀ a b : Fo, eqFo a b = true ↔ a = b
  | .nil, .nil => by simp [eqFo]
  | .node c k r, .node c' k' r' => by simp [eqFo, eqFo_iff k k', eqFo_iff r r', and_assoc]
  | .nil, .node _ _ _ => by simp [eqFo]
  | .node _ _ _, .nil => by simp [eqFo]
def eqT (x : TT) : Bool := decide (x.1.1 = x.2.1) && eqFo x.1.2 x.2.2
theorem eqT_iff (x : TT) : eqT x = true ↔ x.1 = x.2 := by
  obtain ⟨⟨c, k⟩, ⟨c', k'⟩⟩ := x
  simp [eqT, eqFo_iff]
def sames (st : List TT) : Bool := st.all eqT
theorem eqFo_zip : ∀ a b : Fo, a.count = b.count → eqFo a b = ((trs a).zip (trs b)).all eqT
  | .nil, .nil, _ => rfl
  | .node c k r, .node c' k' r', h => by
    have := eqFo_zip r r' (by simpa [Fo.count] using h)
    simp [eqFo, trs, eqT, this]
  | .nil, .node _ _ _, h => by simp [Fo.count] at h
  | .node _ _ _, .nil, h => by simp [Fo.count] at h
def argPairs (x : TT) : List TT := ((trs x.1.2).zip (trs x.2.2)).reverse
def opened (x : TT) : List TT := if x.1.1 = x.2.1 then argPairs x else []
theorem sames_open (st : List TT) (x : TT) (h : x.1.1 = x.2.1) (hc : x.1.2.count = x.2.2.count) : sames (st ++ opened x) = sames (st ++ [x]) := by
  simp [sames, opened, argPairs, h, eqT, eqFo_zip _ _ hc]
theorem sames_no (st : List TT) (x : TT) (h : x.1.1 ≠ x.2.1) : sames (st ++ [x]) = false := by
  simp [sames, eqT, h]
def load : List TT → Nat
  | [] => 0
  | x :: r => x.1.2.cells.length + 1 + load r
theorem load_append : ∀ a b : List TT, load (a ++ b) = load a + load b
  | [], b => by simp [load]
  | x :: r, b => by simp [load, load_append r b]; omega
theorem load_reverse : ∀ a : List TT, load a.reverse = load a
  | [] => rfl
  | x :: r => by simp [load_append, load, load_reverse r]; omega
theorem load_zip : ∀ a b : Fo, load ((trs a).zip (trs b)) ≤ a.cells.length
  | .nil, b => by simp [trs, load]
  | .node c k r, .nil => by simp [trs, load]
  | .node c k r, .node c' k' r' => by
    have := load_zip r r'
    simp [trs, load, Fo.cells]; omega
theorem load_opened (x : TT) : load (opened x) ≤ x.1.2.cells.length := by
  unfold opened argPairs
  split
  · rw [load_reverse]; exact load_zip _ _
  · simp [load]
theorem len_load : ∀ st : List TT, st.length ≤ load st
  | [] => Nat.le_refl _
  | x :: r => by have := len_load r; simp [load]; omega
def Tr.ok (t : Tr) : Prop := t.fo.ok
theorem trs_ok : ∀ F : Fo, F.ok → ∀ t ∈ trs F, Tr.ok t
  | .nil, _, t, h => by simp [trs] at h
  | .node c k r, ⟨h1, h2, h3, h4, h5, h6⟩, t, h => by
    rcases List.mem_cons.1 (show t ∈ (c, k) :: trs r from h) with rfl | h'
    · exact ⟨h1, h2, h3, h4, h5, trivial⟩
    · exact trs_ok r h6 t h'
theorem opened_ok {x : TT} (h1 : x.1.ok) (h2 : x.2.ok) : ∀ y ∈ opened x, y.1.ok ∧ y.2.ok := fun y hy => by
  unfold opened argPairs at hy
  split at hy
  · have hz := List.of_mem_zip (List.mem_reverse.1 hy)
    exact ⟨trs_ok _ h1.2.2.2.2.1 _ hz.1, trs_ok _ h2.2.2.2.2.1 _ hz.2⟩
  · cases hy
theorem ok_count {x : TT} (h1 : x.1.ok) (h2 : x.2.ok) (h : x.1.1 = x.2.1) : x.1.2.count = x.2.2.count := by
  obtain ⟨⟨c, k⟩, ⟨c', k'⟩⟩ := x
  simp only at h
  subst h
  by_cases h3 : c.1 = 3
  · have e1 := h1.2.2.1 h3
    have e2 := h2.2.2.1 h3
    simp only at e1 e2 ⊢
    omega
  · have e1 : k = .nil := h1.2.2.2.1 h3
    have e2 : k' = .nil := h2.2.2.2.1 h3
    rw [e1, e2]
theorem Fo.cells_inj : ∀ (a b : Fo) (x y : List Cel), a.ok → b.ok → a.count = b.count → a.cells ++ x = b.cells ++ y → a = b ∧ x = y
  | .nil, .nil, x, y, _, _, _, h => ⟨rfl, by simpa [Fo.cells] using h⟩
  | .nil, .node _ _ _, _, _, _, _, h, _ => by simp [Fo.count] at h
  | .node _ _ _, .nil, _, _, _, _, h, _ => by simp [Fo.count] at h
  | .node c k r, .node c' k' r', x, y, h1, h2, hc, h => by
    simp only [Fo.cells, List.cons_append, List.cons.injEq, List.append_assoc] at h
    obtain ⟨rfl, h⟩ := h
    have hk : k.count = k'.count := ok_count (x := ((c, k), (c, k'))) ⟨h1.1, h1.2.1, h1.2.2.1, h1.2.2.2.1, h1.2.2.2.2.1, trivial⟩ ⟨h2.1, h2.2.1, h2.2.2.1, h2.2.2.2.1, h2.2.2.2.2.1, trivial⟩ rfl
    obtain ⟨rfl, h'⟩ := Fo.cells_inj k k' _ _ h1.2.2.2.2.1 h2.2.2.2.2.1 hk h
    obtain ⟨rfl, rfl⟩ := Fo.cells_inj r r' x y h1.2.2.2.2.2 h2.2.2.2.2.2 (by simpa [Fo.count] using hc) h'
    exact ⟨rfl, rfl⟩
theorem eqT_cells {x : TT} (h1 : x.1.ok) (h2 : x.2.ok) : eqT x = decide (x.1.1 :: x.1.2.cells = x.2.1 :: x.2.2.cells) := by
  rw [Bool.eq_iff_iff, eqT_iff, decide_eq_true_eq]
  obtain ⟨⟨c, k⟩, ⟨c', k'⟩⟩ := x
  constructor
  · intro h
    obtain ⟨rfl, rfl⟩ := Prod.mk.inj h
    rfl
  · intro h
    have := Fo.cells_inj (.node c k .nil) (.node c' k' .nil) [] [] h1 h2 rfl (by simpa [Fo.cells] using h)
    have h3 := this.1
    injection h3 with e1 e2
    rw [e1, e2]
end Go.Proofs.YtaakpdakeolgeaaGreat

namespace Go.Proofs.YtaakpdakeolgeaaGreat
open Go Go.RowKit
set_option linter.unusedVariables false
def look {α : Type} : List (Int × α) → Int → Option α
  | [], _ => none
  | y :: r, x => if y.1 = x then some y.2 else look r x
theorem look_append {α : Type} : ∀ (E F : List (Int × α)) (x : Int), look (E ++ F) x = match look E x with | some t => some t | none => look F x
  | [], F, x => by simp [look]
  | y :: r, F, x => by
    by_cases h : y.1 = x
    · simp [look, h]
    · simp [look, h, look_append r F x]
theorem look_none {α : Type} : ∀ (E : List (Int × α)) (x : Int), look E x = none ↔ x ∉ E.map Prod.fst
  | [], x => by simp [look]
  | y :: r, x => by
    have := look_none r x
    by_cases h : y.1 = x
    · simp [look, h]
    · have h' : ¬ x = y.1 := fun e => h e.symm
      simp only [look, if_neg h, this, List.map_cons, List.mem_cons, h', false_or]
theorem look_at {α : Type} : ∀ (E : List (Int × α)) (x : Int) (t : α), look E x = some t → ∃ h : (E.map Prod.fst).idxOf x < E.length, (E[(E.map Prod.fst).idxOf x]'h).2 = t
  | [], x, t, h => by simp [look] at h
  | y :: r, x, t, h => by
    by_cases e : y.1 = x
    · simp only [look, if_pos e, Option.some.injEq] at h
      have : (((y :: r).map Prod.fst).idxOf x) = 0 := by simp [e]
      simp only [this]
      exact ⟨by simp, by simpa using h⟩
    · simp only [look, if_neg e] at h
      obtain ⟨h1, h2⟩ := look_at r x t h
      have hb : (y.1 == x) = false := by simpa using e
      have : (((y :: r).map Prod.fst).idxOf x) = (r.map Prod.fst).idxOf x + 1 := by rw [List.map_cons, List.idxOf_cons, hb]; rfl
      simp only [this]
      exact ⟨by simp; omega, by simpa using h2⟩
theorem look_mem {α : Type} {E : List (Int × α)} {x : Int} {t : α} (h : look E x = some t) : (x, t) ∈ E := by
  induction E with
  | nil => simp [look] at h
  | cons y r ih =>
    by_cases e : y.1 = x
    · simp only [look, if_pos e, Option.some.injEq] at h
      subst e h
      simp
    · simp only [look, if_neg e] at h
      simp [ih h]
abbrev Env := List (Int × Tr)
def subF : Env → Fo → Fo → Option Env
  | env, .nil, .nil => some env
  | env, .node c k r, .node c' k' r' =>
    if c.1 = 0 then
      match look env c.2.1 with
      | some t => if eqT (t, (c', k')) = true then subF env r r' else none
      | none => subF (env ++ [(c.2.1, (c', k'))]) r r'
    else if c = c' then (match subF env k k' with | some e => subF e r r' | none => none) else none
  | _, .nil, .node _ _ _ => none
  | _, .node _ _ _, .nil => none
def subL : Env → List TT → Option Env
  | env, [] => some env
  | env, x :: l => match subF env x.1.fo x.2.fo with | some e => subL e l | none => none
theorem subF_cat : ∀ (k k' r r' : Fo) (env : Env), k.count = k'.count → subF env (k.cat r) (k'.cat r') = match subF env k k' with | some e => subF e r r' | none => none
  | .nil, .nil, r, r', env, _ => by simp [Fo.cat, subF]
  | .nil, .node _ _ _, _, _, _, h => by simp [Fo.count] at h
  | .node _ _ _, .nil, _, _, _, h => by simp [Fo.count] at h
  | .node c k s, .node c' k' s', r, r', env, h => by
    have hs : s.count = s'.count := by simpa [Fo.count] using h
    simp only [Fo.cat, subF]
    by_cases h0 : c.1 = 0
    · simp only [if_pos h0]
      cases hl : look env c.2.1 with
      | none => simp only [subF_cat s s' r r' _ hs]
      | some t =>
        by_cases ht : eqT (t, (c', k')) = true
        · simp only [if_pos ht, subF_cat s s' r r' _ hs]
        · simp only [if_neg ht]
    · simp only [if_neg h0]
      by_cases hc : c = c'
      · simp only [if_pos hc]
        cases hk : subF env k k' with
        | none => rfl
        | some e => simp only [subF_cat s s' r r' e hs]
      · simp only [if_neg hc]
theorem subF_node (c c' : Cel) (k k' r r' : Fo) (env : Env) : subF env (.node c k r) (.node c' k' r') = match subF env (.node c k .nil) (.node c' k' .nil) with | some e => subF e r r' | none => none :=
  subF_cat (.node c k .nil) (.node c' k' .nil) r r' env rfl
theorem subL_zip : ∀ (a b : Fo) (l : List TT) (env : Env), a.count = b.count → subL env ((trs a).zip (trs b) ++ l) = match subF env a b with | some e => subL e l | none => none
  | .nil, .nil, l, env, _ => by simp [trs, subF]
  | .nil, .node _ _ _, _, _, h => by simp [Fo.count] at h
  | .node _ _ _, .nil, _, _, h => by simp [Fo.count] at h
  | .node c k r, .node c' k' r', l, env, h => by
    rw [subF_node c c' k k' r r' env]
    simp only [trs, List.zip_cons_cons, List.cons_append, subL, Tr.fo]
    cases subF env (.node c k .nil) (.node c' k' .nil) with
    | none => rfl
    | some e => exact subL_zip r r' l e (by simpa [Fo.count] using h)
theorem subL_old {env : Env} {x : TT} (l : List TT) (h0 : x.1.1.1 = 0) {t : Tr} (hl : look env x.1.1.2.1 = some t) : subL env (x :: l) = if eqT (t, x.2) = true then subL env l else none := by
  obtain ⟨⟨c, k⟩, ⟨c', k'⟩⟩ := x
  simp only at h0 hl
  simp only [subL, Tr.fo, subF, if_pos h0, hl]
  by_cases ht : eqT (t, (c', k')) = true
  · simp only [if_pos ht]
  · simp only [if_neg ht]
theorem subL_new {env : Env} {x : TT} (l : List TT) (h0 : x.1.1.1 = 0) (hl : look env x.1.1.2.1 = none) : subL env (x :: l) = subL (env ++ [(x.1.1.2.1, x.2)]) l := by
  obtain ⟨⟨c, k⟩, ⟨c', k'⟩⟩ := x
  simp only at h0 hl
  simp only [subL, Tr.fo, subF, if_pos h0, hl]
theorem subL_open {env : Env} {x : TT} (l : List TT) (h0 : x.1.1.1 ≠ 0) (hc : x.1.1 = x.2.1) (hn : x.1.2.count = x.2.2.count) : subL env ((opened x).reverse ++ l) = subL env (x :: l) := by
  obtain ⟨⟨c, k⟩, ⟨c', k'⟩⟩ := x
  simp only at h0 hc hn
  rw [opened, if_pos hc, argPairs, List.reverse_reverse, subL_zip _ _ _ _ hn]
  simp only [subL, Tr.fo, subF, if_neg h0, if_pos hc]
  cases subF env k k' <;> rfl
theorem subL_no {env : Env} {x : TT} (l : List TT) (h0 : x.1.1.1 ≠ 0) (hc : x.1.1 ≠ x.2.1) : subL env (x :: l) = none := by
  obtain ⟨⟨c, k⟩, ⟨c', k'⟩⟩ := x
  simp only at h0 hc
  simp only [subL, Tr.fo, subF, if_neg h0, if_neg hc]
end Go.Proofs.YtaakpdakeolgeaaGreat

