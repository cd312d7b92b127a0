/- Texts of Dt6, Dt8, Dt9. Own work of the verifier. -/
import Derived.Test.YtkklidpnkofipaaGreatDoorUqai
namespace Go.Proofs.YtkklidpnkofipaaGreatDoor
set_option maxRecDepth 100000
open Go Go.RowKit
set_option linter.unusedVariables false
theorem str_made (w : World) (L : List (List UInt8)) (t : TypeId) (i : Nat) (h : i < L.length) : (w.alloc (.cells (L.map strV).toArray t)).cell? ⟨w.heap.size, i, none⟩ = some (.string (strOfNums (numsU (L.getD i [])))) := by
 rw [cell_lit w (L.map strV) t i (by rw [List.length_map]; exact h)]; simp only [List.getElem_map, List.getD, List.getElem?_eq_getElem h, strOf_numsU]; rfl
theorem OwnC.keepR {w w' : World} {B R : Nat} {p : Option Addr} {n c : Nat} {cs : List Cel} (h : OwnC w B p n c cs) (hk : Keep R (R + 1) w w') (hR : R < B) : OwnC w' B p n c cs := by
 obtain ⟨rfl, rs, hl, hr, hf, ha⟩ := h; refine ⟨rfl, rs, hl, ⟨hr.1, ?_⟩, fun i hi => ⟨(hf i hi).1, (hf i hi).2.1, (hf i hi).2.2.other hk.size (fun g hn e => ?_)⟩, ha⟩
 ·rcases hr.2 with h' | ⟨g, cap, cur, hv, hB, hg, r⟩
  ·exact .inl h'
  ·exact .inr ⟨g, cap, cur, hv, hB, (hk.block g (Array.getElem?_eq_some_iff.1 hg).1 (.inr (by omega))).trans hg, r⟩
 ·obtain ⟨g', e', hB, hlt, _⟩ := (hf i hi).2.2.2 hn
  rw [e] at e'
  cases e'
  exact hk.block g hlt (.inr (by omega))
theorem one_made (s : List Int) (hs : Byte s) (w : World) {m B n c : Nat} {q : Option Addr} {cs : List Cel} (ho : OwnC w B q n c cs) (hc : Sml m cs) (hm : m ≤ 600) :
  Calls Tryz.prog 39 #[.string (strOfNums s), .slice (some ⟨w.heap.size, 0, none⟩) 1 1] (w.alloc (.cells #[.slice q n c] 23)) fun e w' => ∃ q m c2, e = .returned (.slice q m c2) ∧ OwnC w' w.heap.size q m c2 ((3, 1, s) :: cs) ∧ Below w.heap.size w w' := by
 have hb : Below w.heap.size w (w.alloc (.cells #[.slice q n c] 23)) := (Below.refl _ _).alloc (Nat.le_refl _) _; have hx := l2comp_any s hs w.heap.size 1 1 [cs] (w.alloc (.cells #[.slice q n c] 23)) rfl (by decide) (rows_one (q := q) (c := c) (by rw [← ho.1]; exact cell_of_row _ _ 0 _ _ _ (heap_alloc_new w _)) (ho.cin.below hb) hc.pos (hc.few hm).2); refine hx.mono ?_; rintro e w' ⟨q', m', c', he, ho', hb'⟩; refine ⟨q', m', c', he, ?_, Below.on hb hb'⟩; have := ho'.mono (B' := w.heap.size) (by simp)
 simpa using this
set_option maxHeartbeats 4000000 in
theorem term_two (R c i m0 : Nat) (p : Option Addr) (xs : List Int) (D : Int) (f g : Nat → List Cel × Nat) (w : World) (h : RdIn w R p c xs i) (hD : -10 ≤ D ∧ D ≤ 10) (hc : 0 < D) (hF : TermK R c p xs (D - 1) f) (hG : TermK R c p xs (D - 2) g) (hm0 : m0 ≤ 600) (hf : ∀ i, Sml m0 (f i).1) (hg : ∀ i, Sml m0 (g i).1) (h0 : ¬ rdN xs i = xs.length) (h50 : ¬ (rdI xs i).toNat < 50) (h90 : ¬ (rdI xs i).toNat < 90) (h180 : (rdI xs i).toNat < 180) :
  Calls Tryz.prog 35 #[.pointer (some ⟨R, 0, none⟩), .int .i64 D] w (TermOut w R p c xs (nodeT xs f g i)) := by
 have HH : Hid (RdIn w R p c xs i) := h; have HF : Hid (TermK R c p xs (D - 1) f) := hF; have HG : Hid (TermK R c p xs (D - 2) g) := hG; have HSF : Hid (∀ i, Sml m0 (f i).1) := hf; have HSG : Hid (∀ i, Sml m0 (g i).1) := hg; have HM0 : Hid (m0 ≤ 600) := hm0; have hr := rdI_rng h.bytes i; have hle := rdN_le h.le; have hsm := h.small; have hRw : R < w.heap.size := h.lt; have hr1 := rdI_rng h.bytes (rdN xs i)
 have HNT : Hid (nodeT xs f g i = ((3, 2, numsU (binU.getD ((rdI xs (rdN xs i)).toNat % 17) [])) :: ((f (rdN xs (rdN xs i))).1 ++ (f (f (rdN xs (rdN xs i))).2).1), (f (f (rdN xs (rdN xs i))).2).2)) := by
  show _ = _
  unfold nodeT
  simp only; rw [if_neg (by intro hh; rcases hh with hh | hh; exact h0 hh; exact h50 hh), if_neg h90, if_pos h180]
 obtain ⟨n, en⟩ : ∃ n, n = xs.length := ⟨_, rfl⟩
 rw [← en] at hle hsm h0; have HEN : Hid (n = xs.length) := en
 obtain ⟨i1, ei⟩ : ∃ i1, i1 = rdN xs i := ⟨_, rfl⟩
 rw [← ei] at hle hr1 h0; rw [← ei] at HNT; have HEI : Hid (i1 = rdN xs i) := ei; have hd : decide (D ≤ 0) = false := decide_eq_false (by omega)
 obtain ⟨res, er⟩ : ∃ res, res = nodeT xs f g i := ⟨_, rfl⟩
 rw [← er]; have HER : Hid (res = nodeT xs f g i) := er; clear h en ei hF hG hf hg hm0 er
 go_enter Tryz.func35, Tryz.ntmps35
 go_wp2_with fail; refine (next_any R c i p xs w HH.out).mono ?_; rintro e w2 ⟨rfl, hk2, hs2, hR2⟩; have HK2 : Hid (Keep R (R + 1) w w2) := hk2
 have HR2 : Hid (RdIn w2 R p c xs i1) := by rw [HEI.out]; exact hR2
 obtain ⟨x, ex⟩ : ∃ x : Nat, rdI xs i = x := ⟨(rdI xs i).toNat, by omega⟩
 have hxt : (rdI xs i).toNat = x := by rw [ex]; exact Int.toNat_natCast x
 rw [hxt] at h50 h90 h180; rw [ex] at hr ⊢; have hx50 : decide ((x : Int) < 50) = false := decide_eq_false (by omega); clear hk2 hs2 hR2 ex hxt; go_wp2_with fail; refine (left_any R c i1 p xs w2 HR2.out).mono ?_; rintro e wL ⟨rfl, hbL⟩; have HRL : Hid (RdIn wL R p c xs i1) := HR2.out.grow hbL; have HKL : Hid (Keep R (R + 1) w wL) := HK2.out.trans (Keep.of_below hbL); rw [← HEN.out]
 obtain ⟨lf, el⟩ : ∃ lf, lf = n - i1 := ⟨_, rfl⟩
 rw [← el]
 have hlf : lf ≤ 500 := by omega
 have hz0 : ((lf : Int) == 0) = false := by simp; omega
 clear hbL el; have hx90 : decide ((x : Int) < 90) = false := decide_eq_false (by omega); have hx180 : decide ((x : Int) < 180) = true := decide_eq_true (by omega)
 obtain ⟨y, ey⟩ : ∃ y : Nat, rdI xs i1 = y := ⟨(rdI xs i1).toNat, by omega⟩
 have hy : y < 256 := by omega
 obtain ⟨z, ez⟩ : ∃ z, z = y % 17 := ⟨_, rfl⟩
 have hz : z < 17 := by omega
 have hzi : (0 : Int) ≤ (z : Int) := by omega
 have hzj : (z : Int) < 17 := by omega
 have hzn : (z : Int).toNat = z := Int.toNat_natCast z
 have hwrp : IntKind.i64.wrap (D - 1) = D - 1 := by rw [IntKind.wrap_i64]; omega
 have hmz : (y : Int).tmod 17 = (z : Int) := by rw [ez, Int.tmod_eq_emod_of_nonneg (by omega)]; rfl
 obtain ⟨sN, es⟩ : ∃ s, s = numsU (binU.getD z []) := ⟨_, rfl⟩
 have HBS : Hid (Byte sN) := by rw [es]; exact byte_numsU _
 obtain ⟨i2, ei2⟩ : ∃ i2, i2 = rdN xs i1 := ⟨_, rfl⟩
 have HV : Hid (res = ((3, 2, sN) :: ((f i2).1 ++ (f (f i2).2).1), (f (f i2).2).2)) := by
  show _ = _
  rw [HER.out, HNT.out, ey, Int.toNat_natCast, ← ez, ← es, ← ei2]
 obtain ⟨wB, eB⟩ : ∃ wB, wB = wL.alloc (.cells (binU.map strV).toArray 9) := ⟨_, rfl⟩
 obtain ⟨wA, eA⟩ : ∃ wA, wA = wB.alloc (.cells (unaU.map strV).toArray 9) := ⟨_, rfl⟩
 have hsB : wB.heap.size = wL.heap.size + 1 := by rw [eB]; simp
 have hbB : Below wL.heap.size wL wB := by rw [eB]; exact (Below.refl _ _).alloc (Nat.le_refl _) _
 have hbA0 : Below wB.heap.size wB wA := by rw [eA]; exact (Below.refl _ _).alloc (Nat.le_refl _) _
 have hbA : Below wL.heap.size wL wA := Below.on hbB hbA0
 have hcell : wA.cell? ⟨wL.heap.size, z, none⟩ = some (.string (strOfNums sN)) := by
  have h1 := str_made wL binU 9 z hz; rw [← eB, ← es] at h1; exact (hbA0.cell (p := ⟨wL.heap.size, z, none⟩) (by show wL.heap.size < _; omega)).trans h1
 have HKA : Hid (Keep R (R + 1) w wA) := HKL.out.trans (Keep.of_below hbA)
 have HRA : Hid (∀ k, RdIn (wA.drewN k) R p c xs i1) := fun k => (HRL.out.grow hbA).grow (below_drewN (Below.refl _ _) k)
 have HKAd : Hid (∀ k, Keep R (R + 1) w (wA.drewN k)) := fun k => HKA.out.trans (Keep.of_below (below_drewN (Below.refl _ _) k))
 have HRbt : Hid (R < wL.heap.size) := Nat.lt_of_lt_of_le hRw (Nat.le_trans HKL.out.size (by omega))
 have HCA : Hid (∀ k, (wA.drewN k).cell? ⟨wL.heap.size, z, none⟩ = some (.string (strOfNums sN))) := fun k => hcell
 have HN : Hid (∀ W, RdIn W R p c xs i1 → Calls Tryz.prog 15 #[.pointer (some ⟨R, 0, none⟩)] W fun e w' => e = .returned (.int .i64 (y : Int)) ∧ Keep R (R + 1) W w' ∧ w'.heap.size = W.heap.size ∧ RdIn w' R p c xs i2) := fun W hW => by
  have := next_any R c i1 p xs W hW; rw [ey, ← ei2] at this; exact this
 have tok0 : True := trivial; rw [eB] at eA
 have eA' : wA = (wL.alloc (Obj.cells #[.string ⟨#[45]⟩, .string ⟨#[43]⟩, .string ⟨#[61]⟩, .string ⟨#[44]⟩, .string ⟨#[58, 45]⟩, .string ⟨#[59]⟩, .string ⟨#[45, 62]⟩, .string ⟨#[105, 115]⟩, .string ⟨#[94]⟩, .string ⟨#[42, 42]⟩, .string ⟨#[42]⟩, .string ⟨#[64, 64]⟩, .string ⟨#[109, 111, 100]⟩, .string ⟨#[102]⟩, .string ⟨#[45, 45, 62]⟩, .string ⟨#[114]⟩, .string ⟨#[113]⟩] 9)).alloc (Obj.cells #[.string ⟨#[45]⟩, .string ⟨#[92, 43]⟩, .string ⟨#[58, 45]⟩, .string ⟨#[43]⟩, .string ⟨#[123, 125]⟩, .string ⟨#[100, 121, 110, 97, 109, 105, 99]⟩, .string ⟨#[103]⟩, .string ⟨#[92]⟩, .string ⟨#[112]⟩, .string ⟨#[64, 64]⟩, .string ⟨#[91, 93]⟩, .string ⟨#[33]⟩] 9) := by rw [eA]; rfl
 have hszL : R < wL.heap.size := Nat.lt_of_lt_of_le hRw HKL.out.size; clear h50 hbA hbB hbA0 HNT HER ey ez es ei2 eB eA h90 h180; clear hsB; go_wp2_with fail; rw [← eA']; clear eA'
 go_region_held3 (fun W => W.cell? ⟨wL.heap.size, z, none⟩ = some (.string (strOfNums sN))) (first | exact kk | exact hcell | go_keep)
  (first
    | (have _t := tok0; go_at_call 15; refine Calls.mono (HN.out _ (HRA.out 1)) ?_; rintro e w3 ⟨rfl, hk3, hs3, hR3⟩; have HK3 : Hid (Keep R (R + 1) w w3) := (HKAd.out 1).trans hk3; have HR3 : Hid (RdIn w3 R p c xs i2) := hR3; have kk : w3.cell? ⟨wL.heap.size, z, none⟩ = some (.string (strOfNums sN)) := hk3.cell (HCA.out 1) (.inr HRbt.out); have HC3 : Hid (w3.cell? ⟨wL.heap.size, z, none⟩ = some (.string (strOfNums sN))) := kk; clear hk3 hs3 hR3 tok0; have tok1 : True := trivial)
    | (have _t := tok1; go_at_call 35; refine Calls.mono (HF.out i2 w3 HR3.out) ?_; rintro e w4 ⟨q4, n4, c4, rfl, ho4, hk4, hR4⟩; have HK4 : Hid (Keep R (R + 1) w w4) := HK3.out.trans hk4; have HR4 : Hid (RdIn w4 R p c xs (f i2).2) := hR4; have HO4 : Hid (OwnC w4 w3.heap.size q4 n4 c4 (f i2).1) := ho4; have kk : w4.cell? ⟨wL.heap.size, z, none⟩ = some (.string (strOfNums sN)) := hk4.cell HC3.out (.inr HRbt.out); have HC4 : Hid (w4.cell? ⟨wL.heap.size, z, none⟩ = some (.string (strOfNums sN))) := kk; clear hk4 ho4 hR4 tok1; have tok2 : True := trivial)
    | (have _t := tok2; go_at_call 35; refine Calls.mono (HF.out (f i2).2 w4 HR4.out) ?_; rintro e w5 ⟨q5, n5, c5, rfl, ho5, hk5, hR5⟩; have HK5 : Hid (Keep R (R + 1) w w5) := HK4.out.trans hk5; have HR5 : Hid (RdIn w5 R p c xs (f (f i2).2).2) := hR5; have HL := l2pair_any sN HBS.out q4 q5 n4 n5 c4 c5 (f i2).1 (f (f i2).2).1 w5 HO4.out.1 ho5.1 (HO4.out.keepR hk5 (Nat.le_trans (by have := hRw; have := HK3.out.size; omega) (Nat.le_refl _))).cin ho5.cin (HSF.out _).pos (HSF.out _).pos ((HSF.out _).few HM0.out).2 ((HSF.out _).few HM0.out).2; have HLH : Hid _ := HL; have kk : w5.cell? ⟨wL.heap.size, z, none⟩ = some (.string (strOfNums sN)) := hk5.cell HC4.out (.inr HRbt.out); clear hk5 ho5 hR5 tok2 HL; have tok3 : True := trivial)
    | (have _t := tok3; go_at_call 40; refine Calls.mono HLH.out ?_; rintro e w6 ⟨q6, n6, c6, rfl, ho6, hb6⟩; have FIN : Hid _ := TermOut.of HK5.out HR5.out ho6 hb6; have kk : w6.cell? ⟨wL.heap.size, z, none⟩ = some (.string (strOfNums sN)) := (hb6.cell (World.block_lt_of_cell? _ _ kk)).trans kk; clear ho6 hb6 tok3))
 rename_i hheld; clear hheld
 clear kk; go_wp2_with fail; go_ret; rw [HV.out]; exact FIN.out
set_option maxHeartbeats 4000000 in
theorem term_one (R c i m0 : Nat) (p : Option Addr) (xs : List Int) (D : Int) (f g : Nat → List Cel × Nat) (w : World) (h : RdIn w R p c xs i) (hD : -10 ≤ D ∧ D ≤ 10) (hc : 0 < D) (hF : TermK R c p xs (D - 1) f) (hG : TermK R c p xs (D - 2) g) (hm0 : m0 ≤ 600) (hf : ∀ i, Sml m0 (f i).1) (hg : ∀ i, Sml m0 (g i).1) (h0 : ¬ rdN xs i = xs.length) (h50 : ¬ (rdI xs i).toNat < 50) (h180 : ¬ (rdI xs i).toNat < 180) (h230 : (rdI xs i).toNat < 230) :
  Calls Tryz.prog 35 #[.pointer (some ⟨R, 0, none⟩), .int .i64 D] w (TermOut w R p c xs (nodeT xs f g i)) := by
 have HH : Hid (RdIn w R p c xs i) := h; have HF : Hid (TermK R c p xs (D - 1) f) := hF; have HG : Hid (TermK R c p xs (D - 2) g) := hG; have HSF : Hid (∀ i, Sml m0 (f i).1) := hf; have HSG : Hid (∀ i, Sml m0 (g i).1) := hg; have HM0 : Hid (m0 ≤ 600) := hm0; have hr := rdI_rng h.bytes i; have hle := rdN_le h.le; have hsm := h.small; have hRw : R < w.heap.size := h.lt; have hr1 := rdI_rng h.bytes (rdN xs i)
 have HNT : Hid (nodeT xs f g i = ((3, 1, numsU (unaU.getD ((rdI xs (rdN xs i)).toNat % 12) [])) :: (f (rdN xs (rdN xs i))).1, (f (rdN xs (rdN xs i))).2)) := by
  show _ = _
  unfold nodeT
  simp only; rw [if_neg (by intro hh; rcases hh with hh | hh; exact h0 hh; exact h50 hh), if_neg (by omega), if_neg h180, if_pos h230]
 obtain ⟨n, en⟩ : ∃ n, n = xs.length := ⟨_, rfl⟩
 rw [← en] at hle hsm h0; have HEN : Hid (n = xs.length) := en
 obtain ⟨i1, ei⟩ : ∃ i1, i1 = rdN xs i := ⟨_, rfl⟩
 rw [← ei] at hle hr1 h0; rw [← ei] at HNT; have HEI : Hid (i1 = rdN xs i) := ei; have hd : decide (D ≤ 0) = false := decide_eq_false (by omega)
 obtain ⟨res, er⟩ : ∃ res, res = nodeT xs f g i := ⟨_, rfl⟩
 rw [← er]; have HER : Hid (res = nodeT xs f g i) := er; clear h en ei hF hG hf hg hm0 er
 go_enter Tryz.func35, Tryz.ntmps35
 go_wp2_with fail; refine (next_any R c i p xs w HH.out).mono ?_; rintro e w2 ⟨rfl, hk2, hs2, hR2⟩; have HK2 : Hid (Keep R (R + 1) w w2) := hk2
 have HR2 : Hid (RdIn w2 R p c xs i1) := by rw [HEI.out]; exact hR2
 obtain ⟨x, ex⟩ : ∃ x : Nat, rdI xs i = x := ⟨(rdI xs i).toNat, by omega⟩
 have hxt : (rdI xs i).toNat = x := by rw [ex]; exact Int.toNat_natCast x
 rw [hxt] at h50 h180 h230; rw [ex] at hr ⊢; have hx50 : decide ((x : Int) < 50) = false := decide_eq_false (by omega); clear hk2 hs2 hR2 ex hxt; go_wp2_with fail; refine (left_any R c i1 p xs w2 HR2.out).mono ?_; rintro e wL ⟨rfl, hbL⟩; have HRL : Hid (RdIn wL R p c xs i1) := HR2.out.grow hbL; have HKL : Hid (Keep R (R + 1) w wL) := HK2.out.trans (Keep.of_below hbL); rw [← HEN.out]
 obtain ⟨lf, el⟩ : ∃ lf, lf = n - i1 := ⟨_, rfl⟩
 rw [← el]
 have hlf : lf ≤ 500 := by omega
 have hz0 : ((lf : Int) == 0) = false := by simp; omega
 clear hbL el; have hx90 : decide ((x : Int) < 90) = false := decide_eq_false (by omega); have hx180 : decide ((x : Int) < 180) = false := decide_eq_false (by omega); have hx230 : decide ((x : Int) < 230) = true := decide_eq_true (by omega)
 obtain ⟨y, ey⟩ : ∃ y : Nat, rdI xs i1 = y := ⟨(rdI xs i1).toNat, by omega⟩
 have hy : y < 256 := by omega
 obtain ⟨z, ez⟩ : ∃ z, z = y % 12 := ⟨_, rfl⟩
 have hz : z < 12 := by omega
 have hzi : (0 : Int) ≤ (z : Int) := by omega
 have hzj : (z : Int) < 12 := by omega
 have hzn : (z : Int).toNat = z := Int.toNat_natCast z
 have hwrp : IntKind.i64.wrap (D - 1) = D - 1 := by rw [IntKind.wrap_i64]; omega
 have hmz : (y : Int).tmod 12 = (z : Int) := by rw [ez, Int.tmod_eq_emod_of_nonneg (by omega)]; rfl
 obtain ⟨sN, es⟩ : ∃ s, s = numsU (unaU.getD z []) := ⟨_, rfl⟩
 have HBS : Hid (Byte sN) := by rw [es]; exact byte_numsU _
 obtain ⟨i2, ei2⟩ : ∃ i2, i2 = rdN xs i1 := ⟨_, rfl⟩
 have HV : Hid (res = ((3, 1, sN) :: (f i2).1, (f i2).2)) := by
  show _ = _
  rw [HER.out, HNT.out, ey, Int.toNat_natCast, ← ez, ← es, ← ei2]
 obtain ⟨wB, eB⟩ : ∃ wB, wB = wL.alloc (.cells (binU.map strV).toArray 9) := ⟨_, rfl⟩
 obtain ⟨wA, eA⟩ : ∃ wA, wA = wB.alloc (.cells (unaU.map strV).toArray 9) := ⟨_, rfl⟩
 have hsB : wB.heap.size = wL.heap.size + 1 := by rw [eB]; simp
 have hbB : Below wL.heap.size wL wB := by rw [eB]; exact (Below.refl _ _).alloc (Nat.le_refl _) _
 have hbA0 : Below wB.heap.size wB wA := by rw [eA]; exact (Below.refl _ _).alloc (Nat.le_refl _) _
 have hbA : Below wL.heap.size wL wA := Below.on hbB hbA0
 have hcell : wA.cell? ⟨wL.heap.size + 1, z, none⟩ = some (.string (strOfNums sN)) := by
  have h1 := str_made wB unaU 9 z hz; rw [← eA, ← es, hsB] at h1; exact h1
 have HKA : Hid (Keep R (R + 1) w wA) := HKL.out.trans (Keep.of_below hbA)
 have HRA : Hid (∀ k, RdIn (wA.drewN k) R p c xs i1) := fun k => (HRL.out.grow hbA).grow (below_drewN (Below.refl _ _) k)
 have HKAd : Hid (∀ k, Keep R (R + 1) w (wA.drewN k)) := fun k => HKA.out.trans (Keep.of_below (below_drewN (Below.refl _ _) k))
 have HRbt : Hid (R < wL.heap.size + 1) := Nat.lt_of_lt_of_le hRw (Nat.le_trans HKL.out.size (by omega))
 have HCA : Hid (∀ k, (wA.drewN k).cell? ⟨wL.heap.size + 1, z, none⟩ = some (.string (strOfNums sN))) := fun k => hcell
 have HN : Hid (∀ W, RdIn W R p c xs i1 → Calls Tryz.prog 15 #[.pointer (some ⟨R, 0, none⟩)] W fun e w' => e = .returned (.int .i64 (y : Int)) ∧ Keep R (R + 1) W w' ∧ w'.heap.size = W.heap.size ∧ RdIn w' R p c xs i2) := fun W hW => by
  have := next_any R c i1 p xs W hW; rw [ey, ← ei2] at this; exact this
 have tok0 : True := trivial; rw [eB] at eA
 have eA' : wA = (wL.alloc (Obj.cells #[.string ⟨#[45]⟩, .string ⟨#[43]⟩, .string ⟨#[61]⟩, .string ⟨#[44]⟩, .string ⟨#[58, 45]⟩, .string ⟨#[59]⟩, .string ⟨#[45, 62]⟩, .string ⟨#[105, 115]⟩, .string ⟨#[94]⟩, .string ⟨#[42, 42]⟩, .string ⟨#[42]⟩, .string ⟨#[64, 64]⟩, .string ⟨#[109, 111, 100]⟩, .string ⟨#[102]⟩, .string ⟨#[45, 45, 62]⟩, .string ⟨#[114]⟩, .string ⟨#[113]⟩] 9)).alloc (Obj.cells #[.string ⟨#[45]⟩, .string ⟨#[92, 43]⟩, .string ⟨#[58, 45]⟩, .string ⟨#[43]⟩, .string ⟨#[123, 125]⟩, .string ⟨#[100, 121, 110, 97, 109, 105, 99]⟩, .string ⟨#[103]⟩, .string ⟨#[92]⟩, .string ⟨#[112]⟩, .string ⟨#[64, 64]⟩, .string ⟨#[91, 93]⟩, .string ⟨#[33]⟩] 9) := by rw [eA]; rfl
 have hszL : R < wL.heap.size := Nat.lt_of_lt_of_le hRw HKL.out.size; clear h50 hbA hbB hbA0 HNT HER ey ez es ei2 eB eA h180 h230; clear hsB; go_wp2_with fail; rw [← eA']; clear eA'
 go_region_held3 (fun W => W.cell? ⟨wL.heap.size + 1, z, none⟩ = some (.string (strOfNums sN))) (first | exact kk | exact hcell | go_keep)
  (first
    | (have _t := tok0; go_at_call 15; refine Calls.mono (HN.out _ (HRA.out 1)) ?_; rintro e w3 ⟨rfl, hk3, hs3, hR3⟩; have HK3 : Hid (Keep R (R + 1) w w3) := (HKAd.out 1).trans hk3; have HR3 : Hid (RdIn w3 R p c xs i2) := hR3; have kk : w3.cell? ⟨wL.heap.size + 1, z, none⟩ = some (.string (strOfNums sN)) := hk3.cell (HCA.out 1) (.inr HRbt.out); have HC3 : Hid (w3.cell? ⟨wL.heap.size + 1, z, none⟩ = some (.string (strOfNums sN))) := kk; clear hk3 hs3 hR3 tok0; have tok1 : True := trivial)
    | (have _t := tok1; go_at_call 35; refine Calls.mono (HF.out i2 w3 HR3.out) ?_; rintro e w4 ⟨q4, n4, c4, rfl, ho4, hk4, hR4⟩; have HK4 : Hid (Keep R (R + 1) w w4) := HK3.out.trans hk4; have HR4 : Hid (RdIn w4 R p c xs (f i2).2) := hR4; have HO4 : Hid (OwnC w4 w3.heap.size q4 n4 c4 (f i2).1) := ho4; have kk : w4.cell? ⟨wL.heap.size + 1, z, none⟩ = some (.string (strOfNums sN)) := hk4.cell HC3.out (.inr HRbt.out); have HC4 : Hid (w4.cell? ⟨wL.heap.size + 1, z, none⟩ = some (.string (strOfNums sN))) := kk; clear hk4 ho4 hR4 tok1; have tok2 : True := trivial)
    | (have _t := tok2; go_at_call 39; refine Calls.mono (one_made sN HBS.out w4 HO4.out (HSF.out i2) HM0.out) ?_; rintro e w6 ⟨q6, n6, c6, rfl, ho6, hb6⟩; have FIN : Hid _ := TermOut.of HK4.out HR4.out ho6 hb6; have kk : w6.cell? ⟨wL.heap.size + 1, z, none⟩ = some (.string (strOfNums sN)) := (hb6.cell (World.block_lt_of_cell? _ _ HC4.out)).trans HC4.out; clear ho6 hb6 tok2))
 rename_i hheld; clear hheld
 clear kk; go_wp2_with fail; go_ret; rw [HV.out]; exact FIN.out
theorem l4term_any (R c : Nat) (p : Option Addr) (xs : List Int) : ∀ (d : Nat) (D : Int), d ≤ 4 → D.toNat = d → -10 ≤ D → TermK R c p xs D (drawT xs d) := by
 have low : ∀ (D : Int), D ≤ 0 → -10 ≤ D → TermK R c p xs D (drawT xs 0) := fun D h1 h2 i w h => term_low R c i p xs D w h ⟨h2, by omega⟩ h1
 have node : ∀ (D : Int) (m : Nat) (f g : Nat → List Cel × Nat), 0 < D → D ≤ 10 → m ≤ 600 → (∀ i, Sml m (f i).1) → (∀ i, Sml m (g i).1) → TermK R c p xs (D - 1) f → TermK R c p xs (D - 2) g → TermK R c p xs D (nodeT xs f g) := by
  intro D m f g h0 h1 hm hf hg hF hG i w h
  by_cases e1 : rdN xs i = xs.length
  ·have := term_end R c i p xs D w h ⟨by omega, h1⟩ h0 e1
   rwa [show leafT xs (rdI xs i).toNat (rdN xs i) = nodeT xs f g i by unfold nodeT; simp only; rw [if_pos (.inl e1)]] at this
  by_cases e2 : (rdI xs i).toNat < 50
  ·have := term_few R c i p xs D w h ⟨by omega, h1⟩ h0 e1 e2
   rwa [show leafT xs (rdI xs i).toNat (rdN xs i) = nodeT xs f g i by unfold nodeT; simp only; rw [if_pos (.inr e2)]] at this
  by_cases e3 : (rdI xs i).toNat < 90
  ·exact term_list R c i m p xs D f g w h ⟨by omega, h1⟩ h0 hF hG hm hf hg e1 e2 e3
  by_cases e4 : (rdI xs i).toNat < 180
  ·exact term_two R c i m p xs D f g w h ⟨by omega, h1⟩ h0 hF hG hm hf hg e1 e2 e3 e4
  by_cases e5 : (rdI xs i).toNat < 230
  ·exact term_one R c i m p xs D f g w h ⟨by omega, h1⟩ h0 hF hG hm hf hg e1 e2 e4 e5
  ·exact term_many R c i m p xs D f g w h ⟨by omega, h1⟩ h0 hF hG hm hf hg e1 e2 e5
 have small : ∀ d, d ≤ 3 → ∀ i, Sml 600 (drawT xs d i).1 := fun d hd i => by
  have h := drawT_sml xs d i; have : 4 ^ d ≤ 4 ^ 3 := Nat.pow_le_pow_right (by decide) hd; exact ⟨h.pos, by have := h.len; omega, h.txt⟩
 intro d
 induction d using Nat.strongRecOn with | _ d ih =>
 match d, ih with
 | 0, _ => exact fun D _ h1 h2 => low D (by omega) h2
 | 1, _ => exact fun D _ h1 h2 => node D 600 _ _ (by omega) (by omega) (Nat.le_refl _) (small 0 (by omega)) (small 0 (by omega)) (low _ (by omega) (by omega)) (low _ (by omega) (by omega))
 | d + 2, ih =>
   intro D hd h1 h2
   exact node D 600 _ _ (by omega) (by omega) (Nat.le_refl _) (small (d + 1) (by omega)) (small d (by omega)) (ih (d + 1) (by omega) (D - 1) (by omega) (by omega) (by omega)) (ih d (by omega) (D - 2) (by omega) (by omega) (by omega))
theorem flat_setK : ∀ (rs : List RC) (i : Nat) (b : Int), i < rs.length → (flat rs).set (i * 3) (.int .i64 b) = flat (rs.set i (b, (rs.getD i RC.zero).2))
 | [], i, b, h => by simp at h
 | x :: rs, 0, b, _ => by simp [flat_cons]
 | x :: rs, i + 1, b, h => by
   have := flat_setK rs i b (by simpa using h); rw [flat_cons, show (i + 1) * 3 = (i * 3) + 1 + 1 + 1 by omega]; simp only [List.set_cons_succ, this]
   rfl
theorem flat_setT : ∀ (rs : List RC) (i : Nat) (p : Option Addr) (n c : Nat), i < rs.length → (flat rs).set (i * 3 + 2) (.slice p n c) = flat (rs.set i ((rs.getD i RC.zero).1, (rs.getD i RC.zero).2.1, p, n, c))
 | [], i, p, n, c, h => by simp at h
 | x :: rs, 0, p, n, c, _ => by simp [flat_cons]
 | x :: rs, i + 1, p, n, c, h => by
   have := flat_setT rs i p n c (by simpa using h); rw [flat_cons, show (i + 1) * 3 + 2 = (i * 3 + 2) + 1 + 1 + 1 by omega]; simp only [List.set_cons_succ, this]
   rfl
theorem flat_takeD : ∀ (rs : List RC) (m : Nat), (flat rs).take (m * 3) = flat (rs.take m)
 | [], m => by simp [flat]
 | r :: rs, 0 => by simp [flat]
 | r :: rs, m + 1 => by rw [List.take_succ_cons, flat_cons, flat_cons, ← flat_takeD rs m, Nat.succ_mul]; rfl
theorem OwnC.setK {w : World} {B g n c j : Nat} {cs : List Cel} (h : OwnC w B (some ⟨g, 0, none⟩) n c cs) (hj : j < cs.length) (b : Int) :
  OwnC (w.setCell ⟨g, j * 3, none⟩ (.int .i64 b)) B (some ⟨g, 0, none⟩) n c (cs.set j (b, (cs.getD j Cel.none).2)) := by
 obtain ⟨hn, rs, hl, hr, hf, ha⟩ := h; have h2 := (hr.stored (j * 3) (.int .i64 b)).1; rw [flat_setK rs j b (by omega)] at h2
 have hat : ∀ i, ((rs.set j (b, (rs.getD j RC.zero).2)).getD i RC.zero).2.2 = (rs.getD i RC.zero).2.2 := fun i => by
  rw [rs_set_at _ _ _ _ (by omega)]
  by_cases e : i = j
  ·rw [if_pos e, e]
  ·rw [if_neg e]
 refine ⟨by simpa using hn, _, by simpa using hl, h2, fun i hi => ?_, ⟨fun i hi => ?_, fun i i' hi hi' hne => ?_⟩⟩
 ·have hi' : i < cs.length := by simpa using hi
  rw [cs_set_at _ _ _ _ hj, rs_set_at _ _ _ _ (by omega)]; obtain ⟨q0, q1, q2⟩ := hf i hi'; have q3 := q2.setCell (a := ⟨g, j * 3, none⟩) (fun hp e' => ha.1 i (by omega) hp e') (.int .i64 b)
  by_cases e : i = j
  ·rw [if_pos e, if_pos e]
   subst e; exact ⟨rfl, q1, q3⟩
  ·rw [if_neg e, if_neg e]
   exact ⟨q0, q1, q3⟩
 ·rw [hat]; exact ha.1 i (by simpa using hi)
 ·rw [hat, hat]; exact ha.2 i i' (by simpa using hi) (by simpa using hi') hne
theorem OwnC.setT {w : World} {B g n c j M tn tc : Nat} {tp : Option Addr} {s : List Int} {cs : List Cel} (h : OwnC w B (some ⟨g, 0, none⟩) n c cs) (hj : j < cs.length) (hM : B ≤ M) (hg : g < M) (hlow : ∀ rs : List RC, rs.length = cs.length → w.ownsRow B 63 3 (.slice (some ⟨g, 0, none⟩) n c) n (flat rs) → ∀ i, i < rs.length → 0 < (rs.getD i RC.zero).2.2.2.1 → ∀ a, (rs.getD i RC.zero).2.2.1 = some a → a.block < M) (ht : OwnT w M tp tn tc s) :
  OwnC (w.setCell ⟨g, j * 3 + 2, none⟩ (.slice tp tn tc)) B (some ⟨g, 0, none⟩) n c (cs.set j ((cs.getD j Cel.none).1, (cs.getD j Cel.none).2.1, s)) := by
 obtain ⟨hn, rs, hl, hr, hf, ha⟩ := h; have hlw := hlow rs hl hr; have h2 := (hr.stored (j * 3 + 2) (.slice tp tn tc)).1; rw [flat_setT rs j tp tn tc (by omega)] at h2
 have far : ∀ i, i < rs.length → 0 < (rs.getD i RC.zero).2.2.2.1 → 0 < tn → (rs.getD i RC.zero).2.2.1 ≠ tp := fun i hi h0 h1 e => by
  obtain ⟨k, ek, hk, _⟩ := ht.2 h1; have := hlw i hi h0 ⟨k, 0, none⟩ (by rw [e, ek]); simp only at this
  omega
 have far2 : 0 < tn → tp ≠ some ⟨g, 0, none⟩ := fun h1 e => by
  obtain ⟨k, ek, hk, _⟩ := ht.2 h1
  rw [e] at ek; cases ek; omega
 refine ⟨by simpa using hn, _, by simpa using hl, h2, fun i hi => ?_, ⟨fun i hi h0 => ?_, fun i i' hi hi' hne h0 h1 => ?_⟩⟩
 ·have hi' : i < cs.length := by simpa using hi
  rw [cs_set_at _ _ _ _ hj, rs_set_at _ _ _ _ (by omega)]
  by_cases e : i = j
  ·rw [if_pos e, if_pos e]
   obtain ⟨q0, q1, q2⟩ := hf j hj; exact ⟨q0, q1, (ht.mono hM).setCell (a := ⟨g, j * 3 + 2, none⟩) (fun hp e' => far2 hp e') _⟩
  ·rw [if_neg e, if_neg e]
   obtain ⟨q0, q1, q2⟩ := hf i hi'; exact ⟨q0, q1, q2.setCell (a := ⟨g, j * 3 + 2, none⟩) (fun hp e' => ha.1 i (by omega) hp e') _⟩
 ·have hi' : i < rs.length := by simpa using hi
  rw [rs_set_at _ _ _ _ (by omega)] at h0 ⊢
  by_cases e : i = j
  ·rw [if_pos e] at h0 ⊢; exact far2 h0
  ·rw [if_neg e] at h0 ⊢; exact ha.1 i hi' h0
 ·have hi1 : i < rs.length := by simpa using hi
  have hi2 : i' < rs.length := by simpa using hi'
  rw [rs_set_at _ _ _ _ (by omega)] at h0 ⊢; rw [rs_set_at _ _ _ _ (by omega)] at h1 ⊢
  by_cases e : i = j
  ·rw [if_pos e] at h0 ⊢
   rw [if_neg (by omega)] at h1 ⊢
   exact fun e' => far i' hi2 h1 h0 e'.symm
  ·rw [if_neg e] at h0 ⊢
   by_cases e2 : i' = j
   ·rw [if_pos e2] at h1 ⊢
    exact far i hi1 h0 h1
   ·rw [if_neg e2] at h1 ⊢
    exact ha.2 i i' hi1 hi2 hne h0 h1
theorem OwnC.cut {w : World} {B g n c m : Nat} {cs : List Cel} (h : OwnC w B (some ⟨g, 0, none⟩) n c cs) (hm : m ≤ n) : OwnC w B (some ⟨g, 0, none⟩) m c (cs.take m) := by
 obtain ⟨hn, rs, hl, hr, hf, ha⟩ := h
 have hg : ∀ i, i < m → (rs.take m).getD i RC.zero = rs.getD i RC.zero := fun i hi => by rw [List.getD, List.getD, List.getElem?_take_of_lt hi]
 have hc : ∀ i, i < m → (cs.take m).getD i Cel.none = cs.getD i Cel.none := fun i hi => by rw [List.getD, List.getD, List.getElem?_take_of_lt hi]
 have hml : (rs.take m).length = m := by rw [List.length_take]; omega
 refine ⟨by rw [List.length_take]; omega, rs.take m, by rw [List.length_take, List.length_take, hl], ⟨by rw [flat_len, hml], ?_⟩, fun i hi => ?_, fun i hi => ?_, fun i i' hi hi' => ?_⟩
 ·rcases hr.2 with ⟨hv, _⟩ | ⟨g', cap', cur, hv, hB, hg', hnc, hcm, hcs, htk⟩
  ·simp at hv
  ·simp only [Value.slice.injEq, Option.some.injEq, Addr.mk.injEq, and_true, true_and] at hv
   obtain ⟨rfl, rfl⟩ := hv; refine .inr ⟨g, c, cur, rfl, hB, hg', Nat.le_trans hm hnc, hcm, hcs, ?_⟩; rw [← flat_takeD, ← htk, List.take_take]
   congr 1
   omega
 ·have hi' : i < m := by rw [List.length_take] at hi; omega
  rw [hg i hi', hc i hi']; exact hf i (by omega)
 ·have hi' : i < m := by rw [hml] at hi; exact hi
  rw [hg i hi']; exact ha.1 i (by omega)
 ·have h1 : i < m := by rw [hml] at hi; exact hi
  have h2 : i' < m := by rw [hml] at hi'; exact hi'
  rw [hg i h1, hg i' h2]; exact ha.2 i i' (by omega) (by omega)
theorem OwnC.cells {w : World} {B g n c j : Nat} {cs : List Cel} (h : OwnC w B (some ⟨g, 0, none⟩) n c cs) (hj : j < cs.length) : w.cell? ⟨g, j * 3, none⟩ = some (.int .i64 (cs.getD j Cel.none).1) ∧ w.cell? ⟨g, j * 3 + 1, none⟩ = some (.int .i64 (cs.getD j Cel.none).2.1) ∧ (∃ q k d, w.cell? ⟨g, j * 3 + 2, none⟩ = some (.slice q k d)) ∧ ∀ o, w.frozen? ⟨g, o, none⟩ = false := by
 obtain ⟨hn, rs, hl, hr, hf, ha⟩ := h; obtain ⟨f0, f1, f2⟩ := hf j hj; obtain ⟨a0, a1, a2⟩ := flat_at rs j (by omega); refine ⟨by rw [hr.cellAt _ (by omega), a0, f0], by rw [hr.cellAt _ (by omega), a1, f1], ⟨_, _, _, by rw [hr.cellAt _ (by omega), a2]⟩, fun o => hr.frozenAt o⟩
theorem OwnC.cap {w : World} {B n c : Nat} {p : Option Addr} {cs : List Cel} (h : OwnC w B p n c cs) : cs.length ≤ c ∧ c ≤ 9223372036854775807 := by
 obtain ⟨hn, rs, hl, hr, _⟩ := h
 rcases hr.2 with ⟨hv, h0⟩ | ⟨g, cap, cur, hv, _, _, h1, h2, _⟩
 ·simp only [Value.slice.injEq] at hv
  omega
 ·simp only [Value.slice.injEq] at hv
  unfold maxLen at h2
  omega
theorem OwnC.at0 {w : World} {B n c : Nat} {p : Option Addr} {cs : List Cel} (h : OwnC w B p n c cs) (h0 : 0 < cs.length) : ∃ g, p = some ⟨g, 0, none⟩ ∧ B ≤ g ∧ g < w.heap.size := by
 obtain ⟨hn, rs, hl, hr, _⟩ := h; obtain ⟨g, cap, hv, hb, hg⟩ := hr.form (by omega); simp only [Value.slice.injEq] at hv; exact ⟨g, hv.1, hb, hg⟩
theorem OwnC.low {w : World} {B n c : Nat} {p : Option Addr} {cs : List Cel} (h : OwnC w B p n c cs) : ∀ rs : List RC, rs.length = cs.length → w.ownsRow B 63 3 (.slice p n c) n (flat rs) → ∀ i, i < rs.length → 0 < (rs.getD i RC.zero).2.2.2.1 → ∀ a, (rs.getD i RC.zero).2.2.1 = some a → a.block < w.heap.size := by
 obtain ⟨hn, rs0, hl0, hr0, hf, _⟩ := h
 intro rs hl hr i hi h0 a ea
 have e : flat rs = flat rs0 := by
  rcases hr.2 with ⟨hv, hz⟩ | ⟨g, cap, cur, hv, _, hg, _, _, _, htk⟩
  ·have e1 : rs = [] := List.length_eq_zero_iff.1 (by omega)
   have e2 : rs0 = [] := List.length_eq_zero_iff.1 (by omega); rw [e1, e2]
  ·rcases hr0.2 with ⟨hv', hz⟩ | ⟨g', cap', cur', hv', _, hg', _, _, _, htk'⟩
   ·rw [hv] at hv'; simp at hv'
   ·rw [hv] at hv'
    simp only [Value.slice.injEq, Option.some.injEq, Addr.mk.injEq, and_true, true_and] at hv'; obtain ⟨rfl, rfl⟩ := hv'; rw [hg] at hg'
    cases hg'
    rw [← htk, ← htk']
 obtain ⟨_, _, b2⟩ := flat_at rs i hi; obtain ⟨_, _, c2⟩ := flat_at rs0 i (by omega); rw [e, c2] at b2; simp only [Option.some.injEq, Value.slice.injEq] at b2; obtain ⟨q0, q1, q2⟩ := hf i (by omega); obtain ⟨k, ek, _, hk, _⟩ := q2.2 (by omega); rw [b2.1, ea] at ek
 cases ek
 exact hk
structure Kb (B R : Nat) (w w' : World) : Prop where
 os : w'.os = w.os
 tape : w'.tape = w.tape
 output : w'.output = w.output
 size : w.heap.size ≤ w'.heap.size
 block : ∀ k, k < B → k ≠ R → w'.heap[k]? = w.heap[k]?
theorem Kb.of_keep {B R : Nat} {w w' : World} (h : Keep R (R + 1) w w') (hB : B ≤ w.heap.size) : Kb B R w w' := ⟨h.os, h.tape, h.output, h.size, fun k hk hr => h.block k (by omega) (by omega)⟩
theorem Kb.of_below {B R : Nat} {w w' : World} (h : Below B w w') : Kb B R w w' := ⟨h.os, h.tape, h.output, h.size, fun k hk _ => h.block k hk⟩
theorem Kb.trans {B R : Nat} {a b c : World} (h : Kb B R a b) (k : Kb B R b c) : Kb B R a c := ⟨k.os.trans h.os, k.tape.trans h.tape, k.output.trans h.output, Nat.le_trans h.size k.size, fun j hj hr => (k.block j hj hr).trans (h.block j hj hr)⟩
theorem Keep.on_kb {B R : Nat} {w0 w w' : World} (h : Keep R (R + 1) w0 w) (k : Kb B R w w') (hB : w0.heap.size ≤ B) : Keep R (R + 1) w0 w' := ⟨k.os.trans h.os, k.tape.trans h.tape, k.output.trans h.output, Nat.le_trans h.size k.size, fun j hj hp => (k.block j (by omega) (by omega)).trans (h.block j hj hp)⟩
def NumC (cs : List Cel) : Prop := ∀ c ∈ cs, -1000000000000000 ≤ c.2.1 ∧ c.2.1 ≤ 1000000000000000
theorem NumC.app {a b : List Cel} (ha : NumC a) (hb : NumC b) : NumC (a ++ b) := fun c hc => by
 rcases List.mem_append.1 hc with h | h
 ·exact ha c h
 ·exact hb c h
theorem NumC.cons {c : Cel} {b : List Cel} (ha : -1000000000000000 ≤ c.2.1 ∧ c.2.1 ≤ 1000000000000000) (hb : NumC b) : NumC (c :: b) := fun d hd => by
 rcases List.mem_cons.1 hd with rfl | h
 ·exact ha
 ·exact hb d h
theorem NumC.nil : NumC [] := fun c h => by cases h
theorem NumC.flatten {css : List (List Cel)} (h : ∀ j, j < css.length → NumC (css.getD j [])) : NumC css.flatten := fun c hc => by
 obtain ⟨cs, h1, h2⟩ := List.mem_flatten.1 hc; obtain ⟨j, hj, rfl⟩ := List.mem_iff_getElem.1 h1; have := h j hj; rw [List.getD, List.getElem?_eq_getElem hj] at this; exact this c h2
theorem NumC.ls {css : List (List Cel)} {en : List Cel} (h : ∀ j, j < css.length → NumC (css.getD j [])) (he : NumC en) : NumC (lsL css en) := by
 refine NumC.app (fun c hc => ?_) he; obtain ⟨cs, h1, h2⟩ := List.mem_flatMap.1 hc
 rcases List.mem_cons.1 h2 with rfl | h3
 ·simp [dot]
 ·obtain ⟨j, hj, rfl⟩ := List.mem_iff_getElem.1 h1
  have := h j hj; rw [List.getD, List.getElem?_eq_getElem hj] at this; exact this c h3
theorem leafT_num (xs : List Int) (k i : Nat) : NumC (leafT xs k i).1 := by
 unfold leafT
 repeat' split
 all_goals refine NumC.cons ?_ NumC.nil
 ·exact intD_rng _
 ·simp only; omega
 ·simp only; omega
theorem nodeT_num (xs : List Int) (f g : Nat → List Cel × Nat) (hf : ∀ i, NumC (f i).1) (hg : ∀ i, NumC (g i).1) (i : Nat) : NumC (nodeT xs f g i).1 := by
 unfold nodeT
 simp only
 split
 ·exact leafT_num _ _ _
 split
 ·have h : ∀ n i j, j < (iterT f n i).1.length → NumC ((iterT f n i).1.getD j []) := fun n i j hj => iterT_at f hf n i j (by rwa [iterT_len] at hj)
  split
  ·exact NumC.ls (h _ _) (hg _)
  ·exact NumC.ls (h _ _) (NumC.cons (by simp [nilC]) NumC.nil)
 split
 ·exact NumC.cons (by simp) ((hf _).app (hf _))
 split
 ·exact NumC.cons (by simp) (hf _)
 ·exact NumC.cons (by simp only; omega) (NumC.flatten (fun j hj => iterT_at f hf _ _ j (by rwa [iterT_len] at hj)))
theorem drawT_num (xs : List Int) : ∀ (d i : Nat), NumC (drawT xs d i).1
 | 0, i => leafT_num _ _ _
 | 1, i => nodeT_num _ _ _ (drawT_num xs 0) (drawT_num xs 0) i
 | d + 2, i => nodeT_num _ _ _ (drawT_num xs (d + 1)) (drawT_num xs d) i
def SpoilOut (w : World) (B R : Nat) (p : Option Addr) (c : Nat) (xs : List Int) (res : List Cel × Nat) (e : Ending) (w' : World) : Prop :=
 ∃ q n cap, e = .returned (.slice q n cap) ∧ OwnC w' B q n cap res.1 ∧ Kb B R w w' ∧ RdIn w' R p c xs res.2
theorem OwnC.low2 {w w' : World} {B n c : Nat} {p : Option Addr} {cs : List Cel} (h : OwnC w B p n c cs) (hb : Below w.heap.size w w') : ∀ rs : List RC, rs.length = cs.length → w'.ownsRow B 63 3 (.slice p n c) n (flat rs) → ∀ i, i < rs.length → 0 < (rs.getD i RC.zero).2.2.2.1 → ∀ a, (rs.getD i RC.zero).2.2.1 = some a → a.block < w.heap.size := by
 intro rs hl hr
 refine h.low rs hl ⟨hr.1, ?_⟩
 rcases hr.2 with h' | ⟨g, cap, cur, hv, hB, hg, r⟩
 ·exact .inl h'
 ·refine .inr ⟨g, cap, cur, hv, hB, ?_, r⟩
  simp only [Value.slice.injEq] at hv; obtain ⟨hn, rs0, hl0, hr0, _⟩ := h; have hlt := (hr0.lt g (by rw [hv.1]; rfl)).2; exact (hb.block g hlt).symm.trans hg
theorem one_newsF (w : World) (y : Int) : ∀ j u, ([y].map (Value.int .u8))[j]? = some u → (w.alloc (.cells #[.int .u8 y] 5)).cell? ((⟨w.heap.size, 0, none⟩ : Addr).add j) = some u := fun j u hu => by
 match j, hu with
 | 0, hu => simp at hu; rw [← hu]; simp [Addr.add, World.cell?_alloc_new]
 | j + 1, hu => simp at hu
theorem l4fill_any (m : Nat) (hm : m ≤ 1000) (w : World) : Calls Tryz.prog 118 #[.int .u8 116, .int .i64 m] w fun e w' => ∃ p n c, e = .returned (.slice p n c) ∧ OwnS w' w.heap.size p n c (List.replicate m 116) ∧ Below w.heap.size w w' := by
 go_enter Tryz.func118, Tryz.ntmps118
 go_wp2_with fail
 go_loopw [5, 6] (fun s i wr => ∃ (j n c : Nat) (p : Option Addr), j ≤ m ∧ n = j ∧ i = .int .i64 j ∧ s = .slice p n c ∧ Hid (OwnS wr w.heap.size p n c (List.replicate j 116)) ∧ Hid (Below w.heap.size w wr)) (fun _ i _ => m - (intOf i).toNat)
 case atStart => exact ⟨0, 0, 0, none, Nat.zero_le _, rfl, rfl, rfl, OwnS.nil _ _, Below.refl _ _⟩
 case round =>
  obtain ⟨j, n, c, p, hj, rfl, rfl, rfl, HO, HB⟩ := hrel; have hBs : w.heap.size ≤ wr.heap.size := HB.out.size
  by_cases hlt : n < m
  ·go_wp2_with (at_builtin; refine app_bytes _ rfl _ _ rfl w.heap.size p n c _ [116] 1 rfl rfl (HO.out.alloc _) ⟨wr.heap.size, 0, none⟩ 1 rfl (one_newsF wr 116) (by omega) (by omega) (by simp; omega) ?_; intro g4 n4 cap4 w4 hown4 hb4 hn4)
   have HO4 : Hid (OwnS w4 w.heap.size (some ⟨g4, 0, none⟩) n4 cap4 (List.replicate (n + 1) 116)) := by rw [List.replicate_succ']; exact hown4
   have HB4 : Hid (Below w.heap.size w w4) := (HB.out.alloc hBs _).trans hb4; have hn4' : n4 = n + 1 := hn4.out; clear hown4 hb4 hn4; subst hn4'; go_roundw
   case rel => exact ⟨n + 1, n + 1, cap4, _, by omega, rfl, by go_num, rfl, HO4, HB4⟩
   case measure => simp [intOf]; omega
  ·obtain rfl : n = m := by omega
   go_wp2_with fail; go_ret; exact ⟨_, _, _, rfl, HO.out, HB.out⟩
set_option maxHeartbeats 2000000 in
theorem spoil_0 (R c i : Nat) (p : Option Addr) (xs : List Int) (B g n cp : Nat) (cs : List Cel) (w : World) (h : RdIn w R p c xs i) (hRB : R < B) (hBw : B ≤ w.heap.size) (ho : OwnC w B (some ⟨g, 0, none⟩) n cp cs) (h0 : 0 < cs.length) (hl : cs.length ≤ 600) (hnum : NumC cs) (hk : (rdI xs i).toNat % 9 = 0) :
  Calls Tryz.prog 36 #[.slice (some ⟨g, 0, none⟩) n cp, .pointer (some ⟨R, 0, none⟩)] w (SpoilOut w B R p c xs (spoilF xs cs i)) := by
 have HH : Hid (RdIn w R p c xs i) := h; have HO : Hid (OwnC w B (some ⟨g, 0, none⟩) n cp cs) := ho; have hn : n = cs.length := ho.1; have hcap := ho.cap
 have hgB : B ≤ g ∧ g < w.heap.size := by obtain ⟨g', e, h1, h2⟩ := ho.at0 h0; cases e; exact ⟨h1, h2⟩
 have hr := rdI_rng h.bytes i; have hr1 := rdI_rng h.bytes (rdN xs i); have hr2 := rdI_rng h.bytes (rdN xs (rdN xs i))
 obtain ⟨res, er⟩ : ∃ res, res = spoilF xs cs i := ⟨_, rfl⟩
 rw [← er]; have HER : Hid (res = spoilF xs cs i) := er
 obtain ⟨i1, ei⟩ : ∃ i1, i1 = rdN xs i := ⟨_, rfl⟩
 obtain ⟨i2, ei2⟩ : ∃ i2, i2 = rdN xs i1 := ⟨_, rfl⟩
 rw [← ei] at hr1 hr2; rw [← ei2] at hr2
 obtain ⟨x, ex⟩ : ∃ x : Nat, rdI xs i = x := ⟨(rdI xs i).toNat, by omega⟩
 obtain ⟨u, eu⟩ : ∃ u : Nat, rdI xs i1 = u := ⟨(rdI xs i1).toNat, by omega⟩
 obtain ⟨y, ey⟩ : ∃ y : Nat, rdI xs i2 = y := ⟨(rdI xs i2).toNat, by omega⟩
 have hx9 : (x : Int).tmod 9 = 0 := by rw [Int.tmod_eq_emod_of_nonneg (by omega)]; rw [ex] at hk; omega
 have hx : x < 256 := by omega
 have hu : u < 256 := by omega
 have hy : y < 256 := by omega
 obtain ⟨a, ea⟩ : ∃ a, a = u % cs.length := ⟨_, rfl⟩
 have hal : a < cs.length := by rw [ea]; exact Nat.mod_lt _ h0
 have han : a < n := by omega
 have hn0 : ((n : Int) == 0) = false := by rw [beq_eq_false_iff_ne]; omega
 have hma : (u : Int).tmod (n : Int) = (a : Int) := by rw [ea, hn, Int.tmod_eq_emod_of_nonneg (by omega)]; rfl
 have hn600 : n ≤ 600 := by omega
 obtain ⟨z, ez⟩ : ∃ z, z = y % 6 := ⟨_, rfl⟩
 have hz : z < 6 := by omega
 have hmz : (y : Int).tmod 6 = (z : Int) := by rw [ez, Int.tmod_eq_emod_of_nonneg (by omega)]; rfl
 have HV : Hid (res = (cs.set a ((z : Int) - 1, (cs.getD a Cel.none).2.1, (cs.getD a Cel.none).2.2), rdN xs i2)) := by
  show _ = _
  rw [HER.out]
  unfold spoilF
  simp only; rw [← ei, ← ei2, eu, ey, Int.toNat_natCast, Int.toNat_natCast, ← ea, ← ez, hk]
  first | rfl | (rw [if_pos rfl])
 have HN1 : Hid (∀ W, RdIn W R p c xs i → Calls Tryz.prog 15 #[.pointer (some ⟨R, 0, none⟩)] W fun e w' => e = .returned (.int .i64 (x : Int)) ∧ Keep R (R + 1) W w' ∧ w'.heap.size = W.heap.size ∧ RdIn w' R p c xs i1) := fun W hW => by
  have := next_any R c i p xs W hW; rw [ex, ← ei] at this; exact this
 have HN2 : Hid (∀ W, RdIn W R p c xs i1 → Calls Tryz.prog 15 #[.pointer (some ⟨R, 0, none⟩)] W fun e w' => e = .returned (.int .i64 (u : Int)) ∧ Keep R (R + 1) W w' ∧ w'.heap.size = W.heap.size ∧ RdIn w' R p c xs i2) := fun W hW => by
  have := next_any R c i1 p xs W hW; rw [eu, ← ei2] at this; exact this
 have HN3 : Hid (∀ W, RdIn W R p c xs i2 → Calls Tryz.prog 15 #[.pointer (some ⟨R, 0, none⟩)] W fun e w' => e = .returned (.int .i64 (y : Int)) ∧ Keep R (R + 1) W w' ∧ w'.heap.size = W.heap.size ∧ RdIn w' R p c xs (rdN xs i2)) := fun W hW => by
  have := next_any R c i2 p xs W hW; rw [ey] at this; exact this
 have HAL : Hid (a < cs.length) := hal; have HNE : Hid (n = cs.length) := hn; clear h ho er ei ei2 ex eu ey ea hn hk hnum h0 hl hr hr1 hr2 hal ez
 go_enter Tryz.func36, Tryz.ntmps36
 go_wp2_with fail; refine (HN1.out w HH.out).mono ?_; rintro e w2 ⟨rfl, hk2, hs2, hR2⟩; have HR2 : Hid (RdIn w2 R p c xs i1) := hR2; have HK2 : Hid (Keep R (R + 1) w w2) := hk2; clear hk2 hs2 hR2; go_wp2_with fail; refine (HN2.out w2 HR2.out).mono ?_; rintro e w3 ⟨rfl, hk3, hs3, hR3⟩; have HR3 : Hid (RdIn w3 R p c xs i2) := hR3; have HK3 : Hid (Keep R (R + 1) w w3) := HK2.out.trans hk3; have HO3 : Hid (OwnC w3 B (some ⟨g, 0, none⟩) n cp cs) := HO.out.keepR HK3.out hRB; have hB3 : B ≤ w3.heap.size := Nat.le_trans hBw HK3.out.size; clear hk3 hs3 hR3; go_wp2_with fail; refine (HN3.out w3 HR3.out).mono ?_; rintro e w4 ⟨rfl, hk4, hs4, hR4⟩; have HR4 : Hid (RdIn w4 R p c xs (rdN xs i2)) := hR4; have HK4 : Hid (Keep R (R + 1) w w4) := HK3.out.trans hk4; have HO4 : Hid (OwnC w4 B (some ⟨g, 0, none⟩) n cp cs) := HO.out.keepR HK4.out hRB; have hB4 : B ≤ w4.heap.size := Nat.le_trans hBw HK4.out.size
 clear hk4 hs4 hR4; obtain ⟨k0, k1, ⟨tq, tk, td, k2⟩, kf⟩ := HO4.out.cells HAL.out; have kf0 := kf (a * 3); have kf1 := kf (a * 3 + 1); have kf2 := kf (a * 3 + 2); clear kf
 have FIN : Hid (SpoilOut w B R p c xs ((cs.set a ((z : Int) - 1, (cs.getD a Cel.none).2.1, (cs.getD a Cel.none).2.2), rdN xs i2)) (.returned (.slice (some ⟨g, 0, none⟩) n cp)) (w4.setCell ⟨g, a * 3, none⟩ (.int .i64 ((z : Int) - 1)))) := ⟨_, _, _, rfl, HO4.out.setK HAL.out _, (Kb.of_keep HK4.out hBw).trans (Kb.of_below (Below.setCell (Below.refl _ _) hgB.1 _)), HR4.out.below (Below.setCell (Below.refl _ _) hgB.1 _) hRB⟩
 clear hB3; go_wp2_with fail; go_ret; rw [HV.out]; exact FIN.out
set_option maxHeartbeats 2000000 in
theorem spoil_1 (R c i : Nat) (p : Option Addr) (xs : List Int) (B g n cp : Nat) (cs : List Cel) (w : World) (h : RdIn w R p c xs i) (hRB : R < B) (hBw : B ≤ w.heap.size) (ho : OwnC w B (some ⟨g, 0, none⟩) n cp cs) (h0 : 0 < cs.length) (hl : cs.length ≤ 600) (hnum : NumC cs) (hk : (rdI xs i).toNat % 9 = 1) :
  Calls Tryz.prog 36 #[.slice (some ⟨g, 0, none⟩) n cp, .pointer (some ⟨R, 0, none⟩)] w (SpoilOut w B R p c xs (spoilF xs cs i)) := by
 have HH : Hid (RdIn w R p c xs i) := h; have HO : Hid (OwnC w B (some ⟨g, 0, none⟩) n cp cs) := ho; have hn : n = cs.length := ho.1; have hcap := ho.cap
 have hgB : B ≤ g ∧ g < w.heap.size := by obtain ⟨g', e, h1, h2⟩ := ho.at0 h0; cases e; exact ⟨h1, h2⟩
 have hr := rdI_rng h.bytes i; have hr1 := rdI_rng h.bytes (rdN xs i); have hr2 := rdI_rng h.bytes (rdN xs (rdN xs i))
 obtain ⟨res, er⟩ : ∃ res, res = spoilF xs cs i := ⟨_, rfl⟩
 rw [← er]; have HER : Hid (res = spoilF xs cs i) := er
 obtain ⟨i1, ei⟩ : ∃ i1, i1 = rdN xs i := ⟨_, rfl⟩
 obtain ⟨i2, ei2⟩ : ∃ i2, i2 = rdN xs i1 := ⟨_, rfl⟩
 rw [← ei] at hr1 hr2; rw [← ei2] at hr2
 obtain ⟨x, ex⟩ : ∃ x : Nat, rdI xs i = x := ⟨(rdI xs i).toNat, by omega⟩
 obtain ⟨u, eu⟩ : ∃ u : Nat, rdI xs i1 = u := ⟨(rdI xs i1).toNat, by omega⟩
 obtain ⟨y, ey⟩ : ∃ y : Nat, rdI xs i2 = y := ⟨(rdI xs i2).toNat, by omega⟩
 have hx9 : (x : Int).tmod 9 = 1 := by rw [Int.tmod_eq_emod_of_nonneg (by omega)]; rw [ex] at hk; omega
 have hx : x < 256 := by omega
 have hu : u < 256 := by omega
 have hy : y < 256 := by omega
 obtain ⟨a, ea⟩ : ∃ a, a = u % cs.length := ⟨_, rfl⟩
 have hal : a < cs.length := by rw [ea]; exact Nat.mod_lt _ h0
 have han : a < n := by omega
 have hn0 : ((n : Int) == 0) = false := by rw [beq_eq_false_iff_ne]; omega
 have hma : (u : Int).tmod (n : Int) = (a : Int) := by rw [ea, hn, Int.tmod_eq_emod_of_nonneg (by omega)]; rfl
 have hn600 : n ≤ 600 := by omega
 obtain ⟨v, ev⟩ : ∃ v, v = (cs.getD a Cel.none).2.1 := ⟨_, rfl⟩
 have hv : -1000000000000000 ≤ v ∧ v ≤ 1000000000000000 := by
  rw [ev, List.getD, List.getElem?_eq_getElem hal]; exact hnum _ (List.getElem_mem hal)
 have HV : Hid (res = (cs.set a ((cs.getD a Cel.none).1, v + 1, (cs.getD a Cel.none).2.2), i2)) := by
  show _ = _
  rw [HER.out]
  unfold spoilF
  simp only; rw [← ei, ← ei2, eu, ey, Int.toNat_natCast, Int.toNat_natCast, ← ea, ← ev, hk]
  first | rfl | (rw [if_neg (by decide), if_pos rfl])
 have HN1 : Hid (∀ W, RdIn W R p c xs i → Calls Tryz.prog 15 #[.pointer (some ⟨R, 0, none⟩)] W fun e w' => e = .returned (.int .i64 (x : Int)) ∧ Keep R (R + 1) W w' ∧ w'.heap.size = W.heap.size ∧ RdIn w' R p c xs i1) := fun W hW => by
  have := next_any R c i p xs W hW; rw [ex, ← ei] at this; exact this
 have HN2 : Hid (∀ W, RdIn W R p c xs i1 → Calls Tryz.prog 15 #[.pointer (some ⟨R, 0, none⟩)] W fun e w' => e = .returned (.int .i64 (u : Int)) ∧ Keep R (R + 1) W w' ∧ w'.heap.size = W.heap.size ∧ RdIn w' R p c xs i2) := fun W hW => by
  have := next_any R c i1 p xs W hW; rw [eu, ← ei2] at this; exact this
 have HN3 : Hid (∀ W, RdIn W R p c xs i2 → Calls Tryz.prog 15 #[.pointer (some ⟨R, 0, none⟩)] W fun e w' => e = .returned (.int .i64 (y : Int)) ∧ Keep R (R + 1) W w' ∧ w'.heap.size = W.heap.size ∧ RdIn w' R p c xs (rdN xs i2)) := fun W hW => by
  have := next_any R c i2 p xs W hW; rw [ey] at this; exact this
 have HAL : Hid (a < cs.length) := hal; have HNE : Hid (n = cs.length) := hn; clear h ho er ei ei2 ex eu ey ea hn hk hnum h0 hl hr hr1 hr2 hal
 go_enter Tryz.func36, Tryz.ntmps36
 go_wp2_with fail; refine (HN1.out w HH.out).mono ?_; rintro e w2 ⟨rfl, hk2, hs2, hR2⟩; have HR2 : Hid (RdIn w2 R p c xs i1) := hR2; have HK2 : Hid (Keep R (R + 1) w w2) := hk2; clear hk2 hs2 hR2; go_wp2_with fail; refine (HN2.out w2 HR2.out).mono ?_; rintro e w3 ⟨rfl, hk3, hs3, hR3⟩; have HR3 : Hid (RdIn w3 R p c xs i2) := hR3; have HK3 : Hid (Keep R (R + 1) w w3) := HK2.out.trans hk3; have HO3 : Hid (OwnC w3 B (some ⟨g, 0, none⟩) n cp cs) := HO.out.keepR HK3.out hRB; have hB3 : B ≤ w3.heap.size := Nat.le_trans hBw HK3.out.size; clear hk3 hs3 hR3; obtain ⟨k0, k1, ⟨tq, tk, td, k2⟩, kf⟩ := HO3.out.cells HAL.out; have kf0 := kf (a * 3); have kf1 := kf (a * 3 + 1); have kf2 := kf (a * 3 + 2); clear kf; rw [← ev] at k1; clear ev
 have FIN : Hid (SpoilOut w B R p c xs ((cs.set a ((cs.getD a Cel.none).1, v + 1, (cs.getD a Cel.none).2.2), i2)) (.returned (.slice (some ⟨g, 0, none⟩) n cp)) (w3.setCell ⟨g, a * 3 + 1, none⟩ (.int .i64 (v + 1)))) := ⟨_, _, _, rfl, HO3.out.setN HAL.out _, (Kb.of_keep HK3.out hBw).trans (Kb.of_below (Below.setCell (Below.refl _ _) hgB.1 _)), HR3.out.below (Below.setCell (Below.refl _ _) hgB.1 _) hRB⟩
 clear hB3; go_wp2_with fail; go_ret; rw [HV.out]; exact FIN.out
set_option maxHeartbeats 2000000 in
theorem spoil_2 (R c i : Nat) (p : Option Addr) (xs : List Int) (B g n cp : Nat) (cs : List Cel) (w : World) (h : RdIn w R p c xs i) (hRB : R < B) (hBw : B ≤ w.heap.size) (ho : OwnC w B (some ⟨g, 0, none⟩) n cp cs) (h0 : 0 < cs.length) (hl : cs.length ≤ 600) (hnum : NumC cs) (hk : (rdI xs i).toNat % 9 = 2) :
  Calls Tryz.prog 36 #[.slice (some ⟨g, 0, none⟩) n cp, .pointer (some ⟨R, 0, none⟩)] w (SpoilOut w B R p c xs (spoilF xs cs i)) := by
 have HH : Hid (RdIn w R p c xs i) := h; have HO : Hid (OwnC w B (some ⟨g, 0, none⟩) n cp cs) := ho; have hn : n = cs.length := ho.1; have hcap := ho.cap
 have hgB : B ≤ g ∧ g < w.heap.size := by obtain ⟨g', e, h1, h2⟩ := ho.at0 h0; cases e; exact ⟨h1, h2⟩
 have hr := rdI_rng h.bytes i; have hr1 := rdI_rng h.bytes (rdN xs i); have hr2 := rdI_rng h.bytes (rdN xs (rdN xs i))
 obtain ⟨res, er⟩ : ∃ res, res = spoilF xs cs i := ⟨_, rfl⟩
 rw [← er]; have HER : Hid (res = spoilF xs cs i) := er
 obtain ⟨i1, ei⟩ : ∃ i1, i1 = rdN xs i := ⟨_, rfl⟩
 obtain ⟨i2, ei2⟩ : ∃ i2, i2 = rdN xs i1 := ⟨_, rfl⟩
 rw [← ei] at hr1 hr2; rw [← ei2] at hr2
 obtain ⟨x, ex⟩ : ∃ x : Nat, rdI xs i = x := ⟨(rdI xs i).toNat, by omega⟩
 obtain ⟨u, eu⟩ : ∃ u : Nat, rdI xs i1 = u := ⟨(rdI xs i1).toNat, by omega⟩
 obtain ⟨y, ey⟩ : ∃ y : Nat, rdI xs i2 = y := ⟨(rdI xs i2).toNat, by omega⟩
 have hx9 : (x : Int).tmod 9 = 2 := by rw [Int.tmod_eq_emod_of_nonneg (by omega)]; rw [ex] at hk; omega
 have hx : x < 256 := by omega
 have hu : u < 256 := by omega
 have hy : y < 256 := by omega
 obtain ⟨a, ea⟩ : ∃ a, a = u % cs.length := ⟨_, rfl⟩
 have hal : a < cs.length := by rw [ea]; exact Nat.mod_lt _ h0
 have han : a < n := by omega
 have hn0 : ((n : Int) == 0) = false := by rw [beq_eq_false_iff_ne]; omega
 have hma : (u : Int).tmod (n : Int) = (a : Int) := by rw [ea, hn, Int.tmod_eq_emod_of_nonneg (by omega)]; rfl
 have hn600 : n ≤ 600 := by omega
 have HV : Hid (res = (cs.set a ((cs.getD a Cel.none).1, -1, (cs.getD a Cel.none).2.2), i2)) := by
  show _ = _
  rw [HER.out]
  unfold spoilF
  simp only; rw [← ei, ← ei2, eu, ey, Int.toNat_natCast, Int.toNat_natCast, ← ea, hk]
  first | rfl | (rw [if_neg (by decide), if_neg (by decide), if_pos rfl])
 have HN1 : Hid (∀ W, RdIn W R p c xs i → Calls Tryz.prog 15 #[.pointer (some ⟨R, 0, none⟩)] W fun e w' => e = .returned (.int .i64 (x : Int)) ∧ Keep R (R + 1) W w' ∧ w'.heap.size = W.heap.size ∧ RdIn w' R p c xs i1) := fun W hW => by
  have := next_any R c i p xs W hW; rw [ex, ← ei] at this; exact this
 have HN2 : Hid (∀ W, RdIn W R p c xs i1 → Calls Tryz.prog 15 #[.pointer (some ⟨R, 0, none⟩)] W fun e w' => e = .returned (.int .i64 (u : Int)) ∧ Keep R (R + 1) W w' ∧ w'.heap.size = W.heap.size ∧ RdIn w' R p c xs i2) := fun W hW => by
  have := next_any R c i1 p xs W hW; rw [eu, ← ei2] at this; exact this
 have HN3 : Hid (∀ W, RdIn W R p c xs i2 → Calls Tryz.prog 15 #[.pointer (some ⟨R, 0, none⟩)] W fun e w' => e = .returned (.int .i64 (y : Int)) ∧ Keep R (R + 1) W w' ∧ w'.heap.size = W.heap.size ∧ RdIn w' R p c xs (rdN xs i2)) := fun W hW => by
  have := next_any R c i2 p xs W hW; rw [ey] at this; exact this
 have HAL : Hid (a < cs.length) := hal; have HNE : Hid (n = cs.length) := hn; clear h ho er ei ei2 ex eu ey ea hn hk hnum h0 hl hr hr1 hr2 hal
 go_enter Tryz.func36, Tryz.ntmps36
 go_wp2_with fail; refine (HN1.out w HH.out).mono ?_; rintro e w2 ⟨rfl, hk2, hs2, hR2⟩; have HR2 : Hid (RdIn w2 R p c xs i1) := hR2; have HK2 : Hid (Keep R (R + 1) w w2) := hk2; clear hk2 hs2 hR2; go_wp2_with fail; refine (HN2.out w2 HR2.out).mono ?_; rintro e w3 ⟨rfl, hk3, hs3, hR3⟩; have HR3 : Hid (RdIn w3 R p c xs i2) := hR3; have HK3 : Hid (Keep R (R + 1) w w3) := HK2.out.trans hk3; have HO3 : Hid (OwnC w3 B (some ⟨g, 0, none⟩) n cp cs) := HO.out.keepR HK3.out hRB; have hB3 : B ≤ w3.heap.size := Nat.le_trans hBw HK3.out.size; clear hk3 hs3 hR3; obtain ⟨k0, k1, ⟨tq, tk, td, k2⟩, kf⟩ := HO3.out.cells HAL.out; have kf0 := kf (a * 3); have kf1 := kf (a * 3 + 1); have kf2 := kf (a * 3 + 2); clear kf
 have FIN : Hid (SpoilOut w B R p c xs ((cs.set a ((cs.getD a Cel.none).1, -1, (cs.getD a Cel.none).2.2), i2)) (.returned (.slice (some ⟨g, 0, none⟩) n cp)) (w3.setCell ⟨g, a * 3 + 1, none⟩ (.int .i64 (-1)))) := ⟨_, _, _, rfl, HO3.out.setN HAL.out _, (Kb.of_keep HK3.out hBw).trans (Kb.of_below (Below.setCell (Below.refl _ _) hgB.1 _)), HR3.out.below (Below.setCell (Below.refl _ _) hgB.1 _) hRB⟩
 clear hB3; go_wp2_with fail; go_ret; rw [HV.out]; exact FIN.out
set_option maxHeartbeats 2000000 in
theorem spoil_6 (R c i : Nat) (p : Option Addr) (xs : List Int) (B g n cp : Nat) (cs : List Cel) (w : World) (h : RdIn w R p c xs i) (hRB : R < B) (hBw : B ≤ w.heap.size) (ho : OwnC w B (some ⟨g, 0, none⟩) n cp cs) (h0 : 0 < cs.length) (hl : cs.length ≤ 600) (hnum : NumC cs) (hk : (rdI xs i).toNat % 9 = 6) :
  Calls Tryz.prog 36 #[.slice (some ⟨g, 0, none⟩) n cp, .pointer (some ⟨R, 0, none⟩)] w (SpoilOut w B R p c xs (spoilF xs cs i)) := by
 have HH : Hid (RdIn w R p c xs i) := h; have HO : Hid (OwnC w B (some ⟨g, 0, none⟩) n cp cs) := ho; have hn : n = cs.length := ho.1; have hcap := ho.cap
 have hgB : B ≤ g ∧ g < w.heap.size := by obtain ⟨g', e, h1, h2⟩ := ho.at0 h0; cases e; exact ⟨h1, h2⟩
 have hr := rdI_rng h.bytes i; have hr1 := rdI_rng h.bytes (rdN xs i); have hr2 := rdI_rng h.bytes (rdN xs (rdN xs i))
 obtain ⟨res, er⟩ : ∃ res, res = spoilF xs cs i := ⟨_, rfl⟩
 rw [← er]; have HER : Hid (res = spoilF xs cs i) := er
 obtain ⟨i1, ei⟩ : ∃ i1, i1 = rdN xs i := ⟨_, rfl⟩
 obtain ⟨i2, ei2⟩ : ∃ i2, i2 = rdN xs i1 := ⟨_, rfl⟩
 rw [← ei] at hr1 hr2; rw [← ei2] at hr2
 obtain ⟨x, ex⟩ : ∃ x : Nat, rdI xs i = x := ⟨(rdI xs i).toNat, by omega⟩
 obtain ⟨u, eu⟩ : ∃ u : Nat, rdI xs i1 = u := ⟨(rdI xs i1).toNat, by omega⟩
 obtain ⟨y, ey⟩ : ∃ y : Nat, rdI xs i2 = y := ⟨(rdI xs i2).toNat, by omega⟩
 have hx9 : (x : Int).tmod 9 = 6 := by rw [Int.tmod_eq_emod_of_nonneg (by omega)]; rw [ex] at hk; omega
 have hx : x < 256 := by omega
 have hu : u < 256 := by omega
 have hy : y < 256 := by omega
 obtain ⟨a, ea⟩ : ∃ a, a = u % cs.length := ⟨_, rfl⟩
 have hal : a < cs.length := by rw [ea]; exact Nat.mod_lt _ h0
 have han : a < n := by omega
 have hn0 : ((n : Int) == 0) = false := by rw [beq_eq_false_iff_ne]; omega
 have hma : (u : Int).tmod (n : Int) = (a : Int) := by rw [ea, hn, Int.tmod_eq_emod_of_nonneg (by omega)]; rfl
 have hn600 : n ≤ 600 := by omega
 obtain ⟨z, ez⟩ : ∃ z, z = y % 2 := ⟨_, rfl⟩
 have hz : z < 2 := by omega
 have hmz : (y : Int).tmod 2 = (z : Int) := by rw [ez, Int.tmod_eq_emod_of_nonneg (by omega)]; rfl
 have HV : Hid (res = (cs.set a ((cs.getD a Cel.none).1, 1000000000000000 + (z : Int), (cs.getD a Cel.none).2.2), rdN xs i2)) := by
  show _ = _
  rw [HER.out]
  unfold spoilF
  simp only; rw [← ei, ← ei2, eu, ey, Int.toNat_natCast, Int.toNat_natCast, ← ea, ← ez, hk]
  first | rfl | (rw [if_neg (by decide), if_neg (by decide), if_neg (by decide), if_neg (by decide), if_neg (by decide), if_neg (by decide), if_pos rfl])
 have HN1 : Hid (∀ W, RdIn W R p c xs i → Calls Tryz.prog 15 #[.pointer (some ⟨R, 0, none⟩)] W fun e w' => e = .returned (.int .i64 (x : Int)) ∧ Keep R (R + 1) W w' ∧ w'.heap.size = W.heap.size ∧ RdIn w' R p c xs i1) := fun W hW => by
  have := next_any R c i p xs W hW; rw [ex, ← ei] at this; exact this
 have HN2 : Hid (∀ W, RdIn W R p c xs i1 → Calls Tryz.prog 15 #[.pointer (some ⟨R, 0, none⟩)] W fun e w' => e = .returned (.int .i64 (u : Int)) ∧ Keep R (R + 1) W w' ∧ w'.heap.size = W.heap.size ∧ RdIn w' R p c xs i2) := fun W hW => by
  have := next_any R c i1 p xs W hW; rw [eu, ← ei2] at this; exact this
 have HN3 : Hid (∀ W, RdIn W R p c xs i2 → Calls Tryz.prog 15 #[.pointer (some ⟨R, 0, none⟩)] W fun e w' => e = .returned (.int .i64 (y : Int)) ∧ Keep R (R + 1) W w' ∧ w'.heap.size = W.heap.size ∧ RdIn w' R p c xs (rdN xs i2)) := fun W hW => by
  have := next_any R c i2 p xs W hW; rw [ey] at this; exact this
 have HAL : Hid (a < cs.length) := hal; have HNE : Hid (n = cs.length) := hn; clear h ho er ei ei2 ex eu ey ea hn hk hnum h0 hl hr hr1 hr2 hal ez
 go_enter Tryz.func36, Tryz.ntmps36
 go_wp2_with fail; refine (HN1.out w HH.out).mono ?_; rintro e w2 ⟨rfl, hk2, hs2, hR2⟩; have HR2 : Hid (RdIn w2 R p c xs i1) := hR2; have HK2 : Hid (Keep R (R + 1) w w2) := hk2; clear hk2 hs2 hR2; go_wp2_with fail; refine (HN2.out w2 HR2.out).mono ?_; rintro e w3 ⟨rfl, hk3, hs3, hR3⟩; have HR3 : Hid (RdIn w3 R p c xs i2) := hR3; have HK3 : Hid (Keep R (R + 1) w w3) := HK2.out.trans hk3; have HO3 : Hid (OwnC w3 B (some ⟨g, 0, none⟩) n cp cs) := HO.out.keepR HK3.out hRB; have hB3 : B ≤ w3.heap.size := Nat.le_trans hBw HK3.out.size; clear hk3 hs3 hR3; go_wp2_with fail; refine (HN3.out w3 HR3.out).mono ?_; rintro e w4 ⟨rfl, hk4, hs4, hR4⟩; have HR4 : Hid (RdIn w4 R p c xs (rdN xs i2)) := hR4; have HK4 : Hid (Keep R (R + 1) w w4) := HK3.out.trans hk4; have HO4 : Hid (OwnC w4 B (some ⟨g, 0, none⟩) n cp cs) := HO.out.keepR HK4.out hRB; have hB4 : B ≤ w4.heap.size := Nat.le_trans hBw HK4.out.size
 clear hk4 hs4 hR4; obtain ⟨k0, k1, ⟨tq, tk, td, k2⟩, kf⟩ := HO4.out.cells HAL.out; have kf0 := kf (a * 3); have kf1 := kf (a * 3 + 1); have kf2 := kf (a * 3 + 2); clear kf
 have FIN : Hid (SpoilOut w B R p c xs ((cs.set a ((cs.getD a Cel.none).1, 1000000000000000 + (z : Int), (cs.getD a Cel.none).2.2), rdN xs i2)) (.returned (.slice (some ⟨g, 0, none⟩) n cp)) (w4.setCell ⟨g, a * 3 + 1, none⟩ (.int .i64 (1000000000000000 + (z : Int))))) := ⟨_, _, _, rfl, HO4.out.setN HAL.out _, (Kb.of_keep HK4.out hBw).trans (Kb.of_below (Below.setCell (Below.refl _ _) hgB.1 _)), HR4.out.below (Below.setCell (Below.refl _ _) hgB.1 _) hRB⟩
 clear hB3; go_wp2_with fail; go_ret; rw [HV.out]; exact FIN.out
set_option maxHeartbeats 2000000 in
theorem spoil_3 (R c i : Nat) (p : Option Addr) (xs : List Int) (B g n cp : Nat) (cs : List Cel) (w : World) (h : RdIn w R p c xs i) (hRB : R < B) (hBw : B ≤ w.heap.size) (ho : OwnC w B (some ⟨g, 0, none⟩) n cp cs) (h0 : 0 < cs.length) (hl : cs.length ≤ 600) (hnum : NumC cs) (hk : (rdI xs i).toNat % 9 = 3) :
  Calls Tryz.prog 36 #[.slice (some ⟨g, 0, none⟩) n cp, .pointer (some ⟨R, 0, none⟩)] w (SpoilOut w B R p c xs (spoilF xs cs i)) := by
 have HH : Hid (RdIn w R p c xs i) := h; have HO : Hid (OwnC w B (some ⟨g, 0, none⟩) n cp cs) := ho; have hn : n = cs.length := ho.1; have hcap := ho.cap
 have hgB : B ≤ g ∧ g < w.heap.size := by obtain ⟨g', e, h1, h2⟩ := ho.at0 h0; cases e; exact ⟨h1, h2⟩
 have hr := rdI_rng h.bytes i; have hr1 := rdI_rng h.bytes (rdN xs i); have hr2 := rdI_rng h.bytes (rdN xs (rdN xs i))
 obtain ⟨res, er⟩ : ∃ res, res = spoilF xs cs i := ⟨_, rfl⟩
 rw [← er]; have HER : Hid (res = spoilF xs cs i) := er
 obtain ⟨i1, ei⟩ : ∃ i1, i1 = rdN xs i := ⟨_, rfl⟩
 obtain ⟨i2, ei2⟩ : ∃ i2, i2 = rdN xs i1 := ⟨_, rfl⟩
 rw [← ei] at hr1 hr2; rw [← ei2] at hr2
 obtain ⟨x, ex⟩ : ∃ x : Nat, rdI xs i = x := ⟨(rdI xs i).toNat, by omega⟩
 obtain ⟨u, eu⟩ : ∃ u : Nat, rdI xs i1 = u := ⟨(rdI xs i1).toNat, by omega⟩
 obtain ⟨y, ey⟩ : ∃ y : Nat, rdI xs i2 = y := ⟨(rdI xs i2).toNat, by omega⟩
 have hx9 : (x : Int).tmod 9 = 3 := by rw [Int.tmod_eq_emod_of_nonneg (by omega)]; rw [ex] at hk; omega
 have hx : x < 256 := by omega
 have hu : u < 256 := by omega
 have hy : y < 256 := by omega
 obtain ⟨a, ea⟩ : ∃ a, a = u % cs.length := ⟨_, rfl⟩
 have hal : a < cs.length := by rw [ea]; exact Nat.mod_lt _ h0
 have han : a < n := by omega
 have hn0 : ((n : Int) == 0) = false := by rw [beq_eq_false_iff_ne]; omega
 have hma : (u : Int).tmod (n : Int) = (a : Int) := by rw [ea, hn, Int.tmod_eq_emod_of_nonneg (by omega)]; rfl
 have hn600 : n ≤ 600 := by omega
 obtain ⟨m1, em1⟩ : ∃ m1, m1 = cs.length - 1 := ⟨_, rfl⟩
 have hsub : (n : Int) - 1 = (m1 : Int) := by omega
 have hm1 : m1 ≤ n := by omega
 have HV : Hid (res = (cs.take m1, i2)) := by
  show _ = _
  rw [HER.out]
  unfold spoilF
  simp only; rw [← ei, ← ei2, eu, ey, Int.toNat_natCast, Int.toNat_natCast, ← ea, ← em1, hk]
  first | rfl | (rw [if_neg (by decide), if_neg (by decide), if_neg (by decide), if_pos rfl])
 have HN1 : Hid (∀ W, RdIn W R p c xs i → Calls Tryz.prog 15 #[.pointer (some ⟨R, 0, none⟩)] W fun e w' => e = .returned (.int .i64 (x : Int)) ∧ Keep R (R + 1) W w' ∧ w'.heap.size = W.heap.size ∧ RdIn w' R p c xs i1) := fun W hW => by
  have := next_any R c i p xs W hW; rw [ex, ← ei] at this; exact this
 have HN2 : Hid (∀ W, RdIn W R p c xs i1 → Calls Tryz.prog 15 #[.pointer (some ⟨R, 0, none⟩)] W fun e w' => e = .returned (.int .i64 (u : Int)) ∧ Keep R (R + 1) W w' ∧ w'.heap.size = W.heap.size ∧ RdIn w' R p c xs i2) := fun W hW => by
  have := next_any R c i1 p xs W hW; rw [eu, ← ei2] at this; exact this
 have HN3 : Hid (∀ W, RdIn W R p c xs i2 → Calls Tryz.prog 15 #[.pointer (some ⟨R, 0, none⟩)] W fun e w' => e = .returned (.int .i64 (y : Int)) ∧ Keep R (R + 1) W w' ∧ w'.heap.size = W.heap.size ∧ RdIn w' R p c xs (rdN xs i2)) := fun W hW => by
  have := next_any R c i2 p xs W hW; rw [ey] at this; exact this
 have HAL : Hid (a < cs.length) := hal; have HNE : Hid (n = cs.length) := hn; clear h ho er ei ei2 ex eu ey ea hn hk hnum h0 hl hr hr1 hr2 hal em1
 go_enter Tryz.func36, Tryz.ntmps36
 go_wp2_with fail; refine (HN1.out w HH.out).mono ?_; rintro e w2 ⟨rfl, hk2, hs2, hR2⟩; have HR2 : Hid (RdIn w2 R p c xs i1) := hR2; have HK2 : Hid (Keep R (R + 1) w w2) := hk2; clear hk2 hs2 hR2; go_wp2_with fail; refine (HN2.out w2 HR2.out).mono ?_; rintro e w3 ⟨rfl, hk3, hs3, hR3⟩; have HR3 : Hid (RdIn w3 R p c xs i2) := hR3; have HK3 : Hid (Keep R (R + 1) w w3) := HK2.out.trans hk3; have HO3 : Hid (OwnC w3 B (some ⟨g, 0, none⟩) n cp cs) := HO.out.keepR HK3.out hRB; have hB3 : B ≤ w3.heap.size := Nat.le_trans hBw HK3.out.size; clear hk3 hs3 hR3
 have FIN : Hid (SpoilOut w B R p c xs (cs.take m1, i2) (.returned (.slice (some ⟨g, 0, none⟩) m1 cp)) w3) := ⟨_, _, _, rfl, HO3.out.cut hm1, Kb.of_keep HK3.out hBw, HR3.out⟩
 have hcn : n ≤ cp := by rw [HNE.out]; exact hcap.1
 go_wp2_with fail; go_ret; rw [HV.out]; exact FIN.out
set_option maxHeartbeats 2000000 in
theorem spoil_4 (R c i : Nat) (p : Option Addr) (xs : List Int) (B g n cp : Nat) (cs : List Cel) (w : World) (h : RdIn w R p c xs i) (hRB : R < B) (hBw : B ≤ w.heap.size) (ho : OwnC w B (some ⟨g, 0, none⟩) n cp cs) (h0 : 0 < cs.length) (hl : cs.length ≤ 600) (hnum : NumC cs) (hk : (rdI xs i).toNat % 9 = 4) :
  Calls Tryz.prog 36 #[.slice (some ⟨g, 0, none⟩) n cp, .pointer (some ⟨R, 0, none⟩)] w (SpoilOut w B R p c xs (spoilF xs cs i)) := by
 have HH : Hid (RdIn w R p c xs i) := h; have HO : Hid (OwnC w B (some ⟨g, 0, none⟩) n cp cs) := ho; have hn : n = cs.length := ho.1; have hcap := ho.cap
 have hgB : B ≤ g ∧ g < w.heap.size := by obtain ⟨g', e, h1, h2⟩ := ho.at0 h0; cases e; exact ⟨h1, h2⟩
 have hr := rdI_rng h.bytes i; have hr1 := rdI_rng h.bytes (rdN xs i); have hr2 := rdI_rng h.bytes (rdN xs (rdN xs i))
 obtain ⟨res, er⟩ : ∃ res, res = spoilF xs cs i := ⟨_, rfl⟩
 rw [← er]; have HER : Hid (res = spoilF xs cs i) := er
 obtain ⟨i1, ei⟩ : ∃ i1, i1 = rdN xs i := ⟨_, rfl⟩
 obtain ⟨i2, ei2⟩ : ∃ i2, i2 = rdN xs i1 := ⟨_, rfl⟩
 rw [← ei] at hr1 hr2; rw [← ei2] at hr2
 obtain ⟨x, ex⟩ : ∃ x : Nat, rdI xs i = x := ⟨(rdI xs i).toNat, by omega⟩
 obtain ⟨u, eu⟩ : ∃ u : Nat, rdI xs i1 = u := ⟨(rdI xs i1).toNat, by omega⟩
 obtain ⟨y, ey⟩ : ∃ y : Nat, rdI xs i2 = y := ⟨(rdI xs i2).toNat, by omega⟩
 have hx9 : (x : Int).tmod 9 = 4 := by rw [Int.tmod_eq_emod_of_nonneg (by omega)]; rw [ex] at hk; omega
 have hx : x < 256 := by omega
 have hu : u < 256 := by omega
 have hy : y < 256 := by omega
 obtain ⟨a, ea⟩ : ∃ a, a = u % cs.length := ⟨_, rfl⟩
 have hal : a < cs.length := by rw [ea]; exact Nat.mod_lt _ h0
 have han : a < n := by omega
 have hn0 : ((n : Int) == 0) = false := by rw [beq_eq_false_iff_ne]; omega
 have hma : (u : Int).tmod (n : Int) = (a : Int) := by rw [ea, hn, Int.tmod_eq_emod_of_nonneg (by omega)]; rfl
 have hn600 : n ≤ 600 := by omega
 have HV : Hid (res = (cs ++ [(2, 0, [])], i2)) := by
  show _ = _
  rw [HER.out]
  unfold spoilF
  simp only; rw [← ei, ← ei2, eu, ey, Int.toNat_natCast, Int.toNat_natCast, ← ea, hk]
  first | rfl | (rw [if_neg (by decide), if_neg (by decide), if_neg (by decide), if_neg (by decide), if_pos rfl])
 have HN1 : Hid (∀ W, RdIn W R p c xs i → Calls Tryz.prog 15 #[.pointer (some ⟨R, 0, none⟩)] W fun e w' => e = .returned (.int .i64 (x : Int)) ∧ Keep R (R + 1) W w' ∧ w'.heap.size = W.heap.size ∧ RdIn w' R p c xs i1) := fun W hW => by
  have := next_any R c i p xs W hW; rw [ex, ← ei] at this; exact this
 have HN2 : Hid (∀ W, RdIn W R p c xs i1 → Calls Tryz.prog 15 #[.pointer (some ⟨R, 0, none⟩)] W fun e w' => e = .returned (.int .i64 (u : Int)) ∧ Keep R (R + 1) W w' ∧ w'.heap.size = W.heap.size ∧ RdIn w' R p c xs i2) := fun W hW => by
  have := next_any R c i1 p xs W hW; rw [eu, ← ei2] at this; exact this
 have HN3 : Hid (∀ W, RdIn W R p c xs i2 → Calls Tryz.prog 15 #[.pointer (some ⟨R, 0, none⟩)] W fun e w' => e = .returned (.int .i64 (y : Int)) ∧ Keep R (R + 1) W w' ∧ w'.heap.size = W.heap.size ∧ RdIn w' R p c xs (rdN xs i2)) := fun W hW => by
  have := next_any R c i2 p xs W hW; rw [ey] at this; exact this
 have HAL : Hid (a < cs.length) := hal; have HNE : Hid (n = cs.length) := hn; clear h ho er ei ei2 ex eu ey ea hn hk hnum h0 hl hr hr1 hr2 hal
 go_enter Tryz.func36, Tryz.ntmps36
 go_wp2_with fail; refine (HN1.out w HH.out).mono ?_; rintro e w2 ⟨rfl, hk2, hs2, hR2⟩; have HR2 : Hid (RdIn w2 R p c xs i1) := hR2; have HK2 : Hid (Keep R (R + 1) w w2) := hk2; clear hk2 hs2 hR2; go_wp2_with fail; refine (HN2.out w2 HR2.out).mono ?_; rintro e w3 ⟨rfl, hk3, hs3, hR3⟩; have HR3 : Hid (RdIn w3 R p c xs i2) := hR3; have HK3 : Hid (Keep R (R + 1) w w3) := HK2.out.trans hk3; have HO3 : Hid (OwnC w3 B (some ⟨g, 0, none⟩) n cp cs) := HO.out.keepR HK3.out hRB; have hB3 : B ≤ w3.heap.size := Nat.le_trans hBw HK3.out.size; clear hk3 hs3 hR3; have hbA : Below w3.heap.size w3 (w3.alloc (Obj.cells #[Value.int IntKind.i64 2, Value.int IntKind.i64 0, Value.slice none 0 0] 63)) := (Below.refl _ _).alloc (Nat.le_refl _) _; have HBA : Hid _ := hbA; have HBX : Hid (Box3 (w3.alloc (Obj.cells #[Value.int IntKind.i64 2, Value.int IntKind.i64 0, Value.slice none 0 0] 63)) w3.heap.size (.int .i64 2) (.int .i64 0) (.slice none 0 0)) := Box3.of_block (t := 63) (heap_alloc_new w3 _)
 have HOT : Hid (OwnT (w3.alloc (Obj.cells #[Value.int IntKind.i64 2, Value.int IntKind.i64 0, Value.slice none 0 0] 63)) w3.heap.size none 0 0 []) := ⟨rfl, fun h => absurd h (by decide)⟩
 clear hbA; go_wp2_with (at_builtin; refine app_cell w3 _ rfl _ _ rfl B (some ⟨g, 0, none⟩) n cp _ rfl HO3.out HBA.out hB3 ⟨w3.heap.size, 0, none⟩ 1 rfl 2 0 none 0 0 [] HOT.out (news_rc HBX.out) (by omega) ?_; intro g4 n4 cap4 w4 hown4 hb4 hn4); have hbb : Below B w3 w4 := (HBA.out.mono hB3).trans hb4
 have FIN : Hid (SpoilOut w B R p c xs (cs ++ [(2, 0, [])], i2) (.returned (.slice (some ⟨g4, 0, none⟩) n4 cap4)) w4) := ⟨_, _, _, rfl, hown4, (Kb.of_keep HK3.out hBw).trans (Kb.of_below hbb), HR3.out.below hbb hRB⟩
 clear hown4 hb4 hbb; go_wp2_with fail; go_ret; rw [HV.out]; exact FIN.out
set_option maxHeartbeats 2000000 in
theorem spoil_5 (R c i : Nat) (p : Option Addr) (xs : List Int) (B g n cp : Nat) (cs : List Cel) (w : World) (h : RdIn w R p c xs i) (hRB : R < B) (hBw : B ≤ w.heap.size) (ho : OwnC w B (some ⟨g, 0, none⟩) n cp cs) (h0 : 0 < cs.length) (hl : cs.length ≤ 600) (hnum : NumC cs) (hk : (rdI xs i).toNat % 9 = 5) :
  Calls Tryz.prog 36 #[.slice (some ⟨g, 0, none⟩) n cp, .pointer (some ⟨R, 0, none⟩)] w (SpoilOut w B R p c xs (spoilF xs cs i)) := by
 have HH : Hid (RdIn w R p c xs i) := h; have HO : Hid (OwnC w B (some ⟨g, 0, none⟩) n cp cs) := ho; have hn : n = cs.length := ho.1; have hcap := ho.cap
 have hgB : B ≤ g ∧ g < w.heap.size := by obtain ⟨g', e, h1, h2⟩ := ho.at0 h0; cases e; exact ⟨h1, h2⟩
 have hr := rdI_rng h.bytes i; have hr1 := rdI_rng h.bytes (rdN xs i); have hr2 := rdI_rng h.bytes (rdN xs (rdN xs i))
 obtain ⟨res, er⟩ : ∃ res, res = spoilF xs cs i := ⟨_, rfl⟩
 rw [← er]; have HER : Hid (res = spoilF xs cs i) := er
 obtain ⟨i1, ei⟩ : ∃ i1, i1 = rdN xs i := ⟨_, rfl⟩
 obtain ⟨i2, ei2⟩ : ∃ i2, i2 = rdN xs i1 := ⟨_, rfl⟩
 rw [← ei] at hr1 hr2; rw [← ei2] at hr2
 obtain ⟨x, ex⟩ : ∃ x : Nat, rdI xs i = x := ⟨(rdI xs i).toNat, by omega⟩
 obtain ⟨u, eu⟩ : ∃ u : Nat, rdI xs i1 = u := ⟨(rdI xs i1).toNat, by omega⟩
 obtain ⟨y, ey⟩ : ∃ y : Nat, rdI xs i2 = y := ⟨(rdI xs i2).toNat, by omega⟩
 have hx9 : (x : Int).tmod 9 = 5 := by rw [Int.tmod_eq_emod_of_nonneg (by omega)]; rw [ex] at hk; omega
 have hx : x < 256 := by omega
 have hu : u < 256 := by omega
 have hy : y < 256 := by omega
 obtain ⟨a, ea⟩ : ∃ a, a = u % cs.length := ⟨_, rfl⟩
 have hal : a < cs.length := by rw [ea]; exact Nat.mod_lt _ h0
 have han : a < n := by omega
 have hn0 : ((n : Int) == 0) = false := by rw [beq_eq_false_iff_ne]; omega
 have hma : (u : Int).tmod (n : Int) = (a : Int) := by rw [ea, hn, Int.tmod_eq_emod_of_nonneg (by omega)]; rfl
 have hn600 : n ≤ 600 := by omega
 obtain ⟨z, ez⟩ : ∃ z, z = y % 2 := ⟨_, rfl⟩
 have hz : z < 2 := by omega
 have hmz : (y : Int).tmod 2 = (z : Int) := by rw [ez, Int.tmod_eq_emod_of_nonneg (by omega)]; rfl
 obtain ⟨mm, emm⟩ : ∃ mm, mm = 100 + z := ⟨_, rfl⟩
 have hadd : (100 : Int) + (z : Int) = (mm : Int) := by omega
 have hmm : mm ≤ 1000 := by omega
 have HV : Hid (res = (cs.set a ((cs.getD a Cel.none).1, (cs.getD a Cel.none).2.1, List.replicate mm 116), rdN xs i2)) := by
  show _ = _
  rw [HER.out]
  unfold spoilF
  simp only; rw [← ei, ← ei2, eu, ey, Int.toNat_natCast, Int.toNat_natCast, ← ea, ← ez, ← emm, hk]
  first | rfl | (rw [if_neg (by decide), if_neg (by decide), if_neg (by decide), if_neg (by decide), if_neg (by decide), if_pos rfl])
 have HN1 : Hid (∀ W, RdIn W R p c xs i → Calls Tryz.prog 15 #[.pointer (some ⟨R, 0, none⟩)] W fun e w' => e = .returned (.int .i64 (x : Int)) ∧ Keep R (R + 1) W w' ∧ w'.heap.size = W.heap.size ∧ RdIn w' R p c xs i1) := fun W hW => by
  have := next_any R c i p xs W hW; rw [ex, ← ei] at this; exact this
 have HN2 : Hid (∀ W, RdIn W R p c xs i1 → Calls Tryz.prog 15 #[.pointer (some ⟨R, 0, none⟩)] W fun e w' => e = .returned (.int .i64 (u : Int)) ∧ Keep R (R + 1) W w' ∧ w'.heap.size = W.heap.size ∧ RdIn w' R p c xs i2) := fun W hW => by
  have := next_any R c i1 p xs W hW; rw [eu, ← ei2] at this; exact this
 have HN3 : Hid (∀ W, RdIn W R p c xs i2 → Calls Tryz.prog 15 #[.pointer (some ⟨R, 0, none⟩)] W fun e w' => e = .returned (.int .i64 (y : Int)) ∧ Keep R (R + 1) W w' ∧ w'.heap.size = W.heap.size ∧ RdIn w' R p c xs (rdN xs i2)) := fun W hW => by
  have := next_any R c i2 p xs W hW; rw [ey] at this; exact this
 have HAL : Hid (a < cs.length) := hal; have HNE : Hid (n = cs.length) := hn; clear h ho er ei ei2 ex eu ey ea hn hk hnum h0 hl hr hr1 hr2 hal ez emm
 go_enter Tryz.func36, Tryz.ntmps36
 go_wp2_with fail; refine (HN1.out w HH.out).mono ?_; rintro e w2 ⟨rfl, hk2, hs2, hR2⟩; have HR2 : Hid (RdIn w2 R p c xs i1) := hR2; have HK2 : Hid (Keep R (R + 1) w w2) := hk2; clear hk2 hs2 hR2; go_wp2_with fail; refine (HN2.out w2 HR2.out).mono ?_; rintro e w3 ⟨rfl, hk3, hs3, hR3⟩; have HR3 : Hid (RdIn w3 R p c xs i2) := hR3; have HK3 : Hid (Keep R (R + 1) w w3) := HK2.out.trans hk3; have HO3 : Hid (OwnC w3 B (some ⟨g, 0, none⟩) n cp cs) := HO.out.keepR HK3.out hRB; have hB3 : B ≤ w3.heap.size := Nat.le_trans hBw HK3.out.size; clear hk3 hs3 hR3; go_wp2_with fail; refine (HN3.out w3 HR3.out).mono ?_; rintro e w4 ⟨rfl, hk4, hs4, hR4⟩; have HR4 : Hid (RdIn w4 R p c xs (rdN xs i2)) := hR4; have HK4 : Hid (Keep R (R + 1) w w4) := HK3.out.trans hk4; have HO4 : Hid (OwnC w4 B (some ⟨g, 0, none⟩) n cp cs) := HO.out.keepR HK4.out hRB; have hB4 : B ≤ w4.heap.size := Nat.le_trans hBw HK4.out.size
 clear hk4 hs4 hR4; go_wp2_with fail; refine (l4fill_any mm hmm w4).mono ?_; rintro e w5 ⟨p5, n5, c5, rfl, hs5, hb5⟩; have hgw : g < w4.heap.size := Nat.lt_of_lt_of_le hgB.2 HK4.out.size; have ho5 := HO4.out.below hb5; obtain ⟨k0, k1, ⟨tq, tk, td, k2⟩, kf⟩ := ho5.cells HAL.out; have kf2 := kf (a * 3 + 2); have hown := ho5.setT HAL.out hB4 hgw (HO4.out.low2 hb5) hs5.toT; have hbb : Below B w4 (w5.setCell ⟨g, a * 3 + 2, none⟩ (.slice p5 n5 c5)) := Below.setCell (hb5.mono hB4) hgB.1 _
 have FIN : Hid (SpoilOut w B R p c xs (cs.set a ((cs.getD a Cel.none).1, (cs.getD a Cel.none).2.1, List.replicate mm 116), rdN xs i2) (.returned (.slice (some ⟨g, 0, none⟩) n cp)) (w5.setCell ⟨g, a * 3 + 2, none⟩ (.slice p5 n5 c5))) := ⟨_, _, _, rfl, hown, (Kb.of_keep HK4.out hBw).trans (Kb.of_below hbb), HR4.out.below hbb hRB⟩
 clear hs5 hb5 ho5 hown hbb kf; go_wp2_with fail; go_ret; rw [HV.out]; exact FIN.out
set_option maxHeartbeats 2000000 in
theorem spoil_8 (R c i : Nat) (p : Option Addr) (xs : List Int) (B g n cp : Nat) (cs : List Cel) (w : World) (h : RdIn w R p c xs i) (hRB : R < B) (hBw : B ≤ w.heap.size) (ho : OwnC w B (some ⟨g, 0, none⟩) n cp cs) (h0 : 0 < cs.length) (hl : cs.length ≤ 600) (hnum : NumC cs) (hk : (rdI xs i).toNat % 9 = 8) :
  Calls Tryz.prog 36 #[.slice (some ⟨g, 0, none⟩) n cp, .pointer (some ⟨R, 0, none⟩)] w (SpoilOut w B R p c xs (spoilF xs cs i)) := by
 have HH : Hid (RdIn w R p c xs i) := h; have HO : Hid (OwnC w B (some ⟨g, 0, none⟩) n cp cs) := ho; have hn : n = cs.length := ho.1; have hcap := ho.cap
 have hgB : B ≤ g ∧ g < w.heap.size := by obtain ⟨g', e, h1, h2⟩ := ho.at0 h0; cases e; exact ⟨h1, h2⟩
 have hr := rdI_rng h.bytes i; have hr1 := rdI_rng h.bytes (rdN xs i); have hr2 := rdI_rng h.bytes (rdN xs (rdN xs i))
 obtain ⟨res, er⟩ : ∃ res, res = spoilF xs cs i := ⟨_, rfl⟩
 rw [← er]; have HER : Hid (res = spoilF xs cs i) := er
 obtain ⟨i1, ei⟩ : ∃ i1, i1 = rdN xs i := ⟨_, rfl⟩
 obtain ⟨i2, ei2⟩ : ∃ i2, i2 = rdN xs i1 := ⟨_, rfl⟩
 rw [← ei] at hr1 hr2; rw [← ei2] at hr2
 obtain ⟨x, ex⟩ : ∃ x : Nat, rdI xs i = x := ⟨(rdI xs i).toNat, by omega⟩
 obtain ⟨u, eu⟩ : ∃ u : Nat, rdI xs i1 = u := ⟨(rdI xs i1).toNat, by omega⟩
 obtain ⟨y, ey⟩ : ∃ y : Nat, rdI xs i2 = y := ⟨(rdI xs i2).toNat, by omega⟩
 have hx9 : (x : Int).tmod 9 = 8 := by rw [Int.tmod_eq_emod_of_nonneg (by omega)]; rw [ex] at hk; omega
 have hx : x < 256 := by omega
 have hu : u < 256 := by omega
 have hy : y < 256 := by omega
 obtain ⟨a, ea⟩ : ∃ a, a = u % cs.length := ⟨_, rfl⟩
 have hal : a < cs.length := by rw [ea]; exact Nat.mod_lt _ h0
 have han : a < n := by omega
 have hn0 : ((n : Int) == 0) = false := by rw [beq_eq_false_iff_ne]; omega
 have hma : (u : Int).tmod (n : Int) = (a : Int) := by rw [ea, hn, Int.tmod_eq_emod_of_nonneg (by omega)]; rfl
 have hn600 : n ≤ 600 := by omega
 obtain ⟨z, ez⟩ : ∃ z, z = y % 2 := ⟨_, rfl⟩
 have hz : z < 2 := by omega
 have hmz : (y : Int).tmod 2 = (z : Int) := by rw [ez, Int.tmod_eq_emod_of_nonneg (by omega)]; rfl
 have HV : Hid (res = (cs.set a (0, 1000000 + (z : Int), []), rdN xs i2)) := by
  show _ = _
  rw [HER.out]
  unfold spoilF
  simp only; rw [← ei, ← ei2, eu, ey, Int.toNat_natCast, Int.toNat_natCast, ← ea, ← ez, hk]
  first | rfl | (rw [if_neg (by decide), if_neg (by decide), if_neg (by decide), if_neg (by decide), if_neg (by decide), if_neg (by decide), if_neg (by decide), if_neg (by decide)])
 have HN1 : Hid (∀ W, RdIn W R p c xs i → Calls Tryz.prog 15 #[.pointer (some ⟨R, 0, none⟩)] W fun e w' => e = .returned (.int .i64 (x : Int)) ∧ Keep R (R + 1) W w' ∧ w'.heap.size = W.heap.size ∧ RdIn w' R p c xs i1) := fun W hW => by
  have := next_any R c i p xs W hW; rw [ex, ← ei] at this; exact this
 have HN2 : Hid (∀ W, RdIn W R p c xs i1 → Calls Tryz.prog 15 #[.pointer (some ⟨R, 0, none⟩)] W fun e w' => e = .returned (.int .i64 (u : Int)) ∧ Keep R (R + 1) W w' ∧ w'.heap.size = W.heap.size ∧ RdIn w' R p c xs i2) := fun W hW => by
  have := next_any R c i1 p xs W hW; rw [eu, ← ei2] at this; exact this
 have HN3 : Hid (∀ W, RdIn W R p c xs i2 → Calls Tryz.prog 15 #[.pointer (some ⟨R, 0, none⟩)] W fun e w' => e = .returned (.int .i64 (y : Int)) ∧ Keep R (R + 1) W w' ∧ w'.heap.size = W.heap.size ∧ RdIn w' R p c xs (rdN xs i2)) := fun W hW => by
  have := next_any R c i2 p xs W hW; rw [ey] at this; exact this
 have HAL : Hid (a < cs.length) := hal; have HNE : Hid (n = cs.length) := hn; clear h ho er ei ei2 ex eu ey ea hn hk hnum h0 hl hr hr1 hr2 hal ez
 go_enter Tryz.func36, Tryz.ntmps36
 go_wp2_with fail; refine (HN1.out w HH.out).mono ?_; rintro e w2 ⟨rfl, hk2, hs2, hR2⟩; have HR2 : Hid (RdIn w2 R p c xs i1) := hR2; have HK2 : Hid (Keep R (R + 1) w w2) := hk2; clear hk2 hs2 hR2; go_wp2_with fail; refine (HN2.out w2 HR2.out).mono ?_; rintro e w3 ⟨rfl, hk3, hs3, hR3⟩; have HR3 : Hid (RdIn w3 R p c xs i2) := hR3; have HK3 : Hid (Keep R (R + 1) w w3) := HK2.out.trans hk3; have HO3 : Hid (OwnC w3 B (some ⟨g, 0, none⟩) n cp cs) := HO.out.keepR HK3.out hRB; have hB3 : B ≤ w3.heap.size := Nat.le_trans hBw HK3.out.size; clear hk3 hs3 hR3; go_wp2_with fail; refine (HN3.out w3 HR3.out).mono ?_; rintro e w4 ⟨rfl, hk4, hs4, hR4⟩; have HR4 : Hid (RdIn w4 R p c xs (rdN xs i2)) := hR4; have HK4 : Hid (Keep R (R + 1) w w4) := HK3.out.trans hk4; have HO4 : Hid (OwnC w4 B (some ⟨g, 0, none⟩) n cp cs) := HO.out.keepR HK4.out hRB; have hB4 : B ≤ w4.heap.size := Nat.le_trans hBw HK4.out.size
 clear hk4 hs4 hR4; obtain ⟨k0, k1, ⟨tq, tk, td, k2⟩, kf⟩ := HO4.out.cells HAL.out; have kf0 := kf (a * 3); have kf1 := kf (a * 3 + 1); have kf2 := kf (a * 3 + 2); clear kf; have o1 := HO4.out.setK HAL.out 0; have o2 := o1.setN (j := a) (by rw [List.length_set]; exact HAL.out) (1000000 + (z : Int)); have o3 := o2.setT (j := a) (M := w4.heap.size) (tp := none) (tn := 0) (tc := 0) (s := []) (by rw [List.length_set, List.length_set]; exact HAL.out) hB4 (Nat.lt_of_lt_of_le hgB.2 HK4.out.size) (by have := o2.low; simpa using this) ⟨rfl, fun h => absurd h (by decide)⟩
 have el : ((cs.set a (0, (cs.getD a Cel.none).2)).set a (((cs.set a (0, (cs.getD a Cel.none).2)).getD a Cel.none).1, 1000000 + (z : Int), ((cs.set a (0, (cs.getD a Cel.none).2)).getD a Cel.none).2.2)) = cs.set a (0, 1000000 + (z : Int), (cs.getD a Cel.none).2.2) := by
  rw [List.set_set, cs_set_at _ _ _ _ HAL.out, if_pos rfl]
 have e4 : (cs.set a (0, 1000000 + (z : Int), (cs.getD a Cel.none).2.2)).set a (((cs.set a (0, 1000000 + (z : Int), (cs.getD a Cel.none).2.2)).getD a Cel.none).1, ((cs.set a (0, 1000000 + (z : Int), (cs.getD a Cel.none).2.2)).getD a Cel.none).2.1, []) = cs.set a (0, 1000000 + (z : Int), []) := by
  rw [List.set_set, cs_set_at _ _ _ _ HAL.out, if_pos rfl]
 rw [el, e4] at o3; have hbb : Below B w4 (((w4.setCell ⟨g, a * 3, none⟩ (.int .i64 0)).setCell ⟨g, a * 3 + 1, none⟩ (.int .i64 (1000000 + (z : Int)))).setCell ⟨g, a * 3 + 2, none⟩ (.slice none 0 0)) := Below.setCell (Below.setCell (Below.setCell (Below.refl _ _) hgB.1 _) hgB.1 _) hgB.1 _
 have FIN : Hid (SpoilOut w B R p c xs (cs.set a (0, 1000000 + (z : Int), []), rdN xs i2) (.returned (.slice (some ⟨g, 0, none⟩) n cp)) (((w4.setCell ⟨g, a * 3, none⟩ (.int .i64 0)).setCell ⟨g, a * 3 + 1, none⟩ (.int .i64 (1000000 + (z : Int)))).setCell ⟨g, a * 3 + 2, none⟩ (.slice none 0 0))) := ⟨_, _, _, rfl, o3, (Kb.of_keep HK4.out hBw).trans (Kb.of_below hbb), HR4.out.below hbb hRB⟩
 clear o1 o2 o3 el e4 hbb; go_wp2_with fail; go_ret; rw [HV.out]; exact FIN.out
end Go.Proofs.YtkklidpnkofipaaGreatDoor
