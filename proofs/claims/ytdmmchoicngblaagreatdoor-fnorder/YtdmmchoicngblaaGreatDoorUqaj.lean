/- Texts of Dt5, Dt6, Ren3, Dt8. Own work of the verifier. -/
import Derived.Test.YtdmmchoicngblaaGreatDoorUqag
import Derived.Test.YtdmmchoicngblaaGreatDoorUqai
import Derived.Test.YtdmmchoicngblaaGreatDoorUqae
namespace Go.Proofs.YtdmmchoicngblaaGreatDoor
set_option linter.unusedVariables false
set_option maxRecDepth 100000
section
open Go Go.RowKit
theorem Keep.on_below {R U : Nat} {w W W' : World} (h : Keep R U w W) (k : Below w.heap.size W W') : Keep R U w W' :=
 ⟨k.os.trans h.os, k.tape.trans h.tape, k.output.trans h.output, Nat.le_trans h.size k.size, fun j hj hp => (k.block j hj).trans (h.block j hj hp)⟩
def TermK (R c : Nat) (p : Option Addr) (xs : List Int) (D : Int) (f : Nat → List Cel × Nat) : Prop :=
 ∀ i w, RdIn w R p c xs i → Calls Tryz.prog 39 #[.pointer (some ⟨R, 0, none⟩), .int .i64 D] w (TermOut w R p c xs (f i))
theorem tll_flat : ∀ css : List (List Cel), tll css = css.flatten.length + tl css.flatten
 | [] => rfl
 | c :: r => by
   rw [tll, tll_flat r, List.flatten_cons, tl_app, List.length_append]; omega
theorem lsL_mk (css : List (List Cel)) (en : List Cel) : lsL css en = mkL css ++ en := rfl
theorem OwnCC.rows {w : World} {B U : Nat} {p : Option Addr} {n c : Nat} {css : List (List Cel)} (h : OwnCC w B U p n c css) (hn : 0 < css.length) (hs : ∀ j, j < css.length → 0 < (css.getD j []).length ∧ (css.getD j []).length + tl (css.getD j []) ≤ 100000) : ∃ g, p = some ⟨g, 0, none⟩ ∧ RowsIn w g css := by
 obtain ⟨ds, h⟩ := h; have hl := h.len; obtain ⟨g, cap, hv, hb, hg⟩ := h.row.form (by omega); simp only [Value.slice.injEq, true_and] at hv; obtain ⟨rfl, rfl⟩ := hv; refine ⟨g, rfl, fun j hj => ⟨(ds.getD j It.zero).1, (ds.getD j It.zero).2.1, ?_, (h.item j hj).toC.cin, hs j hj⟩⟩; rw [h.row.cellAt j (by omega)]; exact vals_at ds css j hj
theorem Sml.few {m : Nat} {cs : List Cel} (h : Sml m cs) (hm : m ≤ 600) : 0 < cs.length ∧ cs.length + tl cs ≤ 100000 := ⟨h.pos, by have := h.len; have := h.txt; omega⟩
theorem nilStr : (⟨#[91, 93]⟩ : ByteArray) = strOfNums [91, 93] := rfl
theorem list_small (f : Nat → List Cel × Nat) (n i m : Nat) (en : List Cel) (q q' : Option Addr) (c le cq : Nat) (w : World) (hn : n ≤ 10) (hm : m ≤ 600) (hf : ∀ i, Sml m (f i).1) (hle : le = en.length) (h0 : 0 < le) (hlb : le + tl en ≤ 1000000) (hin : CCIn w q (iterT f n i).1) (hend : CIn w q' en) :
  Calls Tryz.prog 112 #[.slice q n c, .slice q' le cq] w fun e w' => ∃ r m cr, e = .returned (.slice r m cr) ∧ OwnC w' w.heap.size r m cr (lsL (iterT f n i).1 en) ∧ Below w.heap.size w w' := by
 obtain ⟨a1, a2⟩ := iterT_sml f hf n i; obtain ⟨b1, b2⟩ := lsL_len (iterT f n i).1 []; have hl := iterT_len f n i; have hnm : n * m ≤ 10 * 600 := Nat.mul_le_mul hn hm; refine l2listE_any (iterT f n i).1 en q q' n c le cq w hle h0 hlb hl.symm (by omega) (fun j hj => (iterT_at f (P := fun cs => 0 < cs.length) (fun i => (hf i).pos) n i j (by omega))) (by rw [tll_flat]; omega) ?_ hin hend; rw [lsL_mk, List.append_nil, List.length_nil] at b1
 omega
set_option maxHeartbeats 4000000 in
theorem term_list (R c i m0 : Nat) (p : Option Addr) (xs : List Int) (D : Int) (f g : Nat → List Cel × Nat) (w : World) (h : RdIn w R p c xs i) (hD : -10 ≤ D ∧ D ≤ 10) (hc : 0 < D) (hF : TermK R c p xs (D - 1) f) (hG : TermK R c p xs (D - 2) g) (hm0 : m0 ≤ 600) (hf : ∀ i, Sml m0 (f i).1) (hg : ∀ i, Sml m0 (g i).1) (h0 : ¬ rdN xs i = xs.length) (h50 : ¬ (rdI xs i).toNat < 50) (h90 : (rdI xs i).toNat < 90) :
  Calls Tryz.prog 39 #[.pointer (some ⟨R, 0, none⟩), .int .i64 D] w (TermOut w R p c xs (nodeT xs f g i)) := by
 have HH : Hid (RdIn w R p c xs i) := h; have HF : Hid (TermK R c p xs (D - 1) f) := hF; have HG : Hid (TermK R c p xs (D - 2) g) := hG; have HSF : Hid (∀ i, Sml m0 (f i).1) := hf; have HSG : Hid (∀ i, Sml m0 (g i).1) := hg; have HM0 : Hid (m0 ≤ 600) := hm0; have hr := rdI_rng h.bytes i; have hle := rdN_le h.le; have hsm := h.small; have hRw : R < w.heap.size := h.lt; have hr1 := rdI_rng h.bytes (rdN xs i)
 have HNT : Hid (nodeT xs f g i = (if (rdI xs i).toNat % 4 = 0 then (lsL (iterT f (1 + (rdI xs i).toNat % 3) (rdN xs i)).1 (g (iterT f (1 + (rdI xs i).toNat % 3) (rdN xs i)).2).1, (g (iterT f (1 + (rdI xs i).toNat % 3) (rdN xs i)).2).2) else (lsL (iterT f (1 + (rdI xs i).toNat % 3) (rdN xs i)).1 [nilC], (iterT f (1 + (rdI xs i).toNat % 3) (rdN xs i)).2))) := by
  show _ = _
  unfold nodeT
  simp only; rw [if_neg (by intro hh; rcases hh with hh | hh; exact h0 hh; exact h50 hh), if_pos h90]
 obtain ⟨n, en⟩ : ∃ n, n = xs.length := ⟨_, rfl⟩
 rw [← en] at hle hsm h0; have HEN : Hid (n = xs.length) := en
 obtain ⟨i1, ei⟩ : ∃ i1, i1 = rdN xs i := ⟨_, rfl⟩
 rw [← ei] at hle hr1 h0; rw [← ei] at HNT; have HEI : Hid (i1 = rdN xs i) := ei; have hd : decide (D ≤ 0) = false := decide_eq_false (by omega)
 obtain ⟨res, er⟩ : ∃ res, res = nodeT xs f g i := ⟨_, rfl⟩
 rw [← er]; have HER : Hid (res = nodeT xs f g i) := er; clear h en ei hF hG hf hg hm0 er
 go_enter Tryz.func39, Tryz.ntmps39
 go_wp2_with fail; refine (next_any R c i p xs w HH.out).mono ?_; rintro e w2 ⟨rfl, hk2, hs2, hR2⟩; have HK2 : Hid (Keep R (R + 1) w w2) := hk2
 have HR2 : Hid (RdIn w2 R p c xs i1) := by rw [HEI.out]; exact hR2
 obtain ⟨x, ex⟩ : ∃ x : Nat, rdI xs i = x := ⟨(rdI xs i).toNat, by omega⟩
 have hxt : (rdI xs i).toNat = x := by rw [ex]; exact Int.toNat_natCast x
 rw [hxt] at h50 h90; rw [ex] at hr ⊢; rw [hxt] at HNT; have hx50 : decide ((x : Int) < 50) = false := decide_eq_false (by omega); clear hk2 hs2 hR2 ex hxt; go_wp2_with fail; refine (left_any R c i1 p xs w2 HR2.out).mono ?_; rintro e wL ⟨rfl, hbL⟩; have HRL : Hid (RdIn wL R p c xs i1) := HR2.out.grow hbL; have HKL : Hid (Keep R (R + 1) w wL) := HK2.out.trans (Keep.of_below hbL); rw [← HEN.out]
 obtain ⟨lf, el⟩ : ∃ lf, lf = n - i1 := ⟨_, rfl⟩
 rw [← el]
 have hlf : lf ≤ 500 := by omega
 have hz0 : ((lf : Int) == 0) = false := by simp; omega
 clear hbL el; have hx90 : decide ((x : Int) < 90) = true := decide_eq_true (by omega)
 obtain ⟨z3, e3⟩ : ∃ z, z = x % 3 := ⟨_, rfl⟩
 have hz3 : z3 < 3 := by omega
 have hm3 : (x : Int).tmod 3 = (z3 : Int) := by rw [e3, Int.tmod_eq_emod_of_nonneg (by omega)]; rfl
 obtain ⟨z4, e4⟩ : ∃ z, z = x % 4 := ⟨_, rfl⟩
 have hz4 : z4 < 4 := by omega
 have hm4 : (x : Int).tmod 4 = (z4 : Int) := by rw [e4, Int.tmod_eq_emod_of_nonneg (by omega)]; rfl
 have HZ4 : Hid (z4 = x % 4) := e4
 obtain ⟨nn, enn⟩ : ∃ nn, nn = 1 + z3 := ⟨_, rfl⟩
 have hnn : nn ≤ 3 := by omega
 have hnn0 : 1 ≤ nn := by omega
 have hadd : (1 : Int) + (z3 : Int) = (nn : Int) := by omega
 have HV : Hid (res = if z4 = 0 then (lsL (iterT f nn i1).1 (g (iterT f nn i1).2).1, (g (iterT f nn i1).2).2) else (lsL (iterT f nn i1).1 [nilC], (iterT f nn i1).2)) := by
  show _ = _
  rw [HER.out, HNT.out, ← e3, ← e4, ← enn]
 clear e3 e4 enn h90 h50 HNT HER; go_wp2_with fail
 go_loopw [6, 8] (fun it iv wr => ∃ (j mq cq : Nat) (q : Option Addr), j ≤ nn ∧ mq = j ∧ iv = .int .i64 j ∧ it = .slice q mq cq ∧ Hid (OwnCC wr w.heap.size wr.heap.size q mq cq (iterT f j i1).1) ∧ Hid (Keep R (R + 1) w wr) ∧ Hid (RdIn wr R p c xs (iterT f j i1).2)) (fun _ iv _ => nn - (intOf iv).toNat)
 case atStart => exact ⟨0, 0, 0, none, Nat.zero_le _, rfl, rfl, rfl, OwnCC.nil _ _ _, HKL, HRL⟩
 case round =>
  obtain ⟨j, mq, cq, q, hj, rfl, rfl, rfl, HO, HK, HR⟩ := hrel; have hBs : w.heap.size ≤ wr.heap.size := HK.out.size
  by_cases hlt : mq < nn
  ·have HC := HF.out (iterT f mq i1).2 wr HR.out
   go_wp2_with fail; refine HC.mono ?_; rintro e w3 ⟨q3, n3, c3, rfl, ho3, hk3, hR3⟩; have HO3 : Hid (OwnC w3 wr.heap.size q3 n3 c3 (f (iterT f mq i1).2).1) := ho3; have HR3 : Hid (RdIn w3 R p c xs (f (iterT f mq i1).2).2) := hR3; have HK3 : Hid (Keep R (R + 1) w w3) := HK.out.trans hk3; have HOW : Hid (OwnCC w3 w.heap.size wr.heap.size q mq cq (iterT f mq i1).1) := HO.out.keep hk3 (.inr (by omega)); have hU3 : wr.heap.size ≤ w3.heap.size := hk3.size; clear ho3 hR3 hk3 HC; go_wp2_with (at_builtin; refine app_itemU wr.heap.size w3 rfl _ _ rfl w.heap.size q mq cq _ rfl HOW.out hU3 hBs q3 n3 c3 _ HO3.out rfl (by omega) ?_; intro g4 n4 cap4 w4 hown4 hb4 hn4); have HO4 : Hid (OwnCC w4 w.heap.size w4.heap.size (some ⟨g4, 0, none⟩) n4 cap4 (iterT f (mq + 1) i1).1) := hown4; have hbA : Below w.heap.size w3 w4 := ((Below.refl _ _).alloc (Nat.le_trans hBs hU3) _).trans hb4; have HK4 : Hid (Keep R (R + 1) w w4) := HK3.out.on_below hbA
   have HR4 : Hid (RdIn w4 R p c xs (iterT f (mq + 1) i1).2) := HR3.out.below hbA hRw; have hn4' : n4 = mq + 1 := hn4.out; clear hown4 hb4 hbA hn4; subst hn4'; go_roundw
   case rel => exact ⟨mq + 1, mq + 1, cap4, _, by omega, rfl, by go_num, rfl, HO4, HK4, HR4⟩
   case measure => simp [intOf]; omega
  ·obtain rfl : mq = nn := by omega
   go_wp2_with fail; rw [nilStr]; refine (l2atomS_any [91, 93] (fun x hx => by simp at hx; omega) wr).mono ?_; rintro e w5 ⟨p5, rfl, hc5, hb5⟩; have HC5 : Hid (CIn w5 p5 [nilC]) := hc5; have HK5 : Hid (Keep R (R + 1) w w5) := HK.out.trans (Keep.of_below hb5); have HR5 : Hid (RdIn w5 R p c xs (iterT f mq i1).2) := HR.out.grow hb5; have HO5 : Hid (OwnCC w5 w.heap.size wr.heap.size q mq cq (iterT f mq i1).1) := HO.out.below hb5; have hs5 : w.heap.size ≤ w5.heap.size := HK5.out.size; clear hc5 hb5
   by_cases h4 : z4 = 0
   ·have hb4 : ((z4 : Int) == 0) = true := by rw [h4]; rfl
    have HC := HG.out (iterT f mq i1).2 w5 HR5.out; have HW : Hid (res = (lsL (iterT f mq i1).1 (g (iterT f mq i1).2).1, (g (iterT f mq i1).2).2)) := HV.out.trans (if_pos h4); clear h4; go_wp2_with fail; refine HC.mono ?_; rintro e w6 ⟨q6, n6, c6, rfl, ho6, hk6, hR6⟩; have hsg := HSG.out (iterT f mq i1).2; have HL := list_small f mq i1 m0 (g (iterT f mq i1).2).1 q q6 cq n6 c6 w6 (by omega) HM0.out HSF.out ho6.1 (by have := ho6.1; have := hsg.pos; omega) (by have := ho6.1; have := hsg.len; have := hsg.txt; have := HM0.out; omega) (HO5.out.keep hk6 (.inr (by omega))).ccin ho6.cin; have HK6 : Hid (Keep R (R + 1) w w6) := HK5.out.trans hk6; have HR6 : Hid (RdIn w6 R p c xs (g (iterT f mq i1).2).2) := hR6; clear ho6 hk6 hR6 hsg HC; go_wp2_with fail; refine HL.mono ?_; rintro e w7 ⟨q7, n7, c7, rfl, ho7, hb7⟩; have FIN : Hid _ := TermOut.of HK6.out HR6.out ho7 hb7; clear ho7 hb7 HL; go_wp2_with fail
    go_ret; rw [HW.out]; exact FIN.out
   ·have hb4 : ((z4 : Int) == 0) = false := by simp; omega
    have HL := list_small f mq i1 m0 [nilC] q p5 cq 1 1 w5 (by omega) HM0.out HSF.out rfl (by decide) (by decide) HO5.out.ccin HC5.out; have HW : Hid (res = (lsL (iterT f mq i1).1 [nilC], (iterT f mq i1).2)) := HV.out.trans (if_neg h4); clear h4; go_wp2_with fail; refine HL.mono ?_; rintro e w7 ⟨q7, n7, c7, rfl, ho7, hb7⟩; have FIN : Hid _ := TermOut.of HK5.out HR5.out ho7 hb7; clear ho7 hb7 HL; go_wp2_with fail; go_ret; rw [HW.out]; exact FIN.out
set_option maxHeartbeats 4000000 in
theorem term_many (R c i m0 : Nat) (p : Option Addr) (xs : List Int) (D : Int) (f g : Nat → List Cel × Nat) (w : World) (h : RdIn w R p c xs i) (hD : -10 ≤ D ∧ D ≤ 10) (hc : 0 < D) (hF : TermK R c p xs (D - 1) f) (hG : TermK R c p xs (D - 2) g) (hm0 : m0 ≤ 600) (hf : ∀ i, Sml m0 (f i).1) (hg : ∀ i, Sml m0 (g i).1) (h0 : ¬ rdN xs i = xs.length) (h50 : ¬ (rdI xs i).toNat < 50) (h230 : ¬ (rdI xs i).toNat < 230) :
  Calls Tryz.prog 39 #[.pointer (some ⟨R, 0, none⟩), .int .i64 D] w (TermOut w R p c xs (nodeT xs f g i)) := by
 have HH : Hid (RdIn w R p c xs i) := h; have HF : Hid (TermK R c p xs (D - 1) f) := hF; have HG : Hid (TermK R c p xs (D - 2) g) := hG; have HSF : Hid (∀ i, Sml m0 (f i).1) := hf; have HSG : Hid (∀ i, Sml m0 (g i).1) := hg; have HM0 : Hid (m0 ≤ 600) := hm0; have hr := rdI_rng h.bytes i; have hle := rdN_le h.le; have hsm := h.small; have hRw : R < w.heap.size := h.lt; have hr1 := rdI_rng h.bytes (rdN xs i)
 have HNT : Hid (nodeT xs f g i = ((3, ((1 + (rdI xs i).toNat % 4 : Nat) : Int), numsU (nameAt (rdI xs (iterT f (1 + (rdI xs i).toNat % 4) (rdN xs i)).2).toNat)) :: (iterT f (1 + (rdI xs i).toNat % 4) (rdN xs i)).1.flatten, rdN xs (iterT f (1 + (rdI xs i).toNat % 4) (rdN xs i)).2)) := by
  show _ = _
  unfold nodeT
  simp only; rw [if_neg (by intro hh; rcases hh with hh | hh; exact h0 hh; exact h50 hh), if_neg (by omega), if_neg (by omega), if_neg h230]
 obtain ⟨n, en⟩ : ∃ n, n = xs.length := ⟨_, rfl⟩
 rw [← en] at hle hsm h0; have HEN : Hid (n = xs.length) := en
 obtain ⟨i1, ei⟩ : ∃ i1, i1 = rdN xs i := ⟨_, rfl⟩
 rw [← ei] at hle hr1 h0; rw [← ei] at HNT; have HEI : Hid (i1 = rdN xs i) := ei; have hd : decide (D ≤ 0) = false := decide_eq_false (by omega)
 obtain ⟨res, er⟩ : ∃ res, res = nodeT xs f g i := ⟨_, rfl⟩
 rw [← er]; have HER : Hid (res = nodeT xs f g i) := er; clear h en ei hF hG hf hg hm0 er
 go_enter Tryz.func39, Tryz.ntmps39
 go_wp2_with fail; refine (next_any R c i p xs w HH.out).mono ?_; rintro e w2 ⟨rfl, hk2, hs2, hR2⟩; have HK2 : Hid (Keep R (R + 1) w w2) := hk2
 have HR2 : Hid (RdIn w2 R p c xs i1) := by rw [HEI.out]; exact hR2
 obtain ⟨x, ex⟩ : ∃ x : Nat, rdI xs i = x := ⟨(rdI xs i).toNat, by omega⟩
 have hxt : (rdI xs i).toNat = x := by rw [ex]; exact Int.toNat_natCast x
 rw [hxt] at h50 h230; rw [ex] at hr ⊢; rw [hxt] at HNT; have hx50 : decide ((x : Int) < 50) = false := decide_eq_false (by omega); clear hk2 hs2 hR2 ex hxt; go_wp2_with fail; refine (left_any R c i1 p xs w2 HR2.out).mono ?_; rintro e wL ⟨rfl, hbL⟩; have HRL : Hid (RdIn wL R p c xs i1) := HR2.out.grow hbL; have HKL : Hid (Keep R (R + 1) w wL) := HK2.out.trans (Keep.of_below hbL); rw [← HEN.out]
 obtain ⟨lf, el⟩ : ∃ lf, lf = n - i1 := ⟨_, rfl⟩
 rw [← el]
 have hlf : lf ≤ 500 := by omega
 have hz0 : ((lf : Int) == 0) = false := by simp; omega
 clear hbL el; have hx90 : decide ((x : Int) < 90) = false := decide_eq_false (by omega); have hx180 : decide ((x : Int) < 180) = false := decide_eq_false (by omega); have hx230 : decide ((x : Int) < 230) = false := decide_eq_false (by omega)
 obtain ⟨z4, e4⟩ : ∃ z, z = x % 4 := ⟨_, rfl⟩
 have hz4 : z4 < 4 := by omega
 have hm4 : (x : Int).tmod 4 = (z4 : Int) := by rw [e4, Int.tmod_eq_emod_of_nonneg (by omega)]; rfl
 obtain ⟨nn, enn⟩ : ∃ nn, nn = 1 + z4 := ⟨_, rfl⟩
 have hnn : nn ≤ 4 := by omega
 have hnn0 : 1 ≤ nn := by omega
 have hadd : (1 : Int) + (z4 : Int) = (nn : Int) := by omega
 have HV : Hid (res = ((3, (nn : Int), numsU (nameAt (rdI xs (iterT f nn i1).2).toNat)) :: (iterT f nn i1).1.flatten, rdN xs (iterT f nn i1).2)) := by
  show _ = _
  rw [HER.out, HNT.out, ← e4, ← enn]
 obtain ⟨wA, eA⟩ : ∃ wA, wA = (wL.alloc (.cells (binU.map strV).toArray 9)).alloc (.cells (unaU.map strV).toArray 9) := ⟨_, rfl⟩
 have hbA : Below wL.heap.size wL wA := by rw [eA]; exact ((Below.refl _ _).alloc (Nat.le_refl _) _).alloc (by simp) _
 have HKA : Hid (Keep R (R + 1) w wA) := HKL.out.trans (Keep.of_below hbA); have HRA : Hid (RdIn wA R p c xs i1) := HRL.out.grow hbA; clear e4 enn h230 h50 hbA HNT HER; go_wp2_with fail
 have eA' : wA = (wL.alloc (Obj.cells #[.string ⟨#[45]⟩, .string ⟨#[43]⟩, .string ⟨#[61]⟩, .string ⟨#[44]⟩, .string ⟨#[58, 45]⟩, .string ⟨#[59]⟩, .string ⟨#[45, 62]⟩, .string ⟨#[105, 115]⟩, .string ⟨#[94]⟩, .string ⟨#[42, 42]⟩, .string ⟨#[42]⟩, .string ⟨#[64, 64]⟩, .string ⟨#[109, 111, 100]⟩, .string ⟨#[102]⟩, .string ⟨#[45, 45, 62]⟩, .string ⟨#[114]⟩, .string ⟨#[113]⟩] 9)).alloc (Obj.cells #[.string ⟨#[45]⟩, .string ⟨#[92, 43]⟩, .string ⟨#[58, 45]⟩, .string ⟨#[43]⟩, .string ⟨#[123, 125]⟩, .string ⟨#[100, 121, 110, 97, 109, 105, 99]⟩, .string ⟨#[103]⟩, .string ⟨#[92]⟩, .string ⟨#[112]⟩, .string ⟨#[64, 64]⟩, .string ⟨#[91, 93]⟩, .string ⟨#[33]⟩] 9) := by rw [eA]; rfl
 rw [← eA']; clear eA eA'
 go_loopw [12, 14] (fun it iv wr => ∃ (j mq cq : Nat) (q : Option Addr), j ≤ nn ∧ mq = j ∧ iv = .int .i64 j ∧ it = .slice q mq cq ∧ Hid (OwnCC wr w.heap.size wr.heap.size q mq cq (iterT f j i1).1) ∧ Hid (Keep R (R + 1) w wr) ∧ Hid (RdIn wr R p c xs (iterT f j i1).2)) (fun _ iv _ => nn - (intOf iv).toNat)
 case atStart => exact ⟨0, 0, 0, none, Nat.zero_le _, rfl, rfl, rfl, OwnCC.nil _ _ _, HKA, HRA⟩
 case round =>
  obtain ⟨j, mq, cq, q, hj, rfl, rfl, rfl, HO, HK, HR⟩ := hrel; have hBs : w.heap.size ≤ wr.heap.size := HK.out.size
  by_cases hlt : mq < nn
  ·have HC := HF.out (iterT f mq i1).2 wr HR.out
   go_wp2_with fail; refine HC.mono ?_; rintro e w3 ⟨q3, n3, c3, rfl, ho3, hk3, hR3⟩; have HO3 : Hid (OwnC w3 wr.heap.size q3 n3 c3 (f (iterT f mq i1).2).1) := ho3; have HR3 : Hid (RdIn w3 R p c xs (f (iterT f mq i1).2).2) := hR3; have HK3 : Hid (Keep R (R + 1) w w3) := HK.out.trans hk3; have HOW : Hid (OwnCC w3 w.heap.size wr.heap.size q mq cq (iterT f mq i1).1) := HO.out.keep hk3 (.inr (by omega)); have hU3 : wr.heap.size ≤ w3.heap.size := hk3.size; clear ho3 hR3 hk3 HC; go_wp2_with (at_builtin; refine app_itemU wr.heap.size w3 rfl _ _ rfl w.heap.size q mq cq _ rfl HOW.out hU3 hBs q3 n3 c3 _ HO3.out rfl (by omega) ?_; intro g4 n4 cap4 w4 hown4 hb4 hn4); have HO4 : Hid (OwnCC w4 w.heap.size w4.heap.size (some ⟨g4, 0, none⟩) n4 cap4 (iterT f (mq + 1) i1).1) := hown4; have hbA : Below w.heap.size w3 w4 := ((Below.refl _ _).alloc (Nat.le_trans hBs hU3) _).trans hb4; have HK4 : Hid (Keep R (R + 1) w w4) := HK3.out.on_below hbA
   have HR4 : Hid (RdIn w4 R p c xs (iterT f (mq + 1) i1).2) := HR3.out.below hbA hRw; have hn4' : n4 = mq + 1 := hn4.out; clear hown4 hb4 hbA hn4; subst hn4'; go_roundw
   case rel => exact ⟨mq + 1, mq + 1, cap4, _, by omega, rfl, by go_num, rfl, HO4, HK4, HR4⟩
   case measure => simp [intOf]; omega
  ·obtain rfl : mq = nn := by omega
   go_wp2_with fail; refine (l4name_any R c (iterT f mq i1).2 p xs wr HR.out).mono ?_; rintro e w5 ⟨g5, n5, c5, rfl, hn5, hk5, hR5, hg5, ht5⟩
   obtain ⟨s, es⟩ : ∃ s, s = numsU (nameAt (rdI xs (iterT f mq i1).2).toNat) := ⟨_, rfl⟩
   rw [← es] at hn5 ht5
   have HW : Hid (res = ((3, (mq : Int), s) :: (iterT f mq i1).1.flatten, rdN xs (iterT f mq i1).2)) := by rw [es]; exact HV.out
   have hcv : (convert 22 9 (.slice (some ⟨g5, 0, none⟩) n5 c5)).run Tryz.prog w5 = .ok (.string (strOfNums s)) w5 := conv_str ht5.bin n5 c5 ht5.1 9 Tryz.underlying9
   have hbs : Byte s := by rw [es]; exact byte_numsU _
   obtain ⟨gr, eg, hrows⟩ := (HO.out.keep hk5 (.inr (by omega))).rows (by rw [iterT_len]; omega) (fun j hj => (iterT_at f (P := fun cs => 0 < cs.length ∧ cs.length + tl cs ≤ 100000) (fun i => (HSF.out i).few HM0.out) mq i1 j (by rw [iterT_len] at hj; exact hj))); subst eg; have HL := l2comp_any s hbs gr mq cq (iterT f mq i1).1 w5 (iterT_len f mq i1).symm (by omega) hrows; have HK5 : Hid (Keep R (R + 1) w w5) := HK.out.trans hk5; have HR5 : Hid (RdIn w5 R p c xs (rdN xs (iterT f mq i1).2)) := hR5; clear hk5 hR5 hg5 ht5 hrows hbs es hn5; go_wp2_with fail; refine HL.mono ?_; rintro e w7 ⟨q7, n7, c7, rfl, ho7, hb7⟩; have FIN : Hid _ := TermOut.of HK5.out HR5.out ho7 hb7; clear ho7 hb7 HL; go_wp2_with fail; go_ret; rw [HW.out]; exact FIN.out
theorem str_made (w : World) (L : List (List UInt8)) (t : TypeId) (i : Nat) (h : i < L.length) : (w.alloc (.cells (L.map strV).toArray t)).cell? ⟨w.heap.size, i, none⟩ = some (.string (strOfNums (numsU (L.getD i [])))) := by
 rw [cell_lit w (L.map strV) t i (by rw [List.length_map]; exact h)]; simp only [List.getElem_map, List.getD, List.getElem?_eq_getElem h, strOf_numsU]; rfl
theorem OwnC.keepR {w w' : World} {B R : Nat} {p : Option Addr} {n c : Nat} {cs : List Cel} (h : OwnC w B p n c cs) (hk : Keep R (R + 1) w w') (hR : R < B) : OwnC w' B p n c cs := by
 obtain ⟨rfl, rs, hl, hr, hf, ha⟩ := h; refine ⟨rfl, rs, hl, ⟨hr.1, ?_⟩, fun i hi => ⟨(hf i hi).1, (hf i hi).2.1, (hf i hi).2.2.other hk.size (fun g hn e => ?_)⟩, ha⟩
 ·rcases hr.2 with h' | ⟨g, cap, cur, hv, hB, hg, r⟩
  ·exact .inl h'
  ·exact .inr ⟨g, cap, cur, hv, hB, (hk.block g (Array.getElem?_eq_some_iff.1 hg).1 (.inr (by omega))).trans hg, r⟩
 ·obtain ⟨g', e', hB, hlt, _⟩ := (hf i hi).2.2.2 hn
  rw [e] at e'
  cases e'
  exact hk.block g hlt (.inr (by omega))
theorem one_made (s : List Int) (hs : Byte s) (w : World) {m B n c : Nat} {q : Option Addr} {cs : List Cel} (ho : OwnC w B q n c cs) (hc : Sml m cs) (hm : m ≤ 600) :
  Calls Tryz.prog 114 #[.string (strOfNums s), .slice (some ⟨w.heap.size, 0, none⟩) 1 1] (w.alloc (.cells #[.slice q n c] 23)) fun e w' => ∃ q m c2, e = .returned (.slice q m c2) ∧ OwnC w' w.heap.size q m c2 ((3, 1, s) :: cs) ∧ Below w.heap.size w w' := by
 have hb : Below w.heap.size w (w.alloc (.cells #[.slice q n c] 23)) := (Below.refl _ _).alloc (Nat.le_refl _) _; have hx := l2comp_any s hs w.heap.size 1 1 [cs] (w.alloc (.cells #[.slice q n c] 23)) rfl (by decide) (rows_one (q := q) (c := c) (by rw [← ho.1]; exact cell_of_row _ _ 0 _ _ _ (heap_alloc_new w _)) (ho.cin.below hb) hc.pos (hc.few hm).2); refine hx.mono ?_; rintro e w' ⟨q', m', c', he, ho', hb'⟩; refine ⟨q', m', c', he, ?_, Below.on hb hb'⟩; have := ho'.mono (B' := w.heap.size) (by simp)
 simpa using this
set_option maxHeartbeats 4000000 in
theorem term_two (R c i m0 : Nat) (p : Option Addr) (xs : List Int) (D : Int) (f g : Nat → List Cel × Nat) (w : World) (h : RdIn w R p c xs i) (hD : -10 ≤ D ∧ D ≤ 10) (hc : 0 < D) (hF : TermK R c p xs (D - 1) f) (hG : TermK R c p xs (D - 2) g) (hm0 : m0 ≤ 600) (hf : ∀ i, Sml m0 (f i).1) (hg : ∀ i, Sml m0 (g i).1) (h0 : ¬ rdN xs i = xs.length) (h50 : ¬ (rdI xs i).toNat < 50) (h90 : ¬ (rdI xs i).toNat < 90) (h180 : (rdI xs i).toNat < 180) :
  Calls Tryz.prog 39 #[.pointer (some ⟨R, 0, none⟩), .int .i64 D] w (TermOut w R p c xs (nodeT xs f g i)) := by
 have HH : Hid (RdIn w R p c xs i) := h; have HF : Hid (TermK R c p xs (D - 1) f) := hF; have HG : Hid (TermK R c p xs (D - 2) g) := hG; have HSF : Hid (∀ i, Sml m0 (f i).1) := hf; have HSG : Hid (∀ i, Sml m0 (g i).1) := hg; have HM0 : Hid (m0 ≤ 600) := hm0; have hr := rdI_rng h.bytes i; have hle := rdN_le h.le; have hsm := h.small; have hRw : R < w.heap.size := h.lt; have hr1 := rdI_rng h.bytes (rdN xs i)
 have HNT : Hid (nodeT xs f g i = ((3, 2, numsU (binU.getD ((rdI xs (rdN xs i)).toNat % 17) [])) :: ((f (rdN xs (rdN xs i))).1 ++ (f (f (rdN xs (rdN xs i))).2).1), (f (f (rdN xs (rdN xs i))).2).2)) := by
  show _ = _
  unfold nodeT
  simp only; rw [if_neg (by intro hh; rcases hh with hh | hh; exact h0 hh; exact h50 hh), if_neg h90, if_pos h180]
 obtain ⟨n, en⟩ : ∃ n, n = xs.length := ⟨_, rfl⟩
 rw [← en] at hle hsm h0; have HEN : Hid (n = xs.length) := en
 obtain ⟨i1, ei⟩ : ∃ i1, i1 = rdN xs i := ⟨_, rfl⟩
 rw [← ei] at hle hr1 h0; rw [← ei] at HNT; have HEI : Hid (i1 = rdN xs i) := ei; have hd : decide (D ≤ 0) = false := decide_eq_false (by omega)
 obtain ⟨res, er⟩ : ∃ res, res = nodeT xs f g i := ⟨_, rfl⟩
 rw [← er]; have HER : Hid (res = nodeT xs f g i) := er; clear h en ei hF hG hf hg hm0 er
 go_enter Tryz.func39, Tryz.ntmps39
 go_wp2_with fail; refine (next_any R c i p xs w HH.out).mono ?_; rintro e w2 ⟨rfl, hk2, hs2, hR2⟩; have HK2 : Hid (Keep R (R + 1) w w2) := hk2
 have HR2 : Hid (RdIn w2 R p c xs i1) := by rw [HEI.out]; exact hR2
 obtain ⟨x, ex⟩ : ∃ x : Nat, rdI xs i = x := ⟨(rdI xs i).toNat, by omega⟩
 have hxt : (rdI xs i).toNat = x := by rw [ex]; exact Int.toNat_natCast x
 rw [hxt] at h50 h90 h180; rw [ex] at hr ⊢; have hx50 : decide ((x : Int) < 50) = false := decide_eq_false (by omega); clear hk2 hs2 hR2 ex hxt; go_wp2_with fail; refine (left_any R c i1 p xs w2 HR2.out).mono ?_; rintro e wL ⟨rfl, hbL⟩; have HRL : Hid (RdIn wL R p c xs i1) := HR2.out.grow hbL; have HKL : Hid (Keep R (R + 1) w wL) := HK2.out.trans (Keep.of_below hbL); rw [← HEN.out]
 obtain ⟨lf, el⟩ : ∃ lf, lf = n - i1 := ⟨_, rfl⟩
 rw [← el]
 have hlf : lf ≤ 500 := by omega
 have hz0 : ((lf : Int) == 0) = false := by simp; omega
 clear hbL el; have hx90 : decide ((x : Int) < 90) = false := decide_eq_false (by omega); have hx180 : decide ((x : Int) < 180) = true := decide_eq_true (by omega)
 obtain ⟨y, ey⟩ : ∃ y : Nat, rdI xs i1 = y := ⟨(rdI xs i1).toNat, by omega⟩
 have hy : y < 256 := by omega
 obtain ⟨z, ez⟩ : ∃ z, z = y % 17 := ⟨_, rfl⟩
 have hz : z < 17 := by omega
 have hzi : (0 : Int) ≤ (z : Int) := by omega
 have hzj : (z : Int) < 17 := by omega
 have hzn : (z : Int).toNat = z := Int.toNat_natCast z
 have hwrp : IntKind.i64.wrap (D - 1) = D - 1 := by rw [IntKind.wrap_i64]; omega
 have hmz : (y : Int).tmod 17 = (z : Int) := by rw [ez, Int.tmod_eq_emod_of_nonneg (by omega)]; rfl
 obtain ⟨sN, es⟩ : ∃ s, s = numsU (binU.getD z []) := ⟨_, rfl⟩
 have HBS : Hid (Byte sN) := by rw [es]; exact byte_numsU _
 obtain ⟨i2, ei2⟩ : ∃ i2, i2 = rdN xs i1 := ⟨_, rfl⟩
 have HV : Hid (res = ((3, 2, sN) :: ((f i2).1 ++ (f (f i2).2).1), (f (f i2).2).2)) := by
  show _ = _
  rw [HER.out, HNT.out, ey, Int.toNat_natCast, ← ez, ← es, ← ei2]
 obtain ⟨wB, eB⟩ : ∃ wB, wB = wL.alloc (.cells (binU.map strV).toArray 9) := ⟨_, rfl⟩
 obtain ⟨wA, eA⟩ : ∃ wA, wA = wB.alloc (.cells (unaU.map strV).toArray 9) := ⟨_, rfl⟩
 have hsB : wB.heap.size = wL.heap.size + 1 := by rw [eB]; simp
 have hbB : Below wL.heap.size wL wB := by rw [eB]; exact (Below.refl _ _).alloc (Nat.le_refl _) _
 have hbA0 : Below wB.heap.size wB wA := by rw [eA]; exact (Below.refl _ _).alloc (Nat.le_refl _) _
 have hbA : Below wL.heap.size wL wA := Below.on hbB hbA0
 have hcell : wA.cell? ⟨wL.heap.size, z, none⟩ = some (.string (strOfNums sN)) := by
  have h1 := str_made wL binU 9 z hz; rw [← eB, ← es] at h1; exact (hbA0.cell (p := ⟨wL.heap.size, z, none⟩) (by show wL.heap.size < _; omega)).trans h1
 have HKA : Hid (Keep R (R + 1) w wA) := HKL.out.trans (Keep.of_below hbA)
 have HRA : Hid (∀ k, RdIn (wA.drewN k) R p c xs i1) := fun k => (HRL.out.grow hbA).grow (below_drewN (Below.refl _ _) k)
 have HKAd : Hid (∀ k, Keep R (R + 1) w (wA.drewN k)) := fun k => HKA.out.trans (Keep.of_below (below_drewN (Below.refl _ _) k))
 have HRbt : Hid (R < wL.heap.size) := Nat.lt_of_lt_of_le hRw (Nat.le_trans HKL.out.size (by omega))
 have HCA : Hid (∀ k, (wA.drewN k).cell? ⟨wL.heap.size, z, none⟩ = some (.string (strOfNums sN))) := fun k => hcell
 have HN : Hid (∀ W, RdIn W R p c xs i1 → Calls Tryz.prog 19 #[.pointer (some ⟨R, 0, none⟩)] W fun e w' => e = .returned (.int .i64 (y : Int)) ∧ Keep R (R + 1) W w' ∧ w'.heap.size = W.heap.size ∧ RdIn w' R p c xs i2) := fun W hW => by
  have := next_any R c i1 p xs W hW; rw [ey, ← ei2] at this; exact this
 have tok0 : True := trivial; rw [eB] at eA
 have eA' : wA = (wL.alloc (Obj.cells #[.string ⟨#[45]⟩, .string ⟨#[43]⟩, .string ⟨#[61]⟩, .string ⟨#[44]⟩, .string ⟨#[58, 45]⟩, .string ⟨#[59]⟩, .string ⟨#[45, 62]⟩, .string ⟨#[105, 115]⟩, .string ⟨#[94]⟩, .string ⟨#[42, 42]⟩, .string ⟨#[42]⟩, .string ⟨#[64, 64]⟩, .string ⟨#[109, 111, 100]⟩, .string ⟨#[102]⟩, .string ⟨#[45, 45, 62]⟩, .string ⟨#[114]⟩, .string ⟨#[113]⟩] 9)).alloc (Obj.cells #[.string ⟨#[45]⟩, .string ⟨#[92, 43]⟩, .string ⟨#[58, 45]⟩, .string ⟨#[43]⟩, .string ⟨#[123, 125]⟩, .string ⟨#[100, 121, 110, 97, 109, 105, 99]⟩, .string ⟨#[103]⟩, .string ⟨#[92]⟩, .string ⟨#[112]⟩, .string ⟨#[64, 64]⟩, .string ⟨#[91, 93]⟩, .string ⟨#[33]⟩] 9) := by rw [eA]; rfl
 have hszL : R < wL.heap.size := Nat.lt_of_lt_of_le hRw HKL.out.size; clear h50 hbA hbB hbA0 HNT HER ey ez es ei2 eB eA h90 h180; clear hsB; go_wp2_with fail; rw [← eA']; clear eA'
 go_region_held3 (fun W => W.cell? ⟨wL.heap.size, z, none⟩ = some (.string (strOfNums sN))) (first | exact kk | exact hcell | go_keep)
  (first
    | (have _t := tok0; go_at_call 19; refine Calls.mono (HN.out _ (HRA.out 1)) ?_; rintro e w3 ⟨rfl, hk3, hs3, hR3⟩; have HK3 : Hid (Keep R (R + 1) w w3) := (HKAd.out 1).trans hk3; have HR3 : Hid (RdIn w3 R p c xs i2) := hR3; have kk : w3.cell? ⟨wL.heap.size, z, none⟩ = some (.string (strOfNums sN)) := hk3.cell (HCA.out 1) (.inr HRbt.out); have HC3 : Hid (w3.cell? ⟨wL.heap.size, z, none⟩ = some (.string (strOfNums sN))) := kk; clear hk3 hs3 hR3 tok0; have tok1 : True := trivial)
    | (have _t := tok1; go_at_call 39; refine Calls.mono (HF.out i2 w3 HR3.out) ?_; rintro e w4 ⟨q4, n4, c4, rfl, ho4, hk4, hR4⟩; have HK4 : Hid (Keep R (R + 1) w w4) := HK3.out.trans hk4; have HR4 : Hid (RdIn w4 R p c xs (f i2).2) := hR4; have HO4 : Hid (OwnC w4 w3.heap.size q4 n4 c4 (f i2).1) := ho4; have kk : w4.cell? ⟨wL.heap.size, z, none⟩ = some (.string (strOfNums sN)) := hk4.cell HC3.out (.inr HRbt.out); have HC4 : Hid (w4.cell? ⟨wL.heap.size, z, none⟩ = some (.string (strOfNums sN))) := kk; clear hk4 ho4 hR4 tok1; have tok2 : True := trivial)
    | (have _t := tok2; go_at_call 39; refine Calls.mono (HF.out (f i2).2 w4 HR4.out) ?_; rintro e w5 ⟨q5, n5, c5, rfl, ho5, hk5, hR5⟩; have HK5 : Hid (Keep R (R + 1) w w5) := HK4.out.trans hk5; have HR5 : Hid (RdIn w5 R p c xs (f (f i2).2).2) := hR5; have HL := l2pair_any sN HBS.out q4 q5 n4 n5 c4 c5 (f i2).1 (f (f i2).2).1 w5 HO4.out.1 ho5.1 (HO4.out.keepR hk5 (Nat.le_trans (by have := hRw; have := HK3.out.size; omega) (Nat.le_refl _))).cin ho5.cin (HSF.out _).pos (HSF.out _).pos ((HSF.out _).few HM0.out).2 ((HSF.out _).few HM0.out).2; have HLH : Hid _ := HL; have kk : w5.cell? ⟨wL.heap.size, z, none⟩ = some (.string (strOfNums sN)) := hk5.cell HC4.out (.inr HRbt.out); clear hk5 ho5 hR5 tok2 HL; have tok3 : True := trivial)
    | (have _t := tok3; go_at_call 113; refine Calls.mono HLH.out ?_; rintro e w6 ⟨q6, n6, c6, rfl, ho6, hb6⟩; have FIN : Hid _ := TermOut.of HK5.out HR5.out ho6 hb6; have kk : w6.cell? ⟨wL.heap.size, z, none⟩ = some (.string (strOfNums sN)) := (hb6.cell (World.block_lt_of_cell? _ _ kk)).trans kk; clear ho6 hb6 tok3))
 rename_i hheld; clear hheld
 clear kk; go_wp2_with fail; go_ret; rw [HV.out]; exact FIN.out
set_option maxHeartbeats 4000000 in
theorem term_one (R c i m0 : Nat) (p : Option Addr) (xs : List Int) (D : Int) (f g : Nat → List Cel × Nat) (w : World) (h : RdIn w R p c xs i) (hD : -10 ≤ D ∧ D ≤ 10) (hc : 0 < D) (hF : TermK R c p xs (D - 1) f) (hG : TermK R c p xs (D - 2) g) (hm0 : m0 ≤ 600) (hf : ∀ i, Sml m0 (f i).1) (hg : ∀ i, Sml m0 (g i).1) (h0 : ¬ rdN xs i = xs.length) (h50 : ¬ (rdI xs i).toNat < 50) (h180 : ¬ (rdI xs i).toNat < 180) (h230 : (rdI xs i).toNat < 230) :
  Calls Tryz.prog 39 #[.pointer (some ⟨R, 0, none⟩), .int .i64 D] w (TermOut w R p c xs (nodeT xs f g i)) := by
 have HH : Hid (RdIn w R p c xs i) := h; have HF : Hid (TermK R c p xs (D - 1) f) := hF; have HG : Hid (TermK R c p xs (D - 2) g) := hG; have HSF : Hid (∀ i, Sml m0 (f i).1) := hf; have HSG : Hid (∀ i, Sml m0 (g i).1) := hg; have HM0 : Hid (m0 ≤ 600) := hm0; have hr := rdI_rng h.bytes i; have hle := rdN_le h.le; have hsm := h.small; have hRw : R < w.heap.size := h.lt; have hr1 := rdI_rng h.bytes (rdN xs i)
 have HNT : Hid (nodeT xs f g i = ((3, 1, numsU (unaU.getD ((rdI xs (rdN xs i)).toNat % 12) [])) :: (f (rdN xs (rdN xs i))).1, (f (rdN xs (rdN xs i))).2)) := by
  show _ = _
  unfold nodeT
  simp only; rw [if_neg (by intro hh; rcases hh with hh | hh; exact h0 hh; exact h50 hh), if_neg (by omega), if_neg h180, if_pos h230]
 obtain ⟨n, en⟩ : ∃ n, n = xs.length := ⟨_, rfl⟩
 rw [← en] at hle hsm h0; have HEN : Hid (n = xs.length) := en
 obtain ⟨i1, ei⟩ : ∃ i1, i1 = rdN xs i := ⟨_, rfl⟩
 rw [← ei] at hle hr1 h0; rw [← ei] at HNT; have HEI : Hid (i1 = rdN xs i) := ei; have hd : decide (D ≤ 0) = false := decide_eq_false (by omega)
 obtain ⟨res, er⟩ : ∃ res, res = nodeT xs f g i := ⟨_, rfl⟩
 rw [← er]; have HER : Hid (res = nodeT xs f g i) := er; clear h en ei hF hG hf hg hm0 er
 go_enter Tryz.func39, Tryz.ntmps39
 go_wp2_with fail; refine (next_any R c i p xs w HH.out).mono ?_; rintro e w2 ⟨rfl, hk2, hs2, hR2⟩; have HK2 : Hid (Keep R (R + 1) w w2) := hk2
 have HR2 : Hid (RdIn w2 R p c xs i1) := by rw [HEI.out]; exact hR2
 obtain ⟨x, ex⟩ : ∃ x : Nat, rdI xs i = x := ⟨(rdI xs i).toNat, by omega⟩
 have hxt : (rdI xs i).toNat = x := by rw [ex]; exact Int.toNat_natCast x
 rw [hxt] at h50 h180 h230; rw [ex] at hr ⊢; have hx50 : decide ((x : Int) < 50) = false := decide_eq_false (by omega); clear hk2 hs2 hR2 ex hxt; go_wp2_with fail; refine (left_any R c i1 p xs w2 HR2.out).mono ?_; rintro e wL ⟨rfl, hbL⟩; have HRL : Hid (RdIn wL R p c xs i1) := HR2.out.grow hbL; have HKL : Hid (Keep R (R + 1) w wL) := HK2.out.trans (Keep.of_below hbL); rw [← HEN.out]
 obtain ⟨lf, el⟩ : ∃ lf, lf = n - i1 := ⟨_, rfl⟩
 rw [← el]
 have hlf : lf ≤ 500 := by omega
 have hz0 : ((lf : Int) == 0) = false := by simp; omega
 clear hbL el; have hx90 : decide ((x : Int) < 90) = false := decide_eq_false (by omega); have hx180 : decide ((x : Int) < 180) = false := decide_eq_false (by omega); have hx230 : decide ((x : Int) < 230) = true := decide_eq_true (by omega)
 obtain ⟨y, ey⟩ : ∃ y : Nat, rdI xs i1 = y := ⟨(rdI xs i1).toNat, by omega⟩
 have hy : y < 256 := by omega
 obtain ⟨z, ez⟩ : ∃ z, z = y % 12 := ⟨_, rfl⟩
 have hz : z < 12 := by omega
 have hzi : (0 : Int) ≤ (z : Int) := by omega
 have hzj : (z : Int) < 12 := by omega
 have hzn : (z : Int).toNat = z := Int.toNat_natCast z
 have hwrp : IntKind.i64.wrap (D - 1) = D - 1 := by rw [IntKind.wrap_i64]; omega
 have hmz : (y : Int).tmod 12 = (z : Int) := by rw [ez, Int.tmod_eq_emod_of_nonneg (by omega)]; rfl
 obtain ⟨sN, es⟩ : ∃ s, s = numsU (unaU.getD z []) := ⟨_, rfl⟩
 have HBS : Hid (Byte sN) := by rw [es]; exact byte_numsU _
 obtain ⟨i2, ei2⟩ : ∃ i2, i2 = rdN xs i1 := ⟨_, rfl⟩
 have HV : Hid (res = ((3, 1, sN) :: (f i2).1, (f i2).2)) := by
  show _ = _
  rw [HER.out, HNT.out, ey, Int.toNat_natCast, ← ez, ← es, ← ei2]
 obtain ⟨wB, eB⟩ : ∃ wB, wB = wL.alloc (.cells (binU.map strV).toArray 9) := ⟨_, rfl⟩
 obtain ⟨wA, eA⟩ : ∃ wA, wA = wB.alloc (.cells (unaU.map strV).toArray 9) := ⟨_, rfl⟩
 have hsB : wB.heap.size = wL.heap.size + 1 := by rw [eB]; simp
 have hbB : Below wL.heap.size wL wB := by rw [eB]; exact (Below.refl _ _).alloc (Nat.le_refl _) _
 have hbA0 : Below wB.heap.size wB wA := by rw [eA]; exact (Below.refl _ _).alloc (Nat.le_refl _) _
 have hbA : Below wL.heap.size wL wA := Below.on hbB hbA0
 have hcell : wA.cell? ⟨wL.heap.size + 1, z, none⟩ = some (.string (strOfNums sN)) := by
  have h1 := str_made wB unaU 9 z hz; rw [← eA, ← es, hsB] at h1; exact h1
 have HKA : Hid (Keep R (R + 1) w wA) := HKL.out.trans (Keep.of_below hbA)
 have HRA : Hid (∀ k, RdIn (wA.drewN k) R p c xs i1) := fun k => (HRL.out.grow hbA).grow (below_drewN (Below.refl _ _) k)
 have HKAd : Hid (∀ k, Keep R (R + 1) w (wA.drewN k)) := fun k => HKA.out.trans (Keep.of_below (below_drewN (Below.refl _ _) k))
 have HRbt : Hid (R < wL.heap.size + 1) := Nat.lt_of_lt_of_le hRw (Nat.le_trans HKL.out.size (by omega))
 have HCA : Hid (∀ k, (wA.drewN k).cell? ⟨wL.heap.size + 1, z, none⟩ = some (.string (strOfNums sN))) := fun k => hcell
 have HN : Hid (∀ W, RdIn W R p c xs i1 → Calls Tryz.prog 19 #[.pointer (some ⟨R, 0, none⟩)] W fun e w' => e = .returned (.int .i64 (y : Int)) ∧ Keep R (R + 1) W w' ∧ w'.heap.size = W.heap.size ∧ RdIn w' R p c xs i2) := fun W hW => by
  have := next_any R c i1 p xs W hW; rw [ey, ← ei2] at this; exact this
 have tok0 : True := trivial; rw [eB] at eA
 have eA' : wA = (wL.alloc (Obj.cells #[.string ⟨#[45]⟩, .string ⟨#[43]⟩, .string ⟨#[61]⟩, .string ⟨#[44]⟩, .string ⟨#[58, 45]⟩, .string ⟨#[59]⟩, .string ⟨#[45, 62]⟩, .string ⟨#[105, 115]⟩, .string ⟨#[94]⟩, .string ⟨#[42, 42]⟩, .string ⟨#[42]⟩, .string ⟨#[64, 64]⟩, .string ⟨#[109, 111, 100]⟩, .string ⟨#[102]⟩, .string ⟨#[45, 45, 62]⟩, .string ⟨#[114]⟩, .string ⟨#[113]⟩] 9)).alloc (Obj.cells #[.string ⟨#[45]⟩, .string ⟨#[92, 43]⟩, .string ⟨#[58, 45]⟩, .string ⟨#[43]⟩, .string ⟨#[123, 125]⟩, .string ⟨#[100, 121, 110, 97, 109, 105, 99]⟩, .string ⟨#[103]⟩, .string ⟨#[92]⟩, .string ⟨#[112]⟩, .string ⟨#[64, 64]⟩, .string ⟨#[91, 93]⟩, .string ⟨#[33]⟩] 9) := by rw [eA]; rfl
 have hszL : R < wL.heap.size := Nat.lt_of_lt_of_le hRw HKL.out.size; clear h50 hbA hbB hbA0 HNT HER ey ez es ei2 eB eA h180 h230; clear hsB; go_wp2_with fail; rw [← eA']; clear eA'
 go_region_held3 (fun W => W.cell? ⟨wL.heap.size + 1, z, none⟩ = some (.string (strOfNums sN))) (first | exact kk | exact hcell | go_keep)
  (first
    | (have _t := tok0; go_at_call 19; refine Calls.mono (HN.out _ (HRA.out 1)) ?_; rintro e w3 ⟨rfl, hk3, hs3, hR3⟩; have HK3 : Hid (Keep R (R + 1) w w3) := (HKAd.out 1).trans hk3; have HR3 : Hid (RdIn w3 R p c xs i2) := hR3; have kk : w3.cell? ⟨wL.heap.size + 1, z, none⟩ = some (.string (strOfNums sN)) := hk3.cell (HCA.out 1) (.inr HRbt.out); have HC3 : Hid (w3.cell? ⟨wL.heap.size + 1, z, none⟩ = some (.string (strOfNums sN))) := kk; clear hk3 hs3 hR3 tok0; have tok1 : True := trivial)
    | (have _t := tok1; go_at_call 39; refine Calls.mono (HF.out i2 w3 HR3.out) ?_; rintro e w4 ⟨q4, n4, c4, rfl, ho4, hk4, hR4⟩; have HK4 : Hid (Keep R (R + 1) w w4) := HK3.out.trans hk4; have HR4 : Hid (RdIn w4 R p c xs (f i2).2) := hR4; have HO4 : Hid (OwnC w4 w3.heap.size q4 n4 c4 (f i2).1) := ho4; have kk : w4.cell? ⟨wL.heap.size + 1, z, none⟩ = some (.string (strOfNums sN)) := hk4.cell HC3.out (.inr HRbt.out); have HC4 : Hid (w4.cell? ⟨wL.heap.size + 1, z, none⟩ = some (.string (strOfNums sN))) := kk; clear hk4 ho4 hR4 tok1; have tok2 : True := trivial)
    | (have _t := tok2; go_at_call 114; refine Calls.mono (one_made sN HBS.out w4 HO4.out (HSF.out i2) HM0.out) ?_; rintro e w6 ⟨q6, n6, c6, rfl, ho6, hb6⟩; have FIN : Hid _ := TermOut.of HK4.out HR4.out ho6 hb6; have kk : w6.cell? ⟨wL.heap.size + 1, z, none⟩ = some (.string (strOfNums sN)) := (hb6.cell (World.block_lt_of_cell? _ _ HC4.out)).trans HC4.out; clear ho6 hb6 tok2))
 rename_i hheld; clear hheld
 clear kk; go_wp2_with fail; go_ret; rw [HV.out]; exact FIN.out
theorem l4term_any (R c : Nat) (p : Option Addr) (xs : List Int) : ∀ (d : Nat) (D : Int), d ≤ 4 → D.toNat = d → -10 ≤ D → TermK R c p xs D (drawT xs d) := by
 have low : ∀ (D : Int), D ≤ 0 → -10 ≤ D → TermK R c p xs D (drawT xs 0) := fun D h1 h2 i w h => term_low R c i p xs D w h ⟨h2, by omega⟩ h1
 have node : ∀ (D : Int) (m : Nat) (f g : Nat → List Cel × Nat), 0 < D → D ≤ 10 → m ≤ 600 → (∀ i, Sml m (f i).1) → (∀ i, Sml m (g i).1) → TermK R c p xs (D - 1) f → TermK R c p xs (D - 2) g → TermK R c p xs D (nodeT xs f g) := by
  intro D m f g h0 h1 hm hf hg hF hG i w h
  by_cases e1 : rdN xs i = xs.length
  ·have := term_end R c i p xs D w h ⟨by omega, h1⟩ h0 e1
   rwa [show leafT xs (rdI xs i).toNat (rdN xs i) = nodeT xs f g i by unfold nodeT; simp only; rw [if_pos (.inl e1)]] at this
  by_cases e2 : (rdI xs i).toNat < 50
  ·have := term_few R c i p xs D w h ⟨by omega, h1⟩ h0 e1 e2
   rwa [show leafT xs (rdI xs i).toNat (rdN xs i) = nodeT xs f g i by unfold nodeT; simp only; rw [if_pos (.inr e2)]] at this
  by_cases e3 : (rdI xs i).toNat < 90
  ·exact term_list R c i m p xs D f g w h ⟨by omega, h1⟩ h0 hF hG hm hf hg e1 e2 e3
  by_cases e4 : (rdI xs i).toNat < 180
  ·exact term_two R c i m p xs D f g w h ⟨by omega, h1⟩ h0 hF hG hm hf hg e1 e2 e3 e4
  by_cases e5 : (rdI xs i).toNat < 230
  ·exact term_one R c i m p xs D f g w h ⟨by omega, h1⟩ h0 hF hG hm hf hg e1 e2 e4 e5
  ·exact term_many R c i m p xs D f g w h ⟨by omega, h1⟩ h0 hF hG hm hf hg e1 e2 e5
 have small : ∀ d, d ≤ 3 → ∀ i, Sml 600 (drawT xs d i).1 := fun d hd i => by
  have h := drawT_sml xs d i; have : 4 ^ d ≤ 4 ^ 3 := Nat.pow_le_pow_right (by decide) hd; exact ⟨h.pos, by have := h.len; omega, h.txt⟩
 intro d
 induction d using Nat.strongRecOn with | _ d ih =>
 match d, ih with
 | 0, _ => exact fun D _ h1 h2 => low D (by omega) h2
 | 1, _ => exact fun D _ h1 h2 => node D 600 _ _ (by omega) (by omega) (Nat.le_refl _) (small 0 (by omega)) (small 0 (by omega)) (low _ (by omega) (by omega)) (low _ (by omega) (by omega))
 | d + 2, ih =>
   intro D hd h1 h2
   exact node D 600 _ _ (by omega) (by omega) (Nat.le_refl _) (small (d + 1) (by omega)) (small d (by omega)) (ih (d + 1) (by omega) (D - 1) (by omega) (by omega) (by omega)) (ih d (by omega) (D - 2) (by omega) (by omega) (by omega))
end
section
open Go Go.RowKit Go.Maps
theorem flat_setN : ∀ (rs : List RC) (i : Nat) (b : Int), i < rs.length → (flat rs).set (i * 3 + 1) (.int .i64 b) = flat (rs.set i ((rs.getD i RC.zero).1, b, (rs.getD i RC.zero).2.2))
 | [], i, b, h => by simp at h
 | x :: rs, 0, b, _ => by simp [flat_cons]
 | x :: rs, i + 1, b, h => by
   have := flat_setN rs i b (by simpa using h); rw [flat_cons, show (i + 1) * 3 + 1 = (i * 3 + 1) + 1 + 1 + 1 by omega]; simp only [List.set_cons_succ, this]
   rfl
theorem OwnC.setN {w : World} {B g n c j : Nat} {cs : List Cel} (h : OwnC w B (some ⟨g, 0, none⟩) n c cs) (hj : j < cs.length) (b : Int) :
  OwnC (w.setCell ⟨g, j * 3 + 1, none⟩ (.int .i64 b)) B (some ⟨g, 0, none⟩) n c (cs.set j ((cs.getD j Cel.none).1, b, (cs.getD j Cel.none).2.2)) := by
 obtain ⟨hn, rs, hl, hr, hf, ha⟩ := h; have h2 := (hr.stored (j * 3 + 1) (.int .i64 b)).1; rw [flat_setN rs j b (by omega)] at h2
 have hat : ∀ i, ((rs.set j ((rs.getD j RC.zero).1, b, (rs.getD j RC.zero).2.2)).getD i RC.zero).2.2 = (rs.getD i RC.zero).2.2 := fun i => by
  rw [rs_set_at _ _ _ _ (by omega)]
  by_cases e : i = j
  ·rw [if_pos e, e]
  ·rw [if_neg e]
 refine ⟨by simpa using hn, _, by simpa using hl, h2, fun i hi => ?_, ⟨fun i hi => ?_, fun i i' hi hi' hne => ?_⟩⟩
 ·have hi' : i < cs.length := by simpa using hi
  rw [cs_set_at _ _ _ _ hj, rs_set_at _ _ _ _ (by omega)]; obtain ⟨q0, q1, q2⟩ := hf i hi'; have q3 := q2.setCell (a := ⟨g, j * 3 + 1, none⟩) (fun hp e' => ha.1 i (by omega) hp e') (.int .i64 b)
  by_cases e : i = j
  ·rw [if_pos e, if_pos e]
   subst e; exact ⟨q0, rfl, q3⟩
  ·rw [if_neg e, if_neg e]
   exact ⟨q0, q1, q3⟩
 ·rw [hat]; exact ha.1 i (by simpa using hi)
 ·rw [hat, hat]; exact ha.2 i i' (by simpa using hi) (by simpa using hi') hne
def renF (ks : List Int) (c : Cel) : Cel := if c.1 = 0 then (c.1, findI ks c.2.1, c.2.2) else c
def mixR (ks : List Int) (cs : List Cel) (j : Nat) : List Cel := (List.range cs.length).map fun i => if i < j then renF ks (cs.getD i Cel.none) else cs.getD i Cel.none
theorem mixR_len (ks : List Int) (cs : List Cel) (j : Nat) : (mixR ks cs j).length = cs.length := by simp [mixR]
theorem mixR_at (ks : List Int) (cs : List Cel) (j i : Nat) (h : i < cs.length) : (mixR ks cs j).getD i Cel.none = if i < j then renF ks (cs.getD i Cel.none) else cs.getD i Cel.none := by
 simp [mixR, List.getD, h]
theorem mixR_zero (ks : List Int) (cs : List Cel) : mixR ks cs 0 = cs := same_cells (mixR_len ..) (fun j hj => by rw [mixR_at _ _ _ _ (by rw [mixR_len] at hj; exact hj), if_neg (Nat.not_lt_zero _)])
theorem mixR_all (ks : List Int) (cs : List Cel) : mixR ks cs cs.length = cs.map (renF ks) := same_cells (by simp [mixR]) (fun j hj => by
 rw [mixR_len] at hj; rw [mixR_at _ _ _ _ hj, if_pos hj]
 simp [List.getD, hj])
theorem mixR_succ (ks : List Int) (cs : List Cel) (j : Nat) (h : j < cs.length) : mixR ks cs (j + 1) = (mixR ks cs j).set j (renF ks (cs.getD j Cel.none)) := same_cells (by simp [mixR]) (fun i hi => by
 rw [mixR_len] at hi; rw [mixR_at _ _ _ _ hi, cs_set_at _ _ _ _ (by rw [mixR_len]; exact h)]
 by_cases e : i = j
 ·subst e; rw [if_pos (by omega), if_pos rfl]
 ·rw [if_neg e, mixR_at _ _ _ _ hi]
  by_cases e2 : i < j
  ·rw [if_pos e2, if_pos (by omega)]
  ·rw [if_neg e2, if_neg (by omega)])
theorem set_selfR (cs : List Cel) (j : Nat) (h : j < cs.length) : cs.set j (cs.getD j Cel.none) = cs := same_cells (by simp) (fun i hi => by
 rw [cs_set_at _ _ _ _ h]
 by_cases e : i = j
 ·rw [if_pos e, e]
 ·rw [if_neg e])
theorem l2renumber_any (p : Option Addr) (n c : Nat) (cs : List Cel) (pl : Option Addr) (nl cl : Nat) (ks : List Int) (w : World) (hn : n = cs.length) (hl : cs.length + tl cs ≤ 10000000) (hin : CIn w p cs) (hnl : nl = ks.length) (hk : nl ≤ 100000) (hli : IIn w pl ks) :
  Calls Tryz.prog 27 #[.slice p n c, .slice pl nl cl] w fun e w' => ∃ q m c2, e = .returned (.slice q m c2) ∧ OwnC w' w.heap.size q m c2 (cs.map (renF ks)) ∧ Below w.heap.size w w' := by
 have HCP := l2copy_any p n c cs w hn hl hin
 have HLI : Hid (IIn w pl ks ∧ nl = ks.length) := ⟨hli, hnl⟩
 have hcl : cs.length ≤ 10000000 := by omega
 clear hin hli hn hnl
 go_enter Tryz.func27, Tryz.ntmps27
 go_wp2_with fail; refine HCP.mono ?_; rintro e w1 ⟨q, m, c2, rfl, ho1, hb1⟩; have HM : Hid (m = cs.length) := ho1.1
 have hm : m ≤ 10000000 := by have := ho1.1; omega
 have HO1 : Hid (OwnC w1 w.heap.size q m c2 cs) := ho1; have HB1 : Hid (Below w.heap.size w w1) := hb1; clear ho1 hb1 HCP; go_wp2_with fail
 go_loopw [6] (fun i wr => ∃ j : Nat, j ≤ m ∧ i = .int .i64 j ∧ Hid (OwnC wr w.heap.size q m c2 (mixR ks cs j)) ∧ Hid (Below w.heap.size w wr)) (fun i _ => m - (intOf i).toNat)
 case atStart => exact ⟨0, Nat.zero_le _, rfl, by rw [mixR_zero]; exact HO1, HB1⟩
 case round =>
  obtain ⟨j, hj, rfl, HO, HB⟩ := hrel
  by_cases hlt : j < m
  ·have hjl : j < cs.length := by rw [← HM.out]; exact hlt
   obtain ⟨hn1, rs, hl1, hr, hf, ha⟩ := HO.out; obtain ⟨g, cap, hv, hbg, hgs⟩ := hr.form (by omega); simp only [Value.slice.injEq, true_and] at hv; obtain ⟨rfl, rfl⟩ := hv; rw [mixR_len] at hl1 hf; obtain ⟨a0, a1, a2⟩ := flat_at rs j (by omega); have d0 := (hr.cellAt (j * 3) (by omega)).trans a0; have d1 := (hr.cellAt (j * 3 + 1) (by omega)).trans a1; have ff := hr.frozenAt (j * 3 + 1); obtain ⟨q0, q1, _⟩ := hf j hjl; rw [mixR_at _ _ _ _ hjl, if_neg (Nat.lt_irrefl j)] at q0 q1; rw [q0] at d0; rw [q1] at d1
   have HSN : Hid (∀ b, OwnC (wr.setCell ⟨g, j * 3 + 1, none⟩ (.int .i64 b)) w.heap.size (some ⟨g, 0, none⟩) m c2 ((mixR ks cs j).set j (((mixR ks cs j).getD j Cel.none).1, b, ((mixR ks cs j).getD j Cel.none).2.2))) := fun b => HO.out.setN (by rw [mixR_len]; exact hjl) b
   have hmj : (mixR ks cs j).getD j Cel.none = cs.getD j Cel.none := by rw [mixR_at _ _ _ _ hjl, if_neg (Nat.lt_irrefl j)]
   rw [hmj] at HSN; have HS1 : Hid _ := mixR_succ ks cs j hjl; have HFD := l2find_any pl nl cl ks (cs.getD j Cel.none).2.1 wr HLI.out.2 (by omega) (HLI.out.1.below HB.out)
   obtain ⟨c0, e0⟩ : ∃ x, x = (cs.getD j Cel.none).1 := ⟨_, rfl⟩
   obtain ⟨c1, e1⟩ : ∃ x, x = (cs.getD j Cel.none).2.1 := ⟨_, rfl⟩
   have HE : Hid (c0 = (cs.getD j Cel.none).1 ∧ c1 = (cs.getD j Cel.none).2.1) := ⟨e0, e1⟩
   rw [← e0] at d0; rw [← e1] at d1 HFD; have HMJ : Hid _ := hmj; clear hn1 hl1 hr hf ha a0 a1 a2 q0 q1 e0 e1 hmj
   by_cases h0 : c0 = 0
   ·subst h0
    obtain ⟨fi, ef⟩ : ∃ fi, fi = findI ks c1 := ⟨_, rfl⟩
    rw [← ef] at HFD; have HFI : Hid (fi = findI ks c1) := ef; clear ef; go_wp2_with fail; refine HFD.mono ?_; rintro e w2 ⟨rfl, rfl⟩; go_wp2_with fail
    have HO2 : Hid (OwnC (w2.setCell ⟨g, j * 3 + 1, none⟩ (.int .i64 fi)) w.heap.size (some ⟨g, 0, none⟩) m c2 (mixR ks cs (j + 1))) := by
     have := HSN.out fi; rw [HS1.out, renF, if_pos HE.out.1.symm, ← HE.out.2, ← HFI.out]; exact this
    go_roundw
    case rel => exact ⟨j + 1, by omega, by go_num, HO2, HB.out.setCell (p := ⟨g, j * 3 + 1, none⟩) hbg _⟩
    case measure => simp [intOf]; omega
   ·have h0' : (c0 == 0) = false := by simpa using h0
    have HO2 : Hid (OwnC wr w.heap.size (some ⟨g, 0, none⟩) m c2 (mixR ks cs (j + 1))) := by
     show OwnC _ _ _ _ _ _
     rw [HS1.out, renF, if_neg (by rw [← HE.out.1]; exact h0), ← HMJ.out, set_selfR _ _ (by rw [mixR_len]; exact hjl)]; exact HO.out
    clear h0; go_wp2_with fail; go_roundw
    case rel => exact ⟨j + 1, by omega, by go_num, HO2, HB⟩
    case measure => simp [intOf]; omega
  ·obtain rfl : j = m := by omega
   go_wp2_with fail; go_ret; refine ⟨_, _, _, rfl, ?_, HB.out⟩; rw [← mixR_all, ← HM.out]; exact HO.out
theorem visits_mem : ∀ (cs : List Cel) (ks : List Int) (c : Cel), c ∈ cs → c.1 = 0 → c.2.1 ∈ visits ks cs
 | [], ks, c, h, _ => by cases h
 | a :: r, ks, c, h, h0 => by
   rcases List.mem_cons.1 h with rfl | h
   ·rw [visits_cons]
    refine (visits_prefix r _).subset ?_; rw [visitL, if_pos h0]; exact putV_mem _ _
   ·exact visits_mem r (visitL ks a) c h h0
theorem ren_same (cs : List Cel) : cs.map (renF (visits [] cs)) = renCells cs := by
 rw [renCells]
 refine List.map_congr_left fun c hc => ?_
 unfold renF renI
 by_cases h0 : c.1 = 0
 ·rw [if_pos h0, if_pos h0, findI, if_pos (visits_mem cs [] c hc h0)]
 ·rw [if_neg h0, if_neg h0]
theorem specRen_any (cs : List Cel) (p : Option Addr) (n cap : Nat) (w : World) (hn : n = cs.length) (hl : cs.length + tl cs ≤ 10000000) (hin : CIn w p cs) :
  Calls Tryz.prog 9 #[.slice p n cap] w fun e w' => ∃ q m c2, e = .returned (.slice q m c2) ∧ OwnC w' w.heap.size q m c2 (if validB cs = true then renCells cs else []) ∧ Below w.heap.size w w' := by
 subst hn; have HV := specValid_any p cap cs w (by omega) hin; have HI : Hid (CIn w p cs) := hin; clear hin
 by_cases hv : validB cs = true
 ·have hlen : cs.length ≤ 2000 := by simp only [validB, Bool.and_eq_true, decide_eq_true_eq] at hv; exact hv.1
  rw [if_pos hv]; rw [hv] at HV; clear hv
  go_enter Tryz.func9, Tryz.ntmps9
  go_wp2_with fail; refine HV.mono ?_; rintro e w1 ⟨rfl, hb1⟩; have HB1 : Hid (Below w.heap.size w w1) := hb1; have HT := l2vars_any p cs.length cap cs w1 rfl (by omega) (HI.out.below hb1); clear hb1 HV; go_wp2_with fail; refine HT.mono ?_; rintro e w2 ⟨q, m, c2, rfl, ho, hb2⟩; have HB2 : Hid (Below w.heap.size w w2) := Below.on HB1.out hb2
  have hmm : m ≤ 100000 := by have := ho.1; have := visits_len cs []; simp at this; omega
  have HRN := l2renumber_any p cs.length cap cs q m c2 (visits [] cs) w2 rfl hl (HI.out.below HB2.out) ho.1 hmm ho.iin; clear ho hb2 HT; go_wp2_with fail; refine HRN.mono ?_; rintro e w3 ⟨q3, m3, c3, rfl, ho3, hb3⟩
  have HO3 : Hid (OwnC w3 w.heap.size q3 m3 c3 (renCells cs)) := by rw [← ren_same]; exact ho3.mono HB2.out.size
  have HB3 : Hid (Below w.heap.size w w3) := Below.on HB2.out hb3; clear ho3 hb3 HRN; go_wp2_with fail; go_ret; exact ⟨_, _, _, rfl, HO3.out, HB3.out⟩
 ·have hv' : validB cs = false := by simpa using hv
  rw [if_neg hv]; rw [hv'] at HV; clear hv hv'
  go_enter Tryz.func9, Tryz.ntmps9
  go_wp2_with (go_at_call 6; refine HV.mono ?_; rintro e w1 ⟨rfl, hb1⟩); go_ret; exact ⟨_, _, _, rfl, OwnC.nil _ _, hb1⟩
end
section
open Go Go.RowKit
theorem flat_setK : ∀ (rs : List RC) (i : Nat) (b : Int), i < rs.length → (flat rs).set (i * 3) (.int .i64 b) = flat (rs.set i (b, (rs.getD i RC.zero).2))
 | [], i, b, h => by simp at h
 | x :: rs, 0, b, _ => by simp [flat_cons]
 | x :: rs, i + 1, b, h => by
   have := flat_setK rs i b (by simpa using h); rw [flat_cons, show (i + 1) * 3 = (i * 3) + 1 + 1 + 1 by omega]; simp only [List.set_cons_succ, this]
   rfl
theorem flat_setT : ∀ (rs : List RC) (i : Nat) (p : Option Addr) (n c : Nat), i < rs.length → (flat rs).set (i * 3 + 2) (.slice p n c) = flat (rs.set i ((rs.getD i RC.zero).1, (rs.getD i RC.zero).2.1, p, n, c))
 | [], i, p, n, c, h => by simp at h
 | x :: rs, 0, p, n, c, _ => by simp [flat_cons]
 | x :: rs, i + 1, p, n, c, h => by
   have := flat_setT rs i p n c (by simpa using h); rw [flat_cons, show (i + 1) * 3 + 2 = (i * 3 + 2) + 1 + 1 + 1 by omega]; simp only [List.set_cons_succ, this]
   rfl
theorem flat_takeD : ∀ (rs : List RC) (m : Nat), (flat rs).take (m * 3) = flat (rs.take m)
 | [], m => by simp [flat]
 | r :: rs, 0 => by simp [flat]
 | r :: rs, m + 1 => by rw [List.take_succ_cons, flat_cons, flat_cons, ← flat_takeD rs m, Nat.succ_mul]; rfl
theorem OwnC.setK {w : World} {B g n c j : Nat} {cs : List Cel} (h : OwnC w B (some ⟨g, 0, none⟩) n c cs) (hj : j < cs.length) (b : Int) :
  OwnC (w.setCell ⟨g, j * 3, none⟩ (.int .i64 b)) B (some ⟨g, 0, none⟩) n c (cs.set j (b, (cs.getD j Cel.none).2)) := by
 obtain ⟨hn, rs, hl, hr, hf, ha⟩ := h; have h2 := (hr.stored (j * 3) (.int .i64 b)).1; rw [flat_setK rs j b (by omega)] at h2
 have hat : ∀ i, ((rs.set j (b, (rs.getD j RC.zero).2)).getD i RC.zero).2.2 = (rs.getD i RC.zero).2.2 := fun i => by
  rw [rs_set_at _ _ _ _ (by omega)]
  by_cases e : i = j
  ·rw [if_pos e, e]
  ·rw [if_neg e]
 refine ⟨by simpa using hn, _, by simpa using hl, h2, fun i hi => ?_, ⟨fun i hi => ?_, fun i i' hi hi' hne => ?_⟩⟩
 ·have hi' : i < cs.length := by simpa using hi
  rw [cs_set_at _ _ _ _ hj, rs_set_at _ _ _ _ (by omega)]; obtain ⟨q0, q1, q2⟩ := hf i hi'; have q3 := q2.setCell (a := ⟨g, j * 3, none⟩) (fun hp e' => ha.1 i (by omega) hp e') (.int .i64 b)
  by_cases e : i = j
  ·rw [if_pos e, if_pos e]
   subst e; exact ⟨rfl, q1, q3⟩
  ·rw [if_neg e, if_neg e]
   exact ⟨q0, q1, q3⟩
 ·rw [hat]; exact ha.1 i (by simpa using hi)
 ·rw [hat, hat]; exact ha.2 i i' (by simpa using hi) (by simpa using hi') hne
theorem OwnC.setT {w : World} {B g n c j M tn tc : Nat} {tp : Option Addr} {s : List Int} {cs : List Cel} (h : OwnC w B (some ⟨g, 0, none⟩) n c cs) (hj : j < cs.length) (hM : B ≤ M) (hg : g < M) (hlow : ∀ rs : List RC, rs.length = cs.length → w.ownsRow B 55 3 (.slice (some ⟨g, 0, none⟩) n c) n (flat rs) → ∀ i, i < rs.length → 0 < (rs.getD i RC.zero).2.2.2.1 → ∀ a, (rs.getD i RC.zero).2.2.1 = some a → a.block < M) (ht : OwnT w M tp tn tc s) :
  OwnC (w.setCell ⟨g, j * 3 + 2, none⟩ (.slice tp tn tc)) B (some ⟨g, 0, none⟩) n c (cs.set j ((cs.getD j Cel.none).1, (cs.getD j Cel.none).2.1, s)) := by
 obtain ⟨hn, rs, hl, hr, hf, ha⟩ := h; have hlw := hlow rs hl hr; have h2 := (hr.stored (j * 3 + 2) (.slice tp tn tc)).1; rw [flat_setT rs j tp tn tc (by omega)] at h2
 have far : ∀ i, i < rs.length → 0 < (rs.getD i RC.zero).2.2.2.1 → 0 < tn → (rs.getD i RC.zero).2.2.1 ≠ tp := fun i hi h0 h1 e => by
  obtain ⟨k, ek, hk, _⟩ := ht.2 h1; have := hlw i hi h0 ⟨k, 0, none⟩ (by rw [e, ek]); simp only at this
  omega
 have far2 : 0 < tn → tp ≠ some ⟨g, 0, none⟩ := fun h1 e => by
  obtain ⟨k, ek, hk, _⟩ := ht.2 h1
  rw [e] at ek; cases ek; omega
 refine ⟨by simpa using hn, _, by simpa using hl, h2, fun i hi => ?_, ⟨fun i hi h0 => ?_, fun i i' hi hi' hne h0 h1 => ?_⟩⟩
 ·have hi' : i < cs.length := by simpa using hi
  rw [cs_set_at _ _ _ _ hj, rs_set_at _ _ _ _ (by omega)]
  by_cases e : i = j
  ·rw [if_pos e, if_pos e]
   obtain ⟨q0, q1, q2⟩ := hf j hj; exact ⟨q0, q1, (ht.mono hM).setCell (a := ⟨g, j * 3 + 2, none⟩) (fun hp e' => far2 hp e') _⟩
  ·rw [if_neg e, if_neg e]
   obtain ⟨q0, q1, q2⟩ := hf i hi'; exact ⟨q0, q1, q2.setCell (a := ⟨g, j * 3 + 2, none⟩) (fun hp e' => ha.1 i (by omega) hp e') _⟩
 ·have hi' : i < rs.length := by simpa using hi
  rw [rs_set_at _ _ _ _ (by omega)] at h0 ⊢
  by_cases e : i = j
  ·rw [if_pos e] at h0 ⊢; exact far2 h0
  ·rw [if_neg e] at h0 ⊢; exact ha.1 i hi' h0
 ·have hi1 : i < rs.length := by simpa using hi
  have hi2 : i' < rs.length := by simpa using hi'
  rw [rs_set_at _ _ _ _ (by omega)] at h0 ⊢; rw [rs_set_at _ _ _ _ (by omega)] at h1 ⊢
  by_cases e : i = j
  ·rw [if_pos e] at h0 ⊢
   rw [if_neg (by omega)] at h1 ⊢
   exact fun e' => far i' hi2 h1 h0 e'.symm
  ·rw [if_neg e] at h0 ⊢
   by_cases e2 : i' = j
   ·rw [if_pos e2] at h1 ⊢
    exact far i hi1 h0 h1
   ·rw [if_neg e2] at h1 ⊢
    exact ha.2 i i' hi1 hi2 hne h0 h1
theorem OwnC.cut {w : World} {B g n c m : Nat} {cs : List Cel} (h : OwnC w B (some ⟨g, 0, none⟩) n c cs) (hm : m ≤ n) : OwnC w B (some ⟨g, 0, none⟩) m c (cs.take m) := by
 obtain ⟨hn, rs, hl, hr, hf, ha⟩ := h
 have hg : ∀ i, i < m → (rs.take m).getD i RC.zero = rs.getD i RC.zero := fun i hi => by rw [List.getD, List.getD, List.getElem?_take_of_lt hi]
 have hc : ∀ i, i < m → (cs.take m).getD i Cel.none = cs.getD i Cel.none := fun i hi => by rw [List.getD, List.getD, List.getElem?_take_of_lt hi]
 have hml : (rs.take m).length = m := by rw [List.length_take]; omega
 refine ⟨by rw [List.length_take]; omega, rs.take m, by rw [List.length_take, List.length_take, hl], ⟨by rw [flat_len, hml], ?_⟩, fun i hi => ?_, fun i hi => ?_, fun i i' hi hi' => ?_⟩
 ·rcases hr.2 with ⟨hv, _⟩ | ⟨g', cap', cur, hv, hB, hg', hnc, hcm, hcs, htk⟩
  ·simp at hv
  ·simp only [Value.slice.injEq, Option.some.injEq, Addr.mk.injEq, and_true, true_and] at hv
   obtain ⟨rfl, rfl⟩ := hv; refine .inr ⟨g, c, cur, rfl, hB, hg', Nat.le_trans hm hnc, hcm, hcs, ?_⟩; rw [← flat_takeD, ← htk, List.take_take]
   congr 1
   omega
 ·have hi' : i < m := by rw [List.length_take] at hi; omega
  rw [hg i hi', hc i hi']; exact hf i (by omega)
 ·have hi' : i < m := by rw [hml] at hi; exact hi
  rw [hg i hi']; exact ha.1 i (by omega)
 ·have h1 : i < m := by rw [hml] at hi; exact hi
  have h2 : i' < m := by rw [hml] at hi'; exact hi'
  rw [hg i h1, hg i' h2]; exact ha.2 i i' (by omega) (by omega)
theorem OwnC.cells {w : World} {B g n c j : Nat} {cs : List Cel} (h : OwnC w B (some ⟨g, 0, none⟩) n c cs) (hj : j < cs.length) : w.cell? ⟨g, j * 3, none⟩ = some (.int .i64 (cs.getD j Cel.none).1) ∧ w.cell? ⟨g, j * 3 + 1, none⟩ = some (.int .i64 (cs.getD j Cel.none).2.1) ∧ (∃ q k d, w.cell? ⟨g, j * 3 + 2, none⟩ = some (.slice q k d)) ∧ ∀ o, w.frozen? ⟨g, o, none⟩ = false := by
 obtain ⟨hn, rs, hl, hr, hf, ha⟩ := h; obtain ⟨f0, f1, f2⟩ := hf j hj; obtain ⟨a0, a1, a2⟩ := flat_at rs j (by omega); refine ⟨by rw [hr.cellAt _ (by omega), a0, f0], by rw [hr.cellAt _ (by omega), a1, f1], ⟨_, _, _, by rw [hr.cellAt _ (by omega), a2]⟩, fun o => hr.frozenAt o⟩
theorem OwnC.cap {w : World} {B n c : Nat} {p : Option Addr} {cs : List Cel} (h : OwnC w B p n c cs) : cs.length ≤ c ∧ c ≤ 9223372036854775807 := by
 obtain ⟨hn, rs, hl, hr, _⟩ := h
 rcases hr.2 with ⟨hv, h0⟩ | ⟨g, cap, cur, hv, _, _, h1, h2, _⟩
 ·simp only [Value.slice.injEq] at hv
  omega
 ·simp only [Value.slice.injEq] at hv
  unfold maxLen at h2
  omega
theorem OwnC.at0 {w : World} {B n c : Nat} {p : Option Addr} {cs : List Cel} (h : OwnC w B p n c cs) (h0 : 0 < cs.length) : ∃ g, p = some ⟨g, 0, none⟩ ∧ B ≤ g ∧ g < w.heap.size := by
 obtain ⟨hn, rs, hl, hr, _⟩ := h; obtain ⟨g, cap, hv, hb, hg⟩ := hr.form (by omega); simp only [Value.slice.injEq] at hv; exact ⟨g, hv.1, hb, hg⟩
theorem OwnC.low {w : World} {B n c : Nat} {p : Option Addr} {cs : List Cel} (h : OwnC w B p n c cs) : ∀ rs : List RC, rs.length = cs.length → w.ownsRow B 55 3 (.slice p n c) n (flat rs) → ∀ i, i < rs.length → 0 < (rs.getD i RC.zero).2.2.2.1 → ∀ a, (rs.getD i RC.zero).2.2.1 = some a → a.block < w.heap.size := by
 obtain ⟨hn, rs0, hl0, hr0, hf, _⟩ := h
 intro rs hl hr i hi h0 a ea
 have e : flat rs = flat rs0 := by
  rcases hr.2 with ⟨hv, hz⟩ | ⟨g, cap, cur, hv, _, hg, _, _, _, htk⟩
  ·have e1 : rs = [] := List.length_eq_zero_iff.1 (by omega)
   have e2 : rs0 = [] := List.length_eq_zero_iff.1 (by omega); rw [e1, e2]
  ·rcases hr0.2 with ⟨hv', hz⟩ | ⟨g', cap', cur', hv', _, hg', _, _, _, htk'⟩
   ·rw [hv] at hv'; simp at hv'
   ·rw [hv] at hv'
    simp only [Value.slice.injEq, Option.some.injEq, Addr.mk.injEq, and_true, true_and] at hv'; obtain ⟨rfl, rfl⟩ := hv'; rw [hg] at hg'
    cases hg'
    rw [← htk, ← htk']
 obtain ⟨_, _, b2⟩ := flat_at rs i hi; obtain ⟨_, _, c2⟩ := flat_at rs0 i (by omega); rw [e, c2] at b2; simp only [Option.some.injEq, Value.slice.injEq] at b2; obtain ⟨q0, q1, q2⟩ := hf i (by omega); obtain ⟨k, ek, _, hk, _⟩ := q2.2 (by omega); rw [b2.1, ea] at ek
 cases ek
 exact hk
structure Kb (B R : Nat) (w w' : World) : Prop where
 os : w'.os = w.os
 tape : w'.tape = w.tape
 output : w'.output = w.output
 size : w.heap.size ≤ w'.heap.size
 block : ∀ k, k < B → k ≠ R → w'.heap[k]? = w.heap[k]?
theorem Kb.of_keep {B R : Nat} {w w' : World} (h : Keep R (R + 1) w w') (hB : B ≤ w.heap.size) : Kb B R w w' := ⟨h.os, h.tape, h.output, h.size, fun k hk hr => h.block k (by omega) (by omega)⟩
theorem Kb.of_below {B R : Nat} {w w' : World} (h : Below B w w') : Kb B R w w' := ⟨h.os, h.tape, h.output, h.size, fun k hk _ => h.block k hk⟩
theorem Kb.trans {B R : Nat} {a b c : World} (h : Kb B R a b) (k : Kb B R b c) : Kb B R a c := ⟨k.os.trans h.os, k.tape.trans h.tape, k.output.trans h.output, Nat.le_trans h.size k.size, fun j hj hr => (k.block j hj hr).trans (h.block j hj hr)⟩
theorem Keep.on_kb {B R : Nat} {w0 w w' : World} (h : Keep R (R + 1) w0 w) (k : Kb B R w w') (hB : w0.heap.size ≤ B) : Keep R (R + 1) w0 w' := ⟨k.os.trans h.os, k.tape.trans h.tape, k.output.trans h.output, Nat.le_trans h.size k.size, fun j hj hp => (k.block j (by omega) (by omega)).trans (h.block j hj hp)⟩
def NumC (cs : List Cel) : Prop := ∀ c ∈ cs, -1000000000000000 ≤ c.2.1 ∧ c.2.1 ≤ 1000000000000000
theorem NumC.app {a b : List Cel} (ha : NumC a) (hb : NumC b) : NumC (a ++ b) := fun c hc => by
 rcases List.mem_append.1 hc with h | h
 ·exact ha c h
 ·exact hb c h
theorem NumC.cons {c : Cel} {b : List Cel} (ha : -1000000000000000 ≤ c.2.1 ∧ c.2.1 ≤ 1000000000000000) (hb : NumC b) : NumC (c :: b) := fun d hd => by
 rcases List.mem_cons.1 hd with rfl | h
 ·exact ha
 ·exact hb d h
theorem NumC.nil : NumC [] := fun c h => by cases h
theorem NumC.flatten {css : List (List Cel)} (h : ∀ j, j < css.length → NumC (css.getD j [])) : NumC css.flatten := fun c hc => by
 obtain ⟨cs, h1, h2⟩ := List.mem_flatten.1 hc; obtain ⟨j, hj, rfl⟩ := List.mem_iff_getElem.1 h1; have := h j hj; rw [List.getD, List.getElem?_eq_getElem hj] at this; exact this c h2
theorem NumC.ls {css : List (List Cel)} {en : List Cel} (h : ∀ j, j < css.length → NumC (css.getD j [])) (he : NumC en) : NumC (lsL css en) := by
 refine NumC.app (fun c hc => ?_) he; obtain ⟨cs, h1, h2⟩ := List.mem_flatMap.1 hc
 rcases List.mem_cons.1 h2 with rfl | h3
 ·simp [dot]
 ·obtain ⟨j, hj, rfl⟩ := List.mem_iff_getElem.1 h1
  have := h j hj; rw [List.getD, List.getElem?_eq_getElem hj] at this; exact this c h3
theorem leafT_num (xs : List Int) (k i : Nat) : NumC (leafT xs k i).1 := by
 unfold leafT
 repeat' split
 all_goals refine NumC.cons ?_ NumC.nil
 ·exact intD_rng _
 ·simp only; omega
 ·simp only; omega
theorem nodeT_num (xs : List Int) (f g : Nat → List Cel × Nat) (hf : ∀ i, NumC (f i).1) (hg : ∀ i, NumC (g i).1) (i : Nat) : NumC (nodeT xs f g i).1 := by
 unfold nodeT
 simp only
 split
 ·exact leafT_num _ _ _
 split
 ·have h : ∀ n i j, j < (iterT f n i).1.length → NumC ((iterT f n i).1.getD j []) := fun n i j hj => iterT_at f hf n i j (by rwa [iterT_len] at hj)
  split
  ·exact NumC.ls (h _ _) (hg _)
  ·exact NumC.ls (h _ _) (NumC.cons (by simp [nilC]) NumC.nil)
 split
 ·exact NumC.cons (by simp) ((hf _).app (hf _))
 split
 ·exact NumC.cons (by simp) (hf _)
 ·exact NumC.cons (by simp only; omega) (NumC.flatten (fun j hj => iterT_at f hf _ _ j (by rwa [iterT_len] at hj)))
theorem drawT_num (xs : List Int) : ∀ (d i : Nat), NumC (drawT xs d i).1
 | 0, i => leafT_num _ _ _
 | 1, i => nodeT_num _ _ _ (drawT_num xs 0) (drawT_num xs 0) i
 | d + 2, i => nodeT_num _ _ _ (drawT_num xs (d + 1)) (drawT_num xs d) i
end
end Go.Proofs.YtdmmchoicngblaaGreatDoor
