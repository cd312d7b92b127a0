/- Texts of OpsG, FtC, FtD, FtE. Own work of the verifier. -/
import Derived.Test.YtfgmenkoeflhaaaGreatDoorUqaz
import Derived.Test.YtfgmenkoeflhaaaGreatDoorUqbh
namespace Go.Proofs.YtfgmenkoeflhaaaGreatDoor
set_option linter.unusedVariables false
set_option maxRecDepth 100000
section
open Go Go.RowKit
theorem tab_dTab : tabB dTab = true := by decide +kernel
theorem dTab_byteF : ∀ i, i < dTab.length → Byte (dTab.getD i Cel.none).2.2 := fun i hi => by
 have h : ∀ x ∈ dTab, ∀ y ∈ x.2.2, 0 ≤ y ∧ y < 256 := by decide +kernel
 rw [List.getD, List.getElem?_eq_getElem hi]; exact h _ (List.getElem_mem hi)
theorem dTab_sizeF : dTab.length + tl dTab ≤ 1000 := by decide +kernel
open Classical in
noncomputable def wrD (cs : List Cel) : List Int := if h : ∃ R, WrIs dTab [] true cs R then Classical.choose h else []
theorem wrD_is {cs : List Cel} (hb : ∀ i, i < cs.length → Byte (cs.getD i Cel.none).2.2) : WrIs dTab [] true cs (wrD cs) ∧ (wrD cs).length ≤ 3000000000 ∧ Byte (wrD cs) := by
 obtain ⟨R, h1, h2, h3⟩ := wr_exB (T := dTab) (N := []) (q := true) (xs := cs) dTab_byteF hb (fun i hi => by simp at hi)
 have he : ∃ R, WrIs dTab [] true cs R := ⟨R, h1⟩
 have hc : wrD cs = R := by
  unfold wrD
  rw [dif_pos he]; exact wr_det (Classical.choose_spec he) h1
 rw [hc]; exact ⟨h1, h2, h3⟩
def valT (cs : List Cel) : List Cel := if validB cs = true then cs else [(2, 0, [97])]
theorem valT_valid (cs : List Cel) : validB (valT cs) = true := by
 unfold valT
 split
 ·assumption
 ·decide +kernel
theorem valT_byte {cs : List Cel} (h : ByteC cs) : ByteC (valT cs) := by
 unfold valT
 split
 ·exact h
 ·intro c hc
  obtain rfl : c = (2, 0, [97]) := by simpa using hc
  intro x hx
  obtain rfl : x = 97 := by simpa using hx
  decide
def repsF (z : List Int) : Nat → List Int
 | 0 => []
 | n + 1 => repsF z n ++ z
theorem repsF_len (z : List Int) : ∀ n, (repsF z n).length = n * z.length
 | 0 => by simp [repsF]
 | n + 1 => by rw [repsF, List.length_append, repsF_len z n, Nat.succ_mul]
theorem repsF_byte {z : List Int} (h : Byte z) : ∀ n, Byte (repsF z n)
 | 0 => byte_nil
 | n + 1 => byte_app (repsF_byte h n) h
theorem rep_byte (n : Nat) {y : Int} (h0 : 0 ≤ y) (h1 : y < 256) : Byte (List.replicate n y) := fun x hx => by
 obtain ⟨_, rfl⟩ := List.mem_replicate.1 hx; exact ⟨h0, h1⟩
noncomputable def srcF (xs : List Int) (i : Nat) : List Int × Nat :=
 if (rdI xs i).toNat % 4 = 0 then soupF xs ((rdI xs (rdN xs i)).toNat % 14) (rdN xs (rdN xs i))
 else if (rdI xs i).toNat % 4 = 1 then (numsU (odtU.getD ((rdI xs (rdN xs i)).toNat % 84) []), rdN xs (rdN xs i))
 else if (rdI xs i).toNat = 250 then ((List.replicate (99 + (rdI xs (rdN xs i)).toNat % 3) 97 ++ [32, 46]) ++ List.replicate (rdI xs (rdN xs (rdN xs i))).toNat 32, rdN xs (rdN xs (rdN xs i)))
 else if (rdI xs i).toNat = 254 then ([97, 46] ++ List.replicate (9997 + (rdI xs (rdN xs i)).toNat % 3) 32, rdN xs (rdN xs i))
 else if (rdI xs i).toNat = 246 then (([102, 40, 49] ++ repsF [44, 49] (18 + (rdI xs (rdN xs i)).toNat % 3)) ++ [41, 46], rdN xs (rdN xs i))
 else if (rdI xs i).toNat = 242 then (([120] ++ repsF [43, 49] (1000 + (rdI xs (rdN xs i)).toNat % 2)) ++ [32, 46], rdN xs (rdN xs i))
 else (wrD (valT (drawT xs 4 (rdN xs i)).1) ++ [32, 46, 10], (drawT xs 4 (rdN xs i)).2)
theorem byte_lit {l : List Int} (h : l.all (fun x => decide (0 ≤ x ∧ x < 256)) = true) : Byte l := fun x hx => of_decide_eq_true (List.all_eq_true.1 h x hx)
theorem srcF_good (xs : List Int) (hb : Bytes xs) (i : Nat) : Byte (srcF xs i).1 ∧ (srcF xs i).1.length ≤ 4000000000 := by
 unfold srcF
 split
 ·exact ⟨soupF_byte _ _ _, by have := soupF_len xs ((rdI xs (rdN xs i)).toNat % 14) (rdN xs (rdN xs i)); omega⟩
 ·split
  ·exact ⟨byte_numsU _, by have := odtU_len ((rdI xs (rdN xs i)).toNat % 84); simp only [numsU, List.length_map]; omega⟩
  ·split
   ·have := (rdI_rng hb (rdN xs (rdN xs i))).2
    exact ⟨byte_app (byte_app (rep_byte _ (by decide) (by decide)) (byte_lit (by decide))) (rep_byte _ (by decide) (by decide)), by simp only [List.length_append, List.length_replicate, List.length_cons, List.length_nil]; omega⟩
   ·split
    ·exact ⟨byte_app (byte_lit (by decide)) (rep_byte _ (by decide) (by decide)), by simp only [List.length_append, List.length_replicate, List.length_cons, List.length_nil]; omega⟩
    ·split
     ·exact ⟨byte_app (byte_app (byte_lit (by decide)) (repsF_byte (byte_lit (by decide)) _)) (byte_lit (by decide)), by simp only [List.length_append, repsF_len, List.length_cons, List.length_nil]; omega⟩
     ·split
      ·exact ⟨byte_app (byte_app (byte_lit (by decide)) (repsF_byte (byte_lit (by decide)) _)) (byte_lit (by decide)), by simp only [List.length_append, repsF_len, List.length_cons, List.length_nil]; omega⟩
      ·obtain ⟨_, h2, h3⟩ := wrD_is (cs := valT (drawT xs 4 (rdN xs i)).1) (valT_byte (drawT_byte xs 4 _)).get
       exact ⟨byte_app h3 (byte_lit (by decide)), by simp only [List.length_append, List.length_cons, List.length_nil]; omega⟩
end
section
open Go Go.RowKit
set_option linter.unusedSimpArgs false
theorem OddOut.since {w w1 w' : World} {R c i' : Nat} {p : Option Addr} {xs ys : List Int} {e : Ending} (h : OddOut w1 R p c xs ys i' e w') (hk : Keep R (R + 1) w w1) : OddOut w R p c xs ys i' e w' := by
 obtain ⟨q, n, cap, e1, ho, hk', hr⟩ := h; exact ⟨q, n, cap, e1, ho.mono hk.size, hk.trans hk', hr⟩
theorem rd_grown {w w' : World} {R c i : Nat} {p : Option Addr} {xs : List Int} {r : Option Nat} (h : RdIn w R p c xs i) (hg : w.grownBy w' r) (hr : ∀ k, r = some k → R < k) : RdIn w' R p c xs i :=
 h.below (B := R + 1) ⟨hg.os, hg.tape, hg.output, hg.size, fun k hk => hg.block k (by have := h.lt; omega) (fun e => by have := hr k e.symm; omega)⟩ (Nat.lt_succ_self _)
theorem own_blk {w : World} {B n c : Nat} {p : Option Addr} {ys : List Int} (h : OwnR w B p n c ys) : ∀ k, Value.ownBlock (.slice p n c) = some k → B ≤ k := fun k hk => by
 obtain ⟨_, g, _, _, rfl, hB, _⟩ := h
 simp [Value.ownBlock] at hk
 omega
structure TxS (W : World) (R : Nat) (pr : Option Addr) (cr : Nat) (xs : List Int) (j : Nat) (w : World) (p : Option Addr) (n c : Nat) (ys : List Int) : Prop where
 own : OwnR w W.heap.size p n c ys
 keep : Keep R (R + 1) W w
 rd : RdIn w R pr cr xs j
theorem TxS.out {W : World} {R : Nat} {pr : Option Addr} {cr : Nat} {xs : List Int} {j : Nat} {w : World} {p : Option Addr} {n c : Nat} {ys : List Int} (h : TxS W R pr cr xs j w p n c ys) : OddOut W R pr cr xs ys j (.returned (.slice p n c)) w := ⟨p, n, c, rfl, h.own, h.keep, h.rd⟩
theorem TxS.app {W : World} {R : Nat} {pr : Option Addr} {cr : Nat} {xs : List Int} {j : Nat} {w : World} {p : Option Addr} {n c : Nat} {ys : List Int} (h : TxS W R pr cr xs j w p n c ys) (hR : R < W.heap.size) {w' : World} {p' : Option Addr} {n' c' : Nat} {ys' : List Int} (ho : OwnR w' W.heap.size p' n' c' ys') (hg : w.grownBy w' (Value.ownBlock (.slice p n c))) : TxS W R pr cr xs j w' p' n' c' ys' :=
 ⟨ho, ⟨h.keep.os.symm ▸ hg.os, h.keep.tape.symm ▸ hg.tape, h.keep.output.symm ▸ hg.output, Nat.le_trans h.keep.size hg.size, fun k hk hor => (hg.block k (Nat.lt_of_lt_of_le hk h.keep.size) (fun e => by have := own_blk h.own k e.symm; omega)).trans (h.keep.block k hk hor)⟩, rd_grown h.rd hg (fun k e => by have := own_blk h.own k e; omega)⟩
theorem TxS.next {W : World} {R : Nat} {pr : Option Addr} {cr : Nat} {xs : List Int} {j j' : Nat} {w w' : World} {p : Option Addr} {n c : Nat} {ys : List Int} (h : TxS W R pr cr xs j w p n c ys) (hR : R < W.heap.size) (hk : Keep R (R + 1) w w') (hr : RdIn w' R pr cr xs j') : TxS W R pr cr xs j' w' p n c ys := ⟨h.own.keep hk (by omega), h.keep.trans hk, hr⟩
theorem TxS.below {W : World} {R : Nat} {pr : Option Addr} {cr : Nat} {xs : List Int} {j : Nat} {w w' : World} {p : Option Addr} {n c : Nat} {ys : List Int} (h : TxS W R pr cr xs j w p n c ys) (hb : Below w.heap.size w w') : TxS W R pr cr xs j w' p n c ys := ⟨h.own.below hb, h.keep.trans (Keep.of_below hb), h.rd.below hb h.rd.lt⟩
set_option maxHeartbeats 4000000 in
theorem src_soup (R c i : Nat) (p : Option Addr) (xs : List Int) (w : World) (h : RdIn w R p c xs i) (hc : (rdI xs i).toNat % 4 = 0) :
 Calls Tryz.prog 10 #[.pointer (some ⟨R, 0, none⟩)] w (OddOut w R p c xs (srcF xs i).1 (srcF xs i).2) := by
 obtain ⟨x, ex, hx, hnx⟩ := nextN R c i p xs w h; rw [ex] at hc
 obtain ⟨i1, ei1⟩ : ∃ i1, i1 = rdN xs i := ⟨_, rfl⟩
 have HS : Hid (srcF xs i = soupF xs ((rdI xs i1).toNat % 14) (rdN xs i1)) := by show _ = _; unfold srcF; rw [ex, ← ei1]; rw [if_pos hc]
 rw [HS.out]; rw [← ei1] at hnx; have HRW : Hid (R < w.heap.size) := h.lt
 have hm : (x : Int).tmod 4 = 0 := by rw [Int.tmod_eq_emod_of_nonneg (by omega)]; omega
 have HN : Hid (∀ W, RdIn W R p c xs i1 → Calls Tryz.prog 22 #[.pointer (some ⟨R, 0, none⟩)] W (OddOut W R p c xs (soupF xs ((rdI xs i1).toNat % 14) (rdN xs i1)).1 (soupF xs ((rdI xs i1).toNat % 14) (rdN xs i1)).2)) := fun W hW => l4soup_any R c i1 p xs W hW
 obtain ⟨Y, eY⟩ : ∃ Y, Y = soupF xs ((rdI xs i1).toNat % 14) (rdN xs i1) := ⟨_, rfl⟩
 rw [← eY] at HN ⊢; clear h hc ex ei1 eY HS
 go_enter Tryz.func10, Tryz.ntmps10
 go_wp2_with fail; refine hnx.mono ?_; rintro e w1 ⟨rfl, hk1, hs1, hR1⟩; have HC := HN.out w1 hR1; have HK1 : Hid (Keep R (R + 1) w w1) := hk1; clear hk1 hs1 hR1 hnx; go_wp2_with fail; refine HC.mono ?_; rintro e w2 hout; have HO : Hid (OddOut w R p c xs Y.1 Y.2 e w2) := hout.since HK1.out; obtain ⟨q, n, cap, rfl, _⟩ := hout; clear HC; go_wp2_with fail; go_ret; exact HO.out
set_option maxHeartbeats 4000000 in
theorem src_odd (R c i : Nat) (p : Option Addr) (xs : List Int) (w : World) (h : RdIn w R p c xs i) (hc : (rdI xs i).toNat % 4 = 1) :
 Calls Tryz.prog 10 #[.pointer (some ⟨R, 0, none⟩)] w (OddOut w R p c xs (srcF xs i).1 (srcF xs i).2) := by
 obtain ⟨x, ex, hx, hnx⟩ := nextN R c i p xs w h; rw [ex] at hc
 obtain ⟨i1, ei1⟩ : ∃ i1, i1 = rdN xs i := ⟨_, rfl⟩
 have HS : Hid (srcF xs i = (numsU (odtU.getD ((rdI xs i1).toNat % 84) []), rdN xs i1)) := by show _ = _; unfold srcF; rw [ex, ← ei1]; rw [if_neg (by omega), if_pos hc]
 rw [HS.out]; rw [← ei1] at hnx; have HRW : Hid (R < w.heap.size) := h.lt
 have hm : (x : Int).tmod 4 = 1 := by rw [Int.tmod_eq_emod_of_nonneg (by omega)]; omega
 have HN : Hid (∀ W, RdIn W R p c xs i1 → Calls Tryz.prog 23 #[.pointer (some ⟨R, 0, none⟩)] W (OddOut W R p c xs (numsU (odtU.getD ((rdI xs i1).toNat % 84) [])) (rdN xs i1))) := fun W hW => l4odd_any R c i1 p xs W hW
 obtain ⟨Y, eY⟩ : ∃ Y, Y = numsU (odtU.getD ((rdI xs i1).toNat % 84) []) := ⟨_, rfl⟩
 rw [← eY] at HN ⊢; clear h hc ex ei1 eY HS
 go_enter Tryz.func10, Tryz.ntmps10
 go_wp2_with fail; refine hnx.mono ?_; rintro e w1 ⟨rfl, hk1, hs1, hR1⟩; have HC := HN.out w1 hR1; have HK1 : Hid (Keep R (R + 1) w w1) := hk1; clear hk1 hs1 hR1 hnx; go_wp2_with fail; refine HC.mono ?_; rintro e w2 hout; have HO : Hid (OddOut w R p c xs Y (rdN xs i1) e w2) := hout.since HK1.out; obtain ⟨q, n, cap, rfl, _⟩ := hout; clear HC; go_wp2_with fail; go_ret; exact HO.out
set_option maxHeartbeats 4000000 in
theorem src_254 (R c i : Nat) (p : Option Addr) (xs : List Int) (w : World) (h : RdIn w R p c xs i) (hc : (rdI xs i).toNat = 254) :
 Calls Tryz.prog 10 #[.pointer (some ⟨R, 0, none⟩)] w (OddOut w R p c xs (srcF xs i).1 (srcF xs i).2) := by
 obtain ⟨x, ex, hx, hnx⟩ := nextN R c i p xs w h; rw [ex] at hc
 obtain ⟨i1, ei1⟩ : ∃ i1, i1 = rdN xs i := ⟨_, rfl⟩
 have HS : Hid (srcF xs i = ([97, 46] ++ List.replicate (9997 + (rdI xs i1).toNat % 3) 32, rdN xs i1)) := by show _ = _; unfold srcF; rw [ex, ← ei1]; rw [if_neg (by omega), if_neg (by omega), if_neg (by omega), if_pos hc]
 rw [HS.out]; rw [← ei1] at hnx; have HRW : Hid (R < w.heap.size) := h.lt
 obtain ⟨y, ey, hy⟩ : ∃ y : Nat, (rdI xs i1).toNat = y ∧ y < 256 := ⟨_, rfl, by have := (rdI_rng h.bytes i1).2; omega⟩
 obtain ⟨i2, ei2⟩ : ∃ i2, i2 = rdN xs i1 := ⟨_, rfl⟩
 rw [ey, ← ei2]
 have HY : Hid (∀ W, RdIn W R p c xs i1 → Calls Tryz.prog 21 #[.pointer (some ⟨R, 0, none⟩)] W fun e w' => e = .returned (.int .i64 (y : Int)) ∧ Keep R (R + 1) W w' ∧ w'.heap.size = W.heap.size ∧ RdIn w' R p c xs i2) := fun W hW => by
  obtain ⟨x', ex', _, h'⟩ := nextN R c i1 p xs W hW; rw [ey] at ex'; rw [← ex', ← ei2] at h'; exact h'
 obtain ⟨m, em⟩ : ∃ m, m = y % 3 := ⟨_, rfl⟩
 have hm : m < 3 := by omega
 have hmod : (y : Int).tmod 3 = (m : Int) := by rw [em, Int.tmod_eq_emod_of_nonneg (by omega)]; rfl
 rw [← em]; subst hc; clear ey ei2 em
 obtain ⟨N, eN⟩ : ∃ N, N = 9997 + m := ⟨_, rfl⟩
 have hadd : (9997 : Int) + (m : Int) = (N : Int) := by omega
 have hN : N ≤ 10000 := by omega
 rw [← eN]
 have HF : Hid (∀ W, Calls Tryz.prog 24 #[.int .u8 32, .int .i64 (N : Int)] W fun e w' => ∃ p n c, e = .returned (.slice p n c) ∧ OwnS w' W.heap.size p n c (List.replicate N 32) ∧ Below W.heap.size W w') := fun W => l4fillG_any 32 N (by omega) W
 clear h ex ei1 HS eN
 go_enter Tryz.func10, Tryz.ntmps10
 go_wp2_with fail; refine hnx.mono ?_; rintro e w1 ⟨rfl, hk1, hs1, hR1⟩
 obtain ⟨w2, ew2⟩ : ∃ W, W = w1.alloc (.cells #[.int .u8 97, .int .u8 46] 5 (2, 3)) := ⟨_, rfl⟩
 have kc : (convert 22 22 (.slice (some ⟨w1.heap.size, 0, none⟩) 2 2)).run Tryz.prog (w1.alloc (.cells #[.int .u8 97, .int .u8 46] 5)) = .ok (.slice (some ⟨w1.heap.size, 0, none⟩) 2 2) w2 := by rw [ew2]; exact Lib.run_convert_bytes_const (P := Tryz.prog) w1 22 5 #[.int .u8 97, .int .u8 46] 2 2 Tryz.underlying22 Tryz.underlying5
 have hb2 : Below w1.heap.size w1 w2 := by rw [ew2]; exact (Below.refl _ _).alloc (Nat.le_refl _) _
 have HT2 : Hid (TxS w R p c xs i1 w2 (some ⟨w1.heap.size, 0, none⟩) 2 2 [97, 46]) := ⟨⟨rfl, w1.heap.size, #[.int .u8 97, .int .u8 46], (2, 3), rfl, by have := hk1.size; omega, by rw [ew2]; exact heap_alloc_new w1 _, .inr (Nat.le_refl _), rfl, Nat.le_refl _, by decide, rfl⟩, hk1.trans (Keep.of_below hb2), hR1.below hb2 hR1.lt⟩
 have HY2 := HY.out w2 (hR1.below hb2 hR1.lt); clear hk1 hs1 hR1 hnx ew2 hb2; go_wp2_with fail; refine HY2.mono ?_; rintro e w3 ⟨rfl, hk3, hs3, hR3⟩
 have HT3 : Hid (TxS w R p c xs i2 w3 (some ⟨w1.heap.size, 0, none⟩) 2 2 [97, 46]) := HT2.out.next HRW.out hk3 hR3
 clear hk3 hs3 hR3 HY2; go_wp2_with fail; refine (HF.out w3).mono ?_; rintro e w4 ⟨q4, n4, c4, rfl, ho4, hb4⟩; have HT4 : Hid (TxS w R p c xs i2 w4 (some ⟨w1.heap.size, 0, none⟩) 2 2 [97, 46]) := HT3.out.below hb4
 have HQ4 : Hid (BIn w4 q4 (List.replicate N 32) ∧ n4 = (List.replicate N (32 : Int)).length) := ⟨ho4.toT.bin, ho4.1⟩
 clear ho4 hb4; go_wp2_with (at_builtin; refine appR_bytes _ rfl _ _ rfl w.heap.size (some ⟨w1.heap.size, 0, none⟩) 2 2 [97, 46] (List.replicate N 32) q4 n4 c4 HQ4.out.2 rfl HT4.out.own rfl HQ4.out.1 (by rw [List.length_replicate]; omega) HT4.out.keep.size ?_; intro p5 n5 c5 w5 ho5 hg5); have HO : Hid _ := (HT4.out.app HRW.out ho5 hg5).out; clear ho5 hg5; go_wp2_with fail; go_ret; exact HO.out
set_option maxHeartbeats 4000000 in
theorem src_246 (R c i : Nat) (p : Option Addr) (xs : List Int) (w : World) (h : RdIn w R p c xs i) (hc : (rdI xs i).toNat = 246) :
 Calls Tryz.prog 10 #[.pointer (some ⟨R, 0, none⟩)] w (OddOut w R p c xs (srcF xs i).1 (srcF xs i).2) := by
 obtain ⟨x, ex, hx, hnx⟩ := nextN R c i p xs w h; rw [ex] at hc
 obtain ⟨i1, ei1⟩ : ∃ i1, i1 = rdN xs i := ⟨_, rfl⟩
 have HS : Hid (srcF xs i = (([102, 40, 49] ++ repsF [44, 49] (18 + (rdI xs i1).toNat % 3)) ++ [41, 46], rdN xs i1)) := by show _ = _; unfold srcF; rw [ex, ← ei1]; rw [if_neg (by omega), if_neg (by omega), if_neg (by omega), if_neg (by omega), if_pos hc]
 rw [HS.out]; rw [← ei1] at hnx; have HRW : Hid (R < w.heap.size) := h.lt
 obtain ⟨y, ey, hy⟩ : ∃ y : Nat, (rdI xs i1).toNat = y ∧ y < 256 := ⟨_, rfl, by have := (rdI_rng h.bytes i1).2; omega⟩
 obtain ⟨i2, ei2⟩ : ∃ i2, i2 = rdN xs i1 := ⟨_, rfl⟩
 rw [ey, ← ei2]
 have HY : Hid (∀ W, RdIn W R p c xs i1 → Calls Tryz.prog 21 #[.pointer (some ⟨R, 0, none⟩)] W fun e w' => e = .returned (.int .i64 (y : Int)) ∧ Keep R (R + 1) W w' ∧ w'.heap.size = W.heap.size ∧ RdIn w' R p c xs i2) := fun W hW => by
  obtain ⟨x', ex', _, h'⟩ := nextN R c i1 p xs W hW; rw [ey] at ex'; rw [← ex', ← ei2] at h'; exact h'
 obtain ⟨m, em⟩ : ∃ m, m = y % 3 := ⟨_, rfl⟩
 have hm : m < 3 := by omega
 have hmod : (y : Int).tmod 3 = (m : Int) := by rw [em, Int.tmod_eq_emod_of_nonneg (by omega)]; rfl
 rw [← em]; subst hc; clear ey ei2 em
 obtain ⟨N, eN⟩ : ∃ N, N = 18 + m := ⟨_, rfl⟩
 have hadd : (18 : Int) + (m : Int) = (N : Int) := by omega
 have hN : N ≤ 1100 := by omega
 rw [← eN]
 have hrl : ∀ k, (repsF [44, 49] k).length = k * 2 := fun k => repsF_len [44, 49] k
 have HRL : Hid _ := hrl; clear h ex ei1 HS eN hrl
 go_enter Tryz.func10, Tryz.ntmps10
 go_wp2_with fail; refine hnx.mono ?_; rintro e w1 ⟨rfl, hk1, hs1, hR1⟩
 obtain ⟨w2, ew2⟩ : ∃ W, W = w1.alloc (.cells #[.int .u8 102, .int .u8 40, .int .u8 49] 5 (3, 3 + 1)) := ⟨_, rfl⟩
 have kc : (convert 22 22 (.slice (some ⟨w1.heap.size, 0, none⟩) 3 3)).run Tryz.prog (w1.alloc (.cells #[.int .u8 102, .int .u8 40, .int .u8 49] 5)) = .ok (.slice (some ⟨w1.heap.size, 0, none⟩) 3 3) w2 := by rw [ew2]; exact Lib.run_convert_bytes_const (P := Tryz.prog) w1 22 5 #[.int .u8 102, .int .u8 40, .int .u8 49] 3 3 Tryz.underlying22 Tryz.underlying5
 have hb2 : Below w1.heap.size w1 w2 := by rw [ew2]; exact (Below.refl _ _).alloc (Nat.le_refl _) _
 have HT2 : Hid (TxS w R p c xs i1 w2 (some ⟨w1.heap.size, 0, none⟩) 3 3 [102, 40, 49]) := ⟨⟨rfl, w1.heap.size, #[.int .u8 102, .int .u8 40, .int .u8 49], (3, 3 + 1), rfl, by have := hk1.size; omega, by rw [ew2]; exact heap_alloc_new w1 _, .inr (Nat.le_refl _), rfl, Nat.le_refl _, by decide, rfl⟩, hk1.trans (Keep.of_below hb2), hR1.below hb2 hR1.lt⟩
 have HY2 := HY.out w2 (hR1.below hb2 hR1.lt); clear hk1 hs1 hR1 hnx ew2 hb2; go_wp2_with fail; refine HY2.mono ?_; rintro e w3 ⟨rfl, hk3, hs3, hR3⟩
 have HT3 : Hid (TxS w R p c xs i2 w3 (some ⟨w1.heap.size, 0, none⟩) 3 3 [102, 40, 49]) := HT2.out.next HRW.out hk3 hR3
 clear hk3 hs3 hR3 HY2; go_wp2_with fail
 go_loopw [4, 6] (fun o v wr => ∃ (k : Nat) (q : Option Addr) (n cc : Nat), k ≤ N ∧ v = .int .i64 k ∧ o = .slice q n cc ∧ Hid (TxS w R p c xs i2 wr q n cc ([102, 40, 49] ++ repsF [44, 49] k))) (fun _ v _ => N - (intOf v).toNat)
 case atStart => exact ⟨0, _, _, _, Nat.zero_le _, rfl, rfl, HT3⟩
 case round =>
  obtain ⟨k, q, n, cc, hk, rfl, rfl, HT⟩ := hrel
  have HL : Hid (n + 2 ≤ 10000) := by have h1 := HT.out.own.1; rw [List.length_append, HRL.out k] at h1; show _ ≤ _; simp at h1; omega
  by_cases hlt : k < N
  ·go_wp2_with (at_builtin; refine appR_str _ rfl _ _ rfl w.heap.size q n cc ([102, 40, 49] ++ repsF [44, 49] k) [44, 49] (byte_lit (by decide)) rfl HT.out.own ⟨#[44, 49]⟩ rfl rfl (by have := HL.out; simp; omega) HT.out.keep.size ?_; intro p5 n5 c5 w5 ho5 hg5)
   have HO : Hid (TxS w R p c xs i2 w5 p5 n5 c5 ([102, 40, 49] ++ repsF [44, 49] (k + 1))) := HT.out.app HRW.out (by rw [repsF, ← List.append_assoc]; exact ho5) hg5; clear ho5 hg5; go_roundw
   case rel => exact ⟨k + 1, _, _, _, by omega, by go_num, rfl, HO⟩
   case measure => simp [intOf]; omega
  ·obtain rfl : k = N := by omega
   go_wp2_with (at_builtin; refine appR_str _ rfl _ _ rfl w.heap.size q n cc ([102, 40, 49] ++ repsF [44, 49] k) [41, 46] (byte_lit (by decide)) rfl HT.out.own ⟨#[41, 46]⟩ rfl rfl (by have := HL.out; simp; omega) HT.out.keep.size ?_; intro p5 n5 c5 w5 ho5 hg5); have HO : Hid _ := (HT.out.app HRW.out ho5 hg5).out; clear ho5 hg5; go_wp2_with fail; go_ret; exact HO.out
set_option maxHeartbeats 4000000 in
theorem src_242 (R c i : Nat) (p : Option Addr) (xs : List Int) (w : World) (h : RdIn w R p c xs i) (hc : (rdI xs i).toNat = 242) :
 Calls Tryz.prog 10 #[.pointer (some ⟨R, 0, none⟩)] w (OddOut w R p c xs (srcF xs i).1 (srcF xs i).2) := by
 obtain ⟨x, ex, hx, hnx⟩ := nextN R c i p xs w h; rw [ex] at hc
 obtain ⟨i1, ei1⟩ : ∃ i1, i1 = rdN xs i := ⟨_, rfl⟩
 have HS : Hid (srcF xs i = (([120] ++ repsF [43, 49] (1000 + (rdI xs i1).toNat % 2)) ++ [32, 46], rdN xs i1)) := by show _ = _; unfold srcF; rw [ex, ← ei1]; rw [if_neg (by omega), if_neg (by omega), if_neg (by omega), if_neg (by omega), if_neg (by omega), if_pos hc]
 rw [HS.out]; rw [← ei1] at hnx; have HRW : Hid (R < w.heap.size) := h.lt
 obtain ⟨y, ey, hy⟩ : ∃ y : Nat, (rdI xs i1).toNat = y ∧ y < 256 := ⟨_, rfl, by have := (rdI_rng h.bytes i1).2; omega⟩
 obtain ⟨i2, ei2⟩ : ∃ i2, i2 = rdN xs i1 := ⟨_, rfl⟩
 rw [ey, ← ei2]
 have HY : Hid (∀ W, RdIn W R p c xs i1 → Calls Tryz.prog 21 #[.pointer (some ⟨R, 0, none⟩)] W fun e w' => e = .returned (.int .i64 (y : Int)) ∧ Keep R (R + 1) W w' ∧ w'.heap.size = W.heap.size ∧ RdIn w' R p c xs i2) := fun W hW => by
  obtain ⟨x', ex', _, h'⟩ := nextN R c i1 p xs W hW; rw [ey] at ex'; rw [← ex', ← ei2] at h'; exact h'
 obtain ⟨m, em⟩ : ∃ m, m = y % 2 := ⟨_, rfl⟩
 have hm : m < 2 := by omega
 have hmod : (y : Int).tmod 2 = (m : Int) := by rw [em, Int.tmod_eq_emod_of_nonneg (by omega)]; rfl
 rw [← em]; subst hc; clear ey ei2 em
 obtain ⟨N, eN⟩ : ∃ N, N = 1000 + m := ⟨_, rfl⟩
 have hadd : (1000 : Int) + (m : Int) = (N : Int) := by omega
 have hN : N ≤ 1100 := by omega
 rw [← eN]
 have hrl : ∀ k, (repsF [43, 49] k).length = k * 2 := fun k => repsF_len [43, 49] k
 have HRL : Hid _ := hrl; clear h ex ei1 HS eN hrl
 go_enter Tryz.func10, Tryz.ntmps10
 go_wp2_with fail; refine hnx.mono ?_; rintro e w1 ⟨rfl, hk1, hs1, hR1⟩
 obtain ⟨w2, ew2⟩ : ∃ W, W = w1.alloc (.cells #[.int .u8 120] 5 (1, 1 + 1)) := ⟨_, rfl⟩
 have kc : (convert 22 22 (.slice (some ⟨w1.heap.size, 0, none⟩) 1 1)).run Tryz.prog (w1.alloc (.cells #[.int .u8 120] 5)) = .ok (.slice (some ⟨w1.heap.size, 0, none⟩) 1 1) w2 := by rw [ew2]; exact Lib.run_convert_bytes_const (P := Tryz.prog) w1 22 5 #[.int .u8 120] 1 1 Tryz.underlying22 Tryz.underlying5
 have hb2 : Below w1.heap.size w1 w2 := by rw [ew2]; exact (Below.refl _ _).alloc (Nat.le_refl _) _
 have HT2 : Hid (TxS w R p c xs i1 w2 (some ⟨w1.heap.size, 0, none⟩) 1 1 [120]) := ⟨⟨rfl, w1.heap.size, #[.int .u8 120], (1, 1 + 1), rfl, by have := hk1.size; omega, by rw [ew2]; exact heap_alloc_new w1 _, .inr (Nat.le_refl _), rfl, Nat.le_refl _, by decide, rfl⟩, hk1.trans (Keep.of_below hb2), hR1.below hb2 hR1.lt⟩
 have HY2 := HY.out w2 (hR1.below hb2 hR1.lt); clear hk1 hs1 hR1 hnx ew2 hb2; go_wp2_with fail; refine HY2.mono ?_; rintro e w3 ⟨rfl, hk3, hs3, hR3⟩
 have HT3 : Hid (TxS w R p c xs i2 w3 (some ⟨w1.heap.size, 0, none⟩) 1 1 [120]) := HT2.out.next HRW.out hk3 hR3
 clear hk3 hs3 hR3 HY2; go_wp2_with fail
 go_loopw [7, 9] (fun o v wr => ∃ (k : Nat) (q : Option Addr) (n cc : Nat), k ≤ N ∧ v = .int .i64 k ∧ o = .slice q n cc ∧ Hid (TxS w R p c xs i2 wr q n cc ([120] ++ repsF [43, 49] k))) (fun _ v _ => N - (intOf v).toNat)
 case atStart => exact ⟨0, _, _, _, Nat.zero_le _, rfl, rfl, HT3⟩
 case round =>
  obtain ⟨k, q, n, cc, hk, rfl, rfl, HT⟩ := hrel
  have HL : Hid (n + 2 ≤ 10000) := by have h1 := HT.out.own.1; rw [List.length_append, HRL.out k] at h1; show _ ≤ _; simp at h1; omega
  by_cases hlt : k < N
  ·go_wp2_with (at_builtin; refine appR_str _ rfl _ _ rfl w.heap.size q n cc ([120] ++ repsF [43, 49] k) [43, 49] (byte_lit (by decide)) rfl HT.out.own ⟨#[43, 49]⟩ rfl rfl (by have := HL.out; simp; omega) HT.out.keep.size ?_; intro p5 n5 c5 w5 ho5 hg5)
   have HO : Hid (TxS w R p c xs i2 w5 p5 n5 c5 ([120] ++ repsF [43, 49] (k + 1))) := HT.out.app HRW.out (by rw [repsF, ← List.append_assoc]; exact ho5) hg5; clear ho5 hg5; go_roundw
   case rel => exact ⟨k + 1, _, _, _, by omega, by go_num, rfl, HO⟩
   case measure => simp [intOf]; omega
  ·obtain rfl : k = N := by omega
   go_wp2_with (at_builtin; refine appR_str _ rfl _ _ rfl w.heap.size q n cc ([120] ++ repsF [43, 49] k) [32, 46] (byte_lit (by decide)) rfl HT.out.own ⟨#[32, 46]⟩ rfl rfl (by have := HL.out; simp; omega) HT.out.keep.size ?_; intro p5 n5 c5 w5 ho5 hg5); have HO : Hid _ := (HT.out.app HRW.out ho5 hg5).out; clear ho5 hg5; go_wp2_with fail; go_ret; exact HO.out
set_option maxHeartbeats 4000000 in
theorem src_250 (R c i : Nat) (p : Option Addr) (xs : List Int) (w : World) (h : RdIn w R p c xs i) (hc : (rdI xs i).toNat = 250) :
 Calls Tryz.prog 10 #[.pointer (some ⟨R, 0, none⟩)] w (OddOut w R p c xs (srcF xs i).1 (srcF xs i).2) := by
 obtain ⟨x, ex, hx, hnx⟩ := nextN R c i p xs w h; rw [ex] at hc
 obtain ⟨i1, ei1⟩ : ∃ i1, i1 = rdN xs i := ⟨_, rfl⟩
 have HS : Hid (srcF xs i = ((List.replicate (99 + (rdI xs i1).toNat % 3) 97 ++ [32, 46]) ++ List.replicate (rdI xs (rdN xs i1)).toNat 32, rdN xs (rdN xs i1))) := by show _ = _; unfold srcF; rw [ex, ← ei1]; rw [if_neg (by omega), if_neg (by omega), if_pos hc]
 rw [HS.out]; rw [← ei1] at hnx; have HRW : Hid (R < w.heap.size) := h.lt
 obtain ⟨y, ey, hy⟩ : ∃ y : Nat, (rdI xs i1).toNat = y ∧ y < 256 := ⟨_, rfl, by have := (rdI_rng h.bytes i1).2; omega⟩
 obtain ⟨i2, ei2⟩ : ∃ i2, i2 = rdN xs i1 := ⟨_, rfl⟩
 rw [ey, ← ei2]
 have HY : Hid (∀ W, RdIn W R p c xs i1 → Calls Tryz.prog 21 #[.pointer (some ⟨R, 0, none⟩)] W fun e w' => e = .returned (.int .i64 (y : Int)) ∧ Keep R (R + 1) W w' ∧ w'.heap.size = W.heap.size ∧ RdIn w' R p c xs i2) := fun W hW => by
  obtain ⟨x', ex', _, h'⟩ := nextN R c i1 p xs W hW; rw [ey] at ex'; rw [← ex', ← ei2] at h'; exact h'
 obtain ⟨m, em⟩ : ∃ m, m = y % 3 := ⟨_, rfl⟩
 have hm : m < 3 := by omega
 have hmod : (y : Int).tmod 3 = (m : Int) := by rw [em, Int.tmod_eq_emod_of_nonneg (by omega)]; rfl
 rw [← em]; subst hc; clear ey ei2 em
 obtain ⟨z, ez, hz⟩ : ∃ z : Nat, (rdI xs i2).toNat = z ∧ z < 256 := ⟨_, rfl, by have := (rdI_rng h.bytes i2).2; omega⟩
 obtain ⟨i3, ei3⟩ : ∃ i3, i3 = rdN xs i2 := ⟨_, rfl⟩
 rw [ez, ← ei3]
 have HZ : Hid (∀ W, RdIn W R p c xs i2 → Calls Tryz.prog 21 #[.pointer (some ⟨R, 0, none⟩)] W fun e w' => e = .returned (.int .i64 (z : Int)) ∧ Keep R (R + 1) W w' ∧ w'.heap.size = W.heap.size ∧ RdIn w' R p c xs i3) := fun W hW => by
  obtain ⟨x', ex', _, h'⟩ := nextN R c i2 p xs W hW; rw [ez] at ex'; rw [← ex', ← ei3] at h'; exact h'
 obtain ⟨N, eN⟩ : ∃ N, N = 99 + m := ⟨_, rfl⟩
 have hadd : (99 : Int) + (m : Int) = (N : Int) := by omega
 have hN : N ≤ 102 := by omega
 have hN9 : 99 ≤ N := by omega
 rw [← eN]
 have HF1 : Hid (∀ W, Calls Tryz.prog 24 #[.int .u8 97, .int .i64 (N : Int)] W fun e w' => ∃ g n c, e = .returned (.slice (some ⟨g, 0, none⟩) n c) ∧ OwnS w' W.heap.size (some ⟨g, 0, none⟩) n c (List.replicate N 97) ∧ Below W.heap.size W w') := fun W => by
  refine (l4fillG_any 97 N (by omega) W).mono ?_; rintro e w' ⟨p, n, c, rfl, ho, hb⟩; have hn := ho.1
  rcases ho.2.2 with ⟨h1, _⟩ | ⟨g, cap, cur, hv, _⟩
  ·simp at h1; rw [List.length_replicate] at hn; omega
  ·simp only [Value.slice.injEq, true_and] at hv
   obtain ⟨rfl, rfl⟩ := hv; exact ⟨g, n, c, rfl, ho, hb⟩
 have HF2 : Hid (∀ W, Calls Tryz.prog 24 #[.int .u8 32, .int .i64 (z : Int)] W fun e w' => ∃ p n c, e = .returned (.slice p n c) ∧ OwnS w' W.heap.size p n c (List.replicate z 32) ∧ Below W.heap.size W w') := fun W => l4fillG_any 32 z (by omega) W
 clear h ex ei1 HS ez ei3 eN
 go_enter Tryz.func10, Tryz.ntmps10
 go_wp2_with fail; refine hnx.mono ?_; rintro e w1 ⟨rfl, hk1, hs1, hR1⟩; have HK1 : Hid (Keep R (R + 1) w w1) := hk1; have HY2 := HY.out w1 hR1; clear hk1 hs1 hR1 hnx; go_wp2_with fail; refine HY2.mono ?_; rintro e w3 ⟨rfl, hk3, hs3, hR3⟩
 have HK3 : Hid (Keep R (R + 1) w w3 ∧ RdIn w3 R p c xs i2) := ⟨HK1.out.trans hk3, hR3⟩
 clear hk3 hs3 hR3 HY2; go_wp2_with fail; refine (HF1.out w3).mono ?_; rintro e w4 ⟨g4, n4, c4, rfl, ho4, hb4⟩
 have HT4 : Hid (TxS w R p c xs i2 w4 (some ⟨g4, 0, none⟩) n4 c4 (List.replicate N 97)) := ⟨ho4.toR.mono HK3.out.1.size, HK3.out.1.trans (Keep.of_below hb4), HK3.out.2.below hb4 HK3.out.2.lt⟩
 have HN4 : Hid (n4 = N) := by have := ho4.1; rw [List.length_replicate] at this; exact this
 clear ho4 hb4; have tok1 : True := trivial; go_wp2_with (at_builtin; have _t := tok1; refine appR_str _ rfl _ _ rfl w.heap.size (some ⟨g4, 0, none⟩) n4 c4 (List.replicate N 97) [32, 46] (byte_lit (by decide)) rfl HT4.out.own ⟨#[32, 46]⟩ rfl rfl (by have := HN4.out; simp; omega) HT4.out.keep.size ?_; intro p5 n5 c5 w5 ho5 hg5; have HT5 : Hid (TxS w R p c xs i2 w5 p5 n5 c5 (List.replicate N 97 ++ [32, 46])) := HT4.out.app HRW.out ho5 hg5; clear ho5 hg5 tok1); refine (HZ.out w5 HT5.out.rd).mono ?_; rintro e w6 ⟨rfl, hk6, hs6, hR6⟩
 have HT6 : Hid (TxS w R p c xs i3 w6 p5 n5 c5 (List.replicate N 97 ++ [32, 46])) := HT5.out.next HRW.out hk6 hR6
 clear hk6 hs6 hR6; go_wp2_with fail; refine (HF2.out w6).mono ?_; rintro e w7 ⟨q7, n7, c7, rfl, ho7, hb7⟩; have HT7 : Hid (TxS w R p c xs i3 w7 p5 n5 c5 (List.replicate N 97 ++ [32, 46])) := HT6.out.below hb7
 have HQ7 : Hid (BIn w7 q7 (List.replicate z 32) ∧ n7 = (List.replicate z (32 : Int)).length) := ⟨ho7.toT.bin, ho7.1⟩
 have HL7 : Hid (n5 ≤ 1000) := by have h1 := HT7.out.own.1; simp at h1; show _ ≤ _; omega
 clear ho7 hb7; go_wp2_with (at_builtin; refine appR_bytes _ rfl _ _ rfl w.heap.size p5 n5 c5 (List.replicate N 97 ++ [32, 46]) (List.replicate z 32) q7 n7 c7 HQ7.out.2 rfl HT7.out.own rfl HQ7.out.1 (by have := HL7.out; rw [List.length_replicate]; omega) HT7.out.keep.size ?_; intro p8 n8 c8 w8 ho8 hg8); have HO : Hid _ := (HT7.out.app HRW.out ho8 hg8).out; clear ho8 hg8; go_wp2_with fail; go_ret; exact HO.out
theorem wrD_any (cs : List Cel) (hv : validB cs = true) (hb : ∀ i, i < cs.length → Byte (cs.getD i Cel.none).2.2) (W : World) (tq : Option Addr) (n tc : Nat) (po : Option Addr) (no co : Nat) (hn : n = cs.length) (hno : no = dTab.length) (hl : cs.length ≤ 1000000) (ht : cs.length ≤ tc ∧ tc ≤ 9223372036854775807) (hx : CIn W tq cs) (hT : OIn W po dTab) :
 Calls Tryz.prog 28 #[.slice po no co, .slice tq n tc, .slice none 0 0, .bool true] W fun e w' => ∃ p n c, e = .returned (.slice p n c) ∧ OwnR w' W.heap.size p n c (wrD cs) ∧ Below W.heap.size W w' := by
 subst hn hno; have hz := dTab_sizeF; refine (specWriteR_any dTab cs [] true po co tq tc none 0 W dTab_byteF hb (by omega) (by omega) ht (by simp) (fun i hi => by simp at hi) hT hx (fun h => by simp at h)).mono ?_; rintro e w' ⟨R, p, n, c, hR, rfl, ho, hbb⟩; have e : R = wrD cs := wr_det hR (wrD_is hb).1; subst e; exact ⟨p, n, c, rfl, ho ⟨tab_dTab, hv⟩, hbb⟩
set_option maxHeartbeats 4000000 in
theorem src_good (R c i : Nat) (p : Option Addr) (xs : List Int) (w : World) (h : RdIn w R p c xs i) (h0 : ¬ (rdI xs i).toNat % 4 = 0) (h1 : ¬ (rdI xs i).toNat % 4 = 1) (h2 : ¬ (rdI xs i).toNat = 250) (h3 : ¬ (rdI xs i).toNat = 254) (h4 : ¬ (rdI xs i).toNat = 246) (h5 : ¬ (rdI xs i).toNat = 242) (hv : validB (drawT xs 4 (rdN xs i)).1 = true) :
 Calls Tryz.prog 10 #[.pointer (some ⟨R, 0, none⟩)] w (OddOut w R p c xs (srcF xs i).1 (srcF xs i).2) := by
 obtain ⟨x, ex, hx, hnx⟩ := nextN R c i p xs w h; rw [ex] at h0 h1 h2 h3 h4 h5
 obtain ⟨i1, ei1⟩ : ∃ i1, i1 = rdN xs i := ⟨_, rfl⟩
 have HS : Hid (srcF xs i = (wrD (valT (drawT xs 4 i1).1) ++ [32, 46, 10], (drawT xs 4 i1).2)) := by show _ = _; unfold srcF; rw [ex, ← ei1, if_neg h0, if_neg h1, if_neg h2, if_neg h3, if_neg h4, if_neg h5]
 rw [HS.out]; rw [← ei1] at hnx hv; have HRW : Hid (R < w.heap.size) := h.lt
 obtain ⟨m, em⟩ : ∃ m, m = x % 4 := ⟨_, rfl⟩
 have hm : m < 4 := by omega
 have hmod : (x : Int).tmod 4 = (m : Int) := by rw [em, Int.tmod_eq_emod_of_nonneg (by omega)]; rfl
 have b0 : ((m : Int) == 0) = false := by simp; omega
 have b1 : ((m : Int) == 1) = false := by simp; omega
 have b2 : ((x : Int) == 250) = false := by simp; omega
 have b3 : ((x : Int) == 254) = false := by simp; omega
 have b4 : ((x : Int) == 246) = false := by simp; omega
 have b5 : ((x : Int) == 242) = false := by simp; omega
 have HTM : Hid (∀ W, RdIn W R p c xs i1 → Calls Tryz.prog 25 #[.pointer (some ⟨R, 0, none⟩), .int .i64 4] W (TermOut W R p c xs (drawT xs 4 i1))) := fun W hW => l4term_any R c p xs 4 4 (by omega) rfl (by omega) i1 W hW
 have hsm := drawT_sml xs 4 i1; have hby := drawT_byte xs 4 i1
 obtain ⟨D, eD⟩ : ∃ D, D = drawT xs 4 i1 := ⟨_, rfl⟩
 rw [← eD] at HTM hsm hby hv ⊢
 have hDl : D.1.length ≤ 512 := by have h8 := hsm.len; omega
 have eV : valT D.1 = D.1 := by unfold valT; rw [if_pos hv]
 rw [eV]
 obtain ⟨Y, eY⟩ : ∃ Y, Y = wrD D.1 := ⟨_, rfl⟩
 have HYL : Hid (Y.length ≤ 3000000000) := by rw [eY]; exact (wrD_is hby.get).2.1
 have HW : Hid (∀ (W : World) (tq : Option Addr) (n tc : Nat) (po : Option Addr) (no co : Nat), n = D.1.length → no = dTab.length → (D.1.length ≤ tc ∧ tc ≤ 9223372036854775807) → CIn W tq D.1 → OIn W po dTab → Calls Tryz.prog 28 #[.slice po no co, .slice tq n tc, .slice none 0 0, .bool true] W fun e w' => ∃ p n c, e = .returned (.slice p n c) ∧ OwnR w' W.heap.size p n c Y ∧ Below W.heap.size W w') := fun W tq n tc po no co h6 h7 h8 h9 h10 => by rw [eY]; exact wrD_any D.1 hv hby.get W tq n tc po no co h6 h7 (by omega) h8 h9 h10
 rw [← eY]; have HV : Hid (validB D.1 = true) := hv; have HDL : Hid (D.1.length ≤ 512) := hDl; clear h h0 h1 h2 h3 h4 h5 ex ei1 HS em hsm hby eD hDl eY eV hv
 go_enter Tryz.func10, Tryz.ntmps10
 go_wp2_with fail; refine hnx.mono ?_; rintro e w1 ⟨rfl, hk1, hs1, hR1⟩; have HC := HTM.out w1 hR1; have HK1 : Hid (Keep R (R + 1) w w1) := hk1; clear hk1 hs1 hR1 hnx; go_wp2_with fail; refine HC.mono ?_; rintro e w2 ⟨q, n, cap, rfl, ho2, hk2, hR2⟩
 have HK2 : Hid (Keep R (R + 1) w w2 ∧ RdIn w2 R p c xs D.2) := ⟨HK1.out.trans hk2, hR2⟩
 have HOC : Hid (∀ W, Below w2.heap.size w2 W → CIn W q D.1) := fun W hW => ho2.cin.below hW
 have HNC : Hid (n = D.1.length ∧ D.1.length ≤ cap ∧ cap ≤ 9223372036854775807) := ⟨ho2.1, ho2.cap.1, ho2.cap.2⟩
 have HVT : Calls Tryz.prog 26 #[.slice q n cap] w2 fun e w' => e = .returned (.bool true) ∧ Below w2.heap.size w2 w' := by
  have := specValid_any q cap D.1 w2 (by have := HDL.out; omega) (HOC.out w2 (Below.refl _ _)); rw [HV.out, ← HNC.out.1] at this; exact this
 clear hk2 hR2 ho2 HC; go_wp2_with fail; refine HVT.mono ?_; rintro e w3 ⟨rfl, hb3⟩; have HB3 : Hid (Below w2.heap.size w2 w3) := hb3; clear hb3 HVT; go_wp2_with fail; refine (specDef_any w3).mono ?_; rintro e w5 ⟨po, no, co, rfl, hno, hT5, hb5⟩; have HB5 : Hid (Below w2.heap.size w2 w5) := Below.on HB3.out hb5; have HCW := HW.out w5 q n cap po no co HNC.out.1 hno HNC.out.2 (HOC.out _ HB5.out) hT5; clear hno hT5 hb5; go_wp2_with fail; refine HCW.mono ?_; rintro e w6 ⟨p6, n6, c6, rfl, ho6, hb6⟩
 have HT6 : Hid (TxS w R p c xs D.2 w6 p6 n6 c6 Y) := ⟨ho6.mono (Nat.le_trans HK2.out.1.size HB5.out.size), (HK2.out.1.trans (Keep.of_below HB5.out)).trans (Keep.of_below hb6), (HK2.out.2.below HB5.out HK2.out.2.lt).below hb6 (HK2.out.2.below HB5.out HK2.out.2.lt).lt⟩
 have HL6 : Hid (n6 ≤ 3000000000) := by have := ho6.1; have := HYL.out; show _ ≤ _; omega
 clear ho6 hb6 HCW; go_wp2_with (at_builtin; refine appR_str _ rfl _ _ rfl w.heap.size p6 n6 c6 Y [32, 46, 10] (byte_lit (by decide)) rfl HT6.out.own ⟨#[32, 46, 10]⟩ rfl rfl (by have := HL6.out; simp; omega) HT6.out.keep.size ?_; intro p7 n7 c7 w7 ho7 hg7); have HO : Hid _ := (HT6.out.app HRW.out ho7 hg7).out; clear ho7 hg7; go_wp2_with fail; go_ret; exact HO.out
set_option maxHeartbeats 4000000 in
theorem src_bad (R c i : Nat) (p : Option Addr) (xs : List Int) (w : World) (h : RdIn w R p c xs i) (h0 : ¬ (rdI xs i).toNat % 4 = 0) (h1 : ¬ (rdI xs i).toNat % 4 = 1) (h2 : ¬ (rdI xs i).toNat = 250) (h3 : ¬ (rdI xs i).toNat = 254) (h4 : ¬ (rdI xs i).toNat = 246) (h5 : ¬ (rdI xs i).toNat = 242) (hv : validB (drawT xs 4 (rdN xs i)).1 = false) :
 Calls Tryz.prog 10 #[.pointer (some ⟨R, 0, none⟩)] w (OddOut w R p c xs (srcF xs i).1 (srcF xs i).2) := by
 obtain ⟨x, ex, hx, hnx⟩ := nextN R c i p xs w h; rw [ex] at h0 h1 h2 h3 h4 h5
 obtain ⟨i1, ei1⟩ : ∃ i1, i1 = rdN xs i := ⟨_, rfl⟩
 have HS : Hid (srcF xs i = (wrD (valT (drawT xs 4 i1).1) ++ [32, 46, 10], (drawT xs 4 i1).2)) := by show _ = _; unfold srcF; rw [ex, ← ei1, if_neg h0, if_neg h1, if_neg h2, if_neg h3, if_neg h4, if_neg h5]
 rw [HS.out]; rw [← ei1] at hnx hv; have HRW : Hid (R < w.heap.size) := h.lt
 obtain ⟨m, em⟩ : ∃ m, m = x % 4 := ⟨_, rfl⟩
 have hm : m < 4 := by omega
 have hmod : (x : Int).tmod 4 = (m : Int) := by rw [em, Int.tmod_eq_emod_of_nonneg (by omega)]; rfl
 have b0 : ((m : Int) == 0) = false := by simp; omega
 have b1 : ((m : Int) == 1) = false := by simp; omega
 have b2 : ((x : Int) == 250) = false := by simp; omega
 have b3 : ((x : Int) == 254) = false := by simp; omega
 have b4 : ((x : Int) == 246) = false := by simp; omega
 have b5 : ((x : Int) == 242) = false := by simp; omega
 have HTM : Hid (∀ W, RdIn W R p c xs i1 → Calls Tryz.prog 25 #[.pointer (some ⟨R, 0, none⟩), .int .i64 4] W (TermOut W R p c xs (drawT xs 4 i1))) := fun W hW => l4term_any R c p xs 4 4 (by omega) rfl (by omega) i1 W hW
 have hsm := drawT_sml xs 4 i1; have hby := drawT_byte xs 4 i1
 obtain ⟨D, eD⟩ : ∃ D, D = drawT xs 4 i1 := ⟨_, rfl⟩
 rw [← eD] at HTM hsm hby hv ⊢
 have hDl : D.1.length ≤ 512 := by have h8 := hsm.len; omega
 have eV : valT D.1 = [(2, 0, [97])] := by unfold valT; rw [if_neg (by rw [hv]; simp)]
 have hva : validB [((2 : Int), (0 : Int), [(97 : Int)])] = true := by have := valT_valid D.1; rw [eV] at this; exact this
 have hba : ByteC [((2 : Int), (0 : Int), [(97 : Int)])] := by have := valT_byte hby; rw [eV] at this; exact this
 rw [eV]
 obtain ⟨Y, eY⟩ : ∃ Y, Y = wrD [((2 : Int), (0 : Int), [(97 : Int)])] := ⟨_, rfl⟩
 have HYL : Hid (Y.length ≤ 3000000000) := by rw [eY]; exact (wrD_is hba.get).2.1
 have HW : Hid (∀ (W : World) (tq : Option Addr) (n tc : Nat) (po : Option Addr) (no co : Nat), n = 1 → no = dTab.length → (1 ≤ tc ∧ tc ≤ 9223372036854775807) → CIn W tq [((2 : Int), (0 : Int), [(97 : Int)])] → OIn W po dTab → Calls Tryz.prog 28 #[.slice po no co, .slice tq n tc, .slice none 0 0, .bool true] W fun e w' => ∃ p n c, e = .returned (.slice p n c) ∧ OwnR w' W.heap.size p n c Y ∧ Below W.heap.size W w') := fun W tq n tc po no co h6 h7 h8 h9 h10 => by rw [eY]; exact wrD_any _ hva hba.get W tq n tc po no co h6 h7 (by simp) h8 h9 h10
 have HAT : Hid (∀ W, Calls Tryz.prog 27 #[.string ⟨#[97]⟩] W fun e w' => ∃ p, e = .returned (.slice p 1 1) ∧ CIn w' p [((2 : Int), (0 : Int), [(97 : Int)])] ∧ Below W.heap.size W w') := fun W => l2atomS_any [97] (byte_lit (by decide)) W
 rw [← eY]; have HV : Hid (validB D.1 = false) := hv; have HDL : Hid (D.1.length ≤ 512) := hDl; clear h h0 h1 h2 h3 h4 h5 ex ei1 HS em hsm hby eD hDl eY eV hv hva hba
 go_enter Tryz.func10, Tryz.ntmps10
 go_wp2_with fail; refine hnx.mono ?_; rintro e w1 ⟨rfl, hk1, hs1, hR1⟩; have HC := HTM.out w1 hR1; have HK1 : Hid (Keep R (R + 1) w w1) := hk1; clear hk1 hs1 hR1 hnx; go_wp2_with fail; refine HC.mono ?_; rintro e w2 ⟨q, n, cap, rfl, ho2, hk2, hR2⟩
 have HK2 : Hid (Keep R (R + 1) w w2 ∧ RdIn w2 R p c xs D.2) := ⟨HK1.out.trans hk2, hR2⟩
 have HOC : Hid (∀ W, Below w2.heap.size w2 W → CIn W q D.1) := fun W hW => ho2.cin.below hW
 have HNC : Hid (n = D.1.length ∧ D.1.length ≤ cap ∧ cap ≤ 9223372036854775807) := ⟨ho2.1, ho2.cap.1, ho2.cap.2⟩
 have HVT : Calls Tryz.prog 26 #[.slice q n cap] w2 fun e w' => e = .returned (.bool false) ∧ Below w2.heap.size w2 w' := by
  have := specValid_any q cap D.1 w2 (by have := HDL.out; omega) (HOC.out w2 (Below.refl _ _)); rw [HV.out, ← HNC.out.1] at this; exact this
 clear hk2 hR2 ho2 HC; go_wp2_with fail; refine HVT.mono ?_; rintro e w3 ⟨rfl, hb3⟩; have HB3 : Hid (Below w2.heap.size w2 w3) := hb3; clear hb3 HVT; go_wp2_with fail; refine (HAT.out w3).mono ?_; rintro e w4 ⟨qa, rfl, hca, hb4⟩; have HB4 : Hid (Below w2.heap.size w2 w4) := Below.on HB3.out hb4; have HCA : Hid (CIn w4 qa [((2 : Int), (0 : Int), [(97 : Int)])]) := hca; clear hb4 hca; go_wp2_with fail; refine (specDef_any w4).mono ?_; rintro e w5 ⟨po, no, co, rfl, hno, hT5, hb5⟩; have HB5 : Hid (Below w2.heap.size w2 w5) := Below.on HB4.out hb5; have HCW := HW.out w5 qa 1 1 po no co rfl hno ⟨Nat.le_refl _, by decide⟩ (HCA.out.below hb5) hT5; clear hno hT5 hb5; go_wp2_with fail; refine HCW.mono ?_; rintro e w6 ⟨p6, n6, c6, rfl, ho6, hb6⟩
 have HT6 : Hid (TxS w R p c xs D.2 w6 p6 n6 c6 Y) := ⟨ho6.mono (Nat.le_trans HK2.out.1.size HB5.out.size), (HK2.out.1.trans (Keep.of_below HB5.out)).trans (Keep.of_below hb6), (HK2.out.2.below HB5.out HK2.out.2.lt).below hb6 (HK2.out.2.below HB5.out HK2.out.2.lt).lt⟩
 have HL6 : Hid (n6 ≤ 3000000000) := by have := ho6.1; have := HYL.out; show _ ≤ _; omega
 clear ho6 hb6 HCW; go_wp2_with (at_builtin; refine appR_str _ rfl _ _ rfl w.heap.size p6 n6 c6 Y [32, 46, 10] (byte_lit (by decide)) rfl HT6.out.own ⟨#[32, 46, 10]⟩ rfl rfl (by have := HL6.out; simp; omega) HT6.out.keep.size ?_; intro p7 n7 c7 w7 ho7 hg7); have HO : Hid _ := (HT6.out.app HRW.out ho7 hg7).out; clear ho7 hg7; go_wp2_with fail; go_ret; exact HO.out
theorem l4source_any (R c i : Nat) (p : Option Addr) (xs : List Int) (w : World) (h : RdIn w R p c xs i) :
 Calls Tryz.prog 10 #[.pointer (some ⟨R, 0, none⟩)] w (OddOut w R p c xs (srcF xs i).1 (srcF xs i).2) := by
 by_cases h0 : (rdI xs i).toNat % 4 = 0
 ·exact src_soup R c i p xs w h h0
 by_cases h1 : (rdI xs i).toNat % 4 = 1
 ·exact src_odd R c i p xs w h h1
 by_cases h2 : (rdI xs i).toNat = 250
 ·exact src_250 R c i p xs w h h2
 by_cases h3 : (rdI xs i).toNat = 254
 ·exact src_254 R c i p xs w h h3
 by_cases h4 : (rdI xs i).toNat = 246
 ·exact src_246 R c i p xs w h h4
 by_cases h5 : (rdI xs i).toNat = 242
 ·exact src_242 R c i p xs w h h5
 cases hv : validB (drawT xs 4 (rdN xs i)).1 with
 | true => exact src_good R c i p xs w h h0 h1 h2 h3 h4 h5 hv
 | false => exact src_bad R c i p xs w h h0 h1 h2 h3 h4 h5 hv
noncomputable def dlF (xs : List Int) : List Int := (srcF (xs.take 500) 0).1
theorem dlF_good {xs : List Int} (hb : Bytes xs) : Byte (dlF xs) ∧ (dlF xs).length ≤ 4000000000 := srcF_good _ (hb.take 500) 0
theorem drawLex_any (p : Option Addr) (c n : Nat) (xs : List Int) (w : World) (hb : Bytes xs) (hn : xs.length ≤ 1048576) (hc : xs.length ≤ c) (hx : BIn w p xs) (en : n = xs.length) :
 Calls Tryz.prog 4 #[.slice p n c] w fun e w' => ∃ q m cap, e = .returned (.slice q m cap) ∧ OwnR w' w.heap.size q m cap (dlF xs) ∧ Below w.heap.size w w' := by
 have HO := l4open_any p c xs w hb hn hc hx; rw [← en] at HO
 have HS : Hid (∀ W, RdIn W w.heap.size p c (xs.take 500) 0 → Calls Tryz.prog 10 #[.pointer (some ⟨w.heap.size, 0, none⟩)] W (OddOut W w.heap.size p c (xs.take 500) (srcF (xs.take 500) 0).1 (srcF (xs.take 500) 0).2)) := fun W hW => l4source_any w.heap.size c 0 p (xs.take 500) W hW
 unfold dlF
 generalize (srcF (xs.take 500) 0) = Z at HS ⊢
 clear hb hn hc hx en
 go_enter Tryz.func4, Tryz.ntmps4
 go_wp2_with fail; refine HO.mono ?_; rintro e w1 ⟨rfl, hb1, hs1, hR1⟩; have HC := HS.out w1 hR1
 have HB1 : Hid (Below w.heap.size w w1 ∧ w1.heap.size = w.heap.size + 1) := ⟨hb1, hs1⟩
 clear hb1 hs1 hR1 HO; go_wp2_with fail; refine HC.mono ?_; rintro e w2 ⟨q, m, cap, rfl, ho, hk, hr⟩
 have HF : Hid (OwnR w2 w.heap.size q m cap Z.1 ∧ Below w.heap.size w w2) := ⟨ho.mono (by have := HB1.out.2; omega), HB1.out.1.trans (hk.below (Nat.le_refl _) (by have := HB1.out.2; omega))⟩
 clear ho hk hr HC; go_wp2_with fail; go_ret; exact ⟨q, m, cap, rfl, HF.out.1, HF.out.2⟩
end
end Go.Proofs.YtfgmenkoeflhaaaGreatDoor
