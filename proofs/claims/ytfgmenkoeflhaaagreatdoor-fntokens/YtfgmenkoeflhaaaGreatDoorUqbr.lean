/- Texts of LxA, LxB, LxC, LxD. Own work of the verifier. -/
import Derived.Test.YtfgmenkoeflhaaaGreatDoorUqbq
namespace Go.Proofs.YtfgmenkoeflhaaaGreatDoor
set_option maxRecDepth 100000
open Go Go.RowKit
set_option linter.unusedVariables false
set_option maxHeartbeats 8000000 in
theorem tokSym_any (b cap pos : Nat) (call : Bool) (xs : List Int) (w : World) (hb : Bytes xs) (hn : xs.length ≤ 10000) (hcap : xs.length ≤ cap) (hp : pos < xs.length) (hc : ∀ m, m < xs.length → w.cell? ⟨b, m, none⟩ = some (.int .u8 (xs.getD m 0))) (hd : digitB (xs.getD pos 0) = false) (ha : alnumB (xs.getD pos 0) = false) (hs : symbolB (xs.getD pos 0) = true) (h46 : xs.getD pos 0 ≠ 46) :
 Calls Tryz.prog 13 #[.slice (some ⟨b, 0, none⟩) xs.length cap, .int .i64 pos, .bool call] w (TokSOut w pos (runR xs pos 1 8)) := by
 have hrun := runI_symbol hb pos; have hle := runLen_le (clsB true) (xs.drop pos); rw [List.length_drop] at hle; have HB1 : Below w.heap.size w ((w.alloc tokO).alloc (tokB 1 pos 0)) := ((Below.refl _ _).alloc (Nat.le_refl _) _).alloc (by simp) _; have HRUN := l1run_any b cap xs pos true ((w.alloc tokO).alloc (tokB 1 pos 0)) hb (by omega) (by omega) (fun i hi => (HB1.cell (World.block_lt_of_cell? _ _ (hc i hi))).trans (hc i hi))
 have hrr : runR xs pos 1 8 = if 100 < runI 8 xs pos then .error 3 else .ok (1, runI 8 xs pos, (xs.drop pos).take (runI 8 xs pos), 0) := rfl
 rw [hrun] at hrr
 obtain ⟨L, eL⟩ : ∃ L, L = runLen (clsB true) (xs.drop pos) := ⟨_, rfl⟩
 rw [← eL] at hle HRUN hrr; have HRR : Hid _ := hrr; have HB2 : Below w.heap.size w ((w.alloc tokO).alloc (tokB 1 pos L)) := ((Below.refl _ _).alloc (Nat.le_refl _) _).alloc (by simp) _
 have hLn : pos + L ≤ xs.length := by omega
 have hlen : ((xs.drop pos).take L).length = L := by simp; omega
 have HCP := l1copy_all (some ⟨b, pos, none⟩) L (cap - pos) ((xs.drop pos).take L) ((w.alloc tokO).alloc (tokB 1 pos L)) hlen.symm (by omega) ((bin_part hc hLn).below HB2); have HLEN : Hid (((xs.drop pos).take L).length = L) := hlen; have hx := hc pos hp; have hr := hb.at pos
 obtain ⟨ys, eys⟩ : ∃ ys, ys = (xs.drop pos).take L := ⟨_, rfl⟩
 rw [← eys] at HCP HLEN HRR
 obtain ⟨n, en⟩ : ∃ n, n = xs.length := ⟨_, rfl⟩
 obtain ⟨x, ex⟩ : ∃ x, x = xs.getD pos 0 := ⟨_, rfl⟩
 rw [← ex] at hx hr hd ha hs h46
 have HD := fun W => digit_any x W hr.1 hr.2
 have HA := fun W => alnum_any x W hr.1 hr.2
 have HS := fun W => symbol_any x W hr.1 hr.2
 have HSM := fun W => small_any x W hr.1 hr.2
 rw [← en] at hn hcap hp HRUN ⊢; have hbl : b < w.heap.size := World.block_lt_of_cell? _ _ hx
 have hL3 : L ≤ 10000 := by omega
 have hcp1 : ¬ cap = pos := by omega
 have hp0 : (0 : Int) ≤ (pos : Int) := by omega
 have hp1 : (0 : Int) ≤ (pos : Int) + L := by omega
 have hp2 : (pos : Int) + L ≤ (cap : Int) := by omega
 have hp3 : (pos : Int) ≤ (pos : Int) + L := by omega
 have hto : ((pos : Int) + L).toNat = pos + L := by omega
 have hsub : pos + L - pos = L := by omega
 have G1 : ((w.alloc tokO).alloc (tokB 1 pos L)).heap[w.heap.size]? = some tokO := (Below.heap_alloc _ _ _ (by simp)).trans (heap_alloc_new _ _)
 have G2 : ((w.alloc tokO).alloc (tokB 1 pos L)).heap[w.heap.size + 1]? = some (tokB 1 pos L) := by
  have := heap_alloc_new (w.alloc tokO) (tokB 1 pos L)
  rwa [World.size_alloc] at this
 have HG1 : Hid _ := G1; have HG2 : Hid _ := G2; have HBB : Hid _ := HB2; clear hb hc ex en HB1 HB2 G1 G2 eys eL hle hrun hrr hlen hLn; rw [hd] at HD; rw [ha] at HA; rw [hs] at HS
 have b46 : (x == 46) = false := by simpa using h46
 clear hd ha hs h46 HSM
 go_enter Tryz.func13, Tryz.ntmps13
 go_wp2_with (first | (go_at_call 31; refine (HD _).mono ?_; rintro e w' ⟨rfl, rfl⟩) | (go_at_call 33; refine (HA _).mono ?_; rintro e w' ⟨rfl, rfl⟩) | (go_at_call 36; refine (HS _).mono ?_; rintro e w' ⟨rfl, rfl⟩) | (go_at_call 34; refine HRUN.mono ?_; rintro e w' ⟨rfl, rfl⟩)); refine HCP.mono ?_; rintro e w5 ⟨p5, n5, c5, rfl, ho5, hb5⟩; obtain ⟨⟨a0, a1, a2, a3, a4⟩, af⟩ := five_cells ((hb5.block _ (by simp; omega)).trans HG1.out); obtain ⟨⟨e0, e1, e2, e3, e4⟩, ef⟩ := five_cells ((hb5.block _ (by simp)).trans HG2.out); have HO5 : Hid _ := ho5; have HB5 : Hid _ := hb5; have hn5 : n5 = L := ho5.1.trans HLEN.out; subst hn5; clear ho5 hb5 HCP
 by_cases h100 : 100 < n5
 ·have h100I : (100 : Int) < n5 := by omega
  have hrr := HRR.out; rw [if_pos h100] at hrr; have HR3 : Hid _ := hrr; clear hrr HRR; go_wp2_with fail; refine bodyPost_ret (v := .tuple #[tokV 0 0 0 none 0 0 0, .int .i64 3]) (by simp [results, Tryz.results13, go_sem, a0, a1, a2, a3, a4]) rfl ?_; have hf := tok_fin HBB.out (by simp) HB5.out HO5.out (.slice p5 n5 c5) (.int .i64 0) (.int .i64 0) (.int .i64 0) (.slice none 0 0) (.int .i64 0); exact tokSOut_of (r := .error 3) ⟨0, 0, 0, 0, rfl, hf.2⟩ HR3.out
 ·have h100I : ¬ (100 : Int) < n5 := by omega
  have hrr := HRR.out; rw [if_neg h100] at hrr; have HR3 : Hid _ := hrr; clear hrr HRR; go_wp2_with fail; refine bodyPost_ret (v := .tuple #[tokV 1 pos n5 p5 n5 c5 0, .int .i64 0]) (by simp [results, Tryz.results13, go_sem, a0, a1, a2, a3, a4]) rfl ?_; have hf := tok_fin HBB.out (by simp) HB5.out HO5.out (.slice p5 n5 c5) (.int .i64 1) (.int .i64 pos) (.int .i64 n5) (.slice p5 n5 c5) (.int .i64 0); exact tokSOut_of (r := .ok (1, n5, _, 0)) ⟨p5, n5, c5, rfl, hf.1, hf.2⟩ HR3.out
set_option maxHeartbeats 8000000 in
theorem tokPoint_any (b cap pos : Nat) (call : Bool) (xs : List Int) (w : World) (hb : Bytes xs) (hn : xs.length ≤ 10000) (hcap : xs.length ≤ cap) (hp : pos < xs.length) (hc : ∀ m, m < xs.length → w.cell? ⟨b, m, none⟩ = some (.int .u8 (xs.getD m 0))) (h46 : xs.getD pos 0 = 46) (h1 : pos + 1 < xs.length) (hbk : blankB (xs.getD (pos + 1) 0) = false) (h37 : xs.getD (pos + 1) 0 ≠ 37) :
 Calls Tryz.prog 13 #[.slice (some ⟨b, 0, none⟩) xs.length cap, .int .i64 pos, .bool call] w (TokSOut w pos (runR xs pos 1 8)) := by
 have hrun := runI_symbol hb pos; have hle := runLen_le (clsB true) (xs.drop pos); rw [List.length_drop] at hle; have HB1 : Below w.heap.size w ((w.alloc tokO).alloc (tokB 1 pos 0)) := ((Below.refl _ _).alloc (Nat.le_refl _) _).alloc (by simp) _; have HRUN := l1run_any b cap xs pos true ((w.alloc tokO).alloc (tokB 1 pos 0)) hb (by omega) (by omega) (fun i hi => (HB1.cell (World.block_lt_of_cell? _ _ (hc i hi))).trans (hc i hi))
 have hrr : runR xs pos 1 8 = if 100 < runI 8 xs pos then .error 3 else .ok (1, runI 8 xs pos, (xs.drop pos).take (runI 8 xs pos), 0) := rfl
 rw [hrun] at hrr
 obtain ⟨L, eL⟩ : ∃ L, L = runLen (clsB true) (xs.drop pos) := ⟨_, rfl⟩
 rw [← eL] at hle HRUN hrr; have HRR : Hid _ := hrr; have HB2 : Below w.heap.size w ((w.alloc tokO).alloc (tokB 1 pos L)) := ((Below.refl _ _).alloc (Nat.le_refl _) _).alloc (by simp) _
 have hLn : pos + L ≤ xs.length := by omega
 have hlen : ((xs.drop pos).take L).length = L := by simp; omega
 have HCP := l1copy_all (some ⟨b, pos, none⟩) L (cap - pos) ((xs.drop pos).take L) ((w.alloc tokO).alloc (tokB 1 pos L)) hlen.symm (by omega) ((bin_part hc hLn).below HB2); have HLEN : Hid (((xs.drop pos).take L).length = L) := hlen; have hx := hc pos hp; have hr := hb.at pos
 obtain ⟨ys, eys⟩ : ∃ ys, ys = (xs.drop pos).take L := ⟨_, rfl⟩
 rw [← eys] at HCP HLEN HRR; have hy := hc (pos + 1) h1; have hry := hb.at (pos + 1)
 obtain ⟨y, ey⟩ : ∃ y, y = xs.getD (pos + 1) 0 := ⟨_, rfl⟩
 rw [← ey] at hy hry hbk h37
 obtain ⟨n, en⟩ : ∃ n, n = xs.length := ⟨_, rfl⟩
 obtain ⟨x, ex⟩ : ∃ x, x = xs.getD pos 0 := ⟨_, rfl⟩
 rw [← ex] at hx hr h46
 have HD := fun W => digit_any x W hr.1 hr.2
 have HA := fun W => alnum_any x W hr.1 hr.2
 have HS := fun W => symbol_any x W hr.1 hr.2
 have HSM := fun W => small_any x W hr.1 hr.2
 rw [← en] at hn hcap hp HRUN ⊢; have hbl : b < w.heap.size := World.block_lt_of_cell? _ _ hx
 have hL3 : L ≤ 10000 := by omega
 have hcp1 : ¬ cap = pos := by omega
 have hp0 : (0 : Int) ≤ (pos : Int) := by omega
 have hp1 : (0 : Int) ≤ (pos : Int) + L := by omega
 have hp2 : (pos : Int) + L ≤ (cap : Int) := by omega
 have hp3 : (pos : Int) ≤ (pos : Int) + L := by omega
 have hto : ((pos : Int) + L).toNat = pos + L := by omega
 have hsub : pos + L - pos = L := by omega
 have G1 : ((w.alloc tokO).alloc (tokB 1 pos L)).heap[w.heap.size]? = some tokO := (Below.heap_alloc _ _ _ (by simp)).trans (heap_alloc_new _ _)
 have G2 : ((w.alloc tokO).alloc (tokB 1 pos L)).heap[w.heap.size + 1]? = some (tokB 1 pos L) := by
  have := heap_alloc_new (w.alloc tokO) (tokB 1 pos L)
  rwa [World.size_alloc] at this
 have HG1 : Hid _ := G1; have HG2 : Hid _ := G2; have HBB : Hid _ := HB2; rw [← en] at h1; clear hb hc ex en HB1 HB2 G1 G2 eys eL hle hrun hrr hlen hLn; subst h46
 have HBK := fun W => blank_any y W hry.1 hry.2
 rw [hbk] at HBK; rw [show digitB 46 = false from by decide] at HD; rw [show alnumB 46 = false from by decide] at HA; rw [show symbolB 46 = true from by decide] at HS
 have y37 : (y == 37) = false := by simpa using h37
 have h1n : ¬ ((pos : Int) + 1 = n) := by omega
 have h1b : (((pos : Int) + 1) == (n : Int)) = false := by simp; omega
 have h1I : (pos : Int) + 1 < n := by omega
 clear hbk h37 HSM ey
 go_enter Tryz.func13, Tryz.ntmps13
 go_wp2_with (first | (go_at_call 31; refine (HD _).mono ?_; rintro e w' ⟨rfl, rfl⟩) | (go_at_call 33; refine (HA _).mono ?_; rintro e w' ⟨rfl, rfl⟩) | (go_at_call 36; refine (HS _).mono ?_; rintro e w' ⟨rfl, rfl⟩) | (go_at_call 34; refine HRUN.mono ?_; rintro e w' ⟨rfl, rfl⟩) | (go_at_call 30; refine (HBK _).mono ?_; rintro e w' ⟨rfl, rfl⟩)); refine HCP.mono ?_; rintro e w5 ⟨p5, n5, c5, rfl, ho5, hb5⟩; obtain ⟨⟨a0, a1, a2, a3, a4⟩, af⟩ := five_cells ((hb5.block _ (by simp; omega)).trans HG1.out); obtain ⟨⟨e0, e1, e2, e3, e4⟩, ef⟩ := five_cells ((hb5.block _ (by simp)).trans HG2.out); have HO5 : Hid _ := ho5; have HB5 : Hid _ := hb5; have hn5 : n5 = L := ho5.1.trans HLEN.out; subst hn5; clear ho5 hb5 HCP
 by_cases h100 : 100 < n5
 ·have h100I : (100 : Int) < n5 := by omega
  have hrr := HRR.out; rw [if_pos h100] at hrr; have HR3 : Hid _ := hrr; clear hrr HRR; go_wp2_with fail; refine bodyPost_ret (v := .tuple #[tokV 0 0 0 none 0 0 0, .int .i64 3]) (by simp [results, Tryz.results13, go_sem, a0, a1, a2, a3, a4]) rfl ?_; have hf := tok_fin HBB.out (by simp) HB5.out HO5.out (.slice p5 n5 c5) (.int .i64 0) (.int .i64 0) (.int .i64 0) (.slice none 0 0) (.int .i64 0); exact tokSOut_of (r := .error 3) ⟨0, 0, 0, 0, rfl, hf.2⟩ HR3.out
 ·have h100I : ¬ (100 : Int) < n5 := by omega
  have hrr := HRR.out; rw [if_neg h100] at hrr; have HR3 : Hid _ := hrr; clear hrr HRR; go_wp2_with fail; refine bodyPost_ret (v := .tuple #[tokV 1 pos n5 p5 n5 c5 0, .int .i64 0]) (by simp [results, Tryz.results13, go_sem, a0, a1, a2, a3, a4]) rfl ?_; have hf := tok_fin HBB.out (by simp) HB5.out HO5.out (.slice p5 n5 c5) (.int .i64 1) (.int .i64 pos) (.int .i64 n5) (.slice p5 n5 c5) (.int .i64 0); exact tokSOut_of (r := .ok (1, n5, _, 0)) ⟨p5, n5, c5, rfl, hf.1, hf.2⟩ HR3.out
set_option maxHeartbeats 8000000 in
theorem tokEnd_any (b cap pos : Nat) (call : Bool) (xs : List Int) (w : World) (hb : Bytes xs) (hn : xs.length ≤ 10000) (hcap : xs.length ≤ cap) (hp : pos < xs.length) (hc : ∀ m, m < xs.length → w.cell? ⟨b, m, none⟩ = some (.int .u8 (xs.getD m 0))) (h46 : xs.getD pos 0 = 46) (hend : endsI (byteI xs (pos + 1)) = true) :
 Calls Tryz.prog 13 #[.slice (some ⟨b, 0, none⟩) xs.length cap, .int .i64 pos, .bool call] w (TokSOut w pos (.ok (7, 1, [], 0))) := by
 have hx := hc pos hp
 obtain ⟨n, en⟩ : ∃ n, n = xs.length := ⟨_, rfl⟩
 rw [h46] at hx; have HN : Hid (n = xs.length) := en; have HBY : Hid (Bytes xs) := hb
 have HC : Hid (∀ m, m < n → w.cell? ⟨b, m, none⟩ = some (.int .u8 (xs.getD m 0))) := by rw [en]; exact hc
 rw [← en] at hn hcap hp ⊢; have hbl : b < w.heap.size := World.block_lt_of_cell? _ _ hx
 have HD := fun W => digit_any 46 W (by decide) (by decide)
 have HA := fun W => alnum_any 46 W (by decide) (by decide)
 rw [show digitB 46 = false from by decide] at HD; rw [show alnumB 46 = false from by decide] at HA; have HBB : Hid (Below w.heap.size w ((w.alloc (.cells #[.int .i64 7, .int .i64 pos, .int .i64 1, .slice none 0 0, .int .i64 0] 28)).alloc (tokB 1 pos 0))) := ((Below.refl _ _).alloc (Nat.le_refl _) _).alloc (by simp) _; clear hb hc en h46
 by_cases h1 : pos + 1 < n
 ·have hy := HC.out (pos + 1) h1
  have hry := HBY.out.at (pos + 1); have hby : byteI xs (pos + 1) = xs.getD (pos + 1) 0 := byteI_lt (by rw [← HN.out]; exact h1)
  obtain ⟨y, ey⟩ : ∃ y, y = xs.getD (pos + 1) 0 := ⟨_, rfl⟩
  rw [← ey] at hy hry hby; rw [hby] at hend
  have HBK := fun W => blank_any y W hry.1 hry.2
  have h1b : (((pos : Int) + 1) == (n : Int)) = false := by simp; omega
  have h1n : ¬ ((pos : Int) + 1 = n) := by omega
  have h1I : (pos : Int) + 1 < n := by omega
  clear hby ey HC HBY
  cases hbk : blankB y with
  | true =>
    rw [hbk] at HBK; clear hend hbk
    go_enter Tryz.func13, Tryz.ntmps13
    go_wp2_with (first | (go_at_call 31; refine (HD _).mono ?_; rintro e w' ⟨rfl, rfl⟩) | (go_at_call 33; refine (HA _).mono ?_; rintro e w' ⟨rfl, rfl⟩) | (go_at_call 30; refine (HBK _).mono ?_; rintro e w' ⟨rfl, rfl⟩)); refine bodyPost_ret (v := .tuple #[tokV 7 pos 1 none 0 0 0, .int .i64 0]) (by simp [results, Tryz.results13, go_sem]) rfl ?_; exact ⟨none, 0, 0, rfl, OwnS.nil _ _, HBB.out⟩
  | false =>
    have h37 : y = 37 := by
     have hb' : ¬ (endsI y = true ∧ y ≠ -1 ∧ y ≠ 37) := fun h => by rw [(blank_ends hry.1).2 h] at hbk; cases hbk
     rcases Int.decEq y 37 with h | h
     ·exact absurd ⟨hend, by omega, h⟩ hb'
     ·exact h
    rw [hbk] at HBK; subst h37; clear hend hbk
    go_enter Tryz.func13, Tryz.ntmps13
    go_wp2_with (first | (go_at_call 31; refine (HD _).mono ?_; rintro e w' ⟨rfl, rfl⟩) | (go_at_call 33; refine (HA _).mono ?_; rintro e w' ⟨rfl, rfl⟩) | (go_at_call 30; refine (HBK _).mono ?_; rintro e w' ⟨rfl, rfl⟩)); refine bodyPost_ret (v := .tuple #[tokV 7 pos 1 none 0 0 0, .int .i64 0]) (by simp [results, Tryz.results13, go_sem]) rfl ?_; exact ⟨none, 0, 0, rfl, OwnS.nil _ _, HBB.out⟩
 ·have h1e : (pos : Int) + 1 = n := by omega
  have h1b : (((pos : Int) + 1) == (n : Int)) = true := by simp; omega
  clear hend HC HBY
  go_enter Tryz.func13, Tryz.ntmps13
  go_wp2_with (first | (go_at_call 31; refine (HD _).mono ?_; rintro e w' ⟨rfl, rfl⟩) | (go_at_call 33; refine (HA _).mono ?_; rintro e w' ⟨rfl, rfl⟩)); refine bodyPost_ret (v := .tuple #[tokV 7 pos 1 none 0 0 0, .int .i64 0]) (by simp [results, Tryz.results13, go_sem]) rfl ?_; exact ⟨none, 0, 0, rfl, OwnS.nil _ _, HBB.out⟩
set_option maxHeartbeats 8000000 in
theorem tokPunct_any (b cap pos : Nat) (call : Bool) (xs : List Int) (w : World) (hb : Bytes xs) (hn : xs.length ≤ 10000) (hcap : xs.length ≤ cap) (hp : pos < xs.length) (hc : ∀ m, m < xs.length → w.cell? ⟨b, m, none⟩ = some (.int .u8 (xs.getD m 0)))
 (hone : xs.getD pos 0 = 41 ∨ xs.getD pos 0 = 91 ∨ xs.getD pos 0 = 93 ∨ xs.getD pos 0 = 123 ∨ xs.getD pos 0 = 125 ∨ xs.getD pos 0 = 44 ∨ xs.getD pos 0 = 124) :
 Calls Tryz.prog 13 #[.slice (some ⟨b, 0, none⟩) xs.length cap, .int .i64 pos, .bool call] w (TokSOut w pos (.ok (5, 1, [xs.getD pos 0], 0))) := by
 obtain ⟨n, en⟩ : ∃ n, n = xs.length := ⟨_, rfl⟩
 have hx := hc pos hp; have hr := hb.at pos
 have hys : (xs.drop pos).take 1 = [xs.getD pos 0] := by
  rw [List.getD, List.getElem?_eq_getElem hp, List.drop_eq_getElem_cons hp]; rfl
 have HB2 : Below w.heap.size w ((w.alloc tokO).alloc (tokB 5 pos 1)) := ((Below.refl _ _).alloc (Nat.le_refl _) _).alloc (by simp) _; have HCP := l1copy_all (some ⟨b, pos, none⟩) 1 (cap - pos) ((xs.drop pos).take 1) ((w.alloc tokO).alloc (tokB 5 pos 1)) (by simp; omega) (by simp) ((bin_part hc (by omega)).below HB2); rw [hys] at HCP
 obtain ⟨x, ex⟩ : ∃ x, x = xs.getD pos 0 := ⟨_, rfl⟩
 rw [← ex] at hx hr hone HCP ⊢; rw [← en] at hn hcap hp ⊢
 have hd : digitB x = false := by rcases hone with rfl | rfl | rfl | rfl | rfl | rfl | rfl <;> decide
 have ha : alnumB x = false := by rcases hone with rfl | rfl | rfl | rfl | rfl | rfl | rfl <;> decide
 have hs : symbolB x = false := by rcases hone with rfl | rfl | rfl | rfl | rfl | rfl | rfl <;> decide
 have b46 : (x == 46) = false := by rcases hone with rfl | rfl | rfl | rfl | rfl | rfl | rfl <;> decide
 have HD := fun W => digit_any x W hr.1 hr.2
 have HA := fun W => alnum_any x W hr.1 hr.2
 have HS := fun W => symbol_any x W hr.1 hr.2
 rw [hd] at HD; rw [ha] at HA; rw [hs] at HS; have hbl : b < w.heap.size := World.block_lt_of_cell? _ _ hx
 have hcp1 : ¬ cap = pos := by omega
 have hp0 : (0 : Int) ≤ (pos : Int) := by omega
 have hp1 : (0 : Int) ≤ (pos : Int) + 1 := by omega
 have hp2 : (pos : Int) + 1 ≤ (cap : Int) := by omega
 have hp3 : (pos : Int) ≤ (pos : Int) + 1 := by omega
 have hto : ((pos : Int) + 1).toNat = pos + 1 := by omega
 have hsub : pos + 1 - pos = 1 := by omega
 have G1 : ((w.alloc tokO).alloc (tokB 5 pos 1)).heap[w.heap.size]? = some tokO := (Below.heap_alloc _ _ _ (by simp)).trans (heap_alloc_new _ _)
 have G2 : ((w.alloc tokO).alloc (tokB 5 pos 1)).heap[w.heap.size + 1]? = some (tokB 5 pos 1) := by
  have := heap_alloc_new (w.alloc tokO) (tokB 5 pos 1)
  rwa [World.size_alloc] at this
 have HG1 : Hid _ := G1; have HG2 : Hid _ := G2; have HBB : Hid _ := HB2; clear hb hc ex hd ha hs en hys HB2 G1 G2
 rcases hone with rfl | rfl | rfl | rfl | rfl | rfl | rfl
 all_goals
  go_enter Tryz.func13, Tryz.ntmps13
  go_wp2_with (first | (go_at_call 31; refine (HD _).mono ?_; rintro e w' ⟨rfl, rfl⟩) | (go_at_call 33; refine (HA _).mono ?_; rintro e w' ⟨rfl, rfl⟩) | (go_at_call 36; refine (HS _).mono ?_; rintro e w' ⟨rfl, rfl⟩)); refine HCP.mono ?_; rintro e w5 ⟨p5, n5, c5, rfl, ho5, hb5⟩; obtain ⟨⟨a0, a1, a2, a3, a4⟩, af⟩ := five_cells ((hb5.block _ (by simp; omega)).trans HG1.out); obtain ⟨⟨e0, e1, e2, e3, e4⟩, ef⟩ := five_cells ((hb5.block _ (by simp)).trans HG2.out); have HO5 : Hid _ := ho5; have HB5 : Hid _ := hb5; have hn5 : n5 = 1 := ho5.1; subst hn5; clear ho5 hb5 HCP; go_wp2_with fail; refine bodyPost_ret (v := .tuple #[tokV 5 pos 1 p5 1 c5 0, .int .i64 0]) (by simp [results, Tryz.results13, go_sem, a0, a1, a2, a3, a4]) rfl ?_; have hf := tok_fin HBB.out (by simp) HB5.out HO5.out (.slice p5 1 c5) (.int .i64 5) (.int .i64 pos) (.int .i64 1) (.slice p5 1 c5) (.int .i64 0)
  exact ⟨p5, 1, c5, rfl, hf.1, hf.2⟩
set_option maxHeartbeats 8000000 in
theorem tokParen_any (b cap pos : Nat) (call : Bool) (xs : List Int) (w : World) (hb : Bytes xs) (hn : xs.length ≤ 10000) (hcap : xs.length ≤ cap) (hp : pos < xs.length) (hc : ∀ m, m < xs.length → w.cell? ⟨b, m, none⟩ = some (.int .u8 (xs.getD m 0)))
 (hone : xs.getD pos 0 = 40) (hcl : call = false) :
 Calls Tryz.prog 13 #[.slice (some ⟨b, 0, none⟩) xs.length cap, .int .i64 pos, .bool call] w (TokSOut w pos (.ok (5, 1, [xs.getD pos 0], 0))) := by
 subst hcl
 obtain ⟨n, en⟩ : ∃ n, n = xs.length := ⟨_, rfl⟩
 have hx := hc pos hp; have hr := hb.at pos
 have hys : (xs.drop pos).take 1 = [xs.getD pos 0] := by
  rw [List.getD, List.getElem?_eq_getElem hp, List.drop_eq_getElem_cons hp]; rfl
 have HB2 : Below w.heap.size w ((w.alloc tokO).alloc (tokB 5 pos 1)) := ((Below.refl _ _).alloc (Nat.le_refl _) _).alloc (by simp) _; have HCP := l1copy_all (some ⟨b, pos, none⟩) 1 (cap - pos) ((xs.drop pos).take 1) ((w.alloc tokO).alloc (tokB 5 pos 1)) (by simp; omega) (by simp) ((bin_part hc (by omega)).below HB2); rw [hys] at HCP
 obtain ⟨x, ex⟩ : ∃ x, x = xs.getD pos 0 := ⟨_, rfl⟩
 rw [← ex] at hx hr hone HCP ⊢; rw [← en] at hn hcap hp ⊢
 have hd : digitB x = false := by rw [hone]; decide
 have ha : alnumB x = false := by rw [hone]; decide
 have hs : symbolB x = false := by rw [hone]; decide
 have b46 : (x == 46) = false := by rw [hone]; decide
 have HD := fun W => digit_any x W hr.1 hr.2
 have HA := fun W => alnum_any x W hr.1 hr.2
 have HS := fun W => symbol_any x W hr.1 hr.2
 rw [hd] at HD; rw [ha] at HA; rw [hs] at HS; have hbl : b < w.heap.size := World.block_lt_of_cell? _ _ hx
 have hcp1 : ¬ cap = pos := by omega
 have hp0 : (0 : Int) ≤ (pos : Int) := by omega
 have hp1 : (0 : Int) ≤ (pos : Int) + 1 := by omega
 have hp2 : (pos : Int) + 1 ≤ (cap : Int) := by omega
 have hp3 : (pos : Int) ≤ (pos : Int) + 1 := by omega
 have hto : ((pos : Int) + 1).toNat = pos + 1 := by omega
 have hsub : pos + 1 - pos = 1 := by omega
 have G1 : ((w.alloc tokO).alloc (tokB 5 pos 1)).heap[w.heap.size]? = some tokO := (Below.heap_alloc _ _ _ (by simp)).trans (heap_alloc_new _ _)
 have G2 : ((w.alloc tokO).alloc (tokB 5 pos 1)).heap[w.heap.size + 1]? = some (tokB 5 pos 1) := by
  have := heap_alloc_new (w.alloc tokO) (tokB 5 pos 1)
  rwa [World.size_alloc] at this
 have HG1 : Hid _ := G1; have HG2 : Hid _ := G2; have HBB : Hid _ := HB2; clear hb hc ex hd ha hs en hys HB2 G1 G2; subst hone
 all_goals
  go_enter Tryz.func13, Tryz.ntmps13
  go_wp2_with (first | (go_at_call 31; refine (HD _).mono ?_; rintro e w' ⟨rfl, rfl⟩) | (go_at_call 33; refine (HA _).mono ?_; rintro e w' ⟨rfl, rfl⟩) | (go_at_call 36; refine (HS _).mono ?_; rintro e w' ⟨rfl, rfl⟩)); refine HCP.mono ?_; rintro e w5 ⟨p5, n5, c5, rfl, ho5, hb5⟩; obtain ⟨⟨a0, a1, a2, a3, a4⟩, af⟩ := five_cells ((hb5.block _ (by simp; omega)).trans HG1.out); obtain ⟨⟨e0, e1, e2, e3, e4⟩, ef⟩ := five_cells ((hb5.block _ (by simp)).trans HG2.out); have HO5 : Hid _ := ho5; have HB5 : Hid _ := hb5; have hn5 : n5 = 1 := ho5.1; subst hn5; clear ho5 hb5 HCP; go_wp2_with fail; refine bodyPost_ret (v := .tuple #[tokV 5 pos 1 p5 1 c5 0, .int .i64 0]) (by simp [results, Tryz.results13, go_sem, a0, a1, a2, a3, a4]) rfl ?_; have hf := tok_fin HBB.out (by simp) HB5.out HO5.out (.slice p5 1 c5) (.int .i64 5) (.int .i64 pos) (.int .i64 1) (.slice p5 1 c5) (.int .i64 0)
  exact ⟨p5, 1, c5, rfl, hf.1, hf.2⟩
set_option maxHeartbeats 8000000 in
theorem tokCall_any (b cap pos : Nat) (call : Bool) (xs : List Int) (w : World) (hb : Bytes xs) (hn : xs.length ≤ 10000) (hcap : xs.length ≤ cap) (hp : pos < xs.length) (hc : ∀ m, m < xs.length → w.cell? ⟨b, m, none⟩ = some (.int .u8 (xs.getD m 0)))
 (hone : xs.getD pos 0 = 40) (hcl : call = true) :
 Calls Tryz.prog 13 #[.slice (some ⟨b, 0, none⟩) xs.length cap, .int .i64 pos, .bool call] w (TokSOut w pos (.ok (6, 1, [xs.getD pos 0], 0))) := by
 subst hcl
 obtain ⟨n, en⟩ : ∃ n, n = xs.length := ⟨_, rfl⟩
 have hx := hc pos hp; have hr := hb.at pos
 have hys : (xs.drop pos).take 1 = [xs.getD pos 0] := by
  rw [List.getD, List.getElem?_eq_getElem hp, List.drop_eq_getElem_cons hp]; rfl
 have HB2 : Below w.heap.size w ((w.alloc tokO).alloc (tokB 6 pos 1)) := ((Below.refl _ _).alloc (Nat.le_refl _) _).alloc (by simp) _; have HCP := l1copy_all (some ⟨b, pos, none⟩) 1 (cap - pos) ((xs.drop pos).take 1) ((w.alloc tokO).alloc (tokB 6 pos 1)) (by simp; omega) (by simp) ((bin_part hc (by omega)).below HB2); rw [hys] at HCP
 obtain ⟨x, ex⟩ : ∃ x, x = xs.getD pos 0 := ⟨_, rfl⟩
 rw [← ex] at hx hr hone HCP ⊢; rw [← en] at hn hcap hp ⊢
 have hd : digitB x = false := by rw [hone]; decide
 have ha : alnumB x = false := by rw [hone]; decide
 have hs : symbolB x = false := by rw [hone]; decide
 have b46 : (x == 46) = false := by rw [hone]; decide
 have HD := fun W => digit_any x W hr.1 hr.2
 have HA := fun W => alnum_any x W hr.1 hr.2
 have HS := fun W => symbol_any x W hr.1 hr.2
 rw [hd] at HD; rw [ha] at HA; rw [hs] at HS; have hbl : b < w.heap.size := World.block_lt_of_cell? _ _ hx
 have hcp1 : ¬ cap = pos := by omega
 have hp0 : (0 : Int) ≤ (pos : Int) := by omega
 have hp1 : (0 : Int) ≤ (pos : Int) + 1 := by omega
 have hp2 : (pos : Int) + 1 ≤ (cap : Int) := by omega
 have hp3 : (pos : Int) ≤ (pos : Int) + 1 := by omega
 have hto : ((pos : Int) + 1).toNat = pos + 1 := by omega
 have hsub : pos + 1 - pos = 1 := by omega
 have G1 : ((w.alloc tokO).alloc (tokB 6 pos 1)).heap[w.heap.size]? = some tokO := (Below.heap_alloc _ _ _ (by simp)).trans (heap_alloc_new _ _)
 have G2 : ((w.alloc tokO).alloc (tokB 6 pos 1)).heap[w.heap.size + 1]? = some (tokB 6 pos 1) := by
  have := heap_alloc_new (w.alloc tokO) (tokB 6 pos 1)
  rwa [World.size_alloc] at this
 have HG1 : Hid _ := G1; have HG2 : Hid _ := G2; have HBB : Hid _ := HB2; clear hb hc ex hd ha hs en hys HB2 G1 G2; subst hone
 all_goals
  go_enter Tryz.func13, Tryz.ntmps13
  go_wp2_with (first | (go_at_call 31; refine (HD _).mono ?_; rintro e w' ⟨rfl, rfl⟩) | (go_at_call 33; refine (HA _).mono ?_; rintro e w' ⟨rfl, rfl⟩) | (go_at_call 36; refine (HS _).mono ?_; rintro e w' ⟨rfl, rfl⟩)); refine HCP.mono ?_; rintro e w5 ⟨p5, n5, c5, rfl, ho5, hb5⟩; obtain ⟨⟨a0, a1, a2, a3, a4⟩, af⟩ := five_cells ((hb5.block _ (by simp; omega)).trans HG1.out); obtain ⟨⟨e0, e1, e2, e3, e4⟩, ef⟩ := five_cells ((hb5.block _ (by simp)).trans HG2.out); have HO5 : Hid _ := ho5; have HB5 : Hid _ := hb5; have hn5 : n5 = 1 := ho5.1; subst hn5; clear ho5 hb5 HCP; go_wp2_with fail; refine bodyPost_ret (v := .tuple #[tokV 6 pos 1 p5 1 c5 0, .int .i64 0]) (by simp [results, Tryz.results13, go_sem, a0, a1, a2, a3, a4]) rfl ?_; have hf := tok_fin HBB.out (by simp) HB5.out HO5.out (.slice p5 1 c5) (.int .i64 6) (.int .i64 pos) (.int .i64 1) (.slice p5 1 c5) (.int .i64 0)
  exact ⟨p5, 1, c5, rfl, hf.1, hf.2⟩
theorem num_shape {xs : List Int} {pos : Nat} {k : Int} {l : Nat} {ys : List Int} {v : Int} (h : numR xs pos = .ok (k, l, ys, v)) : k = 3 ∧ ys = [] := by
 unfold numR at h
 split at h
 ·cases h
 ·split at h
  ·cases h
  ·split at h
   ·cases h
   ·cases h; exact ⟨rfl, rfl⟩
theorem tok_fin1 {w W2 w5 : World} (hB2 : Below w.heap.size w W2) (hb5 : Below W2.heap.size W2 w5) (u0 u1 u2 u3 u4 : Value) :
 Below w.heap.size w (((((w5.setCell ⟨w.heap.size, 0, none⟩ u0).setCell ⟨w.heap.size, 1, none⟩ u1).setCell ⟨w.heap.size, 2, none⟩ u2).setCell ⟨w.heap.size, 3, none⟩ u3).setCell ⟨w.heap.size, 4, none⟩ u4) := by
 have hb : Below w.heap.size w w5 := Below.on hB2 hb5; exact ((((hb.setCell (p := ⟨w.heap.size, 0, none⟩) (Nat.le_refl _) u0).setCell (p := ⟨w.heap.size, 1, none⟩) (Nat.le_refl _) u1).setCell (p := ⟨w.heap.size, 2, none⟩) (Nat.le_refl _) u2).setCell (p := ⟨w.heap.size, 3, none⟩) (Nat.le_refl _) u3).setCell (p := ⟨w.heap.size, 4, none⟩) (Nat.le_refl _) u4
theorem tok_fin2 {w W2 w5 : World} {p5 : Option Addr} {n5 c5 : Nat} {ys : List Int} (hB2 : Below w.heap.size w W2) (hs2 : W2.heap.size = w.heap.size + 1 + 1) (hb5 : Below W2.heap.size W2 w5) (ho5 : OwnS w5 W2.heap.size p5 n5 c5 ys) (u v u0 u1 u2 u3 u4 : Value) :
 OwnS (((((((w5.setCell ⟨w.heap.size + 1, 3, none⟩ u).setCell ⟨w.heap.size + 1, 2, none⟩ v).setCell ⟨w.heap.size, 0, none⟩ u0).setCell ⟨w.heap.size, 1, none⟩ u1).setCell ⟨w.heap.size, 2, none⟩ u2).setCell ⟨w.heap.size, 3, none⟩ u3).setCell ⟨w.heap.size, 4, none⟩ u4) w.heap.size p5 n5 c5 ys ∧
 Below w.heap.size w (((((((w5.setCell ⟨w.heap.size + 1, 3, none⟩ u).setCell ⟨w.heap.size + 1, 2, none⟩ v).setCell ⟨w.heap.size, 0, none⟩ u0).setCell ⟨w.heap.size, 1, none⟩ u1).setCell ⟨w.heap.size, 2, none⟩ u2).setCell ⟨w.heap.size, 3, none⟩ u3).setCell ⟨w.heap.size, 4, none⟩ u4) := by
 have h0 : ∀ j, (⟨w.heap.size, j, none⟩ : Addr).block < W2.heap.size := fun j => by show w.heap.size < _; omega
 have h1 : ∀ j, (⟨w.heap.size + 1, j, none⟩ : Addr).block < W2.heap.size := fun j => by show w.heap.size + 1 < _; omega
 refine ⟨(((((((ho5.setLow (h1 3) u).setLow (h1 2) v).setLow (h0 0) u0).setLow (h0 1) u1).setLow (h0 2) u2).setLow (h0 3) u3).setLow (h0 4) u4).mono' (by omega), ?_⟩; have hb : Below w.heap.size w w5 := Below.on hB2 hb5; exact ((((((hb.setCell (p := ⟨w.heap.size + 1, 3, none⟩) (Nat.le_succ _) u).setCell (p := ⟨w.heap.size + 1, 2, none⟩) (Nat.le_succ _) v).setCell (p := ⟨w.heap.size, 0, none⟩) (Nat.le_refl _) u0).setCell (p := ⟨w.heap.size, 1, none⟩) (Nat.le_refl _) u1).setCell (p := ⟨w.heap.size, 2, none⟩) (Nat.le_refl _) u2).setCell (p := ⟨w.heap.size, 3, none⟩) (Nat.le_refl _) u3).setCell (p := ⟨w.heap.size, 4, none⟩) (Nat.le_refl _) u4
set_option maxHeartbeats 8000000 in
theorem tokNum_any (b cap pos : Nat) (call : Bool) (xs : List Int) (w : World) (hb : Bytes xs) (hn : xs.length ≤ 10000) (hcap : xs.length ≤ cap) (hp : pos < xs.length) (hc : ∀ m, m < xs.length → w.cell? ⟨b, m, none⟩ = some (.int .u8 (xs.getD m 0))) (hd : digitB (xs.getD pos 0) = true) :
 Calls Tryz.prog 13 #[.slice (some ⟨b, 0, none⟩) xs.length cap, .int .i64 pos, .bool call] w (TokSOut w pos (numR xs pos)) := by
 have hx := hc pos hp; have hr := hb.at pos; have HB1 : Below w.heap.size w ((w.alloc tokO).alloc (tokB 1 pos 0)) := ((Below.refl _ _).alloc (Nat.le_refl _) _).alloc (by simp) _; have HNU := numberS_any b cap pos xs ((w.alloc tokO).alloc (tokB 1 pos 0)) hb hn hp (fun i hi => (HB1.cell (World.block_lt_of_cell? _ _ (hc i hi))).trans (hc i hi))
 obtain ⟨n, en⟩ : ∃ n, n = xs.length := ⟨_, rfl⟩
 obtain ⟨x, ex⟩ : ∃ x, x = xs.getD pos 0 := ⟨_, rfl⟩
 rw [← ex] at hx hr hd; rw [← en] at hn hcap hp HNU ⊢; have hbl : b < w.heap.size := World.block_lt_of_cell? _ _ hx
 have HD := fun W => digit_any x W hr.1 hr.2
 rw [hd] at HD; have G1 : ((w.alloc tokO).alloc (tokB 1 pos 0)).heap[w.heap.size]? = some tokO := (Below.heap_alloc _ _ _ (by simp)).trans (heap_alloc_new _ _); have HG1 : Hid _ := G1; have HBB : Hid _ := HB1
 obtain ⟨r, er⟩ : ∃ r, r = numS (numR xs pos) := ⟨_, rfl⟩
 rw [← er] at HNU; have HR : Hid (r = numS (numR xs pos)) := er; obtain ⟨v, l, cd⟩ := r; clear hb hc ex en hd er HB1 G1
 go_enter Tryz.func13, Tryz.ntmps13
 go_wp2_with (first | (go_at_call 31; refine (HD _).mono ?_; rintro e w' ⟨rfl, rfl⟩)); refine HNU.mono ?_; rintro e w5 ⟨rfl, hb5⟩; obtain ⟨⟨a0, a1, a2, a3, a4⟩, af⟩ := five_cells ((hb5.block _ (by simp; omega)).trans HG1.out); have HB5 : Hid _ := hb5; clear hb5 HNU; simp only; go_wp2_with fail; refine bodyPost_ret (v := .tuple #[tokV 3 pos l none 0 0 v, .int .i64 cd]) (by simp [results, Tryz.results13, go_sem, a0, a1, a2, a3, a4]) rfl ?_; have hf := tok_fin1 HBB.out HB5.out (.int .i64 3) (.int .i64 pos) (.int .i64 l) (.slice none 0 0) (.int .i64 v); have hR := HR.out
 cases hn' : numR xs pos with
 | error c =>
   rw [hn'] at hR; simp only [numS, Prod.mk.injEq] at hR; obtain ⟨rfl, rfl, rfl⟩ := hR; exact ⟨3, pos, _, _, rfl, hf⟩
 | ok q =>
   obtain ⟨k, l', ys, v'⟩ := q; rw [hn'] at hR; simp only [numS, Prod.mk.injEq] at hR; obtain ⟨rfl, rfl, rfl⟩ := hR; obtain ⟨rfl, rfl⟩ := num_shape hn'; exact ⟨none, 0, 0, rfl, OwnS.nil _ _, hf⟩
set_option maxHeartbeats 8000000 in
theorem tokQuote_any (b cap pos : Nat) (call : Bool) (xs : List Int) (w : World) (hb : Bytes xs) (hn : xs.length ≤ 10000) (hcap : xs.length ≤ cap) (hp : pos < xs.length) (hc : ∀ m, m < xs.length → w.cell? ⟨b, m, none⟩ = some (.int .u8 (xs.getD m 0))) (hq : xs.getD pos 0 = 39) :
 Calls Tryz.prog 13 #[.slice (some ⟨b, 0, none⟩) xs.length cap, .int .i64 pos, .bool call] w (TokSOut w pos (quoR xs 1 pos)) := by
 have hx := hc pos hp; have HB1 : Below w.heap.size w ((w.alloc tokO).alloc (tokB 1 pos 0)) := ((Below.refl _ _).alloc (Nat.le_refl _) _).alloc (by simp) _; have HTX := textS_any b cap pos 39 xs ((w.alloc tokO).alloc (tokB 1 pos 0)) hb hn hp hq (by omega) (fun i hi => (HB1.cell (World.block_lt_of_cell? _ _ (hc i hi))).trans (hc i hi))
 have hqr : quoR xs 1 pos = match txtI xs 39 (pos + 1) [] with
  | none => .error 2
  | some (ys, j) => if 100 < ys.length then .error 3 else .ok (1, j - pos, ys, 0) := by rw [quoR, byteI_lt hp, hq]; rfl
 obtain ⟨n, en⟩ : ∃ n, n = xs.length := ⟨_, rfl⟩
 rw [hq] at hx; rw [← en] at hn hcap hp HTX ⊢; have hbl : b < w.heap.size := World.block_lt_of_cell? _ _ hx
 have HD := fun W => digit_any 39 W (by decide) (by decide)
 have HA := fun W => alnum_any 39 W (by decide) (by decide)
 have HS := fun W => symbol_any 39 W (by decide) (by decide)
 rw [show digitB 39 = false from by decide] at HD; rw [show alnumB 39 = false from by decide] at HA; rw [show symbolB 39 = false from by decide] at HS; have G1 : ((w.alloc tokO).alloc (tokB 1 pos 0)).heap[w.heap.size]? = some tokO := (Below.heap_alloc _ _ _ (by simp)).trans (heap_alloc_new _ _)
 have G2 : ((w.alloc tokO).alloc (tokB 1 pos 0)).heap[w.heap.size + 1]? = some (tokB 1 pos 0) := by
  have := heap_alloc_new (w.alloc tokO) (tokB 1 pos 0)
  rwa [World.size_alloc] at this
 have HG1 : Hid _ := G1; have HG2 : Hid _ := G2; have HBB : Hid _ := HB1; clear hb hc en hq HB1 G1 G2
 cases htx : txtI xs 39 (pos + 1) [] with
 | none =>
   rw [htx] at HTX hqr; have HR : Hid (quoR xs 1 pos = .error 2) := hqr; clear htx hqr
   go_enter Tryz.func13, Tryz.ntmps13
   go_wp2_with (first | (go_at_call 31; refine (HD _).mono ?_; rintro e w' ⟨rfl, rfl⟩) | (go_at_call 33; refine (HA _).mono ?_; rintro e w' ⟨rfl, rfl⟩) | (go_at_call 36; refine (HS _).mono ?_; rintro e w' ⟨rfl, rfl⟩)); refine HTX.mono ?_; rintro e w5 ⟨rfl, hb5⟩; obtain ⟨⟨a0, a1, a2, a3, a4⟩, af⟩ := five_cells ((hb5.block _ (by simp; omega)).trans HG1.out); have HB5 : Hid _ := hb5; clear hb5 HTX; go_wp2_with fail; refine bodyPost_ret (v := .tuple #[tokV 0 0 0 none 0 0 0, .int .i64 2]) (by simp [results, Tryz.results13, go_sem, a0, a1, a2, a3, a4]) rfl ?_; have hf := tok_fin1 HBB.out HB5.out (.int .i64 0) (.int .i64 0) (.int .i64 0) (.slice none 0 0) (.int .i64 0); exact tokSOut_of (r := .error 2) ⟨0, 0, 0, 0, rfl, hf⟩ HR.out
 | some r =>
   obtain ⟨ys, j⟩ := r; rw [htx] at HTX hqr; have HR : Hid (quoR xs 1 pos = if 100 < ys.length then .error 3 else .ok (1, j - pos, ys, 0)) := hqr; clear htx hqr
   go_enter Tryz.func13, Tryz.ntmps13
   go_wp2_with (first | (go_at_call 31; refine (HD _).mono ?_; rintro e w' ⟨rfl, rfl⟩) | (go_at_call 33; refine (HA _).mono ?_; rintro e w' ⟨rfl, rfl⟩) | (go_at_call 36; refine (HS _).mono ?_; rintro e w' ⟨rfl, rfl⟩)); refine HTX.mono ?_; rintro e w5 ⟨p5, n5, c5, rfl, ho5, hb5, hj1, hj2⟩; obtain ⟨⟨a0, a1, a2, a3, a4⟩, af⟩ := five_cells ((hb5.block _ (by simp; omega)).trans HG1.out); obtain ⟨⟨e0, e1, e2, e3, e4⟩, ef⟩ := five_cells ((hb5.block _ (by simp)).trans HG2.out); have HO5 : Hid _ := ho5; have HB5 : Hid _ := hb5; have HN5 : Hid (n5 = ys.length) := ho5.1
   obtain ⟨d, ed⟩ : ∃ d, d = j - pos := ⟨_, rfl⟩
   rw [← ed] at HR ⊢
   have hd1 : 1 ≤ d := by omega
   have hd2 : d ≤ 30001 := by omega
   have hd0 : ((d : Int) == 0) = false := by simp; omega
   have hn5b : n5 ≤ 1000000 ∨ True := .inr trivial; clear ho5 hb5 HTX ed hj1 hj2 hn5b
   by_cases h100 : 100 < n5
   ·have h100I : (100 : Int) < n5 := by omega
    have hrr := HR.out; rw [if_pos (by rw [← HN5.out]; exact h100)] at hrr; have HR3 : Hid _ := hrr; clear hrr HR; go_wp2_with fail; refine bodyPost_ret (v := .tuple #[tokV 0 0 0 none 0 0 0, .int .i64 3]) (by simp [results, Tryz.results13, go_sem, a0, a1, a2, a3, a4]) rfl ?_; have hf := tok_fin2 HBB.out (by simp) HB5.out HO5.out (.slice p5 n5 c5) (.int .i64 d) (.int .i64 0) (.int .i64 0) (.int .i64 0) (.slice none 0 0) (.int .i64 0); exact tokSOut_of (r := .error 3) ⟨0, 0, 0, 0, rfl, hf.2⟩ HR3.out
   ·have h100I : ¬ (100 : Int) < n5 := by omega
    have hrr := HR.out; rw [if_neg (by rw [← HN5.out]; exact h100)] at hrr; have HR3 : Hid _ := hrr; clear hrr HR; go_wp2_with fail; refine bodyPost_ret (v := .tuple #[tokV 1 pos d p5 n5 c5 0, .int .i64 0]) (by simp [results, Tryz.results13, go_sem, a0, a1, a2, a3, a4]) rfl ?_; have hf := tok_fin2 HBB.out (by simp) HB5.out HO5.out (.slice p5 n5 c5) (.int .i64 d) (.int .i64 1) (.int .i64 pos) (.int .i64 d) (.slice p5 n5 c5) (.int .i64 0); exact tokSOut_of (r := .ok (1, d, ys, 0)) ⟨p5, n5, c5, rfl, hf.1, hf.2⟩ HR3.out
set_option maxHeartbeats 8000000 in
theorem tokString_any (b cap pos : Nat) (call : Bool) (xs : List Int) (w : World) (hb : Bytes xs) (hn : xs.length ≤ 10000) (hcap : xs.length ≤ cap) (hp : pos < xs.length) (hc : ∀ m, m < xs.length → w.cell? ⟨b, m, none⟩ = some (.int .u8 (xs.getD m 0))) (hq : xs.getD pos 0 = 34) :
 Calls Tryz.prog 13 #[.slice (some ⟨b, 0, none⟩) xs.length cap, .int .i64 pos, .bool call] w (TokSOut w pos (quoR xs 4 pos)) := by
 have hx := hc pos hp; have HB1 : Below w.heap.size w ((w.alloc tokO).alloc (tokB 4 pos 0)) := ((Below.refl _ _).alloc (Nat.le_refl _) _).alloc (by simp) _; have HTX := textS_any b cap pos 34 xs ((w.alloc tokO).alloc (tokB 4 pos 0)) hb hn hp hq (by omega) (fun i hi => (HB1.cell (World.block_lt_of_cell? _ _ (hc i hi))).trans (hc i hi))
 have hqr : quoR xs 4 pos = match txtI xs 34 (pos + 1) [] with
  | none => .error 2
  | some (ys, j) => if 100 < ys.length then .error 3 else .ok (4, j - pos, ys, 0) := by rw [quoR, byteI_lt hp, hq]; rfl
 obtain ⟨n, en⟩ : ∃ n, n = xs.length := ⟨_, rfl⟩
 rw [hq] at hx; rw [← en] at hn hcap hp HTX ⊢; have hbl : b < w.heap.size := World.block_lt_of_cell? _ _ hx
 have HD := fun W => digit_any 34 W (by decide) (by decide)
 have HA := fun W => alnum_any 34 W (by decide) (by decide)
 have HS := fun W => symbol_any 34 W (by decide) (by decide)
 rw [show digitB 34 = false from by decide] at HD; rw [show alnumB 34 = false from by decide] at HA; rw [show symbolB 34 = false from by decide] at HS; have G1 : ((w.alloc tokO).alloc (tokB 4 pos 0)).heap[w.heap.size]? = some tokO := (Below.heap_alloc _ _ _ (by simp)).trans (heap_alloc_new _ _)
 have G2 : ((w.alloc tokO).alloc (tokB 4 pos 0)).heap[w.heap.size + 1]? = some (tokB 4 pos 0) := by
  have := heap_alloc_new (w.alloc tokO) (tokB 4 pos 0)
  rwa [World.size_alloc] at this
 have HG1 : Hid _ := G1; have HG2 : Hid _ := G2; have HBB : Hid _ := HB1; clear hb hc en hq HB1 G1 G2
 cases htx : txtI xs 34 (pos + 1) [] with
 | none =>
   rw [htx] at HTX hqr; have HR : Hid (quoR xs 4 pos = .error 2) := hqr; clear htx hqr
   go_enter Tryz.func13, Tryz.ntmps13
   go_wp2_with (first | (go_at_call 31; refine (HD _).mono ?_; rintro e w' ⟨rfl, rfl⟩) | (go_at_call 33; refine (HA _).mono ?_; rintro e w' ⟨rfl, rfl⟩) | (go_at_call 36; refine (HS _).mono ?_; rintro e w' ⟨rfl, rfl⟩)); refine HTX.mono ?_; rintro e w5 ⟨rfl, hb5⟩; obtain ⟨⟨a0, a1, a2, a3, a4⟩, af⟩ := five_cells ((hb5.block _ (by simp; omega)).trans HG1.out); have HB5 : Hid _ := hb5; clear hb5 HTX; go_wp2_with fail; refine bodyPost_ret (v := .tuple #[tokV 0 0 0 none 0 0 0, .int .i64 2]) (by simp [results, Tryz.results13, go_sem, a0, a1, a2, a3, a4]) rfl ?_; have hf := tok_fin1 HBB.out HB5.out (.int .i64 0) (.int .i64 0) (.int .i64 0) (.slice none 0 0) (.int .i64 0); exact tokSOut_of (r := .error 2) ⟨0, 0, 0, 0, rfl, hf⟩ HR.out
 | some r =>
   obtain ⟨ys, j⟩ := r; rw [htx] at HTX hqr; have HR : Hid (quoR xs 4 pos = if 100 < ys.length then .error 3 else .ok (4, j - pos, ys, 0)) := hqr; clear htx hqr
   go_enter Tryz.func13, Tryz.ntmps13
   go_wp2_with (first | (go_at_call 31; refine (HD _).mono ?_; rintro e w' ⟨rfl, rfl⟩) | (go_at_call 33; refine (HA _).mono ?_; rintro e w' ⟨rfl, rfl⟩) | (go_at_call 36; refine (HS _).mono ?_; rintro e w' ⟨rfl, rfl⟩)); refine HTX.mono ?_; rintro e w5 ⟨p5, n5, c5, rfl, ho5, hb5, hj1, hj2⟩; obtain ⟨⟨a0, a1, a2, a3, a4⟩, af⟩ := five_cells ((hb5.block _ (by simp; omega)).trans HG1.out); obtain ⟨⟨e0, e1, e2, e3, e4⟩, ef⟩ := five_cells ((hb5.block _ (by simp)).trans HG2.out); have HO5 : Hid _ := ho5; have HB5 : Hid _ := hb5; have HN5 : Hid (n5 = ys.length) := ho5.1
   obtain ⟨d, ed⟩ : ∃ d, d = j - pos := ⟨_, rfl⟩
   rw [← ed] at HR ⊢
   have hd1 : 1 ≤ d := by omega
   have hd2 : d ≤ 30001 := by omega
   have hd0 : ((d : Int) == 0) = false := by simp; omega
   have hn5b : n5 ≤ 1000000 ∨ True := .inr trivial; clear ho5 hb5 HTX ed hj1 hj2 hn5b
   by_cases h100 : 100 < n5
   ·have h100I : (100 : Int) < n5 := by omega
    have hrr := HR.out; rw [if_pos (by rw [← HN5.out]; exact h100)] at hrr; have HR3 : Hid _ := hrr; clear hrr HR; go_wp2_with fail; refine bodyPost_ret (v := .tuple #[tokV 0 0 0 none 0 0 0, .int .i64 3]) (by simp [results, Tryz.results13, go_sem, a0, a1, a2, a3, a4]) rfl ?_; have hf := tok_fin2 HBB.out (by simp) HB5.out HO5.out (.slice p5 n5 c5) (.int .i64 d) (.int .i64 0) (.int .i64 0) (.int .i64 0) (.slice none 0 0) (.int .i64 0); exact tokSOut_of (r := .error 3) ⟨0, 0, 0, 0, rfl, hf.2⟩ HR3.out
   ·have h100I : ¬ (100 : Int) < n5 := by omega
    have hrr := HR.out; rw [if_neg (by rw [← HN5.out]; exact h100)] at hrr; have HR3 : Hid _ := hrr; clear hrr HR; go_wp2_with fail; refine bodyPost_ret (v := .tuple #[tokV 4 pos d p5 n5 c5 0, .int .i64 0]) (by simp [results, Tryz.results13, go_sem, a0, a1, a2, a3, a4]) rfl ?_; have hf := tok_fin2 HBB.out (by simp) HB5.out HO5.out (.slice p5 n5 c5) (.int .i64 d) (.int .i64 4) (.int .i64 pos) (.int .i64 d) (.slice p5 n5 c5) (.int .i64 0); exact tokSOut_of (r := .ok (4, d, ys, 0)) ⟨p5, n5, c5, rfl, hf.1, hf.2⟩ HR3.out
theorem tokenS_any (b cap pos : Nat) (call : Bool) (xs : List Int) (w : World) (hb : Bytes xs) (hn : xs.length ≤ 10000) (hcap : xs.length ≤ cap) (hp : pos < xs.length) (hc : ∀ m, m < xs.length → w.cell? ⟨b, m, none⟩ = some (.int .u8 (xs.getD m 0))) :
 Calls Tryz.prog 13 #[.slice (some ⟨b, 0, none⟩) xs.length cap, .int .i64 pos, .bool call] w (TokSOut w pos (nextR xs call pos)) := by
 have hr := hb.at pos; obtain ⟨q1, q2, q3, q4, q5, q6, q7⟩ := cls_at hr.1 hr.2
 have hnx : nextR xs call pos = nextF (xs.getD pos 0) call xs pos := by rw [nextR, byteI_lt hp]
 rw [hnx]
 unfold nextF
 cases h1 : smallB (xs.getD pos 0) with
 | true =>
   rw [if_pos (by rw [q1]; exact h1)]
   have hd : digitB (xs.getD pos 0) = false := by simp only [smallB, digitB, decide_eq_true_eq, decide_eq_false_iff_not] at h1 ⊢; omega
   have ha : alnumB (xs.getD pos 0) = true := by simp only [smallB, alnumB, decide_eq_true_eq] at h1 ⊢; omega
   exact tokSmall_any b cap pos call xs w hb hn hcap hp hc hd ha h1
 | false =>
   rw [if_neg (by rw [q1, h1]; simp)]
   cases h4 : digitB (xs.getD pos 0) with
   | true =>
     rw [if_neg (by rw [q3, h1, h4]; simp), if_pos (by rw [q2]; exact h4)]; exact tokNum_any b cap pos call xs w hb hn hcap hp hc h4
   | false =>
     cases ha : alnumB (xs.getD pos 0) with
     | true =>
       rw [if_pos (by rw [q3, h1, h4, ha]; rfl)]; exact tokLarge_any b cap pos call xs w hb hn hcap hp hc h4 ha h1
     | false =>
       rw [if_neg (by rw [q3, ha]; simp), if_neg (by rw [q2, h4]; simp)]
       by_cases h46 : xs.getD pos 0 = 46 ∧ endsI (byteI xs (pos + 1)) = true
       ·rw [if_pos h46]
        exact tokEnd_any b cap pos call xs w hb hn hcap hp hc h46.1 h46.2
       ·rw [if_neg h46]
        cases hs : symbolB (xs.getD pos 0) with
        | true =>
          rw [if_pos (by rw [q4]; exact hs)]
          by_cases hp46 : xs.getD pos 0 = 46
          ·have hne : ¬ endsI (byteI xs (pos + 1)) = true := fun h => h46 ⟨hp46, h⟩
           have h1' : pos + 1 < xs.length := by
            rcases Nat.lt_or_ge (pos + 1) xs.length with h | h
            ·exact h
            ·exact absurd (by rw [byteI_ge h]; decide) hne
           rw [byteI_lt h1'] at hne; have hry := hb.at (pos + 1)
           have hbk : blankB (xs.getD (pos + 1) 0) = false := by
            cases hh : blankB (xs.getD (pos + 1) 0) with
            | false => rfl
            | true => exact absurd ((blank_ends hry.1).1 hh).1 hne
           have h37 : xs.getD (pos + 1) 0 ≠ 37 := fun h => hne (by rw [h]; decide)
           exact tokPoint_any b cap pos call xs w hb hn hcap hp hc hp46 h1' hbk h37
          ·exact tokSym_any b cap pos call xs w hb hn hcap hp hc h4 ha hs hp46
        | false =>
          rw [if_neg (by rw [q4, hs]; simp)]
          cases h32 : isOfB (xs.getD pos 0) 32 with
          | true =>
            rw [if_pos rfl]; refine tokOne_any b cap pos call xs w hb hn hcap hp hc ?_; rw [h32] at q5
            simpa [eq_comm (a := true)] using q5
          | false =>
            rw [if_neg (by simp)]
            by_cases h39 : xs.getD pos 0 = 39
            ·rw [if_pos h39]; exact tokQuote_any b cap pos call xs w hb hn hcap hp hc h39
            ·rw [if_neg h39]
             by_cases h34 : xs.getD pos 0 = 34
             ·rw [if_pos h34]; exact tokString_any b cap pos call xs w hb hn hcap hp hc h34
             ·rw [if_neg h34]
              by_cases h40 : xs.getD pos 0 = 40
              ·cases call with
               | true => rw [if_pos ⟨h40, rfl⟩]; exact tokCall_any b cap pos true xs w hb hn hcap hp hc h40 rfl
               | false =>
                 rw [if_neg (fun h => by simp at h), if_pos (by rw [q6, h40]; rfl)]; exact tokParen_any b cap pos false xs w hb hn hcap hp hc h40 rfl
              ·rw [if_neg (fun h => h40 h.1)]
               cases h64 : isOfB (xs.getD pos 0) 64 with
               | true =>
                 rw [if_pos rfl]; refine tokPunct_any b cap pos call xs w hb hn hcap hp hc ?_; rw [h64] at q6; simp only [Bool.or_eq_true, decide_eq_true_eq, eq_comm (a := true)] at q6
                 omega
               | false =>
                 rw [if_neg (by simp)]; exact tokBad_any b cap pos call xs w hb hn hp hc h4 ha hs h32 h64 h39 h34
theorem runI_pos {k : Int} {xs : List Int} {pos : Nat} (hp : pos < xs.length) (h : isOfB (byteI xs pos) k = true) : 1 ≤ runI k xs pos := by
 rw [byteI_lt hp] at h
 unfold runI
 rw [List.drop_eq_getElem_cons hp]
 have : xs[pos] = xs.getD pos 0 := by simp [List.getD, List.getElem?_eq_getElem hp]
 unfold runLen
 rw [this, h]
 simp
theorem txt_ge {xs : List Int} {q : Int} : ∀ (f i : Nat) (ys zs : List Int) (j : Nat), txtF xs q f i ys = some (zs, j) → i < j
 | 0, i, ys, zs, j, h => by cases h
 | f + 1, i, ys, zs, j, h => by
   unfold txtF at h
   split at h
   ·split at h
    ·have := txt_ge f _ _ _ _ h; omega
    ·cases h; omega
   ·split at h
    ·split at h
     ·have := txt_ge f _ _ _ _ h; omega
     ·split at h
      ·cases h
      ·rename_i v j' he
       have h1 := escI_rng he; have := txt_ge f _ _ _ _ h; omega
    ·split at h
     ·have := txt_ge f _ _ _ _ h; omega
     ·cases h
theorem digs_one {xs : List Int} {base : Int} {pos : Nat} (hb : base ≤ 16) (h : digI (byteI xs pos) < base) : pos + 1 ≤ (digsB xs base xs.length pos 0).2 := by
 rw [digs_step xs base hb pos 0 h]; exact digs_ge _ _ _ _ _
theorem next_len {xs : List Int} {call : Bool} {pos l : Nat} {k v : Int} {ys : List Int} (hb : Bytes xs) (hp : pos < xs.length) (h : nextR xs call pos = .ok (k, l, ys, v)) : 1 ≤ l := by
 have hr := byteI_rng hb pos
 unfold nextR nextF at h
 split at h
 ·rename_i h1
  have := runI_pos hp (isOf7 hr.1 hr.2 (.inl h1))
  unfold runR at h
  split at h
  ·cases h
  ·cases h; omega
 split at h
 ·rename_i h1
  have := runI_pos hp (isOf7 hr.1 hr.2 (.inr h1))
  unfold runR at h
  split at h
  ·cases h
  ·cases h; omega
 split at h
 ·rename_i h4
  have hd : digI (byteI xs pos) < 10 := by
   rw [byteI_lt hp] at h4 ⊢; have hr2 := hb.at pos; rw [(cls_at hr2.1 hr2.2).2.1] at h4; simp only [digitB, decide_eq_true_eq] at h4
   unfold digI
   rw [if_pos h4]; omega
  unfold numR at h
  split at h
  ·cases h
  ·rename_i v' q hq
   have hge : pos + 1 ≤ q := by
    rw [numI, numF] at hq
    split at hq
    ·have h9 := digs_one (xs := xs) (by decide) hd
     rw [Option.some.inj hq] at h9; exact h9
    ·split at hq
     ·have := chrI_rng hb hq; omega
     ·split at hq
      ·have h9 := digs_ge xs (baseI (byteI xs (pos + 1))) xs.length (pos + 2) 0
       rw [Option.some.inj hq] at h9; simp only at h9; omega
      ·have h9 := digs_one (xs := xs) (by decide) hd
       rw [Option.some.inj hq] at h9; exact h9
   split at h
   ·cases h
   ·split at h
    ·cases h
    ·cases h; omega
 split at h
 ·cases h; omega
 split at h
 ·rename_i h8
  have := runI_pos hp h8
  unfold runR at h
  split at h
  ·cases h
  ·cases h; omega
 split at h
 ·cases h; omega
 have hquo : ∀ kd, quoR xs kd pos = .ok (k, l, ys, v) → 1 ≤ l := fun kd hq => by
  unfold quoR at hq
  split at hq
  ·cases hq
  ·rename_i zs j hj
   have := txt_ge _ _ _ _ _ hj
   split at hq
   ·cases hq
   ·cases hq; omega
 split at h
 ·exact hquo 1 h
 split at h
 ·exact hquo 4 h
 split at h
 ·cases h; omega
 split at h
 ·cases h; omega
 ·cases h
theorem lexF_more {xs : List Int} (hb : Bytes xs) : ∀ (f pos : Nat) (a : Int) (acc : List Tok), xs.length ≤ pos + f → ∀ g, lexF xs (f + g) pos a acc = lexF xs f pos a acc
 | 0, pos, a, acc, h, 0 => rfl
 | 0, pos, a, acc, h, g + 1 => by
   rw [Nat.zero_add]
   unfold lexF
   rw [if_pos (by omega)]
 | f + 1, pos, a, acc, h, g => by
   rw [show f + 1 + g = (f + g) + 1 by omega]
   unfold lexF
   by_cases hp : xs.length ≤ pos
   ·rw [if_pos hp, if_pos hp]
   ·rw [if_neg hp, if_neg hp]
    cases hl : layI xs pos with
    | none => rfl
    | some n =>
      simp only
      by_cases h0 : 0 < n
      ·rw [if_pos h0, if_pos h0]; exact lexF_more hb f (pos + n) a acc (by omega) g
      ·rw [if_neg h0, if_neg h0]
       cases hn : nextR xs (decide (a = pos)) pos with
       | error c => rfl
       | ok r =>
         obtain ⟨k, l, ys, v⟩ := r; have := next_len hb (by omega) hn; exact lexF_more hb f (pos + l) _ _ (by omega) g
theorem lexI_at {xs : List Int} (hb : Bytes xs) {pos m : Nat} (hm : 1 ≤ m) (hp : pos < xs.length) (a : Int) (acc : List Tok) : lexF xs (xs.length - pos) (pos + m) a acc = lexI xs (pos + m) a acc := by
 have h := lexF_more hb (xs.length + 1 - (pos + m)) (pos + m) a acc (by omega) ((xs.length - pos) - (xs.length + 1 - (pos + m))); rw [show xs.length + 1 - (pos + m) + (xs.length - pos - (xs.length + 1 - (pos + m))) = xs.length - pos by omega] at h; exact h
theorem lexI_end {xs : List Int} {pos : Nat} (h : xs.length ≤ pos) (a : Int) (acc : List Tok) : lexI xs pos a acc = .ok acc := by
 unfold lexI
 rcases Nat.eq_zero_or_pos (xs.length + 1 - pos) with h0 | h0
 ·rw [h0]; rfl
 ·rw [show xs.length + 1 - pos = (xs.length - pos) + 1 by omega]
  unfold lexF
  rw [if_pos h]
theorem lexI_step {xs : List Int} (hb : Bytes xs) {pos : Nat} (hp : pos < xs.length) (a : Int) (acc : List Tok) : lexI xs pos a acc = match layI xs pos with
 | none => .error (2, pos)
 | some n => if 0 < n then lexI xs (pos + n) a acc else match nextR xs (decide (a = pos)) pos with
   | .error c => .error (c, pos)
   | .ok (kind, len, ys, v) => lexI xs (pos + len) (if kind = 1 then ((pos + len : Nat) : Int) else -1) (acc ++ [((kind, (pos : Int), (len : Int), v), ys)]) := by
 conv => lhs; unfold lexI
 rw [show xs.length + 1 - pos = (xs.length - pos) + 1 by omega]
 conv => lhs; unfold lexF
 rw [if_neg (by omega)]
 cases hl : layI xs pos with
 | none => rfl
 | some n =>
   simp only
   by_cases h0 : 0 < n
   ·rw [if_pos h0, if_pos h0]; exact lexI_at hb h0 hp a acc
   ·rw [if_neg h0, if_neg h0]
    cases hn : nextR xs (decide (a = pos)) pos with
    | error c => rfl
    | ok r =>
      obtain ⟨k, l, ys, v⟩ := r; exact lexI_at hb (next_len hb hp hn) hp _ _
def lexR (xs : List Int) : LexR := if 10000 < xs.length then .error (3, 10000) else lexI xs 0 (-1) []
def LexSOut (w : World) (r : LexR) (e : Ending) (w' : World) : Prop :=
 match r with
 | .ok ts => ∃ p n c, e = .returned (.tuple #[.slice p n c, .int .i64 0, .int .i64 0]) ∧ OwnK w' w.heap.size p n c ts ∧ Below w.heap.size w w'
 | .error (c, at_) => e = .returned (.tuple #[.slice none 0 0, .int .i64 c, .int .i64 at_]) ∧ Below w.heap.size w w'
theorem lexSOut_of {w w' : World} {e : Ending} {r r' : LexR} (h : LexSOut w r e w') (er : r' = r) : LexSOut w r' e w' := er ▸ h
theorem app_tok (W0 w : World) {ops : Array Oper} {rest : List Oper} {o : Oper} {a : Act} {Q : Exit → Act → World → Prop} (hgd : o.guard = none) (s x : Operand)
 (ho : o.op = .call { callee := .builtin .append, args := #[s, x], argTypes := #[24, 24] }) (B : Nat) (p : Option Addr) (n c : Nat) (ts : List Tok)
 (hs : a.eval s = .slice p n c) (hown : OwnK W0 B p n c ts) (hb0 : Below W0.heap.size W0 w) (hB : B ≤ W0.heap.size) (ad : Addr) (c' : Nat) (hx : a.eval x = .slice (some ad) 1 c') (hd : Int × Int × Int × Int) (tp : Option Addr) (tn tc : Nat) (t : List Int)
 (ht : OwnT w W0.heap.size tp tn tc t) (hnews : ∀ j u, (rtV (hd, tp, tn, tc))[j]? = some u → w.cell? (ad.add j) = some u) (hlen : n + 1 ≤ 1000000000)
 (h : ∀ g n' cap w', OwnK w' B (some ⟨g, 0, none⟩) n' cap (ts ++ [(hd, t)]) → Below B w w' → w.grownBy w' (Value.ownBlock (.slice p n c)) → Hid (n' = n + 1) → wpList Tryz.prog ops Q rest (a.put o.dst (.slice (some ⟨g, 0, none⟩) n' cap)) w') : wpList Tryz.prog ops Q (o :: rest) a w := by
 obtain ⟨i0, hi, hz0, hz1, hz2⟩ := info_parts infoTok; obtain ⟨hn, rs, hl, hr, hf, ha⟩ := hown; refine wpList_append_lies w hgd s x 24 ho B 28 i0 (.agg #[.int .i64 0, .int .i64 0, .int .i64 0, .slice none 0 0, .int .i64 0]) 5 56 Tryz.underlying24 hi hz0 hz1 hz2 rfl (by decide) (.slice p n c) n (flatT rs) hs (row_below hr hb0) ad 1 c' (rtV (hd, tp, tn, tc)) hx rfl hnews (rtV_one _) (by decide) (by unfold maxLen; omega) (by omega) (Nat.le_trans hB hb0.size) w.heap.size rfl ?_
 intro g cap w' hown' hgrow hat hlt
 refine h g _ cap w' (ownK_grew hn hl hr hf ha hb0 hB ht hown' hgrow hat) ((Below.refl _ _).grown hgrow (Nat.le_trans hB hb0.size) (fun k hk => ?_)) hgrow rfl; exact (hr.lt k hk).1
theorem news_rt {w : World} {g : Nat} {r : RT} (h : w.heap[g]? = some (.cells #[.int .i64 r.1.1, .int .i64 r.1.2.1, .int .i64 r.1.2.2.1, .slice r.2.1 r.2.2.1 r.2.2.2, .int .i64 r.1.2.2.2] 28)) : ∀ j u, (rtV r)[j]? = some u → w.cell? ((⟨g, 0, none⟩ : Addr).add j) = some u := fun j u hu =>
 World.news_of_block h j u hu
end Go.Proofs.YtfgmenkoeflhaaaGreatDoor
