/- Texts of Dt10, FxA, FxB, EvS8. Own work of the verifier. -/
import Derived.Test.YtkklidpnkofipaaGreatDoorUqaj
import Derived.Test.YtkklidpnkofipaaGreatDoorUqas
import Derived.Test.YtkklidpnkofipaaGreatDoorUqao
namespace Go.Proofs.YtkklidpnkofipaaGreatDoor
set_option linter.unusedVariables false
set_option maxRecDepth 100000
section
open Go Go.RowKit
theorem conv_byte (w : World) (x : Int) : (convert 22 22 (.slice (some ⟨w.heap.size, 0, none⟩) 1 1)).run Tryz.prog (w.alloc (.cells #[.int .u8 x] 5)) = .ok (.slice (some ⟨w.heap.size, 0, none⟩) 1 1) (w.alloc (.cells #[.int .u8 x] 5 (1, 2))) :=
 Lib.run_convert_bytes_const (P := Tryz.prog) w 22 5 #[.int .u8 x] 1 1 Tryz.underlying22 Tryz.underlying5
theorem byte_text (w : World) (x : Int) : OwnT (w.alloc (.cells #[.int .u8 x] 5 (1, 2))) w.heap.size (some ⟨w.heap.size, 0, none⟩) 1 1 [x] := ⟨rfl, fun _ => ⟨w.heap.size, rfl, Nat.le_refl _, by simp, fun i hi => by
 have hi0 : i = 0 := by omega
 subst hi0; refine ⟨cell_of_row _ _ 0 _ _ _ (heap_alloc_new _ _), ?_⟩; simp only [World.frozen?, heap_alloc_new]
 simp⟩⟩
theorem own_two {w : World} {B g tn tc : Nat} {k n k' n' : Int} {tp : Option Addr} {s : List Int} (hg : w.heap[g]? = some (.cells #[.int .i64 k, .int .i64 n, .slice tp tn tc, .int .i64 k', .int .i64 n', .slice none 0 0] 63)) (hB : B ≤ g) (ht : OwnT w B tp tn tc s) (hne : 0 < tn → ∀ a, tp = some a → a.block ≠ g) : OwnC w B (some ⟨g, 0, none⟩) 2 2 [(k, n, s), (k', n', [])] := by
 refine ⟨rfl, [(k, n, tp, tn, tc), (k', n', none, 0, 0)], rfl, ⟨rfl, .inr ⟨g, 2, _, rfl, hB, hg, Nat.le_refl _, by decide, rfl, rfl⟩⟩, fun i hi => ?_, ?_⟩
 ·rcases (by simp at hi; omega : i = 0 ∨ i = 1) with rfl | rfl
  ·exact ⟨rfl, rfl, ht⟩
  ·exact ⟨rfl, rfl, rfl, fun h => absurd (show 0 < 0 from h) (Nat.lt_irrefl 0)⟩
 ·refine ⟨fun i hi h => ?_, fun i j hi hj hne' h1 h2 => ?_⟩
  ·rcases (by simp at hi; omega : i = 0 ∨ i = 1) with rfl | rfl
   ·exact fun e => hne h _ e rfl
   ·exact absurd (show 0 < 0 from h) (Nat.lt_irrefl 0)
  ·rcases (by simp at hi; omega : i = 0 ∨ i = 1) with rfl | rfl
   ·rcases (by simp at hj; omega : j = 0 ∨ j = 1) with rfl | rfl
    ·exact absurd rfl hne'
    ·exact absurd (show 0 < 0 from h2) (Nat.lt_irrefl 0)
   ·exact absurd (show 0 < 0 from h1) (Nat.lt_irrefl 0)
theorem l2atomW_any (s : List Int) (hs : Byte s) (w : World) : Calls Tryz.prog 116 #[.string (strOfNums s)] w fun e w' => ∃ p, e = .returned (.slice p 1 1) ∧ OwnC w' w.heap.size p 1 1 [(2, 0, s)] ∧ Below w.heap.size w w' := by
 obtain ⟨w1, cap1, hcv, hb1, ht⟩ := conv_bytes w s hs 9 Tryz.underlying9
 obtain ⟨l, el⟩ : ∃ l, l = s.length := ⟨_, rfl⟩
 rw [← el] at hcv ht; have hb : Below w1.heap.size w1 (w1.alloc (Obj.cells #[Value.int IntKind.i64 2, Value.int IntKind.i64 0, Value.slice (some ⟨w.heap.size, 0, none⟩) l cap1] 63)) := (Below.refl _ _).alloc (Nat.le_refl _) _
 have HO : Hid (OwnC (w1.alloc (Obj.cells #[Value.int IntKind.i64 2, Value.int IntKind.i64 0, Value.slice (some ⟨w.heap.size, 0, none⟩) l cap1] 63)) w.heap.size (some ⟨w1.heap.size, 0, none⟩) 1 1 [(2, 0, s)]) := own_oneN (heap_alloc_new w1 _) hb1.size (ht.below hb) (fun h0 a ea => by
  obtain ⟨g', e', _, h3, _⟩ := ht.2 h0
  cases e'
  cases ea
  exact Nat.ne_of_lt h3)
 have HB : Hid (Below w.heap.size w (w1.alloc (Obj.cells #[Value.int IntKind.i64 2, Value.int IntKind.i64 0, Value.slice (some ⟨w.heap.size, 0, none⟩) l cap1] 63))) := Below.on hb1 hb; clear hb1 ht hb el
 go_enter Tryz.func116, Tryz.ntmps116
 go_wp2_with fail; go_ret; exact ⟨_, rfl, HO.out, HB.out⟩
set_option maxHeartbeats 2000000 in
theorem spoil_7 (R c i : Nat) (p : Option Addr) (xs : List Int) (B g n cp : Nat) (cs : List Cel) (w : World) (h : RdIn w R p c xs i) (hRB : R < B) (hBw : B ≤ w.heap.size) (ho : OwnC w B (some ⟨g, 0, none⟩) n cp cs) (h0 : 0 < cs.length) (hl : cs.length ≤ 600) (hnum : NumC cs) (hk : (rdI xs i).toNat % 9 = 7) :
  Calls Tryz.prog 36 #[.slice (some ⟨g, 0, none⟩) n cp, .pointer (some ⟨R, 0, none⟩)] w (SpoilOut w B R p c xs (spoilF xs cs i)) := by
 have HH : Hid (RdIn w R p c xs i) := h; have HO : Hid (OwnC w B (some ⟨g, 0, none⟩) n cp cs) := ho; have hn : n = cs.length := ho.1; have hcap := ho.cap
 have hgB : B ≤ g ∧ g < w.heap.size := by obtain ⟨g', e, h1, h2⟩ := ho.at0 h0; cases e; exact ⟨h1, h2⟩
 have hr := rdI_rng h.bytes i; have hr1 := rdI_rng h.bytes (rdN xs i); have hr2 := rdI_rng h.bytes (rdN xs (rdN xs i))
 obtain ⟨res, er⟩ : ∃ res, res = spoilF xs cs i := ⟨_, rfl⟩
 rw [← er]; have HER : Hid (res = spoilF xs cs i) := er
 obtain ⟨i1, ei⟩ : ∃ i1, i1 = rdN xs i := ⟨_, rfl⟩
 obtain ⟨i2, ei2⟩ : ∃ i2, i2 = rdN xs i1 := ⟨_, rfl⟩
 rw [← ei] at hr1 hr2; rw [← ei2] at hr2
 obtain ⟨x, ex⟩ : ∃ x : Nat, rdI xs i = x := ⟨(rdI xs i).toNat, by omega⟩
 obtain ⟨u, eu⟩ : ∃ u : Nat, rdI xs i1 = u := ⟨(rdI xs i1).toNat, by omega⟩
 obtain ⟨y, ey⟩ : ∃ y : Nat, rdI xs i2 = y := ⟨(rdI xs i2).toNat, by omega⟩
 have hx9 : (x : Int).tmod 9 = 7 := by rw [Int.tmod_eq_emod_of_nonneg (by omega)]; rw [ex] at hk; omega
 have hx : x < 256 := by omega
 have hu : u < 256 := by omega
 have hy : y < 256 := by omega
 obtain ⟨a, ea⟩ : ∃ a, a = u % cs.length := ⟨_, rfl⟩
 have hal : a < cs.length := by rw [ea]; exact Nat.mod_lt _ h0
 have han : a < n := by omega
 have hn0 : ((n : Int) == 0) = false := by rw [beq_eq_false_iff_ne]; omega
 have hma : (u : Int).tmod (n : Int) = (a : Int) := by rw [ea, hn, Int.tmod_eq_emod_of_nonneg (by omega)]; rfl
 have hn600 : n ≤ 600 := by omega
 obtain ⟨z, ez⟩ : ∃ z, z = y % 3 := ⟨_, rfl⟩
 have hz : z < 3 := by omega
 have hmz : (y : Int).tmod 3 = (z : Int) := by rw [ez, Int.tmod_eq_emod_of_nonneg (by omega)]; rfl
 obtain ⟨N, eN⟩ : ∃ N, N = 1999 + z := ⟨_, rfl⟩
 have hadd : (1999 : Int) + (z : Int) = (N : Int) := by omega
 have hN : 1999 ≤ N ∧ N ≤ 2001 := by omega
 obtain ⟨hh, ehh⟩ : ∃ hh, hh = (N - 1) / 2 := ⟨_, rfl⟩
 have hhh : hh ≤ 1000 := by omega
 have hsub : (N : Int) - 1 = ((N - 1 : Nat) : Int) := by omega
 have hquo : ((N : Int) - 1).tdiv 2 = (hh : Int) := by rw [hsub, ehh]; rfl
 have HHH : Hid (hh = (N - 1) / 2) := ehh
 obtain ⟨z2, ez2⟩ : ∃ z, z = N % 2 := ⟨_, rfl⟩
 have hz2 : z2 < 2 := by omega
 have hmz2 : (N : Int).tmod 2 = (z2 : Int) := by rw [ez2, Int.tmod_eq_emod_of_nonneg (by omega)]; rfl
 have HZ2 : Hid (z2 = N % 2) := ez2
 have HV : Hid (res = (bigF N, rdN xs i2)) := by
  show _ = _
  rw [HER.out]
  unfold spoilF
  simp only; rw [← ei, ← ei2, eu, ey, Int.toNat_natCast, Int.toNat_natCast, ← ea, ← ez, ← eN, hk]
  first | rfl | (rw [if_neg (by decide), if_neg (by decide), if_neg (by decide), if_neg (by decide), if_neg (by decide), if_neg (by decide), if_neg (by decide), if_pos rfl])
 have HN1 : Hid (∀ W, RdIn W R p c xs i → Calls Tryz.prog 15 #[.pointer (some ⟨R, 0, none⟩)] W fun e w' => e = .returned (.int .i64 (x : Int)) ∧ Keep R (R + 1) W w' ∧ w'.heap.size = W.heap.size ∧ RdIn w' R p c xs i1) := fun W hW => by
  have := next_any R c i p xs W hW; rw [ex, ← ei] at this; exact this
 have HN2 : Hid (∀ W, RdIn W R p c xs i1 → Calls Tryz.prog 15 #[.pointer (some ⟨R, 0, none⟩)] W fun e w' => e = .returned (.int .i64 (u : Int)) ∧ Keep R (R + 1) W w' ∧ w'.heap.size = W.heap.size ∧ RdIn w' R p c xs i2) := fun W hW => by
  have := next_any R c i1 p xs W hW; rw [eu, ← ei2] at this; exact this
 have HN3 : Hid (∀ W, RdIn W R p c xs i2 → Calls Tryz.prog 15 #[.pointer (some ⟨R, 0, none⟩)] W fun e w' => e = .returned (.int .i64 (y : Int)) ∧ Keep R (R + 1) W w' ∧ w'.heap.size = W.heap.size ∧ RdIn w' R p c xs (rdN xs i2)) := fun W hW => by
  have := next_any R c i2 p xs W hW; rw [ey] at this; exact this
 have HAL : Hid (a < cs.length) := hal; have HNE : Hid (n = cs.length) := hn; clear h ho er ei ei2 ex eu ey ea hn hk hnum h0 hl hr hr1 hr2 hal ez eN ehh hsub ez2
 go_enter Tryz.func36, Tryz.ntmps36
 go_wp2_with fail; refine (HN1.out w HH.out).mono ?_; rintro e w2 ⟨rfl, hk2, hs2, hR2⟩; have HR2 : Hid (RdIn w2 R p c xs i1) := hR2; have HK2 : Hid (Keep R (R + 1) w w2) := hk2; clear hk2 hs2 hR2; go_wp2_with fail; refine (HN2.out w2 HR2.out).mono ?_; rintro e w3 ⟨rfl, hk3, hs3, hR3⟩; have HR3 : Hid (RdIn w3 R p c xs i2) := hR3; have HK3 : Hid (Keep R (R + 1) w w3) := HK2.out.trans hk3; have HO3 : Hid (OwnC w3 B (some ⟨g, 0, none⟩) n cp cs) := HO.out.keepR HK3.out hRB; have hB3 : B ≤ w3.heap.size := Nat.le_trans hBw HK3.out.size; clear hk3 hs3 hR3; go_wp2_with fail; refine (HN3.out w3 HR3.out).mono ?_; rintro e w4 ⟨rfl, hk4, hs4, hR4⟩; have HR4 : Hid (RdIn w4 R p c xs (rdN xs i2)) := hR4; have HK4 : Hid (Keep R (R + 1) w w4) := HK3.out.trans hk4; have HO4 : Hid (OwnC w4 B (some ⟨g, 0, none⟩) n cp cs) := HO.out.keepR HK4.out hRB; have hB4 : B ≤ w4.heap.size := Nat.le_trans hBw HK4.out.size
 clear hk4 hs4 hR4; have hcs := conv_byte
 have HBB : Hid (bigF N = (bigL hh ++ (if z2 = 0 then [(3, 1, [102])] else [])) ++ [nilC]) := by rw [HHH.out, HZ2.out]; rfl
 go_wp2_with fail
 go_loopw [7, 9] (fun s jv wr => ∃ (j m cr : Nat) (r : Option Addr), j ≤ hh ∧ m ≤ 2 * hh ∧ Hid (m = 2 * j) ∧ jv = .int .i64 j ∧ s = .slice r m cr ∧ Hid (OwnC wr w4.heap.size r m cr (bigL j)) ∧ Hid (Below w4.heap.size w4 wr)) (fun _ jv _ => hh - (intOf jv).toNat)
 case atStart => exact ⟨0, 0, 0, none, Nat.zero_le _, Nat.zero_le _, rfl, rfl, rfl, OwnC.nil _ _, Below.refl _ _⟩
 case round =>
  obtain ⟨j, m, cr, r, hj, hmh, HMJ, rfl, rfl, HOB, HB⟩ := hrel; have hBs : w4.heap.size ≤ wr.heap.size := HB.out.size
  by_cases hlt : j < hh
  ·obtain ⟨jm, ejm⟩ : ∃ jm, jm = j % 7 := ⟨_, rfl⟩
   have hjm : (j : Int).tmod 7 = (jm : Int) := by rw [ejm, Int.tmod_eq_emod_of_nonneg (by omega)]; rfl
   have hjm7 : jm < 7 := by omega
   obtain ⟨wt, ewt⟩ : ∃ wt, wt = wr.alloc (.cells #[.int .u8 46] 5 (1, 2)) := ⟨_, rfl⟩
   have hbt : Below wr.heap.size wr wt := by rw [ewt]; exact (Below.refl _ _).alloc (Nat.le_refl _) _
   have hst : wt.heap.size = wr.heap.size + 1 := by rw [ewt]; simp
   have htx := byte_text wr 46; rw [← ewt] at htx
   obtain ⟨wc, ewc⟩ : ∃ wc, wc = wt.alloc (Obj.cells #[Value.int IntKind.i64 3, Value.int IntKind.i64 2, Value.slice (some ⟨wr.heap.size, 0, none⟩) 1 1, Value.int IntKind.i64 0, Value.int IntKind.i64 (jm : Int), Value.slice none 0 0] 63) := ⟨_, rfl⟩
   have hbc : Below wt.heap.size wt wc := by rw [ewc]; exact (Below.refl _ _).alloc (Nat.le_refl _) _
   have hnew := heap_alloc_new wt (Obj.cells #[Value.int IntKind.i64 3, Value.int IntKind.i64 2, Value.slice (some ⟨wr.heap.size, 0, none⟩) 1 1, Value.int IntKind.i64 0, Value.int IntKind.i64 (jm : Int), Value.slice none 0 0] 63); rw [← ewc, hst] at hnew; have HO2 : Hid (OwnC wc wr.heap.size (some ⟨wr.heap.size + 1, 0, none⟩) 2 2 [dot, (0, (jm : Int), [])]) := own_two hnew (by omega) (htx.below hbc) (fun _ a ea => by cases ea; simp); have HBC : Hid (Below wr.heap.size wr wc) := Below.on hbt hbc
   have HSU : Hid (bigL (j + 1) = bigL j ++ [dot, (0, (jm : Int), [])]) := by rw [ejm]; exact bigL_succ j
   rw [ewt] at ewc; clear hbt hbc hnew htx ewt hst ejm; have hcs2 := hcs wr 46; go_wp2_with (at_builtin; rw [← ewc]; refine app_cells wr wc rfl _ _ rfl w4.heap.size r m cr _ rfl HOB.out HBC.out hBs (some ⟨wr.heap.size + 1, 0, none⟩) 2 2 _ rfl HO2.out (by decide) (by omega) ?_; intro g4 n4 cap4 w5 hown4 hb4 hn4)
   have HO5 : Hid (OwnC w5 w4.heap.size (some ⟨g4, 0, none⟩) n4 cap4 (bigL (j + 1))) := by rw [HSU.out]; exact hown4
   have HB5 : Hid (Below w4.heap.size w4 w5) := (Below.on HB.out HBC.out).trans hb4
   have HN4 : Hid (n4 = 2 * (j + 1)) := by show _ = _; have := hn4.out; have := HMJ.out; omega
   have hn4' : n4 ≤ 2 * hh := by have := HN4.out; omega
   clear hown4 hb4 hn4; go_roundw
   case rel => exact ⟨j + 1, n4, cap4, _, by omega, hn4', HN4, by go_num, rfl, HO5, HB5⟩
   case measure => simp [intOf]; omega
  ·obtain rfl : j = hh := by omega
   have hm2 : m ≤ 2000 := by omega
   have LAST : Hid (∀ (W W' : World) (r2 : Option Addr) (m2 c2 : Nat), Below w4.heap.size w4 W → OwnC W' B r2 m2 c2 (bigF N) → Below B W W' → SpoilOut w B R p c xs (bigF N, rdN xs i2) (.returned (.slice r2 m2 c2)) W') := fun W W' r2 m2 c2 h1 h2 h3 => by
    have hbb : Below B w4 W' := (h1.mono hB4).trans h3; exact ⟨_, _, _, rfl, h2, (Kb.of_keep HK4.out hBw).trans (Kb.of_below hbb), HR4.out.below hbb hRB⟩
   rcases (by omega : z2 = 0 ∨ z2 = 1) with h2 | h2
   ·have hb2 : ((z2 : Int) == 0) = true := by rw [h2]; rfl
    have HBG : Hid (bigF N = (bigL j ++ [(3, 1, [102])]) ++ [nilC]) := by show _ = _; rw [HBB.out, if_pos h2]
    clear h2
    obtain ⟨wt, ewt⟩ : ∃ wt, wt = wr.alloc (.cells #[.int .u8 102] 5 (1, 2)) := ⟨_, rfl⟩
    have hbt : Below wr.heap.size wr wt := by rw [ewt]; exact (Below.refl _ _).alloc (Nat.le_refl _) _
    have hst : wt.heap.size = wr.heap.size + 1 := by rw [ewt]; simp
    have htx := byte_text wr 102; rw [← ewt] at htx
    obtain ⟨wc, ewc⟩ : ∃ wc, wc = wt.alloc (Obj.cells #[Value.int IntKind.i64 3, Value.int IntKind.i64 1, Value.slice (some ⟨wr.heap.size, 0, none⟩) 1 1] 63) := ⟨_, rfl⟩
    have hbc : Below wt.heap.size wt wc := by rw [ewc]; exact (Below.refl _ _).alloc (Nat.le_refl _) _
    have hnew := heap_alloc_new wt (Obj.cells #[Value.int IntKind.i64 3, Value.int IntKind.i64 1, Value.slice (some ⟨wr.heap.size, 0, none⟩) 1 1] 63); rw [← ewc, hst] at hnew; have HO1 : Hid (OwnC wc wr.heap.size (some ⟨wr.heap.size + 1, 0, none⟩) 1 1 [(3, 1, [102])]) := own_oneN hnew (by omega) (htx.below hbc) (fun _ a ea => by cases ea; simp); have HBC : Hid (Below wr.heap.size wr wc) := Below.on hbt hbc; rw [ewt] at ewc; clear hbt hbc hnew htx ewt hst; have hcs2 := hcs wr 102; go_wp2_with (at_builtin; rw [← ewc]; refine app_cells wr wc rfl _ _ rfl w4.heap.size r m cr _ rfl HOB.out HBC.out hBs (some ⟨wr.heap.size + 1, 0, none⟩) 1 1 _ rfl HO1.out (by decide) (by omega) ?_; intro g5 n5 cap5 w5 hown5 hb5 hn5); have HO5 : Hid (OwnC w5 w4.heap.size (some ⟨g5, 0, none⟩) n5 cap5 (bigL j ++ [(3, 1, [102])])) := hown5; have HB5 : Hid (Below w4.heap.size w4 w5) := (Below.on HB.out HBC.out).trans hb5
    have hn5' : n5 ≤ 2001 := by have := hn5.out; omega
    have hB5s : w4.heap.size ≤ w5.heap.size := HB5.out.size; clear hown5 hb5 hn5 hcs2 ewc; rw [nilStr]; refine (l2atomW_any [91, 93] (fun x hx => by simp at hx; omega) w5).mono ?_; rintro e w6 ⟨p6, rfl, ho6, hb6⟩; have HO6 : Hid (OwnC w6 w5.heap.size p6 1 1 [nilC]) := ho6; have HB6 : Hid (Below w5.heap.size w5 w6) := hb6; clear ho6 hb6; go_wp2_with (at_builtin; refine app_cells w5 w6 rfl _ _ rfl w4.heap.size (some ⟨g5, 0, none⟩) n5 cap5 _ rfl HO5.out HB6.out hB5s p6 1 1 _ rfl HO6.out (by decide) (by omega) ?_; intro g7 n7 cap7 w7 hown7 hb7 hn7); go_ret; rw [HV.out]; exact LAST.out w6 w7 _ _ _ (Below.on HB5.out HB6.out) (by rw [HBG.out]; exact hown7.mono hB4) (hb7.mono hB4)
   ·have hb2 : ((z2 : Int) == 0) = false := by rw [h2]; rfl
    have HBG : Hid (bigF N = bigL j ++ [nilC]) := by show _ = _; rw [HBB.out, if_neg (by omega), List.append_nil]
    clear h2; go_wp2_with fail; rw [nilStr]; refine (l2atomW_any [91, 93] (fun x hx => by simp at hx; omega) wr).mono ?_; rintro e w6 ⟨p6, rfl, ho6, hb6⟩; have HO6 : Hid (OwnC w6 wr.heap.size p6 1 1 [nilC]) := ho6; have HB6 : Hid (Below wr.heap.size wr w6) := hb6; clear ho6 hb6; go_wp2_with (at_builtin; refine app_cells wr w6 rfl _ _ rfl w4.heap.size r m cr _ rfl HOB.out HB6.out hBs p6 1 1 _ rfl HO6.out (by decide) (by omega) ?_; intro g7 n7 cap7 w7 hown7 hb7 hn7); go_ret; rw [HV.out]; exact LAST.out w6 w7 _ _ _ (Below.on HB.out HB6.out) (by rw [HBG.out]; exact hown7.mono hB4) (hb7.mono hB4)
theorem l4spoil_any (R c i : Nat) (p : Option Addr) (xs : List Int) (B g n cp : Nat) (cs : List Cel) (w : World) (h : RdIn w R p c xs i) (hRB : R < B) (hBw : B ≤ w.heap.size) (ho : OwnC w B (some ⟨g, 0, none⟩) n cp cs) (h0 : 0 < cs.length) (hl : cs.length ≤ 600) (hnum : NumC cs) :
  Calls Tryz.prog 36 #[.slice (some ⟨g, 0, none⟩) n cp, .pointer (some ⟨R, 0, none⟩)] w (SpoilOut w B R p c xs (spoilF xs cs i)) := by
 rcases (by omega : (rdI xs i).toNat % 9 = 0 ∨ (rdI xs i).toNat % 9 = 1 ∨ (rdI xs i).toNat % 9 = 2 ∨ (rdI xs i).toNat % 9 = 3 ∨ (rdI xs i).toNat % 9 = 4 ∨ (rdI xs i).toNat % 9 = 5 ∨ (rdI xs i).toNat % 9 = 6 ∨ (rdI xs i).toNat % 9 = 7 ∨ (rdI xs i).toNat % 9 = 8) with hk | hk | hk | hk | hk | hk | hk | hk | hk
 ·exact spoil_0 R c i p xs B g n cp cs w h hRB hBw ho h0 hl hnum hk
 ·exact spoil_1 R c i p xs B g n cp cs w h hRB hBw ho h0 hl hnum hk
 ·exact spoil_2 R c i p xs B g n cp cs w h hRB hBw ho h0 hl hnum hk
 ·exact spoil_3 R c i p xs B g n cp cs w h hRB hBw ho h0 hl hnum hk
 ·exact spoil_4 R c i p xs B g n cp cs w h hRB hBw ho h0 hl hnum hk
 ·exact spoil_5 R c i p xs B g n cp cs w h hRB hBw ho h0 hl hnum hk
 ·exact spoil_6 R c i p xs B g n cp cs w h hRB hBw ho h0 hl hnum hk
 ·exact spoil_7 R c i p xs B g n cp cs w h hRB hBw ho h0 hl hnum hk
 ·exact spoil_8 R c i p xs B g n cp cs w h hRB hBw ho h0 hl hnum hk
set_option maxHeartbeats 1000000 in
theorem l4any_any (R c i : Nat) (p : Option Addr) (xs : List Int) (w : World) (h : RdIn w R p c xs i) :
  Calls Tryz.prog 16 #[.pointer (some ⟨R, 0, none⟩)] w (TermOut w R p c xs (anyF xs i)) := by
 have HH : Hid (RdIn w R p c xs i) := h; have hr := rdI_rng h.bytes i; have hRw : R < w.heap.size := h.lt
 obtain ⟨res, er⟩ : ∃ res, res = anyF xs i := ⟨_, rfl⟩
 rw [← er]
 obtain ⟨i1, ei⟩ : ∃ i1, i1 = rdN xs i := ⟨_, rfl⟩
 obtain ⟨x, ex⟩ : ∃ x : Nat, rdI xs i = x := ⟨(rdI xs i).toNat, by omega⟩
 have hx : x < 256 := by omega
 obtain ⟨z, ez⟩ : ∃ z, z = x % 16 := ⟨_, rfl⟩
 have hz : z < 16 := by omega
 have hmz : (x : Int).tmod 16 = (z : Int) := by rw [ez, Int.tmod_eq_emod_of_nonneg (by omega)]; rfl
 have HV : Hid (res = if z = 0 then spoilF xs (drawT xs 4 i1).1 (drawT xs 4 i1).2 else drawT xs 4 i1) := by
  show _ = _
  rw [er]
  unfold anyF
  simp only; rw [← ei, ex, Int.toNat_natCast, ← ez]
 have HN1 : Hid (∀ W, RdIn W R p c xs i → Calls Tryz.prog 15 #[.pointer (some ⟨R, 0, none⟩)] W fun e w' => e = .returned (.int .i64 (x : Int)) ∧ Keep R (R + 1) W w' ∧ w'.heap.size = W.heap.size ∧ RdIn w' R p c xs i1) := fun W hW => by
  have := next_any R c i p xs W hW; rw [ex, ← ei] at this; exact this
 clear h er ei ex ez hr
 go_enter Tryz.func16, Tryz.ntmps16
 go_wp2_with fail; refine (HN1.out w HH.out).mono ?_; rintro e w2 ⟨rfl, hk2, hs2, hR2⟩; have HR2 : Hid (RdIn w2 R p c xs i1) := hR2; have HK2 : Hid (Keep R (R + 1) w w2) := hk2; clear hk2 hs2 hR2; go_wp2_with fail; refine (l4term_any R c p xs 4 4 (by decide) rfl (by decide) i1 w2 HR2.out).mono ?_; rintro e w3 ⟨q3, n3, c3, rfl, ho3, hk3, hR3⟩; obtain ⟨h1, h2, h3⟩ := drawT_mid xs i1; obtain ⟨g3, rfl, hg1, hg2⟩ := ho3.at0 h3; have HR3 : Hid (RdIn w3 R p c xs (drawT xs 4 i1).2) := hR3; have HK3 : Hid (Keep R (R + 1) w w3) := HK2.out.trans hk3; have HO3 : Hid (OwnC w3 w.heap.size (some ⟨g3, 0, none⟩) n3 c3 (drawT xs 4 i1).1) := ho3.mono HK2.out.size; have HSP := l4spoil_any R c (drawT xs 4 i1).2 p xs w.heap.size g3 n3 c3 (drawT xs 4 i1).1 w3 hR3 hRw HK3.out.size HO3.out h3 (by omega) (drawT_num xs 4 i1); clear ho3 hk3 hR3 h1 h2 h3 hg1 hg2
 by_cases hz0 : z = 0
 ·have hb : ((z : Int) == 0) = true := by rw [hz0]; rfl
  have HW : Hid (res = spoilF xs (drawT xs 4 i1).1 (drawT xs 4 i1).2) := HV.out.trans (if_pos hz0); clear hz0; go_wp2_with fail; refine HSP.mono ?_; rintro e w4 ⟨q4, n4, c4, rfl, ho4, hk4, hR4⟩
  have FIN : Hid (TermOut w R p c xs (spoilF xs (drawT xs 4 i1).1 (drawT xs 4 i1).2) (.returned (.slice q4 n4 c4)) w4) := ⟨_, _, _, rfl, ho4, HK3.out.on_kb hk4 (Nat.le_refl _), hR4⟩
  clear ho4 hk4 hR4 HSP; go_wp2_with fail; go_ret; rw [HW.out]; exact FIN.out
 ·have hb : ((z : Int) == 0) = false := by rw [beq_eq_false_iff_ne]; omega
  have HW : Hid (res = drawT xs 4 i1) := HV.out.trans (if_neg hz0); clear hz0 HSP; go_wp2_with fail; go_ret; rw [HW.out]; exact ⟨_, _, _, rfl, HO3.out, HK3.out, HR3.out⟩
def twoU : List (List UInt8) := [[43], [45], [42], [109, 105, 110], [109, 97, 120], [47, 47], [114, 101, 109], [109, 111, 100], [62, 62], [60, 60], [47, 92], [92, 47], [120, 111, 114], [42, 42], [94]]
def oneU : List (List UInt8) := [[45], [43], [97, 98, 115], [115, 105, 103, 110], [92]]
def leafX (xs : List Int) (k i : Nat) : List Cel × Nat := if k = 1 then drawT xs 1 i else ([(1, intD (rdI xs i).toNat, [])], rdN xs i)
def exprN (xs : List Int) (f : Nat → List Cel × Nat) (i : Nat) : List Cel × Nat :=
 let k := (rdI xs i).toNat
 let i1 := rdN xs i
 if i1 = xs.length ∨ k < 60 then leafX xs k i1
 else if k < 110 then
  let a := f i1
  ((3, 1, numsU (oneU.getD (k % 5) [])) :: a.1, a.2)
 else
  let a := f i1
  let b := f a.2
  ((3, 2, numsU (twoU.getD (k % 15) [])) :: (a.1 ++ b.1), b.2)
def drawX (xs : List Int) : Nat → Nat → List Cel × Nat
 | 0 => fun i => leafX xs (rdI xs i).toNat (rdN xs i)
 | d + 1 => exprN xs (drawX xs d)
theorem leafX_sml (xs : List Int) (k i : Nat) : Sml 8 (leafX xs k i).1 := by
 unfold leafX
 split
 ·exact drawT_sml xs 1 i
 ·exact ⟨by simp, by simp, by simp [tl]⟩
theorem twoU_len (x : Nat) : (numsU (twoU.getD (x % 15) [])).length ≤ 11 := by
 rw [numsU, List.length_map]
 have h : ∀ j, j < 15 → (twoU.getD j []).length ≤ 11 := by decide
 exact h _ (by omega)
theorem oneU_len (x : Nat) : (numsU (oneU.getD (x % 5) [])).length ≤ 11 := by
 rw [numsU, List.length_map]
 have h : ∀ j, j < 5 → (oneU.getD j []).length ≤ 11 := by decide
 exact h _ (by omega)
theorem exprN_sml (xs : List Int) (f : Nat → List Cel × Nat) {m : Nat} (h2 : 8 ≤ m) (hf : ∀ i, Sml m (f i).1) (i : Nat) : Sml (2 * m) (exprN xs f i).1 := by
 unfold exprN
 simp only
 split
 ·have := leafX_sml xs (rdI xs i).toNat (rdN xs i)
  exact ⟨this.pos, by have := this.len; omega, this.txt⟩
 split
 ·have ha := hf (rdN xs i)
  have := ha.len; have := ha.pos; have := ha.txt; have := oneU_len (rdI xs i).toNat; exact ⟨by simp, by simp; omega, by simp only [tl, List.length_cons]; omega⟩
 ·have ha := hf (rdN xs i); have hb := hf (f (rdN xs i)).2
  have := ha.len; have := ha.pos; have := ha.txt; have := hb.len; have := hb.txt; have := twoU_len (rdI xs i).toNat; exact ⟨by simp, by simp; omega, by simp only [tl, tl_app, List.length_cons, List.length_append]; omega⟩
theorem drawX_sml (xs : List Int) : ∀ (d i : Nat), Sml (8 * 2 ^ d) (drawX xs d i).1
 | 0, i => leafX_sml xs _ _
 | d + 1, i => by
   have := exprN_sml xs (drawX xs d) (m := 8 * 2 ^ d) (by have := Nat.pow_pos (n := d) (show 0 < 2 by decide); omega) (drawX_sml xs d) i; rw [show 8 * 2 ^ (d + 1) = 2 * (8 * 2 ^ d) by rw [Nat.pow_succ]; omega]; exact this
def ExprK (R c : Nat) (p : Option Addr) (xs : List Int) (D : Int) (f : Nat → List Cel × Nat) : Prop :=
 ∀ i w, RdIn w R p c xs i → Calls Tryz.prog 17 #[.pointer (some ⟨R, 0, none⟩), .int .i64 D] w (TermOut w R p c xs (f i))
theorem TermOut.on {w W W' : World} {R : Nat} {p : Option Addr} {c : Nat} {xs : List Int} {res : List Cel × Nat} {e : Ending} (hk : Keep R (R + 1) w W) (h : TermOut W R p c xs res e W') : TermOut w R p c xs res e W' := by
 obtain ⟨q, n, cap, he, ho, hk', hr⟩ := h; exact ⟨q, n, cap, he, ho.mono hk.size, hk.trans hk', hr⟩
set_option maxHeartbeats 4000000 in
theorem expr_low (R c i : Nat) (p : Option Addr) (xs : List Int) (D : Int) (w : World) (h : RdIn w R p c xs i) (hD : -10 ≤ D ∧ D ≤ 10) (hc : D ≤ 0) :
  Calls Tryz.prog 17 #[.pointer (some ⟨R, 0, none⟩), .int .i64 D] w (TermOut w R p c xs (leafX xs (rdI xs i).toNat (rdN xs i))) := by
 have HH : Hid (RdIn w R p c xs i) := h; have hr := rdI_rng h.bytes i; have hle := rdN_le h.le; have hsm := h.small; have hRw : R < w.heap.size := h.lt; have hr1 := rdI_rng h.bytes (rdN xs i)
 obtain ⟨n, en⟩ : ∃ n, n = xs.length := ⟨_, rfl⟩
 rw [← en] at hle hsm; have HEN : Hid (n = xs.length) := en
 obtain ⟨i1, ei⟩ : ∃ i1, i1 = rdN xs i := ⟨_, rfl⟩
 rw [← ei] at hle hr1 ⊢; have HEI : Hid (i1 = rdN xs i) := ei; have hd : decide (D ≤ 0) = true := decide_eq_true hc
 obtain ⟨x, ex⟩ : ∃ x : Nat, rdI xs i = x := ⟨(rdI xs i).toNat, by omega⟩
 have hxt : (rdI xs i).toNat = x := by rw [ex]; exact Int.toNat_natCast x
 rw [hxt] at ⊢; rw [ex] at hr
 obtain ⟨res, er⟩ : ∃ res : List Cel × Nat, res = leafX xs x i1 := ⟨_, rfl⟩
 rw [← er]; have HER : Hid (res = leafX xs x i1) := er
 have HN1 : Hid (∀ W, RdIn W R p c xs i → Calls Tryz.prog 15 #[.pointer (some ⟨R, 0, none⟩)] W fun e w' => e = .returned (.int .i64 (x : Int)) ∧ Keep R (R + 1) W w' ∧ w'.heap.size = W.heap.size ∧ RdIn w' R p c xs i1) := fun W hW => by
  have := next_any R c i p xs W hW; rw [ex, ← ei] at this; exact this
 clear h en ei er ex hxt 
 go_enter Tryz.func17, Tryz.ntmps17
 go_wp2_with fail; refine (HN1.out w HH.out).mono ?_; rintro e w2 ⟨rfl, hk2, hs2, hR2⟩
 obtain ⟨wB, eB⟩ : ∃ wB, wB = w2.alloc (.cells (twoU.map strV).toArray 9) := ⟨_, rfl⟩
 obtain ⟨wA, eA⟩ : ∃ wA, wA = wB.alloc (.cells (oneU.map strV).toArray 9) := ⟨_, rfl⟩
 have hsB : wB.heap.size = w2.heap.size + 1 := by rw [eB]; simp
 have hbB : Below w2.heap.size w2 wB := by rw [eB]; exact (Below.refl _ _).alloc (Nat.le_refl _) _
 have hbA0 : Below wB.heap.size wB wA := by rw [eA]; exact (Below.refl _ _).alloc (Nat.le_refl _) _
 have hbA : Below w2.heap.size w2 wA := Below.on hbB hbA0; have HKA : Hid (Keep R (R + 1) w wA) := hk2.trans (Keep.of_below hbA); have HRA : Hid (RdIn wA R p c xs i1) := hR2.grow hbA; rw [eB] at eA
 have eA' : wA = (w2.alloc (Obj.cells #[.string ⟨#[43]⟩, .string ⟨#[45]⟩, .string ⟨#[42]⟩, .string ⟨#[109, 105, 110]⟩, .string ⟨#[109, 97, 120]⟩, .string ⟨#[47, 47]⟩, .string ⟨#[114, 101, 109]⟩, .string ⟨#[109, 111, 100]⟩, .string ⟨#[62, 62]⟩, .string ⟨#[60, 60]⟩, .string ⟨#[47, 92]⟩, .string ⟨#[92, 47]⟩, .string ⟨#[120, 111, 114]⟩, .string ⟨#[42, 42]⟩, .string ⟨#[94]⟩] 9)).alloc (Obj.cells #[.string ⟨#[45]⟩, .string ⟨#[43]⟩, .string ⟨#[97, 98, 115]⟩, .string ⟨#[115, 105, 103, 110]⟩, .string ⟨#[92]⟩] 9) := by rw [eA]; rfl
 clear eB eA hbA0 hbA hbB hk2 hR2 hs2 hsB
 by_cases h1 : x = 1
 ·have hb : ((x : Int) == 1) = true := by rw [h1]; rfl
  have HF : Hid (res = drawT xs 1 i1) := by show _ = _; rw [HER.out, leafX, if_pos h1]
  clear h1; go_wp2_with fail; rw [← eA']; clear eA'; refine (l4term_any R c p xs 1 1 (by decide) rfl (by decide) i1 wA HRA.out).mono ?_; rintro e w4 h4; have FIN : Hid (TermOut w R p c xs (drawT xs 1 i1) e w4) := h4.on HKA.out; obtain ⟨q4, n4, c4, rfl, -, -, -⟩ := h4; go_wp2_with fail; go_ret; rw [HF.out]; exact FIN.out
 ·have hb : ((x : Int) == 1) = false := by rw [beq_eq_false_iff_ne]; omega
  have HF : Hid (res = ([(1, intD (rdI xs i1).toNat, [])], rdN xs i1)) := by show _ = _; rw [HER.out, leafX, if_neg h1]
  clear h1; go_wp2_with fail; rw [← eA']; clear eA'; refine (l4int_any R c i1 p xs wA HRA.out).mono ?_; rintro e w3 ⟨rfl, hk3, hR3⟩; have HK3 : Hid (Keep R (R + 1) w w3) := HKA.out.trans hk3; have HR3 : Hid (RdIn w3 R p c xs (rdN xs i1)) := hR3; clear hk3 hR3; go_wp2_with fail; refine (l2numO_any _ w3).mono ?_; rintro e w4 ⟨rfl, ho4, hb4⟩; have FIN : Hid _ := TermOut.of HK3.out HR3.out ho4 hb4; clear ho4 hb4; go_wp2_with fail; go_ret; rw [HF.out]; exact FIN.out
set_option maxHeartbeats 4000000 in
theorem expr_few (R c i : Nat) (p : Option Addr) (xs : List Int) (D : Int) (w : World) (h : RdIn w R p c xs i) (hD : -10 ≤ D ∧ D ≤ 10) (hc : 0 < D) (h60 : (rdI xs i).toNat < 60) :
  Calls Tryz.prog 17 #[.pointer (some ⟨R, 0, none⟩), .int .i64 D] w (TermOut w R p c xs (leafX xs (rdI xs i).toNat (rdN xs i))) := by
 have HH : Hid (RdIn w R p c xs i) := h; have hr := rdI_rng h.bytes i; have hle := rdN_le h.le; have hsm := h.small; have hRw : R < w.heap.size := h.lt; have hr1 := rdI_rng h.bytes (rdN xs i)
 obtain ⟨n, en⟩ : ∃ n, n = xs.length := ⟨_, rfl⟩
 rw [← en] at hle hsm; have HEN : Hid (n = xs.length) := en
 obtain ⟨i1, ei⟩ : ∃ i1, i1 = rdN xs i := ⟨_, rfl⟩
 rw [← ei] at hle hr1 ⊢; have HEI : Hid (i1 = rdN xs i) := ei; have hd : decide (D ≤ 0) = false := decide_eq_false (by omega)
 obtain ⟨x, ex⟩ : ∃ x : Nat, rdI xs i = x := ⟨(rdI xs i).toNat, by omega⟩
 have hxt : (rdI xs i).toNat = x := by rw [ex]; exact Int.toNat_natCast x
 rw [hxt] at h60 ⊢; rw [ex] at hr
 obtain ⟨res, er⟩ : ∃ res : List Cel × Nat, res = leafX xs x i1 := ⟨_, rfl⟩
 rw [← er]; have HER : Hid (res = leafX xs x i1) := er
 have HN1 : Hid (∀ W, RdIn W R p c xs i → Calls Tryz.prog 15 #[.pointer (some ⟨R, 0, none⟩)] W fun e w' => e = .returned (.int .i64 (x : Int)) ∧ Keep R (R + 1) W w' ∧ w'.heap.size = W.heap.size ∧ RdIn w' R p c xs i1) := fun W hW => by
  have := next_any R c i p xs W hW; rw [ex, ← ei] at this; exact this
 have hx60 : decide ((x : Int) < 60) = true := decide_eq_true (by omega); clear h en ei er ex hxt h60
 go_enter Tryz.func17, Tryz.ntmps17
 go_wp2_with fail; refine (HN1.out w HH.out).mono ?_; rintro e w2 ⟨rfl, hk2, hs2, hR2⟩
 obtain ⟨wB, eB⟩ : ∃ wB, wB = w2.alloc (.cells (twoU.map strV).toArray 9) := ⟨_, rfl⟩
 obtain ⟨wA, eA⟩ : ∃ wA, wA = wB.alloc (.cells (oneU.map strV).toArray 9) := ⟨_, rfl⟩
 have hsB : wB.heap.size = w2.heap.size + 1 := by rw [eB]; simp
 have hbB : Below w2.heap.size w2 wB := by rw [eB]; exact (Below.refl _ _).alloc (Nat.le_refl _) _
 have hbA0 : Below wB.heap.size wB wA := by rw [eA]; exact (Below.refl _ _).alloc (Nat.le_refl _) _
 have hbA : Below w2.heap.size w2 wA := Below.on hbB hbA0; have HKA : Hid (Keep R (R + 1) w wA) := hk2.trans (Keep.of_below hbA); have HRA : Hid (RdIn wA R p c xs i1) := hR2.grow hbA; rw [eB] at eA
 have eA' : wA = (w2.alloc (Obj.cells #[.string ⟨#[43]⟩, .string ⟨#[45]⟩, .string ⟨#[42]⟩, .string ⟨#[109, 105, 110]⟩, .string ⟨#[109, 97, 120]⟩, .string ⟨#[47, 47]⟩, .string ⟨#[114, 101, 109]⟩, .string ⟨#[109, 111, 100]⟩, .string ⟨#[62, 62]⟩, .string ⟨#[60, 60]⟩, .string ⟨#[47, 92]⟩, .string ⟨#[92, 47]⟩, .string ⟨#[120, 111, 114]⟩, .string ⟨#[42, 42]⟩, .string ⟨#[94]⟩] 9)).alloc (Obj.cells #[.string ⟨#[45]⟩, .string ⟨#[43]⟩, .string ⟨#[97, 98, 115]⟩, .string ⟨#[115, 105, 103, 110]⟩, .string ⟨#[92]⟩] 9) := by rw [eA]; rfl
 clear eB eA hbA0 hbA hbB hk2 hR2 hs2 hsB
 by_cases h1 : x = 1
 ·have hb : ((x : Int) == 1) = true := by rw [h1]; rfl
  have HF : Hid (res = drawT xs 1 i1) := by show _ = _; rw [HER.out, leafX, if_pos h1]
  clear h1; go_wp2_with fail; rw [← eA']; clear eA'; refine (l4term_any R c p xs 1 1 (by decide) rfl (by decide) i1 wA HRA.out).mono ?_; rintro e w4 h4; have FIN : Hid (TermOut w R p c xs (drawT xs 1 i1) e w4) := h4.on HKA.out; obtain ⟨q4, n4, c4, rfl, -, -, -⟩ := h4; go_wp2_with fail; go_ret; rw [HF.out]; exact FIN.out
 ·have hb : ((x : Int) == 1) = false := by rw [beq_eq_false_iff_ne]; omega
  have HF : Hid (res = ([(1, intD (rdI xs i1).toNat, [])], rdN xs i1)) := by show _ = _; rw [HER.out, leafX, if_neg h1]
  clear h1; go_wp2_with fail; rw [← eA']; clear eA'; refine (l4int_any R c i1 p xs wA HRA.out).mono ?_; rintro e w3 ⟨rfl, hk3, hR3⟩; have HK3 : Hid (Keep R (R + 1) w w3) := HKA.out.trans hk3; have HR3 : Hid (RdIn w3 R p c xs (rdN xs i1)) := hR3; clear hk3 hR3; go_wp2_with fail; refine (l2numO_any _ w3).mono ?_; rintro e w4 ⟨rfl, ho4, hb4⟩; have FIN : Hid _ := TermOut.of HK3.out HR3.out ho4 hb4; clear ho4 hb4; go_wp2_with fail; go_ret; rw [HF.out]; exact FIN.out
set_option maxHeartbeats 4000000 in
theorem expr_end (R c i : Nat) (p : Option Addr) (xs : List Int) (D : Int) (w : World) (h : RdIn w R p c xs i) (hD : -10 ≤ D ∧ D ≤ 10) (hc : 0 < D) (h0 : rdN xs i = xs.length) (h60 : ¬ (rdI xs i).toNat < 60) :
  Calls Tryz.prog 17 #[.pointer (some ⟨R, 0, none⟩), .int .i64 D] w (TermOut w R p c xs (leafX xs (rdI xs i).toNat (rdN xs i))) := by
 have HH : Hid (RdIn w R p c xs i) := h; have hr := rdI_rng h.bytes i; have hle := rdN_le h.le; have hsm := h.small; have hRw : R < w.heap.size := h.lt; have hr1 := rdI_rng h.bytes (rdN xs i)
 obtain ⟨n, en⟩ : ∃ n, n = xs.length := ⟨_, rfl⟩
 rw [← en] at hle hsm h0; have HEN : Hid (n = xs.length) := en
 obtain ⟨i1, ei⟩ : ∃ i1, i1 = rdN xs i := ⟨_, rfl⟩
 rw [← ei] at hle hr1 h0 ⊢; have HEI : Hid (i1 = rdN xs i) := ei; have hd : decide (D ≤ 0) = false := decide_eq_false (by omega)
 obtain ⟨x, ex⟩ : ∃ x : Nat, rdI xs i = x := ⟨(rdI xs i).toNat, by omega⟩
 have hxt : (rdI xs i).toNat = x := by rw [ex]; exact Int.toNat_natCast x
 rw [hxt] at h60 ⊢; rw [ex] at hr
 obtain ⟨res, er⟩ : ∃ res : List Cel × Nat, res = leafX xs x i1 := ⟨_, rfl⟩
 rw [← er]; have HER : Hid (res = leafX xs x i1) := er
 have HN1 : Hid (∀ W, RdIn W R p c xs i → Calls Tryz.prog 15 #[.pointer (some ⟨R, 0, none⟩)] W fun e w' => e = .returned (.int .i64 (x : Int)) ∧ Keep R (R + 1) W w' ∧ w'.heap.size = W.heap.size ∧ RdIn w' R p c xs i1) := fun W hW => by
  have := next_any R c i p xs W hW; rw [ex, ← ei] at this; exact this
 have hx60 : decide ((x : Int) < 60) = false := decide_eq_false (by omega); clear h en ei er ex hxt h60
 go_enter Tryz.func17, Tryz.ntmps17
 go_wp2_with fail; refine (HN1.out w HH.out).mono ?_; rintro e w2 ⟨rfl, hk2, hs2, hR2⟩
 obtain ⟨wB, eB⟩ : ∃ wB, wB = w2.alloc (.cells (twoU.map strV).toArray 9) := ⟨_, rfl⟩
 obtain ⟨wA, eA⟩ : ∃ wA, wA = wB.alloc (.cells (oneU.map strV).toArray 9) := ⟨_, rfl⟩
 have hsB : wB.heap.size = w2.heap.size + 1 := by rw [eB]; simp
 have hbB : Below w2.heap.size w2 wB := by rw [eB]; exact (Below.refl _ _).alloc (Nat.le_refl _) _
 have hbA0 : Below wB.heap.size wB wA := by rw [eA]; exact (Below.refl _ _).alloc (Nat.le_refl _) _
 have hbA : Below w2.heap.size w2 wA := Below.on hbB hbA0; have HKA : Hid (Keep R (R + 1) w wA) := hk2.trans (Keep.of_below hbA); have HRA : Hid (RdIn wA R p c xs i1) := hR2.grow hbA; rw [eB] at eA
 have eA' : wA = (w2.alloc (Obj.cells #[.string ⟨#[43]⟩, .string ⟨#[45]⟩, .string ⟨#[42]⟩, .string ⟨#[109, 105, 110]⟩, .string ⟨#[109, 97, 120]⟩, .string ⟨#[47, 47]⟩, .string ⟨#[114, 101, 109]⟩, .string ⟨#[109, 111, 100]⟩, .string ⟨#[62, 62]⟩, .string ⟨#[60, 60]⟩, .string ⟨#[47, 92]⟩, .string ⟨#[92, 47]⟩, .string ⟨#[120, 111, 114]⟩, .string ⟨#[42, 42]⟩, .string ⟨#[94]⟩] 9)).alloc (Obj.cells #[.string ⟨#[45]⟩, .string ⟨#[43]⟩, .string ⟨#[97, 98, 115]⟩, .string ⟨#[115, 105, 103, 110]⟩, .string ⟨#[92]⟩] 9) := by rw [eA]; rfl
 clear eB eA hbA0 hbA hbB hk2 hR2 hs2 hsB; go_wp2_with fail; rw [← eA']; clear eA'; refine (left_any R c i1 p xs wA HRA.out).mono ?_; rintro e wL ⟨rfl, hbL⟩; have HRL : Hid (RdIn wL R p c xs i1) := HRA.out.grow hbL; have HKL : Hid (Keep R (R + 1) w wL) := HKA.out.trans (Keep.of_below hbL); rw [← HEN.out]
 obtain ⟨lf, el⟩ : ∃ lf, lf = n - i1 := ⟨_, rfl⟩
 rw [← el]
 have hlf : lf ≤ 500 := by omega
 have hz0 : ((lf : Int) == 0) = true := by simp; omega
 clear hbL el; clear h0
 by_cases h1 : x = 1
 ·have hb : ((x : Int) == 1) = true := by rw [h1]; rfl
  have HF : Hid (res = drawT xs 1 i1) := by show _ = _; rw [HER.out, leafX, if_pos h1]
  clear h1; go_wp2_with fail; refine (l4term_any R c p xs 1 1 (by decide) rfl (by decide) i1 wL HRL.out).mono ?_; rintro e w4 h4; have FIN : Hid (TermOut w R p c xs (drawT xs 1 i1) e w4) := h4.on HKL.out; obtain ⟨q4, n4, c4, rfl, -, -, -⟩ := h4; go_wp2_with fail; go_ret; rw [HF.out]; exact FIN.out
 ·have hb : ((x : Int) == 1) = false := by rw [beq_eq_false_iff_ne]; omega
  have HF : Hid (res = ([(1, intD (rdI xs i1).toNat, [])], rdN xs i1)) := by show _ = _; rw [HER.out, leafX, if_neg h1]
  clear h1; go_wp2_with fail; refine (l4int_any R c i1 p xs wL HRL.out).mono ?_; rintro e w3 ⟨rfl, hk3, hR3⟩; have HK3 : Hid (Keep R (R + 1) w w3) := HKL.out.trans hk3; have HR3 : Hid (RdIn w3 R p c xs (rdN xs i1)) := hR3; clear hk3 hR3; go_wp2_with fail; refine (l2numO_any _ w3).mono ?_; rintro e w4 ⟨rfl, ho4, hb4⟩; have FIN : Hid _ := TermOut.of HK3.out HR3.out ho4 hb4; clear ho4 hb4; go_wp2_with fail; go_ret; rw [HF.out]; exact FIN.out
set_option maxHeartbeats 4000000 in
theorem expr_one (R c i m0 : Nat) (p : Option Addr) (xs : List Int) (D : Int) (f : Nat → List Cel × Nat) (w : World) (h : RdIn w R p c xs i) (hD : -10 ≤ D ∧ D ≤ 10) (hc : 0 < D) (hF : ExprK R c p xs (D - 1) f) (hm0 : m0 ≤ 600) (hf : ∀ i, Sml m0 (f i).1) (h0 : ¬ rdN xs i = xs.length) (h60 : ¬ (rdI xs i).toNat < 60) (h110 : (rdI xs i).toNat < 110) :
  Calls Tryz.prog 17 #[.pointer (some ⟨R, 0, none⟩), .int .i64 D] w (TermOut w R p c xs (exprN xs f i)) := by
 have HH : Hid (RdIn w R p c xs i) := h; have hr := rdI_rng h.bytes i; have hle := rdN_le h.le; have hsm := h.small; have hRw : R < w.heap.size := h.lt; have hr1 := rdI_rng h.bytes (rdN xs i); have HF : Hid (ExprK R c p xs (D - 1) f) := hF; have HSF : Hid (∀ i, Sml m0 (f i).1) := hf; have HM0 : Hid (m0 ≤ 600) := hm0; rw [show exprN xs f i = ((3, 1, numsU (oneU.getD ((rdI xs i).toNat % 5) [])) :: (f (rdN xs i)).1, (f (rdN xs i)).2) by unfold exprN; simp only; rw [if_neg (by intro hh; rcases hh with hh | hh; exact h0 hh; exact h60 hh), if_pos h110]]
 obtain ⟨n, en⟩ : ∃ n, n = xs.length := ⟨_, rfl⟩
 rw [← en] at hle hsm h0; have HEN : Hid (n = xs.length) := en
 obtain ⟨i1, ei⟩ : ∃ i1, i1 = rdN xs i := ⟨_, rfl⟩
 rw [← ei] at hle hr1 h0 ⊢; have HEI : Hid (i1 = rdN xs i) := ei; have hd : decide (D ≤ 0) = false := decide_eq_false (by omega)
 obtain ⟨x, ex⟩ : ∃ x : Nat, rdI xs i = x := ⟨(rdI xs i).toNat, by omega⟩
 have hxt : (rdI xs i).toNat = x := by rw [ex]; exact Int.toNat_natCast x
 rw [hxt] at h60 h110 ⊢; rw [ex] at hr
 obtain ⟨res, er⟩ : ∃ res : List Cel × Nat, res = ((3, 1, numsU (oneU.getD (x % 5) [])) :: (f i1).1, (f i1).2) := ⟨_, rfl⟩
 rw [← er]; have HER : Hid (res = ((3, 1, numsU (oneU.getD (x % 5) [])) :: (f i1).1, (f i1).2)) := er
 have HN1 : Hid (∀ W, RdIn W R p c xs i → Calls Tryz.prog 15 #[.pointer (some ⟨R, 0, none⟩)] W fun e w' => e = .returned (.int .i64 (x : Int)) ∧ Keep R (R + 1) W w' ∧ w'.heap.size = W.heap.size ∧ RdIn w' R p c xs i1) := fun W hW => by
  have := next_any R c i p xs W hW; rw [ex, ← ei] at this; exact this
 have hx60 : decide ((x : Int) < 60) = false := decide_eq_false (by omega); have hx110 : decide ((x : Int) < 110) = true := decide_eq_true (by omega)
 obtain ⟨z, ez⟩ : ∃ z, z = x % 5 := ⟨_, rfl⟩
 have hz : z < 5 := by omega
 have hzi : (0 : Int) ≤ (z : Int) := by omega
 have hzj : (z : Int) < 5 := by omega
 have hzn : (z : Int).toNat = z := Int.toNat_natCast z
 have hwrp : IntKind.i64.wrap (D - 1) = D - 1 := by rw [IntKind.wrap_i64]; omega
 have hmz : (x : Int).tmod 5 = (z : Int) := by rw [ez, Int.tmod_eq_emod_of_nonneg (by omega)]; rfl
 obtain ⟨sN, es⟩ : ∃ s, s = numsU (oneU.getD z []) := ⟨_, rfl⟩
 have HBS : Hid (Byte sN) := by rw [es]; exact byte_numsU _
 have HV : Hid (res = ((3, 1, sN) :: (f i1).1, (f i1).2)) := by show _ = _; rw [HER.out, ← ez, ← es]
 clear HER ez h60 h110; clear h en ei er ex hxt hF hf hm0
 go_enter Tryz.func17, Tryz.ntmps17
 go_wp2_with fail; refine (HN1.out w HH.out).mono ?_; rintro e w2 ⟨rfl, hk2, hs2, hR2⟩
 obtain ⟨wB, eB⟩ : ∃ wB, wB = w2.alloc (.cells (twoU.map strV).toArray 9) := ⟨_, rfl⟩
 obtain ⟨wA, eA⟩ : ∃ wA, wA = wB.alloc (.cells (oneU.map strV).toArray 9) := ⟨_, rfl⟩
 have hsB : wB.heap.size = w2.heap.size + 1 := by rw [eB]; simp
 have hbB : Below w2.heap.size w2 wB := by rw [eB]; exact (Below.refl _ _).alloc (Nat.le_refl _) _
 have hbA0 : Below wB.heap.size wB wA := by rw [eA]; exact (Below.refl _ _).alloc (Nat.le_refl _) _
 have hbA : Below w2.heap.size w2 wA := Below.on hbB hbA0; have HKA : Hid (Keep R (R + 1) w wA) := hk2.trans (Keep.of_below hbA); have HRA : Hid (RdIn wA R p c xs i1) := hR2.grow hbA
 have hcell : wA.cell? ⟨w2.heap.size + 1, z, none⟩ = some (.string (strOfNums sN)) := by
  have h1 := str_made wB oneU 9 z hz; rw [← eA, ← es, hsB] at h1; exact h1
 have hcA : wA.heap.size ≤ w2.heap.size + 2 ∧ R < w2.heap.size := ⟨by rw [eA, eB]; simp, Nat.lt_of_lt_of_le hRw hk2.size⟩
 clear es; rw [eB] at eA
 have eA' : wA = (w2.alloc (Obj.cells #[.string ⟨#[43]⟩, .string ⟨#[45]⟩, .string ⟨#[42]⟩, .string ⟨#[109, 105, 110]⟩, .string ⟨#[109, 97, 120]⟩, .string ⟨#[47, 47]⟩, .string ⟨#[114, 101, 109]⟩, .string ⟨#[109, 111, 100]⟩, .string ⟨#[62, 62]⟩, .string ⟨#[60, 60]⟩, .string ⟨#[47, 92]⟩, .string ⟨#[92, 47]⟩, .string ⟨#[120, 111, 114]⟩, .string ⟨#[42, 42]⟩, .string ⟨#[94]⟩] 9)).alloc (Obj.cells #[.string ⟨#[45]⟩, .string ⟨#[43]⟩, .string ⟨#[97, 98, 115]⟩, .string ⟨#[115, 105, 103, 110]⟩, .string ⟨#[92]⟩] 9) := by rw [eA]; rfl
 clear eB eA hbA0 hbA hbB hk2 hR2 hs2 hsB; go_wp2_with fail; rw [← eA']; clear eA'; refine (left_any R c i1 p xs wA HRA.out).mono ?_; rintro e wL ⟨rfl, hbL⟩; have HRL : Hid (RdIn wL R p c xs i1) := HRA.out.grow hbL; have HKL : Hid (Keep R (R + 1) w wL) := HKA.out.trans (Keep.of_below hbL); have hcL : wL.cell? ⟨w2.heap.size + 1, z, none⟩ = some (.string (strOfNums sN)) := (hbL.cell (World.block_lt_of_cell? _ _ hcell)).trans hcell; clear hcell; rw [← HEN.out]
 obtain ⟨lf, el⟩ : ∃ lf, lf = n - i1 := ⟨_, rfl⟩
 rw [← el]
 have hlf : lf ≤ 500 := by omega
 have hz0 : ((lf : Int) == 0) = false := by simp; omega
 clear hbL el
 have HRd : Hid (∀ k, RdIn (wL.drewN k) R p c xs i1) := fun k => HRL.out.grow (below_drewN (Below.refl _ _) k)
 have HKd : Hid (∀ k, Keep R (R + 1) w (wL.drewN k)) := fun k => HKL.out.trans (Keep.of_below (below_drewN (Below.refl _ _) k))
 have HCd : Hid (∀ k, (wL.drewN k).cell? ⟨w2.heap.size + 1, z, none⟩ = some (.string (strOfNums sN))) := fun k => hcL
 have HRbt : Hid (R < w2.heap.size + 1) := by show _ < _; omega
 have tok0 : True := trivial; go_wp2_with fail
 go_region_held3 (fun W => W.cell? ⟨w2.heap.size + 1, z, none⟩ = some (.string (strOfNums sN))) (first | exact kk | exact hcL | go_keep)
  (first
    | (have _t := tok0; go_at_call 17; refine Calls.mono (HF.out i1 _ (HRd.out 1)) ?_; rintro e w4 ⟨q4, n4, c4, rfl, ho4, hk4, hR4⟩; have HK4 : Hid (Keep R (R + 1) w w4) := (HKd.out 1).trans hk4; have HR4 : Hid (RdIn w4 R p c xs (f i1).2) := hR4; have HO4 : Hid (OwnC w4 (wL.drewN 1).heap.size q4 n4 c4 (f i1).1) := ho4; have kk : w4.cell? ⟨w2.heap.size + 1, z, none⟩ = some (.string (strOfNums sN)) := hk4.cell (HCd.out 1) (.inr HRbt.out); have HC4 : Hid (w4.cell? ⟨w2.heap.size + 1, z, none⟩ = some (.string (strOfNums sN))) := kk; clear hk4 ho4 hR4 tok0; have tok1 : True := trivial)
    | (have _t := tok1; go_at_call 39; refine Calls.mono (one_made sN HBS.out w4 HO4.out (HSF.out i1) HM0.out) ?_; rintro e w6 ⟨q6, n6, c6, rfl, ho6, hb6⟩; have FIN : Hid _ := TermOut.of HK4.out HR4.out ho6 hb6; have kk : w6.cell? ⟨w2.heap.size + 1, z, none⟩ = some (.string (strOfNums sN)) := (hb6.cell (World.block_lt_of_cell? _ _ HC4.out)).trans HC4.out; clear ho6 hb6 tok1))
 rename_i hheld; clear hheld
 clear kk; go_wp2_with fail; go_ret; rw [HV.out]; exact FIN.out
set_option maxHeartbeats 4000000 in
theorem expr_two (R c i m0 : Nat) (p : Option Addr) (xs : List Int) (D : Int) (f : Nat → List Cel × Nat) (w : World) (h : RdIn w R p c xs i) (hD : -10 ≤ D ∧ D ≤ 10) (hc : 0 < D) (hF : ExprK R c p xs (D - 1) f) (hm0 : m0 ≤ 600) (hf : ∀ i, Sml m0 (f i).1) (h0 : ¬ rdN xs i = xs.length) (h60 : ¬ (rdI xs i).toNat < 60) (h110 : ¬ (rdI xs i).toNat < 110) :
  Calls Tryz.prog 17 #[.pointer (some ⟨R, 0, none⟩), .int .i64 D] w (TermOut w R p c xs (exprN xs f i)) := by
 have HH : Hid (RdIn w R p c xs i) := h; have hr := rdI_rng h.bytes i; have hle := rdN_le h.le; have hsm := h.small; have hRw : R < w.heap.size := h.lt; have hr1 := rdI_rng h.bytes (rdN xs i); have HF : Hid (ExprK R c p xs (D - 1) f) := hF; have HSF : Hid (∀ i, Sml m0 (f i).1) := hf; have HM0 : Hid (m0 ≤ 600) := hm0; rw [show exprN xs f i = ((3, 2, numsU (twoU.getD ((rdI xs i).toNat % 15) [])) :: ((f (rdN xs i)).1 ++ (f (f (rdN xs i)).2).1), (f (f (rdN xs i)).2).2) by unfold exprN; simp only; rw [if_neg (by intro hh; rcases hh with hh | hh; exact h0 hh; exact h60 hh), if_neg h110]]
 obtain ⟨n, en⟩ : ∃ n, n = xs.length := ⟨_, rfl⟩
 rw [← en] at hle hsm h0; have HEN : Hid (n = xs.length) := en
 obtain ⟨i1, ei⟩ : ∃ i1, i1 = rdN xs i := ⟨_, rfl⟩
 rw [← ei] at hle hr1 h0 ⊢; have HEI : Hid (i1 = rdN xs i) := ei; have hd : decide (D ≤ 0) = false := decide_eq_false (by omega)
 obtain ⟨x, ex⟩ : ∃ x : Nat, rdI xs i = x := ⟨(rdI xs i).toNat, by omega⟩
 have hxt : (rdI xs i).toNat = x := by rw [ex]; exact Int.toNat_natCast x
 rw [hxt] at h60 h110 ⊢; rw [ex] at hr
 obtain ⟨res, er⟩ : ∃ res : List Cel × Nat, res = ((3, 2, numsU (twoU.getD (x % 15) [])) :: ((f i1).1 ++ (f (f i1).2).1), (f (f i1).2).2) := ⟨_, rfl⟩
 rw [← er]; have HER : Hid (res = ((3, 2, numsU (twoU.getD (x % 15) [])) :: ((f i1).1 ++ (f (f i1).2).1), (f (f i1).2).2)) := er
 have HN1 : Hid (∀ W, RdIn W R p c xs i → Calls Tryz.prog 15 #[.pointer (some ⟨R, 0, none⟩)] W fun e w' => e = .returned (.int .i64 (x : Int)) ∧ Keep R (R + 1) W w' ∧ w'.heap.size = W.heap.size ∧ RdIn w' R p c xs i1) := fun W hW => by
  have := next_any R c i p xs W hW; rw [ex, ← ei] at this; exact this
 have hx60 : decide ((x : Int) < 60) = false := decide_eq_false (by omega); have hx110 : decide ((x : Int) < 110) = false := decide_eq_false (by omega)
 obtain ⟨z, ez⟩ : ∃ z, z = x % 15 := ⟨_, rfl⟩
 have hz : z < 15 := by omega
 have hzi : (0 : Int) ≤ (z : Int) := by omega
 have hzj : (z : Int) < 15 := by omega
 have hzn : (z : Int).toNat = z := Int.toNat_natCast z
 have hwrp : IntKind.i64.wrap (D - 1) = D - 1 := by rw [IntKind.wrap_i64]; omega
 have hmz : (x : Int).tmod 15 = (z : Int) := by rw [ez, Int.tmod_eq_emod_of_nonneg (by omega)]; rfl
 obtain ⟨sN, es⟩ : ∃ s, s = numsU (twoU.getD z []) := ⟨_, rfl⟩
 have HBS : Hid (Byte sN) := by rw [es]; exact byte_numsU _
 have HV : Hid (res = ((3, 2, sN) :: ((f i1).1 ++ (f (f i1).2).1), (f (f i1).2).2)) := by show _ = _; rw [HER.out, ← ez, ← es]
 clear HER ez h60 h110; clear h en ei er ex hxt hF hf hm0
 go_enter Tryz.func17, Tryz.ntmps17
 go_wp2_with fail; refine (HN1.out w HH.out).mono ?_; rintro e w2 ⟨rfl, hk2, hs2, hR2⟩
 obtain ⟨wB, eB⟩ : ∃ wB, wB = w2.alloc (.cells (twoU.map strV).toArray 9) := ⟨_, rfl⟩
 obtain ⟨wA, eA⟩ : ∃ wA, wA = wB.alloc (.cells (oneU.map strV).toArray 9) := ⟨_, rfl⟩
 have hsB : wB.heap.size = w2.heap.size + 1 := by rw [eB]; simp
 have hbB : Below w2.heap.size w2 wB := by rw [eB]; exact (Below.refl _ _).alloc (Nat.le_refl _) _
 have hbA0 : Below wB.heap.size wB wA := by rw [eA]; exact (Below.refl _ _).alloc (Nat.le_refl _) _
 have hbA : Below w2.heap.size w2 wA := Below.on hbB hbA0; have HKA : Hid (Keep R (R + 1) w wA) := hk2.trans (Keep.of_below hbA); have HRA : Hid (RdIn wA R p c xs i1) := hR2.grow hbA
 have hcell : wA.cell? ⟨w2.heap.size, z, none⟩ = some (.string (strOfNums sN)) := by
  have h1 := str_made w2 twoU 9 z hz; rw [← eB, ← es] at h1; exact (hbA0.cell (p := ⟨w2.heap.size, z, none⟩) (by show w2.heap.size < _; omega)).trans h1
 have hcA : wA.heap.size ≤ w2.heap.size + 2 ∧ R < w2.heap.size := ⟨by rw [eA, eB]; simp, Nat.lt_of_lt_of_le hRw hk2.size⟩
 clear es; rw [eB] at eA
 have eA' : wA = (w2.alloc (Obj.cells #[.string ⟨#[43]⟩, .string ⟨#[45]⟩, .string ⟨#[42]⟩, .string ⟨#[109, 105, 110]⟩, .string ⟨#[109, 97, 120]⟩, .string ⟨#[47, 47]⟩, .string ⟨#[114, 101, 109]⟩, .string ⟨#[109, 111, 100]⟩, .string ⟨#[62, 62]⟩, .string ⟨#[60, 60]⟩, .string ⟨#[47, 92]⟩, .string ⟨#[92, 47]⟩, .string ⟨#[120, 111, 114]⟩, .string ⟨#[42, 42]⟩, .string ⟨#[94]⟩] 9)).alloc (Obj.cells #[.string ⟨#[45]⟩, .string ⟨#[43]⟩, .string ⟨#[97, 98, 115]⟩, .string ⟨#[115, 105, 103, 110]⟩, .string ⟨#[92]⟩] 9) := by rw [eA]; rfl
 clear eB eA hbA0 hbA hbB hk2 hR2 hs2 hsB; go_wp2_with fail; rw [← eA']; clear eA'; refine (left_any R c i1 p xs wA HRA.out).mono ?_; rintro e wL ⟨rfl, hbL⟩; have HRL : Hid (RdIn wL R p c xs i1) := HRA.out.grow hbL; have HKL : Hid (Keep R (R + 1) w wL) := HKA.out.trans (Keep.of_below hbL); have hcL : wL.cell? ⟨w2.heap.size, z, none⟩ = some (.string (strOfNums sN)) := (hbL.cell (World.block_lt_of_cell? _ _ hcell)).trans hcell; clear hcell; rw [← HEN.out]
 obtain ⟨lf, el⟩ : ∃ lf, lf = n - i1 := ⟨_, rfl⟩
 rw [← el]
 have hlf : lf ≤ 500 := by omega
 have hz0 : ((lf : Int) == 0) = false := by simp; omega
 clear hbL el
 have HRbt : Hid (R < w2.heap.size) := by show _ < _; omega
 go_wp2_with fail; refine (HF.out i1 wL HRL.out).mono ?_; rintro e w4 ⟨q4, n4, c4, rfl, ho4, hk4, hR4⟩; have HK4 : Hid (Keep R (R + 1) w w4) := HKL.out.trans hk4; have HR4 : Hid (RdIn w4 R p c xs (f i1).2) := hR4; have HO4 : Hid (OwnC w4 wL.heap.size q4 n4 c4 (f i1).1) := ho4; have hRwL : R < wL.heap.size := HRL.out.lt; have hc4 : w4.cell? ⟨w2.heap.size, z, none⟩ = some (.string (strOfNums sN)) := hk4.cell hcL (.inr HRbt.out)
 have HRd : Hid (∀ k, RdIn (w4.drewN k) R p c xs (f i1).2) := fun k => HR4.out.grow (below_drewN (Below.refl _ _) k)
 have HKd : Hid (∀ k, Keep R (R + 1) w (w4.drewN k)) := fun k => HK4.out.trans (Keep.of_below (below_drewN (Below.refl _ _) k))
 have HCd : Hid (∀ k, (w4.drewN k).cell? ⟨w2.heap.size, z, none⟩ = some (.string (strOfNums sN))) := fun k => hc4
 have HOd : Hid (∀ k, OwnC (w4.drewN k) wL.heap.size q4 n4 c4 (f i1).1) := fun k => HO4.out.below (below_drewN (Below.refl _ _) k)
 have tok0 : True := trivial; clear ho4 hk4 hR4 hcL; go_wp2_with fail
 go_region_held3 (fun W => W.cell? ⟨w2.heap.size, z, none⟩ = some (.string (strOfNums sN))) (first | exact kk | exact hc4 | go_keep)
  (first
    | (have _t := tok0; go_at_call 17; refine Calls.mono (HF.out (f i1).2 _ (HRd.out 1)) ?_; rintro e w5 ⟨q5, n5, c5, rfl, ho5, hk5, hR5⟩; have HK5 : Hid (Keep R (R + 1) w w5) := (HKd.out 1).trans hk5; have HR5 : Hid (RdIn w5 R p c xs (f (f i1).2).2) := hR5; have HL := l2pair_any sN HBS.out q4 q5 n4 n5 c4 c5 (f i1).1 (f (f i1).2).1 w5 HO4.out.1 ho5.1 ((HOd.out 1).keepR hk5 hRwL).cin ho5.cin (HSF.out _).pos (HSF.out _).pos ((HSF.out _).few HM0.out).2 ((HSF.out _).few HM0.out).2; have HLH : Hid _ := HL; have kk : w5.cell? ⟨w2.heap.size, z, none⟩ = some (.string (strOfNums sN)) := hk5.cell (HCd.out 1) (.inr HRbt.out); clear hk5 ho5 hR5 tok0 HL; have tok1 : True := trivial)
    | (have _t := tok1; go_at_call 40; refine Calls.mono HLH.out ?_; rintro e w6 ⟨q6, n6, c6, rfl, ho6, hb6⟩; have FIN : Hid _ := TermOut.of HK5.out HR5.out ho6 hb6; have kk : w6.cell? ⟨w2.heap.size, z, none⟩ = some (.string (strOfNums sN)) := (hb6.cell (World.block_lt_of_cell? _ _ kk)).trans kk; clear ho6 hb6 tok1))
 rename_i hheld; clear hheld
 clear kk; go_wp2_with fail; go_ret; rw [HV.out]; exact FIN.out
theorem l13expr_any (R c : Nat) (p : Option Addr) (xs : List Int) : ∀ (d : Nat) (D : Int), d ≤ 4 → D.toNat = d → -10 ≤ D → ExprK R c p xs D (drawX xs d) := by
 have low : ∀ (D : Int), D ≤ 0 → -10 ≤ D → ExprK R c p xs D (drawX xs 0) := fun D h1 h2 i w h => expr_low R c i p xs D w h ⟨h2, by omega⟩ h1
 have small : ∀ d, d ≤ 4 → ∀ i, Sml 600 (drawX xs d i).1 := fun d hd i => by
  have h := drawX_sml xs d i; have : 2 ^ d ≤ 2 ^ 4 := Nat.pow_le_pow_right (by decide) hd; exact ⟨h.pos, by have := h.len; omega, h.txt⟩
 intro d
 induction d with
 | zero => exact fun D _ h1 h2 => low D (by omega) h2
 | succ d ih =>
   intro D hd h1 h2 i w h
   have h0 : 0 < D := by omega
   have hF := ih (D - 1) (by omega) (by omega) (by omega); have hf := small d (by omega)
   by_cases e1 : rdN xs i = xs.length
   ·by_cases e2 : (rdI xs i).toNat < 60
    ·have := expr_few R c i p xs D w h ⟨by omega, by omega⟩ h0 e2
     rwa [show leafX xs (rdI xs i).toNat (rdN xs i) = drawX xs (d + 1) i by show _ = exprN xs _ i; unfold exprN; simp only; rw [if_pos (.inl e1)]] at this
    ·have := expr_end R c i p xs D w h ⟨by omega, by omega⟩ h0 e1 e2
     rwa [show leafX xs (rdI xs i).toNat (rdN xs i) = drawX xs (d + 1) i by show _ = exprN xs _ i; unfold exprN; simp only; rw [if_pos (.inl e1)]] at this
   by_cases e2 : (rdI xs i).toNat < 60
   ·have := expr_few R c i p xs D w h ⟨by omega, by omega⟩ h0 e2
    rwa [show leafX xs (rdI xs i).toNat (rdN xs i) = drawX xs (d + 1) i by show _ = exprN xs _ i; unfold exprN; simp only; rw [if_pos (.inr e2)]] at this
   by_cases e3 : (rdI xs i).toNat < 110
   ·exact expr_one R c i 600 p xs D _ w h ⟨by omega, by omega⟩ h0 hF (Nat.le_refl _) hf e1 e2 e3
   ·exact expr_two R c i 600 p xs D _ w h ⟨by omega, by omega⟩ h0 hF (Nat.le_refl _) hf e1 e2 e3
def evD (ys : List Int) : List Cel := (if (rdI ys 0).toNat % 16 = 0 then anyF ys (rdN ys 0) else drawX ys 4 (rdN ys 0)).1
def CelO (w : World) (cs : List Cel) (e : Ending) (w' : World) : Prop := ∃ q n cap, e = .returned (.slice q n cap) ∧ OwnC w' w.heap.size q n cap cs ∧ Below w.heap.size w w'
theorem below_of_keep {R : Nat} {w w0 w' : World} (h0 : Below w.heap.size w w0) (hs : w.heap.size ≤ R) (hk : Keep R (R + 1) w0 w') : Below w.heap.size w w' :=
 ⟨hk.os.trans h0.os, hk.tape.trans h0.tape, hk.output.trans h0.output, Nat.le_trans h0.size hk.size, fun k hk' => (hk.block k (Nat.lt_of_lt_of_le hk' h0.size) (.inl (by omega))).trans (h0.block k hk')⟩
set_option maxHeartbeats 1000000 in
theorem drawEval_any (p : Option Addr) (c n : Nat) (xs : List Int) (w : World) (hb : Bytes xs) (hn : xs.length ≤ 1048576) (hc : xs.length ≤ c) (hx : BIn w p xs) (en : n = xs.length) :
  Calls Tryz.prog 4 #[.slice p n c] w (CelO w (evD (xs.take 500))) := by
 have HOP := l4open_any p c xs w hb hn hc hx; rw [← en] at HOP
 obtain ⟨ys, ey⟩ : ∃ ys, ys = xs.take 500 := ⟨_, rfl⟩
 rw [← ey] at HOP ⊢
 obtain ⟨R, eR⟩ : ∃ R, R = w.heap.size := ⟨_, rfl⟩
 have HER : Hid (R = w.heap.size) := eR; rw [← eR] at HOP
 obtain ⟨res, er⟩ : ∃ res, res = evD ys := ⟨_, rfl⟩
 rw [← er]; have HV : Hid (res = evD ys) := er; clear hn hc hx en ey eR er hb
 go_enter Tryz.func4, Tryz.ntmps4
 go_wp2_with fail; refine HOP.mono ?_; rintro e w1 ⟨rfl, hb1, hs1, hR1⟩
 have HB1 : Hid (Below w.heap.size w w1) := by rw [← HER.out]; exact hb1
 have HR1 : Hid (RdIn w1 R p c ys 0) := hR1; have hr := rdI_rng hR1.bytes 0
 obtain ⟨i1, ei⟩ : ∃ i1, i1 = rdN ys 0 := ⟨_, rfl⟩
 obtain ⟨x, ex⟩ : ∃ x : Nat, rdI ys 0 = x := ⟨(rdI ys 0).toNat, by omega⟩
 have hx : x < 256 := by omega
 obtain ⟨z, ez⟩ : ∃ z, z = x % 16 := ⟨_, rfl⟩
 have hz : z < 16 := by omega
 have hmz : (x : Int).tmod 16 = (z : Int) := by rw [ez, Int.tmod_eq_emod_of_nonneg (by omega)]; rfl
 have HW : Hid (res = (if z = 0 then anyF ys i1 else drawX ys 4 i1).1) := by
  show _ = _
  rw [HV.out, evD, ex, Int.toNat_natCast, ← ez, ← ei]
 have HN := next_any R c 0 p ys w1 hR1; rw [ex, ← ei] at HN
 have HF : Hid (∀ w2 f e w3, Keep R (R + 1) w1 w2 → TermOut w2 R p c ys f e w3 → CelO w f.1 e w3) := by
  rintro w2 f e w3 hk ⟨q, m, cap, he, ho, hk3, hr3⟩; have hB := HB1.out; have hR := HER.out; have hle : w.heap.size ≤ w2.heap.size := Nat.le_trans hB.size hk.size; exact ⟨q, m, cap, he, ho.mono hle, below_of_keep hB (Nat.le_of_eq hR.symm) (hk.trans hk3)⟩
 clear hb1 hs1 hR1 hr ei ex ez HOP HV; go_wp2_with fail; refine HN.mono ?_; rintro e w2 ⟨rfl, hk2, hs2, hR2⟩; have HR2 : Hid (RdIn w2 R p c ys i1) := hR2; have HK2 : Hid (Keep R (R + 1) w1 w2) := hk2; clear hk2 hs2 hR2 HN
 by_cases hz0 : z = 0
 ·have hb : ((z : Int) == 0) = true := by rw [hz0]; rfl
  have HX : Hid (res = (anyF ys i1).1) := HW.out.trans (by rw [if_pos hz0]); clear hz0; go_wp2_with fail; refine (l4any_any R c i1 p ys w2 HR2.out).mono ?_; rintro e w3 h3; have FIN : Hid (CelO w (anyF ys i1).1 e w3) := HF.out w2 _ e w3 HK2.out h3; obtain ⟨q, m, cap, rfl, -, -, -⟩ := h3; go_wp2_with fail; go_ret; rw [HX.out]; exact FIN.out
 ·have hb : ((z : Int) == 0) = false := by rw [beq_eq_false_iff_ne]; omega
  have HX : Hid (res = (drawX ys 4 i1).1) := HW.out.trans (by rw [if_neg hz0]); clear hz0; go_wp2_with fail; refine (l13expr_any R c p ys 4 4 (by decide) rfl (by decide) i1 w2 HR2.out).mono ?_; rintro e w3 h3; have FIN : Hid (CelO w (drawX ys 4 i1).1 e w3) := HF.out w2 _ e w3 HK2.out h3; obtain ⟨q, m, cap, rfl, -, -, -⟩ := h3; go_wp2_with fail; go_ret; rw [HX.out]; exact FIN.out
end
section
open Go Go.RowKit
set_option linter.unusedSimpArgs false
def SEOut (w : World) (r : List Cel × Int) (e : Ending) (w' : World) : Prop := ∃ q m c2, e = .returned (.tuple #[.slice q m c2, .int .i64 r.2]) ∧ m = r.1.length ∧ CIn w' q r.1 ∧ Below w.heap.size w w'
theorem specEval_good (c : Cel) (k : Fo) (p : Option Addr) (n cap : Nat) (w : World) (hok : (Fo.node c k .nil).ok) (hn : n = (c :: k.cells).length) (hnm : n ≤ 2000) (hcap : n ≤ cap) (hcm : cap ≤ 9223372036854775807) (hv : validB (c :: k.cells) = true) (hin : CIn w p (c :: k.cells)) : Calls Tryz.prog 5 #[.slice p n cap] w (SEOut w (evZ (evT (c, k)))) := by
 have HVA := specValid_any p cap (c :: k.cells) w (by omega) hin; rw [hv, ← hn] at HVA
 have HVV : Hid (∀ W, Below w.heap.size w W → Calls Tryz.prog 19 #[.slice p n cap] W (SV W (evT (c, k)))) := fun W hW => value_all _ c k p n cap W (Nat.le_refl _) hok hn hnm hcap hcm (hin.below hW)
 obtain ⟨R, eR⟩ : ∃ R, R = evT (c, k) := ⟨_, rfl⟩
 rw [← eR] at HVV ⊢; clear hok hn hv hin eR
 go_enter Tryz.func5, Tryz.ntmps5
 go_wp2_with fail; refine HVA.mono ?_; rintro e w1 ⟨rfl, hb1⟩; have HB1 : Hid (Below w.heap.size w w1) := hb1; have HV1 := HVV.out w1 hb1; clear hb1 HVA HVV; go_wp2_with fail; refine HV1.mono ?_; clear HV1
 cases R with
 | ok v =>
   rintro e w2 ⟨rfl, hb2⟩; have HB2 : Hid (Below w.heap.size w w2) := Below.on HB1.out hb2; have HN := l2num_any v w2; clear hb2; go_wp2_with fail; refine HN.mono ?_; rintro e w3 ⟨q, rfl, hc, hb3⟩; have HC : Hid _ := hc; have HB3 : Hid (Below w.heap.size w w3) := Below.on HB2.out hb3; clear hc hb3 HN; go_wp2_with fail
   go_ret2
   exact ⟨q, 1, 1, rfl, rfl, HC.out, HB3.out⟩
 | error t =>
   rintro e w2 ⟨⟨qb, mb, cb, rfl, hmb, hcb⟩, hb2⟩
   have HO : Hid (mb = _ ∧ CIn w2 qb _) := ⟨hmb, hcb⟩
   have HB2 : Hid (Below w.heap.size w w2) := Below.on HB1.out hb2
   have hm0 : 0 < mb := by rw [hmb]; simp
   clear hmb hcb hb2; go_wp2_with fail
   go_ret2
   exact ⟨qb, mb, cb, rfl, HO.out.1, HO.out.2, HB2.out⟩
theorem specEval_bad (p : Option Addr) (cap : Nat) (cs : List Cel) (w : World) (hl : cs.length ≤ 1000000000) (hv : validB cs = false) (hin : CIn w p cs) : Calls Tryz.prog 5 #[.slice p cs.length cap] w (SEOut w ([], 1)) := by
 have HVA := specValid_any p cap cs w hl hin; rw [hv] at HVA; clear hin
 go_enter Tryz.func5, Tryz.ntmps5
 go_wp2_with fail; refine HVA.mono ?_; rintro e w1 ⟨rfl, hb1⟩; have HB1 : Hid (Below w.heap.size w w1) := hb1; clear hb1 HVA; go_wp2_with fail
 go_ret2
 exact ⟨none, 0, 0, rfl, rfl, fun h => by simp at h, HB1.out⟩
theorem fo_text : ∀ (F : Fo), F.ok → ∀ c ∈ F.cells, c.2.2.length ≤ 100
 | .nil, _, c, hc => by cases hc
 | .node a k r, h, c, hc => by
   simp only [Fo.cells, List.mem_cons, List.mem_append] at hc
   rcases hc with rfl | hc | hc
   ·have := h.1
    simp only [cellB, decide_eq_true_eq] at this
    omega
   ·exact fo_text k h.2.2.2.2.1 c hc
   ·exact fo_text r h.2.2.2.2.2 c hc
theorem tl_le6 : ∀ cs : List Cel, (∀ c ∈ cs, c.2.2.length ≤ 100) → tl cs ≤ 100 * cs.length
 | [], _ => by simp [tl]
 | a :: r, h => by
   have h1 := tl_le6 r (fun c hc => h c (by simp [hc])); have h2 := h a (by simp); simp only [tl, List.length_cons]
   omega
end
end Go.Proofs.YtkklidpnkofipaaGreatDoor
