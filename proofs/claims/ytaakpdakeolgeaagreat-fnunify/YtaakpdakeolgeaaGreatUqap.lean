/- Texts of Dt10, Dt11, Dt12, Dt13. Own work of the verifier. -/
import Derived.Test.YtaakpdakeolgeaaGreatUqao
namespace Go.Proofs.YtaakpdakeolgeaaGreat
open Go Go.RowKit
set_option linter.unusedVariables false
theorem conv_byte (w : World) (x : Int) : (convert 22 22 (.slice (some ⟨w.heap.size, 0, none⟩) 1 1)).run Tryz.prog (w.alloc (.cells #[.int .u8 x] 5)) = .ok (.slice (some ⟨w.heap.size, 0, none⟩) 1 1) (w.alloc (.cells #[.int .u8 x] 5 (1, 2))) :=
  Lib.run_convert_bytes_const (P := Tryz.prog) w 22 5 #[.int .u8 x] 1 1 Tryz.underlying22 Tryz.underlying5
theorem byte_text (w : World) (x : Int) : OwnT (w.alloc (.cells #[.int .u8 x] 5 (1, 2))) w.heap.size (some ⟨w.heap.size, 0, none⟩) 1 1 [x] := ⟨rfl, fun _ => ⟨w.heap.size, rfl, Nat.le_refl _, by simp, fun i hi => by
  have hi0 : i = 0 := by omega
  subst hi0
  refine ⟨cell_of_row _ _ 0 _ _ _ (heap_alloc_new _ _), ?_⟩
  simp only [World.frozen?, heap_alloc_new]
  simp⟩⟩
theorem own_two {w : World} {B g tn tc : Nat} {k n k' n' : Int} {tp : Option Addr} {s : List Int} (hg : w.heap[g]? = some (.cells #[.int .i64 k, .int .i64 n, .slice tp tn tc, .int .i64 k', .int .i64 n', .slice none 0 0] 35)) (hB : B ≤ g) (ht : OwnT w B tp tn tc s) (hne : 0 < tn → ∀ a, tp = some a → a.block ≠ g) : OwnC w B (some ⟨g, 0, none⟩) 2 2 [(k, n, s), (k', n', [])] := by
  refine ⟨rfl, [(k, n, tp, tn, tc), (k', n', none, 0, 0)], rfl, ⟨rfl, .inr ⟨g, 2, _, rfl, hB, hg, Nat.le_refl _, by decide, rfl, rfl⟩⟩, fun i hi => ?_, ?_⟩
  · rcases (by simp at hi; omega : i = 0 ∨ i = 1) with rfl | rfl
    · exact ⟨rfl, rfl, ht⟩
    · exact ⟨rfl, rfl, rfl, fun h => absurd (show 0 < 0 from h) (Nat.lt_irrefl 0)⟩
  · refine ⟨fun i hi h => ?_, fun i j hi hj hne' h1 h2 => ?_⟩
    · rcases (by simp at hi; omega : i = 0 ∨ i = 1) with rfl | rfl
      · exact fun e => hne h _ e rfl
      · exact absurd (show 0 < 0 from h) (Nat.lt_irrefl 0)
    · rcases (by simp at hi; omega : i = 0 ∨ i = 1) with rfl | rfl
      · rcases (by simp at hj; omega : j = 0 ∨ j = 1) with rfl | rfl
        · exact absurd rfl hne'
        · exact absurd (show 0 < 0 from h2) (Nat.lt_irrefl 0)
      · exact absurd (show 0 < 0 from h1) (Nat.lt_irrefl 0)
theorem l2atomW_any (s : List Int) (hs : Byte s) (w : World) : Calls Tryz.prog 21 #[.string (strOfNums s)] w fun e w' => ∃ p, e = .returned (.slice p 1 1) ∧ OwnC w' w.heap.size p 1 1 [(2, 0, s)] ∧ Below w.heap.size w w' := by
  obtain ⟨w1, cap1, hcv, hb1, ht⟩ := conv_bytes w s hs 9 Tryz.underlying9
  obtain ⟨l, el⟩ : ∃ l, l = s.length := ⟨_, rfl⟩
  rw [← el] at hcv ht
  have hb : Below w1.heap.size w1 (w1.alloc (Obj.cells #[Value.int IntKind.i64 2, Value.int IntKind.i64 0, Value.slice (some ⟨w.heap.size, 0, none⟩) l cap1] 35)) := (Below.refl _ _).alloc (Nat.le_refl _) _
  have HO : Hid (OwnC (w1.alloc (Obj.cells #[Value.int IntKind.i64 2, Value.int IntKind.i64 0, Value.slice (some ⟨w.heap.size, 0, none⟩) l cap1] 35)) w.heap.size (some ⟨w1.heap.size, 0, none⟩) 1 1 [(2, 0, s)]) := own_oneN (heap_alloc_new w1 _) hb1.size (ht.below hb) (fun h0 a ea => by
    obtain ⟨g', e', _, h3, _⟩ := ht.2 h0
    cases e'
    cases ea
    exact Nat.ne_of_lt h3)
  have HB : Hid (Below w.heap.size w (w1.alloc (Obj.cells #[Value.int IntKind.i64 2, Value.int IntKind.i64 0, Value.slice (some ⟨w.heap.size, 0, none⟩) l cap1] 35))) := Below.on hb1 hb
  clear hb1 ht hb el
  go_enter Tryz.func21, Tryz.ntmps21
  go_wp2_with fail
  go_ret
  exact ⟨_, rfl, HO.out, HB.out⟩
set_option maxRecDepth 100000 in
set_option maxHeartbeats 2000000 in
theorem spoil_7 (R c i : Nat) (p : Option Addr) (xs : List Int) (B g n cp : Nat) (cs : List Cel) (w : World) (h : RdIn w R p c xs i) (hRB : R < B) (hBw : B ≤ w.heap.size) (ho : OwnC w B (some ⟨g, 0, none⟩) n cp cs) (h0 : 0 < cs.length) (hl : cs.length ≤ 600) (hnum : NumC cs) (hk : (rdI xs i).toNat % 9 = 7) :
    Calls Tryz.prog 47 #[.slice (some ⟨g, 0, none⟩) n cp, .pointer (some ⟨R, 0, none⟩)] w (SpoilOut w B R p c xs (spoilF xs cs i)) := by
  have HH : Hid (RdIn w R p c xs i) := h
  have HO : Hid (OwnC w B (some ⟨g, 0, none⟩) n cp cs) := ho
  have hn : n = cs.length := ho.1
  have hcap := ho.cap
  have hgB : B ≤ g ∧ g < w.heap.size := by obtain ⟨g', e, h1, h2⟩ := ho.at0 h0; cases e; exact ⟨h1, h2⟩
  have hr := rdI_rng h.bytes i
  have hr1 := rdI_rng h.bytes (rdN xs i)
  have hr2 := rdI_rng h.bytes (rdN xs (rdN xs i))
  obtain ⟨res, er⟩ : ∃ res, res = spoilF xs cs i := ⟨_, rfl⟩
  rw [← er]
  have HER : Hid (res = spoilF xs cs i) := er
  obtain ⟨i1, ei⟩ : ∃ i1, i1 = rdN xs i := ⟨_, rfl⟩
  obtain ⟨i2, ei2⟩ : ∃ i2, i2 = rdN xs i1 := ⟨_, rfl⟩
  rw [← ei] at hr1 hr2
  rw [← ei2] at hr2
  obtain ⟨x, ex⟩ : ∃ x : Nat, rdI xs i = x := ⟨(rdI xs i).toNat, by omega⟩
  obtain ⟨u, eu⟩ : ∃ u : Nat, rdI xs i1 = u := ⟨(rdI xs i1).toNat, by omega⟩
  obtain ⟨y, ey⟩ : ∃ y : Nat, rdI xs i2 = y := ⟨(rdI xs i2).toNat, by omega⟩
  have hx9 : (x : Int).tmod 9 = 7 := by rw [Int.tmod_eq_emod_of_nonneg (by omega)]; rw [ex] at hk; omega
  have hx : x < 256 := by omega
  have hu : u < 256 := by omega
  have hy : y < 256 := by omega
  obtain ⟨a, ea⟩ : ∃ a, a = u % cs.length := ⟨_, rfl⟩
  have hal : a < cs.length := by rw [ea]; exact Nat.mod_lt _ h0
  have han : a < n := by omega
  have hn0 : ((n : Int) == 0) = false := by rw [beq_eq_false_iff_ne]; omega
  have hma : (u : Int).tmod (n : Int) = (a : Int) := by rw [ea, hn, Int.tmod_eq_emod_of_nonneg (by omega)]; rfl
  have hn600 : n ≤ 600 := by omega
  obtain ⟨z, ez⟩ : ∃ z, z = y % 3 := ⟨_, rfl⟩
  have hz : z < 3 := by omega
  have hmz : (y : Int).tmod 3 = (z : Int) := by rw [ez, Int.tmod_eq_emod_of_nonneg (by omega)]; rfl
  obtain ⟨N, eN⟩ : ∃ N, N = 1999 + z := ⟨_, rfl⟩
  have hadd : (1999 : Int) + (z : Int) = (N : Int) := by omega
  have hN : 1999 ≤ N ∧ N ≤ 2001 := by omega
  obtain ⟨hh, ehh⟩ : ∃ hh, hh = (N - 1) / 2 := ⟨_, rfl⟩
  have hhh : hh ≤ 1000 := by omega
  have hsub : (N : Int) - 1 = ((N - 1 : Nat) : Int) := by omega
  have hquo : ((N : Int) - 1).tdiv 2 = (hh : Int) := by rw [hsub, ehh]; rfl
  have HHH : Hid (hh = (N - 1) / 2) := ehh
  obtain ⟨z2, ez2⟩ : ∃ z, z = N % 2 := ⟨_, rfl⟩
  have hz2 : z2 < 2 := by omega
  have hmz2 : (N : Int).tmod 2 = (z2 : Int) := by rw [ez2, Int.tmod_eq_emod_of_nonneg (by omega)]; rfl
  have HZ2 : Hid (z2 = N % 2) := ez2
  have HV : Hid (res = (bigF N, rdN xs i2)) := by
    show _ = _
    rw [HER.out]
    unfold spoilF
    simp only
    rw [← ei, ← ei2, eu, ey, Int.toNat_natCast, Int.toNat_natCast, ← ea, ← ez, ← eN, hk]
    first | rfl | (rw [if_neg (by decide), if_neg (by decide), if_neg (by decide), if_neg (by decide), if_neg (by decide), if_neg (by decide), if_neg (by decide), if_pos rfl])
  have HN1 : Hid (∀ W, RdIn W R p c xs i → Calls Tryz.prog 15 #[.pointer (some ⟨R, 0, none⟩)] W fun e w' => e = .returned (.int .i64 (x : Int)) ∧ Keep R (R + 1) W w' ∧ w'.heap.size = W.heap.size ∧ RdIn w' R p c xs i1) := fun W hW => by
    have := next_any R c i p xs W hW
    rw [ex, ← ei] at this; exact this
  have HN2 : Hid (∀ W, RdIn W R p c xs i1 → Calls Tryz.prog 15 #[.pointer (some ⟨R, 0, none⟩)] W fun e w' => e = .returned (.int .i64 (u : Int)) ∧ Keep R (R + 1) W w' ∧ w'.heap.size = W.heap.size ∧ RdIn w' R p c xs i2) := fun W hW => by
    have := next_any R c i1 p xs W hW
    rw [eu, ← ei2] at this; exact this
  have HN3 : Hid (∀ W, RdIn W R p c xs i2 → Calls Tryz.prog 15 #[.pointer (some ⟨R, 0, none⟩)] W fun e w' => e = .returned (.int .i64 (y : Int)) ∧ Keep R (R + 1) W w' ∧ w'.heap.size = W.heap.size ∧ RdIn w' R p c xs (rdN xs i2)) := fun W hW => by
    have := next_any R c i2 p xs W hW
    rw [ey] at this; exact this
  have HAL : Hid (a < cs.length) := hal
  have HNE : Hid (n = cs.length) := hn
  clear h ho er ei ei2 ex eu ey ea hn hk hnum h0 hl hr hr1 hr2 hal ez eN ehh hsub ez2
  go_enter Tryz.func47, Tryz.ntmps47
  go_wp2_with fail
  refine (HN1.out w HH.out).mono ?_
  rintro e w2 ⟨rfl, hk2, hs2, hR2⟩
  have HR2 : Hid (RdIn w2 R p c xs i1) := hR2
  have HK2 : Hid (Keep R (R + 1) w w2) := hk2
  clear hk2 hs2 hR2
  go_wp2_with fail
  refine (HN2.out w2 HR2.out).mono ?_
  rintro e w3 ⟨rfl, hk3, hs3, hR3⟩
  have HR3 : Hid (RdIn w3 R p c xs i2) := hR3
  have HK3 : Hid (Keep R (R + 1) w w3) := HK2.out.trans hk3
  have HO3 : Hid (OwnC w3 B (some ⟨g, 0, none⟩) n cp cs) := HO.out.keepR HK3.out hRB
  have hB3 : B ≤ w3.heap.size := Nat.le_trans hBw HK3.out.size
  clear hk3 hs3 hR3
  go_wp2_with fail
  refine (HN3.out w3 HR3.out).mono ?_
  rintro e w4 ⟨rfl, hk4, hs4, hR4⟩
  have HR4 : Hid (RdIn w4 R p c xs (rdN xs i2)) := hR4
  have HK4 : Hid (Keep R (R + 1) w w4) := HK3.out.trans hk4
  have HO4 : Hid (OwnC w4 B (some ⟨g, 0, none⟩) n cp cs) := HO.out.keepR HK4.out hRB
  have hB4 : B ≤ w4.heap.size := Nat.le_trans hBw HK4.out.size
  clear hk4 hs4 hR4
  have hcs := conv_byte
  have HBB : Hid (bigF N = (bigL hh ++ (if z2 = 0 then [(3, 1, [102])] else [])) ++ [nilC]) := by rw [HHH.out, HZ2.out]; rfl
  go_wp2_with fail
  go_loopw [7, 9] (fun s jv wr => ∃ (j m cr : Nat) (r : Option Addr), j ≤ hh ∧ m ≤ 2 * hh ∧ Hid (m = 2 * j) ∧ jv = .int .i64 j ∧ s = .slice r m cr ∧ Hid (OwnC wr w4.heap.size r m cr (bigL j)) ∧ Hid (Below w4.heap.size w4 wr)) (fun _ jv _ => hh - (intOf jv).toNat)
  case atStart => exact ⟨0, 0, 0, none, Nat.zero_le _, Nat.zero_le _, rfl, rfl, rfl, OwnC.nil _ _, Below.refl _ _⟩
  case round =>
    obtain ⟨j, m, cr, r, hj, hmh, HMJ, rfl, rfl, HOB, HB⟩ := hrel
    have hBs : w4.heap.size ≤ wr.heap.size := HB.out.size
    by_cases hlt : j < hh
    · obtain ⟨jm, ejm⟩ : ∃ jm, jm = j % 7 := ⟨_, rfl⟩
      have hjm : (j : Int).tmod 7 = (jm : Int) := by rw [ejm, Int.tmod_eq_emod_of_nonneg (by omega)]; rfl
      have hjm7 : jm < 7 := by omega
      obtain ⟨wt, ewt⟩ : ∃ wt, wt = wr.alloc (.cells #[.int .u8 46] 5 (1, 2)) := ⟨_, rfl⟩
      have hbt : Below wr.heap.size wr wt := by rw [ewt]; exact (Below.refl _ _).alloc (Nat.le_refl _) _
      have hst : wt.heap.size = wr.heap.size + 1 := by rw [ewt]; simp
      have htx := byte_text wr 46
      rw [← ewt] at htx
      obtain ⟨wc, ewc⟩ : ∃ wc, wc = wt.alloc (Obj.cells #[Value.int IntKind.i64 3, Value.int IntKind.i64 2, Value.slice (some ⟨wr.heap.size, 0, none⟩) 1 1, Value.int IntKind.i64 0, Value.int IntKind.i64 (jm : Int), Value.slice none 0 0] 35) := ⟨_, rfl⟩
      have hbc : Below wt.heap.size wt wc := by rw [ewc]; exact (Below.refl _ _).alloc (Nat.le_refl _) _
      have hnew := heap_alloc_new wt (Obj.cells #[Value.int IntKind.i64 3, Value.int IntKind.i64 2, Value.slice (some ⟨wr.heap.size, 0, none⟩) 1 1, Value.int IntKind.i64 0, Value.int IntKind.i64 (jm : Int), Value.slice none 0 0] 35)
      rw [← ewc, hst] at hnew
      have HO2 : Hid (OwnC wc wr.heap.size (some ⟨wr.heap.size + 1, 0, none⟩) 2 2 [dot, (0, (jm : Int), [])]) := own_two hnew (by omega) (htx.below hbc) (fun _ a ea => by cases ea; simp)
      have HBC : Hid (Below wr.heap.size wr wc) := Below.on hbt hbc
      have HSU : Hid (bigL (j + 1) = bigL j ++ [dot, (0, (jm : Int), [])]) := by rw [ejm]; exact bigL_succ j
      rw [ewt] at ewc
      clear hbt hbc hnew htx ewt hst ejm
      have hcs2 := hcs wr 46
      go_wp2_with (at_builtin; rw [← ewc]; refine app_cells wr wc rfl _ _ rfl w4.heap.size r m cr _ rfl HOB.out HBC.out hBs (some ⟨wr.heap.size + 1, 0, none⟩) 2 2 _ rfl HO2.out (by decide) (by omega) ?_; intro g4 n4 cap4 w5 hown4 hb4 hn4)
      have HO5 : Hid (OwnC w5 w4.heap.size (some ⟨g4, 0, none⟩) n4 cap4 (bigL (j + 1))) := by rw [HSU.out]; exact hown4
      have HB5 : Hid (Below w4.heap.size w4 w5) := (Below.on HB.out HBC.out).trans hb4
      have HN4 : Hid (n4 = 2 * (j + 1)) := by show _ = _; have := hn4.out; have := HMJ.out; omega
      have hn4' : n4 ≤ 2 * hh := by have := HN4.out; omega
      clear hown4 hb4 hn4
      go_roundw
      case rel => exact ⟨j + 1, n4, cap4, _, by omega, hn4', HN4, by go_num, rfl, HO5, HB5⟩
      case measure => simp [intOf]; omega
    · obtain rfl : j = hh := by omega
      have hm2 : m ≤ 2000 := by omega
      have LAST : Hid (∀ (W W' : World) (r2 : Option Addr) (m2 c2 : Nat), Below w4.heap.size w4 W → OwnC W' B r2 m2 c2 (bigF N) → Below B W W' → SpoilOut w B R p c xs (bigF N, rdN xs i2) (.returned (.slice r2 m2 c2)) W') := fun W W' r2 m2 c2 h1 h2 h3 => by
        have hbb : Below B w4 W' := (h1.mono hB4).trans h3
        exact ⟨_, _, _, rfl, h2, (Kb.of_keep HK4.out hBw).trans (Kb.of_below hbb), HR4.out.below hbb hRB⟩
      rcases (by omega : z2 = 0 ∨ z2 = 1) with h2 | h2
      · have hb2 : ((z2 : Int) == 0) = true := by rw [h2]; rfl
        have HBG : Hid (bigF N = (bigL j ++ [(3, 1, [102])]) ++ [nilC]) := by show _ = _; rw [HBB.out, if_pos h2]
        clear h2
        obtain ⟨wt, ewt⟩ : ∃ wt, wt = wr.alloc (.cells #[.int .u8 102] 5 (1, 2)) := ⟨_, rfl⟩
        have hbt : Below wr.heap.size wr wt := by rw [ewt]; exact (Below.refl _ _).alloc (Nat.le_refl _) _
        have hst : wt.heap.size = wr.heap.size + 1 := by rw [ewt]; simp
        have htx := byte_text wr 102
        rw [← ewt] at htx
        obtain ⟨wc, ewc⟩ : ∃ wc, wc = wt.alloc (Obj.cells #[Value.int IntKind.i64 3, Value.int IntKind.i64 1, Value.slice (some ⟨wr.heap.size, 0, none⟩) 1 1] 35) := ⟨_, rfl⟩
        have hbc : Below wt.heap.size wt wc := by rw [ewc]; exact (Below.refl _ _).alloc (Nat.le_refl _) _
        have hnew := heap_alloc_new wt (Obj.cells #[Value.int IntKind.i64 3, Value.int IntKind.i64 1, Value.slice (some ⟨wr.heap.size, 0, none⟩) 1 1] 35)
        rw [← ewc, hst] at hnew
        have HO1 : Hid (OwnC wc wr.heap.size (some ⟨wr.heap.size + 1, 0, none⟩) 1 1 [(3, 1, [102])]) := own_oneN hnew (by omega) (htx.below hbc) (fun _ a ea => by cases ea; simp)
        have HBC : Hid (Below wr.heap.size wr wc) := Below.on hbt hbc
        rw [ewt] at ewc
        clear hbt hbc hnew htx ewt hst
        have hcs2 := hcs wr 102
        go_wp2_with (at_builtin; rw [← ewc]; refine app_cells wr wc rfl _ _ rfl w4.heap.size r m cr _ rfl HOB.out HBC.out hBs (some ⟨wr.heap.size + 1, 0, none⟩) 1 1 _ rfl HO1.out (by decide) (by omega) ?_; intro g5 n5 cap5 w5 hown5 hb5 hn5)
        have HO5 : Hid (OwnC w5 w4.heap.size (some ⟨g5, 0, none⟩) n5 cap5 (bigL j ++ [(3, 1, [102])])) := hown5
        have HB5 : Hid (Below w4.heap.size w4 w5) := (Below.on HB.out HBC.out).trans hb5
        have hn5' : n5 ≤ 2001 := by have := hn5.out; omega
        have hB5s : w4.heap.size ≤ w5.heap.size := HB5.out.size
        clear hown5 hb5 hn5 hcs2 ewc
        rw [nilStr]
        refine (l2atomW_any [91, 93] (fun x hx => by simp at hx; omega) w5).mono ?_
        rintro e w6 ⟨p6, rfl, ho6, hb6⟩
        have HO6 : Hid (OwnC w6 w5.heap.size p6 1 1 [nilC]) := ho6
        have HB6 : Hid (Below w5.heap.size w5 w6) := hb6
        clear ho6 hb6
        go_wp2_with (at_builtin; refine app_cells w5 w6 rfl _ _ rfl w4.heap.size (some ⟨g5, 0, none⟩) n5 cap5 _ rfl HO5.out HB6.out hB5s p6 1 1 _ rfl HO6.out (by decide) (by omega) ?_; intro g7 n7 cap7 w7 hown7 hb7 hn7)
        go_ret
        rw [HV.out]
        exact LAST.out w6 w7 _ _ _ (Below.on HB5.out HB6.out) (by rw [HBG.out]; exact hown7.mono hB4) (hb7.mono hB4)
      · have hb2 : ((z2 : Int) == 0) = false := by rw [h2]; rfl
        have HBG : Hid (bigF N = bigL j ++ [nilC]) := by show _ = _; rw [HBB.out, if_neg (by omega), List.append_nil]
        clear h2
        go_wp2_with fail
        rw [nilStr]
        refine (l2atomW_any [91, 93] (fun x hx => by simp at hx; omega) wr).mono ?_
        rintro e w6 ⟨p6, rfl, ho6, hb6⟩
        have HO6 : Hid (OwnC w6 wr.heap.size p6 1 1 [nilC]) := ho6
        have HB6 : Hid (Below wr.heap.size wr w6) := hb6
        clear ho6 hb6
        go_wp2_with (at_builtin; refine app_cells wr w6 rfl _ _ rfl w4.heap.size r m cr _ rfl HOB.out HB6.out hBs p6 1 1 _ rfl HO6.out (by decide) (by omega) ?_; intro g7 n7 cap7 w7 hown7 hb7 hn7)
        go_ret
        rw [HV.out]
        exact LAST.out w6 w7 _ _ _ (Below.on HB.out HB6.out) (by rw [HBG.out]; exact hown7.mono hB4) (hb7.mono hB4)
theorem l4spoil_any (R c i : Nat) (p : Option Addr) (xs : List Int) (B g n cp : Nat) (cs : List Cel) (w : World) (h : RdIn w R p c xs i) (hRB : R < B) (hBw : B ≤ w.heap.size) (ho : OwnC w B (some ⟨g, 0, none⟩) n cp cs) (h0 : 0 < cs.length) (hl : cs.length ≤ 600) (hnum : NumC cs) :
    Calls Tryz.prog 47 #[.slice (some ⟨g, 0, none⟩) n cp, .pointer (some ⟨R, 0, none⟩)] w (SpoilOut w B R p c xs (spoilF xs cs i)) := by
  rcases (by omega : (rdI xs i).toNat % 9 = 0 ∨ (rdI xs i).toNat % 9 = 1 ∨ (rdI xs i).toNat % 9 = 2 ∨ (rdI xs i).toNat % 9 = 3 ∨ (rdI xs i).toNat % 9 = 4 ∨ (rdI xs i).toNat % 9 = 5 ∨ (rdI xs i).toNat % 9 = 6 ∨ (rdI xs i).toNat % 9 = 7 ∨ (rdI xs i).toNat % 9 = 8) with hk | hk | hk | hk | hk | hk | hk | hk | hk
  · exact spoil_0 R c i p xs B g n cp cs w h hRB hBw ho h0 hl hnum hk
  · exact spoil_1 R c i p xs B g n cp cs w h hRB hBw ho h0 hl hnum hk
  · exact spoil_2 R c i p xs B g n cp cs w h hRB hBw ho h0 hl hnum hk
  · exact spoil_3 R c i p xs B g n cp cs w h hRB hBw ho h0 hl hnum hk
  · exact spoil_4 R c i p xs B g n cp cs w h hRB hBw ho h0 hl hnum hk
  · exact spoil_5 R c i p xs B g n cp cs w h hRB hBw ho h0 hl hnum hk
  · exact spoil_6 R c i p xs B g n cp cs w h hRB hBw ho h0 hl hnum hk
  · exact spoil_7 R c i p xs B g n cp cs w h hRB hBw ho h0 hl hnum hk
  · exact spoil_8 R c i p xs B g n cp cs w h hRB hBw ho h0 hl hnum hk
set_option maxRecDepth 100000 in
set_option maxHeartbeats 1000000 in
theorem l4any_any (R c i : Nat) (p : Option Addr) (xs : List Int) (w : World) (h : RdIn w R p c xs i) :
    Calls Tryz.prog 16 #[.pointer (some ⟨R, 0, none⟩)] w (TermOut w R p c xs (anyF xs i)) := by
  have HH : Hid (RdIn w R p c xs i) := h
  have hr := rdI_rng h.bytes i
  have hRw : R < w.heap.size := h.lt
  obtain ⟨res, er⟩ : ∃ res, res = anyF xs i := ⟨_, rfl⟩
  rw [← er]
  obtain ⟨i1, ei⟩ : ∃ i1, i1 = rdN xs i := ⟨_, rfl⟩
  obtain ⟨x, ex⟩ : ∃ x : Nat, rdI xs i = x := ⟨(rdI xs i).toNat, by omega⟩
  have hx : x < 256 := by omega
  obtain ⟨z, ez⟩ : ∃ z, z = x % 16 := ⟨_, rfl⟩
  have hz : z < 16 := by omega
  have hmz : (x : Int).tmod 16 = (z : Int) := by rw [ez, Int.tmod_eq_emod_of_nonneg (by omega)]; rfl
  have HV : Hid (res = if z = 0 then spoilF xs (drawT xs 4 i1).1 (drawT xs 4 i1).2 else drawT xs 4 i1) := by
    show _ = _
    rw [er]
    unfold anyF
    simp only
    rw [← ei, ex, Int.toNat_natCast, ← ez]
  have HN1 : Hid (∀ W, RdIn W R p c xs i → Calls Tryz.prog 15 #[.pointer (some ⟨R, 0, none⟩)] W fun e w' => e = .returned (.int .i64 (x : Int)) ∧ Keep R (R + 1) W w' ∧ w'.heap.size = W.heap.size ∧ RdIn w' R p c xs i1) := fun W hW => by
    have := next_any R c i p xs W hW
    rw [ex, ← ei] at this; exact this
  clear h er ei ex ez hr
  go_enter Tryz.func16, Tryz.ntmps16
  go_wp2_with fail
  refine (HN1.out w HH.out).mono ?_
  rintro e w2 ⟨rfl, hk2, hs2, hR2⟩
  have HR2 : Hid (RdIn w2 R p c xs i1) := hR2
  have HK2 : Hid (Keep R (R + 1) w w2) := hk2
  clear hk2 hs2 hR2
  go_wp2_with fail
  refine (l4term_any R c p xs 4 4 (by decide) rfl (by decide) i1 w2 HR2.out).mono ?_
  rintro e w3 ⟨q3, n3, c3, rfl, ho3, hk3, hR3⟩
  obtain ⟨h1, h2, h3⟩ := drawT_mid xs i1
  obtain ⟨g3, rfl, hg1, hg2⟩ := ho3.at0 h3
  have HR3 : Hid (RdIn w3 R p c xs (drawT xs 4 i1).2) := hR3
  have HK3 : Hid (Keep R (R + 1) w w3) := HK2.out.trans hk3
  have HO3 : Hid (OwnC w3 w.heap.size (some ⟨g3, 0, none⟩) n3 c3 (drawT xs 4 i1).1) := ho3.mono HK2.out.size
  have HSP := l4spoil_any R c (drawT xs 4 i1).2 p xs w.heap.size g3 n3 c3 (drawT xs 4 i1).1 w3 hR3 hRw HK3.out.size HO3.out h3 (by omega) (drawT_num xs 4 i1)
  clear ho3 hk3 hR3 h1 h2 h3 hg1 hg2
  by_cases hz0 : z = 0
  · have hb : ((z : Int) == 0) = true := by rw [hz0]; rfl
    have HW : Hid (res = spoilF xs (drawT xs 4 i1).1 (drawT xs 4 i1).2) := HV.out.trans (if_pos hz0)
    clear hz0
    go_wp2_with fail
    refine HSP.mono ?_
    rintro e w4 ⟨q4, n4, c4, rfl, ho4, hk4, hR4⟩
    have FIN : Hid (TermOut w R p c xs (spoilF xs (drawT xs 4 i1).1 (drawT xs 4 i1).2) (.returned (.slice q4 n4 c4)) w4) := ⟨_, _, _, rfl, ho4, HK3.out.on_kb hk4 (Nat.le_refl _), hR4⟩
    clear ho4 hk4 hR4 HSP
    go_wp2_with fail
    go_ret
    rw [HW.out]
    exact FIN.out
  · have hb : ((z : Int) == 0) = false := by rw [beq_eq_false_iff_ne]; omega
    have HW : Hid (res = drawT xs 4 i1) := HV.out.trans (if_neg hz0)
    clear hz0 HSP
    go_wp2_with fail
    go_ret
    rw [HW.out]
    exact ⟨_, _, _, rfl, HO3.out, HK3.out, HR3.out⟩
end Go.Proofs.YtaakpdakeolgeaaGreat

namespace Go.Proofs.YtaakpdakeolgeaaGreat
open Go Go.RowKit
set_option linter.unusedVariables false
theorem fo_head {cs : List Cel} {j : Nat} {G : Fo} (h : cs.drop j = G.cells) (hj : j < cs.length) : ∃ c k r, G = .node c k r := by
  cases G with
  | nil => have := congrArg List.length h; simp [Fo.cells] at this; omega
  | node c k r => exact ⟨c, k, r, rfl⟩
theorem oneS : (⟨#[120]⟩ : ByteArray) = strOfNums [120] := rfl
set_option maxRecDepth 100000 in
set_option maxHeartbeats 1600000 in
theorem l13alike_any (R c i : Nat) (p : Option Addr) (xs : List Int) (B g n cp : Nat) (cs : List Cel) (F : Fo) (w : World) (h : RdIn w R p c xs i) (hRB : R < B) (ho : OwnC w B (some ⟨g, 0, none⟩) n cp cs) (hF : cs = F.cells) (hok : F.ok) (hl : cs.length ≤ 2000) (htl : tl cs ≤ 12000) :
    Calls Tryz.prog 22 #[.slice (some ⟨g, 0, none⟩) n cp, .pointer (some ⟨R, 0, none⟩)] w (TermOut w R p c xs (alikeF xs F i)) := by
  have HO : Hid (OwnC w B (some ⟨g, 0, none⟩) n cp cs) := ho
  have HH : Hid (RdIn w R p c xs i) := h
  have hRw : R < w.heap.size := h.lt
  have hn : n = cs.length := ho.1
  have hcap := ho.cap
  have hcn : n ≤ cp := by omega
  have hcm : cp ≤ 9223372036854775807 := hcap.2
  have hn2 : n ≤ 2000 := by omega
  have HNE : Hid (n = cs.length) := hn
  have HTL : Hid (tl cs ≤ 12000) := htl
  have HBY : Hid (Bytes xs) := h.bytes
  have HSM : Hid (xs.length ≤ 500) := h.small
  obtain ⟨res, er⟩ : ∃ res, res = alikeF xs F i := ⟨_, rfl⟩
  rw [← er]
  have H0 : Hid (cs.drop 0 = F.cells ∧ F.ok ∧ res = ([] ++ (alikeF xs F i).1, (alikeF xs F i).2)) := ⟨by simp [hF], hok, by rw [er]; simp⟩
  clear h ho hn hcap hF hok hl htl er
  go_enter Tryz.func22, Tryz.ntmps22
  go_wp2_with fail
  go_loopw [5, 6] (fun s iv wr => ∃ (j m cr ii : Nat) (r : Option Addr) (oc : List Cel) (G : Fo), j ≤ n ∧ m ≤ 2000 ∧ iv = .int .i64 j ∧ s = .slice r m cr ∧ Hid (m ≤ j) ∧ Hid (OwnC wr w.heap.size r m cr oc) ∧ Hid (cs.drop j = G.cells ∧ G.ok ∧ res = (oc ++ (alikeF xs G ii).1, (alikeF xs G ii).2)) ∧ Hid (Keep R (R + 1) w wr) ∧ Hid (RdIn wr R p c xs ii)) (fun _ iv _ => n - (intOf iv).toNat)
  case atStart => exact ⟨0, 0, 0, i, none, [], F, Nat.zero_le _, Nat.zero_le _, rfl, rfl, Nat.zero_le _, OwnC.nil _ _, H0, Keep.refl _ _ _, HH⟩
  case round =>
    obtain ⟨j, m, cr, ii, r, oc, G, hj, hm2, rfl, rfl, HMJ, HOC, HG, HK, HR⟩ := hrel
    have hBs : w.heap.size ≤ wr.heap.size := HK.out.size
    by_cases hlt : j < n
    · have hjl : j < cs.length := by rw [← HNE.out]; exact hlt
      obtain ⟨c1, k1, r1, rfl⟩ := fo_head HG.out.1 hjl
      have hr := rdI_rng HBY.out ii
      obtain ⟨x, ex⟩ : ∃ x : Nat, rdI xs ii = x := ⟨(rdI xs ii).toNat, by omega⟩
      have hx : x < 256 := by omega
      obtain ⟨z, ez⟩ : ∃ z, z = x % 5 := ⟨_, rfl⟩
      have hz : z < 5 := by omega
      have hmz : (x : Int).tmod 5 = (z : Int) := by rw [ez, Int.tmod_eq_emod_of_nonneg (by omega)]; rfl
      obtain ⟨q5, eq5⟩ : ∃ q, q = x / 5 := ⟨_, rfl⟩
      have hq5 : q5 ≤ 51 := by omega
      have hdv : (x : Int).tdiv 5 = (q5 : Int) := by rw [eq5]; rfl
      obtain ⟨v5, ev5⟩ : ∃ v, v = q5 % 5 := ⟨_, rfl⟩
      have hv5 : v5 < 5 := by omega
      have hmv : (q5 : Int).tmod 5 = (v5 : Int) := by rw [ev5, Int.tmod_eq_emod_of_nonneg (by omega)]; rfl
      obtain ⟨i1, ei1⟩ : ∃ i1, i1 = rdN xs ii := ⟨_, rfl⟩
      have hi1 : i1 ≤ xs.length := by rw [ei1]; exact rdN_le HR.out.le
      obtain ⟨nx, enx⟩ : ∃ nx, nx = xs.length := ⟨_, rfl⟩
      have HNX0 : Hid (nx = xs.length) := enx
      have hnx : nx ≤ 500 := by rw [enx]; exact HSM.out
      rw [← enx] at hi1
      have HSTEP : Hid (alikeF xs (.node c1 k1 r1) ii = if z = 0 ∧ i1 < nx then ((0, 3 + (v5 : Int), []) :: (alikeF xs r1 i1).1, (alikeF xs r1 i1).2) else if x = 9 then ((2, 0, [120]) :: (alikeF xs r1 i1).1, (alikeF xs r1 i1).2) else (c1 :: ((alikeF xs k1 i1).1 ++ (alikeF xs r1 (alikeF xs k1 i1).2).1), (alikeF xs r1 (alikeF xs k1 i1).2).2)) := by
        show _ = _
        simp only [alikeF]
        rw [← ei1, ex, Int.toNat_natCast, ← ez, ← enx, ev5, eq5]
      have HN1 : Hid (∀ W, RdIn W R p c xs ii → Calls Tryz.prog 15 #[.pointer (some ⟨R, 0, none⟩)] W fun e w' => e = .returned (.int .i64 (x : Int)) ∧ Keep R (R + 1) W w' ∧ w'.heap.size = W.heap.size ∧ RdIn w' R p c xs i1) := fun W hW => by
        have := next_any R c ii p xs W hW
        rw [ex, ← ei1] at this; exact this
      have hdr : cs.drop j = c1 :: (k1.cells ++ r1.cells) := HG.out.1
      have HOK : Hid (Fo.node c1 k1 r1).ok := HG.out.2.1
      have hfit : j + 1 + k1.cells.length ≤ n := by have h1 := congrArg List.length hdr; have := HNE.out; simp only [List.length_drop, List.length_cons, List.length_append] at h1; omega
      obtain ⟨jn, ejn⟩ : ∃ jn, jn = j + 1 + k1.cells.length := ⟨_, rfl⟩
      rw [← ejn] at hfit
      have hjn : j + 1 ≤ jn := by omega
      have HNXT : Hid (∀ W, OwnC W B (some ⟨g, 0, none⟩) n cp cs → Calls Tryz.prog 41 #[.slice (some ⟨g, 0, none⟩) n cp, .int .i64 j] W fun e w' => e = .returned (.int .i64 (jn : Int)) ∧ w' = W) := fun W hW => by
        have := l2next_any (some ⟨g, 0, none⟩) n cp cs j c1 k1 r1.cells W HNE.out (by omega) hdr ⟨HOK.out.1, HOK.out.2.1, HOK.out.2.2.1, HOK.out.2.2.2.1, HOK.out.2.2.2.2.1, trivial⟩ hW.cin
        rw [← ejn] at this; exact this
      have HDN : Hid (cs.drop jn = r1.cells) := by
        show _ = _
        rw [ejn, show j + 1 + k1.cells.length = (j + 1) + k1.cells.length from rfl, ← List.drop_drop, (drop_cell hdr).2.2]; simp
      have HD1 : Hid (cs.drop (j + 1) = (k1.cat r1).cells) := by rw [Fo.cells_cat]; exact (drop_cell hdr).2.2
      have HPT : Hid (∀ W, OwnC W B (some ⟨g, 0, none⟩) n cp cs → CIn W (some ⟨g, j * 3, none⟩) [c1]) := fun W hW => by
        obtain ⟨b, o, e, hc⟩ := hW.cin (by omega)
        cases e
        have hp := CIn.part hc j (ds := [c1]) (by rw [hdr]; exact ⟨_, rfl⟩)
        rwa [Nat.zero_add] at hp
      have HC1T : Hid ([c1].length + tl [c1] ≤ 10000000) := by
        have h1 := tl_at cs j hjl
        rw [(drop_cell hdr).2.1] at h1
        have h2 := HTL.out
        show [c1].length + tl [c1] ≤ 10000000
        simp only [tl, List.length_cons, List.length_nil]
        omega
      clear hr ex ez eq5 ev5 ei1 enx hdr ejn hjl
      go_wp2_with fail
      refine (HN1.out wr HR.out).mono ?_
      rintro e w2 ⟨rfl, hk2, hs2, hR2⟩
      have HR2 : Hid (RdIn w2 R p c xs i1) := hR2
      have HK2 : Hid (Keep R (R + 1) w w2) := HK.out.trans hk2
      have HT2 : Hid (OwnC w2 B (some ⟨g, 0, none⟩) n cp cs) := HO.out.keepR HK2.out hRB
      have HOC2 : Hid (OwnC w2 w.heap.size r m cr oc) := HOC.out.keepR hk2 hRw
      have hB2 : w.heap.size ≤ w2.heap.size := HK2.out.size
      clear hk2 hs2 hR2
      have VAR : Hid (∀ W, Below w2.heap.size w2 W → OwnC W B (some ⟨g, 0, none⟩) n cp cs ∧ OwnC W w.heap.size r m cr oc ∧ Keep R (R + 1) w W ∧ RdIn W R p c xs i1 ∧ w.heap.size ≤ W.heap.size) := fun W hW => ⟨HT2.out.below hW, HOC2.out.below hW, HK2.out.trans (Keep.of_below hW), HR2.out.grow hW, Nat.le_trans hB2 hW.size⟩
      by_cases hz0 : z = 0
      · have hbz : ((z : Int) == 0) = true := by rw [hz0]; rfl
        have HZ0 : Hid (z = 0) := hz0
        clear hz0
        go_wp2_with fail
        refine (left_any R c i1 p xs w2 HR2.out).mono ?_
        rintro e wL ⟨rfl, hbL⟩
        obtain ⟨t1, t2, t3, t4, t5⟩ := VAR.out wL hbL
        have HTL2 : Hid (OwnC wL B (some ⟨g, 0, none⟩) n cp cs) := t1
        have HOCL : Hid (OwnC wL w.heap.size r m cr oc) := t2
        have HKL : Hid (Keep R (R + 1) w wL) := t3
        have HRL : Hid (RdIn wL R p c xs i1) := t4
        rw [← HNX0.out]
        obtain ⟨lf, el⟩ : ∃ lf, lf = nx - i1 := ⟨_, rfl⟩
        rw [← el]
        have hlf : lf ≤ 500 := by omega
        clear hbL t1 t2 t3 t4
        by_cases hlt1 : i1 < nx
        · have hl0 : decide ((0 : Int) < (lf : Int)) = true := decide_eq_true (by omega)
          have hl0' : (0 : Int) < (lf : Int) := by omega
          have HS : Hid (alikeF xs (.node c1 k1 r1) ii = ((0, 3 + (v5 : Int), []) :: (alikeF xs r1 i1).1, (alikeF xs r1 i1).2)) := HSTEP.out.trans (if_pos ⟨HZ0.out, hlt1⟩)
          have HBX : Hid (Box3 (wL.alloc (Obj.cells #[Value.int IntKind.i64 0, Value.int IntKind.i64 (3 + (v5 : Int)), Value.slice none 0 0] 35)) wL.heap.size (.int .i64 0) (.int .i64 (3 + (v5 : Int))) (.slice none 0 0)) := Box3.of_block (t := 35) (heap_alloc_new wL _)
          have HBA : Hid (Below wL.heap.size wL (wL.alloc (Obj.cells #[Value.int IntKind.i64 0, Value.int IntKind.i64 (3 + (v5 : Int)), Value.slice none 0 0] 35))) := (Below.refl _ _).alloc (Nat.le_refl _) _
          have HOT : Hid (OwnT (wL.alloc (Obj.cells #[Value.int IntKind.i64 0, Value.int IntKind.i64 (3 + (v5 : Int)), Value.slice none 0 0] 35)) wL.heap.size none 0 0 []) := ⟨rfl, fun h => absurd h (by decide)⟩
          clear el hlt1
          go_wp2_with (at_builtin; refine app_cell wL _ rfl _ _ rfl w.heap.size r m cr _ rfl HOCL.out HBA.out t5 ⟨wL.heap.size, 0, none⟩ 1 rfl 0 (3 + (v5 : Int)) none 0 0 [] HOT.out (news_rc HBX.out) (by omega) ?_; intro g4 n4 cap4 w4 hown4 hb4 hn4)
          have hbb : Below w.heap.size wL w4 := (HBA.out.mono t5).trans hb4
          have HT4 : Hid (OwnC w4 B (some ⟨g, 0, none⟩) n cp cs) := HO.out.keepR (HKL.out.on_below hbb) hRB
          have HK4 : Hid (Keep R (R + 1) w w4) := HKL.out.on_below hbb
          have HR4 : Hid (RdIn w4 R p c xs i1) := HRL.out.below hbb hRw
          have HO4 : Hid (OwnC w4 w.heap.size (some ⟨g4, 0, none⟩) n4 cap4 (oc ++ [(0, 3 + (v5 : Int), [])])) := hown4
          have HN4 : Hid (n4 = m + 1) := hn4
          have hn4' : n4 ≤ 2000 := by have := HN4.out; have := HMJ.out; omega
          clear hown4 hb4 hn4 hbb
          refine (HNXT.out w4 HT4.out).mono ?_
          rintro e w5 ⟨rfl, rfl⟩
          go_wp2_with fail
          go_roundw
          case rel => exact ⟨jn, n4, cap4, i1, _, _, r1, hfit, hn4', rfl, rfl, by show _ ≤ _; have := HN4.out; have := HMJ.out; omega, HO4, ⟨HDN.out, HOK.out.2.2.2.2.2, by rw [HG.out.2.2, HS.out]; simp⟩, HK4, HR4⟩
          case measure => simp [intOf]; omega
        · have hl0 : decide ((0 : Int) < (lf : Int)) = false := decide_eq_false (by omega)
          have hl0' : ¬ (0 : Int) < (lf : Int) := by omega
          have HX9 : Hid (¬ x = 9) := by show ¬ _; intro e; have := HZ0.out; have hh : (x : Int).tmod 5 = (z : Int) := hmz; rw [e, this] at hh; exact absurd hh (by decide)
          have hx9 : ((x : Int) == 9) = false := by rw [beq_eq_false_iff_ne]; intro e; exact HX9.out (by omega)
          have HS : Hid (alikeF xs (.node c1 k1 r1) ii = (c1 :: ((alikeF xs k1 i1).1 ++ (alikeF xs r1 (alikeF xs k1 i1).2).1), (alikeF xs r1 (alikeF xs k1 i1).2).2)) := HSTEP.out.trans ((if_neg (fun h => hlt1 h.2)).trans (if_neg HX9.out))
          have HCP := l2copy_any (some ⟨g, j * 3, none⟩) 1 (cp - j) [c1] wL rfl HC1T.out (HPT.out wL HTL2.out)
          have hi1' : (j : Int) + 1 ≤ (cp : Int) := by omega
          have hcpA : ¬ cp = j := by omega
          have hcpB : ¬ cp - j = 0 := by omega
          clear el hlt1
          go_wp2_with fail
          refine HCP.mono ?_
          rintro e w3 ⟨q3, m3, c3, rfl, ho3, hb3⟩
          have HO3 : Hid (OwnC w3 wL.heap.size q3 m3 c3 [c1]) := ho3
          have HB3 : Hid (Below wL.heap.size wL w3) := hb3
          have hm3 : m3 = 1 := ho3.1
          subst hm3
          clear ho3 hb3 HCP
          go_wp2_with (at_builtin; refine app_cells wL w3 rfl _ _ rfl w.heap.size r m cr _ rfl HOCL.out HB3.out t5 q3 1 c3 _ rfl HO3.out (by decide) (by omega) ?_; intro g4 n4 cap4 w4 hown4 hb4 hn4)
          have hbb : Below w.heap.size wL w4 := (HB3.out.mono t5).trans hb4
          have HK4 : Hid (Keep R (R + 1) w w4) := HKL.out.on_below hbb
          have HR4 : Hid (RdIn w4 R p c xs i1) := HRL.out.below hbb hRw
          have HO4 : Hid (OwnC w4 w.heap.size (some ⟨g4, 0, none⟩) n4 cap4 (oc ++ [c1])) := hown4
          have HN4 : Hid (n4 = m + 1) := hn4
          have hn4' : n4 ≤ 2000 := by have := HN4.out; have := HMJ.out; omega
          clear hown4 hb4 hn4 hbb
          go_roundw
          case rel => exact ⟨j + 1, n4, cap4, i1, _, _, k1.cat r1, by omega, hn4', by go_num, rfl, by show _ ≤ _; have := HN4.out; have := HMJ.out; omega, HO4, ⟨HD1.out, (Fo.ok_cat _ _).2 ⟨HOK.out.2.2.2.2.1, HOK.out.2.2.2.2.2⟩, by rw [HG.out.2.2, HS.out, alikeF_cat]; simp⟩, HK4, HR4⟩
          case measure => simp [intOf]; omega
      · have hbz : ((z : Int) == 0) = false := by rw [beq_eq_false_iff_ne]; omega
        have HZ0 : Hid (¬ z = 0) := hz0
        clear hz0
        by_cases h9 : x = 9
        · have hx9 : ((x : Int) == 9) = true := by rw [h9]; rfl
          have HS : Hid (alikeF xs (.node c1 k1 r1) ii = ((2, 0, [120]) :: (alikeF xs r1 i1).1, (alikeF xs r1 i1).2)) := HSTEP.out.trans ((if_neg (fun h => HZ0.out h.1)).trans (if_pos h9))
          clear h9
          go_wp2_with fail
          rw [oneS]
          refine (l2atomW_any [120] (fun x hx => by simp at hx; omega) w2).mono ?_
          rintro e w3 ⟨p3, rfl, ho3, hb3⟩
          have HO3 : Hid (OwnC w3 w2.heap.size p3 1 1 [(2, 0, [120])]) := ho3
          have HB3 : Hid (Below w2.heap.size w2 w3) := hb3
          clear ho3 hb3
          go_wp2_with (at_builtin; refine app_cells w2 w3 rfl _ _ rfl w.heap.size r m cr _ rfl HOC2.out HB3.out hB2 p3 1 1 _ rfl HO3.out (by decide) (by omega) ?_; intro g4 n4 cap4 w4 hown4 hb4 hn4)
          have hbb : Below w.heap.size w2 w4 := (HB3.out.mono hB2).trans hb4
          have HT4 : Hid (OwnC w4 B (some ⟨g, 0, none⟩) n cp cs) := HO.out.keepR (HK2.out.on_below hbb) hRB
          have HK4 : Hid (Keep R (R + 1) w w4) := HK2.out.on_below hbb
          have HR4 : Hid (RdIn w4 R p c xs i1) := HR2.out.below hbb hRw
          have HO4 : Hid (OwnC w4 w.heap.size (some ⟨g4, 0, none⟩) n4 cap4 (oc ++ [(2, 0, [120])])) := hown4
          have HN4 : Hid (n4 = m + 1) := hn4
          have hn4' : n4 ≤ 2000 := by have := HN4.out; have := HMJ.out; omega
          clear hown4 hb4 hn4 hbb
          refine (HNXT.out w4 HT4.out).mono ?_
          rintro e w5 ⟨rfl, rfl⟩
          go_wp2_with fail
          go_roundw
          case rel => exact ⟨jn, n4, cap4, i1, _, _, r1, hfit, hn4', rfl, rfl, by show _ ≤ _; have := HN4.out; have := HMJ.out; omega, HO4, ⟨HDN.out, HOK.out.2.2.2.2.2, by rw [HG.out.2.2, HS.out]; simp⟩, HK4, HR4⟩
          case measure => simp [intOf]; omega
        · have hx9 : ((x : Int) == 9) = false := by rw [beq_eq_false_iff_ne]; omega
          have HX9 : Hid (¬ x = 9) := h9
          have HS : Hid (alikeF xs (.node c1 k1 r1) ii = (c1 :: ((alikeF xs k1 i1).1 ++ (alikeF xs r1 (alikeF xs k1 i1).2).1), (alikeF xs r1 (alikeF xs k1 i1).2).2)) := HSTEP.out.trans ((if_neg (fun h => HZ0.out h.1)).trans (if_neg h9))
          clear h9
          have HTL2 : Hid (OwnC w2 B (some ⟨g, 0, none⟩) n cp cs) := HT2.out
          have HOCL : Hid (OwnC w2 w.heap.size r m cr oc) := HOC2.out
          have HKL : Hid (Keep R (R + 1) w w2) := HK2.out
          have HRL : Hid (RdIn w2 R p c xs i1) := HR2.out
          have t5 := hB2
          have HCP := l2copy_any (some ⟨g, j * 3, none⟩) 1 (cp - j) [c1] w2 rfl HC1T.out (HPT.out w2 HTL2.out)
          have hi1' : (j : Int) + 1 ≤ (cp : Int) := by omega
          have hcpA : ¬ cp = j := by omega
          have hcpB : ¬ cp - j = 0 := by omega
          go_wp2_with fail
          refine HCP.mono ?_
          rintro e w3 ⟨q3, m3, c3, rfl, ho3, hb3⟩
          have HO3 : Hid (OwnC w3 w2.heap.size q3 m3 c3 [c1]) := ho3
          have HB3 : Hid (Below w2.heap.size w2 w3) := hb3
          have hm3 : m3 = 1 := ho3.1
          subst hm3
          clear ho3 hb3 HCP
          go_wp2_with (at_builtin; refine app_cells w2 w3 rfl _ _ rfl w.heap.size r m cr _ rfl HOCL.out HB3.out t5 q3 1 c3 _ rfl HO3.out (by decide) (by omega) ?_; intro g4 n4 cap4 w4 hown4 hb4 hn4)
          have hbb : Below w.heap.size w2 w4 := (HB3.out.mono t5).trans hb4
          have HK4 : Hid (Keep R (R + 1) w w4) := HKL.out.on_below hbb
          have HR4 : Hid (RdIn w4 R p c xs i1) := HRL.out.below hbb hRw
          have HO4 : Hid (OwnC w4 w.heap.size (some ⟨g4, 0, none⟩) n4 cap4 (oc ++ [c1])) := hown4
          have HN4 : Hid (n4 = m + 1) := hn4
          have hn4' : n4 ≤ 2000 := by have := HN4.out; have := HMJ.out; omega
          clear hown4 hb4 hn4 hbb
          go_roundw
          case rel => exact ⟨j + 1, n4, cap4, i1, _, _, k1.cat r1, by omega, hn4', by go_num, rfl, by show _ ≤ _; have := HN4.out; have := HMJ.out; omega, HO4, ⟨HD1.out, (Fo.ok_cat _ _).2 ⟨HOK.out.2.2.2.2.1, HOK.out.2.2.2.2.2⟩, by rw [HG.out.2.2, HS.out, alikeF_cat]; simp⟩, HK4, HR4⟩
          case measure => simp [intOf]; omega
    · obtain rfl : j = n := by omega
      have HE : Hid (G = .nil) := by
        have h1 := HG.out.1
        have h2 : cs.drop j = [] := by rw [HNE.out, List.drop_length]
        rw [h2] at h1
        show _ = _
        cases G with
        | nil => rfl
        | node c k r => simp [Fo.cells] at h1
      go_wp2_with fail
      go_ret
      have e1 := HG.out.2.2
      rw [HE.out] at e1
      simp only [alikeF, List.append_nil] at e1
      rw [e1]
      exact ⟨_, _, _, rfl, HOC.out, HK.out, HR.out⟩
end Go.Proofs.YtaakpdakeolgeaaGreat

namespace Go.Proofs.YtaakpdakeolgeaaGreat
open Go Go.RowKit
set_option linter.unusedVariables false
def RowG (w : World) (g : Nat) : Prop := ∃ cur, w.heap[g]? = some (.cells cur 23 (0, 0)) ∧ ∃ q n c, cur[0]? = some (.slice q n c)
theorem OwnC.grown {w w' : World} {B n c : Nat} {p : Option Addr} {cs : List Cel} {row : Option Nat} (h : OwnC w B p n c cs) (hg : w.grownBy w' row) (hr : ∀ g, row = some g → RowG w g) : OwnC w' B p n c cs := by
  obtain ⟨hn, rs, hl, ho, hf, ha⟩ := h
  refine ⟨hn, rs, hl, ho.kept hg ?_, fun i hi => ⟨(hf i hi).1, (hf i hi).2.1, (hf i hi).2.2.other hg.size (fun k h0 ek => ?_)⟩, ha⟩
  · rcases ho.2 with ⟨hv, _⟩ | ⟨g, cap, cur, hv, _, hgg, _⟩
    · rw [hv]; exact .inl rfl
    · refine .inr (fun e => ?_)
      rw [hv] at e
      obtain ⟨cur', h1, _⟩ := hr g e.symm
      rw [h1] at hgg
      simp at hgg
  · obtain ⟨k', e', _, hk, hc⟩ := (hf i hi).2.2.2 h0
    rw [ek] at e'
    cases e'
    refine hg.block k hk (fun e => ?_)
    obtain ⟨cur', h1, q, m, d, h2⟩ := hr k e.symm
    have h3 := (hc 0 h0).1
    unfold World.cell? at h3
    simp only [h1] at h3
    have h4 : cur'[0]? = some (.int .u8 (((cs.getD i Cel.none).2.2).getD 0 0)) := by simpa using h3
    rw [h2] at h4
    cases h4
abbrev Sl3 := Option Addr × Nat × Nat
def Sl3.zero : Sl3 := (none, 0, 0)
def LS (w : World) (B : Nat) (q : Option Addr) (m c : Nat) (css : List (List Cel)) : Prop :=
  (css.length = 0 → q = none) ∧ ∃ rs : List Sl3, rs.length = css.length ∧ m = css.length ∧ w.ownsRow B 23 1 (.slice q m c) m (rs.map slV) ∧ ∀ j, j < css.length → OwnC w B (rs.getD j Sl3.zero).1 (rs.getD j Sl3.zero).2.1 (rs.getD j Sl3.zero).2.2 (css.getD j [])
theorem LS.nil (w : World) (B : Nat) : LS w B none 0 0 [] := ⟨fun _ => rfl, [], rfl, rfl, World.ownsRow_nil _ _ _ _, fun j h => by simp at h⟩
theorem LS.kept {w w' : World} {B m c : Nat} {q : Option Addr} {css : List (List Cel)} {row : Option Nat} (h : LS w B q m c css) (hg : w.grownBy w' row) (hr : ∀ g, row = some g → RowG w g) (hne : Value.ownBlock (.slice q m c) = none ∨ Value.ownBlock (.slice q m c) ≠ row) : LS w' B q m c css := by
  obtain ⟨hz, rs, h1, h2, h3, h4⟩ := h
  exact ⟨hz, rs, h1, h2, h3.kept hg hne, fun j hj => (h4 j hj).grown hg hr⟩
theorem LS.below {w w' : World} {B m c : Nat} {q : Option Addr} {css : List (List Cel)} (h : LS w B q m c css) (hb : Below w.heap.size w w') : LS w' B q m c css :=
  h.kept (row := none) ⟨hb.os, hb.tape, hb.output, hb.size, fun k hk _ => hb.block k hk⟩ (fun g e => by cases e) (by cases hv : Value.ownBlock (.slice q m c) <;> simp)
theorem LS.row {w : World} {B m c : Nat} {q : Option Addr} {css : List (List Cel)} (h : LS w B q m c css) : ∀ g, Value.ownBlock (.slice q m c) = some g → 0 < css.length → RowG w g ∧ B ≤ g ∧ g < w.heap.size := by
  intro g hg h0
  obtain ⟨hz, rs, h1, h2, h3, h4⟩ := h
  have hlt := h3.lt g hg
  rcases h3.2 with ⟨hv, _⟩ | ⟨g', cap, cur, hv, hB, hgg, hnc, _, hcs, htk⟩
  · rw [hv] at hg; cases hg
  · rw [hv] at hg
    cases hg
    refine ⟨⟨cur, hgg, ?_⟩, hlt⟩
    have e : cur.toList[0]? = (rs.map slV)[0]? := by
      rw [← htk, List.getElem?_take_of_lt (by omega)]
    rw [List.getElem?_map, List.getElem?_eq_getElem (show 0 < rs.length by omega)] at e
    exact ⟨_, _, _, by rw [← Array.getElem?_toList]; exact e⟩
theorem LS.ccin {w : World} {B m c : Nat} {q : Option Addr} {css : List (List Cel)} (h : LS w B q m c css) : CCIn w q css := fun hn => by
  obtain ⟨hz, rs, h1, h2, h3, h4⟩ := h
  obtain ⟨g, cap, hv, hb, hg⟩ := h3.form (by omega)
  simp only [Value.slice.injEq, true_and] at hv
  obtain ⟨rfl, rfl⟩ := hv
  refine ⟨g, 0, rfl, fun i hi => ⟨(rs.getD i Sl3.zero).1, (rs.getD i Sl3.zero).2.2, ?_, (h4 i hi).cin⟩⟩
  rw [Nat.zero_add, h3.cellAt i (by omega), List.getElem?_map, List.getElem?_eq_getElem (show i < rs.length by omega)]
  have e : rs.getD i Sl3.zero = rs[i]'(by omega) := by rw [List.getD, List.getElem?_eq_getElem (show i < rs.length by omega)]; rfl
  have := (h4 i hi).1
  rw [← this, e]
  rfl
theorem css_cat_at (a b : List (List Cel)) (i : Nat) : (a ++ b).getD i [] = if i < a.length then a.getD i [] else b.getD (i - a.length) [] := by
  simp only [List.getD, List.getElem?_append]
  split <;> rfl
theorem sl_cat_at (a b : List Sl3) (i : Nat) : (a ++ b).getD i Sl3.zero = if i < a.length then a.getD i Sl3.zero else b.getD (i - a.length) Sl3.zero := by
  simp only [List.getD, List.getElem?_append]
  split <;> rfl
theorem app_ls (w : World) {ops : Array Oper} {rest : List Oper} {o : Oper} {a : Act} {Q : Exit → Act → World → Prop} (hgd : o.guard = none) (s x : Operand)
    (ho : o.op = .call { callee := .builtin .append, args := #[s, x], argTypes := #[42, 42] }) (B : Nat) (q : Option Addr) (m c : Nat) (css : List (List Cel)) (its : List Sl3) (dss : List (List Cel)) (k : Nat) (hk : k = its.length) (hdl : dss.length = its.length)
    (hs : a.eval s = .slice q m c) (hown : LS w B q m c css) (hit : ∀ j, j < dss.length → OwnC w B (its.getD j Sl3.zero).1 (its.getD j Sl3.zero).2.1 (its.getD j Sl3.zero).2.2 (dss.getD j [])) (h0 : 0 < k) (hk2 : k ≤ 10)
    (hx : a.eval x = .slice (some ⟨w.heap.size, 0, none⟩) k k) (hB : B ≤ w.heap.size) (hm : m ≤ 1000)
    (h : ∀ g cap w', LS w' B (some ⟨g, 0, none⟩) (m + k) cap (css ++ dss) → w.grownBy w' (Value.ownBlock (.slice q m c)) → (Value.ownBlock (.slice q m c) = some g ∨ g = w.heap.size + 1) → wpList Tryz.prog ops Q rest (a.put o.dst (.slice (some ⟨g, 0, none⟩) (m + k) cap)) w') : wpList Tryz.prog ops Q (o :: rest) a (w.alloc (.cells (its.map slV).toArray 23)) := by
  obtain ⟨i0, hi, hz0, hz1, hz2⟩ := info_parts infoCells
  subst hk
  obtain ⟨hz, rs, h1, h2, h3, h4⟩ := hown
  have hnews : ∀ j u, (its.map slV)[j]? = some u → (w.alloc (.cells (its.map slV).toArray 23)).cell? ((⟨w.heap.size, 0, none⟩ : Addr).add j) = some u := fun j u hu => by
    have hj : j < (its.map slV).length := by
      rcases Nat.lt_or_ge j (its.map slV).length with h | h
      · exact h
      · rw [List.getElem?_eq_none h] at hu; cases hu
    have := cell_lit w (its.map slV) 23 j hj
    rw [List.getElem?_eq_getElem hj] at hu
    simp only [Option.some.injEq] at hu
    rw [← hu]
    have e : (⟨w.heap.size, 0, none⟩ : Addr).add j = ⟨w.heap.size, j, none⟩ := by
      cases j with
      | zero => rfl
      | succ j => simp [Addr.add]
    rw [e]; exact this
  have hone : ∀ u ∈ its.map slV, u.oneCell' = true := fun u hu => by
    obtain ⟨r, _, rfl⟩ := List.mem_map.1 hu
    rfl
  refine wpList_append_lies _ hgd s x 42 ho B 23 i0 (.slice none 0 0) 1 24 Tryz.underlying42 hi hz0 hz1 hz2 rfl (by decide) (.slice q m c) m (rs.map slV) hs (h3.alloc _) ⟨w.heap.size, 0, none⟩ its.length its.length (its.map slV) hx (by simp) hnews hone h0 (by unfold maxLen; omega) (by omega) (by simp; omega) _ rfl ?_
  intro g cap w' hown' hgrow hat hlt
  have hgr : w.grownBy w' (Value.ownBlock (.slice q m c)) := (World.grownBy_alloc w _ _).andThen hgrow (fun j hj => .inr hj)
  have hrow : ∀ g, Value.ownBlock (.slice q m c) = some g → RowG w g := fun g hg => by
    rcases Nat.eq_zero_or_pos m with h00 | h00
    · rw [hz (by omega)] at hg; cases hg
    · exact (LS.row ⟨hz, rs, h1, h2, h3, h4⟩ g hg (by omega)).1
  refine h g cap w' ⟨fun e => by rw [List.length_append] at e; omega, rs ++ its, by simp [h1, hdl], by simp [h2, hdl], by rw [List.map_append]; exact hown', fun j hj => ?_⟩ hgr (by simpa using hat)
  rw [sl_cat_at, css_cat_at, h1]
  split
  · rename_i hlt
    exact (h4 j hlt).grown hgr hrow
  · exact (hit (j - css.length) (by simp at hj; omega)).grown hgr hrow
end Go.Proofs.YtaakpdakeolgeaaGreat

namespace Go.Proofs.YtaakpdakeolgeaaGreat
open Go Go.RowKit
set_option linter.unusedVariables false
open Classical in
noncomputable def treeC (cs : List Cel) : Fo := if h : ∃ F : Fo, F.cells = cs ∧ F.ok then Classical.choose h else .nil
theorem treeC_of {cs : List Cel} (h : ∃ F : Fo, F.cells = cs ∧ F.ok) : (treeC cs).cells = cs ∧ (treeC cs).ok := by
  unfold treeC
  rw [dif_pos h]
  exact Classical.choose_spec h
def leftA (n : Nat) : List (List Cel) := (List.range n).map (fun i : Nat => [(0, (i : Int), [])])
def rightA (n : Nat) : List (List Cel) := (List.range n).map (fun i : Nat => [(3, 2, [102]), (0, (i : Int) + 1, []), (0, (i : Int) + 1, [])])
def leftB (n : Nat) : List (List Cel) := (List.range n).flatMap (fun i : Nat => [[(0, 2 * (i : Int), [])], [(0, 2 * (i : Int) + 1, [])]])
def rightB (n : Nat) : List (List Cel) := (List.range n).flatMap (fun i : Nat => [[(3, 2, [102]), (0, 2 * (i : Int) + 2, []), (0, 2 * (i : Int) + 2, [])], [(3, 2, [102]), (0, 2 * (i : Int) + 3, []), (0, 2 * (i : Int) + 3, [])]])
theorem leftA_succ (n : Nat) : leftA (n + 1) = leftA n ++ [[(0, (n : Int), [])]] := by simp [leftA, List.range_succ]
theorem rightA_succ (n : Nat) : rightA (n + 1) = rightA n ++ [[(3, 2, [102]), (0, (n : Int) + 1, []), (0, (n : Int) + 1, [])]] := by simp [rightA, List.range_succ]
theorem leftB_succ (n : Nat) : leftB (n + 1) = leftB n ++ [[(0, 2 * (n : Int), [])], [(0, 2 * (n : Int) + 1, [])]] := by simp [leftB, List.range_succ, List.flatMap_append]
theorem rightB_succ (n : Nat) : rightB (n + 1) = rightB n ++ [[(3, 2, [102]), (0, 2 * (n : Int) + 2, []), (0, 2 * (n : Int) + 2, [])], [(3, 2, [102]), (0, 2 * (n : Int) + 3, []), (0, 2 * (n : Int) + 3, [])]] := by simp [rightB, List.range_succ, List.flatMap_append]
structure Few (css : List (List Cel)) (k : Nat) : Prop where
  len : css.length ≤ 2 * k
  flat : css.flatten.length ≤ 6 * k
  txt : tl css.flatten ≤ 2 * k
  pos : ∀ j, j < css.length → 0 < (css.getD j []).length
  byte : ∀ j, j < css.length → ByteC (css.getD j [])
theorem Few.nil : Few [] 0 := ⟨by simp, by simp, by simp [tl], fun j h => by simp at h, fun j h => by simp at h⟩
theorem Few.app {css dss : List (List Cel)} {k : Nat} (h : Few css k) (h1 : dss.length ≤ 2) (h2 : dss.flatten.length ≤ 6) (h3 : tl dss.flatten ≤ 2) (h4 : ∀ ds ∈ dss, 0 < ds.length ∧ ByteC ds) : Few (css ++ dss) (k + 1) := by
  have at2 : ∀ (P : List Cel → Prop), (∀ j, j < css.length → P (css.getD j [])) → (∀ ds ∈ dss, P ds) → ∀ j, j < (css ++ dss).length → P ((css ++ dss).getD j []) := fun P p1 p2 j hj => by
    rw [css_cat_at]
    split
    · rename_i hl; exact p1 j hl
    · rw [List.length_append] at hj
      rw [List.getD, List.getElem?_eq_getElem (show j - css.length < dss.length by omega)]
      exact p2 _ (List.getElem_mem _)
  have := h.len; have := h.flat; have := h.txt
  refine ⟨by rw [List.length_append]; omega, by rw [List.flatten_append, List.length_append]; omega, by rw [List.flatten_append, tl_app]; omega, at2 _ h.pos (fun ds hd => (h4 ds hd).1), at2 _ h.byte (fun ds hd => (h4 ds hd).2)⟩
theorem byte_f : Byte [102] := fun x hx => by simp at hx; omega
theorem var_ok (v : Int) : 0 < ([(0, v, [])] : List Cel).length ∧ ByteC [(0, v, [])] := ⟨by simp, ByteC.cons byte_nil ByteC.nil⟩
theorem pair_ok (u v : Int) : 0 < ([(3, 2, [102]), (0, u, []), (0, v, [])] : List Cel).length ∧ ByteC [(3, 2, [102]), (0, u, []), (0, v, [])] := ⟨by simp, ByteC.cons byte_f (ByteC.cons byte_nil (ByteC.cons byte_nil ByteC.nil))⟩
theorem leftA_few : ∀ n, Few (leftA n) n
  | 0 => Few.nil
  | n + 1 => by
    rw [leftA_succ]
    exact (leftA_few n).app (by simp) (by simp) (by simp [tl]) (fun ds hd => by rw [List.mem_singleton.1 hd]; exact var_ok _)
theorem rightA_few : ∀ n, Few (rightA n) n
  | 0 => Few.nil
  | n + 1 => by
    rw [rightA_succ]
    exact (rightA_few n).app (by simp) (by simp) (by simp [tl]) (fun ds hd => by rw [List.mem_singleton.1 hd]; exact pair_ok _ _)
theorem leftB_few : ∀ n, Few (leftB n) n
  | 0 => Few.nil
  | n + 1 => by
    rw [leftB_succ]
    exact (leftB_few n).app (by simp) (by simp) (by simp [tl]) (fun ds hd => by rcases List.mem_cons.1 hd with rfl | hd; exact var_ok _; rw [List.mem_singleton.1 hd]; exact var_ok _)
theorem rightB_few : ∀ n, Few (rightB n) n
  | 0 => Few.nil
  | n + 1 => by
    rw [rightB_succ]
    exact (rightB_few n).app (by simp) (by simp) (by simp [tl]) (fun ds hd => by rcases List.mem_cons.1 hd with rfl | hd; exact pair_ok _ _; rw [List.mem_singleton.1 hd]; exact pair_ok _ _)
noncomputable def drawU (ys : List Int) : List Cel × List Cel :=
  let k := (rdI ys 0).toNat
  let a := anyF ys (rdN ys 0)
  if k % 4 = 0 ∨ validB a.1 = false then (a.1, (anyF ys a.2).1)
  else if k = 1 then (lsL (leftA (5 + (rdI ys a.2).toNat % 12)) [nilC], lsL (rightA (5 + (rdI ys a.2).toNat % 12)) [nilC])
  else if k = 5 then (lsL (leftB (8 + (rdI ys a.2).toNat % 10) ++ [[(0, 0, [])]]) [nilC], lsL (rightB (8 + (rdI ys a.2).toNat % 10) ++ [[(0, 1, [])]]) [nilC])
  else (a.1, (alikeF ys (treeC a.1) a.2).1)
noncomputable def drawS (ys : List Int) : List Cel × List Cel :=
  let a := anyF ys (rdN ys 0)
  if validB a.1 = false then (a.1, a.1)
  else if (rdI ys 0).toNat % 4 = 0 then (a.1, (alikeF ys (treeC a.1) a.2).1)
  else ((alikeF ys (treeC a.1) a.2).1, a.1)
structure Bd (cs : List Cel) : Prop where
  len : cs.length ≤ 2001
  txt : tl cs ≤ 20000
  byte : ByteC cs
theorem Few.bd {css : List (List Cel)} {k : Nat} (h : Few css k) (hk : k ≤ 100) : Bd (lsL css [nilC]) := by
  obtain ⟨h1, h2⟩ := lsL_len css [nilC]
  have := h.len; have := h.flat; have := h.txt
  have e1 : tl [nilC] = 2 := rfl
  have e2 : [nilC].length = 1 := rfl
  exact ⟨by omega, by omega, ByteC.ls h.byte byte_nilC⟩
theorem valid_forest {cs : List Cel} (hb : ByteC cs) (hv : validB cs = true) : ∃ F : Fo, F.cells = cs ∧ F.ok := by
  simp only [validB, Bool.and_eq_true] at hv
  obtain ⟨F, _, h1, h2⟩ := forest_of cs 1 hb.get hv.2
  exact ⟨F, h1, h2⟩
theorem any_bd (ys : List Int) (i : Nat) : Bd (anyF ys i).1 := by
  obtain ⟨h1, h2⟩ := anyF_mid ys i
  exact ⟨h1.len, by have := h1.txt; omega, h2⟩
theorem alike_bd (ys : List Int) (i j : Nat) (hv : validB (anyF ys i).1 = true) : Bd (alikeF ys (treeC (anyF ys i).1) j).1 := by
  obtain ⟨h1, h2⟩ := anyF_mid ys i
  obtain ⟨h3, _⟩ := treeC_of (valid_forest h2 hv)
  obtain ⟨a1, a2, a3⟩ := alikeF_mid ys (treeC (anyF ys i).1) j
  rw [h3] at a1 a2 a3
  have := h1.len; have := h1.txt
  exact ⟨by omega, by omega, a3 h2⟩
theorem drawU_bd (ys : List Int) : Bd (drawU ys).1 ∧ Bd (drawU ys).2 := by
  unfold drawU
  simp only
  split
  · exact ⟨any_bd _ _, any_bd _ _⟩
  split
  · exact ⟨(leftA_few _).bd (by omega), (rightA_few _).bd (by omega)⟩
  split
  · exact ⟨((leftB_few _).app (by simp) (by simp) (by simp [tl]) (fun ds hd => by rw [List.mem_singleton.1 hd]; exact var_ok _)).bd (by omega), ((rightB_few _).app (by simp) (by simp) (by simp [tl]) (fun ds hd => by rw [List.mem_singleton.1 hd]; exact var_ok _)).bd (by omega)⟩
  · rename_i h _ _
    exact ⟨any_bd _ _, alike_bd _ _ _ (by cases hv : validB (anyF ys (rdN ys 0)).1 with | true => rfl | false => exact absurd (.inr hv) h)⟩
theorem drawS_bd (ys : List Int) : Bd (drawS ys).1 ∧ Bd (drawS ys).2 := by
  unfold drawS
  simp only
  split
  · exact ⟨any_bd _ _, any_bd _ _⟩
  rename_i h
  have hv : validB (anyF ys (rdN ys 0)).1 = true := by cases hv : validB (anyF ys (rdN ys 0)).1 with | true => rfl | false => exact absurd hv h
  split
  · exact ⟨any_bd _ _, alike_bd _ _ _ hv⟩
  · exact ⟨alike_bd _ _ _ hv, any_bd _ _⟩
end Go.Proofs.YtaakpdakeolgeaaGreat

