/- Texts of VpD, LawVp, ProofCells, ProofSS, ProofPr. Own work of the verifier. -/
import Derived.Test.YtfgaenggbbgboaaGreatDoorUqas
import Derived.Test.YtfgaenggbbgboaaGreatDoorUqbd
import Derived.Test.YtfgaenggbbgboaaGreatDoorRows
import Derived.Test.YtfgaenggbbgboaaGreatDoorUqaf
import Derived.ProofKit
import Derived.OpenShut
import Derived.Carry
import Derived.WalkSmall
import Derived.Deep.Slices
import Derived.Deep.Strs
import Derived.Test.YtfgaenggbbgboaaGreatDoorUqag
import Derived.Lib.SmallJoins
namespace Go.Proofs.YtfgaenggbbgboaaGreatDoor
open Go Go.RowKit
set_option linter.unusedVariables false
theorem heap_twoB (w : World) (a b : Obj) : ((w.alloc a).alloc b).heap[w.heap.size]? = some a ∧ ((w.alloc a).alloc b).heap[w.heap.size + 1]? = some b := by
  refine ⟨(Below.heap_alloc _ _ _ (by simp)).trans (heap_alloc_new w _), ?_⟩
  have := heap_alloc_new (w.alloc a) b
  simpa using this
set_option maxRecDepth 100000 in
theorem eqPred_any (nm : List Int) (ar : Int) (dy : Bool) (css : List (List Cel)) (p q : Option Addr) (m c1 c2 : Nat) (r s : Option Addr) (n e1 e2 : Nat) (w : World) (hm : m = nm.length) (hn : n = css.length) (hl : nm.length + (css.length + tll css) ≤ 100000000) (hp : BIn w p nm) (hq : BIn w q nm) (hr : CCIn w r css) (hs : CCIn w s css) :
    Calls Tryz.prog 53 #[.agg #[.slice p m c1, .int .i64 ar, .bool dy, .slice r n e1], .agg #[.slice q m c2, .int .i64 ar, .bool dy, .slice s n e2]] w fun e w' => e = .returned (.bool true) ∧ Below w.heap.size w w' := by
  have HE : Hid (∀ W, Below w.heap.size w W → Calls Tryz.prog 82 #[.slice p m c1, .slice q m c2] W fun e w' => e = .returned (.bool true) ∧ Below W.heap.size W w') := fun W hW => by
    rw [hm]
    refine (eqByteS_any p q c1 c2 nm nm W (by omega) (by omega) (hp.below hW) (hq.below hW)).mono ?_
    rintro e w5 ⟨rfl, n5, rfl⟩
    exact ⟨by simp, below_drewN (Below.refl _ _) _⟩
  have HS : Hid (∀ W, Below w.heap.size w W → Calls Tryz.prog 28 #[.slice r n e1, .slice s n e2] W fun e w' => e = .returned (.bool true) ∧ Below W.heap.size W w') := fun W hW => eqSS_any r s n n e1 e2 css W hn hn (by omega) (hr.below hW) (hs.below hW)
  have hb0 : ∀ a b, Below w.heap.size w ((w.alloc a).alloc b) := fun a b => ((Below.refl _ _).alloc (Nat.le_refl _) _).alloc (by simp) _
  have HB : Hid (∀ a b, Below w.heap.size w ((w.alloc a).alloc b)) := hb0
  clear hm hn hp hq hr hs hb0 hl
  go_enter Tryz.func53, Tryz.ntmps53
  go_wp2_with fail
  refine (HE.out _ (HB.out _ _)).mono ?_
  rintro e w1 ⟨rfl, hb1⟩
  have HB1 : Hid (Below w.heap.size w w1) := Below.on (HB.out _ _) hb1
  have k0 := (hb1.block w.heap.size (by simp; omega)).trans (heap_twoB w _ _).1
  have k1 := (hb1.block (w.heap.size + 1) (by simp)).trans (heap_twoB w _ _).2
  have B0 := Box4.of_block k0
  have B1 := Box4.of_block k1
  obtain ⟨x0, x1, x2, x3, _⟩ := B0
  obtain ⟨y0, y1, y2, y3, _⟩ := B1
  clear hb1 k0 k1
  go_wp2_with fail
  refine (HS.out _ HB1.out).mono ?_
  rintro e w2 ⟨rfl, hb2⟩
  have HB2 : Hid (Below w.heap.size w w2) := Below.on HB1.out hb2
  clear hb2
  go_wp2_with fail
  go_ret
  exact ⟨rfl, HB2.out⟩
set_option maxRecDepth 100000 in
set_option maxHeartbeats 1000000 in
theorem eqPs_any (p q : Option Addr) (n c1 c2 : Nat) (ps : List Prd) (w : World) (hn : n = ps.length) (hl : ps.length + szPs ps ≤ 100000000) (hx : PIn w p ps) (hy : PIn w q ps) :
    Calls Tryz.prog 27 #[.slice p n c1, .slice q n c2] w fun e w' => e = .returned (.bool true) ∧ Below w.heap.size w w' := by
  have HX : Hid (PIn w p ps ∧ PIn w q ps) := ⟨hx, hy⟩
  have HN : Hid (n = ps.length ∧ ps.length + szPs ps ≤ 100000000) := ⟨hn, hl⟩
  have hnb : n ≤ 100000000 := by omega
  clear hx hy hn hl
  go_enter Tryz.func27, Tryz.ntmps27
  go_wp2_with fail
  go_loopw [5] (fun i wr => ∃ (k : Nat), k ≤ n ∧ i = .int .i64 k ∧ Hid (Below w.heap.size w wr)) (fun i _ => n - (intOf i).toNat)
  case atStart => exact ⟨0, Nat.zero_le _, rfl, Below.refl _ _⟩
  case round =>
    obtain ⟨k, hk, rfl, HB⟩ := hrel
    by_cases hlt : k < n
    · have hkl : k < ps.length := by rw [← HN.out.1]; exact hlt
      obtain ⟨b, o, rfl, hcx⟩ := (HX.out.1.below HB.out) (by omega)
      obtain ⟨b', o', rfl, hcy⟩ := (HX.out.2.below HB.out) (by omega)
      obtain ⟨q1, a1, r1, e1, d0, d1, d2, d3, d4, d5⟩ := hcx k hkl
      obtain ⟨q2, a2, r2, e2, f0, f1, f2, f3, f4, f5⟩ := hcy k hkl
      have hbd := szPs_at ps k hkl
      have hbd2 := HN.out.2
      unfold szP at hbd
      obtain ⟨m, em⟩ : ∃ x, x = (ps.getD k Prd.zero).1.length := ⟨_, rfl⟩
      obtain ⟨ar, ear⟩ : ∃ x, x = (ps.getD k Prd.zero).2.1 := ⟨_, rfl⟩
      obtain ⟨dy, edy⟩ : ∃ x, x = (ps.getD k Prd.zero).2.2.1 := ⟨_, rfl⟩
      obtain ⟨nc, enc⟩ : ∃ x, x = (ps.getD k Prd.zero).2.2.2.length := ⟨_, rfl⟩
      have HS : Hid (∀ W, Below wr.heap.size wr W → Calls Tryz.prog 53 #[.agg #[.slice q1 m a1, .int .i64 ar, .bool dy, .slice r1 nc e1], .agg #[.slice q2 m a2, .int .i64 ar, .bool dy, .slice r2 nc e2]] W fun e w' => e = .returned (.bool true) ∧ Below W.heap.size W w') := fun W hW => eqPred_any (ps.getD k Prd.zero).1 ar dy (ps.getD k Prd.zero).2.2.2 q1 q2 m a1 a2 r1 r2 nc e1 e2 W em enc (by omega) (d4.below hW) (f4.below hW) (d5.below hW) (f5.below hW)
      rw [← em] at d0 f0
      rw [← ear] at d1 f1
      rw [← edy] at d2 f2
      rw [← enc] at d3 f3
      have hk0 : (0 : Int) ≤ (k : Int) := by omega
      have hkn : (k : Int) < (n : Int) := by omega
      clear hcx hcy d4 d5 f4 f5 hbd hbd2 em ear edy enc
      go_wp2_with fail
      go_region_held3 (fun W => W.cell? ⟨b, o + k * 4, none⟩ = some (.slice q1 m a1) ∧ W.cell? ⟨b, o + k * 4 + 1, none⟩ = some (.int .i64 ar) ∧ W.cell? ⟨b, o + k * 4 + 2, none⟩ = some (.bool dy) ∧ W.cell? ⟨b, o + k * 4 + 3, none⟩ = some (.slice r1 nc e1) ∧ W.cell? ⟨b', o' + k * 4, none⟩ = some (.slice q2 m a2) ∧ W.cell? ⟨b', o' + k * 4 + 1, none⟩ = some (.int .i64 ar) ∧ W.cell? ⟨b', o' + k * 4 + 2, none⟩ = some (.bool dy) ∧ W.cell? ⟨b', o' + k * 4 + 3, none⟩ = some (.slice r2 nc e2)) (first | exact kc | go_keep)
        ((go_at_call 53; refine (HS.out _ (Below.refl wr.heap.size wr).drew).mono ?_; rintro e w3 ⟨rfl, hb3⟩; have hb4 : Below wr.heap.size wr w3 := ((Below.refl wr.heap.size wr).drew).trans hb3; have kc : w3.cell? ⟨b, o + k * 4, none⟩ = some (.slice q1 m a1) ∧ w3.cell? ⟨b, o + k * 4 + 1, none⟩ = some (.int .i64 ar) ∧ w3.cell? ⟨b, o + k * 4 + 2, none⟩ = some (.bool dy) ∧ w3.cell? ⟨b, o + k * 4 + 3, none⟩ = some (.slice r1 nc e1) ∧ w3.cell? ⟨b', o' + k * 4, none⟩ = some (.slice q2 m a2) ∧ w3.cell? ⟨b', o' + k * 4 + 1, none⟩ = some (.int .i64 ar) ∧ w3.cell? ⟨b', o' + k * 4 + 2, none⟩ = some (.bool dy) ∧ w3.cell? ⟨b', o' + k * 4 + 3, none⟩ = some (.slice r2 nc e2) := ⟨(hb4.cell (World.block_lt_of_cell? _ _ d0)).trans d0, (hb4.cell (World.block_lt_of_cell? _ _ d1)).trans d1, (hb4.cell (World.block_lt_of_cell? _ _ d2)).trans d2, (hb4.cell (World.block_lt_of_cell? _ _ d3)).trans d3, (hb4.cell (World.block_lt_of_cell? _ _ f0)).trans f0, (hb4.cell (World.block_lt_of_cell? _ _ f1)).trans f1, (hb4.cell (World.block_lt_of_cell? _ _ f2)).trans f2, (hb4.cell (World.block_lt_of_cell? _ _ f3)).trans f3⟩))
      have HB3 : Hid (Below w.heap.size w w3) := Below.on HB.out hb4
      clear hb3 hb4 kc
      go_wp2_with fail
      go_roundw
      case rel => exact ⟨k + 1, by omega, by go_num, HB3⟩
      case measure => simp [intOf]; omega
    · obtain rfl : k = n := by omega
      go_wp2_with fail
      go_ret
      exact ⟨rfl, HB.out⟩
set_option maxRecDepth 100000 in
theorem eqProg_any (ps : List Prd) (gs : List (List Cel)) (p q : Option Addr) (np c1 c2 : Nat) (r s : Option Addr) (ng e1 e2 : Nat) (w : World) (hnp : np = ps.length) (hng : ng = gs.length) (hl : szPr ps gs ≤ 100000000) (hp : PIn w p ps) (hq : PIn w q ps) (hr : CCIn w r gs) (hs : CCIn w s gs) :
    Calls Tryz.prog 8 #[.agg #[.slice p np c1, .slice r ng e1], .agg #[.slice q np c2, .slice s ng e2]] w fun e w' => e = .returned (.bool true) ∧ Below w.heap.size w w' := by
  unfold szPr at hl
  have HE : Hid (∀ W, Below w.heap.size w W → Calls Tryz.prog 27 #[.slice p np c1, .slice q np c2] W fun e w' => e = .returned (.bool true) ∧ Below W.heap.size W w') := fun W hW => eqPs_any p q np c1 c2 ps W hnp (by omega) (hp.below hW) (hq.below hW)
  have HS : Hid (∀ W, Below w.heap.size w W → Calls Tryz.prog 28 #[.slice r ng e1, .slice s ng e2] W fun e w' => e = .returned (.bool true) ∧ Below W.heap.size W w') := fun W hW => eqSS_any r s ng ng e1 e2 gs W hng hng (by omega) (hr.below hW) (hs.below hW)
  have hb0 : ∀ a b, Below w.heap.size w ((w.alloc a).alloc b) := fun a b => ((Below.refl _ _).alloc (Nat.le_refl _) _).alloc (by simp) _
  have HB : Hid (∀ a b, Below w.heap.size w ((w.alloc a).alloc b)) := hb0
  clear hnp hng hp hq hr hs hb0 hl
  go_enter Tryz.func8, Tryz.ntmps8
  go_wp2_with fail
  refine (HE.out _ (HB.out _ _)).mono ?_
  rintro e w1 ⟨rfl, hb1⟩
  have HB1 : Hid (Below w.heap.size w w1) := Below.on (HB.out _ _) hb1
  have k0 := (hb1.block w.heap.size (by simp; omega)).trans (heap_twoB w _ _).1
  have k1 := (hb1.block (w.heap.size + 1) (by simp)).trans (heap_twoB w _ _).2
  have x1 := cell_of_row _ _ 1 _ _ _ k0
  have y1 := cell_of_row _ _ 1 _ _ _ k1
  simp at x1 y1
  clear hb1 k0 k1
  go_wp2_with fail
  refine (HS.out _ HB1.out).mono ?_
  rintro e w2 ⟨rfl, hb2⟩
  have HB2 : Hid (Below w.heap.size w w2) := Below.on HB1.out hb2
  clear hb2
  go_wp2_with fail
  go_ret
  exact ⟨rfl, HB2.out⟩
end Go.Proofs.YtfgaenggbbgboaaGreatDoor

namespace Go.Proofs.YtfgaenggbbgboaaGreatDoor
open Go Go.RowKit
set_option linter.unusedVariables false
set_option linter.unusedSimpArgs false
theorem PArg.pok {w : World} {p : Option Addr} {ps : List Prd} (h : PArg w p ps) : POk ps := fun i hi => ⟨(h.item i hi).2.1, (h.item i hi).2.2.1, (h.item i hi).2.2.2⟩
set_option maxRecDepth 100000 in
set_option maxHeartbeats 4000000 in
theorem lawVp_any (ps : List Prd) (gs : List (List Cel)) (p : Option Addr) (cp : Nat) (g : Option Addr) (cg : Nat) (a a2 : Addr) (w : World) (hp : PArg w p ps) (hg : CCArg w g gs) (he : ErrAt w a a2) :
    Calls Tryz.prog 3 #[.agg #[.slice p ps.length cp, .slice g gs.length cg]] w fun e w' => e = .returned (.bool true) ∧ Below w.heap.size w w' := by
  obtain ⟨bx, ebx⟩ : ∃ bx : Obj, bx = .cells #[.slice p ps.length cp, .slice g gs.length cg] 25 := ⟨_, rfl⟩
  have HAL : Hid (Below w.heap.size w (w.alloc bx)) := (Below.refl _ _).alloc (Nat.le_refl _) _
  have HSZ := szProg_any p cp ps g cg gs 1048576 (w.alloc bx) (by omega) (hp.below HAL.out) (hg.below HAL.out)
  obtain ⟨np, enp⟩ : ∃ n, n = ps.length := ⟨_, rfl⟩
  obtain ⟨ng, eng⟩ : ∃ n, n = gs.length := ⟨_, rfl⟩
  rw [← enp, ← eng] at HSZ ebx ⊢
  have HBX : Hid (∀ W, Below (w.alloc bx).heap.size (w.alloc bx) W → W.cell? ⟨w.heap.size, 0, none⟩ = some (.slice p np cp) ∧ W.cell? ⟨w.heap.size, 1, none⟩ = some (.slice g ng cg) ∧ Below w.heap.size w W) := fun W hW => by
    have hk : W.heap[w.heap.size]? = some bx := (hW.block w.heap.size (by simp)).trans (heap_alloc_new w _)
    rw [ebx] at hk
    exact ⟨(two_cells hk).1, (two_cells hk).2.1, Below.on HAL.out hW⟩
  have HEB : Hid (bx = .cells #[.slice p np cp, .slice g ng cg] 25) := ebx
  by_cases hs : szPr ps gs ≤ 1048576
  · have e1 : szR 1048576 (szPr ps gs) = ((1048576 - szPr ps gs : Nat) : Int) := by rw [szR, if_pos hs]; omega
    rw [e1] at HSZ
    obtain ⟨lf, elf⟩ : ∃ x, x = 1048576 - szPr ps gs := ⟨_, rfl⟩
    rw [← elf] at HSZ
    have hlf : lf ≤ 1048576 := by omega
    have HTP : Hid (∀ W, Below w.heap.size w W → Calls Tryz.prog 6 #[.agg #[.slice p np cp, .slice g ng cg]] W fun e w' => ∃ T G, e = .returned (.agg #[.slice (some ⟨T, 0, none⟩) np np, .slice (some ⟨G, 0, none⟩) ng ng]) ∧ PrLaid w' T G ps gs ∧ Below W.heap.size W w') := fun W hW => toProg_any p np cp ps g ng cg gs W enp eng hs (hp.below hW) (hg.below hW)
    have HSP : Hid (∀ W T G, PrLaid W T G ps gs → Calls Tryz.prog 5 #[.agg #[.slice (some ⟨T, 0, none⟩) np np, .slice (some ⟨G, 0, none⟩) ng ng]] W fun e w' => e = .returned (.bool (vpB ps gs)) ∧ Below W.heap.size W w') := fun W T G hl => specVP_any ps gs _ np np _ ng ng W enp eng hs hp.pok hg.ok hl.1.ptt ⟨hl.2.1, hl.2.2⟩
    have HIP : Hid (∀ W T G, Below w.heap.size w W → PrLaid W T G ps gs → Calls Tryz.prog 7 #[.agg #[.slice (some ⟨T, 0, none⟩) np np, .slice (some ⟨G, 0, none⟩) ng ng]] W fun e w' => e = .returned (.bool (vpB ps gs)) ∧ Below W.heap.size W w') := fun W T G hW hl => implVP_any ps gs _ np np _ ng ng a a2 W enp eng hs hp.pok hg.ok hl.1.ptt ⟨hl.2.1, hl.2.2⟩ (he.below hW)
    have HEQ : Hid (∀ W T G T' G', PrLaid W T G ps gs → PrLaid W T' G' ps gs → Calls Tryz.prog 8 #[.agg #[.slice (some ⟨T, 0, none⟩) np np, .slice (some ⟨G, 0, none⟩) ng ng], .agg #[.slice (some ⟨T', 0, none⟩) np np, .slice (some ⟨G', 0, none⟩) ng ng]] W fun e w' => e = .returned (.bool true) ∧ Below W.heap.size W w') := fun W T G T' G' h1 h2 => eqProg_any ps gs _ _ np np np _ _ ng ng ng W enp eng (by omega) h1.1.pin h2.1.pin h1.2.1 h2.2.1
    generalize vpB ps gs = R at HSP HIP
    clear hp hg he enp eng e1 elf hs ebx
    go_enter Tryz.func3, Tryz.ntmps3
    go_wp2_with fail
    rw [← HEB.out]
    refine HSZ.mono ?_
    rintro e w1 ⟨rfl, hb1⟩
    have HA1 : Hid (Below (w.alloc bx).heap.size (w.alloc bx) w1) := hb1
    obtain ⟨c0, c1, hB1⟩ := HBX.out w1 hb1
    have HT1 := HTP.out w1 hB1
    clear hb1 hB1 HSZ
    go_wp2_with fail
    refine HT1.mono ?_
    rintro e w2 ⟨T2, G2, rfl, hl2, hb2⟩
    have HA2 : Hid (Below (w.alloc bx).heap.size (w.alloc bx) w2) := Below.on HA1.out hb2
    have HS2 := HSP.out w2 T2 G2 hl2
    clear hb2 hl2 HT1 c0 c1
    go_wp2_with fail
    refine HS2.mono ?_
    rintro e w3 ⟨rfl, hb3⟩
    have HA3 : Hid (Below (w.alloc bx).heap.size (w.alloc bx) w3) := Below.on HA2.out hb3
    obtain ⟨c0, c1, hB3⟩ := HBX.out w3 HA3.out
    have HT3 := HTP.out w3 hB3
    clear hb3 hB3 HS2
    go_wp2_with fail
    refine HT3.mono ?_
    rintro e w4 ⟨T4, G4, rfl, hl4, hb4⟩
    obtain ⟨xo, exo⟩ : ∃ xo : Obj, xo = .cells #[.slice (some ⟨T4, 0, none⟩) np np, .slice (some ⟨G4, 0, none⟩) ng ng] 31 := ⟨_, rfl⟩
    have HXO : Hid (xo = .cells #[.slice (some ⟨T4, 0, none⟩) np np, .slice (some ⟨G4, 0, none⟩) ng ng] 31) := exo
    have hAx : Below w4.heap.size w4 (w4.alloc xo) := (Below.refl _ _).alloc (Nat.le_refl _) _
    have HA4 : Hid (Below (w.alloc bx).heap.size (w.alloc bx) (w4.alloc xo)) := Below.on (Below.on HA3.out hb4) hAx
    have HL4 : Hid (PrLaid (w4.alloc xo) T4 G4 ps gs) := hl4.below hAx
    have HBO : Hid (∀ W, Below (w4.alloc xo).heap.size (w4.alloc xo) W → W.cell? ⟨w4.heap.size, 0, none⟩ = some (.slice (some ⟨T4, 0, none⟩) np np) ∧ W.cell? ⟨w4.heap.size, 1, none⟩ = some (.slice (some ⟨G4, 0, none⟩) ng ng)) := fun W hW => by
      have hk : W.heap[w4.heap.size]? = some xo := (hW.block w4.heap.size (by simp)).trans (heap_alloc_new w4 _)
      rw [exo] at hk
      exact ⟨(two_cells hk).1, (two_cells hk).2.1⟩
    have HI4 := HIP.out (w4.alloc xo) T4 G4 (HBX.out _ HA4.out).2.2 HL4.out
    clear hb4 hl4 HT3 c0 c1 exo hAx
    go_wp2_with fail
    rw [← HXO.out]
    refine HI4.mono ?_
    rintro e w5 ⟨rfl, hb5⟩
    have HX5 : Hid (Below (w4.alloc xo).heap.size (w4.alloc xo) w5) := hb5
    have HL5 : Hid (PrLaid w5 T4 G4 ps gs) := HL4.out.below hb5
    have HA5 : Hid (Below (w.alloc bx).heap.size (w.alloc bx) w5) := Below.on HA4.out hb5
    obtain ⟨Wd, eD⟩ : ∃ Wd, Wd = World.drew w5 := ⟨_, rfl⟩
    have hbd : Below w5.heap.size w5 Wd := by rw [eD]; exact (Below.refl _ _).drew
    have HDe : Hid (World.drew w5 = Wd) := eD.symm
    have HAd : Hid (Below (w.alloc bx).heap.size (w.alloc bx) Wd) := Below.on HA5.out hbd
    have HXd : Hid (Below (w4.alloc xo).heap.size (w4.alloc xo) Wd) := Below.on HX5.out hbd
    have HLd : Hid (PrLaid Wd T4 G4 ps gs) := HL5.out.below hbd
    have HTd := HTP.out Wd (HBX.out _ HAd.out).2.2
    have HSS : Hid (∀ W, Below (w.alloc bx).heap.size (w.alloc bx) W → Below (w4.alloc xo).heap.size (w4.alloc xo) W → (W.cell? ⟨w4.heap.size, 0, none⟩ = some (.slice (some ⟨T4, 0, none⟩) np np) ∧ W.cell? ⟨w4.heap.size, 1, none⟩ = some (.slice (some ⟨G4, 0, none⟩) ng ng)) ∧ (W.cell? ⟨w.heap.size, 0, none⟩ = some (.slice p np cp) ∧ W.cell? ⟨w.heap.size, 1, none⟩ = some (.slice g ng cg))) := fun W h1 h2 => ⟨HBO.out W h2, (HBX.out W h1).1, (HBX.out W h1).2.1⟩
    have hRR : (R != R) = false := by simp
    clear hb5 hbd eD HI4
    go_wp2_with fail
    refine wp_region_held_drew (S := (fun W => (W.cell? ⟨w4.heap.size, 0, none⟩ = some (.slice (some ⟨T4, 0, none⟩) np np) ∧ W.cell? ⟨w4.heap.size, 1, none⟩ = some (.slice (some ⟨G4, 0, none⟩) ng ng)) ∧ (W.cell? ⟨w.heap.size, 0, none⟩ = some (.slice p np cp) ∧ W.cell? ⟨w.heap.size, 1, none⟩ = some (.slice g ng cg)))) (by kernel_rfl) ?_ (fun hHeld => ?_)
    · rw [HDe.out]; exact HSS.out Wd HAd.out HXd.out
    rw [HDe.out]
    have hS0 := HSS.out Wd HAd.out HXd.out
    refine hTake (i := 0) (v := .agg #[.slice (some ⟨T4, 0, none⟩) np np, .slice (some ⟨G4, 0, none⟩) ng ng]) (some 22) (by kernel_rfl) (by kernel_rfl) (by kernel_rfl) (by kernel_rfl) (by kernel_rfl) (fun _ _ _ h => h) (fun o ho W hSw => ?y0) (by assumption) ?_
    case y0 =>
      cases ho
      obtain ⟨⟨k0, k1⟩, k2, k3⟩ := hSw
      simp [execOp, go_sem, Act.eval, k0, k1]
    simp only [Act.put, List.setIfInBounds_toArray, List.set_cons_zero, List.set_cons_succ]
    refine hTake (i := 1) (v := .agg #[.slice p np cp, .slice g ng cg]) (some 23) (by kernel_rfl) (by kernel_rfl) (by kernel_rfl) (by kernel_rfl) (by kernel_rfl) (fun _ _ _ h => h) (fun o ho W hSw => ?y1) (by assumption) ?_
    case y1 =>
      cases ho
      obtain ⟨⟨k0, k1⟩, k2, k3⟩ := hSw
      simp [execOp, go_sem, Act.eval, k2, k3]
    simp only [Act.put, List.setIfInBounds_toArray, List.set_cons_zero, List.set_cons_succ]
    refine hCallE (i := 2) (f := 6) (args := #[.agg #[.slice p np cp, .slice g ng cg]]) (some 24) (by kernel_rfl) (by kernel_rfl) (by kernel_rfl) (fun o ho => ?c2) HTd ?k2 (fun ch w' hh => by obtain ⟨_, _, h, _⟩ := hh; cases h) (fun w' hh => by obtain ⟨_, _, h, _⟩ := hh; cases h)
    case c2 =>
      cases ho
      simp [execOp, go_sem, Act.eval]
    case k2 =>
      rintro u w6 ⟨T6, G6, hu, hl6, hb6⟩
      injection hu with hu
      subst hu
      have HA6 : Hid (Below (w.alloc bx).heap.size (w.alloc bx) w6) := Below.on HAd.out hb6
      have HX6 : Hid (Below (w4.alloc xo).heap.size (w4.alloc xo) w6) := Below.on HXd.out hb6
      have hS6 := HSS.out w6 HA6.out HX6.out
      have HE6 := HEQ.out w6 T4 G4 T6 G6 (HLd.out.below hb6) hl6
      refine ⟨hS6, ?_⟩
      clear hb6 hl6 HTd hS0
      simp only [Act.put, List.setIfInBounds_toArray, List.set_cons_zero, List.set_cons_succ]
      refine hCallE (i := 3) (f := 8) (args := #[.agg #[.slice (some ⟨T4, 0, none⟩) np np, .slice (some ⟨G4, 0, none⟩) ng ng], .agg #[.slice (some ⟨T6, 0, none⟩) np np, .slice (some ⟨G6, 0, none⟩) ng ng]]) (some 25) (by kernel_rfl) (by kernel_rfl) (by kernel_rfl) (fun o ho => ?c3) HE6 ?k3 (fun ch w' hh => by cases hh.1) (fun w' hh => by cases hh.1)
      case c3 =>
        cases ho
        simp [execOp, go_sem, Act.eval]
      case k3 =>
        rintro u w7 ⟨hu, hb7⟩
        injection hu with hu
        subst hu
        have HA7 : Hid (Below (w.alloc bx).heap.size (w.alloc bx) w7) := Below.on HA6.out hb7
        have hS7 := HSS.out w7 HA7.out (Below.on HX6.out hb7)
        refine ⟨hS7, ?_⟩
        clear hb7 HE6 hS6
        simp only [Act.put, List.setIfInBounds_toArray, List.set_cons_zero, List.set_cons_succ]
        refine hTake (i := 4) (v := .bool false) (some 26) (by kernel_rfl) (by kernel_rfl) (by kernel_rfl) (by kernel_rfl) (by kernel_rfl) (fun _ _ _ h => h) (fun o ho W hSw => ?y4) (by assumption) ?_
        case y4 =>
          cases ho
          simp [execOp, go_sem, Act.eval]
        simp only [Act.put, List.setIfInBounds_toArray, List.set_cons_zero, List.set_cons_succ]
        refine wpAnyH_done (by kernel_rfl) ?_ _
        change Exit.then _ _ _ _ w7
        go_wp2_with fail
        go_ret
        exact ⟨rfl, (HBX.out _ HA7.out).2.2⟩
  · have e1 : szR 1048576 (szPr ps gs) = -1 := by rw [szR, if_neg hs]
    rw [e1] at HSZ
    clear hp hg he enp eng e1 hs ebx
    go_enter Tryz.func3, Tryz.ntmps3
    go_wp2_with fail
    rw [← HEB.out]
    refine HSZ.mono ?_
    rintro e w1 ⟨rfl, hb1⟩
    have HA1 : Hid (Below (w.alloc bx).heap.size (w.alloc bx) w1) := hb1
    clear hb1 HSZ
    go_wp2_with fail
    go_ret
    exact ⟨rfl, (HBX.out _ HA1.out).2.2⟩
end Go.Proofs.YtfgaenggbbgboaaGreatDoor

namespace Go.Proofs.YtfgaenggbbgboaaGreatDoor
open Go Go.ChangeShapes Go.WideShapes Go.ChangeAt Go.WideMaps Go.WideElems Go.RowKit Go.Deep
theorem own : ownKnob Tryz.prog.godebug = none := by kernel_rfl
theorem laidOut : laidOutB Tryz.prog = true := by kernel_rfl
theorem cellsByte : Tryz.prog.cellsOf 5 = 1 := by kernel_rfl
theorem cellsInt : Tryz.prog.cellsOf 3 = 1 := by kernel_rfl
theorem cellsText : Tryz.prog.cellsOf 37 = 1 := by kernel_rfl
theorem cellsCell : Tryz.prog.cellsOf 92 = 3 := by kernel_rfl
theorem openedText {H : Type} {enc : TypeId × Value → H} {W : World} {fuel : Nat} {v : Value} {x : DataW H × List MemPlace}
    (h : DataW.trod enc Tryz.prog W 0 (fun _ => true) true fuel 37 [v] = some x) :
    ∃ (p : Option Addr) (cap : Nat) (xs : List Int), v = .slice p xs.length cap ∧ xs.length ≤ 9223372036854775807 ∧ BIn W p xs ∧ ∀ y ∈ xs, 0 ≤ y ∧ y < 256 := by
  rcases open_ints Tryz.underlying37 Tryz.underlying5 cellsByte h with ⟨hcs, hx⟩ | ⟨a, len', cap', zs, hcs, _, hl, hm, hz, hx, hcell, hwz⟩
  · obtain rfl : v = .slice none 0 0 := by simpa using hcs
    exact ⟨none, 0, [], rfl, by decide, fun h => absurd h (Nat.lt_irrefl 0), fun x hx => by cases hx⟩
  · obtain rfl : v = .slice (some a) len' cap' := by simpa using hcs
    simp only [if_true] at hz
    unfold maxLen at hm
    refine ⟨some a, cap', zs.take len', by congr 1; simp; omega, by simp; omega, fun hn => ?_, fun x hx' => ?_⟩
    · have hn' : 0 < zs.length := by simp at hn; omega
      obtain ⟨b, o, s⟩ := a
      obtain rfl : s = none := by simpa [Addr.add] using World.cell?_spot (hcell 0 hn')
      refine ⟨b, o, rfl, fun i hi => ?_⟩
      have hi' : i < len' := by simp at hi; omega
      have := hcell i (by omega)
      rw [add_plain] at this
      rw [this]
      simp [List.getD, hi']
    · have h := hwz x (List.mem_of_mem_take hx')
      have h1 : IntKind.u8.min = 0 := rfl
      have h2 : IntKind.u8.max = 255 := rfl
      simp only [Lit.wf, Bool.and_eq_true, decide_eq_true_eq] at h
      omega
theorem wf_i64 {n : Int} (h : (Lit.int .i64 n).wf = true) : -9223372036854775808 ≤ n ∧ n ≤ 9223372036854775807 := by
  have h1 : IntKind.i64.min = -9223372036854775808 := rfl
  have h2 : IntKind.i64.max = 9223372036854775807 := rfl
  simp only [Lit.wf, Bool.and_eq_true, decide_eq_true_eq] at h
  omega
theorem three_of {cs : List Value} (h : cs.length = 3) : ∃ a b c, cs = [a, b, c] := by
  match cs, h with
  | [a, b, c], _ => exact ⟨a, b, c, rfl⟩
theorem openedCell {H : Type} {enc : TypeId × Value → H} {W : World} {fuel : Nat} {cs : List Value} {x : DataW H × List MemPlace}
    (h : DataW.trod enc Tryz.prog W 0 (fun _ => true) true fuel 92 cs = some x) :
    ∃ (k n : Int) (p : Option Addr) (cap : Nat) (xs : List Int), cs = [.int .i64 k, .int .i64 n, .slice p xs.length cap] ∧ xs.length ≤ 9223372036854775807 ∧ BIn W p xs ∧ (∀ y ∈ xs, 0 ≤ y ∧ y < 256) ∧
      (-9223372036854775808 ≤ k ∧ k ≤ 9223372036854775807 ∧ -9223372036854775808 ≤ n ∧ n ≤ 9223372036854775807) := by
  obtain ⟨y0, y1, y2, n, hx, hl, h0, h1, h2⟩ := trod_struct3 Tryz.underlying92 h
  rw [cellsCell] at hl
  obtain ⟨a, b, c, rfl⟩ := three_of hl
  simp only [cellsInt, cellsText, List.drop_zero, List.take_succ_cons, List.take_zero, List.drop_succ_cons] at h0 h1 h2
  obtain ⟨k, e0, _, w0⟩ := DataW.trod_int Tryz.underlying3 h0
  obtain ⟨m, e1, _, w1⟩ := DataW.trod_int Tryz.underlying3 h1
  obtain ⟨p, cap, xs, rfl, hlen, hin, hb⟩ := openedText h2
  obtain rfl : a = .int .i64 k := by simpa using e0
  obtain rfl : b = .int .i64 m := by simpa using e1
  exact ⟨k, m, p, cap, xs, rfl, hlen, hin, hb, (wf_i64 w0).1, (wf_i64 w0).2, (wf_i64 w1).1, (wf_i64 w1).2⟩
theorem getD_map_range (f : Nat → Cel) (n i : Nat) (h : i < n) : ((List.range n).map f).getD i Cel.none = f i := by
  simp [List.getD, h]
theorem openedCells {H : Type} {enc : TypeId × Value → H} {W : World} {a0 : Option Addr} {len cap : Nat} {d0 : DataW H} {p : List MemPlace}
    (h0 : DataW.Trod enc Tryz.prog W 0 (fun _ => true) true 67 (.slice a0 len cap) d0 p) : ∃ cs : List Cel, cs.length = len ∧ CArg W a0 cs := by
  obtain ⟨fuel, hf⟩ := h0
  rcases open_slice Tryz.underlying67 hf with ⟨hcs, hx⟩ | ⟨a, len', cap', m, n, D, Pl, hcs, hb, hl, hm, hmm, hx, hel⟩
  · simp [Value.cells] at hcs
    obtain ⟨rfl, rfl, rfl⟩ := hcs
    exact ⟨[], rfl, fun h => absurd h (Nat.lt_irrefl 0), by decide, fun i h => by simp at h, fun i h => by simp at h, fun i h => by simp at h⟩
  · simp [Value.cells] at hcs
    obtain ⟨rfl, rfl, rfl⟩ := hcs
    simp only [if_true] at hmm
    subst hmm
    unfold maxLen at hm
    obtain ⟨b, o, s⟩ := a
    have hs0 : ∀ i, i = 0 → i < len → s = none := fun i hi0 hlen => by
      obtain ⟨cs', hc, ht⟩ := hel i (by omega)
      obtain ⟨k, n', q, qc, xs, rfl, r1, r2, r3, r4⟩ := openedCell ht
      rw [cellsCell] at hc
      have g0 := (World.cells?_some hc).2.2 0 (by decide)
      have g := World.cell?_spot g0
      rw [hi0] at g
      simpa [Addr.add] using g
    have each : ∀ i, i < len → ∃ c : Cel, s = none ∧ CAt W b (o + i * 3) c ∧ c.2.2.length ≤ 9223372036854775807 ∧ (∀ y ∈ c.2.2, 0 ≤ y ∧ y < 256) ∧ (-9223372036854775808 ≤ c.1 ∧ c.1 ≤ 9223372036854775807 ∧ -9223372036854775808 ≤ c.2.1 ∧ c.2.1 ≤ 9223372036854775807) := fun i hi => by
      obtain ⟨cs', hc, ht⟩ := hel i (by omega)
      obtain ⟨k, n', q, qc, xs, rfl, r1, r2, r3, r4⟩ := openedCell ht
      rw [cellsCell] at hc
      have hs := (World.cells?_some hc).2.2
      have g0 := hs 0 (by decide)
      have g1 := hs 1 (by decide)
      have g2 := hs 2 (by decide)
      obtain rfl : s = none := hs0 0 rfl (by omega)
      simp only [add_plain] at g0 g1 g2
      exact ⟨(k, n', xs), rfl, ⟨q, qc, g0, g1, g2, r2⟩, r1, r3, r4⟩
    obtain ⟨f, hfx⟩ := choose_lt each
    have hat : ∀ i, i < len → ((List.range len).map f).getD i Cel.none = f i := fun i hi => getD_map_range f len i hi
    refine ⟨(List.range len).map f, by simp, fun hn => ?_, by simp; omega, fun i hi => ?_, fun i hi => ?_, fun i hi => ?_⟩
    · have hn' : 0 < len := by simpa using hn
      obtain rfl : s = none := (hfx 0 hn').1
      refine ⟨b, o, rfl, fun i hi => ?_⟩
      have hi' : i < len := by simpa using hi
      rw [hat i hi']
      exact (hfx i hi').2.1
    · have hi' : i < len := by simpa using hi
      rw [hat i hi']
      exact (hfx i hi').2.2.1
    · have hi' : i < len := by simpa using hi
      rw [hat i hi']
      exact (hfx i hi').2.2.2.1
    · have hi' : i < len := by simpa using hi
      rw [hat i hi']
      exact (hfx i hi').2.2.2.2
end Go.Proofs.YtfgaenggbbgboaaGreatDoor

namespace Go.Proofs.YtfgaenggbbgboaaGreatDoor
open Go Go.ChangeShapes Go.WideShapes Go.ChangeAt Go.WideMaps Go.WideElems Go.RowKit Go.Deep
theorem cellsSlice : Tryz.prog.cellsOf 67 = 1 := by kernel_rfl
theorem getD_map_range2 (f : Nat → List Cel) (n i : Nat) (h : i < n) : ((List.range n).map f).getD i [] = f i := by
  simp [List.getD, h]
theorem openedItem {H : Type} {enc : TypeId × Value → H} {W : World} {fuel : Nat} {cs : List Value} {x : DataW H × List MemPlace} (hl : cs.length = 1)
    (h : DataW.trod enc Tryz.prog W 0 (fun _ => true) true fuel 67 cs = some x) : ∃ (p : Option Addr) (cap : Nat) (ys : List Cel), cs = [.slice p ys.length cap] ∧ CArg W p ys := by
  obtain ⟨v, rfl⟩ : ∃ v, cs = [v] := by
    match cs, hl with
    | [v], _ => exact ⟨v, rfl⟩
  have hv : ∃ a len cap, v = .slice a len cap := by
    rcases open_slice Tryz.underlying67 h with ⟨hcs, hx⟩ | ⟨a, len', cap', m, n, D, Pl, hcs, _⟩
    · exact ⟨none, 0, 0, by simpa using hcs⟩
    · exact ⟨some a, len', cap', by simpa using hcs⟩
  obtain ⟨a, len, cap, rfl⟩ := hv
  obtain ⟨d, pl⟩ := x
  obtain ⟨ys, rfl, hin⟩ := openedCells (d0 := d) (p := pl) ⟨fuel, h⟩
  exact ⟨a, cap, ys, rfl, hin⟩
theorem openedSS {H : Type} {enc : TypeId × Value → H} {W : World} {a0 : Option Addr} {len cap : Nat} {d0 : DataW H} {p : List MemPlace}
    (h0 : DataW.Trod enc Tryz.prog W 0 (fun _ => true) true 23 (.slice a0 len cap) d0 p) : ∃ css : List (List Cel), css.length = len ∧ CCArg W a0 css := by
  obtain ⟨fuel, hf⟩ := h0
  rcases open_slice Tryz.underlying23 hf with ⟨hcs, hx⟩ | ⟨a, len', cap', m, n, D, Pl, hcs, hb, hl, hm, hmm, hx, hel⟩
  · simp [Value.cells] at hcs
    obtain ⟨rfl, rfl, rfl⟩ := hcs
    exact ⟨[], rfl, fun h => absurd h (Nat.lt_irrefl 0), by decide, fun i h => by simp at h⟩
  · simp [Value.cells] at hcs
    obtain ⟨rfl, rfl, rfl⟩ := hcs
    simp only [if_true] at hmm
    subst hmm
    unfold maxLen at hm
    obtain ⟨b, o, s⟩ := a
    have each0 : ∀ i, i < len → ∃ c : List Cel × Option Addr × Nat, W.cell? (((⟨b, o, s⟩ : Addr).add (i * 1)).add 0) = some (.slice c.2.1 c.1.length c.2.2) ∧ CArg W c.2.1 c.1 := fun i hi => by
      obtain ⟨cs', hc, ht⟩ := hel i (by omega)
      have hc1 := World.cells?_some hc
      rw [cellsSlice] at hc hc1
      obtain ⟨q, qc, ys, rfl, hin⟩ := openedItem (by simpa using hc1.2.1) ht
      have g0 := hc1.2.2 0 (by decide)
      exact ⟨(ys, q, qc), by simpa using g0, hin⟩
    obtain ⟨f, hfx⟩ := choose_lt each0
    have hat : ∀ i, i < len → ((List.range len).map (fun i => (f i).1)).getD i [] = (f i).1 := fun i hi => getD_map_range2 (fun i => (f i).1) len i hi
    refine ⟨(List.range len).map (fun i => (f i).1), by simp, fun hn => ?_, by simp; omega, fun i hi => ?_⟩
    · have hn' : 0 < len := by simpa using hn
      have g := World.cell?_spot (hfx 0 hn').1
      obtain rfl : s = none := by simpa [Addr.add] using g
      refine ⟨b, o, rfl, fun i hi => ?_⟩
      have hi' : i < len := by simpa using hi
      rw [hat i hi']
      have g0 := (hfx i hi').1
      simp only [add_plain, Nat.mul_one, Nat.add_zero] at g0
      exact ⟨_, _, g0, (hfx i hi').2.lies⟩
    · have hi' : i < len := by simpa using hi
      rw [hat i hi']
      exact ⟨(hfx i hi').2.len, (hfx i hi').2.text, (hfx i hi').2.byte⟩
end Go.Proofs.YtfgaenggbbgboaaGreatDoor

namespace Go.Proofs.YtfgaenggbbgboaaGreatDoor
open Go Go.ChangeShapes Go.WideShapes Go.ChangeAt Go.WideMaps Go.WideElems Go.RowKit Go.Deep
theorem cellsPred : Tryz.prog.cellsOf 65 = 4 := by kernel_rfl
theorem cellsProg : Tryz.prog.cellsOf 25 = 2 := by kernel_rfl
theorem cellsBool : Tryz.prog.cellsOf 4 = 1 := by kernel_rfl
theorem cellsSS : Tryz.prog.cellsOf 23 = 1 := by kernel_rfl
theorem cellsPs : Tryz.prog.cellsOf 22 = 1 := by kernel_rfl
theorem openedSSV {H : Type} {enc : TypeId × Value → H} {W : World} {fuel : Nat} {v : Value} {x : DataW H × List MemPlace}
    (h : DataW.trod enc Tryz.prog W 0 (fun _ => true) true fuel 23 [v] = some x) : ∃ (p : Option Addr) (cap : Nat) (css : List (List Cel)), v = .slice p css.length cap ∧ CCArg W p css := by
  have hv : ∃ a len cap, v = .slice a len cap := by
    rcases open_slice Tryz.underlying23 h with ⟨hcs, hx⟩ | ⟨a, len', cap', m, n, D, Pl, hcs, _⟩
    · exact ⟨none, 0, 0, by simpa using hcs⟩
    · exact ⟨some a, len', cap', by simpa using hcs⟩
  obtain ⟨a, len, cap, rfl⟩ := hv
  obtain ⟨d, pl⟩ := x
  obtain ⟨css, rfl, hin⟩ := openedSS (d0 := d) (p := pl) ⟨fuel, h⟩
  exact ⟨a, cap, css, rfl, hin⟩
theorem four_of {cs : List Value} (h : cs.length = 4) : ∃ a b c d, cs = [a, b, c, d] := by
  match cs, h with
  | [a, b, c, d], _ => exact ⟨a, b, c, d, rfl⟩
theorem two_ofP {cs : List Value} (h : cs.length = 2) : ∃ a b, cs = [a, b] := by
  match cs, h with
  | [a, b], _ => exact ⟨a, b, rfl⟩
theorem openedPred {H : Type} {enc : TypeId × Value → H} {W : World} {fuel : Nat} {cs : List Value} {x : DataW H × List MemPlace}
    (h : DataW.trod enc Tryz.prog W 0 (fun _ => true) true fuel 65 cs = some x) :
    ∃ (q : Option Addr) (c : Nat) (r : Option Addr) (d : Nat) (y : Prd), cs = [.slice q y.1.length c, .int .i64 y.2.1, .bool y.2.2.1, .slice r y.2.2.2.length d] ∧ y.1.length ≤ 9223372036854775807 ∧ BIn W q y.1 ∧ Byte y.1 ∧ (Lit.int .i64 y.2.1).wf = true ∧ CCArg W r y.2.2.2 := by
  obtain ⟨y0, y1, y2, y3, n, hx, hl, h0, h1, h2, h3⟩ := Go.Joins.trod_struct4 Tryz.underlying65 h
  rw [cellsPred] at hl
  obtain ⟨a, b, c, d, rfl⟩ := four_of hl
  simp only [cellsInt, cellsText, cellsBool, cellsSS, List.drop_zero, List.take_succ_cons, List.take_zero, List.drop_succ_cons] at h0 h1 h2 h3
  obtain ⟨p, cap, xs, rfl, hlen, hin, hb⟩ := openedText h0
  obtain ⟨k, e1, _, w1⟩ := DataW.trod_int Tryz.underlying3 h1
  obtain ⟨t, e2, _⟩ := DataW.trod_bool Tryz.underlying4 h2
  obtain ⟨r, rc, css, rfl, hcc⟩ := openedSSV h3
  obtain rfl : b = .int .i64 k := by simpa using e1
  obtain rfl : c = .bool t := by simpa using e2
  exact ⟨p, cap, r, rc, (xs, k, t, css), rfl, hlen, hin, hb, w1, hcc⟩
theorem getD_map_rangeP (f : Nat → Prd) (n i : Nat) (h : i < n) : ((List.range n).map f).getD i Prd.zero = f i := by
  simp [List.getD, h]
theorem openedPs {H : Type} {enc : TypeId × Value → H} {W : World} {fuel : Nat} {v : Value} {x : DataW H × List MemPlace}
    (h : DataW.trod enc Tryz.prog W 0 (fun _ => true) true fuel 22 [v] = some x) : ∃ (p : Option Addr) (cap : Nat) (ps : List Prd), v = .slice p ps.length cap ∧ PArg W p ps := by
  rcases open_slice Tryz.underlying22 h with ⟨hcs, hx⟩ | ⟨a, len', cap', m, n, D, Pl, hcs, hb, hl, hm, hmm, hx, hel⟩
  · obtain rfl : v = .slice none 0 0 := by simpa using hcs
    exact ⟨none, 0, [], rfl, fun h => absurd h (Nat.lt_irrefl 0), by decide, fun i h => by simp at h⟩
  · obtain rfl : v = .slice (some a) len' cap' := by simpa using hcs
    simp only [if_true] at hmm
    subst hmm
    unfold maxLen at hm
    obtain ⟨b, o, s⟩ := a
    have each0 : ∀ i, i < len' → ∃ c : Prd × Option Addr × Nat × Option Addr × Nat, W.cell? (((⟨b, o, s⟩ : Addr).add (i * 4)).add 0) = some (.slice c.2.1 c.1.1.length c.2.2.1) ∧ W.cell? (((⟨b, o, s⟩ : Addr).add (i * 4)).add 1) = some (.int .i64 c.1.2.1) ∧ W.cell? (((⟨b, o, s⟩ : Addr).add (i * 4)).add 2) = some (.bool c.1.2.2.1) ∧ W.cell? (((⟨b, o, s⟩ : Addr).add (i * 4)).add 3) = some (.slice c.2.2.2.1 c.1.2.2.2.length c.2.2.2.2) ∧ c.1.1.length ≤ 9223372036854775807 ∧ BIn W c.2.1 c.1.1 ∧ Byte c.1.1 ∧ (Lit.int .i64 c.1.2.1).wf = true ∧ CCArg W c.2.2.2.1 c.1.2.2.2 := fun i hi => by
      obtain ⟨cs', hc, ht⟩ := hel i (by omega)
      obtain ⟨q, qc, r, rc, y, rfl, h1, h2, h3, h4, h5⟩ := openedPred ht
      rw [cellsPred] at hc
      have hs := (World.cells?_some hc).2.2
      have g0 := hs 0 (by decide)
      have g1 := hs 1 (by decide)
      have g2 := hs 2 (by decide)
      have g3 := hs 3 (by decide)
      exact ⟨(y, q, qc, r, rc), by simpa using g0, by simpa using g1, by simpa using g2, by simpa using g3, h1, h2, h3, h4, h5⟩
    obtain ⟨f, hfx⟩ := choose_lt each0
    have hat : ∀ i, i < len' → ((List.range len').map (fun i => (f i).1)).getD i Prd.zero = (f i).1 := fun i hi => getD_map_rangeP (fun i => (f i).1) len' i hi
    refine ⟨some ⟨b, o, s⟩, m, (List.range len').map (fun i => (f i).1), by simp, fun hn => ?_, by simp; omega, fun i hi => ?_⟩
    · have hn' : 0 < len' := by simpa using hn
      have g := World.cell?_spot (hfx 0 hn').1
      obtain rfl : s = none := by simpa [Addr.add] using g
      refine ⟨b, o, rfl, fun i hi => ?_⟩
      have hi' : i < len' := by simpa using hi
      rw [hat i hi']
      obtain ⟨g0, g1, g2, g3, _, h2, _, _, h5⟩ := hfx i hi'
      simp only [add_plain, Nat.add_zero] at g0 g1 g2 g3
      exact ⟨_, _, _, _, g0, g1, g2, g3, h2, h5.lies⟩
    · have hi' : i < len' := by simpa using hi
      rw [hat i hi']
      obtain ⟨_, _, _, _, h1, _, h3, h4, h5⟩ := hfx i hi'
      exact ⟨h1, h3, h4, h5.ok⟩
theorem openedProg {H : Type} {enc : TypeId × Value → H} {W : World} {cs : Array Value} {d0 : DataW H} {p : List MemPlace}
    (h0 : DataW.Trod enc Tryz.prog W 0 (fun _ => true) true 25 (.agg cs) d0 p) : ∃ p c1 g c2 ps gs, cs = #[.slice p (List.length (α := Prd) ps) c1, .slice g (List.length (α := List Cel) gs) c2] ∧ PArg W p ps ∧ CCArg W g gs := by
  obtain ⟨fuel, hf⟩ := h0
  have hf : DataW.trod enc Tryz.prog W 0 (fun _ => true) true fuel 25 cs.toList = some (d0, p) := hf
  obtain ⟨y0, y1, n, hx, hl, h0, h1⟩ := trod_struct2 Tryz.underlying25 hf
  rw [cellsProg] at hl
  obtain ⟨a, b, hab⟩ := two_ofP hl
  rw [hab] at h0 h1
  simp only [cellsPs, cellsSS, List.drop_zero, List.take_succ_cons, List.take_zero, List.drop_succ_cons] at h0 h1
  obtain ⟨p0, q0, ps, rfl, hps⟩ := openedPs h0
  obtain ⟨p1, q1, gs, rfl, hgs⟩ := openedSSV h1
  exact ⟨p0, q0, p1, q1, ps, gs, by apply Array.ext'; rw [hab], hps, hgs⟩
end Go.Proofs.YtfgaenggbbgboaaGreatDoor

