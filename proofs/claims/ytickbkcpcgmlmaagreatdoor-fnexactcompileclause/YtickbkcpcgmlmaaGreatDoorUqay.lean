/- Texts of LcD, LcE, LcF, LcG, LcH, ClZA, RegD, ClV, DolP, NbP, FnC, NbI2, FoI, FoS, NbQ, NbN, NbC, ErrIs, NbB, NbI, ClZB, LcI, CeP, ProofCells. Own work of the verifier. -/
import Derived.Test.YtickbkcpcgmlmaaGreatDoorUqax
import Derived.Test.YtickbkcpcgmlmaaGreatDoorUqau
import Derived.LaidEql
import Derived.Stop.Asserts
import Derived.RowKitTokens
import Derived.Test.YtickbkcpcgmlmaaGreatDoorRows
import Derived.OpenShut
import Derived.Carry
import Derived.Deep.Slices
import Derived.Deep.Strs
namespace Go.Proofs.YtickbkcpcgmlmaaGreatDoor
set_option linter.unusedVariables false
set_option linter.unusedSimpArgs false
set_option maxRecDepth 100000
section
open Go Go.RowKit
theorem heap_twoL (w : World) (a b : Obj) : ((w.alloc a).alloc b).heap[w.heap.size]? = some a ∧ ((w.alloc a).alloc b).heap[w.heap.size + 1]? = some b := by
 refine ⟨(Below.heap_alloc _ _ _ (by simp)).trans (heap_alloc_new w _), ?_⟩; have := heap_alloc_new (w.alloc a) b
 simpa using this
set_option maxHeartbeats 2000000 in
theorem eqIns_any (x : Iv) (op r a kd cn : Int) (q1 q2 : Option Addr) (m qc1 qc2 : Nat) (s1 s2 : Option Addr) (n sc1 sc2 : Nat) (u1 u2 : Option Addr) (l uc1 uc2 : Nat) (w : World) (hm : m = x.c.2.2.length) (hn : n = x.K.length) (hl : l = x.L.length) (hsz : szI x ≤ 100000000) (h1 : BIn w q1 x.c.2.2) (h2 : BIn w q2 x.c.2.2) (h3 : CIn w s1 x.K) (h4 : CIn w s2 x.K) (h5 : IIn w u1 x.L) (h6 : IIn w u2 x.L) :
  Calls Tryz.prog 28 #[.agg #[.int .i64 op, .int .i64 r, .int .i64 a, .int .i64 kd, .int .i64 cn, .slice q1 m qc1, .slice s1 n sc1, .slice u1 l uc1], .agg #[.int .i64 op, .int .i64 r, .int .i64 a, .int .i64 kd, .int .i64 cn, .slice q2 m qc2, .slice s2 n sc2, .slice u2 l uc2]] w fun e w' => e = .returned (.bool true) ∧ Below w.heap.size w w' := by
 have H0 : Hid (∀ W, Below w.heap.size w W → Calls Tryz.prog 29 #[.agg #[.int .i64 kd, .int .i64 cn, .slice q1 m qc1], .agg #[.int .i64 kd, .int .i64 cn, .slice q2 m qc2]] W fun e w' => e = .returned (.bool true) ∧ Below W.heap.size W w') := fun W hW => by
  unfold szI at hsz
  refine (eqCell_any kd cn kd cn q1 q2 m m qc1 qc2 x.c.2.2 x.c.2.2 W hm hm (by omega) (by omega) (h1.below hW) (h2.below hW)).mono ?_; rintro e w5 ⟨rfl, h⟩; exact ⟨by simp, h⟩
 have H1 : Hid (∀ W, Below w.heap.size w W → Calls Tryz.prog 9 #[.slice s1 n sc1, .slice s2 n sc2] W fun e w' => e = .returned (.bool true) ∧ Below W.heap.size W w') := fun W hW => by
  unfold szI at hsz
  rw [hn]; refine (eqCellS_any s1 s2 sc1 sc2 x.K x.K W (by omega) (by omega) (h3.below hW) (h4.below hW)).mono ?_; rintro e w5 ⟨rfl, h⟩; exact ⟨by simp, h⟩
 have H2 : Hid (∀ W, Below w.heap.size w W → Calls Tryz.prog 113 #[.slice u1 l uc1, .slice u2 l uc2] W fun e w' => e = .returned (.bool true) ∧ Below W.heap.size W w') := fun W hW => by
  unfold szI at hsz
  refine (eqIntL_any u1 u2 l l uc1 uc2 x.L W hl hl (by omega) (h5.below hW) (h6.below hW)).mono ?_; rintro e w5 ⟨rfl, n5, rfl⟩; exact ⟨rfl, below_drewN (Below.refl _ _) _⟩
 have HB : Hid (∀ a b, Below w.heap.size w ((w.alloc a).alloc b)) := fun a b => ((Below.refl _ _).alloc (Nat.le_refl _) _).alloc (by simp) _
 clear hm hn hl hsz h1 h2 h3 h4 h5 h6
 go_enter Tryz.func28, Tryz.ntmps28
 go_wp2_with fail; refine (H0.out _ (HB.out _ _)).mono ?_; rintro e w1 ⟨rfl, hb1⟩; have HB1 : Hid (Below w.heap.size w w1) := Below.on (HB.out _ _) hb1
 have HX : Hid (BoxL w1 w.heap.size [.int .i64 op, .int .i64 r, .int .i64 a, .int .i64 kd, .int .i64 cn, .slice q1 m qc1, .slice s1 n sc1, .slice u1 l uc1] ∧ BoxL w1 (w.heap.size + 1) [.int .i64 op, .int .i64 r, .int .i64 a, .int .i64 kd, .int .i64 cn, .slice q2 m qc2, .slice s2 n sc2, .slice u2 l uc2]) := ⟨BoxL.of_block ((hb1.block w.heap.size (by simp; omega)).trans (heap_twoL w _ _).1), BoxL.of_block ((hb1.block (w.heap.size + 1) (by simp)).trans (heap_twoL w _ _).2)⟩
 clear hb1; have x0 : w1.cell? ⟨w.heap.size, 0, none⟩ = some (.int .i64 op) := HX.out.1.2.1 0 (by simp); have y0 : w1.cell? ⟨w.heap.size + 1, 0, none⟩ = some (.int .i64 op) := HX.out.2.2.1 0 (by simp); have x1 : w1.cell? ⟨w.heap.size, 1, none⟩ = some (.int .i64 r) := HX.out.1.2.1 1 (by simp); have y1 : w1.cell? ⟨w.heap.size + 1, 1, none⟩ = some (.int .i64 r) := HX.out.2.2.1 1 (by simp); have x2 : w1.cell? ⟨w.heap.size, 2, none⟩ = some (.int .i64 a) := HX.out.1.2.1 2 (by simp); have y2 : w1.cell? ⟨w.heap.size + 1, 2, none⟩ = some (.int .i64 a) := HX.out.2.2.1 2 (by simp); have x3 : w1.cell? ⟨w.heap.size, 3, none⟩ = some (.int .i64 kd) := HX.out.1.2.1 3 (by simp); have y3 : w1.cell? ⟨w.heap.size + 1, 3, none⟩ = some (.int .i64 kd) := HX.out.2.2.1 3 (by simp); have x4 : w1.cell? ⟨w.heap.size, 4, none⟩ = some (.int .i64 cn) := HX.out.1.2.1 4 (by simp); have y4 : w1.cell? ⟨w.heap.size + 1, 4, none⟩ = some (.int .i64 cn) := HX.out.2.2.1 4 (by simp)
 have x5 : w1.cell? ⟨w.heap.size, 5, none⟩ = some (.slice q1 m qc1) := HX.out.1.2.1 5 (by simp); have y5 : w1.cell? ⟨w.heap.size + 1, 5, none⟩ = some (.slice q2 m qc2) := HX.out.2.2.1 5 (by simp); have x6 : w1.cell? ⟨w.heap.size, 6, none⟩ = some (.slice s1 n sc1) := HX.out.1.2.1 6 (by simp); have y6 : w1.cell? ⟨w.heap.size + 1, 6, none⟩ = some (.slice s2 n sc2) := HX.out.2.2.1 6 (by simp); have x7 : w1.cell? ⟨w.heap.size, 7, none⟩ = some (.slice u1 l uc1) := HX.out.1.2.1 7 (by simp); have y7 : w1.cell? ⟨w.heap.size + 1, 7, none⟩ = some (.slice u2 l uc2) := HX.out.2.2.1 7 (by simp); go_wp2_with fail; refine (H1.out _ HB1.out).mono ?_; rintro e w2 ⟨rfl, hb⟩; have HB2 : Hid (Below w.heap.size w w2) := Below.on HB1.out hb
 have HX2 : Hid (BoxL w2 w.heap.size [.int .i64 op, .int .i64 r, .int .i64 a, .int .i64 kd, .int .i64 cn, .slice q1 m qc1, .slice s1 n sc1, .slice u1 l uc1] ∧ BoxL w2 (w.heap.size + 1) [.int .i64 op, .int .i64 r, .int .i64 a, .int .i64 kd, .int .i64 cn, .slice q2 m qc2, .slice s2 n sc2, .slice u2 l uc2]) := ⟨HX.out.1.below hb, HX.out.2.below hb⟩
 clear hb x0 y0 x1 y1 x2 y2 x3 y3 x4 y4 x5 y5 x6 y6 x7 y7; have x0 : w2.cell? ⟨w.heap.size, 0, none⟩ = some (.int .i64 op) := HX2.out.1.2.1 0 (by simp); have y0 : w2.cell? ⟨w.heap.size + 1, 0, none⟩ = some (.int .i64 op) := HX2.out.2.2.1 0 (by simp); have x1 : w2.cell? ⟨w.heap.size, 1, none⟩ = some (.int .i64 r) := HX2.out.1.2.1 1 (by simp); have y1 : w2.cell? ⟨w.heap.size + 1, 1, none⟩ = some (.int .i64 r) := HX2.out.2.2.1 1 (by simp); have x2 : w2.cell? ⟨w.heap.size, 2, none⟩ = some (.int .i64 a) := HX2.out.1.2.1 2 (by simp); have y2 : w2.cell? ⟨w.heap.size + 1, 2, none⟩ = some (.int .i64 a) := HX2.out.2.2.1 2 (by simp); have x3 : w2.cell? ⟨w.heap.size, 3, none⟩ = some (.int .i64 kd) := HX2.out.1.2.1 3 (by simp); have y3 : w2.cell? ⟨w.heap.size + 1, 3, none⟩ = some (.int .i64 kd) := HX2.out.2.2.1 3 (by simp); have x4 : w2.cell? ⟨w.heap.size, 4, none⟩ = some (.int .i64 cn) := HX2.out.1.2.1 4 (by simp)
 have y4 : w2.cell? ⟨w.heap.size + 1, 4, none⟩ = some (.int .i64 cn) := HX2.out.2.2.1 4 (by simp); have x5 : w2.cell? ⟨w.heap.size, 5, none⟩ = some (.slice q1 m qc1) := HX2.out.1.2.1 5 (by simp); have y5 : w2.cell? ⟨w.heap.size + 1, 5, none⟩ = some (.slice q2 m qc2) := HX2.out.2.2.1 5 (by simp); have x6 : w2.cell? ⟨w.heap.size, 6, none⟩ = some (.slice s1 n sc1) := HX2.out.1.2.1 6 (by simp); have y6 : w2.cell? ⟨w.heap.size + 1, 6, none⟩ = some (.slice s2 n sc2) := HX2.out.2.2.1 6 (by simp); have x7 : w2.cell? ⟨w.heap.size, 7, none⟩ = some (.slice u1 l uc1) := HX2.out.1.2.1 7 (by simp); have y7 : w2.cell? ⟨w.heap.size + 1, 7, none⟩ = some (.slice u2 l uc2) := HX2.out.2.2.1 7 (by simp); go_wp2_with fail; refine (H2.out _ HB2.out).mono ?_; rintro e w3 ⟨rfl, hb⟩; have HB3 : Hid (Below w.heap.size w w3) := Below.on HB2.out hb
 have HX3 : Hid (BoxL w3 w.heap.size [.int .i64 op, .int .i64 r, .int .i64 a, .int .i64 kd, .int .i64 cn, .slice q1 m qc1, .slice s1 n sc1, .slice u1 l uc1] ∧ BoxL w3 (w.heap.size + 1) [.int .i64 op, .int .i64 r, .int .i64 a, .int .i64 kd, .int .i64 cn, .slice q2 m qc2, .slice s2 n sc2, .slice u2 l uc2]) := ⟨HX2.out.1.below hb, HX2.out.2.below hb⟩
 clear hb x0 y0 x1 y1 x2 y2 x3 y3 x4 y4 x5 y5 x6 y6 x7 y7; have x0 : w3.cell? ⟨w.heap.size, 0, none⟩ = some (.int .i64 op) := HX3.out.1.2.1 0 (by simp); have y0 : w3.cell? ⟨w.heap.size + 1, 0, none⟩ = some (.int .i64 op) := HX3.out.2.2.1 0 (by simp); have x1 : w3.cell? ⟨w.heap.size, 1, none⟩ = some (.int .i64 r) := HX3.out.1.2.1 1 (by simp); have y1 : w3.cell? ⟨w.heap.size + 1, 1, none⟩ = some (.int .i64 r) := HX3.out.2.2.1 1 (by simp); have x2 : w3.cell? ⟨w.heap.size, 2, none⟩ = some (.int .i64 a) := HX3.out.1.2.1 2 (by simp); have y2 : w3.cell? ⟨w.heap.size + 1, 2, none⟩ = some (.int .i64 a) := HX3.out.2.2.1 2 (by simp); have x3 : w3.cell? ⟨w.heap.size, 3, none⟩ = some (.int .i64 kd) := HX3.out.1.2.1 3 (by simp); have y3 : w3.cell? ⟨w.heap.size + 1, 3, none⟩ = some (.int .i64 kd) := HX3.out.2.2.1 3 (by simp); have x4 : w3.cell? ⟨w.heap.size, 4, none⟩ = some (.int .i64 cn) := HX3.out.1.2.1 4 (by simp)
 have y4 : w3.cell? ⟨w.heap.size + 1, 4, none⟩ = some (.int .i64 cn) := HX3.out.2.2.1 4 (by simp); have x5 : w3.cell? ⟨w.heap.size, 5, none⟩ = some (.slice q1 m qc1) := HX3.out.1.2.1 5 (by simp); have y5 : w3.cell? ⟨w.heap.size + 1, 5, none⟩ = some (.slice q2 m qc2) := HX3.out.2.2.1 5 (by simp); have x6 : w3.cell? ⟨w.heap.size, 6, none⟩ = some (.slice s1 n sc1) := HX3.out.1.2.1 6 (by simp); have y6 : w3.cell? ⟨w.heap.size + 1, 6, none⟩ = some (.slice s2 n sc2) := HX3.out.2.2.1 6 (by simp); have x7 : w3.cell? ⟨w.heap.size, 7, none⟩ = some (.slice u1 l uc1) := HX3.out.1.2.1 7 (by simp); have y7 : w3.cell? ⟨w.heap.size + 1, 7, none⟩ = some (.slice u2 l uc2) := HX3.out.2.2.1 7 (by simp); go_wp2_with fail; go_ret; exact ⟨rfl, HB3.out⟩
set_option maxHeartbeats 2000000 in
theorem eqInsS_any (p q : Option Addr) (N c1 c2 : Nat) (xs : List Iv) (w : World) (hn : N = xs.length) (hl : xs.length + szIs xs ≤ 100000000) (hx : IvIn w p xs) (hy : IvIn w q xs) :
  Calls Tryz.prog 8 #[.slice p N c1, .slice q N c2] w fun e w' => e = .returned (.bool true) ∧ Below w.heap.size w w' := by
 have HX : Hid (IvIn w p xs ∧ IvIn w q xs) := ⟨hx, hy⟩
 have HN : Hid (N = xs.length ∧ xs.length + szIs xs ≤ 100000000) := ⟨hn, hl⟩
 have hnb : N ≤ 100000000 := by omega
 clear hx hy hn hl
 go_enter Tryz.func8, Tryz.ntmps8
 go_wp2_with fail
 go_loopw [5] (fun i wr => ∃ (k : Nat), k ≤ N ∧ i = .int .i64 k ∧ Hid (Below w.heap.size w wr)) (fun i _ => N - (intOf i).toNat)
 case atStart => exact ⟨0, Nat.zero_le _, rfl, Below.refl _ _⟩
 case round =>
  obtain ⟨k, hk, rfl, HB⟩ := hrel
  by_cases hlt : k < N
  ·have hkl : k < xs.length := by rw [← HN.out.1]; exact hlt
   obtain ⟨b, o, rfl, hcx⟩ := (HX.out.1.below HB.out) (by omega)
   obtain ⟨b', o', rfl, hcy⟩ := (HX.out.2.below HB.out) (by omega)
   obtain ⟨q1, qc1, s1, sc1, u1, uc1, d100, d101, d102, d103⟩ := hcx k hkl; obtain ⟨q2, qc2, s2, sc2, u2, uc2, f100, f101, f102, f103⟩ := hcy k hkl; have hbd := szIs_at xs k hkl; have hbd2 := HN.out.2
   unfold szI at hbd
   have d0 : wr.cell? ⟨b, o + k * 8, none⟩ = some (.int .i64 (xs.getD k Iv.zero).op) := d100 0 (by omega); have f0 : wr.cell? ⟨b', o' + k * 8, none⟩ = some (.int .i64 (xs.getD k Iv.zero).op) := f100 0 (by omega); have d1 : wr.cell? ⟨b, o + k * 8 + 1, none⟩ = some (.int .i64 (xs.getD k Iv.zero).r) := d100 1 (by omega); have f1 : wr.cell? ⟨b', o' + k * 8 + 1, none⟩ = some (.int .i64 (xs.getD k Iv.zero).r) := f100 1 (by omega); have d2 : wr.cell? ⟨b, o + k * 8 + 2, none⟩ = some (.int .i64 (xs.getD k Iv.zero).a) := d100 2 (by omega); have f2 : wr.cell? ⟨b', o' + k * 8 + 2, none⟩ = some (.int .i64 (xs.getD k Iv.zero).a) := f100 2 (by omega); have d3 : wr.cell? ⟨b, o + k * 8 + 3, none⟩ = some (.int .i64 (xs.getD k Iv.zero).c.1) := d100 3 (by omega); have f3 : wr.cell? ⟨b', o' + k * 8 + 3, none⟩ = some (.int .i64 (xs.getD k Iv.zero).c.1) := f100 3 (by omega); have d4 : wr.cell? ⟨b, o + k * 8 + 4, none⟩ = some (.int .i64 (xs.getD k Iv.zero).c.2.1) := d100 4 (by omega)
   have f4 : wr.cell? ⟨b', o' + k * 8 + 4, none⟩ = some (.int .i64 (xs.getD k Iv.zero).c.2.1) := f100 4 (by omega); have d5 : wr.cell? ⟨b, o + k * 8 + 5, none⟩ = some (.slice q1 (xs.getD k Iv.zero).c.2.2.length qc1) := d100 5 (by omega); have f5 : wr.cell? ⟨b', o' + k * 8 + 5, none⟩ = some (.slice q2 (xs.getD k Iv.zero).c.2.2.length qc2) := f100 5 (by omega); have d6 : wr.cell? ⟨b, o + k * 8 + 6, none⟩ = some (.slice s1 (xs.getD k Iv.zero).K.length sc1) := d100 6 (by omega); have f6 : wr.cell? ⟨b', o' + k * 8 + 6, none⟩ = some (.slice s2 (xs.getD k Iv.zero).K.length sc2) := f100 6 (by omega); have d7 : wr.cell? ⟨b, o + k * 8 + 7, none⟩ = some (.slice u1 (xs.getD k Iv.zero).L.length uc1) := d100 7 (by omega); have f7 : wr.cell? ⟨b', o' + k * 8 + 7, none⟩ = some (.slice u2 (xs.getD k Iv.zero).L.length uc2) := f100 7 (by omega)
   obtain ⟨op, Eop⟩ : ∃ y, y = (xs.getD k Iv.zero).op := ⟨_, rfl⟩
   obtain ⟨r, Er⟩ : ∃ y, y = (xs.getD k Iv.zero).r := ⟨_, rfl⟩
   obtain ⟨a, Ea⟩ : ∃ y, y = (xs.getD k Iv.zero).a := ⟨_, rfl⟩
   obtain ⟨kd, Ekd⟩ : ∃ y, y = (xs.getD k Iv.zero).c.1 := ⟨_, rfl⟩
   obtain ⟨cn, Ecn⟩ : ∃ y, y = (xs.getD k Iv.zero).c.2.1 := ⟨_, rfl⟩
   obtain ⟨m, Em⟩ : ∃ y, y = (xs.getD k Iv.zero).c.2.2.length := ⟨_, rfl⟩
   obtain ⟨n, En⟩ : ∃ y, y = (xs.getD k Iv.zero).K.length := ⟨_, rfl⟩
   obtain ⟨l, El⟩ : ∃ y, y = (xs.getD k Iv.zero).L.length := ⟨_, rfl⟩
   have HS : Hid (∀ W, Below wr.heap.size wr W → Calls Tryz.prog 28 #[.agg #[.int .i64 op, .int .i64 r, .int .i64 a, .int .i64 kd, .int .i64 cn, .slice q1 m qc1, .slice s1 n sc1, .slice u1 l uc1], .agg #[.int .i64 op, .int .i64 r, .int .i64 a, .int .i64 kd, .int .i64 cn, .slice q2 m qc2, .slice s2 n sc2, .slice u2 l uc2]] W fun e w' => e = .returned (.bool true) ∧ Below W.heap.size W w') := fun W hW => eqIns_any (xs.getD k Iv.zero) op r a kd cn q1 q2 m qc1 qc2 s1 s2 n sc1 sc2 u1 u2 l uc1 uc2 W Em En El (by unfold szI; omega) (d101.below hW) (f101.below hW) (d102.below hW) (f102.below hW) (d103.below hW) (f103.below hW)
   rw [← Eop] at d0 f0; rw [← Er] at d1 f1; rw [← Ea] at d2 f2; rw [← Ekd] at d3 f3; rw [← Ecn] at d4 f4; rw [← Em] at d5 f5; rw [← En] at d6 f6; rw [← El] at d7 f7
   have hk0 : (0 : Int) ≤ (k : Int) := by omega
   have hkn : (k : Int) < (N : Int) := by omega
   clear hcx hcy d100 f100 d101 f101 d102 f102 d103 f103 hbd hbd2 Eop Er Ea Ekd Ecn Em En El; go_wp2_with fail
   go_region_held3 (fun W => W.cell? ⟨b, o + k * 8, none⟩ = some (.int .i64 op) ∧ W.cell? ⟨b, o + k * 8 + 1, none⟩ = some (.int .i64 r) ∧ W.cell? ⟨b, o + k * 8 + 2, none⟩ = some (.int .i64 a) ∧ W.cell? ⟨b, o + k * 8 + 3, none⟩ = some (.int .i64 kd) ∧ W.cell? ⟨b, o + k * 8 + 4, none⟩ = some (.int .i64 cn) ∧ W.cell? ⟨b, o + k * 8 + 5, none⟩ = some (.slice q1 m qc1) ∧ W.cell? ⟨b, o + k * 8 + 6, none⟩ = some (.slice s1 n sc1) ∧ W.cell? ⟨b, o + k * 8 + 7, none⟩ = some (.slice u1 l uc1) ∧ W.cell? ⟨b', o' + k * 8, none⟩ = some (.int .i64 op) ∧ W.cell? ⟨b', o' + k * 8 + 1, none⟩ = some (.int .i64 r) ∧ W.cell? ⟨b', o' + k * 8 + 2, none⟩ = some (.int .i64 a) ∧ W.cell? ⟨b', o' + k * 8 + 3, none⟩ = some (.int .i64 kd) ∧ W.cell? ⟨b', o' + k * 8 + 4, none⟩ = some (.int .i64 cn) ∧ W.cell? ⟨b', o' + k * 8 + 5, none⟩ = some (.slice q2 m qc2) ∧ W.cell? ⟨b', o' + k * 8 + 6, none⟩ = some (.slice s2 n sc2) ∧ W.cell? ⟨b', o' + k * 8 + 7, none⟩ = some (.slice u2 l uc2)) (first | exact kc | go_keep)
    ((go_at_call 28; refine (HS.out _ (Below.refl wr.heap.size wr).drew).mono ?_; rintro e w3 ⟨rfl, hb3⟩; have hb4 : Below wr.heap.size wr w3 := ((Below.refl wr.heap.size wr).drew).trans hb3; have kc : w3.cell? ⟨b, o + k * 8, none⟩ = some (.int .i64 op) ∧ w3.cell? ⟨b, o + k * 8 + 1, none⟩ = some (.int .i64 r) ∧ w3.cell? ⟨b, o + k * 8 + 2, none⟩ = some (.int .i64 a) ∧ w3.cell? ⟨b, o + k * 8 + 3, none⟩ = some (.int .i64 kd) ∧ w3.cell? ⟨b, o + k * 8 + 4, none⟩ = some (.int .i64 cn) ∧ w3.cell? ⟨b, o + k * 8 + 5, none⟩ = some (.slice q1 m qc1) ∧ w3.cell? ⟨b, o + k * 8 + 6, none⟩ = some (.slice s1 n sc1) ∧ w3.cell? ⟨b, o + k * 8 + 7, none⟩ = some (.slice u1 l uc1) ∧ w3.cell? ⟨b', o' + k * 8, none⟩ = some (.int .i64 op) ∧ w3.cell? ⟨b', o' + k * 8 + 1, none⟩ = some (.int .i64 r) ∧ w3.cell? ⟨b', o' + k * 8 + 2, none⟩ = some (.int .i64 a) ∧ w3.cell? ⟨b', o' + k * 8 + 3, none⟩ = some (.int .i64 kd) ∧ w3.cell? ⟨b', o' + k * 8 + 4, none⟩ = some (.int .i64 cn) ∧ w3.cell? ⟨b', o' + k * 8 + 5, none⟩ = some (.slice q2 m qc2) ∧ w3.cell? ⟨b', o' + k * 8 + 6, none⟩ = some (.slice s2 n sc2) ∧ w3.cell? ⟨b', o' + k * 8 + 7, none⟩ = some (.slice u2 l uc2) := ⟨(hb4.cell (World.block_lt_of_cell? _ _ d0)).trans d0, (hb4.cell (World.block_lt_of_cell? _ _ d1)).trans d1, (hb4.cell (World.block_lt_of_cell? _ _ d2)).trans d2, (hb4.cell (World.block_lt_of_cell? _ _ d3)).trans d3, (hb4.cell (World.block_lt_of_cell? _ _ d4)).trans d4, (hb4.cell (World.block_lt_of_cell? _ _ d5)).trans d5, (hb4.cell (World.block_lt_of_cell? _ _ d6)).trans d6, (hb4.cell (World.block_lt_of_cell? _ _ d7)).trans d7, (hb4.cell (World.block_lt_of_cell? _ _ f0)).trans f0, (hb4.cell (World.block_lt_of_cell? _ _ f1)).trans f1, (hb4.cell (World.block_lt_of_cell? _ _ f2)).trans f2, (hb4.cell (World.block_lt_of_cell? _ _ f3)).trans f3, (hb4.cell (World.block_lt_of_cell? _ _ f4)).trans f4, (hb4.cell (World.block_lt_of_cell? _ _ f5)).trans f5, (hb4.cell (World.block_lt_of_cell? _ _ f6)).trans f6, (hb4.cell (World.block_lt_of_cell? _ _ f7)).trans f7⟩))
   have HB3 : Hid (Below w.heap.size w w3) := Below.on HB.out hb4; clear hb3 hb4 kc; go_wp2_with fail; go_roundw
   case rel => exact ⟨k + 1, by omega, by go_num, HB3⟩
   case measure => simp [intOf]; omega
  ·obtain rfl : k = N := by omega
   go_wp2_with fail; go_ret; exact ⟨rfl, HB.out⟩
end
section
open Go Go.RowKit Go.Maps
set_option maxHeartbeats 1000000 in
theorem classes_any (hc : Cel) (hk : Fo) (ht : TypeId) (hx : Value) (gs : List Tr) (vs : List Value) (p : Option Addr) (n cp B0 : Nat) (w : World) (hok : (Fo.node hc hk .nil).ok) (hfo : FoIn w 0 (.node hc hk .nil) [.iface ht hx]) (hgo : (itsF gs).ok) (hgf : FoIn w 0 (itsF gs) vs) (hn : n = gs.length)
  (hrow : w.ownsRow B0 118 2 (.slice p n cp) n (gRow gs vs)) (hov : okV 0 (vsC (hc :: hk.cells) ++ vsG gs)) (hsz : endV 0 (vsC (hc :: hk.cells) ++ vsG gs) ≤ 2001) (hl : hk.cells.length ≤ 2000) (hgl : ∀ g ∈ gs, g.2.cells.length ≤ 2000 ∧ goodG g = true) (hnl : n ≤ 2001) :
  Calls Tryz.prog 170 #[.agg #[.iface ht hx, .slice p n cp]] w fun e w' => ∃ q m c2, e = .returned (.slice q m c2) ∧ OwnI w' w.heap.size 3 q m c2 (goalsP 0 (meetsP 0 ([], []) (vsC (hc :: hk.cells))) gs).1 ∧ Below w.heap.size w w' := by
 rw [okV_append] at hov; rw [endV_append] at hsz; have hA : Below w.heap.size w (w.alloc (.cells #[.iface ht hx, .slice p n cp] 59)) := (Below.refl _ _).alloc (Nat.le_refl _) _
 have es : (w.alloc (.cells #[.iface ht hx, .slice p n cp] 59)).heap.size = w.heap.size + 1 := by simp
 have hlen : (meetsP 0 ([], []) (vsC (hc :: hk.cells))).1.length = endV 0 (vsC (hc :: hk.cells)) := meets_len 0 _ ([], []) hov.1
 -- the walk of the head
 have HWK : Hid (∀ W b3 b4 b5 K ob, MSx W (w.heap.size + 1) b3 b4 b5 K ob 0 ([], []) → Below (w.heap.size + 1) (w.alloc (.cells #[.iface ht hx, .slice p n cp] 59)) W →
   Calls Tryz.prog 192 #[.iface ht hx, .func (.func 219) #[] #[.pointer (some ⟨b3, 0, none⟩), .pointer (some ⟨b4, 0, none⟩), .pointer (some ⟨b5, 0, none⟩)]] W (WalkC W (w.heap.size + 1) b3 b4 b5 K ob 0 (meetsP 0 ([], []) (vsC (hc :: hk.cells))))) := fun W b3 b4 b5 K ob hm hb =>
  walkC_any hk.cells.length hc hk _ 0 (w.heap.size + 1) b3 b4 b5 K ob 0 ([], []) w W (Nat.le_refl _) hok hfo (hA.trans (hb.mono (Nat.le_succ _))) (Nat.le_succ _) (by have := hb.size; omega) hm (by simp; omega) hov.1
 -- the walk of a goal
 have HWG : Hid (∀ j (h : j < gs.length) t x W b3 b4 b5 K ob q P, vs[j]? = some (.iface t x) → MSx W (w.heap.size + 1) b3 b4 b5 K ob q P → Below (w.heap.size + 1) (w.alloc (.cells #[.iface ht hx, .slice p n cp] 59)) W → okV P.1.length (vsG (gs.drop j)) → endV P.1.length (vsG (gs.drop j)) ≤ 2001 →
   Calls Tryz.prog 192 #[.iface t x, .func (.func 219) #[] #[.pointer (some ⟨b3, 0, none⟩), .pointer (some ⟨b4, 0, none⟩), .pointer (some ⟨b5, 0, none⟩)]] W (WalkC W (w.heap.size + 1) b3 b4 b5 K ob q (meetsP q P (vsC (gs[j].1 :: gs[j].2.cells))))) := fun j h t x W b3 b4 b5 K ob q P hat hm hb ho he => by
  obtain ⟨t1, x1, hat1, hnode⟩ := FoIn.atC gs vs hgf j h; rw [hat] at hat1
  injection hat1 with hat1
  injection hat1 with e1 e2
  subst e1 e2; rw [vsG_drop h, okV_append] at ho; have h2 := endV_le (vsG (gs.drop j)) P.1.length; have h3 := (hgl gs[j] (List.getElem_mem h)).1; exact walkC_any _ gs[j].1 gs[j].2 _ 0 (w.heap.size + 1) b3 b4 b5 K ob q P w W (Nat.le_refl _) (itsF_ok_at gs hgo j h) hnode (hA.trans (hb.mono (Nat.le_succ _))) (Nat.le_succ _) (by have := hb.size; omega) hm (by omega) ho.1
 have HSTEP : Hid (∀ j (h : j < gs.length) q P, okV P.1.length (vsG (gs.drop j)) → endV P.1.length (vsG (gs.drop j)) ≤ 2001 → okV (meetsP q P (vsC (gs[j].1 :: gs[j].2.cells))).1.length (vsG (gs.drop (j + 1))) ∧ endV (meetsP q P (vsC (gs[j].1 :: gs[j].2.cells))).1.length (vsG (gs.drop (j + 1))) ≤ 2001) := fun j h q P ho he => by
  rw [vsG_drop h, okV_append] at ho; rw [vsG_drop h, endV_append] at he; rw [meets_len q _ P ho.1]; exact ⟨ho.2, he⟩
 have HAT : Hid (∀ j (h : j < gs.length), ∃ t x, vs[j]? = some (.iface t x) ∧ (gRow gs vs)[j * 2]? = some (.iface t x) ∧ (gRow gs vs)[j * 2 + 1]? = some (.int .i64 (giO gs[j].1)) ∧ (giO gs[j].1 == 19) = !inlG gs[j]) := fun j h => by
  obtain ⟨t1, x1, hat1, hnode⟩ := FoIn.atC gs vs hgf j h; have h2 := gRow_at gs vs (FoIn.lenC hgf) j h _ hat1; exact ⟨t1, x1, hat1, h2.1, h2.2, giO_call (itsF_ok_at gs hgo j h) (hgl gs[j] (List.getElem_mem h)).2⟩
 have HROW : Hid (∀ W, Below (w.heap.size + 1) (w.alloc (.cells #[.iface ht hx, .slice p n cp] 59)) W → W.ownsRow B0 118 2 (.slice p n cp) n (gRow gs vs)) := fun W hW => row_below hrow (hA.trans (hW.mono (Nat.le_succ _)))
 have HBOX : Hid (∀ W, Below (w.heap.size + 1) (w.alloc (.cells #[.iface ht hx, .slice p n cp] 59)) W → W.cell? ⟨w.heap.size, 0, none⟩ = some (.iface ht hx) ∧ W.cell? ⟨w.heap.size, 1, none⟩ = some (.slice p n cp)) := fun W hW => by
  have h0 := (hW.block w.heap.size (by omega)).trans (heap_alloc_new w _); exact ⟨cell_of_row _ _ 0 _ _ _ h0, cell_of_row _ _ 1 _ _ _ h0⟩
 have HN : Hid (n = gs.length) := hn
 have HOV : Hid (okV (meetsP 0 ([], []) (vsC (hc :: hk.cells))).1.length (vsG (gs.drop 0)) ∧ endV (meetsP 0 ([], []) (vsC (hc :: hk.cells))).1.length (vsG (gs.drop 0)) ≤ 2001) := by
  show _ ∧ _
  rw [hlen]; exact ⟨hov.2, hsz⟩
 have HA : Hid _ := hA; have HMN : Hid _ := ms_new w (.cells #[.iface ht hx, .slice p n cp] 59); have HBL : Hid (Below (w.heap.size + 1) (w.alloc (.cells #[.iface ht hx, .slice p n cp] 59)) ((((w.alloc (.cells #[.iface ht hx, .slice p n cp] 59)).alloc (.cells #[.slice none 0 0] 42)).alloc (.cells #[.slice none 0 0] 42)).alloc (.cells #[.int .i64 0] 3))) := (((Below.refl _ _).alloc (by simp) _).alloc (by simp <;> omega) _).alloc (by simp <;> omega) _
 obtain ⟨P0, eP0⟩ : ∃ P0, P0 = meetsP 0 ([], []) (vsC (hc :: hk.cells)) := ⟨_, rfl⟩
 have HFIN : Hid (∀ W K ob q P, MSx W (w.heap.size + 1) (w.heap.size + 1) (w.heap.size + 1 + 1) (w.heap.size + 1 + 1 + 1) K ob q P → Below (w.heap.size + 1) (w.alloc (.cells #[.iface ht hx, .slice p n cp] 59)) W → goalsP 0 P0 gs = P → ∃ p2 n2 c2, W.cell? ⟨w.heap.size + 1, 0, none⟩ = some (.slice p2 n2 c2) ∧ OwnI W w.heap.size 3 p2 n2 c2 (goalsP 0 P0 gs).1 ∧ Below w.heap.size w W) := fun W K ob q P hm hb hg => by
  obtain ⟨p2, p2', n2, c2, c2', hm, _⟩ := hm; exact ⟨p2, n2, c2, hm.c3, ⟨by rw [hg]; exact hm.l1, by rw [hg]; exact row_mono hm.r1 (Nat.le_succ _)⟩, hA.trans (hb.mono (Nat.le_succ _))⟩
 rw [← eP0] at HWK HOV ⊢; clear hok hfo hgo hgf hn hrow hov hsz hl hgl hA hlen es eP0
 go_enter Tryz.func170, Tryz.ntmps170
 go_wp2_with fail; refine (HWK.out _ _ _ _ _ _ HMN.out HBL.out).mono ?_; rintro e w1 ⟨rfl, hm1, hb1⟩
 have HM1 : Hid (∃ K ob, MSx w1 (w.heap.size + 1) (w.heap.size + 1) (w.heap.size + 1 + 1) (w.heap.size + 1 + 1 + 1) K ob 0 P0) := ⟨_, _, hm1⟩
 have HB1 : Hid (Below (w.heap.size + 1) (w.alloc (.cells #[.iface ht hx, .slice p n cp] 59)) w1) := HBL.out.trans hb1; obtain ⟨k0, k1⟩ := HBOX.out w1 HB1.out; clear hm1 hb1 HWK HMN HBL k0; go_wp2_with fail
 go_loopw [17] (fun i wr => ∃ (j : Nat) (q : Int) (P : List Int × List Int), j ≤ n ∧ i = .int .i64 j ∧ 0 ≤ q ∧ q ≤ j ∧ Hid (∃ K ob, MSx wr (w.heap.size + 1) (w.heap.size + 1) (w.heap.size + 1 + 1) (w.heap.size + 1 + 1 + 1) K ob q P) ∧ Hid (Below (w.heap.size + 1) (w.alloc (.cells #[.iface ht hx, .slice p n cp] 59)) wr) ∧ Hid (okV P.1.length (vsG (gs.drop j)) ∧ endV P.1.length (vsG (gs.drop j)) ≤ 2001) ∧ Hid (goalsP 0 P0 gs = goalsP q P (gs.drop j))) (fun i _ => n - (intOf i).toNat)
 case atStart => exact ⟨0, 0, P0, Nat.zero_le _, rfl, Int.le_refl _, Int.le_refl _, HM1, HB1, HOV, rfl⟩
 case round =>
  obtain ⟨j, q, P, hj, rfl, hq0, hq1, HM, HB, HO, HG⟩ := hrel
  by_cases hlt : j < n
  ·have hjg : j < gs.length := by rw [← HN.out]; exact hlt
   obtain ⟨t, x, hat, r0, r1, hcl⟩ := HAT.out j hjg; have HR := HROW.out wr HB.out; obtain ⟨g1, cap1, hv1, hbg1, hgl1⟩ := World.ownsRow.form HR (by omega)
   obtain ⟨ep, ecp⟩ : p = some ⟨g1, 0, none⟩ ∧ cp = cap1 := by injection hv1 with h1 _ h2; exact ⟨h1, h2⟩
   subst ep ecp; have d0 := (HR.cellAt (j * 2) (by omega)).trans r0; have d1 := (HR.cellAt (j * 2 + 1) (by omega)).trans r1
   obtain ⟨op, eop⟩ : ∃ op, op = giO gs[j].1 := ⟨_, rfl⟩
   rw [← eop] at d1 hcl
   have hsB : w.heap.size + 1 ≤ wr.heap.size := by have := HB.out.size; simp at this; omega
   have HB2 : Hid (Below (w.heap.size + 1) (w.alloc (.cells #[.iface ht hx, .slice (some ⟨g1, 0, none⟩) n cp] 59)) (wr.alloc (.cells #[.iface t x, .int .i64 op] 118))) := HB.out.alloc hsB _; obtain ⟨K, ob, hm⟩ := HM.out; have HWJ := HWG.out j hjg t x _ _ _ _ _ _ q P hat (hm.fresh (.cells #[.iface t x, .int .i64 op] 118)) HB2.out HO.out.1 HO.out.2; have HNX : Hid _ := HSTEP.out j hjg q P HO.out.1 HO.out.2
   have HGX : Hid (goalsP 0 P0 gs = goalsP (if inlG gs[j] then q else q + 1) (meetsP q P (vsC (gs[j].1 :: gs[j].2.cells))) (gs.drop (j + 1))) := by show _ = _; rw [HG.out, goalsP_drop hjg]
   obtain ⟨P2, eP2⟩ : ∃ P2, P2 = meetsP q P (vsC (gs[j].1 :: gs[j].2.cells)) := ⟨_, rfl⟩
   rw [← eP2] at HWJ HNX HGX
   obtain ⟨il, eil⟩ : ∃ il, il = inlG gs[j] := ⟨_, rfl⟩
   rw [← eil] at HGX hcl; clear HR hv1 hbg1 hgl1 hm hat r0 r1 eop eP2 eil HM HG HO HWG HSTEP HROW HAT k1; go_wp2_with fail; refine HWJ.mono ?_; rintro e w3 ⟨rfl, hm3, hb3⟩; have HB3 : Hid (Below (w.heap.size + 1) (w.alloc (.cells #[.iface ht hx, .slice (some ⟨g1, 0, none⟩) n cp] 59)) w3) := HB2.out.trans hb3; obtain ⟨_, _, _, _, _, ms3, kp3⟩ := id hm3; have q0 := cell_of_row w3 wr.heap.size 0 _ _ _ kp3.1; have q1 := cell_of_row w3 wr.heap.size 1 _ _ _ kp3.1; have HM3 : Hid (MSx w3 (w.heap.size + 1) (w.heap.size + 1) (w.heap.size + 1 + 1) (w.heap.size + 1 + 1 + 1) wr.heap.size (.cells #[.iface t x, .int .i64 op] 118) q P2) := hm3; clear hm3 hb3 ms3 kp3 HWJ HB2 d0 d1; have HIC := isCall_any t x op w3; go_wp2_with fail; refine HIC.mono ?_; rintro e w4 ⟨rfl, hb4⟩
   have hsB3 : w.heap.size + 1 ≤ w3.heap.size := by have := HB3.out.size; simp at this; omega
   have HM4 : Hid (MSx w4 (w.heap.size + 1) (w.heap.size + 1) (w.heap.size + 1 + 1) (w.heap.size + 1 + 1 + 1) wr.heap.size (.cells #[.iface t x, .int .i64 op] 118) q P2) := HM3.out.below hb4; have HB4 : Hid (Below (w.heap.size + 1) (w.alloc (.cells #[.iface ht hx, .slice (some ⟨g1, 0, none⟩) n cp] 59)) w4) := HB3.out.trans (hb4.mono hsB3); obtain ⟨_, _, _, _, _, ms4, _⟩ := id HM4.out; have c5 := ms4.c5; have f5 := ms4.f5; clear hb4 HIC q0 q1 HM3 HB3 ms4
   cases il with
   | false =>
     have hop : (op == 19) = true := by rw [hcl]; rfl
     go_wp2_with fail; go_roundw
     case rel => exact ⟨j + 1, q + 1, P2, by omega, by go_num, by omega, by omega, ⟨_, _, MSx.chunk HM4.out (q + 1)⟩, HB4.out.setCell (p := ⟨w.heap.size + 1 + 1 + 1, 0, none⟩) (by show w.heap.size + 1 ≤ w.heap.size + 1 + 1 + 1; omega) _, HNX, HGX⟩
     case measure => simp [intOf]; omega
   | true =>
     have hop : (op == 19) = false := by rw [hcl]; rfl
     go_wp2_with fail; go_roundw
     case rel => exact ⟨j + 1, q, P2, by omega, by go_num, by omega, by omega, ⟨_, _, HM4.out⟩, HB4, HNX, HGX⟩
     case measure => simp [intOf]; omega
  ·obtain rfl : j = n := by omega
   have hd : gs.drop j = [] := by rw [HN.out]; exact List.drop_length
   obtain ⟨K, ob, hm⟩ := HM.out; obtain ⟨p2, n2, c2, x3, hO, hb⟩ := HFIN.out wr K ob q P hm HB.out (by rw [HG.out, hd]; rfl)
   have HO2 : Hid (OwnI wr w.heap.size 3 p2 n2 c2 (goalsP 0 P0 gs).1 ∧ Below w.heap.size w wr) := ⟨hO, hb⟩
   clear hm hO hb HM HB HG HO HFIN HROW HAT HWG HSTEP; go_wp2_with fail; go_ret; exact ⟨p2, n2, c2, rfl, HO2.out.1, HO2.out.2⟩
end
section
open Go
def lastB (md : Region.Mode) (ops : Array Oper) (p : Nat) : Bool :=
 decide (ops.size = p + 1) && ((List.range ops.size).all fun i => ((ops[i]?).map (·.after.all fun e => !Region.binds md e || decide (e.on < i))).getD true) && ((List.range p).all fun j => ((ops[p]?).map (·.after.any fun e => Region.binds md e && decide (e.on = j))).getD false)
section
variable {P : Program} {ops : Array Oper} {Q : Exit → Act → World → Prop} {md : Region.Mode} {S : World → Prop}
theorem lastB_parts {p : Nat} (hb : lastB md ops p = true) : ops.size = p + 1 ∧ (∀ i o, ops[i]? = some o → ∀ e ∈ o.after, Region.binds md e = true → e.on < i) ∧ ∀ o, ops[p]? = some o → ∀ j, j < p → ∃ e ∈ o.after, Region.binds md e = true ∧ e.on = j := by
 simp only [lastB, Bool.and_eq_true, decide_eq_true_eq] at hb; obtain ⟨⟨h1, h2⟩, h3⟩ := hb; refine ⟨h1, fun i o ho e he hbd => ?_, fun o ho j hj => ?_⟩
 ·have hi : i < ops.size := (Array.getElem?_eq_some_iff.1 ho).1
  have := List.all_eq_true.1 h2 i (by simpa using hi); rw [ho] at this; simp only [Option.map_some, Option.getD_some, Array.all_eq_true'] at this; have := this e he; rw [hbd] at this
  simpa using this
 ·have := List.all_eq_true.1 h3 j (by simpa using hj)
  rw [ho] at this; simp only [Option.map_some, Option.getD_some, Array.any_eq_true'] at this; obtain ⟨e, he, h⟩ := this; rw [Bool.and_eq_true, decide_eq_true_eq] at h; exact ⟨e, he, h.1, h.2⟩
theorem getD_two {L : Array Bool} {i : Nat} (hi : i < L.size) : L.getD i true = L.getD i false := by simp [hi]
theorem ready_some {p : Nat} (hb : lastB md ops p = true) {L : Array Bool} (hs : L.size = ops.size) : ∀ (k : Nat), k < ops.size → L.getD k true = false → ∃ i, i ∈ Region.ready md ops L := by
 obtain ⟨h1, h2, h3⟩ := lastB_parts hb
 intro k
 induction k using Nat.strongRecOn with
 | ind k ih =>
   intro hk hu
   obtain ⟨o, ho⟩ : ∃ o, ops[k]? = some o := ⟨ops[k], by simp [hk]⟩
   by_cases hall : ∀ e ∈ o.after, Region.binds md e = true → L.getD e.on false = true
   ·exact ⟨k, mem_ready.2 ⟨o, ho, hu, hall⟩⟩
   ·obtain ⟨e, he⟩ := Classical.not_forall.1 hall
    obtain ⟨he1, he2⟩ := Classical.not_imp.1 he; obtain ⟨hbd, hf⟩ := Classical.not_imp.1 he2; have hlt := h2 k o ho e he1 hbd; refine ih e.on hlt (by omega) ?_; rw [getD_two (by omega)]
    simpa using hf
end
end
section
open Go Go.RowKit
theorem Fo.bounds : ∀ F : Fo, F.ok → ∀ x ∈ F.cells, cellB x.1 x.2.1 x.2.2.length = true
 | .nil, _, x, hx => by simp [Fo.cells] at hx
 | .node c k r, h, x, hx => by
   simp only [Fo.cells, List.mem_cons, List.mem_append] at hx
   rcases hx with rfl | hx | hx
   ·exact h.1
   ·exact Fo.bounds k h.2.2.2.2.1 x hx
   ·exact Fo.bounds r h.2.2.2.2.2 x hx
theorem okV_pos : ∀ (vs : List Int) (m : Nat), okV m vs → ∀ v ∈ vs, 0 ≤ v
 | [], _, _, v, hv => by cases hv
 | x :: r, m, h, v, hv => by
   rcases List.mem_cons.1 hv with rfl | hv
   ·exact h.1.1
   ·exact okV_pos r _ h.2 v hv
theorem vsG_mem : ∀ (gs : List Tr) (g : Tr), g ∈ gs → ∀ v ∈ vsC (g.1 :: g.2.cells), v ∈ vsG gs
 | [], g, h, _, _ => by cases h
 | x :: r, g, h, v, hv => by
   show v ∈ vsC (x.1 :: x.2.cells) ++ vsG r
   rcases List.mem_cons.1 h with rfl | h
   ·exact List.mem_append.2 (.inl hv)
   ·exact List.mem_append.2 (.inr (vsG_mem r g h v hv))
theorem vsC_mem {cs : List Cel} {c : Cel} (h : c ∈ cs) (h0 : c.1 = 0) : c.2.1 ∈ vsC cs := List.mem_map.2 ⟨c, List.mem_filter.2 ⟨h, decide_eq_true h0⟩, rfl⟩
theorem vs_parts {t : Tr} (h2 : t.2.count = 2) (hr : t.1 = ruleC) (hb : (kid1 t).1 = trueC → (kid1 t).2.cells = []) : vsC (t.1 :: t.2.cells) = vsC ((kid0 t).1 :: (kid0 t).2.cells) ++ vsG (goalsT (kid1 t)) := by
 rw [two_kidsC h2, hr, vsC_cons, if_neg (by decide), vsC_append]
 congr 1
 unfold goalsT
 by_cases ht : (kid1 t).1 = trueC
 ·rw [if_pos ht, hb ht, ht]; rfl
 ·rw [if_neg ht, vsG_conj _ _ _ (Nat.le_refl _)]
theorem flat_parts {c : Cel} {k : Fo} (hok : (Fo.node c k .nil).ok) (hf : flatB (c, k) = true) : c = ruleC ∧ renCells (c :: k.cells) = c :: k.cells ∧ k.count = 2 ∧ calC (kid0 (c, k)).1 = true ∧ (∀ g ∈ goalsT (kid1 (c, k)), goodG g = true) ∧ (Fo.node (kid0 (c, k)).1 (kid0 (c, k)).2 .nil).ok ∧ (Fo.node (kid1 (c, k)).1 (kid1 (c, k)).2 .nil).ok ∧ (kid0 (c, k)).2.cells.length + (kid1 (c, k)).2.cells.length + 2 = k.cells.length ∧ ((kid1 (c, k)).1 = trueC → (kid1 (c, k)).2.cells = []) := by
 unfold flatB at hf
 simp only [Bool.and_eq_true, decide_eq_true_eq] at hf; obtain ⟨h1, h2, h3, h4⟩ := hf; have h9 := hok.2.2.1 (by rw [h1]; rfl)
 have hcnt : k.count = 2 := by
  rw [h1] at h9; have e2 : (ruleC.2.1 : Int) = 2 := rfl
  omega
 obtain ⟨c1, k1, c2, k2, ek⟩ := two_of hcnt; have hk := hok.2.2.2.2.1; rw [ek] at hk
 have e0 : kid0 (c, k) = (c1, k1) := by unfold kid0; rw [ek]; rfl
 have e1 : kid1 (c, k) = (c2, k2) := by unfold kid1; rw [ek]; rfl
 have o2 : (Fo.node c2 k2 .nil).ok := hk.2.2.2.2.2; rw [e0] at h3; rw [e1] at h4; refine ⟨h1, h2, hcnt, by rw [e0]; exact h3, by rw [e1]; exact List.all_eq_true.1 h4, by rw [e0]; exact ⟨hk.1, hk.2.1, hk.2.2.1, hk.2.2.2.1, hk.2.2.2.2.1, trivial⟩, by rw [e1]; exact o2, by rw [e0, e1, ek]; simp [Fo.cells]; omega, fun ht => ?_⟩; rw [e1] at ht ⊢; have : k2 = .nil := o2.2.2.2.1 (by show c2.1 ≠ 3; rw [show c2 = trueC from ht]; decide)
 show k2.cells = []
 rw [this]; rfl
abbrev efV (a : Addr) : Value := .iface 476 (.pointer (some a))
end
section
open Go Go.RowKit Go.Extern
theorem eiTypeOf (v : Value) (w : World) : (Extern.ReflectliteType.typeOf #[.iface 476 v]).run Tryz.prog w = .ok (.iface 262 (.agg #[.pointer (some ⟨8, 476, none⟩)])) w := by kernel_rfl
theorem eiFind : (Extern.find Tryz.f468).isSome = true := by kernel_rfl
theorem eiComparable (w : World) : (((Extern.find Tryz.f468).get eiFind) #[.agg #[.pointer (some ⟨8, 476, none⟩)]]).run Tryz.prog w = .ok (.bool true) w := by kernel_rfl
theorem eiCall (w : World) : (callFunc 468 #[.agg #[.pointer (some ⟨8, 476, none⟩)]]).run Tryz.prog w = .ok (.value (.bool true)) w := by
 rw [run_callFunc_extern Tryz.func468 (by kernel_rfl) (by kernel_rfl) (by kernel_rfl) (Option.some_get eiFind).symm, eiComparable]
 rfl
theorem eiMethod (v : Value) (w : World) : (Go.method 612 262 v "Comparable").run Tryz.prog w = .ok (468, v) w := by kernel_rfl
theorem eiComp : (Tryz.prog.info? 476).map (·.comparable) = some true := by kernel_rfl
theorem eiSize : (Tryz.prog.info? 500).map (·.size) = some 1 := by kernel_rfl
theorem eiNoIs (v : Value) (xT : TypeId) (w : World) : (Instr.typeAssert (.iface 476 v) xT 264 true).run Tryz.prog w = .ok (.tuple #[.nilIface, .bool false]) w := run_typeAssert_lacksB Tryz.underlying264 (by kernel_rfl) (by kernel_rfl) v xT w
theorem eiNoUnwrap (v : Value) (xT : TypeId) (w : World) : (Instr.typeAssert (.iface 476 v) xT 267 true).run Tryz.prog w = .ok (.tuple #[.nilIface, .bool false]) w := run_typeAssert_lacksB Tryz.underlying267 (by kernel_rfl) (by kernel_rfl) v xT w
theorem eiNoUnwraps (v : Value) (xT : TypeId) (w : World) : (Instr.typeAssert (.iface 476 v) xT 269 true).run Tryz.prog w = .ok (.tuple #[.nilIface, .bool false]) w := run_typeAssert_lacksB Tryz.underlying269 (by kernel_rfl) (by kernel_rfl) v xT w
theorem is_other (a b : Addr) (ca cb : Array Value) (ta tb : TypeId) (w : World) (hne : a ≠ b) (ha : w.heap[a.block]? = some (.cells ca ta (0, 0))) (hb : w.heap[b.block]? = some (.cells cb tb (0, 0))) :
  Calls Tryz.prog 112 #[.iface 476 (.pointer (some a)), .iface 476 (.pointer (some b))] w fun e w' => e = .returned (.bool false) ∧ w' = w := by
 obtain ⟨i, hi, hcmp⟩ := Option.map_eq_some_iff.1 eiComp; obtain ⟨j, hj, hjs⟩ := Option.map_eq_some_iff.1 eiSize; have h8 := @run_callFunc_extern Tryz.prog 179 _ Extern.ReflectliteType.typeOf Tryz.func179 (by kernel_rfl) (by kernel_rfl) (by kernel_rfl) (by kernel_rfl); have tT := eiTypeOf; have cT := eiCall; have mR := eiMethod; have nE := eiNoIs; have uE := eiNoUnwrap; have vE := eiNoUnwraps; have heq := run_eql_iface_ptr_other (P := Tryz.prog) w Tryz.underlying66 Tryz.underlying476 hi hcmp hj (by rw [hjs]; decide) hne ha hb
 go_enter Tryz.func112, Tryz.ntmps112
 go_wp2
 refine wp_loop_rounds 1 ?_; rw [rounds_succ]
 go_wp2
 go_ret; exact ⟨rfl, rfl⟩
end
section
open Go Go.RowKit
theorem codeOf_limit (a a2 : Addr) (ca cb : Array Value) (ta tb : TypeId) (w : World) (hne : a2 ≠ a) (hg : w.cell? ⟨1, 0, none⟩ = some (efV a)) (ha : w.heap[a2.block]? = some (.cells ca ta (0, 0))) (hb : w.heap[a.block]? = some (.cells cb tb (0, 0))) : Calls Tryz.prog 27 #[efV a2] w fun e w' => e = .returned (.int .i64 3) ∧ w' = w := by
 have HI := is_other a2 a ca cb ta tb w hne ha hb; clear ha hb hne
 go_enter Tryz.func27, Tryz.ntmps27
 go_wp2_with (go_at_call 112; refine HI.mono ?_; rintro e w' ⟨rfl, rfl⟩); go_ret; exact ⟨rfl, rfl⟩
structure ErrAt (w : World) (a a2 : Addr) : Prop where
 fail : w.cell? ⟨1, 0, none⟩ = some (efV a)
 beyond : w.cell? ⟨0, 0, none⟩ = some (efV a2)
 ne : a2 ≠ a
 ba : ∃ ca ta, w.heap[a.block]? = some (.cells ca ta (0, 0))
 bb : ∃ ca ta, w.heap[a2.block]? = some (.cells ca ta (0, 0))
theorem lt_of_block {w : World} {b : Nat} {o : Obj} (h : w.heap[b]? = some o) : b < w.heap.size := by
 rcases Nat.lt_or_ge b w.heap.size with h1 | h1
 ·exact h1
 ·rw [Array.getElem?_eq_none h1] at h; cases h
theorem ErrAt.below {w w' : World} {a a2 : Addr} (h : ErrAt w a a2) (hb : Below w.heap.size w w') : ErrAt w' a a2 := by
 obtain ⟨ca, ta, h3⟩ := h.ba; obtain ⟨cb, tb, h4⟩ := h.bb; exact ⟨(hb.cell (World.block_lt_of_cell? _ _ h.fail)).trans h.fail, (hb.cell (World.block_lt_of_cell? _ _ h.beyond)).trans h.beyond, h.ne, ⟨ca, ta, (hb.block _ (lt_of_block h3)).trans h3⟩, ⟨cb, tb, (hb.block _ (lt_of_block h4)).trans h4⟩⟩
theorem codeBeyond {w : World} {a a2 : Addr} (h : ErrAt w a a2) : Calls Tryz.prog 27 #[efV a2] w fun e w' => e = .returned (.int .i64 3) ∧ w' = w := by
 obtain ⟨ca, ta, h3⟩ := h.ba; obtain ⟨cb, tb, h4⟩ := h.bb; exact codeOf_limit a a2 cb ca tb ta w h.ne h.fail h4 h3
end
section
open Go Go.RowKit Go.Maps
end
section
open Go Go.RowKit
def kI (k : Int) (ts : List Iv) (j : Nat) : Int := k + 5 * j + szIs (ts.take j)
theorem kI_zero (k : Int) (ts : List Iv) : kI k ts 0 = k := by simp [kI, szIs]
theorem kI_succ (k : Int) (ts : List Iv) (j : Nat) (h : j < ts.length) (hK : (ts.getD j Iv.zero).K = [] ∧ (ts.getD j Iv.zero).L = []) : kI k ts (j + 1) = kI k ts j + 1 + 1 + 1 + 1 + 1 + (ts.getD j Iv.zero).c.2.2.length := by
 have := szIs_take ts j h
 unfold szI at this
 rw [hK.1, hK.2] at this; simp only [List.length_nil, tl] at this; simp only [kI, this]; omega
def markedI (k : Int) (ts : List Iv) (j : Nat) : Iv := ⟨kI k ts j, kI k ts j + 1, kI k ts j + 1 + 1, (kI k ts j + 1 + 1 + 1, kI k ts j + 1 + 1 + 1 + 1, marks (kI k ts j + 1 + 1 + 1 + 1 + 1) (ts.getD j Iv.zero).c.2.2.length), [], []⟩
def mixI (k : Int) (ts : List Iv) (j : Nat) : List Iv := (List.range ts.length).map fun i => if i < j then markedI k ts i else ts.getD i Iv.zero
theorem mixI_len (k : Int) (ts : List Iv) (j : Nat) : (mixI k ts j).length = ts.length := by simp [mixI]
theorem mixI_at (k : Int) (ts : List Iv) (j i : Nat) (h : i < ts.length) : (mixI k ts j).getD i Iv.zero = if i < j then markedI k ts i else ts.getD i Iv.zero := by
 simp [mixI, List.getD, h]
theorem same_ivs {a b : List Iv} (hl : a.length = b.length) (h : ∀ i, i < a.length → a.getD i Iv.zero = b.getD i Iv.zero) : a = b := by
 apply List.ext_getElem hl
 intro i h1 h2
 have := h i h1
 simpa [List.getD_eq_getElem?_getD, h1, h2] using this
theorem iv_set_at (ts : List Iv) (i j : Nat) (r : Iv) (h : i < ts.length) : (ts.set i r).getD j Iv.zero = if j = i then r else ts.getD j Iv.zero := by
 simp only [List.getD, List.getElem?_set]
 by_cases e : j = i
 ·subst e; simp [h]
 ·have : ¬ i = j := fun x => e x.symm
  simp [this, e]
theorem r8_set_at (ts : List R8) (i j : Nat) (r : R8) (h : i < ts.length) : (ts.set i r).getD j R8.zero = if j = i then r else ts.getD j R8.zero := by
 simp only [List.getD, List.getElem?_set]
 by_cases e : j = i
 ·subst e; simp [h]
 ·have : ¬ i = j := fun x => e x.symm
  simp [this, e]
theorem mixI_zero (k : Int) (ts : List Iv) : mixI k ts 0 = ts := same_ivs (mixI_len ..) (fun j hj => by rw [mixI_at _ _ _ _ (by rw [mixI_len] at hj; exact hj), if_neg (Nat.not_lt_zero _)])
theorem mixI_succ (k : Int) (ts : List Iv) (j : Nat) (h : j < ts.length) : mixI k ts (j + 1) = (mixI k ts j).set j (markedI k ts j) := same_ivs (by simp [mixI]) (fun i hi => by
 rw [mixI_len] at hi; rw [mixI_at _ _ _ _ hi, iv_set_at _ _ _ _ (by rw [mixI_len]; exact h)]
 by_cases e : i = j
 ·subst e; rw [if_pos (by omega), if_pos rfl]
 ·rw [if_neg e, mixI_at _ _ _ _ hi]
  by_cases e2 : i < j
  ·rw [if_pos e2, if_pos (by omega)]
  ·rw [if_neg e2, if_neg (by omega)])
theorem flatI_set5 : ∀ (rs : List R8) (i : Nat) (a b c d e : Int), i < rs.length → ((((((flatI rs).set (i * 8) (.int .i64 a)).set (i * 8 + 1) (.int .i64 b)).set (i * 8 + 2) (.int .i64 c)).set (i * 8 + 3) (.int .i64 d)).set (i * 8 + 4) (.int .i64 e)) = flatI (rs.set i ((a, b, c, d, e), (rs.getD i R8.zero).2))
 | [], i, a, b, c, d, e, h => by simp at h
 | x :: rs, 0, a, b, c, d, e, _ => by simp [flatI_cons]
 | x :: rs, i + 1, a, b, c, d, e, h => by
   have := flatI_set5 rs i a b c d e (by simpa using h); rw [flatI_cons, show (i + 1) * 8 = (i * 8) + 1 + 1 + 1 + 1 + 1 + 1 + 1 + 1 by omega, show i * 8 + 1 + 1 + 1 + 1 + 1 + 1 + 1 + 1 + 1 = (i * 8 + 1) + 1 + 1 + 1 + 1 + 1 + 1 + 1 + 1 by omega, show i * 8 + 1 + 1 + 1 + 1 + 1 + 1 + 1 + 1 + 2 = (i * 8 + 2) + 1 + 1 + 1 + 1 + 1 + 1 + 1 + 1 by omega, show i * 8 + 1 + 1 + 1 + 1 + 1 + 1 + 1 + 1 + 3 = (i * 8 + 3) + 1 + 1 + 1 + 1 + 1 + 1 + 1 + 1 by omega, show i * 8 + 1 + 1 + 1 + 1 + 1 + 1 + 1 + 1 + 4 = (i * 8 + 4) + 1 + 1 + 1 + 1 + 1 + 1 + 1 + 1 by omega]; simp only [List.set_cons_succ, this]
   rfl
abbrev set5 (w : World) (g j : Nat) (a b c d e : Int) : World := ((((w.setCell ⟨g, j * 8, none⟩ (.int .i64 a)).setCell ⟨g, j * 8 + 1, none⟩ (.int .i64 b)).setCell ⟨g, j * 8 + 2, none⟩ (.int .i64 c)).setCell ⟨g, j * 8 + 3, none⟩ (.int .i64 d)).setCell ⟨g, j * 8 + 4, none⟩ (.int .i64 e)
theorem set5_oth {w : World} {g k : Nat} (h : k ≠ g) (j : Nat) (a b c d e : Int) : (set5 w g j a b c d e).heap[k]? = w.heap[k]? := by
 unfold set5
 rw [Below.heap_setCell _ _ _ _ h, Below.heap_setCell _ _ _ _ h, Below.heap_setCell _ _ _ _ h, Below.heap_setCell _ _ _ _ h, Below.heap_setCell _ _ _ _ h]
theorem mark_oneI {w w3 : World} {B g n c j : Nat} {ds : List Iv} {rs : List R8} (hn : n = ds.length) (hl : rs.length = ds.length) (hr : w.ownsRow B 72 8 (.slice (some ⟨g, 0, none⟩) n c) n (flatI rs)) (hf : ∀ i, i < ds.length → FitsI w B (rs.getD i R8.zero) (ds.getD i Iv.zero))
  (ha : ApartI [] (some ⟨g, 0, none⟩) rs) (hj : j < ds.length) (a0 a1 a2 a3 a4 : Int) (ms : List Int) (ho : OwnT w3 B (rs.getD j R8.zero).2.1 (rs.getD j R8.zero).2.2.1 (rs.getD j R8.zero).2.2.2 ms)
  (hg : (set5 w g j a0 a1 a2 a3 a4).grownBy w3 (tb (rs.getD j R8.zero).2.1 (rs.getD j R8.zero).2.2.1)) :
  OwnIv [] w3 B (some ⟨g, 0, none⟩) n c (ds.set j ⟨a0, a1, a2, (a3, a4, ms), [], []⟩) ∧ Below B w w3 := by
 have hgB := (hr.lt g rfl)
 have h2 := (((((hr.stored (j * 8) (.int .i64 a0)).1.stored (j * 8 + 1) (.int .i64 a1)).1.stored (j * 8 + 2) (.int .i64 a2)).1.stored (j * 8 + 3) (.int .i64 a3)).1.stored (j * 8 + 4) (.int .i64 a4)).1; rw [flatI_set5 rs j a0 a1 a2 a3 a4 (by omega)] at h2
 have hsz : (set5 w g j a0 a1 a2 a3 a4).heap.size = w.heap.size := by simp
 have hnrow : ∀ i, i < ds.length → tb (rs.getD i R8.zero).2.1 (rs.getD i R8.zero).2.2.1 ≠ some g := fun i hi e => by
  have h1 := (hf i hi).2.2.tb e; exact ha.1 i (by omega) (tb_some e).1 h1.1
 have hat : ∀ i, ((rs.set j ((a0, a1, a2, a3, a4), (rs.getD j R8.zero).2)).getD i R8.zero).2 = (rs.getD i R8.zero).2 := fun i => by
  rw [r8_set_at _ _ _ _ (by omega)]
  by_cases e : i = j
  ·rw [if_pos e, e]
  ·rw [if_neg e]
 refine ⟨⟨by simpa using hn, rs.set j ((a0, a1, a2, a3, a4), (rs.getD j R8.zero).2), by simpa using hl, h2.kept hg (.inr (fun e => hnrow j hj e.symm)), fun i hi => ?_, fun i hi => ?_, fun i i' hi hi' hne => ?_, fun z hz => by cases hz⟩, ?_⟩
 ·have hi' : i < ds.length := by simpa using hi
  rw [iv_set_at _ _ _ _ hj, r8_set_at _ _ _ _ (by omega)]
  by_cases e : i = j
  ·rw [if_pos e, if_pos e]
   exact ⟨rfl, ⟨rfl, rfl⟩, ho⟩
  ·rw [if_neg e, if_neg e]
   obtain ⟨q0, q1, q2⟩ := hf i hi'; refine ⟨q0, q1, q2.other (Nat.le_trans (Nat.le_of_eq hsz.symm) hg.size) (fun k hp e' => ?_)⟩; have hk := (q2.tb (e' ▸ tb_of hp)).2.2; refine (hg.block k (by rw [hsz]; exact hk) (fun e2 => ?_)).trans (set5_oth (fun e3 => hnrow i hi' (by rw [e', ← e3]; exact tb_of hp)) _ _ _ _ _ _); have h5 := (hf j hj).2.2.tb e2.symm; exact ha.2.1 i j (by omega) (by omega) e hp (tb_some e2.symm).1 (by rw [e', h5.1])
 ·rw [hat]; exact ha.1 i (by simpa using hi)
 ·rw [hat, hat]; exact ha.2.1 i i' (by simpa using hi) (by simpa using hi') hne
 ·have hB9 := hgB.1
  have hs5 : Below B w (set5 w g j a0 a1 a2 a3 a4) := (((((Below.refl B w).setCell (p := ⟨g, j * 8, none⟩) hB9 _).setCell (p := ⟨g, j * 8 + 1, none⟩) hB9 _).setCell (p := ⟨g, j * 8 + 2, none⟩) hB9 _).setCell (p := ⟨g, j * 8 + 3, none⟩) hB9 _).setCell (p := ⟨g, j * 8 + 4, none⟩) hB9 _; refine hs5.trans ⟨hg.os, hg.tape, hg.output, hg.size, fun k hk => hg.block k (by rw [hsz]; have := hgB.2; omega) (fun e2 => ?_)⟩; have h5 := (hf j hj).2.2.tb e2.symm
  omega
theorem markNoC (k : Int) (h0 : 0 ≤ k) (h1 : k ≤ 1000000000000) (w : World) : Calls Tryz.prog 10 #[.slice none 0 0, .int .i64 k] w fun e w' => e = .returned (.int .i64 k) ∧ w' = w := by
 go_enter Tryz.func10, Tryz.ntmps10
 go_wp2
 refine wp_loop_rounds 1 ?_; rw [rounds_succ]
 go_wp2
 go_ret; exact ⟨rfl, rfl⟩
theorem markNoI (k : Int) (h0 : 0 ≤ k) (h1 : k ≤ 1000000000000) (w : World) : Calls Tryz.prog 31 #[.slice none 0 0, .int .i64 k] w fun e w' => e = .returned (.int .i64 k) ∧ w' = w := by
 go_enter Tryz.func31, Tryz.ntmps31
 go_wp2
 refine wp_loop_rounds 1 ?_; rw [rounds_succ]
 go_wp2
 go_ret; exact ⟨rfl, rfl⟩
theorem heldNoC (k : Int) (h0 : 0 ≤ k) (h1 : k ≤ 1000000000000) (w : World) : Calls Tryz.prog 33 #[.slice none 0 0, .int .i64 k] w fun e w' => e = .returned (.int .i64 k) ∧ w' = w := by
 go_enter Tryz.func33, Tryz.ntmps33
 go_wp2
 refine wp_loop_rounds 1 ?_; rw [rounds_succ]
 go_wp2
 go_ret; exact ⟨rfl, rfl⟩
theorem heldNoI (k : Int) (h0 : 0 ≤ k) (h1 : k ≤ 1000000000000) (w : World) : Calls Tryz.prog 34 #[.slice none 0 0, .int .i64 k] w fun e w' => e = .returned (.int .i64 k) ∧ w' = w := by
 go_enter Tryz.func34, Tryz.ntmps34
 go_wp2
 refine wp_loop_rounds 1 ?_; rw [rounds_succ]
 go_wp2
 go_ret; exact ⟨rfl, rfl⟩
def markI (k : Int) (ts : List Iv) : List Iv := mixI k ts ts.length
def endIv (k : Int) (ts : List Iv) : Int := kI k ts ts.length
theorem OwnIv.no {Z : List Nat} {w : World} {B : Nat} {p : Option Addr} {n c : Nat} {ts : List Iv} (h : OwnIv Z w B p n c ts) (i : Nat) (hi : i < ts.length) : (ts.getD i Iv.zero).K = [] ∧ (ts.getD i Iv.zero).L = [] := by
 obtain ⟨hn, rs, hl, hr, hf, ha⟩ := h; exact (hf i hi).2.1
set_option maxHeartbeats 2000000 in
theorem markIv_any (B : Nat) (p : Option Addr) (n c : Nat) (k : Int) (ts : List Iv) (w : World) (h0 : 0 ≤ k) (h1 : k ≤ 10000000) (hsz : ts.length + szIs ts ≤ 100000000) (hown : OwnIv [] w B p n c ts) :
  Calls Tryz.prog 11 #[.slice p n c, .int .i64 k] w fun e w' => e = .returned (.int .i64 (endIv k ts)) ∧ OwnIv [] w' B p n c (markI k ts) ∧ Below B w w' := by
 have hnl := hown.1
 have HO : Hid (OwnIv [] w B p n c ts ∧ ∀ i, i < ts.length → (ts.getD i Iv.zero).K = [] ∧ (ts.getD i Iv.zero).L = []) := ⟨hown, hown.no⟩
 have HNL : Hid (n = ts.length) := hnl
 have hnn : n ≤ 100000000 := by omega
 clear hown hnl
 go_enter Tryz.func11, Tryz.ntmps11
 go_wp2_with fail
 go_loopw [1, 5] (fun q i wr => ∃ (j : Nat) (kj : Int), j ≤ n ∧ 0 ≤ kj ∧ kj ≤ 1000000000 ∧ i = .int .i64 j ∧ q = .int .i64 kj ∧ Hid (kj = kI k ts j) ∧ Hid (OwnIv [] wr B p n c (mixI k ts j)) ∧ Hid (Below B w wr)) (fun _ i _ => n - (intOf i).toNat)
 case atStart => exact ⟨0, k, Nat.zero_le _, h0, by omega, rfl, rfl, (kI_zero _ _).symm, by rw [mixI_zero]; exact HO.out.1, Below.refl _ _⟩
 case round =>
  obtain ⟨j, kj, hj, hk0, hk1, rfl, rfl, HK, HR, HG⟩ := hrel
  by_cases hlt : j < n
  ·obtain ⟨hn1, rs, hl, hr, hf, ha⟩ := HR.out
   obtain ⟨g, cap, hv, hbg, hgs⟩ := hr.form (by omega); simp only [Value.slice.injEq, true_and] at hv; obtain ⟨rfl, rfl⟩ := hv
   have hjl : j < ts.length := by rw [← HNL.out]; exact hlt
   rw [mixI_len] at hl hf; have hat := flatI_at rs j (by omega); have d0 := (hr.cellAt (j * 8 + 0) (by omega)).trans (hat 0 (by omega)); have d1 := (hr.cellAt (j * 8 + 1) (by omega)).trans (hat 1 (by omega)); have d2 := (hr.cellAt (j * 8 + 2) (by omega)).trans (hat 2 (by omega)); have d3 := (hr.cellAt (j * 8 + 3) (by omega)).trans (hat 3 (by omega)); have d4 := (hr.cellAt (j * 8 + 4) (by omega)).trans (hat 4 (by omega)); have d5 := (hr.cellAt (j * 8 + 5) (by omega)).trans (hat 5 (by omega)); have d6 := (hr.cellAt (j * 8 + 6) (by omega)).trans (hat 6 (by omega)); have d7 := (hr.cellAt (j * 8 + 7) (by omega)).trans (hat 7 (by omega)); simp only [riV, List.getElem?_cons_zero, List.getElem?_cons_succ, Nat.add_zero] at d0 d1 d2 d3 d4 d5 d6 d7; have ff := hr.frozenAt; obtain ⟨q0, q1, q2⟩ := hf j hjl
   have hlen : (rs.getD j R8.zero).2.2.1 = (ts.getD j Iv.zero).c.2.2.length := by
    rw [q2.1, mixI_at _ _ _ _ hjl, if_neg (Nat.lt_irrefl j)]
   have hsl := szIs_at ts j hjl
   unfold szI at hsl
   have hkb : kj + 1 + 1 + 1 + 1 + 1 ≤ 1000000000000 := by omega
   have hgne : 0 < (rs.getD j R8.zero).2.2.1 → (rs.getD j R8.zero).2.1 ≠ some ⟨g, 0, none⟩ := fun hp e' => ha.1 j (by omega) hp e'
   have HMARK := markT_any B (rs.getD j R8.zero).2.1 (rs.getD j R8.zero).2.2.1 (rs.getD j R8.zero).2.2.2 (kj + 1 + 1 + 1 + 1 + 1) _ (set5 wr g j kj (kj + 1) (kj + 1 + 1) (kj + 1 + 1 + 1) (kj + 1 + 1 + 1 + 1)) (by omega) hkb (by omega) (((((q2.setCell (a := ⟨g, j * 8, none⟩) hgne (.int .i64 kj)).setCell (a := ⟨g, j * 8 + 1, none⟩) hgne (.int .i64 (kj + 1))).setCell (a := ⟨g, j * 8 + 2, none⟩) hgne (.int .i64 (kj + 1 + 1))).setCell (a := ⟨g, j * 8 + 3, none⟩) hgne (.int .i64 (kj + 1 + 1 + 1))).setCell (a := ⟨g, j * 8 + 4, none⟩) hgne (.int .i64 (kj + 1 + 1 + 1 + 1)))
   have HONE : Hid (∀ w3 ms, OwnT w3 B (rs.getD j R8.zero).2.1 (rs.getD j R8.zero).2.2.1 (rs.getD j R8.zero).2.2.2 ms → (set5 wr g j kj (kj + 1) (kj + 1 + 1) (kj + 1 + 1 + 1) (kj + 1 + 1 + 1 + 1)).grownBy w3 (tb (rs.getD j R8.zero).2.1 (rs.getD j R8.zero).2.2.1) →
     (OwnIv [] w3 B (some ⟨g, 0, none⟩) n c ((mixI k ts j).set j ⟨kj, kj + 1, kj + 1 + 1, (kj + 1 + 1 + 1, kj + 1 + 1 + 1 + 1, ms), [], []⟩) ∧ Below B wr w3) ∧ w3.cell? ⟨g, j * 8 + 6, none⟩ = some (.slice none 0 0) ∧ w3.cell? ⟨g, j * 8 + 7, none⟩ = some (.slice none 0 0)) := fun w3 ms h1 h2 => by
    have hone := mark_oneI hn1 (by rw [mixI_len]; exact hl) hr (by rw [mixI_len]; exact hf) ha (by rw [mixI_len]; exact hjl) kj (kj + 1) (kj + 1 + 1) (kj + 1 + 1 + 1) (kj + 1 + 1 + 1 + 1) ms h1 h2; refine ⟨hone, ?_⟩; obtain ⟨hn9, rs9, hl9, hr9, _⟩ := hone.1
    have hl9' : rs9.length = ts.length := by rw [hl9, List.length_set, mixI_len]
    have hat9 := flatI_at rs9 j (by omega); exact ⟨(hr9.cellAt (j * 8 + 6) (by omega)).trans (hat9 6 (by omega)), (hr9.cellAt (j * 8 + 7) (by omega)).trans (hat9 7 (by omega))⟩
   have HS1 : Hid _ := kI_succ k ts j hjl (HO.out.2 j hjl); have HS2 : Hid _ := mixI_succ k ts j hjl; have HLEN : Hid _ := hlen
   have hbound : kI k ts (j + 1) ≤ 1000000000 := by have := szIs_take_le ts (j + 1); simp only [kI]; omega
   have HBD : Hid _ := hbound
   obtain ⟨tp, etp⟩ : ∃ x, x = (rs.getD j R8.zero).2.1 := ⟨_, rfl⟩
   obtain ⟨tn, etn⟩ : ∃ x, x = (rs.getD j R8.zero).2.2.1 := ⟨_, rfl⟩
   obtain ⟨tc, etc⟩ : ∃ x, x = (rs.getD j R8.zero).2.2.2 := ⟨_, rfl⟩
   obtain ⟨r1, r2, r3, r4, r5, er⟩ : ∃ r1 r2 r3 r4 r5, (rs.getD j R8.zero).1 = (r1, r2, r3, r4, r5) := ⟨_, _, _, _, _, rfl⟩
   rw [er] at d0 d1 d2 d3 d4; simp only at d0 d1 d2 d3 d4; rw [← etp, ← etn, ← etc] at HMARK d5 HONE; rw [← etn] at HLEN hlen
   have htn : tn ≤ 100000000 := by omega
   clear etp etn etc hn1 hl hr hf ha q0 q1 q2 hlen hsl HR hbound hat er hgne; go_wp2_with fail; refine HMARK.mono ?_; rintro e w3 ⟨rfl, ho3, hg3⟩; obtain ⟨hfin0, u6, u7⟩ := HONE.out w3 _ ho3 hg3; have HFIN : Hid _ := hfin0; have HC := markNoC (kj + 1 + 1 + 1 + 1 + 1 + tn) (by omega) (by omega) w3; have HI := markNoI (kj + 1 + 1 + 1 + 1 + 1 + tn) (by omega) (by omega) w3; clear ho3 hg3 hfin0 HMARK HONE d0 d1 d2 d3 d4 d5 d6 d7 ff; go_wp2_with fail; refine HC.mono ?_; rintro e w4 ⟨rfl, hw4⟩; rw [hw4]; clear hw4 HC; go_wp2_with fail; refine HI.mono ?_; rintro e w5 ⟨rfl, hw5⟩; rw [hw5]; clear hw5 HI u6 u7; go_wp2_with fail; have e1 := HS1.out; have e2 := HS2.out; have e3 := HK.out; have e4 := HLEN.out; have e5 := HBD.out; have hfin := HFIN.out; go_roundw
   case rel => exact ⟨j + 1, kj + 1 + 1 + 1 + 1 + 1 + tn, by omega, by omega, by rw [e1] at e5; omega, by go_num, rfl, by show _ = _; rw [e1]; omega, by
    show OwnIv _ _ _ _ _ _ _
    rw [e2, markedI, ← e3, ← e4]
    exact hfin.1, HG.out.trans hfin.2⟩
   case measure => simp [intOf]; omega
  ·obtain rfl : j = n := by omega
   go_wp2_with fail; go_ret; refine ⟨ret_int ?_, ?_, HG.out⟩
   ·rw [HK.out, HNL.out]; rfl
   ·have := HR.out
    rw [markI, ← HNL.out]; exact this
set_option maxHeartbeats 2000000 in
theorem heldIv_any (p : Option Addr) (n c : Nat) (k : Int) (ts : List Iv) (w : World) (h0 : 0 ≤ k) (h1 : k ≤ 10000000) (hsz : ts.length + szIs ts ≤ 100000000) (hl : n = ts.length) (hno : ∀ i, i < ts.length → (ts.getD i Iv.zero).K = [] ∧ (ts.getD i Iv.zero).L = []) (hin : ∃ B, OwnIv [] w B p n c (markI k ts)) :
  Calls Tryz.prog 12 #[.slice p n c, .int .i64 k] w fun e w' => e = .returned (.int .i64 (endIv k ts)) ∧ w' = w := by
 have HI : Hid (∃ B, OwnIv [] w B p n c (markI k ts)) := hin
 have HNL : Hid (n = ts.length ∧ ∀ i, i < ts.length → (ts.getD i Iv.zero).K = [] ∧ (ts.getD i Iv.zero).L = []) := ⟨hl, hno⟩
 clear hin
 have hnn : n ≤ 100000000 := by omega
 clear hl hno
 go_enter Tryz.func12, Tryz.ntmps12
 go_wp2_with fail
 go_loop [1, 5] (fun q i => ∃ (j : Nat) (kj : Int), j ≤ n ∧ 0 ≤ kj ∧ kj ≤ 1000000000 ∧ i = .int .i64 j ∧ q = .int .i64 kj ∧ Hid (kj = kI k ts j)) (fun _ i => n - (intOf i).toNat)
 case atStart => exact ⟨0, k, Nat.zero_le _, h0, by omega, rfl, rfl, (kI_zero _ _).symm⟩
 case round =>
  obtain ⟨j, kj, hj, hk0, hk1, rfl, rfl, HK⟩ := hrel
  by_cases hlt : j < n
  ·have hjl : j < ts.length := by rw [← HNL.out.1]; exact hlt
   obtain ⟨B, hO⟩ := HI.out; obtain ⟨hn1, rs, hl, hr, hf, ha⟩ := hO; obtain ⟨g, cap, hv, hbg, hgs⟩ := hr.form (by omega); simp only [Value.slice.injEq, true_and] at hv; obtain ⟨rfl, rfl⟩ := hv; have hml : (markI k ts).length = ts.length := mixI_len _ _ _; obtain ⟨q0, q1, q2⟩ := hf j (by omega)
   have hm : (markI k ts).getD j Iv.zero = markedI k ts j := by rw [markI, mixI_at _ _ _ _ hjl, if_pos hjl]
   rw [hm] at q0 q2; have hat := flatI_at rs j (by omega); have d0 := (hr.cellAt (j * 8 + 0) (by omega)).trans (hat 0 (by omega)); have d1 := (hr.cellAt (j * 8 + 1) (by omega)).trans (hat 1 (by omega)); have d2 := (hr.cellAt (j * 8 + 2) (by omega)).trans (hat 2 (by omega)); have d3 := (hr.cellAt (j * 8 + 3) (by omega)).trans (hat 3 (by omega)); have d4 := (hr.cellAt (j * 8 + 4) (by omega)).trans (hat 4 (by omega)); have d5 := (hr.cellAt (j * 8 + 5) (by omega)).trans (hat 5 (by omega)); have d6 := (hr.cellAt (j * 8 + 6) (by omega)).trans (hat 6 (by omega)); have d7 := (hr.cellAt (j * 8 + 7) (by omega)).trans (hat 7 (by omega)); have hln := q2.1; have hbi := q2.bin; simp only [riV, List.getElem?_cons_zero, List.getElem?_cons_succ, Nat.add_zero, q0, hdI, markedI, ← HK.out] at d0 d1 d2 d3 d4 d5 d6 d7; simp only [markedI, ← HK.out, marks_len] at hln hbi; have hsl := szIs_at ts j hjl
   unfold szI at hsl
   have HS1 : Hid _ := kI_succ k ts j hjl (HNL.out.2 j hjl)
   have hbound : kI k ts (j + 1) ≤ 1000000000 := by have := szIs_take_le ts (j + 1); simp only [kI]; omega
   have HBD : Hid _ := hbound
   obtain ⟨tp, etp⟩ : ∃ x, x = (rs.getD j R8.zero).2.1 := ⟨_, rfl⟩
   obtain ⟨tc, etc⟩ : ∃ x, x = (rs.getD j R8.zero).2.2.2 := ⟨_, rfl⟩
   obtain ⟨tn, etn⟩ : ∃ x, x = (ts.getD j Iv.zero).c.2.2.length := ⟨_, rfl⟩
   rw [hln, ← etp, ← etc, ← etn] at d5; rw [← etp, ← etn] at hbi; rw [← etn] at HS1
   have htn : tn ≤ 100000000 := by omega
   have hpos : ¬ (kj + 1 + 1 + 1 + 1 + 1 + (tn : Int) < 0) := by omega
   have HH := held_any tp tn tc (kj + 1 + 1 + 1 + 1 + 1) w (by omega) (by omega) (by omega) hbi; have HC := heldNoC (kj + 1 + 1 + 1 + 1 + 1 + tn) (by omega) (by omega) w; have HIn := heldNoI (kj + 1 + 1 + 1 + 1 + 1 + tn) (by omega) (by omega) w; clear etp etc etn hn1 hl hr hf ha q0 q1 q2 hat hm hml hln hbi hsl hbound HI hbg hgs; go_wp2_with fail; refine HH.mono ?_; rintro e w3 ⟨rfl, hw3⟩; rw [hw3]; clear hw3 HH; go_wp2_with fail; refine HC.mono ?_; rintro e w4 ⟨rfl, hw4⟩; rw [hw4]; clear hw4 HC; go_wp2_with fail; refine HIn.mono ?_; rintro e w5 ⟨rfl, hw5⟩; rw [hw5]; clear hw5 HIn; go_wp2_with fail; have e1 := HS1.out; have e3 := HK.out; have e5 := HBD.out
   go_round
   case rel => exact ⟨j + 1, kj + 1 + 1 + 1 + 1 + 1 + tn, by omega, by omega, by rw [e1] at e5; omega, by go_num, rfl, by show _ = _; rw [e1]; omega⟩
   case measure => simp [intOf]; omega
  ·obtain rfl : j = n := by omega
   clear HI; go_wp2_with fail; go_ret; exact ⟨ret_int (by rw [HK.out, HNL.out.1]; rfl), rfl⟩
end
section
open Go Go.ChangeShapes Go.WideShapes Go.ChangeAt Go.WideMaps Go.WideElems Go.RowKit Go.Deep
theorem own : ownKnob Tryz.prog.godebug = none := by kernel_rfl
theorem laidOut : laidOutB Tryz.prog = true := by kernel_rfl
theorem cellsByte : Tryz.prog.cellsOf 5 = 1 := by kernel_rfl
theorem cellsInt : Tryz.prog.cellsOf 3 = 1 := by kernel_rfl
theorem cellsText : Tryz.prog.cellsOf 35 = 1 := by kernel_rfl
theorem cellsCell : Tryz.prog.cellsOf 37 = 3 := by kernel_rfl
theorem openedText {H : Type} {enc : TypeId × Value → H} {W : World} {fuel : Nat} {v : Value} {x : DataW H × List MemPlace}
  (h : DataW.trod enc Tryz.prog W 0 (fun _ => true) true fuel 35 [v] = some x) :
  ∃ (p : Option Addr) (cap : Nat) (xs : List Int), v = .slice p xs.length cap ∧ xs.length ≤ 9223372036854775807 ∧ BIn W p xs ∧ ∀ y ∈ xs, 0 ≤ y ∧ y < 256 := by
 rcases open_ints Tryz.underlying35 Tryz.underlying5 cellsByte h with ⟨hcs, hx⟩ | ⟨a, len', cap', zs, hcs, _, hl, hm, hz, hx, hcell, hwz⟩
 ·obtain rfl : v = .slice none 0 0 := by simpa using hcs
  exact ⟨none, 0, [], rfl, by decide, fun h => absurd h (Nat.lt_irrefl 0), fun x hx => by cases hx⟩
 ·obtain rfl : v = .slice (some a) len' cap' := by simpa using hcs
  simp only [if_true] at hz
  unfold maxLen at hm
  refine ⟨some a, cap', zs.take len', by congr 1; simp; omega, by simp; omega, fun hn => ?_, fun x hx' => ?_⟩
  ·have hn' : 0 < zs.length := by simp at hn; omega
   obtain ⟨b, o, s⟩ := a
   obtain rfl : s = none := by simpa [Addr.add] using World.cell?_spot (hcell 0 hn')
   refine ⟨b, o, rfl, fun i hi => ?_⟩
   have hi' : i < len' := by simp at hi; omega
   have := hcell i (by omega); rw [add_plain] at this; rw [this]
   simp [List.getD, hi']
  ·have h := hwz x (List.mem_of_mem_take hx')
   have h1 : IntKind.u8.min = 0 := rfl; have h2 : IntKind.u8.max = 255 := rfl; simp only [Lit.wf, Bool.and_eq_true, decide_eq_true_eq] at h
   omega
theorem wf_i64 {n : Int} (h : (Lit.int .i64 n).wf = true) : -9223372036854775808 ≤ n ∧ n ≤ 9223372036854775807 := by
 have h1 : IntKind.i64.min = -9223372036854775808 := rfl; have h2 : IntKind.i64.max = 9223372036854775807 := rfl; simp only [Lit.wf, Bool.and_eq_true, decide_eq_true_eq] at h
 omega
theorem three_of {cs : List Value} (h : cs.length = 3) : ∃ a b c, cs = [a, b, c] := by
 match cs, h with
 | [a, b, c], _ => exact ⟨a, b, c, rfl⟩
theorem openedCell {H : Type} {enc : TypeId × Value → H} {W : World} {fuel : Nat} {cs : List Value} {x : DataW H × List MemPlace}
  (h : DataW.trod enc Tryz.prog W 0 (fun _ => true) true fuel 37 cs = some x) :
  ∃ (k n : Int) (p : Option Addr) (cap : Nat) (xs : List Int), cs = [.int .i64 k, .int .i64 n, .slice p xs.length cap] ∧ xs.length ≤ 9223372036854775807 ∧ BIn W p xs ∧ (∀ y ∈ xs, 0 ≤ y ∧ y < 256) ∧
    (-9223372036854775808 ≤ k ∧ k ≤ 9223372036854775807 ∧ -9223372036854775808 ≤ n ∧ n ≤ 9223372036854775807) := by
 obtain ⟨y0, y1, y2, n, hx, hl, h0, h1, h2⟩ := trod_struct3 Tryz.underlying37 h; rw [cellsCell] at hl; obtain ⟨a, b, c, rfl⟩ := three_of hl; simp only [cellsInt, cellsText, List.drop_zero, List.take_succ_cons, List.take_zero, List.drop_succ_cons] at h0 h1 h2; obtain ⟨k, e0, _, w0⟩ := DataW.trod_int Tryz.underlying3 h0; obtain ⟨m, e1, _, w1⟩ := DataW.trod_int Tryz.underlying3 h1; obtain ⟨p, cap, xs, rfl, hlen, hin, hb⟩ := openedText h2
 obtain rfl : a = .int .i64 k := by simpa using e0
 obtain rfl : b = .int .i64 m := by simpa using e1
 exact ⟨k, m, p, cap, xs, rfl, hlen, hin, hb, (wf_i64 w0).1, (wf_i64 w0).2, (wf_i64 w1).1, (wf_i64 w1).2⟩
theorem getD_map_range (f : Nat → Cel) (n i : Nat) (h : i < n) : ((List.range n).map f).getD i Cel.none = f i := by
 simp [List.getD, h]
theorem openedCells {H : Type} {enc : TypeId × Value → H} {W : World} {a0 : Option Addr} {len cap : Nat} {d0 : DataW H} {p : List MemPlace}
  (h0 : DataW.Trod enc Tryz.prog W 0 (fun _ => true) true 22 (.slice a0 len cap) d0 p) : ∃ cs : List Cel, cs.length = len ∧ CArg W a0 cs := by
 obtain ⟨fuel, hf⟩ := h0
 rcases open_slice Tryz.underlying22 hf with ⟨hcs, hx⟩ | ⟨a, len', cap', m, n, D, Pl, hcs, hb, hl, hm, hmm, hx, hel⟩
 ·simp [Value.cells] at hcs
  obtain ⟨rfl, rfl, rfl⟩ := hcs; exact ⟨[], rfl, fun h => absurd h (Nat.lt_irrefl 0), by decide, fun i h => by simp at h, fun i h => by simp at h, fun i h => by simp at h⟩
 ·simp [Value.cells] at hcs
  obtain ⟨rfl, rfl, rfl⟩ := hcs; simp only [if_true] at hmm; subst hmm
  unfold maxLen at hm
  obtain ⟨b, o, s⟩ := a
  have hs0 : ∀ i, i = 0 → i < len → s = none := fun i hi0 hlen => by
   obtain ⟨cs', hc, ht⟩ := hel i (by omega); obtain ⟨k, n', q, qc, xs, rfl, r1, r2, r3, r4⟩ := openedCell ht; rw [cellsCell] at hc; have g0 := (World.cells?_some hc).2.2 0 (by decide); have g := World.cell?_spot g0; rw [hi0] at g
   simpa [Addr.add] using g
  have each : ∀ i, i < len → ∃ c : Cel, s = none ∧ CAt W b (o + i * 3) c ∧ c.2.2.length ≤ 9223372036854775807 ∧ (∀ y ∈ c.2.2, 0 ≤ y ∧ y < 256) ∧ (-9223372036854775808 ≤ c.1 ∧ c.1 ≤ 9223372036854775807 ∧ -9223372036854775808 ≤ c.2.1 ∧ c.2.1 ≤ 9223372036854775807) := fun i hi => by
   obtain ⟨cs', hc, ht⟩ := hel i (by omega); obtain ⟨k, n', q, qc, xs, rfl, r1, r2, r3, r4⟩ := openedCell ht; rw [cellsCell] at hc; have hs := (World.cells?_some hc).2.2; have g0 := hs 0 (by decide); have g1 := hs 1 (by decide); have g2 := hs 2 (by decide); obtain rfl : s = none := hs0 0 rfl (by omega); simp only [add_plain] at g0 g1 g2; exact ⟨(k, n', xs), rfl, ⟨q, qc, g0, g1, g2, r2⟩, r1, r3, r4⟩
  obtain ⟨f, hfx⟩ := choose_lt each
  have hat : ∀ i, i < len → ((List.range len).map f).getD i Cel.none = f i := fun i hi => getD_map_range f len i hi
  refine ⟨(List.range len).map f, by simp, fun hn => ?_, by simp; omega, fun i hi => ?_, fun i hi => ?_, fun i hi => ?_⟩
  ·have hn' : 0 < len := by simpa using hn
   obtain rfl : s = none := (hfx 0 hn').1; refine ⟨b, o, rfl, fun i hi => ?_⟩
   have hi' : i < len := by simpa using hi
   rw [hat i hi']; exact (hfx i hi').2.1
  ·have hi' : i < len := by simpa using hi
   rw [hat i hi']; exact (hfx i hi').2.2.1
  ·have hi' : i < len := by simpa using hi
   rw [hat i hi']; exact (hfx i hi').2.2.2.1
  ·have hi' : i < len := by simpa using hi
   rw [hat i hi']; exact (hfx i hi').2.2.2.2
end
end Go.Proofs.YtickbkcpcgmlmaaGreatDoor
