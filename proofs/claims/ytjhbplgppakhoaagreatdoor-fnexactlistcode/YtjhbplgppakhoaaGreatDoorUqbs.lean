/- Texts of LcH. Own work of the verifier. -/
import Derived.Test.YtjhbplgppakhoaaGreatDoorUqbq
import Derived.Test.YtjhbplgppakhoaaGreatDoorUqak
import Derived.Test.YtjhbplgppakhoaaGreatDoorUqbg
namespace Go.Proofs.YtjhbplgppakhoaaGreatDoor
open Go Go.RowKit
set_option linter.unusedVariables false
set_option linter.unusedSimpArgs false
theorem heap_twoL (w : World) (a b : Obj) : ((w.alloc a).alloc b).heap[w.heap.size]? = some a ∧ ((w.alloc a).alloc b).heap[w.heap.size + 1]? = some b := by
  refine ⟨(Below.heap_alloc _ _ _ (by simp)).trans (heap_alloc_new w _), ?_⟩
  have := heap_alloc_new (w.alloc a) b
  simpa using this
set_option maxRecDepth 100000 in
set_option maxHeartbeats 2000000 in
theorem eqIns_any (x : Iv) (op r a kd cn : Int) (q1 q2 : Option Addr) (m qc1 qc2 : Nat) (s1 s2 : Option Addr) (n sc1 sc2 : Nat) (u1 u2 : Option Addr) (l uc1 uc2 : Nat) (w : World) (hm : m = x.c.2.2.length) (hn : n = x.K.length) (hl : l = x.L.length) (hsz : szI x ≤ 100000000) (h1 : BIn w q1 x.c.2.2) (h2 : BIn w q2 x.c.2.2) (h3 : CIn w s1 x.K) (h4 : CIn w s2 x.K) (h5 : IIn w u1 x.L) (h6 : IIn w u2 x.L) :
    Calls Tryz.prog 84 #[.agg #[.int .i64 op, .int .i64 r, .int .i64 a, .int .i64 kd, .int .i64 cn, .slice q1 m qc1, .slice s1 n sc1, .slice u1 l uc1], .agg #[.int .i64 op, .int .i64 r, .int .i64 a, .int .i64 kd, .int .i64 cn, .slice q2 m qc2, .slice s2 n sc2, .slice u2 l uc2]] w fun e w' => e = .returned (.bool true) ∧ Below w.heap.size w w' := by
  have H0 : Hid (∀ W, Below w.heap.size w W → Calls Tryz.prog 43 #[.agg #[.int .i64 kd, .int .i64 cn, .slice q1 m qc1], .agg #[.int .i64 kd, .int .i64 cn, .slice q2 m qc2]] W fun e w' => e = .returned (.bool true) ∧ Below W.heap.size W w') := fun W hW => by
    unfold szI at hsz
    refine (eqCell_any kd cn kd cn q1 q2 m m qc1 qc2 x.c.2.2 x.c.2.2 W hm hm (by omega) (by omega) (h1.below hW) (h2.below hW)).mono ?_
    rintro e w5 ⟨rfl, h⟩
    exact ⟨by simp, h⟩
  have H1 : Hid (∀ W, Below w.heap.size w W → Calls Tryz.prog 15 #[.slice s1 n sc1, .slice s2 n sc2] W fun e w' => e = .returned (.bool true) ∧ Below W.heap.size W w') := fun W hW => by
    unfold szI at hsz
    rw [hn]
    refine (eqCellS_any s1 s2 sc1 sc2 x.K x.K W (by omega) (by omega) (h3.below hW) (h4.below hW)).mono ?_
    rintro e w5 ⟨rfl, h⟩
    exact ⟨by simp, h⟩
  have H2 : Hid (∀ W, Below w.heap.size w W → Calls Tryz.prog 120 #[.slice u1 l uc1, .slice u2 l uc2] W fun e w' => e = .returned (.bool true) ∧ Below W.heap.size W w') := fun W hW => by
    unfold szI at hsz
    refine (eqIntL_any u1 u2 l l uc1 uc2 x.L W hl hl (by omega) (h5.below hW) (h6.below hW)).mono ?_
    rintro e w5 ⟨rfl, n5, rfl⟩
    exact ⟨rfl, below_drewN (Below.refl _ _) _⟩
  have HB : Hid (∀ a b, Below w.heap.size w ((w.alloc a).alloc b)) := fun a b => ((Below.refl _ _).alloc (Nat.le_refl _) _).alloc (by simp) _
  clear hm hn hl hsz h1 h2 h3 h4 h5 h6
  go_enter Tryz.func84, Tryz.ntmps84
  go_wp2_with fail
  refine (H0.out _ (HB.out _ _)).mono ?_
  rintro e w1 ⟨rfl, hb1⟩
  have HB1 : Hid (Below w.heap.size w w1) := Below.on (HB.out _ _) hb1
  have HX : Hid (BoxL w1 w.heap.size [.int .i64 op, .int .i64 r, .int .i64 a, .int .i64 kd, .int .i64 cn, .slice q1 m qc1, .slice s1 n sc1, .slice u1 l uc1] ∧ BoxL w1 (w.heap.size + 1) [.int .i64 op, .int .i64 r, .int .i64 a, .int .i64 kd, .int .i64 cn, .slice q2 m qc2, .slice s2 n sc2, .slice u2 l uc2]) := ⟨BoxL.of_block ((hb1.block w.heap.size (by simp; omega)).trans (heap_twoL w _ _).1), BoxL.of_block ((hb1.block (w.heap.size + 1) (by simp)).trans (heap_twoL w _ _).2)⟩
  clear hb1
  have x0 : w1.cell? ⟨w.heap.size, 0, none⟩ = some (.int .i64 op) := HX.out.1.2.1 0 (by simp)
  have y0 : w1.cell? ⟨w.heap.size + 1, 0, none⟩ = some (.int .i64 op) := HX.out.2.2.1 0 (by simp)
  have x1 : w1.cell? ⟨w.heap.size, 1, none⟩ = some (.int .i64 r) := HX.out.1.2.1 1 (by simp)
  have y1 : w1.cell? ⟨w.heap.size + 1, 1, none⟩ = some (.int .i64 r) := HX.out.2.2.1 1 (by simp)
  have x2 : w1.cell? ⟨w.heap.size, 2, none⟩ = some (.int .i64 a) := HX.out.1.2.1 2 (by simp)
  have y2 : w1.cell? ⟨w.heap.size + 1, 2, none⟩ = some (.int .i64 a) := HX.out.2.2.1 2 (by simp)
  have x3 : w1.cell? ⟨w.heap.size, 3, none⟩ = some (.int .i64 kd) := HX.out.1.2.1 3 (by simp)
  have y3 : w1.cell? ⟨w.heap.size + 1, 3, none⟩ = some (.int .i64 kd) := HX.out.2.2.1 3 (by simp)
  have x4 : w1.cell? ⟨w.heap.size, 4, none⟩ = some (.int .i64 cn) := HX.out.1.2.1 4 (by simp)
  have y4 : w1.cell? ⟨w.heap.size + 1, 4, none⟩ = some (.int .i64 cn) := HX.out.2.2.1 4 (by simp)
  have x5 : w1.cell? ⟨w.heap.size, 5, none⟩ = some (.slice q1 m qc1) := HX.out.1.2.1 5 (by simp)
  have y5 : w1.cell? ⟨w.heap.size + 1, 5, none⟩ = some (.slice q2 m qc2) := HX.out.2.2.1 5 (by simp)
  have x6 : w1.cell? ⟨w.heap.size, 6, none⟩ = some (.slice s1 n sc1) := HX.out.1.2.1 6 (by simp)
  have y6 : w1.cell? ⟨w.heap.size + 1, 6, none⟩ = some (.slice s2 n sc2) := HX.out.2.2.1 6 (by simp)
  have x7 : w1.cell? ⟨w.heap.size, 7, none⟩ = some (.slice u1 l uc1) := HX.out.1.2.1 7 (by simp)
  have y7 : w1.cell? ⟨w.heap.size + 1, 7, none⟩ = some (.slice u2 l uc2) := HX.out.2.2.1 7 (by simp)
  go_wp2_with fail
  refine (H1.out _ HB1.out).mono ?_
  rintro e w2 ⟨rfl, hb⟩
  have HB2 : Hid (Below w.heap.size w w2) := Below.on HB1.out hb
  have HX2 : Hid (BoxL w2 w.heap.size [.int .i64 op, .int .i64 r, .int .i64 a, .int .i64 kd, .int .i64 cn, .slice q1 m qc1, .slice s1 n sc1, .slice u1 l uc1] ∧ BoxL w2 (w.heap.size + 1) [.int .i64 op, .int .i64 r, .int .i64 a, .int .i64 kd, .int .i64 cn, .slice q2 m qc2, .slice s2 n sc2, .slice u2 l uc2]) := ⟨HX.out.1.below hb, HX.out.2.below hb⟩
  clear hb x0 y0 x1 y1 x2 y2 x3 y3 x4 y4 x5 y5 x6 y6 x7 y7
  have x0 : w2.cell? ⟨w.heap.size, 0, none⟩ = some (.int .i64 op) := HX2.out.1.2.1 0 (by simp)
  have y0 : w2.cell? ⟨w.heap.size + 1, 0, none⟩ = some (.int .i64 op) := HX2.out.2.2.1 0 (by simp)
  have x1 : w2.cell? ⟨w.heap.size, 1, none⟩ = some (.int .i64 r) := HX2.out.1.2.1 1 (by simp)
  have y1 : w2.cell? ⟨w.heap.size + 1, 1, none⟩ = some (.int .i64 r) := HX2.out.2.2.1 1 (by simp)
  have x2 : w2.cell? ⟨w.heap.size, 2, none⟩ = some (.int .i64 a) := HX2.out.1.2.1 2 (by simp)
  have y2 : w2.cell? ⟨w.heap.size + 1, 2, none⟩ = some (.int .i64 a) := HX2.out.2.2.1 2 (by simp)
  have x3 : w2.cell? ⟨w.heap.size, 3, none⟩ = some (.int .i64 kd) := HX2.out.1.2.1 3 (by simp)
  have y3 : w2.cell? ⟨w.heap.size + 1, 3, none⟩ = some (.int .i64 kd) := HX2.out.2.2.1 3 (by simp)
  have x4 : w2.cell? ⟨w.heap.size, 4, none⟩ = some (.int .i64 cn) := HX2.out.1.2.1 4 (by simp)
  have y4 : w2.cell? ⟨w.heap.size + 1, 4, none⟩ = some (.int .i64 cn) := HX2.out.2.2.1 4 (by simp)
  have x5 : w2.cell? ⟨w.heap.size, 5, none⟩ = some (.slice q1 m qc1) := HX2.out.1.2.1 5 (by simp)
  have y5 : w2.cell? ⟨w.heap.size + 1, 5, none⟩ = some (.slice q2 m qc2) := HX2.out.2.2.1 5 (by simp)
  have x6 : w2.cell? ⟨w.heap.size, 6, none⟩ = some (.slice s1 n sc1) := HX2.out.1.2.1 6 (by simp)
  have y6 : w2.cell? ⟨w.heap.size + 1, 6, none⟩ = some (.slice s2 n sc2) := HX2.out.2.2.1 6 (by simp)
  have x7 : w2.cell? ⟨w.heap.size, 7, none⟩ = some (.slice u1 l uc1) := HX2.out.1.2.1 7 (by simp)
  have y7 : w2.cell? ⟨w.heap.size + 1, 7, none⟩ = some (.slice u2 l uc2) := HX2.out.2.2.1 7 (by simp)
  go_wp2_with fail
  refine (H2.out _ HB2.out).mono ?_
  rintro e w3 ⟨rfl, hb⟩
  have HB3 : Hid (Below w.heap.size w w3) := Below.on HB2.out hb
  have HX3 : Hid (BoxL w3 w.heap.size [.int .i64 op, .int .i64 r, .int .i64 a, .int .i64 kd, .int .i64 cn, .slice q1 m qc1, .slice s1 n sc1, .slice u1 l uc1] ∧ BoxL w3 (w.heap.size + 1) [.int .i64 op, .int .i64 r, .int .i64 a, .int .i64 kd, .int .i64 cn, .slice q2 m qc2, .slice s2 n sc2, .slice u2 l uc2]) := ⟨HX2.out.1.below hb, HX2.out.2.below hb⟩
  clear hb x0 y0 x1 y1 x2 y2 x3 y3 x4 y4 x5 y5 x6 y6 x7 y7
  have x0 : w3.cell? ⟨w.heap.size, 0, none⟩ = some (.int .i64 op) := HX3.out.1.2.1 0 (by simp)
  have y0 : w3.cell? ⟨w.heap.size + 1, 0, none⟩ = some (.int .i64 op) := HX3.out.2.2.1 0 (by simp)
  have x1 : w3.cell? ⟨w.heap.size, 1, none⟩ = some (.int .i64 r) := HX3.out.1.2.1 1 (by simp)
  have y1 : w3.cell? ⟨w.heap.size + 1, 1, none⟩ = some (.int .i64 r) := HX3.out.2.2.1 1 (by simp)
  have x2 : w3.cell? ⟨w.heap.size, 2, none⟩ = some (.int .i64 a) := HX3.out.1.2.1 2 (by simp)
  have y2 : w3.cell? ⟨w.heap.size + 1, 2, none⟩ = some (.int .i64 a) := HX3.out.2.2.1 2 (by simp)
  have x3 : w3.cell? ⟨w.heap.size, 3, none⟩ = some (.int .i64 kd) := HX3.out.1.2.1 3 (by simp)
  have y3 : w3.cell? ⟨w.heap.size + 1, 3, none⟩ = some (.int .i64 kd) := HX3.out.2.2.1 3 (by simp)
  have x4 : w3.cell? ⟨w.heap.size, 4, none⟩ = some (.int .i64 cn) := HX3.out.1.2.1 4 (by simp)
  have y4 : w3.cell? ⟨w.heap.size + 1, 4, none⟩ = some (.int .i64 cn) := HX3.out.2.2.1 4 (by simp)
  have x5 : w3.cell? ⟨w.heap.size, 5, none⟩ = some (.slice q1 m qc1) := HX3.out.1.2.1 5 (by simp)
  have y5 : w3.cell? ⟨w.heap.size + 1, 5, none⟩ = some (.slice q2 m qc2) := HX3.out.2.2.1 5 (by simp)
  have x6 : w3.cell? ⟨w.heap.size, 6, none⟩ = some (.slice s1 n sc1) := HX3.out.1.2.1 6 (by simp)
  have y6 : w3.cell? ⟨w.heap.size + 1, 6, none⟩ = some (.slice s2 n sc2) := HX3.out.2.2.1 6 (by simp)
  have x7 : w3.cell? ⟨w.heap.size, 7, none⟩ = some (.slice u1 l uc1) := HX3.out.1.2.1 7 (by simp)
  have y7 : w3.cell? ⟨w.heap.size + 1, 7, none⟩ = some (.slice u2 l uc2) := HX3.out.2.2.1 7 (by simp)
  go_wp2_with fail
  go_ret
  exact ⟨rfl, HB3.out⟩
set_option maxRecDepth 100000 in
set_option maxHeartbeats 2000000 in
theorem eqInsS_any (p q : Option Addr) (N c1 c2 : Nat) (xs : List Iv) (w : World) (hn : N = xs.length) (hl : xs.length + szIs xs ≤ 100000000) (hx : IvIn w p xs) (hy : IvIn w q xs) :
    Calls Tryz.prog 55 #[.slice p N c1, .slice q N c2] w fun e w' => e = .returned (.bool true) ∧ Below w.heap.size w w' := by
  have HX : Hid (IvIn w p xs ∧ IvIn w q xs) := ⟨hx, hy⟩
  have HN : Hid (N = xs.length ∧ xs.length + szIs xs ≤ 100000000) := ⟨hn, hl⟩
  have hnb : N ≤ 100000000 := by omega
  clear hx hy hn hl
  go_enter Tryz.func55, Tryz.ntmps55
  go_wp2_with fail
  go_loopw [5] (fun i wr => ∃ (k : Nat), k ≤ N ∧ i = .int .i64 k ∧ Hid (Below w.heap.size w wr)) (fun i _ => N - (intOf i).toNat)
  case atStart => exact ⟨0, Nat.zero_le _, rfl, Below.refl _ _⟩
  case round =>
    obtain ⟨k, hk, rfl, HB⟩ := hrel
    by_cases hlt : k < N
    · have hkl : k < xs.length := by rw [← HN.out.1]; exact hlt
      obtain ⟨b, o, rfl, hcx⟩ := (HX.out.1.below HB.out) (by omega)
      obtain ⟨b', o', rfl, hcy⟩ := (HX.out.2.below HB.out) (by omega)
      obtain ⟨q1, qc1, s1, sc1, u1, uc1, d100, d101, d102, d103⟩ := hcx k hkl
      obtain ⟨q2, qc2, s2, sc2, u2, uc2, f100, f101, f102, f103⟩ := hcy k hkl
      have hbd := szIs_at xs k hkl
      have hbd2 := HN.out.2
      unfold szI at hbd
      have d0 : wr.cell? ⟨b, o + k * 8, none⟩ = some (.int .i64 (xs.getD k Iv.zero).op) := d100 0 (by omega)
      have f0 : wr.cell? ⟨b', o' + k * 8, none⟩ = some (.int .i64 (xs.getD k Iv.zero).op) := f100 0 (by omega)
      have d1 : wr.cell? ⟨b, o + k * 8 + 1, none⟩ = some (.int .i64 (xs.getD k Iv.zero).r) := d100 1 (by omega)
      have f1 : wr.cell? ⟨b', o' + k * 8 + 1, none⟩ = some (.int .i64 (xs.getD k Iv.zero).r) := f100 1 (by omega)
      have d2 : wr.cell? ⟨b, o + k * 8 + 2, none⟩ = some (.int .i64 (xs.getD k Iv.zero).a) := d100 2 (by omega)
      have f2 : wr.cell? ⟨b', o' + k * 8 + 2, none⟩ = some (.int .i64 (xs.getD k Iv.zero).a) := f100 2 (by omega)
      have d3 : wr.cell? ⟨b, o + k * 8 + 3, none⟩ = some (.int .i64 (xs.getD k Iv.zero).c.1) := d100 3 (by omega)
      have f3 : wr.cell? ⟨b', o' + k * 8 + 3, none⟩ = some (.int .i64 (xs.getD k Iv.zero).c.1) := f100 3 (by omega)
      have d4 : wr.cell? ⟨b, o + k * 8 + 4, none⟩ = some (.int .i64 (xs.getD k Iv.zero).c.2.1) := d100 4 (by omega)
      have f4 : wr.cell? ⟨b', o' + k * 8 + 4, none⟩ = some (.int .i64 (xs.getD k Iv.zero).c.2.1) := f100 4 (by omega)
      have d5 : wr.cell? ⟨b, o + k * 8 + 5, none⟩ = some (.slice q1 (xs.getD k Iv.zero).c.2.2.length qc1) := d100 5 (by omega)
      have f5 : wr.cell? ⟨b', o' + k * 8 + 5, none⟩ = some (.slice q2 (xs.getD k Iv.zero).c.2.2.length qc2) := f100 5 (by omega)
      have d6 : wr.cell? ⟨b, o + k * 8 + 6, none⟩ = some (.slice s1 (xs.getD k Iv.zero).K.length sc1) := d100 6 (by omega)
      have f6 : wr.cell? ⟨b', o' + k * 8 + 6, none⟩ = some (.slice s2 (xs.getD k Iv.zero).K.length sc2) := f100 6 (by omega)
      have d7 : wr.cell? ⟨b, o + k * 8 + 7, none⟩ = some (.slice u1 (xs.getD k Iv.zero).L.length uc1) := d100 7 (by omega)
      have f7 : wr.cell? ⟨b', o' + k * 8 + 7, none⟩ = some (.slice u2 (xs.getD k Iv.zero).L.length uc2) := f100 7 (by omega)
      obtain ⟨op, Eop⟩ : ∃ y, y = (xs.getD k Iv.zero).op := ⟨_, rfl⟩
      obtain ⟨r, Er⟩ : ∃ y, y = (xs.getD k Iv.zero).r := ⟨_, rfl⟩
      obtain ⟨a, Ea⟩ : ∃ y, y = (xs.getD k Iv.zero).a := ⟨_, rfl⟩
      obtain ⟨kd, Ekd⟩ : ∃ y, y = (xs.getD k Iv.zero).c.1 := ⟨_, rfl⟩
      obtain ⟨cn, Ecn⟩ : ∃ y, y = (xs.getD k Iv.zero).c.2.1 := ⟨_, rfl⟩
      obtain ⟨m, Em⟩ : ∃ y, y = (xs.getD k Iv.zero).c.2.2.length := ⟨_, rfl⟩
      obtain ⟨n, En⟩ : ∃ y, y = (xs.getD k Iv.zero).K.length := ⟨_, rfl⟩
      obtain ⟨l, El⟩ : ∃ y, y = (xs.getD k Iv.zero).L.length := ⟨_, rfl⟩
      have HS : Hid (∀ W, Below wr.heap.size wr W → Calls Tryz.prog 84 #[.agg #[.int .i64 op, .int .i64 r, .int .i64 a, .int .i64 kd, .int .i64 cn, .slice q1 m qc1, .slice s1 n sc1, .slice u1 l uc1], .agg #[.int .i64 op, .int .i64 r, .int .i64 a, .int .i64 kd, .int .i64 cn, .slice q2 m qc2, .slice s2 n sc2, .slice u2 l uc2]] W fun e w' => e = .returned (.bool true) ∧ Below W.heap.size W w') := fun W hW => eqIns_any (xs.getD k Iv.zero) op r a kd cn q1 q2 m qc1 qc2 s1 s2 n sc1 sc2 u1 u2 l uc1 uc2 W Em En El (by unfold szI; omega) (d101.below hW) (f101.below hW) (d102.below hW) (f102.below hW) (d103.below hW) (f103.below hW)
      rw [← Eop] at d0 f0
      rw [← Er] at d1 f1
      rw [← Ea] at d2 f2
      rw [← Ekd] at d3 f3
      rw [← Ecn] at d4 f4
      rw [← Em] at d5 f5
      rw [← En] at d6 f6
      rw [← El] at d7 f7
      have hk0 : (0 : Int) ≤ (k : Int) := by omega
      have hkn : (k : Int) < (N : Int) := by omega
      clear hcx hcy d100 f100 d101 f101 d102 f102 d103 f103 hbd hbd2 Eop Er Ea Ekd Ecn Em En El
      go_wp2_with fail
      go_region_held3 (fun W => W.cell? ⟨b, o + k * 8, none⟩ = some (.int .i64 op) ∧ W.cell? ⟨b, o + k * 8 + 1, none⟩ = some (.int .i64 r) ∧ W.cell? ⟨b, o + k * 8 + 2, none⟩ = some (.int .i64 a) ∧ W.cell? ⟨b, o + k * 8 + 3, none⟩ = some (.int .i64 kd) ∧ W.cell? ⟨b, o + k * 8 + 4, none⟩ = some (.int .i64 cn) ∧ W.cell? ⟨b, o + k * 8 + 5, none⟩ = some (.slice q1 m qc1) ∧ W.cell? ⟨b, o + k * 8 + 6, none⟩ = some (.slice s1 n sc1) ∧ W.cell? ⟨b, o + k * 8 + 7, none⟩ = some (.slice u1 l uc1) ∧ W.cell? ⟨b', o' + k * 8, none⟩ = some (.int .i64 op) ∧ W.cell? ⟨b', o' + k * 8 + 1, none⟩ = some (.int .i64 r) ∧ W.cell? ⟨b', o' + k * 8 + 2, none⟩ = some (.int .i64 a) ∧ W.cell? ⟨b', o' + k * 8 + 3, none⟩ = some (.int .i64 kd) ∧ W.cell? ⟨b', o' + k * 8 + 4, none⟩ = some (.int .i64 cn) ∧ W.cell? ⟨b', o' + k * 8 + 5, none⟩ = some (.slice q2 m qc2) ∧ W.cell? ⟨b', o' + k * 8 + 6, none⟩ = some (.slice s2 n sc2) ∧ W.cell? ⟨b', o' + k * 8 + 7, none⟩ = some (.slice u2 l uc2)) (first | exact kc | go_keep)
        ((go_at_call 84; refine (HS.out _ (Below.refl wr.heap.size wr).drew).mono ?_; rintro e w3 ⟨rfl, hb3⟩; have hb4 : Below wr.heap.size wr w3 := ((Below.refl wr.heap.size wr).drew).trans hb3; have kc : w3.cell? ⟨b, o + k * 8, none⟩ = some (.int .i64 op) ∧ w3.cell? ⟨b, o + k * 8 + 1, none⟩ = some (.int .i64 r) ∧ w3.cell? ⟨b, o + k * 8 + 2, none⟩ = some (.int .i64 a) ∧ w3.cell? ⟨b, o + k * 8 + 3, none⟩ = some (.int .i64 kd) ∧ w3.cell? ⟨b, o + k * 8 + 4, none⟩ = some (.int .i64 cn) ∧ w3.cell? ⟨b, o + k * 8 + 5, none⟩ = some (.slice q1 m qc1) ∧ w3.cell? ⟨b, o + k * 8 + 6, none⟩ = some (.slice s1 n sc1) ∧ w3.cell? ⟨b, o + k * 8 + 7, none⟩ = some (.slice u1 l uc1) ∧ w3.cell? ⟨b', o' + k * 8, none⟩ = some (.int .i64 op) ∧ w3.cell? ⟨b', o' + k * 8 + 1, none⟩ = some (.int .i64 r) ∧ w3.cell? ⟨b', o' + k * 8 + 2, none⟩ = some (.int .i64 a) ∧ w3.cell? ⟨b', o' + k * 8 + 3, none⟩ = some (.int .i64 kd) ∧ w3.cell? ⟨b', o' + k * 8 + 4, none⟩ = some (.int .i64 cn) ∧ w3.cell? ⟨b', o' + k * 8 + 5, none⟩ = some (.slice q2 m qc2) ∧ w3.cell? ⟨b', o' + k * 8 + 6, none⟩ = some (.slice s2 n sc2) ∧ w3.cell? ⟨b', o' + k * 8 + 7, none⟩ = some (.slice u2 l uc2) := ⟨(hb4.cell (World.block_lt_of_cell? _ _ d0)).trans d0, (hb4.cell (World.block_lt_of_cell? _ _ d1)).trans d1, (hb4.cell (World.block_lt_of_cell? _ _ d2)).trans d2, (hb4.cell (World.block_lt_of_cell? _ _ d3)).trans d3, (hb4.cell (World.block_lt_of_cell? _ _ d4)).trans d4, (hb4.cell (World.block_lt_of_cell? _ _ d5)).trans d5, (hb4.cell (World.block_lt_of_cell? _ _ d6)).trans d6, (hb4.cell (World.block_lt_of_cell? _ _ d7)).trans d7, (hb4.cell (World.block_lt_of_cell? _ _ f0)).trans f0, (hb4.cell (World.block_lt_of_cell? _ _ f1)).trans f1, (hb4.cell (World.block_lt_of_cell? _ _ f2)).trans f2, (hb4.cell (World.block_lt_of_cell? _ _ f3)).trans f3, (hb4.cell (World.block_lt_of_cell? _ _ f4)).trans f4, (hb4.cell (World.block_lt_of_cell? _ _ f5)).trans f5, (hb4.cell (World.block_lt_of_cell? _ _ f6)).trans f6, (hb4.cell (World.block_lt_of_cell? _ _ f7)).trans f7⟩))
      have HB3 : Hid (Below w.heap.size w w3) := Below.on HB.out hb4
      clear hb3 hb4 kc
      go_wp2_with fail
      go_roundw
      case rel => exact ⟨k + 1, by omega, by go_num, HB3⟩
      case measure => simp [intOf]; omega
    · obtain rfl : k = N := by omega
      go_wp2_with fail
      go_ret
      exact ⟨rfl, HB.out⟩
set_option maxRecDepth 100000 in
set_option maxHeartbeats 2000000 in
theorem eqProc_any (x : Pv) (ar : Int) (dy : Bool) (pl : Int) (q1 q2 : Option Addr) (m qc1 qc2 : Nat) (u1 u2 : Option Addr) (l uc1 uc2 : Nat) (w : World) (hm : m = x.nm.length) (hl : l = x.cl.length) (hsz : szV x ≤ 100000000) (h1 : BIn w q1 x.nm) (h2 : BIn w q2 x.nm) (h5 : IIn w u1 x.cl) (h6 : IIn w u2 x.cl) :
    Calls Tryz.prog 85 #[.agg #[.slice q1 m qc1, .int .i64 ar, .bool dy, .int .i64 pl, .slice u1 l uc1], .agg #[.slice q2 m qc2, .int .i64 ar, .bool dy, .int .i64 pl, .slice u2 l uc2]] w fun e w' => e = .returned (.bool true) ∧ Below w.heap.size w w' := by
  have H0 : Hid (∀ W, Below w.heap.size w W → Calls Tryz.prog 13 #[.slice q1 m qc1, .slice q2 m qc2] W fun e w' => e = .returned (.bool true) ∧ Below W.heap.size W w') := fun W hW => by
    unfold szV at hsz
    rw [hm]
    refine (eqByteS_any q1 q2 qc1 qc2 x.nm x.nm W (by omega) (by omega) (h1.below hW) (h2.below hW)).mono ?_
    rintro e w5 ⟨rfl, n5, rfl⟩
    exact ⟨by simp, below_drewN (Below.refl _ _) _⟩
  have H1 : Hid (∀ W, Below w.heap.size w W → Calls Tryz.prog 120 #[.slice u1 l uc1, .slice u2 l uc2] W fun e w' => e = .returned (.bool true) ∧ Below W.heap.size W w') := fun W hW => by
    unfold szV at hsz
    refine (eqIntL_any u1 u2 l l uc1 uc2 x.cl W hl hl (by omega) (h5.below hW) (h6.below hW)).mono ?_
    rintro e w5 ⟨rfl, n5, rfl⟩
    exact ⟨rfl, below_drewN (Below.refl _ _) _⟩
  have HB : Hid (∀ a b, Below w.heap.size w ((w.alloc a).alloc b)) := fun a b => ((Below.refl _ _).alloc (Nat.le_refl _) _).alloc (by simp) _
  clear hm hl hsz h1 h2 h5 h6
  go_enter Tryz.func85, Tryz.ntmps85
  go_wp2_with fail
  refine (H0.out _ (HB.out _ _)).mono ?_
  rintro e w1 ⟨rfl, hb1⟩
  have HB1 : Hid (Below w.heap.size w w1) := Below.on (HB.out _ _) hb1
  have HX : Hid (BoxL w1 w.heap.size [.slice q1 m qc1, .int .i64 ar, .bool dy, .int .i64 pl, .slice u1 l uc1] ∧ BoxL w1 (w.heap.size + 1) [.slice q2 m qc2, .int .i64 ar, .bool dy, .int .i64 pl, .slice u2 l uc2]) := ⟨BoxL.of_block ((hb1.block w.heap.size (by simp; omega)).trans (heap_twoL w _ _).1), BoxL.of_block ((hb1.block (w.heap.size + 1) (by simp)).trans (heap_twoL w _ _).2)⟩
  clear hb1
  have x0 : w1.cell? ⟨w.heap.size, 0, none⟩ = some (.slice q1 m qc1) := HX.out.1.2.1 0 (by simp)
  have y0 : w1.cell? ⟨w.heap.size + 1, 0, none⟩ = some (.slice q2 m qc2) := HX.out.2.2.1 0 (by simp)
  have x1 : w1.cell? ⟨w.heap.size, 1, none⟩ = some (.int .i64 ar) := HX.out.1.2.1 1 (by simp)
  have y1 : w1.cell? ⟨w.heap.size + 1, 1, none⟩ = some (.int .i64 ar) := HX.out.2.2.1 1 (by simp)
  have x2 : w1.cell? ⟨w.heap.size, 2, none⟩ = some (.bool dy) := HX.out.1.2.1 2 (by simp)
  have y2 : w1.cell? ⟨w.heap.size + 1, 2, none⟩ = some (.bool dy) := HX.out.2.2.1 2 (by simp)
  have x3 : w1.cell? ⟨w.heap.size, 3, none⟩ = some (.int .i64 pl) := HX.out.1.2.1 3 (by simp)
  have y3 : w1.cell? ⟨w.heap.size + 1, 3, none⟩ = some (.int .i64 pl) := HX.out.2.2.1 3 (by simp)
  have x4 : w1.cell? ⟨w.heap.size, 4, none⟩ = some (.slice u1 l uc1) := HX.out.1.2.1 4 (by simp)
  have y4 : w1.cell? ⟨w.heap.size + 1, 4, none⟩ = some (.slice u2 l uc2) := HX.out.2.2.1 4 (by simp)
  go_wp2_with fail
  refine (H1.out _ HB1.out).mono ?_
  rintro e w2 ⟨rfl, hb⟩
  have HB2 : Hid (Below w.heap.size w w2) := Below.on HB1.out hb
  have HX2 : Hid (BoxL w2 w.heap.size [.slice q1 m qc1, .int .i64 ar, .bool dy, .int .i64 pl, .slice u1 l uc1] ∧ BoxL w2 (w.heap.size + 1) [.slice q2 m qc2, .int .i64 ar, .bool dy, .int .i64 pl, .slice u2 l uc2]) := ⟨HX.out.1.below hb, HX.out.2.below hb⟩
  clear hb x0 y0 x1 y1 x2 y2 x3 y3 x4 y4
  have x0 : w2.cell? ⟨w.heap.size, 0, none⟩ = some (.slice q1 m qc1) := HX2.out.1.2.1 0 (by simp)
  have y0 : w2.cell? ⟨w.heap.size + 1, 0, none⟩ = some (.slice q2 m qc2) := HX2.out.2.2.1 0 (by simp)
  have x1 : w2.cell? ⟨w.heap.size, 1, none⟩ = some (.int .i64 ar) := HX2.out.1.2.1 1 (by simp)
  have y1 : w2.cell? ⟨w.heap.size + 1, 1, none⟩ = some (.int .i64 ar) := HX2.out.2.2.1 1 (by simp)
  have x2 : w2.cell? ⟨w.heap.size, 2, none⟩ = some (.bool dy) := HX2.out.1.2.1 2 (by simp)
  have y2 : w2.cell? ⟨w.heap.size + 1, 2, none⟩ = some (.bool dy) := HX2.out.2.2.1 2 (by simp)
  have x3 : w2.cell? ⟨w.heap.size, 3, none⟩ = some (.int .i64 pl) := HX2.out.1.2.1 3 (by simp)
  have y3 : w2.cell? ⟨w.heap.size + 1, 3, none⟩ = some (.int .i64 pl) := HX2.out.2.2.1 3 (by simp)
  have x4 : w2.cell? ⟨w.heap.size, 4, none⟩ = some (.slice u1 l uc1) := HX2.out.1.2.1 4 (by simp)
  have y4 : w2.cell? ⟨w.heap.size + 1, 4, none⟩ = some (.slice u2 l uc2) := HX2.out.2.2.1 4 (by simp)
  go_wp2_with fail
  go_ret
  exact ⟨rfl, HB2.out⟩
set_option maxRecDepth 100000 in
set_option maxHeartbeats 2000000 in
theorem eqProcS_any (p q : Option Addr) (N c1 c2 : Nat) (xs : List Pv) (w : World) (hn : N = xs.length) (hl : xs.length + szVs xs ≤ 100000000) (hx : PvIn w p xs) (hy : PvIn w q xs) :
    Calls Tryz.prog 56 #[.slice p N c1, .slice q N c2] w fun e w' => e = .returned (.bool true) ∧ Below w.heap.size w w' := by
  have HX : Hid (PvIn w p xs ∧ PvIn w q xs) := ⟨hx, hy⟩
  have HN : Hid (N = xs.length ∧ xs.length + szVs xs ≤ 100000000) := ⟨hn, hl⟩
  have hnb : N ≤ 100000000 := by omega
  clear hx hy hn hl
  go_enter Tryz.func56, Tryz.ntmps56
  go_wp2_with fail
  go_loopw [5] (fun i wr => ∃ (k : Nat), k ≤ N ∧ i = .int .i64 k ∧ Hid (Below w.heap.size w wr)) (fun i _ => N - (intOf i).toNat)
  case atStart => exact ⟨0, Nat.zero_le _, rfl, Below.refl _ _⟩
  case round =>
    obtain ⟨k, hk, rfl, HB⟩ := hrel
    by_cases hlt : k < N
    · have hkl : k < xs.length := by rw [← HN.out.1]; exact hlt
      obtain ⟨b, o, rfl, hcx⟩ := (HX.out.1.below HB.out) (by omega)
      obtain ⟨b', o', rfl, hcy⟩ := (HX.out.2.below HB.out) (by omega)
      obtain ⟨q1, qc1, u1, uc1, d100, d101, d102⟩ := hcx k hkl
      obtain ⟨q2, qc2, u2, uc2, f100, f101, f102⟩ := hcy k hkl
      have hbd := szVs_at xs k hkl
      have hbd2 := HN.out.2
      unfold szV at hbd
      have d0 : wr.cell? ⟨b, o + k * 5, none⟩ = some (.slice q1 (xs.getD k Pv.zero).nm.length qc1) := d100 0 (by omega)
      have f0 : wr.cell? ⟨b', o' + k * 5, none⟩ = some (.slice q2 (xs.getD k Pv.zero).nm.length qc2) := f100 0 (by omega)
      have d1 : wr.cell? ⟨b, o + k * 5 + 1, none⟩ = some (.int .i64 (xs.getD k Pv.zero).ar) := d100 1 (by omega)
      have f1 : wr.cell? ⟨b', o' + k * 5 + 1, none⟩ = some (.int .i64 (xs.getD k Pv.zero).ar) := f100 1 (by omega)
      have d2 : wr.cell? ⟨b, o + k * 5 + 2, none⟩ = some (.bool (xs.getD k Pv.zero).dy) := d100 2 (by omega)
      have f2 : wr.cell? ⟨b', o' + k * 5 + 2, none⟩ = some (.bool (xs.getD k Pv.zero).dy) := f100 2 (by omega)
      have d3 : wr.cell? ⟨b, o + k * 5 + 3, none⟩ = some (.int .i64 (xs.getD k Pv.zero).pl) := d100 3 (by omega)
      have f3 : wr.cell? ⟨b', o' + k * 5 + 3, none⟩ = some (.int .i64 (xs.getD k Pv.zero).pl) := f100 3 (by omega)
      have d4 : wr.cell? ⟨b, o + k * 5 + 4, none⟩ = some (.slice u1 (xs.getD k Pv.zero).cl.length uc1) := d100 4 (by omega)
      have f4 : wr.cell? ⟨b', o' + k * 5 + 4, none⟩ = some (.slice u2 (xs.getD k Pv.zero).cl.length uc2) := f100 4 (by omega)
      obtain ⟨m, Em⟩ : ∃ y, y = (xs.getD k Pv.zero).nm.length := ⟨_, rfl⟩
      obtain ⟨ar, Ear⟩ : ∃ y, y = (xs.getD k Pv.zero).ar := ⟨_, rfl⟩
      obtain ⟨dy, Edy⟩ : ∃ y, y = (xs.getD k Pv.zero).dy := ⟨_, rfl⟩
      obtain ⟨pl, Epl⟩ : ∃ y, y = (xs.getD k Pv.zero).pl := ⟨_, rfl⟩
      obtain ⟨l, El⟩ : ∃ y, y = (xs.getD k Pv.zero).cl.length := ⟨_, rfl⟩
      have HS : Hid (∀ W, Below wr.heap.size wr W → Calls Tryz.prog 85 #[.agg #[.slice q1 m qc1, .int .i64 ar, .bool dy, .int .i64 pl, .slice u1 l uc1], .agg #[.slice q2 m qc2, .int .i64 ar, .bool dy, .int .i64 pl, .slice u2 l uc2]] W fun e w' => e = .returned (.bool true) ∧ Below W.heap.size W w') := fun W hW => eqProc_any (xs.getD k Pv.zero) ar dy pl q1 q2 m qc1 qc2 u1 u2 l uc1 uc2 W Em El (by unfold szV; omega) (d101.below hW) (f101.below hW) (d102.below hW) (f102.below hW)
      rw [← Em] at d0 f0
      rw [← Ear] at d1 f1
      rw [← Edy] at d2 f2
      rw [← Epl] at d3 f3
      rw [← El] at d4 f4
      have hk0 : (0 : Int) ≤ (k : Int) := by omega
      have hkn : (k : Int) < (N : Int) := by omega
      clear hcx hcy d100 f100 d101 f101 d102 f102 hbd hbd2 Em Ear Edy Epl El
      go_wp2_with fail
      go_region_held3 (fun W => W.cell? ⟨b, o + k * 5, none⟩ = some (.slice q1 m qc1) ∧ W.cell? ⟨b, o + k * 5 + 1, none⟩ = some (.int .i64 ar) ∧ W.cell? ⟨b, o + k * 5 + 2, none⟩ = some (.bool dy) ∧ W.cell? ⟨b, o + k * 5 + 3, none⟩ = some (.int .i64 pl) ∧ W.cell? ⟨b, o + k * 5 + 4, none⟩ = some (.slice u1 l uc1) ∧ W.cell? ⟨b', o' + k * 5, none⟩ = some (.slice q2 m qc2) ∧ W.cell? ⟨b', o' + k * 5 + 1, none⟩ = some (.int .i64 ar) ∧ W.cell? ⟨b', o' + k * 5 + 2, none⟩ = some (.bool dy) ∧ W.cell? ⟨b', o' + k * 5 + 3, none⟩ = some (.int .i64 pl) ∧ W.cell? ⟨b', o' + k * 5 + 4, none⟩ = some (.slice u2 l uc2)) (first | exact kc | go_keep)
        ((go_at_call 85; refine (HS.out _ (Below.refl wr.heap.size wr).drew).mono ?_; rintro e w3 ⟨rfl, hb3⟩; have hb4 : Below wr.heap.size wr w3 := ((Below.refl wr.heap.size wr).drew).trans hb3; have kc : w3.cell? ⟨b, o + k * 5, none⟩ = some (.slice q1 m qc1) ∧ w3.cell? ⟨b, o + k * 5 + 1, none⟩ = some (.int .i64 ar) ∧ w3.cell? ⟨b, o + k * 5 + 2, none⟩ = some (.bool dy) ∧ w3.cell? ⟨b, o + k * 5 + 3, none⟩ = some (.int .i64 pl) ∧ w3.cell? ⟨b, o + k * 5 + 4, none⟩ = some (.slice u1 l uc1) ∧ w3.cell? ⟨b', o' + k * 5, none⟩ = some (.slice q2 m qc2) ∧ w3.cell? ⟨b', o' + k * 5 + 1, none⟩ = some (.int .i64 ar) ∧ w3.cell? ⟨b', o' + k * 5 + 2, none⟩ = some (.bool dy) ∧ w3.cell? ⟨b', o' + k * 5 + 3, none⟩ = some (.int .i64 pl) ∧ w3.cell? ⟨b', o' + k * 5 + 4, none⟩ = some (.slice u2 l uc2) := ⟨(hb4.cell (World.block_lt_of_cell? _ _ d0)).trans d0, (hb4.cell (World.block_lt_of_cell? _ _ d1)).trans d1, (hb4.cell (World.block_lt_of_cell? _ _ d2)).trans d2, (hb4.cell (World.block_lt_of_cell? _ _ d3)).trans d3, (hb4.cell (World.block_lt_of_cell? _ _ d4)).trans d4, (hb4.cell (World.block_lt_of_cell? _ _ f0)).trans f0, (hb4.cell (World.block_lt_of_cell? _ _ f1)).trans f1, (hb4.cell (World.block_lt_of_cell? _ _ f2)).trans f2, (hb4.cell (World.block_lt_of_cell? _ _ f3)).trans f3, (hb4.cell (World.block_lt_of_cell? _ _ f4)).trans f4⟩))
      have HB3 : Hid (Below w.heap.size w w3) := Below.on HB.out hb4
      clear hb3 hb4 kc
      go_wp2_with fail
      go_roundw
      case rel => exact ⟨k + 1, by omega, by go_num, HB3⟩
      case measure => simp [intOf]; omega
    · obtain rfl : k = N := by omega
      go_wp2_with fail
      go_ret
      exact ⟨rfl, HB.out⟩
set_option maxRecDepth 100000 in
set_option maxHeartbeats 2000000 in
theorem eqCode_any (xs : List Iv) (vs : List Pv) (p1 p2 : Option Addr) (N pc1 pc2 : Nat) (g1 g2 : Option Addr) (M gc1 gc2 : Nat) (w : World) (hN : N = xs.length) (hM : M = vs.length) (hsz : szK2 xs vs ≤ 100000000) (h1 : IvIn w p1 xs) (h2 : IvIn w p2 xs) (h5 : PvIn w g1 vs) (h6 : PvIn w g2 vs) :
    Calls Tryz.prog 26 #[.agg #[.slice p1 N pc1, .slice g1 M gc1], .agg #[.slice p2 N pc2, .slice g2 M gc2]] w fun e w' => e = .returned (.bool true) ∧ Below w.heap.size w w' := by
  have H0 : Hid (∀ W, Below w.heap.size w W → Calls Tryz.prog 55 #[.slice p1 N pc1, .slice p2 N pc2] W fun e w' => e = .returned (.bool true) ∧ Below W.heap.size W w') := fun W hW => by
    unfold szK2 at hsz
    exact eqInsS_any p1 p2 N pc1 pc2 xs W hN (by omega) (h1.below hW) (h2.below hW)
  have H1 : Hid (∀ W, Below w.heap.size w W → Calls Tryz.prog 56 #[.slice g1 M gc1, .slice g2 M gc2] W fun e w' => e = .returned (.bool true) ∧ Below W.heap.size W w') := fun W hW => by
    unfold szK2 at hsz
    exact eqProcS_any g1 g2 M gc1 gc2 vs W hM (by omega) (h5.below hW) (h6.below hW)
  have HB : Hid (∀ a b, Below w.heap.size w ((w.alloc a).alloc b)) := fun a b => ((Below.refl _ _).alloc (Nat.le_refl _) _).alloc (by simp) _
  clear hN hM hsz h1 h2 h5 h6
  go_enter Tryz.func26, Tryz.ntmps26
  go_wp2_with fail
  refine (H0.out _ (HB.out _ _)).mono ?_
  rintro e w1 ⟨rfl, hb1⟩
  have HB1 : Hid (Below w.heap.size w w1) := Below.on (HB.out _ _) hb1
  have HX : Hid (BoxL w1 w.heap.size [.slice p1 N pc1, .slice g1 M gc1] ∧ BoxL w1 (w.heap.size + 1) [.slice p2 N pc2, .slice g2 M gc2]) := ⟨BoxL.of_block ((hb1.block w.heap.size (by simp; omega)).trans (heap_twoL w _ _).1), BoxL.of_block ((hb1.block (w.heap.size + 1) (by simp)).trans (heap_twoL w _ _).2)⟩
  clear hb1
  have x0 : w1.cell? ⟨w.heap.size, 0, none⟩ = some (.slice p1 N pc1) := HX.out.1.2.1 0 (by simp)
  have y0 : w1.cell? ⟨w.heap.size + 1, 0, none⟩ = some (.slice p2 N pc2) := HX.out.2.2.1 0 (by simp)
  have x1 : w1.cell? ⟨w.heap.size, 1, none⟩ = some (.slice g1 M gc1) := HX.out.1.2.1 1 (by simp)
  have y1 : w1.cell? ⟨w.heap.size + 1, 1, none⟩ = some (.slice g2 M gc2) := HX.out.2.2.1 1 (by simp)
  go_wp2_with fail
  refine (H1.out _ HB1.out).mono ?_
  rintro e w2 ⟨rfl, hb⟩
  have HB2 : Hid (Below w.heap.size w w2) := Below.on HB1.out hb
  have HX2 : Hid (BoxL w2 w.heap.size [.slice p1 N pc1, .slice g1 M gc1] ∧ BoxL w2 (w.heap.size + 1) [.slice p2 N pc2, .slice g2 M gc2]) := ⟨HX.out.1.below hb, HX.out.2.below hb⟩
  clear hb x0 y0 x1 y1
  have x0 : w2.cell? ⟨w.heap.size, 0, none⟩ = some (.slice p1 N pc1) := HX2.out.1.2.1 0 (by simp)
  have y0 : w2.cell? ⟨w.heap.size + 1, 0, none⟩ = some (.slice p2 N pc2) := HX2.out.2.2.1 0 (by simp)
  have x1 : w2.cell? ⟨w.heap.size, 1, none⟩ = some (.slice g1 M gc1) := HX2.out.1.2.1 1 (by simp)
  have y1 : w2.cell? ⟨w.heap.size + 1, 1, none⟩ = some (.slice g2 M gc2) := HX2.out.2.2.1 1 (by simp)
  go_wp2_with fail
  go_ret
  exact ⟨rfl, HB2.out⟩
end Go.Proofs.YtjhbplgppakhoaaGreatDoor

