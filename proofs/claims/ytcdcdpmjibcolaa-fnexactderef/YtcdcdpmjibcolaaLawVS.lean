/- The law FnExactValidStore, walked. Own work of the verifier. -/
import Derived.Test.YtcdcdpmjibcolaaStO
import Derived.Test.YtcdcdpmjibcolaaIntE
import Derived.Test.YtcdcdpmjibcolaaCArg
import Derived.Test.YtcdcdpmjibcolaaMarkC
namespace Go.Proofs.Ytcdcdpmjibcolaa
open Go Go.RowKit
set_option linter.unusedVariables false

/-- What is asked of numbers that came in. -/
structure IArg (w : World) (p : Option Addr) (ys : List Int) : Prop where
  lies : IIn w p ys
  len : ys.length ≤ 9223372036854775807
theorem IArg.below {W W' : World} {p : Option Addr} {ys : List Int} (h : IArg W p ys) (hb : Below W.heap.size W W') : IArg W' p ys := ⟨h.lies.below hb, h.len⟩

theorem szStore_any (p q : Option Addr) (c1 c2 : Nat) (xs : List Cel) (tr : List Int) (L : Nat) (w : World) (hL : L ≤ 1048576) (hx : CArg w p xs) (hy : IArg w q tr) :
    Calls Try.prog 9 #[.agg #[.slice p xs.length c1, .slice q tr.length c2], .int .i64 L] w fun e w' => e = .returned (.int .i64 (szR L (xs.length + tl xs + tr.length))) ∧ Below w.heap.size w w' := by
  have HB0 : Hid (Below w.heap.size w (w.alloc (.cells #[.slice p xs.length c1, .slice q tr.length c2] 25))) := (Below.refl _ _).alloc (Nat.le_refl _) _
  have HS := szCellS_any p c1 xs L _ hL hx.len hx.text (hx.lies.below HB0.out)
  have hyl := hy.len
  have k0 := heap_alloc_new w (.cells #[.slice p xs.length c1, .slice q tr.length c2] 25)
  have HK0 : Hid _ := k0
  clear hx hy k0
  by_cases h : xs.length + tl xs ≤ L
  · obtain ⟨r, er⟩ : ∃ r : Nat, szR L (xs.length + tl xs) = r := ⟨L - (xs.length + tl xs), by rw [szR, if_pos h]; omega⟩
    have hr : Hid (r = L - (xs.length + tl xs)) := by show _ = _; rw [szR, if_pos h] at er; omega
    have hrL : r ≤ 1048576 := by have := hr.out; omega
    have H2 := fun W => szIntS_any q tr.length c2 r W hrL hyl
    rw [er] at HS
    by_cases h2 : tr.length ≤ r
    · have e2 : szR r tr.length = (r : Int) - tr.length := by simp [szR, h2]
      rw [e2] at H2
      have h0 : ¬ ((r : Int) - tr.length < 0) := by omega
      have HE : Hid (szR L (xs.length + tl xs + tr.length) = (r : Int) - tr.length) := by show _ = _; have := hr.out; rw [szR, if_pos (by omega)]; omega
      clear er e2 h
      go_enter Try.func9, Try.ntmps9
      go_wp2_with fail
      refine HS.mono ?_
      rintro e w1 ⟨rfl, hb⟩
      have b0 := (hb.block w.heap.size (by simp)).trans HK0.out
      have s1 : w1.cell? ⟨w.heap.size, 1, none⟩ = some (.slice q tr.length c2) := by simp [World.cell?, b0]
      have HB1 : Hid (Below w.heap.size w w1) := Below.on HB0.out hb
      clear hb HS b0
      go_wp2_with (go_at_call 36; refine (H2 _).mono ?_; rintro e w2 ⟨rfl, rfl⟩)
      go_ret
      exact ⟨ret_int HE.out.symm, HB1.out⟩
    · have e2 : szR r tr.length = -1 := by simp [szR, h2]
      rw [e2] at H2
      have HE : Hid (szR L (xs.length + tl xs + tr.length) = -1) := by show _ = _; have := hr.out; rw [szR, if_neg (by omega)]
      clear er e2 h
      go_enter Try.func9, Try.ntmps9
      go_wp2_with fail
      refine HS.mono ?_
      rintro e w1 ⟨rfl, hb⟩
      have b0 := (hb.block w.heap.size (by simp)).trans HK0.out
      have s1 : w1.cell? ⟨w.heap.size, 1, none⟩ = some (.slice q tr.length c2) := by simp [World.cell?, b0]
      have HB1 : Hid (Below w.heap.size w w1) := Below.on HB0.out hb
      clear hb HS b0
      go_wp2_with (go_at_call 36; refine (H2 _).mono ?_; rintro e w2 ⟨rfl, rfl⟩)
      go_ret
      exact ⟨ret_int HE.out.symm, HB1.out⟩
  · have er : szR L (xs.length + tl xs) = -1 := by rw [szR, if_neg h]
    rw [er] at HS
    have HE : Hid (szR L (xs.length + tl xs + tr.length) = -1) := by show _ = _; rw [szR, if_neg (by omega)]
    clear er
    go_enter Try.func9, Try.ntmps9
    go_wp2_with (go_at_call 32; refine HS.mono ?_; rintro e w1 ⟨rfl, hb⟩)
    go_ret
    exact ⟨ret_int HE.out.symm, Below.on HB0.out hb⟩

theorem OwnC.set {w : World} {B : Nat} {p : Option Addr} {n c : Nat} {cs : List Cel} (h : OwnC w B p n c cs) {a : Addr} (ha : a.block < B) (u : Value) : OwnC (w.setCell a u) B p n c cs := by
  obtain ⟨hn, rs, hl, hr, hf, hx⟩ := h
  refine ⟨hn, rs, hl, ownsRow_setCell_other hr ?_ u, fun i hi => ⟨(hf i hi).1, (hf i hi).2.1, (hf i hi).2.2.setCell (fun hp e => ?_) u⟩, hx⟩
  · intro e
    have := (hr.lt a.block e).1
    omega
  · obtain ⟨g, eg, hB, _⟩ := (hf i hi).2.2.2 hp
    rw [e] at eg
    have := congrArg Addr.block (Option.some.inj eg)
    simp at this; omega
theorem OwnI.set {w : World} {B : Nat} {t : TypeId} {p : Option Addr} {n c : Nat} {zs : List Int} (h : OwnI w B t p n c zs) {a : Addr} (ha : a.block < B) (u : Value) : OwnI (w.setCell a u) B t p n c zs := by
  refine ⟨h.1, ownsRow_setCell_other h.2 ?_ u⟩
  intro e
  have := (h.2.lt a.block e).1
  omega

theorem OwnCU.set {w : World} {B U : Nat} {p : Option Addr} {n c : Nat} {cs : List Cel} (h : OwnCU w B U p n c cs) {a : Addr} (ha : a.block < B) (u : Value) : OwnCU (w.setCell a u) B U p n c cs :=
  h.other (by simp) (fun k _ hk _ => Below.heap_setCell _ _ _ _ (by omega))
theorem OwnCU.mono {w : World} {B B' U : Nat} {p : Option Addr} {n c : Nat} {cs : List Cel} (h : OwnCU w B U p n c cs) (hB : B' ≤ B) : OwnCU w B' U p n c cs := by
  obtain ⟨hn, rs, hl, hr, hf, ha, hu, ht⟩ := h
  exact ⟨hn, rs, hl, ownsRow_down hr hB, fun i hi => ⟨(hf i hi).1, (hf i hi).2.1, (hf i hi).2.2.mono hB⟩, ha, hu, ht⟩

set_option maxRecDepth 100000 in
theorem toStoreU_any (p q : Option Addr) (c1 c2 : Nat) (xs : List Cel) (tr : List Int) (w : World) (hn : xs.length + tl xs ≤ 1048576) (hm : tr.length ≤ 1048576) (hx : CIn w p xs) (hy : IIn w q tr) :
    Calls Try.prog 12 #[.agg #[.slice p xs.length c1, .slice q tr.length c2]] w fun e w' => ∃ g1 g2, e = .returned (.agg #[.slice (some ⟨g1, 0, none⟩) xs.length xs.length, .slice (some ⟨g2, 0, none⟩) tr.length tr.length]) ∧ (∃ M, OwnCU w' w.heap.size M (some ⟨g1, 0, none⟩) xs.length xs.length xs ∧ OwnI w' M 3 (some ⟨g2, 0, none⟩) tr.length tr.length tr ∧ w.heap.size ≤ M ∧ M ≤ w'.heap.size) ∧ Below w.heap.size w w' := by
  have hb0 : Below w.heap.size w (((w.alloc (.cells #[.slice p xs.length c1, .slice q tr.length c2] 25)).alloc (.cells #[.slice none 0 0, .slice none 0 0] 36)).alloc (.cells #[.slice none 0 0, .slice none 0 0] 36)) :=
    (((Below.refl _ _).alloc (Nat.le_refl _) _).alloc (by simp) _).alloc (by simp; omega) _
  have HY : Hid (IIn w q tr) := hy
  have H1 := toCellS_any p c1 xs _ hn (hx.below hb0)
  have k0 : (((w.alloc (.cells #[.slice p xs.length c1, .slice q tr.length c2] 25)).alloc (.cells #[.slice none 0 0, .slice none 0 0] 36)).alloc (.cells #[.slice none 0 0, .slice none 0 0] 36)).heap[w.heap.size]? = some (.cells #[.slice p xs.length c1, .slice q tr.length c2] 25) := by
    rw [Below.heap_alloc _ _ _ (by simp; omega), Below.heap_alloc _ _ _ (by simp)]; exact heap_alloc_new _ _
  have k12 := heap_three w (.cells #[.slice p xs.length c1, .slice q tr.length c2] 25) (.cells #[.slice none 0 0, .slice none 0 0] 36) (.cells #[.slice none 0 0, .slice none 0 0] 36)
  have HK : Hid _ := And.intro k0 k12
  have HB0 : Hid _ := hb0
  simp only [World.size_alloc] at H1
  clear hx hy hb0 k0 k12
  go_enter Try.func12, Try.ntmps12
  go_wp2_with fail
  refine H1.mono ?_
  rintro e w1 ⟨rfl, ho1, hb1⟩
  obtain ⟨k0, k1, k2⟩ := HK.out
  have j0 := (hb1.block w.heap.size (by omega)).trans k0
  have j1 := (hb1.block (w.heap.size + 1) (by omega)).trans k1
  have j2 := (hb1.block (w.heap.size + 1 + 1) (by omega)).trans k2
  have s1 : w1.cell? ⟨w.heap.size, 1, none⟩ = some (.slice q tr.length c2) := by simp [World.cell?, j0]
  have t0 : w1.cell? ⟨w.heap.size + 1 + 1, 0, none⟩ = some (.slice none 0 0) := by simp [World.cell?, j2]
  have t1 : w1.cell? ⟨w.heap.size + 1 + 1, 1, none⟩ = some (.slice none 0 0) := by simp [World.cell?, j2]
  have u0 : w1.cell? ⟨w.heap.size + 1, 0, none⟩ = some (.slice none 0 0) := by simp [World.cell?, j1]
  have u1 : w1.cell? ⟨w.heap.size + 1, 1, none⟩ = some (.slice none 0 0) := by simp [World.cell?, j1]
  have f2 : ∀ i, w1.frozen? ⟨w.heap.size + 1 + 1, i, none⟩ = false := fun i => frozen_of_row _ _ _ _ _ j2
  have f1 : ∀ i, w1.frozen? ⟨w.heap.size + 1, i, none⟩ = false := fun i => frozen_of_row _ _ _ _ _ j1
  have HB1 : Hid (Below w.heap.size w w1) := HB0.out.trans (hb1.mono (by omega))
  have hsz : w.heap.size + 1 + 1 + 1 ≤ w1.heap.size := by have := hb1.size; simpa using this
  have HO1 : Hid (OwnCU w1 (w.heap.size + 1 + 1 + 1) w1.heap.size (some ⟨w.heap.size + 1 + 1 + 1, 0, none⟩) xs.length xs.length xs) := ho1.up
  clear H1 HK k0 k1 k2 j0 j1 j2 hb1 ho1
  obtain ⟨sv, esv⟩ : ∃ v, v = Value.slice (some ⟨w.heap.size + 1 + 1 + 1, 0, none⟩) xs.length xs.length := ⟨_, rfl⟩
  have x1 : (w1.setCell ⟨w.heap.size + 1 + 1, 0, none⟩ sv).cell? ⟨w.heap.size, 1, none⟩ = some (.slice q tr.length c2) := (World.cell?_setCell_other _ _ _ _ (by simp)).trans s1
  have y0 : (w1.setCell ⟨w.heap.size + 1 + 1, 0, none⟩ sv).cell? ⟨w.heap.size + 1 + 1, 0, none⟩ = some sv := World.cell?_setCell_same _ _ _ (by rw [t0])
  have y1 : (w1.setCell ⟨w.heap.size + 1 + 1, 0, none⟩ sv).cell? ⟨w.heap.size + 1 + 1, 1, none⟩ = some (.slice none 0 0) := (World.cell?_setCell_other _ _ _ _ (by simp)).trans t1
  have z0 : (w1.setCell ⟨w.heap.size + 1 + 1, 0, none⟩ sv).cell? ⟨w.heap.size + 1, 0, none⟩ = some (.slice none 0 0) := (World.cell?_setCell_other _ _ _ _ (by simp)).trans u0
  have z1 : (w1.setCell ⟨w.heap.size + 1 + 1, 0, none⟩ sv).cell? ⟨w.heap.size + 1, 1, none⟩ = some (.slice none 0 0) := (World.cell?_setCell_other _ _ _ _ (by simp)).trans u1
  have g2 : ∀ i, (w1.setCell ⟨w.heap.size + 1 + 1, 0, none⟩ sv).frozen? ⟨w.heap.size + 1 + 1, i, none⟩ = false := fun i => by rw [World.frozen?_setCell]; exact f2 i
  have g1 : ∀ i, (w1.setCell ⟨w.heap.size + 1 + 1, 0, none⟩ sv).frozen? ⟨w.heap.size + 1, i, none⟩ = false := fun i => by rw [World.frozen?_setCell]; exact f1 i
  have HO2 : Hid (OwnCU (w1.setCell ⟨w.heap.size + 1 + 1, 0, none⟩ sv) (w.heap.size + 1 + 1 + 1) w1.heap.size (some ⟨w.heap.size + 1 + 1 + 1, 0, none⟩) xs.length xs.length xs) := HO1.out.set (by simp) sv
  have hzW : w1.heap.size = (w1.setCell ⟨w.heap.size + 1 + 1, 0, none⟩ sv).heap.size := by simp
  have HB2 : Hid (Below w.heap.size w (w1.setCell ⟨w.heap.size + 1 + 1, 0, none⟩ sv)) := HB1.out.setCell (p := ⟨w.heap.size + 1 + 1, 0, none⟩) (by simp; omega) sv
  have f20 := f2 0
  have hz2 : w.heap.size + 1 + 1 + 1 ≤ (w1.setCell ⟨w.heap.size + 1 + 1, 0, none⟩ sv).heap.size := by simpa using hsz
  have H2 := toIntS_any q c2 tr (w1.setCell ⟨w.heap.size + 1 + 1, 0, none⟩ sv) hm (HY.out.below HB2.out)
  have HG : Hid _ := And.intro (And.intro y0 y1) (And.intro (And.intro z0 z1) (And.intro g2 g1))
  subst esv
  generalize eW2 : w1.setCell ⟨w.heap.size + 1 + 1, 0, none⟩ (Value.slice (some ⟨w.heap.size + 1 + 1 + 1, 0, none⟩) xs.length xs.length) = W2 at H2 x1 HG HO2 HB2 hz2 hzW
  clear s1 t1 u0 u1 f1 f2 y0 y1 z0 z1 g1 g2 HO1 HB1
  have x1' := x1
  rw [← eW2] at x1'
  have HE2 : Hid _ := eW2
  clear eW2 x1
  go_wp2_with fail
  rw [HE2.out]
  refine H2.mono ?_
  rintro e w3 ⟨rfl, ho3, hb3⟩
  obtain ⟨⟨y0, y1⟩, ⟨z0, z1⟩, g2, g1⟩ := HG.out
  have HO3 : Hid (OwnI w3 W2.heap.size 3 (some ⟨W2.heap.size, 0, none⟩) tr.length tr.length tr) := ⟨rfl, ho3⟩
  have HC3 : Hid (OwnCU w3 (w.heap.size + 1 + 1 + 1) W2.heap.size (some ⟨w.heap.size + 1 + 1 + 1, 0, none⟩) xs.length xs.length xs) := by show OwnCU _ _ _ _ _ _ _; rw [← hzW]; exact HO2.out.below hb3
  have hz3 : W2.heap.size ≤ w3.heap.size := hb3.size
  have HB3 : Hid (Below w.heap.size w w3) := Below.on HB2.out hb3
  have l2 : w.heap.size + 1 + 1 < W2.heap.size := by omega
  have l1 : w.heap.size + 1 < W2.heap.size := by omega
  have a0 := (hb3.cell (p := ⟨w.heap.size + 1 + 1, 0, none⟩) l2).trans y0
  have a1 := (hb3.cell (p := ⟨w.heap.size + 1 + 1, 1, none⟩) l2).trans y1
  have c0 := (hb3.cell (p := ⟨w.heap.size + 1, 0, none⟩) l1).trans z0
  have c1' := (hb3.cell (p := ⟨w.heap.size + 1, 1, none⟩) l1).trans z1
  have h2 : ∀ i, w3.frozen? ⟨w.heap.size + 1 + 1, i, none⟩ = false := fun i => (hb3.frozen (p := ⟨w.heap.size + 1 + 1, i, none⟩) l2).trans (g2 i)
  have h1 : ∀ i, w3.frozen? ⟨w.heap.size + 1, i, none⟩ = false := fun i => (hb3.frozen (p := ⟨w.heap.size + 1, i, none⟩) l1).trans (g1 i)
  clear l1 l2 y0 y1 z0 z1 g1 g2 HG H2 ho3 hb3 HO2 HB2 HE2 x1' f20
  clear hzW
  generalize W2.heap.size = G at HO3 HC3 hz2 hz3 ⊢
  have HD : Hid (∀ sv iv : Value, (((w3.setCell ⟨w.heap.size + 1 + 1, 1, none⟩ iv).setCell ⟨w.heap.size + 1, 0, none⟩ sv).setCell ⟨w.heap.size + 1, 1, none⟩ iv).cell? ⟨w.heap.size + 1, 0, none⟩ = some sv ∧ (((w3.setCell ⟨w.heap.size + 1 + 1, 1, none⟩ iv).setCell ⟨w.heap.size + 1, 0, none⟩ sv).setCell ⟨w.heap.size + 1, 1, none⟩ iv).cell? ⟨w.heap.size + 1, 1, none⟩ = some iv) := fun sv iv =>
    ⟨(World.cell?_setCell_other _ _ _ _ (by simp)).trans (World.cell?_setCell_same _ _ _ (by rw [World.cell?_setCell_other _ _ _ _ (by simp), c0])), World.cell?_setCell_same _ _ _ (by rw [World.cell?_setCell_other _ _ _ _ (by simp), World.cell?_setCell_other _ _ _ _ (by simp), c1'])⟩
  go_wp2
  obtain ⟨d0, d1⟩ := HD.out (.slice (some ⟨w.heap.size + 1 + 1 + 1, 0, none⟩) xs.length xs.length) (.slice (some ⟨G, 0, none⟩) tr.length tr.length)
  refine bodyPost_ret (v := .agg #[.slice (some ⟨w.heap.size + 1 + 1 + 1, 0, none⟩) xs.length xs.length, .slice (some ⟨G, 0, none⟩) tr.length tr.length]) (by simp [results, Try.results12, go_sem, d0, d1]) rfl ⟨_, _, rfl, ⟨G, ?_, ?_, ?_, ?_⟩, ?_⟩
  · exact (((HC3.out.set (by simp) _).set (by simp) _).set (by simp) _).mono (by omega)
  · exact ((HO3.out.set (by simp; omega) _).set (by simp; omega) _).set (by simp; omega) _
  · omega
  · simp; omega
  · exact ((HB3.out.setCell (p := ⟨_, _, none⟩) (by simp; omega) _).setCell (p := ⟨_, _, none⟩) (by simp) _).setCell (p := ⟨_, _, none⟩) (by simp) _
theorem toStore_any (p q : Option Addr) (c1 c2 : Nat) (xs : List Cel) (tr : List Int) (w : World) (hn : xs.length + tl xs ≤ 1048576) (hm : tr.length ≤ 1048576) (hx : CIn w p xs) (hy : IIn w q tr) :
    Calls Try.prog 12 #[.agg #[.slice p xs.length c1, .slice q tr.length c2]] w fun e w' => ∃ g1 g2, e = .returned (.agg #[.slice (some ⟨g1, 0, none⟩) xs.length xs.length, .slice (some ⟨g2, 0, none⟩) tr.length tr.length]) ∧ OwnC w' w.heap.size (some ⟨g1, 0, none⟩) xs.length xs.length xs ∧ OwnI w' w.heap.size 3 (some ⟨g2, 0, none⟩) tr.length tr.length tr ∧ Below w.heap.size w w' := by
  refine (toStoreU_any p q c1 c2 xs tr w hn hm hx hy).mono ?_
  rintro e w' ⟨g1, g2, he, ⟨M, hc, hi, h1, _⟩, hb⟩
  exact ⟨g1, g2, he, hc.toC, hi.mono h1, hb⟩

set_option maxRecDepth 100000 in
theorem eqStore_any (p q p' q' : Option Addr) (c1 c2 c3 c4 : Nat) (xs : List Cel) (tr : List Int) (w : World) (hn : xs.length + tl xs ≤ 1000000000) (hm : tr.length ≤ 1000000000) (hx : CIn w p xs) (hy : IIn w q tr) (hx' : CIn w p' xs) (hy' : IIn w q' tr) :
    Calls Try.prog 16 #[.agg #[.slice p xs.length c1, .slice q tr.length c2], .agg #[.slice p' xs.length c3, .slice q' tr.length c4]] w fun e w' => e = .returned (.bool true) ∧ Below w.heap.size w w' := by
  have hb0 : Below w.heap.size w ((w.alloc (.cells #[.slice p xs.length c1, .slice q tr.length c2] 36)).alloc (.cells #[.slice p' xs.length c3, .slice q' tr.length c4] 36)) := ((Below.refl _ _).alloc (Nat.le_refl _) _).alloc (by simp) _
  have H1 := eqCellS_any p p' c1 c3 xs xs _ hn hn (hx.below hb0) (hx'.below hb0)
  have ht : decide (xs = xs) = true := by simp
  rw [ht] at H1
  have k0 : ((w.alloc (.cells #[.slice p xs.length c1, .slice q tr.length c2] 36)).alloc (.cells #[.slice p' xs.length c3, .slice q' tr.length c4] 36)).heap[w.heap.size]? = some (.cells #[.slice p xs.length c1, .slice q tr.length c2] 36) := by
    rw [Below.heap_alloc _ _ _ (by simp)]; exact heap_alloc_new _ _
  have k1 : ((w.alloc (.cells #[.slice p xs.length c1, .slice q tr.length c2] 36)).alloc (.cells #[.slice p' xs.length c3, .slice q' tr.length c4] 36)).heap[w.heap.size + 1]? = some (.cells #[.slice p' xs.length c3, .slice q' tr.length c4] 36) := by
    have := heap_alloc_new (w.alloc (.cells #[.slice p xs.length c1, .slice q tr.length c2] 36)) (.cells #[.slice p' xs.length c3, .slice q' tr.length c4] 36)
    simpa using this
  have HK : Hid _ := And.intro k0 k1
  have HB0 : Hid _ := hb0
  have HY : Hid (IIn w q tr ∧ IIn w q' tr) := ⟨hy, hy'⟩
  clear hx hy hx' hy' ht k0 k1 hb0
  go_enter Try.func16, Try.ntmps16
  go_wp2_with fail
  refine H1.mono ?_
  rintro e w1 ⟨rfl, hb1⟩
  have j0 := (hb1.block w.heap.size (by simp; omega)).trans HK.out.1
  have j1 := (hb1.block (w.heap.size + 1) (by simp)).trans HK.out.2
  have s0 : w1.cell? ⟨w.heap.size, 1, none⟩ = some (.slice q tr.length c2) := by simp [World.cell?, j0]
  have s1 : w1.cell? ⟨w.heap.size + 1, 1, none⟩ = some (.slice q' tr.length c4) := by simp [World.cell?, j1]
  have HB1 : Hid (Below w.heap.size w w1) := Below.on HB0.out hb1
  have H2 := eqIntL_any q q' tr.length tr.length c2 c4 tr w1 rfl rfl hm (HY.out.1.below HB1.out) (HY.out.2.below HB1.out)
  clear H1 HK hb1 j0 j1
  go_wp2_with fail
  refine H2.mono ?_
  rintro e w2 ⟨rfl, d, rfl⟩
  clear H2 s0 s1
  go_wp2
  go_ret
  exact ⟨rfl, below_drewN HB1.out d⟩

end Go.Proofs.Ytcdcdpmjibcolaa
