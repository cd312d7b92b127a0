/- Texts of VpB, VpF, VpC, RegK3, RegC. Own work of the verifier. -/
import Derived.Test.YtfgaenggbbgboaaGreatDoorUqag
import Derived.Test.YtfgaenggbbgboaaGreatDoorUqac
import Derived.Test.YtfgaenggbbgboaaGreatDoorUqar
import Derived.Test.YtfgaenggbbgboaaGreatDoorUqaq
import Derived.Test.YtfgaenggbbgboaaGreatDoorUqaj
namespace Go.Proofs.YtfgaenggbbgboaaGreatDoor
open Go Go.RowKit
set_option linter.unusedVariables false
def Box4 (w : World) (b : Nat) (v0 v1 v2 v3 : Value) : Prop := w.cell? ⟨b, 0, none⟩ = some v0 ∧ w.cell? ⟨b, 1, none⟩ = some v1 ∧ w.cell? ⟨b, 2, none⟩ = some v2 ∧ w.cell? ⟨b, 3, none⟩ = some v3 ∧ ∀ j, w.frozen? ⟨b, j, none⟩ = false
theorem Box4.of_block {w : World} {b : Nat} {v0 v1 v2 v3 : Value} {t : TypeId} (h : w.heap[b]? = some (.cells #[v0, v1, v2, v3] t)) : Box4 w b v0 v1 v2 v3 :=
  ⟨by simp [World.cell?, h], by simp [World.cell?, h], by simp [World.cell?, h], by simp [World.cell?, h], fun j => frozen_of_row w b j _ t h⟩
theorem Box4.below {w w' : World} {b : Nat} {u0 u1 u2 u3 : Value} (h : Box4 w b u0 u1 u2 u3) (hb : Below w.heap.size w w') : Box4 w' b u0 u1 u2 u3 := by
  have hlt : b < w.heap.size := World.block_lt_of_cell? _ _ h.1
  exact ⟨(hb.cell (p := ⟨b, 0, none⟩) hlt).trans h.1, (hb.cell (p := ⟨b, 1, none⟩) hlt).trans h.2.1, (hb.cell (p := ⟨b, 2, none⟩) hlt).trans h.2.2.1, (hb.cell (p := ⟨b, 3, none⟩) hlt).trans h.2.2.2.1, fun j => (hb.frozen (p := ⟨b, j, none⟩) hlt).trans (h.2.2.2.2 j)⟩
theorem Box4.setCell {w : World} {b : Nat} {u0 u1 u2 u3 : Value} (h : Box4 w b u0 u1 u2 u3) {a : Addr} (ha : a.block ≠ b) (u : Value) : Box4 (w.setCell a u) b u0 u1 u2 u3 :=
  ⟨(World.cell?_setCell_other _ _ _ _ (fun e => ha (by rw [e]))).trans h.1, (World.cell?_setCell_other _ _ _ _ (fun e => ha (by rw [e]))).trans h.2.1, (World.cell?_setCell_other _ _ _ _ (fun e => ha (by rw [e]))).trans h.2.2.1, (World.cell?_setCell_other _ _ _ _ (fun e => ha (by rw [e]))).trans h.2.2.2.1, fun j => by simp [h.2.2.2.2 j]⟩
theorem Box4.set0 {w : World} {b : Nat} {u0 u1 u2 u3 : Value} (h : Box4 w b u0 u1 u2 u3) (u : Value) : Box4 (w.setCell ⟨b, 0, none⟩ u) b u u1 u2 u3 :=
  ⟨World.cell?_setCell_same' _ _ _ (by rw [h.1]; rfl), (World.cell?_setCell_other _ _ _ _ (by simp)).trans h.2.1, (World.cell?_setCell_other _ _ _ _ (by simp)).trans h.2.2.1, (World.cell?_setCell_other _ _ _ _ (by simp)).trans h.2.2.2.1, fun j => by simp [h.2.2.2.2 j]⟩
theorem Box4.set1 {w : World} {b : Nat} {u0 u1 u2 u3 : Value} (h : Box4 w b u0 u1 u2 u3) (u : Value) : Box4 (w.setCell ⟨b, 1, none⟩ u) b u0 u u2 u3 :=
  ⟨(World.cell?_setCell_other _ _ _ _ (by simp)).trans h.1, World.cell?_setCell_same' _ _ _ (by rw [h.2.1]; rfl), (World.cell?_setCell_other _ _ _ _ (by simp)).trans h.2.2.1, (World.cell?_setCell_other _ _ _ _ (by simp)).trans h.2.2.2.1, fun j => by simp [h.2.2.2.2 j]⟩
theorem Box4.set2 {w : World} {b : Nat} {u0 u1 u2 u3 : Value} (h : Box4 w b u0 u1 u2 u3) (u : Value) : Box4 (w.setCell ⟨b, 2, none⟩ u) b u0 u1 u u3 :=
  ⟨(World.cell?_setCell_other _ _ _ _ (by simp)).trans h.1, (World.cell?_setCell_other _ _ _ _ (by simp)).trans h.2.1, World.cell?_setCell_same' _ _ _ (by rw [h.2.2.1]; rfl), (World.cell?_setCell_other _ _ _ _ (by simp)).trans h.2.2.2.1, fun j => by simp [h.2.2.2.2 j]⟩
theorem Box4.set3 {w : World} {b : Nat} {u0 u1 u2 u3 : Value} (h : Box4 w b u0 u1 u2 u3) (u : Value) : Box4 (w.setCell ⟨b, 3, none⟩ u) b u0 u1 u2 u :=
  ⟨(World.cell?_setCell_other _ _ _ _ (by simp)).trans h.1, (World.cell?_setCell_other _ _ _ _ (by simp)).trans h.2.1, (World.cell?_setCell_other _ _ _ _ (by simp)).trans h.2.2.1, World.cell?_setCell_same' _ _ _ (by rw [h.2.2.2.1]; rfl), fun j => by simp [h.2.2.2.2 j]⟩
structure PItem (W : World) (B : Nat) (q r : Option Addr) (x : Prd) : Prop where
  nm : OwnT W B q x.1.length x.1.length x.1
  cl : ∃ U, OwnCC W B U r x.2.2.2.length x.2.2.2.length x.2.2.2
  ti : TightCC W r x.2.2.2
  lo : ∃ g, r = some ⟨g, 0, none⟩ ∧ B ≤ g ∧ g < W.heap.size
theorem PItem.other {W W' : World} {B : Nat} {q r : Option Addr} {x : Prd} (h : PItem W B q r x) (hs : W.heap.size ≤ W'.heap.size) (hb : ∀ k, k < W.heap.size → B ≤ k → W'.heap[k]? = W.heap[k]?) : PItem W' B q r x := by
  obtain ⟨U, ds, hc⟩ := h.cl
  obtain ⟨g, hg, hB, hlt⟩ := h.lo
  refine ⟨h.nm.other hs (fun k hn e => ?_), ⟨U, ds, hc.other hs (fun k h1 h2 _ => hb k h1 h2)⟩, fun b o hp i hi => ?_, ⟨g, hg, hB, Nat.lt_of_lt_of_le hlt hs⟩⟩
  · obtain ⟨k', e', h1, h2, _⟩ := h.nm.2 hn
    rw [e] at e'
    have : k = k' := by simpa using e'
    subst this
    exact hb k h2 h1
  · obtain ⟨p, hp'⟩ := h.ti b o hp i hi
    have : b = g := by rw [hg] at hp; simp only [Option.some.injEq, Addr.mk.injEq] at hp; exact hp.1.symm
    subst this
    exact ⟨p, (World.cell?_of_block (w := W) (hb b hlt hB)).trans hp'⟩
theorem PItem.below {W W' : World} {B : Nat} {q r : Option Addr} {x : Prd} (h : PItem W B q r x) (hb : Below W.heap.size W W') : PItem W' B q r x := h.other hb.size (fun k hk _ => hb.block k hk)
theorem PItem.mono {W : World} {B B' : Nat} {q r : Option Addr} {x : Prd} (h : PItem W B q r x) (hB : B' ≤ B) : PItem W B' q r x := by
  obtain ⟨U, hc⟩ := h.cl
  obtain ⟨g, hg, h1, hlt⟩ := h.lo
  exact ⟨h.nm.mono hB, ⟨U, hc.down hB⟩, h.ti, ⟨g, hg, Nat.le_trans hB h1, hlt⟩⟩
theorem heap_threeA (w : World) (a b c : Obj) : (((w.alloc a).alloc b).alloc c).heap[w.heap.size]? = some a := by
  rw [Below.heap_alloc _ _ _ (by simp; omega), Below.heap_alloc _ _ _ (by simp)]
  exact heap_alloc_new w _
set_option maxRecDepth 100000 in
set_option maxHeartbeats 1000000 in
theorem toPred_any (nm : List Int) (ar : Int) (dy : Bool) (css : List (List Cel)) (q : Option Addr) (m c : Nat) (r : Option Addr) (n d : Nat) (w : World) (hm : m = nm.length) (hn : n = css.length) (hsz : nm.length + (css.length + tll css) ≤ 1048576) (hq : BIn w q nm) (hr : CCArg w r css) :
    Calls Tryz.prog 44 #[.agg #[.slice q m c, .int .i64 ar, .bool dy, .slice r n d]] w fun e w' => ∃ q' r', e = .returned (.agg #[.slice q' m m, .int .i64 ar, .bool dy, .slice r' n n]) ∧ PItem w' w.heap.size q' r' (nm, ar, dy, css) ∧ Below w.heap.size w w' := by
  have HS : Hid (∀ W, Below w.heap.size w W → Calls Tryz.prog 67 #[.slice q m c] W fun e w' => e = .returned (.slice (some ⟨W.heap.size, 0, none⟩) m m) ∧ OwnS w' W.heap.size (some ⟨W.heap.size, 0, none⟩) m m nm ∧ Below W.heap.size W w') := fun W hW => by
    rw [hm]
    refine (toByteS_any q c nm W (by omega) (hq.below hW)).mono ?_
    rintro e w1 ⟨h1, h2, h3⟩
    exact ⟨h1, OwnS.of_row h2, h3⟩
  have HC : Hid (∀ W, Below w.heap.size w W → Calls Tryz.prog 17 #[.slice r n d] W fun e w' => e = .returned (.slice (some ⟨W.heap.size, 0, none⟩) n n) ∧ OwnCC w' W.heap.size w'.heap.size (some ⟨W.heap.size, 0, none⟩) n n css ∧ TightCC w' (some ⟨W.heap.size, 0, none⟩) css ∧ W.heap.size < w'.heap.size ∧ Below W.heap.size W w') := fun W hW => by
    rw [hn]
    refine (toSS_any r d css W (by omega) (hr.below hW)).mono ?_
    rintro e w1 ⟨h1, ⟨ds, h2⟩, h3, h4⟩
    exact ⟨h1, ⟨ds, h2⟩, h3, h2.top _ rfl, h4⟩
  have HM : Hid (m = nm.length ∧ n = css.length) := ⟨hm, hn⟩
  clear hm hn hq hr hsz
  go_enter Tryz.func44, Tryz.ntmps44
  go_wp2_with fail
  have hb0 : ∀ a b c, Below w.heap.size w (((w.alloc a).alloc b).alloc c) := fun a b c => (((Below.refl _ _).alloc (Nat.le_refl _) _).alloc (by simp) _).alloc (by simp; omega) _
  refine (HS.out _ (hb0 _ _ _)).mono ?_
  rintro e w1 ⟨rfl, hown, hb1⟩
  have b0 := Box4.of_block ((hb1.block w.heap.size (by simp; omega)).trans (heap_threeA w _ _ _))
  have b1 := Box4.of_block ((hb1.block (w.heap.size + 1) (by simp)).trans (heap_three w _ _ _).1)
  have b2 := Box4.of_block ((hb1.block (w.heap.size + 1 + 1) (by simp)).trans (heap_three w _ _ _).2)
  simp only [World.size_alloc] at hown
  have HO : Hid (OwnT w1 (w.heap.size + 1 + 1 + 1) (some ⟨w.heap.size + 1 + 1 + 1, 0, none⟩) m m nm) := hown.toT
  have HB1 : Hid (Below w.heap.size w w1) := Below.on (hb0 _ _ _) hb1
  have HG : Hid (w.heap.size + 1 + 1 + 1 ≤ w1.heap.size) := by have := hb1.size; simp at this; exact this
  simp only [World.size_alloc]
  clear hown hb1 hb0
  obtain ⟨W1, hW1⟩ : ∃ W, W = ((w1.setCell ⟨w.heap.size + 1 + 1, 0, none⟩ (Value.slice (some ⟨w.heap.size + 1 + 1 + 1, 0, none⟩) m m)).setCell ⟨w.heap.size + 1 + 1, 1, none⟩ (.int .i64 ar)).setCell ⟨w.heap.size + 1 + 1, 2, none⟩ (.bool dy) := ⟨_, rfl⟩
  have B0 : Box4 W1 w.heap.size (.slice q m c) (.int .i64 ar) (.bool dy) (.slice r n d) := by rw [hW1]; exact ((b0.setCell (a := ⟨w.heap.size + 1 + 1, 0, none⟩) (by first | (simp; done) | (simp; omega)) _).setCell (a := ⟨w.heap.size + 1 + 1, 1, none⟩) (by first | (simp; done) | (simp; omega)) _).setCell (a := ⟨w.heap.size + 1 + 1, 2, none⟩) (by first | (simp; done) | (simp; omega)) _
  have B1 : Box4 W1 (w.heap.size + 1) (.slice none 0 0) (.int .i64 0) (.bool false) (.slice none 0 0) := by rw [hW1]; exact ((b1.setCell (a := ⟨w.heap.size + 1 + 1, 0, none⟩) (by first | (simp; done) | (simp; omega)) _).setCell (a := ⟨w.heap.size + 1 + 1, 1, none⟩) (by first | (simp; done) | (simp; omega)) _).setCell (a := ⟨w.heap.size + 1 + 1, 2, none⟩) (by first | (simp; done) | (simp; omega)) _
  have B2 : Box4 W1 (w.heap.size + 1 + 1) (.slice (some ⟨w.heap.size + 1 + 1 + 1, 0, none⟩) m m) (.int .i64 ar) (.bool dy) (.slice none 0 0) := by rw [hW1]; exact ((b2.set0 _).set1 _).set2 _
  have HBW : Hid (Below w.heap.size w W1) := by
    show Below _ _ _
    rw [hW1]
    exact ((HB1.out.setCell (p := ⟨_, _, none⟩) (by simp; omega) _).setCell (p := ⟨_, _, none⟩) (by simp; omega) _).setCell (p := ⟨_, _, none⟩) (by simp; omega) _
  have HSZ : Hid (W1.heap.size = w1.heap.size) := by show _ = _; rw [hW1]; simp
  have HO1 : Hid (OwnT W1 (w.heap.size + 1 + 1 + 1) (some ⟨w.heap.size + 1 + 1 + 1, 0, none⟩) m m nm) := by
    show OwnT _ _ _ _ _ _
    rw [hW1]
    exact ((HO.out.setCell (ne_block (by simp)) _).setCell (ne_block (by simp)) _).setCell (ne_block (by simp)) _
  have HC1 := HC.out W1 HBW.out
  obtain ⟨a0, a1, a2, a3, _⟩ := b0
  obtain ⟨c20, c21, c22, c23, f2⟩ := b2
  have HBx1 : Hid (Box4 W1 (w.heap.size + 1) (.slice none 0 0) (.int .i64 0) (.bool false) (.slice none 0 0)) := B1
  have HBx2 : Hid (Box4 W1 (w.heap.size + 1 + 1) (.slice (some ⟨w.heap.size + 1 + 1 + 1, 0, none⟩) m m) (.int .i64 ar) (.bool dy) (.slice none 0 0)) := B2
  have HW1 : Hid _ := hW1
  clear b1 B0 B1 B2 hW1 HO
  go_wp2_with fail
  rw [← HW1.out]
  refine HC1.mono ?_
  rintro e w2 ⟨rfl, hcc, hti, hlt, hb2⟩
  have B1 := Box4.below HBx1.out hb2
  have B2 := Box4.below HBx2.out hb2
  have HB2 : Hid (Below w.heap.size w w2) := Below.on HBW.out hb2
  have HIT : Hid (PItem w2 (w.heap.size + 1 + 1 + 1) (some ⟨w.heap.size + 1 + 1 + 1, 0, none⟩) (some ⟨W1.heap.size, 0, none⟩) (nm, ar, dy, css)) := by
    have hG := HG.out
    have hS := HSZ.out
    refine ⟨?_, ⟨w2.heap.size, ?_⟩, hti, ⟨W1.heap.size, rfl, by omega, hlt⟩⟩
    · have := HO1.out.below hb2; rw [← HM.out.1]; exact this
    · have := hcc.down (B' := w.heap.size + 1 + 1 + 1) (by omega); rw [← HM.out.2]; exact this
  have HH2 : Hid (w.heap.size + 1 + 1 + 1 ≤ w2.heap.size) := by have := HG.out; have := HSZ.out; show _ ≤ _; omega
  obtain ⟨N2, eN2⟩ : ∃ N2, N2 = W1.heap.size := ⟨_, rfl⟩
  rw [← eN2] at HIT ⊢
  clear hcc hti hlt hb2 HC1 eN2
  obtain ⟨W2, hW2⟩ : ∃ W, W = w2.setCell ⟨w.heap.size + 1 + 1, 3, none⟩ (.slice (some ⟨N2, 0, none⟩) n n) := ⟨_, rfl⟩
  have C1 : Box4 W2 (w.heap.size + 1) (.slice none 0 0) (.int .i64 0) (.bool false) (.slice none 0 0) := by rw [hW2]; exact B1.setCell (a := ⟨w.heap.size + 1 + 1, 3, none⟩) (by first | (simp; done) | (simp; omega)) _
  have C2 : Box4 W2 (w.heap.size + 1 + 1) (.slice (some ⟨w.heap.size + 1 + 1 + 1, 0, none⟩) m m) (.int .i64 ar) (.bool dy) (.slice (some ⟨N2, 0, none⟩) n n) := by rw [hW2]; exact B2.set3 _
  obtain ⟨_, _, _, g23, f2⟩ := B2
  obtain ⟨W3, hW3⟩ : ∃ W, W = (((W2.setCell ⟨w.heap.size + 1, 0, none⟩ (.slice (some ⟨w.heap.size + 1 + 1 + 1, 0, none⟩) m m)).setCell ⟨w.heap.size + 1, 1, none⟩ (.int .i64 ar)).setCell ⟨w.heap.size + 1, 2, none⟩ (.bool dy)).setCell ⟨w.heap.size + 1, 3, none⟩ (.slice (some ⟨N2, 0, none⟩) n n) := ⟨_, rfl⟩
  have D1 : Box4 W3 (w.heap.size + 1) (.slice (some ⟨w.heap.size + 1 + 1 + 1, 0, none⟩) m m) (.int .i64 ar) (.bool dy) (.slice (some ⟨N2, 0, none⟩) n n) := by rw [hW3]; exact (((C1.set0 _).set1 _).set2 _).set3 _
  have HIT3 : Hid (PItem W3 (w.heap.size + 1 + 1 + 1) (some ⟨w.heap.size + 1 + 1 + 1, 0, none⟩) (some ⟨N2, 0, none⟩) (nm, ar, dy, css)) := by
    refine HIT.out.other (by rw [hW3, hW2]; simp) (fun k h1 h2 => ?_)
    rw [hW3, Below.heap_setCell _ _ _ _ (show k ≠ w.heap.size + 1 by omega), Below.heap_setCell _ _ _ _ (show k ≠ w.heap.size + 1 by omega), Below.heap_setCell _ _ _ _ (show k ≠ w.heap.size + 1 by omega), Below.heap_setCell _ _ _ _ (show k ≠ w.heap.size + 1 by omega), hW2, Below.heap_setCell _ _ _ _ (show k ≠ w.heap.size + 1 + 1 by omega)]
  have HB3 : Hid (Below w.heap.size w W3) := by
    show Below _ _ _
    rw [hW3, hW2]
    exact ((((HB2.out.setCell (p := ⟨_, _, none⟩) (by simp; omega) _).setCell (p := ⟨_, _, none⟩) (by simp) _).setCell (p := ⟨_, _, none⟩) (by simp) _).setCell (p := ⟨_, _, none⟩) (by simp) _).setCell (p := ⟨_, _, none⟩) (by simp) _
  have HD1 : Hid _ := D1
  obtain ⟨x0, x1, x2, x3, y1⟩ := C1
  obtain ⟨z0, z1, z2, z3, _⟩ := C2
  have HW2 : Hid _ := hW2
  have HW3 : Hid _ := hW3
  clear hW3 D1
  rw [hW2] at x0 x1 x2 x3 y1 z0 z1 z2 z3
  clear hW2
  go_wp2_with fail
  obtain ⟨d0, d1, d2, d3, _⟩ := HD1.out
  rw [← HW2.out, ← HW3.out]
  refine bodyPost_ret (v := .agg #[.slice (some ⟨w.heap.size + 1 + 1 + 1, 0, none⟩) m m, .int .i64 ar, .bool dy, .slice (some ⟨N2, 0, none⟩) n n]) (by simp [results, Tryz.results44, go_sem, d0, d1, d2, d3]) rfl ⟨_, _, rfl, HIT3.out.mono (by omega), HB3.out⟩
end Go.Proofs.YtfgaenggbbgboaaGreatDoor

namespace Go.Proofs.YtfgaenggbbgboaaGreatDoor
open Go Go.RowKit
set_option linter.unusedVariables false
set_option maxRecDepth 100000 in
theorem countCl_any (ps : List Prd) (p : Option Addr) (np cp : Nat) (g : Option Addr) (ng cg : Nat) (w : World) (hnp : np = ps.length) (hl : ps.length + szPs ps ≤ 1048576) (hp : PIn w p ps) :
    Calls Tryz.prog 18 #[.agg #[.slice p np cp, .slice g ng cg]] w fun e w' => e = .returned (.int .i64 (cntP ps)) ∧ Below w.heap.size w w' := by
  have HP : Hid (PIn w p ps) := hp
  have HN : Hid (np = ps.length ∧ cntP ps ≤ 1048576) := ⟨hnp, by have := cntP_sz ps; omega⟩
  have hnb : np ≤ 1048576 := by omega
  have HAL : Hid (∀ o, Below w.heap.size w (w.alloc o)) := fun o => (Below.refl _ _).alloc (Nat.le_refl _) _
  clear hp hnp hl
  go_enter Tryz.func18, Tryz.ntmps18
  go_wp2_with fail
  go_loopw [3, 9] (fun s i wr => ∃ (k m : Nat), k ≤ np ∧ i = .int .i64 k ∧ s = .int .i64 m ∧ m ≤ 1048576 ∧ Hid (m = cntP (ps.take k)) ∧ Hid (Below w.heap.size w wr)) (fun _ i _ => np - (intOf i).toNat)
  case atStart => exact ⟨0, 0, Nat.zero_le _, rfl, rfl, by omega, rfl, HAL.out _⟩
  case round =>
    obtain ⟨k, m, hk, rfl, rfl, hm, HM, HB⟩ := hrel
    by_cases hlt : k < np
    · have hkl : k < ps.length := by rw [← HN.out.1]; exact hlt
      obtain ⟨b, o, rfl, hcs⟩ := (HP.out.below HB.out) (by omega)
      obtain ⟨q, qc, r, rc, d0, d1, d2, d3, d4, d5⟩ := hcs k hkl
      have htk : Hid _ := cntP_take ps k hkl
      have htl : Hid _ := cntP_take_le ps (k + 1)
      obtain ⟨n, en⟩ : ∃ x, x = (ps.getD k Prd.zero).2.2.2.length := ⟨_, rfl⟩
      obtain ⟨n1, en1⟩ : ∃ x, x = (ps.getD k Prd.zero).1.length := ⟨_, rfl⟩
      obtain ⟨ar, ear⟩ : ∃ x, x = (ps.getD k Prd.zero).2.1 := ⟨_, rfl⟩
      obtain ⟨dy, edy⟩ : ∃ x, x = (ps.getD k Prd.zero).2.2.1 := ⟨_, rfl⟩
      rw [← en] at d3 htk
      rw [← en1] at d0
      rw [← ear] at d1
      rw [← edy] at d2
      have hn : n ≤ 1048576 := by have := htk.out; have := htl.out; have := HN.out.2; omega
      clear hcs d4 d5 en en1 ear edy
      go_wp2_with fail
      go_roundw
      case rel => exact ⟨k + 1, m + n, by omega, by go_num, by go_num, by have := htk.out; have := htl.out; have := HN.out.2; have := HM.out; omega, by have := htk.out; have := HM.out; show _ = _; omega, HB.out.alloc HB.out.size _⟩
      case measure => simp [intOf]; omega
    · obtain rfl : k = np := by omega
      have hfull : ps.take k = ps := by rw [HN.out.1]; exact List.take_length
      rw [hfull] at HM
      clear hfull
      go_wp2_with fail
      go_ret
      exact ⟨ret_int (by rw [HM.out]), HB.out⟩
set_option maxRecDepth 100000 in
theorem predFun_any (nm : List Int) (ar : Int) (dy : Bool) (q : Option Addr) (m c : Nat) (r : Option Addr) (n d : Nat) (w : World) (hm : m = nm.length) (hq : BIn w q nm) :
    Calls Tryz.prog 19 #[.agg #[.slice q m c, .int .i64 ar, .bool dy, .slice r n d]] w fun e w' => e = .returned (.agg #[.string (strOfNums nm), .int .i64 ar]) ∧ Below w.heap.size w w' := by
  have hcv : ∀ a b, (convert 37 9 (.slice q m c)).run Tryz.prog ((w.alloc a).alloc b) = .ok (.string (strOfNums nm)) ((w.alloc a).alloc b) := fun a b => by
    have hb : Below w.heap.size w ((w.alloc a).alloc b) := ((Below.refl _ _).alloc (Nat.le_refl _) _).alloc (by simp) _
    exact conv_str (hq.below hb) m c hm 9 Tryz.underlying9
  have HB : Hid (∀ a b, Below w.heap.size w ((w.alloc a).alloc b)) := fun a b => ((Below.refl _ _).alloc (Nat.le_refl _) _).alloc (by simp) _
  generalize strOfNums nm = s at hcv ⊢
  clear hm hq
  go_enter Tryz.func19, Tryz.ntmps19
  go_wp2_with fail
  exact bodyPost_ret (v := .agg #[.string s, .int .i64 ar]) (by simp [results, Tryz.results19, go_sem]) rfl ⟨rfl, by first | exact HB.out _ _ | exact (HB.out _ _).setCell (p := ⟨_, _, none⟩) (by simp) _ | exact ((HB.out _ _).setCell (p := ⟨_, _, none⟩) (by simp) _).setCell (p := ⟨_, _, none⟩) (by simp) _⟩
def canN (nm : List Int) (ar : Int) : Bool := decide (nm.length ≤ 100) && (decide (0 ≤ ar) && (decide (ar ≤ 20) && !resvB nm ar))
set_option maxRecDepth 100000 in
theorem canBe_any (nm : List Int) (ar : Int) (w : World) (hb : Byte nm) (hl : nm.length ≤ 1048576) (ha : (Lit.int .i64 ar).wf = true) :
    Calls Tryz.prog 20 #[.agg #[.string (strOfNums nm), .int .i64 ar]] w fun e w' => e = .returned (.bool (canN nm ar)) ∧ Below w.heap.size w w' := by
  have HR : Hid (∀ W, Calls Tryz.prog 46 #[.agg #[.string (strOfNums nm), .int .i64 ar]] W fun e w' => e = .returned (.bool (resvB nm ar)) ∧ Below W.heap.size W w') := fun W => isResF_any nm hb hl ar ha W
  have hsz : (strOfNums nm).size = nm.length := strSize nm
  have HB : Hid (∀ o, Below w.heap.size w (w.alloc o)) := fun o => (Below.refl _ _).alloc (Nat.le_refl _) _
  obtain ⟨s, es⟩ : ∃ s, s = strOfNums nm := ⟨_, rfl⟩
  obtain ⟨n, en⟩ : ∃ n, n = nm.length := ⟨_, rfl⟩
  obtain ⟨R, eR⟩ : ∃ R, R = resvB nm ar := ⟨_, rfl⟩
  have HE : Hid (canN nm ar = (decide (n ≤ 100) && (decide (0 ≤ ar) && (decide (ar ≤ 20) && !R)))) := by show _ = _; rw [canN, en, eR]
  rw [← eR] at HR
  rw [← es] at HR hsz ⊢
  rw [← en] at hsz hl
  rw [HE.out]
  clear hb ha es en eR HE
  by_cases h1 : n ≤ 100
  · have h1' : ((n : Int) ≤ 100) := by omega
    rw [decide_eq_true h1]
    by_cases h2 : 0 ≤ ar
    · rw [decide_eq_true h2]
      by_cases h3 : ar ≤ 20
      · rw [decide_eq_true h3]
        go_enter Tryz.func20, Tryz.ntmps20
        go_wp2_with fail
        refine (HR.out _).mono ?_
        rintro e w1 ⟨rfl, hb1⟩
        have HB1 : Hid (Below w.heap.size w w1) := Below.on (HB.out _) hb1
        clear hb1
        go_wp2_with fail
        go_ret
        exact ⟨by simp, HB1.out⟩
      · rw [decide_eq_false h3]
        go_enter Tryz.func20, Tryz.ntmps20
        go_wp2_with fail
        go_ret
        exact ⟨by simp, HB.out _⟩
    · rw [decide_eq_false h2]
      go_enter Tryz.func20, Tryz.ntmps20
      go_wp2_with fail
      go_ret
      exact ⟨by simp, HB.out _⟩
  · have h1' : ¬ ((n : Int) ≤ 100) := by omega
    rw [decide_eq_false h1]
    go_enter Tryz.func20, Tryz.ntmps20
    go_wp2_with fail
    go_ret
    exact ⟨by simp, HB.out _⟩
def CCT (w : World) (p : Option Addr) (css : List (List Cel)) : Prop := CCIn w p css ∧ TightCC w p css
theorem CCT.below {w w' : World} {p : Option Addr} {css : List (List Cel)} (h : CCT w p css) (hb : Below w.heap.size w w') : CCT w' p css := ⟨h.1.below hb, h.2.below hb⟩
theorem CCT.at {w : World} {p : Option Addr} {css : List (List Cel)} (h : CCT w p css) (hn : 0 < css.length) : ∃ b o, p = some ⟨b, o, none⟩ ∧ ∀ i, i < css.length → ∃ q, w.cell? ⟨b, o + i, none⟩ = some (.slice q (css.getD i []).length (css.getD i []).length) ∧ CIn w q (css.getD i []) := by
  obtain ⟨b, o, rfl, hc⟩ := h.1 hn
  refine ⟨b, o, rfl, fun i hi => ?_⟩
  obtain ⟨q, c, h1, h2⟩ := hc i hi
  obtain ⟨q', h3⟩ := h.2 b o rfl i hi
  rw [h1] at h3
  injection h3 with h4
  injection h4 with h5 _ h6
  subst h6
  exact ⟨q, h1, h2⟩
set_option maxRecDepth 100000 in
set_option maxHeartbeats 2000000 in
theorem hasOwn_any (nm : List Int) (ar : Int) (dy : Bool) (css : List (List Cel)) (q : Option Addr) (m c : Nat) (r : Option Addr) (n d : Nat) (a a2 : Addr) (w : World) (hnm : Byte nm) (hm : m = nm.length) (hn : n = css.length) (hsz : nm.length + (css.length + tll css) ≤ 1048576) (hok : CCok css) (hq : BIn w q nm) (hr : CCT w r css) (he : ErrAt w a a2) :
    Calls Tryz.prog 21 #[.agg #[.slice q m c, .int .i64 ar, .bool dy, .slice r n d]] w fun e w' => e = .returned (.bool (css.all (clB nm ar))) ∧ Below w.heap.size w w' := by
  have HF : Hid (∀ W, Below w.heap.size w W → Calls Tryz.prog 19 #[.agg #[.slice q m c, .int .i64 ar, .bool dy, .slice r n d]] W fun e w' => e = .returned (.agg #[.string (strOfNums nm), .int .i64 ar]) ∧ Below W.heap.size W w') := fun W hW => predFun_any nm ar dy q m c r n d W hm (hq.below hW)
  have HR : Hid (CCT w r css) := hr
  have HN : Hid (n = css.length ∧ css.length + tll css ≤ 1048576 ∧ CCok css ∧ Byte nm ∧ ErrAt w a a2) := ⟨hn, by omega, hok, hnm, he⟩
  have hnb : n ≤ 1048576 := by omega
  obtain ⟨bx, ebx⟩ : ∃ bx : Obj, bx = .cells #[.slice q m c, .int .i64 ar, .bool dy, .slice r n d] 39 := ⟨_, rfl⟩
  have HBX : Hid (∀ W, Below (w.alloc bx).heap.size (w.alloc bx) W → Box4 W w.heap.size (.slice q m c) (.int .i64 ar) (.bool dy) (.slice r n d) ∧ Below w.heap.size w W) := fun W hW => by
    have hk : W.heap[w.heap.size]? = some bx := (hW.block w.heap.size (by simp)).trans (heap_alloc_new w _)
    rw [ebx] at hk
    exact ⟨Box4.of_block hk, Below.on ((Below.refl _ _).alloc (Nat.le_refl _) _) hW⟩
  have HEB : Hid (bx = .cells #[.slice q m c, .int .i64 ar, .bool dy, .slice r n d] 39) := ebx
  obtain ⟨sn, esn⟩ : ∃ x, x = strOfNums nm := ⟨_, rfl⟩
  have HSN : Hid (sn = strOfNums nm) := esn
  rw [← esn] at HF
  clear hm hn hsz hok hq hr he ebx esn hnm
  go_enter Tryz.func21, Tryz.ntmps21
  go_wp2_with fail
  rw [← HEB.out]
  go_loopw [8] (fun i wr => ∃ (k : Nat), k ≤ n ∧ i = .int .i64 k ∧ Hid ((css.take k).all (clB nm ar) = true) ∧ Hid (Below (w.alloc bx).heap.size (w.alloc bx) wr)) (fun i _ => n - (intOf i).toNat)
  case atStart => exact ⟨0, Nat.zero_le _, rfl, by simp [Hid], Below.refl _ _⟩
  case round =>
    obtain ⟨k, hk, rfl, HALL, HA⟩ := hrel
    obtain ⟨⟨x0, x1, x2, x3, _⟩, hB⟩ := HBX.out wr HA.out
    have HB : Hid (Below w.heap.size w wr) := hB
    clear hB
    by_cases hlt : k < n
    · have hkl : k < css.length := by rw [← HN.out.1]; exact hlt
      obtain ⟨b, o, rfl, hcs⟩ := (HR.out.below HB.out).at (by omega)
      obtain ⟨qk, d0, d1⟩ := hcs k hkl
      have hit := HN.out.2.2.1.2 k hkl
      have hbd := tll_at css k hkl
      have hbd2 := HN.out.2.1
      have HV := implValid_any qk (css.getD k []).length (css.getD k []) wr (by omega) d1
      have etk : (css.take (k + 1)).all (clB nm ar) = clB nm ar (css.getD k []) := by
        rw [List.take_succ_eq_append_getElem hkl, List.all_append, HALL.out, Bool.true_and, List.getD, List.getElem?_eq_getElem hkl]
        simp
      have HALLN : Hid (clB nm ar (css.getD k []) = false → css.all (clB nm ar) = false) := fun h => by
        cases h9 : css.all (clB nm ar) with
        | false => rfl
        | true =>
          rw [List.all_eq_true] at h9
          have h8 := h9 (css.getD k []) (by rw [List.getD, List.getElem?_eq_getElem hkl]; exact List.getElem_mem hkl)
          rw [h] at h8
          cases h8
      have HETK : Hid _ := etk
      by_cases hv : validB (css.getD k []) = true
      · obtain ⟨cc, kk, ex, hokt, hlx⟩ := tree_of (cs := css.getD k []) hit.2.2 hv
        have hcl : kk.cells.length + 1 = (css.getD k []).length := by rw [ex]; simp
        have HCL : Hid (clB nm ar (css.getD k []) = clT nm ar (cc, kk)) := clB_of hv ex hokt
        have HTE : Hid (∀ W, Below wr.heap.size wr W → Calls Tryz.prog 26 #[.slice qk (css.getD k []).length (css.getD k []).length] W fun e w' => ∃ v, e = .returned v ∧ FoIn w' W.heap.size (.node cc kk .nil) [v] ∧ Below W.heap.size W w') := fun W hB => termOf_any cc kk qk _ _ W hokt (by omega) (Nat.le_refl _) (by omega) (by have := d1.below hB; rw [ex] at this; exact this)
        have HIC : Hid (∀ W v B, Below wr.heap.size wr W → FoIn W B (.node cc kk .nil) [v] → Calls Tryz.prog 47 #[.agg #[.string sn, .int .i64 ar], v] W fun e w' => e = .returned (.bool (clT nm ar (cc, kk))) ∧ Below W.heap.size W w') := fun W v B hW hf => by
          rw [HSN.out]
          exact isClause_any nm ar HN.out.2.2.2.1 cc kk v B a a2 W W hokt hf (Below.refl _ _) (by omega) (HN.out.2.2.2.2.below (Below.on HB.out hW))
        rw [hv] at HV
        obtain ⟨l, el⟩ : ∃ l, l = (css.getD k []).length := ⟨_, rfl⟩
        have hl2 : l ≤ 2000 := by omega
        rw [← el] at HV HTE d0
        obtain ⟨R, eR⟩ : ∃ R, R = clT nm ar (cc, kk) := ⟨_, rfl⟩
        rw [← eR] at HIC HCL
        clear hcs d1 hit hbd hbd2 etk hv ex hokt hlx hcl el eR
        go_wp2_with fail
        refine HV.mono ?_
        rintro e w1 ⟨rfl, hb1⟩
        have HA1 : Hid (Below (w.alloc bx).heap.size (w.alloc bx) w1) := Below.on HA.out hb1
        have HW1 : Hid (Below wr.heap.size wr w1) := hb1
        obtain ⟨⟨y0, y1, y2, y3, _⟩, hB1⟩ := HBX.out w1 HA1.out
        have HF1 := HF.out w1 hB1
        clear HV hb1 hB1
        go_wp2_with fail
        refine HF1.mono ?_
        rintro e w2 ⟨rfl, hb2⟩
        have HA2 : Hid (Below (w.alloc bx).heap.size (w.alloc bx) w2) := Below.on HA1.out hb2
        have HW2 : Hid (Below wr.heap.size wr w2) := Below.on HW1.out hb2
        have HT2 := HTE.out w2 HW2.out
        clear HF1 hb2 HTE
        go_wp2_with fail
        refine HT2.mono ?_
        rintro e w3 ⟨v3, rfl, hf3, hb3⟩
        have HA3 : Hid (Below (w.alloc bx).heap.size (w.alloc bx) w3) := Below.on HA2.out hb3
        have HI3 := HIC.out w3 v3 _ (Below.on HW2.out hb3) hf3
        obtain ⟨t3, z3, rfl⟩ := hf3.iface
        clear HT2 hb3 hf3 HIC
        go_wp2_with fail
        refine HI3.mono ?_
        rintro e w4 ⟨rfl, hb4⟩
        have HA4 : Hid (Below (w.alloc bx).heap.size (w.alloc bx) w4) := Below.on HA3.out hb4
        clear HI3 hb4
        cases R with
        | false =>
          have HF9 : Hid (css.all (clB nm ar) = false) := HALLN.out HCL.out
          go_wp2_with fail
          go_ret
          exact ⟨ret_bool HF9.out.symm, (HBX.out _ HA4.out).2⟩
        | true =>
          go_wp2_with fail
          go_roundw
          case rel => exact ⟨k + 1, by omega, by go_num, by show _ = _; rw [HETK.out]; exact HCL.out, HA4.out⟩
          case measure => simp [intOf]; omega
      · have hv' : validB (css.getD k []) = false := by simpa using hv
        have HF9 : Hid (css.all (clB nm ar) = false) := HALLN.out (clB_bad hv')
        rw [hv'] at HV
        obtain ⟨l, el⟩ : ∃ l, l = (css.getD k []).length := ⟨_, rfl⟩
        rw [← el] at HV d0
        clear hcs d1 hit hbd hbd2 etk hv hv' el
        go_wp2_with fail
        refine HV.mono ?_
        rintro e w1 ⟨rfl, hb1⟩
        have HA1 : Hid (Below (w.alloc bx).heap.size (w.alloc bx) w1) := Below.on HA.out hb1
        clear HV hb1
        go_wp2_with fail
        go_ret
        exact ⟨ret_bool HF9.out.symm, (HBX.out _ HA1.out).2⟩
    · obtain rfl : k = n := by omega
      have hfull : css.take k = css := by rw [HN.out.1]; exact List.take_length
      rw [hfull] at HALL
      clear hfull
      go_wp2_with fail
      go_ret
      exact ⟨ret_bool HALL.out.symm, HB.out⟩
end Go.Proofs.YtfgaenggbbgboaaGreatDoor

namespace Go.Proofs.YtfgaenggbbgboaaGreatDoor
open Go Go.RowKit
set_option linter.unusedVariables false
theorem infoPred : (Tryz.prog.info? 39).map (fun i => (i.zero, i.size, i.bytes)) = some (some (.agg #[.slice none 0 0, .int .i64 0, .bool false, .slice none 0 0]), 4, 64) := by kernel_rfl
def PLaid (W : World) (T : Nat) (ps : List Prd) : Prop := T < W.heap.size ∧ ∀ i, i < ps.length → ∃ q r, W.cell? ⟨T, i * 4, none⟩ = some (.slice q (ps.getD i Prd.zero).1.length (ps.getD i Prd.zero).1.length) ∧ W.cell? ⟨T, i * 4 + 1, none⟩ = some (.int .i64 (ps.getD i Prd.zero).2.1) ∧ W.cell? ⟨T, i * 4 + 2, none⟩ = some (.bool (ps.getD i Prd.zero).2.2.1) ∧
  W.cell? ⟨T, i * 4 + 3, none⟩ = some (.slice r (ps.getD i Prd.zero).2.2.2.length (ps.getD i Prd.zero).2.2.2.length) ∧ PItem W (T + 1) q r (ps.getD i Prd.zero)
theorem PLaid.other {W W' : World} {T : Nat} {ps : List Prd} (h : PLaid W T ps) (hs : W.heap.size ≤ W'.heap.size) (hb : ∀ k, k < W.heap.size → T ≤ k → W'.heap[k]? = W.heap[k]?) : PLaid W' T ps := by
  refine ⟨Nat.lt_of_lt_of_le h.1 hs, fun i hi => ?_⟩
  obtain ⟨q, r, h0, h1, h2, h3, h4⟩ := h.2 i hi
  have e := hb T h.1 (Nat.le_refl _)
  exact ⟨q, r, (World.cell?_of_block (w := W) e).trans h0, (World.cell?_of_block (w := W) e).trans h1, (World.cell?_of_block (w := W) e).trans h2, (World.cell?_of_block (w := W) e).trans h3, h4.other hs (fun k hk hT => hb k hk (by omega))⟩
theorem PLaid.below {W W' : World} {T : Nat} {ps : List Prd} (h : PLaid W T ps) (hb : Below W.heap.size W W') : PLaid W' T ps := h.other hb.size (fun k hk _ => hb.block k hk)
theorem PLaid.pin {W : World} {T : Nat} {ps : List Prd} (h : PLaid W T ps) : PIn W (some ⟨T, 0, none⟩) ps := fun _ => by
  refine ⟨T, 0, rfl, fun i hi => ?_⟩
  obtain ⟨q, r, h0, h1, h2, h3, h4⟩ := h.2 i hi
  obtain ⟨U, hc⟩ := h4.cl
  exact ⟨q, _, r, _, by rw [Nat.zero_add]; exact h0, by rw [Nat.zero_add]; exact h1, by rw [Nat.zero_add]; exact h2, by rw [Nat.zero_add]; exact h3, h4.nm.bin, hc.ccin⟩
def PRow (W : World) (T n k : Nat) (ps : List Prd) : Prop := ∃ row, W.ownsRow T 39 4 (.slice (some ⟨T, 0, none⟩) n n) n row ∧
  (∀ i, i < k → ∃ q r, row[i * 4]? = some (.slice q (ps.getD i Prd.zero).1.length (ps.getD i Prd.zero).1.length) ∧ row[i * 4 + 1]? = some (.int .i64 (ps.getD i Prd.zero).2.1) ∧ row[i * 4 + 2]? = some (.bool (ps.getD i Prd.zero).2.2.1) ∧
    row[i * 4 + 3]? = some (.slice r (ps.getD i Prd.zero).2.2.2.length (ps.getD i Prd.zero).2.2.2.length) ∧ PItem W (T + 1) q r (ps.getD i Prd.zero)) ∧
  (∀ i, k ≤ i → i < n → row[i * 4]? = some (.slice none 0 0) ∧ row[i * 4 + 1]? = some (.int .i64 0) ∧ row[i * 4 + 2]? = some (.bool false) ∧ row[i * 4 + 3]? = some (.slice none 0 0))
theorem PRow.below {W W' : World} {T n k : Nat} {ps : List Prd} (h : PRow W T n k ps) (hb : Below W.heap.size W W') : PRow W' T n k ps := by
  obtain ⟨row, h1, h2, h3⟩ := h
  refine ⟨row, row_below h1 hb, fun i hi => ?_, h3⟩
  obtain ⟨q, r, a, b, c, d, e⟩ := h2 i hi
  exact ⟨q, r, a, b, c, d, e.below hb⟩
theorem PRow.lt {W : World} {T n k : Nat} {ps : List Prd} (h : PRow W T n k ps) : T < W.heap.size := by
  obtain ⟨row, h1, _⟩ := h
  exact (h1.lt T rfl).2
theorem PRow.cells {W : World} {T n k : Nat} {ps : List Prd} (h : PRow W T n k ps) (hk : k < n) : W.cell? ⟨T, k * 4, none⟩ = some (.slice none 0 0) ∧ W.cell? ⟨T, k * 4 + 1, none⟩ = some (.int .i64 0) ∧ W.cell? ⟨T, k * 4 + 2, none⟩ = some (.bool false) ∧ W.cell? ⟨T, k * 4 + 3, none⟩ = some (.slice none 0 0) ∧ ∀ j, W.frozen? ⟨T, j, none⟩ = false := by
  obtain ⟨row, h1, _, h3⟩ := h
  obtain ⟨a, b, c, d⟩ := h3 k (Nat.le_refl _) hk
  exact ⟨(h1.cellAt _ (by omega)).trans a, (h1.cellAt _ (by omega)).trans b, (h1.cellAt _ (by omega)).trans c, (h1.cellAt _ (by omega)).trans d, fun j => h1.frozenAt j⟩
theorem PRow.next {W : World} {T n k : Nat} {ps : List Prd} (h : PRow W T n k ps) (hk : k < n) (q r : Option Addr) (v0 v1 v2 v3 : Value) (e0 : v0 = .slice q (ps.getD k Prd.zero).1.length (ps.getD k Prd.zero).1.length) (e1 : v1 = .int .i64 (ps.getD k Prd.zero).2.1) (e2 : v2 = .bool (ps.getD k Prd.zero).2.2.1) (e3 : v3 = .slice r (ps.getD k Prd.zero).2.2.2.length (ps.getD k Prd.zero).2.2.2.length) (hit : PItem W (T + 1) q r (ps.getD k Prd.zero)) :
    PRow ((((W.setCell ⟨T, k * 4, none⟩ v0).setCell ⟨T, k * 4 + 1, none⟩ v1).setCell ⟨T, k * 4 + 2, none⟩ v2).setCell ⟨T, k * 4 + 3, none⟩ v3) T n (k + 1) ps := by
  obtain ⟨row, h1, h2, h3⟩ := h
  have hl : row.length = n * 4 := h1.1
  have hb : ∀ j, T + 1 ≤ j → ((((W.setCell ⟨T, k * 4, none⟩ v0).setCell ⟨T, k * 4 + 1, none⟩ v1).setCell ⟨T, k * 4 + 2, none⟩ v2).setCell ⟨T, k * 4 + 3, none⟩ v3).heap[j]? = W.heap[j]? := fun j hj => by
    rw [Below.heap_setCell _ _ _ _ (show j ≠ T by omega), Below.heap_setCell _ _ _ _ (show j ≠ T by omega), Below.heap_setCell _ _ _ _ (show j ≠ T by omega), Below.heap_setCell _ _ _ _ (show j ≠ T by omega)]
  have keep : ∀ i j, j < 4 → i ≠ k → ((((row.set (k * 4) v0).set (k * 4 + 1) v1).set (k * 4 + 2) v2).set (k * 4 + 3) v3)[i * 4 + j]? = row[i * 4 + j]? := fun i j hj hi => by
    rw [List.getElem?_set_ne (by omega), List.getElem?_set_ne (by omega), List.getElem?_set_ne (by omega), List.getElem?_set_ne (by omega)]
  refine ⟨(((row.set (k * 4) v0).set (k * 4 + 1) v1).set (k * 4 + 2) v2).set (k * 4 + 3) v3, ((((h1.stored (k * 4) v0).1.stored (k * 4 + 1) v1).1.stored (k * 4 + 2) v2).1.stored (k * 4 + 3) v3).1, fun i hi => ?_, fun i hi hin => ?_⟩
  · by_cases e : i = k
    · subst e
      refine ⟨q, r, ?_, ?_, ?_, ?_, hit.other (by simp) (fun j _ hj => hb j hj)⟩
      · rw [List.getElem?_set_ne (by omega), List.getElem?_set_ne (by omega), List.getElem?_set_ne (by omega), List.getElem?_set_self (by omega), e0]
      · rw [List.getElem?_set_ne (by omega), List.getElem?_set_ne (by omega), List.getElem?_set_self (by simp; omega), e1]
      · rw [List.getElem?_set_ne (by omega), List.getElem?_set_self (by simp; omega), e2]
      · rw [List.getElem?_set_self (by simp; omega), e3]
    · obtain ⟨q', r', a, b, c, d, e'⟩ := h2 i (by omega)
      exact ⟨q', r', (keep i 0 (by omega) e).trans a, (keep i 1 (by omega) e).trans b, (keep i 2 (by omega) e).trans c, (keep i 3 (by omega) e).trans d, e'.other (by simp) (fun j _ hj => hb j hj)⟩
  · obtain ⟨a, b, c, d⟩ := h3 i (by omega) hin
    exact ⟨(keep i 0 (by omega) (by omega)).trans a, (keep i 1 (by omega) (by omega)).trans b, (keep i 2 (by omega) (by omega)).trans c, (keep i 3 (by omega) (by omega)).trans d⟩
theorem PRow.laid {W : World} {T n : Nat} {ps : List Prd} (h : PRow W T n n ps) (hn : n = ps.length) : PLaid W T ps := by
  refine ⟨h.lt, fun i hi => ?_⟩
  obtain ⟨row, h1, h2, _⟩ := h
  obtain ⟨q, r, a, b, c, d, e⟩ := h2 i (by omega)
  exact ⟨q, r, (h1.cellAt _ (by omega)).trans a, (h1.cellAt _ (by omega)).trans b, (h1.cellAt _ (by omega)).trans c, (h1.cellAt _ (by omega)).trans d, e⟩
set_option maxRecDepth 100000 in
set_option maxHeartbeats 1000000 in
theorem toPs_any (p : Option Addr) (n cap : Nat) (ps : List Prd) (w : World) (hnl : n = ps.length) (hn : ps.length + szPs ps ≤ 1048576) (hin : PArg w p ps) :
    Calls Tryz.prog 16 #[.slice p n cap] w fun e w' => e = .returned (.slice (some ⟨w.heap.size, 0, none⟩) n n) ∧ PLaid w' w.heap.size ps ∧ Below w.heap.size w w' := by
  obtain ⟨i0, hi, hz0, hz1, hz2⟩ := info_parts infoPred
  have hmx : n ≤ maxLen := by unfold maxLen; omega
  have hn9 : n ≤ 1048576 := by omega
  have HC : Hid (PArg w p ps) := hin
  have HN : Hid (n = ps.length ∧ ps.length + szPs ps ≤ 1048576) := ⟨hnl, hn⟩
  clear hin hnl hn
  go_enter Tryz.func16, Tryz.ntmps16
  go_wp2_with (at_make; refine wpList_make_full _ rfl _ _ 28 rfl w.heap.size 39 i0 (.agg #[.slice none 0 0, .int .i64 0, .bool false, .slice none 0 0]) 4 Tryz.underlying28 hi hz0 hz1 _ _ _ _ n rfl rfl rfl rfl (by rw [hz2]; omega) hmx (Nat.le_refl _) ?_; intro w1 hown hgrow)
  have HB1 : Hid (Below w.heap.size w w1) := (Below.refl _ _).grown hgrow (Nat.le_refl _) (fun k h => by cases h)
  have HO : Hid (PRow w1 w.heap.size n 0 ps) := by
    refine ⟨_, hown, fun i h => by omega, fun i _ h => ?_⟩
    have m0 : i * 4 % 4 = 0 := by omega
    have m1 : (i * 4 + 1) % 4 = 1 := by omega
    have m2 : (i * 4 + 2) % 4 = 2 := by omega
    have m3 : (i * 4 + 3) % 4 = 3 := by omega
    have l0 : i * 4 < n * 4 := by omega
    have l1 : i * 4 + 1 < n * 4 := by omega
    have l2 : i * 4 + 2 < n * 4 := by omega
    have l3 : i * 4 + 3 < n * 4 := by omega
    refine ⟨?_, ?_, ?_, ?_⟩
    · simp [madeCells, Value.cells, m0, l0]
    · simp [madeCells, Value.cells, m1, l1]
    · simp [madeCells, Value.cells, m2, l2]
    · simp [madeCells, Value.cells, m3, l3]
  clear hown hgrow
  go_loopw [4] (fun i wr => ∃ (k : Nat), k ≤ n ∧ i = .int .i64 k ∧ Hid (PRow wr w.heap.size n k ps) ∧ Hid (Below w.heap.size w wr)) (fun i _ => n - (intOf i).toNat)
  case atStart => exact ⟨0, Nat.zero_le _, rfl, HO, HB1⟩
  case round =>
    obtain ⟨k, hk, rfl, HR, HB⟩ := hrel
    by_cases hlt : k < n
    · have hkl : k < ps.length := by rw [← HN.out.1]; exact hlt
      obtain ⟨b, o, rfl, hcs⟩ := (HC.out.below HB.out).lies (by omega)
      obtain ⟨q, qc, r, rc, d0, d1, d2, d3, d4, d5⟩ := hcs k hkl
      have hit := HC.out.item k hkl
      have hbd := szPs_at ps k hkl
      have hbd2 := HN.out.2
      unfold szP at hbd
      obtain ⟨m, em⟩ : ∃ x, x = (ps.getD k Prd.zero).1.length := ⟨_, rfl⟩
      obtain ⟨ar, ear⟩ : ∃ x, x = (ps.getD k Prd.zero).2.1 := ⟨_, rfl⟩
      obtain ⟨dy, edy⟩ : ∃ x, x = (ps.getD k Prd.zero).2.2.1 := ⟨_, rfl⟩
      obtain ⟨nc, enc⟩ : ∃ x, x = (ps.getD k Prd.zero).2.2.2.length := ⟨_, rfl⟩
      have HS := toPred_any (ps.getD k Prd.zero).1 ar dy (ps.getD k Prd.zero).2.2.2 q m qc r nc rc wr em enc (by omega) d4 (hit.2.2.2.arg d5)
      have HM : Hid (m = (ps.getD k Prd.zero).1.length ∧ ar = (ps.getD k Prd.zero).2.1 ∧ dy = (ps.getD k Prd.zero).2.2.1 ∧ nc = (ps.getD k Prd.zero).2.2.2.length) := ⟨em, ear, edy, enc⟩
      rw [← em] at d0
      rw [← ear] at d1
      rw [← edy] at d2
      rw [← enc] at d3
      clear hcs d4 d5 hbd hbd2 em ear edy enc hit
      go_wp2_with fail
      refine HS.mono ?_
      rintro e w2 ⟨q', r', rfl, hitm, hb2⟩
      have HR2 : Hid (PRow w2 w.heap.size n k ps) := HR.out.below hb2
      obtain ⟨e0, e1, e2, e3, ef⟩ := HR2.out.cells hlt
      have HB2 : Hid (Below w.heap.size w w2) := Below.on HB.out hb2
      have HIT : Hid (PItem w2 (w.heap.size + 1) q' r' (ps.getD k Prd.zero)) := by
        have h1 := hitm.mono (B' := w.heap.size + 1) HR.out.lt
        obtain ⟨_, ea, ed, _⟩ := HM.out
        rw [ea, ed] at h1
        exact h1
      clear hitm hb2 HS
      go_wp2_with fail
      go_roundw
      case rel => exact ⟨k + 1, by omega, by go_num, HR2.out.next hlt q' r' _ _ _ _ (by rw [← HM.out.1]) (by rw [← HM.out.2.1]) (by rw [← HM.out.2.2.1]) (by rw [← HM.out.2.2.2]) HIT.out, (((HB2.out.setCell (p := ⟨w.heap.size, _, none⟩) (Nat.le_refl _) _).setCell (p := ⟨w.heap.size, _, none⟩) (Nat.le_refl _) _).setCell (p := ⟨w.heap.size, _, none⟩) (Nat.le_refl _) _).setCell (p := ⟨w.heap.size, _, none⟩) (Nat.le_refl _) _⟩
      case measure => simp [intOf]; omega
    · obtain rfl : k = n := by omega
      go_wp2_with fail
      go_ret
      exact ⟨rfl, HR.out.laid HN.out.1, HB.out⟩
def PrLaid (W : World) (T G : Nat) (ps : List Prd) (gs : List (List Cel)) : Prop := PLaid W T ps ∧ CCIn W (some ⟨G, 0, none⟩) gs ∧ TightCC W (some ⟨G, 0, none⟩) gs
theorem PrLaid.below {W W' : World} {T G : Nat} {ps : List Prd} {gs : List (List Cel)} (h : PrLaid W T G ps gs) (hb : Below W.heap.size W W') : PrLaid W' T G ps gs := ⟨h.1.below hb, h.2.1.below hb, h.2.2.below hb⟩
set_option maxRecDepth 100000 in
set_option maxHeartbeats 1000000 in
theorem toProg_any (p : Option Addr) (np cp : Nat) (ps : List Prd) (g : Option Addr) (ng cg : Nat) (gs : List (List Cel)) (w : World) (hnp : np = ps.length) (hng : ng = gs.length) (hsz : szPr ps gs ≤ 1048576) (hp : PArg w p ps) (hg : CCArg w g gs) :
    Calls Tryz.prog 6 #[.agg #[.slice p np cp, .slice g ng cg]] w fun e w' => ∃ T G, e = .returned (.agg #[.slice (some ⟨T, 0, none⟩) np np, .slice (some ⟨G, 0, none⟩) ng ng]) ∧ PrLaid w' T G ps gs ∧ Below w.heap.size w w' := by
  unfold szPr at hsz
  have HS : Hid (∀ W, Below w.heap.size w W → Calls Tryz.prog 16 #[.slice p np cp] W fun e w' => e = .returned (.slice (some ⟨W.heap.size, 0, none⟩) np np) ∧ PLaid w' W.heap.size ps ∧ Below W.heap.size W w') := fun W hW => toPs_any p np cp ps W hnp (by omega) (hp.below hW)
  have HC : Hid (∀ W, Below w.heap.size w W → Calls Tryz.prog 17 #[.slice g ng cg] W fun e w' => e = .returned (.slice (some ⟨W.heap.size, 0, none⟩) ng ng) ∧ OwnCC w' W.heap.size w'.heap.size (some ⟨W.heap.size, 0, none⟩) ng ng gs ∧ TightCC w' (some ⟨W.heap.size, 0, none⟩) gs ∧ W.heap.size < w'.heap.size ∧ Below W.heap.size W w') := fun W hW => by
    rw [hng]
    refine (toSS_any g cg gs W (by omega) (hg.below hW)).mono ?_
    rintro e w1 ⟨h1, ⟨ds, h2⟩, h3, h4⟩
    exact ⟨h1, ⟨ds, h2⟩, h3, h2.top _ rfl, h4⟩
  clear hnp hng hp hg hsz
  go_enter Tryz.func6, Tryz.ntmps6
  go_wp2_with fail
  have hb0 : ∀ a b c, Below w.heap.size w (((w.alloc a).alloc b).alloc c) := fun a b c => (((Below.refl _ _).alloc (Nat.le_refl _) _).alloc (by simp) _).alloc (by simp; omega) _
  refine (HS.out _ (hb0 _ _ _)).mono ?_
  rintro e w1 ⟨rfl, hlaid, hb1⟩
  have k0 := (hb1.block w.heap.size (by simp; omega)).trans (heap_threeA w _ _ _)
  have k1 := (hb1.block (w.heap.size + 1) (by simp)).trans (heap_three w _ _ _).1
  have k2 := (hb1.block (w.heap.size + 1 + 1) (by simp)).trans (heap_three w _ _ _).2
  have a1 := cell_of_row _ _ 1 _ _ _ k0
  have c10 := cell_of_row _ _ 0 _ _ _ k1
  have c11 := cell_of_row _ _ 1 _ _ _ k1
  have c20 := cell_of_row _ _ 0 _ _ _ k2
  have c21 := cell_of_row _ _ 1 _ _ _ k2
  have f1 := fun j => frozen_of_row w1 (w.heap.size + 1) j _ _ k1
  have f2 := fun j => frozen_of_row w1 (w.heap.size + 1 + 1) j _ _ k2
  simp only [World.size_alloc] at hlaid ⊢
  simp at a1 c10 c11 c20 c21
  have HB1 : Hid (Below w.heap.size w w1) := Below.on (hb0 _ _ _) hb1
  have HG : Hid (w.heap.size + 1 + 1 + 1 ≤ w1.heap.size) := by have := hb1.size; simp at this; exact this
  have HL : Hid (PLaid w1 (w.heap.size + 1 + 1 + 1) ps) := hlaid
  clear hlaid hb1 hb0 k0 k1 k2
  obtain ⟨W1, hW1⟩ : ∃ W, W = w1.setCell ⟨w.heap.size + 1 + 1, 0, none⟩ (Value.slice (some ⟨w.heap.size + 1 + 1 + 1, 0, none⟩) np np) := ⟨_, rfl⟩
  have HBW : Hid (Below w.heap.size w W1) := by
    show Below _ _ _
    rw [hW1]
    exact HB1.out.setCell (p := ⟨_, _, none⟩) (by simp; omega) _
  have HSZ : Hid (W1.heap.size = w1.heap.size) := by show _ = _; rw [hW1]; simp
  have HL1 : Hid (PLaid W1 (w.heap.size + 1 + 1 + 1) ps) := by
    refine HL.out.other (by rw [hW1]; simp) (fun k _ h2 => ?_)
    rw [hW1, Below.heap_setCell _ _ _ _ (show k ≠ w.heap.size + 1 + 1 by omega)]
  have x10 : W1.cell? ⟨w.heap.size + 1, 0, none⟩ = some (.slice none 0 0) := by rw [hW1, World.cell?_setCell_other _ _ _ _ (by simp)]; exact c10
  have x11 : W1.cell? ⟨w.heap.size + 1, 1, none⟩ = some (.slice none 0 0) := by rw [hW1, World.cell?_setCell_other _ _ _ _ (by simp)]; exact c11
  have x20 : W1.cell? ⟨w.heap.size + 1 + 1, 0, none⟩ = some (Value.slice (some ⟨w.heap.size + 1 + 1 + 1, 0, none⟩) np np) := by rw [hW1]; exact World.cell?_setCell_same' _ _ _ (by rw [c20]; rfl)
  have x21 : W1.cell? ⟨w.heap.size + 1 + 1, 1, none⟩ = some (.slice none 0 0) := by rw [hW1, World.cell?_setCell_other _ _ _ _ (by simp)]; exact c21
  have y1 : ∀ j, W1.frozen? ⟨w.heap.size + 1, j, none⟩ = false := fun j => by rw [hW1]; simp [f1 j]
  have y2 : ∀ j, W1.frozen? ⟨w.heap.size + 1 + 1, j, none⟩ = false := fun j => by rw [hW1]; simp [f2 j]
  have HX : Hid (W1.cell? ⟨w.heap.size + 1, 0, none⟩ = some (.slice none 0 0) ∧ W1.cell? ⟨w.heap.size + 1, 1, none⟩ = some (.slice none 0 0) ∧ W1.cell? ⟨w.heap.size + 1 + 1, 0, none⟩ = some (Value.slice (some ⟨w.heap.size + 1 + 1 + 1, 0, none⟩) np np) ∧ W1.cell? ⟨w.heap.size + 1 + 1, 1, none⟩ = some (.slice none 0 0) ∧ (∀ j, W1.frozen? ⟨w.heap.size + 1, j, none⟩ = false) ∧ (∀ j, W1.frozen? ⟨w.heap.size + 1 + 1, j, none⟩ = false)) := ⟨x10, x11, x20, x21, y1, y2⟩
  have HC1 := HC.out W1 HBW.out
  have HW1 : Hid _ := hW1
  clear x10 x11 x20 x21 y1 y2 hW1 c10 c11
  go_wp2_with fail
  rw [← HW1.out]
  refine HC1.mono ?_
  rintro e w2 ⟨rfl, hcc, hti, hlt, hb2⟩
  obtain ⟨x10, x11, x20, x21, y1, y2⟩ := HX.out
  have lt1 : w.heap.size + 1 < W1.heap.size := World.block_lt_of_cell? _ _ x10
  have lt2 : w.heap.size + 1 + 1 < W1.heap.size := World.block_lt_of_cell? _ _ x20
  have u10 := (hb2.cell (p := ⟨w.heap.size + 1, 0, none⟩) lt1).trans x10
  have u11 := (hb2.cell (p := ⟨w.heap.size + 1, 1, none⟩) lt1).trans x11
  have u20 := (hb2.cell (p := ⟨w.heap.size + 1 + 1, 0, none⟩) lt2).trans x20
  have u21 := (hb2.cell (p := ⟨w.heap.size + 1 + 1, 1, none⟩) lt2).trans x21
  have g1 := fun j => (hb2.frozen (p := ⟨w.heap.size + 1, j, none⟩) lt1).trans (y1 j)
  have g2 := fun j => (hb2.frozen (p := ⟨w.heap.size + 1 + 1, j, none⟩) lt2).trans (y2 j)
  have HB2 : Hid (Below w.heap.size w w2) := Below.on HBW.out hb2
  obtain ⟨N2, eN2⟩ : ∃ N2, N2 = W1.heap.size := ⟨_, rfl⟩
  rw [← eN2] at hcc hti ⊢
  have HN2 : Hid (w.heap.size + 1 + 1 + 1 ≤ N2 ∧ N2 < w2.heap.size) := by have := HG.out; have := HSZ.out; exact ⟨by omega, by omega⟩
  have HLL : Hid (PLaid w2 (w.heap.size + 1 + 1 + 1) ps ∧ OwnCC w2 N2 w2.heap.size (some ⟨N2, 0, none⟩) ng ng gs ∧ TightCC w2 (some ⟨N2, 0, none⟩) gs) := ⟨HL1.out.below hb2, hcc, hti⟩
  clear x10 x11 x20 x21 y1 y2 hcc hti hlt hb2 lt1 lt2 eN2 HC1
  obtain ⟨W2, hW2⟩ : ∃ W, W = w2.setCell ⟨w.heap.size + 1 + 1, 1, none⟩ (Value.slice (some ⟨N2, 0, none⟩) ng ng) := ⟨_, rfl⟩
  have v20 : W2.cell? ⟨w.heap.size + 1 + 1, 0, none⟩ = some (Value.slice (some ⟨w.heap.size + 1 + 1 + 1, 0, none⟩) np np) := by rw [hW2, World.cell?_setCell_other _ _ _ _ (by simp)]; exact u20
  have v21 : W2.cell? ⟨w.heap.size + 1 + 1, 1, none⟩ = some (Value.slice (some ⟨N2, 0, none⟩) ng ng) := by rw [hW2]; exact World.cell?_setCell_same' _ _ _ (by rw [u21]; rfl)
  have v10 : W2.cell? ⟨w.heap.size + 1, 0, none⟩ = some (.slice none 0 0) := by rw [hW2, World.cell?_setCell_other _ _ _ _ (by simp)]; exact u10
  have v11 : W2.cell? ⟨w.heap.size + 1, 1, none⟩ = some (.slice none 0 0) := by rw [hW2, World.cell?_setCell_other _ _ _ _ (by simp)]; exact u11
  obtain ⟨W3, hW3⟩ : ∃ W, W = (W2.setCell ⟨w.heap.size + 1, 0, none⟩ (Value.slice (some ⟨w.heap.size + 1 + 1 + 1, 0, none⟩) np np)).setCell ⟨w.heap.size + 1, 1, none⟩ (Value.slice (some ⟨N2, 0, none⟩) ng ng) := ⟨_, rfl⟩
  have d0 : W3.cell? ⟨w.heap.size + 1, 0, none⟩ = some (Value.slice (some ⟨w.heap.size + 1 + 1 + 1, 0, none⟩) np np) := by rw [hW3, World.cell?_setCell_other _ _ _ _ (by simp)]; exact World.cell?_setCell_same' _ _ _ (by rw [v10]; rfl)
  have d1 : W3.cell? ⟨w.heap.size + 1, 1, none⟩ = some (Value.slice (some ⟨N2, 0, none⟩) ng ng) := by rw [hW3]; exact World.cell?_setCell_same' _ _ _ (by rw [World.cell?_setCell_other _ _ _ _ (by simp), v11]; rfl)
  have hbk : ∀ k, w.heap.size + 1 + 1 + 1 ≤ k → W3.heap[k]? = w2.heap[k]? := fun k hk => by
    rw [hW3, Below.heap_setCell _ _ _ _ (show k ≠ w.heap.size + 1 by omega), Below.heap_setCell _ _ _ _ (show k ≠ w.heap.size + 1 by omega), hW2, Below.heap_setCell _ _ _ _ (show k ≠ w.heap.size + 1 + 1 by omega)]
  have hsz3 : W3.heap.size = w2.heap.size := by rw [hW3, hW2]; simp
  have HF : Hid (PrLaid W3 (w.heap.size + 1 + 1 + 1) N2 ps gs ∧ Below w.heap.size w W3) := by
    obtain ⟨l1, ⟨ds, l2⟩, l3⟩ := HLL.out
    have hN := HN2.out
    refine ⟨⟨l1.other (by omega) (fun k _ hk => hbk k hk), ?_, fun b o hp i hi => ?_⟩, ?_⟩
    · exact OwnCC.ccin ⟨ds, l2.other (by omega) (fun k h1 h2 _ => hbk k (by omega))⟩
    · obtain ⟨q, hq⟩ := l3 b o hp i hi
      have : b = N2 := by simp only [Option.some.injEq, Addr.mk.injEq] at hp; exact hp.1.symm
      exact ⟨q, (World.cell?_of_block (w := w2) (hbk b (by omega))).trans hq⟩
    · rw [hW3, hW2]
      exact ((HB2.out.setCell (p := ⟨_, _, none⟩) (by simp; omega) _).setCell (p := ⟨_, _, none⟩) (by simp) _).setCell (p := ⟨_, _, none⟩) (by simp) _
  have HD : Hid (W3.cell? ⟨w.heap.size + 1, 0, none⟩ = some (Value.slice (some ⟨w.heap.size + 1 + 1 + 1, 0, none⟩) np np) ∧ W3.cell? ⟨w.heap.size + 1, 1, none⟩ = some (Value.slice (some ⟨N2, 0, none⟩) ng ng)) := ⟨d0, d1⟩
  have HW2 : Hid _ := hW2
  have HW3 : Hid _ := hW3
  rw [hW2] at v20 v21 v10 v11
  clear hW3 hW2 d0 d1 hbk hsz3
  go_wp2_with fail
  obtain ⟨d0, d1⟩ := HD.out
  rw [← HW2.out, ← HW3.out]
  exact bodyPost_ret (v := .agg #[Value.slice (some ⟨w.heap.size + 1 + 1 + 1, 0, none⟩) np np, Value.slice (some ⟨N2, 0, none⟩) ng ng]) (by simp [results, Tryz.results6, go_sem, d0, d1]) rfl ⟨_, _, rfl, HF.out.1, HF.out.2⟩
end Go.Proofs.YtfgaenggbbgboaaGreatDoor

namespace Go.Proofs.YtfgaenggbbgboaaGreatDoor
open Go
end Go.Proofs.YtfgaenggbbgboaaGreatDoor

namespace Go.Proofs.YtfgaenggbbgboaaGreatDoor
open Go
section
variable {P : Program} {ops : Array Oper} {Q : Exit → Act → World → Prop} {md : Region.Mode} {S : World → Prop}
def RestQ (Q : Exit → Act → World → Prop) (R : Act → World → Prop) : Exit → Act → World → Prop
  | .normal, a, w => R a w
  | e, a, w => Q e a w
theorem wpOp_rest {R : Act → World → Prop} {i : Nat} {K : Act → World → Prop} {a : Act} {w : World} (h : wpOp P ops (RestQ Q R) i K a w) : wpOp P ops Q i K a w := by
  unfold wpOp at *
  split
  · rename_i ho; simpa [ho] using h
  · rename_i o ho
    simp only [ho] at h
    split
    · rename_i hw
      simp only [hw, if_true] at h
      have hl : LetsOut (RestQ Q R) → LetsOut Q := fun ⟨a, w, h9⟩ => ⟨a, w, h9⟩
      refine h.imp (fun h => ?_) (fun h => ⟨h.1, hl h.2⟩)
      unfold Oper.wp at *
      generalize (execOp a.eval o).run P w = r at *
      cases r with
      | ok n w' =>
        cases n <;> simp only [Oper.upon] at h ⊢ <;>
          first
            | exact h
            | exact Calls.mono h (fun e w'' he => by cases e <;> first | exact he | exact hl he)
      | halt x w' => cases x <;> simp only [Oper.upon] at h ⊢ <;> exact h
    · rename_i hw; simp only [hw] at h; exact h
end
end Go.Proofs.YtfgaenggbbgboaaGreatDoor

