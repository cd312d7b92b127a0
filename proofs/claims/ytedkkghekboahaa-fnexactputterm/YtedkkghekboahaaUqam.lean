/- Texts of MkS, JoinN, ProofSt. Own work of the verifier. -/
import Derived.Test.YtedkkghekboahaaUqak
import Derived.Test.YtedkkghekboahaaUqal
import Derived.Test.YtedkkghekboahaaUqac
namespace Go.Proofs.Ytedkkghekboahaa
open Go Go.RowKit
set_option linter.unusedVariables false

theorem Keep.widen {B U B' U' : Nat} {w w' : World} (h : Keep B U w w') (hB : B' ≤ B) (hU : U ≤ U') : Keep B' U' w w' := ⟨h.os, h.tape, h.output, h.size, fun k hk hp => h.block k hk (by omega)⟩
theorem Keep.alloc {B U : Nat} {w w' : World} (h : Keep B U w w') (o : Obj) : Keep B U w (w'.alloc o) := h.trans ⟨rfl, rfl, rfl, by simp, fun k hk _ => Below.heap_alloc _ _ _ hk⟩
theorem Keep.new (B U : Nat) (w : World) (o : Obj) : Keep B U w (w.alloc o) := (Keep.refl B U w).alloc o

theorem endC_eqM (k : Int) (cs : List Cel) : endC k cs = k + 2 * cs.length + tl cs := by simp [endC, kAt]
theorem markCell_any (B U : Nat) (k n : Int) (p : Option Addr) (m c : Nat) (kk : Int) (t : List Int) (w : World) (h0 : 0 ≤ kk) (h1 : kk ≤ 1000000000000) (hn : m ≤ 1000000000) (hU : ∀ g, tb p m = some g → g < U) (hown : OwnT w B p m c t) :
    Calls Try.prog 18 #[.agg #[.int .i64 k, .int .i64 n, .slice p m c], .int .i64 kk] w fun e w' => e = .returned (.int .i64 (kk + m)) ∧ OwnT w' B p m c (marks kk m) ∧ Keep B U w w' := by
  have HM := markT_any B p m c kk t (w.alloc (.cells #[.int .i64 k, .int .i64 n, .slice p m c] 31)) h0 h1 hn (hown.below ((Below.refl _ _).alloc (Nat.le_refl _) _))
  have HK : Hid (∀ w', (w.alloc (.cells #[.int .i64 k, .int .i64 n, .slice p m c] 31)).grownBy w' (tb p m) → Keep B U w w') := fun w' hg => (Keep.new B U w _).trans (Keep.of_grown hg (fun g e => ⟨(hown.tb e).2.1, hU g e⟩))
  clear hown hU
  go_enter Try.func18, Try.ntmps18
  go_wp2_with (go_at_call 49; refine HM.mono ?_; rintro e w1 ⟨rfl, ho, hg⟩)
  go_ret
  exact ⟨rfl, ho, HK.out _ hg⟩

theorem heldCell_any (k n : Int) (p : Option Addr) (m c : Nat) (kk : Int) (w : World) (h0 : 0 ≤ kk) (h1 : kk ≤ 1000000000000) (hn : m ≤ 1000000000) (hin : BIn w p (marks kk m)) :
    Calls Try.prog 19 #[.agg #[.int .i64 k, .int .i64 n, .slice p m c], .int .i64 kk] w fun e w' => e = .returned (.int .i64 (kk + m)) ∧ Below w.heap.size w w' := by
  have HM := held_any p m c kk (w.alloc (.cells #[.int .i64 k, .int .i64 n, .slice p m c] 31)) h0 h1 hn (hin.below ((Below.refl _ _).alloc (Nat.le_refl _) _))
  have hpos : ¬ (kk + (m : Int) < 0) := by omega
  clear hin
  go_enter Try.func19, Try.ntmps19
  go_wp2_with (go_at_call 50; refine HM.mono ?_; rintro e w1 ⟨rfl, rfl⟩)
  go_ret
  exact ⟨rfl, (Below.refl _ _).alloc (Nat.le_refl _) _⟩

set_option maxRecDepth 100000 in
theorem markStore_any (B M U : Nat) (p q : Option Addr) (n m c1 c2 : Nat) (k : Int) (xs : List Cel) (tr : List Int) (w : World) (h0 : 0 ≤ k) (h1 : k ≤ 10000000) (hx : xs.length + tl xs ≤ 100000000) (hm : m ≤ 100000000) (hBM : B ≤ M) (hMU : M ≤ U) (hU : U ≤ w.heap.size) (hq : ∀ g, Value.ownBlock (.slice q m c2) = some g → g < U) (hown : OwnCU w B M p n c1 xs) (hint : OwnI w M 3 q m c2 tr) :
    Calls Try.prog 17 #[.agg #[.slice p n c1, .slice q m c2], .int .i64 k] w fun e w' => e = .returned (.int .i64 (endC k xs + m)) ∧ (OwnCU w' B M p n c1 (markC k xs) ∧ OwnI w' M 3 q m c2 (ups (endC k xs) m)) ∧ Keep B U w w' := by
  obtain ⟨W0, eW0⟩ : ∃ W0, W0 = w.alloc (.cells #[.slice p n c1, .slice q m c2] 36) := ⟨_, rfl⟩
  have hb0 : Below w.heap.size w W0 := by rw [eW0]; exact (Below.refl _ _).alloc (Nat.le_refl _) _
  have H1 := markCells_any B M p n c1 k xs W0 h0 h1 hx (hown.below hb0)
  have k0 : W0.heap[w.heap.size]? = some (.cells #[.slice p n c1, .slice q m c2] 36) := by rw [eW0]; exact heap_alloc_new _ _
  have hz : W0.heap.size = w.heap.size + 1 := by rw [eW0]; simp
  have HI : Hid (OwnI W0 M 3 q m c2 tr) := hint.below hb0
  have hke : 0 ≤ endC k xs ∧ endC k xs ≤ 1000000000000 := by rw [endC_eqM]; omega
  generalize endC k xs = ke at H1 hke ⊢
  have HC : Hid (∀ w1, Keep B M W0 w1 → w1.cell? ⟨w.heap.size, 1, none⟩ = some (.slice q m c2) ∧ OwnI w1 M 3 q m c2 tr) := fun w1 hk => by
    have j0 := (hk.block w.heap.size (by omega) (by omega)).trans k0
    refine ⟨by simp [World.cell?, j0], HI.out.1, ⟨HI.out.2.1, ?_⟩⟩
    rcases HI.out.2.2 with h' | ⟨g, cap, cur, hv, hB, hg, r⟩
    · exact .inl h'
    · exact .inr ⟨g, cap, cur, hv, hB, (hk.block g (Array.getElem?_eq_some_iff.1 hg).1 (.inr hB)).trans hg, r⟩
  have HF : Hid (∀ w1 w2, Keep B M W0 w1 → w1.grownBy w2 (Value.ownBlock (.slice q m c2)) → OwnCU w1 B M p n c1 (markC k xs) → OwnCU w2 B M p n c1 (markC k xs) ∧ Keep B U w w2) := fun w1 w2 hk hg ho => by
    have hrow : ∀ g, Value.ownBlock (.slice q m c2) = some g → M ≤ g := fun g e => (HI.out.2.lt g e).1
    refine ⟨ho.other hg.size (fun j hj _ hj2 => hg.block j hj (fun e => by have := hrow j e.symm; omega)), ?_⟩
    have a1 : Keep B U w W0 := by rw [eW0]; exact Keep.new B U w _
    exact (a1.trans (hk.widen (Nat.le_refl _) hMU)).trans (Keep.of_grown hg (fun g e => ⟨Nat.le_trans hBM (hrow g e), hq g e⟩))
  have HM : Hid (∀ w1, OwnI w1 M 3 q m c2 tr → Calls Try.prog 48 #[.slice q m c2, .int .i64 ke] w1 fun e w' => e = .returned (.int .i64 (ke + m)) ∧ OwnI w' M 3 q m c2 (ups ke m) ∧ w1.grownBy w' (Value.ownBlock (.slice q m c2))) := fun w1 h => markIntS_any M q m c2 ke tr w1 hke.1 hke.2 (by omega) h
  rw [eW0] at H1
  have HE0 : Hid _ := eW0
  clear hown hint hb0 k0 hz hq hBM hMU hU HI eW0 hx
  go_enter Try.func17, Try.ntmps17
  go_wp2_with fail
  refine H1.mono ?_
  rintro e w1 ⟨rfl, ho1, hk1⟩
  rw [← HE0.out] at hk1
  obtain ⟨s1, hi1⟩ := HC.out w1 hk1
  have HM1 := HM.out w1 hi1
  have HO1 : Hid (OwnCU w1 B M p n c1 (markC k xs) ∧ Keep B M W0 w1) := ⟨ho1, hk1⟩
  clear H1 HM HC ho1 hk1 hi1
  go_wp2_with (go_at_call 48; refine HM1.mono ?_; rintro e w2 ⟨rfl, ho2, hg2⟩)
  go_ret
  obtain ⟨f1, f2⟩ := HF.out w1 w2 HO1.out.2 hg2 HO1.out.1
  exact ⟨rfl, ⟨f1, ho2⟩, f2⟩

set_option maxRecDepth 100000 in
theorem heldStore_any (p q : Option Addr) (n m c1 c2 : Nat) (k : Int) (xs : List Cel) (w : World) (h0 : 0 ≤ k) (h1 : k ≤ 10000000) (hx : xs.length + tl xs ≤ 100000000) (hm : m ≤ 100000000) (hn : n = xs.length) (hc : CIn w p (markC k xs)) (hi : IIn w q (ups (endC k xs) m)) :
    Calls Try.prog 27 #[.agg #[.slice p n c1, .slice q m c2], .int .i64 k] w fun e w' => e = .returned (.int .i64 (endC k xs + m)) ∧ Below w.heap.size w w' := by
  obtain ⟨W0, eW0⟩ : ∃ W0, W0 = w.alloc (.cells #[.slice p n c1, .slice q m c2] 36) := ⟨_, rfl⟩
  have hb0 : Below w.heap.size w W0 := by rw [eW0]; exact (Below.refl _ _).alloc (Nat.le_refl _) _
  have H1 := heldCells_any p n c1 k xs W0 h0 h1 (by omega) hn (hc.below hb0)
  have k0 : W0.heap[w.heap.size]? = some (.cells #[.slice p n c1, .slice q m c2] 36) := by rw [eW0]; exact heap_alloc_new _ _
  have hke : 0 ≤ endC k xs ∧ endC k xs ≤ 1000000000000 := by rw [endC_eqM]; omega
  have HI : Hid (IIn W0 q (ups (endC k xs) m)) := hi.below hb0
  generalize endC k xs = ke at H1 hke HI ⊢
  have H2 := heldIntS_any q m c2 ke W0 hke.1 hke.2 (by omega) HI.out
  have p1 : ¬ ke < 0 := by omega
  have p2 : ¬ (ke + (m : Int) < 0) := by omega
  have s1 : W0.cell? ⟨w.heap.size, 1, none⟩ = some (.slice q m c2) := by simp [World.cell?, k0]
  have HB : Hid _ := hb0
  rw [eW0] at H1 H2 s1
  have HE0 : Hid _ := eW0
  clear hc hi hb0 k0 HI eW0 hx hn
  go_enter Try.func27, Try.ntmps27
  go_wp2_with fail
  refine H1.mono ?_
  rintro e w1 ⟨rfl, rfl⟩
  go_wp2_with (go_at_call 62; refine H2.mono ?_; rintro e w2 ⟨rfl, rfl⟩)
  go_ret
  exact ⟨rfl, by rw [← HE0.out]; exact HB.out⟩

end Go.Proofs.Ytedkkghekboahaa

namespace Go.Proofs.Ytedkkghekboahaa
open Go Go.RowKit
set_option linter.unusedVariables false

theorem joinN1 {A0 : Type} {F G : A0 → Prop} {goal : Prop} (h1 : Hid (∀ a0, F a0 → G a0) → goal) (h2 : ∀ a0, F a0 → G a0) : goal := h1 h2
theorem joinN2 {A0 A1 : Type} {F G : A0 → A1 → Prop} {goal : Prop} (h1 : Hid (∀ a0 a1, F a0 a1 → G a0 a1) → goal) (h2 : ∀ a0 a1, F a0 a1 → G a0 a1) : goal := h1 h2
theorem joinN3 {A0 A1 A2 : Type} {F G : A0 → A1 → A2 → Prop} {goal : Prop} (h1 : Hid (∀ a0 a1 a2, F a0 a1 a2 → G a0 a1 a2) → goal) (h2 : ∀ a0 a1 a2, F a0 a1 a2 → G a0 a1 a2) : goal := h1 h2
theorem joinN4 {A0 A1 A2 A3 : Type} {F G : A0 → A1 → A2 → A3 → Prop} {goal : Prop} (h1 : Hid (∀ a0 a1 a2 a3, F a0 a1 a2 a3 → G a0 a1 a2 a3) → goal) (h2 : ∀ a0 a1 a2 a3, F a0 a1 a2 a3 → G a0 a1 a2 a3) : goal := h1 h2
theorem joinN5 {A0 A1 A2 A3 A4 : Type} {F G : A0 → A1 → A2 → A3 → A4 → Prop} {goal : Prop} (h1 : Hid (∀ a0 a1 a2 a3 a4, F a0 a1 a2 a3 a4 → G a0 a1 a2 a3 a4) → goal) (h2 : ∀ a0 a1 a2 a3 a4, F a0 a1 a2 a3 a4 → G a0 a1 a2 a3 a4) : goal := h1 h2
theorem joinN6 {A0 A1 A2 A3 A4 A5 : Type} {F G : A0 → A1 → A2 → A3 → A4 → A5 → Prop} {goal : Prop} (h1 : Hid (∀ a0 a1 a2 a3 a4 a5, F a0 a1 a2 a3 a4 a5 → G a0 a1 a2 a3 a4 a5) → goal) (h2 : ∀ a0 a1 a2 a3 a4 a5, F a0 a1 a2 a3 a4 a5 → G a0 a1 a2 a3 a4 a5) : goal := h1 h2
theorem joinN7 {A0 A1 A2 A3 A4 A5 A6 : Type} {F G : A0 → A1 → A2 → A3 → A4 → A5 → A6 → Prop} {goal : Prop} (h1 : Hid (∀ a0 a1 a2 a3 a4 a5 a6, F a0 a1 a2 a3 a4 a5 a6 → G a0 a1 a2 a3 a4 a5 a6) → goal) (h2 : ∀ a0 a1 a2 a3 a4 a5 a6, F a0 a1 a2 a3 a4 a5 a6 → G a0 a1 a2 a3 a4 a5 a6) : goal := h1 h2
theorem joinN8 {A0 A1 A2 A3 A4 A5 A6 A7 : Type} {F G : A0 → A1 → A2 → A3 → A4 → A5 → A6 → A7 → Prop} {goal : Prop} (h1 : Hid (∀ a0 a1 a2 a3 a4 a5 a6 a7, F a0 a1 a2 a3 a4 a5 a6 a7 → G a0 a1 a2 a3 a4 a5 a6 a7) → goal) (h2 : ∀ a0 a1 a2 a3 a4 a5 a6 a7, F a0 a1 a2 a3 a4 a5 a6 a7 → G a0 a1 a2 a3 a4 a5 a6 a7) : goal := h1 h2
theorem joinN9 {A0 A1 A2 A3 A4 A5 A6 A7 A8 : Type} {F G : A0 → A1 → A2 → A3 → A4 → A5 → A6 → A7 → A8 → Prop} {goal : Prop} (h1 : Hid (∀ a0 a1 a2 a3 a4 a5 a6 a7 a8, F a0 a1 a2 a3 a4 a5 a6 a7 a8 → G a0 a1 a2 a3 a4 a5 a6 a7 a8) → goal) (h2 : ∀ a0 a1 a2 a3 a4 a5 a6 a7 a8, F a0 a1 a2 a3 a4 a5 a6 a7 a8 → G a0 a1 a2 a3 a4 a5 a6 a7 a8) : goal := h1 h2

theorem hid {p : Prop} (h : p) : Hid p := h
/-- What is asked of a text that came in. -/
structure BArgB (w : World) (p : Option Addr) (t : List Int) : Prop where
  lies : BIn w p t
  len : t.length ≤ 9223372036854775807
  byte : Byte t
theorem alloc_on (w : World) (o : Obj) : Below w.heap.size w (w.alloc o) := (Below.refl _ _).alloc (Nat.le_refl _) _
/-- A box of two. -/
def Box2 (w : World) (b : Nat) (v0 v1 : Value) : Prop := w.cell? ⟨b, 0, none⟩ = some v0 ∧ w.cell? ⟨b, 1, none⟩ = some v1 ∧ ∀ j, w.frozen? ⟨b, j, none⟩ = false
theorem Box2.of_block {w : World} {b : Nat} {v0 v1 : Value} {t : TypeId} (h : w.heap[b]? = some (.cells #[v0, v1] t)) : Box2 w b v0 v1 :=
  ⟨by simp [World.cell?, h], by simp [World.cell?, h], fun j => frozen_of_row _ _ _ _ _ h⟩
theorem Box2.lt {w : World} {b : Nat} {v0 v1 : Value} (h : Box2 w b v0 v1) : b < w.heap.size := World.block_lt_of_cell? _ _ h.1
theorem Box3.lt {w : World} {b : Nat} {v0 v1 v2 : Value} (h : Box3 w b v0 v1 v2) : b < w.heap.size := World.block_lt_of_cell? _ _ h.1
theorem Box2.on {w w' : World} {b : Nat} {v0 v1 : Value} (h : Box2 w b v0 v1) (hb : Below w.heap.size w w') : Box2 w' b v0 v1 :=
  ⟨(hb.cell h.lt).trans h.1, (hb.cell h.lt).trans h.2.1, fun j => (hb.frozen (p := ⟨b, j, none⟩) h.lt).trans (h.2.2 j)⟩
theorem Box3.on {w w' : World} {b : Nat} {v0 v1 v2 : Value} (h : Box3 w b v0 v1 v2) (hb : Below w.heap.size w w') : Box3 w' b v0 v1 v2 := h.below hb h.lt
theorem Box2.keep {w w' : World} {b B U : Nat} {v0 v1 : Value} (h : Box2 w b v0 v1) (hk : Keep B U w w') (hp : b < B ∨ U ≤ b) : Box2 w' b v0 v1 := by
  have e := hk.block b h.lt hp
  exact ⟨(World.cell?_of_block (a := ⟨b, 0, none⟩) e).trans h.1, (World.cell?_of_block (a := ⟨b, 1, none⟩) e).trans h.2.1, fun j => (World.frozen?_of_block (a := ⟨b, j, none⟩) e).trans (h.2.2 j)⟩
theorem Box3.keep {w w' : World} {b B U : Nat} {v0 v1 v2 : Value} (h : Box3 w b v0 v1 v2) (hk : Keep B U w w') (hp : b < B ∨ U ≤ b) : Box3 w' b v0 v1 v2 := by
  have e := hk.block b h.lt hp
  exact ⟨(World.cell?_of_block (a := ⟨b, 0, none⟩) e).trans h.1, (World.cell?_of_block (a := ⟨b, 1, none⟩) e).trans h.2.1, (World.cell?_of_block (a := ⟨b, 2, none⟩) e).trans h.2.2.1, fun j => (World.frozen?_of_block (a := ⟨b, j, none⟩) e).trans (h.2.2.2 j)⟩
theorem Box3.put {w : World} {b : Nat} {u0 u1 u2 : Value} (h : Box3 w b u0 u1 u2) (v0 v1 v2 : Value) : Box3 (((w.setCell ⟨b, 0, none⟩ v0).setCell ⟨b, 1, none⟩ v1).setCell ⟨b, 2, none⟩ v2) b v0 v1 v2 := by
  obtain ⟨e0, e1, e2⟩ := box3_set h.1 h.2.1 h.2.2.1 v0 v1 v2
  exact ⟨e0, e1, e2, fun i => by rw [World.frozen?_setCell, World.frozen?_setCell, World.frozen?_setCell]; exact h.2.2.2 i⟩
theorem Box2.put {w : World} {b : Nat} {u0 u1 : Value} (h : Box2 w b u0 u1) (v0 v1 : Value) : Box2 ((w.setCell ⟨b, 0, none⟩ v0).setCell ⟨b, 1, none⟩ v1) b v0 v1 :=
  ⟨(World.cell?_setCell_other _ _ _ _ (by simp)).trans (World.cell?_setCell_same _ _ _ (by rw [h.1])), World.cell?_setCell_same _ _ _ (by rw [World.cell?_setCell_other _ _ _ _ (by simp), h.2.1]), fun i => by rw [World.frozen?_setCell, World.frozen?_setCell]; exact h.2.2 i⟩
theorem below_put3 {B b : Nat} {w w' : World} (h : Below B w w') (hb : B ≤ b) (v0 v1 v2 : Value) : Below B w (((w'.setCell ⟨b, 0, none⟩ v0).setCell ⟨b, 1, none⟩ v1).setCell ⟨b, 2, none⟩ v2) := ((h.setCell (p := ⟨b, 0, none⟩) hb _).setCell (p := ⟨b, 1, none⟩) hb _).setCell (p := ⟨b, 2, none⟩) hb _
theorem below_put2 {B b : Nat} {w w' : World} (h : Below B w w') (hb : B ≤ b) (v0 v1 : Value) : Below B w ((w'.setCell ⟨b, 0, none⟩ v0).setCell ⟨b, 1, none⟩ v1) := (h.setCell (p := ⟨b, 0, none⟩) hb _).setCell (p := ⟨b, 1, none⟩) hb _
/-- Numbers, and a text, of the call's own, in blocks below U. -/
def OwnIU (w : World) (B U : Nat) (p : Option Addr) (n c : Nat) (zs : List Int) : Prop := OwnI w B 3 p n c zs ∧ ∀ g, Value.ownBlock (.slice p n c) = some g → g < U
theorem OwnI.up {w : World} {B : Nat} {p : Option Addr} {n c : Nat} {zs : List Int} (h : OwnI w B 3 p n c zs) : OwnIU w B w.heap.size p n c zs := ⟨h, fun g e => (h.2.lt g e).2⟩
theorem OwnIU.on {w w' : World} {B U : Nat} {p : Option Addr} {n c : Nat} {zs : List Int} (h : OwnIU w B U p n c zs) (hb : Below w.heap.size w w') : OwnIU w' B U p n c zs := ⟨h.1.below hb, h.2⟩
theorem OwnIU.keep {w w' : World} {B U B' U' : Nat} {p : Option Addr} {n c : Nat} {zs : List Int} (h : OwnIU w B U p n c zs) (hk : Keep B' U' w w') (ho : U ≤ B' ∨ U' ≤ B) : OwnIU w' B U p n c zs := by
  refine ⟨⟨h.1.1, h.1.2.1, ?_⟩, h.2⟩
  rcases h.1.2.2 with h' | ⟨g, cap, cur, hv, hB, hg, r⟩
  · exact .inl h'
  · have hu : g < U := h.2 g (by simp only [Value.slice.injEq] at hv; rw [hv.1]; rfl)
    exact .inr ⟨g, cap, cur, hv, hB, (hk.block g (Array.getElem?_eq_some_iff.1 hg).1 (by omega)).trans hg, r⟩
def OwnTU (w : World) (B U : Nat) (p : Option Addr) (n c : Nat) (t : List Int) : Prop := OwnT w B p n c t ∧ ∀ g, tb p n = some g → g < U
theorem OwnT.up {w : World} {B : Nat} {p : Option Addr} {n c : Nat} {t : List Int} (h : OwnT w B p n c t) : OwnTU w B w.heap.size p n c t := ⟨h, fun g e => (h.tb e).2.2⟩
theorem OwnTU.on {w w' : World} {B U : Nat} {p : Option Addr} {n c : Nat} {t : List Int} (h : OwnTU w B U p n c t) (hb : Below w.heap.size w w') : OwnTU w' B U p n c t := ⟨h.1.below hb, h.2⟩
theorem OwnTU.keep {w w' : World} {B U B' U' : Nat} {p : Option Addr} {n c : Nat} {t : List Int} (h : OwnTU w B U p n c t) (hk : Keep B' U' w w') (ho : U ≤ B' ∨ U' ≤ B) : OwnTU w' B U p n c t := by
  refine ⟨h.1.other hk.size (fun g hn e => ?_), h.2⟩
  have e' : Go.Proofs.Ytedkkghekboahaa.tb p n = some g := by rw [e]; exact tb_of hn
  have := h.1.tb e'
  have hu := h.2 g e'
  exact hk.block g this.2.2 (by omega)

end Go.Proofs.Ytedkkghekboahaa

namespace Go.Proofs.Ytedkkghekboahaa
open Go Go.ChangeShapes Go.WideShapes Go.ChangeAt Go.WideMaps Go.WideElems Go.RowKit Go.Deep

theorem cellsCellS : Try.prog.cellsOf 22 = 1 := by kernel_rfl
theorem cellsIntS : Try.prog.cellsOf 23 = 1 := by kernel_rfl
theorem cellsStore : Try.prog.cellsOf 25 = 2 := by kernel_rfl
/-- A slice of numbers by its one cell. -/
theorem openedNums {H : Type} {enc : TypeId × Value → H} {W : World} {fuel : Nat} {v : Value} {x : DataW H × List MemPlace}
    (h : DataW.trod enc Try.prog W 0 (fun _ => true) true fuel 23 [v] = some x) :
    ∃ (p : Option Addr) (cap : Nat) (xs : List Int), v = .slice p xs.length cap ∧ IArg W p xs := by
  rcases open_ints Try.underlying23 Try.underlying3 cellsInt h with ⟨hcs, hx⟩ | ⟨a, len', cap', zs, hcs, _, hl, hm, hz, hx, hcell, hwz⟩
  · obtain rfl : v = .slice none 0 0 := by simpa using hcs
    exact ⟨none, 0, [], rfl, fun h => absurd h (Nat.lt_irrefl 0), by decide⟩
  · obtain rfl : v = .slice (some a) len' cap' := by simpa using hcs
    simp only [if_true] at hz
    unfold maxLen at hm
    refine ⟨some a, cap', zs.take len', by congr 1; simp; omega, fun hn => ?_, by simp; omega⟩
    have hn' : 0 < zs.length := by simp at hn; omega
    obtain ⟨b, o, s⟩ := a
    obtain rfl : s = none := by simpa [Addr.add] using World.cell?_spot (hcell 0 hn')
    refine ⟨b, o, rfl, fun i hi => ?_⟩
    have hi' : i < len' := by simp at hi; omega
    have := hcell i (by omega)
    rw [add_plain] at this
    rw [this]
    simp [List.getD, hi']
/-- A slice of cells by its one cell. -/
theorem openedCellsV {H : Type} {enc : TypeId × Value → H} {W : World} {fuel : Nat} {v : Value} {x : DataW H × List MemPlace}
    (h : DataW.trod enc Try.prog W 0 (fun _ => true) true fuel 22 [v] = some x) :
    ∃ (p : Option Addr) (cap : Nat) (xs : List Cel), v = .slice p xs.length cap ∧ CArg W p xs := by
  have hv : ∃ a len cap, v = .slice a len cap := by
    rcases open_slice Try.underlying22 h with ⟨hcs, _⟩ | ⟨a, len', cap', _, _, _, _, hcs, _⟩
    · exact ⟨none, 0, 0, by simpa using hcs⟩
    · exact ⟨some a, len', cap', by simpa using hcs⟩
  obtain ⟨a, len, cap, rfl⟩ := hv
  obtain ⟨d, p⟩ := x
  obtain ⟨cs, rfl, hin⟩ := openedCells (a0 := a) (len := len) (cap := cap) (d0 := d) (p := p) ⟨fuel, h⟩
  exact ⟨a, cap, cs, rfl, hin⟩
theorem two_of {cs : List Value} (h : cs.length = 2) : ∃ a b, cs = [a, b] := by
  match cs, h with
  | [a, b], _ => exact ⟨a, b, rfl⟩
/-- A store that came in. -/
theorem openedStore {H : Type} {enc : TypeId × Value → H} {W : World} {cs : Array Value} {d0 : DataW H} {p : List MemPlace}
    (h0 : DataW.Trod enc Try.prog W 0 (fun _ => true) true 25 (.agg cs) d0 p) : ∃ p q c1 c2 xs tr, cs = #[.slice p (List.length (α := Cel) xs) c1, .slice q (List.length (α := Int) tr) c2] ∧ CArg W p xs ∧ IArg W q tr := by
  obtain ⟨fuel, hf⟩ := h0
  have hf : DataW.trod enc Try.prog W 0 (fun _ => true) true fuel 25 cs.toList = some (d0, p) := hf
  obtain ⟨y0, y1, n, hx, hl, h0, h1⟩ := trod_struct2 Try.underlying25 hf
  rw [cellsStore] at hl
  obtain ⟨a, b, hab⟩ := two_of hl
  rw [hab] at h0 h1
  simp only [cellsCellS, cellsIntS, List.drop_zero, List.take_succ_cons, List.take_zero, List.drop_succ_cons] at h0 h1
  obtain ⟨p0, q0, xs, rfl, hxs⟩ := openedCellsV h0
  obtain ⟨p1, q1, tr, rfl, htr⟩ := openedNums h1
  exact ⟨p0, p1, q0, q1, xs, tr, by apply Array.ext'; rw [hab], hxs, htr⟩
theorem openedCellB {H : Type} {enc : TypeId × Value → H} {W : World} {cs : Array Value} {d0 : DataW H} {p : List MemPlace}
    (h0 : DataW.Trod enc Try.prog W 0 (fun _ => true) true 28 (.agg cs) d0 p) : ∃ k n pt cap t, cs = #[.int .i64 k, .int .i64 n, .slice pt (List.length (α := Int) t) cap] ∧ BArgB W pt t := by
  obtain ⟨fuel, hf⟩ := h0
  have hf : DataW.trod enc Try.prog W 0 (fun _ => true) true fuel 28 cs.toList = some (d0, p) := hf
  obtain ⟨k, n, pt, cap, t, e, h1, h2, h3, _⟩ := openedCell hf
  exact ⟨k, n, pt, cap, t, by apply Array.ext'; rw [e], h2, h1, h3⟩


end Go.Proofs.Ytedkkghekboahaa

