/- Several orders of a statement, joined; what turns under marks. Own work of the verifier. -/
import Derived.Test.YtcdcdpmjibcolaaMkS
namespace Go.Proofs.Ytcdcdpmjibcolaa
open Go Go.RowKit
set_option linter.unusedVariables false

theorem joinN1 {A0 : Type} {F G : A0 → Prop} {goal : Prop} (h1 : Hid (∀ a0, F a0 → G a0) → goal) (h2 : ∀ a0, F a0 → G a0) : goal := h1 h2
theorem joinN2 {A0 A1 : Type} {F G : A0 → A1 → Prop} {goal : Prop} (h1 : Hid (∀ a0 a1, F a0 a1 → G a0 a1) → goal) (h2 : ∀ a0 a1, F a0 a1 → G a0 a1) : goal := h1 h2
theorem joinN3 {A0 A1 A2 : Type} {F G : A0 → A1 → A2 → Prop} {goal : Prop} (h1 : Hid (∀ a0 a1 a2, F a0 a1 a2 → G a0 a1 a2) → goal) (h2 : ∀ a0 a1 a2, F a0 a1 a2 → G a0 a1 a2) : goal := h1 h2
theorem joinN4 {A0 A1 A2 A3 : Type} {F G : A0 → A1 → A2 → A3 → Prop} {goal : Prop} (h1 : Hid (∀ a0 a1 a2 a3, F a0 a1 a2 a3 → G a0 a1 a2 a3) → goal) (h2 : ∀ a0 a1 a2 a3, F a0 a1 a2 a3 → G a0 a1 a2 a3) : goal := h1 h2
theorem joinN5 {A0 A1 A2 A3 A4 : Type} {F G : A0 → A1 → A2 → A3 → A4 → Prop} {goal : Prop} (h1 : Hid (∀ a0 a1 a2 a3 a4, F a0 a1 a2 a3 a4 → G a0 a1 a2 a3 a4) → goal) (h2 : ∀ a0 a1 a2 a3 a4, F a0 a1 a2 a3 a4 → G a0 a1 a2 a3 a4) : goal := h1 h2
theorem joinN6 {A0 A1 A2 A3 A4 A5 : Type} {F G : A0 → A1 → A2 → A3 → A4 → A5 → Prop} {goal : Prop} (h1 : Hid (∀ a0 a1 a2 a3 a4 a5, F a0 a1 a2 a3 a4 a5 → G a0 a1 a2 a3 a4 a5) → goal) (h2 : ∀ a0 a1 a2 a3 a4 a5, F a0 a1 a2 a3 a4 a5 → G a0 a1 a2 a3 a4 a5) : goal := h1 h2
theorem joinN7 {A0 A1 A2 A3 A4 A5 A6 : Type} {F G : A0 → A1 → A2 → A3 → A4 → A5 → A6 → Prop} {goal : Prop} (h1 : Hid (∀ a0 a1 a2 a3 a4 a5 a6, F a0 a1 a2 a3 a4 a5 a6 → G a0 a1 a2 a3 a4 a5 a6) → goal) (h2 : ∀ a0 a1 a2 a3 a4 a5 a6, F a0 a1 a2 a3 a4 a5 a6 → G a0 a1 a2 a3 a4 a5 a6) : goal := h1 h2
theorem joinN8 {A0 A1 A2 A3 A4 A5 A6 A7 : Type} {F G : A0 → A1 → A2 → A3 → A4 → A5 → A6 → A7 → Prop} {goal : Prop} (h1 : Hid (∀ a0 a1 a2 a3 a4 a5 a6 a7, F a0 a1 a2 a3 a4 a5 a6 a7 → G a0 a1 a2 a3 a4 a5 a6 a7) → goal) (h2 : ∀ a0 a1 a2 a3 a4 a5 a6 a7, F a0 a1 a2 a3 a4 a5 a6 a7 → G a0 a1 a2 a3 a4 a5 a6 a7) : goal := h1 h2
theorem joinN9 {A0 A1 A2 A3 A4 A5 A6 A7 A8 : Type} {F G : A0 → A1 → A2 → A3 → A4 → A5 → A6 → A7 → A8 → Prop} {goal : Prop} (h1 : Hid (∀ a0 a1 a2 a3 a4 a5 a6 a7 a8, F a0 a1 a2 a3 a4 a5 a6 a7 a8 → G a0 a1 a2 a3 a4 a5 a6 a7 a8) → goal) (h2 : ∀ a0 a1 a2 a3 a4 a5 a6 a7 a8, F a0 a1 a2 a3 a4 a5 a6 a7 a8 → G a0 a1 a2 a3 a4 a5 a6 a7 a8) : goal := h1 h2

theorem hid {p : Prop} (h : p) : Hid p := h
/-- What is asked of a text that came in. -/
structure BArgB (w : World) (p : Option Addr) (t : List Int) : Prop where
  lies : BIn w p t
  len : t.length ≤ 9223372036854775807
  byte : Byte t
theorem alloc_on (w : World) (o : Obj) : Below w.heap.size w (w.alloc o) := (Below.refl _ _).alloc (Nat.le_refl _) _
/-- A box of two. -/
def Box2 (w : World) (b : Nat) (v0 v1 : Value) : Prop := w.cell? ⟨b, 0, none⟩ = some v0 ∧ w.cell? ⟨b, 1, none⟩ = some v1 ∧ ∀ j, w.frozen? ⟨b, j, none⟩ = false
theorem Box2.of_block {w : World} {b : Nat} {v0 v1 : Value} {t : TypeId} (h : w.heap[b]? = some (.cells #[v0, v1] t)) : Box2 w b v0 v1 :=
  ⟨by simp [World.cell?, h], by simp [World.cell?, h], fun j => frozen_of_row _ _ _ _ _ h⟩
theorem Box2.lt {w : World} {b : Nat} {v0 v1 : Value} (h : Box2 w b v0 v1) : b < w.heap.size := World.block_lt_of_cell? _ _ h.1
theorem Box3.lt {w : World} {b : Nat} {v0 v1 v2 : Value} (h : Box3 w b v0 v1 v2) : b < w.heap.size := World.block_lt_of_cell? _ _ h.1
theorem Box2.on {w w' : World} {b : Nat} {v0 v1 : Value} (h : Box2 w b v0 v1) (hb : Below w.heap.size w w') : Box2 w' b v0 v1 :=
  ⟨(hb.cell h.lt).trans h.1, (hb.cell h.lt).trans h.2.1, fun j => (hb.frozen (p := ⟨b, j, none⟩) h.lt).trans (h.2.2 j)⟩
theorem Box3.on {w w' : World} {b : Nat} {v0 v1 v2 : Value} (h : Box3 w b v0 v1 v2) (hb : Below w.heap.size w w') : Box3 w' b v0 v1 v2 := h.below hb h.lt
theorem Box2.keep {w w' : World} {b B U : Nat} {v0 v1 : Value} (h : Box2 w b v0 v1) (hk : Keep B U w w') (hp : b < B ∨ U ≤ b) : Box2 w' b v0 v1 := by
  have e := hk.block b h.lt hp
  exact ⟨(World.cell?_of_block (a := ⟨b, 0, none⟩) e).trans h.1, (World.cell?_of_block (a := ⟨b, 1, none⟩) e).trans h.2.1, fun j => (World.frozen?_of_block (a := ⟨b, j, none⟩) e).trans (h.2.2 j)⟩
theorem Box3.keep {w w' : World} {b B U : Nat} {v0 v1 v2 : Value} (h : Box3 w b v0 v1 v2) (hk : Keep B U w w') (hp : b < B ∨ U ≤ b) : Box3 w' b v0 v1 v2 := by
  have e := hk.block b h.lt hp
  exact ⟨(World.cell?_of_block (a := ⟨b, 0, none⟩) e).trans h.1, (World.cell?_of_block (a := ⟨b, 1, none⟩) e).trans h.2.1, (World.cell?_of_block (a := ⟨b, 2, none⟩) e).trans h.2.2.1, fun j => (World.frozen?_of_block (a := ⟨b, j, none⟩) e).trans (h.2.2.2 j)⟩
theorem Box3.put {w : World} {b : Nat} {u0 u1 u2 : Value} (h : Box3 w b u0 u1 u2) (v0 v1 v2 : Value) : Box3 (((w.setCell ⟨b, 0, none⟩ v0).setCell ⟨b, 1, none⟩ v1).setCell ⟨b, 2, none⟩ v2) b v0 v1 v2 := by
  obtain ⟨e0, e1, e2⟩ := box3_set h.1 h.2.1 h.2.2.1 v0 v1 v2
  exact ⟨e0, e1, e2, fun i => by rw [World.frozen?_setCell, World.frozen?_setCell, World.frozen?_setCell]; exact h.2.2.2 i⟩
theorem Box2.put {w : World} {b : Nat} {u0 u1 : Value} (h : Box2 w b u0 u1) (v0 v1 : Value) : Box2 ((w.setCell ⟨b, 0, none⟩ v0).setCell ⟨b, 1, none⟩ v1) b v0 v1 :=
  ⟨(World.cell?_setCell_other _ _ _ _ (by simp)).trans (World.cell?_setCell_same _ _ _ (by rw [h.1])), World.cell?_setCell_same _ _ _ (by rw [World.cell?_setCell_other _ _ _ _ (by simp), h.2.1]), fun i => by rw [World.frozen?_setCell, World.frozen?_setCell]; exact h.2.2 i⟩
theorem below_put3 {B b : Nat} {w w' : World} (h : Below B w w') (hb : B ≤ b) (v0 v1 v2 : Value) : Below B w (((w'.setCell ⟨b, 0, none⟩ v0).setCell ⟨b, 1, none⟩ v1).setCell ⟨b, 2, none⟩ v2) := ((h.setCell (p := ⟨b, 0, none⟩) hb _).setCell (p := ⟨b, 1, none⟩) hb _).setCell (p := ⟨b, 2, none⟩) hb _
theorem below_put2 {B b : Nat} {w w' : World} (h : Below B w w') (hb : B ≤ b) (v0 v1 : Value) : Below B w ((w'.setCell ⟨b, 0, none⟩ v0).setCell ⟨b, 1, none⟩ v1) := (h.setCell (p := ⟨b, 0, none⟩) hb _).setCell (p := ⟨b, 1, none⟩) hb _
/-- Numbers, and a text, of the call's own, in blocks below U. -/
def OwnIU (w : World) (B U : Nat) (p : Option Addr) (n c : Nat) (zs : List Int) : Prop := OwnI w B 3 p n c zs ∧ ∀ g, Value.ownBlock (.slice p n c) = some g → g < U
theorem OwnI.up {w : World} {B : Nat} {p : Option Addr} {n c : Nat} {zs : List Int} (h : OwnI w B 3 p n c zs) : OwnIU w B w.heap.size p n c zs := ⟨h, fun g e => (h.2.lt g e).2⟩
theorem OwnIU.on {w w' : World} {B U : Nat} {p : Option Addr} {n c : Nat} {zs : List Int} (h : OwnIU w B U p n c zs) (hb : Below w.heap.size w w') : OwnIU w' B U p n c zs := ⟨h.1.below hb, h.2⟩
theorem OwnIU.keep {w w' : World} {B U B' U' : Nat} {p : Option Addr} {n c : Nat} {zs : List Int} (h : OwnIU w B U p n c zs) (hk : Keep B' U' w w') (ho : U ≤ B' ∨ U' ≤ B) : OwnIU w' B U p n c zs := by
  refine ⟨⟨h.1.1, h.1.2.1, ?_⟩, h.2⟩
  rcases h.1.2.2 with h' | ⟨g, cap, cur, hv, hB, hg, r⟩
  · exact .inl h'
  · have hu : g < U := h.2 g (by simp only [Value.slice.injEq] at hv; rw [hv.1]; rfl)
    exact .inr ⟨g, cap, cur, hv, hB, (hk.block g (Array.getElem?_eq_some_iff.1 hg).1 (by omega)).trans hg, r⟩
def OwnTU (w : World) (B U : Nat) (p : Option Addr) (n c : Nat) (t : List Int) : Prop := OwnT w B p n c t ∧ ∀ g, tb p n = some g → g < U
theorem OwnT.up {w : World} {B : Nat} {p : Option Addr} {n c : Nat} {t : List Int} (h : OwnT w B p n c t) : OwnTU w B w.heap.size p n c t := ⟨h, fun g e => (h.tb e).2.2⟩
theorem OwnTU.on {w w' : World} {B U : Nat} {p : Option Addr} {n c : Nat} {t : List Int} (h : OwnTU w B U p n c t) (hb : Below w.heap.size w w') : OwnTU w' B U p n c t := ⟨h.1.below hb, h.2⟩
theorem OwnTU.keep {w w' : World} {B U B' U' : Nat} {p : Option Addr} {n c : Nat} {t : List Int} (h : OwnTU w B U p n c t) (hk : Keep B' U' w w') (ho : U ≤ B' ∨ U' ≤ B) : OwnTU w' B U p n c t := by
  refine ⟨h.1.other hk.size (fun g hn e => ?_), h.2⟩
  have e' : Go.Proofs.Ytcdcdpmjibcolaa.tb p n = some g := by rw [e]; exact tb_of hn
  have := h.1.tb e'
  have hu := h.2 g e'
  exact hk.block g this.2.2 (by omega)

end Go.Proofs.Ytcdcdpmjibcolaa
