/- Texts of Mark, CelA, CelB, MarkT, MarkG. Own work of the verifier. -/
import Derived.Test.YtfgaenggbbgboaaGreatDoorUqaa
import Derived.Deep.Light
namespace Go.Proofs.YtfgaenggbbgboaaGreatDoor
open Go Go.RowKit
set_option linter.unusedVariables false
end Go.Proofs.YtfgaenggbbgboaaGreatDoor

namespace Go.Proofs.YtfgaenggbbgboaaGreatDoor
open Go Go.RowKit
set_option linter.unusedVariables false
abbrev Cel := Int × Int × List Int
def Cel.none : Cel := (0, 0, [])
theorem BIn.drewN {W : World} {p : Option Addr} {xs : List Int} (h : BIn W p xs) (m : Nat) : BIn (W.drewN m) p xs := h
def tl : List Cel → Nat
  | [] => 0
  | c :: r => c.2.2.length + tl r
theorem tl_take : ∀ (cs : List Cel) (k : Nat), k < cs.length → tl (cs.take (k + 1)) = tl (cs.take k) + (cs.getD k Cel.none).2.2.length
  | [], k, h => by simp at h
  | c :: r, 0, _ => by simp [tl]
  | c :: r, k + 1, h => by
    have := tl_take r k (by simpa using h)
    simp only [List.take_succ_cons, tl, this]
    simp; omega
theorem tl_take_le : ∀ (cs : List Cel) (k : Nat), tl (cs.take k) ≤ tl cs
  | [], k => by simp [tl]
  | c :: r, 0 => by simp [tl]
  | c :: r, k + 1 => by have := tl_take_le r k; simp only [List.take_succ_cons, tl]; omega
theorem tl_at (cs : List Cel) (k : Nat) (h : k < cs.length) : (cs.getD k Cel.none).2.2.length ≤ tl cs := by
  have := tl_take cs k h
  have := tl_take_le cs (k + 1)
  omega
def szR (L n : Nat) : Int := if n ≤ L then (L : Int) - n else -1
end Go.Proofs.YtfgaenggbbgboaaGreatDoor

namespace Go.Proofs.YtfgaenggbbgboaaGreatDoor
open Go Go.RowKit
set_option linter.unusedVariables false
abbrev RC := Int × Int × Option Addr × Nat × Nat
def RC.zero : RC := (0, 0, none, 0, 0)
def OwnT (w : World) (B : Nat) (p : Option Addr) (n c : Nat) (ys : List Int) : Prop :=
  n = ys.length ∧ (0 < n → ∃ g, p = some ⟨g, 0, none⟩ ∧ B ≤ g ∧ g < w.heap.size ∧ ∀ i, i < n → w.cell? ⟨g, i, none⟩ = some (.int .u8 (ys.getD i 0)) ∧ w.frozen? ⟨g, i, none⟩ = false)
theorem OwnS.toT {w : World} {B : Nat} {p : Option Addr} {n c : Nat} {ys : List Int} (h : OwnS w B p n c ys) : OwnT w B p n c ys := by
  refine ⟨h.1, fun hn => ?_⟩
  rcases h.form with ⟨_, h0, _⟩ | ⟨g, rfl, hB, hlt⟩
  · omega
  · exact ⟨g, rfl, hB, hlt, fun i hi => ⟨h.row.2 i (by rw [← h.1]; exact hi), h.2.frozenAt i⟩⟩
theorem ne_block {g H n : Nat} (h : g ≠ H) : 0 < n → some (⟨g, 0, none⟩ : Addr) ≠ some ⟨H, 0, none⟩ := fun _ e => h (congrArg Addr.block (Option.some.inj e))
theorem OwnT.len {w : World} {B : Nat} {p : Option Addr} {n c : Nat} {ys : List Int} (h : OwnT w B p n c ys) : n = ys.length := h.1
theorem OwnT.bin {w : World} {B : Nat} {p : Option Addr} {n c : Nat} {ys : List Int} (h : OwnT w B p n c ys) : BIn w p ys := fun hn => by
  obtain ⟨rfl, h⟩ := h
  obtain ⟨g, rfl, _, _, hc⟩ := h hn
  exact ⟨g, 0, rfl, fun i hi => by rw [Nat.zero_add]; exact (hc i hi).1⟩
theorem OwnT.below {w w' : World} {B : Nat} {p : Option Addr} {n c : Nat} {ys : List Int} (h : OwnT w B p n c ys) (hb : Below w.heap.size w w') : OwnT w' B p n c ys := by
  refine ⟨h.1, fun hn => ?_⟩
  obtain ⟨g, e, hB, hlt, hc⟩ := h.2 hn
  exact ⟨g, e, hB, Nat.lt_of_lt_of_le hlt hb.size, fun i hi => ⟨(hb.cell (p := ⟨g, i, none⟩) hlt).trans (hc i hi).1, (hb.frozen (p := ⟨g, i, none⟩) hlt).trans (hc i hi).2⟩⟩
theorem OwnT.mono {w : World} {B B' : Nat} {p : Option Addr} {n c : Nat} {ys : List Int} (h : OwnT w B p n c ys) (hB : B' ≤ B) : OwnT w B' p n c ys := by
  refine ⟨h.1, fun hn => ?_⟩
  obtain ⟨g, e, hB', r⟩ := h.2 hn
  exact ⟨g, e, Nat.le_trans hB hB', r⟩
theorem OwnT.other {w w' : World} {B : Nat} {p : Option Addr} {n c : Nat} {ys : List Int} (h : OwnT w B p n c ys) (hs : w.heap.size ≤ w'.heap.size) (ho : ∀ g, 0 < n → p = some ⟨g, 0, none⟩ → w'.heap[g]? = w.heap[g]?) : OwnT w' B p n c ys := by
  refine ⟨h.1, fun hn => ?_⟩
  obtain ⟨g, e, hB, hlt, hc⟩ := h.2 hn
  have e' := ho g hn e
  exact ⟨g, e, hB, Nat.lt_of_lt_of_le hlt hs, fun i hi => ⟨(World.cell?_of_block (w := w) e').trans (hc i hi).1, (World.frozen?_of_block (w := w) e').trans (hc i hi).2⟩⟩
theorem OwnT.setCell {w : World} {B : Nat} {p : Option Addr} {n c : Nat} {ys : List Int} (h : OwnT w B p n c ys) {a : Addr} (ha : 0 < n → p ≠ some ⟨a.block, 0, none⟩) (u : Value) : OwnT (w.setCell a u) B p n c ys :=
  h.other (by simp) (fun g hn e => Below.heap_setCell _ _ _ _ (fun e' => ha hn (by rw [e, e'])))
def Fits (w : World) (B : Nat) (r : RC) (c : Cel) : Prop := r.1 = c.1 ∧ r.2.1 = c.2.1 ∧ OwnT w B r.2.2.1 r.2.2.2.1 r.2.2.2.2 c.2.2
def ApartC (p : Option Addr) (rs : List RC) : Prop :=
  (∀ i, i < rs.length → 0 < (rs.getD i RC.zero).2.2.2.1 → (rs.getD i RC.zero).2.2.1 ≠ p) ∧
  (∀ i j, i < rs.length → j < rs.length → i ≠ j → 0 < (rs.getD i RC.zero).2.2.2.1 → 0 < (rs.getD j RC.zero).2.2.2.1 → (rs.getD i RC.zero).2.2.1 ≠ (rs.getD j RC.zero).2.2.1)
theorem ownsRow_down {w : World} {B B' : Nat} {e : TypeId} {size : Nat} {v : Value} {n : Nat} {xs : List Value} (h : w.ownsRow B e size v n xs) (hB : B' ≤ B) : w.ownsRow B' e size v n xs := by
  refine ⟨h.1, ?_⟩
  rcases h.2 with h' | ⟨g, cap, cur, hv, hb, r⟩
  · exact .inl h'
  · exact .inr ⟨g, cap, cur, hv, Nat.le_trans hB hb, r⟩
theorem OwnS.mono {w : World} {B B' : Nat} {p : Option Addr} {n c : Nat} {ys : List Int} (h : OwnS w B p n c ys) (hB : B' ≤ B) : OwnS w B' p n c ys := ⟨h.1, ownsRow_down h.2 hB⟩
theorem OwnS.setCell {w : World} {B : Nat} {g n c : Nat} {ys : List Int} (h : OwnS w B (some ⟨g, 0, none⟩) n c ys) {a : Addr} (ha : a.block ≠ g) (u : Value) : OwnS (w.setCell a u) B (some ⟨g, 0, none⟩) n c ys :=
  ⟨h.1, ownsRow_setCell_other h.2 (by simp [Value.ownBlock]; exact fun e => ha e.symm) u⟩
def Box3 (w : World) (b : Nat) (v0 v1 v2 : Value) : Prop := w.cell? ⟨b, 0, none⟩ = some v0 ∧ w.cell? ⟨b, 1, none⟩ = some v1 ∧ w.cell? ⟨b, 2, none⟩ = some v2 ∧ ∀ j, w.frozen? ⟨b, j, none⟩ = false
theorem Box3.of_block {w : World} {b : Nat} {v0 v1 v2 : Value} {t : TypeId} (h : w.heap[b]? = some (.cells #[v0, v1, v2] t)) : Box3 w b v0 v1 v2 :=
  ⟨by simp [World.cell?, h], by simp [World.cell?, h], by simp [World.cell?, h], fun j => frozen_of_row w b j _ t h⟩
theorem box3_set {w : World} {b : Nat} {u0 u1 u2 : Value} (c0 : w.cell? ⟨b, 0, none⟩ = some u0) (c1 : w.cell? ⟨b, 1, none⟩ = some u1) (c2 : w.cell? ⟨b, 2, none⟩ = some u2) (v0 v1 v2 : Value) :
    (((w.setCell ⟨b, 0, none⟩ v0).setCell ⟨b, 1, none⟩ v1).setCell ⟨b, 2, none⟩ v2).cell? ⟨b, 0, none⟩ = some v0 ∧ (((w.setCell ⟨b, 0, none⟩ v0).setCell ⟨b, 1, none⟩ v1).setCell ⟨b, 2, none⟩ v2).cell? ⟨b, 1, none⟩ = some v1 ∧
    (((w.setCell ⟨b, 0, none⟩ v0).setCell ⟨b, 1, none⟩ v1).setCell ⟨b, 2, none⟩ v2).cell? ⟨b, 2, none⟩ = some v2 := by
  have h := World.cell?_setCells_in b [v0, v1, v2] 0 w (fun j hj => by
    have hj' : j < 3 := hj
    rcases j with _ | _ | _ | j
    · simp [c0]
    · simp [c1]
    · simp [c2]
    · omega)
  exact ⟨h 0 (by simp), h 1 (by simp), h 2 (by simp)⟩
theorem heap_three (w : World) (a b c : Obj) : (((w.alloc a).alloc b).alloc c).heap[w.heap.size + 1]? = some b ∧ (((w.alloc a).alloc b).alloc c).heap[w.heap.size + 1 + 1]? = some c := by
  have h1 := heap_alloc_new (w.alloc a) b
  have h2 := heap_alloc_new ((w.alloc a).alloc b) c
  simp only [World.size_alloc] at h1 h2
  exact ⟨(Below.heap_alloc _ _ _ (by simp)).trans h1, h2⟩
theorem rs_set_at (rs : List RC) (i j : Nat) (r : RC) (h : i < rs.length) : (rs.set i r).getD j RC.zero = if j = i then r else rs.getD j RC.zero := by
  simp only [List.getD, List.getElem?_set]
  by_cases e : j = i
  · subst e; simp [h]
  · have : ¬ i = j := fun x => e x.symm
    simp [this, e]
theorem same_cells {xs ys : List Cel} (hl : xs.length = ys.length) (h : ∀ j, j < xs.length → xs.getD j Cel.none = ys.getD j Cel.none) : xs = ys := by
  apply List.ext_getElem hl
  intro i h1 h2
  have := h i h1
  rwa [List.getD, List.getD, List.getElem?_eq_getElem h1, List.getElem?_eq_getElem h2] at this
theorem rs_append_at (rs : List RC) (r : RC) (i : Nat) (h : i ≤ rs.length) : (rs ++ [r]).getD i RC.zero = if i = rs.length then r else rs.getD i RC.zero := by
  by_cases e : i = rs.length
  · subst e; simp [List.getD]
  · rw [if_neg e, List.getD, List.getD, List.getElem?_append_left (by omega)]
theorem cs_append_at (cs : List Cel) (c : Cel) (i : Nat) (h : i ≤ cs.length) : (cs ++ [c]).getD i Cel.none = if i = cs.length then c else cs.getD i Cel.none := by
  by_cases e : i = cs.length
  · subst e; simp [List.getD]
  · rw [if_neg e, List.getD, List.getD, List.getElem?_append_left (by omega)]
theorem row_below {B : Nat} {t : TypeId} {size n : Nat} {v : Value} {w w' : World} {xs : List Value} (h : w.ownsRow B t size v n xs) (hb : Below w.heap.size w w') : w'.ownsRow B t size v n xs := by
  refine ⟨h.1, ?_⟩
  rcases h.2 with h' | ⟨g, cap, cur, hv, hB, hg, r⟩
  · exact .inl h'
  · exact .inr ⟨g, cap, cur, hv, hB, (hb.block g (Array.getElem?_eq_some_iff.1 hg).1).trans hg, r⟩
theorem Box3.below {w w' : World} {b : Nat} {u0 u1 u2 : Value} (h : Box3 w b u0 u1 u2) (hb : Below w.heap.size w w') (hlt : b < w.heap.size) : Box3 w' b u0 u1 u2 :=
  ⟨(hb.cell (p := ⟨b, 0, none⟩) hlt).trans h.1, (hb.cell (p := ⟨b, 1, none⟩) hlt).trans h.2.1, (hb.cell (p := ⟨b, 2, none⟩) hlt).trans h.2.2.1, fun j => (hb.frozen (p := ⟨b, j, none⟩) hlt).trans (h.2.2.2 j)⟩
theorem Box3.setCell {w : World} {b : Nat} {u0 u1 u2 : Value} (h : Box3 w b u0 u1 u2) {a : Addr} (ha : a.block ≠ b) (u : Value) : Box3 (w.setCell a u) b u0 u1 u2 :=
  have o : ∀ j, (w.setCell a u).cell? ⟨b, j, none⟩ = w.cell? ⟨b, j, none⟩ := fun j => World.cell?_setCell_other _ _ _ _ (fun e => ha (by rw [e]))
  ⟨(o 0).trans h.1, (o 1).trans h.2.1, (o 2).trans h.2.2.1, fun j => by rw [World.frozen?_setCell]; exact h.2.2.2 j⟩
end Go.Proofs.YtfgaenggbbgboaaGreatDoor

namespace Go.Proofs.YtfgaenggbbgboaaGreatDoor
open Go Go.RowKit
set_option linter.unusedVariables false
def tb (p : Option Addr) (n : Nat) : Option Nat := if n = 0 then none else p.map Addr.block
end Go.Proofs.YtfgaenggbbgboaaGreatDoor

namespace Go.Proofs.YtfgaenggbbgboaaGreatDoor
open Go Go.RowKit
set_option linter.unusedVariables false
structure Keep (B U : Nat) (w w' : World) : Prop where
  os : w'.os = w.os
  tape : w'.tape = w.tape
  output : w'.output = w.output
  size : w.heap.size ≤ w'.heap.size
  block : ∀ k, k < w.heap.size → (k < B ∨ U ≤ k) → w'.heap[k]? = w.heap[k]?
theorem Keep.refl (B U : Nat) (w : World) : Keep B U w w := ⟨rfl, rfl, rfl, Nat.le_refl _, fun _ _ _ => rfl⟩
theorem Keep.trans {B U : Nat} {a b c : World} (h : Keep B U a b) (k : Keep B U b c) : Keep B U a c :=
  ⟨k.os.trans h.os, k.tape.trans h.tape, k.output.trans h.output, Nat.le_trans h.size k.size, fun i hi hp => (k.block i (Nat.lt_of_lt_of_le hi h.size) hp).trans (h.block i hi hp)⟩
theorem Keep.below {B U : Nat} {w w' : World} (h : Keep B U w w') {A : Nat} (hA : A ≤ B) (hs : A ≤ w.heap.size) : Below A w w' := ⟨h.os, h.tape, h.output, h.size, fun k hk => h.block k (by omega) (.inl (by omega))⟩
theorem tb_of {g n : Nat} (h : 0 < n) : tb (some ⟨g, 0, none⟩) n = some g := by unfold tb; rw [if_neg (by omega)]; rfl
theorem tb_some {p : Option Addr} {n k : Nat} (h : tb p n = some k) : 0 < n ∧ ∃ a, p = some a ∧ a.block = k := by
  unfold tb at h
  split at h
  · cases h
  · cases p with
    | none => cases h
    | some a => exact ⟨by omega, a, rfl, Option.some.inj h⟩
theorem OwnT.tb {w : World} {B : Nat} {p : Option Addr} {n c : Nat} {ys : List Int} (h : OwnT w B p n c ys) {k : Nat} (e : tb p n = some k) : p = some ⟨k, 0, none⟩ ∧ B ≤ k ∧ k < w.heap.size := by
  obtain ⟨hn, a, rfl, rfl⟩ := tb_some e
  obtain ⟨g, e', h1, h2, _⟩ := h.2 hn
  obtain rfl := Option.some.inj e'
  exact ⟨rfl, h1, h2⟩
theorem cs_set_at (cs : List Cel) (i j : Nat) (r : Cel) (h : i < cs.length) : (cs.set i r).getD j Cel.none = if j = i then r else cs.getD j Cel.none := by
  simp only [List.getD, List.getElem?_set]
  by_cases e : j = i
  · subst e; simp [h]
  · have : ¬ i = j := fun x => e x.symm
    simp [this, e]
end Go.Proofs.YtfgaenggbbgboaaGreatDoor

