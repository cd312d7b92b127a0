/- Marks: which blocks have turned; where the marks begin. Own work of the verifier. -/
import Derived.Test.YtcdcdpmjibcolaaMarkT
namespace Go.Proofs.Ytcdcdpmjibcolaa
open Go Go.RowKit
set_option linter.unusedVariables false

/-- Only blocks from B on and below U may have turned. -/
structure Keep (B U : Nat) (w w' : World) : Prop where
  os : w'.os = w.os
  tape : w'.tape = w.tape
  output : w'.output = w.output
  size : w.heap.size ≤ w'.heap.size
  block : ∀ k, k < w.heap.size → (k < B ∨ U ≤ k) → w'.heap[k]? = w.heap[k]?
theorem Keep.refl (B U : Nat) (w : World) : Keep B U w w := ⟨rfl, rfl, rfl, Nat.le_refl _, fun _ _ _ => rfl⟩
theorem Keep.trans {B U : Nat} {a b c : World} (h : Keep B U a b) (k : Keep B U b c) : Keep B U a c :=
  ⟨k.os.trans h.os, k.tape.trans h.tape, k.output.trans h.output, Nat.le_trans h.size k.size, fun i hi hp => (k.block i (Nat.lt_of_lt_of_le hi h.size) hp).trans (h.block i hi hp)⟩
theorem Keep.below {B U : Nat} {w w' : World} (h : Keep B U w w') {A : Nat} (hA : A ≤ B) (hs : A ≤ w.heap.size) : Below A w w' := ⟨h.os, h.tape, h.output, h.size, fun k hk => h.block k (by omega) (.inl (by omega))⟩
theorem Keep.of_grown {B U : Nat} {w w' : World} {row : Option Nat} (h : w.grownBy w' row) (hr : ∀ k, row = some k → B ≤ k ∧ k < U) : Keep B U w w' :=
  ⟨h.os, h.tape, h.output, h.size, fun k hk hp => h.block k hk (fun e => by have := hr k e.symm; omega)⟩

theorem tb_of {g n : Nat} (h : 0 < n) : tb (some ⟨g, 0, none⟩) n = some g := by unfold tb; rw [if_neg (by omega)]; rfl
theorem tb_some {p : Option Addr} {n k : Nat} (h : tb p n = some k) : 0 < n ∧ ∃ a, p = some a ∧ a.block = k := by
  unfold tb at h
  split at h
  · cases h
  · cases p with
    | none => cases h
    | some a => exact ⟨by omega, a, rfl, Option.some.inj h⟩
theorem OwnT.tb {w : World} {B : Nat} {p : Option Addr} {n c : Nat} {ys : List Int} (h : OwnT w B p n c ys) {k : Nat} (e : tb p n = some k) : p = some ⟨k, 0, none⟩ ∧ B ≤ k ∧ k < w.heap.size := by
  obtain ⟨hn, a, rfl, rfl⟩ := tb_some e
  obtain ⟨g, e', h1, h2, _⟩ := h.2 hn
  obtain rfl := Option.some.inj e'
  exact ⟨rfl, h1, h2⟩
/-- The number at which the marks of cell j begin. -/
def kAt (k : Int) (cs : List Cel) (j : Nat) : Int := k + 2 * j + tl (cs.take j)
theorem kAt_zero (k : Int) (cs : List Cel) : kAt k cs 0 = k := by simp [kAt, tl]
theorem kAt_succ (k : Int) (cs : List Cel) (j : Nat) (h : j < cs.length) : kAt k cs (j + 1) = kAt k cs j + 1 + 1 + (cs.getD j Cel.none).2.2.length := by
  have := tl_take cs j h
  simp only [kAt, this]; omega
theorem cs_set_at (cs : List Cel) (i j : Nat) (r : Cel) (h : i < cs.length) : (cs.set i r).getD j Cel.none = if j = i then r else cs.getD j Cel.none := by
  simp only [List.getD, List.getElem?_set]
  by_cases e : j = i
  · subst e; simp [h]
  · have : ¬ i = j := fun x => e x.symm
    simp [this, e]

end Go.Proofs.Ytcdcdpmjibcolaa
