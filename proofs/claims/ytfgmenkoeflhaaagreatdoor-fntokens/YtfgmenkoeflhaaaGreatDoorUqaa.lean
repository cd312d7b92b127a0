/- Texts of Copy, RowT, Pure. Own work of the verifier. -/
import Derived.Test.YtfgmenkoeflhaaaGreatDoorPre
namespace Go.Proofs.YtfgmenkoeflhaaaGreatDoor
section
open Go Go.RowKit
set_option linter.unusedVariables false
theorem infoByte : (Tryz.prog.info? 5).map (fun i => (i.zero, i.size, i.bytes)) = some (some (.int .u8 0), 1, 1) := by kernel_rfl
def BIn (w : World) (p : Option Addr) (xs : List Int) : Prop :=
 0 < xs.length → ∃ b o, p = some ⟨b, o, none⟩ ∧ ∀ i, i < xs.length → w.cell? ⟨b, o + i, none⟩ = some (.int .u8 (xs.getD i 0))
theorem same_every {xs ys : List Int} (hl : xs.length = ys.length) (h : ∀ j, j < xs.length → xs.getD j 0 = ys.getD j 0) : xs = ys := by
 apply List.ext_getElem hl
 intro i h1 h2
 have := h i h1
 rwa [List.getD, List.getD, List.getElem?_eq_getElem h1, List.getElem?_eq_getElem h2] at this
def Row (W : World) (b : Nat) (xs : List Int) : Prop := b < W.heap.size ∧ ∀ i, i < xs.length → W.cell? ⟨b, i, none⟩ = some (.int .u8 (xs.getD i 0))
theorem Row.below {W W' : World} {b : Nat} {xs : List Int} (h : Row W b xs) (hb : Below W.heap.size W W') : Row W' b xs :=
 ⟨Nat.lt_of_lt_of_le h.1 hb.size, fun i hi => (hb.cell (p := ⟨b, i, none⟩) h.1).trans (h.2 i hi)⟩
theorem Row.bin {W : World} {b : Nat} {xs : List Int} (h : Row W b xs) : BIn W (some ⟨b, 0, none⟩) xs := fun _ => ⟨b, 0, rfl, fun i hi => by rw [Nat.zero_add]; exact h.2 i hi⟩
theorem row_of_owns {W : World} {B b c : Nat} {xs : List Int} (h : W.ownsRow B 5 1 (.slice (some ⟨b, 0, none⟩) xs.length c) xs.length (xs.map (Value.int .u8))) : Row W b xs := by
 refine ⟨?_, fun i hi => ?_⟩
 ·rcases h.2 with ⟨h', _⟩ | ⟨g', cap', cur, h', _, hg, _⟩
  ·simp at h'
  ·simp only [Value.slice.injEq, Option.some.injEq, Addr.mk.injEq, and_true, true_and] at h'
   obtain ⟨rfl, _⟩ := h'; exact (Array.getElem?_eq_some_iff.1 hg).1
 ·rw [h.cellAt i (by omega)]
  simp [List.getD, hi]
theorem BIn.below {W W' : World} {p : Option Addr} {xs : List Int} (h : BIn W p xs) (hb : Below W.heap.size W W') : BIn W' p xs := fun hn => by
 obtain ⟨b, o, rfl, hc⟩ := h hn; exact ⟨b, o, rfl, fun i hi => (hb.cell (World.block_lt_of_cell? _ _ (hc i hi))).trans (hc i hi)⟩
theorem below_drewN {B : Nat} {a w : World} (h : Below B a w) (n : Nat) : Below B a (w.drewN n) := h.trans ⟨rfl, rfl, rfl, Nat.le_refl _, fun _ _ => rfl⟩
theorem Below.on {w W W' : World} (h : Below w.heap.size w W) (k : Below W.heap.size W W') : Below w.heap.size w W' := h.trans (k.mono h.size)
end
section
open Go
def smallB (c : Int) : Bool := decide (97 ≤ c ∧ c ≤ 122)
def digitB (c : Int) : Bool := decide (48 ≤ c ∧ c ≤ 57)
def alnumB (c : Int) : Bool := decide ((97 ≤ c ∧ c ≤ 122) ∨ (65 ≤ c ∧ c ≤ 90) ∨ c = 95 ∨ (48 ≤ c ∧ c ≤ 57))
def symL : List Int := [43, 45, 42, 47, 92, 94, 60, 62, 61, 126, 58, 46, 63, 64, 35, 38, 36]
def symbolB (c : Int) : Bool := symL.contains c
def tab : List Int := [0, 0, 0, 0, 0, 0, 0, 0, 0, 16, 16, 0, 0, 16, 0, 0, 0, 0, 0, 0, 0, 0, 0, 0, 0, 0, 0, 0, 0, 0, 0, 0,
 16, 32, 0, 8, 8, 0, 8, 0, 64, 64, 8, 8, 64, 8, 8, 8, 4, 4, 4, 4, 4, 4, 4, 4, 4, 4, 8, 32, 8, 8, 8, 8,
 8, 2, 2, 2, 2, 2, 2, 2, 2, 2, 2, 2, 2, 2, 2, 2, 2, 2, 2, 2, 2, 2, 2, 2, 2, 2, 2, 64, 8, 64, 8, 2,
 0, 1, 1, 1, 1, 1, 1, 1, 1, 1, 1, 1, 1, 1, 1, 1, 1, 1, 1, 1, 1, 1, 1, 1, 1, 1, 1, 64, 64, 64, 8, 0]
def isOfB (b k : Int) : Bool := decide (0 ≤ b) && (decide (b < 128) && (bits BinOp.and .u8 (tab.getD b.toNat 0) k != 0))
theorem isOf_all : (List.range 256).all (fun c => isOfB c 1 == smallB c && (isOfB c 7 == alnumB c && (isOfB c 8 == symbolB c))) = true := by decide +kernel
theorem isOf_at {c : Int} (h0 : 0 ≤ c) (h1 : c < 256) : isOfB c 1 = smallB c ∧ isOfB c 7 = alnumB c ∧ isOfB c 8 = symbolB c := by
 have h := List.all_eq_true.1 isOf_all c.toNat (by simp; omega); rw [show ((c.toNat : Nat) : Int) = c by omega] at h
 simpa using h
theorem isOf_hi {b k : Int} (h : 128 ≤ b) : isOfB b k = false := by
 have : ¬ b < 128 := by omega
 simp [isOfB, this]
theorem isOf_lo {b k : Int} (h : b < 0) : isOfB b k = false := by
 have : ¬ 0 ≤ b := by omega
 simp [isOfB, this]
theorem isOf_in {b k : Int} (h0 : 0 ≤ b) (h : b < 128) : isOfB b k = (bits BinOp.and .u8 (tab.getD b.toNat 0) k != 0) := by
 simp [isOfB, h0, h]
def runLen (f : Int → Bool) : List Int → Nat
 | [] => 0
 | x :: r => if f x then runLen f r + 1 else 0
theorem runLen_le (f : Int → Bool) : ∀ xs, runLen f xs ≤ xs.length
 | [] => Nat.le_refl _
 | x :: r => by have := runLen_le f r; unfold runLen; split <;> simp <;> omega
theorem runLen_all (f : Int → Bool) : ∀ xs, (runLen f xs = xs.length) ↔ xs.all f = true
 | [] => by simp [runLen]
 | x :: r => by
   have := runLen_all f r; have := runLen_le f r
   unfold runLen
   by_cases h : f x = true
   ·simp [h]; simpa using runLen_all f r
   ·simp [h]
theorem runLen_stop (f : Int → Bool) : ∀ (xs : List Int) (k : Nat), k ≤ xs.length → (∀ i, i < k → f (xs.getD i 0) = true) → (k = xs.length ∨ f (xs.getD k 0) = false) → runLen f xs = k
 | [], k, h, _, _ => by simp at h; simp [runLen, h]
 | x :: r, 0, _, _, h2 => by
   rcases h2 with h2 | h2
   ·simp at h2
   ·have : f x = false := by simpa using h2
    simp [runLen, this]
 | x :: r, k + 1, h, h1, h2 => by
   have hx : f x = true := by simpa using h1 0 (by omega)
   have := runLen_stop f r k (by simpa using h) (fun i hi => by simpa using h1 (i + 1) (by omega)) (by simpa using h2)
   simp [runLen, hx, this]
def plainB (xs : List Int) : Bool :=
 if xs.length = 0 ∨ 100 < xs.length then false
 else if xs = [33] ∨ xs = [59] ∨ xs = [91, 93] ∨ xs = [123, 125] then true
 else if smallB (xs.getD 0 0) then xs.all alnumB
 else if xs = [46] ∨ xs.take 2 = [47, 42] then false
 else xs.all symbolB
def Bytes (xs : List Int) : Prop := ∀ x ∈ xs, 0 ≤ x ∧ x < 256
theorem Bytes.at {xs : List Int} (h : Bytes xs) (i : Nat) : 0 ≤ xs.getD i 0 ∧ xs.getD i 0 < 256 := by
 by_cases hi : i < xs.length
 ·have := h xs[i] (List.getElem_mem hi)
  simpa [List.getD, hi] using this
 ·simp [List.getD, List.getElem?_eq_none (Nat.le_of_not_lt hi)]
theorem Bytes.take {xs : List Int} (h : Bytes xs) (n : Nat) : Bytes (xs.take n) := fun x hx => h x (List.mem_of_mem_take hx)
theorem Bytes.drop {xs : List Int} (h : Bytes xs) (n : Nat) : Bytes (xs.drop n) := fun x hx => h x (List.mem_of_mem_drop hx)
end
end Go.Proofs.YtfgmenkoeflhaaaGreatDoor
