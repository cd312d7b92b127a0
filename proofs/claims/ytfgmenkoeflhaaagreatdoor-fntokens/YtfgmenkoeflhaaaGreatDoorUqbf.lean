/- Texts of Dt7, Tree5, Num, TermG. Own work of the verifier. -/
import Derived.Test.YtfgmenkoeflhaaaGreatDoorUqak
import Derived.Deep.RegionLaw
import Derived.Deep.Cut
import Derived.Maps.OwnSet
import Derived.Maps.OwnOps
namespace Go.Proofs.YtfgmenkoeflhaaaGreatDoor
set_option linter.unusedVariables false
section
open Go Go.RowKit
structure Mid (cs : List Cel) : Prop where
 len : cs.length ≤ 2001
 txt : tl cs ≤ 12000
 byte : ∀ i, i < cs.length → Byte (cs.getD i Cel.none).2.2
def ByteC (cs : List Cel) : Prop := ∀ c ∈ cs, Byte c.2.2
theorem ByteC.get {cs : List Cel} (h : ByteC cs) (i : Nat) (hi : i < cs.length) : Byte (cs.getD i Cel.none).2.2 := by
 rw [List.getD, List.getElem?_eq_getElem hi]; exact h _ (List.getElem_mem hi)
theorem ByteC.app {a b : List Cel} (ha : ByteC a) (hb : ByteC b) : ByteC (a ++ b) := fun c hc => by
 rcases List.mem_append.1 hc with h | h
 ·exact ha c h
 ·exact hb c h
theorem ByteC.cons {c : Cel} {b : List Cel} (ha : Byte c.2.2) (hb : ByteC b) : ByteC (c :: b) := fun d hd => by
 rcases List.mem_cons.1 hd with rfl | h
 ·exact ha
 ·exact hb d h
theorem ByteC.nil : ByteC [] := fun c h => by cases h
theorem byte_nilD : Byte [] := fun x h => by cases h
theorem ByteC.flatten {css : List (List Cel)} (h : ∀ j, j < css.length → ByteC (css.getD j [])) : ByteC css.flatten := fun c hc => by
 obtain ⟨cs, h1, h2⟩ := List.mem_flatten.1 hc; obtain ⟨j, hj, rfl⟩ := List.mem_iff_getElem.1 h1; have := h j hj; rw [List.getD, List.getElem?_eq_getElem hj] at this; exact this c h2
theorem ByteC.ls {css : List (List Cel)} {en : List Cel} (h : ∀ j, j < css.length → ByteC (css.getD j [])) (he : ByteC en) : ByteC (lsL css en) := by
 refine ByteC.app (fun c hc => ?_) he; obtain ⟨cs, h1, h2⟩ := List.mem_flatMap.1 hc
 rcases List.mem_cons.1 h2 with rfl | h3
 ·intro x hx; simp [dot] at hx; omega
 ·obtain ⟨j, hj, rfl⟩ := List.mem_iff_getElem.1 h1
  have := h j hj; rw [List.getD, List.getElem?_eq_getElem hj] at this; exact this c h3
theorem byte_nilC : ByteC [nilC] := fun c hc => by
 rw [List.mem_singleton.1 hc]
 intro x hx; simp [nilC] at hx; omega
theorem leafT_byte (xs : List Int) (k i : Nat) : ByteC (leafT xs k i).1 := by
 unfold leafT
 repeat' split
 all_goals refine ByteC.cons ?_ ByteC.nil
 ·exact byte_nilD
 ·exact byte_nilD
 ·exact byte_numsU _
theorem nodeT_byte (xs : List Int) (f g : Nat → List Cel × Nat) (hf : ∀ i, ByteC (f i).1) (hg : ∀ i, ByteC (g i).1) (i : Nat) : ByteC (nodeT xs f g i).1 := by
 unfold nodeT
 simp only
 split
 ·exact leafT_byte _ _ _
 split
 ·have h : ∀ n i j, j < (iterT f n i).1.length → ByteC ((iterT f n i).1.getD j []) := fun n i j hj => iterT_at f hf n i j (by rwa [iterT_len] at hj)
  split
  ·exact ByteC.ls (h _ _) (hg _)
  ·exact ByteC.ls (h _ _) byte_nilC
 split
 ·exact ByteC.cons (byte_numsU _) ((hf _).app (hf _))
 split
 ·exact ByteC.cons (byte_numsU _) (hf _)
 ·exact ByteC.cons (byte_numsU _) (ByteC.flatten (fun j hj => iterT_at f hf _ _ j (by rwa [iterT_len] at hj)))
theorem drawT_byte (xs : List Int) : ∀ (d i : Nat), ByteC (drawT xs d i).1
 | 0, i => leafT_byte _ _ _
 | 1, i => nodeT_byte _ _ _ (drawT_byte xs 0) (drawT_byte xs 0) i
 | d + 2, i => nodeT_byte _ _ _ (drawT_byte xs (d + 1)) (drawT_byte xs d) i
theorem ByteC.set {cs : List Cel} (h : ByteC cs) (i : Nat) {c : Cel} (hc : Byte c.2.2) : ByteC (cs.set i c) := fun d hd => by
 rcases List.mem_or_eq_of_mem_set hd with h1 | rfl
 ·exact h d h1
 ·exact hc
theorem ByteC.getD {cs : List Cel} (h : ByteC cs) (i : Nat) : Byte (cs.getD i Cel.none).2.2 := by
 rcases Nat.lt_or_ge i cs.length with hi | hi
 ·exact h.get i hi
 ·rw [List.getD, List.getElem?_eq_none hi]; exact byte_nilD
theorem Mid.of {cs : List Cel} (h1 : cs.length ≤ 2001) (h2 : tl cs ≤ 12000) (h3 : ByteC cs) : Mid cs := ⟨h1, h2, h3.get⟩
end
section
open Go Go.RowKit Go.Maps
end
section
open Go Go.RowKit
end
end Go.Proofs.YtfgmenkoeflhaaaGreatDoor
