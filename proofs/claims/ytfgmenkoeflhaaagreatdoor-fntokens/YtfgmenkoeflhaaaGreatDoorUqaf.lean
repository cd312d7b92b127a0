/- Texts of L1c, StrU, MarkA, MarkT. Own work of the verifier. -/
import Derived.Test.YtfgmenkoeflhaaaGreatDoorUqae
import Derived.Deep.Upon
import Derived.LoopN
namespace Go.Proofs.YtfgmenkoeflhaaaGreatDoor
open Go Go.RowKit
set_option linter.unusedVariables false
theorem news_of {w : World} {b o : Nat} {xs : List Int} (hc : ∀ i, i < xs.length → w.cell? ⟨b, o + i, none⟩ = some (.int .u8 (xs.getD i 0))) : ∀ j u, (xs.map (Value.int .u8))[j]? = some u → w.cell? ((⟨b, o, none⟩ : Addr).add j) = some u := fun j u hu => by
 have hj : j < xs.length := by
  rcases Nat.lt_or_ge j xs.length with h | h
  ·exact h
  ·simp [List.getElem?_eq_none h] at hu
 have e : (⟨b, o, none⟩ : Addr).add j = ⟨b, o + j, none⟩ := by unfold Addr.add; split <;> simp_all
 rw [e, hc j hj, ← hu]
 simp [List.getD, hj]
theorem app_nothing (w : World) {ops : Array Oper} {rest : List Oper} {o : Oper} {a : Act} {Q : Exit → Act → World → Prop} (hgd : o.guard = none) (s x : Operand)
 (ho : o.op = .call { callee := .builtin .append, args := #[s, x], argTypes := #[22, 22] }) (p : Option Addr) (n c : Nat) (hnc : n ≤ c) (hs : a.eval s = .slice p n c) (q : Option Addr) (c' : Nat) (hx : a.eval x = .slice q 0 c')
 (h : wpList Tryz.prog ops Q rest (a.put o.dst (.slice p n c)) w) : wpList Tryz.prog ops Q (o :: rest) a w := by
 obtain ⟨i0, hi, hz0, hz1, hz2⟩ := info_parts infoByte
 refine wpList_plain hgd fun K hK => ?_
 have hsrc : Src Tryz.prog i0.size 22 (.slice q 0 c') 0 [] w := by
  cases q with
  | none => exact Src.ofNil w Tryz.underlying22 c'
  | some ad => exact Src.ofSlice w Tryz.underlying22 ad 0 c' [] (by simp) (fun j u h => by simp at h) (fun u h => by cases h)
 have hr := fun ty => run_append_nothing (P := Tryz.prog) w 22 22 ty 5 i0 Tryz.underlying22 hi p n c hnc _ hsrc
 unfold Oper.wp
 simp [execOp, ho, resolve, invoke, builtin, hs, hx, hr, Result.andThen]
 exact hK _ _ h
theorem l1copy_all (p : Option Addr) (n c : Nat) (xs : List Int) (w : World) (hn : n = xs.length) (hm : n ≤ 10000000) (hc : BIn w p xs) :
 Calls Tryz.prog 38 #[.slice p n c] w fun e w' => ∃ p' n' c', e = .returned (.slice p' n' c') ∧ OwnS w' w.heap.size p' n' c' xs ∧ Below w.heap.size w w' := by
 by_cases h0 : 0 < n
 ·obtain ⟨b, o, rfl, hcc⟩ := hc (by omega)
  have HC : Hid (∀ i, i < xs.length → w.cell? ⟨b, o + i, none⟩ = some (.int .u8 (xs.getD i 0))) := hcc; have HN : Hid (n = xs.length) := hn; clear hc hn hcc
  go_enter Tryz.func38, Tryz.ntmps38
  go_wp2_with (at_builtin; refine app_bytes _ rfl _ _ rfl w.heap.size none 0 0 [] xs n HN.out rfl (OwnS.nil _ _) _ c rfl (news_of HC.out) h0 (by omega) (Nat.le_refl _) ?_; intro g n' cap w1 hown1 hb1 hn1); go_ret; exact ⟨_, _, _, rfl, hown1, hb1⟩
 ·obtain rfl : n = 0 := by omega
  obtain rfl : xs = [] := List.length_eq_zero_iff.1 hn.symm; clear hc hn
  go_enter Tryz.func38, Tryz.ntmps38
  go_wp2_with (at_builtin; refine app_nothing _ rfl _ _ rfl none 0 0 (Nat.le_refl _) rfl p c rfl ?_); go_ret; exact ⟨_, _, _, rfl, OwnS.nil _ _, Below.refl _ _⟩
def bOf (l : List UInt8) : ByteArray := ⟨l.toArray⟩
theorem bOf_size (l : List UInt8) : (bOf l).size = l.length := by simp [bOf, ByteArray.size]
theorem bOf_list (l : List UInt8) : (bOf l).toList = l := by rw [ByteArray.toList_eq]; rfl
def strV (x : List UInt8) : Value := .string (bOf x)
def numsU (l : List UInt8) : List Int := l.map (fun u => (u.toNat : Int))
theorem strOf_numsU (l : List UInt8) : strOfNums (numsU l) = bOf l := by
 apply ba_ext
 rw [str_list, numsU, map_forth, ByteArray.toList_eq]; rfl
theorem byte_numsU (l : List UInt8) : Byte (numsU l) := fun x hx => by
 simp only [numsU, List.mem_map] at hx; obtain ⟨u, _, rfl⟩ := hx; have := u.toNat_lt
 omega
theorem cell_lit (w : World) (vs : List Value) (t : TypeId) (i : Nat) (h : i < vs.length) : (w.alloc (.cells vs.toArray t)).cell? ⟨w.heap.size, i, none⟩ = some vs[i] := by
 rw [World.cell?_alloc_new]
 simp [h]
def marks (k : Int) : Nat → List Int
 | 0 => []
 | n + 1 => (k % 256) :: marks (k + 1) n
theorem wrap_byte (k : Int) (h : 0 ≤ k) : IntKind.u8.wrap k = k % 256 := by
 simp [IntKind.wrap, IntKind.signed, IntKind.bits]
theorem OwnS.kept {w w' : World} {B : Nat} {p : Option Addr} {n c : Nat} {ys : List Int} {row : Option Nat} (h : OwnS w B p n c ys) (hg : w.grownBy w' row) (hne : ∀ g, p = some ⟨g, 0, none⟩ → row ≠ some g) : OwnS w' B p n c ys := by
 obtain ⟨rfl, hr⟩ := h; refine ⟨rfl, hr.1, ?_⟩
 rcases hr.2 with h' | ⟨g, cap, cur, hv, hB, hg', r⟩
 ·exact .inl h'
 ·have hp : p = some ⟨g, 0, none⟩ := by simp only [Value.slice.injEq] at hv; exact hv.1
  exact .inr ⟨g, cap, cur, hv, hB, (hg.block g (Array.getElem?_eq_some_iff.1 hg').1 (fun e => hne g hp e.symm)).trans hg', r⟩
theorem OwnS.drewN {w : World} {B : Nat} {p : Option Addr} {n c : Nat} {ys : List Int} (h : OwnS w B p n c ys) (m : Nat) : OwnS (w.drewN m) B p n c ys := ⟨h.1, h.2⟩
def tb (p : Option Addr) (n : Nat) : Option Nat := if n = 0 then none else p.map Addr.block
end Go.Proofs.YtfgmenkoeflhaaaGreatDoor
