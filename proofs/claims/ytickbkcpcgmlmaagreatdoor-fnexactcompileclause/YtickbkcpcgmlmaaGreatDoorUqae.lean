/- Texts of MarkA, Mark, MarkT, MarkG, CArg, IntG, IntE, IntM, FnK, KeyP, FunK, RegA, IbM, StrU, RegK, RegK2, StrI, Until, UntilR, Pure, Base, Base2, Strs, Plain, Plain2, Tab0, WiA, WiB. Own work of the verifier. -/
import Derived.Test.YtickbkcpcgmlmaaGreatDoorUqaa
import Derived.LoopN
import Derived.Maps.OwnSet
import Derived.Maps.OwnOps
import Derived.Maps.RangeWalk
import Derived.DeepKeys4
import Derived.Orders
import Derived.Shelf.Abstract
import Derived.OrdersHeld
import Derived.OrdersIn
import Derived.RangeFuncCalls
import Derived.TacticsIn
import Derived.Lib.Strings
namespace Go.Proofs.YtickbkcpcgmlmaaGreatDoor
set_option linter.unusedVariables false
set_option maxRecDepth 100000
section
open Go Go.RowKit
def marks (k : Int) : Nat → List Int
 | 0 => []
 | n + 1 => (k % 256) :: marks (k + 1) n
theorem marks_len : ∀ (n : Nat) (k : Int), (marks k n).length = n
 | 0, _ => rfl
 | n + 1, k => by simp [marks, marks_len n (k + 1)]
theorem marks_at : ∀ (n : Nat) (k : Int) (i : Nat), i < n → (marks k n).getD i 0 = (k + i) % 256
 | 0, _, _, h => absurd h (Nat.not_lt_zero _)
 | n + 1, k, 0, _ => by simp [marks]
 | n + 1, k, i + 1, h => by
   have := marks_at n (k + 1) i (by omega); simp only [marks, List.getD_cons_succ, this]
   congr 1; omega
def partly (k : Int) (xs : List Int) (i : Nat) : List Int := marks k i ++ xs.drop i
theorem wrap_byte (k : Int) (h : 0 ≤ k) : IntKind.u8.wrap k = k % 256 := by
 simp [IntKind.wrap, IntKind.signed, IntKind.bits]
theorem OwnS.kept {w w' : World} {B : Nat} {p : Option Addr} {n c : Nat} {ys : List Int} {row : Option Nat} (h : OwnS w B p n c ys) (hg : w.grownBy w' row) (hne : ∀ g, p = some ⟨g, 0, none⟩ → row ≠ some g) : OwnS w' B p n c ys := by
 obtain ⟨rfl, hr⟩ := h; refine ⟨rfl, hr.1, ?_⟩
 rcases hr.2 with h' | ⟨g, cap, cur, hv, hB, hg', r⟩
 ·exact .inl h'
 ·have hp : p = some ⟨g, 0, none⟩ := by simp only [Value.slice.injEq] at hv; exact hv.1
  exact .inr ⟨g, cap, cur, hv, hB, (hg.block g (Array.getElem?_eq_some_iff.1 hg').1 (fun e => hne g hp e.symm)).trans hg', r⟩
theorem OwnS.drewN {w : World} {B : Nat} {p : Option Addr} {n c : Nat} {ys : List Int} (h : OwnS w B p n c ys) (m : Nat) : OwnS (w.drewN m) B p n c ys := ⟨h.1, h.2⟩
theorem held_any (p : Option Addr) (n c : Nat) (k : Int) (w : World) (h0 : 0 ≤ k) (h1 : k ≤ 1000000000000) (hn : n ≤ 1000000000) (hin : BIn w p (marks k n)) :
  Calls Tryz.prog 32 #[.slice p n c, .int .i64 k] w fun e w' => e = .returned (.int .i64 (k + n)) ∧ w' = w := by
 have HI : Hid (BIn w p (marks k n)) := hin; clear hin
 go_enter Tryz.func32, Tryz.ntmps32
 go_wp2
 go_loop [1, 5] (fun q i => ∃ j : Nat, j ≤ n ∧ i = .int .i64 j ∧ q = .int .i64 (k + j)) (fun _ i => n - (intOf i).toNat)
 case atStart => exact ⟨0, Nat.zero_le _, rfl, by simp⟩
 case round =>
  obtain ⟨j, hj, rfl, rfl⟩ := hrel
  by_cases hlt : j < n
  ·obtain ⟨b, o, rfl, hc⟩ := HI.out (by rw [marks_len]; omega)
   have hx := hc j (by rw [marks_len]; exact hlt); rw [marks_at n k j hlt] at hx; have hwr := wrap_byte (k + j) (by omega); clear hc
   go_wp2
   go_round
   case rel => exact ⟨j + 1, by omega, by go_num, by simp; omega⟩
   case measure => simp [intOf]; omega
  ·obtain rfl : j = n := by omega
   go_wp2
   go_ret; exact ⟨rfl, rfl⟩
def tb (p : Option Addr) (n : Nat) : Option Nat := if n = 0 then none else p.map Addr.block
theorem partly_at (k : Int) (xs : List Int) (j i : Nat) (hj : j ≤ xs.length) (hi : i < xs.length) : (partly k xs j).getD i 0 = if i < j then (k + i) % 256 else xs.getD i 0 := by
 unfold partly
 by_cases h : i < j
 ·rw [if_pos h, ← marks_at j k i h]
  simp only [List.getD]; rw [List.getElem?_append_left (by rw [marks_len]; exact h)]
 ·rw [if_neg h]
  simp only [List.getD]; rw [List.getElem?_append_right (by rw [marks_len]; omega), marks_len, List.getElem?_drop, show j + (i - j) = i by omega]
theorem markT_any (B : Nat) (p : Option Addr) (n c : Nat) (k : Int) (xs : List Int) (w : World) (h0 : 0 ≤ k) (h1 : k ≤ 1000000000000) (hn : n ≤ 1000000000) (hown : OwnT w B p n c xs) :
  Calls Tryz.prog 30 #[.slice p n c, .int .i64 k] w fun e w' => e = .returned (.int .i64 (k + n)) ∧ OwnT w' B p n c (marks k n) ∧ w.grownBy w' (tb p n) := by
 by_cases hz : n = 0
 ·subst hz
  clear hown
  go_enter Tryz.func30, Tryz.ntmps30
  go_wp2
  refine wp_loop_rounds 1 ?_; rw [rounds_succ]
  go_wp2
  go_ret; exact ⟨by simp, ⟨rfl, fun h => absurd h (Nat.lt_irrefl 0)⟩, ⟨rfl, rfl, rfl, Nat.le_refl _, fun _ _ _ => rfl⟩⟩
 ·obtain ⟨hl, hr⟩ := hown
  obtain ⟨g, rfl, hB, hlt0, hc⟩ := hr (by omega); have HN : Hid (n = xs.length) := hl; have HO : Hid (∀ i, i < n → w.cell? ⟨g, i, none⟩ = some (.int .u8 (xs.getD i 0)) ∧ w.frozen? ⟨g, i, none⟩ = false) := hc
  have ht : tb (some (⟨g, 0, none⟩ : Addr)) n = some g := by simp [tb, hz]
  rw [ht]; clear hl hr hc ht
  go_enter Tryz.func30, Tryz.ntmps30
  go_wp2
  go_loopw [1, 5] (fun q i wr => ∃ j : Nat, j ≤ n ∧ i = .int .i64 j ∧ q = .int .i64 (k + j) ∧ Hid (∀ i, i < n → wr.cell? ⟨g, i, none⟩ = some (.int .u8 ((partly k xs j).getD i 0)) ∧ wr.frozen? ⟨g, i, none⟩ = false) ∧ Hid (w.grownBy wr (some g))) (fun _ i _ => n - (intOf i).toNat)
  case atStart => exact ⟨0, Nat.zero_le _, rfl, by simp, by simpa [partly, marks] using HO, ⟨rfl, rfl, rfl, Nat.le_refl _, fun _ _ _ => rfl⟩⟩
  case round =>
   obtain ⟨j, hj, rfl, rfl, HR, HG⟩ := hrel
   by_cases hlt : j < n
   ·obtain ⟨hd, hf⟩ := HR.out j hlt
    obtain ⟨z, ez⟩ : ∃ z, z = (partly k xs j).getD j 0 := ⟨_, rfl⟩
    rw [← ez] at hd; clear ez; have hwr := wrap_byte (k + j) (by omega)
    have HS : Hid ((∀ i, i < n → (wr.setCell ⟨g, j, none⟩ (.int .u8 ((k + j) % 256))).cell? ⟨g, i, none⟩ = some (.int .u8 ((partly k xs (j + 1)).getD i 0)) ∧ (wr.setCell ⟨g, j, none⟩ (.int .u8 ((k + j) % 256))).frozen? ⟨g, i, none⟩ = false) ∧ w.grownBy (wr.setCell ⟨g, j, none⟩ (.int .u8 ((k + j) % 256))) (some g)) := by
     refine ⟨fun i hi => ⟨?_, by rw [World.frozen?_setCell]; exact (HR.out i hi).2⟩, HG.out.trans ⟨rfl, rfl, rfl, by simp, fun b _ hb => Below.heap_setCell _ _ _ _ (fun e => hb (by rw [e]))⟩⟩; have hxl := HN.out; rw [partly_at k xs (j + 1) i (by omega) (by omega)]
     by_cases e : i = j
     ·subst e
      rw [if_pos (by omega)]; exact World.cell?_setCell_same _ _ _ hd
     ·rw [World.cell?_setCell_other _ _ _ _ (fun e' => e (congrArg Addr.off e').symm), (HR.out i hi).1, partly_at k xs j i (by omega) (by omega)]
      by_cases e2 : i < j
      ·rw [if_pos e2, if_pos (by omega)]
      ·rw [if_neg e2, if_neg (by omega)]
    go_wp2
    go_roundw
    case rel => exact ⟨j + 1, by omega, by go_num, by simp; omega, HS.out.1, HS.out.2⟩
    case measure => simp [intOf]; omega
   ·obtain rfl : j = n := by omega
    go_wp2
    go_ret; refine ⟨rfl, ⟨(marks_len _ _).symm, fun _ => ⟨g, rfl, hB, Nat.lt_of_lt_of_le hlt0 HG.out.size, fun i hi => ⟨?_, (HR.out i hi).2⟩⟩⟩, HG.out⟩; have hxl := HN.out; rw [(HR.out i hi).1, partly_at k xs j i (by omega) (by omega), if_pos hi, marks_at j k i hi]
structure Keep (B U : Nat) (w w' : World) : Prop where
 os : w'.os = w.os
 tape : w'.tape = w.tape
 output : w'.output = w.output
 size : w.heap.size ≤ w'.heap.size
 block : ∀ k, k < w.heap.size → (k < B ∨ U ≤ k) → w'.heap[k]? = w.heap[k]?
theorem Keep.refl (B U : Nat) (w : World) : Keep B U w w := ⟨rfl, rfl, rfl, Nat.le_refl _, fun _ _ _ => rfl⟩
theorem Keep.trans {B U : Nat} {a b c : World} (h : Keep B U a b) (k : Keep B U b c) : Keep B U a c :=
 ⟨k.os.trans h.os, k.tape.trans h.tape, k.output.trans h.output, Nat.le_trans h.size k.size, fun i hi hp => (k.block i (Nat.lt_of_lt_of_le hi h.size) hp).trans (h.block i hi hp)⟩
theorem Keep.below {B U : Nat} {w w' : World} (h : Keep B U w w') {A : Nat} (hA : A ≤ B) (hs : A ≤ w.heap.size) : Below A w w' := ⟨h.os, h.tape, h.output, h.size, fun k hk => h.block k (by omega) (.inl (by omega))⟩
theorem Keep.of_grown {B U : Nat} {w w' : World} {row : Option Nat} (h : w.grownBy w' row) (hr : ∀ k, row = some k → B ≤ k ∧ k < U) : Keep B U w w' :=
 ⟨h.os, h.tape, h.output, h.size, fun k hk hp => h.block k hk (fun e => by have := hr k e.symm; omega)⟩
theorem tb_of {g n : Nat} (h : 0 < n) : tb (some ⟨g, 0, none⟩) n = some g := by unfold tb; rw [if_neg (by omega)]; rfl
theorem tb_some {p : Option Addr} {n k : Nat} (h : tb p n = some k) : 0 < n ∧ ∃ a, p = some a ∧ a.block = k := by
 unfold tb at h
 split at h
 ·cases h
 ·cases p with
  | none => cases h
  | some a => exact ⟨by omega, a, rfl, Option.some.inj h⟩
theorem OwnT.tb {w : World} {B : Nat} {p : Option Addr} {n c : Nat} {ys : List Int} (h : OwnT w B p n c ys) {k : Nat} (e : tb p n = some k) : p = some ⟨k, 0, none⟩ ∧ B ≤ k ∧ k < w.heap.size := by
 obtain ⟨hn, a, rfl, rfl⟩ := tb_some e; obtain ⟨g, e', h1, h2, _⟩ := h.2 hn; obtain rfl := Option.some.inj e'; exact ⟨rfl, h1, h2⟩
def kAt (k : Int) (cs : List Cel) (j : Nat) : Int := k + 2 * j + tl (cs.take j)
theorem kAt_zero (k : Int) (cs : List Cel) : kAt k cs 0 = k := by simp [kAt, tl]
theorem kAt_succ (k : Int) (cs : List Cel) (j : Nat) (h : j < cs.length) : kAt k cs (j + 1) = kAt k cs j + 1 + 1 + (cs.getD j Cel.none).2.2.length := by
 have := tl_take cs j h; simp only [kAt, this]; omega
theorem cs_set_at (cs : List Cel) (i j : Nat) (r : Cel) (h : i < cs.length) : (cs.set i r).getD j Cel.none = if j = i then r else cs.getD j Cel.none := by
 simp only [List.getD, List.getElem?_set]
 by_cases e : j = i
 ·subst e; simp [h]
 ·have : ¬ i = j := fun x => e x.symm
  simp [this, e]
structure CArg (w : World) (p : Option Addr) (cs : List Cel) : Prop where
 lies : CIn w p cs
 len : cs.length ≤ 9223372036854775807
 text : ∀ i, i < cs.length → (cs.getD i Cel.none).2.2.length ≤ 9223372036854775807
 byte : ∀ i, i < cs.length → ∀ x ∈ (cs.getD i Cel.none).2.2, 0 ≤ x ∧ x < 256
 wide : ∀ i, i < cs.length → -9223372036854775808 ≤ (cs.getD i Cel.none).1 ∧ (cs.getD i Cel.none).1 ≤ 9223372036854775807 ∧ -9223372036854775808 ≤ (cs.getD i Cel.none).2.1 ∧ (cs.getD i Cel.none).2.1 ≤ 9223372036854775807
theorem CArg.below {W W' : World} {p : Option Addr} {cs : List Cel} (h : CArg W p cs) (hb : Below W.heap.size W W') : CArg W' p cs := ⟨h.lies.below hb, h.len, h.text, h.byte, h.wide⟩
end
section
open Go Go.RowKit Go.Maps
theorem infoInt : (Tryz.prog.info? 3).map (fun i => (i.zero, i.size, i.bytes)) = some (some (.int .i64 0), 1, 8) := by kernel_rfl
def OwnI (w : World) (B : Nat) (t : TypeId) (p : Option Addr) (n c : Nat) (zs : List Int) : Prop := n = zs.length ∧ w.ownsRow B t 1 (.slice p n c) n (zs.map (Value.int .i64))
def IIn (w : World) (p : Option Addr) (zs : List Int) : Prop := 0 < zs.length → ∃ b o, p = some ⟨b, o, none⟩ ∧ ∀ i, i < zs.length → w.cell? ⟨b, o + i, none⟩ = some (.int .i64 (zs.getD i 0))
theorem OwnI.iin {w : World} {B : Nat} {t : TypeId} {p : Option Addr} {n c : Nat} {zs : List Int} (h : OwnI w B t p n c zs) : IIn w p zs := fun hn => by
 obtain ⟨rfl, hr⟩ := h; obtain ⟨g, cap, hv, hb, hg⟩ := hr.form hn; simp only [Value.slice.injEq, true_and] at hv; obtain ⟨rfl, rfl⟩ := hv; exact ⟨g, 0, rfl, fun i hi => by rw [Nat.zero_add, hr.cellAt i (by omega)]; simp [List.getD, hi]⟩
theorem IIn.below {W W' : World} {p : Option Addr} {zs : List Int} (h : IIn W p zs) (hb : Below W.heap.size W W') : IIn W' p zs := fun hn => by
 obtain ⟨b, o, rfl, hc⟩ := h hn; exact ⟨b, o, rfl, fun i hi => (hb.cell (World.block_lt_of_cell? _ _ (hc i hi))).trans (hc i hi)⟩
theorem OwnI.nil (w : World) (B : Nat) (t : TypeId) : OwnI w B t none 0 0 [] := ⟨rfl, World.ownsRow_nil _ _ _ _⟩
theorem OwnI.below {w w' : World} {B : Nat} {t : TypeId} {p : Option Addr} {n c : Nat} {zs : List Int} (h : OwnI w B t p n c zs) (hb : Below w.heap.size w w') : OwnI w' B t p n c zs := ⟨h.1, row_below h.2 hb⟩
theorem OwnI.mono {w : World} {B B' : Nat} {t : TypeId} {p : Option Addr} {n c : Nat} {zs : List Int} (h : OwnI w B t p n c zs) (hB : B' ≤ B) : OwnI w B' t p n c zs := ⟨h.1, ownsRow_down h.2 hB⟩
theorem app_int (w : World) {ops : Array Oper} {rest : List Oper} {o : Oper} {a : Act} {Q : Exit → Act → World → Prop} (hgd : o.guard = none) (s x : Operand)
  (ho : o.op = .call { callee := .builtin .append, args := #[s, x], argTypes := #[42, 42] }) (B : Nat) (p : Option Addr) (n c : Nat) (ys : List Int) (z : Int)
  (hs : a.eval s = .slice p n c) (hown : OwnI w B 3 p n c ys) (hx : a.eval x = .slice (some ⟨w.heap.size, 0, none⟩) 1 1)
  (hlen : n + 1 ≤ 1000000000) (hbase : B ≤ w.heap.size)
  (h : ∀ g n' cap w', OwnI w' B 3 (some ⟨g, 0, none⟩) n' cap (ys ++ [z]) → Below B (w.alloc (.cells #[.int .i64 z] 3)) w' → Hid (n' = n + 1) → wpList Tryz.prog ops Q rest (a.put o.dst (.slice (some ⟨g, 0, none⟩) n' cap)) w') : wpList Tryz.prog ops Q (o :: rest) a (w.alloc (.cells #[.int .i64 z] 3)) := by
 obtain ⟨i0, hi, hz0, hz1, hz2⟩ := info_parts infoInt; refine wpList_append_lies _ hgd s x 42 ho B 3 i0 (.int .i64 0) 1 8 Tryz.underlying42 hi hz0 hz1 hz2 rfl (by decide) (.slice p n c) n (ys.map (Value.int .i64)) hs (hown.2.alloc _) ⟨w.heap.size, 0, none⟩ 1 1 [.int .i64 z] hx rfl (cell_one_new _ _ _) (ints_oneCell .i64 [z]) (by decide) (by unfold maxLen; omega) (by omega) (by simp; omega) _ rfl ?_
 intro g cap w' hown' hgrow hat hlt
 refine h g _ cap w' ⟨by have := hown.1; simp; omega, by rw [List.map_append]; exact hown'⟩ ((Below.refl _ _).grown hgrow (by simp; omega) (fun k hk => (hown.2.lt k hk).1)) rfl
end
section
open Go Go.RowKit
theorem eqIntL_any (p q : Option Addr) (n m c1 c2 : Nat) (xs : List Int) (w : World) (hn : n = xs.length) (hm : m = xs.length) (hl : n ≤ 1000000000) (hx : IIn w p xs) (hy : IIn w q xs) :
  Calls Tryz.prog 113 #[.slice p n c1, .slice q m c2] w fun e w' => e = .returned (.bool true) ∧ ∃ k, w' = w.drewN k := by
 obtain rfl : m = n := by omega
 have HN : Hid (m = xs.length) := hn; have HX : Hid (IIn w p xs) := hx; have HY : Hid (IIn w q xs) := hy; clear hn hm hx hy
 go_enter Tryz.func113, Tryz.ntmps113
 go_wp2_with fail
 go_loopw [5] (fun i wr => ∃ k d : Nat, k ≤ m ∧ i = .int .i64 k ∧ Hid (wr = w.drewN d)) (fun i _ => m - (intOf i).toNat)
 case atStart => exact ⟨0, 0, Nat.zero_le _, rfl, rfl⟩
 case round =>
  obtain ⟨k, d, hk, rfl, HW⟩ := hrel
  by_cases hlt : k < m
  ·have hkl : k < xs.length := by rw [← HN.out]; exact hlt
   obtain ⟨b, o, rfl, hcx⟩ := HX.out (by omega); obtain ⟨b', o', rfl, hcy⟩ := HY.out (by omega)
   have h1 : wr.cell? ⟨b, o + k, none⟩ = some (.int .i64 (xs.getD k 0)) := by rw [HW.out]; exact hcx k hkl
   have h2 : wr.cell? ⟨b', o' + k, none⟩ = some (.int .i64 (xs.getD k 0)) := by rw [HW.out]; exact hcy k hkl
   obtain ⟨x, ex⟩ : ∃ x, x = xs.getD k 0 := ⟨_, rfl⟩
   rw [← ex] at h1 h2; clear ex hcx hcy; go_wp2_with fail
   go_region
   all_goals go_wp2_with fail
   all_goals go_roundw
   case rel => exact ⟨k + 1, d + 1, by omega, by go_num, by rw [HW.out]; rfl⟩
   case measure => simp [intOf]; omega
  ·obtain rfl : k = m := by omega
   go_wp2_with fail; go_ret; exact ⟨rfl, d, HW.out⟩
end
section
open Go Go.RowKit Go.Maps
end
section
open Go Go.RowKit
theorem two_cells {w5 : World} {g : Nat} {a b : Value} {t : TypeId} (h : w5.heap[g]? = some (.cells #[a, b] t (0, 0))) : w5.cell? ⟨g, 0, none⟩ = some a ∧ w5.cell? ⟨g, 1, none⟩ = some b ∧ w5.frozen? ⟨g, 0, none⟩ = false ∧ w5.frozen? ⟨g, 1, none⟩ = false := by
 refine ⟨?_, ?_, ?_, ?_⟩
 ·exact cell_of_row _ _ 0 _ _ _ h
 ·exact cell_of_row _ _ 1 _ _ _ h
 ·unfold World.frozen?; rw [h]; rfl
 ·unfold World.frozen?; rw [h]; rfl
def conB (s : ByteArray) (a : Int) : Bool := if s.toList == [44] || s.toList == [59] || s.toList == [45, 62] || s.toList == [102, 111, 114, 97, 108, 108] then a == 2 else if s.toList == [92, 43] || s.toList == [111, 110, 99, 101] then a == 1 else if s.toList == [33] then a == 0 else false
theorem isConstruct_any (s : ByteArray) (a : Int) (w : World) : Calls Tryz.prog 218 #[.agg #[.string s, .int .i64 a]] w fun e w' => e = .returned (.bool (conB s a)) ∧ Below w.heap.size w w' := by
 have HB : Hid (∀ o, Below w.heap.size w (w.alloc o)) := fun o => (Below.refl _ _).alloc (Nat.le_refl _) _
 have HF : Hid (∀ b, b = conB s a → Ending.returned (.bool b) = .returned (.bool (conB s a))) := fun b h => ret_bool h
 have HR : Hid (conB s a = (if s.toList == [44] || s.toList == [59] || s.toList == [45, 62] || s.toList == [102, 111, 114, 97, 108, 108] then a == 2 else if s.toList == [92, 43] || s.toList == [111, 110, 99, 101] then a == 1 else if s.toList == [33] then a == 0 else false)) := rfl
 cases h0 : (s.toList == [44])
 rotate_left
 ·rw [h0] at HR
  go_enter Tryz.func218, Tryz.ntmps218
  go_wp2_with fail; go_ret; exact ⟨HF.out _ (by rw [HR.out]; first | rfl | (rw [Bool.eq_iff_iff]; simp)), HB.out _⟩
 cases h1 : (s.toList == [59])
 rotate_left
 ·rw [h0, h1] at HR
  go_enter Tryz.func218, Tryz.ntmps218
  go_wp2_with fail; go_ret; exact ⟨HF.out _ (by rw [HR.out]; first | rfl | (rw [Bool.eq_iff_iff]; simp)), HB.out _⟩
 cases h2 : (s.toList == [45, 62])
 rotate_left
 ·rw [h0, h1, h2] at HR
  go_enter Tryz.func218, Tryz.ntmps218
  go_wp2_with fail; go_ret; exact ⟨HF.out _ (by rw [HR.out]; first | rfl | (rw [Bool.eq_iff_iff]; simp)), HB.out _⟩
 cases h3 : (s.toList == [102, 111, 114, 97, 108, 108])
 rotate_left
 ·rw [h0, h1, h2, h3] at HR
  go_enter Tryz.func218, Tryz.ntmps218
  go_wp2_with fail; go_ret; exact ⟨HF.out _ (by rw [HR.out]; first | rfl | (rw [Bool.eq_iff_iff]; simp)), HB.out _⟩
 cases h4 : (s.toList == [92, 43])
 rotate_left
 ·rw [h0, h1, h2, h3, h4] at HR
  go_enter Tryz.func218, Tryz.ntmps218
  go_wp2_with fail; go_ret; exact ⟨HF.out _ (by rw [HR.out]; first | rfl | (rw [Bool.eq_iff_iff]; simp)), HB.out _⟩
 cases h5 : (s.toList == [111, 110, 99, 101])
 rotate_left
 ·rw [h0, h1, h2, h3, h4, h5] at HR
  go_enter Tryz.func218, Tryz.ntmps218
  go_wp2_with fail; go_ret; exact ⟨HF.out _ (by rw [HR.out]; first | rfl | (rw [Bool.eq_iff_iff]; simp)), HB.out _⟩
 cases h6 : (s.toList == [33])
 rotate_left
 ·rw [h0, h1, h2, h3, h4, h5, h6] at HR
  go_enter Tryz.func218, Tryz.ntmps218
  go_wp2_with fail; go_ret; exact ⟨HF.out _ (by rw [HR.out]; first | rfl | (rw [Bool.eq_iff_iff]; simp)), HB.out _⟩
 rw [h0, h1, h2, h3, h4, h5, h6] at HR
 go_enter Tryz.func218, Tryz.ntmps218
 go_wp2_with fail; go_ret; exact ⟨HF.out _ (by rw [HR.out]; first | rfl | (rw [Bool.eq_iff_iff]; simp)), HB.out _⟩
end
section
open Go Go.RowKit Go.Maps
theorem keyPair (P : Program) (k s i : TypeId) (F : Array Field) (f0 f1 : Field) (hF : F = #[f0, f1]) (hu : P.underlying k = some (.struct F)) (t0 : f0.type = s) (o0 : f0.offset = 0) (t1 : f1.type = i) (o1 : f1.offset = 1) (n0 : (f0.name != "_") = true) (n1 : (f1.name != "_") = true)
  (hs : P.underlying s = some .string) (hi : P.underlying i = some (.int .i64)) (ck : P.cellsOf k = 2) (cs : P.cellsOf s = 1) (ci : P.cellsOf i = 1) (ht : P.keyType k = true) (n : Nat) (hn : P.types.size = n + 1) (x : ByteArray) (y : Int) (hx : x.size ≤ maxLen) (hw : (Lit.int .i64 y).wf = true) :
  keyOf P k (.agg #[.string x, .int .i64 y]) = some (.string (keyBytes [.string x.data.toList, .int .i64 y])) := by
 subst hF
 have e0 : P.keyLits (n + 1) s [.string x] = some [.string x.data.toList] := by unfold Program.keyLits; rw [hs]; simp [hx]
 have e1 : P.keyLits (n + 1) i [.int .i64 y] = some [.int .i64 y] := by unfold Program.keyLits; rw [hi]; simp [hw]
 have e2 : P.keyLits (P.types.size + 1) k [.string x, .int .i64 y] = some [.string x.data.toList, .int .i64 y] := by
  rw [hn]
  unfold Program.keyLits
  rw [hu]
  simp [ck, n0, n1, t0, t1, o0, o1, cs, ci, e0, e1]
 have e3 : (Value.agg #[.string x, .int .i64 y]).formed P k = true := by simp [Value.formed, hu, ck]
 unfold keyOf
 rw [hu]; simp only [ht, e3, Bool.and_self, if_true]
 have e4 : (Value.agg #[.string x, .int .i64 y]).cells.toList = [.string x, .int .i64 y] := by simp [Value.cells]
 rw [e4, e2]
 rfl
abbrev Fun := ByteArray × Int
theorem laidFun : laidOutB Tryz.prog = true := by kernel_rfl
theorem rowFun : (89 : TypeId) < Tryz.prog.types.size := of_decide_eq_true (by kernel_rfl)
theorem keyAtFun : Tryz.prog.keyTypeAt 3 89 = true := by kernel_rfl
theorem lawFunK : WideMaps.KeyLaw Tryz.prog 89 := deep_law_laid laidFun (m := 3) (by decide) rowFun keyAtFun (by kernel_rfl)
theorem lawFun : Keyed Tryz.prog 89 := Keyed.of_law lawFunK
theorem typFun : Tryz.prog.keyType 89 = true := by kernel_rfl
theorem cellsFun : Tryz.prog.cellsOf 89 = 2 := by kernel_rfl
theorem cellsStr : Tryz.prog.cellsOf 9 = 1 := by kernel_rfl
theorem cellsIn : Tryz.prog.cellsOf 3 = 1 := by kernel_rfl
def fk (f : Fun) : Lit := .string (keyBytes [.string f.1.data.toList, .int .i64 f.2])
theorem nTypes : ∃ n, Tryz.prog.types.size = n + 1 := by
 have h : 89 < Tryz.prog.types.size := rowFun
 generalize Tryz.prog.types.size = m at h
 exact ⟨m - 1, by omega⟩
end
section
open Go Go.RowKit Go.Maps Go.Shelf
set_option linter.unusedSimpArgs false
def unl (L : Array Bool) : Nat := (L.toList.filter (fun b => !b)).length
theorem unl_list : ∀ (l : List Bool) (i : Nat), l[i]? = some false → ((l.set i true).filter (fun b => !b)).length + 1 = (l.filter (fun b => !b)).length
 | [], i, h => by simp at h
 | b :: r, 0, h => by
   simp only [List.getElem?_cons_zero, Option.some.injEq] at h; subst h
   simp
 | b :: r, i + 1, h => by
   have := unl_list r i (by simpa using h)
   cases b <;> simp [List.set_cons_succ, List.filter_cons] <;> omega
theorem getD_list {L : Array Bool} {i : Nat} (h : L.getD i true = false) : L.toList[i]? = some false := by
 simp only [Array.getD_eq_getD_getElem?] at h; rw [Array.getElem?_toList]
 cases he : L[i]? with
 | none => rw [he] at h; cases h
 | some b => rw [he] at h; simp at h; rw [h]
theorem unl_set {L : Array Bool} {i : Nat} (h : L.getD i true = false) : unl (L.setIfInBounds i true) + 1 = unl L := by
 unfold unl
 rw [Array.toList_setIfInBounds]; exact unl_list _ _ (getD_list h)
theorem unl_zero {L : Array Bool} (h : unl L = 0) (i : Nat) : L.getD i true ≠ false := fun e => by
 have := unl_set e
 omega
section
variable {P : Program} {ops : Array Oper} {Q : Exit → Act → World → Prop} {md : Region.Mode}
theorem wpAny_inv (I : Array Bool → Act → World → Prop) (hS : ∀ L a w, I L a w → ∀ i ∈ Region.ready md ops L, wpOp P ops Q i (fun a' w' => I (L.setIfInBounds i true) a' w') a w)
  (hE : ∀ L a w, I L a w → Region.ready md ops L = [] → Q .normal a w) : ∀ (fuel : Nat) (L : Array Bool) (a : Act) (w : World), I L a w → unl L ≤ fuel → wpAny P md ops Q fuel L a w
 | 0, L, a, w, h, hu => by
   have hr : Region.ready md ops L = [] := by
    cases hh : Region.ready md ops L with
    | nil => rfl
    | cons i r =>
      have : i ∈ Region.ready md ops L := by rw [hh]; simp
      exact absurd (mem_ready.1 this).1 (unl_zero (by omega) i)
   exact ⟨hr, hE L a w h hr⟩
 | fuel + 1, L, a, w, h, hu => by
   refine ⟨fun hr => hE L a w h hr, fun i hi => ?_⟩; have h1 := unl_set (mem_ready.1 hi).1; exact wpOp_mono (fun a' w' h' => wpAny_inv I hS hE fuel _ a' w' h' (by omega)) (hS L a w h i hi)
theorem op_value {i : Nat} {o : Oper} {a : Act} {w w' : World} {v : Value} {K : Act → World → Prop} (hi : ops[i]? = some o) (hg : o.guard = none) (hr : (execOp a.eval o).run P w = .ok (.value v) w') (h : K (a.put o.dst v) w') : wpOp P ops Q i K a w := by
 unfold wpOp
 simp only [hi, Region.wanted, hg, if_true, Oper.wp, hr, Oper.upon]; exact .inl h
theorem op_skip {i : Nat} {o : Oper} {a : Act} {w w' : World} {K : Act → World → Prop} (hi : ops[i]? = some o) (hg : o.guard = none) (hr : (execOp a.eval o).run P w = .ok .skip w') (h : K (a.put o.dst undef) w') : wpOp P ops Q i K a w := by
 unfold wpOp
 simp only [hi, Region.wanted, hg, if_true, Oper.wp, hr, Oper.upon]; exact .inl h
end
theorem put_other {a : Act} {d p : Nat} {v : Value} (h : d ≠ p) : (a.put (some d) v).tmps[p]? = a.tmps[p]? := by simp [Act.put, Array.getElem?_setIfInBounds_ne h]
theorem put_same {a : Act} {d : Nat} {v : Value} (h : d < a.tmps.size) : (a.put (some d) v).tmps[d]? = some v := by simp [Act.put, h]
theorem put_size {a : Act} {d : Option Nat} {v : Value} : (a.put d v).tmps.size = a.tmps.size := by cases d <;> simp [Act.put]
theorem put_defs {a : Act} {d : Option Nat} {v : Value} : (a.put d v).defers = a.defers := by cases d <;> rfl
theorem set_at {L : Array Bool} {i p : Nat} (h : (L.setIfInBounds i true).getD p false = true) (hne : i ≠ p) : L.getD p false = true := by rwa [getD_set_ne false hne] at h
theorem dep_of {o : Oper} {i : Nat} {L : Array Bool} (h : (o.after.toList.any fun e => (e.on == i) && Region.binds .any e) = true) (hr : ∀ e ∈ o.after, Region.binds .any e = true → L.getD e.on false = true) : L.getD i false = true := by
 obtain ⟨e, he, h2⟩ := List.any_eq_true.1 h; simp only [Bool.and_eq_true, beq_iff_eq] at h2; rw [← h2.1]; exact hr e (by simpa using he) h2.2
theorem unl_le (L : Array Bool) : unl L ≤ L.size := by
 unfold unl
 have := List.length_filter_le (fun b => !b) L.toList
 simpa using this
theorem eval_tmp {a : Act} {p : Nat} {v : Value} (h : a.tmps[p]? = some v) : a.eval (.tmp p) = v := by simp [Act.eval, h]
theorem getD_false {L : Array Bool} {i : Nat} (h : L.getD i true = false) : L.getD i false = false := by
 simp only [Array.getD_eq_getD_getElem?] at h ⊢
 cases he : L[i]? with
 | none => rfl
 | some b => rw [he] at h; exact h
theorem set_self {L : Array Bool} {i : Nat} (h : i < L.size) : (L.setIfInBounds i true).getD i false = true := by simp [h]
end
section
open Go Go.RowKit Go.Maps
def okN (f : Fun) : Prop := f.1.size ≤ 2000000 ∧ (Lit.int .i64 f.2).wf = true
theorem keyFunN (f : Fun) (h : okN f) : keyOf Tryz.prog 89 (.agg #[.string f.1, .int .i64 f.2]) = some (fk f) := by
 obtain ⟨n, hn⟩ := nTypes
 have hx : f.1.size ≤ maxLen := by have := h.1; unfold maxLen; omega
 exact keyPair Tryz.prog 89 9 3 _ _ _ rfl Tryz.underlying89 rfl rfl rfl rfl (by decide) (by decide) Tryz.underlying9 Tryz.underlying3 cellsFun cellsStr cellsIn typFun n hn f.1 f.2 hx h.2
theorem fk_injN {f g : Fun} (hf : okN f) (hg : okN g) (h : fk f = fk g) : f = g := by
 have h1 := keyFunN f hf; have h2 := keyFunN g hg; rw [← h] at h2; have := lawFun.inj h1 h2; obtain ⟨f1, f2⟩ := f; obtain ⟨g1, g2⟩ := g
 simpa using this
def heldN (v : Value) : Option (DataW Value × List MemPlace) := some (.held v, [])
def BuIn (w : World) (b N : Nat) (T : Fun → Option Nat) : Prop := ∃ D : DataW Value, w.ownsMap Tryz.prog 89 heldN b N D ∧
 ∀ f, okN f → match T f with
   | none => has D (fk f) = false ∧ ∀ z, D.atKey (fk f) z = z
   | some K => has D (fk f) = true ∧ ∀ z, D.atKey (fk f) z = .held (.func (.func K) #[] #[])
theorem BuIn.lt {w : World} {b N : Nat} {T : Fun → Option Nat} (h : BuIn w b N T) : b < w.heap.size := by obtain ⟨D, h, _⟩ := h; exact h.lt
theorem BuIn.of {w w' : World} {b N : Nat} {T : Fun → Option Nat} (h : BuIn w b N T) (hb : w'.heap[b]? = w.heap[b]?) : BuIn w' b N T := by
 obtain ⟨D, ⟨es, clock, h1, r⟩, h2⟩ := h; exact ⟨D, ⟨es, clock, hb.trans h1, r⟩, h2⟩
theorem BuIn.below {w w' : World} {b N : Nat} {T : Fun → Option Nat} (h : BuIn w b N T) (hb : Below w.heap.size w w') : BuIn w' b N T := h.of (hb.block _ h.lt)
theorem BuIn.made (w : World) : BuIn (w.alloc (.map #[] 0)) w.heap.size 0 (fun _ => none) := ⟨_, World.ownsMap_made _ _ _ _, fun f _ => ⟨rfl, fun z => rfl⟩⟩
theorem zeroBu (w : World) : (zeroValue 257).run Tryz.prog w = .ok .nilFunc w := by kernel_rfl
theorem BuIn.put {w : World} {b N : Nat} {T : Fun → Option Nat} (h : BuIn w b N T) (hN : N ≤ 1000000) (f : Fun) (hf : okN f) (K : Nat) :
  ∃ w', (Instr.mapUpdate 62 (.map (some b)) (.agg #[.string f.1, .int .i64 f.2]) (.func (.func K) #[] #[])).run Tryz.prog w = .ok () w' ∧ BuIn w' b (N + 1) (fun g => if g = f then some K else T g) ∧ w.grownBy w' (some b) := by
 obtain ⟨D, hown, hT⟩ := h; have hown0 := hown; obtain ⟨es, clock, hb, _⟩ := hown; obtain ⟨w', hrun, hown', hg⟩ := hown0.update lawFun Tryz.underlying62 (by unfold maxLen; omega) (keyFunN f hf) (show heldN (.func (.func K) #[] #[]) = some (.held _, []) from rfl); have hm := hown0.isMap; have hkl : WideAt.IsKeyLit (fk f) := trivial; refine ⟨w', hrun, ⟨_, hown', fun g hgk => ?_⟩, hg⟩
 by_cases e : g = f
 ·subst e
  simp only [if_true]; exact ⟨has_put_same hm hkl _, fun z => atKey_put_same hm hkl _ z⟩
 ·simp only [if_neg e]
  have hne : fk g ≠ fk f := fun e' => e (fk_injN hgk hf e')
  have h1 := hT g hgk
  cases hTg : T g with
  | none =>
    rw [hTg] at h1; exact ⟨by rw [has_put_other hne]; exact h1.1, fun z => by rw [atKey_put_other hne]; exact h1.2 z⟩
  | some c' =>
    rw [hTg] at h1; exact ⟨by rw [has_put_other hne]; exact h1.1, fun z => by rw [atKey_put_other hne]; exact h1.2 z⟩
end
section
open Go Go.RowKit
def bOf (l : List UInt8) : ByteArray := ⟨l.toArray⟩
theorem bOf_size (l : List UInt8) : (bOf l).size = l.length := by simp [bOf, ByteArray.size]
theorem bOf_list (l : List UInt8) : (bOf l).toList = l := by rw [ByteArray.toList_eq]; rfl
def strV (x : List UInt8) : Value := .string (bOf x)
end
section
open Go
section
variable {P : Program} {ops : Array Oper} {Q : Exit → Act → World → Prop} {md : Region.Mode} {S : World → Prop}
theorem hTake {i : Nat} {v : Value} {fuel : Nat} {listed : Array Bool} {a : Act} {w : World} (d : Option Tmp) (hd : (ops[i]?).map (·.dst) = some d)
  (hs : Region.noSelect ops = true) (hf : Region.free md ops listed i = true) (hr : (Region.ready md ops listed).contains i = true) (hw : (ops[i]?).map (fun o => Region.wanted o (yielded ops a.tmps)) = some true)
  (hQ : ∀ c a w, Q (.panic c) (a.put d v) w → Q (.panic c) a w) (hrun : ∀ o, ops[i]? = some o → ∀ w, S w → (execOp a.eval o).run P w = .ok (.value v) w) (hS : S w)
  (h : wpAnyH P md ops Q S fuel (listed.setIfInBounds i true) (a.put d v) w) : wpAnyH P md ops Q S (fuel + 1) listed a w := by
 cases hi : ops[i]? with
 | none => simp [hi] at hd
 | some o =>
   have hd' : o.dst = d := by simpa [hi] using hd
   have hw' : Region.wanted o (yielded ops a.tmps) = true := by simpa [hi] using hw
   subst hd'; exact wpAnyH_take hi hs hf hr hQ (.inl ⟨hw', hrun o hi⟩) hS h
theorem hSkip {i : Nat} {fuel : Nat} {listed : Array Bool} {a : Act} {w : World} (d : Option Tmp) (hd : (ops[i]?).map (·.dst) = some d)
  (hs : Region.noSelect ops = true) (hf : Region.free md ops listed i = true) (hr : (Region.ready md ops listed).contains i = true) (hw : (ops[i]?).map (fun o => Region.wanted o (yielded ops a.tmps)) = some false)
  (hQ : ∀ c a w, Q (.panic c) (a.put d undef) w → Q (.panic c) a w) (hS : S w)
  (h : wpAnyH P md ops Q S fuel (listed.setIfInBounds i true) (a.put d undef) w) : wpAnyH P md ops Q S (fuel + 1) listed a w := by
 cases hi : ops[i]? with
 | none => simp [hi] at hd
 | some o =>
   have hd' : o.dst = d := by simpa [hi] using hd
   have hw' : Region.wanted o (yielded ops a.tmps) = false := by simpa [hi] using hw
   subst hd'; exact wpAnyH_take hi hs hf hr hQ (.inr ⟨hw', rfl⟩) hS h
theorem hTk {i : Nat} {v : Value} {fuel : Nat} {listed : Array Bool} {a : Act} {w : World} (d : Option Tmp) (hrun : ∀ o, ops[i]? = some o → ∀ w, S w → (execOp a.eval o).run P w = .ok (.value v) w) (hS : S w)
  (h : wpAnyH P md ops Q S fuel (listed.setIfInBounds i true) (a.put d v) w) (hQ : ∀ c a w, Q (.panic c) (a.put d v) w → Q (.panic c) a w := by exact fun _ _ _ h => h) (hd : (ops[i]?).map (·.dst) = some d := by kernel_rfl)
  (hs : Region.noSelect ops = true := by kernel_rfl) (hf : Region.free md ops listed i = true := by kernel_rfl) (hr : (Region.ready md ops listed).contains i = true := by kernel_rfl) (hw : (ops[i]?).map (fun o => Region.wanted o (yielded ops a.tmps)) = some true := by kernel_rfl) : wpAnyH P md ops Q S (fuel + 1) listed a w := hTake d hd hs hf hr hw hQ hrun hS h
theorem hSk {i : Nat} {fuel : Nat} {listed : Array Bool} {a : Act} {w : World} (d : Option Tmp) (hS : S w)
  (h : wpAnyH P md ops Q S fuel (listed.setIfInBounds i true) (a.put d undef) w) (hQ : ∀ c a w, Q (.panic c) (a.put d undef) w → Q (.panic c) a w := by exact fun _ _ _ h => h) (hd : (ops[i]?).map (·.dst) = some d := by kernel_rfl)
  (hs : Region.noSelect ops = true := by kernel_rfl) (hf : Region.free md ops listed i = true := by kernel_rfl) (hr : (Region.ready md ops listed).contains i = true := by kernel_rfl) (hw : (ops[i]?).map (fun o => Region.wanted o (yielded ops a.tmps)) = some false := by kernel_rfl) : wpAnyH P md ops Q S (fuel + 1) listed a w := hSkip d hd hs hf hr hw hQ hS h
end
theorem hStep {P : Program} {ops : Array Oper} {Q : Exit → Act → World → Prop} {md : Region.Mode} {S : World → Prop} {i : Nat} {v : Value} {fuel : Nat} {listed : Array Bool} {a : Act} {w w' : World} (d : Option Tmp) (hd : (ops[i]?).map (·.dst) = some d)
  (hr : Region.ready md ops listed = [i]) (hw : (ops[i]?).map (fun o => Region.wanted o (yielded ops a.tmps)) = some true)
  (hrun : ∀ o, ops[i]? = some o → (execOp a.eval o).run P w = .ok (.value v) w') (hS : S w') (h : wpAnyH P md ops Q S fuel (listed.setIfInBounds i true) (a.put d v) w') : wpAnyH P md ops Q S (fuel + 1) listed a w := by
 refine wpAnyH_all hr (by simp) ?_
 intro j hj
 obtain rfl : j = i := by simpa using hj
 cases hi : ops[j]? with
 | none => simp [hi] at hd
 | some o =>
   have hd' : o.dst = d := by simpa [hi] using hd
   have hw' : Region.wanted o (yielded ops a.tmps) = true := by simpa [hi] using hw
   subst hd'
   unfold wpOp
   simp only [hi, hw', if_true, Oper.wp, hrun o hi, Oper.upon]; exact .inl ⟨hS, h⟩
theorem hCallE {P : Program} {ops : Array Oper} {Q : Exit → Act → World → Prop} {md : Region.Mode} {S : World → Prop} {i : Nat} {f : FuncId} {args : Array Value} {R : Ending → World → Prop} {fuel : Nat} {listed : Array Bool} {a : Act} {w : World} (d : Option Tmp) (hd : (ops[i]?).map (·.dst) = some d)
  (hr : Region.ready md ops listed = [i]) (hw : (ops[i]?).map (fun o => Region.wanted o (yielded ops a.tmps)) = some true)
  (hrun : ∀ o, ops[i]? = some o → (execOp a.eval o).run P w = .ok (.enter f args) w) (hC : Calls P f args w R) (hK : ∀ u w', R (.returned u) w' → S w' ∧ wpAnyH P md ops Q S fuel (listed.setIfInBounds i true) (a.put d u) w')
  (hP : ∀ ch w', ¬ R (.panicked ch) w') (hO : ∀ w', ¬ R .outgrown w') : wpAnyH P md ops Q S (fuel + 1) listed a w := by
 refine wpAnyH_all hr (by simp) ?_
 intro j hj
 obtain rfl : j = i := by simpa using hj
 cases hi : ops[j]? with
 | none => simp [hi] at hd
 | some o =>
   have hd' : o.dst = d := by simpa [hi] using hd
   have hw' : Region.wanted o (yielded ops a.tmps) = true := by simpa [hi] using hw
   subst hd'
   unfold wpOp
   simp only [hi, hw', if_true, Oper.wp, hrun o hi, Oper.upon]; refine .inl (hC.mono fun e w'' he => ?_)
   cases e with
   | returned u => exact hK u w'' he
   | panicked ch => exact absurd he (hP ch w'')
   | outgrown => exact absurd he (hO w'')
end
section
open Go Go.RowKit
theorem str_inj {xs ys : List Int} (hx : Byte xs) (hy : Byte ys) : (strOfNums xs == strOfNums ys) = decide (xs = ys) := by
 have h1 := str_beq hx (strOfNums ys).toList; have h2 := (str_eq hy (strOfNums ys).toList).1 rfl; rw [← h2] at h1; rw [← h1]
 congr 1
 rw [ByteArray.toList_eq]
end
section
open Go
section
variable {P : Program} {ops : Array Oper} {Q : Exit → Act → World → Prop} {md : Region.Mode} {S : World → Prop} {c : Nat}
def wpAnyU (P : Program) (md : Region.Mode) (ops : Array Oper) (Q : Exit → Act → World → Prop) (S : World → Prop) (c : Nat) : Nat → Array Bool → Act → World → Prop
 | 0, listed, a, w => Region.ready md ops listed = [] ∧ Q .normal a w
 | fuel + 1, listed, a, w =>
   (Region.ready md ops listed = [] → Q .normal a w) ∧
   ∀ i ∈ Region.ready md ops listed, wpOp P ops Q i (fun a' w' => ((listed.setIfInBounds i true).getD c true = false → S w') ∧ wpAnyU P md ops Q S c fuel (listed.setIfInBounds i true) a' w') a w
theorem wpAny_of_until : ∀ (fuel : Nat) (listed : Array Bool) (a : Act) (w : World), wpAnyU P md ops Q S c fuel listed a w → wpAny P md ops Q fuel listed a w
 | 0, _, _, _, h => h
 | fuel + 1, _, _, _, h => ⟨h.1, fun i hi => wpOp_mono (fun a' w' h' => wpAny_of_until fuel _ a' w' h'.2) (h.2 i hi)⟩
def waitsB (md : Region.Mode) (ops : Array Oper) (D : List Nat) (i : Nat) : Bool :=
 !D.contains i && D.all fun d => match ops[d]? with
  | some o => o.after.any fun e => Region.binds md e && (e.on == i || D.contains e.on)
  | none => false
theorem waits_spec {D : List Nat} {i : Nat} (h : waitsB md ops D i = true) : i ∉ D ∧ ∀ d ∈ D, ∃ o, ops[d]? = some o ∧ ∃ e ∈ o.after, Region.binds md e = true ∧ (e.on = i ∨ e.on ∈ D) := by
 simp only [waitsB, Bool.and_eq_true, Bool.not_eq_true', List.all_eq_true] at h; refine ⟨by simpa using h.1, fun d hd => ?_⟩; have h2 := h.2 d hd
 cases ho : ops[d]? with
 | none => simp [ho] at h2
 | some o =>
   simp only [ho, Array.any_eq_true', Bool.and_eq_true, Bool.or_eq_true, beq_iff_eq, List.contains_iff_mem] at h2; obtain ⟨e, he, hb, hx⟩ := h2; exact ⟨o, rfl, e, he, hb, hx⟩
theorem wpAnyU_first {i : Nat} {oi : Oper} {v : Value} {D : List Nat} (hi : ops[i]? = some oi) (hsel : ∀ (j : Nat) (o : Oper) cs b, ops[j]? = some o → o.op ≠ .select cs b)
  (hQ : ∀ c a w, Q (.panic c) (a.put oi.dst v) w → Q (.panic c) a w) (hw : waitsB md ops D i = true) (hcD : c ∈ D) :
  ∀ (fuel : Nat) (listed : Array Bool) (a : Act) (w : World),
    (∀ j oj, ops[j]? = some oj → j ≠ i → listed.getD j true = false → (∀ e ∈ oj.after, Region.binds md e = true → e.on ≠ i) → oi.apart ops oj = true) →
    (∀ d ∈ D, listed.getD d true = false) →
    i ∈ Region.ready md ops listed → YieldsIf P ops S oi v a → S w →
    wpAnyU P md ops Q S c fuel (listed.setIfInBounds i true) (a.put oi.dst v) w → wpAnyU P md ops Q S c (fuel + 1) listed a w := by
 obtain ⟨hiD, hwait⟩ := waits_spec hw
 intro fuel
 induction fuel with
 | zero =>
   intro listed a w _ _ hr hy hS H
   refine ⟨fun h => (by rw [h] at hr; cases hr), fun j hj => ?_⟩
   by_cases hji : j = i
   ·subst hji; exact hy.wpOp hi hS ⟨fun _ => hS, H⟩
   ·have := ready_mono hj hji
    rw [H.1] at this
    cases this
 | succ fuel ih =>
   intro listed a w hfree hD hr hy hS H
   refine ⟨fun h => (by rw [h] at hr; cases hr), fun j hj => ?_⟩
   by_cases hji : j = i
   ·subst hji; exact hy.wpOp hi hS ⟨fun _ => hS, H⟩
   ·have h1 := H.2 j (ready_mono hj hji)
    obtain ⟨hjun, oj, hoj, hall⟩ := mem_ready.1 hj
    have hnot : ∀ e ∈ oj.after, Region.binds md e = true → e.on ≠ i := fun e he hb heq => by
     have h1 := hall e he hb; have h0 := (mem_ready.1 hr).1; rw [heq] at h1
     rcases Nat.lt_or_ge i listed.size with h' | h'
     ·simp [h'] at h0 h1; rw [h0] at h1; cases h1
     ·simp [Array.getElem?_eq_none h'] at h1
    have hjD : j ∉ D := fun hjD => by
     obtain ⟨o, ho, e, he, hb, hx⟩ := hwait j hjD; rw [hoj] at ho
     cases ho
     rcases hx with hx | hx
     ·exact hnot e he hb hx
     ·have h1 := hall e he hb
      have h0 := hD _ hx
      rcases Nat.lt_or_ge e.on listed.size with h' | h'
      ·simp [h'] at h0 h1; rw [h0] at h1; cases h1
      ·simp [Array.getElem?_eq_none h'] at h1
    have hkeep : ∀ d ∈ D, (listed.setIfInBounds j true).getD d true = false := fun d hd => by
     rw [getD_set_ne true (show j ≠ d from fun e => hjD (e ▸ hd))]; exact hD d hd
    have hcj : ((listed.setIfInBounds i true).setIfInBounds j true).getD c true = false := by
     rw [getD_set_ne true (show j ≠ c from fun e => hjD (e ▸ hcD)), getD_set_ne true (show i ≠ c from fun e => hiD (e ▸ hcD))]; exact hD c hcD
    have h2 := wpOp_putIf hoj (hfree j oj hoj hji hjun hnot) (fun cs b => hsel i oi cs b hi) (fun cs b => hsel j oj cs b hoj) hQ hy h1; have hfree' : ∀ k ok, ops[k]? = some ok → k ≠ i → (listed.setIfInBounds j true).getD k true = false →
      (∀ e ∈ ok.after, Region.binds md e = true → e.on ≠ i) → oi.apart ops ok = true := fun k ok hk hki hun hno => by
     refine hfree k ok hk hki ?_ hno
     by_cases hjk : j = k
     ·subst hjk; exact hjun
     ·rw [getD_set_ne true hjk] at hun; exact hun
    refine wpOp_mono (fun a' w' h3 => ⟨fun _ => h3.2.1 hcj, ih (listed.setIfInBounds j true) a' w' hfree' hkeep (ready_mono hr (Ne.symm hji)) h3.1 (h3.2.1 hcj) ?_⟩) h2; rw [Array.setIfInBounds_comm _ _ hji]; exact h3.2.2
theorem wpAnyU_take {i : Nat} {v : Value} {D : List Nat} {fuel : Nat} {listed : Array Bool} {a : Act} {w : World} (d : Option Tmp) (hd : (ops[i]?).map (·.dst) = some d)
  (hs : Region.noSelect ops = true) (hf : Region.free md ops listed i = true) (hr : (Region.ready md ops listed).contains i = true) (hw : waitsB md ops D i = true) (hcD : D.contains c = true) (hD : (D.all fun d => !listed.getD d true) = true)
  (hQ : ∀ c a w, Q (.panic c) (a.put d v) w → Q (.panic c) a w) (hy : ∀ oi, ops[i]? = some oi → YieldsIf P ops S oi v a) (hS : S w)
  (h : wpAnyU P md ops Q S c fuel (listed.setIfInBounds i true) (a.put d v) w) : wpAnyU P md ops Q S c (fuel + 1) listed a w := by
 cases hi : ops[i]? with
 | none => simp [hi] at hd
 | some oi =>
   have hd' : oi.dst = d := by simpa [hi] using hd
   subst hd'; exact wpAnyU_first hi (Region.noSelect_spec hs) hQ hw (by simpa using hcD) fuel listed a w (Region.free_spec hi hf) (fun d hd => by have := List.all_eq_true.1 hD d hd; simpa using this) (by simpa using hr) (hy oi hi) hS h
theorem wpAnyU_all {rs : List Nat} {fuel : Nat} {listed : Array Bool} {a : Act} {w : World} (hr : Region.ready md ops listed = rs) (hne : rs ≠ [])
  (h : ∀ i ∈ rs, wpOp P ops Q i (fun a' w' => ((listed.setIfInBounds i true).getD c true = false → S w') ∧ wpAnyU P md ops Q S c fuel (listed.setIfInBounds i true) a' w') a w) : wpAnyU P md ops Q S c (fuel + 1) listed a w :=
 ⟨fun h0 => absurd (hr ▸ h0) hne, hr ▸ h⟩
theorem wpAnyU_done {listed : Array Bool} {a : Act} {w : World} (hr : Region.ready md ops listed = []) (h : Q .normal a w) :
  ∀ fuel, wpAnyU P md ops Q S c fuel listed a w
 | 0 => ⟨hr, h⟩
 | _ + 1 => ⟨fun _ => h, by rw [hr]; simp⟩
theorem wpOp_value {i : Nat} {v : Value} {a : Act} {w w' : World} {K : Act → World → Prop} (d : Option Tmp) (hd : (ops[i]?).map (·.dst) = some d) (hw : (ops[i]?).map (fun o => Region.wanted o (yielded ops a.tmps)) = some true)
  (hrun : ∀ o, ops[i]? = some o → (execOp a.eval o).run P w = .ok (.value v) w') (hK : K (a.put d v) w') : wpOp P ops Q i K a w := by
 cases hi : ops[i]? with
 | none => simp [hi] at hd
 | some o =>
   have hd' : o.dst = d := by simpa [hi] using hd
   have hw' : Region.wanted o (yielded ops a.tmps) = true := by simpa [hi] using hw
   subst hd'
   unfold wpOp
   simp only [hi, hw', if_true, Oper.wp, hrun o hi, Oper.upon]; exact .inl hK
theorem wpOp_skip {i : Nat} {a : Act} {w w' : World} {K : Act → World → Prop} (d : Option Tmp) (hd : (ops[i]?).map (·.dst) = some d) (hw : (ops[i]?).map (fun o => Region.wanted o (yielded ops a.tmps)) = some true)
  (hrun : ∀ o, ops[i]? = some o → (execOp a.eval o).run P w = .ok .skip w') (hK : K (a.put d undef) w') : wpOp P ops Q i K a w := by
 cases hi : ops[i]? with
 | none => simp [hi] at hd
 | some o =>
   have hd' : o.dst = d := by simpa [hi] using hd
   have hw' : Region.wanted o (yielded ops a.tmps) = true := by simpa [hi] using hw
   subst hd'
   unfold wpOp
   simp only [hi, hw', if_true, Oper.wp, hrun o hi, Oper.upon]; exact .inl hK
end
section
variable {P : Program} {ops : Array Oper} {Q : Exit → Act → World → Prop} {md : Region.Mode} {S : World → Prop} {c : Nat} {l n : Nat}
def noDefer (ops : Array Oper) : Bool := ops.all fun o => match o.op with | .defer _ => false | _ => true
theorem noDefer_spec (h : noDefer ops = true) {i : Nat} {o : Oper} (hi : ops[i]? = some o) : ∀ c, o.op ≠ .defer c := fun c e => by
 have := Array.all_eq_true_iff_forall_mem.1 h o (Array.mem_of_getElem? hi); rw [e] at this
 cases this
theorem upon_wide {o : Oper} {a : Act} {K : Act → World → Prop} {r : Result Next} (h : o.upon P a K Q r) : o.uponIn (Fence.wide.inRound l) n P a K Q r := by
 cases r with
 | ok x w' =>
   cases x <;> simp only [Oper.upon] at h <;> simp only [Oper.uponIn] <;>
    first
     | exact h
     | exact ⟨fun h => (by cases h), CallsIn.inRound l (callsIn_wide.2 h)⟩
     | exact ⟨fun h => (by cases h), fun c cs _ => let ⟨v, w', r, s⟩ := h c cs; ⟨v, w', r, stepsIn_wide.2 s⟩⟩
     | exact h.elim
 | halt x w' => cases x <;> simp only [Oper.upon] at h <;> simp only [Oper.uponIn] <;> first | exact h | exact h.elim
theorem wpOpIn_of (hd : noDefer ops = true) (hQ : ¬ LetsOut Q) {i : Nat} {K : Act → World → Prop} {a : Act} {w : World} (h : wpOp P ops Q i K a w) : wpOpIn (Fence.wide.inRound l) n P ops Q i K a w := by
 unfold wpOp at h
 unfold wpOpIn
 cases hi : ops[i]? with
 | none => simpa [hi] using h
 | some o =>
   simp only [hi] at h ⊢
   split
   ·rename_i hw
    simp only [hw, if_true] at h; refine ⟨fun _ _ => trivial, ?_⟩
    rcases h with h | h
    ·have e : o.semAt (Fence.wide.inRound l).round a.eval = execOp a.eval o := Oper.semAt_some l _ _ (noDefer_spec hd hi)
     rw [e]; exact upon_wide h
    ·exact absurd h.2 hQ
   ·rename_i hw
    simp only [hw] at h; exact ⟨fun _ _ => trivial, by simpa using h⟩
theorem wpAnyIn_of (hd : noDefer ops = true) (hQ : ¬ LetsOut Q) : ∀ (fuel : Nat) (listed : Array Bool) (a : Act) (w : World), wpAny P md ops Q fuel listed a w → wpAnyIn (Fence.wide.inRound l) n P md ops Q fuel listed a w
 | 0, _, _, _, h => h
 | fuel + 1, _, _, _, h => ⟨h.1, fun i hi => wpOpIn_of hd hQ (wpOp_mono (fun a' w' h' => wpAnyIn_of hd hQ fuel _ a' w' h') (h.2 i hi))⟩
theorem wpIn_region_until {id : Nat} {a : Act} {w : World} (hm : P.follows .mixedOrders = true) (hd : noDefer ops = true)
  (h : wpAnyU P .any ops (fun e a w => e = .normal ∧ Q .normal a w) S c ops.size (Array.replicate ops.size false) a { w with drawn := w.drawn + 1 }) : (Code.region id ops true).wpIn (Fence.wide.inRound l) n P Q a w :=
 wpIn_mono (wpIn_region_any hm (wpAnyIn_of hd (fun h => by simp [LetsOut] at h) _ _ _ _ (wpAny_of_until _ _ _ _ h))) (fun e a w h => h.1 ▸ h.2)
theorem wpOp_oper {i : Nat} {a : Act} {w : World} {K : Act → World → Prop} (hw : (ops[i]?).map (fun o => Region.wanted o (yielded ops a.tmps)) = some true) (h : ∀ o, ops[i]? = some o → o.wp P a w K Q) : wpOp P ops Q i K a w := by
 cases hi : ops[i]? with
 | none => simp [hi] at hw
 | some o =>
   have hw' : Region.wanted o (yielded ops a.tmps) = true := by simpa [hi] using hw
   unfold wpOp
   simp only [hi, hw', if_true]; exact .inl (h o hi)
end
def tab : List Int := [0, 0, 0, 0, 0, 0, 0, 0, 0, 16, 16, 0, 0, 16, 0, 0, 0, 0, 0, 0, 0, 0, 0, 0, 0, 0, 0, 0, 0, 0, 0, 0,
 16, 32, 0, 8, 8, 0, 8, 0, 64, 64, 8, 8, 64, 8, 8, 8, 4, 4, 4, 4, 4, 4, 4, 4, 4, 4, 8, 32, 8, 8, 8, 8,
 8, 2, 2, 2, 2, 2, 2, 2, 2, 2, 2, 2, 2, 2, 2, 2, 2, 2, 2, 2, 2, 2, 2, 2, 2, 2, 2, 64, 8, 64, 8, 2,
 0, 1, 1, 1, 1, 1, 1, 1, 1, 1, 1, 1, 1, 1, 1, 1, 1, 1, 1, 1, 1, 1, 1, 1, 1, 1, 1, 64, 64, 64, 8, 0]
end
section
open Go Go.RowKit
end
section
open Go Go.RowKit
end
section
open Go Go.RowKit
end
section
open Go Go.RowKit
end
end Go.Proofs.YtickbkcpcgmlmaaGreatDoor
