/- Texts of Copy, RowT, Own, CelA, CelB, Str0, CopyT, Sz, Cell1, Cell2, Cell3, IsC, Valid1. Own work of the verifier. -/
import Derived.Test.YtdmmchoicngblaaGreatDoorPre
import Derived.Deep.AppendLies
import Derived.Deep.RegionHeld3
import Derived.Deep.Light
import Derived.Laws.BytesArg
import Derived.Lib.SlBytesConst
import Derived.Lib.ConvBytes
import Derived.WideShapes
import Derived.Deep.RegionWith
namespace Go.Proofs.YtdmmchoicngblaaGreatDoor
open Go Go.RowKit
set_option linter.unusedVariables false
theorem infoByte : (Tryz.prog.info? 5).map (fun i => (i.zero, i.size, i.bytes)) = some (some (.int .u8 0), 1, 1) := by kernel_rfl
def BIn (w : World) (p : Option Addr) (xs : List Int) : Prop :=
 0 < xs.length → ∃ b o, p = some ⟨b, o, none⟩ ∧ ∀ i, i < xs.length → w.cell? ⟨b, o + i, none⟩ = some (.int .u8 (xs.getD i 0))
theorem same_every {xs ys : List Int} (hl : xs.length = ys.length) (h : ∀ j, j < xs.length → xs.getD j 0 = ys.getD j 0) : xs = ys := by
 apply List.ext_getElem hl
 intro i h1 h2
 have := h i h1
 rwa [List.getD, List.getD, List.getElem?_eq_getElem h1, List.getElem?_eq_getElem h2] at this
def Row (W : World) (b : Nat) (xs : List Int) : Prop := b < W.heap.size ∧ ∀ i, i < xs.length → W.cell? ⟨b, i, none⟩ = some (.int .u8 (xs.getD i 0))
theorem Row.below {W W' : World} {b : Nat} {xs : List Int} (h : Row W b xs) (hb : Below W.heap.size W W') : Row W' b xs :=
 ⟨Nat.lt_of_lt_of_le h.1 hb.size, fun i hi => (hb.cell (p := ⟨b, i, none⟩) h.1).trans (h.2 i hi)⟩
theorem Row.bin {W : World} {b : Nat} {xs : List Int} (h : Row W b xs) : BIn W (some ⟨b, 0, none⟩) xs := fun _ => ⟨b, 0, rfl, fun i hi => by rw [Nat.zero_add]; exact h.2 i hi⟩
theorem row_of_owns {W : World} {B b c : Nat} {xs : List Int} (h : W.ownsRow B 5 1 (.slice (some ⟨b, 0, none⟩) xs.length c) xs.length (xs.map (Value.int .u8))) : Row W b xs := by
 refine ⟨?_, fun i hi => ?_⟩
 ·rcases h.2 with ⟨h', _⟩ | ⟨g', cap', cur, h', _, hg, _⟩
  ·simp at h'
  ·simp only [Value.slice.injEq, Option.some.injEq, Addr.mk.injEq, and_true, true_and] at h'
   obtain ⟨rfl, _⟩ := h'; exact (Array.getElem?_eq_some_iff.1 hg).1
 ·rw [h.cellAt i (by omega)]
  simp [List.getD, hi]
theorem BIn.below {W W' : World} {p : Option Addr} {xs : List Int} (h : BIn W p xs) (hb : Below W.heap.size W W') : BIn W' p xs := fun hn => by
 obtain ⟨b, o, rfl, hc⟩ := h hn; exact ⟨b, o, rfl, fun i hi => (hb.cell (World.block_lt_of_cell? _ _ (hc i hi))).trans (hc i hi)⟩
theorem below_drewN {B : Nat} {a w : World} (h : Below B a w) (n : Nat) : Below B a (w.drewN n) := h.trans ⟨rfl, rfl, rfl, Nat.le_refl _, fun _ _ => rfl⟩
theorem Below.on {w W W' : World} (h : Below w.heap.size w W) (k : Below W.heap.size W W') : Below w.heap.size w W' := h.trans (k.mono h.size)
def OwnS (w : World) (B : Nat) (p : Option Addr) (n c : Nat) (ys : List Int) : Prop := n = ys.length ∧ w.ownsRow B 5 1 (.slice p n c) n (ys.map (Value.int .u8))
theorem OwnS.len {w : World} {B : Nat} {p : Option Addr} {n c : Nat} {ys : List Int} (h : OwnS w B p n c ys) : n = ys.length := h.1
theorem OwnS.nil (w : World) (B : Nat) : OwnS w B none 0 0 [] := ⟨rfl, World.ownsRow_nil _ _ _ _⟩
theorem OwnS.bin {w : World} {B : Nat} {p : Option Addr} {n c : Nat} {ys : List Int} (h : OwnS w B p n c ys) : BIn w p ys := fun hn => by
 obtain ⟨rfl, hr⟩ := h; obtain ⟨g, cap, hv, hb, hg⟩ := hr.form hn; simp only [Value.slice.injEq, true_and] at hv; obtain ⟨rfl, rfl⟩ := hv; exact ⟨g, 0, rfl, fun i hi => by rw [Nat.zero_add, hr.cellAt i (by omega)]; simp [List.getD, hi]⟩
theorem OwnS.form {w : World} {B : Nat} {p : Option Addr} {n c : Nat} {ys : List Int} (h : OwnS w B p n c ys) : (p = none ∧ n = 0 ∧ c = 0) ∨ ∃ g, p = some ⟨g, 0, none⟩ ∧ B ≤ g ∧ g < w.heap.size := by
 obtain ⟨rfl, hr⟩ := h
 rcases hr.2 with ⟨hv, h0⟩ | ⟨g, cap, cur, hv, hb, hg, _⟩
 ·simp only [Value.slice.injEq] at hv
  exact .inl hv
 ·simp only [Value.slice.injEq, true_and] at hv
  exact .inr ⟨g, hv.1, hb, (Array.getElem?_eq_some_iff.1 hg).1⟩
theorem OwnS.below {w w' : World} {B : Nat} {p : Option Addr} {n c : Nat} {ys : List Int} (h : OwnS w B p n c ys) (hb : Below w.heap.size w w') : OwnS w' B p n c ys := by
 obtain ⟨rfl, hr⟩ := h; refine ⟨rfl, hr.1, ?_⟩
 rcases hr.2 with h' | ⟨g, cap, cur, hv, hB, hg, r⟩
 ·exact .inl h'
 ·exact .inr ⟨g, cap, cur, hv, hB, (hb.block g (Array.getElem?_eq_some_iff.1 hg).1).trans hg, r⟩
theorem OwnS.alloc {w : World} {B : Nat} {p : Option Addr} {n c : Nat} {ys : List Int} (h : OwnS w B p n c ys) (o : Obj) : OwnS (w.alloc o) B p n c ys := ⟨h.1, h.2.alloc o⟩
theorem OwnS.row {w : World} {B g n c : Nat} {ys : List Int} (h : OwnS w B (some ⟨g, 0, none⟩) n c ys) : Row w g ys := by obtain ⟨rfl, hr⟩ := h; exact row_of_owns hr
theorem oneCells (zs : List Int) : ∀ u ∈ zs.map (Value.int .u8), u.oneCell' = true := fun u hu => by
 obtain ⟨z, _, rfl⟩ := List.mem_map.1 hu; rfl
theorem app_bytes (w : World) {ops : Array Oper} {rest : List Oper} {o : Oper} {a : Act} {Q : Exit → Act → World → Prop} (hgd : o.guard = none) (s x : Operand)
  (ho : o.op = .call { callee := .builtin .append, args := #[s, x], argTypes := #[22, 22] }) (B : Nat) (p : Option Addr) (n c : Nat) (ys zs : List Int) (m : Nat) (hmz : m = zs.length)
  (hs : a.eval s = .slice p n c) (hown : OwnS w B p n c ys) (ad : Addr) (c' : Nat) (hx : a.eval x = .slice (some ad) m c') (hnews : ∀ j u, (zs.map (Value.int .u8))[j]? = some u → w.cell? (ad.add j) = some u)
  (hm : 0 < m) (hlen : n + m ≤ 1000000000000) (hbase : B ≤ w.heap.size)
  (h : ∀ g n' cap w', OwnS w' B (some ⟨g, 0, none⟩) n' cap (ys ++ zs) → Below B w w' → Hid (n' = n + m) → wpList Tryz.prog ops Q rest (a.put o.dst (.slice (some ⟨g, 0, none⟩) n' cap)) w') : wpList Tryz.prog ops Q (o :: rest) a w := by
 obtain ⟨i0, hi, hz0, hz1, hz2⟩ := info_parts infoByte; subst hmz; obtain ⟨rfl, hr⟩ := hown; refine wpList_append_lies w hgd s x 22 ho B 5 i0 (.int .u8 0) 1 1 Tryz.underlying22 hi hz0 hz1 hz2 rfl (by decide) (.slice p ys.length c) ys.length (ys.map (Value.int .u8)) hs hr ad zs.length c' (zs.map (Value.int .u8)) hx (by simp) hnews (oneCells zs) hm (by unfold maxLen; omega) (by omega) hbase w.heap.size rfl ?_
 intro g cap w' hown' hgrow hat hlt
 refine h g _ cap w' ⟨by simp, by rw [List.map_append]; exact hown'⟩ ((Below.refl _ _).grown hgrow hbase (fun k hk => ?_)) rfl
 rcases OwnS.form (ys := ys) ⟨rfl, hr⟩ with ⟨rfl, _⟩ | ⟨g', rfl, hB, _⟩
 ·simp [Value.ownBlock] at hk
 ·simp [Value.ownBlock] at hk; omega
abbrev Cel := Int × Int × List Int
def Cel.none : Cel := (0, 0, [])
theorem BIn.drewN {W : World} {p : Option Addr} {xs : List Int} (h : BIn W p xs) (m : Nat) : BIn (W.drewN m) p xs := h
def tl : List Cel → Nat
 | [] => 0
 | c :: r => c.2.2.length + tl r
theorem tl_take : ∀ (cs : List Cel) (k : Nat), k < cs.length → tl (cs.take (k + 1)) = tl (cs.take k) + (cs.getD k Cel.none).2.2.length
 | [], k, h => by simp at h
 | c :: r, 0, _ => by simp [tl]
 | c :: r, k + 1, h => by
   have := tl_take r k (by simpa using h); simp only [List.take_succ_cons, tl, this]
   simp; omega
theorem tl_take_le : ∀ (cs : List Cel) (k : Nat), tl (cs.take k) ≤ tl cs
 | [], k => by simp [tl]
 | c :: r, 0 => by simp [tl]
 | c :: r, k + 1 => by have := tl_take_le r k; simp only [List.take_succ_cons, tl]; omega
theorem tl_at (cs : List Cel) (k : Nat) (h : k < cs.length) : (cs.getD k Cel.none).2.2.length ≤ tl cs := by
 have := tl_take cs k h; have := tl_take_le cs (k + 1)
 omega
abbrev RC := Int × Int × Option Addr × Nat × Nat
def RC.zero : RC := (0, 0, none, 0, 0)
def OwnT (w : World) (B : Nat) (p : Option Addr) (n c : Nat) (ys : List Int) : Prop :=
 n = ys.length ∧ (0 < n → ∃ g, p = some ⟨g, 0, none⟩ ∧ B ≤ g ∧ g < w.heap.size ∧ ∀ i, i < n → w.cell? ⟨g, i, none⟩ = some (.int .u8 (ys.getD i 0)) ∧ w.frozen? ⟨g, i, none⟩ = false)
theorem OwnS.toT {w : World} {B : Nat} {p : Option Addr} {n c : Nat} {ys : List Int} (h : OwnS w B p n c ys) : OwnT w B p n c ys := by
 refine ⟨h.1, fun hn => ?_⟩
 rcases h.form with ⟨_, h0, _⟩ | ⟨g, rfl, hB, hlt⟩
 ·omega
 ·exact ⟨g, rfl, hB, hlt, fun i hi => ⟨h.row.2 i (by rw [← h.1]; exact hi), h.2.frozenAt i⟩⟩
theorem ne_block {g H n : Nat} (h : g ≠ H) : 0 < n → some (⟨g, 0, none⟩ : Addr) ≠ some ⟨H, 0, none⟩ := fun _ e => h (congrArg Addr.block (Option.some.inj e))
theorem OwnT.len {w : World} {B : Nat} {p : Option Addr} {n c : Nat} {ys : List Int} (h : OwnT w B p n c ys) : n = ys.length := h.1
theorem OwnT.bin {w : World} {B : Nat} {p : Option Addr} {n c : Nat} {ys : List Int} (h : OwnT w B p n c ys) : BIn w p ys := fun hn => by
 obtain ⟨rfl, h⟩ := h; obtain ⟨g, rfl, _, _, hc⟩ := h hn; exact ⟨g, 0, rfl, fun i hi => by rw [Nat.zero_add]; exact (hc i hi).1⟩
theorem OwnT.below {w w' : World} {B : Nat} {p : Option Addr} {n c : Nat} {ys : List Int} (h : OwnT w B p n c ys) (hb : Below w.heap.size w w') : OwnT w' B p n c ys := by
 refine ⟨h.1, fun hn => ?_⟩; obtain ⟨g, e, hB, hlt, hc⟩ := h.2 hn; exact ⟨g, e, hB, Nat.lt_of_lt_of_le hlt hb.size, fun i hi => ⟨(hb.cell (p := ⟨g, i, none⟩) hlt).trans (hc i hi).1, (hb.frozen (p := ⟨g, i, none⟩) hlt).trans (hc i hi).2⟩⟩
theorem OwnT.mono {w : World} {B B' : Nat} {p : Option Addr} {n c : Nat} {ys : List Int} (h : OwnT w B p n c ys) (hB : B' ≤ B) : OwnT w B' p n c ys := by
 refine ⟨h.1, fun hn => ?_⟩; obtain ⟨g, e, hB', r⟩ := h.2 hn; exact ⟨g, e, Nat.le_trans hB hB', r⟩
theorem OwnT.other {w w' : World} {B : Nat} {p : Option Addr} {n c : Nat} {ys : List Int} (h : OwnT w B p n c ys) (hs : w.heap.size ≤ w'.heap.size) (ho : ∀ g, 0 < n → p = some ⟨g, 0, none⟩ → w'.heap[g]? = w.heap[g]?) : OwnT w' B p n c ys := by
 refine ⟨h.1, fun hn => ?_⟩; obtain ⟨g, e, hB, hlt, hc⟩ := h.2 hn; have e' := ho g hn e; exact ⟨g, e, hB, Nat.lt_of_lt_of_le hlt hs, fun i hi => ⟨(World.cell?_of_block (w := w) e').trans (hc i hi).1, (World.frozen?_of_block (w := w) e').trans (hc i hi).2⟩⟩
theorem OwnT.setCell {w : World} {B : Nat} {p : Option Addr} {n c : Nat} {ys : List Int} (h : OwnT w B p n c ys) {a : Addr} (ha : 0 < n → p ≠ some ⟨a.block, 0, none⟩) (u : Value) : OwnT (w.setCell a u) B p n c ys :=
 h.other (by simp) (fun g hn e => Below.heap_setCell _ _ _ _ (fun e' => ha hn (by rw [e, e'])))
def Fits (w : World) (B : Nat) (r : RC) (c : Cel) : Prop := r.1 = c.1 ∧ r.2.1 = c.2.1 ∧ OwnT w B r.2.2.1 r.2.2.2.1 r.2.2.2.2 c.2.2
def ApartC (p : Option Addr) (rs : List RC) : Prop :=
 (∀ i, i < rs.length → 0 < (rs.getD i RC.zero).2.2.2.1 → (rs.getD i RC.zero).2.2.1 ≠ p) ∧
 (∀ i j, i < rs.length → j < rs.length → i ≠ j → 0 < (rs.getD i RC.zero).2.2.2.1 → 0 < (rs.getD j RC.zero).2.2.2.1 → (rs.getD i RC.zero).2.2.1 ≠ (rs.getD j RC.zero).2.2.1)
theorem ownsRow_down {w : World} {B B' : Nat} {e : TypeId} {size : Nat} {v : Value} {n : Nat} {xs : List Value} (h : w.ownsRow B e size v n xs) (hB : B' ≤ B) : w.ownsRow B' e size v n xs := by
 refine ⟨h.1, ?_⟩
 rcases h.2 with h' | ⟨g, cap, cur, hv, hb, r⟩
 ·exact .inl h'
 ·exact .inr ⟨g, cap, cur, hv, Nat.le_trans hB hb, r⟩
theorem OwnS.mono {w : World} {B B' : Nat} {p : Option Addr} {n c : Nat} {ys : List Int} (h : OwnS w B p n c ys) (hB : B' ≤ B) : OwnS w B' p n c ys := ⟨h.1, ownsRow_down h.2 hB⟩
theorem OwnS.setCell {w : World} {B : Nat} {g n c : Nat} {ys : List Int} (h : OwnS w B (some ⟨g, 0, none⟩) n c ys) {a : Addr} (ha : a.block ≠ g) (u : Value) : OwnS (w.setCell a u) B (some ⟨g, 0, none⟩) n c ys :=
 ⟨h.1, ownsRow_setCell_other h.2 (by simp [Value.ownBlock]; exact fun e => ha e.symm) u⟩
def Box3 (w : World) (b : Nat) (v0 v1 v2 : Value) : Prop := w.cell? ⟨b, 0, none⟩ = some v0 ∧ w.cell? ⟨b, 1, none⟩ = some v1 ∧ w.cell? ⟨b, 2, none⟩ = some v2 ∧ ∀ j, w.frozen? ⟨b, j, none⟩ = false
theorem Box3.of_block {w : World} {b : Nat} {v0 v1 v2 : Value} {t : TypeId} (h : w.heap[b]? = some (.cells #[v0, v1, v2] t)) : Box3 w b v0 v1 v2 :=
 ⟨by simp [World.cell?, h], by simp [World.cell?, h], by simp [World.cell?, h], fun j => frozen_of_row w b j _ t h⟩
theorem heap_three (w : World) (a b c : Obj) : (((w.alloc a).alloc b).alloc c).heap[w.heap.size + 1]? = some b ∧ (((w.alloc a).alloc b).alloc c).heap[w.heap.size + 1 + 1]? = some c := by
 have h1 := heap_alloc_new (w.alloc a) b; have h2 := heap_alloc_new ((w.alloc a).alloc b) c; simp only [World.size_alloc] at h1 h2; exact ⟨(Below.heap_alloc _ _ _ (by simp)).trans h1, h2⟩
theorem rs_set_at (rs : List RC) (i j : Nat) (r : RC) (h : i < rs.length) : (rs.set i r).getD j RC.zero = if j = i then r else rs.getD j RC.zero := by
 simp only [List.getD, List.getElem?_set]
 by_cases e : j = i
 ·subst e; simp [h]
 ·have : ¬ i = j := fun x => e x.symm
  simp [this, e]
theorem same_cells {xs ys : List Cel} (hl : xs.length = ys.length) (h : ∀ j, j < xs.length → xs.getD j Cel.none = ys.getD j Cel.none) : xs = ys := by
 apply List.ext_getElem hl
 intro i h1 h2
 have := h i h1
 rwa [List.getD, List.getD, List.getElem?_eq_getElem h1, List.getElem?_eq_getElem h2] at this
theorem rs_append_at (rs : List RC) (r : RC) (i : Nat) (h : i ≤ rs.length) : (rs ++ [r]).getD i RC.zero = if i = rs.length then r else rs.getD i RC.zero := by
 by_cases e : i = rs.length
 ·subst e; simp [List.getD]
 ·rw [if_neg e, List.getD, List.getD, List.getElem?_append_left (by omega)]
theorem cs_append_at (cs : List Cel) (c : Cel) (i : Nat) (h : i ≤ cs.length) : (cs ++ [c]).getD i Cel.none = if i = cs.length then c else cs.getD i Cel.none := by
 by_cases e : i = cs.length
 ·subst e; simp [List.getD]
 ·rw [if_neg e, List.getD, List.getD, List.getElem?_append_left (by omega)]
theorem row_below {B : Nat} {t : TypeId} {size n : Nat} {v : Value} {w w' : World} {xs : List Value} (h : w.ownsRow B t size v n xs) (hb : Below w.heap.size w w') : w'.ownsRow B t size v n xs := by
 refine ⟨h.1, ?_⟩
 rcases h.2 with h' | ⟨g, cap, cur, hv, hB, hg, r⟩
 ·exact .inl h'
 ·exact .inr ⟨g, cap, cur, hv, hB, (hb.block g (Array.getElem?_eq_some_iff.1 hg).1).trans hg, r⟩
theorem Box3.below {w w' : World} {b : Nat} {u0 u1 u2 : Value} (h : Box3 w b u0 u1 u2) (hb : Below w.heap.size w w') (hlt : b < w.heap.size) : Box3 w' b u0 u1 u2 :=
 ⟨(hb.cell (p := ⟨b, 0, none⟩) hlt).trans h.1, (hb.cell (p := ⟨b, 1, none⟩) hlt).trans h.2.1, (hb.cell (p := ⟨b, 2, none⟩) hlt).trans h.2.2.1, fun j => (hb.frozen (p := ⟨b, j, none⟩) hlt).trans (h.2.2.2 j)⟩
theorem Box3.setCell {w : World} {b : Nat} {u0 u1 u2 : Value} (h : Box3 w b u0 u1 u2) {a : Addr} (ha : a.block ≠ b) (u : Value) : Box3 (w.setCell a u) b u0 u1 u2 :=
 have o : ∀ j, (w.setCell a u).cell? ⟨b, j, none⟩ = w.cell? ⟨b, j, none⟩ := fun j => World.cell?_setCell_other _ _ _ _ (fun e => ha (by rw [e]))
 ⟨(o 0).trans h.1, (o 1).trans h.2.1, (o 2).trans h.2.2.1, fun j => by rw [World.frozen?_setCell]; exact h.2.2.2 j⟩
def Byte (xs : List Int) : Prop := ∀ x ∈ xs, 0 ≤ x ∧ x < 256
theorem u8_of {x : Int} (h0 : 0 ≤ x) (h1 : x < 256) : ((UInt8.ofNat x.toNat).toNat : Int) = x := by
 simp only [UInt8.toNat_ofNat']; omega
theorem str_list {xs : List Int} : (strOfNums xs).toList = xs.map fun n => UInt8.ofNat n.toNat := by
 rw [ByteArray.toList_eq]; rfl
theorem map_back : ∀ {xs : List Int}, Byte xs → (xs.map fun n => UInt8.ofNat n.toNat).map (fun u => (u.toNat : Int)) = xs
 | [], _ => rfl
 | x :: r, h => by
   have hx := h x (List.mem_cons_self ..); simp only [List.map_cons]; rw [u8_of hx.1 hx.2, map_back (fun y hy => h y (List.mem_cons_of_mem _ hy))]
theorem map_forth (l : List UInt8) : ((l.map (fun u => (u.toNat : Int))).map fun n => UInt8.ofNat n.toNat) = l := by
 induction l with
 | nil => rfl
 | cons a r ih => simp only [List.map_cons, ih]; simp
theorem str_eq {xs : List Int} (hb : Byte xs) (l : List UInt8) : (strOfNums xs).toList = l ↔ xs = l.map (fun u => (u.toNat : Int)) := by
 rw [str_list]
 constructor
 ·intro h; rw [← h, map_back hb]
 ·intro h; rw [h, map_forth]
theorem str_beq {xs : List Int} (hb : Byte xs) (l : List UInt8) : (strOfNums xs == (⟨l.toArray⟩ : ByteArray)) = decide (xs = l.map (fun u => (u.toNat : Int))) := by
 have e : (strOfNums xs == (⟨l.toArray⟩ : ByteArray)) = ((strOfNums xs).data == l.toArray) := rfl; rw [e, Bool.eq_iff_iff, beq_iff_eq, decide_eq_true_iff, ← str_eq hb, ByteArray.toList_eq]
 constructor
 ·intro h; rw [h]
 ·intro h; rw [← h]
theorem conv_str {w : World} {p : Option Addr} {xs : List Int} (h : BIn w p xs) (m cap : Nat) (hm : m = xs.length) (dst : TypeId) (hd : Tryz.prog.underlying dst = some .string) :
  (convert 22 dst (.slice p m cap)).run Tryz.prog w = .ok (.string (strOfNums xs)) w := by
 subst hm
 by_cases hn : 0 < xs.length
 ·obtain ⟨b, o, rfl, hc⟩ := h hn
  exact run_convert_bytes_arg w 22 5 Tryz.underlying22 Tryz.underlying5 b o xs.length cap xs rfl hc dst hd
 ·obtain rfl : xs = [] := by cases xs with | nil => rfl | cons a r => simp at hn
  rw [run_convert_bytes_string w 22 dst 5 _ _ cap Tryz.underlying22 Tryz.underlying5 hd]
  cases p with
  | none => simp [Conv.bytesToString, strOfNums]; rfl
  | some a => simp [Conv.bytesToString, strOfNums]; rfl
theorem conv_bytes (w : World) (xs : List Int) (hx : Byte xs) (src : TypeId) (hsrc : Tryz.prog.underlying src = some .string) :
  ∃ w' cap, (convert src 22 (.string (strOfNums xs))).run Tryz.prog w = .ok (.slice (some ⟨w.heap.size, 0, none⟩) xs.length cap) w' ∧ Below w.heap.size w w' ∧ OwnT w' w.heap.size (some ⟨w.heap.size, 0, none⟩) xs.length cap xs := by
 refine ⟨Lib.bytesWorld w 5 (strOfNums xs), grownCap w (strOfNums xs).size 0 5, ?_, ?_, rfl, fun hn => ⟨w.heap.size, rfl, Nat.le_refl _, ?_, fun i hi => ⟨?_, ?_⟩⟩⟩
 ·rw [Lib.run_convert_string_bytes w src 22 5 (strOfNums xs) hsrc Tryz.underlying22 Tryz.underlying5, strOfNums_size]
 ·exact ⟨rfl, rfl, rfl, by rw [Lib.bytesWorld_size]; omega, fun k hk => Lib.bytesWorld_at_old w 5 _ k hk⟩
 ·rw [Lib.bytesWorld_size]; omega
 ·rw [Lib.bytesWorld_cell w 5 _ i (by rw [strOfNums_size]; exact hi), strOfNums_data]
  have hb := hx (xs.getD i 0) (by simp [List.getD, hi])
  have e : (((xs.map fun n => UInt8.ofNat n.toNat).getD i 0).toNat : Int) = xs.getD i 0 := by
   simp only [List.getD, List.getElem?_map, List.getElem?_eq_getElem hi, Option.map_some, Option.getD_some] at hb ⊢; simp only [UInt8.toNat_ofNat']; omega
  rw [e]
 ·have hc : i < (Lib.bytesCells w 5 (strOfNums xs)).size := by
   have : (strOfNums xs).data.size = xs.length := strOfNums_size xs; simp only [Lib.bytesCells, Array.size_append, Array.size_map, this]; omega
  simp only [World.frozen?, Lib.bytesWorld_at_new]
  simp; omega
theorem drop_at (cs : List Cel) (k : Nat) (h : k < cs.length) : cs.drop k = cs.getD k Cel.none :: cs.drop (k + 1) := by
 rw [List.drop_eq_getElem_cons h]
 congr 1
 rw [List.getD, List.getElem?_eq_getElem h]; rfl
theorem bl_irrefl : ∀ a : List UInt8, Op.bytesLess a a = false
 | [] => by simp [Op.bytesLess]
 | a :: r => by simp [Op.bytesLess, bl_irrefl r]
theorem u8_lt (a b : UInt8) : a < b ↔ a.toNat < b.toNat := UInt8.lt_iff_toNat_lt
theorem u8_eq (a b : UInt8) : a = b ↔ a.toNat = b.toNat := UInt8.toNat_inj.symm
theorem bl_trans : ∀ a b c : List UInt8, Op.bytesLess a b = true → Op.bytesLess b c = true → Op.bytesLess a c = true
 | _, [], _, h, _ => by simp [Op.bytesLess] at h
 | _, _ :: _, [], _, h => by simp [Op.bytesLess] at h
 | [], _ :: _, _ :: _, _, _ => by simp [Op.bytesLess]
 | a :: x, b :: y, c :: z, h1, h2 => by
   simp only [Op.bytesLess, Bool.or_eq_true, decide_eq_true_eq, Bool.and_eq_true, beq_iff_eq] at h1 h2 ⊢; have ih := bl_trans x y z; rw [u8_lt, u8_eq] at *
   rcases h1 with h1 | ⟨h1, h1'⟩ <;> rcases h2 with h2 | ⟨h2, h2'⟩
   ·left; omega
   ·left; omega
   ·left; omega
   ·right; exact ⟨by omega, ih h1' h2'⟩
theorem bl_tri : ∀ a b : List UInt8, Op.bytesLess a b = false → a ≠ b → Op.bytesLess b a = true
 | [], [], _, h => absurd rfl h
 | [], _ :: _, h, _ => by simp [Op.bytesLess] at h
 | _ :: _, [], _, _ => by simp [Op.bytesLess]
 | a :: x, b :: y, h, hne => by
   simp only [Op.bytesLess, Bool.or_eq_false_iff, decide_eq_false_iff_not, Bool.and_eq_false_iff] at h; simp only [Op.bytesLess, Bool.or_eq_true, decide_eq_true_eq, Bool.and_eq_true, beq_iff_eq]
   by_cases e : a = b
   ·subst e
    right
    refine ⟨rfl, bl_tri x y ?_ (fun e => hne (by rw [e]))⟩
    rcases h.2 with h2 | h2
    ·simp at h2
    ·exact h2
   ·left
    have h1 := h.1; rw [u8_lt] at h1 ⊢; rw [u8_eq] at e
    omega
theorem ba_ext {a b : ByteArray} (h : a.toList = b.toList) : a = b := by
 rw [ByteArray.toList_eq, ByteArray.toList_eq] at h
 cases a; cases b; simpa using h
def cmpI (x y : Int) : Int := if x < y then -1 else if y < x then 1 else 0
def cmpS (x y : ByteArray) : Int := if Op.bytesLess x.toList y.toList then -1 else if x.toList == y.toList then 0 else 1
def CAt (w : World) (b o : Nat) (c : Cel) : Prop :=
 ∃ p cap, w.cell? ⟨b, o, none⟩ = some (.int .i64 c.1) ∧ w.cell? ⟨b, o + 1, none⟩ = some (.int .i64 c.2.1) ∧ w.cell? ⟨b, o + 2, none⟩ = some (.slice p c.2.2.length cap) ∧ BIn w p c.2.2
def CIn (w : World) (p : Option Addr) (cs : List Cel) : Prop :=
 0 < cs.length → ∃ b o, p = some ⟨b, o, none⟩ ∧ ∀ i, i < cs.length → CAt w b (o + i * 3) (cs.getD i Cel.none)
theorem CAt.below {W W' : World} {b o : Nat} {c : Cel} (h : CAt W b o c) (hb : Below W.heap.size W W') : CAt W' b o c := by
 obtain ⟨p, cap, h0, h1, h2, h3⟩ := h; exact ⟨p, cap, (hb.cell (World.block_lt_of_cell? _ _ h0)).trans h0, (hb.cell (World.block_lt_of_cell? _ _ h1)).trans h1, (hb.cell (World.block_lt_of_cell? _ _ h2)).trans h2, h3.below hb⟩
theorem CIn.below {W W' : World} {p : Option Addr} {cs : List Cel} (h : CIn W p cs) (hb : Below W.heap.size W W') : CIn W' p cs := fun hn => by
 obtain ⟨b, o, rfl, hc⟩ := h hn; exact ⟨b, o, rfl, fun i hi => (hc i hi).below hb⟩
theorem CIn.drewN {W : World} {p : Option Addr} {cs : List Cel} (h : CIn W p cs) (m : Nat) : CIn (W.drewN m) p cs := h
theorem infoCell : (Tryz.prog.info? 55).map (fun i => (i.zero, i.size, i.bytes)) = some (some (.agg #[.int .i64 0, .int .i64 0, .slice none 0 0]), 3, 40) := by kernel_rfl
def rcV (r : RC) : List Value := [.int .i64 r.1, .int .i64 r.2.1, .slice r.2.2.1 r.2.2.2.1 r.2.2.2.2]
def flat (rs : List RC) : List Value := rs.flatMap rcV
theorem flat_cons (r : RC) (rs : List RC) : flat (r :: rs) = .int .i64 r.1 :: .int .i64 r.2.1 :: .slice r.2.2.1 r.2.2.2.1 r.2.2.2.2 :: flat rs := rfl
theorem flat_append (a b : List RC) : flat (a ++ b) = flat a ++ flat b := List.flatMap_append
theorem flat_len : ∀ rs : List RC, (flat rs).length = rs.length * 3
 | [] => rfl
 | r :: rs => by simp only [flat_cons, List.length_cons, flat_len rs]; omega
theorem flat_at : ∀ (rs : List RC) (i : Nat), i < rs.length → (flat rs)[i * 3]? = some (.int .i64 (rs.getD i RC.zero).1) ∧ (flat rs)[i * 3 + 1]? = some (.int .i64 (rs.getD i RC.zero).2.1) ∧
  (flat rs)[i * 3 + 2]? = some (.slice (rs.getD i RC.zero).2.2.1 (rs.getD i RC.zero).2.2.2.1 (rs.getD i RC.zero).2.2.2.2)
 | [], i, h => by simp at h
 | r :: rs, 0, _ => by simp [flat_cons]
 | r :: rs, i + 1, h => by
   have := flat_at rs i (by simpa using h); rw [flat_cons, show (i + 1) * 3 = (i * 3) + 1 + 1 + 1 by omega, show (i * 3) + 1 + 1 + 1 + 1 = (i * 3 + 1) + 1 + 1 + 1 by omega, show (i * 3) + 1 + 1 + 1 + 2 = (i * 3 + 2) + 1 + 1 + 1 by omega]
   simpa using this
def OwnC (w : World) (B : Nat) (p : Option Addr) (n c : Nat) (cs : List Cel) : Prop :=
 n = cs.length ∧ ∃ rs : List RC, rs.length = cs.length ∧ w.ownsRow B 55 3 (.slice p n c) n (flat rs) ∧ (∀ i, i < cs.length → Fits w B (rs.getD i RC.zero) (cs.getD i Cel.none)) ∧ ApartC p rs
theorem OwnC.nil (w : World) (B : Nat) : OwnC w B none 0 0 [] := ⟨rfl, [], rfl, World.ownsRow_nil _ _ _ _, fun i h => by simp at h, fun i h => by simp at h, fun i j h => by simp at h⟩
theorem OwnC.cin {w : World} {B : Nat} {p : Option Addr} {n c : Nat} {cs : List Cel} (h : OwnC w B p n c cs) : CIn w p cs := fun hn => by
 obtain ⟨rfl, rs, hl, hr, hf, _⟩ := h; obtain ⟨g, cap, hv, hb, hg⟩ := hr.form hn; simp only [Value.slice.injEq, true_and] at hv; obtain ⟨rfl, rfl⟩ := hv; refine ⟨g, 0, rfl, fun i hi => ?_⟩; obtain ⟨f0, f1, f2⟩ := hf i hi; obtain ⟨a0, a1, a2⟩ := flat_at rs i (by omega); rw [Nat.zero_add]; refine ⟨(rs.getD i RC.zero).2.2.1, (rs.getD i RC.zero).2.2.2.2, ?_, ?_, ?_, f2.bin⟩
 ·rw [hr.cellAt _ (by omega), a0, f0]
 ·rw [hr.cellAt _ (by omega), a1, f1]
 ·rw [hr.cellAt _ (by omega), a2, f2.len]
theorem OwnC.below {w w' : World} {B : Nat} {p : Option Addr} {n c : Nat} {cs : List Cel} (h : OwnC w B p n c cs) (hb : Below w.heap.size w w') : OwnC w' B p n c cs := by
 obtain ⟨rfl, rs, hl, hr, hf, ha⟩ := h; refine ⟨rfl, rs, hl, ⟨hr.1, ?_⟩, fun i hi => ⟨(hf i hi).1, (hf i hi).2.1, (hf i hi).2.2.below hb⟩, ha⟩
 rcases hr.2 with h' | ⟨g, cap, cur, hv, hB, hg, r⟩
 ·exact .inl h'
 ·exact .inr ⟨g, cap, cur, hv, hB, (hb.block g (Array.getElem?_eq_some_iff.1 hg).1).trans hg, r⟩
theorem OwnC.mono {w : World} {B B' : Nat} {p : Option Addr} {n c : Nat} {cs : List Cel} (h : OwnC w B p n c cs) (hB : B' ≤ B) : OwnC w B' p n c cs := by
 obtain ⟨hn, rs, hl, hr, hf, ha⟩ := h; exact ⟨hn, rs, hl, ownsRow_down hr hB, fun i hi => ⟨(hf i hi).1, (hf i hi).2.1, (hf i hi).2.2.mono hB⟩, ha⟩
def cellB (k n : Int) (m : Nat) : Bool := decide ((k = 0 ∧ 0 ≤ n ∧ n ≤ 1000000 ∧ m = 0) ∨ (k = 1 ∧ -1000000000000000 ≤ n ∧ n ≤ 1000000000000000 ∧ m = 0) ∨ (k = 2 ∧ m ≤ 100 ∧ n = 0) ∨ (k = 3 ∧ m ≤ 100 ∧ 1 ≤ n ∧ n ≤ 20))
theorem isCell_any (k n : Int) (p : Option Addr) (m c : Nat) (w : World) :
  Calls Tryz.prog 42 #[.agg #[.int .i64 k, .int .i64 n, .slice p m c]] w fun e w' => e = .returned (.bool (cellB k n m)) ∧ Below w.heap.size w w' := by
 have fin : ∀ {a : Bool} {o : Obj}, a = cellB k n m → (Ending.returned (.bool a) = .returned (.bool (cellB k n m)) ∧ Below w.heap.size w (w.alloc o)) := fun h => ⟨ret_bool h, (Below.refl _ _).alloc (Nat.le_refl _) _⟩
 have FIN : Hid _ := @fin; clear fin
 by_cases k0 : k = 0
 ·subst k0
  by_cases hm : m = 0
  ·subst hm
   by_cases a : 0 ≤ n
   ·go_enter Tryz.func42, Tryz.ntmps42
    go_wp2
    go_ret; exact FIN.out (by rw [Bool.eq_iff_iff]; simp [cellB]; omega)
   ·go_enter Tryz.func42, Tryz.ntmps42
    go_wp2
    go_ret; exact FIN.out (by rw [Bool.eq_iff_iff]; simp [cellB]; omega)
  ·have hm' : ((m : Int) == 0) = false := by simp; omega
   have HM : Hid (m ≠ 0) := hm; clear hm
   go_enter Tryz.func42, Tryz.ntmps42
   go_wp2
   go_ret; exact FIN.out (by have := HM.out; rw [Bool.eq_iff_iff]; simp [cellB]; omega)
 ·by_cases k1 : k = 1
  ·subst k1
   by_cases hm : m = 0
   ·subst hm
    by_cases a : -1000000000000000 ≤ n
    ·go_enter Tryz.func42, Tryz.ntmps42
     go_wp2
     go_ret; exact FIN.out (by rw [Bool.eq_iff_iff]; simp [cellB]; omega)
    ·go_enter Tryz.func42, Tryz.ntmps42
     go_wp2
     go_ret; exact FIN.out (by rw [Bool.eq_iff_iff]; simp [cellB]; omega)
   ·have hm' : ((m : Int) == 0) = false := by simp; omega
    have HM : Hid (m ≠ 0) := hm; clear hm k0
    go_enter Tryz.func42, Tryz.ntmps42
    go_wp2
    go_ret; exact FIN.out (by have := HM.out; rw [Bool.eq_iff_iff]; simp [cellB]; omega)
  ·have t0 : (k == 0) = false := by simpa using k0
   have t1 : (k == 1) = false := by simpa using k1
   by_cases k2 : k = 2
   ·subst k2
    clear t0 t1 k0 k1
    by_cases hm : (m : Int) ≤ 100
    ·go_enter Tryz.func42, Tryz.ntmps42
     go_wp2
     go_ret; exact FIN.out (by rw [Bool.eq_iff_iff]; simp [cellB]; omega)
    ·go_enter Tryz.func42, Tryz.ntmps42
     go_wp2
     go_ret; exact FIN.out (by rw [Bool.eq_iff_iff]; simp [cellB]; omega)
   ·by_cases k3 : k = 3
    ·subst k3
     clear t0 t1 k0 k1 k2
     by_cases hm : (m : Int) ≤ 100
     ·by_cases a : 1 ≤ n
      ·go_enter Tryz.func42, Tryz.ntmps42
       go_wp2
       go_ret; exact FIN.out (by rw [Bool.eq_iff_iff]; simp [cellB]; omega)
      ·go_enter Tryz.func42, Tryz.ntmps42
       go_wp2
       go_ret; exact FIN.out (by rw [Bool.eq_iff_iff]; simp [cellB]; omega)
     ·go_enter Tryz.func42, Tryz.ntmps42
      go_wp2
      go_ret; exact FIN.out (by rw [Bool.eq_iff_iff]; simp [cellB]; omega)
    ·have t2 : (k == 2) = false := by simpa using k2
     have t3 : (k == 3) = false := by simpa using k3
     have HK : Hid (k ≠ 0 ∧ k ≠ 1 ∧ k ≠ 2 ∧ k ≠ 3) := ⟨k0, k1, k2, k3⟩
     clear k0 k1 k2 k3
     go_enter Tryz.func42, Tryz.ntmps42
     go_wp2
     go_ret; exact FIN.out (by have := HK.out; rw [Bool.eq_iff_iff]; simp [cellB]; omega)
theorem l2cell_any (k n : Int) (p : Option Addr) (m c : Nat) (w : World) :
  Calls Tryz.prog 22 #[.agg #[.int .i64 k, .int .i64 n, .slice p m c]] w fun e w' => e = .returned (.bool (cellB k n m)) ∧ Below w.heap.size w w' := by
 have fin : ∀ {a : Bool} {o : Obj}, a = cellB k n m → (Ending.returned (.bool a) = .returned (.bool (cellB k n m)) ∧ Below w.heap.size w (w.alloc o)) := fun h => ⟨ret_bool h, (Below.refl _ _).alloc (Nat.le_refl _) _⟩
 have FIN : Hid _ := @fin; clear fin
 by_cases k0 : k = 0
 ·subst k0
  by_cases a : 0 ≤ n
  ·by_cases b : n ≤ 1000000
   ·go_enter Tryz.func22, Tryz.ntmps22
    go_wp2
    go_ret; exact FIN.out (by rw [Bool.eq_iff_iff]; simp [cellB]; omega)
   ·go_enter Tryz.func22, Tryz.ntmps22
    go_wp2
    go_ret; exact FIN.out (by rw [Bool.eq_iff_iff]; simp [cellB]; omega)
  ·go_enter Tryz.func22, Tryz.ntmps22
   go_wp2
   go_ret; exact FIN.out (by rw [Bool.eq_iff_iff]; simp [cellB]; omega)
 ·by_cases k1 : k = 1
  ·subst k1
   by_cases a : -1000000000000000 ≤ n
   ·by_cases b : n ≤ 1000000000000000
    ·go_enter Tryz.func22, Tryz.ntmps22
     go_wp2
     go_ret; exact FIN.out (by rw [Bool.eq_iff_iff]; simp [cellB]; omega)
    ·go_enter Tryz.func22, Tryz.ntmps22
     go_wp2
     go_ret; exact FIN.out (by rw [Bool.eq_iff_iff]; simp [cellB]; omega)
   ·go_enter Tryz.func22, Tryz.ntmps22
    go_wp2
    go_ret; exact FIN.out (by rw [Bool.eq_iff_iff]; simp [cellB]; omega)
  ·have t0 : (k == 0) = false := by simpa using k0
   have t1 : (k == 1) = false := by simpa using k1
   by_cases hm : 100 < m
   ·have hm' : (100 : Int) < m := by omega
    have HK : Hid (k ≠ 0 ∧ k ≠ 1) := ⟨k0, k1⟩
    clear k0 k1
    go_enter Tryz.func22, Tryz.ntmps22
    go_wp2
    go_ret; exact FIN.out (by have := HK.out; rw [Bool.eq_iff_iff]; simp [cellB]; omega)
   ·have hm' : ¬ (100 : Int) < m := by omega
    by_cases k2 : k = 2
    ·subst k2
     clear t0 t1 k0 k1
     go_enter Tryz.func22, Tryz.ntmps22
     go_wp2
     go_ret; exact FIN.out (by rw [Bool.eq_iff_iff]; simp [cellB]; omega)
    ·by_cases k3 : k = 3
     ·subst k3
      clear t0 t1 k0 k1 k2
      by_cases a : 1 ≤ n
      ·go_enter Tryz.func22, Tryz.ntmps22
       go_wp2
       go_ret; exact FIN.out (by rw [Bool.eq_iff_iff]; simp [cellB]; omega)
      ·go_enter Tryz.func22, Tryz.ntmps22
       go_wp2
       go_ret; exact FIN.out (by rw [Bool.eq_iff_iff]; simp [cellB]; omega)
     ·have t2 : (k == 2) = false := by simpa using k2
      have t3 : (k == 3) = false := by simpa using k3
      have HK : Hid (k ≠ 0 ∧ k ≠ 1 ∧ k ≠ 2 ∧ k ≠ 3) := ⟨k0, k1, k2, k3⟩
      clear k0 k1 k2 k3
      go_enter Tryz.func22, Tryz.ntmps22
      go_wp2
      go_ret; exact FIN.out (by have := HK.out; rw [Bool.eq_iff_iff]; simp [cellB]; omega)
end Go.Proofs.YtdmmchoicngblaaGreatDoor
