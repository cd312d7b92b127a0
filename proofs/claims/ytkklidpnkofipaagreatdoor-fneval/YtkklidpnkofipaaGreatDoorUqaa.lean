/- Texts of Copy, RowT, Own, CelA, CelB, CopyT, Sz, Cell1. Own work of the verifier. -/
import Derived.Test.YtkklidpnkofipaaGreatDoorPre
import Derived.Deep.AppendLies
import Derived.Deep.RegionHeld3
import Derived.Deep.Light
namespace Go.Proofs.YtkklidpnkofipaaGreatDoor
open Go Go.RowKit
set_option linter.unusedVariables false
theorem infoByte : (Tryz.prog.info? 5).map (fun i => (i.zero, i.size, i.bytes)) = some (some (.int .u8 0), 1, 1) := by kernel_rfl
def BIn (w : World) (p : Option Addr) (xs : List Int) : Prop :=
 0 < xs.length → ∃ b o, p = some ⟨b, o, none⟩ ∧ ∀ i, i < xs.length → w.cell? ⟨b, o + i, none⟩ = some (.int .u8 (xs.getD i 0))
theorem same_every {xs ys : List Int} (hl : xs.length = ys.length) (h : ∀ j, j < xs.length → xs.getD j 0 = ys.getD j 0) : xs = ys := by
 apply List.ext_getElem hl
 intro i h1 h2
 have := h i h1
 rwa [List.getD, List.getD, List.getElem?_eq_getElem h1, List.getElem?_eq_getElem h2] at this
def Row (W : World) (b : Nat) (xs : List Int) : Prop := b < W.heap.size ∧ ∀ i, i < xs.length → W.cell? ⟨b, i, none⟩ = some (.int .u8 (xs.getD i 0))
theorem Row.below {W W' : World} {b : Nat} {xs : List Int} (h : Row W b xs) (hb : Below W.heap.size W W') : Row W' b xs :=
 ⟨Nat.lt_of_lt_of_le h.1 hb.size, fun i hi => (hb.cell (p := ⟨b, i, none⟩) h.1).trans (h.2 i hi)⟩
theorem Row.bin {W : World} {b : Nat} {xs : List Int} (h : Row W b xs) : BIn W (some ⟨b, 0, none⟩) xs := fun _ => ⟨b, 0, rfl, fun i hi => by rw [Nat.zero_add]; exact h.2 i hi⟩
theorem row_of_owns {W : World} {B b c : Nat} {xs : List Int} (h : W.ownsRow B 5 1 (.slice (some ⟨b, 0, none⟩) xs.length c) xs.length (xs.map (Value.int .u8))) : Row W b xs := by
 refine ⟨?_, fun i hi => ?_⟩
 ·rcases h.2 with ⟨h', _⟩ | ⟨g', cap', cur, h', _, hg, _⟩
  ·simp at h'
  ·simp only [Value.slice.injEq, Option.some.injEq, Addr.mk.injEq, and_true, true_and] at h'
   obtain ⟨rfl, _⟩ := h'; exact (Array.getElem?_eq_some_iff.1 hg).1
 ·rw [h.cellAt i (by omega)]
  simp [List.getD, hi]
theorem BIn.below {W W' : World} {p : Option Addr} {xs : List Int} (h : BIn W p xs) (hb : Below W.heap.size W W') : BIn W' p xs := fun hn => by
 obtain ⟨b, o, rfl, hc⟩ := h hn; exact ⟨b, o, rfl, fun i hi => (hb.cell (World.block_lt_of_cell? _ _ (hc i hi))).trans (hc i hi)⟩
theorem below_drewN {B : Nat} {a w : World} (h : Below B a w) (n : Nat) : Below B a (w.drewN n) := h.trans ⟨rfl, rfl, rfl, Nat.le_refl _, fun _ _ => rfl⟩
theorem Below.on {w W W' : World} (h : Below w.heap.size w W) (k : Below W.heap.size W W') : Below w.heap.size w W' := h.trans (k.mono h.size)
def OwnS (w : World) (B : Nat) (p : Option Addr) (n c : Nat) (ys : List Int) : Prop := n = ys.length ∧ w.ownsRow B 5 1 (.slice p n c) n (ys.map (Value.int .u8))
theorem OwnS.len {w : World} {B : Nat} {p : Option Addr} {n c : Nat} {ys : List Int} (h : OwnS w B p n c ys) : n = ys.length := h.1
theorem OwnS.nil (w : World) (B : Nat) : OwnS w B none 0 0 [] := ⟨rfl, World.ownsRow_nil _ _ _ _⟩
theorem OwnS.bin {w : World} {B : Nat} {p : Option Addr} {n c : Nat} {ys : List Int} (h : OwnS w B p n c ys) : BIn w p ys := fun hn => by
 obtain ⟨rfl, hr⟩ := h; obtain ⟨g, cap, hv, hb, hg⟩ := hr.form hn; simp only [Value.slice.injEq, true_and] at hv; obtain ⟨rfl, rfl⟩ := hv; exact ⟨g, 0, rfl, fun i hi => by rw [Nat.zero_add, hr.cellAt i (by omega)]; simp [List.getD, hi]⟩
theorem OwnS.form {w : World} {B : Nat} {p : Option Addr} {n c : Nat} {ys : List Int} (h : OwnS w B p n c ys) : (p = none ∧ n = 0 ∧ c = 0) ∨ ∃ g, p = some ⟨g, 0, none⟩ ∧ B ≤ g ∧ g < w.heap.size := by
 obtain ⟨rfl, hr⟩ := h
 rcases hr.2 with ⟨hv, h0⟩ | ⟨g, cap, cur, hv, hb, hg, _⟩
 ·simp only [Value.slice.injEq] at hv
  exact .inl hv
 ·simp only [Value.slice.injEq, true_and] at hv
  exact .inr ⟨g, hv.1, hb, (Array.getElem?_eq_some_iff.1 hg).1⟩
theorem OwnS.below {w w' : World} {B : Nat} {p : Option Addr} {n c : Nat} {ys : List Int} (h : OwnS w B p n c ys) (hb : Below w.heap.size w w') : OwnS w' B p n c ys := by
 obtain ⟨rfl, hr⟩ := h; refine ⟨rfl, hr.1, ?_⟩
 rcases hr.2 with h' | ⟨g, cap, cur, hv, hB, hg, r⟩
 ·exact .inl h'
 ·exact .inr ⟨g, cap, cur, hv, hB, (hb.block g (Array.getElem?_eq_some_iff.1 hg).1).trans hg, r⟩
theorem OwnS.alloc {w : World} {B : Nat} {p : Option Addr} {n c : Nat} {ys : List Int} (h : OwnS w B p n c ys) (o : Obj) : OwnS (w.alloc o) B p n c ys := ⟨h.1, h.2.alloc o⟩
theorem OwnS.row {w : World} {B g n c : Nat} {ys : List Int} (h : OwnS w B (some ⟨g, 0, none⟩) n c ys) : Row w g ys := by obtain ⟨rfl, hr⟩ := h; exact row_of_owns hr
theorem oneCells (zs : List Int) : ∀ u ∈ zs.map (Value.int .u8), u.oneCell' = true := fun u hu => by
 obtain ⟨z, _, rfl⟩ := List.mem_map.1 hu; rfl
theorem app_bytes (w : World) {ops : Array Oper} {rest : List Oper} {o : Oper} {a : Act} {Q : Exit → Act → World → Prop} (hgd : o.guard = none) (s x : Operand)
  (ho : o.op = .call { callee := .builtin .append, args := #[s, x], argTypes := #[22, 22] }) (B : Nat) (p : Option Addr) (n c : Nat) (ys zs : List Int) (m : Nat) (hmz : m = zs.length)
  (hs : a.eval s = .slice p n c) (hown : OwnS w B p n c ys) (ad : Addr) (c' : Nat) (hx : a.eval x = .slice (some ad) m c') (hnews : ∀ j u, (zs.map (Value.int .u8))[j]? = some u → w.cell? (ad.add j) = some u)
  (hm : 0 < m) (hlen : n + m ≤ 1000000000000) (hbase : B ≤ w.heap.size)
  (h : ∀ g n' cap w', OwnS w' B (some ⟨g, 0, none⟩) n' cap (ys ++ zs) → Below B w w' → Hid (n' = n + m) → wpList Tryz.prog ops Q rest (a.put o.dst (.slice (some ⟨g, 0, none⟩) n' cap)) w') : wpList Tryz.prog ops Q (o :: rest) a w := by
 obtain ⟨i0, hi, hz0, hz1, hz2⟩ := info_parts infoByte; subst hmz; obtain ⟨rfl, hr⟩ := hown; refine wpList_append_lies w hgd s x 22 ho B 5 i0 (.int .u8 0) 1 1 Tryz.underlying22 hi hz0 hz1 hz2 rfl (by decide) (.slice p ys.length c) ys.length (ys.map (Value.int .u8)) hs hr ad zs.length c' (zs.map (Value.int .u8)) hx (by simp) hnews (oneCells zs) hm (by unfold maxLen; omega) (by omega) hbase w.heap.size rfl ?_
 intro g cap w' hown' hgrow hat hlt
 refine h g _ cap w' ⟨by simp, by rw [List.map_append]; exact hown'⟩ ((Below.refl _ _).grown hgrow hbase (fun k hk => ?_)) rfl
 rcases OwnS.form (ys := ys) ⟨rfl, hr⟩ with ⟨rfl, _⟩ | ⟨g', rfl, hB, _⟩
 ·simp [Value.ownBlock] at hk
 ·simp [Value.ownBlock] at hk; omega
abbrev Cel := Int × Int × List Int
def Cel.none : Cel := (0, 0, [])
theorem BIn.drewN {W : World} {p : Option Addr} {xs : List Int} (h : BIn W p xs) (m : Nat) : BIn (W.drewN m) p xs := h
def tl : List Cel → Nat
 | [] => 0
 | c :: r => c.2.2.length + tl r
theorem tl_take : ∀ (cs : List Cel) (k : Nat), k < cs.length → tl (cs.take (k + 1)) = tl (cs.take k) + (cs.getD k Cel.none).2.2.length
 | [], k, h => by simp at h
 | c :: r, 0, _ => by simp [tl]
 | c :: r, k + 1, h => by
   have := tl_take r k (by simpa using h); simp only [List.take_succ_cons, tl, this]
   simp; omega
theorem tl_take_le : ∀ (cs : List Cel) (k : Nat), tl (cs.take k) ≤ tl cs
 | [], k => by simp [tl]
 | c :: r, 0 => by simp [tl]
 | c :: r, k + 1 => by have := tl_take_le r k; simp only [List.take_succ_cons, tl]; omega
theorem tl_at (cs : List Cel) (k : Nat) (h : k < cs.length) : (cs.getD k Cel.none).2.2.length ≤ tl cs := by
 have := tl_take cs k h; have := tl_take_le cs (k + 1)
 omega
abbrev RC := Int × Int × Option Addr × Nat × Nat
def RC.zero : RC := (0, 0, none, 0, 0)
def OwnT (w : World) (B : Nat) (p : Option Addr) (n c : Nat) (ys : List Int) : Prop :=
 n = ys.length ∧ (0 < n → ∃ g, p = some ⟨g, 0, none⟩ ∧ B ≤ g ∧ g < w.heap.size ∧ ∀ i, i < n → w.cell? ⟨g, i, none⟩ = some (.int .u8 (ys.getD i 0)) ∧ w.frozen? ⟨g, i, none⟩ = false)
theorem OwnS.toT {w : World} {B : Nat} {p : Option Addr} {n c : Nat} {ys : List Int} (h : OwnS w B p n c ys) : OwnT w B p n c ys := by
 refine ⟨h.1, fun hn => ?_⟩
 rcases h.form with ⟨_, h0, _⟩ | ⟨g, rfl, hB, hlt⟩
 ·omega
 ·exact ⟨g, rfl, hB, hlt, fun i hi => ⟨h.row.2 i (by rw [← h.1]; exact hi), h.2.frozenAt i⟩⟩
theorem ne_block {g H n : Nat} (h : g ≠ H) : 0 < n → some (⟨g, 0, none⟩ : Addr) ≠ some ⟨H, 0, none⟩ := fun _ e => h (congrArg Addr.block (Option.some.inj e))
theorem OwnT.len {w : World} {B : Nat} {p : Option Addr} {n c : Nat} {ys : List Int} (h : OwnT w B p n c ys) : n = ys.length := h.1
theorem OwnT.bin {w : World} {B : Nat} {p : Option Addr} {n c : Nat} {ys : List Int} (h : OwnT w B p n c ys) : BIn w p ys := fun hn => by
 obtain ⟨rfl, h⟩ := h; obtain ⟨g, rfl, _, _, hc⟩ := h hn; exact ⟨g, 0, rfl, fun i hi => by rw [Nat.zero_add]; exact (hc i hi).1⟩
theorem OwnT.below {w w' : World} {B : Nat} {p : Option Addr} {n c : Nat} {ys : List Int} (h : OwnT w B p n c ys) (hb : Below w.heap.size w w') : OwnT w' B p n c ys := by
 refine ⟨h.1, fun hn => ?_⟩; obtain ⟨g, e, hB, hlt, hc⟩ := h.2 hn; exact ⟨g, e, hB, Nat.lt_of_lt_of_le hlt hb.size, fun i hi => ⟨(hb.cell (p := ⟨g, i, none⟩) hlt).trans (hc i hi).1, (hb.frozen (p := ⟨g, i, none⟩) hlt).trans (hc i hi).2⟩⟩
theorem OwnT.mono {w : World} {B B' : Nat} {p : Option Addr} {n c : Nat} {ys : List Int} (h : OwnT w B p n c ys) (hB : B' ≤ B) : OwnT w B' p n c ys := by
 refine ⟨h.1, fun hn => ?_⟩; obtain ⟨g, e, hB', r⟩ := h.2 hn; exact ⟨g, e, Nat.le_trans hB hB', r⟩
theorem OwnT.other {w w' : World} {B : Nat} {p : Option Addr} {n c : Nat} {ys : List Int} (h : OwnT w B p n c ys) (hs : w.heap.size ≤ w'.heap.size) (ho : ∀ g, 0 < n → p = some ⟨g, 0, none⟩ → w'.heap[g]? = w.heap[g]?) : OwnT w' B p n c ys := by
 refine ⟨h.1, fun hn => ?_⟩; obtain ⟨g, e, hB, hlt, hc⟩ := h.2 hn; have e' := ho g hn e; exact ⟨g, e, hB, Nat.lt_of_lt_of_le hlt hs, fun i hi => ⟨(World.cell?_of_block (w := w) e').trans (hc i hi).1, (World.frozen?_of_block (w := w) e').trans (hc i hi).2⟩⟩
theorem OwnT.setCell {w : World} {B : Nat} {p : Option Addr} {n c : Nat} {ys : List Int} (h : OwnT w B p n c ys) {a : Addr} (ha : 0 < n → p ≠ some ⟨a.block, 0, none⟩) (u : Value) : OwnT (w.setCell a u) B p n c ys :=
 h.other (by simp) (fun g hn e => Below.heap_setCell _ _ _ _ (fun e' => ha hn (by rw [e, e'])))
def Fits (w : World) (B : Nat) (r : RC) (c : Cel) : Prop := r.1 = c.1 ∧ r.2.1 = c.2.1 ∧ OwnT w B r.2.2.1 r.2.2.2.1 r.2.2.2.2 c.2.2
def ApartC (p : Option Addr) (rs : List RC) : Prop :=
 (∀ i, i < rs.length → 0 < (rs.getD i RC.zero).2.2.2.1 → (rs.getD i RC.zero).2.2.1 ≠ p) ∧
 (∀ i j, i < rs.length → j < rs.length → i ≠ j → 0 < (rs.getD i RC.zero).2.2.2.1 → 0 < (rs.getD j RC.zero).2.2.2.1 → (rs.getD i RC.zero).2.2.1 ≠ (rs.getD j RC.zero).2.2.1)
theorem ownsRow_down {w : World} {B B' : Nat} {e : TypeId} {size : Nat} {v : Value} {n : Nat} {xs : List Value} (h : w.ownsRow B e size v n xs) (hB : B' ≤ B) : w.ownsRow B' e size v n xs := by
 refine ⟨h.1, ?_⟩
 rcases h.2 with h' | ⟨g, cap, cur, hv, hb, r⟩
 ·exact .inl h'
 ·exact .inr ⟨g, cap, cur, hv, Nat.le_trans hB hb, r⟩
theorem OwnS.mono {w : World} {B B' : Nat} {p : Option Addr} {n c : Nat} {ys : List Int} (h : OwnS w B p n c ys) (hB : B' ≤ B) : OwnS w B' p n c ys := ⟨h.1, ownsRow_down h.2 hB⟩
theorem OwnS.setCell {w : World} {B : Nat} {g n c : Nat} {ys : List Int} (h : OwnS w B (some ⟨g, 0, none⟩) n c ys) {a : Addr} (ha : a.block ≠ g) (u : Value) : OwnS (w.setCell a u) B (some ⟨g, 0, none⟩) n c ys :=
 ⟨h.1, ownsRow_setCell_other h.2 (by simp [Value.ownBlock]; exact fun e => ha e.symm) u⟩
def Box3 (w : World) (b : Nat) (v0 v1 v2 : Value) : Prop := w.cell? ⟨b, 0, none⟩ = some v0 ∧ w.cell? ⟨b, 1, none⟩ = some v1 ∧ w.cell? ⟨b, 2, none⟩ = some v2 ∧ ∀ j, w.frozen? ⟨b, j, none⟩ = false
theorem Box3.of_block {w : World} {b : Nat} {v0 v1 v2 : Value} {t : TypeId} (h : w.heap[b]? = some (.cells #[v0, v1, v2] t)) : Box3 w b v0 v1 v2 :=
 ⟨by simp [World.cell?, h], by simp [World.cell?, h], by simp [World.cell?, h], fun j => frozen_of_row w b j _ t h⟩
theorem rs_set_at (rs : List RC) (i j : Nat) (r : RC) (h : i < rs.length) : (rs.set i r).getD j RC.zero = if j = i then r else rs.getD j RC.zero := by
 simp only [List.getD, List.getElem?_set]
 by_cases e : j = i
 ·subst e; simp [h]
 ·have : ¬ i = j := fun x => e x.symm
  simp [this, e]
theorem same_cells {xs ys : List Cel} (hl : xs.length = ys.length) (h : ∀ j, j < xs.length → xs.getD j Cel.none = ys.getD j Cel.none) : xs = ys := by
 apply List.ext_getElem hl
 intro i h1 h2
 have := h i h1
 rwa [List.getD, List.getD, List.getElem?_eq_getElem h1, List.getElem?_eq_getElem h2] at this
theorem rs_append_at (rs : List RC) (r : RC) (i : Nat) (h : i ≤ rs.length) : (rs ++ [r]).getD i RC.zero = if i = rs.length then r else rs.getD i RC.zero := by
 by_cases e : i = rs.length
 ·subst e; simp [List.getD]
 ·rw [if_neg e, List.getD, List.getD, List.getElem?_append_left (by omega)]
theorem cs_append_at (cs : List Cel) (c : Cel) (i : Nat) (h : i ≤ cs.length) : (cs ++ [c]).getD i Cel.none = if i = cs.length then c else cs.getD i Cel.none := by
 by_cases e : i = cs.length
 ·subst e; simp [List.getD]
 ·rw [if_neg e, List.getD, List.getD, List.getElem?_append_left (by omega)]
theorem row_below {B : Nat} {t : TypeId} {size n : Nat} {v : Value} {w w' : World} {xs : List Value} (h : w.ownsRow B t size v n xs) (hb : Below w.heap.size w w') : w'.ownsRow B t size v n xs := by
 refine ⟨h.1, ?_⟩
 rcases h.2 with h' | ⟨g, cap, cur, hv, hB, hg, r⟩
 ·exact .inl h'
 ·exact .inr ⟨g, cap, cur, hv, hB, (hb.block g (Array.getElem?_eq_some_iff.1 hg).1).trans hg, r⟩
theorem Box3.below {w w' : World} {b : Nat} {u0 u1 u2 : Value} (h : Box3 w b u0 u1 u2) (hb : Below w.heap.size w w') (hlt : b < w.heap.size) : Box3 w' b u0 u1 u2 :=
 ⟨(hb.cell (p := ⟨b, 0, none⟩) hlt).trans h.1, (hb.cell (p := ⟨b, 1, none⟩) hlt).trans h.2.1, (hb.cell (p := ⟨b, 2, none⟩) hlt).trans h.2.2.1, fun j => (hb.frozen (p := ⟨b, j, none⟩) hlt).trans (h.2.2.2 j)⟩
theorem Box3.setCell {w : World} {b : Nat} {u0 u1 u2 : Value} (h : Box3 w b u0 u1 u2) {a : Addr} (ha : a.block ≠ b) (u : Value) : Box3 (w.setCell a u) b u0 u1 u2 :=
 have o : ∀ j, (w.setCell a u).cell? ⟨b, j, none⟩ = w.cell? ⟨b, j, none⟩ := fun j => World.cell?_setCell_other _ _ _ _ (fun e => ha (by rw [e]))
 ⟨(o 0).trans h.1, (o 1).trans h.2.1, (o 2).trans h.2.2.1, fun j => by rw [World.frozen?_setCell]; exact h.2.2.2 j⟩
def CAt (w : World) (b o : Nat) (c : Cel) : Prop :=
 ∃ p cap, w.cell? ⟨b, o, none⟩ = some (.int .i64 c.1) ∧ w.cell? ⟨b, o + 1, none⟩ = some (.int .i64 c.2.1) ∧ w.cell? ⟨b, o + 2, none⟩ = some (.slice p c.2.2.length cap) ∧ BIn w p c.2.2
def CIn (w : World) (p : Option Addr) (cs : List Cel) : Prop :=
 0 < cs.length → ∃ b o, p = some ⟨b, o, none⟩ ∧ ∀ i, i < cs.length → CAt w b (o + i * 3) (cs.getD i Cel.none)
theorem CAt.below {W W' : World} {b o : Nat} {c : Cel} (h : CAt W b o c) (hb : Below W.heap.size W W') : CAt W' b o c := by
 obtain ⟨p, cap, h0, h1, h2, h3⟩ := h; exact ⟨p, cap, (hb.cell (World.block_lt_of_cell? _ _ h0)).trans h0, (hb.cell (World.block_lt_of_cell? _ _ h1)).trans h1, (hb.cell (World.block_lt_of_cell? _ _ h2)).trans h2, h3.below hb⟩
theorem CIn.below {W W' : World} {p : Option Addr} {cs : List Cel} (h : CIn W p cs) (hb : Below W.heap.size W W') : CIn W' p cs := fun hn => by
 obtain ⟨b, o, rfl, hc⟩ := h hn; exact ⟨b, o, rfl, fun i hi => (hc i hi).below hb⟩
theorem CIn.drewN {W : World} {p : Option Addr} {cs : List Cel} (h : CIn W p cs) (m : Nat) : CIn (W.drewN m) p cs := h
end Go.Proofs.YtkklidpnkofipaaGreatDoor
