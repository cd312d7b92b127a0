/- Texts of CelA, CelB, Str0, WiC. Own work of the verifier. -/
import Derived.Test.YtfgmenkoeflhaaaGreatDoorUqad
import Derived.Lib.ConvBytes
import Derived.Lib.AppendStr
namespace Go.Proofs.YtfgmenkoeflhaaaGreatDoor
open Go Go.RowKit
set_option linter.unusedVariables false
abbrev Cel := Int × Int × List Int
def Cel.none : Cel := (0, 0, [])
theorem BIn.drewN {W : World} {p : Option Addr} {xs : List Int} (h : BIn W p xs) (m : Nat) : BIn (W.drewN m) p xs := h
def tl : List Cel → Nat
 | [] => 0
 | c :: r => c.2.2.length + tl r
theorem tl_take : ∀ (cs : List Cel) (k : Nat), k < cs.length → tl (cs.take (k + 1)) = tl (cs.take k) + (cs.getD k Cel.none).2.2.length
 | [], k, h => by simp at h
 | c :: r, 0, _ => by simp [tl]
 | c :: r, k + 1, h => by
   have := tl_take r k (by simpa using h); simp only [List.take_succ_cons, tl, this]
   simp; omega
theorem tl_take_le : ∀ (cs : List Cel) (k : Nat), tl (cs.take k) ≤ tl cs
 | [], k => by simp [tl]
 | c :: r, 0 => by simp [tl]
 | c :: r, k + 1 => by have := tl_take_le r k; simp only [List.take_succ_cons, tl]; omega
theorem tl_at (cs : List Cel) (k : Nat) (h : k < cs.length) : (cs.getD k Cel.none).2.2.length ≤ tl cs := by
 have := tl_take cs k h; have := tl_take_le cs (k + 1)
 omega
abbrev RC := Int × Int × Option Addr × Nat × Nat
def RC.zero : RC := (0, 0, none, 0, 0)
def OwnT (w : World) (B : Nat) (p : Option Addr) (n c : Nat) (ys : List Int) : Prop :=
 n = ys.length ∧ (0 < n → ∃ g, p = some ⟨g, 0, none⟩ ∧ B ≤ g ∧ g < w.heap.size ∧ ∀ i, i < n → w.cell? ⟨g, i, none⟩ = some (.int .u8 (ys.getD i 0)) ∧ w.frozen? ⟨g, i, none⟩ = false)
theorem OwnS.toT {w : World} {B : Nat} {p : Option Addr} {n c : Nat} {ys : List Int} (h : OwnS w B p n c ys) : OwnT w B p n c ys := by
 refine ⟨h.1, fun hn => ?_⟩
 rcases h.form with ⟨_, h0, _⟩ | ⟨g, rfl, hB, hlt⟩
 ·omega
 ·exact ⟨g, rfl, hB, hlt, fun i hi => ⟨h.row.2 i (by rw [← h.1]; exact hi), h.2.frozenAt i⟩⟩
theorem ne_block {g H n : Nat} (h : g ≠ H) : 0 < n → some (⟨g, 0, none⟩ : Addr) ≠ some ⟨H, 0, none⟩ := fun _ e => h (congrArg Addr.block (Option.some.inj e))
theorem OwnT.len {w : World} {B : Nat} {p : Option Addr} {n c : Nat} {ys : List Int} (h : OwnT w B p n c ys) : n = ys.length := h.1
theorem OwnT.bin {w : World} {B : Nat} {p : Option Addr} {n c : Nat} {ys : List Int} (h : OwnT w B p n c ys) : BIn w p ys := fun hn => by
 obtain ⟨rfl, h⟩ := h; obtain ⟨g, rfl, _, _, hc⟩ := h hn; exact ⟨g, 0, rfl, fun i hi => by rw [Nat.zero_add]; exact (hc i hi).1⟩
theorem OwnT.below {w w' : World} {B : Nat} {p : Option Addr} {n c : Nat} {ys : List Int} (h : OwnT w B p n c ys) (hb : Below w.heap.size w w') : OwnT w' B p n c ys := by
 refine ⟨h.1, fun hn => ?_⟩; obtain ⟨g, e, hB, hlt, hc⟩ := h.2 hn; exact ⟨g, e, hB, Nat.lt_of_lt_of_le hlt hb.size, fun i hi => ⟨(hb.cell (p := ⟨g, i, none⟩) hlt).trans (hc i hi).1, (hb.frozen (p := ⟨g, i, none⟩) hlt).trans (hc i hi).2⟩⟩
theorem OwnT.mono {w : World} {B B' : Nat} {p : Option Addr} {n c : Nat} {ys : List Int} (h : OwnT w B p n c ys) (hB : B' ≤ B) : OwnT w B' p n c ys := by
 refine ⟨h.1, fun hn => ?_⟩; obtain ⟨g, e, hB', r⟩ := h.2 hn; exact ⟨g, e, Nat.le_trans hB hB', r⟩
theorem OwnT.other {w w' : World} {B : Nat} {p : Option Addr} {n c : Nat} {ys : List Int} (h : OwnT w B p n c ys) (hs : w.heap.size ≤ w'.heap.size) (ho : ∀ g, 0 < n → p = some ⟨g, 0, none⟩ → w'.heap[g]? = w.heap[g]?) : OwnT w' B p n c ys := by
 refine ⟨h.1, fun hn => ?_⟩; obtain ⟨g, e, hB, hlt, hc⟩ := h.2 hn; have e' := ho g hn e; exact ⟨g, e, hB, Nat.lt_of_lt_of_le hlt hs, fun i hi => ⟨(World.cell?_of_block (w := w) e').trans (hc i hi).1, (World.frozen?_of_block (w := w) e').trans (hc i hi).2⟩⟩
theorem OwnT.setCell {w : World} {B : Nat} {p : Option Addr} {n c : Nat} {ys : List Int} (h : OwnT w B p n c ys) {a : Addr} (ha : 0 < n → p ≠ some ⟨a.block, 0, none⟩) (u : Value) : OwnT (w.setCell a u) B p n c ys :=
 h.other (by simp) (fun g hn e => Below.heap_setCell _ _ _ _ (fun e' => ha hn (by rw [e, e'])))
def Fits (w : World) (B : Nat) (r : RC) (c : Cel) : Prop := r.1 = c.1 ∧ r.2.1 = c.2.1 ∧ OwnT w B r.2.2.1 r.2.2.2.1 r.2.2.2.2 c.2.2
def ApartC (p : Option Addr) (rs : List RC) : Prop :=
 (∀ i, i < rs.length → 0 < (rs.getD i RC.zero).2.2.2.1 → (rs.getD i RC.zero).2.2.1 ≠ p) ∧
 (∀ i j, i < rs.length → j < rs.length → i ≠ j → 0 < (rs.getD i RC.zero).2.2.2.1 → 0 < (rs.getD j RC.zero).2.2.2.1 → (rs.getD i RC.zero).2.2.1 ≠ (rs.getD j RC.zero).2.2.1)
theorem ownsRow_down {w : World} {B B' : Nat} {e : TypeId} {size : Nat} {v : Value} {n : Nat} {xs : List Value} (h : w.ownsRow B e size v n xs) (hB : B' ≤ B) : w.ownsRow B' e size v n xs := by
 refine ⟨h.1, ?_⟩
 rcases h.2 with h' | ⟨g, cap, cur, hv, hb, r⟩
 ·exact .inl h'
 ·exact .inr ⟨g, cap, cur, hv, Nat.le_trans hB hb, r⟩
theorem OwnS.mono {w : World} {B B' : Nat} {p : Option Addr} {n c : Nat} {ys : List Int} (h : OwnS w B p n c ys) (hB : B' ≤ B) : OwnS w B' p n c ys := ⟨h.1, ownsRow_down h.2 hB⟩
theorem OwnS.setCell {w : World} {B : Nat} {g n c : Nat} {ys : List Int} (h : OwnS w B (some ⟨g, 0, none⟩) n c ys) {a : Addr} (ha : a.block ≠ g) (u : Value) : OwnS (w.setCell a u) B (some ⟨g, 0, none⟩) n c ys :=
 ⟨h.1, ownsRow_setCell_other h.2 (by simp [Value.ownBlock]; exact fun e => ha e.symm) u⟩
def Box3 (w : World) (b : Nat) (v0 v1 v2 : Value) : Prop := w.cell? ⟨b, 0, none⟩ = some v0 ∧ w.cell? ⟨b, 1, none⟩ = some v1 ∧ w.cell? ⟨b, 2, none⟩ = some v2 ∧ ∀ j, w.frozen? ⟨b, j, none⟩ = false
theorem Box3.of_block {w : World} {b : Nat} {v0 v1 v2 : Value} {t : TypeId} (h : w.heap[b]? = some (.cells #[v0, v1, v2] t)) : Box3 w b v0 v1 v2 :=
 ⟨by simp [World.cell?, h], by simp [World.cell?, h], by simp [World.cell?, h], fun j => frozen_of_row w b j _ t h⟩
theorem rs_set_at (rs : List RC) (i j : Nat) (r : RC) (h : i < rs.length) : (rs.set i r).getD j RC.zero = if j = i then r else rs.getD j RC.zero := by
 simp only [List.getD, List.getElem?_set]
 by_cases e : j = i
 ·subst e; simp [h]
 ·have : ¬ i = j := fun x => e x.symm
  simp [this, e]
theorem rs_append_at (rs : List RC) (r : RC) (i : Nat) (h : i ≤ rs.length) : (rs ++ [r]).getD i RC.zero = if i = rs.length then r else rs.getD i RC.zero := by
 by_cases e : i = rs.length
 ·subst e; simp [List.getD]
 ·rw [if_neg e, List.getD, List.getD, List.getElem?_append_left (by omega)]
theorem cs_append_at (cs : List Cel) (c : Cel) (i : Nat) (h : i ≤ cs.length) : (cs ++ [c]).getD i Cel.none = if i = cs.length then c else cs.getD i Cel.none := by
 by_cases e : i = cs.length
 ·subst e; simp [List.getD]
 ·rw [if_neg e, List.getD, List.getD, List.getElem?_append_left (by omega)]
theorem row_below {B : Nat} {t : TypeId} {size n : Nat} {v : Value} {w w' : World} {xs : List Value} (h : w.ownsRow B t size v n xs) (hb : Below w.heap.size w w') : w'.ownsRow B t size v n xs := by
 refine ⟨h.1, ?_⟩
 rcases h.2 with h' | ⟨g, cap, cur, hv, hB, hg, r⟩
 ·exact .inl h'
 ·exact .inr ⟨g, cap, cur, hv, hB, (hb.block g (Array.getElem?_eq_some_iff.1 hg).1).trans hg, r⟩
theorem Box3.below {w w' : World} {b : Nat} {u0 u1 u2 : Value} (h : Box3 w b u0 u1 u2) (hb : Below w.heap.size w w') (hlt : b < w.heap.size) : Box3 w' b u0 u1 u2 :=
 ⟨(hb.cell (p := ⟨b, 0, none⟩) hlt).trans h.1, (hb.cell (p := ⟨b, 1, none⟩) hlt).trans h.2.1, (hb.cell (p := ⟨b, 2, none⟩) hlt).trans h.2.2.1, fun j => (hb.frozen (p := ⟨b, j, none⟩) hlt).trans (h.2.2.2 j)⟩
theorem Box3.setCell {w : World} {b : Nat} {u0 u1 u2 : Value} (h : Box3 w b u0 u1 u2) {a : Addr} (ha : a.block ≠ b) (u : Value) : Box3 (w.setCell a u) b u0 u1 u2 :=
 have o : ∀ j, (w.setCell a u).cell? ⟨b, j, none⟩ = w.cell? ⟨b, j, none⟩ := fun j => World.cell?_setCell_other _ _ _ _ (fun e => ha (by rw [e]))
 ⟨(o 0).trans h.1, (o 1).trans h.2.1, (o 2).trans h.2.2.1, fun j => by rw [World.frozen?_setCell]; exact h.2.2.2 j⟩
def Byte (xs : List Int) : Prop := ∀ x ∈ xs, 0 ≤ x ∧ x < 256
theorem u8_of {x : Int} (h0 : 0 ≤ x) (h1 : x < 256) : ((UInt8.ofNat x.toNat).toNat : Int) = x := by
 simp only [UInt8.toNat_ofNat']; omega
theorem str_list {xs : List Int} : (strOfNums xs).toList = xs.map fun n => UInt8.ofNat n.toNat := by
 rw [ByteArray.toList_eq]; rfl
theorem map_back : ∀ {xs : List Int}, Byte xs → (xs.map fun n => UInt8.ofNat n.toNat).map (fun u => (u.toNat : Int)) = xs
 | [], _ => rfl
 | x :: r, h => by
   have hx := h x (List.mem_cons_self ..); simp only [List.map_cons]; rw [u8_of hx.1 hx.2, map_back (fun y hy => h y (List.mem_cons_of_mem _ hy))]
theorem map_forth (l : List UInt8) : ((l.map (fun u => (u.toNat : Int))).map fun n => UInt8.ofNat n.toNat) = l := by
 induction l with
 | nil => rfl
 | cons a r ih => simp only [List.map_cons, ih]; simp
theorem str_eq {xs : List Int} (hb : Byte xs) (l : List UInt8) : (strOfNums xs).toList = l ↔ xs = l.map (fun u => (u.toNat : Int)) := by
 rw [str_list]
 constructor
 ·intro h; rw [← h, map_back hb]
 ·intro h; rw [h, map_forth]
theorem conv_str {w : World} {p : Option Addr} {xs : List Int} (h : BIn w p xs) (m cap : Nat) (hm : m = xs.length) (dst : TypeId) (hd : Tryz.prog.underlying dst = some .string) :
 (convert 22 dst (.slice p m cap)).run Tryz.prog w = .ok (.string (strOfNums xs)) w := by
 subst hm
 by_cases hn : 0 < xs.length
 ·obtain ⟨b, o, rfl, hc⟩ := h hn
  exact run_convert_bytes_arg w 22 5 Tryz.underlying22 Tryz.underlying5 b o xs.length cap xs rfl hc dst hd
 ·obtain rfl : xs = [] := by cases xs with | nil => rfl | cons a r => simp at hn
  rw [run_convert_bytes_string w 22 dst 5 _ _ cap Tryz.underlying22 Tryz.underlying5 hd]
  cases p with
  | none => simp [Conv.bytesToString, strOfNums]; rfl
  | some a => simp [Conv.bytesToString, strOfNums]; rfl
theorem conv_bytes (w : World) (xs : List Int) (hx : Byte xs) (src : TypeId) (hsrc : Tryz.prog.underlying src = some .string) :
 ∃ w' cap, (convert src 22 (.string (strOfNums xs))).run Tryz.prog w = .ok (.slice (some ⟨w.heap.size, 0, none⟩) xs.length cap) w' ∧ Below w.heap.size w w' ∧ OwnT w' w.heap.size (some ⟨w.heap.size, 0, none⟩) xs.length cap xs := by
 refine ⟨Lib.bytesWorld w 5 (strOfNums xs), grownCap w (strOfNums xs).size 0 5, ?_, ?_, rfl, fun hn => ⟨w.heap.size, rfl, Nat.le_refl _, ?_, fun i hi => ⟨?_, ?_⟩⟩⟩
 ·rw [Lib.run_convert_string_bytes w src 22 5 (strOfNums xs) hsrc Tryz.underlying22 Tryz.underlying5, strOfNums_size]
 ·exact ⟨rfl, rfl, rfl, by rw [Lib.bytesWorld_size]; omega, fun k hk => Lib.bytesWorld_at_old w 5 _ k hk⟩
 ·rw [Lib.bytesWorld_size]; omega
 ·rw [Lib.bytesWorld_cell w 5 _ i (by rw [strOfNums_size]; exact hi), strOfNums_data]
  have hb := hx (xs.getD i 0) (by simp [List.getD, hi])
  have e : (((xs.map fun n => UInt8.ofNat n.toNat).getD i 0).toNat : Int) = xs.getD i 0 := by
   simp only [List.getD, List.getElem?_map, List.getElem?_eq_getElem hi, Option.map_some, Option.getD_some] at hb ⊢; simp only [UInt8.toNat_ofNat']; omega
  rw [e]
 ·have hc : i < (Lib.bytesCells w 5 (strOfNums xs)).size := by
   have : (strOfNums xs).data.size = xs.length := strOfNums_size xs; simp only [Lib.bytesCells, Array.size_append, Array.size_map, this]; omega
  simp only [World.frozen?, Lib.bytesWorld_at_new]
  simp; omega
theorem drop_at (cs : List Cel) (k : Nat) (h : k < cs.length) : cs.drop k = cs.getD k Cel.none :: cs.drop (k + 1) := by
 rw [List.drop_eq_getElem_cons h]
 congr 1
 rw [List.getD, List.getElem?_eq_getElem h]; rfl
theorem bl_irrefl : ∀ a : List UInt8, Op.bytesLess a a = false
 | [] => by simp [Op.bytesLess]
 | a :: r => by simp [Op.bytesLess, bl_irrefl r]
theorem u8_lt (a b : UInt8) : a < b ↔ a.toNat < b.toNat := UInt8.lt_iff_toNat_lt
theorem u8_eq (a b : UInt8) : a = b ↔ a.toNat = b.toNat := UInt8.toNat_inj.symm
theorem bl_trans : ∀ a b c : List UInt8, Op.bytesLess a b = true → Op.bytesLess b c = true → Op.bytesLess a c = true
 | _, [], _, h, _ => by simp [Op.bytesLess] at h
 | _, _ :: _, [], _, h => by simp [Op.bytesLess] at h
 | [], _ :: _, _ :: _, _, _ => by simp [Op.bytesLess]
 | a :: x, b :: y, c :: z, h1, h2 => by
   simp only [Op.bytesLess, Bool.or_eq_true, decide_eq_true_eq, Bool.and_eq_true, beq_iff_eq] at h1 h2 ⊢; have ih := bl_trans x y z; rw [u8_lt, u8_eq] at *
   rcases h1 with h1 | ⟨h1, h1'⟩ <;> rcases h2 with h2 | ⟨h2, h2'⟩
   ·left; omega
   ·left; omega
   ·left; omega
   ·right; exact ⟨by omega, ih h1' h2'⟩
theorem bl_tri : ∀ a b : List UInt8, Op.bytesLess a b = false → a ≠ b → Op.bytesLess b a = true
 | [], [], _, h => absurd rfl h
 | [], _ :: _, h, _ => by simp [Op.bytesLess] at h
 | _ :: _, [], _, _ => by simp [Op.bytesLess]
 | a :: x, b :: y, h, hne => by
   simp only [Op.bytesLess, Bool.or_eq_false_iff, decide_eq_false_iff_not, Bool.and_eq_false_iff] at h; simp only [Op.bytesLess, Bool.or_eq_true, decide_eq_true_eq, Bool.and_eq_true, beq_iff_eq]
   by_cases e : a = b
   ·subst e
    right
    refine ⟨rfl, bl_tri x y ?_ (fun e => hne (by rw [e]))⟩
    rcases h.2 with h2 | h2
    ·simp at h2
    ·exact h2
   ·left
    have h1 := h.1; rw [u8_lt] at h1 ⊢; rw [u8_eq] at e
    omega
theorem ba_ext {a b : ByteArray} (h : a.toList = b.toList) : a = b := by
 rw [ByteArray.toList_eq, ByteArray.toList_eq] at h
 cases a; cases b; simpa using h
def cmpI (x y : Int) : Int := if x < y then -1 else if y < x then 1 else 0
def cmpS (x y : ByteArray) : Int := if Op.bytesLess x.toList y.toList then -1 else if x.toList == y.toList then 0 else 1
theorem str_cells {zs : List Int} (h : Byte zs) : Lib.strCells (strOfNums zs) = zs.map (Value.int .u8) := by
 unfold Lib.strCells strOfNums
 simp only [List.map_map]
 apply List.map_congr_left
 intro x hx
 have := h x hx; simp only [Function.comp_apply]
 congr 1
 simp
 omega
end Go.Proofs.YtfgmenkoeflhaaaGreatDoor
