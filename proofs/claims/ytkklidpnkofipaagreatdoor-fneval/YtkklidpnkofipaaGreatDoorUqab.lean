/- Texts of Str0, Cell2, Cell3, IsC, Valid1, Valid2, Tree1. Own work of the verifier. -/
import Derived.Test.YtkklidpnkofipaaGreatDoorUqaa
import Derived.Laws.BytesArg
import Derived.Lib.SlBytesConst
import Derived.Lib.ConvBytes
import Derived.WideShapes
import Derived.Deep.RegionWith
namespace Go.Proofs.YtkklidpnkofipaaGreatDoor
open Go Go.RowKit
set_option linter.unusedVariables false
def Byte (xs : List Int) : Prop := ∀ x ∈ xs, 0 ≤ x ∧ x < 256
theorem u8_of {x : Int} (h0 : 0 ≤ x) (h1 : x < 256) : ((UInt8.ofNat x.toNat).toNat : Int) = x := by
 simp only [UInt8.toNat_ofNat']; omega
theorem str_list {xs : List Int} : (strOfNums xs).toList = xs.map fun n => UInt8.ofNat n.toNat := by
 rw [ByteArray.toList_eq]; rfl
theorem map_back : ∀ {xs : List Int}, Byte xs → (xs.map fun n => UInt8.ofNat n.toNat).map (fun u => (u.toNat : Int)) = xs
 | [], _ => rfl
 | x :: r, h => by
   have hx := h x (List.mem_cons_self ..); simp only [List.map_cons]; rw [u8_of hx.1 hx.2, map_back (fun y hy => h y (List.mem_cons_of_mem _ hy))]
theorem map_forth (l : List UInt8) : ((l.map (fun u => (u.toNat : Int))).map fun n => UInt8.ofNat n.toNat) = l := by
 induction l with
 | nil => rfl
 | cons a r ih => simp only [List.map_cons, ih]; simp
theorem str_eq {xs : List Int} (hb : Byte xs) (l : List UInt8) : (strOfNums xs).toList = l ↔ xs = l.map (fun u => (u.toNat : Int)) := by
 rw [str_list]
 constructor
 ·intro h; rw [← h, map_back hb]
 ·intro h; rw [h, map_forth]
theorem str_beq {xs : List Int} (hb : Byte xs) (l : List UInt8) : (strOfNums xs == (⟨l.toArray⟩ : ByteArray)) = decide (xs = l.map (fun u => (u.toNat : Int))) := by
 have e : (strOfNums xs == (⟨l.toArray⟩ : ByteArray)) = ((strOfNums xs).data == l.toArray) := rfl; rw [e, Bool.eq_iff_iff, beq_iff_eq, decide_eq_true_iff, ← str_eq hb, ByteArray.toList_eq]
 constructor
 ·intro h; rw [h]
 ·intro h; rw [← h]
theorem conv_str {w : World} {p : Option Addr} {xs : List Int} (h : BIn w p xs) (m cap : Nat) (hm : m = xs.length) (dst : TypeId) (hd : Tryz.prog.underlying dst = some .string) :
  (convert 22 dst (.slice p m cap)).run Tryz.prog w = .ok (.string (strOfNums xs)) w := by
 subst hm
 by_cases hn : 0 < xs.length
 ·obtain ⟨b, o, rfl, hc⟩ := h hn
  exact run_convert_bytes_arg w 22 5 Tryz.underlying22 Tryz.underlying5 b o xs.length cap xs rfl hc dst hd
 ·obtain rfl : xs = [] := by cases xs with | nil => rfl | cons a r => simp at hn
  rw [run_convert_bytes_string w 22 dst 5 _ _ cap Tryz.underlying22 Tryz.underlying5 hd]
  cases p with
  | none => simp [Conv.bytesToString, strOfNums]; rfl
  | some a => simp [Conv.bytesToString, strOfNums]; rfl
theorem conv_bytes (w : World) (xs : List Int) (hx : Byte xs) (src : TypeId) (hsrc : Tryz.prog.underlying src = some .string) :
  ∃ w' cap, (convert src 22 (.string (strOfNums xs))).run Tryz.prog w = .ok (.slice (some ⟨w.heap.size, 0, none⟩) xs.length cap) w' ∧ Below w.heap.size w w' ∧ OwnT w' w.heap.size (some ⟨w.heap.size, 0, none⟩) xs.length cap xs := by
 refine ⟨Lib.bytesWorld w 5 (strOfNums xs), grownCap w (strOfNums xs).size 0 5, ?_, ?_, rfl, fun hn => ⟨w.heap.size, rfl, Nat.le_refl _, ?_, fun i hi => ⟨?_, ?_⟩⟩⟩
 ·rw [Lib.run_convert_string_bytes w src 22 5 (strOfNums xs) hsrc Tryz.underlying22 Tryz.underlying5, strOfNums_size]
 ·exact ⟨rfl, rfl, rfl, by rw [Lib.bytesWorld_size]; omega, fun k hk => Lib.bytesWorld_at_old w 5 _ k hk⟩
 ·rw [Lib.bytesWorld_size]; omega
 ·rw [Lib.bytesWorld_cell w 5 _ i (by rw [strOfNums_size]; exact hi), strOfNums_data]
  have hb := hx (xs.getD i 0) (by simp [List.getD, hi])
  have e : (((xs.map fun n => UInt8.ofNat n.toNat).getD i 0).toNat : Int) = xs.getD i 0 := by
   simp only [List.getD, List.getElem?_map, List.getElem?_eq_getElem hi, Option.map_some, Option.getD_some] at hb ⊢; simp only [UInt8.toNat_ofNat']; omega
  rw [e]
 ·have hc : i < (Lib.bytesCells w 5 (strOfNums xs)).size := by
   have : (strOfNums xs).data.size = xs.length := strOfNums_size xs; simp only [Lib.bytesCells, Array.size_append, Array.size_map, this]; omega
  simp only [World.frozen?, Lib.bytesWorld_at_new]
  simp; omega
theorem drop_at (cs : List Cel) (k : Nat) (h : k < cs.length) : cs.drop k = cs.getD k Cel.none :: cs.drop (k + 1) := by
 rw [List.drop_eq_getElem_cons h]
 congr 1
 rw [List.getD, List.getElem?_eq_getElem h]; rfl
theorem bl_irrefl : ∀ a : List UInt8, Op.bytesLess a a = false
 | [] => by simp [Op.bytesLess]
 | a :: r => by simp [Op.bytesLess, bl_irrefl r]
theorem u8_lt (a b : UInt8) : a < b ↔ a.toNat < b.toNat := UInt8.lt_iff_toNat_lt
theorem u8_eq (a b : UInt8) : a = b ↔ a.toNat = b.toNat := UInt8.toNat_inj.symm
theorem bl_trans : ∀ a b c : List UInt8, Op.bytesLess a b = true → Op.bytesLess b c = true → Op.bytesLess a c = true
 | _, [], _, h, _ => by simp [Op.bytesLess] at h
 | _, _ :: _, [], _, h => by simp [Op.bytesLess] at h
 | [], _ :: _, _ :: _, _, _ => by simp [Op.bytesLess]
 | a :: x, b :: y, c :: z, h1, h2 => by
   simp only [Op.bytesLess, Bool.or_eq_true, decide_eq_true_eq, Bool.and_eq_true, beq_iff_eq] at h1 h2 ⊢; have ih := bl_trans x y z; rw [u8_lt, u8_eq] at *
   rcases h1 with h1 | ⟨h1, h1'⟩ <;> rcases h2 with h2 | ⟨h2, h2'⟩
   ·left; omega
   ·left; omega
   ·left; omega
   ·right; exact ⟨by omega, ih h1' h2'⟩
theorem bl_tri : ∀ a b : List UInt8, Op.bytesLess a b = false → a ≠ b → Op.bytesLess b a = true
 | [], [], _, h => absurd rfl h
 | [], _ :: _, h, _ => by simp [Op.bytesLess] at h
 | _ :: _, [], _, _ => by simp [Op.bytesLess]
 | a :: x, b :: y, h, hne => by
   simp only [Op.bytesLess, Bool.or_eq_false_iff, decide_eq_false_iff_not, Bool.and_eq_false_iff] at h; simp only [Op.bytesLess, Bool.or_eq_true, decide_eq_true_eq, Bool.and_eq_true, beq_iff_eq]
   by_cases e : a = b
   ·subst e
    right
    refine ⟨rfl, bl_tri x y ?_ (fun e => hne (by rw [e]))⟩
    rcases h.2 with h2 | h2
    ·simp at h2
    ·exact h2
   ·left
    have h1 := h.1; rw [u8_lt] at h1 ⊢; rw [u8_eq] at e
    omega
theorem ba_ext {a b : ByteArray} (h : a.toList = b.toList) : a = b := by
 rw [ByteArray.toList_eq, ByteArray.toList_eq] at h
 cases a; cases b; simpa using h
def cmpI (x y : Int) : Int := if x < y then -1 else if y < x then 1 else 0
def cmpS (x y : ByteArray) : Int := if Op.bytesLess x.toList y.toList then -1 else if x.toList == y.toList then 0 else 1
theorem infoCell : (Tryz.prog.info? 63).map (fun i => (i.zero, i.size, i.bytes)) = some (some (.agg #[.int .i64 0, .int .i64 0, .slice none 0 0]), 3, 40) := by kernel_rfl
def rcV (r : RC) : List Value := [.int .i64 r.1, .int .i64 r.2.1, .slice r.2.2.1 r.2.2.2.1 r.2.2.2.2]
def flat (rs : List RC) : List Value := rs.flatMap rcV
theorem flat_cons (r : RC) (rs : List RC) : flat (r :: rs) = .int .i64 r.1 :: .int .i64 r.2.1 :: .slice r.2.2.1 r.2.2.2.1 r.2.2.2.2 :: flat rs := rfl
theorem flat_append (a b : List RC) : flat (a ++ b) = flat a ++ flat b := List.flatMap_append
theorem flat_len : ∀ rs : List RC, (flat rs).length = rs.length * 3
 | [] => rfl
 | r :: rs => by simp only [flat_cons, List.length_cons, flat_len rs]; omega
theorem flat_at : ∀ (rs : List RC) (i : Nat), i < rs.length → (flat rs)[i * 3]? = some (.int .i64 (rs.getD i RC.zero).1) ∧ (flat rs)[i * 3 + 1]? = some (.int .i64 (rs.getD i RC.zero).2.1) ∧
  (flat rs)[i * 3 + 2]? = some (.slice (rs.getD i RC.zero).2.2.1 (rs.getD i RC.zero).2.2.2.1 (rs.getD i RC.zero).2.2.2.2)
 | [], i, h => by simp at h
 | r :: rs, 0, _ => by simp [flat_cons]
 | r :: rs, i + 1, h => by
   have := flat_at rs i (by simpa using h); rw [flat_cons, show (i + 1) * 3 = (i * 3) + 1 + 1 + 1 by omega, show (i * 3) + 1 + 1 + 1 + 1 = (i * 3 + 1) + 1 + 1 + 1 by omega, show (i * 3) + 1 + 1 + 1 + 2 = (i * 3 + 2) + 1 + 1 + 1 by omega]
   simpa using this
def OwnC (w : World) (B : Nat) (p : Option Addr) (n c : Nat) (cs : List Cel) : Prop :=
 n = cs.length ∧ ∃ rs : List RC, rs.length = cs.length ∧ w.ownsRow B 63 3 (.slice p n c) n (flat rs) ∧ (∀ i, i < cs.length → Fits w B (rs.getD i RC.zero) (cs.getD i Cel.none)) ∧ ApartC p rs
theorem OwnC.nil (w : World) (B : Nat) : OwnC w B none 0 0 [] := ⟨rfl, [], rfl, World.ownsRow_nil _ _ _ _, fun i h => by simp at h, fun i h => by simp at h, fun i j h => by simp at h⟩
theorem OwnC.cin {w : World} {B : Nat} {p : Option Addr} {n c : Nat} {cs : List Cel} (h : OwnC w B p n c cs) : CIn w p cs := fun hn => by
 obtain ⟨rfl, rs, hl, hr, hf, _⟩ := h; obtain ⟨g, cap, hv, hb, hg⟩ := hr.form hn; simp only [Value.slice.injEq, true_and] at hv; obtain ⟨rfl, rfl⟩ := hv; refine ⟨g, 0, rfl, fun i hi => ?_⟩; obtain ⟨f0, f1, f2⟩ := hf i hi; obtain ⟨a0, a1, a2⟩ := flat_at rs i (by omega); rw [Nat.zero_add]; refine ⟨(rs.getD i RC.zero).2.2.1, (rs.getD i RC.zero).2.2.2.2, ?_, ?_, ?_, f2.bin⟩
 ·rw [hr.cellAt _ (by omega), a0, f0]
 ·rw [hr.cellAt _ (by omega), a1, f1]
 ·rw [hr.cellAt _ (by omega), a2, f2.len]
theorem OwnC.below {w w' : World} {B : Nat} {p : Option Addr} {n c : Nat} {cs : List Cel} (h : OwnC w B p n c cs) (hb : Below w.heap.size w w') : OwnC w' B p n c cs := by
 obtain ⟨rfl, rs, hl, hr, hf, ha⟩ := h; refine ⟨rfl, rs, hl, ⟨hr.1, ?_⟩, fun i hi => ⟨(hf i hi).1, (hf i hi).2.1, (hf i hi).2.2.below hb⟩, ha⟩
 rcases hr.2 with h' | ⟨g, cap, cur, hv, hB, hg, r⟩
 ·exact .inl h'
 ·exact .inr ⟨g, cap, cur, hv, hB, (hb.block g (Array.getElem?_eq_some_iff.1 hg).1).trans hg, r⟩
theorem OwnC.mono {w : World} {B B' : Nat} {p : Option Addr} {n c : Nat} {cs : List Cel} (h : OwnC w B p n c cs) (hB : B' ≤ B) : OwnC w B' p n c cs := by
 obtain ⟨hn, rs, hl, hr, hf, ha⟩ := h; exact ⟨hn, rs, hl, ownsRow_down hr hB, fun i hi => ⟨(hf i hi).1, (hf i hi).2.1, (hf i hi).2.2.mono hB⟩, ha⟩
def cellB (k n : Int) (m : Nat) : Bool := decide ((k = 0 ∧ 0 ≤ n ∧ n ≤ 1000000 ∧ m = 0) ∨ (k = 1 ∧ -1000000000000000 ≤ n ∧ n ≤ 1000000000000000 ∧ m = 0) ∨ (k = 2 ∧ m ≤ 100 ∧ n = 0) ∨ (k = 3 ∧ m ≤ 100 ∧ 1 ≤ n ∧ n ≤ 20))
theorem isCell_any (k n : Int) (p : Option Addr) (m c : Nat) (w : World) :
  Calls Tryz.prog 50 #[.agg #[.int .i64 k, .int .i64 n, .slice p m c]] w fun e w' => e = .returned (.bool (cellB k n m)) ∧ Below w.heap.size w w' := by
 have fin : ∀ {a : Bool} {o : Obj}, a = cellB k n m → (Ending.returned (.bool a) = .returned (.bool (cellB k n m)) ∧ Below w.heap.size w (w.alloc o)) := fun h => ⟨ret_bool h, (Below.refl _ _).alloc (Nat.le_refl _) _⟩
 have FIN : Hid _ := @fin; clear fin
 by_cases k0 : k = 0
 ·subst k0
  by_cases hm : m = 0
  ·subst hm
   by_cases a : 0 ≤ n
   ·go_enter Tryz.func50, Tryz.ntmps50
    go_wp2
    go_ret; exact FIN.out (by rw [Bool.eq_iff_iff]; simp [cellB]; omega)
   ·go_enter Tryz.func50, Tryz.ntmps50
    go_wp2
    go_ret; exact FIN.out (by rw [Bool.eq_iff_iff]; simp [cellB]; omega)
  ·have hm' : ((m : Int) == 0) = false := by simp; omega
   have HM : Hid (m ≠ 0) := hm; clear hm
   go_enter Tryz.func50, Tryz.ntmps50
   go_wp2
   go_ret; exact FIN.out (by have := HM.out; rw [Bool.eq_iff_iff]; simp [cellB]; omega)
 ·by_cases k1 : k = 1
  ·subst k1
   by_cases hm : m = 0
   ·subst hm
    by_cases a : -1000000000000000 ≤ n
    ·go_enter Tryz.func50, Tryz.ntmps50
     go_wp2
     go_ret; exact FIN.out (by rw [Bool.eq_iff_iff]; simp [cellB]; omega)
    ·go_enter Tryz.func50, Tryz.ntmps50
     go_wp2
     go_ret; exact FIN.out (by rw [Bool.eq_iff_iff]; simp [cellB]; omega)
   ·have hm' : ((m : Int) == 0) = false := by simp; omega
    have HM : Hid (m ≠ 0) := hm; clear hm k0
    go_enter Tryz.func50, Tryz.ntmps50
    go_wp2
    go_ret; exact FIN.out (by have := HM.out; rw [Bool.eq_iff_iff]; simp [cellB]; omega)
  ·have t0 : (k == 0) = false := by simpa using k0
   have t1 : (k == 1) = false := by simpa using k1
   by_cases k2 : k = 2
   ·subst k2
    clear t0 t1 k0 k1
    by_cases hm : (m : Int) ≤ 100
    ·go_enter Tryz.func50, Tryz.ntmps50
     go_wp2
     go_ret; exact FIN.out (by rw [Bool.eq_iff_iff]; simp [cellB]; omega)
    ·go_enter Tryz.func50, Tryz.ntmps50
     go_wp2
     go_ret; exact FIN.out (by rw [Bool.eq_iff_iff]; simp [cellB]; omega)
   ·by_cases k3 : k = 3
    ·subst k3
     clear t0 t1 k0 k1 k2
     by_cases hm : (m : Int) ≤ 100
     ·by_cases a : 1 ≤ n
      ·go_enter Tryz.func50, Tryz.ntmps50
       go_wp2
       go_ret; exact FIN.out (by rw [Bool.eq_iff_iff]; simp [cellB]; omega)
      ·go_enter Tryz.func50, Tryz.ntmps50
       go_wp2
       go_ret; exact FIN.out (by rw [Bool.eq_iff_iff]; simp [cellB]; omega)
     ·go_enter Tryz.func50, Tryz.ntmps50
      go_wp2
      go_ret; exact FIN.out (by rw [Bool.eq_iff_iff]; simp [cellB]; omega)
    ·have t2 : (k == 2) = false := by simpa using k2
     have t3 : (k == 3) = false := by simpa using k3
     have HK : Hid (k ≠ 0 ∧ k ≠ 1 ∧ k ≠ 2 ∧ k ≠ 3) := ⟨k0, k1, k2, k3⟩
     clear k0 k1 k2 k3
     go_enter Tryz.func50, Tryz.ntmps50
     go_wp2
     go_ret; exact FIN.out (by have := HK.out; rw [Bool.eq_iff_iff]; simp [cellB]; omega)
theorem l2cell_any (k n : Int) (p : Option Addr) (m c : Nat) (w : World) :
  Calls Tryz.prog 41 #[.agg #[.int .i64 k, .int .i64 n, .slice p m c]] w fun e w' => e = .returned (.bool (cellB k n m)) ∧ Below w.heap.size w w' := by
 have fin : ∀ {a : Bool} {o : Obj}, a = cellB k n m → (Ending.returned (.bool a) = .returned (.bool (cellB k n m)) ∧ Below w.heap.size w (w.alloc o)) := fun h => ⟨ret_bool h, (Below.refl _ _).alloc (Nat.le_refl _) _⟩
 have FIN : Hid _ := @fin; clear fin
 by_cases k0 : k = 0
 ·subst k0
  by_cases a : 0 ≤ n
  ·by_cases b : n ≤ 1000000
   ·go_enter Tryz.func41, Tryz.ntmps41
    go_wp2
    go_ret; exact FIN.out (by rw [Bool.eq_iff_iff]; simp [cellB]; omega)
   ·go_enter Tryz.func41, Tryz.ntmps41
    go_wp2
    go_ret; exact FIN.out (by rw [Bool.eq_iff_iff]; simp [cellB]; omega)
  ·go_enter Tryz.func41, Tryz.ntmps41
   go_wp2
   go_ret; exact FIN.out (by rw [Bool.eq_iff_iff]; simp [cellB]; omega)
 ·by_cases k1 : k = 1
  ·subst k1
   by_cases a : -1000000000000000 ≤ n
   ·by_cases b : n ≤ 1000000000000000
    ·go_enter Tryz.func41, Tryz.ntmps41
     go_wp2
     go_ret; exact FIN.out (by rw [Bool.eq_iff_iff]; simp [cellB]; omega)
    ·go_enter Tryz.func41, Tryz.ntmps41
     go_wp2
     go_ret; exact FIN.out (by rw [Bool.eq_iff_iff]; simp [cellB]; omega)
   ·go_enter Tryz.func41, Tryz.ntmps41
    go_wp2
    go_ret; exact FIN.out (by rw [Bool.eq_iff_iff]; simp [cellB]; omega)
  ·have t0 : (k == 0) = false := by simpa using k0
   have t1 : (k == 1) = false := by simpa using k1
   by_cases hm : 100 < m
   ·have hm' : (100 : Int) < m := by omega
    have HK : Hid (k ≠ 0 ∧ k ≠ 1) := ⟨k0, k1⟩
    clear k0 k1
    go_enter Tryz.func41, Tryz.ntmps41
    go_wp2
    go_ret; exact FIN.out (by have := HK.out; rw [Bool.eq_iff_iff]; simp [cellB]; omega)
   ·have hm' : ¬ (100 : Int) < m := by omega
    by_cases k2 : k = 2
    ·subst k2
     clear t0 t1 k0 k1
     go_enter Tryz.func41, Tryz.ntmps41
     go_wp2
     go_ret; exact FIN.out (by rw [Bool.eq_iff_iff]; simp [cellB]; omega)
    ·by_cases k3 : k = 3
     ·subst k3
      clear t0 t1 k0 k1 k2
      by_cases a : 1 ≤ n
      ·go_enter Tryz.func41, Tryz.ntmps41
       go_wp2
       go_ret; exact FIN.out (by rw [Bool.eq_iff_iff]; simp [cellB]; omega)
      ·go_enter Tryz.func41, Tryz.ntmps41
       go_wp2
       go_ret; exact FIN.out (by rw [Bool.eq_iff_iff]; simp [cellB]; omega)
     ·have t2 : (k == 2) = false := by simpa using k2
      have t3 : (k == 3) = false := by simpa using k3
      have HK : Hid (k ≠ 0 ∧ k ≠ 1 ∧ k ≠ 2 ∧ k ≠ 3) := ⟨k0, k1, k2, k3⟩
      clear k0 k1 k2 k3
      go_enter Tryz.func41, Tryz.ntmps41
      go_wp2
      go_ret; exact FIN.out (by have := HK.out; rw [Bool.eq_iff_iff]; simp [cellB]; omega)
def grows (k n : Int) : Int := if k = 3 then n else 0
def validFrom : Int → List Cel → Bool
 | m, [] => m == 0
 | m, c :: r => if m = 0 ∨ cellB c.1 c.2.1 c.2.2.length = false then false else validFrom (m - 1 + grows c.1 c.2.1) r
def validB (cs : List Cel) : Bool := decide (cs.length ≤ 2000) && validFrom 1 cs
theorem validFrom_at (m : Int) (cs : List Cel) (k : Nat) (h : k < cs.length) : validFrom m (cs.drop k) =
  if m = 0 ∨ cellB (cs.getD k Cel.none).1 (cs.getD k Cel.none).2.1 (cs.getD k Cel.none).2.2.length = false then false else validFrom (m - 1 + grows (cs.getD k Cel.none).1 (cs.getD k Cel.none).2.1) (cs.drop (k + 1)) := by
 rw [drop_at cs k h, validFrom]
theorem cellB_comp {n : Int} {m : Nat} (h : cellB 3 n m = true) : 1 ≤ n ∧ n ≤ 20 := by simp [cellB] at h; omega
theorem specValid_any (p : Option Addr) (c : Nat) (cs : List Cel) (w : World) (hn : cs.length ≤ 1000000000) (hc : CIn w p cs) :
  Calls Tryz.prog 18 #[.slice p cs.length c] w fun e w' => e = .returned (.bool (validB cs)) ∧ Below w.heap.size w w' := by
 have HC : Hid (CIn w p cs) := hc; clear hc
 by_cases hl : cs.length ≤ 2000
 ·have hl' : ¬ (2000 : Int) < cs.length := by omega
  have hv : validB cs = validFrom 1 cs := by simp [validB, hl]
  rw [hv]; clear hv
  go_enter Tryz.func18, Tryz.ntmps18
  go_wp2
  clear hl'
  go_loopw [3, 4] (fun s i wr => ∃ (k : Nat) (m : Int), k ≤ cs.length ∧ 0 ≤ m ∧ m ≤ 1 + 20 * k ∧ s = .int .i64 m ∧ i = .int .i64 k ∧ Hid (validFrom 1 cs = validFrom m (cs.drop k)) ∧ Hid (Below w.heap.size w wr)) (fun _ i _ => cs.length - (intOf i).toNat)
  case atStart => exact ⟨0, 1, Nat.zero_le _, by decide, by decide, rfl, rfl, rfl, Below.refl _ _⟩
  case round =>
   obtain ⟨k, m, hk, hm0, hm1, rfl, rfl, HV, HB⟩ := hrel
   by_cases hlt : k < cs.length
   ·obtain ⟨b, o, rfl, hcs⟩ := HC.out (by omega)
    obtain ⟨q, qc, h0, h1, h2, _⟩ := (hcs k hlt).below HB.out; have HA : Hid _ := validFrom_at m cs k hlt
    obtain ⟨c0, e0⟩ : ∃ x, x = (cs.getD k Cel.none).1 := ⟨_, rfl⟩
    obtain ⟨c1, e1⟩ : ∃ x, x = (cs.getD k Cel.none).2.1 := ⟨_, rfl⟩
    obtain ⟨t, et⟩ : ∃ x, x = (cs.getD k Cel.none).2.2.length := ⟨_, rfl⟩
    rw [← e0] at h0 HA; rw [← e1] at h1 HA; rw [← et] at h2 HA; clear e0 e1 et hcs HC
    by_cases hz : m = 0
    ·subst hz
     go_wp2
     go_ret; exact ⟨ret_bool (by rw [HV.out, HA.out, if_pos (by simp)]), HB.out⟩
    ·have hz' : (m == 0) = false := by simpa using hz
     have HZ : Hid (m ≠ 0) := hz
     have HS := fun W => l2cell_any c0 c1 q t qc W
     cases hb : cellB c0 c1 t
     ·rw [hb] at HS
      have HBB : Hid _ := hb; clear hb hz; go_wp2_with (go_at_call 41; refine (HS _).mono ?_; rintro e w2 ⟨rfl, hb2⟩); go_ret; exact ⟨ret_bool (by rw [HV.out, HA.out, if_pos (.inr HBB.out)]), Below.on HB.out hb2⟩
     ·rw [hb] at HS
      have HBB : Hid _ := hb; clear hb hz
      by_cases h3 : c0 = 3
      ·subst h3
       have hc1 := cellB_comp HBB.out; go_wp2_with fail; refine (HS _).mono ?_; rintro e w2 ⟨rfl, hb2⟩; have h0' := (hb2.cell (World.block_lt_of_cell? _ _ h0)).trans h0; have h1' := (hb2.cell (World.block_lt_of_cell? _ _ h1)).trans h1; have HB2 : Hid (Below w.heap.size w w2) := Below.on HB.out hb2; clear hb2 h0 h1 h2 HS
       go_wp2
       go_roundw
       case rel => exact ⟨k + 1, m - 1 + c1, by omega, by have := HZ.out; omega, by omega, by go_num, by go_num, by show _ = _; rw [HV.out, HA.out, if_neg (by rintro (h | h); exact HZ.out h; rw [HBB.out] at h; cases h)]; rfl, HB2.out⟩
       case measure => simp [intOf]; omega
      ·have h3' : (c0 == 3) = false := by simpa using h3
       have H3 : Hid (c0 ≠ 3) := h3; clear h3; go_wp2_with fail; refine (HS _).mono ?_; rintro e w2 ⟨rfl, hb2⟩; have h0' := (hb2.cell (World.block_lt_of_cell? _ _ h0)).trans h0; have HB2 : Hid (Below w.heap.size w w2) := Below.on HB.out hb2; clear hb2 h0 h1 h2 HS
       go_wp2
       go_roundw
       case rel => exact ⟨k + 1, m - 1, by omega, by have := HZ.out; omega, by omega, by go_num, by go_num, by show _ = _; rw [HV.out, HA.out, if_neg (by rintro (h | h); exact HZ.out h; rw [HBB.out] at h; cases h), grows, if_neg H3.out, Int.add_zero], HB2.out⟩
       case measure => simp [intOf]; omega
   ·obtain rfl : k = cs.length := by omega
    have HV' : Hid (validFrom 1 cs = (m == 0)) := by
     have := HV.out; rw [List.drop_length] at this; exact this
    clear HV HC
    go_wp2
    go_ret; exact ⟨ret_bool HV'.out.symm, HB.out⟩
 ·have hl' : (2000 : Int) < cs.length := by omega
  have hv : validB cs = false := by simp [validB]; omega
  rw [hv]; clear hv
  go_enter Tryz.func18, Tryz.ntmps18
  go_wp2
  go_ret; exact ⟨rfl, Below.refl _ _⟩
theorem implValid_any (p : Option Addr) (c : Nat) (cs : List Cel) (w : World) (hn : cs.length ≤ 1000000000) (hc : CIn w p cs) :
  Calls Tryz.prog 21 #[.slice p cs.length c] w fun e w' => e = .returned (.bool (validB cs)) ∧ Below w.heap.size w w' := by
 have HC : Hid (CIn w p cs) := hc; clear hc
 by_cases hl : cs.length ≤ 2000
 ·have hl' : ¬ (2000 : Int) < cs.length := by omega
  have hv : validB cs = validFrom 1 cs := by simp [validB, hl]
  rw [hv]; clear hv
  go_enter Tryz.func21, Tryz.ntmps21
  go_wp2
  clear hl'
  go_loopw [3, 11] (fun s i wr => ∃ (k : Nat) (m : Int), k ≤ cs.length ∧ 0 ≤ m ∧ m ≤ 1 + 20 * k ∧ s = .int .i64 m ∧ i = .int .i64 k ∧ Hid (validFrom 1 cs = validFrom m (cs.drop k)) ∧ Hid (Below w.heap.size w wr)) (fun _ i _ => cs.length - (intOf i).toNat)
  case atStart => exact ⟨0, 1, Nat.zero_le _, by decide, by decide, rfl, rfl, rfl, Below.refl _ _⟩
  case round =>
   obtain ⟨k, m, hk, hm0, hm1, rfl, rfl, HV, HB⟩ := hrel
   by_cases hlt : k < cs.length
   ·obtain ⟨b, o, rfl, hcs⟩ := HC.out (by omega)
    obtain ⟨q, qc, h0, h1, h2, _⟩ := (hcs k hlt).below HB.out; have HA : Hid _ := validFrom_at m cs k hlt
    obtain ⟨c0, e0⟩ : ∃ x, x = (cs.getD k Cel.none).1 := ⟨_, rfl⟩
    obtain ⟨c1, e1⟩ : ∃ x, x = (cs.getD k Cel.none).2.1 := ⟨_, rfl⟩
    obtain ⟨t, et⟩ : ∃ x, x = (cs.getD k Cel.none).2.2.length := ⟨_, rfl⟩
    rw [← e0] at h0 HA; rw [← e1] at h1 HA; rw [← et] at h2 HA; clear e0 e1 et hcs HC
    by_cases hz : m = 0
    ·subst hz
     go_wp2
     go_ret; exact ⟨ret_bool (by rw [HV.out, HA.out, if_pos (by simp)]), HB.out.alloc HB.out.size _⟩
    ·have hz' : (m == 0) = false := by simpa using hz
     have HZ : Hid (m ≠ 0) := hz
     have HS := fun W => isCell_any c0 c1 q t qc W
     have hb0 : Below w.heap.size w (wr.alloc (Obj.cells #[.int .i64 c0, .int .i64 c1, .slice q t qc] 63)) := HB.out.alloc HB.out.size _; have HB0 : Hid _ := hb0; clear hb0
     cases hb : cellB c0 c1 t
     ·rw [hb] at HS
      have HBB : Hid _ := hb; clear hb hz; go_wp2_with (go_at_call 50; refine (HS _).mono ?_; rintro e w2 ⟨rfl, hb2⟩); go_ret; exact ⟨ret_bool (by rw [HV.out, HA.out, if_pos (.inr HBB.out)]), Below.on HB0.out hb2⟩
     ·rw [hb] at HS
      have HBB : Hid _ := hb; clear hb hz
      by_cases h3 : c0 = 3
      ·subst h3
       have hc1 := cellB_comp HBB.out; go_wp2_with fail; refine (HS _).mono ?_; rintro e w2 ⟨rfl, hb2⟩; have bb : Box3 w2 wr.heap.size (.int .i64 3) (.int .i64 c1) (.slice q t qc) := Box3.of_block (t := 63) ((hb2.block _ (by simp)).trans (heap_alloc_new _ _)); obtain ⟨h0', h1', _, _⟩ := bb; have HB2 : Hid (Below w.heap.size w w2) := Below.on HB0.out hb2; clear hb2 h0 h1 h2 HS
       go_wp2
       go_roundw
       case rel => exact ⟨k + 1, m - 1 + c1, by omega, by have := HZ.out; omega, by omega, by go_num, by go_num, by show _ = _; rw [HV.out, HA.out, if_neg (by rintro (h | h); exact HZ.out h; rw [HBB.out] at h; cases h)]; rfl, HB2.out⟩
       case measure => simp [intOf]; omega
      ·have h3' : (c0 == 3) = false := by simpa using h3
       have H3 : Hid (c0 ≠ 3) := h3; clear h3; go_wp2_with fail; refine (HS _).mono ?_; rintro e w2 ⟨rfl, hb2⟩; have bb : Box3 w2 wr.heap.size (.int .i64 c0) (.int .i64 c1) (.slice q t qc) := Box3.of_block (t := 63) ((hb2.block _ (by simp)).trans (heap_alloc_new _ _)); obtain ⟨h0', _, _, _⟩ := bb; have HB2 : Hid (Below w.heap.size w w2) := Below.on HB0.out hb2; clear hb2 h0 h1 h2 HS
       go_wp2
       go_roundw
       case rel => exact ⟨k + 1, m - 1, by omega, by have := HZ.out; omega, by omega, by go_num, by go_num, by show _ = _; rw [HV.out, HA.out, if_neg (by rintro (h | h); exact HZ.out h; rw [HBB.out] at h; cases h), grows, if_neg H3.out, Int.add_zero], HB2.out⟩
       case measure => simp [intOf]; omega
   ·obtain rfl : k = cs.length := by omega
    have HV' : Hid (validFrom 1 cs = (m == 0)) := by
     have := HV.out; rw [List.drop_length] at this; exact this
    clear HV HC
    go_wp2
    go_ret; exact ⟨ret_bool HV'.out.symm, HB.out⟩
 ·have hl' : (2000 : Int) < cs.length := by omega
  have hv : validB cs = false := by simp [validB]; omega
  rw [hv]; clear hv
  go_enter Tryz.func21, Tryz.ntmps21
  go_wp2
  go_ret; exact ⟨rfl, Below.refl _ _⟩
inductive Fo where
 | nil : Fo
 | node : Cel → Fo → Fo → Fo
def Fo.cells : Fo → List Cel
 | .nil => []
 | .node c k r => c :: (k.cells ++ r.cells)
def Fo.count : Fo → Nat
 | .nil => 0
 | .node _ _ r => r.count + 1
def Fo.cat : Fo → Fo → Fo
 | .nil, s => s
 | .node c k r, s => .node c k (r.cat s)
def Fo.ok : Fo → Prop
 | .nil => True
 | .node c k r => cellB c.1 c.2.1 c.2.2.length = true ∧ Byte c.2.2 ∧ (c.1 = 3 → c.2.1 = k.count) ∧ (c.1 ≠ 3 → k = .nil) ∧ k.ok ∧ r.ok
theorem Fo.cells_cat : ∀ a b : Fo, (a.cat b).cells = a.cells ++ b.cells
 | .nil, b => rfl
 | .node c k r, b => by simp [Fo.cat, Fo.cells, Fo.cells_cat r b]
theorem Fo.count_cat : ∀ a b : Fo, (a.cat b).count = a.count + b.count
 | .nil, b => by simp [Fo.cat, Fo.count]
 | .node c k r, b => by simp only [Fo.cat, Fo.count, Fo.count_cat r b]; omega
theorem Fo.ok_cat : ∀ a b : Fo, (a.cat b).ok ↔ a.ok ∧ b.ok
 | .nil, b => by simp [Fo.cat, Fo.ok]
 | .node c k r, b => by
   have := Fo.ok_cat r b; simp only [Fo.cat, Fo.ok]
   constructor
   ·rintro ⟨h1, h2, h3, h4, h5, h6⟩
    exact ⟨⟨h1, h2, h3, h4, h5, (this.1 h6).1⟩, (this.1 h6).2⟩
   ·rintro ⟨⟨h1, h2, h3, h4, h5, h6⟩, h7⟩
    exact ⟨h1, h2, h3, h4, h5, this.2 ⟨h6, h7⟩⟩
theorem Fo.cat_nil : ∀ a : Fo, a.cat .nil = a
 | .nil => rfl
 | .node c k r => by rw [Fo.cat, Fo.cat_nil r]
theorem Fo.cat_assoc : ∀ a b c : Fo, (a.cat b).cat c = a.cat (b.cat c)
 | .nil, b, c => rfl
 | .node x k r, b, c => by simp only [Fo.cat, Fo.cat_assoc r b c]
theorem Fo.count_le : ∀ a : Fo, a.count ≤ a.cells.length
 | .nil => Nat.le_refl _
 | .node c k r => by have := Fo.count_le r; simp [Fo.count, Fo.cells]; omega
theorem Fo.parted : ∀ (n : Nat) (a : Fo), n ≤ a.count → ∃ x y : Fo, a = x.cat y ∧ x.count = n
 | 0, a, _ => ⟨.nil, a, rfl, rfl⟩
 | n + 1, .nil, h => by simp [Fo.count] at h
 | n + 1, .node c k r, h => by
   obtain ⟨x, y, e, hx⟩ := Fo.parted n r (by simpa [Fo.count] using h); exact ⟨.node c k x, y, by rw [Fo.cat, e], by rw [Fo.count, hx]⟩
theorem forest_of : ∀ (cs : List Cel) (m : Nat), (∀ i, i < cs.length → Byte (cs.getD i Cel.none).2.2) → validFrom m cs = true → ∃ F : Fo, F.count = m ∧ F.cells = cs ∧ F.ok
 | [], m, _, h => by
   have : m = 0 := by simpa [validFrom] using h
   exact ⟨.nil, by simp [Fo.count, this], rfl, trivial⟩
 | c :: r, m, hb, h => by
   rw [validFrom] at h
   split at h
   ·cases h
   rename_i hc
   rw [not_or] at hc; obtain ⟨hm, hc⟩ := hc
   have hc' : cellB c.1 c.2.1 c.2.2.length = true := by simpa using hc
   have hbr : ∀ i, i < r.length → Byte (r.getD i Cel.none).2.2 := fun i hi => by simpa using hb (i + 1) (by simpa using hi)
   have hb0 : Byte c.2.2 := by simpa using hb 0 (by simp)
   by_cases h3 : c.1 = 3
   ·have hc1 := cellB_comp (h3 ▸ hc')
    obtain ⟨n, hn⟩ : ∃ n : Nat, c.2.1 = n := ⟨c.2.1.toNat, by omega⟩
    obtain ⟨F, hF1, hF2, hF3⟩ := forest_of r (m - 1 + n) hbr (by
     have e : ((m - 1 + n : Nat) : Int) = m - 1 + grows c.1 c.2.1 := by rw [grows, if_pos h3, hn]; omega
     rw [e]; exact h)
    obtain ⟨x, y, rfl, hx⟩ := Fo.parted n F (by omega); rw [Fo.count_cat] at hF1; have hok := (Fo.ok_cat x y).1 hF3; exact ⟨.node c x y, by rw [Fo.count]; omega, by rw [Fo.cells, ← Fo.cells_cat, hF2], hc', hb0, fun _ => by rw [hx, hn], fun h => absurd h3 h, hok.1, hok.2⟩
   ·obtain ⟨F, hF1, hF2, hF3⟩ := forest_of r (m - 1) hbr (by
     have e : ((m - 1 : Nat) : Int) = m - 1 + grows c.1 c.2.1 := by rw [grows, if_neg h3]; omega
     rw [e]; exact h)
    exact ⟨.node c .nil F, by rw [Fo.count]; omega, by rw [Fo.cells, hF2]; rfl, hc', hb0, fun h => absurd h h3, fun _ => rfl, trivial, hF3⟩
def NodeIn (w : World) (B : Nat) (c : Cel) (K : List Value → Prop) (v : Value) : Prop :=
 (c.1 = 0 ∧ v = .iface 80 (.int .i64 c.2.1)) ∨ (c.1 = 1 ∧ v = .iface 48 (.int .i64 c.2.1)) ∨ (c.1 = 2 ∧ v = .iface 160 (.string (strOfNums c.2.2))) ∨
 (c.1 = 3 ∧ ∃ b g vs, v = .iface 163 (.pointer (some ⟨b, 0, none⟩)) ∧ B ≤ b ∧ B ≤ g ∧ w.cell? ⟨b, 0, none⟩ = some (.string (strOfNums c.2.2)) ∧
   w.cell? ⟨b, 1, none⟩ = some (.slice (some ⟨g, 0, none⟩) vs.length vs.length) ∧ g < w.heap.size ∧ (∀ i, i < vs.length → w.cell? ⟨g, i, none⟩ = some (vs.getD i .nilIface)) ∧ K vs)
def FoIn (w : World) (B : Nat) : Fo → List Value → Prop
 | .nil, vs => vs = []
 | .node c k r, vs => ∃ v vr, vs = v :: vr ∧ NodeIn w B c (fun kv => FoIn w B k kv) v ∧ FoIn w B r vr
theorem NodeIn.imp {w w' : World} {B B' : Nat} {c : Cel} {K K' : List Value → Prop} {v : Value} (h : NodeIn w B c K v) (hB : B' ≤ B) (hc : ∀ b o, B ≤ b → b < w.heap.size → w'.cell? ⟨b, o, none⟩ = w.cell? ⟨b, o, none⟩) (hs : w.heap.size ≤ w'.heap.size) (hK : ∀ vs, K vs → K' vs) : NodeIn w' B' c K' v := by
 rcases h with h | h | h | ⟨h, b, g, vs, hv, h1, h2, c0, c1, hg, cg, hk⟩
 ·exact .inl h
 ·exact .inr (.inl h)
 ·exact .inr (.inr (.inl h))
 ·have hb := World.block_lt_of_cell? _ _ c0
  exact .inr (.inr (.inr ⟨h, b, g, vs, hv, by omega, by omega, (hc _ _ h1 hb).trans c0, (hc _ _ h1 hb).trans c1, by omega, fun i hi => (hc _ _ h2 hg).trans (cg i hi), hK _ hk⟩))
theorem FoIn.imp {w w' : World} {B B' : Nat} (hB : B' ≤ B) (hc : ∀ b o, B ≤ b → b < w.heap.size → w'.cell? ⟨b, o, none⟩ = w.cell? ⟨b, o, none⟩) (hs : w.heap.size ≤ w'.heap.size) : ∀ (F : Fo) (vs : List Value), FoIn w B F vs → FoIn w' B' F vs
 | .nil, vs, h => h
 | .node c k r, vs, ⟨v, vr, e, hn, hr⟩ => ⟨v, vr, e, hn.imp hB hc hs (fun kv => FoIn.imp hB hc hs k kv), FoIn.imp hB hc hs r vr hr⟩
theorem FoIn.below {w w' : World} {B : Nat} {F : Fo} {vs : List Value} (h : FoIn w B F vs) (hb : Below w.heap.size w w') : FoIn w' B F vs :=
 FoIn.imp (Nat.le_refl _) (fun b o _ hlt => hb.cell (p := ⟨b, o, none⟩) hlt) hb.size F vs h
theorem FoIn.mono {w : World} {B B' : Nat} {F : Fo} {vs : List Value} (h : FoIn w B F vs) (hB : B' ≤ B) : FoIn w B' F vs := FoIn.imp hB (fun _ _ _ _ => rfl) (Nat.le_refl _) F vs h
theorem FoIn.setCell {w : World} {B : Nat} {F : Fo} {vs : List Value} (h : FoIn w B F vs) {a : Addr} (ha : a.block < B) (u : Value) : FoIn (w.setCell a u) B F vs :=
 FoIn.imp (Nat.le_refl _) (fun b o hb _ => World.cell?_setCell_other _ _ _ _ (fun e => by rw [e] at ha; simp at ha; omega)) (by simp) F vs h
theorem FoIn.count {w : World} {B : Nat} : ∀ (F : Fo) (vs : List Value), FoIn w B F vs → vs.length = F.count
 | .nil, vs, h => by rw [show vs = [] from h]; rfl
 | .node c k r, vs, ⟨v, vr, e, hn, hr⟩ => by rw [e, List.length_cons, FoIn.count r vr hr]; rfl
theorem FoIn.cat {w : World} {B : Nat} : ∀ (F G : Fo) (vs us : List Value), FoIn w B F vs → FoIn w B G us → FoIn w B (F.cat G) (vs ++ us)
 | .nil, G, vs, us, h, hg => by rw [show vs = [] from h]; exact hg
 | .node c k r, G, vs, us, ⟨v, vr, e, hn, hr⟩, hg => ⟨v, vr ++ us, by rw [e]; rfl, hn, FoIn.cat r G vr us hr hg⟩
end Go.Proofs.YtkklidpnkofipaaGreatDoor
