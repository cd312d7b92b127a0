/- Texts of MarkH, Str0, IsC, Valid1. Own work of the verifier. -/
import Derived.Test.YtpigjapbhbdhbaaGreatDoorUqab
import Derived.Test.YtpigjapbhbdhbaaGreatDoorUqad
import Derived.Laws.BytesArg
import Derived.Lib.SlBytesConst
import Derived.Lib.ConvBytes
import Derived.WideShapes
namespace Go.Proofs.YtpigjapbhbdhbaaGreatDoor
open Go Go.RowKit
set_option linter.unusedVariables false
end Go.Proofs.YtpigjapbhbdhbaaGreatDoor

namespace Go.Proofs.YtpigjapbhbdhbaaGreatDoor
open Go Go.RowKit
set_option linter.unusedVariables false
def Byte (xs : List Int) : Prop := ∀ x ∈ xs, 0 ≤ x ∧ x < 256
theorem u8_of {x : Int} (h0 : 0 ≤ x) (h1 : x < 256) : ((UInt8.ofNat x.toNat).toNat : Int) = x := by
  simp only [UInt8.toNat_ofNat']; omega
theorem str_list {xs : List Int} : (strOfNums xs).toList = xs.map fun n => UInt8.ofNat n.toNat := by
  rw [ByteArray.toList_eq]; rfl
theorem map_back : ∀ {xs : List Int}, Byte xs → (xs.map fun n => UInt8.ofNat n.toNat).map (fun u => (u.toNat : Int)) = xs
  | [], _ => rfl
  | x :: r, h => by
    have hx := h x (List.mem_cons_self ..)
    simp only [List.map_cons]
    rw [u8_of hx.1 hx.2, map_back (fun y hy => h y (List.mem_cons_of_mem _ hy))]
theorem map_forth (l : List UInt8) : ((l.map (fun u => (u.toNat : Int))).map fun n => UInt8.ofNat n.toNat) = l := by
  induction l with
  | nil => rfl
  | cons a r ih => simp only [List.map_cons, ih]; simp
theorem str_eq {xs : List Int} (hb : Byte xs) (l : List UInt8) : (strOfNums xs).toList = l ↔ xs = l.map (fun u => (u.toNat : Int)) := by
  rw [str_list]
  constructor
  · intro h; rw [← h, map_back hb]
  · intro h; rw [h, map_forth]
theorem str_beq {xs : List Int} (hb : Byte xs) (l : List UInt8) : (strOfNums xs == (⟨l.toArray⟩ : ByteArray)) = decide (xs = l.map (fun u => (u.toNat : Int))) := by
  have e : (strOfNums xs == (⟨l.toArray⟩ : ByteArray)) = ((strOfNums xs).data == l.toArray) := rfl
  rw [e, Bool.eq_iff_iff, beq_iff_eq, decide_eq_true_iff, ← str_eq hb, ByteArray.toList_eq]
  constructor
  · intro h; rw [h]
  · intro h; rw [← h]
theorem conv_str {w : World} {p : Option Addr} {xs : List Int} (h : BIn w p xs) (m cap : Nat) (hm : m = xs.length) (dst : TypeId) (hd : Tryz.prog.underlying dst = some .string) :
    (convert 35 dst (.slice p m cap)).run Tryz.prog w = .ok (.string (strOfNums xs)) w := by
  subst hm
  by_cases hn : 0 < xs.length
  · obtain ⟨b, o, rfl, hc⟩ := h hn
    exact run_convert_bytes_arg w 35 5 Tryz.underlying35 Tryz.underlying5 b o xs.length cap xs rfl hc dst hd
  · obtain rfl : xs = [] := by cases xs with | nil => rfl | cons a r => simp at hn
    rw [run_convert_bytes_string w 35 dst 5 _ _ cap Tryz.underlying35 Tryz.underlying5 hd]
    cases p with
    | none => simp [Conv.bytesToString, strOfNums]; rfl
    | some a => simp [Conv.bytesToString, strOfNums]; rfl
theorem drop_at (cs : List Cel) (k : Nat) (h : k < cs.length) : cs.drop k = cs.getD k Cel.none :: cs.drop (k + 1) := by
  rw [List.drop_eq_getElem_cons h]
  congr 1
  rw [List.getD, List.getElem?_eq_getElem h]; rfl
theorem ba_ext {a b : ByteArray} (h : a.toList = b.toList) : a = b := by
  rw [ByteArray.toList_eq, ByteArray.toList_eq] at h
  cases a; cases b; simpa using h
end Go.Proofs.YtpigjapbhbdhbaaGreatDoor

namespace Go.Proofs.YtpigjapbhbdhbaaGreatDoor
open Go Go.RowKit
set_option linter.unusedVariables false
def cellB (k n : Int) (m : Nat) : Bool := decide ((k = 0 ∧ 0 ≤ n ∧ n ≤ 1000000 ∧ m = 0) ∨ (k = 1 ∧ -1000000000000000 ≤ n ∧ n ≤ 1000000000000000 ∧ m = 0) ∨ (k = 2 ∧ m ≤ 100 ∧ n = 0) ∨ (k = 3 ∧ m ≤ 100 ∧ 1 ≤ n ∧ n ≤ 20))
theorem isCell_any (k n : Int) (p : Option Addr) (m c : Nat) (w : World) :
    Calls Tryz.prog 133 #[.agg #[.int .i64 k, .int .i64 n, .slice p m c]] w fun e w' => e = .returned (.bool (cellB k n m)) ∧ Below w.heap.size w w' := by
  have fin : ∀ {a : Bool} {o : Obj}, a = cellB k n m → (Ending.returned (.bool a) = .returned (.bool (cellB k n m)) ∧ Below w.heap.size w (w.alloc o)) := fun h => ⟨ret_bool h, (Below.refl _ _).alloc (Nat.le_refl _) _⟩
  have FIN : Hid _ := @fin
  clear fin
  by_cases k0 : k = 0
  · subst k0
    by_cases hm : m = 0
    · subst hm
      by_cases a : 0 ≤ n
      · go_enter Tryz.func133, Tryz.ntmps133
        go_wp2
        go_ret
        exact FIN.out (by rw [Bool.eq_iff_iff]; simp [cellB]; omega)
      · go_enter Tryz.func133, Tryz.ntmps133
        go_wp2
        go_ret
        exact FIN.out (by rw [Bool.eq_iff_iff]; simp [cellB]; omega)
    · have hm' : ((m : Int) == 0) = false := by simp; omega
      have HM : Hid (m ≠ 0) := hm
      clear hm
      go_enter Tryz.func133, Tryz.ntmps133
      go_wp2
      go_ret
      exact FIN.out (by have := HM.out; rw [Bool.eq_iff_iff]; simp [cellB]; omega)
  · by_cases k1 : k = 1
    · subst k1
      by_cases hm : m = 0
      · subst hm
        by_cases a : -1000000000000000 ≤ n
        · go_enter Tryz.func133, Tryz.ntmps133
          go_wp2
          go_ret
          exact FIN.out (by rw [Bool.eq_iff_iff]; simp [cellB]; omega)
        · go_enter Tryz.func133, Tryz.ntmps133
          go_wp2
          go_ret
          exact FIN.out (by rw [Bool.eq_iff_iff]; simp [cellB]; omega)
      · have hm' : ((m : Int) == 0) = false := by simp; omega
        have HM : Hid (m ≠ 0) := hm
        clear hm k0
        go_enter Tryz.func133, Tryz.ntmps133
        go_wp2
        go_ret
        exact FIN.out (by have := HM.out; rw [Bool.eq_iff_iff]; simp [cellB]; omega)
    · have t0 : (k == 0) = false := by simpa using k0
      have t1 : (k == 1) = false := by simpa using k1
      by_cases k2 : k = 2
      · subst k2
        clear t0 t1 k0 k1
        by_cases hm : (m : Int) ≤ 100
        · go_enter Tryz.func133, Tryz.ntmps133
          go_wp2
          go_ret
          exact FIN.out (by rw [Bool.eq_iff_iff]; simp [cellB]; omega)
        · go_enter Tryz.func133, Tryz.ntmps133
          go_wp2
          go_ret
          exact FIN.out (by rw [Bool.eq_iff_iff]; simp [cellB]; omega)
      · by_cases k3 : k = 3
        · subst k3
          clear t0 t1 k0 k1 k2
          by_cases hm : (m : Int) ≤ 100
          · by_cases a : 1 ≤ n
            · go_enter Tryz.func133, Tryz.ntmps133
              go_wp2
              go_ret
              exact FIN.out (by rw [Bool.eq_iff_iff]; simp [cellB]; omega)
            · go_enter Tryz.func133, Tryz.ntmps133
              go_wp2
              go_ret
              exact FIN.out (by rw [Bool.eq_iff_iff]; simp [cellB]; omega)
          · go_enter Tryz.func133, Tryz.ntmps133
            go_wp2
            go_ret
            exact FIN.out (by rw [Bool.eq_iff_iff]; simp [cellB]; omega)
        · have t2 : (k == 2) = false := by simpa using k2
          have t3 : (k == 3) = false := by simpa using k3
          have HK : Hid (k ≠ 0 ∧ k ≠ 1 ∧ k ≠ 2 ∧ k ≠ 3) := ⟨k0, k1, k2, k3⟩
          clear k0 k1 k2 k3
          go_enter Tryz.func133, Tryz.ntmps133
          go_wp2
          go_ret
          exact FIN.out (by have := HK.out; rw [Bool.eq_iff_iff]; simp [cellB]; omega)
end Go.Proofs.YtpigjapbhbdhbaaGreatDoor

namespace Go.Proofs.YtpigjapbhbdhbaaGreatDoor
open Go Go.RowKit
set_option linter.unusedVariables false
theorem l2cell_any (k n : Int) (p : Option Addr) (m c : Nat) (w : World) :
    Calls Tryz.prog 87 #[.agg #[.int .i64 k, .int .i64 n, .slice p m c]] w fun e w' => e = .returned (.bool (cellB k n m)) ∧ Below w.heap.size w w' := by
  have fin : ∀ {a : Bool} {o : Obj}, a = cellB k n m → (Ending.returned (.bool a) = .returned (.bool (cellB k n m)) ∧ Below w.heap.size w (w.alloc o)) := fun h => ⟨ret_bool h, (Below.refl _ _).alloc (Nat.le_refl _) _⟩
  have FIN : Hid _ := @fin
  clear fin
  by_cases k0 : k = 0
  · subst k0
    by_cases a : 0 ≤ n
    · by_cases b : n ≤ 1000000
      · go_enter Tryz.func87, Tryz.ntmps87
        go_wp2
        go_ret
        exact FIN.out (by rw [Bool.eq_iff_iff]; simp [cellB]; omega)
      · go_enter Tryz.func87, Tryz.ntmps87
        go_wp2
        go_ret
        exact FIN.out (by rw [Bool.eq_iff_iff]; simp [cellB]; omega)
    · go_enter Tryz.func87, Tryz.ntmps87
      go_wp2
      go_ret
      exact FIN.out (by rw [Bool.eq_iff_iff]; simp [cellB]; omega)
  · by_cases k1 : k = 1
    · subst k1
      by_cases a : -1000000000000000 ≤ n
      · by_cases b : n ≤ 1000000000000000
        · go_enter Tryz.func87, Tryz.ntmps87
          go_wp2
          go_ret
          exact FIN.out (by rw [Bool.eq_iff_iff]; simp [cellB]; omega)
        · go_enter Tryz.func87, Tryz.ntmps87
          go_wp2
          go_ret
          exact FIN.out (by rw [Bool.eq_iff_iff]; simp [cellB]; omega)
      · go_enter Tryz.func87, Tryz.ntmps87
        go_wp2
        go_ret
        exact FIN.out (by rw [Bool.eq_iff_iff]; simp [cellB]; omega)
    · have t0 : (k == 0) = false := by simpa using k0
      have t1 : (k == 1) = false := by simpa using k1
      by_cases hm : 100 < m
      · have hm' : (100 : Int) < m := by omega
        have HK : Hid (k ≠ 0 ∧ k ≠ 1) := ⟨k0, k1⟩
        clear k0 k1
        go_enter Tryz.func87, Tryz.ntmps87
        go_wp2
        go_ret
        exact FIN.out (by have := HK.out; rw [Bool.eq_iff_iff]; simp [cellB]; omega)
      · have hm' : ¬ (100 : Int) < m := by omega
        by_cases k2 : k = 2
        · subst k2
          clear t0 t1 k0 k1
          go_enter Tryz.func87, Tryz.ntmps87
          go_wp2
          go_ret
          exact FIN.out (by rw [Bool.eq_iff_iff]; simp [cellB]; omega)
        · by_cases k3 : k = 3
          · subst k3
            clear t0 t1 k0 k1 k2
            by_cases a : 1 ≤ n
            · go_enter Tryz.func87, Tryz.ntmps87
              go_wp2
              go_ret
              exact FIN.out (by rw [Bool.eq_iff_iff]; simp [cellB]; omega)
            · go_enter Tryz.func87, Tryz.ntmps87
              go_wp2
              go_ret
              exact FIN.out (by rw [Bool.eq_iff_iff]; simp [cellB]; omega)
          · have t2 : (k == 2) = false := by simpa using k2
            have t3 : (k == 3) = false := by simpa using k3
            have HK : Hid (k ≠ 0 ∧ k ≠ 1 ∧ k ≠ 2 ∧ k ≠ 3) := ⟨k0, k1, k2, k3⟩
            clear k0 k1 k2 k3
            go_enter Tryz.func87, Tryz.ntmps87
            go_wp2
            go_ret
            exact FIN.out (by have := HK.out; rw [Bool.eq_iff_iff]; simp [cellB]; omega)
end Go.Proofs.YtpigjapbhbdhbaaGreatDoor

