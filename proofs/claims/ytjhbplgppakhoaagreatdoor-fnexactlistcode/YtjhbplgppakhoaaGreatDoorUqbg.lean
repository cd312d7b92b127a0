/- Texts of IntE, StP, StH, StI. Own work of the verifier. -/
import Derived.Test.YtjhbplgppakhoaaGreatDoorUqbf
import Derived.Test.YtjhbplgppakhoaaGreatDoorUqab
import Derived.Test.YtjhbplgppakhoaaGreatDoorUqak
import Derived.Test.YtjhbplgppakhoaaGreatDoorUqae
namespace Go.Proofs.YtjhbplgppakhoaaGreatDoor
open Go Go.RowKit
set_option linter.unusedVariables false
theorem szIntS_any (p : Option Addr) (n cap L : Nat) (w : World) (hL : L ≤ 1048576) (hn : n ≤ 9223372036854775807) :
    Calls Tryz.prog 115 #[.slice p n cap, .int .i64 L] w fun e w' => e = .returned (.int .i64 (szR L n)) ∧ w' = w := by
  by_cases h : n ≤ L
  · have e : szR L n = (L : Int) - n := by simp [szR, h]
    rw [e]
    have h0 : ¬ ((L : Int) - n < 0) := by omega
    go_enter Tryz.func115, Tryz.ntmps115
    go_wp2
    go_ret
    exact ⟨rfl, rfl⟩
  · have e : szR L n = -1 := by simp [szR, h]
    rw [e]
    have h0 : (L : Int) - n < 0 := by omega
    go_enter Tryz.func115, Tryz.ntmps115
    go_wp2
    go_ret
    exact ⟨rfl, rfl⟩
theorem valsI_set (xs : List Int) (k : Nat) (h : k < xs.length) :
    ((xs.take k).map (Value.int .i64) ++ List.replicate (xs.length - k) (Value.int .i64 0)).set k (Value.int .i64 (xs.getD k 0)) = (xs.take (k + 1)).map (Value.int .i64) ++ List.replicate (xs.length - (k + 1)) (Value.int .i64 0) := by
  rw [List.set_append_right _ _ (by simp; omega), List.take_succ_eq_append_getElem h]
  have e : k - ((xs.take k).map (Value.int IntKind.i64)).length = 0 := by simp; omega
  rw [e, show xs.length - k = (xs.length - (k + 1)) + 1 by omega, List.replicate_succ, List.set_cons_zero, List.map_append, List.append_assoc]
  simp only [List.map_cons, List.map_nil, List.singleton_append, List.getD, List.getElem?_eq_getElem h, Option.getD_some]
theorem toIntS_any (p : Option Addr) (cap : Nat) (xs : List Int) (w : World) (hn : xs.length ≤ 1048576) (hc : IIn w p xs) :
    Calls Tryz.prog 118 #[.slice p xs.length cap] w fun e w' => e = .returned (.slice (some ⟨w.heap.size, 0, none⟩) xs.length xs.length) ∧
      w'.ownsRow w.heap.size 3 1 (.slice (some ⟨w.heap.size, 0, none⟩) xs.length xs.length) xs.length (xs.map (Value.int .i64)) ∧ Below w.heap.size w w' := by
  obtain ⟨i0, hi, hz0, hz1, hz2⟩ := info_parts infoInt
  have hmx : xs.length ≤ maxLen := by unfold maxLen; omega
  go_enter Tryz.func118, Tryz.ntmps118
  go_wp2_with (at_make; refine wpList_make_full _ rfl _ _ 91 rfl w.heap.size 3 i0 (.int .i64 0) 1 Tryz.underlying91 hi hz0 hz1 _ _ _ _ xs.length rfl rfl rfl rfl (by rw [hz2]; omega) hmx (Nat.le_refl _) ?_; intro w1 hown hgrow)
  have hb1 : Below w.heap.size w w1 := (Below.refl _ _).grown hgrow (Nat.le_refl _) (fun k h => by cases h)
  have HO : Hid (w1.ownsRow w.heap.size 3 1 (.slice (some ⟨w.heap.size, 0, none⟩) xs.length xs.length) xs.length (List.replicate xs.length (Value.int .i64 0))) := by
    have := hown; simp [Value.cells, toList_madeCells_one] at this; exact this
  clear hown hgrow
  go_loopw [4] (fun i wr => ∃ k : Nat, k ≤ xs.length ∧ i = .int .i64 k ∧ Hid (wr.ownsRow w.heap.size 3 1 (.slice (some ⟨w.heap.size, 0, none⟩) xs.length xs.length) xs.length ((xs.take k).map (Value.int .i64) ++ List.replicate (xs.length - k) (Value.int .i64 0))) ∧ Below w.heap.size w wr)
    (fun i _ => xs.length - (intOf i).toNat)
  case atStart => exact ⟨0, Nat.zero_le _, rfl, by simpa using HO, hb1⟩
  case round =>
    obtain ⟨k, hk, rfl, HR, hbr⟩ := hrel
    by_cases hlt : k < xs.length
    · obtain ⟨b, o, rfl, hcs⟩ := hc (by omega)
      have hx : wr.cell? ⟨b, o + k, none⟩ = some (.int .i64 (xs.getD k 0)) := (hbr.cell (World.block_lt_of_cell? _ _ (hcs k hlt))).trans (hcs k hlt)
      have hd : wr.cell? ⟨w.heap.size, k, none⟩ = some (.int .i64 0) := by
        rw [HR.out.cellAt k (by omega), List.getElem?_append_right (by simp; omega), List.getElem?_replicate, if_pos (by simp; omega)]
      have hf := HR.out.frozenAt k
      obtain ⟨x, ex⟩ : ∃ x, x = xs.getD k 0 := ⟨_, rfl⟩
      rw [← ex] at hx
      have HX : Hid (x = xs.getD k 0) := ex
      have HB : Hid (Below w.heap.size w wr) := hbr
      clear ex hcs hc hb1 HO hbr
      go_wp2
      go_roundw
      case rel => exact ⟨k + 1, by omega, by go_num, by
        have := HR.out.stored k (.int .i64 x)
        rw [HX.out, valsI_set xs k hlt] at this
        rw [HX.out]
        exact this.1, HB.out.setCell (p := ⟨w.heap.size, k, none⟩) (Nat.le_refl _) _⟩
      case measure => simp [intOf]; omega
    · obtain rfl : k = xs.length := by omega
      go_wp2
      go_ret
      exact ⟨rfl, by simpa using HR.out, hbr⟩
theorem eqIntL_any (p q : Option Addr) (n m c1 c2 : Nat) (xs : List Int) (w : World) (hn : n = xs.length) (hm : m = xs.length) (hl : n ≤ 1000000000) (hx : IIn w p xs) (hy : IIn w q xs) :
    Calls Tryz.prog 120 #[.slice p n c1, .slice q m c2] w fun e w' => e = .returned (.bool true) ∧ ∃ k, w' = w.drewN k := by
  obtain rfl : m = n := by omega
  have HN : Hid (m = xs.length) := hn
  have HX : Hid (IIn w p xs) := hx
  have HY : Hid (IIn w q xs) := hy
  clear hn hm hx hy
  go_enter Tryz.func120, Tryz.ntmps120
  go_wp2_with fail
  go_loopw [5] (fun i wr => ∃ k d : Nat, k ≤ m ∧ i = .int .i64 k ∧ Hid (wr = w.drewN d)) (fun i _ => m - (intOf i).toNat)
  case atStart => exact ⟨0, 0, Nat.zero_le _, rfl, rfl⟩
  case round =>
    obtain ⟨k, d, hk, rfl, HW⟩ := hrel
    by_cases hlt : k < m
    · have hkl : k < xs.length := by rw [← HN.out]; exact hlt
      obtain ⟨b, o, rfl, hcx⟩ := HX.out (by omega)
      obtain ⟨b', o', rfl, hcy⟩ := HY.out (by omega)
      have h1 : wr.cell? ⟨b, o + k, none⟩ = some (.int .i64 (xs.getD k 0)) := by rw [HW.out]; exact hcx k hkl
      have h2 : wr.cell? ⟨b', o' + k, none⟩ = some (.int .i64 (xs.getD k 0)) := by rw [HW.out]; exact hcy k hkl
      obtain ⟨x, ex⟩ : ∃ x, x = xs.getD k 0 := ⟨_, rfl⟩
      rw [← ex] at h1 h2
      clear ex hcx hcy
      go_wp2_with fail
      go_region
      all_goals go_wp2_with fail
      all_goals go_roundw
      case rel => exact ⟨k + 1, d + 1, by omega, by go_num, by rw [HW.out]; rfl⟩
      case measure => simp [intOf]; omega
    · obtain rfl : k = m := by omega
      go_wp2_with fail
      go_ret
      exact ⟨rfl, d, HW.out⟩
end Go.Proofs.YtjhbplgppakhoaaGreatDoor

namespace Go.Proofs.YtjhbplgppakhoaaGreatDoor
open Go Go.RowKit
set_option linter.unusedVariables false
def kndA (xs : List Cel) (i : Nat) : Int := (xs.getD i Cel.none).1
def numA (xs : List Cel) (i : Nat) : Int := (xs.getD i Cel.none).2.1
structure Shp (xs : List Cel) : Prop where
  len : xs.length ≤ 20000
  refs : ∀ a, a < xs.length → kndA xs a = 0 → 0 ≤ numA xs a ∧ numA xs a < xs.length ∧ kndA xs (numA xs a).toNat ≠ 3
  stru : ∀ a, a < xs.length → kndA xs a = 4 → 0 ≤ numA xs a ∧ numA xs a < xs.length ∧ kndA xs (numA xs a).toNat = 3
  funs : ∀ f, f < xs.length → kndA xs f = 3 → 1 ≤ numA xs f ∧ numA xs f ≤ 20 ∧ ∀ i : Nat, 1 ≤ i → (i : Int) ≤ numA xs f → f + i < xs.length ∧ kndA xs (f + i) ≠ 3
  knds : ∀ a, a < xs.length → kndA xs a = 0 ∨ kndA xs a = 1 ∨ kndA xs a = 2 ∨ kndA xs a = 3 ∨ kndA xs a = 4
def setM (m : Nat → Nat) (a v : Nat) : Nat → Nat := fun i => if i = a then v else m i
end Go.Proofs.YtjhbplgppakhoaaGreatDoor

namespace Go.Proofs.YtjhbplgppakhoaaGreatDoor
open Go Go.RowKit
set_option linter.unusedVariables false
end Go.Proofs.YtjhbplgppakhoaaGreatDoor

namespace Go.Proofs.YtjhbplgppakhoaaGreatDoor
open Go Go.RowKit
set_option linter.unusedVariables false
def eW (xs : List Cel) (k n : Int) : Int := if k = 0 then n + 1 else if k = 4 then n + 1 + numA xs n.toNat else 0
end Go.Proofs.YtjhbplgppakhoaaGreatDoor

