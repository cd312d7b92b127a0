/- Texts of ProofCells, Pure, Base, Base2. Own work of the verifier. -/
import Derived.Test.YtjhbplgppakhoaaGreatDoorRows
import Derived.Test.YtjhbplgppakhoaaGreatDoorUqab
import Derived.ProofKit
import Derived.OpenShut
import Derived.Carry
import Derived.WalkSmall
import Derived.Deep.Slices
import Derived.Deep.Strs
import Derived.WalkKit
import Derived.Test.YtjhbplgppakhoaaGreatDoorPre
namespace Go.Proofs.YtjhbplgppakhoaaGreatDoor
open Go Go.ChangeShapes Go.WideShapes Go.ChangeAt Go.WideMaps Go.WideElems Go.RowKit Go.Deep
theorem own : ownKnob Tryz.prog.godebug = none := by kernel_rfl
theorem laidOut : laidOutB Tryz.prog = true := by kernel_rfl
theorem cellsByte : Tryz.prog.cellsOf 5 = 1 := by kernel_rfl
theorem cellsInt : Tryz.prog.cellsOf 3 = 1 := by kernel_rfl
theorem cellsText : Tryz.prog.cellsOf 28 = 1 := by kernel_rfl
theorem cellsCell : Tryz.prog.cellsOf 62 = 3 := by kernel_rfl
theorem openedText {H : Type} {enc : TypeId × Value → H} {W : World} {fuel : Nat} {v : Value} {x : DataW H × List MemPlace}
    (h : DataW.trod enc Tryz.prog W 0 (fun _ => true) true fuel 28 [v] = some x) :
    ∃ (p : Option Addr) (cap : Nat) (xs : List Int), v = .slice p xs.length cap ∧ xs.length ≤ 9223372036854775807 ∧ BIn W p xs ∧ ∀ y ∈ xs, 0 ≤ y ∧ y < 256 := by
  rcases open_ints Tryz.underlying28 Tryz.underlying5 cellsByte h with ⟨hcs, hx⟩ | ⟨a, len', cap', zs, hcs, _, hl, hm, hz, hx, hcell, hwz⟩
  · obtain rfl : v = .slice none 0 0 := by simpa using hcs
    exact ⟨none, 0, [], rfl, by decide, fun h => absurd h (Nat.lt_irrefl 0), fun x hx => by cases hx⟩
  · obtain rfl : v = .slice (some a) len' cap' := by simpa using hcs
    simp only [if_true] at hz
    unfold maxLen at hm
    refine ⟨some a, cap', zs.take len', by congr 1; simp; omega, by simp; omega, fun hn => ?_, fun x hx' => ?_⟩
    · have hn' : 0 < zs.length := by simp at hn; omega
      obtain ⟨b, o, s⟩ := a
      obtain rfl : s = none := by simpa [Addr.add] using World.cell?_spot (hcell 0 hn')
      refine ⟨b, o, rfl, fun i hi => ?_⟩
      have hi' : i < len' := by simp at hi; omega
      have := hcell i (by omega)
      rw [add_plain] at this
      rw [this]
      simp [List.getD, hi']
    · have h := hwz x (List.mem_of_mem_take hx')
      have h1 : IntKind.u8.min = 0 := rfl
      have h2 : IntKind.u8.max = 255 := rfl
      simp only [Lit.wf, Bool.and_eq_true, decide_eq_true_eq] at h
      omega
theorem wf_i64 {n : Int} (h : (Lit.int .i64 n).wf = true) : -9223372036854775808 ≤ n ∧ n ≤ 9223372036854775807 := by
  have h1 : IntKind.i64.min = -9223372036854775808 := rfl
  have h2 : IntKind.i64.max = 9223372036854775807 := rfl
  simp only [Lit.wf, Bool.and_eq_true, decide_eq_true_eq] at h
  omega
theorem three_of {cs : List Value} (h : cs.length = 3) : ∃ a b c, cs = [a, b, c] := by
  match cs, h with
  | [a, b, c], _ => exact ⟨a, b, c, rfl⟩
theorem openedCell {H : Type} {enc : TypeId × Value → H} {W : World} {fuel : Nat} {cs : List Value} {x : DataW H × List MemPlace}
    (h : DataW.trod enc Tryz.prog W 0 (fun _ => true) true fuel 62 cs = some x) :
    ∃ (k n : Int) (p : Option Addr) (cap : Nat) (xs : List Int), cs = [.int .i64 k, .int .i64 n, .slice p xs.length cap] ∧ xs.length ≤ 9223372036854775807 ∧ BIn W p xs ∧ (∀ y ∈ xs, 0 ≤ y ∧ y < 256) ∧
      (-9223372036854775808 ≤ k ∧ k ≤ 9223372036854775807 ∧ -9223372036854775808 ≤ n ∧ n ≤ 9223372036854775807) := by
  obtain ⟨y0, y1, y2, n, hx, hl, h0, h1, h2⟩ := trod_struct3 Tryz.underlying62 h
  rw [cellsCell] at hl
  obtain ⟨a, b, c, rfl⟩ := three_of hl
  simp only [cellsInt, cellsText, List.drop_zero, List.take_succ_cons, List.take_zero, List.drop_succ_cons] at h0 h1 h2
  obtain ⟨k, e0, _, w0⟩ := DataW.trod_int Tryz.underlying3 h0
  obtain ⟨m, e1, _, w1⟩ := DataW.trod_int Tryz.underlying3 h1
  obtain ⟨p, cap, xs, rfl, hlen, hin, hb⟩ := openedText h2
  obtain rfl : a = .int .i64 k := by simpa using e0
  obtain rfl : b = .int .i64 m := by simpa using e1
  exact ⟨k, m, p, cap, xs, rfl, hlen, hin, hb, (wf_i64 w0).1, (wf_i64 w0).2, (wf_i64 w1).1, (wf_i64 w1).2⟩
theorem getD_map_range (f : Nat → Cel) (n i : Nat) (h : i < n) : ((List.range n).map f).getD i Cel.none = f i := by
  simp [List.getD, h]
theorem openedCells {H : Type} {enc : TypeId × Value → H} {W : World} {a0 : Option Addr} {len cap : Nat} {d0 : DataW H} {p : List MemPlace}
    (h0 : DataW.Trod enc Tryz.prog W 0 (fun _ => true) true 23 (.slice a0 len cap) d0 p) : ∃ cs : List Cel, cs.length = len ∧ CArg W a0 cs := by
  obtain ⟨fuel, hf⟩ := h0
  rcases open_slice Tryz.underlying23 hf with ⟨hcs, hx⟩ | ⟨a, len', cap', m, n, D, Pl, hcs, hb, hl, hm, hmm, hx, hel⟩
  · simp [Value.cells] at hcs
    obtain ⟨rfl, rfl, rfl⟩ := hcs
    exact ⟨[], rfl, fun h => absurd h (Nat.lt_irrefl 0), by decide, fun i h => by simp at h, fun i h => by simp at h, fun i h => by simp at h⟩
  · simp [Value.cells] at hcs
    obtain ⟨rfl, rfl, rfl⟩ := hcs
    simp only [if_true] at hmm
    subst hmm
    unfold maxLen at hm
    obtain ⟨b, o, s⟩ := a
    have hs0 : ∀ i, i = 0 → i < len → s = none := fun i hi0 hlen => by
      obtain ⟨cs', hc, ht⟩ := hel i (by omega)
      obtain ⟨k, n', q, qc, xs, rfl, r1, r2, r3, r4⟩ := openedCell ht
      rw [cellsCell] at hc
      have g0 := (World.cells?_some hc).2.2 0 (by decide)
      have g := World.cell?_spot g0
      rw [hi0] at g
      simpa [Addr.add] using g
    have each : ∀ i, i < len → ∃ c : Cel, s = none ∧ CAt W b (o + i * 3) c ∧ c.2.2.length ≤ 9223372036854775807 ∧ (∀ y ∈ c.2.2, 0 ≤ y ∧ y < 256) ∧ (-9223372036854775808 ≤ c.1 ∧ c.1 ≤ 9223372036854775807 ∧ -9223372036854775808 ≤ c.2.1 ∧ c.2.1 ≤ 9223372036854775807) := fun i hi => by
      obtain ⟨cs', hc, ht⟩ := hel i (by omega)
      obtain ⟨k, n', q, qc, xs, rfl, r1, r2, r3, r4⟩ := openedCell ht
      rw [cellsCell] at hc
      have hs := (World.cells?_some hc).2.2
      have g0 := hs 0 (by decide)
      have g1 := hs 1 (by decide)
      have g2 := hs 2 (by decide)
      obtain rfl : s = none := hs0 0 rfl (by omega)
      simp only [add_plain] at g0 g1 g2
      exact ⟨(k, n', xs), rfl, ⟨q, qc, g0, g1, g2, r2⟩, r1, r3, r4⟩
    obtain ⟨f, hfx⟩ := choose_lt each
    have hat : ∀ i, i < len → ((List.range len).map f).getD i Cel.none = f i := fun i hi => getD_map_range f len i hi
    refine ⟨(List.range len).map f, by simp, fun hn => ?_, by simp; omega, fun i hi => ?_, fun i hi => ?_, fun i hi => ?_⟩
    · have hn' : 0 < len := by simpa using hn
      obtain rfl : s = none := (hfx 0 hn').1
      refine ⟨b, o, rfl, fun i hi => ?_⟩
      have hi' : i < len := by simpa using hi
      rw [hat i hi']
      exact (hfx i hi').2.1
    · have hi' : i < len := by simpa using hi
      rw [hat i hi']
      exact (hfx i hi').2.2.1
    · have hi' : i < len := by simpa using hi
      rw [hat i hi']
      exact (hfx i hi').2.2.2.1
    · have hi' : i < len := by simpa using hi
      rw [hat i hi']
      exact (hfx i hi').2.2.2.2
end Go.Proofs.YtjhbplgppakhoaaGreatDoor

namespace Go.Proofs.YtjhbplgppakhoaaGreatDoor
open Go
def smallB (c : Int) : Bool := decide (97 ≤ c ∧ c ≤ 122)
def digitB (c : Int) : Bool := decide (48 ≤ c ∧ c ≤ 57)
def alnumB (c : Int) : Bool := decide ((97 ≤ c ∧ c ≤ 122) ∨ (65 ≤ c ∧ c ≤ 90) ∨ c = 95 ∨ (48 ≤ c ∧ c ≤ 57))
def symL : List Int := [43, 45, 42, 47, 92, 94, 60, 62, 61, 126, 58, 46, 63, 64, 35, 38, 36]
def symbolB (c : Int) : Bool := symL.contains c
def tab : List Int := [0, 0, 0, 0, 0, 0, 0, 0, 0, 16, 16, 0, 0, 16, 0, 0, 0, 0, 0, 0, 0, 0, 0, 0, 0, 0, 0, 0, 0, 0, 0, 0,
  16, 32, 0, 8, 8, 0, 8, 0, 64, 64, 8, 8, 64, 8, 8, 8, 4, 4, 4, 4, 4, 4, 4, 4, 4, 4, 8, 32, 8, 8, 8, 8,
  8, 2, 2, 2, 2, 2, 2, 2, 2, 2, 2, 2, 2, 2, 2, 2, 2, 2, 2, 2, 2, 2, 2, 2, 2, 2, 2, 64, 8, 64, 8, 2,
  0, 1, 1, 1, 1, 1, 1, 1, 1, 1, 1, 1, 1, 1, 1, 1, 1, 1, 1, 1, 1, 1, 1, 1, 1, 1, 1, 64, 64, 64, 8, 0]
def isOfB (b k : Int) : Bool := decide (0 ≤ b) && (decide (b < 128) && (bits BinOp.and .u8 (tab.getD b.toNat 0) k != 0))
theorem isOf_all : (List.range 256).all (fun c => isOfB c 1 == smallB c && (isOfB c 7 == alnumB c && (isOfB c 8 == symbolB c))) = true := by decide +kernel
theorem isOf_at {c : Int} (h0 : 0 ≤ c) (h1 : c < 256) : isOfB c 1 = smallB c ∧ isOfB c 7 = alnumB c ∧ isOfB c 8 = symbolB c := by
  have h := List.all_eq_true.1 isOf_all c.toNat (by simp; omega)
  rw [show ((c.toNat : Nat) : Int) = c by omega] at h
  simpa using h
theorem isOf_hi {b k : Int} (h : 128 ≤ b) : isOfB b k = false := by
  have : ¬ b < 128 := by omega
  simp [isOfB, this]
theorem isOf_lo {b k : Int} (h : b < 0) : isOfB b k = false := by
  have : ¬ 0 ≤ b := by omega
  simp [isOfB, this]
theorem isOf_in {b k : Int} (h0 : 0 ≤ b) (h : b < 128) : isOfB b k = (bits BinOp.and .u8 (tab.getD b.toNat 0) k != 0) := by
  simp [isOfB, h0, h]
def runLen (f : Int → Bool) : List Int → Nat
  | [] => 0
  | x :: r => if f x then runLen f r + 1 else 0
theorem runLen_le (f : Int → Bool) : ∀ xs, runLen f xs ≤ xs.length
  | [] => Nat.le_refl _
  | x :: r => by have := runLen_le f r; unfold runLen; split <;> simp <;> omega
theorem runLen_all (f : Int → Bool) : ∀ xs, (runLen f xs = xs.length) ↔ xs.all f = true
  | [] => by simp [runLen]
  | x :: r => by
    have := runLen_all f r
    have := runLen_le f r
    unfold runLen
    by_cases h : f x = true
    · simp [h]; simpa using runLen_all f r
    · simp [h]
theorem runLen_stop (f : Int → Bool) : ∀ (xs : List Int) (k : Nat), k ≤ xs.length → (∀ i, i < k → f (xs.getD i 0) = true) → (k = xs.length ∨ f (xs.getD k 0) = false) → runLen f xs = k
  | [], k, h, _, _ => by simp at h; simp [runLen, h]
  | x :: r, 0, _, _, h2 => by
    rcases h2 with h2 | h2
    · simp at h2
    · have : f x = false := by simpa using h2
      simp [runLen, this]
  | x :: r, k + 1, h, h1, h2 => by
    have hx : f x = true := by simpa using h1 0 (by omega)
    have := runLen_stop f r k (by simpa using h) (fun i hi => by simpa using h1 (i + 1) (by omega)) (by simpa using h2)
    simp [runLen, hx, this]
def plainB (xs : List Int) : Bool :=
  if xs.length = 0 ∨ 100 < xs.length then false
  else if xs = [33] ∨ xs = [59] ∨ xs = [91, 93] ∨ xs = [123, 125] then true
  else if smallB (xs.getD 0 0) then xs.all alnumB
  else if xs = [46] ∨ xs.take 2 = [47, 42] then false
  else xs.all symbolB
def Bytes (xs : List Int) : Prop := ∀ x ∈ xs, 0 ≤ x ∧ x < 256
theorem Bytes.at {xs : List Int} (h : Bytes xs) (i : Nat) : 0 ≤ xs.getD i 0 ∧ xs.getD i 0 < 256 := by
  by_cases hi : i < xs.length
  · have := h xs[i] (List.getElem_mem hi)
    simpa [List.getD, hi] using this
  · simp [List.getD, List.getElem?_eq_none (Nat.le_of_not_lt hi)]
theorem Bytes.take {xs : List Int} (h : Bytes xs) (n : Nat) : Bytes (xs.take n) := fun x hx => h x (List.mem_of_mem_take hx)
theorem Bytes.drop {xs : List Int} (h : Bytes xs) (n : Nat) : Bytes (xs.drop n) := fun x hx => h x (List.mem_of_mem_drop hx)
end Go.Proofs.YtjhbplgppakhoaaGreatDoor

namespace Go.Proofs.YtjhbplgppakhoaaGreatDoor
open Go Go.RowKit
theorem small_any (c : Int) (w : World) (h0 : 0 ≤ c) (h1 : c < 256) : Calls Tryz.prog 116 #[.int .u8 c] w fun e w' => e = .returned (.bool (smallB c)) ∧ w' = w := by
  by_cases a : 97 ≤ c
  · by_cases b : c ≤ 122
    · go_enter Tryz.func116, Tryz.ntmps116
      go_wp2
      go_ret
      exact ⟨by simp [smallB, a, b], rfl⟩
    · go_enter Tryz.func116, Tryz.ntmps116
      go_wp2
      go_ret
      exact ⟨by simp [smallB, a, b], rfl⟩
  · go_enter Tryz.func116, Tryz.ntmps116
    go_wp2
    go_ret
    exact ⟨ret_bool (by simp only [smallB]; symm; simp; omega), rfl⟩
theorem digit_any (c : Int) (w : World) (h0 : 0 ≤ c) (h1 : c < 256) : Calls Tryz.prog 94 #[.int .u8 c] w fun e w' => e = .returned (.bool (digitB c)) ∧ w' = w := by
  by_cases a : 48 ≤ c
  · by_cases b : c ≤ 57
    · go_enter Tryz.func94, Tryz.ntmps94
      go_wp2
      go_ret
      exact ⟨by simp [digitB, a, b], rfl⟩
    · go_enter Tryz.func94, Tryz.ntmps94
      go_wp2
      go_ret
      exact ⟨by simp [digitB, a, b], rfl⟩
  · go_enter Tryz.func94, Tryz.ntmps94
    go_wp2
    go_ret
    exact ⟨ret_bool (by simp only [digitB]; symm; simp; omega), rfl⟩
theorem alnum_any (c : Int) (w : World) (h0 : 0 ≤ c) (h1 : c < 256) : Calls Tryz.prog 122 #[.int .u8 c] w fun e w' => e = .returned (.bool (alnumB c)) ∧ w' = w := by
  by_cases a : 97 ≤ c ∧ c ≤ 122
  · have hs : smallB c = true := by simp [smallB, a]
    go_enter Tryz.func122, Tryz.ntmps122
    go_wp2_with (go_at_call 116; refine (small_any c _ h0 h1).mono ?_; rintro e w' ⟨rfl, rfl⟩)
    go_ret
    exact ⟨by simp [alnumB, a], rfl⟩
  · have hs : smallB c = false := by simp only [smallB, a, decide_false]
    by_cases b : 65 ≤ c
    · by_cases b' : c ≤ 90
      · go_enter Tryz.func122, Tryz.ntmps122
        go_wp2_with (go_at_call 116; refine (small_any c _ h0 h1).mono ?_; rintro e w' ⟨rfl, rfl⟩)
        go_ret
        exact ⟨by simp [alnumB, a, b, b'], rfl⟩
      · by_cases d : c = 95
        · subst d
          go_enter Tryz.func122, Tryz.ntmps122
          go_wp2_with (go_at_call 116; refine (small_any _ _ h0 h1).mono ?_; rintro e w' ⟨rfl, rfl⟩)
          go_ret
          exact ⟨rfl, rfl⟩
        · have hd : digitB c = false := by simp [digitB]; omega
          have hz : alnumB c = false := by simp only [alnumB, decide_eq_false_iff_not]; omega
          rw [hz]
          clear a
          go_enter Tryz.func122, Tryz.ntmps122
          go_wp2_with (first | (go_at_call 116; refine (small_any c _ h0 h1).mono ?_; rintro e w' ⟨rfl, rfl⟩) | (go_at_call 94; refine (digit_any c _ h0 h1).mono ?_; rintro e w' ⟨rfl, rfl⟩))
          go_ret
          exact ⟨ret_bool (by simp [d, b']), rfl⟩
    · have d : ¬ c = 95 := by omega
      have hz : alnumB c = digitB c := by simp only [alnumB, digitB]; congr 1; rw [eq_iff_iff]; omega
      rw [hz]
      clear a
      go_enter Tryz.func122, Tryz.ntmps122
      go_wp2_with (first | (go_at_call 116; refine (small_any c _ h0 h1).mono ?_; rintro e w' ⟨rfl, rfl⟩) | (go_at_call 94; refine (digit_any c _ h0 h1).mono ?_; rintro e w' ⟨rfl, rfl⟩))
      go_ret
      exact ⟨ret_bool (by simp [d]), rfl⟩
end Go.Proofs.YtjhbplgppakhoaaGreatDoor

namespace Go.Proofs.YtjhbplgppakhoaaGreatDoor
open Go Go.RowKit
set_option linter.unusedVariables false
theorem sym_none (c : Int) (h : ∀ j, j < 17 → symL.getD j 0 ≠ c) : symbolB c = false := by
  unfold symbolB
  rw [Bool.eq_false_iff]
  intro hm
  rw [List.contains_iff_mem] at hm
  obtain ⟨i, hi, he⟩ := List.mem_iff_getElem.1 hm
  have h17 : i < 17 := hi
  exact h i h17 (by rw [List.getD, List.getElem?_eq_getElem hi]; exact he)
theorem sym_hit (c : Int) (k : Nat) (h : k < 17) (hk : symL.getD k 0 = c) : symbolB c = true := by
  unfold symbolB
  rw [List.contains_iff_mem, ← hk, List.getD, List.getElem?_eq_getElem (show k < symL.length from h)]
  exact List.getElem_mem _
theorem sym_fin : ∀ k : Fin 17, ((((⟨#[43, 45, 42, 47, 92, 94, 60, 62, 61, 126, 58, 46, 63, 64, 35, 38, 36]⟩ : ByteArray)[k.1]'k.2).toNat : Nat) : Int) = symL.getD k.1 0 := by decide +kernel
theorem sym_at (k : Nat) (h : k < (⟨#[43, 45, 42, 47, 92, 94, 60, 62, 61, 126, 58, 46, 63, 64, 35, 38, 36]⟩ : ByteArray).size) : ((((⟨#[43, 45, 42, 47, 92, 94, 60, 62, 61, 126, 58, 46, 63, 64, 35, 38, 36]⟩ : ByteArray)[k]'h).toNat : Nat) : Int) = symL.getD k 0 := sym_fin ⟨k, h⟩
theorem symbol_any (c : Int) (w : World) (h0 : 0 ≤ c) (h1 : c < 256) : Calls Tryz.prog 123 #[.int .u8 c] w fun e w' => e = .returned (.bool (symbolB c)) ∧ w' = w := by
  go_enter Tryz.func123, Tryz.ntmps123
  go_wp2
  go_loop [4] (fun i => ∃ k : Nat, k ≤ 17 ∧ i = .int .i64 k ∧ Hid (∀ j, j < k → symL.getD j 0 ≠ c)) (fun i => 17 - (intOf i).toNat)
  case atStart => exact ⟨0, Nat.zero_le _, rfl, fun _ h => absurd h (Nat.not_lt_zero _)⟩
  case round =>
    obtain ⟨k, hk, rfl, HN⟩ := hrel
    by_cases hlt : k < 17
    · go_wp2
      · go_ret
        have ht := ‹(_ == c) = true›
        rw [sym_at k hlt] at ht
        exact ⟨ret_bool (sym_hit c k hlt (by simpa using ht)).symm, rfl⟩
      · have ht := ‹(_ == c) = false›
        rw [sym_at k hlt] at ht
        go_round
        case rel => exact ⟨k + 1, by omega, by go_num, fun j hj => by
          by_cases e : j = k
          · subst e; simpa using ht
          · exact HN.out j (by omega)⟩
        case measure => simp [intOf]; omega
    · obtain rfl : k = 17 := by omega
      go_wp2
      go_ret
      exact ⟨ret_bool (sym_none c HN.out).symm, rfl⟩
theorem isOf_any (b k : Int) (w : World) (h0 : -9223372036854775808 ≤ b) (h1 : b ≤ 9223372036854775807) (hT : ∀ i, i < 128 → w.cell? ⟨2, i, none⟩ = some (.int .u8 (tab.getD i 0))) :
    Calls Tryz.prog 140 #[.int .i64 b, .int .u8 k] w fun e w' => e = .returned (.bool (isOfB b k)) ∧ w' = w := by
  by_cases a : 0 ≤ b
  · by_cases b' : b < 128
    · have hc := hT b.toNat (by omega)
      rw [isOf_in a b']
      clear hT
      go_enter Tryz.func140, Tryz.ntmps140
      go_wp2
      go_ret
      exact ⟨rfl, rfl⟩
    · rw [isOf_hi (by omega)]
      clear hT
      go_enter Tryz.func140, Tryz.ntmps140
      go_wp2
      go_ret
      exact ⟨rfl, rfl⟩
  · rw [isOf_lo (by omega)]
    clear hT
    go_enter Tryz.func140, Tryz.ntmps140
    go_wp2
    go_ret
    exact ⟨rfl, rfl⟩
theorem all_none {f : Int → Bool} {xs : List Int} (k : Nat) (h : k < xs.length) (hf : f (xs.getD k 0) = false) : xs.all f = false := by
  rw [Bool.eq_false_iff]
  intro ha
  have := List.all_eq_true.1 ha xs[k] (List.getElem_mem h)
  rw [List.getD, List.getElem?_eq_getElem h] at hf
  simp [this] at hf
theorem all_every {f : Int → Bool} {xs : List Int} (h : ∀ j, j < xs.length → f (xs.getD j 0) = true) : xs.all f = true := by
  rw [List.all_eq_true]
  intro x hx
  obtain ⟨i, hi, rfl⟩ := List.mem_iff_getElem.1 hx
  have := h i hi
  rwa [List.getD, List.getElem?_eq_getElem hi] at this
def allB (k : Int) (xs : List Int) : Bool := xs.all (isOfB · k)
theorem allOf_any (b cap : Nat) (xs : List Int) (k : Int) (w : World) (hb : Bytes xs) (hn : xs.length ≤ 100000000)
    (hc : ∀ i, i < xs.length → w.cell? ⟨b, i, none⟩ = some (.int .u8 (xs.getD i 0)))
    (hT : ∀ i, i < 128 → w.cell? ⟨2, i, none⟩ = some (.int .u8 (tab.getD i 0))) :
    Calls Tryz.prog 141 #[.slice (some ⟨b, 0, none⟩) xs.length cap, .int .u8 k] w fun e w' => e = .returned (.bool (allB k xs)) ∧ w' = w := by
  have HT : Hid (∀ i, i < 128 → w.cell? ⟨2, i, none⟩ = some (.int .u8 (tab.getD i 0))) := hT
  clear hT
  go_enter Tryz.func141, Tryz.ntmps141
  go_wp2
  go_loop [9] (fun i => ∃ j : Nat, j ≤ xs.length ∧ i = .int .i64 j ∧ Hid (∀ m, m < j → isOfB (xs.getD m 0) k = true)) (fun i => xs.length - (intOf i).toNat)
  case atStart => exact ⟨0, Nat.zero_le _, rfl, fun _ h => absurd h (Nat.not_lt_zero _)⟩
  case round =>
    obtain ⟨j, hj, rfl, HN⟩ := hrel
    by_cases hlt : j < xs.length
    · have hx := hc j hlt
      have hr := hb.at j
      obtain ⟨x, ex⟩ : ∃ x, x = xs.getD j 0 := ⟨_, rfl⟩
      rw [← ex] at hx hr
      have HX : Hid (x = xs.getD j 0) := ex
      clear ex hc
      by_cases ht : isOfB x k = true
      · go_wp2_with (go_at_call 140; refine (isOf_any _ _ _ (by omega) (by omega) HT.out).mono ?_; rintro e w' ⟨rfl, rfl⟩)
        go_round
        case rel => exact ⟨j + 1, by omega, by go_num, fun m hm => by
          by_cases e : m = j
          · subst e; rw [← HX.out]; exact ht
          · exact HN.out m (by omega)⟩
        case measure => simp [intOf]; omega
      · have ht' : isOfB x k = false := by simpa using ht
        clear ht
        go_wp2_with (go_at_call 140; refine (isOf_any _ _ _ (by omega) (by omega) HT.out).mono ?_; rintro e w' ⟨rfl, rfl⟩)
        go_ret
        exact ⟨ret_bool (all_none (f := (isOfB · k)) j hlt (by rw [← HX.out]; exact ht')).symm, rfl⟩
    · obtain rfl : j = xs.length := by omega
      go_wp2
      go_ret
      exact ⟨ret_bool (all_every (f := (isOfB · k)) HN.out).symm, rfl⟩
def clsB (s : Bool) (c : Int) : Bool := if s then symbolB c else alnumB c
end Go.Proofs.YtjhbplgppakhoaaGreatDoor

