/- Texts of Tab0, WiA, WiB. Own work of the verifier. -/
import Derived.Test.YtgonpnnlpkjkcaaGreatDoorUqaa
import Derived.Test.YtgonpnnlpkjkcaaGreatDoorUqae
import Derived.Test.YtgonpnnlpkjkcaaGreatDoorUqab
namespace Go.Proofs.YtgonpnnlpkjkcaaGreatDoor
open Go Go.RowKit
set_option linter.unusedVariables false

/-- The table, as the program lays it. -/
def Tab (W : World) : Prop := ∀ i, i < 128 → W.cell? ⟨2, i, none⟩ = some (.int .u8 (tab.getD i 0))
theorem Tab.below {W W' : World} (h : Tab W) (hb : Below W.heap.size W W') : Tab W' := fun i hi => (hb.cell (World.block_lt_of_cell? _ _ (h i hi))).trans (h i hi)

end Go.Proofs.YtgonpnnlpkjkcaaGreatDoor

namespace Go.Proofs.YtgonpnnlpkjkcaaGreatDoor
open Go Go.RowKit
set_option linter.unusedVariables false

def gap1 (x y : Int) : Bool := isOfB x 8 && isOfB y 8
def gap2 (x y : Int) : Bool := y == 40 || gap1 x y
def gap3 (x y : Int) : Bool := isOfB y 4 || gap2 x y
set_option maxRecDepth 100000 in
theorem gap1_any (x y : Int) (w : World) (hx0 : -9223372036854775808 ≤ x) (hx1 : x ≤ 9223372036854775807) (hy0 : -9223372036854775808 ≤ y) (hy1 : y ≤ 9223372036854775807) (hT : Tab w) :
    Calls Tryz.prog 116 #[.int .i64 x, .int .i64 y] w fun e w' => e = .returned (.bool (gap1 x y)) ∧ w' = w := by
  have H1 := isOf_any x 8 w hx0 hx1 hT
  have H2 := isOf_any y 8 w hy0 hy1 hT
  have HG : Hid (gap1 x y = (isOfB x 8 && isOfB y 8)) := rfl
  cases h1 : isOfB x 8 with
  | true =>
    rw [h1] at H1 HG
    go_enter Tryz.func116, Tryz.ntmps116
    go_wp2_with fail
    refine H1.mono ?_
    rintro e w1 ⟨rfl, hw1⟩
    rw [hw1]
    clear hw1
    go_wp2_with fail
    refine H2.mono ?_
    rintro e w2 ⟨rfl, hw2⟩
    rw [hw2]
    clear hw2
    go_wp2_with fail
    go_ret
    exact ⟨by rw [HG.out]; rfl, rfl⟩
  | false =>
    rw [h1] at H1 HG
    go_enter Tryz.func116, Tryz.ntmps116
    go_wp2_with fail
    refine H1.mono ?_
    rintro e w1 ⟨rfl, hw1⟩
    rw [hw1]
    clear hw1
    go_wp2_with fail
    go_ret
    exact ⟨by rw [HG.out]; rfl, rfl⟩
set_option maxRecDepth 100000 in
theorem gap2_any (x y : Int) (w : World) (hx0 : -9223372036854775808 ≤ x) (hx1 : x ≤ 9223372036854775807) (hy0 : -9223372036854775808 ≤ y) (hy1 : y ≤ 9223372036854775807) (hT : Tab w) :
    Calls Tryz.prog 127 #[.int .i64 x, .int .i64 y] w fun e w' => e = .returned (.bool (gap2 x y)) ∧ w' = w := by
  have H1 := gap1_any x y w hx0 hx1 hy0 hy1 hT
  have HG : Hid (gap2 x y = (y == 40 || gap1 x y)) := rfl
  obtain ⟨g, eg⟩ : ∃ g, g = gap1 x y := ⟨_, rfl⟩
  rw [← eg] at H1 HG
  clear eg
  by_cases h : y = 40
  · subst h
    go_enter Tryz.func127, Tryz.ntmps127
    go_wp2_with fail
    go_ret
    exact ⟨by rw [HG.out]; rfl, rfl⟩
  · have hb : (y == 40) = false := by simpa using h
    rw [hb] at HG
    go_enter Tryz.func127, Tryz.ntmps127
    go_wp2_with fail
    refine H1.mono ?_
    rintro e w2 ⟨rfl, hw2⟩
    rw [hw2]
    clear hw2
    go_wp2_with fail
    go_ret
    exact ⟨by rw [HG.out]; rfl, rfl⟩
set_option maxRecDepth 100000 in
theorem gap3_any (x y : Int) (w : World) (hx0 : -9223372036854775808 ≤ x) (hx1 : x ≤ 9223372036854775807) (hy0 : -9223372036854775808 ≤ y) (hy1 : y ≤ 9223372036854775807) (hT : Tab w) :
    Calls Tryz.prog 126 #[.int .i64 x, .int .i64 y] w fun e w' => e = .returned (.bool (gap3 x y)) ∧ w' = w := by
  have H1 := isOf_any y 4 w hy0 hy1 hT
  have H2 := gap2_any x y w hx0 hx1 hy0 hy1 hT
  have HG : Hid (gap3 x y = (isOfB y 4 || gap2 x y)) := rfl
  obtain ⟨g, eg⟩ : ∃ g, g = gap2 x y := ⟨_, rfl⟩
  rw [← eg] at H2 HG
  clear eg
  cases h1 : isOfB y 4 with
  | true =>
    rw [h1] at H1 HG
    go_enter Tryz.func126, Tryz.ntmps126
    go_wp2_with fail
    refine H1.mono ?_
    rintro e w1 ⟨rfl, hw1⟩
    rw [hw1]
    clear hw1
    go_wp2_with fail
    go_ret
    exact ⟨by rw [HG.out]; rfl, rfl⟩
  | false =>
    rw [h1] at H1 HG
    go_enter Tryz.func126, Tryz.ntmps126
    go_wp2_with fail
    refine H1.mono ?_
    rintro e w1 ⟨rfl, hw1⟩
    rw [hw1]
    clear hw1
    go_wp2_with fail
    refine H2.mono ?_
    rintro e w2 ⟨rfl, hw2⟩
    rw [hw2]
    clear hw2
    go_wp2_with fail
    go_ret
    exact ⟨by rw [HG.out]; rfl, rfl⟩

end Go.Proofs.YtgonpnnlpkjkcaaGreatDoor

namespace Go.Proofs.YtgonpnnlpkjkcaaGreatDoor
open Go Go.RowKit
set_option linter.unusedVariables false

def endI (R : List Int) : Int := if R = [] then -1 else R.getD (R.length - 1) 0
set_option maxRecDepth 100000 in
theorem last_any (wb : Nat) (p : Option Addr) (n c : Nat) (R : List Int) (w : World) (hc : w.cell? ⟨wb, 0, none⟩ = some (.slice p n c)) (hn : n = R.length) (hl : R.length ≤ 1000000000000) (hB : ∀ x ∈ R, 0 ≤ x ∧ x < 256) (hx : BIn w p R) :
    Calls Tryz.prog 74 #[.pointer (some ⟨wb, 0, none⟩)] w fun e w' => e = .returned (.int .i64 (endI R)) ∧ ∃ m, w' = w.drewN m := by
  by_cases h : R = []
  · have e : endI R = -1 := by unfold endI; rw [if_pos h]
    rw [e]
    subst h
    obtain rfl : n = 0 := hn
    clear hx hB hl e
    go_enter Tryz.func74, Tryz.ntmps74
    go_wp2_with fail
    go_ret
    exact ⟨rfl, 0, rfl⟩
  · obtain ⟨m, em⟩ : ∃ m, R.length = m + 1 := ⟨R.length - 1, by have : R.length ≠ 0 := fun h9 => h (List.eq_nil_of_length_eq_zero h9); omega⟩
    obtain ⟨b, o, rfl, hcs⟩ := hx (by omega)
    have h1 := hcs m (by omega)
    have e : endI R = R.getD m 0 := by unfold endI; rw [if_neg h, em]; rfl
    have hr := hB (R.getD m 0) (by simp [List.getD, em])
    obtain ⟨x, ex⟩ : ∃ x, x = R.getD m 0 := ⟨_, rfl⟩
    rw [e]
    rw [← ex] at h1 hr ⊢
    obtain ⟨hr1, hr2⟩ := hr
    have q1 : (n : Int) - 1 = (m : Int) := by omega
    have qw : IntKind.i64.wrap ((n : Int) - 1) = (m : Int) := by
      rw [q1]; simp [IntKind.wrap, IntKind.signed, IntKind.bits]; omega
    have qz : IntKind.i64.wrap (m : Int) = (m : Int) := by simp [IntKind.wrap, IntKind.signed, IntKind.bits]; omega
    have qx : IntKind.i64.wrap x = x := by simp [IntKind.wrap, IntKind.signed, IntKind.bits]; omega
    have q2 : (0 : Int) ≤ (m : Int) := by omega
    have q3 : (m : Int) < (n : Int) := by omega
    have q4 : m < n := by omega
    have q5 : ¬ n = 0 := by omega
    have q6 : ((n : Int) == 0) = false := by rw [beq_eq_false_iff_ne]; omega
    clear hcs hx hB hl e ex em h hn
    go_enter Tryz.func74, Tryz.ntmps74
    go_wp2_with fail
    go_region_held3 (fun W => W = w.drew) (rfl) (fail)
    go_wp2_with fail
    go_ret
    exact ⟨rfl, 1, rfl⟩

end Go.Proofs.YtgonpnnlpkjkcaaGreatDoor

