/- Texts of CelA, Sz, Cell1, CArg. Own work of the verifier. -/
import Derived.Test.YtjhbplgppakhoaaGreatDoorUqaa
import Derived.Deep.Light
namespace Go.Proofs.YtjhbplgppakhoaaGreatDoor
open Go Go.RowKit
set_option linter.unusedVariables false
abbrev Cel := Int × Int × List Int
def Cel.none : Cel := (0, 0, [])
theorem BIn.drewN {W : World} {p : Option Addr} {xs : List Int} (h : BIn W p xs) (m : Nat) : BIn (W.drewN m) p xs := h
def tl : List Cel → Nat
  | [] => 0
  | c :: r => c.2.2.length + tl r
theorem tl_take : ∀ (cs : List Cel) (k : Nat), k < cs.length → tl (cs.take (k + 1)) = tl (cs.take k) + (cs.getD k Cel.none).2.2.length
  | [], k, h => by simp at h
  | c :: r, 0, _ => by simp [tl]
  | c :: r, k + 1, h => by
    have := tl_take r k (by simpa using h)
    simp only [List.take_succ_cons, tl, this]
    simp; omega
theorem tl_take_le : ∀ (cs : List Cel) (k : Nat), tl (cs.take k) ≤ tl cs
  | [], k => by simp [tl]
  | c :: r, 0 => by simp [tl]
  | c :: r, k + 1 => by have := tl_take_le r k; simp only [List.take_succ_cons, tl]; omega
theorem tl_at (cs : List Cel) (k : Nat) (h : k < cs.length) : (cs.getD k Cel.none).2.2.length ≤ tl cs := by
  have := tl_take cs k h
  have := tl_take_le cs (k + 1)
  omega
def szR (L n : Nat) : Int := if n ≤ L then (L : Int) - n else -1
end Go.Proofs.YtjhbplgppakhoaaGreatDoor

namespace Go.Proofs.YtjhbplgppakhoaaGreatDoor
open Go Go.RowKit
set_option linter.unusedVariables false
theorem szByteS_any (p : Option Addr) (n cap L : Nat) (w : World) (hL : L ≤ 1048576) (hn : n ≤ 9223372036854775807) :
    Calls Tryz.prog 30 #[.slice p n cap, .int .i64 L] w fun e w' => e = .returned (.int .i64 (szR L n)) ∧ w' = w := by
  by_cases h : n ≤ L
  · have e : szR L n = (L : Int) - n := by simp [szR, h]
    rw [e]
    have h0 : ¬ ((L : Int) - n < 0) := by omega
    go_enter Tryz.func30, Tryz.ntmps30
    go_wp2
    go_ret
    exact ⟨rfl, rfl⟩
  · have e : szR L n = -1 := by simp [szR, h]
    rw [e]
    have h0 : (L : Int) - n < 0 := by omega
    go_enter Tryz.func30, Tryz.ntmps30
    go_wp2
    go_ret
    exact ⟨rfl, rfl⟩
end Go.Proofs.YtjhbplgppakhoaaGreatDoor

namespace Go.Proofs.YtjhbplgppakhoaaGreatDoor
open Go Go.RowKit
set_option linter.unusedVariables false
def CAt (w : World) (b o : Nat) (c : Cel) : Prop :=
  ∃ p cap, w.cell? ⟨b, o, none⟩ = some (.int .i64 c.1) ∧ w.cell? ⟨b, o + 1, none⟩ = some (.int .i64 c.2.1) ∧ w.cell? ⟨b, o + 2, none⟩ = some (.slice p c.2.2.length cap) ∧ BIn w p c.2.2
def CIn (w : World) (p : Option Addr) (cs : List Cel) : Prop :=
  0 < cs.length → ∃ b o, p = some ⟨b, o, none⟩ ∧ ∀ i, i < cs.length → CAt w b (o + i * 3) (cs.getD i Cel.none)
theorem CAt.below {W W' : World} {b o : Nat} {c : Cel} (h : CAt W b o c) (hb : Below W.heap.size W W') : CAt W' b o c := by
  obtain ⟨p, cap, h0, h1, h2, h3⟩ := h
  exact ⟨p, cap, (hb.cell (World.block_lt_of_cell? _ _ h0)).trans h0, (hb.cell (World.block_lt_of_cell? _ _ h1)).trans h1, (hb.cell (World.block_lt_of_cell? _ _ h2)).trans h2, h3.below hb⟩
theorem CIn.below {W W' : World} {p : Option Addr} {cs : List Cel} (h : CIn W p cs) (hb : Below W.heap.size W W') : CIn W' p cs := fun hn => by
  obtain ⟨b, o, rfl, hc⟩ := h hn
  exact ⟨b, o, rfl, fun i hi => (hc i hi).below hb⟩
theorem CIn.drewN {W : World} {p : Option Addr} {cs : List Cel} (h : CIn W p cs) (m : Nat) : CIn (W.drewN m) p cs := h
theorem szCell_any (k n : Int) (p : Option Addr) (m cap L : Nat) (w : World) (hL : L ≤ 1048576) (hn : m ≤ 9223372036854775807) :
    Calls Tryz.prog 29 #[.agg #[.int .i64 k, .int .i64 n, .slice p m cap], .int .i64 L] w fun e w' => e = .returned (.int .i64 (szR L m)) ∧ Below w.heap.size w w' := by
  by_cases h : m ≤ L
  · have e : szR L m = (L : Int) - m := by simp [szR, h]
    have HS := fun w => szByteS_any p m cap L w hL hn
    rw [e] at HS ⊢
    have h0 : ¬ ((L : Int) - m < 0) := by omega
    go_enter Tryz.func29, Tryz.ntmps29
    go_wp2_with (go_at_call 30; refine (HS _).mono ?_; rintro e w' ⟨rfl, rfl⟩)
    go_ret
    exact ⟨rfl, (Below.refl _ _).alloc (Nat.le_refl _) _⟩
  · have e : szR L m = -1 := by simp [szR, h]
    have HS := fun w => szByteS_any p m cap L w hL hn
    rw [e] at HS ⊢
    go_enter Tryz.func29, Tryz.ntmps29
    go_wp2_with (go_at_call 30; refine (HS _).mono ?_; rintro e w' ⟨rfl, rfl⟩)
    go_ret
    exact ⟨rfl, (Below.refl _ _).alloc (Nat.le_refl _) _⟩
theorem szCellS_any (p : Option Addr) (cap : Nat) (cs : List Cel) (L : Nat) (w : World) (hL : L ≤ 1048576) (hn : cs.length ≤ 9223372036854775807) (hm : ∀ i, i < cs.length → (cs.getD i Cel.none).2.2.length ≤ 9223372036854775807) (hc : CIn w p cs) :
    Calls Tryz.prog 6 #[.slice p cs.length cap, .int .i64 L] w fun e w' => e = .returned (.int .i64 (szR L (cs.length + tl cs))) ∧ Below w.heap.size w w' := by
  by_cases h : cs.length ≤ L
  · have h0 : ¬ ((L : Int) - cs.length < 0) := by omega
    go_enter Tryz.func6, Tryz.ntmps6
    go_wp2
    have HL : Hid (cs.length ≤ L) := h
    clear h h0
    go_loopw [1, 5] (fun l i wr => ∃ k : Nat, k ≤ cs.length ∧ i = .int .i64 k ∧ Hid (cs.length + tl (cs.take k) ≤ L) ∧ l = .int .i64 ((L : Int) - (cs.length + tl (cs.take k) : Nat)) ∧ Below w.heap.size w wr) (fun _ i _ => cs.length - (intOf i).toNat)
    case atStart => exact ⟨0, Nat.zero_le _, rfl, by simpa [tl, Hid] using HL.out, by simp [tl], Below.refl _ _⟩
    case round =>
      obtain ⟨k, hk, rfl, HT, rfl, hbr⟩ := hrel
      by_cases hlt : k < cs.length
      · obtain ⟨b, o, rfl, hcs⟩ := hc (by omega)
        obtain ⟨q, qc, h0, h1, h2, _⟩ := (hcs k hlt).below hbr
        have hmk := hm k hlt
        have htk : Hid _ := tl_take cs k hlt
        have htl : Hid _ := tl_take_le cs (k + 1)
        obtain ⟨c0, e0⟩ : ∃ x, x = (cs.getD k Cel.none).1 := ⟨_, rfl⟩
        obtain ⟨c1, e1⟩ : ∃ x, x = (cs.getD k Cel.none).2.1 := ⟨_, rfl⟩
        obtain ⟨m, em⟩ : ∃ x, x = (cs.getD k Cel.none).2.2.length := ⟨_, rfl⟩
        rw [← e0] at h0
        rw [← e1] at h1
        rw [← em] at h2 hmk htk
        obtain ⟨L', eL⟩ : ∃ x, x = L - (cs.length + tl (cs.take k)) := ⟨_, rfl⟩
        have eL' : ((L : Int) - (cs.length + tl (cs.take k) : Nat)) = (L' : Int) := by have := HT.out; omega
        have hL' : L' ≤ 1048576 := by omega
        rw [eL']
        have HE : Hid (L' = L - (cs.length + tl (cs.take k))) := eL
        have HB : Hid (Below w.heap.size w wr) := hbr
        clear e0 e1 em eL eL' hcs hc hbr hm
        by_cases hfit : m ≤ L'
        · have e : szR L' m = (L' : Int) - m := by simp [szR, hfit]
          have HS := fun w => szCell_any c0 c1 q m qc L' w hL' hmk
          rw [e] at HS
          have h0' : ¬ ((L' : Int) - m < 0) := by omega
          go_wp2_with (go_at_call 29; refine (HS _).mono ?_; rintro e w' ⟨rfl, hb1⟩)
          go_roundw
          case rel => exact ⟨k + 1, by omega, by go_num, by have := HT.out; have := htk.out; have := HE.out; show _ ≤ _; omega, by have := HT.out; have := htk.out; have := HE.out; congr 1; omega, Below.on HB.out hb1⟩
          case measure => simp [intOf]; omega
        · have e : szR L' m = -1 := by simp [szR, hfit]
          have HS := fun w => szCell_any c0 c1 q m qc L' w hL' hmk
          rw [e] at HS
          go_wp2_with (go_at_call 29; refine (HS _).mono ?_; rintro e w' ⟨rfl, hb1⟩)
          go_ret
          refine ⟨ret_int ?_, Below.on HB.out hb1⟩
          have := HT.out; have := htk.out; have := HE.out; have := htl.out
          rw [szR, if_neg (by omega)]
      · obtain rfl : k = cs.length := by omega
        have HB : Hid (Below w.heap.size w wr) := hbr
        clear hbr hc hm
        rw [List.take_length] at *
        go_wp2
        go_ret
        exact ⟨ret_int (by rw [szR, if_pos HT.out]), HB.out⟩
  · have e : szR L (cs.length + tl cs) = -1 := by rw [szR, if_neg (by omega)]
    rw [e]
    have h0 : (L : Int) - cs.length < 0 := by omega
    clear hc hm
    go_enter Tryz.func6, Tryz.ntmps6
    go_wp2
    go_ret
    exact ⟨rfl, Below.refl _ _⟩
end Go.Proofs.YtjhbplgppakhoaaGreatDoor

namespace Go.Proofs.YtjhbplgppakhoaaGreatDoor
open Go Go.RowKit
set_option linter.unusedVariables false
structure CArg (w : World) (p : Option Addr) (cs : List Cel) : Prop where
  lies : CIn w p cs
  len : cs.length ≤ 9223372036854775807
  text : ∀ i, i < cs.length → (cs.getD i Cel.none).2.2.length ≤ 9223372036854775807
  byte : ∀ i, i < cs.length → ∀ x ∈ (cs.getD i Cel.none).2.2, 0 ≤ x ∧ x < 256
  wide : ∀ i, i < cs.length → -9223372036854775808 ≤ (cs.getD i Cel.none).1 ∧ (cs.getD i Cel.none).1 ≤ 9223372036854775807 ∧ -9223372036854775808 ≤ (cs.getD i Cel.none).2.1 ∧ (cs.getD i Cel.none).2.1 ≤ 9223372036854775807
theorem CArg.below {W W' : World} {p : Option Addr} {cs : List Cel} (h : CArg W p cs) (hb : Below W.heap.size W W') : CArg W' p cs := ⟨h.lies.below hb, h.len, h.text, h.byte, h.wide⟩
end Go.Proofs.YtjhbplgppakhoaaGreatDoor

