/- Where a word leads; is a heap whole and linked. Own work of the verifier. -/
import Derived.Test.YtcdcdpmjibcolaaStH
namespace Go.Proofs.Ytcdcdpmjibcolaa
open Go Go.RowKit
set_option linter.unusedVariables false

def fW (k n : Int) : Int := if k = 0 then n else if k = 4 then n + 1 else 0
def eW (xs : List Cel) (k n : Int) : Int := if k = 0 then n + 1 else if k = 4 then n + 1 + numA xs n.toNat else 0

theorem fldA (w : World) (s : ByteArray) (z : Int) : (Instr.field 125 (.agg #[.string s, .int .i64 z]) 1).run Try.prog w = .ok (.int .i64 z) w := by kernel_rfl

set_option maxRecDepth 100000 in
theorem behind_any (h : Nat) (c : Cel) (xs : List Cel) (tr : List Int) (w : World) (hs : Shp xs) (hk : c.1 = 0 ∨ c.1 = 1 ∨ c.1 = 2 ∨ c.1 = 3 ∨ c.1 = 4) (h0 : c.1 = 0 → 0 ≤ c.2.1 ∧ c.2.1 < xs.length) (h4 : c.1 = 4 → funB xs c.2.1 = true) (H : HeapAt w h xs tr) :
    Calls Try.prog 103 #[.pointer (some ⟨h, 0, none⟩), wv c] w fun e w' => e = .returned (.tuple #[.int .i64 (fW c.1 c.2.1), .int .i64 (eW xs c.1 c.2.1)]) ∧ Below w.heap.size w w' := by
  obtain ⟨i1, i2, _⟩ := isW c hk
  have hl := hs.len
  obtain ⟨k, n, t⟩ := c
  simp only at *
  generalize wv (k, n, t) = v at i1 i2 ⊢
  by_cases k0 : k = 0
  · subst k0
    obtain ⟨h1, h2⟩ := h0 rfl
    simp only [if_true, decide_true] at i1
    have e1 : fW 0 n = n := rfl
    have e2 : eW xs 0 n = n + 1 := rfl
    rw [e1, e2]
    clear h0 h4 hk e1 e2 i2 H
    go_enter Try.func103, Try.ntmps103
    go_wp2
    exact bodyPost_ret (v := .tuple #[.int .i64 n, .int .i64 (n + 1)]) (by simp [results, Try.results103, go_sem]) rfl ⟨rfl, Below.refl _ _⟩
  · by_cases k4 : k = 4
    · subst k4
      have hf := h4 rfl
      simp only [funB, decide_eq_true_eq] at hf
      obtain ⟨j, rfl⟩ : ∃ j : Nat, n = j := ⟨n.toNat, by omega⟩
      have hj : j < xs.length := by omega
      have h3 : kndA xs j = 3 := hf.2.2
      have hn := hs.funs j hj h3
      simp only [k0, if_false, decide_false] at i1
      simp only [if_true, decide_true] at i2
      have HF := functorAt_any h j xs tr w hl hj h3 H
      have fl := fldA
      have e1 : fW 4 j = (j : Int) + 1 := by simp [fW]
      have e2 : eW xs 4 j = (j : Int) + 1 + numA xs j := by simp [eW]
      rw [e1, e2]
      generalize numA xs j = m at HF hn ⊢
      have n1 := hn.1
      have n2 := hn.2.1
      generalize strOfNums (xs.getD j Cel.none).2.2 = s at HF
      clear h0 h4 hk e1 e2 k0 hf h3 hn H
      go_enter Try.func103, Try.ntmps103
      go_wp2_with (go_at_call 104; refine HF.mono ?_; rintro e w1 ⟨rfl, hb⟩)
      trace_state
      exact bodyPost_ret (v := .tuple #[.int .i64 ((j : Int) + 1), .int .i64 ((j : Int) + 1 + m)]) (by simp [results, Try.results103, go_sem]) rfl ⟨rfl, hb⟩
    · simp only [k0, if_false, decide_false] at i1
      simp only [k4, if_false, decide_false] at i2
      have e1 : fW k n = 0 := by simp [fW, k0, k4]
      have e2 : eW xs k n = 0 := by simp [eW, k0, k4]
      rw [e1, e2]
      clear h0 h4 hk e1 e2 k0 k4 H
      go_enter Try.func103, Try.ntmps103
      go_wp2
      exact bodyPost_ret (v := .tuple #[.int .i64 0, .int .i64 0]) (by simp [results, Try.results103, go_sem]) rfl ⟨rfl, Below.refl _ _⟩

set_option maxRecDepth 100000 in
theorem leadsOn_any (h : Nat) (c : Cel) (xs : List Cel) (tr : List Int) (w : World) (hl : xs.length ≤ 20000) (hkx : Knds xs) (hk : c.1 = 0 ∨ c.1 = 1 ∨ c.1 = 2 ∨ c.1 = 3 ∨ c.1 = 4) (H : HeapAt w h xs tr) :
    Calls Try.prog 91 #[.pointer (some ⟨h, 0, none⟩), wv c] w fun e w' => e = .returned (.bool (leadB xs c.1 c.2.1)) ∧ Below w.heap.size w w' := by
  obtain ⟨i1, i2, i3⟩ := isW c hk
  obtain ⟨k, n, t⟩ := c
  simp only at *
  generalize wv (k, n, t) = v at i1 i2 i3 ⊢
  by_cases k0 : k = 0
  · subst k0
    have HF := holdsWord_any h n xs tr w hl hkx H
    simp only [if_true, decide_true] at i1
    have e1 : leadB xs 0 n = isWB xs n := rfl
    rw [e1]
    generalize isWB xs n = r at HF ⊢
    clear e1 i2 i3 H hk hkx
    go_enter Try.func91, Try.ntmps91
    go_wp2_with (go_at_call 99; refine HF.mono ?_; rintro e w1 ⟨rfl, hb⟩)
    go_ret
    exact ⟨rfl, hb⟩
  · simp only [k0, if_false, decide_false] at i1
    by_cases k4 : k = 4
    · subst k4
      have HF := holdsFunctor_any h n xs tr w hl hkx H
      simp only [if_true, decide_true] at i2
      have e1 : leadB xs 4 n = funB xs n := rfl
      rw [e1]
      generalize funB xs n = r at HF ⊢
      clear e1 i3 H hk hkx k0
      go_enter Try.func91, Try.ntmps91
      go_wp2_with (go_at_call 105; refine HF.mono ?_; rintro e w1 ⟨rfl, hb⟩)
      go_ret
      exact ⟨rfl, hb⟩
    · simp only [k4, if_false, decide_false] at i2
      by_cases k3 : k = 3
      · subst k3
        simp only [if_true, decide_true] at i3
        have e1 : leadB xs 3 n = false := rfl
        rw [e1]
        generalize strOfNums t = s at i3
        clear e1 H hk hkx k0 k4
        go_enter Try.func91, Try.ntmps91
        go_wp2
        go_ret
        exact ⟨rfl, (Below.refl _ _).alloc (Nat.le_refl _) _⟩
      · simp only [k3, if_false, decide_false] at i3
        have e1 : leadB xs k n = true := by simp [leadB, k0, k3, k4]
        rw [e1]
        clear e1 H hk hkx k0 k4 k3
        go_enter Try.func91, Try.ntmps91
        go_wp2
        go_ret
        exact ⟨rfl, Below.refl _ _⟩

theorem drop_cel (xs : List Cel) (k : Nat) (h : k < xs.length) : xs.drop k = xs.getD k Cel.none :: xs.drop (k + 1) := by
  rw [List.drop_eq_getElem_cons h]
  simp [List.getD, h]
theorem wholeF_at (m : Int) (xs : List Cel) (k : Nat) (h : k < xs.length) : wholeF m (xs.drop k) = if kndA xs k = 3 then (if 0 < m then false else wholeF (numA xs k) (xs.drop (k + 1))) else wholeF (if 0 < m then m - 1 else m) (xs.drop (k + 1)) := by
  rw [drop_cel xs k h, wholeF]; rfl

set_option maxRecDepth 100000 in
theorem isWhole_any (p : Option Addr) (cap : Nat) (xs : List Cel) (w : World) (hl : xs.length ≤ 20000) (hk : Knds xs) (hf : ∀ a, a < xs.length → kndA xs a = 3 → 1 ≤ numA xs a ∧ numA xs a ≤ 20) (hw : WIn w p xs) :
    Calls Try.prog 55 #[.slice p xs.length cap] w fun e w' => e = .returned (.bool (wholeF 0 xs)) ∧ Below w.heap.size w w' := by
  have HW : Hid (WIn w p xs) := hw
  have HK : Hid (Knds xs) := hk
  have HF : Hid (∀ a, a < xs.length → kndA xs a = 3 → 1 ≤ numA xs a ∧ numA xs a ≤ 20) := hf
  clear hw hk hf
  go_enter Try.func55, Try.ntmps55
  go_wp2
  go_loopw [3, 10] (fun s i wr => ∃ (k : Nat) (m : Int), k ≤ xs.length ∧ 0 ≤ m ∧ m ≤ 20 ∧ s = .int .i64 m ∧ i = .int .i64 k ∧ Hid (wholeF 0 xs = wholeF m (xs.drop k)) ∧ Hid (Below w.heap.size w wr)) (fun _ i _ => xs.length - (intOf i).toNat)
  case atStart => exact ⟨0, 0, Nat.zero_le _, by decide, by decide, rfl, rfl, rfl, Below.refl _ _⟩
  case round =>
    obtain ⟨k, m, hk, hm0, hm1, rfl, rfl, HV, HB⟩ := hrel
    by_cases hlt : k < xs.length
    · obtain ⟨g, rfl, hc⟩ := HW.out (by omega)
      have hv := (HB.out.cell (World.block_lt_of_cell? _ _ (hc k hlt))).trans (hc k hlt)
      have I := (isW (xs.getD k Cel.none) (HK.out k hlt)).fn
      have HA : Hid _ := wholeF_at m xs k hlt
      generalize wv (xs.getD k Cel.none) = v at hv I
      have HFk := HF.out k hlt
      clear hc HW
      by_cases k3 : kndA xs k = 3
      · have k3' : (xs.getD k Cel.none).1 = 3 := k3
        simp only [k3', if_true, decide_true] at I
        rw [if_pos k3] at HA
        obtain ⟨n1, n2⟩ := HFk k3
        have eN : (xs.getD k Cel.none).2.1 = numA xs k := rfl
        rw [eN] at I
        generalize numA xs k = n at n1 n2 I HA
        generalize strOfNums (xs.getD k Cel.none).2.2 = s at I
        clear k3 k3' HFk eN
        by_cases hm : 0 < m
        · rw [if_pos hm] at HA
          go_wp2
          go_ret
          exact ⟨ret_bool (by rw [HV.out, HA.out]), HB.out.alloc HB.out.size _⟩
        · rw [if_neg hm] at HA
          go_wp2
          go_roundw
          case rel => exact ⟨k + 1, n, by omega, by omega, by omega, rfl, by go_num, by show _ = _; rw [HV.out, HA.out], HB.out.alloc HB.out.size _⟩
          case measure => simp [intOf]; omega
      · have k3' : ¬ (xs.getD k Cel.none).1 = 3 := k3
        simp only [k3', if_false, decide_false] at I
        rw [if_neg k3] at HA
        clear k3 k3' HFk
        by_cases hm : 0 < m
        · rw [if_pos hm] at HA
          go_wp2
          go_roundw
          case rel => exact ⟨k + 1, m - 1, by omega, by omega, by omega, by go_num, by go_num, by show _ = _; rw [HV.out, HA.out], HB.out.alloc HB.out.size _⟩
          case measure => simp [intOf]; omega
        · rw [if_neg hm] at HA
          go_wp2
          go_roundw
          case rel => exact ⟨k + 1, m, by omega, by omega, by omega, rfl, by go_num, by show _ = _; rw [HV.out, HA.out], HB.out.alloc HB.out.size _⟩
          case measure => simp [intOf]; omega
    · obtain rfl : k = xs.length := by omega
      have HV' : Hid (wholeF 0 xs = (m == 0)) := by
        have := HV.out
        rw [List.drop_length] at this
        exact this
      clear HV HW
      go_wp2
      go_ret
      exact ⟨ret_bool HV'.out.symm, HB.out⟩

end Go.Proofs.Ytcdcdpmjibcolaa
