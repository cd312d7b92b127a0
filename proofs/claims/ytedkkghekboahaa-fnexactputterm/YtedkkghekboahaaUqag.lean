/- Texts of StI, StL, StD. Own work of the verifier. -/
import Derived.Test.YtedkkghekboahaaUqaf
import Derived.Maps.OwnSet
import Derived.Maps.OwnOps
import Derived.ProofKit
namespace Go.Proofs.Ytedkkghekboahaa
open Go Go.RowKit
set_option linter.unusedVariables false

def fW (k n : Int) : Int := if k = 0 then n else if k = 4 then n + 1 else 0
def eW (xs : List Cel) (k n : Int) : Int := if k = 0 then n + 1 else if k = 4 then n + 1 + numA xs n.toNat else 0

theorem fldA (w : World) (s : ByteArray) (z : Int) : (Instr.field 131 (.agg #[.string s, .int .i64 z]) 1).run Try.prog w = .ok (.int .i64 z) w := by kernel_rfl

set_option maxRecDepth 100000 in
theorem behind_any (h : Nat) (c : Cel) (xs : List Cel) (tr : List Int) (w : World) (hs : Shp xs) (hk : c.1 = 0 ∨ c.1 = 1 ∨ c.1 = 2 ∨ c.1 = 3 ∨ c.1 = 4) (h0 : c.1 = 0 → 0 ≤ c.2.1 ∧ c.2.1 < xs.length) (h4 : c.1 = 4 → funB xs c.2.1 = true) (H : HeapAt w h xs tr) :
    Calls Try.prog 101 #[.pointer (some ⟨h, 0, none⟩), wv c] w fun e w' => e = .returned (.tuple #[.int .i64 (fW c.1 c.2.1), .int .i64 (eW xs c.1 c.2.1)]) ∧ Below w.heap.size w w' := by
  obtain ⟨i1, i2, _⟩ := isW c hk
  have hl := hs.len
  obtain ⟨k, n, t⟩ := c
  simp only at *
  generalize wv (k, n, t) = v at i1 i2 ⊢
  by_cases k0 : k = 0
  · subst k0
    obtain ⟨h1, h2⟩ := h0 rfl
    simp only [if_true, decide_true] at i1
    have e1 : fW 0 n = n := rfl
    have e2 : eW xs 0 n = n + 1 := rfl
    rw [e1, e2]
    clear h0 h4 hk e1 e2 i2 H
    go_enter Try.func101, Try.ntmps101
    go_wp2
    exact bodyPost_ret (v := .tuple #[.int .i64 n, .int .i64 (n + 1)]) (by simp [results, Try.results101, go_sem]) rfl ⟨rfl, Below.refl _ _⟩
  · by_cases k4 : k = 4
    · subst k4
      have hf := h4 rfl
      simp only [funB, decide_eq_true_eq] at hf
      obtain ⟨j, rfl⟩ : ∃ j : Nat, n = j := ⟨n.toNat, by omega⟩
      have hj : j < xs.length := by omega
      have h3 : kndA xs j = 3 := hf.2.2
      have hn := hs.funs j hj h3
      simp only [k0, if_false, decide_false] at i1
      simp only [if_true, decide_true] at i2
      have HF := functorAt_any h j xs tr w hl hj h3 H
      have fl := fldA
      have e1 : fW 4 j = (j : Int) + 1 := by simp [fW]
      have e2 : eW xs 4 j = (j : Int) + 1 + numA xs j := by simp [eW]
      rw [e1, e2]
      generalize numA xs j = m at HF hn ⊢
      have n1 := hn.1
      have n2 := hn.2.1
      generalize strOfNums (xs.getD j Cel.none).2.2 = s at HF
      clear h0 h4 hk e1 e2 k0 hf h3 hn H
      go_enter Try.func101, Try.ntmps101
      go_wp2_with (go_at_call 102; refine HF.mono ?_; rintro e w1 ⟨rfl, hb⟩)
      trace_state
      exact bodyPost_ret (v := .tuple #[.int .i64 ((j : Int) + 1), .int .i64 ((j : Int) + 1 + m)]) (by simp [results, Try.results101, go_sem]) rfl ⟨rfl, hb⟩
    · simp only [k0, if_false, decide_false] at i1
      simp only [k4, if_false, decide_false] at i2
      have e1 : fW k n = 0 := by simp [fW, k0, k4]
      have e2 : eW xs k n = 0 := by simp [eW, k0, k4]
      rw [e1, e2]
      clear h0 h4 hk e1 e2 k0 k4 H
      go_enter Try.func101, Try.ntmps101
      go_wp2
      exact bodyPost_ret (v := .tuple #[.int .i64 0, .int .i64 0]) (by simp [results, Try.results101, go_sem]) rfl ⟨rfl, Below.refl _ _⟩

set_option maxRecDepth 100000 in
theorem leadsOn_any (h : Nat) (c : Cel) (xs : List Cel) (tr : List Int) (w : World) (hl : xs.length ≤ 20000) (hkx : Knds xs) (hk : c.1 = 0 ∨ c.1 = 1 ∨ c.1 = 2 ∨ c.1 = 3 ∨ c.1 = 4) (H : HeapAt w h xs tr) :
    Calls Try.prog 91 #[.pointer (some ⟨h, 0, none⟩), wv c] w fun e w' => e = .returned (.bool (leadB xs c.1 c.2.1)) ∧ Below w.heap.size w w' := by
  obtain ⟨i1, i2, i3⟩ := isW c hk
  obtain ⟨k, n, t⟩ := c
  simp only at *
  generalize wv (k, n, t) = v at i1 i2 i3 ⊢
  by_cases k0 : k = 0
  · subst k0
    have HF := holdsWord_any h n xs tr w hl hkx H
    simp only [if_true, decide_true] at i1
    have e1 : leadB xs 0 n = isWB xs n := rfl
    rw [e1]
    generalize isWB xs n = r at HF ⊢
    clear e1 i2 i3 H hk hkx
    go_enter Try.func91, Try.ntmps91
    go_wp2_with (go_at_call 99; refine HF.mono ?_; rintro e w1 ⟨rfl, hb⟩)
    go_ret
    exact ⟨rfl, hb⟩
  · simp only [k0, if_false, decide_false] at i1
    by_cases k4 : k = 4
    · subst k4
      have HF := holdsFunctor_any h n xs tr w hl hkx H
      simp only [if_true, decide_true] at i2
      have e1 : leadB xs 4 n = funB xs n := rfl
      rw [e1]
      generalize funB xs n = r at HF ⊢
      clear e1 i3 H hk hkx k0
      go_enter Try.func91, Try.ntmps91
      go_wp2_with (go_at_call 105; refine HF.mono ?_; rintro e w1 ⟨rfl, hb⟩)
      go_ret
      exact ⟨rfl, hb⟩
    · simp only [k4, if_false, decide_false] at i2
      by_cases k3 : k = 3
      · subst k3
        simp only [if_true, decide_true] at i3
        have e1 : leadB xs 3 n = false := rfl
        rw [e1]
        generalize strOfNums t = s at i3
        clear e1 H hk hkx k0 k4
        go_enter Try.func91, Try.ntmps91
        go_wp2
        go_ret
        exact ⟨rfl, (Below.refl _ _).alloc (Nat.le_refl _) _⟩
      · simp only [k3, if_false, decide_false] at i3
        have e1 : leadB xs k n = true := by simp [leadB, k0, k3, k4]
        rw [e1]
        clear e1 H hk hkx k0 k4 k3
        go_enter Try.func91, Try.ntmps91
        go_wp2
        go_ret
        exact ⟨rfl, Below.refl _ _⟩

theorem drop_cel (xs : List Cel) (k : Nat) (h : k < xs.length) : xs.drop k = xs.getD k Cel.none :: xs.drop (k + 1) := by
  rw [List.drop_eq_getElem_cons h]
  simp [List.getD, h]
theorem wholeF_at (m : Int) (xs : List Cel) (k : Nat) (h : k < xs.length) : wholeF m (xs.drop k) = if kndA xs k = 3 then (if 0 < m then false else wholeF (numA xs k) (xs.drop (k + 1))) else wholeF (if 0 < m then m - 1 else m) (xs.drop (k + 1)) := by
  rw [drop_cel xs k h, wholeF]; rfl

set_option maxRecDepth 100000 in
theorem isWhole_any (p : Option Addr) (cap : Nat) (xs : List Cel) (w : World) (hl : xs.length ≤ 20000) (hk : Knds xs) (hf : ∀ a, a < xs.length → kndA xs a = 3 → 1 ≤ numA xs a ∧ numA xs a ≤ 20) (hw : WIn w p xs) :
    Calls Try.prog 58 #[.slice p xs.length cap] w fun e w' => e = .returned (.bool (wholeF 0 xs)) ∧ Below w.heap.size w w' := by
  have HW : Hid (WIn w p xs) := hw
  have HK : Hid (Knds xs) := hk
  have HF : Hid (∀ a, a < xs.length → kndA xs a = 3 → 1 ≤ numA xs a ∧ numA xs a ≤ 20) := hf
  clear hw hk hf
  go_enter Try.func58, Try.ntmps58
  go_wp2
  go_loopw [3, 10] (fun s i wr => ∃ (k : Nat) (m : Int), k ≤ xs.length ∧ 0 ≤ m ∧ m ≤ 20 ∧ s = .int .i64 m ∧ i = .int .i64 k ∧ Hid (wholeF 0 xs = wholeF m (xs.drop k)) ∧ Hid (Below w.heap.size w wr)) (fun _ i _ => xs.length - (intOf i).toNat)
  case atStart => exact ⟨0, 0, Nat.zero_le _, by decide, by decide, rfl, rfl, rfl, Below.refl _ _⟩
  case round =>
    obtain ⟨k, m, hk, hm0, hm1, rfl, rfl, HV, HB⟩ := hrel
    by_cases hlt : k < xs.length
    · obtain ⟨g, rfl, hc⟩ := HW.out (by omega)
      have hv := (HB.out.cell (World.block_lt_of_cell? _ _ (hc k hlt))).trans (hc k hlt)
      have I := (isW (xs.getD k Cel.none) (HK.out k hlt)).fn
      have HA : Hid _ := wholeF_at m xs k hlt
      generalize wv (xs.getD k Cel.none) = v at hv I
      have HFk := HF.out k hlt
      clear hc HW
      by_cases k3 : kndA xs k = 3
      · have k3' : (xs.getD k Cel.none).1 = 3 := k3
        simp only [k3', if_true, decide_true] at I
        rw [if_pos k3] at HA
        obtain ⟨n1, n2⟩ := HFk k3
        have eN : (xs.getD k Cel.none).2.1 = numA xs k := rfl
        rw [eN] at I
        generalize numA xs k = n at n1 n2 I HA
        generalize strOfNums (xs.getD k Cel.none).2.2 = s at I
        clear k3 k3' HFk eN
        by_cases hm : 0 < m
        · rw [if_pos hm] at HA
          go_wp2
          go_ret
          exact ⟨ret_bool (by rw [HV.out, HA.out]), HB.out.alloc HB.out.size _⟩
        · rw [if_neg hm] at HA
          go_wp2
          go_roundw
          case rel => exact ⟨k + 1, n, by omega, by omega, by omega, rfl, by go_num, by show _ = _; rw [HV.out, HA.out], HB.out.alloc HB.out.size _⟩
          case measure => simp [intOf]; omega
      · have k3' : ¬ (xs.getD k Cel.none).1 = 3 := k3
        simp only [k3', if_false, decide_false] at I
        rw [if_neg k3] at HA
        clear k3 k3' HFk
        by_cases hm : 0 < m
        · rw [if_pos hm] at HA
          go_wp2
          go_roundw
          case rel => exact ⟨k + 1, m - 1, by omega, by omega, by omega, by go_num, by go_num, by show _ = _; rw [HV.out, HA.out], HB.out.alloc HB.out.size _⟩
          case measure => simp [intOf]; omega
        · rw [if_neg hm] at HA
          go_wp2
          go_roundw
          case rel => exact ⟨k + 1, m, by omega, by omega, by omega, rfl, by go_num, by show _ = _; rw [HV.out, HA.out], HB.out.alloc HB.out.size _⟩
          case measure => simp [intOf]; omega
    · obtain rfl : k = xs.length := by omega
      have HV' : Hid (wholeF 0 xs = (m == 0)) := by
        have := HV.out
        rw [List.drop_length] at this
        exact this
      clear HV HW
      go_wp2
      go_ret
      exact ⟨ret_bool HV'.out.symm, HB.out⟩

end Go.Proofs.Ytedkkghekboahaa

namespace Go.Proofs.Ytedkkghekboahaa
open Go Go.RowKit Go.Maps
set_option linter.unusedVariables false

def linkC (xs : List Cel) (c : Cel) : Bool := decide (c.1 = 3) || leadB xs c.1 c.2.1
theorem all_at {xs : List Cel} {p : Cel → Bool} (h : ∀ j, j < xs.length → p (xs.getD j Cel.none) = true) : xs.all p = true := by
  rw [List.all_eq_true]
  intro c hc
  obtain ⟨j, hj, rfl⟩ := List.mem_iff_getElem.1 hc
  have := h j hj
  simpa [List.getD, hj] using this
theorem all_not {xs : List Cel} {p : Cel → Bool} {k : Nat} (hk : k < xs.length) (h : p (xs.getD k Cel.none) = false) : xs.all p = false := by
  rw [Bool.eq_false_iff]
  intro ha
  rw [List.all_eq_true.1 ha _ (mem_at hk)] at h; cases h
theorem allI_at {xs : List Int} {p : Int → Bool} (h : ∀ j, j < xs.length → p (xs.getD j 0) = true) : xs.all p = true := by
  rw [List.all_eq_true]
  intro c hc
  obtain ⟨j, hj, rfl⟩ := List.mem_iff_getElem.1 hc
  have := h j hj
  simpa [List.getD, hj] using this
theorem allI_not {xs : List Int} {p : Int → Bool} {k : Nat} (hk : k < xs.length) (h : p (xs.getD k 0) = false) : xs.all p = false := by
  rw [Bool.eq_false_iff]
  intro ha
  rw [List.all_eq_true.1 ha (xs.getD k 0) (by simp [List.getD, hk])] at h; cases h

set_option maxRecDepth 100000 in
theorem isLinked_any (h : Nat) (xs : List Cel) (tr : List Int) (w : World) (hl : xs.length ≤ 20000) (ht : tr.length ≤ 20000) (hk : Knds xs) (H : HeapAt w h xs tr) :
    Calls Try.prog 84 #[.pointer (some ⟨h, 0, none⟩)] w fun e w' => e = .returned (.bool (xs.all (linkC xs) && tr.all (isWB xs))) ∧ Below w.heap.size w w' := by
  have HH : Hid (HeapAt w h xs tr) := H
  have HK : Hid (Knds xs) := hk
  obtain ⟨pw, cw, pt, ct, h0, h1, hw, hi⟩ := H
  have HW : Hid (WIn w pw xs) := hw
  have HI : Hid (IIn w pt tr) := hi
  have hlt := World.block_lt_of_cell? _ _ h0
  clear hk hw hi
  go_enter Try.func84, Try.ntmps84
  go_wp2
  go_loopw [14] (fun i wr => ∃ (k : Nat), k ≤ xs.length ∧ i = .int .i64 k ∧ Hid (∀ j, j < k → linkC xs (xs.getD j Cel.none) = true) ∧ Hid (Below w.heap.size w wr)) (fun i _ => xs.length - (intOf i).toNat)
  case atStart => exact ⟨0, Nat.zero_le _, rfl, fun _ h => absurd h (Nat.not_lt_zero _), Below.refl _ _⟩
  case round =>
    obtain ⟨k, hk, rfl, HV, HB⟩ := hrel
    by_cases hlt' : k < xs.length
    · obtain ⟨g, rfl, hc⟩ := HW.out (by omega)
      have hv := (HB.out.cell (World.block_lt_of_cell? _ _ (hc k hlt'))).trans (hc k hlt')
      have I := (isW (xs.getD k Cel.none) (HK.out k hlt')).fn
      have HL : Hid (∀ W, Below w.heap.size w W → Calls Try.prog 91 #[.pointer (some ⟨h, 0, none⟩), wv (xs.getD k Cel.none)] W fun e w' => e = .returned (.bool (leadB xs (xs.getD k Cel.none).1 (xs.getD k Cel.none).2.1)) ∧ Below W.heap.size W w') := fun W hW => leadsOn_any h _ xs tr W hl HK.out (HK.out k hlt') (HH.out.below hW)
      have HE : Hid (linkC xs (xs.getD k Cel.none) = (decide ((xs.getD k Cel.none).1 = 3) || leadB xs (xs.getD k Cel.none).1 (xs.getD k Cel.none).2.1)) := rfl
      generalize wv (xs.getD k Cel.none) = v at hv I HL
      generalize leadB xs (xs.getD k Cel.none).1 (xs.getD k Cel.none).2.1 = r at HL HE
      clear hc HW
      by_cases k3 : (xs.getD k Cel.none).1 = 3
      · simp only [k3, if_true, decide_true, Bool.true_or] at I HE
        generalize (xs.getD k Cel.none).2.1 = n at I
        generalize strOfNums (xs.getD k Cel.none).2.2 = s at I
        clear k3 HL
        go_wp2
        go_roundw
        case rel => exact ⟨k + 1, by omega, by go_num, fun j hj => by
          rcases Nat.lt_or_eq_of_le (Nat.lt_succ_iff.1 hj) with hj | rfl
          · exact HV.out j hj
          · exact HE.out, HB.out.alloc HB.out.size _⟩
        case measure => simp [intOf]; omega
      · simp only [k3, if_false, decide_false, Bool.false_or] at I HE
        clear k3
        have HB1 : Hid (Below w.heap.size w (wr.alloc (Obj.cells #[.string ⟨#[]⟩, .int .i64 0] 131))) := HB.out.alloc HB.out.size _
        have HL' := HL.out _ HB1.out
        clear HL
        cases r
        · go_wp2_with (go_at_call 91; refine HL'.mono ?_; rintro e w2 ⟨rfl, hb2⟩)
          go_ret
          exact ⟨ret_bool (by rw [all_not hlt' HE.out]; rfl), Below.on HB1.out hb2⟩
        · go_wp2_with (go_at_call 91; refine HL'.mono ?_; rintro e w2 ⟨rfl, hb2⟩)
          go_roundw
          case rel => exact ⟨k + 1, by omega, by go_num, fun j hj => by
            rcases Nat.lt_or_eq_of_le (Nat.lt_succ_iff.1 hj) with hj | rfl
            · exact HV.out j hj
            · exact HE.out, Below.on HB1.out hb2⟩
          case measure => simp [intOf]; omega
    · obtain rfl : k = xs.length := by omega
      have HX : Hid (xs.all (linkC xs) = true) := all_at HV.out
      have h1' := (HB.out.cell (p := ⟨h, 1, none⟩) hlt).trans h1
      clear HV h0 h1
      go_wp2
      go_loopw [37] (fun i wr => ∃ (k : Nat), k ≤ tr.length ∧ i = .int .i64 k ∧ Hid (∀ j, j < k → isWB xs (tr.getD j 0) = true) ∧ Hid (Below w.heap.size w wr)) (fun i _ => tr.length - (intOf i).toNat)
      case atStart => exact ⟨0, Nat.zero_le _, rfl, fun _ h => absurd h (Nat.not_lt_zero _), HB.out⟩
      case round =>
        obtain ⟨k, hk, rfl, HV, HB⟩ := hrel
        by_cases hlt' : k < tr.length
        · obtain ⟨g, o, rfl, hc⟩ := HI.out (by omega)
          have hv := (HB.out.cell (World.block_lt_of_cell? _ _ (hc k hlt'))).trans (hc k hlt')
          have HL : Hid (Calls Try.prog 99 #[.pointer (some ⟨h, 0, none⟩), .int .i64 (tr.getD k 0)] wr fun e w' => e = .returned (.bool (isWB xs (tr.getD k 0))) ∧ Below wr.heap.size wr w') := holdsWord_any h _ xs tr wr hl HK.out (HH.out.below HB.out)
          have HE : Hid (isWB xs (tr.getD k 0) = isWB xs (tr.getD k 0)) := rfl
          generalize er : isWB xs (tr.getD k 0) = r at HL
          have HR : Hid _ := er
          clear er
          generalize tr.getD k 0 = t at hv HL
          have HL' := HL.out
          clear hc HI HL HE
          cases r
          · go_wp2_with (go_at_call 99; refine HL'.mono ?_; rintro e w2 ⟨rfl, hb2⟩)
            go_ret
            exact ⟨ret_bool (by rw [allI_not hlt' HR.out, Bool.and_false]), Below.on HB.out hb2⟩
          · go_wp2_with (go_at_call 99; refine HL'.mono ?_; rintro e w2 ⟨rfl, hb2⟩)
            go_roundw
            case rel => exact ⟨k + 1, by omega, by go_num, fun j hj => by
              rcases Nat.lt_or_eq_of_le (Nat.lt_succ_iff.1 hj) with hj | rfl
              · exact HV.out j hj
              · exact HR.out, Below.on HB.out hb2⟩
            case measure => simp [intOf]; omega
        · obtain rfl : k = tr.length := by omega
          have HY : Hid (tr.all (isWB xs) = true) := allI_at HV.out
          clear HV
          go_wp2
          go_ret
          exact ⟨ret_bool (by rw [HX.out, HY.out]; rfl), HB.out⟩

theorem lawIntK : Keyed Try.prog 3 := int_keyed Try.underlying3
theorem zeroPr (w : World) : (zeroValue 179).run Try.prog w = .ok (.int .i64 0) w := by kernel_rfl
/-- How whatever value reads as an element. -/
def anyP (v : Value) : Option (DataW Value × List MemPlace) := some (.held v, [])
/-- Block b is a map of at most N entries, which gives each address its mark. -/
def SMap (w : World) (b N : Nat) (m : Nat → Nat) : Prop := ∃ D : DataW Value, w.ownsMap Try.prog 3 anyP b N D ∧ ∀ x : Nat, D.atKey (.int .i64 x) (.held (.int .i64 0)) = .held (.int .i64 (m x))
theorem SMap.lt {w : World} {b N : Nat} {m : Nat → Nat} (h : SMap w b N m) : b < w.heap.size := by obtain ⟨D, h, _⟩ := h; exact h.lt
theorem SMap.of_block {w w' : World} {b N : Nat} {m : Nat → Nat} (h : SMap w b N m) (hb : w'.heap[b]? = w.heap[b]?) : SMap w' b N m := by
  obtain ⟨D, ⟨es, clock, h1, r⟩, h2⟩ := h
  exact ⟨D, ⟨es, clock, hb.trans h1, r⟩, h2⟩
theorem SMap.below {w w' : World} {b N : Nat} {m : Nat → Nat} (h : SMap w b N m) (hb : Below w.heap.size w w') : SMap w' b N m := h.of_block (hb.block _ h.lt)
theorem SMap.made (w : World) : SMap (w.alloc (.map #[] 0)) w.heap.size 0 (fun _ => 0) := ⟨_, World.ownsMap_made _ _ _ _, fun x => rfl⟩
theorem keyI (x : Nat) (h1 : x ≤ 1000000) : keyOf Try.prog 3 (.int .i64 x) = some (.int .i64 x) := keyOf_int_mk (P := Try.prog) Try.underlying3 (q := .i64) (a := x) (WalkArith.wf_i64 (by omega))
theorem SMap.look {w : World} {b N : Nat} {m : Nat → Nat} (h : SMap w b N m) (x : Nat) (h1 : x ≤ 1000000) :
    (Instr.lookup 163 (.map (some b)) (.int .i64 x) false).run Try.prog w = .ok (.int .i64 (m x)) w := by
  obtain ⟨D, hown, hat⟩ := h
  obtain ⟨v, ps, hrun, hv⟩ := hown.lookup lawIntK Try.underlying163 (zeroPr w) (zd := .held (.int .i64 0)) (zp := []) rfl (keyI x h1)
  rw [hrun]
  rw [hat] at hv
  simp only [anyP, Option.some.injEq, Prod.mk.injEq] at hv
  have hv := hv.1
  cases hv; rfl
theorem SMap.put {w : World} {b N : Nat} {m : Nat → Nat} (h : SMap w b N m) (hN : N ≤ 1000000) (x : Nat) (h1 : x ≤ 1000000) (v : Nat) :
    ∃ w', (Instr.mapUpdate 163 (.map (some b)) (.int .i64 x) (.int .i64 v)).run Try.prog w = .ok () w' ∧ SMap w' b (N + 1) (setM m x v) ∧ w.grownBy w' (some b) := by
  obtain ⟨D, hown, hat⟩ := h
  obtain ⟨w', hrun, hown', hg⟩ := hown.update lawIntK Try.underlying163 (by unfold maxLen; omega) (keyI x h1) (show anyP (.int .i64 v) = some (.held (.int .i64 v), []) from rfl)
  have hm := hown.isMap
  have hkl : WideAt.IsKeyLit (.int .i64 x) := trivial
  refine ⟨w', hrun, ⟨_, hown', fun y => ?_⟩, hg⟩
  by_cases e : y = x
  · subst e
    rw [atKey_put_same hm hkl]; simp [setM]
  · rw [atKey_put_other (by simp; omega), hat]; simp [setM, e]

end Go.Proofs.Ytedkkghekboahaa

namespace Go.Proofs.Ytedkkghekboahaa
open Go Go.RowKit Go.Maps
set_option linter.unusedVariables false

theorem first_of {xs : List Cel} (hs : Shp xs) {a : Nat} (ha : a < xs.length) : fW (kndA xs a) (numA xs a) = (firstK xs a : Nat) ∧ eW xs (kndA xs a) (numA xs a) = (endK xs a : Nat) ∧ firstK xs a ≤ endK xs a ∧ endK xs a ≤ xs.length ∧ (firstK xs a = endK xs a ↔ (kndA xs a ≠ 0 ∧ kndA xs a ≠ 4)) := by
  unfold fW eW firstK endK
  by_cases k0 : kndA xs a = 0
  · obtain ⟨r0, r1, _⟩ := hs.refs a ha k0
    simp only [k0, if_true]
    refine ⟨by omega, by omega, by omega, by omega, by simp⟩
  · by_cases k4 : kndA xs a = 4
    · obtain ⟨r0, r1, r2⟩ := hs.stru a ha k4
      obtain ⟨f1, f2, f3⟩ := hs.funs _ (by omega) r2
      have f4 := (f3 (numA xs (numA xs a).toNat).toNat (by omega) (by omega)).1
      simp only [k4]
      simp
      refine ⟨by omega, by omega, by omega, by omega⟩
    · simp [k0, k4]

theorem tg_head {α : Type} {r : α → α → Prop} {x y z : α} (h : r x y) (h2 : Relation.TransGen r y z) : Relation.TransGen r x z := by
  induction h2 with
  | single h' => exact .tail (.single h) h'
  | tail _ h' ih => exact .tail ih h'
/-- What leadsBack answers. -/
def BackOut (xs : List Cel) (a b N : Nat) (m : Nat → Nat) (w : World) (e : Ending) (w' : World) : Prop :=
  ∃ (r : Bool) (N' : Nat) (m' : Nat → Nat), e = .returned (.bool r) ∧ Below b w w' ∧ SMap w' b N' m' ∧ N' + 2 * unk xs.length m' ≤ N + 2 * unk xs.length m ∧
    (r = false → Acc (Kid xs) a ∧ (∀ o, m' o = 1 ↔ m o = 1) ∧ (∀ o, m' o = 2 → Acc (Kid xs) o) ∧ (∀ o, m o ≠ 0 → m' o ≠ 0) ∧ ∀ o, m' o ≤ 2) ∧ (r = true → ¬ Acc (Kid xs) a)
theorem Below.grows {b : Nat} {w w1 w2 : World} (h : Below b w w1) (hg : w1.grownBy w2 (some b)) (hlt : b < w1.heap.size) : Below b w w2 := h.grown hg (by omega) (fun k e => by cases e; exact Nat.le_refl _)

set_option maxHeartbeats 1000000 in
set_option maxRecDepth 100000 in
theorem leadsBack_any (h : Nat) (xs : List Cel) (tr : List Int) (w0 : World) (hs : Shp xs) (H : HeapAt w0 h xs tr) : ∀ (q a b N : Nat) (m : Nat → Nat) (w : World), a < xs.length → unk xs.length m < q → N + 2 * unk xs.length m ≤ 100000 → w0.heap.size ≤ b → Below w0.heap.size w0 w → SMap w b N m →
    (∀ o, m o = 1 → Relation.TransGen (Kid xs) a o) → (∀ o, m o = 2 → Acc (Kid xs) o) → (∀ o, m o ≤ 2) →
    Calls Try.prog 103 #[.pointer (some ⟨h, 0, none⟩), .int .i64 a, .map (some b)] w (BackOut xs a b N m w)
  | 0, a, b, N, m, w, ha, hq, _, _, _, _, _, _, _ => by omega
  | q + 1, a, b, N, m, w, ha, hq, hN, hb0, hB, hm, ho1, ho2, ho3 => by
    have IH : Hid _ := leadsBack_any h xs tr w0 hs H q
    have HS : Hid (Shp xs) := hs
    have HH : Hid (HeapAt w0 h xs tr) := H
    have HB : Hid (Below w0.heap.size w0 w) := hB
    have HM : Hid (SMap w b N m) := hm
    have HO1 : Hid (∀ o, m o = 1 → Relation.TransGen (Kid xs) a o) := ho1
    have HO2 : Hid (∀ o, m o = 2 → Acc (Kid xs) o) := ho2
    have HO3 : Hid (∀ o, m o ≤ 2) := ho3
    have HQ : Hid (unk xs.length m < q + 1) := hq
    have HN : Hid (N + 2 * unk xs.length m ≤ 100000) := hN
    have hl := hs.len
    have HX : Hid _ := first_of hs ha
    have HLT : Hid (b < w.heap.size) := hm.lt
    have HKA : Hid (Knds xs) := hs.knds
    obtain ⟨pw, cw, pt, ct, c0, c1, hw, hi⟩ := H.below hB
    obtain ⟨g, rfl, hc⟩ := hw (by omega)
    have hv := hc a ha
    have HBE := behind_any h (xs.getD a Cel.none) xs tr w hs (hs.knds a ha) (fun k => ⟨(hs.refs a ha k).1, (hs.refs a ha k).2.1⟩) (fun k => by have := hs.stru a ha k; simp only [funB, decide_eq_true_eq]; exact this) (H.below hB)
    rw [show fW (xs.getD a Cel.none).1 (xs.getD a Cel.none).2.1 = (firstK xs a : Nat) from HX.out.1, show eW xs (xs.getD a Cel.none).1 (xs.getD a Cel.none).2.1 = (endK xs a : Nat) from HX.out.2.1] at HBE
    generalize wv (xs.getD a Cel.none) = v at hv HBE
    obtain ⟨hx1, hx2, hx3, hx4, hx5⟩ := HX.out
    have HFE : Hid (firstK xs a = endK xs a ↔ (kndA xs a ≠ 0 ∧ kndA xs a ≠ 4)) := hx5
    have HFK : Hid (∀ y, Kid xs y a ↔ (varB xs a = false ∧ firstK xs a ≤ y ∧ y < endK xs a)) := fun y => Iff.rfl
    have HKN : Hid (∀ y, kndA xs a ≠ 0 → kndA xs a ≠ 4 → ¬ Kid xs y a) := fun y => kid_no
    generalize firstK xs a = f at HBE hx3 HFE HFK
    generalize endK xs a = z at HBE hx3 hx4 HFE HFK
    clear hc hw hi c1 hx1 hx2 hx5 HX hs H hB hm ho1 ho2 ho3 hq hN
    by_cases hfz : f = z
    · subst hfz
      go_enter Try.func103, Try.ntmps103
      go_wp2_with (go_at_call 101; refine HBE.mono ?_; rintro e w1 ⟨rfl, hb⟩)
      go_ret
      refine ⟨false, N, m, rfl, hb.mono (by have := HLT.out; omega), HM.out.below hb, Nat.le_refl _, fun _ => ⟨?_, fun o => Iff.rfl, HO2.out, fun o h => h, HO3.out⟩, fun h => by cases h⟩
      exact Acc.intro _ fun y hy => absurd hy (HKN.out y (HFE.out.1 (by trivial)).1 (HFE.out.1 (by trivial)).2)
    · have hfz' : ((f : Int) == (z : Int)) = false := by simp; omega
      have hfl : f < z := by omega
      have HV : Hid (∀ W, Below w.heap.size w W → Calls Try.prog 64 #[.pointer (some ⟨h, 0, none⟩), .int .i64 a] W fun e w' => e = .returned (.bool (varB xs a)) ∧ Below W.heap.size W w') := fun W hW => holdsVariable_any h a xs tr W hl HKA.out (HH.out.below (Below.on HB.out hW))
      clear hfz
      cases hvar : varB xs a
      · rw [hvar] at HV HFK
        have hma : m a = 0 ∨ m a = 1 ∨ m a = 2 := by have := HO3.out a; omega
        go_enter Try.func103, Try.ntmps103
        go_wp2_with fail
        refine HBE.mono ?_
        rintro e w1 ⟨rfl, hb⟩
        have HB1 : Hid (Below w.heap.size w w1) := hb
        clear hb HBE
        go_wp2_with fail
        refine (HV.out w1 HB1.out).mono ?_
        rintro e w2 ⟨rfl, hb⟩
        have HB2 : Hid (Below w.heap.size w w2) := Below.on HB1.out hb
        have HM2 : Hid (SMap w2 b N m) := HM.out.below HB2.out
        clear hb HV HB1 hvar c0 hv
        rcases hma with hma | hma | hma
        · have hlk : (Instr.lookup 163 (.map (some b)) (.int .i64 a) false).run Try.prog w2 = .ok (.int .i64 0) w2 := by have := HM2.out.look a (by omega); rw [hma] at this; exact this
          have hpt : ∃ w', (Instr.mapUpdate 163 (.map (some b)) (.int .i64 a) (.int .i64 1)).run Try.prog w2 = .ok () w' ∧ SMap w' b (N + 1) (setM m a 1) ∧ w2.grownBy w' (some b) := HM2.out.put (by have := HN.out; omega) a (by omega) 1
          obtain ⟨w3, hput, hm3, hg3⟩ := hpt
          have HM3 : Hid (SMap w3 b (N + 1) (setM m a 1)) := hm3
          have HB3 : Hid (Below b w w3) := Below.grows (HB2.out.mono (by have := HLT.out; omega)) hg3 HM2.out.lt
          have HU : Hid (unk xs.length (setM m a 1) < unk xs.length m) := unk_lt ha hma (by decide)
          have HMA : Hid (m a = 0) := hma
          clear hm3 hg3 hma
          go_wp2
          go_loopw [9] (fun i wr => ∃ (k N' : Nat) (m' : Nat → Nat), f ≤ k ∧ k ≤ z ∧ i = .int .i64 k ∧ Hid (Below b w wr) ∧ Hid (SMap wr b N' m') ∧ Hid (N' + 2 * unk xs.length m' + 1 ≤ N + 2 * unk xs.length m) ∧ Hid (unk xs.length m' < unk xs.length m) ∧
            Hid (∀ o, m' o = 1 ↔ (o = a ∨ m o = 1)) ∧ Hid (∀ o, m' o = 2 → Acc (Kid xs) o) ∧ Hid (∀ o, m o ≠ 0 → m' o ≠ 0) ∧ Hid (∀ o, m' o ≤ 2) ∧ Hid (∀ y, f ≤ y → y < k → Acc (Kid xs) y)) (fun i _ => z - (intOf i).toNat)
          case atStart =>
            refine ⟨f, N + 1, setM m a 1, Nat.le_refl _, hx3, rfl, HB3.out, HM3.out, ?_, HU.out, fun o => ?_, fun o h => ?_, fun o h => ?_, fun o => ?_, fun y h1 h2 => by omega⟩
            · show _ ≤ _; have := HU.out; omega
            · unfold setM; by_cases e : o = a <;> simp [e]
            · unfold setM at h; by_cases e : o = a
              · rw [if_pos e] at h; cases h
              · rw [if_neg e] at h; exact HO2.out o h
            · unfold setM; by_cases e : o = a
              · rw [if_pos e]; decide
              · rw [if_neg e]; exact h
            · unfold setM; by_cases e : o = a
              · rw [if_pos e]; decide
              · rw [if_neg e]; exact HO3.out o
          case round =>
            obtain ⟨k, N', m', hk1, hk2, rfl, HBr, HMr, HNr, HUr, HR1, HR2, HR3, HR4, HR5⟩ := hrel
            by_cases hlt : k < z
            · have HKid : Hid (Kid xs k a) := (HFK.out k).2 ⟨by trivial, hk1, hlt⟩
              have HC := IH.out k b N' m' wr (by omega) (by have := HUr.out; have := HQ.out; omega) (by have := HNr.out; have := HN.out; omega) hb0 (HB.out.trans (HBr.out.mono hb0)) HMr.out
                (fun o ho => by
                  rcases (HR1.out o).1 ho with rfl | h
                  · exact .single HKid.out
                  · exact tg_head HKid.out (HO1.out o h)) HR2.out HR4.out
              clear IH
              go_wp2_with fail
              refine HC.mono ?_
              rintro e w4 ⟨r, N2, m2, rfl, hb4, hm4, hn4, hr0, hr1⟩
              have HB4 : Hid (Below b w w4) := HBr.out.trans hb4
              have HM4 : Hid (SMap w4 b N2 m2) := hm4
              have HN4 : Hid (N2 + 2 * unk xs.length m2 ≤ N' + 2 * unk xs.length m') := hn4
              clear hb4 hm4 hn4 HC
              cases r
              · have H0 : Hid _ := hr0 rfl
                clear hr0 hr1
                go_wp2
                go_roundw
                case rel =>
                  obtain ⟨a1, a2, a3, a4, a5⟩ := H0.out
                  have u := unk_le (n := xs.length) a4
                  refine ⟨k + 1, N2, m2, by omega, by omega, by go_num, HB4.out, HM4.out, ?_, ?_, fun o => (a2 o).trans (HR1.out o), a3, fun o h => a4 o (HR3.out o h), a5, fun y h1 h2 => ?_⟩
                  · show _ ≤ _; have := HN4.out; have := HNr.out; omega
                  · show _ < _; have := HUr.out; omega
                  · rcases Nat.lt_or_eq_of_le (Nat.lt_succ_iff.1 h2) with h2 | rfl
                    · exact HR5.out y h1 h2
                    · exact a1
                case measure => simp [intOf]; omega
              · have H1 : Hid _ := hr1 rfl
                clear hr0 hr1
                go_wp2
                go_ret
                refine ⟨true, N2, m2, rfl, HB4.out, HM4.out, by have := HN4.out; have := HNr.out; omega, fun h => (by cases h), fun _ hacc => ?_⟩
                exact H1.out (hacc.inv HKid.out)
            · obtain rfl : k = z := by omega
              have hpt : ∃ w', (Instr.mapUpdate 163 (.map (some b)) (.int .i64 a) (.int .i64 2)).run Try.prog wr = .ok () w' ∧ SMap w' b (N' + 1) (setM m' a 2) ∧ wr.grownBy w' (some b) := HMr.out.put (by have := HNr.out; have := HN.out; omega) a (by omega) 2
              obtain ⟨w5, hput5, hm5, hg5⟩ := hpt
              have HM5 : Hid (SMap w5 b (N' + 1) (setM m' a 2)) := hm5
              have HB5 : Hid (Below b w w5) := Below.grows HBr.out hg5 HMr.out.lt
              clear hm5 hg5 hput hlk IH
              go_wp2
              go_ret
              have hacc : Acc (Kid xs) a := Acc.intro _ fun y hy => HR5.out y ((HFK.out y).1 hy).2.1 ((HFK.out y).1 hy).2.2
              have u : unk xs.length (setM m' a 2) ≤ unk xs.length m' := unk_le fun o h => by
                unfold setM; by_cases e : o = a
                · rw [if_pos e]; decide
                · rw [if_neg e]; exact h
              refine ⟨false, N' + 1, setM m' a 2, rfl, HB5.out, HM5.out, by have := HNr.out; omega, fun _ => ⟨hacc, fun o => ?_, fun o h => ?_, fun o h => ?_, fun o => ?_⟩, fun h => by cases h⟩
              · unfold setM; by_cases e : o = a
                · subst e; simp [HMA.out]
                · rw [if_neg e, HR1.out o]; simp [e]
              · unfold setM at h; by_cases e : o = a
                · subst e; exact hacc
                · rw [if_neg e] at h; exact HR2.out o h
              · unfold setM; by_cases e : o = a
                · rw [if_pos e]; decide
                · rw [if_neg e]; exact HR3.out o h
              · unfold setM; by_cases e : o = a
                · rw [if_pos e]; decide
                · rw [if_neg e]; exact HR4.out o
        · have hlk : (Instr.lookup 163 (.map (some b)) (.int .i64 a) false).run Try.prog w2 = .ok (.int .i64 1) w2 := by have := HM2.out.look a (by omega); rw [hma] at this; exact this
          have HMA : Hid (m a = 1) := hma
          clear hma
          go_wp2
          go_ret
          exact ⟨true, N, m, rfl, HB2.out.mono (by have := HLT.out; omega), HM2.out, Nat.le_refl _, fun h => (by cases h), fun _ => acc_loop (HO1.out a HMA.out)⟩
        · have hlk : (Instr.lookup 163 (.map (some b)) (.int .i64 a) false).run Try.prog w2 = .ok (.int .i64 2) w2 := by have := HM2.out.look a (by omega); rw [hma] at this; exact this
          have HMA : Hid (m a = 2) := hma
          clear hma
          go_wp2
          go_ret
          exact ⟨false, N, m, rfl, HB2.out.mono (by have := HLT.out; omega), HM2.out, Nat.le_refl _, fun _ => ⟨HO2.out a HMA.out, fun o => Iff.rfl, HO2.out, fun o h => h, HO3.out⟩, fun h => by cases h⟩
      · rw [hvar] at HV
        have HVR : Hid (varB xs a = true) := hvar
        clear hvar
        go_enter Try.func103, Try.ntmps103
        go_wp2_with fail
        refine HBE.mono ?_
        rintro e w1 ⟨rfl, hb⟩
        have HB1 : Hid (Below w.heap.size w w1) := hb
        clear hb HBE
        go_wp2_with fail
        refine (HV.out w1 HB1.out).mono ?_
        rintro e w2 ⟨rfl, hb⟩
        have HB2 : Hid (Below w.heap.size w w2) := Below.on HB1.out hb
        clear hb HV HB1 c0 hv
        go_wp2
        go_ret
        refine ⟨false, N, m, rfl, HB2.out.mono (by have := HLT.out; omega), HM.out.below HB2.out, Nat.le_refl _, fun _ => ⟨?_, fun o => Iff.rfl, HO2.out, fun o h => h, HO3.out⟩, fun h => by cases h⟩
        exact Acc.intro _ fun y hy => by have := hy.1; rw [HVR.out] at this; cases this

end Go.Proofs.Ytedkkghekboahaa

