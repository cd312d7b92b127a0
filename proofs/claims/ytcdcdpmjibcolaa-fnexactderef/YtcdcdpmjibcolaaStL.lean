/- Is a heap linked; the map of what was gone through. Own work of the verifier. -/
import Derived.Test.YtcdcdpmjibcolaaStI
import Derived.Maps.OwnSet
import Derived.Maps.OwnOps
import Derived.ProofKit
namespace Go.Proofs.Ytcdcdpmjibcolaa
open Go Go.RowKit Go.Maps
set_option linter.unusedVariables false

def linkC (xs : List Cel) (c : Cel) : Bool := decide (c.1 = 3) || leadB xs c.1 c.2.1
theorem all_at {xs : List Cel} {p : Cel → Bool} (h : ∀ j, j < xs.length → p (xs.getD j Cel.none) = true) : xs.all p = true := by
  rw [List.all_eq_true]
  intro c hc
  obtain ⟨j, hj, rfl⟩ := List.mem_iff_getElem.1 hc
  have := h j hj
  simpa [List.getD, hj] using this
theorem all_not {xs : List Cel} {p : Cel → Bool} {k : Nat} (hk : k < xs.length) (h : p (xs.getD k Cel.none) = false) : xs.all p = false := by
  rw [Bool.eq_false_iff]
  intro ha
  rw [List.all_eq_true.1 ha _ (mem_at hk)] at h; cases h
theorem allI_at {xs : List Int} {p : Int → Bool} (h : ∀ j, j < xs.length → p (xs.getD j 0) = true) : xs.all p = true := by
  rw [List.all_eq_true]
  intro c hc
  obtain ⟨j, hj, rfl⟩ := List.mem_iff_getElem.1 hc
  have := h j hj
  simpa [List.getD, hj] using this
theorem allI_not {xs : List Int} {p : Int → Bool} {k : Nat} (hk : k < xs.length) (h : p (xs.getD k 0) = false) : xs.all p = false := by
  rw [Bool.eq_false_iff]
  intro ha
  rw [List.all_eq_true.1 ha (xs.getD k 0) (by simp [List.getD, hk])] at h; cases h

set_option maxRecDepth 100000 in
theorem isLinked_any (h : Nat) (xs : List Cel) (tr : List Int) (w : World) (hl : xs.length ≤ 20000) (ht : tr.length ≤ 20000) (hk : Knds xs) (H : HeapAt w h xs tr) :
    Calls Try.prog 83 #[.pointer (some ⟨h, 0, none⟩)] w fun e w' => e = .returned (.bool (xs.all (linkC xs) && tr.all (isWB xs))) ∧ Below w.heap.size w w' := by
  have HH : Hid (HeapAt w h xs tr) := H
  have HK : Hid (Knds xs) := hk
  obtain ⟨pw, cw, pt, ct, h0, h1, hw, hi⟩ := H
  have HW : Hid (WIn w pw xs) := hw
  have HI : Hid (IIn w pt tr) := hi
  have hlt := World.block_lt_of_cell? _ _ h0
  clear hk hw hi
  go_enter Try.func83, Try.ntmps83
  go_wp2
  go_loopw [14] (fun i wr => ∃ (k : Nat), k ≤ xs.length ∧ i = .int .i64 k ∧ Hid (∀ j, j < k → linkC xs (xs.getD j Cel.none) = true) ∧ Hid (Below w.heap.size w wr)) (fun i _ => xs.length - (intOf i).toNat)
  case atStart => exact ⟨0, Nat.zero_le _, rfl, fun _ h => absurd h (Nat.not_lt_zero _), Below.refl _ _⟩
  case round =>
    obtain ⟨k, hk, rfl, HV, HB⟩ := hrel
    by_cases hlt' : k < xs.length
    · obtain ⟨g, rfl, hc⟩ := HW.out (by omega)
      have hv := (HB.out.cell (World.block_lt_of_cell? _ _ (hc k hlt'))).trans (hc k hlt')
      have I := (isW (xs.getD k Cel.none) (HK.out k hlt')).fn
      have HL : Hid (∀ W, Below w.heap.size w W → Calls Try.prog 91 #[.pointer (some ⟨h, 0, none⟩), wv (xs.getD k Cel.none)] W fun e w' => e = .returned (.bool (leadB xs (xs.getD k Cel.none).1 (xs.getD k Cel.none).2.1)) ∧ Below W.heap.size W w') := fun W hW => leadsOn_any h _ xs tr W hl HK.out (HK.out k hlt') (HH.out.below hW)
      have HE : Hid (linkC xs (xs.getD k Cel.none) = (decide ((xs.getD k Cel.none).1 = 3) || leadB xs (xs.getD k Cel.none).1 (xs.getD k Cel.none).2.1)) := rfl
      generalize wv (xs.getD k Cel.none) = v at hv I HL
      generalize leadB xs (xs.getD k Cel.none).1 (xs.getD k Cel.none).2.1 = r at HL HE
      clear hc HW
      by_cases k3 : (xs.getD k Cel.none).1 = 3
      · simp only [k3, if_true, decide_true, Bool.true_or] at I HE
        generalize (xs.getD k Cel.none).2.1 = n at I
        generalize strOfNums (xs.getD k Cel.none).2.2 = s at I
        clear k3 HL
        go_wp2
        go_roundw
        case rel => exact ⟨k + 1, by omega, by go_num, fun j hj => by
          rcases Nat.lt_or_eq_of_le (Nat.lt_succ_iff.1 hj) with hj | rfl
          · exact HV.out j hj
          · exact HE.out, HB.out.alloc HB.out.size _⟩
        case measure => simp [intOf]; omega
      · simp only [k3, if_false, decide_false, Bool.false_or] at I HE
        clear k3
        have HB1 : Hid (Below w.heap.size w (wr.alloc (Obj.cells #[.string ⟨#[]⟩, .int .i64 0] 125))) := HB.out.alloc HB.out.size _
        have HL' := HL.out _ HB1.out
        clear HL
        cases r
        · go_wp2_with (go_at_call 91; refine HL'.mono ?_; rintro e w2 ⟨rfl, hb2⟩)
          go_ret
          exact ⟨ret_bool (by rw [all_not hlt' HE.out]; rfl), Below.on HB1.out hb2⟩
        · go_wp2_with (go_at_call 91; refine HL'.mono ?_; rintro e w2 ⟨rfl, hb2⟩)
          go_roundw
          case rel => exact ⟨k + 1, by omega, by go_num, fun j hj => by
            rcases Nat.lt_or_eq_of_le (Nat.lt_succ_iff.1 hj) with hj | rfl
            · exact HV.out j hj
            · exact HE.out, Below.on HB1.out hb2⟩
          case measure => simp [intOf]; omega
    · obtain rfl : k = xs.length := by omega
      have HX : Hid (xs.all (linkC xs) = true) := all_at HV.out
      have h1' := (HB.out.cell (p := ⟨h, 1, none⟩) hlt).trans h1
      clear HV h0 h1
      go_wp2
      go_loopw [37] (fun i wr => ∃ (k : Nat), k ≤ tr.length ∧ i = .int .i64 k ∧ Hid (∀ j, j < k → isWB xs (tr.getD j 0) = true) ∧ Hid (Below w.heap.size w wr)) (fun i _ => tr.length - (intOf i).toNat)
      case atStart => exact ⟨0, Nat.zero_le _, rfl, fun _ h => absurd h (Nat.not_lt_zero _), HB.out⟩
      case round =>
        obtain ⟨k, hk, rfl, HV, HB⟩ := hrel
        by_cases hlt' : k < tr.length
        · obtain ⟨g, o, rfl, hc⟩ := HI.out (by omega)
          have hv := (HB.out.cell (World.block_lt_of_cell? _ _ (hc k hlt'))).trans (hc k hlt')
          have HL : Hid (Calls Try.prog 99 #[.pointer (some ⟨h, 0, none⟩), .int .i64 (tr.getD k 0)] wr fun e w' => e = .returned (.bool (isWB xs (tr.getD k 0))) ∧ Below wr.heap.size wr w') := holdsWord_any h _ xs tr wr hl HK.out (HH.out.below HB.out)
          have HE : Hid (isWB xs (tr.getD k 0) = isWB xs (tr.getD k 0)) := rfl
          generalize er : isWB xs (tr.getD k 0) = r at HL
          have HR : Hid _ := er
          clear er
          generalize tr.getD k 0 = t at hv HL
          have HL' := HL.out
          clear hc HI HL HE
          cases r
          · go_wp2_with (go_at_call 99; refine HL'.mono ?_; rintro e w2 ⟨rfl, hb2⟩)
            go_ret
            exact ⟨ret_bool (by rw [allI_not hlt' HR.out, Bool.and_false]), Below.on HB.out hb2⟩
          · go_wp2_with (go_at_call 99; refine HL'.mono ?_; rintro e w2 ⟨rfl, hb2⟩)
            go_roundw
            case rel => exact ⟨k + 1, by omega, by go_num, fun j hj => by
              rcases Nat.lt_or_eq_of_le (Nat.lt_succ_iff.1 hj) with hj | rfl
              · exact HV.out j hj
              · exact HR.out, Below.on HB.out hb2⟩
            case measure => simp [intOf]; omega
        · obtain rfl : k = tr.length := by omega
          have HY : Hid (tr.all (isWB xs) = true) := allI_at HV.out
          clear HV
          go_wp2
          go_ret
          exact ⟨ret_bool (by rw [HX.out, HY.out]; rfl), HB.out⟩

theorem lawIntK : Keyed Try.prog 3 := int_keyed Try.underlying3
theorem zeroPr (w : World) : (zeroValue 179).run Try.prog w = .ok (.int .i64 0) w := by kernel_rfl
/-- How whatever value reads as an element. -/
def anyP (v : Value) : Option (DataW Value × List MemPlace) := some (.held v, [])
/-- Block b is a map of at most N entries, which gives each address its mark. -/
def SMap (w : World) (b N : Nat) (m : Nat → Nat) : Prop := ∃ D : DataW Value, w.ownsMap Try.prog 3 anyP b N D ∧ ∀ x : Nat, D.atKey (.int .i64 x) (.held (.int .i64 0)) = .held (.int .i64 (m x))
theorem SMap.lt {w : World} {b N : Nat} {m : Nat → Nat} (h : SMap w b N m) : b < w.heap.size := by obtain ⟨D, h, _⟩ := h; exact h.lt
theorem SMap.of_block {w w' : World} {b N : Nat} {m : Nat → Nat} (h : SMap w b N m) (hb : w'.heap[b]? = w.heap[b]?) : SMap w' b N m := by
  obtain ⟨D, ⟨es, clock, h1, r⟩, h2⟩ := h
  exact ⟨D, ⟨es, clock, hb.trans h1, r⟩, h2⟩
theorem SMap.below {w w' : World} {b N : Nat} {m : Nat → Nat} (h : SMap w b N m) (hb : Below w.heap.size w w') : SMap w' b N m := h.of_block (hb.block _ h.lt)
theorem SMap.made (w : World) : SMap (w.alloc (.map #[] 0)) w.heap.size 0 (fun _ => 0) := ⟨_, World.ownsMap_made _ _ _ _, fun x => rfl⟩
theorem keyI (x : Nat) (h1 : x ≤ 1000000) : keyOf Try.prog 3 (.int .i64 x) = some (.int .i64 x) := keyOf_int_mk (P := Try.prog) Try.underlying3 (q := .i64) (a := x) (WalkArith.wf_i64 (by omega))
theorem SMap.look {w : World} {b N : Nat} {m : Nat → Nat} (h : SMap w b N m) (x : Nat) (h1 : x ≤ 1000000) :
    (Instr.lookup 156 (.map (some b)) (.int .i64 x) false).run Try.prog w = .ok (.int .i64 (m x)) w := by
  obtain ⟨D, hown, hat⟩ := h
  obtain ⟨v, ps, hrun, hv⟩ := hown.lookup lawIntK Try.underlying156 (zeroPr w) (zd := .held (.int .i64 0)) (zp := []) rfl (keyI x h1)
  rw [hrun]
  rw [hat] at hv
  simp only [anyP, Option.some.injEq, Prod.mk.injEq] at hv
  have hv := hv.1
  cases hv; rfl
theorem SMap.put {w : World} {b N : Nat} {m : Nat → Nat} (h : SMap w b N m) (hN : N ≤ 1000000) (x : Nat) (h1 : x ≤ 1000000) (v : Nat) :
    ∃ w', (Instr.mapUpdate 156 (.map (some b)) (.int .i64 x) (.int .i64 v)).run Try.prog w = .ok () w' ∧ SMap w' b (N + 1) (setM m x v) ∧ w.grownBy w' (some b) := by
  obtain ⟨D, hown, hat⟩ := h
  obtain ⟨w', hrun, hown', hg⟩ := hown.update lawIntK Try.underlying156 (by unfold maxLen; omega) (keyI x h1) (show anyP (.int .i64 v) = some (.held (.int .i64 v), []) from rfl)
  have hm := hown.isMap
  have hkl : WideAt.IsKeyLit (.int .i64 x) := trivial
  refine ⟨w', hrun, ⟨_, hown', fun y => ?_⟩, hg⟩
  by_cases e : y = x
  · subst e
    rw [atKey_put_same hm hkl]; simp [setM]
  · rw [atKey_put_other (by simp; omega), hat]; simp [setM, e]

end Go.Proofs.Ytcdcdpmjibcolaa
