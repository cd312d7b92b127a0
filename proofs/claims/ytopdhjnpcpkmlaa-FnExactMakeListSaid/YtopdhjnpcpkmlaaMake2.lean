/- MakeList of the specification. Own work of the verifier. -/
import Derived.Test.YtopdhjnpcpkmlaaMake1
namespace Go.Proofs.Ytopdhjnpcpkmlaa
open Go Go.RowKit
set_option linter.unusedVariables false

/-- What MakeList answers: the cells and the code. -/
def mkR (css : List (List Cel)) : List Cel × Int := if 2000 < css.length ∨ (css.all validB) = false then ([], 1) else if 2000 < (mkL css).length + 1 then ([], 3) else (mkL css ++ [nilC], 0)
def MakeOut (w : World) (zs : List Cel) (code : Int) (e : Ending) (w' : World) : Prop :=
  ∃ p n cp, e = .returned (.tuple #[.slice p n cp, .int .i64 code]) ∧ OwnC w' w.heap.size p n cp zs ∧ Below w.heap.size w w'

theorem all_at {css : List (List Cel)} (h : css.all validB = true) (i : Nat) (hi : i < css.length) : validB (css.getD i []) = true := by
  rw [List.all_eq_true] at h
  refine h _ ?_
  rw [List.getD, List.getElem?_eq_getElem hi]; exact List.getElem_mem hi
theorem all_of {css : List (List Cel)} (h : ∀ i, i < css.length → validB (css.getD i []) = true) : css.all validB = true := by
  rw [List.all_eq_true]
  intro x hx
  obtain ⟨i, hi, rfl⟩ := List.mem_iff_getElem.1 hx
  have := h i hi
  rwa [List.getD, List.getElem?_eq_getElem hi] at this
theorem valid_len {cs : List Cel} (h : validB cs = true) : 0 < cs.length ∧ cs.length ≤ 2000 := by
  simp only [validB, Bool.and_eq_true, decide_eq_true_eq] at h
  refine ⟨?_, h.1⟩
  cases cs with
  | nil => simp [validFrom] at h
  | cons a r => simp
/-- How many cells the first j items take. -/
def mkN (css : List (List Cel)) (j : Nat) : Nat := (mkL (css.take j)).length + 1
theorem mkN_succ (css : List (List Cel)) (j : Nat) (h : j < css.length) : mkN css (j + 1) = mkN css j + (1 + (css.getD j []).length) := by
  simp only [mkN, mkL_take css j h, List.length_append, List.length_cons, List.length_nil]; omega

set_option maxRecDepth 100000 in
set_option maxHeartbeats 1000000 in
theorem specMake_any (css : List (List Cel)) (p : Option Addr) (n c : Nat) (w : World) (hn : n = css.length) (hb : css.length + tll css ≤ 1048576) (hin : CCIn w p css) :
    Calls Try.prog 26 #[.slice p n c] w (MakeOut w (mkR css).1 (mkR css).2) := by
  have HI : Hid (CCIn w p css) := hin
  have HN : Hid (n = css.length) := hn
  have hnb : n ≤ 1048576 := by omega
  clear hin
  by_cases hl : n ≤ 2000
  · have hl' : ¬ (2000 : Int) < n := by omega
    clear hn
    go_enter Try.func26, Try.ntmps26
    go_wp2_with fail
    clear hl'
    go_loopw [4, 5] (fun s i wr => ∃ (j m : Nat), j ≤ n ∧ m ≤ 2001 * j + 1 ∧ i = .int .i64 j ∧ s = .int .i64 m ∧ Hid (m = mkN css j ∧ ∀ i, i < j → validB (css.getD i []) = true) ∧ Hid (Below w.heap.size w wr)) (fun _ i _ => n - (intOf i).toNat)
    case atStart => exact ⟨0, 1, Nat.zero_le _, by decide, rfl, rfl, ⟨rfl, fun i h => by omega⟩, Below.refl _ _⟩
    case round =>
      obtain ⟨j, m, hj, hm, rfl, rfl, HM, HB⟩ := hrel
      by_cases hlt : j < n
      · have hjl : j < css.length := by rw [← HN.out]; exact hlt
        obtain ⟨b, o, rfl, hcss⟩ := (HI.out.below HB.out) (by omega)
        obtain ⟨qi, ci, x0, x1⟩ := hcss j hjl
        have hbj := tll_at css j hjl
        have HV := specValid_any qi ci (css.getD j []) wr (by omega) x1
        obtain ⟨li, eli⟩ : ∃ li, li = (css.getD j []).length := ⟨_, rfl⟩
        have HLI : Hid (li = (css.getD j []).length) := eli
        rw [← eli] at x0 HV
        have X0 : Hid (wr.cell? ⟨b, o + j, none⟩ = some (.slice qi li ci)) := x0
        have HSU : Hid _ := mkN_succ css j hjl
        clear hcss x1 hbj eli
        by_cases hv : validB (css.getD j []) = true
        · rw [hv] at HV
          have hli : li ≤ 2000 := by rw [HLI.out]; exact (valid_len hv).2
          have HVV : Hid _ := hv
          clear hv
          go_wp2_with fail
          refine HV.mono ?_
          rintro e w2 ⟨rfl, hb2⟩
          have y0 := (hb2.cell (World.block_lt_of_cell? _ _ X0.out)).trans X0.out
          have HB2 : Hid (Below w.heap.size w w2) := Below.on HB.out hb2
          clear hb2 HV x0
          go_wp2_with fail
          go_roundw
          case rel => exact ⟨j + 1, m + (1 + li), by omega, by omega, by go_num, by go_num, ⟨by rw [HSU.out, HM.out.1, HLI.out], fun i hi => by
            by_cases e : i = j
            · subst e; exact HVV.out
            · exact HM.out.2 i (by omega)⟩, HB2⟩
          case measure => simp [intOf]; omega
        · have hvf : validB (css.getD j []) = false := by simpa using hv
          rw [hvf] at HV
          have HR : Hid (mkR css = ([], 1)) := by
            show _ = _
            rw [mkR, if_pos]
            right
            cases h : css.all validB with
            | false => rfl
            | true => exact absurd (all_at h j hjl) hv
          clear hv hvf
          go_wp2_with fail
          refine HV.mono ?_
          rintro e w2 ⟨rfl, hb2⟩
          have HF : Hid (MakeOut w (mkR css).1 (mkR css).2 (.returned (.tuple #[.slice none 0 0, .int .i64 1])) w2) := by
            rw [HR.out]
            exact ⟨_, _, _, rfl, OwnC.nil _ _, Below.on HB.out hb2⟩
          clear hb2
          go_wp2_with fail
          go_ret2
          exact HF.out
      · obtain rfl : j = n := by omega
        have hall : css.all validB = true := all_of (by rw [← HN.out]; exact HM.out.2)
        have hmk : m = (mkL css).length + 1 := by
          rw [HM.out.1, mkN, List.take_of_length_le (by rw [← HN.out]; exact Nat.le_refl _)]
        by_cases hbig : 2000 < m
        · have hbig' : (2000 : Int) < m := by omega
          have HF : Hid (MakeOut w (mkR css).1 (mkR css).2 (.returned (.tuple #[.slice none 0 0, .int .i64 3])) wr) := by
            have e : mkR css = ([], 3) := by rw [mkR, if_neg (by rw [hall, ← HN.out]; simp; omega), if_pos (by omega)]
            rw [e]
            exact ⟨_, _, _, rfl, OwnC.nil _ _, HB.out⟩
          clear hall hmk hbig
          go_wp2_with fail
          go_ret2
          exact HF.out
        · have hbig' : ¬ (2000 : Int) < m := by omega
          have HR : Hid (mkR css = (mkL css ++ [nilC], 0)) := by show _ = _; rw [mkR, if_neg (by rw [hall, ← HN.out]; simp; omega), if_neg (by omega)]
          have HNE : Hid (∀ i, i < css.length → 0 < (css.getD i []).length) := fun i hi => (valid_len (all_at hall i hi)).1
          have HSZ : Hid ((mkL css).length ≤ 1000000) := by show _ ≤ _; omega
          have HLA := l2atom_any wr
          clear hall hmk hbig
          go_wp2_with fail
          refine HLA.mono ?_
          rintro e w2 ⟨p2, rfl, hc2, hb2⟩
          have HB2 : Hid (Below w.heap.size w w2) := Below.on HB.out hb2
          have HLL := l2list_any css p p2 j c 1 w2 HN.out hl HNE.out hb HSZ.out (HI.out.below HB2.out) hc2
          clear hc2 hb2 HLA
          go_wp2_with fail
          refine HLL.mono ?_
          rintro e w3 ⟨r3, m3, c3, rfl, ho3, hb3⟩
          have HF : Hid (MakeOut w (mkR css).1 (mkR css).2 (.returned (.tuple #[.slice r3 m3 c3, .int .i64 0])) w3) := by
            rw [HR.out]
            exact ⟨_, _, _, rfl, ho3.mono HB2.out.size, Below.on HB2.out hb3⟩
          clear ho3 hb3 HLL
          go_wp2_with fail
          go_ret2
          exact HF.out
  · have hl' : (2000 : Int) < n := by omega
    have HF : Hid (MakeOut w (mkR css).1 (mkR css).2 (.returned (.tuple #[.slice none 0 0, .int .i64 1])) w) := by
      have e : mkR css = ([], 1) := by rw [mkR, if_pos (.inl (by omega))]
      rw [e]
      exact ⟨_, _, _, rfl, OwnC.nil _ _, Below.refl _ _⟩
    clear hn
    go_enter Try.func26, Try.ntmps26
    go_wp2_with fail
    go_ret2
    exact HF.out

end Go.Proofs.Ytopdhjnpcpkmlaa
