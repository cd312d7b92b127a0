/- Texts of StW, StM, StN. Own work of the verifier. -/
import Derived.Test.YtedkkghekboahaaUqag
import Derived.Deep.AppendLies
import Derived.Deep.Upon
import Derived.Test.YtedkkghekboahaaUqaf
namespace Go.Proofs.Ytedkkghekboahaa
open Go Go.RowKit Go.Maps
set_option linter.unusedVariables false

set_option maxRecDepth 100000 in
theorem hasLoop_any (h : Nat) (xs : List Cel) (tr : List Int) (w : World) (hs : Shp xs) (H : HeapAt w h xs tr) :
    Calls Try.prog 85 #[.pointer (some ⟨h, 0, none⟩)] w fun e w' => e = .returned (.bool (!acycB xs)) ∧ Below w.heap.size w w' := by
  have HH : Hid (HeapAt w h xs tr) := H
  have HS : Hid (Shp xs) := hs
  have hl := hs.len
  have hb0 : Below w.heap.size w (w.alloc (.map #[] 0)) := (Below.refl _ _).alloc (Nat.le_refl _) _
  obtain ⟨pw, cw, pt, ct, c0, c1, hw, hi⟩ := H.below hb0
  have HB0 : Hid _ := hb0
  have HM0 : Hid _ := SMap.made w
  clear hs hw hi c1 H hb0
  have hmm := @run_makeMap Try.prog
  go_enter Try.func85, Try.ntmps85
  go_wp2
  clear hmm
  go_loopw [11] (fun i wr => ∃ (k N : Nat) (m : Nat → Nat), k ≤ xs.length ∧ i = .int .i64 k ∧ Hid (Below w.heap.size w wr) ∧ Hid (SMap wr w.heap.size N m) ∧ Hid (N + 2 * unk xs.length m ≤ 2 * xs.length) ∧ Hid (∀ o, m o ≠ 1) ∧ Hid (∀ o, m o = 2 → Acc (Kid xs) o) ∧ Hid (∀ o, m o ≤ 2) ∧ Hid (∀ y, y < k → Acc (Kid xs) y)) (fun i _ => xs.length - (intOf i).toNat)
  case atStart => exact ⟨0, 0, fun _ => 0, Nat.zero_le _, rfl, HB0.out, HM0.out, by show _ ≤ _; have := unk_top xs.length (fun _ => 0); omega, fun o h => (by cases h), fun o h => (by cases h), fun o => Nat.zero_le _, fun y h => absurd h (Nat.not_lt_zero _)⟩
  case round =>
    obtain ⟨k, N, m, hk, rfl, HB, HM, HN, H1, H2, H3, H4⟩ := hrel
    by_cases hlt : k < xs.length
    · have HC := leadsBack_any h xs tr w HS.out HH.out (unk xs.length m + 1) k w.heap.size N m wr hlt (by omega) (by have := HN.out; omega) (Nat.le_refl _) HB.out HM.out (fun o ho => absurd ho (H1.out o)) H2.out H3.out
      go_wp2_with fail
      refine HC.mono ?_
      rintro e w4 ⟨r, N2, m2, rfl, hb4, hm4, hn4, hr0, hr1⟩
      have HB4 : Hid (Below w.heap.size w w4) := HB.out.trans hb4
      have HM4 : Hid (SMap w4 w.heap.size N2 m2) := hm4
      have HN4 : Hid (N2 + 2 * unk xs.length m2 ≤ N + 2 * unk xs.length m) := hn4
      clear hb4 hm4 hn4 HC
      cases r
      · have H0 : Hid _ := hr0 rfl
        clear hr0 hr1
        go_wp2
        go_roundw
        case rel =>
          obtain ⟨a1, a2, a3, a4, a5⟩ := H0.out
          refine ⟨k + 1, N2, m2, by omega, by go_num, HB4.out, HM4.out, ?_, fun o ho => H1.out o ((a2 o).1 ho), a3, a5, fun y h2 => ?_⟩
          · show _ ≤ _; have := HN4.out; have := HN.out; omega
          · rcases Nat.lt_or_eq_of_le (Nat.lt_succ_iff.1 h2) with h2 | rfl
            · exact H4.out y h2
            · exact a1
        case measure => simp [intOf]; omega
      · have H0 : Hid _ := hr1 rfl
        clear hr0 hr1
        go_wp2
        go_ret
        exact ⟨ret_bool (by rw [acycB_false (fun ha => H0.out (ha k hlt))]; rfl), HB4.out⟩
    · obtain rfl : k = xs.length := by omega
      go_wp2
      go_ret
      exact ⟨ret_bool (by rw [acycB_true (fun a ha => H4.out a ha)]; rfl), HB.out⟩

/-- What is asked of a heap whose cells can be words. -/
noncomputable def heapB (xs : List Cel) (tr : List Int) : Bool := wholeF 0 xs && (xs.all (linkC xs) && tr.all (isWB xs)) && acycB xs
theorem good_of {xs : List Cel} (ho : ∀ a, a < xs.length → okW (xs.getD a Cel.none).1 (xs.getD a Cel.none).2.1 (xs.getD a Cel.none).2.2.length = true) (hl : xs.all (linkC xs) = true) : xs.all (goodC xs) = true := all_at fun j hj => by
  have := List.all_eq_true.1 hl _ (mem_at hj)
  unfold goodC
  rw [ho j hj, Bool.true_and]
  exact this
theorem ok_knd {k n : Int} {m : Nat} (h : okW k n m = true) : k = 0 ∨ k = 1 ∨ k = 2 ∨ k = 3 ∨ k = 4 := by
  unfold okW at h
  split at h
  · omega
  · simp [cellB] at h; omega
set_option maxRecDepth 100000 in
theorem isValid_any (h : Nat) (xs : List Cel) (tr : List Int) (w : World) (hl : xs.length ≤ 20000) (ht : tr.length ≤ 20000) (ho : ∀ a, a < xs.length → okW (xs.getD a Cel.none).1 (xs.getD a Cel.none).2.1 (xs.getD a Cel.none).2.2.length = true) (H : HeapAt w h xs tr) :
    Calls Try.prog 60 #[.pointer (some ⟨h, 0, none⟩)] w fun e w' => e = .returned (.bool (heapB xs tr)) ∧ Below w.heap.size w w' := by
  have hk : Knds xs := fun a ha => ok_knd (ho a ha)
  have hf : ∀ a, a < xs.length → kndA xs a = 3 → 1 ≤ numA xs a ∧ numA xs a ≤ 20 := fun a ha h3 => by
    have := ho a ha
    rw [show (xs.getD a Cel.none).1 = 3 from h3] at this
    have := okW_fun.1 this
    exact ⟨this.1, this.2.1⟩
  have HO : Hid (∀ a, a < xs.length → okW (xs.getD a Cel.none).1 (xs.getD a Cel.none).2.1 (xs.getD a Cel.none).2.2.length = true) := ho
  have HH : Hid (HeapAt w h xs tr) := H
  obtain ⟨pw, cw, pt, ct, c0, c1, hw, hi⟩ := H
  have HC1 := isWhole_any pw cw xs w hl hk hf hw
  have HC2 : Hid (∀ W, Below w.heap.size w W → Calls Try.prog 84 #[.pointer (some ⟨h, 0, none⟩)] W fun e w' => e = .returned (.bool (xs.all (linkC xs) && tr.all (isWB xs))) ∧ Below W.heap.size W w') := fun W hW => isLinked_any h xs tr W hl ht hk (HH.out.below hW)
  have HC3 : Hid (wholeF 0 xs = true → (xs.all (linkC xs) && tr.all (isWB xs)) = true → ∀ W, Below w.heap.size w W → Calls Try.prog 85 #[.pointer (some ⟨h, 0, none⟩)] W fun e w' => e = .returned (.bool (!acycB xs)) ∧ Below W.heap.size W w') := fun h1 h2 W hW =>
    hasLoop_any h xs tr W (shp_of hl (good_of HO.out (by rw [Bool.and_eq_true] at h2; exact h2.1)) h1) (HH.out.below hW)
  have HE : Hid (heapB xs tr = (wholeF 0 xs && (xs.all (linkC xs) && tr.all (isWB xs)) && acycB xs)) := rfl
  generalize wholeF 0 xs = b1 at HC1 HC3 HE
  generalize (xs.all (linkC xs) && tr.all (isWB xs)) = b2 at HC2 HC3 HE
  generalize acycB xs = b3 at HC3 HE
  clear hk hf ho hw hi c1
  cases b1
  · go_enter Try.func60, Try.ntmps60
    go_wp2_with (go_at_call 58; refine HC1.mono ?_; rintro e w1 ⟨rfl, hb⟩)
    go_ret
    exact ⟨ret_bool (by rw [HE.out]; rfl), hb⟩
  · cases b2
    · go_enter Try.func60, Try.ntmps60
      go_wp2_with fail
      refine HC1.mono ?_
      rintro e w1 ⟨rfl, hb⟩
      have HB1 : Hid (Below w.heap.size w w1) := hb
      clear hb HC1 c0
      go_wp2_with fail
      refine (HC2.out w1 HB1.out).mono ?_
      rintro e w2 ⟨rfl, hb⟩
      have HB2 : Hid (Below w.heap.size w w2) := Below.on HB1.out hb
      clear hb HC2
      go_wp2
      go_ret
      exact ⟨ret_bool (by rw [HE.out]; rfl), HB2.out⟩
    · go_enter Try.func60, Try.ntmps60
      go_wp2_with fail
      refine HC1.mono ?_
      rintro e w1 ⟨rfl, hb⟩
      have HB1 : Hid (Below w.heap.size w w1) := hb
      clear hb HC1 c0
      go_wp2_with fail
      refine (HC2.out w1 HB1.out).mono ?_
      rintro e w2 ⟨rfl, hb⟩
      have HB2 : Hid (Below w.heap.size w w2) := Below.on HB1.out hb
      clear hb HC2
      go_wp2_with fail
      refine (HC3.out (by trivial) (by trivial) w2 HB2.out).mono ?_
      rintro e w3 ⟨rfl, hb⟩
      have HB3 : Hid (Below w.heap.size w w3) := Below.on HB2.out hb
      clear hb HC3
      go_wp2
      go_ret
      exact ⟨ret_bool (by rw [HE.out]; cases b3 <;> rfl), HB3.out⟩

set_option maxHeartbeats 2000000 in
set_option maxRecDepth 100000 in
theorem wordOf_any (k n : Int) (p : Option Addr) (m cap : Nat) (t : List Int) (w : World) (hm : m = t.length) (hin : BIn w p t) :
    Calls Try.prog 81 #[.agg #[.int .i64 k, .int .i64 n, .slice p m cap]] w fun e w' => (∃ v, e = .returned (.tuple #[v, .bool (okW k n m)]) ∧ (okW k n m = true → v = wv (k, n, t))) ∧ Below w.heap.size w w' := by
  by_cases k4 : k = 4
  · subst k4
    have e : okW 4 n m = decide (m = 0) := by simp only [okW, if_true]; rw [Bool.eq_iff_iff]; simp
    rw [e]
    have HV : Hid (wv (4, n, t) = .iface 123 (.int .i64 n)) := rfl
    clear hin hm e
    by_cases h0 : m = 0
    · subst h0
      go_enter Try.func81, Try.ntmps81
      go_wp2
      go_region_with fail
      all_goals go_wp2
      all_goals exact bodyPost_ret (v := .tuple #[.iface 123 (.int .i64 n), .bool true]) (by simp [results, Try.results81, go_sem]) rfl ⟨⟨_, rfl, fun _ => HV.out.symm⟩, ((Below.refl _ _).alloc (Nat.le_refl _) _).drew⟩
    · rw [decide_eq_false h0]
      have h0' : ((m : Int) == 0) = false := by simp; omega
      clear h0
      go_enter Try.func81, Try.ntmps81
      go_wp2
      go_region_with fail
      all_goals go_wp2
      all_goals exact bodyPost_ret (v := .tuple #[.iface 123 (.int .i64 n), .bool false]) (by simp [results, Try.results81, go_sem]) rfl ⟨⟨_, rfl, fun h => by cases h⟩, ((Below.refl _ _).alloc (Nat.le_refl _) _).drew⟩
  · have e : okW k n m = cellB k n m := by simp only [okW, if_neg k4]
    rw [e]
    have HIC := isCell_any k n p m cap (w.alloc (.cells #[.int .i64 k, .int .i64 n, .slice p m cap] 31))
    have k4' : (k == 4) = false := by simpa using k4
    have HK4 : Hid (k ≠ 4) := k4
    have HB0 : Hid (Below w.heap.size w (w.alloc (.cells #[.int .i64 k, .int .i64 n, .slice p m cap] 31))) := (Below.refl _ _).alloc (Nat.le_refl _) _
    have HI : Hid (BIn w p t) := hin
    have HM : Hid (m = t.length) := hm
    clear e k4 hin hm
    cases hc : cellB k n m
    · rw [hc] at HIC
      clear hc
      go_enter Try.func81, Try.ntmps81
      go_wp2_with (go_at_call 96; refine HIC.mono ?_; rintro e w1 ⟨rfl, hb⟩)
      exact bodyPost_ret (v := .tuple #[.nilIface, .bool false]) (by simp [results, Try.results81, go_sem]) rfl ⟨⟨_, rfl, fun h => by cases h⟩, Below.on HB0.out hb⟩
    · rw [hc] at HIC
      have hkk : k = 0 ∨ k = 1 ∨ k = 2 ∨ k = 3 := by simp [cellB] at hc; omega
      clear hc k4'
      have HCV : Hid (∀ W, Below w.heap.size w W → (convert 26 122 (.slice p m cap)).run Try.prog W = .ok (.string (strOfNums t)) W) := fun W hW => conv_str (HI.out.below hW) m cap HM.out 122 Try.underlying122
      have HCS : Hid (∀ W, Below w.heap.size w W → (convert 26 9 (.slice p m cap)).run Try.prog W = .ok (.string (strOfNums t)) W) := fun W hW => conv_str (HI.out.below hW) m cap HM.out 9 Try.underlying9
      have HW : Hid (∀ k n, wv (k, n, t) = if k = 0 then .iface 100 (.int .i64 n) else if k = 1 then .iface 121 (.int .i64 n) else if k = 2 then .iface 122 (.string (strOfNums t))
  else if k = 3 then .iface 131 (.agg #[.string (strOfNums t), .int .i64 n]) else .iface 123 (.int .i64 n)) := fun k n => rfl
      generalize strOfNums t = s at HCV HCS HW
      rcases hkk with hkk | hkk | hkk | hkk <;> subst hkk
      · go_enter Try.func81, Try.ntmps81
        go_wp2_with fail
        refine HIC.mono ?_
        rintro e w1 ⟨rfl, hb⟩
        have bb : Box3 w1 w.heap.size (.int .i64 0) (.int .i64 n) (.slice p m cap) := Box3.of_block (t := 31) ((hb.block _ (by simp)).trans (heap_alloc_new _ _))
        obtain ⟨b0, b1, b2, _⟩ := bb
        have HB1 : Hid (Below w.heap.size w w1) := Below.on HB0.out hb
        clear hb HIC
        go_wp2
        exact bodyPost_ret (v := .tuple #[.iface 100 (.int .i64 n), .bool true]) (by simp [results, Try.results81, go_sem]) rfl ⟨⟨_, rfl, fun h => by rw [HW.out]; rfl⟩, HB1.out⟩
      · go_enter Try.func81, Try.ntmps81
        go_wp2_with fail
        refine HIC.mono ?_
        rintro e w1 ⟨rfl, hb⟩
        have bb : Box3 w1 w.heap.size (.int .i64 1) (.int .i64 n) (.slice p m cap) := Box3.of_block (t := 31) ((hb.block _ (by simp)).trans (heap_alloc_new _ _))
        obtain ⟨b0, b1, b2, _⟩ := bb
        have HB1 : Hid (Below w.heap.size w w1) := Below.on HB0.out hb
        clear hb HIC
        go_wp2
        exact bodyPost_ret (v := .tuple #[.iface 121 (.int .i64 n), .bool true]) (by simp [results, Try.results81, go_sem]) rfl ⟨⟨_, rfl, fun h => by rw [HW.out]; rfl⟩, HB1.out⟩
      · go_enter Try.func81, Try.ntmps81
        go_wp2_with fail
        refine HIC.mono ?_
        rintro e w1 ⟨rfl, hb⟩
        have bb : Box3 w1 w.heap.size (.int .i64 2) (.int .i64 n) (.slice p m cap) := Box3.of_block (t := 31) ((hb.block _ (by simp)).trans (heap_alloc_new _ _))
        obtain ⟨b0, b1, b2, _⟩ := bb
        have HB1 : Hid (Below w.heap.size w w1) := Below.on HB0.out hb
        have hcv := HCV.out w1 HB1.out
        clear hb HIC
        go_wp2
        exact bodyPost_ret (v := .tuple #[.iface 122 (.string s), .bool true]) (by simp [results, Try.results81, go_sem]) rfl ⟨⟨_, rfl, fun h => by rw [HW.out]; rfl⟩, HB1.out⟩
      · go_enter Try.func81, Try.ntmps81
        go_wp2_with fail
        refine HIC.mono ?_
        rintro e w1 ⟨rfl, hb⟩
        have bb : Box3 w1 w.heap.size (.int .i64 3) (.int .i64 n) (.slice p m cap) := Box3.of_block (t := 31) ((hb.block _ (by simp)).trans (heap_alloc_new _ _))
        obtain ⟨b0, b1, b2, _⟩ := bb
        have HB1 : Hid (Below w.heap.size w w1) := Below.on HB0.out hb
        have hcv := HCS.out w1 HB1.out
        clear hb HIC
        go_wp2
        exact bodyPost_ret (v := .tuple #[.iface 131 (.agg #[.string s, .int .i64 n]), .bool true]) (by simp [results, Try.results81, go_sem]) rfl ⟨⟨_, rfl, fun h => by rw [HW.out]; rfl⟩, HB1.out⟩

end Go.Proofs.Ytedkkghekboahaa

namespace Go.Proofs.Ytedkkghekboahaa
open Go Go.RowKit
set_option linter.unusedVariables false

set_option maxHeartbeats 1000000 in
set_option maxRecDepth 100000 in
theorem l10word_any (p pt : Option Addr) (c m cap : Nat) (k n : Int) (xs : List Cel) (w : World) (hl : xs.length ≤ 20000) (hc : CIn w p xs) :
    Calls Try.prog 76 #[.slice p xs.length c, .agg #[.int .i64 k, .int .i64 n, .slice pt m cap]] w fun e w' => e = .returned (.bool (wordB xs k n m)) ∧ Below w.heap.size w w' := by
  have fin : ∀ {a : Bool} {o : Obj}, a = wordB xs k n m → (Ending.returned (.bool a) = .returned (.bool (wordB xs k n m)) ∧ Below w.heap.size w (w.alloc o)) := fun h => ⟨ret_bool h, (Below.refl _ _).alloc (Nat.le_refl _) _⟩
  have FIN : Hid _ := @fin
  clear fin
  by_cases k2 : k = 2
  · subst k2
    have e : wordB xs 2 n m = (decide (n = 0) && decide (m ≤ 100)) := by
      rw [Bool.eq_iff_iff]; simp [wordB, okW, leadB, cellB]; omega
    by_cases n0 : n = 0
    · subst n0
      by_cases hm : (m : Int) ≤ 100
      · have HE : Hid (wordB xs 2 0 m = true) := by show _ = _; rw [e]; simp; omega
        clear e hc
        go_enter Try.func76, Try.ntmps76
        go_wp2
        go_ret
        exact FIN.out (by rw [HE.out])
      · have HE : Hid (wordB xs 2 0 m = false) := by show _ = _; rw [e]; simp; omega
        clear e hc
        go_enter Try.func76, Try.ntmps76
        go_wp2
        go_ret
        exact FIN.out (by rw [HE.out])
    · have n0' : (n == 0) = false := by simpa using n0
      have HE : Hid (wordB xs 2 n m = false) := by show _ = _; rw [e]; simp [n0]
      clear e hc n0
      go_enter Try.func76, Try.ntmps76
      go_wp2
      go_ret
      exact FIN.out HE.out.symm
  · have k2' : (k == 2) = false := by simpa using k2
    by_cases hm : m = 0
    · subst hm
      by_cases k1 : k = 1
      · subst k1
        have e : wordB xs 1 n 0 = (decide (-1000000000000000 ≤ n) && decide (n ≤ 1000000000000000)) := by
          rw [Bool.eq_iff_iff]; simp [wordB, okW, leadB, cellB]
        have HE : Hid _ := e
        clear hc k2 e
        by_cases a : -1000000000000000 ≤ n
        · by_cases b : n ≤ 1000000000000000
          · go_enter Try.func76, Try.ntmps76
            go_wp2
            go_ret
            exact FIN.out (by rw [HE.out]; simp; omega)
          · go_enter Try.func76, Try.ntmps76
            go_wp2
            go_ret
            exact FIN.out (by rw [HE.out]; simp; omega)
        · go_enter Try.func76, Try.ntmps76
          go_wp2
          go_ret
          exact FIN.out (by rw [HE.out]; simp; omega)
      · have k1' : (k == 1) = false := by simpa using k1
        by_cases h0 : n < 0
        · have HE : Hid (wordB xs k n 0 = false) := by
            show _ = _
            rw [Bool.eq_false_iff]; simp only [ne_eq, wordB, Bool.and_eq_true, not_and]
            intro ho; simp only [leadB, isWB, funB]
            split
            · simp; omega
            · split
              · simp; omega
              · split
                · simp
                · rename_i q0 q4 q3
                  simp [okW, q4, cellB] at ho; omega
          clear hc k2 k1
          go_enter Try.func76, Try.ntmps76
          go_wp2
          go_ret
          exact FIN.out HE.out.symm
        · by_cases h1 : n < xs.length
          · obtain ⟨j, rfl⟩ : ∃ j : Nat, n = j := ⟨n.toNat, by omega⟩
            have hj : j < xs.length := by omega
            obtain ⟨b, o, rfl, hcs⟩ := hc (by omega)
            obtain ⟨q, qc, c0, _, _, _⟩ := hcs j hj
            have hlt := World.block_lt_of_cell? _ _ c0
            have HB0 : Hid (Below w.heap.size w (w.alloc (.cells #[.int .i64 k, .int .i64 j, .slice pt 0 cap] 31))) := (Below.refl _ _).alloc (Nat.le_refl _) _
            have c0' := (HB0.out.cell hlt).trans c0
            have e : wordB xs k j 0 = (if k = 0 then decide ((xs.getD j Cel.none).1 ≠ 3) else if k = 4 then decide ((xs.getD j Cel.none).1 = 3) else false) := by
              rw [Bool.eq_iff_iff]
              by_cases q0 : k = 0
              · subst q0; simp [wordB, okW, leadB, cellB, isWB, kndA, hj]; omega
              · by_cases q4 : k = 4
                · subst q4; simp [wordB, okW, leadB, funB, kndA, hj]
                · by_cases q3 : k = 3
                  · subst q3; simp [wordB, leadB]
                  · simp [wordB, okW, q4, q0, cellB, k1, k2, q3]
            generalize (xs.getD j Cel.none).1 = d at c0' e
            have HE : Hid _ := e
            clear hcs hc c0 e hlt
            by_cases q0 : k = 0
            · subst q0
              clear k2 k1 k1' k2'
              by_cases d3 : d = 3
              · subst d3
                go_enter Try.func76, Try.ntmps76
                go_wp2
                go_ret
                exact FIN.out (by rw [HE.out]; simp)
              · have d3' : (d != 3) = true := by simpa using d3
                go_enter Try.func76, Try.ntmps76
                go_wp2
                go_ret
                exact FIN.out (by rw [HE.out]; simp [d3])
            · have q0' : (k == 0) = false := by simpa using q0
              by_cases q4 : k = 4
              · subst q4
                clear k2 k1 k1' k2' q0 q0'
                by_cases d3 : d = 3
                · subst d3
                  go_enter Try.func76, Try.ntmps76
                  go_wp2
                  go_ret
                  exact FIN.out (by rw [HE.out]; simp)
                · have d3' : (d == 3) = false := by simpa using d3
                  go_enter Try.func76, Try.ntmps76
                  go_wp2
                  go_ret
                  exact FIN.out (by rw [HE.out]; simp [d3])
              · have q4' : (k == 4) = false := by simpa using q4
                have HE' : Hid (wordB xs k j 0 = false) := by show _ = _; rw [HE.out]; simp [q0, q4]
                clear k2 k1 q0 q4 HE
                go_enter Try.func76, Try.ntmps76
                go_wp2
                go_ret
                exact FIN.out HE'.out.symm
          · have HE : Hid (wordB xs k n 0 = false) := by
              show _ = _
              rw [Bool.eq_false_iff]; simp only [ne_eq, wordB, Bool.and_eq_true, not_and]
              intro ho; simp only [leadB, isWB, funB]
              split
              · simp; omega
              · split
                · simp; omega
                · split
                  · simp
                  · rename_i q0 q4 q3
                    simp [okW, q4, cellB] at ho; omega
            clear hc k2 k1
            go_enter Try.func76, Try.ntmps76
            go_wp2
            go_ret
            exact FIN.out HE.out.symm
    · have hm' : ((m : Int) != 0) = true := by simp; omega
      have HE : Hid (wordB xs k n m = false) := by
        show _ = _
        rw [Bool.eq_false_iff]; simp only [ne_eq, wordB, Bool.and_eq_true, not_and]
        intro ho
        by_cases q4 : k = 4
        · subst q4; simp [okW] at ho; omega
        · by_cases q3 : k = 3
          · subst q3; simp [leadB]
          · simp [okW, q4, cellB] at ho; omega
      clear hc k2 hm
      go_enter Try.func76, Try.ntmps76
      go_wp2
      go_ret
      exact FIN.out HE.out.symm

end Go.Proofs.Ytedkkghekboahaa

namespace Go.Proofs.Ytedkkghekboahaa
open Go Go.RowKit
set_option linter.unusedVariables false

/-- The marks, as they lie. -/
def mkV (L : Nat) (m : Nat → Nat) : List Value := (List.range L).map (fun i => Value.int .i64 (m i))
def RowM (w : World) (b L : Nat) (m : Nat → Nat) : Prop := w.ownsRow b 3 1 (.slice (some ⟨b, 0, none⟩) L L) L (mkV L m)
theorem mkV_at (L : Nat) (m : Nat → Nat) (i : Nat) (h : i < L) : (mkV L m)[i]? = some (.int .i64 (m i)) := by simp [mkV, h]
theorem mkV_set (L : Nat) (m : Nat → Nat) (i v : Nat) : (mkV L m).set i (.int .i64 v) = mkV L (setM m i v) := by
  apply List.ext_getElem?
  intro j
  rw [List.getElem?_set]
  by_cases e : i = j
  · subst e
    by_cases h : i < L
    · simp [mkV, h, setM]
    · simp [mkV, h]
  · rw [if_neg e]
    have e' : ¬ j = i := fun h => e h.symm
    by_cases h : j < L
    · simp [mkV, h, setM, e']
    · simp [mkV, h]
theorem RowM.cell {w : World} {b L : Nat} {m : Nat → Nat} (h : RowM w b L m) (i : Nat) (hi : i < L) : w.cell? ⟨b, i, none⟩ = some (.int .i64 (m i)) := by
  rw [World.ownsRow.cellAt h i (by omega)]; exact mkV_at L m i hi
theorem RowM.lt {w : World} {b L : Nat} {m : Nat → Nat} (h : RowM w b L m) : b < w.heap.size := (World.ownsRow.lt h b rfl).2
theorem RowM.below {w w' : World} {b L : Nat} {m : Nat → Nat} (h : RowM w b L m) (hb : Below w.heap.size w w') : RowM w' b L m := row_below h hb
theorem RowM.put {w : World} {b L : Nat} {m : Nat → Nat} (h : RowM w b L m) (i v : Nat) : RowM (w.setCell ⟨b, i, none⟩ (.int .i64 v)) b L (setM m i v) := by
  have := (World.ownsRow.stored h i (.int .i64 v)).1
  rw [mkV_set] at this
  exact this

theorem gB_below {b : Nat} {w w' : World} (h : Below w.heap.size w w') : w.grownBy w' (some b) := ⟨h.os, h.tape, h.output, h.size, fun k hk _ => h.block k hk⟩
theorem gB_refl {b : Nat} (w : World) : w.grownBy w (some b) := ⟨rfl, rfl, rfl, Nat.le_refl _, fun _ _ _ => rfl⟩
theorem gB_trans {b : Nat} {w w1 w2 : World} (h : w.grownBy w1 (some b)) (h' : w1.grownBy w2 (some b)) : w.grownBy w2 (some b) :=
  ⟨h'.os.trans h.os, h'.tape.trans h.tape, h'.output.trans h.output, Nat.le_trans h.size h'.size, fun k hk hne => (h'.block k (Nat.lt_of_lt_of_le hk h.size) hne).trans (h.block k hk hne)⟩
theorem gB_set {b : Nat} (w : World) (i : Nat) (v : Value) : w.grownBy (w.setCell ⟨b, i, none⟩ v) (some b) :=
  have h : Below b w (w.setCell ⟨b, i, none⟩ v) := (Below.refl _ _).setCell (p := ⟨b, i, none⟩) (Nat.le_refl _) v
  ⟨h.os, h.tape, h.output, h.size, fun k hk hne => Below.heap_setCell _ _ _ _ (fun e => hne (by simp at e; rw [e]))⟩
theorem gB_cell {b : Nat} {w w' : World} (h : w.grownBy w' (some b)) {a : Addr} {v : Value} (hc : w.cell? a = some v) (hne : a.block ≠ b) : w'.cell? a = some v :=
  (World.cell?_of_block (h.block a.block (World.block_lt_of_cell? _ _ hc) (fun e => hne (Option.some.inj e)))).trans hc
theorem gB_down {b B : Nat} {w w' : World} (h : w.grownBy w' (some b)) (hB : B ≤ b) (hs : B ≤ w.heap.size) : Below B w w' :=
  (Below.refl _ _).grown h hs (fun k e => by cases e; exact hB)
theorem frozenM {w : World} {b L : Nat} {m : Nat → Nat} (h : RowM w b L m) (i : Nat) : w.frozen? ⟨b, i, none⟩ = false := World.ownsRow.frozenAt h i

/-- What l10round answers. -/
def RndOut (xs : List Cel) (b : Nat) (m : Nat → Nat) (k n : Int) (w : World) (e : Ending) (w' : World) : Prop :=
  ∃ (r : Bool) (m' : Nat → Nat), e = .returned (.bool r) ∧ w.grownBy w' (some b) ∧ RowM w' b xs.length m' ∧
    (r = true → (∀ x, tgt xs k n = some x → Acc (Stp xs) x) ∧ (∀ o, m' o = 1 ↔ m o = 1) ∧ (∀ o, m' o = 2 → Acc (Stp xs) o) ∧ (∀ o, m o ≠ 0 → m' o ≠ 0) ∧ ∀ o, m' o ≤ 2) ∧ (r = false → ∃ x, tgt xs k n = some x ∧ ¬ Acc (Stp xs) x)
/-- A word of the store. -/
def WordK (xs : List Cel) (k n : Int) : Prop := (k = 0 → 0 ≤ n ∧ n < xs.length ∧ kndA xs n.toNat ≠ 3) ∧ (k = 4 → 0 ≤ n ∧ n < xs.length ∧ kndA xs n.toNat = 3)
theorem Shp.word {xs : List Cel} (hs : Shp xs) {a : Nat} (ha : a < xs.length) : WordK xs (kndA xs a) (numA xs a) := ⟨hs.refs a ha, hs.stru a ha⟩

set_option maxHeartbeats 4000000 in
set_option maxRecDepth 100000 in
theorem round_any (p : Option Addr) (c : Nat) (xs : List Cel) (w0 : World) (hs : Shp xs) (hc : CIn w0 p xs) : ∀ (q b : Nat) (m : Nat → Nat) (k n : Int) (pt : Option Addr) (tl cap : Nat) (w : World), WordK xs k n → unk xs.length m < q → w0.heap.size ≤ b → Below w0.heap.size w0 w → RowM w b xs.length m →
    (∀ x, tgt xs k n = some x → ∀ o, m o = 1 → Relation.TransGen (Stp xs) x o) → (∀ o, m o = 2 → Acc (Stp xs) o) → (∀ o, m o ≤ 2) →
    Calls Try.prog 78 #[.slice p xs.length c, .slice (some ⟨b, 0, none⟩) xs.length xs.length, .agg #[.int .i64 k, .int .i64 n, .slice pt tl cap]] w (RndOut xs b m k n w)
  | 0, b, m, k, n, pt, tl, cap, w, hw, hq, _, _, _, _, _, _ => by omega
  | q + 1, b, m, k, n, pt, tl, cap, w, hwk, hq, hb0, hB, hm, ho1, ho2, ho3 => by
    have IH : Hid _ := round_any p c xs w0 hs hc q
    have HS : Hid (Shp xs) := hs
    have HC : Hid (CIn w0 p xs) := hc
    have HB : Hid (Below w0.heap.size w0 w) := hB
    have HM : Hid (RowM w b xs.length m) := hm
    have HO1 : Hid (∀ x, tgt xs k n = some x → ∀ o, m o = 1 → Relation.TransGen (Stp xs) x o) := ho1
    have HO2 : Hid (∀ o, m o = 2 → Acc (Stp xs) o) := ho2
    have HO3 : Hid (∀ o, m o ≤ 2) := ho3
    have HQ : Hid (unk xs.length m < q + 1) := hq
    have hl := hs.len
    have hblt : b < w.heap.size := hm.lt
    clear hs hc hB hm ho1 ho2 ho3 hq
    have HW1 : Hid (∃ W1, W1 = (w.alloc (.cells #[.int .i64 k, .int .i64 n, .slice pt tl cap] 31)).drew ∧ Below w.heap.size w W1 ∧ Box3 W1 w.heap.size (.int .i64 k) (.int .i64 n) (.slice pt tl cap)) :=
      ⟨_, rfl, ((Below.refl _ _).alloc (Nat.le_refl _) _).drew, Box3.of_block (t := 31) (heap_alloc_new w (.cells #[.int .i64 k, .int .i64 n, .slice pt tl cap] 31))⟩
    by_cases k0 : k = 0
    · subst k0
      obtain ⟨n0, n1, n2⟩ := hwk.1 rfl
      obtain ⟨j, rfl⟩ : ∃ j : Nat, n = j := ⟨n.toNat, by omega⟩
      have hj : j < xs.length := by omega
      obtain ⟨g, o, rfl, hcs⟩ := HC.out (by omega)
      obtain ⟨q1, qc1, c0, c1, c2, _⟩ := (hcs j hj).below HB.out
      have hgl : g < w0.heap.size := by obtain ⟨_, _, y0, _⟩ := hcs j hj; exact World.block_lt_of_cell? _ _ y0
      have HKJ : Hid (kndA xs j ≠ 3) := n2
      have HV : Hid (varB xs j = (decide ((xs.getD j Cel.none).1 = 0) && (xs.getD j Cel.none).2.1 == j)) := by
        show _ = _
        rw [Bool.eq_iff_iff]; simp only [varB, kndA, numA]; simp [hj]
      have HBX : Hid (Below w.heap.size w (w.alloc (.cells #[.int .i64 0, .int .i64 j, .slice pt tl cap] 31))) := (Below.refl _ _).alloc (Nat.le_refl _) _
      have d0 := (HBX.out.cell (World.block_lt_of_cell? _ _ c0)).trans c0
      have d1 := (HBX.out.cell (World.block_lt_of_cell? _ _ c1)).trans c1
      have d2 := (HBX.out.cell (World.block_lt_of_cell? _ _ c2)).trans c2
      generalize e0 : (xs.getD j Cel.none).1 = x0 at c0 d0 HV
      generalize e1 : (xs.getD j Cel.none).2.1 = x1 at c1 d1 HV
      generalize (xs.getD j Cel.none).2.2.length = l2 at c2 d2
      have HE0 : Hid _ := e0
      have HE1 : Hid _ := e1
      have HD2 : Hid _ := d2
      clear hcs e0 e1 n2 hwk d2
      have HTT : Hid (varB xs j = false → tgt xs 0 j = some j) := fun h => by simp [tgt, h]
      by_cases hx0 : x0 = 0
      · have hx0' : (x0 == 0) = true := by simpa using hx0
        by_cases hx1 : x1 = j
        · have hx1' : (x1 == (j : Int)) = true := by simpa using hx1
          have HVT : Hid (varB xs j = true) := by show _ = _; rw [HV.out]; simp [hx0, hx1]
          have HTN : Hid (tgt xs 0 j = none) := by show _ = _; simp [tgt, HVT.out]
          subst hx0
          subst hx1
          clear IH c0 c1 c2 hx0' hx1'
          go_enter Try.func78, Try.ntmps78
          go_wp2
          go_region
          obtain ⟨W1, eW, hbW, hbx⟩ := HW1.out
          rw [← eW]
          clear eW HW1
          obtain ⟨b0, b1, _, _⟩ := hbx
          have HM1 : Hid (RowM W1 b xs.length m) := HM.out.below hbW
          have HG1 : Hid (w.grownBy W1 (some b)) := gB_below hbW
          clear d0 d1 b0 b1
          go_wp2
          go_ret
          exact ⟨true, m, rfl, HG1.out, HM1.out, fun _ => ⟨fun x hx => (by rw [HTN.out] at hx; cases hx), fun o => Iff.rfl, HO2.out, fun o h => h, HO3.out⟩, fun h => (by cases h)⟩
        · have hx1' : (x1 == (j : Int)) = false := by simpa using hx1
          have HVF : Hid (varB xs j = false) := by show _ = _; rw [HV.out]; simp [hx1]
          clear hx1 HV hx0
          go_enter Try.func78, Try.ntmps78
          go_wp2
          go_region
          obtain ⟨W1, eW, hbW, hbx⟩ := HW1.out
          rw [← eW]
          clear eW HW1
          obtain ⟨b0, b1, _, _⟩ := hbx
          have HM1 : Hid (RowM W1 b xs.length m) := HM.out.below hbW
          have HG1 : Hid (w.grownBy W1 (some b)) := gB_below hbW
          have d0 := (hbW.cell (World.block_lt_of_cell? _ _ c0)).trans c0
          have d1 := (hbW.cell (World.block_lt_of_cell? _ _ c1)).trans c1
          have HD2 : Hid _ := (hbW.cell (World.block_lt_of_cell? _ _ c2)).trans c2
          have HTG0 := HTT.out HVF.out
          clear hbW HTT c0 c1 c2
          have HTG : Hid (tgt xs 0 j = some j) := HTG0
          have mj : W1.cell? ⟨b, j, none⟩ = some (.int .i64 (m j)) := HM1.out.cell j hj
          have mf : W1.frozen? ⟨b, j, none⟩ = false := frozenM HM1.out j
          have hmj : m j = 0 ∨ m j = 1 ∨ m j = 2 := by have := HO3.out j; omega
          rcases hmj with hmj | hmj | hmj
          · rw [hmj] at mj
            have mj : W1.cell? ⟨b, j, none⟩ = some (.int .i64 0) := mj
            have HMJ : Hid (m j = 0) := hmj
            have HU : Hid (unk xs.length (setM m j 1) < unk xs.length m) := unk_lt hj hmj (by decide)
            have HM2 : Hid (RowM (W1.setCell ⟨b, j, none⟩ (.int .i64 1)) b xs.length (setM m j 1)) := HM1.out.put j 1
            have HG2 : Hid (w.grownBy (W1.setCell ⟨b, j, none⟩ (.int .i64 1)) (some b)) := gB_trans HG1.out (gB_set W1 j _)
            have g0 := gB_cell (gB_set W1 j (.int .i64 1)) b0 (show w.heap.size ≠ b by omega)
            have g1 := gB_cell (gB_set W1 j (.int .i64 1)) b1 (show w.heap.size ≠ b by omega)
            have hA1 : ∀ o, setM m j 1 o = 1 ↔ (o = j ∨ m o = 1) := fun o => by unfold setM; by_cases e : o = j <;> simp [e]
            have hA2 : ∀ o, setM m j 1 o = 2 → Acc (Stp xs) o := fun o h => by
              unfold setM at h; by_cases e : o = j
              · rw [if_pos e] at h; cases h
              · rw [if_neg e] at h; exact HO2.out o h
            have hA3 : ∀ o, m o ≠ 0 → setM m j 1 o ≠ 0 := fun o h => by
              unfold setM; by_cases e : o = j
              · rw [if_pos e]; decide
              · rw [if_neg e]; exact h
            have hA4 : ∀ o, setM m j 1 o ≤ 2 := fun o => by
              unfold setM; by_cases e : o = j
              · rw [if_pos e]; decide
              · rw [if_neg e]; exact HO3.out o
            have HA1 : Hid _ := hA1
            have HA2 : Hid _ := hA2
            have HA3 : Hid _ := hA3
            have HA4 : Hid _ := hA4
            clear hmj hA1 hA2 hA3 hA4
            have x0' := gB_cell (gB_set W1 j (.int .i64 1)) d0 (show g ≠ b by omega)
            have x1' := gB_cell (gB_set W1 j (.int .i64 1)) d1 (show g ≠ b by omega)
            have x2' := gB_cell (gB_set W1 j (.int .i64 1)) HD2.out (show g ≠ b by omega)
            have HSP : Hid (∀ y, Stp xs y j ↔ tgt xs x0 x1 = some y) := fun y => by rw [Stp, if_neg HKJ.out, ← HE0.out, ← HE1.out]; rfl
            have HCALL : Hid (Calls Try.prog 78 #[.slice (some ⟨g, o, none⟩) xs.length c, .slice (some ⟨b, 0, none⟩) xs.length xs.length, .agg #[.int .i64 x0, .int .i64 x1, .slice q1 l2 qc1]] (W1.setCell ⟨b, j, none⟩ (.int .i64 1)) (RndOut xs b (setM m j 1) x0 x1 (W1.setCell ⟨b, j, none⟩ (.int .i64 1)))) := IH.out b (setM m j 1) x0 x1 q1 l2 qc1 (W1.setCell ⟨b, j, none⟩ (.int .i64 1)) (by rw [← HE0.out, ← HE1.out]; exact HS.out.word hj) (by have := HU.out; have := HQ.out; omega) hb0 (HB.out.trans (gB_down HG2.out hb0 HB.out.size)) HM2.out
              (fun x hx o ho => by
                rcases (HA1.out o).1 ho with rfl | h
                · exact .single ((HSP.out x).2 hx)
                · exact tg_head ((HSP.out x).2 hx) (HO1.out j HTG.out o h)) HA2.out HA4.out
            clear IH
            go_wp2_with fail
            refine HCALL.out.mono ?_
            rintro e w4 ⟨r, m4, rfl, hg4, hm4, hr1, hr0⟩
            have HG4 : Hid (w.grownBy w4 (some b)) := gB_trans HG2.out hg4
            have HM4 : Hid (RowM w4 b xs.length m4) := hm4
            have f0 := gB_cell hg4 g0 (show w.heap.size ≠ b by omega)
            have f1 := gB_cell hg4 g1 (show w.heap.size ≠ b by omega)
            have HR1 : Hid _ := hr1
            have HR0 : Hid _ := hr0
            clear hg4 hm4 hr1 hr0 HCALL x0' x1' x2' g0 g1
            cases r
            · go_wp2
              go_ret
              exact ⟨false, m4, rfl, HG4.out, HM4.out, fun h => (by cases h), fun _ => ⟨j, HTG.out, fun ha => by
                obtain ⟨x, hx, hnx⟩ := HR0.out (by trivial)
                exact hnx (ha.inv ((HSP.out x).2 hx))⟩⟩
            · have w4j := HM4.out.cell j hj
              have w4f := frozenM HM4.out j
              have HG5 : Hid (w.grownBy (w4.setCell ⟨b, j, none⟩ (.int .i64 2)) (some b)) := gB_trans HG4.out (gB_set w4 j _)
              have HM5 : Hid (RowM (w4.setCell ⟨b, j, none⟩ (.int .i64 2)) b xs.length (setM m4 j 2)) := HM4.out.put j 2
              go_wp2
              go_ret
              obtain ⟨a1, a2, a3, a4, a5⟩ := HR1.out (by trivial)
              have hacc : Acc (Stp xs) j := Acc.intro _ fun y hy => a1 y ((HSP.out y).1 hy)
              refine ⟨true, setM m4 j 2, rfl, HG5.out, HM5.out, fun _ => ⟨fun x hx => by rw [HTG.out] at hx; cases hx; exact hacc, fun o => ?_, fun o h => ?_, fun o h => ?_, fun o => ?_⟩, fun h => (by cases h)⟩
              · unfold setM; by_cases e : o = j
                · subst e; simp [HMJ.out]
                · rw [if_neg e, a2 o, HA1.out o]; simp [e]
              · unfold setM at h; by_cases e : o = j
                · subst e; exact hacc
                · rw [if_neg e] at h; exact a3 o h
              · unfold setM; by_cases e : o = j
                · rw [if_pos e]; decide
                · rw [if_neg e]; exact a4 o (HA3.out o h)
              · unfold setM; by_cases e : o = j
                · rw [if_pos e]; decide
                · rw [if_neg e]; exact a5 o
          · rw [hmj] at mj
            have mj : W1.cell? ⟨b, j, none⟩ = some (.int .i64 1) := mj
            have HMJ : Hid (m j = 1) := hmj
            clear hmj IH
            go_wp2
            go_ret
            exact ⟨false, m, rfl, HG1.out, HM1.out, fun h => (by cases h), fun _ => ⟨j, HTG.out, acc_loop (HO1.out j HTG.out j HMJ.out)⟩⟩
          · rw [hmj] at mj
            have mj : W1.cell? ⟨b, j, none⟩ = some (.int .i64 2) := mj
            have HMJ : Hid (m j = 2) := hmj
            clear hmj IH
            go_wp2
            go_ret
            exact ⟨true, m, rfl, HG1.out, HM1.out, fun _ => ⟨fun x hx => by rw [HTG.out] at hx; cases hx; exact HO2.out j HMJ.out, fun o => Iff.rfl, HO2.out, fun o h => h, HO3.out⟩, fun h => (by cases h)⟩
      · have hx0' : (x0 == 0) = false := by simpa using hx0
        have HVF : Hid (varB xs j = false) := by show _ = _; rw [HV.out]; simp [hx0]
        clear hx0 HV
        go_enter Try.func78, Try.ntmps78
        go_wp2
        go_region
        obtain ⟨W1, eW, hbW, hbx⟩ := HW1.out
        rw [← eW]
        clear eW HW1
        obtain ⟨b0, b1, _, _⟩ := hbx
        have HM1 : Hid (RowM W1 b xs.length m) := HM.out.below hbW
        have HG1 : Hid (w.grownBy W1 (some b)) := gB_below hbW
        have d0 := (hbW.cell (World.block_lt_of_cell? _ _ c0)).trans c0
        have d1 := (hbW.cell (World.block_lt_of_cell? _ _ c1)).trans c1
        have HD2 : Hid _ := (hbW.cell (World.block_lt_of_cell? _ _ c2)).trans c2
        have HTG0 := HTT.out HVF.out
        clear hbW HTT c0 c1 c2
        have HTG : Hid (tgt xs 0 j = some j) := HTG0
        have mj : W1.cell? ⟨b, j, none⟩ = some (.int .i64 (m j)) := HM1.out.cell j hj
        have mf : W1.frozen? ⟨b, j, none⟩ = false := frozenM HM1.out j
        have hmj : m j = 0 ∨ m j = 1 ∨ m j = 2 := by have := HO3.out j; omega
        rcases hmj with hmj | hmj | hmj
        · rw [hmj] at mj
          have mj : W1.cell? ⟨b, j, none⟩ = some (.int .i64 0) := mj
          have HMJ : Hid (m j = 0) := hmj
          have HU : Hid (unk xs.length (setM m j 1) < unk xs.length m) := unk_lt hj hmj (by decide)
          have HM2 : Hid (RowM (W1.setCell ⟨b, j, none⟩ (.int .i64 1)) b xs.length (setM m j 1)) := HM1.out.put j 1
          have HG2 : Hid (w.grownBy (W1.setCell ⟨b, j, none⟩ (.int .i64 1)) (some b)) := gB_trans HG1.out (gB_set W1 j _)
          have g0 := gB_cell (gB_set W1 j (.int .i64 1)) b0 (show w.heap.size ≠ b by omega)
          have g1 := gB_cell (gB_set W1 j (.int .i64 1)) b1 (show w.heap.size ≠ b by omega)
          have hA1 : ∀ o, setM m j 1 o = 1 ↔ (o = j ∨ m o = 1) := fun o => by unfold setM; by_cases e : o = j <;> simp [e]
          have hA2 : ∀ o, setM m j 1 o = 2 → Acc (Stp xs) o := fun o h => by
            unfold setM at h; by_cases e : o = j
            · rw [if_pos e] at h; cases h
            · rw [if_neg e] at h; exact HO2.out o h
          have hA3 : ∀ o, m o ≠ 0 → setM m j 1 o ≠ 0 := fun o h => by
            unfold setM; by_cases e : o = j
            · rw [if_pos e]; decide
            · rw [if_neg e]; exact h
          have hA4 : ∀ o, setM m j 1 o ≤ 2 := fun o => by
            unfold setM; by_cases e : o = j
            · rw [if_pos e]; decide
            · rw [if_neg e]; exact HO3.out o
          have HA1 : Hid _ := hA1
          have HA2 : Hid _ := hA2
          have HA3 : Hid _ := hA3
          have HA4 : Hid _ := hA4
          clear hmj hA1 hA2 hA3 hA4
          have x0' := gB_cell (gB_set W1 j (.int .i64 1)) d0 (show g ≠ b by omega)
          have x1' := gB_cell (gB_set W1 j (.int .i64 1)) d1 (show g ≠ b by omega)
          have x2' := gB_cell (gB_set W1 j (.int .i64 1)) HD2.out (show g ≠ b by omega)
          have HSP : Hid (∀ y, Stp xs y j ↔ tgt xs x0 x1 = some y) := fun y => by rw [Stp, if_neg HKJ.out, ← HE0.out, ← HE1.out]; rfl
          have HCALL : Hid (Calls Try.prog 78 #[.slice (some ⟨g, o, none⟩) xs.length c, .slice (some ⟨b, 0, none⟩) xs.length xs.length, .agg #[.int .i64 x0, .int .i64 x1, .slice q1 l2 qc1]] (W1.setCell ⟨b, j, none⟩ (.int .i64 1)) (RndOut xs b (setM m j 1) x0 x1 (W1.setCell ⟨b, j, none⟩ (.int .i64 1)))) := IH.out b (setM m j 1) x0 x1 q1 l2 qc1 (W1.setCell ⟨b, j, none⟩ (.int .i64 1)) (by rw [← HE0.out, ← HE1.out]; exact HS.out.word hj) (by have := HU.out; have := HQ.out; omega) hb0 (HB.out.trans (gB_down HG2.out hb0 HB.out.size)) HM2.out
            (fun x hx o ho => by
              rcases (HA1.out o).1 ho with rfl | h
              · exact .single ((HSP.out x).2 hx)
              · exact tg_head ((HSP.out x).2 hx) (HO1.out j HTG.out o h)) HA2.out HA4.out
          clear IH
          go_wp2_with fail
          refine HCALL.out.mono ?_
          rintro e w4 ⟨r, m4, rfl, hg4, hm4, hr1, hr0⟩
          have HG4 : Hid (w.grownBy w4 (some b)) := gB_trans HG2.out hg4
          have HM4 : Hid (RowM w4 b xs.length m4) := hm4
          have f0 := gB_cell hg4 g0 (show w.heap.size ≠ b by omega)
          have f1 := gB_cell hg4 g1 (show w.heap.size ≠ b by omega)
          have HR1 : Hid _ := hr1
          have HR0 : Hid _ := hr0
          clear hg4 hm4 hr1 hr0 HCALL x0' x1' x2' g0 g1
          cases r
          · go_wp2
            go_ret
            exact ⟨false, m4, rfl, HG4.out, HM4.out, fun h => (by cases h), fun _ => ⟨j, HTG.out, fun ha => by
              obtain ⟨x, hx, hnx⟩ := HR0.out (by trivial)
              exact hnx (ha.inv ((HSP.out x).2 hx))⟩⟩
          · have w4j := HM4.out.cell j hj
            have w4f := frozenM HM4.out j
            have HG5 : Hid (w.grownBy (w4.setCell ⟨b, j, none⟩ (.int .i64 2)) (some b)) := gB_trans HG4.out (gB_set w4 j _)
            have HM5 : Hid (RowM (w4.setCell ⟨b, j, none⟩ (.int .i64 2)) b xs.length (setM m4 j 2)) := HM4.out.put j 2
            go_wp2
            go_ret
            obtain ⟨a1, a2, a3, a4, a5⟩ := HR1.out (by trivial)
            have hacc : Acc (Stp xs) j := Acc.intro _ fun y hy => a1 y ((HSP.out y).1 hy)
            refine ⟨true, setM m4 j 2, rfl, HG5.out, HM5.out, fun _ => ⟨fun x hx => by rw [HTG.out] at hx; cases hx; exact hacc, fun o => ?_, fun o h => ?_, fun o h => ?_, fun o => ?_⟩, fun h => (by cases h)⟩
            · unfold setM; by_cases e : o = j
              · subst e; simp [HMJ.out]
              · rw [if_neg e, a2 o, HA1.out o]; simp [e]
            · unfold setM at h; by_cases e : o = j
              · subst e; exact hacc
              · rw [if_neg e] at h; exact a3 o h
            · unfold setM; by_cases e : o = j
              · rw [if_pos e]; decide
              · rw [if_neg e]; exact a4 o (HA3.out o h)
            · unfold setM; by_cases e : o = j
              · rw [if_pos e]; decide
              · rw [if_neg e]; exact a5 o
        · rw [hmj] at mj
          have mj : W1.cell? ⟨b, j, none⟩ = some (.int .i64 1) := mj
          have HMJ : Hid (m j = 1) := hmj
          clear hmj IH
          go_wp2
          go_ret
          exact ⟨false, m, rfl, HG1.out, HM1.out, fun h => (by cases h), fun _ => ⟨j, HTG.out, acc_loop (HO1.out j HTG.out j HMJ.out)⟩⟩
        · rw [hmj] at mj
          have mj : W1.cell? ⟨b, j, none⟩ = some (.int .i64 2) := mj
          have HMJ : Hid (m j = 2) := hmj
          clear hmj IH
          go_wp2
          go_ret
          exact ⟨true, m, rfl, HG1.out, HM1.out, fun _ => ⟨fun x hx => by rw [HTG.out] at hx; cases hx; exact HO2.out j HMJ.out, fun o => Iff.rfl, HO2.out, fun o h => h, HO3.out⟩, fun h => (by cases h)⟩
    · have k0' : (k == 0) = false := by simpa using k0
      have k0n : (k != 0) = true := by simpa using k0
      by_cases k4 : k = 4
      · subst k4
        obtain ⟨n0, n1, n2⟩ := hwk.2 rfl
        obtain ⟨j, rfl⟩ : ∃ j : Nat, n = j := ⟨n.toNat, by omega⟩
        have hj : j < xs.length := by omega
        obtain ⟨g, o, rfl, hcs⟩ := HC.out (by omega)
        obtain ⟨q1, qc1, _, c1, _, _⟩ := (hcs j hj).below HB.out
        have hgl : g < w0.heap.size := by obtain ⟨_, _, y0, _⟩ := hcs j hj; exact World.block_lt_of_cell? _ _ y0
        have HCC : Hid (∀ a, a < xs.length → CAt w0 g (o + a * 3) (xs.getD a Cel.none)) := hcs
        have HKJ : Hid (kndA xs j = 3) := n2
        obtain ⟨f1, f2, f3⟩ := HS.out.funs j hj n2
        have e1 : (xs.getD j Cel.none).2.1 = numA xs j := rfl
        rw [e1] at c1
        generalize en : numA xs j = nn at c1 f1 f2 f3
        have HNN : Hid _ := en
        have HFN : Hid (∀ i : Nat, 1 ≤ i → (i : Int) ≤ nn → j + i < xs.length ∧ kndA xs (j + i) ≠ 3) := f3
        have HTG0 : tgt xs 4 j = some j := by simp [tgt]
        clear hcs n2 hwk k0 e1 en f3
        go_enter Try.func78, Try.ntmps78
        go_wp2
        go_region
        obtain ⟨W1, eW, hbW, hbx⟩ := HW1.out
        rw [← eW]
        clear eW HW1
        obtain ⟨b0, b1, _, _⟩ := hbx
        have HM1 : Hid (RowM W1 b xs.length m) := HM.out.below hbW
        have HG1 : Hid (w.grownBy W1 (some b)) := gB_below hbW
        have d1 := (hbW.cell (World.block_lt_of_cell? _ _ c1)).trans c1
        clear hbW
        have HTG : Hid (tgt xs 4 j = some j) := HTG0
        have mj : W1.cell? ⟨b, j, none⟩ = some (.int .i64 (m j)) := HM1.out.cell j hj
        have mf : W1.frozen? ⟨b, j, none⟩ = false := frozenM HM1.out j
        have hmj : m j = 0 ∨ m j = 1 ∨ m j = 2 := by have := HO3.out j; omega
        rcases hmj with hmj | hmj | hmj
        · rw [hmj] at mj
          have mj : W1.cell? ⟨b, j, none⟩ = some (.int .i64 0) := mj
          have HMJ : Hid (m j = 0) := hmj
          have HU : Hid (unk xs.length (setM m j 1) < unk xs.length m) := unk_lt hj hmj (by decide)
          have HM2 : Hid (RowM (W1.setCell ⟨b, j, none⟩ (.int .i64 1)) b xs.length (setM m j 1)) := HM1.out.put j 1
          have HG2 : Hid (w.grownBy (W1.setCell ⟨b, j, none⟩ (.int .i64 1)) (some b)) := gB_trans HG1.out (gB_set W1 j _)
          have g0 := gB_cell (gB_set W1 j (.int .i64 1)) b0 (show w.heap.size ≠ b by omega)
          have g1 := gB_cell (gB_set W1 j (.int .i64 1)) b1 (show w.heap.size ≠ b by omega)
          have hA1 : ∀ o, setM m j 1 o = 1 ↔ (o = j ∨ m o = 1) := fun o => by unfold setM; by_cases e : o = j <;> simp [e]
          have hA2 : ∀ o, setM m j 1 o = 2 → Acc (Stp xs) o := fun o h => by
            unfold setM at h; by_cases e : o = j
            · rw [if_pos e] at h; cases h
            · rw [if_neg e] at h; exact HO2.out o h
          have hA3 : ∀ o, m o ≠ 0 → setM m j 1 o ≠ 0 := fun o h => by
            unfold setM; by_cases e : o = j
            · rw [if_pos e]; decide
            · rw [if_neg e]; exact h
          have hA4 : ∀ o, setM m j 1 o ≤ 2 := fun o => by
            unfold setM; by_cases e : o = j
            · rw [if_pos e]; decide
            · rw [if_neg e]; exact HO3.out o
          have HA1 : Hid _ := hA1
          have HA2 : Hid _ := hA2
          have HA3 : Hid _ := hA3
          have HA4 : Hid _ := hA4
          clear hmj hA1 hA2 hA3 hA4
          have HSP : Hid (∀ y, Stp xs y j ↔ ∃ i : Nat, 1 ≤ i ∧ (i : Int) ≤ nn ∧ tgt xs (kndA xs (j + i)) (numA xs (j + i)) = some y) := fun y => by rw [Stp, if_pos HKJ.out, HNN.out]
          go_wp2
          go_loopw [7] (fun s wr => ∃ (i : Nat) (m' : Nat → Nat), 1 ≤ i ∧ (i : Int) ≤ nn + 1 ∧ s = .int .i64 i ∧ Hid (w.grownBy wr (some b)) ∧ Hid (RowM wr b xs.length m') ∧ Hid (unk xs.length m' < unk xs.length m) ∧ Hid (∀ o, m' o = 1 ↔ (o = j ∨ m o = 1)) ∧ Hid (∀ o, m' o = 2 → Acc (Stp xs) o) ∧ Hid (∀ o, m o ≠ 0 → m' o ≠ 0) ∧ Hid (∀ o, m' o ≤ 2) ∧
            Hid (wr.cell? ⟨w.heap.size, 0, none⟩ = some (.int .i64 4) ∧ wr.cell? ⟨w.heap.size, 1, none⟩ = some (.int .i64 j)) ∧ Hid (∀ a y, 1 ≤ a → a < i → tgt xs (kndA xs (j + a)) (numA xs (j + a)) = some y → Acc (Stp xs) y)) (fun s _ => (nn + 1 - intOf s).toNat)
          case atStart => exact ⟨1, setM m j 1, Nat.le_refl _, by omega, rfl, HG2.out, HM2.out, HU.out, HA1.out, HA2.out, HA3.out, HA4.out, ⟨g0, g1⟩, fun a y h1 h2 => by omega⟩
          case round =>
            obtain ⟨i, m', hi1, hi2, rfl, HGr, HMr, HUr, HR1, HR2, HR3, HR4, HBr, HR5⟩ := hrel
            obtain ⟨t0, t1⟩ := HBr.out
            have tN := gB_cell HGr.out c1 (show g ≠ b by omega)
            clear g0 g1
            by_cases hle : (i : Int) ≤ nn
            · obtain ⟨fa, fb⟩ := HFN.out i hi1 hle
              obtain ⟨q2, qc2, y0, y1, y2, _⟩ := (HCC.out (j + i) fa).below HB.out
              have z0 := gB_cell HGr.out y0 (show g ≠ b by omega)
              have z1 := gB_cell HGr.out y1 (show g ≠ b by omega)
              have z2 := gB_cell HGr.out y2 (show g ≠ b by omega)
              have HCALL : Hid _ := IH.out b m' (kndA xs (j + i)) (numA xs (j + i)) q2 (xs.getD (j + i) Cel.none).2.2.length qc2 wr (HS.out.word fa) (by have := HUr.out; have := HQ.out; omega) hb0 (HB.out.trans (gB_down HGr.out hb0 HB.out.size)) HMr.out
                (fun x hx o ho => by
                  have hst := (HSP.out x).2 ⟨i, hi1, hle, hx⟩
                  rcases (HR1.out o).1 ho with rfl | h
                  · exact .single hst
                  · exact tg_head hst (HO1.out j HTG.out o h)) HR2.out HR4.out
              have HCALL : Hid (Calls Try.prog 78 #[.slice (some ⟨g, o, none⟩) xs.length c, .slice (some ⟨b, 0, none⟩) xs.length xs.length, .agg #[.int .i64 (xs.getD (j + i) Cel.none).1, .int .i64 (xs.getD (j + i) Cel.none).2.1, .slice q2 (xs.getD (j + i) Cel.none).2.2.length qc2]] wr (RndOut xs b m' (kndA xs (j + i)) (numA xs (j + i)) wr)) := HCALL.out
              have eo : o + (j + i) * 3 = o + (j + i) * 3 := rfl
              generalize (xs.getD (j + i) Cel.none).1 = v0 at z0 HCALL
              generalize (xs.getD (j + i) Cel.none).2.1 = v1 at z1 HCALL
              generalize (xs.getD (j + i) Cel.none).2.2.length = v2 at z2 HCALL
              have HFA : Hid (j + i < xs.length) := fa
              have hji : ((j : Int) + (i : Int)) < xs.length := by omega
              clear IH y0 y1 y2 fb eo
              go_wp2_with fail
              refine HCALL.out.mono ?_
              rintro e w4 ⟨r, m4, rfl, hg4, hm4, hr1, hr0⟩
              have HG4 : Hid (w.grownBy w4 (some b)) := gB_trans HGr.out hg4
              have HM4 : Hid (RowM w4 b xs.length m4) := hm4
              have f0 := gB_cell hg4 t0 (show w.heap.size ≠ b by omega)
              have f1 := gB_cell hg4 t1 (show w.heap.size ≠ b by omega)
              have HF : Hid _ := And.intro f0 f1
              have HX1 : Hid _ := hr1
              have HX0 : Hid _ := hr0
              clear hg4 hm4 hr1 hr0 HCALL z0 z1 z2 t0 t1 tN
              cases r
              · go_wp2
                go_ret
                exact ⟨false, m4, rfl, HG4.out, HM4.out, fun h => (by cases h), fun _ => ⟨j, HTG.out, fun ha => by
                  obtain ⟨x, hx, hnx⟩ := HX0.out (by trivial)
                  exact hnx (ha.inv ((HSP.out x).2 ⟨i, hi1, hle, hx⟩))⟩⟩
              · go_wp2
                go_roundw
                case rel =>
                  obtain ⟨a1, a2, a3, a4, a5⟩ := HX1.out (by trivial)
                  refine ⟨i + 1, m4, by omega, by omega, by go_num, HG4.out, HM4.out, ?_, fun o => (a2 o).trans (HR1.out o), a3, fun o h => a4 o (HR3.out o h), a5, HF.out, fun a y h1 h2 hy => ?_⟩
                  · show _ < _
                    exact Nat.lt_of_le_of_lt (unk_le a4) HUr.out
                  · rcases Nat.lt_or_eq_of_le (Nat.lt_succ_iff.1 h2) with h2 | rfl
                    · exact HR5.out a y h1 h2 hy
                    · exact a1 y hy
                case measure => simp [intOf]; omega
            · have w4j := HMr.out.cell j hj
              have w4f := frozenM HMr.out j
              have HG5 : Hid (w.grownBy (wr.setCell ⟨b, j, none⟩ (.int .i64 2)) (some b)) := gB_trans HGr.out (gB_set wr j _)
              have HM5 : Hid (RowM (wr.setCell ⟨b, j, none⟩ (.int .i64 2)) b xs.length (setM m' j 2)) := HMr.out.put j 2
              have hii : Hid ((i : Int) = nn + 1) := by show _ = _; omega
              clear IH
              go_wp2
              go_ret
              have hacc : Acc (Stp xs) j := Acc.intro _ fun y hy => by
                obtain ⟨a, h1, h2, hy⟩ := (HSP.out y).1 hy
                exact HR5.out a y h1 (by have := hii.out; omega) hy
              refine ⟨true, setM m' j 2, rfl, HG5.out, HM5.out, fun _ => ⟨fun x hx => by rw [HTG.out] at hx; cases hx; exact hacc, fun o => ?_, fun o h => ?_, fun o h => ?_, fun o => ?_⟩, fun h => (by cases h)⟩
              · unfold setM; by_cases e : o = j
                · subst e; simp [HMJ.out]
                · rw [if_neg e, HR1.out o]; simp [e]
              · unfold setM at h; by_cases e : o = j
                · subst e; exact hacc
                · rw [if_neg e] at h; exact HR2.out o h
              · unfold setM; by_cases e : o = j
                · rw [if_pos e]; decide
                · rw [if_neg e]; exact HR3.out o h
              · unfold setM; by_cases e : o = j
                · rw [if_pos e]; decide
                · rw [if_neg e]; exact HR4.out o
        · rw [hmj] at mj
          have mj : W1.cell? ⟨b, j, none⟩ = some (.int .i64 1) := mj
          have HMJ : Hid (m j = 1) := hmj
          clear hmj IH
          go_wp2
          go_ret
          exact ⟨false, m, rfl, HG1.out, HM1.out, fun h => (by cases h), fun _ => ⟨j, HTG.out, acc_loop (HO1.out j HTG.out j HMJ.out)⟩⟩
        · rw [hmj] at mj
          have mj : W1.cell? ⟨b, j, none⟩ = some (.int .i64 2) := mj
          have HMJ : Hid (m j = 2) := hmj
          clear hmj IH
          go_wp2
          go_ret
          exact ⟨true, m, rfl, HG1.out, HM1.out, fun _ => ⟨fun x hx => by rw [HTG.out] at hx; cases hx; exact HO2.out j HMJ.out, fun o => Iff.rfl, HO2.out, fun o h => h, HO3.out⟩, fun h => (by cases h)⟩
      · have k4' : (k != 4) = true := by simpa using k4
        have HTN : Hid (tgt xs k n = none) := by show _ = _; simp [tgt, k0, k4]
        clear IH hwk k0 k4
        go_enter Try.func78, Try.ntmps78
        go_wp2
        go_region
        obtain ⟨W1, eW, hbW, hbx⟩ := HW1.out
        rw [← eW]
        clear eW HW1
        obtain ⟨b0, b1, _, _⟩ := hbx
        have HM1 : Hid (RowM W1 b xs.length m) := HM.out.below hbW
        have HG1 : Hid (w.grownBy W1 (some b)) := gB_below hbW
        go_wp2
        go_ret
        exact ⟨true, m, rfl, HG1.out, HM1.out, fun _ => ⟨fun x hx => (by rw [HTN.out] at hx; cases hx), fun o => Iff.rfl, HO2.out, fun o h => h, HO3.out⟩, fun h => (by cases h)⟩

end Go.Proofs.Ytedkkghekboahaa

