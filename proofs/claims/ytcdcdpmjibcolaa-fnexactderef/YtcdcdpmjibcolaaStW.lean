/- Is a heap valid; words out of cells; an empty heap; a trail pushed. Own work of the verifier. -/
import Derived.Test.YtcdcdpmjibcolaaStD
import Derived.Deep.AppendLies
import Derived.Deep.Upon
namespace Go.Proofs.Ytcdcdpmjibcolaa
open Go Go.RowKit Go.Maps
set_option linter.unusedVariables false

set_option maxRecDepth 100000 in
theorem hasLoop_any (h : Nat) (xs : List Cel) (tr : List Int) (w : World) (hs : Shp xs) (H : HeapAt w h xs tr) :
    Calls Try.prog 84 #[.pointer (some ⟨h, 0, none⟩)] w fun e w' => e = .returned (.bool (!acycB xs)) ∧ Below w.heap.size w w' := by
  have HH : Hid (HeapAt w h xs tr) := H
  have HS : Hid (Shp xs) := hs
  have hl := hs.len
  have hb0 : Below w.heap.size w (w.alloc (.map #[] 0)) := (Below.refl _ _).alloc (Nat.le_refl _) _
  obtain ⟨pw, cw, pt, ct, c0, c1, hw, hi⟩ := H.below hb0
  have HB0 : Hid _ := hb0
  have HM0 : Hid _ := SMap.made w
  clear hs hw hi c1 H hb0
  have hmm := @run_makeMap Try.prog
  go_enter Try.func84, Try.ntmps84
  go_wp2
  clear hmm
  go_loopw [11] (fun i wr => ∃ (k N : Nat) (m : Nat → Nat), k ≤ xs.length ∧ i = .int .i64 k ∧ Hid (Below w.heap.size w wr) ∧ Hid (SMap wr w.heap.size N m) ∧ Hid (N + 2 * unk xs.length m ≤ 2 * xs.length) ∧ Hid (∀ o, m o ≠ 1) ∧ Hid (∀ o, m o = 2 → Acc (Kid xs) o) ∧ Hid (∀ o, m o ≤ 2) ∧ Hid (∀ y, y < k → Acc (Kid xs) y)) (fun i _ => xs.length - (intOf i).toNat)
  case atStart => exact ⟨0, 0, fun _ => 0, Nat.zero_le _, rfl, HB0.out, HM0.out, by show _ ≤ _; have := unk_top xs.length (fun _ => 0); omega, fun o h => (by cases h), fun o h => (by cases h), fun o => Nat.zero_le _, fun y h => absurd h (Nat.not_lt_zero _)⟩
  case round =>
    obtain ⟨k, N, m, hk, rfl, HB, HM, HN, H1, H2, H3, H4⟩ := hrel
    by_cases hlt : k < xs.length
    · have HC := leadsBack_any h xs tr w HS.out HH.out (unk xs.length m + 1) k w.heap.size N m wr hlt (by omega) (by have := HN.out; omega) (Nat.le_refl _) HB.out HM.out (fun o ho => absurd ho (H1.out o)) H2.out H3.out
      go_wp2_with fail
      refine HC.mono ?_
      rintro e w4 ⟨r, N2, m2, rfl, hb4, hm4, hn4, hr0, hr1⟩
      have HB4 : Hid (Below w.heap.size w w4) := HB.out.trans hb4
      have HM4 : Hid (SMap w4 w.heap.size N2 m2) := hm4
      have HN4 : Hid (N2 + 2 * unk xs.length m2 ≤ N + 2 * unk xs.length m) := hn4
      clear hb4 hm4 hn4 HC
      cases r
      · have H0 : Hid _ := hr0 rfl
        clear hr0 hr1
        go_wp2
        go_roundw
        case rel =>
          obtain ⟨a1, a2, a3, a4, a5⟩ := H0.out
          refine ⟨k + 1, N2, m2, by omega, by go_num, HB4.out, HM4.out, ?_, fun o ho => H1.out o ((a2 o).1 ho), a3, a5, fun y h2 => ?_⟩
          · show _ ≤ _; have := HN4.out; have := HN.out; omega
          · rcases Nat.lt_or_eq_of_le (Nat.lt_succ_iff.1 h2) with h2 | rfl
            · exact H4.out y h2
            · exact a1
        case measure => simp [intOf]; omega
      · have H0 : Hid _ := hr1 rfl
        clear hr0 hr1
        go_wp2
        go_ret
        exact ⟨ret_bool (by rw [acycB_false (fun ha => H0.out (ha k hlt))]; rfl), HB4.out⟩
    · obtain rfl : k = xs.length := by omega
      go_wp2
      go_ret
      exact ⟨ret_bool (by rw [acycB_true (fun a ha => H4.out a ha)]; rfl), HB.out⟩

/-- What is asked of a heap whose cells can be words. -/
noncomputable def heapB (xs : List Cel) (tr : List Int) : Bool := wholeF 0 xs && (xs.all (linkC xs) && tr.all (isWB xs)) && acycB xs
theorem good_of {xs : List Cel} (ho : ∀ a, a < xs.length → okW (xs.getD a Cel.none).1 (xs.getD a Cel.none).2.1 (xs.getD a Cel.none).2.2.length = true) (hl : xs.all (linkC xs) = true) : xs.all (goodC xs) = true := all_at fun j hj => by
  have := List.all_eq_true.1 hl _ (mem_at hj)
  unfold goodC
  rw [ho j hj, Bool.true_and]
  exact this
theorem ok_knd {k n : Int} {m : Nat} (h : okW k n m = true) : k = 0 ∨ k = 1 ∨ k = 2 ∨ k = 3 ∨ k = 4 := by
  unfold okW at h
  split at h
  · omega
  · simp [cellB] at h; omega
set_option maxRecDepth 100000 in
theorem isValid_any (h : Nat) (xs : List Cel) (tr : List Int) (w : World) (hl : xs.length ≤ 20000) (ht : tr.length ≤ 20000) (ho : ∀ a, a < xs.length → okW (xs.getD a Cel.none).1 (xs.getD a Cel.none).2.1 (xs.getD a Cel.none).2.2.length = true) (H : HeapAt w h xs tr) :
    Calls Try.prog 57 #[.pointer (some ⟨h, 0, none⟩)] w fun e w' => e = .returned (.bool (heapB xs tr)) ∧ Below w.heap.size w w' := by
  have hk : Knds xs := fun a ha => ok_knd (ho a ha)
  have hf : ∀ a, a < xs.length → kndA xs a = 3 → 1 ≤ numA xs a ∧ numA xs a ≤ 20 := fun a ha h3 => by
    have := ho a ha
    rw [show (xs.getD a Cel.none).1 = 3 from h3] at this
    have := okW_fun.1 this
    exact ⟨this.1, this.2.1⟩
  have HO : Hid (∀ a, a < xs.length → okW (xs.getD a Cel.none).1 (xs.getD a Cel.none).2.1 (xs.getD a Cel.none).2.2.length = true) := ho
  have HH : Hid (HeapAt w h xs tr) := H
  obtain ⟨pw, cw, pt, ct, c0, c1, hw, hi⟩ := H
  have HC1 := isWhole_any pw cw xs w hl hk hf hw
  have HC2 : Hid (∀ W, Below w.heap.size w W → Calls Try.prog 83 #[.pointer (some ⟨h, 0, none⟩)] W fun e w' => e = .returned (.bool (xs.all (linkC xs) && tr.all (isWB xs))) ∧ Below W.heap.size W w') := fun W hW => isLinked_any h xs tr W hl ht hk (HH.out.below hW)
  have HC3 : Hid (wholeF 0 xs = true → (xs.all (linkC xs) && tr.all (isWB xs)) = true → ∀ W, Below w.heap.size w W → Calls Try.prog 84 #[.pointer (some ⟨h, 0, none⟩)] W fun e w' => e = .returned (.bool (!acycB xs)) ∧ Below W.heap.size W w') := fun h1 h2 W hW =>
    hasLoop_any h xs tr W (shp_of hl (good_of HO.out (by rw [Bool.and_eq_true] at h2; exact h2.1)) h1) (HH.out.below hW)
  have HE : Hid (heapB xs tr = (wholeF 0 xs && (xs.all (linkC xs) && tr.all (isWB xs)) && acycB xs)) := rfl
  generalize wholeF 0 xs = b1 at HC1 HC3 HE
  generalize (xs.all (linkC xs) && tr.all (isWB xs)) = b2 at HC2 HC3 HE
  generalize acycB xs = b3 at HC3 HE
  clear hk hf ho hw hi c1
  cases b1
  · go_enter Try.func57, Try.ntmps57
    go_wp2_with (go_at_call 55; refine HC1.mono ?_; rintro e w1 ⟨rfl, hb⟩)
    go_ret
    exact ⟨ret_bool (by rw [HE.out]; rfl), hb⟩
  · cases b2
    · go_enter Try.func57, Try.ntmps57
      go_wp2_with fail
      refine HC1.mono ?_
      rintro e w1 ⟨rfl, hb⟩
      have HB1 : Hid (Below w.heap.size w w1) := hb
      clear hb HC1 c0
      go_wp2_with fail
      refine (HC2.out w1 HB1.out).mono ?_
      rintro e w2 ⟨rfl, hb⟩
      have HB2 : Hid (Below w.heap.size w w2) := Below.on HB1.out hb
      clear hb HC2
      go_wp2
      go_ret
      exact ⟨ret_bool (by rw [HE.out]; rfl), HB2.out⟩
    · go_enter Try.func57, Try.ntmps57
      go_wp2_with fail
      refine HC1.mono ?_
      rintro e w1 ⟨rfl, hb⟩
      have HB1 : Hid (Below w.heap.size w w1) := hb
      clear hb HC1 c0
      go_wp2_with fail
      refine (HC2.out w1 HB1.out).mono ?_
      rintro e w2 ⟨rfl, hb⟩
      have HB2 : Hid (Below w.heap.size w w2) := Below.on HB1.out hb
      clear hb HC2
      go_wp2_with fail
      refine (HC3.out (by trivial) (by trivial) w2 HB2.out).mono ?_
      rintro e w3 ⟨rfl, hb⟩
      have HB3 : Hid (Below w.heap.size w w3) := Below.on HB2.out hb
      clear hb HC3
      go_wp2
      go_ret
      exact ⟨ret_bool (by rw [HE.out]; cases b3 <;> rfl), HB3.out⟩

set_option maxHeartbeats 2000000 in
set_option maxRecDepth 100000 in
theorem wordOf_any (k n : Int) (p : Option Addr) (m cap : Nat) (t : List Int) (w : World) (hm : m = t.length) (hin : BIn w p t) :
    Calls Try.prog 80 #[.agg #[.int .i64 k, .int .i64 n, .slice p m cap]] w fun e w' => (∃ v, e = .returned (.tuple #[v, .bool (okW k n m)]) ∧ (okW k n m = true → v = wv (k, n, t))) ∧ Below w.heap.size w w' := by
  by_cases k4 : k = 4
  · subst k4
    have e : okW 4 n m = decide (m = 0) := by simp only [okW, if_true]; rw [Bool.eq_iff_iff]; simp
    rw [e]
    have HV : Hid (wv (4, n, t) = .iface 134 (.int .i64 n)) := rfl
    clear hin hm e
    by_cases h0 : m = 0
    · subst h0
      go_enter Try.func80, Try.ntmps80
      go_wp2
      go_region_with fail
      all_goals go_wp2
      all_goals exact bodyPost_ret (v := .tuple #[.iface 134 (.int .i64 n), .bool true]) (by simp [results, Try.results80, go_sem]) rfl ⟨⟨_, rfl, fun _ => HV.out.symm⟩, ((Below.refl _ _).alloc (Nat.le_refl _) _).drew⟩
    · rw [decide_eq_false h0]
      have h0' : ((m : Int) == 0) = false := by simp; omega
      clear h0
      go_enter Try.func80, Try.ntmps80
      go_wp2
      go_region_with fail
      all_goals go_wp2
      all_goals exact bodyPost_ret (v := .tuple #[.iface 134 (.int .i64 n), .bool false]) (by simp [results, Try.results80, go_sem]) rfl ⟨⟨_, rfl, fun h => by cases h⟩, ((Below.refl _ _).alloc (Nat.le_refl _) _).drew⟩
  · have e : okW k n m = cellB k n m := by simp only [okW, if_neg k4]
    rw [e]
    have HIC := isCell_any k n p m cap (w.alloc (.cells #[.int .i64 k, .int .i64 n, .slice p m cap] 31))
    have k4' : (k == 4) = false := by simpa using k4
    have HK4 : Hid (k ≠ 4) := k4
    have HB0 : Hid (Below w.heap.size w (w.alloc (.cells #[.int .i64 k, .int .i64 n, .slice p m cap] 31))) := (Below.refl _ _).alloc (Nat.le_refl _) _
    have HI : Hid (BIn w p t) := hin
    have HM : Hid (m = t.length) := hm
    clear e k4 hin hm
    cases hc : cellB k n m
    · rw [hc] at HIC
      clear hc
      go_enter Try.func80, Try.ntmps80
      go_wp2_with (go_at_call 96; refine HIC.mono ?_; rintro e w1 ⟨rfl, hb⟩)
      exact bodyPost_ret (v := .tuple #[.nilIface, .bool false]) (by simp [results, Try.results80, go_sem]) rfl ⟨⟨_, rfl, fun h => by cases h⟩, Below.on HB0.out hb⟩
    · rw [hc] at HIC
      have hkk : k = 0 ∨ k = 1 ∨ k = 2 ∨ k = 3 := by simp [cellB] at hc; omega
      clear hc k4'
      have HCV : Hid (∀ W, Below w.heap.size w W → (convert 26 133 (.slice p m cap)).run Try.prog W = .ok (.string (strOfNums t)) W) := fun W hW => conv_str (HI.out.below hW) m cap HM.out 133 Try.underlying133
      have HCS : Hid (∀ W, Below w.heap.size w W → (convert 26 9 (.slice p m cap)).run Try.prog W = .ok (.string (strOfNums t)) W) := fun W hW => conv_str (HI.out.below hW) m cap HM.out 9 Try.underlying9
      have HW : Hid (∀ k n, wv (k, n, t) = if k = 0 then .iface 93 (.int .i64 n) else if k = 1 then .iface 132 (.int .i64 n) else if k = 2 then .iface 133 (.string (strOfNums t))
  else if k = 3 then .iface 125 (.agg #[.string (strOfNums t), .int .i64 n]) else .iface 134 (.int .i64 n)) := fun k n => rfl
      generalize strOfNums t = s at HCV HCS HW
      rcases hkk with hkk | hkk | hkk | hkk <;> subst hkk
      · go_enter Try.func80, Try.ntmps80
        go_wp2_with fail
        refine HIC.mono ?_
        rintro e w1 ⟨rfl, hb⟩
        have bb : Box3 w1 w.heap.size (.int .i64 0) (.int .i64 n) (.slice p m cap) := Box3.of_block (t := 31) ((hb.block _ (by simp)).trans (heap_alloc_new _ _))
        obtain ⟨b0, b1, b2, _⟩ := bb
        have HB1 : Hid (Below w.heap.size w w1) := Below.on HB0.out hb
        clear hb HIC
        go_wp2
        exact bodyPost_ret (v := .tuple #[.iface 93 (.int .i64 n), .bool true]) (by simp [results, Try.results80, go_sem]) rfl ⟨⟨_, rfl, fun h => by rw [HW.out]; rfl⟩, HB1.out⟩
      · go_enter Try.func80, Try.ntmps80
        go_wp2_with fail
        refine HIC.mono ?_
        rintro e w1 ⟨rfl, hb⟩
        have bb : Box3 w1 w.heap.size (.int .i64 1) (.int .i64 n) (.slice p m cap) := Box3.of_block (t := 31) ((hb.block _ (by simp)).trans (heap_alloc_new _ _))
        obtain ⟨b0, b1, b2, _⟩ := bb
        have HB1 : Hid (Below w.heap.size w w1) := Below.on HB0.out hb
        clear hb HIC
        go_wp2
        exact bodyPost_ret (v := .tuple #[.iface 132 (.int .i64 n), .bool true]) (by simp [results, Try.results80, go_sem]) rfl ⟨⟨_, rfl, fun h => by rw [HW.out]; rfl⟩, HB1.out⟩
      · go_enter Try.func80, Try.ntmps80
        go_wp2_with fail
        refine HIC.mono ?_
        rintro e w1 ⟨rfl, hb⟩
        have bb : Box3 w1 w.heap.size (.int .i64 2) (.int .i64 n) (.slice p m cap) := Box3.of_block (t := 31) ((hb.block _ (by simp)).trans (heap_alloc_new _ _))
        obtain ⟨b0, b1, b2, _⟩ := bb
        have HB1 : Hid (Below w.heap.size w w1) := Below.on HB0.out hb
        have hcv := HCV.out w1 HB1.out
        clear hb HIC
        go_wp2
        exact bodyPost_ret (v := .tuple #[.iface 133 (.string s), .bool true]) (by simp [results, Try.results80, go_sem]) rfl ⟨⟨_, rfl, fun h => by rw [HW.out]; rfl⟩, HB1.out⟩
      · go_enter Try.func80, Try.ntmps80
        go_wp2_with fail
        refine HIC.mono ?_
        rintro e w1 ⟨rfl, hb⟩
        have bb : Box3 w1 w.heap.size (.int .i64 3) (.int .i64 n) (.slice p m cap) := Box3.of_block (t := 31) ((hb.block _ (by simp)).trans (heap_alloc_new _ _))
        obtain ⟨b0, b1, b2, _⟩ := bb
        have HB1 : Hid (Below w.heap.size w w1) := Below.on HB0.out hb
        have hcv := HCS.out w1 HB1.out
        clear hb HIC
        go_wp2
        exact bodyPost_ret (v := .tuple #[.iface 125 (.agg #[.string s, .int .i64 n]), .bool true]) (by simp [results, Try.results80, go_sem]) rfl ⟨⟨_, rfl, fun h => by rw [HW.out]; rfl⟩, HB1.out⟩

end Go.Proofs.Ytcdcdpmjibcolaa
