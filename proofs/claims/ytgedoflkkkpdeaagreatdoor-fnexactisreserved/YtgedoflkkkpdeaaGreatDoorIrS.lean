/- IsReserved of the model. Own work of the verifier. Made by wip/draft/irs.py. -/
import Derived.Test.YtgedoflkkkpdeaaGreatDoorIrI
import Derived.Test.YtgedoflkkkpdeaaGreatDoorSpC
import Derived.Test.YtgedoflkkkpdeaaGreatDoorIbT
namespace Go.Proofs.YtgedoflkkkpdeaaGreatDoor
open Go Go.RowKit
set_option linter.unusedVariables false

/-- Whether a name with an arity is a control predicate, as the model asks. -/
def ctlS (s : ByteArray) (a : Int) : Bool := if s.toList == [99, 97, 108, 108] then (decide (1 ≤ a) && decide (a ≤ 8)) else if s.toList == [102, 105, 110, 100, 97, 108, 108] || s.toList == [99, 97, 116, 99, 104] || s.toList == [98, 101, 116, 119, 101, 101, 110] then a == 3 else if s.toList == [116, 104, 114, 111, 119] || s.toList == [97, 115, 115, 101, 114, 116, 97] || s.toList == [97, 115, 115, 101, 114, 116, 122] || s.toList == [114, 101, 116, 114, 97, 99, 116] then a == 1 else if s.toList == [112, 104, 114, 97, 115, 101] then (a == 2 || a == 3) else ((s.toList == [104, 97, 108, 116]) && a == 0)
set_option maxRecDepth 100000 in
set_option maxHeartbeats 1000000 in
theorem l8control_any (s : ByteArray) (a : Int) (w : World) : Calls Tryz.prog 14 #[.string s, .int .i64 a] w fun e w' => e = .returned (.bool (ctlS s a)) ∧ w' = w := by
  have HF : Hid (∀ b, b = ctlS s a → Ending.returned (.bool b) = .returned (.bool (ctlS s a))) := fun b h => ret_bool h
  have HR : Hid (ctlS s a = (if s.toList == [99, 97, 108, 108] then (decide (1 ≤ a) && decide (a ≤ 8)) else if s.toList == [102, 105, 110, 100, 97, 108, 108] || s.toList == [99, 97, 116, 99, 104] || s.toList == [98, 101, 116, 119, 101, 101, 110] then a == 3 else if s.toList == [116, 104, 114, 111, 119] || s.toList == [97, 115, 115, 101, 114, 116, 97] || s.toList == [97, 115, 115, 101, 114, 116, 122] || s.toList == [114, 101, 116, 114, 97, 99, 116] then a == 1 else if s.toList == [112, 104, 114, 97, 115, 101] then (a == 2 || a == 3) else ((s.toList == [104, 97, 108, 116]) && a == 0))) := rfl
  cases h0 : (s.toList == [99, 97, 108, 108])
  rotate_left
  · rw [h0] at HR
    by_cases lo : 1 ≤ a
    · have g0 : decide (1 ≤ a) = true := by simpa using lo
      by_cases hi : a ≤ 8
      · have g1 : decide (a ≤ 8) = true := by simpa using hi
        rw [g0, g1] at HR
        go_enter Tryz.func14, Tryz.ntmps14
        go_wp2_with fail
        go_ret
        exact ⟨HF.out _ (by rw [HR.out]; first | rfl | (rw [Bool.eq_iff_iff]; simp)), rfl⟩
      · have g1 : decide (a ≤ 8) = false := by simpa using hi
        rw [g0, g1] at HR
        go_enter Tryz.func14, Tryz.ntmps14
        go_wp2_with fail
        go_ret
        exact ⟨HF.out _ (by rw [HR.out]; first | rfl | (rw [Bool.eq_iff_iff]; simp)), rfl⟩
    · have g0 : decide (1 ≤ a) = false := by simpa using lo
      rw [g0] at HR
      go_enter Tryz.func14, Tryz.ntmps14
      go_wp2_with fail
      go_ret
      exact ⟨HF.out _ (by rw [HR.out]; first | rfl | (rw [Bool.eq_iff_iff]; simp)), rfl⟩
  cases h1 : (s.toList == [102, 105, 110, 100, 97, 108, 108])
  rotate_left
  · rw [h0, h1] at HR
    go_enter Tryz.func14, Tryz.ntmps14
    go_wp2_with fail
    go_ret
    exact ⟨HF.out _ (by rw [HR.out]; first | rfl | (rw [Bool.eq_iff_iff]; simp)), rfl⟩
  cases h2 : (s.toList == [99, 97, 116, 99, 104])
  rotate_left
  · rw [h0, h1, h2] at HR
    go_enter Tryz.func14, Tryz.ntmps14
    go_wp2_with fail
    go_ret
    exact ⟨HF.out _ (by rw [HR.out]; first | rfl | (rw [Bool.eq_iff_iff]; simp)), rfl⟩
  cases h3 : (s.toList == [98, 101, 116, 119, 101, 101, 110])
  rotate_left
  · rw [h0, h1, h2, h3] at HR
    go_enter Tryz.func14, Tryz.ntmps14
    go_wp2_with fail
    go_ret
    exact ⟨HF.out _ (by rw [HR.out]; first | rfl | (rw [Bool.eq_iff_iff]; simp)), rfl⟩
  cases h4 : (s.toList == [116, 104, 114, 111, 119])
  rotate_left
  · rw [h0, h1, h2, h3, h4] at HR
    go_enter Tryz.func14, Tryz.ntmps14
    go_wp2_with fail
    go_ret
    exact ⟨HF.out _ (by rw [HR.out]; first | rfl | (rw [Bool.eq_iff_iff]; simp)), rfl⟩
  cases h5 : (s.toList == [97, 115, 115, 101, 114, 116, 97])
  rotate_left
  · rw [h0, h1, h2, h3, h4, h5] at HR
    go_enter Tryz.func14, Tryz.ntmps14
    go_wp2_with fail
    go_ret
    exact ⟨HF.out _ (by rw [HR.out]; first | rfl | (rw [Bool.eq_iff_iff]; simp)), rfl⟩
  cases h6 : (s.toList == [97, 115, 115, 101, 114, 116, 122])
  rotate_left
  · rw [h0, h1, h2, h3, h4, h5, h6] at HR
    go_enter Tryz.func14, Tryz.ntmps14
    go_wp2_with fail
    go_ret
    exact ⟨HF.out _ (by rw [HR.out]; first | rfl | (rw [Bool.eq_iff_iff]; simp)), rfl⟩
  cases h7 : (s.toList == [114, 101, 116, 114, 97, 99, 116])
  rotate_left
  · rw [h0, h1, h2, h3, h4, h5, h6, h7] at HR
    go_enter Tryz.func14, Tryz.ntmps14
    go_wp2_with fail
    go_ret
    exact ⟨HF.out _ (by rw [HR.out]; first | rfl | (rw [Bool.eq_iff_iff]; simp)), rfl⟩
  cases h8 : (s.toList == [112, 104, 114, 97, 115, 101])
  rotate_left
  · rw [h0, h1, h2, h3, h4, h5, h6, h7, h8] at HR
    cases g0 : (a == 2) <;> cases g1 : (a == 3)
    all_goals
      rw [g0, g1] at HR
      go_enter Tryz.func14, Tryz.ntmps14
      go_wp2_with fail
      go_ret
      exact ⟨HF.out _ (by rw [HR.out]; first | rfl | (rw [Bool.eq_iff_iff]; simp)), rfl⟩
  cases h9 : (s.toList == [104, 97, 108, 116])
  rotate_left
  · rw [h0, h1, h2, h3, h4, h5, h6, h7, h8, h9] at HR
    cases g0 : (a == 0)
    all_goals
      rw [g0] at HR
      go_enter Tryz.func14, Tryz.ntmps14
      go_wp2_with fail
      go_ret
      exact ⟨HF.out _ (by rw [HR.out]; first | rfl | (rw [Bool.eq_iff_iff]; simp)), rfl⟩
  rw [h0, h1, h2, h3, h4, h5, h6, h7, h8, h9] at HR
  go_enter Tryz.func14, Tryz.ntmps14
  go_wp2_with fail
  go_ret
  exact ⟨HF.out _ (by rw [HR.out]; first | rfl | (rw [Bool.eq_iff_iff]; simp)), rfl⟩
theorem ctl_same (s : ByteArray) (a : Int) : ctlS s a = ctlB s a := by
  unfold ctlS ctlB
  generalize s.toList = l
  by_cases h : l = [112, 104, 114, 97, 115, 101]
  · subst h; rfl
  · have h' : (l == [112, 104, 114, 97, 115, 101]) = false := by simpa using h
    rw [h']
    cases (l == [104, 97, 108, 116]) <;> rfl
theorem con_same (s : ByteArray) (a : Int) : con7 s (if a = 0 then 2 else 3) a = conB s a := by
  unfold con7 conB isB
  have e1 : (ByteArray.mk #[44]).toList = [44] := by rw [ByteArray.toList_eq]
  have e2 : (ByteArray.mk #[59]).toList = [59] := by rw [ByteArray.toList_eq]
  have e3 : (ByteArray.mk #[45, 62]).toList = [45, 62] := by rw [ByteArray.toList_eq]
  have e4 : (ByteArray.mk #[92, 43]).toList = [92, 43] := by rw [ByteArray.toList_eq]
  have e5 : (ByteArray.mk #[111, 110, 99, 101]).toList = [111, 110, 99, 101] := by rw [ByteArray.toList_eq]
  have e6 : (ByteArray.mk #[102, 111, 114, 97, 108, 108]).toList = [102, 111, 114, 97, 108, 108] := by rw [ByteArray.toList_eq]
  have e7 : (ByteArray.mk #[33]).toList = [33] := by rw [ByteArray.toList_eq]
  rw [e1, e2, e3, e4, e5, e6, e7]
  generalize s.toList = l
  by_cases h0 : a = 0
  · subst h0
    by_cases h1 : l = [33]
    · subst h1; rfl
    · have h1' : (l == [33]) = false := by simpa using h1
      rw [h1']
      cases (l == [44]) <;> cases (l == [59]) <;> cases (l == [45, 62]) <;> cases (l == [92, 43]) <;> cases (l == [111, 110, 99, 101]) <;> cases (l == [102, 111, 114, 97, 108, 108]) <;> rfl
  · rw [if_neg h0]
    have h0' : (a == 0) = false := by simpa using h0
    rw [h0']
    by_cases h1 : l = [44]
    · subst h1; simp
    by_cases h2 : l = [59]
    · subst h2; simp
    by_cases h3 : l = [45, 62]
    · subst h3; simp
    by_cases h4 : l = [102, 111, 114, 97, 108, 108]
    · subst h4; simp
    have g1 : (l == [44]) = false := by simpa using h1
    have g2 : (l == [59]) = false := by simpa using h2
    have g3 : (l == [45, 62]) = false := by simpa using h3
    have g4 : (l == [102, 111, 114, 97, 108, 108]) = false := by simpa using h4
    rw [g1, g2, g3, g4]
    cases (l == [92, 43]) <;> cases (l == [111, 110, 99, 101]) <;> cases (l == [33]) <;> simp
theorem sen_same (s : ByteArray) (a : Int) : ((s.toList == [58, 45]) && (a == 1 || a == 2) || (s.toList == [45, 45, 62]) && a == 2) = senB s a := by
  unfold senB
  generalize s.toList = l
  by_cases h1 : l = [58, 45]
  · subst h1; simp
  · have g1 : (l == [58, 45]) = false := by simpa using h1
    rw [g1]
    cases (l == [45, 45, 62]) <;> simp
theorem dol_bytes {xs : List Int} (hb : Byte xs) : dolB (strOfNums xs) = dolL xs := by
  have hcut : (strOfNums xs).extract 0 1 = strOfNums (xs.take 1) := by
    apply ByteArray.ext
    simp [strOfNums, List.map_take]
  unfold dolB
  rw [strSize, hcut]
  have hb1 : Byte (xs.take 1) := fun x hx => hb x (List.mem_of_mem_take hx)
  have he := str_eq hb1 [36]
  cases xs with
  | nil => rfl
  | cons x r =>
    rw [Bool.eq_iff_iff]
    simp only [Bool.and_eq_true, decide_eq_true_eq, beq_iff_eq, he]
    simp [dolL]
theorem l3spec_any (p : Option Addr) (m cap : Nat) (s : ByteArray) (w : World) (cv : (convert 22 9 (.slice p m cap)).run Tryz.prog w = .ok (.string s) w) : Calls Tryz.prog 15 #[.slice p m cap] w fun e w' => e = .returned (.bool (resN s)) ∧ w' = w := by
  cases h1 : (s.toList == [91, 93]) <;> cases h2 : (s.toList == [123, 125]) <;> cases h3 : (s.toList == [124])
  all_goals
    have HF : Hid (∀ b, b = resN s → Ending.returned (.bool b) = .returned (.bool (resN s))) := fun b h => ret_bool h
    have HR : Hid (resN s = (s.toList == [91, 93] || s.toList == [123, 125] || s.toList == [124])) := rfl
    rw [h1, h2, h3] at HR
    go_enter Tryz.func15, Tryz.ntmps15
    go_wp2_with fail
    go_ret
    exact ⟨HF.out _ HR.out.symm, rfl⟩

/-- A new cell of a name, and what is asked of it. -/
theorem conAt {w W : World} {k a : Int} {p : Option Addr} {L cap : Nat} {s : ByteArray} (hk : W.heap[w.heap.size]? = some (.cells #[.int .i64 k, .int .i64 a, .slice p L cap] 39)) (hcv : (convert 22 9 (.slice p L cap)).run Tryz.prog W = .ok (.string s) W) :
    Calls Tryz.prog 13 #[.slice (some ⟨w.heap.size, 0, none⟩) 1 1] W fun e w' => e = .returned (.bool (con7 s k a)) ∧ w' = W :=
  l8construct_any s k a w.heap.size 0 p L cap 1 1 W (by decide) (cell_of_row _ _ 0 _ _ _ hk) (cell_of_row _ _ 1 _ _ _ hk) (cell_of_row _ _ 2 _ _ _ hk) hcv
set_option maxRecDepth 100000 in
set_option maxHeartbeats 1000000 in
theorem specIsRes_any (p : Option Addr) (cap : Nat) (xs : List Int) (a : Int) (w : World) (hn : xs.length ≤ 1048576) (hb : Byte xs) (hin : BIn w p xs) :
    Calls Tryz.prog 9 #[.slice p xs.length cap, .int .i64 a] w fun e w' => e = .returned (.bool (resvB xs a)) ∧ Below w.heap.size w w' := by
  have HF : Hid (∀ b, b = resvB xs a → Ending.returned (.bool b) = .returned (.bool (resvB xs a))) := fun b h => ret_bool h
  by_cases h0 : a < 0
  · have HR : Hid (resvB xs a = false) := by show _ = _; unfold resvB; rw [if_pos (.inl h0)]
    clear hb hn hin
    go_enter Tryz.func9, Tryz.ntmps9
    go_wp2_with fail
    go_ret
    exact ⟨HF.out _ HR.out.symm, Below.refl _ _⟩
  by_cases h1 : 20 < a
  · have HR : Hid (resvB xs a = false) := by show _ = _; unfold resvB; rw [if_pos (.inr h1)]
    clear hb hn hin
    go_enter Tryz.func9, Tryz.ntmps9
    go_wp2_with fail
    go_ret
    exact ⟨HF.out _ HR.out.symm, Below.refl _ _⟩
  have HR : Hid (resvB xs a = ((con7 (strOfNums xs) (if a = 0 then 2 else 3) a || ctlS (strOfNums xs) a || isBu (unU xs) a) || ((strOfNums xs).toList == [58, 45] && (a == 1 || a == 2) || (strOfNums xs).toList == [45, 45, 62] && a == 2) || (resN (strOfNums xs) || dolL xs))) := by
    show _ = _
    unfold resvB
    rw [if_neg (by omega), con_same, ctl_same, sen_same, dol_bytes hb]
    cases dolL xs <;> cases resN (strOfNums xs) <;> cases conB (strOfNums xs) a <;> cases ctlB (strOfNums xs) a <;> cases senB (strOfNums xs) a <;> cases isBu (unU xs) a <;> rfl
  have HBI : Hid (∀ W, Below w.heap.size w W → Calls Tryz.prog 5 #[.slice p xs.length cap, .int .i64 a] W fun e w' => e = .returned (.bool (isBu (unU xs) a)) ∧ Below W.heap.size W w') := fun W hW => specIsBu_any p cap xs a W (hin.below hW)
  have HCV : Hid (∀ W, Below w.heap.size w W → (convert 22 9 (.slice p xs.length cap)).run Tryz.prog W = .ok (.string (strOfNums xs)) W) := fun W hW => conv_str (hin.below hW) xs.length cap rfl 9 Tryz.underlying9
  have HDL : Hid (∀ W, Below w.heap.size w W → Calls Tryz.prog 16 #[.slice p xs.length cap] W fun e w' => e = .returned (.bool (dolL xs)) ∧ w' = W) := fun W hW => l8dollar_any p xs.length cap xs W rfl (by omega) hb (hin.below hW)
  have H3 := fun W => l8control_any (strOfNums xs) a W
  obtain ⟨L, eL⟩ : ∃ L, L = xs.length := ⟨_, rfl⟩
  obtain ⟨d0, e0⟩ : ∃ d, d = con7 (strOfNums xs) (if a = 0 then 2 else 3) a := ⟨_, rfl⟩
  obtain ⟨d1, e1⟩ : ∃ d, d = ctlS (strOfNums xs) a := ⟨_, rfl⟩
  obtain ⟨d2, e2⟩ : ∃ d, d = isBu (unU xs) a := ⟨_, rfl⟩
  obtain ⟨d3, e3⟩ : ∃ d, d = resN (strOfNums xs) := ⟨_, rfl⟩
  obtain ⟨d4, e4⟩ : ∃ d, d = dolL xs := ⟨_, rfl⟩
  rw [← eL] at HBI HCV HDL ⊢
  rw [← e0, ← e1, ← e2, ← e3, ← e4] at HR
  rw [← e1] at H3
  rw [← e2] at HBI
  rw [← e4] at HDL
  have HD0 : Hid (d0 = con7 (strOfNums xs) (if a = 0 then 2 else 3) a ∧ d3 = resN (strOfNums xs)) := ⟨e0, e3⟩
  have hcv := HCV.out w (Below.refl _ _)
  generalize strOfNums xs = s at *
  clear hn hb hin e0 e1 e2 e3 e4 eL
  by_cases ha : a = 0
  · have ha0 : (a == 0) = true := by simpa using ha
    have ha1 : (a == 1) = false := by rw [ha]; rfl
    have ha2 : (a == 2) = false := by rw [ha]; rfl
    have HCON : Hid (∀ W, W.heap[w.heap.size]? = some (.cells #[.int .i64 2, .int .i64 a, .slice p L cap] 39) → Below w.heap.size w W → Calls Tryz.prog 13 #[.slice (some ⟨w.heap.size, 0, none⟩) 1 1] W fun e w' => e = .returned (.bool d0) ∧ w' = W) := fun W hk hW => by
      have h := conAt (w := w) hk (HCV.out W hW)
      rw [HD0.out.1, if_pos ha]
      exact h
    have HB0 : Hid (Below w.heap.size w (w.alloc (.cells #[.int .i64 2, .int .i64 a, .slice p L cap] 39))) := (Below.refl _ _).alloc (Nat.le_refl _) _
    have HC1 := HCON.out (w.alloc (.cells #[.int .i64 2, .int .i64 a, .slice p L cap] 39)) (heap_alloc_new _ _) HB0.out
    clear HCON ha
    go_enter Tryz.func9, Tryz.ntmps9
    go_wp2_with fail
    refine HC1.mono ?_
    rintro e w1 ⟨rfl, hw1⟩
    subst hw1
    clear HC1
    cases d0
    rotate_left
    · have HR : Hid (resvB xs a = true) := by show _ = _; rw [HR.out]; simp
      go_wp2_with fail
      go_ret
      exact ⟨HF.out _ HR.out.symm, HB0.out⟩
    go_wp2_with fail
    refine (H3 _).mono ?_
    rintro e w1' ⟨rfl, rfl⟩
    cases d1
    rotate_left
    · have HR : Hid (resvB xs a = true) := by show _ = _; rw [HR.out]; simp
      go_wp2_with fail
      go_ret
      exact ⟨HF.out _ HR.out.symm, HB0.out⟩
    go_wp2_with fail
    refine (HBI.out _ HB0.out).mono ?_
    rintro e w2 ⟨rfl, hb2⟩
    have HB2 : Hid (Below w.heap.size w w2) := Below.on HB0.out hb2
    clear hb2 HB0
    have HSP := l3spec_any p L cap s w2 (HCV.out w2 HB2.out)
    rw [← HD0.out.2] at HSP
    have HDW := HDL.out w2 HB2.out
    clear HD0 HDL HCV HBI H3
    cases d2
    rotate_left
    · have HR : Hid (resvB xs a = true) := by show _ = _; rw [HR.out]; simp
      go_wp2_with fail
      go_ret
      exact ⟨HF.out _ HR.out.symm, HB2.out⟩
    rw [ha1, ha2] at HR
    cases t0 : (s.toList == [58, 45])
    rotate_left
    · rw [t0] at HR
      cases t3 : (s.toList == [45, 45, 62])
      rotate_left
      · rw [t3] at HR
        cases d3
        rotate_left
        · have HR : Hid (resvB xs a = true) := by show _ = _; rw [HR.out]; simp
          go_wp2_with fail
          refine HSP.mono ?_
          rintro e w3 ⟨rfl, rfl⟩
          go_wp2_with fail
          go_ret
          exact ⟨HF.out _ HR.out.symm, HB2.out⟩
        cases d4
        rotate_left
        · have HR : Hid (resvB xs a = true) := by show _ = _; rw [HR.out]; simp
          go_wp2_with fail
          refine HSP.mono ?_
          rintro e w3 ⟨rfl, rfl⟩
          go_wp2_with fail
          refine HDW.mono ?_
          rintro e w4 ⟨rfl, rfl⟩
          go_wp2_with fail
          go_ret
          exact ⟨HF.out _ HR.out.symm, HB2.out⟩
        have HR : Hid (resvB xs a = false) := by show _ = _; rw [HR.out]; rfl
        go_wp2_with fail
        refine HSP.mono ?_
        rintro e w3 ⟨rfl, rfl⟩
        go_wp2_with fail
        refine HDW.mono ?_
        rintro e w4 ⟨rfl, rfl⟩
        go_wp2_with fail
        go_ret
        exact ⟨HF.out _ HR.out.symm, HB2.out⟩
      rw [t3] at HR
      cases d3
      rotate_left
      · have HR : Hid (resvB xs a = true) := by show _ = _; rw [HR.out]; simp
        go_wp2_with fail
        refine HSP.mono ?_
        rintro e w3 ⟨rfl, rfl⟩
        go_wp2_with fail
        go_ret
        exact ⟨HF.out _ HR.out.symm, HB2.out⟩
      cases d4
      rotate_left
      · have HR : Hid (resvB xs a = true) := by show _ = _; rw [HR.out]; simp
        go_wp2_with fail
        refine HSP.mono ?_
        rintro e w3 ⟨rfl, rfl⟩
        go_wp2_with fail
        refine HDW.mono ?_
        rintro e w4 ⟨rfl, rfl⟩
        go_wp2_with fail
        go_ret
        exact ⟨HF.out _ HR.out.symm, HB2.out⟩
      have HR : Hid (resvB xs a = false) := by show _ = _; rw [HR.out]; rfl
      go_wp2_with fail
      refine HSP.mono ?_
      rintro e w3 ⟨rfl, rfl⟩
      go_wp2_with fail
      refine HDW.mono ?_
      rintro e w4 ⟨rfl, rfl⟩
      go_wp2_with fail
      go_ret
      exact ⟨HF.out _ HR.out.symm, HB2.out⟩
    rw [t0] at HR
    cases t3 : (s.toList == [45, 45, 62])
    rotate_left
    · rw [t3] at HR
      cases d3
      rotate_left
      · have HR : Hid (resvB xs a = true) := by show _ = _; rw [HR.out]; simp
        go_wp2_with fail
        refine HSP.mono ?_
        rintro e w3 ⟨rfl, rfl⟩
        go_wp2_with fail
        go_ret
        exact ⟨HF.out _ HR.out.symm, HB2.out⟩
      cases d4
      rotate_left
      · have HR : Hid (resvB xs a = true) := by show _ = _; rw [HR.out]; simp
        go_wp2_with fail
        refine HSP.mono ?_
        rintro e w3 ⟨rfl, rfl⟩
        go_wp2_with fail
        refine HDW.mono ?_
        rintro e w4 ⟨rfl, rfl⟩
        go_wp2_with fail
        go_ret
        exact ⟨HF.out _ HR.out.symm, HB2.out⟩
      have HR : Hid (resvB xs a = false) := by show _ = _; rw [HR.out]; rfl
      go_wp2_with fail
      refine HSP.mono ?_
      rintro e w3 ⟨rfl, rfl⟩
      go_wp2_with fail
      refine HDW.mono ?_
      rintro e w4 ⟨rfl, rfl⟩
      go_wp2_with fail
      go_ret
      exact ⟨HF.out _ HR.out.symm, HB2.out⟩
    rw [t3] at HR
    cases d3
    rotate_left
    · have HR : Hid (resvB xs a = true) := by show _ = _; rw [HR.out]; simp
      go_wp2_with fail
      refine HSP.mono ?_
      rintro e w3 ⟨rfl, rfl⟩
      go_wp2_with fail
      go_ret
      exact ⟨HF.out _ HR.out.symm, HB2.out⟩
    cases d4
    rotate_left
    · have HR : Hid (resvB xs a = true) := by show _ = _; rw [HR.out]; simp
      go_wp2_with fail
      refine HSP.mono ?_
      rintro e w3 ⟨rfl, rfl⟩
      go_wp2_with fail
      refine HDW.mono ?_
      rintro e w4 ⟨rfl, rfl⟩
      go_wp2_with fail
      go_ret
      exact ⟨HF.out _ HR.out.symm, HB2.out⟩
    have HR : Hid (resvB xs a = false) := by show _ = _; rw [HR.out]; rfl
    go_wp2_with fail
    refine HSP.mono ?_
    rintro e w3 ⟨rfl, rfl⟩
    go_wp2_with fail
    refine HDW.mono ?_
    rintro e w4 ⟨rfl, rfl⟩
    go_wp2_with fail
    go_ret
    exact ⟨HF.out _ HR.out.symm, HB2.out⟩
  · have ha0 : (a == 0) = false := by simpa using ha
    have HCON : Hid (∀ W, W.heap[w.heap.size]? = some (.cells #[.int .i64 3, .int .i64 a, .slice p L cap] 39) → Below w.heap.size w W → Calls Tryz.prog 13 #[.slice (some ⟨w.heap.size, 0, none⟩) 1 1] W fun e w' => e = .returned (.bool d0) ∧ w' = W) := fun W hk hW => by
      have h := conAt (w := w) hk (HCV.out W hW)
      rw [HD0.out.1, if_neg ha]
      exact h
    have HB0 : Hid (Below w.heap.size w (w.alloc (.cells #[.int .i64 3, .int .i64 a, .slice p L cap] 39))) := (Below.refl _ _).alloc (Nat.le_refl _) _
    have HC1 := HCON.out (w.alloc (.cells #[.int .i64 3, .int .i64 a, .slice p L cap] 39)) (heap_alloc_new _ _) HB0.out
    clear HCON ha
    go_enter Tryz.func9, Tryz.ntmps9
    go_wp2_with fail
    refine HC1.mono ?_
    rintro e w1 ⟨rfl, hw1⟩
    subst hw1
    clear HC1
    cases d0
    rotate_left
    · have HR : Hid (resvB xs a = true) := by show _ = _; rw [HR.out]; simp
      go_wp2_with fail
      go_ret
      exact ⟨HF.out _ HR.out.symm, HB0.out⟩
    go_wp2_with fail
    refine (H3 _).mono ?_
    rintro e w1' ⟨rfl, rfl⟩
    cases d1
    rotate_left
    · have HR : Hid (resvB xs a = true) := by show _ = _; rw [HR.out]; simp
      go_wp2_with fail
      go_ret
      exact ⟨HF.out _ HR.out.symm, HB0.out⟩
    go_wp2_with fail
    refine (HBI.out _ HB0.out).mono ?_
    rintro e w2 ⟨rfl, hb2⟩
    have HB2 : Hid (Below w.heap.size w w2) := Below.on HB0.out hb2
    clear hb2 HB0
    have HSP := l3spec_any p L cap s w2 (HCV.out w2 HB2.out)
    rw [← HD0.out.2] at HSP
    have HDW := HDL.out w2 HB2.out
    clear HD0 HDL HCV HBI H3
    cases d2
    rotate_left
    · have HR : Hid (resvB xs a = true) := by show _ = _; rw [HR.out]; simp
      go_wp2_with fail
      go_ret
      exact ⟨HF.out _ HR.out.symm, HB2.out⟩
    cases t0 : (s.toList == [58, 45])
    rotate_left
    · rw [t0] at HR
      cases t1 : (a == 1)
      rotate_left
      · rw [t1] at HR
        have HR : Hid (resvB xs a = true) := by show _ = _; rw [HR.out]; simp
        go_wp2_with fail
        go_ret
        exact ⟨HF.out _ HR.out.symm, HB2.out⟩
      rw [t1] at HR
      cases t2 : (a == 2)
      rotate_left
      · rw [t2] at HR
        have HR : Hid (resvB xs a = true) := by show _ = _; rw [HR.out]; simp
        go_wp2_with fail
        go_ret
        exact ⟨HF.out _ HR.out.symm, HB2.out⟩
      rw [t2] at HR
      cases t3 : (s.toList == [45, 45, 62])
      rotate_left
      · rw [t3] at HR
        cases d3
        rotate_left
        · have HR : Hid (resvB xs a = true) := by show _ = _; rw [HR.out]; simp
          go_wp2_with fail
          refine HSP.mono ?_
          rintro e w3 ⟨rfl, rfl⟩
          go_wp2_with fail
          go_ret
          exact ⟨HF.out _ HR.out.symm, HB2.out⟩
        cases d4
        rotate_left
        · have HR : Hid (resvB xs a = true) := by show _ = _; rw [HR.out]; simp
          go_wp2_with fail
          refine HSP.mono ?_
          rintro e w3 ⟨rfl, rfl⟩
          go_wp2_with fail
          refine HDW.mono ?_
          rintro e w4 ⟨rfl, rfl⟩
          go_wp2_with fail
          go_ret
          exact ⟨HF.out _ HR.out.symm, HB2.out⟩
        have HR : Hid (resvB xs a = false) := by show _ = _; rw [HR.out]; rfl
        go_wp2_with fail
        refine HSP.mono ?_
        rintro e w3 ⟨rfl, rfl⟩
        go_wp2_with fail
        refine HDW.mono ?_
        rintro e w4 ⟨rfl, rfl⟩
        go_wp2_with fail
        go_ret
        exact ⟨HF.out _ HR.out.symm, HB2.out⟩
      rw [t3] at HR
      cases d3
      rotate_left
      · have HR : Hid (resvB xs a = true) := by show _ = _; rw [HR.out]; simp
        go_wp2_with fail
        refine HSP.mono ?_
        rintro e w3 ⟨rfl, rfl⟩
        go_wp2_with fail
        go_ret
        exact ⟨HF.out _ HR.out.symm, HB2.out⟩
      cases d4
      rotate_left
      · have HR : Hid (resvB xs a = true) := by show _ = _; rw [HR.out]; simp
        go_wp2_with fail
        refine HSP.mono ?_
        rintro e w3 ⟨rfl, rfl⟩
        go_wp2_with fail
        refine HDW.mono ?_
        rintro e w4 ⟨rfl, rfl⟩
        go_wp2_with fail
        go_ret
        exact ⟨HF.out _ HR.out.symm, HB2.out⟩
      have HR : Hid (resvB xs a = false) := by show _ = _; rw [HR.out]; rfl
      go_wp2_with fail
      refine HSP.mono ?_
      rintro e w3 ⟨rfl, rfl⟩
      go_wp2_with fail
      refine HDW.mono ?_
      rintro e w4 ⟨rfl, rfl⟩
      go_wp2_with fail
      go_ret
      exact ⟨HF.out _ HR.out.symm, HB2.out⟩
    rw [t0] at HR
    cases t3 : (s.toList == [45, 45, 62])
    rotate_left
    · rw [t3] at HR
      cases t2 : (a == 2)
      rotate_left
      · rw [t2] at HR
        have HR : Hid (resvB xs a = true) := by show _ = _; rw [HR.out]; simp
        go_wp2_with fail
        go_ret
        exact ⟨HF.out _ HR.out.symm, HB2.out⟩
      rw [t2] at HR
      cases d3
      rotate_left
      · have HR : Hid (resvB xs a = true) := by show _ = _; rw [HR.out]; simp
        go_wp2_with fail
        refine HSP.mono ?_
        rintro e w3 ⟨rfl, rfl⟩
        go_wp2_with fail
        go_ret
        exact ⟨HF.out _ HR.out.symm, HB2.out⟩
      cases d4
      rotate_left
      · have HR : Hid (resvB xs a = true) := by show _ = _; rw [HR.out]; simp
        go_wp2_with fail
        refine HSP.mono ?_
        rintro e w3 ⟨rfl, rfl⟩
        go_wp2_with fail
        refine HDW.mono ?_
        rintro e w4 ⟨rfl, rfl⟩
        go_wp2_with fail
        go_ret
        exact ⟨HF.out _ HR.out.symm, HB2.out⟩
      have HR : Hid (resvB xs a = false) := by show _ = _; rw [HR.out]; rfl
      go_wp2_with fail
      refine HSP.mono ?_
      rintro e w3 ⟨rfl, rfl⟩
      go_wp2_with fail
      refine HDW.mono ?_
      rintro e w4 ⟨rfl, rfl⟩
      go_wp2_with fail
      go_ret
      exact ⟨HF.out _ HR.out.symm, HB2.out⟩
    rw [t3] at HR
    cases d3
    rotate_left
    · have HR : Hid (resvB xs a = true) := by show _ = _; rw [HR.out]; simp
      go_wp2_with fail
      refine HSP.mono ?_
      rintro e w3 ⟨rfl, rfl⟩
      go_wp2_with fail
      go_ret
      exact ⟨HF.out _ HR.out.symm, HB2.out⟩
    cases d4
    rotate_left
    · have HR : Hid (resvB xs a = true) := by show _ = _; rw [HR.out]; simp
      go_wp2_with fail
      refine HSP.mono ?_
      rintro e w3 ⟨rfl, rfl⟩
      go_wp2_with fail
      refine HDW.mono ?_
      rintro e w4 ⟨rfl, rfl⟩
      go_wp2_with fail
      go_ret
      exact ⟨HF.out _ HR.out.symm, HB2.out⟩
    have HR : Hid (resvB xs a = false) := by show _ = _; rw [HR.out]; rfl
    go_wp2_with fail
    refine HSP.mono ?_
    rintro e w3 ⟨rfl, rfl⟩
    go_wp2_with fail
    refine HDW.mono ?_
    rintro e w4 ⟨rfl, rfl⟩
    go_wp2_with fail
    go_ret
    exact ⟨HF.out _ HR.out.symm, HB2.out⟩

end Go.Proofs.YtgedoflkkkpdeaaGreatDoor
