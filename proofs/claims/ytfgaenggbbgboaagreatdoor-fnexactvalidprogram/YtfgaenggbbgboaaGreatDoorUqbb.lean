/- Texts of IrS, Ren3. Own work of the verifier. -/
import Derived.Test.YtfgaenggbbgboaaGreatDoorUqao
import Derived.Test.YtfgaenggbbgboaaGreatDoorUqaz
import Derived.Test.YtfgaenggbbgboaaGreatDoorUqba
import Derived.Test.YtfgaenggbbgboaaGreatDoorUqai
import Derived.Test.YtfgaenggbbgboaaGreatDoorUqay
import Derived.Test.YtfgaenggbbgboaaGreatDoorUqab
namespace Go.Proofs.YtfgaenggbbgboaaGreatDoor
open Go Go.RowKit
set_option linter.unusedVariables false
def ctlS (s : ByteArray) (a : Int) : Bool := if s.toList == [99, 97, 108, 108] then (decide (1 ≤ a) && decide (a ≤ 8)) else if s.toList == [102, 105, 110, 100, 97, 108, 108] || s.toList == [99, 97, 116, 99, 104] || s.toList == [98, 101, 116, 119, 101, 101, 110] then a == 3 else if s.toList == [116, 104, 114, 111, 119] || s.toList == [97, 115, 115, 101, 114, 116, 97] || s.toList == [97, 115, 115, 101, 114, 116, 122] || s.toList == [114, 101, 116, 114, 97, 99, 116] then a == 1 else if s.toList == [112, 104, 114, 97, 115, 101] then (a == 2 || a == 3) else ((s.toList == [104, 97, 108, 116]) && a == 0)
set_option maxRecDepth 100000 in
set_option maxHeartbeats 1000000 in
theorem l8control_any (s : ByteArray) (a : Int) (w : World) : Calls Tryz.prog 32 #[.string s, .int .i64 a] w fun e w' => e = .returned (.bool (ctlS s a)) ∧ w' = w := by
  have HF : Hid (∀ b, b = ctlS s a → Ending.returned (.bool b) = .returned (.bool (ctlS s a))) := fun b h => ret_bool h
  have HR : Hid (ctlS s a = (if s.toList == [99, 97, 108, 108] then (decide (1 ≤ a) && decide (a ≤ 8)) else if s.toList == [102, 105, 110, 100, 97, 108, 108] || s.toList == [99, 97, 116, 99, 104] || s.toList == [98, 101, 116, 119, 101, 101, 110] then a == 3 else if s.toList == [116, 104, 114, 111, 119] || s.toList == [97, 115, 115, 101, 114, 116, 97] || s.toList == [97, 115, 115, 101, 114, 116, 122] || s.toList == [114, 101, 116, 114, 97, 99, 116] then a == 1 else if s.toList == [112, 104, 114, 97, 115, 101] then (a == 2 || a == 3) else ((s.toList == [104, 97, 108, 116]) && a == 0))) := rfl
  cases h0 : (s.toList == [99, 97, 108, 108])
  rotate_left
  · rw [h0] at HR
    by_cases lo : 1 ≤ a
    · have g0 : decide (1 ≤ a) = true := by simpa using lo
      by_cases hi : a ≤ 8
      · have g1 : decide (a ≤ 8) = true := by simpa using hi
        rw [g0, g1] at HR
        go_enter Tryz.func32, Tryz.ntmps32
        go_wp2_with fail
        go_ret
        exact ⟨HF.out _ (by rw [HR.out]; first | rfl | (rw [Bool.eq_iff_iff]; simp)), rfl⟩
      · have g1 : decide (a ≤ 8) = false := by simpa using hi
        rw [g0, g1] at HR
        go_enter Tryz.func32, Tryz.ntmps32
        go_wp2_with fail
        go_ret
        exact ⟨HF.out _ (by rw [HR.out]; first | rfl | (rw [Bool.eq_iff_iff]; simp)), rfl⟩
    · have g0 : decide (1 ≤ a) = false := by simpa using lo
      rw [g0] at HR
      go_enter Tryz.func32, Tryz.ntmps32
      go_wp2_with fail
      go_ret
      exact ⟨HF.out _ (by rw [HR.out]; first | rfl | (rw [Bool.eq_iff_iff]; simp)), rfl⟩
  cases h1 : (s.toList == [102, 105, 110, 100, 97, 108, 108])
  rotate_left
  · rw [h0, h1] at HR
    go_enter Tryz.func32, Tryz.ntmps32
    go_wp2_with fail
    go_ret
    exact ⟨HF.out _ (by rw [HR.out]; first | rfl | (rw [Bool.eq_iff_iff]; simp)), rfl⟩
  cases h2 : (s.toList == [99, 97, 116, 99, 104])
  rotate_left
  · rw [h0, h1, h2] at HR
    go_enter Tryz.func32, Tryz.ntmps32
    go_wp2_with fail
    go_ret
    exact ⟨HF.out _ (by rw [HR.out]; first | rfl | (rw [Bool.eq_iff_iff]; simp)), rfl⟩
  cases h3 : (s.toList == [98, 101, 116, 119, 101, 101, 110])
  rotate_left
  · rw [h0, h1, h2, h3] at HR
    go_enter Tryz.func32, Tryz.ntmps32
    go_wp2_with fail
    go_ret
    exact ⟨HF.out _ (by rw [HR.out]; first | rfl | (rw [Bool.eq_iff_iff]; simp)), rfl⟩
  cases h4 : (s.toList == [116, 104, 114, 111, 119])
  rotate_left
  · rw [h0, h1, h2, h3, h4] at HR
    go_enter Tryz.func32, Tryz.ntmps32
    go_wp2_with fail
    go_ret
    exact ⟨HF.out _ (by rw [HR.out]; first | rfl | (rw [Bool.eq_iff_iff]; simp)), rfl⟩
  cases h5 : (s.toList == [97, 115, 115, 101, 114, 116, 97])
  rotate_left
  · rw [h0, h1, h2, h3, h4, h5] at HR
    go_enter Tryz.func32, Tryz.ntmps32
    go_wp2_with fail
    go_ret
    exact ⟨HF.out _ (by rw [HR.out]; first | rfl | (rw [Bool.eq_iff_iff]; simp)), rfl⟩
  cases h6 : (s.toList == [97, 115, 115, 101, 114, 116, 122])
  rotate_left
  · rw [h0, h1, h2, h3, h4, h5, h6] at HR
    go_enter Tryz.func32, Tryz.ntmps32
    go_wp2_with fail
    go_ret
    exact ⟨HF.out _ (by rw [HR.out]; first | rfl | (rw [Bool.eq_iff_iff]; simp)), rfl⟩
  cases h7 : (s.toList == [114, 101, 116, 114, 97, 99, 116])
  rotate_left
  · rw [h0, h1, h2, h3, h4, h5, h6, h7] at HR
    go_enter Tryz.func32, Tryz.ntmps32
    go_wp2_with fail
    go_ret
    exact ⟨HF.out _ (by rw [HR.out]; first | rfl | (rw [Bool.eq_iff_iff]; simp)), rfl⟩
  cases h8 : (s.toList == [112, 104, 114, 97, 115, 101])
  rotate_left
  · rw [h0, h1, h2, h3, h4, h5, h6, h7, h8] at HR
    cases g0 : (a == 2) <;> cases g1 : (a == 3)
    all_goals
      rw [g0, g1] at HR
      go_enter Tryz.func32, Tryz.ntmps32
      go_wp2_with fail
      go_ret
      exact ⟨HF.out _ (by rw [HR.out]; first | rfl | (rw [Bool.eq_iff_iff]; simp)), rfl⟩
  cases h9 : (s.toList == [104, 97, 108, 116])
  rotate_left
  · rw [h0, h1, h2, h3, h4, h5, h6, h7, h8, h9] at HR
    cases g0 : (a == 0)
    all_goals
      rw [g0] at HR
      go_enter Tryz.func32, Tryz.ntmps32
      go_wp2_with fail
      go_ret
      exact ⟨HF.out _ (by rw [HR.out]; first | rfl | (rw [Bool.eq_iff_iff]; simp)), rfl⟩
  rw [h0, h1, h2, h3, h4, h5, h6, h7, h8, h9] at HR
  go_enter Tryz.func32, Tryz.ntmps32
  go_wp2_with fail
  go_ret
  exact ⟨HF.out _ (by rw [HR.out]; first | rfl | (rw [Bool.eq_iff_iff]; simp)), rfl⟩
theorem ctl_same (s : ByteArray) (a : Int) : ctlS s a = ctlB s a := by
  unfold ctlS ctlB
  generalize s.toList = l
  by_cases h : l = [112, 104, 114, 97, 115, 101]
  · subst h; rfl
  · have h' : (l == [112, 104, 114, 97, 115, 101]) = false := by simpa using h
    rw [h']
    cases (l == [104, 97, 108, 116]) <;> rfl
theorem con_same (s : ByteArray) (a : Int) : con7 s (if a = 0 then 2 else 3) a = conB s a := by
  unfold con7 conB isB
  have e1 : (ByteArray.mk #[44]).toList = [44] := by rw [ByteArray.toList_eq]
  have e2 : (ByteArray.mk #[59]).toList = [59] := by rw [ByteArray.toList_eq]
  have e3 : (ByteArray.mk #[45, 62]).toList = [45, 62] := by rw [ByteArray.toList_eq]
  have e4 : (ByteArray.mk #[92, 43]).toList = [92, 43] := by rw [ByteArray.toList_eq]
  have e5 : (ByteArray.mk #[111, 110, 99, 101]).toList = [111, 110, 99, 101] := by rw [ByteArray.toList_eq]
  have e6 : (ByteArray.mk #[102, 111, 114, 97, 108, 108]).toList = [102, 111, 114, 97, 108, 108] := by rw [ByteArray.toList_eq]
  have e7 : (ByteArray.mk #[33]).toList = [33] := by rw [ByteArray.toList_eq]
  rw [e1, e2, e3, e4, e5, e6, e7]
  generalize s.toList = l
  by_cases h0 : a = 0
  · subst h0
    by_cases h1 : l = [33]
    · subst h1; rfl
    · have h1' : (l == [33]) = false := by simpa using h1
      rw [h1']
      cases (l == [44]) <;> cases (l == [59]) <;> cases (l == [45, 62]) <;> cases (l == [92, 43]) <;> cases (l == [111, 110, 99, 101]) <;> cases (l == [102, 111, 114, 97, 108, 108]) <;> rfl
  · rw [if_neg h0]
    have h0' : (a == 0) = false := by simpa using h0
    rw [h0']
    by_cases h1 : l = [44]
    · subst h1; simp
    by_cases h2 : l = [59]
    · subst h2; simp
    by_cases h3 : l = [45, 62]
    · subst h3; simp
    by_cases h4 : l = [102, 111, 114, 97, 108, 108]
    · subst h4; simp
    have g1 : (l == [44]) = false := by simpa using h1
    have g2 : (l == [59]) = false := by simpa using h2
    have g3 : (l == [45, 62]) = false := by simpa using h3
    have g4 : (l == [102, 111, 114, 97, 108, 108]) = false := by simpa using h4
    rw [g1, g2, g3, g4]
    cases (l == [92, 43]) <;> cases (l == [111, 110, 99, 101]) <;> cases (l == [33]) <;> simp
theorem sen_same (s : ByteArray) (a : Int) : ((s.toList == [58, 45]) && (a == 1 || a == 2) || (s.toList == [45, 45, 62]) && a == 2) = senB s a := by
  unfold senB
  generalize s.toList = l
  by_cases h1 : l = [58, 45]
  · subst h1; simp
  · have g1 : (l == [58, 45]) = false := by simpa using h1
    rw [g1]
    cases (l == [45, 45, 62]) <;> simp
theorem dol_bytes {xs : List Int} (hb : Byte xs) : dolB (strOfNums xs) = dolL xs := by
  have hcut : (strOfNums xs).extract 0 1 = strOfNums (xs.take 1) := by
    apply ByteArray.ext
    simp [strOfNums, List.map_take]
  unfold dolB
  rw [strSize, hcut]
  have hb1 : Byte (xs.take 1) := fun x hx => hb x (List.mem_of_mem_take hx)
  have he := str_eq hb1 [36]
  cases xs with
  | nil => rfl
  | cons x r =>
    rw [Bool.eq_iff_iff]
    simp only [Bool.and_eq_true, decide_eq_true_eq, beq_iff_eq, he]
    simp [dolL]
theorem l3spec_any (p : Option Addr) (m cap : Nat) (s : ByteArray) (w : World) (cv : (convert 37 9 (.slice p m cap)).run Tryz.prog w = .ok (.string s) w) : Calls Tryz.prog 34 #[.slice p m cap] w fun e w' => e = .returned (.bool (resN s)) ∧ w' = w := by
  cases h1 : (s.toList == [91, 93]) <;> cases h2 : (s.toList == [123, 125]) <;> cases h3 : (s.toList == [124])
  all_goals
    have HF : Hid (∀ b, b = resN s → Ending.returned (.bool b) = .returned (.bool (resN s))) := fun b h => ret_bool h
    have HR : Hid (resN s = (s.toList == [91, 93] || s.toList == [123, 125] || s.toList == [124])) := rfl
    rw [h1, h2, h3] at HR
    go_enter Tryz.func34, Tryz.ntmps34
    go_wp2_with fail
    go_ret
    exact ⟨HF.out _ HR.out.symm, rfl⟩
theorem conAt {w W : World} {k a : Int} {p : Option Addr} {L cap : Nat} {s : ByteArray} (hk : W.heap[w.heap.size]? = some (.cells #[.int .i64 k, .int .i64 a, .slice p L cap] 69)) (hcv : (convert 37 9 (.slice p L cap)).run Tryz.prog W = .ok (.string s) W) :
    Calls Tryz.prog 31 #[.slice (some ⟨w.heap.size, 0, none⟩) 1 1] W fun e w' => e = .returned (.bool (con7 s k a)) ∧ w' = W :=
  l8construct_any s k a w.heap.size 0 p L cap 1 1 W (by decide) (cell_of_row _ _ 0 _ _ _ hk) (cell_of_row _ _ 1 _ _ _ hk) (cell_of_row _ _ 2 _ _ _ hk) hcv
set_option maxRecDepth 100000 in
set_option maxHeartbeats 1000000 in
theorem specIsRes_any (p : Option Addr) (cap : Nat) (xs : List Int) (a : Int) (w : World) (hn : xs.length ≤ 1048576) (hb : Byte xs) (hin : BIn w p xs) :
    Calls Tryz.prog 11 #[.slice p xs.length cap, .int .i64 a] w fun e w' => e = .returned (.bool (resvB xs a)) ∧ Below w.heap.size w w' := by
  have HF : Hid (∀ b, b = resvB xs a → Ending.returned (.bool b) = .returned (.bool (resvB xs a))) := fun b h => ret_bool h
  by_cases h0 : a < 0
  · have HR : Hid (resvB xs a = false) := by show _ = _; unfold resvB; rw [if_pos (.inl h0)]
    clear hb hn hin
    go_enter Tryz.func11, Tryz.ntmps11
    go_wp2_with fail
    go_ret
    exact ⟨HF.out _ HR.out.symm, Below.refl _ _⟩
  by_cases h1 : 20 < a
  · have HR : Hid (resvB xs a = false) := by show _ = _; unfold resvB; rw [if_pos (.inr h1)]
    clear hb hn hin
    go_enter Tryz.func11, Tryz.ntmps11
    go_wp2_with fail
    go_ret
    exact ⟨HF.out _ HR.out.symm, Below.refl _ _⟩
  have HR : Hid (resvB xs a = ((con7 (strOfNums xs) (if a = 0 then 2 else 3) a || ctlS (strOfNums xs) a || isBu (unU xs) a) || ((strOfNums xs).toList == [58, 45] && (a == 1 || a == 2) || (strOfNums xs).toList == [45, 45, 62] && a == 2) || (resN (strOfNums xs) || dolL xs))) := by
    show _ = _
    unfold resvB
    rw [if_neg (by omega), con_same, ctl_same, sen_same, dol_bytes hb]
    cases dolL xs <;> cases resN (strOfNums xs) <;> cases conB (strOfNums xs) a <;> cases ctlB (strOfNums xs) a <;> cases senB (strOfNums xs) a <;> cases isBu (unU xs) a <;> rfl
  have HBI : Hid (∀ W, Below w.heap.size w W → Calls Tryz.prog 33 #[.slice p xs.length cap, .int .i64 a] W fun e w' => e = .returned (.bool (isBu (unU xs) a)) ∧ Below W.heap.size W w') := fun W hW => specIsBu_any p cap xs a W (hin.below hW)
  have HCV : Hid (∀ W, Below w.heap.size w W → (convert 37 9 (.slice p xs.length cap)).run Tryz.prog W = .ok (.string (strOfNums xs)) W) := fun W hW => conv_str (hin.below hW) xs.length cap rfl 9 Tryz.underlying9
  have HDL : Hid (∀ W, Below w.heap.size w W → Calls Tryz.prog 35 #[.slice p xs.length cap] W fun e w' => e = .returned (.bool (dolL xs)) ∧ w' = W) := fun W hW => l8dollar_any p xs.length cap xs W rfl (by omega) hb (hin.below hW)
  have H3 := fun W => l8control_any (strOfNums xs) a W
  obtain ⟨L, eL⟩ : ∃ L, L = xs.length := ⟨_, rfl⟩
  obtain ⟨d0, e0⟩ : ∃ d, d = con7 (strOfNums xs) (if a = 0 then 2 else 3) a := ⟨_, rfl⟩
  obtain ⟨d1, e1⟩ : ∃ d, d = ctlS (strOfNums xs) a := ⟨_, rfl⟩
  obtain ⟨d2, e2⟩ : ∃ d, d = isBu (unU xs) a := ⟨_, rfl⟩
  obtain ⟨d3, e3⟩ : ∃ d, d = resN (strOfNums xs) := ⟨_, rfl⟩
  obtain ⟨d4, e4⟩ : ∃ d, d = dolL xs := ⟨_, rfl⟩
  rw [← eL] at HBI HCV HDL ⊢
  rw [← e0, ← e1, ← e2, ← e3, ← e4] at HR
  rw [← e1] at H3
  rw [← e2] at HBI
  rw [← e4] at HDL
  have HD0 : Hid (d0 = con7 (strOfNums xs) (if a = 0 then 2 else 3) a ∧ d3 = resN (strOfNums xs)) := ⟨e0, e3⟩
  have hcv := HCV.out w (Below.refl _ _)
  generalize strOfNums xs = s at *
  clear hn hb hin e0 e1 e2 e3 e4 eL
  by_cases ha : a = 0
  · have ha0 : (a == 0) = true := by simpa using ha
    have ha1 : (a == 1) = false := by rw [ha]; rfl
    have ha2 : (a == 2) = false := by rw [ha]; rfl
    have HCON : Hid (∀ W, W.heap[w.heap.size]? = some (.cells #[.int .i64 2, .int .i64 a, .slice p L cap] 69) → Below w.heap.size w W → Calls Tryz.prog 31 #[.slice (some ⟨w.heap.size, 0, none⟩) 1 1] W fun e w' => e = .returned (.bool d0) ∧ w' = W) := fun W hk hW => by
      have h := conAt (w := w) hk (HCV.out W hW)
      rw [HD0.out.1, if_pos ha]
      exact h
    have HB0 : Hid (Below w.heap.size w (w.alloc (.cells #[.int .i64 2, .int .i64 a, .slice p L cap] 69))) := (Below.refl _ _).alloc (Nat.le_refl _) _
    have HC1 := HCON.out (w.alloc (.cells #[.int .i64 2, .int .i64 a, .slice p L cap] 69)) (heap_alloc_new _ _) HB0.out
    clear HCON ha
    go_enter Tryz.func11, Tryz.ntmps11
    go_wp2_with fail
    refine HC1.mono ?_
    rintro e w1 ⟨rfl, hw1⟩
    subst hw1
    clear HC1
    cases d0
    rotate_left
    · have HR : Hid (resvB xs a = true) := by show _ = _; rw [HR.out]; simp
      go_wp2_with fail
      go_ret
      exact ⟨HF.out _ HR.out.symm, HB0.out⟩
    go_wp2_with fail
    refine (H3 _).mono ?_
    rintro e w1' ⟨rfl, rfl⟩
    cases d1
    rotate_left
    · have HR : Hid (resvB xs a = true) := by show _ = _; rw [HR.out]; simp
      go_wp2_with fail
      go_ret
      exact ⟨HF.out _ HR.out.symm, HB0.out⟩
    go_wp2_with fail
    refine (HBI.out _ HB0.out).mono ?_
    rintro e w2 ⟨rfl, hb2⟩
    have HB2 : Hid (Below w.heap.size w w2) := Below.on HB0.out hb2
    clear hb2 HB0
    have HSP := l3spec_any p L cap s w2 (HCV.out w2 HB2.out)
    rw [← HD0.out.2] at HSP
    have HDW := HDL.out w2 HB2.out
    clear HD0 HDL HCV HBI H3
    cases d2
    rotate_left
    · have HR : Hid (resvB xs a = true) := by show _ = _; rw [HR.out]; simp
      go_wp2_with fail
      go_ret
      exact ⟨HF.out _ HR.out.symm, HB2.out⟩
    rw [ha1, ha2] at HR
    cases t0 : (s.toList == [58, 45])
    rotate_left
    · rw [t0] at HR
      cases t3 : (s.toList == [45, 45, 62])
      rotate_left
      · rw [t3] at HR
        cases d3
        rotate_left
        · have HR : Hid (resvB xs a = true) := by show _ = _; rw [HR.out]; simp
          go_wp2_with fail
          refine HSP.mono ?_
          rintro e w3 ⟨rfl, rfl⟩
          go_wp2_with fail
          go_ret
          exact ⟨HF.out _ HR.out.symm, HB2.out⟩
        cases d4
        rotate_left
        · have HR : Hid (resvB xs a = true) := by show _ = _; rw [HR.out]; simp
          go_wp2_with fail
          refine HSP.mono ?_
          rintro e w3 ⟨rfl, rfl⟩
          go_wp2_with fail
          refine HDW.mono ?_
          rintro e w4 ⟨rfl, rfl⟩
          go_wp2_with fail
          go_ret
          exact ⟨HF.out _ HR.out.symm, HB2.out⟩
        have HR : Hid (resvB xs a = false) := by show _ = _; rw [HR.out]; rfl
        go_wp2_with fail
        refine HSP.mono ?_
        rintro e w3 ⟨rfl, rfl⟩
        go_wp2_with fail
        refine HDW.mono ?_
        rintro e w4 ⟨rfl, rfl⟩
        go_wp2_with fail
        go_ret
        exact ⟨HF.out _ HR.out.symm, HB2.out⟩
      rw [t3] at HR
      cases d3
      rotate_left
      · have HR : Hid (resvB xs a = true) := by show _ = _; rw [HR.out]; simp
        go_wp2_with fail
        refine HSP.mono ?_
        rintro e w3 ⟨rfl, rfl⟩
        go_wp2_with fail
        go_ret
        exact ⟨HF.out _ HR.out.symm, HB2.out⟩
      cases d4
      rotate_left
      · have HR : Hid (resvB xs a = true) := by show _ = _; rw [HR.out]; simp
        go_wp2_with fail
        refine HSP.mono ?_
        rintro e w3 ⟨rfl, rfl⟩
        go_wp2_with fail
        refine HDW.mono ?_
        rintro e w4 ⟨rfl, rfl⟩
        go_wp2_with fail
        go_ret
        exact ⟨HF.out _ HR.out.symm, HB2.out⟩
      have HR : Hid (resvB xs a = false) := by show _ = _; rw [HR.out]; rfl
      go_wp2_with fail
      refine HSP.mono ?_
      rintro e w3 ⟨rfl, rfl⟩
      go_wp2_with fail
      refine HDW.mono ?_
      rintro e w4 ⟨rfl, rfl⟩
      go_wp2_with fail
      go_ret
      exact ⟨HF.out _ HR.out.symm, HB2.out⟩
    rw [t0] at HR
    cases t3 : (s.toList == [45, 45, 62])
    rotate_left
    · rw [t3] at HR
      cases d3
      rotate_left
      · have HR : Hid (resvB xs a = true) := by show _ = _; rw [HR.out]; simp
        go_wp2_with fail
        refine HSP.mono ?_
        rintro e w3 ⟨rfl, rfl⟩
        go_wp2_with fail
        go_ret
        exact ⟨HF.out _ HR.out.symm, HB2.out⟩
      cases d4
      rotate_left
      · have HR : Hid (resvB xs a = true) := by show _ = _; rw [HR.out]; simp
        go_wp2_with fail
        refine HSP.mono ?_
        rintro e w3 ⟨rfl, rfl⟩
        go_wp2_with fail
        refine HDW.mono ?_
        rintro e w4 ⟨rfl, rfl⟩
        go_wp2_with fail
        go_ret
        exact ⟨HF.out _ HR.out.symm, HB2.out⟩
      have HR : Hid (resvB xs a = false) := by show _ = _; rw [HR.out]; rfl
      go_wp2_with fail
      refine HSP.mono ?_
      rintro e w3 ⟨rfl, rfl⟩
      go_wp2_with fail
      refine HDW.mono ?_
      rintro e w4 ⟨rfl, rfl⟩
      go_wp2_with fail
      go_ret
      exact ⟨HF.out _ HR.out.symm, HB2.out⟩
    rw [t3] at HR
    cases d3
    rotate_left
    · have HR : Hid (resvB xs a = true) := by show _ = _; rw [HR.out]; simp
      go_wp2_with fail
      refine HSP.mono ?_
      rintro e w3 ⟨rfl, rfl⟩
      go_wp2_with fail
      go_ret
      exact ⟨HF.out _ HR.out.symm, HB2.out⟩
    cases d4
    rotate_left
    · have HR : Hid (resvB xs a = true) := by show _ = _; rw [HR.out]; simp
      go_wp2_with fail
      refine HSP.mono ?_
      rintro e w3 ⟨rfl, rfl⟩
      go_wp2_with fail
      refine HDW.mono ?_
      rintro e w4 ⟨rfl, rfl⟩
      go_wp2_with fail
      go_ret
      exact ⟨HF.out _ HR.out.symm, HB2.out⟩
    have HR : Hid (resvB xs a = false) := by show _ = _; rw [HR.out]; rfl
    go_wp2_with fail
    refine HSP.mono ?_
    rintro e w3 ⟨rfl, rfl⟩
    go_wp2_with fail
    refine HDW.mono ?_
    rintro e w4 ⟨rfl, rfl⟩
    go_wp2_with fail
    go_ret
    exact ⟨HF.out _ HR.out.symm, HB2.out⟩
  · have ha0 : (a == 0) = false := by simpa using ha
    have HCON : Hid (∀ W, W.heap[w.heap.size]? = some (.cells #[.int .i64 3, .int .i64 a, .slice p L cap] 69) → Below w.heap.size w W → Calls Tryz.prog 31 #[.slice (some ⟨w.heap.size, 0, none⟩) 1 1] W fun e w' => e = .returned (.bool d0) ∧ w' = W) := fun W hk hW => by
      have h := conAt (w := w) hk (HCV.out W hW)
      rw [HD0.out.1, if_neg ha]
      exact h
    have HB0 : Hid (Below w.heap.size w (w.alloc (.cells #[.int .i64 3, .int .i64 a, .slice p L cap] 69))) := (Below.refl _ _).alloc (Nat.le_refl _) _
    have HC1 := HCON.out (w.alloc (.cells #[.int .i64 3, .int .i64 a, .slice p L cap] 69)) (heap_alloc_new _ _) HB0.out
    clear HCON ha
    go_enter Tryz.func11, Tryz.ntmps11
    go_wp2_with fail
    refine HC1.mono ?_
    rintro e w1 ⟨rfl, hw1⟩
    subst hw1
    clear HC1
    cases d0
    rotate_left
    · have HR : Hid (resvB xs a = true) := by show _ = _; rw [HR.out]; simp
      go_wp2_with fail
      go_ret
      exact ⟨HF.out _ HR.out.symm, HB0.out⟩
    go_wp2_with fail
    refine (H3 _).mono ?_
    rintro e w1' ⟨rfl, rfl⟩
    cases d1
    rotate_left
    · have HR : Hid (resvB xs a = true) := by show _ = _; rw [HR.out]; simp
      go_wp2_with fail
      go_ret
      exact ⟨HF.out _ HR.out.symm, HB0.out⟩
    go_wp2_with fail
    refine (HBI.out _ HB0.out).mono ?_
    rintro e w2 ⟨rfl, hb2⟩
    have HB2 : Hid (Below w.heap.size w w2) := Below.on HB0.out hb2
    clear hb2 HB0
    have HSP := l3spec_any p L cap s w2 (HCV.out w2 HB2.out)
    rw [← HD0.out.2] at HSP
    have HDW := HDL.out w2 HB2.out
    clear HD0 HDL HCV HBI H3
    cases d2
    rotate_left
    · have HR : Hid (resvB xs a = true) := by show _ = _; rw [HR.out]; simp
      go_wp2_with fail
      go_ret
      exact ⟨HF.out _ HR.out.symm, HB2.out⟩
    cases t0 : (s.toList == [58, 45])
    rotate_left
    · rw [t0] at HR
      cases t1 : (a == 1)
      rotate_left
      · rw [t1] at HR
        have HR : Hid (resvB xs a = true) := by show _ = _; rw [HR.out]; simp
        go_wp2_with fail
        go_ret
        exact ⟨HF.out _ HR.out.symm, HB2.out⟩
      rw [t1] at HR
      cases t2 : (a == 2)
      rotate_left
      · rw [t2] at HR
        have HR : Hid (resvB xs a = true) := by show _ = _; rw [HR.out]; simp
        go_wp2_with fail
        go_ret
        exact ⟨HF.out _ HR.out.symm, HB2.out⟩
      rw [t2] at HR
      cases t3 : (s.toList == [45, 45, 62])
      rotate_left
      · rw [t3] at HR
        cases d3
        rotate_left
        · have HR : Hid (resvB xs a = true) := by show _ = _; rw [HR.out]; simp
          go_wp2_with fail
          refine HSP.mono ?_
          rintro e w3 ⟨rfl, rfl⟩
          go_wp2_with fail
          go_ret
          exact ⟨HF.out _ HR.out.symm, HB2.out⟩
        cases d4
        rotate_left
        · have HR : Hid (resvB xs a = true) := by show _ = _; rw [HR.out]; simp
          go_wp2_with fail
          refine HSP.mono ?_
          rintro e w3 ⟨rfl, rfl⟩
          go_wp2_with fail
          refine HDW.mono ?_
          rintro e w4 ⟨rfl, rfl⟩
          go_wp2_with fail
          go_ret
          exact ⟨HF.out _ HR.out.symm, HB2.out⟩
        have HR : Hid (resvB xs a = false) := by show _ = _; rw [HR.out]; rfl
        go_wp2_with fail
        refine HSP.mono ?_
        rintro e w3 ⟨rfl, rfl⟩
        go_wp2_with fail
        refine HDW.mono ?_
        rintro e w4 ⟨rfl, rfl⟩
        go_wp2_with fail
        go_ret
        exact ⟨HF.out _ HR.out.symm, HB2.out⟩
      rw [t3] at HR
      cases d3
      rotate_left
      · have HR : Hid (resvB xs a = true) := by show _ = _; rw [HR.out]; simp
        go_wp2_with fail
        refine HSP.mono ?_
        rintro e w3 ⟨rfl, rfl⟩
        go_wp2_with fail
        go_ret
        exact ⟨HF.out _ HR.out.symm, HB2.out⟩
      cases d4
      rotate_left
      · have HR : Hid (resvB xs a = true) := by show _ = _; rw [HR.out]; simp
        go_wp2_with fail
        refine HSP.mono ?_
        rintro e w3 ⟨rfl, rfl⟩
        go_wp2_with fail
        refine HDW.mono ?_
        rintro e w4 ⟨rfl, rfl⟩
        go_wp2_with fail
        go_ret
        exact ⟨HF.out _ HR.out.symm, HB2.out⟩
      have HR : Hid (resvB xs a = false) := by show _ = _; rw [HR.out]; rfl
      go_wp2_with fail
      refine HSP.mono ?_
      rintro e w3 ⟨rfl, rfl⟩
      go_wp2_with fail
      refine HDW.mono ?_
      rintro e w4 ⟨rfl, rfl⟩
      go_wp2_with fail
      go_ret
      exact ⟨HF.out _ HR.out.symm, HB2.out⟩
    rw [t0] at HR
    cases t3 : (s.toList == [45, 45, 62])
    rotate_left
    · rw [t3] at HR
      cases t2 : (a == 2)
      rotate_left
      · rw [t2] at HR
        have HR : Hid (resvB xs a = true) := by show _ = _; rw [HR.out]; simp
        go_wp2_with fail
        go_ret
        exact ⟨HF.out _ HR.out.symm, HB2.out⟩
      rw [t2] at HR
      cases d3
      rotate_left
      · have HR : Hid (resvB xs a = true) := by show _ = _; rw [HR.out]; simp
        go_wp2_with fail
        refine HSP.mono ?_
        rintro e w3 ⟨rfl, rfl⟩
        go_wp2_with fail
        go_ret
        exact ⟨HF.out _ HR.out.symm, HB2.out⟩
      cases d4
      rotate_left
      · have HR : Hid (resvB xs a = true) := by show _ = _; rw [HR.out]; simp
        go_wp2_with fail
        refine HSP.mono ?_
        rintro e w3 ⟨rfl, rfl⟩
        go_wp2_with fail
        refine HDW.mono ?_
        rintro e w4 ⟨rfl, rfl⟩
        go_wp2_with fail
        go_ret
        exact ⟨HF.out _ HR.out.symm, HB2.out⟩
      have HR : Hid (resvB xs a = false) := by show _ = _; rw [HR.out]; rfl
      go_wp2_with fail
      refine HSP.mono ?_
      rintro e w3 ⟨rfl, rfl⟩
      go_wp2_with fail
      refine HDW.mono ?_
      rintro e w4 ⟨rfl, rfl⟩
      go_wp2_with fail
      go_ret
      exact ⟨HF.out _ HR.out.symm, HB2.out⟩
    rw [t3] at HR
    cases d3
    rotate_left
    · have HR : Hid (resvB xs a = true) := by show _ = _; rw [HR.out]; simp
      go_wp2_with fail
      refine HSP.mono ?_
      rintro e w3 ⟨rfl, rfl⟩
      go_wp2_with fail
      go_ret
      exact ⟨HF.out _ HR.out.symm, HB2.out⟩
    cases d4
    rotate_left
    · have HR : Hid (resvB xs a = true) := by show _ = _; rw [HR.out]; simp
      go_wp2_with fail
      refine HSP.mono ?_
      rintro e w3 ⟨rfl, rfl⟩
      go_wp2_with fail
      refine HDW.mono ?_
      rintro e w4 ⟨rfl, rfl⟩
      go_wp2_with fail
      go_ret
      exact ⟨HF.out _ HR.out.symm, HB2.out⟩
    have HR : Hid (resvB xs a = false) := by show _ = _; rw [HR.out]; rfl
    go_wp2_with fail
    refine HSP.mono ?_
    rintro e w3 ⟨rfl, rfl⟩
    go_wp2_with fail
    refine HDW.mono ?_
    rintro e w4 ⟨rfl, rfl⟩
    go_wp2_with fail
    go_ret
    exact ⟨HF.out _ HR.out.symm, HB2.out⟩
end Go.Proofs.YtfgaenggbbgboaaGreatDoor

namespace Go.Proofs.YtfgaenggbbgboaaGreatDoor
open Go Go.RowKit Go.Maps
set_option linter.unusedVariables false
theorem flat_setN : ∀ (rs : List RC) (i : Nat) (b : Int), i < rs.length → (flat rs).set (i * 3 + 1) (.int .i64 b) = flat (rs.set i ((rs.getD i RC.zero).1, b, (rs.getD i RC.zero).2.2))
  | [], i, b, h => by simp at h
  | x :: rs, 0, b, _ => by simp [flat_cons]
  | x :: rs, i + 1, b, h => by
    have := flat_setN rs i b (by simpa using h)
    rw [flat_cons, show (i + 1) * 3 + 1 = (i * 3 + 1) + 1 + 1 + 1 by omega]
    simp only [List.set_cons_succ, this]
    rfl
theorem OwnC.setN {w : World} {B g n c j : Nat} {cs : List Cel} (h : OwnC w B (some ⟨g, 0, none⟩) n c cs) (hj : j < cs.length) (b : Int) :
    OwnC (w.setCell ⟨g, j * 3 + 1, none⟩ (.int .i64 b)) B (some ⟨g, 0, none⟩) n c (cs.set j ((cs.getD j Cel.none).1, b, (cs.getD j Cel.none).2.2)) := by
  obtain ⟨hn, rs, hl, hr, hf, ha⟩ := h
  have h2 := (hr.stored (j * 3 + 1) (.int .i64 b)).1
  rw [flat_setN rs j b (by omega)] at h2
  have hat : ∀ i, ((rs.set j ((rs.getD j RC.zero).1, b, (rs.getD j RC.zero).2.2)).getD i RC.zero).2.2 = (rs.getD i RC.zero).2.2 := fun i => by
    rw [rs_set_at _ _ _ _ (by omega)]
    by_cases e : i = j
    · rw [if_pos e, e]
    · rw [if_neg e]
  refine ⟨by simpa using hn, _, by simpa using hl, h2, fun i hi => ?_, ⟨fun i hi => ?_, fun i i' hi hi' hne => ?_⟩⟩
  · have hi' : i < cs.length := by simpa using hi
    rw [cs_set_at _ _ _ _ hj, rs_set_at _ _ _ _ (by omega)]
    obtain ⟨q0, q1, q2⟩ := hf i hi'
    have q3 := q2.setCell (a := ⟨g, j * 3 + 1, none⟩) (fun hp e' => ha.1 i (by omega) hp e') (.int .i64 b)
    by_cases e : i = j
    · rw [if_pos e, if_pos e]
      subst e
      exact ⟨q0, rfl, q3⟩
    · rw [if_neg e, if_neg e]
      exact ⟨q0, q1, q3⟩
  · rw [hat]; exact ha.1 i (by simpa using hi)
  · rw [hat, hat]; exact ha.2 i i' (by simpa using hi) (by simpa using hi') hne
def renF (ks : List Int) (c : Cel) : Cel := if c.1 = 0 then (c.1, findI ks c.2.1, c.2.2) else c
def mixR (ks : List Int) (cs : List Cel) (j : Nat) : List Cel := (List.range cs.length).map fun i => if i < j then renF ks (cs.getD i Cel.none) else cs.getD i Cel.none
theorem mixR_len (ks : List Int) (cs : List Cel) (j : Nat) : (mixR ks cs j).length = cs.length := by simp [mixR]
theorem mixR_at (ks : List Int) (cs : List Cel) (j i : Nat) (h : i < cs.length) : (mixR ks cs j).getD i Cel.none = if i < j then renF ks (cs.getD i Cel.none) else cs.getD i Cel.none := by
  simp [mixR, List.getD, h]
theorem mixR_zero (ks : List Int) (cs : List Cel) : mixR ks cs 0 = cs := same_cells (mixR_len ..) (fun j hj => by rw [mixR_at _ _ _ _ (by rw [mixR_len] at hj; exact hj), if_neg (Nat.not_lt_zero _)])
theorem mixR_all (ks : List Int) (cs : List Cel) : mixR ks cs cs.length = cs.map (renF ks) := same_cells (by simp [mixR]) (fun j hj => by
  rw [mixR_len] at hj
  rw [mixR_at _ _ _ _ hj, if_pos hj]
  simp [List.getD, hj])
theorem mixR_succ (ks : List Int) (cs : List Cel) (j : Nat) (h : j < cs.length) : mixR ks cs (j + 1) = (mixR ks cs j).set j (renF ks (cs.getD j Cel.none)) := same_cells (by simp [mixR]) (fun i hi => by
  rw [mixR_len] at hi
  rw [mixR_at _ _ _ _ hi, cs_set_at _ _ _ _ (by rw [mixR_len]; exact h)]
  by_cases e : i = j
  · subst e; rw [if_pos (by omega), if_pos rfl]
  · rw [if_neg e, mixR_at _ _ _ _ hi]
    by_cases e2 : i < j
    · rw [if_pos e2, if_pos (by omega)]
    · rw [if_neg e2, if_neg (by omega)])
theorem set_selfR (cs : List Cel) (j : Nat) (h : j < cs.length) : cs.set j (cs.getD j Cel.none) = cs := same_cells (by simp) (fun i hi => by
  rw [cs_set_at _ _ _ _ h]
  by_cases e : i = j
  · rw [if_pos e, e]
  · rw [if_neg e])
set_option maxRecDepth 100000 in
theorem l2renumber_any (p : Option Addr) (n c : Nat) (cs : List Cel) (pl : Option Addr) (nl cl : Nat) (ks : List Int) (w : World) (hn : n = cs.length) (hl : cs.length + tl cs ≤ 10000000) (hin : CIn w p cs) (hnl : nl = ks.length) (hk : nl ≤ 100000) (hli : IIn w pl ks) :
    Calls Tryz.prog 59 #[.slice p n c, .slice pl nl cl] w fun e w' => ∃ q m c2, e = .returned (.slice q m c2) ∧ OwnC w' w.heap.size q m c2 (cs.map (renF ks)) ∧ Below w.heap.size w w' := by
  have HCP := l2copy_any p n c cs w hn hl hin
  have HLI : Hid (IIn w pl ks ∧ nl = ks.length) := ⟨hli, hnl⟩
  have hcl : cs.length ≤ 10000000 := by omega
  clear hin hli hn hnl
  go_enter Tryz.func59, Tryz.ntmps59
  go_wp2_with fail
  refine HCP.mono ?_
  rintro e w1 ⟨q, m, c2, rfl, ho1, hb1⟩
  have HM : Hid (m = cs.length) := ho1.1
  have hm : m ≤ 10000000 := by have := ho1.1; omega
  have HO1 : Hid (OwnC w1 w.heap.size q m c2 cs) := ho1
  have HB1 : Hid (Below w.heap.size w w1) := hb1
  clear ho1 hb1 HCP
  go_wp2_with fail
  go_loopw [6] (fun i wr => ∃ j : Nat, j ≤ m ∧ i = .int .i64 j ∧ Hid (OwnC wr w.heap.size q m c2 (mixR ks cs j)) ∧ Hid (Below w.heap.size w wr)) (fun i _ => m - (intOf i).toNat)
  case atStart => exact ⟨0, Nat.zero_le _, rfl, by rw [mixR_zero]; exact HO1, HB1⟩
  case round =>
    obtain ⟨j, hj, rfl, HO, HB⟩ := hrel
    by_cases hlt : j < m
    · have hjl : j < cs.length := by rw [← HM.out]; exact hlt
      obtain ⟨hn1, rs, hl1, hr, hf, ha⟩ := HO.out
      obtain ⟨g, cap, hv, hbg, hgs⟩ := hr.form (by omega)
      simp only [Value.slice.injEq, true_and] at hv
      obtain ⟨rfl, rfl⟩ := hv
      rw [mixR_len] at hl1 hf
      obtain ⟨a0, a1, a2⟩ := flat_at rs j (by omega)
      have d0 := (hr.cellAt (j * 3) (by omega)).trans a0
      have d1 := (hr.cellAt (j * 3 + 1) (by omega)).trans a1
      have ff := hr.frozenAt (j * 3 + 1)
      obtain ⟨q0, q1, _⟩ := hf j hjl
      rw [mixR_at _ _ _ _ hjl, if_neg (Nat.lt_irrefl j)] at q0 q1
      rw [q0] at d0
      rw [q1] at d1
      have HSN : Hid (∀ b, OwnC (wr.setCell ⟨g, j * 3 + 1, none⟩ (.int .i64 b)) w.heap.size (some ⟨g, 0, none⟩) m c2 ((mixR ks cs j).set j (((mixR ks cs j).getD j Cel.none).1, b, ((mixR ks cs j).getD j Cel.none).2.2))) := fun b => HO.out.setN (by rw [mixR_len]; exact hjl) b
      have hmj : (mixR ks cs j).getD j Cel.none = cs.getD j Cel.none := by rw [mixR_at _ _ _ _ hjl, if_neg (Nat.lt_irrefl j)]
      rw [hmj] at HSN
      have HS1 : Hid _ := mixR_succ ks cs j hjl
      have HFD := l2find_any pl nl cl ks (cs.getD j Cel.none).2.1 wr HLI.out.2 (by omega) (HLI.out.1.below HB.out)
      obtain ⟨c0, e0⟩ : ∃ x, x = (cs.getD j Cel.none).1 := ⟨_, rfl⟩
      obtain ⟨c1, e1⟩ : ∃ x, x = (cs.getD j Cel.none).2.1 := ⟨_, rfl⟩
      have HE : Hid (c0 = (cs.getD j Cel.none).1 ∧ c1 = (cs.getD j Cel.none).2.1) := ⟨e0, e1⟩
      rw [← e0] at d0
      rw [← e1] at d1 HFD
      have HMJ : Hid _ := hmj
      clear hn1 hl1 hr hf ha a0 a1 a2 q0 q1 e0 e1 hmj
      by_cases h0 : c0 = 0
      · subst h0
        obtain ⟨fi, ef⟩ : ∃ fi, fi = findI ks c1 := ⟨_, rfl⟩
        rw [← ef] at HFD
        have HFI : Hid (fi = findI ks c1) := ef
        clear ef
        go_wp2_with fail
        refine HFD.mono ?_
        rintro e w2 ⟨rfl, rfl⟩
        go_wp2_with fail
        have HO2 : Hid (OwnC (w2.setCell ⟨g, j * 3 + 1, none⟩ (.int .i64 fi)) w.heap.size (some ⟨g, 0, none⟩) m c2 (mixR ks cs (j + 1))) := by
          have := HSN.out fi
          rw [HS1.out, renF, if_pos HE.out.1.symm, ← HE.out.2, ← HFI.out]
          exact this
        go_roundw
        case rel => exact ⟨j + 1, by omega, by go_num, HO2, HB.out.setCell (p := ⟨g, j * 3 + 1, none⟩) hbg _⟩
        case measure => simp [intOf]; omega
      · have h0' : (c0 == 0) = false := by simpa using h0
        have HO2 : Hid (OwnC wr w.heap.size (some ⟨g, 0, none⟩) m c2 (mixR ks cs (j + 1))) := by
          show OwnC _ _ _ _ _ _
          rw [HS1.out, renF, if_neg (by rw [← HE.out.1]; exact h0), ← HMJ.out, set_selfR _ _ (by rw [mixR_len]; exact hjl)]
          exact HO.out
        clear h0
        go_wp2_with fail
        go_roundw
        case rel => exact ⟨j + 1, by omega, by go_num, HO2, HB⟩
        case measure => simp [intOf]; omega
    · obtain rfl : j = m := by omega
      go_wp2_with fail
      go_ret
      refine ⟨_, _, _, rfl, ?_, HB.out⟩
      rw [← mixR_all, ← HM.out]
      exact HO.out
theorem visits_mem : ∀ (cs : List Cel) (ks : List Int) (c : Cel), c ∈ cs → c.1 = 0 → c.2.1 ∈ visits ks cs
  | [], ks, c, h, _ => by cases h
  | a :: r, ks, c, h, h0 => by
    rcases List.mem_cons.1 h with rfl | h
    · rw [visits_cons]
      refine (visits_prefix r _).subset ?_
      rw [visitL, if_pos h0]
      exact putV_mem _ _
    · exact visits_mem r (visitL ks a) c h h0
theorem ren_same (cs : List Cel) : cs.map (renF (visits [] cs)) = renCells cs := by
  rw [renCells]
  refine List.map_congr_left fun c hc => ?_
  unfold renF renI
  by_cases h0 : c.1 = 0
  · rw [if_pos h0, if_pos h0, findI, if_pos (visits_mem cs [] c hc h0)]
  · rw [if_neg h0, if_neg h0]
set_option maxRecDepth 100000 in
theorem specRen_any (cs : List Cel) (p : Option Addr) (n cap : Nat) (w : World) (hn : n = cs.length) (hl : cs.length + tl cs ≤ 10000000) (hin : CIn w p cs) :
    Calls Tryz.prog 38 #[.slice p n cap] w fun e w' => ∃ q m c2, e = .returned (.slice q m c2) ∧ OwnC w' w.heap.size q m c2 (if validB cs = true then renCells cs else []) ∧ Below w.heap.size w w' := by
  subst hn
  have HV := specValid_any p cap cs w (by omega) hin
  have HI : Hid (CIn w p cs) := hin
  clear hin
  by_cases hv : validB cs = true
  · have hlen : cs.length ≤ 2000 := by simp only [validB, Bool.and_eq_true, decide_eq_true_eq] at hv; exact hv.1
    rw [if_pos hv]
    rw [hv] at HV
    clear hv
    go_enter Tryz.func38, Tryz.ntmps38
    go_wp2_with fail
    refine HV.mono ?_
    rintro e w1 ⟨rfl, hb1⟩
    have HB1 : Hid (Below w.heap.size w w1) := hb1
    have HT := l2vars_any p cs.length cap cs w1 rfl (by omega) (HI.out.below hb1)
    clear hb1 HV
    go_wp2_with fail
    refine HT.mono ?_
    rintro e w2 ⟨q, m, c2, rfl, ho, hb2⟩
    have HB2 : Hid (Below w.heap.size w w2) := Below.on HB1.out hb2
    have hmm : m ≤ 100000 := by have := ho.1; have := visits_len cs []; simp at this; omega
    have HRN := l2renumber_any p cs.length cap cs q m c2 (visits [] cs) w2 rfl hl (HI.out.below HB2.out) ho.1 hmm ho.iin
    clear ho hb2 HT
    go_wp2_with fail
    refine HRN.mono ?_
    rintro e w3 ⟨q3, m3, c3, rfl, ho3, hb3⟩
    have HO3 : Hid (OwnC w3 w.heap.size q3 m3 c3 (renCells cs)) := by rw [← ren_same]; exact ho3.mono HB2.out.size
    have HB3 : Hid (Below w.heap.size w w3) := Below.on HB2.out hb3
    clear ho3 hb3 HRN
    go_wp2_with fail
    go_ret
    exact ⟨_, _, _, rfl, HO3.out, HB3.out⟩
  · have hv' : validB cs = false := by simpa using hv
    rw [if_neg hv]
    rw [hv'] at HV
    clear hv hv'
    go_enter Tryz.func38, Tryz.ntmps38
    go_wp2_with (go_at_call 36; refine HV.mono ?_; rintro e w1 ⟨rfl, hb1⟩)
    go_ret
    exact ⟨_, _, _, rfl, OwnC.nil _ _, hb1⟩
end Go.Proofs.YtfgaenggbbgboaaGreatDoor

