/- isControl, isSentence, the reserved names of the program. Own work of the verifier. Made by wip/draft/nbi2.py. -/
import Derived.Test.YtgedoflkkkpdeaaGreatDoorFnC
namespace Go.Proofs.YtgedoflkkkpdeaaGreatDoor
open Go Go.RowKit
set_option linter.unusedVariables false

/-- Whether goals of this name and arity call control predicates. -/
def ctlB (s : ByteArray) (a : Int) : Bool := if s.toList == [99, 97, 108, 108] then (decide (1 ≤ a) && decide (a ≤ 8)) else if s.toList == [102, 105, 110, 100, 97, 108, 108] || s.toList == [99, 97, 116, 99, 104] || s.toList == [98, 101, 116, 119, 101, 101, 110] then a == 3 else if s.toList == [116, 104, 114, 111, 119] || s.toList == [97, 115, 115, 101, 114, 116, 97] || s.toList == [97, 115, 115, 101, 114, 116, 122] || s.toList == [114, 101, 116, 114, 97, 99, 116] then a == 1 else if s.toList == [104, 97, 108, 116] then a == 0 else if s.toList == [112, 104, 114, 97, 115, 101] then (a == 2 || a == 3) else false
set_option maxRecDepth 100000 in
theorem isControl_any (s : ByteArray) (a : Int) (w : World) : Calls Tryz.prog 66 #[.agg #[.string s, .int .i64 a]] w fun e w' => e = .returned (.bool (ctlB s a)) ∧ Below w.heap.size w w' := by
  have HB : Hid (∀ o, Below w.heap.size w (w.alloc o)) := fun o => (Below.refl _ _).alloc (Nat.le_refl _) _
  have HF : Hid (∀ b, b = ctlB s a → Ending.returned (.bool b) = .returned (.bool (ctlB s a))) := fun b h => ret_bool h
  have HR : Hid (ctlB s a = (if s.toList == [99, 97, 108, 108] then (decide (1 ≤ a) && decide (a ≤ 8)) else if s.toList == [102, 105, 110, 100, 97, 108, 108] || s.toList == [99, 97, 116, 99, 104] || s.toList == [98, 101, 116, 119, 101, 101, 110] then a == 3 else if s.toList == [116, 104, 114, 111, 119] || s.toList == [97, 115, 115, 101, 114, 116, 97] || s.toList == [97, 115, 115, 101, 114, 116, 122] || s.toList == [114, 101, 116, 114, 97, 99, 116] then a == 1 else if s.toList == [104, 97, 108, 116] then a == 0 else if s.toList == [112, 104, 114, 97, 115, 101] then (a == 2 || a == 3) else false)) := rfl
  cases h0 : (s.toList == [99, 97, 108, 108])
  rotate_left
  · rw [h0] at HR
    by_cases lo : 1 ≤ a
    · have g0 : decide (1 ≤ a) = true := by simpa using lo
      by_cases hi : a ≤ 8
      · have g1 : decide (a ≤ 8) = true := by simpa using hi
        rw [g0, g1] at HR
        go_enter Tryz.func66, Tryz.ntmps66
        go_wp2_with fail
        go_ret
        exact ⟨HF.out _ (by rw [HR.out]; rfl), HB.out _⟩
      · have g1 : decide (a ≤ 8) = false := by simpa using hi
        rw [g0, g1] at HR
        go_enter Tryz.func66, Tryz.ntmps66
        go_wp2_with fail
        go_ret
        exact ⟨HF.out _ (by rw [HR.out]; rfl), HB.out _⟩
    · have g0 : decide (1 ≤ a) = false := by simpa using lo
      rw [g0] at HR
      go_enter Tryz.func66, Tryz.ntmps66
      go_wp2_with fail
      go_ret
      exact ⟨HF.out _ (by rw [HR.out]; rfl), HB.out _⟩
  cases h1 : (s.toList == [102, 105, 110, 100, 97, 108, 108])
  rotate_left
  · rw [h0, h1] at HR
    go_enter Tryz.func66, Tryz.ntmps66
    go_wp2_with fail
    go_ret
    exact ⟨HF.out _ (by rw [HR.out]; first | rfl | (rw [Bool.eq_iff_iff]; simp)), HB.out _⟩
  cases h2 : (s.toList == [99, 97, 116, 99, 104])
  rotate_left
  · rw [h0, h1, h2] at HR
    go_enter Tryz.func66, Tryz.ntmps66
    go_wp2_with fail
    go_ret
    exact ⟨HF.out _ (by rw [HR.out]; first | rfl | (rw [Bool.eq_iff_iff]; simp)), HB.out _⟩
  cases h3 : (s.toList == [98, 101, 116, 119, 101, 101, 110])
  rotate_left
  · rw [h0, h1, h2, h3] at HR
    go_enter Tryz.func66, Tryz.ntmps66
    go_wp2_with fail
    go_ret
    exact ⟨HF.out _ (by rw [HR.out]; first | rfl | (rw [Bool.eq_iff_iff]; simp)), HB.out _⟩
  cases h4 : (s.toList == [116, 104, 114, 111, 119])
  rotate_left
  · rw [h0, h1, h2, h3, h4] at HR
    go_enter Tryz.func66, Tryz.ntmps66
    go_wp2_with fail
    go_ret
    exact ⟨HF.out _ (by rw [HR.out]; first | rfl | (rw [Bool.eq_iff_iff]; simp)), HB.out _⟩
  cases h5 : (s.toList == [97, 115, 115, 101, 114, 116, 97])
  rotate_left
  · rw [h0, h1, h2, h3, h4, h5] at HR
    go_enter Tryz.func66, Tryz.ntmps66
    go_wp2_with fail
    go_ret
    exact ⟨HF.out _ (by rw [HR.out]; first | rfl | (rw [Bool.eq_iff_iff]; simp)), HB.out _⟩
  cases h6 : (s.toList == [97, 115, 115, 101, 114, 116, 122])
  rotate_left
  · rw [h0, h1, h2, h3, h4, h5, h6] at HR
    go_enter Tryz.func66, Tryz.ntmps66
    go_wp2_with fail
    go_ret
    exact ⟨HF.out _ (by rw [HR.out]; first | rfl | (rw [Bool.eq_iff_iff]; simp)), HB.out _⟩
  cases h7 : (s.toList == [114, 101, 116, 114, 97, 99, 116])
  rotate_left
  · rw [h0, h1, h2, h3, h4, h5, h6, h7] at HR
    go_enter Tryz.func66, Tryz.ntmps66
    go_wp2_with fail
    go_ret
    exact ⟨HF.out _ (by rw [HR.out]; first | rfl | (rw [Bool.eq_iff_iff]; simp)), HB.out _⟩
  cases h8 : (s.toList == [104, 97, 108, 116])
  rotate_left
  · rw [h0, h1, h2, h3, h4, h5, h6, h7, h8] at HR
    go_enter Tryz.func66, Tryz.ntmps66
    go_wp2_with fail
    go_ret
    exact ⟨HF.out _ (by rw [HR.out]; first | rfl | (rw [Bool.eq_iff_iff]; simp)), HB.out _⟩
  cases h9 : (s.toList == [112, 104, 114, 97, 115, 101])
  rotate_left
  · rw [h0, h1, h2, h3, h4, h5, h6, h7, h8, h9] at HR
    cases g0 : (a == 2) <;> cases g1 : (a == 3)
    all_goals
      rw [g0, g1] at HR
      go_enter Tryz.func66, Tryz.ntmps66
      go_wp2_with fail
      go_ret
      exact ⟨HF.out _ (by rw [HR.out]; first | rfl | (rw [Bool.eq_iff_iff]; simp)), HB.out _⟩
  rw [h0, h1, h2, h3, h4, h5, h6, h7, h8, h9] at HR
  go_enter Tryz.func66, Tryz.ntmps66
  go_wp2_with fail
  go_ret
  exact ⟨HF.out _ (by rw [HR.out]; first | rfl | (rw [Bool.eq_iff_iff]; simp)), HB.out _⟩
/-- Whether a term of this name and arity is more than a head. -/
def senB (s : ByteArray) (a : Int) : Bool := if s.toList == [58, 45] then (a == 1 || a == 2) else if s.toList == [45, 45, 62] then a == 2 else false
set_option maxRecDepth 100000 in
theorem isSentence_any (s : ByteArray) (a : Int) (w : World) : Calls Tryz.prog 67 #[.agg #[.string s, .int .i64 a]] w fun e w' => e = .returned (.bool (senB s a)) ∧ Below w.heap.size w w' := by
  have HB : Hid (∀ o, Below w.heap.size w (w.alloc o)) := fun o => (Below.refl _ _).alloc (Nat.le_refl _) _
  have HF : Hid (∀ b, b = senB s a → Ending.returned (.bool b) = .returned (.bool (senB s a))) := fun b h => ret_bool h
  have HR : Hid (senB s a = (if s.toList == [58, 45] then (a == 1 || a == 2) else if s.toList == [45, 45, 62] then a == 2 else false)) := rfl
  cases h0 : (s.toList == [58, 45])
  rotate_left
  · rw [h0] at HR
    cases g0 : (a == 1) <;> cases g1 : (a == 2)
    all_goals
      rw [g0, g1] at HR
      go_enter Tryz.func67, Tryz.ntmps67
      go_wp2_with fail
      go_ret
      exact ⟨HF.out _ (by rw [HR.out]; first | rfl | (rw [Bool.eq_iff_iff]; simp)), HB.out _⟩
  cases h1 : (s.toList == [45, 45, 62])
  rotate_left
  · rw [h0, h1] at HR
    go_enter Tryz.func67, Tryz.ntmps67
    go_wp2_with fail
    go_ret
    exact ⟨HF.out _ (by rw [HR.out]; first | rfl | (rw [Bool.eq_iff_iff]; simp)), HB.out _⟩
  rw [h0, h1] at HR
  go_enter Tryz.func67, Tryz.ntmps67
  go_wp2_with fail
  go_ret
  exact ⟨HF.out _ (by rw [HR.out]; first | rfl | (rw [Bool.eq_iff_iff]; simp)), HB.out _⟩
def resN (s : ByteArray) : Bool := s.toList == [91, 93] || s.toList == [123, 125] || s.toList == [124]
theorem resName_any (s : ByteArray) (w : World) : Calls Tryz.prog 64 #[.string s] w fun e w' => e = .returned (.bool (resN s)) ∧ w' = w := by
  cases h1 : (s.toList == [91, 93]) <;> cases h2 : (s.toList == [123, 125]) <;> cases h3 : (s.toList == [124])
  all_goals
    have HF : Hid (∀ b, b = resN s → Ending.returned (.bool b) = .returned (.bool (resN s))) := fun b h => ret_bool h
    have HR : Hid (resN s = (s.toList == [91, 93] || s.toList == [123, 125] || s.toList == [124])) := rfl
    rw [h1, h2, h3] at HR
    go_enter Tryz.func64, Tryz.ntmps64
    go_wp2_with fail
    go_ret
    exact ⟨HF.out _ HR.out.symm, rfl⟩

end Go.Proofs.YtgedoflkkkpdeaaGreatDoor
