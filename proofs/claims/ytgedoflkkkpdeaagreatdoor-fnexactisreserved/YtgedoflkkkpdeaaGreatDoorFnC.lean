/- isNew, isConstruct of the program. Own work of the verifier. Made by wip/draft/nbi2.py. -/
import Derived.Test.YtgedoflkkkpdeaaGreatDoorStr0
namespace Go.Proofs.YtgedoflkkkpdeaaGreatDoor
open Go Go.RowKit
set_option linter.unusedVariables false

theorem two_cells {w5 : World} {g : Nat} {a b : Value} {t : TypeId} (h : w5.heap[g]? = some (.cells #[a, b] t (0, 0))) : w5.cell? ⟨g, 0, none⟩ = some a ∧ w5.cell? ⟨g, 1, none⟩ = some b ∧ w5.frozen? ⟨g, 0, none⟩ = false ∧ w5.frozen? ⟨g, 1, none⟩ = false := by
  refine ⟨?_, ?_, ?_, ?_⟩
  · exact cell_of_row _ _ 0 _ _ _ h
  · exact cell_of_row _ _ 1 _ _ _ h
  · unfold World.frozen?; rw [h]; rfl
  · unfold World.frozen?; rw [h]; rfl
/-- Whether a name begins with a dollar sign. -/
def dolB (s : ByteArray) : Bool := decide (1 ≤ s.size) && ((s.extract 0 1).toList == [36])
theorem hasPre_any (s : ByteArray) (w : World) (hs : s.size ≤ 1000000000) : Calls Tryz.prog 147 #[.string s, .string ⟨#[36]⟩] w fun e w' => e = .returned (.bool (dolB s)) ∧ w' = w := by
  have HR : Hid (dolB s = (decide (1 ≤ s.size) && ((s.extract 0 1).toList == [36]))) := rfl
  have HF : Hid (∀ b, b = dolB s → Ending.returned (.bool b) = .returned (.bool (dolB s))) := fun b h => ret_bool h
  obtain ⟨n, en⟩ : ∃ n, n = s.size := ⟨_, rfl⟩
  by_cases h1 : 1 ≤ s.size
  · have e1 : decide (1 ≤ s.size) = true := by simpa using h1
    rw [e1] at HR
    have h1' : decide ((1 : Int) ≤ (s.size : Int)) = true := by simp; omega
    cases h2 : ((s.extract 0 1).toList == [36])
    all_goals
      rw [h2] at HR
      go_enter Tryz.func147, Tryz.ntmps147
      go_wp2_with fail
      go_ret
      exact ⟨HF.out _ HR.out.symm, rfl⟩
  · have e1 : decide (1 ≤ s.size) = false := by simpa using h1
    rw [e1] at HR
    have h1' : decide ((1 : Int) ≤ (s.size : Int)) = false := by simp; omega
    go_enter Tryz.func147, Tryz.ntmps147
    go_wp2_with fail
    go_ret
    exact ⟨HF.out _ HR.out.symm, rfl⟩
theorem hasPrefixS_any (s : ByteArray) (w : World) (hs : s.size ≤ 1000000000) : Calls Tryz.prog 107 #[.string s, .string ⟨#[36]⟩] w fun e w' => e = .returned (.bool (dolB s)) ∧ w' = w := by
  have H := hasPre_any s w hs
  clear hs
  go_enter Tryz.func107, Tryz.ntmps107
  go_wp2_with (go_at_call 147; refine H.mono ?_; rintro e w' ⟨rfl, rfl⟩)
  go_ret
  exact ⟨rfl, rfl⟩
theorem isNew_any (s : ByteArray) (a : Int) (w : World) (hs : s.size ≤ 1000000000) : Calls Tryz.prog 63 #[.agg #[.string s, .int .i64 a]] w fun e w' => e = .returned (.bool (dolB s)) ∧ Below w.heap.size w w' := by
  have H := fun W => hasPrefixS_any s W hs
  clear hs
  go_enter Tryz.func63, Tryz.ntmps63
  go_wp2_with (go_at_call 107; refine (H _).mono ?_; rintro e w' ⟨rfl, rfl⟩)
  go_ret
  exact ⟨rfl, (Below.refl _ _).alloc (Nat.le_refl _) _⟩

/-- Whether goals of this name and arity are constructs. -/
def conB (s : ByteArray) (a : Int) : Bool := if s.toList == [44] || s.toList == [59] || s.toList == [45, 62] || s.toList == [102, 111, 114, 97, 108, 108] then a == 2 else if s.toList == [92, 43] || s.toList == [111, 110, 99, 101] then a == 1 else if s.toList == [33] then a == 0 else false
set_option maxRecDepth 100000 in
theorem isConstruct_any (s : ByteArray) (a : Int) (w : World) : Calls Tryz.prog 65 #[.agg #[.string s, .int .i64 a]] w fun e w' => e = .returned (.bool (conB s a)) ∧ Below w.heap.size w w' := by
  have HB : Hid (∀ o, Below w.heap.size w (w.alloc o)) := fun o => (Below.refl _ _).alloc (Nat.le_refl _) _
  have HF : Hid (∀ b, b = conB s a → Ending.returned (.bool b) = .returned (.bool (conB s a))) := fun b h => ret_bool h
  have HR : Hid (conB s a = (if s.toList == [44] || s.toList == [59] || s.toList == [45, 62] || s.toList == [102, 111, 114, 97, 108, 108] then a == 2 else if s.toList == [92, 43] || s.toList == [111, 110, 99, 101] then a == 1 else if s.toList == [33] then a == 0 else false)) := rfl
  cases h0 : (s.toList == [44])
  rotate_left
  · rw [h0] at HR
    go_enter Tryz.func65, Tryz.ntmps65
    go_wp2_with fail
    go_ret
    exact ⟨HF.out _ (by rw [HR.out]; first | rfl | (rw [Bool.eq_iff_iff]; simp)), HB.out _⟩
  cases h1 : (s.toList == [59])
  rotate_left
  · rw [h0, h1] at HR
    go_enter Tryz.func65, Tryz.ntmps65
    go_wp2_with fail
    go_ret
    exact ⟨HF.out _ (by rw [HR.out]; first | rfl | (rw [Bool.eq_iff_iff]; simp)), HB.out _⟩
  cases h2 : (s.toList == [45, 62])
  rotate_left
  · rw [h0, h1, h2] at HR
    go_enter Tryz.func65, Tryz.ntmps65
    go_wp2_with fail
    go_ret
    exact ⟨HF.out _ (by rw [HR.out]; first | rfl | (rw [Bool.eq_iff_iff]; simp)), HB.out _⟩
  cases h3 : (s.toList == [102, 111, 114, 97, 108, 108])
  rotate_left
  · rw [h0, h1, h2, h3] at HR
    go_enter Tryz.func65, Tryz.ntmps65
    go_wp2_with fail
    go_ret
    exact ⟨HF.out _ (by rw [HR.out]; first | rfl | (rw [Bool.eq_iff_iff]; simp)), HB.out _⟩
  cases h4 : (s.toList == [92, 43])
  rotate_left
  · rw [h0, h1, h2, h3, h4] at HR
    go_enter Tryz.func65, Tryz.ntmps65
    go_wp2_with fail
    go_ret
    exact ⟨HF.out _ (by rw [HR.out]; first | rfl | (rw [Bool.eq_iff_iff]; simp)), HB.out _⟩
  cases h5 : (s.toList == [111, 110, 99, 101])
  rotate_left
  · rw [h0, h1, h2, h3, h4, h5] at HR
    go_enter Tryz.func65, Tryz.ntmps65
    go_wp2_with fail
    go_ret
    exact ⟨HF.out _ (by rw [HR.out]; first | rfl | (rw [Bool.eq_iff_iff]; simp)), HB.out _⟩
  cases h6 : (s.toList == [33])
  rotate_left
  · rw [h0, h1, h2, h3, h4, h5, h6] at HR
    go_enter Tryz.func65, Tryz.ntmps65
    go_wp2_with fail
    go_ret
    exact ⟨HF.out _ (by rw [HR.out]; first | rfl | (rw [Bool.eq_iff_iff]; simp)), HB.out _⟩
  rw [h0, h1, h2, h3, h4, h5, h6] at HR
  go_enter Tryz.func65, Tryz.ntmps65
  go_wp2_with fail
  go_ret
  exact ⟨HF.out _ (by rw [HR.out]; first | rfl | (rw [Bool.eq_iff_iff]; simp)), HB.out _⟩
end Go.Proofs.YtgedoflkkkpdeaaGreatDoor
