/- markByteS. (Cut out of Mark.) Own work of the verifier. -/
import Derived.Test.YtcdcdpmjibcolaaOwn
import Derived.LoopN
namespace Go.Proofs.Ytcdcdpmjibcolaa
open Go Go.RowKit
set_option linter.unusedVariables false


/-- What markByteS writes from k on. -/
def marks (k : Int) : Nat → List Int
  | 0 => []
  | n + 1 => (k % 256) :: marks (k + 1) n
theorem marks_len : ∀ (n : Nat) (k : Int), (marks k n).length = n
  | 0, _ => rfl
  | n + 1, k => by simp [marks, marks_len n (k + 1)]
theorem marks_at : ∀ (n : Nat) (k : Int) (i : Nat), i < n → (marks k n).getD i 0 = (k + i) % 256
  | 0, _, _, h => absurd h (Nat.not_lt_zero _)
  | n + 1, k, 0, _ => by simp [marks]
  | n + 1, k, i + 1, h => by
    have := marks_at n (k + 1) i (by omega)
    simp only [marks, List.getD_cons_succ, this]
    congr 1; omega

/-- The row when the first i bytes are written over. -/
def partly (k : Int) (xs : List Int) (i : Nat) : List Int := marks k i ++ xs.drop i
theorem partly_len (k : Int) (xs : List Int) (i : Nat) (h : i ≤ xs.length) : (partly k xs i).length = xs.length := by
  simp [partly, marks_len]; omega
theorem marks_snoc : ∀ (i : Nat) (k : Int), marks k (i + 1) = marks k i ++ [(k + i) % 256]
  | 0, k => by simp [marks]
  | i + 1, k => by
    rw [marks, marks_snoc i (k + 1), marks]
    simp only [List.cons_append, List.cons.injEq, true_and]
    congr 3; omega
theorem partly_set (k : Int) (xs : List Int) (i : Nat) (h : i < xs.length) : ((partly k xs i).map (Value.int .u8)).set i (.int .u8 ((k + i) % 256)) = (partly k xs (i + 1)).map (Value.int .u8) := by
  unfold partly
  have e : i - ((marks k i).map (Value.int IntKind.u8)).length = 0 := by simp [marks_len]
  rw [marks_snoc, List.map_append, List.set_append_right _ _ (by simp [marks_len]), e, List.drop_eq_getElem_cons h, List.map_cons, List.set_cons_zero, List.map_append, List.map_append, List.append_assoc]
  rfl

theorem wrap_byte (k : Int) (h : 0 ≤ k) : IntKind.u8.wrap k = k % 256 := by
  simp [IntKind.wrap, IntKind.signed, IntKind.bits]

theorem mark_any (B g n c : Nat) (k : Int) (xs : List Int) (w : World) (h0 : 0 ≤ k) (h1 : k ≤ 1000000000000) (hn : n ≤ 1000000000) (hown : OwnS w B (some ⟨g, 0, none⟩) n c xs) :
    Calls Try.prog 49 #[.slice (some ⟨g, 0, none⟩) n c, .int .i64 k] w fun e w' => e = .returned (.int .i64 (k + n)) ∧ OwnS w' B (some ⟨g, 0, none⟩) n c (marks k n) ∧ w.grownBy w' (some g) := by
  have HN : Hid (n = xs.length) := hown.1
  have HO : Hid (OwnS w B (some ⟨g, 0, none⟩) n c xs) := hown
  clear hown
  go_enter Try.func49, Try.ntmps49
  go_wp2
  go_loopw [1, 5] (fun q i wr => ∃ j : Nat, j ≤ n ∧ i = .int .i64 j ∧ q = .int .i64 (k + j) ∧ Hid (OwnS wr B (some ⟨g, 0, none⟩) n c (partly k xs j)) ∧ Hid (w.grownBy wr (some g))) (fun _ i _ => n - (intOf i).toNat)
  case atStart => exact ⟨0, Nat.zero_le _, rfl, by simp, by simpa [partly, marks] using HO, ⟨rfl, rfl, rfl, Nat.le_refl _, fun _ _ _ => rfl⟩⟩
  case round =>
    obtain ⟨j, hj, rfl, rfl, HR, HG⟩ := hrel
    by_cases hlt : j < n
    · have hd : ∃ z, wr.cell? ⟨g, j, none⟩ = some (.int .u8 z) := ⟨_, HR.out.row.2 j (by rw [← HR.out.1]; exact hlt)⟩
      obtain ⟨z, hd⟩ := hd
      have hf := HR.out.2.frozenAt j
      have hwr := wrap_byte (k + j) (by omega)
      have HS : Hid (OwnS (wr.setCell ⟨g, j, none⟩ (.int .u8 ((k + j) % 256))) B (some ⟨g, 0, none⟩) n c (partly k xs (j + 1)) ∧ wr.grownBy (wr.setCell ⟨g, j, none⟩ (.int .u8 ((k + j) % 256))) (some g)) := by
        have hs := HR.out.2.stored j (.int .u8 ((k + j) % 256))
        rw [partly_set k xs j (by rw [← HN.out]; exact hlt)] at hs
        exact ⟨⟨by rw [partly_len _ _ _ (by rw [← HN.out]; omega)]; exact HN.out, hs.1⟩, hs.2⟩
      go_wp2
      go_roundw
      case rel => exact ⟨j + 1, by omega, by go_num, by simp; omega, HS.out.1, HG.out.trans HS.out.2⟩
      case measure => simp [intOf]; omega
    · obtain rfl : j = n := by omega
      go_wp2
      go_ret
      refine ⟨rfl, ?_, HG.out⟩
      have := HR.out
      unfold partly at this
      rw [List.drop_eq_nil_of_le (by rw [← HN.out]; exact Nat.le_refl _), List.append_nil] at this
      exact this

/-- The same of whatever slice of the call's own, nil too. -/
theorem mark_own (B : Nat) (p : Option Addr) (n c : Nat) (k : Int) (xs : List Int) (w : World) (h0 : 0 ≤ k) (h1 : k ≤ 1000000000000) (hn : n ≤ 1000000000) (hown : OwnS w B p n c xs) :
    Calls Try.prog 49 #[.slice p n c, .int .i64 k] w fun e w' => e = .returned (.int .i64 (k + n)) ∧ OwnS w' B p n c (marks k n) ∧ w.grownBy w' (Value.ownBlock (.slice p n c)) := by
  rcases hown.form with ⟨rfl, rfl, rfl⟩ | ⟨g, rfl, _, _⟩
  · clear hown
    go_enter Try.func49, Try.ntmps49
    go_wp2
    refine wp_loop_rounds 1 ?_
    rw [rounds_succ]
    go_wp2
    go_ret
    exact ⟨by simp, OwnS.nil _ _, ⟨rfl, rfl, rfl, Nat.le_refl _, fun _ _ _ => rfl⟩⟩
  · exact mark_any B g n c k xs w h0 h1 hn hown

theorem OwnS.kept {w w' : World} {B : Nat} {p : Option Addr} {n c : Nat} {ys : List Int} {row : Option Nat} (h : OwnS w B p n c ys) (hg : w.grownBy w' row) (hne : ∀ g, p = some ⟨g, 0, none⟩ → row ≠ some g) : OwnS w' B p n c ys := by
  obtain ⟨rfl, hr⟩ := h
  refine ⟨rfl, hr.1, ?_⟩
  rcases hr.2 with h' | ⟨g, cap, cur, hv, hB, hg', r⟩
  · exact .inl h'
  · have hp : p = some ⟨g, 0, none⟩ := by simp only [Value.slice.injEq] at hv; exact hv.1
    exact .inr ⟨g, cap, cur, hv, hB, (hg.block g (Array.getElem?_eq_some_iff.1 hg').1 (fun e => hne g hp e.symm)).trans hg', r⟩
theorem OwnS.drewN {w : World} {B : Nat} {p : Option Addr} {n c : Nat} {ys : List Int} (h : OwnS w B p n c ys) (m : Nat) : OwnS (w.drewN m) B p n c ys := ⟨h.1, h.2⟩

end Go.Proofs.Ytcdcdpmjibcolaa
