/- Texts of IntE, MarkA, MarkT. Own work of the verifier. -/
import Derived.Test.YtedkkghekboahaaUqaf
import Derived.Test.YtedkkghekboahaaUqab
import Derived.Test.YtedkkghekboahaaUqad
import Derived.LoopN
namespace Go.Proofs.Ytedkkghekboahaa
open Go Go.RowKit
set_option linter.unusedVariables false

theorem szIntS_any (p : Option Addr) (n cap L : Nat) (w : World) (hL : L ≤ 1048576) (hn : n ≤ 9223372036854775807) :
    Calls Try.prog 36 #[.slice p n cap, .int .i64 L] w fun e w' => e = .returned (.int .i64 (szR L n)) ∧ w' = w := by
  by_cases h : n ≤ L
  · have e : szR L n = (L : Int) - n := by simp [szR, h]
    rw [e]
    have h0 : ¬ ((L : Int) - n < 0) := by omega
    go_enter Try.func36, Try.ntmps36
    go_wp2
    go_ret
    exact ⟨rfl, rfl⟩
  · have e : szR L n = -1 := by simp [szR, h]
    rw [e]
    have h0 : (L : Int) - n < 0 := by omega
    go_enter Try.func36, Try.ntmps36
    go_wp2
    go_ret
    exact ⟨rfl, rfl⟩


theorem valsI_set (xs : List Int) (k : Nat) (h : k < xs.length) :
    ((xs.take k).map (Value.int .i64) ++ List.replicate (xs.length - k) (Value.int .i64 0)).set k (Value.int .i64 (xs.getD k 0)) = (xs.take (k + 1)).map (Value.int .i64) ++ List.replicate (xs.length - (k + 1)) (Value.int .i64 0) := by
  rw [List.set_append_right _ _ (by simp; omega), List.take_succ_eq_append_getElem h]
  have e : k - ((xs.take k).map (Value.int IntKind.i64)).length = 0 := by simp; omega
  rw [e, show xs.length - k = (xs.length - (k + 1)) + 1 by omega, List.replicate_succ, List.set_cons_zero, List.map_append, List.append_assoc]
  simp only [List.map_cons, List.map_nil, List.singleton_append, List.getD, List.getElem?_eq_getElem h, Option.getD_some]

theorem toIntS_any (p : Option Addr) (cap : Nat) (xs : List Int) (w : World) (hn : xs.length ≤ 1048576) (hc : IIn w p xs) :
    Calls Try.prog 42 #[.slice p xs.length cap] w fun e w' => e = .returned (.slice (some ⟨w.heap.size, 0, none⟩) xs.length xs.length) ∧
      w'.ownsRow w.heap.size 3 1 (.slice (some ⟨w.heap.size, 0, none⟩) xs.length xs.length) xs.length (xs.map (Value.int .i64)) ∧ Below w.heap.size w w' := by
  obtain ⟨i0, hi, hz0, hz1, hz2⟩ := info_parts infoInt
  have hmx : xs.length ≤ maxLen := by unfold maxLen; omega
  go_enter Try.func42, Try.ntmps42
  go_wp2_with (at_make; refine wpList_make_full _ rfl _ _ 23 rfl w.heap.size 3 i0 (.int .i64 0) 1 Try.underlying23 hi hz0 hz1 _ _ _ _ xs.length rfl rfl rfl rfl (by rw [hz2]; omega) hmx (Nat.le_refl _) ?_; intro w1 hown hgrow)
  have hb1 : Below w.heap.size w w1 := (Below.refl _ _).grown hgrow (Nat.le_refl _) (fun k h => by cases h)
  have HO : Hid (w1.ownsRow w.heap.size 3 1 (.slice (some ⟨w.heap.size, 0, none⟩) xs.length xs.length) xs.length (List.replicate xs.length (Value.int .i64 0))) := by
    have := hown; simp [Value.cells, toList_madeCells_one] at this; exact this
  clear hown hgrow
  go_loopw [4] (fun i wr => ∃ k : Nat, k ≤ xs.length ∧ i = .int .i64 k ∧ Hid (wr.ownsRow w.heap.size 3 1 (.slice (some ⟨w.heap.size, 0, none⟩) xs.length xs.length) xs.length ((xs.take k).map (Value.int .i64) ++ List.replicate (xs.length - k) (Value.int .i64 0))) ∧ Below w.heap.size w wr)
    (fun i _ => xs.length - (intOf i).toNat)
  case atStart => exact ⟨0, Nat.zero_le _, rfl, by simpa using HO, hb1⟩
  case round =>
    obtain ⟨k, hk, rfl, HR, hbr⟩ := hrel
    by_cases hlt : k < xs.length
    · obtain ⟨b, o, rfl, hcs⟩ := hc (by omega)
      have hx : wr.cell? ⟨b, o + k, none⟩ = some (.int .i64 (xs.getD k 0)) := (hbr.cell (World.block_lt_of_cell? _ _ (hcs k hlt))).trans (hcs k hlt)
      have hd : wr.cell? ⟨w.heap.size, k, none⟩ = some (.int .i64 0) := by
        rw [HR.out.cellAt k (by omega), List.getElem?_append_right (by simp; omega), List.getElem?_replicate, if_pos (by simp; omega)]
      have hf := HR.out.frozenAt k
      obtain ⟨x, ex⟩ : ∃ x, x = xs.getD k 0 := ⟨_, rfl⟩
      rw [← ex] at hx
      have HX : Hid (x = xs.getD k 0) := ex
      have HB : Hid (Below w.heap.size w wr) := hbr
      clear ex hcs hc hb1 HO hbr
      go_wp2
      go_roundw
      case rel => exact ⟨k + 1, by omega, by go_num, by
        have := HR.out.stored k (.int .i64 x)
        rw [HX.out, valsI_set xs k hlt] at this
        rw [HX.out]
        exact this.1, HB.out.setCell (p := ⟨w.heap.size, k, none⟩) (Nat.le_refl _) _⟩
      case measure => simp [intOf]; omega
    · obtain rfl : k = xs.length := by omega
      go_wp2
      go_ret
      exact ⟨rfl, by simpa using HR.out, hbr⟩


theorem eqIntL_any (p q : Option Addr) (n m c1 c2 : Nat) (xs : List Int) (w : World) (hn : n = xs.length) (hm : m = xs.length) (hl : n ≤ 1000000000) (hx : IIn w p xs) (hy : IIn w q xs) :
    Calls Try.prog 47 #[.slice p n c1, .slice q m c2] w fun e w' => e = .returned (.bool true) ∧ ∃ k, w' = w.drewN k := by
  obtain rfl : m = n := by omega
  have HN : Hid (m = xs.length) := hn
  have HX : Hid (IIn w p xs) := hx
  have HY : Hid (IIn w q xs) := hy
  clear hn hm hx hy
  go_enter Try.func47, Try.ntmps47
  go_wp2_with fail
  go_loopw [5] (fun i wr => ∃ k d : Nat, k ≤ m ∧ i = .int .i64 k ∧ Hid (wr = w.drewN d)) (fun i _ => m - (intOf i).toNat)
  case atStart => exact ⟨0, 0, Nat.zero_le _, rfl, rfl⟩
  case round =>
    obtain ⟨k, d, hk, rfl, HW⟩ := hrel
    by_cases hlt : k < m
    · have hkl : k < xs.length := by rw [← HN.out]; exact hlt
      obtain ⟨b, o, rfl, hcx⟩ := HX.out (by omega)
      obtain ⟨b', o', rfl, hcy⟩ := HY.out (by omega)
      have h1 : wr.cell? ⟨b, o + k, none⟩ = some (.int .i64 (xs.getD k 0)) := by rw [HW.out]; exact hcx k hkl
      have h2 : wr.cell? ⟨b', o' + k, none⟩ = some (.int .i64 (xs.getD k 0)) := by rw [HW.out]; exact hcy k hkl
      obtain ⟨x, ex⟩ : ∃ x, x = xs.getD k 0 := ⟨_, rfl⟩
      rw [← ex] at h1 h2
      clear ex hcx hcy
      go_wp2_with fail
      go_region
      all_goals go_wp2_with fail
      all_goals go_roundw
      case rel => exact ⟨k + 1, d + 1, by omega, by go_num, by rw [HW.out]; rfl⟩
      case measure => simp [intOf]; omega
    · obtain rfl : k = m := by omega
      go_wp2_with fail
      go_ret
      exact ⟨rfl, d, HW.out⟩

end Go.Proofs.Ytedkkghekboahaa

namespace Go.Proofs.Ytedkkghekboahaa
open Go Go.RowKit
set_option linter.unusedVariables false


/-- What markByteS writes from k on. -/
def marks (k : Int) : Nat → List Int
  | 0 => []
  | n + 1 => (k % 256) :: marks (k + 1) n
theorem marks_len : ∀ (n : Nat) (k : Int), (marks k n).length = n
  | 0, _ => rfl
  | n + 1, k => by simp [marks, marks_len n (k + 1)]
theorem marks_at : ∀ (n : Nat) (k : Int) (i : Nat), i < n → (marks k n).getD i 0 = (k + i) % 256
  | 0, _, _, h => absurd h (Nat.not_lt_zero _)
  | n + 1, k, 0, _ => by simp [marks]
  | n + 1, k, i + 1, h => by
    have := marks_at n (k + 1) i (by omega)
    simp only [marks, List.getD_cons_succ, this]
    congr 1; omega

/-- The row when the first i bytes are written over. -/
def partly (k : Int) (xs : List Int) (i : Nat) : List Int := marks k i ++ xs.drop i
theorem partly_len (k : Int) (xs : List Int) (i : Nat) (h : i ≤ xs.length) : (partly k xs i).length = xs.length := by
  simp [partly, marks_len]; omega
theorem marks_snoc : ∀ (i : Nat) (k : Int), marks k (i + 1) = marks k i ++ [(k + i) % 256]
  | 0, k => by simp [marks]
  | i + 1, k => by
    rw [marks, marks_snoc i (k + 1), marks]
    simp only [List.cons_append, List.cons.injEq, true_and]
    congr 3; omega
theorem partly_set (k : Int) (xs : List Int) (i : Nat) (h : i < xs.length) : ((partly k xs i).map (Value.int .u8)).set i (.int .u8 ((k + i) % 256)) = (partly k xs (i + 1)).map (Value.int .u8) := by
  unfold partly
  have e : i - ((marks k i).map (Value.int IntKind.u8)).length = 0 := by simp [marks_len]
  rw [marks_snoc, List.map_append, List.set_append_right _ _ (by simp [marks_len]), e, List.drop_eq_getElem_cons h, List.map_cons, List.set_cons_zero, List.map_append, List.map_append, List.append_assoc]
  rfl

theorem wrap_byte (k : Int) (h : 0 ≤ k) : IntKind.u8.wrap k = k % 256 := by
  simp [IntKind.wrap, IntKind.signed, IntKind.bits]

theorem mark_any (B g n c : Nat) (k : Int) (xs : List Int) (w : World) (h0 : 0 ≤ k) (h1 : k ≤ 1000000000000) (hn : n ≤ 1000000000) (hown : OwnS w B (some ⟨g, 0, none⟩) n c xs) :
    Calls Try.prog 49 #[.slice (some ⟨g, 0, none⟩) n c, .int .i64 k] w fun e w' => e = .returned (.int .i64 (k + n)) ∧ OwnS w' B (some ⟨g, 0, none⟩) n c (marks k n) ∧ w.grownBy w' (some g) := by
  have HN : Hid (n = xs.length) := hown.1
  have HO : Hid (OwnS w B (some ⟨g, 0, none⟩) n c xs) := hown
  clear hown
  go_enter Try.func49, Try.ntmps49
  go_wp2
  go_loopw [1, 5] (fun q i wr => ∃ j : Nat, j ≤ n ∧ i = .int .i64 j ∧ q = .int .i64 (k + j) ∧ Hid (OwnS wr B (some ⟨g, 0, none⟩) n c (partly k xs j)) ∧ Hid (w.grownBy wr (some g))) (fun _ i _ => n - (intOf i).toNat)
  case atStart => exact ⟨0, Nat.zero_le _, rfl, by simp, by simpa [partly, marks] using HO, ⟨rfl, rfl, rfl, Nat.le_refl _, fun _ _ _ => rfl⟩⟩
  case round =>
    obtain ⟨j, hj, rfl, rfl, HR, HG⟩ := hrel
    by_cases hlt : j < n
    · have hd : ∃ z, wr.cell? ⟨g, j, none⟩ = some (.int .u8 z) := ⟨_, HR.out.row.2 j (by rw [← HR.out.1]; exact hlt)⟩
      obtain ⟨z, hd⟩ := hd
      have hf := HR.out.2.frozenAt j
      have hwr := wrap_byte (k + j) (by omega)
      have HS : Hid (OwnS (wr.setCell ⟨g, j, none⟩ (.int .u8 ((k + j) % 256))) B (some ⟨g, 0, none⟩) n c (partly k xs (j + 1)) ∧ wr.grownBy (wr.setCell ⟨g, j, none⟩ (.int .u8 ((k + j) % 256))) (some g)) := by
        have hs := HR.out.2.stored j (.int .u8 ((k + j) % 256))
        rw [partly_set k xs j (by rw [← HN.out]; exact hlt)] at hs
        exact ⟨⟨by rw [partly_len _ _ _ (by rw [← HN.out]; omega)]; exact HN.out, hs.1⟩, hs.2⟩
      go_wp2
      go_roundw
      case rel => exact ⟨j + 1, by omega, by go_num, by simp; omega, HS.out.1, HG.out.trans HS.out.2⟩
      case measure => simp [intOf]; omega
    · obtain rfl : j = n := by omega
      go_wp2
      go_ret
      refine ⟨rfl, ?_, HG.out⟩
      have := HR.out
      unfold partly at this
      rw [List.drop_eq_nil_of_le (by rw [← HN.out]; exact Nat.le_refl _), List.append_nil] at this
      exact this

/-- The same of whatever slice of the call's own, nil too. -/
theorem mark_own (B : Nat) (p : Option Addr) (n c : Nat) (k : Int) (xs : List Int) (w : World) (h0 : 0 ≤ k) (h1 : k ≤ 1000000000000) (hn : n ≤ 1000000000) (hown : OwnS w B p n c xs) :
    Calls Try.prog 49 #[.slice p n c, .int .i64 k] w fun e w' => e = .returned (.int .i64 (k + n)) ∧ OwnS w' B p n c (marks k n) ∧ w.grownBy w' (Value.ownBlock (.slice p n c)) := by
  rcases hown.form with ⟨rfl, rfl, rfl⟩ | ⟨g, rfl, _, _⟩
  · clear hown
    go_enter Try.func49, Try.ntmps49
    go_wp2
    refine wp_loop_rounds 1 ?_
    rw [rounds_succ]
    go_wp2
    go_ret
    exact ⟨by simp, OwnS.nil _ _, ⟨rfl, rfl, rfl, Nat.le_refl _, fun _ _ _ => rfl⟩⟩
  · exact mark_any B g n c k xs w h0 h1 hn hown

theorem OwnS.kept {w w' : World} {B : Nat} {p : Option Addr} {n c : Nat} {ys : List Int} {row : Option Nat} (h : OwnS w B p n c ys) (hg : w.grownBy w' row) (hne : ∀ g, p = some ⟨g, 0, none⟩ → row ≠ some g) : OwnS w' B p n c ys := by
  obtain ⟨rfl, hr⟩ := h
  refine ⟨rfl, hr.1, ?_⟩
  rcases hr.2 with h' | ⟨g, cap, cur, hv, hB, hg', r⟩
  · exact .inl h'
  · have hp : p = some ⟨g, 0, none⟩ := by simp only [Value.slice.injEq] at hv; exact hv.1
    exact .inr ⟨g, cap, cur, hv, hB, (hg.block g (Array.getElem?_eq_some_iff.1 hg').1 (fun e => hne g hp e.symm)).trans hg', r⟩
theorem OwnS.drewN {w : World} {B : Nat} {p : Option Addr} {n c : Nat} {ys : List Int} (h : OwnS w B p n c ys) (m : Nat) : OwnS (w.drewN m) B p n c ys := ⟨h.1, h.2⟩

end Go.Proofs.Ytedkkghekboahaa

namespace Go.Proofs.Ytedkkghekboahaa
open Go Go.RowKit
set_option linter.unusedVariables false

/-- The block that a text lies in. -/
def tb (p : Option Addr) (n : Nat) : Option Nat := if n = 0 then none else p.map Addr.block

theorem partly_at (k : Int) (xs : List Int) (j i : Nat) (hj : j ≤ xs.length) (hi : i < xs.length) : (partly k xs j).getD i 0 = if i < j then (k + i) % 256 else xs.getD i 0 := by
  unfold partly
  by_cases h : i < j
  · rw [if_pos h, ← marks_at j k i h]
    simp only [List.getD]
    rw [List.getElem?_append_left (by rw [marks_len]; exact h)]
  · rw [if_neg h]
    simp only [List.getD]
    rw [List.getElem?_append_right (by rw [marks_len]; omega), marks_len, List.getElem?_drop, show j + (i - j) = i by omega]

theorem markT_any (B : Nat) (p : Option Addr) (n c : Nat) (k : Int) (xs : List Int) (w : World) (h0 : 0 ≤ k) (h1 : k ≤ 1000000000000) (hn : n ≤ 1000000000) (hown : OwnT w B p n c xs) :
    Calls Try.prog 49 #[.slice p n c, .int .i64 k] w fun e w' => e = .returned (.int .i64 (k + n)) ∧ OwnT w' B p n c (marks k n) ∧ w.grownBy w' (tb p n) := by
  by_cases hz : n = 0
  · subst hz
    clear hown
    go_enter Try.func49, Try.ntmps49
    go_wp2
    refine wp_loop_rounds 1 ?_
    rw [rounds_succ]
    go_wp2
    go_ret
    exact ⟨by simp, ⟨rfl, fun h => absurd h (Nat.lt_irrefl 0)⟩, ⟨rfl, rfl, rfl, Nat.le_refl _, fun _ _ _ => rfl⟩⟩
  · obtain ⟨hl, hr⟩ := hown
    obtain ⟨g, rfl, hB, hlt0, hc⟩ := hr (by omega)
    have HN : Hid (n = xs.length) := hl
    have HO : Hid (∀ i, i < n → w.cell? ⟨g, i, none⟩ = some (.int .u8 (xs.getD i 0)) ∧ w.frozen? ⟨g, i, none⟩ = false) := hc
    have ht : tb (some (⟨g, 0, none⟩ : Addr)) n = some g := by simp [tb, hz]
    rw [ht]
    clear hl hr hc ht
    go_enter Try.func49, Try.ntmps49
    go_wp2
    go_loopw [1, 5] (fun q i wr => ∃ j : Nat, j ≤ n ∧ i = .int .i64 j ∧ q = .int .i64 (k + j) ∧ Hid (∀ i, i < n → wr.cell? ⟨g, i, none⟩ = some (.int .u8 ((partly k xs j).getD i 0)) ∧ wr.frozen? ⟨g, i, none⟩ = false) ∧ Hid (w.grownBy wr (some g))) (fun _ i _ => n - (intOf i).toNat)
    case atStart => exact ⟨0, Nat.zero_le _, rfl, by simp, by simpa [partly, marks] using HO, ⟨rfl, rfl, rfl, Nat.le_refl _, fun _ _ _ => rfl⟩⟩
    case round =>
      obtain ⟨j, hj, rfl, rfl, HR, HG⟩ := hrel
      by_cases hlt : j < n
      · obtain ⟨hd, hf⟩ := HR.out j hlt
        obtain ⟨z, ez⟩ : ∃ z, z = (partly k xs j).getD j 0 := ⟨_, rfl⟩
        rw [← ez] at hd
        clear ez
        have hwr := wrap_byte (k + j) (by omega)
        have HS : Hid ((∀ i, i < n → (wr.setCell ⟨g, j, none⟩ (.int .u8 ((k + j) % 256))).cell? ⟨g, i, none⟩ = some (.int .u8 ((partly k xs (j + 1)).getD i 0)) ∧ (wr.setCell ⟨g, j, none⟩ (.int .u8 ((k + j) % 256))).frozen? ⟨g, i, none⟩ = false) ∧ w.grownBy (wr.setCell ⟨g, j, none⟩ (.int .u8 ((k + j) % 256))) (some g)) := by
          refine ⟨fun i hi => ⟨?_, by rw [World.frozen?_setCell]; exact (HR.out i hi).2⟩, HG.out.trans ⟨rfl, rfl, rfl, by simp, fun b _ hb => Below.heap_setCell _ _ _ _ (fun e => hb (by rw [e]))⟩⟩
          have hxl := HN.out
          rw [partly_at k xs (j + 1) i (by omega) (by omega)]
          by_cases e : i = j
          · subst e
            rw [if_pos (by omega)]
            exact World.cell?_setCell_same _ _ _ hd
          · rw [World.cell?_setCell_other _ _ _ _ (fun e' => e (congrArg Addr.off e').symm), (HR.out i hi).1, partly_at k xs j i (by omega) (by omega)]
            by_cases e2 : i < j
            · rw [if_pos e2, if_pos (by omega)]
            · rw [if_neg e2, if_neg (by omega)]
        go_wp2
        go_roundw
        case rel => exact ⟨j + 1, by omega, by go_num, by simp; omega, HS.out.1, HS.out.2⟩
        case measure => simp [intOf]; omega
      · obtain rfl : j = n := by omega
        go_wp2
        go_ret
        refine ⟨rfl, ⟨(marks_len _ _).symm, fun _ => ⟨g, rfl, hB, Nat.lt_of_lt_of_le hlt0 HG.out.size, fun i hi => ⟨?_, (HR.out i hi).2⟩⟩⟩, HG.out⟩
        have hxl := HN.out
        rw [(HR.out i hi).1, partly_at k xs j i (by omega) (by omega), if_pos hi, marks_at j k i hi]

end Go.Proofs.Ytedkkghekboahaa

