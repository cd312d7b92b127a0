/- slices.Backward of terms: the iterator; terms kept apart from a box. Own work of the verifier. -/
import Derived.RangeFuncNested
import Derived.RangeFuncBound
import Derived.RangeFuncCalls
import Derived.RangeFuncLeaves
import Derived.Shelf.Abstract
import Derived.Shelf.RegionOpen
import Derived.WalkKit
import Derived.OwnWalkIn
import Derived.TacticsInMore
import Derived.LoopNIn
import Derived.LoopIn
import Derived.Sort.EveryDepth
import Derived.Test.YtjbckdmlogjggaaTree1
namespace Go.Proofs.Ytjbckdmlogjggaa
open Go Go.RowKit Go.Shelf
set_option linter.unusedVariables false
attribute [local go_sem] Oper.semAt_some

/-- What has come when k rounds are over. -/
def upto {α : Type} (f : Nat → α) (k : Nat) : List α := (List.range k).map f
theorem upto_succ {α : Type} (f : Nat → α) (k : Nat) : upto f (k + 1) = upto f k ++ [f k] := by simp [upto, List.range_succ]
theorem upto_length {α : Type} (f : Nat → α) (k : Nat) : (upto f k).length = k := by simp [upto]
/-- An item as it comes: its place, its type, its value. -/
abbrev Itm : Type := Nat × Nat × Value
def bkAt (zs : List (Nat × Value)) (n j : Nat) : Itm := (n - 1 - j, (zs[n - 1 - j]?.getD (0, .nilIface)).1, (zs[n - 1 - j]?.getD (0, .nilIface)).2)
/-- What the iterator asks of a round: what lay below stays, and so does the box of the slice. -/
def BKeep (n₀ Bs : Nat) (A B : World) : Prop := Below n₀ A B ∧ ∀ v, A.cell? ⟨Bs, 0, none⟩ = some v → B.cell? ⟨Bs, 0, none⟩ = some v
theorem BKeep.refl (n₀ Bs : Nat) (A : World) : BKeep n₀ Bs A A := ⟨Below.refl _ _, fun _ h => h⟩
theorem BKeep.trans {n₀ Bs : Nat} {A B C : World} (h : BKeep n₀ Bs A B) (k : BKeep n₀ Bs B C) : BKeep n₀ Bs A C := ⟨h.1.trans k.1, fun v hv => k.2 v (h.2 v hv)⟩

set_option maxRecDepth 100000 in
set_option maxHeartbeats 2000000 in
theorem back1_in (F : Fence) (n : Nat) (h7 : F.fn 94) (hro : F.round = none) (hn : 1 ≤ n) (l Bs n₀ b len cap : Nat) (zs : List (Nat × Value)) (hlen : len ≤ 2000) (hb : b < n₀) (J Jx : List Itm → World → Prop)
    (hY : ∀ pre x W, J pre W → pre.length < len → YieldAt F (n - 1) Try.prog l #[.int .i64 (x.1 : Int), .iface x.2.1 x.2.2] W fun e W' =>
      (e = .returned (.bool true) ∧ J (pre ++ [x]) W' ∧ BKeep n₀ Bs W W') ∨ (e = .returned (.bool false) ∧ Jx (pre ++ [x]) W'))
    (W : World) (hBs : W.cell? ⟨Bs, 0, none⟩ = some (.slice (some ⟨b, 0, none⟩) len cap)) (hc : ∀ j, j < len → W.cell? ⟨b, j, none⟩ = some (.iface (zs[j]?.getD (0, .nilIface)).1 (zs[j]?.getD (0, .nilIface)).2)) (h0 : J [] W) :
    CallsIn F n Try.prog 94 #[.func (.yield l) #[] #[], .pointer (some ⟨Bs, 0, none⟩)] W fun e W' => (∃ v, e = .returned v) ∧
      ((∃ ys, ys = upto (bkAt zs len) len ∧ J ys W') ∨ (∃ pre, True ∧ Jx pre W')) := by
  refine callsIn_of_wp Try.func94 rfl h7 ?_ hro
  simp only [Try.ntmps94, List.size_toArray, List.length_cons, List.length_nil, Nat.reduceAdd, Nat.reduceSub, Array.replicate_succ, Array.replicate_zero, List.push_toArray, List.append_toArray, List.nil_append, List.cons_append]
  gi_wp2
  gi_loopw [3] (fun i wr => ∃ m : Nat, m ≤ len ∧ i = .int .i64 ((m : Int) - 1) ∧ J (upto (bkAt zs len) (len - m)) wr ∧ BKeep n₀ Bs W wr)
    (fun i _ => (intOf i + 1).toNat)
  case atStart => exact ⟨len, Nat.le_refl _, by go_num, by rw [Nat.sub_self]; exact h0, BKeep.refl _ _ _⟩
  case round =>
    obtain ⟨m, hm, rfl, hJs, hnx⟩ := hrel
    have hBs' := hnx.2 _ hBs
    cases m with
    | zero =>
      gi_wp2
      go_end0
      exact ⟨⟨_, rfl⟩, .inl ⟨_, rfl, hJs⟩⟩
    | succ m =>
      have hcx := (hnx.1.cell (p := ⟨b, m, none⟩) hb).trans (hc m (by omega))
      have e1 : ((m + 1 : Nat) : Int) - 1 = (m : Int) := by omega
      have e2 : len - 1 - (len - (m + 1)) = m := by omega
      have e3 : bkAt zs len (len - (m + 1)) = (m, (zs[m]?.getD (0, .nilIface)).1, (zs[m]?.getD (0, .nilIface)).2) := by simp only [bkAt, e2]
      have e4 : upto (bkAt zs len) (len - (m + 1)) ++ [(m, (zs[m]?.getD (0, .nilIface)).1, (zs[m]?.getD (0, .nilIface)).2)] = upto (bkAt zs len) (len - m) := by
        rw [← e3, ← upto_succ]
        congr 1; omega
      obtain ⟨fn, tmps, assign, body, hy, hR⟩ := hY _ (m, (zs[m]?.getD (0, .nilIface)).1, (zs[m]?.getD (0, .nilIface)).2) wr hJs (by rw [upto_length]; omega)
      dsimp only at hy
      rw [e4] at hR
      rw [e1]
      obtain ⟨tv, etv⟩ : ∃ tv, tv = (zs[m]?.getD (0, .nilIface)).1 := ⟨_, rfl⟩
      obtain ⟨xv, exv⟩ : ∃ xv, xv = (zs[m]?.getD (0, .nilIface)).2 := ⟨_, rfl⟩
      rw [← etv, ← exv] at hy hcx
      have hR' : Hid _ := hR
      clear e1 e2 e3 e4 etv exv
      gi_wp2
      refine hR.mono ?_
      rintro e W3 (⟨rfl, hJ3, hk3⟩ | ⟨rfl, hJx3⟩)
      · gi_wp2
        go_roundw
        case rel => exact ⟨m, by omega, by go_num, hJ3, hnx.trans hk3⟩
        case measure => simp [intOf]
      · gi_wp2
        refine bodyPost_ret (results_none rfl _ _ _) rfl ?_
        exact ⟨⟨_, rfl⟩, .inr ⟨_, trivial, hJx3⟩⟩

set_option maxHeartbeats 1000000 in
/-- slices.Backward(s): the slice is boxed; the function captures the box. -/
theorem back_in (F : Fence) (n : Nat) (h5 : F.fn 84) (hro : F.round = none) (a : Option Addr) (len cap : Nat) (w : World) :
    CallsIn F n Try.prog 84 #[.slice a len cap] w fun e w' => e = .returned (.func (.func 94) #[] #[.pointer (some ⟨w.heap.size, 0, none⟩)]) ∧ w' = w.alloc (.cells #[.slice a len cap] 109) := by
  refine callsIn_of_wp Try.func84 rfl h5 ?_ hro
  simp only [Try.ntmps84, List.size_toArray, List.length_cons, List.length_nil, Nat.reduceAdd, Nat.reduceSub, Array.replicate_succ, Array.replicate_zero, List.push_toArray, List.append_toArray, List.nil_append, List.cons_append]
  gi_wp2
  go_ret
  exact ⟨rfl, rfl⟩

theorem back_stops (F : Fence) (n : Nat) (h7 : F.fn 94) (hro : F.round = none) (hn : 1 ≤ n) (Bs n₀ b len cap : Nat) (zs : List (Nat × Value)) (hlen : len ≤ 2000) (w : World) (hBs : Bs < w.heap.size) (hn₀ : n₀ ≤ w.heap.size) (hb : b < n₀)
    (hcB : w.cell? ⟨Bs, 0, none⟩ = some (.slice (some ⟨b, 0, none⟩) len cap)) (hc : ∀ j, j < len → w.cell? ⟨b, j, none⟩ = some (.iface (zs[j]?.getD (0, .nilIface)).1 (zs[j]?.getD (0, .nilIface)).2)) :
    SeqStopsK F n Try.prog 94 #[.pointer (some ⟨Bs, 0, none⟩)] (fun x : Itm => #[Value.int .i64 (x.1 : Int), Value.iface x.2.1 x.2.2]) (BKeep n₀ Bs) (fun ys => ys = upto (bkAt zs len) len) (fun _ => True) len w := fun l J Jx W hW _ _ hY h0 => by
  exact back1_in F n h7 hro hn l Bs n₀ b len cap zs hlen hb J Jx hY W ((hW.cell (p := ⟨Bs, 0, none⟩) hBs).trans hcB) (fun j hj => (hW.cell (p := ⟨b, j, none⟩) (by show b < _; omega)).trans (hc j hj)) h0

theorem bKeep_b {n₀ Bs : Nat} {w : World} (hn : n₀ ≤ w.heap.size) (W : World) (l : Nat) (o o' : Obj) (hl : w.heap.size ≤ l) (h : W.heap[l]? = some o) (ho : o.isCells = false) (hw : o.isWalk = false) : BKeep n₀ Bs W (W.putObj l o') :=
  ⟨belowK_b hn W l o o' hl h ho hw, fun v hv => cell_kept hv (grownBy_putObj' W l o') (fun r e => by cases e; exact ⟨_, h, ho⟩)⟩

end Go.Proofs.Ytjbckdmlogjggaa
