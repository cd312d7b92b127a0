/- Texts of DefW, IbP, IbN, Ops1, Ops2, Ops3, OpsV1, OpsV2, OpsV3. Own work of the verifier. -/
import Derived.Test.YtdmmchoicngblaaGreatDoorUqac
import Derived.Lib.BytesEntry
import Derived.Sort.Grow
namespace Go.Proofs.YtdmmchoicngblaaGreatDoor
set_option linter.unusedVariables false
set_option maxRecDepth 100000
section
open Go Go.RowKit
def wd (word : List UInt8) : List UInt8 → List (List UInt8)
 | [] => if word = [] then [] else [word]
 | b :: r => if b = 32 then (if word = [] then wd [] r else word :: wd [] r) else wd (word ++ [b]) r
theorem infoStr : (Tryz.prog.info? 9).map (fun i => (i.zero, i.size, i.bytes)) = some (some (.string ⟨#[]⟩), 1, 16) := by kernel_rfl
def bEnts : List (List UInt8 × Int) := [
 ([116, 114, 117, 101], 0),
 ([102, 97, 105, 108], 0),
 ([102, 97, 108, 115, 101], 0),
 ([61], 2),
 ([92, 61], 2),
 ([61, 61], 2),
 ([92, 61, 61], 2),
 ([64, 60], 2),
 ([64, 61, 60], 2),
 ([64, 62], 2),
 ([64, 62, 61], 2),
 ([99, 111, 109, 112, 97, 114, 101], 3),
 ([118, 97, 114], 1),
 ([110, 111, 110, 118, 97, 114], 1),
 ([97, 116, 111, 109], 1),
 ([105, 110, 116, 101, 103, 101, 114], 1),
 ([97, 116, 111, 109, 105, 99], 1),
 ([99, 111, 109, 112, 111, 117, 110, 100], 1),
 ([99, 97, 108, 108, 97, 98, 108, 101], 1),
 ([105, 115, 95, 108, 105, 115, 116], 1),
 ([103, 114, 111, 117, 110, 100], 1),
 ([105, 115], 2),
 ([61, 58, 61], 2),
 ([61, 92, 61], 2),
 ([60], 2),
 ([61, 60], 2),
 ([62], 2),
 ([62, 61], 2),
 ([102, 117, 110, 99, 116, 111, 114], 3),
 ([97, 114, 103], 3),
 ([61, 46, 46], 2),
 ([99, 111, 112, 121, 95, 116, 101, 114, 109], 2),
 ([108, 101, 110, 103, 116, 104], 2),
 ([97, 116, 111, 109, 95, 108, 101, 110, 103, 116, 104], 2),
 ([97, 116, 111, 109, 95, 99, 111, 100, 101, 115], 2),
 ([97, 116, 111, 109, 95, 99, 104, 97, 114, 115], 2),
 ([99, 104, 97, 114, 95, 99, 111, 100, 101], 2),
 ([110, 117, 109, 98, 101, 114, 95, 99, 111, 100, 101, 115], 2),
 ([109, 115, 111, 114, 116], 2),
 ([115, 111, 114, 116], 2),
 ([119, 114, 105, 116, 101], 1),
 ([119, 114, 105, 116, 101, 113], 1),
 ([112, 114, 105, 110, 116], 1),
 ([110, 108], 0),
 ([116, 97, 98], 1)]
end
section
open Go Go.RowKit Go.Maps Go.Shelf
set_option linter.unusedSimpArgs false
noncomputable def bOps : Array Oper := match Tryz.f32.body with
 | some (.seq _ (.seq (.region _ ops _) _)) => ops
 | _ => #[]
def bEnt (j : Nat) : List UInt8 × Int := bEnts.getD j ([], 0)
def bFns : List Nat := [56, 57, 57, 58, 59, 60, 61, 62, 63, 64, 65, 66, 67, 68, 69, 70, 71, 72, 73, 74, 75, 76, 77, 78, 79, 80, 81, 82, 83, 84, 85, 86, 87, 88, 89, 90, 91, 92, 93, 94, 95, 96, 96, 97, 98]
def bFn (j : Nat) : Nat := bFns.getD j 0
def bKey (j : Nat) : Fun := (bOf (bEnt j).1, (bEnt j).2)
def bKeyV (j : Nat) : Value := .agg #[.string (bKey j).1, .int .i64 (bKey j).2]
def insB (L : Array Bool) (f : Fun) : Option Nat := ((List.range 45).find? fun j => decide (bKey j = f) && L.getD (2 * j + 2) false).map bFn
def buTab (f : Fun) : Option Nat := ((List.range 45).find? fun j => decide (bKey j = f)).map bFn
theorem bEnt_inj : ((List.range 45).all fun i => (List.range 45).all fun j => decide (bEnt i = bEnt j → i = j)) = true := by decide
theorem bOf_inj {a b : List UInt8} (h : bOf a = bOf b) : a = b := by
 have := congrArg ByteArray.toList h
 rwa [bOf_list, bOf_list] at this
theorem bKey_inj : ∀ i, i < 45 → ∀ j, j < 45 → bKey i = bKey j → i = j := by
 intro i hi j hj e
 have h1 := List.all_eq_true.1 (List.all_eq_true.1 bEnt_inj i (List.mem_range.2 hi)) j (List.mem_range.2 hj); simp only [decide_eq_true_eq] at h1; exact h1 (Prod.ext (bOf_inj (Prod.mk.inj e).1) (Prod.mk.inj e).2)
theorem insB_none {L : Array Bool} (h : ∀ j, j < 45 → L.getD (2 * j + 2) false = false) : insB L = fun _ => none := by
 funext f
 unfold insB
 rw [List.find?_eq_none.2 (fun j hj => by simp [h j (List.mem_range.1 hj)])]
 rfl
theorem insB_all {L : Array Bool} (h : ∀ j, j < 45 → L.getD (2 * j + 2) false = true) : insB L = buTab := by
 funext f
 unfold insB buTab
 congr 1
 have : ∀ l : List Nat, (∀ j ∈ l, j < 45) → (l.find? fun j => decide (bKey j = f) && L.getD (2 * j + 2) false) = l.find? fun j => decide (bKey j = f) := by
  intro l
  induction l with
  | nil => intro _; rfl
  | cons a r ih =>
    intro hl
    simp only [List.find?_cons, h a (hl a (by simp)), Bool.and_true, ih (fun j hj => hl j (by simp [hj]))]
 exact this _ fun j hj => List.mem_range.1 hj
theorem insB_same {L : Array Bool} {i : Nat} (hi : ∀ j, j < 45 → i ≠ 2 * j + 2) : insB (L.setIfInBounds i true) = insB L := by
 funext f
 unfold insB
 congr 1
 have : ∀ l : List Nat, (∀ j ∈ l, j < 45) → (l.find? fun j => decide (bKey j = f) && (L.setIfInBounds i true).getD (2 * j + 2) false) = l.find? fun j => decide (bKey j = f) && L.getD (2 * j + 2) false := by
  intro l
  induction l with
  | nil => intro _; rfl
  | cons a r ih =>
    intro hl
    simp only [List.find?_cons, getD_set_ne false (hi a (hl a (by simp))), ih (fun j hj => hl j (by simp [hj]))]
 exact this _ fun j hj => List.mem_range.1 hj
theorem insB_put {L : Array Bool} {j : Nat} (hj : j < 45) (hl : 2 * j + 2 < L.size) : insB (L.setIfInBounds (2 * j + 2) true) = fun f => if f = bKey j then some (bFn j) else insB L f := by
 funext f
 by_cases e : f = bKey j
 ·subst e
  rw [if_pos rfl]
  have : ((List.range 45).find? fun i => decide (bKey i = bKey j) && (L.setIfInBounds (2 * j + 2) true).getD (2 * i + 2) false) = some j := by
   rw [List.find?_eq_some_iff_getElem]; refine ⟨?_, j, by simpa using hj, by simp, fun i hi => ?_⟩
   ·simp [hl]
   ·have hne : bKey i ≠ bKey j := fun e => by have := bKey_inj i (by omega) j hj e; omega
    simp [hne]
  unfold insB
  rw [this]
  rfl
 ·rw [if_neg e]
  unfold insB
  congr 1
  have : ∀ l : List Nat, (l.find? fun i => decide (bKey i = f) && (L.setIfInBounds (2 * j + 2) true).getD (2 * i + 2) false) = l.find? fun i => decide (bKey i = f) && L.getD (2 * i + 2) false := by
   intro l
   induction l with
   | nil => rfl
   | cons a r ih =>
     simp only [List.find?_cons, ih]
     by_cases ha : a = j
     ·subst ha
      have : decide (bKey a = f) = false := by simpa using fun h => e h.symm
      simp [this]
     ·rw [getD_set_ne false (by omega)]
  exact this _
structure BInv (w0 : World) (L : Array Bool) (a : Act) (w : World) : Prop where
 lsz : L.size = 93
 tsz : a.tmps.size = 48
 dfs : a.defers = []
 bel : Below w0.heap.size w0 w
 key : ∀ j, j < 45 → L.getD (2 * j + 1) false = true → a.tmps[j + 2]? = some (bKeyV j)
 tab : if L.getD 0 false = true then ∃ b N, w0.heap.size ≤ b ∧ a.tmps[1]? = some (.map (some b)) ∧ N ≤ 92 ∧ N + unl L ≤ 92 ∧ BuIn w b N (insB L) else ∀ j, j < 45 → L.getD (2 * j + 2) false = false
 mov : L.getD 91 false = true → a.tmps[47]? = a.tmps[1]? ∧ L.getD 0 false = true ∧ ∀ j, j < 45 → L.getD (2 * j + 2) false = true
 fin : L.getD 92 false = true → a.tmps[0]? = a.tmps[47]? ∧ L.getD 91 false = true
theorem bop_build : ∀ j, j < 45 → ∃ o, bOps[2 * j + 1]? = some o ∧ o.guard = none ∧ o.dst = some (j + 2) ∧ o.op = .build 78 #[(0, .const (.string (bKey j).1)), (1, .const (.int .i64 (bKey j).2))]
 | 0, _ => ⟨_, rfl, rfl, rfl, rfl⟩
 | 1, _ => ⟨_, rfl, rfl, rfl, rfl⟩
 | 2, _ => ⟨_, rfl, rfl, rfl, rfl⟩
 | 3, _ => ⟨_, rfl, rfl, rfl, rfl⟩
 | 4, _ => ⟨_, rfl, rfl, rfl, rfl⟩
 | 5, _ => ⟨_, rfl, rfl, rfl, rfl⟩
 | 6, _ => ⟨_, rfl, rfl, rfl, rfl⟩
 | 7, _ => ⟨_, rfl, rfl, rfl, rfl⟩
 | 8, _ => ⟨_, rfl, rfl, rfl, rfl⟩
 | 9, _ => ⟨_, rfl, rfl, rfl, rfl⟩
 | 10, _ => ⟨_, rfl, rfl, rfl, rfl⟩
 | 11, _ => ⟨_, rfl, rfl, rfl, rfl⟩
 | 12, _ => ⟨_, rfl, rfl, rfl, rfl⟩
 | 13, _ => ⟨_, rfl, rfl, rfl, rfl⟩
 | 14, _ => ⟨_, rfl, rfl, rfl, rfl⟩
 | 15, _ => ⟨_, rfl, rfl, rfl, rfl⟩
 | 16, _ => ⟨_, rfl, rfl, rfl, rfl⟩
 | 17, _ => ⟨_, rfl, rfl, rfl, rfl⟩
 | 18, _ => ⟨_, rfl, rfl, rfl, rfl⟩
 | 19, _ => ⟨_, rfl, rfl, rfl, rfl⟩
 | 20, _ => ⟨_, rfl, rfl, rfl, rfl⟩
 | 21, _ => ⟨_, rfl, rfl, rfl, rfl⟩
 | 22, _ => ⟨_, rfl, rfl, rfl, rfl⟩
 | 23, _ => ⟨_, rfl, rfl, rfl, rfl⟩
 | 24, _ => ⟨_, rfl, rfl, rfl, rfl⟩
 | 25, _ => ⟨_, rfl, rfl, rfl, rfl⟩
 | 26, _ => ⟨_, rfl, rfl, rfl, rfl⟩
 | 27, _ => ⟨_, rfl, rfl, rfl, rfl⟩
 | 28, _ => ⟨_, rfl, rfl, rfl, rfl⟩
 | 29, _ => ⟨_, rfl, rfl, rfl, rfl⟩
 | 30, _ => ⟨_, rfl, rfl, rfl, rfl⟩
 | 31, _ => ⟨_, rfl, rfl, rfl, rfl⟩
 | 32, _ => ⟨_, rfl, rfl, rfl, rfl⟩
 | 33, _ => ⟨_, rfl, rfl, rfl, rfl⟩
 | 34, _ => ⟨_, rfl, rfl, rfl, rfl⟩
 | 35, _ => ⟨_, rfl, rfl, rfl, rfl⟩
 | 36, _ => ⟨_, rfl, rfl, rfl, rfl⟩
 | 37, _ => ⟨_, rfl, rfl, rfl, rfl⟩
 | 38, _ => ⟨_, rfl, rfl, rfl, rfl⟩
 | 39, _ => ⟨_, rfl, rfl, rfl, rfl⟩
 | 40, _ => ⟨_, rfl, rfl, rfl, rfl⟩
 | 41, _ => ⟨_, rfl, rfl, rfl, rfl⟩
 | 42, _ => ⟨_, rfl, rfl, rfl, rfl⟩
 | 43, _ => ⟨_, rfl, rfl, rfl, rfl⟩
 | 44, _ => ⟨_, rfl, rfl, rfl, rfl⟩
 | j + 45, h => by omega
theorem bop_put : ∀ j, j < 45 → ∃ o, bOps[2 * j + 2]? = some o ∧ o.guard = none ∧ o.dst = none ∧ o.op = .insert 75 (.tmp 1) (.tmp (j + 2)) (.func (bFn j)) ∧ ([0, 2 * j + 1].all fun i => o.after.toList.any fun e => (e.on == i) && Region.binds .any e) = true
 | 0, _ => ⟨_, rfl, rfl, rfl, rfl, by kernel_rfl⟩
 | 1, _ => ⟨_, rfl, rfl, rfl, rfl, by kernel_rfl⟩
 | 2, _ => ⟨_, rfl, rfl, rfl, rfl, by kernel_rfl⟩
 | 3, _ => ⟨_, rfl, rfl, rfl, rfl, by kernel_rfl⟩
 | 4, _ => ⟨_, rfl, rfl, rfl, rfl, by kernel_rfl⟩
 | 5, _ => ⟨_, rfl, rfl, rfl, rfl, by kernel_rfl⟩
 | 6, _ => ⟨_, rfl, rfl, rfl, rfl, by kernel_rfl⟩
 | 7, _ => ⟨_, rfl, rfl, rfl, rfl, by kernel_rfl⟩
 | 8, _ => ⟨_, rfl, rfl, rfl, rfl, by kernel_rfl⟩
 | 9, _ => ⟨_, rfl, rfl, rfl, rfl, by kernel_rfl⟩
 | 10, _ => ⟨_, rfl, rfl, rfl, rfl, by kernel_rfl⟩
 | 11, _ => ⟨_, rfl, rfl, rfl, rfl, by kernel_rfl⟩
 | 12, _ => ⟨_, rfl, rfl, rfl, rfl, by kernel_rfl⟩
 | 13, _ => ⟨_, rfl, rfl, rfl, rfl, by kernel_rfl⟩
 | 14, _ => ⟨_, rfl, rfl, rfl, rfl, by kernel_rfl⟩
 | 15, _ => ⟨_, rfl, rfl, rfl, rfl, by kernel_rfl⟩
 | 16, _ => ⟨_, rfl, rfl, rfl, rfl, by kernel_rfl⟩
 | 17, _ => ⟨_, rfl, rfl, rfl, rfl, by kernel_rfl⟩
 | 18, _ => ⟨_, rfl, rfl, rfl, rfl, by kernel_rfl⟩
 | 19, _ => ⟨_, rfl, rfl, rfl, rfl, by kernel_rfl⟩
 | 20, _ => ⟨_, rfl, rfl, rfl, rfl, by kernel_rfl⟩
 | 21, _ => ⟨_, rfl, rfl, rfl, rfl, by kernel_rfl⟩
 | 22, _ => ⟨_, rfl, rfl, rfl, rfl, by kernel_rfl⟩
 | 23, _ => ⟨_, rfl, rfl, rfl, rfl, by kernel_rfl⟩
 | 24, _ => ⟨_, rfl, rfl, rfl, rfl, by kernel_rfl⟩
 | 25, _ => ⟨_, rfl, rfl, rfl, rfl, by kernel_rfl⟩
 | 26, _ => ⟨_, rfl, rfl, rfl, rfl, by kernel_rfl⟩
 | 27, _ => ⟨_, rfl, rfl, rfl, rfl, by kernel_rfl⟩
 | 28, _ => ⟨_, rfl, rfl, rfl, rfl, by kernel_rfl⟩
 | 29, _ => ⟨_, rfl, rfl, rfl, rfl, by kernel_rfl⟩
 | 30, _ => ⟨_, rfl, rfl, rfl, rfl, by kernel_rfl⟩
 | 31, _ => ⟨_, rfl, rfl, rfl, rfl, by kernel_rfl⟩
 | 32, _ => ⟨_, rfl, rfl, rfl, rfl, by kernel_rfl⟩
 | 33, _ => ⟨_, rfl, rfl, rfl, rfl, by kernel_rfl⟩
 | 34, _ => ⟨_, rfl, rfl, rfl, rfl, by kernel_rfl⟩
 | 35, _ => ⟨_, rfl, rfl, rfl, rfl, by kernel_rfl⟩
 | 36, _ => ⟨_, rfl, rfl, rfl, rfl, by kernel_rfl⟩
 | 37, _ => ⟨_, rfl, rfl, rfl, rfl, by kernel_rfl⟩
 | 38, _ => ⟨_, rfl, rfl, rfl, rfl, by kernel_rfl⟩
 | 39, _ => ⟨_, rfl, rfl, rfl, rfl, by kernel_rfl⟩
 | 40, _ => ⟨_, rfl, rfl, rfl, rfl, by kernel_rfl⟩
 | 41, _ => ⟨_, rfl, rfl, rfl, rfl, by kernel_rfl⟩
 | 42, _ => ⟨_, rfl, rfl, rfl, rfl, by kernel_rfl⟩
 | 43, _ => ⟨_, rfl, rfl, rfl, rfl, by kernel_rfl⟩
 | 44, _ => ⟨_, rfl, rfl, rfl, rfl, by kernel_rfl⟩
 | j + 45, h => by omega
theorem bop_last : ∃ o, bOps[92]? = some o ∧ o.guard = none ∧ o.dst = some 0 ∧ o.op = .assign (.tmp 47) ∧ ((List.range 92).all fun i => o.after.toList.any fun e => (e.on == i) && Region.binds .any e) = true := ⟨_, rfl, rfl, rfl, rfl, by kernel_rfl⟩
theorem bop_move : ∃ o, bOps[91]? = some o ∧ o.guard = none ∧ o.dst = some 47 ∧ o.op = .move (.tmp 1) ∧ ((List.range 91).all fun i => o.after.toList.any fun e => (e.on == i) && Region.binds .any e) = true := ⟨_, rfl, rfl, rfl, rfl, by kernel_rfl⟩
theorem bop_map : ∃ o, bOps[0]? = some o ∧ o.guard = none ∧ o.dst = some 1 ∧ o.op = .makeMap 75 none := ⟨_, rfl, rfl, rfl, rfl⟩
theorem bsize_ops : bOps.size = 93 := rfl
theorem bback_only : ((List.range 93).all fun i => (bOps[i]?).all fun o => o.after.toList.all fun e => decide (e.on < i)) = true := by kernel_rfl
theorem bEnt_small : ((List.range 45).all fun j => decide ((bEnt j).1.length ≤ 100 ∧ 0 ≤ (bEnt j).2 ∧ (bEnt j).2 ≤ 3)) = true := by decide
theorem bKey_ok (j : Nat) (hj : j < 45) : okN (bKey j) := by
 have h6 := List.all_eq_true.1 bEnt_small j (List.mem_range.2 hj); simp only [decide_eq_true_eq] at h6; refine ⟨?_, WalkArith.wf_i64 ?_⟩
 ·show (bOf (bEnt j).1).size ≤ _
  rw [bOf_size]; omega
 ·show _ ≤ (bEnt j).2 ∧ (bEnt j).2 ≤ _
  omega
set_option maxHeartbeats 4000000 in
theorem bnew_step {Q : Exit → Act → World → Prop} (w0 : World) (L : Array Bool) (a : Act) (w : World) (I : BInv w0 L a w) (i : Nat) (hi : i ∈ Region.ready .any bOps L) : wpOp Tryz.prog bOps Q i (fun a' w' => BInv w0 (L.setIfInBounds i true) a' w') a w := by
 obtain ⟨hn, o, ho, haft⟩ := mem_ready.1 hi
 have hi93 : i < 93 := by
  rw [← bsize_ops]; exact (Array.getElem?_eq_some_iff.1 ho).1
 have hLs : L.size = 93 := I.lsz; have hnf : L.getD i false = false := getD_false hn; have hu := unl_set hn
 have hcase : i = 0 ∨ i = 91 ∨ i = 92 ∨ (i % 2 = 1 ∧ i / 2 < 45) ∨ (i % 2 = 0 ∧ 2 ≤ i ∧ i ≤ 90) := by omega
 rcases hcase with h | h | h | ⟨h, h2⟩ | ⟨h, h2⟩
 ·subst h
  obtain ⟨o', ho', hg, hd, hop⟩ := bop_map; obtain rfl := Option.some.inj (ho.symm.trans ho'); have ht := I.tab; rw [if_neg (by rw [hnf]; decide)] at ht; refine op_value (v := .map (some w.heap.size)) (w' := w.alloc (.map #[] 0)) ho hg (by simp [execOp, hop, go_sem, run_makeMap, Result.andThen]) ?_; rw [hd]; refine ⟨by simpa using hLs, by rw [put_size]; exact I.tsz, by rw [put_defs]; exact I.dfs, I.bel.alloc I.bel.size _, fun j hj h => ?_, ?_, fun h => ?_, fun h => ?_⟩
  ·rw [put_other (by omega)]; exact I.key j hj (set_at h (by omega))
  ·rw [if_pos (set_self (by omega))]
   refine ⟨w.heap.size, 0, I.bel.size, put_same (by rw [I.tsz]; decide), by omega, ?_, ?_⟩
   ·have := unl_le L; omega
   ·rw [insB_same (fun j _ => by omega), insB_none ht]; exact BuIn.made w
  ·have := (I.mov (set_at h (by decide))).2.1
   rw [hnf] at this; cases this
  ·have := (I.mov (I.fin (set_at h (by decide))).2).2.1
   rw [hnf] at this; cases this
 ·subst h
  obtain ⟨o', ho', hg, hd, hop, hall⟩ := bop_move; obtain rfl := Option.some.inj (ho.symm.trans ho')
  have hdep : ∀ p, p < 91 → L.getD p false = true := fun p hp => dep_of (List.all_eq_true.1 hall p (List.mem_range.2 hp)) haft
  have ht := I.tab; rw [if_pos (hdep 0 (by decide))] at ht; obtain ⟨b, N, h1, h2, h3, h4, h5⟩ := ht; refine op_value (v := .map (some b)) (w' := w) ho hg (by simp [execOp, hop, go_sem, Act.eval, h2]) ?_; rw [hd]; refine ⟨by simpa using hLs, by rw [put_size]; exact I.tsz, by rw [put_defs]; exact I.dfs, I.bel, fun j hj h => ?_, ?_, fun h => ?_, fun h => ?_⟩
  ·rw [put_other (by omega)]; exact I.key j hj (set_at h (by omega))
  ·rw [if_pos (by rw [getD_set_ne false (by decide)]; exact hdep 0 (by decide))]
   exact ⟨b, N, h1, by rw [put_other (by decide)]; exact h2, h3, by omega, by rw [insB_same (fun j _ => by omega)]; exact h5⟩
  ·refine ⟨by rw [put_same (by rw [I.tsz]; decide), put_other (by decide), h2], by rw [getD_set_ne false (by decide)]; exact hdep 0 (by decide), fun j hj => ?_⟩
   rw [getD_set_ne false (by omega)]; exact hdep _ (by omega)
  ·have := (I.fin (set_at h (by decide))).2
   rw [hnf] at this
   cases this
 ·subst h
  obtain ⟨o', ho', hg, hd, hop, hall⟩ := bop_last; obtain rfl := Option.some.inj (ho.symm.trans ho')
  have hdep : ∀ p, p < 92 → L.getD p false = true := fun p hp => dep_of (List.all_eq_true.1 hall p (List.mem_range.2 hp)) haft
  have ht := I.tab; rw [if_pos (hdep 0 (by decide))] at ht; obtain ⟨b, N, h1, h2, h3, h4, h5⟩ := ht; have hm := I.mov (hdep 91 (by decide)); have h47 : a.tmps[47]? = some (.map (some b)) := hm.1.trans h2; refine op_value (v := .map (some b)) (w' := w) ho hg (by simp [execOp, hop, go_sem, Act.eval, h47]) ?_; rw [hd]; refine ⟨by simpa using hLs, by rw [put_size]; exact I.tsz, by rw [put_defs]; exact I.dfs, I.bel, fun j hj h => ?_, ?_, fun h => ?_, fun h => ?_⟩
  ·rw [put_other (by omega)]; exact I.key j hj (set_at h (by omega))
  ·rw [if_pos (by rw [getD_set_ne false (by decide)]; exact hdep 0 (by decide))]
   exact ⟨b, N, h1, by rw [put_other (by decide)]; exact h2, h3, by omega, by rw [insB_same (fun j _ => by omega)]; exact h5⟩
  ·exact ⟨by rw [put_other (by decide), put_other (by decide)]; exact hm.1, by rw [getD_set_ne false (by decide)]; exact hm.2.1, fun j hj => by rw [getD_set_ne false (by omega)]; exact hm.2.2 j hj⟩
  ·exact ⟨by rw [put_same (by rw [I.tsz]; decide), put_other (by decide), h47], by rw [getD_set_ne false (by decide)]; exact hdep 91 (by decide)⟩
 ·obtain ⟨j, hj, rfl⟩ : ∃ j, j < 45 ∧ i = 2 * j + 1 := ⟨i / 2, h2, by omega⟩
  obtain ⟨o', ho', hg, hd, hop⟩ := bop_build j hj; obtain rfl := Option.some.inj (ho.symm.trans ho'); refine op_value (v := bKeyV j) (w' := w) ho hg (by simp [execOp, hop, go_sem, Act.eval, bKeyV]) ?_; rw [hd]; refine ⟨by simpa using hLs, by rw [put_size]; exact I.tsz, by rw [put_defs]; exact I.dfs, I.bel, fun j' hj' h => ?_, ?_, fun h => ?_, fun h => ?_⟩
  ·by_cases e : j' = j
   ·subst e; exact put_same (by rw [I.tsz]; omega)
   ·rw [put_other (by omega)]; exact I.key j' hj' (set_at h (by omega))
  ·have ht := I.tab
   by_cases hz : L.getD 0 false = true
   ·rw [if_pos hz] at ht
    obtain ⟨b, N, h1, h2, h3, h4, h5⟩ := ht; rw [if_pos (by rw [getD_set_ne false (by omega)]; exact hz)]; exact ⟨b, N, h1, by rw [put_other (by omega)]; exact h2, h3, by omega, by rw [insB_same (fun j _ => by omega)]; exact h5⟩
   ·rw [if_neg hz] at ht
    rw [if_neg (by rw [getD_set_ne false (by omega)]; exact hz)]
    exact fun j' hj' => by rw [getD_set_ne false (by omega)]; exact ht j' hj'
  ·have hm := I.mov (set_at h (by omega))
   exact ⟨by rw [put_other (by omega), put_other (by omega)]; exact hm.1, by rw [getD_set_ne false (by omega)]; exact hm.2.1, fun j' hj' => by rw [getD_set_ne false (by omega)]; exact hm.2.2 j' hj'⟩
  ·have hm := I.fin (set_at h (by omega))
   exact ⟨by rw [put_other (by omega), put_other (by omega)]; exact hm.1, by rw [getD_set_ne false (by omega)]; exact hm.2⟩
 ·obtain ⟨j, hj, rfl⟩ : ∃ j, j < 45 ∧ i = 2 * j + 2 := ⟨i / 2 - 1, by omega, by omega⟩
  obtain ⟨o', ho', hg, hd, hop, hall⟩ := bop_put j hj; obtain rfl := Option.some.inj (ho.symm.trans ho')
  have hdep : ∀ p, p ∈ [0, 2 * j + 1] → L.getD p false = true := fun p hp => dep_of (List.all_eq_true.1 hall p hp) haft
  have ht := I.tab; rw [if_pos (hdep 0 (by simp))] at ht; obtain ⟨b, N, h1, h2, h3, h4, h5⟩ := ht; have hk := I.key j hj (hdep _ (by simp)); obtain ⟨w', hrun, hT', hgr⟩ := h5.put (by omega) (bKey j) (bKey_ok j hj) (bFn j); have hb : Below w0.heap.size w0 w' := I.bel.trans ((Below.refl _ _).grown hgr I.bel.size (fun k e => by cases e; exact h1))
  unfold wpOp
  simp only [ho, Region.wanted, hg, if_true]
  left
  unfold Oper.wp
  have hfv : a.eval (.func (bFn j)) = .func (.func (bFn j)) #[] #[] := rfl
  simp [execOp, hop, eval_tmp h2, eval_tmp hk, hfv, bKeyV, hrun, Result.andThen, Oper.upon]
  rw [hd]; refine ⟨by simpa using hLs, by rw [put_size]; exact I.tsz, by rw [put_defs]; exact I.dfs, hb, fun j' hj' h => ?_, ?_, fun h => ?_, fun h => ?_⟩
  ·exact I.key j' hj' (set_at h (by omega))
  ·rw [if_pos (by rw [getD_set_ne false (by omega)]; exact hdep 0 (by simp))]
   exact ⟨b, N + 1, h1, h2, by omega, by omega, by rw [insB_put hj (by omega)]; exact hT'⟩
  ·have := (I.mov (set_at h (by omega))).2.2 j hj
   rw [hnf] at this
   cases this
  ·have := (I.mov (I.fin (set_at h (by omega))).2).2.2 j hj
   rw [hnf] at this
   cases this
theorem bnew_end {w0 : World} {L : Array Bool} {a : Act} {w : World} (I : BInv w0 L a w) (hr : Region.ready .any bOps L = []) : ∃ b, a.tmps[0]? = some (.map (some b)) ∧ a.tmps.size = 48 ∧ a.defers = [] ∧ BuIn w b 92 buTab ∧ Below w0.heap.size w0 w := by
 have hall : ∀ n, n ≤ 93 → ∀ i, i < n → L.getD i true = true := by
  intro n
  induction n with
  | zero => intro _ i hi; omega
  | succ n ih =>
    intro hn i hi
    by_cases e : i = n
    ·subst e
     cases hl : L.getD i true with
     | true => rfl
     | false =>
       exfalso
       obtain ⟨o, ho⟩ : ∃ o, bOps[i]? = some o := ⟨_, Array.getElem?_eq_getElem (by rw [bsize_ops]; omega)⟩
       have hb := List.all_eq_true.1 bback_only i (List.mem_range.2 (by omega)); rw [ho] at hb; simp only [Option.all_some, List.all_eq_true, decide_eq_true_eq] at hb
       have : i ∈ Region.ready .any bOps L := mem_ready.2 ⟨hl, o, ho, fun e he _ => by
        have h1 := ih (by omega) e.on (hb e (by simpa using he))
        have hlt : e.on < L.size := by have := hb e (by simpa using he); rw [I.lsz]; omega
        simp only [Array.getD_eq_getD_getElem?, Array.getElem?_eq_getElem hlt, Option.getD_some] at h1 ⊢
        exact h1⟩
       rw [hr] at this
       cases this
    ·exact ih (by omega) i (by omega)
 have h92 : L.getD 92 false = true := by
  have h1 := hall 93 (Nat.le_refl _) 92 (by decide)
  have hlt : 92 < L.size := by rw [I.lsz]; decide
  simp only [Array.getD_eq_getD_getElem?, Array.getElem?_eq_getElem hlt, Option.getD_some] at h1 ⊢; exact h1
 obtain ⟨e0, h91⟩ := I.fin h92; obtain ⟨e1, e2, e3⟩ := I.mov h91; have ht := I.tab; rw [if_pos e2] at ht; obtain ⟨b, N, h1, h2, h3, h4, h5⟩ := ht; rw [insB_all e3] at h5; obtain ⟨D, hown, hD⟩ := h5; exact ⟨b, by rw [e0, e1, h2], I.tsz, I.dfs, ⟨D, hown.mono h3, hD⟩, I.bel⟩
set_option maxHeartbeats 1000000 in
theorem newBuiltins_any (w : World) : Calls Tryz.prog 32 #[] w fun e w' => ∃ b, e = .returned (.map (some b)) ∧ BuIn w' b 92 buTab ∧ Below w.heap.size w w' := by
 go_enter Tryz.func32, Tryz.ntmps32
 go_wp2_with fail; refine wp_region_any (ops := bOps) (by kernel_rfl) ?_; refine wpAny_inv (BInv w) (fun L a w' I i hi => bnew_step w L a w' I i hi) (fun L a w' I hr => ?_) _ _ _ _ ?_ (by have := unl_le (Array.replicate bOps.size false); simpa using this)
 ·obtain ⟨b, h0, hs, hd, hT, hB⟩ := bnew_end I hr
  refine ‹∀ (a : Act) (w : World), Code.wp _ Code.ret _ a w → _› _ _ ?_; refine wp_ret ?_; exact bodyPost_ret (v := .map (some b)) (by simp [results, Tryz.results32, h0]) hd ⟨b, rfl, hT, hB⟩
 ·have hz : ∀ k, (Array.replicate bOps.size false).getD k false = false := fun k => by
   simp only [Array.getD_eq_getD_getElem?, Array.getElem?_replicate]
   split <;> rfl
  refine ⟨by simp [bsize_ops], rfl, rfl, ⟨rfl, rfl, rfl, Nat.le_refl _, fun _ _ => rfl⟩, fun j hj h => ?_, ?_, fun h => ?_, fun h => ?_⟩
  ·rw [hz] at h; cases h
  ·rw [if_neg (by rw [hz]; decide)]
   exact fun j _ => hz _
  ·rw [hz] at h; cases h
  ·rw [hz] at h; cases h
end
section
open Go Go.RowKit
def OAt (w : World) (b o : Nat) (c : Cel) : Prop :=
 ∃ p cap, w.cell? ⟨b, o + 1, none⟩ = some (.int .i64 c.1) ∧ w.cell? ⟨b, o + 2, none⟩ = some (.int .i64 c.2.1) ∧ w.cell? ⟨b, o, none⟩ = some (.slice p c.2.2.length cap) ∧ BIn w p c.2.2
def OIn (w : World) (p : Option Addr) (cs : List Cel) : Prop :=
 0 < cs.length → ∃ b o, p = some ⟨b, o, none⟩ ∧ ∀ i, i < cs.length → OAt w b (o + i * 3) (cs.getD i Cel.none)
theorem OAt.below {W W' : World} {b o : Nat} {c : Cel} (h : OAt W b o c) (hb : Below W.heap.size W W') : OAt W' b o c := by
 obtain ⟨p, cap, h0, h1, h2, h3⟩ := h; exact ⟨p, cap, (hb.cell (World.block_lt_of_cell? _ _ h0)).trans h0, (hb.cell (World.block_lt_of_cell? _ _ h1)).trans h1, (hb.cell (World.block_lt_of_cell? _ _ h2)).trans h2, h3.below hb⟩
theorem OIn.below {W W' : World} {p : Option Addr} {cs : List Cel} (h : OIn W p cs) (hb : Below W.heap.size W W') : OIn W' p cs := fun hn => by
 obtain ⟨b, o, rfl, hc⟩ := h hn; exact ⟨b, o, rfl, fun i hi => (hc i hi).below hb⟩
theorem OIn.drewN {W : World} {p : Option Addr} {cs : List Cel} (h : OIn W p cs) (m : Nat) : OIn (W.drewN m) p cs := h
theorem infoOp : (Tryz.prog.info? 120).map (fun i => (i.zero, i.size, i.bytes)) = some (some (.agg #[.slice none 0 0, .int .i64 0, .int .i64 0]), 3, 40) := by kernel_rfl
def roV (r : RC) : List Value := [.slice r.2.2.1 r.2.2.2.1 r.2.2.2.2, .int .i64 r.1, .int .i64 r.2.1]
def flatO (rs : List RC) : List Value := rs.flatMap roV
theorem flatO_cons (r : RC) (rs : List RC) : flatO (r :: rs) = .slice r.2.2.1 r.2.2.2.1 r.2.2.2.2 :: .int .i64 r.1 :: .int .i64 r.2.1 :: flatO rs := rfl
theorem flatO_append (a b : List RC) : flatO (a ++ b) = flatO a ++ flatO b := List.flatMap_append
theorem flatO_len : ∀ rs : List RC, (flatO rs).length = rs.length * 3
 | [] => rfl
 | r :: rs => by simp only [flatO_cons, List.length_cons, flatO_len rs]; omega
theorem flatO_at : ∀ (rs : List RC) (i : Nat), i < rs.length → (flatO rs)[i * 3 + 1]? = some (.int .i64 (rs.getD i RC.zero).1) ∧ (flatO rs)[i * 3 + 2]? = some (.int .i64 (rs.getD i RC.zero).2.1) ∧
  (flatO rs)[i * 3]? = some (.slice (rs.getD i RC.zero).2.2.1 (rs.getD i RC.zero).2.2.2.1 (rs.getD i RC.zero).2.2.2.2)
 | [], i, h => by simp at h
 | r :: rs, 0, _ => by simp [flatO_cons]
 | r :: rs, i + 1, h => by
   have := flatO_at rs i (by simpa using h); rw [flatO_cons, show (i + 1) * 3 = (i * 3) + 1 + 1 + 1 by omega, show (i * 3) + 1 + 1 + 1 + 1 = (i * 3 + 1) + 1 + 1 + 1 by omega, show (i * 3) + 1 + 1 + 1 + 2 = (i * 3 + 2) + 1 + 1 + 1 by omega]
   simpa using this
def OwnO (w : World) (B : Nat) (p : Option Addr) (n c : Nat) (cs : List Cel) : Prop :=
 n = cs.length ∧ ∃ rs : List RC, rs.length = cs.length ∧ w.ownsRow B 120 3 (.slice p n c) n (flatO rs) ∧ (∀ i, i < cs.length → Fits w B (rs.getD i RC.zero) (cs.getD i Cel.none)) ∧ ApartC p rs
theorem OwnO.nil (w : World) (B : Nat) : OwnO w B none 0 0 [] := ⟨rfl, [], rfl, World.ownsRow_nil _ _ _ _, fun i h => by simp at h, fun i h => by simp at h, fun i j h => by simp at h⟩
theorem OwnO.oin {w : World} {B : Nat} {p : Option Addr} {n c : Nat} {cs : List Cel} (h : OwnO w B p n c cs) : OIn w p cs := fun hn => by
 obtain ⟨rfl, rs, hl, hr, hf, _⟩ := h; obtain ⟨g, cap, hv, hb, hg⟩ := hr.form hn; simp only [Value.slice.injEq, true_and] at hv; obtain ⟨rfl, rfl⟩ := hv; refine ⟨g, 0, rfl, fun i hi => ?_⟩; obtain ⟨f0, f1, f2⟩ := hf i hi; obtain ⟨a0, a1, a2⟩ := flatO_at rs i (by omega); rw [Nat.zero_add]; refine ⟨(rs.getD i RC.zero).2.2.1, (rs.getD i RC.zero).2.2.2.2, ?_, ?_, ?_, f2.bin⟩
 ·rw [hr.cellAt _ (by omega), a0, f0]
 ·rw [hr.cellAt _ (by omega), a1, f1]
 ·rw [hr.cellAt _ (by omega), a2, f2.len]
theorem OwnO.below {w w' : World} {B : Nat} {p : Option Addr} {n c : Nat} {cs : List Cel} (h : OwnO w B p n c cs) (hb : Below w.heap.size w w') : OwnO w' B p n c cs := by
 obtain ⟨rfl, rs, hl, hr, hf, ha⟩ := h; refine ⟨rfl, rs, hl, ⟨hr.1, ?_⟩, fun i hi => ⟨(hf i hi).1, (hf i hi).2.1, (hf i hi).2.2.below hb⟩, ha⟩
 rcases hr.2 with h' | ⟨g, cap, cur, hv, hB, hg, r⟩
 ·exact .inl h'
 ·exact .inr ⟨g, cap, cur, hv, hB, (hb.block g (Array.getElem?_eq_some_iff.1 hg).1).trans hg, r⟩
theorem OwnO.mono {w : World} {B B' : Nat} {p : Option Addr} {n c : Nat} {cs : List Cel} (h : OwnO w B p n c cs) (hB : B' ≤ B) : OwnO w B' p n c cs := by
 obtain ⟨hn, rs, hl, hr, hf, ha⟩ := h; exact ⟨hn, rs, hl, ownsRow_down hr hB, fun i hi => ⟨(hf i hi).1, (hf i hi).2.1, (hf i hi).2.2.mono hB⟩, ha⟩
def resB (s : ByteArray) : Bool := s.toList == [91, 93] || s.toList == [123, 125] || s.toList == [124]
def preB (t : Int) : Bool := t == 3 || t == 4
def srt (t : Int) : Int := if preB t then 0 else 1
theorem isReserved_any (s : ByteArray) (w : World) : Calls Tryz.prog 169 #[.string s] w fun e w' => e = .returned (.bool (resB s)) ∧ w' = w := by
 cases h1 : (s.toList == [91, 93]) <;> cases h2 : (s.toList == [123, 125]) <;> cases h3 : (s.toList == [124])
 all_goals
  have HF : Hid (∀ b, b = resB s → Ending.returned (.bool b) = .returned (.bool (resB s))) := fun b h => ret_bool h
  have HR : Hid (resB s = (s.toList == [91, 93] || s.toList == [123, 125] || s.toList == [124])) := rfl; rw [h1, h2, h3] at HR
  go_enter Tryz.func169, Tryz.ntmps169
  go_wp2_with fail; go_ret; exact ⟨HF.out _ HR.out.symm, rfl⟩
theorem sortOf_any (t : Int) (w : World) : Calls Tryz.prog 125 #[.int .i64 t] w fun e w' => e = .returned (.int .i64 (srt t)) ∧ w' = w := by
 have HR : Hid (srt t = if (t == 3 || t == 4) then 0 else 1) := rfl
 cases h1 : (t == 3) <;> cases h2 : (t == 4)
 all_goals
  rw [h1, h2] at HR
  have HF : Hid (∀ b, b = srt t → Ending.returned (.int .i64 b) = .returned (.int .i64 (srt t))) := fun b h => ret_int h
  go_enter Tryz.func125, Tryz.ntmps125
  go_wp2_with fail; go_ret; exact ⟨HF.out _ HR.out.symm, rfl⟩
theorem isOpName_any (p : Option Addr) (m cap : Nat) (w : World) (hm : m ≤ 1000000000) : Calls Tryz.prog 167 #[.slice p m cap] w fun e w' => e = .returned (.bool (decide (1 ≤ m ∧ m ≤ 100))) ∧ w' = w := by
 by_cases h1 : 1 ≤ m
 ·by_cases h2 : m ≤ 100
  ·have e : decide (1 ≤ m ∧ m ≤ 100) = true := by simp [h1, h2]
   have h2' : decide ((m : Int) ≤ 100) = true := by simp; omega
   rw [e]; clear e
   go_enter Tryz.func167, Tryz.ntmps167
   go_wp2_with fail; go_ret; exact ⟨rfl, rfl⟩
  ·have e : decide (1 ≤ m ∧ m ≤ 100) = false := by simp; omega
   have h2' : decide ((m : Int) ≤ 100) = false := by simp; omega
   rw [e]; clear e
   go_enter Tryz.func167, Tryz.ntmps167
   go_wp2_with fail; go_ret; exact ⟨rfl, rfl⟩
 ·have e : decide (1 ≤ m ∧ m ≤ 100) = false := by simp; omega
  rw [e]; clear e
  go_enter Tryz.func167, Tryz.ntmps167
  go_wp2_with fail; go_ret; exact ⟨rfl, rfl⟩
theorem isOpType_any (t : Int) (w : World) : Calls Tryz.prog 168 #[.int .i64 t] w fun e w' => e = .returned (.bool (decide (0 ≤ t ∧ t ≤ 6))) ∧ w' = w := by
 by_cases h1 : 0 ≤ t
 ·by_cases h2 : t ≤ 6
  ·have e : decide (0 ≤ t ∧ t ≤ 6) = true := by simp [h1, h2]
   rw [e]; clear e
   go_enter Tryz.func168, Tryz.ntmps168
   go_wp2_with fail; go_ret; exact ⟨rfl, rfl⟩
  ·have e : decide (0 ≤ t ∧ t ≤ 6) = false := by simp; omega
   rw [e]; clear e
   go_enter Tryz.func168, Tryz.ntmps168
   go_wp2_with fail; go_ret; exact ⟨rfl, rfl⟩
 ·have e : decide (0 ≤ t ∧ t ≤ 6) = false := by simp; omega
  rw [e]; clear e
  go_enter Tryz.func168, Tryz.ntmps168
  go_wp2_with fail; go_ret; exact ⟨rfl, rfl⟩
theorem isNaNo_any (x : Int) (w : World) : Calls Tryz.prog 197 #[.int .i64 x] w fun e w' => e = .returned (.bool false) ∧ w' = w := by
 go_enter Tryz.func197, Tryz.ntmps197
 go_wp2_with fail; go_ret; exact ⟨rfl, rfl⟩
theorem compareO_any (x y : Int) (w : World) : Calls Tryz.prog 129 #[.int .i64 x, .int .i64 y] w fun e w' => e = .returned (.int .i64 (cmpI x y)) ∧ w' = w := by
 have H1 := isNaNo_any x w; have H2 := isNaNo_any y w
 have FIN : Hid (∀ c, c = cmpI x y → Ending.returned (.int .i64 c) = .returned (.int .i64 (cmpI x y))) := fun c h => ret_int h
 by_cases h1 : x < y
 rotate_right
 case' _ =>
  by_cases h2 : y < x
  rotate_right
  case' _ =>
   have HF : Hid _ := FIN.out 0 (by rw [cmpI, if_neg h1, if_neg h2])
  rotate_right
  case' _ =>
   have HF : Hid _ := FIN.out 1 (by rw [cmpI, if_neg h1, if_pos h2])
 rotate_right
 case' _ =>
  have HF : Hid _ := FIN.out (-1) (by rw [cmpI, if_pos h1])
 all_goals
  go_enter Tryz.func129, Tryz.ntmps129
  go_wp2_with fail; refine H1.mono ?_; rintro e w1 ⟨rfl, rfl⟩; go_wp2_with fail; refine H2.mono ?_; rintro e w1 ⟨rfl, rfl⟩; go_wp2_with fail; go_ret; exact ⟨HF.out, rfl⟩
theorem compareBytes_eq : ∀ l m : List UInt8, Lib.compareBytes l m = if Op.bytesLess l m then -1 else if l == m then 0 else 1
 | [], [] => by simp [Lib.compareBytes, Op.bytesLess]
 | [], _ :: _ => by simp [Lib.compareBytes, Op.bytesLess]
 | _ :: _, [] => by simp [Lib.compareBytes, Op.bytesLess]
 | a :: x, b :: y => by
   have ih := compareBytes_eq x y; simp only [Lib.compareBytes, Op.bytesLess, ih]
   by_cases h1 : a < b
   ·simp [h1]
   ·by_cases h2 : b < a
    ·have hne : ¬ a = b := fun e => by subst e; exact h1 h2
     simp [h1, h2, hne]
    ·have e : a = b := by rw [u8_lt] at h1 h2; rw [u8_eq]; omega
     subst e
     simp
theorem run_bytesOf {w : World} {p : Option Addr} {xs : List Int} (h : BIn w p xs) (m cap : Nat) (hm : m = xs.length) : (Extern.Bytes.bytesOf (.slice p m cap)).run Tryz.prog w = .ok (strOfNums xs) w := by
 subst hm
 by_cases hn : 0 < xs.length
 ·obtain ⟨b, o, rfl, hc⟩ := h hn
  have hl := Lib.run_loadBytesX (P := Tryz.prog) w xs ⟨b, o, none⟩ .empty (fun j x hj => by
   have hjl : j < xs.length := (List.getElem?_eq_some_iff.1 hj).1
   have e : (⟨b, o, none⟩ : Addr).add j = ⟨b, o + j, none⟩ := by unfold Addr.add; split <;> simp_all
   rw [e, hc j hjl, List.getD_eq_getElem?_getD, hj]
   rfl)
  simp only [Extern.Bytes.bytesOf]; rw [hl]
  congr 1
  apply ByteArray.ext
  show (#[] : Array UInt8) ++ (Lib.bytesOf xs).toArray = (strOfNums xs).data
  simp [Lib.bytesOf, strOfNums]
 ·obtain rfl : xs = [] := by cases xs with | nil => rfl | cons a r => simp at hn
  cases p with
  | none => simp [Extern.Bytes.bytesOf]; rfl
  | some a => simp [Extern.Bytes.bytesOf, Extern.Bytes.loadBytes]; rfl
theorem run_compareS {w : World} {p q : Option Addr} {xs ys : List Int} (hx : BIn w p xs) (hy : BIn w q ys) (m n c1 c2 : Nat) (hm : m = xs.length) (hn : n = ys.length) :
  (Extern.BytealgCompare.compare #[.slice p m c1, .slice q n c2]).run Tryz.prog w = .ok (.int .i64 (cmpS (strOfNums xs) (strOfNums ys))) w := by
 change Sem.run Tryz.prog (do pure (goInt (Extern.BytealgCompare.cmp (← Extern.Bytes.bytesOf (.slice p m c1)) (← Extern.Bytes.bytesOf (.slice q n c2))))) w = _
 simp only [Sem.run_bind, run_bytesOf hx m c1 hm, run_bytesOf hy n c2 hn, Sem.run_pure, Result.andThen]; rw [Lib.cmp_eq, compareBytes_eq, cmpS, ByteArray.toList_eq, ByteArray.toList_eq]
 rfl
theorem bytesCompare_any (p q : Option Addr) (m n c1 c2 : Nat) (xs ys : List Int) (w : World) (hm : m = xs.length) (hn : n = ys.length) (hx : BIn w p xs) (hy : BIn w q ys) :
  Calls Tryz.prog 128 #[.slice p m c1, .slice q n c2] w fun e w' => e = .returned (.int .i64 (cmpS (strOfNums xs) (strOfNums ys))) ∧ w' = w := by
 have hr := run_compareS hx hy m n c1 c2 hm hn; clear hx hy hm hn
 generalize cmpS (strOfNums xs) (strOfNums ys) = r at hr ⊢
 go_enter Tryz.func128, Tryz.ntmps128
 go_wp2_with fail; rw [run_callFunc_extern Tryz.func196 (by kernel_rfl) (by kernel_rfl) (by kernel_rfl) (e := Extern.BytealgCompare.compare) (by kernel_rfl), hr]; simp only [Result.andThen]; rw [Oper.upon_value]; go_wp2_with fail; go_ret; exact ⟨rfl, rfl⟩
end
section
open Go Go.RowKit Go.Sort
def opCmp (x y : Cel) : Int := orI (cmpS (strOfNums x.2.2) (strOfNums y.2.2)) (cmpI (srt x.2.1) (srt y.2.1))
set_option maxHeartbeats 1000000 in
theorem compareOps_any (k1 n1 k2 n2 : Int) (p q : Option Addr) (m1 m2 c1 c2 : Nat) (xs ys : List Int) (w : World) (hl1 : m1 = xs.length) (hl2 : m2 = ys.length) (hx : BIn w p xs) (hy : BIn w q ys) :
  Calls Tryz.prog 55 #[.agg #[.slice p m1 c1, .int .i64 k1, .int .i64 n1], .agg #[.slice q m2 c2, .int .i64 k2, .int .i64 n2]] w fun e w' => e = .returned (.int .i64 (opCmp (k1, n1, xs) (k2, n2, ys))) ∧ ∃ q os', w' = grow (w.drewN q) os' := by
 have hC : ∀ W, Below w.heap.size w W → Calls Tryz.prog 128 #[.slice p m1 c1, .slice q m2 c2] W fun e w' => e = .returned (.int .i64 (cmpS (strOfNums xs) (strOfNums ys))) ∧ w' = W := fun W hW => bytesCompare_any p q m1 m2 c1 c2 xs ys W hl1 hl2 (hx.below hW) (hy.below hW)
 have hS1 := fun W => sortOf_any n1 W
 have hS2 := fun W => sortOf_any n2 W
 have hI := fun W => compareO_any (srt n1) (srt n2) W
 rw [opCmp]; simp only
 generalize cmpS (strOfNums xs) (strOfNums ys) = cs at hC ⊢
 generalize srt n1 = s1 at hS1 hI ⊢
 generalize srt n2 = s2 at hS2 hI ⊢
 generalize cmpI s1 s2 = ci at hI ⊢
 have hO : ∀ (b : Nat) (W : World), W.cell? ⟨b, 0, none⟩ = some (.int .i64 cs) → W.cell? ⟨b, 1, none⟩ = some (.int .i64 ci) → Calls Tryz.prog 121 #[.slice (some ⟨b, 0, none⟩) 2 2] W fun e w' => e = .returned (.int .i64 (orI cs ci)) ∧ w' = W := fun b W h0 h1 => or_any b cs ci W h0 h1
 generalize orI cs ci = co at hO ⊢
 have hb : Below w.heap.size w ((w.alloc (.cells #[.slice p m1 c1, .int .i64 k1, .int .i64 n1] 120)).alloc (.cells #[.slice q m2 c2, .int .i64 k2, .int .i64 n2] 120)) := ((Below.refl _ _).alloc (Nat.le_refl _) _).alloc (by simp) _; have G1 : Box3 ((w.alloc (.cells #[.slice p m1 c1, .int .i64 k1, .int .i64 n1] 120)).alloc (.cells #[.slice q m2 c2, .int .i64 k2, .int .i64 n2] 120)) w.heap.size (.slice p m1 c1) (.int .i64 k1) (.int .i64 n1) := Box3.of_block (t := 120) ((Below.heap_alloc _ _ _ (by simp)).trans (heap_alloc_new _ _))
 have G2 : Box3 ((w.alloc (.cells #[.slice p m1 c1, .int .i64 k1, .int .i64 n1] 120)).alloc (.cells #[.slice q m2 c2, .int .i64 k2, .int .i64 n2] 120)) (w.heap.size + 1) (.slice q m2 c2) (.int .i64 k2) (.int .i64 n2) := Box3.of_block (t := 120) (by
  have := heap_alloc_new (w.alloc (.cells #[.slice p m1 c1, .int .i64 k1, .int .i64 n1] 120)) (.cells #[.slice q m2 c2, .int .i64 k2, .int .i64 n2] 120); rw [World.size_alloc] at this
  exact this)
 have HG : Hid (∃ os, (w.alloc (.cells #[.slice p m1 c1, .int .i64 k1, .int .i64 n1] 120)).alloc (.cells #[.slice q m2 c2, .int .i64 k2, .int .i64 n2] 120) = grow w os) := ⟨_, by rw [alloc_eq_grow, alloc_eq_grow, grow_grow]⟩
 have HC : Hid (∀ W, Below w.heap.size w W → _) := hC; have HS1 : Hid _ := hS1; have HS2 : Hid _ := hS2; have HI : Hid _ := hI; have HO : Hid _ := hO; have HBW : Hid _ := hb; have HG1 : Hid _ := G1; have HG2 : Hid _ := G2; clear hC hS1 hS2 hI hO hx hy hl1 hl2 hb G1 G2
 go_enter Tryz.func55, Tryz.ntmps55
 go_wp2_with fail; obtain ⟨a0, a1, a2, _⟩ := HG1.out; obtain ⟨b0, b1, b2, _⟩ := HG2.out; clear HG1 HG2
 generalize (w.alloc (.cells #[.slice p m1 c1, .int .i64 k1, .int .i64 n1] 120)).alloc (.cells #[.slice q m2 c2, .int .i64 k2, .int .i64 n2] 120) = W2 at *
 go_region_held3 (fun W => (W.cell? ⟨w.heap.size, 0, none⟩ = some (.slice p m1 c1) ∧ W.cell? ⟨w.heap.size, 2, none⟩ = some (.int .i64 n1)) ∧ W.cell? ⟨w.heap.size + 1, 0, none⟩ = some (.slice q m2 c2) ∧ W.cell? ⟨w.heap.size + 1, 2, none⟩ = some (.int .i64 n2))
  (go_keep)
  (first
    | (go_at_call 128; refine (HC.out _ (by first | exact HBW.out | exact HBW.out.trans (Below.refl _ _).drew)).mono ?_; rintro e w' ⟨rfl, rfl⟩)
    | (go_at_call 129; refine (HI.out _).mono ?_; rintro e w' ⟨rfl, rfl⟩)
    | (go_at_call 125; refine (HS1.out _).mono ?_; rintro e w' ⟨rfl, rfl⟩)
    | (go_at_call 125; refine (HS2.out _).mono ?_; rintro e w' ⟨rfl, rfl⟩)
    | (go_at_call 121; refine (HO.out _ _ (by exact (pair_new _ _ _ _).1) (by exact (pair_new _ _ _ _).2)).mono ?_; rintro e w' ⟨rfl, rfl⟩))
 all_goals go_wp2_with fail
 all_goals go_ret
 obtain ⟨os, hos⟩ := HG.out; exact ⟨rfl, 1, _, by rw [hos, alloc_eq_grow, grow_grow, drew_grow]; rfl⟩
end
section
open Go Go.RowKit
def okB (k n : Int) (s : ByteArray) (m : Nat) : Bool := decide (1 ≤ m ∧ m ≤ 100) && (decide (0 ≤ n ∧ n ≤ 6) && (decide (1 ≤ k ∧ k ≤ 1200) && (if s.toList == [44] then (k == 1000 && n == 1) else !resB s)))
theorem isOp_any (k n : Int) (p : Option Addr) (m cap : Nat) (xs : List Int) (w : World) (hm : m = xs.length) (hb : m ≤ 1000000000) (hx : BIn w p xs) :
  Calls Tryz.prog 99 #[.agg #[.slice p m cap, .int .i64 k, .int .i64 n]] w fun e w' => e = .returned (.bool (okB k n (strOfNums xs) m)) ∧ Below w.heap.size w w' := by
 have hB : Below w.heap.size w (w.alloc (Obj.cells #[.slice p m cap, .int .i64 k, .int .i64 n] 120)) := (Below.refl _ _).alloc (Nat.le_refl _) _; have cv := conv_str (hx.below hB) m cap hm 9 Tryz.underlying9; have HB : Hid _ := hB; have HN := isOpName_any p m cap (w.alloc (Obj.cells #[.slice p m cap, .int .i64 k, .int .i64 n] 120)) hb; have HT := isOpType_any n (w.alloc (Obj.cells #[.slice p m cap, .int .i64 k, .int .i64 n] 120)); clear hx hm hb hB
 generalize strOfNums xs = s at cv ⊢
 have HR := isReserved_any s (w.alloc (Obj.cells #[.slice p m cap, .int .i64 k, .int .i64 n] 120)); have HE : Hid (okB k n s m = (decide (1 ≤ m ∧ m ≤ 100) && (decide (0 ≤ n ∧ n ≤ 6) && (decide (1 ≤ k ∧ k ≤ 1200) && (if s.toList == [44] then (k == 1000 && n == 1) else !resB s))))) := rfl
 generalize resB s = r at HR HE
 generalize decide (1 ≤ m ∧ m ≤ 100) = b1 at HN HE
 generalize decide (0 ≤ n ∧ n ≤ 6) = b2 at HT HE
 have HF : Hid (∀ b, b = okB k n s m → Ending.returned (.bool b) = .returned (.bool (okB k n s m))) := fun b h => ret_bool h
 cases b1
 rotate_right
 case' _ =>
  cases b2
  rotate_right
  case' _ =>
   by_cases h3 : k < 1
   rotate_right
   case' _ =>
    by_cases h4 : 1200 < k
    rotate_right
    case' _ =>
     have h4' : decide (1 ≤ k ∧ k ≤ 1200) = true := by simp; omega
     have HE4 : Hid _ := h4'; clear h4'
     cases h5 : (s.toList == [44])
     rotate_right
     case' _ =>
      cases h6 : (k == 1000)
      rotate_right
      case' _ =>
       cases h7 : (n == 1)
       rotate_right
       case' _ =>
        have HQ : Hid (okB k n s m = true) := by show _ = _; rw [HE.out]; rw [HE4.out, h5, h6, h7]; simp
       rotate_right
       case' _ =>
        have HQ : Hid (okB k n s m = false) := by show _ = _; rw [HE.out]; rw [HE4.out, h5, h6, h7]; simp
      rotate_right
      case' _ =>
       have HQ : Hid (okB k n s m = false) := by show _ = _; rw [HE.out]; rw [HE4.out, h5, h6]; simp
     rotate_right
     case' _ =>
      have HQ : Hid (okB k n s m = !r) := by show _ = _; rw [HE.out]; rw [HE4.out, h5]; simp
    rotate_right
    case' _ =>
     have h4' : decide (1 ≤ k ∧ k ≤ 1200) = false := by simp; omega
     have HQ : Hid (okB k n s m = false) := by show _ = _; rw [HE.out]; rw [h4']; rfl
   rotate_right
   case' _ =>
    have h3' : decide (1 ≤ k ∧ k ≤ 1200) = false := by simp; omega
    have HQ : Hid (okB k n s m = false) := by show _ = _; rw [HE.out]; rw [h3']; rfl
  rotate_right
  case' _ =>
   have HQ : Hid (okB k n s m = false) := by show _ = _; rw [HE.out]; rfl
 rotate_right
 case' _ =>
  have HQ : Hid (okB k n s m = false) := by show _ = _; rw [HE.out]; rfl
 all_goals
  go_enter Tryz.func99, Tryz.ntmps99
  go_wp2_with (first | (go_at_call 167; refine HN.mono ?_; rintro e w' ⟨rfl, rfl⟩) | (go_at_call 168; refine HT.mono ?_; rintro e w' ⟨rfl, rfl⟩) | (go_at_call 169; refine HR.mono ?_; rintro e w' ⟨rfl, rfl⟩)); go_ret; exact ⟨HF.out _ HQ.out.symm, HB.out⟩
def ltO (a b : Cel) : Bool := decide (opCmp a b < 0)
def okC (c : Cel) : Bool := okB c.1 c.2.1 (strOfNums c.2.2) c.2.2.length
def comC (c : Cel) : Bool := (strOfNums c.2.2).toList == [44]
def chainO : Option Cel → List Cel → Bool
 | _, [] => true
 | a, c :: r => okC c && (match a with | none => true | some x => ltO x c) && chainO (some c) r
def tabB (cs : List Cel) : Bool := decide (cs.length ≤ 200) && (chainO none cs && cs.any comC)
def befO (cs : List Cel) (k : Nat) : Option Cel := if k = 0 then none else some (cs.getD (k - 1) Cel.none)
theorem chainO_at (cs : List Cel) (k : Nat) (h : k < cs.length) : chainO (befO cs k) (cs.drop k) = (okC (cs.getD k Cel.none) && (match befO cs k with | none => true | some x => ltO x (cs.getD k Cel.none)) && chainO (befO cs (k + 1)) (cs.drop (k + 1))) := by
 have e : befO cs (k + 1) = some (cs.getD k Cel.none) := by simp [befO]
 rw [drop_at cs k h, e]
 generalize befO cs k = a
 cases a <;> rfl
theorem opCmp_lt (x y : Cel) : opCmp x y < 0 ↔ Op.bytesLess (strOfNums x.2.2).toList (strOfNums y.2.2).toList = true ∨ ((strOfNums x.2.2).toList = (strOfNums y.2.2).toList ∧ srt x.2.1 < srt y.2.1) := by
 unfold opCmp orI cmpI cmpS
 cases h1 : Op.bytesLess (strOfNums x.2.2).toList (strOfNums y.2.2).toList with
 | true => simp
 | false =>
   by_cases e : (strOfNums x.2.2).toList = (strOfNums y.2.2).toList
   ·simp only [e]
    simp
    split
    ·simp; omega
    ·split <;> simp <;> omega
   ·simp [e]
theorem ltO_trans {x y z : Cel} (h1 : ltO x y = true) (h2 : ltO y z = true) : ltO x z = true := by
 simp only [ltO, decide_eq_true_eq, opCmp_lt] at *
 rcases h1 with h1 | ⟨h1, h1'⟩ <;> rcases h2 with h2 | ⟨h2, h2'⟩
 ·exact .inl (bl_trans _ _ _ h1 h2)
 ·exact .inl (h2 ▸ h1)
 ·exact .inl (h1 ▸ h2)
 ·exact .inr ⟨h1.trans h2, by omega⟩
end
end Go.Proofs.YtdmmchoicngblaaGreatDoor
