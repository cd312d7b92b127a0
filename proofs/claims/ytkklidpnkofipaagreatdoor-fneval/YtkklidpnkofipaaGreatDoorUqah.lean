/- Texts of IbN, SSO, LsA, Rd1, Rd2, ItP, Dt1, MkL, SSU, Dt7, Num, VarF, VarG, Ren1, RenN, Ren3. Own work of the verifier. -/
import Derived.Maps.AppendAt
import Derived.Test.YtkklidpnkofipaaGreatDoorUqag
import Derived.Test.YtkklidpnkofipaaGreatDoorUqad
namespace Go.Proofs.YtkklidpnkofipaaGreatDoor
set_option linter.unusedVariables false
set_option maxRecDepth 100000
section
open Go Go.RowKit Go.Maps Go.Shelf
set_option linter.unusedSimpArgs false
noncomputable def bOps : Array Oper := match Tryz.f30.body with
 | some (.seq _ (.seq (.region _ ops _) _)) => ops
 | _ => #[]
def bEnt (j : Nat) : List UInt8 × Int := bEnts.getD j ([], 0)
def bFns : List Nat := [67, 68, 68, 69, 70, 71, 72, 73, 74, 75, 76, 77, 78, 79, 80, 81, 82, 83, 84, 85, 86, 87, 88, 89, 90, 91, 92, 93, 94, 95, 96, 97, 98, 99, 100, 101, 102, 103, 104, 105, 106, 107, 107, 108, 109]
def bFn (j : Nat) : Nat := bFns.getD j 0
def bKey (j : Nat) : Fun := (bOf (bEnt j).1, (bEnt j).2)
def bKeyV (j : Nat) : Value := .agg #[.string (bKey j).1, .int .i64 (bKey j).2]
def insB (L : Array Bool) (f : Fun) : Option Nat := ((List.range 45).find? fun j => decide (bKey j = f) && L.getD (2 * j + 2) false).map bFn
def buTab (f : Fun) : Option Nat := ((List.range 45).find? fun j => decide (bKey j = f)).map bFn
theorem bEnt_inj : ((List.range 45).all fun i => (List.range 45).all fun j => decide (bEnt i = bEnt j → i = j)) = true := by decide
theorem bOf_inj {a b : List UInt8} (h : bOf a = bOf b) : a = b := by
 have := congrArg ByteArray.toList h
 rwa [bOf_list, bOf_list] at this
theorem bKey_inj : ∀ i, i < 45 → ∀ j, j < 45 → bKey i = bKey j → i = j := by
 intro i hi j hj e
 have h1 := List.all_eq_true.1 (List.all_eq_true.1 bEnt_inj i (List.mem_range.2 hi)) j (List.mem_range.2 hj); simp only [decide_eq_true_eq] at h1; exact h1 (Prod.ext (bOf_inj (Prod.mk.inj e).1) (Prod.mk.inj e).2)
theorem insB_none {L : Array Bool} (h : ∀ j, j < 45 → L.getD (2 * j + 2) false = false) : insB L = fun _ => none := by
 funext f
 unfold insB
 rw [List.find?_eq_none.2 (fun j hj => by simp [h j (List.mem_range.1 hj)])]
 rfl
theorem insB_all {L : Array Bool} (h : ∀ j, j < 45 → L.getD (2 * j + 2) false = true) : insB L = buTab := by
 funext f
 unfold insB buTab
 congr 1
 have : ∀ l : List Nat, (∀ j ∈ l, j < 45) → (l.find? fun j => decide (bKey j = f) && L.getD (2 * j + 2) false) = l.find? fun j => decide (bKey j = f) := by
  intro l
  induction l with
  | nil => intro _; rfl
  | cons a r ih =>
    intro hl
    simp only [List.find?_cons, h a (hl a (by simp)), Bool.and_true, ih (fun j hj => hl j (by simp [hj]))]
 exact this _ fun j hj => List.mem_range.1 hj
theorem insB_same {L : Array Bool} {i : Nat} (hi : ∀ j, j < 45 → i ≠ 2 * j + 2) : insB (L.setIfInBounds i true) = insB L := by
 funext f
 unfold insB
 congr 1
 have : ∀ l : List Nat, (∀ j ∈ l, j < 45) → (l.find? fun j => decide (bKey j = f) && (L.setIfInBounds i true).getD (2 * j + 2) false) = l.find? fun j => decide (bKey j = f) && L.getD (2 * j + 2) false := by
  intro l
  induction l with
  | nil => intro _; rfl
  | cons a r ih =>
    intro hl
    simp only [List.find?_cons, getD_set_ne false (hi a (hl a (by simp))), ih (fun j hj => hl j (by simp [hj]))]
 exact this _ fun j hj => List.mem_range.1 hj
theorem insB_put {L : Array Bool} {j : Nat} (hj : j < 45) (hl : 2 * j + 2 < L.size) : insB (L.setIfInBounds (2 * j + 2) true) = fun f => if f = bKey j then some (bFn j) else insB L f := by
 funext f
 by_cases e : f = bKey j
 ·subst e
  rw [if_pos rfl]
  have : ((List.range 45).find? fun i => decide (bKey i = bKey j) && (L.setIfInBounds (2 * j + 2) true).getD (2 * i + 2) false) = some j := by
   rw [List.find?_eq_some_iff_getElem]; refine ⟨?_, j, by simpa using hj, by simp, fun i hi => ?_⟩
   ·simp [hl]
   ·have hne : bKey i ≠ bKey j := fun e => by have := bKey_inj i (by omega) j hj e; omega
    simp [hne]
  unfold insB
  rw [this]
  rfl
 ·rw [if_neg e]
  unfold insB
  congr 1
  have : ∀ l : List Nat, (l.find? fun i => decide (bKey i = f) && (L.setIfInBounds (2 * j + 2) true).getD (2 * i + 2) false) = l.find? fun i => decide (bKey i = f) && L.getD (2 * i + 2) false := by
   intro l
   induction l with
   | nil => rfl
   | cons a r ih =>
     simp only [List.find?_cons, ih]
     by_cases ha : a = j
     ·subst ha
      have : decide (bKey a = f) = false := by simpa using fun h => e h.symm
      simp [this]
     ·rw [getD_set_ne false (by omega)]
  exact this _
structure BInv (w0 : World) (L : Array Bool) (a : Act) (w : World) : Prop where
 lsz : L.size = 93
 tsz : a.tmps.size = 48
 dfs : a.defers = []
 bel : Below w0.heap.size w0 w
 key : ∀ j, j < 45 → L.getD (2 * j + 1) false = true → a.tmps[j + 2]? = some (bKeyV j)
 tab : if L.getD 0 false = true then ∃ b N, w0.heap.size ≤ b ∧ a.tmps[1]? = some (.map (some b)) ∧ N ≤ 92 ∧ N + unl L ≤ 92 ∧ BuIn w b N (insB L) else ∀ j, j < 45 → L.getD (2 * j + 2) false = false
 mov : L.getD 91 false = true → a.tmps[47]? = a.tmps[1]? ∧ L.getD 0 false = true ∧ ∀ j, j < 45 → L.getD (2 * j + 2) false = true
 fin : L.getD 92 false = true → a.tmps[0]? = a.tmps[47]? ∧ L.getD 91 false = true
theorem bop_build : ∀ j, j < 45 → ∃ o, bOps[2 * j + 1]? = some o ∧ o.guard = none ∧ o.dst = some (j + 2) ∧ o.op = .build 76 #[(0, .const (.string (bKey j).1)), (1, .const (.int .i64 (bKey j).2))]
 | 0, _ => ⟨_, rfl, rfl, rfl, rfl⟩
 | 1, _ => ⟨_, rfl, rfl, rfl, rfl⟩
 | 2, _ => ⟨_, rfl, rfl, rfl, rfl⟩
 | 3, _ => ⟨_, rfl, rfl, rfl, rfl⟩
 | 4, _ => ⟨_, rfl, rfl, rfl, rfl⟩
 | 5, _ => ⟨_, rfl, rfl, rfl, rfl⟩
 | 6, _ => ⟨_, rfl, rfl, rfl, rfl⟩
 | 7, _ => ⟨_, rfl, rfl, rfl, rfl⟩
 | 8, _ => ⟨_, rfl, rfl, rfl, rfl⟩
 | 9, _ => ⟨_, rfl, rfl, rfl, rfl⟩
 | 10, _ => ⟨_, rfl, rfl, rfl, rfl⟩
 | 11, _ => ⟨_, rfl, rfl, rfl, rfl⟩
 | 12, _ => ⟨_, rfl, rfl, rfl, rfl⟩
 | 13, _ => ⟨_, rfl, rfl, rfl, rfl⟩
 | 14, _ => ⟨_, rfl, rfl, rfl, rfl⟩
 | 15, _ => ⟨_, rfl, rfl, rfl, rfl⟩
 | 16, _ => ⟨_, rfl, rfl, rfl, rfl⟩
 | 17, _ => ⟨_, rfl, rfl, rfl, rfl⟩
 | 18, _ => ⟨_, rfl, rfl, rfl, rfl⟩
 | 19, _ => ⟨_, rfl, rfl, rfl, rfl⟩
 | 20, _ => ⟨_, rfl, rfl, rfl, rfl⟩
 | 21, _ => ⟨_, rfl, rfl, rfl, rfl⟩
 | 22, _ => ⟨_, rfl, rfl, rfl, rfl⟩
 | 23, _ => ⟨_, rfl, rfl, rfl, rfl⟩
 | 24, _ => ⟨_, rfl, rfl, rfl, rfl⟩
 | 25, _ => ⟨_, rfl, rfl, rfl, rfl⟩
 | 26, _ => ⟨_, rfl, rfl, rfl, rfl⟩
 | 27, _ => ⟨_, rfl, rfl, rfl, rfl⟩
 | 28, _ => ⟨_, rfl, rfl, rfl, rfl⟩
 | 29, _ => ⟨_, rfl, rfl, rfl, rfl⟩
 | 30, _ => ⟨_, rfl, rfl, rfl, rfl⟩
 | 31, _ => ⟨_, rfl, rfl, rfl, rfl⟩
 | 32, _ => ⟨_, rfl, rfl, rfl, rfl⟩
 | 33, _ => ⟨_, rfl, rfl, rfl, rfl⟩
 | 34, _ => ⟨_, rfl, rfl, rfl, rfl⟩
 | 35, _ => ⟨_, rfl, rfl, rfl, rfl⟩
 | 36, _ => ⟨_, rfl, rfl, rfl, rfl⟩
 | 37, _ => ⟨_, rfl, rfl, rfl, rfl⟩
 | 38, _ => ⟨_, rfl, rfl, rfl, rfl⟩
 | 39, _ => ⟨_, rfl, rfl, rfl, rfl⟩
 | 40, _ => ⟨_, rfl, rfl, rfl, rfl⟩
 | 41, _ => ⟨_, rfl, rfl, rfl, rfl⟩
 | 42, _ => ⟨_, rfl, rfl, rfl, rfl⟩
 | 43, _ => ⟨_, rfl, rfl, rfl, rfl⟩
 | 44, _ => ⟨_, rfl, rfl, rfl, rfl⟩
 | j + 45, h => by omega
theorem bop_put : ∀ j, j < 45 → ∃ o, bOps[2 * j + 2]? = some o ∧ o.guard = none ∧ o.dst = none ∧ o.op = .insert 73 (.tmp 1) (.tmp (j + 2)) (.func (bFn j)) ∧ ([0, 2 * j + 1].all fun i => o.after.toList.any fun e => (e.on == i) && Region.binds .any e) = true
 | 0, _ => ⟨_, rfl, rfl, rfl, rfl, by kernel_rfl⟩
 | 1, _ => ⟨_, rfl, rfl, rfl, rfl, by kernel_rfl⟩
 | 2, _ => ⟨_, rfl, rfl, rfl, rfl, by kernel_rfl⟩
 | 3, _ => ⟨_, rfl, rfl, rfl, rfl, by kernel_rfl⟩
 | 4, _ => ⟨_, rfl, rfl, rfl, rfl, by kernel_rfl⟩
 | 5, _ => ⟨_, rfl, rfl, rfl, rfl, by kernel_rfl⟩
 | 6, _ => ⟨_, rfl, rfl, rfl, rfl, by kernel_rfl⟩
 | 7, _ => ⟨_, rfl, rfl, rfl, rfl, by kernel_rfl⟩
 | 8, _ => ⟨_, rfl, rfl, rfl, rfl, by kernel_rfl⟩
 | 9, _ => ⟨_, rfl, rfl, rfl, rfl, by kernel_rfl⟩
 | 10, _ => ⟨_, rfl, rfl, rfl, rfl, by kernel_rfl⟩
 | 11, _ => ⟨_, rfl, rfl, rfl, rfl, by kernel_rfl⟩
 | 12, _ => ⟨_, rfl, rfl, rfl, rfl, by kernel_rfl⟩
 | 13, _ => ⟨_, rfl, rfl, rfl, rfl, by kernel_rfl⟩
 | 14, _ => ⟨_, rfl, rfl, rfl, rfl, by kernel_rfl⟩
 | 15, _ => ⟨_, rfl, rfl, rfl, rfl, by kernel_rfl⟩
 | 16, _ => ⟨_, rfl, rfl, rfl, rfl, by kernel_rfl⟩
 | 17, _ => ⟨_, rfl, rfl, rfl, rfl, by kernel_rfl⟩
 | 18, _ => ⟨_, rfl, rfl, rfl, rfl, by kernel_rfl⟩
 | 19, _ => ⟨_, rfl, rfl, rfl, rfl, by kernel_rfl⟩
 | 20, _ => ⟨_, rfl, rfl, rfl, rfl, by kernel_rfl⟩
 | 21, _ => ⟨_, rfl, rfl, rfl, rfl, by kernel_rfl⟩
 | 22, _ => ⟨_, rfl, rfl, rfl, rfl, by kernel_rfl⟩
 | 23, _ => ⟨_, rfl, rfl, rfl, rfl, by kernel_rfl⟩
 | 24, _ => ⟨_, rfl, rfl, rfl, rfl, by kernel_rfl⟩
 | 25, _ => ⟨_, rfl, rfl, rfl, rfl, by kernel_rfl⟩
 | 26, _ => ⟨_, rfl, rfl, rfl, rfl, by kernel_rfl⟩
 | 27, _ => ⟨_, rfl, rfl, rfl, rfl, by kernel_rfl⟩
 | 28, _ => ⟨_, rfl, rfl, rfl, rfl, by kernel_rfl⟩
 | 29, _ => ⟨_, rfl, rfl, rfl, rfl, by kernel_rfl⟩
 | 30, _ => ⟨_, rfl, rfl, rfl, rfl, by kernel_rfl⟩
 | 31, _ => ⟨_, rfl, rfl, rfl, rfl, by kernel_rfl⟩
 | 32, _ => ⟨_, rfl, rfl, rfl, rfl, by kernel_rfl⟩
 | 33, _ => ⟨_, rfl, rfl, rfl, rfl, by kernel_rfl⟩
 | 34, _ => ⟨_, rfl, rfl, rfl, rfl, by kernel_rfl⟩
 | 35, _ => ⟨_, rfl, rfl, rfl, rfl, by kernel_rfl⟩
 | 36, _ => ⟨_, rfl, rfl, rfl, rfl, by kernel_rfl⟩
 | 37, _ => ⟨_, rfl, rfl, rfl, rfl, by kernel_rfl⟩
 | 38, _ => ⟨_, rfl, rfl, rfl, rfl, by kernel_rfl⟩
 | 39, _ => ⟨_, rfl, rfl, rfl, rfl, by kernel_rfl⟩
 | 40, _ => ⟨_, rfl, rfl, rfl, rfl, by kernel_rfl⟩
 | 41, _ => ⟨_, rfl, rfl, rfl, rfl, by kernel_rfl⟩
 | 42, _ => ⟨_, rfl, rfl, rfl, rfl, by kernel_rfl⟩
 | 43, _ => ⟨_, rfl, rfl, rfl, rfl, by kernel_rfl⟩
 | 44, _ => ⟨_, rfl, rfl, rfl, rfl, by kernel_rfl⟩
 | j + 45, h => by omega
theorem bop_last : ∃ o, bOps[92]? = some o ∧ o.guard = none ∧ o.dst = some 0 ∧ o.op = .assign (.tmp 47) ∧ ((List.range 92).all fun i => o.after.toList.any fun e => (e.on == i) && Region.binds .any e) = true := ⟨_, rfl, rfl, rfl, rfl, by kernel_rfl⟩
theorem bop_move : ∃ o, bOps[91]? = some o ∧ o.guard = none ∧ o.dst = some 47 ∧ o.op = .move (.tmp 1) ∧ ((List.range 91).all fun i => o.after.toList.any fun e => (e.on == i) && Region.binds .any e) = true := ⟨_, rfl, rfl, rfl, rfl, by kernel_rfl⟩
theorem bop_map : ∃ o, bOps[0]? = some o ∧ o.guard = none ∧ o.dst = some 1 ∧ o.op = .makeMap 73 none := ⟨_, rfl, rfl, rfl, rfl⟩
theorem bsize_ops : bOps.size = 93 := rfl
theorem bback_only : ((List.range 93).all fun i => (bOps[i]?).all fun o => o.after.toList.all fun e => decide (e.on < i)) = true := by kernel_rfl
theorem bEnt_small : ((List.range 45).all fun j => decide ((bEnt j).1.length ≤ 100 ∧ 0 ≤ (bEnt j).2 ∧ (bEnt j).2 ≤ 3)) = true := by decide
theorem bKey_ok (j : Nat) (hj : j < 45) : okN (bKey j) := by
 have h6 := List.all_eq_true.1 bEnt_small j (List.mem_range.2 hj); simp only [decide_eq_true_eq] at h6; refine ⟨?_, WalkArith.wf_i64 ?_⟩
 ·show (bOf (bEnt j).1).size ≤ _
  rw [bOf_size]; omega
 ·show _ ≤ (bEnt j).2 ∧ (bEnt j).2 ≤ _
  omega
set_option maxHeartbeats 4000000 in
theorem bnew_step {Q : Exit → Act → World → Prop} (w0 : World) (L : Array Bool) (a : Act) (w : World) (I : BInv w0 L a w) (i : Nat) (hi : i ∈ Region.ready .any bOps L) : wpOp Tryz.prog bOps Q i (fun a' w' => BInv w0 (L.setIfInBounds i true) a' w') a w := by
 obtain ⟨hn, o, ho, haft⟩ := mem_ready.1 hi
 have hi93 : i < 93 := by
  rw [← bsize_ops]; exact (Array.getElem?_eq_some_iff.1 ho).1
 have hLs : L.size = 93 := I.lsz; have hnf : L.getD i false = false := getD_false hn; have hu := unl_set hn
 have hcase : i = 0 ∨ i = 91 ∨ i = 92 ∨ (i % 2 = 1 ∧ i / 2 < 45) ∨ (i % 2 = 0 ∧ 2 ≤ i ∧ i ≤ 90) := by omega
 rcases hcase with h | h | h | ⟨h, h2⟩ | ⟨h, h2⟩
 ·subst h
  obtain ⟨o', ho', hg, hd, hop⟩ := bop_map; obtain rfl := Option.some.inj (ho.symm.trans ho'); have ht := I.tab; rw [if_neg (by rw [hnf]; decide)] at ht; refine op_value (v := .map (some w.heap.size)) (w' := w.alloc (.map #[] 0)) ho hg (by simp [execOp, hop, go_sem, run_makeMap, Result.andThen]) ?_; rw [hd]; refine ⟨by simpa using hLs, by rw [put_size]; exact I.tsz, by rw [put_defs]; exact I.dfs, I.bel.alloc I.bel.size _, fun j hj h => ?_, ?_, fun h => ?_, fun h => ?_⟩
  ·rw [put_other (by omega)]; exact I.key j hj (set_at h (by omega))
  ·rw [if_pos (set_self (by omega))]
   refine ⟨w.heap.size, 0, I.bel.size, put_same (by rw [I.tsz]; decide), by omega, ?_, ?_⟩
   ·have := unl_le L; omega
   ·rw [insB_same (fun j _ => by omega), insB_none ht]; exact BuIn.made w
  ·have := (I.mov (set_at h (by decide))).2.1
   rw [hnf] at this; cases this
  ·have := (I.mov (I.fin (set_at h (by decide))).2).2.1
   rw [hnf] at this; cases this
 ·subst h
  obtain ⟨o', ho', hg, hd, hop, hall⟩ := bop_move; obtain rfl := Option.some.inj (ho.symm.trans ho')
  have hdep : ∀ p, p < 91 → L.getD p false = true := fun p hp => dep_of (List.all_eq_true.1 hall p (List.mem_range.2 hp)) haft
  have ht := I.tab; rw [if_pos (hdep 0 (by decide))] at ht; obtain ⟨b, N, h1, h2, h3, h4, h5⟩ := ht; refine op_value (v := .map (some b)) (w' := w) ho hg (by simp [execOp, hop, go_sem, Act.eval, h2]) ?_; rw [hd]; refine ⟨by simpa using hLs, by rw [put_size]; exact I.tsz, by rw [put_defs]; exact I.dfs, I.bel, fun j hj h => ?_, ?_, fun h => ?_, fun h => ?_⟩
  ·rw [put_other (by omega)]; exact I.key j hj (set_at h (by omega))
  ·rw [if_pos (by rw [getD_set_ne false (by decide)]; exact hdep 0 (by decide))]
   exact ⟨b, N, h1, by rw [put_other (by decide)]; exact h2, h3, by omega, by rw [insB_same (fun j _ => by omega)]; exact h5⟩
  ·refine ⟨by rw [put_same (by rw [I.tsz]; decide), put_other (by decide), h2], by rw [getD_set_ne false (by decide)]; exact hdep 0 (by decide), fun j hj => ?_⟩
   rw [getD_set_ne false (by omega)]; exact hdep _ (by omega)
  ·have := (I.fin (set_at h (by decide))).2
   rw [hnf] at this
   cases this
 ·subst h
  obtain ⟨o', ho', hg, hd, hop, hall⟩ := bop_last; obtain rfl := Option.some.inj (ho.symm.trans ho')
  have hdep : ∀ p, p < 92 → L.getD p false = true := fun p hp => dep_of (List.all_eq_true.1 hall p (List.mem_range.2 hp)) haft
  have ht := I.tab; rw [if_pos (hdep 0 (by decide))] at ht; obtain ⟨b, N, h1, h2, h3, h4, h5⟩ := ht; have hm := I.mov (hdep 91 (by decide)); have h47 : a.tmps[47]? = some (.map (some b)) := hm.1.trans h2; refine op_value (v := .map (some b)) (w' := w) ho hg (by simp [execOp, hop, go_sem, Act.eval, h47]) ?_; rw [hd]; refine ⟨by simpa using hLs, by rw [put_size]; exact I.tsz, by rw [put_defs]; exact I.dfs, I.bel, fun j hj h => ?_, ?_, fun h => ?_, fun h => ?_⟩
  ·rw [put_other (by omega)]; exact I.key j hj (set_at h (by omega))
  ·rw [if_pos (by rw [getD_set_ne false (by decide)]; exact hdep 0 (by decide))]
   exact ⟨b, N, h1, by rw [put_other (by decide)]; exact h2, h3, by omega, by rw [insB_same (fun j _ => by omega)]; exact h5⟩
  ·exact ⟨by rw [put_other (by decide), put_other (by decide)]; exact hm.1, by rw [getD_set_ne false (by decide)]; exact hm.2.1, fun j hj => by rw [getD_set_ne false (by omega)]; exact hm.2.2 j hj⟩
  ·exact ⟨by rw [put_same (by rw [I.tsz]; decide), put_other (by decide), h47], by rw [getD_set_ne false (by decide)]; exact hdep 91 (by decide)⟩
 ·obtain ⟨j, hj, rfl⟩ : ∃ j, j < 45 ∧ i = 2 * j + 1 := ⟨i / 2, h2, by omega⟩
  obtain ⟨o', ho', hg, hd, hop⟩ := bop_build j hj; obtain rfl := Option.some.inj (ho.symm.trans ho'); refine op_value (v := bKeyV j) (w' := w) ho hg (by simp [execOp, hop, go_sem, Act.eval, bKeyV]) ?_; rw [hd]; refine ⟨by simpa using hLs, by rw [put_size]; exact I.tsz, by rw [put_defs]; exact I.dfs, I.bel, fun j' hj' h => ?_, ?_, fun h => ?_, fun h => ?_⟩
  ·by_cases e : j' = j
   ·subst e; exact put_same (by rw [I.tsz]; omega)
   ·rw [put_other (by omega)]; exact I.key j' hj' (set_at h (by omega))
  ·have ht := I.tab
   by_cases hz : L.getD 0 false = true
   ·rw [if_pos hz] at ht
    obtain ⟨b, N, h1, h2, h3, h4, h5⟩ := ht; rw [if_pos (by rw [getD_set_ne false (by omega)]; exact hz)]; exact ⟨b, N, h1, by rw [put_other (by omega)]; exact h2, h3, by omega, by rw [insB_same (fun j _ => by omega)]; exact h5⟩
   ·rw [if_neg hz] at ht
    rw [if_neg (by rw [getD_set_ne false (by omega)]; exact hz)]
    exact fun j' hj' => by rw [getD_set_ne false (by omega)]; exact ht j' hj'
  ·have hm := I.mov (set_at h (by omega))
   exact ⟨by rw [put_other (by omega), put_other (by omega)]; exact hm.1, by rw [getD_set_ne false (by omega)]; exact hm.2.1, fun j' hj' => by rw [getD_set_ne false (by omega)]; exact hm.2.2 j' hj'⟩
  ·have hm := I.fin (set_at h (by omega))
   exact ⟨by rw [put_other (by omega), put_other (by omega)]; exact hm.1, by rw [getD_set_ne false (by omega)]; exact hm.2⟩
 ·obtain ⟨j, hj, rfl⟩ : ∃ j, j < 45 ∧ i = 2 * j + 2 := ⟨i / 2 - 1, by omega, by omega⟩
  obtain ⟨o', ho', hg, hd, hop, hall⟩ := bop_put j hj; obtain rfl := Option.some.inj (ho.symm.trans ho')
  have hdep : ∀ p, p ∈ [0, 2 * j + 1] → L.getD p false = true := fun p hp => dep_of (List.all_eq_true.1 hall p hp) haft
  have ht := I.tab; rw [if_pos (hdep 0 (by simp))] at ht; obtain ⟨b, N, h1, h2, h3, h4, h5⟩ := ht; have hk := I.key j hj (hdep _ (by simp)); obtain ⟨w', hrun, hT', hgr⟩ := h5.put (by omega) (bKey j) (bKey_ok j hj) (bFn j); have hb : Below w0.heap.size w0 w' := I.bel.trans ((Below.refl _ _).grown hgr I.bel.size (fun k e => by cases e; exact h1))
  unfold wpOp
  simp only [ho, Region.wanted, hg, if_true]
  left
  unfold Oper.wp
  have hfv : a.eval (.func (bFn j)) = .func (.func (bFn j)) #[] #[] := rfl
  simp [execOp, hop, eval_tmp h2, eval_tmp hk, hfv, bKeyV, hrun, Result.andThen, Oper.upon]
  rw [hd]; refine ⟨by simpa using hLs, by rw [put_size]; exact I.tsz, by rw [put_defs]; exact I.dfs, hb, fun j' hj' h => ?_, ?_, fun h => ?_, fun h => ?_⟩
  ·exact I.key j' hj' (set_at h (by omega))
  ·rw [if_pos (by rw [getD_set_ne false (by omega)]; exact hdep 0 (by simp))]
   exact ⟨b, N + 1, h1, h2, by omega, by omega, by rw [insB_put hj (by omega)]; exact hT'⟩
  ·have := (I.mov (set_at h (by omega))).2.2 j hj
   rw [hnf] at this
   cases this
  ·have := (I.mov (I.fin (set_at h (by omega))).2).2.2 j hj
   rw [hnf] at this
   cases this
theorem bnew_end {w0 : World} {L : Array Bool} {a : Act} {w : World} (I : BInv w0 L a w) (hr : Region.ready .any bOps L = []) : ∃ b, a.tmps[0]? = some (.map (some b)) ∧ a.tmps.size = 48 ∧ a.defers = [] ∧ BuIn w b 92 buTab ∧ Below w0.heap.size w0 w := by
 have hall : ∀ n, n ≤ 93 → ∀ i, i < n → L.getD i true = true := by
  intro n
  induction n with
  | zero => intro _ i hi; omega
  | succ n ih =>
    intro hn i hi
    by_cases e : i = n
    ·subst e
     cases hl : L.getD i true with
     | true => rfl
     | false =>
       exfalso
       obtain ⟨o, ho⟩ : ∃ o, bOps[i]? = some o := ⟨_, Array.getElem?_eq_getElem (by rw [bsize_ops]; omega)⟩
       have hb := List.all_eq_true.1 bback_only i (List.mem_range.2 (by omega)); rw [ho] at hb; simp only [Option.all_some, List.all_eq_true, decide_eq_true_eq] at hb
       have : i ∈ Region.ready .any bOps L := mem_ready.2 ⟨hl, o, ho, fun e he _ => by
        have h1 := ih (by omega) e.on (hb e (by simpa using he))
        have hlt : e.on < L.size := by have := hb e (by simpa using he); rw [I.lsz]; omega
        simp only [Array.getD_eq_getD_getElem?, Array.getElem?_eq_getElem hlt, Option.getD_some] at h1 ⊢
        exact h1⟩
       rw [hr] at this
       cases this
    ·exact ih (by omega) i (by omega)
 have h92 : L.getD 92 false = true := by
  have h1 := hall 93 (Nat.le_refl _) 92 (by decide)
  have hlt : 92 < L.size := by rw [I.lsz]; decide
  simp only [Array.getD_eq_getD_getElem?, Array.getElem?_eq_getElem hlt, Option.getD_some] at h1 ⊢; exact h1
 obtain ⟨e0, h91⟩ := I.fin h92; obtain ⟨e1, e2, e3⟩ := I.mov h91; have ht := I.tab; rw [if_pos e2] at ht; obtain ⟨b, N, h1, h2, h3, h4, h5⟩ := ht; rw [insB_all e3] at h5; obtain ⟨D, hown, hD⟩ := h5; exact ⟨b, by rw [e0, e1, h2], I.tsz, I.dfs, ⟨D, hown.mono h3, hD⟩, I.bel⟩
set_option maxHeartbeats 1000000 in
theorem newBuiltins_any (w : World) : Calls Tryz.prog 30 #[] w fun e w' => ∃ b, e = .returned (.map (some b)) ∧ BuIn w' b 92 buTab ∧ Below w.heap.size w w' := by
 go_enter Tryz.func30, Tryz.ntmps30
 go_wp2_with fail; refine wp_region_any (ops := bOps) (by kernel_rfl) ?_; refine wpAny_inv (BInv w) (fun L a w' I i hi => bnew_step w L a w' I i hi) (fun L a w' I hr => ?_) _ _ _ _ ?_ (by have := unl_le (Array.replicate bOps.size false); simpa using this)
 ·obtain ⟨b, h0, hs, hd, hT, hB⟩ := bnew_end I hr
  refine ‹∀ (a : Act) (w : World), Code.wp _ Code.ret _ a w → _› _ _ ?_; refine wp_ret ?_; exact bodyPost_ret (v := .map (some b)) (by simp [results, Tryz.results30, h0]) hd ⟨b, rfl, hT, hB⟩
 ·have hz : ∀ k, (Array.replicate bOps.size false).getD k false = false := fun k => by
   simp only [Array.getD_eq_getD_getElem?, Array.getElem?_replicate]
   split <;> rfl
  refine ⟨by simp [bsize_ops], rfl, rfl, ⟨rfl, rfl, rfl, Nat.le_refl _, fun _ _ => rfl⟩, fun j hj h => ?_, ?_, fun h => ?_, fun h => ?_⟩
  ·rw [hz] at h; cases h
  ·rw [if_neg (by rw [hz]; decide)]
   exact fun j _ => hz _
  ·rw [hz] at h; cases h
  ·rw [hz] at h; cases h
end
section
open Go Go.RowKit
def CCIn (w : World) (p : Option Addr) (css : List (List Cel)) : Prop :=
 0 < css.length → ∃ b o, p = some ⟨b, o, none⟩ ∧ ∀ i, i < css.length → ∃ q c, w.cell? ⟨b, o + i, none⟩ = some (.slice q (css.getD i []).length c) ∧ CIn w q (css.getD i [])
theorem CCIn.below {W W' : World} {p : Option Addr} {css : List (List Cel)} (h : CCIn W p css) (hb : Below W.heap.size W W') : CCIn W' p css := fun hn => by
 obtain ⟨b, o, rfl, hc⟩ := h hn; refine ⟨b, o, rfl, fun i hi => ?_⟩; obtain ⟨q, c, h1, h2⟩ := hc i hi; exact ⟨q, c, (hb.cell (World.block_lt_of_cell? _ _ h1)).trans h1, h2.below hb⟩
def vals (ds : List It) (css : List (List Cel)) : List Value := (List.range css.length).map fun i => .slice (ds.getD i It.zero).1 (css.getD i []).length (ds.getD i It.zero).2.1
theorem vals_at (ds : List It) (css : List (List Cel)) (i : Nat) (h : i < css.length) : (vals ds css)[i]? = some (.slice (ds.getD i It.zero).1 (css.getD i []).length (ds.getD i It.zero).2.1) := by simp [vals, h]
structure OwnSS (w : World) (B U : Nat) (p : Option Addr) (n c : Nat) (css : List (List Cel)) (ds : List It) : Prop where
 len : n = css.length
 dlen : ds.length = css.length
 row : w.ownsRow B 23 1 (.slice p n c) n (vals ds css)
 item : ∀ i, i < css.length → OwnCU w (ds.getD i It.zero).2.2.1 (ds.getD i It.zero).2.2.2 (ds.getD i It.zero).1 (css.getD i []).length (ds.getD i It.zero).2.1 (css.getD i [])
 low : ∀ i, i < css.length → B ≤ (ds.getD i It.zero).2.2.1 ∧ (ds.getD i It.zero).2.2.2 ≤ U
 away : ∀ i, i < css.length → ∀ g, Value.ownBlock (.slice p n c) = some g → g < (ds.getD i It.zero).2.2.1 ∨ (ds.getD i It.zero).2.2.2 ≤ g
 apart : ∀ i j, i < j → j < css.length → (ds.getD i It.zero).2.2.2 ≤ (ds.getD j It.zero).2.2.1
 top : ∀ g, Value.ownBlock (.slice p n c) = some g → g < U
def OwnCC (w : World) (B U : Nat) (p : Option Addr) (n c : Nat) (css : List (List Cel)) : Prop := ∃ ds, OwnSS w B U p n c css ds
theorem OwnCC.nil (w : World) (B U : Nat) : OwnCC w B U none 0 0 [] := ⟨[], rfl, rfl, World.ownsRow_nil _ _ _ _, fun i h => by simp at h, fun i h => by simp at h, fun i h => by simp at h, fun i j _ h => by simp at h, fun g h => by cases h⟩
theorem OwnCC.ccin {w : World} {B U : Nat} {p : Option Addr} {n c : Nat} {css : List (List Cel)} (h : OwnCC w B U p n c css) : CCIn w p css := fun hn => by
 obtain ⟨ds, h⟩ := h; have hl := h.len; obtain ⟨g, cap, hv, hb, hg⟩ := h.row.form (by omega); simp only [Value.slice.injEq, true_and] at hv; obtain ⟨rfl, rfl⟩ := hv; refine ⟨g, 0, rfl, fun i hi => ⟨(ds.getD i It.zero).1, (ds.getD i It.zero).2.1, ?_, (h.item i hi).toC.cin⟩⟩; rw [Nat.zero_add, h.row.cellAt i (by omega)]; exact vals_at ds css i hi
theorem OwnSS.other {w w' : World} {B U : Nat} {p : Option Addr} {n c : Nat} {css : List (List Cel)} {ds : List It} (h : OwnSS w B U p n c css ds) (hs : w.heap.size ≤ w'.heap.size) (hb : ∀ k, k < w.heap.size → B ≤ k → k < U → w'.heap[k]? = w.heap[k]?) : OwnSS w' B U p n c css ds := by
 refine ⟨h.len, h.dlen, ⟨h.row.1, ?_⟩, fun i hi => (h.item i hi).other hs (fun k h1 h2 h3 => hb k h1 (by have := h.low i hi; omega) (by have := h.low i hi; omega)), h.low, h.away, h.apart, h.top⟩
 rcases h.row.2 with h' | ⟨g, cap, cur, hv, hB, hg, r⟩
 ·exact .inl h'
 ·refine .inr ⟨g, cap, cur, hv, hB, (hb g (Array.getElem?_eq_some_iff.1 hg).1 hB (h.top g ?_)).trans hg, r⟩
  simp only [Value.slice.injEq] at hv; rw [hv.1]; rfl
theorem OwnCC.below {w w' : World} {B U : Nat} {p : Option Addr} {n c : Nat} {css : List (List Cel)} (h : OwnCC w B U p n c css) (hb : Below w.heap.size w w') : OwnCC w' B U p n c css := by
 obtain ⟨ds, h⟩ := h; exact ⟨ds, h.other hb.size (fun k hk _ _ => hb.block k hk)⟩
theorem OwnCC.keep {w w' : World} {B U B' U' : Nat} {p : Option Addr} {n c : Nat} {css : List (List Cel)} (h : OwnCC w B U p n c css) (hk : Keep B' U' w w') (ho : U ≤ B' ∨ U' ≤ B) : OwnCC w' B U p n c css := by
 obtain ⟨ds, h⟩ := h; exact ⟨ds, h.other hk.size (fun k h1 h2 h3 => hk.block k h1 (by omega))⟩
theorem OwnCC.up {w : World} {B U U' : Nat} {p : Option Addr} {n c : Nat} {css : List (List Cel)} (h : OwnCC w B U p n c css) (hU : U ≤ U') : OwnCC w B U' p n c css := by
 obtain ⟨ds, h⟩ := h; exact ⟨ds, h.len, h.dlen, h.row, h.item, fun i hi => ⟨(h.low i hi).1, Nat.le_trans (h.low i hi).2 hU⟩, h.away, h.apart, fun g hg => Nat.lt_of_lt_of_le (h.top g hg) hU⟩
theorem css_append_at (cs : List (List Cel)) (c : List Cel) (i : Nat) (h : i ≤ cs.length) : (cs ++ [c]).getD i [] = if i = cs.length then c else cs.getD i [] := by
 by_cases e : i = cs.length
 ·subst e; simp [List.getD]
 ·rw [if_neg e, List.getD, List.getD, List.getElem?_append_left (by omega)]
theorem vals_append (ds : List It) (css : List (List Cel)) (d : It) (c : List Cel) (h : ds.length = css.length) : vals (ds ++ [d]) (css ++ [c]) = vals ds css ++ [.slice d.1 c.length d.2.1] := by
 apply List.ext_getElem?
 intro i
 rcases Nat.lt_trichotomy i css.length with hi | hi | hi
 ·rw [vals_at _ _ _ (by simp; omega), List.getElem?_append_left (by simpa [vals] using hi), vals_at _ _ _ hi, ds_append_at _ _ _ (by omega), css_append_at _ _ _ (by omega), if_neg (by omega), if_neg (by omega)]
 ·subst hi
  rw [vals_at _ _ _ (by simp), List.getElem?_append_right (by simp [vals]), ds_append_at _ _ _ (by omega), css_append_at _ _ _ (by omega), if_pos h.symm, if_pos rfl]
  simp [vals]
 ·rw [List.getElem?_eq_none (by simp [vals]; omega), List.getElem?_eq_none (by simp [vals]; omega)]
theorem app_item (W0 w : World) {ops : Array Oper} {rest : List Oper} {o : Oper} {a : Act} {Q : Exit → Act → World → Prop} (hgd : o.guard = none) (s x : Operand)
  (ho : o.op = .call { callee := .builtin .append, args := #[s, x], argTypes := #[30, 30] }) (B : Nat) (p : Option Addr) (n c : Nat) (css : List (List Cel))
  (hs : a.eval s = .slice p n c) (hown : OwnCC W0 B W0.heap.size p n c css) (hb0 : Below W0.heap.size W0 w) (hB : B ≤ W0.heap.size) (q : Option Addr) (m cq : Nat) (cs : List Cel) (hit : OwnC w W0.heap.size q m cq cs)
  (hx : a.eval x = .slice (some ⟨w.heap.size, 0, none⟩) 1 1) (hlen : n + 1 ≤ 1000000)
  (h : ∀ g n' cap w', OwnCC w' B w'.heap.size (some ⟨g, 0, none⟩) n' cap (css ++ [cs]) → Below B (w.alloc (.cells #[.slice q m cq] 23)) w' → Hid (n' = n + 1) → wpList Tryz.prog ops Q rest (a.put o.dst (.slice (some ⟨g, 0, none⟩) n' cap)) w') : wpList Tryz.prog ops Q (o :: rest) a (w.alloc (.cells #[.slice q m cq] 23)) := by
 obtain ⟨i0, hi, hz0, hz1, hz2⟩ := info_parts infoCells; obtain ⟨ds, hss⟩ := hown; have hal : Below w.heap.size w (w.alloc (.cells #[.slice q m cq] 23)) := (Below.refl _ _).alloc (Nat.le_refl _) _; have hb1 := Below.on hb0 hal; refine wpList_append_lies _ hgd s x 30 ho B 23 i0 (.slice none 0 0) 1 24 Tryz.underlying30 hi hz0 hz1 hz2 rfl (by decide) (.slice p n c) n (vals ds css) hs (row_below hss.row hb1) ⟨w.heap.size, 0, none⟩ 1 1 [.slice q m cq] hx rfl (cell_one_new _ _ _) (fun u hu => by simp at hu; rw [hu]; rfl) (by decide) (by unfold maxLen; omega) (by omega) (Nat.le_trans hB hb1.size) _ rfl ?_
 intro g cap w' hown' hgrow hat hlt
 have hown : ∀ k, Value.ownBlock (.slice p n c) = some k → B ≤ k ∧ k < W0.heap.size := fun k hk => hss.row.lt k hk
 have hm := hit.1
 have hg2 : g < W0.heap.size ∨ w.heap.size ≤ g := by
  rcases hat with h' | h'
  ·exact .inl (hown g h').2
  ·right; rw [h']; simp
 have hws := hb0.size
 have keepS : ∀ k, k < w.heap.size → (∀ j, Value.ownBlock (.slice p n c) = some j → k ≠ j) → w'.heap[k]? = w.heap[k]? := fun k hk hne =>
  (hgrow.block k (by simp; omega) (fun e => hne k e.symm rfl)).trans (Below.heap_alloc _ _ _ hk)
 have hitU := hit.up; refine h g _ cap w' ⟨ds ++ [(q, cq, W0.heap.size, w.heap.size)], ?_⟩ ((Below.refl _ _).grown hgrow (Nat.le_trans hB hb1.size) (fun k hk => (hown k hk).1)) rfl; have hdl := hss.dlen; have hln := hss.len; refine ⟨by simp; omega, by simp; omega, by rw [vals_append _ _ _ _ hdl, ← hm]; exact hown', fun i hi => ?_, fun i hi => ?_, fun i hi k hk => ?_, fun i j hij hj => ?_, fun k hk => ?_⟩
 ·have hi' : i ≤ css.length := by simp at hi; omega
  rw [ds_append_at _ _ _ (by omega), css_append_at _ _ _ hi']
  by_cases e : i = css.length
  ·rw [if_pos (by omega), if_pos e, ← hm]
   exact hitU.other (by have := hgrow.size; simp at this; omega) (fun k h1 h2 h3 => keepS k h1 (fun j hj => by have := (hown j hj).2; omega))
  ·rw [if_neg (by omega), if_neg e]
   refine ((hss.item i (by omega)).below hb0).other (by have := hgrow.size; simp at this; omega) (fun k h1 h2 h3 => keepS k h1 (fun j hj => ?_)); have := hss.away i (by omega) j hj
   omega
 ·have hi' : i ≤ css.length := by simp at hi; omega
  rw [ds_append_at _ _ _ (by omega)]
  have hwl : w.heap.size ≤ w'.heap.size := by have := hgrow.size; simp at this; omega
  by_cases e : i = css.length
  ·rw [if_pos (by omega)]; exact ⟨hB, hwl⟩
  ·rw [if_neg (by omega)]
   have := hss.low i (by omega); exact ⟨this.1, by omega⟩
 ·have hi' : i ≤ css.length := by simp at hi; omega
  have hk' : k = g := (Option.some.inj hk).symm; subst hk'; rw [ds_append_at _ _ _ (by omega)]
  by_cases e : i = css.length
  ·rw [if_pos (by omega)]; exact hg2
  ·rw [if_neg (by omega)]
   rcases hat with h' | h'
   ·exact hss.away i (by omega) _ h'
   ·right
    have := (hss.low i (by omega)).2
    have hsz : (w.alloc (.cells #[.slice q m cq] 23)).heap.size = w.heap.size + 1 := by simp
    rw [h', hsz]; omega
 ·have hj' : j ≤ css.length := by simp at hj; omega
  rw [ds_append_at _ _ _ (by omega), ds_append_at _ _ _ (by omega), if_neg (by omega)]
  by_cases e : j = css.length
  ·rw [if_pos (by omega)]
   exact (hss.low i (by omega)).2
  ·rw [if_neg (by omega)]
   exact hss.apart i j hij (by omega)
 ·have hk' : k = g := (Option.some.inj hk).symm
  omega
def RowG (w : World) (g : Nat) : Prop := ∃ cur, w.heap[g]? = some (.cells cur 23 (0, 0)) ∧ ∃ q n c, cur[0]? = some (.slice q n c)
theorem OwnC.grown {w w' : World} {B n c : Nat} {p : Option Addr} {cs : List Cel} {row : Option Nat} (h : OwnC w B p n c cs) (hg : w.grownBy w' row) (hr : ∀ g, row = some g → RowG w g) : OwnC w' B p n c cs := by
 obtain ⟨hn, rs, hl, ho, hf, ha⟩ := h; refine ⟨hn, rs, hl, ho.kept hg ?_, fun i hi => ⟨(hf i hi).1, (hf i hi).2.1, (hf i hi).2.2.other hg.size (fun k h0 ek => ?_)⟩, ha⟩
 ·rcases ho.2 with ⟨hv, _⟩ | ⟨g, cap, cur, hv, _, hgg, _⟩
  ·rw [hv]; exact .inl rfl
  ·refine .inr (fun e => ?_)
   rw [hv] at e; obtain ⟨cur', h1, _⟩ := hr g e.symm; rw [h1] at hgg
   simp at hgg
 ·obtain ⟨k', e', _, hk, hc⟩ := (hf i hi).2.2.2 h0
  rw [ek] at e'
  cases e'
  refine hg.block k hk (fun e => ?_); obtain ⟨cur', h1, q, m, d, h2⟩ := hr k e.symm; have h3 := (hc 0 h0).1
  unfold World.cell? at h3
  simp only [h1] at h3
  have h4 : cur'[0]? = some (.int .u8 (((cs.getD i Cel.none).2.2).getD 0 0)) := by simpa using h3
  rw [h2] at h4
  cases h4
abbrev Sl3 := Option Addr × Nat × Nat
def Sl3.zero : Sl3 := (none, 0, 0)
def LS (w : World) (B : Nat) (q : Option Addr) (m c : Nat) (css : List (List Cel)) : Prop :=
 (css.length = 0 → q = none) ∧ ∃ rs : List Sl3, rs.length = css.length ∧ m = css.length ∧ w.ownsRow B 23 1 (.slice q m c) m (rs.map slV) ∧ ∀ j, j < css.length → OwnC w B (rs.getD j Sl3.zero).1 (rs.getD j Sl3.zero).2.1 (rs.getD j Sl3.zero).2.2 (css.getD j [])
theorem LS.nil (w : World) (B : Nat) : LS w B none 0 0 [] := ⟨fun _ => rfl, [], rfl, rfl, World.ownsRow_nil _ _ _ _, fun j h => by simp at h⟩
theorem LS.kept {w w' : World} {B m c : Nat} {q : Option Addr} {css : List (List Cel)} {row : Option Nat} (h : LS w B q m c css) (hg : w.grownBy w' row) (hr : ∀ g, row = some g → RowG w g) (hne : Value.ownBlock (.slice q m c) = none ∨ Value.ownBlock (.slice q m c) ≠ row) : LS w' B q m c css := by
 obtain ⟨hz, rs, h1, h2, h3, h4⟩ := h; exact ⟨hz, rs, h1, h2, h3.kept hg hne, fun j hj => (h4 j hj).grown hg hr⟩
theorem LS.below {w w' : World} {B m c : Nat} {q : Option Addr} {css : List (List Cel)} (h : LS w B q m c css) (hb : Below w.heap.size w w') : LS w' B q m c css :=
 h.kept (row := none) ⟨hb.os, hb.tape, hb.output, hb.size, fun k hk _ => hb.block k hk⟩ (fun g e => by cases e) (by cases hv : Value.ownBlock (.slice q m c) <;> simp)
theorem LS.row {w : World} {B m c : Nat} {q : Option Addr} {css : List (List Cel)} (h : LS w B q m c css) : ∀ g, Value.ownBlock (.slice q m c) = some g → 0 < css.length → RowG w g ∧ B ≤ g ∧ g < w.heap.size := by
 intro g hg h0
 obtain ⟨hz, rs, h1, h2, h3, h4⟩ := h; have hlt := h3.lt g hg
 rcases h3.2 with ⟨hv, _⟩ | ⟨g', cap, cur, hv, hB, hgg, hnc, _, hcs, htk⟩
 ·rw [hv] at hg; cases hg
 ·rw [hv] at hg
  cases hg
  refine ⟨⟨cur, hgg, ?_⟩, hlt⟩
  have e : cur.toList[0]? = (rs.map slV)[0]? := by
   rw [← htk, List.getElem?_take_of_lt (by omega)]
  rw [List.getElem?_map, List.getElem?_eq_getElem (show 0 < rs.length by omega)] at e; exact ⟨_, _, _, by rw [← Array.getElem?_toList]; exact e⟩
theorem LS.ccin {w : World} {B m c : Nat} {q : Option Addr} {css : List (List Cel)} (h : LS w B q m c css) : CCIn w q css := fun hn => by
 obtain ⟨hz, rs, h1, h2, h3, h4⟩ := h; obtain ⟨g, cap, hv, hb, hg⟩ := h3.form (by omega); simp only [Value.slice.injEq, true_and] at hv; obtain ⟨rfl, rfl⟩ := hv; refine ⟨g, 0, rfl, fun i hi => ⟨(rs.getD i Sl3.zero).1, (rs.getD i Sl3.zero).2.2, ?_, (h4 i hi).cin⟩⟩; rw [Nat.zero_add, h3.cellAt i (by omega), List.getElem?_map, List.getElem?_eq_getElem (show i < rs.length by omega)]
 have e : rs.getD i Sl3.zero = rs[i]'(by omega) := by rw [List.getD, List.getElem?_eq_getElem (show i < rs.length by omega)]; rfl
 have := (h4 i hi).1; rw [← this, e]
 rfl
theorem css_cat_at (a b : List (List Cel)) (i : Nat) : (a ++ b).getD i [] = if i < a.length then a.getD i [] else b.getD (i - a.length) [] := by
 simp only [List.getD, List.getElem?_append]
 split <;> rfl
theorem sl_cat_at (a b : List Sl3) (i : Nat) : (a ++ b).getD i Sl3.zero = if i < a.length then a.getD i Sl3.zero else b.getD (i - a.length) Sl3.zero := by
 simp only [List.getD, List.getElem?_append]
 split <;> rfl
def rdI (xs : List Int) (i : Nat) : Int := if i < xs.length then xs.getD i 0 else 0
def rdN (xs : List Int) (i : Nat) : Nat := if i < xs.length then i + 1 else i
theorem rdI_rng {xs : List Int} (hb : Bytes xs) (i : Nat) : 0 ≤ rdI xs i ∧ rdI xs i < 256 := by
 unfold rdI; split
 ·have := hb.at i; omega
 ·omega
theorem rdN_le {xs : List Int} {i : Nat} (h : i ≤ xs.length) : rdN xs i ≤ xs.length := by unfold rdN; split <;> omega
structure RdIn (w : World) (R : Nat) (p : Option Addr) (c : Nat) (xs : List Int) (i : Nat) : Prop where
 at0 : w.cell? ⟨R, 0, none⟩ = some (.slice p xs.length c)
 at1 : w.cell? ⟨R, 1, none⟩ = some (.int .i64 i)
 fz : w.frozen? ⟨R, 1, none⟩ = false
 lt : R < w.heap.size
 bytes : Bytes xs
 small : xs.length ≤ 500
 le : i ≤ xs.length
 text : BIn w p xs
 low : 0 < xs.length → ∀ a, p = some a → a.block < R
theorem RdIn.keep {w w' : World} {R : Nat} {p : Option Addr} {c : Nat} {xs : List Int} {i B U : Nat} (h : RdIn w R p c xs i) (k : Keep B U w w') (hR : R < B) : RdIn w' R p c xs i := by
 have hb : Below (R + 1) w w' := k.below hR (by have := h.lt; omega); refine ⟨(hb.cell (p := ⟨R, 0, none⟩) (Nat.lt_succ_self _)).trans h.at0, (hb.cell (p := ⟨R, 1, none⟩) (Nat.lt_succ_self _)).trans h.at1, (hb.frozen (p := ⟨R, 1, none⟩) (Nat.lt_succ_self _)).trans h.fz, Nat.lt_of_lt_of_le h.lt hb.size, h.bytes, h.small, h.le, ?_, h.low⟩
 intro hn
 obtain ⟨b, o, rfl, hc⟩ := h.text hn; exact ⟨b, o, rfl, fun j hj => (hb.cell (p := ⟨b, o + j, none⟩) (Nat.lt_succ_of_lt (h.low hn ⟨b, o, none⟩ rfl))).trans (hc j hj)⟩
theorem RdIn.below {w w' : World} {R : Nat} {p : Option Addr} {c : Nat} {xs : List Int} {i B : Nat} (h : RdIn w R p c xs i) (k : Below B w w') (hR : R < B) : RdIn w' R p c xs i :=
 h.keep (B := B) (U := w.heap.size) ⟨k.os, k.tape, k.output, k.size, fun j hj hp => k.block j (by omega)⟩ hR
theorem next_any (R c i : Nat) (p : Option Addr) (xs : List Int) (w : World) (h : RdIn w R p c xs i) :
  Calls Tryz.prog 15 #[.pointer (some ⟨R, 0, none⟩)] w fun e w' => e = .returned (.int .i64 (rdI xs i)) ∧ Keep R (R + 1) w w' ∧ w'.heap.size = w.heap.size ∧ RdIn w' R p c xs (rdN xs i) := by
 have h0 := h.at0; have h1 := h.at1; have hf := h.fz; have hs := h.small; have HH : Hid (RdIn w R p c xs i) := h
 by_cases hlt : i < xs.length
 ·rw [show rdI xs i = xs.getD i 0 by unfold rdI; rw [if_pos hlt], show rdN xs i = i + 1 by unfold rdN; rw [if_pos hlt]]
  obtain ⟨b, o, rfl, hc⟩ := h.text (by omega); have hx := hc i hlt; have hr := h.bytes.at i
  obtain ⟨x, ex⟩ : ∃ x, x = xs.getD i 0 := ⟨_, rfl⟩
  rw [← ex] at hx hr ⊢
  obtain ⟨n, en⟩ : ∃ n, n = xs.length := ⟨_, rfl⟩
  rw [← en] at h0 hs hlt; have HE : Hid (n = xs.length) := en
  have FIN : Hid (∀ k, Keep R (R + 1) w ((w.drewN k).setCell ⟨R, 1, none⟩ (.int .i64 (i + 1 : Nat))) ∧ ((w.drewN k).setCell ⟨R, 1, none⟩ (.int .i64 (i + 1 : Nat))).heap.size = w.heap.size ∧ RdIn ((w.drewN k).setCell ⟨R, 1, none⟩ (.int .i64 (i + 1 : Nat))) R (some ⟨b, o, none⟩) c xs (i + 1)) := by
   intro k
   have hk : Keep R (R + 1) w ((w.drewN k).setCell ⟨R, 1, none⟩ (.int .i64 (i + 1 : Nat))) := ⟨rfl, rfl, rfl, by simp, fun j _ hp => by rw [heap_setCell_other _ _ _ _ (by simp; omega)]; rfl⟩
   refine ⟨hk, by simp, ?_⟩; refine ⟨?_, World.cell?_setCell_same' _ _ _ (by show (w.cell? _).isSome = true; rw [h1]; rfl), ?_, by have := HH.out.lt; simpa using this, HH.out.bytes, HH.out.small, by omega, ?_, HH.out.low⟩
   ·rw [World.cell?_setCell_other _ _ _ _ (by intro e; simp only [Addr.mk.injEq] at e; omega)]; exact HH.out.at0
   ·rw [World.frozen?_setCell]; exact hf
   ·intro hn
    refine ⟨b, o, rfl, fun j hj => ?_⟩; rw [World.cell?_setCell_other _ _ _ _ (by intro e; simp only [Addr.mk.injEq] at e; have := HH.out.low hn _ rfl; simp only at this; omega)]; exact hc j hj
  clear ex hc h en
  go_enter Tryz.func15, Tryz.ntmps15
  go_wp2
  go_region
  all_goals go_wp2
  go_region
  all_goals go_wp2
  all_goals go_ret
  exact ⟨rfl, FIN.out 2⟩
 ·rw [show rdI xs i = 0 by unfold rdI; rw [if_neg hlt], show rdN xs i = i by unfold rdN; rw [if_neg hlt]]
  have hi : i = xs.length := by have := h.le; omega
  obtain ⟨n, en⟩ : ∃ n, n = xs.length := ⟨_, rfl⟩
  rw [← en] at h0 hs hi; subst hi; have HE : Hid (i = xs.length) := en; clear h en
  go_enter Tryz.func15, Tryz.ntmps15
  go_wp2
  go_region
  all_goals go_wp2
  all_goals go_ret
  exact ⟨rfl, Keep.of_grown (row := none) ⟨rfl, rfl, rfl, Nat.le_refl _, fun _ _ _ => rfl⟩ (by intro k e; cases e), rfl, HH.out.below (B := w.heap.size) (below_drewN (Below.refl _ _) 1) HH.out.lt⟩
theorem take_bin {w : World} {p : Option Addr} {xs : List Int} (h : BIn w p xs) (n : Nat) : BIn w p (xs.take n) := by
 intro hn
 rw [List.length_take] at hn; obtain ⟨b, o, rfl, hc⟩ := h (by omega); refine ⟨b, o, rfl, fun i hi => ?_⟩; rw [List.length_take] at hi; rw [hc i (by omega), List.getD, List.getD, List.getElem?_take_of_lt (by omega)]
theorem l4open_any (p : Option Addr) (c : Nat) (xs : List Int) (w : World) (hb : Bytes xs) (hn : xs.length ≤ 1048576) (hc : xs.length ≤ c) (hx : BIn w p xs) :
  Calls Tryz.prog 14 #[.slice p xs.length c] w fun e w' => e = .returned (.pointer (some ⟨w.heap.size, 0, none⟩)) ∧ Below w.heap.size w w' ∧ w'.heap.size = w.heap.size + 1 ∧ RdIn w' w.heap.size p c (xs.take 500) 0 := by
 have R : ∀ m : Nat, m = (xs.take 500).length → Hid (Below w.heap.size w (w.alloc (Obj.cells #[.slice p m c, .int .i64 0] 92)) ∧ (w.alloc (Obj.cells #[.slice p m c, .int .i64 0] 92)).heap.size = w.heap.size + 1 ∧ RdIn (w.alloc (Obj.cells #[.slice p m c, .int .i64 0] 92)) w.heap.size p c (xs.take 500) 0) := by
  intro m hm
  have hbl := (Below.refl w.heap.size w).alloc (Nat.le_refl _) (Obj.cells #[.slice p m c, .int .i64 0] 92); have hnew := heap_alloc_new w (Obj.cells #[.slice p m c, .int .i64 0] 92); refine ⟨hbl, by simp, ?_⟩; refine ⟨?_, ?_, ?_, by simp, fun x hx => hb x (List.mem_of_mem_take hx), by simp; omega, by omega, ?_, fun h0 a ea => ?_⟩
  ·rw [← hm]; unfold World.cell?; simp only [hnew]; rfl
  ·unfold World.cell?; simp only [hnew]; rfl
  ·exact frozen_of_row _ _ _ _ _ hnew
  ·intro h0
   obtain ⟨b, o, rfl, hh⟩ := take_bin hx 500 h0; exact ⟨b, o, rfl, fun j hj => (hbl.cell (p := ⟨b, o + j, none⟩) (World.block_lt_of_cell? _ _ (hh j hj))).trans (hh j hj)⟩
  ·obtain ⟨b, o, rfl, hh⟩ := take_bin hx 500 h0
   obtain rfl := Option.some.inj ea; exact World.block_lt_of_cell? _ _ (hh 0 h0)
 by_cases h5 : 500 < xs.length
 ·have RR := R 500 (by rw [List.length_take]; omega)
  clear R hx hb
  obtain ⟨n, en⟩ : ∃ n, n = xs.length := ⟨_, rfl⟩
  rw [← en] at hn hc h5 ⊢; have HE : Hid (n = xs.length) := en; clear en
  go_enter Tryz.func14, Tryz.ntmps14
  go_wp2
  go_ret; exact ⟨rfl, RR.out⟩
 ·have RR := R xs.length (by rw [List.length_take]; omega)
  clear R hx hb
  obtain ⟨n, en⟩ : ∃ n, n = xs.length := ⟨_, rfl⟩
  rw [← en] at hn hc h5 RR ⊢; have HE : Hid (n = xs.length) := en; clear en
  go_enter Tryz.func14, Tryz.ntmps14
  go_wp2
  go_ret; exact ⟨rfl, RR.out⟩
theorem Keep.cell {B U : Nat} {w w' : World} (h : Keep B U w w') {a : Addr} {v : Value} (hc : w.cell? a = some v) (ha : a.block < B ∨ U ≤ a.block) : w'.cell? a = some v := by
 have hb := h.block a.block (World.block_lt_of_cell? _ _ hc) ha
 unfold World.cell? at hc ⊢
 rw [hb]; exact hc
theorem Keep.of_below {B U : Nat} {w w' : World} (h : Below w.heap.size w w') : Keep B U w w' := ⟨h.os, h.tape, h.output, h.size, fun k hk _ => h.block k hk⟩
def nmU : List (List UInt8) := [[97], [102, 111, 111], [98, 49], [91, 93], [45], [43], [61], [58, 45], [44], [105, 115], [], [88, 32, 121], [92, 43], [123, 125], [33], [59], [46], [47, 42], [105, 116, 39, 115], [10, 128], [120, 111, 114], [109, 111, 100], [124], [42], [100, 121, 110, 97, 109, 105, 99], [64], [64, 64], [104, 101, 108, 108, 111, 95, 87, 111, 114, 108, 100]]
def nmV : List Value := nmU.map strV
theorem nm_made (w : World) (t : TypeId) (i : Nat) (h : i < 28) : (w.alloc (.cells nmV.toArray t)).cell? ⟨w.heap.size, i, none⟩ = some (.string (bOf (nmU.getD i []))) := by
 rw [cell_lit w nmV t i h]; simp only [nmV, List.getElem_map, List.getD, List.getElem?_eq_getElem (show i < nmU.length from h)]; rfl
def nameAt (x : Nat) : List UInt8 := nmU.getD (if x < 180 then x % 6 else x % 28) []
def NameOut (w : World) (R : Nat) (p : Option Addr) (c : Nat) (xs : List Int) (i : Nat) (e : Ending) (w' : World) : Prop :=
 ∃ g n cap, e = .returned (.slice (some ⟨g, 0, none⟩) n cap) ∧ n = (numsU (nameAt (rdI xs i).toNat)).length ∧ Keep R (R + 1) w w' ∧ RdIn w' R p c xs (rdN xs i) ∧ w.heap.size ≤ g ∧ OwnT w' w.heap.size (some ⟨g, 0, none⟩) n cap (numsU (nameAt (rdI xs i).toNat))
set_option maxHeartbeats 2000000 in
theorem l4name_any (R c i : Nat) (p : Option Addr) (xs : List Int) (w : World) (h : RdIn w R p c xs i) :
  Calls Tryz.prog 115 #[.pointer (some ⟨R, 0, none⟩)] w (NameOut w R p c xs i) := by
 have HH : Hid (RdIn w R p c xs i) := h; have hr := rdI_rng h.bytes i
 obtain ⟨wA, eA⟩ : ∃ wA, wA = w.alloc (.cells nmV.toArray 9) := ⟨_, rfl⟩
 have HNM : Hid (∀ j, j < 28 → wA.cell? ⟨w.heap.size, j, none⟩ = some (.string (bOf (nmU.getD j [])))) := fun j hj => by rw [eA]; exact nm_made w _ j hj
 have HBA : Hid (Below w.heap.size w wA) := by rw [eA]; exact (Below.refl _ _).alloc (Nat.le_refl _) _
 have HSA : Hid (w.heap.size < wA.heap.size) := by show _ < _; rw [eA]; simp
 clear h
 go_enter Tryz.func115, Tryz.ntmps115
 go_wp2_with fail
 have eA' : wA = w.alloc (Obj.cells #[.string ⟨#[97]⟩, .string ⟨#[102, 111, 111]⟩, .string ⟨#[98, 49]⟩, .string ⟨#[91, 93]⟩, .string ⟨#[45]⟩, .string ⟨#[43]⟩, .string ⟨#[61]⟩, .string ⟨#[58, 45]⟩, .string ⟨#[44]⟩, .string ⟨#[105, 115]⟩, .string ⟨#[]⟩, .string ⟨#[88, 32, 121]⟩, .string ⟨#[92, 43]⟩, .string ⟨#[123, 125]⟩, .string ⟨#[33]⟩, .string ⟨#[59]⟩, .string ⟨#[46]⟩, .string ⟨#[47, 42]⟩, .string ⟨#[105, 116, 39, 115]⟩, .string ⟨#[10, 128]⟩, .string ⟨#[120, 111, 114]⟩, .string ⟨#[109, 111, 100]⟩, .string ⟨#[124]⟩, .string ⟨#[42]⟩, .string ⟨#[100, 121, 110, 97, 109, 105, 99]⟩, .string ⟨#[64]⟩, .string ⟨#[64, 64]⟩, .string ⟨#[104, 101, 108, 108, 111, 95, 87, 111, 114, 108, 100]⟩] 9) := by rw [eA]; rfl
 rw [← eA']; clear eA eA'; have HRA := HH.out.below HBA.out HH.out.lt; refine (next_any R c i p xs wA HRA).mono ?_; rintro e w2 ⟨rfl, hk2, hs2, hR2⟩; have HR2 : Hid (RdIn w2 R p c xs (rdN xs i)) := hR2; have HK2 : Hid (Keep R (R + 1) w w2) := (Keep.of_below HBA.out).trans hk2
 obtain ⟨x, ex⟩ : ∃ x : Nat, rdI xs i = x := ⟨(rdI xs i).toNat, by omega⟩
 rw [ex] at hr ⊢
 have HXE : Hid ((rdI xs i).toNat = x) := by show _ = _; rw [ex]; rfl
 have FIN : Hid (∀ j s, nameAt x = nmU.getD j [] → j < 28 → s = bOf (nmU.getD j []) → w2.cell? ⟨w.heap.size, j, none⟩ = some (.string s) ∧ ∃ w3 n cap, (convert 9 22 (.string s)).run Tryz.prog w2 = .ok (.slice (some ⟨w2.heap.size, 0, none⟩) n cap) w3 ∧ NameOut w R p c xs i (.returned (.slice (some ⟨w2.heap.size, 0, none⟩) n cap)) w3) := by
  intro j s hj hj28 rfl
  refine ⟨hk2.cell (HNM.out j hj28) (.inr HH.out.lt), ?_⟩; obtain ⟨w3, cap, hcv, hb3, hot⟩ := conv_bytes w2 (numsU (nmU.getD j [])) (byte_numsU _) 9 Tryz.underlying9; rw [strOf_numsU] at hcv; have hsz : w.heap.size ≤ w2.heap.size := HK2.out.size; refine ⟨w3, _, cap, hcv, w2.heap.size, _, cap, rfl, by rw [HXE.out, hj], Keep.trans HK2.out ⟨hb3.os, hb3.tape, hb3.output, hb3.size, fun k hk _ => hb3.block k hk⟩, HR2.out.below hb3 HR2.out.lt, hsz, ?_⟩; rw [HXE.out, hj]; refine ⟨hot.1, fun hn => ?_⟩; obtain ⟨g, eg, h1, h2⟩ := hot.2 hn; exact ⟨g, eg, Nat.le_trans hsz h1, h2⟩
 clear hR2 hk2 HNM ex HRA hs2
 by_cases hlt : x < 180
 ·obtain ⟨j, ej⟩ : ∃ j, j = x % 6 := ⟨_, rfl⟩
  have hj6 : j < 6 := by omega
  obtain ⟨s, es⟩ : ∃ s, s = bOf (nmU.getD j []) := ⟨_, rfl⟩
  obtain ⟨hcell, w3, n, cap, hcv, hout⟩ := FIN.out j s (by unfold nameAt; rw [if_pos hlt, ej]) (by omega) es; have HO : Hid _ := hout
  have hmod : (x : Int).tmod 6 = (j : Int) := by rw [ej, Int.tmod_eq_emod_of_nonneg (by omega)]; rfl
  clear FIN es ej hout; go_wp2_with fail; go_ret; exact HO.out
 ·obtain ⟨j, ej⟩ : ∃ j, j = x % 28 := ⟨_, rfl⟩
  have hj6 : j < 28 := by omega
  obtain ⟨s, es⟩ : ∃ s, s = bOf (nmU.getD j []) := ⟨_, rfl⟩
  obtain ⟨hcell, w3, n, cap, hcv, hout⟩ := FIN.out j s (by unfold nameAt; rw [if_neg hlt, ej]) (by omega) es; have HO : Hid _ := hout
  have hmod : (x : Int).tmod 28 = (j : Int) := by rw [ej, Int.tmod_eq_emod_of_nonneg (by omega)]; rfl
  clear FIN es ej hout; go_wp2_with fail; go_ret; exact HO.out
def dot : Cel := (3, 2, [46])
def nilC : Cel := (2, 0, [91, 93])
def oddI : List Int := [0, 1, -1, 42, 1000000000000000, -1000000000000000, 255, 1000000]
def intD (x : Nat) : Int := if x < 40 then oddI.getD (x % 8) 0 else ((x % 12 : Nat) : Int) - 2
def leafT (xs : List Int) (k i : Nat) : List Cel × Nat :=
 if k % 5 = 0 then ([(1, intD (rdI xs i).toNat, [])], rdN xs i)
 else if k % 5 < 3 then ([(0, (((rdI xs i).toNat % 5 : Nat) : Int), [])], rdN xs i)
 else ([(2, 0, numsU (nameAt (rdI xs i).toNat))], rdN xs i)
def iterT (f : Nat → List Cel × Nat) : Nat → Nat → List (List Cel) × Nat
 | 0, i => ([], i)
 | n + 1, i => let r := f (iterT f n i).2; ((iterT f n i).1 ++ [r.1], r.2)
def binU : List (List UInt8) := [[45], [43], [61], [44], [58, 45], [59], [45, 62], [105, 115], [94], [42, 42], [42], [64, 64], [109, 111, 100], [102], [45, 45, 62], [114], [113]]
def unaU : List (List UInt8) := [[45], [92, 43], [58, 45], [43], [123, 125], [100, 121, 110, 97, 109, 105, 99], [103], [92], [112], [64, 64], [91, 93], [33]]
def lsL (css : List (List Cel)) (en : List Cel) : List Cel := css.flatMap (fun cs => dot :: cs) ++ en
def nodeT (xs : List Int) (f g : Nat → List Cel × Nat) (i : Nat) : List Cel × Nat :=
 let k := (rdI xs i).toNat
 let i1 := rdN xs i
 if i1 = xs.length ∨ k < 50 then leafT xs k i1
 else if k < 90 then
  let it := iterT f (1 + k % 3) i1
  if k % 4 = 0 then (lsL it.1 (g it.2).1, (g it.2).2) else (lsL it.1 [nilC], it.2)
 else if k < 180 then
  let a := f (rdN xs i1)
  let b := f a.2
  ((3, 2, numsU (binU.getD ((rdI xs i1).toNat % 17) [])) :: (a.1 ++ b.1), b.2)
 else if k < 230 then
  let a := f (rdN xs i1)
  ((3, 1, numsU (unaU.getD ((rdI xs i1).toNat % 12) [])) :: a.1, a.2)
 else
  let it := iterT f (1 + k % 4) i1
  ((3, ((1 + k % 4 : Nat) : Int), numsU (nameAt (rdI xs it.2).toNat)) :: it.1.flatten, rdN xs it.2)
def drawT (xs : List Int) : Nat → Nat → List Cel × Nat
 | 0 => fun i => leafT xs (rdI xs i).toNat (rdN xs i)
 | 1 => nodeT xs (drawT xs 0) (drawT xs 0)
 | d + 2 => nodeT xs (drawT xs (d + 1)) (drawT xs d)
structure Sml (m : Nat) (cs : List Cel) : Prop where
 pos : 0 < cs.length
 len : cs.length + 1 ≤ m
 txt : tl cs ≤ 11 * cs.length
theorem tl_app : ∀ (a b : List Cel), tl (a ++ b) = tl a + tl b
 | [], b => by simp [tl]
 | c :: a, b => by rw [List.cons_append, tl, tl, tl_app a b]; omega
theorem nameU_len (x : Nat) : (numsU (nameAt x)).length ≤ 11 := by
 rw [numsU, List.length_map, nameAt]
 have h : ∀ j, j < 28 → (nmU.getD j []).length ≤ 11 := by decide
 split
 ·exact h _ (by omega)
 ·exact h _ (by omega)
theorem binU_len (x : Nat) : (numsU (binU.getD (x % 17) [])).length ≤ 11 := by
 rw [numsU, List.length_map]
 have h : ∀ j, j < 17 → (binU.getD j []).length ≤ 11 := by decide
 exact h _ (by omega)
theorem unaU_len (x : Nat) : (numsU (unaU.getD (x % 12) [])).length ≤ 11 := by
 rw [numsU, List.length_map]
 have h : ∀ j, j < 12 → (unaU.getD j []).length ≤ 11 := by decide
 exact h _ (by omega)
theorem leafT_sml (xs : List Int) (k i : Nat) : Sml 2 (leafT xs k i).1 := by
 unfold leafT
 have := nameU_len (rdI xs i).toNat
 repeat' split
 all_goals exact ⟨by simp, by simp, by simp [tl]; try omega⟩
theorem iterT_len (f : Nat → List Cel × Nat) : ∀ (n i : Nat), (iterT f n i).1.length = n
 | 0, _ => rfl
 | n + 1, i => by simp [iterT, iterT_len f n i]
theorem iterT_at (f : Nat → List Cel × Nat) {P : List Cel → Prop} (hf : ∀ i, P (f i).1) : ∀ (n i j : Nat), j < n → P ((iterT f n i).1.getD j [])
 | 0, _, _, h => by omega
 | n + 1, i, j, h => by
   simp only [iterT]
   rcases Nat.lt_or_ge j n with h1 | h1
   ·rw [List.getD, List.getElem?_append_left (by rw [iterT_len]; exact h1)]
    exact iterT_at f hf n i j h1
   ·obtain rfl : j = n := by omega
    rw [List.getD, List.getElem?_append_right (by rw [iterT_len]; exact Nat.le_refl _), iterT_len, Nat.sub_self]; exact hf _
theorem iterT_sml (f : Nat → List Cel × Nat) {m : Nat} (hf : ∀ i, Sml m (f i).1) : ∀ (n i : Nat), (iterT f n i).1.flatten.length + n ≤ n * m ∧ tl (iterT f n i).1.flatten ≤ 11 * (iterT f n i).1.flatten.length
 | 0, _ => by simp [iterT, tl]
 | n + 1, i => by
   obtain ⟨h1, h2⟩ := iterT_sml f hf n i; have h3 := hf (iterT f n i).2; simp only [iterT, List.flatten_append, List.flatten_cons, List.flatten_nil, List.append_nil, List.length_append, tl_app]; have := h3.len; have := h3.txt; rw [Nat.add_mul]
   omega
theorem lsL_len : ∀ (css : List (List Cel)) (en : List Cel), (lsL css en).length = css.flatten.length + css.length + en.length ∧ tl (lsL css en) = tl css.flatten + css.length + tl en
 | [], en => by simp [lsL, tl]
 | c :: r, en => by
   obtain ⟨h1, h2⟩ := lsL_len r en; simp only [lsL, List.flatMap_cons, List.append_assoc, List.cons_append, List.length_cons, List.length_append, List.flatten_cons, tl_app, tl] at h1 h2 ⊢; simp only [dot, List.length_cons, List.length_nil] at h1 h2 ⊢
   omega
theorem nodeT_sml (xs : List Int) (f g : Nat → List Cel × Nat) {m : Nat} (h2 : 2 ≤ m) (hf : ∀ i, Sml m (f i).1) (hg : ∀ i, Sml m (g i).1) (i : Nat) : Sml (4 * m) (nodeT xs f g i).1 := by
 unfold nodeT
 simp only
 split
 ·have := leafT_sml xs (rdI xs i).toNat (rdN xs i)
  exact ⟨this.pos, by have := this.len; omega, this.txt⟩
 split
 ·obtain ⟨a1, a2⟩ := iterT_sml f hf (1 + (rdI xs i).toNat % 3) (rdN xs i)
  have hn : 1 + (rdI xs i).toNat % 3 ≤ 3 := by omega
  have h3 : (1 + (rdI xs i).toNat % 3) * m ≤ 3 * m := Nat.mul_le_mul_right m hn
  have h0 : 1 ≤ 1 + (rdI xs i).toNat % 3 := by omega
  generalize 1 + (rdI xs i).toNat % 3 = n at *
  split
  ·obtain ⟨b1, b2⟩ := lsL_len (iterT f n (rdN xs i)).1 (g (iterT f n (rdN xs i)).2).1
   have h4 := hg (iterT f n (rdN xs i)).2; rw [iterT_len] at b1 b2; have := h4.len; have := h4.pos; have := h4.txt
   show Sml (4 * m) (lsL (iterT f n (rdN xs i)).1 (g (iterT f n (rdN xs i)).2).1)
   exact ⟨by omega, by omega, by omega⟩
  ·obtain ⟨b1, b2⟩ := lsL_len (iterT f n (rdN xs i)).1 [nilC]
   rw [iterT_len] at b1 b2; have e1 : tl [nilC] = 2 := rfl; have e2 : [nilC].length = 1 := rfl; rw [e2] at b1; rw [e1] at b2
   show Sml (4 * m) (lsL (iterT f n (rdN xs i)).1 [nilC])
   exact ⟨by omega, by omega, by omega⟩
 split
 ·have ha := hf (rdN xs (rdN xs i)); have hb := hf (f (rdN xs (rdN xs i))).2
  have := ha.len; have := ha.pos; have := ha.txt; have := hb.len; have := hb.txt; have := binU_len (rdI xs (rdN xs i)).toNat; exact ⟨by simp, by simp; omega, by simp only [tl, tl_app, List.length_cons, List.length_append]; omega⟩
 split
 ·have ha := hf (rdN xs (rdN xs i))
  have := ha.len; have := ha.pos; have := ha.txt; have := unaU_len (rdI xs (rdN xs i)).toNat; exact ⟨by simp, by simp; omega, by simp only [tl, List.length_cons]; omega⟩
 ·obtain ⟨a1, a2⟩ := iterT_sml f hf (1 + (rdI xs i).toNat % 4) (rdN xs i)
  have hn : 1 + (rdI xs i).toNat % 4 ≤ 4 := by omega
  have h3 : (1 + (rdI xs i).toNat % 4) * m ≤ 4 * m := Nat.mul_le_mul_right m hn
  have h0 : 1 ≤ 1 + (rdI xs i).toNat % 4 := by omega
  generalize 1 + (rdI xs i).toNat % 4 = n at *
  have := nameU_len (rdI xs (iterT f n (rdN xs i)).2).toNat
  have h1 : n = 1 → n * m = m := fun e => by rw [e, Nat.one_mul]
  refine ⟨by simp, ?_, by simp only [tl, List.length_cons]; omega⟩; simp only [List.length_cons]
  rcases (by omega : n = 1 ∨ 2 ≤ n) with e | e
  ·have := h1 e
   omega
  ·omega
theorem drawT_sml (xs : List Int) : ∀ (d i : Nat), Sml (2 * 4 ^ d) (drawT xs d i).1
 | 0, i => leafT_sml xs _ _
 | 1, i => nodeT_sml xs _ _ (m := 2) (by omega) (drawT_sml xs 0) (drawT_sml xs 0) i
 | d + 2, i => by
   have := nodeT_sml xs (drawT xs (d + 1)) (drawT xs d) (m := 2 * 4 ^ (d + 1)) (by have := Nat.pow_pos (n := d + 1) (show 0 < 4 by decide); omega) (drawT_sml xs (d + 1)) (fun i => by
    have h := drawT_sml xs d i
    exact ⟨h.pos, Nat.le_trans h.len (by rw [Nat.pow_succ]; omega), h.txt⟩) i
   rw [Nat.pow_succ 4 (d + 1)]; rw [show 2 * (4 ^ (d + 1) * 4) = 4 * (2 * 4 ^ (d + 1)) by omega]; exact this
theorem conv_dot (w : World) : (convert 22 22 (.slice (some ⟨w.heap.size, 0, none⟩) 1 1)).run Tryz.prog (w.alloc (.cells #[.int .u8 46] 5)) = .ok (.slice (some ⟨w.heap.size, 0, none⟩) 1 1) (w.alloc (.cells #[.int .u8 46] 5 (1, 2))) :=
 Lib.run_convert_bytes_const (P := Tryz.prog) w 22 5 #[.int .u8 46] 1 1 Tryz.underlying22 Tryz.underlying5
theorem dot_text (w : World) : OwnT (w.alloc (.cells #[.int .u8 46] 5 (1, 2))) w.heap.size (some ⟨w.heap.size, 0, none⟩) 1 1 [46] := ⟨rfl, fun _ => ⟨w.heap.size, rfl, Nat.le_refl _, by simp, fun i hi => by
 have hi0 : i = 0 := by omega
 subst hi0; refine ⟨cell_of_row _ _ 0 _ _ _ (heap_alloc_new _ _), ?_⟩; simp only [World.frozen?, heap_alloc_new]
 simp⟩⟩
def mkL (css : List (List Cel)) : List Cel := css.flatMap (fun cs => dot :: cs)
theorem mkL_take (css : List (List Cel)) (j : Nat) (h : j < css.length) : mkL (css.take (j + 1)) = mkL (css.take j) ++ [dot] ++ css.getD j [] := by
 rw [mkL, List.take_succ_eq_append_getElem h, List.flatMap_append, List.getD, List.getElem?_eq_getElem h]
 simp [mkL]
set_option maxHeartbeats 1000000 in
theorem l2listE_any (css : List (List Cel)) (en : List Cel) (p q : Option Addr) (n c le cq : Nat) (w : World) (hle : le = en.length) (hle0 : 0 < le) (hlb : le + tl en ≤ 1000000) (hn : n = css.length) (hl : n ≤ 2000) (hne : ∀ i, i < css.length → 0 < (css.getD i []).length) (hb : css.length + tll css ≤ 1048576) (hsz : (mkL css).length ≤ 1000000) (hin : CCIn w p css) (hend : CIn w q en) :
  Calls Tryz.prog 117 #[.slice p n c, .slice q le cq] w fun e w' => ∃ r m cr, e = .returned (.slice r m cr) ∧ OwnC w' w.heap.size r m cr (mkL css ++ en) ∧ Below w.heap.size w w' := by
 have HI : Hid (CCIn w p css) := hin; have HE : Hid (CIn w q en) := hend; have HLE : Hid (le = en.length) := hle; have HLB : Hid (le + tl en ≤ 1000000) := hlb
 have hle1 : le ≤ 1000000 := by omega
 have HN : Hid (n = css.length) := hn; have HNE : Hid _ := hne; have hcs := conv_dot; clear hin hend hn hne hle hlb
 go_enter Tryz.func117, Tryz.ntmps117
 go_wp2_with fail
 go_loopw [5, 6] (fun s i wr => ∃ (j : Nat) (r : Option Addr) (m cr : Nat), j ≤ n ∧ m ≤ 1000000 ∧ i = .int .i64 j ∧ s = .slice r m cr ∧ Hid (OwnC wr w.heap.size r m cr (mkL (css.take j))) ∧ Hid (Below w.heap.size w wr)) (fun _ i _ => n - (intOf i).toNat)
 case atStart => exact ⟨0, none, 0, 0, Nat.zero_le _, by decide, rfl, rfl, OwnC.nil _ _, Below.refl _ _⟩
 case round =>
  obtain ⟨j, r, m, cr, hj, hm, rfl, rfl, HO, HB⟩ := hrel; have hBs : w.heap.size ≤ wr.heap.size := HB.out.size
  by_cases hlt : j < n
  ·have hjl : j < css.length := by rw [← HN.out]; exact hlt
   have hal : Below wr.heap.size wr (wr.alloc (.cells #[.int .u8 46] 5 (1, 2))) := (Below.refl _ _).alloc (Nat.le_refl _) _; have HT0 : Hid (OwnT (wr.alloc (.cells #[.int .u8 46] 5 (1, 2))) wr.heap.size (some ⟨wr.heap.size, 0, none⟩) 1 1 [46]) := dot_text wr; obtain ⟨b, o, rfl, hcss⟩ := HI.out (by omega); obtain ⟨qi, ci, x0, x1⟩ := hcss j hjl; have HX1 : Hid (CIn w qi (css.getD j [])) := x1; have hbj := tll_at css j hjl; have hpos := HNE.out j hjl
   obtain ⟨li, eli⟩ : ∃ li, li = (css.getD j []).length := ⟨_, rfl⟩
   have HLI : Hid (li = (css.getD j []).length) := eli
   have hli : 0 < li := by omega
   have hli2 : li ≤ 1048576 := by omega
   rw [← eli] at x0; have X0 : Hid (w.cell? ⟨b, o + j, none⟩ = some (.slice qi li ci)) := x0
   have HBJ : Hid ((css.getD j []).length + tl (css.getD j []) ≤ 1048576) := by show _ ≤ _; omega
   have HMK : Hid _ := mkL_take css j hjl
   have HML : Hid ((mkL (css.take (j + 1))).length ≤ 1000000) := by
    have h1 : mkL css = mkL (css.take (j + 1)) ++ mkL (css.drop (j + 1)) := by rw [mkL, mkL, mkL, ← List.flatMap_append, List.take_append_drop]
    have h2 := congrArg List.length h1; rw [List.length_append] at h2
    show _ ≤ _
    omega
   clear hcss x1 hbj hpos eli x0; have hal2 : Below (wr.alloc (.cells #[.int .u8 46] 5 (1, 2))).heap.size (wr.alloc (.cells #[.int .u8 46] 5 (1, 2))) ((wr.alloc (.cells #[.int .u8 46] 5 (1, 2))).alloc (Obj.cells #[Value.int IntKind.i64 3, Value.int IntKind.i64 2, Value.slice (some ⟨wr.heap.size, 0, none⟩) 1 1] 63)) := (Below.refl _ _).alloc (Nat.le_refl _) _; have HBA : Hid (Below wr.heap.size wr ((wr.alloc (.cells #[.int .u8 46] 5 (1, 2))).alloc (Obj.cells #[Value.int IntKind.i64 3, Value.int IntKind.i64 2, Value.slice (some ⟨wr.heap.size, 0, none⟩) 1 1] 63))) := Below.on hal hal2; have HTT : Hid (OwnT ((wr.alloc (.cells #[.int .u8 46] 5 (1, 2))).alloc (Obj.cells #[Value.int IntKind.i64 3, Value.int IntKind.i64 2, Value.slice (some ⟨wr.heap.size, 0, none⟩) 1 1] 63)) wr.heap.size (some ⟨wr.heap.size, 0, none⟩) 1 1 [46]) := HT0.out.below hal2
   have hnew := heap_alloc_new (wr.alloc (.cells #[.int .u8 46] 5 (1, 2))) (Obj.cells #[Value.int IntKind.i64 3, Value.int IntKind.i64 2, Value.slice (some ⟨wr.heap.size, 0, none⟩) 1 1] 63)
   have esz : (wr.alloc (.cells #[.int .u8 46] 5 (1, 2))).heap.size = wr.heap.size + 1 := by simp
   rw [esz] at hnew; have HBX : Hid (Box3 ((wr.alloc (.cells #[.int .u8 46] 5 (1, 2))).alloc (Obj.cells #[Value.int IntKind.i64 3, Value.int IntKind.i64 2, Value.slice (some ⟨wr.heap.size, 0, none⟩) 1 1] 63)) (wr.heap.size + 1) (.int .i64 3) (.int .i64 2) (.slice (some ⟨wr.heap.size, 0, none⟩) 1 1)) := Box3.of_block (t := 63) hnew; clear hal hal2 hnew esz HT0; go_wp2_with (at_builtin; refine app_cell wr _ rfl _ _ rfl w.heap.size r m cr _ rfl HO.out HBA.out hBs ⟨wr.heap.size + 1, 0, none⟩ 1 rfl 3 2 (some ⟨wr.heap.size, 0, none⟩) 1 1 [46] HTT.out (news_rc HBX.out) (by omega) ?_; intro g1 n1 cap1 w2 hown2 hb2 hn1; have hB2 : Below w.heap.size w w2 := (HB.out.trans (HBA.out.mono hBs)).trans hb2; have y0 := (hB2.cell (World.block_lt_of_cell? _ _ X0.out)).trans X0.out); have HB2 : Hid (Below w.heap.size w w2) := hB2; have HO2 : Hid (OwnC w2 w.heap.size (some ⟨g1, 0, none⟩) n1 cap1 (mkL (css.take j) ++ [dot])) := hown2
   have HN1 : Hid (n1 = m + 1) := hn1.out
   have hn1' : n1 ≤ 1000001 := by have := hn1.out; omega
   have HCP := l2copy_any qi li ci (css.getD j []) w2 HLI.out (by have := HBJ.out; omega) (HX1.out.below hB2); clear hown2 hb2 hB2; refine HCP.mono ?_; rintro e w3 ⟨q3, m3, c3, rfl, ho3, hb3⟩; have HO3 : Hid (OwnC w3 w2.heap.size q3 m3 c3 (css.getD j [])) := ho3; have HB3 : Hid (Below w2.heap.size w2 w3) := hb3
   have HM3 : Hid (m3 = li) := by show _ = _; rw [ho3.1, HLI.out]
   have hm3 : 0 < m3 := by have := HM3.out; omega
   have hm3' : m3 ≤ 1048576 := by have := HM3.out; omega
   have hBs2 : w.heap.size ≤ w2.heap.size := HB2.out.size; clear ho3 hb3 HCP; go_wp2_with (at_builtin; refine app_cells w2 w3 rfl _ _ rfl w.heap.size (some ⟨g1, 0, none⟩) n1 cap1 _ rfl HO2.out HB3.out hBs2 q3 m3 c3 _ rfl HO3.out hm3 (by omega) ?_; intro g4 n4 cap4 w4 hown4 hb4 hn4)
   have HO4 : Hid (OwnC w4 w.heap.size (some ⟨g4, 0, none⟩) n4 cap4 (mkL (css.take (j + 1)))) := by rw [HMK.out]; exact hown4
   have HB4 : Hid (Below w.heap.size w w4) := (Below.on HB2.out HB3.out).trans hb4
   have hn4' : n4 ≤ 1000000 := by rw [HO4.out.1]; exact HML.out
   clear hown4 hb4; go_roundw
   case rel => exact ⟨j + 1, _, n4, cap4, by omega, hn4', by go_num, rfl, HO4, HB4⟩
   case measure => simp [intOf]; omega
  ·obtain rfl : j = n := by omega
   have HCP := l2copy_any q le cq en wr HLE.out (by have := HLB.out; have := HLE.out; omega) (HE.out.below HB.out)
   have HOA : Hid (OwnC wr w.heap.size r m cr (mkL css)) := by have := HO.out; rwa [List.take_of_length_le (by rw [← HN.out]; exact Nat.le_refl _)] at this
   go_wp2_with fail; refine HCP.mono ?_; rintro e w3 ⟨q3, m3, c3, rfl, ho3, hb3⟩; have HO3 : Hid (OwnC w3 wr.heap.size q3 m3 c3 en) := ho3; have HB3 : Hid (Below wr.heap.size wr w3) := hb3
   have hm3 : m3 = le := by rw [ho3.1, HLE.out]
   subst hm3; clear ho3 hb3 HCP; go_wp2_with (at_builtin; refine app_cells wr w3 rfl _ _ rfl w.heap.size r m cr _ rfl HOA.out HB3.out hBs q3 m3 c3 _ rfl HO3.out hle0 (by omega) ?_; intro g4 n4 cap4 w4 hown4 hb4 hn4); go_ret; exact ⟨_, _, _, rfl, hown4, (Below.on HB.out HB3.out).trans hb4⟩
theorem app_itemU (U : Nat) (w : World) {ops : Array Oper} {rest : List Oper} {o : Oper} {a : Act} {Q : Exit → Act → World → Prop} (hgd : o.guard = none) (s x : Operand)
  (ho : o.op = .call { callee := .builtin .append, args := #[s, x], argTypes := #[30, 30] }) (B : Nat) (p : Option Addr) (n c : Nat) (css : List (List Cel))
  (hs : a.eval s = .slice p n c) (hown : OwnCC w B U p n c css) (hU : U ≤ w.heap.size) (hB : B ≤ U) (q : Option Addr) (m cq : Nat) (cs : List Cel) (hit : OwnC w U q m cq cs)
  (hx : a.eval x = .slice (some ⟨w.heap.size, 0, none⟩) 1 1) (hlen : n + 1 ≤ 1000000)
  (h : ∀ g n' cap w', OwnCC w' B w'.heap.size (some ⟨g, 0, none⟩) n' cap (css ++ [cs]) → Below B (w.alloc (.cells #[.slice q m cq] 23)) w' → Hid (n' = n + 1) → wpList Tryz.prog ops Q rest (a.put o.dst (.slice (some ⟨g, 0, none⟩) n' cap)) w') : wpList Tryz.prog ops Q (o :: rest) a (w.alloc (.cells #[.slice q m cq] 23)) := by
 obtain ⟨i0, hi, hz0, hz1, hz2⟩ := info_parts infoCells; obtain ⟨ds, hss⟩ := hown; have hal : Below w.heap.size w (w.alloc (.cells #[.slice q m cq] 23)) := (Below.refl _ _).alloc (Nat.le_refl _) _; refine wpList_append_lies _ hgd s x 30 ho B 23 i0 (.slice none 0 0) 1 24 Tryz.underlying30 hi hz0 hz1 hz2 rfl (by decide) (.slice p n c) n (vals ds css) hs (row_below hss.row hal) ⟨w.heap.size, 0, none⟩ 1 1 [.slice q m cq] hx rfl (cell_one_new _ _ _) (fun u hu => by simp at hu; rw [hu]; rfl) (by decide) (by unfold maxLen; omega) (by omega) (Nat.le_trans (Nat.le_trans hB hU) hal.size) _ rfl ?_
 intro g cap w' hown' hgrow hat hlt
 have hown : ∀ k, Value.ownBlock (.slice p n c) = some k → B ≤ k ∧ k < U := fun k hk => ⟨(hss.row.lt k hk).1, hss.top k hk⟩
 have hm := hit.1
 have hg2 : g < U ∨ w.heap.size ≤ g := by
  rcases hat with h' | h'
  ·exact .inl (hown g h').2
  ·right; rw [h']; simp
 have hws := hU
 have keepS : ∀ k, k < w.heap.size → (∀ j, Value.ownBlock (.slice p n c) = some j → k ≠ j) → w'.heap[k]? = w.heap[k]? := fun k hk hne =>
  (hgrow.block k (by simp; omega) (fun e => hne k e.symm rfl)).trans (Below.heap_alloc _ _ _ hk)
 have hitU := hit.up; refine h g _ cap w' ⟨ds ++ [(q, cq, U, w.heap.size)], ?_⟩ ((Below.refl _ _).grown hgrow (Nat.le_trans (Nat.le_trans hB hU) hal.size) (fun k hk => (hown k hk).1)) rfl; have hdl := hss.dlen; have hln := hss.len; refine ⟨by simp; omega, by simp; omega, by rw [vals_append _ _ _ _ hdl, ← hm]; exact hown', fun i hi => ?_, fun i hi => ?_, fun i hi k hk => ?_, fun i j hij hj => ?_, fun k hk => ?_⟩
 ·have hi' : i ≤ css.length := by simp at hi; omega
  rw [ds_append_at _ _ _ (by omega), css_append_at _ _ _ hi']
  by_cases e : i = css.length
  ·rw [if_pos (by omega), if_pos e, ← hm]
   exact hitU.other (by have := hgrow.size; simp at this; omega) (fun k h1 h2 h3 => keepS k h1 (fun j hj => by have := (hown j hj).2; omega))
  ·rw [if_neg (by omega), if_neg e]
   refine (hss.item i (by omega)).other (by have := hgrow.size; simp at this; omega) (fun k h1 h2 h3 => keepS k h1 (fun j hj => ?_)); have := hss.away i (by omega) j hj
   omega
 ·have hi' : i ≤ css.length := by simp at hi; omega
  rw [ds_append_at _ _ _ (by omega)]
  have hwl : w.heap.size ≤ w'.heap.size := by have := hgrow.size; simp at this; omega
  by_cases e : i = css.length
  ·rw [if_pos (by omega)]; exact ⟨hB, hwl⟩
  ·rw [if_neg (by omega)]
   have := hss.low i (by omega); exact ⟨this.1, by omega⟩
 ·have hi' : i ≤ css.length := by simp at hi; omega
  have hk' : k = g := (Option.some.inj hk).symm; subst hk'; rw [ds_append_at _ _ _ (by omega)]
  by_cases e : i = css.length
  ·rw [if_pos (by omega)]; exact hg2
  ·rw [if_neg (by omega)]
   rcases hat with h' | h'
   ·exact hss.away i (by omega) _ h'
   ·right
    have := (hss.low i (by omega)).2
    have hsz : (w.alloc (.cells #[.slice q m cq] 23)).heap.size = w.heap.size + 1 := by simp
    rw [h', hsz]; omega
 ·have hj' : j ≤ css.length := by simp at hj; omega
  rw [ds_append_at _ _ _ (by omega), ds_append_at _ _ _ (by omega), if_neg (by omega)]
  by_cases e : j = css.length
  ·rw [if_pos (by omega)]
   exact (hss.low i (by omega)).2
  ·rw [if_neg (by omega)]
   exact hss.apart i j hij (by omega)
 ·have hk' : k = g := (Option.some.inj hk).symm
  omega
def bigL (m : Nat) : List Cel := (List.range m).flatMap (fun j => [dot, (0, ((j % 7 : Nat) : Int), [])])
def bigF (n : Nat) : List Cel := (bigL ((n - 1) / 2) ++ (if n % 2 = 0 then [(3, 1, [102])] else [])) ++ [nilC]
def spoilF (xs : List Int) (cs : List Cel) (i : Nat) : List Cel × Nat :=
 let k := (rdI xs i).toNat % 9
 let a := (rdI xs (rdN xs i)).toNat % cs.length
 let i2 := rdN xs (rdN xs i)
 let c := cs.getD a Cel.none
 let y := (rdI xs i2).toNat
 if k = 0 then (cs.set a (((y % 6 : Nat) : Int) - 1, c.2.1, c.2.2), rdN xs i2)
 else if k = 1 then (cs.set a (c.1, c.2.1 + 1, c.2.2), i2)
 else if k = 2 then (cs.set a (c.1, -1, c.2.2), i2)
 else if k = 3 then (cs.take (cs.length - 1), i2)
 else if k = 4 then (cs ++ [(2, 0, [])], i2)
 else if k = 5 then (cs.set a (c.1, c.2.1, List.replicate (100 + y % 2) 116), rdN xs i2)
 else if k = 6 then (cs.set a (c.1, 1000000000000000 + ((y % 2 : Nat) : Int), c.2.2), rdN xs i2)
 else if k = 7 then (bigF (1999 + y % 3), rdN xs i2)
 else (cs.set a (0, 1000000 + ((y % 2 : Nat) : Int), []), rdN xs i2)
def anyF (xs : List Int) (i : Nat) : List Cel × Nat :=
 let r := drawT xs 4 (rdN xs i)
 if (rdI xs i).toNat % 16 = 0 then spoilF xs r.1 r.2 else r
structure Mid (cs : List Cel) : Prop where
 len : cs.length ≤ 2001
 txt : tl cs ≤ 12000
 byte : ∀ i, i < cs.length → Byte (cs.getD i Cel.none).2.2
def ByteC (cs : List Cel) : Prop := ∀ c ∈ cs, Byte c.2.2
theorem ByteC.get {cs : List Cel} (h : ByteC cs) (i : Nat) (hi : i < cs.length) : Byte (cs.getD i Cel.none).2.2 := by
 rw [List.getD, List.getElem?_eq_getElem hi]; exact h _ (List.getElem_mem hi)
theorem ByteC.app {a b : List Cel} (ha : ByteC a) (hb : ByteC b) : ByteC (a ++ b) := fun c hc => by
 rcases List.mem_append.1 hc with h | h
 ·exact ha c h
 ·exact hb c h
theorem ByteC.cons {c : Cel} {b : List Cel} (ha : Byte c.2.2) (hb : ByteC b) : ByteC (c :: b) := fun d hd => by
 rcases List.mem_cons.1 hd with rfl | h
 ·exact ha
 ·exact hb d h
theorem ByteC.nil : ByteC [] := fun c h => by cases h
theorem byte_nilD : Byte [] := fun x h => by cases h
theorem ByteC.flatten {css : List (List Cel)} (h : ∀ j, j < css.length → ByteC (css.getD j [])) : ByteC css.flatten := fun c hc => by
 obtain ⟨cs, h1, h2⟩ := List.mem_flatten.1 hc; obtain ⟨j, hj, rfl⟩ := List.mem_iff_getElem.1 h1; have := h j hj; rw [List.getD, List.getElem?_eq_getElem hj] at this; exact this c h2
theorem ByteC.ls {css : List (List Cel)} {en : List Cel} (h : ∀ j, j < css.length → ByteC (css.getD j [])) (he : ByteC en) : ByteC (lsL css en) := by
 refine ByteC.app (fun c hc => ?_) he; obtain ⟨cs, h1, h2⟩ := List.mem_flatMap.1 hc
 rcases List.mem_cons.1 h2 with rfl | h3
 ·intro x hx; simp [dot] at hx; omega
 ·obtain ⟨j, hj, rfl⟩ := List.mem_iff_getElem.1 h1
  have := h j hj; rw [List.getD, List.getElem?_eq_getElem hj] at this; exact this c h3
theorem byte_nilC : ByteC [nilC] := fun c hc => by
 rw [List.mem_singleton.1 hc]
 intro x hx; simp [nilC] at hx; omega
theorem leafT_byte (xs : List Int) (k i : Nat) : ByteC (leafT xs k i).1 := by
 unfold leafT
 repeat' split
 all_goals refine ByteC.cons ?_ ByteC.nil
 ·exact byte_nilD
 ·exact byte_nilD
 ·exact byte_numsU _
theorem nodeT_byte (xs : List Int) (f g : Nat → List Cel × Nat) (hf : ∀ i, ByteC (f i).1) (hg : ∀ i, ByteC (g i).1) (i : Nat) : ByteC (nodeT xs f g i).1 := by
 unfold nodeT
 simp only
 split
 ·exact leafT_byte _ _ _
 split
 ·have h : ∀ n i j, j < (iterT f n i).1.length → ByteC ((iterT f n i).1.getD j []) := fun n i j hj => iterT_at f hf n i j (by rwa [iterT_len] at hj)
  split
  ·exact ByteC.ls (h _ _) (hg _)
  ·exact ByteC.ls (h _ _) byte_nilC
 split
 ·exact ByteC.cons (byte_numsU _) ((hf _).app (hf _))
 split
 ·exact ByteC.cons (byte_numsU _) (hf _)
 ·exact ByteC.cons (byte_numsU _) (ByteC.flatten (fun j hj => iterT_at f hf _ _ j (by rwa [iterT_len] at hj)))
theorem drawT_byte (xs : List Int) : ∀ (d i : Nat), ByteC (drawT xs d i).1
 | 0, i => leafT_byte _ _ _
 | 1, i => nodeT_byte _ _ _ (drawT_byte xs 0) (drawT_byte xs 0) i
 | d + 2, i => nodeT_byte _ _ _ (drawT_byte xs (d + 1)) (drawT_byte xs d) i
theorem tl_set : ∀ (cs : List Cel) (i : Nat) (c : Cel), tl (cs.set i c) ≤ tl cs + c.2.2.length
 | [], i, c => by simp [tl]
 | d :: r, 0, c => by simp only [List.set_cons_zero, tl]; omega
 | d :: r, i + 1, c => by
   have := tl_set r i c; simp only [List.set_cons_succ, tl]; omega
theorem ByteC.set {cs : List Cel} (h : ByteC cs) (i : Nat) {c : Cel} (hc : Byte c.2.2) : ByteC (cs.set i c) := fun d hd => by
 rcases List.mem_or_eq_of_mem_set hd with h1 | rfl
 ·exact h d h1
 ·exact hc
theorem ByteC.getD {cs : List Cel} (h : ByteC cs) (i : Nat) : Byte (cs.getD i Cel.none).2.2 := by
 rcases Nat.lt_or_ge i cs.length with hi | hi
 ·exact h.get i hi
 ·rw [List.getD, List.getElem?_eq_none hi]; exact byte_nilD
theorem bigL_facts : ∀ m, (bigL m).length = 2 * m ∧ tl (bigL m) = m ∧ ByteC (bigL m)
 | 0 => ⟨rfl, rfl, ByteC.nil⟩
 | m + 1 => by
   obtain ⟨h1, h2, h3⟩ := bigL_facts m
   have e : bigL (m + 1) = bigL m ++ [dot, (0, ((m % 7 : Nat) : Int), [])] := by simp [bigL, List.range_succ, List.flatMap_append]
   rw [e]; refine ⟨by simp [h1]; omega, by rw [tl_app, h2]; rfl, h3.app (ByteC.cons ?_ (ByteC.cons byte_nilD ByteC.nil))⟩
   intro x hx; simp [dot] at hx; omega
theorem bigL_succ (m : Nat) : bigL (m + 1) = bigL m ++ [dot, (0, ((m % 7 : Nat) : Int), [])] := by simp [bigL, List.range_succ, List.flatMap_append]
theorem Mid.of {cs : List Cel} (h1 : cs.length ≤ 2001) (h2 : tl cs ≤ 12000) (h3 : ByteC cs) : Mid cs := ⟨h1, h2, h3.get⟩
theorem drawT_mid (xs : List Int) (i : Nat) : (drawT xs 4 i).1.length ≤ 511 ∧ tl (drawT xs 4 i).1 ≤ 5621 ∧ 0 < (drawT xs 4 i).1.length := by
 have h := drawT_sml xs 4 i; have := h.len; have := h.txt; exact ⟨by omega, by omega, h.pos⟩
theorem spoilF_mid (xs : List Int) (cs : List Cel) (i : Nat) (h1 : cs.length ≤ 511) (h2 : tl cs ≤ 5621) (hb : ByteC cs) : Mid (spoilF xs cs i).1 ∧ ByteC (spoilF xs cs i).1 := by
 have hat : ∀ a, (cs.getD a Cel.none).2.2.length ≤ tl cs := fun a => by
  rcases Nat.lt_or_ge a cs.length with h | h
  ·exact tl_at cs a h
  ·rw [List.getD, List.getElem?_eq_none h]; exact Nat.zero_le _
 have st : ∀ a (c : Cel), c.2.2.length ≤ 101 ∨ c.2.2 = (cs.getD a Cel.none).2.2 → Byte c.2.2 → Mid (cs.set a c) ∧ ByteC (cs.set a c) := fun a c hl hc => by
  refine ⟨Mid.of (by rw [List.length_set]; omega) ?_ (hb.set a hc), hb.set a hc⟩
  rcases hl with hl | hl
  ·have := tl_set cs a c; omega
  ·have := tl_set cs a c; have := hat a; rw [hl] at *; omega
 unfold spoilF
 simp only
 split
 ·exact st _ _ (.inr rfl) (hb.getD _)
 split
 ·exact st _ _ (.inr rfl) (hb.getD _)
 split
 ·exact st _ _ (.inr rfl) (hb.getD _)
 split
 ·have hh : ByteC (cs.take (cs.length - 1)) := fun c hc => hb c (List.mem_of_mem_take hc)
  exact ⟨Mid.of (by rw [List.length_take]; omega) (Nat.le_trans (tl_take_le _ _) (by omega)) hh, hh⟩
 split
 ·have hh : ByteC (cs ++ [(2, 0, [])]) := hb.app (ByteC.cons byte_nilD ByteC.nil)
  exact ⟨Mid.of (by simp; omega) (by rw [tl_app]; simp [tl]; omega) hh, hh⟩
 split
 ·refine st _ _ (.inl (by simp; omega)) (fun x hx => ?_)
  rw [(List.mem_replicate.1 hx).2]; omega
 split
 ·exact st _ _ (.inr rfl) (hb.getD _)
 split
 ·have hn : 1999 + (rdI xs (rdN xs (rdN xs i))).toNat % 3 ≤ 2001 := by omega
  generalize 1999 + (rdI xs (rdN xs (rdN xs i))).toNat % 3 = n at *
  obtain ⟨a1, a2, a3⟩ := bigL_facts ((n - 1) / 2)
  have hh : ByteC (bigF n) := by
   unfold bigF
   refine (a3.app ?_).app byte_nilC
   split
   ·exact ByteC.cons (fun x hx => by simp at hx; omega) ByteC.nil
   ·exact ByteC.nil
  refine ⟨Mid.of ?_ ?_ hh, hh⟩
  ·unfold bigF
   rw [List.length_append, List.length_append, a1]
   split <;> simp <;> omega
  ·unfold bigF
   rw [tl_app, tl_app, a2]
   split <;> simp [tl, nilC] <;> omega
 ·exact st _ _ (.inl (by simp)) byte_nilD
theorem anyF_mid (xs : List Int) (i : Nat) : Mid (anyF xs i).1 ∧ ByteC (anyF xs i).1 := by
 obtain ⟨h1, h2, _⟩ := drawT_mid xs (rdN xs i)
 unfold anyF
 simp only
 split
 ·exact spoilF_mid xs _ _ h1 h2 (drawT_byte _ _ _)
 ·exact ⟨Mid.of (by omega) (by omega) (drawT_byte _ _ _), drawT_byte _ _ _⟩
end
section
open Go Go.RowKit Go.Maps
def Fo.map (f : Cel → Cel) : Fo → Fo
 | .nil => .nil
 | .node c k r => .node (f c) (k.map f) (r.map f)
theorem FoIn.kept {w w' : World} {B mb : Nat} {F : Fo} {vs : List Value} (h : FoIn w B F vs) (hg : w.grownBy w' (some mb)) (hm : mb < B) : FoIn w' B F vs :=
 FoIn.imp (Nat.le_refl _) (fun b o hb hlt => World.cell?_of_block (w := w) (a := ⟨b, o, none⟩) (hg.block b hlt (fun e => by have := Option.some.inj e; omega))) hg.size F vs h
theorem flat_setN : ∀ (rs : List RC) (i : Nat) (b : Int), i < rs.length → (flat rs).set (i * 3 + 1) (.int .i64 b) = flat (rs.set i ((rs.getD i RC.zero).1, b, (rs.getD i RC.zero).2.2))
 | [], i, b, h => by simp at h
 | x :: rs, 0, b, _ => by simp [flat_cons]
 | x :: rs, i + 1, b, h => by
   have := flat_setN rs i b (by simpa using h); rw [flat_cons, show (i + 1) * 3 + 1 = (i * 3 + 1) + 1 + 1 + 1 by omega]; simp only [List.set_cons_succ, this]
   rfl
theorem OwnC.setN {w : World} {B g n c j : Nat} {cs : List Cel} (h : OwnC w B (some ⟨g, 0, none⟩) n c cs) (hj : j < cs.length) (b : Int) :
  OwnC (w.setCell ⟨g, j * 3 + 1, none⟩ (.int .i64 b)) B (some ⟨g, 0, none⟩) n c (cs.set j ((cs.getD j Cel.none).1, b, (cs.getD j Cel.none).2.2)) := by
 obtain ⟨hn, rs, hl, hr, hf, ha⟩ := h; have h2 := (hr.stored (j * 3 + 1) (.int .i64 b)).1; rw [flat_setN rs j b (by omega)] at h2
 have hat : ∀ i, ((rs.set j ((rs.getD j RC.zero).1, b, (rs.getD j RC.zero).2.2)).getD i RC.zero).2.2 = (rs.getD i RC.zero).2.2 := fun i => by
  rw [rs_set_at _ _ _ _ (by omega)]
  by_cases e : i = j
  ·rw [if_pos e, e]
  ·rw [if_neg e]
 refine ⟨by simpa using hn, _, by simpa using hl, h2, fun i hi => ?_, ⟨fun i hi => ?_, fun i i' hi hi' hne => ?_⟩⟩
 ·have hi' : i < cs.length := by simpa using hi
  rw [cs_set_at _ _ _ _ hj, rs_set_at _ _ _ _ (by omega)]; obtain ⟨q0, q1, q2⟩ := hf i hi'; have q3 := q2.setCell (a := ⟨g, j * 3 + 1, none⟩) (fun hp e' => ha.1 i (by omega) hp e') (.int .i64 b)
  by_cases e : i = j
  ·rw [if_pos e, if_pos e]
   subst e; exact ⟨q0, rfl, q3⟩
  ·rw [if_neg e, if_neg e]
   exact ⟨q0, q1, q3⟩
 ·rw [hat]; exact ha.1 i (by simpa using hi)
 ·rw [hat, hat]; exact ha.2 i i' (by simpa using hi) (by simpa using hi') hne
end
end Go.Proofs.YtkklidpnkofipaaGreatDoor
