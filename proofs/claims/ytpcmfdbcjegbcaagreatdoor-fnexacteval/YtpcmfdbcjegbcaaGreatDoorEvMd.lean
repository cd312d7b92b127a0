/- Texts of EvN, EvN2, EvV1, EvQ, EvV2, EvE, EvF. Own work of the verifier. -/
import Derived.Test.YtpcmfdbcjegbcaaGreatDoorEvMe
import Derived.Orders
import Derived.Shelf.Abstract
import Derived.Test.YtpcmfdbcjegbcaaGreatDoorFunG
import Derived.Test.YtpcmfdbcjegbcaaGreatDoorEvMc
import Derived.RangeFuncLeaves
import Derived.LoopIn
import Derived.Test.YtpcmfdbcjegbcaaGreatDoorValid2
import Derived.Test.YtpcmfdbcjegbcaaGreatDoorCellG
namespace Go.Proofs.YtpcmfdbcjegbcaaGreatDoor
open Go Go.RowKit Go.Maps Go.Shelf
set_option linter.unusedVariables false
set_option linter.unusedSimpArgs false

/-- What makes a closure. -/
def MkOut (w : World) (c : Cl) (e : Ending) (w' : World) : Prop := ∃ v, e = .returned v ∧ ClIn w' c v ∧ Below w.heap.size w w'
set_option maxRecDepth 100000 in
theorem unaryMk (K : Nat) (w : World) : Calls Tryz.prog 55 #[.func (.func K) #[] #[]] w (MkOut w (.un K)) := by
  go_enter Tryz.func55, Tryz.ntmps55
  go_wp2_with fail
  go_ret
  exact ⟨_, rfl, ⟨w.heap.size, rfl, (cell_new w _ _).1⟩, (Below.refl _ _).alloc (Nat.le_refl _) _⟩
set_option maxRecDepth 100000 in
theorem behindMk (K2 K1 : Nat) (w : World) : Calls Tryz.prog 68 #[.func (.func K2) #[] #[], .func (.func K1) #[] #[]] w (MkOut w (.bi K1 K2)) := by
  go_enter Tryz.func68, Tryz.ntmps68
  go_wp2_with fail
  go_ret
  have h1 := (cell_new (w.alloc (.cells #[.func (.func K2) #[] #[]] 101)) (.func (.func K1) #[] #[]) 130).1
  simp only [World.size_alloc] at h1
  have h2 : ((w.alloc (.cells #[.func (.func K2) #[] #[]] 101)).alloc (.cells #[.func (.func K1) #[] #[]] 130)).cell? ⟨w.heap.size, 0, none⟩ = some (.func (.func K2) #[] #[]) := Lib.cell?_alloc_marked _ (cell_new w _ _).1
  exact ⟨_, rfl, ⟨w.heap.size + 1, w.heap.size, rfl, h1, h2⟩, ((Below.refl _ _).alloc (Nat.le_refl _) _).alloc (by simp) _⟩
set_option maxRecDepth 100000 in
theorem binaryMk (K : Nat) (w : World) : Calls Tryz.prog 62 #[.func (.func K) #[] #[]] w (MkOut w (.bi 90 K)) := by
  have HC := behindMk K 90 w
  go_enter Tryz.func62, Tryz.ntmps62
  go_wp2_with fail
  refine HC.mono ?_
  rintro e w1 ⟨v, rfl, hc, hb⟩
  have HV : Hid (ClIn w1 (.bi 90 K) v) := hc
  have HB : Hid _ := hb
  clear hc hb HC
  go_wp2_with fail
  go_ret
  exact ⟨v, rfl, HV.out, HB.out⟩

/-- How many operations have not come up. -/
def unl (L : Array Bool) : Nat := (L.toList.filter (fun b => !b)).length
theorem unl_list : ∀ (l : List Bool) (i : Nat), l[i]? = some false → ((l.set i true).filter (fun b => !b)).length + 1 = (l.filter (fun b => !b)).length
  | [], i, h => by simp at h
  | b :: r, 0, h => by
    simp only [List.getElem?_cons_zero, Option.some.injEq] at h
    subst h
    simp
  | b :: r, i + 1, h => by
    have := unl_list r i (by simpa using h)
    cases b <;> simp [List.set_cons_succ, List.filter_cons] <;> omega
theorem getD_list {L : Array Bool} {i : Nat} (h : L.getD i true = false) : L.toList[i]? = some false := by
  simp only [Array.getD_eq_getD_getElem?] at h
  rw [Array.getElem?_toList]
  cases he : L[i]? with
  | none => rw [he] at h; cases h
  | some b => rw [he] at h; simp at h; rw [h]
theorem unl_set {L : Array Bool} {i : Nat} (h : L.getD i true = false) : unl (L.setIfInBounds i true) + 1 = unl L := by
  unfold unl
  rw [Array.toList_setIfInBounds]
  exact unl_list _ _ (getD_list h)
theorem unl_zero {L : Array Bool} (h : unl L = 0) (i : Nat) : L.getD i true ≠ false := fun e => by
  have := unl_set e
  omega
section
variable {P : Program} {ops : Array Oper} {Q : Exit → Act → World → Prop} {md : Region.Mode}
/-- A region in whatever order, by what holds at each set of operations that have come up. -/
theorem wpAny_inv (I : Array Bool → Act → World → Prop) (hS : ∀ L a w, I L a w → ∀ i ∈ Region.ready md ops L, wpOp P ops Q i (fun a' w' => I (L.setIfInBounds i true) a' w') a w)
    (hE : ∀ L a w, I L a w → Region.ready md ops L = [] → Q .normal a w) : ∀ (fuel : Nat) (L : Array Bool) (a : Act) (w : World), I L a w → unl L ≤ fuel → wpAny P md ops Q fuel L a w
  | 0, L, a, w, h, hu => by
    have hr : Region.ready md ops L = [] := by
      cases hh : Region.ready md ops L with
      | nil => rfl
      | cons i r =>
        have : i ∈ Region.ready md ops L := by rw [hh]; simp
        exact absurd (mem_ready.1 this).1 (unl_zero (by omega) i)
    exact ⟨hr, hE L a w h hr⟩
  | fuel + 1, L, a, w, h, hu => by
    refine ⟨fun hr => hE L a w h hr, fun i hi => ?_⟩
    have h1 := unl_set (mem_ready.1 hi).1
    exact wpOp_mono (fun a' w' h' => wpAny_inv I hS hE fuel _ a' w' h' (by omega)) (hS L a w h i hi)
theorem op_value {i : Nat} {o : Oper} {a : Act} {w w' : World} {v : Value} {K : Act → World → Prop} (hi : ops[i]? = some o) (hg : o.guard = none) (hr : (execOp a.eval o).run P w = .ok (.value v) w') (h : K (a.put o.dst v) w') : wpOp P ops Q i K a w := by
  unfold wpOp
  simp only [hi, Region.wanted, hg, if_true, Oper.wp, hr, Oper.upon]
  exact .inl h
theorem op_skip {i : Nat} {o : Oper} {a : Act} {w w' : World} {K : Act → World → Prop} (hi : ops[i]? = some o) (hg : o.guard = none) (hr : (execOp a.eval o).run P w = .ok .skip w') (h : K (a.put o.dst undef) w') : wpOp P ops Q i K a w := by
  unfold wpOp
  simp only [hi, Region.wanted, hg, if_true, Oper.wp, hr, Oper.upon]
  exact .inl h
theorem op_call {i : Nat} {o : Oper} {a : Act} {w : World} {K : Act → World → Prop} {f : FuncId} {args : Array Value} {c : Cl} (hi : ops[i]? = some o) (hg : o.guard = none) (hr : (execOp a.eval o).run P w = .ok (.enter f args) w) (hc : Calls P f args w (MkOut w c))
    (h : ∀ v w', ClIn w' c v → Below w.heap.size w w' → K (a.put o.dst v) w') : wpOp P ops Q i K a w := by
  unfold wpOp
  simp only [hi, Region.wanted, hg, if_true, Oper.wp, hr, Oper.upon]
  refine .inl (hc.mono fun e w' he => ?_)
  obtain ⟨v, rfl, h1, h2⟩ := he
  exact h v w' h1 h2
end
/-- The operations of the region. -/
noncomputable def nOps : Array Oper := match Tryz.f38.body with
  | some (.seq _ (.seq (.region _ ops _) _)) => ops
  | _ => #[]
def entAt (j : Nat) : (List Int × Int) × Cl := ents.getD j (([], 0), .un 0)
def keyF (j : Nat) : Fun := (strOfNums (entAt j).1.1, (entAt j).1.2)
def keyV (j : Nat) : Value := .agg #[.string (keyF j).1, .int .i64 (keyF j).2]
/-- The entries that have been put. -/
def insT (L : Array Bool) (f : Fun) : Option Cl := ((List.range 20).find? fun j => decide (keyF j = f) && L.getD (3 * j + 3) false).map fun j => (entAt j).2
theorem keyF_inj : ∀ i, i < 20 → ∀ j, j < 20 → keyF i = keyF j → i = j := by
  have h : ((List.range 20).all fun i => (List.range 20).all fun j => decide ((entAt i).1 = (entAt j).1 → i = j)) = true := by decide
  intro i hi j hj e
  have h1 := List.all_eq_true.1 (List.all_eq_true.1 h i (List.mem_range.2 hi)) j (List.mem_range.2 hj)
  simp only [decide_eq_true_eq] at h1
  have hm : ∀ k, k < 20 → entAt k ∈ ents := fun k hk => by
    unfold entAt
    rw [List.getD_eq_getElem?_getD, List.getElem?_eq_getElem (by show k < 20; exact hk)]
    exact List.getElem_mem _
  have h2 := str_ne (ents_byte _ (hm i hi)) (ents_byte _ (hm j hj)) (Prod.mk.inj e).1
  exact h1 (Prod.ext h2 (Prod.mk.inj e).2)
theorem insT_none {L : Array Bool} (h : ∀ j, j < 20 → L.getD (3 * j + 3) false = false) : insT L = fun _ => none := by
  funext f
  unfold insT
  rw [List.find?_eq_none.2 (fun j hj => by simp [h j (List.mem_range.1 hj)])]
  rfl
theorem insT_all {L : Array Bool} (h : ∀ j, j < 20 → L.getD (3 * j + 3) false = true) : insT L = opTab := by
  funext f
  unfold insT opTab
  have e1 : ((List.range 20).find? fun j => decide (keyF j = f) && L.getD (3 * j + 3) false) = (List.range 20).find? fun j => decide (keyF j = f) := by
    have : ∀ l : List Nat, (∀ j ∈ l, j < 20) → (l.find? fun j => decide (keyF j = f) && L.getD (3 * j + 3) false) = l.find? fun j => decide (keyF j = f) := by
      intro l
      induction l with
      | nil => intro _; rfl
      | cons a r ih =>
        intro hl
        simp only [List.find?_cons, h a (hl a (by simp)), Bool.and_true, ih (fun j hj => hl j (by simp [hj]))]
    exact this _ fun j hj => List.mem_range.1 hj
  rw [e1]
  have e2 : ents = (List.range 20).map entAt := by rfl
  conv => rhs; rw [e2]
  rw [List.find?_map, Option.map_map]
  rfl
theorem insT_same {L : Array Bool} {i : Nat} (hi : ∀ j, j < 20 → i ≠ 3 * j + 3) : insT (L.setIfInBounds i true) = insT L := by
  funext f
  unfold insT
  congr 1
  have : ∀ l : List Nat, (∀ j ∈ l, j < 20) → (l.find? fun j => decide (keyF j = f) && (L.setIfInBounds i true).getD (3 * j + 3) false) = l.find? fun j => decide (keyF j = f) && L.getD (3 * j + 3) false := by
    intro l
    induction l with
    | nil => intro _; rfl
    | cons a r ih =>
      intro hl
      simp only [List.find?_cons, getD_set_ne false (hi a (hl a (by simp))), ih (fun j hj => hl j (by simp [hj]))]
  exact this _ fun j hj => List.mem_range.1 hj
theorem insT_put {L : Array Bool} {j : Nat} (hj : j < 20) (hl : 3 * j + 3 < L.size) : insT (L.setIfInBounds (3 * j + 3) true) = fun f => if f = keyF j then some (entAt j).2 else insT L f := by
  funext f
  by_cases e : f = keyF j
  · subst e
    rw [if_pos rfl]
    have : ((List.range 20).find? fun i => decide (keyF i = keyF j) && (L.setIfInBounds (3 * j + 3) true).getD (3 * i + 3) false) = some j := by
      rw [List.find?_eq_some_iff_getElem]
      refine ⟨?_, j, by simpa using hj, by simp, fun i hi => ?_⟩
      · simp [hl]
      · have hne : keyF i ≠ keyF j := fun e => by have := keyF_inj i (by omega) j hj e; omega
        simp [hne]
    unfold insT
    rw [this]
    rfl
  · rw [if_neg e]
    unfold insT
    congr 1
    have : ∀ l : List Nat, (l.find? fun i => decide (keyF i = f) && (L.setIfInBounds (3 * j + 3) true).getD (3 * i + 3) false) = l.find? fun i => decide (keyF i = f) && L.getD (3 * i + 3) false := by
      intro l
      induction l with
      | nil => rfl
      | cons a r ih =>
        simp only [List.find?_cons, ih]
        by_cases ha : a = j
        · subst ha
          have : decide (keyF a = f) = false := by simpa using fun h => e h.symm
          simp [this]
        · rw [getD_set_ne false (by omega)]
    exact this _

end Go.Proofs.YtpcmfdbcjegbcaaGreatDoor

namespace Go.Proofs.YtpcmfdbcjegbcaaGreatDoor
open Go Go.RowKit Go.Maps Go.Shelf
set_option linter.unusedVariables false
set_option linter.unusedSimpArgs false

structure NInv (w0 : World) (L : Array Bool) (a : Act) (w : World) : Prop where
  lsz : L.size = 63
  tsz : a.tmps.size = 43
  dfs : a.defers = []
  bel : Below w0.heap.size w0 w
  key : ∀ j, j < 20 → L.getD (3 * j + 1) false = true → a.tmps[2 * j + 2]? = some (keyV j)
  clo : ∀ j, j < 20 → L.getD (3 * j + 2) false = true → ∃ v, a.tmps[2 * j + 3]? = some v ∧ ClIn w (entAt j).2 v
  tab : if L.getD 0 false = true then ∃ b N, w0.heap.size ≤ b ∧ a.tmps[1]? = some (.map (some b)) ∧ N ≤ 62 ∧ N + unl L ≤ 62 ∧ TabIn w b N (insT L) else ∀ j, j < 20 → L.getD (3 * j + 3) false = false
  mov : L.getD 61 false = true → a.tmps[42]? = a.tmps[1]? ∧ L.getD 0 false = true ∧ ∀ j, j < 20 → L.getD (3 * j + 3) false = true
  fin : L.getD 62 false = true → a.tmps[0]? = a.tmps[42]? ∧ L.getD 61 false = true
def Enters' (K : Nat) : Prop := ∀ args w, (callFunc K args).run Tryz.prog w = .ok (.enter K args) w
theorem put_other {a : Act} {d p : Nat} {v : Value} (h : d ≠ p) : (a.put (some d) v).tmps[p]? = a.tmps[p]? := by simp [Act.put, Array.getElem?_setIfInBounds_ne h]
theorem put_same {a : Act} {d : Nat} {v : Value} (h : d < a.tmps.size) : (a.put (some d) v).tmps[d]? = some v := by simp [Act.put, h]
theorem put_size {a : Act} {d : Option Nat} {v : Value} : (a.put d v).tmps.size = a.tmps.size := by cases d <;> simp [Act.put]
theorem put_defs {a : Act} {d : Option Nat} {v : Value} : (a.put d v).defers = a.defers := by cases d <;> rfl
theorem put_none {a : Act} {v : Value} : a.put none v = a := rfl
theorem set_at {L : Array Bool} {i p : Nat} (h : (L.setIfInBounds i true).getD p false = true) (hne : i ≠ p) : L.getD p false = true := by rwa [getD_set_ne false hne] at h
set_option maxRecDepth 100000 in
theorem op_build : ∀ j, j < 20 → ∃ o, nOps[3 * j + 1]? = some o ∧ o.guard = none ∧ o.dst = some (2 * j + 2) ∧ o.op = .build 93 #[(0, .const (.string (keyF j).1)), (1, .const (.int .i64 (keyF j).2))]
  | 0, _ => ⟨_, rfl, rfl, rfl, rfl⟩
  | 1, _ => ⟨_, rfl, rfl, rfl, rfl⟩
  | 2, _ => ⟨_, rfl, rfl, rfl, rfl⟩
  | 3, _ => ⟨_, rfl, rfl, rfl, rfl⟩
  | 4, _ => ⟨_, rfl, rfl, rfl, rfl⟩
  | 5, _ => ⟨_, rfl, rfl, rfl, rfl⟩
  | 6, _ => ⟨_, rfl, rfl, rfl, rfl⟩
  | 7, _ => ⟨_, rfl, rfl, rfl, rfl⟩
  | 8, _ => ⟨_, rfl, rfl, rfl, rfl⟩
  | 9, _ => ⟨_, rfl, rfl, rfl, rfl⟩
  | 10, _ => ⟨_, rfl, rfl, rfl, rfl⟩
  | 11, _ => ⟨_, rfl, rfl, rfl, rfl⟩
  | 12, _ => ⟨_, rfl, rfl, rfl, rfl⟩
  | 13, _ => ⟨_, rfl, rfl, rfl, rfl⟩
  | 14, _ => ⟨_, rfl, rfl, rfl, rfl⟩
  | 15, _ => ⟨_, rfl, rfl, rfl, rfl⟩
  | 16, _ => ⟨_, rfl, rfl, rfl, rfl⟩
  | 17, _ => ⟨_, rfl, rfl, rfl, rfl⟩
  | 18, _ => ⟨_, rfl, rfl, rfl, rfl⟩
  | 19, _ => ⟨_, rfl, rfl, rfl, rfl⟩
  | j + 20, h => by omega
/-- What makes the closure of each entry. -/
def mkOf : Nat → FuncId × List Nat
  | 0 => (55, [54])
  | 1 => (55, [56])
  | 2 => (55, [57])
  | 3 => (55, [58])
  | 4 => (55, [60])
  | 5 => (62, [61])
  | 6 => (62, [63])
  | 7 => (62, [64])
  | 8 => (62, [65])
  | 9 => (62, [66])
  | 10 => (68, [67, 69])
  | 11 => (68, [70, 69])
  | 12 => (68, [71, 69])
  | 13 => (68, [72, 73])
  | 14 => (68, [74, 73])
  | 15 => (62, [75])
  | 16 => (62, [76])
  | 17 => (62, [77])
  | 18 => (68, [78, 79])
  | 19 => (68, [78, 79])
  | _ => (0, [])
set_option maxRecDepth 100000 in
theorem op_make : ∀ j, j < 20 → ∃ o ts, nOps[3 * j + 2]? = some o ∧ o.guard = none ∧ o.dst = some (2 * j + 3) ∧ o.op = .call { callee := .value (.func (mkOf j).1), args := ((mkOf j).2.map Operand.func).toArray, argTypes := ts }
  | 0, _ => ⟨_, _, rfl, rfl, rfl, rfl⟩
  | 1, _ => ⟨_, _, rfl, rfl, rfl, rfl⟩
  | 2, _ => ⟨_, _, rfl, rfl, rfl, rfl⟩
  | 3, _ => ⟨_, _, rfl, rfl, rfl, rfl⟩
  | 4, _ => ⟨_, _, rfl, rfl, rfl, rfl⟩
  | 5, _ => ⟨_, _, rfl, rfl, rfl, rfl⟩
  | 6, _ => ⟨_, _, rfl, rfl, rfl, rfl⟩
  | 7, _ => ⟨_, _, rfl, rfl, rfl, rfl⟩
  | 8, _ => ⟨_, _, rfl, rfl, rfl, rfl⟩
  | 9, _ => ⟨_, _, rfl, rfl, rfl, rfl⟩
  | 10, _ => ⟨_, _, rfl, rfl, rfl, rfl⟩
  | 11, _ => ⟨_, _, rfl, rfl, rfl, rfl⟩
  | 12, _ => ⟨_, _, rfl, rfl, rfl, rfl⟩
  | 13, _ => ⟨_, _, rfl, rfl, rfl, rfl⟩
  | 14, _ => ⟨_, _, rfl, rfl, rfl, rfl⟩
  | 15, _ => ⟨_, _, rfl, rfl, rfl, rfl⟩
  | 16, _ => ⟨_, _, rfl, rfl, rfl, rfl⟩
  | 17, _ => ⟨_, _, rfl, rfl, rfl, rfl⟩
  | 18, _ => ⟨_, _, rfl, rfl, rfl, rfl⟩
  | 19, _ => ⟨_, _, rfl, rfl, rfl, rfl⟩
  | j + 20, h => by omega
set_option maxRecDepth 100000 in
theorem mk_calls : ∀ j, j < 20 → Enters' (mkOf j).1 ∧ ∀ w, Calls Tryz.prog (mkOf j).1 ((mkOf j).2.map fun f => Value.func (.func f) #[] #[]).toArray w (MkOut w (entAt j).2)
  | 0, _ => ⟨(enters_of Tryz.func55 (by kernel_rfl) rfl), fun w => unaryMk 54 w⟩
  | 1, _ => ⟨(enters_of Tryz.func55 (by kernel_rfl) rfl), fun w => unaryMk 56 w⟩
  | 2, _ => ⟨(enters_of Tryz.func55 (by kernel_rfl) rfl), fun w => unaryMk 57 w⟩
  | 3, _ => ⟨(enters_of Tryz.func55 (by kernel_rfl) rfl), fun w => unaryMk 58 w⟩
  | 4, _ => ⟨(enters_of Tryz.func55 (by kernel_rfl) rfl), fun w => unaryMk 60 w⟩
  | 5, _ => ⟨(enters_of Tryz.func62 (by kernel_rfl) rfl), fun w => binaryMk 61 w⟩
  | 6, _ => ⟨(enters_of Tryz.func62 (by kernel_rfl) rfl), fun w => binaryMk 63 w⟩
  | 7, _ => ⟨(enters_of Tryz.func62 (by kernel_rfl) rfl), fun w => binaryMk 64 w⟩
  | 8, _ => ⟨(enters_of Tryz.func62 (by kernel_rfl) rfl), fun w => binaryMk 65 w⟩
  | 9, _ => ⟨(enters_of Tryz.func62 (by kernel_rfl) rfl), fun w => binaryMk 66 w⟩
  | 10, _ => ⟨(enters_of Tryz.func68 (by kernel_rfl) rfl), fun w => behindMk 67 69 w⟩
  | 11, _ => ⟨(enters_of Tryz.func68 (by kernel_rfl) rfl), fun w => behindMk 70 69 w⟩
  | 12, _ => ⟨(enters_of Tryz.func68 (by kernel_rfl) rfl), fun w => behindMk 71 69 w⟩
  | 13, _ => ⟨(enters_of Tryz.func68 (by kernel_rfl) rfl), fun w => behindMk 72 73 w⟩
  | 14, _ => ⟨(enters_of Tryz.func68 (by kernel_rfl) rfl), fun w => behindMk 74 73 w⟩
  | 15, _ => ⟨(enters_of Tryz.func62 (by kernel_rfl) rfl), fun w => binaryMk 75 w⟩
  | 16, _ => ⟨(enters_of Tryz.func62 (by kernel_rfl) rfl), fun w => binaryMk 76 w⟩
  | 17, _ => ⟨(enters_of Tryz.func62 (by kernel_rfl) rfl), fun w => binaryMk 77 w⟩
  | 18, _ => ⟨(enters_of Tryz.func68 (by kernel_rfl) rfl), fun w => behindMk 78 79 w⟩
  | 19, _ => ⟨(enters_of Tryz.func68 (by kernel_rfl) rfl), fun w => behindMk 78 79 w⟩
  | j + 20, h => by omega
set_option maxRecDepth 100000 in
theorem op_put : ∀ j, j < 20 → ∃ o, nOps[3 * j + 3]? = some o ∧ o.guard = none ∧ o.dst = none ∧ o.op = .insert 69 (.tmp 1) (.tmp (2 * j + 2)) (.tmp (2 * j + 3)) ∧ ([0, 3 * j + 1, 3 * j + 2].all fun i => o.after.toList.any fun e => (e.on == i) && Region.binds .any e) = true
  | 0, _ => ⟨_, rfl, rfl, rfl, rfl, by kernel_rfl⟩
  | 1, _ => ⟨_, rfl, rfl, rfl, rfl, by kernel_rfl⟩
  | 2, _ => ⟨_, rfl, rfl, rfl, rfl, by kernel_rfl⟩
  | 3, _ => ⟨_, rfl, rfl, rfl, rfl, by kernel_rfl⟩
  | 4, _ => ⟨_, rfl, rfl, rfl, rfl, by kernel_rfl⟩
  | 5, _ => ⟨_, rfl, rfl, rfl, rfl, by kernel_rfl⟩
  | 6, _ => ⟨_, rfl, rfl, rfl, rfl, by kernel_rfl⟩
  | 7, _ => ⟨_, rfl, rfl, rfl, rfl, by kernel_rfl⟩
  | 8, _ => ⟨_, rfl, rfl, rfl, rfl, by kernel_rfl⟩
  | 9, _ => ⟨_, rfl, rfl, rfl, rfl, by kernel_rfl⟩
  | 10, _ => ⟨_, rfl, rfl, rfl, rfl, by kernel_rfl⟩
  | 11, _ => ⟨_, rfl, rfl, rfl, rfl, by kernel_rfl⟩
  | 12, _ => ⟨_, rfl, rfl, rfl, rfl, by kernel_rfl⟩
  | 13, _ => ⟨_, rfl, rfl, rfl, rfl, by kernel_rfl⟩
  | 14, _ => ⟨_, rfl, rfl, rfl, rfl, by kernel_rfl⟩
  | 15, _ => ⟨_, rfl, rfl, rfl, rfl, by kernel_rfl⟩
  | 16, _ => ⟨_, rfl, rfl, rfl, rfl, by kernel_rfl⟩
  | 17, _ => ⟨_, rfl, rfl, rfl, rfl, by kernel_rfl⟩
  | 18, _ => ⟨_, rfl, rfl, rfl, rfl, by kernel_rfl⟩
  | 19, _ => ⟨_, rfl, rfl, rfl, rfl, by kernel_rfl⟩
  | j + 20, h => by omega
theorem op_last : ∃ o, nOps[62]? = some o ∧ o.guard = none ∧ o.dst = some 0 ∧ o.op = .assign (.tmp 42) ∧ ((List.range 62).all fun i => o.after.toList.any fun e => (e.on == i) && Region.binds .any e) = true := ⟨_, rfl, rfl, rfl, rfl, by kernel_rfl⟩
theorem all_after : ∃ o, nOps[61]? = some o ∧ o.guard = none ∧ o.dst = some 42 ∧ o.op = .move (.tmp 1) ∧ ((List.range 61).all fun i => o.after.toList.any fun e => (e.on == i) && Region.binds .any e) = true := ⟨_, rfl, rfl, rfl, rfl, by kernel_rfl⟩
theorem op_map : ∃ o, nOps[0]? = some o ∧ o.guard = none ∧ o.dst = some 1 ∧ o.op = .makeMap 69 none := ⟨_, rfl, rfl, rfl, rfl⟩
theorem size_ops : nOps.size = 63 := rfl
theorem back_only : ((List.range 63).all fun i => (nOps[i]?).all fun o => o.after.toList.all fun e => decide (e.on < i)) = true := by kernel_rfl
theorem dep_of {o : Oper} {i : Nat} {L : Array Bool} (h : (o.after.toList.any fun e => (e.on == i) && Region.binds .any e) = true) (hr : ∀ e ∈ o.after, Region.binds .any e = true → L.getD e.on false = true) : L.getD i false = true := by
  obtain ⟨e, he, h2⟩ := List.any_eq_true.1 h
  simp only [Bool.and_eq_true, beq_iff_eq] at h2
  rw [← h2.1]
  exact hr e (by simpa using he) h2.2
theorem getD_false {L : Array Bool} {i : Nat} (h : L.getD i true = false) : L.getD i false = false := by
  simp only [Array.getD_eq_getD_getElem?] at h ⊢
  cases he : L[i]? with
  | none => rfl
  | some b => rw [he] at h; exact h
theorem unl_le (L : Array Bool) : unl L ≤ L.size := by
  unfold unl
  have := List.length_filter_le (fun b => !b) L.toList
  simpa using this
theorem TabIn.kept {w w' : World} {b N : Nat} {T : Fun → Option Cl} (h : TabIn w b N T) (hg : w.grownBy w' (some b)) : ∀ b' u, w.cell? ⟨b', 0, none⟩ = some u → w'.cell? ⟨b', 0, none⟩ = some u := fun b' u hu => by
  obtain ⟨D, ⟨es, clock, hb, _⟩, _⟩ := h
  have hne : b' ≠ b := fun e => by
    subst e
    simp only [World.cell?, hb] at hu
    cases hu
  exact (World.cell?_of_block (a := ⟨b', 0, none⟩) (hg.block b' (World.block_lt_of_cell? _ _ hu) (by simpa using hne))).trans hu
theorem set_self {L : Array Bool} {i : Nat} (h : i < L.size) : (L.setIfInBounds i true).getD i false = true := by simp [h]
theorem eval_tmp {a : Act} {p : Nat} {v : Value} (h : a.tmps[p]? = some v) : a.eval (.tmp p) = v := by simp [Act.eval, h]
/-- What is left alone by an operation that writes temporary d and is not 0, an insertion or the last. -/
theorem NInv.step {w0 : World} {L : Array Bool} {a : Act} {w w' : World} (I : NInv w0 L a w) {i d : Nat} {v : Value} (hn : L.getD i true = false) (h0 : i ≠ 0) (h61 : i ≠ 61) (h62 : i ≠ 62) (hi3 : ∀ j, j < 20 → i ≠ 3 * j + 3) (hd0 : d ≠ 0) (hd1 : d ≠ 1) (hd42 : d ≠ 42) (hb : Below w.heap.size w w')
    (hk : ∀ j, j < 20 → (L.setIfInBounds i true).getD (3 * j + 1) false = true → (a.put (some d) v).tmps[2 * j + 2]? = some (keyV j))
    (hc : ∀ j, j < 20 → (L.setIfInBounds i true).getD (3 * j + 2) false = true → ∃ u, (a.put (some d) v).tmps[2 * j + 3]? = some u ∧ ClIn w' (entAt j).2 u) : NInv w0 (L.setIfInBounds i true) (a.put (some d) v) w' := by
  have hu := unl_set hn
  refine ⟨by simpa using I.lsz, by rw [put_size]; exact I.tsz, by rw [put_defs]; exact I.dfs, Below.on I.bel hb, hk, hc, ?_, fun h => ?_, fun h => ?_⟩
  · have ht := I.tab
    rw [getD_set_ne false h0]
    split at ht
    · rename_i h
      rw [if_pos h]
      obtain ⟨b, N, h1, h2, h3, h4, h5⟩ := ht
      exact ⟨b, N, h1, by rw [put_other hd1]; exact h2, h3, by omega, by rw [insT_same hi3]; exact h5.below hb⟩
    · rename_i h
      rw [if_neg h]
      intro j hj
      rw [getD_set_ne false (hi3 j hj)]
      exact ht j hj
  · have hf := I.mov (set_at h h61)
    refine ⟨by rw [put_other hd42, put_other hd1]; exact hf.1, by rw [getD_set_ne false h0]; exact hf.2.1, fun j hj => by rw [getD_set_ne false (hi3 j hj)]; exact hf.2.2 j hj⟩
  · have hf := I.fin (set_at h h62)
    exact ⟨by rw [put_other hd0, put_other hd42]; exact hf.1, by rw [getD_set_ne false h61]; exact hf.2⟩
set_option maxHeartbeats 1000000 in
theorem new_step {Q : Exit → Act → World → Prop} (w0 : World) (L : Array Bool) (a : Act) (w : World) (I : NInv w0 L a w) (i : Nat) (hi : i ∈ Region.ready .any nOps L) : wpOp Tryz.prog nOps Q i (fun a' w' => NInv w0 (L.setIfInBounds i true) a' w') a w := by
  obtain ⟨hn, o, ho, haft⟩ := mem_ready.1 hi
  have hi62 : i < 63 := by
    have := (Array.getElem?_eq_some_iff.1 ho).1
    rw [size_ops] at this
    exact this
  have hLs := I.lsz
  have hu := unl_set hn
  have hnf := getD_false hn
  rcases (by omega : i = 0 ∨ i = 61 ∨ i = 62 ∨ (i % 3 = 1 ∧ i / 3 < 20) ∨ (i % 3 = 2 ∧ i / 3 < 20) ∨ (i % 3 = 0 ∧ 1 ≤ i / 3 ∧ i / 3 ≤ 20)) with h | h | h | ⟨h1, h2⟩ | ⟨h1, h2⟩ | ⟨h1, h2, h3⟩
  · subst h
    obtain ⟨o', ho', hg, hd, hop⟩ := op_map
    obtain rfl := Option.some.inj (ho.symm.trans ho')
    refine op_value (v := .map (some w.heap.size)) (w' := w.alloc (.map #[] 0)) ho hg (by simp [execOp, hop, go_sem, run_makeMap, Result.andThen]) ?_
    rw [hd]
    have ht := I.tab
    rw [if_neg (by rw [hnf]; decide)] at ht
    have hb : Below w.heap.size w (w.alloc (.map #[] 0)) := (Below.refl _ _).alloc (Nat.le_refl _) _
    refine ⟨by simpa using hLs, by rw [put_size]; exact I.tsz, by rw [put_defs]; exact I.dfs, Below.on I.bel hb, fun j hj h => ?_, fun j hj h => ?_, ?_, fun h => ?_, fun h => ?_⟩
    · rw [put_other (by omega)]; exact I.key j hj (set_at h (by omega))
    · obtain ⟨v, h1, h2⟩ := I.clo j hj (set_at h (by omega))
      exact ⟨v, by rw [put_other (by omega)]; exact h1, h2.below hb⟩
    · rw [if_pos (set_self (by omega))]
      have hle := unl_le L
      refine ⟨w.heap.size, 0, I.bel.size, put_same (by rw [I.tsz]; decide), by omega, by omega, ?_⟩
      rw [insT_same (fun j _ => by omega), insT_none ht]
      exact TabIn.made w
    · have := (I.mov (set_at h (by decide))).2.1
      rw [hnf] at this
      cases this
    · have := (I.mov (I.fin (set_at h (by decide))).2).2.1
      rw [hnf] at this
      cases this
  · subst h
    obtain ⟨o', ho', hg, hd, hop, hall⟩ := all_after
    obtain rfl := Option.some.inj (ho.symm.trans ho')
    have hdep : ∀ p, p < 61 → L.getD p false = true := fun p hp => dep_of (List.all_eq_true.1 hall p (List.mem_range.2 hp)) haft
    have ht := I.tab
    rw [if_pos (hdep 0 (by decide))] at ht
    obtain ⟨b, N, h1, h2, h3, h4, h5⟩ := ht
    refine op_value (v := .map (some b)) (w' := w) ho hg (by simp [execOp, hop, go_sem, Act.eval, h2]) ?_
    rw [hd]
    refine ⟨by simpa using hLs, by rw [put_size]; exact I.tsz, by rw [put_defs]; exact I.dfs, I.bel, fun j hj h => ?_, fun j hj h => ?_, ?_, fun h => ?_, fun h => ?_⟩
    · rw [put_other (by omega)]; exact I.key j hj (set_at h (by omega))
    · obtain ⟨v, h1, h2⟩ := I.clo j hj (set_at h (by omega))
      exact ⟨v, by rw [put_other (by omega)]; exact h1, h2⟩
    · rw [if_pos (by rw [getD_set_ne false (by decide)]; exact hdep 0 (by decide))]
      exact ⟨b, N, h1, by rw [put_other (by decide)]; exact h2, h3, by omega, by rw [insT_same (fun j _ => by omega)]; exact h5⟩
    · refine ⟨by rw [put_same (by rw [I.tsz]; decide), put_other (by decide), h2], by rw [getD_set_ne false (by decide)]; exact hdep 0 (by decide), fun j hj => ?_⟩
      rw [getD_set_ne false (by omega)]
      exact hdep _ (by omega)
    · have := (I.fin (set_at h (by decide))).2
      rw [hnf] at this
      cases this
  · subst h
    obtain ⟨o', ho', hg, hd, hop, hall⟩ := op_last
    obtain rfl := Option.some.inj (ho.symm.trans ho')
    have hdep : ∀ p, p < 62 → L.getD p false = true := fun p hp => dep_of (List.all_eq_true.1 hall p (List.mem_range.2 hp)) haft
    have ht := I.tab
    rw [if_pos (hdep 0 (by decide))] at ht
    obtain ⟨b, N, h1, h2, h3, h4, h5⟩ := ht
    have hm := I.mov (hdep 61 (by decide))
    have h42 : a.tmps[42]? = some (.map (some b)) := hm.1.trans h2
    refine op_value (v := .map (some b)) (w' := w) ho hg (by simp [execOp, hop, go_sem, Act.eval, h42]) ?_
    rw [hd]
    refine ⟨by simpa using hLs, by rw [put_size]; exact I.tsz, by rw [put_defs]; exact I.dfs, I.bel, fun j hj h => ?_, fun j hj h => ?_, ?_, fun h => ?_, fun h => ?_⟩
    · rw [put_other (by omega)]; exact I.key j hj (set_at h (by omega))
    · obtain ⟨v, h1, h2⟩ := I.clo j hj (set_at h (by omega))
      exact ⟨v, by rw [put_other (by omega)]; exact h1, h2⟩
    · rw [if_pos (by rw [getD_set_ne false (by decide)]; exact hdep 0 (by decide))]
      exact ⟨b, N, h1, by rw [put_other (by decide)]; exact h2, h3, by omega, by rw [insT_same (fun j _ => by omega)]; exact h5⟩
    · exact ⟨by rw [put_other (by decide), put_other (by decide)]; exact hm.1, by rw [getD_set_ne false (by decide)]; exact hm.2.1, fun j hj => by rw [getD_set_ne false (by omega)]; exact hm.2.2 j hj⟩
    · exact ⟨by rw [put_same (by rw [I.tsz]; decide), put_other (by decide), h42], by rw [getD_set_ne false (by decide)]; exact hdep 61 (by decide)⟩
  · obtain ⟨j, hj, rfl⟩ : ∃ j, j < 20 ∧ i = 3 * j + 1 := ⟨i / 3, h2, by omega⟩
    obtain ⟨o', ho', hg, hd, hop⟩ := op_build j hj
    obtain rfl := Option.some.inj (ho.symm.trans ho')
    refine op_value (v := keyV j) (w' := w) ho hg (by simp [execOp, hop, go_sem, Act.eval, keyV]) ?_
    rw [hd]
    refine I.step hn (by omega) (by omega) (by omega) (fun _ _ => by omega) (by omega) (by omega) (by omega) (Below.refl _ _) (fun j' hj' h => ?_) (fun j' hj' h => ?_)
    · by_cases e : j' = j
      · subst e; exact put_same (by rw [I.tsz]; omega)
      · rw [put_other (by omega)]; exact I.key j' hj' (set_at h (by omega))
    · obtain ⟨v, h1, h2⟩ := I.clo j' hj' (set_at h (by omega))
      exact ⟨v, by rw [put_other (by omega)]; exact h1, h2⟩
  · obtain ⟨j, hj, rfl⟩ : ∃ j, j < 20 ∧ i = 3 * j + 2 := ⟨i / 3, h2, by omega⟩
    obtain ⟨o', ts, ho', hg, hd, hop⟩ := op_make j hj
    obtain rfl := Option.some.inj (ho.symm.trans ho')
    obtain ⟨hen, hcl⟩ := mk_calls j hj
    refine op_call (f := (mkOf j).1) (args := ((mkOf j).2.map fun f => Value.func (.func f) #[] #[]).toArray) (c := (entAt j).2) ho hg ?_ (hcl w) (fun v w' h1 h2 => ?_)
    · have hc : (a.eval ∘ Operand.func) = fun f => Value.func (.func f) #[] #[] := by funext f; rfl
      simp [execOp, hop, go_sem, Act.eval]
      rw [hc]
      exact hen _ _
    · rw [hd]
      refine I.step hn (by omega) (by omega) (by omega) (fun _ _ => by omega) (by omega) (by omega) (by omega) h2 (fun j' hj' h => ?_) (fun j' hj' h => ?_)
      · rw [put_other (by omega)]; exact I.key j' hj' (set_at h (by omega))
      · by_cases e : j' = j
        · subst e; exact ⟨v, put_same (by rw [I.tsz]; omega), h1⟩
        · obtain ⟨u, h3, h4⟩ := I.clo j' hj' (set_at h (by omega))
          exact ⟨u, by rw [put_other (by omega)]; exact h3, h4.below h2⟩
  · obtain ⟨j, hj, rfl⟩ : ∃ j, j < 20 ∧ i = 3 * j + 3 := ⟨i / 3 - 1, by omega, by omega⟩
    obtain ⟨o', ho', hg, hd, hop, hall⟩ := op_put j hj
    obtain rfl := Option.some.inj (ho.symm.trans ho')
    have hdep : ∀ p, p ∈ [0, 3 * j + 1, 3 * j + 2] → L.getD p false = true := fun p hp => dep_of (List.all_eq_true.1 hall p hp) haft
    have ht := I.tab
    rw [if_pos (hdep 0 (by simp))] at ht
    obtain ⟨b, N, h1, h2, h3, h4, h5⟩ := ht
    have hk := I.key j hj (hdep _ (by simp))
    obtain ⟨v, hv, hcl⟩ := I.clo j hj (hdep _ (by simp))
    have hokF : okF (keyF j) := by
      have h : ((List.range 20).all fun j => decide ((entAt j).1.1.length ≤ 100 ∧ 0 ≤ (entAt j).1.2 ∧ (entAt j).1.2 ≤ 2)) = true := by decide
      have h6 := List.all_eq_true.1 h j (List.mem_range.2 hj)
      simp only [decide_eq_true_eq] at h6
      have hsz : (keyF j).1.size = (entAt j).1.1.length := by simp [keyF, strOfNums, ByteArray.size]
      exact ⟨by omega, h6.2.1, by have := h6.2.2; show (entAt j).1.2 ≤ _; omega⟩
    obtain ⟨w', hrun, hT', hgr⟩ := h5.put (by omega) (keyF j) hokF (entAt j).2 v hcl
    have hkept := h5.kept hgr
    have hb : Below w0.heap.size w0 w' := I.bel.trans ((Below.refl _ _).grown hgr I.bel.size (fun k e => by cases e; exact h1))
    unfold wpOp
    simp only [ho, Region.wanted, hg, if_true]
    left
    unfold Oper.wp
    simp [execOp, hop, eval_tmp h2, eval_tmp hk, eval_tmp hv, keyV, hrun, Result.andThen, Oper.upon]
    rw [hd]
    refine ⟨by simpa using hLs, by rw [put_size]; exact I.tsz, by rw [put_defs]; exact I.dfs, hb, fun j' hj' h => ?_, fun j' hj' h => ?_, ?_, fun h => ?_, fun h => ?_⟩
    · exact I.key j' hj' (set_at h (by omega))
    · obtain ⟨u, h6, h7⟩ := I.clo j' hj' (set_at h (by omega))
      exact ⟨u, h6, h7.imp hkept⟩
    · rw [if_pos (by rw [getD_set_ne false (by omega)]; exact hdep 0 (by simp))]
      exact ⟨b, N + 1, h1, h2, by omega, by omega, by rw [insT_put hj (by omega)]; exact hT'⟩
    · have := (I.mov (set_at h (by omega))).2.2 j hj
      rw [hnf] at this
      cases this
    · have := (I.mov (I.fin (set_at h (by omega))).2).2.2 j hj
      rw [hnf] at this
      cases this
theorem new_end {w0 : World} {L : Array Bool} {a : Act} {w : World} (I : NInv w0 L a w) (hr : Region.ready .any nOps L = []) : ∃ b, a.tmps[0]? = some (.map (some b)) ∧ a.tmps.size = 43 ∧ a.defers = [] ∧ TabIn w b 62 opTab ∧ Below w0.heap.size w0 w := by
  have hall : ∀ n, n ≤ 63 → ∀ i, i < n → L.getD i true = true := by
    intro n
    induction n with
    | zero => intro _ i hi; omega
    | succ n ih =>
      intro hn i hi
      by_cases e : i = n
      · subst e
        cases hl : L.getD i true with
        | true => rfl
        | false =>
          exfalso
          obtain ⟨o, ho⟩ : ∃ o, nOps[i]? = some o := ⟨_, Array.getElem?_eq_getElem (by rw [size_ops]; omega)⟩
          have hb := List.all_eq_true.1 back_only i (List.mem_range.2 (by omega))
          rw [ho] at hb
          simp only [Option.all_some, List.all_eq_true, decide_eq_true_eq] at hb
          have : i ∈ Region.ready .any nOps L := mem_ready.2 ⟨hl, o, ho, fun e he _ => by
            have h1 := ih (by omega) e.on (hb e (by simpa using he))
            have hlt : e.on < L.size := by have := hb e (by simpa using he); rw [I.lsz]; omega
            simp only [Array.getD_eq_getD_getElem?, Array.getElem?_eq_getElem hlt, Option.getD_some] at h1 ⊢
            exact h1⟩
          rw [hr] at this
          cases this
      · exact ih (by omega) i (by omega)
  have h62 : L.getD 62 false = true := by
    have h1 := hall 63 (Nat.le_refl _) 62 (by decide)
    have hlt : 62 < L.size := by rw [I.lsz]; decide
    simp only [Array.getD_eq_getD_getElem?, Array.getElem?_eq_getElem hlt, Option.getD_some] at h1 ⊢
    exact h1
  obtain ⟨e0, h61⟩ := I.fin h62
  obtain ⟨e1, e2, e3⟩ := I.mov h61
  have ht := I.tab
  rw [if_pos e2] at ht
  obtain ⟨b, N, h1, h2, h3, h4, h5⟩ := ht
  rw [insT_all e3] at h5
  obtain ⟨D, hown, hD⟩ := h5
  exact ⟨b, by rw [e0, e1, h2], I.tsz, I.dfs, ⟨D, hown.mono h3, hD⟩, I.bel⟩
set_option maxRecDepth 100000 in
set_option maxHeartbeats 1000000 in
theorem newOperations_any (w : World) : Calls Tryz.prog 38 #[] w fun e w' => ∃ b, e = .returned (.map (some b)) ∧ TabIn w' b 62 opTab ∧ Below w.heap.size w w' := by
  go_enter Tryz.func38, Tryz.ntmps38
  go_wp2_with fail
  refine wp_region_any (ops := nOps) (by kernel_rfl) ?_
  refine wpAny_inv (NInv w) (fun L a w' I i hi => new_step w L a w' I i hi) (fun L a w' I hr => ?_) _ _ _ _ ?_ (by have := unl_le (Array.replicate nOps.size false); simpa using this)
  · obtain ⟨b, h0, hs, hd, hT, hB⟩ := new_end I hr
    refine ‹∀ (a : Act) (w : World), Code.wp _ Code.ret _ a w → _› _ _ ?_
    refine wp_ret ?_
    exact bodyPost_ret (v := .map (some b)) (by simp [results, Tryz.results38, h0]) hd ⟨b, rfl, hT, hB⟩
  · have hz : ∀ k, (Array.replicate nOps.size false).getD k false = false := fun k => by
      simp only [Array.getD_eq_getD_getElem?, Array.getElem?_replicate]
      split <;> rfl
    refine ⟨by simp [size_ops], rfl, rfl, ⟨rfl, rfl, rfl, Nat.le_refl _, fun _ _ => rfl⟩, fun j hj h => ?_, fun j hj h => ?_, ?_, fun h => ?_, fun h => ?_⟩
    · rw [hz] at h; cases h
    · rw [hz] at h; cases h
    · rw [if_neg (by rw [hz]; decide)]
      exact fun j _ => hz _
    · rw [hz] at h; cases h
    · rw [hz] at h; cases h

end Go.Proofs.YtpcmfdbcjegbcaaGreatDoor

namespace Go.Proofs.YtpcmfdbcjegbcaaGreatDoor
open Go Go.RowKit
set_option linter.unusedVariables false

/-- What evaluating leaves. -/
def EvOut (w : World) (r : ER) (e : Ending) (w' : World) : Prop := (match r with
  | .ok v => e = .returned (.tuple #[.int .i64 v, .nilIface])
  | .error t => ∃ tv, FoIn w' w.heap.size t.fo [tv] ∧ (e = .returned (.tuple #[.int .i64 0, .iface 50 (.agg #[tv])]) ∨ e = .panicked [{ v := .iface 50 (.agg #[tv]), recovered := false }])) ∧ Below w.heap.size w w'
theorem evOut_of {w w' : World} {r r' : ER} {e : Ending} (h : EvOut w r e w') (er : r' = r) : EvOut w r' e w' := er ▸ h
theorem EvOut.mono {w0 w w' : World} {r : ER} {e : Ending} (h : EvOut w r e w') (hb : Below w0.heap.size w0 w) : EvOut w0 r e w' := by
  refine ⟨?_, Below.on hb h.2⟩
  cases r with
  | ok v => exact h.1
  | error t =>
    obtain ⟨tv, h1, h2⟩ := h.1
    exact ⟨tv, h1.mono hb.size, h2⟩
theorem as_num_num (w : World) (x : Value) : (Instr.typeAssert (.iface 41 x) 47 41 true).run Tryz.prog w = .ok (.tuple #[x, .bool true]) w := by kernel_rfl
theorem as_num_atom (w : World) (x : Value) : (Instr.typeAssert (.iface 41 x) 47 104 true).run Tryz.prog w = .ok (.tuple #[.string ⟨#[]⟩, .bool false]) w := by kernel_rfl
theorem as_num_comp (w : World) (x : Value) : (Instr.typeAssert (.iface 41 x) 47 107 true).run Tryz.prog w = .ok (.tuple #[.pointer none, .bool false]) w := by kernel_rfl
theorem as_atom_num (w : World) (x : Value) : (Instr.typeAssert (.iface 104 x) 47 41 true).run Tryz.prog w = .ok (.tuple #[.int .i64 0, .bool false]) w := by kernel_rfl
theorem as_atom_atom (w : World) (x : Value) : (Instr.typeAssert (.iface 104 x) 47 104 true).run Tryz.prog w = .ok (.tuple #[x, .bool true]) w := by kernel_rfl
theorem as_atom_comp (w : World) (x : Value) : (Instr.typeAssert (.iface 104 x) 47 107 true).run Tryz.prog w = .ok (.tuple #[.pointer none, .bool false]) w := by kernel_rfl
theorem as_comp_num (w : World) (x : Value) : (Instr.typeAssert (.iface 107 x) 47 41 true).run Tryz.prog w = .ok (.tuple #[.int .i64 0, .bool false]) w := by kernel_rfl
theorem as_comp_atom (w : World) (x : Value) : (Instr.typeAssert (.iface 107 x) 47 104 true).run Tryz.prog w = .ok (.tuple #[.string ⟨#[]⟩, .bool false]) w := by kernel_rfl
theorem as_comp_comp (w : World) (x : Value) : (Instr.typeAssert (.iface 107 x) 47 107 true).run Tryz.prog w = .ok (.tuple #[x, .bool true]) w := by kernel_rfl
theorem as_var_num (w : World) (x : Value) : (Instr.typeAssert (.iface 110 x) 47 41 true).run Tryz.prog w = .ok (.tuple #[.int .i64 0, .bool false]) w := by kernel_rfl
theorem as_var_atom (w : World) (x : Value) : (Instr.typeAssert (.iface 110 x) 47 104 true).run Tryz.prog w = .ok (.tuple #[.string ⟨#[]⟩, .bool false]) w := by kernel_rfl
theorem as_var_comp (w : World) (x : Value) : (Instr.typeAssert (.iface 110 x) 47 107 true).run Tryz.prog w = .ok (.tuple #[.pointer none, .bool false]) w := by kernel_rfl
set_option maxRecDepth 100000 in
theorem atomFun_any (s : List Int) (w : World) : Calls Tryz.prog 81 #[.string (strOfNums s)] w fun e w' => e = .returned (.agg #[.string (strOfNums s), .int .i64 0]) ∧ Below w.heap.size w w' := by
  go_enter Tryz.func81, Tryz.ntmps81
  go_wp2_with fail
  exact bodyPost_ret (v := .agg #[.string (strOfNums s), .int .i64 0]) (by simp [results, Tryz.results81, go_sem]) rfl ⟨rfl, (Below.refl _ _).alloc (Nat.le_refl _) _⟩
set_option maxRecDepth 100000 in
theorem valueNum_any (b : Nat) (n : Int) (w : World) : Calls Tryz.prog 39 #[.map (some b), .iface 41 (.int .i64 n)] w (EvOut w (.ok n)) := by
  have t1 := as_num_num
  go_enter Tryz.func39, Tryz.ntmps39
  go_wp2_with fail
  go_ret2
  exact ⟨rfl, Below.refl _ _⟩
set_option maxRecDepth 100000 in
theorem valueVar_any (b : Nat) (n : Int) (w : World) : Calls Tryz.prog 39 #[.map (some b), .iface 110 (.int .i64 n)] w (EvOut w (.error instT)) := by
  have t1 := as_var_num
  have t2 := as_var_atom
  have t3 := as_var_comp
  have HE := instError_any w
  go_enter Tryz.func39, Tryz.ntmps39
  go_wp2_with fail
  refine HE.mono ?_
  rintro e w1 ⟨tv, rfl, hfo, hb⟩
  have HF : Hid (FoIn w1 w.heap.size instT.fo [tv]) := hfo
  have HB : Hid _ := hb
  clear hfo hb HE
  go_wp2_with fail
  go_ret2
  exact ⟨⟨tv, HF.out, .inl rfl⟩, HB.out⟩
set_option maxRecDepth 100000 in
theorem valueAtom_any (b : Nat) (s : List Int) (w : World) : Calls Tryz.prog 39 #[.map (some b), .iface 104 (.string (strOfNums s))] w (EvOut w (.error (evbT s 0))) := by
  have t1 := as_atom_num
  have t2 := as_atom_atom
  have HA := atomFun_any s w
  go_enter Tryz.func39, Tryz.ntmps39
  go_wp2_with fail
  refine HA.mono ?_
  rintro e w1 ⟨rfl, hb1⟩
  have HE := notEvaluable_any s 0 w1
  have HB1 : Hid _ := hb1
  clear hb1 HA
  go_wp2_with fail
  refine HE.mono ?_
  rintro e w2 ⟨tv, rfl, hfo, hb⟩
  have HF : Hid (FoIn w2 w.heap.size (evbT s 0).fo [tv]) := hfo.mono HB1.out.size
  have HB : Hid (Below w.heap.size w w2) := Below.on HB1.out hb
  clear hfo hb HE
  go_wp2_with fail
  go_ret2
  exact ⟨⟨tv, HF.out, .inl rfl⟩, HB.out⟩
set_option maxRecDepth 100000 in
theorem valueComp_any (b pb : Nat) (r : ER) (w : World) (HC : Calls Tryz.prog 82 #[.map (some b), .pointer (some ⟨pb, 0, none⟩)] w (EvOut w r)) : Calls Tryz.prog 39 #[.map (some b), .iface 107 (.pointer (some ⟨pb, 0, none⟩))] w (EvOut w r) := by
  have t1 := as_comp_num
  have t2 := as_comp_atom
  have t3 := as_comp_comp
  cases r with
  | ok v =>
    go_enter Tryz.func39, Tryz.ntmps39
    go_wp2_with fail
    refine HC.mono ?_
    rintro e w1 ⟨rfl, hb⟩
    have HB : Hid _ := hb
    clear hb HC
    go_wp2_with fail
    go_ret2
    exact ⟨rfl, HB.out⟩
  | error t =>
    go_enter Tryz.func39, Tryz.ntmps39
    go_wp2_with fail
    refine HC.mono ?_
    rintro e w1 ⟨⟨tv, hfo, rfl | rfl⟩, hb⟩
    · have HF : Hid (FoIn w1 w.heap.size t.fo [tv]) := hfo
      have HB : Hid _ := hb
      clear hfo hb HC
      go_wp2_with fail
      go_ret2
      exact ⟨⟨tv, HF.out, .inl rfl⟩, HB.out⟩
    · exact ⟨rfl, ⟨tv, hfo, .inr rfl⟩, hb⟩

end Go.Proofs.YtpcmfdbcjegbcaaGreatDoor

namespace Go.Proofs.YtpcmfdbcjegbcaaGreatDoor
open Go Go.RowKit Go.Shelf
set_option linter.unusedVariables false
set_option linter.unusedSimpArgs false

def Enters (K : Nat) : Prop := ∀ args w, (callFunc K args).run Tryz.prog w = .ok (.enter K args) w
/-- What a closure makes of values. -/
def ClDo (c : Cl) (xs : List Int) (r : ER) : Prop := match c with
  | .un K => ∃ x v, xs = [x] ∧ r = .ok v ∧ Enters K ∧ ∀ W, Calls Tryz.prog K #[.int .i64 x] W (FnOut W v)
  | .bi K1 K2 => ∃ x y gr v, xs = [x, y] ∧ r = guE gr v ∧ Enters K1 ∧ Enters K2 ∧ (∀ W, Calls Tryz.prog K1 #[.int .i64 x, .int .i64 y] W (GuOut W gr)) ∧ (gr = none → ∀ W, Calls Tryz.prog K2 #[.int .i64 x, .int .i64 y] W (FnOut W v))
theorem abs_any (x : Int) (W : World) (hx : InB x) : Calls Tryz.prog 57 #[.int .i64 x] W (FnOut W (x.natAbs : Int)) := (magnitude_any x W hx.mid).mono fun e w' ⟨h1, h2⟩ => by
  rw [h2, h1]
  exact fn_ret (by unfold InB at hx; unfold Mid; omega) rfl
theorem one_of {xs : List Int} (h : (xs.length : Int) = 1) : ∃ x, xs = [x] := by
  match xs, h with
  | [x], _ => exact ⟨x, rfl⟩
  | [], h => simp at h
  | _ :: _ :: _, h => simp at h; omega
theorem two_of {xs : List Int} (h : (xs.length : Int) = 2) : ∃ x y, xs = [x, y] := by
  match xs, h with
  | [x, y], _ => exact ⟨x, y, rfl⟩
  | [], h => simp at h
  | [_], h => simp at h
  | _ :: _ :: _ :: _, h => simp at h; omega
theorem pow_gu (x y : Int) : guE (powG x y) (powV x y) = powE x y := by
  unfold guE powG powV powE
  by_cases h1 : 0 ≤ y
  · simp [h1]
  · by_cases h2 : x = 0
    · subst h2; simp [h1]
    · by_cases h3 : x.natAbs = 1
      · simp [h1, h2, h3]
      · simp [h1, h2, h3]
theorem powG_none {x y : Int} (h : powG x y = none) : 0 ≤ y ∨ x.natAbs = 1 := by
  unfold powG at h
  split at h
  · assumption
  · split at h <;> cases h
theorem shl_bnd (x : Int) (y : Nat) : bndE (.ok (x * 2 ^ min y 50)) = bndE (.ok (x * 2 ^ y)) := by
  have h := shl_same (x := x) (y := y)
  simp only [bndE]
  by_cases hb : InB (x * 2 ^ y)
  · rw [if_pos hb, if_pos (h.1.2 hb), h.2 hb]
  · rw [if_neg hb, if_neg (fun e => hb (h.1.1 e))]
theorem ent_mem {s : List Int} {n : Int} {c : Cl} (h : entOf s n = some c) : ((s, n), c) ∈ ents := by
  unfold entOf at h
  obtain ⟨y, hy, rfl⟩ := Option.map_eq_some_iff.1 h
  have h1 := List.find?_some hy
  have h2 := List.mem_of_find?_eq_some hy
  simp only [decide_eq_true_eq] at h1
  rw [← h1]
  exact h2
set_option maxRecDepth 100000 in
set_option maxHeartbeats 1000000 in
theorem ent_does {s : List Int} {n : Int} {c : Cl} (h : entOf s n = some c) {xs : List Int} (hl : (xs.length : Int) = n) (hb : ∀ x ∈ xs, InB x) : ∃ r, bndE r = bndE (opV s xs) ∧ ClDo c xs r := by
  have hm := ent_mem h
  clear h
  simp only [ents, List.mem_cons, List.not_mem_nil, or_false, Prod.mk.injEq] at hm
  rcases hm with ⟨⟨rfl, rfl⟩, rfl⟩ | ⟨⟨rfl, rfl⟩, rfl⟩ | ⟨⟨rfl, rfl⟩, rfl⟩ | ⟨⟨rfl, rfl⟩, rfl⟩ | ⟨⟨rfl, rfl⟩, rfl⟩ | ⟨⟨rfl, rfl⟩, rfl⟩ | ⟨⟨rfl, rfl⟩, rfl⟩ | ⟨⟨rfl, rfl⟩, rfl⟩ | ⟨⟨rfl, rfl⟩, rfl⟩ | ⟨⟨rfl, rfl⟩, rfl⟩ | ⟨⟨rfl, rfl⟩, rfl⟩ | ⟨⟨rfl, rfl⟩, rfl⟩ | ⟨⟨rfl, rfl⟩, rfl⟩ | ⟨⟨rfl, rfl⟩, rfl⟩ | ⟨⟨rfl, rfl⟩, rfl⟩ | ⟨⟨rfl, rfl⟩, rfl⟩ | ⟨⟨rfl, rfl⟩, rfl⟩ | ⟨⟨rfl, rfl⟩, rfl⟩ | ⟨⟨rfl, rfl⟩, rfl⟩ | ⟨⟨rfl, rfl⟩, rfl⟩
  · obtain ⟨x, rfl⟩ := one_of hl
    have hx := hb x (by simp)
    exact ⟨.ok (-x), by simp [opV, op1, sgn], x, -x, rfl, rfl, (enters_of Tryz.func54 (by kernel_rfl) rfl), fun W => neg_any x W hx⟩
  · obtain ⟨x, rfl⟩ := one_of hl
    have hx := hb x (by simp)
    exact ⟨.ok (x), by simp [opV, op1, sgn], x, x, rfl, rfl, (enters_of Tryz.func56 (by kernel_rfl) rfl), fun W => same_any x W hx⟩
  · obtain ⟨x, rfl⟩ := one_of hl
    have hx := hb x (by simp)
    exact ⟨.ok ((x.natAbs : Int)), by simp [opV, op1, sgn], x, (x.natAbs : Int), rfl, rfl, (enters_of Tryz.func57 (by kernel_rfl) rfl), fun W => abs_any x W hx⟩
  · obtain ⟨x, rfl⟩ := one_of hl
    have hx := hb x (by simp)
    exact ⟨.ok (sgn x), by simp [opV, op1, sgn], x, sgn x, rfl, rfl, (enters_of Tryz.func58 (by kernel_rfl) rfl), fun W => sign_any x W hx⟩
  · obtain ⟨x, rfl⟩ := one_of hl
    have hx := hb x (by simp)
    exact ⟨.ok (-x - 1), by simp [opV, op1, sgn], x, -x - 1, rfl, rfl, (enters_of Tryz.func60 (by kernel_rfl) rfl), fun W => not_any x W hx⟩
  · obtain ⟨x, y, rfl⟩ := two_of hl
    have hx := hb x (by simp)
    have hy := hb y (by simp)
    exact ⟨.ok (x + y), by simp [opV, op2], x, y, none, x + y, rfl, rfl, (enters_of Tryz.func90 (by kernel_rfl) rfl), (enters_of Tryz.func61 (by kernel_rfl) rfl), fun W => noGuard_any x y W, fun _ W => add_any x y W hx hy⟩
  · obtain ⟨x, y, rfl⟩ := two_of hl
    have hx := hb x (by simp)
    have hy := hb y (by simp)
    exact ⟨.ok (x - y), by simp [opV, op2], x, y, none, x - y, rfl, rfl, (enters_of Tryz.func90 (by kernel_rfl) rfl), (enters_of Tryz.func63 (by kernel_rfl) rfl), fun W => noGuard_any x y W, fun _ W => sub_any x y W hx hy⟩
  · obtain ⟨x, y, rfl⟩ := two_of hl
    have hx := hb x (by simp)
    have hy := hb y (by simp)
    exact ⟨.ok (x * y), by simp [opV, op2], x, y, none, x * y, rfl, rfl, (enters_of Tryz.func90 (by kernel_rfl) rfl), (enters_of Tryz.func64 (by kernel_rfl) rfl), fun W => noGuard_any x y W, fun _ W => (product_any x y W hx.mid hy.mid).mono fun e w' h => h.fn⟩
  · obtain ⟨x, y, rfl⟩ := two_of hl
    have hx := hb x (by simp)
    have hy := hb y (by simp)
    exact ⟨.ok (if x < y then x else y), by simp [opV, op2], x, y, none, if x < y then x else y, rfl, rfl, (enters_of Tryz.func90 (by kernel_rfl) rfl), (enters_of Tryz.func65 (by kernel_rfl) rfl), fun W => noGuard_any x y W, fun _ W => min_any x y W hx hy⟩
  · obtain ⟨x, y, rfl⟩ := two_of hl
    have hx := hb x (by simp)
    have hy := hb y (by simp)
    exact ⟨.ok (if x < y then y else x), by simp [opV, op2], x, y, none, if x < y then y else x, rfl, rfl, (enters_of Tryz.func90 (by kernel_rfl) rfl), (enters_of Tryz.func66 (by kernel_rfl) rfl), fun W => noGuard_any x y W, fun _ W => max_any x y W hx hy⟩
  · obtain ⟨x, y, rfl⟩ := two_of hl
    have hx := hb x (by simp)
    have hy := hb y (by simp)
    refine ⟨guE (if y = 0 then some zeroT else none) (x.tdiv y), ?_, x, y, _, _, rfl, rfl, (enters_of Tryz.func69 (by kernel_rfl) rfl), (enters_of Tryz.func67 (by kernel_rfl) rfl), fun W => divGuard_any x y W, fun hg W => ?_⟩
    · by_cases h0 : y = 0 <;> simp [guE, h0, opV, op2]
    · have h0 : y ≠ 0 := by by_cases h0 : y = 0 <;> simp [h0] at hg <;> exact h0
      exact quo_any x y W hx hy h0
  · obtain ⟨x, y, rfl⟩ := two_of hl
    have hx := hb x (by simp)
    have hy := hb y (by simp)
    refine ⟨guE (if y = 0 then some zeroT else none) (x.tmod y), ?_, x, y, _, _, rfl, rfl, (enters_of Tryz.func69 (by kernel_rfl) rfl), (enters_of Tryz.func70 (by kernel_rfl) rfl), fun W => divGuard_any x y W, fun hg W => ?_⟩
    · by_cases h0 : y = 0 <;> simp [guE, h0, opV, op2]
    · have h0 : y ≠ 0 := by by_cases h0 : y = 0 <;> simp [h0] at hg <;> exact h0
      exact rem_any x y W hx hy h0
  · obtain ⟨x, y, rfl⟩ := two_of hl
    have hx := hb x (by simp)
    have hy := hb y (by simp)
    refine ⟨guE (if y = 0 then some zeroT else none) ((x.tmod y + y).tmod y), ?_, x, y, _, _, rfl, rfl, (enters_of Tryz.func69 (by kernel_rfl) rfl), (enters_of Tryz.func71 (by kernel_rfl) rfl), fun W => divGuard_any x y W, fun hg W => ?_⟩
    · by_cases h0 : y = 0 <;> simp [guE, h0, opV, op2]
    · have h0 : y ≠ 0 := by by_cases h0 : y = 0 <;> simp [h0] at hg <;> exact h0
      exact mod_any x y W hx hy h0
  · obtain ⟨x, y, rfl⟩ := two_of hl
    have hx := hb x (by simp)
    have hy := hb y (by simp)
    refine ⟨guE (if y < 0 then some undT else none) (x / 2 ^ min y.toNat 64), ?_, x, y, _, _, rfl, rfl, (enters_of Tryz.func73 (by kernel_rfl) rfl), (enters_of Tryz.func72 (by kernel_rfl) rfl), fun W => shiftGuard_any x y W, fun hg W => ?_⟩
    · by_cases h0 : y < 0 <;> simp [guE, h0, opV, op2]
    · have h0 : 0 ≤ y := by by_cases h0 : y < 0 <;> simp [h0] at hg <;> omega
      exact shr_any x y W hx hy h0
  · obtain ⟨x, y, rfl⟩ := two_of hl
    have hx := hb x (by simp)
    have hy := hb y (by simp)
    refine ⟨guE (if y < 0 then some undT else none) (x * 2 ^ min y.toNat 50), ?_, x, y, _, _, rfl, rfl, (enters_of Tryz.func73 (by kernel_rfl) rfl), (enters_of Tryz.func74 (by kernel_rfl) rfl), fun W => shiftGuard_any x y W, fun hg W => ?_⟩
    · by_cases h0 : y < 0
      · simp [guE, h0, opV, op2]
      · have := shl_bnd x y.toNat
        simpa [guE, h0, opV, op2] using this
    · have h0 : 0 ≤ y := by by_cases h0 : y < 0 <;> simp [h0] at hg <;> omega
      exact (shiftLeft_any x y W hx hy h0).mono fun e w' h => h.fn
  · obtain ⟨x, y, rfl⟩ := two_of hl
    have hx := hb x (by simp)
    have hy := hb y (by simp)
    exact ⟨.ok (bits .and .i64 x y), by simp [opV, op2], x, y, none, bits .and .i64 x y, rfl, rfl, (enters_of Tryz.func90 (by kernel_rfl) rfl), (enters_of Tryz.func75 (by kernel_rfl) rfl), fun W => noGuard_any x y W, fun _ W => and_any x y W hx hy⟩
  · obtain ⟨x, y, rfl⟩ := two_of hl
    have hx := hb x (by simp)
    have hy := hb y (by simp)
    exact ⟨.ok (bits .or .i64 x y), by simp [opV, op2], x, y, none, bits .or .i64 x y, rfl, rfl, (enters_of Tryz.func90 (by kernel_rfl) rfl), (enters_of Tryz.func76 (by kernel_rfl) rfl), fun W => noGuard_any x y W, fun _ W => or_any x y W hx hy⟩
  · obtain ⟨x, y, rfl⟩ := two_of hl
    have hx := hb x (by simp)
    have hy := hb y (by simp)
    exact ⟨.ok (bits .xor .i64 x y), by simp [opV, op2], x, y, none, bits .xor .i64 x y, rfl, rfl, (enters_of Tryz.func90 (by kernel_rfl) rfl), (enters_of Tryz.func77 (by kernel_rfl) rfl), fun W => noGuard_any x y W, fun _ W => xor_any x y W hx hy⟩
  · obtain ⟨x, y, rfl⟩ := two_of hl
    have hx := hb x (by simp)
    have hy := hb y (by simp)
    refine ⟨guE (powG x y) (powV x y), ?_, x, y, _, _, rfl, rfl, (enters_of Tryz.func79 (by kernel_rfl) rfl), (enters_of Tryz.func78 (by kernel_rfl) rfl), fun W => powGuard_any x y W hx, fun hg W => ?_⟩
    · rw [pow_gu]; simp [opV, op2]
    · have h0 : 0 ≤ y ∨ x.natAbs = 1 := powG_none hg
      exact power_any x y W hx hy h0
  · obtain ⟨x, y, rfl⟩ := two_of hl
    have hx := hb x (by simp)
    have hy := hb y (by simp)
    refine ⟨guE (powG x y) (powV x y), ?_, x, y, _, _, rfl, rfl, (enters_of Tryz.func79 (by kernel_rfl) rfl), (enters_of Tryz.func78 (by kernel_rfl) rfl), fun W => powGuard_any x y W hx, fun hg W => ?_⟩
    · rw [pow_gu]; simp [opV, op2]
    · have h0 : 0 ≤ y ∨ x.natAbs = 1 := powG_none hg
      exact power_any x y W hx hy h0

end Go.Proofs.YtpcmfdbcjegbcaaGreatDoor

namespace Go.Proofs.YtpcmfdbcjegbcaaGreatDoor
open Go Go.RowKit
set_option linter.unusedVariables false

theorem infoNumb : (Tryz.prog.info? 41).map (fun i => (i.zero, i.size, i.bytes)) = some (some (.int .i64 0), 1, 8) := by kernel_rfl
theorem rowN_next {B g n : Nat} {w : World} {vs : List Value} {j : Nat} (h : w.ownsRow B 41 1 (.slice (some ⟨g, 0, none⟩) n n) n (vs ++ List.replicate (n - j) (.int .i64 0))) (hj : vs.length = j) (hlt : j < n) (v : Value) :
    (w.setCell ⟨g, j, none⟩ v).ownsRow B 41 1 (.slice (some ⟨g, 0, none⟩) n n) n ((vs ++ [v]) ++ List.replicate (n - (j + 1)) (.int .i64 0)) := by
  have := (h.stored j v).1
  rw [List.set_append_right _ _ (by omega), show j - vs.length = 0 by omega, show n - j = (n - (j + 1)) + 1 by omega, List.replicate_succ, List.set_cons_zero] at this
  rw [List.append_assoc]
  exact this
theorem evF_cat : ∀ a b : Fo, evF (a.cat b) = evF a ++ evF b
  | .nil, b => rfl
  | .node c k r, b => by simp only [Fo.cat, evF, List.cons_append, evF_cat r b]
theorem seqE_snoc {v : ER} : ∀ {l : List ER} {xs : List Int}, seqE l = .ok xs → seqE (l ++ [v]) = match v with | .error t => .error t | .ok u => .ok (xs ++ [u])
  | [], xs, h => by
    simp only [seqE, Except.ok.injEq] at h
    subst h
    cases v <;> rfl
  | .error t :: r, xs, h => by simp [seqE] at h
  | .ok u :: r, xs, h => by
    simp only [seqE] at h
    cases hr : seqE r with
    | error t => rw [hr] at h; cases h
    | ok ys =>
      rw [hr] at h
      simp only [Except.ok.injEq] at h
      subst h
      have := seqE_snoc (v := v) hr
      simp only [List.cons_append, seqE, this]
      cases v <;> rfl
theorem seqE_err {t : Tr} : ∀ {l : List ER} {xs : List Int} (r : List ER), seqE l = .ok xs → seqE (l ++ .error t :: r) = .error t
  | [], xs, r, h => rfl
  | .error u :: l, xs, r, h => by simp [seqE] at h
  | .ok u :: l, xs, r, h => by
    simp only [seqE] at h
    cases hr : seqE l with
    | error t => rw [hr] at h; cases h
    | ok ys => simp only [List.cons_append, seqE, seqE_err r hr]
theorem seqE_len : ∀ {l : List ER} {xs : List Int}, seqE l = .ok xs → xs.length = l.length
  | [], xs, h => by simp only [seqE, Except.ok.injEq] at h; subst h; rfl
  | .error t :: r, xs, h => by simp [seqE] at h
  | .ok u :: r, xs, h => by
    simp only [seqE] at h
    cases hr : seqE r with
    | error t => rw [hr] at h; cases h
    | ok ys =>
      rw [hr] at h
      simp only [Except.ok.injEq] at h
      subst h
      simp [seqE_len hr]
/-- What is said of every tree no greater than M. -/
def ValOk (M : Nat) : Prop := ∀ (c : Cel) (k : Fo) (v : Value) (Bt b : Nat) (w0 w : World), k.cells.length ≤ M → (Fo.node c k .nil).ok → FoIn w0 Bt (.node c k .nil) [v] → TabIn w0 b 62 opTab → Below w0.heap.size w0 w →
  Calls Tryz.prog 39 #[.map (some b), v] w (EvOut w (evT (c, k)))

set_option maxRecDepth 100000 in
set_option maxHeartbeats 1000000 in
theorem compound_any (c : Cel) (k : Fo) (pb g : Nat) (vs : List Value) (Bt b : Nat) (w0 w : World) (ih : ∀ m, m < k.cells.length → ValOk m) (h3 : c.1 = 3) (hok : (Fo.node c k .nil).ok) (hcomp : CompAt w0 Bt c.2.2 k pb g vs) (hT : TabIn w0 b 62 opTab) (hw : Below w0.heap.size w0 w) :
    Calls Tryz.prog 82 #[.map (some b), .pointer (some ⟨pb, 0, none⟩)] w (EvOut w (evT (c, k))) := by
  have HC : Hid (CompAt w0 Bt c.2.2 k pb g vs) := hcomp
  have hvl2 : vs.length = k.count := FoIn.count _ _ hcomp.2.2.2.2.2.2
  have hcn : c.2.1 = k.count := hok.2.2.1 h3
  have hcb := hok.1
  simp only [cellB, decide_eq_true_eq] at hcb
  obtain ⟨q, eq⟩ : ∃ q, q = vs.length := ⟨_, rfl⟩
  have hq : q ≤ 20 := by omega
  have HE : Hid (q = vs.length ∧ vs.length = k.count ∧ c.2.1 = q) := ⟨eq, hvl2, by omega⟩
  have HK : Hid k.ok := hok.2.2.2.2.1
  have hby := hok.2.1
  have d0 := (hw.cell (World.block_lt_of_cell? _ _ hcomp.2.2.1)).trans hcomp.2.2.1
  have d1 := (hw.cell (World.block_lt_of_cell? _ _ hcomp.2.2.2.1)).trans hcomp.2.2.2.1
  rw [← eq] at d1
  have HFU := functor_any pb g q (strOfNums c.2.2) w d0 d1
  have HW : Hid (Below w0.heap.size w0 w) := hw
  have HTT : Hid (TabIn w0 b 62 opTab) := hT
  have HIH : Hid (∀ m, m < k.cells.length → ValOk m) := ih
  have hsz : (strOfNums c.2.2).size = c.2.2.length := by simp [strOfNums, ByteArray.size]
  have hokF : okF (strOfNums c.2.2, (q : Int)) := ⟨by show (strOfNums c.2.2).size ≤ _; rw [hsz]; omega, by show (0 : Int) ≤ q; omega, by show (q : Int) ≤ _; omega⟩
  have HLK : Hid (∀ W, Below w0.heap.size w0 W → match entOf c.2.2 (q : Int) with
      | none => (Instr.lookup 69 (.map (some b)) (.agg #[.string (strOfNums c.2.2), .int .i64 (q : Int)]) true).run Tryz.prog W = .ok (.tuple #[.nilFunc, .bool false]) W
      | some cl => ∃ v, (Instr.lookup 69 (.map (some b)) (.agg #[.string (strOfNums c.2.2), .int .i64 (q : Int)]) true).run Tryz.prog W = .ok (.tuple #[v, .bool true]) W ∧ ClIn W cl v) := fun W hW => by
    have := (hT.below hW).look (strOfNums c.2.2, (q : Int)) hokF
    rw [opTab_ent hby] at this
    exact this
  have hev : evT (c, k) = if knownB c.2.2 c.2.1 = false then .error (evbT c.2.2 c.2.1) else match seqE (evF k) with
      | .error t => .error t
      | .ok xs => bndE (opV c.2.2 xs) := by
    unfold evT evC
    simp only [h3]
    rw [if_neg (by decide), if_neg (by decide)]
    by_cases hk : knownB c.2.2 c.2.1 = false
    · rw [if_pos (.inr hk), if_pos hk]
    · rw [if_neg (by simp [hk]), if_neg hk]
      cases seqE (evF k) <;> rfl
  rw [ent_known, HE.out.2.2] at hev
  cases hen : entOf c.2.2 (q : Int) with
  | none =>
    have HL2 : Hid (∀ W, Below w0.heap.size w0 W → (Instr.lookup 69 (.map (some b)) (.agg #[.string (strOfNums c.2.2), .int .i64 (q : Int)]) true).run Tryz.prog W = .ok (.tuple #[.nilFunc, .bool false]) W) := fun W hW => by
      have := HLK.out W hW
      rw [hen] at this
      exact this
    rw [hen] at hev
    simp only [Option.isSome_none, if_true] at hev
    have HEV : Hid (evT (c, k) = .error (evbT c.2.2 q)) := hev
    obtain ⟨s, es⟩ : ∃ s, s = c.2.2 := ⟨_, rfl⟩
    rw [← es] at d0 HFU HL2 HEV
    clear hok hcomp hT hw ih h3 hvl2 hcn hcb eq hby hsz hokF HLK hen hev es
    go_enter Tryz.func82, Tryz.ntmps82
    go_wp2_with fail
    refine HFU.mono ?_
    rintro e w1 ⟨rfl, hb1⟩
    have HB1 : Hid (Below w.heap.size w w1) := hb1
    have hlk := HL2.out w1 (Below.on HW.out hb1)
    have e0 := (hb1.cell (World.block_lt_of_cell? _ _ d0)).trans d0
    have e1 := (hb1.cell (World.block_lt_of_cell? _ _ d1)).trans d1
    have HF2 := functor_any pb g q (strOfNums s) w1 e0 e1
    clear hb1 HFU d0 d1 e0 e1
    go_wp2_with fail
    refine HF2.mono ?_
    rintro e w2 ⟨rfl, hb2⟩
    have HB2 : Hid (Below w.heap.size w w2) := Below.on HB1.out hb2
    have HN := notEvaluable_any s q w2
    clear hb2 HF2 hlk
    go_wp2_with fail
    refine HN.mono ?_
    rintro e w3 ⟨tv, rfl, hfo, hb3⟩
    have HF : Hid (FoIn w3 w.heap.size (evbT s q).fo [tv]) := hfo.mono HB2.out.size
    have HB3 : Hid (Below w.heap.size w w3) := Below.on HB2.out hb3
    clear hfo hb3 HN
    go_wp2_with fail
    go_ret2
    exact evOut_of (r := .error (evbT s q)) ⟨⟨tv, HF.out, .inl rfl⟩, HB3.out⟩ HEV.out
  | some cl =>
    have HL2 : Hid (∀ W, Below w0.heap.size w0 W → ∃ v, (Instr.lookup 69 (.map (some b)) (.agg #[.string (strOfNums c.2.2), .int .i64 (q : Int)]) true).run Tryz.prog W = .ok (.tuple #[v, .bool true]) W ∧ ClIn W cl v) := fun W hW => by
      have := HLK.out W hW
      rw [hen] at this
      exact this
    rw [hen] at hev
    simp only [Option.isSome_some, Bool.true_eq_false, if_false] at hev
    have HEV : Hid (evT (c, k) = match seqE (evF k) with
      | .error t => .error t
      | .ok xs => bndE (opV c.2.2 xs)) := hev
    have HEN : Hid (entOf c.2.2 (q : Int) = some cl) := hen
    obtain ⟨s, es⟩ : ∃ s, s = strOfNums c.2.2 := ⟨_, rfl⟩
    rw [← es] at d0 HFU HL2
    obtain ⟨i0, hi, hz0, hz1, hz2⟩ := info_parts infoNumb
    have hmx : q ≤ maxLen := by unfold maxLen; omega
    clear hok hcomp hT hw ih h3 hvl2 hcn hcb eq hby hsz hokF HLK hen hev es
    go_enter Tryz.func82, Tryz.ntmps82
    go_wp2_with fail
    refine HFU.mono ?_
    rintro e w1 ⟨rfl, hb1⟩
    have HB1 : Hid (Below w.heap.size w w1) := hb1
    obtain ⟨va, hlk, hcl⟩ := HL2.out w1 (Below.on HW.out hb1)
    have HCL : Hid (ClIn w1 cl va) := hcl
    have e1 := (hb1.cell (World.block_lt_of_cell? _ _ d1)).trans d1
    clear hb1 HFU d0 d1 hcl
    go_wp2_with (at_make; refine wpList_make_full _ rfl _ _ 128 rfl w1.heap.size 41 i0 (.int .i64 0) 1 Tryz.underlying128 hi hz0 hz1 _ _ _ _ q rfl rfl rfl rfl (by rw [hz2]; omega) hmx (Nat.le_refl _) ?_; intro w2 hown hgrow; have e1' := ((World.cell?_of_block (w := w1) (a := ⟨pb, 1, none⟩) (hgrow.block pb (World.block_lt_of_cell? _ _ e1) (fun h => by cases h)))).trans e1)
    have HO1 : Hid (w2.ownsRow w1.heap.size 41 1 (.slice (some ⟨w1.heap.size, 0, none⟩) q q) q (([] : List Int).map (Value.int .i64) ++ List.replicate (q - 0) (.int .i64 0))) := by
      have := hown
      simp [Value.cells, toList_madeCells_one] at this
      exact this
    have HG1 : Hid (Below w1.heap.size w1 w2) := (Below.refl _ _).grown hgrow (Nat.le_refl _) (fun k h => by cases h)
    have hs1 : w1.heap.size + 1 ≤ w2.heap.size := by have := (hown.lt w1.heap.size rfl).2; omega
    clear hown hgrow hi hz0 hz1 hz2 e1 e1' hlk HL2
    go_loopw [39] (fun i wr => ∃ (D R : Fo) (us vs2 : List Value) (xs : List Int) (j : Nat), j ≤ q ∧ i = .int .i64 j ∧ Hid (k = D.cat R ∧ vs = us ++ vs2 ∧ us.length = j ∧ xs.length = j) ∧ Hid (FoIn w0 Bt R vs2) ∧
      Hid (wr.ownsRow w1.heap.size 41 1 (.slice (some ⟨w1.heap.size, 0, none⟩) q q) q (xs.map (Value.int .i64) ++ List.replicate (q - j) (.int .i64 0))) ∧ Hid (seqE (evF D) = .ok xs ∧ ∀ x ∈ xs, InB x) ∧ Hid (Below w1.heap.size w1 wr) ∧ w1.heap.size + 1 ≤ wr.heap.size) (fun i _ => q - (intOf i).toNat)
    case atStart => exact ⟨.nil, k, [], vs, [], 0, Nat.zero_le _, rfl, ⟨rfl, rfl, rfl, rfl⟩, HC.out.2.2.2.2.2.2, HO1, ⟨rfl, fun x hx => by cases hx⟩, HG1, hs1⟩
    case round =>
      obtain ⟨D, R, us, vs2, xs, j, hj, rfl, HF, HR, HO, HX, HG, hsz⟩ := hrel
      have hwr : Below w0.heap.size w0 wr := Below.on (Below.on HW.out HB1.out) HG.out
      by_cases hlt : j < q
      · obtain ⟨c', k', r', rfl⟩ : ∃ c' k' r', R = .node c' k' r' := by
          cases R with
          | nil =>
            have h1 := HF.out
            have h2 : vs2 = [] := HR.out
            have h3 := HE.out.1
            rw [h1.2.1, h2, List.append_nil] at h3
            omega
          | node c' k' r' => exact ⟨c', k', r', rfl⟩
        obtain ⟨v, vr, rfl, hnode, hrest⟩ := HR.out
        have hok2 := (Fo.ok_cat D (.node c' k' r')).1 (HF.out.1 ▸ HK.out)
        have hl2 : D.cells.length + (k'.cells.length + r'.cells.length + 1) = k.cells.length := by
          rw [HF.out.1, Fo.cells_cat]; simp [Fo.cells]
        have hat : w0.cell? ⟨g, j, none⟩ = some v := by
          rw [HC.out.2.2.2.2.2.1 j (by rw [← HE.out.1]; exact hlt), HF.out.2.1]
          simp [List.getD, HF.out.2.2.1]
        have c5 : wr.cell? ⟨g, j, none⟩ = some v := (hwr.cell (World.block_lt_of_cell? _ _ hat)).trans hat
        have hok1 : (Fo.node c' k' .nil).ok := ⟨hok2.2.1, hok2.2.2.1, hok2.2.2.2.1, hok2.2.2.2.2.1, hok2.2.2.2.2.2.1, trivial⟩
        have HRC := HIH.out k'.cells.length (by omega) c' k' v Bt b w0 wr (Nat.le_refl _) hok1 ⟨v, [], rfl, hnode, rfl⟩ HTT.out hwr
        obtain ⟨vt, vx, rfl⟩ := hnode.iface
        have HRR : Hid (FoIn w0 Bt r' vr) := hrest
        have HCE : Hid (evF k = evF D ++ evT (c', k') :: evF r') := by show _ = _; rw [HF.out.1, evF_cat]; rfl
        have HIN : Hid (∀ u, evT (c', k') = .ok u → InB u) := fun u hu => evT_in hok1 hu
        clear hok2 hl2 hat hwr hnode hrest HIH hok1
        cases hev : evT (c', k') with
        | ok u =>
          rw [hev] at HRC
          have HU : Hid (evT (c', k') = .ok u) := hev
          clear hev
          go_wp2_with fail
          refine HRC.mono ?_
          rintro e w3 ⟨rfl, hg3⟩
          have e0 : w3.cell? ⟨w1.heap.size, j, none⟩ = some (.int .i64 0) := by
            rw [hg3.cell (p := ⟨w1.heap.size, j, none⟩) (show w1.heap.size < wr.heap.size by omega), HO.out.cellAt j (by omega), List.getElem?_append_right (by have := HF.out.2.2.2; simp; omega), List.getElem?_replicate, if_pos (by have := HF.out.2.2.2; simp; omega)]
          have e1 : w3.frozen? ⟨w1.heap.size, j, none⟩ = false := (hg3.frozen (p := ⟨w1.heap.size, j, none⟩) (show w1.heap.size < wr.heap.size by omega)).trans (HO.out.frozenAt j)
          have HO3 : Hid (w3.ownsRow w1.heap.size 41 1 (.slice (some ⟨w1.heap.size, 0, none⟩) q q) q (xs.map (Value.int .i64) ++ List.replicate (q - j) (.int .i64 0))) := row_below HO.out hg3
          have HN : Hid (k = (D.cat (.node c' k' .nil)).cat r' ∧ vs = (us ++ [Value.iface vt vx]) ++ vr ∧ (us ++ [Value.iface vt vx]).length = j + 1 ∧ (xs ++ [u]).length = j + 1) := ⟨by rw [Fo.cat_assoc]; exact HF.out.1, by rw [HF.out.2.1]; simp, by simp [HF.out.2.2.1], by simp [HF.out.2.2.2]⟩
          have HX3 : Hid (seqE (evF (D.cat (.node c' k' .nil))) = .ok (xs ++ [u]) ∧ ∀ x ∈ xs ++ [u], InB x) := by
            refine ⟨?_, fun x hx => ?_⟩
            · have h1 : evF (D.cat (.node c' k' .nil)) = evF D ++ [.ok u] := by rw [evF_cat, ← HU.out]; rfl
              rw [h1, seqE_snoc HX.out.1]
            · rcases List.mem_append.1 hx with hx | hx
              · exact HX.out.2 x hx
              · rw [List.mem_singleton.1 hx]; exact HIN.out u HU.out
          have HG3 : Hid (Below w1.heap.size w1 (w3.setCell ⟨w1.heap.size, j, none⟩ (.int .i64 u))) := (Below.on HG.out hg3).setCell (p := ⟨w1.heap.size, j, none⟩) (Nat.le_refl _) _
          have hsz3 : w1.heap.size + 1 ≤ w3.heap.size := Nat.le_trans hsz hg3.size
          have HO4 : Hid ((w3.setCell ⟨w1.heap.size, j, none⟩ (.int .i64 u)).ownsRow w1.heap.size 41 1 (.slice (some ⟨w1.heap.size, 0, none⟩) q q) q ((xs ++ [u]).map (Value.int .i64) ++ List.replicate (q - (j + 1)) (.int .i64 0))) := by
            show World.ownsRow _ _ _ _ _ _ _
            rw [List.map_append]
            exact rowN_next HO3.out (by have := HF.out.2.2.2; simpa using this) hlt _
          clear hg3 HRC
          go_wp2_with fail
          go_roundw
          case rel => exact ⟨D.cat (.node c' k' .nil), r', us ++ [Value.iface vt vx], vr, xs ++ [u], j + 1, by omega, by go_num, HN, HRR, HO4, HX3, HG3, by simpa using hsz3⟩
          case measure => simp [intOf]; omega
        | error t =>
          rw [hev] at HRC
          have HU : Hid (evT (c, k) = .error t) := by
            show _ = _
            rw [HEV.out, HCE.out, hev, seqE_err _ HX.out.1]
          clear hev
          go_wp2_with fail
          refine HRC.mono ?_
          rintro e w3 ⟨⟨tv, hfo, rfl | rfl⟩, hg3⟩
          · have HF3 : Hid (FoIn w3 w.heap.size t.fo [tv]) := hfo.mono (Nat.le_trans HB1.out.size HG.out.size)
            have HB3 : Hid (Below w.heap.size w w3) := Below.on (Below.on HB1.out HG.out) hg3
            clear hfo hg3 HRC
            go_wp2_with fail
            go_ret2
            exact evOut_of (r := .error t) ⟨⟨tv, HF3.out, .inl rfl⟩, HB3.out⟩ HU.out
          · exact ⟨rfl, evOut_of (r := .error t) ⟨⟨tv, hfo.mono (Nat.le_trans HB1.out.size HG.out.size), .inr rfl⟩, Below.on (Below.on HB1.out HG.out) hg3⟩ HU.out⟩
      · obtain rfl : j = q := by omega
        obtain rfl : R = .nil := by
          have h1 := FoIn.count _ _ HR.out
          have h2 := HE.out
          rw [HF.out.2.1, List.length_append] at h2
          have h3 := HF.out.2.2.1
          cases R with
          | nil => rfl
          | node a b d => simp [Fo.count] at h1; omega
        have hD : D = k := by have := HF.out.1; rw [Fo.cat_nil] at this; exact this.symm
        subst hD
        obtain ⟨r, hr, hdo⟩ := ent_does HEN.out (xs := xs) (by have := HF.out.2.2.2; omega) HX.out.2
        have HRR : Hid (evT (c, D) = bndE r) := by
          show _ = _
          rw [HEV.out, HX.out.1, hr]
        have hcl := HCL.out.below HG.out
        have HBW : Hid (Below w.heap.size w wr) := Below.on HB1.out HG.out
        have hrow : ∀ i, (h : i < xs.length) → wr.cell? ⟨w1.heap.size, i, none⟩ = some (.int .i64 xs[i]) := fun i h => by
          rw [HO.out.cellAt i (by have := HF.out.2.2.2; omega), List.getElem?_append_left (by simpa using h), List.getElem?_map, List.getElem?_eq_getElem h]
          rfl
        have hxl := HF.out.2.2.2
        clear HF HR HX HG HO HC HE HK HIH HEV HEN HW HTT hr HCL hwr hsz HB1 hs1 HO1 HG1
        cases cl with
        | un K =>
          obtain ⟨x, v, rfl, rfl, eK, HFN⟩ := hdo
          obtain ⟨bf, rfl, hbox⟩ := hcl
          obtain rfl : j = 1 := by simpa using hxl.symm
          have HA := unary_any K eK x v w1.heap.size bf wr hbox (hrow 0 (by simp)) (fun W _ => HFN W)
          clear hrow hbox HFN hxl
          go_wp2_with fail
          refine HA.mono ?_
          rintro e w4 ⟨⟨hm, rfl⟩ | ⟨hn, tv, rfl, hfo⟩, hb4⟩
          · have HB4 : Hid (Below w.heap.size w w4) := Below.on HBW.out hb4
            have HBD := bounded_any v w4 hm
            clear hm hb4 HA
            go_wp2_with fail
            refine HBD.mono ?_
            rintro e w5 ⟨⟨hi, rfl⟩ | ⟨hn, tv, rfl, hfo⟩, hb5⟩
            · have HI5 : Hid (bndE (.ok v) = .ok v) := by show (if InB v then _ else _) = _; rw [if_pos hi]
              have HB5 : Hid (Below w.heap.size w w5) := Below.on HB4.out hb5
              clear hi hb5 HBD
              go_wp2_with fail
              go_ret2
              exact evOut_of (r := .ok v) ⟨rfl, HB5.out⟩ (HRR.out.trans HI5.out)
            · have HI5 : bndE (.ok v) = .error ovfT := by show (if InB v then _ else _) = _; rw [if_neg hn]
              exact ⟨rfl, evOut_of (r := .error ovfT) ⟨⟨tv, hfo.mono HB4.out.size, .inr rfl⟩, Below.on HB4.out hb5⟩ (HRR.out.trans HI5)⟩
          · have HI5 : bndE (.ok v) = .error ovfT := by show (if InB v then _ else _) = _; rw [if_neg hn]
            exact ⟨rfl, evOut_of (r := .error ovfT) ⟨⟨tv, hfo.mono HBW.out.size, .inr rfl⟩, Below.on HBW.out hb4⟩ (HRR.out.trans HI5)⟩
        | bi K1 K2 =>
          obtain ⟨x, y, gr, v, rfl, rfl, e1, e2, HC1, HC2⟩ := hdo
          obtain ⟨bc, bf, rfl, hbc, hbf⟩ := hcl
          obtain rfl : j = 2 := by simpa using hxl.symm
          have HA := behind_any K1 K2 e1 e2 x y gr v w1.heap.size bc bf wr hbc hbf (hrow 0 (by simp)) (hrow 1 (by simp)) (fun W _ => HC1 W) (fun h W _ => HC2 h W)
          clear hrow hbc hbf HC1 HC2 hxl
          cases gr with
          | none =>
            go_wp2_with fail
            refine HA.mono ?_
            rintro e w4 ⟨⟨hm, rfl⟩ | ⟨hn, tv, rfl, hfo⟩, hb4⟩
            · have HB4 : Hid (Below w.heap.size w w4) := Below.on HBW.out hb4
              have HBD := bounded_any v w4 hm
              clear hm hb4 HA
              go_wp2_with fail
              refine HBD.mono ?_
              rintro e w5 ⟨⟨hi, rfl⟩ | ⟨hn, tv, rfl, hfo⟩, hb5⟩
              · have HI5 : Hid (bndE (.ok v) = .ok v) := by show (if InB v then _ else _) = _; rw [if_pos hi]
                have HB5 : Hid (Below w.heap.size w w5) := Below.on HB4.out hb5
                clear hi hb5 HBD
                go_wp2_with fail
                go_ret2
                exact evOut_of (r := .ok v) ⟨rfl, HB5.out⟩ (HRR.out.trans HI5.out)
              · have HI5 : bndE (.ok v) = .error ovfT := by show (if InB v then _ else _) = _; rw [if_neg hn]
                exact ⟨rfl, evOut_of (r := .error ovfT) ⟨⟨tv, hfo.mono HB4.out.size, .inr rfl⟩, Below.on HB4.out hb5⟩ (HRR.out.trans HI5)⟩
            · have HI5 : bndE (.ok v) = .error ovfT := by show (if InB v then _ else _) = _; rw [if_neg hn]
              exact ⟨rfl, evOut_of (r := .error ovfT) ⟨⟨tv, hfo.mono HBW.out.size, .inr rfl⟩, Below.on HBW.out hb4⟩ (HRR.out.trans HI5)⟩
          | some t =>
            go_wp2_with fail
            refine HA.mono ?_
            rintro e w4 ⟨⟨tv, rfl, hfo⟩, hb4⟩
            have HF4 : Hid (FoIn w4 w.heap.size t.fo [tv]) := hfo.mono HBW.out.size
            have HB4 : Hid (Below w.heap.size w w4) := Below.on HBW.out hb4
            have HBD := bounded_any 0 w4 (by unfold Mid; omega)
            clear hfo hb4 HA
            go_wp2_with fail
            refine HBD.mono ?_
            rintro e w5 ⟨⟨_, rfl⟩ | ⟨hn, _⟩, hb5⟩
            · have HF5 : Hid (FoIn w5 w.heap.size t.fo [tv]) := HF4.out.below hb5
              have HB5 : Hid (Below w.heap.size w w5) := Below.on HB4.out hb5
              clear hb5 HBD
              go_wp2_with fail
              go_ret2
              exact evOut_of (r := .error t) ⟨⟨tv, HF5.out, .inl rfl⟩, HB5.out⟩ HRR.out
            · exact absurd (by decide : InB 0) hn
set_option maxRecDepth 100000 in
theorem value_any : ∀ M, ValOk M := by
  intro M
  induction M using Nat.strongRecOn with
  | ind M ih =>
    intro c k v Bt b w0 w hM hok hfo hT hw
    obtain ⟨v', vr, e, hnode, _⟩ := hfo
    obtain ⟨rfl, rfl⟩ := List.cons.inj e
    rcases hnode with ⟨h0, rfl⟩ | ⟨h0, rfl⟩ | ⟨h0, rfl⟩ | ⟨h0, pb, g, vs, rfl, hcomp⟩
    · have e : evT (c, k) = .error instT := by unfold evT evC; rw [if_neg (by show ¬ c.1 = 1; omega), if_pos h0]
      rw [e]
      exact valueVar_any b c.2.1 w
    · have e : evT (c, k) = .ok c.2.1 := by unfold evT evC; rw [if_pos h0]
      rw [e]
      exact valueNum_any b c.2.1 w
    · have e : evT (c, k) = .error (evbT c.2.2 0) := by
        have := hok.1
        simp only [cellB, decide_eq_true_eq] at this
        unfold evT evC
        rw [if_neg (by show ¬ c.1 = 1; omega), if_neg (by show ¬ c.1 = 0; omega), if_pos (.inl h0)]
        show Except.error (evbT c.2.2 c.2.1) = _
        rw [show c.2.1 = 0 by omega]
      rw [e]
      exact valueAtom_any b c.2.2 w
    · exact valueComp_any b pb _ w (compound_any c k pb g vs Bt b w0 w (fun m hm => ih m (by omega)) h0 hok hcomp hT hw)

end Go.Proofs.YtpcmfdbcjegbcaaGreatDoor

namespace Go.Proofs.YtpcmfdbcjegbcaaGreatDoor
open Go Go.RowKit Go.Shelf
set_option linter.unusedVariables false
attribute [local go_sem] Oper.semAt_some

/-- What evaluate answers. -/
def ElOut (w : World) (r : ER) (e : Ending) (w' : World) : Prop := (match r with
  | .ok v => e = .returned (.tuple #[.int .i64 v, .nilIface])
  | .error t => ∃ tv, e = .returned (.tuple #[.int .i64 0, .iface 50 (.agg #[tv])]) ∧ FoIn w' w.heap.size t.fo [tv]) ∧ Below w.heap.size w w'
set_option maxRecDepth 100000 in
set_option maxHeartbeats 600000 in
theorem evaluate_any (c : Cel) (k : Fo) (v : Value) (Bt : Nat) (w : World) (hok : (Fo.node c k .nil).ok) (hfo : FoIn w Bt (.node c k .nil) [v])
    (hg : w.cell? ⟨0, 0, none⟩ = some (.iface 115 (.agg #[.pointer (some ⟨1, 43, none⟩)]))) :
    Calls Tryz.prog 17 #[v] w (ElOut w (evT (c, k))) := by
  have hmf : ∀ (fn : Fn) (first cap : Array Value) (w : World), (Instr.makeFunc fn first cap).run Tryz.prog w = .ok (.func fn first cap) w := fun _ _ _ _ => rfl
  obtain ⟨vt, vx, rfl⟩ := hfo.iface
  obtain ⟨R, eR⟩ : ∃ R, R = evT (c, k) := ⟨_, rfl⟩
  obtain ⟨w2, ew2⟩ : ∃ w2, w2 = (w.alloc (.cells #[.int .i64 0] 41)).alloc (.cells #[.nilIface] 43) := ⟨_, rfl⟩
  have hb2 : Below w.heap.size w w2 := by rw [ew2]; exact ((Below.refl _ _).alloc (Nat.le_refl _) _).alloc (by simp) _
  have HN := newOperations_any w2
  have HV : Hid (∀ b W, TabIn W b 62 opTab → Below w2.heap.size w2 W → Calls Tryz.prog 39 #[.map (some b), .iface vt vx] W (EvOut W R)) := fun b W hT hW => by
    rw [eR]
    exact value_any _ c k _ Bt b W W (Nat.le_refl _) hok (FoIn.below (FoIn.below hfo hb2) hW) hT (Below.refl _ _)
  rw [← eR]
  have HB2 : Hid (Below w.heap.size w w2) := hb2
  have HG : Hid _ := hg
  clear eR hfo hok hb2 hg
  refine (callsIn_wide (n := 6)).1 ?_
  refine callsIn_of_wp_marks Tryz.func17 rfl trivial ?_ rfl
  simp only [Tryz.ntmps17, List.size_toArray, List.length_cons, List.length_nil, Nat.reduceAdd, Nat.reduceSub, Array.replicate_succ, Array.replicate_zero, List.push_toArray, List.append_toArray, List.nil_append, List.cons_append]
  gi_wp2_with fail
  rw [← ew2]
  have h20 : w2.heap[w.heap.size]? = some (.cells #[.int .i64 0] 41) := by rw [ew2]; exact (Below.heap_alloc _ _ _ (by simp)).trans (heap_alloc_new _ _)
  have h21 : w2.heap[w.heap.size + 1]? = some (.cells #[.nilIface] 43) := by
    have := heap_alloc_new (w.alloc (.cells #[.int .i64 0] 41)) (.cells #[.nilIface] 43)
    rw [World.size_alloc] at this
    rw [ew2]; exact this
  have hs2 : w2.heap.size = w.heap.size + 2 := by rw [ew2]; simp
  refine ⟨trivial, (callsIn_wide.2 HN).mono ?_⟩
  rintro e w3 ⟨b, rfl, hT, hb3⟩
  have HV3 := HV.out b w3 hT hb3
  have HB3 : Hid (Below w2.heap.size w2 w3) := hb3
  obtain ⟨T, eT⟩ : ∃ T, T = w.heap.size := ⟨_, rfl⟩
  have HS2 : Hid (w2.heap.size = T + 2) := by rw [eT]; exact hs2
  have HTT : Hid (T = w.heap.size) := eT
  rw [← eT] at h20 h21
  rw [← eT]
  have HA : Hid (∀ W, Below w2.heap.size w2 W → W.cell? ⟨T, 0, none⟩ = some (.int .i64 0) ∧ W.cell? ⟨T + 1, 0, none⟩ = some .nilIface ∧ W.frozen? ⟨T, 0, none⟩ = false ∧ W.frozen? ⟨T + 1, 0, none⟩ = false) := fun W hW => by
    have q0 := (hW.block T (by have := HS2.out; omega)).trans h20
    have q1 := (hW.block (T + 1) (by have := HS2.out; omega)).trans h21
    exact ⟨cell_of_row _ _ 0 _ _ _ q0, cell_of_row _ _ 0 _ _ _ q1, frozen_of_row _ _ _ _ _ q0, frozen_of_row _ _ _ _ _ q1⟩
  clear HN HV hT hb3 h20 h21 hs2 ew2 eT
  gi_wp2_with fail
  refine ⟨trivial, (callsIn_wide.2 HV3).mono ?_⟩
  have st : Hid (∀ (W : World) (u1 u2 : Value), Below w2.heap.size w2 W → ((W.setCell ⟨T, 0, none⟩ u1).setCell ⟨T + 1, 0, none⟩ u2).cell? ⟨T, 0, none⟩ = some u1 ∧ ((W.setCell ⟨T, 0, none⟩ u1).setCell ⟨T + 1, 0, none⟩ u2).cell? ⟨T + 1, 0, none⟩ = some u2 ∧ Below w.heap.size w ((W.setCell ⟨T, 0, none⟩ u1).setCell ⟨T + 1, 0, none⟩ u2)) := fun W u1 u2 hW => by
    obtain ⟨q0, q1, _, _⟩ := HA.out W hW
    have f1 : (W.setCell ⟨T, 0, none⟩ u1).cell? ⟨T + 1, 0, none⟩ = W.cell? ⟨T + 1, 0, none⟩ := World.cell?_setCell_far W ⟨T, 0, none⟩ ⟨T + 1, 0, none⟩ u1 (by simp)
    refine ⟨?_, World.cell?_setCell_same' _ _ _ (by rw [f1, q1]; rfl), ?_⟩
    · rw [World.cell?_setCell_far _ ⟨T + 1, 0, none⟩ ⟨T, 0, none⟩ u2 (by simp)]
      exact World.cell?_setCell_same' _ _ _ (by rw [q0]; rfl)
    · have hb := Below.on HB2.out hW
      rw [← HTT.out] at hb ⊢
      exact ⟨hb.os, hb.tape, hb.output, by have := hb.size; simp; omega, fun k hk => by
        rw [heap_setCell_other _ ⟨T + 1, 0, none⟩ k _ (fun e => by simp at e; omega), heap_setCell_other _ ⟨T, 0, none⟩ k _ (fun e => by simp at e; omega)]
        exact hb.block k hk⟩
  cases R with
  | ok v =>
    rintro e w4 ⟨rfl, hb4⟩
    have hw4 : Below w2.heap.size w2 w4 := Below.on HB3.out hb4
    obtain ⟨q0, q1, f0, f1⟩ := HA.out w4 hw4
    have HW4 : Hid (Below w2.heap.size w2 w4) := hw4
    clear hw4 hb4 HV3
    gi_wp2_with fail
    obtain ⟨z0, z1, zb⟩ := st.out w4 (.int .i64 v) .nilIface HW4.out
    refine ⟨by simp, .inr ⟨fun _ => by decide, _, _, 36, #[.pointer (some ⟨T, 0, none⟩), .pointer (some ⟨T + 1, 0, none⟩)], rfl, by simp [invoke, go_sem], fun g _ => trivial, (evD_idle _ _ _ _).mono ?_⟩⟩
    rintro e u' w' ⟨rfl, rfl, rfl⟩
    exact ⟨.tuple #[.int .i64 v, .nilIface], by simp [results, Tryz.results17, go_sem, z0, z1], rfl, zb⟩
  | error t =>
    rintro e w4 ⟨⟨tv, hfo, rfl | rfl⟩, hb4⟩
    · have hw4 : Below w2.heap.size w2 w4 := Below.on HB3.out hb4
      obtain ⟨q0, q1, f0, f1⟩ := HA.out w4 hw4
      have HW4 : Hid (Below w2.heap.size w2 w4) := hw4
      have HF4 : Hid (FoIn w4 w3.heap.size t.fo [tv]) := hfo
      clear hw4 hb4 HV3 hfo
      gi_wp2_with fail
      obtain ⟨z0, z1, zb⟩ := st.out w4 (.int .i64 0) (.iface 50 (.agg #[tv])) HW4.out
      have h3 := HB3.out.size
      have h2 := HS2.out
      have zf : FoIn ((w4.setCell ⟨T, 0, none⟩ (.int .i64 0)).setCell ⟨T + 1, 0, none⟩ (.iface 50 (.agg #[tv]))) w.heap.size t.fo [tv] := ((HF4.out.setCell (a := ⟨T, 0, none⟩) (by show T < _; omega) _).setCell (a := ⟨T + 1, 0, none⟩) (by show T + 1 < _; omega) _).mono (by rw [← HTT.out]; omega)
      refine ⟨by simp, .inr ⟨fun _ => by decide, _, _, 36, #[.pointer (some ⟨T, 0, none⟩), .pointer (some ⟨T + 1, 0, none⟩)], rfl, by simp [invoke, go_sem], fun g _ => trivial, (evD_idle _ _ _ _).mono ?_⟩⟩
      rintro e u' w' ⟨rfl, rfl, rfl⟩
      exact ⟨.tuple #[.int .i64 0, .iface 50 (.agg #[tv])], by simp [results, Tryz.results17, go_sem, z0, z1], ⟨tv, rfl, zf⟩, zb⟩
    · have hw4 : Below w2.heap.size w2 w4 := Below.on HB3.out hb4
      obtain ⟨q0, q1, f0, f1⟩ := HA.out w4 hw4
      obtain ⟨ut, ux, rfl⟩ := FoIn.iface (c := t.1) (k := t.2) (r := .nil) hfo
      have hgl := World.block_lt_of_cell? _ _ HG.out
      have hww := Below.on HB2.out hw4
      have hg4 := (hww.cell hgl).trans HG.out
      have h3 := HB3.out.size
      have h4 := hb4.size
      have h2 := HS2.out
      refine ⟨by simp, .inr ⟨fun _ => by decide, _, _, 36, #[.pointer (some ⟨T, 0, none⟩), .pointer (some ⟨T + 1, 0, none⟩)], rfl, by simp [invoke, go_sem], fun g _ => trivial, (evD_panicking _ T (T + 1) _ _ ut ux w4 hg4 q0 q1 f0 f1 rfl).mono ?_⟩⟩
      rintro e u' w' ⟨rfl, rfl, hs⟩
      refine ⟨.tuple #[.int .i64 0, .iface 50 (.agg #[.iface ut ux])], by simp [results, Tryz.results17, go_sem, hs.val, hs.err], ⟨_, rfl, ?_⟩, ?_⟩
      · exact FoIn.imp (B := w3.heap.size) (by rw [← HTT.out]; omega) (fun b o hb1 hb2 => World.cell?_of_block (a := ⟨b, o, none⟩) (hs.block b hb2 (by omega) (by omega))) hs.size _ _ hfo
      · rw [← HTT.out] at hww ⊢
        exact ⟨hs.os.trans hww.os, hs.tape.trans hww.tape, hs.output.trans hww.output, Nat.le_trans hww.size hs.size, fun k hk => (hs.block k (by omega) (by omega) (by omega)).trans (hww.block k hk)⟩

end Go.Proofs.YtpcmfdbcjegbcaaGreatDoor

namespace Go.Proofs.YtpcmfdbcjegbcaaGreatDoor
open Go Go.RowKit
set_option linter.unusedVariables false

/-- What Eval answers, by the value. -/
def evZ : ER → List Cel × Int
  | .ok v => ([(1, v, [])], 0)
  | .error t => (t.1 :: t.2.cells, 6)
/-- An error's tree. -/
def errOk (t : Tr) : Prop := (Fo.node t.1 t.2 .nil).ok ∧ t.2.cells.length ≤ 10
theorem byte_of {s : List Int} (h : (s.all fun x => decide (0 ≤ x) && decide (x < 256)) = true) : Byte s := fun x hx => by
  have := List.all_eq_true.1 h x hx
  simpa using this
theorem atom_ok {s : List Int} (h : Byte s) (hl : s.length ≤ 100) {r : Fo} (hr : r.ok) : (Fo.node (2, 0, s) .nil r).ok := ⟨by simp [cellB]; omega, h, fun e => by simp at e, fun _ => rfl, trivial, hr⟩
theorem num_ok {n : Int} (h : InB n) {r : Fo} (hr : r.ok) : (Fo.node (1, n, []) .nil r).ok := ⟨by unfold InB at h; simp [cellB]; omega, fun x hx => (by cases hx), fun e => by simp at e, fun _ => rfl, trivial, hr⟩
theorem comp_ok {s : List Int} {k : Fo} (h : Byte s) (hl : s.length ≤ 100) (hk : k.ok) (h1 : 1 ≤ k.count) (h2 : k.count ≤ 20) : (Fo.node (3, k.count, s) k .nil).ok := ⟨by simp [cellB]; omega, h, fun _ => rfl, fun e => absurd rfl e, hk, trivial⟩
theorem errOk_eval {s : List Int} (h : Byte s) (hl : s.length ≤ 100) : errOk (evalT s) := ⟨comp_ok (k := .node (2, 0, s) .nil .nil) (byte_of (by decide)) (by decide) (atom_ok h hl trivial) (by simp [Fo.count]) (by simp [Fo.count]), by simp [evalT, Fo.cells]⟩
theorem errOk_type {s : List Int} {t : Tr} (h : Byte s) (hl : s.length ≤ 100) (ht : (Fo.node t.1 t.2 .nil).ok) (hc : t.2.cells.length ≤ 5) : errOk (typeT s t) := ⟨comp_ok (k := .node (2, 0, s) .nil (.node t.1 t.2 .nil)) (byte_of (by decide)) (by decide) (atom_ok h hl ht) (by simp [Fo.count]) (by simp [Fo.count]), by simp [typeT, Fo.cells]; omega⟩
theorem errOk_inst : errOk instT := ⟨atom_ok (byte_of (by decide)) (by decide) trivial, by simp [instT, Fo.cells]⟩
theorem errOk_evb {s : List Int} {n : Int} (h : Byte s) (hl : s.length ≤ 100) (hn : InB n) : errOk (evbT s n) := errOk_type (byte_of (by decide)) (by decide) (comp_ok (s := [47]) (k := .node (2, 0, s) .nil (.node (1, n, []) .nil .nil)) (byte_of (by decide)) (by decide) (atom_ok h hl (num_ok hn trivial)) (by simp [Fo.count]) (by simp [Fo.count])) (by simp [indT, Fo.cells])
theorem errOk_float {x : Int} (h : InB x) : errOk (floatT x) := errOk_type (byte_of (by decide)) (by decide) (num_ok h trivial) (by simp [numT, Fo.cells])
theorem errOk_op2 {s : List Int} {x y : Int} {t : Tr} (hx : InB x) (h : op2 s x y = .error t) : errOk t := by
  unfold op2 at h
  by_cases e0 : s = [43]
  · rw [if_pos e0] at h
    cases h
  rw [if_neg e0] at h
  by_cases e1 : s = [45]
  · rw [if_pos e1] at h
    cases h
  rw [if_neg e1] at h
  by_cases e2 : s = [42]
  · rw [if_pos e2] at h
    cases h
  rw [if_neg e2] at h
  by_cases e3 : s = [109, 105, 110]
  · rw [if_pos e3] at h
    cases h
  rw [if_neg e3] at h
  by_cases e4 : s = [109, 97, 120]
  · rw [if_pos e4] at h
    cases h
  rw [if_neg e4] at h
  by_cases e5 : s = [47, 47]
  · rw [if_pos e5] at h
    by_cases y0 : y = 0
    · rw [if_pos y0] at h; cases h; exact errOk_eval (byte_of (by decide)) (by decide)
    · rw [if_neg y0] at h; cases h
  rw [if_neg e5] at h
  by_cases e6 : s = [114, 101, 109]
  · rw [if_pos e6] at h
    by_cases y0 : y = 0
    · rw [if_pos y0] at h; cases h; exact errOk_eval (byte_of (by decide)) (by decide)
    · rw [if_neg y0] at h; cases h
  rw [if_neg e6] at h
  by_cases e7 : s = [109, 111, 100]
  · rw [if_pos e7] at h
    by_cases y0 : y = 0
    · rw [if_pos y0] at h; cases h; exact errOk_eval (byte_of (by decide)) (by decide)
    · rw [if_neg y0] at h; cases h
  rw [if_neg e7] at h
  by_cases e8 : s = [62, 62]
  · rw [if_pos e8] at h
    by_cases y0 : y < 0
    · rw [if_pos y0] at h; cases h; exact errOk_eval (byte_of (by decide)) (by decide)
    · rw [if_neg y0] at h; cases h
  rw [if_neg e8] at h
  by_cases e9 : s = [60, 60]
  · rw [if_pos e9] at h
    by_cases y0 : y < 0
    · rw [if_pos y0] at h; cases h; exact errOk_eval (byte_of (by decide)) (by decide)
    · rw [if_neg y0] at h; cases h
  rw [if_neg e9] at h
  by_cases e10 : s = [47, 92]
  · rw [if_pos e10] at h
    cases h
  rw [if_neg e10] at h
  by_cases e11 : s = [92, 47]
  · rw [if_pos e11] at h
    cases h
  rw [if_neg e11] at h
  by_cases e12 : s = [120, 111, 114]
  · rw [if_pos e12] at h
    cases h
  rw [if_neg e12] at h
  unfold powE at h
  by_cases y0 : 0 ≤ y
  · rw [if_pos y0] at h; cases h
  rw [if_neg y0] at h
  by_cases x0 : x = 0
  · rw [if_pos x0] at h; cases h; exact errOk_eval (byte_of (by decide)) (by decide)
  rw [if_neg x0] at h
  by_cases x1 : x.natAbs = 1
  · rw [if_pos x1] at h; cases h
  rw [if_neg x1] at h
  cases h
  exact errOk_float hx
theorem errOk_opV {s xs : List Int} {t : Tr} (hx : ∀ x ∈ xs, InB x) (h : opV s xs = .error t) : errOk t := by
  unfold opV at h
  split at h
  · cases h
  · exact errOk_op2 (hx _ (by simp)) h
  · cases h
theorem errOk_bnd {r : ER} {t : Tr} (hr : ∀ u, r = .error u → errOk u) (h : bndE r = .error t) : errOk t := by
  cases r with
  | error u => cases h; exact hr _ rfl
  | ok v =>
    simp only [bndE] at h
    split at h
    · cases h
    · cases h; exact errOk_eval (byte_of (by decide)) (by decide)
mutual
theorem errOk_evT {c : Cel} {k : Fo} {t : Tr} (hok : (Fo.node c k .nil).ok) (h : evT (c, k) = .error t) : errOk t := by
  have hcb := hok.1
  simp only [cellB, decide_eq_true_eq] at hcb
  unfold evT evC at h
  split at h
  · cases h
  split at h
  · cases h; exact errOk_inst
  split at h
  · cases h; exact errOk_evb hok.2.1 (by show c.2.2.length ≤ 100; omega) (by unfold InB; simp only at *; omega)
  · split at h
    · rename_i u hu
      cases h
      exact errOk_seq k hok.2.2.2.2.1 hu
    · rename_i xs hxs
      exact errOk_bnd (fun u hu => errOk_opV (vals_in k hok.2.2.2.2.1 hxs) hu) h
theorem errOk_seq : ∀ (k : Fo) {t : Tr}, k.ok → seqE (evF k) = .error t → errOk t
  | .nil, t, _, h => by cases h
  | .node c k r, t, hok, h => by
    simp only [evF_cons] at h
    cases he : evT (c, k) with
    | error u =>
      rw [he] at h
      simp only [seqE] at h
      cases h
      exact errOk_evT (c := c) (k := k) ⟨hok.1, hok.2.1, hok.2.2.1, hok.2.2.2.1, hok.2.2.2.2.1, trivial⟩ he
    | ok v =>
      rw [he] at h
      simp only [seqE] at h
      cases hs : seqE (evF r) with
      | error u =>
        rw [hs] at h
        cases h
        exact errOk_seq r hok.2.2.2.2.2 hs
      | ok xs => rw [hs] at h; cases h
theorem vals_in : ∀ (k : Fo) {xs : List Int}, k.ok → seqE (evF k) = .ok xs → ∀ x ∈ xs, InB x
  | .nil, xs, _, h, x, hx => by
    simp only [evF, seqE, Except.ok.injEq] at h
    subst h
    cases hx
  | .node c k r, xs, hok, h, x, hx => by
    simp only [evF_cons] at h
    cases he : evT (c, k) with
    | error u => rw [he] at h; simp only [seqE] at h; cases h
    | ok v =>
      rw [he] at h
      simp only [seqE] at h
      cases hs : seqE (evF r) with
      | error u => rw [hs] at h; cases h
      | ok ys =>
        rw [hs] at h
        simp only [Except.ok.injEq] at h
        subst h
        rcases List.mem_cons.1 hx with rfl | hx
        · exact evT_in (c := c) (k := k) ⟨hok.1, hok.2.1, hok.2.2.1, hok.2.2.2.1, hok.2.2.2.2.1, trivial⟩ he
        · exact vals_in r hok.2.2.2.2.2 hs x hx
end
set_option maxRecDepth 100000 in
theorem as_nil (t : TypeId) (y : Value) (w : World) : Calls Tryz.prog 19 #[.nilIface, .iface t y] w fun e w' => e = .returned (.bool false) ∧ Below w.heap.size w w' := by
  go_enter Tryz.func19, Tryz.ntmps19
  go_wp2_with fail
  go_ret
  exact ⟨rfl, Below.refl _ _⟩
/-- What one of the two Eval leaves. -/
def EvalOut (w : World) (r : List Cel × Int) (e : Ending) (w' : World) : Prop := ∃ q m c2, e = .returned (.tuple #[.slice q m c2, .int .i64 r.2]) ∧ OwnC w' w.heap.size q m c2 r.1 ∧ Below w.heap.size w w'
set_option maxRecDepth 100000 in
theorem implEval_any (c : Cel) (k : Fo) (p : Option Addr) (n cap : Nat) (w : World) (hok : (Fo.node c k .nil).ok) (hn : n = k.cells.length + 1) (hm : n ≤ 2000) (hcap : n ≤ cap) (hcm : cap ≤ 1000000000) (hv : validB (c :: k.cells) = true) (hin : CIn w p (c :: k.cells))
    (hg : w.cell? ⟨0, 0, none⟩ = some (.iface 115 (.agg #[.pointer (some ⟨1, 43, none⟩)]))) :
    Calls Tryz.prog 7 #[.slice p n cap] w (EvalOut w (evZ (evT (c, k)))) := by
  have HVA := implValid_any p cap (c :: k.cells) w (by simp; omega) hin
  rw [hv, show (c :: k.cells).length = n by simp [hn]] at HVA
  have hgl : 0 < w.heap.size := World.block_lt_of_cell? _ _ hg
  have HTO : Hid (∀ W, Below w.heap.size w W → Calls Tryz.prog 18 #[.slice p n cap] W fun e w' => ∃ v, e = .returned v ∧ FoIn w' W.heap.size (.node c k .nil) [v] ∧ Below W.heap.size W w') := fun W hW => termOf_any c k p n cap W hok hn hcap hcm (hin.below hW)
  have HEV : Hid (∀ W v B, Below w.heap.size w W → FoIn W B (.node c k .nil) [v] → Calls Tryz.prog 17 #[v] W (ElOut W (evT (c, k)))) := fun W v B hW hf => evaluate_any c k v B W hok hf ((hW.cell (p := ⟨0, 0, none⟩) hgl).trans hg)
  have HG : Hid (∀ W, Below w.heap.size w W → W.cell? ⟨0, 0, none⟩ = some (.iface 115 (.agg #[.pointer (some ⟨1, 43, none⟩)]))) := fun W hW => (hW.cell (p := ⟨0, 0, none⟩) hgl).trans hg
  have HOK : Hid ((∀ v, evT (c, k) = .ok v → InB v) ∧ ∀ t, evT (c, k) = .error t → errOk t) := ⟨fun v h => evT_in hok h, fun t h => errOk_evT hok h⟩
  obtain ⟨R, eR⟩ : ∃ R, R = evT (c, k) := ⟨_, rfl⟩
  rw [← eR] at HEV HOK ⊢
  clear hok hn hv hin hg hgl eR
  go_enter Tryz.func7, Tryz.ntmps7
  go_wp2_with fail
  refine HVA.mono ?_
  rintro e w1 ⟨rfl, hb1⟩
  have HB1 : Hid (Below w.heap.size w w1) := hb1
  have HT1 := HTO.out w1 hb1
  clear hb1 HVA
  go_wp2_with fail
  refine HT1.mono ?_
  rintro e w2 ⟨v, rfl, hfo, hb2⟩
  have HB2 : Hid (Below w.heap.size w w2) := Below.on HB1.out hb2
  have HE2 := HEV.out w2 v _ HB2.out hfo
  obtain ⟨vt, vx, rfl⟩ := hfo.iface
  clear hfo hb2 HT1 HTO HEV
  go_wp2_with fail
  refine HE2.mono ?_
  cases R with
  | ok u =>
    rintro e w3 ⟨rfl, hb3⟩
    have HB3 : Hid (Below w.heap.size w w3) := Below.on HB2.out hb3
    have HA := as_nil 52 (.pointer (some ⟨w3.heap.size, 0, none⟩)) (w3.alloc (.cells #[.nilIface] 50))
    have HB4 : Hid (Below w.heap.size w (w3.alloc (.cells #[.nilIface] 50))) := HB3.out.alloc HB3.out.size _
    have HU : Hid (InB u) := HOK.out.1 u rfl
    clear hb3 HE2
    go_wp2_with fail
    refine HA.mono ?_
    rintro e w5 ⟨rfl, hb5⟩
    have HB5 : Hid (Below w.heap.size w w5) := Below.on HB4.out hb5
    have HCO := cellsOf_any (1, u, []) .nil (.iface 41 (.int .i64 u)) 0 w5 (num_ok HU.out trivial) (num_in rfl) (by simp [Fo.cells])
    clear hb5 HA
    go_wp2_with fail
    refine HCO.mono ?_
    rintro e w6 ⟨q, m, c2, rfl, ho, hb6⟩
    have HO : Hid (OwnC w6 w.heap.size q m c2 [(1, u, [])]) := ho.mono HB5.out.size
    have HB6 : Hid (Below w.heap.size w w6) := Below.on HB5.out hb6
    clear ho hb6 HCO
    go_wp2_with fail
    go_ret2
    exact ⟨q, m, c2, rfl, HO.out, HB6.out⟩
  | error t =>
    rintro e w3 ⟨⟨tv, rfl, hfo⟩, hb3⟩
    have HB3 : Hid (Below w.heap.size w w3) := Below.on HB2.out hb3
    obtain ⟨ut, ux, rfl⟩ := FoIn.iface (c := t.1) (k := t.2) (r := .nil) hfo
    have HB4 : Hid (Below w.heap.size w (w3.alloc (.cells #[.nilIface] 50))) := HB3.out.alloc HB3.out.size _
    have HA := as_hit w3.heap.size ut ux .nilIface (w3.alloc (.cells #[.nilIface] 50)) (HG.out _ HB4.out) (heap_alloc_new w3 _)
    have HU : Hid (errOk t) := HOK.out.2 t rfl
    have HF3 : Hid (FoIn w3 w2.heap.size t.fo [.iface ut ux]) := hfo
    clear hb3 HE2 hfo
    go_wp2_with fail
    refine HA.mono ?_
    rintro e w5 ⟨rfl, w4, hb4, hT4, rfl⟩
    have hx0 : (w4.setRow w3.heap.size #[Value.iface ut ux]).heap[w3.heap.size]? = some (.cells #[Value.iface ut ux] 50 (0, 0)) := setRow_heap _ _ _ _ _ _ hT4
    have c0 : (w4.setRow w3.heap.size #[Value.iface ut ux]).cell? ⟨w3.heap.size, 0, none⟩ = some (.iface ut ux) := by unfold World.cell?; rw [hx0]; rfl
    have h35 : Below w3.heap.size w3 (w4.setRow w3.heap.size #[Value.iface ut ux]) := below_setRow (Below.on ((Below.refl _ _).alloc (Nat.le_refl _) _) hb4) (Nat.le_refl _) _
    have HB5 : Hid (Below w.heap.size w (w4.setRow w3.heap.size #[Value.iface ut ux])) := Below.on HB3.out h35
    have HCO := cellsOf_any t.1 t.2 (.iface ut ux) w2.heap.size (w4.setRow w3.heap.size #[Value.iface ut ux]) HU.out.1 (FoIn.below HF3.out h35) (by have := HU.out.2; omega)
    clear hb4 hT4 hx0 HA h35
    go_wp2_with fail
    refine HCO.mono ?_
    rintro e w6 ⟨q, m, c2, rfl, ho, hb6⟩
    have HO : Hid (OwnC w6 w.heap.size q m c2 (t.1 :: t.2.cells)) := ho.mono HB5.out.size
    have HB6 : Hid (Below w.heap.size w w6) := Below.on HB5.out hb6
    clear ho hb6 HCO
    go_wp2_with fail
    go_ret2
    exact ⟨q, m, c2, rfl, HO.out, HB6.out⟩
set_option maxRecDepth 100000 in
theorem implEval_bad (p : Option Addr) (cap : Nat) (cs : List Cel) (w : World) (hl : cs.length ≤ 1000000000) (hv : validB cs = false) (hin : CIn w p cs) : Calls Tryz.prog 7 #[.slice p cs.length cap] w (EvalOut w ([], 1)) := by
  have HVA := implValid_any p cap cs w hl hin
  rw [hv] at HVA
  clear hin
  go_enter Tryz.func7, Tryz.ntmps7
  go_wp2_with fail
  refine HVA.mono ?_
  rintro e w1 ⟨rfl, hb1⟩
  have HB1 : Hid (Below w.heap.size w w1) := hb1
  clear hb1 HVA
  go_wp2_with fail
  go_ret2
  exact ⟨none, 0, 0, rfl, OwnC.nil _ _, HB1.out⟩

end Go.Proofs.YtpcmfdbcjegbcaaGreatDoor

