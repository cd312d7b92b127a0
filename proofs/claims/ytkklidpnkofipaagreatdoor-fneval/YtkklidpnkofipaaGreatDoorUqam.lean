/- Texts of EvN, EvN2. Own work of the verifier. -/
import Derived.Test.YtkklidpnkofipaaGreatDoorUqak
namespace Go.Proofs.YtkklidpnkofipaaGreatDoor
set_option maxRecDepth 100000
open Go Go.RowKit Go.Maps Go.Shelf
set_option linter.unusedVariables false
set_option linter.unusedSimpArgs false
def MkOut (w : World) (c : Cl) (e : Ending) (w' : World) : Prop := ∃ v, e = .returned v ∧ ClIn w' c v ∧ Below w.heap.size w w'
theorem unaryMk (K : Nat) (w : World) : Calls Tryz.prog 126 #[.func (.func K) #[] #[]] w (MkOut w (.un K)) := by
 go_enter Tryz.func126, Tryz.ntmps126
 go_wp2_with fail; go_ret; exact ⟨_, rfl, ⟨w.heap.size, rfl, (cell_new w _ _).1⟩, (Below.refl _ _).alloc (Nat.le_refl _) _⟩
theorem behindMk (K2 K1 : Nat) (w : World) : Calls Tryz.prog 139 #[.func (.func K2) #[] #[], .func (.func K1) #[] #[]] w (MkOut w (.bi K1 K2)) := by
 go_enter Tryz.func139, Tryz.ntmps139
 go_wp2_with fail; go_ret; have h1 := (cell_new (w.alloc (.cells #[.func (.func K2) #[] #[]] 157)) (.func (.func K1) #[] #[]) 251).1; simp only [World.size_alloc] at h1; have h2 : ((w.alloc (.cells #[.func (.func K2) #[] #[]] 157)).alloc (.cells #[.func (.func K1) #[] #[]] 251)).cell? ⟨w.heap.size, 0, none⟩ = some (.func (.func K2) #[] #[]) := Lib.cell?_alloc_marked _ (cell_new w _ _).1; exact ⟨_, rfl, ⟨w.heap.size + 1, w.heap.size, rfl, h1, h2⟩, ((Below.refl _ _).alloc (Nat.le_refl _) _).alloc (by simp) _⟩
theorem binaryMk (K : Nat) (w : World) : Calls Tryz.prog 133 #[.func (.func K) #[] #[]] w (MkOut w (.bi 211 K)) := by
 have HC := behindMk K 211 w
 go_enter Tryz.func133, Tryz.ntmps133
 go_wp2_with fail; refine HC.mono ?_; rintro e w1 ⟨v, rfl, hc, hb⟩; have HV : Hid (ClIn w1 (.bi 211 K) v) := hc; have HB : Hid _ := hb; clear hc hb HC; go_wp2_with fail; go_ret; exact ⟨v, rfl, HV.out, HB.out⟩
section
variable {P : Program} {ops : Array Oper} {Q : Exit → Act → World → Prop} {md : Region.Mode}
theorem op_call {i : Nat} {o : Oper} {a : Act} {w : World} {K : Act → World → Prop} {f : FuncId} {args : Array Value} {c : Cl} (hi : ops[i]? = some o) (hg : o.guard = none) (hr : (execOp a.eval o).run P w = .ok (.enter f args) w) (hc : Calls P f args w (MkOut w c))
  (h : ∀ v w', ClIn w' c v → Below w.heap.size w w' → K (a.put o.dst v) w') : wpOp P ops Q i K a w := by
 unfold wpOp
 simp only [hi, Region.wanted, hg, if_true, Oper.wp, hr, Oper.upon]; refine .inl (hc.mono fun e w' he => ?_); obtain ⟨v, rfl, h1, h2⟩ := he; exact h v w' h1 h2
end
noncomputable def nOps : Array Oper := match Tryz.f53.body with
 | some (.seq _ (.seq (.region _ ops _) _)) => ops
 | _ => #[]
def entAt (j : Nat) : (List Int × Int) × Cl := ents.getD j (([], 0), .un 0)
def keyF (j : Nat) : Fun := (strOfNums (entAt j).1.1, (entAt j).1.2)
def keyV (j : Nat) : Value := .agg #[.string (keyF j).1, .int .i64 (keyF j).2]
def insT (L : Array Bool) (f : Fun) : Option Cl := ((List.range 20).find? fun j => decide (keyF j = f) && L.getD (3 * j + 3) false).map fun j => (entAt j).2
theorem keyF_inj : ∀ i, i < 20 → ∀ j, j < 20 → keyF i = keyF j → i = j := by
 have h : ((List.range 20).all fun i => (List.range 20).all fun j => decide ((entAt i).1 = (entAt j).1 → i = j)) = true := by decide
 intro i hi j hj e
 have h1 := List.all_eq_true.1 (List.all_eq_true.1 h i (List.mem_range.2 hi)) j (List.mem_range.2 hj); simp only [decide_eq_true_eq] at h1
 have hm : ∀ k, k < 20 → entAt k ∈ ents := fun k hk => by
  unfold entAt
  rw [List.getD_eq_getElem?_getD, List.getElem?_eq_getElem (by show k < 20; exact hk)]; exact List.getElem_mem _
 have h2 := str_ne (ents_byte _ (hm i hi)) (ents_byte _ (hm j hj)) (Prod.mk.inj e).1; exact h1 (Prod.ext h2 (Prod.mk.inj e).2)
theorem insT_none {L : Array Bool} (h : ∀ j, j < 20 → L.getD (3 * j + 3) false = false) : insT L = fun _ => none := by
 funext f
 unfold insT
 rw [List.find?_eq_none.2 (fun j hj => by simp [h j (List.mem_range.1 hj)])]
 rfl
theorem insT_all {L : Array Bool} (h : ∀ j, j < 20 → L.getD (3 * j + 3) false = true) : insT L = opTab := by
 funext f
 unfold insT opTab
 have e1 : ((List.range 20).find? fun j => decide (keyF j = f) && L.getD (3 * j + 3) false) = (List.range 20).find? fun j => decide (keyF j = f) := by
  have : ∀ l : List Nat, (∀ j ∈ l, j < 20) → (l.find? fun j => decide (keyF j = f) && L.getD (3 * j + 3) false) = l.find? fun j => decide (keyF j = f) := by
   intro l
   induction l with
   | nil => intro _; rfl
   | cons a r ih =>
     intro hl
     simp only [List.find?_cons, h a (hl a (by simp)), Bool.and_true, ih (fun j hj => hl j (by simp [hj]))]
  exact this _ fun j hj => List.mem_range.1 hj
 rw [e1]
 have e2 : ents = (List.range 20).map entAt := by rfl
 conv => rhs; rw [e2]
 rw [List.find?_map, Option.map_map]
 rfl
theorem insT_same {L : Array Bool} {i : Nat} (hi : ∀ j, j < 20 → i ≠ 3 * j + 3) : insT (L.setIfInBounds i true) = insT L := by
 funext f
 unfold insT
 congr 1
 have : ∀ l : List Nat, (∀ j ∈ l, j < 20) → (l.find? fun j => decide (keyF j = f) && (L.setIfInBounds i true).getD (3 * j + 3) false) = l.find? fun j => decide (keyF j = f) && L.getD (3 * j + 3) false := by
  intro l
  induction l with
  | nil => intro _; rfl
  | cons a r ih =>
    intro hl
    simp only [List.find?_cons, getD_set_ne false (hi a (hl a (by simp))), ih (fun j hj => hl j (by simp [hj]))]
 exact this _ fun j hj => List.mem_range.1 hj
theorem insT_put {L : Array Bool} {j : Nat} (hj : j < 20) (hl : 3 * j + 3 < L.size) : insT (L.setIfInBounds (3 * j + 3) true) = fun f => if f = keyF j then some (entAt j).2 else insT L f := by
 funext f
 by_cases e : f = keyF j
 ·subst e
  rw [if_pos rfl]
  have : ((List.range 20).find? fun i => decide (keyF i = keyF j) && (L.setIfInBounds (3 * j + 3) true).getD (3 * i + 3) false) = some j := by
   rw [List.find?_eq_some_iff_getElem]; refine ⟨?_, j, by simpa using hj, by simp, fun i hi => ?_⟩
   ·simp [hl]
   ·have hne : keyF i ≠ keyF j := fun e => by have := keyF_inj i (by omega) j hj e; omega
    simp [hne]
  unfold insT
  rw [this]
  rfl
 ·rw [if_neg e]
  unfold insT
  congr 1
  have : ∀ l : List Nat, (l.find? fun i => decide (keyF i = f) && (L.setIfInBounds (3 * j + 3) true).getD (3 * i + 3) false) = l.find? fun i => decide (keyF i = f) && L.getD (3 * i + 3) false := by
   intro l
   induction l with
   | nil => rfl
   | cons a r ih =>
     simp only [List.find?_cons, ih]
     by_cases ha : a = j
     ·subst ha
      have : decide (keyF a = f) = false := by simpa using fun h => e h.symm
      simp [this]
     ·rw [getD_set_ne false (by omega)]
  exact this _
structure NInv (w0 : World) (L : Array Bool) (a : Act) (w : World) : Prop where
 lsz : L.size = 63
 tsz : a.tmps.size = 43
 dfs : a.defers = []
 bel : Below w0.heap.size w0 w
 key : ∀ j, j < 20 → L.getD (3 * j + 1) false = true → a.tmps[2 * j + 2]? = some (keyV j)
 clo : ∀ j, j < 20 → L.getD (3 * j + 2) false = true → ∃ v, a.tmps[2 * j + 3]? = some v ∧ ClIn w (entAt j).2 v
 tab : if L.getD 0 false = true then ∃ b N, w0.heap.size ≤ b ∧ a.tmps[1]? = some (.map (some b)) ∧ N ≤ 62 ∧ N + unl L ≤ 62 ∧ TabIn w b N (insT L) else ∀ j, j < 20 → L.getD (3 * j + 3) false = false
 mov : L.getD 61 false = true → a.tmps[42]? = a.tmps[1]? ∧ L.getD 0 false = true ∧ ∀ j, j < 20 → L.getD (3 * j + 3) false = true
 fin : L.getD 62 false = true → a.tmps[0]? = a.tmps[42]? ∧ L.getD 61 false = true
def Enters' (K : Nat) : Prop := ∀ args w, (callFunc K args).run Tryz.prog w = .ok (.enter K args) w
theorem op_build : ∀ j, j < 20 → ∃ o, nOps[3 * j + 1]? = some o ∧ o.guard = none ∧ o.dst = some (2 * j + 2) ∧ o.op = .build 76 #[(0, .const (.string (keyF j).1)), (1, .const (.int .i64 (keyF j).2))]
 | 0, _ => ⟨_, rfl, rfl, rfl, rfl⟩
 | 1, _ => ⟨_, rfl, rfl, rfl, rfl⟩
 | 2, _ => ⟨_, rfl, rfl, rfl, rfl⟩
 | 3, _ => ⟨_, rfl, rfl, rfl, rfl⟩
 | 4, _ => ⟨_, rfl, rfl, rfl, rfl⟩
 | 5, _ => ⟨_, rfl, rfl, rfl, rfl⟩
 | 6, _ => ⟨_, rfl, rfl, rfl, rfl⟩
 | 7, _ => ⟨_, rfl, rfl, rfl, rfl⟩
 | 8, _ => ⟨_, rfl, rfl, rfl, rfl⟩
 | 9, _ => ⟨_, rfl, rfl, rfl, rfl⟩
 | 10, _ => ⟨_, rfl, rfl, rfl, rfl⟩
 | 11, _ => ⟨_, rfl, rfl, rfl, rfl⟩
 | 12, _ => ⟨_, rfl, rfl, rfl, rfl⟩
 | 13, _ => ⟨_, rfl, rfl, rfl, rfl⟩
 | 14, _ => ⟨_, rfl, rfl, rfl, rfl⟩
 | 15, _ => ⟨_, rfl, rfl, rfl, rfl⟩
 | 16, _ => ⟨_, rfl, rfl, rfl, rfl⟩
 | 17, _ => ⟨_, rfl, rfl, rfl, rfl⟩
 | 18, _ => ⟨_, rfl, rfl, rfl, rfl⟩
 | 19, _ => ⟨_, rfl, rfl, rfl, rfl⟩
 | j + 20, h => by omega
def mkOf : Nat → FuncId × List Nat
 | 0 => (126, [125])
 | 1 => (126, [127])
 | 2 => (126, [128])
 | 3 => (126, [129])
 | 4 => (126, [131])
 | 5 => (133, [132])
 | 6 => (133, [134])
 | 7 => (133, [135])
 | 8 => (133, [136])
 | 9 => (133, [137])
 | 10 => (139, [138, 140])
 | 11 => (139, [141, 140])
 | 12 => (139, [142, 140])
 | 13 => (139, [143, 144])
 | 14 => (139, [145, 144])
 | 15 => (133, [146])
 | 16 => (133, [147])
 | 17 => (133, [148])
 | 18 => (139, [149, 150])
 | 19 => (139, [149, 150])
 | _ => (0, [])
theorem op_make : ∀ j, j < 20 → ∃ o ts, nOps[3 * j + 2]? = some o ∧ o.guard = none ∧ o.dst = some (2 * j + 3) ∧ o.op = .call { callee := .value (.func (mkOf j).1), args := ((mkOf j).2.map Operand.func).toArray, argTypes := ts }
 | 0, _ => ⟨_, _, rfl, rfl, rfl, rfl⟩
 | 1, _ => ⟨_, _, rfl, rfl, rfl, rfl⟩
 | 2, _ => ⟨_, _, rfl, rfl, rfl, rfl⟩
 | 3, _ => ⟨_, _, rfl, rfl, rfl, rfl⟩
 | 4, _ => ⟨_, _, rfl, rfl, rfl, rfl⟩
 | 5, _ => ⟨_, _, rfl, rfl, rfl, rfl⟩
 | 6, _ => ⟨_, _, rfl, rfl, rfl, rfl⟩
 | 7, _ => ⟨_, _, rfl, rfl, rfl, rfl⟩
 | 8, _ => ⟨_, _, rfl, rfl, rfl, rfl⟩
 | 9, _ => ⟨_, _, rfl, rfl, rfl, rfl⟩
 | 10, _ => ⟨_, _, rfl, rfl, rfl, rfl⟩
 | 11, _ => ⟨_, _, rfl, rfl, rfl, rfl⟩
 | 12, _ => ⟨_, _, rfl, rfl, rfl, rfl⟩
 | 13, _ => ⟨_, _, rfl, rfl, rfl, rfl⟩
 | 14, _ => ⟨_, _, rfl, rfl, rfl, rfl⟩
 | 15, _ => ⟨_, _, rfl, rfl, rfl, rfl⟩
 | 16, _ => ⟨_, _, rfl, rfl, rfl, rfl⟩
 | 17, _ => ⟨_, _, rfl, rfl, rfl, rfl⟩
 | 18, _ => ⟨_, _, rfl, rfl, rfl, rfl⟩
 | 19, _ => ⟨_, _, rfl, rfl, rfl, rfl⟩
 | j + 20, h => by omega
theorem mk_calls : ∀ j, j < 20 → Enters' (mkOf j).1 ∧ ∀ w, Calls Tryz.prog (mkOf j).1 ((mkOf j).2.map fun f => Value.func (.func f) #[] #[]).toArray w (MkOut w (entAt j).2)
 | 0, _ => ⟨(enters_of Tryz.func126 (by kernel_rfl) rfl), fun w => unaryMk 125 w⟩
 | 1, _ => ⟨(enters_of Tryz.func126 (by kernel_rfl) rfl), fun w => unaryMk 127 w⟩
 | 2, _ => ⟨(enters_of Tryz.func126 (by kernel_rfl) rfl), fun w => unaryMk 128 w⟩
 | 3, _ => ⟨(enters_of Tryz.func126 (by kernel_rfl) rfl), fun w => unaryMk 129 w⟩
 | 4, _ => ⟨(enters_of Tryz.func126 (by kernel_rfl) rfl), fun w => unaryMk 131 w⟩
 | 5, _ => ⟨(enters_of Tryz.func133 (by kernel_rfl) rfl), fun w => binaryMk 132 w⟩
 | 6, _ => ⟨(enters_of Tryz.func133 (by kernel_rfl) rfl), fun w => binaryMk 134 w⟩
 | 7, _ => ⟨(enters_of Tryz.func133 (by kernel_rfl) rfl), fun w => binaryMk 135 w⟩
 | 8, _ => ⟨(enters_of Tryz.func133 (by kernel_rfl) rfl), fun w => binaryMk 136 w⟩
 | 9, _ => ⟨(enters_of Tryz.func133 (by kernel_rfl) rfl), fun w => binaryMk 137 w⟩
 | 10, _ => ⟨(enters_of Tryz.func139 (by kernel_rfl) rfl), fun w => behindMk 138 140 w⟩
 | 11, _ => ⟨(enters_of Tryz.func139 (by kernel_rfl) rfl), fun w => behindMk 141 140 w⟩
 | 12, _ => ⟨(enters_of Tryz.func139 (by kernel_rfl) rfl), fun w => behindMk 142 140 w⟩
 | 13, _ => ⟨(enters_of Tryz.func139 (by kernel_rfl) rfl), fun w => behindMk 143 144 w⟩
 | 14, _ => ⟨(enters_of Tryz.func139 (by kernel_rfl) rfl), fun w => behindMk 145 144 w⟩
 | 15, _ => ⟨(enters_of Tryz.func133 (by kernel_rfl) rfl), fun w => binaryMk 146 w⟩
 | 16, _ => ⟨(enters_of Tryz.func133 (by kernel_rfl) rfl), fun w => binaryMk 147 w⟩
 | 17, _ => ⟨(enters_of Tryz.func133 (by kernel_rfl) rfl), fun w => binaryMk 148 w⟩
 | 18, _ => ⟨(enters_of Tryz.func139 (by kernel_rfl) rfl), fun w => behindMk 149 150 w⟩
 | 19, _ => ⟨(enters_of Tryz.func139 (by kernel_rfl) rfl), fun w => behindMk 149 150 w⟩
 | j + 20, h => by omega
theorem op_put : ∀ j, j < 20 → ∃ o, nOps[3 * j + 3]? = some o ∧ o.guard = none ∧ o.dst = none ∧ o.op = .insert 105 (.tmp 1) (.tmp (2 * j + 2)) (.tmp (2 * j + 3)) ∧ ([0, 3 * j + 1, 3 * j + 2].all fun i => o.after.toList.any fun e => (e.on == i) && Region.binds .any e) = true
 | 0, _ => ⟨_, rfl, rfl, rfl, rfl, by kernel_rfl⟩
 | 1, _ => ⟨_, rfl, rfl, rfl, rfl, by kernel_rfl⟩
 | 2, _ => ⟨_, rfl, rfl, rfl, rfl, by kernel_rfl⟩
 | 3, _ => ⟨_, rfl, rfl, rfl, rfl, by kernel_rfl⟩
 | 4, _ => ⟨_, rfl, rfl, rfl, rfl, by kernel_rfl⟩
 | 5, _ => ⟨_, rfl, rfl, rfl, rfl, by kernel_rfl⟩
 | 6, _ => ⟨_, rfl, rfl, rfl, rfl, by kernel_rfl⟩
 | 7, _ => ⟨_, rfl, rfl, rfl, rfl, by kernel_rfl⟩
 | 8, _ => ⟨_, rfl, rfl, rfl, rfl, by kernel_rfl⟩
 | 9, _ => ⟨_, rfl, rfl, rfl, rfl, by kernel_rfl⟩
 | 10, _ => ⟨_, rfl, rfl, rfl, rfl, by kernel_rfl⟩
 | 11, _ => ⟨_, rfl, rfl, rfl, rfl, by kernel_rfl⟩
 | 12, _ => ⟨_, rfl, rfl, rfl, rfl, by kernel_rfl⟩
 | 13, _ => ⟨_, rfl, rfl, rfl, rfl, by kernel_rfl⟩
 | 14, _ => ⟨_, rfl, rfl, rfl, rfl, by kernel_rfl⟩
 | 15, _ => ⟨_, rfl, rfl, rfl, rfl, by kernel_rfl⟩
 | 16, _ => ⟨_, rfl, rfl, rfl, rfl, by kernel_rfl⟩
 | 17, _ => ⟨_, rfl, rfl, rfl, rfl, by kernel_rfl⟩
 | 18, _ => ⟨_, rfl, rfl, rfl, rfl, by kernel_rfl⟩
 | 19, _ => ⟨_, rfl, rfl, rfl, rfl, by kernel_rfl⟩
 | j + 20, h => by omega
theorem op_last : ∃ o, nOps[62]? = some o ∧ o.guard = none ∧ o.dst = some 0 ∧ o.op = .assign (.tmp 42) ∧ ((List.range 62).all fun i => o.after.toList.any fun e => (e.on == i) && Region.binds .any e) = true := ⟨_, rfl, rfl, rfl, rfl, by kernel_rfl⟩
theorem all_after : ∃ o, nOps[61]? = some o ∧ o.guard = none ∧ o.dst = some 42 ∧ o.op = .move (.tmp 1) ∧ ((List.range 61).all fun i => o.after.toList.any fun e => (e.on == i) && Region.binds .any e) = true := ⟨_, rfl, rfl, rfl, rfl, by kernel_rfl⟩
theorem op_map : ∃ o, nOps[0]? = some o ∧ o.guard = none ∧ o.dst = some 1 ∧ o.op = .makeMap 105 none := ⟨_, rfl, rfl, rfl, rfl⟩
theorem size_ops : nOps.size = 63 := rfl
theorem back_only : ((List.range 63).all fun i => (nOps[i]?).all fun o => o.after.toList.all fun e => decide (e.on < i)) = true := by kernel_rfl
theorem TabIn.kept {w w' : World} {b N : Nat} {T : Fun → Option Cl} (h : TabIn w b N T) (hg : w.grownBy w' (some b)) : ∀ b' u, w.cell? ⟨b', 0, none⟩ = some u → w'.cell? ⟨b', 0, none⟩ = some u := fun b' u hu => by
 obtain ⟨D, ⟨es, clock, hb, _⟩, _⟩ := h
 have hne : b' ≠ b := fun e => by
  subst e; simp only [World.cell?, hb] at hu
  cases hu
 exact (World.cell?_of_block (a := ⟨b', 0, none⟩) (hg.block b' (World.block_lt_of_cell? _ _ hu) (by simpa using hne))).trans hu
theorem NInv.step {w0 : World} {L : Array Bool} {a : Act} {w w' : World} (I : NInv w0 L a w) {i d : Nat} {v : Value} (hn : L.getD i true = false) (h0 : i ≠ 0) (h61 : i ≠ 61) (h62 : i ≠ 62) (hi3 : ∀ j, j < 20 → i ≠ 3 * j + 3) (hd0 : d ≠ 0) (hd1 : d ≠ 1) (hd42 : d ≠ 42) (hb : Below w.heap.size w w')
  (hk : ∀ j, j < 20 → (L.setIfInBounds i true).getD (3 * j + 1) false = true → (a.put (some d) v).tmps[2 * j + 2]? = some (keyV j))
  (hc : ∀ j, j < 20 → (L.setIfInBounds i true).getD (3 * j + 2) false = true → ∃ u, (a.put (some d) v).tmps[2 * j + 3]? = some u ∧ ClIn w' (entAt j).2 u) : NInv w0 (L.setIfInBounds i true) (a.put (some d) v) w' := by
 have hu := unl_set hn; refine ⟨by simpa using I.lsz, by rw [put_size]; exact I.tsz, by rw [put_defs]; exact I.dfs, Below.on I.bel hb, hk, hc, ?_, fun h => ?_, fun h => ?_⟩
 ·have ht := I.tab
  rw [getD_set_ne false h0]
  split at ht
  ·rename_i h
   rw [if_pos h]; obtain ⟨b, N, h1, h2, h3, h4, h5⟩ := ht; exact ⟨b, N, h1, by rw [put_other hd1]; exact h2, h3, by omega, by rw [insT_same hi3]; exact h5.below hb⟩
  ·rename_i h
   rw [if_neg h]
   intro j hj
   rw [getD_set_ne false (hi3 j hj)]; exact ht j hj
 ·have hf := I.mov (set_at h h61)
  refine ⟨by rw [put_other hd42, put_other hd1]; exact hf.1, by rw [getD_set_ne false h0]; exact hf.2.1, fun j hj => by rw [getD_set_ne false (hi3 j hj)]; exact hf.2.2 j hj⟩
 ·have hf := I.fin (set_at h h62)
  exact ⟨by rw [put_other hd0, put_other hd42]; exact hf.1, by rw [getD_set_ne false h61]; exact hf.2⟩
set_option maxHeartbeats 1000000 in
theorem new_step {Q : Exit → Act → World → Prop} (w0 : World) (L : Array Bool) (a : Act) (w : World) (I : NInv w0 L a w) (i : Nat) (hi : i ∈ Region.ready .any nOps L) : wpOp Tryz.prog nOps Q i (fun a' w' => NInv w0 (L.setIfInBounds i true) a' w') a w := by
 obtain ⟨hn, o, ho, haft⟩ := mem_ready.1 hi
 have hi62 : i < 63 := by
  have := (Array.getElem?_eq_some_iff.1 ho).1; rw [size_ops] at this; exact this
 have hLs := I.lsz; have hu := unl_set hn; have hnf := getD_false hn
 rcases (by omega : i = 0 ∨ i = 61 ∨ i = 62 ∨ (i % 3 = 1 ∧ i / 3 < 20) ∨ (i % 3 = 2 ∧ i / 3 < 20) ∨ (i % 3 = 0 ∧ 1 ≤ i / 3 ∧ i / 3 ≤ 20)) with h | h | h | ⟨h1, h2⟩ | ⟨h1, h2⟩ | ⟨h1, h2, h3⟩
 ·subst h
  obtain ⟨o', ho', hg, hd, hop⟩ := op_map; obtain rfl := Option.some.inj (ho.symm.trans ho'); refine op_value (v := .map (some w.heap.size)) (w' := w.alloc (.map #[] 0)) ho hg (by simp [execOp, hop, go_sem, run_makeMap, Result.andThen]) ?_; rw [hd]; have ht := I.tab; rw [if_neg (by rw [hnf]; decide)] at ht; have hb : Below w.heap.size w (w.alloc (.map #[] 0)) := (Below.refl _ _).alloc (Nat.le_refl _) _; refine ⟨by simpa using hLs, by rw [put_size]; exact I.tsz, by rw [put_defs]; exact I.dfs, Below.on I.bel hb, fun j hj h => ?_, fun j hj h => ?_, ?_, fun h => ?_, fun h => ?_⟩
  ·rw [put_other (by omega)]; exact I.key j hj (set_at h (by omega))
  ·obtain ⟨v, h1, h2⟩ := I.clo j hj (set_at h (by omega))
   exact ⟨v, by rw [put_other (by omega)]; exact h1, h2.below hb⟩
  ·rw [if_pos (set_self (by omega))]
   have hle := unl_le L; refine ⟨w.heap.size, 0, I.bel.size, put_same (by rw [I.tsz]; decide), by omega, by omega, ?_⟩; rw [insT_same (fun j _ => by omega), insT_none ht]; exact TabIn.made w
  ·have := (I.mov (set_at h (by decide))).2.1
   rw [hnf] at this
   cases this
  ·have := (I.mov (I.fin (set_at h (by decide))).2).2.1
   rw [hnf] at this
   cases this
 ·subst h
  obtain ⟨o', ho', hg, hd, hop, hall⟩ := all_after; obtain rfl := Option.some.inj (ho.symm.trans ho')
  have hdep : ∀ p, p < 61 → L.getD p false = true := fun p hp => dep_of (List.all_eq_true.1 hall p (List.mem_range.2 hp)) haft
  have ht := I.tab; rw [if_pos (hdep 0 (by decide))] at ht; obtain ⟨b, N, h1, h2, h3, h4, h5⟩ := ht; refine op_value (v := .map (some b)) (w' := w) ho hg (by simp [execOp, hop, go_sem, Act.eval, h2]) ?_; rw [hd]; refine ⟨by simpa using hLs, by rw [put_size]; exact I.tsz, by rw [put_defs]; exact I.dfs, I.bel, fun j hj h => ?_, fun j hj h => ?_, ?_, fun h => ?_, fun h => ?_⟩
  ·rw [put_other (by omega)]; exact I.key j hj (set_at h (by omega))
  ·obtain ⟨v, h1, h2⟩ := I.clo j hj (set_at h (by omega))
   exact ⟨v, by rw [put_other (by omega)]; exact h1, h2⟩
  ·rw [if_pos (by rw [getD_set_ne false (by decide)]; exact hdep 0 (by decide))]
   exact ⟨b, N, h1, by rw [put_other (by decide)]; exact h2, h3, by omega, by rw [insT_same (fun j _ => by omega)]; exact h5⟩
  ·refine ⟨by rw [put_same (by rw [I.tsz]; decide), put_other (by decide), h2], by rw [getD_set_ne false (by decide)]; exact hdep 0 (by decide), fun j hj => ?_⟩
   rw [getD_set_ne false (by omega)]; exact hdep _ (by omega)
  ·have := (I.fin (set_at h (by decide))).2
   rw [hnf] at this
   cases this
 ·subst h
  obtain ⟨o', ho', hg, hd, hop, hall⟩ := op_last; obtain rfl := Option.some.inj (ho.symm.trans ho')
  have hdep : ∀ p, p < 62 → L.getD p false = true := fun p hp => dep_of (List.all_eq_true.1 hall p (List.mem_range.2 hp)) haft
  have ht := I.tab; rw [if_pos (hdep 0 (by decide))] at ht; obtain ⟨b, N, h1, h2, h3, h4, h5⟩ := ht; have hm := I.mov (hdep 61 (by decide)); have h42 : a.tmps[42]? = some (.map (some b)) := hm.1.trans h2; refine op_value (v := .map (some b)) (w' := w) ho hg (by simp [execOp, hop, go_sem, Act.eval, h42]) ?_; rw [hd]; refine ⟨by simpa using hLs, by rw [put_size]; exact I.tsz, by rw [put_defs]; exact I.dfs, I.bel, fun j hj h => ?_, fun j hj h => ?_, ?_, fun h => ?_, fun h => ?_⟩
  ·rw [put_other (by omega)]; exact I.key j hj (set_at h (by omega))
  ·obtain ⟨v, h1, h2⟩ := I.clo j hj (set_at h (by omega))
   exact ⟨v, by rw [put_other (by omega)]; exact h1, h2⟩
  ·rw [if_pos (by rw [getD_set_ne false (by decide)]; exact hdep 0 (by decide))]
   exact ⟨b, N, h1, by rw [put_other (by decide)]; exact h2, h3, by omega, by rw [insT_same (fun j _ => by omega)]; exact h5⟩
  ·exact ⟨by rw [put_other (by decide), put_other (by decide)]; exact hm.1, by rw [getD_set_ne false (by decide)]; exact hm.2.1, fun j hj => by rw [getD_set_ne false (by omega)]; exact hm.2.2 j hj⟩
  ·exact ⟨by rw [put_same (by rw [I.tsz]; decide), put_other (by decide), h42], by rw [getD_set_ne false (by decide)]; exact hdep 61 (by decide)⟩
 ·obtain ⟨j, hj, rfl⟩ : ∃ j, j < 20 ∧ i = 3 * j + 1 := ⟨i / 3, h2, by omega⟩
  obtain ⟨o', ho', hg, hd, hop⟩ := op_build j hj; obtain rfl := Option.some.inj (ho.symm.trans ho'); refine op_value (v := keyV j) (w' := w) ho hg (by simp [execOp, hop, go_sem, Act.eval, keyV]) ?_; rw [hd]; refine I.step hn (by omega) (by omega) (by omega) (fun _ _ => by omega) (by omega) (by omega) (by omega) (Below.refl _ _) (fun j' hj' h => ?_) (fun j' hj' h => ?_)
  ·by_cases e : j' = j
   ·subst e; exact put_same (by rw [I.tsz]; omega)
   ·rw [put_other (by omega)]; exact I.key j' hj' (set_at h (by omega))
  ·obtain ⟨v, h1, h2⟩ := I.clo j' hj' (set_at h (by omega))
   exact ⟨v, by rw [put_other (by omega)]; exact h1, h2⟩
 ·obtain ⟨j, hj, rfl⟩ : ∃ j, j < 20 ∧ i = 3 * j + 2 := ⟨i / 3, h2, by omega⟩
  obtain ⟨o', ts, ho', hg, hd, hop⟩ := op_make j hj; obtain rfl := Option.some.inj (ho.symm.trans ho'); obtain ⟨hen, hcl⟩ := mk_calls j hj; refine op_call (f := (mkOf j).1) (args := ((mkOf j).2.map fun f => Value.func (.func f) #[] #[]).toArray) (c := (entAt j).2) ho hg ?_ (hcl w) (fun v w' h1 h2 => ?_)
  ·have hc : (a.eval ∘ Operand.func) = fun f => Value.func (.func f) #[] #[] := by funext f; rfl
   simp [execOp, hop, go_sem, Act.eval]
   rw [hc]; exact hen _ _
  ·rw [hd]
   refine I.step hn (by omega) (by omega) (by omega) (fun _ _ => by omega) (by omega) (by omega) (by omega) h2 (fun j' hj' h => ?_) (fun j' hj' h => ?_)
   ·rw [put_other (by omega)]; exact I.key j' hj' (set_at h (by omega))
   ·by_cases e : j' = j
    ·subst e; exact ⟨v, put_same (by rw [I.tsz]; omega), h1⟩
    ·obtain ⟨u, h3, h4⟩ := I.clo j' hj' (set_at h (by omega))
     exact ⟨u, by rw [put_other (by omega)]; exact h3, h4.below h2⟩
 ·obtain ⟨j, hj, rfl⟩ : ∃ j, j < 20 ∧ i = 3 * j + 3 := ⟨i / 3 - 1, by omega, by omega⟩
  obtain ⟨o', ho', hg, hd, hop, hall⟩ := op_put j hj; obtain rfl := Option.some.inj (ho.symm.trans ho')
  have hdep : ∀ p, p ∈ [0, 3 * j + 1, 3 * j + 2] → L.getD p false = true := fun p hp => dep_of (List.all_eq_true.1 hall p hp) haft
  have ht := I.tab; rw [if_pos (hdep 0 (by simp))] at ht; obtain ⟨b, N, h1, h2, h3, h4, h5⟩ := ht; have hk := I.key j hj (hdep _ (by simp)); obtain ⟨v, hv, hcl⟩ := I.clo j hj (hdep _ (by simp))
  have hokF : okF (keyF j) := by
   have h : ((List.range 20).all fun j => decide ((entAt j).1.1.length ≤ 100 ∧ 0 ≤ (entAt j).1.2 ∧ (entAt j).1.2 ≤ 2)) = true := by decide
   have h6 := List.all_eq_true.1 h j (List.mem_range.2 hj); simp only [decide_eq_true_eq] at h6
   have hsz : (keyF j).1.size = (entAt j).1.1.length := by simp [keyF, strOfNums, ByteArray.size]
   exact ⟨by omega, h6.2.1, by have := h6.2.2; show (entAt j).1.2 ≤ _; omega⟩
  obtain ⟨w', hrun, hT', hgr⟩ := h5.put (by omega) (keyF j) hokF (entAt j).2 v hcl; have hkept := h5.kept hgr; have hb : Below w0.heap.size w0 w' := I.bel.trans ((Below.refl _ _).grown hgr I.bel.size (fun k e => by cases e; exact h1))
  unfold wpOp
  simp only [ho, Region.wanted, hg, if_true]
  left
  unfold Oper.wp
  simp [execOp, hop, eval_tmp h2, eval_tmp hk, eval_tmp hv, keyV, hrun, Result.andThen, Oper.upon]
  rw [hd]; refine ⟨by simpa using hLs, by rw [put_size]; exact I.tsz, by rw [put_defs]; exact I.dfs, hb, fun j' hj' h => ?_, fun j' hj' h => ?_, ?_, fun h => ?_, fun h => ?_⟩
  ·exact I.key j' hj' (set_at h (by omega))
  ·obtain ⟨u, h6, h7⟩ := I.clo j' hj' (set_at h (by omega))
   exact ⟨u, h6, h7.imp hkept⟩
  ·rw [if_pos (by rw [getD_set_ne false (by omega)]; exact hdep 0 (by simp))]
   exact ⟨b, N + 1, h1, h2, by omega, by omega, by rw [insT_put hj (by omega)]; exact hT'⟩
  ·have := (I.mov (set_at h (by omega))).2.2 j hj
   rw [hnf] at this
   cases this
  ·have := (I.mov (I.fin (set_at h (by omega))).2).2.2 j hj
   rw [hnf] at this
   cases this
theorem new_end {w0 : World} {L : Array Bool} {a : Act} {w : World} (I : NInv w0 L a w) (hr : Region.ready .any nOps L = []) : ∃ b, a.tmps[0]? = some (.map (some b)) ∧ a.tmps.size = 43 ∧ a.defers = [] ∧ TabIn w b 62 opTab ∧ Below w0.heap.size w0 w := by
 have hall : ∀ n, n ≤ 63 → ∀ i, i < n → L.getD i true = true := by
  intro n
  induction n with
  | zero => intro _ i hi; omega
  | succ n ih =>
    intro hn i hi
    by_cases e : i = n
    ·subst e
     cases hl : L.getD i true with
     | true => rfl
     | false =>
       exfalso
       obtain ⟨o, ho⟩ : ∃ o, nOps[i]? = some o := ⟨_, Array.getElem?_eq_getElem (by rw [size_ops]; omega)⟩
       have hb := List.all_eq_true.1 back_only i (List.mem_range.2 (by omega)); rw [ho] at hb; simp only [Option.all_some, List.all_eq_true, decide_eq_true_eq] at hb
       have : i ∈ Region.ready .any nOps L := mem_ready.2 ⟨hl, o, ho, fun e he _ => by
        have h1 := ih (by omega) e.on (hb e (by simpa using he))
        have hlt : e.on < L.size := by have := hb e (by simpa using he); rw [I.lsz]; omega
        simp only [Array.getD_eq_getD_getElem?, Array.getElem?_eq_getElem hlt, Option.getD_some] at h1 ⊢
        exact h1⟩
       rw [hr] at this
       cases this
    ·exact ih (by omega) i (by omega)
 have h62 : L.getD 62 false = true := by
  have h1 := hall 63 (Nat.le_refl _) 62 (by decide)
  have hlt : 62 < L.size := by rw [I.lsz]; decide
  simp only [Array.getD_eq_getD_getElem?, Array.getElem?_eq_getElem hlt, Option.getD_some] at h1 ⊢; exact h1
 obtain ⟨e0, h61⟩ := I.fin h62; obtain ⟨e1, e2, e3⟩ := I.mov h61; have ht := I.tab; rw [if_pos e2] at ht; obtain ⟨b, N, h1, h2, h3, h4, h5⟩ := ht; rw [insT_all e3] at h5; obtain ⟨D, hown, hD⟩ := h5; exact ⟨b, by rw [e0, e1, h2], I.tsz, I.dfs, ⟨D, hown.mono h3, hD⟩, I.bel⟩
set_option maxHeartbeats 1000000 in
theorem newOperations_any (w : World) : Calls Tryz.prog 53 #[] w fun e w' => ∃ b, e = .returned (.map (some b)) ∧ TabIn w' b 62 opTab ∧ Below w.heap.size w w' := by
 go_enter Tryz.func53, Tryz.ntmps53
 go_wp2_with fail; refine wp_region_any (ops := nOps) (by kernel_rfl) ?_; refine wpAny_inv (NInv w) (fun L a w' I i hi => new_step w L a w' I i hi) (fun L a w' I hr => ?_) _ _ _ _ ?_ (by have := unl_le (Array.replicate nOps.size false); simpa using this)
 ·obtain ⟨b, h0, hs, hd, hT, hB⟩ := new_end I hr
  refine ‹∀ (a : Act) (w : World), Code.wp _ Code.ret _ a w → _› _ _ ?_; refine wp_ret ?_; exact bodyPost_ret (v := .map (some b)) (by simp [results, Tryz.results53, h0]) hd ⟨b, rfl, hT, hB⟩
 ·have hz : ∀ k, (Array.replicate nOps.size false).getD k false = false := fun k => by
   simp only [Array.getD_eq_getD_getElem?, Array.getElem?_replicate]
   split <;> rfl
  refine ⟨by simp [size_ops], rfl, rfl, ⟨rfl, rfl, rfl, Nat.le_refl _, fun _ _ => rfl⟩, fun j hj h => ?_, fun j hj h => ?_, ?_, fun h => ?_, fun h => ?_⟩
  ·rw [hz] at h; cases h
  ·rw [hz] at h; cases h
  ·rw [if_neg (by rw [hz]; decide)]
   exact fun j _ => hz _
  ·rw [hz] at h; cases h
  ·rw [hz] at h; cases h
end Go.Proofs.YtkklidpnkofipaaGreatDoor
