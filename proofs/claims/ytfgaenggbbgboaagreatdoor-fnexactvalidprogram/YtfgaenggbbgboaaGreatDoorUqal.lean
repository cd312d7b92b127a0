/- Texts of NbI1, NbFO, Stk1, StrI, Stk2. Own work of the verifier. -/
import Derived.Test.YtfgaenggbbgboaaGreatDoorUqah
import Derived.Test.YtfgaenggbbgboaaGreatDoorUqad
import Derived.Test.YtfgaenggbbgboaaGreatDoorUqai
import Derived.Test.YtfgaenggbbgboaaGreatDoorUqae
import Derived.Test.YtfgaenggbbgboaaGreatDoorUqab
import Derived.WalkSmall
import Derived.RangeFuncBox
import Derived.Laws.StructEq
namespace Go.Proofs.YtfgaenggbbgboaaGreatDoor
open Go Go.RowKit
set_option linter.unusedVariables false
theorem nbA_var_var (w : World) (x : Value) : (Instr.typeAssert (.iface 119 x) 59 119 true).run Tryz.prog w = .ok (.tuple #[x, .bool true]) w := by kernel_rfl
theorem nbA_var_num (w : World) (x : Value) : (Instr.typeAssert (.iface 119 x) 59 120 true).run Tryz.prog w = .ok (.tuple #[.int .i64 0, .bool false]) w := by kernel_rfl
theorem nbA_var_atom (w : World) (x : Value) : (Instr.typeAssert (.iface 119 x) 59 121 true).run Tryz.prog w = .ok (.tuple #[.string ⟨#[]⟩, .bool false]) w := by kernel_rfl
theorem nbA_var_comp (w : World) (x : Value) : (Instr.typeAssert (.iface 119 x) 59 122 true).run Tryz.prog w = .ok (.tuple #[.pointer none, .bool false]) w := by kernel_rfl
theorem nbA_num_var (w : World) (x : Value) : (Instr.typeAssert (.iface 120 x) 59 119 true).run Tryz.prog w = .ok (.tuple #[.int .i64 0, .bool false]) w := by kernel_rfl
theorem nbA_num_num (w : World) (x : Value) : (Instr.typeAssert (.iface 120 x) 59 120 true).run Tryz.prog w = .ok (.tuple #[x, .bool true]) w := by kernel_rfl
theorem nbA_num_atom (w : World) (x : Value) : (Instr.typeAssert (.iface 120 x) 59 121 true).run Tryz.prog w = .ok (.tuple #[.string ⟨#[]⟩, .bool false]) w := by kernel_rfl
theorem nbA_num_comp (w : World) (x : Value) : (Instr.typeAssert (.iface 120 x) 59 122 true).run Tryz.prog w = .ok (.tuple #[.pointer none, .bool false]) w := by kernel_rfl
theorem nbA_atom_var (w : World) (x : Value) : (Instr.typeAssert (.iface 121 x) 59 119 true).run Tryz.prog w = .ok (.tuple #[.int .i64 0, .bool false]) w := by kernel_rfl
theorem nbA_atom_num (w : World) (x : Value) : (Instr.typeAssert (.iface 121 x) 59 120 true).run Tryz.prog w = .ok (.tuple #[.int .i64 0, .bool false]) w := by kernel_rfl
theorem nbA_atom_atom (w : World) (x : Value) : (Instr.typeAssert (.iface 121 x) 59 121 true).run Tryz.prog w = .ok (.tuple #[x, .bool true]) w := by kernel_rfl
theorem nbA_atom_comp (w : World) (x : Value) : (Instr.typeAssert (.iface 121 x) 59 122 true).run Tryz.prog w = .ok (.tuple #[.pointer none, .bool false]) w := by kernel_rfl
theorem nbA_comp_var (w : World) (x : Value) : (Instr.typeAssert (.iface 122 x) 59 119 true).run Tryz.prog w = .ok (.tuple #[.int .i64 0, .bool false]) w := by kernel_rfl
theorem nbA_comp_num (w : World) (x : Value) : (Instr.typeAssert (.iface 122 x) 59 120 true).run Tryz.prog w = .ok (.tuple #[.int .i64 0, .bool false]) w := by kernel_rfl
theorem nbA_comp_atom (w : World) (x : Value) : (Instr.typeAssert (.iface 122 x) 59 121 true).run Tryz.prog w = .ok (.tuple #[.string ⟨#[]⟩, .bool false]) w := by kernel_rfl
theorem nbA_comp_comp (w : World) (x : Value) : (Instr.typeAssert (.iface 122 x) 59 122 true).run Tryz.prog w = .ok (.tuple #[x, .bool true]) w := by kernel_rfl
theorem nbKind_var (x : Value) (w : World) : Calls Tryz.prog 144 #[.iface 119 x] w fun e w' => e = .returned (.int .i64 0) ∧ w' = w := by
  have n_var := nbA_var_var
  have n_num := nbA_var_num
  have n_atom := nbA_var_atom
  go_enter Tryz.func144, Tryz.ntmps144
  go_wp2_with fail
  go_ret
  exact ⟨rfl, rfl⟩
theorem nbIsVar_var (x : Value) (w : World) : Calls Tryz.prog 95 #[.iface 119 x] w fun e w' => e = .returned (.bool true) ∧ w' = w := by
  have hk := nbKind_var x w
  go_enter Tryz.func95, Tryz.ntmps95
  go_wp2_with (go_at_call 144; refine hk.mono ?_; rintro e w' ⟨rfl, rfl⟩)
  go_ret
  exact ⟨rfl, rfl⟩
theorem nbKind_num (x : Value) (w : World) : Calls Tryz.prog 144 #[.iface 120 x] w fun e w' => e = .returned (.int .i64 1) ∧ w' = w := by
  have n_var := nbA_num_var
  have n_num := nbA_num_num
  have n_atom := nbA_num_atom
  go_enter Tryz.func144, Tryz.ntmps144
  go_wp2_with fail
  go_ret
  exact ⟨rfl, rfl⟩
theorem nbIsVar_num (x : Value) (w : World) : Calls Tryz.prog 95 #[.iface 120 x] w fun e w' => e = .returned (.bool false) ∧ w' = w := by
  have hk := nbKind_num x w
  go_enter Tryz.func95, Tryz.ntmps95
  go_wp2_with (go_at_call 144; refine hk.mono ?_; rintro e w' ⟨rfl, rfl⟩)
  go_ret
  exact ⟨rfl, rfl⟩
theorem nbKind_atom (x : Value) (w : World) : Calls Tryz.prog 144 #[.iface 121 x] w fun e w' => e = .returned (.int .i64 2) ∧ w' = w := by
  have n_var := nbA_atom_var
  have n_num := nbA_atom_num
  have n_atom := nbA_atom_atom
  go_enter Tryz.func144, Tryz.ntmps144
  go_wp2_with fail
  go_ret
  exact ⟨rfl, rfl⟩
theorem nbIsVar_atom (x : Value) (w : World) : Calls Tryz.prog 95 #[.iface 121 x] w fun e w' => e = .returned (.bool false) ∧ w' = w := by
  have hk := nbKind_atom x w
  go_enter Tryz.func95, Tryz.ntmps95
  go_wp2_with (go_at_call 144; refine hk.mono ?_; rintro e w' ⟨rfl, rfl⟩)
  go_ret
  exact ⟨rfl, rfl⟩
theorem nbKind_comp (x : Value) (w : World) : Calls Tryz.prog 144 #[.iface 122 x] w fun e w' => e = .returned (.int .i64 3) ∧ w' = w := by
  have n_var := nbA_comp_var
  have n_num := nbA_comp_num
  have n_atom := nbA_comp_atom
  go_enter Tryz.func144, Tryz.ntmps144
  go_wp2_with fail
  go_ret
  exact ⟨rfl, rfl⟩
theorem nbIsVar_comp (x : Value) (w : World) : Calls Tryz.prog 95 #[.iface 122 x] w fun e w' => e = .returned (.bool false) ∧ w' = w := by
  have hk := nbKind_comp x w
  go_enter Tryz.func95, Tryz.ntmps95
  go_wp2_with (go_at_call 144; refine hk.mono ?_; rintro e w' ⟨rfl, rfl⟩)
  go_ret
  exact ⟨rfl, rfl⟩
theorem nbFunAtom (s : ByteArray) (w : World) : Calls Tryz.prog 89 #[.string s] w fun e w' => e = .returned (.agg #[.string s, .int .i64 0]) ∧ Below w.heap.size w w' := by
  go_enter Tryz.func89, Tryz.ntmps89
  go_wp2_with fail
  exact bodyPost_ret (v := .agg #[.string s, .int .i64 0]) (by simp [results, Tryz.results89, go_sem]) rfl ⟨rfl, (Below.refl _ _).alloc (Nat.le_refl _) _⟩
end Go.Proofs.YtfgaenggbbgboaaGreatDoor

namespace Go.Proofs.YtfgaenggbbgboaaGreatDoor
open Go Go.RowKit
set_option linter.unusedVariables false
set_option maxRecDepth 100000 in
theorem nbFO_atom (s : ByteArray) (w : World) : Calls Tryz.prog 75 #[.iface 121 (.string s)] w fun e w' => e = .returned (.tuple #[.agg #[.string s, .int .i64 0], .bool true]) ∧ Below w.heap.size w w' := by
  have n1 := nbA_atom_atom
  have HC : Hid (∀ W, Calls Tryz.prog 89 #[.string s] W fun e w' => e = .returned (.agg #[.string s, .int .i64 0]) ∧ Below W.heap.size W w') := fun W => nbFunAtom s W
  go_enter Tryz.func75, Tryz.ntmps75
  go_wp2_with fail
  refine (HC.out _).mono ?_
  rintro e w1 ⟨rfl, hb⟩
  have k := hb.block w.heap.size (by simp)
  rw [heap_alloc_new] at k
  obtain ⟨c0, c1, f0, f1⟩ := two_cells k
  have HB : Hid (Below w.heap.size w w1) := ((Below.refl _ _).alloc (Nat.le_refl _) _).trans (hb.mono (by simp))
  clear hb k HC
  go_wp2_with fail
  exact bodyPost_ret (v := .tuple #[.agg #[.string s, .int .i64 0], .bool true]) (by simp [results, Tryz.results75, go_sem, c0, c1]) rfl ⟨rfl, (HB.out.setCell (Nat.le_refl _) _).setCell (Nat.le_refl _) _⟩
set_option maxRecDepth 100000 in
theorem nbFO_comp (b g q : Nat) (s : ByteArray) (w : World) (h0 : w.cell? ⟨b, 0, none⟩ = some (.string s)) (h1 : w.cell? ⟨b, 1, none⟩ = some (.slice (some ⟨g, 0, none⟩) q q)) : Calls Tryz.prog 75 #[.iface 122 (.pointer (some ⟨b, 0, none⟩))] w fun e w' => e = .returned (.tuple #[.agg #[.string s, .int .i64 q], .bool true]) ∧ Below w.heap.size w w' := by
  have n1 := nbA_comp_atom
  have n2 := nbA_comp_comp
  have HC : Hid (∀ W, Below w.heap.size w W → Calls Tryz.prog 90 #[.pointer (some ⟨b, 0, none⟩)] W fun e w' => e = .returned (.agg #[.string s, .int .i64 q]) ∧ Below W.heap.size W w') := fun W hW => functor_any b g q s W ((hW.cell (World.block_lt_of_cell? _ _ h0)).trans h0) ((hW.cell (World.block_lt_of_cell? _ _ h1)).trans h1)
  clear h0 h1
  go_enter Tryz.func75, Tryz.ntmps75
  go_wp2_with fail
  refine (HC.out _ ((Below.refl _ _).alloc (Nat.le_refl _) _)).mono ?_
  rintro e w1 ⟨rfl, hb⟩
  have k := hb.block w.heap.size (by simp)
  rw [heap_alloc_new] at k
  obtain ⟨c0, c1, f0, f1⟩ := two_cells k
  have HB : Hid (Below w.heap.size w w1) := ((Below.refl _ _).alloc (Nat.le_refl _) _).trans (hb.mono (by simp))
  clear hb k HC
  go_wp2_with fail
  exact bodyPost_ret (v := .tuple #[.agg #[.string s, .int .i64 q], .bool true]) (by simp [results, Tryz.results75, go_sem, c0, c1]) rfl ⟨rfl, (HB.out.setCell (Nat.le_refl _) _).setCell (Nat.le_refl _) _⟩
set_option maxRecDepth 100000 in
theorem nbFO_var (x : Value) (w : World) : Calls Tryz.prog 75 #[.iface 119 x] w fun e w' => e = .returned (.tuple #[.agg #[.string ⟨#[]⟩, .int .i64 0], .bool false]) ∧ Below w.heap.size w w' := by
  have n1 := nbA_var_atom
  have n2 := nbA_var_comp
  go_enter Tryz.func75, Tryz.ntmps75
  go_wp2_with fail
  exact bodyPost_ret (v := .tuple #[.agg #[.string ⟨#[]⟩, .int .i64 0], .bool false]) (by simp [results, Tryz.results75, go_sem]) rfl ⟨rfl, (Below.refl _ _).alloc (Nat.le_refl _) _⟩
set_option maxRecDepth 100000 in
theorem nbFO_num (x : Value) (w : World) : Calls Tryz.prog 75 #[.iface 120 x] w fun e w' => e = .returned (.tuple #[.agg #[.string ⟨#[]⟩, .int .i64 0], .bool false]) ∧ Below w.heap.size w w' := by
  have n1 := nbA_num_atom
  have n2 := nbA_num_comp
  go_enter Tryz.func75, Tryz.ntmps75
  go_wp2_with fail
  exact bodyPost_ret (v := .tuple #[.agg #[.string ⟨#[]⟩, .int .i64 0], .bool false]) (by simp [results, Tryz.results75, go_sem]) rfl ⟨rfl, (Below.refl _ _).alloc (Nat.le_refl _) _⟩
end Go.Proofs.YtfgaenggbbgboaaGreatDoor

namespace Go.Proofs.YtfgaenggbbgboaaGreatDoor
open Go Go.RowKit
set_option linter.unusedVariables false
def flatP (vs : List (Value × Value)) : List Value := vs.flatMap (fun x => [x.1, x.2])
theorem flatP_append (a b : List (Value × Value)) : flatP (a ++ b) = flatP a ++ flatP b := by simp [flatP]
theorem flatP_len : ∀ vs : List (Value × Value), (flatP vs).length = vs.length * 2
  | [] => rfl
  | x :: r => by have := flatP_len r; simp only [flatP] at this; simp [flatP, this]; omega
def PairsIn (W0 : World) (Bt : Nat) : List TT → List (Value × Value) → Prop
  | [], vs => vs = []
  | x :: r, vs => ∃ v s, vs = v :: s ∧ FoIn W0 Bt x.1.fo [v.1] ∧ FoIn W0 Bt x.2.fo [v.2] ∧ PairsIn W0 Bt r s
theorem PairsIn.len {W0 : World} {Bt : Nat} : ∀ (st : List TT) (vs : List (Value × Value)), PairsIn W0 Bt st vs → vs.length = st.length
  | [], vs, h => by rw [show vs = [] from h]; rfl
  | x :: r, vs, ⟨v, s, e, _, _, h⟩ => by rw [e]; simp [PairsIn.len r s h]
theorem PairsIn.append {W0 : World} {Bt : Nat} : ∀ (a b : List TT) (vs us : List (Value × Value)), PairsIn W0 Bt a vs → PairsIn W0 Bt b us → PairsIn W0 Bt (a ++ b) (vs ++ us)
  | [], b, vs, us, h, k => by rw [show vs = [] from h]; exact k
  | x :: r, b, vs, us, ⟨v, s, e, h1, h2, h3⟩, k => by
    subst e
    exact ⟨v, s ++ us, rfl, h1, h2, PairsIn.append r b s us h3 k⟩
theorem PairsIn.parts {W0 : World} {Bt : Nat} : ∀ (a b : List TT) (vs : List (Value × Value)), PairsIn W0 Bt (a ++ b) vs → ∃ us ws, vs = us ++ ws ∧ PairsIn W0 Bt a us ∧ PairsIn W0 Bt b ws
  | [], b, vs, h => ⟨[], vs, rfl, rfl, h⟩
  | x :: r, b, vs, ⟨v, s, e, h1, h2, h3⟩ => by
    obtain ⟨us, ws, e', k1, k2⟩ := PairsIn.parts r b s h3
    subst e e'
    exact ⟨v :: us, ws, rfl, ⟨v, us, rfl, h1, h2, k1⟩, k2⟩
structure Stk (W0 : World) (Bt : Nat) (w : World) (B sb so : Nat) (p : Option Addr) (n c : Nat) (st : List TT) : Prop where
  cell : w.cell? ⟨sb, so, none⟩ = some (.slice p n c)
  free : w.frozen? ⟨sb, so, none⟩ = false
  len : n = st.length
  row : ∃ vs, w.ownsRow B 114 2 (.slice p n c) n (flatP vs) ∧ PairsIn W0 Bt st vs
  away : ∀ g, p = some ⟨g, 0, none⟩ → g ≠ sb
structure Kept2 (w w' : World) (sb so : Nat) (g : Option Nat) : Prop where
  os : w'.os = w.os
  tape : w'.tape = w.tape
  output : w'.output = w.output
  size : w.heap.size ≤ w'.heap.size
  block : ∀ k, k < w.heap.size → k ≠ sb → some k ≠ g → w'.heap[k]? = w.heap[k]?
  cells : ∀ o, o ≠ so → w'.cell? ⟨sb, o, none⟩ = w.cell? ⟨sb, o, none⟩
  frz : ∀ o, w'.frozen? ⟨sb, o, none⟩ = w.frozen? ⟨sb, o, none⟩
theorem Kept2.below {w w' : World} {sb so B : Nat} {g : Option Nat} (h : Kept2 w w' sb so g) (hs : B ≤ sb) (hg : ∀ k, g = some k → B ≤ k) (hB : B ≤ w.heap.size) : Below B w w' :=
  ⟨h.os, h.tape, h.output, h.size, fun k hk => h.block k (by omega) (by omega) (fun e => by have := hg k e.symm; omega)⟩
theorem Kept2.refl (w : World) (sb so : Nat) (g : Option Nat) : Kept2 w w sb so g := ⟨rfl, rfl, rfl, Nat.le_refl _, fun _ _ _ _ => rfl, fun _ _ => rfl, fun _ => rfl⟩
theorem Kept2.alloc {w w' : World} {sb so : Nat} {g : Option Nat} (h : Kept2 w w' sb so g) (hs : sb < w'.heap.size) (o : Obj) : Kept2 w (w'.alloc o) sb so g :=
  ⟨h.os, h.tape, h.output, Nat.le_trans h.size (by simp), fun k hk h1 h2 => (Below.heap_alloc _ _ _ (Nat.lt_of_lt_of_le hk h.size)).trans (h.block k hk h1 h2),
   fun j hj => (World.cell?_of_block (w := w') (a := ⟨sb, j, none⟩) (Below.heap_alloc _ _ _ hs)).trans (h.cells j hj), fun j => (World.frozen?_of_block (w := w') (a := ⟨sb, j, none⟩) (Below.heap_alloc _ _ _ hs)).trans (h.frz j)⟩
theorem Kept2.set {w w' : World} {sb so : Nat} {g : Option Nat} (h : Kept2 w w' sb so g) (u : Value) : Kept2 w (w'.setCell ⟨sb, so, none⟩ u) sb so g :=
  ⟨by rw [World.setCell]; split <;> exact h.os, h.tape, h.output, by simpa using h.size, fun k hk h1 h2 => (Below.heap_setCell _ _ _ _ h1).trans (h.block k hk h1 h2),
   fun j hj => (World.cell?_setCell_other _ _ _ _ (fun e => hj (congrArg Addr.off e).symm)).trans (h.cells j hj), fun j => by rw [World.frozen?_setCell]; exact h.frz j⟩
theorem Kept2.new {w w' : World} {sb so : Nat} {g : Option Nat} (h : Kept2 w w' sb so g) {a : Addr} (ha : w.heap.size ≤ a.block) (hs : sb < w.heap.size) (u : Value) : Kept2 w (w'.setCell a u) sb so g :=
  ⟨h.os, h.tape, h.output, by simpa using h.size, fun k hk h1 h2 => (Below.heap_setCell _ _ _ _ (by omega)).trans (h.block k hk h1 h2),
   fun j hj => (World.cell?_setCell_other _ _ _ _ (fun e => by rw [e] at ha; simp at ha; omega)).trans (h.cells j hj), fun j => by rw [World.frozen?_setCell]; exact h.frz j⟩
def TakeOut (W0 : World) (Bt : Nat) (w : World) (B sb so : Nat) (g : Option Nat) (st : List TT) (x : TT) (e : Ending) (w' : World) : Prop :=
  ∃ v1 v2, e = .returned (.agg #[v1, v2]) ∧ FoIn W0 Bt x.1.fo [v1] ∧ FoIn W0 Bt x.2.fo [v2] ∧ (∃ p n c, Stk W0 Bt w' B sb so p n c st ∧ Value.ownBlock (.slice p n c) = g) ∧ Kept2 w w' sb so none
set_option maxRecDepth 100000 in
set_option maxHeartbeats 1000000 in
theorem take_any (W0 : World) (Bt : Nat) (w : World) (B sb so : Nat) (p : Option Addr) (n c : Nat) (st : List TT) (x : TT) (hn : n ≤ 1000000) (h : Stk W0 Bt w B sb so p n c (st ++ [x])) :
    Calls Tryz.prog 81 #[.pointer (some ⟨sb, so, none⟩)] w (TakeOut W0 Bt w B sb so (Value.ownBlock (.slice p n c)) st x) := by
  obtain ⟨hcell, hfree, hlen, ⟨vs, hrow, hin⟩, haway⟩ := h
  obtain ⟨us, ws, rfl, hin1, hin2⟩ := PairsIn.parts _ _ _ hin
  obtain ⟨v, s, rfl, hx1, hx2, hs0⟩ := hin2
  obtain rfl : s = [] := hs0
  have hul := hin1.len
  obtain ⟨L, eL⟩ : ∃ L, L = st.length := ⟨_, rfl⟩
  have hnL : n = L + 1 := by rw [hlen, eL]; simp
  obtain ⟨g, cap, hform⟩ := ownsRow_succ (k := L) (by rw [← hnL]; exact hrow)
  subst hnL
  cases hform
  have d0 : w.cell? ⟨g, L * 2, none⟩ = some v.1 := by
    rw [hrow.cellAt _ (by omega), flatP_append, List.getElem?_append_right (by rw [flatP_len]; omega), flatP_len]
    rw [show L * 2 - us.length * 2 = 0 by omega]; rfl
  have d1 : w.cell? ⟨g, L * 2 + 1, none⟩ = some v.2 := by
    rw [hrow.cellAt _ (by omega), flatP_append, List.getElem?_append_right (by rw [flatP_len]; omega), flatP_len]
    rw [show L * 2 + 1 - us.length * 2 = 1 by omega]; rfl
  obtain ⟨t1, x1, e1⟩ := FoIn.iface (show FoIn W0 Bt (.node x.1.1 x.1.2 .nil) [v.1] from hx1)
  obtain ⟨t2, x2, e2⟩ := FoIn.iface (show FoIn W0 Bt (.node x.2.1 x.2.2 .nil) [v.2] from hx2)
  have hpop := ownsRow_pop (size := 2) (n := L) (xs := flatP us) (last := flatP [v]) (by rw [flatP_len]; omega) (by rw [← flatP_append]; exact hrow)
  obtain ⟨v1, v2⟩ := v
  simp only at e1 e2 hx1 hx2 d0 d1
  subst e1 e2
  have HFIN : Hid (∀ w', Kept2 w w' sb so none → w'.cell? ⟨sb, so, none⟩ = some (.slice (some ⟨g, 0, none⟩) L c) → w'.heap[g]? = w.heap[g]? → TakeOut W0 Bt w B sb so (some g) st x (.returned (.agg #[.iface t1 x1, .iface t2 x2])) w') := fun w' hk hc hg =>
    ⟨_, _, rfl, hx1, hx2, ⟨_, _, _, ⟨hc, (hk.frz so).trans hfree, eL, ⟨us, ⟨hpop.1, by
      rcases hpop.2 with ⟨h', _⟩ | ⟨g', cap', cur, hv, hB, hh, r⟩
      · cases h'
      · exact .inr ⟨g', cap', cur, hv, hB, by cases hv; exact hg.trans hh, r⟩⟩, hin1⟩, haway⟩, rfl⟩, hk⟩
  have hne := haway g rfl
  have hlt : sb < w.heap.size := World.block_lt_of_cell? _ _ hcell
  have hglt : g < w.heap.size := World.block_lt_of_cell? _ _ d0
  have hc1 : L ≤ c := by
    rcases hrow.2 with ⟨h', _⟩ | ⟨g', cap', cur, hv, hB, hh, r, _⟩
    · cases h'
    · cases hv; omega
  clear hpop hrow hin hin1 hx1 hx2 haway hlen hul eL
  go_enter Tryz.func81, Tryz.ntmps81
  go_wp2
  refine bodyPost_ret (v := .agg #[.iface t1 x1, .iface t2 x2]) (by simp [results, Tryz.results81, go_sem]) rfl (HFIN.out _ (((Kept2.refl w sb so none).set _).alloc (by simpa using hlt) _ |>.alloc (by simp; omega) _) ?_ ?_)
  · exact Lib.cell?_alloc_marked _ (Lib.cell?_alloc_marked _ (World.cell?_setCell_same' _ _ _ (by rw [hcell]; rfl)))
  · exact (Below.heap_alloc _ _ _ (by simp; omega)).trans ((Below.heap_alloc _ _ _ (by simpa using hglt)).trans (Below.heap_setCell _ _ _ _ hne))
end Go.Proofs.YtfgaenggbbgboaaGreatDoor

namespace Go.Proofs.YtfgaenggbbgboaaGreatDoor
open Go Go.RowKit
set_option linter.unusedVariables false
theorem str_inj {xs ys : List Int} (hx : Byte xs) (hy : Byte ys) : (strOfNums xs == strOfNums ys) = decide (xs = ys) := by
  have h1 := str_beq hx (strOfNums ys).toList
  have h2 := (str_eq hy (strOfNums ys).toList).1 rfl
  rw [← h2] at h1
  rw [← h1]
  congr 1
  rw [ByteArray.toList_eq]
theorem str_ne {xs ys : List Int} (hx : Byte xs) (hy : Byte ys) (h : strOfNums xs = strOfNums ys) : xs = ys := by
  have h1 := str_inj hx hy
  rw [h, str_inj hy hy] at h1
  simpa using h1.symm
end Go.Proofs.YtfgaenggbbgboaaGreatDoor

namespace Go.Proofs.YtfgaenggbbgboaaGreatDoor
open Go Go.RowKit
set_option linter.unusedVariables false
theorem turned_any (t1 : TypeId) (x1 : Value) (t2 : TypeId) (x2 : Value) (w : World) :
    Calls Tryz.prog 97 #[.agg #[.iface t1 x1, .iface t2 x2]] w fun e w' => e = .returned (.agg #[.iface t2 x2, .iface t1 x1]) ∧ Below w.heap.size w w' := by
  go_enter Tryz.func97, Tryz.ntmps97
  go_wp2
  exact bodyPost_ret (v := .agg #[.iface t2 x2, .iface t1 x1]) (by simp [results, Tryz.results97, go_sem]) rfl ⟨rfl, ((Below.refl _ _).alloc (Nat.le_refl _) _).alloc (by simp) _⟩
theorem pairEq {v1 v2 : Value} {b b' : Bool} (w : World) (h1 : ∀ w, (Op.equalIn 9999 59 v1 v2).run Tryz.prog w = .ok b w) (h2 : ∀ w, (Op.equalIn 9999 59 v2 v1).run Tryz.prog w = .ok b' w) :
    (binOp .eql 114 (.agg #[v1, v2]) (.agg #[v2, v1])).run Tryz.prog w = .ok (.bool (b && b')) w := by
  have u1 := Tryz.underlying114
  have z1 := Tryz.sizeOf59
  have a1 := Tryz.isAgg59
  simp only [binOp, Op.equal, Op.maxDepth]
  rw [show (10000 : Nat) = 9999 + 1 from rfl, Op.equalIn]
  simp only [Sem.run_bind, run_underlying u1, Result.andThen_ok]
  simp only [Std.Legacy.Range.forIn_eq_forIn_range', Std.Legacy.Range.size, Nat.sub_zero, Nat.add_sub_cancel, Nat.div_one, List.range'_succ, List.range'_zero, List.forIn_cons, List.forIn_nil]
  go_simp
  cases b <;> cases b' <;> simp
theorem ieq_ne (t t' : TypeId) (x y : Value) (h : t ≠ t') (w : World) : (Op.equalIn 9999 59 (.iface t x) (.iface t' y)).run Tryz.prog w = .ok false w := by
  rw [show (9999 : Nat) = 9998 + 1 from rfl, Op.equalIn]
  simp [run_underlying Tryz.underlying59, h]
theorem ieq_var (a b : Int) (w : World) : (Op.equalIn 9999 59 (.iface 119 (.int .i64 a)) (.iface 119 (.int .i64 b))).run Tryz.prog w = .ok (a == b) w := by kernel_rfl
theorem ieq_num (a b : Int) (w : World) : (Op.equalIn 9999 59 (.iface 120 (.int .i64 a)) (.iface 120 (.int .i64 b))).run Tryz.prog w = .ok (a == b) w := by kernel_rfl
theorem ieq_atom (a b : ByteArray) (w : World) : (Op.equalIn 9999 59 (.iface 121 (.string a)) (.iface 121 (.string b))).run Tryz.prog w = .ok (a == b) w := by kernel_rfl
theorem node_eq {W0 : World} {Bt : Nat} {c c' : Cel} {K K' : List Value → Prop} {v v' : Value} (hn : NodeIn W0 Bt c K v) (hn' : NodeIn W0 Bt c' K' v') (hc : cellB c.1 c.2.1 c.2.2.length = true) (hc' : cellB c'.1 c'.2.1 c'.2.2.length = true) (hb : Byte c.2.2) (hb' : Byte c'.2.2)
    (h3 : ¬ (c.1 = 3 ∧ c'.1 = 3)) (w : World) : (Op.equalIn 9999 59 v v').run Tryz.prog w = .ok (decide (c = c')) w := by
  have oth : c.1 ≠ c'.1 → decide (c = c') = false := fun h => by simp only [decide_eq_false_iff_not]; exact fun e => h (by rw [e])
  have txt : ∀ {c : Cel}, cellB c.1 c.2.1 c.2.2.length = true → c.1 = 0 ∨ c.1 = 1 → c.2.2 = [] := fun {c} h h0 => by
    rcases h0 with h0 | h0 <;> (rw [h0] at h; simp [cellB] at h; simpa using h.2.2)
  obtain ⟨k1, n1, x1⟩ := c
  obtain ⟨k2, n2, x2⟩ := c'
  simp only at *
  rcases hn with ⟨h0, rfl⟩ | ⟨h0, rfl⟩ | ⟨h0, rfl⟩ | ⟨h0, b, g, vs, rfl, _⟩ <;> rcases hn' with ⟨h0', rfl⟩ | ⟨h0', rfl⟩ | ⟨h0', rfl⟩ | ⟨h0', b', g', vs', rfl, _⟩ <;> simp only at h0 h0' <;> subst h0 h0'
  · have e1 := txt (c := (0, n1, x1)) hc (.inl rfl)
    have e2 := txt (c := (0, n2, x2)) hc' (.inl rfl)
    simp only at e1 e2
    subst e1 e2
    rw [ieq_var]; congr 1; rw [Bool.eq_iff_iff]; simp
  · rw [ieq_ne _ _ _ _ (by decide), oth (by decide)]
  · rw [ieq_ne _ _ _ _ (by decide), oth (by decide)]
  · rw [ieq_ne _ _ _ _ (by decide), oth (by decide)]
  · rw [ieq_ne _ _ _ _ (by decide), oth (by decide)]
  · have e1 := txt (c := (1, n1, x1)) hc (.inr rfl)
    have e2 := txt (c := (1, n2, x2)) hc' (.inr rfl)
    simp only at e1 e2
    subst e1 e2
    rw [ieq_num]; congr 1; rw [Bool.eq_iff_iff]; simp
  · rw [ieq_ne _ _ _ _ (by decide), oth (by decide)]
  · rw [ieq_ne _ _ _ _ (by decide), oth (by decide)]
  · rw [ieq_ne _ _ _ _ (by decide), oth (by decide)]
  · rw [ieq_ne _ _ _ _ (by decide), oth (by decide)]
  · have e1 : n1 = 0 := by simp [cellB] at hc; exact hc.2
    have e2 : n2 = 0 := by simp [cellB] at hc'; exact hc'.2
    subst e1 e2
    rw [ieq_atom, str_inj hb hb']; congr 1; rw [Bool.eq_iff_iff]; simp
  · rw [ieq_ne _ _ _ _ (by decide), oth (by decide)]
  · rw [ieq_ne _ _ _ _ (by decide), oth (by decide)]
  · rw [ieq_ne _ _ _ _ (by decide), oth (by decide)]
  · rw [ieq_ne _ _ _ _ (by decide), oth (by decide)]
  · exact (h3 ⟨rfl, rfl⟩).elim
theorem Kept2.of_below {w w' : World} {sb so : Nat} (g : Option Nat) (h : Below w.heap.size w w') (hs : sb < w.heap.size) : Kept2 w w' sb so g :=
  ⟨h.os, h.tape, h.output, h.size, fun k hk _ _ => h.block k hk, fun o _ => h.cell (p := ⟨sb, o, none⟩) hs, fun o => h.frozen (p := ⟨sb, o, none⟩) hs⟩
theorem Stk.below {W0 : World} {Bt : Nat} {w w' : World} {B sb so : Nat} {p : Option Addr} {n c : Nat} {st : List TT} (h : Stk W0 Bt w B sb so p n c st) (hb : Below w.heap.size w w') : Stk W0 Bt w' B sb so p n c st := by
  have hs : sb < w.heap.size := World.block_lt_of_cell? _ _ h.cell
  obtain ⟨vs, hr, hp⟩ := h.row
  exact ⟨(hb.cell (p := ⟨sb, so, none⟩) hs).trans h.cell, (hb.frozen (p := ⟨sb, so, none⟩) hs).trans h.free, h.len, ⟨vs, row_below hr hb, hp⟩, h.away⟩
def OpenOut (W0 : World) (Bt : Nat) (w : World) (B sb so : Nat) (g : Option Nat) (st : List TT) (x : TT) (e : Ending) (w' : World) : Prop :=
  e = .returned (.bool (decide (x.1.1 = x.2.1))) ∧ (∃ p n c, Stk W0 Bt w' B sb so p n c (st ++ opened x) ∧ (Value.ownBlock (.slice p n c) = g ∨ ∃ k, Value.ownBlock (.slice p n c) = some k ∧ w.heap.size ≤ k)) ∧ Kept2 w w' sb so g
theorem opened_leaf {x : TT} (h1 : x.1.ok) (h2 : x.2.ok) (h3 : ¬ (x.1.1.1 = 3 ∧ x.2.1.1 = 3)) : opened x = [] := by
  unfold opened argPairs
  split
  · rename_i h
    have h3' : x.1.1.1 ≠ 3 := fun e => h3 ⟨e, by rw [← h]; exact e⟩
    have e1 : x.1.2 = .nil := h1.2.2.2.1 h3'
    rw [e1]; rfl
  · rfl
set_option maxRecDepth 100000 in
set_option maxHeartbeats 1000000 in
theorem openLeaf_any (W0 : World) (Bt : Nat) (w : World) (B sb so : Nat) (p : Option Addr) (n c : Nat) (st : List TT) (x : TT) (v1 v2 : Value) (h : Stk W0 Bt w B sb so p n c st) (hx1 : FoIn W0 Bt x.1.fo [v1]) (hx2 : FoIn W0 Bt x.2.fo [v2]) (ho1 : x.1.ok) (ho2 : x.2.ok) (h3 : ¬ (x.1.1.1 = 3 ∧ x.2.1.1 = 3)) :
    Calls Tryz.prog 80 #[.pointer (some ⟨sb, so, none⟩), .agg #[v1, v2]] w (OpenOut W0 Bt w B sb so (Value.ownBlock (.slice p n c)) st x) := by
  have hlt : sb < w.heap.size := World.block_lt_of_cell? _ _ h.cell
  have HFIN : Hid (∀ w', Below w.heap.size w w' → OpenOut W0 Bt w B sb so (Value.ownBlock (.slice p n c)) st x (.returned (.bool (decide (x.1.1 = x.2.1)))) w') := fun w' hb =>
    ⟨rfl, ⟨p, n, c, by rw [opened_leaf ho1 ho2 h3, List.append_nil]; exact h.below hb, .inl rfl⟩, Kept2.of_below _ hb hlt⟩
  obtain ⟨u1, r1, e1, hn1, _⟩ := hx1
  obtain ⟨rfl, rfl⟩ := List.cons.inj e1
  obtain ⟨u2, r2, e2, hn2, _⟩ := hx2
  obtain ⟨rfl, rfl⟩ := List.cons.inj e2
  have hq : ∀ w, (binOp .eql 114 (.agg #[v1, v2]) (.agg #[v2, v1])).run Tryz.prog w = .ok (.bool (decide (x.1.1 = x.2.1))) w := fun w => by
    have := pairEq w (fun w => node_eq hn1 hn2 ho1.1 ho2.1 ho1.2.1 ho2.2.1 h3 w) (fun w => node_eq hn2 hn1 ho2.1 ho1.1 ho2.2.1 ho1.2.1 (fun h => h3 ⟨h.2, h.1⟩) w)
    rw [this]
    congr 2
    rw [Bool.eq_iff_iff]
    simp only [Bool.and_eq_true, decide_eq_true_eq]
    exact ⟨fun h => h.1, fun h => ⟨h, h.symm⟩⟩
  obtain ⟨t1, x1, rfl⟩ := hn1.iface
  obtain ⟨t2, x2, rfl⟩ := hn2.iface
  have hty : ∃ (p1 p2 : Option Addr) (b1 b2 : Bool), (∀ w, (Instr.typeAssert (.iface t1 x1) 59 122 true).run Tryz.prog w = .ok (.tuple #[.pointer p1, .bool b1]) w) ∧ (∀ w, (Instr.typeAssert (.iface t2 x2) 59 122 true).run Tryz.prog w = .ok (.tuple #[.pointer p2, .bool b2]) w) ∧ (b1 = false ∨ (b1 = true ∧ b2 = false)) := by
    have one : ∀ {c : Cel} {K : List Value → Prop} {t : TypeId} {y : Value}, NodeIn W0 Bt c K (.iface t y) → ∃ (p : Option Addr) (b : Bool), (∀ w, (Instr.typeAssert (.iface t y) 59 122 true).run Tryz.prog w = .ok (.tuple #[.pointer p, .bool b]) w) ∧ (b = true → c.1 = 3) := fun {c K t y} hn => by
      rcases hn with ⟨_, e⟩ | ⟨_, e⟩ | ⟨_, e⟩ | ⟨h, b, g, vs, e, _⟩
      · cases e; exact ⟨_, _, fun w => noComp_var w _, fun h => by cases h⟩
      · cases e; exact ⟨_, _, fun w => noComp_num w _, fun h => by cases h⟩
      · cases e; exact ⟨_, _, fun w => noComp_atom w _, fun h => by cases h⟩
      · cases e; exact ⟨_, _, fun w => isComp w _, fun _ => h⟩
    obtain ⟨p1, b1, f1, g1⟩ := one hn1
    obtain ⟨p2, b2, f2, g2⟩ := one hn2
    refine ⟨p1, p2, b1, b2, f1, f2, ?_⟩
    cases b1 with
    | false => exact .inl rfl
    | true =>
      refine .inr ⟨rfl, ?_⟩
      cases b2 with
      | false => rfl
      | true => exact (h3 ⟨g1 rfl, g2 rfl⟩).elim
  obtain ⟨p1, p2, b1, b2, a1, a2, hbb⟩ := hty
  obtain ⟨r, er⟩ : ∃ r, r = decide (x.1.1 = x.2.1) := ⟨_, rfl⟩
  rw [← er] at hq HFIN
  have HT := fun W => turned_any t1 x1 t2 x2 W
  clear er h hn1 hn2 ho1 ho2 h3 e1 e2
  have HEND : Hid (∀ (W : World), Below w.heap.size w W → W.cell? ⟨w.heap.size + 1, 0, none⟩ = some (.iface t1 x1) → W.cell? ⟨w.heap.size + 1, 1, none⟩ = some (.iface t2 x2) → w.heap.size + 1 < W.heap.size → ∀ w5, Below W.heap.size W w5 → Below w.heap.size w w5 ∧ w5.cell? ⟨w.heap.size + 1, 0, none⟩ = some (.iface t1 x1) ∧ w5.cell? ⟨w.heap.size + 1, 1, none⟩ = some (.iface t2 x2)) := fun W hW k0 k1 hs w5 h5 =>
    ⟨Below.on hW h5, (h5.cell (p := ⟨w.heap.size + 1, 0, none⟩) hs).trans k0, (h5.cell (p := ⟨w.heap.size + 1, 1, none⟩) hs).trans k1⟩
  have HB3 : ∀ a b d, Below w.heap.size w (((w.alloc a).alloc b).alloc d) := fun a b d => (((Below.refl _ _).alloc (Nat.le_refl _) _).alloc (by simp) _).alloc (by simp; omega) _
  have HBD : Hid (∀ a b d, Below w.heap.size w (((w.alloc a).alloc b).alloc d).drew) := fun a b d => (HB3 a b d).drew
  have HK : Hid (∀ a d : Obj, (((w.alloc a).alloc (.cells #[.iface t1 x1, .iface t2 x2] 114)).alloc d).cell? ⟨w.heap.size + 1, 0, none⟩ = some (.iface t1 x1) ∧ (((w.alloc a).alloc (.cells #[.iface t1 x1, .iface t2 x2] 114)).alloc d).cell? ⟨w.heap.size + 1, 1, none⟩ = some (.iface t2 x2)) := fun a d => by
    have h1 := heap_three w a (.cells #[.iface t1 x1, .iface t2 x2] 114) d
    exact ⟨cell_of_row _ _ 0 _ _ _ h1.1, cell_of_row _ _ 1 _ _ _ h1.1⟩
  have hg : ∀ (o1 o2 : Operand) (W : World), (eqGuard BinOp.eql 114 o1 o2 (.agg #[.iface t1 x1, .iface t2 x2]) (.agg #[.iface t2 x2, .iface t1 x1])).run Tryz.prog W = .ok () W := fun o1 o2 W => by kernel_rfl
  clear HB3
  rcases hbb with rfl | ⟨rfl, rfl⟩
  · go_enter Tryz.func80, Tryz.ntmps80
    go_wp2_with fail
    go_region_held3 (fun W => W.cell? ⟨w.heap.size + 1, 0, none⟩ = some (.iface t1 x1) ∧ W.cell? ⟨w.heap.size + 1, 1, none⟩ = some (.iface t2 x2)) (first | exact ⟨kk.2.1, kk.2.2⟩ | go_keep)
      ((go_at_call 97; refine (HT _).mono ?_; rintro e w5 ⟨rfl, hb5⟩; have kk := HEND.out _ (HBD.out _ _ _) (HK.out _ _).1 (HK.out _ _).2 (by simp) w5 hb5))
    all_goals go_wp2_with fail
    go_ret
    exact HFIN.out _ kk.1
  · go_enter Tryz.func80, Tryz.ntmps80
    go_wp2_with fail
    go_region_held3 (fun W => W.cell? ⟨w.heap.size + 1, 0, none⟩ = some (.iface t1 x1) ∧ W.cell? ⟨w.heap.size + 1, 1, none⟩ = some (.iface t2 x2)) (first | exact ⟨kk.2.1, kk.2.2⟩ | go_keep)
      ((go_at_call 97; refine (HT _).mono ?_; rintro e w5 ⟨rfl, hb5⟩; have kk := HEND.out _ (HBD.out _ _ _) (HK.out _ _).1 (HK.out _ _).2 (by simp) w5 hb5))
    all_goals go_wp2_with fail
    go_ret
    exact HFIN.out _ kk.1
end Go.Proofs.YtfgaenggbbgboaaGreatDoor

