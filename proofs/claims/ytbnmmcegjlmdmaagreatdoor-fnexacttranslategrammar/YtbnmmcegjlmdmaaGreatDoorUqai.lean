/- Texts of FunG, NbI1, FnK, NbFO. Own work of the verifier. -/
import Derived.Test.YtbnmmcegjlmdmaaGreatDoorUqah
import Derived.Test.YtbnmmcegjlmdmaaGreatDoorUqad
namespace Go.Proofs.YtbnmmcegjlmdmaaGreatDoor
open Go Go.RowKit
set_option linter.unusedVariables false
set_option maxRecDepth 100000 in
theorem functor_any (b g q : Nat) (str : ByteArray) (w : World) (h0 : w.cell? ⟨b, 0, none⟩ = some (.string str)) (h1 : w.cell? ⟨b, 1, none⟩ = some (.slice (some ⟨g, 0, none⟩) q q)) :
    Calls Tryz.prog 43 #[.pointer (some ⟨b, 0, none⟩)] w fun e w' => e = .returned (.agg #[.string str, .int .i64 q]) ∧ Below w.heap.size w w' := by
  have a0 : ∀ x, (w.alloc x).cell? ⟨b, 0, none⟩ = some (.string str) := fun x => Lib.cell?_alloc_marked x h0
  have a1 : ∀ x, (w.alloc x).cell? ⟨b, 1, none⟩ = some (.slice (some ⟨g, 0, none⟩) q q) := fun x => Lib.cell?_alloc_marked x h1
  go_enter Tryz.func43, Tryz.ntmps43
  go_wp2_with fail
  go_region
  all_goals go_wp2_with fail
  all_goals exact bodyPost_ret (v := .agg #[.string str, .int .i64 q]) (by simp [results, Tryz.results43, go_sem]) rfl ⟨rfl, ((Below.refl _ _).alloc (Nat.le_refl _) _).drew⟩
end Go.Proofs.YtbnmmcegjlmdmaaGreatDoor

namespace Go.Proofs.YtbnmmcegjlmdmaaGreatDoor
open Go Go.RowKit
set_option linter.unusedVariables false
theorem nbA_var_var (w : World) (x : Value) : (Instr.typeAssert (.iface 84 x) 49 84 true).run Tryz.prog w = .ok (.tuple #[x, .bool true]) w := by kernel_rfl
theorem nbA_var_num (w : World) (x : Value) : (Instr.typeAssert (.iface 84 x) 49 95 true).run Tryz.prog w = .ok (.tuple #[.int .i64 0, .bool false]) w := by kernel_rfl
theorem nbA_var_atom (w : World) (x : Value) : (Instr.typeAssert (.iface 84 x) 49 74 true).run Tryz.prog w = .ok (.tuple #[.string ⟨#[]⟩, .bool false]) w := by kernel_rfl
theorem nbA_var_comp (w : World) (x : Value) : (Instr.typeAssert (.iface 84 x) 49 76 true).run Tryz.prog w = .ok (.tuple #[.pointer none, .bool false]) w := by kernel_rfl
theorem nbA_num_var (w : World) (x : Value) : (Instr.typeAssert (.iface 95 x) 49 84 true).run Tryz.prog w = .ok (.tuple #[.int .i64 0, .bool false]) w := by kernel_rfl
theorem nbA_num_num (w : World) (x : Value) : (Instr.typeAssert (.iface 95 x) 49 95 true).run Tryz.prog w = .ok (.tuple #[x, .bool true]) w := by kernel_rfl
theorem nbA_num_atom (w : World) (x : Value) : (Instr.typeAssert (.iface 95 x) 49 74 true).run Tryz.prog w = .ok (.tuple #[.string ⟨#[]⟩, .bool false]) w := by kernel_rfl
theorem nbA_num_comp (w : World) (x : Value) : (Instr.typeAssert (.iface 95 x) 49 76 true).run Tryz.prog w = .ok (.tuple #[.pointer none, .bool false]) w := by kernel_rfl
theorem nbA_atom_var (w : World) (x : Value) : (Instr.typeAssert (.iface 74 x) 49 84 true).run Tryz.prog w = .ok (.tuple #[.int .i64 0, .bool false]) w := by kernel_rfl
theorem nbA_atom_num (w : World) (x : Value) : (Instr.typeAssert (.iface 74 x) 49 95 true).run Tryz.prog w = .ok (.tuple #[.int .i64 0, .bool false]) w := by kernel_rfl
theorem nbA_atom_atom (w : World) (x : Value) : (Instr.typeAssert (.iface 74 x) 49 74 true).run Tryz.prog w = .ok (.tuple #[x, .bool true]) w := by kernel_rfl
theorem nbA_atom_comp (w : World) (x : Value) : (Instr.typeAssert (.iface 74 x) 49 76 true).run Tryz.prog w = .ok (.tuple #[.pointer none, .bool false]) w := by kernel_rfl
theorem nbA_comp_var (w : World) (x : Value) : (Instr.typeAssert (.iface 76 x) 49 84 true).run Tryz.prog w = .ok (.tuple #[.int .i64 0, .bool false]) w := by kernel_rfl
theorem nbA_comp_num (w : World) (x : Value) : (Instr.typeAssert (.iface 76 x) 49 95 true).run Tryz.prog w = .ok (.tuple #[.int .i64 0, .bool false]) w := by kernel_rfl
theorem nbA_comp_atom (w : World) (x : Value) : (Instr.typeAssert (.iface 76 x) 49 74 true).run Tryz.prog w = .ok (.tuple #[.string ⟨#[]⟩, .bool false]) w := by kernel_rfl
theorem nbA_comp_comp (w : World) (x : Value) : (Instr.typeAssert (.iface 76 x) 49 76 true).run Tryz.prog w = .ok (.tuple #[x, .bool true]) w := by kernel_rfl
theorem nbKind_var (x : Value) (w : World) : Calls Tryz.prog 80 #[.iface 84 x] w fun e w' => e = .returned (.int .i64 0) ∧ w' = w := by
  have n_var := nbA_var_var
  have n_num := nbA_var_num
  have n_atom := nbA_var_atom
  go_enter Tryz.func80, Tryz.ntmps80
  go_wp2_with fail
  go_ret
  exact ⟨rfl, rfl⟩
theorem nbIsVar_var (x : Value) (w : World) : Calls Tryz.prog 71 #[.iface 84 x] w fun e w' => e = .returned (.bool true) ∧ w' = w := by
  have hk := nbKind_var x w
  go_enter Tryz.func71, Tryz.ntmps71
  go_wp2_with (go_at_call 80; refine hk.mono ?_; rintro e w' ⟨rfl, rfl⟩)
  go_ret
  exact ⟨rfl, rfl⟩
theorem nbKind_num (x : Value) (w : World) : Calls Tryz.prog 80 #[.iface 95 x] w fun e w' => e = .returned (.int .i64 1) ∧ w' = w := by
  have n_var := nbA_num_var
  have n_num := nbA_num_num
  have n_atom := nbA_num_atom
  go_enter Tryz.func80, Tryz.ntmps80
  go_wp2_with fail
  go_ret
  exact ⟨rfl, rfl⟩
theorem nbIsVar_num (x : Value) (w : World) : Calls Tryz.prog 71 #[.iface 95 x] w fun e w' => e = .returned (.bool false) ∧ w' = w := by
  have hk := nbKind_num x w
  go_enter Tryz.func71, Tryz.ntmps71
  go_wp2_with (go_at_call 80; refine hk.mono ?_; rintro e w' ⟨rfl, rfl⟩)
  go_ret
  exact ⟨rfl, rfl⟩
theorem nbKind_atom (x : Value) (w : World) : Calls Tryz.prog 80 #[.iface 74 x] w fun e w' => e = .returned (.int .i64 2) ∧ w' = w := by
  have n_var := nbA_atom_var
  have n_num := nbA_atom_num
  have n_atom := nbA_atom_atom
  go_enter Tryz.func80, Tryz.ntmps80
  go_wp2_with fail
  go_ret
  exact ⟨rfl, rfl⟩
theorem nbIsVar_atom (x : Value) (w : World) : Calls Tryz.prog 71 #[.iface 74 x] w fun e w' => e = .returned (.bool false) ∧ w' = w := by
  have hk := nbKind_atom x w
  go_enter Tryz.func71, Tryz.ntmps71
  go_wp2_with (go_at_call 80; refine hk.mono ?_; rintro e w' ⟨rfl, rfl⟩)
  go_ret
  exact ⟨rfl, rfl⟩
theorem nbKind_comp (x : Value) (w : World) : Calls Tryz.prog 80 #[.iface 76 x] w fun e w' => e = .returned (.int .i64 3) ∧ w' = w := by
  have n_var := nbA_comp_var
  have n_num := nbA_comp_num
  have n_atom := nbA_comp_atom
  go_enter Tryz.func80, Tryz.ntmps80
  go_wp2_with fail
  go_ret
  exact ⟨rfl, rfl⟩
theorem nbIsVar_comp (x : Value) (w : World) : Calls Tryz.prog 71 #[.iface 76 x] w fun e w' => e = .returned (.bool false) ∧ w' = w := by
  have hk := nbKind_comp x w
  go_enter Tryz.func71, Tryz.ntmps71
  go_wp2_with (go_at_call 80; refine hk.mono ?_; rintro e w' ⟨rfl, rfl⟩)
  go_ret
  exact ⟨rfl, rfl⟩
theorem nbFunAtom (s : ByteArray) (w : World) : Calls Tryz.prog 42 #[.string s] w fun e w' => e = .returned (.agg #[.string s, .int .i64 0]) ∧ Below w.heap.size w w' := by
  go_enter Tryz.func42, Tryz.ntmps42
  go_wp2_with fail
  exact bodyPost_ret (v := .agg #[.string s, .int .i64 0]) (by simp [results, Tryz.results42, go_sem]) rfl ⟨rfl, (Below.refl _ _).alloc (Nat.le_refl _) _⟩
end Go.Proofs.YtbnmmcegjlmdmaaGreatDoor

namespace Go.Proofs.YtbnmmcegjlmdmaaGreatDoor
open Go Go.RowKit
set_option linter.unusedVariables false
theorem two_cells {w5 : World} {g : Nat} {a b : Value} {t : TypeId} (h : w5.heap[g]? = some (.cells #[a, b] t (0, 0))) : w5.cell? ⟨g, 0, none⟩ = some a ∧ w5.cell? ⟨g, 1, none⟩ = some b ∧ w5.frozen? ⟨g, 0, none⟩ = false ∧ w5.frozen? ⟨g, 1, none⟩ = false := by
  refine ⟨?_, ?_, ?_, ?_⟩
  · exact cell_of_row _ _ 0 _ _ _ h
  · exact cell_of_row _ _ 1 _ _ _ h
  · unfold World.frozen?; rw [h]; rfl
  · unfold World.frozen?; rw [h]; rfl
end Go.Proofs.YtbnmmcegjlmdmaaGreatDoor

namespace Go.Proofs.YtbnmmcegjlmdmaaGreatDoor
open Go Go.RowKit
set_option linter.unusedVariables false
set_option maxRecDepth 100000 in
theorem nbFO_atom (s : ByteArray) (w : World) : Calls Tryz.prog 24 #[.iface 74 (.string s)] w fun e w' => e = .returned (.tuple #[.agg #[.string s, .int .i64 0], .bool true]) ∧ Below w.heap.size w w' := by
  have n1 := nbA_atom_atom
  have HC : Hid (∀ W, Calls Tryz.prog 42 #[.string s] W fun e w' => e = .returned (.agg #[.string s, .int .i64 0]) ∧ Below W.heap.size W w') := fun W => nbFunAtom s W
  go_enter Tryz.func24, Tryz.ntmps24
  go_wp2_with fail
  refine (HC.out _).mono ?_
  rintro e w1 ⟨rfl, hb⟩
  have k := hb.block w.heap.size (by simp)
  rw [heap_alloc_new] at k
  obtain ⟨c0, c1, f0, f1⟩ := two_cells k
  have HB : Hid (Below w.heap.size w w1) := ((Below.refl _ _).alloc (Nat.le_refl _) _).trans (hb.mono (by simp))
  clear hb k HC
  go_wp2_with fail
  exact bodyPost_ret (v := .tuple #[.agg #[.string s, .int .i64 0], .bool true]) (by simp [results, Tryz.results24, go_sem, c0, c1]) rfl ⟨rfl, (HB.out.setCell (Nat.le_refl _) _).setCell (Nat.le_refl _) _⟩
set_option maxRecDepth 100000 in
theorem nbFO_comp (b g q : Nat) (s : ByteArray) (w : World) (h0 : w.cell? ⟨b, 0, none⟩ = some (.string s)) (h1 : w.cell? ⟨b, 1, none⟩ = some (.slice (some ⟨g, 0, none⟩) q q)) : Calls Tryz.prog 24 #[.iface 76 (.pointer (some ⟨b, 0, none⟩))] w fun e w' => e = .returned (.tuple #[.agg #[.string s, .int .i64 q], .bool true]) ∧ Below w.heap.size w w' := by
  have n1 := nbA_comp_atom
  have n2 := nbA_comp_comp
  have HC : Hid (∀ W, Below w.heap.size w W → Calls Tryz.prog 43 #[.pointer (some ⟨b, 0, none⟩)] W fun e w' => e = .returned (.agg #[.string s, .int .i64 q]) ∧ Below W.heap.size W w') := fun W hW => functor_any b g q s W ((hW.cell (World.block_lt_of_cell? _ _ h0)).trans h0) ((hW.cell (World.block_lt_of_cell? _ _ h1)).trans h1)
  clear h0 h1
  go_enter Tryz.func24, Tryz.ntmps24
  go_wp2_with fail
  refine (HC.out _ ((Below.refl _ _).alloc (Nat.le_refl _) _)).mono ?_
  rintro e w1 ⟨rfl, hb⟩
  have k := hb.block w.heap.size (by simp)
  rw [heap_alloc_new] at k
  obtain ⟨c0, c1, f0, f1⟩ := two_cells k
  have HB : Hid (Below w.heap.size w w1) := ((Below.refl _ _).alloc (Nat.le_refl _) _).trans (hb.mono (by simp))
  clear hb k HC
  go_wp2_with fail
  exact bodyPost_ret (v := .tuple #[.agg #[.string s, .int .i64 q], .bool true]) (by simp [results, Tryz.results24, go_sem, c0, c1]) rfl ⟨rfl, (HB.out.setCell (Nat.le_refl _) _).setCell (Nat.le_refl _) _⟩
set_option maxRecDepth 100000 in
theorem nbFO_var (x : Value) (w : World) : Calls Tryz.prog 24 #[.iface 84 x] w fun e w' => e = .returned (.tuple #[.agg #[.string ⟨#[]⟩, .int .i64 0], .bool false]) ∧ Below w.heap.size w w' := by
  have n1 := nbA_var_atom
  have n2 := nbA_var_comp
  go_enter Tryz.func24, Tryz.ntmps24
  go_wp2_with fail
  exact bodyPost_ret (v := .tuple #[.agg #[.string ⟨#[]⟩, .int .i64 0], .bool false]) (by simp [results, Tryz.results24, go_sem]) rfl ⟨rfl, (Below.refl _ _).alloc (Nat.le_refl _) _⟩
set_option maxRecDepth 100000 in
theorem nbFO_num (x : Value) (w : World) : Calls Tryz.prog 24 #[.iface 95 x] w fun e w' => e = .returned (.tuple #[.agg #[.string ⟨#[]⟩, .int .i64 0], .bool false]) ∧ Below w.heap.size w w' := by
  have n1 := nbA_num_atom
  have n2 := nbA_num_comp
  go_enter Tryz.func24, Tryz.ntmps24
  go_wp2_with fail
  exact bodyPost_ret (v := .tuple #[.agg #[.string ⟨#[]⟩, .int .i64 0], .bool false]) (by simp [results, Tryz.results24, go_sem]) rfl ⟨rfl, (Below.refl _ _).alloc (Nat.le_refl _) _⟩
end Go.Proofs.YtbnmmcegjlmdmaaGreatDoor

