/- Texts of NbI2, FoI, FoS. Own work of the verifier. -/
import Derived.Test.YtemohfhblpejmaaDoorUqak
import Derived.Test.YtemohfhblpejmaaDoorUqaf
namespace Go.Proofs.YtemohfhblpejmaaDoor
open Go Go.RowKit
set_option linter.unusedVariables false

theorem two_cells {w5 : World} {g : Nat} {a b : Value} {t : TypeId} (h : w5.heap[g]? = some (.cells #[a, b] t (0, 0))) : w5.cell? ⟨g, 0, none⟩ = some a ∧ w5.cell? ⟨g, 1, none⟩ = some b ∧ w5.frozen? ⟨g, 0, none⟩ = false ∧ w5.frozen? ⟨g, 1, none⟩ = false := by
  refine ⟨?_, ?_, ?_, ?_⟩
  · exact cell_of_row _ _ 0 _ _ _ h
  · exact cell_of_row _ _ 1 _ _ _ h
  · unfold World.frozen?; rw [h]; rfl
  · unfold World.frozen?; rw [h]; rfl
/-- Whether a name begins with a dollar sign. -/
def dolB (s : ByteArray) : Bool := decide (1 ≤ s.size) && ((s.extract 0 1).toList == [36])
theorem hasPre_any (s : ByteArray) (w : World) (hs : s.size ≤ 1000000000) : Calls Tryd.prog 92 #[.string s, .string ⟨#[36]⟩] w fun e w' => e = .returned (.bool (dolB s)) ∧ w' = w := by
  have HR : Hid (dolB s = (decide (1 ≤ s.size) && ((s.extract 0 1).toList == [36]))) := rfl
  have HF : Hid (∀ b, b = dolB s → Ending.returned (.bool b) = .returned (.bool (dolB s))) := fun b h => ret_bool h
  obtain ⟨n, en⟩ : ∃ n, n = s.size := ⟨_, rfl⟩
  by_cases h1 : 1 ≤ s.size
  · have e1 : decide (1 ≤ s.size) = true := by simpa using h1
    rw [e1] at HR
    have h1' : decide ((1 : Int) ≤ (s.size : Int)) = true := by simp; omega
    cases h2 : ((s.extract 0 1).toList == [36])
    all_goals
      rw [h2] at HR
      go_enter Tryd.func92, Tryd.ntmps92
      go_wp2_with fail
      go_ret
      exact ⟨HF.out _ HR.out.symm, rfl⟩
  · have e1 : decide (1 ≤ s.size) = false := by simpa using h1
    rw [e1] at HR
    have h1' : decide ((1 : Int) ≤ (s.size : Int)) = false := by simp; omega
    go_enter Tryd.func92, Tryd.ntmps92
    go_wp2_with fail
    go_ret
    exact ⟨HF.out _ HR.out.symm, rfl⟩
theorem hasPrefixS_any (s : ByteArray) (w : World) (hs : s.size ≤ 1000000000) : Calls Tryd.prog 83 #[.string s, .string ⟨#[36]⟩] w fun e w' => e = .returned (.bool (dolB s)) ∧ w' = w := by
  have H := hasPre_any s w hs
  clear hs
  go_enter Tryd.func83, Tryd.ntmps83
  go_wp2_with (go_at_call 92; refine H.mono ?_; rintro e w' ⟨rfl, rfl⟩)
  go_ret
  exact ⟨rfl, rfl⟩
theorem isNew_any (s : ByteArray) (a : Int) (w : World) (hs : s.size ≤ 1000000000) : Calls Tryd.prog 66 #[.agg #[.string s, .int .i64 a]] w fun e w' => e = .returned (.bool (dolB s)) ∧ Below w.heap.size w w' := by
  have H := fun W => hasPrefixS_any s W hs
  clear hs
  go_enter Tryd.func66, Tryd.ntmps66
  go_wp2_with (go_at_call 83; refine (H _).mono ?_; rintro e w' ⟨rfl, rfl⟩)
  go_ret
  exact ⟨rfl, (Below.refl _ _).alloc (Nat.le_refl _) _⟩

/-- Whether goals of this name and arity are constructs. -/
def conB (s : ByteArray) (a : Int) : Bool := if s.toList == [44] || s.toList == [59] || s.toList == [45, 62] || s.toList == [102, 111, 114, 97, 108, 108] then a == 2 else if s.toList == [92, 43] || s.toList == [111, 110, 99, 101] then a == 1 else if s.toList == [33] then a == 0 else false
set_option maxRecDepth 100000 in
theorem isConstruct_any (s : ByteArray) (a : Int) (w : World) : Calls Tryd.prog 67 #[.agg #[.string s, .int .i64 a]] w fun e w' => e = .returned (.bool (conB s a)) ∧ Below w.heap.size w w' := by
  have HB : Hid (∀ o, Below w.heap.size w (w.alloc o)) := fun o => (Below.refl _ _).alloc (Nat.le_refl _) _
  have HF : Hid (∀ b, b = conB s a → Ending.returned (.bool b) = .returned (.bool (conB s a))) := fun b h => ret_bool h
  have HR : Hid (conB s a = (if s.toList == [44] || s.toList == [59] || s.toList == [45, 62] || s.toList == [102, 111, 114, 97, 108, 108] then a == 2 else if s.toList == [92, 43] || s.toList == [111, 110, 99, 101] then a == 1 else if s.toList == [33] then a == 0 else false)) := rfl
  cases h0 : (s.toList == [44])
  rotate_left
  · rw [h0] at HR
    go_enter Tryd.func67, Tryd.ntmps67
    go_wp2_with fail
    go_ret
    exact ⟨HF.out _ (by rw [HR.out]; first | rfl | (rw [Bool.eq_iff_iff]; simp)), HB.out _⟩
  cases h1 : (s.toList == [59])
  rotate_left
  · rw [h0, h1] at HR
    go_enter Tryd.func67, Tryd.ntmps67
    go_wp2_with fail
    go_ret
    exact ⟨HF.out _ (by rw [HR.out]; first | rfl | (rw [Bool.eq_iff_iff]; simp)), HB.out _⟩
  cases h2 : (s.toList == [45, 62])
  rotate_left
  · rw [h0, h1, h2] at HR
    go_enter Tryd.func67, Tryd.ntmps67
    go_wp2_with fail
    go_ret
    exact ⟨HF.out _ (by rw [HR.out]; first | rfl | (rw [Bool.eq_iff_iff]; simp)), HB.out _⟩
  cases h3 : (s.toList == [102, 111, 114, 97, 108, 108])
  rotate_left
  · rw [h0, h1, h2, h3] at HR
    go_enter Tryd.func67, Tryd.ntmps67
    go_wp2_with fail
    go_ret
    exact ⟨HF.out _ (by rw [HR.out]; first | rfl | (rw [Bool.eq_iff_iff]; simp)), HB.out _⟩
  cases h4 : (s.toList == [92, 43])
  rotate_left
  · rw [h0, h1, h2, h3, h4] at HR
    go_enter Tryd.func67, Tryd.ntmps67
    go_wp2_with fail
    go_ret
    exact ⟨HF.out _ (by rw [HR.out]; first | rfl | (rw [Bool.eq_iff_iff]; simp)), HB.out _⟩
  cases h5 : (s.toList == [111, 110, 99, 101])
  rotate_left
  · rw [h0, h1, h2, h3, h4, h5] at HR
    go_enter Tryd.func67, Tryd.ntmps67
    go_wp2_with fail
    go_ret
    exact ⟨HF.out _ (by rw [HR.out]; first | rfl | (rw [Bool.eq_iff_iff]; simp)), HB.out _⟩
  cases h6 : (s.toList == [33])
  rotate_left
  · rw [h0, h1, h2, h3, h4, h5, h6] at HR
    go_enter Tryd.func67, Tryd.ntmps67
    go_wp2_with fail
    go_ret
    exact ⟨HF.out _ (by rw [HR.out]; first | rfl | (rw [Bool.eq_iff_iff]; simp)), HB.out _⟩
  rw [h0, h1, h2, h3, h4, h5, h6] at HR
  go_enter Tryd.func67, Tryd.ntmps67
  go_wp2_with fail
  go_ret
  exact ⟨HF.out _ (by rw [HR.out]; first | rfl | (rw [Bool.eq_iff_iff]; simp)), HB.out _⟩

set_option maxRecDepth 100000 in
theorem nbFO_atom (s : ByteArray) (w : World) : Calls Tryd.prog 33 #[.iface 82 (.string s)] w fun e w' => e = .returned (.tuple #[.agg #[.string s, .int .i64 0], .bool true]) ∧ Below w.heap.size w w' := by
  have n1 := nbA_atom_atom
  have HC : Hid (∀ W, Calls Tryd.prog 56 #[.string s] W fun e w' => e = .returned (.agg #[.string s, .int .i64 0]) ∧ Below W.heap.size W w') := fun W => nbFunAtom s W
  go_enter Tryd.func33, Tryd.ntmps33
  go_wp2_with fail
  refine (HC.out _).mono ?_
  rintro e w1 ⟨rfl, hb⟩
  have k := hb.block w.heap.size (by simp)
  rw [heap_alloc_new] at k
  obtain ⟨c0, c1, f0, f1⟩ := two_cells k
  have HB : Hid (Below w.heap.size w w1) := ((Below.refl _ _).alloc (Nat.le_refl _) _).trans (hb.mono (by simp))
  clear hb k HC
  go_wp2_with fail
  exact bodyPost_ret (v := .tuple #[.agg #[.string s, .int .i64 0], .bool true]) (by simp [results, Tryd.results33, go_sem, c0, c1]) rfl ⟨rfl, (HB.out.setCell (Nat.le_refl _) _).setCell (Nat.le_refl _) _⟩
set_option maxRecDepth 100000 in
theorem nbFO_comp (b g q : Nat) (s : ByteArray) (w : World) (h0 : w.cell? ⟨b, 0, none⟩ = some (.string s)) (h1 : w.cell? ⟨b, 1, none⟩ = some (.slice (some ⟨g, 0, none⟩) q q)) : Calls Tryd.prog 33 #[.iface 84 (.pointer (some ⟨b, 0, none⟩))] w fun e w' => e = .returned (.tuple #[.agg #[.string s, .int .i64 q], .bool true]) ∧ Below w.heap.size w w' := by
  have n1 := nbA_comp_atom
  have n2 := nbA_comp_comp
  have HC : Hid (∀ W, Below w.heap.size w W → Calls Tryd.prog 57 #[.pointer (some ⟨b, 0, none⟩)] W fun e w' => e = .returned (.agg #[.string s, .int .i64 q]) ∧ Below W.heap.size W w') := fun W hW => functor_any b g q s W ((hW.cell (World.block_lt_of_cell? _ _ h0)).trans h0) ((hW.cell (World.block_lt_of_cell? _ _ h1)).trans h1)
  clear h0 h1
  go_enter Tryd.func33, Tryd.ntmps33
  go_wp2_with fail
  refine (HC.out _ ((Below.refl _ _).alloc (Nat.le_refl _) _)).mono ?_
  rintro e w1 ⟨rfl, hb⟩
  have k := hb.block w.heap.size (by simp)
  rw [heap_alloc_new] at k
  obtain ⟨c0, c1, f0, f1⟩ := two_cells k
  have HB : Hid (Below w.heap.size w w1) := ((Below.refl _ _).alloc (Nat.le_refl _) _).trans (hb.mono (by simp))
  clear hb k HC
  go_wp2_with fail
  exact bodyPost_ret (v := .tuple #[.agg #[.string s, .int .i64 q], .bool true]) (by simp [results, Tryd.results33, go_sem, c0, c1]) rfl ⟨rfl, (HB.out.setCell (Nat.le_refl _) _).setCell (Nat.le_refl _) _⟩
set_option maxRecDepth 100000 in
theorem nbFO_var (x : Value) (w : World) : Calls Tryd.prog 33 #[.iface 90 x] w fun e w' => e = .returned (.tuple #[.agg #[.string ⟨#[]⟩, .int .i64 0], .bool false]) ∧ Below w.heap.size w w' := by
  have n1 := nbA_var_atom
  have n2 := nbA_var_comp
  go_enter Tryd.func33, Tryd.ntmps33
  go_wp2_with fail
  exact bodyPost_ret (v := .tuple #[.agg #[.string ⟨#[]⟩, .int .i64 0], .bool false]) (by simp [results, Tryd.results33, go_sem]) rfl ⟨rfl, (Below.refl _ _).alloc (Nat.le_refl _) _⟩
set_option maxRecDepth 100000 in
theorem nbFO_num (x : Value) (w : World) : Calls Tryd.prog 33 #[.iface 101 x] w fun e w' => e = .returned (.tuple #[.agg #[.string ⟨#[]⟩, .int .i64 0], .bool false]) ∧ Below w.heap.size w w' := by
  have n1 := nbA_num_atom
  have n2 := nbA_num_comp
  go_enter Tryd.func33, Tryd.ntmps33
  go_wp2_with fail
  exact bodyPost_ret (v := .tuple #[.agg #[.string ⟨#[]⟩, .int .i64 0], .bool false]) (by simp [results, Tryd.results33, go_sem]) rfl ⟨rfl, (Below.refl _ _).alloc (Nat.le_refl _) _⟩

theorem callable0_any (s : ByteArray) (p : Option Addr) (c : Nat) (w : World) : Calls Tryd.prog 65 #[.string s, .slice p 0 c] w fun e w' => e = .returned (.iface 82 (.string s)) ∧ w' = w := by
  go_enter Tryd.func65, Tryd.ntmps65
  go_wp2_with fail
  go_ret
  exact ⟨rfl, rfl⟩
theorem callableN_any (s : ByteArray) (p : Option Addr) (n : Nat) (w : World) (h1 : 1 ≤ n) (h2 : n ≤ 1000) : Calls Tryd.prog 65 #[.string s, .slice p n n] w fun e w' => e = .returned (.iface 84 (.pointer (some ⟨w.heap.size, 0, none⟩))) ∧ w' = w.alloc (.cells #[.string s, .slice p n n] 87) := by
  have h1' : ((n : Int) == 0) = false := by simp; omega
  have h1'' : ¬ ((n : Int) = 0) := by omega
  go_enter Tryd.func65, Tryd.ntmps65
  go_wp2_with fail
  go_ret
  exact ⟨rfl, rfl⟩

end Go.Proofs.YtemohfhblpejmaaDoor

namespace Go.Proofs.YtemohfhblpejmaaDoor
open Go Go.RowKit
set_option linter.unusedVariables false

theorem NodeIn.imp2 {w w' : World} {B B' : Nat} {c : Cel} {K K' : List Value → Prop} {v : Value} (h : NodeIn w B c K v) (hB : B' ≤ B) (hc : ∀ p v, w.cell? p = some v → w'.cell? p = some v) (hs : w.heap.size ≤ w'.heap.size) (hK : ∀ vs, K vs → K' vs) : NodeIn w' B' c K' v := by
  rcases h with h | h | h | ⟨h, b, g, vs, hv, h1, h2, c0, c1, hg, cg, hk⟩
  · exact .inl h
  · exact .inr (.inl h)
  · exact .inr (.inr (.inl h))
  · exact .inr (.inr (.inr ⟨h, b, g, vs, hv, by omega, by omega, hc _ _ c0, hc _ _ c1, by omega, fun i hi => hc _ _ (cg i hi), hK _ hk⟩))
theorem FoIn.imp2 {w w' : World} {B B' : Nat} (hB : B' ≤ B) (hc : ∀ p v, w.cell? p = some v → w'.cell? p = some v) (hs : w.heap.size ≤ w'.heap.size) : ∀ (F : Fo) (vs : List Value), FoIn w B F vs → FoIn w' B' F vs
  | .nil, vs, h => h
  | .node c k r, vs, ⟨v, vr, e, hn, hr⟩ => ⟨v, vr, e, hn.imp2 hB hc hs (fun kv => FoIn.imp2 hB hc hs k kv), FoIn.imp2 hB hc hs r vr hr⟩

end Go.Proofs.YtemohfhblpejmaaDoor

namespace Go.Proofs.YtemohfhblpejmaaDoor
open Go Go.RowKit
set_option linter.unusedVariables false

open Classical in
/-- A world with these blocks struck out. -/
noncomputable def strikeA (A : Nat → Prop) (W : World) : World := { W with heap := W.heap.mapIdx fun i o => if A i then .deferred none else o }
theorem strikeA_size (A : Nat → Prop) (W : World) : (strikeA A W).heap.size = W.heap.size := by simp [strikeA]
open Classical in
theorem strikeA_cell {A : Nat → Prop} {W : World} {p : Addr} {v : Value} : (strikeA A W).cell? p = some v ↔ ¬ A p.block ∧ W.cell? p = some v := by
  have e : (strikeA A W).heap[p.block]? = W.heap[p.block]?.map fun o => if A p.block then .deferred none else o := by simp [strikeA]
  unfold World.cell?
  rw [e]
  by_cases h : A p.block
  · cases W.heap[p.block]? <;> simp [h]
  · cases W.heap[p.block]? <;> simp [h]
/-- Trees that keep clear of A. -/
def FoA (A : Nat → Prop) (W : World) (F : Fo) (vs : List Value) : Prop := FoIn (strikeA A W) 0 F vs
theorem FoA.foIn {A : Nat → Prop} {W : World} {F : Fo} {vs : List Value} (h : FoA A W F vs) : FoIn W 0 F vs :=
  FoIn.imp2 (Nat.le_refl _) (fun p v hp => (strikeA_cell.1 hp).2) (by rw [strikeA_size]; exact Nat.le_refl _) F vs h
/-- They stay where A is no greater and their cells are kept. -/
theorem FoA.move {A A' : Nat → Prop} {W W' : World} {F : Fo} {vs : List Value} (h : FoA A W F vs) (hA : ∀ p v, ¬ A p.block → W.cell? p = some v → ¬ A' p.block ∧ W'.cell? p = some v) (hs : W.heap.size ≤ W'.heap.size) : FoA A' W' F vs :=
  FoIn.imp2 (Nat.le_refl _) (fun p v hp => strikeA_cell.2 (hA p v (strikeA_cell.1 hp).1 (strikeA_cell.1 hp).2)) (by rw [strikeA_size, strikeA_size]; exact hs) F vs h
theorem FoIn.foA {W0 W : World} {Bt : Nat} {F : Fo} {vs : List Value} (h : FoIn W0 Bt F vs) (hb : Below W0.heap.size W0 W) {A : Nat → Prop} (hA : ∀ a, A a → W0.heap.size ≤ a) : FoA A W F vs :=
  FoIn.imp2 (Nat.zero_le _) (fun p v hp => strikeA_cell.2 ⟨fun ha => by have := hA _ ha; have := World.block_lt_of_cell? _ _ hp; omega, (hb.cell (World.block_lt_of_cell? _ _ hp)).trans hp⟩) (by rw [strikeA_size]; exact hb.size) F vs h
theorem foA_comp {A : Nat → Prop} {W : World} {n : Int} {nm : List Int} {k : Fo} {b g : Nat} {vs : List Value} (hA : ¬ A b) (hG : ¬ A g) (h0 : W.cell? ⟨b, 0, none⟩ = some (.string (strOfNums nm))) (h1 : W.cell? ⟨b, 1, none⟩ = some (.slice (some ⟨g, 0, none⟩) vs.length vs.length)) (hg : g < W.heap.size)
    (hc : ∀ i, i < vs.length → W.cell? ⟨g, i, none⟩ = some (vs.getD i .nilIface)) (hk : FoA A W k vs) : FoA A W (.node (3, n, nm) k .nil) [.iface 84 (.pointer (some ⟨b, 0, none⟩))] :=
  ⟨_, [], rfl, .inr (.inr (.inr ⟨rfl, b, g, vs, rfl, Nat.zero_le _, Nat.zero_le _, strikeA_cell.2 ⟨hA, h0⟩, strikeA_cell.2 ⟨hA, h1⟩, by rw [strikeA_size]; exact hg, fun i hi => strikeA_cell.2 ⟨hG, hc i hi⟩, hk⟩)), rfl⟩
theorem FoA.cat {A : Nat → Prop} {W : World} {F G : Fo} {vs us : List Value} (h : FoA A W F vs) (h' : FoA A W G us) : FoA A W (F.cat G) (vs ++ us) := FoIn.cat _ _ _ _ h h'
theorem foA_atom {A : Nat → Prop} {W : World} {nm : List Int} : FoA A W (.node (2, 0, nm) .nil .nil) [.iface 82 (.string (strOfNums nm))] :=
  ⟨_, [], rfl, .inr (.inr (.inl ⟨rfl, rfl⟩)), rfl⟩

end Go.Proofs.YtemohfhblpejmaaDoor

