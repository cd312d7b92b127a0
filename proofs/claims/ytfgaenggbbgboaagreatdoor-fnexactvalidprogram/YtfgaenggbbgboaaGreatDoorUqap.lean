/- Texts of VpP, NbI2, FoI, FoS, NbQ. Own work of the verifier. -/
import Derived.Test.YtfgaenggbbgboaaGreatDoorUqag
import Derived.Test.YtfgaenggbbgboaaGreatDoorUqan
import Derived.Test.YtfgaenggbbgboaaGreatDoorUqao
import Derived.Test.YtfgaenggbbgboaaGreatDoorUqal
import Derived.Test.YtfgaenggbbgboaaGreatDoorUqae
namespace Go.Proofs.YtfgaenggbbgboaaGreatDoor
open Go Go.RowKit
set_option linter.unusedVariables false
noncomputable def norB (c : Cel) (k : Fo) : Bool := by classical exact decide (normT c k = some (.node c k .nil))
theorem norB_yes {c : Cel} {k : Fo} (h : normT c k = some (.node c k .nil)) : norB c k = true := by unfold norB; simp [h]
theorem norB_no {c : Cel} {k : Fo} (h : ¬ normT c k = some (.node c k .nil)) : norB c k = false := by unfold norB; simp [h]
noncomputable def clT (nm : List Int) (ar : Int) (t : Tr) : Bool := decide (t.1 = ruleC) && (calC (kid0 t).1 && (decide ((kid0 t).1.2.2 = nm) && (decide (fA (kid0 t).1 = ar) && (norB (kid1 t).1 (kid1 t).2 && decide (renCells (t.1 :: t.2.cells) = t.1 :: t.2.cells)))))
def clP (nm : List Int) (ar : Int) (cs : List Cel) : Prop := validB cs = true ∧ ∀ c k, cs = c :: k.cells → (Fo.node c k .nil).ok → clT nm ar (c, k) = true
noncomputable def clB (nm : List Int) (ar : Int) (cs : List Cel) : Bool := by classical exact decide (clP nm ar cs)
theorem clB_of {nm : List Int} {ar : Int} {cs : List Cel} {c : Cel} {k : Fo} (hv : validB cs = true) (ex : cs = c :: k.cells) (hok : (Fo.node c k .nil).ok) : clB nm ar cs = clT nm ar (c, k) := by
  unfold clB
  cases h : clT nm ar (c, k) with
  | true =>
    have : clP nm ar cs := ⟨hv, fun c' k' e' hok' => by
      obtain ⟨rfl, rfl⟩ := tree_one (e'.symm.trans ex) hok' hok
      exact h⟩
    simp [this]
  | false =>
    have : ¬ clP nm ar cs := fun h9 => by
      have := h9.2 c k ex hok
      rw [h] at this
      cases this
    simp [this]
theorem clB_bad {nm : List Int} {ar : Int} {cs : List Cel} (hv : validB cs = false) : clB nm ar cs = false := by
  unfold clB
  have : ¬ clP nm ar cs := fun h9 => by have h8 := h9.1; rw [hv] at h8; cases h8
  simp [this]
def goP (cs : List Cel) : Prop := validB cs = true ∧ ∀ c k, cs = c :: k.cells → (Fo.node c k .nil).ok → norB c k = true
noncomputable def goB (cs : List Cel) : Bool := by classical exact decide (goP cs)
theorem goB_of {cs : List Cel} {c : Cel} {k : Fo} (hv : validB cs = true) (ex : cs = c :: k.cells) (hok : (Fo.node c k .nil).ok) : goB cs = norB c k := by
  unfold goB
  cases h : norB c k with
  | true =>
    have : goP cs := ⟨hv, fun c' k' e' hok' => by
      obtain ⟨rfl, rfl⟩ := tree_one (e'.symm.trans ex) hok' hok
      exact h⟩
    simp [this]
  | false =>
    have : ¬ goP cs := fun h9 => by
      have := h9.2 c k ex hok
      rw [h] at this
      cases this
    simp [this]
theorem goB_bad {cs : List Cel} (hv : validB cs = false) : goB cs = false := by
  unfold goB
  have : ¬ goP cs := fun h9 => by have h8 := h9.1; rw [hv] at h8; cases h8
  simp [this]
def cntP : List Prd → Nat
  | [] => 0
  | q :: r => q.2.2.2.length + cntP r
theorem cntP_take : ∀ (ps : List Prd) (k : Nat), k < ps.length → cntP (ps.take (k + 1)) = cntP (ps.take k) + (ps.getD k Prd.zero).2.2.2.length
  | [], k, h => by simp at h
  | c :: r, 0, _ => by simp [cntP]
  | c :: r, k + 1, h => by
    have := cntP_take r k (by simpa using h)
    simp only [List.take_succ_cons, cntP, this]
    simp; omega
theorem cntP_take_le : ∀ (ps : List Prd) (k : Nat), cntP (ps.take k) ≤ cntP ps
  | [], k => by simp [cntP]
  | c :: r, 0 => by simp [cntP]
  | c :: r, k + 1 => by have := cntP_take_le r k; simp only [List.take_succ_cons, cntP]; omega
theorem cntP_sz : ∀ (ps : List Prd), cntP ps ≤ szPs ps
  | [] => by simp [cntP]
  | c :: r => by have := cntP_sz r; simp only [cntP, szPs, szP]; omega
noncomputable def prB (q : Prd) : Bool := decide (q.1.length ≤ 100) && (decide (0 ≤ q.2.1) && (decide (q.2.1 ≤ 20) && (!resvB q.1 q.2.1 && q.2.2.2.all (clB q.1 q.2.1))))
def nmF (q : Prd) : List Int × Int := (q.1, q.2.1)
noncomputable def vpB (ps : List Prd) (gs : List (List Cel)) : Bool := by
  classical exact decide (ps.length ≤ 300 ∧ cntP ps + gs.length ≤ 500 ∧ (ps.map nmF).Nodup ∧ ps.all prB = true ∧ gs.all goB = true)
theorem vpB_no {ps : List Prd} {gs : List (List Cel)} (h : ¬ (ps.length ≤ 300 ∧ cntP ps + gs.length ≤ 500 ∧ (ps.map nmF).Nodup ∧ ps.all prB = true ∧ gs.all goB = true)) : vpB ps gs = false := by unfold vpB; simp only [h, decide_false]
theorem vpB_yes {ps : List Prd} {gs : List (List Cel)} (h : ps.length ≤ 300 ∧ cntP ps + gs.length ≤ 500 ∧ (ps.map nmF).Nodup ∧ ps.all prB = true ∧ gs.all goB = true) : vpB ps gs = true := by unfold vpB; simp only [h, and_self, decide_true]
end Go.Proofs.YtfgaenggbbgboaaGreatDoor

namespace Go.Proofs.YtfgaenggbbgboaaGreatDoor
open Go Go.RowKit
set_option linter.unusedVariables false
theorem callable0_any (s : ByteArray) (p : Option Addr) (c : Nat) (w : World) : Calls Tryz.prog 96 #[.string s, .slice p 0 c] w fun e w' => e = .returned (.iface 121 (.string s)) ∧ w' = w := by
  go_enter Tryz.func96, Tryz.ntmps96
  go_wp2_with fail
  go_ret
  exact ⟨rfl, rfl⟩
theorem callableN_any (s : ByteArray) (p : Option Addr) (n : Nat) (w : World) (h1 : 1 ≤ n) (h2 : n ≤ 1000) : Calls Tryz.prog 96 #[.string s, .slice p n n] w fun e w' => e = .returned (.iface 122 (.pointer (some ⟨w.heap.size, 0, none⟩))) ∧ w' = w.alloc (.cells #[.string s, .slice p n n] 124) := by
  have h1' : ((n : Int) == 0) = false := by simp; omega
  have h1'' : ¬ ((n : Int) = 0) := by omega
  go_enter Tryz.func96, Tryz.ntmps96
  go_wp2_with fail
  go_ret
  exact ⟨rfl, rfl⟩
end Go.Proofs.YtfgaenggbbgboaaGreatDoor

namespace Go.Proofs.YtfgaenggbbgboaaGreatDoor
open Go Go.RowKit
set_option linter.unusedVariables false
theorem NodeIn.imp2 {w w' : World} {B B' : Nat} {c : Cel} {K K' : List Value → Prop} {v : Value} (h : NodeIn w B c K v) (hB : B' ≤ B) (hc : ∀ p v, w.cell? p = some v → w'.cell? p = some v) (hs : w.heap.size ≤ w'.heap.size) (hK : ∀ vs, K vs → K' vs) : NodeIn w' B' c K' v := by
  rcases h with h | h | h | ⟨h, b, g, vs, hv, h1, h2, c0, c1, hg, cg, hk⟩
  · exact .inl h
  · exact .inr (.inl h)
  · exact .inr (.inr (.inl h))
  · exact .inr (.inr (.inr ⟨h, b, g, vs, hv, by omega, by omega, hc _ _ c0, hc _ _ c1, by omega, fun i hi => hc _ _ (cg i hi), hK _ hk⟩))
theorem FoIn.imp2 {w w' : World} {B B' : Nat} (hB : B' ≤ B) (hc : ∀ p v, w.cell? p = some v → w'.cell? p = some v) (hs : w.heap.size ≤ w'.heap.size) : ∀ (F : Fo) (vs : List Value), FoIn w B F vs → FoIn w' B' F vs
  | .nil, vs, h => h
  | .node c k r, vs, ⟨v, vr, e, hn, hr⟩ => ⟨v, vr, e, hn.imp2 hB hc hs (fun kv => FoIn.imp2 hB hc hs k kv), FoIn.imp2 hB hc hs r vr hr⟩
end Go.Proofs.YtfgaenggbbgboaaGreatDoor

namespace Go.Proofs.YtfgaenggbbgboaaGreatDoor
open Go Go.RowKit
set_option linter.unusedVariables false
open Classical in
noncomputable def strikeA (A : Nat → Prop) (W : World) : World := { W with heap := W.heap.mapIdx fun i o => if A i then .deferred none else o }
theorem strikeA_size (A : Nat → Prop) (W : World) : (strikeA A W).heap.size = W.heap.size := by simp [strikeA]
open Classical in
theorem strikeA_cell {A : Nat → Prop} {W : World} {p : Addr} {v : Value} : (strikeA A W).cell? p = some v ↔ ¬ A p.block ∧ W.cell? p = some v := by
  have e : (strikeA A W).heap[p.block]? = W.heap[p.block]?.map fun o => if A p.block then .deferred none else o := by simp [strikeA]
  unfold World.cell?
  rw [e]
  by_cases h : A p.block
  · cases W.heap[p.block]? <;> simp [h]
  · cases W.heap[p.block]? <;> simp [h]
def FoA (A : Nat → Prop) (W : World) (F : Fo) (vs : List Value) : Prop := FoIn (strikeA A W) 0 F vs
theorem FoA.foIn {A : Nat → Prop} {W : World} {F : Fo} {vs : List Value} (h : FoA A W F vs) : FoIn W 0 F vs :=
  FoIn.imp2 (Nat.le_refl _) (fun p v hp => (strikeA_cell.1 hp).2) (by rw [strikeA_size]; exact Nat.le_refl _) F vs h
theorem FoA.move {A A' : Nat → Prop} {W W' : World} {F : Fo} {vs : List Value} (h : FoA A W F vs) (hA : ∀ p v, ¬ A p.block → W.cell? p = some v → ¬ A' p.block ∧ W'.cell? p = some v) (hs : W.heap.size ≤ W'.heap.size) : FoA A' W' F vs :=
  FoIn.imp2 (Nat.le_refl _) (fun p v hp => strikeA_cell.2 (hA p v (strikeA_cell.1 hp).1 (strikeA_cell.1 hp).2)) (by rw [strikeA_size, strikeA_size]; exact hs) F vs h
theorem FoIn.foA {W0 W : World} {Bt : Nat} {F : Fo} {vs : List Value} (h : FoIn W0 Bt F vs) (hb : Below W0.heap.size W0 W) {A : Nat → Prop} (hA : ∀ a, A a → W0.heap.size ≤ a) : FoA A W F vs :=
  FoIn.imp2 (Nat.zero_le _) (fun p v hp => strikeA_cell.2 ⟨fun ha => by have := hA _ ha; have := World.block_lt_of_cell? _ _ hp; omega, (hb.cell (World.block_lt_of_cell? _ _ hp)).trans hp⟩) (by rw [strikeA_size]; exact hb.size) F vs h
theorem foA_comp {A : Nat → Prop} {W : World} {n : Int} {nm : List Int} {k : Fo} {b g : Nat} {vs : List Value} (hA : ¬ A b) (hG : ¬ A g) (h0 : W.cell? ⟨b, 0, none⟩ = some (.string (strOfNums nm))) (h1 : W.cell? ⟨b, 1, none⟩ = some (.slice (some ⟨g, 0, none⟩) vs.length vs.length)) (hg : g < W.heap.size)
    (hc : ∀ i, i < vs.length → W.cell? ⟨g, i, none⟩ = some (vs.getD i .nilIface)) (hk : FoA A W k vs) : FoA A W (.node (3, n, nm) k .nil) [.iface 122 (.pointer (some ⟨b, 0, none⟩))] :=
  ⟨_, [], rfl, .inr (.inr (.inr ⟨rfl, b, g, vs, rfl, Nat.zero_le _, Nat.zero_le _, strikeA_cell.2 ⟨hA, h0⟩, strikeA_cell.2 ⟨hA, h1⟩, by rw [strikeA_size]; exact hg, fun i hi => strikeA_cell.2 ⟨hG, hc i hi⟩, hk⟩)), rfl⟩
theorem FoA.cat {A : Nat → Prop} {W : World} {F G : Fo} {vs us : List Value} (h : FoA A W F vs) (h' : FoA A W G us) : FoA A W (F.cat G) (vs ++ us) := FoIn.cat _ _ _ _ h h'
theorem foA_atom {A : Nat → Prop} {W : World} {nm : List Int} : FoA A W (.node (2, 0, nm) .nil .nil) [.iface 121 (.string (strOfNums nm))] :=
  ⟨_, [], rfl, .inr (.inr (.inl ⟨rfl, rfl⟩)), rfl⟩
end Go.Proofs.YtfgaenggbbgboaaGreatDoor

namespace Go.Proofs.YtfgaenggbbgboaaGreatDoor
open Go Go.RowKit
set_option linter.unusedVariables false
theorem str_is {s : List Int} (hb : Byte s) (u : List UInt8) (t : List Int) (ht : u.map (fun x => (x.toNat : Int)) = t) : ((strOfNums s).toList == u) = (s == t) := by
  rw [Bool.eq_iff_iff, beq_iff_eq, beq_iff_eq, str_eq hb u, ht]
theorem cut_str {xs : List Int} (n : Nat) : (strOfNums xs).extract 0 n = strOfNums (xs.take n) := by
  apply ByteArray.ext
  simp [strOfNums, List.map_take]
theorem size_str (xs : List Int) : (strOfNums xs).size = xs.length := by simp [strOfNums, ByteArray.size]
theorem dol_str {s : List Int} (hb : Byte s) : dolB (strOfNums s) = dolL s := by
  unfold dolB
  rw [size_str, cut_str, str_is (fun x hx => hb x (List.mem_of_mem_take hx)) [36] [36] rfl]
  cases s with
  | nil => rfl
  | cons x r =>
    simp [dolL]
theorem con_str {s : List Int} (hb : Byte s) (n : Int) (hn : 1 ≤ n) : conB (strOfNums s) n = conC (3, n, s) := by
  unfold conB
  rw [str_is hb [44] [44] rfl, str_is hb [59] [59] rfl, str_is hb [45, 62] [45, 62] rfl, str_is hb [102, 111, 114, 97, 108, 108] nAll rfl, str_is hb [92, 43] [92, 43] rfl, str_is hb [111, 110, 99, 101] nOnce rfl, str_is hb [33] [33] rfl]
  unfold conC
  have h0 : (n == 0) = false := by simp; omega
  by_cases e1 : s = [44]
  · subst e1; simp
  by_cases e2 : s = [59]
  · subst e2; simp
  by_cases e3 : s = [45, 62]
  · subst e3; simp
  by_cases e4 : s = nAll
  · subst e4; simp
  by_cases e5 : s = [92, 43]
  · subst e5; simp
  by_cases e6 : s = nOnce
  · subst e6; simp
  simp [e1, e2, e3, e4, e5, e6, h0]
theorem con_str0 {s : List Int} (hb : Byte s) : conB (strOfNums s) 0 = (s == [33]) := by
  unfold conB
  rw [str_is hb [44] [44] rfl, str_is hb [59] [59] rfl, str_is hb [45, 62] [45, 62] rfl, str_is hb [102, 111, 114, 97, 108, 108] nAll rfl, str_is hb [92, 43] [92, 43] rfl, str_is hb [111, 110, 99, 101] nOnce rfl, str_is hb [33] [33] rfl]
  by_cases e1 : s = [44]
  · subst e1; simp
  by_cases e2 : s = [59]
  · subst e2; simp
  by_cases e3 : s = [45, 62]
  · subst e3; simp
  by_cases e4 : s = nAll
  · subst e4; simp
  by_cases e5 : s = [92, 43]
  · subst e5; simp
  by_cases e6 : s = nOnce
  · subst e6; simp
  simp [e1, e2, e3, e4, e5, e6]
  rw [Bool.eq_iff_iff]
  simp
theorem FoA.below {A : Nat → Prop} {W W' : World} {F : Fo} {vs : List Value} (h : FoA A W F vs) (hb : Below W.heap.size W W') : FoA A W' F vs :=
  h.move (fun p v hA hp => ⟨hA, (hb.cell (World.block_lt_of_cell? _ _ hp)).trans hp⟩) hb.size
theorem FoA.less {A A' : Nat → Prop} {W : World} {F : Fo} {vs : List Value} (h : FoA A W F vs) (hA : ∀ b, b < W.heap.size → A' b → A b) : FoA A' W F vs :=
  h.move (fun p v ha hp => ⟨fun h' => ha (hA _ (World.block_lt_of_cell? _ _ hp) h'), hp⟩) (Nat.le_refl _)
theorem comp_new {A : Nat → Prop} {W : World} {n : Int} {nm : List Int} {k : Fo} {g : Nat} {vs : List Value} (hA : ¬ A W.heap.size) (hG : ¬ A g) (hg : g < W.heap.size) (hc : ∀ i, i < vs.length → W.cell? ⟨g, i, none⟩ = some (vs.getD i .nilIface)) (hk : FoA A W k vs) :
    FoA A (W.alloc (.cells #[.string (strOfNums nm), .slice (some ⟨g, 0, none⟩) vs.length vs.length] 124)) (.node (3, n, nm) k .nil) [.iface 122 (.pointer (some ⟨W.heap.size, 0, none⟩))] := by
  have hal : Below W.heap.size W (W.alloc (.cells #[.string (strOfNums nm), .slice (some ⟨g, 0, none⟩) vs.length vs.length] 124)) := (Below.refl _ _).alloc (Nat.le_refl _) _
  have hnew := heap_alloc_new W (.cells #[.string (strOfNums nm), .slice (some ⟨g, 0, none⟩) vs.length vs.length] 124)
  exact foA_comp hA hG (cell_of_row _ _ 0 _ _ _ hnew) (cell_of_row _ _ 1 _ _ _ hnew) (by simp; omega) (fun i hi => Lib.cell?_alloc_marked _ (hc i hi)) (hk.below hal)
theorem comp_row {A : Nat → Prop} {W : World} {n : Int} {nm : List Int} {k : Fo} {vs : List Value} (hA : ∀ b, W.heap.size ≤ b → ¬ A b) (hk : FoA A W k vs) :
    FoA A ((W.alloc (.cells vs.toArray 59)).alloc (.cells #[.string (strOfNums nm), .slice (some ⟨W.heap.size, 0, none⟩) vs.length vs.length] 124)) (.node (3, n, nm) k .nil) [.iface 122 (.pointer (some ⟨W.heap.size + 1, 0, none⟩))] := by
  have h1 := heap_alloc_new W (.cells vs.toArray 59)
  have h := comp_new (A := A) (W := W.alloc (.cells vs.toArray 59)) (n := n) (nm := nm) (k := k) (g := W.heap.size) (vs := vs) (hA _ (by simp)) (hA _ (Nat.le_refl _)) (by simp) (fun i hi => (cell_of_row _ _ i _ _ _ h1).trans (by simp [List.getD, hi])) (hk.below ((Below.refl _ _).alloc (Nat.le_refl _) _))
  simpa using h
end Go.Proofs.YtfgaenggbbgboaaGreatDoor

