/- Texts of CopyT, CelB, Cell2. Own work of the verifier. -/
import Derived.Test.YtedkkghekboahaaUqaa
import Derived.Test.YtedkkghekboahaaUqab
import Derived.Test.YtedkkghekboahaaUqac
namespace Go.Proofs.Ytedkkghekboahaa
open Go Go.RowKit
set_option linter.unusedVariables false

theorem vals_set (xs : List Int) (k : Nat) (h : k < xs.length) :
    ((xs.take k).map (Value.int .u8) ++ List.replicate (xs.length - k) (Value.int .u8 0)).set k (Value.int .u8 (xs.getD k 0)) = (xs.take (k + 1)).map (Value.int .u8) ++ List.replicate (xs.length - (k + 1)) (Value.int .u8 0) := by
  rw [List.set_append_right _ _ (by simp; omega), List.take_succ_eq_append_getElem h]
  have e : k - ((xs.take k).map (Value.int IntKind.u8)).length = 0 := by simp; omega
  rw [e, show xs.length - k = (xs.length - (k + 1)) + 1 by omega, List.replicate_succ, List.set_cons_zero, List.map_append, List.append_assoc]
  simp only [List.map_cons, List.map_nil, List.singleton_append, List.getD, List.getElem?_eq_getElem h, Option.getD_some]

theorem toByteS_any (p : Option Addr) (cap : Nat) (xs : List Int) (w : World) (hn : xs.length ≤ 1048576) (hc : BIn w p xs) :
    Calls Try.prog 43 #[.slice p xs.length cap] w fun e w' => e = .returned (.slice (some ⟨w.heap.size, 0, none⟩) xs.length xs.length) ∧
      w'.ownsRow w.heap.size 5 1 (.slice (some ⟨w.heap.size, 0, none⟩) xs.length xs.length) xs.length (xs.map (Value.int .u8)) ∧ Below w.heap.size w w' := by
  obtain ⟨i0, hi, hz0, hz1, hz2⟩ := info_parts infoByte
  have hmx : xs.length ≤ maxLen := by unfold maxLen; omega
  go_enter Try.func43, Try.ntmps43
  go_wp2_with (at_make; refine wpList_make_full _ rfl _ _ 26 rfl w.heap.size 5 i0 (.int .u8 0) 1 Try.underlying26 hi hz0 hz1 _ _ _ _ xs.length rfl rfl rfl rfl (by rw [hz2]; omega) hmx (Nat.le_refl _) ?_; intro w1 hown hgrow)
  have hb1 : Below w.heap.size w w1 := (Below.refl _ _).grown hgrow (Nat.le_refl _) (fun k h => by cases h)
  have HO : Hid (w1.ownsRow w.heap.size 5 1 (.slice (some ⟨w.heap.size, 0, none⟩) xs.length xs.length) xs.length (List.replicate xs.length (Value.int .u8 0))) := by
    have := hown; simp [Value.cells, toList_madeCells_one] at this; exact this
  clear hown hgrow
  go_loopw [4] (fun i wr => ∃ k : Nat, k ≤ xs.length ∧ i = .int .i64 k ∧ Hid (wr.ownsRow w.heap.size 5 1 (.slice (some ⟨w.heap.size, 0, none⟩) xs.length xs.length) xs.length ((xs.take k).map (Value.int .u8) ++ List.replicate (xs.length - k) (Value.int .u8 0))) ∧ Below w.heap.size w wr)
    (fun i _ => xs.length - (intOf i).toNat)
  case atStart => exact ⟨0, Nat.zero_le _, rfl, by simpa using HO, hb1⟩
  case round =>
    obtain ⟨k, hk, rfl, HR, hbr⟩ := hrel
    by_cases hlt : k < xs.length
    · obtain ⟨b, o, rfl, hcs⟩ := hc (by omega)
      have hx : wr.cell? ⟨b, o + k, none⟩ = some (.int .u8 (xs.getD k 0)) := (hbr.cell (World.block_lt_of_cell? _ _ (hcs k hlt))).trans (hcs k hlt)
      have hd : wr.cell? ⟨w.heap.size, k, none⟩ = some (.int .u8 0) := by
        rw [HR.out.cellAt k (by omega), List.getElem?_append_right (by simp; omega), List.getElem?_replicate, if_pos (by simp; omega)]
      have hf := HR.out.frozenAt k
      obtain ⟨x, ex⟩ : ∃ x, x = xs.getD k 0 := ⟨_, rfl⟩
      rw [← ex] at hx
      have HX : Hid (x = xs.getD k 0) := ex
      have HB : Hid (Below w.heap.size w wr) := hbr
      clear ex hcs hc hb1 HO hbr
      go_wp2
      go_roundw
      case rel => exact ⟨k + 1, by omega, by go_num, by
        have := HR.out.stored k (.int .u8 x)
        rw [HX.out, vals_set xs k hlt] at this
        rw [HX.out]
        exact this.1, HB.out.setCell (p := ⟨w.heap.size, k, none⟩) (Nat.le_refl _) _⟩
      case measure => simp [intOf]; omega
    · obtain rfl : k = xs.length := by omega
      go_wp2
      go_ret
      exact ⟨rfl, by simpa using HR.out, hbr⟩

end Go.Proofs.Ytedkkghekboahaa

namespace Go.Proofs.Ytedkkghekboahaa
open Go Go.RowKit
set_option linter.unusedVariables false

/-- A cell as it lies: kind, number, and where the text is. -/
abbrev RC := Int × Int × Option Addr × Nat × Nat
def RC.zero : RC := (0, 0, none, 0, 0)
/-- A text of the call's own: its bytes lie at the head of a block from B on and may be written. -/
def OwnT (w : World) (B : Nat) (p : Option Addr) (n c : Nat) (ys : List Int) : Prop :=
  n = ys.length ∧ (0 < n → ∃ g, p = some ⟨g, 0, none⟩ ∧ B ≤ g ∧ g < w.heap.size ∧ ∀ i, i < n → w.cell? ⟨g, i, none⟩ = some (.int .u8 (ys.getD i 0)) ∧ w.frozen? ⟨g, i, none⟩ = false)
theorem OwnS.toT {w : World} {B : Nat} {p : Option Addr} {n c : Nat} {ys : List Int} (h : OwnS w B p n c ys) : OwnT w B p n c ys := by
  refine ⟨h.1, fun hn => ?_⟩
  rcases h.form with ⟨_, h0, _⟩ | ⟨g, rfl, hB, hlt⟩
  · omega
  · exact ⟨g, rfl, hB, hlt, fun i hi => ⟨h.row.2 i (by rw [← h.1]; exact hi), h.2.frozenAt i⟩⟩
theorem ne_block {g H n : Nat} (h : g ≠ H) : 0 < n → some (⟨g, 0, none⟩ : Addr) ≠ some ⟨H, 0, none⟩ := fun _ e => h (congrArg Addr.block (Option.some.inj e))
theorem OwnT.len {w : World} {B : Nat} {p : Option Addr} {n c : Nat} {ys : List Int} (h : OwnT w B p n c ys) : n = ys.length := h.1
theorem OwnT.bin {w : World} {B : Nat} {p : Option Addr} {n c : Nat} {ys : List Int} (h : OwnT w B p n c ys) : BIn w p ys := fun hn => by
  obtain ⟨rfl, h⟩ := h
  obtain ⟨g, rfl, _, _, hc⟩ := h hn
  exact ⟨g, 0, rfl, fun i hi => by rw [Nat.zero_add]; exact (hc i hi).1⟩
theorem OwnT.below {w w' : World} {B : Nat} {p : Option Addr} {n c : Nat} {ys : List Int} (h : OwnT w B p n c ys) (hb : Below w.heap.size w w') : OwnT w' B p n c ys := by
  refine ⟨h.1, fun hn => ?_⟩
  obtain ⟨g, e, hB, hlt, hc⟩ := h.2 hn
  exact ⟨g, e, hB, Nat.lt_of_lt_of_le hlt hb.size, fun i hi => ⟨(hb.cell (p := ⟨g, i, none⟩) hlt).trans (hc i hi).1, (hb.frozen (p := ⟨g, i, none⟩) hlt).trans (hc i hi).2⟩⟩
theorem OwnT.mono {w : World} {B B' : Nat} {p : Option Addr} {n c : Nat} {ys : List Int} (h : OwnT w B p n c ys) (hB : B' ≤ B) : OwnT w B' p n c ys := by
  refine ⟨h.1, fun hn => ?_⟩
  obtain ⟨g, e, hB', r⟩ := h.2 hn
  exact ⟨g, e, Nat.le_trans hB hB', r⟩
/-- What is done to other blocks. -/
theorem OwnT.other {w w' : World} {B : Nat} {p : Option Addr} {n c : Nat} {ys : List Int} (h : OwnT w B p n c ys) (hs : w.heap.size ≤ w'.heap.size) (ho : ∀ g, 0 < n → p = some ⟨g, 0, none⟩ → w'.heap[g]? = w.heap[g]?) : OwnT w' B p n c ys := by
  refine ⟨h.1, fun hn => ?_⟩
  obtain ⟨g, e, hB, hlt, hc⟩ := h.2 hn
  have e' := ho g hn e
  exact ⟨g, e, hB, Nat.lt_of_lt_of_le hlt hs, fun i hi => ⟨(World.cell?_of_block (w := w) e').trans (hc i hi).1, (World.frozen?_of_block (w := w) e').trans (hc i hi).2⟩⟩
theorem OwnT.setCell {w : World} {B : Nat} {p : Option Addr} {n c : Nat} {ys : List Int} (h : OwnT w B p n c ys) {a : Addr} (ha : 0 < n → p ≠ some ⟨a.block, 0, none⟩) (u : Value) : OwnT (w.setCell a u) B p n c ys :=
  h.other (by simp) (fun g hn e => Below.heap_setCell _ _ _ _ (fun e' => ha hn (by rw [e, e'])))
/-- A cell that lies so is this cell of a term; its text is the call's own. -/
def Fits (w : World) (B : Nat) (r : RC) (c : Cel) : Prop := r.1 = c.1 ∧ r.2.1 = c.2.1 ∧ OwnT w B r.2.2.1 r.2.2.2.1 r.2.2.2.2 c.2.2
/-- No text lies in the row itself, no two in one block. -/
def ApartC (p : Option Addr) (rs : List RC) : Prop :=
  (∀ i, i < rs.length → 0 < (rs.getD i RC.zero).2.2.2.1 → (rs.getD i RC.zero).2.2.1 ≠ p) ∧
  (∀ i j, i < rs.length → j < rs.length → i ≠ j → 0 < (rs.getD i RC.zero).2.2.2.1 → 0 < (rs.getD j RC.zero).2.2.2.1 → (rs.getD i RC.zero).2.2.1 ≠ (rs.getD j RC.zero).2.2.1)
theorem ownsRow_down {w : World} {B B' : Nat} {e : TypeId} {size : Nat} {v : Value} {n : Nat} {xs : List Value} (h : w.ownsRow B e size v n xs) (hB : B' ≤ B) : w.ownsRow B' e size v n xs := by
  refine ⟨h.1, ?_⟩
  rcases h.2 with h' | ⟨g, cap, cur, hv, hb, r⟩
  · exact .inl h'
  · exact .inr ⟨g, cap, cur, hv, Nat.le_trans hB hb, r⟩
theorem OwnS.mono {w : World} {B B' : Nat} {p : Option Addr} {n c : Nat} {ys : List Int} (h : OwnS w B p n c ys) (hB : B' ≤ B) : OwnS w B' p n c ys := ⟨h.1, ownsRow_down h.2 hB⟩
theorem OwnS.setCell {w : World} {B : Nat} {g n c : Nat} {ys : List Int} (h : OwnS w B (some ⟨g, 0, none⟩) n c ys) {a : Addr} (ha : a.block ≠ g) (u : Value) : OwnS (w.setCell a u) B (some ⟨g, 0, none⟩) n c ys :=
  ⟨h.1, ownsRow_setCell_other h.2 (by simp [Value.ownBlock]; exact fun e => ha e.symm) u⟩

/-- What a block of three cells holds, none of it frozen. -/
def Box3 (w : World) (b : Nat) (v0 v1 v2 : Value) : Prop := w.cell? ⟨b, 0, none⟩ = some v0 ∧ w.cell? ⟨b, 1, none⟩ = some v1 ∧ w.cell? ⟨b, 2, none⟩ = some v2 ∧ ∀ j, w.frozen? ⟨b, j, none⟩ = false
theorem Box3.of_block {w : World} {b : Nat} {v0 v1 v2 : Value} {t : TypeId} (h : w.heap[b]? = some (.cells #[v0, v1, v2] t)) : Box3 w b v0 v1 v2 :=
  ⟨by simp [World.cell?, h], by simp [World.cell?, h], by simp [World.cell?, h], fun j => frozen_of_row w b j _ t h⟩

/-- A block of three cells, all written. -/
theorem box3_set {w : World} {b : Nat} {u0 u1 u2 : Value} (c0 : w.cell? ⟨b, 0, none⟩ = some u0) (c1 : w.cell? ⟨b, 1, none⟩ = some u1) (c2 : w.cell? ⟨b, 2, none⟩ = some u2) (v0 v1 v2 : Value) :
    (((w.setCell ⟨b, 0, none⟩ v0).setCell ⟨b, 1, none⟩ v1).setCell ⟨b, 2, none⟩ v2).cell? ⟨b, 0, none⟩ = some v0 ∧ (((w.setCell ⟨b, 0, none⟩ v0).setCell ⟨b, 1, none⟩ v1).setCell ⟨b, 2, none⟩ v2).cell? ⟨b, 1, none⟩ = some v1 ∧
    (((w.setCell ⟨b, 0, none⟩ v0).setCell ⟨b, 1, none⟩ v1).setCell ⟨b, 2, none⟩ v2).cell? ⟨b, 2, none⟩ = some v2 := by
  have h := World.cell?_setCells_in b [v0, v1, v2] 0 w (fun j hj => by
    have hj' : j < 3 := hj
    rcases j with _ | _ | _ | j
    · simp [c0]
    · simp [c1]
    · simp [c2]
    · omega)
  exact ⟨h 0 (by simp), h 1 (by simp), h 2 (by simp)⟩

theorem heap_three (w : World) (a b c : Obj) : (((w.alloc a).alloc b).alloc c).heap[w.heap.size + 1]? = some b ∧ (((w.alloc a).alloc b).alloc c).heap[w.heap.size + 1 + 1]? = some c := by
  have h1 := heap_alloc_new (w.alloc a) b
  have h2 := heap_alloc_new ((w.alloc a).alloc b) c
  simp only [World.size_alloc] at h1 h2
  exact ⟨(Below.heap_alloc _ _ _ (by simp)).trans h1, h2⟩

theorem rs_set_at (rs : List RC) (i j : Nat) (r : RC) (h : i < rs.length) : (rs.set i r).getD j RC.zero = if j = i then r else rs.getD j RC.zero := by
  simp only [List.getD, List.getElem?_set]
  by_cases e : j = i
  · subst e; simp [h]
  · have : ¬ i = j := fun x => e x.symm
    simp [this, e]

theorem same_cells {xs ys : List Cel} (hl : xs.length = ys.length) (h : ∀ j, j < xs.length → xs.getD j Cel.none = ys.getD j Cel.none) : xs = ys := by
  apply List.ext_getElem hl
  intro i h1 h2
  have := h i h1
  rwa [List.getD, List.getD, List.getElem?_eq_getElem h1, List.getElem?_eq_getElem h2] at this
theorem rs_append_at (rs : List RC) (r : RC) (i : Nat) (h : i ≤ rs.length) : (rs ++ [r]).getD i RC.zero = if i = rs.length then r else rs.getD i RC.zero := by
  by_cases e : i = rs.length
  · subst e; simp [List.getD]
  · rw [if_neg e, List.getD, List.getD, List.getElem?_append_left (by omega)]
theorem cs_append_at (cs : List Cel) (c : Cel) (i : Nat) (h : i ≤ cs.length) : (cs ++ [c]).getD i Cel.none = if i = cs.length then c else cs.getD i Cel.none := by
  by_cases e : i = cs.length
  · subst e; simp [List.getD]
  · rw [if_neg e, List.getD, List.getD, List.getElem?_append_left (by omega)]
theorem row_below {B : Nat} {t : TypeId} {size n : Nat} {v : Value} {w w' : World} {xs : List Value} (h : w.ownsRow B t size v n xs) (hb : Below w.heap.size w w') : w'.ownsRow B t size v n xs := by
  refine ⟨h.1, ?_⟩
  rcases h.2 with h' | ⟨g, cap, cur, hv, hB, hg, r⟩
  · exact .inl h'
  · exact .inr ⟨g, cap, cur, hv, hB, (hb.block g (Array.getElem?_eq_some_iff.1 hg).1).trans hg, r⟩
theorem Box3.below {w w' : World} {b : Nat} {u0 u1 u2 : Value} (h : Box3 w b u0 u1 u2) (hb : Below w.heap.size w w') (hlt : b < w.heap.size) : Box3 w' b u0 u1 u2 :=
  ⟨(hb.cell (p := ⟨b, 0, none⟩) hlt).trans h.1, (hb.cell (p := ⟨b, 1, none⟩) hlt).trans h.2.1, (hb.cell (p := ⟨b, 2, none⟩) hlt).trans h.2.2.1, fun j => (hb.frozen (p := ⟨b, j, none⟩) hlt).trans (h.2.2.2 j)⟩
theorem Box3.setCell {w : World} {b : Nat} {u0 u1 u2 : Value} (h : Box3 w b u0 u1 u2) {a : Addr} (ha : a.block ≠ b) (u : Value) : Box3 (w.setCell a u) b u0 u1 u2 :=
  have o : ∀ j, (w.setCell a u).cell? ⟨b, j, none⟩ = w.cell? ⟨b, j, none⟩ := fun j => World.cell?_setCell_other _ _ _ _ (fun e => ha (by rw [e]))
  ⟨(o 0).trans h.1, (o 1).trans h.2.1, (o 2).trans h.2.2.1, fun j => by rw [World.frozen?_setCell]; exact h.2.2.2 j⟩

end Go.Proofs.Ytedkkghekboahaa

namespace Go.Proofs.Ytedkkghekboahaa
open Go Go.RowKit
set_option linter.unusedVariables false

theorem infoCell : (Try.prog.info? 31).map (fun i => (i.zero, i.size, i.bytes)) = some (some (.agg #[.int .i64 0, .int .i64 0, .slice none 0 0]), 3, 40) := by kernel_rfl

def rcV (r : RC) : List Value := [.int .i64 r.1, .int .i64 r.2.1, .slice r.2.2.1 r.2.2.2.1 r.2.2.2.2]
def flat (rs : List RC) : List Value := rs.flatMap rcV
theorem flat_cons (r : RC) (rs : List RC) : flat (r :: rs) = .int .i64 r.1 :: .int .i64 r.2.1 :: .slice r.2.2.1 r.2.2.2.1 r.2.2.2.2 :: flat rs := rfl
theorem flat_append (a b : List RC) : flat (a ++ b) = flat a ++ flat b := List.flatMap_append
theorem flat_len : ∀ rs : List RC, (flat rs).length = rs.length * 3
  | [] => rfl
  | r :: rs => by simp only [flat_cons, List.length_cons, flat_len rs]; omega
theorem flat_at : ∀ (rs : List RC) (i : Nat), i < rs.length → (flat rs)[i * 3]? = some (.int .i64 (rs.getD i RC.zero).1) ∧ (flat rs)[i * 3 + 1]? = some (.int .i64 (rs.getD i RC.zero).2.1) ∧
    (flat rs)[i * 3 + 2]? = some (.slice (rs.getD i RC.zero).2.2.1 (rs.getD i RC.zero).2.2.2.1 (rs.getD i RC.zero).2.2.2.2)
  | [], i, h => by simp at h
  | r :: rs, 0, _ => by simp [flat_cons]
  | r :: rs, i + 1, h => by
    have := flat_at rs i (by simpa using h)
    rw [flat_cons, show (i + 1) * 3 = (i * 3) + 1 + 1 + 1 by omega, show (i * 3) + 1 + 1 + 1 + 1 = (i * 3 + 1) + 1 + 1 + 1 by omega, show (i * 3) + 1 + 1 + 1 + 2 = (i * 3 + 2) + 1 + 1 + 1 by omega]
    simpa using this
theorem flat_set : ∀ (rs : List RC) (i : Nat) (r : RC), i < rs.length → (((flat rs).set (i * 3) (.int .i64 r.1)).set (i * 3 + 1) (.int .i64 r.2.1)).set (i * 3 + 2) (.slice r.2.2.1 r.2.2.2.1 r.2.2.2.2) = flat (rs.set i r)
  | [], i, r, h => by simp at h
  | a :: rs, 0, r, _ => by simp [flat_cons]
  | a :: rs, i + 1, r, h => by
    have := flat_set rs i r (by simpa using h)
    rw [flat_cons, show (i + 1) * 3 = (i * 3) + 1 + 1 + 1 by omega, show (i * 3) + 1 + 1 + 1 + 1 = (i * 3 + 1) + 1 + 1 + 1 by omega, show (i * 3) + 1 + 1 + 1 + 2 = (i * 3 + 2) + 1 + 1 + 1 by omega]
    simp only [List.set_cons_succ, this]
    rfl
theorem made_flat (n : Nat) : (madeCells #[.int .i64 0, .int .i64 0, .slice none 0 0] (n * 3)).toList = flat (List.replicate n RC.zero) := by
  apply List.ext_getElem?
  intro j
  by_cases hj : j < n * 3
  · have h := flat_at (List.replicate n RC.zero) (j / 3) (by simp; omega)
    have hz : (List.replicate n RC.zero).getD (j / 3) RC.zero = RC.zero := by simp [List.getD, List.getElem?_replicate]; split <;> rfl
    rw [hz] at h
    obtain ⟨h0, h1, h2⟩ := h
    have h3 : j % 3 = 0 ∨ j % 3 = 1 ∨ j % 3 = 2 := by omega
    rcases h3 with h3 | h3 | h3
    · rw [show j / 3 * 3 = j by omega] at h0
      rw [h0]; simp [madeCells, hj, h3, RC.zero]
    · rw [show j / 3 * 3 + 1 = j by omega] at h1
      rw [h1]; simp [madeCells, hj, h3, RC.zero]
    · rw [show j / 3 * 3 + 2 = j by omega] at h2
      rw [h2]; simp [madeCells, hj, h3, RC.zero]
  · rw [List.getElem?_eq_none (l := flat _) (by rw [flat_len]; simp; omega), List.getElem?_eq_none (by rw [Array.length_toList, size_madeCells]; omega)]

/-- A slice of cells that a call owns, with all its texts. -/
def OwnC (w : World) (B : Nat) (p : Option Addr) (n c : Nat) (cs : List Cel) : Prop :=
  n = cs.length ∧ ∃ rs : List RC, rs.length = cs.length ∧ w.ownsRow B 31 3 (.slice p n c) n (flat rs) ∧ (∀ i, i < cs.length → Fits w B (rs.getD i RC.zero) (cs.getD i Cel.none)) ∧ ApartC p rs
theorem OwnC.nil (w : World) (B : Nat) : OwnC w B none 0 0 [] := ⟨rfl, [], rfl, World.ownsRow_nil _ _ _ _, fun i h => by simp at h, fun i h => by simp at h, fun i j h => by simp at h⟩
theorem OwnC.cin {w : World} {B : Nat} {p : Option Addr} {n c : Nat} {cs : List Cel} (h : OwnC w B p n c cs) : CIn w p cs := fun hn => by
  obtain ⟨rfl, rs, hl, hr, hf, _⟩ := h
  obtain ⟨g, cap, hv, hb, hg⟩ := hr.form hn
  simp only [Value.slice.injEq, true_and] at hv
  obtain ⟨rfl, rfl⟩ := hv
  refine ⟨g, 0, rfl, fun i hi => ?_⟩
  obtain ⟨f0, f1, f2⟩ := hf i hi
  obtain ⟨a0, a1, a2⟩ := flat_at rs i (by omega)
  rw [Nat.zero_add]
  refine ⟨(rs.getD i RC.zero).2.2.1, (rs.getD i RC.zero).2.2.2.2, ?_, ?_, ?_, f2.bin⟩
  · rw [hr.cellAt _ (by omega), a0, f0]
  · rw [hr.cellAt _ (by omega), a1, f1]
  · rw [hr.cellAt _ (by omega), a2, f2.len]
theorem OwnC.below {w w' : World} {B : Nat} {p : Option Addr} {n c : Nat} {cs : List Cel} (h : OwnC w B p n c cs) (hb : Below w.heap.size w w') : OwnC w' B p n c cs := by
  obtain ⟨rfl, rs, hl, hr, hf, ha⟩ := h
  refine ⟨rfl, rs, hl, ⟨hr.1, ?_⟩, fun i hi => ⟨(hf i hi).1, (hf i hi).2.1, (hf i hi).2.2.below hb⟩, ha⟩
  rcases hr.2 with h' | ⟨g, cap, cur, hv, hB, hg, r⟩
  · exact .inl h'
  · exact .inr ⟨g, cap, cur, hv, hB, (hb.block g (Array.getElem?_eq_some_iff.1 hg).1).trans hg, r⟩

theorem OwnC.mono {w : World} {B B' : Nat} {p : Option Addr} {n c : Nat} {cs : List Cel} (h : OwnC w B p n c cs) (hB : B' ≤ B) : OwnC w B' p n c cs := by
  obtain ⟨hn, rs, hl, hr, hf, ha⟩ := h
  exact ⟨hn, rs, hl, ownsRow_down hr hB, fun i hi => ⟨(hf i hi).1, (hf i hi).2.1, (hf i hi).2.2.mono hB⟩, ha⟩
theorem toCell_any (k n : Int) (p : Option Addr) (m cap : Nat) (xs : List Int) (w : World) (hl : m = xs.length) (hn : m ≤ 1048576) (hin : BIn w p xs) :
    Calls Try.prog 13 #[.agg #[.int .i64 k, .int .i64 n, .slice p m cap]] w fun e w' => ∃ g, e = .returned (.agg #[.int .i64 k, .int .i64 n, .slice (some ⟨g, 0, none⟩) m m]) ∧ OwnS w' w.heap.size (some ⟨g, 0, none⟩) m m xs ∧ Below w.heap.size w w' := by
  have HI : Hid (BIn w p xs) := hin
  subst hl
  clear hin
  go_enter Try.func13, Try.ntmps13
  go_wp2_with fail
  have hb0 : Below w.heap.size w (((w.alloc (Obj.cells #[Value.int IntKind.i64 k, Value.int IntKind.i64 n, Value.slice p xs.length cap] 28)).alloc
          (Obj.cells #[Value.int IntKind.i64 0, Value.int IntKind.i64 0, Value.slice none 0 0] 31)).alloc
      (Obj.cells #[Value.int IntKind.i64 k, Value.int IntKind.i64 n, Value.slice none 0 0] 31)) :=
    (((Below.refl _ _).alloc (Nat.le_refl _) _).alloc (by simp) _).alloc (by simp; omega) _
  refine (toByteS_any p cap xs _ hn (HI.out.below hb0)).mono ?_
  rintro e w1 ⟨rfl, hown, hb1⟩
  have b1 : Box3 w1 (w.heap.size + 1) (.int .i64 0) (.int .i64 0) (.slice none 0 0) := Box3.of_block (t := 31) ((hb1.block _ (by simp)).trans (heap_three w _ _ _).1)
  have b2 : Box3 w1 (w.heap.size + 1 + 1) (.int .i64 k) (.int .i64 n) (.slice none 0 0) := Box3.of_block (t := 31) ((hb1.block _ (by simp)).trans (heap_three w _ _ _).2)
  have HO : Hid (OwnS w1 (w.heap.size + 1 + 1 + 1) (some ⟨w.heap.size + 1 + 1 + 1, 0, none⟩) xs.length xs.length xs) := by
    have := OwnS.of_row hown
    simp at this
    exact this
  have HB : Hid (Below w.heap.size w w1) := Below.on hb0 hb1
  obtain ⟨c10, c11, c12, f1⟩ := b1
  obtain ⟨c20, c21, c22, f2⟩ := b2
  clear hown hb1 hb0
  have D := box3_set (w := w1.setCell ⟨w.heap.size + 1 + 1, 2, none⟩ (Value.slice (some ⟨w.heap.size + 1 + 1 + 1, 0, none⟩) xs.length xs.length)) (b := w.heap.size + 1) ((World.cell?_setCell_other _ _ _ _ (by simp)).trans c10) ((World.cell?_setCell_other _ _ _ _ (by simp)).trans c11) ((World.cell?_setCell_other _ _ _ _ (by simp)).trans c12)
    (Value.int IntKind.i64 k) (Value.int IntKind.i64 n) (Value.slice (some ⟨w.heap.size + 1 + 1 + 1, 0, none⟩) xs.length xs.length)
  have HD : Hid _ := D
  clear D
  go_wp2
  obtain ⟨d0, d1, d2⟩ := HD.out
  refine bodyPost_ret (v := .agg #[.int .i64 k, .int .i64 n, .slice (some ⟨w.heap.size + 1 + 1 + 1, 0, none⟩) xs.length xs.length]) (by simp [results, Try.results13, go_sem, d0, d1, d2]) rfl ⟨_, rfl, ?_, ?_⟩
  · have h := (((HO.out.setCell (a := ⟨w.heap.size + 1 + 1, 2, none⟩) (by simp) (Value.slice (some ⟨w.heap.size + 1 + 1 + 1, 0, none⟩) xs.length xs.length)).setCell (a := ⟨w.heap.size + 1, 0, none⟩) (by simp) (Value.int IntKind.i64 k)).setCell (a := ⟨w.heap.size + 1, 1, none⟩) (by simp) (Value.int IntKind.i64 n)).setCell (a := ⟨w.heap.size + 1, 2, none⟩) (by simp) (Value.slice (some ⟨w.heap.size + 1 + 1 + 1, 0, none⟩) xs.length xs.length)
    exact h.mono (by omega)
  · exact (((HB.out.setCell (p := ⟨_, _, none⟩) (by simp; omega) _).setCell (p := ⟨_, _, none⟩) (by simp) _).setCell (p := ⟨_, _, none⟩) (by simp) _).setCell (p := ⟨_, _, none⟩) (by simp) _

/-- The rows so far: k cells are laid. -/
def Laid (w : World) (H k : Nat) (rs : List RC) (cs : List Cel) : Prop :=
  rs.length = cs.length ∧ w.ownsRow H 31 3 (.slice (some ⟨H, 0, none⟩) cs.length cs.length) cs.length (flat rs) ∧ (∀ i, i < k → Fits w H (rs.getD i RC.zero) (cs.getD i Cel.none)) ∧
  (∀ i, i < k → ∃ g, (rs.getD i RC.zero).2.2.1 = some ⟨g, 0, none⟩ ∧ H < g ∧ g < w.heap.size) ∧ (∀ i j, i < k → j < k → i ≠ j → (rs.getD i RC.zero).2.2.1 ≠ (rs.getD j RC.zero).2.2.1)
theorem Laid.below {w w' : World} {H k : Nat} {rs : List RC} {cs : List Cel} (h : Laid w H k rs cs) (hb : Below w.heap.size w w') : Laid w' H k rs cs := by
  obtain ⟨hl, hr, hf, hg, ha⟩ := h
  refine ⟨hl, ⟨hr.1, ?_⟩, fun i hi => ⟨(hf i hi).1, (hf i hi).2.1, (hf i hi).2.2.below hb⟩, fun i hi => ?_, ha⟩
  · rcases hr.2 with h' | ⟨g, cap, cur, hv, hB, hg, r⟩
    · exact .inl h'
    · exact .inr ⟨g, cap, cur, hv, hB, (hb.block g (Array.getElem?_eq_some_iff.1 hg).1).trans hg, r⟩
  · obtain ⟨g, e, h1, h2⟩ := hg i hi
    exact ⟨g, e, h1, Nat.lt_of_lt_of_le h2 hb.size⟩
theorem Laid.next {w : World} {H k g m B : Nat} {rs : List RC} {cs : List Cel} (h : Laid w H k rs cs) (hk : k < cs.length) (a b : Int) (ea : a = (cs.getD k Cel.none).1) (eb : b = (cs.getD k Cel.none).2.1) (hB : H < B)
    (ho : OwnS w B (some ⟨g, 0, none⟩) m m (cs.getD k Cel.none).2.2) (hnew : ∀ i, i < k → (rs.getD i RC.zero).2.2.1 ≠ some ⟨g, 0, none⟩) :
    Laid (((w.setCell ⟨H, k * 3, none⟩ (.int .i64 a)).setCell ⟨H, k * 3 + 1, none⟩ (.int .i64 b)).setCell ⟨H, k * 3 + 2, none⟩ (.slice (some ⟨g, 0, none⟩) m m)) H (k + 1) (rs.set k (a, b, some ⟨g, 0, none⟩, m, m)) cs := by
  obtain ⟨hl, hr, hf, hg, ha⟩ := h
  have hgB : B ≤ g ∧ g < w.heap.size := by
    rcases ho.form with ⟨h, _⟩ | ⟨g', h', h1, h2⟩
    · cases h
    · cases h'; exact ⟨h1, h2⟩
  refine ⟨by simpa using hl, ?_, fun i hi => ?_, fun i hi => ?_, fun i j hi hj hij => ?_⟩
  · have h1 := (((hr.stored (k * 3) (.int .i64 a)).1.stored (k * 3 + 1) (.int .i64 b)).1.stored (k * 3 + 2) (.slice (some ⟨g, 0, none⟩) m m)).1
    rwa [flat_set rs k (a, b, some ⟨g, 0, none⟩, m, m) (by omega)] at h1
  · rw [rs_set_at _ _ _ _ (by omega)]
    by_cases e : i = k
    · subst e
      rw [if_pos rfl]
      exact ⟨ea, eb, (((ho.toT.setCell (ne_block (H := H) (by omega)) _).setCell (ne_block (H := H) (by omega)) _).setCell (ne_block (H := H) (by omega)) _).mono (by omega)⟩
    · rw [if_neg e]
      obtain ⟨f0, f1, f2⟩ := hf i (by omega)
      obtain ⟨g', e', h1, h2⟩ := hg i (by omega)
      rw [e'] at f2
      rw [Fits, e']
      exact ⟨f0, f1, ((f2.setCell (ne_block (H := H) (by omega)) _).setCell (ne_block (H := H) (by omega)) _).setCell (ne_block (H := H) (by omega)) _⟩
  · rw [rs_set_at _ _ _ _ (by omega)]
    by_cases e : i = k
    · subst e
      rw [if_pos rfl]
      exact ⟨g, rfl, by omega, by simpa using hgB.2⟩
    · rw [if_neg e]
      obtain ⟨g', e', h1, h2⟩ := hg i (by omega)
      exact ⟨g', e', h1, by simpa using h2⟩
  · rw [rs_set_at _ _ _ _ (by omega), rs_set_at _ _ _ _ (by omega)]
    by_cases e : i = k
    · rw [if_pos e, if_neg (by omega)]
      exact fun x => hnew j (by omega) x.symm
    · by_cases e' : j = k
      · rw [if_neg e, if_pos e']
        exact hnew i (by omega)
      · rw [if_neg e, if_neg e']
        exact ha i j (by omega) (by omega) hij
theorem Laid.own {w : World} {H : Nat} {rs : List RC} {cs : List Cel} (h : Laid w H cs.length rs cs) : OwnC w H (some ⟨H, 0, none⟩) cs.length cs.length cs := by
  obtain ⟨hl, hr, hf, hg, ha⟩ := h
  refine ⟨rfl, rs, hl, hr, hf, fun i hi _ e => ?_, fun i j hi hj hij _ _ => ha i j (by omega) (by omega) hij⟩
  obtain ⟨g, e', h1, _⟩ := hg i (by omega)
  rw [e] at e'
  simp only [Option.some.injEq, Addr.mk.injEq, and_true] at e'
  omega

theorem toCellS_any (p : Option Addr) (cap : Nat) (cs : List Cel) (w : World) (hn : cs.length + tl cs ≤ 1048576) (hc : CIn w p cs) :
    Calls Try.prog 34 #[.slice p cs.length cap] w fun e w' => e = .returned (.slice (some ⟨w.heap.size, 0, none⟩) cs.length cs.length) ∧ OwnC w' w.heap.size (some ⟨w.heap.size, 0, none⟩) cs.length cs.length cs ∧ Below w.heap.size w w' := by
  obtain ⟨i0, hi, hz0, hz1, hz2⟩ := info_parts infoCell
  have hmx : cs.length ≤ maxLen := by unfold maxLen; omega
  have HC : Hid (CIn w p cs) := hc
  clear hc
  go_enter Try.func34, Try.ntmps34
  go_wp2_with (at_make; refine wpList_make_full _ rfl _ _ 34 rfl w.heap.size 31 i0 (.agg #[.int .i64 0, .int .i64 0, .slice none 0 0]) 3 Try.underlying34 hi hz0 hz1 _ _ _ _ cs.length rfl rfl rfl rfl (by rw [hz2]; omega) hmx (Nat.le_refl _) ?_; intro w1 hown hgrow)
  have HB1 : Hid (Below w.heap.size w w1) := (Below.refl _ _).grown hgrow (Nat.le_refl _) (fun k h => by cases h)
  have HO : Hid (Laid w1 w.heap.size 0 (List.replicate cs.length RC.zero) cs) := ⟨by simp, by
    have := hown
    rw [show (Value.agg #[.int .i64 0, .int .i64 0, .slice none 0 0]).cells = #[.int .i64 0, .int .i64 0, .slice none 0 0] from rfl, made_flat] at this
    exact this, fun i h => by omega, fun i h => by omega, fun i j h => by omega⟩
  clear hown hgrow
  go_loopw [4] (fun i wr => ∃ k rs, k ≤ cs.length ∧ i = .int .i64 k ∧ Hid (Laid wr w.heap.size k rs cs) ∧ Hid (Below w.heap.size w wr)) (fun i _ => cs.length - (intOf i).toNat)
  case atStart => exact ⟨0, _, Nat.zero_le _, rfl, HO, HB1⟩
  case round =>
    obtain ⟨k, rs, hk, rfl, HR, HB⟩ := hrel
    by_cases hlt : k < cs.length
    · obtain ⟨b, o, rfl, hcs⟩ := HC.out (by omega)
      obtain ⟨q, qc, h0, h1, h2, h3⟩ := (hcs k hlt).below HB.out
      have hmk : (cs.getD k Cel.none).2.2.length ≤ 1048576 := by have := tl_at cs k hlt; omega
      obtain ⟨c0, e0⟩ : ∃ x, x = (cs.getD k Cel.none).1 := ⟨_, rfl⟩
      obtain ⟨c1, e1⟩ : ∃ x, x = (cs.getD k Cel.none).2.1 := ⟨_, rfl⟩
      obtain ⟨m, em⟩ : ∃ x, x = (cs.getD k Cel.none).2.2.length := ⟨_, rfl⟩
      rw [← e0] at h0
      rw [← e1] at h1
      rw [← em] at h2 hmk
      have HE0 : Hid _ := e0
      have HE1 : Hid _ := e1
      have HS := toCell_any c0 c1 q m qc (cs.getD k Cel.none).2.2 wr em hmk h3
      clear e0 e1 em hcs h3 HC
      go_wp2_with fail
      refine HS.mono ?_
      rintro e w2 ⟨g, rfl, hown2, hb2⟩
      have HB2 : Hid (Below w.heap.size w w2) := Below.on HB.out hb2
      have HL2 : Hid (Laid w2 w.heap.size k rs cs) := HR.out.below hb2
      have HO2 : Hid (OwnS w2 wr.heap.size (some ⟨g, 0, none⟩) m m (cs.getD k Cel.none).2.2) := hown2
      have hHw : w.heap.size < wr.heap.size := by
        rcases HR.out.2.1.2 with ⟨h', _⟩ | ⟨g', cap', cur, hv, hb', hg', _⟩
        · simp at h'
        · simp only [Value.slice.injEq, Option.some.injEq, Addr.mk.injEq, and_true, true_and] at hv
          rw [hv.1]; exact (Array.getElem?_eq_some_iff.1 hg').1
      have hge : wr.heap.size ≤ g := by
        rcases hown2.form with ⟨h, _⟩ | ⟨g', h', h1', _⟩
        · cases h
        · cases h'; exact h1'
      have HN : Hid (∀ i, i < k → (rs.getD i RC.zero).2.2.1 ≠ some ⟨g, 0, none⟩) := fun i hi e => by
        obtain ⟨g', e', _, h2'⟩ := HR.out.2.2.2.1 i hi
        rw [e] at e'
        simp only [Option.some.injEq, Addr.mk.injEq, and_true] at e'
        omega
      clear hown2 hb2
      obtain ⟨a0, a1, a2⟩ := flat_at rs k (by have := HR.out.1; omega)
      have d0 := (HL2.out.2.1.cellAt (k * 3) (by omega)).trans a0
      have d1 := (HL2.out.2.1.cellAt (k * 3 + 1) (by omega)).trans a1
      have d2 := (HL2.out.2.1.cellAt (k * 3 + 2) (by omega)).trans a2
      have ff := HL2.out.2.1.frozenAt
      clear a0 a1 a2
      go_wp2
      go_roundw
      case rel => exact ⟨k + 1, _, by omega, by go_num, HL2.out.next hlt _ _ HE0.out HE1.out hHw HO2.out HN.out, ((HB2.out.setCell (p := ⟨_, _, none⟩) (Nat.le_refl _) _).setCell (p := ⟨_, _, none⟩) (Nat.le_refl _) _).setCell (p := ⟨_, _, none⟩) (Nat.le_refl _) _⟩
      case measure => simp [intOf]; omega
    · obtain rfl : k = cs.length := by omega
      clear HC
      go_wp2
      go_ret
      exact ⟨rfl, HR.out.own, HB.out⟩

end Go.Proofs.Ytedkkghekboahaa

