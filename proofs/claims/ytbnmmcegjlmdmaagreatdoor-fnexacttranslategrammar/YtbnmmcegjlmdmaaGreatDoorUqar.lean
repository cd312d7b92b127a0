/- Texts of MarkH, SSG, SSO, SS1. Own work of the verifier. -/
import Derived.Test.YtbnmmcegjlmdmaaGreatDoorUqaq
import Derived.Test.YtbnmmcegjlmdmaaGreatDoorUqah
import Derived.Maps.AppendAt
namespace Go.Proofs.YtbnmmcegjlmdmaaGreatDoor
open Go Go.RowKit
set_option linter.unusedVariables false
theorem heldCells_any (p : Option Addr) (n c : Nat) (k : Int) (cs : List Cel) (w : World) (h0 : 0 ≤ k) (h1 : k ≤ 10000000) (hn : cs.length + tl cs ≤ 100000000) (hl : n = cs.length) (hin : CIn w p (markC k cs)) :
    Calls Tryz.prog 10 #[.slice p n c, .int .i64 k] w fun e w' => e = .returned (.int .i64 (endC k cs)) ∧ w' = w := by
  have HI : Hid (CIn w p (markC k cs)) := hin
  have HNL : Hid (n = cs.length) := hl
  clear hin
  have hnn : n ≤ 100000000 := by omega
  clear hl
  go_enter Tryz.func10, Tryz.ntmps10
  go_wp2_with fail
  go_loop [1, 5] (fun q i => ∃ (j : Nat) (kj : Int), j ≤ n ∧ 0 ≤ kj ∧ kj ≤ 1000000000 ∧ i = .int .i64 j ∧ q = .int .i64 kj ∧ Hid (kj = kAt k cs j)) (fun _ i => n - (intOf i).toNat)
  case atStart => exact ⟨0, k, Nat.zero_le _, h0, by omega, rfl, rfl, (kAt_zero _ _).symm⟩
  case round =>
    obtain ⟨j, kj, hj, hk0, hk1, rfl, rfl, HK⟩ := hrel
    by_cases hlt : j < n
    · have hjl : j < cs.length := by rw [← HNL.out]; exact hlt
      obtain ⟨b, o, rfl, hcs⟩ := HI.out (by rw [markC, mixC_len]; omega)
      obtain ⟨q, qc, d0, d1, d2, d3⟩ := hcs j (by rw [markC, mixC_len]; exact hjl)
      have hm : (markC k cs).getD j Cel.none = markedC k cs j := by rw [markC, mixC_at _ _ _ _ hjl, if_pos hjl]
      rw [hm] at d0 d1 d2 d3
      simp only [markedC, ← HK.out, marks_len] at d0 d1 d2 d3
      have htl := tl_at cs j hjl
      have HS1 : Hid _ := kAt_succ k cs j hjl
      have hbound : kAt k cs (j + 1) ≤ 1000000000 := by have := tl_take_le cs (j + 1); simp only [kAt]; omega
      have HBD : Hid _ := hbound
      obtain ⟨tn, etn⟩ : ∃ x, x = (cs.getD j Cel.none).2.2.length := ⟨_, rfl⟩
      rw [← etn] at d2 d3 HS1
      have htn : tn ≤ 100000000 := by omega
      have hpos : ¬ (kj + 1 + 1 + (tn : Int) < 0) := by omega
      have HH := held_any q tn qc (kj + 1 + 1) w (by omega) (by omega) (by omega) d3
      clear etn hcs hm htl HI hbound d3
      go_wp2_with fail
      refine HH.mono ?_
      rintro e w3 ⟨rfl, rfl⟩
      go_wp2_with fail
      have e1 := HS1.out
      have e3 := HK.out
      have e5 := HBD.out
      go_round
      case rel => exact ⟨j + 1, kj + 1 + 1 + tn, by omega, by omega, by rw [e1] at e5; omega, by go_num, rfl, by show _ = _; rw [e1]; omega⟩
      case measure => simp [intOf]; omega
    · obtain rfl : j = n := by omega
      clear HI
      go_wp2_with fail
      go_ret
      exact ⟨ret_int (by rw [HK.out, HNL.out]; rfl), rfl⟩
end Go.Proofs.YtbnmmcegjlmdmaaGreatDoor

namespace Go.Proofs.YtbnmmcegjlmdmaaGreatDoor
open Go Go.RowKit
set_option linter.unusedVariables false
theorem infoCells : (Tryz.prog.info? 24).map (fun i => (i.zero, i.size, i.bytes)) = some (some (.slice none 0 0), 1, 24) := by kernel_rfl
abbrev It := Option Addr × Nat × Nat × Nat
def It.zero : It := (none, 0, 0, 0)
def tll : List (List Cel) → Nat
  | [] => 0
  | c :: r => c.length + tl c + tll r
theorem tll_at : ∀ (css : List (List Cel)) (i : Nat), i < css.length → (css.getD i []).length + tl (css.getD i []) ≤ tll css
  | [], i, h => by simp at h
  | c :: r, 0, _ => by simp [tll]
  | c :: r, i + 1, h => by have := tll_at r i (by simpa using h); simp only [tll, List.getD_cons_succ]; omega
theorem endC_eq (k : Int) (cs : List Cel) : endC k cs = k + 2 * cs.length + tl cs := by simp [endC, kAt]
end Go.Proofs.YtbnmmcegjlmdmaaGreatDoor

namespace Go.Proofs.YtbnmmcegjlmdmaaGreatDoor
open Go Go.RowKit
set_option linter.unusedVariables false
def CCIn (w : World) (p : Option Addr) (css : List (List Cel)) : Prop :=
  0 < css.length → ∃ b o, p = some ⟨b, o, none⟩ ∧ ∀ i, i < css.length → ∃ q c, w.cell? ⟨b, o + i, none⟩ = some (.slice q (css.getD i []).length c) ∧ CIn w q (css.getD i [])
theorem CCIn.below {W W' : World} {p : Option Addr} {css : List (List Cel)} (h : CCIn W p css) (hb : Below W.heap.size W W') : CCIn W' p css := fun hn => by
  obtain ⟨b, o, rfl, hc⟩ := h hn
  refine ⟨b, o, rfl, fun i hi => ?_⟩
  obtain ⟨q, c, h1, h2⟩ := hc i hi
  exact ⟨q, c, (hb.cell (World.block_lt_of_cell? _ _ h1)).trans h1, h2.below hb⟩
def vals (ds : List It) (css : List (List Cel)) : List Value := (List.range css.length).map fun i => .slice (ds.getD i It.zero).1 (css.getD i []).length (ds.getD i It.zero).2.1
structure OwnSS (w : World) (B U : Nat) (p : Option Addr) (n c : Nat) (css : List (List Cel)) (ds : List It) : Prop where
  len : n = css.length
  dlen : ds.length = css.length
  row : w.ownsRow B 24 1 (.slice p n c) n (vals ds css)
  item : ∀ i, i < css.length → OwnCU w (ds.getD i It.zero).2.2.1 (ds.getD i It.zero).2.2.2 (ds.getD i It.zero).1 (css.getD i []).length (ds.getD i It.zero).2.1 (css.getD i [])
  low : ∀ i, i < css.length → B ≤ (ds.getD i It.zero).2.2.1 ∧ (ds.getD i It.zero).2.2.2 ≤ U
  away : ∀ i, i < css.length → ∀ g, Value.ownBlock (.slice p n c) = some g → g < (ds.getD i It.zero).2.2.1 ∨ (ds.getD i It.zero).2.2.2 ≤ g
  apart : ∀ i j, i < j → j < css.length → (ds.getD i It.zero).2.2.2 ≤ (ds.getD j It.zero).2.2.1
  top : ∀ g, Value.ownBlock (.slice p n c) = some g → g < U
def OwnCC (w : World) (B U : Nat) (p : Option Addr) (n c : Nat) (css : List (List Cel)) : Prop := ∃ ds, OwnSS w B U p n c css ds
theorem OwnCC.nil (w : World) (B U : Nat) : OwnCC w B U none 0 0 [] := ⟨[], rfl, rfl, World.ownsRow_nil _ _ _ _, fun i h => by simp at h, fun i h => by simp at h, fun i h => by simp at h, fun i j _ h => by simp at h, fun g h => by cases h⟩
theorem OwnSS.other {w w' : World} {B U : Nat} {p : Option Addr} {n c : Nat} {css : List (List Cel)} {ds : List It} (h : OwnSS w B U p n c css ds) (hs : w.heap.size ≤ w'.heap.size) (hb : ∀ k, k < w.heap.size → B ≤ k → k < U → w'.heap[k]? = w.heap[k]?) : OwnSS w' B U p n c css ds := by
  refine ⟨h.len, h.dlen, ⟨h.row.1, ?_⟩, fun i hi => (h.item i hi).other hs (fun k h1 h2 h3 => hb k h1 (by have := h.low i hi; omega) (by have := h.low i hi; omega)), h.low, h.away, h.apart, h.top⟩
  rcases h.row.2 with h' | ⟨g, cap, cur, hv, hB, hg, r⟩
  · exact .inl h'
  · refine .inr ⟨g, cap, cur, hv, hB, (hb g (Array.getElem?_eq_some_iff.1 hg).1 hB (h.top g ?_)).trans hg, r⟩
    simp only [Value.slice.injEq] at hv
    rw [hv.1]; rfl
theorem OwnCC.below {w w' : World} {B U : Nat} {p : Option Addr} {n c : Nat} {css : List (List Cel)} (h : OwnCC w B U p n c css) (hb : Below w.heap.size w w') : OwnCC w' B U p n c css := by
  obtain ⟨ds, h⟩ := h
  exact ⟨ds, h.other hb.size (fun k hk _ _ => hb.block k hk)⟩
theorem OwnCC.keep {w w' : World} {B U B' U' : Nat} {p : Option Addr} {n c : Nat} {css : List (List Cel)} (h : OwnCC w B U p n c css) (hk : Keep B' U' w w') (ho : U ≤ B' ∨ U' ≤ B) : OwnCC w' B U p n c css := by
  obtain ⟨ds, h⟩ := h
  exact ⟨ds, h.other hk.size (fun k h1 h2 h3 => hk.block k h1 (by omega))⟩
theorem OwnCC.up {w : World} {B U U' : Nat} {p : Option Addr} {n c : Nat} {css : List (List Cel)} (h : OwnCC w B U p n c css) (hU : U ≤ U') : OwnCC w B U' p n c css := by
  obtain ⟨ds, h⟩ := h
  exact ⟨ds, h.len, h.dlen, h.row, h.item, fun i hi => ⟨(h.low i hi).1, Nat.le_trans (h.low i hi).2 hU⟩, h.away, h.apart, fun g hg => Nat.lt_of_lt_of_le (h.top g hg) hU⟩
end Go.Proofs.YtbnmmcegjlmdmaaGreatDoor

namespace Go.Proofs.YtbnmmcegjlmdmaaGreatDoor
open Go Go.RowKit
set_option linter.unusedVariables false
end Go.Proofs.YtbnmmcegjlmdmaaGreatDoor

