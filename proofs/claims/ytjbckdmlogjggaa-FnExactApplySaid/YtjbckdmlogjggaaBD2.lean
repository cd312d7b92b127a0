/- Bindings that a call owns; toBindingS, eqBindingS. Own work of the verifier. -/
import Derived.Test.YtjbckdmlogjggaaBD1
import Derived.Test.YtjbckdmlogjggaaCell3
namespace Go.Proofs.Ytjbckdmlogjggaa
open Go Go.RowKit
set_option linter.unusedVariables false

theorem infoBnd : (Try.prog.info? 63).map (fun i => (i.zero, i.size, i.bytes)) = some (some (.agg #[.int .i64 0, .slice none 0 0]), 2, 32) := by kernel_rfl
def valsB (ds : List It) (bs : List Bnd) : List Value := pairRow (fun i => .int .i64 (bs.getD i Bnd.zero).1) (fun i => .slice (ds.getD i It.zero).1 (bs.getD i Bnd.zero).2.length (ds.getD i It.zero).2.1) bs.length
/-- A slice of bindings that a call owns, all of it in blocks from B on and below U. -/
structure OwnBd (w : World) (B U : Nat) (p : Option Addr) (n c : Nat) (bs : List Bnd) (ds : List It) : Prop where
  len : n = bs.length
  dlen : ds.length = bs.length
  row : w.ownsRow B 63 2 (.slice p n c) n (valsB ds bs)
  item : ∀ i, i < bs.length → OwnCU w (ds.getD i It.zero).2.2.1 (ds.getD i It.zero).2.2.2 (ds.getD i It.zero).1 (bs.getD i Bnd.zero).2.length (ds.getD i It.zero).2.1 (bs.getD i Bnd.zero).2
  low : ∀ i, i < bs.length → B ≤ (ds.getD i It.zero).2.2.1 ∧ (ds.getD i It.zero).2.2.2 ≤ U
  away : ∀ i, i < bs.length → ∀ g, Value.ownBlock (.slice p n c) = some g → g < (ds.getD i It.zero).2.2.1 ∨ (ds.getD i It.zero).2.2.2 ≤ g
  apart : ∀ i j, i < j → j < bs.length → (ds.getD i It.zero).2.2.2 ≤ (ds.getD j It.zero).2.2.1
  top : ∀ g, Value.ownBlock (.slice p n c) = some g → g < U
def OwnBB (w : World) (B U : Nat) (p : Option Addr) (n c : Nat) (bs : List Bnd) : Prop := ∃ ds, OwnBd w B U p n c bs ds
theorem OwnBB.nil (w : World) (B U : Nat) : OwnBB w B U none 0 0 [] := ⟨[], rfl, rfl, World.ownsRow_nil _ _ _ _, fun i h => by simp at h, fun i h => by simp at h, fun i h => by simp at h, fun i j _ h => by simp at h, fun g h => by cases h⟩
theorem OwnBB.bdin {w : World} {B U : Nat} {p : Option Addr} {n c : Nat} {bs : List Bnd} (h : OwnBB w B U p n c bs) : BdIn w p bs := fun hn => by
  obtain ⟨ds, h⟩ := h
  have hl := h.len
  obtain ⟨g, cap, hv, hb, hg⟩ := h.row.form (by omega)
  simp only [Value.slice.injEq, true_and] at hv
  obtain ⟨rfl, rfl⟩ := hv
  refine ⟨g, 0, rfl, fun i hi => ⟨(ds.getD i It.zero).1, (ds.getD i It.zero).2.1, ?_, ?_, (h.item i hi).toC.cin⟩⟩
  · rw [Nat.zero_add, h.row.cellAt (i * 2) (by omega)]
    exact pairRow_at0 _ _ _ _ hi
  · rw [Nat.zero_add, h.row.cellAt (i * 2 + 1) (by omega)]
    exact pairRow_at1 _ _ _ _ hi
theorem OwnBd.other {w w' : World} {B U : Nat} {p : Option Addr} {n c : Nat} {bs : List Bnd} {ds : List It} (h : OwnBd w B U p n c bs ds) (hs : w.heap.size ≤ w'.heap.size) (hb : ∀ k, k < w.heap.size → B ≤ k → k < U → w'.heap[k]? = w.heap[k]?) : OwnBd w' B U p n c bs ds := by
  refine ⟨h.len, h.dlen, ⟨h.row.1, ?_⟩, fun i hi => (h.item i hi).other hs (fun k h1 h2 h3 => hb k h1 (by have := h.low i hi; omega) (by have := h.low i hi; omega)), h.low, h.away, h.apart, h.top⟩
  rcases h.row.2 with h' | ⟨g, cap, cur, hv, hB, hg, r⟩
  · exact .inl h'
  · refine .inr ⟨g, cap, cur, hv, hB, (hb g (Array.getElem?_eq_some_iff.1 hg).1 hB (h.top g ?_)).trans hg, r⟩
    simp only [Value.slice.injEq] at hv
    rw [hv.1]; rfl
theorem OwnBB.below {w w' : World} {B U : Nat} {p : Option Addr} {n c : Nat} {bs : List Bnd} (h : OwnBB w B U p n c bs) (hb : Below w.heap.size w w') : OwnBB w' B U p n c bs := by
  obtain ⟨ds, h⟩ := h
  exact ⟨ds, h.other hb.size (fun k hk _ _ => hb.block k hk)⟩
theorem OwnBB.keep {w w' : World} {B U B' U' : Nat} {p : Option Addr} {n c : Nat} {bs : List Bnd} (h : OwnBB w B U p n c bs) (hk : Keep B' U' w w') (ho : U ≤ B' ∨ U' ≤ B) : OwnBB w' B U p n c bs := by
  obtain ⟨ds, h⟩ := h
  exact ⟨ds, h.other hk.size (fun k h1 h2 h3 => hk.block k h1 (by omega))⟩

theorem toBinding_any (v : Int) (p : Option Addr) (m cap : Nat) (cs : List Cel) (w : World) (hm : m = cs.length) (hn : cs.length + tl cs ≤ 1048576) (hin : CIn w p cs) :
    Calls Try.prog 42 #[.agg #[.int .i64 v, .slice p m cap]] w fun e w' => ∃ g, w.heap.size ≤ g ∧ e = .returned (.agg #[.int .i64 v, .slice (some ⟨g, 0, none⟩) m m]) ∧ OwnC w' g (some ⟨g, 0, none⟩) m m cs ∧ Below w.heap.size w w' := by
  have HS : Hid (∀ W, Below w.heap.size w W → Calls Try.prog 9 #[.slice p m cap] W fun e w' => e = .returned (.slice (some ⟨W.heap.size, 0, none⟩) m m) ∧ OwnC w' W.heap.size (some ⟨W.heap.size, 0, none⟩) m m cs ∧ Below W.heap.size W w') := fun W hW => by rw [hm]; exact toCellS_any p cap cs W hn (hin.below hW)
  clear hm hin
  go_enter Try.func42, Try.ntmps42
  go_wp2_with fail
  have hb0 : ∀ a b c, Below w.heap.size w (((w.alloc a).alloc b).alloc c) := fun a b c => (((Below.refl _ _).alloc (Nat.le_refl _) _).alloc (by simp) _).alloc (by simp; omega) _
  refine (HS.out _ (hb0 _ _ _)).mono ?_
  rintro e w1 ⟨rfl, hown, hb1⟩
  have k1 := (hb1.block (w.heap.size + 1) (by simp)).trans (heap_three w _ _ _).1
  have k2 := (hb1.block (w.heap.size + 1 + 1) (by simp)).trans (heap_three w _ _ _).2
  have c10 := cell_of_row _ _ 0 _ _ _ k1
  have c11 := cell_of_row _ _ 1 _ _ _ k1
  have c20 := cell_of_row _ _ 0 _ _ _ k2
  have c21 := cell_of_row _ _ 1 _ _ _ k2
  have f1 := fun j => frozen_of_row w1 (w.heap.size + 1) j _ _ k1
  have f2 := fun j => frozen_of_row w1 (w.heap.size + 1 + 1) j _ _ k2
  simp only [World.size_alloc] at hown
  have HO : Hid (OwnCU w1 (w.heap.size + 1 + 1 + 1) w1.heap.size (some ⟨w.heap.size + 1 + 1 + 1, 0, none⟩) m m cs) := hown.up
  have HB : Hid (Below w.heap.size w w1) := Below.on (hb0 _ _ _) hb1
  have HG : Hid (w.heap.size + 1 + 1 + 1 ≤ w1.heap.size) := by have := hb1.size; simp at this; exact this
  simp at c10 c11 c20 c21
  clear hown hb1 hb0 k1 k2
  have D0 : (w1.setCell ⟨w.heap.size + 1 + 1, 1, none⟩ (.slice (some ⟨w.heap.size + 1 + 1 + 1, 0, none⟩) m m)).cell? ⟨w.heap.size + 1 + 1, 0, none⟩ = some (.int .i64 v) := (World.cell?_setCell_other _ _ _ _ (by simp)).trans c20
  go_wp2_with fail
  have hne : ∀ j, (w1.setCell ⟨w.heap.size + 1 + 1, 1, none⟩ (.slice (some ⟨w.heap.size + 1 + 1 + 1, 0, none⟩) m m)).cell? ⟨w.heap.size + 1, j, none⟩ = w1.cell? ⟨w.heap.size + 1, j, none⟩ := fun j => World.cell?_setCell_other _ _ _ _ (by simp)
  have d0 : (((w1.setCell ⟨w.heap.size + 1 + 1, 1, none⟩ (.slice (some ⟨w.heap.size + 1 + 1 + 1, 0, none⟩) m m)).setCell ⟨w.heap.size + 1, 0, none⟩ (.int .i64 v)).setCell ⟨w.heap.size + 1, 1, none⟩ (.slice (some ⟨w.heap.size + 1 + 1 + 1, 0, none⟩) m m)).cell? ⟨w.heap.size + 1, 0, none⟩ = some (.int .i64 v) :=
    (World.cell?_setCell_other _ _ _ _ (by simp)).trans (World.cell?_setCell_same' _ _ _ (by rw [hne, c10]; rfl))
  have d1 : (((w1.setCell ⟨w.heap.size + 1 + 1, 1, none⟩ (.slice (some ⟨w.heap.size + 1 + 1 + 1, 0, none⟩) m m)).setCell ⟨w.heap.size + 1, 0, none⟩ (.int .i64 v)).setCell ⟨w.heap.size + 1, 1, none⟩ (.slice (some ⟨w.heap.size + 1 + 1 + 1, 0, none⟩) m m)).cell? ⟨w.heap.size + 1, 1, none⟩ = some (.slice (some ⟨w.heap.size + 1 + 1 + 1, 0, none⟩) m m) :=
    World.cell?_setCell_same' _ _ _ (by rw [World.cell?_setCell_other _ _ _ _ (by simp), hne, c11]; rfl)
  refine bodyPost_ret (v := .agg #[.int .i64 v, .slice (some ⟨w.heap.size + 1 + 1 + 1, 0, none⟩) m m]) (by simp [results, Try.results42, go_sem, d0, d1]) rfl ⟨w.heap.size + 1 + 1 + 1, by omega, rfl, ?_, ?_⟩
  · refine (HO.out.other (by simp) (fun k h1 h2 h3 => ?_)).toC
    exact (Below.heap_setCell _ _ _ _ (show k ≠ w.heap.size + 1 by omega)).trans ((Below.heap_setCell _ _ _ _ (show k ≠ w.heap.size + 1 by omega)).trans (Below.heap_setCell _ _ _ _ (show k ≠ w.heap.size + 1 + 1 by omega)))
  · exact ((HB.out.setCell (p := ⟨_, _, none⟩) (by simp; omega) _).setCell (p := ⟨_, _, none⟩) (by simp) _).setCell (p := ⟨_, _, none⟩) (by simp) _

/-- The row of which k bindings are laid. -/
def rowB (ds : List It) (bs : List Bnd) (k : Nat) : List Value := pairRow (fun i => if i < k then .int .i64 (bs.getD i Bnd.zero).1 else .int .i64 0) (fun i => if i < k then .slice (ds.getD i It.zero).1 (bs.getD i Bnd.zero).2.length (ds.getD i It.zero).2.1 else .slice none 0 0) bs.length
theorem rowB_zero (bs : List Bnd) : (madeCells #[.int .i64 0, .slice none 0 0] (bs.length * 2)).toList = rowB [] bs 0 := by
  apply List.ext_getElem?
  intro k
  rw [rowB, pairRow_get]
  by_cases h : k < bs.length * 2
  · rw [if_pos h]
    rcases Nat.mod_two_eq_zero_or_one k with e | e
    · simp [madeCells, h, e]
    · simp [madeCells, h, e]
  · rw [if_neg h, List.getElem?_eq_none (by rw [Array.length_toList, size_madeCells]; omega)]
theorem rowB_all (ds : List It) (bs : List Bnd) : rowB ds bs bs.length = valsB ds bs := pairRow_congr fun i hi => by simp [hi]
theorem rowB_next (ds : List It) (bs : List Bnd) (k : Nat) (d : It) (hk : k < bs.length) (hd : ds.length = k) : ((rowB ds bs k).set (k * 2) (.int .i64 (bs.getD k Bnd.zero).1)).set (k * 2 + 1) (.slice d.1 (bs.getD k Bnd.zero).2.length d.2.1) = rowB (ds ++ [d]) bs (k + 1) := by
  have h := pairRow_set (f := fun i => if i < k then .int .i64 (bs.getD i Bnd.zero).1 else .int .i64 0) (g := fun i => if i < k then .slice (ds.getD i It.zero).1 (bs.getD i Bnd.zero).2.length (ds.getD i It.zero).2.1 else .slice none 0 0)
    (f' := fun i => if i < k + 1 then .int .i64 (bs.getD i Bnd.zero).1 else .int .i64 0) (g' := fun i => if i < k + 1 then .slice ((ds ++ [d]).getD i It.zero).1 (bs.getD i Bnd.zero).2.length ((ds ++ [d]).getD i It.zero).2.1 else .slice none 0 0) hk (fun j hj hne => by
      by_cases h2 : j < k
      · simp only [if_pos h2, if_pos (show j < k + 1 by omega), ds_append_at ds d j (by omega), if_neg (show ¬ j = ds.length by omega), and_self]
      · simp only [if_neg h2, if_neg (show ¬ j < k + 1 by omega), and_self])
  simp only [if_pos (show k < k + 1 by omega), ds_append_at ds d k (by omega), if_pos hd.symm] at h
  exact h
/-- Bindings whose terms have no room to spare. -/
def TightBd (w : World) (p : Option Addr) (bs : List Bnd) : Prop := ∀ b o, p = some ⟨b, o, none⟩ → ∀ i, i < bs.length → ∃ q, w.cell? ⟨b, o + i * 2 + 1, none⟩ = some (.slice q (bs.getD i Bnd.zero).2.length (bs.getD i Bnd.zero).2.length)
theorem TightBd.below {w w' : World} {p : Option Addr} {bs : List Bnd} (h : TightBd w p bs) (hb : Below w.heap.size w w') : TightBd w' p bs := fun b o hp i hi => by
  obtain ⟨q, hq⟩ := h b o hp i hi
  exact ⟨q, (hb.cell (World.block_lt_of_cell? _ _ hq)).trans hq⟩

set_option maxRecDepth 100000 in
set_option maxHeartbeats 1000000 in
theorem toBd_any (p : Option Addr) (cap : Nat) (bs : List Bnd) (w : World) (hn : bs.length + tll (trm bs) ≤ 1048576) (hin : BdArg w p bs) :
    Calls Try.prog 16 #[.slice p bs.length cap] w fun e w' => e = .returned (.slice (some ⟨w.heap.size, 0, none⟩) bs.length bs.length) ∧ OwnBB w' w.heap.size w'.heap.size (some ⟨w.heap.size, 0, none⟩) bs.length bs.length bs ∧ TightBd w' (some ⟨w.heap.size, 0, none⟩) bs ∧ Below w.heap.size w w' := by
  obtain ⟨i0, hi, hz0, hz1, hz2⟩ := info_parts infoBnd
  have hmx : bs.length ≤ maxLen := by unfold maxLen; omega
  have HC : Hid (BdArg w p bs) := hin
  clear hin
  go_enter Try.func16, Try.ntmps16
  go_wp2_with (at_make; refine wpList_make_full _ rfl _ _ 32 rfl w.heap.size 63 i0 (.agg #[.int .i64 0, .slice none 0 0]) 2 Try.underlying32 hi hz0 hz1 _ _ _ _ bs.length rfl rfl rfl rfl (by rw [hz2]; omega) hmx (Nat.le_refl _) ?_; intro w1 hown hgrow)
  have HB1 : Hid (Below w.heap.size w w1) := (Below.refl _ _).grown hgrow (Nat.le_refl _) (fun k h => by cases h)
  have HO : Hid (w1.ownsRow w.heap.size 63 2 (.slice (some ⟨w.heap.size, 0, none⟩) bs.length bs.length) bs.length (rowB [] bs 0)) := by
    have := hown
    simp only [Value.cells] at this
    rw [← rowB_zero]
    exact this
  clear hown hgrow
  go_loopw [4] (fun i wr => ∃ (k : Nat) (ds : List It), k ≤ bs.length ∧ i = .int .i64 k ∧ Hid (ds.length = k ∧ ∀ i, i < k → (ds.getD i It.zero).2.1 = (bs.getD i Bnd.zero).2.length) ∧ Hid (wr.ownsRow w.heap.size 63 2 (.slice (some ⟨w.heap.size, 0, none⟩) bs.length bs.length) bs.length (rowB ds bs k)) ∧
    Hid (∀ i, i < k → OwnCU wr (ds.getD i It.zero).2.2.1 (ds.getD i It.zero).2.2.2 (ds.getD i It.zero).1 (bs.getD i Bnd.zero).2.length (ds.getD i It.zero).2.1 (bs.getD i Bnd.zero).2 ∧ w.heap.size < (ds.getD i It.zero).2.2.1 ∧ (ds.getD i It.zero).2.2.2 ≤ wr.heap.size) ∧
    Hid (∀ i j, i < j → j < k → (ds.getD i It.zero).2.2.2 ≤ (ds.getD j It.zero).2.2.1) ∧ Hid (Below w.heap.size w wr)) (fun i _ => bs.length - (intOf i).toNat)
  case atStart => exact ⟨0, [], Nat.zero_le _, rfl, ⟨rfl, fun i h => by omega⟩, HO, fun i h => by omega, fun i j _ h => by omega, HB1⟩
  case round =>
    obtain ⟨k, ds, hk, rfl, HD, HR, HIT, HAP, HB⟩ := hrel
    by_cases hlt : k < bs.length
    · obtain ⟨b, o, rfl, hcs⟩ := (HC.out.below HB.out).lies (by omega)
      obtain ⟨q, qc, d0, d1, d2⟩ := hcs k hlt
      have hbd := tll_at (trm bs) k (by rw [trm_len]; exact hlt)
      rw [trm_at] at hbd
      obtain ⟨m, em⟩ : ∃ x, x = (bs.getD k Bnd.zero).2.length := ⟨_, rfl⟩
      obtain ⟨vv, evv⟩ : ∃ x, x = (bs.getD k Bnd.zero).1 := ⟨_, rfl⟩
      have HS := toBinding_any vv q m qc (bs.getD k Bnd.zero).2 wr em (by omega) d2
      have HM : Hid (m = (bs.getD k Bnd.zero).2.length ∧ vv = (bs.getD k Bnd.zero).1) := ⟨em, evv⟩
      rw [← em] at d1
      rw [← evv] at d0
      have hHw : w.heap.size < wr.heap.size := (HR.out.lt w.heap.size rfl).2
      clear hcs d2 hbd em evv
      go_wp2_with fail
      refine HS.mono ?_
      rintro e w2 ⟨g, hg, rfl, ho2, hb2⟩
      have HR2 : Hid (w2.ownsRow w.heap.size 63 2 (.slice (some ⟨w.heap.size, 0, none⟩) bs.length bs.length) bs.length (rowB ds bs k)) := row_below HR.out hb2
      have e0 : w2.cell? ⟨w.heap.size, k * 2, none⟩ = some (.int .i64 0) := by
        rw [HR2.out.cellAt (k * 2) (by omega), rowB, pairRow_at0 _ _ _ _ hlt]; simp
      have e0' : w2.cell? ⟨w.heap.size, k * 2 + 1, none⟩ = some (.slice none 0 0) := by
        rw [HR2.out.cellAt (k * 2 + 1) (by omega), rowB, pairRow_at1 _ _ _ _ hlt]; simp
      have e1 := HR2.out.frozenAt (k * 2)
      have e1' := HR2.out.frozenAt (k * 2 + 1)
      have hw2 := hb2.size
      obtain ⟨d, ed⟩ : ∃ d : It, d = (some ⟨g, 0, none⟩, m, g, w2.heap.size) := ⟨_, rfl⟩
      have HN : Hid (∀ u v, u = Value.int .i64 vv → v = Value.slice (some ⟨g, 0, none⟩) m m → ((w2.setCell ⟨w.heap.size, k * 2, none⟩ u).setCell ⟨w.heap.size, k * 2 + 1, none⟩ v).ownsRow w.heap.size 63 2 (.slice (some ⟨w.heap.size, 0, none⟩) bs.length bs.length) bs.length (rowB (ds ++ [d]) bs (k + 1)) ∧
          (∀ i, i < k + 1 → OwnCU ((w2.setCell ⟨w.heap.size, k * 2, none⟩ u).setCell ⟨w.heap.size, k * 2 + 1, none⟩ v) ((ds ++ [d]).getD i It.zero).2.2.1 ((ds ++ [d]).getD i It.zero).2.2.2 ((ds ++ [d]).getD i It.zero).1 (bs.getD i Bnd.zero).2.length ((ds ++ [d]).getD i It.zero).2.1 (bs.getD i Bnd.zero).2 ∧
            w.heap.size < ((ds ++ [d]).getD i It.zero).2.2.1 ∧ ((ds ++ [d]).getD i It.zero).2.2.2 ≤ ((w2.setCell ⟨w.heap.size, k * 2, none⟩ u).setCell ⟨w.heap.size, k * 2 + 1, none⟩ v).heap.size) ∧
          (∀ i j, i < j → j < k + 1 → ((ds ++ [d]).getD i It.zero).2.2.2 ≤ ((ds ++ [d]).getD j It.zero).2.2.1)) := fun u v hu hv => by
        have hdl := HD.out.1
        have hset : ∀ b, w.heap.size < b → ((w2.setCell ⟨w.heap.size, k * 2, none⟩ u).setCell ⟨w.heap.size, k * 2 + 1, none⟩ v).heap[b]? = w2.heap[b]? := fun b hb => (Below.heap_setCell _ _ _ _ (show b ≠ w.heap.size by omega)).trans (Below.heap_setCell _ _ _ _ (show b ≠ w.heap.size by omega))
        have hsz : ((w2.setCell ⟨w.heap.size, k * 2, none⟩ u).setCell ⟨w.heap.size, k * 2 + 1, none⟩ v).heap.size = w2.heap.size := by simp
        refine ⟨?_, fun i hi => ?_, fun i j hij hj => ?_⟩
        · have h1 := ((HR2.out.stored (k * 2) u).1.stored (k * 2 + 1) v).1
          rw [← rowB_next ds bs k d hlt hdl, ← HM.out.1, ← HM.out.2, ed, ← hu, ← hv]
          exact h1
        · rw [ds_append_at _ _ _ (by omega)]
          by_cases e : i = k
          · rw [if_pos (by omega), e, ← HM.out.1, ed]
            exact ⟨ho2.up.other (by simp) (fun b h1 h2 h3 => hset b (by omega)), by show w.heap.size < g; omega, by rw [hsz]; exact Nat.le_refl _⟩
          · rw [if_neg (by omega)]
            have hold := HIT.out i (by omega)
            exact ⟨(hold.1.below hb2).other (by simp) (fun b h1 h2 h3 => hset b (by omega)), hold.2.1, by rw [hsz]; omega⟩
        · rw [ds_append_at _ _ _ (by omega), ds_append_at _ _ _ (by omega), if_neg (by omega)]
          by_cases e : j = k
          · rw [if_pos (by omega), ed]
            have := (HIT.out i (by omega)).2.2
            show _ ≤ g
            omega
          · rw [if_neg (by omega)]
            exact HAP.out i j hij (by omega)
      have HB2 : Hid (Below w.heap.size w w2) := Below.on HB.out hb2
      have HDL : Hid ((ds ++ [d]).length = k + 1 ∧ ∀ i, i < k + 1 → ((ds ++ [d]).getD i It.zero).2.1 = (bs.getD i Bnd.zero).2.length) := by
        have h0 := HD.out
        refine ⟨by simp [h0.1], fun i hi => ?_⟩
        rw [ds_append_at _ _ _ (by omega)]
        by_cases e : i = k
        · rw [if_pos (by omega), ed, e]; exact HM.out.1
        · rw [if_neg (by omega)]; exact h0.2 i (by omega)
      clear ho2 hb2 hw2 HS ed
      go_wp2_with fail
      go_roundw
      case rel =>
        obtain ⟨n1, n2, n3⟩ := HN.out _ _ rfl rfl
        exact ⟨k + 1, ds ++ [d], by omega, by go_num, HDL, n1, n2, n3, (HB2.out.setCell (p := ⟨w.heap.size, k * 2, none⟩) (Nat.le_refl _) _).setCell (p := ⟨w.heap.size, k * 2 + 1, none⟩) (Nat.le_refl _) _⟩
      case measure => simp [intOf]; omega
    · obtain rfl : k = bs.length := by omega
      have HFIN : Hid (OwnBB wr w.heap.size wr.heap.size (some ⟨w.heap.size, 0, none⟩) bs.length bs.length bs) := by
        have hr := HR.out
        rw [rowB_all] at hr
        refine ⟨ds, rfl, HD.out.1, hr, fun i hi => (HIT.out i hi).1, fun i hi => ⟨by have := (HIT.out i hi).2; omega, (HIT.out i hi).2.2⟩, fun i hi g hg => ?_, HAP.out, fun g hg => ?_⟩
        · have : g = w.heap.size := (Option.some.inj hg).symm
          have h2 := (HIT.out i hi).2.1
          omega
        · exact (hr.lt g hg).2
      have HTI : Hid (TightBd wr (some ⟨w.heap.size, 0, none⟩) bs) := fun b o hp i hi => by
        have hr := HR.out
        rw [rowB_all] at hr
        simp only [Option.some.injEq, Addr.mk.injEq, and_true] at hp
        obtain ⟨rfl, rfl⟩ := hp
        refine ⟨(ds.getD i It.zero).1, ?_⟩
        rw [Nat.zero_add, hr.cellAt (i * 2 + 1) (by omega), valsB, pairRow_at1 _ _ _ _ hi, HD.out.2 i hi]
      go_wp2_with fail
      go_ret
      exact ⟨rfl, HFIN.out, HTI.out, HB.out⟩

/-- Equal bindings are found equal. -/
theorem eqBinding_any (v : Int) (p q : Option Addr) (m c1 c2 : Nat) (cs : List Cel) (w : World) (hm : m = cs.length) (hn : cs.length + tl cs ≤ 1000000000) (hx : CIn w p cs) (hy : CIn w q cs) :
    Calls Try.prog 49 #[.agg #[.int .i64 v, .slice p m c1], .agg #[.int .i64 v, .slice q m c2]] w fun e w' => e = .returned (.bool true) ∧ Below w.heap.size w w' := by
  have HS : Hid (∀ W, Below w.heap.size w W → Calls Try.prog 11 #[.slice p m c1, .slice q m c2] W fun e w' => e = .returned (.bool true) ∧ Below W.heap.size W w') := fun W hW => by
    have := eqCellS_any p q c1 c2 cs cs W hn hn (hx.below hW) (hy.below hW)
    rw [hm]
    simpa using this
  have HB : Hid (∀ a b, Below w.heap.size w ((w.alloc a).alloc b)) := fun a b => ((Below.refl _ _).alloc (Nat.le_refl _) _).alloc (by simp) _
  clear hm hx hy
  go_enter Try.func49, Try.ntmps49
  go_wp2_with fail
  refine (HS.out _ (HB.out _ _)).mono ?_
  rintro e w1 ⟨rfl, hb1⟩
  have HB1 : Hid _ := Below.on (HB.out _ _) hb1
  clear hb1
  go_wp2_with fail
  go_ret
  exact ⟨rfl, HB1.out⟩

set_option maxRecDepth 100000 in
theorem eqBd_any (p q : Option Addr) (n m c1 c2 : Nat) (bs : List Bnd) (w : World) (hn : n = bs.length) (hm : m = bs.length) (hl : bs.length + tll (trm bs) ≤ 100000000) (hx : BdIn w p bs) (hy : BdIn w q bs) :
    Calls Try.prog 18 #[.slice p n c1, .slice q m c2] w fun e w' => e = .returned (.bool true) ∧ Below w.heap.size w w' := by
  obtain rfl : n = m := by omega
  have HX : Hid (BdIn w p bs ∧ BdIn w q bs) := ⟨hx, hy⟩
  have HN : Hid (n = bs.length) := hn
  have hnb : n ≤ 100000000 := by omega
  clear hx hy hn hm
  go_enter Try.func18, Try.ntmps18
  go_wp2_with fail
  go_loopw [5] (fun i wr => ∃ (k : Nat), k ≤ n ∧ i = .int .i64 k ∧ Hid (Below w.heap.size w wr)) (fun i _ => n - (intOf i).toNat)
  case atStart => exact ⟨0, Nat.zero_le _, rfl, Below.refl _ _⟩
  case round =>
    obtain ⟨k, hk, rfl, HB⟩ := hrel
    by_cases hlt : k < n
    · have hkl : k < bs.length := by rw [← HN.out]; exact hlt
      obtain ⟨b, o, rfl, hcx⟩ := (HX.out.1.below HB.out) (by omega)
      obtain ⟨b', o', rfl, hcy⟩ := (HX.out.2.below HB.out) (by omega)
      obtain ⟨q1, e1, d0, d1, d2⟩ := hcx k hkl
      obtain ⟨q2, e2, d0', d1', d2'⟩ := hcy k hkl
      have hbd := tll_at (trm bs) k (by rw [trm_len]; exact hkl)
      rw [trm_at] at hbd
      obtain ⟨m, em⟩ : ∃ x, x = (bs.getD k Bnd.zero).2.length := ⟨_, rfl⟩
      obtain ⟨vv, evv⟩ : ∃ x, x = (bs.getD k Bnd.zero).1 := ⟨_, rfl⟩
      have HS : Hid (∀ W, Below wr.heap.size wr W → Calls Try.prog 49 #[.agg #[.int .i64 vv, .slice q1 m e1], .agg #[.int .i64 vv, .slice q2 m e2]] W fun e w' => e = .returned (.bool true) ∧ Below W.heap.size W w') := fun W hW => eqBinding_any vv q1 q2 m e1 e2 _ W em (by omega) (d2.below hW) (d2'.below hW)
      rw [← em] at d1 d1'
      rw [← evv] at d0 d0'
      have hk0 : (0 : Int) ≤ (k : Int) := by omega
      have hkn : (k : Int) < (n : Int) := by omega
      clear hcx hcy d2 d2' hbd em evv
      go_wp2_with fail
      go_region_held3 (fun W => W.cell? ⟨b, o + k * 2, none⟩ = some (.int .i64 vv) ∧ W.cell? ⟨b, o + k * 2 + 1, none⟩ = some (.slice q1 m e1) ∧ W.cell? ⟨b', o' + k * 2, none⟩ = some (.int .i64 vv) ∧ W.cell? ⟨b', o' + k * 2 + 1, none⟩ = some (.slice q2 m e2)) (first | exact kc | go_keep)
        ((go_at_call 49; refine (HS.out _ (Below.refl wr.heap.size wr).drew).mono ?_; rintro e w3 ⟨rfl, hb3⟩; have hb4 : Below wr.heap.size wr w3 := ((Below.refl wr.heap.size wr).drew).trans hb3; have kc : w3.cell? ⟨b, o + k * 2, none⟩ = some (.int .i64 vv) ∧ w3.cell? ⟨b, o + k * 2 + 1, none⟩ = some (.slice q1 m e1) ∧ w3.cell? ⟨b', o' + k * 2, none⟩ = some (.int .i64 vv) ∧ w3.cell? ⟨b', o' + k * 2 + 1, none⟩ = some (.slice q2 m e2) := ⟨(hb4.cell (World.block_lt_of_cell? _ _ d0)).trans d0, (hb4.cell (World.block_lt_of_cell? _ _ d1)).trans d1, (hb4.cell (World.block_lt_of_cell? _ _ d0')).trans d0', (hb4.cell (World.block_lt_of_cell? _ _ d1')).trans d1'⟩))
      have HB3 : Hid (Below w.heap.size w w3) := Below.on HB.out hb4
      clear hb3 hb4 kc
      go_wp2_with fail
      go_roundw
      case rel => exact ⟨k + 1, by omega, by go_num, HB3⟩
      case measure => simp [intOf]; omega
    · obtain rfl : k = n := by omega
      go_wp2_with fail
      go_ret
      exact ⟨rfl, HB.out⟩

end Go.Proofs.Ytjbckdmlogjggaa
