/- Texts of BD2, Ren1, RenN. Own work of the verifier. -/
import Derived.Test.YtedlcmkhbccjgaaUqat
import Derived.Test.YtedlcmkhbccjgaaUqae
import Derived.Test.YtedlcmkhbccjgaaUqak
namespace Go.Proofs.Ytedlcmkhbccjgaa
open Go Go.RowKit
set_option linter.unusedVariables false

theorem infoBnd : (Try.prog.info? 63).map (fun i => (i.zero, i.size, i.bytes)) = some (some (.agg #[.int .i64 0, .slice none 0 0]), 2, 32) := by kernel_rfl
def valsB (ds : List It) (bs : List Bnd) : List Value := pairRow (fun i => .int .i64 (bs.getD i Bnd.zero).1) (fun i => .slice (ds.getD i It.zero).1 (bs.getD i Bnd.zero).2.length (ds.getD i It.zero).2.1) bs.length
/-- A slice of bindings that a call owns, all of it in blocks from B on and below U. -/
structure OwnBd (w : World) (B U : Nat) (p : Option Addr) (n c : Nat) (bs : List Bnd) (ds : List It) : Prop where
  len : n = bs.length
  dlen : ds.length = bs.length
  row : w.ownsRow B 63 2 (.slice p n c) n (valsB ds bs)
  item : ∀ i, i < bs.length → OwnCU w (ds.getD i It.zero).2.2.1 (ds.getD i It.zero).2.2.2 (ds.getD i It.zero).1 (bs.getD i Bnd.zero).2.length (ds.getD i It.zero).2.1 (bs.getD i Bnd.zero).2
  low : ∀ i, i < bs.length → B ≤ (ds.getD i It.zero).2.2.1 ∧ (ds.getD i It.zero).2.2.2 ≤ U
  away : ∀ i, i < bs.length → ∀ g, Value.ownBlock (.slice p n c) = some g → g < (ds.getD i It.zero).2.2.1 ∨ (ds.getD i It.zero).2.2.2 ≤ g
  apart : ∀ i j, i < j → j < bs.length → (ds.getD i It.zero).2.2.2 ≤ (ds.getD j It.zero).2.2.1
  top : ∀ g, Value.ownBlock (.slice p n c) = some g → g < U
def OwnBB (w : World) (B U : Nat) (p : Option Addr) (n c : Nat) (bs : List Bnd) : Prop := ∃ ds, OwnBd w B U p n c bs ds
theorem OwnBB.nil (w : World) (B U : Nat) : OwnBB w B U none 0 0 [] := ⟨[], rfl, rfl, World.ownsRow_nil _ _ _ _, fun i h => by simp at h, fun i h => by simp at h, fun i h => by simp at h, fun i j _ h => by simp at h, fun g h => by cases h⟩
theorem OwnBB.bdin {w : World} {B U : Nat} {p : Option Addr} {n c : Nat} {bs : List Bnd} (h : OwnBB w B U p n c bs) : BdIn w p bs := fun hn => by
  obtain ⟨ds, h⟩ := h
  have hl := h.len
  obtain ⟨g, cap, hv, hb, hg⟩ := h.row.form (by omega)
  simp only [Value.slice.injEq, true_and] at hv
  obtain ⟨rfl, rfl⟩ := hv
  refine ⟨g, 0, rfl, fun i hi => ⟨(ds.getD i It.zero).1, (ds.getD i It.zero).2.1, ?_, ?_, (h.item i hi).toC.cin⟩⟩
  · rw [Nat.zero_add, h.row.cellAt (i * 2) (by omega)]
    exact pairRow_at0 _ _ _ _ hi
  · rw [Nat.zero_add, h.row.cellAt (i * 2 + 1) (by omega)]
    exact pairRow_at1 _ _ _ _ hi
theorem OwnBd.other {w w' : World} {B U : Nat} {p : Option Addr} {n c : Nat} {bs : List Bnd} {ds : List It} (h : OwnBd w B U p n c bs ds) (hs : w.heap.size ≤ w'.heap.size) (hb : ∀ k, k < w.heap.size → B ≤ k → k < U → w'.heap[k]? = w.heap[k]?) : OwnBd w' B U p n c bs ds := by
  refine ⟨h.len, h.dlen, ⟨h.row.1, ?_⟩, fun i hi => (h.item i hi).other hs (fun k h1 h2 h3 => hb k h1 (by have := h.low i hi; omega) (by have := h.low i hi; omega)), h.low, h.away, h.apart, h.top⟩
  rcases h.row.2 with h' | ⟨g, cap, cur, hv, hB, hg, r⟩
  · exact .inl h'
  · refine .inr ⟨g, cap, cur, hv, hB, (hb g (Array.getElem?_eq_some_iff.1 hg).1 hB (h.top g ?_)).trans hg, r⟩
    simp only [Value.slice.injEq] at hv
    rw [hv.1]; rfl
theorem OwnBB.below {w w' : World} {B U : Nat} {p : Option Addr} {n c : Nat} {bs : List Bnd} (h : OwnBB w B U p n c bs) (hb : Below w.heap.size w w') : OwnBB w' B U p n c bs := by
  obtain ⟨ds, h⟩ := h
  exact ⟨ds, h.other hb.size (fun k hk _ _ => hb.block k hk)⟩
theorem OwnBB.keep {w w' : World} {B U B' U' : Nat} {p : Option Addr} {n c : Nat} {bs : List Bnd} (h : OwnBB w B U p n c bs) (hk : Keep B' U' w w') (ho : U ≤ B' ∨ U' ≤ B) : OwnBB w' B U p n c bs := by
  obtain ⟨ds, h⟩ := h
  exact ⟨ds, h.other hk.size (fun k h1 h2 h3 => hk.block k h1 (by omega))⟩

theorem toBinding_any (v : Int) (p : Option Addr) (m cap : Nat) (cs : List Cel) (w : World) (hm : m = cs.length) (hn : cs.length + tl cs ≤ 1048576) (hin : CIn w p cs) :
    Calls Try.prog 42 #[.agg #[.int .i64 v, .slice p m cap]] w fun e w' => ∃ g, w.heap.size ≤ g ∧ e = .returned (.agg #[.int .i64 v, .slice (some ⟨g, 0, none⟩) m m]) ∧ OwnC w' g (some ⟨g, 0, none⟩) m m cs ∧ Below w.heap.size w w' := by
  have HS : Hid (∀ W, Below w.heap.size w W → Calls Try.prog 9 #[.slice p m cap] W fun e w' => e = .returned (.slice (some ⟨W.heap.size, 0, none⟩) m m) ∧ OwnC w' W.heap.size (some ⟨W.heap.size, 0, none⟩) m m cs ∧ Below W.heap.size W w') := fun W hW => by rw [hm]; exact toCellS_any p cap cs W hn (hin.below hW)
  clear hm hin
  go_enter Try.func42, Try.ntmps42
  go_wp2_with fail
  have hb0 : ∀ a b c, Below w.heap.size w (((w.alloc a).alloc b).alloc c) := fun a b c => (((Below.refl _ _).alloc (Nat.le_refl _) _).alloc (by simp) _).alloc (by simp; omega) _
  refine (HS.out _ (hb0 _ _ _)).mono ?_
  rintro e w1 ⟨rfl, hown, hb1⟩
  have k1 := (hb1.block (w.heap.size + 1) (by simp)).trans (heap_three w _ _ _).1
  have k2 := (hb1.block (w.heap.size + 1 + 1) (by simp)).trans (heap_three w _ _ _).2
  have c10 := cell_of_row _ _ 0 _ _ _ k1
  have c11 := cell_of_row _ _ 1 _ _ _ k1
  have c20 := cell_of_row _ _ 0 _ _ _ k2
  have c21 := cell_of_row _ _ 1 _ _ _ k2
  have f1 := fun j => frozen_of_row w1 (w.heap.size + 1) j _ _ k1
  have f2 := fun j => frozen_of_row w1 (w.heap.size + 1 + 1) j _ _ k2
  simp only [World.size_alloc] at hown
  have HO : Hid (OwnCU w1 (w.heap.size + 1 + 1 + 1) w1.heap.size (some ⟨w.heap.size + 1 + 1 + 1, 0, none⟩) m m cs) := hown.up
  have HB : Hid (Below w.heap.size w w1) := Below.on (hb0 _ _ _) hb1
  have HG : Hid (w.heap.size + 1 + 1 + 1 ≤ w1.heap.size) := by have := hb1.size; simp at this; exact this
  simp at c10 c11 c20 c21
  clear hown hb1 hb0 k1 k2
  have D0 : (w1.setCell ⟨w.heap.size + 1 + 1, 1, none⟩ (.slice (some ⟨w.heap.size + 1 + 1 + 1, 0, none⟩) m m)).cell? ⟨w.heap.size + 1 + 1, 0, none⟩ = some (.int .i64 v) := (World.cell?_setCell_other _ _ _ _ (by simp)).trans c20
  go_wp2_with fail
  have hne : ∀ j, (w1.setCell ⟨w.heap.size + 1 + 1, 1, none⟩ (.slice (some ⟨w.heap.size + 1 + 1 + 1, 0, none⟩) m m)).cell? ⟨w.heap.size + 1, j, none⟩ = w1.cell? ⟨w.heap.size + 1, j, none⟩ := fun j => World.cell?_setCell_other _ _ _ _ (by simp)
  have d0 : (((w1.setCell ⟨w.heap.size + 1 + 1, 1, none⟩ (.slice (some ⟨w.heap.size + 1 + 1 + 1, 0, none⟩) m m)).setCell ⟨w.heap.size + 1, 0, none⟩ (.int .i64 v)).setCell ⟨w.heap.size + 1, 1, none⟩ (.slice (some ⟨w.heap.size + 1 + 1 + 1, 0, none⟩) m m)).cell? ⟨w.heap.size + 1, 0, none⟩ = some (.int .i64 v) :=
    (World.cell?_setCell_other _ _ _ _ (by simp)).trans (World.cell?_setCell_same' _ _ _ (by rw [hne, c10]; rfl))
  have d1 : (((w1.setCell ⟨w.heap.size + 1 + 1, 1, none⟩ (.slice (some ⟨w.heap.size + 1 + 1 + 1, 0, none⟩) m m)).setCell ⟨w.heap.size + 1, 0, none⟩ (.int .i64 v)).setCell ⟨w.heap.size + 1, 1, none⟩ (.slice (some ⟨w.heap.size + 1 + 1 + 1, 0, none⟩) m m)).cell? ⟨w.heap.size + 1, 1, none⟩ = some (.slice (some ⟨w.heap.size + 1 + 1 + 1, 0, none⟩) m m) :=
    World.cell?_setCell_same' _ _ _ (by rw [World.cell?_setCell_other _ _ _ _ (by simp), hne, c11]; rfl)
  refine bodyPost_ret (v := .agg #[.int .i64 v, .slice (some ⟨w.heap.size + 1 + 1 + 1, 0, none⟩) m m]) (by simp [results, Try.results42, go_sem, d0, d1]) rfl ⟨w.heap.size + 1 + 1 + 1, by omega, rfl, ?_, ?_⟩
  · refine (HO.out.other (by simp) (fun k h1 h2 h3 => ?_)).toC
    exact (Below.heap_setCell _ _ _ _ (show k ≠ w.heap.size + 1 by omega)).trans ((Below.heap_setCell _ _ _ _ (show k ≠ w.heap.size + 1 by omega)).trans (Below.heap_setCell _ _ _ _ (show k ≠ w.heap.size + 1 + 1 by omega)))
  · exact ((HB.out.setCell (p := ⟨_, _, none⟩) (by simp; omega) _).setCell (p := ⟨_, _, none⟩) (by simp) _).setCell (p := ⟨_, _, none⟩) (by simp) _

/-- The row of which k bindings are laid. -/
def rowB (ds : List It) (bs : List Bnd) (k : Nat) : List Value := pairRow (fun i => if i < k then .int .i64 (bs.getD i Bnd.zero).1 else .int .i64 0) (fun i => if i < k then .slice (ds.getD i It.zero).1 (bs.getD i Bnd.zero).2.length (ds.getD i It.zero).2.1 else .slice none 0 0) bs.length
theorem rowB_zero (bs : List Bnd) : (madeCells #[.int .i64 0, .slice none 0 0] (bs.length * 2)).toList = rowB [] bs 0 := by
  apply List.ext_getElem?
  intro k
  rw [rowB, pairRow_get]
  by_cases h : k < bs.length * 2
  · rw [if_pos h]
    rcases Nat.mod_two_eq_zero_or_one k with e | e
    · simp [madeCells, h, e]
    · simp [madeCells, h, e]
  · rw [if_neg h, List.getElem?_eq_none (by rw [Array.length_toList, size_madeCells]; omega)]
theorem rowB_all (ds : List It) (bs : List Bnd) : rowB ds bs bs.length = valsB ds bs := pairRow_congr fun i hi => by simp [hi]
theorem rowB_next (ds : List It) (bs : List Bnd) (k : Nat) (d : It) (hk : k < bs.length) (hd : ds.length = k) : ((rowB ds bs k).set (k * 2) (.int .i64 (bs.getD k Bnd.zero).1)).set (k * 2 + 1) (.slice d.1 (bs.getD k Bnd.zero).2.length d.2.1) = rowB (ds ++ [d]) bs (k + 1) := by
  have h := pairRow_set (f := fun i => if i < k then .int .i64 (bs.getD i Bnd.zero).1 else .int .i64 0) (g := fun i => if i < k then .slice (ds.getD i It.zero).1 (bs.getD i Bnd.zero).2.length (ds.getD i It.zero).2.1 else .slice none 0 0)
    (f' := fun i => if i < k + 1 then .int .i64 (bs.getD i Bnd.zero).1 else .int .i64 0) (g' := fun i => if i < k + 1 then .slice ((ds ++ [d]).getD i It.zero).1 (bs.getD i Bnd.zero).2.length ((ds ++ [d]).getD i It.zero).2.1 else .slice none 0 0) hk (fun j hj hne => by
      by_cases h2 : j < k
      · simp only [if_pos h2, if_pos (show j < k + 1 by omega), ds_append_at ds d j (by omega), if_neg (show ¬ j = ds.length by omega), and_self]
      · simp only [if_neg h2, if_neg (show ¬ j < k + 1 by omega), and_self])
  simp only [if_pos (show k < k + 1 by omega), ds_append_at ds d k (by omega), if_pos hd.symm] at h
  exact h
/-- Bindings whose terms have no room to spare. -/
def TightBd (w : World) (p : Option Addr) (bs : List Bnd) : Prop := ∀ b o, p = some ⟨b, o, none⟩ → ∀ i, i < bs.length → ∃ q, w.cell? ⟨b, o + i * 2 + 1, none⟩ = some (.slice q (bs.getD i Bnd.zero).2.length (bs.getD i Bnd.zero).2.length)
theorem TightBd.below {w w' : World} {p : Option Addr} {bs : List Bnd} (h : TightBd w p bs) (hb : Below w.heap.size w w') : TightBd w' p bs := fun b o hp i hi => by
  obtain ⟨q, hq⟩ := h b o hp i hi
  exact ⟨q, (hb.cell (World.block_lt_of_cell? _ _ hq)).trans hq⟩

set_option maxRecDepth 100000 in
set_option maxHeartbeats 1000000 in
theorem toBd_any (p : Option Addr) (cap : Nat) (bs : List Bnd) (w : World) (hn : bs.length + tll (trm bs) ≤ 1048576) (hin : BdArg w p bs) :
    Calls Try.prog 16 #[.slice p bs.length cap] w fun e w' => e = .returned (.slice (some ⟨w.heap.size, 0, none⟩) bs.length bs.length) ∧ OwnBB w' w.heap.size w'.heap.size (some ⟨w.heap.size, 0, none⟩) bs.length bs.length bs ∧ TightBd w' (some ⟨w.heap.size, 0, none⟩) bs ∧ Below w.heap.size w w' := by
  obtain ⟨i0, hi, hz0, hz1, hz2⟩ := info_parts infoBnd
  have hmx : bs.length ≤ maxLen := by unfold maxLen; omega
  have HC : Hid (BdArg w p bs) := hin
  clear hin
  go_enter Try.func16, Try.ntmps16
  go_wp2_with (at_make; refine wpList_make_full _ rfl _ _ 32 rfl w.heap.size 63 i0 (.agg #[.int .i64 0, .slice none 0 0]) 2 Try.underlying32 hi hz0 hz1 _ _ _ _ bs.length rfl rfl rfl rfl (by rw [hz2]; omega) hmx (Nat.le_refl _) ?_; intro w1 hown hgrow)
  have HB1 : Hid (Below w.heap.size w w1) := (Below.refl _ _).grown hgrow (Nat.le_refl _) (fun k h => by cases h)
  have HO : Hid (w1.ownsRow w.heap.size 63 2 (.slice (some ⟨w.heap.size, 0, none⟩) bs.length bs.length) bs.length (rowB [] bs 0)) := by
    have := hown
    simp only [Value.cells] at this
    rw [← rowB_zero]
    exact this
  clear hown hgrow
  go_loopw [4] (fun i wr => ∃ (k : Nat) (ds : List It), k ≤ bs.length ∧ i = .int .i64 k ∧ Hid (ds.length = k ∧ ∀ i, i < k → (ds.getD i It.zero).2.1 = (bs.getD i Bnd.zero).2.length) ∧ Hid (wr.ownsRow w.heap.size 63 2 (.slice (some ⟨w.heap.size, 0, none⟩) bs.length bs.length) bs.length (rowB ds bs k)) ∧
    Hid (∀ i, i < k → OwnCU wr (ds.getD i It.zero).2.2.1 (ds.getD i It.zero).2.2.2 (ds.getD i It.zero).1 (bs.getD i Bnd.zero).2.length (ds.getD i It.zero).2.1 (bs.getD i Bnd.zero).2 ∧ w.heap.size < (ds.getD i It.zero).2.2.1 ∧ (ds.getD i It.zero).2.2.2 ≤ wr.heap.size) ∧
    Hid (∀ i j, i < j → j < k → (ds.getD i It.zero).2.2.2 ≤ (ds.getD j It.zero).2.2.1) ∧ Hid (Below w.heap.size w wr)) (fun i _ => bs.length - (intOf i).toNat)
  case atStart => exact ⟨0, [], Nat.zero_le _, rfl, ⟨rfl, fun i h => by omega⟩, HO, fun i h => by omega, fun i j _ h => by omega, HB1⟩
  case round =>
    obtain ⟨k, ds, hk, rfl, HD, HR, HIT, HAP, HB⟩ := hrel
    by_cases hlt : k < bs.length
    · obtain ⟨b, o, rfl, hcs⟩ := (HC.out.below HB.out).lies (by omega)
      obtain ⟨q, qc, d0, d1, d2⟩ := hcs k hlt
      have hbd := tll_at (trm bs) k (by rw [trm_len]; exact hlt)
      rw [trm_at] at hbd
      obtain ⟨m, em⟩ : ∃ x, x = (bs.getD k Bnd.zero).2.length := ⟨_, rfl⟩
      obtain ⟨vv, evv⟩ : ∃ x, x = (bs.getD k Bnd.zero).1 := ⟨_, rfl⟩
      have HS := toBinding_any vv q m qc (bs.getD k Bnd.zero).2 wr em (by omega) d2
      have HM : Hid (m = (bs.getD k Bnd.zero).2.length ∧ vv = (bs.getD k Bnd.zero).1) := ⟨em, evv⟩
      rw [← em] at d1
      rw [← evv] at d0
      have hHw : w.heap.size < wr.heap.size := (HR.out.lt w.heap.size rfl).2
      clear hcs d2 hbd em evv
      go_wp2_with fail
      refine HS.mono ?_
      rintro e w2 ⟨g, hg, rfl, ho2, hb2⟩
      have HR2 : Hid (w2.ownsRow w.heap.size 63 2 (.slice (some ⟨w.heap.size, 0, none⟩) bs.length bs.length) bs.length (rowB ds bs k)) := row_below HR.out hb2
      have e0 : w2.cell? ⟨w.heap.size, k * 2, none⟩ = some (.int .i64 0) := by
        rw [HR2.out.cellAt (k * 2) (by omega), rowB, pairRow_at0 _ _ _ _ hlt]; simp
      have e0' : w2.cell? ⟨w.heap.size, k * 2 + 1, none⟩ = some (.slice none 0 0) := by
        rw [HR2.out.cellAt (k * 2 + 1) (by omega), rowB, pairRow_at1 _ _ _ _ hlt]; simp
      have e1 := HR2.out.frozenAt (k * 2)
      have e1' := HR2.out.frozenAt (k * 2 + 1)
      have hw2 := hb2.size
      obtain ⟨d, ed⟩ : ∃ d : It, d = (some ⟨g, 0, none⟩, m, g, w2.heap.size) := ⟨_, rfl⟩
      have HN : Hid (∀ u v, u = Value.int .i64 vv → v = Value.slice (some ⟨g, 0, none⟩) m m → ((w2.setCell ⟨w.heap.size, k * 2, none⟩ u).setCell ⟨w.heap.size, k * 2 + 1, none⟩ v).ownsRow w.heap.size 63 2 (.slice (some ⟨w.heap.size, 0, none⟩) bs.length bs.length) bs.length (rowB (ds ++ [d]) bs (k + 1)) ∧
          (∀ i, i < k + 1 → OwnCU ((w2.setCell ⟨w.heap.size, k * 2, none⟩ u).setCell ⟨w.heap.size, k * 2 + 1, none⟩ v) ((ds ++ [d]).getD i It.zero).2.2.1 ((ds ++ [d]).getD i It.zero).2.2.2 ((ds ++ [d]).getD i It.zero).1 (bs.getD i Bnd.zero).2.length ((ds ++ [d]).getD i It.zero).2.1 (bs.getD i Bnd.zero).2 ∧
            w.heap.size < ((ds ++ [d]).getD i It.zero).2.2.1 ∧ ((ds ++ [d]).getD i It.zero).2.2.2 ≤ ((w2.setCell ⟨w.heap.size, k * 2, none⟩ u).setCell ⟨w.heap.size, k * 2 + 1, none⟩ v).heap.size) ∧
          (∀ i j, i < j → j < k + 1 → ((ds ++ [d]).getD i It.zero).2.2.2 ≤ ((ds ++ [d]).getD j It.zero).2.2.1)) := fun u v hu hv => by
        have hdl := HD.out.1
        have hset : ∀ b, w.heap.size < b → ((w2.setCell ⟨w.heap.size, k * 2, none⟩ u).setCell ⟨w.heap.size, k * 2 + 1, none⟩ v).heap[b]? = w2.heap[b]? := fun b hb => (Below.heap_setCell _ _ _ _ (show b ≠ w.heap.size by omega)).trans (Below.heap_setCell _ _ _ _ (show b ≠ w.heap.size by omega))
        have hsz : ((w2.setCell ⟨w.heap.size, k * 2, none⟩ u).setCell ⟨w.heap.size, k * 2 + 1, none⟩ v).heap.size = w2.heap.size := by simp
        refine ⟨?_, fun i hi => ?_, fun i j hij hj => ?_⟩
        · have h1 := ((HR2.out.stored (k * 2) u).1.stored (k * 2 + 1) v).1
          rw [← rowB_next ds bs k d hlt hdl, ← HM.out.1, ← HM.out.2, ed, ← hu, ← hv]
          exact h1
        · rw [ds_append_at _ _ _ (by omega)]
          by_cases e : i = k
          · rw [if_pos (by omega), e, ← HM.out.1, ed]
            exact ⟨ho2.up.other (by simp) (fun b h1 h2 h3 => hset b (by omega)), by show w.heap.size < g; omega, by rw [hsz]; exact Nat.le_refl _⟩
          · rw [if_neg (by omega)]
            have hold := HIT.out i (by omega)
            exact ⟨(hold.1.below hb2).other (by simp) (fun b h1 h2 h3 => hset b (by omega)), hold.2.1, by rw [hsz]; omega⟩
        · rw [ds_append_at _ _ _ (by omega), ds_append_at _ _ _ (by omega), if_neg (by omega)]
          by_cases e : j = k
          · rw [if_pos (by omega), ed]
            have := (HIT.out i (by omega)).2.2
            show _ ≤ g
            omega
          · rw [if_neg (by omega)]
            exact HAP.out i j hij (by omega)
      have HB2 : Hid (Below w.heap.size w w2) := Below.on HB.out hb2
      have HDL : Hid ((ds ++ [d]).length = k + 1 ∧ ∀ i, i < k + 1 → ((ds ++ [d]).getD i It.zero).2.1 = (bs.getD i Bnd.zero).2.length) := by
        have h0 := HD.out
        refine ⟨by simp [h0.1], fun i hi => ?_⟩
        rw [ds_append_at _ _ _ (by omega)]
        by_cases e : i = k
        · rw [if_pos (by omega), ed, e]; exact HM.out.1
        · rw [if_neg (by omega)]; exact h0.2 i (by omega)
      clear ho2 hb2 hw2 HS ed
      go_wp2_with fail
      go_roundw
      case rel =>
        obtain ⟨n1, n2, n3⟩ := HN.out _ _ rfl rfl
        exact ⟨k + 1, ds ++ [d], by omega, by go_num, HDL, n1, n2, n3, (HB2.out.setCell (p := ⟨w.heap.size, k * 2, none⟩) (Nat.le_refl _) _).setCell (p := ⟨w.heap.size, k * 2 + 1, none⟩) (Nat.le_refl _) _⟩
      case measure => simp [intOf]; omega
    · obtain rfl : k = bs.length := by omega
      have HFIN : Hid (OwnBB wr w.heap.size wr.heap.size (some ⟨w.heap.size, 0, none⟩) bs.length bs.length bs) := by
        have hr := HR.out
        rw [rowB_all] at hr
        refine ⟨ds, rfl, HD.out.1, hr, fun i hi => (HIT.out i hi).1, fun i hi => ⟨by have := (HIT.out i hi).2; omega, (HIT.out i hi).2.2⟩, fun i hi g hg => ?_, HAP.out, fun g hg => ?_⟩
        · have : g = w.heap.size := (Option.some.inj hg).symm
          have h2 := (HIT.out i hi).2.1
          omega
        · exact (hr.lt g hg).2
      have HTI : Hid (TightBd wr (some ⟨w.heap.size, 0, none⟩) bs) := fun b o hp i hi => by
        have hr := HR.out
        rw [rowB_all] at hr
        simp only [Option.some.injEq, Addr.mk.injEq, and_true] at hp
        obtain ⟨rfl, rfl⟩ := hp
        refine ⟨(ds.getD i It.zero).1, ?_⟩
        rw [Nat.zero_add, hr.cellAt (i * 2 + 1) (by omega), valsB, pairRow_at1 _ _ _ _ hi, HD.out.2 i hi]
      go_wp2_with fail
      go_ret
      exact ⟨rfl, HFIN.out, HTI.out, HB.out⟩

/-- Equal bindings are found equal. -/
theorem eqBinding_any (v : Int) (p q : Option Addr) (m c1 c2 : Nat) (cs : List Cel) (w : World) (hm : m = cs.length) (hn : cs.length + tl cs ≤ 1000000000) (hx : CIn w p cs) (hy : CIn w q cs) :
    Calls Try.prog 49 #[.agg #[.int .i64 v, .slice p m c1], .agg #[.int .i64 v, .slice q m c2]] w fun e w' => e = .returned (.bool true) ∧ Below w.heap.size w w' := by
  have HS : Hid (∀ W, Below w.heap.size w W → Calls Try.prog 11 #[.slice p m c1, .slice q m c2] W fun e w' => e = .returned (.bool true) ∧ Below W.heap.size W w') := fun W hW => by
    have := eqCellS_any p q c1 c2 cs cs W hn hn (hx.below hW) (hy.below hW)
    rw [hm]
    simpa using this
  have HB : Hid (∀ a b, Below w.heap.size w ((w.alloc a).alloc b)) := fun a b => ((Below.refl _ _).alloc (Nat.le_refl _) _).alloc (by simp) _
  clear hm hx hy
  go_enter Try.func49, Try.ntmps49
  go_wp2_with fail
  refine (HS.out _ (HB.out _ _)).mono ?_
  rintro e w1 ⟨rfl, hb1⟩
  have HB1 : Hid _ := Below.on (HB.out _ _) hb1
  clear hb1
  go_wp2_with fail
  go_ret
  exact ⟨rfl, HB1.out⟩

set_option maxRecDepth 100000 in
theorem eqBd_any (p q : Option Addr) (n m c1 c2 : Nat) (bs : List Bnd) (w : World) (hn : n = bs.length) (hm : m = bs.length) (hl : bs.length + tll (trm bs) ≤ 100000000) (hx : BdIn w p bs) (hy : BdIn w q bs) :
    Calls Try.prog 18 #[.slice p n c1, .slice q m c2] w fun e w' => e = .returned (.bool true) ∧ Below w.heap.size w w' := by
  obtain rfl : n = m := by omega
  have HX : Hid (BdIn w p bs ∧ BdIn w q bs) := ⟨hx, hy⟩
  have HN : Hid (n = bs.length) := hn
  have hnb : n ≤ 100000000 := by omega
  clear hx hy hn hm
  go_enter Try.func18, Try.ntmps18
  go_wp2_with fail
  go_loopw [5] (fun i wr => ∃ (k : Nat), k ≤ n ∧ i = .int .i64 k ∧ Hid (Below w.heap.size w wr)) (fun i _ => n - (intOf i).toNat)
  case atStart => exact ⟨0, Nat.zero_le _, rfl, Below.refl _ _⟩
  case round =>
    obtain ⟨k, hk, rfl, HB⟩ := hrel
    by_cases hlt : k < n
    · have hkl : k < bs.length := by rw [← HN.out]; exact hlt
      obtain ⟨b, o, rfl, hcx⟩ := (HX.out.1.below HB.out) (by omega)
      obtain ⟨b', o', rfl, hcy⟩ := (HX.out.2.below HB.out) (by omega)
      obtain ⟨q1, e1, d0, d1, d2⟩ := hcx k hkl
      obtain ⟨q2, e2, d0', d1', d2'⟩ := hcy k hkl
      have hbd := tll_at (trm bs) k (by rw [trm_len]; exact hkl)
      rw [trm_at] at hbd
      obtain ⟨m, em⟩ : ∃ x, x = (bs.getD k Bnd.zero).2.length := ⟨_, rfl⟩
      obtain ⟨vv, evv⟩ : ∃ x, x = (bs.getD k Bnd.zero).1 := ⟨_, rfl⟩
      have HS : Hid (∀ W, Below wr.heap.size wr W → Calls Try.prog 49 #[.agg #[.int .i64 vv, .slice q1 m e1], .agg #[.int .i64 vv, .slice q2 m e2]] W fun e w' => e = .returned (.bool true) ∧ Below W.heap.size W w') := fun W hW => eqBinding_any vv q1 q2 m e1 e2 _ W em (by omega) (d2.below hW) (d2'.below hW)
      rw [← em] at d1 d1'
      rw [← evv] at d0 d0'
      have hk0 : (0 : Int) ≤ (k : Int) := by omega
      have hkn : (k : Int) < (n : Int) := by omega
      clear hcx hcy d2 d2' hbd em evv
      go_wp2_with fail
      go_region_held3 (fun W => W.cell? ⟨b, o + k * 2, none⟩ = some (.int .i64 vv) ∧ W.cell? ⟨b, o + k * 2 + 1, none⟩ = some (.slice q1 m e1) ∧ W.cell? ⟨b', o' + k * 2, none⟩ = some (.int .i64 vv) ∧ W.cell? ⟨b', o' + k * 2 + 1, none⟩ = some (.slice q2 m e2)) (first | exact kc | go_keep)
        ((go_at_call 49; refine (HS.out _ (Below.refl wr.heap.size wr).drew).mono ?_; rintro e w3 ⟨rfl, hb3⟩; have hb4 : Below wr.heap.size wr w3 := ((Below.refl wr.heap.size wr).drew).trans hb3; have kc : w3.cell? ⟨b, o + k * 2, none⟩ = some (.int .i64 vv) ∧ w3.cell? ⟨b, o + k * 2 + 1, none⟩ = some (.slice q1 m e1) ∧ w3.cell? ⟨b', o' + k * 2, none⟩ = some (.int .i64 vv) ∧ w3.cell? ⟨b', o' + k * 2 + 1, none⟩ = some (.slice q2 m e2) := ⟨(hb4.cell (World.block_lt_of_cell? _ _ d0)).trans d0, (hb4.cell (World.block_lt_of_cell? _ _ d1)).trans d1, (hb4.cell (World.block_lt_of_cell? _ _ d0')).trans d0', (hb4.cell (World.block_lt_of_cell? _ _ d1')).trans d1'⟩))
      have HB3 : Hid (Below w.heap.size w w3) := Below.on HB.out hb4
      clear hb3 hb4 kc
      go_wp2_with fail
      go_roundw
      case rel => exact ⟨k + 1, by omega, by go_num, HB3⟩
      case measure => simp [intOf]; omega
    · obtain rfl : k = n := by omega
      go_wp2_with fail
      go_ret
      exact ⟨rfl, HB.out⟩

end Go.Proofs.Ytedlcmkhbccjgaa

namespace Go.Proofs.Ytedlcmkhbccjgaa
open Go Go.RowKit Go.Maps
set_option linter.unusedVariables false

def Fo.map (f : Cel → Cel) : Fo → Fo
  | .nil => .nil
  | .node c k r => .node (f c) (k.map f) (r.map f)
theorem Fo.cells_map (f : Cel → Cel) : ∀ F : Fo, (F.map f).cells = F.cells.map f
  | .nil => rfl
  | .node c k r => by simp [Fo.map, Fo.cells, Fo.cells_map f k, Fo.cells_map f r]
theorem Fo.count_map (f : Cel → Cel) : ∀ F : Fo, (F.map f).count = F.count
  | .nil => rfl
  | .node c k r => by simp [Fo.map, Fo.count, Fo.count_map f r]
theorem Fo.map_cat (f : Cel → Cel) : ∀ a b : Fo, (a.cat b).map f = (a.map f).cat (b.map f)
  | .nil, b => rfl
  | .node c k r, b => by simp [Fo.cat, Fo.map, Fo.map_cat f r b]
/-- A variable's number by its place in the list. -/
def renI (L : List Int) (c : Cel) : Cel := if c.1 = 0 then (c.1, ((L.idxOf c.2.1 : Nat) : Int), c.2.2) else c
theorem renI_kind (L : List Int) (c : Cel) : (renI L c).1 = c.1 := by unfold renI; split <;> rfl
theorem renI_text (L : List Int) (c : Cel) : (renI L c).2.2 = c.2.2 := by unfold renI; split <;> rfl
theorem renI_ok {L : List Int} (hL : L.length ≤ 1000000) {c : Cel} (h : cellB c.1 c.2.1 c.2.2.length = true) : cellB (renI L c).1 (renI L c).2.1 (renI L c).2.2.length = true := by
  by_cases h0 : c.1 = 0
  · have := List.idxOf_le_length (l := L) (a := c.2.1)
    have hl : c.2.2.length = 0 := by
      rw [h0] at h
      simp only [cellB, decide_eq_true_eq] at h
      omega
    rw [renI, if_pos h0]
    simp only [cellB, decide_eq_true_eq]
    exact .inl ⟨h0, by omega, by omega, hl⟩
  · rw [renI, if_neg h0]; exact h
theorem Fo.ok_ren {L : List Int} (hL : L.length ≤ 1000000) : ∀ F : Fo, F.ok → (F.map (renI L)).ok
  | .nil, _ => trivial
  | .node c k r, ⟨h1, h2, h3, h4, h5, h6⟩ => by
    refine ⟨renI_ok hL h1, by rw [renI_text]; exact h2, fun e => ?_, fun e => ?_, Fo.ok_ren hL k h5, Fo.ok_ren hL r h6⟩
    · rw [renI_kind] at e
      rw [Fo.count_map, renI, if_neg (by rw [e]; decide)]
      exact h3 e
    · rw [renI_kind] at e
      rw [h4 e]; rfl
/-- Later lists keep the places of earlier ones. -/
theorem idxOf_prefix {a b : List Int} (h : a <+: b) {x : Int} (hx : x ∈ a) : b.idxOf x = a.idxOf x := by
  obtain ⟨t, rfl⟩ := h
  rw [List.idxOf_append, if_pos hx]
theorem putV_prefix (ks : List Int) (x : Int) : ks <+: putV ks x := by unfold putV; split; exact List.prefix_rfl; exact List.prefix_append _ _
theorem putV_mem (ks : List Int) (x : Int) : x ∈ putV ks x := by unfold putV; split; assumption; simp
theorem putV_idx (ks : List Int) (x : Int) : (putV ks x).idxOf x = ks.idxOf x := by
  unfold putV
  split
  · rfl
  · rename_i h
    rw [List.idxOf_append, if_neg h, List.idxOf_eq_length h]; simp
theorem visitL_prefix (ks : List Int) (c : Cel) : ks <+: visitL ks c := by unfold visitL; split; exact putV_prefix _ _; exact List.prefix_rfl
theorem visits_prefix : ∀ (cs : List Cel) (ks : List Int), ks <+: visits ks cs
  | [], ks => List.prefix_rfl
  | c :: r, ks => (visitL_prefix ks c).trans (visits_prefix r (visitL ks c))
/-- The state of the numbering. -/
structure RState (w : World) (nb mb : Nat) (ks : List Int) : Prop where
  ncell : w.cell? ⟨nb, 0, none⟩ = some (.map (some mb))
  map : NumMap w mb ks
theorem RState.ne {w : World} {nb mb : Nat} {ks : List Int} (h : RState w nb mb ks) : nb ≠ mb := fun e => by
  obtain ⟨D, ⟨es, clock, hb, _⟩, _⟩ := h.map
  have := h.ncell
  rw [e] at this
  simp [World.cell?, hb] at this
theorem RState.below {w w' : World} {nb mb : Nat} {ks : List Int} (h : RState w nb mb ks) (hb : Below w.heap.size w w') : RState w' nb mb ks :=
  ⟨(hb.cell (World.block_lt_of_cell? _ _ h.ncell)).trans h.ncell, h.map.of_block (hb.block _ h.map.lt)⟩
theorem FoIn.kept {w w' : World} {B mb : Nat} {F : Fo} {vs : List Value} (h : FoIn w B F vs) (hg : w.grownBy w' (some mb)) (hm : mb < B) : FoIn w' B F vs :=
  FoIn.imp (Nat.le_refl _) (fun b o hb hlt => World.cell?_of_block (w := w) (a := ⟨b, o, none⟩) (hg.block b hlt (fun e => by have := Option.some.inj e; omega))) hg.size F vs h
theorem grown_set {w w' : World} {row : Option Nat} (h : w.grownBy w' row) {a : Addr} (ha : w.heap.size ≤ a.block) (u : Value) : w.grownBy (w'.setCell a u) row :=
  ⟨h.os, h.tape, h.output, by simpa using h.size, fun k hk hr => (Below.heap_setCell _ _ _ _ (by omega)).trans (h.block k hk hr)⟩
theorem grown_alloc {w w' : World} {row : Option Nat} (h : w.grownBy w' row) (o : Obj) : w.grownBy (w'.alloc o) row :=
  ⟨h.os, h.tape, h.output, by have := h.size; simp; omega, fun k hk hr => (Below.heap_alloc _ _ _ (by have := h.size; omega)).trans (h.block k hk hr)⟩
theorem grown_below {B : Nat} {w w' : World} {mb : Nat} (hg : w.grownBy w' (some mb)) (hB : B ≤ w.heap.size) (hm : B ≤ mb) : Below B w w' := (Below.refl _ _).grown hg hB (fun k e => by cases e; exact hm)
set_option maxRecDepth 100000 in
theorem with_any (x : Int) (nb mb : Nat) (ks : List Int) (w : World) (h0 : 0 ≤ x) (h1 : x ≤ 1000000) (hl : ks.length ≤ 100000) (hs : RState w nb mb ks) :
    Calls Try.prog 69 #[.int .i64 x, .pointer (some ⟨nb, 0, none⟩)] w fun e w' => e = .returned (.iface 67 (.int .i64 (ks.idxOf x))) ∧ RState w' nb mb (putV ks x) ∧ w.grownBy w' (some mb) := by
  have HOF := of_any mb ks x w h0 h1 (by omega) hs.map
  have c1 := hs.ncell
  have hne := hs.ne
  have HNE : Hid (nb ≠ mb) := hne
  have HC : Hid _ := c1
  clear hs hne
  go_enter Try.func69, Try.ntmps69
  go_wp2_with fail
  refine HOF.mono ?_
  rintro e w1 ⟨rfl, hm, hg⟩
  go_wp2_with fail
  go_ret
  exact ⟨rfl, ⟨(World.cell?_of_block (w := w) (a := ⟨nb, 0, none⟩) (hg.block nb (World.block_lt_of_cell? _ _ HC.out) (fun e => HNE.out (Option.some.inj e)))).trans HC.out, hm⟩, hg⟩
/-- What replaceVars answers. -/
def ReplOut (w : World) (nb mb : Nat) (ks : List Int) (c : Cel) (k : Fo) (e : Ending) (w' : World) : Prop :=
  ∃ v, e = .returned v ∧ RState w' nb mb (visits ks (c :: k.cells)) ∧ w.grownBy w' (some mb) ∧ ∀ L, visits ks (c :: k.cells) <+: L → FoIn w' w.heap.size (.node (renI L c) (k.map (renI L)) .nil) [v]
set_option maxRecDepth 100000 in
set_option maxHeartbeats 1000000 in
theorem replace_any : ∀ (N : Nat) (c : Cel) (k : Fo) (v : Value) (Bt nb mb : Nat) (ks : List Int) (w0 w : World), k.cells.length ≤ N → (Fo.node c k .nil).ok → FoIn w0 Bt (.node c k .nil) [v] → Below w0.heap.size w0 w → w0.heap.size ≤ mb → RState w nb mb ks → ks.length + 1 + k.cells.length ≤ 100000 →
    Calls Try.prog 47 #[v, .func (.func 69) #[] #[.pointer (some ⟨nb, 0, none⟩)]] w (ReplOut w nb mb ks c k) := by
  intro N
  induction N using Nat.strongRecOn with
  | _ N ih =>
    intro c k v Bt nb mb ks w0 w hN hok hfo hw hmb hs hlen
    obtain ⟨v', vr, e, hnode, _⟩ := hfo
    obtain ⟨rfl, rfl⟩ := List.cons.inj e
    rcases hnode with ⟨h0, rfl⟩ | ⟨h0, rfl⟩ | ⟨h0, rfl⟩ | ⟨h0, b, g, vs, rfl, hcomp⟩
    · have hk : k = .nil := hok.2.2.2.1 (by rw [h0]; decide)
      subst hk
      have hx : 0 ≤ c.2.1 ∧ c.2.1 ≤ 1000000 := by have := hok.1; rw [h0] at this; simp [cellB] at this; omega
      have HW := with_any c.2.1 nb mb ks w hx.1 hx.2 (by omega) hs
      have HF : Hid (∀ w', RState w' nb mb (putV ks c.2.1) → w.grownBy w' (some mb) → ReplOut w nb mb ks c .nil (.returned (.iface 67 (.int .i64 (ks.idxOf c.2.1)))) w') := fun w' h1 h2 => by
        have e1 : visits ks (c :: Fo.nil.cells) = putV ks c.2.1 := by simp [visits, Fo.cells, visitL, h0]
        refine ⟨_, rfl, by rw [e1]; exact h1, h2, fun L hL => ⟨_, [], rfl, .inl ⟨by rw [renI_kind]; exact h0, ?_⟩, rfl⟩⟩
        rw [e1] at hL
        rw [renI, if_pos h0, idxOf_prefix hL (putV_mem _ _), putV_idx]
      obtain ⟨x, ex⟩ : ∃ x, x = c.2.1 := ⟨_, rfl⟩
      obtain ⟨ix, ei⟩ : ∃ ix, ix = ks.idxOf c.2.1 := ⟨_, rfl⟩
      rw [← ei] at HW HF
      rw [← ex] at HW HF ⊢
      have n1 := isVar
      clear ih hok hw hs hx ex ei e hlen
      go_enter Try.func47, Try.ntmps47
      go_wp2_with fail
      refine HW.mono ?_
      rintro e w1 ⟨rfl, h1, h2⟩
      go_wp2_with fail
      go_ret
      exact HF.out _ h1 h2
    · have hk : k = .nil := hok.2.2.2.1 (by rw [h0]; decide)
      subst hk
      have n1 := noVar_num
      have n2 := noComp_num
      have hv : visits ks (c :: Fo.nil.cells) = ks := by simp [visits, Fo.cells, visitL, h0]
      have HF : Hid (ReplOut w nb mb ks c .nil (.returned (.iface 139 (.int .i64 c.2.1))) w) := ⟨_, rfl, by rw [hv]; exact hs, ⟨rfl, rfl, rfl, Nat.le_refl _, fun _ _ _ => rfl⟩, fun L _ => ⟨_, [], rfl, .inr (.inl ⟨by rw [renI_kind]; exact h0, by rw [renI, if_neg (by rw [h0]; decide)]⟩), rfl⟩⟩
      obtain ⟨x, ex⟩ : ∃ x, x = Value.int .i64 c.2.1 := ⟨_, rfl⟩
      rw [← ex] at HF ⊢
      clear ih hok hw hs ex e hlen hv
      go_enter Try.func47, Try.ntmps47
      go_wp2_with fail
      go_ret
      exact HF.out
    · have hk : k = .nil := hok.2.2.2.1 (by rw [h0]; decide)
      subst hk
      have n1 := noVar_atom
      have n2 := noComp_atom
      have hv : visits ks (c :: Fo.nil.cells) = ks := by simp [visits, Fo.cells, visitL, h0]
      have HF : Hid (ReplOut w nb mb ks c .nil (.returned (.iface 140 (.string (strOfNums c.2.2)))) w) := ⟨_, rfl, by rw [hv]; exact hs, ⟨rfl, rfl, rfl, Nat.le_refl _, fun _ _ _ => rfl⟩, fun L _ => ⟨_, [], rfl, .inr (.inr (.inl ⟨by rw [renI_kind]; exact h0, by rw [renI, if_neg (by rw [h0]; decide)]⟩)), rfl⟩⟩
      obtain ⟨x, ex⟩ : ∃ x, x = Value.string (strOfNums c.2.2) := ⟨_, rfl⟩
      rw [← ex] at HF ⊢
      clear ih hok hw hs ex e hlen hv
      go_enter Try.func47, Try.ntmps47
      go_wp2_with fail
      go_ret
      exact HF.out
    · have n1 := noVar_comp
      have n2 := isComp
      have HC : Hid (CompAt w0 Bt c.2.2 k b g vs) := hcomp
      have hvl2 : vs.length = k.count := FoIn.count _ _ hcomp.2.2.2.2.2.2
      obtain ⟨q, eq⟩ : ∃ q, q = vs.length := ⟨_, rfl⟩
      have HE : Hid (q = vs.length ∧ vs.length = k.count) := ⟨eq, hvl2⟩
      have hq : q ≤ 100000 := by have := Fo.count_le k; omega
      have HK : Hid k.ok := hok.2.2.2.2.1
      have d0 := (hw.cell (World.block_lt_of_cell? _ _ hcomp.2.2.1)).trans hcomp.2.2.1
      have d1 := (hw.cell (World.block_lt_of_cell? _ _ hcomp.2.2.2.1)).trans hcomp.2.2.2.1
      rw [← eq] at d1
      have HBB : Hid (b < w0.heap.size) := World.block_lt_of_cell? _ _ hcomp.2.2.1
      have hv0 : visitL ks c = ks := by rw [visitL, if_neg (by rw [h0]; decide)]
      have HV0 : Hid (∀ cs, visits ks (c :: cs) = visits ks cs) := fun cs => by rw [visits_cons, hv0]
      have HS : Hid (RState w nb mb ks) := hs
      have HW : Hid (Below w0.heap.size w0 w) := hw
      have HIH : Hid _ := ih
      have hml := hs.map.lt
      have hnl : nb < w.heap.size := World.block_lt_of_cell? _ _ hs.ncell
      have HREN : Hid (∀ L, renI L c = c) := fun L => by rw [renI, if_neg (by rw [h0]; decide)]
      have H0 : Hid (c.1 = 3) := h0
      obtain ⟨str, es⟩ : ∃ str, str = strOfNums c.2.2 := ⟨_, rfl⟩
      rw [← es] at d0
      have HES : Hid (str = strOfNums c.2.2) := es
      obtain ⟨i0, hi, hz0, hz1, hz2⟩ := info_parts infoTerm
      have hmx : q ≤ maxLen := by unfold maxLen; omega
      clear ih hok hw hs e hcomp eq hvl2 hv0 es h0
      go_enter Try.func47, Try.ntmps47
      go_wp2_with (at_make; refine wpList_make_full _ rfl _ _ 109 rfl w.heap.size 53 i0 .nilIface 1 Try.underlying109 hi hz0 hz1 _ _ _ _ q rfl rfl rfl rfl (by rw [hz2]; omega) hmx (Nat.le_refl _) ?_; intro w1 hown hgrow; have d0' := ((World.cell?_of_block (w := w) (a := ⟨b, 0, none⟩) (hgrow.block b (World.block_lt_of_cell? _ _ d0) (fun h => by cases h)))).trans d0; have d1' := ((World.cell?_of_block (w := w) (a := ⟨b, 1, none⟩) (hgrow.block b (World.block_lt_of_cell? _ _ d1) (fun h => by cases h)))).trans d1)
      have HO1 : Hid (w1.ownsRow w.heap.size 53 1 (.slice (some ⟨w.heap.size, 0, none⟩) q q) q ([] ++ List.replicate (q - 0) .nilIface)) := by
        have := hown
        simp [Value.cells, toList_madeCells_one] at this
        exact this
      have HG1 : Hid (w.grownBy w1 (some mb)) := ⟨hgrow.os, hgrow.tape, hgrow.output, hgrow.size, fun k hk _ => hgrow.block k hk (fun h => by cases h)⟩
      have HS1 : Hid (RState w1 nb mb ks) := HS.out.below ((Below.refl _ _).grown hgrow (Nat.le_refl _) (fun k h => by cases h))
      have hs1 : w.heap.size + 1 ≤ w1.heap.size := by have := (hown.lt w.heap.size rfl).2; omega
      clear hown hgrow hi hz0 hz1 hz2 d0 d1 d0' d1'
      go_loopw [31] (fun i wr => ∃ (D R : Fo) (us vs2 ns : List Value) (j : Nat), j ≤ q ∧ i = .int .i64 j ∧ Hid (k = D.cat R ∧ vs = us ++ vs2 ∧ us.length = j ∧ ns.length = j) ∧ Hid (FoIn w0 Bt R vs2) ∧ Hid (RState wr nb mb (visits ks D.cells)) ∧
        Hid (wr.ownsRow w.heap.size 53 1 (.slice (some ⟨w.heap.size, 0, none⟩) q q) q (ns ++ List.replicate (q - j) .nilIface)) ∧ Hid (∀ L, visits ks D.cells <+: L → FoIn wr (w.heap.size + 1) (D.map (renI L)) ns) ∧ Hid (w.grownBy wr (some mb)) ∧ w.heap.size + 1 ≤ wr.heap.size) (fun i _ => q - (intOf i).toNat)
      case atStart => exact ⟨.nil, k, [], vs, [], 0, Nat.zero_le _, rfl, ⟨rfl, rfl, rfl, rfl⟩, HC.out.2.2.2.2.2.2, HS1, HO1, fun L _ => rfl, HG1, hs1⟩
      case round =>
        obtain ⟨D, R, us, vs2, ns, j, hj, rfl, HF, HR, HST, HO, HFO, HG, hsz⟩ := hrel
        have hwr : Below w0.heap.size w0 wr := HW.out.trans (grown_below HG.out HW.out.size hmb)
        by_cases hlt : j < q
        · obtain ⟨c', k', r', rfl⟩ : ∃ c' k' r', R = .node c' k' r' := by
            cases R with
            | nil =>
              have h1 := HF.out
              have h2 : vs2 = [] := HR.out
              have h3 := HE.out.1
              rw [h1.2.1, h2, List.append_nil] at h3
              omega
            | node c' k' r' => exact ⟨c', k', r', rfl⟩
          obtain ⟨v, vr, rfl, hnode, hrest⟩ := HR.out
          have hok2 := (Fo.ok_cat D (.node c' k' r')).1 (HF.out.1 ▸ HK.out)
          have hl2 : D.cells.length + (k'.cells.length + r'.cells.length + 1) = k.cells.length := by
            rw [HF.out.1, Fo.cells_cat]; simp [Fo.cells]
          have hat : w0.cell? ⟨g, j, none⟩ = some v := by
            rw [HC.out.2.2.2.2.2.1 j (by rw [← HE.out.1]; exact hlt), HF.out.2.1]
            simp [List.getD, HF.out.2.2.1]
          have c5 : wr.cell? ⟨g, j, none⟩ = some v := (hwr.cell (World.block_lt_of_cell? _ _ hat)).trans hat
          have HRC := HIH.out k'.cells.length (by omega) c' k' v Bt nb mb (visits ks D.cells) w0 wr (Nat.le_refl _) ⟨hok2.2.1, hok2.2.2.1, hok2.2.2.2.1, hok2.2.2.2.2.1, hok2.2.2.2.2.2.1, trivial⟩ ⟨v, [], rfl, hnode, rfl⟩ hwr hmb HST.out (by have := visits_len D.cells ks; omega)
          obtain ⟨vt, vx, rfl⟩ := hnode.iface
          have HRR : Hid (FoIn w0 Bt r' vr) := hrest
          clear hok2 hl2 hat hwr hnode hrest HIH
          go_wp2_with fail
          refine HRC.mono ?_
          rintro e w3 ⟨v3, rfl, hst3, hg3, hfo3⟩
          obtain ⟨nt, nx, rfl⟩ := (hfo3 _ List.prefix_rfl).iface
          have hbG : w3.heap[w.heap.size]? = wr.heap[w.heap.size]? := hg3.block w.heap.size (by omega) (fun e => by have := Option.some.inj e; omega)
          have e0 : w3.cell? ⟨w.heap.size, j, none⟩ = some .nilIface := by
            rw [World.cell?_of_block (w := wr) (a := ⟨w.heap.size, j, none⟩) hbG, HO.out.cellAt j (by omega), List.getElem?_append_right (by have := HF.out.2.2.2; omega), List.getElem?_replicate, if_pos (by have := HF.out.2.2.2; omega)]
          have e1 : w3.frozen? ⟨w.heap.size, j, none⟩ = false := (World.frozen?_of_block (w := wr) (a := ⟨w.heap.size, j, none⟩) hbG).trans (HO.out.frozenAt j)
          have HO3 : Hid (w3.ownsRow w.heap.size 53 1 (.slice (some ⟨w.heap.size, 0, none⟩) q q) q (ns ++ List.replicate (q - j) .nilIface)) := HO.out.kept hg3 (.inr (fun e => by have := Option.some.inj e; simp at this; omega))
          have HN : Hid (k = (D.cat (.node c' k' .nil)).cat r' ∧ vs = (us ++ [Value.iface vt vx]) ++ vr ∧ (us ++ [Value.iface vt vx]).length = j + 1 ∧ (ns ++ [Value.iface nt nx]).length = j + 1) := ⟨by rw [Fo.cat_assoc]; exact HF.out.1, by rw [HF.out.2.1]; simp, by simp [HF.out.2.2.1], by simp [HF.out.2.2.2]⟩
          have hvis : visits ks (D.cat (.node c' k' .nil)).cells = visits (visits ks D.cells) (c' :: k'.cells) := by rw [Fo.cells_cat, visits_append]; simp [Fo.cells]
          have HV3 : Hid (RState (w3.setCell ⟨w.heap.size, j, none⟩ (.iface nt nx)) nb mb (visits ks (D.cat (.node c' k' .nil)).cells)) := by
            rw [hvis]
            exact ⟨(World.cell?_setCell_other _ _ _ _ (fun e => by have := congrArg Addr.block e; simp at this; omega)).trans hst3.ncell, hst3.map.of_block (Below.heap_setCell _ _ _ _ (show mb ≠ w.heap.size by omega))⟩
          have HF3 : Hid (∀ L, visits ks (D.cat (.node c' k' .nil)).cells <+: L → FoIn (w3.setCell ⟨w.heap.size, j, none⟩ (.iface nt nx)) (w.heap.size + 1) ((D.cat (.node c' k' .nil)).map (renI L)) (ns ++ [Value.iface nt nx])) := fun L hL => by
            rw [hvis] at hL
            rw [Fo.map_cat]
            exact (FoIn.cat _ _ _ _ ((HFO.out L ((visits_prefix _ _).trans hL)).kept hg3 (by omega)) ((hfo3 L hL).mono hsz)).setCell (show w.heap.size < w.heap.size + 1 by omega) _
          have HG3 : Hid (w.grownBy (w3.setCell ⟨w.heap.size, j, none⟩ (.iface nt nx)) (some mb)) := grown_set (HG.out.trans hg3) (Nat.le_refl _) _
          have hsz3 : w.heap.size + 1 ≤ w3.heap.size := Nat.le_trans hsz hg3.size
          clear hst3 hg3 hfo3 hvis HRC hbG
          go_wp2_with fail
          go_roundw
          case rel => exact ⟨D.cat (.node c' k' .nil), r', us ++ [Value.iface vt vx], vr, ns ++ [Value.iface nt nx], j + 1, by omega, by go_num, HN, HRR, HV3, row_next HO3.out HF.out.2.2.2 hlt _, HF3, HG3, by simpa using hsz3⟩
          case measure => simp [intOf]; omega
        · obtain rfl : j = q := by omega
          obtain rfl : R = .nil := by
            have h1 := FoIn.count _ _ HR.out
            have h2 := HE.out
            rw [HF.out.2.1, List.length_append] at h2
            have h3 := HF.out.2.2.1
            cases R with
            | nil => rfl
            | node a b d => simp [Fo.count] at h1; omega
          have hD : D = k := by have := HF.out.1; rw [Fo.cat_nil] at this; exact this.symm
          subst hD
          have x0 : wr.cell? ⟨b, 0, none⟩ = some (.string str) := by
            rw [HES.out]
            exact (hwr.cell (World.block_lt_of_cell? _ _ HC.out.2.2.1)).trans HC.out.2.2.1
          have hns := HF.out.2.2.2
          have HNS : Hid (ns.length = j) := hns
          have HFIN : Hid (ReplOut w nb mb ks c D (.returned (.iface 108 (.pointer (some ⟨wr.heap.size, 0, none⟩)))) (wr.alloc (Obj.cells #[Value.string str, Value.slice (some ⟨w.heap.size, 0, none⟩) j j] 111))) := by
            have hal : Below wr.heap.size wr (wr.alloc (Obj.cells #[Value.string str, Value.slice (some ⟨w.heap.size, 0, none⟩) j j] 111)) := (Below.refl _ _).alloc (Nat.le_refl _) _
            refine ⟨_, rfl, by rw [HV0.out]; exact HST.out.below hal, grown_alloc HG.out _, fun L hL => ?_⟩
            rw [HV0.out] at hL
            have hnew := heap_alloc_new wr (Obj.cells #[Value.string str, Value.slice (some ⟨w.heap.size, 0, none⟩) j j] 111)
            refine ⟨_, [], rfl, .inr (.inr (.inr ⟨by rw [renI_kind]; exact H0.out, wr.heap.size, w.heap.size, ns, rfl, by omega, Nat.le_refl _, by rw [renI_text, ← HES.out]; exact cell_of_row _ _ 0 _ _ _ hnew, by rw [hns]; exact cell_of_row _ _ 1 _ _ _ hnew, by simp; omega, fun i hi => ?_, ?_⟩)), rfl⟩
            · refine Lib.cell?_alloc_marked _ ?_
              rw [HO.out.cellAt i (by omega), List.getElem?_append_left (by omega)]
              simp [List.getD, hi]
            · exact ((HFO.out L hL).below hal).mono (by omega)
          clear hns
          go_wp2_with fail
          go_ret
          exact HFIN.out

end Go.Proofs.Ytedlcmkhbccjgaa

namespace Go.Proofs.Ytedlcmkhbccjgaa
open Go Go.RowKit Go.Maps
set_option linter.unusedVariables false

set_option maxRecDepth 100000 in
theorem renumber_any (c : Cel) (k : Fo) (v : Value) (Bt : Nat) (w : World) (hok : (Fo.node c k .nil).ok) (hfo : FoIn w Bt (.node c k .nil) [v]) (hl : k.cells.length ≤ 10000) :
    Calls Try.prog 37 #[v] w fun e w' => ∃ v', e = .returned v' ∧ FoIn w' w.heap.size (.node (renI (visits [] (c :: k.cells)) c) (k.map (renI (visits [] (c :: k.cells)))) .nil) [v'] ∧ Below w.heap.size w w' := by
  have hmm := @run_makeMap Try.prog
  obtain ⟨vt, vx, rfl⟩ := hfo.iface
  have hW : Below w.heap.size w ((w.alloc (Obj.map #[] 0)).alloc (Obj.cells #[Value.map (some w.heap.size)] 104)) := ((Below.refl _ _).alloc (Nat.le_refl _) _).alloc (by simp) _
  have hnew := heap_alloc_new (w.alloc (Obj.map #[] 0)) (Obj.cells #[Value.map (some w.heap.size)] 104)
  have e1 : (w.alloc (Obj.map #[] 0)).heap.size = w.heap.size + 1 := by simp
  rw [e1] at hnew
  have hS : RState ((w.alloc (Obj.map #[] 0)).alloc (Obj.cells #[Value.map (some w.heap.size)] 104)) (w.heap.size + 1) w.heap.size [] := ⟨cell_of_row _ _ 0 _ _ _ hnew, (NumMap.made w).of_block (Below.heap_alloc _ _ _ (by simp))⟩
  have HR := replace_any k.cells.length c k _ Bt (w.heap.size + 1) w.heap.size [] w _ (Nat.le_refl _) hok hfo hW (Nat.le_refl _) hS (by simp; omega)
  have HW : Hid _ := hW
  clear hok hfo hS hW hnew e1
  go_enter Try.func37, Try.ntmps37
  go_wp2_with fail
  refine HR.mono ?_
  rintro e w1 ⟨v1, rfl, hst, hg, hf⟩
  have hfo := hf _ List.prefix_rfl
  obtain ⟨nt, nx, rfl⟩ := hfo.iface
  have HF : Hid (FoIn w1 w.heap.size (.node (renI (visits [] (c :: k.cells)) c) (k.map (renI (visits [] (c :: k.cells)))) .nil) [.iface nt nx]) := hfo.mono (by simp; omega)
  have HB : Hid (Below w.heap.size w w1) := HW.out.trans (grown_below hg (by simp; omega) (Nat.le_refl _))
  clear hf hst hg hfo HR
  go_wp2_with fail
  go_ret
  exact ⟨_, rfl, HF.out, HB.out⟩
/-- The cells of which each variable has its place as its number. -/
def renCells (cs : List Cel) : List Cel := cs.map (renI (visits [] cs))

end Go.Proofs.Ytedlcmkhbccjgaa

