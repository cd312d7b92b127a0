/- szCellSS, toCellSS. Own work of the verifier. -/
import Derived.Test.YtopdhjnpcpkmlaaSS1
import Derived.Test.YtopdhjnpcpkmlaaLawValid
namespace Go.Proofs.Ytopdhjnpcpkmlaa
open Go Go.RowKit
set_option linter.unusedVariables false

/-- What is asked of a slice of slices of cells that came in. -/
structure CCArg (w : World) (p : Option Addr) (css : List (List Cel)) : Prop where
  lies : CCIn w p css
  len : css.length ≤ 9223372036854775807
  item : ∀ i, i < css.length → (css.getD i []).length ≤ 9223372036854775807 ∧ (∀ j, j < (css.getD i []).length → ((css.getD i []).getD j Cel.none).2.2.length ≤ 9223372036854775807) ∧ (∀ j, j < (css.getD i []).length → ∀ x ∈ ((css.getD i []).getD j Cel.none).2.2, 0 ≤ x ∧ x < 256)
theorem CCArg.below {W W' : World} {p : Option Addr} {css : List (List Cel)} (h : CCArg W p css) (hb : Below W.heap.size W W') : CCArg W' p css := ⟨h.lies.below hb, h.len, h.item⟩

theorem tll_take : ∀ (css : List (List Cel)) (k : Nat), k < css.length → tll (css.take (k + 1)) = tll (css.take k) + ((css.getD k []).length + tl (css.getD k []))
  | [], k, h => by simp at h
  | c :: r, 0, _ => by simp [tll]
  | c :: r, k + 1, h => by
    have := tll_take r k (by simpa using h)
    simp only [List.take_succ_cons, tll, this]
    simp; omega
theorem tll_take_le : ∀ (css : List (List Cel)) (k : Nat), tll (css.take k) ≤ tll css
  | [], k => by simp [tll]
  | c :: r, 0 => by simp [tll]
  | c :: r, k + 1 => by have := tll_take_le r k; simp only [List.take_succ_cons, tll]; omega

theorem szSS_any (p : Option Addr) (cap : Nat) (css : List (List Cel)) (L : Nat) (w : World) (hL : L ≤ 1048576) (hin : CCArg w p css) :
    Calls Try.prog 25 #[.slice p css.length cap, .int .i64 L] w fun e w' => e = .returned (.int .i64 (szR L (css.length + tll css))) ∧ Below w.heap.size w w' := by
  have HI : Hid (CCArg w p css) := hin
  have hn := hin.len
  clear hin
  by_cases h : css.length ≤ L
  · have h0 : ¬ ((L : Int) - css.length < 0) := by omega
    go_enter Try.func25, Try.ntmps25
    go_wp2_with fail
    have HL : Hid (css.length ≤ L) := h
    clear h h0
    go_loopw [1, 5] (fun l i wr => ∃ k : Nat, k ≤ css.length ∧ i = .int .i64 k ∧ Hid (css.length + tll (css.take k) ≤ L) ∧ l = .int .i64 ((L : Int) - (css.length + tll (css.take k) : Nat)) ∧ Hid (Below w.heap.size w wr)) (fun _ i _ => css.length - (intOf i).toNat)
    case atStart => exact ⟨0, Nat.zero_le _, rfl, by simpa [tll, Hid] using HL.out, by simp [tll], Below.refl _ _⟩
    case round =>
      obtain ⟨k, hk, rfl, HT, rfl, HB⟩ := hrel
      by_cases hlt : k < css.length
      · obtain ⟨b, o, rfl, hcs⟩ := (HI.out.below HB.out).lies (by omega)
        obtain ⟨q, qc, d0, d1⟩ := hcs k hlt
        have hit := HI.out.item k hlt
        have htk : Hid _ := tll_take css k hlt
        have htl : Hid _ := tll_take_le css (k + 1)
        obtain ⟨L', eL⟩ : ∃ x, x = L - (css.length + tll (css.take k)) := ⟨_, rfl⟩
        have eL' : ((L : Int) - (css.length + tll (css.take k) : Nat)) = (L' : Int) := by have := HT.out; omega
        have hL' : L' ≤ 1048576 := by omega
        have HS := szCellS_any q qc (css.getD k []) L' wr hL' hit.1 hit.2.1 d1
        rw [eL']
        have HE : Hid (L' = L - (css.length + tll (css.take k))) := eL
        obtain ⟨m, em⟩ : ∃ x, x = (css.getD k []).length := ⟨_, rfl⟩
        obtain ⟨sz, esz⟩ : ∃ x, x = (css.getD k []).length + tl (css.getD k []) := ⟨_, rfl⟩
        rw [← esz] at HS htk
        rw [← em] at HS d0
        clear eL eL' hcs d1 hit em esz
        by_cases hfit : sz ≤ L'
        · have e : szR L' sz = (L' : Int) - sz := by simp [szR, hfit]
          rw [e] at HS
          have h0' : ¬ ((L' : Int) - sz < 0) := by omega
          go_wp2_with fail
          refine HS.mono ?_
          rintro e w' ⟨rfl, hb1⟩
          go_wp2_with fail
          go_roundw
          case rel => exact ⟨k + 1, by omega, by go_num, by have := HT.out; have := htk.out; have := HE.out; show _ ≤ _; omega, by have := HT.out; have := htk.out; have := HE.out; congr 1; omega, Below.on HB.out hb1⟩
          case measure => simp [intOf]; omega
        · have e : szR L' sz = -1 := by simp [szR, hfit]
          rw [e] at HS
          go_wp2_with fail
          refine HS.mono ?_
          rintro e w' ⟨rfl, hb1⟩
          go_wp2_with fail
          go_ret
          refine ⟨ret_int ?_, Below.on HB.out hb1⟩
          have := HT.out; have := htk.out; have := HE.out; have := htl.out
          rw [szR, if_neg (by omega)]
      · obtain rfl : k = css.length := by omega
        rw [List.take_length] at *
        go_wp2_with fail
        go_ret
        exact ⟨ret_int (by rw [szR, if_pos HT.out]), HB.out⟩
  · have e : szR L (css.length + tll css) = -1 := by rw [szR, if_neg (by omega)]
    rw [e]
    have h0 : (L : Int) - css.length < 0 := by omega
    go_enter Try.func25, Try.ntmps25
    go_wp2_with fail
    go_ret
    exact ⟨rfl, Below.refl _ _⟩

/-- The row of which k items are laid. -/
def rowv (ds : List It) (css : List (List Cel)) (k : Nat) : List Value := (List.range css.length).map fun i => if i < k then .slice (ds.getD i It.zero).1 (css.getD i []).length (ds.getD i It.zero).2.1 else .slice none 0 0
theorem rowv_zero (css : List (List Cel)) : rowv [] css 0 = List.replicate css.length (.slice none 0 0) := by
  apply List.ext_getElem?
  intro i
  by_cases h : i < css.length
  · simp [rowv, h]
  · rw [List.getElem?_eq_none (by simp [rowv]; omega), List.getElem?_eq_none (by simp; omega)]
theorem rowv_all (ds : List It) (css : List (List Cel)) : rowv ds css css.length = vals ds css := by
  simp only [rowv, vals]
  refine List.map_congr_left fun i hi => ?_
  rw [if_pos (List.mem_range.1 hi)]
theorem rowv_next (ds : List It) (css : List (List Cel)) (k : Nat) (d : It) (hk : k < css.length) (hd : ds.length = k) : (rowv ds css k).set k (.slice d.1 (css.getD k []).length d.2.1) = rowv (ds ++ [d]) css (k + 1) := by
  apply List.ext_getElem?
  intro i
  by_cases h : i < css.length
  · rw [List.getElem?_set]
    by_cases e : k = i
    · subst e
      simp [rowv, h, hd]
    · rw [if_neg e]
      simp only [rowv, List.getElem?_map, List.getElem?_range h, Option.map_some]
      by_cases h2 : i < k
      · rw [if_pos h2, if_pos (by omega), ds_append_at _ _ _ (by omega), if_neg (by omega)]
      · rw [if_neg h2, if_neg (by omega)]
  · rw [List.getElem?_eq_none (by simp [rowv]; omega), List.getElem?_eq_none (by simp [rowv]; omega)]
theorem rowv_at (ds : List It) (css : List (List Cel)) (k : Nat) (hk : k < css.length) : (rowv ds css k)[k]? = some (.slice none 0 0) := by simp [rowv, hk]

/-- The items of a slice of slices have no room to spare. -/
def TightCC (w : World) (p : Option Addr) (css : List (List Cel)) : Prop := ∀ b o, p = some ⟨b, o, none⟩ → ∀ i, i < css.length → ∃ q, w.cell? ⟨b, o + i, none⟩ = some (.slice q (css.getD i []).length (css.getD i []).length)
theorem TightCC.below {w w' : World} {p : Option Addr} {css : List (List Cel)} (h : TightCC w p css) (hb : Below w.heap.size w w') : TightCC w' p css := fun b o hp i hi => by
  obtain ⟨q, hq⟩ := h b o hp i hi
  exact ⟨q, (hb.cell (World.block_lt_of_cell? _ _ hq)).trans hq⟩
theorem toSS_any (p : Option Addr) (cap : Nat) (css : List (List Cel)) (w : World) (hn : css.length + tll css ≤ 1048576) (hin : CCArg w p css) :
    Calls Try.prog 27 #[.slice p css.length cap] w fun e w' => e = .returned (.slice (some ⟨w.heap.size, 0, none⟩) css.length css.length) ∧ OwnCC w' w.heap.size w'.heap.size (some ⟨w.heap.size, 0, none⟩) css.length css.length css ∧ TightCC w' (some ⟨w.heap.size, 0, none⟩) css ∧ Below w.heap.size w w' := by
  obtain ⟨i0, hi, hz0, hz1, hz2⟩ := info_parts infoCells
  have hmx : css.length ≤ maxLen := by unfold maxLen; omega
  have HC : Hid (CCArg w p css) := hin
  clear hin
  go_enter Try.func27, Try.ntmps27
  go_wp2_with (at_make; refine wpList_make_full _ rfl _ _ 42 rfl w.heap.size 25 i0 (.slice none 0 0) 1 Try.underlying42 hi hz0 hz1 _ _ _ _ css.length rfl rfl rfl rfl (by rw [hz2]; omega) hmx (Nat.le_refl _) ?_; intro w1 hown hgrow)
  have HB1 : Hid (Below w.heap.size w w1) := (Below.refl _ _).grown hgrow (Nat.le_refl _) (fun k h => by cases h)
  have HO : Hid (w1.ownsRow w.heap.size 25 1 (.slice (some ⟨w.heap.size, 0, none⟩) css.length css.length) css.length (rowv [] css 0)) := by
    have := hown
    simp [Value.cells, toList_madeCells_one] at this
    rw [rowv_zero]
    exact this
  clear hown hgrow
  go_loopw [4] (fun i wr => ∃ (k : Nat) (ds : List It), k ≤ css.length ∧ i = .int .i64 k ∧ Hid (ds.length = k ∧ ∀ i, i < k → (ds.getD i It.zero).2.1 = (css.getD i []).length) ∧ Hid (wr.ownsRow w.heap.size 25 1 (.slice (some ⟨w.heap.size, 0, none⟩) css.length css.length) css.length (rowv ds css k)) ∧
    Hid (∀ i, i < k → OwnCU wr (ds.getD i It.zero).2.2.1 (ds.getD i It.zero).2.2.2 (ds.getD i It.zero).1 (css.getD i []).length (ds.getD i It.zero).2.1 (css.getD i []) ∧ w.heap.size < (ds.getD i It.zero).2.2.1 ∧ (ds.getD i It.zero).2.2.2 ≤ wr.heap.size) ∧
    Hid (∀ i j, i < j → j < k → (ds.getD i It.zero).2.2.2 ≤ (ds.getD j It.zero).2.2.1) ∧ Hid (Below w.heap.size w wr)) (fun i _ => css.length - (intOf i).toNat)
  case atStart => exact ⟨0, [], Nat.zero_le _, rfl, ⟨rfl, fun i h => by omega⟩, HO, fun i h => by omega, fun i j _ h => by omega, HB1⟩
  case round =>
    obtain ⟨k, ds, hk, rfl, HD, HR, HIT, HAP, HB⟩ := hrel
    by_cases hlt : k < css.length
    · obtain ⟨b, o, rfl, hcs⟩ := (HC.out.below HB.out).lies (by omega)
      obtain ⟨q, qc, d0, d1⟩ := hcs k hlt
      have hbd := tll_at css k hlt
      have HS := toCellS_any q qc (css.getD k []) wr (by omega) d1
      obtain ⟨m, em⟩ : ∃ x, x = (css.getD k []).length := ⟨_, rfl⟩
      have HM : Hid (m = (css.getD k []).length) := em
      rw [← em] at HS d0
      have hHw : w.heap.size < wr.heap.size := (HR.out.lt w.heap.size rfl).2
      clear hcs d1 hbd em
      go_wp2_with fail
      refine HS.mono ?_
      rintro e w2 ⟨rfl, ho2, hb2⟩
      have HR2 : Hid (w2.ownsRow w.heap.size 25 1 (.slice (some ⟨w.heap.size, 0, none⟩) css.length css.length) css.length (rowv ds css k)) := row_below HR.out hb2
      have e0 := (HR2.out.cellAt k (by omega)).trans (rowv_at ds css k hlt)
      have e1 := HR2.out.frozenAt k
      have hw2 := hb2.size
      obtain ⟨d, ed⟩ : ∃ d : It, d = (some ⟨wr.heap.size, 0, none⟩, m, wr.heap.size, w2.heap.size) := ⟨_, rfl⟩
      have HN : Hid (∀ v, v = Value.slice (some ⟨wr.heap.size, 0, none⟩) m m → (w2.setCell ⟨w.heap.size, k, none⟩ v).ownsRow w.heap.size 25 1 (.slice (some ⟨w.heap.size, 0, none⟩) css.length css.length) css.length (rowv (ds ++ [d]) css (k + 1)) ∧
          (∀ i, i < k + 1 → OwnCU (w2.setCell ⟨w.heap.size, k, none⟩ v) ((ds ++ [d]).getD i It.zero).2.2.1 ((ds ++ [d]).getD i It.zero).2.2.2 ((ds ++ [d]).getD i It.zero).1 (css.getD i []).length ((ds ++ [d]).getD i It.zero).2.1 (css.getD i []) ∧
            w.heap.size < ((ds ++ [d]).getD i It.zero).2.2.1 ∧ ((ds ++ [d]).getD i It.zero).2.2.2 ≤ (w2.setCell ⟨w.heap.size, k, none⟩ v).heap.size) ∧
          (∀ i j, i < j → j < k + 1 → ((ds ++ [d]).getD i It.zero).2.2.2 ≤ ((ds ++ [d]).getD j It.zero).2.2.1)) := fun v hv => by
        have hdl := HD.out.1
        have hset : ∀ b, w.heap.size < b → (w2.setCell ⟨w.heap.size, k, none⟩ v).heap[b]? = w2.heap[b]? := fun b hb => Below.heap_setCell _ _ _ _ (show b ≠ w.heap.size by omega)
        refine ⟨?_, fun i hi => ?_, fun i j hij hj => ?_⟩
        · have h1 := (HR2.out.stored k v).1
          rw [← rowv_next ds css k d hlt hdl, ← HM.out, ed, ← hv]
          exact h1
        · rw [ds_append_at _ _ _ (by omega)]
          by_cases e : i = k
          · rw [if_pos (by omega), e, ← HM.out, ed]
            exact ⟨ho2.up.other (by simp) (fun b h1 h2 h3 => hset b (Nat.lt_of_lt_of_le hHw h2)), hHw, by simp⟩
          · rw [if_neg (by omega)]
            have hold := HIT.out i (by omega)
            have hsz : (w2.setCell ⟨w.heap.size, k, none⟩ v).heap.size = w2.heap.size := by simp
            exact ⟨(hold.1.below hb2).other (by simp) (fun b h1 h2 h3 => hset b (by omega)), hold.2.1, by rw [hsz]; omega⟩
        · rw [ds_append_at _ _ _ (by omega), ds_append_at _ _ _ (by omega), if_neg (by omega)]
          by_cases e : j = k
          · rw [if_pos (by omega), ed]
            exact (HIT.out i (by omega)).2.2
          · rw [if_neg (by omega)]
            exact HAP.out i j hij (by omega)
      have HB2 : Hid (Below w.heap.size w w2) := Below.on HB.out hb2
      have HDL : Hid ((ds ++ [d]).length = k + 1 ∧ ∀ i, i < k + 1 → ((ds ++ [d]).getD i It.zero).2.1 = (css.getD i []).length) := by
        have h0 := HD.out
        refine ⟨by simp [h0.1], fun i hi => ?_⟩
        rw [ds_append_at _ _ _ (by omega)]
        by_cases e : i = k
        · rw [if_pos (by omega), ed, e]; exact HM.out
        · rw [if_neg (by omega)]; exact h0.2 i (by omega)
      clear ho2 hb2 hw2 HS ed
      go_wp2_with fail
      go_roundw
      case rel =>
        obtain ⟨n1, n2, n3⟩ := HN.out _ rfl
        exact ⟨k + 1, ds ++ [d], by omega, by go_num, HDL, n1, n2, n3, HB2.out.setCell (p := ⟨w.heap.size, k, none⟩) (Nat.le_refl _) _⟩
      case measure => simp [intOf]; omega
    · obtain rfl : k = css.length := by omega
      have HFIN : Hid (OwnCC wr w.heap.size wr.heap.size (some ⟨w.heap.size, 0, none⟩) css.length css.length css) := by
        have hr := HR.out
        rw [rowv_all] at hr
        refine ⟨ds, rfl, HD.out.1, hr, fun i hi => (HIT.out i hi).1, fun i hi => ⟨by have := (HIT.out i hi).2; omega, (HIT.out i hi).2.2⟩, fun i hi g hg => ?_, HAP.out, fun g hg => ?_⟩
        · have : g = w.heap.size := (Option.some.inj hg).symm
          have h2 := (HIT.out i hi).2.1
          omega
        · exact (hr.lt g hg).2
      have HTI : Hid (TightCC wr (some ⟨w.heap.size, 0, none⟩) css) := fun b o hp i hi => by
        have hr := HR.out
        rw [rowv_all] at hr
        simp only [Option.some.injEq, Addr.mk.injEq, and_true] at hp
        obtain ⟨rfl, rfl⟩ := hp
        refine ⟨(ds.getD i It.zero).1, ?_⟩
        rw [Nat.zero_add, hr.cellAt i (by omega), vals_at ds css i hi, HD.out.2 i hi]
      go_wp2_with fail
      go_ret
      exact ⟨rfl, HFIN.out, HTI.out, HB.out⟩

end Go.Proofs.Ytopdhjnpcpkmlaa
