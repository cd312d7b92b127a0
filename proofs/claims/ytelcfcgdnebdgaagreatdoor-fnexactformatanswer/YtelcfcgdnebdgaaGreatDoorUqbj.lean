/- Texts of SS2, ProofSS, FaM, FaP. Own work of the verifier. -/
import Derived.Test.YtelcfcgdnebdgaaGreatDoorUqbi
import Derived.Test.YtelcfcgdnebdgaaGreatDoorUqac
import Derived.Test.YtelcfcgdnebdgaaGreatDoorUqat
import Derived.Test.YtelcfcgdnebdgaaGreatDoorUqbf
import Derived.Test.YtelcfcgdnebdgaaGreatDoorUqap
import Derived.Test.YtelcfcgdnebdgaaGreatDoorUqbg
namespace Go.Proofs.YtelcfcgdnebdgaaGreatDoor
open Go Go.RowKit
set_option linter.unusedVariables false
structure CCArg (w : World) (p : Option Addr) (css : List (List Cel)) : Prop where
  lies : CCIn w p css
  len : css.length ≤ 9223372036854775807
  item : ∀ i, i < css.length → (css.getD i []).length ≤ 9223372036854775807 ∧ (∀ j, j < (css.getD i []).length → ((css.getD i []).getD j Cel.none).2.2.length ≤ 9223372036854775807) ∧ (∀ j, j < (css.getD i []).length → ∀ x ∈ ((css.getD i []).getD j Cel.none).2.2, 0 ≤ x ∧ x < 256)
theorem CCArg.below {W W' : World} {p : Option Addr} {css : List (List Cel)} (h : CCArg W p css) (hb : Below W.heap.size W W') : CCArg W' p css := ⟨h.lies.below hb, h.len, h.item⟩
theorem szSS_any (p : Option Addr) (cap : Nat) (css : List (List Cel)) (L : Nat) (w : World) (hL : L ≤ 1048576) (hin : CCArg w p css) :
    Calls Tryz.prog 22 #[.slice p css.length cap, .int .i64 L] w fun e w' => e = .returned (.int .i64 (szR L (css.length + tll css))) ∧ Below w.heap.size w w' := by
  have HI : Hid (CCArg w p css) := hin
  have hn := hin.len
  clear hin
  by_cases h : css.length ≤ L
  · have h0 : ¬ ((L : Int) - css.length < 0) := by omega
    go_enter Tryz.func22, Tryz.ntmps22
    go_wp2_with fail
    have HL : Hid (css.length ≤ L) := h
    clear h h0
    go_loopw [1, 5] (fun l i wr => ∃ k : Nat, k ≤ css.length ∧ i = .int .i64 k ∧ Hid (css.length + tll (css.take k) ≤ L) ∧ l = .int .i64 ((L : Int) - (css.length + tll (css.take k) : Nat)) ∧ Hid (Below w.heap.size w wr)) (fun _ i _ => css.length - (intOf i).toNat)
    case atStart => exact ⟨0, Nat.zero_le _, rfl, by simpa [tll, Hid] using HL.out, by simp [tll], Below.refl _ _⟩
    case round =>
      obtain ⟨k, hk, rfl, HT, rfl, HB⟩ := hrel
      by_cases hlt : k < css.length
      · obtain ⟨b, o, rfl, hcs⟩ := (HI.out.below HB.out).lies (by omega)
        obtain ⟨q, qc, d0, d1⟩ := hcs k hlt
        have hit := HI.out.item k hlt
        have htk : Hid _ := tll_take css k hlt
        have htl : Hid _ := tll_take_le css (k + 1)
        obtain ⟨L', eL⟩ : ∃ x, x = L - (css.length + tll (css.take k)) := ⟨_, rfl⟩
        have eL' : ((L : Int) - (css.length + tll (css.take k) : Nat)) = (L' : Int) := by have := HT.out; omega
        have hL' : L' ≤ 1048576 := by omega
        have HS := szCellS_any q qc (css.getD k []) L' wr hL' hit.1 hit.2.1 d1
        rw [eL']
        have HE : Hid (L' = L - (css.length + tll (css.take k))) := eL
        obtain ⟨m, em⟩ : ∃ x, x = (css.getD k []).length := ⟨_, rfl⟩
        obtain ⟨sz, esz⟩ : ∃ x, x = (css.getD k []).length + tl (css.getD k []) := ⟨_, rfl⟩
        rw [← esz] at HS htk
        rw [← em] at HS d0
        clear eL eL' hcs d1 hit em esz
        by_cases hfit : sz ≤ L'
        · have e : szR L' sz = (L' : Int) - sz := by simp [szR, hfit]
          rw [e] at HS
          have h0' : ¬ ((L' : Int) - sz < 0) := by omega
          go_wp2_with fail
          refine HS.mono ?_
          rintro e w' ⟨rfl, hb1⟩
          go_wp2_with fail
          go_roundw
          case rel => exact ⟨k + 1, by omega, by go_num, by have := HT.out; have := htk.out; have := HE.out; show _ ≤ _; omega, by have := HT.out; have := htk.out; have := HE.out; congr 1; omega, Below.on HB.out hb1⟩
          case measure => simp [intOf]; omega
        · have e : szR L' sz = -1 := by simp [szR, hfit]
          rw [e] at HS
          go_wp2_with fail
          refine HS.mono ?_
          rintro e w' ⟨rfl, hb1⟩
          go_wp2_with fail
          go_ret
          refine ⟨ret_int ?_, Below.on HB.out hb1⟩
          have := HT.out; have := htk.out; have := HE.out; have := htl.out
          rw [szR, if_neg (by omega)]
      · obtain rfl : k = css.length := by omega
        rw [List.take_length] at *
        go_wp2_with fail
        go_ret
        exact ⟨ret_int (by rw [szR, if_pos HT.out]), HB.out⟩
  · have e : szR L (css.length + tll css) = -1 := by rw [szR, if_neg (by omega)]
    rw [e]
    have h0 : (L : Int) - css.length < 0 := by omega
    go_enter Tryz.func22, Tryz.ntmps22
    go_wp2_with fail
    go_ret
    exact ⟨rfl, Below.refl _ _⟩
def rowv (ds : List It) (css : List (List Cel)) (k : Nat) : List Value := (List.range css.length).map fun i => if i < k then .slice (ds.getD i It.zero).1 (css.getD i []).length (ds.getD i It.zero).2.1 else .slice none 0 0
theorem rowv_zero (css : List (List Cel)) : rowv [] css 0 = List.replicate css.length (.slice none 0 0) := by
  apply List.ext_getElem?
  intro i
  by_cases h : i < css.length
  · simp [rowv, h]
  · rw [List.getElem?_eq_none (by simp [rowv]; omega), List.getElem?_eq_none (by simp; omega)]
theorem rowv_all (ds : List It) (css : List (List Cel)) : rowv ds css css.length = vals ds css := by
  simp only [rowv, vals]
  refine List.map_congr_left fun i hi => ?_
  rw [if_pos (List.mem_range.1 hi)]
theorem rowv_next (ds : List It) (css : List (List Cel)) (k : Nat) (d : It) (hk : k < css.length) (hd : ds.length = k) : (rowv ds css k).set k (.slice d.1 (css.getD k []).length d.2.1) = rowv (ds ++ [d]) css (k + 1) := by
  apply List.ext_getElem?
  intro i
  by_cases h : i < css.length
  · rw [List.getElem?_set]
    by_cases e : k = i
    · subst e
      simp [rowv, h, hd]
    · rw [if_neg e]
      simp only [rowv, List.getElem?_map, List.getElem?_range h, Option.map_some]
      by_cases h2 : i < k
      · rw [if_pos h2, if_pos (by omega), ds_append_at _ _ _ (by omega), if_neg (by omega)]
      · rw [if_neg h2, if_neg (by omega)]
  · rw [List.getElem?_eq_none (by simp [rowv]; omega), List.getElem?_eq_none (by simp [rowv]; omega)]
theorem rowv_at (ds : List It) (css : List (List Cel)) (k : Nat) (hk : k < css.length) : (rowv ds css k)[k]? = some (.slice none 0 0) := by simp [rowv, hk]
def TightCC (w : World) (p : Option Addr) (css : List (List Cel)) : Prop := ∀ b o, p = some ⟨b, o, none⟩ → ∀ i, i < css.length → ∃ q, w.cell? ⟨b, o + i, none⟩ = some (.slice q (css.getD i []).length (css.getD i []).length)
theorem TightCC.below {w w' : World} {p : Option Addr} {css : List (List Cel)} (h : TightCC w p css) (hb : Below w.heap.size w w') : TightCC w' p css := fun b o hp i hi => by
  obtain ⟨q, hq⟩ := h b o hp i hi
  exact ⟨q, (hb.cell (World.block_lt_of_cell? _ _ hq)).trans hq⟩
theorem toSS_any (p : Option Addr) (cap : Nat) (css : List (List Cel)) (w : World) (hn : css.length + tll css ≤ 1048576) (hin : CCArg w p css) :
    Calls Tryz.prog 24 #[.slice p css.length cap] w fun e w' => e = .returned (.slice (some ⟨w.heap.size, 0, none⟩) css.length css.length) ∧ OwnCC w' w.heap.size w'.heap.size (some ⟨w.heap.size, 0, none⟩) css.length css.length css ∧ TightCC w' (some ⟨w.heap.size, 0, none⟩) css ∧ Below w.heap.size w w' := by
  obtain ⟨i0, hi, hz0, hz1, hz2⟩ := info_parts infoCells
  have hmx : css.length ≤ maxLen := by unfold maxLen; omega
  have HC : Hid (CCArg w p css) := hin
  clear hin
  go_enter Tryz.func24, Tryz.ntmps24
  go_wp2_with (at_make; refine wpList_make_full _ rfl _ _ 46 rfl w.heap.size 32 i0 (.slice none 0 0) 1 Tryz.underlying46 hi hz0 hz1 _ _ _ _ css.length rfl rfl rfl rfl (by rw [hz2]; omega) hmx (Nat.le_refl _) ?_; intro w1 hown hgrow)
  have HB1 : Hid (Below w.heap.size w w1) := (Below.refl _ _).grown hgrow (Nat.le_refl _) (fun k h => by cases h)
  have HO : Hid (w1.ownsRow w.heap.size 32 1 (.slice (some ⟨w.heap.size, 0, none⟩) css.length css.length) css.length (rowv [] css 0)) := by
    have := hown
    simp [Value.cells, toList_madeCells_one] at this
    rw [rowv_zero]
    exact this
  clear hown hgrow
  go_loopw [4] (fun i wr => ∃ (k : Nat) (ds : List It), k ≤ css.length ∧ i = .int .i64 k ∧ Hid (ds.length = k ∧ ∀ i, i < k → (ds.getD i It.zero).2.1 = (css.getD i []).length) ∧ Hid (wr.ownsRow w.heap.size 32 1 (.slice (some ⟨w.heap.size, 0, none⟩) css.length css.length) css.length (rowv ds css k)) ∧
    Hid (∀ i, i < k → OwnCU wr (ds.getD i It.zero).2.2.1 (ds.getD i It.zero).2.2.2 (ds.getD i It.zero).1 (css.getD i []).length (ds.getD i It.zero).2.1 (css.getD i []) ∧ w.heap.size < (ds.getD i It.zero).2.2.1 ∧ (ds.getD i It.zero).2.2.2 ≤ wr.heap.size) ∧
    Hid (∀ i j, i < j → j < k → (ds.getD i It.zero).2.2.2 ≤ (ds.getD j It.zero).2.2.1) ∧ Hid (Below w.heap.size w wr)) (fun i _ => css.length - (intOf i).toNat)
  case atStart => exact ⟨0, [], Nat.zero_le _, rfl, ⟨rfl, fun i h => by omega⟩, HO, fun i h => by omega, fun i j _ h => by omega, HB1⟩
  case round =>
    obtain ⟨k, ds, hk, rfl, HD, HR, HIT, HAP, HB⟩ := hrel
    by_cases hlt : k < css.length
    · obtain ⟨b, o, rfl, hcs⟩ := (HC.out.below HB.out).lies (by omega)
      obtain ⟨q, qc, d0, d1⟩ := hcs k hlt
      have hbd := tll_at css k hlt
      have HS := toCellS_any q qc (css.getD k []) wr (by omega) d1
      obtain ⟨m, em⟩ : ∃ x, x = (css.getD k []).length := ⟨_, rfl⟩
      have HM : Hid (m = (css.getD k []).length) := em
      rw [← em] at HS d0
      have hHw : w.heap.size < wr.heap.size := (HR.out.lt w.heap.size rfl).2
      clear hcs d1 hbd em
      go_wp2_with fail
      refine HS.mono ?_
      rintro e w2 ⟨rfl, ho2, hb2⟩
      have HR2 : Hid (w2.ownsRow w.heap.size 32 1 (.slice (some ⟨w.heap.size, 0, none⟩) css.length css.length) css.length (rowv ds css k)) := row_below HR.out hb2
      have e0 := (HR2.out.cellAt k (by omega)).trans (rowv_at ds css k hlt)
      have e1 := HR2.out.frozenAt k
      have hw2 := hb2.size
      obtain ⟨d, ed⟩ : ∃ d : It, d = (some ⟨wr.heap.size, 0, none⟩, m, wr.heap.size, w2.heap.size) := ⟨_, rfl⟩
      have HN : Hid (∀ v, v = Value.slice (some ⟨wr.heap.size, 0, none⟩) m m → (w2.setCell ⟨w.heap.size, k, none⟩ v).ownsRow w.heap.size 32 1 (.slice (some ⟨w.heap.size, 0, none⟩) css.length css.length) css.length (rowv (ds ++ [d]) css (k + 1)) ∧
          (∀ i, i < k + 1 → OwnCU (w2.setCell ⟨w.heap.size, k, none⟩ v) ((ds ++ [d]).getD i It.zero).2.2.1 ((ds ++ [d]).getD i It.zero).2.2.2 ((ds ++ [d]).getD i It.zero).1 (css.getD i []).length ((ds ++ [d]).getD i It.zero).2.1 (css.getD i []) ∧
            w.heap.size < ((ds ++ [d]).getD i It.zero).2.2.1 ∧ ((ds ++ [d]).getD i It.zero).2.2.2 ≤ (w2.setCell ⟨w.heap.size, k, none⟩ v).heap.size) ∧
          (∀ i j, i < j → j < k + 1 → ((ds ++ [d]).getD i It.zero).2.2.2 ≤ ((ds ++ [d]).getD j It.zero).2.2.1)) := fun v hv => by
        have hdl := HD.out.1
        have hset : ∀ b, w.heap.size < b → (w2.setCell ⟨w.heap.size, k, none⟩ v).heap[b]? = w2.heap[b]? := fun b hb => Below.heap_setCell _ _ _ _ (show b ≠ w.heap.size by omega)
        refine ⟨?_, fun i hi => ?_, fun i j hij hj => ?_⟩
        · have h1 := (HR2.out.stored k v).1
          rw [← rowv_next ds css k d hlt hdl, ← HM.out, ed, ← hv]
          exact h1
        · rw [ds_append_at _ _ _ (by omega)]
          by_cases e : i = k
          · rw [if_pos (by omega), e, ← HM.out, ed]
            exact ⟨ho2.up.other (by simp) (fun b h1 h2 h3 => hset b (Nat.lt_of_lt_of_le hHw h2)), hHw, by simp⟩
          · rw [if_neg (by omega)]
            have hold := HIT.out i (by omega)
            have hsz : (w2.setCell ⟨w.heap.size, k, none⟩ v).heap.size = w2.heap.size := by simp
            exact ⟨(hold.1.below hb2).other (by simp) (fun b h1 h2 h3 => hset b (by omega)), hold.2.1, by rw [hsz]; omega⟩
        · rw [ds_append_at _ _ _ (by omega), ds_append_at _ _ _ (by omega), if_neg (by omega)]
          by_cases e : j = k
          · rw [if_pos (by omega), ed]
            exact (HIT.out i (by omega)).2.2
          · rw [if_neg (by omega)]
            exact HAP.out i j hij (by omega)
      have HB2 : Hid (Below w.heap.size w w2) := Below.on HB.out hb2
      have HDL : Hid ((ds ++ [d]).length = k + 1 ∧ ∀ i, i < k + 1 → ((ds ++ [d]).getD i It.zero).2.1 = (css.getD i []).length) := by
        have h0 := HD.out
        refine ⟨by simp [h0.1], fun i hi => ?_⟩
        rw [ds_append_at _ _ _ (by omega)]
        by_cases e : i = k
        · rw [if_pos (by omega), ed, e]; exact HM.out
        · rw [if_neg (by omega)]; exact h0.2 i (by omega)
      clear ho2 hb2 hw2 HS ed
      go_wp2_with fail
      go_roundw
      case rel =>
        obtain ⟨n1, n2, n3⟩ := HN.out _ rfl
        exact ⟨k + 1, ds ++ [d], by omega, by go_num, HDL, n1, n2, n3, HB2.out.setCell (p := ⟨w.heap.size, k, none⟩) (Nat.le_refl _) _⟩
      case measure => simp [intOf]; omega
    · obtain rfl : k = css.length := by omega
      have HFIN : Hid (OwnCC wr w.heap.size wr.heap.size (some ⟨w.heap.size, 0, none⟩) css.length css.length css) := by
        have hr := HR.out
        rw [rowv_all] at hr
        refine ⟨ds, rfl, HD.out.1, hr, fun i hi => (HIT.out i hi).1, fun i hi => ⟨by have := (HIT.out i hi).2; omega, (HIT.out i hi).2.2⟩, fun i hi g hg => ?_, HAP.out, fun g hg => ?_⟩
        · have : g = w.heap.size := (Option.some.inj hg).symm
          have h2 := (HIT.out i hi).2.1
          omega
        · exact (hr.lt g hg).2
      have HTI : Hid (TightCC wr (some ⟨w.heap.size, 0, none⟩) css) := fun b o hp i hi => by
        have hr := HR.out
        rw [rowv_all] at hr
        simp only [Option.some.injEq, Addr.mk.injEq, and_true] at hp
        obtain ⟨rfl, rfl⟩ := hp
        refine ⟨(ds.getD i It.zero).1, ?_⟩
        rw [Nat.zero_add, hr.cellAt i (by omega), vals_at ds css i hi, HD.out.2 i hi]
      go_wp2_with fail
      go_ret
      exact ⟨rfl, HFIN.out, HTI.out, HB.out⟩
end Go.Proofs.YtelcfcgdnebdgaaGreatDoor
namespace Go.Proofs.YtelcfcgdnebdgaaGreatDoor
open Go Go.ChangeShapes Go.WideShapes Go.ChangeAt Go.WideMaps Go.WideElems Go.RowKit Go.Deep
theorem cellsSlice : Tryz.prog.cellsOf 23 = 1 := by kernel_rfl
theorem getD_map_range2 (f : Nat → List Cel) (n i : Nat) (h : i < n) : ((List.range n).map f).getD i [] = f i := by
  simp [List.getD, h]
theorem openedItem {H : Type} {enc : TypeId × Value → H} {W : World} {fuel : Nat} {cs : List Value} {x : DataW H × List MemPlace} (hl : cs.length = 1)
    (h : DataW.trod enc Tryz.prog W 0 (fun _ => true) true fuel 23 cs = some x) : ∃ (p : Option Addr) (cap : Nat) (ys : List Cel), cs = [.slice p ys.length cap] ∧ CArg W p ys := by
  obtain ⟨v, rfl⟩ : ∃ v, cs = [v] := by
    match cs, hl with
    | [v], _ => exact ⟨v, rfl⟩
  have hv : ∃ a len cap, v = .slice a len cap := by
    rcases open_slice Tryz.underlying23 h with ⟨hcs, hx⟩ | ⟨a, len', cap', m, n, D, Pl, hcs, _⟩
    · exact ⟨none, 0, 0, by simpa using hcs⟩
    · exact ⟨some a, len', cap', by simpa using hcs⟩
  obtain ⟨a, len, cap, rfl⟩ := hv
  obtain ⟨d, pl⟩ := x
  obtain ⟨ys, rfl, hin⟩ := openedCells (d0 := d) (p := pl) ⟨fuel, h⟩
  exact ⟨a, cap, ys, rfl, hin⟩
theorem openedSS {H : Type} {enc : TypeId × Value → H} {W : World} {a0 : Option Addr} {len cap : Nat} {d0 : DataW H} {p : List MemPlace}
    (h0 : DataW.Trod enc Tryz.prog W 0 (fun _ => true) true 43 (.slice a0 len cap) d0 p) : ∃ css : List (List Cel), css.length = len ∧ CCArg W a0 css := by
  obtain ⟨fuel, hf⟩ := h0
  rcases open_slice Tryz.underlying43 hf with ⟨hcs, hx⟩ | ⟨a, len', cap', m, n, D, Pl, hcs, hb, hl, hm, hmm, hx, hel⟩
  · simp [Value.cells] at hcs
    obtain ⟨rfl, rfl, rfl⟩ := hcs
    exact ⟨[], rfl, fun h => absurd h (Nat.lt_irrefl 0), by decide, fun i h => by simp at h⟩
  · simp [Value.cells] at hcs
    obtain ⟨rfl, rfl, rfl⟩ := hcs
    simp only [if_true] at hmm
    subst hmm
    unfold maxLen at hm
    obtain ⟨b, o, s⟩ := a
    have each0 : ∀ i, i < len → ∃ c : List Cel × Option Addr × Nat, W.cell? (((⟨b, o, s⟩ : Addr).add (i * 1)).add 0) = some (.slice c.2.1 c.1.length c.2.2) ∧ CArg W c.2.1 c.1 := fun i hi => by
      obtain ⟨cs', hc, ht⟩ := hel i (by omega)
      have hc1 := World.cells?_some hc
      rw [cellsSlice] at hc hc1
      obtain ⟨q, qc, ys, rfl, hin⟩ := openedItem (by simpa using hc1.2.1) ht
      have g0 := hc1.2.2 0 (by decide)
      exact ⟨(ys, q, qc), by simpa using g0, hin⟩
    obtain ⟨f, hfx⟩ := choose_lt each0
    have hat : ∀ i, i < len → ((List.range len).map (fun i => (f i).1)).getD i [] = (f i).1 := fun i hi => getD_map_range2 (fun i => (f i).1) len i hi
    refine ⟨(List.range len).map (fun i => (f i).1), by simp, fun hn => ?_, by simp; omega, fun i hi => ?_⟩
    · have hn' : 0 < len := by simpa using hn
      have g := World.cell?_spot (hfx 0 hn').1
      obtain rfl : s = none := by simpa [Addr.add] using g
      refine ⟨b, o, rfl, fun i hi => ?_⟩
      have hi' : i < len := by simpa using hi
      rw [hat i hi']
      have g0 := (hfx i hi').1
      simp only [add_plain, Nat.mul_one, Nat.add_zero] at g0
      exact ⟨_, _, g0, (hfx i hi').2.lies⟩
    · have hi' : i < len := by simpa using hi
      rw [hat i hi']
      exact ⟨(hfx i hi').2.len, (hfx i hi').2.text, (hfx i hi').2.byte⟩
end Go.Proofs.YtelcfcgdnebdgaaGreatDoor
namespace Go.Proofs.YtelcfcgdnebdgaaGreatDoor
open Go Go.RowKit
set_option linter.unusedVariables false
def GoodR5 (rec : Tr → Int → List Int) : Prop := ∀ (t : Tr) (p : Int), t.fo.ok → (itC t).length ≤ 2000 → Byte (rec t p) ∧ (rec t p).length ≤ 5000 * (itC t).length
theorem sum_good5 (g : Tr → List Int) : ∀ L : List Tr, (∀ k ∈ L, (g k).length ≤ 5000 * (itC k).length) → ((L.map g).map List.length).sum ≤ 5000 * (L.map fun k => (itC k).length).sum
  | [], _ => by simp
  | a :: r, h => by
    have h1 := h a (by simp)
    have h2 := sum_good5 g r (fun k hk => h k (List.mem_cons_of_mem _ hk))
    simp only [List.map_cons, List.sum_cons]
    omega
theorem operand_good5 {rec : Tr → Int → List Int} (hg : GoodR5 rec) (T : List Cel) (t : Tr) (p : Int) (left : Bool) (op : Cel) (ht : t.fo.ok) (hl : (itC t).length ≤ 2000) : Byte (operandW rec T t p left op) ∧ (operandW rec T t p left op).length ≤ 5000 * (itC t).length + 2 := by
  obtain ⟨h1, h2⟩ := hg t p ht hl
  have h3 := par_good h1
  unfold operandW
  split
  · exact ⟨h3.1, by omega⟩
  · split
    · exact ⟨h3.1, by omega⟩
    · exact ⟨h1, by omega⟩
set_option maxHeartbeats 800000 in
theorem text_good5 {T : List Cel} (q : Bool) (hT : OpsG T) : ∀ f, GoodR5 (textF T [] q f)
  | 0 => fun t p _ _ => ⟨byte_nil, by simp [textF]⟩
  | f + 1 => fun t p ht hl => by
    have ih := text_good5 q hT f
    have hpos : 1 ≤ (itC t).length := by simp [itC]
    have hsz : (itC t).length = t.2.cells.length + 1 := by simp [itC]
    obtain ⟨hb, hbl⟩ := text_byte ht
    unfold textF
    split
    · unfold varW
      split
      · rename_i h
        exact absurd h.2 (by simp)
      · have := dec_len 20 t.1.2.1
        exact ⟨byte_cons ⟨by decide, by decide⟩ (dec_byte _ _), by simp only [List.length_cons, decW]; omega⟩
    · split
      · have := dec_len 20 t.1.2.1
        exact ⟨dec_byte _ _, by simp only [decW]; omega⟩
      · split
        · exact ⟨atomW_byte q hb, by have := atomW_len q hbl; omega⟩
        · split
          · rename_i hdot
            have hs := split_sizeW (t.2.cells.length) t.1 t.2 (Nat.le_refl _) ht
            have hone := hs.2 hdot
            obtain ⟨o1, o2⟩ := split_in (t.2.cells.length) t.1 t.2 (Nat.le_refl _) ht
            have hsum : (((splitF t.1 t.2).1.map fun x => (itC x).length)).sum + (itC (splitF t.1 t.2).2).length + (splitF t.1 t.2).1.length ≤ t.2.cells.length + 1 := hs.1
            have hle : ∀ x ∈ (splitF t.1 t.2).1, (itC x).length ≤ 2000 := fun x hx => by
              have h9 : (itC x).length ≤ (((splitF t.1 t.2).1.map fun x => (itC x).length)).sum := by
                have : (itC x).length ∈ (splitF t.1 t.2).1.map fun x => (itC x).length := List.mem_map.2 ⟨x, hx, rfl⟩
                exact mem_sum _ _ this
              omega
            have g1 : ∀ x ∈ (splitF t.1 t.2).1, Byte (textF T [] q f x 999) ∧ (textF T [] q f x 999).length ≤ 5000 * (itC x).length := fun x hx => ih x 999 (o1 x hx) (hle x hx)
            have g2 := ih (splitF t.1 t.2).2 999 o2 (by omega)
            have j1 := join_len ((splitF t.1 t.2).1.map (textF T [] q f · 999))
            have j2 := sum_good5 (textF T [] q f · 999) (splitF t.1 t.2).1 (fun x hx => (g1 x hx).2)
            have j3 := len_sum (splitF t.1 t.2).1
            have j4 : Byte (joinW ((splitF t.1 t.2).1.map (textF T [] q f · 999))) := join_byte _ (fun a ha => by
              obtain ⟨x, hx, rfl⟩ := List.mem_map.1 ha
              exact (g1 x hx).1)
            simp only [List.length_map] at j1
            unfold listW
            split
            · exact ⟨byte_cons ⟨by decide, by decide⟩ (byte_app j4 (byte_app byte_nil (byte_one (by decide) (by decide)))), by simp only [List.length_cons, List.length_append, List.length_nil]; omega⟩
            · exact ⟨byte_cons ⟨by decide, by decide⟩ (byte_app j4 (byte_app (byte_cons ⟨by decide, by decide⟩ g2.1) (byte_one (by decide) (by decide)))), by simp only [List.length_cons, List.length_append, List.length_nil]; omega⟩
          · rename_i hk0 hk1 hk2 hnd
            have h3 : t.1.1 = 3 := by have := ht.1; simp only [cellB, decide_eq_true_eq] at this; omega
            have hcnt := ht.2.2.1 h3
            split
            · rename_i hcu
              have h1 : t.2.count = 1 := by rw [hcu] at hcnt; have e : (curly.2.1 : Int) = 1 := rfl; omega
              have hk := kid_at (t := t) (i := 0) (by omega)
              have g := ih (kidW t 0) 1200 (trs_okW ht.2.2.2.2.1 _ hk) (by have := trs_le _ _ hk; omega)
              have := trs_le _ _ hk
              exact ⟨byte_cons ⟨by decide, by decide⟩ (byte_app g.1 (byte_one (by decide) (by decide))), by simp only [List.length_cons, List.length_append, List.length_nil]; omega⟩
            · have hg1 : Byte (plainW (textF T [] q f) q t) ∧ (plainW (textF T [] q f) q t).length ≤ 5000 * t.2.cells.length + 3000 := by
                have g1 : ∀ x ∈ trs t.2, Byte (textF T [] q f x 999) ∧ (textF T [] q f x 999).length ≤ 5000 * (itC x).length := fun x hx => ih x 999 (trs_okW ht.2.2.2.2.1 _ hx) (by have := trs_le _ _ hx; omega)
                have j1 := join_len ((trs t.2).map (textF T [] q f · 999))
                have j2 := sum_good5 (textF T [] q f · 999) (trs t.2) (fun x hx => (g1 x hx).2)
                have j3 := len_sum (trs t.2)
                have j4 : Byte (joinW ((trs t.2).map (textF T [] q f · 999))) := join_byte _ (fun a ha => by
                  obtain ⟨x, hx, rfl⟩ := List.mem_map.1 ha
                  exact (g1 x hx).1)
                have j5 := trs_sum t.2
                have hh := head_good q hb hbl
                simp only [List.length_map] at j1
                unfold plainW
                exact ⟨byte_app (byte_app (byte_app hh.1 (byte_one (by decide) (by decide))) j4) (byte_one (by decide) (by decide)), by simp only [List.length_cons, List.length_append, List.length_nil]; omega⟩
              unfold compW
              split
              · exact ⟨hg1.1, by omega⟩
              · rename_i htop
                obtain ⟨_, _, _, j, hj, hje, hkind⟩ := top_facts (T := T) (c := t.1) (by omega)
                rw [hje]
                have hop : Byte (opW T (j : Int)).2.2 ∧ (opW T (j : Int)).2.2.length ≤ 100 := by
                  have e : opW T (j : Int) = T.getD j Cel.none := by simp [opW]
                  rw [e]; exact hT j hj
                obtain ⟨op, eop⟩ : ∃ op, op = opW T (j : Int) := ⟨_, rfl⟩
                rw [← eop] at hop hkind ⊢
                have hnm := name_good q hop
                have hoper : Byte (operW (textF T [] q f) T q t op) ∧ (operW (textF T [] q f) T q t op).length ≤ 5000 * t.2.cells.length + 1300 := by
                  have kid : ∀ i, i < t.2.count → ∀ p l, Byte (operandW (textF T [] q f) T (kidW t i) p l op) ∧ (operandW (textF T [] q f) T (kidW t i) p l op).length ≤ 5000 * (itC (kidW t i)).length + 2 := fun i hi p l => operand_good5 ih T _ p l op (trs_okW ht.2.2.2.2.1 _ (kid_at hi)) (by have := trs_le _ _ (kid_at hi); omega)
                  have hc1 : 1 ≤ t.2.count := by
                    have := ht.1; rw [h3] at this
                    have := cellB_comp this
                    omega
                  unfold operW
                  split
                  · have g := kid 0 (by omega) (rightP op) false
                    have pg := pre_good q op (operandW (textF T [] q f) T (kidW t 0) (rightP op) false op)
                    have := trs_le _ _ (kid_at (t := t) (i := 0) (by omega))
                    exact ⟨byte_app (byte_app hnm.1 pg.1) g.1, by simp only [List.length_append]; omega⟩
                  · rename_i hpre
                    have g := kid 0 (by omega) (leftP op) true
                    have mg := mid_good op (operandW (textF T [] q f) T (kidW t 0) (leftP op) true op) (nameW q op)
                    split
                    · rename_i hinf
                      have h2 : t.2.count = 2 := by
                        rcases hkind with ⟨hk, _, _⟩ | ⟨_, _, hk | ⟨_, hk⟩⟩
                        · omega
                        · exact absurd hk hpre
                        · rw [hinf] at hk; cases hk
                      have g' := kid 1 (by omega) (rightP op) false
                      have mg' := mid_good op (nameW q op) (operandW (textF T [] q f) T (kidW t 1) (rightP op) false op)
                      have := two_kids h2
                      exact ⟨byte_app (byte_app (byte_app g.1 mg.1) hnm.1) (byte_app mg'.1 g'.1), by simp only [List.length_append]; omega⟩
                    · have := trs_le _ _ (kid_at (t := t) (i := 0) (by omega))
                      exact ⟨byte_app (byte_app g.1 mg.1) hnm.1, by simp only [List.length_append]; omega⟩
                have hp := par_good hoper.1
                split
                · exact ⟨hp.1, by omega⟩
                · exact ⟨hoper.1, by omega⟩
end Go.Proofs.YtelcfcgdnebdgaaGreatDoor
namespace Go.Proofs.YtelcfcgdnebdgaaGreatDoor
open Go Go.RowKit
set_option linter.unusedVariables false
open Classical in
noncomputable def trC (xs : List Cel) : Tr := if h : ∃ t : Tr, xs = t.1 :: t.2.cells ∧ (Fo.node t.1 t.2 .nil).ok then h.choose else (Cel.none, .nil)
theorem trC_ok {xs : List Cel} (hb : ∀ i, i < xs.length → Byte (xs.getD i Cel.none).2.2) (hv : validB xs = true) : xs = (trC xs).1 :: (trC xs).2.cells ∧ (Fo.node (trC xs).1 (trC xs).2 .nil).ok ∧ xs.length ≤ 2000 := by
  obtain ⟨c, k, e, hok, hl⟩ := tree_ofW hb hv
  have h : ∃ t : Tr, xs = t.1 :: t.2.cells ∧ (Fo.node t.1 t.2 .nil).ok := ⟨(c, k), e, hok⟩
  unfold trC
  rw [dif_pos h]
  exact ⟨h.choose_spec.1, h.choose_spec.2, hl⟩
noncomputable def valC (T : List Cel) (xs : List Cel) : List Int := textF T [] true xs.length (trC xs) 699
def sepR (R : List Int) : List Int := if R = [] then [] else R ++ [44, 10]
noncomputable def faOne (T : List Cel) (R nm : List Int) (xs : List Cel) : List Int := sepR R ++ nm ++ [32, 61, 32] ++ valC T xs
noncomputable def faI (T : List Cel) (N : List (List Int)) (D : List (List Cel)) : Nat → List Int
  | 0 => []
  | i + 1 => if N.getD i [] = [] then faI T N D i else faOne T (faI T N D i) (N.getD i []) (D.getD i [])
noncomputable def faA (T : List Cel) (N : List (List Int)) (D : List (List Cel)) : List Int := if faI T N D N.length = [] then [116, 114, 117, 101] else faI T N D N.length
def allV (D : List (List Cel)) (i : Nat) : Prop := ∀ j, j < i → validB (D.getD j []) = true
def faG (T : List Cel) (N : List (List Int)) (D : List (List Cel)) : Prop := tabB T = true ∧ N.length = D.length ∧ allV D D.length
open Classical in
noncomputable def faR (T : List Cel) (N : List (List Int)) (D : List (List Cel)) : List Int := if faG T N D then faA T N D else []
theorem faR_yes {T : List Cel} {N : List (List Int)} {D : List (List Cel)} (h : faG T N D) : faR T N D = faA T N D := by unfold faR; rw [if_pos h]
theorem faR_no {T : List Cel} {N : List (List Int)} {D : List (List Cel)} (h : ¬ faG T N D) : faR T N D = [] := by unfold faR; rw [if_neg h]
structure FaB (T : List Cel) (N : List (List Int)) (D : List (List Cel)) : Prop where
  tb : ∀ i, i < T.length → Byte (T.getD i Cel.none).2.2
  nb : ∀ i, i < N.length → Byte (N.getD i [])
  db : ∀ i, i < D.length → ∀ j, j < (D.getD i []).length → Byte ((D.getD i []).getD j Cel.none).2.2
  nl : N.length + tnn N ≤ 1048576
  dl : D.length + tll D ≤ 1048576
theorem val_good {T : List Cel} {N : List (List Int)} {D : List (List Cel)} (h : FaB T N D) (ht : tabB T = true) {i : Nat} (hi : i < D.length) (hv : validB (D.getD i []) = true) :
    Byte (valC T (D.getD i [])) ∧ (valC T (D.getD i [])).length ≤ 5000 * (D.getD i []).length := by
  obtain ⟨e, hok, hl⟩ := trC_ok (h.db i hi) hv
  obtain ⟨_, ft⟩ := tab_facts ht
  have hc : (itC (trC (D.getD i []))).length = (D.getD i []).length := by
    have := congrArg List.length e
    simp only [List.length_cons] at this
    simp only [itC, List.length_cons]; omega
  have hg := text_good5 (T := T) true (fun j hj => ⟨h.tb j hj, (ft j hj).1.2⟩) (D.getD i []).length (trC (D.getD i [])) 699 hok (by omega)
  rw [hc] at hg
  exact hg
theorem sep_len (R : List Int) : (sepR R).length ≤ R.length + 2 := by unfold sepR; split <;> simp
theorem sep_byte {R : List Int} (h : Byte R) : Byte (sepR R) := by
  unfold sepR; split
  · exact byte_nil
  · exact byte_app h (byte_cons ⟨by decide, by decide⟩ (byte_one (by decide) (by decide)))
theorem byte_eq3 : Byte [32, 61, 32] := byte_cons ⟨by decide, by decide⟩ (byte_cons ⟨by decide, by decide⟩ (byte_one (by decide) (by decide)))
theorem faI_good {T : List Cel} {N : List (List Int)} {D : List (List Cel)} (h : FaB T N D) (ht : tabB T = true) (hl : N.length = D.length) : ∀ i, i ≤ N.length → allV D i → Byte (faI T N D i) ∧ (faI T N D i).length ≤ 5 * i + tnn (N.take i) + 5000 * tll (D.take i)
  | 0, _, _ => ⟨byte_nil, by simp [faI]⟩
  | i + 1, hi, hv => by
    obtain ⟨h1, h2⟩ := faI_good h ht hl i (by omega) (fun j hj => hv j (by omega))
    have hg := val_good h ht (i := i) (by omega) (hv i (by omega))
    have e1 := tnn_take N i (by omega)
    have e2 := tll_take D i (by omega)
    have hs := sep_len (faI T N D i)
    unfold faI
    split
    · exact ⟨h1, by omega⟩
    · refine ⟨byte_app (byte_app (byte_app (sep_byte h1) (h.nb i (by omega))) byte_eq3) hg.1, ?_⟩
      have h5 := hg.2
      simp only [faOne, List.length_append, List.length_cons, List.length_nil]
      omega
theorem faI_len {T : List Cel} {N : List (List Int)} {D : List (List Cel)} (h : FaB T N D) (ht : tabB T = true) (hl : N.length = D.length) (i : Nat) (hi : i ≤ N.length) (hv : allV D i) : Byte (faI T N D i) ∧ (faI T N D i).length ≤ 6000000000 := by
  obtain ⟨h1, h2⟩ := faI_good h ht hl i hi hv
  have := tnn_take_le N i
  have := tll_take_le D i
  have := h.nl
  have := h.dl
  exact ⟨h1, by omega⟩
theorem faOne_len {T : List Cel} {N : List (List Int)} {D : List (List Cel)} (h : FaB T N D) (ht : tabB T = true) (hl : N.length = D.length) (i : Nat) (hi : i < N.length) (hv : allV D (i + 1)) :
    (faOne T (faI T N D i) (N.getD i []) (D.getD i [])).length ≤ 7000000000 := by
  obtain ⟨h1, h2⟩ := faI_len h ht hl i (by omega) (fun j hj => hv j (by omega))
  have hg := (val_good h ht (i := i) (by omega) (hv i (by omega))).2
  have hs := sep_len (faI T N D i)
  have := tnn_at N i hi
  have := tll_at D i (by omega)
  have := h.nl
  have := h.dl
  have hx : (D.getD i []).length ≤ 2000 := (trC_ok (h.db i (by omega)) (hv i (by omega))).2.2
  simp only [faOne, List.length_append, List.length_cons, List.length_nil]
  omega
theorem faR_good {T : List Cel} {N : List (List Int)} {D : List (List Cel)} (h : FaB T N D) : Byte (faR T N D) ∧ (faR T N D).length ≤ 6000000000 := by
  by_cases hg : faG T N D
  · rw [faR_yes hg]
    have hi := faI_len h hg.1 hg.2.1 N.length (Nat.le_refl _) (by rw [hg.2.1]; exact hg.2.2)
    unfold faA
    split
    · exact ⟨byte_cons ⟨by decide, by decide⟩ (byte_cons ⟨by decide, by decide⟩ (byte_cons ⟨by decide, by decide⟩ (byte_one (by decide) (by decide)))), by simp⟩
    · exact hi
  · rw [faR_no hg]; exact ⟨byte_nil, by simp⟩
def FaO (w : World) (T : List Cel) (N : List (List Int)) (D : List (List Cel)) (e : Ending) (w' : World) : Prop := ∃ p n c, e = .returned (.slice p n c) ∧ OwnT w' w.heap.size p n c (faR T N D) ∧ Below w.heap.size w w'
theorem fa_none {w W : World} {T : List Cel} {N : List (List Int)} {D : List (List Cel)} (h : ¬ faG T N D) (hb : Below w.heap.size w W) : FaO w T N D (.returned (.slice none 0 0)) W := ⟨none, 0, 0, rfl, by rw [faR_no h]; exact ownT_nil _ _, hb⟩
end Go.Proofs.YtelcfcgdnebdgaaGreatDoor
