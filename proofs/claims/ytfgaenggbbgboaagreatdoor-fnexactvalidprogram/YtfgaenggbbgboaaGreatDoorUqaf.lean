/- Texts of SSO, SS1, CArg, LawValid, SS2. Own work of the verifier. -/
import Derived.Test.YtfgaenggbbgboaaGreatDoorUqad
import Derived.Test.YtfgaenggbbgboaaGreatDoorUqae
import Derived.Maps.AppendAt
import Derived.Test.YtfgaenggbbgboaaGreatDoorUqac
namespace Go.Proofs.YtfgaenggbbgboaaGreatDoor
open Go Go.RowKit
set_option linter.unusedVariables false
def CCIn (w : World) (p : Option Addr) (css : List (List Cel)) : Prop :=
  0 < css.length → ∃ b o, p = some ⟨b, o, none⟩ ∧ ∀ i, i < css.length → ∃ q c, w.cell? ⟨b, o + i, none⟩ = some (.slice q (css.getD i []).length c) ∧ CIn w q (css.getD i [])
theorem CCIn.below {W W' : World} {p : Option Addr} {css : List (List Cel)} (h : CCIn W p css) (hb : Below W.heap.size W W') : CCIn W' p css := fun hn => by
  obtain ⟨b, o, rfl, hc⟩ := h hn
  refine ⟨b, o, rfl, fun i hi => ?_⟩
  obtain ⟨q, c, h1, h2⟩ := hc i hi
  exact ⟨q, c, (hb.cell (World.block_lt_of_cell? _ _ h1)).trans h1, h2.below hb⟩
def vals (ds : List It) (css : List (List Cel)) : List Value := (List.range css.length).map fun i => .slice (ds.getD i It.zero).1 (css.getD i []).length (ds.getD i It.zero).2.1
theorem vals_at (ds : List It) (css : List (List Cel)) (i : Nat) (h : i < css.length) : (vals ds css)[i]? = some (.slice (ds.getD i It.zero).1 (css.getD i []).length (ds.getD i It.zero).2.1) := by simp [vals, h]
structure OwnSS (w : World) (B U : Nat) (p : Option Addr) (n c : Nat) (css : List (List Cel)) (ds : List It) : Prop where
  len : n = css.length
  dlen : ds.length = css.length
  row : w.ownsRow B 43 1 (.slice p n c) n (vals ds css)
  item : ∀ i, i < css.length → OwnCU w (ds.getD i It.zero).2.2.1 (ds.getD i It.zero).2.2.2 (ds.getD i It.zero).1 (css.getD i []).length (ds.getD i It.zero).2.1 (css.getD i [])
  low : ∀ i, i < css.length → B ≤ (ds.getD i It.zero).2.2.1 ∧ (ds.getD i It.zero).2.2.2 ≤ U
  away : ∀ i, i < css.length → ∀ g, Value.ownBlock (.slice p n c) = some g → g < (ds.getD i It.zero).2.2.1 ∨ (ds.getD i It.zero).2.2.2 ≤ g
  apart : ∀ i j, i < j → j < css.length → (ds.getD i It.zero).2.2.2 ≤ (ds.getD j It.zero).2.2.1
  top : ∀ g, Value.ownBlock (.slice p n c) = some g → g < U
def OwnCC (w : World) (B U : Nat) (p : Option Addr) (n c : Nat) (css : List (List Cel)) : Prop := ∃ ds, OwnSS w B U p n c css ds
theorem OwnCC.nil (w : World) (B U : Nat) : OwnCC w B U none 0 0 [] := ⟨[], rfl, rfl, World.ownsRow_nil _ _ _ _, fun i h => by simp at h, fun i h => by simp at h, fun i h => by simp at h, fun i j _ h => by simp at h, fun g h => by cases h⟩
theorem OwnCC.ccin {w : World} {B U : Nat} {p : Option Addr} {n c : Nat} {css : List (List Cel)} (h : OwnCC w B U p n c css) : CCIn w p css := fun hn => by
  obtain ⟨ds, h⟩ := h
  have hl := h.len
  obtain ⟨g, cap, hv, hb, hg⟩ := h.row.form (by omega)
  simp only [Value.slice.injEq, true_and] at hv
  obtain ⟨rfl, rfl⟩ := hv
  refine ⟨g, 0, rfl, fun i hi => ⟨(ds.getD i It.zero).1, (ds.getD i It.zero).2.1, ?_, (h.item i hi).toC.cin⟩⟩
  rw [Nat.zero_add, h.row.cellAt i (by omega)]
  exact vals_at ds css i hi
theorem OwnSS.other {w w' : World} {B U : Nat} {p : Option Addr} {n c : Nat} {css : List (List Cel)} {ds : List It} (h : OwnSS w B U p n c css ds) (hs : w.heap.size ≤ w'.heap.size) (hb : ∀ k, k < w.heap.size → B ≤ k → k < U → w'.heap[k]? = w.heap[k]?) : OwnSS w' B U p n c css ds := by
  refine ⟨h.len, h.dlen, ⟨h.row.1, ?_⟩, fun i hi => (h.item i hi).other hs (fun k h1 h2 h3 => hb k h1 (by have := h.low i hi; omega) (by have := h.low i hi; omega)), h.low, h.away, h.apart, h.top⟩
  rcases h.row.2 with h' | ⟨g, cap, cur, hv, hB, hg, r⟩
  · exact .inl h'
  · refine .inr ⟨g, cap, cur, hv, hB, (hb g (Array.getElem?_eq_some_iff.1 hg).1 hB (h.top g ?_)).trans hg, r⟩
    simp only [Value.slice.injEq] at hv
    rw [hv.1]; rfl
theorem OwnCC.below {w w' : World} {B U : Nat} {p : Option Addr} {n c : Nat} {css : List (List Cel)} (h : OwnCC w B U p n c css) (hb : Below w.heap.size w w') : OwnCC w' B U p n c css := by
  obtain ⟨ds, h⟩ := h
  exact ⟨ds, h.other hb.size (fun k hk _ _ => hb.block k hk)⟩
theorem OwnCC.keep {w w' : World} {B U B' U' : Nat} {p : Option Addr} {n c : Nat} {css : List (List Cel)} (h : OwnCC w B U p n c css) (hk : Keep B' U' w w') (ho : U ≤ B' ∨ U' ≤ B) : OwnCC w' B U p n c css := by
  obtain ⟨ds, h⟩ := h
  exact ⟨ds, h.other hk.size (fun k h1 h2 h3 => hk.block k h1 (by omega))⟩
theorem OwnCC.up {w : World} {B U U' : Nat} {p : Option Addr} {n c : Nat} {css : List (List Cel)} (h : OwnCC w B U p n c css) (hU : U ≤ U') : OwnCC w B U' p n c css := by
  obtain ⟨ds, h⟩ := h
  exact ⟨ds, h.len, h.dlen, h.row, h.item, fun i hi => ⟨(h.low i hi).1, Nat.le_trans (h.low i hi).2 hU⟩, h.away, h.apart, fun g hg => Nat.lt_of_lt_of_le (h.top g hg) hU⟩
theorem OwnCC.down {w : World} {B B' U : Nat} {p : Option Addr} {n c : Nat} {css : List (List Cel)} (h : OwnCC w B U p n c css) (hB : B' ≤ B) : OwnCC w B' U p n c css := by
  obtain ⟨ds, h⟩ := h
  exact ⟨ds, h.len, h.dlen, ownsRow_down h.row hB, h.item, fun i hi => ⟨Nat.le_trans hB (h.low i hi).1, (h.low i hi).2⟩, h.away, h.apart, h.top⟩
theorem css_append_at (cs : List (List Cel)) (c : List Cel) (i : Nat) (h : i ≤ cs.length) : (cs ++ [c]).getD i [] = if i = cs.length then c else cs.getD i [] := by
  by_cases e : i = cs.length
  · subst e; simp [List.getD]
  · rw [if_neg e, List.getD, List.getD, List.getElem?_append_left (by omega)]
theorem vals_append (ds : List It) (css : List (List Cel)) (d : It) (c : List Cel) (h : ds.length = css.length) : vals (ds ++ [d]) (css ++ [c]) = vals ds css ++ [.slice d.1 c.length d.2.1] := by
  apply List.ext_getElem?
  intro i
  rcases Nat.lt_trichotomy i css.length with hi | hi | hi
  · rw [vals_at _ _ _ (by simp; omega), List.getElem?_append_left (by simpa [vals] using hi), vals_at _ _ _ hi, ds_append_at _ _ _ (by omega), css_append_at _ _ _ (by omega), if_neg (by omega), if_neg (by omega)]
  · subst hi
    rw [vals_at _ _ _ (by simp), List.getElem?_append_right (by simp [vals]), ds_append_at _ _ _ (by omega), css_append_at _ _ _ (by omega), if_pos h.symm, if_pos rfl]
    simp [vals]
  · rw [List.getElem?_eq_none (by simp [vals]; omega), List.getElem?_eq_none (by simp [vals]; omega)]
theorem app_item (W0 w : World) {ops : Array Oper} {rest : List Oper} {o : Oper} {a : Act} {Q : Exit → Act → World → Prop} (hgd : o.guard = none) (s x : Operand)
    (ho : o.op = .call { callee := .builtin .append, args := #[s, x], argTypes := #[29, 29] }) (B : Nat) (p : Option Addr) (n c : Nat) (css : List (List Cel))
    (hs : a.eval s = .slice p n c) (hown : OwnCC W0 B W0.heap.size p n c css) (hb0 : Below W0.heap.size W0 w) (hB : B ≤ W0.heap.size) (q : Option Addr) (m cq : Nat) (cs : List Cel) (hit : OwnC w W0.heap.size q m cq cs)
    (hx : a.eval x = .slice (some ⟨w.heap.size, 0, none⟩) 1 1) (hlen : n + 1 ≤ 1000000)
    (h : ∀ g n' cap w', OwnCC w' B w'.heap.size (some ⟨g, 0, none⟩) n' cap (css ++ [cs]) → Below B (w.alloc (.cells #[.slice q m cq] 43)) w' → Hid (n' = n + 1) → wpList Tryz.prog ops Q rest (a.put o.dst (.slice (some ⟨g, 0, none⟩) n' cap)) w') : wpList Tryz.prog ops Q (o :: rest) a (w.alloc (.cells #[.slice q m cq] 43)) := by
  obtain ⟨i0, hi, hz0, hz1, hz2⟩ := info_parts infoCells
  obtain ⟨ds, hss⟩ := hown
  have hal : Below w.heap.size w (w.alloc (.cells #[.slice q m cq] 43)) := (Below.refl _ _).alloc (Nat.le_refl _) _
  have hb1 := Below.on hb0 hal
  refine wpList_append_lies _ hgd s x 29 ho B 43 i0 (.slice none 0 0) 1 24 Tryz.underlying29 hi hz0 hz1 hz2 rfl (by decide) (.slice p n c) n (vals ds css) hs (row_below hss.row hb1) ⟨w.heap.size, 0, none⟩ 1 1 [.slice q m cq] hx rfl (cell_one_new _ _ _) (fun u hu => by simp at hu; rw [hu]; rfl) (by decide) (by unfold maxLen; omega) (by omega) (Nat.le_trans hB hb1.size) _ rfl ?_
  intro g cap w' hown' hgrow hat hlt
  have hown : ∀ k, Value.ownBlock (.slice p n c) = some k → B ≤ k ∧ k < W0.heap.size := fun k hk => hss.row.lt k hk
  have hm := hit.1
  have hg2 : g < W0.heap.size ∨ w.heap.size ≤ g := by
    rcases hat with h' | h'
    · exact .inl (hown g h').2
    · right; rw [h']; simp
  have hws := hb0.size
  have keepS : ∀ k, k < w.heap.size → (∀ j, Value.ownBlock (.slice p n c) = some j → k ≠ j) → w'.heap[k]? = w.heap[k]? := fun k hk hne =>
    (hgrow.block k (by simp; omega) (fun e => hne k e.symm rfl)).trans (Below.heap_alloc _ _ _ hk)
  have hitU := hit.up
  refine h g _ cap w' ⟨ds ++ [(q, cq, W0.heap.size, w.heap.size)], ?_⟩ ((Below.refl _ _).grown hgrow (Nat.le_trans hB hb1.size) (fun k hk => (hown k hk).1)) rfl
  have hdl := hss.dlen
  have hln := hss.len
  refine ⟨by simp; omega, by simp; omega, by rw [vals_append _ _ _ _ hdl, ← hm]; exact hown', fun i hi => ?_, fun i hi => ?_, fun i hi k hk => ?_, fun i j hij hj => ?_, fun k hk => ?_⟩
  · have hi' : i ≤ css.length := by simp at hi; omega
    rw [ds_append_at _ _ _ (by omega), css_append_at _ _ _ hi']
    by_cases e : i = css.length
    · rw [if_pos (by omega), if_pos e, ← hm]
      exact hitU.other (by have := hgrow.size; simp at this; omega) (fun k h1 h2 h3 => keepS k h1 (fun j hj => by have := (hown j hj).2; omega))
    · rw [if_neg (by omega), if_neg e]
      refine ((hss.item i (by omega)).below hb0).other (by have := hgrow.size; simp at this; omega) (fun k h1 h2 h3 => keepS k h1 (fun j hj => ?_))
      have := hss.away i (by omega) j hj
      omega
  · have hi' : i ≤ css.length := by simp at hi; omega
    rw [ds_append_at _ _ _ (by omega)]
    have hwl : w.heap.size ≤ w'.heap.size := by have := hgrow.size; simp at this; omega
    by_cases e : i = css.length
    · rw [if_pos (by omega)]; exact ⟨hB, hwl⟩
    · rw [if_neg (by omega)]
      have := hss.low i (by omega)
      exact ⟨this.1, by omega⟩
  · have hi' : i ≤ css.length := by simp at hi; omega
    have hk' : k = g := (Option.some.inj hk).symm
    subst hk'
    rw [ds_append_at _ _ _ (by omega)]
    by_cases e : i = css.length
    · rw [if_pos (by omega)]; exact hg2
    · rw [if_neg (by omega)]
      rcases hat with h' | h'
      · exact hss.away i (by omega) _ h'
      · right
        have := (hss.low i (by omega)).2
        have hsz : (w.alloc (.cells #[.slice q m cq] 43)).heap.size = w.heap.size + 1 := by simp
        rw [h', hsz]; omega
  · have hj' : j ≤ css.length := by simp at hj; omega
    rw [ds_append_at _ _ _ (by omega), ds_append_at _ _ _ (by omega), if_neg (by omega)]
    by_cases e : j = css.length
    · rw [if_pos (by omega)]
      exact (hss.low i (by omega)).2
    · rw [if_neg (by omega)]
      exact hss.apart i j hij (by omega)
  · have hk' : k = g := (Option.some.inj hk).symm
    omega
end Go.Proofs.YtfgaenggbbgboaaGreatDoor

namespace Go.Proofs.YtfgaenggbbgboaaGreatDoor
open Go Go.RowKit
set_option linter.unusedVariables false
set_option maxRecDepth 100000 in
theorem eqSS_any (p q : Option Addr) (n m c1 c2 : Nat) (css : List (List Cel)) (w : World) (hn : n = css.length) (hm : m = css.length) (hl : css.length + tll css ≤ 100000000) (hx : CCIn w p css) (hy : CCIn w q css) :
    Calls Tryz.prog 28 #[.slice p n c1, .slice q m c2] w fun e w' => e = .returned (.bool true) ∧ Below w.heap.size w w' := by
  obtain rfl : m = n := by omega
  have HN : Hid (m = css.length) := hn
  have HX : Hid (CCIn w p css) := hx
  have HY : Hid (CCIn w q css) := hy
  have hmm : m ≤ 100000000 := by omega
  clear hn hm hx hy
  go_enter Tryz.func28, Tryz.ntmps28
  go_wp2_with fail
  go_loopw [5] (fun i wr => ∃ k : Nat, k ≤ m ∧ i = .int .i64 k ∧ Hid (Below w.heap.size w wr)) (fun i _ => m - (intOf i).toNat)
  case atStart => exact ⟨0, Nat.zero_le _, rfl, Below.refl _ _⟩
  case round =>
    obtain ⟨k, hk, rfl, HB⟩ := hrel
    by_cases hlt : k < m
    · have hkl : k < css.length := by rw [← HN.out]; exact hlt
      obtain ⟨b, o, rfl, hcx⟩ := (HX.out.below HB.out) (by omega)
      obtain ⟨b', o', rfl, hcy⟩ := (HY.out.below HB.out) (by omega)
      obtain ⟨px, qx, x0, x1⟩ := hcx k hkl
      obtain ⟨py, qy, y0, y1⟩ := hcy k hkl
      have ht := tll_at css k hkl
      have HS : Hid (∀ W, Below wr.heap.size wr W → Calls Tryz.prog 54 #[.slice px (css.getD k []).length qx, .slice py (css.getD k []).length qy] W fun e w' => e = .returned (.bool true) ∧ Below W.heap.size W w') := fun W hW => by
        have := eqCellS_any px py qx qy (css.getD k []) (css.getD k []) W (by omega) (by omega) (x1.below hW) (y1.below hW)
        have e : decide (css.getD k [] = css.getD k []) = true := by simp
        rwa [e] at this
      obtain ⟨l, el⟩ : ∃ l, l = (css.getD k []).length := ⟨_, rfl⟩
      rw [← el] at x0 y0 HS
      clear hcx hcy x1 y1 ht el
      go_wp2_with fail
      go_region_with (go_at_call 54; refine (HS.out _ (Below.refl _ _).drew).mono ?_; rintro e w2 ⟨rfl, hb2⟩)
      all_goals go_wp2_with fail
      all_goals go_roundw
      all_goals first
        | (simp [intOf]; omega)
        | exact ⟨k + 1, by omega, by go_num, Below.on HB.out ((Below.refl _ _).drew.trans hb2)⟩
    · obtain rfl : k = m := by omega
      go_wp2_with fail
      go_ret
      exact ⟨rfl, HB.out⟩
end Go.Proofs.YtfgaenggbbgboaaGreatDoor

namespace Go.Proofs.YtfgaenggbbgboaaGreatDoor
open Go Go.RowKit
set_option linter.unusedVariables false
structure CArg (w : World) (p : Option Addr) (cs : List Cel) : Prop where
  lies : CIn w p cs
  len : cs.length ≤ 9223372036854775807
  text : ∀ i, i < cs.length → (cs.getD i Cel.none).2.2.length ≤ 9223372036854775807
  byte : ∀ i, i < cs.length → ∀ x ∈ (cs.getD i Cel.none).2.2, 0 ≤ x ∧ x < 256
  wide : ∀ i, i < cs.length → -9223372036854775808 ≤ (cs.getD i Cel.none).1 ∧ (cs.getD i Cel.none).1 ≤ 9223372036854775807 ∧ -9223372036854775808 ≤ (cs.getD i Cel.none).2.1 ∧ (cs.getD i Cel.none).2.1 ≤ 9223372036854775807
theorem CArg.below {W W' : World} {p : Option Addr} {cs : List Cel} (h : CArg W p cs) (hb : Below W.heap.size W W') : CArg W' p cs := ⟨h.lies.below hb, h.len, h.text, h.byte, h.wide⟩
end Go.Proofs.YtfgaenggbbgboaaGreatDoor

namespace Go.Proofs.YtfgaenggbbgboaaGreatDoor
open Go Go.RowKit
set_option linter.unusedVariables false
end Go.Proofs.YtfgaenggbbgboaaGreatDoor

namespace Go.Proofs.YtfgaenggbbgboaaGreatDoor
open Go Go.RowKit
set_option linter.unusedVariables false
structure CCArg (w : World) (p : Option Addr) (css : List (List Cel)) : Prop where
  lies : CCIn w p css
  len : css.length ≤ 9223372036854775807
  item : ∀ i, i < css.length → (css.getD i []).length ≤ 9223372036854775807 ∧ (∀ j, j < (css.getD i []).length → ((css.getD i []).getD j Cel.none).2.2.length ≤ 9223372036854775807) ∧ (∀ j, j < (css.getD i []).length → ∀ x ∈ ((css.getD i []).getD j Cel.none).2.2, 0 ≤ x ∧ x < 256)
theorem CCArg.below {W W' : World} {p : Option Addr} {css : List (List Cel)} (h : CCArg W p css) (hb : Below W.heap.size W W') : CCArg W' p css := ⟨h.lies.below hb, h.len, h.item⟩
theorem szSS_any (p : Option Addr) (cap : Nat) (css : List (List Cel)) (L : Nat) (w : World) (hL : L ≤ 1048576) (hin : CCArg w p css) :
    Calls Tryz.prog 10 #[.slice p css.length cap, .int .i64 L] w fun e w' => e = .returned (.int .i64 (szR L (css.length + tll css))) ∧ Below w.heap.size w w' := by
  have HI : Hid (CCArg w p css) := hin
  have hn := hin.len
  clear hin
  by_cases h : css.length ≤ L
  · have h0 : ¬ ((L : Int) - css.length < 0) := by omega
    go_enter Tryz.func10, Tryz.ntmps10
    go_wp2_with fail
    have HL : Hid (css.length ≤ L) := h
    clear h h0
    go_loopw [1, 5] (fun l i wr => ∃ k : Nat, k ≤ css.length ∧ i = .int .i64 k ∧ Hid (css.length + tll (css.take k) ≤ L) ∧ l = .int .i64 ((L : Int) - (css.length + tll (css.take k) : Nat)) ∧ Hid (Below w.heap.size w wr)) (fun _ i _ => css.length - (intOf i).toNat)
    case atStart => exact ⟨0, Nat.zero_le _, rfl, by simpa [tll, Hid] using HL.out, by simp [tll], Below.refl _ _⟩
    case round =>
      obtain ⟨k, hk, rfl, HT, rfl, HB⟩ := hrel
      by_cases hlt : k < css.length
      · obtain ⟨b, o, rfl, hcs⟩ := (HI.out.below HB.out).lies (by omega)
        obtain ⟨q, qc, d0, d1⟩ := hcs k hlt
        have hit := HI.out.item k hlt
        have htk : Hid _ := tll_take css k hlt
        have htl : Hid _ := tll_take_le css (k + 1)
        obtain ⟨L', eL⟩ : ∃ x, x = L - (css.length + tll (css.take k)) := ⟨_, rfl⟩
        have eL' : ((L : Int) - (css.length + tll (css.take k) : Nat)) = (L' : Int) := by have := HT.out; omega
        have hL' : L' ≤ 1048576 := by omega
        have HS := szCellS_any q qc (css.getD k []) L' wr hL' hit.1 hit.2.1 d1
        rw [eL']
        have HE : Hid (L' = L - (css.length + tll (css.take k))) := eL
        obtain ⟨m, em⟩ : ∃ x, x = (css.getD k []).length := ⟨_, rfl⟩
        obtain ⟨sz, esz⟩ : ∃ x, x = (css.getD k []).length + tl (css.getD k []) := ⟨_, rfl⟩
        rw [← esz] at HS htk
        rw [← em] at HS d0
        clear eL eL' hcs d1 hit em esz
        by_cases hfit : sz ≤ L'
        · have e : szR L' sz = (L' : Int) - sz := by simp [szR, hfit]
          rw [e] at HS
          have h0' : ¬ ((L' : Int) - sz < 0) := by omega
          go_wp2_with fail
          refine HS.mono ?_
          rintro e w' ⟨rfl, hb1⟩
          go_wp2_with fail
          go_roundw
          case rel => exact ⟨k + 1, by omega, by go_num, by have := HT.out; have := htk.out; have := HE.out; show _ ≤ _; omega, by have := HT.out; have := htk.out; have := HE.out; congr 1; omega, Below.on HB.out hb1⟩
          case measure => simp [intOf]; omega
        · have e : szR L' sz = -1 := by simp [szR, hfit]
          rw [e] at HS
          go_wp2_with fail
          refine HS.mono ?_
          rintro e w' ⟨rfl, hb1⟩
          go_wp2_with fail
          go_ret
          refine ⟨ret_int ?_, Below.on HB.out hb1⟩
          have := HT.out; have := htk.out; have := HE.out; have := htl.out
          rw [szR, if_neg (by omega)]
      · obtain rfl : k = css.length := by omega
        rw [List.take_length] at *
        go_wp2_with fail
        go_ret
        exact ⟨ret_int (by rw [szR, if_pos HT.out]), HB.out⟩
  · have e : szR L (css.length + tll css) = -1 := by rw [szR, if_neg (by omega)]
    rw [e]
    have h0 : (L : Int) - css.length < 0 := by omega
    go_enter Tryz.func10, Tryz.ntmps10
    go_wp2_with fail
    go_ret
    exact ⟨rfl, Below.refl _ _⟩
def rowv (ds : List It) (css : List (List Cel)) (k : Nat) : List Value := (List.range css.length).map fun i => if i < k then .slice (ds.getD i It.zero).1 (css.getD i []).length (ds.getD i It.zero).2.1 else .slice none 0 0
theorem rowv_zero (css : List (List Cel)) : rowv [] css 0 = List.replicate css.length (.slice none 0 0) := by
  apply List.ext_getElem?
  intro i
  by_cases h : i < css.length
  · simp [rowv, h]
  · rw [List.getElem?_eq_none (by simp [rowv]; omega), List.getElem?_eq_none (by simp; omega)]
theorem rowv_all (ds : List It) (css : List (List Cel)) : rowv ds css css.length = vals ds css := by
  simp only [rowv, vals]
  refine List.map_congr_left fun i hi => ?_
  rw [if_pos (List.mem_range.1 hi)]
theorem rowv_next (ds : List It) (css : List (List Cel)) (k : Nat) (d : It) (hk : k < css.length) (hd : ds.length = k) : (rowv ds css k).set k (.slice d.1 (css.getD k []).length d.2.1) = rowv (ds ++ [d]) css (k + 1) := by
  apply List.ext_getElem?
  intro i
  by_cases h : i < css.length
  · rw [List.getElem?_set]
    by_cases e : k = i
    · subst e
      simp [rowv, h, hd]
    · rw [if_neg e]
      simp only [rowv, List.getElem?_map, List.getElem?_range h, Option.map_some]
      by_cases h2 : i < k
      · rw [if_pos h2, if_pos (by omega), ds_append_at _ _ _ (by omega), if_neg (by omega)]
      · rw [if_neg h2, if_neg (by omega)]
  · rw [List.getElem?_eq_none (by simp [rowv]; omega), List.getElem?_eq_none (by simp [rowv]; omega)]
theorem rowv_at (ds : List It) (css : List (List Cel)) (k : Nat) (hk : k < css.length) : (rowv ds css k)[k]? = some (.slice none 0 0) := by simp [rowv, hk]
def TightCC (w : World) (p : Option Addr) (css : List (List Cel)) : Prop := ∀ b o, p = some ⟨b, o, none⟩ → ∀ i, i < css.length → ∃ q, w.cell? ⟨b, o + i, none⟩ = some (.slice q (css.getD i []).length (css.getD i []).length)
theorem TightCC.below {w w' : World} {p : Option Addr} {css : List (List Cel)} (h : TightCC w p css) (hb : Below w.heap.size w w') : TightCC w' p css := fun b o hp i hi => by
  obtain ⟨q, hq⟩ := h b o hp i hi
  exact ⟨q, (hb.cell (World.block_lt_of_cell? _ _ hq)).trans hq⟩
theorem toSS_any (p : Option Addr) (cap : Nat) (css : List (List Cel)) (w : World) (hn : css.length + tll css ≤ 1048576) (hin : CCArg w p css) :
    Calls Tryz.prog 17 #[.slice p css.length cap] w fun e w' => e = .returned (.slice (some ⟨w.heap.size, 0, none⟩) css.length css.length) ∧ OwnCC w' w.heap.size w'.heap.size (some ⟨w.heap.size, 0, none⟩) css.length css.length css ∧ TightCC w' (some ⟨w.heap.size, 0, none⟩) css ∧ Below w.heap.size w w' := by
  obtain ⟨i0, hi, hz0, hz1, hz2⟩ := info_parts infoCells
  have hmx : css.length ≤ maxLen := by unfold maxLen; omega
  have HC : Hid (CCArg w p css) := hin
  clear hin
  go_enter Tryz.func17, Tryz.ntmps17
  go_wp2_with (at_make; refine wpList_make_full _ rfl _ _ 29 rfl w.heap.size 43 i0 (.slice none 0 0) 1 Tryz.underlying29 hi hz0 hz1 _ _ _ _ css.length rfl rfl rfl rfl (by rw [hz2]; omega) hmx (Nat.le_refl _) ?_; intro w1 hown hgrow)
  have HB1 : Hid (Below w.heap.size w w1) := (Below.refl _ _).grown hgrow (Nat.le_refl _) (fun k h => by cases h)
  have HO : Hid (w1.ownsRow w.heap.size 43 1 (.slice (some ⟨w.heap.size, 0, none⟩) css.length css.length) css.length (rowv [] css 0)) := by
    have := hown
    simp [Value.cells, toList_madeCells_one] at this
    rw [rowv_zero]
    exact this
  clear hown hgrow
  go_loopw [4] (fun i wr => ∃ (k : Nat) (ds : List It), k ≤ css.length ∧ i = .int .i64 k ∧ Hid (ds.length = k ∧ ∀ i, i < k → (ds.getD i It.zero).2.1 = (css.getD i []).length) ∧ Hid (wr.ownsRow w.heap.size 43 1 (.slice (some ⟨w.heap.size, 0, none⟩) css.length css.length) css.length (rowv ds css k)) ∧
    Hid (∀ i, i < k → OwnCU wr (ds.getD i It.zero).2.2.1 (ds.getD i It.zero).2.2.2 (ds.getD i It.zero).1 (css.getD i []).length (ds.getD i It.zero).2.1 (css.getD i []) ∧ w.heap.size < (ds.getD i It.zero).2.2.1 ∧ (ds.getD i It.zero).2.2.2 ≤ wr.heap.size) ∧
    Hid (∀ i j, i < j → j < k → (ds.getD i It.zero).2.2.2 ≤ (ds.getD j It.zero).2.2.1) ∧ Hid (Below w.heap.size w wr)) (fun i _ => css.length - (intOf i).toNat)
  case atStart => exact ⟨0, [], Nat.zero_le _, rfl, ⟨rfl, fun i h => by omega⟩, HO, fun i h => by omega, fun i j _ h => by omega, HB1⟩
  case round =>
    obtain ⟨k, ds, hk, rfl, HD, HR, HIT, HAP, HB⟩ := hrel
    by_cases hlt : k < css.length
    · obtain ⟨b, o, rfl, hcs⟩ := (HC.out.below HB.out).lies (by omega)
      obtain ⟨q, qc, d0, d1⟩ := hcs k hlt
      have hbd := tll_at css k hlt
      have HS := toCellS_any q qc (css.getD k []) wr (by omega) d1
      obtain ⟨m, em⟩ : ∃ x, x = (css.getD k []).length := ⟨_, rfl⟩
      have HM : Hid (m = (css.getD k []).length) := em
      rw [← em] at HS d0
      have hHw : w.heap.size < wr.heap.size := (HR.out.lt w.heap.size rfl).2
      clear hcs d1 hbd em
      go_wp2_with fail
      refine HS.mono ?_
      rintro e w2 ⟨rfl, ho2, hb2⟩
      have HR2 : Hid (w2.ownsRow w.heap.size 43 1 (.slice (some ⟨w.heap.size, 0, none⟩) css.length css.length) css.length (rowv ds css k)) := row_below HR.out hb2
      have e0 := (HR2.out.cellAt k (by omega)).trans (rowv_at ds css k hlt)
      have e1 := HR2.out.frozenAt k
      have hw2 := hb2.size
      obtain ⟨d, ed⟩ : ∃ d : It, d = (some ⟨wr.heap.size, 0, none⟩, m, wr.heap.size, w2.heap.size) := ⟨_, rfl⟩
      have HN : Hid (∀ v, v = Value.slice (some ⟨wr.heap.size, 0, none⟩) m m → (w2.setCell ⟨w.heap.size, k, none⟩ v).ownsRow w.heap.size 43 1 (.slice (some ⟨w.heap.size, 0, none⟩) css.length css.length) css.length (rowv (ds ++ [d]) css (k + 1)) ∧
          (∀ i, i < k + 1 → OwnCU (w2.setCell ⟨w.heap.size, k, none⟩ v) ((ds ++ [d]).getD i It.zero).2.2.1 ((ds ++ [d]).getD i It.zero).2.2.2 ((ds ++ [d]).getD i It.zero).1 (css.getD i []).length ((ds ++ [d]).getD i It.zero).2.1 (css.getD i []) ∧
            w.heap.size < ((ds ++ [d]).getD i It.zero).2.2.1 ∧ ((ds ++ [d]).getD i It.zero).2.2.2 ≤ (w2.setCell ⟨w.heap.size, k, none⟩ v).heap.size) ∧
          (∀ i j, i < j → j < k + 1 → ((ds ++ [d]).getD i It.zero).2.2.2 ≤ ((ds ++ [d]).getD j It.zero).2.2.1)) := fun v hv => by
        have hdl := HD.out.1
        have hset : ∀ b, w.heap.size < b → (w2.setCell ⟨w.heap.size, k, none⟩ v).heap[b]? = w2.heap[b]? := fun b hb => Below.heap_setCell _ _ _ _ (show b ≠ w.heap.size by omega)
        refine ⟨?_, fun i hi => ?_, fun i j hij hj => ?_⟩
        · have h1 := (HR2.out.stored k v).1
          rw [← rowv_next ds css k d hlt hdl, ← HM.out, ed, ← hv]
          exact h1
        · rw [ds_append_at _ _ _ (by omega)]
          by_cases e : i = k
          · rw [if_pos (by omega), e, ← HM.out, ed]
            exact ⟨ho2.up.other (by simp) (fun b h1 h2 h3 => hset b (Nat.lt_of_lt_of_le hHw h2)), hHw, by simp⟩
          · rw [if_neg (by omega)]
            have hold := HIT.out i (by omega)
            have hsz : (w2.setCell ⟨w.heap.size, k, none⟩ v).heap.size = w2.heap.size := by simp
            exact ⟨(hold.1.below hb2).other (by simp) (fun b h1 h2 h3 => hset b (by omega)), hold.2.1, by rw [hsz]; omega⟩
        · rw [ds_append_at _ _ _ (by omega), ds_append_at _ _ _ (by omega), if_neg (by omega)]
          by_cases e : j = k
          · rw [if_pos (by omega), ed]
            exact (HIT.out i (by omega)).2.2
          · rw [if_neg (by omega)]
            exact HAP.out i j hij (by omega)
      have HB2 : Hid (Below w.heap.size w w2) := Below.on HB.out hb2
      have HDL : Hid ((ds ++ [d]).length = k + 1 ∧ ∀ i, i < k + 1 → ((ds ++ [d]).getD i It.zero).2.1 = (css.getD i []).length) := by
        have h0 := HD.out
        refine ⟨by simp [h0.1], fun i hi => ?_⟩
        rw [ds_append_at _ _ _ (by omega)]
        by_cases e : i = k
        · rw [if_pos (by omega), ed, e]; exact HM.out
        · rw [if_neg (by omega)]; exact h0.2 i (by omega)
      clear ho2 hb2 hw2 HS ed
      go_wp2_with fail
      go_roundw
      case rel =>
        obtain ⟨n1, n2, n3⟩ := HN.out _ rfl
        exact ⟨k + 1, ds ++ [d], by omega, by go_num, HDL, n1, n2, n3, HB2.out.setCell (p := ⟨w.heap.size, k, none⟩) (Nat.le_refl _) _⟩
      case measure => simp [intOf]; omega
    · obtain rfl : k = css.length := by omega
      have HFIN : Hid (OwnCC wr w.heap.size wr.heap.size (some ⟨w.heap.size, 0, none⟩) css.length css.length css) := by
        have hr := HR.out
        rw [rowv_all] at hr
        refine ⟨ds, rfl, HD.out.1, hr, fun i hi => (HIT.out i hi).1, fun i hi => ⟨by have := (HIT.out i hi).2; omega, (HIT.out i hi).2.2⟩, fun i hi g hg => ?_, HAP.out, fun g hg => ?_⟩
        · have : g = w.heap.size := (Option.some.inj hg).symm
          have h2 := (HIT.out i hi).2.1
          omega
        · exact (hr.lt g hg).2
      have HTI : Hid (TightCC wr (some ⟨w.heap.size, 0, none⟩) css) := fun b o hp i hi => by
        have hr := HR.out
        rw [rowv_all] at hr
        simp only [Option.some.injEq, Addr.mk.injEq, and_true] at hp
        obtain ⟨rfl, rfl⟩ := hp
        refine ⟨(ds.getD i It.zero).1, ?_⟩
        rw [Nat.zero_add, hr.cellAt i (by omega), vals_at ds css i hi, HD.out.2 i hi]
      go_wp2_with fail
      go_ret
      exact ⟨rfl, HFIN.out, HTI.out, HB.out⟩
end Go.Proofs.YtfgaenggbbgboaaGreatDoor

