/- Texts of SSO, SS1, LawValid, SS2, Cp1, AppC, ItP, CellG, MkL, Cmp0, PrP, EvP, NextG, Dt1. Own work of the verifier. -/
import Derived.Test.YtdmmchoicngblaaGreatDoorUqac
import Derived.Test.YtdmmchoicngblaaGreatDoorUqab
import Derived.Maps.AppendAt
namespace Go.Proofs.YtdmmchoicngblaaGreatDoor
set_option linter.unusedVariables false
set_option maxRecDepth 100000
section
open Go Go.RowKit
def CCIn (w : World) (p : Option Addr) (css : List (List Cel)) : Prop :=
 0 < css.length → ∃ b o, p = some ⟨b, o, none⟩ ∧ ∀ i, i < css.length → ∃ q c, w.cell? ⟨b, o + i, none⟩ = some (.slice q (css.getD i []).length c) ∧ CIn w q (css.getD i [])
theorem CCIn.below {W W' : World} {p : Option Addr} {css : List (List Cel)} (h : CCIn W p css) (hb : Below W.heap.size W W') : CCIn W' p css := fun hn => by
 obtain ⟨b, o, rfl, hc⟩ := h hn; refine ⟨b, o, rfl, fun i hi => ?_⟩; obtain ⟨q, c, h1, h2⟩ := hc i hi; exact ⟨q, c, (hb.cell (World.block_lt_of_cell? _ _ h1)).trans h1, h2.below hb⟩
def vals (ds : List It) (css : List (List Cel)) : List Value := (List.range css.length).map fun i => .slice (ds.getD i It.zero).1 (css.getD i []).length (ds.getD i It.zero).2.1
theorem vals_at (ds : List It) (css : List (List Cel)) (i : Nat) (h : i < css.length) : (vals ds css)[i]? = some (.slice (ds.getD i It.zero).1 (css.getD i []).length (ds.getD i It.zero).2.1) := by simp [vals, h]
structure OwnSS (w : World) (B U : Nat) (p : Option Addr) (n c : Nat) (css : List (List Cel)) (ds : List It) : Prop where
 len : n = css.length
 dlen : ds.length = css.length
 row : w.ownsRow B 23 1 (.slice p n c) n (vals ds css)
 item : ∀ i, i < css.length → OwnCU w (ds.getD i It.zero).2.2.1 (ds.getD i It.zero).2.2.2 (ds.getD i It.zero).1 (css.getD i []).length (ds.getD i It.zero).2.1 (css.getD i [])
 low : ∀ i, i < css.length → B ≤ (ds.getD i It.zero).2.2.1 ∧ (ds.getD i It.zero).2.2.2 ≤ U
 away : ∀ i, i < css.length → ∀ g, Value.ownBlock (.slice p n c) = some g → g < (ds.getD i It.zero).2.2.1 ∨ (ds.getD i It.zero).2.2.2 ≤ g
 apart : ∀ i j, i < j → j < css.length → (ds.getD i It.zero).2.2.2 ≤ (ds.getD j It.zero).2.2.1
 top : ∀ g, Value.ownBlock (.slice p n c) = some g → g < U
def OwnCC (w : World) (B U : Nat) (p : Option Addr) (n c : Nat) (css : List (List Cel)) : Prop := ∃ ds, OwnSS w B U p n c css ds
theorem OwnCC.nil (w : World) (B U : Nat) : OwnCC w B U none 0 0 [] := ⟨[], rfl, rfl, World.ownsRow_nil _ _ _ _, fun i h => by simp at h, fun i h => by simp at h, fun i h => by simp at h, fun i j _ h => by simp at h, fun g h => by cases h⟩
theorem OwnCC.ccin {w : World} {B U : Nat} {p : Option Addr} {n c : Nat} {css : List (List Cel)} (h : OwnCC w B U p n c css) : CCIn w p css := fun hn => by
 obtain ⟨ds, h⟩ := h; have hl := h.len; obtain ⟨g, cap, hv, hb, hg⟩ := h.row.form (by omega); simp only [Value.slice.injEq, true_and] at hv; obtain ⟨rfl, rfl⟩ := hv; refine ⟨g, 0, rfl, fun i hi => ⟨(ds.getD i It.zero).1, (ds.getD i It.zero).2.1, ?_, (h.item i hi).toC.cin⟩⟩; rw [Nat.zero_add, h.row.cellAt i (by omega)]; exact vals_at ds css i hi
theorem OwnSS.other {w w' : World} {B U : Nat} {p : Option Addr} {n c : Nat} {css : List (List Cel)} {ds : List It} (h : OwnSS w B U p n c css ds) (hs : w.heap.size ≤ w'.heap.size) (hb : ∀ k, k < w.heap.size → B ≤ k → k < U → w'.heap[k]? = w.heap[k]?) : OwnSS w' B U p n c css ds := by
 refine ⟨h.len, h.dlen, ⟨h.row.1, ?_⟩, fun i hi => (h.item i hi).other hs (fun k h1 h2 h3 => hb k h1 (by have := h.low i hi; omega) (by have := h.low i hi; omega)), h.low, h.away, h.apart, h.top⟩
 rcases h.row.2 with h' | ⟨g, cap, cur, hv, hB, hg, r⟩
 ·exact .inl h'
 ·refine .inr ⟨g, cap, cur, hv, hB, (hb g (Array.getElem?_eq_some_iff.1 hg).1 hB (h.top g ?_)).trans hg, r⟩
  simp only [Value.slice.injEq] at hv; rw [hv.1]; rfl
theorem OwnCC.below {w w' : World} {B U : Nat} {p : Option Addr} {n c : Nat} {css : List (List Cel)} (h : OwnCC w B U p n c css) (hb : Below w.heap.size w w') : OwnCC w' B U p n c css := by
 obtain ⟨ds, h⟩ := h; exact ⟨ds, h.other hb.size (fun k hk _ _ => hb.block k hk)⟩
theorem OwnCC.keep {w w' : World} {B U B' U' : Nat} {p : Option Addr} {n c : Nat} {css : List (List Cel)} (h : OwnCC w B U p n c css) (hk : Keep B' U' w w') (ho : U ≤ B' ∨ U' ≤ B) : OwnCC w' B U p n c css := by
 obtain ⟨ds, h⟩ := h; exact ⟨ds, h.other hk.size (fun k h1 h2 h3 => hk.block k h1 (by omega))⟩
theorem OwnCC.up {w : World} {B U U' : Nat} {p : Option Addr} {n c : Nat} {css : List (List Cel)} (h : OwnCC w B U p n c css) (hU : U ≤ U') : OwnCC w B U' p n c css := by
 obtain ⟨ds, h⟩ := h; exact ⟨ds, h.len, h.dlen, h.row, h.item, fun i hi => ⟨(h.low i hi).1, Nat.le_trans (h.low i hi).2 hU⟩, h.away, h.apart, fun g hg => Nat.lt_of_lt_of_le (h.top g hg) hU⟩
theorem OwnCC.down {w : World} {B B' U : Nat} {p : Option Addr} {n c : Nat} {css : List (List Cel)} (h : OwnCC w B U p n c css) (hB : B' ≤ B) : OwnCC w B' U p n c css := by
 obtain ⟨ds, h⟩ := h; exact ⟨ds, h.len, h.dlen, ownsRow_down h.row hB, h.item, fun i hi => ⟨Nat.le_trans hB (h.low i hi).1, (h.low i hi).2⟩, h.away, h.apart, h.top⟩
theorem css_append_at (cs : List (List Cel)) (c : List Cel) (i : Nat) (h : i ≤ cs.length) : (cs ++ [c]).getD i [] = if i = cs.length then c else cs.getD i [] := by
 by_cases e : i = cs.length
 ·subst e; simp [List.getD]
 ·rw [if_neg e, List.getD, List.getD, List.getElem?_append_left (by omega)]
theorem vals_append (ds : List It) (css : List (List Cel)) (d : It) (c : List Cel) (h : ds.length = css.length) : vals (ds ++ [d]) (css ++ [c]) = vals ds css ++ [.slice d.1 c.length d.2.1] := by
 apply List.ext_getElem?
 intro i
 rcases Nat.lt_trichotomy i css.length with hi | hi | hi
 ·rw [vals_at _ _ _ (by simp; omega), List.getElem?_append_left (by simpa [vals] using hi), vals_at _ _ _ hi, ds_append_at _ _ _ (by omega), css_append_at _ _ _ (by omega), if_neg (by omega), if_neg (by omega)]
 ·subst hi
  rw [vals_at _ _ _ (by simp), List.getElem?_append_right (by simp [vals]), ds_append_at _ _ _ (by omega), css_append_at _ _ _ (by omega), if_pos h.symm, if_pos rfl]
  simp [vals]
 ·rw [List.getElem?_eq_none (by simp [vals]; omega), List.getElem?_eq_none (by simp [vals]; omega)]
theorem app_item (W0 w : World) {ops : Array Oper} {rest : List Oper} {o : Oper} {a : Act} {Q : Exit → Act → World → Prop} (hgd : o.guard = none) (s x : Operand)
  (ho : o.op = .call { callee := .builtin .append, args := #[s, x], argTypes := #[33, 33] }) (B : Nat) (p : Option Addr) (n c : Nat) (css : List (List Cel))
  (hs : a.eval s = .slice p n c) (hown : OwnCC W0 B W0.heap.size p n c css) (hb0 : Below W0.heap.size W0 w) (hB : B ≤ W0.heap.size) (q : Option Addr) (m cq : Nat) (cs : List Cel) (hit : OwnC w W0.heap.size q m cq cs)
  (hx : a.eval x = .slice (some ⟨w.heap.size, 0, none⟩) 1 1) (hlen : n + 1 ≤ 1000000)
  (h : ∀ g n' cap w', OwnCC w' B w'.heap.size (some ⟨g, 0, none⟩) n' cap (css ++ [cs]) → Below B (w.alloc (.cells #[.slice q m cq] 23)) w' → Hid (n' = n + 1) → wpList Tryz.prog ops Q rest (a.put o.dst (.slice (some ⟨g, 0, none⟩) n' cap)) w') : wpList Tryz.prog ops Q (o :: rest) a (w.alloc (.cells #[.slice q m cq] 23)) := by
 obtain ⟨i0, hi, hz0, hz1, hz2⟩ := info_parts infoCells; obtain ⟨ds, hss⟩ := hown; have hal : Below w.heap.size w (w.alloc (.cells #[.slice q m cq] 23)) := (Below.refl _ _).alloc (Nat.le_refl _) _; have hb1 := Below.on hb0 hal; refine wpList_append_lies _ hgd s x 33 ho B 23 i0 (.slice none 0 0) 1 24 Tryz.underlying33 hi hz0 hz1 hz2 rfl (by decide) (.slice p n c) n (vals ds css) hs (row_below hss.row hb1) ⟨w.heap.size, 0, none⟩ 1 1 [.slice q m cq] hx rfl (cell_one_new _ _ _) (fun u hu => by simp at hu; rw [hu]; rfl) (by decide) (by unfold maxLen; omega) (by omega) (Nat.le_trans hB hb1.size) _ rfl ?_
 intro g cap w' hown' hgrow hat hlt
 have hown : ∀ k, Value.ownBlock (.slice p n c) = some k → B ≤ k ∧ k < W0.heap.size := fun k hk => hss.row.lt k hk
 have hm := hit.1
 have hg2 : g < W0.heap.size ∨ w.heap.size ≤ g := by
  rcases hat with h' | h'
  ·exact .inl (hown g h').2
  ·right; rw [h']; simp
 have hws := hb0.size
 have keepS : ∀ k, k < w.heap.size → (∀ j, Value.ownBlock (.slice p n c) = some j → k ≠ j) → w'.heap[k]? = w.heap[k]? := fun k hk hne =>
  (hgrow.block k (by simp; omega) (fun e => hne k e.symm rfl)).trans (Below.heap_alloc _ _ _ hk)
 have hitU := hit.up; refine h g _ cap w' ⟨ds ++ [(q, cq, W0.heap.size, w.heap.size)], ?_⟩ ((Below.refl _ _).grown hgrow (Nat.le_trans hB hb1.size) (fun k hk => (hown k hk).1)) rfl; have hdl := hss.dlen; have hln := hss.len; refine ⟨by simp; omega, by simp; omega, by rw [vals_append _ _ _ _ hdl, ← hm]; exact hown', fun i hi => ?_, fun i hi => ?_, fun i hi k hk => ?_, fun i j hij hj => ?_, fun k hk => ?_⟩
 ·have hi' : i ≤ css.length := by simp at hi; omega
  rw [ds_append_at _ _ _ (by omega), css_append_at _ _ _ hi']
  by_cases e : i = css.length
  ·rw [if_pos (by omega), if_pos e, ← hm]
   exact hitU.other (by have := hgrow.size; simp at this; omega) (fun k h1 h2 h3 => keepS k h1 (fun j hj => by have := (hown j hj).2; omega))
  ·rw [if_neg (by omega), if_neg e]
   refine ((hss.item i (by omega)).below hb0).other (by have := hgrow.size; simp at this; omega) (fun k h1 h2 h3 => keepS k h1 (fun j hj => ?_)); have := hss.away i (by omega) j hj
   omega
 ·have hi' : i ≤ css.length := by simp at hi; omega
  rw [ds_append_at _ _ _ (by omega)]
  have hwl : w.heap.size ≤ w'.heap.size := by have := hgrow.size; simp at this; omega
  by_cases e : i = css.length
  ·rw [if_pos (by omega)]; exact ⟨hB, hwl⟩
  ·rw [if_neg (by omega)]
   have := hss.low i (by omega); exact ⟨this.1, by omega⟩
 ·have hi' : i ≤ css.length := by simp at hi; omega
  have hk' : k = g := (Option.some.inj hk).symm; subst hk'; rw [ds_append_at _ _ _ (by omega)]
  by_cases e : i = css.length
  ·rw [if_pos (by omega)]; exact hg2
  ·rw [if_neg (by omega)]
   rcases hat with h' | h'
   ·exact hss.away i (by omega) _ h'
   ·right
    have := (hss.low i (by omega)).2
    have hsz : (w.alloc (.cells #[.slice q m cq] 23)).heap.size = w.heap.size + 1 := by simp
    rw [h', hsz]; omega
 ·have hj' : j ≤ css.length := by simp at hj; omega
  rw [ds_append_at _ _ _ (by omega), ds_append_at _ _ _ (by omega), if_neg (by omega)]
  by_cases e : j = css.length
  ·rw [if_pos (by omega)]
   exact (hss.low i (by omega)).2
  ·rw [if_neg (by omega)]
   exact hss.apart i j hij (by omega)
 ·have hk' : k = g := (Option.some.inj hk).symm
  omega
set_option maxHeartbeats 2000000 in
theorem l2copy_any (p : Option Addr) (n c : Nat) (cs : List Cel) (w : World) (hn : n = cs.length) (hl : cs.length + tl cs ≤ 10000000) (hin : CIn w p cs) :
  Calls Tryz.prog 21 #[.slice p n c] w fun e w' => ∃ q m c2, e = .returned (.slice q m c2) ∧ OwnC w' w.heap.size q m c2 cs ∧ Below w.heap.size w w' := by
 have HI : Hid (CIn w p cs) := hin; have HN : Hid (n = cs.length) := hn
 have hnl : n ≤ 10000000 := by omega
 clear hin hn
 go_enter Tryz.func21, Tryz.ntmps21
 go_wp2_with fail
 go_loopw [3, 4] (fun s i wr => ∃ (j : Nat) (q : Option Addr) (m c2 : Nat), j ≤ n ∧ m = j ∧ i = .int .i64 j ∧ s = .slice q m c2 ∧ Hid (OwnC wr w.heap.size q m c2 (cs.take j)) ∧ Hid (Below w.heap.size w wr)) (fun _ i _ => n - (intOf i).toNat)
 case atStart => exact ⟨0, none, 0, 0, Nat.zero_le _, rfl, rfl, rfl, OwnC.nil _ _, Below.refl _ _⟩
 case round =>
  obtain ⟨j, q, m, c2, hj, rfl, rfl, rfl, HO, HB⟩ := hrel
  by_cases hlt : m < n
  ·have hjl : m < cs.length := by rw [← HN.out]; exact hlt
   obtain ⟨b, o, rfl, hcs⟩ := HI.out (by omega); obtain ⟨p0, q0, d0, d1, d2, d3⟩ := (hcs m hjl).below HB.out; have hbw : b < w.heap.size := World.block_lt_of_cell? _ _ (hcs m hjl).choose_spec.choose_spec.1; have HBW : Hid (b < w.heap.size) := hbw; have htl := tl_at cs m hjl
   have HX : Hid (cs.take m ++ [((cs.getD m Cel.none).1, (cs.getD m Cel.none).2.1, (cs.getD m Cel.none).2.2)] = cs.take (m + 1)) := by
    show _ = _
    rw [List.take_succ_eq_append_getElem hjl, List.getD, List.getElem?_eq_getElem hjl]; rfl
   obtain ⟨xs, exs⟩ : ∃ x, x = (cs.getD m Cel.none).2.2 := ⟨_, rfl⟩
   obtain ⟨c0, e0⟩ : ∃ x, x = (cs.getD m Cel.none).1 := ⟨_, rfl⟩
   obtain ⟨c1, e1⟩ : ∃ x, x = (cs.getD m Cel.none).2.1 := ⟨_, rfl⟩
   rw [← e0] at d0 HX; rw [← e1] at d1 HX; rw [← exs] at d2 d3 HX htl
   obtain ⟨t, et⟩ : ∃ t, t = xs.length := ⟨_, rfl⟩
   rw [← et] at d2
   have HCP : Hid (∀ k, Calls Tryz.prog 41 #[.slice p0 t q0] (wr.drewN k) fun e w' => ∃ p' n' c', e = .returned (.slice p' n' c') ∧ OwnS w' wr.heap.size p' n' c' xs ∧ Below wr.heap.size (wr.drewN k) w') := fun k => l1copy_all p0 t q0 xs (wr.drewN k) et (by omega) d3
   have hB : w.heap.size ≤ wr.heap.size := HB.out.size; clear hcs htl exs e0 e1 et d3 hbw; go_wp2_with fail
   go_region_held3 (fun W => W.cell? ⟨b, o + m * 3, none⟩ = some (.int .i64 c0) ∧ W.cell? ⟨b, o + m * 3 + 1, none⟩ = some (.int .i64 c1) ∧ W.cell? ⟨b, o + m * 3 + 2, none⟩ = some (.slice p0 t q0))
    (first | exact kk | go_keep)
    (first
      | (go_at_call 41; refine (HCP.out 1).mono ?_; rintro e w1 ⟨p1, n1, c1', rfl, ho1, hb1⟩; have kk : w1.cell? ⟨b, o + m * 3, none⟩ = some (.int .i64 c0) ∧ w1.cell? ⟨b, o + m * 3 + 1, none⟩ = some (.int .i64 c1) ∧ w1.cell? ⟨b, o + m * 3 + 2, none⟩ = some (.slice p0 t q0) := ⟨(hb1.cell (World.block_lt_of_cell? wr _ d0)).trans d0, (hb1.cell (World.block_lt_of_cell? wr _ d1)).trans d1, (hb1.cell (World.block_lt_of_cell? wr _ d2)).trans d2⟩)
      | (refine step_app_cell wr _ rfl _ _ rfl w.heap.size q m c2 (cs.take m) rfl HO.out (((below_drewN (Below.refl _ wr) 1).trans hb1).alloc hb1.size _) hB ⟨w1.heap.size, 0, none⟩ 1 rfl c0 c1 p1 n1 c1' xs (ho1.toT.below ((Below.refl _ _).alloc (Nat.le_refl _) _)) (news_rc (Box3.of_block (t := 55) (heap_alloc_new _ _))) (by omega) ?_; intro g n' cap w5 hown5 hb5 hn5; have kk : w5.cell? ⟨b, o + m * 3, none⟩ = some (.int .i64 c0) ∧ w5.cell? ⟨b, o + m * 3 + 1, none⟩ = some (.int .i64 c1) ∧ w5.cell? ⟨b, o + m * 3 + 2, none⟩ = some (.slice p0 t q0) := ⟨(hb5.cell HBW.out).trans (Lib.cell?_alloc_marked _ kk.1), (hb5.cell HBW.out).trans (Lib.cell?_alloc_marked _ kk.2.1), (hb5.cell HBW.out).trans (Lib.cell?_alloc_marked _ kk.2.2)⟩))
   have HO5 : Hid (OwnC w5 w.heap.size (some ⟨g, 0, none⟩) n' cap (cs.take (m + 1))) := by rw [← HX.out]; exact hown5
   have HB5 : Hid (Below w.heap.size w w5) := ((HB.out.trans (((below_drewN (Below.refl _ wr) 1).trans hb1).mono hB)).alloc (Nat.le_trans hB hb1.size) _).trans hb5; have HN5 : Hid (n' = m + 1) := hn5.out; clear hown5 hb5 hn5 kk ho1 hb1 d0 d1 d2; go_wp2_with fail; go_roundw
   case rel => exact ⟨m + 1, _, _, _, by omega, HN5.out, by go_num, rfl, HO5, HB5⟩
   case measure => simp [intOf]; omega
  ·obtain rfl : m = n := by omega
   go_wp2_with fail; go_ret; refine ⟨_, _, _, rfl, ?_, HB.out⟩; have := HO.out
   rwa [List.take_of_length_le (by rw [← HN.out]; exact Nat.le_refl _)] at this
theorem rs_cat_at (a b : List RC) (i : Nat) : (a ++ b).getD i RC.zero = if i < a.length then a.getD i RC.zero else b.getD (i - a.length) RC.zero := by
 by_cases h : i < a.length
 ·rw [if_pos h, List.getD, List.getD, List.getElem?_append_left h]
 ·rw [if_neg h, List.getD, List.getD, List.getElem?_append_right (by omega)]
theorem cs_cat_at (a b : List Cel) (i : Nat) : (a ++ b).getD i Cel.none = if i < a.length then a.getD i Cel.none else b.getD (i - a.length) Cel.none := by
 by_cases h : i < a.length
 ·rw [if_pos h, List.getD, List.getD, List.getElem?_append_left h]
 ·rw [if_neg h, List.getD, List.getD, List.getElem?_append_right (by omega)]
theorem flat_one' (rs : List RC) : ∀ u ∈ flat rs, u.oneCell' = true := fun u hu => by
 obtain ⟨r, _, hr⟩ := List.mem_flatMap.1 hu; exact rcV_one r u hr
theorem ownC_grewL {W0 w w' : World} {B g n cap cp : Nat} {p : Option Addr} {cs ds : List Cel} {rs rs2 : List RC} (hn : n = cs.length) (hl : rs.length = cs.length) (hr0 : W0.ownsRow B 55 3 (.slice p n cp) n (flat rs))
  (hf : ∀ i, i < cs.length → Fits W0 B (rs.getD i RC.zero) (cs.getD i Cel.none)) (ha : ApartC p rs) (hb0 : Below W0.heap.size W0 w) (hB : B ≤ W0.heap.size)
  (hl2 : rs2.length = ds.length) (hf2 : ∀ i, i < ds.length → Fits w W0.heap.size (rs2.getD i RC.zero) (ds.getD i Cel.none)) (ha2 : ∀ i j, i < rs2.length → j < rs2.length → i ≠ j → 0 < (rs2.getD i RC.zero).2.2.2.1 → 0 < (rs2.getD j RC.zero).2.2.2.1 → (rs2.getD i RC.zero).2.2.1 ≠ (rs2.getD j RC.zero).2.2.1)
  (hr : w'.ownsRow B 55 3 (.slice (some ⟨g, 0, none⟩) (n + ds.length) cap) (n + ds.length) (flat rs ++ flat rs2)) (hg : w.grownBy w' (Value.ownBlock (.slice p n cp))) (hat : Value.ownBlock (.slice p n cp) = some g ∨ g = w.heap.size) :
  OwnC w' B (some ⟨g, 0, none⟩) (n + ds.length) cap (cs ++ ds) := by
 have hown : ∀ k, Value.ownBlock (.slice p n cp) = some k → p = some ⟨k, 0, none⟩ ∧ k < W0.heap.size := fun k hk => by
  rcases hr0.2 with ⟨hv, _⟩ | ⟨g', cap', cur, hv, hb, hg', _⟩
  ·simp only [Value.slice.injEq] at hv; rw [hv.1] at hk; simp [Value.ownBlock] at hk
  ·simp only [Value.slice.injEq] at hv
   rw [hv.1] at hk ⊢
   simp [Value.ownBlock] at hk
   subst hk; exact ⟨rfl, (Array.getElem?_eq_some_iff.1 hg').1⟩
 have hlow : ∀ i, i < cs.length → 0 < (rs.getD i RC.zero).2.2.2.1 → ∃ k, (rs.getD i RC.zero).2.2.1 = some ⟨k, 0, none⟩ ∧ k < W0.heap.size := fun i hi hp => by
  obtain ⟨k, e, _, hlt, _⟩ := (hf i hi).2.2.2 hp; exact ⟨k, e, hlt⟩
 have hhigh : ∀ i, i < ds.length → 0 < (rs2.getD i RC.zero).2.2.2.1 → ∃ k, (rs2.getD i RC.zero).2.2.1 = some ⟨k, 0, none⟩ ∧ W0.heap.size ≤ k ∧ k < w.heap.size := fun i hi hp => by
  obtain ⟨k, e, h1, h2, _⟩ := (hf2 i hi).2.2.2 hp; exact ⟨k, e, h1, h2⟩
 have hnewg : g < W0.heap.size ∨ g = w.heap.size := by
  rcases hat with h | h
  ·exact .inl (hown g h).2
  ·exact .inr h
 refine ⟨by simp; omega, rs ++ rs2, by simp; omega, by rw [flat_append]; exact hr, fun i hi => ?_, fun i hi hp => ?_, fun i j hi hj hij hpi hpj => ?_⟩
 ·rw [rs_cat_at, cs_cat_at, hl]
  by_cases e : i < cs.length
  ·rw [if_pos e, if_pos e]
   refine ⟨(hf i e).1, (hf i e).2.1, ((hf i e).2.2.below hb0).other hg.size (fun k hn0 e' => ?_)⟩; obtain ⟨k', e'', h1⟩ := hlow i e hn0; have hkk : k = k' := congrArg Addr.block (Option.some.inj (e'.symm.trans e'')); refine hg.block k (by have := hb0.size; omega) (fun hk => ?_); exact ha.1 i (by omega) hn0 (by rw [e', (hown k hk.symm).1])
  ·have hi' : i - cs.length < ds.length := by simp at hi; omega
   rw [if_neg e, if_neg e]; refine ⟨(hf2 _ hi').1, (hf2 _ hi').2.1, ((hf2 _ hi').2.2.mono hB).other hg.size (fun k hn0 e' => ?_)⟩; obtain ⟨k', e'', h1, h2⟩ := hhigh _ hi' hn0; have hkk : k = k' := congrArg Addr.block (Option.some.inj (e'.symm.trans e'')); refine hg.block k (by omega) (fun hk => ?_); have := (hown k hk.symm).2
   omega
 ·rw [rs_cat_at] at hp ⊢
  by_cases e : i < rs.length
  ·rw [if_pos e] at hp ⊢
   obtain ⟨k', e'', h1⟩ := hlow i (by omega) hp
   rcases hat with h | h
   ·rw [← (hown g h).1]
    exact ha.1 i e hp
   ·rw [e'']
    exact ne_block (by have := hb0.size; omega) hp
  ·rw [if_neg e] at hp ⊢
   obtain ⟨k', e'', h1, h2⟩ := hhigh _ (by simp at hi; omega) hp; rw [e'']; exact ne_block (by omega) hp
 ·rw [rs_cat_at] at hpi hpj ⊢
  rw [rs_cat_at]
  by_cases e : i < rs.length
  ·rw [if_pos e] at hpi ⊢
   by_cases e' : j < rs.length
   ·rw [if_pos e'] at hpj ⊢
    exact ha.2 i j e e' hij hpi hpj
   ·rw [if_neg e'] at hpj ⊢
    obtain ⟨k', e'', h1, h2⟩ := hhigh _ (by simp at hj; omega) hpj; obtain ⟨k2, e2, h3⟩ := hlow i (by omega) hpi; rw [e'', e2]; exact ne_block (by omega) hpi
  ·rw [if_neg e] at hpi ⊢
   by_cases e' : j < rs.length
   ·rw [if_pos e'] at hpj ⊢
    obtain ⟨k', e'', h1, h2⟩ := hhigh _ (by simp at hi; omega) hpi; obtain ⟨k2, e2, h3⟩ := hlow j (by omega) hpj; rw [e'', e2]; exact ne_block (by omega) hpi
   ·rw [if_neg e'] at hpj ⊢
    exact ha2 _ _ (by simp at hi; omega) (by simp at hj; omega) (by omega) hpi hpj
theorem app_cells (W0 w : World) {ops : Array Oper} {rest : List Oper} {o : Oper} {a : Act} {Q : Exit → Act → World → Prop} (hgd : o.guard = none) (s x : Operand)
  (ho : o.op = .call { callee := .builtin .append, args := #[s, x], argTypes := #[23, 23] }) (B : Nat) (p : Option Addr) (n c : Nat) (cs : List Cel)
  (hs : a.eval s = .slice p n c) (hown : OwnC W0 B p n c cs) (hb0 : Below W0.heap.size W0 w) (hB : B ≤ W0.heap.size) (q : Option Addr) (m cq : Nat) (ds : List Cel) (hx : a.eval x = .slice q m cq) (hit : OwnC w W0.heap.size q m cq ds) (hm : 0 < m) (hlen : n + m ≤ 1000000000)
  (h : ∀ g n' cap w', OwnC w' B (some ⟨g, 0, none⟩) n' cap (cs ++ ds) → Below B w w' → Hid (n' = n + m) → wpList Tryz.prog ops Q rest (a.put o.dst (.slice (some ⟨g, 0, none⟩) n' cap)) w') : wpList Tryz.prog ops Q (o :: rest) a w := by
 obtain ⟨i0, hi, hz0, hz1, hz2⟩ := info_parts infoCell; obtain ⟨hn, rs, hl, hr, hf, ha⟩ := hown; obtain ⟨hn2, rs2, hl2, hr2, hf2, ha2⟩ := hit; obtain ⟨gq, cq', hv, hbq, hgq⟩ := hr2.form hm; simp only [Value.slice.injEq, true_and] at hv; obtain ⟨rfl, rfl⟩ := hv; refine wpList_append_lies w hgd s x 23 ho B 55 i0 (.agg #[.int .i64 0, .int .i64 0, .slice none 0 0]) 3 40 Tryz.underlying23 hi hz0 hz1 hz2 rfl (by decide) (.slice p n c) n (flat rs) hs (row_below hr hb0) ⟨gq, 0, none⟩ m cq (flat rs2) hx (by rw [flat_len]; omega) (hr2.cells rfl) (flat_one' rs2) hm (by unfold maxLen; omega) (by omega) (Nat.le_trans hB hb0.size) w.heap.size rfl ?_
 intro g cap w' hown' hgrow hat hlt
 subst hn2; refine h g _ cap w' (ownC_grewL hn hl hr hf ha hb0 hB hl2 hf2 ha2.2 hown' hgrow hat) ((Below.refl _ _).grown hgrow (Nat.le_trans hB hb0.size) (fun k hk => ?_)) rfl; exact (hr.lt k hk).1
def dot : Cel := (3, 2, [46])
def splitF : Cel → Fo → List (Cel × Fo) × (Cel × Fo)
 | c, .node c1 k1 (.node c2 k2 .nil) => if c = dot then ((c1, k1) :: (splitF c2 k2).1, (splitF c2 k2).2) else ([], (c, .node c1 k1 (.node c2 k2 .nil)))
 | c, k => ([], (c, k))
theorem splitF_dot (c1 : Cel) (k1 : Fo) (c2 : Cel) (k2 : Fo) : splitF dot (.node c1 k1 (.node c2 k2 .nil)) = ((c1, k1) :: (splitF c2 k2).1, (splitF c2 k2).2) := by
 rw [splitF, if_pos rfl]
theorem splitF_other (c : Cel) (k : Fo) (h : c ≠ dot) : splitF c k = ([], (c, k)) := by
 unfold splitF
 split
 ·rw [if_neg h]
 ·rfl
def itsF : List (Cel × Fo) → Fo
 | [] => .nil
 | x :: r => .node x.1 x.2 (itsF r)
theorem itsF_snoc : ∀ (a : List (Cel × Fo)) (x : Cel × Fo), itsF (a ++ [x]) = (itsF a).cat (.node x.1 x.2 .nil)
 | [], x => rfl
 | y :: r, x => by simp only [List.cons_append, itsF, Fo.cat, itsF_snoc r x]
theorem two_of {k : Fo} (h : k.count = 2) : ∃ c1 k1 c2 k2, k = .node c1 k1 (.node c2 k2 .nil) := by
 cases k with
 | nil => simp [Fo.count] at h
 | node c1 k1 r =>
   cases r with
   | nil => simp [Fo.count] at h
   | node c2 k2 r =>
     cases r with
     | nil => exact ⟨c1, k1, c2, k2, rfl⟩
     | node a b d => simp [Fo.count] at h
theorem itsF_ok_at : ∀ (its : List (Cel × Fo)), (itsF its).ok → ∀ i (h : i < its.length), (Fo.node its[i].1 its[i].2 .nil).ok
 | [], _, i, h => by simp at h
 | a :: r, ⟨h1, h2, h3, h4, h5, h6⟩, 0, _ => ⟨h1, h2, h3, h4, h5, trivial⟩
 | a :: r, ⟨h1, h2, h3, h4, h5, h6⟩, i + 1, h => by simpa using itsF_ok_at r h6 i (by simpa using h)
theorem itsF_count : ∀ its : List (Cel × Fo), (itsF its).count = its.length
 | [] => rfl
 | a :: r => by simp [itsF, Fo.count, itsF_count r]
def itC (x : Cel × Fo) : List Cel := x.1 :: x.2.cells
def nilC : Cel := (2, 0, [91, 93])
theorem split_size : ∀ (N : Nat) (c : Cel) (k : Fo), k.cells.length ≤ N → ((splitF c k).1.map (fun x => (itC x).length)).sum + (itC (splitF c k).2).length ≤ k.cells.length + 1 ∧ (∀ x ∈ (splitF c k).1, x.2.cells.length ≤ k.cells.length)
 | N, c, .nil, _ => by simp [splitF, itC, Fo.cells]
 | N, c, .node c1 k1 .nil, _ => by simp [splitF, itC, Fo.cells]
 | N, c, .node c1 k1 (.node c2 k2 (.node a b d)), _ => by simp [splitF, itC, Fo.cells]
 | 0, c, .node c1 k1 (.node c2 k2 .nil), h => by simp [Fo.cells] at h
 | N + 1, c, .node c1 k1 (.node c2 k2 .nil), h => by
   by_cases e : c = dot
   ·subst e
    have ih := split_size N c2 k2 (by simp [Fo.cells] at h; omega); rw [splitF_dot]; simp only [List.map_cons, List.sum_cons, itC, List.length_cons, Fo.cells, List.length_append, List.length_nil] at ih ⊢; refine ⟨by omega, fun x hx => ?_⟩
    rcases List.mem_cons.1 hx with rfl | hx
    ·simp; omega
    ·have := ih.2 x hx; omega
   ·rw [splitF_other _ _ e]
    simp [itC]
def lenOf : Value → Nat
 | .slice _ n _ => n
 | _ => 0
end
section
open Go Go.RowKit Go.Maps
set_option maxHeartbeats 1000000 in
theorem cellsOf_any (c : Cel) (k : Fo) (v : Value) (Bt : Nat) (w : World) (hok : (Fo.node c k .nil).ok) (hfo : FoIn w Bt (.node c k .nil) [v]) (hl : k.cells.length ≤ 10000) :
  Calls Tryz.prog 36 #[v] w fun e w' => ∃ p n cp, e = .returned (.slice p n cp) ∧ OwnC w' w.heap.size p n cp (c :: k.cells) ∧ Below w.heap.size w w' := by
 have nil := OwnC.nil w w.heap.size
 have fin : ∀ {e : Ending} {w' : World}, AppOut w w.heap.size [] (c :: k.cells) e w' → ∃ p n cp, e = .returned (.slice p n cp) ∧ OwnC w' w.heap.size p n cp (c :: k.cells) ∧ Below w.heap.size w w' := fun ⟨p, n, cp, h1, h2, h3⟩ => ⟨p, n, cp, h1, by simpa using h2, h3⟩
 have FIN : Hid _ := @fin; clear fin; obtain ⟨v', vr, e, hnode, _⟩ := hfo; obtain ⟨rfl, rfl⟩ := List.cons.inj e; have hcl := hok.1; have hby := hok.2.1
 rcases hnode with ⟨h0, rfl⟩ | ⟨h0, rfl⟩ | ⟨h0, rfl⟩ | ⟨h0, b, g, vs, rfl, hcomp⟩
 rotate_right
 case' _ =>
  have hcn := hok.2.2.1 h0; obtain ⟨c0, c1, c2⟩ := c; simp only at h0 hcl hby hcn hcomp; subst h0 hcn; have HS := appComp_any k.cells.length c2 k b g vs none 0 0 [] Bt w.heap.size w w (Nat.le_refl _) hok.2.2.2.2.1 hby hcomp (Below.refl _ _) (Nat.le_refl _) (Nat.le_refl _) nil (by omega); clear hok hcl hby e nil hcomp
 rotate_right
 case' _ =>
  have hk : k = .nil := hok.2.2.2.1 (by rw [h0]; decide); obtain ⟨c0, c1, c2⟩ := c; simp only at h0 hcl hby; subst h0 hk
  have e2 : c1 = 0 := by simp [cellB] at hcl; exact hcl.2
  subst e2; have HS := appAtom_any c2 hby none 0 0 [] w.heap.size w (Nat.le_refl _) (by decide) nil
  obtain ⟨str, es⟩ : ∃ str, str = strOfNums c2 := ⟨_, rfl⟩
  simp only; rw [← es] at HS ⊢; clear hok hcl hby e nil es
 rotate_right
 case' _ =>
  have hk : k = .nil := hok.2.2.2.1 (by rw [h0]; decide); obtain ⟨c0, c1, c2⟩ := c; simp only at h0 hcl; subst h0 hk
  have e2 : c2 = [] := by simp [cellB] at hcl; exact hcl.2.2
  subst e2; have HS := appNum_any c1 none 0 0 [] w.heap.size w (Nat.le_refl _) (by decide) nil; clear hok hcl hby e nil
 rotate_right
 case' _ =>
  have hk : k = .nil := hok.2.2.2.1 (by rw [h0]; decide); obtain ⟨c0, c1, c2⟩ := c; simp only at h0 hcl; subst h0 hk
  have e2 : c2 = [] := by simp [cellB] at hcl; exact hcl.2.2
  subst e2; have HS := appVar_any c1 none 0 0 [] w.heap.size w (Nat.le_refl _) (by decide) nil; clear hok hcl hby e nil
 all_goals
  go_enter Tryz.func36, Tryz.ntmps36
  go_wp2_with fail; refine HS.mono ?_; rintro e w1 ⟨p3, n3, c3, rfl, h1, h2⟩; have HF := FIN.out ⟨p3, n3, c3, rfl, h1, h2⟩; have HFF : Hid _ := HF; clear HF h1 h2; go_wp2_with fail; go_ret; exact HFF.out
end
section
open Go Go.RowKit
theorem conv_dot (w : World) : (convert 22 22 (.slice (some ⟨w.heap.size, 0, none⟩) 1 1)).run Tryz.prog (w.alloc (.cells #[.int .u8 46] 5)) = .ok (.slice (some ⟨w.heap.size, 0, none⟩) 1 1) (w.alloc (.cells #[.int .u8 46] 5 (1, 2))) :=
 Lib.run_convert_bytes_const (P := Tryz.prog) w 22 5 #[.int .u8 46] 1 1 Tryz.underlying22 Tryz.underlying5
theorem dot_text (w : World) : OwnT (w.alloc (.cells #[.int .u8 46] 5 (1, 2))) w.heap.size (some ⟨w.heap.size, 0, none⟩) 1 1 [46] := ⟨rfl, fun _ => ⟨w.heap.size, rfl, Nat.le_refl _, by simp, fun i hi => by
 have hi0 : i = 0 := by omega
 subst hi0; refine ⟨cell_of_row _ _ 0 _ _ _ (heap_alloc_new _ _), ?_⟩; simp only [World.frozen?, heap_alloc_new]
 simp⟩⟩
def mkL (css : List (List Cel)) : List Cel := css.flatMap (fun cs => dot :: cs)
theorem mkL_take (css : List (List Cel)) (j : Nat) (h : j < css.length) : mkL (css.take (j + 1)) = mkL (css.take j) ++ [dot] ++ css.getD j [] := by
 rw [mkL, List.take_succ_eq_append_getElem h, List.flatMap_append, List.getD, List.getElem?_eq_getElem h]
 simp [mkL]
set_option maxHeartbeats 1000000 in
theorem l2listE_any (css : List (List Cel)) (en : List Cel) (p q : Option Addr) (n c le cq : Nat) (w : World) (hle : le = en.length) (hle0 : 0 < le) (hlb : le + tl en ≤ 1000000) (hn : n = css.length) (hl : n ≤ 2000) (hne : ∀ i, i < css.length → 0 < (css.getD i []).length) (hb : css.length + tll css ≤ 1048576) (hsz : (mkL css).length ≤ 1000000) (hin : CCIn w p css) (hend : CIn w q en) :
  Calls Tryz.prog 112 #[.slice p n c, .slice q le cq] w fun e w' => ∃ r m cr, e = .returned (.slice r m cr) ∧ OwnC w' w.heap.size r m cr (mkL css ++ en) ∧ Below w.heap.size w w' := by
 have HI : Hid (CCIn w p css) := hin; have HE : Hid (CIn w q en) := hend; have HLE : Hid (le = en.length) := hle; have HLB : Hid (le + tl en ≤ 1000000) := hlb
 have hle1 : le ≤ 1000000 := by omega
 have HN : Hid (n = css.length) := hn; have HNE : Hid _ := hne; have hcs := conv_dot; clear hin hend hn hne hle hlb
 go_enter Tryz.func112, Tryz.ntmps112
 go_wp2_with fail
 go_loopw [5, 6] (fun s i wr => ∃ (j : Nat) (r : Option Addr) (m cr : Nat), j ≤ n ∧ m ≤ 1000000 ∧ i = .int .i64 j ∧ s = .slice r m cr ∧ Hid (OwnC wr w.heap.size r m cr (mkL (css.take j))) ∧ Hid (Below w.heap.size w wr)) (fun _ i _ => n - (intOf i).toNat)
 case atStart => exact ⟨0, none, 0, 0, Nat.zero_le _, by decide, rfl, rfl, OwnC.nil _ _, Below.refl _ _⟩
 case round =>
  obtain ⟨j, r, m, cr, hj, hm, rfl, rfl, HO, HB⟩ := hrel; have hBs : w.heap.size ≤ wr.heap.size := HB.out.size
  by_cases hlt : j < n
  ·have hjl : j < css.length := by rw [← HN.out]; exact hlt
   have hal : Below wr.heap.size wr (wr.alloc (.cells #[.int .u8 46] 5 (1, 2))) := (Below.refl _ _).alloc (Nat.le_refl _) _; have HT0 : Hid (OwnT (wr.alloc (.cells #[.int .u8 46] 5 (1, 2))) wr.heap.size (some ⟨wr.heap.size, 0, none⟩) 1 1 [46]) := dot_text wr; obtain ⟨b, o, rfl, hcss⟩ := HI.out (by omega); obtain ⟨qi, ci, x0, x1⟩ := hcss j hjl; have HX1 : Hid (CIn w qi (css.getD j [])) := x1; have hbj := tll_at css j hjl; have hpos := HNE.out j hjl
   obtain ⟨li, eli⟩ : ∃ li, li = (css.getD j []).length := ⟨_, rfl⟩
   have HLI : Hid (li = (css.getD j []).length) := eli
   have hli : 0 < li := by omega
   have hli2 : li ≤ 1048576 := by omega
   rw [← eli] at x0; have X0 : Hid (w.cell? ⟨b, o + j, none⟩ = some (.slice qi li ci)) := x0
   have HBJ : Hid ((css.getD j []).length + tl (css.getD j []) ≤ 1048576) := by show _ ≤ _; omega
   have HMK : Hid _ := mkL_take css j hjl
   have HML : Hid ((mkL (css.take (j + 1))).length ≤ 1000000) := by
    have h1 : mkL css = mkL (css.take (j + 1)) ++ mkL (css.drop (j + 1)) := by rw [mkL, mkL, mkL, ← List.flatMap_append, List.take_append_drop]
    have h2 := congrArg List.length h1; rw [List.length_append] at h2
    show _ ≤ _
    omega
   clear hcss x1 hbj hpos eli x0; have hal2 : Below (wr.alloc (.cells #[.int .u8 46] 5 (1, 2))).heap.size (wr.alloc (.cells #[.int .u8 46] 5 (1, 2))) ((wr.alloc (.cells #[.int .u8 46] 5 (1, 2))).alloc (Obj.cells #[Value.int IntKind.i64 3, Value.int IntKind.i64 2, Value.slice (some ⟨wr.heap.size, 0, none⟩) 1 1] 55)) := (Below.refl _ _).alloc (Nat.le_refl _) _; have HBA : Hid (Below wr.heap.size wr ((wr.alloc (.cells #[.int .u8 46] 5 (1, 2))).alloc (Obj.cells #[Value.int IntKind.i64 3, Value.int IntKind.i64 2, Value.slice (some ⟨wr.heap.size, 0, none⟩) 1 1] 55))) := Below.on hal hal2; have HTT : Hid (OwnT ((wr.alloc (.cells #[.int .u8 46] 5 (1, 2))).alloc (Obj.cells #[Value.int IntKind.i64 3, Value.int IntKind.i64 2, Value.slice (some ⟨wr.heap.size, 0, none⟩) 1 1] 55)) wr.heap.size (some ⟨wr.heap.size, 0, none⟩) 1 1 [46]) := HT0.out.below hal2
   have hnew := heap_alloc_new (wr.alloc (.cells #[.int .u8 46] 5 (1, 2))) (Obj.cells #[Value.int IntKind.i64 3, Value.int IntKind.i64 2, Value.slice (some ⟨wr.heap.size, 0, none⟩) 1 1] 55)
   have esz : (wr.alloc (.cells #[.int .u8 46] 5 (1, 2))).heap.size = wr.heap.size + 1 := by simp
   rw [esz] at hnew; have HBX : Hid (Box3 ((wr.alloc (.cells #[.int .u8 46] 5 (1, 2))).alloc (Obj.cells #[Value.int IntKind.i64 3, Value.int IntKind.i64 2, Value.slice (some ⟨wr.heap.size, 0, none⟩) 1 1] 55)) (wr.heap.size + 1) (.int .i64 3) (.int .i64 2) (.slice (some ⟨wr.heap.size, 0, none⟩) 1 1)) := Box3.of_block (t := 55) hnew; clear hal hal2 hnew esz HT0; go_wp2_with (at_builtin; refine app_cell wr _ rfl _ _ rfl w.heap.size r m cr _ rfl HO.out HBA.out hBs ⟨wr.heap.size + 1, 0, none⟩ 1 rfl 3 2 (some ⟨wr.heap.size, 0, none⟩) 1 1 [46] HTT.out (news_rc HBX.out) (by omega) ?_; intro g1 n1 cap1 w2 hown2 hb2 hn1; have hB2 : Below w.heap.size w w2 := (HB.out.trans (HBA.out.mono hBs)).trans hb2; have y0 := (hB2.cell (World.block_lt_of_cell? _ _ X0.out)).trans X0.out); have HB2 : Hid (Below w.heap.size w w2) := hB2; have HO2 : Hid (OwnC w2 w.heap.size (some ⟨g1, 0, none⟩) n1 cap1 (mkL (css.take j) ++ [dot])) := hown2
   have HN1 : Hid (n1 = m + 1) := hn1.out
   have hn1' : n1 ≤ 1000001 := by have := hn1.out; omega
   have HCP := l2copy_any qi li ci (css.getD j []) w2 HLI.out (by have := HBJ.out; omega) (HX1.out.below hB2); clear hown2 hb2 hB2; refine HCP.mono ?_; rintro e w3 ⟨q3, m3, c3, rfl, ho3, hb3⟩; have HO3 : Hid (OwnC w3 w2.heap.size q3 m3 c3 (css.getD j [])) := ho3; have HB3 : Hid (Below w2.heap.size w2 w3) := hb3
   have HM3 : Hid (m3 = li) := by show _ = _; rw [ho3.1, HLI.out]
   have hm3 : 0 < m3 := by have := HM3.out; omega
   have hm3' : m3 ≤ 1048576 := by have := HM3.out; omega
   have hBs2 : w.heap.size ≤ w2.heap.size := HB2.out.size; clear ho3 hb3 HCP; go_wp2_with (at_builtin; refine app_cells w2 w3 rfl _ _ rfl w.heap.size (some ⟨g1, 0, none⟩) n1 cap1 _ rfl HO2.out HB3.out hBs2 q3 m3 c3 _ rfl HO3.out hm3 (by omega) ?_; intro g4 n4 cap4 w4 hown4 hb4 hn4)
   have HO4 : Hid (OwnC w4 w.heap.size (some ⟨g4, 0, none⟩) n4 cap4 (mkL (css.take (j + 1)))) := by rw [HMK.out]; exact hown4
   have HB4 : Hid (Below w.heap.size w w4) := (Below.on HB2.out HB3.out).trans hb4
   have hn4' : n4 ≤ 1000000 := by rw [HO4.out.1]; exact HML.out
   clear hown4 hb4; go_roundw
   case rel => exact ⟨j + 1, _, n4, cap4, by omega, hn4', by go_num, rfl, HO4, HB4⟩
   case measure => simp [intOf]; omega
  ·obtain rfl : j = n := by omega
   have HCP := l2copy_any q le cq en wr HLE.out (by have := HLB.out; have := HLE.out; omega) (HE.out.below HB.out)
   have HOA : Hid (OwnC wr w.heap.size r m cr (mkL css)) := by have := HO.out; rwa [List.take_of_length_le (by rw [← HN.out]; exact Nat.le_refl _)] at this
   go_wp2_with fail; refine HCP.mono ?_; rintro e w3 ⟨q3, m3, c3, rfl, ho3, hb3⟩; have HO3 : Hid (OwnC w3 wr.heap.size q3 m3 c3 en) := ho3; have HB3 : Hid (Below wr.heap.size wr w3) := hb3
   have hm3 : m3 = le := by rw [ho3.1, HLE.out]
   subst hm3; clear ho3 hb3 HCP; go_wp2_with (at_builtin; refine app_cells wr w3 rfl _ _ rfl w.heap.size r m cr _ rfl HOA.out HB3.out hBs q3 m3 c3 _ rfl HO3.out hle0 (by omega) ?_; intro g4 n4 cap4 w4 hown4 hb4 hn4); go_ret; exact ⟨_, _, _, rfl, hown4, (Below.on HB.out HB3.out).trans hb4⟩
def sgn (b : Bool) : Int := if b then -1 else 1
theorem sgn_ne (b : Bool) : sgn b ≠ 0 := by cases b <;> decide
def cellCmp (x y : Cel) : Int := if x.1 ≠ y.1 then sgn (decide (x.1 < y.1)) else if x.2.1 ≠ y.2.1 then sgn (decide (x.2.1 < y.2.1)) else if (strOfNums x.2.2).toList == (strOfNums y.2.2).toList then 0 else sgn (Op.bytesLess (strOfNums x.2.2).toList (strOfNums y.2.2).toList)
def cmpC : List Cel → List Cel → Int
 | x :: xs, y :: ys => if cellCmp x y ≠ 0 then cellCmp x y else cmpC xs ys
 | _, _ => 0
abbrev Tr := Cel × Fo
abbrev TT := Tr × Tr
def Tr.fo (t : Tr) : Fo := .node t.1 t.2 .nil
def trs : Fo → List Tr
 | .nil => []
 | .node c k r => (c, k) :: trs r
theorem trs_len : ∀ F : Fo, (trs F).length = F.count
 | .nil => rfl
 | .node c k r => by simp [trs, Fo.count, trs_len r]
def eqFo : Fo → Fo → Bool
 | .nil, .nil => true
 | .node c k r, .node c' k' r' => decide (c = c') && eqFo k k' && eqFo r r'
 | .nil, .node _ _ _ => false
 | .node _ _ _, .nil => false
theorem eqFo_iff : ∀ a b : Fo, eqFo a b = true ↔ a = b
 | .nil, .nil => by simp [eqFo]
 | .node c k r, .node c' k' r' => by simp [eqFo, eqFo_iff k k', eqFo_iff r r', and_assoc]
 | .nil, .node _ _ _ => by simp [eqFo]
 | .node _ _ _, .nil => by simp [eqFo]
def eqT (x : TT) : Bool := decide (x.1.1 = x.2.1) && eqFo x.1.2 x.2.2
theorem eqT_iff (x : TT) : eqT x = true ↔ x.1 = x.2 := by
 obtain ⟨⟨c, k⟩, ⟨c', k'⟩⟩ := x
 simp [eqT, eqFo_iff]
def sames (st : List TT) : Bool := st.all eqT
theorem eqFo_zip : ∀ a b : Fo, a.count = b.count → eqFo a b = ((trs a).zip (trs b)).all eqT
 | .nil, .nil, _ => rfl
 | .node c k r, .node c' k' r', h => by
   have := eqFo_zip r r' (by simpa [Fo.count] using h)
   simp [eqFo, trs, eqT, this]
 | .nil, .node _ _ _, h => by simp [Fo.count] at h
 | .node _ _ _, .nil, h => by simp [Fo.count] at h
def argPairs (x : TT) : List TT := ((trs x.1.2).zip (trs x.2.2)).reverse
def opened (x : TT) : List TT := if x.1.1 = x.2.1 then argPairs x else []
theorem sames_open (st : List TT) (x : TT) (h : x.1.1 = x.2.1) (hc : x.1.2.count = x.2.2.count) : sames (st ++ opened x) = sames (st ++ [x]) := by
 simp [sames, opened, argPairs, h, eqT, eqFo_zip _ _ hc]
theorem sames_no (st : List TT) (x : TT) (h : x.1.1 ≠ x.2.1) : sames (st ++ [x]) = false := by
 simp [sames, eqT, h]
def load : List TT → Nat
 | [] => 0
 | x :: r => x.1.2.cells.length + 1 + load r
theorem load_append : ∀ a b : List TT, load (a ++ b) = load a + load b
 | [], b => by simp [load]
 | x :: r, b => by simp [load, load_append r b]; omega
theorem load_reverse : ∀ a : List TT, load a.reverse = load a
 | [] => rfl
 | x :: r => by simp [load_append, load, load_reverse r]; omega
theorem load_zip : ∀ a b : Fo, load ((trs a).zip (trs b)) ≤ a.cells.length
 | .nil, b => by simp [trs, load]
 | .node c k r, .nil => by simp [trs, load]
 | .node c k r, .node c' k' r' => by
   have := load_zip r r'
   simp [trs, load, Fo.cells]; omega
theorem load_opened (x : TT) : load (opened x) ≤ x.1.2.cells.length := by
 unfold opened argPairs
 split
 ·rw [load_reverse]; exact load_zip _ _
 ·simp [load]
theorem len_load : ∀ st : List TT, st.length ≤ load st
 | [] => Nat.le_refl _
 | x :: r => by have := len_load r; simp [load]; omega
def Tr.ok (t : Tr) : Prop := t.fo.ok
theorem trs_ok : ∀ F : Fo, F.ok → ∀ t ∈ trs F, Tr.ok t
 | .nil, _, t, h => by simp [trs] at h
 | .node c k r, ⟨h1, h2, h3, h4, h5, h6⟩, t, h => by
   rcases List.mem_cons.1 (show t ∈ (c, k) :: trs r from h) with rfl | h'
   ·exact ⟨h1, h2, h3, h4, h5, trivial⟩
   ·exact trs_ok r h6 t h'
theorem opened_ok {x : TT} (h1 : x.1.ok) (h2 : x.2.ok) : ∀ y ∈ opened x, y.1.ok ∧ y.2.ok := fun y hy => by
 unfold opened argPairs at hy
 split at hy
 ·have hz := List.of_mem_zip (List.mem_reverse.1 hy)
  exact ⟨trs_ok _ h1.2.2.2.2.1 _ hz.1, trs_ok _ h2.2.2.2.2.1 _ hz.2⟩
 ·cases hy
theorem ok_count {x : TT} (h1 : x.1.ok) (h2 : x.2.ok) (h : x.1.1 = x.2.1) : x.1.2.count = x.2.2.count := by
 obtain ⟨⟨c, k⟩, ⟨c', k'⟩⟩ := x; simp only at h; subst h
 by_cases h3 : c.1 = 3
 ·have e1 := h1.2.2.1 h3
  have e2 := h2.2.2.1 h3; simp only at e1 e2 ⊢
  omega
 ·have e1 : k = .nil := h1.2.2.2.1 h3
  have e2 : k' = .nil := h2.2.2.2.1 h3; rw [e1, e2]
theorem Fo.cells_inj : ∀ (a b : Fo) (x y : List Cel), a.ok → b.ok → a.count = b.count → a.cells ++ x = b.cells ++ y → a = b ∧ x = y
 | .nil, .nil, x, y, _, _, _, h => ⟨rfl, by simpa [Fo.cells] using h⟩
 | .nil, .node _ _ _, _, _, _, _, h, _ => by simp [Fo.count] at h
 | .node _ _ _, .nil, _, _, _, _, h, _ => by simp [Fo.count] at h
 | .node c k r, .node c' k' r', x, y, h1, h2, hc, h => by
   simp only [Fo.cells, List.cons_append, List.cons.injEq, List.append_assoc] at h; obtain ⟨rfl, h⟩ := h; have hk : k.count = k'.count := ok_count (x := ((c, k), (c, k'))) ⟨h1.1, h1.2.1, h1.2.2.1, h1.2.2.2.1, h1.2.2.2.2.1, trivial⟩ ⟨h2.1, h2.2.1, h2.2.2.1, h2.2.2.2.1, h2.2.2.2.2.1, trivial⟩ rfl; obtain ⟨rfl, h'⟩ := Fo.cells_inj k k' _ _ h1.2.2.2.2.1 h2.2.2.2.2.1 hk h; obtain ⟨rfl, rfl⟩ := Fo.cells_inj r r' x y h1.2.2.2.2.2 h2.2.2.2.2.2 (by simpa [Fo.count] using hc) h'; exact ⟨rfl, rfl⟩
theorem eqT_cells {x : TT} (h1 : x.1.ok) (h2 : x.2.ok) : eqT x = decide (x.1.1 :: x.1.2.cells = x.2.1 :: x.2.2.cells) := by
 rw [Bool.eq_iff_iff, eqT_iff, decide_eq_true_eq]; obtain ⟨⟨c, k⟩, ⟨c', k'⟩⟩ := x
 constructor
 ·intro h
  obtain ⟨rfl, rfl⟩ := Prod.mk.inj h
  rfl
 ·intro h
  have := Fo.cells_inj (.node c k .nil) (.node c' k' .nil) [] [] h1 h2 rfl (by simpa [Fo.cells] using h); have h3 := this.1
  injection h3 with e1 e2
  rw [e1, e2]
def ones : List (List Int) := [[45], [43], [97, 98, 115], [115, 105, 103, 110], [92]]
def slV (r : Option Addr × Nat × Nat) : Value := .slice r.1 r.2.1 r.2.2
def oddI : List Int := [0, 1, -1, 42, 1000000000000000, -1000000000000000, 255, 1000000]
def intD (x : Nat) : Int := if x < 40 then oddI.getD (x % 8) 0 else ((x % 12 : Nat) : Int) - 2
def leafT (xs : List Int) (k i : Nat) : List Cel × Nat :=
 if k % 5 = 0 then ([(1, intD (rdI xs i).toNat, [])], rdN xs i)
 else if k % 5 < 3 then ([(0, (((rdI xs i).toNat % 5 : Nat) : Int), [])], rdN xs i)
 else ([(2, 0, numsU (nameAt (rdI xs i).toNat))], rdN xs i)
def iterT (f : Nat → List Cel × Nat) : Nat → Nat → List (List Cel) × Nat
 | 0, i => ([], i)
 | n + 1, i => let r := f (iterT f n i).2; ((iterT f n i).1 ++ [r.1], r.2)
def binU : List (List UInt8) := [[45], [43], [61], [44], [58, 45], [59], [45, 62], [105, 115], [94], [42, 42], [42], [64, 64], [109, 111, 100], [102], [45, 45, 62], [114], [113]]
def unaU : List (List UInt8) := [[45], [92, 43], [58, 45], [43], [123, 125], [100, 121, 110, 97, 109, 105, 99], [103], [92], [112], [64, 64], [91, 93], [33]]
def lsL (css : List (List Cel)) (en : List Cel) : List Cel := css.flatMap (fun cs => dot :: cs) ++ en
def nodeT (xs : List Int) (f g : Nat → List Cel × Nat) (i : Nat) : List Cel × Nat :=
 let k := (rdI xs i).toNat
 let i1 := rdN xs i
 if i1 = xs.length ∨ k < 50 then leafT xs k i1
 else if k < 90 then
  let it := iterT f (1 + k % 3) i1
  if k % 4 = 0 then (lsL it.1 (g it.2).1, (g it.2).2) else (lsL it.1 [nilC], it.2)
 else if k < 180 then
  let a := f (rdN xs i1)
  let b := f a.2
  ((3, 2, numsU (binU.getD ((rdI xs i1).toNat % 17) [])) :: (a.1 ++ b.1), b.2)
 else if k < 230 then
  let a := f (rdN xs i1)
  ((3, 1, numsU (unaU.getD ((rdI xs i1).toNat % 12) [])) :: a.1, a.2)
 else
  let it := iterT f (1 + k % 4) i1
  ((3, ((1 + k % 4 : Nat) : Int), numsU (nameAt (rdI xs it.2).toNat)) :: it.1.flatten, rdN xs it.2)
def drawT (xs : List Int) : Nat → Nat → List Cel × Nat
 | 0 => fun i => leafT xs (rdI xs i).toNat (rdN xs i)
 | 1 => nodeT xs (drawT xs 0) (drawT xs 0)
 | d + 2 => nodeT xs (drawT xs (d + 1)) (drawT xs d)
structure Sml (m : Nat) (cs : List Cel) : Prop where
 pos : 0 < cs.length
 len : cs.length + 1 ≤ m
 txt : tl cs ≤ 11 * cs.length
theorem tl_app : ∀ (a b : List Cel), tl (a ++ b) = tl a + tl b
 | [], b => by simp [tl]
 | c :: a, b => by rw [List.cons_append, tl, tl, tl_app a b]; omega
theorem nameU_len (x : Nat) : (numsU (nameAt x)).length ≤ 11 := by
 rw [numsU, List.length_map, nameAt]
 have h : ∀ j, j < 28 → (nmU.getD j []).length ≤ 11 := by decide
 split
 ·exact h _ (by omega)
 ·exact h _ (by omega)
theorem binU_len (x : Nat) : (numsU (binU.getD (x % 17) [])).length ≤ 11 := by
 rw [numsU, List.length_map]
 have h : ∀ j, j < 17 → (binU.getD j []).length ≤ 11 := by decide
 exact h _ (by omega)
theorem unaU_len (x : Nat) : (numsU (unaU.getD (x % 12) [])).length ≤ 11 := by
 rw [numsU, List.length_map]
 have h : ∀ j, j < 12 → (unaU.getD j []).length ≤ 11 := by decide
 exact h _ (by omega)
theorem leafT_sml (xs : List Int) (k i : Nat) : Sml 2 (leafT xs k i).1 := by
 unfold leafT
 have := nameU_len (rdI xs i).toNat
 repeat' split
 all_goals exact ⟨by simp, by simp, by simp [tl]; try omega⟩
theorem iterT_len (f : Nat → List Cel × Nat) : ∀ (n i : Nat), (iterT f n i).1.length = n
 | 0, _ => rfl
 | n + 1, i => by simp [iterT, iterT_len f n i]
theorem iterT_at (f : Nat → List Cel × Nat) {P : List Cel → Prop} (hf : ∀ i, P (f i).1) : ∀ (n i j : Nat), j < n → P ((iterT f n i).1.getD j [])
 | 0, _, _, h => by omega
 | n + 1, i, j, h => by
   simp only [iterT]
   rcases Nat.lt_or_ge j n with h1 | h1
   ·rw [List.getD, List.getElem?_append_left (by rw [iterT_len]; exact h1)]
    exact iterT_at f hf n i j h1
   ·obtain rfl : j = n := by omega
    rw [List.getD, List.getElem?_append_right (by rw [iterT_len]; exact Nat.le_refl _), iterT_len, Nat.sub_self]; exact hf _
theorem iterT_sml (f : Nat → List Cel × Nat) {m : Nat} (hf : ∀ i, Sml m (f i).1) : ∀ (n i : Nat), (iterT f n i).1.flatten.length + n ≤ n * m ∧ tl (iterT f n i).1.flatten ≤ 11 * (iterT f n i).1.flatten.length
 | 0, _ => by simp [iterT, tl]
 | n + 1, i => by
   obtain ⟨h1, h2⟩ := iterT_sml f hf n i; have h3 := hf (iterT f n i).2; simp only [iterT, List.flatten_append, List.flatten_cons, List.flatten_nil, List.append_nil, List.length_append, tl_app]; have := h3.len; have := h3.txt; rw [Nat.add_mul]
   omega
theorem lsL_len : ∀ (css : List (List Cel)) (en : List Cel), (lsL css en).length = css.flatten.length + css.length + en.length ∧ tl (lsL css en) = tl css.flatten + css.length + tl en
 | [], en => by simp [lsL, tl]
 | c :: r, en => by
   obtain ⟨h1, h2⟩ := lsL_len r en; simp only [lsL, List.flatMap_cons, List.append_assoc, List.cons_append, List.length_cons, List.length_append, List.flatten_cons, tl_app, tl] at h1 h2 ⊢; simp only [dot, List.length_cons, List.length_nil] at h1 h2 ⊢
   omega
theorem nodeT_sml (xs : List Int) (f g : Nat → List Cel × Nat) {m : Nat} (h2 : 2 ≤ m) (hf : ∀ i, Sml m (f i).1) (hg : ∀ i, Sml m (g i).1) (i : Nat) : Sml (4 * m) (nodeT xs f g i).1 := by
 unfold nodeT
 simp only
 split
 ·have := leafT_sml xs (rdI xs i).toNat (rdN xs i)
  exact ⟨this.pos, by have := this.len; omega, this.txt⟩
 split
 ·obtain ⟨a1, a2⟩ := iterT_sml f hf (1 + (rdI xs i).toNat % 3) (rdN xs i)
  have hn : 1 + (rdI xs i).toNat % 3 ≤ 3 := by omega
  have h3 : (1 + (rdI xs i).toNat % 3) * m ≤ 3 * m := Nat.mul_le_mul_right m hn
  have h0 : 1 ≤ 1 + (rdI xs i).toNat % 3 := by omega
  generalize 1 + (rdI xs i).toNat % 3 = n at *
  split
  ·obtain ⟨b1, b2⟩ := lsL_len (iterT f n (rdN xs i)).1 (g (iterT f n (rdN xs i)).2).1
   have h4 := hg (iterT f n (rdN xs i)).2; rw [iterT_len] at b1 b2; have := h4.len; have := h4.pos; have := h4.txt
   show Sml (4 * m) (lsL (iterT f n (rdN xs i)).1 (g (iterT f n (rdN xs i)).2).1)
   exact ⟨by omega, by omega, by omega⟩
  ·obtain ⟨b1, b2⟩ := lsL_len (iterT f n (rdN xs i)).1 [nilC]
   rw [iterT_len] at b1 b2; have e1 : tl [nilC] = 2 := rfl; have e2 : [nilC].length = 1 := rfl; rw [e2] at b1; rw [e1] at b2
   show Sml (4 * m) (lsL (iterT f n (rdN xs i)).1 [nilC])
   exact ⟨by omega, by omega, by omega⟩
 split
 ·have ha := hf (rdN xs (rdN xs i)); have hb := hf (f (rdN xs (rdN xs i))).2
  have := ha.len; have := ha.pos; have := ha.txt; have := hb.len; have := hb.txt; have := binU_len (rdI xs (rdN xs i)).toNat; exact ⟨by simp, by simp; omega, by simp only [tl, tl_app, List.length_cons, List.length_append]; omega⟩
 split
 ·have ha := hf (rdN xs (rdN xs i))
  have := ha.len; have := ha.pos; have := ha.txt; have := unaU_len (rdI xs (rdN xs i)).toNat; exact ⟨by simp, by simp; omega, by simp only [tl, List.length_cons]; omega⟩
 ·obtain ⟨a1, a2⟩ := iterT_sml f hf (1 + (rdI xs i).toNat % 4) (rdN xs i)
  have hn : 1 + (rdI xs i).toNat % 4 ≤ 4 := by omega
  have h3 : (1 + (rdI xs i).toNat % 4) * m ≤ 4 * m := Nat.mul_le_mul_right m hn
  have h0 : 1 ≤ 1 + (rdI xs i).toNat % 4 := by omega
  generalize 1 + (rdI xs i).toNat % 4 = n at *
  have := nameU_len (rdI xs (iterT f n (rdN xs i)).2).toNat
  have h1 : n = 1 → n * m = m := fun e => by rw [e, Nat.one_mul]
  refine ⟨by simp, ?_, by simp only [tl, List.length_cons]; omega⟩; simp only [List.length_cons]
  rcases (by omega : n = 1 ∨ 2 ≤ n) with e | e
  ·have := h1 e
   omega
  ·omega
theorem drawT_sml (xs : List Int) : ∀ (d i : Nat), Sml (2 * 4 ^ d) (drawT xs d i).1
 | 0, i => leafT_sml xs _ _
 | 1, i => nodeT_sml xs _ _ (m := 2) (by omega) (drawT_sml xs 0) (drawT_sml xs 0) i
 | d + 2, i => by
   have := nodeT_sml xs (drawT xs (d + 1)) (drawT xs d) (m := 2 * 4 ^ (d + 1)) (by have := Nat.pow_pos (n := d + 1) (show 0 < 4 by decide); omega) (drawT_sml xs (d + 1)) (fun i => by
    have h := drawT_sml xs d i
    exact ⟨h.pos, Nat.le_trans h.len (by rw [Nat.pow_succ]; omega), h.txt⟩) i
   rw [Nat.pow_succ 4 (d + 1)]; rw [show 2 * (4 ^ (d + 1) * 4) = 4 * (2 * 4 ^ (d + 1)) by omega]; exact this
end
end Go.Proofs.YtdmmchoicngblaaGreatDoor
