/- Slices of slices of cells. Own work of the verifier. -/
import Derived.Test.YtopdhjnpcpkmlaaMarkC
import Derived.Test.YtopdhjnpcpkmlaaTree3
import Derived.Maps.AppendAt
namespace Go.Proofs.Ytopdhjnpcpkmlaa
open Go Go.RowKit
set_option linter.unusedVariables false

theorem infoCells : (Try.prog.info? 25).map (fun i => (i.zero, i.size, i.bytes)) = some (some (.slice none 0 0), 1, 24) := by kernel_rfl

/-- How a slice of slices of cells lies. -/
def CCIn (w : World) (p : Option Addr) (css : List (List Cel)) : Prop :=
  0 < css.length → ∃ b o, p = some ⟨b, o, none⟩ ∧ ∀ i, i < css.length → ∃ q c, w.cell? ⟨b, o + i, none⟩ = some (.slice q (css.getD i []).length c) ∧ CIn w q (css.getD i [])
theorem CCIn.below {W W' : World} {p : Option Addr} {css : List (List Cel)} (h : CCIn W p css) (hb : Below W.heap.size W W') : CCIn W' p css := fun hn => by
  obtain ⟨b, o, rfl, hc⟩ := h hn
  refine ⟨b, o, rfl, fun i hi => ?_⟩
  obtain ⟨q, c, h1, h2⟩ := hc i hi
  exact ⟨q, c, (hb.cell (World.block_lt_of_cell? _ _ h1)).trans h1, h2.below hb⟩

/-- An item: where it lies, its capacity, the blocks from .. to. -/
abbrev It := Option Addr × Nat × Nat × Nat
def It.zero : It := (none, 0, 0, 0)
def vals (ds : List It) (css : List (List Cel)) : List Value := (List.range css.length).map fun i => .slice (ds.getD i It.zero).1 (css.getD i []).length (ds.getD i It.zero).2.1
theorem vals_at (ds : List It) (css : List (List Cel)) (i : Nat) (h : i < css.length) : (vals ds css)[i]? = some (.slice (ds.getD i It.zero).1 (css.getD i []).length (ds.getD i It.zero).2.1) := by simp [vals, h]
/-- A slice of slices of cells that a call owns, all of it in blocks from B on and below U. -/
structure OwnSS (w : World) (B U : Nat) (p : Option Addr) (n c : Nat) (css : List (List Cel)) (ds : List It) : Prop where
  len : n = css.length
  dlen : ds.length = css.length
  row : w.ownsRow B 25 1 (.slice p n c) n (vals ds css)
  item : ∀ i, i < css.length → OwnCU w (ds.getD i It.zero).2.2.1 (ds.getD i It.zero).2.2.2 (ds.getD i It.zero).1 (css.getD i []).length (ds.getD i It.zero).2.1 (css.getD i [])
  low : ∀ i, i < css.length → B ≤ (ds.getD i It.zero).2.2.1 ∧ (ds.getD i It.zero).2.2.2 ≤ U
  away : ∀ i, i < css.length → ∀ g, Value.ownBlock (.slice p n c) = some g → g < (ds.getD i It.zero).2.2.1 ∨ (ds.getD i It.zero).2.2.2 ≤ g
  apart : ∀ i j, i < j → j < css.length → (ds.getD i It.zero).2.2.2 ≤ (ds.getD j It.zero).2.2.1
  top : ∀ g, Value.ownBlock (.slice p n c) = some g → g < U
def OwnCC (w : World) (B U : Nat) (p : Option Addr) (n c : Nat) (css : List (List Cel)) : Prop := ∃ ds, OwnSS w B U p n c css ds
theorem OwnCC.nil (w : World) (B U : Nat) : OwnCC w B U none 0 0 [] := ⟨[], rfl, rfl, World.ownsRow_nil _ _ _ _, fun i h => by simp at h, fun i h => by simp at h, fun i h => by simp at h, fun i j _ h => by simp at h, fun g h => by cases h⟩
theorem OwnCC.ccin {w : World} {B U : Nat} {p : Option Addr} {n c : Nat} {css : List (List Cel)} (h : OwnCC w B U p n c css) : CCIn w p css := fun hn => by
  obtain ⟨ds, h⟩ := h
  have hl := h.len
  obtain ⟨g, cap, hv, hb, hg⟩ := h.row.form (by omega)
  simp only [Value.slice.injEq, true_and] at hv
  obtain ⟨rfl, rfl⟩ := hv
  refine ⟨g, 0, rfl, fun i hi => ⟨(ds.getD i It.zero).1, (ds.getD i It.zero).2.1, ?_, (h.item i hi).toC.cin⟩⟩
  rw [Nat.zero_add, h.row.cellAt i (by omega)]
  exact vals_at ds css i hi
theorem OwnSS.other {w w' : World} {B U : Nat} {p : Option Addr} {n c : Nat} {css : List (List Cel)} {ds : List It} (h : OwnSS w B U p n c css ds) (hs : w.heap.size ≤ w'.heap.size) (hb : ∀ k, k < w.heap.size → B ≤ k → k < U → w'.heap[k]? = w.heap[k]?) : OwnSS w' B U p n c css ds := by
  refine ⟨h.len, h.dlen, ⟨h.row.1, ?_⟩, fun i hi => (h.item i hi).other hs (fun k h1 h2 h3 => hb k h1 (by have := h.low i hi; omega) (by have := h.low i hi; omega)), h.low, h.away, h.apart, h.top⟩
  rcases h.row.2 with h' | ⟨g, cap, cur, hv, hB, hg, r⟩
  · exact .inl h'
  · refine .inr ⟨g, cap, cur, hv, hB, (hb g (Array.getElem?_eq_some_iff.1 hg).1 hB (h.top g ?_)).trans hg, r⟩
    simp only [Value.slice.injEq] at hv
    rw [hv.1]; rfl
theorem OwnCC.below {w w' : World} {B U : Nat} {p : Option Addr} {n c : Nat} {css : List (List Cel)} (h : OwnCC w B U p n c css) (hb : Below w.heap.size w w') : OwnCC w' B U p n c css := by
  obtain ⟨ds, h⟩ := h
  exact ⟨ds, h.other hb.size (fun k hk _ _ => hb.block k hk)⟩
theorem OwnCC.keep {w w' : World} {B U B' U' : Nat} {p : Option Addr} {n c : Nat} {css : List (List Cel)} (h : OwnCC w B U p n c css) (hk : Keep B' U' w w') (ho : U ≤ B' ∨ U' ≤ B) : OwnCC w' B U p n c css := by
  obtain ⟨ds, h⟩ := h
  exact ⟨ds, h.other hk.size (fun k h1 h2 h3 => hk.block k h1 (by omega))⟩
theorem OwnCC.up {w : World} {B U U' : Nat} {p : Option Addr} {n c : Nat} {css : List (List Cel)} (h : OwnCC w B U p n c css) (hU : U ≤ U') : OwnCC w B U' p n c css := by
  obtain ⟨ds, h⟩ := h
  exact ⟨ds, h.len, h.dlen, h.row, h.item, fun i hi => ⟨(h.low i hi).1, Nat.le_trans (h.low i hi).2 hU⟩, h.away, h.apart, fun g hg => Nat.lt_of_lt_of_le (h.top g hg) hU⟩
theorem OwnCC.down {w : World} {B B' U : Nat} {p : Option Addr} {n c : Nat} {css : List (List Cel)} (h : OwnCC w B U p n c css) (hB : B' ≤ B) : OwnCC w B' U p n c css := by
  obtain ⟨ds, h⟩ := h
  exact ⟨ds, h.len, h.dlen, ownsRow_down h.row hB, h.item, fun i hi => ⟨Nat.le_trans hB (h.low i hi).1, (h.low i hi).2⟩, h.away, h.apart, h.top⟩

theorem ds_append_at (ds : List It) (r : It) (i : Nat) (h : i ≤ ds.length) : (ds ++ [r]).getD i It.zero = if i = ds.length then r else ds.getD i It.zero := by
  by_cases e : i = ds.length
  · subst e; simp [List.getD]
  · rw [if_neg e, List.getD, List.getD, List.getElem?_append_left (by omega)]
theorem css_append_at (cs : List (List Cel)) (c : List Cel) (i : Nat) (h : i ≤ cs.length) : (cs ++ [c]).getD i [] = if i = cs.length then c else cs.getD i [] := by
  by_cases e : i = cs.length
  · subst e; simp [List.getD]
  · rw [if_neg e, List.getD, List.getD, List.getElem?_append_left (by omega)]
theorem vals_append (ds : List It) (css : List (List Cel)) (d : It) (c : List Cel) (h : ds.length = css.length) : vals (ds ++ [d]) (css ++ [c]) = vals ds css ++ [.slice d.1 c.length d.2.1] := by
  apply List.ext_getElem?
  intro i
  rcases Nat.lt_trichotomy i css.length with hi | hi | hi
  · rw [vals_at _ _ _ (by simp; omega), List.getElem?_append_left (by simpa [vals] using hi), vals_at _ _ _ hi, ds_append_at _ _ _ (by omega), css_append_at _ _ _ (by omega), if_neg (by omega), if_neg (by omega)]
  · subst hi
    rw [vals_at _ _ _ (by simp), List.getElem?_append_right (by simp [vals]), ds_append_at _ _ _ (by omega), css_append_at _ _ _ (by omega), if_pos h.symm, if_pos rfl]
    simp [vals]
  · rw [List.getElem?_eq_none (by simp [vals]; omega), List.getElem?_eq_none (by simp [vals]; omega)]

/-- append of an item onto items of the call's own. -/
theorem app_item (W0 w : World) {ops : Array Oper} {rest : List Oper} {o : Oper} {a : Act} {Q : Exit → Act → World → Prop} (hgd : o.guard = none) (s x : Operand)
    (ho : o.op = .call { callee := .builtin .append, args := #[s, x], argTypes := #[42, 42] }) (B : Nat) (p : Option Addr) (n c : Nat) (css : List (List Cel))
    (hs : a.eval s = .slice p n c) (hown : OwnCC W0 B W0.heap.size p n c css) (hb0 : Below W0.heap.size W0 w) (hB : B ≤ W0.heap.size) (q : Option Addr) (m cq : Nat) (cs : List Cel) (hit : OwnC w W0.heap.size q m cq cs)
    (hx : a.eval x = .slice (some ⟨w.heap.size, 0, none⟩) 1 1) (hlen : n + 1 ≤ 1000000)
    (h : ∀ g n' cap w', OwnCC w' B w'.heap.size (some ⟨g, 0, none⟩) n' cap (css ++ [cs]) → Below B (w.alloc (.cells #[.slice q m cq] 25)) w' → Hid (n' = n + 1) → wpList Try.prog ops Q rest (a.put o.dst (.slice (some ⟨g, 0, none⟩) n' cap)) w') : wpList Try.prog ops Q (o :: rest) a (w.alloc (.cells #[.slice q m cq] 25)) := by
  obtain ⟨i0, hi, hz0, hz1, hz2⟩ := info_parts infoCells
  obtain ⟨ds, hss⟩ := hown
  have hal : Below w.heap.size w (w.alloc (.cells #[.slice q m cq] 25)) := (Below.refl _ _).alloc (Nat.le_refl _) _
  have hb1 := Below.on hb0 hal
  refine wpList_append_lies _ hgd s x 42 ho B 25 i0 (.slice none 0 0) 1 24 Try.underlying42 hi hz0 hz1 hz2 rfl (by decide) (.slice p n c) n (vals ds css) hs (row_below hss.row hb1) ⟨w.heap.size, 0, none⟩ 1 1 [.slice q m cq] hx rfl (cell_one_new _ _ _) (fun u hu => by simp at hu; rw [hu]; rfl) (by decide) (by unfold maxLen; omega) (by omega) (Nat.le_trans hB hb1.size) _ rfl ?_
  intro g cap w' hown' hgrow hat hlt
  have hown : ∀ k, Value.ownBlock (.slice p n c) = some k → B ≤ k ∧ k < W0.heap.size := fun k hk => hss.row.lt k hk
  have hm := hit.1
  have hg2 : g < W0.heap.size ∨ w.heap.size ≤ g := by
    rcases hat with h' | h'
    · exact .inl (hown g h').2
    · right; rw [h']; simp
  have hws := hb0.size
  have keepS : ∀ k, k < w.heap.size → (∀ j, Value.ownBlock (.slice p n c) = some j → k ≠ j) → w'.heap[k]? = w.heap[k]? := fun k hk hne =>
    (hgrow.block k (by simp; omega) (fun e => hne k e.symm rfl)).trans (Below.heap_alloc _ _ _ hk)
  have hitU := hit.up
  refine h g _ cap w' ⟨ds ++ [(q, cq, W0.heap.size, w.heap.size)], ?_⟩ ((Below.refl _ _).grown hgrow (Nat.le_trans hB hb1.size) (fun k hk => (hown k hk).1)) rfl
  have hdl := hss.dlen
  have hln := hss.len
  refine ⟨by simp; omega, by simp; omega, by rw [vals_append _ _ _ _ hdl, ← hm]; exact hown', fun i hi => ?_, fun i hi => ?_, fun i hi k hk => ?_, fun i j hij hj => ?_, fun k hk => ?_⟩
  · have hi' : i ≤ css.length := by simp at hi; omega
    rw [ds_append_at _ _ _ (by omega), css_append_at _ _ _ hi']
    by_cases e : i = css.length
    · rw [if_pos (by omega), if_pos e, ← hm]
      exact hitU.other (by have := hgrow.size; simp at this; omega) (fun k h1 h2 h3 => keepS k h1 (fun j hj => by have := (hown j hj).2; omega))
    · rw [if_neg (by omega), if_neg e]
      refine ((hss.item i (by omega)).below hb0).other (by have := hgrow.size; simp at this; omega) (fun k h1 h2 h3 => keepS k h1 (fun j hj => ?_))
      have := hss.away i (by omega) j hj
      omega
  · have hi' : i ≤ css.length := by simp at hi; omega
    rw [ds_append_at _ _ _ (by omega)]
    have hwl : w.heap.size ≤ w'.heap.size := by have := hgrow.size; simp at this; omega
    by_cases e : i = css.length
    · rw [if_pos (by omega)]; exact ⟨hB, hwl⟩
    · rw [if_neg (by omega)]
      have := hss.low i (by omega)
      exact ⟨this.1, by omega⟩
  · have hi' : i ≤ css.length := by simp at hi; omega
    have hk' : k = g := (Option.some.inj hk).symm
    subst hk'
    rw [ds_append_at _ _ _ (by omega)]
    by_cases e : i = css.length
    · rw [if_pos (by omega)]; exact hg2
    · rw [if_neg (by omega)]
      rcases hat with h' | h'
      · exact hss.away i (by omega) _ h'
      · right
        have := (hss.low i (by omega)).2
        have hsz : (w.alloc (.cells #[.slice q m cq] 25)).heap.size = w.heap.size + 1 := by simp
        rw [h', hsz]; omega
  · have hj' : j ≤ css.length := by simp at hj; omega
    rw [ds_append_at _ _ _ (by omega), ds_append_at _ _ _ (by omega), if_neg (by omega)]
    by_cases e : j = css.length
    · rw [if_pos (by omega)]
      exact (hss.low i (by omega)).2
    · rw [if_neg (by omega)]
      exact hss.apart i j hij (by omega)
  · have hk' : k = g := (Option.some.inj hk).symm
    omega

/-- How much there is in all. -/
def tll : List (List Cel) → Nat
  | [] => 0
  | c :: r => c.length + tl c + tll r
theorem tll_at : ∀ (css : List (List Cel)) (i : Nat), i < css.length → (css.getD i []).length + tl (css.getD i []) ≤ tll css
  | [], i, h => by simp at h
  | c :: r, 0, _ => by simp [tll]
  | c :: r, i + 1, h => by have := tll_at r i (by simpa using h); simp only [tll, List.getD_cons_succ]; omega

set_option maxRecDepth 100000 in
theorem eqSS_any (p q : Option Addr) (n m c1 c2 : Nat) (css : List (List Cel)) (w : World) (hn : n = css.length) (hm : m = css.length) (hl : css.length + tll css ≤ 100000000) (hx : CCIn w p css) (hy : CCIn w q css) :
    Calls Try.prog 29 #[.slice p n c1, .slice q m c2] w fun e w' => e = .returned (.bool true) ∧ Below w.heap.size w w' := by
  obtain rfl : m = n := by omega
  have HN : Hid (m = css.length) := hn
  have HX : Hid (CCIn w p css) := hx
  have HY : Hid (CCIn w q css) := hy
  have hmm : m ≤ 100000000 := by omega
  clear hn hm hx hy
  go_enter Try.func29, Try.ntmps29
  go_wp2_with fail
  go_loopw [5] (fun i wr => ∃ k : Nat, k ≤ m ∧ i = .int .i64 k ∧ Hid (Below w.heap.size w wr)) (fun i _ => m - (intOf i).toNat)
  case atStart => exact ⟨0, Nat.zero_le _, rfl, Below.refl _ _⟩
  case round =>
    obtain ⟨k, hk, rfl, HB⟩ := hrel
    by_cases hlt : k < m
    · have hkl : k < css.length := by rw [← HN.out]; exact hlt
      obtain ⟨b, o, rfl, hcx⟩ := (HX.out.below HB.out) (by omega)
      obtain ⟨b', o', rfl, hcy⟩ := (HY.out.below HB.out) (by omega)
      obtain ⟨px, qx, x0, x1⟩ := hcx k hkl
      obtain ⟨py, qy, y0, y1⟩ := hcy k hkl
      have ht := tll_at css k hkl
      have HS : Hid (∀ W, Below wr.heap.size wr W → Calls Try.prog 13 #[.slice px (css.getD k []).length qx, .slice py (css.getD k []).length qy] W fun e w' => e = .returned (.bool true) ∧ Below W.heap.size W w') := fun W hW => by
        have := eqCellS_any px py qx qy (css.getD k []) (css.getD k []) W (by omega) (by omega) (x1.below hW) (y1.below hW)
        have e : decide (css.getD k [] = css.getD k []) = true := by simp
        rwa [e] at this
      obtain ⟨l, el⟩ : ∃ l, l = (css.getD k []).length := ⟨_, rfl⟩
      rw [← el] at x0 y0 HS
      clear hcx hcy x1 y1 ht el
      go_wp2_with fail
      go_region_with (go_at_call 13; refine (HS.out _ (Below.refl _ _).drew).mono ?_; rintro e w2 ⟨rfl, hb2⟩)
      all_goals go_wp2_with fail
      all_goals go_roundw
      all_goals first
        | (simp [intOf]; omega)
        | exact ⟨k + 1, by omega, by go_num, Below.on HB.out ((Below.refl _ _).drew.trans hb2)⟩
    · obtain rfl : k = m := by omega
      go_wp2_with fail
      go_ret
      exact ⟨rfl, HB.out⟩

/-- Where the marks of item j begin. -/
def kS (k : Int) (css : List (List Cel)) (j : Nat) : Int := (css.take j).foldl endC k
theorem kS_succ (k : Int) (css : List (List Cel)) (j : Nat) (h : j < css.length) : kS k css (j + 1) = endC (kS k css j) (css.getD j []) := by
  rw [kS, List.take_succ_eq_append_getElem h, List.foldl_append, kS, List.getD, List.getElem?_eq_getElem h]; rfl
theorem endC_eq (k : Int) (cs : List Cel) : endC k cs = k + 2 * cs.length + tl cs := by simp [endC, kAt]
theorem kS_bound (k : Int) : ∀ (css : List (List Cel)) (j : Nat), k ≤ kS k css j ∧ kS k css j ≤ k + 2 * tll css
  | [], j => by simp [kS, tll]
  | c :: r, 0 => by simp [kS, tll]; omega
  | c :: r, j + 1 => by
    have := kS_bound (endC k c) r j
    have e := endC_eq k c
    simp only [kS, List.take_succ_cons, List.foldl_cons, tll] at this ⊢
    omega
def mixS (k : Int) (css : List (List Cel)) (j : Nat) : List (List Cel) := (List.range css.length).map fun i => if i < j then markC (kS k css i) (css.getD i []) else css.getD i []
theorem mixS_len (k : Int) (css : List (List Cel)) (j : Nat) : (mixS k css j).length = css.length := by simp [mixS]
theorem mixS_at (k : Int) (css : List (List Cel)) (j i : Nat) (h : i < css.length) : (mixS k css j).getD i [] = if i < j then markC (kS k css i) (css.getD i []) else css.getD i [] := by
  simp [mixS, List.getD, h]
theorem markC_len (k : Int) (cs : List Cel) : (markC k cs).length = cs.length := mixC_len ..
theorem mixS_itemlen (k : Int) (css : List (List Cel)) (j i : Nat) (h : i < css.length) : ((mixS k css j).getD i []).length = (css.getD i []).length := by
  rw [mixS_at _ _ _ _ h]; split; exact markC_len _ _; rfl
theorem same_css {xs ys : List (List Cel)} (hl : xs.length = ys.length) (h : ∀ j, j < xs.length → xs.getD j [] = ys.getD j []) : xs = ys := by
  apply List.ext_getElem hl
  intro i h1 h2
  have := h i h1
  rwa [List.getD, List.getD, List.getElem?_eq_getElem h1, List.getElem?_eq_getElem h2] at this
theorem mixS_zero (k : Int) (css : List (List Cel)) : mixS k css 0 = css := same_css (mixS_len ..) (fun j hj => by rw [mixS_at _ _ _ _ (by rw [mixS_len] at hj; exact hj), if_neg (Nat.not_lt_zero _)])
theorem vals_mix (k : Int) (css : List (List Cel)) (j : Nat) (ds : List It) : vals ds (mixS k css j) = vals ds css := by
  simp only [vals, mixS_len]
  refine List.map_congr_left fun i hi => ?_
  rw [mixS_itemlen _ _ _ _ (List.mem_range.1 hi)]
def markSS (k : Int) (css : List (List Cel)) : List (List Cel) := mixS k css css.length
def endSS (k : Int) (css : List (List Cel)) : Int := kS k css css.length

theorem markSS_any (B U : Nat) (p : Option Addr) (n c : Nat) (k : Int) (css : List (List Cel)) (w : World) (h0 : 0 ≤ k) (h1 : k ≤ 100) (hn : css.length + tll css ≤ 2000000) (hown : OwnCC w B U p n c css) :
    Calls Try.prog 30 #[.slice p n c, .int .i64 k] w fun e w' => e = .returned (.int .i64 (endSS k css)) ∧ OwnCC w' B U p n c (markSS k css) ∧ Keep B U w w' := by
  obtain ⟨ds, hss⟩ := hown
  have HNL : Hid (n = css.length) := hss.len
  have hnn : n ≤ 2000000 := by have := hss.len; omega
  have HO : Hid (OwnSS w B U p n c css ds) := hss
  clear hss
  go_enter Try.func30, Try.ntmps30
  go_wp2_with fail
  go_loopw [1, 5] (fun q i wr => ∃ (j : Nat) (kj : Int), j ≤ n ∧ 0 ≤ kj ∧ kj ≤ 5000000 ∧ i = .int .i64 j ∧ q = .int .i64 kj ∧ Hid (kj = kS k css j) ∧ Hid (OwnSS wr B U p n c (mixS k css j) ds) ∧ Hid (Keep B U w wr)) (fun _ i _ => n - (intOf i).toNat)
  case atStart => exact ⟨0, k, Nat.zero_le _, h0, by omega, rfl, rfl, rfl, by rw [mixS_zero]; exact HO, Keep.refl _ _ _⟩
  case round =>
    obtain ⟨j, kj, hj, hk0, hk1, rfl, rfl, HK, HR, HG⟩ := hrel
    by_cases hlt : j < n
    · have hjl : j < css.length := by rw [← HNL.out]; exact hlt
      have hjm : j < (mixS k css j).length := by rw [mixS_len]; exact hjl
      obtain ⟨g, cap, hv, hbg, hgs⟩ := HR.out.row.form (by omega)
      simp only [Value.slice.injEq, true_and] at hv
      obtain ⟨rfl, rfl⟩ := hv
      have d0 := (HR.out.row.cellAt j (by omega)).trans (vals_at ds _ j hjm)
      have hit := HR.out.item j hjm
      have hmj : (mixS k css j).getD j [] = css.getD j [] := by rw [mixS_at _ _ _ _ hjl, if_neg (Nat.lt_irrefl j)]
      rw [hmj] at d0 hit
      have ht := tll_at css j hjl
      have HMK := markCells_any _ _ _ _ _ kj (css.getD j []) wr hk0 (by omega) (by omega) hit
      have HBD : Hid (kS k css (j + 1) = endC kj (css.getD j []) ∧ 0 ≤ kS k css (j + 1) ∧ kS k css (j + 1) ≤ 5000000) := ⟨by rw [kS_succ _ _ _ hjl, ← HK.out], by have := kS_bound k css (j + 1); omega, by have := kS_bound k css (j + 1); omega⟩
      have HLOW : Hid _ := HR.out.low j hjm
      have HAW : Hid (g < (ds.getD j It.zero).2.2.1 ∨ (ds.getD j It.zero).2.2.2 ≤ g) := HR.out.away j hjm g rfl
      obtain ⟨l, el⟩ : ∃ l, l = (css.getD j []).length := ⟨_, rfl⟩
      obtain ⟨ek, eek⟩ : ∃ ek, ek = endC kj (css.getD j []) := ⟨_, rfl⟩
      have HEL : Hid (l = (css.getD j []).length) := el
      rw [← eek] at HMK HBD
      rw [← el] at d0 HMK
      obtain ⟨ip, eip⟩ : ∃ x, x = (ds.getD j It.zero).1 := ⟨_, rfl⟩
      obtain ⟨ic, eic⟩ : ∃ x, x = (ds.getD j It.zero).2.1 := ⟨_, rfl⟩
      have HIP : Hid (ip = (ds.getD j It.zero).1 ∧ ic = (ds.getD j It.zero).2.1) := ⟨eip, eic⟩
      rw [← eip, ← eic] at d0 HMK
      clear hit hmj ht el eek eip eic
      go_wp2_with fail
      refine HMK.mono ?_
      rintro e w3 ⟨rfl, ho3, hkp⟩
      have HO3 : Hid (OwnSS w3 B U (some ⟨g, 0, none⟩) n c (mixS k css (j + 1)) ds) := by
        have hr := HR.out
        have hlow := HLOW.out
        have haw := HAW.out
        refine ⟨by rw [mixS_len]; exact HNL.out, by rw [mixS_len, ← mixS_len k css j]; exact hr.dlen, ?_, fun i hi => ?_, fun i hi => hr.low i (by rw [mixS_len] at hi ⊢; exact hi), fun i hi => hr.away i (by rw [mixS_len] at hi ⊢; exact hi), fun i i' h1 h2 => hr.apart i i' h1 (by rw [mixS_len] at h2 ⊢; exact h2), hr.top⟩
        · rw [vals_mix, ← vals_mix k css j]
          refine ⟨hr.row.1, ?_⟩
          rcases hr.row.2 with h' | ⟨g', cap, cur, hv, hB, hg, r⟩
          · exact .inl h'
          · have e : g = g' := by simp only [Value.slice.injEq] at hv; exact congrArg Addr.block (Option.some.inj hv.1)
            exact .inr ⟨g', cap, cur, hv, hB, (hkp.block g' (Array.getElem?_eq_some_iff.1 hg).1 (by omega)).trans hg, r⟩
        · have hi' : i < css.length := by rw [mixS_len] at hi; exact hi
          have him : i < (mixS k css j).length := by rw [mixS_len]; exact hi'
          rw [mixS_itemlen _ _ _ _ hi', mixS_at _ _ _ _ hi']
          by_cases e : i = j
          · subst e
            rw [if_pos (by omega), ← HK.out, ← HEL.out, ← HIP.out.1, ← HIP.out.2]
            exact ho3
          · have old := hr.item i him
            rw [mixS_itemlen _ _ _ _ hi', mixS_at _ _ _ _ hi'] at old
            have e2 : (if i < j + 1 then markC (kS k css i) (css.getD i []) else css.getD i []) = (if i < j then markC (kS k css i) (css.getD i []) else css.getD i []) := by
              by_cases e3 : i < j
              · rw [if_pos e3, if_pos (by omega)]
              · rw [if_neg e3, if_neg (by omega)]
            rw [e2]
            refine old.keep hkp ?_
            rcases Nat.lt_or_gt_of_ne e with h | h
            · exact .inl (hr.apart i j h hjm)
            · exact .inr (hr.apart j i h him)
      have HG3 : Hid (Keep B U w w3) := HG.out.trans ⟨hkp.os, hkp.tape, hkp.output, hkp.size, fun b hb hp => hkp.block b hb (by have := HLOW.out; omega)⟩
      clear ho3 hkp HMK
      go_wp2_with fail
      go_roundw
      case rel => exact ⟨j + 1, ek, by omega, by have := HBD.out; omega, by have := HBD.out; omega, by go_num, rfl, HBD.out.1.symm, HO3, HG3⟩
      case measure => simp [intOf]; omega
    · obtain rfl : j = n := by omega
      go_wp2_with fail
      go_ret
      refine ⟨ret_int ?_, ⟨ds, ?_⟩, HG.out⟩
      · rw [HK.out, HNL.out]; rfl
      · rw [markSS, ← HNL.out]; exact HR.out

theorem heldSS_any (p : Option Addr) (n c : Nat) (k : Int) (css : List (List Cel)) (w : World) (h0 : 0 ≤ k) (h1 : k ≤ 100) (hn : css.length + tll css ≤ 2000000) (hl : n = css.length) (hin : CCIn w p (markSS k css)) :
    Calls Try.prog 33 #[.slice p n c, .int .i64 k] w fun e w' => e = .returned (.int .i64 (endSS k css)) ∧ w' = w := by
  have HI : Hid (CCIn w p (markSS k css)) := hin
  have HNL : Hid (n = css.length) := hl
  have hnn : n ≤ 2000000 := by omega
  clear hin hl
  go_enter Try.func33, Try.ntmps33
  go_wp2_with fail
  go_loop [1, 5] (fun q i => ∃ (j : Nat) (kj : Int), j ≤ n ∧ 0 ≤ kj ∧ kj ≤ 5000000 ∧ i = .int .i64 j ∧ q = .int .i64 kj ∧ Hid (kj = kS k css j)) (fun _ i => n - (intOf i).toNat)
  case atStart => exact ⟨0, k, Nat.zero_le _, h0, by omega, rfl, rfl, rfl⟩
  case round =>
    obtain ⟨j, kj, hj, hk0, hk1, rfl, rfl, HK⟩ := hrel
    by_cases hlt : j < n
    · have hjl : j < css.length := by rw [← HNL.out]; exact hlt
      obtain ⟨b, o, rfl, hcs⟩ := HI.out (by rw [markSS, mixS_len]; omega)
      obtain ⟨q, qc, d0, d1⟩ := hcs j (by rw [markSS, mixS_len]; exact hjl)
      have hm : (markSS k css).getD j [] = markC kj (css.getD j []) := by rw [markSS, mixS_at _ _ _ _ hjl, if_pos hjl, HK.out]
      rw [hm] at d0 d1
      rw [markC_len] at d0
      have ht := tll_at css j hjl
      have HBD : Hid (kS k css (j + 1) = endC kj (css.getD j []) ∧ 0 ≤ kS k css (j + 1) ∧ kS k css (j + 1) ≤ 5000000) := ⟨by rw [kS_succ _ _ _ hjl, ← HK.out], by have := kS_bound k css (j + 1); omega, by have := kS_bound k css (j + 1); omega⟩
      have HH := heldCells_any q (css.getD j []).length qc kj (css.getD j []) w hk0 (by omega) (by omega) rfl d1
      obtain ⟨l, el⟩ : ∃ l, l = (css.getD j []).length := ⟨_, rfl⟩
      obtain ⟨ek, eek⟩ : ∃ ek, ek = endC kj (css.getD j []) := ⟨_, rfl⟩
      rw [← el] at HH d0
      rw [← eek] at HH HBD
      have hek : ¬ ek < 0 := by have := HBD.out; omega
      clear hcs hm ht el eek d1
      go_wp2_with fail
      refine HH.mono ?_
      rintro e w3 ⟨rfl, rfl⟩
      go_wp2_with fail
      go_round
      case rel => exact ⟨j + 1, ek, by omega, by have := HBD.out; omega, by have := HBD.out; omega, by go_num, rfl, HBD.out.1.symm⟩
      case measure => simp [intOf]; omega
    · obtain rfl : j = n := by omega
      clear HI
      go_wp2_with fail
      go_ret
      exact ⟨ret_int (by rw [HK.out, HNL.out]; rfl), rfl⟩

end Go.Proofs.Ytopdhjnpcpkmlaa
