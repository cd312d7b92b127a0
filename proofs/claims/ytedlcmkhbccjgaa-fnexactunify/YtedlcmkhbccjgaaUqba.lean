/- Texts of UnB1, Um3, Um4. Own work of the verifier. -/
import Derived.Test.YtedlcmkhbccjgaaUqav
import Derived.Deep.AppendLies
import Derived.Test.YtedlcmkhbccjgaaUqaz
import Derived.Laws.AppendOwnNone
namespace Go.Proofs.Ytedlcmkhbccjgaa
open Go Go.RowKit
set_option linter.unusedVariables false

theorem cell_two_new (w : World) (u v : Value) (t : TypeId) : ∀ j x, [u, v][j]? = some x → (w.alloc (.cells #[u, v] t)).cell? ((⟨w.heap.size, 0, none⟩ : Addr).add j) = some x := fun j x hx => by
  match j, hx with
  | 0, hx => simp at hx; rw [← hx]; simp [Addr.add, World.cell?_alloc_new]
  | 1, hx => simp at hx; rw [← hx]; simp [Addr.add, World.cell?_alloc_new]
  | j + 2, hx => simp at hx
theorem bs_append_at (bs : List Bnd) (b : Bnd) (i : Nat) (h : i ≤ bs.length) : (bs ++ [b]).getD i Bnd.zero = if i = bs.length then b else bs.getD i Bnd.zero := by
  by_cases e : i = bs.length
  · subst e; simp [List.getD]
  · rw [if_neg e, List.getD, List.getD, List.getElem?_append_left (by omega)]
theorem valsB_append (ds : List It) (bs : List Bnd) (d : It) (b : Bnd) (h : ds.length = bs.length) : valsB (ds ++ [d]) (bs ++ [b]) = valsB ds bs ++ [.int .i64 b.1, .slice d.1 b.2.length d.2.1] := by
  unfold valsB
  rw [List.length_append, List.length_singleton, pairRow_succ]
  congr 1
  · refine pairRow_congr fun i hi => ?_
    rw [ds_append_at _ _ _ (by omega), bs_append_at _ _ _ (by omega), if_neg (by omega), if_neg (by omega)]
    exact ⟨rfl, rfl⟩
  · rw [ds_append_at _ _ _ (by omega), bs_append_at _ _ _ (by omega), if_pos h.symm, if_pos rfl]
/-- append of a binding onto bindings of the call's own. -/
theorem app_bnd (W0 w : World) {ops : Array Oper} {rest : List Oper} {o : Oper} {a : Act} {Q : Exit → Act → World → Prop} (hgd : o.guard = none) (s x : Operand)
    (ho : o.op = .call { callee := .builtin .append, args := #[s, x], argTypes := #[32, 32] }) (B : Nat) (p : Option Addr) (n c : Nat) (bs : List Bnd) (z : Int)
    (hs : a.eval s = .slice p n c) (hown : OwnBB W0 B W0.heap.size p n c bs) (hb0 : Below W0.heap.size W0 w) (hB : B ≤ W0.heap.size) (q : Option Addr) (m cq : Nat) (cs : List Cel) (hit : OwnC w W0.heap.size q m cq cs)
    (hx : a.eval x = .slice (some ⟨w.heap.size, 0, none⟩) 1 1) (hlen : n + 1 ≤ 1000000)
    (h : ∀ g n' cap w', OwnBB w' B w'.heap.size (some ⟨g, 0, none⟩) n' cap (bs ++ [(z, cs)]) → Below B (w.alloc (.cells #[.int .i64 z, .slice q m cq] 63)) w' → Hid (n' = n + 1) → (w.alloc (.cells #[.int .i64 z, .slice q m cq] 63)).grownBy w' (Value.ownBlock (.slice p n c)) → (Value.ownBlock (.slice p n c) = some g ∨ w.heap.size < g) → wpList Try.prog ops Q rest (a.put o.dst (.slice (some ⟨g, 0, none⟩) n' cap)) w') : wpList Try.prog ops Q (o :: rest) a (w.alloc (.cells #[.int .i64 z, .slice q m cq] 63)) := by
  obtain ⟨i0, hi, hz0, hz1, hz2⟩ := info_parts infoBnd
  obtain ⟨ds, hss⟩ := hown
  have hal : Below w.heap.size w (w.alloc (.cells #[.int .i64 z, .slice q m cq] 63)) := (Below.refl _ _).alloc (Nat.le_refl _) _
  have hb1 := Below.on hb0 hal
  refine wpList_append_lies _ hgd s x 32 ho B 63 i0 (.agg #[.int .i64 0, .slice none 0 0]) 2 32 Try.underlying32 hi hz0 hz1 hz2 rfl (by decide) (.slice p n c) n (valsB ds bs) hs (row_below hss.row hb1) ⟨w.heap.size, 0, none⟩ 1 1 [.int .i64 z, .slice q m cq] hx rfl (cell_two_new _ _ _ _) (fun u hu => by simp at hu; rcases hu with hu | hu <;> rw [hu] <;> rfl) (by decide) (by unfold maxLen; omega) (by omega) (Nat.le_trans hB hb1.size) _ rfl ?_
  intro g cap w' hown' hgrow hat hlt
  have hown : ∀ k, Value.ownBlock (.slice p n c) = some k → B ≤ k ∧ k < W0.heap.size := fun k hk => hss.row.lt k hk
  have hm := hit.1
  have hg2 : g < W0.heap.size ∨ w.heap.size ≤ g := by
    rcases hat with h' | h'
    · exact .inl (hown g h').2
    · right; rw [h']; simp
  have hws := hb0.size
  have keepS : ∀ k, k < w.heap.size → (∀ j, Value.ownBlock (.slice p n c) = some j → k ≠ j) → w'.heap[k]? = w.heap[k]? := fun k hk hne =>
    (hgrow.block k (by simp; omega) (fun e => hne k e.symm rfl)).trans (Below.heap_alloc _ _ _ hk)
  have hitU := hit.up
  refine h g _ cap w' ⟨ds ++ [(q, cq, W0.heap.size, w.heap.size)], ?_⟩ ((Below.refl _ _).grown hgrow (Nat.le_trans hB hb1.size) (fun k hk => (hown k hk).1)) rfl hgrow (hat.imp id fun e => by rw [e]; simp)
  have hdl := hss.dlen
  have hln := hss.len
  refine ⟨by simp; omega, by simp; omega, by rw [valsB_append _ _ _ _ hdl, ← hm]; exact hown', fun i hi => ?_, fun i hi => ?_, fun i hi k hk => ?_, fun i j hij hj => ?_, fun k hk => ?_⟩
  · have hi' : i ≤ bs.length := by simp at hi; omega
    rw [ds_append_at _ _ _ (by omega), bs_append_at _ _ _ hi']
    by_cases e : i = bs.length
    · rw [if_pos (by omega), if_pos e, ← hm]
      exact hitU.other (by have := hgrow.size; simp at this; omega) (fun k h1 h2 h3 => keepS k h1 (fun j hj => by have := (hown j hj).2; omega))
    · rw [if_neg (by omega), if_neg e]
      refine ((hss.item i (by omega)).below hb0).other (by have := hgrow.size; simp at this; omega) (fun k h1 h2 h3 => keepS k h1 (fun j hj => ?_))
      have := hss.away i (by omega) j hj
      omega
  · have hi' : i ≤ bs.length := by simp at hi; omega
    rw [ds_append_at _ _ _ (by omega)]
    have hwl : w.heap.size ≤ w'.heap.size := by have := hgrow.size; simp at this; omega
    by_cases e : i = bs.length
    · rw [if_pos (by omega)]; exact ⟨hB, hwl⟩
    · rw [if_neg (by omega)]
      have := hss.low i (by omega)
      exact ⟨this.1, by omega⟩
  · have hi' : i ≤ bs.length := by simp at hi; omega
    have hk' : k = g := (Option.some.inj hk).symm
    subst hk'
    rw [ds_append_at _ _ _ (by omega)]
    by_cases e : i = bs.length
    · rw [if_pos (by omega)]; exact hg2
    · rw [if_neg (by omega)]
      rcases hat with h' | h'
      · exact hss.away i (by omega) _ h'
      · right
        have := (hss.low i (by omega)).2
        have hsz : (w.alloc (.cells #[.int .i64 z, .slice q m cq] 63)).heap.size = w.heap.size + 1 := by simp
        rw [h', hsz]; omega
  · have hj' : j ≤ bs.length := by simp at hj; omega
    rw [ds_append_at _ _ _ (by omega), ds_append_at _ _ _ (by omega), if_neg (by omega)]
    by_cases e : j = bs.length
    · rw [if_pos (by omega)]
      exact (hss.low i (by omega)).2
    · rw [if_neg (by omega)]
      exact hss.apart i j hij (by omega)
  · have hk' : k = g := (Option.some.inj hk).symm
    omega

end Go.Proofs.Ytedlcmkhbccjgaa

namespace Go.Proofs.Ytedlcmkhbccjgaa
open Go Go.RowKit
set_option linter.unusedVariables false

/-- How bindings lie: pointer and room of each term. -/
def flB : List (Option Addr × Nat) → List Bnd → List Value
  | d :: ds, x :: xs => .int .i64 x.1 :: .slice d.1 x.2.length d.2 :: flB ds xs
  | _, _ => []
def Items (W0 : World) : List (Option Addr × Nat) → List Bnd → Prop
  | d :: ds, x :: xs => (x.2.length ≤ d.2 ∧ d.2 ≤ 1000000000 ∧ CIn W0 d.1 x.2) ∧ Items W0 ds xs
  | [], [] => True
  | _, _ => False
theorem Items.len {W0 : World} : ∀ {ds : List (Option Addr × Nat)} {bs : List Bnd}, Items W0 ds bs → ds.length = bs.length
  | [], [], _ => rfl
  | _ :: ds, _ :: bs, h => by simp [Items.len h.2]
  | [], _ :: _, h => h.elim
  | _ :: _, [], h => h.elim
theorem Items.app {W0 : World} : ∀ {ds es : List (Option Addr × Nat)} {bs cs : List Bnd}, Items W0 ds bs → Items W0 es cs → Items W0 (ds ++ es) (bs ++ cs)
  | [], es, [], cs, _, h => h
  | _ :: ds, es, _ :: bs, cs, h, h' => ⟨h.1, Items.app h.2 h'⟩
  | [], _, _ :: _, _, h, _ => h.elim
  | _ :: _, _, [], _, h, _ => h.elim
theorem flB_app {W0 : World} : ∀ {ds es : List (Option Addr × Nat)} {bs cs : List Bnd}, Items W0 ds bs → flB (ds ++ es) (bs ++ cs) = flB ds bs ++ flB es cs
  | [], es, [], cs, _ => rfl
  | _ :: ds, es, _ :: bs, cs, h => by simp [flB, flB_app h.2]
  | [], _, _ :: _, _, h => h.elim
  | _ :: _, _, [], _, h => h.elim
theorem flB_len {W0 : World} : ∀ {ds : List (Option Addr × Nat)} {bs : List Bnd}, Items W0 ds bs → (flB ds bs).length = bs.length * 2
  | [], [], _ => rfl
  | _ :: ds, _ :: bs, h => by simp [flB, flB_len h.2]; omega
  | [], _ :: _, h => h.elim
  | _ :: _, [], h => h.elim
theorem flB_one : ∀ (ds : List (Option Addr × Nat)) (bs : List Bnd), ∀ u ∈ flB ds bs, u.oneCell' = true
  | [], [], u, h => by cases h
  | d :: ds, b :: bs, u, h => by
    simp only [flB, List.mem_cons] at h
    rcases h with rfl | rfl | h
    · rfl
    · rfl
    · exact flB_one ds bs u h
  | [], _ :: _, u, h => by cases h
  | _ :: _, [], u, h => by cases h
theorem flB_at {W0 : World} : ∀ {ds : List (Option Addr × Nat)} {bs : List Bnd}, Items W0 ds bs → ∀ i, i < bs.length → ∃ q c, (flB ds bs)[i * 2]? = some (.int .i64 (bs.getD i Bnd.zero).1) ∧ (flB ds bs)[i * 2 + 1]? = some (.slice q (bs.getD i Bnd.zero).2.length c) ∧ (bs.getD i Bnd.zero).2.length ≤ c ∧ c ≤ 1000000000 ∧ CIn W0 q (bs.getD i Bnd.zero).2
  | [], [], _, i, hi => by simp at hi
  | d :: ds, b :: bs, h, 0, _ => ⟨d.1, d.2, rfl, rfl, h.1.1, h.1.2.1, h.1.2.2⟩
  | d :: ds, b :: bs, h, i + 1, hi => by
    obtain ⟨q, c, h1, h2, h3⟩ := flB_at h.2 i (by simpa using hi)
    refine ⟨q, c, ?_, ?_, by simpa [List.getD] using h3⟩
    · rw [show (i + 1) * 2 = i * 2 + 1 + 1 by omega]; simpa [flB, List.getD] using h1
    · rw [show (i + 1) * 2 + 1 = (i * 2 + 1) + 1 + 1 by omega]; simpa [flB, List.getD] using h2
  | [], _ :: _, h, _, _ => h.elim
  | _ :: _, [], h, _, _ => h.elim
/-- Bindings that lie, as a list. -/
theorem lie_ex {W0 W : World} {b : Nat} : ∀ (bs : List Bnd) (o : Nat), (∀ i, i < bs.length → SubAt W0 W b (o + i * 2) (bs.getD i Bnd.zero)) → ∃ ds, Items W0 ds bs ∧ ∀ j u, (flB ds bs)[j]? = some u → W.cell? ⟨b, o + j, none⟩ = some u
  | [], o, _ => ⟨[], trivial, fun j u h => by simp [flB] at h⟩
  | x :: bs, o, h => by
    obtain ⟨q, c, h1, h2, h3⟩ := h 0 (by simp)
    obtain ⟨ds, hi, hc⟩ := lie_ex bs (o + 2) (fun i hi => by
      have := h (i + 1) (by simpa using hi)
      rw [show o + (i + 1) * 2 = o + 2 + i * 2 by omega] at this
      simpa [List.getD] using this)
    refine ⟨(q, c) :: ds, ⟨by simpa [List.getD] using h3, hi⟩, fun j u hj => ?_⟩
    match j, hj with
    | 0, hj => simp [flB] at hj; rw [← hj]; simpa [List.getD] using h1
    | 1, hj => simp [flB] at hj; rw [← hj]; simpa [List.getD] using h2
    | j + 2, hj =>
      have := hc j u (by simpa [flB] using hj)
      rw [show o + 2 + j = o + (j + 2) by omega] at this
      exact this
/-- A row of bindings of the call's own, whose terms lie in W0. -/
def RowS (W0 w : World) (B : Nat) (p : Option Addr) (n c : Nat) (bs : List Bnd) : Prop := n = bs.length ∧ ∃ ds, w.ownsRow B 63 2 (.slice p n c) n (flB ds bs) ∧ Items W0 ds bs
theorem RowS.nil (W0 w : World) (B : Nat) : RowS W0 w B none 0 0 [] := ⟨rfl, [], World.ownsRow_nil _ _ _ _, trivial⟩
theorem RowS.below {W0 w w' : World} {B : Nat} {p : Option Addr} {n c : Nat} {bs : List Bnd} (h : RowS W0 w B p n c bs) (hb : Below w.heap.size w w') : RowS W0 w' B p n c bs := by
  obtain ⟨h1, ds, h2, h3⟩ := h
  exact ⟨h1, ds, row_below h2 hb, h3⟩
theorem RowS.sub {W0 w : World} {B : Nat} {p : Option Addr} {n c : Nat} {bs : List Bnd} (h : RowS W0 w B p n c bs) : SubIn W0 w p bs ∧ (n = 0 → p = none ∧ c = 0 ∨ ∃ g, p = some ⟨g, 0, none⟩) ∧ n ≤ c ∧ ∀ a, p = some a → B ≤ a.block := by
  obtain ⟨h1, ds, h2, h3⟩ := h
  refine ⟨fun hn => ?_, ?_, ?_, ?_⟩
  · obtain ⟨g, cap, hv, hb, hg⟩ := h2.form (by omega)
    simp only [Value.slice.injEq, true_and] at hv
    obtain ⟨rfl, rfl⟩ := hv
    refine ⟨g, 0, rfl, fun i hi => ?_⟩
    obtain ⟨q, d, e1, e2, e3⟩ := flB_at h3 i hi
    rw [Nat.zero_add]
    exact ⟨q, d, by rw [h2.cellAt _ (by omega)]; exact e1, by rw [h2.cellAt _ (by omega)]; exact e2, e3⟩
  · intro hn
    rcases h2.2 with ⟨h', _⟩ | ⟨g, cap, cur, hv, _⟩
    · simp only [Value.slice.injEq] at h'; exact .inl ⟨h'.1, h'.2.2⟩
    · simp only [Value.slice.injEq] at hv; exact .inr ⟨g, hv.1⟩
  · rcases h2.2 with ⟨h', _⟩ | ⟨g, cap, cur, hv, _, _, hnc, _⟩
    · simp only [Value.slice.injEq] at h'; omega
    · simp only [Value.slice.injEq] at hv; omega
  · intro a ha
    rcases h2.2 with ⟨h', _⟩ | ⟨g, cap, cur, hv, hb, _⟩
    · simp only [Value.slice.injEq] at h'; rw [h'.1] at ha; cases ha
    · simp only [Value.slice.injEq] at hv; rw [hv.1] at ha; cases ha; exact hb
/-- What is put behind: nothing, or bindings that lie. -/
def Lies (W0 w : World) (q : Option Addr) (m c : Nat) (bs : List Bnd) : Prop := m = bs.length ∧ ((q = none ∧ m = 0 ∧ c = 0) ∨ ∃ b o ds, q = some ⟨b, o, none⟩ ∧ Items W0 ds bs ∧ ∀ j u, (flB ds bs)[j]? = some u → w.cell? ⟨b, o + j, none⟩ = some u)
theorem app_sub (W0 w : World) {ops : Array Oper} {rest : List Oper} {o : Oper} {a : Act} {Q : Exit → Act → World → Prop} (hgd : o.guard = none) (s x : Operand)
    (ho : o.op = .call { callee := .builtin .append, args := #[s, x], argTypes := #[32, 32] }) (B : Nat) (p : Option Addr) (n c : Nat) (bs : List Bnd)
    (hs : a.eval s = .slice p n c) (hown : RowS W0 w B p n c bs) (hB : B ≤ w.heap.size) (q : Option Addr) (m cq : Nat) (ds : List Bnd) (hx : a.eval x = .slice q m cq) (hl : Lies W0 w q m cq ds) (hlen : n + m ≤ 1000000)
    (h : ∀ p' n' cap w', RowS W0 w' B p' n' cap (bs ++ ds) → w.grownBy w' (Value.ownBlock (.slice p n c)) → Hid (n' = n + m) → wpList Try.prog ops Q rest (a.put o.dst (.slice p' n' cap)) w') : wpList Try.prog ops Q (o :: rest) a w := by
  obtain ⟨i0, hi, hz0, hz1, hz2⟩ := info_parts infoBnd
  obtain ⟨hn, es, hr, hit⟩ := id hown
  obtain ⟨hm, hl⟩ := hl
  rcases hl with ⟨rfl, rfl, rfl⟩ | ⟨b, o', fs, rfl, hit2, hc⟩
  · obtain rfl : ds = [] := List.length_eq_zero_iff.1 hm.symm
    refine wpList_append_own_none hgd s x 32 ho B 63 i0 2 Try.underlying32 hi (.slice p n c) n (flB es bs) hs hr hx ?_
    exact h p n c w (by rw [List.append_nil]; exact hown) (.refl _ _) (by show n = n + 0; omega)
  · refine wpList_append_own w hgd s x 32 ho B 63 i0 (.agg #[.int .i64 0, .slice none 0 0]) 2 32 Try.underlying32 hi hz0 hz1 hz2 rfl (by decide) (.slice p n c) n (flB es bs) hs hr ⟨b, o', none⟩ m cq (flB fs ds) hx (by rw [flB_len hit2, hm]) (fun j u hj => by
      have h9 := hc j u hj
      by_cases e : j = 0
      · subst e; simpa [Addr.add] using h9
      · simpa [Addr.add, e] using h9) (flB_one _ _) (by unfold maxLen; omega) (by omega) hB ?_
    intro v' w' hown' hgrow _
    obtain ⟨p', c', rfl⟩ : ∃ p' c', v' = .slice p' (n + m) c' := by
      rcases hown'.2 with ⟨h', h2⟩ | ⟨g', cap', cur, hv, _⟩
      · exact ⟨none, 0, by rw [h', h2]⟩
      · exact ⟨_, _, hv⟩
    exact h p' (n + m) c' w' ⟨by simp; omega, es ++ fs, by rw [flB_app hit]; exact hown', hit.app hit2⟩ hgrow rfl
/-- A part of bindings that lie. -/
theorem SubIn.part {W0 w : World} {b o : Nat} {bs : List Bnd} (h : ∀ i, i < bs.length → SubAt W0 w b (o + i * 2) (bs.getD i Bnd.zero)) (j : Nat) (hj : j ≤ bs.length) (c : Nat) : Lies W0 w (some ⟨b, o + j * 2, none⟩) (bs.length - j) c (bs.drop j) := by
  obtain ⟨ds, h1, h2⟩ := lie_ex (bs.drop j) (o + j * 2) (fun i hi => by
    have hl : i < bs.length - j := by simpa using hi
    have := h (j + i) (by omega)
    rw [show o + (j + i) * 2 = o + j * 2 + i * 2 by omega] at this
    simpa [List.getD, List.getElem?_drop] using this)
  exact ⟨by simp, .inr ⟨b, o + j * 2, ds, rfl, h1, h2⟩⟩
theorem SubIn.fore {W0 w : World} {b o : Nat} {bs : List Bnd} (h : ∀ i, i < bs.length → SubAt W0 w b (o + i * 2) (bs.getD i Bnd.zero)) (j : Nat) (hj : j ≤ bs.length) (c : Nat) : Lies W0 w (some ⟨b, o, none⟩) j c (bs.take j) := by
  obtain ⟨ds, h1, h2⟩ := lie_ex (bs.take j) o (fun i hi => by
    have hl : i < j := by simp at hi; omega
    have := h i (by omega)
    rw [List.getD, List.getElem?_take, if_pos hl]
    exact this)
  exact ⟨by simp; omega, .inr ⟨b, o, ds, rfl, h1, h2⟩⟩
/-- A binding put in where it belongs. -/
def insB (bs : List Bnd) (a : Nat) (x : Bnd) : List Bnd := bs.take a ++ [x] ++ bs.drop a
theorem insB_at (bs : List Bnd) (a : Nat) (x : Bnd) (ha : a ≤ bs.length) (i : Nat) : (insB bs a x).getD i Bnd.zero = if i < a then bs.getD i Bnd.zero else if i = a then x else bs.getD (i - 1) Bnd.zero := by
  unfold insB
  have hl : (bs.take a).length = a := by simp; omega
  by_cases h1 : i < a
  · rw [if_pos h1, List.append_assoc, List.getD, List.getElem?_append_left (by omega), List.getElem?_take, if_pos h1]; rfl
  · rw [if_neg h1]
    by_cases h2 : i = a
    · rw [if_pos h2, List.append_assoc, List.getD, List.getElem?_append_right (by omega), hl, h2]; simp
    · rw [if_neg h2, List.getD, List.getElem?_append_right (by simp; omega)]
      simp only [List.length_append, hl, List.length_singleton, List.getElem?_drop, List.getD]
      rw [show a + (i - (a + 1)) = i - 1 by omega]
theorem look_ins {bs : List Bnd} {a : Nat} {v : Int} {t : List Cel} (hnew : look bs v = none) (y : Int) : look (insB bs a (v, t)) y = if y = v then some t else look bs y := by
  have happ : ∀ (l l' : List Bnd) (z : Int), look (l ++ l') z = (look l z).or (look l' z) := fun l l' z => by
    induction l with
    | nil => simp [look]
    | cons p r ih =>
      obtain ⟨p1, p2⟩ := p
      by_cases e : p1 = z
      · simp [look, e]
      · simp [look, e]; rw [ih]
  have hsp : look bs y = (look (bs.take a) y).or (look (bs.drop a) y) := by rw [← happ, List.take_append_drop]
  have hsv : (look (bs.take a) v).or (look (bs.drop a) v) = none := by rw [← happ, List.take_append_drop]; exact hnew
  unfold insB
  rw [happ, happ]
  by_cases e : y = v
  · subst e
    rw [if_pos rfl]
    have h1 : look (bs.take a) y = none := by
      cases h : look (bs.take a) y with
      | none => rfl
      | some z => rw [h] at hsv; simp at hsv
    rw [h1]
    simp [look]
  · rw [if_neg e, hsp]
    have : look [(v, t)] y = none := by simp [look]; exact fun h => e h.symm
    rw [this]
    simp
theorem BsR.ins {bs : List Bnd} {M : BM} {v : Int} {T : Tr} {a : Nat} (h : BsR bs M) (hv : M v = none) (ha : a ≤ bs.length) (hlo : ∀ i, i < a → (bs.getD i Bnd.zero).1 < v) (hhi : a < bs.length → v < (bs.getD a Bnd.zero).1) : BsR (insB bs a (v, tcs T)) (M.set v T) := by
  have hlen : (insB bs a (v, tcs T)).length = bs.length + 1 := by unfold insB; simp; omega
  have hln : look bs v = none := by
    rcases h.rel v with ⟨u, h1, _⟩ | ⟨_, h2⟩
    · rw [hv] at h1; cases h1
    · exact h2
  refine ⟨fun i j hij hj => ?_, fun y => ?_⟩
  · rw [hlen] at hj
    have hhi' : ∀ k, a ≤ k → k < bs.length → v < (bs.getD k Bnd.zero).1 := fun k h1 h2 => by
      have h0 := hhi (by omega)
      by_cases e : k = a
      · rw [e]; exact h0
      · have := h.up a k (by omega) h2; omega
    rw [insB_at _ _ _ ha, insB_at _ _ _ ha]
    by_cases h1 : j < a
    · rw [if_pos (show i < a by omega), if_pos h1]; exact h.up i j hij (by omega)
    · rw [if_neg h1]
      by_cases h2 : j = a
      · rw [if_pos h2, if_pos (show i < a by omega)]; exact hlo i (by omega)
      · rw [if_neg h2]
        by_cases h3 : i < a
        · rw [if_pos h3]; exact h.up i (j - 1) (by omega) (by omega)
        · rw [if_neg h3]
          by_cases h4 : i = a
          · rw [if_pos h4]; exact hhi' (j - 1) (by omega) (by omega)
          · rw [if_neg h4]; exact h.up (i - 1) (j - 1) (by omega) (by omega)
  · rw [look_ins hln]
    unfold BM.set
    by_cases e : y = v
    · rw [if_pos e, if_pos e]; exact .inl ⟨T, rfl, rfl⟩
    · rw [if_neg e, if_neg e]; exact h.rel y

end Go.Proofs.Ytedlcmkhbccjgaa

namespace Go.Proofs.Ytedlcmkhbccjgaa
open Go Go.RowKit
set_option linter.unusedVariables false

def BindO (W0 : World) (sb : Nat) (M : BM) (k : Nat) (v : Int) (T : Tr) (w : World) (e : Ending) (w' : World) : Prop := e = .returned (.tuple #[]) ∧ (∃ p n c bs, MS W0 w' sb (M.set v T) k p n c bs) ∧ w.grownBy w' (some sb)
/-- Behind the three appends: the state is set anew. -/
theorem bind_done {W0 w w1 : World} {sb : Nat} {M : BM} {k : Nat} {p : Option Addr} {n c : Nat} {bs : List Bnd} {v : Int} {T : Tr} {a : Nat} {p' : Option Addr} {n' c' : Nat} (hs : MS W0 w sb M k p n c bs) (hv : M v = none) (ha : a ≤ bs.length) (hlo : ∀ i, i < a → (bs.getD i Bnd.zero).1 < v) (hhi : a < bs.length → v < (bs.getD a Bnd.zero).1) (hb : Below w.heap.size w w1) (hr : RowS W0 w1 w.heap.size p' n' c' (insB bs a (v, tcs T))) (hk : n + 1 ≤ k) :
    BindO W0 sb M k v T w (.returned (.tuple #[])) (w1.setCell ⟨sb, 0, none⟩ (.slice p' n' c')) := by
  have hsb := World.block_lt_of_cell? _ _ hs.sub
  have hsb' : sb < w.heap.size := hsb
  have hlen : n' = bs.length + 1 := by
    have := hr.1
    rw [this]; unfold insB; simp; omega
  obtain ⟨r1, _, r3, r4⟩ := hr.sub
  have hc0 := (hb.cell (p := ⟨sb, 0, none⟩) hsb).trans hs.sub
  have hW := hs.low.size
  refine ⟨rfl, ⟨p', n', c', _, (Below.on hs.low hb).setCell (p := ⟨sb, 0, none⟩) hs.hsb _, hs.hsb, World.cell?_setCell_same' _ _ _ (by rw [hc0]; rfl), ?_, hr.1, r1.move (fun b o v e j hv => ?_), hs.bsr.ins hv ha hlo hhi, by have := hs.len; omega, hs.kle, fun e => by omega, r3, fun a e => ?_, fun o => ?_⟩, ?_⟩
  · rw [World.cell?_setCell_other _ _ _ _ (fun e => by have := congrArg Addr.off e; simp at this)]
    exact (hb.cell (p := ⟨sb, 1, none⟩) hsb).trans hs.prs
  · have h9 := r4 _ e
    rw [World.cell?_setCell_other _ _ _ _ (fun e => by have := congrArg Addr.block e; simp at this; simp at h9; omega)]
    exact hv
  · have h9 := r4 _ e
    exact ⟨by omega, by omega⟩
  · rw [World.frozen?_setCell]
    exact (hb.frozen (p := ⟨sb, o, none⟩) hsb).trans (hs.free o)
  · exact ⟨by rw [World.setCell]; split <;> exact hb.os, hb.tape, hb.output, by simpa using hb.size, fun k hk h1 => (Below.heap_setCell _ _ _ _ (fun e => h1 (by rw [e]))).trans (hb.block k hk)⟩
theorem RowS.own {W0 w : World} {B : Nat} {p : Option Addr} {n c : Nat} {bs : List Bnd} (h : RowS W0 w B p n c bs) (k : Nat) (e : Value.ownBlock (.slice p n c) = some k) : B ≤ k := by
  obtain ⟨_, ds, h2, _⟩ := h
  exact (h2.lt k e).1
theorem Lies.below {W0 w w' : World} {q : Option Addr} {m c : Nat} {bs : List Bnd} (h : Lies W0 w q m c bs) (hb : Below w.heap.size w w') : Lies W0 w' q m c bs := by
  refine ⟨h.1, h.2.imp id fun ⟨b, o, ds, e, h1, h2⟩ => ⟨b, o, ds, e, h1, fun j u hj => ?_⟩⟩
  have h9 := h2 j u hj
  exact (hb.cell (World.block_lt_of_cell? _ _ h9)).trans h9
theorem lies_one {W0 : World} {q : Option Addr} {m cq : Nat} {T : Tr} (hT : TIn W0 q m cq T) (w1 : World) (v : Int) : Lies W0 (w1.alloc (.cells #[.int .i64 v, .slice q m cq] 63)) (some ⟨w1.heap.size, 0, none⟩) 1 1 [(v, tcs T)] := by
  obtain ⟨hm, h1, h2, h3⟩ := hT
  subst hm
  refine ⟨rfl, .inr ⟨w1.heap.size, 0, [(q, cq)], rfl, ⟨⟨h1, h2, h3⟩, trivial⟩, fun j u hj => ?_⟩⟩
  have := cell_two_new w1 (.int .i64 v) (.slice q (tcs T).length cq) 63 j u (by simpa [flB] using hj)
  by_cases e : j = 0
  · subst e; simpa [Addr.add] using this
  · simpa [Addr.add, e] using this
set_option maxRecDepth 100000 in
set_option maxHeartbeats 1000000 in
theorem l5bind_any (W0 : World) (sb : Nat) (M : BM) (k : Nat) (p : Option Addr) (n c : Nat) (bs : List Bnd) (v : Int) (T : Tr) (q : Option Addr) (m cq : Nat) (w : World) (hs : MS W0 w sb M k p n c bs) (hv : M v = none) (hT : TIn W0 q m cq T) (hk : n + 1 ≤ k) :
    Calls Try.prog 75 #[.pointer (some ⟨sb, 0, none⟩), .int .i64 v, .slice q m cq] w (BindO W0 sb M k v T w) := by
  have c0 := hs.sub
  have hn2 : n ≤ 20000 := by have := hs.kle; omega
  have hroom := hs.room
  have HT : Hid (TIn W0 q m cq T) := hT
  have HFIN : Hid (∀ a w1 p' n' c', a ≤ bs.length → (∀ i, i < a → (bs.getD i Bnd.zero).1 < v) → (a < bs.length → v < (bs.getD a Bnd.zero).1) → Below w.heap.size w w1 → RowS W0 w1 w.heap.size p' n' c' (insB bs a (v, tcs T)) → BindO W0 sb M k v T w (.returned (.tuple #[])) (w1.setCell ⟨sb, 0, none⟩ (.slice p' n' c'))) := fun a w1 p' n' c' ha hlo hhi hb hr => bind_done hs hv ha hlo hhi hb hr hk
  have HS : Hid (MS W0 w sb M k p n c bs) := hs
  have HNE : Hid (∀ i, i < bs.length → (bs.getD i Bnd.zero).1 ≠ v) := fun i hi e => by
    rcases hs.bsr.rel v with ⟨u, h1, _⟩ | ⟨_, h2⟩
    · rw [hv] at h1; cases h1
    · rw [look_none] at h2
      exact h2 (by rw [← e]; exact List.mem_map.2 ⟨bs.getD i Bnd.zero, by simp [List.getD, hi], rfl⟩)
  clear hs hv hT hk
  go_enter Try.func75, Try.ntmps75
  go_wp2_with fail
  go_loopw [6] (fun i wr => ∃ (a : Nat), a ≤ n ∧ i = .int .i64 a ∧ Hid (w = wr) ∧ Hid (∀ i, i < a → (bs.getD i Bnd.zero).1 < v)) (fun i _ => n - (intOf i).toNat)
  case atStart => exact ⟨0, Nat.zero_le _, rfl, rfl, fun i hi => by omega⟩
  case round =>
    obtain ⟨a, ha, rfl, HWE, HLO⟩ := hrel
    obtain rfl := HWE.out
    by_cases hlt : a < n
    · have hlc : a < bs.length := by rw [← HS.out.len]; exact hlt
      obtain ⟨b, o, rfl, hcs⟩ := HS.out.lies (by omega)
      obtain ⟨q0, d0, e0, _⟩ := hcs a hlc
      have hne := HNE.out a hlc
      obtain ⟨y, ey⟩ : ∃ y, y = (bs.getD a Bnd.zero).1 := ⟨_, rfl⟩
      rw [← ey] at e0 hne
      by_cases hy : y < v
      · have HL2 : Hid (∀ i, i < a + 1 → (bs.getD i Bnd.zero).1 < v) := fun i hi => by
          by_cases e : i = a
          · rw [e, ← ey]; exact hy
          · exact HLO.out i (by omega)
        clear hcs ey hne hroom
        go_wp2_with fail
        go_roundw
        case rel => exact ⟨a + 1, by omega, by go_num, by first | exact (trivial : True) | exact rfl, HL2⟩
        case measure => simp [intOf]; omega
      · have hyn : decide (y < v) = false := by simpa using hy
        have HHI : Hid (a < bs.length → v < (bs.getD a Bnd.zero).1) := fun _ => by rw [← ey]; omega
        have hcap1 : ¬ c = a := by omega
        have hcap2 : ¬ c - a = 0 := by omega
        have hca : (0 : Int) < (c : Int) - (a : Int) := by omega
        clear ey hne hy
        have HL1 : Hid (Lies W0 w (some ⟨b, o, none⟩) a c (bs.take a)) := SubIn.fore hcs a (by omega) c
        have HL3 : Hid (Lies W0 w (some ⟨b, o + a * 2, none⟩) (n - a) (c - a) (bs.drop a)) := by have := SubIn.part hcs a (by omega) (c - a); rw [← HS.out.len] at this; exact this
        have hsb := World.block_lt_of_cell? _ _ c0
        have HSB : Hid (sb < w.heap.size) := hsb
        have HA : Hid (a ≤ bs.length) := by show a ≤ _; rw [← HS.out.len]; exact ha
        clear hcs hsb
        have tok1 : True := trivial
        go_wp2_with (at_builtin; first
          | (have _t := tok1
             refine app_sub W0 w rfl _ _ rfl w.heap.size none 0 0 [] rfl (RowS.nil _ _ _) (Nat.le_refl _) (some ⟨b, o, none⟩) a c (bs.take a) rfl HL1.out (by omega) ?_
             intro p1 n1 c1 w1 hr1 hg1 hn1
             clear tok1 _t
             have tok2 : True := trivial
             have HR1 : Hid (RowS W0 w1 w.heap.size p1 n1 c1 (bs.take a)) := by rw [List.nil_append] at hr1; exact hr1
             have HB1 : Hid (Below w.heap.size w w1) := (Below.refl _ _).grown hg1 (Nat.le_refl _) (fun k e => by simp [Value.ownBlock] at e)
             have HN1 : Hid (n1 = a) := (hn1.out.trans (Nat.zero_add _))
             have hn1b : n1 ≤ 20000 := by have := HN1.out; omega
             have hw1 : w.heap.size ≤ w1.heap.size := HB1.out.size
             have HLT : Hid (Lies W0 (w1.alloc (.cells #[.int .i64 v, .slice q m cq] 63)) (some ⟨w1.heap.size, 0, none⟩) 1 1 [(v, tcs T)]) := lies_one HT.out w1 v
             clear hr1 hg1 hn1)
          | (have _t := tok2
             refine app_sub W0 _ rfl _ _ rfl w.heap.size p1 n1 c1 (bs.take a) rfl (HR1.out.below ((Below.refl _ _).alloc (Nat.le_refl _) _)) (by simp; omega) (some ⟨w1.heap.size, 0, none⟩) 1 1 [(v, tcs T)] rfl HLT.out (by omega) ?_
             intro p2 n2 c2 w2 hr2 hg2 hn2
             clear tok2 _t
             have tok3 : True := trivial
             have hal : Below w.heap.size w (w1.alloc (.cells #[.int .i64 v, .slice q m cq] 63)) := HB1.out.alloc HB1.out.size _
             have HB2 : Hid (Below w.heap.size w w2) := hal.grown hg2 hal.size (fun k e => (HR1.out.own k e))
             have HR2 : Hid (RowS W0 w2 w.heap.size p2 n2 c2 (bs.take a ++ [(v, tcs T)])) := hr2
             have hn2b : n2 ≤ 20001 := by have := hn2.out; omega
             have hn2c : n2 = a + 1 := by have := hn2.out; have := HN1.out; omega
             have hw2 : w.heap.size ≤ w2.heap.size := HB2.out.size
             have hc2 : w2.cell? ⟨sb, 0, none⟩ = some (.slice (some ⟨b, o, none⟩) n c) := (HB2.out.cell HSB.out).trans c0
             have HL32 : Hid (Lies W0 w2 (some ⟨b, o + a * 2, none⟩) (n - a) (c - a) (bs.drop a)) := HL3.out.below HB2.out
             clear hr2 hg2 hn2 hal HLT hn2c)
          | (have _t := tok3
             refine app_sub W0 w2 rfl _ _ rfl w.heap.size p2 n2 c2 (bs.take a ++ [(v, tcs T)]) rfl HR2.out hw2 (some ⟨b, o + a * 2, none⟩) (n - a) (c - a) (bs.drop a) rfl HL32.out (by omega) ?_
             intro p3 n3 c3 w3 hr3 hg3 hn3
             clear tok3 _t
             have HB3 : Hid (Below w.heap.size w w3) := HB2.out.grown hg3 HB2.out.size (fun k e => (HR2.out.own k e))
             have HR3 : Hid (RowS W0 w3 w.heap.size p3 n3 c3 (insB bs a (v, tcs T))) := hr3
             have hc3 : w3.cell? ⟨sb, 0, none⟩ = some (.slice (some ⟨b, o, none⟩) n c) := (HB3.out.cell HSB.out).trans c0
             have hf3 : w3.frozen? ⟨sb, 0, none⟩ = false := (HB3.out.frozen (p := ⟨sb, 0, none⟩) HSB.out).trans (HS.out.free 0)
             clear hr3 hg3 hn3 hc2))
        refine bodyPost_end (v := .tuple #[]) (by simp [results, Try.results75, go_sem]) rfl ?_
        exact HFIN.out a w3 p3 n3 c3 HA.out HLO.out HHI.out HB3.out HR3.out
    · obtain rfl : a = n := by omega
      have HHI : Hid (a < bs.length → v < (bs.getD a Bnd.zero).1) := fun h => by have := HS.out.len; omega
      by_cases h0 : a = 0
      · obtain ⟨rfl, rfl⟩ := HS.out.zero h0
        have hbs : bs = [] := List.length_eq_zero_iff.1 (by have := HS.out.len; omega)
        subst h0
        have HL1 : Hid (Lies W0 w none 0 0 (bs.take 0)) := ⟨by rw [hbs]; rfl, .inl ⟨rfl, rfl, rfl⟩⟩
        have HL3 : Hid (Lies W0 w none 0 0 (bs.drop 0)) := ⟨by rw [hbs]; rfl, .inl ⟨rfl, rfl, rfl⟩⟩
        have hsb := World.block_lt_of_cell? _ _ c0
        have HSB : Hid (sb < w.heap.size) := hsb
        have HA : Hid (0 ≤ bs.length) := by show 0 ≤ _; rw [← HS.out.len]; exact ha
        clear hbs hsb
        have tok1 : True := trivial
        go_wp2_with (at_builtin; first
          | (have _t := tok1
             refine app_sub W0 w rfl _ _ rfl w.heap.size none 0 0 [] rfl (RowS.nil _ _ _) (Nat.le_refl _) none 0 0 (bs.take 0) rfl HL1.out (by omega) ?_
             intro p1 n1 c1 w1 hr1 hg1 hn1
             clear tok1 _t
             have tok2 : True := trivial
             have HR1 : Hid (RowS W0 w1 w.heap.size p1 n1 c1 (bs.take 0)) := by rw [List.nil_append] at hr1; exact hr1
             have HB1 : Hid (Below w.heap.size w w1) := (Below.refl _ _).grown hg1 (Nat.le_refl _) (fun k e => by simp [Value.ownBlock] at e)
             have HN1 : Hid (n1 = 0) := (hn1.out.trans (Nat.zero_add _))
             have hn1b : n1 ≤ 20000 := by have := HN1.out; omega
             have hw1 : w.heap.size ≤ w1.heap.size := HB1.out.size
             have HLT : Hid (Lies W0 (w1.alloc (.cells #[.int .i64 v, .slice q m cq] 63)) (some ⟨w1.heap.size, 0, none⟩) 1 1 [(v, tcs T)]) := lies_one HT.out w1 v
             clear hr1 hg1 hn1)
          | (have _t := tok2
             refine app_sub W0 _ rfl _ _ rfl w.heap.size p1 n1 c1 (bs.take 0) rfl (HR1.out.below ((Below.refl _ _).alloc (Nat.le_refl _) _)) (by simp; omega) (some ⟨w1.heap.size, 0, none⟩) 1 1 [(v, tcs T)] rfl HLT.out (by omega) ?_
             intro p2 n2 c2 w2 hr2 hg2 hn2
             clear tok2 _t
             have tok3 : True := trivial
             have hal : Below w.heap.size w (w1.alloc (.cells #[.int .i64 v, .slice q m cq] 63)) := HB1.out.alloc HB1.out.size _
             have HB2 : Hid (Below w.heap.size w w2) := hal.grown hg2 hal.size (fun k e => (HR1.out.own k e))
             have HR2 : Hid (RowS W0 w2 w.heap.size p2 n2 c2 (bs.take 0 ++ [(v, tcs T)])) := hr2
             have hn2b : n2 ≤ 20001 := by have := hn2.out; omega
             have hn2c : n2 = 0 + 1 := by have := hn2.out; have := HN1.out; omega
             have hw2 : w.heap.size ≤ w2.heap.size := HB2.out.size
             have hc2 : w2.cell? ⟨sb, 0, none⟩ = some (.slice none 0 0) := (HB2.out.cell HSB.out).trans c0
             have HL32 : Hid (Lies W0 w2 none 0 0 (bs.drop 0)) := HL3.out.below HB2.out
             clear hr2 hg2 hn2 hal HLT hn2c)
          | (have _t := tok3
             refine app_sub W0 w2 rfl _ _ rfl w.heap.size p2 n2 c2 (bs.take 0 ++ [(v, tcs T)]) rfl HR2.out hw2 none 0 0 (bs.drop 0) rfl HL32.out (by omega) ?_
             intro p3 n3 c3 w3 hr3 hg3 hn3
             clear tok3 _t
             have HB3 : Hid (Below w.heap.size w w3) := HB2.out.grown hg3 HB2.out.size (fun k e => (HR2.out.own k e))
             have HR3 : Hid (RowS W0 w3 w.heap.size p3 n3 c3 (insB bs 0 (v, tcs T))) := hr3
             have hc3 : w3.cell? ⟨sb, 0, none⟩ = some (.slice none 0 0) := (HB3.out.cell HSB.out).trans c0
             have hf3 : w3.frozen? ⟨sb, 0, none⟩ = false := (HB3.out.frozen (p := ⟨sb, 0, none⟩) HSB.out).trans (HS.out.free 0)
             clear hr3 hg3 hn3 hc2))
        refine bodyPost_end (v := .tuple #[]) (by simp [results, Try.results75, go_sem]) rfl ?_
        exact HFIN.out 0 w3 p3 n3 c3 HA.out HLO.out HHI.out HB3.out HR3.out
      · obtain ⟨b, o, rfl, hcs⟩ := HS.out.lies (by have := HS.out.len; omega)
        by_cases hca : c = a
        · subst hca
          have HL1 : Hid (Lies W0 w (some ⟨b, o, none⟩) c c (bs.take c)) := SubIn.fore hcs c (by have := HS.out.len; omega) c
          have HL3 : Hid (Lies W0 w (some ⟨b, o, none⟩) 0 0 (bs.drop c)) := ⟨by have := HS.out.len; simp; omega, .inr ⟨b, o, [], rfl, by rw [List.drop_eq_nil_of_le (by have := HS.out.len; omega)]; trivial, fun j u hj => by simp [flB] at hj⟩⟩
          have hsb := World.block_lt_of_cell? _ _ c0
          have HSB : Hid (sb < w.heap.size) := hsb
          have HA : Hid (c ≤ bs.length) := by show c ≤ _; rw [← HS.out.len]; exact ha
          clear hcs hsb
          have tok1 : True := trivial
          go_wp2_with (at_builtin; first
            | (have _t := tok1
               refine app_sub W0 w rfl _ _ rfl w.heap.size none 0 0 [] rfl (RowS.nil _ _ _) (Nat.le_refl _) (some ⟨b, o, none⟩) c c (bs.take c) rfl HL1.out (by omega) ?_
               intro p1 n1 c1 w1 hr1 hg1 hn1
               clear tok1 _t
               have tok2 : True := trivial
               have HR1 : Hid (RowS W0 w1 w.heap.size p1 n1 c1 (bs.take c)) := by rw [List.nil_append] at hr1; exact hr1
               have HB1 : Hid (Below w.heap.size w w1) := (Below.refl _ _).grown hg1 (Nat.le_refl _) (fun k e => by simp [Value.ownBlock] at e)
               have HN1 : Hid (n1 = c) := (hn1.out.trans (Nat.zero_add _))
               have hn1b : n1 ≤ 20000 := by have := HN1.out; omega
               have hw1 : w.heap.size ≤ w1.heap.size := HB1.out.size
               have HLT : Hid (Lies W0 (w1.alloc (.cells #[.int .i64 v, .slice q m cq] 63)) (some ⟨w1.heap.size, 0, none⟩) 1 1 [(v, tcs T)]) := lies_one HT.out w1 v
               clear hr1 hg1 hn1)
            | (have _t := tok2
               refine app_sub W0 _ rfl _ _ rfl w.heap.size p1 n1 c1 (bs.take c) rfl (HR1.out.below ((Below.refl _ _).alloc (Nat.le_refl _) _)) (by simp; omega) (some ⟨w1.heap.size, 0, none⟩) 1 1 [(v, tcs T)] rfl HLT.out (by omega) ?_
               intro p2 n2 c2 w2 hr2 hg2 hn2
               clear tok2 _t
               have tok3 : True := trivial
               have hal : Below w.heap.size w (w1.alloc (.cells #[.int .i64 v, .slice q m cq] 63)) := HB1.out.alloc HB1.out.size _
               have HB2 : Hid (Below w.heap.size w w2) := hal.grown hg2 hal.size (fun k e => (HR1.out.own k e))
               have HR2 : Hid (RowS W0 w2 w.heap.size p2 n2 c2 (bs.take c ++ [(v, tcs T)])) := hr2
               have hn2b : n2 ≤ 20001 := by have := hn2.out; omega
               have hn2c : n2 = c + 1 := by have := hn2.out; have := HN1.out; omega
               have hw2 : w.heap.size ≤ w2.heap.size := HB2.out.size
               have hc2 : w2.cell? ⟨sb, 0, none⟩ = some (.slice (some ⟨b, o, none⟩) c c) := (HB2.out.cell HSB.out).trans c0
               have HL32 : Hid (Lies W0 w2 (some ⟨b, o, none⟩) 0 0 (bs.drop c)) := HL3.out.below HB2.out
               clear hr2 hg2 hn2 hal HLT hn2c)
            | (have _t := tok3
               refine app_sub W0 w2 rfl _ _ rfl w.heap.size p2 n2 c2 (bs.take c ++ [(v, tcs T)]) rfl HR2.out hw2 (some ⟨b, o, none⟩) 0 0 (bs.drop c) rfl HL32.out (by omega) ?_
               intro p3 n3 c3 w3 hr3 hg3 hn3
               clear tok3 _t
               have HB3 : Hid (Below w.heap.size w w3) := HB2.out.grown hg3 HB2.out.size (fun k e => (HR2.out.own k e))
               have HR3 : Hid (RowS W0 w3 w.heap.size p3 n3 c3 (insB bs c (v, tcs T))) := hr3
               have hc3 : w3.cell? ⟨sb, 0, none⟩ = some (.slice (some ⟨b, o, none⟩) c c) := (HB3.out.cell HSB.out).trans c0
               have hf3 : w3.frozen? ⟨sb, 0, none⟩ = false := (HB3.out.frozen (p := ⟨sb, 0, none⟩) HSB.out).trans (HS.out.free 0)
               clear hr3 hg3 hn3 hc2))
          refine bodyPost_end (v := .tuple #[]) (by simp [results, Try.results75, go_sem]) rfl ?_
          exact HFIN.out c w3 p3 n3 c3 HA.out HLO.out HHI.out HB3.out HR3.out
        · have hcap1 : ¬ c = a := hca
          have hcap2 : ¬ c - a = 0 := by omega
          have hcx : (0 : Int) < (c : Int) - (a : Int) := by omega
          have HL1 : Hid (Lies W0 w (some ⟨b, o, none⟩) a c (bs.take a)) := SubIn.fore hcs a (by have := HS.out.len; omega) c
          have HL3 : Hid (Lies W0 w (some ⟨b, o + a * 2, none⟩) 0 (c - a) (bs.drop a)) := by have := SubIn.part hcs a (by have := HS.out.len; omega) (c - a); rw [show bs.length - a = 0 by have := HS.out.len; omega] at this; exact this
          have hsb := World.block_lt_of_cell? _ _ c0
          have HSB : Hid (sb < w.heap.size) := hsb
          have HA : Hid (a ≤ bs.length) := by show a ≤ _; rw [← HS.out.len]; exact ha
          clear hcs hca hsb
          have tok1 : True := trivial
          go_wp2_with (at_builtin; first
            | (have _t := tok1
               refine app_sub W0 w rfl _ _ rfl w.heap.size none 0 0 [] rfl (RowS.nil _ _ _) (Nat.le_refl _) (some ⟨b, o, none⟩) a c (bs.take a) rfl HL1.out (by omega) ?_
               intro p1 n1 c1 w1 hr1 hg1 hn1
               clear tok1 _t
               have tok2 : True := trivial
               have HR1 : Hid (RowS W0 w1 w.heap.size p1 n1 c1 (bs.take a)) := by rw [List.nil_append] at hr1; exact hr1
               have HB1 : Hid (Below w.heap.size w w1) := (Below.refl _ _).grown hg1 (Nat.le_refl _) (fun k e => by simp [Value.ownBlock] at e)
               have HN1 : Hid (n1 = a) := (hn1.out.trans (Nat.zero_add _))
               have hn1b : n1 ≤ 20000 := by have := HN1.out; omega
               have hw1 : w.heap.size ≤ w1.heap.size := HB1.out.size
               have HLT : Hid (Lies W0 (w1.alloc (.cells #[.int .i64 v, .slice q m cq] 63)) (some ⟨w1.heap.size, 0, none⟩) 1 1 [(v, tcs T)]) := lies_one HT.out w1 v
               clear hr1 hg1 hn1)
            | (have _t := tok2
               refine app_sub W0 _ rfl _ _ rfl w.heap.size p1 n1 c1 (bs.take a) rfl (HR1.out.below ((Below.refl _ _).alloc (Nat.le_refl _) _)) (by simp; omega) (some ⟨w1.heap.size, 0, none⟩) 1 1 [(v, tcs T)] rfl HLT.out (by omega) ?_
               intro p2 n2 c2 w2 hr2 hg2 hn2
               clear tok2 _t
               have tok3 : True := trivial
               have hal : Below w.heap.size w (w1.alloc (.cells #[.int .i64 v, .slice q m cq] 63)) := HB1.out.alloc HB1.out.size _
               have HB2 : Hid (Below w.heap.size w w2) := hal.grown hg2 hal.size (fun k e => (HR1.out.own k e))
               have HR2 : Hid (RowS W0 w2 w.heap.size p2 n2 c2 (bs.take a ++ [(v, tcs T)])) := hr2
               have hn2b : n2 ≤ 20001 := by have := hn2.out; omega
               have hn2c : n2 = a + 1 := by have := hn2.out; have := HN1.out; omega
               have hw2 : w.heap.size ≤ w2.heap.size := HB2.out.size
               have hc2 : w2.cell? ⟨sb, 0, none⟩ = some (.slice (some ⟨b, o, none⟩) a c) := (HB2.out.cell HSB.out).trans c0
               have HL32 : Hid (Lies W0 w2 (some ⟨b, o + a * 2, none⟩) 0 (c - a) (bs.drop a)) := HL3.out.below HB2.out
               clear hr2 hg2 hn2 hal HLT hn2c)
            | (have _t := tok3
               refine app_sub W0 w2 rfl _ _ rfl w.heap.size p2 n2 c2 (bs.take a ++ [(v, tcs T)]) rfl HR2.out hw2 (some ⟨b, o + a * 2, none⟩) 0 (c - a) (bs.drop a) rfl HL32.out (by omega) ?_
               intro p3 n3 c3 w3 hr3 hg3 hn3
               clear tok3 _t
               have HB3 : Hid (Below w.heap.size w w3) := HB2.out.grown hg3 HB2.out.size (fun k e => (HR2.out.own k e))
               have HR3 : Hid (RowS W0 w3 w.heap.size p3 n3 c3 (insB bs a (v, tcs T))) := hr3
               have hc3 : w3.cell? ⟨sb, 0, none⟩ = some (.slice (some ⟨b, o, none⟩) a c) := (HB3.out.cell HSB.out).trans c0
               have hf3 : w3.frozen? ⟨sb, 0, none⟩ = false := (HB3.out.frozen (p := ⟨sb, 0, none⟩) HSB.out).trans (HS.out.free 0)
               clear hr3 hg3 hn3 hc2))
          refine bodyPost_end (v := .tuple #[]) (by simp [results, Try.results75, go_sem]) rfl ?_
          exact HFIN.out a w3 p3 n3 c3 HA.out HLO.out HHI.out HB3.out HR3.out

end Go.Proofs.Ytedlcmkhbccjgaa

