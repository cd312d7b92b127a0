/- Texts of CArg, BD1, BD2, UnB1. Own work of the verifier. -/
import Derived.Test.YtaakpdakeolgeaaGreatUqae
import Derived.Test.YtaakpdakeolgeaaGreatUqai
import Derived.Test.YtaakpdakeolgeaaGreatUqac
import Derived.Deep.AppendLies
namespace Go.Proofs.YtaakpdakeolgeaaGreat
open Go Go.RowKit
set_option linter.unusedVariables false
structure CArg (w : World) (p : Option Addr) (cs : List Cel) : Prop where
  lies : CIn w p cs
  len : cs.length ≤ 9223372036854775807
  text : ∀ i, i < cs.length → (cs.getD i Cel.none).2.2.length ≤ 9223372036854775807
  byte : ∀ i, i < cs.length → ∀ x ∈ (cs.getD i Cel.none).2.2, 0 ≤ x ∧ x < 256
  wide : ∀ i, i < cs.length → -9223372036854775808 ≤ (cs.getD i Cel.none).1 ∧ (cs.getD i Cel.none).1 ≤ 9223372036854775807 ∧ -9223372036854775808 ≤ (cs.getD i Cel.none).2.1 ∧ (cs.getD i Cel.none).2.1 ≤ 9223372036854775807
theorem CArg.below {W W' : World} {p : Option Addr} {cs : List Cel} (h : CArg W p cs) (hb : Below W.heap.size W W') : CArg W' p cs := ⟨h.lies.below hb, h.len, h.text, h.byte, h.wide⟩
end Go.Proofs.YtaakpdakeolgeaaGreat

namespace Go.Proofs.YtaakpdakeolgeaaGreat
open Go Go.RowKit
set_option linter.unusedVariables false
def pairRow (f g : Nat → Value) (n : Nat) : List Value := (List.range n).flatMap fun i => [f i, g i]
theorem pairRow_succ (f g : Nat → Value) (n : Nat) : pairRow f g (n + 1) = pairRow f g n ++ [f n, g n] := by simp [pairRow, List.range_succ]
theorem pairRow_len (f g : Nat → Value) : ∀ n, (pairRow f g n).length = n * 2
  | 0 => rfl
  | n + 1 => by rw [pairRow_succ, List.length_append, pairRow_len f g n]; simp; omega
theorem pairRow_get (f g : Nat → Value) : ∀ (n k : Nat), (pairRow f g n)[k]? = if k < n * 2 then some (if k % 2 = 0 then f (k / 2) else g (k / 2)) else none
  | 0, k => by simp [pairRow]
  | n + 1, k => by
    rw [pairRow_succ]
    rcases Nat.lt_or_ge k (n * 2) with h | h
    · rw [List.getElem?_append_left (by rw [pairRow_len]; exact h), pairRow_get f g n k, if_pos h, if_pos (show k < (n + 1) * 2 by omega)]
    · rw [List.getElem?_append_right (by rw [pairRow_len]; exact h), pairRow_len]
      rcases Nat.lt_or_ge k (n * 2 + 2) with h2 | h2
      · rw [if_pos (show k < (n + 1) * 2 by omega)]
        have : k = n * 2 ∨ k = n * 2 + 1 := by omega
        rcases this with e | e
        · subst e
          have e1 : n * 2 - n * 2 = 0 := by omega
          have e2 : n * 2 % 2 = 0 := by omega
          have e3 : n * 2 / 2 = n := by omega
          rw [e1, e2, e3]; simp
        · subst e
          have e1 : n * 2 + 1 - n * 2 = 1 := by omega
          have e2 : (n * 2 + 1) % 2 = 1 := by omega
          have e3 : (n * 2 + 1) / 2 = n := by omega
          rw [e1, e2, e3]; simp
      · rw [if_neg (show ¬ k < (n + 1) * 2 by omega), List.getElem?_eq_none (by simp; omega)]
theorem pairRow_at0 (f g : Nat → Value) (n i : Nat) (h : i < n) : (pairRow f g n)[i * 2]? = some (f i) := by
  rw [pairRow_get, if_pos (by omega), if_pos (by omega), show i * 2 / 2 = i by omega]
theorem pairRow_at1 (f g : Nat → Value) (n i : Nat) (h : i < n) : (pairRow f g n)[i * 2 + 1]? = some (g i) := by
  rw [pairRow_get, if_pos (by omega), if_neg (by omega), show (i * 2 + 1) / 2 = i by omega]
theorem pairRow_congr {f g f' g' : Nat → Value} {n : Nat} (h : ∀ i, i < n → f i = f' i ∧ g i = g' i) : pairRow f g n = pairRow f' g' n := by
  apply List.ext_getElem?
  intro k
  rw [pairRow_get, pairRow_get]
  split
  · have := h (k / 2) (by omega)
    rw [this.1, this.2]
  · rfl
abbrev Bnd := Int × List Cel
def Bnd.zero : Bnd := (0, [])
def trm (bs : List Bnd) : List (List Cel) := bs.map Prod.snd
theorem trm_len (bs : List Bnd) : (trm bs).length = bs.length := by simp [trm]
theorem trm_at (bs : List Bnd) (i : Nat) : (trm bs).getD i [] = (bs.getD i Bnd.zero).2 := by
  simp only [trm, List.getD, List.getElem?_map]
  cases bs[i]? <;> rfl
def BdIn (w : World) (p : Option Addr) (bs : List Bnd) : Prop :=
  0 < bs.length → ∃ b o, p = some ⟨b, o, none⟩ ∧ ∀ i, i < bs.length → ∃ q c, w.cell? ⟨b, o + i * 2, none⟩ = some (.int .i64 (bs.getD i Bnd.zero).1) ∧ w.cell? ⟨b, o + i * 2 + 1, none⟩ = some (.slice q (bs.getD i Bnd.zero).2.length c) ∧ CIn w q (bs.getD i Bnd.zero).2
theorem BdIn.below {W W' : World} {p : Option Addr} {bs : List Bnd} (h : BdIn W p bs) (hb : Below W.heap.size W W') : BdIn W' p bs := fun hn => by
  obtain ⟨b, o, rfl, hc⟩ := h hn
  refine ⟨b, o, rfl, fun i hi => ?_⟩
  obtain ⟨q, c, h0, h1, h2⟩ := hc i hi
  exact ⟨q, c, (hb.cell (World.block_lt_of_cell? _ _ h0)).trans h0, (hb.cell (World.block_lt_of_cell? _ _ h1)).trans h1, h2.below hb⟩
structure BdArg (w : World) (p : Option Addr) (bs : List Bnd) : Prop where
  lies : BdIn w p bs
  len : bs.length ≤ 9223372036854775807
  item : ∀ i, i < bs.length → (bs.getD i Bnd.zero).2.length ≤ 9223372036854775807 ∧ (∀ j, j < (bs.getD i Bnd.zero).2.length → ((bs.getD i Bnd.zero).2.getD j Cel.none).2.2.length ≤ 9223372036854775807) ∧ (∀ j, j < (bs.getD i Bnd.zero).2.length → Byte ((bs.getD i Bnd.zero).2.getD j Cel.none).2.2)
theorem BdArg.below {W W' : World} {p : Option Addr} {bs : List Bnd} (h : BdArg W p bs) (hb : Below W.heap.size W W') : BdArg W' p bs := ⟨h.lies.below hb, h.len, h.item⟩
end Go.Proofs.YtaakpdakeolgeaaGreat

namespace Go.Proofs.YtaakpdakeolgeaaGreat
open Go Go.RowKit
set_option linter.unusedVariables false
theorem infoBnd : (Tryz.prog.info? 33).map (fun i => (i.zero, i.size, i.bytes)) = some (some (.agg #[.int .i64 0, .slice none 0 0]), 2, 32) := by kernel_rfl
def valsB (ds : List It) (bs : List Bnd) : List Value := pairRow (fun i => .int .i64 (bs.getD i Bnd.zero).1) (fun i => .slice (ds.getD i It.zero).1 (bs.getD i Bnd.zero).2.length (ds.getD i It.zero).2.1) bs.length
structure OwnBd (w : World) (B U : Nat) (p : Option Addr) (n c : Nat) (bs : List Bnd) (ds : List It) : Prop where
  len : n = bs.length
  dlen : ds.length = bs.length
  row : w.ownsRow B 33 2 (.slice p n c) n (valsB ds bs)
  item : ∀ i, i < bs.length → OwnCU w (ds.getD i It.zero).2.2.1 (ds.getD i It.zero).2.2.2 (ds.getD i It.zero).1 (bs.getD i Bnd.zero).2.length (ds.getD i It.zero).2.1 (bs.getD i Bnd.zero).2
  low : ∀ i, i < bs.length → B ≤ (ds.getD i It.zero).2.2.1 ∧ (ds.getD i It.zero).2.2.2 ≤ U
  away : ∀ i, i < bs.length → ∀ g, Value.ownBlock (.slice p n c) = some g → g < (ds.getD i It.zero).2.2.1 ∨ (ds.getD i It.zero).2.2.2 ≤ g
  apart : ∀ i j, i < j → j < bs.length → (ds.getD i It.zero).2.2.2 ≤ (ds.getD j It.zero).2.2.1
  top : ∀ g, Value.ownBlock (.slice p n c) = some g → g < U
def OwnBB (w : World) (B U : Nat) (p : Option Addr) (n c : Nat) (bs : List Bnd) : Prop := ∃ ds, OwnBd w B U p n c bs ds
theorem OwnBB.nil (w : World) (B U : Nat) : OwnBB w B U none 0 0 [] := ⟨[], rfl, rfl, World.ownsRow_nil _ _ _ _, fun i h => by simp at h, fun i h => by simp at h, fun i h => by simp at h, fun i j _ h => by simp at h, fun g h => by cases h⟩
theorem OwnBB.bdin {w : World} {B U : Nat} {p : Option Addr} {n c : Nat} {bs : List Bnd} (h : OwnBB w B U p n c bs) : BdIn w p bs := fun hn => by
  obtain ⟨ds, h⟩ := h
  have hl := h.len
  obtain ⟨g, cap, hv, hb, hg⟩ := h.row.form (by omega)
  simp only [Value.slice.injEq, true_and] at hv
  obtain ⟨rfl, rfl⟩ := hv
  refine ⟨g, 0, rfl, fun i hi => ⟨(ds.getD i It.zero).1, (ds.getD i It.zero).2.1, ?_, ?_, (h.item i hi).toC.cin⟩⟩
  · rw [Nat.zero_add, h.row.cellAt (i * 2) (by omega)]
    exact pairRow_at0 _ _ _ _ hi
  · rw [Nat.zero_add, h.row.cellAt (i * 2 + 1) (by omega)]
    exact pairRow_at1 _ _ _ _ hi
theorem OwnBd.other {w w' : World} {B U : Nat} {p : Option Addr} {n c : Nat} {bs : List Bnd} {ds : List It} (h : OwnBd w B U p n c bs ds) (hs : w.heap.size ≤ w'.heap.size) (hb : ∀ k, k < w.heap.size → B ≤ k → k < U → w'.heap[k]? = w.heap[k]?) : OwnBd w' B U p n c bs ds := by
  refine ⟨h.len, h.dlen, ⟨h.row.1, ?_⟩, fun i hi => (h.item i hi).other hs (fun k h1 h2 h3 => hb k h1 (by have := h.low i hi; omega) (by have := h.low i hi; omega)), h.low, h.away, h.apart, h.top⟩
  rcases h.row.2 with h' | ⟨g, cap, cur, hv, hB, hg, r⟩
  · exact .inl h'
  · refine .inr ⟨g, cap, cur, hv, hB, (hb g (Array.getElem?_eq_some_iff.1 hg).1 hB (h.top g ?_)).trans hg, r⟩
    simp only [Value.slice.injEq] at hv
    rw [hv.1]; rfl
theorem OwnBB.below {w w' : World} {B U : Nat} {p : Option Addr} {n c : Nat} {bs : List Bnd} (h : OwnBB w B U p n c bs) (hb : Below w.heap.size w w') : OwnBB w' B U p n c bs := by
  obtain ⟨ds, h⟩ := h
  exact ⟨ds, h.other hb.size (fun k hk _ _ => hb.block k hk)⟩
theorem OwnBB.keep {w w' : World} {B U B' U' : Nat} {p : Option Addr} {n c : Nat} {bs : List Bnd} (h : OwnBB w B U p n c bs) (hk : Keep B' U' w w') (ho : U ≤ B' ∨ U' ≤ B) : OwnBB w' B U p n c bs := by
  obtain ⟨ds, h⟩ := h
  exact ⟨ds, h.other hk.size (fun k h1 h2 h3 => hk.block k h1 (by omega))⟩
def TightBd (w : World) (p : Option Addr) (bs : List Bnd) : Prop := ∀ b o, p = some ⟨b, o, none⟩ → ∀ i, i < bs.length → ∃ q, w.cell? ⟨b, o + i * 2 + 1, none⟩ = some (.slice q (bs.getD i Bnd.zero).2.length (bs.getD i Bnd.zero).2.length)
theorem TightBd.below {w w' : World} {p : Option Addr} {bs : List Bnd} (h : TightBd w p bs) (hb : Below w.heap.size w w') : TightBd w' p bs := fun b o hp i hi => by
  obtain ⟨q, hq⟩ := h b o hp i hi
  exact ⟨q, (hb.cell (World.block_lt_of_cell? _ _ hq)).trans hq⟩
end Go.Proofs.YtaakpdakeolgeaaGreat

namespace Go.Proofs.YtaakpdakeolgeaaGreat
open Go Go.RowKit
set_option linter.unusedVariables false
theorem cell_two_new (w : World) (u v : Value) (t : TypeId) : ∀ j x, [u, v][j]? = some x → (w.alloc (.cells #[u, v] t)).cell? ((⟨w.heap.size, 0, none⟩ : Addr).add j) = some x := fun j x hx => by
  match j, hx with
  | 0, hx => simp at hx; rw [← hx]; simp [Addr.add, World.cell?_alloc_new]
  | 1, hx => simp at hx; rw [← hx]; simp [Addr.add, World.cell?_alloc_new]
  | j + 2, hx => simp at hx
theorem bs_append_at (bs : List Bnd) (b : Bnd) (i : Nat) (h : i ≤ bs.length) : (bs ++ [b]).getD i Bnd.zero = if i = bs.length then b else bs.getD i Bnd.zero := by
  by_cases e : i = bs.length
  · subst e; simp [List.getD]
  · rw [if_neg e, List.getD, List.getD, List.getElem?_append_left (by omega)]
theorem valsB_append (ds : List It) (bs : List Bnd) (d : It) (b : Bnd) (h : ds.length = bs.length) : valsB (ds ++ [d]) (bs ++ [b]) = valsB ds bs ++ [.int .i64 b.1, .slice d.1 b.2.length d.2.1] := by
  unfold valsB
  rw [List.length_append, List.length_singleton, pairRow_succ]
  congr 1
  · refine pairRow_congr fun i hi => ?_
    rw [ds_append_at _ _ _ (by omega), bs_append_at _ _ _ (by omega), if_neg (by omega), if_neg (by omega)]
    exact ⟨rfl, rfl⟩
  · rw [ds_append_at _ _ _ (by omega), bs_append_at _ _ _ (by omega), if_pos h.symm, if_pos rfl]
theorem app_bnd (W0 w : World) {ops : Array Oper} {rest : List Oper} {o : Oper} {a : Act} {Q : Exit → Act → World → Prop} (hgd : o.guard = none) (s x : Operand)
    (ho : o.op = .call { callee := .builtin .append, args := #[s, x], argTypes := #[26, 26] }) (B : Nat) (p : Option Addr) (n c : Nat) (bs : List Bnd) (z : Int)
    (hs : a.eval s = .slice p n c) (hown : OwnBB W0 B W0.heap.size p n c bs) (hb0 : Below W0.heap.size W0 w) (hB : B ≤ W0.heap.size) (q : Option Addr) (m cq : Nat) (cs : List Cel) (hit : OwnC w W0.heap.size q m cq cs)
    (hx : a.eval x = .slice (some ⟨w.heap.size, 0, none⟩) 1 1) (hlen : n + 1 ≤ 1000000)
    (h : ∀ g n' cap w', OwnBB w' B w'.heap.size (some ⟨g, 0, none⟩) n' cap (bs ++ [(z, cs)]) → Below B (w.alloc (.cells #[.int .i64 z, .slice q m cq] 33)) w' → Hid (n' = n + 1) → (w.alloc (.cells #[.int .i64 z, .slice q m cq] 33)).grownBy w' (Value.ownBlock (.slice p n c)) → (Value.ownBlock (.slice p n c) = some g ∨ w.heap.size < g) → wpList Tryz.prog ops Q rest (a.put o.dst (.slice (some ⟨g, 0, none⟩) n' cap)) w') : wpList Tryz.prog ops Q (o :: rest) a (w.alloc (.cells #[.int .i64 z, .slice q m cq] 33)) := by
  obtain ⟨i0, hi, hz0, hz1, hz2⟩ := info_parts infoBnd
  obtain ⟨ds, hss⟩ := hown
  have hal : Below w.heap.size w (w.alloc (.cells #[.int .i64 z, .slice q m cq] 33)) := (Below.refl _ _).alloc (Nat.le_refl _) _
  have hb1 := Below.on hb0 hal
  refine wpList_append_lies _ hgd s x 26 ho B 33 i0 (.agg #[.int .i64 0, .slice none 0 0]) 2 32 Tryz.underlying26 hi hz0 hz1 hz2 rfl (by decide) (.slice p n c) n (valsB ds bs) hs (row_below hss.row hb1) ⟨w.heap.size, 0, none⟩ 1 1 [.int .i64 z, .slice q m cq] hx rfl (cell_two_new _ _ _ _) (fun u hu => by simp at hu; rcases hu with hu | hu <;> rw [hu] <;> rfl) (by decide) (by unfold maxLen; omega) (by omega) (Nat.le_trans hB hb1.size) _ rfl ?_
  intro g cap w' hown' hgrow hat hlt
  have hown : ∀ k, Value.ownBlock (.slice p n c) = some k → B ≤ k ∧ k < W0.heap.size := fun k hk => hss.row.lt k hk
  have hm := hit.1
  have hg2 : g < W0.heap.size ∨ w.heap.size ≤ g := by
    rcases hat with h' | h'
    · exact .inl (hown g h').2
    · right; rw [h']; simp
  have hws := hb0.size
  have keepS : ∀ k, k < w.heap.size → (∀ j, Value.ownBlock (.slice p n c) = some j → k ≠ j) → w'.heap[k]? = w.heap[k]? := fun k hk hne =>
    (hgrow.block k (by simp; omega) (fun e => hne k e.symm rfl)).trans (Below.heap_alloc _ _ _ hk)
  have hitU := hit.up
  refine h g _ cap w' ⟨ds ++ [(q, cq, W0.heap.size, w.heap.size)], ?_⟩ ((Below.refl _ _).grown hgrow (Nat.le_trans hB hb1.size) (fun k hk => (hown k hk).1)) rfl hgrow (hat.imp id fun e => by rw [e]; simp)
  have hdl := hss.dlen
  have hln := hss.len
  refine ⟨by simp; omega, by simp; omega, by rw [valsB_append _ _ _ _ hdl, ← hm]; exact hown', fun i hi => ?_, fun i hi => ?_, fun i hi k hk => ?_, fun i j hij hj => ?_, fun k hk => ?_⟩
  · have hi' : i ≤ bs.length := by simp at hi; omega
    rw [ds_append_at _ _ _ (by omega), bs_append_at _ _ _ hi']
    by_cases e : i = bs.length
    · rw [if_pos (by omega), if_pos e, ← hm]
      exact hitU.other (by have := hgrow.size; simp at this; omega) (fun k h1 h2 h3 => keepS k h1 (fun j hj => by have := (hown j hj).2; omega))
    · rw [if_neg (by omega), if_neg e]
      refine ((hss.item i (by omega)).below hb0).other (by have := hgrow.size; simp at this; omega) (fun k h1 h2 h3 => keepS k h1 (fun j hj => ?_))
      have := hss.away i (by omega) j hj
      omega
  · have hi' : i ≤ bs.length := by simp at hi; omega
    rw [ds_append_at _ _ _ (by omega)]
    have hwl : w.heap.size ≤ w'.heap.size := by have := hgrow.size; simp at this; omega
    by_cases e : i = bs.length
    · rw [if_pos (by omega)]; exact ⟨hB, hwl⟩
    · rw [if_neg (by omega)]
      have := hss.low i (by omega)
      exact ⟨this.1, by omega⟩
  · have hi' : i ≤ bs.length := by simp at hi; omega
    have hk' : k = g := (Option.some.inj hk).symm
    subst hk'
    rw [ds_append_at _ _ _ (by omega)]
    by_cases e : i = bs.length
    · rw [if_pos (by omega)]; exact hg2
    · rw [if_neg (by omega)]
      rcases hat with h' | h'
      · exact hss.away i (by omega) _ h'
      · right
        have := (hss.low i (by omega)).2
        have hsz : (w.alloc (.cells #[.int .i64 z, .slice q m cq] 33)).heap.size = w.heap.size + 1 := by simp
        rw [h', hsz]; omega
  · have hj' : j ≤ bs.length := by simp at hj; omega
    rw [ds_append_at _ _ _ (by omega), ds_append_at _ _ _ (by omega), if_neg (by omega)]
    by_cases e : j = bs.length
    · rw [if_pos (by omega)]
      exact (hss.low i (by omega)).2
    · rw [if_neg (by omega)]
      exact hss.apart i j hij (by omega)
  · have hk' : k = g := (Option.some.inj hk).symm
    omega
end Go.Proofs.YtaakpdakeolgeaaGreat

