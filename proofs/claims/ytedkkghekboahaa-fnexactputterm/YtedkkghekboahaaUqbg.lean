/- Texts of PtM, PtN, PtL. Own work of the verifier. -/
import Derived.Test.YtedkkghekboahaaUqap
import Derived.Test.YtedkkghekboahaaUqbf
import Derived.Test.YtedkkghekboahaaUqaq
import Derived.Test.YtedkkghekboahaaUqam
import Derived.Test.YtedkkghekboahaaUqax
import Derived.Test.YtedkkghekboahaaUqaw
namespace Go.Proofs.Ytedkkghekboahaa
open Go Go.RowKit Go.Maps
set_option linter.unusedVariables false

abbrev Sl2 := Option Addr × Nat
/-- The slices of the model's heap and of its l10put: cells, trail, names, places. -/
abbrev Sl8 := Sl2 × Sl2 × Sl2 × Sl2
def bl (s : Sl2) : Option Nat := Value.ownBlock (.slice s.1 0 s.2)
theorem bl_of (s : Sl2) (n : Nat) : Value.ownBlock (.slice s.1 n s.2) = bl s := by obtain ⟨p, c⟩ := s; cases p <;> rfl
/-- The model's heap h and its l10put pb. -/
def PMo (V : World) (h pb : Nat) (base : Int) (X : List Cel) (tr : List Int) (E : PSt) (s : Sl8) (W : World) : Prop :=
  W.heap[h]? = some (.cells #[.slice s.1.1 X.length s.1.2, .slice s.2.1.1 tr.length s.2.1.2, .int .i64 0] 118) ∧ RowC V W s.1.1 X.length s.1.2 X ∧ OwnI W V.heap.size 3 s.2.1.1 tr.length s.2.1.2 tr ∧
  W.heap[pb]? = some (.cells #[.int .i64 base, .slice s.2.2.1.1 E.length s.2.2.1.2, .slice s.2.2.2.1 E.length s.2.2.2.2] 149) ∧ OwnI W V.heap.size 3 s.2.2.1.1 E.length s.2.2.1.2 (E.map Prod.fst) ∧ OwnI W V.heap.size 3 s.2.2.2.1 E.length s.2.2.2.2 (E.map Prod.snd) ∧
  (V.heap.size ≤ h ∧ V.heap.size ≤ pb ∧ Below V.heap.size V W) ∧ (∀ g, bl s.2.2.1 = some g → bl s.2.1 ≠ some g ∧ bl s.2.2.2 ≠ some g) ∧ (∀ g, bl s.2.2.2 = some g → bl s.2.1 ≠ some g)
/-- What may change, and where the slices may be then. -/
def FrT (h pb : Nat) (s s' : Sl8) (W W' : World) : Prop :=
  W.heap.size ≤ W'.heap.size ∧ (∀ k, k < W.heap.size → k ≠ h → k ≠ pb → bl s.1 ≠ some k → bl s.2.2.1 ≠ some k → bl s.2.2.2 ≠ some k → W'.heap[k]? = W.heap[k]?) ∧
  (∀ g, bl s'.1 = some g → bl s.1 = some g ∨ W.heap.size ≤ g) ∧ (∀ g, bl s'.2.2.1 = some g → bl s.2.2.1 = some g ∨ W.heap.size ≤ g) ∧ (∀ g, bl s'.2.2.2 = some g → bl s.2.2.2 = some g ∨ W.heap.size ≤ g) ∧ s'.2.1 = s.2.1
theorem FrT.of_below {h pb : Nat} {s : Sl8} {W W' : World} (hb : Below W.heap.size W W') : FrT h pb s s W W' := ⟨hb.size, fun k hk _ _ _ _ _ => hb.block k hk, fun g e => .inl e, fun g e => .inl e, fun g e => .inl e, rfl⟩
theorem FrT.trans {h pb : Nat} {s s1 s2 : Sl8} {W W1 W2 : World} (a : FrT h pb s s1 W W1) (b : FrT h pb s1 s2 W1 W2) : FrT h pb s s2 W W2 := by
  obtain ⟨a0, a1, a2, a3, a4, a5⟩ := a
  obtain ⟨b0, b1, b2, b3, b4, b5⟩ := b
  refine ⟨Nat.le_trans a0 b0, fun k hk h1 h2 h3 h4 h5 => ?_, fun g e => ?_, fun g e => ?_, fun g e => ?_, b5.trans a5⟩
  · refine (b1 k (by omega) h1 h2 (fun e => ?_) (fun e => ?_) (fun e => ?_)).trans (a1 k hk h1 h2 h3 h4 h5)
    · rcases a2 k e with e | e
      · exact h3 e
      · omega
    · rcases a3 k e with e | e
      · exact h4 e
      · omega
    · rcases a4 k e with e | e
      · exact h5 e
      · omega
  · rcases b2 g e with e | e
    · exact a2 g e
    · exact .inr (by omega)
  · rcases b3 g e with e | e
    · exact a3 g e
    · exact .inr (by omega)
  · rcases b4 g e with e | e
    · exact a4 g e
    · exact .inr (by omega)
section
variable {V : World} {h pb : Nat} {base : Int} {X : List Cel} {tr : List Int} {E : PSt} {s : Sl8} {W W' : World}
theorem PMo.below (H : PMo V h pb base X tr E s W) (hb : Below W.heap.size W W') : PMo V h pb base X tr E s W' := by
  obtain ⟨h0, h1, h2, h3, h4, h5, ⟨h6, h7, h8⟩, h9, hA⟩ := H
  exact ⟨(hb.block h (Array.getElem?_eq_some_iff.1 h0).1).trans h0, h1.below hb, h2.below hb, (hb.block pb (Array.getElem?_eq_some_iff.1 h3).1).trans h3, h4.below hb, h5.below hb, ⟨h6, h7, Below.on h8 hb⟩, h9, hA⟩
theorem PMo.lt (H : PMo V h pb base X tr E s W) : h < W.heap.size ∧ pb < W.heap.size := ⟨(Array.getElem?_eq_some_iff.1 H.1).1, (Array.getElem?_eq_some_iff.1 H.2.2.2.1).1⟩
theorem PMo.cells (H : PMo V h pb base X tr E s W) : W.cell? ⟨h, 0, none⟩ = some (.slice s.1.1 X.length s.1.2) ∧ W.frozen? ⟨h, 0, none⟩ = false ∧ W.cell? ⟨pb, 0, none⟩ = some (.int .i64 base) ∧ W.cell? ⟨pb, 1, none⟩ = some (.slice s.2.2.1.1 E.length s.2.2.1.2) ∧ W.cell? ⟨pb, 2, none⟩ = some (.slice s.2.2.2.1 E.length s.2.2.2.2) ∧ ∀ j, W.frozen? ⟨pb, j, none⟩ = false := by
  obtain ⟨h0, _, _, h3, _⟩ := H
  exact ⟨by simp [World.cell?, h0], frozen_of_row _ _ _ _ _ h0, by simp [World.cell?, h3], by simp [World.cell?, h3], by simp [World.cell?, h3], fun j => frozen_of_row _ _ j _ _ h3⟩
theorem PMo.ne (H : PMo V h pb base X tr E s W) : h ≠ pb := fun e => by
  obtain ⟨h0, _, _, h3, _⟩ := H
  rw [e, h3] at h0
  simp at h0
/-- A row stays where its block does. -/
theorem row_stayB {W W' : World} {B n c s : Nat} {p : Option Addr} {e : TypeId} {vs : List Value} (h : W.ownsRow B e s (.slice p n c) n vs) (hb : ∀ g, Value.ownBlock (.slice p n c) = some g → W'.heap[g]? = W.heap[g]?) : W'.ownsRow B e s (.slice p n c) n vs := ⟨h.1, by
  rcases h.2 with h' | ⟨g, cap, cur, hv, hB, hg, r⟩
  · exact .inl h'
  · exact .inr ⟨g, cap, cur, hv, hB, (hb g (by rw [hv]; rfl)).trans hg, r⟩⟩
theorem PMo.blocks (H : PMo V h pb base X tr E s W) : (∀ g, bl s.1 = some g → g ≠ h ∧ g ≠ pb ∧ bl s.2.1 ≠ some g ∧ bl s.2.2.1 ≠ some g ∧ bl s.2.2.2 ≠ some g ∧ V.heap.size ≤ g ∧ g < W.heap.size) ∧ (∀ g, bl s.2.1 = some g → g ≠ h ∧ g ≠ pb ∧ V.heap.size ≤ g ∧ g < W.heap.size) ∧ (∀ g, bl s.2.2.1 = some g → g ≠ h ∧ g ≠ pb ∧ V.heap.size ≤ g ∧ g < W.heap.size) ∧ (∀ g, bl s.2.2.2 = some g → g ≠ h ∧ g ≠ pb ∧ V.heap.size ≤ g ∧ g < W.heap.size) := by
  obtain ⟨h0, ⟨_, rs, _, hr, _⟩, h2, h3, h4, h5, _, _, _⟩ := H
  have r1 := hr
  have r2 := h2.2
  have r3 := h4.2
  have r4 := h5.2
  refine ⟨fun g e => ?_, fun g e => ?_, fun g e => ?_, fun g e => ?_⟩
  · have e' : Value.ownBlock (.slice s.1.1 X.length s.1.2) = some g := (bl_of _ _).trans e
    exact ⟨fun x => row_ne2 r1 h0 (by decide) (x ▸ e'), fun x => row_ne2 r1 h3 (by decide) (x ▸ e'), fun x => row_ne3 r1 r2 (by decide) e' ((bl_of _ _).trans x), fun x => row_ne3 r1 r3 (by decide) e' ((bl_of _ _).trans x), fun x => row_ne3 r1 r4 (by decide) e' ((bl_of _ _).trans x), r1.lt g e'⟩
  · have e' : Value.ownBlock (.slice s.2.1.1 tr.length s.2.1.2) = some g := (bl_of _ _).trans e
    exact ⟨fun x => row_ne2 r2 h0 (by decide) (x ▸ e'), fun x => row_ne2 r2 h3 (by decide) (x ▸ e'), r2.lt g e'⟩
  · have e' : Value.ownBlock (.slice s.2.2.1.1 E.length s.2.2.1.2) = some g := (bl_of _ _).trans e
    exact ⟨fun x => row_ne2 r3 h0 (by decide) (x ▸ e'), fun x => row_ne2 r3 h3 (by decide) (x ▸ e'), r3.lt g e'⟩
  · have e' : Value.ownBlock (.slice s.2.2.2.1 E.length s.2.2.2.2) = some g := (bl_of _ _).trans e
    exact ⟨fun x => row_ne2 r4 h0 (by decide) (x ▸ e'), fun x => row_ne2 r4 h3 (by decide) (x ▸ e'), r4.lt g e'⟩
/-- append of a cell, its text in V. -/
theorem app_cellM (V w : World) (ty : TypeId) (p : Option Addr) (n cc : Nat) (X : List Cel) (hrow : RowC V w p n cc X) (hV : V.heap.size ≤ w.heap.size) (b : Nat) (d : Cel) (tp : Option Addr) (tc : Nat) (ht : BIn V tp d.2.2) (hbox : Box3 w b (.int .i64 d.1) (.int .i64 d.2.1) (.slice tp d.2.2.length tc)) (hlen : n + 1 ≤ 1000000000) :
    ∃ g cap w', (Builtin.append_ #[34, 34] ty #[.slice p n cc, .slice (some ⟨b, 0, none⟩) 1 1]).run Try.prog w = .ok (.slice (some ⟨g, 0, none⟩) (n + 1) cap) w' ∧ RowC V w' (some ⟨g, 0, none⟩) (n + 1) cap (X ++ [d]) ∧ w.grownBy w' (Value.ownBlock (.slice p n cc)) ∧ (Value.ownBlock (.slice p n cc) = some g ∨ g = w.heap.size) := by
  obtain ⟨i0, hi, hz0, hz1, hz2⟩ := info_parts infoCelM
  obtain ⟨hn, rs, hl, hr, hf⟩ := hrow
  obtain ⟨g, cap, w', hrun, hown', hgrow, hat, _⟩ := run_append_lies (P := Try.prog) w 34 ty V.heap.size 31 i0 (.agg #[.int .i64 0, .int .i64 0, .slice none 0 0]) 3 40 Try.underlying34 hi hz0 hz1 hz2 rfl (by decide) (.slice p n cc) n (flat rs) hr ⟨b, 0, none⟩ 1 1 (rcV (d.1, d.2.1, tp, d.2.2.length, tc)) rfl (news_rc (r := (d.1, d.2.1, tp, d.2.2.length, tc)) hbox) (rcV_one _) (by decide) (by unfold maxLen; omega) (by omega) hV w.heap.size rfl
  refine ⟨g, cap, w', hrun, ⟨by simp [hn], rs ++ [(d.1, d.2.1, tp, d.2.2.length, tc)], by simp [hl], ?_, fun i hi => ?_⟩, hgrow, hat⟩
  · rw [flat_append]
    have e : flat [(d.1, d.2.1, tp, d.2.2.length, tc)] = rcV (d.1, d.2.1, tp, d.2.2.length, tc) := by simp [flat]
    rw [e]; exact hown'
  · rw [List.length_append, List.length_singleton] at hi
    by_cases h1 : i < X.length
    · have e1 : (rs ++ [(d.1, d.2.1, tp, d.2.2.length, tc)]).getD i RC.zero = rs.getD i RC.zero := by simp [List.getD, List.getElem?_append_left (show i < rs.length by omega)]
      have e2 : (X ++ [d]).getD i Cel.none = X.getD i Cel.none := by simp [List.getD, List.getElem?_append_left h1]
      rw [e1, e2]; exact hf i h1
    · have h2 : i = X.length := by omega
      have e1 : (rs ++ [(d.1, d.2.1, tp, d.2.2.length, tc)]).getD i RC.zero = (d.1, d.2.1, tp, d.2.2.length, tc) := by rw [h2, ← hl]; simp [List.getD]
      have e2 : (X ++ [d]).getD i Cel.none = d := by rw [h2]; simp [List.getD]
      rw [e1, e2]; exact ⟨rfl, rfl, rfl, ht⟩
/-- The cells were grown. -/
theorem PMo.growC (H : PMo V h pb base X tr E s W) {g cap : Nat} {d : Cel} (hrow : RowC V W' (some ⟨g, 0, none⟩) (X.length + 1) cap (X ++ [d])) (hg : W.grownBy W' (Value.ownBlock (.slice s.1.1 X.length s.1.2))) (hat : Value.ownBlock (.slice s.1.1 X.length s.1.2) = some g ∨ g = W.heap.size) :
    PMo V h pb base (X ++ [d]) tr E ((some ⟨g, 0, none⟩, cap), s.2) (W'.setCell ⟨h, 0, none⟩ (.slice (some ⟨g, 0, none⟩) (X.length + 1) cap)) ∧ FrT h pb s ((some ⟨g, 0, none⟩, cap), s.2) W (W'.setCell ⟨h, 0, none⟩ (.slice (some ⟨g, 0, none⟩) (X.length + 1) cap)) := by
  obtain ⟨hl, hlp⟩ := H.lt
  have hne := H.ne
  obtain ⟨B1, B2, B3, B4⟩ := H.blocks
  obtain ⟨h0, h1, h2, h3, h4, h5, ⟨h6, h7, h8⟩, h9, hA⟩ := H
  have hgs := hg.size
  have hgb : g ≠ h := fun e => by
    rcases hat with x | x
    · exact (B1 g ((bl_of _ _).symm.trans x)).1 e
    · omega
  have stay : ∀ k, k < W.heap.size → k ≠ h → bl s.1 ≠ some k → (W'.setCell ⟨h, 0, none⟩ (.slice (some ⟨g, 0, none⟩) (X.length + 1) cap)).heap[k]? = W.heap[k]? := fun k hk hkh hb => by
    rw [heap_setCell_other _ _ _ _ hkh]
    exact hg.block k hk (fun e => hb ((bl_of _ _).symm.trans e.symm))
  have hh : W'.heap[h]? = W.heap[h]? := hg.block h hl (fun e => (B1 h ((bl_of _ _).symm.trans e.symm)).1 rfl)
  have int : ∀ {p : Option Addr} {n c : Nat} {ys : List Int}, OwnI W V.heap.size 3 p n c ys → (∀ k, bl (p, c) = some k → k ≠ h ∧ bl s.1 ≠ some k ∧ k < W.heap.size) → OwnI (W'.setCell ⟨h, 0, none⟩ (.slice (some ⟨g, 0, none⟩) (X.length + 1) cap)) V.heap.size 3 p n c ys := fun ho hb => ⟨ho.1, row_stayB ho.2 (fun k hk => by
    obtain ⟨q1, q2, q3⟩ := hb k ((bl_of (_, _) _).symm.trans hk)
    exact stay k q3 q1 q2)⟩
  refine ⟨⟨?_, ?_, int h2 (fun k hk => ⟨(B2 k hk).1, fun e => (B1 k e).2.2.1 hk, (B2 k hk).2.2.2⟩), ?_, int h4 (fun k hk => ⟨(B3 k hk).1, fun e => (B1 k e).2.2.2.1 hk, (B3 k hk).2.2.2⟩), int h5 (fun k hk => ⟨(B4 k hk).1, fun e => (B1 k e).2.2.2.2.1 hk, (B4 k hk).2.2.2⟩), ⟨h6, h7, ?_⟩, h9, hA⟩, ?_, ?_, ?_, ?_, ?_, rfl⟩
  · rw [heap_setCell_same _ _ _ _ _ _ (hh.trans h0), List.length_append]; rfl
  · obtain ⟨hn, rs, hrl, hr, hf⟩ := hrow
    rw [List.length_append]
    exact ⟨by simp, rs, hrl, ownsRow_setCell_other hr (by simp [Value.ownBlock]; exact hgb) _, hf⟩
  · exact (stay pb hlp (fun e => hne e.symm) (fun e => (B1 pb e).2.1 rfl)).trans h3
  · exact (h8.grown hg (by omega) (fun k hk => (B1 k ((bl_of _ _).symm.trans hk)).2.2.2.2.2.1)).setCell (p := ⟨h, 0, none⟩) h6 _
  · simpa using hgs
  · exact fun k hk k1 k2 k3 _ _ => stay k hk k1 k3
  · intro k e
    simp only [bl, Value.ownBlock, Option.some.injEq] at e
    rcases hat with x | x
    · exact .inl (by rw [← e]; exact (bl_of _ _).symm.trans x)
    · exact .inr (by omega)
  · exact fun k e => .inl e
  · exact fun k e => .inl e
/-- A name was noted. -/
theorem PMo.growN (H : PMo V h pb base X tr E s W) {g cap : Nat} {x a : Int} (ho : OwnI W' V.heap.size 3 (some ⟨g, 0, none⟩) (E.length + 1) cap (E.map Prod.fst ++ [x])) (hg : W.grownBy W' (Value.ownBlock (.slice s.2.2.1.1 E.length s.2.2.1.2))) (hat : Value.ownBlock (.slice s.2.2.1.1 E.length s.2.2.1.2) = some g ∨ g = W.heap.size)
    {W2 : World} (e2 : W2 = W'.setCell ⟨pb, 1, none⟩ (.slice (some ⟨g, 0, none⟩) (E.length + 1) cap)) {g2 cap2 : Nat} {W3 : World} (hb2 : Below W2.heap.size W2 W3) {W4 : World} (ho2 : OwnI W4 V.heap.size 3 (some ⟨g2, 0, none⟩) (E.length + 1) cap2 (E.map Prod.snd ++ [a])) (hg2 : W3.grownBy W4 (Value.ownBlock (.slice s.2.2.2.1 E.length s.2.2.2.2))) (hat2 : Value.ownBlock (.slice s.2.2.2.1 E.length s.2.2.2.2) = some g2 ∨ g2 = W3.heap.size) :
    PMo V h pb base X tr (E ++ [(x, a)]) (s.1, s.2.1, (some ⟨g, 0, none⟩, cap), (some ⟨g2, 0, none⟩, cap2)) (W4.setCell ⟨pb, 2, none⟩ (.slice (some ⟨g2, 0, none⟩) (E.length + 1) cap2)) ∧ FrT h pb s (s.1, s.2.1, (some ⟨g, 0, none⟩, cap), (some ⟨g2, 0, none⟩, cap2)) W (W4.setCell ⟨pb, 2, none⟩ (.slice (some ⟨g2, 0, none⟩) (E.length + 1) cap2)) := by
  obtain ⟨hl, hlp⟩ := H.lt
  have hne := H.ne
  obtain ⟨B1, B2, B3, B4⟩ := H.blocks
  obtain ⟨h0, h1, h2, h3, h4, h5, ⟨h6, h7, h8⟩, h9, hA⟩ := H
  have hgs := hg.size
  have hs2 : W2.heap.size = W'.heap.size := by rw [e2]; simp
  have hbs := hb2.size
  have hgs2 := hg2.size
  have hgl : g < W'.heap.size := (ho.2.lt g rfl).2
  have hgp : g ≠ pb ∧ g ≠ h ∧ bl s.1 ≠ some g ∧ bl s.2.1 ≠ some g ∧ bl s.2.2.2 ≠ some g := by
    rcases hat with x | x
    · have x' : bl s.2.2.1 = some g := (bl_of _ _).symm.trans x
      exact ⟨(B3 g x').2.1, (B3 g x').1, fun e => (B1 g e).2.2.2.1 x', (h9 g x').1, (h9 g x').2⟩
    · refine ⟨by omega, by omega, fun e => ?_, fun e => ?_, fun e => ?_⟩
      · have := (B1 g e).2.2.2.2.2.2; omega
      · have := (B2 g e).2.2.2; omega
      · have := (B4 g e).2.2.2; omega
  have hg2p : g2 ≠ pb ∧ g2 ≠ h ∧ bl s.1 ≠ some g2 ∧ bl s.2.1 ≠ some g2 ∧ g2 ≠ g := by
    rcases hat2 with x | x
    · have x' : bl s.2.2.2 = some g2 := (bl_of _ _).symm.trans x
      exact ⟨(B4 g2 x').2.1, (B4 g2 x').1, fun e => (B1 g2 e).2.2.2.2.1 x', hA g2 x', fun e => hgp.2.2.2.2 (e ▸ x')⟩
    · refine ⟨by omega, by omega, fun e => ?_, fun e => ?_, by omega⟩
      · have := (B1 g2 e).2.2.2.2.2.2; omega
      · have := (B2 g2 e).2.2.2; omega
  -- a block of W that is neither pb nor one of the two rows
  have stay : ∀ k, k < W.heap.size → k ≠ pb → bl s.2.2.1 ≠ some k → bl s.2.2.2 ≠ some k → (W4.setCell ⟨pb, 2, none⟩ (.slice (some ⟨g2, 0, none⟩) (E.length + 1) cap2)).heap[k]? = W.heap[k]? := fun k hk hkp hb1 hb22 => by
    rw [heap_setCell_other _ _ _ _ hkp, hg2.block k (by omega) (fun e => hb22 ((bl_of _ _).symm.trans e.symm)), hb2.block k (by omega), e2, heap_setCell_other _ _ _ _ hkp]
    exact hg.block k hk (fun e => hb1 ((bl_of _ _).symm.trans e.symm))
  have hp1 : W'.heap[pb]? = W.heap[pb]? := hg.block pb hlp (fun e => (B3 pb ((bl_of _ _).symm.trans e.symm)).2.1 rfl)
  have hp2 : W2.heap[pb]? = some (.cells #[.int .i64 base, .slice (some ⟨g, 0, none⟩) (E.length + 1) cap, .slice s.2.2.2.1 E.length s.2.2.2.2] 149) := by rw [e2, heap_setCell_same _ _ _ _ _ _ (hp1.trans h3)]; rfl
  have hp4 : W4.heap[pb]? = some (.cells #[.int .i64 base, .slice (some ⟨g, 0, none⟩) (E.length + 1) cap, .slice s.2.2.2.1 E.length s.2.2.2.2] 149) := by
    rw [hg2.block pb (by omega) (fun e => (B4 pb ((bl_of _ _).symm.trans e.symm)).2.1 rfl), hb2.block pb (by omega)]; exact hp2
  have hg4 : (W4.setCell ⟨pb, 2, none⟩ (.slice (some ⟨g2, 0, none⟩) (E.length + 1) cap2)).heap[g]? = W'.heap[g]? := by
    rw [heap_setCell_other _ _ _ _ hgp.1, hg2.block g (by omega) (fun e => hgp.2.2.2.2 ((bl_of _ _).symm.trans e.symm)), hb2.block g (by omega), e2, heap_setCell_other _ _ _ _ hgp.1]
  have hle : (E ++ [(x, a)]).length = E.length + 1 := by simp
  refine ⟨⟨?_, ?_, ?_, ?_, ?_, ?_, ⟨h6, h7, ?_⟩, fun k e => ?_, fun k e => ?_⟩, by simp; omega, fun k hk k1 k2 k3 k4 k5 => stay k hk k2 k4 k5, fun k e => .inl e, fun k e => ?_, fun k e => ?_, rfl⟩
  · exact (stay h hl hne (fun e => (B3 h e).1 rfl) (fun e => (B4 h e).1 rfl)).trans h0
  · obtain ⟨hn, rs, hrl, hr, hf⟩ := h1
    exact ⟨hn, rs, hrl, row_stayB hr (fun k hk => by
      have hk' := (bl_of _ _).symm.trans hk
      obtain ⟨_, q2, _, q4, q5, _, q7⟩ := B1 k hk'
      exact stay k q7 q2 q4 q5), hf⟩
  · exact ⟨h2.1, row_stayB h2.2 (fun k hk => by
      have hk' := (bl_of _ _).symm.trans hk
      obtain ⟨_, q2, _, q4⟩ := B2 k hk'
      exact stay k q4 q2 (fun e => (h9 k e).1 hk') (fun e => hA k e hk'))⟩
  · rw [heap_setCell_same _ _ _ _ _ _ hp4, hle]; rfl
  · rw [hle]
    have e1 : (E ++ [(x, a)]).map Prod.fst = E.map Prod.fst ++ [x] := by simp
    rw [e1]
    exact ⟨by simp, row_stayB ho.2 (fun k hk => by
      simp only [Value.ownBlock, Option.some.injEq] at hk
      subst hk
      exact hg4)⟩
  · rw [hle]
    have e1 : (E ++ [(x, a)]).map Prod.snd = E.map Prod.snd ++ [a] := by simp
    rw [e1]
    exact ⟨by simp, ownsRow_setCell_other ho2.2 (by simp [Value.ownBlock]; exact hg2p.1) _⟩
  · have hB4 : Below V.heap.size V W' := h8.grown hg (by omega) (fun k hk => (B3 k ((bl_of _ _).symm.trans hk)).2.2.1)
    have hB2 : Below V.heap.size V W2 := by rw [e2]; exact hB4.setCell (p := ⟨pb, 1, none⟩) h7 _
    exact ((hB2.trans (hb2.mono (by omega))).grown hg2 (by omega) (fun k hk => (B4 k ((bl_of _ _).symm.trans hk)).2.2.1)).setCell (p := ⟨pb, 2, none⟩) h7 _
  · simp only [bl, Value.ownBlock, Option.some.injEq] at e
    subst e
    exact ⟨hgp.2.2.2.1, fun e => by simp only [bl, Value.ownBlock, Option.some.injEq] at e; exact hg2p.2.2.2.2 e⟩
  · simp only [bl, Value.ownBlock, Option.some.injEq] at e
    subst e
    exact hg2p.2.2.2.1
  · simp only [bl, Value.ownBlock, Option.some.injEq] at e
    rcases hat with x | x
    · exact .inl (by rw [← e]; exact (bl_of _ _).symm.trans x)
    · exact .inr (by omega)
  · simp only [bl, Value.ownBlock, Option.some.injEq] at e
    rcases hat2 with x | x
    · exact .inl (by rw [← e]; exact (bl_of _ _).symm.trans x)
    · exact .inr (by omega)
/-- A cell elsewhere was set. -/
theorem FrT.set {s' : Sl8} (F : FrT h pb s s' W W') {a : Addr} (ha : W.heap.size ≤ a.block) (v : Value) : FrT h pb s s' W (W'.setCell a v) :=
  ⟨by simpa using F.1, fun k hk k1 k2 k3 k4 k5 => (heap_setCell_other _ _ _ _ (by omega)).trans (F.2.1 k hk k1 k2 k3 k4 k5), F.2.2⟩
/-- A block that is none of the heap's. -/
def Aside (h pb : Nat) (s : Sl8) (b : Nat) : Prop := b ≠ h ∧ b ≠ pb ∧ bl s.1 ≠ some b ∧ bl s.2.1 ≠ some b ∧ bl s.2.2.1 ≠ some b ∧ bl s.2.2.2 ≠ some b
theorem PMo.new (H : PMo V h pb base X tr E s W) {b : Nat} (hb : W.heap.size ≤ b) : Aside h pb s b := by
  obtain ⟨B1, B2, B3, B4⟩ := H.blocks
  have := H.lt
  refine ⟨by omega, by omega, fun e => ?_, fun e => ?_, fun e => ?_, fun e => ?_⟩
  · have := (B1 b e).2.2.2.2.2.2; omega
  · have := (B2 b e).2.2.2; omega
  · have := (B3 b e).2.2.2; omega
  · have := (B4 b e).2.2.2; omega
theorem Aside.fr {s' : Sl8} {b : Nat} (A : Aside h pb s b) (F : FrT h pb s s' W W') (hb : b < W.heap.size) : Aside h pb s' b ∧ W'.heap[b]? = W.heap[b]? := by
  obtain ⟨a0, a1, a2, a3, a4, a5⟩ := A
  obtain ⟨f0, f1, f2, f3, f4, f5⟩ := F
  refine ⟨⟨a0, a1, fun e => ?_, by rw [f5]; exact a3, fun e => ?_, fun e => ?_⟩, f1 b hb a0 a1 a2 a4 a5⟩
  · rcases f2 b e with e | e
    · exact a2 e
    · omega
  · rcases f3 b e with e | e
    · exact a4 e
    · omega
  · rcases f4 b e with e | e
    · exact a5 e
    · omega
theorem PMo.aside (H : PMo V h pb base X tr E s W) {a : Addr} (A : Aside h pb s a.block) (hV : V.heap.size ≤ a.block) (v : Value) : PMo V h pb base X tr E s (W.setCell a v) := by
  obtain ⟨a0, a1, a2, a3, a4, a5⟩ := A
  obtain ⟨h0, ⟨hn, rs, hrl, hr, hf⟩, h2, h3, h4, h5, ⟨h6, h7, h8⟩, h9, hA⟩ := H
  exact ⟨(heap_setCell_other _ _ _ _ (fun e => a0 e.symm)).trans h0, ⟨hn, rs, hrl, ownsRow_setCell_other hr (fun e => a2 ((bl_of _ _).symm.trans e)) _, hf⟩, ⟨h2.1, ownsRow_setCell_other h2.2 (fun e => a3 ((bl_of _ _).symm.trans e)) _⟩, (heap_setCell_other _ _ _ _ (fun e => a1 e.symm)).trans h3,
    ⟨h4.1, ownsRow_setCell_other h4.2 (fun e => a4 ((bl_of _ _).symm.trans e)) _⟩, ⟨h5.1, ownsRow_setCell_other h5.2 (fun e => a5 ((bl_of _ _).symm.trans e)) _⟩, ⟨h6, h7, h8.setCell hV _⟩, h9, hA⟩
/-- Between the two notes. -/
theorem PMo.midN (H : PMo V h pb base X tr E s W) (hg : W.grownBy W' (Value.ownBlock (.slice s.2.2.1.1 E.length s.2.2.1.2))) (v : Value) {W2 : World} (e2 : W2 = W'.setCell ⟨pb, 1, none⟩ v) : OwnI W2 V.heap.size 3 s.2.2.2.1 E.length s.2.2.2.2 (E.map Prod.snd) ∧ W2.cell? ⟨pb, 2, none⟩ = some (.slice s.2.2.2.1 E.length s.2.2.2.2) ∧ W2.frozen? ⟨pb, 2, none⟩ = false ∧ V.heap.size ≤ W2.heap.size ∧ pb < W2.heap.size := by
  obtain ⟨hl, hlp⟩ := H.lt
  obtain ⟨B1, B2, B3, B4⟩ := H.blocks
  obtain ⟨h0, h1, h2, h3, h4, h5, ⟨h6, h7, h8⟩, h9, hA⟩ := H
  have hgs := hg.size
  have hp1 : W'.heap[pb]? = W.heap[pb]? := hg.block pb hlp (fun e => (B3 pb ((bl_of _ _).symm.trans e.symm)).2.1 rfl)
  have hp2 : W2.heap[pb]? = some (.cells #[.int .i64 base, v, .slice s.2.2.2.1 E.length s.2.2.2.2] 149) := by rw [e2, heap_setCell_same _ _ _ _ _ _ (hp1.trans h3)]; rfl
  have hs2 : W2.heap.size = W'.heap.size := by rw [e2]; simp
  refine ⟨⟨h5.1, row_stayB h5.2 (fun k hk => ?_)⟩, by simp [World.cell?, hp2], frozen_of_row _ _ _ _ _ hp2, by have := h8.size; omega, by omega⟩
  have hk' := (bl_of _ _).symm.trans hk
  rw [e2, heap_setCell_other _ _ _ _ (B4 k hk').2.1]
  exact hg.block k (B4 k hk').2.2.2 (fun e => (h9 k ((bl_of _ _).symm.trans e.symm)).2 hk')
end

end Go.Proofs.Ytedkkghekboahaa

namespace Go.Proofs.Ytedkkghekboahaa
open Go Go.RowKit Go.Maps
set_option linter.unusedVariables false

theorem tail_storeM {P : Program} {ops : Array Oper} {Q : Exit → Act → World → Prop} {p q : Nat} {o o2 : Oper} {a : Act} {w w' : World} {v : Value} (d : Option Tmp) (hi : ops[p]? = some o) (hd : o.dst = d) (hg : o.guard = none) (hr : (execOp a.eval o).run P w = .ok (.value v) w) (hi2 : ops[q]? = some o2) (hg2 : o2.guard = none) (hd2 : o2.dst = none)
    (hr2 : (execOp (a.put d v).eval o2).run P w = .ok .skip w') (h : Q .normal (a.put d v) w') : RestQ Q (wpOp P ops Q p (wpOp P ops Q q (Q .normal))) .normal a w := by
  subst hd
  show wpOp P ops Q p (wpOp P ops Q q (Q .normal)) a w
  exact op_valT hi hg hr (op_skipS hi2 hg2 hd2 hr2 h)
theorem exec_appM {a : Act} {o : Oper} {s x : Operand} {t u : TypeId} {w w' : World} {v y r : Value} (ho : o.op = .call { callee := .builtin .append, args := #[s, x], argTypes := #[t, u] }) (hs : a.eval s = v) (hx : a.eval x = y)
    (hr : (Builtin.append_ #[t, u] o.type #[v, y]).run Try.prog w = .ok r w') : (execOp a.eval o).run Try.prog w = .ok (.value r) w' := by
  unfold execOp
  simp only [ho, resolve, invoke, builtin, Sem.run_bind, Sem.run_pure, Result.andThen_ok, List.map_toArray, List.map_cons, List.map_nil, hs, hx, hr]
theorem app_intN (w : World) (ty : TypeId) (B : Nat) (pt : Option Addr) (n ct b : Nat) (tr : List Int) (z : Int) (hl : n ≤ 1000000) (hB : B ≤ w.heap.size) (ho : OwnI w B 3 pt n ct tr) (hz : w.cell? ⟨b, 0, none⟩ = some (.int .i64 z)) :
    ∃ g cap w1, (Builtin.append_ #[23, 23] ty #[.slice pt n ct, .slice (some ⟨b, 0, none⟩) 1 1]).run Try.prog w = .ok (.slice (some ⟨g, 0, none⟩) (n + 1) cap) w1 ∧ OwnI w1 B 3 (some ⟨g, 0, none⟩) (n + 1) cap (tr ++ [z]) ∧ w.grownBy w1 (Value.ownBlock (.slice pt n ct)) ∧ (Value.ownBlock (.slice pt n ct) = some g ∨ g = w.heap.size) := by
  obtain ⟨i0, hi, hz0, hz1, hz2⟩ := info_parts infoInt
  obtain ⟨g', cap, w', hr, h2, h3, h4, _⟩ := run_append_lies (P := Try.prog) w 23 ty B 3 i0 (.int .i64 0) 1 8 Try.underlying23 hi hz0 hz1 hz2 rfl (by decide) (.slice pt n ct) n (tr.map (Value.int .i64)) ho.2 ⟨b, 0, none⟩ 1 1 [.int .i64 z] rfl
    (fun j u hj => by
      cases j with
      | zero => simp at hj; subst hj; rw [show (⟨b, 0, none⟩ : Addr).add 0 = ⟨b, 0 + 0, none⟩ from WideShapes.add_plain _ _ _]; exact hz
      | succ j => simp at hj) (ints_oneCell .i64 [z]) (by decide) (by unfold maxLen; omega) (by omega) hB _ rfl
  exact ⟨g', cap, w', hr, ⟨by simp [ho.1], by rw [List.map_append]; exact h2⟩, h3, h4⟩

set_option maxHeartbeats 2000000 in
set_option maxRecDepth 100000 in
theorem l10new_any (V : World) (h pb : Nat) (base : Int) (X : List Cel) (tr : List Int) (E : PSt) (s : Sl8) (W : World) (hX : X.length + 1 ≤ 1000000) (H : PMo V h pb base X tr E s W) :
    Calls Try.prog 108 #[.pointer (some ⟨h, 0, none⟩)] W fun e w' => e = .returned (.int .i64 (X.length : Nat)) ∧ ∃ s', PMo V h pb base (X ++ [(0, (X.length : Int), [])]) tr E s' w' ∧ FrT h pb s s' W w' := by
  obtain ⟨n0, en0⟩ : ∃ n0, n0 = X.length := ⟨_, rfl⟩
  obtain ⟨hc0, hf0, _⟩ := H.cells
  obtain ⟨⟨p0, c0⟩, s1⟩ := s
  simp only at hc0
  rw [← en0] at hc0 hX
  have HH : Hid (PMo V h pb base X tr E ((p0, c0), s1) W) := H
  have HN : Hid (n0 = X.length) := en0
  have HRF : Hid (∀ w, Calls Try.prog 79 #[.int .i64 (n0 : Nat)] w fun e w' => e = .returned (.agg #[.int .i64 0, .int .i64 (n0 : Nat), .slice none 0 0]) ∧ Below w.heap.size w w') := fun w => l10ref_any _ w
  have HLT : Hid (h < W.heap.size) := H.lt.1
  rw [← en0]
  clear H en0
  go_enter Try.func108, Try.ntmps108
  go_wp2_with fail
  refine wp_region_any (by kernel_rfl) ?_
  refine wpAny_tail (p := 10) (S := fun W => W.cell? ⟨h, 0, none⟩ = some (.slice p0 n0 c0)) (by kernel_rfl) 10 _ _ _ rfl (clo_start _ _ _) (by kernel_rfl) (by kernel_rfl) ?_
  change wpAnyH _ _ _ _ _ _ _ _ W.drew
  have hS0 : W.drew.cell? ⟨h, 0, none⟩ = some (.slice p0 n0 c0) := hc0
  refine hTake (i := 0) (v := .pointer (some ⟨h, 0, none⟩)) (some 9) (by kernel_rfl) (by kernel_rfl) (by kernel_rfl) (by kernel_rfl) (by kernel_rfl) (fun _ _ _ h => h) (fun o ho W hSw => ?y0) hS0 ?_
  case y0 =>
    cases ho
    simp [execOp, go_sem, Act.eval]
  simp only [Act.put, List.setIfInBounds_toArray, List.set_cons_zero, List.set_cons_succ]
  refine hTake (i := 1) (v := .pointer (some ⟨h, 0, none⟩)) (some 10) (by kernel_rfl) (by kernel_rfl) (by kernel_rfl) (by kernel_rfl) (by kernel_rfl) (fun _ _ _ h => h) (fun o ho W hSw => ?y1) hS0 ?_
  case y1 =>
    cases ho
    simp [execOp, go_sem, Act.eval]
  simp only [Act.put, List.setIfInBounds_toArray, List.set_cons_zero, List.set_cons_succ]
  refine hTake (i := 2) (v := .pointer (some ⟨h, 0, none⟩)) (some 11) (by kernel_rfl) (by kernel_rfl) (by kernel_rfl) (by kernel_rfl) (by kernel_rfl) (fun _ _ _ h => h) (fun o ho W hSw => ?y2) hS0 ?_
  case y2 =>
    cases ho
    simp [execOp, go_sem, Act.eval]
  simp only [Act.put, List.setIfInBounds_toArray, List.set_cons_zero, List.set_cons_succ]
  refine hTake (i := 3) (v := .pointer (some ⟨h, 0, none⟩)) (some 12) (by kernel_rfl) (by kernel_rfl) (by kernel_rfl) (by kernel_rfl) (by kernel_rfl) (fun _ _ _ h => h) (fun o ho W hSw => ?y3) hS0 ?_
  case y3 =>
    cases ho
    simp [execOp, go_sem, Act.eval]
  simp only [Act.put, List.setIfInBounds_toArray, List.set_cons_zero, List.set_cons_succ]
  refine hTake (i := 4) (v := .slice p0 n0 c0) (some 13) (by kernel_rfl) (by kernel_rfl) (by kernel_rfl) (by kernel_rfl) (by kernel_rfl) (fun _ _ _ h => h) (fun o ho W hSw => ?y4) hS0 ?_
  case y4 =>
    cases ho
    have t0 := hSw
    simp [execOp, go_sem, Act.eval, t0]
  simp only [Act.put, List.setIfInBounds_toArray, List.set_cons_zero, List.set_cons_succ]
  refine hTake (i := 5) (v := .int .i64 (n0 : Nat)) (some 14) (by kernel_rfl) (by kernel_rfl) (by kernel_rfl) (by kernel_rfl) (by kernel_rfl) (fun _ _ _ h => h) (fun o ho W hSw => ?y5) hS0 ?_
  case y5 =>
    cases ho
    simp [execOp, go_sem, Act.eval]
  simp only [Act.put, List.setIfInBounds_toArray, List.set_cons_zero, List.set_cons_succ]
  refine hCallE (i := 6) (f := 79) (args := #[.int .i64 (n0 : Nat)]) (some 15) (by kernel_rfl) (by kernel_rfl) (by kernel_rfl) (fun o ho => ?c6) (HRF.out _) ?k6 (fun ch w' hh => by cases hh.1) (fun w' hh => by cases hh.1)
  case c6 =>
    cases ho
    simp [execOp, go_sem, Act.eval]
  rintro u w3 ⟨hu, hb3⟩
  obtain rfl := Ending.returned.inj hu
  have hb3' : Below W.heap.size W w3 := ((Below.refl _ _).drew).trans hb3
  clear hu hb3 hS0
  have hS3 : w3.cell? ⟨h, 0, none⟩ = some (.slice p0 n0 c0) := (hb3'.cell (p := ⟨h, 0, none⟩) HLT.out).trans hc0
  refine ⟨hS3, ?_⟩
  simp only [Act.put, List.setIfInBounds_toArray, List.set_cons_zero, List.set_cons_succ]
  have hbA : Below W.heap.size W (w3.alloc (.cells #[.int .i64 0, .int .i64 (n0 : Nat), .slice none 0 0] 31)) := Below.on hb3' (alloc_on _ _)
  refine hStep (i := 7) (v := .slice (some ⟨w3.heap.size, 0, none⟩) 1 1) (w' := w3.alloc (.cells #[.int .i64 0, .int .i64 (n0 : Nat), .slice none 0 0] 31)) (some 16) (by kernel_rfl) (by kernel_rfl) (by kernel_rfl) (fun o ho => ?y7) ((hbA.cell (p := ⟨h, 0, none⟩) HLT.out).trans hc0) ?_
  case y7 =>
    cases ho
    simp [execOp, go_sem, Act.eval]
  simp only [Act.put, List.setIfInBounds_toArray, List.set_cons_zero, List.set_cons_succ]
  have hbx : Box3 (w3.alloc (.cells #[.int .i64 0, .int .i64 (n0 : Nat), .slice none 0 0] 31)) w3.heap.size (.int .i64 0) (.int .i64 (n0 : Nat)) (.slice none 0 0) := Box3.of_block (t := 31) (heap_alloc_new _ _)
  generalize w3.alloc (.cells #[.int .i64 0, .int .i64 (n0 : Nat), .slice none 0 0] 31) = W4 at hbA hbx ⊢
  have H4 : PMo V h pb base X tr E ((p0, c0), s1) W4 := HH.out.below hbA
  have hrow := H4.2.1
  simp only at hrow
  rw [← HN.out] at hrow
  obtain ⟨g5, cap5, w5, hr5, hrow5, hg5, hat5⟩ := app_cellM V W4 34 p0 n0 c0 X hrow H4.2.2.2.2.2.2.1.2.2.size w3.heap.size (0, ((n0 : Nat) : Int), []) none 0 (fun hh => absurd hh (Nat.lt_irrefl 0)) hbx (by omega)
  have hS5 : w5.cell? ⟨h, 0, none⟩ = some (.slice p0 n0 c0) := by
    have hb := hg5.block h H4.lt.1 (fun e => (H4.blocks.1 h ((bl_of (p0, c0) _).symm.trans e.symm)).1 rfl)
    rw [World.cell?_of_block (a := ⟨h, 0, none⟩) hb]
    have := H4.cells.1
    simp only at this
    rw [← HN.out] at this
    exact this
  refine hStep (i := 8) (v := .slice (some ⟨g5, 0, none⟩) (n0 + 1) cap5) (w' := w5) (some 17) (by kernel_rfl) (by kernel_rfl) (by kernel_rfl) (fun o ho => ?y8) hS5 ?_
  case y8 =>
    cases ho
    exact exec_appM rfl rfl rfl hr5
  simp only [Act.put, List.setIfInBounds_toArray, List.set_cons_zero, List.set_cons_succ]
  refine hTake (i := 9) (v := .pointer (some ⟨h, 0, none⟩)) (some 18) (by kernel_rfl) (by kernel_rfl) (by kernel_rfl) (by kernel_rfl) (by kernel_rfl) (fun _ _ _ h => h) (fun o ho W hSw => ?y9) hS5 ?_
  case y9 =>
    cases ho
    simp [execOp, go_sem, Act.eval]
  simp only [Act.put, List.setIfInBounds_toArray, List.set_cons_zero, List.set_cons_succ]
  refine wpAnyH_done (by kernel_rfl) ?_ _
  have f5 : w5.frozen? ⟨h, 0, none⟩ = false := by
    have hb := hg5.block h H4.lt.1 (fun e => (H4.blocks.1 h ((bl_of (p0, c0) _).symm.trans e.symm)).1 rfl)
    rw [World.frozen?_of_block (a := ⟨h, 0, none⟩) hb]
    exact H4.cells.2.1
  obtain ⟨q1, q2⟩ := H4.growC (g := g5) (cap := cap5) (d := (0, ((n0 : Nat) : Int), [])) (W' := w5) (by rw [← HN.out]; exact hrow5) (by simp only; rw [← HN.out]; exact hg5) (by simp only; rw [← HN.out]; exact hat5)
  rw [← HN.out] at q1 q2
  have HQ : Hid (∃ s', PMo V h pb base (X ++ [(0, ((n0 : Nat) : Int), [])]) tr E s' (w5.setCell ⟨h, 0, none⟩ (.slice (some ⟨g5, 0, none⟩) (n0 + 1) cap5)) ∧ FrT h pb ((p0, c0), s1) s' W (w5.setCell ⟨h, 0, none⟩ (.slice (some ⟨g5, 0, none⟩) (n0 + 1) cap5))) := ⟨_, q1, (FrT.of_below hbA).trans q2⟩
  refine tail_storeM (some 19) (by rfl) (by rfl) (by rfl) (v := .pointer (some ⟨h, 0, none⟩)) ?_ (by rfl) (by rfl) (by rfl) (w' := w5.setCell ⟨h, 0, none⟩ (.slice (some ⟨g5, 0, none⟩) (n0 + 1) cap5)) ?_ ?_
  · simp [execOp, go_sem, Act.eval]
  · simp [execOp, go_sem, Act.eval, Act.put, hS5, f5]
  simp only [Act.put, List.setIfInBounds_toArray, List.set_cons_zero, List.set_cons_succ]
  clear hS5 hr5 hrow5 hg5 hat5 f5 H4 hrow hbA hbx q1 q2 hc0 hf0 hb3' hS3
  go_wp2
  first | exact ⟨rfl, HQ.out⟩ | (go_ret; exact ⟨rfl, HQ.out⟩)

end Go.Proofs.Ytedkkghekboahaa

namespace Go.Proofs.Ytedkkghekboahaa
open Go Go.RowKit Go.Maps
set_option linter.unusedVariables false

/-- What l10term answers. -/
def TmOut (V : World) (h pb : Nat) (base : Int) (X : List Cel) (tr : List Int) (s : Sl8) (W : World) (A : Cel × List Cel × PSt) (e : Ending) (w' : World) : Prop :=
  ∃ tp tc, e = .returned (.agg #[.int .i64 A.1.1, .int .i64 A.1.2.1, .slice tp A.1.2.2.length tc]) ∧ BIn V tp A.1.2.2 ∧ ∃ s', PMo V h pb base (X ++ A.2.1) tr A.2.2 s' w' ∧ FrT h pb s s' W w'
theorem bin_nil (V : World) : BIn V none [] := fun hh => absurd hh (Nat.lt_irrefl 0)
/-- A leaf that puts nothing. -/
theorem TmOut.leaf {V : World} {h pb : Nat} {base : Int} {X : List Cel} {tr : List Int} {E : PSt} {s : Sl8} {W W' : World} (H : PMo V h pb base X tr E s W) (d : Cel) (tp : Option Addr) (tc : Nat) (ht : BIn V tp d.2.2) (hb : Below W.heap.size W W') : TmOut V h pb base X tr s W (d, [], E) (.returned (.agg #[.int .i64 d.1, .int .i64 d.2.1, .slice tp d.2.2.length tc])) W' :=
  ⟨tp, tc, rfl, ht, s, by simpa using H.below hb, FrT.of_below hb⟩
/-- Where a name is found. -/
theorem lookM_none : ∀ (E : PSt) (x : Int), look E x = none → findI (E.map Prod.fst) x = -1
  | [], x, _ => by simp [findI]
  | y :: r, x, h => by
    by_cases e : y.1 = x
    · simp [look, e] at h
    · have h' : look r x = none := by simpa [look, e] using h
      have := lookM_none r x h'
      unfold findI at this ⊢
      by_cases hm : x ∈ r.map Prod.fst
      · rw [if_pos hm] at this; omega
      · rw [if_neg]
        simp only [List.map_cons, List.mem_cons, not_or]
        exact ⟨fun q => e q.symm, hm⟩
theorem lookM_some : ∀ (E : PSt) (x u : Int), look E x = some u → ∃ k : Nat, findI (E.map Prod.fst) x = k ∧ k < E.length ∧ (E.map Prod.snd).getD k 0 = u
  | [], x, u, h => by simp [look] at h
  | y :: r, x, u, h => by
    by_cases e : y.1 = x
    · have hu : y.2 = u := by simpa [look, e] using h
      refine ⟨0, ?_, by simp, by simp [hu]⟩
      unfold findI
      rw [if_pos (by simp [e])]
      simp [e]
    · have h' : look r x = some u := by simpa [look, e] using h
      obtain ⟨k, h1, h2, h3⟩ := lookM_some r x u h'
      refine ⟨k + 1, ?_, by simp; omega, by simpa using h3⟩
      unfold findI at h1 ⊢
      by_cases hm : x ∈ r.map Prod.fst
      · rw [if_pos hm] at h1
        rw [if_pos (by simp; exact .inr (by simpa using hm))]
        simp only [List.map_cons, List.idxOf_cons, beq_eq_false_iff_ne.2 e, cond_false]
        omega
      · rw [if_neg hm] at h1; omega

set_option maxHeartbeats 2000000 in
set_option maxRecDepth 100000 in
theorem tm_num (V : World) (h pb : Nat) (base : Int) (X : List Cel) (tr : List Int) (E : PSt) (s : Sl8) (W : World) (x sl : Int) (t : List Int) (b o m cap : Nat) (tp : Option Addr) (tc : Nat) (hm : 0 < m) (hmm : m ≤ 1000000) (d0 : W.cell? ⟨b, o, none⟩ = some (.int .i64 1)) (d1 : W.cell? ⟨b, o + 1, none⟩ = some (.int .i64 x)) (d2 : W.cell? ⟨b, o + 2, none⟩ = some (.slice tp t.length tc)) (H : PMo V h pb base X tr E s W) :
    Calls Try.prog 95 #[.pointer (some ⟨h, 0, none⟩), .pointer (some ⟨pb, 0, none⟩), .slice (some ⟨b, o, none⟩) m cap, .int .i64 sl] W (TmOut V h pb base X tr s W ((1, x, []), [], E)) := by
  have HQ : Hid (∀ W', Below W.heap.size W W' → TmOut V h pb base X tr s W ((1, x, []), [], E) (.returned (.agg #[.int .i64 1, .int .i64 x, .slice none 0 0])) W') := fun W' hb => TmOut.leaf H (1, x, []) none 0 (bin_nil V) hb
  generalize TmOut V h pb base X tr s W ((1, x, []), [], E) = RR at HQ ⊢
  have hbb : b < W.heap.size := World.block_lt_of_cell? _ _ d0
  generalize t.length = tl at d2 HQ
  clear H
  go_enter Try.func95, Try.ntmps95
  go_wp2
  exact bodyPost_ret (v := .agg #[.int .i64 1, .int .i64 x, .slice none 0 0]) (by simp [results, Try.results95, go_sem]) rfl (HQ.out _ (((Below.refl _ _).alloc (Nat.le_refl _) _).alloc (by simp) _))

set_option maxHeartbeats 2000000 in
set_option maxRecDepth 100000 in
theorem tm_atom (V : World) (h pb : Nat) (base : Int) (X : List Cel) (tr : List Int) (E : PSt) (s : Sl8) (W : World) (x sl : Int) (t : List Int) (b o m cap : Nat) (tp : Option Addr) (tc : Nat) (hm : 0 < m) (hmm : m ≤ 1000000) (d0 : W.cell? ⟨b, o, none⟩ = some (.int .i64 2)) (d1 : W.cell? ⟨b, o + 1, none⟩ = some (.int .i64 x)) (d2 : W.cell? ⟨b, o + 2, none⟩ = some (.slice tp t.length tc)) (ht : BIn V tp t) (H : PMo V h pb base X tr E s W) :
    Calls Try.prog 95 #[.pointer (some ⟨h, 0, none⟩), .pointer (some ⟨pb, 0, none⟩), .slice (some ⟨b, o, none⟩) m cap, .int .i64 sl] W (TmOut V h pb base X tr s W ((2, 0, t), [], E)) := by
  have HQ : Hid (∀ W', Below W.heap.size W W' → TmOut V h pb base X tr s W ((2, 0, t), [], E) (.returned (.agg #[.int .i64 2, .int .i64 0, .slice tp t.length tc])) W') := fun W' hb => TmOut.leaf H (2, 0, t) tp tc ht hb
  generalize TmOut V h pb base X tr s W ((2, 0, t), [], E) = RR at HQ ⊢
  have hbb : b < W.heap.size := World.block_lt_of_cell? _ _ d0
  generalize t.length = tl at d2 HQ
  clear H
  go_enter Try.func95, Try.ntmps95
  go_wp2
  exact bodyPost_ret (v := .agg #[.int .i64 2, .int .i64 0, .slice tp tl tc]) (by simp [results, Try.results95, go_sem]) rfl (HQ.out _ (((Below.refl _ _).alloc (Nat.le_refl _) _).alloc (by simp) _))

set_option maxHeartbeats 4000000 in
set_option maxRecDepth 100000 in
theorem tm_old (V : World) (h pb : Nat) (base : Int) (X : List Cel) (tr : List Int) (E : PSt) (s : Sl8) (W : World) (x sl : Int) (t : List Int) (b o m cap : Nat) (tp : Option Addr) (tc : Nat) (hm : 0 < m) (hmm : m ≤ 1000000) (d0 : W.cell? ⟨b, o, none⟩ = some (.int .i64 0)) (d1 : W.cell? ⟨b, o + 1, none⟩ = some (.int .i64 x)) (d2 : W.cell? ⟨b, o + 2, none⟩ = some (.slice tp t.length tc)) (hx : x < base) (H : PMo V h pb base X tr E s W) :
    Calls Try.prog 95 #[.pointer (some ⟨h, 0, none⟩), .pointer (some ⟨pb, 0, none⟩), .slice (some ⟨b, o, none⟩) m cap, .int .i64 sl] W (TmOut V h pb base X tr s W ((0, x, []), [], E)) := by
  obtain ⟨tl, etl⟩ : ∃ tl, tl = t.length := ⟨_, rfl⟩
  rw [← etl] at d2
  clear etl
  obtain ⟨W1, eW1⟩ : ∃ W1, W1 = (W.alloc (.cells #[.int .i64 0, .int .i64 0, .slice none 0 0] 31)).alloc (.cells #[.int .i64 0, .int .i64 x, .slice tp tl tc] 31) := ⟨_, rfl⟩
  have hb1 : Below W.heap.size W W1 := by rw [eW1]; exact ((Below.refl _ _).alloc (Nat.le_refl _) _).alloc (by simp) _
  have k8 : W1.heap[W.heap.size]? = some (.cells #[.int .i64 0, .int .i64 0, .slice none 0 0] 31) := by rw [eW1, Below.heap_alloc _ _ _ (by simp)]; exact heap_alloc_new _ _
  have k9 : W1.heap[W.heap.size + 1]? = some (.cells #[.int .i64 0, .int .i64 x, .slice tp tl tc] 31) := by
    rw [eW1]
    have := heap_alloc_new (W.alloc (.cells #[.int .i64 0, .int .i64 0, .slice none 0 0] 31)) (.cells #[.int .i64 0, .int .i64 x, .slice tp tl tc] 31)
    simpa using this
  have HPM : Hid (PMo V h pb base X tr E s W1) := H.below hb1
  have HB1 : Hid (Below W.heap.size W W1) := hb1
  have HE1 : Hid _ := eW1
  have hz1 : W1.heap.size = W.heap.size + 1 + 1 := by rw [eW1]; simp
  have HZ1 : Hid _ := hz1
  have HK8 : Hid (W1.heap[W.heap.size]? = some (.cells #[.int .i64 0, .int .i64 0, .slice none 0 0] 31)) := k8
  have HK9 : Hid (W1.heap[W.heap.size + 1]? = some (.cells #[.int .i64 0, .int .i64 x, .slice tp tl tc] 31)) := k9
  obtain ⟨m0, m1, m2, m3, m4, m5⟩ := HPM.out.cells
  obtain ⟨n0, n1, n2, n3⟩ := Box3.of_block (t := 31) k9
  have hbb : b < W.heap.size := World.block_lt_of_cell? _ _ d0
  have hlh := HPM.out.lt
  obtain ⟨hlh, hlp⟩ := hlh
  have HRF : Hid (∀ a w, Calls Try.prog 79 #[.int .i64 a] w fun e w' => e = .returned (.agg #[.int .i64 0, .int .i64 a, .slice none 0 0]) ∧ Below w.heap.size w w') := fun a w => l10ref_any a w
  have HQ : Hid (∀ W', Below W.heap.size W W' → TmOut V h pb base X tr s W ((0, x, []), [], E) (.returned (.agg #[.int .i64 0, .int .i64 x, .slice none 0 0])) W') := fun W' hb => TmOut.leaf H (0, x, []) none 0 (bin_nil V) hb
  generalize TmOut V h pb base X tr s W ((0, x, []), [], E) = RR at HQ ⊢
  clear H hb1 k8 k9 eW1 hz1
  go_enter Try.func95, Try.ntmps95
  go_wp2
  rw [← HE1.out]
  refine wp_region_held_drew (S := fun W' => W'.cell? ⟨W.heap.size + 1, 1, none⟩ = some (.int .i64 x) ∧ W'.cell? ⟨pb, 0, none⟩ = some (.int .i64 base)) (by kernel_rfl) ⟨n1, m2⟩ (fun hHeld => ?_)
  refine hTake (i := 0) (v := .pointer (some ⟨W.heap.size + 1, 1, none⟩)) (some 34) (by kernel_rfl) (by kernel_rfl) (by kernel_rfl) (by kernel_rfl) (by kernel_rfl) (fun _ _ _ h => h) (fun o ho W hSw => ?z1) (by assumption) ?_
  case z1 =>
    cases ho
    simp [execOp, go_sem, Act.eval]
  simp only [Act.put, List.setIfInBounds_toArray, List.set_cons_zero, List.set_cons_succ]
  refine hTake (i := 1) (v := .int .i64 x) (some 35) (by kernel_rfl) (by kernel_rfl) (by kernel_rfl) (by kernel_rfl) (by kernel_rfl) (fun _ _ _ h => h) (fun o ho W hSw => ?z2) (by assumption) ?_
  case z2 =>
    cases ho
    obtain ⟨t0, t1⟩ := hSw
    simp [execOp, go_sem, Act.eval, t0]
  simp only [Act.put, List.setIfInBounds_toArray, List.set_cons_zero, List.set_cons_succ]
  refine hTake (i := 2) (v := .pointer (some ⟨pb, 0, none⟩)) (some 36) (by kernel_rfl) (by kernel_rfl) (by kernel_rfl) (by kernel_rfl) (by kernel_rfl) (fun _ _ _ h => h) (fun o ho W hSw => ?z3) (by assumption) ?_
  case z3 =>
    cases ho
    simp [execOp, go_sem, Act.eval]
  simp only [Act.put, List.setIfInBounds_toArray, List.set_cons_zero, List.set_cons_succ]
  refine hTake (i := 3) (v := .pointer (some ⟨pb, 0, none⟩)) (some 37) (by kernel_rfl) (by kernel_rfl) (by kernel_rfl) (by kernel_rfl) (by kernel_rfl) (fun _ _ _ h => h) (fun o ho W hSw => ?z4) (by assumption) ?_
  case z4 =>
    cases ho
    simp [execOp, go_sem, Act.eval]
  simp only [Act.put, List.setIfInBounds_toArray, List.set_cons_zero, List.set_cons_succ]
  refine hTake (i := 4) (v := .pointer (some ⟨pb, 0, none⟩)) (some 38) (by kernel_rfl) (by kernel_rfl) (by kernel_rfl) (by kernel_rfl) (by kernel_rfl) (fun _ _ _ h => h) (fun o ho W hSw => ?z5) (by assumption) ?_
  case z5 =>
    cases ho
    simp [execOp, go_sem, Act.eval]
  simp only [Act.put, List.setIfInBounds_toArray, List.set_cons_zero, List.set_cons_succ]
  refine hTake (i := 5) (v := .int .i64 base) (some 39) (by kernel_rfl) (by kernel_rfl) (by kernel_rfl) (by kernel_rfl) (by kernel_rfl) (fun _ _ _ h => h) (fun o ho W hSw => ?z6) (by assumption) ?_
  case z6 =>
    cases ho
    obtain ⟨t0, t1⟩ := hSw
    simp [execOp, go_sem, Act.eval, t1]
  simp only [Act.put, List.setIfInBounds_toArray, List.set_cons_zero, List.set_cons_succ]
  refine hTake (i := 6) (v := .bool true) (some 40) (by kernel_rfl) (by kernel_rfl) (by kernel_rfl) (by kernel_rfl) (by kernel_rfl) (fun _ _ _ h => h) (fun o ho W hSw => ?z7) (by assumption) ?_
  case z7 =>
    cases ho
    simp [execOp, go_sem, Act.eval, hx]
  simp only [Act.put, List.setIfInBounds_toArray, List.set_cons_zero, List.set_cons_succ]
  refine wpAnyH_done (by kernel_rfl) ?_ _
  change Exit.then _ _ _ _ _
  clear hHeld
  have HR3 := HRF.out x W1.drew
  have n1' : W1.drew.cell? ⟨W.heap.size + 1, 1, none⟩ = some (.int .i64 x) := n1
  go_wp2_with fail
  refine HR3.mono ?_
  rintro e w3 ⟨rfl, hb3⟩
  have hb3' : Below W1.heap.size W1 w3 := (Below.refl _ _).drew.trans hb3
  have hs3 : W.heap.size < W1.heap.size := by have := HZ1.out; omega
  have HX : Hid _ := (Box3.of_block (t := 31) ((hb3'.block W.heap.size hs3).trans HK8.out)).put (.int .i64 0) (.int .i64 x) (.slice none 0 0)
  obtain ⟨b0, b1, b2, b3⟩ := Box3.of_block (t := 31) ((hb3'.block W.heap.size hs3).trans HK8.out)
  have HBF : Hid _ := HQ.out _ (below_put3 (Below.on HB1.out hb3') (Nat.le_refl _) (.int .i64 0) (.int .i64 x) (.slice none 0 0))
  clear hb3
  go_wp2
  obtain ⟨e0, e1, e2, _⟩ := HX.out
  exact bodyPost_ret (v := .agg #[.int .i64 0, .int .i64 x, .slice none 0 0]) (by simp [results, Try.results95, go_sem, e0, e1, e2]) rfl HBF.out

set_option maxHeartbeats 4000000 in
set_option maxRecDepth 100000 in
theorem tm_known (V : World) (h pb : Nat) (base : Int) (X : List Cel) (tr : List Int) (E : PSt) (s : Sl8) (W : World) (x sl : Int) (t : List Int) (b o m cap : Nat) (tp : Option Addr) (tc : Nat) (hm : 0 < m) (hmm : m ≤ 1000000) (d0 : W.cell? ⟨b, o, none⟩ = some (.int .i64 0)) (d1 : W.cell? ⟨b, o + 1, none⟩ = some (.int .i64 x)) (d2 : W.cell? ⟨b, o + 2, none⟩ = some (.slice tp t.length tc)) (hx : ¬ x < base) (u : Int) (hu : look E x = some u) (hEl : E.length ≤ 20000) (H : PMo V h pb base X tr E s W) :
    Calls Try.prog 95 #[.pointer (some ⟨h, 0, none⟩), .pointer (some ⟨pb, 0, none⟩), .slice (some ⟨b, o, none⟩) m cap, .int .i64 sl] W (TmOut V h pb base X tr s W ((0, u, []), [], E)) := by
  obtain ⟨tl, etl⟩ : ∃ tl, tl = t.length := ⟨_, rfl⟩
  rw [← etl] at d2
  clear etl
  obtain ⟨W1, eW1⟩ : ∃ W1, W1 = (W.alloc (.cells #[.int .i64 0, .int .i64 0, .slice none 0 0] 31)).alloc (.cells #[.int .i64 0, .int .i64 x, .slice tp tl tc] 31) := ⟨_, rfl⟩
  have hb1 : Below W.heap.size W W1 := by rw [eW1]; exact ((Below.refl _ _).alloc (Nat.le_refl _) _).alloc (by simp) _
  have k8 : W1.heap[W.heap.size]? = some (.cells #[.int .i64 0, .int .i64 0, .slice none 0 0] 31) := by rw [eW1, Below.heap_alloc _ _ _ (by simp)]; exact heap_alloc_new _ _
  have k9 : W1.heap[W.heap.size + 1]? = some (.cells #[.int .i64 0, .int .i64 x, .slice tp tl tc] 31) := by
    rw [eW1]
    have := heap_alloc_new (W.alloc (.cells #[.int .i64 0, .int .i64 0, .slice none 0 0] 31)) (.cells #[.int .i64 0, .int .i64 x, .slice tp tl tc] 31)
    simpa using this
  have HPM : Hid (PMo V h pb base X tr E s W1) := H.below hb1
  have HB1 : Hid (Below W.heap.size W W1) := hb1
  have HE1 : Hid _ := eW1
  have hz1 : W1.heap.size = W.heap.size + 1 + 1 := by rw [eW1]; simp
  have HZ1 : Hid _ := hz1
  have HK8 : Hid (W1.heap[W.heap.size]? = some (.cells #[.int .i64 0, .int .i64 0, .slice none 0 0] 31)) := k8
  have HK9 : Hid (W1.heap[W.heap.size + 1]? = some (.cells #[.int .i64 0, .int .i64 x, .slice tp tl tc] 31)) := k9
  obtain ⟨m0, m1, m2, m3, m4, m5⟩ := HPM.out.cells
  obtain ⟨n0, n1, n2, n3⟩ := Box3.of_block (t := 31) k9
  have hbb : b < W.heap.size := World.block_lt_of_cell? _ _ d0
  have hlh := HPM.out.lt
  obtain ⟨hlh, hlp⟩ := hlh
  have HRF : Hid (∀ a w, Calls Try.prog 79 #[.int .i64 a] w fun e w' => e = .returned (.agg #[.int .i64 0, .int .i64 a, .slice none 0 0]) ∧ Below w.heap.size w w') := fun a w => l10ref_any a w
  have HQ : Hid (∀ W', Below W.heap.size W W' → TmOut V h pb base X tr s W ((0, u, []), [], E) (.returned (.agg #[.int .i64 0, .int .i64 u, .slice none 0 0])) W') := fun W' hb => TmOut.leaf H (0, u, []) none 0 (bin_nil V) hb
  generalize TmOut V h pb base X tr s W ((0, u, []), [], E) = RR at HQ ⊢
  obtain ⟨kk, hfi, hkl, hku⟩ := lookM_some E x u hu
  have hcu : ∃ g3, s.2.2.2.1 = some ⟨g3, 0, none⟩ ∧ W1.cell? ⟨g3, kk, none⟩ = some (.int .i64 u) := by
    have hh := HPM.out.2.2.2.2.2.1
    obtain ⟨g3, cap3, hv, _⟩ := hh.2.form (by omega)
    simp only [Value.slice.injEq] at hv
    refine ⟨g3, hv.1, ?_⟩
    have hh2 := hh.2
    rw [hv.1] at hh2
    have hc := hh2.cellAt kk (by omega)
    rw [hc, List.getElem?_map]
    have e : (E.map Prod.snd)[kk]? = some u := by
      rw [List.getElem?_eq_getElem (by simpa using hkl)]
      simp [List.getD, hkl] at hku
      simp [hku]
    rw [e]; rfl
  obtain ⟨g3, hg3, hcu⟩ := hcu
  rw [hg3] at m4
  clear hu hku
  clear H hb1 k8 k9 eW1 hz1
  go_enter Try.func95, Try.ntmps95
  go_wp2
  rw [← HE1.out]
  refine wp_region_held_drew (S := fun W' => W'.cell? ⟨W.heap.size + 1, 1, none⟩ = some (.int .i64 x) ∧ W'.cell? ⟨pb, 0, none⟩ = some (.int .i64 base)) (by kernel_rfl) ⟨n1, m2⟩ (fun hHeld => ?_)
  refine hTake (i := 0) (v := .pointer (some ⟨W.heap.size + 1, 1, none⟩)) (some 34) (by kernel_rfl) (by kernel_rfl) (by kernel_rfl) (by kernel_rfl) (by kernel_rfl) (fun _ _ _ h => h) (fun o ho W hSw => ?z8) (by assumption) ?_
  case z8 =>
    cases ho
    simp [execOp, go_sem, Act.eval]
  simp only [Act.put, List.setIfInBounds_toArray, List.set_cons_zero, List.set_cons_succ]
  refine hTake (i := 1) (v := .int .i64 x) (some 35) (by kernel_rfl) (by kernel_rfl) (by kernel_rfl) (by kernel_rfl) (by kernel_rfl) (fun _ _ _ h => h) (fun o ho W hSw => ?z9) (by assumption) ?_
  case z9 =>
    cases ho
    obtain ⟨t0, t1⟩ := hSw
    simp [execOp, go_sem, Act.eval, t0]
  simp only [Act.put, List.setIfInBounds_toArray, List.set_cons_zero, List.set_cons_succ]
  refine hTake (i := 2) (v := .pointer (some ⟨pb, 0, none⟩)) (some 36) (by kernel_rfl) (by kernel_rfl) (by kernel_rfl) (by kernel_rfl) (by kernel_rfl) (fun _ _ _ h => h) (fun o ho W hSw => ?z10) (by assumption) ?_
  case z10 =>
    cases ho
    simp [execOp, go_sem, Act.eval]
  simp only [Act.put, List.setIfInBounds_toArray, List.set_cons_zero, List.set_cons_succ]
  refine hTake (i := 3) (v := .pointer (some ⟨pb, 0, none⟩)) (some 37) (by kernel_rfl) (by kernel_rfl) (by kernel_rfl) (by kernel_rfl) (by kernel_rfl) (fun _ _ _ h => h) (fun o ho W hSw => ?z11) (by assumption) ?_
  case z11 =>
    cases ho
    simp [execOp, go_sem, Act.eval]
  simp only [Act.put, List.setIfInBounds_toArray, List.set_cons_zero, List.set_cons_succ]
  refine hTake (i := 4) (v := .pointer (some ⟨pb, 0, none⟩)) (some 38) (by kernel_rfl) (by kernel_rfl) (by kernel_rfl) (by kernel_rfl) (by kernel_rfl) (fun _ _ _ h => h) (fun o ho W hSw => ?z12) (by assumption) ?_
  case z12 =>
    cases ho
    simp [execOp, go_sem, Act.eval]
  simp only [Act.put, List.setIfInBounds_toArray, List.set_cons_zero, List.set_cons_succ]
  refine hTake (i := 5) (v := .int .i64 base) (some 39) (by kernel_rfl) (by kernel_rfl) (by kernel_rfl) (by kernel_rfl) (by kernel_rfl) (fun _ _ _ h => h) (fun o ho W hSw => ?z13) (by assumption) ?_
  case z13 =>
    cases ho
    obtain ⟨t0, t1⟩ := hSw
    simp [execOp, go_sem, Act.eval, t1]
  simp only [Act.put, List.setIfInBounds_toArray, List.set_cons_zero, List.set_cons_succ]
  refine hTake (i := 6) (v := .bool false) (some 40) (by kernel_rfl) (by kernel_rfl) (by kernel_rfl) (by kernel_rfl) (by kernel_rfl) (fun _ _ _ h => h) (fun o ho W hSw => ?z14) (by assumption) ?_
  case z14 =>
    cases ho
    simp [execOp, go_sem, Act.eval, hx]
  simp only [Act.put, List.setIfInBounds_toArray, List.set_cons_zero, List.set_cons_succ]
  refine wpAnyH_done (by kernel_rfl) ?_ _
  change Exit.then _ _ _ _ _
  clear hHeld
  have HFD := l2find_any s.2.2.1.1 E.length s.2.2.1.2 (E.map Prod.fst) x W1.drew.drew (by simp) (by omega) (HPM.out.2.2.2.2.1.iin.below ((Below.refl _ _).drew.drew))
  rw [hfi] at HFD
  go_wp2
  refine wp_region_held_drew (S := fun W' => W'.cell? ⟨W.heap.size + 1, 1, none⟩ = some (.int .i64 x) ∧ W'.cell? ⟨pb, 1, none⟩ = some (.slice s.2.2.1.1 E.length s.2.2.1.2)) (by kernel_rfl) ⟨n1, m3⟩ (fun hHeld => ?_)
  refine hTake (i := 0) (v := .pointer (some ⟨pb, 0, none⟩)) (some 44) (by kernel_rfl) (by kernel_rfl) (by kernel_rfl) (by kernel_rfl) (by kernel_rfl) (fun _ _ _ h => h) (fun o ho W hSw => ?z15) (by assumption) ?_
  case z15 =>
    cases ho
    simp [execOp, go_sem, Act.eval]
  simp only [Act.put, List.setIfInBounds_toArray, List.set_cons_zero, List.set_cons_succ]
  refine hTake (i := 1) (v := .pointer (some ⟨pb, 0, none⟩)) (some 45) (by kernel_rfl) (by kernel_rfl) (by kernel_rfl) (by kernel_rfl) (by kernel_rfl) (fun _ _ _ h => h) (fun o ho W hSw => ?z16) (by assumption) ?_
  case z16 =>
    cases ho
    simp [execOp, go_sem, Act.eval]
  simp only [Act.put, List.setIfInBounds_toArray, List.set_cons_zero, List.set_cons_succ]
  refine hTake (i := 2) (v := .pointer (some ⟨pb, 1, none⟩)) (some 46) (by kernel_rfl) (by kernel_rfl) (by kernel_rfl) (by kernel_rfl) (by kernel_rfl) (fun _ _ _ h => h) (fun o ho W hSw => ?z17) (by assumption) ?_
  case z17 =>
    cases ho
    simp [execOp, go_sem, Act.eval]
  simp only [Act.put, List.setIfInBounds_toArray, List.set_cons_zero, List.set_cons_succ]
  refine hTake (i := 3) (v := .slice s.2.2.1.1 E.length s.2.2.1.2) (some 47) (by kernel_rfl) (by kernel_rfl) (by kernel_rfl) (by kernel_rfl) (by kernel_rfl) (fun _ _ _ h => h) (fun o ho W hSw => ?z18) (by assumption) ?_
  case z18 =>
    cases ho
    obtain ⟨t0, t1⟩ := hSw
    simp [execOp, go_sem, Act.eval, t1]
  simp only [Act.put, List.setIfInBounds_toArray, List.set_cons_zero, List.set_cons_succ]
  refine hTake (i := 4) (v := .pointer (some ⟨W.heap.size + 1, 1, none⟩)) (some 48) (by kernel_rfl) (by kernel_rfl) (by kernel_rfl) (by kernel_rfl) (by kernel_rfl) (fun _ _ _ h => h) (fun o ho W hSw => ?z19) (by assumption) ?_
  case z19 =>
    cases ho
    simp [execOp, go_sem, Act.eval]
  simp only [Act.put, List.setIfInBounds_toArray, List.set_cons_zero, List.set_cons_succ]
  refine hTake (i := 5) (v := .int .i64 x) (some 49) (by kernel_rfl) (by kernel_rfl) (by kernel_rfl) (by kernel_rfl) (by kernel_rfl) (fun _ _ _ h => h) (fun o ho W hSw => ?z20) (by assumption) ?_
  case z20 =>
    cases ho
    obtain ⟨t0, t1⟩ := hSw
    simp [execOp, go_sem, Act.eval, t0]
  simp only [Act.put, List.setIfInBounds_toArray, List.set_cons_zero, List.set_cons_succ]
  refine hCallE (i := 6) (f := 107) (args := #[.slice s.2.2.1.1 E.length s.2.2.1.2, .int .i64 x]) (some 50) (by kernel_rfl) (by kernel_rfl) (by kernel_rfl) (fun o ho => ?c6) HFD ?k6 (fun ch w' hh => by cases hh.1) (fun w' hh => by cases hh.1)
  case c6 =>
    cases ho
    simp [execOp, go_sem, Act.eval]
  rintro u w3 ⟨hu, rfl⟩
  obtain rfl := Ending.returned.inj hu
  clear hu HFD
  refine ⟨⟨n1, m3⟩, ?_⟩
  simp only [Act.put, List.setIfInBounds_toArray, List.set_cons_zero, List.set_cons_succ]
  refine hTake (i := 7) (v := .int .i64 (kk : Nat)) (some 10) (by kernel_rfl) (by kernel_rfl) (by kernel_rfl) (by kernel_rfl) (by kernel_rfl) (fun _ _ _ h => h) (fun o ho W hSw => ?z21) (by assumption) ?_
  case z21 =>
    cases ho
    simp [execOp, go_sem, Act.eval]
  simp only [Act.put, List.setIfInBounds_toArray, List.set_cons_zero, List.set_cons_succ]
  refine wpAnyH_done (by kernel_rfl) ?_ _
  change Exit.then _ _ _ _ _
  clear hHeld
  have HR3 := HRF.out u W1.drew.drew
  have m4' : W1.drew.drew.cell? ⟨pb, 2, none⟩ = some (.slice (some ⟨g3, 0, none⟩) E.length s.2.2.2.2) := m4
  have hcu' : W1.drew.drew.cell? ⟨g3, kk, none⟩ = some (.int .i64 u) := hcu
  have hk0 : (0 : Int) ≤ (kk : Nat) := by omega
  go_wp2_with fail
  refine HR3.mono ?_
  rintro e w3 ⟨rfl, hb3⟩
  have hb3' : Below W1.heap.size W1 w3 := ((Below.refl _ _).drew.drew).trans hb3
  have hs3 : W.heap.size < W1.heap.size := by have := HZ1.out; omega
  have HX : Hid _ := (Box3.of_block (t := 31) ((hb3'.block W.heap.size hs3).trans HK8.out)).put (.int .i64 0) (.int .i64 u) (.slice none 0 0)
  obtain ⟨b0, b1, b2, b3⟩ := Box3.of_block (t := 31) ((hb3'.block W.heap.size hs3).trans HK8.out)
  have HBF : Hid _ := HQ.out _ (below_put3 (Below.on HB1.out hb3') (Nat.le_refl _) (.int .i64 0) (.int .i64 u) (.slice none 0 0))
  clear hb3
  go_wp2
  obtain ⟨e0, e1, e2, _⟩ := HX.out
  exact bodyPost_ret (v := .agg #[.int .i64 0, .int .i64 u, .slice none 0 0]) (by simp [results, Try.results95, go_sem, e0, e1, e2]) rfl HBF.out

end Go.Proofs.Ytedkkghekboahaa

