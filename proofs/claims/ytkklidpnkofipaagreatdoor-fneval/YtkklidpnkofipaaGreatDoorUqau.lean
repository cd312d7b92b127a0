/- Texts of FeJ, FeJ2, FeK0. Own work of the verifier. -/
import Derived.Test.YtkklidpnkofipaaGreatDoorUqaq
import Derived.Test.YtkklidpnkofipaaGreatDoorUqar
namespace Go.Proofs.YtkklidpnkofipaaGreatDoor
set_option maxRecDepth 100000
open Go Go.RowKit
set_option linter.unusedVariables false
set_option linter.unusedSimpArgs false
def RowS (w : World) (g : Nat) : Prop := ∃ cur t fz, w.heap[g]? = some (.cells cur t fz) ∧ t ≠ 63 ∧ ∃ q n c, cur[0]? = some (.slice q n c)
theorem RowG.rs {w : World} {g : Nat} (h : RowG w g) : RowS w g := by
 obtain ⟨cur, h1, h2⟩ := h; exact ⟨cur, _, _, h1, by decide, h2⟩
theorem OwnC.grownS {w w' : World} {B n c : Nat} {p : Option Addr} {cs : List Cel} {row : Option Nat} (h : OwnC w B p n c cs) (hg : w.grownBy w' row) (hr : ∀ g, row = some g → RowS w g) : OwnC w' B p n c cs := by
 obtain ⟨hn, rs, hl, ho, hf, ha⟩ := h; refine ⟨hn, rs, hl, ho.kept hg ?_, fun i hi => ⟨(hf i hi).1, (hf i hi).2.1, (hf i hi).2.2.other hg.size (fun k h0 ek => ?_)⟩, ha⟩
 ·rcases ho.2 with ⟨hv, _⟩ | ⟨g, cap, cur, hv, _, hgg, _⟩
  ·rw [hv]; exact .inl rfl
  ·refine .inr (fun e => ?_)
   rw [hv] at e; obtain ⟨cur', t', fz, h1, ht, _⟩ := hr g e.symm; rw [h1] at hgg
   simp at hgg
   exact ht hgg.2.1
 ·obtain ⟨k', e', _, hk, hc⟩ := (hf i hi).2.2.2 h0
  rw [ek] at e'
  cases e'
  refine hg.block k hk (fun e => ?_); obtain ⟨cur', t', fz, h1, _, q, m, d, h2⟩ := hr k e.symm; have h3 := (hc 0 h0).1
  unfold World.cell? at h3
  simp only [h1] at h3
  have h4 : cur'[0]? = some (.int .u8 (((cs.getD i Cel.none).2.2).getD 0 0)) := by simpa using h3
  rw [h2] at h4
  cases h4
theorem LS.keptS {w w' : World} {B m c : Nat} {q : Option Addr} {css : List (List Cel)} {row : Option Nat} (h : LS w B q m c css) (hg : w.grownBy w' row) (hr : ∀ g, row = some g → RowS w g) (hne : Value.ownBlock (.slice q m c) = none ∨ Value.ownBlock (.slice q m c) ≠ row) : LS w' B q m c css := by
 obtain ⟨hz, rs, h1, h2, h3, h4⟩ := h; exact ⟨hz, rs, h1, h2, h3.kept hg hne, fun j hj => (h4 j hj).grownS hg hr⟩
theorem LS.rowT {w : World} {B m c : Nat} {q : Option Addr} {css : List (List Cel)} (h : LS w B q m c css) {g : Nat} (hg : Value.ownBlock (.slice q m c) = some g) : ∃ cur fz, w.heap[g]? = some (.cells cur 23 fz) ∧ B ≤ g ∧ g < w.heap.size := by
 obtain ⟨hz, rs, h1, h2, h3, h4⟩ := h
 rcases h3.2 with ⟨h', _⟩ | ⟨g', cap, cur, hv, hB, hh, r⟩
 ·rw [h'] at hg; cases hg
 ·rw [hv] at hg
  cases hg
  exact ⟨cur, _, hh, hB, (Array.getElem?_eq_some_iff.1 hh).1⟩
theorem LS.set {w : World} {B m c : Nat} {q : Option Addr} {css : List (List Cel)} (h : LS w B q m c css) {b i : Nat} {cur : Array Value} {t : TypeId} {fz : Nat × Nat} (hb : w.heap[b]? = some (.cells cur t fz)) (ht : t ≠ 63) (ht2 : t ≠ 23) (h0 : ∃ q n c, cur[0]? = some (.slice q n c)) (v : Value) : LS (w.setCell ⟨b, i, none⟩ v) B q m c css := by
 refine h.keptS (row := some b) ⟨rfl, rfl, rfl, by simp, fun k hk hne => heap_setCell_other _ _ _ _ (fun e => hne (by simp at e; rw [e]))⟩ (fun g e => by cases e; exact ⟨cur, t, fz, hb, ht, h0⟩) ?_
 cases hv : Value.ownBlock (.slice q m c) with
 | none => exact .inl rfl
 | some g =>
   refine .inr (fun e => ?_)
   cases e
   obtain ⟨cur', fz', hx, _⟩ := h.rowT hv; rw [hb] at hx
   simp at hx
   exact ht2 hx.2.1
theorem run_app_ls (w : World) (ty : TypeId) (B : Nat) (q : Option Addr) (m c : Nat) (css : List (List Cel)) (it : Sl3) (ds : List Cel) (b : Nat) (hown : LS w B q m c css) (hit : OwnC w B it.1 it.2.1 it.2.2 ds) (hb : w.cell? ⟨b, 0, none⟩ = some (slV it)) (hB : B ≤ w.heap.size) (hm : m ≤ 1000) :
  ∃ g cap w', (Builtin.append_ #[30, 30] ty #[.slice q m c, .slice (some ⟨b, 0, none⟩) 1 1]).run Tryz.prog w = .ok (.slice (some ⟨g, 0, none⟩) (m + 1) cap) w' ∧ LS w' B (some ⟨g, 0, none⟩) (m + 1) cap (css ++ [ds]) ∧ w.grownBy w' (Value.ownBlock (.slice q m c)) ∧ (Value.ownBlock (.slice q m c) = some g ∨ g = w.heap.size) := by
 obtain ⟨i0, hi, hz0, hz1, hz2⟩ := info_parts infoCells; have H := hown; obtain ⟨hz, rs, h1, h2, h3, h4⟩ := hown; obtain ⟨g, cap, w', hr, hown', hgrow, hat, hlt⟩ := run_append_lies (P := Tryz.prog) w 30 ty B 23 i0 (.slice none 0 0) 1 24 Tryz.underlying30 hi hz0 hz1 hz2 rfl (by decide) (.slice q m c) m (rs.map slV) h3 ⟨b, 0, none⟩ 1 1 [slV it] rfl
  (fun j u hj => by
    cases j with
    | zero => simp at hj; subst hj; rw [Addr.add_lit]; exact hb
    | succ j => simp at hj) (fun u hu => by rw [List.mem_singleton.1 hu]; rfl) (by decide) (by unfold maxLen; omega) (by omega) hB _ rfl
 have hrow : ∀ g, Value.ownBlock (.slice q m c) = some g → RowG w g := fun g hg => by
  rcases Nat.eq_zero_or_pos m with h00 | h00
  ·rw [hz (by omega)] at hg; cases hg
  ·exact (LS.row ⟨hz, rs, h1, h2, h3, h4⟩ g hg (by omega)).1
 refine ⟨g, cap, w', hr, ⟨fun e => by simp at e, rs ++ [it], by simp [h1], by simp [h2], by rw [List.map_append]; exact hown', fun j hj => ?_⟩, hgrow, hat⟩; rw [sl_cat_at, css_cat_at, h1]
 split
 ·rename_i hlt
  exact (h4 j hlt).grown hgrow hrow
 ·obtain rfl : j = css.length := by simp at hj; omega
  simpa using hit.grown hgrow hrow
structure IC (w0 w : World) (b : Nat) (pl : Option Addr) (jl cl : Nat) (L : List (List Cel)) (pr : Option Addr) (jr cr : Nat) (R : List (List Cel)) (ov : Value) : Prop where
 bel : Below w0.heap.size w0 w
 lft : LS w w0.heap.size pl jl cl L
 rgt : LS w w0.heap.size pr jr cr R
 apt : Value.ownBlock (.slice pl jl cl) = none ∨ Value.ownBlock (.slice pl jl cl) ≠ Value.ownBlock (.slice pr jr cr)
 box : w.heap[b]? = some (.cells #[.slice pl jl cl, .slice pr jr cr, .slice none 0 0, ov] 32)
 low : w0.heap.size ≤ b
section
variable {w0 w : World} {b : Nat} {pl : Option Addr} {jl cl : Nat} {L : List (List Cel)} {pr : Option Addr} {jr cr : Nat} {R : List (List Cel)} {ov : Value}
theorem IC.below (H : IC w0 w b pl jl cl L pr jr cr R ov) {w' : World} (hb : Below w.heap.size w w') : IC w0 w' b pl jl cl L pr jr cr R ov :=
 ⟨Below.on H.bel hb, H.lft.below hb, H.rgt.below hb, H.apt, (hb.block _ (Array.getElem?_eq_some_iff.1 H.box).1).trans H.box, H.low⟩
theorem IC.bx (H : IC w0 w b pl jl cl L pr jr cr R ov) : w.cell? ⟨b, 0, none⟩ = some (.slice pl jl cl) ∧ w.cell? ⟨b, 1, none⟩ = some (.slice pr jr cr) ∧ w.cell? ⟨b, 2, none⟩ = some (.slice none 0 0) ∧ w.cell? ⟨b, 3, none⟩ = some ov ∧ ∀ j, w.frozen? ⟨b, j, none⟩ = false := by
 have h := H.box; exact ⟨cell_of_row _ _ 0 _ _ _ h, cell_of_row _ _ 1 _ _ _ h, cell_of_row _ _ 2 _ _ _ h, cell_of_row _ _ 3 _ _ _ h, fun j => frozen_of_row _ _ _ _ _ h⟩
theorem IC.left (H : IC w0 w b pl jl cl L pr jr cr R ov) (ty : TypeId) (it : Sl3) (ds : List Cel) (e : Nat) (hit : OwnC w w0.heap.size it.1 it.2.1 it.2.2 ds) (he : w.cell? ⟨e, 0, none⟩ = some (slV it)) (hm : jl ≤ 1000) :
  ∃ g cap w', (Builtin.append_ #[30, 30] ty #[.slice pl jl cl, .slice (some ⟨e, 0, none⟩) 1 1]).run Tryz.prog w = .ok (.slice (some ⟨g, 0, none⟩) (jl + 1) cap) w' ∧ IC w0 (w'.setCell ⟨b, 0, none⟩ (.slice (some ⟨g, 0, none⟩) (jl + 1) cap)) b (some ⟨g, 0, none⟩) (jl + 1) cap (L ++ [ds]) pr jr cr R ov ∧
    (∀ (k : Nat) (cs : Array Value) (t : TypeId) (fz : Nat × Nat), w.heap[k]? = some (.cells cs t fz) → t ≠ 23 → w'.heap[k]? = some (.cells cs t fz)) ∧ w.heap.size ≤ w'.heap.size := by
 obtain ⟨g, cap, w', hr, hls, hg, hat⟩ := run_app_ls w ty w0.heap.size pl jl cl L it ds e H.lft hit he H.bel.size hm
 have keep : ∀ (k : Nat) (cs : Array Value) (t : TypeId) (fz : Nat × Nat), w.heap[k]? = some (.cells cs t fz) → t ≠ 23 → w'.heap[k]? = some (.cells cs t fz) := fun k cs t fz hk ht => by
  refine (hg.block k (Array.getElem?_eq_some_iff.1 hk).1 (fun e => ?_)).trans hk; obtain ⟨cur, fz', hx, _⟩ := H.lft.rowT e.symm; rw [hk] at hx
  simp at hx
  exact ht hx.2.1
 have hbx := keep _ _ _ _ H.box (by decide)
 have hrow : ∀ g, Value.ownBlock (.slice pl jl cl) = some g → RowS w g := fun g hg => by
  rcases Nat.eq_zero_or_pos L.length with h00 | h00
  ·rw [H.lft.1 h00] at hg; cases hg
  ·exact (H.lft.row g hg h00).1.rs
 have hapt : Value.ownBlock (.slice pr jr cr) = none ∨ Value.ownBlock (.slice pr jr cr) ≠ Value.ownBlock (.slice pl jl cl) := by
  rcases H.apt with h | h
  ·cases hv : Value.ownBlock (.slice pr jr cr) with
   | none => exact .inl rfl
   | some k => exact .inr (by rw [h]; simp)
  ·exact .inr (fun e => h e.symm)
 have ho := H.rgt.keptS hg hrow hapt
 have hne : ∀ k, Value.ownBlock (.slice pr jr cr) = some k → k ≠ g := fun k hk e => by
  subst e
  rcases hat with h | h
  ·rcases hapt with h' | h'
   ·rw [h'] at hk; cases hk
   ·exact h' (hk.trans h.symm)
  ·have := (H.rgt.rowT hk)
   obtain ⟨_, _, _, _, h2⟩ := this
   omega
 have h0 : ∃ q n c, (#[.slice pl jl cl, .slice pr jr cr, .slice none 0 0, ov] : Array Value)[0]? = some (.slice q n c) := ⟨_, _, _, rfl⟩
 refine ⟨g, cap, w', hr, ⟨?_, hls.set hbx (by decide) (by decide) h0 _, ho.set hbx (by decide) (by decide) h0 _, ?_, ?_, H.low⟩, keep, hg.size⟩
 ·exact ((Below.refl _ _).trans H.bel).grown hg H.bel.size (fun k hk => by obtain ⟨_, _, _, h2, _⟩ := H.lft.rowT hk; exact h2) |>.setCell (by simpa using H.low) _
 ·exact .inr (fun e => hne g e.symm rfl)
 ·rw [heap_setCell_same _ _ _ _ _ _ hbx]; rfl
theorem IC.right (H : IC w0 w b pl jl cl L pr jr cr R ov) (ty : TypeId) (it : Sl3) (ds : List Cel) (e : Nat) (hit : OwnC w w0.heap.size it.1 it.2.1 it.2.2 ds) (he : w.cell? ⟨e, 0, none⟩ = some (slV it)) (hm : jr ≤ 1000) :
  ∃ g cap w', (Builtin.append_ #[30, 30] ty #[.slice pr jr cr, .slice (some ⟨e, 0, none⟩) 1 1]).run Tryz.prog w = .ok (.slice (some ⟨g, 0, none⟩) (jr + 1) cap) w' ∧ IC w0 (w'.setCell ⟨b, 1, none⟩ (.slice (some ⟨g, 0, none⟩) (jr + 1) cap)) b pl jl cl L (some ⟨g, 0, none⟩) (jr + 1) cap (R ++ [ds]) ov ∧
    (∀ (k : Nat) (cs : Array Value) (t : TypeId) (fz : Nat × Nat), w.heap[k]? = some (.cells cs t fz) → t ≠ 23 → w'.heap[k]? = some (.cells cs t fz)) ∧ w.heap.size ≤ w'.heap.size := by
 obtain ⟨g, cap, w', hr, hls, hg, hat⟩ := run_app_ls w ty w0.heap.size pr jr cr R it ds e H.rgt hit he H.bel.size hm
 have keep : ∀ (k : Nat) (cs : Array Value) (t : TypeId) (fz : Nat × Nat), w.heap[k]? = some (.cells cs t fz) → t ≠ 23 → w'.heap[k]? = some (.cells cs t fz) := fun k cs t fz hk ht => by
  refine (hg.block k (Array.getElem?_eq_some_iff.1 hk).1 (fun e => ?_)).trans hk; obtain ⟨cur, fz', hx, _⟩ := H.rgt.rowT e.symm; rw [hk] at hx
  simp at hx
  exact ht hx.2.1
 have hbx := keep _ _ _ _ H.box (by decide)
 have hrow : ∀ g, Value.ownBlock (.slice pr jr cr) = some g → RowS w g := fun g hg => by
  rcases Nat.eq_zero_or_pos R.length with h00 | h00
  ·rw [H.rgt.1 h00] at hg; cases hg
  ·exact (H.rgt.row g hg h00).1.rs
 have hapt : Value.ownBlock (.slice pl jl cl) = none ∨ Value.ownBlock (.slice pl jl cl) ≠ Value.ownBlock (.slice pr jr cr) := by
  exact H.apt
 have ho := H.lft.keptS hg hrow hapt
 have hne : ∀ k, Value.ownBlock (.slice pl jl cl) = some k → k ≠ g := fun k hk e => by
  subst e
  rcases hat with h | h
  ·rcases hapt with h' | h'
   ·rw [h'] at hk; cases hk
   ·exact h' (hk.trans h.symm)
  ·have := (H.lft.rowT hk)
   obtain ⟨_, _, _, _, h2⟩ := this
   omega
 have h0 : ∃ q n c, (#[.slice pl jl cl, .slice pr jr cr, .slice none 0 0, ov] : Array Value)[0]? = some (.slice q n c) := ⟨_, _, _, rfl⟩
 refine ⟨g, cap, w', hr, ⟨?_, ho.set hbx (by decide) (by decide) h0 _, hls.set hbx (by decide) (by decide) h0 _, ?_, ?_, H.low⟩, keep, hg.size⟩
 ·exact ((Below.refl _ _).trans H.bel).grown hg H.bel.size (fun k hk => by obtain ⟨_, _, _, h2, _⟩ := H.rgt.rowT hk; exact h2) |>.setCell (by simpa using H.low) _
 ·cases hv : Value.ownBlock (.slice pl jl cl) with
  | none => exact .inl rfl
  | some k => exact .inr (fun e => hne k hv (by simpa [Value.ownBlock] using e))
 ·rw [heap_setCell_same _ _ _ _ _ _ hbx]; rfl
end
theorem exec_appF {a : Act} {o : Oper} {s x : Operand} {t u : TypeId} {w w' : World} {v y r : Value} (ho : o.op = .call { callee := .builtin .append, args := #[s, x], argTypes := #[t, u] }) (hs : a.eval s = v) (hx : a.eval x = y)
  (hr : (Builtin.append_ #[t, u] o.type #[v, y]).run Tryz.prog w = .ok r w') : (execOp a.eval o).run Tryz.prog w = .ok (.value r) w' := by
 unfold execOp
 simp only [ho, resolve, invoke, builtin, Sem.run_bind, Sem.run_pure, Result.andThen_ok, List.map_toArray, List.map_cons, List.map_nil, hs, hx, hr]
abbrev wr4 (w : World) (T : Nat) (a b c d : Value) : World := (((w.setCell ⟨T, 0, none⟩ a).setCell ⟨T, 1, none⟩ b).setCell ⟨T, 2, none⟩ c).setCell ⟨T, 3, none⟩ d
theorem wr4_block {w : World} {T : Nat} {u0 u1 u2 u3 : Value} {t : TypeId} (h : w.heap[T]? = some (.cells #[u0, u1, u2, u3] t)) (a b c d : Value) : (wr4 w T a b c d).heap[T]? = some (.cells #[a, b, c, d] t) := by
 have h1 : (w.setCell ⟨T, 0, none⟩ a).heap[T]? = some (.cells #[a, u1, u2, u3] t) := by rw [heap_setCell_same _ _ _ _ _ _ h]; rfl
 have h2 : ((w.setCell ⟨T, 0, none⟩ a).setCell ⟨T, 1, none⟩ b).heap[T]? = some (.cells #[a, b, u2, u3] t) := by rw [heap_setCell_same _ _ _ _ _ _ h1]; rfl
 have h3 : (((w.setCell ⟨T, 0, none⟩ a).setCell ⟨T, 1, none⟩ b).setCell ⟨T, 2, none⟩ c).heap[T]? = some (.cells #[a, b, c, u3] t) := by rw [heap_setCell_same _ _ _ _ _ _ h2]; rfl
 rw [heap_setCell_same _ _ _ _ _ _ h3]; rfl
theorem wr4_box {w : World} {T : Nat} {u0 u1 u2 u3 : Value} {t : TypeId} (h : w.heap[T]? = some (.cells #[u0, u1, u2, u3] t)) (a b c d : Value) : (wr4 w T a b c d).cell? ⟨T, 0, none⟩ = some a ∧ (wr4 w T a b c d).cell? ⟨T, 1, none⟩ = some b ∧ (wr4 w T a b c d).cell? ⟨T, 2, none⟩ = some c ∧ (wr4 w T a b c d).cell? ⟨T, 3, none⟩ = some d := by
 have h' := wr4_block h a b c d; exact ⟨cell_of_row _ _ 0 _ _ _ h', cell_of_row _ _ 1 _ _ _ h', cell_of_row _ _ 2 _ _ _ h', cell_of_row _ _ 3 _ _ _ h'⟩
theorem wr4_other {w : World} {T k : Nat} {a b c d : Value} (h : k ≠ T) : (wr4 w T a b c d).heap[k]? = w.heap[k]? := by
 have q : ∀ (W : World) (i : Nat) (v : Value), (W.setCell ⟨T, i, none⟩ v).heap[k]? = W.heap[k]? := fun W i v => heap_setCell_other W ⟨T, i, none⟩ k v (fun e => by simp at e; omega)
 exact (q _ _ _).trans ((q _ _ _).trans ((q _ _ _).trans (q _ _ _)))
theorem wr4_below {w0 w : World} {T B : Nat} (h : Below B w0 w) (hT : B ≤ T) (a b c d : Value) : Below B w0 (wr4 w T a b c d) :=
 ⟨h.os, h.tape, h.output, by simpa [wr4] using h.size, fun k hk => (wr4_other (by omega)).trans (h.block k hk)⟩
theorem wr4_ls {w : World} {T B m cc : Nat} {q : Option Addr} {css : List (List Cel)} (h : LS w B q m cc css) {p0 : Option Addr} {n0 c0 : Nat} {u1 u2 u3 : Value} (hb : w.heap[T]? = some (.cells #[.slice p0 n0 c0, u1, u2, u3] 32)) (a b c d : Value) : LS (wr4 w T a b c d) B q m cc css := by
 refine h.keptS (row := some T) ⟨rfl, rfl, rfl, by simp [wr4], fun k hk hne => wr4_other (fun e => hne (by rw [e]))⟩ (fun g e => by cases e; exact ⟨_, _, _, hb, by decide, _, _, _, rfl⟩) ?_
 cases hv : Value.ownBlock (.slice q m cc) with
 | none => exact .inl rfl
 | some g =>
   refine .inr (fun e => ?_)
   cases e
   obtain ⟨cur', fz', hx, _⟩ := h.rowT hv; rw [hb] at hx
   simp at hx
def PairsIn (w : World) (p : Option Addr) (ts : List TT) : Prop := ∀ i, i < ts.length → ∃ g v u, p = some ⟨g, 0, none⟩ ∧ w.cell? ⟨g, i * 2, none⟩ = some v ∧ w.cell? ⟨g, i * 2 + 1, none⟩ = some u ∧ FoIn w 0 (ts.getD i ((Cel.none, .nil), (Cel.none, .nil))).1.fo [v] ∧ FoIn w 0 (ts.getD i ((Cel.none, .nil), (Cel.none, .nil))).2.fo [u]
theorem PairsIn.below {w w' : World} {p : Option Addr} {ts : List TT} (h : PairsIn w p ts) (hb : Below w.heap.size w w') : PairsIn w' p ts := fun i hi => by
 obtain ⟨g, v, u, e, h1, h2, h3, h4⟩ := h i hi; exact ⟨g, v, u, e, (hb.cell (World.block_lt_of_cell? _ _ h1)).trans h1, (hb.cell (World.block_lt_of_cell? _ _ h2)).trans h2, h3.below hb, h4.below hb⟩
def Tr.cs (t : Tr) : List Cel := t.1 :: t.2.cells
def okP (ts : List TT) : Prop := ∀ t ∈ ts, t.1.fo.ok ∧ t.1.2.cells.length ≤ 10000 ∧ t.2.fo.ok ∧ t.2.2.cells.length ≤ 10000
theorem okP.at {ts : List TT} (h : okP ts) (i : Nat) (hi : i < ts.length) : (ts.getD i ((Cel.none, .nil), (Cel.none, .nil))).1.fo.ok ∧ (ts.getD i ((Cel.none, .nil), (Cel.none, .nil))).1.2.cells.length ≤ 10000 ∧ (ts.getD i ((Cel.none, .nil), (Cel.none, .nil))).2.fo.ok ∧ (ts.getD i ((Cel.none, .nil), (Cel.none, .nil))).2.2.cells.length ≤ 10000 := by
 rw [List.getD, List.getElem?_eq_getElem hi]; exact h _ (List.getElem_mem hi)
def lefts (ts : List TT) : List (List Cel) := ts.map fun t => t.1.cs
def rights (ts : List TT) : List (List Cel) := ts.map fun t => t.2.cs
theorem lefts_snoc (ts : List TT) (j : Nat) (hj : j < ts.length) : (lefts ts).take (j + 1) = (lefts ts).take j ++ [(ts.getD j ((Cel.none, .nil), (Cel.none, .nil))).1.cs] := by
 rw [List.take_succ_eq_append_getElem (by simpa [lefts] using hj), List.getD, List.getElem?_eq_getElem hj]
 simp [lefts]
theorem rights_snoc (ts : List TT) (j : Nat) (hj : j < ts.length) : (rights ts).take (j + 1) = (rights ts).take j ++ [(ts.getD j ((Cel.none, .nil), (Cel.none, .nil))).2.cs] := by
 rw [List.take_succ_eq_append_getElem (by simpa [rights] using hj), List.getD, List.getElem?_eq_getElem hj]
 simp [rights]
set_option maxHeartbeats 4000000 in
theorem inCells_pairs (p : Option Addr) (n c : Nat) (po : Option Addr) (no co : Nat) (ts : List TT) (w : World) (hn : n = ts.length) (hl : n ≤ 900) (hok : okP ts) (hin : PairsIn w p ts) :
  Calls Tryz.prog 33 #[.agg #[.slice p n c, .nilIface, .slice po no co]] w fun e w' => ∃ pl cl pr cr, e = .returned (.agg #[.slice pl n cl, .slice pr n cr, .slice none 0 0, .slice po no co]) ∧ LS w' w.heap.size pl n cl (lefts ts) ∧ LS w' w.heap.size pr n cr (rights ts) ∧ Below w.heap.size w w' := by
 obtain ⟨E, eE⟩ : ∃ E, E = w.heap.size := ⟨_, rfl⟩
 obtain ⟨OB, eOB⟩ : ∃ OB, OB = w.heap.size + 1 + 1 := ⟨_, rfl⟩
 obtain ⟨w1, e1⟩ : ∃ w1, w1 = w.alloc (.cells #[.slice p n c, .nilIface, .slice po no co] 86) := ⟨_, rfl⟩
 obtain ⟨w2, e2⟩ : ∃ w2, w2 = w1.alloc (.cells #[.slice none 0 0, .slice none 0 0, .slice none 0 0, .slice none 0 0] 32) := ⟨_, rfl⟩
 obtain ⟨w3, e3⟩ : ∃ w3, w3 = w2.alloc (.cells #[.slice none 0 0, .slice none 0 0, .slice none 0 0, .slice po no co] 32) := ⟨_, rfl⟩
 have hs1 : w1.heap.size = w.heap.size + 1 := by rw [e1]; simp
 have hs2 : w2.heap.size = w.heap.size + 1 + 1 := by rw [e2, ← hs1]; simp
 have hb1 : Below w.heap.size w w1 := by rw [e1]; exact (Below.refl _ _).alloc (Nat.le_refl _) _
 have hb2 : Below w1.heap.size w1 w2 := by rw [e2]; exact (Below.refl _ _).alloc (Nat.le_refl _) _
 have hb3 : Below w2.heap.size w2 w3 := by rw [e3]; exact (Below.refl _ _).alloc (Nat.le_refl _) _
 have hB3 : Below w.heap.size w w3 := Below.on hb1 (Below.on hb2 hb3)
 have k1 : w3.heap[E]? = some (.cells #[.slice p n c, .nilIface, .slice po no co] 86) := by rw [eE, hb3.block _ (by omega), hb2.block _ (by omega), e1]; exact heap_alloc_new _ _
 have k2 : w3.heap[E + 1]? = some (.cells #[.slice none 0 0, .slice none 0 0, .slice none 0 0, .slice none 0 0] 32) := by rw [eE, hb3.block _ (by omega), e2, ← hs1]; exact heap_alloc_new _ _
 have k3 : w3.heap[OB]? = some (.cells #[.slice none 0 0, .slice none 0 0, .slice none 0 0, .slice po no co] 32) := by rw [eOB, e3, ← hs2]; exact heap_alloc_new _ _
 have HI3 : Hid (IC w w3 OB none 0 0 ((lefts ts).take 0) none 0 0 ((rights ts).take 0) (.slice po no co)) := ⟨hB3, by simpa using LS.nil w3 _, by simpa using LS.nil w3 _, .inl rfl, k3, by omega⟩
 have HK3 : Hid (w3.heap[E]? = some (.cells #[.slice p n c, .nilIface, .slice po no co] 86) ∧ w3.heap[E + 1]? = some (.cells #[.slice none 0 0, .slice none 0 0, .slice none 0 0, .slice none 0 0] 32) ∧ E + 1 ≠ OB ∧ E ≠ OB) := ⟨k1, k2, by omega, by omega⟩
 have HOK : Hid (okP ts) := hok; have HIN : Hid (PairsIn w p ts) := hin; have HN : Hid (n = ts.length) := hn
 have HE : Hid (E = w.heap.size ∧ OB = w.heap.size + 1 + 1) := ⟨eE, eOB⟩
 have x0 := cell_of_row _ _ 0 _ _ _ k1; have x1 := cell_of_row _ _ 2 _ _ _ k1; rw [eE] at x0 x1; rw [e1] at e2; rw [e2] at e3; rw [e3] at x0 x1; clear hok hin hn hs1 hs2 hb1 hb2 hb3 hB3 k1 k2 k3 e1 e2
 go_enter Tryz.func33, Tryz.ntmps33
 go_wp2_with fail; rw [← e3, ← eE]; rw [← eE] at eOB; rw [← eOB]; clear e3 eE eOB x0 x1
 go_loopw [12] (fun i wr => ∃ (j : Nat) (pl : Option Addr) (cl : Nat) (pr : Option Addr) (cr : Nat), j ≤ n ∧ i = .int .i64 j ∧ Hid (IC w wr OB pl j cl ((lefts ts).take j) pr j cr ((rights ts).take j) (.slice po no co)) ∧ Hid (wr.heap[E]? = some (.cells #[.slice p n c, .nilIface, .slice po no co] 86) ∧ wr.heap[E + 1]? = some (.cells #[.slice none 0 0, .slice none 0 0, .slice none 0 0, .slice none 0 0] 32))) (fun i _ => n - (intOf i).toNat)
 case atStart => exact ⟨0, none, 0, none, 0, Nat.zero_le _, rfl, HI3.out, HK3.out.1, HK3.out.2.1⟩
 case round =>
  obtain ⟨j, pl, cl, pr, cr, hj, rfl, HI, HK⟩ := hrel
  by_cases hlt : j < n
  ·obtain ⟨g, v, u, rfl, pc0, pc1, hfv, hfu⟩ := HIN.out j (by rw [← HN.out]; exact hlt)
   obtain ⟨o1, o2, o3, o4⟩ := HOK.out.at j (by rw [← HN.out]; exact hlt)
   obtain ⟨A, eA⟩ : ∃ A, A = ts.getD j ((Cel.none, .nil), (Cel.none, .nil)) := ⟨_, rfl⟩
   rw [← eA] at o1 o2 o3 o4 hfv hfu
   have HLS : Hid ((lefts ts).take (j + 1) = (lefts ts).take j ++ [A.1.cs] ∧ (rights ts).take (j + 1) = (rights ts).take j ++ [A.2.cs]) := by
    rw [eA]; exact ⟨lefts_snoc ts j (by rw [← HN.out]; exact hlt), rights_snoc ts j (by rw [← HN.out]; exact hlt)⟩
   obtain ⟨tv, xv, rfl⟩ := FoIn.iface (c := A.1.1) (k := A.1.2) (r := .nil) hfv; obtain ⟨tu, xu, rfl⟩ := FoIn.iface (c := A.2.1) (k := A.2.2) (r := .nil) hfu; have hbel := HI.out.bel; have y0 := (hbel.cell (World.block_lt_of_cell? _ _ pc0)).trans pc0; have y1 := (hbel.cell (World.block_lt_of_cell? _ _ pc1)).trans pc1
   obtain ⟨wA, ewA⟩ : ∃ wA, wA = wr.alloc (.cells #[.iface tv xv, .iface tu xu] 141) := ⟨_, rfl⟩
   obtain ⟨PB, ePB⟩ : ∃ PB, PB = wr.heap.size := ⟨_, rfl⟩
   have hbA : Below wr.heap.size wr wA := by rw [ewA]; exact (Below.refl _ _).alloc (Nat.le_refl _) _
   have kP : wA.heap[PB]? = some (.cells #[.iface tv xv, .iface tu xu] 141) := by rw [ePB, ewA]; exact heap_alloc_new _ _
   have kE := (hbA.block _ (Array.getElem?_eq_some_iff.1 HK.out.1).1).trans HK.out.1; have kR := (hbA.block _ (Array.getElem?_eq_some_iff.1 HK.out.2).1).trans HK.out.2; have HIA : Hid (IC w wA OB pl j cl ((lefts ts).take j) pr j cr ((rights ts).take j) (.slice po no co)) := HI.out.below hbA; obtain ⟨ox0, ox1, ox2, ox3, -⟩ := HIA.out.bx; have hp0 := cell_of_row _ _ 0 _ _ _ kP; have hp1 := cell_of_row _ _ 1 _ _ _ kP
   have HKA : Hid (wA.heap[E]? = some (.cells #[.slice (some ⟨g, 0, none⟩) n c, .nilIface, .slice po no co] 86) ∧ wA.heap[E + 1]? = some (.cells #[.slice none 0 0, .slice none 0 0, .slice none 0 0, .slice none 0 0] 32) ∧ wA.heap[PB]? = some (.cells #[.iface tv xv, .iface tu xu] 141)) := ⟨kE, kR, kP⟩
   have HC1 : Hid (∀ W, Below w.heap.size w W → Calls Tryz.prog 25 #[.iface tv xv] W fun e w' => ∃ q m cp, e = .returned (.slice q m cp) ∧ OwnC w' W.heap.size q m cp A.1.cs ∧ Below W.heap.size W w') := fun W hW => cellsOf_any A.1.1 A.1.2 _ 0 W o1 (hfv.below hW) o2
   have HC2 : Hid (∀ W, Below w.heap.size w W → Calls Tryz.prog 25 #[.iface tu xu] W fun e w' => ∃ q m cp, e = .returned (.slice q m cp) ∧ OwnC w' W.heap.size q m cp A.2.cs ∧ Below W.heap.size W w') := fun W hW => cellsOf_any A.2.1 A.2.2 _ 0 W o3 (hfu.below hW) o4
   have hj1 : j ≤ 1000 := by omega
   have HKEEP : Hid (∀ W, Below wA.heap.size wA W → W.cell? ⟨OB, 0, none⟩ = some (.slice pl j cl) ∧ W.cell? ⟨PB, 0, none⟩ = some (.iface tv xv)) := fun W hW => ⟨(hW.cell (World.block_lt_of_cell? _ _ ox0)).trans ox0, (hW.cell (World.block_lt_of_cell? _ _ hp0)).trans hp0⟩
   clear hbA hbel hfv hfu o1 o2 o3 o4 pc0 pc1 kP kE kR eA HI HK ox1 ox2 ox3 hp1; go_wp2_with fail; rw [← ewA, ← ePB]; clear ewA y0 y1 ePB; have HBD1 : Hid (Below w.heap.size w wA.drew) := HIA.out.bel.trans (Below.refl _ _).drew; obtain ⟨hO, hP⟩ := HKEEP.out _ (Below.refl _ _).drew; refine wp_region_any (by kernel_rfl) ?_; refine wpAny_tail (p := 7) (S := fun W => W.cell? ⟨OB, 0, none⟩ = some (.slice pl j cl) ∧ W.cell? ⟨PB, 0, none⟩ = some (.iface tv xv)) (by kernel_rfl) 7 _ _ _ rfl (clo_start _ _ _) (by kernel_rfl) (by kernel_rfl) ?_
   change wpAnyH _ _ _ _ _ _ _ _ wA.drew
   have hS0 : wA.drew.cell? ⟨OB, 0, none⟩ = some (.slice pl j cl) ∧ wA.drew.cell? ⟨PB, 0, none⟩ = some (.iface tv xv) := ⟨hO, hP⟩
   refine hTk (i := 0) (v := .pointer (some ⟨OB, 0, none⟩)) (some 16) (fun o ho W hSw => ?y20) (by assumption) ?_
   case y20 => cases ho; simp [execOp, go_sem, Act.eval]
   simp only [Act.put, zzA, zzB, zzC]; refine hTk (i := 1) (v := .slice pl j cl) (some 17) (fun o ho W hSw => ?y21) (by assumption) ?_
   case y21 => cases ho; obtain ⟨t0, t1⟩ := hSw; simp [execOp, go_sem, Act.eval, t0]
   simp only [Act.put, zzA, zzB, zzC]; refine hTk (i := 2) (v := .pointer (some ⟨PB, 0, none⟩)) (some 18) (fun o ho W hSw => ?y22) (by assumption) ?_
   case y22 => cases ho; simp [execOp, go_sem, Act.eval]
   simp only [Act.put, zzA, zzB, zzC]; refine hTk (i := 3) (v := .iface tv xv) (some 19) (fun o ho W hSw => ?y23) (by assumption) ?_
   case y23 => cases ho; obtain ⟨t0, t1⟩ := hSw; simp [execOp, go_sem, Act.eval, t1]
   simp only [Act.put, zzA, zzB, zzC]; refine hCallE (i := 4) (f := 25) (args := #[(.iface tv xv)]) (some 20) (by kernel_rfl) (by kernel_rfl) (by kernel_rfl) (fun o ho => ?c24) (HC1.out _ (HBD1.out)) ?k24 (fun ch w' hh => by obtain ⟨_, _, _, h, _⟩ := hh; cases h) (fun w' hh => by obtain ⟨_, _, _, h, _⟩ := hh; cases h)
   case c24 => cases ho; simp [execOp, go_sem, Act.eval]
   case k24 =>
    rintro u5 w5 ⟨q5, m5, c5, hu5, ho5, hb5⟩; obtain rfl := Ending.returned.inj hu5; have hb5' : Below wA.heap.size wA w5 := (Below.refl _ _).drew.trans hb5; have hit5 : OwnC w5 w.heap.size q5 m5 c5 A.1.cs := ho5.mono (by simpa using HIA.out.bel.size); clear hu5 ho5 hb5 hS0; refine ⟨HKEEP.out w5 hb5', ?_⟩; simp only [Act.put, zzA, zzB, zzC]; have hbx : Below wA.heap.size wA (w5.alloc (.cells #[.slice q5 m5 c5] 23)) := hb5'.alloc hb5'.size _; refine hStep (i := 5) (v := .slice (some ⟨w5.heap.size, 0, none⟩) 1 1) (w' := w5.alloc (.cells #[.slice q5 m5 c5] 23)) (some 21) (by kernel_rfl) (by kernel_rfl) (by kernel_rfl) (fun o ho => ?y25) (HKEEP.out _ hbx) ?_
    case y25 => cases ho; simp [execOp, go_sem, Act.eval]
    simp only [Act.put, zzA, zzB, zzC]
    obtain ⟨w6, e6⟩ : ∃ w6, w6 = w5.alloc (.cells #[.slice q5 m5 c5] 23) := ⟨_, rfl⟩
    have kn : w6.cell? ⟨w5.heap.size, 0, none⟩ = some (slV (q5, m5, c5)) := by rw [e6]; exact cell_of_row _ _ 0 _ _ _ (heap_alloc_new _ _)
    have hb56 : Below w5.heap.size w5 w6 := by rw [e6]; exact (Below.refl _ _).alloc (Nat.le_refl _) _
    rw [← e6] at hbx; rw [← e6]; have hI6 := HIA.out.below hbx; obtain ⟨g6, cap6, w7, hr7, hI7, hkp7, hsz7⟩ := hI6.left 30 (q5, m5, c5) A.1.cs w5.heap.size (hit5.below hb56) kn hj1; obtain ⟨kE6, kR6, kP6⟩ := HKA.out; have kE7 := hkp7 _ _ _ _ ((hbx.block _ (Array.getElem?_eq_some_iff.1 kE6).1).trans kE6) (by decide); have kR7 := hkp7 _ _ _ _ ((hbx.block _ (Array.getElem?_eq_some_iff.1 kR6).1).trans kR6) (by decide); have kP7 := hkp7 _ _ _ _ ((hbx.block _ (Array.getElem?_eq_some_iff.1 kP6).1).trans kP6) (by decide); have kO7 := hkp7 _ _ _ _ hI6.box (by decide)
    have hS7 : w7.cell? ⟨OB, 0, none⟩ = some (.slice pl j cl) ∧ w7.cell? ⟨PB, 0, none⟩ = some (.iface tv xv) := ⟨cell_of_row _ _ 0 _ _ _ kO7, cell_of_row _ _ 0 _ _ _ kP7⟩
    refine hStep (i := 6) (v := .slice (some ⟨g6, 0, none⟩) (j + 1) cap6) (w' := w7) (some 22) (by kernel_rfl) (by kernel_rfl) (by kernel_rfl) (fun o ho => ?y6) hS7 ?_
    case y6 =>
     cases ho
     exact exec_appF rfl rfl rfl hr7
    simp only [Act.put, zzA, zzB, zzC]; refine wpAnyH_done (by kernel_rfl) ?_ _; have f7 : w7.frozen? ⟨OB, 0, none⟩ = false := frozen_of_row _ _ _ _ _ kO7; have hS7o := hS7.1
    obtain ⟨wB, e8⟩ : ∃ wB, wB = w7.setCell ⟨OB, 0, none⟩ (.slice (some ⟨g6, 0, none⟩) (j + 1) cap6) := ⟨_, rfl⟩
    refine tail_store (some 23) (by rfl) (by rfl) (by rfl) (v := .pointer (some ⟨OB, 0, none⟩)) ?_ (by rfl) (by rfl) (by rfl) (w' := wB) ?_ ?_
    ·simp [execOp, go_sem, Act.eval]
    ·rw [e8]; simp [execOp, go_sem, Act.eval, Act.put, hS7o, f7]
    simp only [Act.put, zzA, zzB, zzC]; rw [← e8] at hI7; have nE : E ≠ OB := HK3.out.2.2.2; have nR : E + 1 ≠ OB := HK3.out.2.2.1
    have nP : PB ≠ OB := fun e => by rw [e, kO7] at kP7; simp at kP7
    have HI8 : Hid (IC w wB OB (some ⟨g6, 0, none⟩) (j + 1) cap6 ((lefts ts).take j ++ [A.1.cs]) pr j cr ((rights ts).take j) (.slice po no co)) := hI7
    have hk8 : wB.heap[E]? = some (.cells #[.slice (some ⟨g, 0, none⟩) n c, .nilIface, .slice po no co] 86) ∧ wB.heap[E + 1]? = some (.cells #[.slice none 0 0, .slice none 0 0, .slice none 0 0, .slice none 0 0] 32) ∧ wB.heap[PB]? = some (.cells #[.iface tv xv, .iface tu xu] 141) := by
     rw [e8, heap_setCell_other _ _ _ _ (by simpa using nE), heap_setCell_other _ _ _ _ (by simpa using nR), heap_setCell_other _ _ _ _ (by simpa using nP)]; exact ⟨kE7, kR7, kP7⟩
    have HK8 : Hid _ := hk8; clear hk8 nE nR nP hI7 e8 hS7 hS7o f7 kO7 kP7 kR7 kE7 kE6 kR6 kP6 hr7 hkp7 hsz7 hI6 kn hb56 hbx e6 hit5 hb5' hO hP; obtain ⟨ox0, ox1, -, -, -⟩ := HI8.out.bx; have hp1 := cell_of_row _ _ 1 _ _ _ HK8.out.2.2
    have HKEEP2 : Hid (∀ W, Below wB.heap.size wB W → W.cell? ⟨OB, 1, none⟩ = some (.slice pr j cr) ∧ W.cell? ⟨PB, 1, none⟩ = some (.iface tu xu)) := fun W hW => ⟨(hW.cell (World.block_lt_of_cell? _ _ ox1)).trans ox1, (hW.cell (World.block_lt_of_cell? _ _ hp1)).trans hp1⟩
    obtain ⟨pl1, epl⟩ : ∃ pl1, pl1 = some (⟨g6, 0, none⟩ : Addr) := ⟨_, rfl⟩
    rw [← epl] at HI8; have HIB : Hid (IC w wB OB pl1 (j + 1) cap6 ((lefts ts).take j ++ [A.1.cs]) pr j cr ((rights ts).take j) (.slice po no co)) := HI8; have HKB := HK8; have HBD2 : Hid (Below w.heap.size w wB.drew) := HIB.out.bel.trans (Below.refl _ _).drew
    obtain ⟨cl1, ecl⟩ : ∃ cl1, cl1 = cap6 := ⟨_, rfl⟩
    rw [← ecl] at HIB; clear HI8 HK8 ox0 ox1 hp1 HIA HKA HKEEP epl ecl; go_wp2_with fail; obtain ⟨hO, hP⟩ := HKEEP2.out _ (Below.refl _ _).drew; refine wp_region_any (by kernel_rfl) ?_; refine wpAny_tail (p := 7) (S := fun W => W.cell? ⟨OB, 1, none⟩ = some (.slice pr j cr) ∧ W.cell? ⟨PB, 1, none⟩ = some (.iface tu xu)) (by kernel_rfl) 7 _ _ _ rfl (clo_start _ _ _) (by kernel_rfl) (by kernel_rfl) ?_
    change wpAnyH _ _ _ _ _ _ _ _ wB.drew
    have hS0 : wB.drew.cell? ⟨OB, 1, none⟩ = some (.slice pr j cr) ∧ wB.drew.cell? ⟨PB, 1, none⟩ = some (.iface tu xu) := ⟨hO, hP⟩
    refine hTk (i := 0) (v := .pointer (some ⟨OB, 1, none⟩)) (some 24) (fun o ho W hSw => ?y60) (by assumption) ?_
    case y60 => cases ho; simp [execOp, go_sem, Act.eval]
    simp only [Act.put, zzA, zzB, zzC]; refine hTk (i := 1) (v := .slice pr j cr) (some 25) (fun o ho W hSw => ?y61) (by assumption) ?_
    case y61 => cases ho; obtain ⟨t0, t1⟩ := hSw; simp [execOp, go_sem, Act.eval, t0]
    simp only [Act.put, zzA, zzB, zzC]; refine hTk (i := 2) (v := .pointer (some ⟨PB, 1, none⟩)) (some 26) (fun o ho W hSw => ?y62) (by assumption) ?_
    case y62 => cases ho; simp [execOp, go_sem, Act.eval]
    simp only [Act.put, zzA, zzB, zzC]; refine hTk (i := 3) (v := .iface tu xu) (some 27) (fun o ho W hSw => ?y63) (by assumption) ?_
    case y63 => cases ho; obtain ⟨t0, t1⟩ := hSw; simp [execOp, go_sem, Act.eval, t1]
    simp only [Act.put, zzA, zzB, zzC]; refine hCallE (i := 4) (f := 25) (args := #[(.iface tu xu)]) (some 28) (by kernel_rfl) (by kernel_rfl) (by kernel_rfl) (fun o ho => ?c64) (HC2.out _ (HBD2.out)) ?k64 (fun ch w' hh => by obtain ⟨_, _, _, h, _⟩ := hh; cases h) (fun w' hh => by obtain ⟨_, _, _, h, _⟩ := hh; cases h)
    case c64 => cases ho; simp [execOp, go_sem, Act.eval]
    case k64 =>
     rintro u5 w5 ⟨q5, m5, c5, hu5, ho5, hb5⟩; obtain rfl := Ending.returned.inj hu5; have hb5' : Below wB.heap.size wB w5 := (Below.refl _ _).drew.trans hb5; have hit5 : OwnC w5 w.heap.size q5 m5 c5 A.2.cs := ho5.mono (by simpa using HIB.out.bel.size); clear hu5 ho5 hb5 hS0; refine ⟨HKEEP2.out w5 hb5', ?_⟩; simp only [Act.put, zzA, zzB, zzC]; have hbx : Below wB.heap.size wB (w5.alloc (.cells #[.slice q5 m5 c5] 23)) := hb5'.alloc hb5'.size _; refine hStep (i := 5) (v := .slice (some ⟨w5.heap.size, 0, none⟩) 1 1) (w' := w5.alloc (.cells #[.slice q5 m5 c5] 23)) (some 29) (by kernel_rfl) (by kernel_rfl) (by kernel_rfl) (fun o ho => ?y65) (HKEEP2.out _ hbx) ?_
     case y65 => cases ho; simp [execOp, go_sem, Act.eval]
     simp only [Act.put, zzA, zzB, zzC]
     obtain ⟨w6, e6⟩ : ∃ w6, w6 = w5.alloc (.cells #[.slice q5 m5 c5] 23) := ⟨_, rfl⟩
     have kn : w6.cell? ⟨w5.heap.size, 0, none⟩ = some (slV (q5, m5, c5)) := by rw [e6]; exact cell_of_row _ _ 0 _ _ _ (heap_alloc_new _ _)
     have hb56 : Below w5.heap.size w5 w6 := by rw [e6]; exact (Below.refl _ _).alloc (Nat.le_refl _) _
     rw [← e6] at hbx; rw [← e6]; have hI6 := HIB.out.below hbx; obtain ⟨g6, cap6, w7, hr7, hI7, hkp7, hsz7⟩ := hI6.right 30 (q5, m5, c5) A.2.cs w5.heap.size (hit5.below hb56) kn hj1; obtain ⟨kE6, kR6, kP6⟩ := HKB.out; have kE7 := hkp7 _ _ _ _ ((hbx.block _ (Array.getElem?_eq_some_iff.1 kE6).1).trans kE6) (by decide); have kR7 := hkp7 _ _ _ _ ((hbx.block _ (Array.getElem?_eq_some_iff.1 kR6).1).trans kR6) (by decide); have kP7 := hkp7 _ _ _ _ ((hbx.block _ (Array.getElem?_eq_some_iff.1 kP6).1).trans kP6) (by decide); have kO7 := hkp7 _ _ _ _ hI6.box (by decide)
     have hS7 : w7.cell? ⟨OB, 1, none⟩ = some (.slice pr j cr) ∧ w7.cell? ⟨PB, 1, none⟩ = some (.iface tu xu) := ⟨cell_of_row _ _ 1 _ _ _ kO7, cell_of_row _ _ 1 _ _ _ kP7⟩
     refine hStep (i := 6) (v := .slice (some ⟨g6, 0, none⟩) (j + 1) cap6) (w' := w7) (some 30) (by kernel_rfl) (by kernel_rfl) (by kernel_rfl) (fun o ho => ?y6) hS7 ?_
     case y6 =>
      cases ho
      exact exec_appF rfl rfl rfl hr7
     simp only [Act.put, zzA, zzB, zzC]; refine wpAnyH_done (by kernel_rfl) ?_ _; have f7 : w7.frozen? ⟨OB, 1, none⟩ = false := frozen_of_row _ _ _ _ _ kO7; have hS7o := hS7.1
     obtain ⟨w8, e8⟩ : ∃ w8, w8 = w7.setCell ⟨OB, 1, none⟩ (.slice (some ⟨g6, 0, none⟩) (j + 1) cap6) := ⟨_, rfl⟩
     refine tail_store (some 31) (by rfl) (by rfl) (by rfl) (v := .pointer (some ⟨OB, 1, none⟩)) ?_ (by rfl) (by rfl) (by rfl) (w' := w8) ?_ ?_
     ·simp [execOp, go_sem, Act.eval]
     ·rw [e8]; simp [execOp, go_sem, Act.eval, Act.put, hS7o, f7]
     simp only [Act.put, zzA, zzB, zzC]; rw [← e8] at hI7; have nE : E ≠ OB := HK3.out.2.2.2; have nR : E + 1 ≠ OB := HK3.out.2.2.1
     have nP : PB ≠ OB := fun e => by rw [e, kO7] at kP7; simp at kP7
     have HI8 : Hid (IC w w8 OB pl1 (j + 1) cl1 ((lefts ts).take j ++ [A.1.cs]) (some ⟨g6, 0, none⟩) (j + 1) cap6 ((rights ts).take j ++ [A.2.cs]) (.slice po no co)) := hI7
     have hk8 : w8.heap[E]? = some (.cells #[.slice (some ⟨g, 0, none⟩) n c, .nilIface, .slice po no co] 86) ∧ w8.heap[E + 1]? = some (.cells #[.slice none 0 0, .slice none 0 0, .slice none 0 0, .slice none 0 0] 32) ∧ w8.heap[PB]? = some (.cells #[.iface tv xv, .iface tu xu] 141) := by
      rw [e8, heap_setCell_other _ _ _ _ (by simpa using nE), heap_setCell_other _ _ _ _ (by simpa using nR), heap_setCell_other _ _ _ _ (by simpa using nP)]; exact ⟨kE7, kR7, kP7⟩
     have HK8 : Hid _ := hk8; clear hk8 nE nR nP hI7 e8 hS7 hS7o f7 kO7 kP7 kR7 kE7 kE6 kR6 kP6 hr7 hkp7 hsz7 hI6 kn hb56 hbx e6 hit5 hb5' hO hP; rw [← HLS.out.1, ← HLS.out.2] at HI8; go_wp2_with fail; go_roundw
     case rel => exact ⟨j + 1, pl1, cl1, some ⟨g6, 0, none⟩, cap6, by omega, by go_num, HI8, HK8.out.1, HK8.out.2.1⟩
     case measure => simp [intOf]; omega
  ·obtain rfl : j = n := by omega
   have HI' : IC w wr OB pl j cl (lefts ts) pr j cr (rights ts) (.slice po no co) := by
    have h := HI.out; rw [List.take_of_length_le (by simp [lefts, HN.out]), List.take_of_length_le (by simp [rights, HN.out])] at h; exact h
   obtain ⟨ox0, ox1, ox2, ox3, -⟩ := HI'.bx; have z0 := cell_of_row _ _ 1 _ _ _ HK.out.1
   have FIN : Hid (∀ v0 v1 v2 v3, LS (wr4 wr (E + 1) v0 v1 v2 v3) w.heap.size pl j cl (lefts ts) ∧ LS (wr4 wr (E + 1) v0 v1 v2 v3) w.heap.size pr j cr (rights ts) ∧ Below w.heap.size w (wr4 wr (E + 1) v0 v1 v2 v3)) := fun v0 v1 v2 v3 => by
    have hE := HE.out.1; exact ⟨wr4_ls HI'.lft HK.out.2 _ _ _ _, wr4_ls HI'.rgt HK.out.2 _ _ _ _, wr4_below HI'.bel (by omega) _ _ _ _⟩
   have HP : Hid (∀ v0 v1 v2 v3, (wr4 wr (E + 1) v0 v1 v2 v3).cell? ⟨E + 1, 0, none⟩ = some v0 ∧ (wr4 wr (E + 1) v0 v1 v2 v3).cell? ⟨E + 1, 1, none⟩ = some v1 ∧ (wr4 wr (E + 1) v0 v1 v2 v3).cell? ⟨E + 1, 2, none⟩ = some v2 ∧ (wr4 wr (E + 1) v0 v1 v2 v3).cell? ⟨E + 1, 3, none⟩ = some v3) := fun v0 v1 v2 v3 => wr4_box HK.out.2 _ _ _ _
   have r0 := cell_of_row _ _ 0 _ _ _ HK.out.2; have r1 := cell_of_row _ _ 1 _ _ _ HK.out.2; have r2 := cell_of_row _ _ 2 _ _ _ HK.out.2; have r3 := cell_of_row _ _ 3 _ _ _ HK.out.2
   have rf := fun k => frozen_of_row _ _ k _ _ HK.out.2
   clear HI HK HI'; go_wp2_with fail; obtain ⟨d0, d1, d2, d3⟩ := HP.out (.slice pl j cl) (.slice pr j cr) (.slice none 0 0) (.slice po no co); exact bodyPost_ret (v := .agg #[.slice pl j cl, .slice pr j cr, .slice none 0 0, .slice po no co]) (by simp [results, Tryz.results33, go_sem, d0, d1, d2, d3]) rfl ⟨pl, cl, pr, cr, rfl, FIN.out _ _ _ _⟩
theorem OwnC.set4 {w : World} {B m c : Nat} {q : Option Addr} {cs : List Cel} (h : OwnC w B q m c cs) {T : Nat} {p0 : Option Addr} {n0 c0 : Nat} {u1 u2 u3 : Value} (hb : w.heap[T]? = some (.cells #[.slice p0 n0 c0, u1, u2, u3] 32)) (i : Nat) (v : Value) : OwnC (w.setCell ⟨T, i, none⟩ v) B q m c cs :=
 h.grownS (row := some T) ⟨rfl, rfl, rfl, by simp, fun k hk hne => heap_setCell_other _ _ _ _ (fun e => hne (by simp at e; rw [e]))⟩ (fun g e => by cases e; exact ⟨_, _, _, hb, by decide, _, _, _, rfl⟩)
theorem wr4_own {w : World} {T B m cc : Nat} {q : Option Addr} {cs : List Cel} (h : OwnC w B q m cc cs) {p0 : Option Addr} {n0 c0 : Nat} {u1 u2 u3 : Value} (hb : w.heap[T]? = some (.cells #[.slice p0 n0 c0, u1, u2, u3] 32)) (a b c d : Value) : OwnC (wr4 w T a b c d) B q m cc cs :=
 h.grownS (row := some T) ⟨rfl, rfl, rfl, by simp [wr4], fun k hk hne => wr4_other (fun e => hne (by rw [e]))⟩ (fun g e => by cases e; exact ⟨_, _, _, hb, by decide, _, _, _, rfl⟩)
set_option maxHeartbeats 4000000 in
theorem inCells_fault (A : Tr) (v : Value) (w : World) (hok : A.fo.ok) (hl : A.2.cells.length ≤ 10000) (hf : FoIn w 0 A.fo [v]) :
  Calls Tryz.prog 33 #[.agg #[.slice none 0 0, v, .slice none 0 0]] w fun e w' => ∃ q m c, e = .returned (.agg #[.slice none 0 0, .slice none 0 0, .slice q m c, .slice none 0 0]) ∧ OwnC w' w.heap.size q m c A.cs ∧ Below w.heap.size w w' := by
 obtain ⟨tv, xv, rfl⟩ := FoIn.iface (c := A.1) (k := A.2) (r := .nil) hf
 obtain ⟨w1, e1⟩ : ∃ w1, w1 = w.alloc (.cells #[.slice none 0 0, .iface tv xv, .slice none 0 0] 86) := ⟨_, rfl⟩
 obtain ⟨w2, e2⟩ : ∃ w2, w2 = w1.alloc (.cells #[.slice none 0 0, .slice none 0 0, .slice none 0 0, .slice none 0 0] 32) := ⟨_, rfl⟩
 obtain ⟨w3, e3⟩ : ∃ w3, w3 = w2.alloc (.cells #[.slice none 0 0, .slice none 0 0, .slice none 0 0, .slice none 0 0] 32) := ⟨_, rfl⟩
 have hs1 : w1.heap.size = w.heap.size + 1 := by rw [e1]; simp
 have hs2 : w2.heap.size = w.heap.size + 1 + 1 := by rw [e2, ← hs1]; simp
 have hb1 : Below w.heap.size w w1 := by rw [e1]; exact (Below.refl _ _).alloc (Nat.le_refl _) _
 have hb2 : Below w1.heap.size w1 w2 := by rw [e2]; exact (Below.refl _ _).alloc (Nat.le_refl _) _
 have hb3 : Below w2.heap.size w2 w3 := by rw [e3]; exact (Below.refl _ _).alloc (Nat.le_refl _) _
 have hB3 : Below w.heap.size w w3 := Below.on hb1 (Below.on hb2 hb3)
 have k1 : w3.heap[w.heap.size]? = some (.cells #[.slice none 0 0, .iface tv xv, .slice none 0 0] 86) := by rw [hb3.block _ (by omega), hb2.block _ (by omega), e1]; exact heap_alloc_new _ _
 have k2 : w3.heap[w.heap.size + 1]? = some (.cells #[.slice none 0 0, .slice none 0 0, .slice none 0 0, .slice none 0 0] 32) := by rw [hb3.block _ (by omega), e2, ← hs1]; exact heap_alloc_new _ _
 have k3 : w3.heap[w.heap.size + 1 + 1]? = some (.cells #[.slice none 0 0, .slice none 0 0, .slice none 0 0, .slice none 0 0] 32) := by rw [e3, ← hs2]; exact heap_alloc_new _ _
 have HK : Hid (∀ W, Below w3.heap.size w3 W → W.heap[w.heap.size + 1]? = some (.cells #[.slice none 0 0, .slice none 0 0, .slice none 0 0, .slice none 0 0] 32) ∧ W.heap[w.heap.size + 1 + 1]? = some (.cells #[.slice none 0 0, .slice none 0 0, .slice none 0 0, .slice none 0 0] 32)) := fun W hW => ⟨(hW.block _ (Array.getElem?_eq_some_iff.1 k2).1).trans k2, (hW.block _ (Array.getElem?_eq_some_iff.1 k3).1).trans k3⟩
 have HC : Hid (Calls Tryz.prog 25 #[.iface tv xv] w3 fun e w' => ∃ q m cp, e = .returned (.slice q m cp) ∧ OwnC w' w3.heap.size q m cp A.cs ∧ Below w3.heap.size w3 w') := cellsOf_any A.1 A.2 _ 0 w3 hok (hf.below hB3) hl; have HB3 : Hid (Below w.heap.size w w3) := hB3; have x0 := cell_of_row _ _ 0 _ _ _ k1; have x1 := cell_of_row _ _ 1 _ _ _ k1; have x2 := cell_of_row _ _ 2 _ _ _ k1; have HE3 : Hid (w3 = w2.alloc (.cells #[.slice none 0 0, .slice none 0 0, .slice none 0 0, .slice none 0 0] 32)) := e3; rw [e1] at e2; rw [e2] at e3; rw [e3] at x0 x1 x2; clear hok hl hf hs1 hs2 hb1 hb2 hb3 hB3 k1 k2 k3 e1 e2 HE3
 go_enter Tryz.func33, Tryz.ntmps33
 go_wp2_with fail; refine wp_loop_rounds 1 ?_; rw [rounds_succ]; go_wp2_with fail; rw [← e3]; clear e3 x0 x1 x2; refine HC.out.mono ?_; rintro e w4 ⟨q, m, c, rfl, ho, hb4⟩; obtain ⟨k2, k3⟩ := HK.out w4 hb4; have HSZ : w.heap.size ≤ w3.heap.size := HB3.out.size; have hB4 := Below.on HB3.out hb4; have r0 := cell_of_row _ _ 0 _ _ _ k2; have r1 := cell_of_row _ _ 1 _ _ _ k2; have r2 := cell_of_row _ _ 2 _ _ _ k2; have r3 := cell_of_row _ _ 3 _ _ _ k2
 have rf := fun k => frozen_of_row _ _ k _ _ k2
 have s0 := cell_of_row _ _ 0 _ _ _ k3; have s1 := cell_of_row _ _ 1 _ _ _ k3; have s2 := cell_of_row _ _ 2 _ _ _ k3; have s3 := cell_of_row _ _ 3 _ _ _ k3
 have sf := fun k => frozen_of_row _ _ k _ _ k3
 have k2' : (w4.setCell ⟨w.heap.size + 1 + 1, 2, none⟩ (.slice q m c)).heap[w.heap.size + 1]? = some (.cells #[.slice none 0 0, .slice none 0 0, .slice none 0 0, .slice none 0 0] 32) := (heap_setCell_other _ _ _ _ (by simp)).trans k2
 have FIN : Hid (∀ v0 v1 v2 v3, OwnC (wr4 (w4.setCell ⟨w.heap.size + 1 + 1, 2, none⟩ (.slice q m c)) (w.heap.size + 1) v0 v1 v2 v3) w.heap.size q m c A.cs ∧ Below w.heap.size w (wr4 (w4.setCell ⟨w.heap.size + 1 + 1, 2, none⟩ (.slice q m c)) (w.heap.size + 1) v0 v1 v2 v3)) := fun v0 v1 v2 v3 =>
  ⟨(wr4_own (ho.set4 k3 2 (.slice q m c)) k2' v0 v1 v2 v3).mono HSZ, wr4_below (hB4.setCell (Nat.le_trans (Nat.le_succ _) (Nat.le_succ _)) _) (by omega) _ _ _ _⟩
 have HP : Hid (∀ v0 v1 v2 v3, _) := fun v0 v1 v2 v3 => wr4_box k2' v0 v1 v2 v3
 clear HC k2 k3 k2' ho hb4 hB4 HSZ
 go_wp2
 obtain ⟨d0, d1, d2, d3⟩ := HP.out (.slice none 0 0) (.slice none 0 0) (.slice q m c) (.slice none 0 0); exact bodyPost_ret (v := .agg #[.slice none 0 0, .slice none 0 0, .slice q m c, .slice none 0 0]) (by simp [results, Tryz.results33, go_sem, d0, d1, d2, d3]) rfl ⟨q, m, c, rfl, FIN.out _ _ _ _⟩
theorem foA_upF {W : World} {A : Nat → Prop} {B : Nat} {F : Fo} {vs : List Value} (h : FoIn W B F vs) (hb : ∀ a, A a → a < B) : FoA A W F vs := by
 refine FoIn.imp (Nat.zero_le _) (fun b o h1 h2 => ?_) (by rw [strikeA_size]; exact Nat.le_refl _) F vs h
 cases hc : W.cell? ⟨b, o, none⟩ with
 | some v => exact strikeA_cell.2 ⟨fun ha => by have := hb _ ha; simp only at this; omega, hc⟩
 | none =>
   cases hd : (strikeA A W).cell? ⟨b, o, none⟩ with
   | none => rfl
   | some v => rw [(strikeA_cell.1 hd).2] at hc; cases hc
theorem FoA.belowF {A : Nat → Prop} {W W' : World} {F : Fo} {vs : List Value} (h : FoA A W F vs) (hb : Below W.heap.size W W') : FoA A W' F vs :=
 h.move (fun p v hA hp => ⟨hA, (hb.cell (World.block_lt_of_cell? _ _ hp)).trans hp⟩) hb.size
def T0 : Tr := (Cel.none, .nil)
def ArgT (W : World) (p : Option Addr) (ts : List Tr) : Prop := ∀ i, i < ts.length → ∃ g v, p = some ⟨g, 0, none⟩ ∧ W.cell? ⟨g, i, none⟩ = some v ∧ FoIn W 0 (ts.getD i T0).fo [v]
theorem ArgT.below {w w' : World} {p : Option Addr} {ts : List Tr} (h : ArgT w p ts) (hb : Below w.heap.size w w') : ArgT w' p ts := fun i hi => by
 obtain ⟨g, v, e, h1, h2⟩ := h i hi; exact ⟨g, v, e, (hb.cell (World.block_lt_of_cell? _ _ h1)).trans h1, h2.below hb⟩
structure AT (w0 w : World) (cb : Nat) (p : Option Addr) (n c : Nat) (V : List Value) (ts : List Tr) (ops fr : Value) : Prop where
 bel : Below cb w0 w
 len : n = V.length ∧ n = ts.length
 row : w.ownsRow (cb + 1) 54 1 (.slice p n c) n V
 box : w.heap[cb]? = some (.cells #[ops, .slice p n c, fr] 83)
 tre : ∀ i, i < n → FoA (fun k => k = cb ∨ some k = Value.ownBlock (.slice p n c)) w (ts.getD i T0).fo [V.getD i .nilIface]
section
variable {w0 w : World} {cb : Nat} {p : Option Addr} {n c : Nat} {V : List Value} {ts : List Tr} {ops fr : Value}
theorem AT.lt (H : AT w0 w cb p n c V ts ops fr) : cb < w.heap.size := (Array.getElem?_eq_some_iff.1 H.box).1
theorem AT.rowT (H : AT w0 w cb p n c V ts ops fr) {g : Nat} (hg : Value.ownBlock (.slice p n c) = some g) : ∃ cur fz, w.heap[g]? = some (.cells cur 54 fz) ∧ cb + 1 ≤ g ∧ g < w.heap.size := by
 rcases H.row.2 with ⟨h', _⟩ | ⟨g', cap, cur, hv, hB, hh, r⟩
 ·rw [h'] at hg; cases hg
 ·rw [hv] at hg
  cases hg
  exact ⟨cur, _, hh, hB, (Array.getElem?_eq_some_iff.1 hh).1⟩
theorem AT.below (H : AT w0 w cb p n c V ts ops fr) {w' : World} (hb : Below w.heap.size w w') : AT w0 w' cb p n c V ts ops fr :=
 ⟨⟨hb.os.trans H.bel.os, hb.tape.trans H.bel.tape, hb.output.trans H.bel.output, Nat.le_trans H.bel.size hb.size, fun k hk => (hb.block k (by have := H.lt; omega)).trans (H.bel.block k hk)⟩, H.len, row_below H.row hb, (hb.block _ H.lt).trans H.box, fun i hi => (H.tre i hi).belowF hb⟩
theorem AT.args (H : AT w0 w cb p n c V ts ops fr) : ArgT w p ts := fun i hi => by
 have hn : i < n := by rw [H.len.2]; exact hi
 obtain ⟨g, cap, hv, hb, hg⟩ := H.row.form (by omega); simp only [Value.slice.injEq, true_and] at hv; obtain ⟨rfl, rfl⟩ := hv; refine ⟨g, V.getD i .nilIface, rfl, ?_, (H.tre i hn).foIn⟩; rw [H.row.cellAt i (by omega), List.getD, List.getElem?_eq_getElem (by rw [← H.len.1]; exact hn)]
 rfl
theorem getD_appL {α : Type} (a b : List α) (i : Nat) (d : α) (h : i < a.length) : (a ++ b).getD i d = a.getD i d := by simp [List.getD, List.getElem?_append_left h]
theorem getD_lastL {α : Type} (a : List α) (x d : α) (i : Nat) (h : i = a.length) : (a ++ [x]).getD i d = x := by subst h; simp [List.getD]
theorem AT.app (H : AT w0 w cb p n c V ts ops fr) (ty : TypeId) (A : Tr) (v : Value) (e : Nat) (hf : FoA (fun k => k = cb ∨ some k = Value.ownBlock (.slice p n c)) w A.fo [v]) (he : w.cell? ⟨e, 0, none⟩ = some v) (h1 : v.oneCell' = true) (hm : n ≤ 1000) :
  ∃ g cap w', (Builtin.append_ #[81, 81] ty #[.slice p n c, .slice (some ⟨e, 0, none⟩) 1 1]).run Tryz.prog w = .ok (.slice (some ⟨g, 0, none⟩) (n + 1) cap) w' ∧ AT w0 (w'.setCell ⟨cb, 1, none⟩ (.slice (some ⟨g, 0, none⟩) (n + 1) cap)) cb (some ⟨g, 0, none⟩) (n + 1) cap (V ++ [v]) (ts ++ [A]) ops fr ∧ w'.heap[cb]? = some (.cells #[ops, .slice p n c, fr] 83) := by
 obtain ⟨i0, hi, hz0, hz1, hz2⟩ := info_parts infoTerm; have hlt := H.lt; obtain ⟨g, cap, w', hr, hown', hg, hat, hlg⟩ := run_append_lies (P := Tryz.prog) w 81 ty (cb + 1) 54 i0 .nilIface 1 16 Tryz.underlying81 hi hz0 hz1 hz2 rfl (by decide) (.slice p n c) n V H.row ⟨e, 0, none⟩ 1 1 [v] rfl
  (fun j u hj => by
    cases j with
    | zero => simp at hj; subst hj; rw [Addr.add_lit]; exact he
    | succ j => simp at hj) (fun u hu => by rw [List.mem_singleton.1 hu]; exact h1) (by decide) (by unfold maxLen; omega) (by omega) (by omega) _ rfl
 have hbx : w'.heap[cb]? = some (.cells #[ops, .slice p n c, fr] 83) := by
  refine (hg.block cb hlt (fun e => ?_)).trans H.box; obtain ⟨_, _, _, h2, _⟩ := H.rowT e.symm
  omega
 have hgc : g ≠ cb := by
  rcases hat with h | h
  ·obtain ⟨_, _, _, h2, _⟩ := H.rowT h
   omega
  ·omega
 have hmv : ∀ F vs, FoA (fun k => k = cb ∨ some k = Value.ownBlock (.slice p n c)) w F vs → FoA (fun k => k = cb ∨ some k = Value.ownBlock (.slice (some ⟨g, 0, none⟩) (n + 1) cap)) (w'.setCell ⟨cb, 1, none⟩ (.slice (some ⟨g, 0, none⟩) (n + 1) cap)) F vs := fun F vs hF => by
  refine hF.move (fun q u hA hq => ?_) (by simpa using hg.size); have hql := World.block_lt_of_cell? _ _ hq
  have h1 : q.block ≠ cb := fun e => hA (.inl e)
  have h2 : some q.block ≠ Value.ownBlock (.slice p n c) := fun e => hA (.inr e)
  refine ⟨fun h => ?_, ?_⟩
  ·rcases h with h | h
   ·exact h1 h
   ·have hqg : q.block = g := by simpa [Value.ownBlock] using h
    rcases hat with h' | h'
    ·exact h2 (by rw [hqg]; exact h'.symm)
    ·omega
  ·rw [World.cell?_setCell_other _ _ _ _ (fun e => h1 (by rw [← e])), World.cell?_of_block (hg.block _ hql h2)]
   exact hq
 refine ⟨g, cap, w', hr, ⟨?_, ⟨by simp [H.len.1], by simp [H.len.2]⟩, ?_, ?_, fun i hi => ?_⟩, hbx⟩
 ·have h0 := H.bel
  refine Below.setCell ⟨hg.os.trans h0.os, hg.tape.trans h0.tape, hg.output.trans h0.output, Nat.le_trans h0.size hg.size, fun k hk => (hg.block k (by omega) (fun e => ?_)).trans (h0.block k hk)⟩ (Nat.le_refl _) _; obtain ⟨_, _, _, h2, _⟩ := H.rowT e.symm
  omega
 ·refine hown'.kept (row := some cb) ⟨rfl, rfl, rfl, by simp, fun k hk hne => heap_setCell_other _ _ _ _ (fun e => hne (by simp at e; rw [e]))⟩ (.inr (fun e => hgc (by simpa [Value.ownBlock] using e)))
 ·rw [heap_setCell_same _ _ _ _ _ _ hbx]; rfl
 ·rcases Nat.lt_or_ge i n with hin | hin
  ·have h := hmv _ _ (H.tre i hin)
   rw [getD_appL _ _ _ _ (by rw [← H.len.2]; exact hin), getD_appL _ _ _ _ (by rw [← H.len.1]; exact hin)]; exact h
  ·obtain rfl : i = n := by omega
   have h := hmv _ _ hf; rw [getD_lastL ts A T0 i H.len.2, getD_lastL V v .nilIface i H.len.1]; exact h
end
end Go.Proofs.YtkklidpnkofipaaGreatDoor
