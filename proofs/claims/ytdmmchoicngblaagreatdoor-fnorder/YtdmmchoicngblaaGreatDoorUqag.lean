/- Texts of LsA, RowK, CoS, Dt2, Dt4, SSU, Dt16, OpsA, OpsMG. Own work of the verifier. -/
import Derived.Test.YtdmmchoicngblaaGreatDoorUqad
import Derived.Test.YtdmmchoicngblaaGreatDoorUqaf
namespace Go.Proofs.YtdmmchoicngblaaGreatDoor
set_option linter.unusedVariables false
set_option maxRecDepth 100000
section
open Go Go.RowKit
def RowG (w : World) (g : Nat) : Prop := ∃ cur, w.heap[g]? = some (.cells cur 23 (0, 0)) ∧ ∃ q n c, cur[0]? = some (.slice q n c)
theorem OwnC.grown {w w' : World} {B n c : Nat} {p : Option Addr} {cs : List Cel} {row : Option Nat} (h : OwnC w B p n c cs) (hg : w.grownBy w' row) (hr : ∀ g, row = some g → RowG w g) : OwnC w' B p n c cs := by
 obtain ⟨hn, rs, hl, ho, hf, ha⟩ := h; refine ⟨hn, rs, hl, ho.kept hg ?_, fun i hi => ⟨(hf i hi).1, (hf i hi).2.1, (hf i hi).2.2.other hg.size (fun k h0 ek => ?_)⟩, ha⟩
 ·rcases ho.2 with ⟨hv, _⟩ | ⟨g, cap, cur, hv, _, hgg, _⟩
  ·rw [hv]; exact .inl rfl
  ·refine .inr (fun e => ?_)
   rw [hv] at e; obtain ⟨cur', h1, _⟩ := hr g e.symm; rw [h1] at hgg
   simp at hgg
 ·obtain ⟨k', e', _, hk, hc⟩ := (hf i hi).2.2.2 h0
  rw [ek] at e'
  cases e'
  refine hg.block k hk (fun e => ?_); obtain ⟨cur', h1, q, m, d, h2⟩ := hr k e.symm; have h3 := (hc 0 h0).1
  unfold World.cell? at h3
  simp only [h1] at h3
  have h4 : cur'[0]? = some (.int .u8 (((cs.getD i Cel.none).2.2).getD 0 0)) := by simpa using h3
  rw [h2] at h4
  cases h4
abbrev Sl3 := Option Addr × Nat × Nat
def Sl3.zero : Sl3 := (none, 0, 0)
def LS (w : World) (B : Nat) (q : Option Addr) (m c : Nat) (css : List (List Cel)) : Prop :=
 (css.length = 0 → q = none) ∧ ∃ rs : List Sl3, rs.length = css.length ∧ m = css.length ∧ w.ownsRow B 23 1 (.slice q m c) m (rs.map slV) ∧ ∀ j, j < css.length → OwnC w B (rs.getD j Sl3.zero).1 (rs.getD j Sl3.zero).2.1 (rs.getD j Sl3.zero).2.2 (css.getD j [])
theorem LS.nil (w : World) (B : Nat) : LS w B none 0 0 [] := ⟨fun _ => rfl, [], rfl, rfl, World.ownsRow_nil _ _ _ _, fun j h => by simp at h⟩
theorem LS.kept {w w' : World} {B m c : Nat} {q : Option Addr} {css : List (List Cel)} {row : Option Nat} (h : LS w B q m c css) (hg : w.grownBy w' row) (hr : ∀ g, row = some g → RowG w g) (hne : Value.ownBlock (.slice q m c) = none ∨ Value.ownBlock (.slice q m c) ≠ row) : LS w' B q m c css := by
 obtain ⟨hz, rs, h1, h2, h3, h4⟩ := h; exact ⟨hz, rs, h1, h2, h3.kept hg hne, fun j hj => (h4 j hj).grown hg hr⟩
theorem LS.below {w w' : World} {B m c : Nat} {q : Option Addr} {css : List (List Cel)} (h : LS w B q m c css) (hb : Below w.heap.size w w') : LS w' B q m c css :=
 h.kept (row := none) ⟨hb.os, hb.tape, hb.output, hb.size, fun k hk _ => hb.block k hk⟩ (fun g e => by cases e) (by cases hv : Value.ownBlock (.slice q m c) <;> simp)
theorem LS.row {w : World} {B m c : Nat} {q : Option Addr} {css : List (List Cel)} (h : LS w B q m c css) : ∀ g, Value.ownBlock (.slice q m c) = some g → 0 < css.length → RowG w g ∧ B ≤ g ∧ g < w.heap.size := by
 intro g hg h0
 obtain ⟨hz, rs, h1, h2, h3, h4⟩ := h; have hlt := h3.lt g hg
 rcases h3.2 with ⟨hv, _⟩ | ⟨g', cap, cur, hv, hB, hgg, hnc, _, hcs, htk⟩
 ·rw [hv] at hg; cases hg
 ·rw [hv] at hg
  cases hg
  refine ⟨⟨cur, hgg, ?_⟩, hlt⟩
  have e : cur.toList[0]? = (rs.map slV)[0]? := by
   rw [← htk, List.getElem?_take_of_lt (by omega)]
  rw [List.getElem?_map, List.getElem?_eq_getElem (show 0 < rs.length by omega)] at e; exact ⟨_, _, _, by rw [← Array.getElem?_toList]; exact e⟩
theorem LS.ccin {w : World} {B m c : Nat} {q : Option Addr} {css : List (List Cel)} (h : LS w B q m c css) : CCIn w q css := fun hn => by
 obtain ⟨hz, rs, h1, h2, h3, h4⟩ := h; obtain ⟨g, cap, hv, hb, hg⟩ := h3.form (by omega); simp only [Value.slice.injEq, true_and] at hv; obtain ⟨rfl, rfl⟩ := hv; refine ⟨g, 0, rfl, fun i hi => ⟨(rs.getD i Sl3.zero).1, (rs.getD i Sl3.zero).2.2, ?_, (h4 i hi).cin⟩⟩; rw [Nat.zero_add, h3.cellAt i (by omega), List.getElem?_map, List.getElem?_eq_getElem (show i < rs.length by omega)]
 have e : rs.getD i Sl3.zero = rs[i]'(by omega) := by rw [List.getD, List.getElem?_eq_getElem (show i < rs.length by omega)]; rfl
 have := (h4 i hi).1; rw [← this, e]
 rfl
theorem css_cat_at (a b : List (List Cel)) (i : Nat) : (a ++ b).getD i [] = if i < a.length then a.getD i [] else b.getD (i - a.length) [] := by
 simp only [List.getD, List.getElem?_append]
 split <;> rfl
theorem sl_cat_at (a b : List Sl3) (i : Nat) : (a ++ b).getD i Sl3.zero = if i < a.length then a.getD i Sl3.zero else b.getD (i - a.length) Sl3.zero := by
 simp only [List.getD, List.getElem?_append]
 split <;> rfl
theorem infoCelM : (Tryz.prog.info? 55).map (fun i => (i.zero, i.size, i.bytes)) = some (some (.agg #[.int .i64 0, .int .i64 0, .slice none 0 0]), 3, 40) := by kernel_rfl
def RFit (W0 : World) (r : RC) (c : Cel) : Prop := r.1 = c.1 ∧ r.2.1 = c.2.1 ∧ r.2.2.2.1 = c.2.2.length ∧ BIn W0 r.2.2.1 c.2.2
theorem RFit.below {W W' : World} {r : RC} {c : Cel} (h : RFit W r c) (hb : Below W.heap.size W W') : RFit W' r c := ⟨h.1, h.2.1, h.2.2.1, h.2.2.2.below hb⟩
theorem rows_of {w : World} {b : Nat} : ∀ (xs : List Cel) (o : Nat), (∀ i, i < xs.length → CAt w b (o + i * 3) (xs.getD i Cel.none)) → ∃ rs : List RC, rs.length = xs.length ∧ (∀ i, i < xs.length → RFit w (rs.getD i RC.zero) (xs.getD i Cel.none)) ∧ ∀ j u, (flat rs)[j]? = some u → w.cell? ⟨b, o + j, none⟩ = some u
 | [], o, _ => ⟨[], rfl, fun i h => absurd h (Nat.not_lt_zero _), fun j u h => by simp [flat] at h⟩
 | c :: r, o, h => by
   obtain ⟨rs, hl, hf, hc⟩ := rows_of r (o + 3) (fun i hi => by
    have := h (i + 1) (by simpa using hi); rw [List.getD_cons_succ, show o + (i + 1) * 3 = o + 3 + i * 3 by omega] at this
    exact this)
   obtain ⟨p, cap, h0, h1, h2, h3⟩ := h 0 (by simp); simp only [List.getD_cons_zero, Nat.zero_mul, Nat.add_zero] at h0 h1 h2 h3; refine ⟨(c.1, c.2.1, p, c.2.2.length, cap) :: rs, by simp [hl], fun i hi => ?_, fun j u hj => ?_⟩
   ·cases i with
    | zero => exact ⟨rfl, rfl, rfl, h3⟩
    | succ i => exact hf i (by simpa using hi)
   ·rw [flat_cons] at hj
    match j, hj with
    | 0, hj => rw [Nat.add_zero, h0]; simpa using hj
    | 1, hj => rw [h1]; simpa using hj
    | 2, hj => rw [h2]; simpa using hj
    | j + 3, hj =>
      rw [show o + (j + 3) = o + 3 + j by omega]; exact hc j u (by simpa using hj)
def RowC (W0 w : World) (p : Option Addr) (n c : Nat) (xs : List Cel) : Prop :=
 n = xs.length ∧ ∃ rs : List RC, rs.length = xs.length ∧ w.ownsRow W0.heap.size 55 3 (.slice p n c) n (flat rs) ∧ ∀ i, i < xs.length → RFit W0 (rs.getD i RC.zero) (xs.getD i Cel.none)
theorem RowC.below {W0 w w' : World} {p : Option Addr} {n c : Nat} {xs : List Cel} (h : RowC W0 w p n c xs) (hb : Below w.heap.size w w') : RowC W0 w' p n c xs := by
 obtain ⟨hn, rs, hl, hr, hf⟩ := h; exact ⟨hn, rs, hl, row_below hr hb, hf⟩
theorem RowC.at {W0 w : World} {p : Option Addr} {n c : Nat} {xs : List Cel} (h : RowC W0 w p n c xs) (i : Nat) (hi : i < xs.length) : ∃ g q cq, p = some ⟨g, 0, none⟩ ∧ W0.heap.size ≤ g ∧ g < w.heap.size ∧ w.cell? ⟨g, i * 3, none⟩ = some (.int .i64 (xs.getD i Cel.none).1) ∧ w.cell? ⟨g, i * 3 + 1, none⟩ = some (.int .i64 (xs.getD i Cel.none).2.1) ∧ w.cell? ⟨g, i * 3 + 2, none⟩ = some (.slice q (xs.getD i Cel.none).2.2.length cq) ∧ BIn W0 q (xs.getD i Cel.none).2.2 := by
 obtain ⟨hn, rs, hl, hr, hf⟩ := h; obtain ⟨g, cap, hv, hb, hg⟩ := hr.form (by omega); simp only [Value.slice.injEq, true_and] at hv; obtain ⟨rfl, rfl⟩ := hv; obtain ⟨a0, a1, a2⟩ := flat_at rs i (by omega); obtain ⟨f0, f1, f2, f3⟩ := hf i hi; have d0 := (hr.cellAt (i * 3) (by omega)).trans a0; have d1 := (hr.cellAt (i * 3 + 1) (by omega)).trans a1; have d2 := (hr.cellAt (i * 3 + 2) (by omega)).trans a2; rw [f0] at d0; rw [f1] at d1; rw [f2] at d2; exact ⟨g, _, _, rfl, hb, hg, d0, d1, d2, f3⟩
theorem flat_oneM (rs : List RC) : ∀ u ∈ flat rs, u.oneCell' = true := fun u hu => by
 simp only [flat, List.mem_flatMap] at hu; obtain ⟨r, _, hr⟩ := hu
 simp [rcV] at hr
 rcases hr with rfl | rfl | rfl <;> rfl
theorem RowC.cin {W0 w : World} {p : Option Addr} {n c : Nat} {xs : List Cel} (h : RowC W0 w p n c xs) (hb : Below W0.heap.size W0 w) : CIn w p xs := fun hn => by
 obtain ⟨g, q, cq, rfl, _, _, _, _, _, _⟩ := h.at 0 hn; refine ⟨g, 0, rfl, fun i hi => ?_⟩; obtain ⟨g', q', cq', e, _, _, h0, h1, h2, h3⟩ := h.at i hi
 obtain rfl : g = g' := by simpa using e
 exact ⟨q', cq', by simpa using h0, by simpa using h1, by simpa using h2, h3.below hb⟩
theorem flat_catM (a b : List RC) : flat (a ++ b) = flat a ++ flat b := by simp [flat]
theorem run_app_row (W0 w : World) (ty : TypeId) (p : Option Addr) (n c : Nat) (xs : List Cel) (q : Option Addr) (m cq : Nat) (ds : List Cel) (hrow : RowC W0 w p n c xs) (hW : Below W0.heap.size W0 w) (hds : CIn W0 q ds) (hm : m = ds.length) (h0 : 0 < m) (hl : n + m ≤ 1000000000) :
  ∃ g cap w', (Builtin.append_ #[23, 23] ty #[.slice p n c, .slice q m cq]).run Tryz.prog w = .ok (.slice (some ⟨g, 0, none⟩) (n + m) cap) w' ∧ RowC W0 w' (some ⟨g, 0, none⟩) (n + m) cap (xs ++ ds) ∧ Below W0.heap.size W0 w' := by
 obtain ⟨i0, hi, hz0, hz1, hz2⟩ := info_parts infoCelM; subst hm; obtain ⟨hn, rs, hrl, hown, hf⟩ := hrow; obtain ⟨g, o, rfl, hc⟩ := hds h0; obtain ⟨rs', hrl', hrf', hrc'⟩ := rows_of ds o hc; obtain ⟨g', cap, w', hr, h2, h3, h4, _⟩ := run_append_lies (P := Tryz.prog) w 23 ty W0.heap.size 55 i0 (.agg #[.int .i64 0, .int .i64 0, .slice none 0 0]) 3 40 Tryz.underlying23 hi hz0 hz1 hz2 rfl (by decide) (.slice p n c) n (flat rs) hown ⟨g, o, none⟩ ds.length cq (flat rs') (by rw [flat_len]; omega)
  (fun j u hj => by
    rw [show (⟨g, o, none⟩ : Addr).add j = ⟨g, o + j, none⟩ from WideShapes.add_plain _ _ _]; have := hrc' j u hj
    exact (hW.cell (World.block_lt_of_cell? _ _ this)).trans this) (flat_oneM rs') h0 (by unfold maxLen; omega) (by omega) hW.size _ rfl
 refine ⟨g', cap, w', hr, ⟨by simp [hn], rs ++ rs', by simp [hrl, hrl'], by rw [flat_catM]; exact h2, fun i hi => ?_⟩, hW.grown h3 hW.size (fun k hk => (hown.lt k hk).1)⟩
 rcases Nat.lt_or_ge i xs.length with h | h
 ·have e1 : (rs ++ rs').getD i RC.zero = rs.getD i RC.zero := by simp [List.getD, List.getElem?_append_left (show i < rs.length by omega)]
  have e2 : (xs ++ ds).getD i Cel.none = xs.getD i Cel.none := by simp [List.getD, List.getElem?_append_left h]
  rw [e1, e2]; exact hf i h
 ·have e1 : (rs ++ rs').getD i RC.zero = rs'.getD (i - xs.length) RC.zero := by simp [List.getD, List.getElem?_append_right (show rs.length ≤ i by omega), hrl]
  have e2 : (xs ++ ds).getD i Cel.none = ds.getD (i - xs.length) Cel.none := by simp [List.getD, List.getElem?_append_right h]
  rw [e1, e2]; exact hrf' _ (by simp at hi; omega)
theorem own_one {w : World} {B g tn tc : Nat} {k n : Int} {tp : Option Addr} {s : List Int} (hg : w.heap[g]? = some (.cells #[.int .i64 k, .int .i64 n, .slice tp tn tc] 55)) (hB : B ≤ g) (ht : OwnT w B tp tn tc s) (hne : ∀ a, tp = some a → a.block ≠ g) : OwnC w B (some ⟨g, 0, none⟩) 1 1 [(k, n, s)] := by
 refine ⟨rfl, [(k, n, tp, tn, tc)], rfl, ⟨rfl, .inr ⟨g, 1, _, rfl, hB, hg, Nat.le_refl _, by decide, rfl, rfl⟩⟩, fun i hi => ?_, ?_⟩
 ·obtain rfl : i = 0 := by simp at hi; omega
  exact ⟨rfl, rfl, ht⟩
 ·refine ⟨fun i hi h => ?_, fun i j hi hj h => ?_⟩
  ·obtain rfl : i = 0 := by simp at hi; omega
   exact fun e => hne _ e rfl
  ·simp at hi hj
   omega
theorem l2atomS_any (s : List Int) (hs : Byte s) (w : World) : Calls Tryz.prog 111 #[.string (strOfNums s)] w fun e w' => ∃ p, e = .returned (.slice p 1 1) ∧ CIn w' p [(2, 0, s)] ∧ Below w.heap.size w w' := by
 obtain ⟨w1, cap1, hcv, hb1, ht⟩ := conv_bytes w s hs 9 Tryz.underlying9
 obtain ⟨l, el⟩ : ∃ l, l = s.length := ⟨_, rfl⟩
 rw [← el] at hcv ht; have hb : Below w1.heap.size w1 (w1.alloc (Obj.cells #[Value.int IntKind.i64 2, Value.int IntKind.i64 0, Value.slice (some ⟨w.heap.size, 0, none⟩) l cap1] 55)) := (Below.refl _ _).alloc (Nat.le_refl _) _; have HX : Hid (Box3 (w1.alloc (Obj.cells #[Value.int IntKind.i64 2, Value.int IntKind.i64 0, Value.slice (some ⟨w.heap.size, 0, none⟩) l cap1] 55)) w1.heap.size (.int .i64 2) (.int .i64 0) (.slice (some ⟨w.heap.size, 0, none⟩) l cap1)) := Box3.of_block (t := 55) (heap_alloc_new w1 _); have HT : Hid _ := (ht.below hb).bin; have HL : Hid (l = s.length) := el; have HB : Hid (Below w.heap.size w (w1.alloc (Obj.cells #[Value.int IntKind.i64 2, Value.int IntKind.i64 0, Value.slice (some ⟨w.heap.size, 0, none⟩) l cap1] 55))) := Below.on hb1 hb; clear hb1 ht hb el
 go_enter Tryz.func111, Tryz.ntmps111
 go_wp2_with fail; go_ret; refine ⟨_, rfl, fun _ => ⟨w1.heap.size, 0, rfl, fun i hi => ?_⟩, HB.out⟩
 have hi0 : i = 0 := by simp at hi; omega
 subst hi0; exact ⟨_, cap1, HX.out.1, HX.out.2.1, by show _ = some (Value.slice (some ⟨w.heap.size, 0, none⟩) s.length cap1); rw [← HL.out]; exact HX.out.2.2.1, HT.out⟩
def RowsIn (w : World) (g : Nat) (dss : List (List Cel)) : Prop := ∀ j, j < dss.length → ∃ q c, w.cell? ⟨g, j, none⟩ = some (.slice q (dss.getD j []).length c) ∧ CIn w q (dss.getD j []) ∧ 0 < (dss.getD j []).length ∧ (dss.getD j []).length + tl (dss.getD j []) ≤ 100000
theorem RowsIn.below {w w' : World} {g : Nat} {dss : List (List Cel)} (h : RowsIn w g dss) (hb : Below w.heap.size w w') : RowsIn w' g dss := fun j hj => by
 obtain ⟨q, c, h1, h2, h3⟩ := h j hj; exact ⟨q, c, (hb.cell (World.block_lt_of_cell? _ _ h1)).trans h1, h2.below hb, h3⟩
set_option maxHeartbeats 400000 in
theorem l2comp_any (s : List Int) (hs : Byte s) (g n c : Nat) (dss : List (List Cel)) (w : World) (hn : n = dss.length) (h20 : n ≤ 20) (hr : RowsIn w g dss) :
  Calls Tryz.prog 114 #[.string (strOfNums s), .slice (some ⟨g, 0, none⟩) n c] w fun e w' => ∃ q m c2, e = .returned (.slice q m c2) ∧ OwnC w' w.heap.size q m c2 ((3, (n : Int), s) :: dss.flatten) ∧ Below w.heap.size w w' := by
 obtain ⟨w1, cap1, hcv, hb1, ht⟩ := conv_bytes w s hs 9 Tryz.underlying9
 obtain ⟨l, el⟩ : ∃ l, l = s.length := ⟨_, rfl⟩
 rw [← el] at hcv ht
 have hlt1 : w.heap.size < w1.heap.size ∨ l = 0 := by
  rcases Nat.eq_zero_or_pos l with h | h
  ·exact .inr h
  ·obtain ⟨g', e, _, h3, _⟩ := ht.2 h
   cases e
   exact .inl h3
 have hbA : Below w1.heap.size w1 (w1.alloc (Obj.cells #[Value.int IntKind.i64 3, Value.int IntKind.i64 n, Value.slice (some ⟨w.heap.size, 0, none⟩) l cap1] 55)) := (Below.refl _ _).alloc (Nat.le_refl _) _; have HBA : Hid (Below w.heap.size w (w1.alloc (Obj.cells #[Value.int IntKind.i64 3, Value.int IntKind.i64 n, Value.slice (some ⟨w.heap.size, 0, none⟩) l cap1] 55))) := Below.on hb1 hbA
 have HOA : Hid (OwnC (w1.alloc (Obj.cells #[Value.int IntKind.i64 3, Value.int IntKind.i64 n, Value.slice (some ⟨w.heap.size, 0, none⟩) l cap1] 55)) w.heap.size (some ⟨w1.heap.size, 0, none⟩) 1 1 [(3, (n : Int), s)]) := by
  refine ⟨rfl, [(3, (n : Int), some ⟨w.heap.size, 0, none⟩, l, cap1)], rfl, ⟨rfl, .inr ⟨w1.heap.size, 1, _, rfl, hb1.size, heap_alloc_new w1 _, Nat.le_refl _, by decide, rfl, rfl⟩⟩, fun i hi => ?_, fun i hi h => ?_, fun i j hi hj h => ?_⟩
  ·obtain rfl : i = 0 := by simp at hi; omega
   exact ⟨rfl, rfl, ht.below hbA⟩
  ·obtain rfl : i = 0 := by simp at hi; omega
   intro e
   have e2 : w.heap.size = w1.heap.size := congrArg Addr.block (Option.some.inj e); have h' : 0 < l := h
   omega
  ·simp at hi hj
   omega
 have HR : Hid (RowsIn w g dss) := hr; have HN : Hid (n = dss.length) := hn; clear hb1 ht hbA hlt1 el hr hn
 go_enter Tryz.func114, Tryz.ntmps114
 go_wp2_with fail
 go_loopw [5, 6] (fun r i wr => ∃ (j : Nat) (q : Option Addr) (m cr : Nat), j ≤ n ∧ m ≤ 1 + j * 100000 ∧ i = .int .i64 j ∧ r = .slice q m cr ∧ Hid (OwnC wr w.heap.size q m cr ((3, (n : Int), s) :: (dss.take j).flatten)) ∧ Hid (Below w.heap.size w wr)) (fun _ i _ => n - (intOf i).toNat)
 case atStart => exact ⟨0, _, 1, 1, Nat.zero_le _, by omega, rfl, rfl, HOA, HBA⟩
 case round =>
  obtain ⟨j, q, m, cr, hj, hm, rfl, rfl, HO, HB⟩ := hrel
  by_cases hlt : j < n
  ·have hjl : j < dss.length := by rw [← HN.out]; exact hlt
   obtain ⟨qi, ci, x0, x1, x2, x3⟩ := HR.out j hjl
   obtain ⟨li, eli⟩ : ∃ li, li = (dss.getD j []).length := ⟨_, rfl⟩
   rw [← eli] at x0 x2; have y0 := (HB.out.cell (World.block_lt_of_cell? _ _ x0)).trans x0; have HCP := l2copy_any qi li ci (dss.getD j []) wr eli (by omega) (x1.below HB.out); have HLI : Hid (li = (dss.getD j []).length) := eli
   have hli : li ≤ 100000 := by omega
   have HTK : Hid ((dss.take (j + 1)).flatten = (dss.take j).flatten ++ dss.getD j []) := by
    show _ = _
    rw [List.take_succ_eq_append_getElem hjl, List.flatten_append]
    simp [List.getD, hjl]
   have hBs : w.heap.size ≤ wr.heap.size := HB.out.size; clear x0 x1 x3 eli; go_wp2_with fail; refine HCP.mono ?_; rintro e w3 ⟨q3, m3, c3, rfl, ho3, hb3⟩; have HO3 : Hid (OwnC w3 wr.heap.size q3 m3 c3 (dss.getD j [])) := ho3; have HB3 : Hid (Below wr.heap.size wr w3) := hb3
   have HM3 : Hid (m3 = li) := by show _ = _; rw [ho3.1, HLI.out]
   have hm3 : 0 < m3 := by have := HM3.out; omega
   have hm3' : m3 ≤ 100000 := by have := HM3.out; omega
   clear ho3 hb3 HCP; go_wp2_with (at_builtin; refine app_cells wr w3 rfl _ _ rfl w.heap.size q m cr _ rfl HO.out HB3.out hBs q3 m3 c3 _ rfl HO3.out hm3 (by omega) ?_; intro g4 n4 cap4 w4 hown4 hb4 hn4)
   have HO4 : Hid (OwnC w4 w.heap.size (some ⟨g4, 0, none⟩) n4 cap4 ((3, (n : Int), s) :: (dss.take (j + 1)).flatten)) := by rw [HTK.out]; exact hown4
   have HB4 : Hid (Below w.heap.size w w4) := (Below.on HB.out HB3.out).trans hb4
   have hn4' : n4 ≤ 1 + (j + 1) * 100000 := by have := hn4.out; omega
   clear hown4 hb4; go_roundw
   case rel => exact ⟨j + 1, _, n4, cap4, by omega, hn4', by go_num, rfl, HO4, HB4⟩
   case measure => simp [intOf]; omega
  ·obtain rfl : j = n := by omega
   have HOF : Hid (OwnC wr w.heap.size q m cr ((3, (j : Int), s) :: dss.flatten)) := by have := HO.out; rwa [List.take_of_length_le (by rw [← HN.out]; exact Nat.le_refl _)] at this
   go_wp2_with fail; go_ret; exact ⟨_, _, _, rfl, HOF.out, HB.out⟩
theorem rows_one {w : World} {g c : Nat} {q : Option Addr} {ds : List Cel} (h : w.cell? ⟨g, 0, none⟩ = some (.slice q ds.length c)) (hc : CIn w q ds) (h0 : 0 < ds.length) (hl : ds.length + tl ds ≤ 100000) : RowsIn w g [ds] := fun j hj => by
 obtain rfl : j = 0 := by simp at hj; omega
 exact ⟨q, c, h, hc, h0, hl⟩
theorem rows_two {w : World} {g c c' : Nat} {q q' : Option Addr} {ds ds' : List Cel} (h : w.cell? ⟨g, 0, none⟩ = some (.slice q ds.length c)) (hc : CIn w q ds) (h0 : 0 < ds.length) (hl : ds.length + tl ds ≤ 100000)
  (h' : w.cell? ⟨g, 1, none⟩ = some (.slice q' ds'.length c')) (hc' : CIn w q' ds') (h0' : 0 < ds'.length) (hl' : ds'.length + tl ds' ≤ 100000) : RowsIn w g [ds, ds'] := fun j hj => by
 rcases (by simp at hj; omega : j = 0 ∨ j = 1) with rfl | rfl
 ·exact ⟨q, c, h, hc, h0, hl⟩
 ·exact ⟨q', c', h', hc', h0', hl'⟩
theorem l2pair_any (s : List Int) (hs : Byte s) (pa pb : Option Addr) (la lb ca cb : Nat) (da db : List Cel) (w : World) (hla : la = da.length) (hlb : lb = db.length) (ha : CIn w pa da) (hb : CIn w pb db) (ha0 : 0 < da.length) (hb0 : 0 < db.length) (hal : da.length + tl da ≤ 100000) (hbl : db.length + tl db ≤ 100000) :
  Calls Tryz.prog 113 #[.string (strOfNums s), .slice pa la ca, .slice pb lb cb] w fun e w' => ∃ q m c2, e = .returned (.slice q m c2) ∧ OwnC w' w.heap.size q m c2 ((3, 2, s) :: (da ++ db)) ∧ Below w.heap.size w w' := by
 have hAL : Below w.heap.size w (w.alloc (.cells #[.slice pa la ca, .slice pb lb cb] 23)) := (Below.refl _ _).alloc (Nat.le_refl _) _; have hnw := heap_alloc_new w (Obj.cells #[.slice pa la ca, .slice pb lb cb] 23); have HR := l2comp_any s hs w.heap.size 2 2 [da, db] (w.alloc (.cells #[.slice pa la ca, .slice pb lb cb] 23)) rfl (by decide) (rows_two (q := pa) (c := ca) (q' := pb) (c' := cb) (by rw [← hla]; exact cell_of_row _ _ 0 _ _ _ hnw) (ha.below hAL) ha0 hal (by rw [← hlb]; exact cell_of_row _ _ 1 _ _ _ hnw) (hb.below hAL) hb0 hbl); have HB : Hid (Below w.heap.size w (w.alloc (.cells #[.slice pa la ca, .slice pb lb cb] 23))) := hAL; clear ha hb hAL hnw hla hlb ha0 hb0 hal hbl
 go_enter Tryz.func113, Tryz.ntmps113
 go_wp2_with fail; refine HR.mono ?_; rintro e w2 ⟨q, m, c2, rfl, ho, hb2⟩
 have HO : Hid (OwnC w2 w.heap.size q m c2 ((3, 2, s) :: (da ++ db))) := by
  have := ho.mono HB.out.size
  show OwnC _ _ _ _ _ _
  simpa using this
 have HB2 : Hid (Below w.heap.size w w2) := Below.on HB.out hb2; clear ho hb2 HR; go_wp2_with fail; go_ret; exact ⟨_, _, _, rfl, HO.out, HB2.out⟩
theorem RdIn.grow {w w' : World} {R : Nat} {p : Option Addr} {c : Nat} {xs : List Int} {i : Nat} (h : RdIn w R p c xs i) (k : Below w.heap.size w w') : RdIn w' R p c xs i := h.below k h.lt
theorem left_any (R c i : Nat) (p : Option Addr) (xs : List Int) (w : World) (h : RdIn w R p c xs i) :
  Calls Tryz.prog 106 #[.pointer (some ⟨R, 0, none⟩)] w fun e w' => e = .returned (.int .i64 ((xs.length - i : Nat) : Int)) ∧ Below w.heap.size w w' := by
 have h0 := h.at0; have h1 := h.at1; have hs := h.small; have hi := h.le
 obtain ⟨n, en⟩ : ∃ n, n = xs.length := ⟨_, rfl⟩
 rw [← en] at h0 hs hi ⊢; have HE : Hid (n = xs.length) := en
 have hsub : ((n - i : Nat) : Int) = (n : Int) - i := by omega
 rw [hsub]; have hd : Below w.heap.size w w.drew := below_drewN (Below.refl _ _) 1; clear h en hsub
 go_enter Tryz.func106, Tryz.ntmps106
 go_wp2
 go_region
 all_goals go_wp2
 all_goals go_ret
 all_goals exact ⟨rfl, hd⟩
def oddV : List Value := oddI.map (fun n => .int .i64 n)
theorem intD_rng (x : Nat) : -1000000000000000 ≤ intD x ∧ intD x ≤ 1000000000000000 := by
 unfold intD
 split
 ·have h : ∀ j, j < 8 → -1000000000000000 ≤ oddI.getD j 0 ∧ oddI.getD j 0 ≤ 1000000000000000 := by decide
  exact h _ (by omega)
 ·omega
theorem odd_at : ∀ (j : Nat) (h : j < 8), (#[.int .i64 0, .int .i64 1, .int .i64 (-1), .int .i64 42, .int .i64 1000000000000000, .int .i64 (-1000000000000000), .int .i64 255, .int .i64 1000000] : Array Value)[j]'h = .int .i64 (oddI.getD j 0)
 | 0, _ => rfl
 | 1, _ => rfl
 | 2, _ => rfl
 | 3, _ => rfl
 | 4, _ => rfl
 | 5, _ => rfl
 | 6, _ => rfl
 | 7, _ => rfl
set_option maxHeartbeats 1000000 in
theorem l4int_any (R c i : Nat) (p : Option Addr) (xs : List Int) (w : World) (h : RdIn w R p c xs i) :
  Calls Tryz.prog 108 #[.pointer (some ⟨R, 0, none⟩)] w fun e w' => e = .returned (.int .i64 (intD (rdI xs i).toNat)) ∧ Keep R (R + 1) w w' ∧ RdIn w' R p c xs (rdN xs i) := by
 have HH : Hid (RdIn w R p c xs i) := h; have hr := rdI_rng h.bytes i; clear h
 go_enter Tryz.func108, Tryz.ntmps108
 go_wp2_with fail; refine (next_any R c i p xs w HH.out).mono ?_; rintro e w2 ⟨rfl, hk2, hs2, hR2⟩; have HR2 : Hid (RdIn w2 R p c xs (rdN xs i)) := hR2
 obtain ⟨x, ex⟩ : ∃ x : Nat, rdI xs i = x := ⟨(rdI xs i).toNat, by omega⟩
 rw [ex] at hr ⊢
 obtain ⟨wA, eA⟩ : ∃ wA, wA = w2.alloc (.cells oddV.toArray 3) := ⟨_, rfl⟩
 have hBA : Below w2.heap.size w2 wA := by rw [eA]; exact (Below.refl _ _).alloc (Nat.le_refl _) _
 have FIN : Hid (Keep R (R + 1) w wA ∧ RdIn wA R p c xs (rdN xs i)) := ⟨hk2.trans (Keep.of_below hBA), hR2.grow hBA⟩
 have HX : Hid ((rdI xs i).toNat = x) := by show _ = _; rw [ex]; exact Int.toNat_natCast x
 have eA' : wA = w2.alloc (Obj.cells #[.int .i64 0, .int .i64 1, .int .i64 (-1), .int .i64 42, .int .i64 1000000000000000, .int .i64 (-1000000000000000), .int .i64 255, .int .i64 1000000] 3) := by rw [eA]; rfl
 by_cases hlt : x < 40
 ·obtain ⟨j, ej⟩ : ∃ j, j = x % 8 := ⟨_, rfl⟩
  have hj : j < 8 := by omega
  have HV : Hid (intD x = oddI.getD j 0) := by show _ = _; rw [ej, intD, if_pos hlt]
  have hmod : (x : Int).tmod 8 = (j : Int) := by rw [ej, Int.tmod_eq_emod_of_nonneg (by omega)]; rfl
  clear ej hBA hk2 hR2 ex hs2; go_wp2_with fail; rw [← eA'] at *; clear eA eA'; go_wp2_with fail; go_ret; refine ⟨?_, FIN.out⟩; rw [HX.out, HV.out]; exact congrArg Ending.returned (odd_at j hj)
 ·have hmod : (x : Int).tmod 12 = ((x % 12 : Nat) : Int) := by rw [Int.tmod_eq_emod_of_nonneg (by omega)]; rfl
  obtain ⟨j, ej⟩ : ∃ j, j = x % 12 := ⟨_, rfl⟩
  have hj : j < 12 := by omega
  have HV : Hid (intD x = (j : Int) - 2) := by show _ = _; rw [ej, intD, if_neg hlt]
  rw [← ej] at hmod; clear ej hBA hk2 hR2 ex hs2; go_wp2_with fail; rw [← eA'] at *; clear eA eA'; go_wp2_with fail; go_ret; refine ⟨?_, FIN.out⟩; rw [HX.out, HV.out]
  rfl
theorem own_leaf (w : World) (k n : Int) : OwnC (w.alloc (Obj.cells #[Value.int IntKind.i64 k, Value.int IntKind.i64 n, Value.slice none 0 0] 55)) w.heap.size (some ⟨w.heap.size, 0, none⟩) 1 1 [(k, n, [])] :=
 own_one (heap_alloc_new w _) (Nat.le_refl _) ⟨rfl, fun h => absurd h (by decide)⟩ (fun a h => by cases h)
theorem l2numO_any (n : Int) (w : World) : Calls Tryz.prog 107 #[.int .i64 n] w fun e w' => e = .returned (.slice (some ⟨w.heap.size, 0, none⟩) 1 1) ∧ OwnC w' w.heap.size (some ⟨w.heap.size, 0, none⟩) 1 1 [(1, n, [])] ∧ Below w.heap.size w w' := by
 have HX : Hid _ := own_leaf w 1 n
 go_enter Tryz.func107, Tryz.ntmps107
 go_wp2_with fail; go_ret; exact ⟨rfl, HX.out, (Below.refl _ _).alloc (Nat.le_refl _) _⟩
theorem l2varO_any (n : Int) (w : World) : Calls Tryz.prog 109 #[.int .i64 n] w fun e w' => e = .returned (.slice (some ⟨w.heap.size, 0, none⟩) 1 1) ∧ OwnC w' w.heap.size (some ⟨w.heap.size, 0, none⟩) 1 1 [(0, n, [])] ∧ Below w.heap.size w w' := by
 have HX : Hid _ := own_leaf w 0 n
 go_enter Tryz.func109, Tryz.ntmps109
 go_wp2_with fail; go_ret; exact ⟨rfl, HX.out, (Below.refl _ _).alloc (Nat.le_refl _) _⟩
def TermOut (w : World) (R : Nat) (p : Option Addr) (c : Nat) (xs : List Int) (res : List Cel × Nat) (e : Ending) (w' : World) : Prop :=
 ∃ q n cap, e = .returned (.slice q n cap) ∧ OwnC w' w.heap.size q n cap res.1 ∧ Keep R (R + 1) w w' ∧ RdIn w' R p c xs res.2
theorem TermOut.of {w W W' : World} {R : Nat} {p : Option Addr} {c : Nat} {xs : List Int} {cs : List Cel} {i : Nat} {q : Option Addr} {n cap : Nat} (hk : Keep R (R + 1) w W) (hr : RdIn W R p c xs i) (ho : OwnC W' W.heap.size q n cap cs) (hb : Below W.heap.size W W') : TermOut w R p c xs (cs, i) (.returned (.slice q n cap)) W' :=
 ⟨q, n, cap, rfl, ho.mono hk.size, hk.trans (Keep.of_below hb), hr.grow hb⟩
theorem own_oneN {w : World} {B g tn tc : Nat} {k n : Int} {tp : Option Addr} {s : List Int} (hg : w.heap[g]? = some (.cells #[.int .i64 k, .int .i64 n, .slice tp tn tc] 55)) (hB : B ≤ g) (ht : OwnT w B tp tn tc s) (hne : 0 < tn → ∀ a, tp = some a → a.block ≠ g) : OwnC w B (some ⟨g, 0, none⟩) 1 1 [(k, n, s)] := by
 refine ⟨rfl, [(k, n, tp, tn, tc)], rfl, ⟨rfl, .inr ⟨g, 1, _, rfl, hB, hg, Nat.le_refl _, by decide, rfl, rfl⟩⟩, fun i hi => ?_, ?_⟩
 ·obtain rfl : i = 0 := by simp at hi; omega
  exact ⟨rfl, rfl, ht⟩
 ·refine ⟨fun i hi h => ?_, fun i j hi hj h => ?_⟩
  ·obtain rfl : i = 0 := by simp at hi; omega
   exact fun e => hne h _ e rfl
  ·simp at hi hj
   omega
set_option maxHeartbeats 2000000 in
theorem term_low (R c i : Nat) (p : Option Addr) (xs : List Int) (D : Int) (w : World) (h : RdIn w R p c xs i) (hD : -10 ≤ D ∧ D ≤ 10) (hc : D ≤ 0) :
  Calls Tryz.prog 39 #[.pointer (some ⟨R, 0, none⟩), .int .i64 D] w (TermOut w R p c xs (leafT xs (rdI xs i).toNat (rdN xs i))) := by
 have HH : Hid (RdIn w R p c xs i) := h; have hr := rdI_rng h.bytes i; have hle := rdN_le h.le; have hsm := h.small; have hr1 := rdI_rng h.bytes (rdN xs i)
 obtain ⟨n, en⟩ : ∃ n, n = xs.length := ⟨_, rfl⟩
 rw [← en] at hle hsm; have HEN : Hid (n = xs.length) := en
 obtain ⟨i1, ei⟩ : ∃ i1, i1 = rdN xs i := ⟨_, rfl⟩
 rw [← ei] at hle hr1 ⊢; have HEI : Hid (i1 = rdN xs i) := ei; have hd : decide (D ≤ 0) = true := decide_eq_true hc; clear h en ei
 go_enter Tryz.func39, Tryz.ntmps39
 go_wp2_with fail; refine (next_any R c i p xs w HH.out).mono ?_; rintro e w2 ⟨rfl, hk2, hs2, hR2⟩; have HK2 : Hid (Keep R (R + 1) w w2) := hk2
 have HR2 : Hid (RdIn w2 R p c xs i1) := by rw [HEI.out]; exact hR2
 obtain ⟨x, ex⟩ : ∃ x : Nat, rdI xs i = x := ⟨(rdI xs i).toNat, by omega⟩
 rw [ex] at hr ⊢
 have HX : Hid ((rdI xs i).toNat = x) := by show _ = _; rw [ex]; exact Int.toNat_natCast x
 obtain ⟨j, ej⟩ : ∃ j, j = x % 5 := ⟨_, rfl⟩
 have hj : j < 5 := by omega
 have hm : (x : Int).tmod 5 = (j : Int) := by rw [ej, Int.tmod_eq_emod_of_nonneg (by omega)]; rfl
 have HJ : Hid (j = x % 5) := ej; have hxt : ((x : Nat) : Int).toNat = x := Int.toNat_natCast x; have HX2 : Hid ((rdI xs i).toNat = x) := HX.out; clear hk2 hs2 hR2 ex ej
 rcases (by omega : j = 0 ∨ j = 1 ∨ j = 2 ∨ 3 ≤ j) with hj0 | hj0 | hj0 | hj0
 ·have hb1 : ((j : Int) == 0) = true := by rw [hj0]; rfl
  have HF : Hid (leafT xs x i1 = ([(1, intD (rdI xs i1).toNat, [])], rdN xs i1)) := by show _ = _; rw [leafT, if_pos (by rw [← HJ.out]; exact hj0)]
  clear hj0; go_wp2_with fail; refine (l4int_any R c i1 p xs w2 HR2.out).mono ?_; rintro e w3 ⟨rfl, hk3, hR3⟩; have HK3 : Hid (Keep R (R + 1) w w3) := HK2.out.trans hk3; have HR3 : Hid (RdIn w3 R p c xs (rdN xs i1)) := hR3; clear hk3 hR3; go_wp2_with fail; refine (l2numO_any _ w3).mono ?_; rintro e w4 ⟨rfl, ho4, hb4⟩; have FIN : Hid _ := TermOut.of HK3.out HR3.out ho4 hb4; clear ho4 hb4; go_wp2_with fail; go_ret; rw [HX2.out, HF.out]; exact FIN.out
 ·have hb1 : ((j : Int) == 0) = false := by rw [hj0]; rfl
  have hb2 : decide ((j : Int) < 3) = true := by rw [hj0]; rfl
  have HF : Hid (leafT xs x i1 = ([(0, (((rdI xs i1).toNat % 5 : Nat) : Int), [])], rdN xs i1)) := by show _ = _; rw [leafT, if_neg (by rw [← HJ.out, hj0]; decide), if_pos (by rw [← HJ.out, hj0]; decide)]
  clear hj0; go_wp2_with fail; refine (next_any R c i1 p xs w2 HR2.out).mono ?_; rintro e w3 ⟨rfl, hk3, hs3, hR3⟩; have HK3 : Hid (Keep R (R + 1) w w3) := HK2.out.trans hk3; have HR3 : Hid (RdIn w3 R p c xs (rdN xs i1)) := hR3
  obtain ⟨y, ey⟩ : ∃ y : Nat, rdI xs i1 = y := ⟨(rdI xs i1).toNat, by omega⟩
  rw [ey] at hr1 ⊢
  obtain ⟨z, ez⟩ : ∃ z, z = y % 5 := ⟨_, rfl⟩
  have hz : z < 5 := by omega
  have hmz : (y : Int).tmod 5 = (z : Int) := by rw [ez, Int.tmod_eq_emod_of_nonneg (by omega)]; rfl
  have HZ : Hid (([(0, (((rdI xs i1).toNat % 5 : Nat) : Int), [])] : List Cel) = [(0, (z : Int), [])]) := by show _ = _; rw [ey, Int.toNat_natCast, ez]
  clear hk3 hs3 hR3 ey ez; go_wp2_with fail; refine (l2varO_any _ w3).mono ?_; rintro e w4 ⟨rfl, ho4, hb4⟩; have FIN : Hid _ := TermOut.of HK3.out HR3.out ho4 hb4; clear ho4 hb4; go_wp2_with fail; go_ret; rw [HX2.out, HF.out, HZ.out]; exact FIN.out
 ·have hb1 : ((j : Int) == 0) = false := by rw [hj0]; rfl
  have hb2 : decide ((j : Int) < 3) = true := by rw [hj0]; rfl
  have HF : Hid (leafT xs x i1 = ([(0, (((rdI xs i1).toNat % 5 : Nat) : Int), [])], rdN xs i1)) := by show _ = _; rw [leafT, if_neg (by rw [← HJ.out, hj0]; decide), if_pos (by rw [← HJ.out, hj0]; decide)]
  clear hj0; go_wp2_with fail; refine (next_any R c i1 p xs w2 HR2.out).mono ?_; rintro e w3 ⟨rfl, hk3, hs3, hR3⟩; have HK3 : Hid (Keep R (R + 1) w w3) := HK2.out.trans hk3; have HR3 : Hid (RdIn w3 R p c xs (rdN xs i1)) := hR3
  obtain ⟨y, ey⟩ : ∃ y : Nat, rdI xs i1 = y := ⟨(rdI xs i1).toNat, by omega⟩
  rw [ey] at hr1 ⊢
  obtain ⟨z, ez⟩ : ∃ z, z = y % 5 := ⟨_, rfl⟩
  have hz : z < 5 := by omega
  have hmz : (y : Int).tmod 5 = (z : Int) := by rw [ez, Int.tmod_eq_emod_of_nonneg (by omega)]; rfl
  have HZ : Hid (([(0, (((rdI xs i1).toNat % 5 : Nat) : Int), [])] : List Cel) = [(0, (z : Int), [])]) := by show _ = _; rw [ey, Int.toNat_natCast, ez]
  clear hk3 hs3 hR3 ey ez; go_wp2_with fail; refine (l2varO_any _ w3).mono ?_; rintro e w4 ⟨rfl, ho4, hb4⟩; have FIN : Hid _ := TermOut.of HK3.out HR3.out ho4 hb4; clear ho4 hb4; go_wp2_with fail; go_ret; rw [HX2.out, HF.out, HZ.out]; exact FIN.out
 ·have hb1 : ((j : Int) == 0) = false := by simp; omega
  have hb2 : decide ((j : Int) < 3) = false := by simp; omega
  have HF : Hid (leafT xs x i1 = ([(2, 0, numsU (nameAt (rdI xs i1).toNat))], rdN xs i1)) := by show _ = _; rw [leafT, if_neg (by rw [← HJ.out]; omega), if_neg (by rw [← HJ.out]; omega)]
  clear hj0; go_wp2_with fail; refine (l4name_any R c i1 p xs w2 HR2.out).mono ?_; rintro e w3 ⟨g, n3, cap, rfl, hn3, hk3, hR3, hg, ht⟩; have HK3 : Hid (Keep R (R + 1) w w3) := HK2.out.trans hk3; have HR3 : Hid (RdIn w3 R p c xs (rdN xs i1)) := hR3; have HT3 : Hid (OwnT w3 w2.heap.size (some ⟨g, 0, none⟩) n3 cap (numsU (nameAt (rdI xs i1).toNat))) := ht; have HBW : Hid (w.heap.size ≤ w2.heap.size) := HK2.out.size; have hbA : Below w3.heap.size w3 (w3.alloc (Obj.cells #[Value.int IntKind.i64 2, Value.int IntKind.i64 0, Value.slice (some ⟨g, 0, none⟩) n3 cap] 55)) := (Below.refl _ _).alloc (Nat.le_refl _) _
  have HO3 : Hid (OwnC (w3.alloc (Obj.cells #[Value.int IntKind.i64 2, Value.int IntKind.i64 0, Value.slice (some ⟨g, 0, none⟩) n3 cap] 55)) w.heap.size (some ⟨w3.heap.size, 0, none⟩) 1 1 [(2, 0, numsU (nameAt (rdI xs i1).toNat))]) := by
   refine own_oneN (heap_alloc_new w3 _) (Nat.le_trans HBW.out hk3.size) ((ht.mono HBW.out).below hbA) (fun h0 a ea => ?_); obtain ⟨g', eg, hB', hl', hc'⟩ := ht.2 h0
   cases eg
   cases ea
   exact Nat.ne_of_lt hl'
  have HBA : Hid _ := hbA; clear hk3 hR3 ht hbA hg hn3; go_wp2_with fail; go_ret; rw [HX2.out, HF.out]; exact ⟨_, _, _, rfl, HO3.out, HK3.out.trans (Keep.of_below HBA.out), HR3.out.grow HBA.out⟩
set_option maxHeartbeats 2000000 in
theorem term_end (R c i : Nat) (p : Option Addr) (xs : List Int) (D : Int) (w : World) (h : RdIn w R p c xs i) (hD : -10 ≤ D ∧ D ≤ 10) (hc : 0 < D) (h0 : rdN xs i = xs.length) :
  Calls Tryz.prog 39 #[.pointer (some ⟨R, 0, none⟩), .int .i64 D] w (TermOut w R p c xs (leafT xs (rdI xs i).toNat (rdN xs i))) := by
 have HH : Hid (RdIn w R p c xs i) := h; have hr := rdI_rng h.bytes i; have hle := rdN_le h.le; have hsm := h.small; have hr1 := rdI_rng h.bytes (rdN xs i)
 obtain ⟨n, en⟩ : ∃ n, n = xs.length := ⟨_, rfl⟩
 rw [← en] at hle hsm; have HEN : Hid (n = xs.length) := en
 obtain ⟨i1, ei⟩ : ∃ i1, i1 = rdN xs i := ⟨_, rfl⟩
 rw [← ei] at hle hr1 ⊢; have HEI : Hid (i1 = rdN xs i) := ei; have hd : decide (D ≤ 0) = false := decide_eq_false (by omega); rw [← ei, ← en] at h0; have H0 : Hid (i1 = n) := h0; clear h0; clear h en ei
 go_enter Tryz.func39, Tryz.ntmps39
 go_wp2_with fail; refine (next_any R c i p xs w HH.out).mono ?_; rintro e w2 ⟨rfl, hk2, hs2, hR2⟩; have HK2 : Hid (Keep R (R + 1) w w2) := hk2
 have HR2 : Hid (RdIn w2 R p c xs i1) := by rw [HEI.out]; exact hR2
 obtain ⟨x, ex⟩ : ∃ x : Nat, rdI xs i = x := ⟨(rdI xs i).toNat, by omega⟩
 rw [ex] at hr ⊢
 have HX : Hid ((rdI xs i).toNat = x) := by show _ = _; rw [ex]; exact Int.toNat_natCast x
 obtain ⟨j, ej⟩ : ∃ j, j = x % 5 := ⟨_, rfl⟩
 have hj : j < 5 := by omega
 have hm : (x : Int).tmod 5 = (j : Int) := by rw [ej, Int.tmod_eq_emod_of_nonneg (by omega)]; rfl
 have HJ : Hid (j = x % 5) := ej; have hxt : ((x : Nat) : Int).toNat = x := Int.toNat_natCast x; have HX2 : Hid ((rdI xs i).toNat = x) := HX.out; clear hk2 hs2 hR2 ex ej; go_wp2_with fail; refine (left_any R c i1 p xs w2 HR2.out).mono ?_; rintro e wL ⟨rfl, hbL⟩; have HRL : Hid (RdIn wL R p c xs i1) := HR2.out.grow hbL; have HKL : Hid (Keep R (R + 1) w wL) := HK2.out.trans (Keep.of_below hbL); rw [← HEN.out]
 obtain ⟨lf, el⟩ : ∃ lf, lf = n - i1 := ⟨_, rfl⟩
 rw [← el]
 have hlf : lf ≤ 500 := by omega
 clear hbL
 have hz0 : ((lf : Int) == 0) = true := by rw [el, H0.out, Nat.sub_self]; rfl
 clear el
 rcases (by omega : j = 0 ∨ j = 1 ∨ j = 2 ∨ 3 ≤ j) with hj0 | hj0 | hj0 | hj0
 ·have hb1 : ((j : Int) == 0) = true := by rw [hj0]; rfl
  have HF : Hid (leafT xs x i1 = ([(1, intD (rdI xs i1).toNat, [])], rdN xs i1)) := by show _ = _; rw [leafT, if_pos (by rw [← HJ.out]; exact hj0)]
  clear hj0; go_wp2_with fail; refine (l4int_any R c i1 p xs wL HRL.out).mono ?_; rintro e w3 ⟨rfl, hk3, hR3⟩; have HK3 : Hid (Keep R (R + 1) w w3) := HKL.out.trans hk3; have HR3 : Hid (RdIn w3 R p c xs (rdN xs i1)) := hR3; clear hk3 hR3; go_wp2_with fail; refine (l2numO_any _ w3).mono ?_; rintro e w4 ⟨rfl, ho4, hb4⟩; have FIN : Hid _ := TermOut.of HK3.out HR3.out ho4 hb4; clear ho4 hb4; go_wp2_with fail; go_ret; rw [HX2.out, HF.out]; exact FIN.out
 ·have hb1 : ((j : Int) == 0) = false := by rw [hj0]; rfl
  have hb2 : decide ((j : Int) < 3) = true := by rw [hj0]; rfl
  have HF : Hid (leafT xs x i1 = ([(0, (((rdI xs i1).toNat % 5 : Nat) : Int), [])], rdN xs i1)) := by show _ = _; rw [leafT, if_neg (by rw [← HJ.out, hj0]; decide), if_pos (by rw [← HJ.out, hj0]; decide)]
  clear hj0; go_wp2_with fail; refine (next_any R c i1 p xs wL HRL.out).mono ?_; rintro e w3 ⟨rfl, hk3, hs3, hR3⟩; have HK3 : Hid (Keep R (R + 1) w w3) := HKL.out.trans hk3; have HR3 : Hid (RdIn w3 R p c xs (rdN xs i1)) := hR3
  obtain ⟨y, ey⟩ : ∃ y : Nat, rdI xs i1 = y := ⟨(rdI xs i1).toNat, by omega⟩
  rw [ey] at hr1 ⊢
  obtain ⟨z, ez⟩ : ∃ z, z = y % 5 := ⟨_, rfl⟩
  have hz : z < 5 := by omega
  have hmz : (y : Int).tmod 5 = (z : Int) := by rw [ez, Int.tmod_eq_emod_of_nonneg (by omega)]; rfl
  have HZ : Hid (([(0, (((rdI xs i1).toNat % 5 : Nat) : Int), [])] : List Cel) = [(0, (z : Int), [])]) := by show _ = _; rw [ey, Int.toNat_natCast, ez]
  clear hk3 hs3 hR3 ey ez; go_wp2_with fail; refine (l2varO_any _ w3).mono ?_; rintro e w4 ⟨rfl, ho4, hb4⟩; have FIN : Hid _ := TermOut.of HK3.out HR3.out ho4 hb4; clear ho4 hb4; go_wp2_with fail; go_ret; rw [HX2.out, HF.out, HZ.out]; exact FIN.out
 ·have hb1 : ((j : Int) == 0) = false := by rw [hj0]; rfl
  have hb2 : decide ((j : Int) < 3) = true := by rw [hj0]; rfl
  have HF : Hid (leafT xs x i1 = ([(0, (((rdI xs i1).toNat % 5 : Nat) : Int), [])], rdN xs i1)) := by show _ = _; rw [leafT, if_neg (by rw [← HJ.out, hj0]; decide), if_pos (by rw [← HJ.out, hj0]; decide)]
  clear hj0; go_wp2_with fail; refine (next_any R c i1 p xs wL HRL.out).mono ?_; rintro e w3 ⟨rfl, hk3, hs3, hR3⟩; have HK3 : Hid (Keep R (R + 1) w w3) := HKL.out.trans hk3; have HR3 : Hid (RdIn w3 R p c xs (rdN xs i1)) := hR3
  obtain ⟨y, ey⟩ : ∃ y : Nat, rdI xs i1 = y := ⟨(rdI xs i1).toNat, by omega⟩
  rw [ey] at hr1 ⊢
  obtain ⟨z, ez⟩ : ∃ z, z = y % 5 := ⟨_, rfl⟩
  have hz : z < 5 := by omega
  have hmz : (y : Int).tmod 5 = (z : Int) := by rw [ez, Int.tmod_eq_emod_of_nonneg (by omega)]; rfl
  have HZ : Hid (([(0, (((rdI xs i1).toNat % 5 : Nat) : Int), [])] : List Cel) = [(0, (z : Int), [])]) := by show _ = _; rw [ey, Int.toNat_natCast, ez]
  clear hk3 hs3 hR3 ey ez; go_wp2_with fail; refine (l2varO_any _ w3).mono ?_; rintro e w4 ⟨rfl, ho4, hb4⟩; have FIN : Hid _ := TermOut.of HK3.out HR3.out ho4 hb4; clear ho4 hb4; go_wp2_with fail; go_ret; rw [HX2.out, HF.out, HZ.out]; exact FIN.out
 ·have hb1 : ((j : Int) == 0) = false := by simp; omega
  have hb2 : decide ((j : Int) < 3) = false := by simp; omega
  have HF : Hid (leafT xs x i1 = ([(2, 0, numsU (nameAt (rdI xs i1).toNat))], rdN xs i1)) := by show _ = _; rw [leafT, if_neg (by rw [← HJ.out]; omega), if_neg (by rw [← HJ.out]; omega)]
  clear hj0; go_wp2_with fail; refine (l4name_any R c i1 p xs wL HRL.out).mono ?_; rintro e w3 ⟨g, n3, cap, rfl, hn3, hk3, hR3, hg, ht⟩; have HK3 : Hid (Keep R (R + 1) w w3) := HKL.out.trans hk3; have HR3 : Hid (RdIn w3 R p c xs (rdN xs i1)) := hR3; have HT3 : Hid (OwnT w3 wL.heap.size (some ⟨g, 0, none⟩) n3 cap (numsU (nameAt (rdI xs i1).toNat))) := ht; have HBW : Hid (w.heap.size ≤ wL.heap.size) := HKL.out.size; have hbA : Below w3.heap.size w3 (w3.alloc (Obj.cells #[Value.int IntKind.i64 2, Value.int IntKind.i64 0, Value.slice (some ⟨g, 0, none⟩) n3 cap] 55)) := (Below.refl _ _).alloc (Nat.le_refl _) _
  have HO3 : Hid (OwnC (w3.alloc (Obj.cells #[Value.int IntKind.i64 2, Value.int IntKind.i64 0, Value.slice (some ⟨g, 0, none⟩) n3 cap] 55)) w.heap.size (some ⟨w3.heap.size, 0, none⟩) 1 1 [(2, 0, numsU (nameAt (rdI xs i1).toNat))]) := by
   refine own_oneN (heap_alloc_new w3 _) (Nat.le_trans HBW.out hk3.size) ((ht.mono HBW.out).below hbA) (fun h0 a ea => ?_); obtain ⟨g', eg, hB', hl', hc'⟩ := ht.2 h0
   cases eg
   cases ea
   exact Nat.ne_of_lt hl'
  have HBA : Hid _ := hbA; clear hk3 hR3 ht hbA hg hn3; go_wp2_with fail; go_ret; rw [HX2.out, HF.out]; exact ⟨_, _, _, rfl, HO3.out, HK3.out.trans (Keep.of_below HBA.out), HR3.out.grow HBA.out⟩
set_option maxHeartbeats 2000000 in
theorem term_few (R c i : Nat) (p : Option Addr) (xs : List Int) (D : Int) (w : World) (h : RdIn w R p c xs i) (hD : -10 ≤ D ∧ D ≤ 10) (hc : 0 < D) (h0 : ¬ rdN xs i = xs.length) (h50 : (rdI xs i).toNat < 50) :
  Calls Tryz.prog 39 #[.pointer (some ⟨R, 0, none⟩), .int .i64 D] w (TermOut w R p c xs (leafT xs (rdI xs i).toNat (rdN xs i))) := by
 have HH : Hid (RdIn w R p c xs i) := h; have hr := rdI_rng h.bytes i; have hle := rdN_le h.le; have hsm := h.small; have hr1 := rdI_rng h.bytes (rdN xs i)
 obtain ⟨n, en⟩ : ∃ n, n = xs.length := ⟨_, rfl⟩
 rw [← en] at hle hsm; have HEN : Hid (n = xs.length) := en
 obtain ⟨i1, ei⟩ : ∃ i1, i1 = rdN xs i := ⟨_, rfl⟩
 rw [← ei] at hle hr1 ⊢; have HEI : Hid (i1 = rdN xs i) := ei; have hd : decide (D ≤ 0) = false := decide_eq_false (by omega); rw [← ei, ← en] at h0; clear h en ei
 go_enter Tryz.func39, Tryz.ntmps39
 go_wp2_with fail; refine (next_any R c i p xs w HH.out).mono ?_; rintro e w2 ⟨rfl, hk2, hs2, hR2⟩; have HK2 : Hid (Keep R (R + 1) w w2) := hk2
 have HR2 : Hid (RdIn w2 R p c xs i1) := by rw [HEI.out]; exact hR2
 obtain ⟨x, ex⟩ : ∃ x : Nat, rdI xs i = x := ⟨(rdI xs i).toNat, by omega⟩
 rw [ex] at hr ⊢
 have HX : Hid ((rdI xs i).toNat = x) := by show _ = _; rw [ex]; exact Int.toNat_natCast x
 obtain ⟨j, ej⟩ : ∃ j, j = x % 5 := ⟨_, rfl⟩
 have hj : j < 5 := by omega
 have hm : (x : Int).tmod 5 = (j : Int) := by rw [ej, Int.tmod_eq_emod_of_nonneg (by omega)]; rfl
 have HJ : Hid (j = x % 5) := ej; have hxt : ((x : Nat) : Int).toNat = x := Int.toNat_natCast x; have HX2 : Hid ((rdI xs i).toNat = x) := HX.out
 have hx50 : decide ((x : Int) < 50) = true := by rw [HX.out] at h50; exact decide_eq_true (by omega)
 clear hk2 hs2 hR2 ex ej; go_wp2_with fail; refine (left_any R c i1 p xs w2 HR2.out).mono ?_; rintro e wL ⟨rfl, hbL⟩; have HRL : Hid (RdIn wL R p c xs i1) := HR2.out.grow hbL; have HKL : Hid (Keep R (R + 1) w wL) := HK2.out.trans (Keep.of_below hbL); rw [← HEN.out]
 obtain ⟨lf, el⟩ : ∃ lf, lf = n - i1 := ⟨_, rfl⟩
 rw [← el]
 have hlf : lf ≤ 500 := by omega
 clear hbL
 have hz0 : ((lf : Int) == 0) = false := by simp; omega
 clear el
 rcases (by omega : j = 0 ∨ j = 1 ∨ j = 2 ∨ 3 ≤ j) with hj0 | hj0 | hj0 | hj0
 ·have hb1 : ((j : Int) == 0) = true := by rw [hj0]; rfl
  have HF : Hid (leafT xs x i1 = ([(1, intD (rdI xs i1).toNat, [])], rdN xs i1)) := by show _ = _; rw [leafT, if_pos (by rw [← HJ.out]; exact hj0)]
  clear hj0; go_wp2_with fail; refine (l4int_any R c i1 p xs wL HRL.out).mono ?_; rintro e w3 ⟨rfl, hk3, hR3⟩; have HK3 : Hid (Keep R (R + 1) w w3) := HKL.out.trans hk3; have HR3 : Hid (RdIn w3 R p c xs (rdN xs i1)) := hR3; clear hk3 hR3; go_wp2_with fail; refine (l2numO_any _ w3).mono ?_; rintro e w4 ⟨rfl, ho4, hb4⟩; have FIN : Hid _ := TermOut.of HK3.out HR3.out ho4 hb4; clear ho4 hb4; go_wp2_with fail; go_ret; rw [HX2.out, HF.out]; exact FIN.out
 ·have hb1 : ((j : Int) == 0) = false := by rw [hj0]; rfl
  have hb2 : decide ((j : Int) < 3) = true := by rw [hj0]; rfl
  have HF : Hid (leafT xs x i1 = ([(0, (((rdI xs i1).toNat % 5 : Nat) : Int), [])], rdN xs i1)) := by show _ = _; rw [leafT, if_neg (by rw [← HJ.out, hj0]; decide), if_pos (by rw [← HJ.out, hj0]; decide)]
  clear hj0; go_wp2_with fail; refine (next_any R c i1 p xs wL HRL.out).mono ?_; rintro e w3 ⟨rfl, hk3, hs3, hR3⟩; have HK3 : Hid (Keep R (R + 1) w w3) := HKL.out.trans hk3; have HR3 : Hid (RdIn w3 R p c xs (rdN xs i1)) := hR3
  obtain ⟨y, ey⟩ : ∃ y : Nat, rdI xs i1 = y := ⟨(rdI xs i1).toNat, by omega⟩
  rw [ey] at hr1 ⊢
  obtain ⟨z, ez⟩ : ∃ z, z = y % 5 := ⟨_, rfl⟩
  have hz : z < 5 := by omega
  have hmz : (y : Int).tmod 5 = (z : Int) := by rw [ez, Int.tmod_eq_emod_of_nonneg (by omega)]; rfl
  have HZ : Hid (([(0, (((rdI xs i1).toNat % 5 : Nat) : Int), [])] : List Cel) = [(0, (z : Int), [])]) := by show _ = _; rw [ey, Int.toNat_natCast, ez]
  clear hk3 hs3 hR3 ey ez; go_wp2_with fail; refine (l2varO_any _ w3).mono ?_; rintro e w4 ⟨rfl, ho4, hb4⟩; have FIN : Hid _ := TermOut.of HK3.out HR3.out ho4 hb4; clear ho4 hb4; go_wp2_with fail; go_ret; rw [HX2.out, HF.out, HZ.out]; exact FIN.out
 ·have hb1 : ((j : Int) == 0) = false := by rw [hj0]; rfl
  have hb2 : decide ((j : Int) < 3) = true := by rw [hj0]; rfl
  have HF : Hid (leafT xs x i1 = ([(0, (((rdI xs i1).toNat % 5 : Nat) : Int), [])], rdN xs i1)) := by show _ = _; rw [leafT, if_neg (by rw [← HJ.out, hj0]; decide), if_pos (by rw [← HJ.out, hj0]; decide)]
  clear hj0; go_wp2_with fail; refine (next_any R c i1 p xs wL HRL.out).mono ?_; rintro e w3 ⟨rfl, hk3, hs3, hR3⟩; have HK3 : Hid (Keep R (R + 1) w w3) := HKL.out.trans hk3; have HR3 : Hid (RdIn w3 R p c xs (rdN xs i1)) := hR3
  obtain ⟨y, ey⟩ : ∃ y : Nat, rdI xs i1 = y := ⟨(rdI xs i1).toNat, by omega⟩
  rw [ey] at hr1 ⊢
  obtain ⟨z, ez⟩ : ∃ z, z = y % 5 := ⟨_, rfl⟩
  have hz : z < 5 := by omega
  have hmz : (y : Int).tmod 5 = (z : Int) := by rw [ez, Int.tmod_eq_emod_of_nonneg (by omega)]; rfl
  have HZ : Hid (([(0, (((rdI xs i1).toNat % 5 : Nat) : Int), [])] : List Cel) = [(0, (z : Int), [])]) := by show _ = _; rw [ey, Int.toNat_natCast, ez]
  clear hk3 hs3 hR3 ey ez; go_wp2_with fail; refine (l2varO_any _ w3).mono ?_; rintro e w4 ⟨rfl, ho4, hb4⟩; have FIN : Hid _ := TermOut.of HK3.out HR3.out ho4 hb4; clear ho4 hb4; go_wp2_with fail; go_ret; rw [HX2.out, HF.out, HZ.out]; exact FIN.out
 ·have hb1 : ((j : Int) == 0) = false := by simp; omega
  have hb2 : decide ((j : Int) < 3) = false := by simp; omega
  have HF : Hid (leafT xs x i1 = ([(2, 0, numsU (nameAt (rdI xs i1).toNat))], rdN xs i1)) := by show _ = _; rw [leafT, if_neg (by rw [← HJ.out]; omega), if_neg (by rw [← HJ.out]; omega)]
  clear hj0; go_wp2_with fail; refine (l4name_any R c i1 p xs wL HRL.out).mono ?_; rintro e w3 ⟨g, n3, cap, rfl, hn3, hk3, hR3, hg, ht⟩; have HK3 : Hid (Keep R (R + 1) w w3) := HKL.out.trans hk3; have HR3 : Hid (RdIn w3 R p c xs (rdN xs i1)) := hR3; have HT3 : Hid (OwnT w3 wL.heap.size (some ⟨g, 0, none⟩) n3 cap (numsU (nameAt (rdI xs i1).toNat))) := ht; have HBW : Hid (w.heap.size ≤ wL.heap.size) := HKL.out.size; have hbA : Below w3.heap.size w3 (w3.alloc (Obj.cells #[Value.int IntKind.i64 2, Value.int IntKind.i64 0, Value.slice (some ⟨g, 0, none⟩) n3 cap] 55)) := (Below.refl _ _).alloc (Nat.le_refl _) _
  have HO3 : Hid (OwnC (w3.alloc (Obj.cells #[Value.int IntKind.i64 2, Value.int IntKind.i64 0, Value.slice (some ⟨g, 0, none⟩) n3 cap] 55)) w.heap.size (some ⟨w3.heap.size, 0, none⟩) 1 1 [(2, 0, numsU (nameAt (rdI xs i1).toNat))]) := by
   refine own_oneN (heap_alloc_new w3 _) (Nat.le_trans HBW.out hk3.size) ((ht.mono HBW.out).below hbA) (fun h0 a ea => ?_); obtain ⟨g', eg, hB', hl', hc'⟩ := ht.2 h0
   cases eg
   cases ea
   exact Nat.ne_of_lt hl'
  have HBA : Hid _ := hbA; clear hk3 hR3 ht hbA hg hn3; go_wp2_with fail; go_ret; rw [HX2.out, HF.out]; exact ⟨_, _, _, rfl, HO3.out, HK3.out.trans (Keep.of_below HBA.out), HR3.out.grow HBA.out⟩
theorem app_itemU (U : Nat) (w : World) {ops : Array Oper} {rest : List Oper} {o : Oper} {a : Act} {Q : Exit → Act → World → Prop} (hgd : o.guard = none) (s x : Operand)
  (ho : o.op = .call { callee := .builtin .append, args := #[s, x], argTypes := #[33, 33] }) (B : Nat) (p : Option Addr) (n c : Nat) (css : List (List Cel))
  (hs : a.eval s = .slice p n c) (hown : OwnCC w B U p n c css) (hU : U ≤ w.heap.size) (hB : B ≤ U) (q : Option Addr) (m cq : Nat) (cs : List Cel) (hit : OwnC w U q m cq cs)
  (hx : a.eval x = .slice (some ⟨w.heap.size, 0, none⟩) 1 1) (hlen : n + 1 ≤ 1000000)
  (h : ∀ g n' cap w', OwnCC w' B w'.heap.size (some ⟨g, 0, none⟩) n' cap (css ++ [cs]) → Below B (w.alloc (.cells #[.slice q m cq] 23)) w' → Hid (n' = n + 1) → wpList Tryz.prog ops Q rest (a.put o.dst (.slice (some ⟨g, 0, none⟩) n' cap)) w') : wpList Tryz.prog ops Q (o :: rest) a (w.alloc (.cells #[.slice q m cq] 23)) := by
 obtain ⟨i0, hi, hz0, hz1, hz2⟩ := info_parts infoCells; obtain ⟨ds, hss⟩ := hown; have hal : Below w.heap.size w (w.alloc (.cells #[.slice q m cq] 23)) := (Below.refl _ _).alloc (Nat.le_refl _) _; refine wpList_append_lies _ hgd s x 33 ho B 23 i0 (.slice none 0 0) 1 24 Tryz.underlying33 hi hz0 hz1 hz2 rfl (by decide) (.slice p n c) n (vals ds css) hs (row_below hss.row hal) ⟨w.heap.size, 0, none⟩ 1 1 [.slice q m cq] hx rfl (cell_one_new _ _ _) (fun u hu => by simp at hu; rw [hu]; rfl) (by decide) (by unfold maxLen; omega) (by omega) (Nat.le_trans (Nat.le_trans hB hU) hal.size) _ rfl ?_
 intro g cap w' hown' hgrow hat hlt
 have hown : ∀ k, Value.ownBlock (.slice p n c) = some k → B ≤ k ∧ k < U := fun k hk => ⟨(hss.row.lt k hk).1, hss.top k hk⟩
 have hm := hit.1
 have hg2 : g < U ∨ w.heap.size ≤ g := by
  rcases hat with h' | h'
  ·exact .inl (hown g h').2
  ·right; rw [h']; simp
 have hws := hU
 have keepS : ∀ k, k < w.heap.size → (∀ j, Value.ownBlock (.slice p n c) = some j → k ≠ j) → w'.heap[k]? = w.heap[k]? := fun k hk hne =>
  (hgrow.block k (by simp; omega) (fun e => hne k e.symm rfl)).trans (Below.heap_alloc _ _ _ hk)
 have hitU := hit.up; refine h g _ cap w' ⟨ds ++ [(q, cq, U, w.heap.size)], ?_⟩ ((Below.refl _ _).grown hgrow (Nat.le_trans (Nat.le_trans hB hU) hal.size) (fun k hk => (hown k hk).1)) rfl; have hdl := hss.dlen; have hln := hss.len; refine ⟨by simp; omega, by simp; omega, by rw [vals_append _ _ _ _ hdl, ← hm]; exact hown', fun i hi => ?_, fun i hi => ?_, fun i hi k hk => ?_, fun i j hij hj => ?_, fun k hk => ?_⟩
 ·have hi' : i ≤ css.length := by simp at hi; omega
  rw [ds_append_at _ _ _ (by omega), css_append_at _ _ _ hi']
  by_cases e : i = css.length
  ·rw [if_pos (by omega), if_pos e, ← hm]
   exact hitU.other (by have := hgrow.size; simp at this; omega) (fun k h1 h2 h3 => keepS k h1 (fun j hj => by have := (hown j hj).2; omega))
  ·rw [if_neg (by omega), if_neg e]
   refine (hss.item i (by omega)).other (by have := hgrow.size; simp at this; omega) (fun k h1 h2 h3 => keepS k h1 (fun j hj => ?_)); have := hss.away i (by omega) j hj
   omega
 ·have hi' : i ≤ css.length := by simp at hi; omega
  rw [ds_append_at _ _ _ (by omega)]
  have hwl : w.heap.size ≤ w'.heap.size := by have := hgrow.size; simp at this; omega
  by_cases e : i = css.length
  ·rw [if_pos (by omega)]; exact ⟨hB, hwl⟩
  ·rw [if_neg (by omega)]
   have := hss.low i (by omega); exact ⟨this.1, by omega⟩
 ·have hi' : i ≤ css.length := by simp at hi; omega
  have hk' : k = g := (Option.some.inj hk).symm; subst hk'; rw [ds_append_at _ _ _ (by omega)]
  by_cases e : i = css.length
  ·rw [if_pos (by omega)]; exact hg2
  ·rw [if_neg (by omega)]
   rcases hat with h' | h'
   ·exact hss.away i (by omega) _ h'
   ·right
    have := (hss.low i (by omega)).2
    have hsz : (w.alloc (.cells #[.slice q m cq] 23)).heap.size = w.heap.size + 1 := by simp
    rw [h', hsz]; omega
 ·have hj' : j ≤ css.length := by simp at hj; omega
  rw [ds_append_at _ _ _ (by omega), ds_append_at _ _ _ (by omega), if_neg (by omega)]
  by_cases e : j = css.length
  ·rw [if_pos (by omega)]
   exact (hss.low i (by omega)).2
  ·rw [if_neg (by omega)]
   exact hss.apart i j hij (by omega)
 ·have hk' : k = g := (Option.some.inj hk).symm
  omega
theorem sameB_any (p q : Option Addr) (c1 c2 : Nat) (xs ys : List Int) (w : World) (hn : xs.length ≤ 1000000000) (hm : ys.length ≤ 1000000000) (hx : BIn w p xs) (hy : BIn w q ys) :
  Calls Tryz.prog 48 #[.slice p xs.length c1, .slice q ys.length c2] w fun e w' => e = .returned (.bool (decide (xs = ys))) ∧ ∃ n, w' = w.drewN n := by
 by_cases hl : xs.length = ys.length
 ·have HL : Hid (xs.length = ys.length) := hl
  obtain ⟨n, en⟩ : ∃ n, ys.length = n := ⟨_, rfl⟩
  rw [hl]; rw [hl] at hn; rw [en] at hn hm hl ⊢; have HE : Hid (ys.length = n) := en; clear hl en
  go_enter Tryz.func48, Tryz.ntmps48
  go_wp2
  go_loopw [5] (fun i wr => ∃ k m : Nat, k ≤ n ∧ i = .int .i64 k ∧ Hid (wr = w.drewN m) ∧ Hid (∀ j, j < k → xs.getD j 0 = ys.getD j 0)) (fun i _ => n - (intOf i).toNat)
  case atStart => exact ⟨0, 0, Nat.zero_le _, rfl, rfl, fun _ h => absurd h (Nat.not_lt_zero _)⟩
  case round =>
   obtain ⟨k, m, hk, rfl, HW, HN⟩ := hrel
   by_cases hlt : k < n
   ·obtain ⟨b, o, rfl, hcx⟩ := hx (by rw [HL.out, HE.out]; omega)
    obtain ⟨b', o', rfl, hcy⟩ := hy (by rw [HE.out]; omega)
    have h1 : wr.cell? ⟨b, o + k, none⟩ = some (.int .u8 (xs.getD k 0)) := by rw [HW.out]; exact hcx k (by rw [HL.out, HE.out]; exact hlt)
    have h2 : wr.cell? ⟨b', o' + k, none⟩ = some (.int .u8 (ys.getD k 0)) := by rw [HW.out]; exact hcy k (by rw [HE.out]; exact hlt)
    obtain ⟨x, ex⟩ : ∃ x, x = xs.getD k 0 := ⟨_, rfl⟩
    obtain ⟨y, ey⟩ : ∃ y, y = ys.getD k 0 := ⟨_, rfl⟩
    rw [← ex] at h1; rw [← ey] at h2; have HX : Hid (x = xs.getD k 0) := ex; have HY : Hid (y = ys.getD k 0) := ey; clear ex ey hcx hcy hx hy
    by_cases ht : x = y
    ·subst ht
     go_wp2
     go_region
     all_goals go_wp2
     all_goals go_roundw
     case rel => exact ⟨k + 1, m + 1, by omega, by go_num, by rw [HW.out]; rfl, fun j hj => by
      by_cases e : j = k
      ·subst e; rw [← HX.out, ← HY.out]
      ·exact HN.out j (by omega)⟩
     case measure => simp [intOf]; omega
    ·have ht' : (x != y) = true := by simpa using ht
     go_wp2
     go_region
     all_goals go_wp2
     all_goals go_ret
     exact ⟨ret_bool (by
      symm; rw [decide_eq_false_iff_not]; intro e
      exact ht (by rw [HX.out, HY.out, e])), m + 1, by rw [HW.out]; rfl⟩
   ·obtain rfl : k = n := by omega
    go_wp2
    go_ret; exact ⟨ret_bool (by symm; rw [decide_eq_true_iff]; exact same_every HL.out (by rw [HL.out, HE.out]; exact HN.out)), m, HW.out⟩
 ·have hne : ¬ ((xs.length : Int) = (ys.length : Int)) := by omega
  have e : decide (xs = ys) = false := by rw [decide_eq_false_iff_not]; intro e; exact hl (by rw [e])
  rw [e]; clear e hx hy
  go_enter Tryz.func48, Tryz.ntmps48
  go_wp2
  go_ret; exact ⟨rfl, 0, rfl⟩
theorem sameCell_any (k1 n1 k2 n2 : Int) (p q : Option Addr) (m1 m2 c1 c2 : Nat) (xs ys : List Int) (w : World) (hl1 : m1 = xs.length) (hl2 : m2 = ys.length) (hn : m1 ≤ 1000000000) (hm : m2 ≤ 1000000000) (hx : BIn w p xs) (hy : BIn w q ys) :
  Calls Tryz.prog 26 #[.agg #[.int .i64 k1, .int .i64 n1, .slice p m1 c1], .agg #[.int .i64 k2, .int .i64 n2, .slice q m2 c2]] w fun e w' => e = .returned (.bool (decide (((k1, n1, xs) : Cel) = (k2, n2, ys)))) ∧ Below w.heap.size w w' := by
 subst hl1 hl2
 have HSS : Hid (∀ W, Below w.heap.size w W → Calls Tryz.prog 48 #[.slice p xs.length c1, .slice q ys.length c2] W fun e w' => e = .returned (.bool (decide (xs = ys))) ∧ ∃ n, w' = W.drewN n) := fun W hW => sameB_any p q c1 c2 xs ys W hn hm (hx.below hW) (hy.below hW)
 have hb0 : Below w.heap.size w ((w.alloc (Obj.cells #[Value.int IntKind.i64 k1, Value.int IntKind.i64 n1, Value.slice p xs.length c1] 55)).alloc (Obj.cells #[Value.int IntKind.i64 k2, Value.int IntKind.i64 n2, Value.slice q ys.length c2] 55)) := ((Below.refl _ _).alloc (Nat.le_refl _) _).alloc (by simp) _; clear hx hy
 by_cases hk : k1 = k2
 ·subst hk
  by_cases hnn : n1 = n2
  ·subst hnn
   have HS := HSS.out _ hb0; have HB : Hid _ := hb0; clear hb0 HSS
   have hd : decide (((k1, n1, xs) : Cel) = (k1, n1, ys)) = decide (xs = ys) := by simp
   rw [hd]
   cases ht : decide (xs = ys)
   rotate_right
   case' _ =>
    rw [ht] at HS
   rotate_right
   case' _ =>
    rw [ht] at HS
   all_goals
    clear ht hd
    go_enter Tryz.func26, Tryz.ntmps26
    go_wp2_with (go_at_call 48; refine HS.mono ?_; rintro e w' ⟨rfl, m, rfl⟩); go_ret; exact ⟨rfl, below_drewN HB.out _⟩
  ·have hd : decide (((k1, n1, xs) : Cel) = (k1, n2, ys)) = false := by simp [hnn]
   rw [hd]; have HB : Hid _ := hb0; clear hd HSS hb0
   have hnn' : (n1 == n2) = false := by simpa using hnn
   have hnq : ¬ n1 = n2 := hnn
   go_enter Tryz.func26, Tryz.ntmps26
   go_wp2
   go_ret; exact ⟨rfl, HB.out⟩
 ·have hd : decide (((k1, n1, xs) : Cel) = (k2, n2, ys)) = false := by simp [hk]
  rw [hd]; have HB : Hid _ := hb0; clear hd HSS hb0
  have hk' : (k1 == k2) = false := by simpa using hk
  have hkq : ¬ k1 = k2 := hk
  go_enter Tryz.func26, Tryz.ntmps26
  go_wp2
  go_ret; exact ⟨rfl, HB.out⟩
theorem sameT_any (p q : Option Addr) (c1 c2 : Nat) (xs ys : List Cel) (w : World) (hn : xs.length + tl xs ≤ 1000000000) (hm : ys.length + tl ys ≤ 1000000000) (hx : CIn w p xs) (hy : CIn w q ys) :
  Calls Tryz.prog 8 #[.slice p xs.length c1, .slice q ys.length c2] w fun e w' => e = .returned (.bool (decide (xs = ys))) ∧ Below w.heap.size w w' := by
 have HX : Hid (CIn w p xs) := hx; have HY : Hid (CIn w q ys) := hy; clear hx hy
 by_cases hl : xs.length = ys.length
 ·have HL : Hid (xs.length = ys.length) := hl
  obtain ⟨n, en⟩ : ∃ n, ys.length = n := ⟨_, rfl⟩
  rw [hl]; rw [hl] at hn; rw [en] at hn hm hl ⊢; have HE : Hid (ys.length = n) := en; clear hl en
  go_enter Tryz.func8, Tryz.ntmps8
  go_wp2
  go_loopw [5] (fun i wr => ∃ k : Nat, k ≤ n ∧ i = .int .i64 k ∧ Hid (Below w.heap.size w wr) ∧ Hid (∀ j, j < k → xs.getD j Cel.none = ys.getD j Cel.none)) (fun i _ => n - (intOf i).toNat)
  case atStart => exact ⟨0, Nat.zero_le _, rfl, Below.refl _ _, fun _ h => absurd h (Nat.not_lt_zero _)⟩
  case round =>
   obtain ⟨k, hk, rfl, HB, HN⟩ := hrel
   by_cases hlt : k < n
   ·have hkx : k < xs.length := by rw [HL.out, HE.out]; exact hlt
    have hky : k < ys.length := by rw [HE.out]; exact hlt
    obtain ⟨b, o, rfl, hcx⟩ := HX.out (by omega); obtain ⟨b', o', rfl, hcy⟩ := HY.out (by omega); obtain ⟨px, qx, x0, x1, x2, x3⟩ := (hcx k hkx).below HB.out; obtain ⟨py, qy, y0, y1, y2, y3⟩ := (hcy k hky).below HB.out; have bx := tl_at xs k hkx; have bY := tl_at ys k hky; have HEQ : Hid (decide (((xs.getD k Cel.none).1, (xs.getD k Cel.none).2.1, (xs.getD k Cel.none).2.2) = (((ys.getD k Cel.none).1, (ys.getD k Cel.none).2.1, (ys.getD k Cel.none).2.2) : Cel)) = decide (xs.getD k Cel.none = ys.getD k Cel.none)) := rfl
    obtain ⟨a0, ea0⟩ : ∃ x, x = (xs.getD k Cel.none).1 := ⟨_, rfl⟩
    obtain ⟨a1, ea1⟩ : ∃ x, x = (xs.getD k Cel.none).2.1 := ⟨_, rfl⟩
    obtain ⟨am, eam⟩ : ∃ x, x = (xs.getD k Cel.none).2.2.length := ⟨_, rfl⟩
    obtain ⟨e0, ee0⟩ : ∃ x, x = (ys.getD k Cel.none).1 := ⟨_, rfl⟩
    obtain ⟨e1, ee1⟩ : ∃ x, x = (ys.getD k Cel.none).2.1 := ⟨_, rfl⟩
    obtain ⟨em, eem⟩ : ∃ x, x = (ys.getD k Cel.none).2.2.length := ⟨_, rfl⟩
    have HS : Hid (∀ W, Below wr.heap.size wr W → Calls Tryz.prog 26 #[.agg #[.int .i64 a0, .int .i64 a1, .slice px am qx], .agg #[.int .i64 e0, .int .i64 e1, .slice py em qy]] W fun e w' => e = .returned (.bool (decide (xs.getD k Cel.none = ys.getD k Cel.none))) ∧ Below W.heap.size W w') := fun W hW => by
     have := sameCell_any a0 a1 e0 e1 px py am em qx qy _ _ W eam eem (by omega) (by omega) (x3.below hW) (y3.below hW)
     rwa [ea0, ea1, ee0, ee1, HEQ.out, ← ea0, ← ea1, ← ee0, ← ee1] at this
    rw [← ea0] at x0; rw [← ea1] at x1; rw [← eam] at x2; rw [← ee0] at y0; rw [← ee1] at y1; rw [← eem] at y2; clear ea0 ea1 eam ee0 ee1 eem HEQ x3 y3 hcx hcy HX HY bx bY hkx hky
    cases ht : decide (xs.getD k Cel.none = ys.getD k Cel.none)
    ·rw [ht] at HS
     have HT : Hid _ := ht; clear ht
     go_wp2
     go_region_with (go_at_call 26; refine (HS.out _ (Below.refl _ _).drew).mono ?_; rintro e w2 ⟨rfl, hb2⟩)
     all_goals go_wp2
     all_goals go_ret
     all_goals exact ⟨ret_bool (by
      symm; rw [decide_eq_false_iff_not]; intro e
      have := HT.out; rw [decide_eq_false_iff_not] at this
      exact this (by rw [e])), Below.on HB.out ((Below.refl _ _).drew.trans hb2)⟩
    ·rw [ht] at HS
     have HT : Hid _ := ht; clear ht
     go_wp2
     go_region_with (go_at_call 26; refine (HS.out _ (Below.refl _ _).drew).mono ?_; rintro e w2 ⟨rfl, hb2⟩)
     all_goals go_wp2
     all_goals go_roundw
     all_goals first
      | (simp [intOf]; omega)
      | exact ⟨k + 1, by omega, by go_num, Below.on HB.out ((Below.refl _ _).drew.trans hb2), fun j hj => by
         by_cases e : j = k
         ·subst e; exact of_decide_eq_true HT.out
         ·exact HN.out j (by omega)⟩
   ·obtain rfl : k = n := by omega
    go_wp2
    go_ret; exact ⟨ret_bool (by symm; rw [decide_eq_true_iff]; exact same_cells HL.out (by rw [HL.out, HE.out]; exact HN.out)), HB.out⟩
 ·have hne : ¬ ((xs.length : Int) = (ys.length : Int)) := by omega
  have e : decide (xs = ys) = false := by rw [decide_eq_false_iff_not]; intro e; exact hl (by rw [e])
  rw [e]; clear e
  go_enter Tryz.func8, Tryz.ntmps8
  go_wp2
  go_ret; exact ⟨rfl, Below.refl _ _⟩
theorem flatO_one (r : RC) : flatO [r] = roV r := by simp [flatO]
theorem ownO_grew {W0 w w' : World} {B g n cap cp : Nat} {p : Option Addr} {cs : List Cel} {rs : List RC} (hn : n = cs.length) (hl : rs.length = cs.length) (hr0 : W0.ownsRow B 120 3 (.slice p n cp) n (flatO rs))
  (hf : ∀ i, i < cs.length → Fits W0 B (rs.getD i RC.zero) (cs.getD i Cel.none)) (ha : ApartC p rs) (hb0 : Below W0.heap.size W0 w) (hB : B ≤ W0.heap.size)
  {kd nn : Int} {tp : Option Addr} {tn tc : Nat} {t : List Int} (ht : OwnT w W0.heap.size tp tn tc t)
  (hr : w'.ownsRow B 120 3 (.slice (some ⟨g, 0, none⟩) (n + 1) cap) (n + 1) (flatO rs ++ roV (kd, nn, tp, tn, tc))) (hg : w.grownBy w' (Value.ownBlock (.slice p n cp))) (hat : Value.ownBlock (.slice p n cp) = some g ∨ g = w.heap.size) :
  OwnO w' B (some ⟨g, 0, none⟩) (n + 1) cap (cs ++ [(kd, nn, t)]) := by
 have hown : ∀ k, Value.ownBlock (.slice p n cp) = some k → p = some ⟨k, 0, none⟩ ∧ k < W0.heap.size := fun k hk => by
  rcases hr0.2 with ⟨hv, _⟩ | ⟨g', cap', cur, hv, hb, hg', _⟩
  ·simp only [Value.slice.injEq] at hv; rw [hv.1] at hk; simp [Value.ownBlock] at hk
  ·simp only [Value.slice.injEq] at hv
   rw [hv.1] at hk ⊢
   simp [Value.ownBlock] at hk
   subst hk; exact ⟨rfl, (Array.getElem?_eq_some_iff.1 hg').1⟩
 have hold : ∀ i, i < cs.length → OwnT w B (rs.getD i RC.zero).2.2.1 (rs.getD i RC.zero).2.2.2.1 (rs.getD i RC.zero).2.2.2.2 (cs.getD i Cel.none).2.2 := fun i hi => (hf i hi).2.2.below hb0
 have hlow : ∀ i, i < cs.length → 0 < (rs.getD i RC.zero).2.2.2.1 → ∃ k, (rs.getD i RC.zero).2.2.1 = some ⟨k, 0, none⟩ ∧ k < W0.heap.size := fun i hi hp => by
  obtain ⟨k, e, _, hlt, _⟩ := (hf i hi).2.2.2 hp; exact ⟨k, e, hlt⟩
 have hhigh : 0 < tn → ∃ k, tp = some ⟨k, 0, none⟩ ∧ W0.heap.size ≤ k ∧ k < w.heap.size := fun hp => by
  obtain ⟨k, e, h1, h2, _⟩ := ht.2 hp; exact ⟨k, e, h1, h2⟩
 have hnewg : g < W0.heap.size ∨ g = w.heap.size := by
  rcases hat with h | h
  ·exact .inl (hown g h).2
  ·exact .inr h
 refine ⟨by simp; omega, rs ++ [(kd, nn, tp, tn, tc)], by simp; omega, by rw [flatO_append, flatO_one]; exact hr, fun i hi => ?_, fun i hi hp => ?_, fun i j hi hj hij hpi hpj => ?_⟩
 ·have hi' : i ≤ cs.length := by simp at hi; omega
  rw [rs_append_at _ _ _ (by omega), cs_append_at _ _ _ hi']
  by_cases e : i = cs.length
  ·rw [if_pos (by omega), if_pos e]
   refine ⟨rfl, rfl, (ht.mono hB).other hg.size (fun k hn0 e' => ?_)⟩; obtain ⟨k', e'', h1, h2⟩ := hhigh hn0
   have hkk : k = k' := by
    have := e'.symm.trans e''; exact congrArg Addr.block (Option.some.inj this)
   refine hg.block k (by omega) (fun hk => ?_); have := (hown k hk.symm).2
   omega
  ·rw [if_neg (by omega), if_neg e]
   refine ⟨(hf i (by omega)).1, (hf i (by omega)).2.1, (hold i (by omega)).other hg.size (fun k hn0 e' => ?_)⟩; obtain ⟨k', e'', h1⟩ := hlow i (by omega) hn0; have hkk : k = k' := congrArg Addr.block (Option.some.inj (e'.symm.trans e'')); refine hg.block k (by have := hb0.size; omega) (fun hk => ?_); exact ha.1 i (by omega) hn0 (by rw [e', (hown k hk.symm).1])
 ·have hi' : i ≤ rs.length := by simp at hi; omega
  rw [rs_append_at _ _ _ hi'] at hp ⊢
  by_cases e : i = rs.length
  ·rw [if_pos e] at hp ⊢
   obtain ⟨k', e'', h1, h2⟩ := hhigh hp; rw [show ((kd, nn, tp, tn, tc) : RC).2.2.1 = tp from rfl, e'']; exact ne_block (by omega) hp
  ·rw [if_neg e] at hp ⊢
   obtain ⟨k', e'', h1⟩ := hlow i (by omega) hp
   rcases hat with h | h
   ·rw [← (hown g h).1]
    exact ha.1 i (by omega) hp
   ·rw [e'']
    exact ne_block (by have := hb0.size; omega) hp
 ·have hi' : i ≤ rs.length := by simp at hi; omega
  have hj' : j ≤ rs.length := by simp at hj; omega
  rw [rs_append_at _ _ _ hi'] at hpi ⊢; rw [rs_append_at _ _ _ hj'] at hpj ⊢
  by_cases e : i = rs.length
  ·rw [if_pos e] at hpi ⊢
   rw [if_neg (by omega)] at hpj ⊢; obtain ⟨k', e'', h1, h2⟩ := hhigh hpi; obtain ⟨k2, e2, h3⟩ := hlow j (by omega) hpj; rw [show ((kd, nn, tp, tn, tc) : RC).2.2.1 = tp from rfl, e'', e2]; exact ne_block (by omega) hpi
  ·rw [if_neg e] at hpi ⊢
   by_cases e' : j = rs.length
   ·rw [if_pos e'] at hpj ⊢
    obtain ⟨k', e'', h1, h2⟩ := hhigh hpj; obtain ⟨k2, e2, h3⟩ := hlow i (by omega) hpi; rw [show ((kd, nn, tp, tn, tc) : RC).2.2.1 = tp from rfl, e'', e2]; exact ne_block (by omega) hpi
   ·rw [if_neg e'] at hpj ⊢
    exact ha.2 i j (by omega) (by omega) hij hpi hpj
theorem roV_one (r : RC) : ∀ u ∈ roV r, u.oneCell' = true := fun u hu => by
 simp [roV] at hu
 rcases hu with rfl | rfl | rfl <;> rfl
end
section
open Go Go.RowKit Go.Maps
theorem below_grownBy {w w' : World} (h : Below w.heap.size w w') : w.grownBy w' none := ⟨h.os, h.tape, h.output, h.size, fun k hk _ => h.block k hk⟩
theorem app_op2 (W0 w : World) {ops : Array Oper} {rest : List Oper} {o : Oper} {a : Act} {Q : Exit → Act → World → Prop} (hgd : o.guard = none) (s x : Operand)
  (ho : o.op = .call { callee := .builtin .append, args := #[s, x], argTypes := #[37, 37] }) (B : Nat) (p : Option Addr) (n c : Nat) (cs : List Cel)
  (hs : a.eval s = .slice p n c) (hown : OwnO W0 B p n c cs) (hb0 : Below W0.heap.size W0 w) (hB : B ≤ W0.heap.size) (ad : Addr) (c' : Nat) (hx : a.eval x = .slice (some ad) 1 c') (kd nn : Int) (tp : Option Addr) (tn tc : Nat) (t : List Int)
  (ht : OwnT w W0.heap.size tp tn tc t) (hnews : ∀ j u, (roV (kd, nn, tp, tn, tc))[j]? = some u → w.cell? (ad.add j) = some u) (hlen : n + 1 ≤ 1000000000)
  (h : ∀ g n' cap w', OwnO w' B (some ⟨g, 0, none⟩) n' cap (cs ++ [(kd, nn, t)]) → w.grownBy w' (Value.ownBlock (.slice p n c)) → (Value.ownBlock (.slice p n c) = some g ∨ g = w.heap.size) → Hid (n' = n + 1) → wpList Tryz.prog ops Q rest (a.put o.dst (.slice (some ⟨g, 0, none⟩) n' cap)) w') : wpList Tryz.prog ops Q (o :: rest) a w := by
 obtain ⟨i0, hi, hz0, hz1, hz2⟩ := info_parts infoOp; obtain ⟨hn, rs, hl, hr, hf, ha⟩ := hown; refine wpList_append_lies w hgd s x 37 ho B 120 i0 (.agg #[.slice none 0 0, .int .i64 0, .int .i64 0]) 3 40 Tryz.underlying37 hi hz0 hz1 hz2 rfl (by decide) (.slice p n c) n (flatO rs) hs (row_below hr hb0) ad 1 c' (roV (kd, nn, tp, tn, tc)) hx rfl hnews (roV_one _) (by decide) (by unfold maxLen; omega) (by omega) (Nat.le_trans hB hb0.size) w.heap.size rfl ?_
 intro g cap w' hown' hgrow hat hlt
 exact h g _ cap w' (ownO_grew hn hl hr hf ha hb0 hB ht hown' hgrow hat) hgrow hat rfl
theorem OwnO.row {w : World} {B : Nat} {p : Option Addr} {n c : Nat} {cs : List Cel} (h : OwnO w B p n c cs) {k : Nat} (e : Value.ownBlock (.slice p n c) = some k) : B ≤ k ∧ k < w.heap.size := by
 obtain ⟨hn, rs, hl, hr, _⟩ := h; exact hr.lt k e
theorem OwnO.kept {w w' : World} {B r : Nat} {p : Option Addr} {n c : Nat} {cs : List Cel} (h : OwnO w B p n c cs) (hg : w.grownBy w' (some r)) (hr0 : r < B) : OwnO w' B p n c cs := by
 obtain ⟨hn, rs, hl, hr, hf, ha⟩ := h; refine ⟨hn, rs, hl, hr.kept hg (.inr (fun e => ?_)), fun i hi => ⟨(hf i hi).1, (hf i hi).2.1, (hf i hi).2.2.other hg.size (fun k hp e => ?_)⟩, ha⟩
 ·have := (hr.lt r e).1
  omega
 ·obtain ⟨k', e', h1, h2, _⟩ := (hf i hi).2.2.2 hp
  have ek : k = k' := by rw [e] at e'; exact congrArg Addr.block (Option.some.inj e')
  exact hg.block k (by omega) (fun e2 => by have := Option.some.inj e2; omega)
theorem news_ro {w : World} {d : Nat} {r : RC} (h : Box3 w d (.slice r.2.2.1 r.2.2.2.1 r.2.2.2.2) (.int .i64 r.1) (.int .i64 r.2.1)) : ∀ j u, (roV r)[j]? = some u → w.cell? ((⟨d, 0, none⟩ : Addr).add j) = some u := fun j u hu => by
 match j, hu with
 | 0, hu => simp [roV] at hu; rw [← hu]; exact h.1
 | 1, hu => simp [roV] at hu; rw [← hu]; exact h.2.1
 | 2, hu => simp [roV] at hu; rw [← hu]; exact h.2.2.1
 | j + 3, hu => simp [roV] at hu
end
end Go.Proofs.YtdmmchoicngblaaGreatDoor
