/- Texts of OrL2, Dt11, Dt12, Dt13, Dt14, OrL1, Cmp16, FxA, FxB, FeP0, LawFe0. Own work of the verifier. -/
import Derived.Test.YtdmmchoicngblaaGreatDoorUqak
import Derived.Test.YtdmmchoicngblaaGreatDoorUqat
import Derived.Test.YtdmmchoicngblaaGreatDoorUqau
import Derived.Test.YtdmmchoicngblaaGreatDoorUqaw
namespace Go.Proofs.YtdmmchoicngblaaGreatDoor
set_option linter.unusedVariables false
set_option linter.unusedSimpArgs false
set_option maxRecDepth 100000
section
open Go Go.RowKit
def FitX (w : World) (own : Option Nat) (r : RC) (c : Cel) : Prop := r.1 = c.1 ∧ r.2.1 = c.2.1 ∧ r.2.2.2.1 = c.2.2.length ∧ (0 < c.2.2.length → ∃ b o, r.2.2.1 = some ⟨b, o, none⟩ ∧ own ≠ some b ∧ b < w.heap.size ∧ ∀ i, i < c.2.2.length → w.cell? ⟨b, o + i, none⟩ = some (.int .u8 (c.2.2.getD i 0)))
def RowX (B : Nat) (w : World) (p : Option Addr) (n c : Nat) (xs : List Cel) : Prop :=
 n = xs.length ∧ ∃ rs : List RC, rs.length = xs.length ∧ w.ownsRow B 55 3 (.slice p n c) n (flat rs) ∧ ∀ i, i < xs.length → FitX w (Value.ownBlock (.slice p n c)) (rs.getD i RC.zero) (xs.getD i Cel.none)
def DsX (w : World) (own : Option Nat) (q : Option Addr) (ds : List Cel) : Prop :=
 ∃ b o, q = some ⟨b, o, none⟩ ∧ ∃ rs : List RC, rs.length = ds.length ∧ (∀ i, i < ds.length → FitX w own (rs.getD i RC.zero) (ds.getD i Cel.none)) ∧ ∀ j u, (flat rs)[j]? = some u → w.cell? ⟨b, o + j, none⟩ = some u
theorem RowX.nil (B : Nat) (w : World) : RowX B w none 0 0 [] := ⟨rfl, [], rfl, World.ownsRow_nil _ _ _ _, fun i h => absurd h (Nat.not_lt_zero _)⟩
theorem RowX.below {B : Nat} {w w' : World} {p : Option Addr} {n c : Nat} {xs : List Cel} (h : RowX B w p n c xs) (hb : Below w.heap.size w w') : RowX B w' p n c xs := by
 obtain ⟨hn, rs, hl, hr, hf⟩ := h; refine ⟨hn, rs, hl, row_below hr hb, fun i hi => ?_⟩; obtain ⟨f0, f1, f2, f3⟩ := hf i hi; refine ⟨f0, f1, f2, fun h0 => ?_⟩; obtain ⟨b, o, e, hne, hlt, hc⟩ := f3 h0; exact ⟨b, o, e, hne, Nat.lt_of_lt_of_le hlt hb.size, fun j hj => (hb.cell (World.block_lt_of_cell? _ _ (hc j hj))).trans (hc j hj)⟩
theorem RowX.cin {B : Nat} {w : World} {p : Option Addr} {n c : Nat} {xs : List Cel} (h : RowX B w p n c xs) : CIn w p xs := fun h0 => by
 obtain ⟨hn, rs, hl, hr, hf⟩ := h; obtain ⟨g, cap, hv, hb, hg⟩ := hr.form (by omega); simp only [Value.slice.injEq, true_and] at hv; obtain ⟨rfl, rfl⟩ := hv; refine ⟨g, 0, rfl, fun i hi => ?_⟩; obtain ⟨a0, a1, a2⟩ := flat_at rs i (by omega); obtain ⟨f0, f1, f2, f3⟩ := hf i hi; have d0 := (hr.cellAt (i * 3) (by omega)).trans a0; have d1 := (hr.cellAt (i * 3 + 1) (by omega)).trans a1; have d2 := (hr.cellAt (i * 3 + 2) (by omega)).trans a2; rw [f0] at d0; rw [f1] at d1; rw [f2] at d2; refine ⟨_, _, by simpa using d0, by simpa using d1, by simpa using d2, fun ht => ?_⟩; obtain ⟨b, o, e, _, _, hc⟩ := f3 ht; exact ⟨b, o, e, hc⟩
theorem RowX.cap {B : Nat} {w : World} {p : Option Addr} {n c : Nat} {xs : List Cel} (h : RowX B w p n c xs) : n ≤ c ∧ c ≤ 9223372036854775807 := by
 obtain ⟨_, rs, _, hr, _⟩ := h; exact rowcap hr
theorem RowX.lt {B : Nat} {w : World} {p : Option Addr} {n c : Nat} {xs : List Cel} (h : RowX B w p n c xs) : ∀ k, Value.ownBlock (.slice p n c) = some k → B ≤ k ∧ k < w.heap.size := by
 obtain ⟨_, rs, _, hr, _⟩ := h
 exact fun k hk => hr.lt k hk
theorem DsX.of_cin {W0 w : World} {own : Option Nat} {q : Option Addr} {ds : List Cel} (h : CIn W0 q ds) (h0 : 0 < ds.length) (hb : Below W0.heap.size W0 w) (ho : ∀ k, own = some k → W0.heap.size ≤ k) : DsX w own q ds := by
 obtain ⟨b, o, rfl, hc⟩ := h h0; obtain ⟨rs, hl, hf, hr⟩ := rows_of ds o hc; refine ⟨b, o, rfl, rs, hl, fun i hi => ?_, fun j u hj => (hb.cell (World.block_lt_of_cell? _ _ (hr j u hj))).trans (hr j u hj)⟩; obtain ⟨f0, f1, f2, f3⟩ := hf i hi; refine ⟨f0, f1, f2, fun ht => ?_⟩; obtain ⟨b', o', e, hc'⟩ := f3 ht; have hlt := World.block_lt_of_cell? _ _ (hc' 0 ht); exact ⟨b', o', e, fun e' => by have := ho _ e'; have : b' < W0.heap.size := hlt; omega, Nat.lt_of_lt_of_le hlt hb.size, fun j hj => (hb.cell (World.block_lt_of_cell? _ _ (hc' j hj))).trans (hc' j hj)⟩
theorem DsX.of_own {w : World} {M m c : Nat} {own : Option Nat} {q : Option Addr} {ds : List Cel} (h : OwnC w M q m c ds) (h0 : 0 < ds.length) (ho : ∀ k, own = some k → k < M) : DsX w own q ds := by
 obtain ⟨hn, rs, hl, hr, hf, _⟩ := h; obtain ⟨g, cap, hv, hb, hg⟩ := hr.form (by omega); simp only [Value.slice.injEq, true_and] at hv; obtain ⟨rfl, rfl⟩ := hv; refine ⟨g, 0, rfl, rs, hl, fun i hi => ?_, fun j u hj => ?_⟩
 ·obtain ⟨f0, f1, f2⟩ := hf i hi
  refine ⟨f0, f1, f2.1, fun ht => ?_⟩; obtain ⟨g', e, h3, h4, h5⟩ := f2.2 (by rw [f2.1]; exact ht); exact ⟨g', 0, e, fun e' => by have := ho _ e'; omega, h4, fun j hj => by rw [Nat.zero_add]; exact (h5 j (by rw [f2.1]; exact hj)).1⟩
 ·have hj' : j < (flat rs).length := (List.getElem?_eq_some_iff.1 hj).1
  rw [Nat.zero_add, hr.cellAt j (by rw [flat_len] at hj'; omega)]; exact hj
theorem run_app_X (B : Nat) (w : World) (ty : TypeId) (p : Option Addr) (n c : Nat) (xs : List Cel) (q : Option Addr) (m cq : Nat) (ds : List Cel) (hrow : RowX B w p n c xs) (hB : B ≤ w.heap.size) (hds : DsX w (Value.ownBlock (.slice p n c)) q ds) (hm : m = ds.length) (h0 : 0 < m) (hl : n + m ≤ 1000000000) :
  ∃ g cap w', (Builtin.append_ #[23, 23] ty #[.slice p n c, .slice q m cq]).run Tryz.prog w = .ok (.slice (some ⟨g, 0, none⟩) (n + m) cap) w' ∧ RowX B w' (some ⟨g, 0, none⟩) (n + m) cap (xs ++ ds) ∧ w.grownBy w' (Value.ownBlock (.slice p n c)) := by
 obtain ⟨i0, hi, hz0, hz1, hz2⟩ := info_parts infoCelM; subst hm; obtain ⟨hn, rs, hrl, hown, hf⟩ := hrow; obtain ⟨b, o, rfl, rs', hrl', hf', hc'⟩ := hds; obtain ⟨g', cap, w', hr, h2, h3, h4, _⟩ := run_append_lies (P := Tryz.prog) w 23 ty B 55 i0 (.agg #[.int .i64 0, .int .i64 0, .slice none 0 0]) 3 40 Tryz.underlying23 hi hz0 hz1 hz2 rfl (by decide) (.slice p n c) n (flat rs) hown ⟨b, o, none⟩ ds.length cq (flat rs') (by rw [flat_len]; omega)
  (fun j u hj => by
    rw [show (⟨b, o, none⟩ : Addr).add j = ⟨b, o + j, none⟩ from WideShapes.add_plain _ _ _]
    exact hc' j u hj) (flat_oneM rs') h0 (by unfold maxLen; omega) (by omega) hB _ rfl
 have keep : ∀ (r : RC) (x : Cel), FitX w (Value.ownBlock (.slice p n c)) r x → FitX w' (Value.ownBlock (.slice (some ⟨g', 0, none⟩) (n + ds.length) cap)) r x := fun r x hx => by
  obtain ⟨f0, f1, f2, f3⟩ := hx; refine ⟨f0, f1, f2, fun ht => ?_⟩; obtain ⟨b', o', e, hne, hlt, hc⟩ := f3 ht; refine ⟨b', o', e, fun e' => ?_, Nat.lt_of_lt_of_le hlt h3.size, fun j hj => (World.cell?_of_block (a := ⟨b', o' + j, none⟩) (h3.block b' hlt (fun e => hne e.symm))).trans (hc j hj)⟩
  have e2 : g' = b' := by simpa [Value.ownBlock] using e'
  rcases h4 with h4 | h4
  ·exact hne (by rw [h4, e2])
  ·omega
 refine ⟨g', cap, w', hr, ⟨by simp [hn], rs ++ rs', by simp [hrl, hrl'], by rw [flat_catM]; exact h2, fun i hi => ?_⟩, h3⟩
 rcases Nat.lt_or_ge i xs.length with h | h
 ·have e1 : (rs ++ rs').getD i RC.zero = rs.getD i RC.zero := by simp [List.getD, List.getElem?_append_left (show i < rs.length by omega)]
  have e2 : (xs ++ ds).getD i Cel.none = xs.getD i Cel.none := by simp [List.getD, List.getElem?_append_left h]
  rw [e1, e2]; exact keep _ _ (hf i h)
 ·have e1 : (rs ++ rs').getD i RC.zero = rs'.getD (i - xs.length) RC.zero := by simp [List.getD, List.getElem?_append_right (show rs.length ≤ i by omega), hrl]
  have e2 : (xs ++ ds).getD i Cel.none = ds.getD (i - xs.length) Cel.none := by simp [List.getD, List.getElem?_append_right h]
  rw [e1, e2]; exact keep _ _ (hf' _ (by simp at hi; omega))
theorem atomL_any (s : List Int) (hs : Byte s) (w : World) : Calls Tryz.prog 15 #[.string (strOfNums s)] w fun e w' => ∃ p, e = .returned (.slice p 1 1) ∧ OwnC w' w.heap.size p 1 1 [(2, 0, s)] ∧ Below w.heap.size w w' := by
 obtain ⟨w1, cap1, hcv, hb1, ht⟩ := conv_bytes w s hs 9 Tryz.underlying9
 obtain ⟨l, el⟩ : ∃ l, l = s.length := ⟨_, rfl⟩
 rw [← el] at hcv ht; have hb : Below w1.heap.size w1 (w1.alloc (Obj.cells #[Value.int IntKind.i64 2, Value.int IntKind.i64 0, Value.slice (some ⟨w.heap.size, 0, none⟩) l cap1] 55)) := (Below.refl _ _).alloc (Nat.le_refl _) _
 have HO : Hid (OwnC (w1.alloc (Obj.cells #[Value.int IntKind.i64 2, Value.int IntKind.i64 0, Value.slice (some ⟨w.heap.size, 0, none⟩) l cap1] 55)) w.heap.size (some ⟨w1.heap.size, 0, none⟩) 1 1 [(2, 0, s)]) := own_oneN (heap_alloc_new w1 _) hb1.size (ht.below hb) (fun h0 a ea => by
  obtain ⟨g', e', _, h3, _⟩ := ht.2 h0
  cases e'
  cases ea
  exact Nat.ne_of_lt h3)
 have HB : Hid (Below w.heap.size w (w1.alloc (Obj.cells #[Value.int IntKind.i64 2, Value.int IntKind.i64 0, Value.slice (some ⟨w.heap.size, 0, none⟩) l cap1] 55))) := Below.on hb1 hb; clear hb1 ht hb el
 go_enter Tryz.func15, Tryz.ntmps15
 go_wp2_with fail; go_ret; exact ⟨_, rfl, HO.out, HB.out⟩
def lsC (dss : List (List Cel)) : List Cel := dss.flatMap fun d => dot :: d
set_option maxHeartbeats 1000000 in
theorem listL_any (g n c : Nat) (dss : List (List Cel)) (w : World) (hn : n = dss.length) (h20 : n ≤ 20) (hr : RowsIn w g dss) :
  Calls Tryz.prog 10 #[.slice (some ⟨g, 0, none⟩) n c] w fun e w' => ∃ q m c2, e = .returned (.slice q m c2) ∧ m = (lsC dss ++ [nilC]).length ∧ CIn w' q (lsC dss ++ [nilC]) ∧ m ≤ c2 ∧ c2 ≤ 9223372036854775807 ∧ Below w.heap.size w w' := by
 have HR : Hid (RowsIn w g dss) := hr; have HN : Hid (n = dss.length) := hn; have HB0 : Hid (Below w.heap.size w w) := Below.refl _ _; clear hr hn
 go_enter Tryz.func10, Tryz.ntmps10
 go_wp2_with fail
 go_loopw [3, 4] (fun r i wr => ∃ (j : Nat) (q : Option Addr) (m cr : Nat), j ≤ n ∧ m ≤ j * 100001 ∧ i = .int .i64 j ∧ r = .slice q m cr ∧ Hid (RowX w.heap.size wr q m cr (lsC (dss.take j))) ∧ Hid (Below w.heap.size w wr)) (fun _ i _ => n - (intOf i).toNat)
 case atStart => exact ⟨0, none, 0, 0, Nat.zero_le _, by omega, rfl, rfl, RowX.nil _ _, HB0⟩
 case round =>
  obtain ⟨j, q, m, cr, hj, hm, rfl, rfl, HO, HB⟩ := hrel
  by_cases hlt : j < n
  ·have hjl : j < dss.length := by rw [← HN.out]; exact hlt
   obtain ⟨qi, ci, x0, x1, x2, x3⟩ := HR.out j hjl
   obtain ⟨li, eli⟩ : ∃ li, li = (dss.getD j []).length := ⟨_, rfl⟩
   rw [← eli] at x0 x2 x3
   -- the point
   have hcv := conv_byte wr 46; have hb1 : Below wr.heap.size wr (wr.alloc (.cells #[.int .u8 46] 5 (1, 2))) := (Below.refl _ _).alloc (Nat.le_refl _) _
   have hs1 : (wr.alloc (.cells #[.int .u8 46] 5 (1, 2))).heap.size = wr.heap.size + 1 := by simp
   obtain ⟨wd, ed⟩ : ∃ wd, wd = (wr.alloc (.cells #[.int .u8 46] 5 (1, 2))).alloc (.cells #[.int .i64 3, .int .i64 2, .slice (some ⟨wr.heap.size, 0, none⟩) 1 1] 55) := ⟨_, rfl⟩
   have hb2 : Below (wr.alloc (.cells #[.int .u8 46] 5 (1, 2))).heap.size (wr.alloc (.cells #[.int .u8 46] 5 (1, 2))) wd := by rw [ed]; exact (Below.refl _ _).alloc (Nat.le_refl _) _
   have hd : OwnC wd wr.heap.size (some ⟨wr.heap.size + 1, 0, none⟩) 1 1 [(3, 2, [46])] := by
    refine own_oneN (by rw [ed, ← hs1]; exact heap_alloc_new _ _) (by omega) ((byte_text wr 46).below hb2) (fun h0 a ea => by cases ea; exact Nat.ne_of_lt (Nat.lt_succ_self _))
   have hbd : Below wr.heap.size wr wd := Below.on hb1 hb2; obtain ⟨g4, cap4, w4, hr4, hrow4, hg4⟩ := run_app_X w.heap.size wd 23 q m cr (lsC (dss.take j)) (some ⟨wr.heap.size + 1, 0, none⟩) 1 1 [(3, 2, [46])] (HO.out.below hbd) (by have := HB.out.size; have := hbd.size; omega) (DsX.of_own hd (by simp) (fun k hk => (HO.out.lt k hk).2)) rfl (by decide) (by omega); have hbw4 : Below w.heap.size w w4 := (Below.on HB.out hbd).grown hg4 (by have := HB.out.size; have := hbd.size; omega) (fun k hk => (HO.out.lt k hk).1); obtain ⟨g5, cap5, w5, hr5, hrow5, hg5⟩ := run_app_X w.heap.size w4 23 (some ⟨g4, 0, none⟩) (m + 1) cap4 (lsC (dss.take j) ++ [(3, 2, [46])]) qi li ci (dss.getD j []) hrow4 hbw4.size (DsX.of_cin x1 (by rw [← eli]; exact x2) hbw4 (fun k hk => (hrow4.lt k hk).1)) eli x2 (by omega); have hbw5 : Below w.heap.size w w5 := hbw4.grown hg5 hbw4.size (fun k hk => (hrow4.lt k hk).1)
   have HTK : Hid (lsC (dss.take (j + 1)) = (lsC (dss.take j) ++ [(3, 2, [46])]) ++ dss.getD j []) := by
    show _ = _
    rw [List.take_succ_eq_append_getElem hjl, lsC, List.flatMap_append]
    simp [List.getD, hjl, lsC, dot]
   have HO5 : Hid (RowX w.heap.size w5 (some ⟨g5, 0, none⟩) (m + 1 + li) cap5 (lsC (dss.take (j + 1)))) := by rw [HTK.out]; exact hrow5
   have HB5 : Hid (Below w.heap.size w w5) := hbw5; have y0 : w4.cell? ⟨g, j, none⟩ = some (.slice qi li ci) := (hbw4.cell (World.block_lt_of_cell? _ _ x0)).trans x0
   have hm5 : m + 1 + li ≤ (j + 1) * 100001 := by omega
   clear x0 x1 x2 x3 eli hrow4 hrow5 hg4 hg5 hbw4 hbw5 hd hbd hb1 hb2; rw [ed] at hr4; clear ed hs1; have tok0 : True := trivial
   go_wp2_with (at_builtin; first
    | (have _t := tok0; refine app_runL _ _ rfl _ _ _ rfl _ _ _ rfl rfl hr4 ?_; clear tok0)
    | (refine app_runL _ _ rfl _ _ _ rfl _ _ _ rfl rfl hr5 ?_))
   go_roundw
   case rel => exact ⟨j + 1, _, m + 1 + li, cap5, by omega, hm5, by go_num, rfl, HO5, HB5⟩
   case measure => simp [intOf]; omega
  ·obtain rfl : j = n := by omega
   have HOF : Hid (RowX w.heap.size wr q m cr (lsC dss)) := by have := HO.out; rwa [List.take_of_length_le (by rw [← HN.out]; exact Nat.le_refl _)] at this
   have HAT := atomL_any [91, 93] (fun x hx => by simp at hx; omega) wr; have hst : strOfNums [91, 93] = ⟨#[91, 93]⟩ := rfl; rw [hst] at HAT; clear hst HO; go_wp2_with fail; refine HAT.mono ?_; rintro e w2 ⟨qa, rfl, hoa, hba⟩; obtain ⟨g6, cap6, w6, hr6, hrow6, hg6⟩ := run_app_X w.heap.size w2 23 q m cr (lsC dss) qa 1 1 [(2, 0, [91, 93])] (HOF.out.below hba) (by have := HB.out.size; have := hba.size; omega) (DsX.of_own hoa (by simp) (fun k hk => (HOF.out.lt k hk).2)) rfl (by decide) (by omega)
   have HF : Hid (m + 1 = (lsC dss ++ [nilC]).length ∧ CIn w6 (some ⟨g6, 0, none⟩) (lsC dss ++ [nilC]) ∧ m + 1 ≤ cap6 ∧ cap6 ≤ 9223372036854775807 ∧ Below w.heap.size w w6) := by
    have hc := hrow6.cap; refine ⟨by rw [List.length_append, ← HOF.out.1]; rfl, hrow6.cin, hc.1, hc.2, (Below.on HB.out hba).grown hg6 (by have := HB.out.size; have := hba.size; omega) (fun k hk => (HOF.out.lt k hk).1)⟩
   clear hoa hba hrow6 hg6 HAT; go_wp2_with (at_builtin; refine app_runL _ _ rfl _ _ _ rfl _ _ _ rfl rfl hr6 ?_); go_ret; exact ⟨_, _, _, rfl, HF.out⟩
end
section
open Go Go.RowKit
structure Few (css : List (List Cel)) (k : Nat) : Prop where
 len : css.length ≤ 2 * k
 flat : css.flatten.length ≤ 6 * k
 txt : tl css.flatten ≤ 2 * k
 pos : ∀ j, j < css.length → 0 < (css.getD j []).length
 byte : ∀ j, j < css.length → ByteC (css.getD j [])
theorem Few.nil : Few [] 0 := ⟨by simp, by simp, by simp [tl], fun j h => by simp at h, fun j h => by simp at h⟩
theorem Few.app {css dss : List (List Cel)} {k : Nat} (h : Few css k) (h1 : dss.length ≤ 2) (h2 : dss.flatten.length ≤ 6) (h3 : tl dss.flatten ≤ 2) (h4 : ∀ ds ∈ dss, 0 < ds.length ∧ ByteC ds) : Few (css ++ dss) (k + 1) := by
 have at2 : ∀ (P : List Cel → Prop), (∀ j, j < css.length → P (css.getD j [])) → (∀ ds ∈ dss, P ds) → ∀ j, j < (css ++ dss).length → P ((css ++ dss).getD j []) := fun P p1 p2 j hj => by
  rw [css_cat_at]
  split
  ·rename_i hl; exact p1 j hl
  ·rw [List.length_append] at hj
   rw [List.getD, List.getElem?_eq_getElem (show j - css.length < dss.length by omega)]; exact p2 _ (List.getElem_mem _)
 have := h.len; have := h.flat; have := h.txt; refine ⟨by rw [List.length_append]; omega, by rw [List.flatten_append, List.length_append]; omega, by rw [List.flatten_append, tl_app]; omega, at2 _ h.pos (fun ds hd => (h4 ds hd).1), at2 _ h.byte (fun ds hd => (h4 ds hd).2)⟩
structure Bd (cs : List Cel) : Prop where
 len : cs.length ≤ 2001
 txt : tl cs ≤ 20000
 byte : ByteC cs
theorem any_bd (ys : List Int) (i : Nat) : Bd (anyF ys i).1 := by
 obtain ⟨h1, h2⟩ := anyF_mid ys i; exact ⟨h1.len, by have := h1.txt; omega, h2⟩
def DrawO (w : World) (r : List Cel × List Cel) (e : Ending) (w' : World) : Prop :=
 ∃ p1 n1 c1 p2 n2 c2, e = .returned (.tuple #[.slice p1 n1 c1, .slice p2 n2 c2]) ∧ (n1 = r.1.length ∧ CIn w' p1 r.1 ∧ r.1.length ≤ c1 ∧ c1 ≤ 9223372036854775807) ∧ (n2 = r.2.length ∧ CIn w' p2 r.2 ∧ r.2.length ≤ c2 ∧ c2 ≤ 9223372036854775807) ∧ Below w.heap.size w w'
theorem DrawO.of {w W : World} {B1 B2 n1 c1 n2 c2 : Nat} {p1 p2 : Option Addr} {a b : List Cel} (h1 : OwnC W B1 p1 n1 c1 a) (h2 : OwnC W B2 p2 n2 c2 b) (hb : Below w.heap.size w W) : DrawO w (a, b) (.returned (.tuple #[.slice p1 n1 c1, .slice p2 n2 c2])) W :=
 ⟨p1, n1, c1, p2, n2, c2, rfl, ⟨h1.1, h1.cin, h1.cap⟩, ⟨h2.1, h2.cin, h2.cap⟩, hb⟩
theorem below_onK {w w1 W : World} {R : Nat} (h : Below R w w1) (k : Keep R (R + 1) w1 W) (hs : R ≤ w1.heap.size) : Below R w W := h.trans (k.below (Nat.le_refl _) hs)
theorem LS.lt {w : World} {B m c : Nat} {q : Option Addr} {css : List (List Cel)} (h : LS w B q m c css) : ∀ g, Value.ownBlock (.slice q m c) = some g → g < w.heap.size := fun g hg => by
 obtain ⟨_, rs, _, _, h3, _⟩ := h; exact (h3.lt g hg).2
end
section
open Go Go.RowKit
def dcF (ys : List Int) : List Cel × List Cel :=
 let k := (rdI ys 0).toNat
 let a := anyF ys (rdN ys 0)
 let i := (rdI ys a.2).toNat % a.1.length
 let c := a.1.getD i Cel.none
 if k % 3 = 0 ∧ 0 < a.1.length then (a.1, a.1.set i (c.1, c.2.1 + ((k % 2 : Nat) : Int), c.2.2)) else (a.1, (anyF ys a.2).1)
theorem set_num {cs : List Cel} {j : Nat} {c : Cel} {B : Int} (h : ∀ x ∈ cs, -1000000000000000 ≤ x.2.1 ∧ x.2.1 ≤ B) (hc : -1000000000000000 ≤ c.2.1 ∧ c.2.1 ≤ B) : ∀ x ∈ cs.set j c, -1000000000000000 ≤ x.2.1 ∧ x.2.1 ≤ B := fun x hx => by
 rcases List.mem_or_eq_of_mem_set hx with hx | hx
 ·exact h x hx
 ·rw [hx]; exact hc
theorem getD_num {cs : List Cel} {B : Int} (hB : 0 ≤ B) (h : ∀ x ∈ cs, -1000000000000000 ≤ x.2.1 ∧ x.2.1 ≤ B) (j : Nat) : -1000000000000000 ≤ (cs.getD j Cel.none).2.1 ∧ (cs.getD j Cel.none).2.1 ≤ B := by
 by_cases hj : j < cs.length
 ·rw [List.getD, List.getElem?_eq_getElem hj]; exact h _ (List.getElem_mem hj)
 ·rw [List.getD, List.getElem?_eq_none (by omega)]; simp [Cel.none]; omega
theorem anyF_num (ys : List Int) (i : Nat) : ∀ x ∈ (anyF ys i).1, -1000000000000000 ≤ x.2.1 ∧ x.2.1 ≤ 1000000000000001 := by
 have h0 : ∀ x ∈ (drawT ys 4 (rdN ys i)).1, -1000000000000000 ≤ x.2.1 ∧ x.2.1 ≤ 1000000000000000 := drawT_num ys 4 (rdN ys i)
 have h1 : ∀ x ∈ (drawT ys 4 (rdN ys i)).1, -1000000000000000 ≤ x.2.1 ∧ x.2.1 ≤ 1000000000000001 := fun x hx => by have := h0 x hx; omega
 unfold anyF
 simp only
 split
 ·unfold spoilF
  simp only; have hg := getD_num (B := 1000000000000000) (by decide) h0
  split
  ·exact set_num h1 (by have := hg ((rdI ys (rdN ys (drawT ys 4 (rdN ys i)).2)).toNat % (drawT ys 4 (rdN ys i)).1.length); simp only; omega)
  split
  ·exact set_num h1 (by have := hg ((rdI ys (rdN ys (drawT ys 4 (rdN ys i)).2)).toNat % (drawT ys 4 (rdN ys i)).1.length); simp only; omega)
  split
  ·exact set_num h1 (by simp only; omega)
  split
  ·exact fun x hx => h1 x (List.mem_of_mem_take hx)
  split
  ·intro x hx
   rcases List.mem_append.1 hx with hx | hx
   ·exact h1 x hx
   ·rw [List.mem_singleton.1 hx]; simp
  split
  ·exact set_num h1 (by have := hg ((rdI ys (rdN ys (drawT ys 4 (rdN ys i)).2)).toNat % (drawT ys 4 (rdN ys i)).1.length); simp only; omega)
  split
  ·exact set_num h1 (by simp only; omega)
  split
  ·intro x hx
   simp only [bigF, bigL] at hx
   rcases List.mem_append.1 hx with hx | hx
   ·rcases List.mem_append.1 hx with hx | hx
    ·obtain ⟨j, _, hj⟩ := List.mem_flatMap.1 hx
     rcases List.mem_cons.1 hj with rfl | hj
     ·simp [dot]
     ·rw [List.mem_singleton.1 hj]; simp only; omega
    ·split at hx
     ·rw [List.mem_singleton.1 hx]; simp
     ·simp at hx
   ·rw [List.mem_singleton.1 hx]; simp [nilC]
  ·exact set_num h1 (by simp only; omega)
 ·exact h1
theorem tl_getC (cs : List Cel) (k : Nat) : (cs.getD k Cel.none).2.2.length ≤ tl cs := by
 by_cases h : k < cs.length
 ·exact tl_at cs k h
 ·rw [List.getD, List.getElem?_eq_none (by omega)]; simp [Cel.none]
structure BdO (cs : List Cel) : Prop where
 len : cs.length ≤ 2001
 txt : tl cs ≤ 30000
 byte : ByteC cs
theorem Bd.o {cs : List Cel} (h : Bd cs) : BdO cs := ⟨h.len, by have := h.txt; omega, h.byte⟩
theorem dcF_bd (ys : List Int) : BdO (dcF ys).1 ∧ BdO (dcF ys).2 := by
 unfold dcF
 simp only
 split
 ·refine ⟨(any_bd _ _).o, ?_⟩
  have h := any_bd ys (rdN ys 0); obtain ⟨h1, h2⟩ := anyF_mid ys (rdN ys 0); have ht := tl_set (anyF ys (rdN ys 0)).1 ((rdI ys (anyF ys (rdN ys 0)).2).toNat % (anyF ys (rdN ys 0)).1.length) (((anyF ys (rdN ys 0)).1.getD ((rdI ys (anyF ys (rdN ys 0)).2).toNat % (anyF ys (rdN ys 0)).1.length) Cel.none).1, ((anyF ys (rdN ys 0)).1.getD ((rdI ys (anyF ys (rdN ys 0)).2).toNat % (anyF ys (rdN ys 0)).1.length) Cel.none).2.1 + (((rdI ys 0).toNat % 2 : Nat) : Int), ((anyF ys (rdN ys 0)).1.getD ((rdI ys (anyF ys (rdN ys 0)).2).toNat % (anyF ys (rdN ys 0)).1.length) Cel.none).2.2); have hg := tl_getC (anyF ys (rdN ys 0)).1 ((rdI ys (anyF ys (rdN ys 0)).2).toNat % (anyF ys (rdN ys 0)).1.length); have := h1.txt; exact ⟨by rw [List.length_set]; exact h.len, by simp only at ht ⊢; omega, h2.set _ (h2.getD _)⟩
 ·exact ⟨(any_bd _ _).o, (any_bd _ _).o⟩
def dvF (ys : List Int) : List Cel := (anyF ys 0).1
set_option maxHeartbeats 4000000 in
theorem drawC_a (p : Option Addr) (c : Nat) (xs : List Int) (w : World) (hb : Bytes xs) (hn : xs.length ≤ 1048576) (hc : xs.length ≤ c) (hx : BIn w p xs) (h0 : ¬ ((rdI (xs.take 500) 0).toNat % 3 = 0 ∧ 0 < (anyF (xs.take 500) (rdN (xs.take 500) 0)).1.length)) :
  Calls Tryz.prog 4 #[.slice p xs.length c] w (DrawO w (dcF (xs.take 500))) := by
 have HOP := l4open_any p c xs w hb hn hc hx
 obtain ⟨ys, ey⟩ : ∃ ys, ys = xs.take 500 := ⟨_, rfl⟩
 rw [← ey] at HOP h0 ⊢
 obtain ⟨res, er⟩ : ∃ res, res = dcF ys := ⟨_, rfl⟩
 rw [← er]
 obtain ⟨R, eR⟩ : ∃ R, R = w.heap.size := ⟨_, rfl⟩
 have HRW : Hid (R = w.heap.size) := eR; rw [← eR] at HOP
 have hby : Bytes ys := fun x hx => hb x (by rw [ey] at hx; exact List.mem_of_mem_take hx)
 obtain ⟨i1, ei⟩ : ∃ i1, i1 = rdN ys 0 := ⟨_, rfl⟩
 obtain ⟨A, eA⟩ : ∃ A, A = anyF ys i1 := ⟨_, rfl⟩
 have hrx := rdI_rng hby 0
 obtain ⟨x, ex⟩ : ∃ x : Nat, rdI ys 0 = x := ⟨(rdI ys 0).toNat, by omega⟩
 have hx2 : x < 256 := by omega
 obtain ⟨z, ez⟩ : ∃ z, z = x % 3 := ⟨_, rfl⟩
 have hz : z < 3 := by omega
 have hmz : (x : Int).tmod 3 = (z : Int) := by rw [ez, Int.tmod_eq_emod_of_nonneg (by omega)]; rfl
 have hBD : Bd A.1 := by rw [eA]; exact any_bd _ _
 have HBD : Hid (Bd A.1) := hBD
 have HN1 : Hid (∀ W, RdIn W R p c ys 0 → Calls Tryz.prog 19 #[.pointer (some ⟨R, 0, none⟩)] W fun e w' => e = .returned (.int .i64 (x : Int)) ∧ Keep R (R + 1) W w' ∧ w'.heap.size = W.heap.size ∧ RdIn w' R p c ys i1) := fun W hW => by
  have := next_any R c 0 p ys W hW; rw [ex, ← ei] at this; exact this
 have HANY : Hid (∀ W, RdIn W R p c ys i1 → Calls Tryz.prog 20 #[.pointer (some ⟨R, 0, none⟩)] W (TermOut W R p c ys A)) := fun W hW => by
  have := l4any_any R c i1 p ys W hW; rw [← eA] at this; exact this
 rw [← ei, ← eA, ex, Int.toNat_natCast, ← ez] at h0
 have HV : Hid (res = (A.1, (anyF ys A.2).1)) := by
  show _ = _
  rw [er]
  unfold dcF
  simp only; rw [← ei, ← eA, ex, Int.toNat_natCast, ← ez, if_neg h0]
 have HZ : Hid (z = 0 → A.1.length = 0) := fun e => by
  rcases Nat.eq_zero_or_pos A.1.length with h | h
  ·exact h
  ·exact absurd ⟨e, h⟩ h0
 obtain ⟨nx, enx⟩ : ∃ nx, nx = xs.length := ⟨_, rfl⟩
 rw [← enx] at HOP ⊢; clear ey er eR ei eA ex ez enx hb hn hc hx hrx hBD h0
 have hz3 : z = 0 ∨ z ≠ 0 := by omega
 go_enter Tryz.func4, Tryz.ntmps4
 go_wp2_with fail; refine HOP.mono ?_; rintro e w1 ⟨rfl, hb1, hs1, hR1⟩; have HB1 : Hid (Below R w w1) := hb1; have HR1 : Hid (RdIn w1 R p c ys 0) := hR1
 have hsz1 : R + 1 ≤ w1.heap.size := by omega
 clear hb1 hs1 hR1 HOP; go_wp2_with fail; refine (HN1.out w1 HR1.out).mono ?_; rintro e w2 ⟨rfl, hk2, hs2, hR2⟩; have HR2 : Hid (RdIn w2 R p c ys i1) := hR2; have HK2 : Hid (Keep R (R + 1) w1 w2) := hk2
 have hsz2 : R < w2.heap.size := by have := hk2.size; omega
 clear hk2 hs2 hR2; go_wp2_with fail; refine (HANY.out w2 HR2.out).mono ?_; rintro e w3 ⟨q3, n3, c3, rfl, ho3, hk3, hR3⟩; have HO3 : Hid (OwnC w3 w2.heap.size q3 n3 c3 A.1) := ho3; have HR3 : Hid (RdIn w3 R p c ys A.2) := hR3; have HK3 : Hid (Keep R (R + 1) w1 w3) := HK2.out.trans hk3
 have HLO : Hid (∀ W, Keep R (R + 1) w1 W → Below w.heap.size w W) := fun W hW => by rw [← HRW.out]; exact below_onK HB1.out hW (by omega)
 have hn3 : n3 = A.1.length := ho3.1
 have HZ3 : Hid (z = 0 → n3 = 0) := fun e => by rw [hn3]; exact HZ.out e
 clear ho3 hR3 hk3 hn3; have HLA := l4any_any R c A.2 p ys w3 HR3.out
 rcases hz3 with hz0 | hz0
 ·obtain rfl : n3 = 0 := HZ3.out hz0
  have hbz : ((z : Int) == 0) = true := by rw [hz0]; rfl
  clear hz0; go_wp2_with fail; refine HLA.mono ?_; rintro e w6 ⟨q6, n6, c6, rfl, ho6, hk6, hR6⟩; have FIN : Hid (DrawO w (A.1, (anyF ys A.2).1) (.returned (.tuple #[.slice q3 0 c3, .slice q6 n6 c6])) w6) := DrawO.of (HO3.out.keepR hk6 hsz2) ho6 (HLO.out w6 (HK3.out.trans hk6)); clear ho6 hk6 hR6 HLA; go_wp2_with fail
  go_ret2
  rw [HV.out]; exact FIN.out
 ·have hbz : ((z : Int) == 0) = false := by rw [beq_eq_false_iff_ne]; omega
  clear hz0; go_wp2_with fail; refine HLA.mono ?_; rintro e w6 ⟨q6, n6, c6, rfl, ho6, hk6, hR6⟩; have FIN : Hid (DrawO w (A.1, (anyF ys A.2).1) (.returned (.tuple #[.slice q3 n3 c3, .slice q6 n6 c6])) w6) := DrawO.of (HO3.out.keepR hk6 hsz2) ho6 (HLO.out w6 (HK3.out.trans hk6)); clear ho6 hk6 hR6 HLA; go_wp2_with fail
  go_ret2
  rw [HV.out]; exact FIN.out
set_option maxHeartbeats 4000000 in
theorem drawC_b (p : Option Addr) (c : Nat) (xs : List Int) (w : World) (hb : Bytes xs) (hn : xs.length ≤ 1048576) (hc : xs.length ≤ c) (hx : BIn w p xs) (h0 : (rdI (xs.take 500) 0).toNat % 3 = 0 ∧ 0 < (anyF (xs.take 500) (rdN (xs.take 500) 0)).1.length) :
  Calls Tryz.prog 4 #[.slice p xs.length c] w (DrawO w (dcF (xs.take 500))) := by
 have HOP := l4open_any p c xs w hb hn hc hx
 obtain ⟨ys, ey⟩ : ∃ ys, ys = xs.take 500 := ⟨_, rfl⟩
 rw [← ey] at HOP h0 ⊢
 obtain ⟨res, er⟩ : ∃ res, res = dcF ys := ⟨_, rfl⟩
 rw [← er]
 obtain ⟨R, eR⟩ : ∃ R, R = w.heap.size := ⟨_, rfl⟩
 have HRW : Hid (R = w.heap.size) := eR; rw [← eR] at HOP
 have hby : Bytes ys := fun x hx => hb x (by rw [ey] at hx; exact List.mem_of_mem_take hx)
 obtain ⟨i1, ei⟩ : ∃ i1, i1 = rdN ys 0 := ⟨_, rfl⟩
 obtain ⟨A, eA⟩ : ∃ A, A = anyF ys i1 := ⟨_, rfl⟩
 have hrx := rdI_rng hby 0
 obtain ⟨x, ex⟩ : ∃ x : Nat, rdI ys 0 = x := ⟨(rdI ys 0).toNat, by omega⟩
 have hx2 : x < 256 := by omega
 obtain ⟨z, ez⟩ : ∃ z, z = x % 3 := ⟨_, rfl⟩
 have hz : z < 3 := by omega
 have hmz : (x : Int).tmod 3 = (z : Int) := by rw [ez, Int.tmod_eq_emod_of_nonneg (by omega)]; rfl
 have hBD : Bd A.1 := by rw [eA]; exact any_bd _ _
 have HBD : Hid (Bd A.1) := hBD
 have HN1 : Hid (∀ W, RdIn W R p c ys 0 → Calls Tryz.prog 19 #[.pointer (some ⟨R, 0, none⟩)] W fun e w' => e = .returned (.int .i64 (x : Int)) ∧ Keep R (R + 1) W w' ∧ w'.heap.size = W.heap.size ∧ RdIn w' R p c ys i1) := fun W hW => by
  have := next_any R c 0 p ys W hW; rw [ex, ← ei] at this; exact this
 have HANY : Hid (∀ W, RdIn W R p c ys i1 → Calls Tryz.prog 20 #[.pointer (some ⟨R, 0, none⟩)] W (TermOut W R p c ys A)) := fun W hW => by
  have := l4any_any R c i1 p ys W hW; rw [← eA] at this; exact this
 rw [← ei, ← eA, ex, Int.toNat_natCast, ← ez] at h0
 obtain ⟨i2, ei2⟩ : ∃ i2, i2 = A.2 := ⟨_, rfl⟩
 have hru := rdI_rng hby i2
 obtain ⟨u, eu⟩ : ∃ u : Nat, rdI ys i2 = u := ⟨(rdI ys i2).toNat, by omega⟩
 have hu2 : u < 256 := by omega
 obtain ⟨a, ea⟩ : ∃ a, a = u % A.1.length := ⟨_, rfl⟩
 have hal : a < A.1.length := by rw [ea]; exact Nat.mod_lt _ h0.2
 obtain ⟨v, ev⟩ : ∃ v, v = (A.1.getD a Cel.none).2.1 := ⟨_, rfl⟩
 have hv : -1000000000000000 ≤ v ∧ v ≤ 1000000000000001 := by
  rw [ev, eA]; exact getD_num (by decide) (anyF_num ys i1) a
 obtain ⟨t, et⟩ : ∃ t, t = x % 2 := ⟨_, rfl⟩
 have ht : t < 2 := by omega
 have hmt : (x : Int).tmod 2 = (t : Int) := by rw [et, Int.tmod_eq_emod_of_nonneg (by omega)]; rfl
 have HV : Hid (res = (A.1, A.1.set a ((A.1.getD a Cel.none).1, v + (t : Int), (A.1.getD a Cel.none).2.2))) := by
  show _ = _
  rw [er]
  unfold dcF
  simp only; rw [← ei, ← eA, ex, Int.toNat_natCast, ← ez, if_pos h0, ← ei2, eu, Int.toNat_natCast, ← ea, ← ev, ← et]
 have hb0 : ((z : Int) == 0) = true := by rw [h0.1]; rfl
 have HN2 : Hid (∀ W, RdIn W R p c ys i2 → Calls Tryz.prog 19 #[.pointer (some ⟨R, 0, none⟩)] W fun e w' => e = .returned (.int .i64 (u : Int)) ∧ Keep R (R + 1) W w' ∧ w'.heap.size = W.heap.size ∧ RdIn w' R p c ys (rdN ys i2)) := fun W hW => by
  have := next_any R c i2 p ys W hW; rw [eu] at this; exact this
 have HAL : Hid (a < A.1.length) := hal
 have HTL : Hid (A.1.length + tl A.1 ≤ 10000000) := by have h1 := hBD.len; have h2 := hBD.txt; show _ ≤ _; omega
 have HMA : Hid (∀ n : Nat, n = A.1.length → (u : Int).tmod (n : Int) = (a : Int)) := fun n hn => by rw [ea, hn, Int.tmod_eq_emod_of_nonneg (by omega)]; rfl
 obtain ⟨nx, enx⟩ : ∃ nx, nx = xs.length := ⟨_, rfl⟩
 rw [← enx] at HOP ⊢; clear ey er eR ei eA ex ez enx hb hn hc hx hrx hBD h0 eu ea et hal hru
 go_enter Tryz.func4, Tryz.ntmps4
 go_wp2_with fail; refine HOP.mono ?_; rintro e w1 ⟨rfl, hb1, hs1, hR1⟩; have HB1 : Hid (Below R w w1) := hb1; have HR1 : Hid (RdIn w1 R p c ys 0) := hR1
 have hsz1 : R + 1 ≤ w1.heap.size := by omega
 clear hb1 hs1 hR1 HOP; go_wp2_with fail; refine (HN1.out w1 HR1.out).mono ?_; rintro e w2 ⟨rfl, hk2, hs2, hR2⟩; have HR2 : Hid (RdIn w2 R p c ys i1) := hR2; have HK2 : Hid (Keep R (R + 1) w1 w2) := hk2
 have hsz2 : R < w2.heap.size := by have := hk2.size; omega
 clear hk2 hs2 hR2; go_wp2_with fail; refine (HANY.out w2 HR2.out).mono ?_; rintro e w3 ⟨q3, n3, c3, rfl, ho3, hk3, hR3⟩; have HO3 : Hid (OwnC w3 w2.heap.size q3 n3 c3 A.1) := ho3
 have HR3 : Hid (RdIn w3 R p c ys i2) := by rw [ei2]; exact hR3
 have HK3 : Hid (Keep R (R + 1) w1 w3) := HK2.out.trans hk3
 have HLO : Hid (∀ W, Keep R (R + 1) w1 W → Below w.heap.size w W) := fun W hW => by rw [← HRW.out]; exact below_onK HB1.out hW (by omega)
 have hn3 : n3 = A.1.length := ho3.1; have HCP := l2copy_any q3 n3 c3 A.1 w3 hn3 HTL.out ho3.cin; have hma := HMA.out n3 hn3
 have hpos : 0 < n3 := by have := HAL.out; omega
 have han : a < n3 := by have := HAL.out; omega
 have hnb : n3 ≤ 2001 := by have := HBD.out.len; omega
 have hn0 : ((n3 : Int) == 0) = false := by rw [beq_eq_false_iff_ne]; omega
 have HN3 : Hid (n3 = A.1.length) := hn3; have hsz3 : w2.heap.size ≤ w3.heap.size := hk3.size; clear ho3 hR3 hk3 hn3 ei2; go_wp2_with fail; refine HCP.mono ?_; rintro e w4 ⟨q4, n4, c4, rfl, ho4, hb4⟩
 obtain rfl : n4 = n3 := by rw [ho4.1, HN3.out]
 obtain ⟨g, rfl, hg1, hg2⟩ := ho4.at0 (by rw [← HN3.out]; exact hpos); have HK4 : Hid (Keep R (R + 1) w1 w4) := HK3.out.trans (Keep.of_below (hb4.mono (by omega))); have HR4 : Hid (RdIn w4 R p c ys i2) := HR3.out.grow hb4; have HB4 : Hid (Below w3.heap.size w3 w4) := hb4; have HO4 : Hid (OwnC w4 w3.heap.size (some ⟨g, 0, none⟩) n4 c4 A.1) := ho4; clear ho4 hb4 HCP; go_wp2_with fail; refine (HN2.out w4 HR4.out).mono ?_; rintro e w5 ⟨rfl, hk5, hs5, hR5⟩; have HK5 : Hid (Keep R (R + 1) w1 w5) := HK4.out.trans hk5; have HO5 : Hid (OwnC w5 w3.heap.size (some ⟨g, 0, none⟩) n4 c4 A.1) := HO4.out.keepR hk5 (by omega); have HK45 : Hid (Keep R (R + 1) w4 w5) := hk5; clear hk5 hs5 hR5; obtain ⟨k0, k1, ⟨tq, tk, td, k2⟩, kf⟩ := HO5.out.cells HAL.out; have kf1 := kf (a * 3 + 1); rw [← ev] at k1; clear ev kf k0 k2
 have FIN : Hid (DrawO w (A.1, A.1.set a ((A.1.getD a Cel.none).1, v + (t : Int), (A.1.getD a Cel.none).2.2)) (.returned (.tuple #[.slice q3 n4 c3, .slice (some ⟨g, 0, none⟩) n4 c4])) (w5.setCell ⟨g, a * 3 + 1, none⟩ (.int .i64 (v + (t : Int))))) := by
  refine DrawO.of (B1 := w2.heap.size) ?_ (HO5.out.setN HAL.out _) ((HLO.out w5 HK5.out).setCell ?_ _)
  ·exact (HO3.out.up.other (by have := HB4.out.size; have := HK45.out.size; simp; omega) (fun k hk hB hU => ((Below.heap_setCell _ _ _ _ (show k ≠ g by omega)).trans (HK45.out.block k (by have := HB4.out.size; omega) (by omega))).trans (HB4.out.block k hk))).toC
  ·show w.heap.size ≤ g; rw [← HRW.out]; omega
 go_wp2_with fail
 go_ret2
 rw [HV.out]; exact FIN.out
theorem drawC_any (p : Option Addr) (c : Nat) (xs : List Int) (w : World) (hb : Bytes xs) (hn : xs.length ≤ 1048576) (hc : xs.length ≤ c) (hx : BIn w p xs) : Calls Tryz.prog 4 #[.slice p xs.length c] w (DrawO w (dcF (xs.take 500))) := by
 by_cases h0 : (rdI (xs.take 500) 0).toNat % 3 = 0 ∧ 0 < (anyF (xs.take 500) (rdN (xs.take 500) 0)).1.length
 ·exact drawC_b p c xs w hb hn hc hx h0
 ·exact drawC_a p c xs w hb hn hc hx h0
theorem drawV_any (p : Option Addr) (c : Nat) (xs : List Int) (w : World) (hb : Bytes xs) (hn : xs.length ≤ 1048576) (hc : xs.length ≤ c) (hx : BIn w p xs) : Calls Tryz.prog 5 #[.slice p xs.length c] w fun e w' => ∃ q m cq, e = .returned (.slice q m cq) ∧ OwnC w' w.heap.size q m cq (dvF (xs.take 500)) ∧ Below w.heap.size w w' := by
 have HOP := l4open_any p c xs w hb hn hc hx
 obtain ⟨ys, ey⟩ : ∃ ys, ys = xs.take 500 := ⟨_, rfl⟩
 rw [← ey] at HOP ⊢
 obtain ⟨nx, enx⟩ : ∃ nx, nx = xs.length := ⟨_, rfl⟩
 rw [← enx] at HOP ⊢
 obtain ⟨R, eR⟩ : ∃ R, R = w.heap.size := ⟨_, rfl⟩
 have HRW : Hid (R = w.heap.size) := eR; rw [← eR] at HOP; clear ey enx eR hb hn hc hx
 go_enter Tryz.func5, Tryz.ntmps5
 go_wp2_with fail; refine HOP.mono ?_; rintro e w1 ⟨rfl, hb1, hs1, hR1⟩; have HB1 : Hid (Below R w w1) := hb1; have HLA := l4any_any R c 0 p ys w1 hR1
 have hsz1 : R + 1 ≤ w1.heap.size := by omega
 clear hb1 hs1 hR1 HOP; go_wp2_with fail; refine HLA.mono ?_; rintro e w2 ⟨q, m, cq, rfl, ho, hk, hR⟩
 have FIN : Hid (OwnC w2 w.heap.size q m cq (dvF ys) ∧ Below w.heap.size w w2) := ⟨ho.mono (by have := HRW.out; omega), by rw [← HRW.out]; exact below_onK HB1.out hk (by omega)⟩
 clear ho hk hR HLA; go_wp2_with fail; go_ret; exact ⟨_, _, _, rfl, FIN.out⟩
end
section
open Go Go.RowKit Go.Maps
set_option maxHeartbeats 1000000 in
theorem implCmpC_any (xs ys : List Cel) (p q : Option Addr) (cx cy : Nat) (w : World) (hn : xs.length ≤ 10000000) (hm : ys.length ≤ 10000000) (hcx : xs.length ≤ cx ∧ cx ≤ 9223372036854775807) (hcy : ys.length ≤ cy ∧ cy ≤ 9223372036854775807) (hbx : ∀ i, i < xs.length → Byte (xs.getD i Cel.none).2.2) (hby : ∀ i, i < ys.length → Byte (ys.getD i Cel.none).2.2) (hx : CIn w p xs) (hy : CIn w q ys) :
  Calls Tryz.prog 7 #[.slice p xs.length cx, .slice q ys.length cy] w fun e w' => e = .returned (.tuple #[.int .i64 (cmpR xs ys).1, .int .i64 (cmpR xs ys).2]) ∧ Below w.heap.size w w' := by
 have HVX := implValid_any p cx xs w (by omega) hx
 have HVY : Hid (∀ W, Below w.heap.size w W → Calls Tryz.prog 23 #[.slice q ys.length cy] W fun e w' => e = .returned (.bool (validB ys)) ∧ Below W.heap.size W w') := fun W hW => implValid_any q cy ys W (by omega) (hy.below hW)
 cases hv : validB xs with
 | false =>
   have HF : Hid (cmpR xs ys = (0, 1)) := by show _ = _; rw [cmpR, if_neg (by rw [hv]; simp)]
   rw [HF.out]; rw [hv] at HVX; clear hcx hcy
   generalize xs.length = n at *
   generalize ys.length = m at *
   clear hx hy hbx hby
   go_enter Tryz.func7, Tryz.ntmps7
   go_wp2_with fail; refine HVX.mono ?_; rintro e w1 ⟨rfl, hb1⟩; go_wp2_with fail
   go_ret2
   exact ⟨rfl, hb1⟩
 | true =>
   rw [hv] at HVX
   cases hv2 : validB ys with
   | false =>
     have HF : Hid (cmpR xs ys = (0, 1)) := by show _ = _; rw [cmpR, if_neg (by rw [hv2]; simp)]
     rw [HF.out]; rw [hv2] at HVY; clear hcx hcy
     generalize xs.length = n at *
     generalize ys.length = m at *
     clear hx hy hbx hby
     go_enter Tryz.func7, Tryz.ntmps7
     go_wp2_with fail; refine HVX.mono ?_; rintro e w1 ⟨rfl, hb1⟩; have HB1 : Hid (Below w.heap.size w w1) := hb1; clear hb1 HVX; go_wp2_with fail; refine (HVY.out _ HB1.out).mono ?_; rintro e w2 ⟨rfl, hb2⟩; go_wp2_with fail
     go_ret2
     exact ⟨rfl, Below.on HB1.out hb2⟩
   | true =>
     have HF : Hid (cmpR xs ys = (cmpC xs ys, 0)) := by show _ = _; rw [cmpR, if_pos ⟨hv, hv2⟩]
     rw [HF.out]; rw [hv2] at HVY; obtain ⟨c, k, ex, hok, hlx⟩ := tree_of hbx hv; obtain ⟨c', k', ey, hok', hly⟩ := tree_of hby hv2
     have hkx : xs.length = k.cells.length + 1 := by rw [ex]; simp
     have hky : ys.length = k'.cells.length + 1 := by rw [ey]; simp
     have HT1 : Hid (∀ W, Below w.heap.size w W → Calls Tryz.prog 24 #[.slice p xs.length cx] W fun e w' => ∃ v, e = .returned v ∧ FoIn w' W.heap.size (.node c k .nil) [v] ∧ Below W.heap.size W w') := fun W hW => termOf_any c k p xs.length cx W hok hkx hcx.1 hcx.2 (by rw [← ex]; exact hx.below hW)
     have HT2 : Hid (∀ W, Below w.heap.size w W → Calls Tryz.prog 24 #[.slice q ys.length cy] W fun e w' => ∃ v, e = .returned v ∧ FoIn w' W.heap.size (.node c' k' .nil) [v] ∧ Below W.heap.size W w') := fun W hW => termOf_any c' k' q ys.length cy W hok' hky hcy.1 hcy.2 (by rw [← ey]; exact hy.below hW)
     have HOK : Hid ((Fo.node c k .nil).ok ∧ (Fo.node c' k' .nil).ok ∧ k.cells.length + 1 ≤ 2000 ∧ k'.cells.length + 1 ≤ 2000) := ⟨hok, hok', by omega, by omega⟩
     have HXY : Hid (xs = c :: k.cells ∧ ys = c' :: k'.cells) := ⟨ex, ey⟩
     clear hcx hcy ex ey hok hok' hlx hly hkx hky hbx hby hx hy
     generalize xs.length = n at *
     generalize ys.length = m at *
     go_enter Tryz.func7, Tryz.ntmps7
     go_wp2_with fail; refine HVX.mono ?_; rintro e w1 ⟨rfl, hb1⟩; have HB1 : Hid (Below w.heap.size w w1) := hb1; clear hb1 HVX; go_wp2_with fail; refine (HVY.out _ HB1.out).mono ?_; rintro e w2 ⟨rfl, hb2⟩; have HB2 : Hid (Below w.heap.size w w2) := Below.on HB1.out hb2; clear hb2; go_wp2_with fail; refine (HT1.out w2 HB2.out).mono ?_; rintro e w3 ⟨v, rfl, hfo, hb3⟩; obtain ⟨t1, x1, rfl⟩ := hfo.iface; have HB3 : Hid (Below w.heap.size w w3) := Below.on HB2.out hb3; have HFO : Hid (FoIn w3 w2.heap.size (.node c k .nil) [.iface t1 x1]) := hfo; have HS3 : Hid (w2.heap.size ≤ w3.heap.size) := hb3.size; clear hfo hb3; go_wp2_with fail; refine (HT2.out w3 HB3.out).mono ?_; rintro e w4 ⟨v', rfl, hfo', hb4⟩; obtain ⟨t2, x2, rfl⟩ := hfo'.iface; have HB4 : Hid (Below w.heap.size w w4) := Below.on HB3.out hb4; have HFO' : Hid (FoIn w4 w2.heap.size (.node c' k' .nil) [.iface t2 x2]) := FoIn.imp HS3.out (fun _ _ _ _ => rfl) (Nat.le_refl _) _ _ hfo'
     have HFO4 : Hid (FoIn w4 w2.heap.size (.node c k .nil) [.iface t1 x1]) := HFO.out.below hb4
     have HST : Hid (Calls Tryz.prog 25 #[.slice (some ⟨w4.heap.size, 0, none⟩) 2 2] (w4.alloc (.cells #[.iface t1 x1, .iface t2 x2] 58)) (StdOut (w4.alloc (.cells #[.iface t1 x1, .iface t2 x2] 58)) (c :: k.cells) (c' :: k'.cells))) :=
      standard_any c k _ c' k' _ w2.heap.size w4.heap.size w4 _ HOK.out.1 HOK.out.2.1 HFO4.out HFO'.out ((Below.refl _ _).alloc (Nat.le_refl _) _) (pair_new w4 _ _ _).1 (pair_new w4 _ _ _).2 HOK.out.2.2.1 HOK.out.2.2.2
     have HB5 : Hid (Below w4.heap.size w4 (w4.alloc (.cells #[.iface t1 x1, .iface t2 x2] 58))) := (Below.refl _ _).alloc (Nat.le_refl _) _; clear hfo' hb4; go_wp2_with fail; refine HST.out.mono ?_; rintro e w6 ⟨b, N, ks, rk, rfl, hfm, hrk, hn1, hn2, hb6⟩; have HB6 : Hid (Below w4.heap.size w4 w6) := Below.on HB5.out hb6; have HCMP := compare_any w4 w2.heap.size b N ks rk 2000 (by omega) c k _ c' k' _ w6 HOK.out.2.2.1 HOK.out.1 HOK.out.2.1 HFO4.out HFO'.out hn1 hn2 HB6.out hfm; rw [compare_cells hrk c c' k k' HOK.out.1 HOK.out.2.1 hn1 hn2, ← HXY.out.1, ← HXY.out.2] at HCMP; clear hfm hrk hn1 hn2 hb6 HST; go_wp2_with fail; refine HCMP.mono ?_; rintro e w7 ⟨rfl, hb7⟩; have HFIN : Hid (Below w.heap.size w w7) := Below.on (Below.on HB4.out HB6.out) hb7; clear hb7 HCMP; go_wp2_with fail
     go_ret2
     exact ⟨rfl, HFIN.out⟩
end
section
open Go Go.RowKit
theorem TermOut.on {w W W' : World} {R : Nat} {p : Option Addr} {c : Nat} {xs : List Int} {res : List Cel × Nat} {e : Ending} (hk : Keep R (R + 1) w W) (h : TermOut W R p c xs res e W') : TermOut w R p c xs res e W' := by
 obtain ⟨q, n, cap, he, ho, hk', hr⟩ := h; exact ⟨q, n, cap, he, ho.mono hk.size, hk.trans hk', hr⟩
end
section
open Go Go.RowKit
def TmC (w : World) (q : Option Addr) (m c : Nat) (cs : List Cel) : Prop := m = cs.length ∧ CIn w q cs ∧ m ≤ c ∧ c ≤ 9223372036854775807
theorem TmC.below {w w' : World} {q : Option Addr} {m c : Nat} {cs : List Cel} (h : TmC w q m c cs) (hb : Below w.heap.size w w') : TmC w' q m c cs := ⟨h.1, h.2.1.below hb, h.2.2⟩
theorem TmIn.tmc {w : World} {q : Option Addr} {m c : Nat} {cs : List Cel} (h : TmIn w q m c cs) : TmC w q m c cs := ⟨h.1, h.2.1, h.2.2.2.2.1, h.2.2.2.2.2⟩
theorem OwnC.tmc {w : World} {B m c : Nat} {q : Option Addr} {cs : List Cel} (h : OwnC w B q m c cs) : TmC w q m c cs := ⟨h.1, h.cin, by obtain ⟨_, rs, _, ho, _⟩ := h; exact rowcap ho⟩
theorem mkAB {w : World} {pn : Option Addr} {s : List Int} {rb m0 c0 m1 c1 : Nat} {q0 q1 : Option Addr} {A0 A : Tr} (hB : BIn w pn s) (hr : w.heap[rb]? = some (.cells #[.slice q0 m0 c0, .slice q1 m1 c1] 23)) (h0 : TmC w q0 m0 c0 A0.cs) (h1 : TmC w q1 m1 c1 A.cs)
  (o0 : A0.fo.ok) (o1 : A.fo.ok) (v0 : validB A0.cs = true) (v1 : validB A.cs = true) : AB2 w pn s (some ⟨rb, 0, none⟩) A0 A := by
 have l : ∀ {X : Tr}, validB X.cs = true → X.cs.length ≤ 2001 := fun h => by
  simp only [validB, Bool.and_eq_true, decide_eq_true_eq] at h
  omega
 refine ⟨hB, fun i hi => ?_, fun i hi => ?_⟩
 ·rcases (by simp at hi; omega : i = 0 ∨ i = 1) with rfl | rfl
  ·exact ⟨rb, q0, c0, rfl, by show _ = some (Value.slice q0 A0.cs.length c0); rw [← h0.1]; exact cell_of_row _ _ 0 _ _ _ hr, h0.2.1, by show A0.cs.length ≤ c0; rw [← h0.1]; exact h0.2.2.1, h0.2.2.2⟩
  ·exact ⟨rb, q1, c1, rfl, by show _ = some (Value.slice q1 A.cs.length c1); rw [← h1.1]; exact cell_of_row _ _ 1 _ _ _ hr, h1.2.1, by show A.cs.length ≤ c1; rw [← h1.1]; exact h1.2.2.1, h1.2.2.2⟩
 ·rcases (by simp at hi; omega : i = 0 ∨ i = 1) with rfl | rfl
  ·exact ⟨o0, v0, l v0⟩
  ·exact ⟨o1, v1, l v1⟩
theorem tabFe : tabB dTab = true := by decide +kernel
structure CodeIn (w : World) (p : Option Addr) (cap n : Nat) (xs : List Int) : Prop where
 byt : Bytes xs
 len : n = xs.length
 small : xs.length ≤ 1048576
 room : xs.length ≤ cap
 bin : BIn w p xs
structure FeW (w : World) (a a2 : Addr) : Prop where
 fl : w.cell? ⟨1, 0, none⟩ = some (erV a)
 by' : w.cell? ⟨2, 0, none⟩ = some (erV a2)
 et : etG w
 sp : SpIn w
theorem FeW.below {w W : World} {a a2 : Addr} (h : FeW w a a2) (hb : Below w.heap.size w W) : FeW W a a2 :=
 ⟨(hb.cell (World.block_lt_of_cell? _ _ h.fl)).trans h.fl, (hb.cell (World.block_lt_of_cell? _ _ h.by')).trans h.by', h.et.below hb, fun c hc => (hb.cell (World.block_lt_of_cell? _ _ (h.sp c hc))).trans (h.sp c hc)⟩
theorem FeW.ops {W : World} {a a2 : Addr} (h : FeW W a a2) : Calls Tryz.prog 12 #[] W fun e w' => ∃ p0 n0 c0, e = .returned (.slice p0 n0 c0) ∧ BuW w' a a2 p0 n0 c0 ∧ Below W.heap.size W w' :=
 (implDef_any W h.sp).mono fun e w' hh => by
   obtain ⟨p0, n0, c0, rfl, ho, hb⟩ := hh; have h' := h.below hb; refine ⟨p0, n0, c0, rfl, ⟨h'.fl, h'.by', h'.et, fun W' hW => ?_⟩, hb⟩; have := implTab_any p0 c0 dTab W' (by decide +kernel) ((ho.below hW).oin); rw [tabFe, ← ho.1] at this; exact this
theorem bin_lit (w : World) (s : List Int) (C : Array Value) (fz : Nat × Nat) (hl : C.toList = s.map (Value.int .u8)) : BIn (w.alloc (.cells C 5 fz)) (some ⟨w.heap.size, 0, none⟩) s := fun _ => ⟨w.heap.size, 0, rfl, fun i hi => by
 rw [cell_of_row _ _ (0 + i) _ _ _ (heap_alloc_new w _)]; rw [Nat.zero_add, ← Array.getElem?_toList, hl, List.getElem?_map, List.getElem?_eq_getElem hi]
 simp [List.getD, List.getElem?_eq_getElem hi]⟩
theorem CIn.partL {w : World} {b o : Nat} {cs a m r : List Cel} (h : CIn w (some ⟨b, o, none⟩) cs) (e : cs = a ++ (m ++ r)) : CIn w (some ⟨b, o + a.length * 3, none⟩) m := fun hm => by
 obtain ⟨b', o', e', hc⟩ := h (by rw [e]; simp; omega)
 cases e'
 refine ⟨b, o + a.length * 3, rfl, fun i hi => ?_⟩; have := hc (a.length + i) (by rw [e]; simp; omega); rw [show o + (a.length + i) * 3 = o + a.length * 3 + i * 3 by omega] at this
 have e2 : cs.getD (a.length + i) Cel.none = m.getD i Cel.none := by
  rw [e, List.getD, List.getElem?_append_right (by omega), show a.length + i - a.length = i by omega, List.getElem?_append_left hi, List.getD]
 rwa [e2] at this
end
end Go.Proofs.YtdmmchoicngblaaGreatDoor
