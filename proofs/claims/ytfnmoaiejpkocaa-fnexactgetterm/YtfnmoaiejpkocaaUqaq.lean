/- Texts of SpR, L1c, DrM. Own work of the verifier. -/
import Derived.Test.YtfnmoaiejpkocaaUqai
import Derived.Test.YtfnmoaiejpkocaaUqan
import Derived.Test.YtfnmoaiejpkocaaUqad
import Derived.Deep.RegionLaw
import Derived.Deep.Upon
namespace Go.Proofs.Ytfnmoaiejpkocaa
open Go Go.RowKit Go.Maps
set_option linter.unusedVariables false

/-- append as one step of a region that draws, its run known. -/
theorem step_app_run {P : Program} {ops : Array Oper} {o : Oper} {a : Act} {K : Act → World → Prop} {Q : Exit → Act → World → Prop} {E : Prop} (hgd : o.guard = none) (s x : Operand) (t u : TypeId)
    (ho : o.op = .call { callee := .builtin .append, args := #[s, x], argTypes := #[t, u] }) (v y r : Value) (w w' : World) (hs : a.eval s = v) (hx : a.eval x = y)
    (hr : (Builtin.append_ #[t, u] o.type #[v, y]).run P w = .ok r w') (h : K (a.put o.dst r) w') : if Region.wanted o (yielded ops a.tmps) = true then Oper.wp P o a w K Q else E := by
  have hw : Region.wanted o (yielded ops a.tmps) = true := by simp [Region.wanted, hgd]
  rw [if_pos hw]
  unfold Oper.wp execOp
  simp only [ho, resolve, invoke, builtin, Sem.run_bind, Sem.run_pure, Result.andThen_ok, List.map_toArray, List.map_cons, List.map_nil, hs, hx, hr]
  exact h
theorem infoCelM : (Try.prog.info? 31).map (fun i => (i.zero, i.size, i.bytes)) = some (some (.agg #[.int .i64 0, .int .i64 0, .slice none 0 0]), 3, 40) := by kernel_rfl
/-- A row of a slice is this cell; its text lies in W0. -/
def RFit (W0 : World) (r : RC) (c : Cel) : Prop := r.1 = c.1 ∧ r.2.1 = c.2.1 ∧ r.2.2.2.1 = c.2.2.length ∧ BIn W0 r.2.2.1 c.2.2
theorem RFit.below {W W' : World} {r : RC} {c : Cel} (h : RFit W r c) (hb : Below W.heap.size W W') : RFit W' r c := ⟨h.1, h.2.1, h.2.2.1, h.2.2.2.below hb⟩
theorem rows_of {w : World} {b : Nat} : ∀ (xs : List Cel) (o : Nat), (∀ i, i < xs.length → CAt w b (o + i * 3) (xs.getD i Cel.none)) → ∃ rs : List RC, rs.length = xs.length ∧ (∀ i, i < xs.length → RFit w (rs.getD i RC.zero) (xs.getD i Cel.none)) ∧ ∀ j u, (flat rs)[j]? = some u → w.cell? ⟨b, o + j, none⟩ = some u
  | [], o, _ => ⟨[], rfl, fun i h => absurd h (Nat.not_lt_zero _), fun j u h => by simp [flat] at h⟩
  | c :: r, o, h => by
    obtain ⟨rs, hl, hf, hc⟩ := rows_of r (o + 3) (fun i hi => by
      have := h (i + 1) (by simpa using hi)
      rw [List.getD_cons_succ, show o + (i + 1) * 3 = o + 3 + i * 3 by omega] at this
      exact this)
    obtain ⟨p, cap, h0, h1, h2, h3⟩ := h 0 (by simp)
    simp only [List.getD_cons_zero, Nat.zero_mul, Nat.add_zero] at h0 h1 h2 h3
    refine ⟨(c.1, c.2.1, p, c.2.2.length, cap) :: rs, by simp [hl], fun i hi => ?_, fun j u hj => ?_⟩
    · cases i with
      | zero => exact ⟨rfl, rfl, rfl, h3⟩
      | succ i => exact hf i (by simpa using hi)
    · rw [flat_cons] at hj
      match j, hj with
      | 0, hj => rw [Nat.add_zero, h0]; simpa using hj
      | 1, hj => rw [h1]; simpa using hj
      | 2, hj => rw [h2]; simpa using hj
      | j + 3, hj =>
        rw [show o + (j + 3) = o + 3 + j by omega]
        exact hc j u (by simpa using hj)
/-- A row of cells of the call's own (from the end of W0 on), whose texts lie in W0. -/
def RowC (W0 w : World) (p : Option Addr) (n c : Nat) (xs : List Cel) : Prop :=
  n = xs.length ∧ ∃ rs : List RC, rs.length = xs.length ∧ w.ownsRow W0.heap.size 31 3 (.slice p n c) n (flat rs) ∧ ∀ i, i < xs.length → RFit W0 (rs.getD i RC.zero) (xs.getD i Cel.none)
theorem RowC.below {W0 w w' : World} {p : Option Addr} {n c : Nat} {xs : List Cel} (h : RowC W0 w p n c xs) (hb : Below w.heap.size w w') : RowC W0 w' p n c xs := by
  obtain ⟨hn, rs, hl, hr, hf⟩ := h
  exact ⟨hn, rs, hl, row_below hr hb, hf⟩
/-- The cells of a row, as they lie. -/
theorem RowC.at {W0 w : World} {p : Option Addr} {n c : Nat} {xs : List Cel} (h : RowC W0 w p n c xs) (i : Nat) (hi : i < xs.length) : ∃ g q cq, p = some ⟨g, 0, none⟩ ∧ W0.heap.size ≤ g ∧ g < w.heap.size ∧ w.cell? ⟨g, i * 3, none⟩ = some (.int .i64 (xs.getD i Cel.none).1) ∧ w.cell? ⟨g, i * 3 + 1, none⟩ = some (.int .i64 (xs.getD i Cel.none).2.1) ∧ w.cell? ⟨g, i * 3 + 2, none⟩ = some (.slice q (xs.getD i Cel.none).2.2.length cq) ∧ BIn W0 q (xs.getD i Cel.none).2.2 := by
  obtain ⟨hn, rs, hl, hr, hf⟩ := h
  obtain ⟨g, cap, hv, hb, hg⟩ := hr.form (by omega)
  simp only [Value.slice.injEq, true_and] at hv
  obtain ⟨rfl, rfl⟩ := hv
  obtain ⟨a0, a1, a2⟩ := flat_at rs i (by omega)
  obtain ⟨f0, f1, f2, f3⟩ := hf i hi
  have d0 := (hr.cellAt (i * 3) (by omega)).trans a0
  have d1 := (hr.cellAt (i * 3 + 1) (by omega)).trans a1
  have d2 := (hr.cellAt (i * 3 + 2) (by omega)).trans a2
  rw [f0] at d0; rw [f1] at d1; rw [f2] at d2
  exact ⟨g, _, _, rfl, hb, hg, d0, d1, d2, f3⟩
theorem flat_oneM (rs : List RC) : ∀ u ∈ flat rs, u.oneCell' = true := fun u hu => by
  simp only [flat, List.mem_flatMap] at hu
  obtain ⟨r, _, hr⟩ := hu
  simp [rcV] at hr
  rcases hr with rfl | rfl | rfl <;> rfl
/-- Cells put onto an empty row. -/
theorem app_nilC (w : World) (ty : TypeId) (q : Option Addr) (c : Nat) (xs : List Cel) (hl : xs.length ≤ 20000) (hin : CIn w q xs) (W0 : World) (hW : Below W0.heap.size W0 w) (hin0 : CIn W0 q xs) :
    ∃ pt ct w1, (Builtin.append_ #[34, 34] ty #[.slice none 0 0, .slice q xs.length c]).run Try.prog w = .ok (.slice pt xs.length ct) w1 ∧ Below w.heap.size w w1 ∧ RowC W0 w1 pt xs.length ct xs ∧ (∀ k, Value.ownBlock (.slice pt xs.length ct) = some k → w.heap.size ≤ k) := by
  obtain ⟨i0, hi, hz0, hz1, hz2⟩ := info_parts infoCelM
  by_cases hn : 0 < xs.length
  · obtain ⟨g, o, rfl, hc⟩ := hin0 hn
    obtain ⟨rs, hrl, hrf, hrc⟩ := rows_of xs o hc
    obtain ⟨g', cap, w', hr, h2, h3, _, _⟩ := run_append_lies (P := Try.prog) w 34 ty w.heap.size 31 i0 (.agg #[.int .i64 0, .int .i64 0, .slice none 0 0]) 3 40 Try.underlying34 hi hz0 hz1 hz2 rfl (by decide) (.slice none 0 0) 0 [] (World.ownsRow_nil _ _ _ _) ⟨g, o, none⟩ xs.length c (flat rs) (by rw [flat_len]; omega)
      (fun j u hj => by
        rw [show (⟨g, o, none⟩ : Addr).add j = ⟨g, o + j, none⟩ from WideShapes.add_plain _ _ _]
        have := hrc j u hj
        exact (hW.cell (World.block_lt_of_cell? _ _ this)).trans this) (flat_oneM rs) hn (by unfold maxLen; omega) (by omega) (Nat.le_refl _) _ rfl
    simp only [Nat.zero_add, List.nil_append] at hr h2
    exact ⟨_, _, w', hr, (Below.refl _ _).grown h3 (Nat.le_refl _) (fun k hk => by cases hk), ⟨rfl, rs, hrl, ownsRow_down h2 hW.size, hrf⟩, fun k hk => (h2.lt k hk).1⟩
  · obtain rfl : xs = [] := by cases xs with | nil => rfl | cons a r => simp at hn
    have hs : Src Try.prog i0.size 34 (.slice q 0 c) 0 [] w := by
      cases q with
      | none => exact Src.ofNil w Try.underlying34 c
      | some ad => exact Src.ofSlice w Try.underlying34 ad 0 c [] (by simp) (fun j u h => by simp at h) (fun u h => by cases h)
    exact ⟨none, 0, w, run_append_nothing w 34 34 ty 31 i0 Try.underlying34 hi none 0 0 (Nat.le_refl _) _ hs, Below.refl _ _, ⟨rfl, [], rfl, World.ownsRow_nil _ _ _ _, fun i h => absurd h (Nat.not_lt_zero _)⟩, fun k hk => by cases hk⟩
/-- Numbers put onto an empty row. -/
theorem app_nilI (w : World) (ty : TypeId) (B : Nat) (q : Option Addr) (c : Nat) (ys : List Int) (hB : B ≤ w.heap.size) (hl : ys.length ≤ 20000) (hin : IIn w q ys) :
    ∃ pt ct w1, (Builtin.append_ #[23, 23] ty #[.slice none 0 0, .slice q ys.length c]).run Try.prog w = .ok (.slice pt ys.length ct) w1 ∧ Below w.heap.size w w1 ∧ OwnI w1 B 3 pt ys.length ct ys ∧ (∀ k, Value.ownBlock (.slice pt ys.length ct) = some k → w.heap.size ≤ k) := by
  obtain ⟨i0, hi, hz0, hz1, hz2⟩ := info_parts infoInt
  by_cases hn : 0 < ys.length
  · obtain ⟨g, o, rfl, hc⟩ := hin hn
    obtain ⟨g', cap, w', hr, h2, h3, _, _⟩ := run_append_lies (P := Try.prog) w 23 ty w.heap.size 3 i0 (.int .i64 0) 1 8 Try.underlying23 hi hz0 hz1 hz2 rfl (by decide) (.slice none 0 0) 0 [] (World.ownsRow_nil _ _ _ _) ⟨g, o, none⟩ ys.length c (ys.map (Value.int .i64)) (by simp)
      (fun j u hj => by
        simp only [List.getElem?_map] at hj
        cases hy : ys[j]? with
        | none => rw [hy] at hj; cases hj
        | some y =>
          rw [hy] at hj
          have hlt : j < ys.length := (List.getElem?_eq_some_iff.1 hy).1
          have := hc j hlt
          rw [show (⟨g, o, none⟩ : Addr).add j = ⟨g, o + j, none⟩ from WideShapes.add_plain _ _ _, this]
          simp [List.getD, hy] at hj ⊢
          exact hj) (ints_oneCell .i64 ys) hn (by unfold maxLen; omega) (by omega) (Nat.le_refl _) _ rfl
    simp only [Nat.zero_add, List.nil_append] at hr h2
    exact ⟨_, _, w', hr, (Below.refl _ _).grown h3 (Nat.le_refl _) (fun k hk => by cases hk), ⟨rfl, ownsRow_down h2 hB⟩, fun k hk => (h2.lt k hk).1⟩
  · obtain rfl : ys = [] := by cases ys with | nil => rfl | cons a r => simp at hn
    have hs : Src Try.prog i0.size 23 (.slice q 0 c) 0 [] w := by
      cases q with
      | none => exact Src.ofNil w Try.underlying23 c
      | some ad => exact Src.ofSlice w Try.underlying23 ad 0 c [] (by simp) (fun j u h => by simp at h) (fun u h => by cases h)
    exact ⟨none, 0, w, run_append_nothing w 23 23 ty 3 i0 Try.underlying23 hi none 0 0 (Nat.le_refl _) _ hs, Below.refl _ _, OwnI.nil _ _ _, fun k hk => by cases hk⟩

/-- Block h is the model's heap with these cells, this trail and this number of pairs; texts lie in W0. -/
def SHp (W0 w : World) (h : Nat) (xs : List Cel) (tr : List Int) (k : Int) : Prop :=
  ∃ pc cc pt ct, w.heap[h]? = some (.cells #[.slice pc xs.length cc, .slice pt tr.length ct, .int .i64 k] 118) ∧ RowC W0 w pc xs.length cc xs ∧ OwnI w W0.heap.size 3 pt tr.length ct tr ∧ W0.heap.size ≤ h ∧ Below W0.heap.size W0 w
theorem SHp.below {W0 w w' : World} {h : Nat} {xs : List Cel} {tr : List Int} {k : Int} (H : SHp W0 w h xs tr k) (hb : Below w.heap.size w w') : SHp W0 w' h xs tr k := by
  obtain ⟨pc, cc, pt, ct, h0, h1, h2, h3, h4⟩ := H
  exact ⟨pc, cc, pt, ct, (hb.block h (Array.getElem?_eq_some_iff.1 h0).1).trans h0, h1.below hb, h2.below hb, h3, Below.on h4 hb⟩

set_option maxHeartbeats 1000000 in
set_option maxRecDepth 100000 in
theorem l10open_any (p q : Option Addr) (c1 c2 : Nat) (xs : List Cel) (tr : List Int) (w : World) (hx : xs.length ≤ 20000) (hy : tr.length ≤ 20000) (hc : CIn w p xs) (hi : IIn w q tr) :
    Calls Try.prog 40 #[.agg #[.slice p xs.length c1, .slice q tr.length c2]] w fun e w' => ∃ h, e = .returned (.pointer (some ⟨h, 0, none⟩)) ∧ SHp w w' h xs tr 0 ∧ Below w.heap.size w w' := by
  obtain ⟨W1, eW1⟩ : ∃ W1, W1 = ((w.alloc (.cells #[.slice p xs.length c1, .slice q tr.length c2] 36)).alloc (.cells #[.slice none 0 0, .slice none 0 0, .int .i64 0] 118)).drew := ⟨_, rfl⟩
  have hb1 : Below w.heap.size w W1 := by rw [eW1]; exact (((Below.refl _ _).alloc (Nat.le_refl _) _).alloc (by simp) _).drew
  obtain ⟨pc, cc, w2, hr1, hb2, hrow, hfr⟩ := app_nilC W1 34 p c1 xs hx (hc.below hb1) w hb1 hc
  have k0 : W1.heap[w.heap.size]? = some (.cells #[.slice p xs.length c1, .slice q tr.length c2] 36) := by
    rw [eW1]; show ((w.alloc _).alloc _).heap[w.heap.size]? = _; rw [Below.heap_alloc _ _ _ (by simp)]; exact heap_alloc_new _ _
  have k1 : W1.heap[w.heap.size + 1]? = some (.cells #[.slice none 0 0, .slice none 0 0, .int .i64 0] 118) := by
    rw [eW1]
    show ((w.alloc _).alloc _).heap[w.heap.size + 1]? = _
    have := heap_alloc_new (w.alloc (.cells #[.slice p xs.length c1, .slice q tr.length c2] 36)) (.cells #[.slice none 0 0, .slice none 0 0, .int .i64 0] 118)
    simpa using this
  have hz1 : W1.heap.size = w.heap.size + 1 + 1 := by rw [eW1]; simp
  have j0 := (hb2.block w.heap.size (by omega)).trans k0
  have j1 := (hb2.block (w.heap.size + 1) (by omega)).trans k1
  obtain ⟨V2, eV2⟩ : ∃ V2, V2 = (w2.setCell ⟨w.heap.size + 1, 0, none⟩ (.slice pc xs.length cc)).drew := ⟨_, rfl⟩
  have hs2 : w.heap.size + 1 + 1 ≤ w2.heap.size := by have := hb2.size; omega
  have hbV : Below w.heap.size w V2 := by rw [eV2]; exact ((Below.on hb1 hb2).setCell (p := ⟨_, _, none⟩) (by simp) _).drew
  have m1 : V2.heap[w.heap.size + 1]? = some (.cells #[.slice pc xs.length cc, .slice none 0 0, .int .i64 0] 118) := by
    rw [eV2]; show (w2.setCell _ _).heap[w.heap.size + 1]? = _; rw [heap_setCell_same _ _ _ _ _ _ j1]; rfl
  have m0 : V2.heap[w.heap.size]? = some (.cells #[.slice p xs.length c1, .slice q tr.length c2] 36) := by
    rw [eV2]; show (w2.setCell _ _).heap[w.heap.size]? = _; rw [heap_setCell_other _ _ _ _ (by simp)]; exact j0
  have hrow2 : RowC w V2 pc xs.length cc xs := by
    obtain ⟨hn, rs, hl, hr, hf⟩ := hrow
    refine ⟨hn, rs, hl, ?_, hf⟩
    rw [eV2]
    exact ownsRow_setCell_other hr (fun e => by have := hfr _ e; simp at this; omega) _
  obtain ⟨pt, ct, w3, hr2, hb3, hint, hfr3⟩ := app_nilI V2 23 w.heap.size q c2 tr hbV.size hy (hi.below hbV)
  have n1 := (hb3.block (w.heap.size + 1) (by have : V2.heap.size = w2.heap.size := by { rw [eV2]; simp }; omega)).trans m1
  have HFIN : Hid (SHp w (w3.setCell ⟨w.heap.size + 1, 1, none⟩ (.slice pt tr.length ct)) (w.heap.size + 1) xs tr 0 ∧ Below w.heap.size w (w3.setCell ⟨w.heap.size + 1, 1, none⟩ (.slice pt tr.length ct))) := by
    have hB : Below w.heap.size w (w3.setCell ⟨w.heap.size + 1, 1, none⟩ (.slice pt tr.length ct)) := (Below.on hbV hb3).setCell (p := ⟨_, _, none⟩) (by simp) _
    have hV2 : V2.heap.size = w2.heap.size := by rw [eV2]; simp
    refine ⟨⟨pc, cc, pt, ct, ?_, ?_, ⟨hint.1, ownsRow_setCell_other hint.2 (fun e => by have := hfr3 _ e; simp at this; omega) _⟩, by omega, hB⟩, hB⟩
    · rw [heap_setCell_same _ _ _ _ _ _ n1]; rfl
    · obtain ⟨hn, rs, hl, hr, hf⟩ := hrow2.below hb3
      refine ⟨hn, rs, hl, ownsRow_setCell_other hr (fun e => ?_) _, hf⟩
      have := hfr _ e
      simp at this; omega
  have a0 : W1.cell? ⟨w.heap.size, 0, none⟩ = some (.slice p xs.length c1) := by simp [World.cell?, k0]
  have a1 : W1.cell? ⟨w.heap.size + 1, 0, none⟩ = some (.slice none 0 0) := by simp [World.cell?, k1]
  have f1 : w2.frozen? ⟨w.heap.size + 1, 0, none⟩ = false := frozen_of_row _ _ _ _ _ j1
  have g1 : w2.cell? ⟨w.heap.size + 1, 0, none⟩ = some (.slice none 0 0) := by simp [World.cell?, j1]
  have b0 : V2.cell? ⟨w.heap.size, 1, none⟩ = some (.slice q tr.length c2) := by simp [World.cell?, m0]
  have b1 : V2.cell? ⟨w.heap.size + 1, 1, none⟩ = some (.slice none 0 0) := by simp [World.cell?, m1]
  have g2 : w3.cell? ⟨w.heap.size + 1, 1, none⟩ = some (.slice none 0 0) := by simp [World.cell?, n1]
  have f2 : w3.frozen? ⟨w.heap.size + 1, 1, none⟩ = false := frozen_of_row _ _ _ _ _ n1
  have hbd : ∀ W, (Instr.build 118 #[]).run Try.prog W = .ok (.agg #[.slice none 0 0, .slice none 0 0, .int .i64 0]) W := fun W => run_build W 118 _ _ (by kernel_rfl)
  rw [eW1] at hr1 a0 a1
  rw [eV2] at hr2 b0 b1
  clear hb1 hb2 hrow hfr k0 k1 hz1 j0 j1 hs2 hbV m1 m0 hrow2 hb3 hint hfr3 n1 hc hi eW1 eV2
  go_enter Try.func40, Try.ntmps40
  go_wp2
  go_region_law (refine step_app_run rfl _ _ _ _ rfl _ _ _ _ _ rfl rfl hr1 ?_)
  all_goals go_wp2
  all_goals go_region_law (refine step_app_run rfl _ _ _ _ rfl _ _ _ _ _ rfl rfl hr2 ?_)
  all_goals go_wp2
  all_goals go_ret
  all_goals exact ⟨_, rfl, HFIN.out⟩

end Go.Proofs.Ytfnmoaiejpkocaa

namespace Go.Proofs.Ytfnmoaiejpkocaa
open Go Go.RowKit
set_option linter.unusedVariables false

theorem news_of {w : World} {b o : Nat} {xs : List Int} (hc : ∀ i, i < xs.length → w.cell? ⟨b, o + i, none⟩ = some (.int .u8 (xs.getD i 0))) : ∀ j u, (xs.map (Value.int .u8))[j]? = some u → w.cell? ((⟨b, o, none⟩ : Addr).add j) = some u := fun j u hu => by
  have hj : j < xs.length := by
    rcases Nat.lt_or_ge j xs.length with h | h
    · exact h
    · simp [List.getElem?_eq_none h] at hu
  have e : (⟨b, o, none⟩ : Addr).add j = ⟨b, o + j, none⟩ := by unfold Addr.add; split <;> simp_all
  rw [e, hc j hj, ← hu]
  simp [List.getD, hj]

/-- append of nothing. -/
theorem app_nothing (w : World) {ops : Array Oper} {rest : List Oper} {o : Oper} {a : Act} {Q : Exit → Act → World → Prop} (hgd : o.guard = none) (s x : Operand)
    (ho : o.op = .call { callee := .builtin .append, args := #[s, x], argTypes := #[26, 26] }) (p : Option Addr) (n c : Nat) (hnc : n ≤ c) (hs : a.eval s = .slice p n c) (q : Option Addr) (c' : Nat) (hx : a.eval x = .slice q 0 c')
    (h : wpList Try.prog ops Q rest (a.put o.dst (.slice p n c)) w) : wpList Try.prog ops Q (o :: rest) a w := by
  obtain ⟨i0, hi, hz0, hz1, hz2⟩ := info_parts infoByte
  refine wpList_plain hgd fun K hK => ?_
  have hsrc : Src Try.prog i0.size 26 (.slice q 0 c') 0 [] w := by
    cases q with
    | none => exact Src.ofNil w Try.underlying26 c'
    | some ad => exact Src.ofSlice w Try.underlying26 ad 0 c' [] (by simp) (fun j u h => by simp at h) (fun u h => by cases h)
  have hr := fun ty => run_append_nothing (P := Try.prog) w 26 26 ty 5 i0 Try.underlying26 hi p n c hnc _ hsrc
  unfold Oper.wp
  simp [execOp, ho, resolve, invoke, builtin, hs, hx, hr, Result.andThen]
  exact hK _ _ h

theorem l1copy_all (p : Option Addr) (n c : Nat) (xs : List Int) (w : World) (hn : n = xs.length) (hm : n ≤ 10000000) (hc : BIn w p xs) :
    Calls Try.prog 41 #[.slice p n c] w fun e w' => ∃ p' n' c', e = .returned (.slice p' n' c') ∧ OwnS w' w.heap.size p' n' c' xs ∧ Below w.heap.size w w' := by
  by_cases h0 : 0 < n
  · obtain ⟨b, o, rfl, hcc⟩ := hc (by omega)
    have HC : Hid (∀ i, i < xs.length → w.cell? ⟨b, o + i, none⟩ = some (.int .u8 (xs.getD i 0))) := hcc
    have HN : Hid (n = xs.length) := hn
    clear hc hn hcc
    go_enter Try.func41, Try.ntmps41
    go_wp2_with (at_builtin; refine app_bytes _ rfl _ _ rfl w.heap.size none 0 0 [] xs n HN.out rfl (OwnS.nil _ _) _ c rfl (news_of HC.out) h0 (by omega) (Nat.le_refl _) ?_; intro g n' cap w1 hown1 hb1 hn1)
    go_ret
    exact ⟨_, _, _, rfl, hown1, hb1⟩
  · obtain rfl : n = 0 := by omega
    obtain rfl : xs = [] := List.length_eq_zero_iff.1 hn.symm
    clear hc hn
    go_enter Try.func41, Try.ntmps41
    go_wp2_with (at_builtin; refine app_nothing _ rfl _ _ rfl none 0 0 (Nat.le_refl _) rfl p c rfl ?_)
    go_ret
    exact ⟨_, _, _, rfl, OwnS.nil _ _, Below.refl _ _⟩

end Go.Proofs.Ytfnmoaiejpkocaa

namespace Go.Proofs.Ytfnmoaiejpkocaa
open Go Go.RowKit Go.Maps
set_option linter.unusedVariables false

/-- How many references may be followed from the word in a box. -/
noncomputable def rkB (xs : List Cel) (b : Nat) (w : World) : Nat :=
  match w.cell? ⟨b, 0, none⟩, w.cell? ⟨b, 1, none⟩ with
  | some (.int _ k), some (.int _ n) => if k = 0 then rk xs n.toNat + 1 else 0
  | _, _ => 0
theorem rkB_box {xs : List Cel} {b : Nat} {w : World} {c : Cel} {v : Value} (h : Box3 w b (.int .i64 c.1) (.int .i64 c.2.1) v) : rkB xs b w = rkW xs c := by
  unfold rkB
  rw [h.1, h.2.1]
  rfl
/-- The boxes of l10deref: the word at hand, and the answer's. -/
def DSt (W0 w0 w : World) (xs : List Cel) (h : Nat) (tr : List Int) (k : Int) (c' : Cel) (q : Option Addr) (cq : Nat) : Prop :=
  Box3 w w0.heap.size (.int .i64 c'.1) (.int .i64 c'.2.1) (.slice q c'.2.2.length cq) ∧ Box3 w (w0.heap.size + 1) (.int .i64 0) (.int .i64 0) (.slice none 0 0) ∧ BIn W0 q c'.2.2 ∧ Below w0.heap.size w0 w ∧ w0.heap.size + 1 + 1 ≤ w.heap.size

set_option maxHeartbeats 1000000 in
set_option maxRecDepth 100000 in
theorem l10deref_any (W0 : World) (h : Nat) (p : Option Addr) (cp : Nat) (c : Cel) (xs : List Cel) (tr : List Int) (kk : Int) (w : World) (g : Good xs) (hc : WdC xs c) (hp : BIn W0 p c.2.2) (H : SHp W0 w h xs tr kk) :
    Calls Try.prog 39 #[.pointer (some ⟨h, 0, none⟩), .agg #[.int .i64 c.1, .int .i64 c.2.1, .slice p c.2.2.length cp]] w fun e w' => ∃ p' cp', e = .returned (.agg #[.int .i64 (drf xs c).1, .int .i64 (drf xs c).2.1, .slice p' (drf xs c).2.2.length cp']) ∧ BIn W0 p' (drf xs c).2.2 ∧ Below w.heap.size w w' := by
  have HH : Hid (SHp W0 w h xs tr kk) := H
  have HG : Hid (Good xs) := g
  have HC : Hid (WdC xs c) := hc
  have hl := g.shp.len
  have HS0 : Hid (DSt W0 w ((w.alloc (.cells #[.int .i64 c.1, .int .i64 c.2.1, .slice p c.2.2.length cp] 31)).alloc (.cells #[.int .i64 0, .int .i64 0, .slice none 0 0] 31)) xs h tr kk c p cp) := by
    refine ⟨Box3.of_block (t := 31) ?_, Box3.of_block (t := 31) ?_, hp, ((Below.refl _ _).alloc (Nat.le_refl _) _).alloc (by simp) _, by simp⟩
    · rw [Below.heap_alloc _ _ _ (by simp)]; exact heap_alloc_new _ _
    · have := heap_alloc_new (w.alloc (.cells #[.int .i64 c.1, .int .i64 c.2.1, .slice p c.2.2.length cp] 31)) (.cells #[.int .i64 0, .int .i64 0, .slice none 0 0] 31)
      simpa using this
  -- the end: the word at hand is the answer
  have HEND : Hid (∀ (wr : World) (c' : Cel) (q : Option Addr) (cq : Nat), DSt W0 w wr xs h tr kk c' q cq → drf xs c' = drf xs c → onB xs c' = false → ∀ v0 v1 v2, v0 = .int .i64 c'.1 → v1 = .int .i64 c'.2.1 → v2 = .slice q c'.2.2.length cq →
      ((((wr.setCell ⟨w.heap.size + 1, 0, none⟩ v0).setCell ⟨w.heap.size + 1, 1, none⟩ v1).setCell ⟨w.heap.size + 1, 2, none⟩ v2).cell? ⟨w.heap.size + 1, 0, none⟩ = some v0 ∧ (((wr.setCell ⟨w.heap.size + 1, 0, none⟩ v0).setCell ⟨w.heap.size + 1, 1, none⟩ v1).setCell ⟨w.heap.size + 1, 2, none⟩ v2).cell? ⟨w.heap.size + 1, 1, none⟩ = some v1 ∧ (((wr.setCell ⟨w.heap.size + 1, 0, none⟩ v0).setCell ⟨w.heap.size + 1, 1, none⟩ v1).setCell ⟨w.heap.size + 1, 2, none⟩ v2).cell? ⟨w.heap.size + 1, 2, none⟩ = some v2) ∧
      ∃ p' cp', Ending.returned (.agg #[v0, v1, v2]) = .returned (.agg #[.int .i64 (drf xs c).1, .int .i64 (drf xs c).2.1, .slice p' (drf xs c).2.2.length cp']) ∧ BIn W0 p' (drf xs c).2.2 ∧ Below w.heap.size w (((wr.setCell ⟨w.heap.size + 1, 0, none⟩ v0).setCell ⟨w.heap.size + 1, 1, none⟩ v1).setCell ⟨w.heap.size + 1, 2, none⟩ v2)) := fun wr c' q cq hs hd ho v0 v1 v2 e0 e1 e2 => by
    have e : c' = drf xs c := by rw [← hd, drf_stop ho]
    subst e0 e1 e2
    refine ⟨box3_set hs.2.1.1 hs.2.1.2.1 hs.2.1.2.2.1 _ _ _, q, cq, by rw [← e], by rw [← e]; exact hs.2.2.1, ((hs.2.2.2.1.setCell (p := ⟨_, _, none⟩) (by simp) _).setCell (p := ⟨_, _, none⟩) (by simp) _).setCell (p := ⟨_, _, none⟩) (by simp) _⟩
  clear H g hc hp
  go_enter Try.func39, Try.ntmps39
  go_wp2
  go_loopw [] (fun wr => ∃ c' q cq, Hid (WdC xs c') ∧ Hid (drf xs c' = drf xs c) ∧ Hid (DSt W0 w wr xs h tr kk c' q cq)) (fun wr => rkB xs w.heap.size wr)
  case atStart => exact ⟨c, p, cp, HC, rfl, HS0⟩
  case round =>
    obtain ⟨c', q, cq, HW, HD, HS⟩ := hrel
    obtain ⟨⟨b0, b1, b2, b3⟩, ⟨r0, r1, r2, r3⟩, _, _, hsz⟩ := HS.out
    have HM : Hid (rkB xs w.heap.size wr = rkW xs c') := rkB_box HS.out.1
    by_cases k0 : c'.1 = 0
    · obtain ⟨n0, n1, n2⟩ := HW.out.2.1 k0
      obtain ⟨j, ej⟩ : ∃ j : Nat, c'.2.1 = j := ⟨c'.2.1.toNat, by omega⟩
      have hj : j < xs.length := by omega
      have HHr : Hid (SHp W0 wr h xs tr kk) := HH.out.below HS.out.2.2.2.1
      obtain ⟨pc, cc, pt, ct, hh, hrow, _, _, _⟩ := HHr.out
      obtain ⟨gg, qx, cx, rfl, hg1, hg2, d0, d1, d2, hbx⟩ := hrow.at j hj
      have h0 : wr.cell? ⟨h, 0, none⟩ = some (.slice (some ⟨gg, 0, none⟩) xs.length cc) := by simp [World.cell?, hh]
      rw [k0] at b0
      rw [ej] at b1
      obtain ⟨y0, ey0⟩ : ∃ x, x = (xs.getD j Cel.none).1 := ⟨_, rfl⟩
      obtain ⟨y1, ey1⟩ : ∃ x, x = (xs.getD j Cel.none).2.1 := ⟨_, rfl⟩
      obtain ⟨y2, ey2⟩ : ∃ x, x = (xs.getD j Cel.none).2.2.length := ⟨_, rfl⟩
      rw [← ey0] at d0
      rw [← ey1] at d1
      rw [← ey2] at d2
      have HY : Hid (y0 = (xs.getD j Cel.none).1 ∧ y1 = (xs.getD j Cel.none).2.1 ∧ y2 = (xs.getD j Cel.none).2.2.length ∧ BIn W0 qx (xs.getD j Cel.none).2.2) := ⟨ey0, ey1, ey2, hbx⟩
      have HJ : Hid (c'.1 = 0 ∧ c'.2.1 = j) := ⟨k0, ej⟩
      have hlh := World.block_lt_of_cell? _ _ h0
      have HVB : Hid (varB xs j = (decide (y0 = 0) && decide (y1 = j))) := by
        show _ = _
        rw [Bool.eq_iff_iff]
        simp [varB, kndA, numA, hj, ey0, ey1]
      obtain ⟨m2, em2⟩ : ∃ m, m = c'.2.2.length := ⟨_, rfl⟩
      rw [← em2] at b2
      have HM2 : Hid (m2 = c'.2.2.length) := em2
      clear n0 n1 n2 ej k0 hrow hbx ey0 ey1 ey2 em2 hh
      have hw1 : w.heap.size < wr.heap.size := by omega
      have hw2 : w.heap.size + 1 < wr.heap.size := by omega
      go_wp2
      go_region_held3 (fun W => W.cell? ⟨h, 0, none⟩ = some (.slice (some ⟨gg, 0, none⟩) xs.length cc) ∧ W.cell? ⟨w.heap.size, 1, none⟩ = some (.int .i64 j) ∧ W.cell? ⟨gg, j * 3, none⟩ = some (.int .i64 y0) ∧ W.cell? ⟨gg, j * 3 + 1, none⟩ = some (.int .i64 y1) ∧ W.cell? ⟨gg, j * 3 + 2, none⟩ = some (.slice qx y2 cx)) (go_keep) (fail)
      have HSA : Hid (DSt W0 w (wr.alloc (.cells #[.int .i64 y0, .int .i64 y1, .slice qx y2 cx] 31)).drew xs h tr kk c' q cq ∧ Box3 (wr.alloc (.cells #[.int .i64 y0, .int .i64 y1, .slice qx y2 cx] 31)).drew wr.heap.size (.int .i64 y0) (.int .i64 y1) (.slice qx y2 cx)) := by
        have hbA : Below wr.heap.size wr (wr.alloc (.cells #[.int .i64 y0, .int .i64 y1, .slice qx y2 cx] 31)).drew := ((Below.refl _ _).alloc (Nat.le_refl _) _).drew
        obtain ⟨s0, s1, s2, s3, s4⟩ := HS.out
        exact ⟨⟨s0.below hbA (by omega), s1.below hbA (by omega), s2, Below.on s3 hbA, by have := hbA.size; omega⟩, Box3.of_block (t := 31) (heap_alloc_new wr _)⟩
      generalize (wr.alloc (.cells #[.int .i64 y0, .int .i64 y1, .slice qx y2 cx] 31)).drew = wA at HSA ⊢
      rename_i hheld
      clear hheld
      clear b0 b1 b2 b3 r0 r1 r2 r3 h0 d0 d1 d2
      obtain ⟨⟨b0, b1, b2, b3⟩, ⟨r0, r1, r2, r3⟩, _, _, hszA⟩ := HSA.out.1
      obtain ⟨x0, x1, x2, x3⟩ := HSA.out.2
      rw [HJ.out.1] at b0
      rw [HJ.out.2] at b1
      rw [← HM2.out] at b2
      have HNX : Hid (DSt W0 w (((wA.setCell ⟨w.heap.size, 0, none⟩ (.int .i64 y0)).setCell ⟨w.heap.size, 1, none⟩ (.int .i64 y1)).setCell ⟨w.heap.size, 2, none⟩ (.slice qx y2 cx)) xs h tr kk (xs.getD j Cel.none) qx cx) := by
        obtain ⟨s0, s1, s2, s3, s4⟩ := HSA.out.1
        obtain ⟨e0, e1, e2⟩ := box3_set s0.1 s0.2.1 s0.2.2.1 (.int .i64 y0) (.int .i64 y1) (.slice qx y2 cx)
        obtain ⟨z0, z1, z2, z3⟩ := HY.out
        refine ⟨⟨by rw [← z0]; exact e0, by rw [← z1]; exact e1, by rw [← z2]; exact e2, fun i => by rw [World.frozen?_setCell, World.frozen?_setCell, World.frozen?_setCell]; exact s0.2.2.2 i⟩, ((s1.setCell (a := ⟨_, _, none⟩) (by simp) _).setCell (a := ⟨_, _, none⟩) (by simp) _).setCell (a := ⟨_, _, none⟩) (by simp) _, z3, ((s3.setCell (p := ⟨_, _, none⟩) (Nat.le_refl _) _).setCell (p := ⟨_, _, none⟩) (Nat.le_refl _) _).setCell (p := ⟨_, _, none⟩) (Nat.le_refl _) _, by simpa using s4⟩
      have HRE : Hid (varB xs j = false → (WdC xs (xs.getD j Cel.none) ∧ drf xs (xs.getD j Cel.none) = drf xs c) ∧ rkW xs (xs.getD j Cel.none) < rkW xs c') := fun hv => by
        have ho : onB xs c' = true := by simp [onB, HJ.out.1, HJ.out.2, hv]
        have hn := rk_next HG.out HW.out ho
        have hs := drf_step HG.out HW.out ho
        have e1 : c'.2.1.toNat = j := by rw [HJ.out.2]; rfl
        rw [e1] at hn hs
        exact ⟨⟨hn.2, hs.symm.trans HD.out⟩, hn.1⟩
      by_cases q0 : y0 = 0
      · by_cases q1 : y1 = j
        · have hv : varB xs j = true := by rw [HVB.out, q0, q1]; simp
          have HO : Hid (onB xs c' = false) := by show _ = _; simp [onB, HJ.out.1, HJ.out.2, hv]
          have e0 : (y0 == 0) = true := by simp [q0]
          have e1 : (y1 == (j : Int)) = true := by simp [q1]
          clear q0 q1 hv HNX HRE
          go_wp2
          obtain ⟨⟨e0, e1, e2⟩, hfin⟩ := HEND.out wA c' q cq HSA.out.1 HD.out HO.out (.int .i64 0) (.int .i64 j) (.slice q m2 cq) (by rw [HJ.out.1]) (by rw [HJ.out.2]) (by rw [HM2.out])
          exact bodyPost_ret (v := .agg #[.int .i64 0, .int .i64 j, .slice q m2 cq]) (by simp [results, Try.results39, go_sem, e0, e1, e2]) rfl hfin
        · have hv : varB xs j = false := by rw [HVB.out]; simp [q1]
          have HR : Hid _ := HRE.out hv
          have e0 : (y0 == 0) = true := by simp [q0]
          have e1 : (y1 == (j : Int)) = false := by simp [q1]
          clear q0 q1 hv HRE
          go_wp2
          go_roundw
          case rel => exact ⟨xs.getD j Cel.none, qx, cx, HR.out.1.1, HR.out.1.2, HNX⟩
          case measure => rw [HM.out, rkB_box HNX.out.1]; exact HR.out.2
      · have hv : varB xs j = false := by rw [HVB.out]; simp [q0]
        have HR : Hid _ := HRE.out hv
        have e0 : (y0 == 0) = false := by simp [q0]
        clear q0 hv HRE
        go_wp2
        go_roundw
        case rel => exact ⟨xs.getD j Cel.none, qx, cx, HR.out.1.1, HR.out.1.2, HNX⟩
        case measure => rw [HM.out, rkB_box HNX.out.1]; exact HR.out.2
    · have HO : Hid (onB xs c' = false) := by show _ = _; simp [onB, k0]
      have k0' : (c'.1 == 0) = false := by simp [k0]
      go_wp2
      obtain ⟨⟨e0, e1, e2⟩, hfin⟩ := HEND.out wr c' q cq HS.out HD.out HO.out _ _ _ rfl rfl rfl
      exact bodyPost_ret (v := .agg #[.int .i64 c'.1, .int .i64 c'.2.1, .slice q c'.2.2.length cq]) (by simp [results, Try.results39, go_sem, e0, e1, e2]) rfl hfin

end Go.Proofs.Ytfnmoaiejpkocaa

