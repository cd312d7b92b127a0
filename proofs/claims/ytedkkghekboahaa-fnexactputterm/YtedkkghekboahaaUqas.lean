/- Texts of SpR, SoI, SoJ. Own work of the verifier. -/
import Derived.Test.YtedkkghekboahaaUqai
import Derived.Test.YtedkkghekboahaaUqao
import Derived.Test.YtedkkghekboahaaUqad
import Derived.Deep.RegionLaw
import Derived.Test.YtedkkghekboahaaUqar
import Derived.Test.YtedkkghekboahaaUqap
import Derived.Test.YtedkkghekboahaaUqaf
import Derived.Test.YtedkkghekboahaaUqam
import Derived.Test.YtedkkghekboahaaUqaq
namespace Go.Proofs.Ytedkkghekboahaa
open Go Go.RowKit Go.Maps
set_option linter.unusedVariables false

/-- append as one step of a region that draws, its run known. -/
theorem step_app_run {P : Program} {ops : Array Oper} {o : Oper} {a : Act} {K : Act → World → Prop} {Q : Exit → Act → World → Prop} {E : Prop} (hgd : o.guard = none) (s x : Operand) (t u : TypeId)
    (ho : o.op = .call { callee := .builtin .append, args := #[s, x], argTypes := #[t, u] }) (v y r : Value) (w w' : World) (hs : a.eval s = v) (hx : a.eval x = y)
    (hr : (Builtin.append_ #[t, u] o.type #[v, y]).run P w = .ok r w') (h : K (a.put o.dst r) w') : if Region.wanted o (yielded ops a.tmps) = true then Oper.wp P o a w K Q else E := by
  have hw : Region.wanted o (yielded ops a.tmps) = true := by simp [Region.wanted, hgd]
  rw [if_pos hw]
  unfold Oper.wp execOp
  simp only [ho, resolve, invoke, builtin, Sem.run_bind, Sem.run_pure, Result.andThen_ok, List.map_toArray, List.map_cons, List.map_nil, hs, hx, hr]
  exact h
theorem infoCelM : (Try.prog.info? 31).map (fun i => (i.zero, i.size, i.bytes)) = some (some (.agg #[.int .i64 0, .int .i64 0, .slice none 0 0]), 3, 40) := by kernel_rfl
/-- A row of a slice is this cell; its text lies in W0. -/
def RFit (W0 : World) (r : RC) (c : Cel) : Prop := r.1 = c.1 ∧ r.2.1 = c.2.1 ∧ r.2.2.2.1 = c.2.2.length ∧ BIn W0 r.2.2.1 c.2.2
theorem RFit.below {W W' : World} {r : RC} {c : Cel} (h : RFit W r c) (hb : Below W.heap.size W W') : RFit W' r c := ⟨h.1, h.2.1, h.2.2.1, h.2.2.2.below hb⟩
theorem rows_of {w : World} {b : Nat} : ∀ (xs : List Cel) (o : Nat), (∀ i, i < xs.length → CAt w b (o + i * 3) (xs.getD i Cel.none)) → ∃ rs : List RC, rs.length = xs.length ∧ (∀ i, i < xs.length → RFit w (rs.getD i RC.zero) (xs.getD i Cel.none)) ∧ ∀ j u, (flat rs)[j]? = some u → w.cell? ⟨b, o + j, none⟩ = some u
  | [], o, _ => ⟨[], rfl, fun i h => absurd h (Nat.not_lt_zero _), fun j u h => by simp [flat] at h⟩
  | c :: r, o, h => by
    obtain ⟨rs, hl, hf, hc⟩ := rows_of r (o + 3) (fun i hi => by
      have := h (i + 1) (by simpa using hi)
      rw [List.getD_cons_succ, show o + (i + 1) * 3 = o + 3 + i * 3 by omega] at this
      exact this)
    obtain ⟨p, cap, h0, h1, h2, h3⟩ := h 0 (by simp)
    simp only [List.getD_cons_zero, Nat.zero_mul, Nat.add_zero] at h0 h1 h2 h3
    refine ⟨(c.1, c.2.1, p, c.2.2.length, cap) :: rs, by simp [hl], fun i hi => ?_, fun j u hj => ?_⟩
    · cases i with
      | zero => exact ⟨rfl, rfl, rfl, h3⟩
      | succ i => exact hf i (by simpa using hi)
    · rw [flat_cons] at hj
      match j, hj with
      | 0, hj => rw [Nat.add_zero, h0]; simpa using hj
      | 1, hj => rw [h1]; simpa using hj
      | 2, hj => rw [h2]; simpa using hj
      | j + 3, hj =>
        rw [show o + (j + 3) = o + 3 + j by omega]
        exact hc j u (by simpa using hj)
/-- A row of cells of the call's own (from the end of W0 on), whose texts lie in W0. -/
def RowC (W0 w : World) (p : Option Addr) (n c : Nat) (xs : List Cel) : Prop :=
  n = xs.length ∧ ∃ rs : List RC, rs.length = xs.length ∧ w.ownsRow W0.heap.size 31 3 (.slice p n c) n (flat rs) ∧ ∀ i, i < xs.length → RFit W0 (rs.getD i RC.zero) (xs.getD i Cel.none)
theorem RowC.below {W0 w w' : World} {p : Option Addr} {n c : Nat} {xs : List Cel} (h : RowC W0 w p n c xs) (hb : Below w.heap.size w w') : RowC W0 w' p n c xs := by
  obtain ⟨hn, rs, hl, hr, hf⟩ := h
  exact ⟨hn, rs, hl, row_below hr hb, hf⟩
/-- The cells of a row, as they lie. -/
theorem RowC.at {W0 w : World} {p : Option Addr} {n c : Nat} {xs : List Cel} (h : RowC W0 w p n c xs) (i : Nat) (hi : i < xs.length) : ∃ g q cq, p = some ⟨g, 0, none⟩ ∧ W0.heap.size ≤ g ∧ g < w.heap.size ∧ w.cell? ⟨g, i * 3, none⟩ = some (.int .i64 (xs.getD i Cel.none).1) ∧ w.cell? ⟨g, i * 3 + 1, none⟩ = some (.int .i64 (xs.getD i Cel.none).2.1) ∧ w.cell? ⟨g, i * 3 + 2, none⟩ = some (.slice q (xs.getD i Cel.none).2.2.length cq) ∧ BIn W0 q (xs.getD i Cel.none).2.2 := by
  obtain ⟨hn, rs, hl, hr, hf⟩ := h
  obtain ⟨g, cap, hv, hb, hg⟩ := hr.form (by omega)
  simp only [Value.slice.injEq, true_and] at hv
  obtain ⟨rfl, rfl⟩ := hv
  obtain ⟨a0, a1, a2⟩ := flat_at rs i (by omega)
  obtain ⟨f0, f1, f2, f3⟩ := hf i hi
  have d0 := (hr.cellAt (i * 3) (by omega)).trans a0
  have d1 := (hr.cellAt (i * 3 + 1) (by omega)).trans a1
  have d2 := (hr.cellAt (i * 3 + 2) (by omega)).trans a2
  rw [f0] at d0; rw [f1] at d1; rw [f2] at d2
  exact ⟨g, _, _, rfl, hb, hg, d0, d1, d2, f3⟩
theorem flat_oneM (rs : List RC) : ∀ u ∈ flat rs, u.oneCell' = true := fun u hu => by
  simp only [flat, List.mem_flatMap] at hu
  obtain ⟨r, _, hr⟩ := hu
  simp [rcV] at hr
  rcases hr with rfl | rfl | rfl <;> rfl
/-- Cells put onto an empty row. -/
theorem app_nilC (w : World) (ty : TypeId) (q : Option Addr) (c : Nat) (xs : List Cel) (hl : xs.length ≤ 20000) (hin : CIn w q xs) (W0 : World) (hW : Below W0.heap.size W0 w) (hin0 : CIn W0 q xs) :
    ∃ pt ct w1, (Builtin.append_ #[34, 34] ty #[.slice none 0 0, .slice q xs.length c]).run Try.prog w = .ok (.slice pt xs.length ct) w1 ∧ Below w.heap.size w w1 ∧ RowC W0 w1 pt xs.length ct xs ∧ (∀ k, Value.ownBlock (.slice pt xs.length ct) = some k → w.heap.size ≤ k) := by
  obtain ⟨i0, hi, hz0, hz1, hz2⟩ := info_parts infoCelM
  by_cases hn : 0 < xs.length
  · obtain ⟨g, o, rfl, hc⟩ := hin0 hn
    obtain ⟨rs, hrl, hrf, hrc⟩ := rows_of xs o hc
    obtain ⟨g', cap, w', hr, h2, h3, _, _⟩ := run_append_lies (P := Try.prog) w 34 ty w.heap.size 31 i0 (.agg #[.int .i64 0, .int .i64 0, .slice none 0 0]) 3 40 Try.underlying34 hi hz0 hz1 hz2 rfl (by decide) (.slice none 0 0) 0 [] (World.ownsRow_nil _ _ _ _) ⟨g, o, none⟩ xs.length c (flat rs) (by rw [flat_len]; omega)
      (fun j u hj => by
        rw [show (⟨g, o, none⟩ : Addr).add j = ⟨g, o + j, none⟩ from WideShapes.add_plain _ _ _]
        have := hrc j u hj
        exact (hW.cell (World.block_lt_of_cell? _ _ this)).trans this) (flat_oneM rs) hn (by unfold maxLen; omega) (by omega) (Nat.le_refl _) _ rfl
    simp only [Nat.zero_add, List.nil_append] at hr h2
    exact ⟨_, _, w', hr, (Below.refl _ _).grown h3 (Nat.le_refl _) (fun k hk => by cases hk), ⟨rfl, rs, hrl, ownsRow_down h2 hW.size, hrf⟩, fun k hk => (h2.lt k hk).1⟩
  · obtain rfl : xs = [] := by cases xs with | nil => rfl | cons a r => simp at hn
    have hs : Src Try.prog i0.size 34 (.slice q 0 c) 0 [] w := by
      cases q with
      | none => exact Src.ofNil w Try.underlying34 c
      | some ad => exact Src.ofSlice w Try.underlying34 ad 0 c [] (by simp) (fun j u h => by simp at h) (fun u h => by cases h)
    exact ⟨none, 0, w, run_append_nothing w 34 34 ty 31 i0 Try.underlying34 hi none 0 0 (Nat.le_refl _) _ hs, Below.refl _ _, ⟨rfl, [], rfl, World.ownsRow_nil _ _ _ _, fun i h => absurd h (Nat.not_lt_zero _)⟩, fun k hk => by cases hk⟩
/-- Numbers put onto an empty row. -/
theorem app_nilI (w : World) (ty : TypeId) (B : Nat) (q : Option Addr) (c : Nat) (ys : List Int) (hB : B ≤ w.heap.size) (hl : ys.length ≤ 20000) (hin : IIn w q ys) :
    ∃ pt ct w1, (Builtin.append_ #[23, 23] ty #[.slice none 0 0, .slice q ys.length c]).run Try.prog w = .ok (.slice pt ys.length ct) w1 ∧ Below w.heap.size w w1 ∧ OwnI w1 B 3 pt ys.length ct ys ∧ (∀ k, Value.ownBlock (.slice pt ys.length ct) = some k → w.heap.size ≤ k) := by
  obtain ⟨i0, hi, hz0, hz1, hz2⟩ := info_parts infoInt
  by_cases hn : 0 < ys.length
  · obtain ⟨g, o, rfl, hc⟩ := hin hn
    obtain ⟨g', cap, w', hr, h2, h3, _, _⟩ := run_append_lies (P := Try.prog) w 23 ty w.heap.size 3 i0 (.int .i64 0) 1 8 Try.underlying23 hi hz0 hz1 hz2 rfl (by decide) (.slice none 0 0) 0 [] (World.ownsRow_nil _ _ _ _) ⟨g, o, none⟩ ys.length c (ys.map (Value.int .i64)) (by simp)
      (fun j u hj => by
        simp only [List.getElem?_map] at hj
        cases hy : ys[j]? with
        | none => rw [hy] at hj; cases hj
        | some y =>
          rw [hy] at hj
          have hlt : j < ys.length := (List.getElem?_eq_some_iff.1 hy).1
          have := hc j hlt
          rw [show (⟨g, o, none⟩ : Addr).add j = ⟨g, o + j, none⟩ from WideShapes.add_plain _ _ _, this]
          simp [List.getD, hy] at hj ⊢
          exact hj) (ints_oneCell .i64 ys) hn (by unfold maxLen; omega) (by omega) (Nat.le_refl _) _ rfl
    simp only [Nat.zero_add, List.nil_append] at hr h2
    exact ⟨_, _, w', hr, (Below.refl _ _).grown h3 (Nat.le_refl _) (fun k hk => by cases hk), ⟨rfl, ownsRow_down h2 hB⟩, fun k hk => (h2.lt k hk).1⟩
  · obtain rfl : ys = [] := by cases ys with | nil => rfl | cons a r => simp at hn
    have hs : Src Try.prog i0.size 23 (.slice q 0 c) 0 [] w := by
      cases q with
      | none => exact Src.ofNil w Try.underlying23 c
      | some ad => exact Src.ofSlice w Try.underlying23 ad 0 c [] (by simp) (fun j u h => by simp at h) (fun u h => by cases h)
    exact ⟨none, 0, w, run_append_nothing w 23 23 ty 3 i0 Try.underlying23 hi none 0 0 (Nat.le_refl _) _ hs, Below.refl _ _, OwnI.nil _ _ _, fun k hk => by cases hk⟩

/-- Block h is the model's heap with these cells, this trail and this number of pairs; texts lie in W0. -/
def SHp (W0 w : World) (h : Nat) (xs : List Cel) (tr : List Int) (k : Int) : Prop :=
  ∃ pc cc pt ct, w.heap[h]? = some (.cells #[.slice pc xs.length cc, .slice pt tr.length ct, .int .i64 k] 118) ∧ RowC W0 w pc xs.length cc xs ∧ OwnI w W0.heap.size 3 pt tr.length ct tr ∧ W0.heap.size ≤ h ∧ Below W0.heap.size W0 w
theorem SHp.below {W0 w w' : World} {h : Nat} {xs : List Cel} {tr : List Int} {k : Int} (H : SHp W0 w h xs tr k) (hb : Below w.heap.size w w') : SHp W0 w' h xs tr k := by
  obtain ⟨pc, cc, pt, ct, h0, h1, h2, h3, h4⟩ := H
  exact ⟨pc, cc, pt, ct, (hb.block h (Array.getElem?_eq_some_iff.1 h0).1).trans h0, h1.below hb, h2.below hb, h3, Below.on h4 hb⟩

set_option maxHeartbeats 1000000 in
set_option maxRecDepth 100000 in
theorem l10open_any (p q : Option Addr) (c1 c2 : Nat) (xs : List Cel) (tr : List Int) (w : World) (hx : xs.length ≤ 20000) (hy : tr.length ≤ 20000) (hc : CIn w p xs) (hi : IIn w q tr) :
    Calls Try.prog 40 #[.agg #[.slice p xs.length c1, .slice q tr.length c2]] w fun e w' => ∃ h, e = .returned (.pointer (some ⟨h, 0, none⟩)) ∧ SHp w w' h xs tr 0 ∧ Below w.heap.size w w' := by
  obtain ⟨W1, eW1⟩ : ∃ W1, W1 = ((w.alloc (.cells #[.slice p xs.length c1, .slice q tr.length c2] 36)).alloc (.cells #[.slice none 0 0, .slice none 0 0, .int .i64 0] 118)).drew := ⟨_, rfl⟩
  have hb1 : Below w.heap.size w W1 := by rw [eW1]; exact (((Below.refl _ _).alloc (Nat.le_refl _) _).alloc (by simp) _).drew
  obtain ⟨pc, cc, w2, hr1, hb2, hrow, hfr⟩ := app_nilC W1 34 p c1 xs hx (hc.below hb1) w hb1 hc
  have k0 : W1.heap[w.heap.size]? = some (.cells #[.slice p xs.length c1, .slice q tr.length c2] 36) := by
    rw [eW1]; show ((w.alloc _).alloc _).heap[w.heap.size]? = _; rw [Below.heap_alloc _ _ _ (by simp)]; exact heap_alloc_new _ _
  have k1 : W1.heap[w.heap.size + 1]? = some (.cells #[.slice none 0 0, .slice none 0 0, .int .i64 0] 118) := by
    rw [eW1]
    show ((w.alloc _).alloc _).heap[w.heap.size + 1]? = _
    have := heap_alloc_new (w.alloc (.cells #[.slice p xs.length c1, .slice q tr.length c2] 36)) (.cells #[.slice none 0 0, .slice none 0 0, .int .i64 0] 118)
    simpa using this
  have hz1 : W1.heap.size = w.heap.size + 1 + 1 := by rw [eW1]; simp
  have j0 := (hb2.block w.heap.size (by omega)).trans k0
  have j1 := (hb2.block (w.heap.size + 1) (by omega)).trans k1
  obtain ⟨V2, eV2⟩ : ∃ V2, V2 = (w2.setCell ⟨w.heap.size + 1, 0, none⟩ (.slice pc xs.length cc)).drew := ⟨_, rfl⟩
  have hs2 : w.heap.size + 1 + 1 ≤ w2.heap.size := by have := hb2.size; omega
  have hbV : Below w.heap.size w V2 := by rw [eV2]; exact ((Below.on hb1 hb2).setCell (p := ⟨_, _, none⟩) (by simp) _).drew
  have m1 : V2.heap[w.heap.size + 1]? = some (.cells #[.slice pc xs.length cc, .slice none 0 0, .int .i64 0] 118) := by
    rw [eV2]; show (w2.setCell _ _).heap[w.heap.size + 1]? = _; rw [heap_setCell_same _ _ _ _ _ _ j1]; rfl
  have m0 : V2.heap[w.heap.size]? = some (.cells #[.slice p xs.length c1, .slice q tr.length c2] 36) := by
    rw [eV2]; show (w2.setCell _ _).heap[w.heap.size]? = _; rw [heap_setCell_other _ _ _ _ (by simp)]; exact j0
  have hrow2 : RowC w V2 pc xs.length cc xs := by
    obtain ⟨hn, rs, hl, hr, hf⟩ := hrow
    refine ⟨hn, rs, hl, ?_, hf⟩
    rw [eV2]
    exact ownsRow_setCell_other hr (fun e => by have := hfr _ e; simp at this; omega) _
  obtain ⟨pt, ct, w3, hr2, hb3, hint, hfr3⟩ := app_nilI V2 23 w.heap.size q c2 tr hbV.size hy (hi.below hbV)
  have n1 := (hb3.block (w.heap.size + 1) (by have : V2.heap.size = w2.heap.size := by { rw [eV2]; simp }; omega)).trans m1
  have HFIN : Hid (SHp w (w3.setCell ⟨w.heap.size + 1, 1, none⟩ (.slice pt tr.length ct)) (w.heap.size + 1) xs tr 0 ∧ Below w.heap.size w (w3.setCell ⟨w.heap.size + 1, 1, none⟩ (.slice pt tr.length ct))) := by
    have hB : Below w.heap.size w (w3.setCell ⟨w.heap.size + 1, 1, none⟩ (.slice pt tr.length ct)) := (Below.on hbV hb3).setCell (p := ⟨_, _, none⟩) (by simp) _
    have hV2 : V2.heap.size = w2.heap.size := by rw [eV2]; simp
    refine ⟨⟨pc, cc, pt, ct, ?_, ?_, ⟨hint.1, ownsRow_setCell_other hint.2 (fun e => by have := hfr3 _ e; simp at this; omega) _⟩, by omega, hB⟩, hB⟩
    · rw [heap_setCell_same _ _ _ _ _ _ n1]; rfl
    · obtain ⟨hn, rs, hl, hr, hf⟩ := hrow2.below hb3
      refine ⟨hn, rs, hl, ownsRow_setCell_other hr (fun e => ?_) _, hf⟩
      have := hfr _ e
      simp at this; omega
  have a0 : W1.cell? ⟨w.heap.size, 0, none⟩ = some (.slice p xs.length c1) := by simp [World.cell?, k0]
  have a1 : W1.cell? ⟨w.heap.size + 1, 0, none⟩ = some (.slice none 0 0) := by simp [World.cell?, k1]
  have f1 : w2.frozen? ⟨w.heap.size + 1, 0, none⟩ = false := frozen_of_row _ _ _ _ _ j1
  have g1 : w2.cell? ⟨w.heap.size + 1, 0, none⟩ = some (.slice none 0 0) := by simp [World.cell?, j1]
  have b0 : V2.cell? ⟨w.heap.size, 1, none⟩ = some (.slice q tr.length c2) := by simp [World.cell?, m0]
  have b1 : V2.cell? ⟨w.heap.size + 1, 1, none⟩ = some (.slice none 0 0) := by simp [World.cell?, m1]
  have g2 : w3.cell? ⟨w.heap.size + 1, 1, none⟩ = some (.slice none 0 0) := by simp [World.cell?, n1]
  have f2 : w3.frozen? ⟨w.heap.size + 1, 1, none⟩ = false := frozen_of_row _ _ _ _ _ n1
  have hbd : ∀ W, (Instr.build 118 #[]).run Try.prog W = .ok (.agg #[.slice none 0 0, .slice none 0 0, .int .i64 0]) W := fun W => run_build W 118 _ _ (by kernel_rfl)
  rw [eW1] at hr1 a0 a1
  rw [eV2] at hr2 b0 b1
  clear hb1 hb2 hrow hfr k0 k1 hz1 j0 j1 hs2 hbV m1 m0 hrow2 hb3 hint hfr3 n1 hc hi eW1 eV2
  go_enter Try.func40, Try.ntmps40
  go_wp2
  go_region_law (refine step_app_run rfl _ _ _ _ rfl _ _ _ _ _ rfl rfl hr1 ?_)
  all_goals go_wp2
  all_goals go_region_law (refine step_app_run rfl _ _ _ _ rfl _ _ _ _ _ rfl rfl hr2 ?_)
  all_goals go_wp2
  all_goals go_ret
  all_goals exact ⟨_, rfl, HFIN.out⟩

end Go.Proofs.Ytedkkghekboahaa

namespace Go.Proofs.Ytedkkghekboahaa
open Go Go.RowKit Go.Maps
set_option linter.unusedVariables false

theorem news_ints {w : World} {b o : Nat} {ys : List Int} (hc : ∀ i, i < ys.length → w.cell? ⟨b, o + i, none⟩ = some (.int .i64 (ys.getD i 0))) : ∀ j u, (ys.map (Value.int .i64))[j]? = some u → w.cell? ((⟨b, o, none⟩ : Addr).add j) = some u := fun j u hj => by
  simp only [List.getElem?_map] at hj
  cases hy : ys[j]? with
  | none => rw [hy] at hj; cases hj
  | some y =>
    rw [hy] at hj
    have hlt : j < ys.length := (List.getElem?_eq_some_iff.1 hy).1
    have := hc j hlt
    rw [show (⟨b, o, none⟩ : Addr).add j = ⟨b, o + j, none⟩ from WideShapes.add_plain _ _ _, this]
    simp [List.getD, hy] at hj ⊢
    exact hj
set_option maxRecDepth 100000 in
theorem cloneI_any (q : Option Addr) (c : Nat) (ys : List Int) (w : World) (hl : ys.length ≤ 20000) (hin : IIn w q ys) :
    Calls Try.prog 86 #[.slice q ys.length c] w fun e w' => ∃ q' c', e = .returned (.slice q' ys.length c') ∧ OwnI w' w.heap.size 3 q' ys.length c' ys ∧ Below w.heap.size w w' := by
  have hnil : ∀ (w : World) (a : Option Addr) (n c n' c' : Nat), (binOp .eql 90 (.slice a n c) (.slice none n' c')).run Try.prog w = .ok (.bool a.isNone) w := fun w a n c n' c' => Lib.run_eql_slice_nil w _ _ a n c n' c' Try.underlying90
  cases q with
  | none =>
    obtain rfl : ys = [] := by
      cases ys with
      | nil => rfl
      | cons a r => obtain ⟨b, o, e, _⟩ := hin (by simp); cases e
    clear hin
    go_enter Try.func86, Try.ntmps86
    go_wp2
    go_ret
    exact ⟨none, 0, by simp, OwnI.nil _ _ _, Below.refl _ _⟩
  | some ad =>
    obtain ⟨i0, hi, hz0, hz1, hz2⟩ := info_parts infoInt
    have hb0 := (Below.refl w.heap.size w).alloc (Nat.le_refl _) (.cells #[] 3)
    have hown0 : (w.alloc (.cells #[] 3)).ownsRow w.heap.size 3 1 (.slice (some ⟨w.heap.size, 0, none⟩) 0 0) 0 [] := World.ownsRow_lit w #[] 0 (Nat.le_refl _) (Nat.zero_le _) rfl
    have HR : ∃ q' c' w', (Builtin.append_ #[90, 90] 90 #[.slice (some ⟨w.heap.size, 0, none⟩) 0 0, .slice (some ad) ys.length c]).run Try.prog (w.alloc (.cells #[] 3)) = .ok (.slice q' ys.length c') w' ∧ OwnI w' w.heap.size 3 q' ys.length c' ys ∧ Below w.heap.size w w' := by
      by_cases hn : 0 < ys.length
      · obtain ⟨g, o, e, hc⟩ := (hin.below hb0) hn
        obtain rfl := Option.some.inj e
        obtain ⟨g', cap, w', hr, h2, h3, _, _⟩ := run_append_lies (P := Try.prog) _ 90 90 w.heap.size 3 i0 (.int .i64 0) 1 8 Try.underlying90 hi hz0 hz1 hz2 rfl (by decide) (.slice (some ⟨w.heap.size, 0, none⟩) 0 0) 0 [] hown0 ⟨g, o, none⟩ ys.length c (ys.map (Value.int .i64)) (by simp) (news_ints hc) (ints_oneCell .i64 ys) hn (by unfold maxLen; omega) (by omega) (by simp) _ rfl
        simp only [Nat.zero_add, List.nil_append] at hr h2
        exact ⟨_, _, w', hr, ⟨rfl, h2⟩, hb0.grown h3 (by simp) (fun k hk => by simp [Value.ownBlock] at hk; omega)⟩
      · obtain rfl : ys = [] := by cases ys with | nil => rfl | cons a r => simp at hn
        have hs : Src Try.prog i0.size 90 (.slice (some ad) 0 c) 0 [] (w.alloc (.cells #[] 3)) := Src.ofSlice _ Try.underlying90 ad 0 c [] (by simp) (fun j u h => by simp at h) (fun u h => by cases h)
        exact ⟨some ⟨w.heap.size, 0, none⟩, 0, _, run_append_nothing _ 90 90 90 3 i0 Try.underlying90 hi (some ⟨w.heap.size, 0, none⟩) 0 0 (Nat.le_refl _) _ hs, ⟨rfl, hown0⟩, hb0⟩
    obtain ⟨q', c', w', hr, ho, hb⟩ := HR
    have HO : Hid (OwnI w' w.heap.size 3 q' ys.length c' ys ∧ Below w.heap.size w w') := ⟨ho, hb⟩
    clear hin hb0 hown0 ho hb
    go_enter Try.func86, Try.ntmps86
    go_wp2_with (at_builtin; refine wpList_app_run rfl _ _ _ _ rfl _ _ _ _ _ rfl rfl hr ?_)
    go_ret
    exact ⟨_, _, rfl, HO.out.1, HO.out.2⟩

/-- What a word is as a cell. -/
def CellOut (c : Cel) (W : World) (e : Ending) (w' : World) : Prop := ∃ p m cp, e = .returned (.agg #[.int .i64 c.1, .int .i64 c.2.1, .slice p m cp]) ∧ OwnT w' W.heap.size p m cp c.2.2 ∧ Below W.heap.size W w'
set_option maxRecDepth 100000 in
theorem funCell_any (n : Int) (t : List Int) (w : World) (hx : Byte t) : Calls Try.prog 143 #[.agg #[.string (strOfNums t), .int .i64 n]] w (CellOut (3, n, t) w) := by
  obtain ⟨W0, eW0⟩ : ∃ W0, W0 = (w.alloc (.cells #[.string (strOfNums t), .int .i64 n] 131)).alloc (.cells #[.int .i64 0, .int .i64 0, .slice none 0 0] 31) := ⟨_, rfl⟩
  have hb0 : Below w.heap.size w W0 := by rw [eW0]; exact ((Below.refl _ _).alloc (Nat.le_refl _) _).alloc (by simp) _
  have hz0 : W0.heap.size = w.heap.size + 1 + 1 := by rw [eW0]; simp
  have k0 : W0.heap[w.heap.size]? = some (.cells #[.string (strOfNums t), .int .i64 n] 131) := by
    rw [eW0, Below.heap_alloc _ _ _ (by simp)]; exact heap_alloc_new _ _
  have k1 : W0.heap[w.heap.size + 1]? = some (.cells #[.int .i64 0, .int .i64 0, .slice none 0 0] 31) := by
    rw [eW0]
    have := heap_alloc_new (w.alloc (.cells #[.string (strOfNums t), .int .i64 n] 131)) (.cells #[.int .i64 0, .int .i64 0, .slice none 0 0] 31)
    simpa using this
  obtain ⟨w1, cap, hcv, hb1, ho1⟩ := conv_bytes W0 t hx 9 Try.underlying9
  have j1 := (hb1.block (w.heap.size + 1) (by omega)).trans k1
  obtain ⟨c0, c1, c2, f1⟩ := Box3.of_block j1
  have HD : Hid _ := box3_set c0 c1 c2 (.int .i64 3) (.int .i64 n) (.slice (some ⟨w.heap.size + 1 + 1, 0, none⟩) t.length cap)
  rw [hz0] at hcv ho1
  have HO : Hid (OwnT w1 (w.heap.size + 1 + 1) (some ⟨w.heap.size + 1 + 1, 0, none⟩) t.length cap t) := ho1
  have HB : Hid (Below w.heap.size w w1) := Below.on hb0 hb1
  have s0 : W0.cell? ⟨w.heap.size, 0, none⟩ = some (.string (strOfNums t)) := by simp [World.cell?, k0]
  have s1 : W0.cell? ⟨w.heap.size, 1, none⟩ = some (.int .i64 n) := by simp [World.cell?, k0]
  rw [eW0] at s0 s1 hcv
  clear hx hb0 hz0 k0 k1 hb1 ho1 j1 eW0
  go_enter Try.func143, Try.ntmps143
  go_wp2
  obtain ⟨d0, d1, d2⟩ := HD.out
  refine bodyPost_ret (v := .agg #[.int .i64 3, .int .i64 n, .slice (some ⟨w.heap.size + 1 + 1, 0, none⟩) t.length cap]) (by simp [results, Try.results143, go_sem, d0, d1, d2]) rfl ⟨_, _, _, rfl, ?_, ?_⟩
  · exact (((HO.out.setCell (a := ⟨w.heap.size + 1, 0, none⟩) (fun _ => by simp) _).setCell (a := ⟨w.heap.size + 1, 1, none⟩) (fun _ => by simp) _).setCell (a := ⟨w.heap.size + 1, 2, none⟩) (fun _ => by simp) _).mono (by omega)
  · exact ((HB.out.setCell (p := ⟨_, _, none⟩) (by simp) _).setCell (p := ⟨_, _, none⟩) (by simp) _).setCell (p := ⟨_, _, none⟩) (by simp) _
theorem CellOut.of {c : Cel} {W : World} {e : Ending} {w' : World} (h : e = .returned (.agg #[.int .i64 c.1, .int .i64 c.2.1, .slice none 0 0]) ∧ Below W.heap.size W w') (ht : c.2.2 = []) : CellOut c W e w' := ⟨none, 0, 0, h.1, by rw [ht]; exact ⟨rfl, fun h => absurd h (Nat.lt_irrefl 0)⟩, h.2⟩

/-- The store that is being filled: its box, its cells, its trail. -/
def SFill (w0 w : World) (bs : Nat) (cs : List Cel) (tr : List Int) (pt : Option Addr) (ct : Nat) : Prop :=
  ∃ pc cc, (w.cell? ⟨bs, 0, none⟩ = some (.slice pc cs.length cc) ∧ w.cell? ⟨bs, 1, none⟩ = some (.slice pt tr.length ct)) ∧ (∀ j, w.frozen? ⟨bs, j, none⟩ = false) ∧ OwnC w (bs + 1) pc cs.length cc cs ∧ OwnIU w w0.heap.size bs pt tr.length ct tr ∧ Below w0.heap.size w0 w ∧ w0.heap.size ≤ bs

end Go.Proofs.Ytedkkghekboahaa

namespace Go.Proofs.Ytedkkghekboahaa
open Go Go.RowKit Go.Maps
set_option linter.unusedVariables false

/-- What store answers: its trail lies ahead of M, its cells behind. -/
def StoreOut (xs : List Cel) (tr : List Int) (w : World) (e : Ending) (w' : World) : Prop :=
  ∃ p q c1 c2 M, e = .returned (.agg #[.slice p xs.length c1, .slice q tr.length c2]) ∧ OwnIU w' w.heap.size M q tr.length c2 tr ∧ OwnCU w' M w'.heap.size p xs.length c1 xs ∧ w.heap.size ≤ M ∧ M ≤ w'.heap.size ∧ Below w.heap.size w w'
theorem take_cel (xs : List Cel) (k : Nat) (h : k < xs.length) : xs.take (k + 1) = xs.take k ++ [xs.getD k Cel.none] := by
  rw [List.take_succ_eq_append_getElem h, List.getD, List.getElem?_eq_getElem h]; rfl
theorem CIn_len0 (w : World) (p : Option Addr) : CIn w p [] := fun h => absurd h (Nat.lt_irrefl 0)
/-- The next cell is put. -/
theorem SFill.next {w0 wr w5 : World} {bs k : Nat} {xs : List Cel} {tr : List Int} {pt : Option Addr} {ct g n' cap : Nat} (H : SFill w0 wr bs (xs.take k) tr pt ct) (hk : k < xs.length) {wx : World} (hbx : Below wr.heap.size wr wx) (ho : OwnC w5 (bs + 1) (some ⟨g, 0, none⟩) n' cap (xs.take k ++ [xs.getD k Cel.none])) (hb : Below (bs + 1) wx w5) (hn : n' = k + 1) :
    SFill w0 (w5.setCell ⟨bs, 0, none⟩ (.slice (some ⟨g, 0, none⟩) n' cap)) bs (xs.take (k + 1)) tr pt ct := by
  obtain ⟨pc, cc, ⟨h0, h1⟩, hf, hc, hi, hB, hle⟩ := H
  have hlt := World.block_lt_of_cell? _ _ h0
  have hsz := hbx.size
  have e0 : w5.heap[bs]? = wr.heap[bs]? := (hb.block bs (Nat.lt_succ_self _)).trans (hbx.block bs hlt)
  have hB5 : Below w0.heap.size w0 w5 := (Below.on hB hbx).trans (hb.mono (by omega))
  have hlen : (xs.take (k + 1)).length = n' := by rw [hn, List.length_take]; omega
  have hg := (ho.2.choose_spec.2.1.lt g rfl).1
  have hK : Keep (bs + 1) w5.heap.size wr w5 := ⟨hb.os.trans hbx.os, hb.tape.trans hbx.tape, hb.output.trans hbx.output, Nat.le_trans hsz hb.size, fun j hj hp => by
    rcases hp with hp | hp
    · exact (hb.block j hp).trans (hbx.block j hj)
    · have := Nat.le_trans hsz hb.size; omega⟩
  refine ⟨some ⟨g, 0, none⟩, cap, ⟨?_, ?_⟩, fun j => ?_, ?_, ?_, hB5.setCell (p := ⟨bs, 0, none⟩) hle _, hle⟩
  · rw [hlen]
    exact World.cell?_setCell_same _ _ _ ((World.cell?_of_block (a := ⟨bs, 0, none⟩) e0).trans h0)
  · exact (World.cell?_setCell_other _ _ _ _ (by simp)).trans ((World.cell?_of_block (a := ⟨bs, 1, none⟩) e0).trans h1)
  · rw [World.frozen?_setCell]
    exact (World.frozen?_of_block (a := ⟨bs, j, none⟩) e0).trans (hf j)
  · rw [hlen, take_cel xs k hk]
    exact ho.set (a := ⟨bs, 0, none⟩) (by simp) _
  · have h5 := hi.keep hK (.inl (by omega))
    exact ⟨⟨h5.1.1, ownsRow_setCell_other h5.1.2 (fun e => by have := h5.2 _ e; simp at this) _⟩, h5.2⟩

set_option maxHeartbeats 4000000 in
set_option maxRecDepth 100000 in
theorem store_any (h : Nat) (xs : List Cel) (tr : List Int) (w : World) (hl : xs.length ≤ 20000) (ht : tr.length ≤ 20000) (hok : ∀ a, a < xs.length → okW (xs.getD a Cel.none).1 (xs.getD a Cel.none).2.1 (xs.getD a Cel.none).2.2.length = true) (hby : ∀ a, a < xs.length → Byte (xs.getD a Cel.none).2.2) (H : HeapAt w h xs tr) :
    Calls Try.prog 61 #[.pointer (some ⟨h, 0, none⟩)] w (StoreOut xs tr w) := by
  obtain ⟨W0, eW0⟩ : ∃ W0, W0 = w.alloc (.cells #[.slice none 0 0, .slice none 0 0] 36) := ⟨_, rfl⟩
  have hb0 : Below w.heap.size w W0 := by rw [eW0]; exact (Below.refl _ _).alloc (Nat.le_refl _) _
  have k0 : W0.heap[w.heap.size]? = some (.cells #[.slice none 0 0, .slice none 0 0] 36) := by rw [eW0]; exact heap_alloc_new _ _
  have hz0 : W0.heap.size = w.heap.size + 1 := by rw [eW0]; simp
  have HH : Hid (HeapAt W0 h xs tr) := H.below hb0
  have HOK : Hid _ := hok
  have HBY : Hid _ := hby
  obtain ⟨pw, cw, pt0, ct0, h0, h1, hw, hi⟩ := HH.out
  have HCL := cloneI_any pt0 ct0 tr W0 ht hi
  have HW : Hid (WIn W0 pw xs) := hw
  have HB0 : Hid _ := hb0
  have HZ0 : Hid _ := hz0
  have HK0 : Hid _ := k0
  have hlt0 := World.block_lt_of_cell? _ _ h0
  have HLT : Hid (h < W0.heap.size) := hlt0
  have h00 := h0
  have h01 := h1
  have HE0 : Hid _ := eW0
  have HC0 : Hid (W0.cell? ⟨h, 0, none⟩ = some (.slice pw xs.length cw)) := h0
  rw [eW0] at HCL h00 h01
  clear H hok hby hw hi hb0 hz0 k0 hlt0 h0 h1 eW0
  go_enter Try.func61, Try.ntmps61
  go_wp2_with fail
  refine HCL.mono ?_
  rintro e w1 ⟨q', c', rfl, hoi, hb1⟩
  rw [← HE0.out] at hoi hb1
  obtain ⟨oS, eoS⟩ : ∃ o : Obj, o = .cells #[.slice none 0 0, .slice q' tr.length c'] 36 := ⟨_, rfl⟩
  have HS0 : Hid (SFill W0 (w1.alloc oS) w1.heap.size (xs.take 0) tr q' c') := by
    have kk : (w1.alloc oS).heap[w1.heap.size]? = some (.cells #[.slice none 0 0, .slice q' tr.length c'] 36) := by rw [eoS]; exact heap_alloc_new _ _
    exact ⟨none, 0, ⟨(Box2.of_block kk).1, (Box2.of_block kk).2.1⟩, (Box2.of_block kk).2.2, ⟨rfl, [], rfl, World.ownsRow_nil _ _ _ _, fun i h => absurd h (Nat.not_lt_zero _), ⟨fun i h => absurd h (Nat.not_lt_zero _), fun i j h => absurd h (Nat.not_lt_zero _)⟩⟩, hoi.up.on (alloc_on _ _), Below.on hb1 (alloc_on _ _), hb1.size⟩
  have h0' := (hb1.cell (p := ⟨h, 0, none⟩) HLT.out).trans HC0.out
  have h0a : (w1.alloc oS).cell? ⟨h, 0, none⟩ = some (.slice pw xs.length cw) := ((alloc_on w1 oS).cell (World.block_lt_of_cell? _ _ h0')).trans h0'
  rw [eoS] at h0a
  have HOS : Hid _ := eoS
  clear hoi hb1 h0' HCL h00 h01 eoS
  go_wp2
  rw [← HOS.out]
  generalize w1.heap.size = bs at HS0 ⊢
  go_loopw [17] (fun i wr => ∃ k : Nat, k ≤ xs.length ∧ i = .int .i64 k ∧ Hid (SFill W0 wr bs (xs.take k) tr q' c')) (fun i _ => xs.length - (intOf i).toNat)
  case atStart => exact ⟨0, Nat.zero_le _, rfl, HS0⟩
  case round =>
    obtain ⟨k, hk, rfl, HS⟩ := hrel
    by_cases hlt : k < xs.length
    · obtain ⟨gw, rfl, hcs⟩ := HW.out (by omega)
      have hv0 := hcs k hlt
      have hv := (HS.out.choose_spec.choose_spec.2.2.2.2.1.cell (World.block_lt_of_cell? _ _ hv0)).trans hv0
      have HN : Hid (k < xs.length) := hlt
      have hok := HOK.out k hlt
      have hby := HBY.out k hlt
      have hkd := ok_knd hok
      obtain ⟨pc, cc, ⟨s0, s1⟩, hfz, hoc, _⟩ := HS.out
      have hfz0 := hfz 0
      have hbs := World.block_lt_of_cell? _ _ s0
      have HOC : Hid (OwnC wr (bs + 1) pc (xs.take k).length cc (xs.take k)) := hoc
      have hkl : (xs.take k).length = k := by rw [List.length_take]; omega
      rw [hkl] at s0 HOC
      have HNX : Hid (∀ wx w5 g n' cap, Below wr.heap.size wr wx → OwnC w5 (bs + 1) (some ⟨g, 0, none⟩) n' cap (xs.take k ++ [xs.getD k Cel.none]) → Below (bs + 1) wx w5 → n' = k + 1 → SFill W0 (w5.setCell ⟨bs, 0, none⟩ (.slice (some ⟨g, 0, none⟩) n' cap)) bs (xs.take (k + 1)) tr q' c') := fun wx w5 g n' cap a b c d => HS.out.next HN.out a b c d
      clear hv0 hcs hoc hfz hkl s1
      generalize xs.getD k Cel.none = x at hv hok hby hkd HNX
      obtain ⟨x0, x1, xt⟩ := x
      simp only at hok hby hkd
      rcases hkd with e | e | e | e | e <;> subst e
      · have e : wv (0, x1, xt) = .iface 100 (.int .i64 x1) := rfl
        rw [e] at hv
        obtain rfl : xt = [] := okW_text hok (by decide) (by decide)
        have HCE : Hid (∀ W, Calls Try.prog 135 #[.int .i64 x1] W (CellOut (0, x1, []) W)) := fun W => (refCell_any x1 _).mono fun e w' h => CellOut.of (c := (0, x1, [])) h rfl
        have hme : ∀ W, Sem.run Try.prog (method 301 100 (.int .i64 x1) "loop.example/s00095/impl.cell") W = .ok (135, .int .i64 x1) W := fun W => by kernel_rfl
        clear e hok hby
        go_wp2
        go_region_law (first
          | (go_simp; go_at_call 135; refine (HCE.out _).mono ?_; rintro e w3 ⟨p3, m3, c3, rfl, ho3, hb3⟩; have hb3' : Below wr.heap.size wr w3 := (below_drewN (Below.refl _ _) 1).trans hb3; have s0' := (hb3'.cell hbs).trans s0; have s0b : ∀ o, (w3.alloc o).cell? ⟨bs, 0, none⟩ = some (.slice pc k cc) := fun o => Lib.cell?_alloc_marked _ s0'; have HB3 : Hid (Below wr.heap.size wr w3) := hb3'; have HO3 : Hid (OwnT w3 wr.heap.size p3 m3 c3 []) := ho3; clear hb3 hb3' ho3)
          | (refine step_app_cell wr _ rfl _ _ rfl (bs + 1) pc k cc (xs.take k) rfl HOC.out (HB3.out.alloc HB3.out.size _) hbs ⟨w3.heap.size, 0, none⟩ 1 rfl 0 x1 p3 m3 c3 [] (HO3.out.below (alloc_on _ _)) (news_rc (Box3.of_block (t := 31) (heap_alloc_new _ _))) (by omega) ?_; intro g n' cap w5 hown5 hb5 hn5; have HF5 : Hid _ := HNX.out _ w5 g n' cap (HB3.out.alloc HB3.out.size _) hown5 hb5 hn5.out; have s5 : w5.cell? ⟨bs, 0, none⟩ = some (.slice pc k cc) := (hb5.cell (p := ⟨bs, 0, none⟩) (Nat.lt_succ_self _)).trans ((Lib.cell?_alloc_marked _ ((HB3.out.cell hbs).trans s0))); have f5 : w5.frozen? ⟨bs, 0, none⟩ = false := (hb5.frozen (p := ⟨bs, 0, none⟩) (Nat.lt_succ_self _)).trans (((HB3.out.alloc HB3.out.size _).frozen hbs).trans hfz0); clear hown5 hb5 hn5))
        all_goals
          clear s0b s5 f5
          go_wp2
          go_roundw
          case rel => exact ⟨k + 1, by omega, by go_num, HF5⟩
          case measure => simp [intOf]; omega
      · have e : wv (1, x1, xt) = .iface 121 (.int .i64 x1) := rfl
        rw [e] at hv
        obtain rfl : xt = [] := okW_text hok (by decide) (by decide)
        have HCE : Hid (∀ W, Calls Try.prog 138 #[.int .i64 x1] W (CellOut (1, x1, []) W)) := fun W => (numCell_any x1 _).mono fun e w' h => CellOut.of (c := (1, x1, [])) h rfl
        have hme : ∀ W, Sem.run Try.prog (method 301 121 (.int .i64 x1) "loop.example/s00095/impl.cell") W = .ok (138, .int .i64 x1) W := fun W => by kernel_rfl
        clear e hok hby
        go_wp2
        go_region_law (first
          | (go_simp; go_at_call 138; refine (HCE.out _).mono ?_; rintro e w3 ⟨p3, m3, c3, rfl, ho3, hb3⟩; have hb3' : Below wr.heap.size wr w3 := (below_drewN (Below.refl _ _) 1).trans hb3; have s0' := (hb3'.cell hbs).trans s0; have s0b : ∀ o, (w3.alloc o).cell? ⟨bs, 0, none⟩ = some (.slice pc k cc) := fun o => Lib.cell?_alloc_marked _ s0'; have HB3 : Hid (Below wr.heap.size wr w3) := hb3'; have HO3 : Hid (OwnT w3 wr.heap.size p3 m3 c3 []) := ho3; clear hb3 hb3' ho3)
          | (refine step_app_cell wr _ rfl _ _ rfl (bs + 1) pc k cc (xs.take k) rfl HOC.out (HB3.out.alloc HB3.out.size _) hbs ⟨w3.heap.size, 0, none⟩ 1 rfl 1 x1 p3 m3 c3 [] (HO3.out.below (alloc_on _ _)) (news_rc (Box3.of_block (t := 31) (heap_alloc_new _ _))) (by omega) ?_; intro g n' cap w5 hown5 hb5 hn5; have HF5 : Hid _ := HNX.out _ w5 g n' cap (HB3.out.alloc HB3.out.size _) hown5 hb5 hn5.out; have s5 : w5.cell? ⟨bs, 0, none⟩ = some (.slice pc k cc) := (hb5.cell (p := ⟨bs, 0, none⟩) (Nat.lt_succ_self _)).trans ((Lib.cell?_alloc_marked _ ((HB3.out.cell hbs).trans s0))); have f5 : w5.frozen? ⟨bs, 0, none⟩ = false := (hb5.frozen (p := ⟨bs, 0, none⟩) (Nat.lt_succ_self _)).trans (((HB3.out.alloc HB3.out.size _).frozen hbs).trans hfz0); clear hown5 hb5 hn5))
        all_goals
          clear s0b s5 f5
          go_wp2
          go_roundw
          case rel => exact ⟨k + 1, by omega, by go_num, HF5⟩
          case measure => simp [intOf]; omega
      · have e : wv (2, x1, xt) = .iface 122 (.string (strOfNums xt)) := rfl
        rw [e] at hv
        obtain rfl : x1 = 0 := by generalize xt.length = m at hok; simp only [okW, cellB] at hok; simp at hok; omega
        have HCE : Hid (∀ W, Calls Try.prog 140 #[.string (strOfNums xt)] W (CellOut (2, 0, xt) W)) := fun W => (atomCell_any xt _ hby).mono fun e w' ⟨p, c, h1, h2, h3⟩ => ⟨p, xt.length, c, h1, h2, h3⟩
        have hme : ∀ W, Sem.run Try.prog (method 301 122 (.string (strOfNums xt)) "loop.example/s00095/impl.cell") W = .ok (140, .string (strOfNums xt)) W := fun W => by kernel_rfl
        clear e hok hby
        go_wp2
        go_region_law (first
          | (go_simp; go_at_call 140; refine (HCE.out _).mono ?_; rintro e w3 ⟨p3, m3, c3, rfl, ho3, hb3⟩; have hb3' : Below wr.heap.size wr w3 := (below_drewN (Below.refl _ _) 1).trans hb3; have s0' := (hb3'.cell hbs).trans s0; have s0b : ∀ o, (w3.alloc o).cell? ⟨bs, 0, none⟩ = some (.slice pc k cc) := fun o => Lib.cell?_alloc_marked _ s0'; have HB3 : Hid (Below wr.heap.size wr w3) := hb3'; have HO3 : Hid (OwnT w3 wr.heap.size p3 m3 c3 xt) := ho3; clear hb3 hb3' ho3)
          | (refine step_app_cell wr _ rfl _ _ rfl (bs + 1) pc k cc (xs.take k) rfl HOC.out (HB3.out.alloc HB3.out.size _) hbs ⟨w3.heap.size, 0, none⟩ 1 rfl 2 0 p3 m3 c3 xt (HO3.out.below (alloc_on _ _)) (news_rc (Box3.of_block (t := 31) (heap_alloc_new _ _))) (by omega) ?_; intro g n' cap w5 hown5 hb5 hn5; have HF5 : Hid _ := HNX.out _ w5 g n' cap (HB3.out.alloc HB3.out.size _) hown5 hb5 hn5.out; have s5 : w5.cell? ⟨bs, 0, none⟩ = some (.slice pc k cc) := (hb5.cell (p := ⟨bs, 0, none⟩) (Nat.lt_succ_self _)).trans ((Lib.cell?_alloc_marked _ ((HB3.out.cell hbs).trans s0))); have f5 : w5.frozen? ⟨bs, 0, none⟩ = false := (hb5.frozen (p := ⟨bs, 0, none⟩) (Nat.lt_succ_self _)).trans (((HB3.out.alloc HB3.out.size _).frozen hbs).trans hfz0); clear hown5 hb5 hn5))
        all_goals
          clear s0b s5 f5
          go_wp2
          go_roundw
          case rel => exact ⟨k + 1, by omega, by go_num, HF5⟩
          case measure => simp [intOf]; omega
      · have e : wv (3, x1, xt) = .iface 131 (.agg #[.string (strOfNums xt), .int .i64 x1]) := rfl
        rw [e] at hv
        have HCE : Hid (∀ W, Calls Try.prog 143 #[.agg #[.string (strOfNums xt), .int .i64 x1]] W (CellOut (3, x1, xt) W)) := fun W => funCell_any x1 xt _ hby
        have hme : ∀ W, Sem.run Try.prog (method 301 131 (.agg #[.string (strOfNums xt), .int .i64 x1]) "loop.example/s00095/impl.cell") W = .ok (143, .agg #[.string (strOfNums xt), .int .i64 x1]) W := fun W => by kernel_rfl
        clear e hok hby
        go_wp2
        go_region_law (first
          | (go_simp; go_at_call 143; refine (HCE.out _).mono ?_; rintro e w3 ⟨p3, m3, c3, rfl, ho3, hb3⟩; have hb3' : Below wr.heap.size wr w3 := (below_drewN (Below.refl _ _) 1).trans hb3; have s0' := (hb3'.cell hbs).trans s0; have s0b : ∀ o, (w3.alloc o).cell? ⟨bs, 0, none⟩ = some (.slice pc k cc) := fun o => Lib.cell?_alloc_marked _ s0'; have HB3 : Hid (Below wr.heap.size wr w3) := hb3'; have HO3 : Hid (OwnT w3 wr.heap.size p3 m3 c3 xt) := ho3; clear hb3 hb3' ho3)
          | (refine step_app_cell wr _ rfl _ _ rfl (bs + 1) pc k cc (xs.take k) rfl HOC.out (HB3.out.alloc HB3.out.size _) hbs ⟨w3.heap.size, 0, none⟩ 1 rfl 3 x1 p3 m3 c3 xt (HO3.out.below (alloc_on _ _)) (news_rc (Box3.of_block (t := 31) (heap_alloc_new _ _))) (by omega) ?_; intro g n' cap w5 hown5 hb5 hn5; have HF5 : Hid _ := HNX.out _ w5 g n' cap (HB3.out.alloc HB3.out.size _) hown5 hb5 hn5.out; have s5 : w5.cell? ⟨bs, 0, none⟩ = some (.slice pc k cc) := (hb5.cell (p := ⟨bs, 0, none⟩) (Nat.lt_succ_self _)).trans ((Lib.cell?_alloc_marked _ ((HB3.out.cell hbs).trans s0))); have f5 : w5.frozen? ⟨bs, 0, none⟩ = false := (hb5.frozen (p := ⟨bs, 0, none⟩) (Nat.lt_succ_self _)).trans (((HB3.out.alloc HB3.out.size _).frozen hbs).trans hfz0); clear hown5 hb5 hn5))
        all_goals
          clear s0b s5 f5
          go_wp2
          go_roundw
          case rel => exact ⟨k + 1, by omega, by go_num, HF5⟩
          case measure => simp [intOf]; omega
      · have e : wv (4, x1, xt) = .iface 123 (.int .i64 x1) := rfl
        rw [e] at hv
        obtain rfl : xt = [] := okW_text hok (by decide) (by decide)
        have HCE : Hid (∀ W, Calls Try.prog 141 #[.int .i64 x1] W (CellOut (4, x1, []) W)) := fun W => (strCell_any x1 _).mono fun e w' h => CellOut.of (c := (4, x1, [])) h rfl
        have hme : ∀ W, Sem.run Try.prog (method 301 123 (.int .i64 x1) "loop.example/s00095/impl.cell") W = .ok (141, .int .i64 x1) W := fun W => by kernel_rfl
        clear e hok hby
        go_wp2
        go_region_law (first
          | (go_simp; go_at_call 141; refine (HCE.out _).mono ?_; rintro e w3 ⟨p3, m3, c3, rfl, ho3, hb3⟩; have hb3' : Below wr.heap.size wr w3 := (below_drewN (Below.refl _ _) 1).trans hb3; have s0' := (hb3'.cell hbs).trans s0; have s0b : ∀ o, (w3.alloc o).cell? ⟨bs, 0, none⟩ = some (.slice pc k cc) := fun o => Lib.cell?_alloc_marked _ s0'; have HB3 : Hid (Below wr.heap.size wr w3) := hb3'; have HO3 : Hid (OwnT w3 wr.heap.size p3 m3 c3 []) := ho3; clear hb3 hb3' ho3)
          | (refine step_app_cell wr _ rfl _ _ rfl (bs + 1) pc k cc (xs.take k) rfl HOC.out (HB3.out.alloc HB3.out.size _) hbs ⟨w3.heap.size, 0, none⟩ 1 rfl 4 x1 p3 m3 c3 [] (HO3.out.below (alloc_on _ _)) (news_rc (Box3.of_block (t := 31) (heap_alloc_new _ _))) (by omega) ?_; intro g n' cap w5 hown5 hb5 hn5; have HF5 : Hid _ := HNX.out _ w5 g n' cap (HB3.out.alloc HB3.out.size _) hown5 hb5 hn5.out; have s5 : w5.cell? ⟨bs, 0, none⟩ = some (.slice pc k cc) := (hb5.cell (p := ⟨bs, 0, none⟩) (Nat.lt_succ_self _)).trans ((Lib.cell?_alloc_marked _ ((HB3.out.cell hbs).trans s0))); have f5 : w5.frozen? ⟨bs, 0, none⟩ = false := (hb5.frozen (p := ⟨bs, 0, none⟩) (Nat.lt_succ_self _)).trans (((HB3.out.alloc HB3.out.size _).frozen hbs).trans hfz0); clear hown5 hb5 hn5))
        all_goals
          clear s0b s5 f5
          go_wp2
          go_roundw
          case rel => exact ⟨k + 1, by omega, by go_num, HF5⟩
          case measure => simp [intOf]; omega
    · obtain rfl : k = xs.length := by omega
      have hfill := HS.out
      rw [List.take_length] at hfill
      have HF : Hid (SFill W0 wr bs xs tr q' c') := hfill
      clear hfill
      obtain ⟨pc, cc, ⟨s0, s1⟩, hfz, hoc, hoi, hB, hle⟩ := HF.out
      have r := Box2.of_block ((hB.block w.heap.size (by have := HZ0.out; omega)).trans HK0.out)
      obtain ⟨r0, r1, r2⟩ := r
      have HR : Hid (Box2 ((wr.setCell ⟨w.heap.size, 0, none⟩ (.slice pc xs.length cc)).setCell ⟨w.heap.size, 1, none⟩ (.slice q' tr.length c')) w.heap.size (.slice pc xs.length cc) (.slice q' tr.length c')) := Box2.put ⟨r0, r1, r2⟩ _ _
      have HFI : Hid (OwnIU ((wr.setCell ⟨w.heap.size, 0, none⟩ (.slice pc xs.length cc)).setCell ⟨w.heap.size, 1, none⟩ (.slice q' tr.length c')) w.heap.size bs q' tr.length c' tr ∧ OwnCU ((wr.setCell ⟨w.heap.size, 0, none⟩ (.slice pc xs.length cc)).setCell ⟨w.heap.size, 1, none⟩ (.slice q' tr.length c')) bs wr.heap.size pc xs.length cc xs ∧ w.heap.size ≤ bs ∧ bs ≤ wr.heap.size ∧ Below w.heap.size w ((wr.setCell ⟨w.heap.size, 0, none⟩ (.slice pc xs.length cc)).setCell ⟨w.heap.size, 1, none⟩ (.slice q' tr.length c'))) := by
        have hz := HZ0.out
        have hbl := World.block_lt_of_cell? _ _ s0
        refine ⟨⟨((hoi.1.set (by simp; omega) _).set (by simp; omega) _).mono (by omega), hoi.2⟩, ((hoc.up.set (by simp; omega) _).set (by simp; omega) _).mono (by omega), by omega, by simp at hbl; omega, ((Below.on HB0.out hB).setCell (p := ⟨_, _, none⟩) (Nat.le_refl _) _).setCell (p := ⟨_, _, none⟩) (Nat.le_refl _) _⟩
      clear hoc hoi hB hle HF
      go_wp2
      obtain ⟨d0, d1, _⟩ := HR.out
      refine bodyPost_ret (v := .agg #[.slice pc xs.length cc, .slice q' tr.length c']) (by simp [results, Try.results61, go_sem, d0, d1]) rfl ⟨pc, q', cc, c', bs, rfl, HFI.out.1, ?_, HFI.out.2.2.1, ?_, HFI.out.2.2.2.2⟩
      · have := HFI.out.2.1
        simpa using this
      · have := HFI.out.2.2.2.1
        simpa using this

end Go.Proofs.Ytedkkghekboahaa

