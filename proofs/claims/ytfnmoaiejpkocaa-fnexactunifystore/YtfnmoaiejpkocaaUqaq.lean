/- Texts of SpR, Valid1, Valid2. Own work of the verifier. -/
import Derived.Test.YtfnmoaiejpkocaaUqai
import Derived.Test.YtfnmoaiejpkocaaUqan
import Derived.Test.YtfnmoaiejpkocaaUqad
import Derived.Deep.RegionLaw
import Derived.Test.YtfnmoaiejpkocaaUqae
import Derived.Test.YtfnmoaiejpkocaaUqaf
namespace Go.Proofs.Ytfnmoaiejpkocaa
open Go Go.RowKit Go.Maps
set_option linter.unusedVariables false

/-- append as one step of a region that draws, its run known. -/
theorem step_app_run {P : Program} {ops : Array Oper} {o : Oper} {a : Act} {K : Act → World → Prop} {Q : Exit → Act → World → Prop} {E : Prop} (hgd : o.guard = none) (s x : Operand) (t u : TypeId)
    (ho : o.op = .call { callee := .builtin .append, args := #[s, x], argTypes := #[t, u] }) (v y r : Value) (w w' : World) (hs : a.eval s = v) (hx : a.eval x = y)
    (hr : (Builtin.append_ #[t, u] o.type #[v, y]).run P w = .ok r w') (h : K (a.put o.dst r) w') : if Region.wanted o (yielded ops a.tmps) = true then Oper.wp P o a w K Q else E := by
  have hw : Region.wanted o (yielded ops a.tmps) = true := by simp [Region.wanted, hgd]
  rw [if_pos hw]
  unfold Oper.wp execOp
  simp only [ho, resolve, invoke, builtin, Sem.run_bind, Sem.run_pure, Result.andThen_ok, List.map_toArray, List.map_cons, List.map_nil, hs, hx, hr]
  exact h
theorem infoCelM : (Try.prog.info? 31).map (fun i => (i.zero, i.size, i.bytes)) = some (some (.agg #[.int .i64 0, .int .i64 0, .slice none 0 0]), 3, 40) := by kernel_rfl
/-- A row of a slice is this cell; its text lies in W0. -/
def RFit (W0 : World) (r : RC) (c : Cel) : Prop := r.1 = c.1 ∧ r.2.1 = c.2.1 ∧ r.2.2.2.1 = c.2.2.length ∧ BIn W0 r.2.2.1 c.2.2
theorem RFit.below {W W' : World} {r : RC} {c : Cel} (h : RFit W r c) (hb : Below W.heap.size W W') : RFit W' r c := ⟨h.1, h.2.1, h.2.2.1, h.2.2.2.below hb⟩
theorem rows_of {w : World} {b : Nat} : ∀ (xs : List Cel) (o : Nat), (∀ i, i < xs.length → CAt w b (o + i * 3) (xs.getD i Cel.none)) → ∃ rs : List RC, rs.length = xs.length ∧ (∀ i, i < xs.length → RFit w (rs.getD i RC.zero) (xs.getD i Cel.none)) ∧ ∀ j u, (flat rs)[j]? = some u → w.cell? ⟨b, o + j, none⟩ = some u
  | [], o, _ => ⟨[], rfl, fun i h => absurd h (Nat.not_lt_zero _), fun j u h => by simp [flat] at h⟩
  | c :: r, o, h => by
    obtain ⟨rs, hl, hf, hc⟩ := rows_of r (o + 3) (fun i hi => by
      have := h (i + 1) (by simpa using hi)
      rw [List.getD_cons_succ, show o + (i + 1) * 3 = o + 3 + i * 3 by omega] at this
      exact this)
    obtain ⟨p, cap, h0, h1, h2, h3⟩ := h 0 (by simp)
    simp only [List.getD_cons_zero, Nat.zero_mul, Nat.add_zero] at h0 h1 h2 h3
    refine ⟨(c.1, c.2.1, p, c.2.2.length, cap) :: rs, by simp [hl], fun i hi => ?_, fun j u hj => ?_⟩
    · cases i with
      | zero => exact ⟨rfl, rfl, rfl, h3⟩
      | succ i => exact hf i (by simpa using hi)
    · rw [flat_cons] at hj
      match j, hj with
      | 0, hj => rw [Nat.add_zero, h0]; simpa using hj
      | 1, hj => rw [h1]; simpa using hj
      | 2, hj => rw [h2]; simpa using hj
      | j + 3, hj =>
        rw [show o + (j + 3) = o + 3 + j by omega]
        exact hc j u (by simpa using hj)
/-- A row of cells of the call's own (from the end of W0 on), whose texts lie in W0. -/
def RowC (W0 w : World) (p : Option Addr) (n c : Nat) (xs : List Cel) : Prop :=
  n = xs.length ∧ ∃ rs : List RC, rs.length = xs.length ∧ w.ownsRow W0.heap.size 31 3 (.slice p n c) n (flat rs) ∧ ∀ i, i < xs.length → RFit W0 (rs.getD i RC.zero) (xs.getD i Cel.none)
theorem RowC.below {W0 w w' : World} {p : Option Addr} {n c : Nat} {xs : List Cel} (h : RowC W0 w p n c xs) (hb : Below w.heap.size w w') : RowC W0 w' p n c xs := by
  obtain ⟨hn, rs, hl, hr, hf⟩ := h
  exact ⟨hn, rs, hl, row_below hr hb, hf⟩
/-- The cells of a row, as they lie. -/
theorem RowC.at {W0 w : World} {p : Option Addr} {n c : Nat} {xs : List Cel} (h : RowC W0 w p n c xs) (i : Nat) (hi : i < xs.length) : ∃ g q cq, p = some ⟨g, 0, none⟩ ∧ W0.heap.size ≤ g ∧ g < w.heap.size ∧ w.cell? ⟨g, i * 3, none⟩ = some (.int .i64 (xs.getD i Cel.none).1) ∧ w.cell? ⟨g, i * 3 + 1, none⟩ = some (.int .i64 (xs.getD i Cel.none).2.1) ∧ w.cell? ⟨g, i * 3 + 2, none⟩ = some (.slice q (xs.getD i Cel.none).2.2.length cq) ∧ BIn W0 q (xs.getD i Cel.none).2.2 := by
  obtain ⟨hn, rs, hl, hr, hf⟩ := h
  obtain ⟨g, cap, hv, hb, hg⟩ := hr.form (by omega)
  simp only [Value.slice.injEq, true_and] at hv
  obtain ⟨rfl, rfl⟩ := hv
  obtain ⟨a0, a1, a2⟩ := flat_at rs i (by omega)
  obtain ⟨f0, f1, f2, f3⟩ := hf i hi
  have d0 := (hr.cellAt (i * 3) (by omega)).trans a0
  have d1 := (hr.cellAt (i * 3 + 1) (by omega)).trans a1
  have d2 := (hr.cellAt (i * 3 + 2) (by omega)).trans a2
  rw [f0] at d0; rw [f1] at d1; rw [f2] at d2
  exact ⟨g, _, _, rfl, hb, hg, d0, d1, d2, f3⟩
theorem flat_oneM (rs : List RC) : ∀ u ∈ flat rs, u.oneCell' = true := fun u hu => by
  simp only [flat, List.mem_flatMap] at hu
  obtain ⟨r, _, hr⟩ := hu
  simp [rcV] at hr
  rcases hr with rfl | rfl | rfl <;> rfl
/-- Cells put onto an empty row. -/
theorem app_nilC (w : World) (ty : TypeId) (q : Option Addr) (c : Nat) (xs : List Cel) (hl : xs.length ≤ 20000) (hin : CIn w q xs) (W0 : World) (hW : Below W0.heap.size W0 w) (hin0 : CIn W0 q xs) :
    ∃ pt ct w1, (Builtin.append_ #[34, 34] ty #[.slice none 0 0, .slice q xs.length c]).run Try.prog w = .ok (.slice pt xs.length ct) w1 ∧ Below w.heap.size w w1 ∧ RowC W0 w1 pt xs.length ct xs ∧ (∀ k, Value.ownBlock (.slice pt xs.length ct) = some k → w.heap.size ≤ k) := by
  obtain ⟨i0, hi, hz0, hz1, hz2⟩ := info_parts infoCelM
  by_cases hn : 0 < xs.length
  · obtain ⟨g, o, rfl, hc⟩ := hin0 hn
    obtain ⟨rs, hrl, hrf, hrc⟩ := rows_of xs o hc
    obtain ⟨g', cap, w', hr, h2, h3, _, _⟩ := run_append_lies (P := Try.prog) w 34 ty w.heap.size 31 i0 (.agg #[.int .i64 0, .int .i64 0, .slice none 0 0]) 3 40 Try.underlying34 hi hz0 hz1 hz2 rfl (by decide) (.slice none 0 0) 0 [] (World.ownsRow_nil _ _ _ _) ⟨g, o, none⟩ xs.length c (flat rs) (by rw [flat_len]; omega)
      (fun j u hj => by
        rw [show (⟨g, o, none⟩ : Addr).add j = ⟨g, o + j, none⟩ from WideShapes.add_plain _ _ _]
        have := hrc j u hj
        exact (hW.cell (World.block_lt_of_cell? _ _ this)).trans this) (flat_oneM rs) hn (by unfold maxLen; omega) (by omega) (Nat.le_refl _) _ rfl
    simp only [Nat.zero_add, List.nil_append] at hr h2
    exact ⟨_, _, w', hr, (Below.refl _ _).grown h3 (Nat.le_refl _) (fun k hk => by cases hk), ⟨rfl, rs, hrl, ownsRow_down h2 hW.size, hrf⟩, fun k hk => (h2.lt k hk).1⟩
  · obtain rfl : xs = [] := by cases xs with | nil => rfl | cons a r => simp at hn
    have hs : Src Try.prog i0.size 34 (.slice q 0 c) 0 [] w := by
      cases q with
      | none => exact Src.ofNil w Try.underlying34 c
      | some ad => exact Src.ofSlice w Try.underlying34 ad 0 c [] (by simp) (fun j u h => by simp at h) (fun u h => by cases h)
    exact ⟨none, 0, w, run_append_nothing w 34 34 ty 31 i0 Try.underlying34 hi none 0 0 (Nat.le_refl _) _ hs, Below.refl _ _, ⟨rfl, [], rfl, World.ownsRow_nil _ _ _ _, fun i h => absurd h (Nat.not_lt_zero _)⟩, fun k hk => by cases hk⟩
/-- Numbers put onto an empty row. -/
theorem app_nilI (w : World) (ty : TypeId) (B : Nat) (q : Option Addr) (c : Nat) (ys : List Int) (hB : B ≤ w.heap.size) (hl : ys.length ≤ 20000) (hin : IIn w q ys) :
    ∃ pt ct w1, (Builtin.append_ #[23, 23] ty #[.slice none 0 0, .slice q ys.length c]).run Try.prog w = .ok (.slice pt ys.length ct) w1 ∧ Below w.heap.size w w1 ∧ OwnI w1 B 3 pt ys.length ct ys ∧ (∀ k, Value.ownBlock (.slice pt ys.length ct) = some k → w.heap.size ≤ k) := by
  obtain ⟨i0, hi, hz0, hz1, hz2⟩ := info_parts infoInt
  by_cases hn : 0 < ys.length
  · obtain ⟨g, o, rfl, hc⟩ := hin hn
    obtain ⟨g', cap, w', hr, h2, h3, _, _⟩ := run_append_lies (P := Try.prog) w 23 ty w.heap.size 3 i0 (.int .i64 0) 1 8 Try.underlying23 hi hz0 hz1 hz2 rfl (by decide) (.slice none 0 0) 0 [] (World.ownsRow_nil _ _ _ _) ⟨g, o, none⟩ ys.length c (ys.map (Value.int .i64)) (by simp)
      (fun j u hj => by
        simp only [List.getElem?_map] at hj
        cases hy : ys[j]? with
        | none => rw [hy] at hj; cases hj
        | some y =>
          rw [hy] at hj
          have hlt : j < ys.length := (List.getElem?_eq_some_iff.1 hy).1
          have := hc j hlt
          rw [show (⟨g, o, none⟩ : Addr).add j = ⟨g, o + j, none⟩ from WideShapes.add_plain _ _ _, this]
          simp [List.getD, hy] at hj ⊢
          exact hj) (ints_oneCell .i64 ys) hn (by unfold maxLen; omega) (by omega) (Nat.le_refl _) _ rfl
    simp only [Nat.zero_add, List.nil_append] at hr h2
    exact ⟨_, _, w', hr, (Below.refl _ _).grown h3 (Nat.le_refl _) (fun k hk => by cases hk), ⟨rfl, ownsRow_down h2 hB⟩, fun k hk => (h2.lt k hk).1⟩
  · obtain rfl : ys = [] := by cases ys with | nil => rfl | cons a r => simp at hn
    have hs : Src Try.prog i0.size 23 (.slice q 0 c) 0 [] w := by
      cases q with
      | none => exact Src.ofNil w Try.underlying23 c
      | some ad => exact Src.ofSlice w Try.underlying23 ad 0 c [] (by simp) (fun j u h => by simp at h) (fun u h => by cases h)
    exact ⟨none, 0, w, run_append_nothing w 23 23 ty 3 i0 Try.underlying23 hi none 0 0 (Nat.le_refl _) _ hs, Below.refl _ _, OwnI.nil _ _ _, fun k hk => by cases hk⟩

/-- Block h is the model's heap with these cells, this trail and this number of pairs; texts lie in W0. -/
def SHp (W0 w : World) (h : Nat) (xs : List Cel) (tr : List Int) (k : Int) : Prop :=
  ∃ pc cc pt ct, w.heap[h]? = some (.cells #[.slice pc xs.length cc, .slice pt tr.length ct, .int .i64 k] 118) ∧ RowC W0 w pc xs.length cc xs ∧ OwnI w W0.heap.size 3 pt tr.length ct tr ∧ W0.heap.size ≤ h ∧ Below W0.heap.size W0 w
theorem SHp.below {W0 w w' : World} {h : Nat} {xs : List Cel} {tr : List Int} {k : Int} (H : SHp W0 w h xs tr k) (hb : Below w.heap.size w w') : SHp W0 w' h xs tr k := by
  obtain ⟨pc, cc, pt, ct, h0, h1, h2, h3, h4⟩ := H
  exact ⟨pc, cc, pt, ct, (hb.block h (Array.getElem?_eq_some_iff.1 h0).1).trans h0, h1.below hb, h2.below hb, h3, Below.on h4 hb⟩

set_option maxHeartbeats 1000000 in
set_option maxRecDepth 100000 in
theorem l10open_any (p q : Option Addr) (c1 c2 : Nat) (xs : List Cel) (tr : List Int) (w : World) (hx : xs.length ≤ 20000) (hy : tr.length ≤ 20000) (hc : CIn w p xs) (hi : IIn w q tr) :
    Calls Try.prog 40 #[.agg #[.slice p xs.length c1, .slice q tr.length c2]] w fun e w' => ∃ h, e = .returned (.pointer (some ⟨h, 0, none⟩)) ∧ SHp w w' h xs tr 0 ∧ Below w.heap.size w w' := by
  obtain ⟨W1, eW1⟩ : ∃ W1, W1 = ((w.alloc (.cells #[.slice p xs.length c1, .slice q tr.length c2] 36)).alloc (.cells #[.slice none 0 0, .slice none 0 0, .int .i64 0] 118)).drew := ⟨_, rfl⟩
  have hb1 : Below w.heap.size w W1 := by rw [eW1]; exact (((Below.refl _ _).alloc (Nat.le_refl _) _).alloc (by simp) _).drew
  obtain ⟨pc, cc, w2, hr1, hb2, hrow, hfr⟩ := app_nilC W1 34 p c1 xs hx (hc.below hb1) w hb1 hc
  have k0 : W1.heap[w.heap.size]? = some (.cells #[.slice p xs.length c1, .slice q tr.length c2] 36) := by
    rw [eW1]; show ((w.alloc _).alloc _).heap[w.heap.size]? = _; rw [Below.heap_alloc _ _ _ (by simp)]; exact heap_alloc_new _ _
  have k1 : W1.heap[w.heap.size + 1]? = some (.cells #[.slice none 0 0, .slice none 0 0, .int .i64 0] 118) := by
    rw [eW1]
    show ((w.alloc _).alloc _).heap[w.heap.size + 1]? = _
    have := heap_alloc_new (w.alloc (.cells #[.slice p xs.length c1, .slice q tr.length c2] 36)) (.cells #[.slice none 0 0, .slice none 0 0, .int .i64 0] 118)
    simpa using this
  have hz1 : W1.heap.size = w.heap.size + 1 + 1 := by rw [eW1]; simp
  have j0 := (hb2.block w.heap.size (by omega)).trans k0
  have j1 := (hb2.block (w.heap.size + 1) (by omega)).trans k1
  obtain ⟨V2, eV2⟩ : ∃ V2, V2 = (w2.setCell ⟨w.heap.size + 1, 0, none⟩ (.slice pc xs.length cc)).drew := ⟨_, rfl⟩
  have hs2 : w.heap.size + 1 + 1 ≤ w2.heap.size := by have := hb2.size; omega
  have hbV : Below w.heap.size w V2 := by rw [eV2]; exact ((Below.on hb1 hb2).setCell (p := ⟨_, _, none⟩) (by simp) _).drew
  have m1 : V2.heap[w.heap.size + 1]? = some (.cells #[.slice pc xs.length cc, .slice none 0 0, .int .i64 0] 118) := by
    rw [eV2]; show (w2.setCell _ _).heap[w.heap.size + 1]? = _; rw [heap_setCell_same _ _ _ _ _ _ j1]; rfl
  have m0 : V2.heap[w.heap.size]? = some (.cells #[.slice p xs.length c1, .slice q tr.length c2] 36) := by
    rw [eV2]; show (w2.setCell _ _).heap[w.heap.size]? = _; rw [heap_setCell_other _ _ _ _ (by simp)]; exact j0
  have hrow2 : RowC w V2 pc xs.length cc xs := by
    obtain ⟨hn, rs, hl, hr, hf⟩ := hrow
    refine ⟨hn, rs, hl, ?_, hf⟩
    rw [eV2]
    exact ownsRow_setCell_other hr (fun e => by have := hfr _ e; simp at this; omega) _
  obtain ⟨pt, ct, w3, hr2, hb3, hint, hfr3⟩ := app_nilI V2 23 w.heap.size q c2 tr hbV.size hy (hi.below hbV)
  have n1 := (hb3.block (w.heap.size + 1) (by have : V2.heap.size = w2.heap.size := by { rw [eV2]; simp }; omega)).trans m1
  have HFIN : Hid (SHp w (w3.setCell ⟨w.heap.size + 1, 1, none⟩ (.slice pt tr.length ct)) (w.heap.size + 1) xs tr 0 ∧ Below w.heap.size w (w3.setCell ⟨w.heap.size + 1, 1, none⟩ (.slice pt tr.length ct))) := by
    have hB : Below w.heap.size w (w3.setCell ⟨w.heap.size + 1, 1, none⟩ (.slice pt tr.length ct)) := (Below.on hbV hb3).setCell (p := ⟨_, _, none⟩) (by simp) _
    have hV2 : V2.heap.size = w2.heap.size := by rw [eV2]; simp
    refine ⟨⟨pc, cc, pt, ct, ?_, ?_, ⟨hint.1, ownsRow_setCell_other hint.2 (fun e => by have := hfr3 _ e; simp at this; omega) _⟩, by omega, hB⟩, hB⟩
    · rw [heap_setCell_same _ _ _ _ _ _ n1]; rfl
    · obtain ⟨hn, rs, hl, hr, hf⟩ := hrow2.below hb3
      refine ⟨hn, rs, hl, ownsRow_setCell_other hr (fun e => ?_) _, hf⟩
      have := hfr _ e
      simp at this; omega
  have a0 : W1.cell? ⟨w.heap.size, 0, none⟩ = some (.slice p xs.length c1) := by simp [World.cell?, k0]
  have a1 : W1.cell? ⟨w.heap.size + 1, 0, none⟩ = some (.slice none 0 0) := by simp [World.cell?, k1]
  have f1 : w2.frozen? ⟨w.heap.size + 1, 0, none⟩ = false := frozen_of_row _ _ _ _ _ j1
  have g1 : w2.cell? ⟨w.heap.size + 1, 0, none⟩ = some (.slice none 0 0) := by simp [World.cell?, j1]
  have b0 : V2.cell? ⟨w.heap.size, 1, none⟩ = some (.slice q tr.length c2) := by simp [World.cell?, m0]
  have b1 : V2.cell? ⟨w.heap.size + 1, 1, none⟩ = some (.slice none 0 0) := by simp [World.cell?, m1]
  have g2 : w3.cell? ⟨w.heap.size + 1, 1, none⟩ = some (.slice none 0 0) := by simp [World.cell?, n1]
  have f2 : w3.frozen? ⟨w.heap.size + 1, 1, none⟩ = false := frozen_of_row _ _ _ _ _ n1
  have hbd : ∀ W, (Instr.build 118 #[]).run Try.prog W = .ok (.agg #[.slice none 0 0, .slice none 0 0, .int .i64 0]) W := fun W => run_build W 118 _ _ (by kernel_rfl)
  rw [eW1] at hr1 a0 a1
  rw [eV2] at hr2 b0 b1
  clear hb1 hb2 hrow hfr k0 k1 hz1 j0 j1 hs2 hbV m1 m0 hrow2 hb3 hint hfr3 n1 hc hi eW1 eV2
  go_enter Try.func40, Try.ntmps40
  go_wp2
  go_region_law (refine step_app_run rfl _ _ _ _ rfl _ _ _ _ _ rfl rfl hr1 ?_)
  all_goals go_wp2
  all_goals go_region_law (refine step_app_run rfl _ _ _ _ rfl _ _ _ _ _ rfl rfl hr2 ?_)
  all_goals go_wp2
  all_goals go_ret
  all_goals exact ⟨_, rfl, HFIN.out⟩

end Go.Proofs.Ytfnmoaiejpkocaa

namespace Go.Proofs.Ytfnmoaiejpkocaa
open Go Go.RowKit
set_option linter.unusedVariables false

theorem l2cell_any (k n : Int) (p : Option Addr) (m c : Nat) (w : World) :
    Calls Try.prog 94 #[.agg #[.int .i64 k, .int .i64 n, .slice p m c]] w fun e w' => e = .returned (.bool (cellB k n m)) ∧ Below w.heap.size w w' := by
  have fin : ∀ {a : Bool} {o : Obj}, a = cellB k n m → (Ending.returned (.bool a) = .returned (.bool (cellB k n m)) ∧ Below w.heap.size w (w.alloc o)) := fun h => ⟨ret_bool h, (Below.refl _ _).alloc (Nat.le_refl _) _⟩
  have FIN : Hid _ := @fin
  clear fin
  by_cases k0 : k = 0
  · subst k0
    by_cases a : 0 ≤ n
    · by_cases b : n ≤ 1000000
      · go_enter Try.func94, Try.ntmps94
        go_wp2
        go_ret
        exact FIN.out (by rw [Bool.eq_iff_iff]; simp [cellB]; omega)
      · go_enter Try.func94, Try.ntmps94
        go_wp2
        go_ret
        exact FIN.out (by rw [Bool.eq_iff_iff]; simp [cellB]; omega)
    · go_enter Try.func94, Try.ntmps94
      go_wp2
      go_ret
      exact FIN.out (by rw [Bool.eq_iff_iff]; simp [cellB]; omega)
  · by_cases k1 : k = 1
    · subst k1
      by_cases a : -1000000000000000 ≤ n
      · by_cases b : n ≤ 1000000000000000
        · go_enter Try.func94, Try.ntmps94
          go_wp2
          go_ret
          exact FIN.out (by rw [Bool.eq_iff_iff]; simp [cellB]; omega)
        · go_enter Try.func94, Try.ntmps94
          go_wp2
          go_ret
          exact FIN.out (by rw [Bool.eq_iff_iff]; simp [cellB]; omega)
      · go_enter Try.func94, Try.ntmps94
        go_wp2
        go_ret
        exact FIN.out (by rw [Bool.eq_iff_iff]; simp [cellB]; omega)
    · have t0 : (k == 0) = false := by simpa using k0
      have t1 : (k == 1) = false := by simpa using k1
      by_cases hm : 100 < m
      · have hm' : (100 : Int) < m := by omega
        have HK : Hid (k ≠ 0 ∧ k ≠ 1) := ⟨k0, k1⟩
        clear k0 k1
        go_enter Try.func94, Try.ntmps94
        go_wp2
        go_ret
        exact FIN.out (by have := HK.out; rw [Bool.eq_iff_iff]; simp [cellB]; omega)
      · have hm' : ¬ (100 : Int) < m := by omega
        by_cases k2 : k = 2
        · subst k2
          clear t0 t1 k0 k1
          go_enter Try.func94, Try.ntmps94
          go_wp2
          go_ret
          exact FIN.out (by rw [Bool.eq_iff_iff]; simp [cellB]; omega)
        · by_cases k3 : k = 3
          · subst k3
            clear t0 t1 k0 k1 k2
            by_cases a : 1 ≤ n
            · go_enter Try.func94, Try.ntmps94
              go_wp2
              go_ret
              exact FIN.out (by rw [Bool.eq_iff_iff]; simp [cellB]; omega)
            · go_enter Try.func94, Try.ntmps94
              go_wp2
              go_ret
              exact FIN.out (by rw [Bool.eq_iff_iff]; simp [cellB]; omega)
          · have t2 : (k == 2) = false := by simpa using k2
            have t3 : (k == 3) = false := by simpa using k3
            have HK : Hid (k ≠ 0 ∧ k ≠ 1 ∧ k ≠ 2 ∧ k ≠ 3) := ⟨k0, k1, k2, k3⟩
            clear k0 k1 k2 k3
            go_enter Try.func94, Try.ntmps94
            go_wp2
            go_ret
            exact FIN.out (by have := HK.out; rw [Bool.eq_iff_iff]; simp [cellB]; omega)

end Go.Proofs.Ytfnmoaiejpkocaa

namespace Go.Proofs.Ytfnmoaiejpkocaa
open Go Go.RowKit
set_option linter.unusedVariables false

def grows (k n : Int) : Int := if k = 3 then n else 0
def validFrom : Int → List Cel → Bool
  | m, [] => m == 0
  | m, c :: r => if m = 0 ∨ cellB c.1 c.2.1 c.2.2.length = false then false else validFrom (m - 1 + grows c.1 c.2.1) r
def validB (cs : List Cel) : Bool := decide (cs.length ≤ 2000) && validFrom 1 cs

theorem validFrom_at (m : Int) (cs : List Cel) (k : Nat) (h : k < cs.length) : validFrom m (cs.drop k) =
    if m = 0 ∨ cellB (cs.getD k Cel.none).1 (cs.getD k Cel.none).2.1 (cs.getD k Cel.none).2.2.length = false then false else validFrom (m - 1 + grows (cs.getD k Cel.none).1 (cs.getD k Cel.none).2.1) (cs.drop (k + 1)) := by
  rw [drop_at cs k h, validFrom]
theorem cellB_comp {n : Int} {m : Nat} (h : cellB 3 n m = true) : 1 ≤ n ∧ n ≤ 20 := by simp [cellB] at h; omega

theorem specValid_any (p : Option Addr) (c : Nat) (cs : List Cel) (w : World) (hn : cs.length ≤ 1000000000) (hc : CIn w p cs) :
    Calls Try.prog 69 #[.slice p cs.length c] w fun e w' => e = .returned (.bool (validB cs)) ∧ Below w.heap.size w w' := by
  have HC : Hid (CIn w p cs) := hc
  clear hc
  by_cases hl : cs.length ≤ 2000
  · have hl' : ¬ (2000 : Int) < cs.length := by omega
    have hv : validB cs = validFrom 1 cs := by simp [validB, hl]
    rw [hv]
    clear hv
    go_enter Try.func69, Try.ntmps69
    go_wp2
    clear hl'
    go_loopw [3, 4] (fun s i wr => ∃ (k : Nat) (m : Int), k ≤ cs.length ∧ 0 ≤ m ∧ m ≤ 1 + 20 * k ∧ s = .int .i64 m ∧ i = .int .i64 k ∧ Hid (validFrom 1 cs = validFrom m (cs.drop k)) ∧ Hid (Below w.heap.size w wr)) (fun _ i _ => cs.length - (intOf i).toNat)
    case atStart => exact ⟨0, 1, Nat.zero_le _, by decide, by decide, rfl, rfl, rfl, Below.refl _ _⟩
    case round =>
      obtain ⟨k, m, hk, hm0, hm1, rfl, rfl, HV, HB⟩ := hrel
      by_cases hlt : k < cs.length
      · obtain ⟨b, o, rfl, hcs⟩ := HC.out (by omega)
        obtain ⟨q, qc, h0, h1, h2, _⟩ := (hcs k hlt).below HB.out
        have HA : Hid _ := validFrom_at m cs k hlt
        obtain ⟨c0, e0⟩ : ∃ x, x = (cs.getD k Cel.none).1 := ⟨_, rfl⟩
        obtain ⟨c1, e1⟩ : ∃ x, x = (cs.getD k Cel.none).2.1 := ⟨_, rfl⟩
        obtain ⟨t, et⟩ : ∃ x, x = (cs.getD k Cel.none).2.2.length := ⟨_, rfl⟩
        rw [← e0] at h0 HA
        rw [← e1] at h1 HA
        rw [← et] at h2 HA
        clear e0 e1 et hcs HC
        by_cases hz : m = 0
        · subst hz
          go_wp2
          go_ret
          exact ⟨ret_bool (by rw [HV.out, HA.out, if_pos (by simp)]), HB.out⟩
        · have hz' : (m == 0) = false := by simpa using hz
          have HZ : Hid (m ≠ 0) := hz
          have HS := fun W => l2cell_any c0 c1 q t qc W
          cases hb : cellB c0 c1 t
          · rw [hb] at HS
            have HBB : Hid _ := hb
            clear hb hz
            go_wp2_with (go_at_call 94; refine (HS _).mono ?_; rintro e w2 ⟨rfl, hb2⟩)
            go_ret
            exact ⟨ret_bool (by rw [HV.out, HA.out, if_pos (.inr HBB.out)]), Below.on HB.out hb2⟩
          · rw [hb] at HS
            have HBB : Hid _ := hb
            clear hb hz
            by_cases h3 : c0 = 3
            · subst h3
              have hc1 := cellB_comp HBB.out
              go_wp2_with fail
              refine (HS _).mono ?_
              rintro e w2 ⟨rfl, hb2⟩
              have h0' := (hb2.cell (World.block_lt_of_cell? _ _ h0)).trans h0
              have h1' := (hb2.cell (World.block_lt_of_cell? _ _ h1)).trans h1
              have HB2 : Hid (Below w.heap.size w w2) := Below.on HB.out hb2
              clear hb2 h0 h1 h2 HS
              go_wp2
              go_roundw
              case rel => exact ⟨k + 1, m - 1 + c1, by omega, by have := HZ.out; omega, by omega, by go_num, by go_num, by show _ = _; rw [HV.out, HA.out, if_neg (by rintro (h | h); exact HZ.out h; rw [HBB.out] at h; cases h)]; rfl, HB2.out⟩
              case measure => simp [intOf]; omega
            · have h3' : (c0 == 3) = false := by simpa using h3
              have H3 : Hid (c0 ≠ 3) := h3
              clear h3
              go_wp2_with fail
              refine (HS _).mono ?_
              rintro e w2 ⟨rfl, hb2⟩
              have h0' := (hb2.cell (World.block_lt_of_cell? _ _ h0)).trans h0
              have HB2 : Hid (Below w.heap.size w w2) := Below.on HB.out hb2
              clear hb2 h0 h1 h2 HS
              go_wp2
              go_roundw
              case rel => exact ⟨k + 1, m - 1, by omega, by have := HZ.out; omega, by omega, by go_num, by go_num, by show _ = _; rw [HV.out, HA.out, if_neg (by rintro (h | h); exact HZ.out h; rw [HBB.out] at h; cases h), grows, if_neg H3.out, Int.add_zero], HB2.out⟩
              case measure => simp [intOf]; omega
      · obtain rfl : k = cs.length := by omega
        have HV' : Hid (validFrom 1 cs = (m == 0)) := by
          have := HV.out
          rw [List.drop_length] at this
          exact this
        clear HV HC
        go_wp2
        go_ret
        exact ⟨ret_bool HV'.out.symm, HB.out⟩
  · have hl' : (2000 : Int) < cs.length := by omega
    have hv : validB cs = false := by simp [validB]; omega
    rw [hv]
    clear hv
    go_enter Try.func69, Try.ntmps69
    go_wp2
    go_ret
    exact ⟨rfl, Below.refl _ _⟩

theorem implValid_any (p : Option Addr) (c : Nat) (cs : List Cel) (w : World) (hn : cs.length ≤ 1000000000) (hc : CIn w p cs) :
    Calls Try.prog 71 #[.slice p cs.length c] w fun e w' => e = .returned (.bool (validB cs)) ∧ Below w.heap.size w w' := by
  have HC : Hid (CIn w p cs) := hc
  clear hc
  by_cases hl : cs.length ≤ 2000
  · have hl' : ¬ (2000 : Int) < cs.length := by omega
    have hv : validB cs = validFrom 1 cs := by simp [validB, hl]
    rw [hv]
    clear hv
    go_enter Try.func71, Try.ntmps71
    go_wp2
    clear hl'
    go_loopw [3, 11] (fun s i wr => ∃ (k : Nat) (m : Int), k ≤ cs.length ∧ 0 ≤ m ∧ m ≤ 1 + 20 * k ∧ s = .int .i64 m ∧ i = .int .i64 k ∧ Hid (validFrom 1 cs = validFrom m (cs.drop k)) ∧ Hid (Below w.heap.size w wr)) (fun _ i _ => cs.length - (intOf i).toNat)
    case atStart => exact ⟨0, 1, Nat.zero_le _, by decide, by decide, rfl, rfl, rfl, Below.refl _ _⟩
    case round =>
      obtain ⟨k, m, hk, hm0, hm1, rfl, rfl, HV, HB⟩ := hrel
      by_cases hlt : k < cs.length
      · obtain ⟨b, o, rfl, hcs⟩ := HC.out (by omega)
        obtain ⟨q, qc, h0, h1, h2, _⟩ := (hcs k hlt).below HB.out
        have HA : Hid _ := validFrom_at m cs k hlt
        obtain ⟨c0, e0⟩ : ∃ x, x = (cs.getD k Cel.none).1 := ⟨_, rfl⟩
        obtain ⟨c1, e1⟩ : ∃ x, x = (cs.getD k Cel.none).2.1 := ⟨_, rfl⟩
        obtain ⟨t, et⟩ : ∃ x, x = (cs.getD k Cel.none).2.2.length := ⟨_, rfl⟩
        rw [← e0] at h0 HA
        rw [← e1] at h1 HA
        rw [← et] at h2 HA
        clear e0 e1 et hcs HC
        by_cases hz : m = 0
        · subst hz
          go_wp2
          go_ret
          exact ⟨ret_bool (by rw [HV.out, HA.out, if_pos (by simp)]), HB.out.alloc HB.out.size _⟩
        · have hz' : (m == 0) = false := by simpa using hz
          have HZ : Hid (m ≠ 0) := hz
          have HS := fun W => isCell_any c0 c1 q t qc W
          have hb0 : Below w.heap.size w (wr.alloc (Obj.cells #[.int .i64 c0, .int .i64 c1, .slice q t qc] 31)) := HB.out.alloc HB.out.size _
          have HB0 : Hid _ := hb0
          clear hb0
          cases hb : cellB c0 c1 t
          · rw [hb] at HS
            have HBB : Hid _ := hb
            clear hb hz
            go_wp2_with (go_at_call 96; refine (HS _).mono ?_; rintro e w2 ⟨rfl, hb2⟩)
            go_ret
            exact ⟨ret_bool (by rw [HV.out, HA.out, if_pos (.inr HBB.out)]), Below.on HB0.out hb2⟩
          · rw [hb] at HS
            have HBB : Hid _ := hb
            clear hb hz
            by_cases h3 : c0 = 3
            · subst h3
              have hc1 := cellB_comp HBB.out
              go_wp2_with fail
              refine (HS _).mono ?_
              rintro e w2 ⟨rfl, hb2⟩
              have bb : Box3 w2 wr.heap.size (.int .i64 3) (.int .i64 c1) (.slice q t qc) := Box3.of_block (t := 31) ((hb2.block _ (by simp)).trans (heap_alloc_new _ _))
              obtain ⟨h0', h1', _, _⟩ := bb
              have HB2 : Hid (Below w.heap.size w w2) := Below.on HB0.out hb2
              clear hb2 h0 h1 h2 HS
              go_wp2
              go_roundw
              case rel => exact ⟨k + 1, m - 1 + c1, by omega, by have := HZ.out; omega, by omega, by go_num, by go_num, by show _ = _; rw [HV.out, HA.out, if_neg (by rintro (h | h); exact HZ.out h; rw [HBB.out] at h; cases h)]; rfl, HB2.out⟩
              case measure => simp [intOf]; omega
            · have h3' : (c0 == 3) = false := by simpa using h3
              have H3 : Hid (c0 ≠ 3) := h3
              clear h3
              go_wp2_with fail
              refine (HS _).mono ?_
              rintro e w2 ⟨rfl, hb2⟩
              have bb : Box3 w2 wr.heap.size (.int .i64 c0) (.int .i64 c1) (.slice q t qc) := Box3.of_block (t := 31) ((hb2.block _ (by simp)).trans (heap_alloc_new _ _))
              obtain ⟨h0', _, _, _⟩ := bb
              have HB2 : Hid (Below w.heap.size w w2) := Below.on HB0.out hb2
              clear hb2 h0 h1 h2 HS
              go_wp2
              go_roundw
              case rel => exact ⟨k + 1, m - 1, by omega, by have := HZ.out; omega, by omega, by go_num, by go_num, by show _ = _; rw [HV.out, HA.out, if_neg (by rintro (h | h); exact HZ.out h; rw [HBB.out] at h; cases h), grows, if_neg H3.out, Int.add_zero], HB2.out⟩
              case measure => simp [intOf]; omega
      · obtain rfl : k = cs.length := by omega
        have HV' : Hid (validFrom 1 cs = (m == 0)) := by
          have := HV.out
          rw [List.drop_length] at this
          exact this
        clear HV HC
        go_wp2
        go_ret
        exact ⟨ret_bool HV'.out.symm, HB.out⟩
  · have hl' : (2000 : Int) < cs.length := by omega
    have hv : validB cs = false := by simp [validB]; omega
    rw [hv]
    clear hv
    go_enter Try.func71, Try.ntmps71
    go_wp2
    go_ret
    exact ⟨rfl, Below.refl _ _⟩

end Go.Proofs.Ytfnmoaiejpkocaa

