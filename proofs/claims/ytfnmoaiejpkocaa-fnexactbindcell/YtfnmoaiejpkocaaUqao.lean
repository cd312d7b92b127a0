/- Texts of DrA, SpR, Valid1. Own work of the verifier. -/
import Derived.Test.YtfnmoaiejpkocaaUqan
import Derived.Test.YtfnmoaiejpkocaaUqai
import Derived.Handy
import Derived.Test.YtfnmoaiejpkocaaUqad
import Derived.Deep.RegionLaw
import Derived.Test.YtfnmoaiejpkocaaUqae
namespace Go.Proofs.Ytfnmoaiejpkocaa
open Go Go.RowKit Go.Maps
set_option linter.unusedVariables false

/-- How many references may be followed from a word as it lies. -/
noncomputable def rkV (xs : List Cel) : Value → Nat
  | .iface t (.int _ n) => if t = 100 then rk xs n.toNat + 1 else 0
  | _ => 0
theorem rkV_wv (xs : List Cel) (c : Cel) : rkV xs (wv c) = rkW xs c := by
  unfold wv rkW
  split
  · simp [rkV]
  · split
    · simp [rkV]
    · split
      · rfl
      · split
        · rfl
        · simp [rkV]
theorem WdC.knd {xs : List Cel} {c : Cel} (h : WdC xs c) : c.1 = 0 ∨ c.1 = 1 ∨ c.1 = 2 ∨ c.1 = 3 ∨ c.1 = 4 := by
  have := h.1; omega

set_option maxHeartbeats 1000000 in
set_option maxRecDepth 100000 in
theorem deref_any (h : Nat) (c : Cel) (xs : List Cel) (tr : List Int) (w : World) (g : Good xs) (hc : WdC xs c) (H : HeapAt w h xs tr) :
    Calls Try.prog 45 #[.pointer (some ⟨h, 0, none⟩), wv c] w fun e w' => e = .returned (wv (drf xs c)) ∧ Below w.heap.size w w' := by
  have HH : Hid (HeapAt w h xs tr) := H
  have HG : Hid (Good xs) := g
  have HC : Hid (WdC xs c) := hc
  have hl := g.shp.len
  obtain ⟨v0, ev0⟩ : ∃ v, v = wv c := ⟨_, rfl⟩
  have HV0 : Hid (v0 = wv c) := ev0
  rw [← ev0]
  clear H g hc ev0
  go_enter Try.func45, Try.ntmps45
  go_wp2
  go_loopw [1] (fun v wr => ∃ c', Hid (v = wv c') ∧ Hid (WdC xs c') ∧ Hid (drf xs c' = drf xs c) ∧ Hid (Below w.heap.size w wr)) (fun v _ => rkV xs v)
  case atStart => exact ⟨c, HV0, HC, rfl, Below.refl _ _⟩
  case round v =>
    obtain ⟨c', HV, HW, HD, HB⟩ := hrel
    have I := (isW c' HW.out.knd).rf
    have HHr : Hid (HeapAt wr h xs tr) := HH.out.below HB.out
    rw [← HV.out] at I
    by_cases k0 : c'.1 = 0
    · simp only [k0, if_true, decide_true] at I
      obtain ⟨r0, r1, r2⟩ := HW.out.2.1 k0
      obtain ⟨j, ej⟩ : ∃ j : Nat, c'.2.1 = j := ⟨c'.2.1.toNat, by omega⟩
      have hj : j < xs.length := by omega
      rw [ej] at I
      have HJ : Hid (c'.1 = 0 ∧ c'.2.1 = j) := ⟨k0, ej⟩
      have HVA := holdsVariable_any h j xs tr wr hl HG.out.shp.knds HHr.out
      obtain ⟨pw, cw, pt, ct, h0, _, hw, _⟩ := HHr.out
      obtain ⟨gg, rfl, hcs⟩ := hw (by omega)
      have hv := hcs j hj
      have hlt := World.block_lt_of_cell? _ _ h0
      have hlt' := World.block_lt_of_cell? _ _ hv
      have HNX : Hid (wv (xs.getD j Cel.none) = wv (xs.getD j Cel.none)) := rfl
      obtain ⟨vn, evn⟩ : ∃ v, v = wv (xs.getD j Cel.none) := ⟨_, rfl⟩
      rw [← evn] at hv
      have HVN : Hid (vn = wv (xs.getD j Cel.none)) := evn
      clear hcs hw k0 ej r0 r1 r2 evn HNX
      cases hb : varB xs j
      · rw [hb] at HVA
        have HO : Hid (onB xs c' = true) := by show _ = _; simp [onB, HJ.out.1, HJ.out.2, hb]
        clear hb
        go_wp2_with fail
        refine HVA.mono ?_
        rintro e w2 ⟨rfl, hb2⟩
        have h0' := (hb2.cell hlt).trans h0
        have hv' := (hb2.cell hlt').trans hv
        have HB2 : Hid (Below w.heap.size w w2) := Below.on HB.out hb2
        clear hb2 h0 hv HVA hlt hlt'
        go_wp2
        have hn := rk_next HG.out HW.out HO.out
        have hs := drf_step HG.out HW.out HO.out
        have e1 : c'.2.1.toNat = j := by rw [HJ.out.2]; rfl
        rw [e1] at hn hs
        go_roundw
        case rel => exact ⟨xs.getD j Cel.none, HVN.out, hn.2, by show _ = _; rw [← hs]; exact HD.out, HB2.out⟩
        case measure => rw [HVN.out, HV.out, rkV_wv, rkV_wv]; exact hn.1
      · rw [hb] at HVA
        have HO : Hid (onB xs c' = false) := by show _ = _; simp [onB, HJ.out.1, HJ.out.2, hb]
        clear hb h0 hv hlt hlt'
        go_wp2_with fail
        refine HVA.mono ?_
        rintro e w2 ⟨rfl, hb2⟩
        have HB2 : Hid (Below w.heap.size w w2) := Below.on HB.out hb2
        clear hb2 HVA
        go_wp2
        go_ret
        exact ⟨by rw [HV.out, ← HD.out, drf_stop HO.out]; rfl, HB2.out⟩
    · simp only [k0, if_false, decide_false] at I
      have HO : Hid (onB xs c' = false) := by show _ = _; simp [onB, k0]
      clear k0
      go_wp2
      go_ret
      exact ⟨by rw [HV.out, ← HD.out, drf_stop HO.out]; rfl, HB.out⟩

set_option maxRecDepth 100000 in
theorem refCell_any (n : Int) (w : World) : Calls Try.prog 135 #[.int .i64 n] w fun e w' => e = .returned (.agg #[.int .i64 0, .int .i64 n, .slice none 0 0]) ∧ Below w.heap.size w w' := by
  go_enter Try.func135, Try.ntmps135
  go_wp2
  exact bodyPost_ret (v := .agg #[.int .i64 0, .int .i64 n, .slice none 0 0]) (by simp [results, Try.results135, go_sem]) rfl ⟨rfl, by first | exact Below.refl _ _ | exact (Below.refl _ _).alloc (Nat.le_refl _) _⟩
set_option maxRecDepth 100000 in
theorem numCell_any (n : Int) (w : World) : Calls Try.prog 138 #[.int .i64 n] w fun e w' => e = .returned (.agg #[.int .i64 1, .int .i64 n, .slice none 0 0]) ∧ Below w.heap.size w w' := by
  go_enter Try.func138, Try.ntmps138
  go_wp2
  exact bodyPost_ret (v := .agg #[.int .i64 1, .int .i64 n, .slice none 0 0]) (by simp [results, Try.results138, go_sem]) rfl ⟨rfl, by first | exact Below.refl _ _ | exact (Below.refl _ _).alloc (Nat.le_refl _) _⟩
set_option maxRecDepth 100000 in
theorem strCell_any (n : Int) (w : World) : Calls Try.prog 141 #[.int .i64 n] w fun e w' => e = .returned (.agg #[.int .i64 4, .int .i64 n, .slice none 0 0]) ∧ Below w.heap.size w w' := by
  go_enter Try.func141, Try.ntmps141
  go_wp2
  exact bodyPost_ret (v := .agg #[.int .i64 4, .int .i64 n, .slice none 0 0]) (by simp [results, Try.results141, go_sem]) rfl ⟨rfl, by first | exact Below.refl _ _ | exact (Below.refl _ _).alloc (Nat.le_refl _) _⟩
set_option maxRecDepth 100000 in
theorem atomCell_any (t : List Int) (w : World) (hx : Byte t) : Calls Try.prog 140 #[.string (strOfNums t)] w fun e w' => ∃ p c, e = .returned (.agg #[.int .i64 2, .int .i64 0, .slice p t.length c]) ∧ OwnT w' w.heap.size p t.length c t ∧ Below w.heap.size w w' := by
  obtain ⟨w1, cap, hcv, hb1, hb2⟩ := conv_bytes (w.alloc (.cells #[.int .i64 0, .int .i64 0, .slice none 0 0] 31)) t hx 122 Try.underlying122
  have b0 : Box3 w1 w.heap.size (.int .i64 0) (.int .i64 0) (.slice none 0 0) := Box3.of_block (t := 31) ((hb1.block _ (by simp)).trans (heap_alloc_new _ _))
  have HB : Hid (Below w.heap.size w w1) := Below.on ((Below.refl _ _).alloc (Nat.le_refl _) _) hb1
  simp only [World.size_alloc] at hb2 hcv
  have HO : Hid (OwnT w1 (w.heap.size + 1) (some ⟨w.heap.size + 1, 0, none⟩) t.length cap t) := hb2
  obtain ⟨c0, c1, c2, f1⟩ := b0
  have HD : Hid _ := box3_set c0 c1 c2 (.int .i64 2) (.int .i64 0) (.slice (some ⟨w.heap.size + 1, 0, none⟩) t.length cap)
  clear hx hb1 hb2
  go_enter Try.func140, Try.ntmps140
  go_wp2
  obtain ⟨d0, d1, d2⟩ := HD.out
  refine bodyPost_ret (v := .agg #[.int .i64 2, .int .i64 0, .slice (some ⟨w.heap.size + 1, 0, none⟩) t.length cap]) (by simp [results, Try.results140, go_sem, d0, d1, d2]) rfl ⟨_, _, rfl, ?_, ?_⟩
  · exact (((HO.out.setCell (a := ⟨w.heap.size, 0, none⟩) (fun _ => by simp) _).setCell (a := ⟨w.heap.size, 1, none⟩) (fun _ => by simp) _).setCell (a := ⟨w.heap.size, 2, none⟩) (fun _ => by simp) _).mono (by omega)
  · exact ((HB.out.setCell (p := ⟨_, _, none⟩) (Nat.le_refl _) _).setCell (p := ⟨_, _, none⟩) (Nat.le_refl _) _).setCell (p := ⟨_, _, none⟩) (Nat.le_refl _) _

end Go.Proofs.Ytfnmoaiejpkocaa

namespace Go.Proofs.Ytfnmoaiejpkocaa
open Go Go.RowKit Go.Maps
set_option linter.unusedVariables false

/-- append as one step of a region that draws, its run known. -/
theorem step_app_run {P : Program} {ops : Array Oper} {o : Oper} {a : Act} {K : Act → World → Prop} {Q : Exit → Act → World → Prop} {E : Prop} (hgd : o.guard = none) (s x : Operand) (t u : TypeId)
    (ho : o.op = .call { callee := .builtin .append, args := #[s, x], argTypes := #[t, u] }) (v y r : Value) (w w' : World) (hs : a.eval s = v) (hx : a.eval x = y)
    (hr : (Builtin.append_ #[t, u] o.type #[v, y]).run P w = .ok r w') (h : K (a.put o.dst r) w') : if Region.wanted o (yielded ops a.tmps) = true then Oper.wp P o a w K Q else E := by
  have hw : Region.wanted o (yielded ops a.tmps) = true := by simp [Region.wanted, hgd]
  rw [if_pos hw]
  unfold Oper.wp execOp
  simp only [ho, resolve, invoke, builtin, Sem.run_bind, Sem.run_pure, Result.andThen_ok, List.map_toArray, List.map_cons, List.map_nil, hs, hx, hr]
  exact h
theorem infoCelM : (Try.prog.info? 31).map (fun i => (i.zero, i.size, i.bytes)) = some (some (.agg #[.int .i64 0, .int .i64 0, .slice none 0 0]), 3, 40) := by kernel_rfl
/-- A row of a slice is this cell; its text lies in W0. -/
def RFit (W0 : World) (r : RC) (c : Cel) : Prop := r.1 = c.1 ∧ r.2.1 = c.2.1 ∧ r.2.2.2.1 = c.2.2.length ∧ BIn W0 r.2.2.1 c.2.2
theorem RFit.below {W W' : World} {r : RC} {c : Cel} (h : RFit W r c) (hb : Below W.heap.size W W') : RFit W' r c := ⟨h.1, h.2.1, h.2.2.1, h.2.2.2.below hb⟩
theorem rows_of {w : World} {b : Nat} : ∀ (xs : List Cel) (o : Nat), (∀ i, i < xs.length → CAt w b (o + i * 3) (xs.getD i Cel.none)) → ∃ rs : List RC, rs.length = xs.length ∧ (∀ i, i < xs.length → RFit w (rs.getD i RC.zero) (xs.getD i Cel.none)) ∧ ∀ j u, (flat rs)[j]? = some u → w.cell? ⟨b, o + j, none⟩ = some u
  | [], o, _ => ⟨[], rfl, fun i h => absurd h (Nat.not_lt_zero _), fun j u h => by simp [flat] at h⟩
  | c :: r, o, h => by
    obtain ⟨rs, hl, hf, hc⟩ := rows_of r (o + 3) (fun i hi => by
      have := h (i + 1) (by simpa using hi)
      rw [List.getD_cons_succ, show o + (i + 1) * 3 = o + 3 + i * 3 by omega] at this
      exact this)
    obtain ⟨p, cap, h0, h1, h2, h3⟩ := h 0 (by simp)
    simp only [List.getD_cons_zero, Nat.zero_mul, Nat.add_zero] at h0 h1 h2 h3
    refine ⟨(c.1, c.2.1, p, c.2.2.length, cap) :: rs, by simp [hl], fun i hi => ?_, fun j u hj => ?_⟩
    · cases i with
      | zero => exact ⟨rfl, rfl, rfl, h3⟩
      | succ i => exact hf i (by simpa using hi)
    · rw [flat_cons] at hj
      match j, hj with
      | 0, hj => rw [Nat.add_zero, h0]; simpa using hj
      | 1, hj => rw [h1]; simpa using hj
      | 2, hj => rw [h2]; simpa using hj
      | j + 3, hj =>
        rw [show o + (j + 3) = o + 3 + j by omega]
        exact hc j u (by simpa using hj)
/-- A row of cells of the call's own (from the end of W0 on), whose texts lie in W0. -/
def RowC (W0 w : World) (p : Option Addr) (n c : Nat) (xs : List Cel) : Prop :=
  n = xs.length ∧ ∃ rs : List RC, rs.length = xs.length ∧ w.ownsRow W0.heap.size 31 3 (.slice p n c) n (flat rs) ∧ ∀ i, i < xs.length → RFit W0 (rs.getD i RC.zero) (xs.getD i Cel.none)
theorem RowC.below {W0 w w' : World} {p : Option Addr} {n c : Nat} {xs : List Cel} (h : RowC W0 w p n c xs) (hb : Below w.heap.size w w') : RowC W0 w' p n c xs := by
  obtain ⟨hn, rs, hl, hr, hf⟩ := h
  exact ⟨hn, rs, hl, row_below hr hb, hf⟩
/-- The cells of a row, as they lie. -/
theorem RowC.at {W0 w : World} {p : Option Addr} {n c : Nat} {xs : List Cel} (h : RowC W0 w p n c xs) (i : Nat) (hi : i < xs.length) : ∃ g q cq, p = some ⟨g, 0, none⟩ ∧ W0.heap.size ≤ g ∧ g < w.heap.size ∧ w.cell? ⟨g, i * 3, none⟩ = some (.int .i64 (xs.getD i Cel.none).1) ∧ w.cell? ⟨g, i * 3 + 1, none⟩ = some (.int .i64 (xs.getD i Cel.none).2.1) ∧ w.cell? ⟨g, i * 3 + 2, none⟩ = some (.slice q (xs.getD i Cel.none).2.2.length cq) ∧ BIn W0 q (xs.getD i Cel.none).2.2 := by
  obtain ⟨hn, rs, hl, hr, hf⟩ := h
  obtain ⟨g, cap, hv, hb, hg⟩ := hr.form (by omega)
  simp only [Value.slice.injEq, true_and] at hv
  obtain ⟨rfl, rfl⟩ := hv
  obtain ⟨a0, a1, a2⟩ := flat_at rs i (by omega)
  obtain ⟨f0, f1, f2, f3⟩ := hf i hi
  have d0 := (hr.cellAt (i * 3) (by omega)).trans a0
  have d1 := (hr.cellAt (i * 3 + 1) (by omega)).trans a1
  have d2 := (hr.cellAt (i * 3 + 2) (by omega)).trans a2
  rw [f0] at d0; rw [f1] at d1; rw [f2] at d2
  exact ⟨g, _, _, rfl, hb, hg, d0, d1, d2, f3⟩
theorem flat_oneM (rs : List RC) : ∀ u ∈ flat rs, u.oneCell' = true := fun u hu => by
  simp only [flat, List.mem_flatMap] at hu
  obtain ⟨r, _, hr⟩ := hu
  simp [rcV] at hr
  rcases hr with rfl | rfl | rfl <;> rfl
/-- Cells put onto an empty row. -/
theorem app_nilC (w : World) (ty : TypeId) (q : Option Addr) (c : Nat) (xs : List Cel) (hl : xs.length ≤ 20000) (hin : CIn w q xs) (W0 : World) (hW : Below W0.heap.size W0 w) (hin0 : CIn W0 q xs) :
    ∃ pt ct w1, (Builtin.append_ #[34, 34] ty #[.slice none 0 0, .slice q xs.length c]).run Try.prog w = .ok (.slice pt xs.length ct) w1 ∧ Below w.heap.size w w1 ∧ RowC W0 w1 pt xs.length ct xs ∧ (∀ k, Value.ownBlock (.slice pt xs.length ct) = some k → w.heap.size ≤ k) := by
  obtain ⟨i0, hi, hz0, hz1, hz2⟩ := info_parts infoCelM
  by_cases hn : 0 < xs.length
  · obtain ⟨g, o, rfl, hc⟩ := hin0 hn
    obtain ⟨rs, hrl, hrf, hrc⟩ := rows_of xs o hc
    obtain ⟨g', cap, w', hr, h2, h3, _, _⟩ := run_append_lies (P := Try.prog) w 34 ty w.heap.size 31 i0 (.agg #[.int .i64 0, .int .i64 0, .slice none 0 0]) 3 40 Try.underlying34 hi hz0 hz1 hz2 rfl (by decide) (.slice none 0 0) 0 [] (World.ownsRow_nil _ _ _ _) ⟨g, o, none⟩ xs.length c (flat rs) (by rw [flat_len]; omega)
      (fun j u hj => by
        rw [show (⟨g, o, none⟩ : Addr).add j = ⟨g, o + j, none⟩ from WideShapes.add_plain _ _ _]
        have := hrc j u hj
        exact (hW.cell (World.block_lt_of_cell? _ _ this)).trans this) (flat_oneM rs) hn (by unfold maxLen; omega) (by omega) (Nat.le_refl _) _ rfl
    simp only [Nat.zero_add, List.nil_append] at hr h2
    exact ⟨_, _, w', hr, (Below.refl _ _).grown h3 (Nat.le_refl _) (fun k hk => by cases hk), ⟨rfl, rs, hrl, ownsRow_down h2 hW.size, hrf⟩, fun k hk => (h2.lt k hk).1⟩
  · obtain rfl : xs = [] := by cases xs with | nil => rfl | cons a r => simp at hn
    have hs : Src Try.prog i0.size 34 (.slice q 0 c) 0 [] w := by
      cases q with
      | none => exact Src.ofNil w Try.underlying34 c
      | some ad => exact Src.ofSlice w Try.underlying34 ad 0 c [] (by simp) (fun j u h => by simp at h) (fun u h => by cases h)
    exact ⟨none, 0, w, run_append_nothing w 34 34 ty 31 i0 Try.underlying34 hi none 0 0 (Nat.le_refl _) _ hs, Below.refl _ _, ⟨rfl, [], rfl, World.ownsRow_nil _ _ _ _, fun i h => absurd h (Nat.not_lt_zero _)⟩, fun k hk => by cases hk⟩
/-- Numbers put onto an empty row. -/
theorem app_nilI (w : World) (ty : TypeId) (B : Nat) (q : Option Addr) (c : Nat) (ys : List Int) (hB : B ≤ w.heap.size) (hl : ys.length ≤ 20000) (hin : IIn w q ys) :
    ∃ pt ct w1, (Builtin.append_ #[23, 23] ty #[.slice none 0 0, .slice q ys.length c]).run Try.prog w = .ok (.slice pt ys.length ct) w1 ∧ Below w.heap.size w w1 ∧ OwnI w1 B 3 pt ys.length ct ys ∧ (∀ k, Value.ownBlock (.slice pt ys.length ct) = some k → w.heap.size ≤ k) := by
  obtain ⟨i0, hi, hz0, hz1, hz2⟩ := info_parts infoInt
  by_cases hn : 0 < ys.length
  · obtain ⟨g, o, rfl, hc⟩ := hin hn
    obtain ⟨g', cap, w', hr, h2, h3, _, _⟩ := run_append_lies (P := Try.prog) w 23 ty w.heap.size 3 i0 (.int .i64 0) 1 8 Try.underlying23 hi hz0 hz1 hz2 rfl (by decide) (.slice none 0 0) 0 [] (World.ownsRow_nil _ _ _ _) ⟨g, o, none⟩ ys.length c (ys.map (Value.int .i64)) (by simp)
      (fun j u hj => by
        simp only [List.getElem?_map] at hj
        cases hy : ys[j]? with
        | none => rw [hy] at hj; cases hj
        | some y =>
          rw [hy] at hj
          have hlt : j < ys.length := (List.getElem?_eq_some_iff.1 hy).1
          have := hc j hlt
          rw [show (⟨g, o, none⟩ : Addr).add j = ⟨g, o + j, none⟩ from WideShapes.add_plain _ _ _, this]
          simp [List.getD, hy] at hj ⊢
          exact hj) (ints_oneCell .i64 ys) hn (by unfold maxLen; omega) (by omega) (Nat.le_refl _) _ rfl
    simp only [Nat.zero_add, List.nil_append] at hr h2
    exact ⟨_, _, w', hr, (Below.refl _ _).grown h3 (Nat.le_refl _) (fun k hk => by cases hk), ⟨rfl, ownsRow_down h2 hB⟩, fun k hk => (h2.lt k hk).1⟩
  · obtain rfl : ys = [] := by cases ys with | nil => rfl | cons a r => simp at hn
    have hs : Src Try.prog i0.size 23 (.slice q 0 c) 0 [] w := by
      cases q with
      | none => exact Src.ofNil w Try.underlying23 c
      | some ad => exact Src.ofSlice w Try.underlying23 ad 0 c [] (by simp) (fun j u h => by simp at h) (fun u h => by cases h)
    exact ⟨none, 0, w, run_append_nothing w 23 23 ty 3 i0 Try.underlying23 hi none 0 0 (Nat.le_refl _) _ hs, Below.refl _ _, OwnI.nil _ _ _, fun k hk => by cases hk⟩

/-- Block h is the model's heap with these cells, this trail and this number of pairs; texts lie in W0. -/
def SHp (W0 w : World) (h : Nat) (xs : List Cel) (tr : List Int) (k : Int) : Prop :=
  ∃ pc cc pt ct, w.heap[h]? = some (.cells #[.slice pc xs.length cc, .slice pt tr.length ct, .int .i64 k] 118) ∧ RowC W0 w pc xs.length cc xs ∧ OwnI w W0.heap.size 3 pt tr.length ct tr ∧ W0.heap.size ≤ h ∧ Below W0.heap.size W0 w
theorem SHp.below {W0 w w' : World} {h : Nat} {xs : List Cel} {tr : List Int} {k : Int} (H : SHp W0 w h xs tr k) (hb : Below w.heap.size w w') : SHp W0 w' h xs tr k := by
  obtain ⟨pc, cc, pt, ct, h0, h1, h2, h3, h4⟩ := H
  exact ⟨pc, cc, pt, ct, (hb.block h (Array.getElem?_eq_some_iff.1 h0).1).trans h0, h1.below hb, h2.below hb, h3, Below.on h4 hb⟩

set_option maxHeartbeats 1000000 in
set_option maxRecDepth 100000 in
theorem l10open_any (p q : Option Addr) (c1 c2 : Nat) (xs : List Cel) (tr : List Int) (w : World) (hx : xs.length ≤ 20000) (hy : tr.length ≤ 20000) (hc : CIn w p xs) (hi : IIn w q tr) :
    Calls Try.prog 40 #[.agg #[.slice p xs.length c1, .slice q tr.length c2]] w fun e w' => ∃ h, e = .returned (.pointer (some ⟨h, 0, none⟩)) ∧ SHp w w' h xs tr 0 ∧ Below w.heap.size w w' := by
  obtain ⟨W1, eW1⟩ : ∃ W1, W1 = ((w.alloc (.cells #[.slice p xs.length c1, .slice q tr.length c2] 36)).alloc (.cells #[.slice none 0 0, .slice none 0 0, .int .i64 0] 118)).drew := ⟨_, rfl⟩
  have hb1 : Below w.heap.size w W1 := by rw [eW1]; exact (((Below.refl _ _).alloc (Nat.le_refl _) _).alloc (by simp) _).drew
  obtain ⟨pc, cc, w2, hr1, hb2, hrow, hfr⟩ := app_nilC W1 34 p c1 xs hx (hc.below hb1) w hb1 hc
  have k0 : W1.heap[w.heap.size]? = some (.cells #[.slice p xs.length c1, .slice q tr.length c2] 36) := by
    rw [eW1]; show ((w.alloc _).alloc _).heap[w.heap.size]? = _; rw [Below.heap_alloc _ _ _ (by simp)]; exact heap_alloc_new _ _
  have k1 : W1.heap[w.heap.size + 1]? = some (.cells #[.slice none 0 0, .slice none 0 0, .int .i64 0] 118) := by
    rw [eW1]
    show ((w.alloc _).alloc _).heap[w.heap.size + 1]? = _
    have := heap_alloc_new (w.alloc (.cells #[.slice p xs.length c1, .slice q tr.length c2] 36)) (.cells #[.slice none 0 0, .slice none 0 0, .int .i64 0] 118)
    simpa using this
  have hz1 : W1.heap.size = w.heap.size + 1 + 1 := by rw [eW1]; simp
  have j0 := (hb2.block w.heap.size (by omega)).trans k0
  have j1 := (hb2.block (w.heap.size + 1) (by omega)).trans k1
  obtain ⟨V2, eV2⟩ : ∃ V2, V2 = (w2.setCell ⟨w.heap.size + 1, 0, none⟩ (.slice pc xs.length cc)).drew := ⟨_, rfl⟩
  have hs2 : w.heap.size + 1 + 1 ≤ w2.heap.size := by have := hb2.size; omega
  have hbV : Below w.heap.size w V2 := by rw [eV2]; exact ((Below.on hb1 hb2).setCell (p := ⟨_, _, none⟩) (by simp) _).drew
  have m1 : V2.heap[w.heap.size + 1]? = some (.cells #[.slice pc xs.length cc, .slice none 0 0, .int .i64 0] 118) := by
    rw [eV2]; show (w2.setCell _ _).heap[w.heap.size + 1]? = _; rw [heap_setCell_same _ _ _ _ _ _ j1]; rfl
  have m0 : V2.heap[w.heap.size]? = some (.cells #[.slice p xs.length c1, .slice q tr.length c2] 36) := by
    rw [eV2]; show (w2.setCell _ _).heap[w.heap.size]? = _; rw [heap_setCell_other _ _ _ _ (by simp)]; exact j0
  have hrow2 : RowC w V2 pc xs.length cc xs := by
    obtain ⟨hn, rs, hl, hr, hf⟩ := hrow
    refine ⟨hn, rs, hl, ?_, hf⟩
    rw [eV2]
    exact ownsRow_setCell_other hr (fun e => by have := hfr _ e; simp at this; omega) _
  obtain ⟨pt, ct, w3, hr2, hb3, hint, hfr3⟩ := app_nilI V2 23 w.heap.size q c2 tr hbV.size hy (hi.below hbV)
  have n1 := (hb3.block (w.heap.size + 1) (by have : V2.heap.size = w2.heap.size := by { rw [eV2]; simp }; omega)).trans m1
  have HFIN : Hid (SHp w (w3.setCell ⟨w.heap.size + 1, 1, none⟩ (.slice pt tr.length ct)) (w.heap.size + 1) xs tr 0 ∧ Below w.heap.size w (w3.setCell ⟨w.heap.size + 1, 1, none⟩ (.slice pt tr.length ct))) := by
    have hB : Below w.heap.size w (w3.setCell ⟨w.heap.size + 1, 1, none⟩ (.slice pt tr.length ct)) := (Below.on hbV hb3).setCell (p := ⟨_, _, none⟩) (by simp) _
    have hV2 : V2.heap.size = w2.heap.size := by rw [eV2]; simp
    refine ⟨⟨pc, cc, pt, ct, ?_, ?_, ⟨hint.1, ownsRow_setCell_other hint.2 (fun e => by have := hfr3 _ e; simp at this; omega) _⟩, by omega, hB⟩, hB⟩
    · rw [heap_setCell_same _ _ _ _ _ _ n1]; rfl
    · obtain ⟨hn, rs, hl, hr, hf⟩ := hrow2.below hb3
      refine ⟨hn, rs, hl, ownsRow_setCell_other hr (fun e => ?_) _, hf⟩
      have := hfr _ e
      simp at this; omega
  have a0 : W1.cell? ⟨w.heap.size, 0, none⟩ = some (.slice p xs.length c1) := by simp [World.cell?, k0]
  have a1 : W1.cell? ⟨w.heap.size + 1, 0, none⟩ = some (.slice none 0 0) := by simp [World.cell?, k1]
  have f1 : w2.frozen? ⟨w.heap.size + 1, 0, none⟩ = false := frozen_of_row _ _ _ _ _ j1
  have g1 : w2.cell? ⟨w.heap.size + 1, 0, none⟩ = some (.slice none 0 0) := by simp [World.cell?, j1]
  have b0 : V2.cell? ⟨w.heap.size, 1, none⟩ = some (.slice q tr.length c2) := by simp [World.cell?, m0]
  have b1 : V2.cell? ⟨w.heap.size + 1, 1, none⟩ = some (.slice none 0 0) := by simp [World.cell?, m1]
  have g2 : w3.cell? ⟨w.heap.size + 1, 1, none⟩ = some (.slice none 0 0) := by simp [World.cell?, n1]
  have f2 : w3.frozen? ⟨w.heap.size + 1, 1, none⟩ = false := frozen_of_row _ _ _ _ _ n1
  have hbd : ∀ W, (Instr.build 118 #[]).run Try.prog W = .ok (.agg #[.slice none 0 0, .slice none 0 0, .int .i64 0]) W := fun W => run_build W 118 _ _ (by kernel_rfl)
  rw [eW1] at hr1 a0 a1
  rw [eV2] at hr2 b0 b1
  clear hb1 hb2 hrow hfr k0 k1 hz1 j0 j1 hs2 hbV m1 m0 hrow2 hb3 hint hfr3 n1 hc hi eW1 eV2
  go_enter Try.func40, Try.ntmps40
  go_wp2
  go_region_law (refine step_app_run rfl _ _ _ _ rfl _ _ _ _ _ rfl rfl hr1 ?_)
  all_goals go_wp2
  all_goals go_region_law (refine step_app_run rfl _ _ _ _ rfl _ _ _ _ _ rfl rfl hr2 ?_)
  all_goals go_wp2
  all_goals go_ret
  all_goals exact ⟨_, rfl, HFIN.out⟩

end Go.Proofs.Ytfnmoaiejpkocaa

namespace Go.Proofs.Ytfnmoaiejpkocaa
open Go Go.RowKit
set_option linter.unusedVariables false

theorem l2cell_any (k n : Int) (p : Option Addr) (m c : Nat) (w : World) :
    Calls Try.prog 94 #[.agg #[.int .i64 k, .int .i64 n, .slice p m c]] w fun e w' => e = .returned (.bool (cellB k n m)) ∧ Below w.heap.size w w' := by
  have fin : ∀ {a : Bool} {o : Obj}, a = cellB k n m → (Ending.returned (.bool a) = .returned (.bool (cellB k n m)) ∧ Below w.heap.size w (w.alloc o)) := fun h => ⟨ret_bool h, (Below.refl _ _).alloc (Nat.le_refl _) _⟩
  have FIN : Hid _ := @fin
  clear fin
  by_cases k0 : k = 0
  · subst k0
    by_cases a : 0 ≤ n
    · by_cases b : n ≤ 1000000
      · go_enter Try.func94, Try.ntmps94
        go_wp2
        go_ret
        exact FIN.out (by rw [Bool.eq_iff_iff]; simp [cellB]; omega)
      · go_enter Try.func94, Try.ntmps94
        go_wp2
        go_ret
        exact FIN.out (by rw [Bool.eq_iff_iff]; simp [cellB]; omega)
    · go_enter Try.func94, Try.ntmps94
      go_wp2
      go_ret
      exact FIN.out (by rw [Bool.eq_iff_iff]; simp [cellB]; omega)
  · by_cases k1 : k = 1
    · subst k1
      by_cases a : -1000000000000000 ≤ n
      · by_cases b : n ≤ 1000000000000000
        · go_enter Try.func94, Try.ntmps94
          go_wp2
          go_ret
          exact FIN.out (by rw [Bool.eq_iff_iff]; simp [cellB]; omega)
        · go_enter Try.func94, Try.ntmps94
          go_wp2
          go_ret
          exact FIN.out (by rw [Bool.eq_iff_iff]; simp [cellB]; omega)
      · go_enter Try.func94, Try.ntmps94
        go_wp2
        go_ret
        exact FIN.out (by rw [Bool.eq_iff_iff]; simp [cellB]; omega)
    · have t0 : (k == 0) = false := by simpa using k0
      have t1 : (k == 1) = false := by simpa using k1
      by_cases hm : 100 < m
      · have hm' : (100 : Int) < m := by omega
        have HK : Hid (k ≠ 0 ∧ k ≠ 1) := ⟨k0, k1⟩
        clear k0 k1
        go_enter Try.func94, Try.ntmps94
        go_wp2
        go_ret
        exact FIN.out (by have := HK.out; rw [Bool.eq_iff_iff]; simp [cellB]; omega)
      · have hm' : ¬ (100 : Int) < m := by omega
        by_cases k2 : k = 2
        · subst k2
          clear t0 t1 k0 k1
          go_enter Try.func94, Try.ntmps94
          go_wp2
          go_ret
          exact FIN.out (by rw [Bool.eq_iff_iff]; simp [cellB]; omega)
        · by_cases k3 : k = 3
          · subst k3
            clear t0 t1 k0 k1 k2
            by_cases a : 1 ≤ n
            · go_enter Try.func94, Try.ntmps94
              go_wp2
              go_ret
              exact FIN.out (by rw [Bool.eq_iff_iff]; simp [cellB]; omega)
            · go_enter Try.func94, Try.ntmps94
              go_wp2
              go_ret
              exact FIN.out (by rw [Bool.eq_iff_iff]; simp [cellB]; omega)
          · have t2 : (k == 2) = false := by simpa using k2
            have t3 : (k == 3) = false := by simpa using k3
            have HK : Hid (k ≠ 0 ∧ k ≠ 1 ∧ k ≠ 2 ∧ k ≠ 3) := ⟨k0, k1, k2, k3⟩
            clear k0 k1 k2 k3
            go_enter Try.func94, Try.ntmps94
            go_wp2
            go_ret
            exact FIN.out (by have := HK.out; rw [Bool.eq_iff_iff]; simp [cellB]; omega)

end Go.Proofs.Ytfnmoaiejpkocaa

