/- Texts of BdM, GtM. Own work of the verifier. -/
import Derived.Test.YtfnmoaiejpkocaaUqar
import Derived.Test.YtfnmoaiejpkocaaUqav
import Derived.Test.YtfnmoaiejpkocaaUqau
import Derived.Test.YtfnmoaiejpkocaaUqap
import Derived.Test.YtfnmoaiejpkocaaUqaq
namespace Go.Proofs.Ytfnmoaiejpkocaa
open Go Go.RowKit Go.Maps
set_option linter.unusedVariables false

/-- A cell of the row set anew. -/
theorem SHp.setC {V w : World} {h : Nat} {xs : List Cel} {tr : List Int} {k : Int} {a g cc : Nat} {pt : Option Addr} {ct : Nat} (hh : w.heap[h]? = some (.cells #[.slice (some ⟨g, 0, none⟩) xs.length cc, .slice pt tr.length ct, .int .i64 k] 118)) (hrow : RowC V w (some ⟨g, 0, none⟩) xs.length cc xs) (hint : OwnI w V.heap.size 3 pt tr.length ct tr) (hV : V.heap.size ≤ h) (hB : Below V.heap.size V w) (ha : a < xs.length) (c : Cel) (p : Option Addr) (cp : Nat) (hp : BIn V p c.2.2) :
    SHp V (((w.setCell ⟨g, a * 3, none⟩ (.int .i64 c.1)).setCell ⟨g, a * 3 + 1, none⟩ (.int .i64 c.2.1)).setCell ⟨g, a * 3 + 2, none⟩ (.slice p c.2.2.length cp)) h (xs.set a c) tr k ∧ (((w.setCell ⟨g, a * 3, none⟩ (.int .i64 c.1)).setCell ⟨g, a * 3 + 1, none⟩ (.int .i64 c.2.1)).setCell ⟨g, a * 3 + 2, none⟩ (.slice p c.2.2.length cp)).heap[h]? = w.heap[h]? := by
  obtain ⟨hn, rs, hl, hr, hf⟩ := hrow
  obtain ⟨cur, hg⟩ := ownsRow_block hr (g := g) rfl
  have hgB := (hr.lt g rfl).1
  have hgh : g ≠ h := fun e => by
    rw [e, hh] at hg
    simp only [Option.some.injEq, Obj.cells.injEq] at hg
    exact absurd hg.2.1 (by decide)
  have hgt : Value.ownBlock (.slice pt tr.length ct) ≠ some g := fun e => by
    obtain ⟨cur', hg'⟩ := ownsRow_block hint.2 e
    rw [hg] at hg'
    simp only [Option.some.injEq, Obj.cells.injEq] at hg'
    exact absurd hg'.2.1 (by decide)
  have hsame : (((w.setCell ⟨g, a * 3, none⟩ (.int .i64 c.1)).setCell ⟨g, a * 3 + 1, none⟩ (.int .i64 c.2.1)).setCell ⟨g, a * 3 + 2, none⟩ (.slice p c.2.2.length cp)).heap[h]? = w.heap[h]? := by
    rw [heap_setCell_other _ _ _ _ (by simp; exact fun e => hgh e.symm), heap_setCell_other _ _ _ _ (by simp; exact fun e => hgh e.symm), heap_setCell_other _ _ _ _ (by simp; exact fun e => hgh e.symm)]
  refine ⟨⟨some ⟨g, 0, none⟩, cc, pt, ct, ?_, ⟨by simp, rs.set a (c.1, c.2.1, p, c.2.2.length, cp), by simp [hl], ?_, fun i hi => ?_⟩, ?_, hV, below_put3g hB hgB⟩, hsame⟩
  · rw [hsame, List.length_set]
    exact hh
  · have h3 := (((hr.stored (a * 3) (.int .i64 c.1)).1.stored (a * 3 + 1) (.int .i64 c.2.1)).1.stored (a * 3 + 2) (.slice p c.2.2.length cp)).1
    rw [flat_set rs a (c.1, c.2.1, p, c.2.2.length, cp) (by omega)] at h3
    rw [List.length_set]
    exact h3
  · rw [List.length_set] at hi
    by_cases e : i = a
    · subst e
      have e1 : (rs.set i (c.1, c.2.1, p, c.2.2.length, cp)).getD i RC.zero = (c.1, c.2.1, p, c.2.2.length, cp) := by
        have : i < rs.length := by omega
        simp [List.getD, this]
      have e2 : (xs.set i c).getD i Cel.none = c := by simp [List.getD, hi]
      rw [e1, e2]
      exact ⟨rfl, rfl, rfl, hp⟩
    · have ne : ¬ a = i := fun x => e x.symm
      have e1 : (rs.set a (c.1, c.2.1, p, c.2.2.length, cp)).getD i RC.zero = rs.getD i RC.zero := by simp [List.getD, ne]
      have e2 : (xs.set a c).getD i Cel.none = xs.getD i Cel.none := by simp [List.getD, ne]
      rw [e1, e2]
      exact hf i hi
  · exact ⟨hint.1, ownsRow_setCell_other (ownsRow_setCell_other (ownsRow_setCell_other hint.2 (fun e => hgt e) _) (fun e => hgt e) _) (fun e => hgt e) _⟩

theorem far3 {w : World} {g b o1 o2 o3 i : Nat} {v0 v1 v2 : Value} (h : g ≠ b) : (((w.setCell ⟨g, o1, none⟩ v0).setCell ⟨g, o2, none⟩ v1).setCell ⟨g, o3, none⟩ v2).cell? ⟨b, i, none⟩ = w.cell? ⟨b, i, none⟩ := by
  have n : ∀ o, (⟨g, o, none⟩ : Addr) ≠ ⟨b, i, none⟩ := fun o e => h (congrArg Addr.block e)
  rw [World.cell?_setCell_other _ _ _ _ (n _), World.cell?_setCell_other _ _ _ _ (n _), World.cell?_setCell_other _ _ _ _ (n _)]
theorem app_intM (w : World) (ty : TypeId) (B : Nat) (pt : Option Addr) (ct b : Nat) (tr : List Int) (z : Int) (hl : tr.length ≤ 20000) (hB : B ≤ w.heap.size) (ho : OwnI w B 3 pt tr.length ct tr) (hz : w.cell? ⟨b, 0, none⟩ = some (.int .i64 z)) :
    ∃ g cap w1, (Builtin.append_ #[23, 23] ty #[.slice pt tr.length ct, .slice (some ⟨b, 0, none⟩) 1 1]).run Try.prog w = .ok (.slice (some ⟨g, 0, none⟩) (tr.length + 1) cap) w1 ∧ OwnI w1 B 3 (some ⟨g, 0, none⟩) (tr.length + 1) cap (tr ++ [z]) ∧ w.grownBy w1 (Value.ownBlock (.slice pt tr.length ct)) := by
  obtain ⟨i0, hi, hz0, hz1, hz2⟩ := info_parts infoInt
  obtain ⟨g', cap, w', hr, h2, h3, _, _⟩ := run_append_lies (P := Try.prog) w 23 ty B 3 i0 (.int .i64 0) 1 8 Try.underlying23 hi hz0 hz1 hz2 rfl (by decide) (.slice pt tr.length ct) tr.length (tr.map (Value.int .i64)) ho.2 ⟨b, 0, none⟩ 1 1 [.int .i64 z] rfl
    (fun j u hj => by
      cases j with
      | zero => simp at hj; subst hj; rw [show (⟨b, 0, none⟩ : Addr).add 0 = ⟨b, 0 + 0, none⟩ from WideShapes.add_plain _ _ _]; exact hz
      | succ j => simp at hj) (ints_oneCell .i64 [z]) (by decide) (by unfold maxLen; omega) (by omega) hB _ rfl
  exact ⟨g', cap, w', hr, ⟨by simp, by rw [List.map_append]; exact h2⟩, h3⟩

theorem row_ne2 {w : World} {B s n : Nat} {t : TypeId} {v : Value} {vs : List Value} (h : w.ownsRow B t s v n vs) {b : Nat} {cs : Array Value} {t' : TypeId} (hb : w.heap[b]? = some (.cells cs t')) (ht : t ≠ t') : Value.ownBlock v ≠ some b := fun e => by
  obtain ⟨cur, hg⟩ := ownsRow_block h e
  rw [hb] at hg
  simp only [Option.some.injEq, Obj.cells.injEq] at hg
  exact ht hg.2.1.symm
theorem row_ne3 {w : World} {B B' s s' n n' : Nat} {t t' : TypeId} {v v' : Value} {vs vs' : List Value} (h : w.ownsRow B t s v n vs) (h' : w.ownsRow B' t' s' v' n' vs') (ht : t ≠ t') {g : Nat} (e : Value.ownBlock v = some g) : Value.ownBlock v' ≠ some g := fun e' => by
  obtain ⟨c1, h1⟩ := ownsRow_block h e
  obtain ⟨c2, h2⟩ := ownsRow_block h' e'
  rw [h1] at h2
  simp only [Option.some.injEq, Obj.cells.injEq] at h2
  exact ht h2.2.1
theorem SHp.pushed {V w w1 : World} {h : Nat} {xs : List Cel} {tr : List Int} {k : Int} (H : SHp V w h xs tr k) {pt : Option Addr} {ct : Nat} (c1 : w.cell? ⟨h, 1, none⟩ = some (.slice pt tr.length ct)) (hg : w.grownBy w1 (Value.ownBlock (.slice pt tr.length ct))) {g ct' : Nat} {z : Int} (ho : OwnI w1 V.heap.size 3 (some ⟨g, 0, none⟩) (tr.length + 1) ct' (tr ++ [z])) :
    SHp V (w1.setCell ⟨h, 1, none⟩ (.slice (some ⟨g, 0, none⟩) (tr.length + 1) ct')) h xs (tr ++ [z]) k := by
  obtain ⟨pc, cc, pt', ct2, h0, h1, h2, h3, h4⟩ := H
  have e : w.cell? ⟨h, 1, none⟩ = some (.slice pt' tr.length ct2) := by simp [World.cell?, h0]
  rw [e] at c1
  simp only [Option.some.injEq, Value.slice.injEq, true_and] at c1
  obtain ⟨rfl, rfl⟩ := c1
  have hl : h < w.heap.size := (Array.getElem?_eq_some_iff.1 h0).1
  have b0 := (hg.block h hl (fun e => row_ne2 h2.2 h0 (by decide) e.symm)).trans h0
  obtain ⟨hn, rs, hrl, hr, hf⟩ := h1
  have r1 : w1.ownsRow V.heap.size 31 3 (.slice pc xs.length cc) xs.length (flat rs) := by
    refine ⟨hr.1, ?_⟩
    rcases hr.2 with h' | ⟨g1, cap, cur, hv, hB, hgg, r⟩
    · exact .inl h'
    · exact .inr ⟨g1, cap, cur, hv, hB, (hg.block g1 (Array.getElem?_eq_some_iff.1 hgg).1 (fun e => row_ne3 hr h2.2 (by decide) (g := g1) (by rw [hv]; rfl) e.symm)).trans hgg, r⟩
  have hle : (tr ++ [z]).length = tr.length + 1 := by simp
  refine ⟨pc, cc, some ⟨g, 0, none⟩, ct', ?_, ⟨hn, rs, hrl, ownsRow_setCell_other r1 (row_ne2 r1 b0 (by decide)) _, hf⟩, ?_, h3, ?_⟩
  · rw [heap_setCell_same _ _ _ _ _ _ b0, hle]; rfl
  · rw [hle]
    exact ⟨ho.1, ownsRow_setCell_other ho.2 (row_ne2 ho.2 b0 (by decide)) _⟩
  · exact (h4.grown hg (by omega) (fun k e => (h2.2.lt _ e).1)).setCell (p := ⟨h, 1, none⟩) h3 _

set_option maxHeartbeats 1000000 in
set_option maxRecDepth 100000 in
theorem l10set_any (V : World) (h : Nat) (a : Nat) (p : Option Addr) (cp : Nat) (c : Cel) (xs : List Cel) (tr : List Int) (kk : Int) (w : World) (hl : xs.length ≤ 20000) (ht : tr.length ≤ 20000) (ha : a < xs.length) (hp : BIn V p c.2.2) (H : SHp V w h xs tr kk) :
    Calls Try.prog 87 #[.pointer (some ⟨h, 0, none⟩), .int .i64 a, .agg #[.int .i64 c.1, .int .i64 c.2.1, .slice p c.2.2.length cp]] w fun e w' => if 20000 ≤ tr.length then e = .returned (.int .i64 10) ∧ Below V.heap.size w w' else e = .returned (.int .i64 0) ∧ SHp V w' h (xs.set a c) (tr ++ [(a : Int)]) kk := by
  obtain ⟨W0, eW0⟩ : ∃ W, W = w.alloc (.cells #[.int .i64 c.1, .int .i64 c.2.1, .slice p c.2.2.length cp] 31) := ⟨_, rfl⟩
  have hB0 : Below w.heap.size w W0 := by rw [eW0]; exact alloc_on _ _
  have HB : Hid (Box3 W0 w.heap.size (.int .i64 c.1) (.int .i64 c.2.1) (.slice p c.2.2.length cp)) := by show Box3 _ _ _ _ _; rw [eW0]; exact Box3.of_block (t := 31) (heap_alloc_new _ _)
  obtain ⟨pc, cc, pt, ct, hh', hrow', hint', hV, hB'⟩ := id H
  have hh := (hB0.block h (Array.getElem?_eq_some_iff.1 hh').1).trans hh'
  have hrow := hrow'.below hB0
  have hint := hint'.below hB0
  have hB := Below.on hB' hB0
  have HRB : Hid (∀ gg : Nat, pc = some ⟨gg, 0, none⟩ → gg < w.heap.size) := fun gg e => by
    obtain ⟨_, rs, _, hr, _⟩ := hrow'
    exact (hr.lt gg (by rw [e]; rfl)).2
  clear hh' hrow' hint' hB'
  have c1 : W0.cell? ⟨h, 1, none⟩ = some (.slice pt tr.length ct) := by simp [World.cell?, hh]
  have c0 : W0.cell? ⟨h, 0, none⟩ = some (.slice pc xs.length cc) := by simp [World.cell?, hh]
  have HE0 : Hid _ := eW0
  obtain ⟨b0, b1, b2, b3⟩ := HB.out
  by_cases hfull : 20000 ≤ tr.length
  · simp only [if_pos hfull]
    have hge : (20000 : Int) ≤ tr.length := by omega
    have HZ : Hid (Below V.heap.size w W0) := hB0.mono (by obtain ⟨_, _, _, _, _, _, _, _, hb⟩ := H; exact hb.size)
    rw [eW0] at c1
    clear hh hrow hint hV hB H c0 hp hfull eW0 b0 b1 b2 b3
    go_enter Try.func87, Try.ntmps87
    go_wp2_with fail
    rw [← HE0.out]
    go_ret
    exact ⟨rfl, HZ.out⟩
  · simp only [if_neg hfull]
    have hge : ¬ (20000 : Int) ≤ tr.length := by omega
    obtain ⟨gg, qx, cx, rfl, hg1, hg2, d0, d1, d2, hbx⟩ := hrow.at a ha
    clear hfull
    generalize (xs.getD a Cel.none).1 = y0 at d0
    generalize (xs.getD a Cel.none).2.1 = y1 at d1
    generalize (xs.getD a Cel.none).2.2.length = y2 at d2
    have hbd : Below W0.heap.size W0 W0.drew := (Below.refl _ _).drew
    have hhD := (hbd.block h (Array.getElem?_eq_some_iff.1 hh).1).trans hh
    have HH : Hid _ := SHp.setC hhD (hrow.below hbd) (hint.below hbd) hV (Below.on hB hbd) ha c p cp hp
    have hf : ∀ i, W0.frozen? ⟨gg, i, none⟩ = false := fun i => by obtain ⟨_, rs, _, hr, _⟩ := hrow; exact hr.frozenAt i
    have hgw : gg < W0.heap.size := by obtain ⟨_, rs, _, hr, _⟩ := hrow; exact (hr.lt gg rfl).2
    have hgh : gg ≠ h := fun e => by
      obtain ⟨_, rs, _, hr, _⟩ := hrow
      obtain ⟨cur, hg⟩ := ownsRow_block hr (g := gg) rfl
      rw [e, hh] at hg
      simp only [Option.some.injEq, Obj.cells.injEq] at hg
      exact absurd hg.2.1 (by decide)
    have hgb : gg ≠ w.heap.size := by have := HRB.out gg rfl; omega
    clear hh hrow hint hV hB H hp hbx eW0 hhD
    have c1' := c1
    rw [HE0.out] at c1
    go_enter Try.func87, Try.ntmps87
    go_wp2_with fail
    rw [← HE0.out]
    clear c1
    refine wp_region_held_drew (S := fun W => W.cell? ⟨h, 0, none⟩ = some (.slice (some ⟨gg, 0, none⟩) xs.length cc) ∧ W.cell? ⟨w.heap.size, 0, none⟩ = some (.int .i64 c.1) ∧ W.cell? ⟨w.heap.size, 1, none⟩ = some (.int .i64 c.2.1) ∧ W.cell? ⟨w.heap.size, 2, none⟩ = some (.slice p c.2.2.length cp)) (by kernel_rfl) ⟨c0, b0, b1, b2⟩ (fun hHeld => ?_)
    refine hTake (i := 0) (v := .pointer (some ⟨h, 0, none⟩)) (some 13) (by kernel_rfl) (by kernel_rfl) (by kernel_rfl) (by kernel_rfl) (by kernel_rfl) (fun _ _ _ h => h) (fun o ho W hSw => ?y0) (by assumption) ?_
    case y0 =>
      cases ho
      simp [execOp, go_sem, Act.eval]
    simp only [Act.put, List.setIfInBounds_toArray, List.set_cons_zero, List.set_cons_succ]
    refine hTake (i := 1) (v := .pointer (some ⟨h, 0, none⟩)) (some 14) (by kernel_rfl) (by kernel_rfl) (by kernel_rfl) (by kernel_rfl) (by kernel_rfl) (fun _ _ _ h => h) (fun o ho W hSw => ?y1) (by assumption) ?_
    case y1 =>
      cases ho
      simp [execOp, go_sem, Act.eval]
    simp only [Act.put, List.setIfInBounds_toArray, List.set_cons_zero, List.set_cons_succ]
    refine hTake (i := 2) (v := .pointer (some ⟨h, 0, none⟩)) (some 15) (by kernel_rfl) (by kernel_rfl) (by kernel_rfl) (by kernel_rfl) (by kernel_rfl) (fun _ _ _ h => h) (fun o ho W hSw => ?y2) (by assumption) ?_
    case y2 =>
      cases ho
      simp [execOp, go_sem, Act.eval]
    simp only [Act.put, List.setIfInBounds_toArray, List.set_cons_zero, List.set_cons_succ]
    refine hTake (i := 3) (v := .slice (some ⟨gg, 0, none⟩) xs.length cc) (some 16) (by kernel_rfl) (by kernel_rfl) (by kernel_rfl) (by kernel_rfl) (by kernel_rfl) (fun _ _ _ h => h) (fun o ho W hSw => ?y3) (by assumption) ?_
    case y3 =>
      cases ho
      simp [execOp, go_sem, Act.eval, hSw]
    simp only [Act.put, List.setIfInBounds_toArray, List.set_cons_zero, List.set_cons_succ]
    refine hTake (i := 4) (v := .int .i64 a) (some 17) (by kernel_rfl) (by kernel_rfl) (by kernel_rfl) (by kernel_rfl) (by kernel_rfl) (fun _ _ _ h => h) (fun o ho W hSw => ?y4) (by assumption) ?_
    case y4 =>
      cases ho
      simp [execOp, go_sem, Act.eval]
    simp only [Act.put, List.setIfInBounds_toArray, List.set_cons_zero, List.set_cons_succ]
    refine hTake (i := 5) (v := .agg #[.int .i64 c.1, .int .i64 c.2.1, .slice p c.2.2.length cp]) (some 18) (by kernel_rfl) (by kernel_rfl) (by kernel_rfl) (by kernel_rfl) (by kernel_rfl) (fun _ _ _ h => h) (fun o ho W hSw => ?y5) (by assumption) ?_
    case y5 =>
      cases ho
      simp [execOp, go_sem, Act.eval, hSw]
    simp only [Act.put, List.setIfInBounds_toArray, List.set_cons_zero, List.set_cons_succ]
    refine hTake (i := 6) (v := .pointer (some ⟨gg, a * 3, none⟩)) (some 19) (by kernel_rfl) (by kernel_rfl) (by kernel_rfl) (by kernel_rfl) (by kernel_rfl) (fun _ _ _ h => h) (fun o ho W hSw => ?y6) (by assumption) ?_
    case y6 =>
      cases ho
      simp [execOp, go_sem, Act.eval, ha]
    simp only [Act.put, List.setIfInBounds_toArray, List.set_cons_zero, List.set_cons_succ]
    have hS9 : (fun W => W.cell? ⟨h, 0, none⟩ = some (.slice (some ⟨gg, 0, none⟩) xs.length cc) ∧ W.cell? ⟨w.heap.size, 0, none⟩ = some (.int .i64 c.1) ∧ W.cell? ⟨w.heap.size, 1, none⟩ = some (.int .i64 c.2.1) ∧ W.cell? ⟨w.heap.size, 2, none⟩ = some (.slice p c.2.2.length cp)) (((W0.drew.setCell ⟨gg, a * 3, none⟩ (.int .i64 c.1)).setCell ⟨gg, a * 3 + 1, none⟩ (.int .i64 c.2.1)).setCell ⟨gg, a * 3 + 2, none⟩ (.slice p c.2.2.length cp)) := ⟨(far3 hgh).trans c0, (far3 hgb).trans b0, (far3 hgb).trans b1, (far3 hgb).trans b2⟩
    refine hStore (i := 7) (w' := (((W0.drew.setCell ⟨gg, a * 3, none⟩ (.int .i64 c.1)).setCell ⟨gg, a * 3 + 1, none⟩ (.int .i64 c.2.1)).setCell ⟨gg, a * 3 + 2, none⟩ (.slice p c.2.2.length cp))) (by kernel_rfl) (by kernel_rfl) (by kernel_rfl) (fun o ho => ?y7) hS9 ?_
    case y7 =>
      cases ho
      simp [execOp, go_sem, Act.eval, d0, d1, d2, hf]
    have c1W : (((W0.drew.setCell ⟨gg, a * 3, none⟩ (.int .i64 c.1)).setCell ⟨gg, a * 3 + 1, none⟩ (.int .i64 c.2.1)).setCell ⟨gg, a * 3 + 2, none⟩ (.slice p c.2.2.length cp)).cell? ⟨h, 1, none⟩ = some (.slice pt tr.length ct) := (far3 hgh).trans c1'
    clear hS9 hHeld c0 b0 b1 b2 b3 d0 d1 d2 hf c1' HB hbd HE0 HRB hgw
    generalize (((W0.drew.setCell ⟨gg, a * 3, none⟩ (.int .i64 c.1)).setCell ⟨gg, a * 3 + 1, none⟩ (.int .i64 c.2.1)).setCell ⟨gg, a * 3 + 2, none⟩ (.slice p c.2.2.length cp)) = W2 at HH c1W ⊢
    refine wpAnyH_done (by kernel_rfl) ?_ _
    change Exit.then _ _ _ _ _
    have H3 := HH.out.1.below (alloc_on W2 (.cells #[.int .i64 (a : Int)] 3))
    have hn3 : (W2.alloc (.cells #[.int .i64 (a : Int)] 3)).cell? ⟨W2.heap.size, 0, none⟩ = some (.int .i64 (a : Int)) := by
      unfold World.cell?
      rw [heap_alloc_new W2 (.cells #[.int .i64 (a : Int)] 3)]
      rfl
    have c13 : (W2.alloc (.cells #[.int .i64 (a : Int)] 3)).cell? ⟨h, 1, none⟩ = some (.slice pt tr.length ct) := ((alloc_on W2 _).cell (World.block_lt_of_cell? _ _ c1W)).trans c1W
    obtain ⟨pc3, cc3, pt3, ct3, hh3, hrow3, hint3, hV3, hB3⟩ := id H3
    have e3 : (W2.alloc (.cells #[.int .i64 (a : Int)] 3)).cell? ⟨h, 1, none⟩ = some (.slice pt3 tr.length ct3) := by simp [World.cell?, hh3]
    rw [c13] at e3
    simp only [Option.some.injEq, Value.slice.injEq, true_and] at e3
    obtain ⟨rfl, rfl⟩ := e3
    obtain ⟨g9, cap9, w9, hr9, ho9, hg9⟩ := app_intM (W2.alloc (.cells #[.int .i64 (a : Int)] 3)) 23 V.heap.size pt ct W2.heap.size tr (a : Int) ht hB3.size hint3 hn3
    have HF : Hid _ := H3.pushed c13 hg9 ho9
    have b9 := (hg9.block h (Array.getElem?_eq_some_iff.1 hh3).1 (fun e => row_ne2 hint3.2 hh3 (by decide) e.symm)).trans hh3
    have k9 : w9.cell? ⟨h, 1, none⟩ = some (.slice pt tr.length ct) := by simp [World.cell?, b9]
    have f9 : w9.frozen? ⟨h, 1, none⟩ = false := frozen_of_row _ _ _ _ _ b9
    clear hh3 hrow3 hint3 hV3 hB3 H3 hn3 c13 ho9 hg9 b9 HH
    go_wp2_with (at_builtin; refine wpList_app_run rfl _ _ _ _ rfl _ _ _ _ _ rfl rfl hr9 ?_)
    go_ret
    exact ⟨rfl, HF.out⟩

end Go.Proofs.Ytfnmoaiejpkocaa

namespace Go.Proofs.Ytfnmoaiejpkocaa
open Go Go.RowKit Go.Maps
set_option linter.unusedVariables false

/-- append of one cell, its run told, and what it leaves as it was. -/
theorem run_app_cellG (W0 w : World) (ty : TypeId) (B : Nat) (p : Option Addr) (n c : Nat) (cs : List Cel) (hown : OwnC W0 B p n c cs) (hb0 : Below W0.heap.size W0 w) (hB : B ≤ W0.heap.size) (b : Nat) (kd nn : Int) (tp : Option Addr) (tn tc : Nat) (t : List Int)
    (ht : OwnT w W0.heap.size tp tn tc t) (hbox : Box3 w b (.int .i64 kd) (.int .i64 nn) (.slice tp tn tc)) (hlen : n + 1 ≤ 1000000000) :
    ∃ g cap w', (Builtin.append_ #[34, 34] ty #[.slice p n c, .slice (some ⟨b, 0, none⟩) 1 1]).run Try.prog w = .ok (.slice (some ⟨g, 0, none⟩) (n + 1) cap) w' ∧ OwnC w' B (some ⟨g, 0, none⟩) (n + 1) cap (cs ++ [(kd, nn, t)]) ∧ w.grownBy w' (Value.ownBlock (.slice p n c)) ∧ (Value.ownBlock (.slice p n c) = some g ∨ g = w.heap.size) := by
  obtain ⟨i0, hi, hz0, hz1, hz2⟩ := info_parts infoCelM
  obtain ⟨hn, rs, hl, hr, hf, ha⟩ := hown
  obtain ⟨g, cap, w', hrun, hown', hgrow, hat, _⟩ := run_append_lies (P := Try.prog) w 34 ty B 31 i0 (.agg #[.int .i64 0, .int .i64 0, .slice none 0 0]) 3 40 Try.underlying34 hi hz0 hz1 hz2 rfl (by decide) (.slice p n c) n (flat rs) (row_below hr hb0) ⟨b, 0, none⟩ 1 1 (rcV (kd, nn, tp, tn, tc)) rfl (news_rc (r := (kd, nn, tp, tn, tc)) hbox) (rcV_one _) (by decide) (by unfold maxLen; omega) (by omega) (Nat.le_trans hB hb0.size) w.heap.size rfl
  exact ⟨g, cap, w', hrun, ownC_grew hn hl hr hf ha hb0 hB ht hown' hgrow hat, hgrow, hat⟩
theorem grow_on {w w1 w2 : World} {o o1 : Option Nat} (h1 : w.grownBy w1 o) (h2 : w1.grownBy w2 o1) (ho : o1 = o ∨ ∀ g, o1 = some g → w.heap.size ≤ g) : w.grownBy w2 o :=
  ⟨h2.os.trans h1.os, h2.tape.trans h1.tape, h2.output.trans h1.output, Nat.le_trans h1.size h2.size, fun k hk hne => (h2.block k (Nat.lt_of_lt_of_le hk h1.size) (fun e => by
    rcases ho with ho | ho
    · exact hne (by rw [e, ho])
    · have := ho k e.symm; omega)).trans (h1.block k hk hne)⟩
theorem grow_below {w w1 : World} {o : Option Nat} (h : Below w.heap.size w w1) : w.grownBy w1 o := ⟨h.os, h.tape, h.output, h.size, fun k hk _ => h.block k hk⟩
/-- What l10get answers. -/
def GetOut (cells ys : List Cel) (B : Nat) (w : World) (o : Option Nat) (e : Ending) (w' : World) : Prop :=
  (ys.length + cells.length ≤ 2000 → ∃ p' n' c', e = .returned (.tuple #[.slice p' n' c', .bool true]) ∧ OwnC w' B p' n' c' (ys ++ cells) ∧ (Value.ownBlock (.slice p' n' c') = o ∨ ∀ g, Value.ownBlock (.slice p' n' c') = some g → w.heap.size ≤ g)) ∧
  (¬ ys.length + cells.length ≤ 2000 → e = .returned (.tuple #[.slice none 0 0, .bool false])) ∧ w.grownBy w' o
/-- The contract of l10get, at a depth. -/
def GetOk (V W1 : World) (h : Nat) (xs : List Cel) (f : Nat) : Prop := ∀ (c : Cel) (p : Option Addr) (cp : Nat) (ys : List Cel) (pt : Option Addr) (n ct B : Nat) (w : World), WdC xs c → okW c.1 c.2.1 c.2.2.length = true → Byte c.2.2 → dW xs (drf xs c) < f → BIn V p c.2.2 → OwnC w B pt n ct ys → W1.heap.size ≤ B → B ≤ w.heap.size → Below W1.heap.size W1 w → n ≤ 2000 →
  Calls Try.prog 51 #[.pointer (some ⟨h, 0, none⟩), .agg #[.int .i64 c.1, .int .i64 c.2.1, .slice p c.2.2.length cp], .slice pt n ct] w (GetOut (gF xs f c).cells ys B w (Value.ownBlock (.slice pt n ct)))

set_option maxHeartbeats 400000 in
set_option maxRecDepth 100000 in
theorem l10get_any (V W1 : World) (h : Nat) (xs : List Cel) (tr : List Int) (kz : Int) (g : Good xs) (hO : OkS xs) (H : SHp V W1 h xs tr kz) : ∀ f, GetOk V W1 h xs f := by
  intro f
  induction f with
  | zero => intro c p cp ys pt n ct B w _ _ _ hf; exact absurd hf (Nat.not_lt_zero _)
  | succ f ih =>
    intro c p cp ys pt n ct B w hc hok hby hf hp hown hWB hBw hW1 hn
    obtain ⟨W0, eW0⟩ : ∃ W, W = w.alloc (.cells #[.int .i64 c.1, .int .i64 c.2.1, .slice p c.2.2.length cp] 31) := ⟨_, rfl⟩
    have hB0 : Below w.heap.size w W0 := by rw [eW0]; exact alloc_on _ _
    have hbk : Box3 W0 w.heap.size (.int .i64 c.1) (.int .i64 c.2.1) (.slice p c.2.2.length cp) := by rw [eW0]; exact Box3.of_block (t := 31) (heap_alloc_new _ _)
    have hl := g.shp.len
    have HDE := l10deref_any V h p cp c xs tr kz W0 g hc hp (H.below (Below.on hW1 hB0))
    have hd := (drf_word g hc).1
    have hfa := drf_facts g hc (fun a ha => (hO a ha).1) hok (fun a ha => (hO a ha).2) hby
    obtain ⟨⟨hdo, hdb⟩, _⟩ := drf_ind g (P := fun c => okW c.1 c.2.1 c.2.2.length = true ∧ Byte c.2.2) (fun a ha _ => hO a ha) _ c (Nat.le_refl _) hc ⟨hok, hby⟩
    have HOWN : Hid (OwnC w B pt n ct ys) := hown
    have HNY : Hid (n = ys.length) := hown.1
    have HX0 : Hid (∀ W, Below W0.heap.size W0 W → Box3 W w.heap.size (.int .i64 c.1) (.int .i64 c.2.1) (.slice p c.2.2.length cp)) := fun W hW => hbk.on hW
    have HB0 : Hid _ := hB0
    have HE0 : Hid _ := eW0
    have HW1 : Hid (Below W1.heap.size W1 w) := hW1
    have HZ : Hid (1 ≤ (gF xs (f + 1) c).cells.length) := gZ_pos xs (f + 1) c
    have hbwn : Value.ownBlock (.slice pt n ct) ≠ some w.heap.size := fun e => by
      obtain ⟨_, rs, _, hr, _⟩ := hown
      have := (hr.lt _ e).2
      omega
    have HBN : Hid _ := hbwn
    -- a leaf: one cell behind
    have HLEAF : Hid ((drf xs c).1 ≠ 4 → n < 2000 → ∀ (W2 w3 : World) (b : Nat) (tp : Option Addr) (tn tc : Nat), Below w.heap.size w W2 → Below W2.heap.size W2 w3 → OwnT w3 w.heap.size tp tn tc (drf xs c).2.2 → Box3 w3 b (.int .i64 (drf xs c).1) (.int .i64 (drf xs c).2.1) (.slice tp tn tc) →
        ∃ g' cap w4, (Builtin.append_ #[34, 34] 34 #[.slice pt n ct, .slice (some ⟨b, 0, none⟩) 1 1]).run Try.prog w3 = .ok (.slice (some ⟨g', 0, none⟩) (n + 1) cap) w4 ∧ GetOut (gF xs (f + 1) c).cells ys B w (Value.ownBlock (.slice pt n ct)) (.returned (.tuple #[.slice (some ⟨g', 0, none⟩) (n + 1) cap, .bool true])) w4) := fun h4 hlt W2 w3 b tp tn tc hW2 hw3 ht hbx => by
      have hwx : Below w.heap.size w w3 := Below.on hW2 hw3
      obtain ⟨g', cap, w4, hr, ho4, hg4, hat⟩ := run_app_cellG w w3 34 B pt n ct ys hown hwx hBw b _ _ tp tn tc _ ht hbx (by omega)
      have hz : (gF xs (f + 1) c).cells = [drf xs c] := by rw [gF_leaf h4]; rfl
      refine ⟨g', cap, w4, hr, ?_, ?_, grow_on (grow_below hwx) hg4 (.inl rfl)⟩
      · intro _
        refine ⟨_, _, _, rfl, by rw [hz]; exact ho4, ?_⟩
        rcases hat with h' | h'
        · exact .inl h'.symm
        · exact .inr (fun g2 e => by
            simp only [Value.ownBlock, Option.some.injEq] at e
            have := hwx.size
            omega)
      · intro hh
        exact absurd (by rw [hz, ← HNY.out]; simp; omega) hh
    have HFULL : Hid (¬ n < 2000 → ∀ w', Below w.heap.size w w' → GetOut (gF xs (f + 1) c).cells ys B w (Value.ownBlock (.slice pt n ct)) (.returned (.tuple #[.slice none 0 0, .bool false])) w') := fun hge w' hb => ⟨fun hh => absurd hh (by rw [← HNY.out]; have := HZ.out; omega), fun _ => rfl, grow_below hb⟩
    have HDB : Hid (Byte (drf xs c).2.2) := hdb
    have HHp : Hid (∀ W, Below w.heap.size w W → SHp V W h xs tr kz) := fun W hW => H.below (Below.on hW1 hW)
    have HFX : Hid (∀ a, a < xs.length → ∃ gg cc qx cx, BIn V qx (xs.getD a Cel.none).2.2 ∧ ∀ W, Below W1.heap.size W1 W → W.cell? ⟨h, 0, none⟩ = some (.slice (some ⟨gg, 0, none⟩) xs.length cc) ∧ W.cell? ⟨gg, a * 3, none⟩ = some (.int .i64 (xs.getD a Cel.none).1) ∧ W.cell? ⟨gg, a * 3 + 1, none⟩ = some (.int .i64 (xs.getD a Cel.none).2.1) ∧ W.cell? ⟨gg, a * 3 + 2, none⟩ = some (.slice qx (xs.getD a Cel.none).2.2.length cx)) := fun a ha => by
      obtain ⟨pc, cc, pt2, ct2, hh, hrow, _, _, _⟩ := H
      obtain ⟨gg, qx, cx, rfl, hg1, hg2, d0, d1, d2, hqx⟩ := hrow.at a ha
      refine ⟨gg, cc, qx, cx, hqx, fun W hW => ?_⟩
      have hh' := (hW.block h (Array.getElem?_eq_some_iff.1 hh).1).trans hh
      exact ⟨by simp [World.cell?, hh'], (hW.cell (p := ⟨gg, a * 3, none⟩) hg2).trans d0, (hW.cell (p := ⟨gg, a * 3 + 1, none⟩) hg2).trans d1, (hW.cell (p := ⟨gg, a * 3 + 2, none⟩) hg2).trans d2⟩
    have hdl : (drf xs c).2.2.length ≤ 100 := by
      generalize (drf xs c).2.2.length = m at hdo ⊢
      unfold okW at hdo
      split at hdo
      · simp at hdo; omega
      · simp only [cellB, decide_eq_true_eq] at hdo; omega
    obtain ⟨x0, ex0⟩ : ∃ x, x = (drf xs c).1 := ⟨_, rfl⟩
    obtain ⟨x1, ex1⟩ : ∃ x, x = (drf xs c).2.1 := ⟨_, rfl⟩
    obtain ⟨xt, ext⟩ : ∃ x, x = (drf xs c).2.2 := ⟨_, rfl⟩
    obtain ⟨x2, ex2⟩ : ∃ x, x = xt.length := ⟨_, rfl⟩
    rw [← ex0, ← ex1, ← ext] at HDE HLEAF hfa
    rw [← ext] at HDB hdl
    rw [← ex2] at HDE hdl
    have HEX : Hid (x0 = (drf xs c).1 ∧ x1 = (drf xs c).2.1 ∧ xt = (drf xs c).2.2 ∧ x2 = xt.length) := ⟨ex0, ex1, ext, ex2⟩
    have HC : Hid (WdC xs (drf xs c)) := hd
    have HIH : Hid (GetOk V W1 h xs f) := ih
    have HG : Hid (Good xs) := g
    have HO : Hid (OkS xs) := hO
    have HF : Hid (dW xs (drf xs c) < f + 1) := hf
    obtain ⟨y0, y1, y2, y3⟩ := HX0.out W0 (Below.refl _ _)
    rw [eW0] at y0 y1 y2 y3 HDE
    clear H hc hok hby hf hp hown hW1 hB0 hbk hd hdo hdb ih hO g ex0 ex1 ext ex2 eW0 hbwn
    -- the box of the word that was followed
    have HPUT : Hid (∀ w1 (p2 : Option Addr) (cp2 : Nat), Below W0.heap.size W0 w1 → ∃ W2, W2 = ((w1.setCell ⟨w.heap.size, 0, none⟩ (.int .i64 x0)).setCell ⟨w.heap.size, 1, none⟩ (.int .i64 x1)).setCell ⟨w.heap.size, 2, none⟩ (.slice p2 x2 cp2) ∧ Box3 W2 w.heap.size (.int .i64 x0) (.int .i64 x1) (.slice p2 x2 cp2) ∧ Below w.heap.size w W2) := fun w1 p2 cp2 hw1 => ⟨_, rfl, (HX0.out w1 hw1).put _ _ _, below_put3 (Below.on HB0.out hw1) (Nat.le_refl _) _ _ _⟩
    go_enter Try.func51, Try.ntmps51
    go_wp2_with fail
    refine HDE.mono ?_
    rintro e w1 ⟨p2, cp2, rfl, hp2, hb1⟩
    rw [← HE0.out] at hb1
    obtain ⟨W2, eW2, hbx2, hwW2⟩ := HPUT.out w1 p2 cp2 hb1
    obtain ⟨z0, z1, z2, z3⟩ := HX0.out w1 hb1
    have HP2 : Hid (BIn W2 p2 xt) := by
      obtain ⟨_, _, _, _, _, _, _, _, hVw⟩ := HHp.out w (Below.refl _ _)
      exact (hp2.below hVw).below hwW2
    have HP2V : Hid (BIn V p2 xt) := hp2
    have HE2 : Hid _ := eW2
    have HX2 : Hid (Box3 W2 w.heap.size (.int .i64 x0) (.int .i64 x1) (.slice p2 x2 cp2)) := hbx2
    have HW2 : Hid _ := hwW2
    clear hp2 hb1 hbx2 hwW2 HDE HPUT y0 y1 y2 y3 eW2
    go_upto_region 2 with fail
    rw [← HE2.out]
    clear HE2 z0 z1 z2 z3
    obtain ⟨z0, z1, z2, z3⟩ := HX2.out
    by_cases hfull : n < 2000
    · have n2 : ¬ ((2000 : Int) ≤ (n : Int)) := by omega
      rcases hfa with ⟨q0, qt⟩ | ⟨q0, qt⟩ | ⟨q0, q1, qb⟩ | ⟨q0, qt⟩
      · have hL := HLEAF.out (by omega) hfull W2 (W2.alloc (.cells #[.int .i64 0, .int .i64 x1, .slice none 0 0] 31)) W2.heap.size none 0 0 HW2.out (alloc_on _ _) (by rw [qt]; exact ⟨rfl, fun h => absurd h (Nat.lt_irrefl 0)⟩) (by rw [q0]; exact Box3.of_block (t := 31) (heap_alloc_new _ _))
        obtain ⟨g', cap, w4, hr, hout⟩ := hL
        have HOUT : Hid (GetOut (gF xs (f + 1) c).cells ys B w (Value.ownBlock (.slice pt n ct)) (.returned (.tuple #[.slice (some ⟨g', 0, none⟩) (n + 1) cap, .bool true])) w4) := hout
        have e0 : (x0 == 0) = true := by simp [q0]
        clear HLEAF HFULL hout qt q0
        go_wp2_with (at_builtin; refine wpList_app_run rfl _ _ _ _ rfl _ _ _ _ _ rfl rfl hr ?_)
        exact bodyPost_ret (v := .tuple #[.slice (some ⟨g', 0, none⟩) (n + 1) cap, .bool true]) (by simp [results, Try.results51, go_sem]) rfl HOUT.out
      · have hL := HLEAF.out (by omega) hfull W2 (W2.alloc (.cells #[.int .i64 1, .int .i64 x1, .slice none 0 0] 31)) W2.heap.size none 0 0 HW2.out (alloc_on _ _) (by rw [qt]; exact ⟨rfl, fun h => absurd h (Nat.lt_irrefl 0)⟩) (by rw [q0]; exact Box3.of_block (t := 31) (heap_alloc_new _ _))
        obtain ⟨g', cap, w4, hr, hout⟩ := hL
        have HOUT : Hid (GetOut (gF xs (f + 1) c).cells ys B w (Value.ownBlock (.slice pt n ct)) (.returned (.tuple #[.slice (some ⟨g', 0, none⟩) (n + 1) cap, .bool true])) w4) := hout
        have e0 : (x0 == 0) = false := by simp [q0]
        have e1 : (x0 == 1) = true := by simp [q0]
        clear HLEAF HFULL hout qt q0
        go_wp2_with (at_builtin; refine wpList_app_run rfl _ _ _ _ rfl _ _ _ _ _ rfl rfl hr ?_)
        exact bodyPost_ret (v := .tuple #[.slice (some ⟨g', 0, none⟩) (n + 1) cap, .bool true]) (by simp [results, Try.results51, go_sem]) rfl HOUT.out
      · have hcopy := l1copy_all p2 x2 cp2 xt W2 HEX.out.2.2.2 (by omega) HP2.out
        have HL : Hid (∀ w3 p3 n3 c3, OwnS w3 W2.heap.size p3 n3 c3 xt → Below W2.heap.size W2 w3 → ∃ g' cap w4, (Builtin.append_ #[34, 34] 34 #[.slice pt n ct, .slice (some ⟨w3.heap.size, 0, none⟩) 1 1]).run Try.prog (w3.alloc (.cells #[.int .i64 2, .int .i64 0, .slice p3 n3 c3] 31)) = .ok (.slice (some ⟨g', 0, none⟩) (n + 1) cap) w4 ∧ GetOut (gF xs (f + 1) c).cells ys B w (Value.ownBlock (.slice pt n ct)) (.returned (.tuple #[.slice (some ⟨g', 0, none⟩) (n + 1) cap, .bool true])) w4) := fun w3 p3 n3 c3 hos hb3 =>
          HLEAF.out (by omega) hfull W2 _ w3.heap.size p3 n3 c3 HW2.out (Below.on hb3 (alloc_on _ _)) ((hos.toT.mono HW2.out.size).below (alloc_on _ _)) (by rw [q0, q1]; exact Box3.of_block (t := 31) (heap_alloc_new _ _))
        have e0 : (x0 == 0) = false := by simp [q0]
        have e1 : (x0 == 1) = false := by simp [q0]
        have e2 : (x0 == 2) = true := by simp [q0]
        clear HLEAF HFULL q0 q1 qb
        go_wp2_with fail
        refine hcopy.mono ?_
        rintro e w3 ⟨p3, n3, c3, rfl, hos, hb3⟩
        obtain ⟨g', cap, w4, hr, hout⟩ := HL.out w3 p3 n3 c3 hos hb3
        have HOUT : Hid (GetOut (gF xs (f + 1) c).cells ys B w (Value.ownBlock (.slice pt n ct)) (.returned (.tuple #[.slice (some ⟨g', 0, none⟩) (n + 1) cap, .bool true])) w4) := hout
        clear hout hos hb3 hcopy HL
        go_wp2_with (at_builtin; refine wpList_app_run rfl _ _ _ _ rfl _ _ _ _ _ rfl rfl hr ?_)
        exact bodyPost_ret (v := .tuple #[.slice (some ⟨g', 0, none⟩) (n + 1) cap, .bool true]) (by simp [results, Try.results51, go_sem]) rfl HOUT.out
      · have h4 : (drf xs c).1 = 4 := by rw [← HEX.out.1]; exact q0
        obtain ⟨s0', s1', s2'⟩ := HC.out.2.2 h4
        rw [← HEX.out.2.1] at s0' s1' s2'
        obtain ⟨s, rfl⟩ : ∃ s : Nat, x1 = s := ⟨x1.toNat, by omega⟩
        simp only [Int.toNat_natCast] at s2'
        have hs : s < xs.length := by omega
        obtain ⟨f1, f2, f3⟩ := HG.out.shp.funs s hs s2'
        obtain ⟨nn, enn⟩ : ∃ nn : Nat, numA xs s = nn := ⟨(numA xs s).toNat, by omega⟩
        have hnn : nn ≤ 20 := by omega
        have hn1 : 1 ≤ nn := by omega
        have HCELLS : Hid ((gF xs (f + 1) c).cells = (3, (nn : Int), (xs.getD s Cel.none).2.2) :: (argF xs f s nn).cells) := by
          show _ = _
          rw [gF_comp h4 s nn HEX.out.2.1.symm enn]
          simp [Fo.cells]
        have HD : Hid (∀ k, k < nn → dW xs (drf xs (xs.getD (s + (k + 1)) Cel.none)) < f) := fun k hk => by
          have h1 := dW_arg HG.out HC.out h4 (i := k) (by rw [← HEX.out.2.1]; simp only [Int.toNat_natCast]; omega)
          rw [← HEX.out.2.1] at h1
          simp only [Int.toNat_natCast] at h1
          have := HF.out
          omega
        have HAR : Hid (∀ k, k < nn → s + (k + 1) < xs.length ∧ kndA xs (s + (k + 1)) ≠ 3) := fun k hk => f3 (k + 1) (by omega) (by omega)
        have hst := (HO.out s hs)
        have e3 : (xs.getD s Cel.none).1 = 3 := s2'
        have e3n : (xs.getD s Cel.none).2.1 = (nn : Int) := enn
        obtain ⟨st, est⟩ : ∃ st, st = (xs.getD s Cel.none).2.2 := ⟨_, rfl⟩
        have hstl : st.length ≤ 100 := by
          have := hst.1
          rw [e3, e3n, ← est] at this
          unfold okW at this
          simp [cellB] at this
          omega
        obtain ⟨stl, estl⟩ : ∃ m, m = st.length := ⟨_, rfl⟩
        rw [← estl] at hstl
        obtain ⟨pc, cc, pt2, ct2, hh, hrow, _, _, _⟩ := HHp.out W2 HW2.out
        obtain ⟨gg, qx, cx, rfl, hg1, hg2, d0, d1, d2, hqx⟩ := hrow.at s hs
        rw [e3] at d0
        rw [e3n] at d1
        rw [← est] at d2 hqx
        rw [← estl] at d2
        rw [← est] at HCELLS
        have h0 : W2.cell? ⟨h, 0, none⟩ = some (.slice (some ⟨gg, 0, none⟩) xs.length cc) := by simp [World.cell?, hh]
        have HQX : Hid (BIn V qx st ∧ stl = st.length) := ⟨hqx, estl⟩
        have e0 : (x0 == 0) = false := by simp [q0]
        have e1 : (x0 == 1) = false := by simp [q0]
        have e2 : (x0 == 2) = false := by simp [q0]
        have hwz2 : w.heap.size < W2.heap.size := World.block_lt_of_cell? _ _ z0
        clear HLEAF HFULL q0 qt s0' s1' s2' f1 f2 f3 hst hrow hh hg1 hg2 hqx est estl enn e3 e3n
        go_wp2
        go_region_held3 (fun W => W.cell? ⟨h, 0, none⟩ = some (.slice (some ⟨gg, 0, none⟩) xs.length cc) ∧ W.cell? ⟨w.heap.size, 1, none⟩ = some (.int .i64 s) ∧ W.cell? ⟨gg, s * 3, none⟩ = some (.int .i64 3) ∧ W.cell? ⟨gg, s * 3 + 1, none⟩ = some (.int .i64 nn) ∧ W.cell? ⟨gg, s * 3 + 2, none⟩ = some (.slice qx stl cx)) (go_keep) (fail)
        rename_i hheld
        clear hheld h0 d0 d1 d2
        obtain ⟨W3, eW3⟩ : ∃ W, W = (W2.alloc (.cells #[.int .i64 3, .int .i64 nn, .slice qx stl cx] 31)).drew := ⟨_, rfl⟩
        have hb23 : Below W2.heap.size W2 W3 := by rw [eW3]; exact (alloc_on _ _).drew
        have HX3 : Hid (Box3 W3 w.heap.size (.int .i64 x0) (.int .i64 s) (.slice p2 x2 cp2) ∧ Box3 W3 W2.heap.size (.int .i64 3) (.int .i64 nn) (.slice qx stl cx)) := ⟨HX2.out.on hb23, by rw [eW3]; exact Box3.of_block (t := 31) (heap_alloc_new W2 _)⟩
        have HW3 : Hid (Below w.heap.size w W3) := Below.on HW2.out hb23
        have hbfz : W2.heap.size < W3.heap.size := HX3.out.2.lt
        rw [← eW3]
        clear eW3 hb23 z0 z1 z2 z3
        generalize W2.heap.size = bf at HX3 hbfz hwz2 ⊢
        have hVw : Below V.heap.size V w := by obtain ⟨_, _, _, _, _, _, _, _, hVw⟩ := HHp.out w (Below.refl _ _); exact hVw
        have HCP : Hid (Calls Try.prog 41 #[.slice qx stl cx] (W3.drewN 1) fun e w' => ∃ p' n' c', e = .returned (.slice p' n' c') ∧ OwnS w' W3.heap.size p' n' c' st ∧ Below W3.heap.size W3 w') := (l1copy_all qx stl cx st (W3.drewN 1) HQX.out.2 (by omega) (((HQX.out.1.below hVw).below HW3.out).below (below_drewN (Below.refl _ _) 1))).mono fun e w' ⟨p', n', c', h1, h2, h3⟩ => ⟨p', n', c', h1, h2, (below_drewN (Below.refl _ _) 1).trans h3⟩
        have HAP : Hid (∀ w4 p4 n4 c4, OwnS w4 W3.heap.size p4 n4 c4 st → Below W3.heap.size W3 w4 → ∃ g' cap w5, (Builtin.append_ #[34, 34] 34 #[.slice pt n ct, .slice (some ⟨w4.heap.size, 0, none⟩) 1 1]).run Try.prog (w4.alloc (.cells #[.int .i64 3, .int .i64 nn, .slice p4 n4 c4] 31)) = .ok (.slice (some ⟨g', 0, none⟩) (n + 1) cap) w5 ∧
            (OwnC w5 B (some ⟨g', 0, none⟩) (n + 1) cap (ys ++ [(3, (nn : Int), st)]) ∧ (Value.ownBlock (.slice (some ⟨g', 0, none⟩) (n + 1) cap) = Value.ownBlock (.slice pt n ct) ∨ ∀ g2, Value.ownBlock (.slice (some ⟨g', 0, none⟩) (n + 1) cap) = some g2 → w.heap.size ≤ g2)) ∧ w.grownBy w5 (Value.ownBlock (.slice pt n ct)) ∧ (Value.ownBlock (.slice (some ⟨g', 0, none⟩) (n + 1) cap) ≠ some w.heap.size ∧ Value.ownBlock (.slice (some ⟨g', 0, none⟩) (n + 1) cap) ≠ some bf) ∧ (w5.cell? ⟨w.heap.size, 1, none⟩ = some (.int .i64 s) ∧ w5.cell? ⟨bf, 1, none⟩ = some (.int .i64 nn) ∧ w5.cell? ⟨bf, 2, none⟩ = some (.slice qx stl cx)) ∧ bf < w5.heap.size) := fun w4 p4 n4 c4 hos hb4 => by
          have hb4a := Below.on hb4 (alloc_on w4 (.cells #[.int .i64 3, .int .i64 nn, .slice p4 n4 c4] 31))
          have hwx := Below.on HW3.out hb4a
          have hs3 := HW3.out.size
          have hs4 := hb4.size
          obtain ⟨g', cap, w5, hr, ho5, hg5, hat⟩ := run_app_cellG w _ 34 B pt n ct ys HOWN.out hwx hBw w4.heap.size 3 nn p4 n4 c4 st ((hos.toT.mono hs3).below (alloc_on _ _)) (Box3.of_block (t := 31) (heap_alloc_new _ _)) (by omega)
          have hx4 := HX3.out.1.on hb4a
          have hf4 := HX3.out.2.on hb4a
          have hob : ∀ g2, Value.ownBlock (.slice pt n ct) = some g2 → g2 < w.heap.size := fun g2 e => by
            obtain ⟨_, rs, _, hr', _⟩ := HOWN.out
            exact (hr'.lt _ e).2
          have hz : (w4.alloc (.cells #[.int .i64 3, .int .i64 nn, .slice p4 n4 c4] 31)).heap.size = w4.heap.size + 1 := by simp
          have kx := hg5.block w.heap.size (by omega) (fun e => by have := hob _ e.symm; omega)
          have kf := hg5.block bf (by omega) (fun e => by have := hob _ e.symm; omega)
          have c2 := (World.cell?_of_block (a := ⟨bf, 2, none⟩) kf).trans hf4.2.2.1
          refine ⟨g', cap, w5, hr, ⟨ho5, ?_⟩, grow_on (grow_below hwx) hg5 (.inl rfl), ⟨fun e => ?_, fun e => ?_⟩, ⟨(World.cell?_of_block (a := ⟨w.heap.size, 1, none⟩) kx).trans hx4.2.1, (World.cell?_of_block (a := ⟨bf, 1, none⟩) kf).trans hf4.2.1, c2⟩, World.block_lt_of_cell? _ _ c2⟩
          · rcases hat with h' | h'
            · exact .inl h'.symm
            · exact .inr (fun g2 e => by simp only [Value.ownBlock, Option.some.injEq] at e; omega)
          · simp only [Value.ownBlock, Option.some.injEq] at e
            rcases hat with h' | h'
            · have := hob _ h'; omega
            · omega
          · simp only [Value.ownBlock, Option.some.injEq] at e
            rcases hat with h' | h'
            · have := hob _ h'; omega
            · omega
        obtain ⟨_, y1, _, _⟩ := HX3.out.1
        obtain ⟨v0, v1, v2, v3⟩ := HX3.out.2
        have HK4 : Hid (∀ W, Below W3.heap.size W3 W → W.cell? ⟨bf, 1, none⟩ = some (.int .i64 nn) ∧ W.cell? ⟨bf, 2, none⟩ = some (.slice qx stl cx)) := fun W hW => ⟨(HX3.out.2.on hW).2.1, (HX3.out.2.on hW).2.2.1⟩
        go_wp2
        go_region_held3 (fun W => W.cell? ⟨bf, 1, none⟩ = some (.int .i64 nn) ∧ W.cell? ⟨bf, 2, none⟩ = some (.slice qx stl cx)) (first | exact kk | go_keep)
          (first
            | (go_at_call 41; refine Calls.mono HCP.out ?_; rintro e w4 ⟨p4, n4, c4, rfl, hos, hb4⟩; obtain ⟨g', cap, w5, hr, h51, h52, h53, h54, h55⟩ := HAP.out w4 p4 n4 c4 hos hb4; have kk := HK4.out w4 hb4; clear hos hb4 HCP HAP)
            | (refine step_app_run rfl _ _ _ _ rfl _ _ _ _ _ rfl rfl hr ?_; have kk := h54.2))
        rename_i hheld
        clear hheld kk
        obtain ⟨o, eo⟩ : ∃ o, o = Value.ownBlock (.slice pt n ct) := ⟨_, rfl⟩
        rw [← eo] at h51 h52 ⊢
        have HOB : Hid (∀ g2, o = some g2 → B ≤ g2 ∧ g2 < w.heap.size) := fun g2 e => by
          obtain ⟨_, rs, _, hr', _⟩ := HOWN.out
          rw [eo] at e
          exact ⟨(hr'.lt _ e).1, (hr'.lt _ e).2⟩
        -- what the loop keeps
        have HBEL : Hid (∀ W, w.grownBy W o → Below W1.heap.size W1 W ∧ B ≤ W.heap.size) := fun W hg => by
          have hb := (Below.refl B w).grown hg hBw (fun k e => (HOB.out k e).1)
          exact ⟨HW1.out.trans (hb.mono hWB), Nat.le_trans hBw hg.size⟩
        have HL0 : Hid (OwnC w5 B (some ⟨g', 0, none⟩) (n + 1) cap (ys ++ (3, (nn : Int), st) :: (argF xs f s 0).cells) ∧ (Value.ownBlock (.slice (some ⟨g', 0, none⟩) (n + 1) cap) = o ∨ ∀ g2, Value.ownBlock (.slice (some ⟨g', 0, none⟩) (n + 1) cap) = some g2 → w.heap.size ≤ g2) ∧ Value.ownBlock (.slice (some ⟨g', 0, none⟩) (n + 1) cap) ≠ some w.heap.size ∧ Value.ownBlock (.slice (some ⟨g', 0, none⟩) (n + 1) cap) ≠ some bf) := ⟨h51.1, h51.2, h53.1, h53.2⟩
        have HG0 : Hid (w.grownBy w5 o ∧ w5.cell? ⟨w.heap.size, 1, none⟩ = some (.int .i64 s) ∧ w5.cell? ⟨bf, 1, none⟩ = some (.int .i64 nn) ∧ bf < w5.heap.size) := ⟨h52, h54.1, h54.2.1, h55⟩
        clear h51 h52 h53 h54 h55 hr y1 v0 v1 v2 v3 HK4 HX3 HX2 HW2 HW3 HP2 HP2V HX0 HB0 HE0
        have HEO : Hid (o = Value.ownBlock (.slice pt n ct)) := eo
        clear eo
        have HNW : Hid _ := hwz2
        clear hwz2 hbfz
        go_wp2
        go_loopw [2, 9, 10] (fun q okv i wr => ∃ (k : Nat) (okb : Bool) (p4 : Option Addr) (n4 c4 : Nat), k ≤ nn ∧ n4 ≤ 2000 ∧ q = .slice p4 n4 c4 ∧ okv = .bool okb ∧ i = .int .i64 ((k : Int) + 1) ∧ Hid (okb = true → OwnC wr B p4 n4 c4 (ys ++ (3, (nn : Int), st) :: (argF xs f s k).cells) ∧ (Value.ownBlock (.slice p4 n4 c4) = o ∨ ∀ g2, Value.ownBlock (.slice p4 n4 c4) = some g2 → w.heap.size ≤ g2) ∧ Value.ownBlock (.slice p4 n4 c4) ≠ some w.heap.size ∧ Value.ownBlock (.slice p4 n4 c4) ≠ some bf) ∧ Hid (okb = false → Value.slice p4 n4 c4 = .slice none 0 0 ∧ ¬ ys.length + (1 + aZ xs f s nn) ≤ 2000) ∧ Hid (w.grownBy wr o ∧ wr.cell? ⟨w.heap.size, 1, none⟩ = some (.int .i64 s) ∧ wr.cell? ⟨bf, 1, none⟩ = some (.int .i64 nn) ∧ bf < wr.heap.size)) (fun _ _ i _ => nn + 1 - (intOf i).toNat)
        case atStart => exact ⟨0, true, _, _, _, Nat.zero_le _, by omega, rfl, rfl, rfl, (fun _ => HL0.out), (fun h => by cases h), HG0⟩
        case round =>
          obtain ⟨k, okb, p4, n4, c4, hk, hn4, rfl, rfl, rfl, HL, HNO, HGR⟩ := hrel
          obtain ⟨hgw, b1, v1, hbfz⟩ := HGR.out
          have HEND : Hid ((okb = true → k = nn) → GetOut (gF xs (f + 1) c).cells ys B w o (.returned (.tuple #[.slice p4 n4 c4, .bool okb])) wr) := fun hkk => by
            have hzz : ys.length + (gF xs (f + 1) c).cells.length = ys.length + (1 + aZ xs f s nn) := by
              rw [HCELLS.out]; simp [aZ]; omega
            unfold GetOut
            rw [hzz]
            cases okb with
            | true =>
              have hkn := hkk rfl
              subst hkn
              obtain ⟨l1, l2, l3, l4⟩ := HL.out rfl
              have hle := l1.1
              simp only [List.length_append, List.length_cons] at hle
              have hz2 : (argF xs f s k).cells.length = aZ xs f s k := rfl
              refine ⟨fun _ => ⟨_, _, _, rfl, by rw [HCELLS.out]; exact l1, l2⟩, fun hh => absurd (by omega) hh, hgw⟩
            | false =>
              obtain ⟨l1, l2⟩ := HNO.out rfl
              refine ⟨fun hh => absurd hh l2, fun _ => by rw [l1], hgw⟩
          have hkb : k ≤ 20 := by omega
          clear hgw
          by_cases hlt : k < nn
          · cases okb with
            | true =>
              have hle : (k : Int) + 1 ≤ (nn : Int) := by omega
              obtain ⟨l1, l2, l3, l4⟩ := HL.out rfl
              obtain ⟨ha1, ha2⟩ := HAR.out k hlt
              obtain ⟨hbW, hBr⟩ := HBEL.out wr HGR.out.1
              obtain ⟨gg, cc, qx, cx, hqx, hcells⟩ := HFX.out _ ha1
              have hbd : Below wr.heap.size wr (wr.drewN 1) := below_drewN (Below.refl _ _) 1
              have hcall := HIH.out _ qx cx _ p4 n4 c4 B (wr.drewN 1) (HG.out.at ha1 ha2) (HO.out _ ha1).1 (HO.out _ ha1).2 (HD.out k hlt) hqx (l1.below hbd) hWB (Nat.le_trans hBr hbd.size) (Below.on hbW hbd) hn4
              have hyl := l1.1
              simp only [List.length_append, List.length_cons] at hyl
              have HYL : Hid (n4 = ys.length + ((argF xs f s k).cells.length + 1)) := hyl
              have HAF : Hid ((argF xs f s (k + 1)).cells = (argF xs f s k).cells ++ (gF xs f (xs.getD (s + (k + 1)) Cel.none)).cells) := by show _ = _; rw [argF_succ, Fo.cells_cat]
              have HZL : Hid (ys.length + (1 + aZ xs f s (k + 1)) ≤ ys.length + (1 + aZ xs f s nn)) := by have := aZ_mono xs f s (k := k + 1) (n := nn) (by omega); show _ ≤ _; omega
              have HZK : Hid (aZ xs f s (k + 1) = (argF xs f s (k + 1)).cells.length) := rfl
              generalize gF xs f (xs.getD (s + (k + 1)) Cel.none) = Fx at hcall HAF
              generalize (argF xs f s k).cells = ak at hcall HAF HYL l1
              generalize xs.getD (s + (k + 1)) Cel.none = z at hcall hcells
              obtain ⟨zl, ezl⟩ : ∃ l, l = z.2.2.length := ⟨_, rfl⟩
              rw [← ezl] at hcall hcells
              obtain ⟨tt, ett⟩ : ∃ t : Nat, t = s + (k + 1) := ⟨_, rfl⟩
              rw [← ett] at hcells ha1
              have hwr : IntKind.i64.wrap ((s : Int) + ((k : Int) + 1)) = (tt : Int) := by rw [show (s : Int) + ((k : Int) + 1) = tt by omega, IntKind.wrap_i64]; omega
              obtain ⟨h0, d0, d1, d2⟩ := hcells wr hbW
              have hwz : w.heap.size < wr.heap.size := World.block_lt_of_cell? _ _ b1
              -- behind the call
              have HAFT : Hid (∀ w6, (wr.drewN 1).grownBy w6 (Value.ownBlock (.slice p4 n4 c4)) → (w.grownBy w6 o ∧ w6.cell? ⟨w.heap.size, 1, none⟩ = some (.int .i64 s) ∧ w6.cell? ⟨bf, 1, none⟩ = some (.int .i64 nn) ∧ bf < w6.heap.size) ∧ (w6.cell? ⟨h, 0, none⟩ = some (.slice (some ⟨gg, 0, none⟩) xs.length cc) ∧ w6.cell? ⟨w.heap.size, 1, none⟩ = some (.int .i64 s) ∧ w6.cell? ⟨gg, tt * 3, none⟩ = some (.int .i64 z.1) ∧ w6.cell? ⟨gg, tt * 3 + 1, none⟩ = some (.int .i64 z.2.1) ∧ w6.cell? ⟨gg, tt * 3 + 2, none⟩ = some (.slice qx zl cx))) := fun w6 hg6 => by
                have hgr := grow_on (grow_on HGR.out.1 (grow_below (o := o) hbd) (.inl rfl)) hg6 l2
                obtain ⟨t0, t1, t2, t3⟩ := hcells w6 (HBEL.out w6 hgr).1
                have kx := hg6.block w.heap.size (by simpa using hwz) (fun e => l3 e.symm)
                have kf := hg6.block bf (by simpa using hbfz) (fun e => l4 e.symm)
                have c1 : w6.cell? ⟨w.heap.size, 1, none⟩ = some (.int .i64 s) := (World.cell?_of_block (a := ⟨w.heap.size, 1, none⟩) kx).trans ((hbd.cell (p := ⟨w.heap.size, 1, none⟩) hwz).trans b1)
                have c2 : w6.cell? ⟨bf, 1, none⟩ = some (.int .i64 nn) := (World.cell?_of_block (a := ⟨bf, 1, none⟩) kf).trans ((hbd.cell (p := ⟨bf, 1, none⟩) hbfz).trans v1)
                exact ⟨⟨hgr, c1, c2, World.block_lt_of_cell? _ _ c2⟩, t0, c1, t1, t2, t3⟩
              have HBK : Hid (∀ (p6 : Option Addr) (n6 c6 : Nat), (Value.ownBlock (.slice p6 n6 c6) = Value.ownBlock (.slice p4 n4 c4) ∨ ∀ g2, Value.ownBlock (.slice p6 n6 c6) = some g2 → (wr.drewN 1).heap.size ≤ g2) → (Value.ownBlock (.slice p6 n6 c6) = o ∨ ∀ g2, Value.ownBlock (.slice p6 n6 c6) = some g2 → w.heap.size ≤ g2) ∧ Value.ownBlock (.slice p6 n6 c6) ≠ some w.heap.size ∧ Value.ownBlock (.slice p6 n6 c6) ≠ some bf) := fun p6 n6 c6 h6 => by
                rcases h6 with h6 | h6
                · rw [h6]; exact ⟨l2, l3, l4⟩
                · have hsd : (wr.drewN 1).heap.size = wr.heap.size := by simp
                  exact ⟨.inr (fun g2 e => by have := h6 g2 e; omega), fun e => by have := h6 _ e; omega, fun e => by have := h6 _ e; omega⟩
              have HCA : Hid _ := hcall
              by_cases hfit : (ys ++ (3, (nn : Int), st) :: ak).length + Fx.cells.length ≤ 2000
              · have HCY : Hid (Calls Try.prog 51 #[.pointer (some ⟨h, 0, none⟩), .agg #[.int .i64 z.1, .int .i64 z.2.1, .slice qx zl cx], .slice p4 n4 c4] (wr.drewN 1) fun e w6 => ∃ p6 n6 c6, e = .returned (.tuple #[.slice p6 n6 c6, .bool true]) ∧ n6 ≤ 2000 ∧ OwnC w6 B p6 n6 c6 (ys ++ (3, (nn : Int), st) :: (argF xs f s (k + 1)).cells) ∧ (Value.ownBlock (.slice p6 n6 c6) = Value.ownBlock (.slice p4 n4 c4) ∨ ∀ g2, Value.ownBlock (.slice p6 n6 c6) = some g2 → (wr.drewN 1).heap.size ≤ g2) ∧ (wr.drewN 1).grownBy w6 (Value.ownBlock (.slice p4 n4 c4))) := Calls.mono HCA.out (fun e w6 ⟨hy, _, hg6⟩ => by
                  obtain ⟨p6, n6, c6, he, ho6, hb6⟩ := hy hfit
                  refine ⟨p6, n6, c6, he, ?_, ?_, hb6, hg6⟩
                  · rw [ho6.1, List.length_append]; exact hfit
                  · rw [HAF.out]; simpa using ho6)
                clear hcall HCA hfit hcells hqx l1 l2 l3 l4 hbW hBr hbd HL HNO HEND hyl ezl ett ha2 HAF HYL HZL HZK
                go_wp2
                go_region_held3 (fun W => W.cell? ⟨h, 0, none⟩ = some (.slice (some ⟨gg, 0, none⟩) xs.length cc) ∧ W.cell? ⟨w.heap.size, 1, none⟩ = some (.int .i64 s) ∧ W.cell? ⟨gg, tt * 3, none⟩ = some (.int .i64 z.1) ∧ W.cell? ⟨gg, tt * 3 + 1, none⟩ = some (.int .i64 z.2.1) ∧ W.cell? ⟨gg, tt * 3 + 2, none⟩ = some (.slice qx zl cx)) (first | exact kk | go_keep)
                  (first | (go_at_call 51; refine Calls.mono HCY.out ?_; rintro e w6 ⟨p6, n6, c6, rfl, hn6, ho6, hb6, hg6⟩; have HO6 : Hid (OwnC w6 B p6 n6 c6 (ys ++ (3, (nn : Int), st) :: (argF xs f s (k + 1)).cells)) := ho6; have HB6 : Hid _ := HBK.out p6 n6 c6 hb6; have HG6 : Hid (w.grownBy w6 o ∧ w6.cell? ⟨w.heap.size, 1, none⟩ = some (.int .i64 s) ∧ w6.cell? ⟨bf, 1, none⟩ = some (.int .i64 nn) ∧ bf < w6.heap.size) := (HAFT.out w6 hg6).1; have kk := (HAFT.out w6 hg6).2; clear ho6 hb6 hg6 HAFT HBK))
                rename_i hheld
                clear hheld kk h0 d0 d1 d2 HCY b1 v1
                go_wp2
                go_roundw
                case rel => exact ⟨k + 1, true, p6, n6, c6, by omega, hn6, rfl, rfl, by first | rfl | (simp; done) | (push_cast; rfl), (fun _ => ⟨HO6.out, HB6.out⟩), (fun h => by cases h), HG6⟩
                case measure => simp [intOf]; omega
              · have HNF : Hid (¬ ys.length + (1 + aZ xs f s nn) ≤ 2000) := fun hh => hfit (by
                  have h1 := HZL.out
                  rw [HZK.out, HAF.out, List.length_append] at h1
                  simp only [List.length_append, List.length_cons]
                  omega)
                have HCN : Hid (Calls Try.prog 51 #[.pointer (some ⟨h, 0, none⟩), .agg #[.int .i64 z.1, .int .i64 z.2.1, .slice qx zl cx], .slice p4 n4 c4] (wr.drewN 1) fun e w6 => e = .returned (.tuple #[.slice none 0 0, .bool false]) ∧ (wr.drewN 1).grownBy w6 (Value.ownBlock (.slice p4 n4 c4))) := Calls.mono HCA.out (fun e w6 ⟨_, hno, hg6⟩ => ⟨hno hfit, hg6⟩)
                clear hcall HCA hfit hcells hqx l1 l2 l3 l4 hbW hBr hbd HL HNO HEND hyl ezl ett ha2 HAF HYL HZL HZK
                go_wp2
                go_region_held3 (fun W => W.cell? ⟨h, 0, none⟩ = some (.slice (some ⟨gg, 0, none⟩) xs.length cc) ∧ W.cell? ⟨w.heap.size, 1, none⟩ = some (.int .i64 s) ∧ W.cell? ⟨gg, tt * 3, none⟩ = some (.int .i64 z.1) ∧ W.cell? ⟨gg, tt * 3 + 1, none⟩ = some (.int .i64 z.2.1) ∧ W.cell? ⟨gg, tt * 3 + 2, none⟩ = some (.slice qx zl cx)) (first | exact kk | go_keep)
                  (first | (go_at_call 51; refine Calls.mono HCN.out ?_; rintro e w6 ⟨rfl, hg6⟩; have HG6 : Hid (w.grownBy w6 o ∧ w6.cell? ⟨w.heap.size, 1, none⟩ = some (.int .i64 s) ∧ w6.cell? ⟨bf, 1, none⟩ = some (.int .i64 nn) ∧ bf < w6.heap.size) := (HAFT.out w6 hg6).1; have kk := (HAFT.out w6 hg6).2; clear hg6 HAFT HBK))
                rename_i hheld
                clear hheld kk h0 d0 d1 d2 HCN b1 v1
                go_wp2
                go_roundw
                case rel => exact ⟨k + 1, false, none, 0, 0, by omega, by omega, rfl, rfl, by first | rfl | (simp; done) | (push_cast; rfl), (fun h => by cases h), (fun _ => ⟨rfl, HNF.out⟩), HG6⟩
                case measure => simp [intOf]; omega
            | false =>
              have hle : (k : Int) + 1 ≤ (nn : Int) := by omega
              have HE : Hid (GetOut (gF xs (f + 1) c).cells ys B w o (.returned (.tuple #[.slice p4 n4 c4, .bool false])) wr) := HEND.out (fun h => by cases h)
              clear HEND HL HNO
              go_wp2
              exact bodyPost_ret (v := .tuple #[.slice p4 n4 c4, .bool false]) (by simp [results, Try.results51, go_sem]) rfl (by rw [← HEO.out]; exact HE.out)
          · have hle : ¬ (k : Int) + 1 ≤ (nn : Int) := by omega
            have HE : Hid (GetOut (gF xs (f + 1) c).cells ys B w o (.returned (.tuple #[.slice p4 n4 c4, .bool okb])) wr) := HEND.out (fun _ => by omega)
            clear HEND HL HNO
            go_wp2
            exact bodyPost_ret (v := .tuple #[.slice p4 n4 c4, .bool okb]) (by simp [results, Try.results51, go_sem]) rfl (by rw [← HEO.out]; exact HE.out)
    · have n2 : (2000 : Int) ≤ (n : Int) := by omega
      have HR : Hid (GetOut (gF xs (f + 1) c).cells ys B w (Value.ownBlock (.slice pt n ct)) (.returned (.tuple #[.slice none 0 0, .bool false])) W2) := HFULL.out hfull W2 HW2.out
      clear HLEAF HFULL
      go_wp2
      exact bodyPost_ret (v := .tuple #[.slice none 0 0, .bool false]) (by simp [results, Try.results51, go_sem]) rfl HR.out

end Go.Proofs.Ytfnmoaiejpkocaa

