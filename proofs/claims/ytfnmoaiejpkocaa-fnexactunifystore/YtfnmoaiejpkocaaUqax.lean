/- Texts of BdM, BdN, BdW. Own work of the verifier. -/
import Derived.Test.YtfnmoaiejpkocaaUqan
import Derived.Test.YtfnmoaiejpkocaaUqaw
import Derived.Test.YtfnmoaiejpkocaaUqao
import Derived.Test.YtfnmoaiejpkocaaUqah
import Derived.Test.YtfnmoaiejpkocaaUqau
namespace Go.Proofs.Ytfnmoaiejpkocaa
open Go Go.RowKit Go.Maps
set_option linter.unusedVariables false

/-- A cell of the row set anew. -/
theorem SHp.setC {V w : World} {h : Nat} {xs : List Cel} {tr : List Int} {k : Int} {a g cc : Nat} {pt : Option Addr} {ct : Nat} (hh : w.heap[h]? = some (.cells #[.slice (some ⟨g, 0, none⟩) xs.length cc, .slice pt tr.length ct, .int .i64 k] 118)) (hrow : RowC V w (some ⟨g, 0, none⟩) xs.length cc xs) (hint : OwnI w V.heap.size 3 pt tr.length ct tr) (hV : V.heap.size ≤ h) (hB : Below V.heap.size V w) (ha : a < xs.length) (c : Cel) (p : Option Addr) (cp : Nat) (hp : BIn V p c.2.2) :
    SHp V (((w.setCell ⟨g, a * 3, none⟩ (.int .i64 c.1)).setCell ⟨g, a * 3 + 1, none⟩ (.int .i64 c.2.1)).setCell ⟨g, a * 3 + 2, none⟩ (.slice p c.2.2.length cp)) h (xs.set a c) tr k ∧ (((w.setCell ⟨g, a * 3, none⟩ (.int .i64 c.1)).setCell ⟨g, a * 3 + 1, none⟩ (.int .i64 c.2.1)).setCell ⟨g, a * 3 + 2, none⟩ (.slice p c.2.2.length cp)).heap[h]? = w.heap[h]? := by
  obtain ⟨hn, rs, hl, hr, hf⟩ := hrow
  obtain ⟨cur, hg⟩ := ownsRow_block hr (g := g) rfl
  have hgB := (hr.lt g rfl).1
  have hgh : g ≠ h := fun e => by
    rw [e, hh] at hg
    simp only [Option.some.injEq, Obj.cells.injEq] at hg
    exact absurd hg.2.1 (by decide)
  have hgt : Value.ownBlock (.slice pt tr.length ct) ≠ some g := fun e => by
    obtain ⟨cur', hg'⟩ := ownsRow_block hint.2 e
    rw [hg] at hg'
    simp only [Option.some.injEq, Obj.cells.injEq] at hg'
    exact absurd hg'.2.1 (by decide)
  have hsame : (((w.setCell ⟨g, a * 3, none⟩ (.int .i64 c.1)).setCell ⟨g, a * 3 + 1, none⟩ (.int .i64 c.2.1)).setCell ⟨g, a * 3 + 2, none⟩ (.slice p c.2.2.length cp)).heap[h]? = w.heap[h]? := by
    rw [heap_setCell_other _ _ _ _ (by simp; exact fun e => hgh e.symm), heap_setCell_other _ _ _ _ (by simp; exact fun e => hgh e.symm), heap_setCell_other _ _ _ _ (by simp; exact fun e => hgh e.symm)]
  refine ⟨⟨some ⟨g, 0, none⟩, cc, pt, ct, ?_, ⟨by simp, rs.set a (c.1, c.2.1, p, c.2.2.length, cp), by simp [hl], ?_, fun i hi => ?_⟩, ?_, hV, below_put3g hB hgB⟩, hsame⟩
  · rw [hsame, List.length_set]
    exact hh
  · have h3 := (((hr.stored (a * 3) (.int .i64 c.1)).1.stored (a * 3 + 1) (.int .i64 c.2.1)).1.stored (a * 3 + 2) (.slice p c.2.2.length cp)).1
    rw [flat_set rs a (c.1, c.2.1, p, c.2.2.length, cp) (by omega)] at h3
    rw [List.length_set]
    exact h3
  · rw [List.length_set] at hi
    by_cases e : i = a
    · subst e
      have e1 : (rs.set i (c.1, c.2.1, p, c.2.2.length, cp)).getD i RC.zero = (c.1, c.2.1, p, c.2.2.length, cp) := by
        have : i < rs.length := by omega
        simp [List.getD, this]
      have e2 : (xs.set i c).getD i Cel.none = c := by simp [List.getD, hi]
      rw [e1, e2]
      exact ⟨rfl, rfl, rfl, hp⟩
    · have ne : ¬ a = i := fun x => e x.symm
      have e1 : (rs.set a (c.1, c.2.1, p, c.2.2.length, cp)).getD i RC.zero = rs.getD i RC.zero := by simp [List.getD, ne]
      have e2 : (xs.set a c).getD i Cel.none = xs.getD i Cel.none := by simp [List.getD, ne]
      rw [e1, e2]
      exact hf i hi
  · exact ⟨hint.1, ownsRow_setCell_other (ownsRow_setCell_other (ownsRow_setCell_other hint.2 (fun e => hgt e) _) (fun e => hgt e) _) (fun e => hgt e) _⟩

theorem far3 {w : World} {g b o1 o2 o3 i : Nat} {v0 v1 v2 : Value} (h : g ≠ b) : (((w.setCell ⟨g, o1, none⟩ v0).setCell ⟨g, o2, none⟩ v1).setCell ⟨g, o3, none⟩ v2).cell? ⟨b, i, none⟩ = w.cell? ⟨b, i, none⟩ := by
  have n : ∀ o, (⟨g, o, none⟩ : Addr) ≠ ⟨b, i, none⟩ := fun o e => h (congrArg Addr.block e)
  rw [World.cell?_setCell_other _ _ _ _ (n _), World.cell?_setCell_other _ _ _ _ (n _), World.cell?_setCell_other _ _ _ _ (n _)]
theorem app_intM (w : World) (ty : TypeId) (B : Nat) (pt : Option Addr) (ct b : Nat) (tr : List Int) (z : Int) (hl : tr.length ≤ 20000) (hB : B ≤ w.heap.size) (ho : OwnI w B 3 pt tr.length ct tr) (hz : w.cell? ⟨b, 0, none⟩ = some (.int .i64 z)) :
    ∃ g cap w1, (Builtin.append_ #[23, 23] ty #[.slice pt tr.length ct, .slice (some ⟨b, 0, none⟩) 1 1]).run Try.prog w = .ok (.slice (some ⟨g, 0, none⟩) (tr.length + 1) cap) w1 ∧ OwnI w1 B 3 (some ⟨g, 0, none⟩) (tr.length + 1) cap (tr ++ [z]) ∧ w.grownBy w1 (Value.ownBlock (.slice pt tr.length ct)) := by
  obtain ⟨i0, hi, hz0, hz1, hz2⟩ := info_parts infoInt
  obtain ⟨g', cap, w', hr, h2, h3, _, _⟩ := run_append_lies (P := Try.prog) w 23 ty B 3 i0 (.int .i64 0) 1 8 Try.underlying23 hi hz0 hz1 hz2 rfl (by decide) (.slice pt tr.length ct) tr.length (tr.map (Value.int .i64)) ho.2 ⟨b, 0, none⟩ 1 1 [.int .i64 z] rfl
    (fun j u hj => by
      cases j with
      | zero => simp at hj; subst hj; rw [show (⟨b, 0, none⟩ : Addr).add 0 = ⟨b, 0 + 0, none⟩ from WideShapes.add_plain _ _ _]; exact hz
      | succ j => simp at hj) (ints_oneCell .i64 [z]) (by decide) (by unfold maxLen; omega) (by omega) hB _ rfl
  exact ⟨g', cap, w', hr, ⟨by simp, by rw [List.map_append]; exact h2⟩, h3⟩

theorem row_ne2 {w : World} {B s n : Nat} {t : TypeId} {v : Value} {vs : List Value} (h : w.ownsRow B t s v n vs) {b : Nat} {cs : Array Value} {t' : TypeId} (hb : w.heap[b]? = some (.cells cs t')) (ht : t ≠ t') : Value.ownBlock v ≠ some b := fun e => by
  obtain ⟨cur, hg⟩ := ownsRow_block h e
  rw [hb] at hg
  simp only [Option.some.injEq, Obj.cells.injEq] at hg
  exact ht hg.2.1.symm
theorem row_ne3 {w : World} {B B' s s' n n' : Nat} {t t' : TypeId} {v v' : Value} {vs vs' : List Value} (h : w.ownsRow B t s v n vs) (h' : w.ownsRow B' t' s' v' n' vs') (ht : t ≠ t') {g : Nat} (e : Value.ownBlock v = some g) : Value.ownBlock v' ≠ some g := fun e' => by
  obtain ⟨c1, h1⟩ := ownsRow_block h e
  obtain ⟨c2, h2⟩ := ownsRow_block h' e'
  rw [h1] at h2
  simp only [Option.some.injEq, Obj.cells.injEq] at h2
  exact ht h2.2.1
theorem SHp.pushed {V w w1 : World} {h : Nat} {xs : List Cel} {tr : List Int} {k : Int} (H : SHp V w h xs tr k) {pt : Option Addr} {ct : Nat} (c1 : w.cell? ⟨h, 1, none⟩ = some (.slice pt tr.length ct)) (hg : w.grownBy w1 (Value.ownBlock (.slice pt tr.length ct))) {g ct' : Nat} {z : Int} (ho : OwnI w1 V.heap.size 3 (some ⟨g, 0, none⟩) (tr.length + 1) ct' (tr ++ [z])) :
    SHp V (w1.setCell ⟨h, 1, none⟩ (.slice (some ⟨g, 0, none⟩) (tr.length + 1) ct')) h xs (tr ++ [z]) k := by
  obtain ⟨pc, cc, pt', ct2, h0, h1, h2, h3, h4⟩ := H
  have e : w.cell? ⟨h, 1, none⟩ = some (.slice pt' tr.length ct2) := by simp [World.cell?, h0]
  rw [e] at c1
  simp only [Option.some.injEq, Value.slice.injEq, true_and] at c1
  obtain ⟨rfl, rfl⟩ := c1
  have hl : h < w.heap.size := (Array.getElem?_eq_some_iff.1 h0).1
  have b0 := (hg.block h hl (fun e => row_ne2 h2.2 h0 (by decide) e.symm)).trans h0
  obtain ⟨hn, rs, hrl, hr, hf⟩ := h1
  have r1 : w1.ownsRow V.heap.size 31 3 (.slice pc xs.length cc) xs.length (flat rs) := by
    refine ⟨hr.1, ?_⟩
    rcases hr.2 with h' | ⟨g1, cap, cur, hv, hB, hgg, r⟩
    · exact .inl h'
    · exact .inr ⟨g1, cap, cur, hv, hB, (hg.block g1 (Array.getElem?_eq_some_iff.1 hgg).1 (fun e => row_ne3 hr h2.2 (by decide) (g := g1) (by rw [hv]; rfl) e.symm)).trans hgg, r⟩
  have hle : (tr ++ [z]).length = tr.length + 1 := by simp
  refine ⟨pc, cc, some ⟨g, 0, none⟩, ct', ?_, ⟨hn, rs, hrl, ownsRow_setCell_other r1 (row_ne2 r1 b0 (by decide)) _, hf⟩, ?_, h3, ?_⟩
  · rw [heap_setCell_same _ _ _ _ _ _ b0, hle]; rfl
  · rw [hle]
    exact ⟨ho.1, ownsRow_setCell_other ho.2 (row_ne2 ho.2 b0 (by decide)) _⟩
  · exact (h4.grown hg (by omega) (fun k e => (h2.2.lt _ e).1)).setCell (p := ⟨h, 1, none⟩) h3 _

set_option maxHeartbeats 1000000 in
set_option maxRecDepth 100000 in
theorem l10set_any (V : World) (h : Nat) (a : Nat) (p : Option Addr) (cp : Nat) (c : Cel) (xs : List Cel) (tr : List Int) (kk : Int) (w : World) (hl : xs.length ≤ 20000) (ht : tr.length ≤ 20000) (ha : a < xs.length) (hp : BIn V p c.2.2) (H : SHp V w h xs tr kk) :
    Calls Try.prog 87 #[.pointer (some ⟨h, 0, none⟩), .int .i64 a, .agg #[.int .i64 c.1, .int .i64 c.2.1, .slice p c.2.2.length cp]] w fun e w' => if 20000 ≤ tr.length then e = .returned (.int .i64 10) ∧ Below V.heap.size w w' else e = .returned (.int .i64 0) ∧ SHp V w' h (xs.set a c) (tr ++ [(a : Int)]) kk := by
  obtain ⟨W0, eW0⟩ : ∃ W, W = w.alloc (.cells #[.int .i64 c.1, .int .i64 c.2.1, .slice p c.2.2.length cp] 31) := ⟨_, rfl⟩
  have hB0 : Below w.heap.size w W0 := by rw [eW0]; exact alloc_on _ _
  have HB : Hid (Box3 W0 w.heap.size (.int .i64 c.1) (.int .i64 c.2.1) (.slice p c.2.2.length cp)) := by show Box3 _ _ _ _ _; rw [eW0]; exact Box3.of_block (t := 31) (heap_alloc_new _ _)
  obtain ⟨pc, cc, pt, ct, hh', hrow', hint', hV, hB'⟩ := id H
  have hh := (hB0.block h (Array.getElem?_eq_some_iff.1 hh').1).trans hh'
  have hrow := hrow'.below hB0
  have hint := hint'.below hB0
  have hB := Below.on hB' hB0
  have HRB : Hid (∀ gg : Nat, pc = some ⟨gg, 0, none⟩ → gg < w.heap.size) := fun gg e => by
    obtain ⟨_, rs, _, hr, _⟩ := hrow'
    exact (hr.lt gg (by rw [e]; rfl)).2
  clear hh' hrow' hint' hB'
  have c1 : W0.cell? ⟨h, 1, none⟩ = some (.slice pt tr.length ct) := by simp [World.cell?, hh]
  have c0 : W0.cell? ⟨h, 0, none⟩ = some (.slice pc xs.length cc) := by simp [World.cell?, hh]
  have HE0 : Hid _ := eW0
  obtain ⟨b0, b1, b2, b3⟩ := HB.out
  by_cases hfull : 20000 ≤ tr.length
  · simp only [if_pos hfull]
    have hge : (20000 : Int) ≤ tr.length := by omega
    have HZ : Hid (Below V.heap.size w W0) := hB0.mono (by obtain ⟨_, _, _, _, _, _, _, _, hb⟩ := H; exact hb.size)
    rw [eW0] at c1
    clear hh hrow hint hV hB H c0 hp hfull eW0 b0 b1 b2 b3
    go_enter Try.func87, Try.ntmps87
    go_wp2_with fail
    rw [← HE0.out]
    go_ret
    exact ⟨rfl, HZ.out⟩
  · simp only [if_neg hfull]
    have hge : ¬ (20000 : Int) ≤ tr.length := by omega
    obtain ⟨gg, qx, cx, rfl, hg1, hg2, d0, d1, d2, hbx⟩ := hrow.at a ha
    clear hfull
    generalize (xs.getD a Cel.none).1 = y0 at d0
    generalize (xs.getD a Cel.none).2.1 = y1 at d1
    generalize (xs.getD a Cel.none).2.2.length = y2 at d2
    have hbd : Below W0.heap.size W0 W0.drew := (Below.refl _ _).drew
    have hhD := (hbd.block h (Array.getElem?_eq_some_iff.1 hh).1).trans hh
    have HH : Hid _ := SHp.setC hhD (hrow.below hbd) (hint.below hbd) hV (Below.on hB hbd) ha c p cp hp
    have hf : ∀ i, W0.frozen? ⟨gg, i, none⟩ = false := fun i => by obtain ⟨_, rs, _, hr, _⟩ := hrow; exact hr.frozenAt i
    have hgw : gg < W0.heap.size := by obtain ⟨_, rs, _, hr, _⟩ := hrow; exact (hr.lt gg rfl).2
    have hgh : gg ≠ h := fun e => by
      obtain ⟨_, rs, _, hr, _⟩ := hrow
      obtain ⟨cur, hg⟩ := ownsRow_block hr (g := gg) rfl
      rw [e, hh] at hg
      simp only [Option.some.injEq, Obj.cells.injEq] at hg
      exact absurd hg.2.1 (by decide)
    have hgb : gg ≠ w.heap.size := by have := HRB.out gg rfl; omega
    clear hh hrow hint hV hB H hp hbx eW0 hhD
    have c1' := c1
    rw [HE0.out] at c1
    go_enter Try.func87, Try.ntmps87
    go_wp2_with fail
    rw [← HE0.out]
    clear c1
    refine wp_region_held_drew (S := fun W => W.cell? ⟨h, 0, none⟩ = some (.slice (some ⟨gg, 0, none⟩) xs.length cc) ∧ W.cell? ⟨w.heap.size, 0, none⟩ = some (.int .i64 c.1) ∧ W.cell? ⟨w.heap.size, 1, none⟩ = some (.int .i64 c.2.1) ∧ W.cell? ⟨w.heap.size, 2, none⟩ = some (.slice p c.2.2.length cp)) (by kernel_rfl) ⟨c0, b0, b1, b2⟩ (fun hHeld => ?_)
    refine hTake (i := 0) (v := .pointer (some ⟨h, 0, none⟩)) (some 13) (by kernel_rfl) (by kernel_rfl) (by kernel_rfl) (by kernel_rfl) (by kernel_rfl) (fun _ _ _ h => h) (fun o ho W hSw => ?y0) (by assumption) ?_
    case y0 =>
      cases ho
      simp [execOp, go_sem, Act.eval]
    simp only [Act.put, List.setIfInBounds_toArray, List.set_cons_zero, List.set_cons_succ]
    refine hTake (i := 1) (v := .pointer (some ⟨h, 0, none⟩)) (some 14) (by kernel_rfl) (by kernel_rfl) (by kernel_rfl) (by kernel_rfl) (by kernel_rfl) (fun _ _ _ h => h) (fun o ho W hSw => ?y1) (by assumption) ?_
    case y1 =>
      cases ho
      simp [execOp, go_sem, Act.eval]
    simp only [Act.put, List.setIfInBounds_toArray, List.set_cons_zero, List.set_cons_succ]
    refine hTake (i := 2) (v := .pointer (some ⟨h, 0, none⟩)) (some 15) (by kernel_rfl) (by kernel_rfl) (by kernel_rfl) (by kernel_rfl) (by kernel_rfl) (fun _ _ _ h => h) (fun o ho W hSw => ?y2) (by assumption) ?_
    case y2 =>
      cases ho
      simp [execOp, go_sem, Act.eval]
    simp only [Act.put, List.setIfInBounds_toArray, List.set_cons_zero, List.set_cons_succ]
    refine hTake (i := 3) (v := .slice (some ⟨gg, 0, none⟩) xs.length cc) (some 16) (by kernel_rfl) (by kernel_rfl) (by kernel_rfl) (by kernel_rfl) (by kernel_rfl) (fun _ _ _ h => h) (fun o ho W hSw => ?y3) (by assumption) ?_
    case y3 =>
      cases ho
      simp [execOp, go_sem, Act.eval, hSw]
    simp only [Act.put, List.setIfInBounds_toArray, List.set_cons_zero, List.set_cons_succ]
    refine hTake (i := 4) (v := .int .i64 a) (some 17) (by kernel_rfl) (by kernel_rfl) (by kernel_rfl) (by kernel_rfl) (by kernel_rfl) (fun _ _ _ h => h) (fun o ho W hSw => ?y4) (by assumption) ?_
    case y4 =>
      cases ho
      simp [execOp, go_sem, Act.eval]
    simp only [Act.put, List.setIfInBounds_toArray, List.set_cons_zero, List.set_cons_succ]
    refine hTake (i := 5) (v := .agg #[.int .i64 c.1, .int .i64 c.2.1, .slice p c.2.2.length cp]) (some 18) (by kernel_rfl) (by kernel_rfl) (by kernel_rfl) (by kernel_rfl) (by kernel_rfl) (fun _ _ _ h => h) (fun o ho W hSw => ?y5) (by assumption) ?_
    case y5 =>
      cases ho
      simp [execOp, go_sem, Act.eval, hSw]
    simp only [Act.put, List.setIfInBounds_toArray, List.set_cons_zero, List.set_cons_succ]
    refine hTake (i := 6) (v := .pointer (some ⟨gg, a * 3, none⟩)) (some 19) (by kernel_rfl) (by kernel_rfl) (by kernel_rfl) (by kernel_rfl) (by kernel_rfl) (fun _ _ _ h => h) (fun o ho W hSw => ?y6) (by assumption) ?_
    case y6 =>
      cases ho
      simp [execOp, go_sem, Act.eval, ha]
    simp only [Act.put, List.setIfInBounds_toArray, List.set_cons_zero, List.set_cons_succ]
    have hS9 : (fun W => W.cell? ⟨h, 0, none⟩ = some (.slice (some ⟨gg, 0, none⟩) xs.length cc) ∧ W.cell? ⟨w.heap.size, 0, none⟩ = some (.int .i64 c.1) ∧ W.cell? ⟨w.heap.size, 1, none⟩ = some (.int .i64 c.2.1) ∧ W.cell? ⟨w.heap.size, 2, none⟩ = some (.slice p c.2.2.length cp)) (((W0.drew.setCell ⟨gg, a * 3, none⟩ (.int .i64 c.1)).setCell ⟨gg, a * 3 + 1, none⟩ (.int .i64 c.2.1)).setCell ⟨gg, a * 3 + 2, none⟩ (.slice p c.2.2.length cp)) := ⟨(far3 hgh).trans c0, (far3 hgb).trans b0, (far3 hgb).trans b1, (far3 hgb).trans b2⟩
    refine hStore (i := 7) (w' := (((W0.drew.setCell ⟨gg, a * 3, none⟩ (.int .i64 c.1)).setCell ⟨gg, a * 3 + 1, none⟩ (.int .i64 c.2.1)).setCell ⟨gg, a * 3 + 2, none⟩ (.slice p c.2.2.length cp))) (by kernel_rfl) (by kernel_rfl) (by kernel_rfl) (fun o ho => ?y7) hS9 ?_
    case y7 =>
      cases ho
      simp [execOp, go_sem, Act.eval, d0, d1, d2, hf]
    have c1W : (((W0.drew.setCell ⟨gg, a * 3, none⟩ (.int .i64 c.1)).setCell ⟨gg, a * 3 + 1, none⟩ (.int .i64 c.2.1)).setCell ⟨gg, a * 3 + 2, none⟩ (.slice p c.2.2.length cp)).cell? ⟨h, 1, none⟩ = some (.slice pt tr.length ct) := (far3 hgh).trans c1'
    clear hS9 hHeld c0 b0 b1 b2 b3 d0 d1 d2 hf c1' HB hbd HE0 HRB hgw
    generalize (((W0.drew.setCell ⟨gg, a * 3, none⟩ (.int .i64 c.1)).setCell ⟨gg, a * 3 + 1, none⟩ (.int .i64 c.2.1)).setCell ⟨gg, a * 3 + 2, none⟩ (.slice p c.2.2.length cp)) = W2 at HH c1W ⊢
    refine wpAnyH_done (by kernel_rfl) ?_ _
    change Exit.then _ _ _ _ _
    have H3 := HH.out.1.below (alloc_on W2 (.cells #[.int .i64 (a : Int)] 3))
    have hn3 : (W2.alloc (.cells #[.int .i64 (a : Int)] 3)).cell? ⟨W2.heap.size, 0, none⟩ = some (.int .i64 (a : Int)) := by
      unfold World.cell?
      rw [heap_alloc_new W2 (.cells #[.int .i64 (a : Int)] 3)]
      rfl
    have c13 : (W2.alloc (.cells #[.int .i64 (a : Int)] 3)).cell? ⟨h, 1, none⟩ = some (.slice pt tr.length ct) := ((alloc_on W2 _).cell (World.block_lt_of_cell? _ _ c1W)).trans c1W
    obtain ⟨pc3, cc3, pt3, ct3, hh3, hrow3, hint3, hV3, hB3⟩ := id H3
    have e3 : (W2.alloc (.cells #[.int .i64 (a : Int)] 3)).cell? ⟨h, 1, none⟩ = some (.slice pt3 tr.length ct3) := by simp [World.cell?, hh3]
    rw [c13] at e3
    simp only [Option.some.injEq, Value.slice.injEq, true_and] at e3
    obtain ⟨rfl, rfl⟩ := e3
    obtain ⟨g9, cap9, w9, hr9, ho9, hg9⟩ := app_intM (W2.alloc (.cells #[.int .i64 (a : Int)] 3)) 23 V.heap.size pt ct W2.heap.size tr (a : Int) ht hB3.size hint3 hn3
    have HF : Hid _ := H3.pushed c13 hg9 ho9
    have b9 := (hg9.block h (Array.getElem?_eq_some_iff.1 hh3).1 (fun e => row_ne2 hint3.2 hh3 (by decide) e.symm)).trans hh3
    have k9 : w9.cell? ⟨h, 1, none⟩ = some (.slice pt tr.length ct) := by simp [World.cell?, b9]
    have f9 : w9.frozen? ⟨h, 1, none⟩ = false := frozen_of_row _ _ _ _ _ b9
    clear hh3 hrow3 hint3 hV3 hB3 H3 hn3 c13 ho9 hg9 b9 HH
    go_wp2_with (at_builtin; refine wpList_app_run rfl _ _ _ _ rfl _ _ _ _ _ rfl rfl hr9 ?_)
    go_ret
    exact ⟨rfl, HF.out⟩

end Go.Proofs.Ytfnmoaiejpkocaa

namespace Go.Proofs.Ytfnmoaiejpkocaa
open Go Go.RowKit Go.Maps
set_option linter.unusedVariables false

/-- What holds when the words ys are still to be looked at, and the structures marked by m were opened. -/
def WInv (xs : List Cel) (a : Nat) (c : Cel) (m : Nat → Nat) (ys : List Cel) : Prop :=
  (∀ y, y ∈ ys → WdC xs y ∧ (Rch xs a y → Rch xs a c)) ∧ (c ∈ ys ∨ DoneW xs a (fun s => m s ≠ 0) c) ∧
  (∀ s, m s ≠ 0 → ∀ i : Nat, 1 ≤ i → (i : Int) ≤ numA xs s → xs.getD (s + i) Cel.none ∈ ys ∨ DoneW xs a (fun s => m s ≠ 0) (xs.getD (s + i) Cel.none))
/-- The first i arguments of the structure at s. -/
def argsL (xs : List Cel) (s i : Nat) : List Cel := (List.range i).map (fun k => xs.getD (s + (k + 1)) Cel.none)
theorem argsL_succ (xs : List Cel) (s i : Nat) : argsL xs s (i + 1) = argsL xs s i ++ [xs.getD (s + (i + 1)) Cel.none] := by
  simp [argsL, List.range_succ]
theorem argsL_len (xs : List Cel) (s i : Nat) : (argsL xs s i).length = i := by simp [argsL]
theorem done_mono {xs : List Cel} {a : Nat} {S S' : Nat → Prop} {c : Cel} (h : DoneW xs a S c) (hs : ∀ s, S s → S' s) : DoneW xs a S' c := ⟨h.1, fun h4 => hs _ (h.2 h4)⟩
theorem winv_start {xs : List Cel} {a : Nat} {c : Cel} (hc : WdC xs c) : WInv xs a c (fun _ => 0) [c] :=
  ⟨fun y hy => by rw [List.mem_singleton.1 hy]; exact ⟨hc, id⟩, .inl (by simp), fun s hs => absurd rfl hs⟩
theorem winv_last {xs : List Cel} {a : Nat} {c y : Cel} {m : Nat → Nat} {ys : List Cel} (h : WInv xs a c m (ys ++ [y])) : WdC xs y ∧ (Rch xs a y → Rch xs a c) := h.1 y (by simp)
theorem winv_drop {xs : List Cel} {a : Nat} {c y : Cel} {m : Nat → Nat} {ys : List Cel} (h : WInv xs a c m (ys ++ [y])) (hd : DoneW xs a (fun s => m s ≠ 0) y) : WInv xs a c m ys := by
  have hmv : ∀ z, z ∈ ys ++ [y] ∨ DoneW xs a (fun s => m s ≠ 0) z → z ∈ ys ∨ DoneW xs a (fun s => m s ≠ 0) z := fun z hz => by
    rcases hz with hz | hz
    · rcases List.mem_append.1 hz with h' | h'
      · exact .inl h'
      · rw [List.mem_singleton.1 h']; exact .inr hd
    · exact .inr hz
  exact ⟨fun z hz => h.1 z (by simp [hz]), hmv _ h.2.1, fun s hs i h1 h2 => hmv _ (h.2.2 s hs i h1 h2)⟩
theorem winv_hit {xs : List Cel} {a : Nat} {c y : Cel} {m : Nat → Nat} {ys : List Cel} (g : Good xs) (h : WInv xs a c m (ys ++ [y])) (h0 : (drf xs y).1 = 0) (hn : (drf xs y).2.1 = a) : Rch xs a c :=
  (winv_last h).2 (rch_var g (winv_last h).1 h0 hn)
theorem winv_open {xs : List Cel} {a : Nat} {c y : Cel} {m : Nat → Nat} {ys : List Cel} (g : Good xs) (h : WInv xs a c m (ys ++ [y])) (h4 : (drf xs y).1 = 4) (s : Nat) (hs : (drf xs y).2.1 = s) (n : Nat) (hn : numA xs s = n) : WInv xs a c (setM m s 1) (ys ++ argsL xs s n) := by
  obtain ⟨hy1, hy2⟩ := winv_last h
  have hw := (drf_word g hy1).1.2.2 h4
  rw [hs] at hw
  simp only [Int.toNat_natCast] at hw
  have hm : ∀ z, m z ≠ 0 → setM m s 1 z ≠ 0 := fun z hz => by
    unfold setM
    by_cases e : z = s
    · rw [if_pos e]; exact Nat.one_ne_zero
    · rw [if_neg e]; exact hz
  have hds : DoneW xs a (fun z => setM m s 1 z ≠ 0) y := ⟨fun hh => by omega, fun _ => by rw [hs]; simp [setM]⟩
  have hmv : ∀ z, z ∈ ys ++ [y] ∨ DoneW xs a (fun s => m s ≠ 0) z → z ∈ ys ++ argsL xs s n ∨ DoneW xs a (fun z => setM m s 1 z ≠ 0) z := fun z hz => by
    rcases hz with hz | hz
    · rcases List.mem_append.1 hz with h' | h'
      · exact .inl (by simp [h'])
      · rw [List.mem_singleton.1 h']; exact .inr hds
    · exact .inr (done_mono hz hm)
  refine ⟨fun z hz => ?_, hmv _ h.2.1, fun s' hs' i h1 h2 => ?_⟩
  · rcases List.mem_append.1 hz with h' | h'
    · exact h.1 z (by simp [h'])
    · simp only [argsL, List.mem_map, List.mem_range] at h'
      obtain ⟨k, hk, rfl⟩ := h'
      obtain ⟨_, _, f3⟩ := g.shp.funs s (by omega) hw.2.2
      obtain ⟨f4, f5⟩ := f3 (k + 1) (by omega) (by omega)
      refine ⟨g.at f4 f5, fun hr => hy2 (rch_arg g hy1 h4 (i := k + 1) (by omega) ?_ ?_)⟩
      · rw [hs]; simp only [Int.toNat_natCast]; omega
      · rw [hs]; simpa using hr
  · by_cases e : m s' = 0
    · have es : s' = s := by
        unfold setM at hs'
        by_cases e2 : s' = s
        · exact e2
        · rw [if_neg e2] at hs'; exact absurd e hs'
      subst es
      refine .inl (List.mem_append.2 (.inr ?_))
      simp only [argsL, List.mem_map, List.mem_range]
      exact ⟨i - 1, by omega, by rw [show i - 1 + 1 = i by omega]⟩
    · exact hmv _ (h.2.2 s' e i h1 h2)
theorem winv_end {xs : List Cel} {a : Nat} {c : Cel} {m : Nat → Nat} (g : Good xs) (ha : varB xs a = true) (hc : WdC xs c) (h : WInv xs a c m []) : ¬ Rch xs a c := by
  refine done_no g ha (S := fun s => m s ≠ 0) (fun s hs i h1 h2 => ?_) hc ?_
  · rcases h.2.2 s hs i h1 h2 with h' | h'
    · cases h'
    · exact h'
  · rcases h.2.1 with h' | h'
    · cases h'
    · exact h'

/-- A row of booleans. -/
def mkS (L : Nat) (m : Nat → Nat) : List Value := (List.range L).map (fun i => Value.bool (decide (m i ≠ 0)))
def SeenR (w : World) (b L : Nat) (m : Nat → Nat) : Prop := w.ownsRow b 4 1 (.slice (some ⟨b, 0, none⟩) L L) L (mkS L m)
theorem mkS_at (L : Nat) (m : Nat → Nat) (i : Nat) (h : i < L) : (mkS L m)[i]? = some (.bool (decide (m i ≠ 0))) := by simp [mkS, h]
theorem mkS_zero (L : Nat) : mkS L (fun _ => 0) = List.replicate L (Value.bool false) := by
  apply List.ext_getElem?
  intro j
  by_cases h : j < L <;> simp [mkS, h]
theorem mkS_set (L : Nat) (m : Nat → Nat) (i : Nat) : (mkS L m).set i (.bool true) = mkS L (setM m i 1) := by
  apply List.ext_getElem?
  intro j
  rw [List.getElem?_set]
  by_cases e : i = j
  · subst e
    by_cases h : i < L
    · simp [mkS, h, setM]
    · simp [mkS, h]
  · rw [if_neg e]
    have e' : ¬ j = i := fun h => e h.symm
    by_cases h : j < L
    · simp [mkS, h, setM, e']
    · simp [mkS, h]
theorem SeenR.cell {w : World} {b L : Nat} {m : Nat → Nat} (h : SeenR w b L m) (i : Nat) (hi : i < L) : w.cell? ⟨b, i, none⟩ = some (.bool (decide (m i ≠ 0))) := by
  rw [World.ownsRow.cellAt h i (by omega)]; exact mkS_at L m i hi
theorem SeenR.lt {w : World} {b L : Nat} {m : Nat → Nat} (h : SeenR w b L m) : b < w.heap.size := (World.ownsRow.lt h b rfl).2
theorem SeenR.below {w w' : World} {b L : Nat} {m : Nat → Nat} (h : SeenR w b L m) (hb : Below w.heap.size w w') : SeenR w' b L m := row_below h hb
theorem SeenR.put {w : World} {b L : Nat} {m : Nat → Nat} (h : SeenR w b L m) (i : Nat) : SeenR (w.setCell ⟨b, i, none⟩ (.bool true)) b L (setM m i 1) := by
  have := (World.ownsRow.stored h i (.bool true)).1
  rw [mkS_set] at this
  exact this
theorem SeenR.frz {w : World} {b L : Nat} {m : Nat → Nat} (h : SeenR w b L m) (i : Nat) : w.frozen? ⟨b, i, none⟩ = false := World.ownsRow.frozenAt h i

/-- A row of cells in blocks from B on, whose texts lie in W0. -/
def RowT (W0 : World) (B : Nat) (w : World) (p : Option Addr) (n c : Nat) (ys : List Cel) : Prop :=
  n = ys.length ∧ ∃ rs : List RC, rs.length = ys.length ∧ w.ownsRow B 31 3 (.slice p n c) n (flat rs) ∧ ∀ i, i < ys.length → RFit W0 (rs.getD i RC.zero) (ys.getD i Cel.none)
theorem RowT.below {W0 w w' : World} {B : Nat} {p : Option Addr} {n c : Nat} {ys : List Cel} (h : RowT W0 B w p n c ys) (hb : Below w.heap.size w w') : RowT W0 B w' p n c ys := by
  obtain ⟨hn, rs, hl, hr, hf⟩ := h
  exact ⟨hn, rs, hl, row_below hr hb, hf⟩
theorem RowT.setBool {W0 w : World} {B b L : Nat} {m : Nat → Nat} {p : Option Addr} {n c : Nat} {ys : List Cel} (h : RowT W0 B w p n c ys) (hs : SeenR w b L m) (i : Nat) (v : Value) : RowT W0 B (w.setCell ⟨b, i, none⟩ v) p n c ys := by
  obtain ⟨hn, rs, hl, hr, hf⟩ := h
  obtain ⟨cur, hg⟩ := ownsRow_block hs (g := b) rfl
  exact ⟨hn, rs, hl, ownsRow_setCell_other hr (row_ne2 hr hg (by decide)) _, hf⟩
theorem RowT.at {W0 w : World} {B : Nat} {p : Option Addr} {n c : Nat} {ys : List Cel} (h : RowT W0 B w p n c ys) (i : Nat) (hi : i < ys.length) : ∃ g q cq, p = some ⟨g, 0, none⟩ ∧ B ≤ g ∧ g < w.heap.size ∧ w.cell? ⟨g, i * 3, none⟩ = some (.int .i64 (ys.getD i Cel.none).1) ∧ w.cell? ⟨g, i * 3 + 1, none⟩ = some (.int .i64 (ys.getD i Cel.none).2.1) ∧ w.cell? ⟨g, i * 3 + 2, none⟩ = some (.slice q (ys.getD i Cel.none).2.2.length cq) ∧ BIn W0 q (ys.getD i Cel.none).2.2 := by
  obtain ⟨hn, rs, hl, hr, hf⟩ := h
  obtain ⟨g, cap, hv, hb, hg⟩ := hr.form (by omega)
  simp only [Value.slice.injEq, true_and] at hv
  obtain ⟨rfl, rfl⟩ := hv
  obtain ⟨a0, a1, a2⟩ := flat_at rs i (by omega)
  obtain ⟨f0, f1, f2, f3⟩ := hf i hi
  have d0 := (hr.cellAt (i * 3) (by omega)).trans a0
  have d1 := (hr.cellAt (i * 3 + 1) (by omega)).trans a1
  have d2 := (hr.cellAt (i * 3 + 2) (by omega)).trans a2
  rw [f0] at d0; rw [f1] at d1; rw [f2] at d2
  exact ⟨g, _, _, rfl, hb, hg, d0, d1, d2, f3⟩
theorem RowT.cap {W0 w : World} {B : Nat} {p : Option Addr} {n c : Nat} {ys : List Cel} (h : RowT W0 B w p n c ys) : n ≤ c := by
  obtain ⟨_, rs, _, hr, _⟩ := h
  rcases hr.2 with ⟨e, h'⟩ | ⟨g, cap, cur, hv, _, _, hc, _⟩
  · omega
  · simp only [Value.slice.injEq] at hv; omega
theorem RowT.shrink {W0 w : World} {B : Nat} {p : Option Addr} {n c k : Nat} {ys : List Cel} (h : RowT W0 B w p n c ys) (hk : k ≤ n) : RowT W0 B w p k c (ys.take k) := by
  obtain ⟨hn, rs, hl, hr, hf⟩ := h
  refine ⟨by rw [List.length_take]; omega, rs.take k, by simp [hl], ?_, fun i hi => ?_⟩
  · rw [← flat_take]; exact ownsRow_shrink hr hk
  · rw [List.length_take] at hi
    have hik : i < k := by omega
    have e1 : (rs.take k).getD i RC.zero = rs.getD i RC.zero := by simp [List.getD, hik]
    rw [e1, take_at _ _ _ (by omega)]
    exact hf i (by omega)
theorem RowT.pop {W0 w : World} {B : Nat} {p : Option Addr} {n c : Nat} {ys : List Cel} {y : Cel} (h : RowT W0 B w p (n + 1) c (ys ++ [y])) : RowT W0 B w p n c ys := by
  have hn := h.1
  simp at hn
  have := h.shrink (k := n) (by omega)
  rw [List.take_append_of_le_length (by omega), List.take_of_length_le (by omega)] at this
  exact this
/-- A new row of one cell. -/
theorem RowT.one {W0 w : World} {q : Option Addr} {cq : Nat} {y : Cel} {b : Nat} (hb : w.heap[b]? = some (.cells #[.int .i64 y.1, .int .i64 y.2.1, .slice q y.2.2.length cq] 31)) (hq : BIn W0 q y.2.2) : RowT W0 b w (some ⟨b, 0, none⟩) 1 1 [y] := by
  refine ⟨rfl, [(y.1, y.2.1, q, y.2.2.length, cq)], rfl, ⟨by rw [flat_len]; rfl, .inr ⟨b, 1, _, rfl, Nat.le_refl _, hb, Nat.le_refl _, by unfold maxLen; omega, rfl, ?_⟩⟩, fun i hi => ?_⟩
  · simp [flat, rcV]
  · simp at hi
    subst hi
    exact ⟨rfl, rfl, rfl, hq⟩
/-- A cell put behind a row. -/
theorem app_celT (w : World) (ty : TypeId) (W0 : World) (B : Nat) (pt : Option Addr) (ct b : Nat) (ys : List Cel) (z : Cel) (q : Option Addr) (cq : Nat) (hl : ys.length ≤ 1000000) (hB : B ≤ w.heap.size) (ho : RowT W0 B w pt ys.length ct ys) (z0 : w.cell? ⟨b, 0, none⟩ = some (.int .i64 z.1)) (z1 : w.cell? ⟨b, 1, none⟩ = some (.int .i64 z.2.1)) (z2 : w.cell? ⟨b, 2, none⟩ = some (.slice q z.2.2.length cq)) (hq : BIn W0 q z.2.2) :
    ∃ g cap w1, (Builtin.append_ #[34, 34] ty #[.slice pt ys.length ct, .slice (some ⟨b, 0, none⟩) 1 1]).run Try.prog w = .ok (.slice (some ⟨g, 0, none⟩) (ys.length + 1) cap) w1 ∧ RowT W0 B w1 (some ⟨g, 0, none⟩) (ys.length + 1) cap (ys ++ [z]) ∧ w.grownBy w1 (Value.ownBlock (.slice pt ys.length ct)) ∧ (Value.ownBlock (.slice pt ys.length ct) = some g ∨ g = w.heap.size) := by
  obtain ⟨i0, hi, hz0, hz1, hz2⟩ := info_parts infoCelM
  obtain ⟨_, rs, hrl, hr0, hf⟩ := ho
  obtain ⟨g', cap, w', hr, h2, h3, h4, _⟩ := run_append_lies (P := Try.prog) w 34 ty B 31 i0 (.agg #[.int .i64 0, .int .i64 0, .slice none 0 0]) 3 40 Try.underlying34 hi hz0 hz1 hz2 rfl (by decide) (.slice pt ys.length ct) ys.length (flat rs) hr0 ⟨b, 0, none⟩ 1 1 [.int .i64 z.1, .int .i64 z.2.1, .slice q z.2.2.length cq] rfl
    (fun j u hj => by
      rw [show (⟨b, 0, none⟩ : Addr).add j = ⟨b, 0 + j, none⟩ from WideShapes.add_plain _ _ _]
      match j, hj with
      | 0, hj => simp at hj; subst hj; simpa using z0
      | 1, hj => simp at hj; subst hj; simpa using z1
      | 2, hj => simp at hj; subst hj; simpa using z2
      | j + 3, hj => simp at hj) (fun u hu => by simp at hu; rcases hu with rfl | rfl | rfl <;> rfl) (by decide) (by unfold maxLen; omega) (by omega) hB _ rfl
  refine ⟨g', cap, w', hr, ⟨by simp, rs ++ [(z.1, z.2.1, q, z.2.2.length, cq)], by simp [hrl], ?_, fun i hi => ?_⟩, h3, h4⟩
  · rw [flat_append]; exact h2
  · simp only [List.length_append, List.length_cons, List.length_nil] at hi
    by_cases e : i < ys.length
    · have e1 : (rs ++ [(z.1, z.2.1, q, z.2.2.length, cq)]).getD i RC.zero = rs.getD i RC.zero := by
        have : i < rs.length := by omega
        simp [List.getD, List.getElem?_append, this]
      have e2 : (ys ++ [z]).getD i Cel.none = ys.getD i Cel.none := by simp [List.getD, List.getElem?_append, e]
      rw [e1, e2]; exact hf i e
    · obtain rfl : i = ys.length := by omega
      have e1 : (rs ++ [(z.1, z.2.1, q, z.2.2.length, cq)]).getD ys.length RC.zero = (z.1, z.2.1, q, z.2.2.length, cq) := by
        simp [List.getD, hrl]
      have e2 : (ys ++ [z]).getD ys.length Cel.none = z := by simp [List.getD]
      rw [e1, e2]; exact ⟨rfl, rfl, rfl, hq⟩

end Go.Proofs.Ytfnmoaiejpkocaa

namespace Go.Proofs.Ytfnmoaiejpkocaa
open Go Go.RowKit Go.Maps
set_option linter.unusedVariables false

theorem SeenR.grown {w w1 : World} {b L : Nat} {m : Nat → Nat} {o : Option Nat} (h : SeenR w b L m) (hg : w.grownBy w1 o) (hne : o ≠ some b) : SeenR w1 b L m := by
  refine ⟨h.1, ?_⟩
  rcases h.2 with h' | ⟨g1, cap, cur, hv, hB, hgg, r⟩
  · exact .inl h'
  · have e1 : b = g1 := by simp only [Value.slice.injEq, Option.some.injEq, Addr.mk.injEq] at hv; exact hv.1.1
    exact .inr ⟨g1, cap, cur, hv, hB, (hg.block g1 (Array.getElem?_eq_some_iff.1 hgg).1 (fun e => hne (by rw [← e, e1]))).trans hgg, r⟩
def isF (w : World) (b i : Nat) : Bool := match w.cell? ⟨b, i, none⟩ with
  | some (.bool false) => true
  | _ => false
/-- How many rows of the block b are false yet. -/
def unkW (L b : Nat) (w : World) : Nat := ((List.range L).filter (isF w b)).length
theorem unkW_eq {w : World} {b L : Nat} {m : Nat → Nat} (h : SeenR w b L m) : unkW L b w = unk L m := by
  unfold unkW unk
  rw [List.filter_congr]
  intro i hi
  rw [List.mem_range] at hi
  unfold isF
  rw [h.cell i hi]
  by_cases e : m i = 0 <;> simp [e]
def lenV : Value → Nat
  | .slice _ n _ => n
  | _ => 0
theorem infoBoolM : (Try.prog.info? 4).map (fun i => (i.zero, i.size, i.bytes)) = some (some (.bool false), 1, 1) := by kernel_rfl

/-- What holds at the head of the outer loop. -/
def WSt (V w wr : World) (xs : List Cel) (a : Nat) (c : Cel) (b : Nat) (pt : Option Addr) (n ct : Nat) (ys : List Cel) (m : Nat → Nat) : Prop :=
  RowT V w.heap.size wr pt n ct ys ∧ SeenR wr b xs.length m ∧ Below w.heap.size w wr ∧ WInv xs a c m ys ∧ 21 * unk xs.length m + n ≤ 420001

set_option maxHeartbeats 1000000 in
set_option maxRecDepth 100000 in
theorem l10within_any (V : World) (h a : Nat) (p : Option Addr) (cp : Nat) (c : Cel) (xs : List Cel) (tr : List Int) (kk : Int) (w : World) (g : Good xs) (ha : varB xs a = true) (hc : WdC xs c) (hp : BIn V p c.2.2) (H : SHp V w h xs tr kk) :
    Calls Try.prog 88 #[.pointer (some ⟨h, 0, none⟩), .int .i64 (a : Int), .agg #[.int .i64 c.1, .int .i64 c.2.1, .slice p c.2.2.length cp]] w fun e w' => ∃ r : Bool, e = .returned (.bool r) ∧ (r = true ↔ Rch xs a c) ∧ Below w.heap.size w w' := by
  have HH : Hid (SHp V w h xs tr kk) := H
  have HG : Hid (Good xs) := g
  have HA : Hid (varB xs a = true) := ha
  have HC : Hid (WdC xs c) := hc
  have hl := g.shp.len
  have hmx : xs.length ≤ maxLen := by unfold maxLen; omega
  obtain ⟨i0, hi0, hz0, hz1, hz2⟩ := info_parts infoBoolM
  obtain ⟨W0, eW0⟩ : ∃ W, W = w.alloc (.cells #[.int .i64 c.1, .int .i64 c.2.1, .slice p c.2.2.length cp] 31) := ⟨_, rfl⟩
  have hB0 : Below w.heap.size w W0 := by rw [eW0]; exact alloc_on _ _
  have hbk : W0.heap[w.heap.size]? = some (.cells #[.int .i64 c.1, .int .i64 c.2.1, .slice p c.2.2.length cp] 31) := by rw [eW0]; exact heap_alloc_new _ _
  obtain ⟨pc, cc, pt, ct, hh, _⟩ := id (H.below hB0)
  have c0 : W0.cell? ⟨h, 0, none⟩ = some (.slice pc xs.length cc) := by simp [World.cell?, hh]
  have HE0 : Hid _ := eW0
  have HB0 : Hid _ := hB0
  have HBK : Hid _ := hbk
  have HP : Hid (BIn V p c.2.2) := hp
  rw [eW0] at c0
  have HMK : Hid (∀ wm, W0.grownBy wm none → Box3 wm w.heap.size (.int .i64 c.1) (.int .i64 c.2.1) (.slice p c.2.2.length cp) ∧ Below W0.heap.size W0 wm) := fun wm hg => by
    have hb1 : Below W0.heap.size W0 wm := (Below.refl _ _).grown hg (Nat.le_refl _) (fun k h => by cases h)
    exact ⟨(Box3.of_block (t := 31) hbk).on hb1, hb1⟩
  clear H g ha hc hp eW0 hB0 hbk hh
  go_enter Try.func88, Try.ntmps88
  go_wp2_with (at_make; rw [← HE0.out]; refine wpList_make_full _ rfl _ _ 165 rfl W0.heap.size 4 i0 (.bool false) 1 Try.underlying165 hi0 hz0 hz1 _ _ _ _ xs.length rfl rfl rfl rfl (by rw [hz2]; omega) hmx (Nat.le_refl _) ?_; intro wm hown hgrow; have HBM : Hid _ := (HMK.out wm hgrow).2; have HO : Hid (SeenR wm W0.heap.size xs.length (fun _ => 0)) := (by have := hown; simp [Value.cells, toList_madeCells_one] at this; show World.ownsRow _ _ _ _ _ _ _; rw [mkS_zero]; exact this); obtain ⟨b0, b1, b2, b3⟩ := (HMK.out wm hgrow).1; clear hown hgrow HMK)
  have HST : Hid (WSt V w (wm.alloc (.cells #[.int .i64 c.1, .int .i64 c.2.1, .slice p c.2.2.length cp] 31)) xs a c W0.heap.size (some ⟨wm.heap.size, 0, none⟩) 1 1 [c] (fun _ => 0)) := by
    have hr := RowT.one (W0 := V) (heap_alloc_new wm (.cells #[.int .i64 c.1, .int .i64 c.2.1, .slice p c.2.2.length cp] 31)) HP.out
    obtain ⟨r1, rs, r2, r3, r4⟩ := hr
    have hsz : w.heap.size ≤ wm.heap.size := by have := HBM.out.size; have := HB0.out.size; omega
    refine ⟨⟨r1, rs, r2, ownsRow_down r3 hsz, r4⟩, HO.out.below (alloc_on _ _), Below.on (Below.on HB0.out HBM.out) (alloc_on _ _), winv_start HC.out, ?_⟩
    have := unk_top xs.length (fun _ => 0)
    omega
  have hbw : w.heap.size ≤ W0.heap.size := HB0.out.size
  generalize W0.heap.size = b at HST hbw ⊢
  clear b0 b1 b2 b3 HO HBM
  go_loopw [8] (fun s wr => ∃ (pt : Option Addr) (n ct : Nat) (ys : List Cel) (m : Nat → Nat), s = .slice pt n ct ∧ Hid (WSt V w wr xs a c b pt n ct ys m)) (fun s wr => 21 * unkW xs.length b wr + lenV s)
  case atStart => exact ⟨_, _, _, _, _, rfl, HST⟩
  case round =>
    obtain ⟨pt, n, ct, ys, m, rfl, HS⟩ := hrel
    cases n with
    | zero =>
      have HR : Hid (¬ Rch xs a c) := by
        have h0 := HS.out.1.1
        have : ys = [] := List.eq_nil_of_length_eq_zero h0.symm
        have hi := HS.out.2.2.2.1
        rw [this] at hi
        exact winv_end HG.out HA.out HC.out hi
      have HB : Hid (Below w.heap.size w wr) := HS.out.2.2.1
      clear HS
      go_wp2
      go_ret
      exact ⟨false, rfl, ⟨fun h => (by cases h), fun h => absurd h HR.out⟩, HB.out⟩
    | succ n =>
      obtain ⟨zs, y, rfl⟩ : ∃ zs y, ys = zs ++ [y] := by
        have := HS.out.1.1
        exact ⟨ys.dropLast, ys.getLast (fun e => by rw [e] at this; cases this), (List.dropLast_concat_getLast _).symm⟩
      have hzn : zs.length = n := by have := HS.out.1.1; simp at this; omega
      obtain ⟨gt, q, cq, rfl, hg1, hg2, d0, d1, d2, hq⟩ := HS.out.1.at n (by simp; omega)
      have ey : (zs ++ [y]).getD n Cel.none = y := by rw [← hzn]; simp [List.getD]
      rw [ey] at d0 d1 d2 hq
      have hcap := HS.out.1.cap
      have hyw := (winv_last HS.out.2.2.2.1).1
      have HCD := l10deref_any V h q cq y xs tr kk wr HG.out hyw hq (HH.out.below HS.out.2.2.1)
      have HYW : Hid (WdC xs (drf xs y)) := (drf_word HG.out hyw).1
      obtain ⟨x0, ex0⟩ : ∃ x, x = (drf xs y).1 := ⟨_, rfl⟩
      obtain ⟨x1, ex1⟩ : ∃ x, x = (drf xs y).2.1 := ⟨_, rfl⟩
      obtain ⟨x2, ex2⟩ : ∃ x, x = (drf xs y).2.2.length := ⟨_, rfl⟩
      rw [← ex0, ← ex1, ← ex2] at HCD
      have HEX : Hid (x0 = (drf xs y).1 ∧ x1 = (drf xs y).2.1) := ⟨ex0, ex1⟩
      have HZN : Hid _ := hzn
      have hnb : n ≤ 420000 := by have := HS.out.2.2.2.2; omega
      clear ey hq hyw ex0 ex1 ex2 hzn HST
      go_wp2_with fail
      refine HCD.mono ?_
      rintro e w2 ⟨p2, cp2, rfl, _, hb2⟩
      obtain ⟨W3, eW3⟩ : ∃ W, W = w2.alloc (.cells #[.int .i64 x0, .int .i64 x1, .slice p2 x2 cp2] 31) := ⟨_, rfl⟩
      have hb3 : Below wr.heap.size wr W3 := by rw [eW3]; exact Below.on hb2 (alloc_on _ _)
      have HS3 : Hid (RowT V w.heap.size W3 (some ⟨gt, 0, none⟩) (n + 1) ct (zs ++ [y]) ∧ SeenR W3 b xs.length m ∧ Below w.heap.size w W3) := ⟨HS.out.1.below hb3, HS.out.2.1.below hb3, Below.on HS.out.2.2.1 hb3⟩
      have HX3 : Hid (Box3 W3 w2.heap.size (.int .i64 x0) (.int .i64 x1) (.slice p2 x2 cp2)) := by show Box3 _ _ _ _ _; rw [eW3]; exact Box3.of_block (t := 31) (heap_alloc_new _ _)
      have HGB : Hid (gt < w2.heap.size ∧ b < w2.heap.size ∧ w2.heap.size < W3.heap.size) := ⟨Nat.lt_of_lt_of_le hg2 hb2.size, Nat.lt_of_lt_of_le HS.out.2.1.lt hb2.size, HX3.out.lt⟩
      have HU3 : Hid (unkW xs.length b wr = unk xs.length m) := unkW_eq HS.out.2.1
      have HI3 : Hid (WInv xs a c m (zs ++ [y])) := HS.out.2.2.2.1
      have HN3 : Hid (21 * unk xs.length m + (n + 1) ≤ 420001) := HS.out.2.2.2.2
      have HPOP : Hid (DoneW xs a (fun s => m s ≠ 0) y → ∃ (pt : Option Addr) (n' ct' : Nat) (ys' : List Cel) (m' : Nat → Nat), Value.slice (some ⟨gt, 0, none⟩) n ct = .slice pt n' ct' ∧ Hid (WSt V w W3 xs a c b pt n' ct' ys' m')) := fun hd =>
        ⟨_, _, _, zs, m, rfl, HS3.out.1.pop, HS3.out.2.1, HS3.out.2.2, winv_drop HI3.out hd, by have := HN3.out; omega⟩
      have HMS : Hid (unkW xs.length b W3 = unk xs.length m) := unkW_eq HS3.out.2.1
      have HE3 : Hid _ := eW3
      clear hb2 hb3 eW3 HS d0 d1 d2 hg1 hg2 HCD
      by_cases q0 : x0 = 0
      · by_cases q1 : x1 = a
        · have HR : Hid (Rch xs a c) := winv_hit HG.out HI3.out (by rw [← HEX.out.1]; exact q0) (by rw [← HEX.out.2]; exact q1)
          have e0 : (x0 == 0) = true := by simp [q0]
          have e1 : (x1 == (a : Int)) = true := by simp [q1]
          have HB : Hid (Below w.heap.size w W3) := HS3.out.2.2
          clear q0 q1 HS3 HPOP
          rw [HE3.out] at HB
          go_wp2
          go_ret
          exact ⟨true, rfl, ⟨fun _ => HR.out, fun _ => rfl⟩, HB.out⟩
        · have HD := HPOP.out ⟨fun hh => q1 (by rw [HEX.out.2]; exact hh.2), fun h4 => by have := HEX.out.1; omega⟩
          have e0 : (x0 == 0) = true := by simp [q0]
          have e1 : (x1 == (a : Int)) = false := by simp [q1]
          have e2 : (x0 != 4) = true := by simp [q0]
          clear q0 q1 HS3 HPOP
          go_wp2
          rw [← HE3.out]
          go_roundw
          case rel => exact HD
          case measure => rw [HU3.out, HMS.out]; simp [lenV]
      · have e0 : (x0 == 0) = false := by simp [q0]
        by_cases q4 : x0 = 4
        · obtain ⟨r0, r1, r2⟩ := HYW.out.2.2 (by rw [← HEX.out.1]; exact q4)
          rw [← HEX.out.2] at r0 r1 r2
          obtain ⟨s0, rfl⟩ : ∃ s0 : Nat, x1 = s0 := ⟨x1.toNat, by omega⟩
          simp only [Int.toNat_natCast] at r2
          have hs0 : s0 < xs.length := by omega
          have HK : Hid (kndA xs s0 = 3) := r2
          have e2 : (x0 != 4) = false := by simp [q4]
          clear r0 r1 r2
          by_cases hm : m s0 = 0
          · have k3 : W3.cell? ⟨b, s0, none⟩ = some (.bool false) := by rw [HS3.out.2.1.cell s0 hs0]; simp [hm]
            have f3 : W3.frozen? ⟨b, s0, none⟩ = false := HS3.out.2.1.frz s0
            obtain ⟨hf1, hf2, hf3⟩ := HG.out.shp.funs s0 hs0 HK.out
            obtain ⟨nn, enn⟩ : ∃ nn : Nat, numA xs s0 = nn := ⟨(numA xs s0).toNat, by omega⟩
            have hnn : nn ≤ 20 := by omega
            have HNN : Hid (numA xs s0 = nn ∧ ∀ i : Nat, 1 ≤ i → i ≤ nn → s0 + i < xs.length) := ⟨enn, fun i h1 h2 => (hf3 i h1 (by omega)).1⟩
            have HUL : Hid (unk xs.length (setM m s0 1) < unk xs.length m) := unk_lt hs0 hm (by decide)
            have HIO : Hid (WInv xs a c (setM m s0 1) (zs ++ argsL xs s0 nn)) := winv_open HG.out HI3.out (by rw [← HEX.out.1]; exact q4) s0 HEX.out.2.symm nn enn
            have HS4 : Hid (RowT V w.heap.size (W3.setCell ⟨b, s0, none⟩ (.bool true)) (some ⟨gt, 0, none⟩) n ct (zs ++ argsL xs s0 0) ∧ SeenR (W3.setCell ⟨b, s0, none⟩ (.bool true)) b xs.length (setM m s0 1) ∧ Below w.heap.size w (W3.setCell ⟨b, s0, none⟩ (.bool true)) ∧ (W3.setCell ⟨b, s0, none⟩ (.bool true)).cell? ⟨w2.heap.size, 1, none⟩ = some (.int .i64 s0) ∧ w2.heap.size < (W3.setCell ⟨b, s0, none⟩ (.bool true)).heap.size) := by
              refine ⟨?_, HS3.out.2.1.put s0, HS3.out.2.2.setCell (p := ⟨b, s0, none⟩) hbw _, ?_, ?_⟩
              · have h0 : zs ++ argsL xs s0 0 = zs := by simp [argsL]
                rw [h0]
                exact HS3.out.1.pop.setBool HS3.out.2.1 s0 _
              · have := HGB.out.2.1
                rw [World.cell?_setCell_other _ _ _ _ (fun e => by have h2 := congrArg Addr.block e; simp at h2; omega)]
                exact HX3.out.2.1
              · have := HGB.out.2.2
                simpa using this
            have HGW : Hid (Value.ownBlock (.slice (some ⟨gt, 0, none⟩) n ct) ≠ some w2.heap.size) := fun e => by
              have h1 := HGB.out.1
              simp only [Value.ownBlock, Option.some.injEq] at e
              omega
            clear q0 q4 hm enn hf1 hf2 hf3 HPOP HS3 HX3 HMS
            rw [HE3.out] at k3 f3
            go_wp2
            rw [← HE3.out]
            generalize W3.setCell ⟨b, s0, none⟩ (.bool true) = W4 at HS4 ⊢
            clear k3 f3 HE3 HGB
            generalize w2.heap.size = bx at HS4 HGW ⊢
            go_loopw [8, 10] (fun s i wv => ∃ (k n' ct' : Nat) (pt : Option Addr), k ≤ nn ∧ n' = n + k ∧ s = .slice pt n' ct' ∧ i = .int .i64 ((k : Int) + 1) ∧ Hid (RowT V w.heap.size wv pt n' ct' (zs ++ argsL xs s0 k) ∧ SeenR wv b xs.length (setM m s0 1) ∧ Below w.heap.size w wv ∧ wv.cell? ⟨bx, 1, none⟩ = some (.int .i64 s0) ∧ bx < wv.heap.size) ∧ Hid (Value.ownBlock (.slice pt n' ct') ≠ some bx)) (fun _ i _ => nn + 1 - (intOf i).toNat)
            case atStart => exact ⟨0, n, ct, _, Nat.zero_le _, rfl, rfl, rfl, HS4, HGW⟩
            case round =>
              obtain ⟨k, n', ct', pt, hk, rfl, rfl, rfl, HR, HW⟩ := hrel
              obtain ⟨pc, cc, pt2, ct2, hh, hrow, _, _, _⟩ := HH.out.below HR.out.2.2.1
              obtain ⟨gg, qx, cx, rfl, hg1, hg2, _, d1, _, _⟩ := hrow.at s0 hs0
              rw [show (xs.getD s0 Cel.none).2.1 = (nn : Int) from HNN.out.1] at d1
              have h0 : wr.cell? ⟨h, 0, none⟩ = some (.slice (some ⟨gg, 0, none⟩) xs.length cc) := by simp [World.cell?, hh]
              have hx1 := HR.out.2.2.2.1
              clear hh hrow hg1 hg2
              have hkb : k ≤ 20 := by omega
              go_wp2
              go_region_held3 (fun W => W.cell? ⟨h, 0, none⟩ = some (.slice (some ⟨gg, 0, none⟩) xs.length cc) ∧ W.cell? ⟨bx, 1, none⟩ = some (.int .i64 s0) ∧ W.cell? ⟨gg, s0 * 3 + 1, none⟩ = some (.int .i64 nn)) (go_keep) (fail)
              rename_i hheld
              clear hheld
              have hbd : Below wr.heap.size wr wr.drew := (Below.refl _ _).drew
              have HRd : Hid (RowT V w.heap.size wr.drew pt (n + k) ct' (zs ++ argsL xs s0 k) ∧ SeenR wr.drew b xs.length (setM m s0 1) ∧ Below w.heap.size w wr.drew ∧ wr.drew.cell? ⟨bx, 1, none⟩ = some (.int .i64 s0) ∧ bx < wr.drew.heap.size) := ⟨HR.out.1.below hbd, HR.out.2.1.below hbd, Below.on HR.out.2.2.1 hbd, hx1, HR.out.2.2.2.2⟩
              clear h0 hx1 d1 hbd HR
              generalize wr.drew = wd at HRd ⊢
              by_cases hlt : k < nn
              · have hle : (k : Int) + 1 ≤ (nn : Int) := by omega
                have hidx := HNN.out.2 (k + 1) (by omega) (by omega)
                obtain ⟨pc, cc, pt2, ct2, hh, hrow, _, _, _⟩ := HH.out
                obtain ⟨gg, qx, cx, rfl, hg1, hg2, d0, d1, d2, hqx⟩ := hrow.at (s0 + (k + 1)) hidx
                obtain ⟨z, ez⟩ : ∃ z, z = xs.getD (s0 + (k + 1)) Cel.none := ⟨_, rfl⟩
                rw [← ez] at d0 d1 d2 hqx
                obtain ⟨zl, ezl⟩ : ∃ l, l = z.2.2.length := ⟨_, rfl⟩
                rw [← ezl] at d2
                obtain ⟨tt, ett⟩ : ∃ t : Nat, t = s0 + (k + 1) := ⟨_, rfl⟩
                rw [← ett] at d0 d1 d2 hidx
                have hwr : IntKind.i64.wrap ((s0 : Int) + ((k : Int) + 1)) = (tt : Int) := by rw [show (s0 : Int) + ((k : Int) + 1) = tt by omega]; rw [IntKind.wrap_i64]; omega
                have hx1 := HRd.out.2.2.2.1
                have HF : Hid (∀ W, Below w.heap.size w W → W.cell? ⟨h, 0, none⟩ = some (.slice (some ⟨gg, 0, none⟩) xs.length cc) ∧ W.cell? ⟨gg, tt * 3, none⟩ = some (.int .i64 z.1) ∧ W.cell? ⟨gg, tt * 3 + 1, none⟩ = some (.int .i64 z.2.1) ∧ W.cell? ⟨gg, tt * 3 + 2, none⟩ = some (.slice qx zl cx)) := fun W hW => by
                  have hh' := (hW.block h (Array.getElem?_eq_some_iff.1 hh).1).trans hh
                  exact ⟨by simp [World.cell?, hh'], (hW.cell (p := ⟨gg, tt * 3, none⟩) hg2).trans d0, (hW.cell (p := ⟨gg, tt * 3 + 1, none⟩) hg2).trans d1, (hW.cell (p := ⟨gg, tt * 3 + 2, none⟩) hg2).trans d2⟩
                clear d0 d1 d2 hh hrow hg1 hg2
                obtain ⟨h0, d0, d1, d2⟩ := HF.out _ HRd.out.2.2.1
                have hlen : (zs ++ argsL xs s0 k).length = n + k := by rw [List.length_append, argsL_len, HZN.out]
                obtain ⟨WA, eWA⟩ : ∃ W, W = (wd.alloc (.cells #[.int .i64 z.1, .int .i64 z.2.1, .slice qx zl cx] 31)).drew := ⟨_, rfl⟩
                have hbA : Below wd.heap.size wd WA := by rw [eWA]; exact (alloc_on _ _).drew
                have hbxA : Box3 WA wd.heap.size (.int .i64 z.1) (.int .i64 z.2.1) (.slice qx zl cx) := by rw [eWA]; exact Box3.of_block (t := 31) (heap_alloc_new wd _)
                have hzA : WA.heap.size = wd.heap.size + 1 := by rw [eWA]; simp
                have hrA := HRd.out.1.below hbA
                obtain ⟨g9, cap9, w9, hr9, ho9, hg9, hgg9⟩ := app_celT WA 34 V w.heap.size pt ct' wd.heap.size (zs ++ argsL xs s0 k) z qx cx (by rw [hlen]; omega) (by have := HRd.out.2.2.1.size; omega) (by rw [hlen]; exact hrA) hbxA.1 hbxA.2.1 (by rw [← ezl]; exact hbxA.2.2.1) hqx
                rw [hlen] at hr9 ho9 hg9 hgg9
                have HW9 : Hid (Value.ownBlock (.slice (some ⟨g9, 0, none⟩) (n + (k + 1)) cap9) ≠ some bx) := fun e => by
                  simp only [Value.ownBlock, Option.some.injEq] at e
                  have h1 := HRd.out.2.2.2.2
                  rcases hgg9 with h' | h'
                  · exact HW.out (by rw [h', e])
                  · omega
                have hb9 : Below w.heap.size w w9 := (Below.on HRd.out.2.2.1 hbA).grown hg9 (by have := HRd.out.2.2.1.size; omega) (fun k' e => by obtain ⟨_, rs, _, hr, _⟩ := hrA; exact (hr.lt _ e).1)
                have hx9 : w9.cell? ⟨bx, 1, none⟩ = some (.int .i64 s0) := by
                  have h1 := HRd.out.2.2.2.2
                  have hA := (hbA.cell (p := ⟨bx, 1, none⟩) h1).trans hx1
                  exact (World.cell?_of_block (a := ⟨bx, 1, none⟩) (hg9.block bx (by omega) (fun e => HW.out e.symm))).trans hA
                have HR9 : Hid (RowT V w.heap.size w9 (some ⟨g9, 0, none⟩) (n + (k + 1)) cap9 (zs ++ argsL xs s0 (k + 1)) ∧ SeenR w9 b xs.length (setM m s0 1) ∧ Below w.heap.size w w9 ∧ w9.cell? ⟨bx, 1, none⟩ = some (.int .i64 s0) ∧ bx < w9.heap.size) := by
                  refine ⟨?_, (HRd.out.2.1.below hbA).grown hg9 ?_, hb9, hx9, World.block_lt_of_cell? _ _ hx9⟩
                  · rw [argsL_succ, ← List.append_assoc, ← ez]; exact ho9
                  · intro e
                    obtain ⟨_, rs, _, hr, _⟩ := hrA
                    exact row_ne3 hr (HRd.out.2.1.below hbA) (by decide) e rfl
                obtain ⟨k0, k1, k2, k3⟩ := HF.out _ hb9
                have kk9 : w9.cell? ⟨h, 0, none⟩ = some (.slice (some ⟨gg, 0, none⟩) xs.length cc) ∧ w9.cell? ⟨bx, 1, none⟩ = some (.int .i64 s0) ∧ w9.cell? ⟨gg, tt * 3, none⟩ = some (.int .i64 z.1) ∧ w9.cell? ⟨gg, tt * 3 + 1, none⟩ = some (.int .i64 z.2.1) ∧ w9.cell? ⟨gg, tt * 3 + 2, none⟩ = some (.slice qx zl cx) := ⟨k0, hx9, k1, k2, k3⟩
                have HKK : Hid _ := kk9
                rw [eWA] at hr9
                clear ez ezl ett hlen eWA hbA hbxA hzA hrA ho9 hg9 hgg9 hb9 hx9 k0 k1 k2 k3 kk9 HF hqx
                go_wp2
                go_region_held3 (fun W => W.cell? ⟨h, 0, none⟩ = some (.slice (some ⟨gg, 0, none⟩) xs.length cc) ∧ W.cell? ⟨bx, 1, none⟩ = some (.int .i64 s0) ∧ W.cell? ⟨gg, tt * 3, none⟩ = some (.int .i64 z.1) ∧ W.cell? ⟨gg, tt * 3 + 1, none⟩ = some (.int .i64 z.2.1) ∧ W.cell? ⟨gg, tt * 3 + 2, none⟩ = some (.slice qx zl cx)) (first | exact kk | go_keep) (first | (refine step_app_run rfl _ _ _ _ rfl _ _ _ _ _ rfl rfl hr9 ?_; have kk := HKK.out))
                rename_i hheld
                clear hheld
                clear kk h0 d0 d1 d2 hx1 hr9 HKK
                go_wp2
                go_roundw
                case rel => exact ⟨k + 1, n + (k + 1), cap9, some ⟨g9, 0, none⟩, by omega, rfl, rfl, by first | rfl | (simp; done) | (push_cast; rfl), HR9, HW9⟩
                case measure => simp [intOf]; omega
              · have hle : ¬ (k : Int) + 1 ≤ (nn : Int) := by omega
                obtain rfl : k = nn := by omega
                clear hlt
                go_wp2
                go_roundw
                case rel => exact ⟨_, _, _, _, _, rfl, HRd.out.1, HRd.out.2.1, HRd.out.2.2.1, HIO.out, by have h1 := HUL.out; have h2 := HN3.out; omega⟩
                case measure =>
                  rw [HU3.out, unkW_eq HRd.out.2.1]
                  have h1 := HUL.out
                  simp only [lenV]
                  omega
          · have k3 : W3.cell? ⟨b, s0, none⟩ = some (.bool true) := by rw [HS3.out.2.1.cell s0 hs0]; simp [hm]
            have HD := HPOP.out ⟨fun hh => q0 (by rw [HEX.out.1]; exact hh.1), fun _ => by rw [← HEX.out.2]; exact hm⟩
            clear q0 q4 HS3 HPOP hm
            rw [HE3.out] at k3
            go_wp2
            rw [← HE3.out]
            go_roundw
            case rel => exact HD
            case measure => rw [HU3.out, HMS.out]; simp [lenV]
        · have HD := HPOP.out ⟨fun hh => q0 (by rw [HEX.out.1]; exact hh.1), fun h4 => absurd (by rw [HEX.out.1]; exact h4) q4⟩
          have e2 : (x0 != 4) = true := by simp [q4]
          clear q0 q4 HS3 HPOP
          go_wp2
          rw [← HE3.out]
          go_roundw
          case rel => exact HD
          case measure => rw [HU3.out, HMS.out]; simp [lenV]

end Go.Proofs.Ytfnmoaiejpkocaa

