/- Texts of RenN, Ren3, Dt8. Own work of the verifier. -/
import Derived.Test.YtaakpdakeolgeaaGreatUqam
import Derived.Test.YtaakpdakeolgeaaGreatUqah
import Derived.Test.YtaakpdakeolgeaaGreatUqac
import Derived.Test.YtaakpdakeolgeaaGreatUqak
namespace Go.Proofs.YtaakpdakeolgeaaGreat
open Go Go.RowKit Go.Maps
set_option linter.unusedVariables false
set_option maxRecDepth 100000 in
theorem renumber_any (c : Cel) (k : Fo) (v : Value) (Bt : Nat) (w : World) (hok : (Fo.node c k .nil).ok) (hfo : FoIn w Bt (.node c k .nil) [v]) (hl : k.cells.length ≤ 10000) :
    Calls Tryz.prog 45 #[v] w fun e w' => ∃ v', e = .returned v' ∧ FoIn w' w.heap.size (.node (renI (visits [] (c :: k.cells)) c) (k.map (renI (visits [] (c :: k.cells)))) .nil) [v'] ∧ Below w.heap.size w w' := by
  have hmm := @run_makeMap Tryz.prog
  obtain ⟨vt, vx, rfl⟩ := hfo.iface
  have hW : Below w.heap.size w ((w.alloc (Obj.map #[] 0)).alloc (Obj.cells #[Value.map (some w.heap.size)] 123)) := ((Below.refl _ _).alloc (Nat.le_refl _) _).alloc (by simp) _
  have hnew := heap_alloc_new (w.alloc (Obj.map #[] 0)) (Obj.cells #[Value.map (some w.heap.size)] 123)
  have e1 : (w.alloc (Obj.map #[] 0)).heap.size = w.heap.size + 1 := by simp
  rw [e1] at hnew
  have hS : RState ((w.alloc (Obj.map #[] 0)).alloc (Obj.cells #[Value.map (some w.heap.size)] 123)) (w.heap.size + 1) w.heap.size [] := ⟨cell_of_row _ _ 0 _ _ _ hnew, (NumMap.made w).of_block (Below.heap_alloc _ _ _ (by simp))⟩
  have HR := replace_any k.cells.length c k _ Bt (w.heap.size + 1) w.heap.size [] w _ (Nat.le_refl _) hok hfo hW (Nat.le_refl _) hS (by simp; omega)
  have HW : Hid _ := hW
  clear hok hfo hS hW hnew e1
  go_enter Tryz.func45, Tryz.ntmps45
  go_wp2_with fail
  refine HR.mono ?_
  rintro e w1 ⟨v1, rfl, hst, hg, hf⟩
  have hfo := hf _ List.prefix_rfl
  obtain ⟨nt, nx, rfl⟩ := hfo.iface
  have HF : Hid (FoIn w1 w.heap.size (.node (renI (visits [] (c :: k.cells)) c) (k.map (renI (visits [] (c :: k.cells)))) .nil) [.iface nt nx]) := hfo.mono (by simp; omega)
  have HB : Hid (Below w.heap.size w w1) := HW.out.trans (grown_below hg (by simp; omega) (Nat.le_refl _))
  clear hf hst hg hfo HR
  go_wp2_with fail
  go_ret
  exact ⟨_, rfl, HF.out, HB.out⟩
def renCells (cs : List Cel) : List Cel := cs.map (renI (visits [] cs))
end Go.Proofs.YtaakpdakeolgeaaGreat

namespace Go.Proofs.YtaakpdakeolgeaaGreat
open Go Go.RowKit Go.Maps
set_option linter.unusedVariables false
theorem flat_setN : ∀ (rs : List RC) (i : Nat) (b : Int), i < rs.length → (flat rs).set (i * 3 + 1) (.int .i64 b) = flat (rs.set i ((rs.getD i RC.zero).1, b, (rs.getD i RC.zero).2.2))
  | [], i, b, h => by simp at h
  | x :: rs, 0, b, _ => by simp [flat_cons]
  | x :: rs, i + 1, b, h => by
    have := flat_setN rs i b (by simpa using h)
    rw [flat_cons, show (i + 1) * 3 + 1 = (i * 3 + 1) + 1 + 1 + 1 by omega]
    simp only [List.set_cons_succ, this]
    rfl
theorem OwnC.setN {w : World} {B g n c j : Nat} {cs : List Cel} (h : OwnC w B (some ⟨g, 0, none⟩) n c cs) (hj : j < cs.length) (b : Int) :
    OwnC (w.setCell ⟨g, j * 3 + 1, none⟩ (.int .i64 b)) B (some ⟨g, 0, none⟩) n c (cs.set j ((cs.getD j Cel.none).1, b, (cs.getD j Cel.none).2.2)) := by
  obtain ⟨hn, rs, hl, hr, hf, ha⟩ := h
  have h2 := (hr.stored (j * 3 + 1) (.int .i64 b)).1
  rw [flat_setN rs j b (by omega)] at h2
  have hat : ∀ i, ((rs.set j ((rs.getD j RC.zero).1, b, (rs.getD j RC.zero).2.2)).getD i RC.zero).2.2 = (rs.getD i RC.zero).2.2 := fun i => by
    rw [rs_set_at _ _ _ _ (by omega)]
    by_cases e : i = j
    · rw [if_pos e, e]
    · rw [if_neg e]
  refine ⟨by simpa using hn, _, by simpa using hl, h2, fun i hi => ?_, ⟨fun i hi => ?_, fun i i' hi hi' hne => ?_⟩⟩
  · have hi' : i < cs.length := by simpa using hi
    rw [cs_set_at _ _ _ _ hj, rs_set_at _ _ _ _ (by omega)]
    obtain ⟨q0, q1, q2⟩ := hf i hi'
    have q3 := q2.setCell (a := ⟨g, j * 3 + 1, none⟩) (fun hp e' => ha.1 i (by omega) hp e') (.int .i64 b)
    by_cases e : i = j
    · rw [if_pos e, if_pos e]
      subst e
      exact ⟨q0, rfl, q3⟩
    · rw [if_neg e, if_neg e]
      exact ⟨q0, q1, q3⟩
  · rw [hat]; exact ha.1 i (by simpa using hi)
  · rw [hat, hat]; exact ha.2 i i' (by simpa using hi) (by simpa using hi') hne
theorem visits_mem : ∀ (cs : List Cel) (ks : List Int) (c : Cel), c ∈ cs → c.1 = 0 → c.2.1 ∈ visits ks cs
  | [], ks, c, h, _ => by cases h
  | a :: r, ks, c, h, h0 => by
    rcases List.mem_cons.1 h with rfl | h
    · rw [visits_cons]
      refine (visits_prefix r _).subset ?_
      rw [visitL, if_pos h0]
      exact putV_mem _ _
    · exact visits_mem r (visitL ks a) c h h0
end Go.Proofs.YtaakpdakeolgeaaGreat

namespace Go.Proofs.YtaakpdakeolgeaaGreat
open Go Go.RowKit
set_option linter.unusedVariables false
theorem flat_setK : ∀ (rs : List RC) (i : Nat) (b : Int), i < rs.length → (flat rs).set (i * 3) (.int .i64 b) = flat (rs.set i (b, (rs.getD i RC.zero).2))
  | [], i, b, h => by simp at h
  | x :: rs, 0, b, _ => by simp [flat_cons]
  | x :: rs, i + 1, b, h => by
    have := flat_setK rs i b (by simpa using h)
    rw [flat_cons, show (i + 1) * 3 = (i * 3) + 1 + 1 + 1 by omega]
    simp only [List.set_cons_succ, this]
    rfl
theorem flat_setT : ∀ (rs : List RC) (i : Nat) (p : Option Addr) (n c : Nat), i < rs.length → (flat rs).set (i * 3 + 2) (.slice p n c) = flat (rs.set i ((rs.getD i RC.zero).1, (rs.getD i RC.zero).2.1, p, n, c))
  | [], i, p, n, c, h => by simp at h
  | x :: rs, 0, p, n, c, _ => by simp [flat_cons]
  | x :: rs, i + 1, p, n, c, h => by
    have := flat_setT rs i p n c (by simpa using h)
    rw [flat_cons, show (i + 1) * 3 + 2 = (i * 3 + 2) + 1 + 1 + 1 by omega]
    simp only [List.set_cons_succ, this]
    rfl
theorem flat_takeD : ∀ (rs : List RC) (m : Nat), (flat rs).take (m * 3) = flat (rs.take m)
  | [], m => by simp [flat]
  | r :: rs, 0 => by simp [flat]
  | r :: rs, m + 1 => by rw [List.take_succ_cons, flat_cons, flat_cons, ← flat_takeD rs m, Nat.succ_mul]; rfl
theorem OwnC.setK {w : World} {B g n c j : Nat} {cs : List Cel} (h : OwnC w B (some ⟨g, 0, none⟩) n c cs) (hj : j < cs.length) (b : Int) :
    OwnC (w.setCell ⟨g, j * 3, none⟩ (.int .i64 b)) B (some ⟨g, 0, none⟩) n c (cs.set j (b, (cs.getD j Cel.none).2)) := by
  obtain ⟨hn, rs, hl, hr, hf, ha⟩ := h
  have h2 := (hr.stored (j * 3) (.int .i64 b)).1
  rw [flat_setK rs j b (by omega)] at h2
  have hat : ∀ i, ((rs.set j (b, (rs.getD j RC.zero).2)).getD i RC.zero).2.2 = (rs.getD i RC.zero).2.2 := fun i => by
    rw [rs_set_at _ _ _ _ (by omega)]
    by_cases e : i = j
    · rw [if_pos e, e]
    · rw [if_neg e]
  refine ⟨by simpa using hn, _, by simpa using hl, h2, fun i hi => ?_, ⟨fun i hi => ?_, fun i i' hi hi' hne => ?_⟩⟩
  · have hi' : i < cs.length := by simpa using hi
    rw [cs_set_at _ _ _ _ hj, rs_set_at _ _ _ _ (by omega)]
    obtain ⟨q0, q1, q2⟩ := hf i hi'
    have q3 := q2.setCell (a := ⟨g, j * 3, none⟩) (fun hp e' => ha.1 i (by omega) hp e') (.int .i64 b)
    by_cases e : i = j
    · rw [if_pos e, if_pos e]
      subst e
      exact ⟨rfl, q1, q3⟩
    · rw [if_neg e, if_neg e]
      exact ⟨q0, q1, q3⟩
  · rw [hat]; exact ha.1 i (by simpa using hi)
  · rw [hat, hat]; exact ha.2 i i' (by simpa using hi) (by simpa using hi') hne
theorem OwnC.setT {w : World} {B g n c j M tn tc : Nat} {tp : Option Addr} {s : List Int} {cs : List Cel} (h : OwnC w B (some ⟨g, 0, none⟩) n c cs) (hj : j < cs.length) (hM : B ≤ M) (hg : g < M) (hlow : ∀ rs : List RC, rs.length = cs.length → w.ownsRow B 35 3 (.slice (some ⟨g, 0, none⟩) n c) n (flat rs) → ∀ i, i < rs.length → 0 < (rs.getD i RC.zero).2.2.2.1 → ∀ a, (rs.getD i RC.zero).2.2.1 = some a → a.block < M) (ht : OwnT w M tp tn tc s) :
    OwnC (w.setCell ⟨g, j * 3 + 2, none⟩ (.slice tp tn tc)) B (some ⟨g, 0, none⟩) n c (cs.set j ((cs.getD j Cel.none).1, (cs.getD j Cel.none).2.1, s)) := by
  obtain ⟨hn, rs, hl, hr, hf, ha⟩ := h
  have hlw := hlow rs hl hr
  have h2 := (hr.stored (j * 3 + 2) (.slice tp tn tc)).1
  rw [flat_setT rs j tp tn tc (by omega)] at h2
  have far : ∀ i, i < rs.length → 0 < (rs.getD i RC.zero).2.2.2.1 → 0 < tn → (rs.getD i RC.zero).2.2.1 ≠ tp := fun i hi h0 h1 e => by
    obtain ⟨k, ek, hk, _⟩ := ht.2 h1
    have := hlw i hi h0 ⟨k, 0, none⟩ (by rw [e, ek])
    simp only at this
    omega
  have far2 : 0 < tn → tp ≠ some ⟨g, 0, none⟩ := fun h1 e => by
    obtain ⟨k, ek, hk, _⟩ := ht.2 h1
    rw [e] at ek; cases ek; omega
  refine ⟨by simpa using hn, _, by simpa using hl, h2, fun i hi => ?_, ⟨fun i hi h0 => ?_, fun i i' hi hi' hne h0 h1 => ?_⟩⟩
  · have hi' : i < cs.length := by simpa using hi
    rw [cs_set_at _ _ _ _ hj, rs_set_at _ _ _ _ (by omega)]
    by_cases e : i = j
    · rw [if_pos e, if_pos e]
      obtain ⟨q0, q1, q2⟩ := hf j hj
      exact ⟨q0, q1, (ht.mono hM).setCell (a := ⟨g, j * 3 + 2, none⟩) (fun hp e' => far2 hp e') _⟩
    · rw [if_neg e, if_neg e]
      obtain ⟨q0, q1, q2⟩ := hf i hi'
      exact ⟨q0, q1, q2.setCell (a := ⟨g, j * 3 + 2, none⟩) (fun hp e' => ha.1 i (by omega) hp e') _⟩
  · have hi' : i < rs.length := by simpa using hi
    rw [rs_set_at _ _ _ _ (by omega)] at h0 ⊢
    by_cases e : i = j
    · rw [if_pos e] at h0 ⊢; exact far2 h0
    · rw [if_neg e] at h0 ⊢; exact ha.1 i hi' h0
  · have hi1 : i < rs.length := by simpa using hi
    have hi2 : i' < rs.length := by simpa using hi'
    rw [rs_set_at _ _ _ _ (by omega)] at h0 ⊢
    rw [rs_set_at _ _ _ _ (by omega)] at h1 ⊢
    by_cases e : i = j
    · rw [if_pos e] at h0 ⊢
      rw [if_neg (by omega)] at h1 ⊢
      exact fun e' => far i' hi2 h1 h0 e'.symm
    · rw [if_neg e] at h0 ⊢
      by_cases e2 : i' = j
      · rw [if_pos e2] at h1 ⊢
        exact far i hi1 h0 h1
      · rw [if_neg e2] at h1 ⊢
        exact ha.2 i i' hi1 hi2 hne h0 h1
theorem OwnC.cut {w : World} {B g n c m : Nat} {cs : List Cel} (h : OwnC w B (some ⟨g, 0, none⟩) n c cs) (hm : m ≤ n) : OwnC w B (some ⟨g, 0, none⟩) m c (cs.take m) := by
  obtain ⟨hn, rs, hl, hr, hf, ha⟩ := h
  have hg : ∀ i, i < m → (rs.take m).getD i RC.zero = rs.getD i RC.zero := fun i hi => by rw [List.getD, List.getD, List.getElem?_take_of_lt hi]
  have hc : ∀ i, i < m → (cs.take m).getD i Cel.none = cs.getD i Cel.none := fun i hi => by rw [List.getD, List.getD, List.getElem?_take_of_lt hi]
  have hml : (rs.take m).length = m := by rw [List.length_take]; omega
  refine ⟨by rw [List.length_take]; omega, rs.take m, by rw [List.length_take, List.length_take, hl], ⟨by rw [flat_len, hml], ?_⟩, fun i hi => ?_, fun i hi => ?_, fun i i' hi hi' => ?_⟩
  · rcases hr.2 with ⟨hv, _⟩ | ⟨g', cap', cur, hv, hB, hg', hnc, hcm, hcs, htk⟩
    · simp at hv
    · simp only [Value.slice.injEq, Option.some.injEq, Addr.mk.injEq, and_true, true_and] at hv
      obtain ⟨rfl, rfl⟩ := hv
      refine .inr ⟨g, c, cur, rfl, hB, hg', Nat.le_trans hm hnc, hcm, hcs, ?_⟩
      rw [← flat_takeD, ← htk, List.take_take]
      congr 1
      omega
  · have hi' : i < m := by rw [List.length_take] at hi; omega
    rw [hg i hi', hc i hi']
    exact hf i (by omega)
  · have hi' : i < m := by rw [hml] at hi; exact hi
    rw [hg i hi']
    exact ha.1 i (by omega)
  · have h1 : i < m := by rw [hml] at hi; exact hi
    have h2 : i' < m := by rw [hml] at hi'; exact hi'
    rw [hg i h1, hg i' h2]
    exact ha.2 i i' (by omega) (by omega)
theorem OwnC.cells {w : World} {B g n c j : Nat} {cs : List Cel} (h : OwnC w B (some ⟨g, 0, none⟩) n c cs) (hj : j < cs.length) : w.cell? ⟨g, j * 3, none⟩ = some (.int .i64 (cs.getD j Cel.none).1) ∧ w.cell? ⟨g, j * 3 + 1, none⟩ = some (.int .i64 (cs.getD j Cel.none).2.1) ∧ (∃ q k d, w.cell? ⟨g, j * 3 + 2, none⟩ = some (.slice q k d)) ∧ ∀ o, w.frozen? ⟨g, o, none⟩ = false := by
  obtain ⟨hn, rs, hl, hr, hf, ha⟩ := h
  obtain ⟨f0, f1, f2⟩ := hf j hj
  obtain ⟨a0, a1, a2⟩ := flat_at rs j (by omega)
  refine ⟨by rw [hr.cellAt _ (by omega), a0, f0], by rw [hr.cellAt _ (by omega), a1, f1], ⟨_, _, _, by rw [hr.cellAt _ (by omega), a2]⟩, fun o => hr.frozenAt o⟩
theorem OwnC.cap {w : World} {B n c : Nat} {p : Option Addr} {cs : List Cel} (h : OwnC w B p n c cs) : cs.length ≤ c ∧ c ≤ 9223372036854775807 := by
  obtain ⟨hn, rs, hl, hr, _⟩ := h
  rcases hr.2 with ⟨hv, h0⟩ | ⟨g, cap, cur, hv, _, _, h1, h2, _⟩
  · simp only [Value.slice.injEq] at hv
    omega
  · simp only [Value.slice.injEq] at hv
    unfold maxLen at h2
    omega
theorem OwnC.at0 {w : World} {B n c : Nat} {p : Option Addr} {cs : List Cel} (h : OwnC w B p n c cs) (h0 : 0 < cs.length) : ∃ g, p = some ⟨g, 0, none⟩ ∧ B ≤ g ∧ g < w.heap.size := by
  obtain ⟨hn, rs, hl, hr, _⟩ := h
  obtain ⟨g, cap, hv, hb, hg⟩ := hr.form (by omega)
  simp only [Value.slice.injEq] at hv
  exact ⟨g, hv.1, hb, hg⟩
theorem OwnC.low {w : World} {B n c : Nat} {p : Option Addr} {cs : List Cel} (h : OwnC w B p n c cs) : ∀ rs : List RC, rs.length = cs.length → w.ownsRow B 35 3 (.slice p n c) n (flat rs) → ∀ i, i < rs.length → 0 < (rs.getD i RC.zero).2.2.2.1 → ∀ a, (rs.getD i RC.zero).2.2.1 = some a → a.block < w.heap.size := by
  obtain ⟨hn, rs0, hl0, hr0, hf, _⟩ := h
  intro rs hl hr i hi h0 a ea
  have e : flat rs = flat rs0 := by
    rcases hr.2 with ⟨hv, hz⟩ | ⟨g, cap, cur, hv, _, hg, _, _, _, htk⟩
    · have e1 : rs = [] := List.length_eq_zero_iff.1 (by omega)
      have e2 : rs0 = [] := List.length_eq_zero_iff.1 (by omega)
      rw [e1, e2]
    · rcases hr0.2 with ⟨hv', hz⟩ | ⟨g', cap', cur', hv', _, hg', _, _, _, htk'⟩
      · rw [hv] at hv'; simp at hv'
      · rw [hv] at hv'
        simp only [Value.slice.injEq, Option.some.injEq, Addr.mk.injEq, and_true, true_and] at hv'
        obtain ⟨rfl, rfl⟩ := hv'
        rw [hg] at hg'
        cases hg'
        rw [← htk, ← htk']
  obtain ⟨_, _, b2⟩ := flat_at rs i hi
  obtain ⟨_, _, c2⟩ := flat_at rs0 i (by omega)
  rw [e, c2] at b2
  simp only [Option.some.injEq, Value.slice.injEq] at b2
  obtain ⟨q0, q1, q2⟩ := hf i (by omega)
  obtain ⟨k, ek, _, hk, _⟩ := q2.2 (by omega)
  rw [b2.1, ea] at ek
  cases ek
  exact hk
structure Kb (B R : Nat) (w w' : World) : Prop where
  os : w'.os = w.os
  tape : w'.tape = w.tape
  output : w'.output = w.output
  size : w.heap.size ≤ w'.heap.size
  block : ∀ k, k < B → k ≠ R → w'.heap[k]? = w.heap[k]?
theorem Kb.of_keep {B R : Nat} {w w' : World} (h : Keep R (R + 1) w w') (hB : B ≤ w.heap.size) : Kb B R w w' := ⟨h.os, h.tape, h.output, h.size, fun k hk hr => h.block k (by omega) (by omega)⟩
theorem Kb.of_below {B R : Nat} {w w' : World} (h : Below B w w') : Kb B R w w' := ⟨h.os, h.tape, h.output, h.size, fun k hk _ => h.block k hk⟩
theorem Kb.trans {B R : Nat} {a b c : World} (h : Kb B R a b) (k : Kb B R b c) : Kb B R a c := ⟨k.os.trans h.os, k.tape.trans h.tape, k.output.trans h.output, Nat.le_trans h.size k.size, fun j hj hr => (k.block j hj hr).trans (h.block j hj hr)⟩
theorem Keep.on_kb {B R : Nat} {w0 w w' : World} (h : Keep R (R + 1) w0 w) (k : Kb B R w w') (hB : w0.heap.size ≤ B) : Keep R (R + 1) w0 w' := ⟨k.os.trans h.os, k.tape.trans h.tape, k.output.trans h.output, Nat.le_trans h.size k.size, fun j hj hp => (k.block j (by omega) (by omega)).trans (h.block j hj hp)⟩
def NumC (cs : List Cel) : Prop := ∀ c ∈ cs, -1000000000000000 ≤ c.2.1 ∧ c.2.1 ≤ 1000000000000000
theorem NumC.app {a b : List Cel} (ha : NumC a) (hb : NumC b) : NumC (a ++ b) := fun c hc => by
  rcases List.mem_append.1 hc with h | h
  · exact ha c h
  · exact hb c h
theorem NumC.cons {c : Cel} {b : List Cel} (ha : -1000000000000000 ≤ c.2.1 ∧ c.2.1 ≤ 1000000000000000) (hb : NumC b) : NumC (c :: b) := fun d hd => by
  rcases List.mem_cons.1 hd with rfl | h
  · exact ha
  · exact hb d h
theorem NumC.nil : NumC [] := fun c h => by cases h
theorem NumC.flatten {css : List (List Cel)} (h : ∀ j, j < css.length → NumC (css.getD j [])) : NumC css.flatten := fun c hc => by
  obtain ⟨cs, h1, h2⟩ := List.mem_flatten.1 hc
  obtain ⟨j, hj, rfl⟩ := List.mem_iff_getElem.1 h1
  have := h j hj
  rw [List.getD, List.getElem?_eq_getElem hj] at this
  exact this c h2
theorem NumC.ls {css : List (List Cel)} {en : List Cel} (h : ∀ j, j < css.length → NumC (css.getD j [])) (he : NumC en) : NumC (lsL css en) := by
  refine NumC.app (fun c hc => ?_) he
  obtain ⟨cs, h1, h2⟩ := List.mem_flatMap.1 hc
  rcases List.mem_cons.1 h2 with rfl | h3
  · simp [dot]
  · obtain ⟨j, hj, rfl⟩ := List.mem_iff_getElem.1 h1
    have := h j hj
    rw [List.getD, List.getElem?_eq_getElem hj] at this
    exact this c h3
theorem leafT_num (xs : List Int) (k i : Nat) : NumC (leafT xs k i).1 := by
  unfold leafT
  repeat' split
  all_goals refine NumC.cons ?_ NumC.nil
  · exact intD_rng _
  · simp only; omega
  · simp only; omega
theorem nodeT_num (xs : List Int) (f g : Nat → List Cel × Nat) (hf : ∀ i, NumC (f i).1) (hg : ∀ i, NumC (g i).1) (i : Nat) : NumC (nodeT xs f g i).1 := by
  unfold nodeT
  simp only
  split
  · exact leafT_num _ _ _
  split
  · have h : ∀ n i j, j < (iterT f n i).1.length → NumC ((iterT f n i).1.getD j []) := fun n i j hj => iterT_at f hf n i j (by rwa [iterT_len] at hj)
    split
    · exact NumC.ls (h _ _) (hg _)
    · exact NumC.ls (h _ _) (NumC.cons (by simp [nilC]) NumC.nil)
  split
  · exact NumC.cons (by simp) ((hf _).app (hf _))
  split
  · exact NumC.cons (by simp) (hf _)
  · exact NumC.cons (by simp only; omega) (NumC.flatten (fun j hj => iterT_at f hf _ _ j (by rwa [iterT_len] at hj)))
theorem drawT_num (xs : List Int) : ∀ (d i : Nat), NumC (drawT xs d i).1
  | 0, i => leafT_num _ _ _
  | 1, i => nodeT_num _ _ _ (drawT_num xs 0) (drawT_num xs 0) i
  | d + 2, i => nodeT_num _ _ _ (drawT_num xs (d + 1)) (drawT_num xs d) i
end Go.Proofs.YtaakpdakeolgeaaGreat

