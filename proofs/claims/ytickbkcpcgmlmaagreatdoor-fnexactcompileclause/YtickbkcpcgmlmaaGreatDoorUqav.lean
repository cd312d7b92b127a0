/- Texts of CcI, CcH. Own work of the verifier. -/
import Derived.Test.YtickbkcpcgmlmaaGreatDoorUqaq
import Derived.Test.YtickbkcpcgmlmaaGreatDoorUqau
namespace Go.Proofs.YtickbkcpcgmlmaaGreatDoor
open Go Go.RowKit
set_option linter.unusedVariables false
set_option linter.unusedSimpArgs false
def Kmo (s s' : KS) : Prop := s.out.length ≤ s'.out.length ∧ s.nx ≤ s'.nx
theorem Kmo.refl (s : KS) : Kmo s s := ⟨Nat.le_refl _, Nat.le_refl _⟩
theorem Kmo.trans {a b c : KS} (h : Kmo a b) (k : Kmo b c) : Kmo a c := ⟨Nat.le_trans h.1 k.1, Nat.le_trans h.2 k.2⟩
theorem mo_put (s : KS) (i : Iv) : Kmo s (s.put i) := ⟨by simp [KS.put], Nat.le_refl _⟩
theorem mo_take (s : KS) : Kmo s s.take := ⟨Nat.le_refl _, Nat.le_add_right _ _⟩
theorem mo_reg (C : List Int) (hC : C.length ≤ 2000) (s : KS) (v : Nat) : Kmo s (regK C s v).2.2 := ⟨by rw [reg_out]; exact Nat.le_refl _, (up_reg C hC s v).nx.1⟩
theorem mo_arg (C : List Int) (hC : C.length ≤ 2000) (o : AO) (s : KS) (c : Cel) (a : Int) : Kmo s (argK C o s c a) := by
 unfold argK
 split
 ·split
  ·exact mo_put _ _
  ·exact (mo_reg C hC s _).trans (mo_put _ _)
 ·exact mo_put _ _
theorem mo_stp (C : List Int) (hC : C.length ≤ 2000) (s : KS) (t : Tr) (r : Int) : Kmo s (stpK C s t r) := by
 unfold stpK; split
 ·exact mo_put _ _
 ·exact mo_arg C hC _ _ _ _
theorem mo_set (C : List Int) (hC : C.length ≤ 2000) : ∀ (ts : List Tr) (s : KS) (rs : List Int), Kmo s (setK C s ts rs)
 | [], s, rs => Kmo.refl s
 | t :: ts, s, rs => (mo_stp C hC s t _).trans (mo_set C hC ts _ _)
theorem mo_inn (g : KS → Tr → Int → KS) (hg : ∀ s t r, Kmo s (g s t r)) : ∀ (ts : List Tr) (s : KS), Kmo s (innK g s ts).1
 | [], s => Kmo.refl s
 | t :: ts, s => by
   unfold innK
   split
   ·exact ((mo_take s).trans (hg s.take t s.nx)).trans (mo_inn g hg ts _)
   ·exact mo_inn g hg ts s
theorem mo_bld (C : List Int) (hC : C.length ≤ 2000) : ∀ (f : Nat) (s : KS) (t : Tr) (r : Int), Kmo s (bldK C f s t r)
 | 0, s, t, r => Kmo.refl s
 | f + 1, s, t, r => by
   unfold bldK
   exact ((mo_inn (bldK C f) (mo_bld C hC f) (trs t.2) s).trans (mo_put _ _)).trans (mo_set C hC _ _ _)
theorem mo_apa (C : List Int) (hC : C.length ≤ 2000) (ts : List Tr) (s : KS) (q : List (Tr × Int)) : Kmo s (apaK C s q ts).1 := ⟨(apa_mono C hC ts s q).1, (apa_mono C hC ts s q).2.1⟩
theorem mo_get (C : List Int) (hC : C.length ≤ 2000) : ∀ (f : Nat) (s : KS) (q : List (Tr × Int)), Kmo s (getK C f s q)
 | 0, s, q => Kmo.refl s
 | f + 1, s, [] => Kmo.refl s
 | f + 1, s, x :: q => by
   unfold getK
   exact ((mo_put s _).trans (mo_apa C hC _ _ _)).trans (mo_get C hC f _ _)
theorem QR.set {w : World} {B : Nat} {e : TypeId} {b n c : Nat} {cs : List Value} (h : QR w B e 1 (some ⟨b, 0, none⟩) b 0 n c cs) {j : Nat} (hj : j < n) (v : Value) : QR (w.setCell ⟨b, j, none⟩ v) B e 1 (some ⟨b, 0, none⟩) b 0 n c (cs.set j v) := by
 refine ⟨h.le, h.max, by rw [List.length_set]; exact h.len, fun hc => ?_⟩; obtain ⟨h1, h2, cur, h3, h4, h5⟩ := h.low hc; refine ⟨h1, h2, cur.setIfInBounds j v, ?_, by simpa using h4, fun i u hi => ?_⟩
 ·unfold World.setCell
  rw [Array.getElem?_modify, if_pos rfl, h3]; rfl
 ·rw [Nat.zero_add]
  rw [List.getElem?_set] at hi; have hle := h.le
  by_cases e : j = i
  ·subst e
   rw [if_pos rfl] at hi
   split at hi
   ·simp only [Option.some.injEq] at hi
    subst hi
    simp [Array.getElem?_setIfInBounds, show j < cur.size by omega]
   ·cases hi
  ·rw [if_neg e] at hi
   have := h5 i u hi; rw [Nat.zero_add] at this
   simpa [Array.getElem?_setIfInBounds, e] using this
theorem qfr_set (w : World) (b o : Nat) (v : Value) : QFr b 1 w (w.setCell ⟨b, o, none⟩ v) := ⟨rfl, rfl, rfl, by simp, fun k hk hne => Below.heap_setCell _ _ _ _ (hne (by omega))⟩
section
variable {Z : List Nat} {W0 w1 : World} {cb gb eb : Nat} {pc : Option Addr} {cc : Nat} {C : List Int} {s : KS} {w : World}
theorem MK.setZ (h : MK Z w1 cb gb eb pc cc C s w) {b : Nat} (hb : b ∈ Z) (hB : w1.heap.size ≤ b) (o : Nat) (v : Value) : MK Z w1 cb gb eb pc cc C s (w.setCell ⟨b, o, none⟩ v) := h.queue Z hb (fun _ => hB) (qfr_set w b o v) (fun y hy => .inl hy)
theorem FrX.setNew {X : List Nat} {w0 w : World} (h : FrX X w0 w) {b : Nat} (hb : w0.heap.size ≤ b) (o : Nat) (v : Value) : FrX X w0 (w.setCell ⟨b, o, none⟩ v) := (qfr_set w b o v).frx h (fun _ => hb)
end
def innV (L : List Int) (m i : Nat) : List Value := (List.range m).map fun j => .int .i64 (if j < i then L.getD j 0 else 0)
theorem innV_at (L : List Int) {m i j : Nat} (hj : j < m) : (innV L m i)[j]? = some (.int .i64 (if j < i then L.getD j 0 else 0)) := by
 unfold innV
 rw [List.getElem?_map, List.getElem?_range hj]; rfl
theorem innV_set (L : List Int) {m i : Nat} (hi : i < m) (x : Int) (hx : L.getD i 0 = x) : (innV L m i).set i (.int .i64 x) = innV L m (i + 1) := by
 apply List.ext_getElem?
 intro j
 by_cases hj : j < m
 ·rw [List.getElem?_set, innV_at L hj, innV_at L hj]
  by_cases e : i = j
  ·subst e
   simp [innV, hi, ← hx]
  ·rw [if_neg e]
   have : (j < i) ↔ (j < i + 1) := by omega
   simp only [this]
 ·simp [innV, hj]
theorem innV_skip (L : List Int) {m i : Nat} (hx : L.getD i 0 = 0) : innV L m i = innV L m (i + 1) := by
 unfold innV
 apply List.map_congr_left
 intro j hj
 by_cases e : j = i
 ·subst e; simp; exact hx.symm
 ·have : (j < i) ↔ (j < i + 1) := by omega
  simp only [this]
theorem innV_zero (L : List Int) (m : Nat) : innV L m 0 = List.replicate m (.int .i64 0) := by
 unfold innV
 apply List.ext_getElem?
 intro j
 simp only [List.getElem?_map, List.getElem?_replicate]
 by_cases hj : j < m
 ·rw [List.getElem?_range hj]; simp [hj]
 ·simp [hj]
section
variable {Z : List Nat} {W0 w1 : World} {cb gb eb : Nat} {pc : Option Addr} {cc : Nat} {C : List Int} {s : KS} {w : World}
structure BR (Z : List Nat) (w1 : World) (cb gb eb : Nat) (pc : Option Addr) (cc : Nat) (C : List Int) (w : World) (wr : World) (s : KS) (m : Nat) (pa : Option Addr) (ma Bq : Nat) (ra : List (Option Addr × Nat × Nat)) (ib : Nat) (vs : List Value) : Prop where
 st : MK (ib :: Z) w1 cb gb eb pc cc C s wr
 fr : FrX [cb, gb, eb] w wr
 row : wr.ownsRow Bq 27 1 (.slice pa m ma) m (ra.map slV)
 inn : QR wr w.heap.size 3 1 (some ⟨ib, 0, none⟩) ib 0 m m vs
 bq : w.heap.size ≤ Bq
 ge : w.heap.size ≤ ib
 lw : w1.heap.size ≤ w.heap.size
 hx : ∀ x ∈ [cb, gb, eb], x < w.heap.size
theorem BR.below {wr W : World} {m ma Bq ib : Nat} {pa : Option Addr} {ra : List (Option Addr × Nat × Nat)} {vs : List Value} (h : BR Z w1 cb gb eb pc cc C w wr s m pa ma Bq ra ib vs) (hb : Below wr.heap.size wr W) : BR Z w1 cb gb eb pc cc C w W s m pa ma Bq ra ib vs := ⟨h.st.below hb, h.fr.below hb, row_below h.row hb, h.inn.below hb, h.bq, h.ge, h.lw, h.hx⟩
theorem BR.arg {wr W : World} {s2 : KS} {m ma Bq ib : Nat} {pa : Option Addr} {ra : List (Option Addr × Nat × Nat)} {vs : List Value} (h : BR Z w1 cb gb eb pc cc C w wr s m pa ma Bq ra ib vs) (hm : MK (ib :: Z) w1 cb gb eb pc cc C s2 W) (hf : FrX [cb, gb, eb] wr W) : BR Z w1 cb gb eb pc cc C w W s2 m pa ma Bq ra ib vs :=
 ⟨hm, h.fr.trans hf, hf.row h.row (by decide) (fun x hx => Nat.lt_of_lt_of_le (h.hx x hx) h.bq), h.inn.fr hf (by decide) h.hx, h.bq, h.ge, h.lw, h.hx⟩
theorem BR.set {wr : World} {m ma Bq ib : Nat} {pa : Option Addr} {ra : List (Option Addr × Nat × Nat)} {vs : List Value} (h : BR Z w1 cb gb eb pc cc C w wr s m pa ma Bq ra ib vs) {j : Nat} (hj : j < m) (v : Value) : BR Z w1 cb gb eb pc cc C w (wr.setCell ⟨ib, j, none⟩ v) s m pa ma Bq ra ib (vs.set j v) := by
 refine ⟨h.st.setZ (List.mem_cons_self ..) (Nat.le_trans h.lw h.ge) _ _, h.fr.setNew h.ge _ _, ?_, h.inn.set hj v, h.bq, h.ge, h.lw, h.hx⟩; refine ⟨h.row.1, ?_⟩
 rcases h.row.2 with h' | ⟨g, cap, cur, hv, hB', hg, r'⟩
 ·exact .inl h'
 ·refine .inr ⟨g, cap, cur, hv, hB', (Below.heap_setCell _ _ _ _ (show g ≠ ib from fun eb' => ?_)).trans hg, r'⟩
  obtain ⟨_, _, cur2, h3, _⟩ := h.inn.low (by have := h.inn.le; omega); rw [← eb', hg] at h3
  injection h3 with h3
  injection h3 with _ h5 _
  exact absurd h5 (by decide)
theorem BR.open {wr : World} {m ma Bq ib : Nat} {pa : Option Addr} {ra : List (Option Addr × Nat × Nat)} {vs : List Value} (h : BR Z w1 cb gb eb pc cc C w wr s m pa ma Bq ra ib vs) {j : Nat} {v : Value} (hj : vs[j]? = some v) : wr.cell? ⟨ib, j, none⟩ = some v ∧ wr.frozen? ⟨ib, j, none⟩ = false ∧ ib < wr.heap.size := by
 have h1 := (h.inn.cell hj).2; rw [Nat.zero_add] at h1
 have hm : 0 < m := by
  have h2 := h.inn.len; have h3 := (List.getElem?_eq_some_iff.1 hj).1
  omega
 obtain ⟨_, _, cur, h3, _⟩ := h.inn.low hm; exact ⟨h1, frozen_block h3 j, h.inn.lt hm⟩
theorem drop_cons {L R : List Int} {i : Nat} {x : Int} (h : L.drop i = x :: R) : L.getD i 0 = x ∧ L.drop (i + 1) = R := by
 constructor
 ·have : (L.drop i)[0]? = some x := by rw [h]; rfl
  rw [List.getElem?_drop, Nat.add_zero] at this; rw [List.getD_eq_getElem?_getD, this]; rfl
 ·have : (L.drop i).drop 1 = R := by rw [h]; rfl
  rwa [List.drop_drop] at this
theorem drop_trs {F : Fo} {i : Nat} {x : Tr} (h : (trs F)[i]? = some x) : (trs F).drop i = x :: (trs F).drop (i + 1) := by
 obtain ⟨hl, e⟩ := List.getElem?_eq_some_iff.1 h; rw [List.drop_eq_getElem_cons hl, e]
theorem arg_atK {W0 wr : World} {ra : List (Option Addr × Nat × Nat)} {ts : List Tr} {i m ma Bq : Nat} {pa : Option Addr} {x : Tr} (ha : ArgRowU W0 ra ts) (hx : ts[i]? = some x) (hrow : wr.ownsRow Bq 27 1 (.slice pa m ma) m (ra.map slV)) (hi : i < m) (hb : Below W0.heap.size W0 wr) :
  ∃ ga bt ot rn rc qt qtc, pa = some ⟨ga, 0, none⟩ ∧ wr.cell? ⟨ga, i, none⟩ = some (.slice (some ⟨bt, ot, none⟩) rn rc) ∧ TI W0 (some ⟨bt, ot, none⟩) rn rc x ∧ (0 < rn ∧ rn ≤ rc ∧ rc ≤ 9223372036854775807) ∧ (∀ W, Below W0.heap.size W0 W → (W.cell? ⟨bt, ot, none⟩ = some (.int .i64 x.1.1) ∧ W.cell? ⟨bt, ot + 1, none⟩ = some (.int .i64 x.1.2.1) ∧ W.cell? ⟨bt, ot + 2, none⟩ = some (.slice qt x.1.2.2.length qtc)) ∧ BIn W qt x.1.2.2) := by
 obtain ⟨⟨rp, rn, rc⟩, hr0, hr1, hr2, hr3, hr4⟩ := argU_at ha hx
 have hti : TI W0 rp rn rc x := ⟨by simp only [itC, List.length_cons] at hr1; exact hr1, hr2, hr3, hr4⟩
 obtain ⟨ga, cap, hv, hbg, hgl⟩ := hrow.form (by omega)
 have hpa : pa = some ⟨ga, 0, none⟩ := by injection hv
 obtain ⟨bt, ot, qt, qtc, erp, D0, D1, D2, D3⟩ := hti.head; subst erp; refine ⟨ga, bt, ot, rn, rc, qt, qtc, hpa, ?_, hti, ⟨by have := hti.1; omega, hti.2.1, hti.2.2.1⟩, fun W hW => ⟨⟨(hW.cell (World.block_lt_of_cell? _ _ D0)).trans D0, (hW.cell (World.block_lt_of_cell? _ _ D1)).trans D1, (hW.cell (World.block_lt_of_cell? _ _ D2)).trans D2⟩, D3.below hW⟩⟩; rw [hpa] at hrow; have := hrow.cellAt i (by omega); rw [this, List.getElem?_map, hr0]; rfl
def BOk (W0 w1 : World) (cb gb eb : Nat) (pc : Option Addr) (cc : Nat) (C : List Int) (f : Nat) : Prop := ∀ (Z : List Nat) (s : KS) (w : World) (t : Tr) (p : Option Addr) (n c : Nat) (r : Int), MK Z w1 cb gb eb pc cc C s w → TI W0 p n c t → t.1.1 = 3 → TG C.length t → t.2.cells.length < f → (bldK C f s t r).out.length ≤ 800000000 ∧ (bldK C f s t r).nx ≤ 800000000 →
 Calls Tryz.prog 50 #[ptrK cb, .slice p n c, .int .i64 r] w (KUnit Z w1 cb gb eb pc cc C w (bldK C f s t r))
theorem madeI (w : World) (B m : Nat) (hB : B ≤ w.heap.size) (hm : m ≤ 100000) : QR (w.alloc (.cells (madeCells #[Value.int .i64 0] m) 3)) B 3 1 (some ⟨w.heap.size, 0, none⟩) w.heap.size 0 m m (List.replicate m (.int .i64 0)) := by
 refine ⟨Nat.le_refl _, by unfold maxLen; omega, by simp, fun hc => ⟨rfl, hB, _, heap_alloc_new w _, by simp [madeCells], fun j u hj => ?_⟩⟩; rw [List.getElem?_replicate] at hj
 split at hj
 ·rename_i h1
  rw [Nat.zero_add]; simp only [Option.some.injEq] at hj; subst hj
  simp [madeCells, h1, Nat.mod_one]
 ·cases hj
set_option maxRecDepth 100000 in
set_option maxHeartbeats 4000000 in
theorem l9build_step (E : CEnv w1 cb gb eb pc cc C) (hB : CBase W0 w1 cb gb eb) (f : Nat) (IH : BOk W0 w1 cb gb eb pc cc C f) : BOk W0 w1 cb gb eb pc cc C (f + 1) := fun Z s w t p n c r h hti h3 hg hf hM => by
 obtain ⟨F, eF⟩ : ∃ F, F = bldK C (f + 1) s t r := ⟨_, rfl⟩
 rw [← eF] at hM ⊢
 have hX : ∀ x ∈ [cb, gb, eb], x < w.heap.size := fun x hx => Nat.lt_of_lt_of_le (h.lt x hx) h.sty.size
 obtain ⟨I, eI⟩ : ∃ I, I = innK (bldK C f) s (trs t.2) := ⟨_, rfl⟩
 have eF2 : F = setK C (I.1.put (insC 12 r 0 t.1)) (trs t.2) I.2 := by rw [eF, eI]; rfl
 have hmo1 : Kmo I.1 F := by rw [eF2]; exact (mo_put _ _).trans (mo_set C E.len _ _ _)
 have hxk : (trs t.2).length ≤ 2000 := by have := Fo.count_le t.2; rw [trs_len]; have := hg.sz; omega
 have HIL : Hid (I.2.length = (trs t.2).length) := by rw [eI]; exact inn_len _ _ _
 have HAR := l2argsG_any hti (h.base hB) (by have := hti.1; have := hg.sz; omega) hg.ok
 have HEE : Hid (CEnv w1 cb gb eb pc cc C ∧ CBase W0 w1 cb gb eb ∧ (∀ x ∈ [cb, gb, eb], x < w.heap.size) ∧ BOk W0 w1 cb gb eb pc cc C f) := ⟨E, hB, hX, IH⟩
 have HFF : Hid (F = setK C (I.1.put (insC 12 r 0 t.1)) (trs t.2) I.2 ∧ Kmo I.1 F ∧ (F.out.length ≤ 800000000 ∧ F.nx ≤ 800000000)) := ⟨eF2, hmo1, hM⟩
 have HII : Hid (innK (bldK C f) s (trs t.2) = I) := eI.symm
 have HTT : Hid (TI W0 p n c t ∧ TG C.length t ∧ t.2.cells.length < f + 1) := ⟨hti, hg, hf⟩
 have HMK : Hid (MK Z w1 cb gb eb pc cc C s w) := h; obtain ⟨bt, ot, qt, qtc, erp, D0, D1, D2, D3⟩ := hti.head; subst erp
 have hrn : 0 < n ∧ n ≤ c ∧ c ≤ 9223372036854775807 := ⟨by have := hti.1; omega, hti.2.1, hti.2.2.1⟩
 have HD : Hid (∀ W, Below W0.heap.size W0 W → (W.cell? ⟨bt, ot, none⟩ = some (.int .i64 t.1.1) ∧ W.cell? ⟨bt, ot + 1, none⟩ = some (.int .i64 t.1.2.1) ∧ W.cell? ⟨bt, ot + 2, none⟩ = some (.slice qt t.1.2.2.length qtc)) ∧ BIn W qt t.1.2.2) := fun W hW =>
  ⟨⟨(hW.cell (World.block_lt_of_cell? _ _ D0)).trans D0, (hW.cell (World.block_lt_of_cell? _ _ D1)).trans D1, (hW.cell (World.block_lt_of_cell? _ _ D2)).trans D2⟩, D3.below hW⟩
 clear h E hB hti h3 hg hf hM eF eI eF2 hmo1 hX IH D0 D1 D2 D3
 go_enter Tryz.func50, Tryz.ntmps50
 go_wp2_with fail; refine HAR.mono ?_; rintro e W2 ⟨pa, m, ma, ra, rfl, hm2, hrow2, harg2, hb2⟩
 have hmm : m ≤ 2000 := by omega
 have HBR : Hid (BR Z w1 cb gb eb pc cc C w (W2.alloc (.cells (madeCells #[Value.int .i64 0] m) 3)) s m pa ma w.heap.size ra W2.heap.size (innV I.2 m 0)) := by
  have h1 := (HMK.out.below hb2).fresh (b := W2.heap.size) (Nat.le_refl _) (new_lowK W2 (.cells (madeCells #[Value.int .i64 0] m) 3)) (by simp); refine ⟨h1, FrX.of _ (Below.on hb2 (new_lowK W2 _)), row_below hrow2 (new_lowK W2 _), ?_, Nat.le_refl _, hb2.size, HMK.out.sty.size, HEE.out.2.2.1⟩; rw [innV_zero]; exact madeI W2 w.heap.size m hb2.size (by omega)
 have HAG : Hid (ArgRowU W0 ra (trs t.2) ∧ m = (trs t.2).length) := ⟨harg2, hm2⟩
 have hmk : ∀ W : World, (Instr.makeSlice 42 (.int .i64 (m : Int)) (.int .i64 (m : Int))).run Tryz.prog W = .ok (.slice (some ⟨W.heap.size, 0, none⟩) m m) (W.alloc (.cells (madeCells #[Value.int .i64 0] m) 3)) := run_makeI m (by omega); clear HAR hrow2 harg2 hm2 hb2 HMK; go_wp2_with fail
 go_loopw [8] (fun iv wr => ∃ (i : Nat) (s2 : KS), i ≤ m ∧ iv = .int .i64 i ∧ Hid (BR Z w1 cb gb eb pc cc C w wr s2 m pa ma w.heap.size ra W2.heap.size (innV I.2 m i) ∧ innK (bldK C f) s2 ((trs t.2).drop i) = (I.1, I.2.drop i))) (fun iv _ => m - (intOf iv).toNat)
 case atStart => exact ⟨0, s, Nat.zero_le _, by go_num, HBR.out, by rw [List.drop_zero, List.drop_zero]; exact HII.out⟩
 case round =>
  obtain ⟨i, s2, him, rfl, HI⟩ := hrel; clear HBR HII hmk
  by_cases hi : i < m
  ·have hil : i < (trs t.2).length := by have := HAG.out.2; omega
   obtain ⟨x, ex⟩ : ∃ x, (trs t.2)[i]? = some x := ⟨_, List.getElem?_eq_getElem hil⟩
   have htg := HTT.out.2.1.kid (List.mem_of_getElem? ex); have hdr := drop_trs ex; obtain ⟨ga, b5, o5, rn, rc, q5, q5c, hpa, yr, hti, hrn5, HX⟩ := arg_atK HAG.out.1 ex HI.out.1.row hi (HI.out.1.st.base HEE.out.2.1); subst hpa; obtain ⟨⟨d0, d1, d2⟩, d3⟩ := HX wr (HI.out.1.st.base HEE.out.2.1)
   have HKI : Hid (innK (bldK C f) s2 (x :: (trs t.2).drop (i + 1)) = (I.1, I.2.drop i)) := by show _ = _; rw [← hdr]; exact HI.out.2
   by_cases h3 : x.1.1 = 3
   ·-- a compound
    obtain ⟨nx, enx⟩ : ∃ nx : Int, nx = (s2.nx : Int) := ⟨_, rfl⟩
    obtain ⟨s3, es3⟩ : ∃ s3, s3 = bldK C f s2.take x s2.nx := ⟨_, rfl⟩
    have HK2 : Hid (innK (bldK C f) s3 ((trs t.2).drop (i + 1)) = (I.1, I.2.drop (i + 1)) ∧ I.2.getD i 0 = nx ∧ Kmo s3 I.1 ∧ Kmo s2.take s3) := by
     have h1 := HKI.out
     unfold innK at h1
     rw [if_pos h3, ← es3] at h1
     injection h1 with h1 h2
     obtain ⟨h4, h5⟩ := drop_cons h2.symm; refine ⟨by rw [h5, ← h1], by rw [h4, enx], ?_, by rw [es3]; exact mo_bld C HEE.out.1.len f _ _ _⟩; rw [← h1]; exact mo_inn _ (mo_bld C HEE.out.1.len f) _ _
    have hbo : s2.nx ≤ 800000000 ∧ s2.out.length ≤ 800000000 ∧ (s3.out.length ≤ 800000000 ∧ s3.nx ≤ 800000000) := by
     have h1 := HK2.out.2.2.1; have h2 := HK2.out.2.2.2; have h4 := HFF.out.2.1; have h5 := HFF.out.2.2; have h6 := mo_take s2
     unfold Kmo at h1 h2 h4 h6
     omega
    have HT : Hid (Calls Tryz.prog 122 #[ptrK cb] wr fun e W3 => e = .returned (.int .i64 nx) ∧ BR Z w1 cb gb eb pc cc C w W3 s2.take m (some ⟨ga, 0, none⟩) ma w.heap.size ra W2.heap.size (innV I.2 m i)) := by
     rw [enx]
     exact (l9take_any HEE.out.1 HI.out.1.st (by omega)).mono fun e W3 ⟨a1, a2, a3⟩ => ⟨a1, HI.out.1.arg a2 a3⟩
    have HBD : Hid (∀ W4, BR Z w1 cb gb eb pc cc C w W4 s2.take m (some ⟨ga, 0, none⟩) ma w.heap.size ra W2.heap.size (innV I.2 m (i + 1)) → Calls Tryz.prog 50 #[ptrK cb, .slice (some ⟨b5, o5, none⟩) rn rc, .int .i64 nx] W4 fun e W5 => e = .returned (.tuple #[]) ∧ BR Z w1 cb gb eb pc cc C w W5 s3 m (some ⟨ga, 0, none⟩) ma w.heap.size ra W2.heap.size (innV I.2 m (i + 1))) := fun W4 hb4 => by
     have hsz : x.2.cells.length < f := by have := mem_trs_cells t.2 x (List.mem_of_getElem? ex); have := HTT.out.2.2; omega
     have h1 := HEE.out.2.2.2 (W2.heap.size :: Z) s2.take W4 x (some ⟨b5, o5, none⟩) rn rc s2.nx hb4.st hti h3 htg hsz (by rw [← es3]; exact hbo.2.2); rw [← es3, ← enx] at h1
     exact h1.mono fun e W5 ⟨a1, a2, a3⟩ => ⟨a1, hb4.arg a2 a3⟩
    have HCE : Hid (∀ W4, BR Z w1 cb gb eb pc cc C w W4 s2.take m (some ⟨ga, 0, none⟩) ma w.heap.size ra W2.heap.size (innV I.2 m (i + 1)) → W4.cell? ⟨ga, i, none⟩ = some (.slice (some ⟨b5, o5, none⟩) rn rc) ∧ W4.cell? ⟨W2.heap.size, i, none⟩ = some (.int .i64 nx)) := fun W4 hb4 => by
     refine ⟨?_, ?_⟩
     ·have h1 := hb4.row.cellAt i (by omega)
      have h2 := HI.out.1.row.cellAt i (by omega); rw [h1, ← h2]; exact yr
     ·have := (hb4.open (innV_at I.2 (i := i + 1) hi)).1
      rw [if_pos (by omega), HK2.out.2.1] at this; exact this
    have HCF : Hid (∀ W4, BR Z w1 cb gb eb pc cc C w W4 s3 m (some ⟨ga, 0, none⟩) ma w.heap.size ra W2.heap.size (innV I.2 m (i + 1)) → W4.cell? ⟨ga, i, none⟩ = some (.slice (some ⟨b5, o5, none⟩) rn rc) ∧ W4.cell? ⟨W2.heap.size, i, none⟩ = some (.int .i64 nx)) := fun W4 hb4 => by
     refine ⟨?_, ?_⟩
     ·have h1 := hb4.row.cellAt i (by omega)
      have h2 := HI.out.1.row.cellAt i (by omega); rw [h1, ← h2]; exact yr
     ·have := (hb4.open (innV_at I.2 (i := i + 1) hi)).1
      rw [if_pos (by omega), HK2.out.2.1] at this; exact this
    have HSE : Hid (∀ W3, BR Z w1 cb gb eb pc cc C w W3 s2.take m (some ⟨ga, 0, none⟩) ma w.heap.size ra W2.heap.size (innV I.2 m i) → (W3.cell? ⟨W2.heap.size, i, none⟩ = some (.int .i64 0) ∧ W3.frozen? ⟨W2.heap.size, i, none⟩ = false ∧ W2.heap.size < W3.heap.size) ∧ BR Z w1 cb gb eb pc cc C w (W3.setCell ⟨W2.heap.size, i, none⟩ (.int .i64 nx)) s2.take m (some ⟨ga, 0, none⟩) ma w.heap.size ra W2.heap.size (innV I.2 m (i + 1))) := fun W3 hb3 => by
     have h1 := hb3.open (innV_at I.2 (i := i) hi); rw [if_neg (by omega)] at h1; refine ⟨h1, ?_⟩; have h2 := hb3.set hi (.int .i64 nx)
     rwa [innV_set I.2 hi nx HK2.out.2.1] at h2
    obtain ⟨ib, eib⟩ : ∃ ib, ib = W2.heap.size := ⟨_, rfl⟩
    rw [h3] at d0; clear HKI hdr htg hti HX d3 es3 enx ex h3 HI; go_wp2_with fail; refine HT.out.mono ?_; rintro e W3 ⟨rfl, hb3⟩; obtain ⟨⟨k1, k2, k3⟩, k4⟩ := HSE.out W3 hb3; have HB4 : Hid _ := k4; clear HT HSE hb3 k4; go_wp2_with fail; have hS0 := HCE.out _ (HB4.out.below (below_drewK (Below.refl _ _))); refine wp_region_held_drew (S := fun W => W.cell? ⟨ga, i, none⟩ = some (.slice (some ⟨b5, o5, none⟩) rn rc) ∧ W.cell? ⟨W2.heap.size, i, none⟩ = some (.int .i64 nx)) (by kernel_rfl) hS0 (fun hHeld => ?_); refine hTk (i := 0) (v := ptrK cb) (some 35) (fun o ho W hSw => ?y0) (by assumption) ?_
    case y0 => cases ho; simp [execOp, go_sem, Act.eval]
    simp only [Act.put, zzA, zzB, zzC]; refine hTk (i := 1) (v := .slice (some ⟨ga, 0, none⟩) m ma) (some 36) (fun o ho W hSw => ?y1) (by assumption) ?_
    case y1 => cases ho; simp [execOp, go_sem, Act.eval]
    simp only [Act.put, zzA, zzB, zzC]; refine hTk (i := 2) (v := .int .i64 i) (some 37) (fun o ho W hSw => ?y2) (by assumption) ?_
    case y2 => cases ho; simp [execOp, go_sem, Act.eval]
    simp only [Act.put, zzA, zzB, zzC]; refine hTk (i := 3) (v := .pointer (some ⟨ga, i, none⟩)) (some 38) (fun o ho W hSw => ?y3) (by assumption) ?_
    case y3 => cases ho; simp [execOp, go_sem, Act.eval, hi]
    simp only [Act.put, zzA, zzB, zzC]; refine hTk (i := 4) (v := .slice (some ⟨b5, o5, none⟩) rn rc) (some 39) (fun o ho W hSw => ?y4) (by assumption) ?_
    case y4 => cases ho; obtain ⟨s1, s2⟩ := hSw; simp [execOp, go_sem, Act.eval, s1]
    simp only [Act.put, zzA, zzB, zzC]; refine hTk (i := 5) (v := .slice (some ⟨W2.heap.size, 0, none⟩) m m) (some 40) (fun o ho W hSw => ?y5) (by assumption) ?_
    case y5 => cases ho; simp [execOp, go_sem, Act.eval]
    simp only [Act.put, zzA, zzB, zzC]; refine hTk (i := 6) (v := .int .i64 i) (some 41) (fun o ho W hSw => ?y6) (by assumption) ?_
    case y6 => cases ho; simp [execOp, go_sem, Act.eval]
    simp only [Act.put, zzA, zzB, zzC]; refine hTk (i := 7) (v := .pointer (some ⟨W2.heap.size, i, none⟩)) (some 42) (fun o ho W hSw => ?y7) (by assumption) ?_
    case y7 => cases ho; simp [execOp, go_sem, Act.eval, hi]
    simp only [Act.put, zzA, zzB, zzC]; refine hTk (i := 8) (v := .int .i64 nx) (some 43) (fun o ho W hSw => ?y8) (by assumption) ?_
    case y8 => cases ho; obtain ⟨s1, s2⟩ := hSw; simp [execOp, go_sem, Act.eval, s2]
    simp only [Act.put, zzA, zzB, zzC]; refine hCallE (i := 9) (f := 50) (args := #[ptrK cb, .slice (some ⟨b5, o5, none⟩) rn rc, .int .i64 nx]) (some 44) (by kernel_rfl) (by kernel_rfl) (by kernel_rfl) (fun o ho => ?c9) (HBD.out _ (HB4.out.below (below_drewK (Below.refl _ _)))) ?k9 (fun ch w' hh => by cases hh.1) (fun w' hh => by cases hh.1)
    case c9 => cases ho; simp [execOp, go_sem, Act.eval]
    case k9 =>
     rintro u W5 ⟨eq, hb5⟩
     cases eq
     refine ⟨HCF.out W5 hb5, ?_⟩; have HB5 : Hid _ := hb5; clear hb5 HCE HCF HBD HB4 hHeld hS0; simp only [Act.put, zzA, zzB, zzC]; refine wpAnyH_done (by kernel_rfl) ?_ _
     unfold Exit.inBlock
     change Exit.then _ _ _ _ W5
     go_wp2_with fail; go_roundw
     case rel => exact ⟨i + 1, s3, by omega, by go_num, HB5.out, HK2.out.1⟩
     case measure => (simp [intOf] <;> omega)
   ·have HK2 : Hid (innK (bldK C f) s2 ((trs t.2).drop (i + 1)) = (I.1, I.2.drop (i + 1)) ∧ I.2.getD i 0 = 0) := by
     have h1 := HKI.out
     unfold innK at h1
     rw [if_neg h3] at h1
     injection h1 with h1 h2
     obtain ⟨h4, h5⟩ := drop_cons h2.symm; exact ⟨by rw [h5, ← h1], h4⟩
    have HB5 : Hid (BR Z w1 cb gb eb pc cc C w wr s2 m (some ⟨ga, 0, none⟩) ma w.heap.size ra W2.heap.size (innV I.2 m (i + 1))) := by
     rw [← innV_skip I.2 HK2.out.2]; exact HI.out.1
    generalize x.1.1 = k at d0 h3
    clear HKI hdr htg hti HX d3 d1 d2 ex HI; go_wp2_with fail; go_roundw
    case rel => exact ⟨i + 1, s2, by omega, by go_num, HB5.out, HK2.out.1⟩
    case measure => (simp [intOf] <;> omega)
  ·obtain rfl : i = m := by omega
   have HB1 : Hid (BR Z w1 cb gb eb pc cc C w wr I.1 i pa ma w.heap.size ra W2.heap.size (innV I.2 i i)) := by
    have h1 := HI.out.2; rw [List.drop_of_length_le (by have := HAG.out.2; omega)] at h1
    have h2 : s2 = I.1 := by
     have := congrArg Prod.fst h1; exact this
    rw [← h2]; exact HI.out.1
   obtain ⟨⟨d0, d1, d2⟩, d3⟩ := HD.out wr (HB1.out.st.base HEE.out.2.1)
   have HEC : Hid (Calls Tryz.prog 21 #[ptrK cb, .int .i64 12, .int .i64 r, .int .i64 0, celV t.1 qt qtc] wr fun e W5 => e = .returned (.tuple #[]) ∧ BR Z w1 cb gb eb pc cc C w W5 (I.1.put (insC 12 r 0 t.1)) i pa ma w.heap.size ra W2.heap.size (innV I.2 i i)) := by
    have h4 := HFF.out.2.1; have h5 := HFF.out.2.2
    unfold Kmo at h4
    exact (l9emitC_any HEE.out.1 HB1.out.st 12 r 0 t.1 qt qtc d3 HTT.out.2.1.text (by omega)).mono fun e W5 ⟨a1, a2, a3⟩ => ⟨a1, HB1.out.arg a2 a3⟩
   clear HI HB1 d3; go_wp2_with fail; refine HEC.out.mono ?_; rintro e W5 ⟨rfl, hb5⟩; have HB5 : Hid _ := hb5; clear HEC hb5 d0 d1 d2; go_wp2_with fail
   go_loopw [9] (fun iv wr => ∃ (j : Nat) (s2 : KS), j ≤ i ∧ iv = .int .i64 j ∧ Hid (BR Z w1 cb gb eb pc cc C w wr s2 i pa ma w.heap.size ra W2.heap.size (innV I.2 i i) ∧ setK C s2 ((trs t.2).drop j) (I.2.drop j) = F)) (fun iv _ => i - (intOf iv).toNat)
   case atStart => exact ⟨0, _, Nat.zero_le _, by go_num, HB5.out, by rw [List.drop_zero, List.drop_zero]; exact HFF.out.1.symm⟩
   case round =>
    obtain ⟨j, s2, hjm, rfl, HI⟩ := hrel; clear HB5
    by_cases hj : j < i
    ·have hil : j < (trs t.2).length := by have := HAG.out.2; omega
     obtain ⟨x, ex⟩ : ∃ x, (trs t.2)[j]? = some x := ⟨_, List.getElem?_eq_getElem hil⟩
     have htg := HTT.out.2.1.kid (List.mem_of_getElem? ex); have hdr := drop_trs ex; obtain ⟨ga, b5, o5, rn, rc, q5, q5c, hpa, yr, hti, hrn5, HX⟩ := arg_atK HAG.out.1 ex HI.out.1.row hj (HI.out.1.st.base HEE.out.2.1); subst hpa; obtain ⟨⟨d0, d1, d2⟩, d3⟩ := HX wr (HI.out.1.st.base HEE.out.2.1); have yi := (HI.out.1.open (innV_at I.2 (i := i) hj)).1; rw [if_pos hj] at yi
     obtain ⟨ri, eri⟩ : ∃ ri, ri = I.2.getD j 0 := ⟨_, rfl⟩
     rw [← eri] at yi
     have HKI : Hid (setK C (stpK C s2 x ri) ((trs t.2).drop (j + 1)) (I.2.drop (j + 1)) = F ∧ (stpK C s2 x ri).out.length ≤ 800000000 ∧ (stpK C s2 x ri).nx ≤ 800000000 ∧ s2.out.length ≤ 800000000 ∧ s2.nx ≤ 800000000) := by
      have h1 := HI.out.2; rw [hdr] at h1
      unfold setK at h1
      have hjl : j < I.2.length := by rw [HIL.out]; exact hil
      have h2 : (I.2.drop j).headD 0 = ri := by
       rw [eri, List.drop_eq_getElem_cons hjl]
       simp [List.getD_eq_getElem?_getD, hjl]
      have h3 : (I.2.drop j).tail = I.2.drop (j + 1) := by rw [List.tail_drop]
      rw [h2, h3] at h1; have h4 := mo_set C HEE.out.1.len ((trs t.2).drop (j + 1)) (stpK C s2 x ri) (I.2.drop (j + 1)); have h5 := mo_stp C HEE.out.1.len s2 x ri; rw [h1] at h4; have h6 := HFF.out.2.2
      unfold Kmo at h4 h5
      exact ⟨h1, by omega, by omega, by omega, by omega⟩
     have HBV : Hid (∀ o, BR Z w1 cb gb eb pc cc C w (wr.alloc o) s2 i (some ⟨ga, 0, none⟩) ma w.heap.size ra W2.heap.size (innV I.2 i i)) := fun o => HI.out.1.below (new_lowK _ _)
     have hbo := HKI.out.2; have hbase := HI.out.1.st.base HEE.out.2.1; obtain ⟨⟨k1, k2, tx⟩, kt⟩ := x; simp only at d0 d1 d2 d3
     by_cases hk0 : k1 = 0
     ·subst hk0
      have hv0 : 0 ≤ k2 ∧ k2 < (C.length : Int) := htg.vr (0, k2, tx) (List.mem_cons_self ..) rfl
      obtain ⟨v, ev⟩ : ∃ v : Nat, (v : Int) = k2 := ⟨k2.toNat, by omega⟩
      have HV : Hid (Calls Tryz.prog 47 #[ptrK cb, .int .i64 k2, .int .i64 0, .int .i64 16, .int .i64 13, .int .i64 14] (wr.alloc (.cells #[.int .i64 0, .int .i64 k2, .slice q5 tx.length q5c] 52)) fun e W6 => e = .returned (.tuple #[]) ∧ BR Z w1 cb gb eb pc cc C w W6 (stpK C s2 ((0, k2, tx), kt) ri) i (some ⟨ga, 0, none⟩) ma w.heap.size ra W2.heap.size (innV I.2 i i)) := by
       have h1 := l9var_any HEE.out.1 (HBV.out (.cells #[.int .i64 0, .int .i64 k2, .slice q5 tx.length q5c] 52)).st v (by omega) 0 16 13 14 (by omega) (by omega) (by omega)
       have h2 : varK C s2 v 0 16 13 14 = stpK C s2 ((0, k2, tx), kt) ri := by
        have := varK_arg C setJ s2 (0, k2, tx) 0 rfl (by decide)
        unfold stpK
        rw [if_neg (show ¬ ((0 : Int) = 3) by decide), ← this]
        show _ = varK C s2 k2.toNat 0 16 13 14
        congr 1
        omega
       rw [h2, ev] at h1
       exact h1.mono fun e W6 ⟨a1, a2, a3⟩ => ⟨a1, (HBV.out _).arg a2 a3⟩
      clear HBV htg hdr hti HX d3 ex eri ev hv0 yi HI hbase; go_wp2_with fail; refine HV.out.mono ?_; rintro e W6 ⟨rfl, hb6⟩; have HB6 : Hid _ := hb6; clear HV hb6; go_wp2_with fail; go_roundw
      case rel => exact ⟨j + 1, _, by omega, by go_num, HB6.out, HKI.out.1⟩
      case measure => (simp [intOf] <;> omega)
     ·by_cases hk3 : k1 = 3
      ·subst hk3
       have HV : Hid (Calls Tryz.prog 18 #[ptrK cb, .int .i64 14, .int .i64 ri, .int .i64 0] (wr.alloc (.cells #[.int .i64 3, .int .i64 k2, .slice q5 tx.length q5c] 52)) fun e W6 => e = .returned (.tuple #[]) ∧ BR Z w1 cb gb eb pc cc C w W6 (stpK C s2 ((3, k2, tx), kt) ri) i (some ⟨ga, 0, none⟩) ma w.heap.size ra W2.heap.size (innV I.2 i i)) := by
        have h1 := l9emit_any HEE.out.1 (HBV.out (.cells #[.int .i64 3, .int .i64 k2, .slice q5 tx.length q5c] 52)).st 14 ri 0 (by omega)
        have h2 : s2.put (insN 14 ri 0) = stpK C s2 ((3, k2, tx), kt) ri := by unfold stpK; rw [if_pos rfl]
        rw [h2] at h1
        exact h1.mono fun e W6 ⟨a1, a2, a3⟩ => ⟨a1, (HBV.out _).arg a2 a3⟩
       have yi' : (wr.alloc (.cells #[.int .i64 3, .int .i64 k2, .slice q5 tx.length q5c] 52)).cell? ⟨W2.heap.size, j, none⟩ = some (.int .i64 ri) := ((new_lowK wr _).cell (World.block_lt_of_cell? _ _ yi)).trans yi; clear HBV htg hdr hti HX d3 ex eri HI hbase; go_wp2_with fail; refine HV.out.mono ?_; rintro e W6 ⟨rfl, hb6⟩; have HB6 : Hid _ := hb6; clear HV hb6 yi'; go_wp2_with fail; go_roundw
       case rel => exact ⟨j + 1, _, by omega, by go_num, HB6.out, HKI.out.1⟩
       case measure => (simp [intOf] <;> omega)
      ·have HV : Hid (Calls Tryz.prog 21 #[ptrK cb, .int .i64 15, .int .i64 0, .int .i64 0, celV (k1, k2, tx) q5 q5c] (wr.alloc (.cells #[.int .i64 k1, .int .i64 k2, .slice q5 tx.length q5c] 52)) fun e W6 => e = .returned (.tuple #[]) ∧ BR Z w1 cb gb eb pc cc C w W6 (stpK C s2 ((k1, k2, tx), kt) ri) i (some ⟨ga, 0, none⟩) ma w.heap.size ra W2.heap.size (innV I.2 i i)) := by
        have h1 := l9emitC_any HEE.out.1 (HBV.out (.cells #[.int .i64 k1, .int .i64 k2, .slice q5 tx.length q5c] 52)).st 15 0 0 (k1, k2, tx) q5 q5c (d3.below (new_lowK _ _)) htg.text (by omega)
        have h2 : s2.put (insC 15 0 0 (k1, k2, tx)) = stpK C s2 ((k1, k2, tx), kt) ri := by unfold stpK argK; rw [if_neg hk3, if_neg hk0]; rfl
        rw [h2] at h1
        exact h1.mono fun e W6 ⟨a1, a2, a3⟩ => ⟨a1, (HBV.out _).arg a2 a3⟩
       clear HBV htg hdr hti HX d3 ex eri yi HI hbase; go_wp2_with fail; refine HV.out.mono ?_; rintro e W6 ⟨rfl, hb6⟩; have HB6 : Hid _ := hb6; clear HV hb6; go_wp2_with fail; go_roundw
       case rel => exact ⟨j + 1, _, by omega, by go_num, HB6.out, HKI.out.1⟩
       case measure => (simp [intOf] <;> omega)
    ·obtain rfl : j = i := by omega
     have HEND : Hid (KUnit Z w1 cb gb eb pc cc C w F (.returned (.tuple #[])) wr) := by
      have h1 := HI.out.2; rw [List.drop_of_length_le (by have := HAG.out.2; omega)] at h1; have h2 : s2 = F := h1; rw [← h2]; exact ⟨rfl, HI.out.1.st.less (fun z hz => List.mem_cons_of_mem _ hz), HI.out.1.fr⟩
     clear HI; go_wp2_with fail
     go_end0
     exact HEND.out
theorem l9build_all (E : CEnv w1 cb gb eb pc cc C) (hB : CBase W0 w1 cb gb eb) : ∀ f, BOk W0 w1 cb gb eb pc cc C f
 | 0 => fun Z s w t p n c r h hti h3 hg hf hM => by omega
 | f + 1 => l9build_step E hB f (l9build_all E hB f)
end
end Go.Proofs.YtickbkcpcgmlmaaGreatDoor
