/- Texts of GrZ1, GrR, GrZ2. Own work of the verifier. -/
import Derived.Test.YtbnmmcegjlmdmaaGreatDoorUqba
import Derived.Test.YtbnmmcegjlmdmaaGreatDoorUqag
namespace Go.Proofs.YtbnmmcegjlmdmaaGreatDoor
open Go Go.RowKit Go.Maps Go.Shelf
set_option linter.unusedVariables false
set_option linter.unusedSimpArgs false
set_option maxRecDepth 100000 in
set_option maxHeartbeats 4000000 in
theorem headI_var {w0 : World} {gp gb nb : Nat} {a a2 : Addr} (t : Tr) (v : Value) (Bt : Nat) (xa xb : Int) (st : GSt) (w : World) (ht : t.fo.ok) (hfo : FoIn w0 Bt t.fo [v]) (h : GMi w0 gp gb nb a a2 st w) (hcase : t.1.1 = 0) :
    Calls Tryz.prog 65 #[ptrV gb, v, varV xa, varV xb] w (GOutI w0 gp gb nb a a2 w (gHd failT t xa xb st)) := by
  have hv : v = .iface 84 (.int .i64 t.1.2.1) := by
    obtain ⟨v', vr, e, hn, _⟩ := hfo
    obtain ⟨rfl, _⟩ := List.cons.inj e
    rcases hn with ⟨k, h⟩ | ⟨k, h⟩ | ⟨k, h⟩ | ⟨k, _⟩
    · exact h
    · rw [hcase] at k; exact absurd k (by decide)
    · rw [hcase] at k; exact absurd k (by decide)
    · rw [hcase] at k; exact absurd k (by decide)
  subst hv
  obtain ⟨xv, exv⟩ : ∃ xv, xv = Value.int .i64 t.1.2.1 := ⟨_, rfl⟩
  rw [← exv] at hfo ⊢
  have HFO := nbFO_var xv w
  have hG : gHd failT t xa xb st = (failT, flt 4 st) := by unfold gHd; rw [if_pos (.inl hcase)]
  rw [hG]
  have HBad : Hid (∀ X, Below w.heap.size w X → Calls Tryz.prog 72 #[ptrV gb, efV a] X (GOutI w0 gp gb nb a a2 X (failT, flt 4 st)) ∧ X.cell? ⟨1, 0, none⟩ = some (efV a)) := fun X hX => ⟨fail_any (h.below hX) 4 (.inr rfl), (h.below hX).errs.fail⟩
  clear ht hfo h hG hcase exv
  go_enter Tryz.func65, Tryz.ntmps65
  go_wp2_with fail
  refine HFO.mono ?_
  rintro e w1 ⟨rfl, hb1⟩
  obtain ⟨W1, eW⟩ : ∃ W1, W1 = w1.alloc (.cells #[.string ⟨#[]⟩, .int .i64 0] 52) := ⟨_, rfl⟩
  have hbd : Below w.heap.size w W1 := by rw [eW]; exact Below.on hb1 (below_new _ _)
  have d0 : W1.cell? ⟨w1.heap.size, 0, none⟩ = some (.string ⟨#[]⟩) := by rw [eW]; exact new_cells2 w1 (.string ⟨#[]⟩) (.int .i64 0) 52 0 (by decide)
  have d1 : W1.cell? ⟨w1.heap.size, 1, none⟩ = some (.int .i64 0) := by rw [eW]; exact new_cells2 w1 (.string ⟨#[]⟩) (.int .i64 0) 52 1 (by decide)
  have HB1 : Hid (Below w.heap.size w W1) := hbd
  have HW : Hid (W1 = w1.alloc (.cells #[.string ⟨#[]⟩, .int .i64 0] 52)) := eW
  obtain ⟨HC, gg0⟩ := HBad.out W1 hbd
  rw [eW] at HC gg0
  clear hb1 hbd HFO HBad eW d0 d1
  go_wp2_with fail
  refine HC.mono ?_
  rintro e w9 h9
  have HG : Hid (GOutI w0 gp gb nb a a2 w (failT, flt 4 st) e w9) := h9.from (GFr.of gb nb (by have := HB1.out; rw [HW.out] at this; exact this))
  obtain ⟨z, rfl, _⟩ := h9
  clear HC
  go_wp2_with fail
  go_ret
  exact HG.out
set_option maxRecDepth 100000 in
set_option maxHeartbeats 4000000 in
theorem headI_num {w0 : World} {gp gb nb : Nat} {a a2 : Addr} (t : Tr) (v : Value) (Bt : Nat) (xa xb : Int) (st : GSt) (w : World) (ht : t.fo.ok) (hfo : FoIn w0 Bt t.fo [v]) (h : GMi w0 gp gb nb a a2 st w) (hcase : t.1.1 = 1) :
    Calls Tryz.prog 65 #[ptrV gb, v, varV xa, varV xb] w (GOutI w0 gp gb nb a a2 w (gHd failT t xa xb st)) := by
  have hv : v = .iface 95 (.int .i64 t.1.2.1) := by
    obtain ⟨v', vr, e, hn, _⟩ := hfo
    obtain ⟨rfl, _⟩ := List.cons.inj e
    rcases hn with ⟨k, h⟩ | ⟨k, h⟩ | ⟨k, h⟩ | ⟨k, _⟩
    · rw [hcase] at k; exact absurd k (by decide)
    · exact h
    · rw [hcase] at k; exact absurd k (by decide)
    · rw [hcase] at k; exact absurd k (by decide)
  subst hv
  obtain ⟨xv, exv⟩ : ∃ xv, xv = Value.int .i64 t.1.2.1 := ⟨_, rfl⟩
  rw [← exv] at hfo ⊢
  have HFO := nbFO_num xv w
  have hG : gHd failT t xa xb st = (failT, flt 4 st) := by unfold gHd; rw [if_pos (.inr (.inl hcase))]
  rw [hG]
  have HBad : Hid (∀ X, Below w.heap.size w X → Calls Tryz.prog 72 #[ptrV gb, efV a] X (GOutI w0 gp gb nb a a2 X (failT, flt 4 st)) ∧ X.cell? ⟨1, 0, none⟩ = some (efV a)) := fun X hX => ⟨fail_any (h.below hX) 4 (.inr rfl), (h.below hX).errs.fail⟩
  clear ht hfo h hG hcase exv
  go_enter Tryz.func65, Tryz.ntmps65
  go_wp2_with fail
  refine HFO.mono ?_
  rintro e w1 ⟨rfl, hb1⟩
  obtain ⟨W1, eW⟩ : ∃ W1, W1 = w1.alloc (.cells #[.string ⟨#[]⟩, .int .i64 0] 52) := ⟨_, rfl⟩
  have hbd : Below w.heap.size w W1 := by rw [eW]; exact Below.on hb1 (below_new _ _)
  have d0 : W1.cell? ⟨w1.heap.size, 0, none⟩ = some (.string ⟨#[]⟩) := by rw [eW]; exact new_cells2 w1 (.string ⟨#[]⟩) (.int .i64 0) 52 0 (by decide)
  have d1 : W1.cell? ⟨w1.heap.size, 1, none⟩ = some (.int .i64 0) := by rw [eW]; exact new_cells2 w1 (.string ⟨#[]⟩) (.int .i64 0) 52 1 (by decide)
  have HB1 : Hid (Below w.heap.size w W1) := hbd
  have HW : Hid (W1 = w1.alloc (.cells #[.string ⟨#[]⟩, .int .i64 0] 52)) := eW
  obtain ⟨HC, gg0⟩ := HBad.out W1 hbd
  rw [eW] at HC gg0
  clear hb1 hbd HFO HBad eW d0 d1
  go_wp2_with fail
  refine HC.mono ?_
  rintro e w9 h9
  have HG : Hid (GOutI w0 gp gb nb a a2 w (failT, flt 4 st) e w9) := h9.from (GFr.of gb nb (by have := HB1.out; rw [HW.out] at this; exact this))
  obtain ⟨z, rfl, _⟩ := h9
  clear HC
  go_wp2_with fail
  go_ret
  exact HG.out
set_option maxRecDepth 100000 in
set_option maxHeartbeats 4000000 in
theorem headI_list {w0 : World} {gp gb nb : Nat} {a a2 : Addr} (t : Tr) (v : Value) (Bt : Nat) (xa xb : Int) (st : GSt) (w : World) (ht : t.fo.ok) (hfo : FoIn w0 Bt t.fo [v]) (h : GMi w0 gp gb nb a a2 st w) (hcase : t.1 = nilC ∨ t.1 = dot) :
    Calls Tryz.prog 65 #[ptrV gb, v, varV xa, varV xb] w (GOutI w0 gp gb nb a a2 w (gHd failT t xa xb st)) := by
  have hk : t.1.1 = 2 ∨ t.1.1 = 3 := by
    rcases hcase with e | e
    · exact .inl (by rw [e]; rfl)
    · exact .inr (by rw [e]; rfl)
  obtain ⟨pa, ca, us, hul, hca, hFO, hAR, hpa, hpz, hfk⟩ := call_parts ht hk hfo
  have hol := ol_iff ht hk
  have HFO := hFO w h.bel
  obtain ⟨tv, xv, rfl⟩ := FoIn.iface hfo
  have hol0 : olB (strOfNums t.1.2.2) (trs t.2).length = true := by rw [hol]; exact decide_eq_true hcase
  have hG : gHd failT t xa xb st = (failT, flt 4 st) := by unfold gHd; rw [if_pos (.inr (.inr hcase))]
  rw [hG]
  have HNT : Hid (∀ X, Below w.heap.size w X → Calls Tryz.prog 74 #[ptrV gb, .iface tv xv, varV xa, varV xb] X (GOutI w0 gp gb nb a a2 X (gMore failT t xa xb st))) := fun X hX => nonterm_any (h.below hX) t _ Bt xa xb ht hk hfo
  obtain ⟨n, en⟩ : ∃ n : Nat, n = (trs t.2).length := ⟨_, rfl⟩
  rw [← en] at HFO hol0
  obtain ⟨S, eS⟩ : ∃ S, S = strOfNums t.1.2.2 := ⟨_, rfl⟩
  rw [← eS] at HFO hol0
  have HBad : Hid (∀ X, Below w.heap.size w X → Calls Tryz.prog 72 #[ptrV gb, efV a] X (GOutI w0 gp gb nb a a2 X (failT, flt 4 st)) ∧ X.cell? ⟨1, 0, none⟩ = some (efV a)) := fun X hX => ⟨fail_any (h.below hX) 4 (.inr rfl), (h.below hX).errs.fail⟩
  clear ht hfo h hG hcase hk hul hca hFO hAR hpa hpz hfk hol en eS
  go_enter Tryz.func65, Tryz.ntmps65
  go_wp2_with fail
  refine HFO.mono ?_
  rintro e w1 ⟨rfl, hb1⟩
  obtain ⟨W1, eW⟩ : ∃ W1, W1 = w1.alloc (.cells #[.string S, .int .i64 n] 52) := ⟨_, rfl⟩
  have hbd : Below w.heap.size w W1 := by rw [eW]; exact Below.on hb1 (below_new _ _)
  have d0 : W1.cell? ⟨w1.heap.size, 0, none⟩ = some (.string S) := by rw [eW]; exact new_cells2 w1 (.string S) (.int .i64 n) 52 0 (by decide)
  have d1 : W1.cell? ⟨w1.heap.size, 1, none⟩ = some (.int .i64 n) := by rw [eW]; exact new_cells2 w1 (.string S) (.int .i64 n) 52 1 (by decide)
  have HB1 : Hid (Below w.heap.size w W1) := hbd
  have HW : Hid (W1 = w1.alloc (.cells #[.string S, .int .i64 n] 52)) := eW
  have HOL := ofList_any S n W1
  rw [eW] at HOL
  rw [eW] at d0 d1
  have HB0 : Hid (Below w.heap.size w (w1.alloc (.cells #[.string S, .int .i64 n] 52))) := by have := HB1.out; rw [eW] at this; exact this
  clear hb1 hbd HFO eW
  go_wp2_with fail
  refine HOL.mono ?_
  rintro e w3 ⟨rfl, hb3⟩
  rw [hol0]
  have hb3' := Below.on HB0.out hb3
  have HB3 : Hid (Below w.heap.size w w3) := hb3'
  obtain ⟨HC, gg0⟩ := HBad.out w3 hb3'
  clear hb3 hb3' hol0 HOL d0 d1
  go_wp2_with fail
  refine HC.mono ?_
  rintro e w9 h9
  have HG : Hid (GOutI w0 gp gb nb a a2 w (failT, flt 4 st) e w9) := h9.from (GFr.of gb nb HB3.out)
  obtain ⟨z, rfl, _⟩ := h9
  clear HC
  go_wp2_with fail
  go_ret
  exact HG.out
set_option maxRecDepth 100000 in
set_option maxHeartbeats 4000000 in
theorem headI_more {w0 : World} {gp gb nb : Nat} {a a2 : Addr} (t : Tr) (v : Value) (Bt : Nat) (xa xb : Int) (st : GSt) (w : World) (ht : t.fo.ok) (hfo : FoIn w0 Bt t.fo [v]) (h : GMi w0 gp gb nb a a2 st w) (hcase : (t.1.1 = 2 ∨ t.1.1 = 3) ∧ ¬ (t.1 = nilC ∨ t.1 = dot)) :
    Calls Tryz.prog 65 #[ptrV gb, v, varV xa, varV xb] w (GOutI w0 gp gb nb a a2 w (gHd failT t xa xb st)) := by
  obtain ⟨hk, hcase⟩ := hcase
  obtain ⟨pa, ca, us, hul, hca, hFO, hAR, hpa, hpz, hfk⟩ := call_parts ht hk hfo
  have hol := ol_iff ht hk
  have HFO := hFO w h.bel
  obtain ⟨tv, xv, rfl⟩ := FoIn.iface hfo
  have hol0 : olB (strOfNums t.1.2.2) (trs t.2).length = false := by rw [hol]; exact decide_eq_false hcase
  have hG : gHd failT t xa xb st = gMore failT t xa xb st := by unfold gHd; rw [if_neg (fun e => e.elim (fun e => by omega) (fun e => e.elim (fun e => by omega) hcase))]
  rw [hG]
  have HNT : Hid (∀ X, Below w.heap.size w X → Calls Tryz.prog 74 #[ptrV gb, .iface tv xv, varV xa, varV xb] X (GOutI w0 gp gb nb a a2 X (gMore failT t xa xb st))) := fun X hX => nonterm_any (h.below hX) t _ Bt xa xb ht hk hfo
  obtain ⟨n, en⟩ : ∃ n : Nat, n = (trs t.2).length := ⟨_, rfl⟩
  rw [← en] at HFO hol0
  obtain ⟨S, eS⟩ : ∃ S, S = strOfNums t.1.2.2 := ⟨_, rfl⟩
  rw [← eS] at HFO hol0
  have HBad : Hid (∀ X, Below w.heap.size w X → Calls Tryz.prog 72 #[ptrV gb, efV a] X (GOutI w0 gp gb nb a a2 X (failT, flt 4 st)) ∧ X.cell? ⟨1, 0, none⟩ = some (efV a)) := fun X hX => ⟨fail_any (h.below hX) 4 (.inr rfl), (h.below hX).errs.fail⟩
  clear ht hfo h hG hcase hk hul hca hFO hAR hpa hpz hfk hol en eS
  go_enter Tryz.func65, Tryz.ntmps65
  go_wp2_with fail
  refine HFO.mono ?_
  rintro e w1 ⟨rfl, hb1⟩
  obtain ⟨W1, eW⟩ : ∃ W1, W1 = w1.alloc (.cells #[.string S, .int .i64 n] 52) := ⟨_, rfl⟩
  have hbd : Below w.heap.size w W1 := by rw [eW]; exact Below.on hb1 (below_new _ _)
  have d0 : W1.cell? ⟨w1.heap.size, 0, none⟩ = some (.string S) := by rw [eW]; exact new_cells2 w1 (.string S) (.int .i64 n) 52 0 (by decide)
  have d1 : W1.cell? ⟨w1.heap.size, 1, none⟩ = some (.int .i64 n) := by rw [eW]; exact new_cells2 w1 (.string S) (.int .i64 n) 52 1 (by decide)
  have HB1 : Hid (Below w.heap.size w W1) := hbd
  have HW : Hid (W1 = w1.alloc (.cells #[.string S, .int .i64 n] 52)) := eW
  have HOL := ofList_any S n W1
  rw [eW] at HOL
  rw [eW] at d0 d1
  have HB0 : Hid (Below w.heap.size w (w1.alloc (.cells #[.string S, .int .i64 n] 52))) := by have := HB1.out; rw [eW] at this; exact this
  clear hb1 hbd HFO eW
  go_wp2_with fail
  refine HOL.mono ?_
  rintro e w3 ⟨rfl, hb3⟩
  rw [hol0]
  have hb3' := Below.on HB0.out hb3
  have HB3 : Hid (Below w.heap.size w w3) := hb3'
  have HC := HNT.out w3 hb3'
  clear hb3 hb3' hol0 HOL d0 d1
  go_wp2_with fail
  refine HC.mono ?_
  rintro e w9 h9
  have HG : Hid (GOutI w0 gp gb nb a a2 w (gMore failT t xa xb st) e w9) := h9.from (GFr.of gb nb HB3.out)
  obtain ⟨z, rfl, _⟩ := h9
  clear HC
  go_wp2_with fail
  go_ret
  exact HG.out
theorem head_any {w0 : World} {gp gb nb : Nat} {a a2 : Addr} (t : Tr) (v : Value) (Bt : Nat) (xa xb : Int) (st : GSt) (w : World) (ht : t.fo.ok) (hfo : FoIn w0 Bt t.fo [v]) (h : GMi w0 gp gb nb a a2 st w) :
    Calls Tryz.prog 65 #[ptrV gb, v, varV xa, varV xb] w (GOutI w0 gp gb nb a a2 w (gHd failT t xa xb st)) := by
  have hc := ht.1
  simp only [cellB, decide_eq_true_eq] at hc
  by_cases h0 : t.1.1 = 0
  · exact headI_var t v Bt xa xb st w ht hfo h h0
  by_cases h1 : t.1.1 = 1
  · exact headI_num t v Bt xa xb st w ht hfo h h1
  by_cases e0 : t.1 = nilC ∨ t.1 = dot
  · exact headI_list t v Bt xa xb st w ht hfo h e0
  · exact headI_more t v Bt xa xb st w ht hfo h ⟨by omega, e0⟩
end Go.Proofs.YtbnmmcegjlmdmaaGreatDoor

namespace Go.Proofs.YtbnmmcegjlmdmaaGreatDoor
open Go Go.RowKit
set_option linter.unusedVariables false
theorem gMore_len {J t : Tr} (hJ : (itC J).length = 1) (a b : Int) (st : GSt) : (itC (gMore J t a b st).1).length ≤ (itC t).length + 2 := by
  unfold gMore
  split
  · show (itC J).length ≤ _; omega
  · show (itC (cmpT t.1.2.2 (trs t.2 ++ [vT a, vT b]))).length ≤ _
    rw [cmpT_cells, List.flatMap_append, trs_cells]
    simp [itC, vT, Fo.cells]
theorem gTer_len {J t : Tr} (hJ : (itC J).length = 1) (a b : Int) (st : GSt) (ht : t.fo.ok) : (itC (gTer J t a b st).1).length ≤ (itC t).length + 2 := by
  obtain ⟨s1, s2, s3⟩ := split_all t.2.cells.length t.1 t.2 (Nat.le_refl _) ht
  unfold gTer
  split
  · show (itC (cmpT [61] [vT a, lstT (vT b) (splitF t.1 t.2).1])).length ≤ _
    have h9 := congrArg List.length s3
    rw [cmpT_cells]
    simp only [List.flatMap_cons, List.flatMap_nil, List.length_cons, List.length_append, lstT_cells, vT_cells, List.length_nil] at h9 ⊢
    have h8 : (itC t).length = t.2.cells.length + 1 := by simp [itC]
    have h7 : 1 ≤ (itC (splitF t.1 t.2).2).length := by simp [itC]
    omega
  · show (itC J).length ≤ _; omega
theorem gHd_len {J t : Tr} (hJ : (itC J).length = 1) (a b : Int) (st : GSt) : (itC (gHd J t a b st).1).length ≤ (itC t).length + 2 := by
  unfold gHd
  split
  · show (itC J).length ≤ _; omega
  · exact gMore_len hJ a b st
theorem gHd_ok {J t : Tr} (hJ : okG J.fo ∧ (itC J).length = 1) {a b : Int} (ha : 0 ≤ a ∧ a ≤ 1100000) (hb : 0 ≤ b ∧ b ≤ 1100000) (st : GSt) (ht : t.fo.ok) : okG (gHd J t a b st).1.fo := by
  unfold gHd
  split
  · exact hJ.1
  · exact (gMore_ok hJ ha hb st ht).ok
theorem gMore_fst (J t : Tr) (a b : Int) (st : GSt) : (gMore J t a b st).2.1 = st.1 := by
  unfold gMore; split
  · exact flt_fst _ _
  · rfl
theorem gTer_fst (J t : Tr) (a b : Int) (st : GSt) : (gTer J t a b st).2.1 = st.1 := by
  unfold gTer; split
  · rfl
  · exact flt_fst _ _
theorem gHd_fst (J t : Tr) (a b : Int) (st : GSt) : (gHd J t a b st).2.1 = st.1 := by
  unfold gHd; split
  · exact flt_fst _ _
  · exact gMore_fst _ _ _ _ _
theorem gMore_next (J t : Tr) (a b x y c : Int) : (gMore J t a b (x, c)).1 = (gMore J t a b (y, c)).1 ∧ (gMore J t a b (x, c)).2 = (x, (gMore J t a b (y, c)).2.2) := by
  unfold gMore
  split
  · refine ⟨rfl, ?_⟩
    simp only [flt]
    split <;> rfl
  · exact ⟨rfl, rfl⟩
theorem gHd_J (J J' t : Tr) (a b : Int) (st : GSt) : (gHd J t a b st).2 = (gHd J' t a b st).2 ∧ ((gHd J t a b st).2.2 = 0 → (gHd J t a b st).1 = (gHd J' t a b st).1) := by
  unfold gHd
  split
  · exact ⟨rfl, fun h => absurd h (flt_snd (by decide) st)⟩
  · exact gMore_J J J' t a b st
theorem gHd_good {J t : Tr} {a b : Int} {st : GSt} (h : (gHd J t a b st).2.2 = 0) : ¬ (t.1.1 = 0 ∨ t.1.1 = 1 ∨ t.1 = nilC ∨ t.1 = dot) ∧ gHd J t a b st = gMore J t a b st := by
  unfold gHd at h ⊢
  split at h
  · exact absurd h (flt_snd (by decide) st)
  · rename_i h1; exact ⟨h1, if_neg h1⟩
structure GIn (l r : Tr) (nx : Int) : Prop where
  lo : l.fo.ok
  ro : r.fo.ok
  sz : (itC l).length + (itC r).length ≤ 1999
  nx0 : 0 ≤ nx
  nx1 : nx ≤ 1000001
theorem kid2 {l : Tr} (hl : l.fo.ok) (h : l.1 = cComma) : (kidG l 0).fo.ok ∧ (kidG l 1).fo.ok ∧ (itC l).length = (itC (kidG l 0)).length + (itC (kidG l 1)).length + 1 ∧ kidG l 0 ∈ trs l.2 ∧ kidG l 1 ∈ trs l.2 := by
  have hc : l.2.count = 2 := count_of hl (n := 2) h
  refine ⟨(kid_ok hl (by omega)).1, (kid_ok hl (by omega)).1, ?_, kid_mem (by omega), kid_mem (by omega)⟩
  have : (itC l).length = ((trs l.2).flatMap itC).length + 1 := by rw [trs_cells]; simp [itC]
  rw [this, two_kid hc]
  simp [List.flatMap_cons]
theorem gCl_push (J r : Tr) (nx : Int) {l : Tr} (hc : l.1 = cComma) : gCl J l r nx = (cmpT [58, 45] [(gHd J (kidG l 0) nx (nx + 1) (nx + 3, 0)).1, cmpT [44] [(gPh J (itC r).length r nx (nx + 2) (gHd J (kidG l 0) nx (nx + 1) (nx + 3, 0)).2).1,
      (gTer J (kidG l 1) (nx + 1) (nx + 2) (gPh J (itC r).length r nx (nx + 2) (gHd J (kidG l 0) nx (nx + 1) (nx + 3, 0)).2).2).1]],
      (gTer J (kidG l 1) (nx + 1) (nx + 2) (gPh J (itC r).length r nx (nx + 2) (gHd J (kidG l 0) nx (nx + 1) (nx + 3, 0)).2).2).2) := by unfold gCl; rw [if_pos hc]
theorem gCl_plain (J r : Tr) (nx : Int) {l : Tr} (hc : ¬ l.1 = cComma) : gCl J l r nx = (cmpT [58, 45] [(gHd J l nx (nx + 1) (nx + 2, 0)).1, (gPh J (itC r).length r nx (nx + 1) (gHd J l nx (nx + 1) (nx + 2, 0)).2).1], (gPh J (itC r).length r nx (nx + 1) (gHd J l nx (nx + 1) (nx + 2, 0)).2).2) := by unfold gCl; rw [if_neg hc]
structure GClOk (J l r : Tr) (nx : Int) : Prop where
  ok : okG (gCl J l r nx).1.fo
  len : (itC (gCl J l r nx).1).length ≤ 9999
  up : nx + 2 ≤ (gCl J l r nx).2.1
  few : (gCl J l r nx).2.1 ≤ nx + 2010
theorem gCl_ok {J l r : Tr} {nx : Int} (hJ : okG J.fo ∧ (itC J).length = 1) (h : GIn l r nx) : GClOk J l r nx := by
  have h0 := h.nx0; have h1 := h.nx1; have hs := h.sz
  have hlp : 1 ≤ (itC l).length := by simp [itC]
  by_cases hc : l.1 = cComma
  · obtain ⟨k0, k1, k2, _, _⟩ := kid2 h.lo hc
    have a0 := gHd_ok hJ (a := nx) (b := nx + 1) ⟨h0, by omega⟩ ⟨by omega, by omega⟩ (nx + 3, 0) k0
    have a1 := gHd_len (J := J) (t := kidG l 0) hJ.2 nx (nx + 1) (nx + 3, 0)
    have a2 := gHd_fst J (kidG l 0) nx (nx + 1) (nx + 3, 0)
    simp only at a2
    have b0 := gPh_ok hJ (itC r).length r nx (nx + 2) (gHd J (kidG l 0) nx (nx + 1) (nx + 3, 0)).2 h.ro (Nat.le_refl _) ⟨h0, by omega⟩ ⟨by omega, by omega⟩ (by omega) (by omega)
    have b1 := b0.len; have b2 := b0.up; have b3 := b0.few
    have c0 := gTer_ok hJ (a := nx + 1) (b := nx + 2) ⟨by omega, by omega⟩ ⟨by omega, by omega⟩ (gPh J (itC r).length r nx (nx + 2) (gHd J (kidG l 0) nx (nx + 1) (nx + 3, 0)).2).2 k1
    have c1 := gTer_len (J := J) (t := kidG l 1) hJ.2 (nx + 1) (nx + 2) (gPh J (itC r).length r nx (nx + 2) (gHd J (kidG l 0) nx (nx + 1) (nx + 3, 0)).2).2 k1
    have c2 := gTer_fst J (kidG l 1) (nx + 1) (nx + 2) (gPh J (itC r).length r nx (nx + 2) (gHd J (kidG l 0) nx (nx + 1) (nx + 3, 0)).2).2
    have e := gCl_push J r nx hc
    refine ⟨?_, ?_, ?_, ?_⟩
    · rw [e]
      refine cmpT_okG (byte_small (by decide)) (by decide) (by simp) (by simp) (fun x hx => ?_)
      rcases mem2 hx with rfl | rfl
      · exact a0
      · refine cmpT_okG (byte_small (by decide)) (by decide) (by simp) (by simp) (fun x hx => ?_)
        rcases mem2 hx with rfl | rfl
        · exact b0.ok
        · exact c0.ok
    · rw [e]; simp only [cmpT_cells, List.flatMap_cons, List.flatMap_nil, List.length_cons, List.length_append, List.length_nil]; omega
    · rw [e]; simp only; omega
    · rw [e]; simp only; omega
  · have a0 := gHd_ok hJ (a := nx) (b := nx + 1) ⟨h0, by omega⟩ ⟨by omega, by omega⟩ (nx + 2, 0) h.lo
    have a1 := gHd_len (J := J) (t := l) hJ.2 nx (nx + 1) (nx + 2, 0)
    have a2 := gHd_fst J l nx (nx + 1) (nx + 2, 0)
    simp only at a2
    have b0 := gPh_ok hJ (itC r).length r nx (nx + 1) (gHd J l nx (nx + 1) (nx + 2, 0)).2 h.ro (Nat.le_refl _) ⟨h0, by omega⟩ ⟨by omega, by omega⟩ (by omega) (by omega)
    have b1 := b0.len; have b2 := b0.up; have b3 := b0.few
    have e := gCl_plain J r nx hc
    refine ⟨?_, ?_, ?_, ?_⟩
    · rw [e]
      refine cmpT_okG (byte_small (by decide)) (by decide) (by simp) (by simp) (fun x hx => ?_)
      rcases mem2 hx with rfl | rfl
      · exact a0
      · exact b0.ok
    · rw [e]; simp only [cmpT_cells, List.flatMap_cons, List.flatMap_nil, List.length_cons, List.length_append, List.length_nil]; omega
    · rw [e]; simp only; omega
    · rw [e]; simp only; omega
theorem gCl_J (J J' : Tr) {l r : Tr} {nx : Int} (h : GIn l r nx) : (gCl J l r nx).2 = (gCl J' l r nx).2 ∧ ((gCl J l r nx).2.2 = 0 → (gCl J l r nx).1 = (gCl J' l r nx).1) := by
  by_cases hc : l.1 = cComma
  · simp only [gCl, if_pos hc]
    have a := gHd_J J J' (kidG l 0) nx (nx + 1) (nx + 3, 0)
    rw [← a.1]
    have b := gPh_J J J' (itC r).length r nx (nx + 2) (gHd J (kidG l 0) nx (nx + 1) (nx + 3, 0)).2 (Nat.le_refl _) (fun h' => by rcases h' with h' | h' | h' <;> exact count_of h.ro (n := 2) h') h.ro
    rw [← b.1]
    have c := gTer_J J J' (kidG l 1) (nx + 1) (nx + 2) (gPh J (itC r).length r nx (nx + 2) (gHd J (kidG l 0) nx (nx + 1) (nx + 3, 0)).2).2
    rw [← c.1]
    refine ⟨rfl, fun hz => ?_⟩
    have z1 := (gTer_st hz).1
    have z2 := gPh_st z1
    rw [c.2 hz, b.2 z1, a.2 z2]
  · simp only [gCl, if_neg hc]
    have a := gHd_J J J' l nx (nx + 1) (nx + 2, 0)
    rw [← a.1]
    have b := gPh_J J J' (itC r).length r nx (nx + 1) (gHd J l nx (nx + 1) (nx + 2, 0)).2 (Nat.le_refl _) (fun h' => by rcases h' with h' | h' | h' <;> exact count_of h.ro (n := 2) h') h.ro
    rw [← b.1]
    refine ⟨rfl, fun hz => ?_⟩
    rw [b.2 hz, a.2 (gPh_st hz)]
theorem gAns_J (J J' : Tr) {l r : Tr} {nx : Int} (h : GIn l r nx) : gAns (gCl J l r nx) = gAns (gCl J' l r nx) := by
  have hh := gCl_J J J' h
  unfold gAns
  rw [← hh.1]
  by_cases hz : (gCl J l r nx).2.2 = 0
  · rw [hh.2 hz]
  · rw [if_pos hz, if_pos hz]
theorem gCl_var {J l r : Tr} {nx : Int} (hJ : okG J.fo ∧ (itC J).length = 1) (h : GIn l r nx) (hv : ∀ n, HasV n (itC l) ∨ HasV n (itC r) → n < nx) (hz : (gCl J l r nx).2.2 = 0) :
    HasV ((gCl J l r nx).2.1 - 1) (itC (gCl J l r nx).1) ∧ ∀ n, HasV n (itC (gCl J l r nx).1) → n < (gCl J l r nx).2.1 := by
  have h0 := h.nx0; have h1 := h.nx1; have hs := h.sz
  by_cases hc : l.1 = cComma
  · obtain ⟨k0, k1, k2, m0, m1⟩ := kid2 h.lo hc
    have e := gCl_push J r nx hc
    have hz2 := hz
    rw [e] at hz2
    simp only at hz2
    have z1 := (gTer_st hz2).1
    have z2 := gPh_st z1
    have a2 := gHd_fst J (kidG l 0) nx (nx + 1) (nx + 3, 0)
    simp only at a2
    have b0 := gPh_ok hJ (itC r).length r nx (nx + 2) (gHd J (kidG l 0) nx (nx + 1) (nx + 3, 0)).2 h.ro (Nat.le_refl _) ⟨h0, by omega⟩ ⟨by omega, by omega⟩ (by omega) (by omega)
    have bv := gPh_var hJ (itC r).length r nx (nx + 2) (gHd J (kidG l 0) nx (nx + 1) (nx + 3, 0)).2 h.ro (Nat.le_refl _) ⟨h0, by omega⟩ ⟨by omega, by omega⟩ (by omega) (by omega) z1
    have b2 := b0.up
    have cv := gTer_var (J := J) k1 hz2
    have c2 := gTer_fst J (kidG l 1) (nx + 1) (nx + 2) (gPh J (itC r).length r nx (nx + 2) (gHd J (kidG l 0) nx (nx + 1) (nx + 3, 0)).2).2
    have hg := gHd_good z2
    have hd := gMore_var (hg.2 ▸ z2)
    rw [e]
    simp only
    rw [← hg.2] at hd
    obtain ⟨H, eH⟩ : ∃ H, H = gHd J (kidG l 0) nx (nx + 1) (nx + 3, 0) := ⟨_, rfl⟩
    rw [← eH] at a2 b2 bv cv c2 hd ⊢
    obtain ⟨B, eB⟩ : ∃ B, B = gPh J (itC r).length r nx (nx + 2) H.2 := ⟨_, rfl⟩
    rw [← eB] at b2 bv cv c2 ⊢
    obtain ⟨D, eD⟩ : ∃ D, D = gTer J (kidG l 1) (nx + 1) (nx + 2) B.2 := ⟨_, rfl⟩
    rw [← eD] at cv c2 ⊢
    have inB : ∀ n, HasV n (itC B.1) → HasV n (itC (cmpT [58, 45] [H.1, cmpT [44] [B.1, D.1]])) := fun n hn => hasV_cmp.2 ⟨cmpT [44] [B.1, D.1], by simp, hasV_cmp.2 ⟨B.1, by simp, hn⟩⟩
    refine ⟨?_, fun n hn => ?_⟩
    · by_cases e1 : B.2.1 = nx + 3
      · have e2 : D.2.1 - 1 = nx + 2 := by omega
        rw [e2]; exact inB _ bv.last
      · exact inB _ (bv.all _ (by omega) (by omega))
    · obtain ⟨x, hx, hv1⟩ := hasV_cmp.1 hn
      rcases mem2 hx with rfl | rfl
      · rcases hd.none n hv1 with h9 | h9 | h9 | h9
        · have := hv n (.inl (hasV_kid m0 h9)); omega
        · omega
        · omega
        · omega
      · obtain ⟨y, hy, hv2⟩ := hasV_cmp.1 hv1
        rcases mem2 hy with rfl | rfl
        · rcases bv.none n hv2 with h9 | h9 | h9 | h9
          · have := hv n (.inr h9); omega
          · omega
          · omega
          · omega
        · rcases cv.none n hv2 with h9 | h9 | h9 | h9
          · have := hv n (.inl (hasV_kid m1 h9)); omega
          · omega
          · omega
          · omega
  · have e := gCl_plain J r nx hc
    have hz2 := hz
    rw [e] at hz2
    simp only at hz2
    have z2 := gPh_st hz2
    have a2 := gHd_fst J l nx (nx + 1) (nx + 2, 0)
    simp only at a2
    have b0 := gPh_ok hJ (itC r).length r nx (nx + 1) (gHd J l nx (nx + 1) (nx + 2, 0)).2 h.ro (Nat.le_refl _) ⟨h0, by omega⟩ ⟨by omega, by omega⟩ (by omega) (by omega)
    have bv := gPh_var hJ (itC r).length r nx (nx + 1) (gHd J l nx (nx + 1) (nx + 2, 0)).2 h.ro (Nat.le_refl _) ⟨h0, by omega⟩ ⟨by omega, by omega⟩ (by omega) (by omega) hz2
    have b2 := b0.up
    have hg := gHd_good z2
    have hd := gMore_var (hg.2 ▸ z2)
    rw [e]
    simp only
    rw [← hg.2] at hd
    obtain ⟨H, eH⟩ : ∃ H, H = gHd J l nx (nx + 1) (nx + 2, 0) := ⟨_, rfl⟩
    rw [← eH] at a2 b2 bv hd ⊢
    obtain ⟨B, eB⟩ : ∃ B, B = gPh J (itC r).length r nx (nx + 1) H.2 := ⟨_, rfl⟩
    rw [← eB] at b2 bv ⊢
    have inB : ∀ n, HasV n (itC B.1) → HasV n (itC (cmpT [58, 45] [H.1, B.1])) := fun n hn => hasV_cmp.2 ⟨B.1, by simp, hn⟩
    refine ⟨?_, fun n hn => ?_⟩
    · by_cases e1 : B.2.1 = nx + 2
      · have e2 : B.2.1 - 1 = nx + 1 := by omega
        rw [e2]; exact inB _ bv.last
      · exact inB _ (bv.all _ (by omega) (by omega))
    · obtain ⟨x, hx, hv1⟩ := hasV_cmp.1 hn
      rcases mem2 hx with rfl | rfl
      · rcases hd.none n hv1 with h9 | h9 | h9 | h9
        · have := hv n (.inl h9); omega
        · omega
        · omega
        · omega
      · rcases bv.none n hv1 with h9 | h9 | h9 | h9
        · have := hv n (.inr h9); omega
        · omega
        · omega
        · omega
theorem gCl_bad {J l r : Tr} {nx : Int} (h : (if l.1 = cComma then kidG l 0 else l).1.1 = 0 ∨ (if l.1 = cComma then kidG l 0 else l).1.1 = 1 ∨ (if l.1 = cComma then kidG l 0 else l).1 = nilC ∨ (if l.1 = cComma then kidG l 0 else l).1 = dot) : (gCl J l r nx).2.2 = 4 := by
  by_cases hc : l.1 = cComma
  · rw [if_pos hc] at h
    simp only [gCl, if_pos hc, gHd, if_pos h]
    have e1 : (flt 4 (nx + 3, 0)).2 = 4 := rfl
    rw [gTer_keep (by rw [gPh_keep _ _ _ _ _ (by rw [e1]; decide), e1]; decide), gPh_keep _ _ _ _ _ (by rw [e1]; decide), e1]
  · rw [if_neg hc] at h
    simp only [gCl, if_neg hc, gHd, if_pos h]
    have e1 : (flt 4 (nx + 2, 0)).2 = 4 := rfl
    rw [gPh_keep _ _ _ _ _ (by rw [e1]; decide), e1]
end Go.Proofs.YtbnmmcegjlmdmaaGreatDoor

namespace Go.Proofs.YtbnmmcegjlmdmaaGreatDoor
open Go Go.RowKit Go.Maps Go.Shelf
set_option linter.unusedVariables false
set_option linter.unusedSimpArgs false
theorem fun_of {w0 : World} {Bt : Nat} {t : Tr} {v : Value} (ht : t.fo.ok) (hf : FoIn w0 Bt t.fo [v]) : ∃ (S : ByteArray) (n : Nat) (ok : Bool), (∀ W, Below w0.heap.size w0 W → Calls Tryz.prog 24 #[v] W fun e w' => e = .returned (.tuple #[.agg #[.string S, .int .i64 n], .bool ok]) ∧ Below W.heap.size W w') ∧ (t.1 = cComma ↔ S.toList = [44] ∧ n = 2) := by
  have hc := ht.1
  simp only [cellB, decide_eq_true_eq] at hc
  by_cases hk : t.1.1 = 2 ∨ t.1.1 = 3
  · obtain ⟨pa, ca, us, hul, hca, hFO, _⟩ := call_parts ht hk hf
    refine ⟨_, _, _, hFO, ?_⟩
    have h1 := key_iff ht hk [44] 2 (byte_small (by decide))
    rw [ByteArray.toList_eq]
    constructor
    · intro e
      have := Prod.mk.inj (h1.2 e)
      exact ⟨by rw [this.1]; rfl, by have := this.2; omega⟩
    · rintro ⟨e1, e2⟩
      exact h1.1 (Prod.ext (bytesG_inj (e1.trans rfl)) (by show (((trs t.2).length : Nat) : Int) = ((2 : Nat) : Int); rw [e2]))
  · have hno : (⟨#[]⟩ : ByteArray).toList ≠ [44] := by rw [ByteArray.toList_eq]; decide
    have hcm : t.1 ≠ cComma := fun e => hk (.inr (by rw [e]))
    obtain ⟨v', vr, e, hn, _⟩ := hf
    obtain ⟨rfl, _⟩ := List.cons.inj e
    rcases hn with ⟨k, rfl⟩ | ⟨k, rfl⟩ | ⟨k, _⟩ | ⟨k, _⟩
    · exact ⟨⟨#[]⟩, 0, false, fun W _ => nbFO_var _ W, ⟨fun e => absurd e hcm, fun e => absurd e.1 hno⟩⟩
    · exact ⟨⟨#[]⟩, 0, false, fun W _ => nbFO_num _ W, ⟨fun e => absurd e hcm, fun e => absurd e.1 hno⟩⟩
    · omega
    · omega
set_option maxRecDepth 100000 in
set_option maxHeartbeats 4000000 in
theorem clauseP_any {w0 : World} {gp gb nb : Nat} {a a2 : Addr} (l r : Tr) (y1 y2 : TypeId) (u1 u2 : Value) (Bt Bt2 : Nat) (nx : Int) (w : World) (hl : l.fo.ok) (hr : r.fo.ok) (hfl : FoIn w0 Bt l.fo [.iface y1 u1]) (hfr : FoIn w0 Bt2 r.fo [.iface y2 u2]) (hll : (itC l).length ≤ 2000) (hlr : (itC r).length ≤ 2000) (hnx : 0 ≤ nx ∧ nx + 5000 ≤ 1100000) (h : GMi w0 gp gb nb a a2 (nx, 0) w) (hc : ¬ l.1 = cComma) :
    Calls Tryz.prog 48 #[ptrV gb, .iface y1 u1, .iface y2 u2] w (GOutI w0 gp gb nb a a2 w (gCl failT l r nx)) := by
  obtain ⟨S, n, ok, hFO, hiff⟩ := fun_of hl hfl
  obtain ⟨Wd, eD⟩ : ∃ Wd, Wd = World.drew w := ⟨_, rfl⟩
  have hMd : GMi w0 gp gb nb a a2 (nx, 0) Wd := by rw [eD]; exact h.drew
  have HFd : Hid (GFr gb nb w Wd) := by rw [eD]; exact GFr.drew gb nb _
  have k1 := hMd.c0
  have HV1 := newVar_any hMd (by simp only; omega)
  have HD1 : Hid (World.drew w = Wd) := eD.symm
  have HFO : Hid (∀ X st, GMi w0 gp gb nb a a2 st X → Calls Tryz.prog 24 #[.iface y1 u1] X fun e w' => e = .returned (.tuple #[.agg #[.string S, .int .i64 n], .bool ok]) ∧ Below X.heap.size X w') := fun X st hX => hFO X hX.bel
  rw [gCl_plain failT r nx hc]
  have HH1 : Hid (∀ X, GMi w0 gp gb nb a a2 (nx + 2, 0) X → Calls Tryz.prog 65 #[ptrV gb, .iface y1 u1, varV nx, varV (nx + 1)] X (GOutI w0 gp gb nb a a2 X (gHd failT l nx (nx + 1) (nx + 2, 0)))) := fun X hX => head_any l _ Bt nx (nx + 1) (nx + 2, 0) X hl hfl hX
  have hfst := gHd_fst failT l nx (nx + 1) (nx + 2, 0)
  have HP1 : Hid (∀ X, GMi w0 gp gb nb a a2 (gHd failT l nx (nx + 1) (nx + 2, 0)).2 X → Calls Tryz.prog 58 #[ptrV gb, .iface y2 u2, varV nx, varV (nx + 1)] X (GOutI w0 gp gb nb a a2 X (gPh failT (itC r).length r nx (nx + 1) (gHd failT l nx (nx + 1) (nx + 2, 0)).2))) := fun X hX => phrI_all w0 gp gb nb a a2 _ r _ Bt2 nx (nx + 1) _ X hr (Nat.le_refl _) hlr hfr ⟨hnx.1, by omega⟩ ⟨by omega, by omega⟩ (by rw [hfst]; simp only; omega) hX
  obtain ⟨r1, e1⟩ : ∃ r1, r1 = gHd failT l nx (nx + 1) (nx + 2, 0) := ⟨_, rfl⟩
  rw [← e1] at HH1 HP1 ⊢
  obtain ⟨r2, e2⟩ : ∃ r2, r2 = gPh failT (itC r).length r nx (nx + 1) r1.2 := ⟨_, rfl⟩
  rw [← e2] at HP1 ⊢
  have h2n : nx + 1 + 1 = nx + 2 := by omega
  have hcmp : ¬ (S.toList = [44] ∧ (n : Int) = 2) := fun e => hc (hiff.2 ⟨e.1, by have := e.2; omega⟩)
  have HCM : Hid (¬ (S.toList = [44] ∧ (n : Int) = 2)) := hcmp
  clear hl hr hfl hfr hll hlr h hc hMd eD hiff hFO hfst e1 e2 hcmp
  go_enter Tryz.func48, Tryz.ntmps48
  go_wp2_with fail
  refine wp_region_held_drew (S := fun X => X.cell? ⟨gb, 0, none⟩ = some (.func (.func 54) #[] #[ptrV nb])) (by kernel_rfl) ?_ (fun hHeld => ?_)
  · rw [HD1.out]; exact k1
  rw [HD1.out]
  refine hTake (i := 0) (v := ptrV gb) (some 13) (by kernel_rfl) (by kernel_rfl) (by kernel_rfl) (by kernel_rfl) (by kernel_rfl) (fun _ _ _ h => h) (fun o ho W hSw => ?y0) (by assumption) ?_
  case y0 =>
    cases ho
    simp [execOp, go_sem, Act.eval]
  simp only [Act.put, List.setIfInBounds_toArray, List.set_cons_zero, List.set_cons_succ]
  refine hTake (i := 1) (v := ptrV gb) (some 14) (by kernel_rfl) (by kernel_rfl) (by kernel_rfl) (by kernel_rfl) (by kernel_rfl) (fun _ _ _ h => h) (fun o ho W hSw => ?y1) (by assumption) ?_
  case y1 =>
    cases ho
    simp [execOp, go_sem, Act.eval]
  simp only [Act.put, List.setIfInBounds_toArray, List.set_cons_zero, List.set_cons_succ]
  refine hTake (i := 2) (v := .pointer (some ⟨gb, 0, none⟩)) (some 15) (by kernel_rfl) (by kernel_rfl) (by kernel_rfl) (by kernel_rfl) (by kernel_rfl) (fun _ _ _ h => h) (fun o ho W hSw => ?y2) (by assumption) ?_
  case y2 =>
    cases ho
    simp [execOp, go_sem, Act.eval]
  simp only [Act.put, List.setIfInBounds_toArray, List.set_cons_zero, List.set_cons_succ]
  refine hTake (i := 3) (v := .func (.func 54) #[] #[ptrV nb]) (some 16) (by kernel_rfl) (by kernel_rfl) (by kernel_rfl) (by kernel_rfl) (by kernel_rfl) (fun _ _ _ h => h) (fun o ho W hSw => ?y3) (by assumption) ?_
  case y3 =>
    cases ho
    have kk := hSw
    simp [execOp, go_sem, Act.eval, kk]
  simp only [Act.put, List.setIfInBounds_toArray, List.set_cons_zero, List.set_cons_succ]
  refine hTake (i := 5) (v := ptrV gb) (some 18) (by kernel_rfl) (by kernel_rfl) (by kernel_rfl) (by kernel_rfl) (by kernel_rfl) (fun _ _ _ h => h) (fun o ho W hSw => ?y4) (by assumption) ?_
  case y4 =>
    cases ho
    simp [execOp, go_sem, Act.eval]
  simp only [Act.put, List.setIfInBounds_toArray, List.set_cons_zero, List.set_cons_succ]
  refine hTake (i := 6) (v := ptrV gb) (some 19) (by kernel_rfl) (by kernel_rfl) (by kernel_rfl) (by kernel_rfl) (by kernel_rfl) (fun _ _ _ h => h) (fun o ho W hSw => ?y5) (by assumption) ?_
  case y5 =>
    cases ho
    simp [execOp, go_sem, Act.eval]
  simp only [Act.put, List.setIfInBounds_toArray, List.set_cons_zero, List.set_cons_succ]
  refine hTake (i := 7) (v := .pointer (some ⟨gb, 0, none⟩)) (some 20) (by kernel_rfl) (by kernel_rfl) (by kernel_rfl) (by kernel_rfl) (by kernel_rfl) (fun _ _ _ h => h) (fun o ho W hSw => ?y6) (by assumption) ?_
  case y6 =>
    cases ho
    simp [execOp, go_sem, Act.eval]
  simp only [Act.put, List.setIfInBounds_toArray, List.set_cons_zero, List.set_cons_succ]
  refine hTake (i := 8) (v := .func (.func 54) #[] #[ptrV nb]) (some 21) (by kernel_rfl) (by kernel_rfl) (by kernel_rfl) (by kernel_rfl) (by kernel_rfl) (fun _ _ _ h => h) (fun o ho W hSw => ?y7) (by assumption) ?_
  case y7 =>
    cases ho
    have kk := hSw
    simp [execOp, go_sem, Act.eval, kk]
  simp only [Act.put, List.setIfInBounds_toArray, List.set_cons_zero, List.set_cons_succ]
  refine hCallE (i := 4) (f := 54) (args := #[ptrV nb]) (some 17) (by kernel_rfl) (by kernel_rfl) (by kernel_rfl) (fun o ho => ?c8) HV1 ?k8 (fun ch w' hh => by cases hh.1) (fun w' hh => by cases hh.1)
  case c8 =>
    cases ho
    simp [execOp, go_sem, Act.eval]
  case k8 =>
    rintro qv1 v1 ⟨hz, hm, hf⟩
    obtain rfl := Ending.returned.inj hz
    have HMv1 : Hid (GMi w0 gp gb nb a a2 (nx + 1, 0) v1) := hm
    have HFv1 : Hid (GFr gb nb w v1) := (HFd.out.trans hf)
    have kv1 : v1.cell? ⟨gb, 0, none⟩ = some (.func (.func 54) #[] #[ptrV nb]) := hm.c0
    have HV2 := newVar_any hm (by simp only; omega)
    clear hz hm hf HV1
    refine ⟨kv1, ?_⟩
    simp only [Act.put, List.setIfInBounds_toArray, List.set_cons_zero, List.set_cons_succ]
    refine hCallE (i := 9) (f := 54) (args := #[ptrV nb]) (some 22) (by kernel_rfl) (by kernel_rfl) (by kernel_rfl) (fun o ho => ?c9) HV2 ?k9 (fun ch w' hh => by cases hh.1) (fun w' hh => by cases hh.1)
    case c9 =>
      cases ho
      simp [execOp, go_sem, Act.eval]
    case k9 =>
      rintro qv2 v2 ⟨hz, hm, hf⟩
      obtain rfl := Ending.returned.inj hz
      have HMv2 : Hid (GMi w0 gp gb nb a a2 (nx + 1 + 1, 0) v2) := hm
      have HFv2 : Hid (GFr gb nb w v2) := (HFv1.out.trans hf)
      have kv2 : v2.cell? ⟨gb, 0, none⟩ = some (.func (.func 54) #[] #[ptrV nb]) := hm.c0
      clear hz hm hf HV2
      refine ⟨kv2, ?_⟩
      simp only [Act.put, List.setIfInBounds_toArray, List.set_cons_zero, List.set_cons_succ]
      refine hTake (i := 10) (v := varV nx) (some 7) (by kernel_rfl) (by kernel_rfl) (by kernel_rfl) (by kernel_rfl) (by kernel_rfl) (fun _ _ _ h => h) (fun o ho W hSw => ?y10) (by assumption) ?_
      case y10 =>
        cases ho
        simp [execOp, go_sem, Act.eval]
      simp only [Act.put, List.setIfInBounds_toArray, List.set_cons_zero, List.set_cons_succ]
      refine hTake (i := 11) (v := varV (nx + 1)) (some 8) (by kernel_rfl) (by kernel_rfl) (by kernel_rfl) (by kernel_rfl) (by kernel_rfl) (fun _ _ _ h => h) (fun o ho W hSw => ?y11) (by assumption) ?_
      case y11 =>
        cases ho
        simp [execOp, go_sem, Act.eval]
      simp only [Act.put, List.setIfInBounds_toArray, List.set_cons_zero, List.set_cons_succ]
      refine wpAnyH_done (by kernel_rfl) ?_ _
      change Exit.then _ _ _ _ v2
      rw [h2n] at HMv2
      have HC1 := HFO.out v2 _ HMv2.out
      clear HFO
      go_wp2_with fail
      refine HC1.mono ?_
      rintro e w1 ⟨rfl, hb1⟩
      obtain ⟨W1, eW⟩ : ∃ W1, W1 = w1.alloc (.cells #[.string S, .int .i64 n] 52) := ⟨_, rfl⟩
      have hb2 : Below v2.heap.size v2 W1 := by rw [eW]; exact Below.on hb1 (below_new _ _)
      have HM1 : Hid (GMi w0 gp gb nb a a2 (nx + 2, 0) (w1.alloc (.cells #[.string S, .int .i64 n] 52))) := by rw [← eW]; exact HMv2.out.below hb2
      have HF1 : Hid (GFr gb nb w (w1.alloc (.cells #[.string S, .int .i64 n] 52))) := by rw [← eW]; exact HFv2.out.trans (GFr.of gb nb hb2)
      have HC2 := HH1.out _ HM1.out
      clear hb1 hb2 HC1 eW HH1
      by_cases hS : S.toList = [44]
      · have hn2 : ¬ (n : Int) = 2 := fun e => HCM.out ⟨hS, e⟩
        go_wp2_with fail
        refine HC2.mono ?_
        rintro e w2 ⟨z1, rfl, hz1, hm2, hf2⟩
        obtain ⟨t1, x1, rfl⟩ := foC_if hz1
        have HC3 := HP1.out w2 hm2
        have HZ1 : Hid (FoC w2 r1.1.fo [.iface t1 x1]) := hz1
        have HM2 : Hid (GMi w0 gp gb nb a a2 r1.2 w2) := hm2
        have HF2 : Hid (GFr gb nb w w2) := HF1.out.trans hf2
        clear hz1 hm2 hf2 HC2 HP1
        go_wp2_with fail
        refine HC3.mono ?_
        rintro e w3 ⟨z2, rfl, hz2, hm3, hf3⟩
        obtain ⟨t2, x2, rfl⟩ := foC_if hz2
        have HC4 := call2_any [58, 45] ⟨#[58, 45]⟩ rfl r1.1 r2.1 (.iface t1 x1) (.iface t2 x2) w3 (HM2.out.tree hf3 HZ1.out) hz2
        have HM3 : Hid (GMi w0 gp gb nb a a2 r2.2 w3) := hm3
        have HF3 : Hid (GFr gb nb w w3) := HF2.out.trans hf3
        clear hz2 hm3 hf3 HC3
        go_wp2_with fail
        refine HC4.mono ?_
        rintro e w4 h4
        have HG : Hid (GOutI w0 gp gb nb a a2 w (cmpT [58, 45] [r1.1, r2.1], r2.2) e w4) := (GOutI.tree HM3.out h4).from HF3.out
        obtain ⟨z, rfl, _⟩ := h4
        clear HC4
        go_wp2_with fail
        go_ret
        exact HG.out
      · have hS2 : ¬ S.toList = [44] := hS
        go_wp2_with fail
        refine HC2.mono ?_
        rintro e w2 ⟨z1, rfl, hz1, hm2, hf2⟩
        obtain ⟨t1, x1, rfl⟩ := foC_if hz1
        have HC3 := HP1.out w2 hm2
        have HZ1 : Hid (FoC w2 r1.1.fo [.iface t1 x1]) := hz1
        have HM2 : Hid (GMi w0 gp gb nb a a2 r1.2 w2) := hm2
        have HF2 : Hid (GFr gb nb w w2) := HF1.out.trans hf2
        clear hz1 hm2 hf2 HC2 HP1
        go_wp2_with fail
        refine HC3.mono ?_
        rintro e w3 ⟨z2, rfl, hz2, hm3, hf3⟩
        obtain ⟨t2, x2, rfl⟩ := foC_if hz2
        have HC4 := call2_any [58, 45] ⟨#[58, 45]⟩ rfl r1.1 r2.1 (.iface t1 x1) (.iface t2 x2) w3 (HM2.out.tree hf3 HZ1.out) hz2
        have HM3 : Hid (GMi w0 gp gb nb a a2 r2.2 w3) := hm3
        have HF3 : Hid (GFr gb nb w w3) := HF2.out.trans hf3
        clear hz2 hm3 hf3 HC3
        go_wp2_with fail
        refine HC4.mono ?_
        rintro e w4 h4
        have HG : Hid (GOutI w0 gp gb nb a a2 w (cmpT [58, 45] [r1.1, r2.1], r2.2) e w4) := (GOutI.tree HM3.out h4).from HF3.out
        obtain ⟨z, rfl, _⟩ := h4
        clear HC4
        go_wp2_with fail
        go_ret
        exact HG.out
end Go.Proofs.YtbnmmcegjlmdmaaGreatDoor

