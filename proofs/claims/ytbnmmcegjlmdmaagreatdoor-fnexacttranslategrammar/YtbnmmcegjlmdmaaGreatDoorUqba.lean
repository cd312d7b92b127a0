/- Texts of GrY. Own work of the verifier. -/
import Derived.Test.YtbnmmcegjlmdmaaGreatDoorUqaz
namespace Go.Proofs.YtbnmmcegjlmdmaaGreatDoor
open Go Go.RowKit Go.Maps Go.Shelf
set_option linter.unusedVariables false
set_option linter.unusedSimpArgs false
theorem okN_of {t : Tr} (ht : t.fo.ok) (hk : t.1.1 = 2 ∨ t.1.1 = 3) : okN (strOfNums t.1.2.2, (((trs t.2).length : Nat) : Int)) := by
  have hc := ht.1
  have h2 := ht.2.2.1
  have h3 := ht.2.2.2.1
  have h4 := trs_len t.2
  simp only [cellB, decide_eq_true_eq] at hc
  refine ⟨by show (strOfNums t.1.2.2).size ≤ 2000000; rw [strOfNums_size]; omega, WalkArith.wf_i64 ?_⟩
  show _ ≤ (((trs t.2).length : Nat) : Int) ∧ (((trs t.2).length : Nat) : Int) ≤ _
  rcases hk with hk | hk
  · rw [h3 (by rw [hk]; decide)]; decide
  · have := h2 hk; omega
set_option maxRecDepth 100000 in
set_option maxHeartbeats 4000000 in
theorem phrI_var {w0 : World} {gp gb nb : Nat} {a a2 : Addr} {f : Nat} (hPh : PhI w0 gp gb nb a a2 f) (t : Tr) (v : Value) (Bt : Nat) (xa xb : Int) (st : GSt) (w : World) (ht : t.fo.ok) (hlf : (itC t).length ≤ f + 1) (hl : (itC t).length ≤ 2000) (hfo : FoIn w0 Bt t.fo [v]) (ha : 0 ≤ xa ∧ xa ≤ 1100000) (hb : 0 ≤ xb ∧ xb ≤ 1100000) (hst : st.1 + (itC t).length ≤ 1100000) (h : GMi w0 gp gb nb a a2 st w) (hcase : t.1.1 = 0) :
    Calls Tryz.prog 58 #[ptrV gb, v, varV xa, varV xb] w (GOutI w0 gp gb nb a a2 w (gPh failT (f + 1) t xa xb st)) := by
  obtain ⟨mb, N, s1, s2, r1, r2, r3, r4⟩ := h.rul
  have hv : v = .iface 84 (.int .i64 t.1.2.1) := by
    obtain ⟨v', vr, e, hn, _⟩ := hfo
    obtain ⟨rfl, _⟩ := List.cons.inj e
    rcases hn with ⟨k, h⟩ | ⟨k, h⟩ | ⟨k, h⟩ | ⟨k, _⟩
    · exact h
    · rw [hcase] at k; exact absurd k (by decide)
    · rw [hcase] at k; exact absurd k (by decide)
    · rw [hcase] at k; exact absurd k (by decide)
  subst hv
  obtain ⟨xv, exv⟩ : ∃ xv, xv = Value.int .i64 t.1.2.1 := ⟨_, rfl⟩
  rw [← exv] at hfo ⊢
  have HFO := nbFO_var xv w
  have hlk : ∀ X, RuIn X mb N (ruTab gp s1 s2) → (Instr.lookup 88 (.map (some mb)) (.agg #[.string ⟨#[]⟩, .int .i64 0]) false).run Tryz.prog X = .ok .nilFunc X := fun X hX => by
    have h1 := hX.look (⟨#[]⟩, 0) ⟨by decide, by decide⟩
    rw [ruTab_none gp s1 s2 _ gKey_ne0] at h1
    exact h1
  have hG : gPh failT (f + 1) t xa xb st = (cmpT nPhrase [t, vT xa, vT xb], st) := by
    rw [gPh, if_pos hcase]
  rw [hG]
  have HX : Hid (∀ w1, Below w.heap.size w w1 → ∃ W1 Wd, W1 = w1.alloc (.cells #[.string ⟨#[]⟩, .int .i64 0] 52) ∧ Wd = W1.drew ∧ Below w.heap.size w Wd ∧ Wd.cell? ⟨w1.heap.size, 0, none⟩ = some (.string ⟨#[]⟩) ∧ Wd.cell? ⟨w1.heap.size, 1, none⟩ = some (.int .i64 0)) := fun w1 hb1 => by
    refine ⟨_, _, rfl, rfl, (Below.on hb1 (below_new _ _)).drew, ?_, ?_⟩
    · exact new_cells2 w1 (.string ⟨#[]⟩) (.int .i64 0) 52 0 (by decide)
    · exact new_cells2 w1 (.string ⟨#[]⟩) (.int .i64 0) 52 1 (by decide)
  have HMb : Hid (∀ X, Below w.heap.size w X → GMi w0 gp gb nb a a2 st X ∧ X.cell? ⟨gb, 1, none⟩ = some (.map (some mb)) ∧ RuIn X mb N (ruTab gp s1 s2)) := fun X hX => ⟨h.below hX, (hX.cell (World.block_lt_of_cell? _ _ r1)).trans r1, r2.below hX⟩
  have HEnd : Hid (∀ X, Below w.heap.size w X → Calls Tryz.prog 57 #[.string ⟨#[112, 104, 114, 97, 115, 101]⟩, .slice (some ⟨X.heap.size, 0, none⟩) 3 3] (X.alloc (.cells #[.iface 84 xv, varV xa, varV xb] 49)) (TrOut X (cmpT nPhrase [t, vT xa, vT xb]))) := fun X hX => call3_any nPhrase _ rfl t (vT xa) (vT xb) _ _ _ X (foIn_c hfo (Below.on h.bel hX)) (foC_var _ _) (foC_var _ _)
  have HH : Hid (GMi w0 gp gb nb a a2 st w) := h
  clear hPh h r1 r2 r3 r4 ht hlf hl hfo ha hb hst hcase hG exv
  go_enter Tryz.func58, Tryz.ntmps58
  go_wp2_with fail
  refine HFO.mono ?_
  rintro e w1 ⟨rfl, hb1⟩
  obtain ⟨W1, Wd, eW, eD, hbd, d0, d1⟩ := HX.out w1 hb1
  obtain ⟨hMd, m1, hRd⟩ := HMb.out Wd hbd
  have hlkd := hlk Wd hRd
  have HMd : Hid (GMi w0 gp gb nb a a2 st Wd) := hMd
  have HBd : Hid (Below w.heap.size w Wd) := hbd
  have HW : Hid (W1 = w1.alloc (.cells #[.string ⟨#[]⟩, .int .i64 0] 52)) := eW
  have HDe : Hid (W1.drew = Wd) := eD.symm
  have HC := HEnd.out Wd hbd
  clear hb1 HFO eW eD hbd hMd hRd hlk HX HMb
  go_wp2_with fail
  rw [← HW.out]
  refine wp_region_held_drew (S := fun X => X = Wd) (by kernel_rfl) ?_ (fun hHeld => ?_)
  · exact HDe.out
  rw [HDe.out]
  have hSd : Wd = Wd := rfl
  refine hTake (i := 0) (v := ptrV gb) (some 17) (by kernel_rfl) (by kernel_rfl) (by kernel_rfl) (by kernel_rfl) (by kernel_rfl) (fun _ _ _ h => h) (fun o ho W hSw => ?y0) (by assumption) ?_
  case y0 =>
    cases ho
    simp [execOp, go_sem, Act.eval]
  simp only [Act.put, List.setIfInBounds_toArray, List.set_cons_zero, List.set_cons_succ]
  refine hTake (i := 1) (v := ptrV gb) (some 18) (by kernel_rfl) (by kernel_rfl) (by kernel_rfl) (by kernel_rfl) (by kernel_rfl) (fun _ _ _ h => h) (fun o ho W hSw => ?y1) (by assumption) ?_
  case y1 =>
    cases ho
    simp [execOp, go_sem, Act.eval]
  simp only [Act.put, List.setIfInBounds_toArray, List.set_cons_zero, List.set_cons_succ]
  refine hTake (i := 2) (v := .pointer (some ⟨gb, 1, none⟩)) (some 19) (by kernel_rfl) (by kernel_rfl) (by kernel_rfl) (by kernel_rfl) (by kernel_rfl) (fun _ _ _ h => h) (fun o ho W hSw => ?y2) (by assumption) ?_
  case y2 =>
    cases ho
    simp [execOp, go_sem, Act.eval]
  simp only [Act.put, List.setIfInBounds_toArray, List.set_cons_zero, List.set_cons_succ]
  refine hTake (i := 3) (v := .map (some mb)) (some 20) (by kernel_rfl) (by kernel_rfl) (by kernel_rfl) (by kernel_rfl) (by kernel_rfl) (fun _ _ _ h => h) (fun o ho W hSw => ?y3) (by assumption) ?_
  case y3 =>
    cases ho
    rw [hSw]
    simp [execOp, go_sem, Act.eval, m1]
  simp only [Act.put, List.setIfInBounds_toArray, List.set_cons_zero, List.set_cons_succ]
  refine hTake (i := 4) (v := .agg #[.string ⟨#[]⟩, .int .i64 0]) (some 21) (by kernel_rfl) (by kernel_rfl) (by kernel_rfl) (by kernel_rfl) (by kernel_rfl) (fun _ _ _ h => h) (fun o ho W hSw => ?y4) (by assumption) ?_
  case y4 =>
    cases ho
    rw [hSw]
    simp [execOp, go_sem, Act.eval, d0, d1]
  simp only [Act.put, List.setIfInBounds_toArray, List.set_cons_zero, List.set_cons_succ]
  refine hTake (i := 5) (v := .nilFunc) (some 22) (by kernel_rfl) (by kernel_rfl) (by kernel_rfl) (by kernel_rfl) (by kernel_rfl) (fun _ _ _ h => h) (fun o ho W hSw => ?y5) (by assumption) ?_
  case y5 =>
    cases ho
    rw [hSw]
    simp [execOp, go_sem, Act.eval, hlkd]
  simp only [Act.put, List.setIfInBounds_toArray, List.set_cons_zero, List.set_cons_succ]
  refine hTake (i := 6) (v := .nilFunc) (some 11) (by kernel_rfl) (by kernel_rfl) (by kernel_rfl) (by kernel_rfl) (by kernel_rfl) (fun _ _ _ h => h) (fun o ho W hSw => ?y6) (by assumption) ?_
  case y6 =>
    cases ho
    simp [execOp, go_sem, Act.eval]
  simp only [Act.put, List.setIfInBounds_toArray, List.set_cons_zero, List.set_cons_succ]
  refine wpAnyH_done (by kernel_rfl) ?_ _
  change Exit.then _ _ _ _ Wd
  go_wp2_with fail
  refine (nbIsVar_var _ _).mono ?_
  rintro e w2 ⟨rfl, hw2⟩
  rw [hw2]
  clear hw2 w2
  go_wp2_with fail
  refine HC.mono ?_
  rintro e w9 h9
  have HG : Hid (GOutI w0 gp gb nb a a2 w (cmpT nPhrase [t, vT xa, vT xb], st) e w9) := (GOutI.tree HMd.out h9).from (GFr.of gb nb HBd.out)
  obtain ⟨z, rfl, _⟩ := h9
  clear HC
  go_wp2_with fail
  go_ret
  exact HG.out
set_option maxRecDepth 100000 in
set_option maxHeartbeats 4000000 in
theorem phrI_num {w0 : World} {gp gb nb : Nat} {a a2 : Addr} {f : Nat} (hPh : PhI w0 gp gb nb a a2 f) (t : Tr) (v : Value) (Bt : Nat) (xa xb : Int) (st : GSt) (w : World) (ht : t.fo.ok) (hlf : (itC t).length ≤ f + 1) (hl : (itC t).length ≤ 2000) (hfo : FoIn w0 Bt t.fo [v]) (ha : 0 ≤ xa ∧ xa ≤ 1100000) (hb : 0 ≤ xb ∧ xb ≤ 1100000) (hst : st.1 + (itC t).length ≤ 1100000) (h : GMi w0 gp gb nb a a2 st w) (hcase : t.1.1 = 1) :
    Calls Tryz.prog 58 #[ptrV gb, v, varV xa, varV xb] w (GOutI w0 gp gb nb a a2 w (gPh failT (f + 1) t xa xb st)) := by
  obtain ⟨mb, N, s1, s2, r1, r2, r3, r4⟩ := h.rul
  have hv : v = .iface 95 (.int .i64 t.1.2.1) := by
    obtain ⟨v', vr, e, hn, _⟩ := hfo
    obtain ⟨rfl, _⟩ := List.cons.inj e
    rcases hn with ⟨k, h⟩ | ⟨k, h⟩ | ⟨k, h⟩ | ⟨k, _⟩
    · rw [hcase] at k; exact absurd k (by decide)
    · exact h
    · rw [hcase] at k; exact absurd k (by decide)
    · rw [hcase] at k; exact absurd k (by decide)
  subst hv
  obtain ⟨xv, exv⟩ : ∃ xv, xv = Value.int .i64 t.1.2.1 := ⟨_, rfl⟩
  rw [← exv] at hfo ⊢
  have HFO := nbFO_num xv w
  have hlk : ∀ X, RuIn X mb N (ruTab gp s1 s2) → (Instr.lookup 88 (.map (some mb)) (.agg #[.string ⟨#[]⟩, .int .i64 0]) false).run Tryz.prog X = .ok .nilFunc X := fun X hX => by
    have h1 := hX.look (⟨#[]⟩, 0) ⟨by decide, by decide⟩
    rw [ruTab_none gp s1 s2 _ gKey_ne0] at h1
    exact h1
  have hG : gPh failT (f + 1) t xa xb st = (failT, flt 4 st) := by
    rw [gPh, if_neg (by rw [hcase]; decide), if_pos hcase]
  rw [hG]
  have HX : Hid (∀ w1, Below w.heap.size w w1 → ∃ W1 Wd, W1 = w1.alloc (.cells #[.string ⟨#[]⟩, .int .i64 0] 52) ∧ Wd = W1.drew ∧ Below w.heap.size w Wd ∧ Wd.cell? ⟨w1.heap.size, 0, none⟩ = some (.string ⟨#[]⟩) ∧ Wd.cell? ⟨w1.heap.size, 1, none⟩ = some (.int .i64 0)) := fun w1 hb1 => by
    refine ⟨_, _, rfl, rfl, (Below.on hb1 (below_new _ _)).drew, ?_, ?_⟩
    · exact new_cells2 w1 (.string ⟨#[]⟩) (.int .i64 0) 52 0 (by decide)
    · exact new_cells2 w1 (.string ⟨#[]⟩) (.int .i64 0) 52 1 (by decide)
  have HMb : Hid (∀ X, Below w.heap.size w X → GMi w0 gp gb nb a a2 st X ∧ X.cell? ⟨gb, 1, none⟩ = some (.map (some mb)) ∧ RuIn X mb N (ruTab gp s1 s2)) := fun X hX => ⟨h.below hX, (hX.cell (World.block_lt_of_cell? _ _ r1)).trans r1, r2.below hX⟩
  have HEnd : Hid (∀ X, Below w.heap.size w X → Calls Tryz.prog 72 #[ptrV gb, efV a] X (GOutI w0 gp gb nb a a2 X (failT, flt 4 st)) ∧ X.cell? ⟨1, 0, none⟩ = some (efV a)) := fun X hX => ⟨fail_any (h.below hX) 4 (.inr rfl), (h.below hX).errs.fail⟩
  have HH : Hid (GMi w0 gp gb nb a a2 st w) := h
  clear hPh h r1 r2 r3 r4 ht hlf hl hfo ha hb hst hcase hG exv
  go_enter Tryz.func58, Tryz.ntmps58
  go_wp2_with fail
  refine HFO.mono ?_
  rintro e w1 ⟨rfl, hb1⟩
  obtain ⟨W1, Wd, eW, eD, hbd, d0, d1⟩ := HX.out w1 hb1
  obtain ⟨hMd, m1, hRd⟩ := HMb.out Wd hbd
  have hlkd := hlk Wd hRd
  have HMd : Hid (GMi w0 gp gb nb a a2 st Wd) := hMd
  have HBd : Hid (Below w.heap.size w Wd) := hbd
  have HW : Hid (W1 = w1.alloc (.cells #[.string ⟨#[]⟩, .int .i64 0] 52)) := eW
  have HDe : Hid (W1.drew = Wd) := eD.symm
  obtain ⟨HC, gg0⟩ := HEnd.out Wd hbd
  clear hb1 HFO eW eD hbd hMd hRd hlk HX HMb
  go_wp2_with fail
  rw [← HW.out]
  refine wp_region_held_drew (S := fun X => X = Wd) (by kernel_rfl) ?_ (fun hHeld => ?_)
  · exact HDe.out
  rw [HDe.out]
  have hSd : Wd = Wd := rfl
  refine hTake (i := 0) (v := ptrV gb) (some 17) (by kernel_rfl) (by kernel_rfl) (by kernel_rfl) (by kernel_rfl) (by kernel_rfl) (fun _ _ _ h => h) (fun o ho W hSw => ?y0) (by assumption) ?_
  case y0 =>
    cases ho
    simp [execOp, go_sem, Act.eval]
  simp only [Act.put, List.setIfInBounds_toArray, List.set_cons_zero, List.set_cons_succ]
  refine hTake (i := 1) (v := ptrV gb) (some 18) (by kernel_rfl) (by kernel_rfl) (by kernel_rfl) (by kernel_rfl) (by kernel_rfl) (fun _ _ _ h => h) (fun o ho W hSw => ?y1) (by assumption) ?_
  case y1 =>
    cases ho
    simp [execOp, go_sem, Act.eval]
  simp only [Act.put, List.setIfInBounds_toArray, List.set_cons_zero, List.set_cons_succ]
  refine hTake (i := 2) (v := .pointer (some ⟨gb, 1, none⟩)) (some 19) (by kernel_rfl) (by kernel_rfl) (by kernel_rfl) (by kernel_rfl) (by kernel_rfl) (fun _ _ _ h => h) (fun o ho W hSw => ?y2) (by assumption) ?_
  case y2 =>
    cases ho
    simp [execOp, go_sem, Act.eval]
  simp only [Act.put, List.setIfInBounds_toArray, List.set_cons_zero, List.set_cons_succ]
  refine hTake (i := 3) (v := .map (some mb)) (some 20) (by kernel_rfl) (by kernel_rfl) (by kernel_rfl) (by kernel_rfl) (by kernel_rfl) (fun _ _ _ h => h) (fun o ho W hSw => ?y3) (by assumption) ?_
  case y3 =>
    cases ho
    rw [hSw]
    simp [execOp, go_sem, Act.eval, m1]
  simp only [Act.put, List.setIfInBounds_toArray, List.set_cons_zero, List.set_cons_succ]
  refine hTake (i := 4) (v := .agg #[.string ⟨#[]⟩, .int .i64 0]) (some 21) (by kernel_rfl) (by kernel_rfl) (by kernel_rfl) (by kernel_rfl) (by kernel_rfl) (fun _ _ _ h => h) (fun o ho W hSw => ?y4) (by assumption) ?_
  case y4 =>
    cases ho
    rw [hSw]
    simp [execOp, go_sem, Act.eval, d0, d1]
  simp only [Act.put, List.setIfInBounds_toArray, List.set_cons_zero, List.set_cons_succ]
  refine hTake (i := 5) (v := .nilFunc) (some 22) (by kernel_rfl) (by kernel_rfl) (by kernel_rfl) (by kernel_rfl) (by kernel_rfl) (fun _ _ _ h => h) (fun o ho W hSw => ?y5) (by assumption) ?_
  case y5 =>
    cases ho
    rw [hSw]
    simp [execOp, go_sem, Act.eval, hlkd]
  simp only [Act.put, List.setIfInBounds_toArray, List.set_cons_zero, List.set_cons_succ]
  refine hTake (i := 6) (v := .nilFunc) (some 11) (by kernel_rfl) (by kernel_rfl) (by kernel_rfl) (by kernel_rfl) (by kernel_rfl) (fun _ _ _ h => h) (fun o ho W hSw => ?y6) (by assumption) ?_
  case y6 =>
    cases ho
    simp [execOp, go_sem, Act.eval]
  simp only [Act.put, List.setIfInBounds_toArray, List.set_cons_zero, List.set_cons_succ]
  refine wpAnyH_done (by kernel_rfl) ?_ _
  change Exit.then _ _ _ _ Wd
  go_wp2_with fail
  refine (nbIsVar_num _ _).mono ?_
  rintro e w2 ⟨rfl, hw2⟩
  rw [hw2]
  clear hw2 w2
  go_wp2_with fail
  refine HC.mono ?_
  rintro e w9 h9
  have HG : Hid (GOutI w0 gp gb nb a a2 w (failT, flt 4 st) e w9) := h9.from (GFr.of gb nb HBd.out)
  obtain ⟨z, rfl, _⟩ := h9
  clear HC
  go_wp2_with fail
  go_ret
  exact HG.out
set_option maxRecDepth 100000 in
set_option maxHeartbeats 4000000 in
theorem phrI_list {w0 : World} {gp gb nb : Nat} {a a2 : Addr} {f : Nat} (hPh : PhI w0 gp gb nb a a2 f) (t : Tr) (v : Value) (Bt : Nat) (xa xb : Int) (st : GSt) (w : World) (ht : t.fo.ok) (hlf : (itC t).length ≤ f + 1) (hl : (itC t).length ≤ 2000) (hfo : FoIn w0 Bt t.fo [v]) (ha : 0 ≤ xa ∧ xa ≤ 1100000) (hb : 0 ≤ xb ∧ xb ≤ 1100000) (hst : st.1 + (itC t).length ≤ 1100000) (h : GMi w0 gp gb nb a a2 st w) (hcase : t.1 = nilC ∨ t.1 = dot) :
    Calls Tryz.prog 58 #[ptrV gb, v, varV xa, varV xb] w (GOutI w0 gp gb nb a a2 w (gPh failT (f + 1) t xa xb st)) := by
  obtain ⟨mb, N, s1, s2, r1, r2, r3, r4⟩ := h.rul
  have hk : t.1.1 = 2 ∨ t.1.1 = 3 := by
    rcases hcase with e | e
    · exact .inl (by rw [e]; rfl)
    · exact .inr (by rw [e]; rfl)
  obtain ⟨pa, ca, us, hul, hca, hFO, hAR, hpa, hpz, hfk⟩ := call_parts ht hk hfo
  have hokn := okN_of ht hk
  have hol := ol_iff ht hk
  have hkey := fun nm k hb => key_iff ht hk nm k hb
  obtain ⟨tv, xv, rfl, HIV⟩ : ∃ tv xv, v = .iface tv xv ∧ ∀ W, Calls Tryz.prog 71 #[.iface tv xv] W fun e w' => e = .returned (.bool false) ∧ w' = W := by
    obtain ⟨v', vr, e, hn, _⟩ := hfo
    obtain ⟨rfl, _⟩ := List.cons.inj e
    rcases hn with ⟨k, _⟩ | ⟨k, _⟩ | ⟨k, h⟩ | ⟨k, b, g, vs, h, _⟩
    · omega
    · omega
    · exact ⟨_, _, h, fun W => nbIsVar_atom _ W⟩
    · exact ⟨_, _, h, fun W => nbIsVar_comp _ W⟩
  have hru : ruTab gp s1 s2 (strOfNums t.1.2.2, (((trs t.2).length : Nat) : Int)) = none := ruTab_none _ _ _ _ (fun j hj e => ?hj)
  case hj =>
    have h1 : ∀ j, j < 6 → ∀ nm k, (gKey j = ((strOfNums nm, ((k : Nat) : Int)) : Fun)) → True := fun _ _ _ _ _ => trivial
    match j, hj with
    | 0, _ => have e2 := (hkey [44] 2 (byte_small (by decide))).1 e.symm; rcases hcase with e3 | e3 <;> rw [e3] at e2 <;> exact absurd e2 (by decide)
    | 1, _ => have e2 := (hkey [45, 62] 2 (byte_small (by decide))).1 e.symm; rcases hcase with e3 | e3 <;> rw [e3] at e2 <;> exact absurd e2 (by decide)
    | 2, _ => have e2 := (hkey [59] 2 (byte_small (by decide))).1 e.symm; rcases hcase with e3 | e3 <;> rw [e3] at e2 <;> exact absurd e2 (by decide)
    | 3, _ => have e2 := (hkey [92, 43] 1 (byte_small (by decide))).1 e.symm; rcases hcase with e3 | e3 <;> rw [e3] at e2 <;> exact absurd e2 (by decide)
    | 4, _ => have e2 := (hkey [33] 0 (byte_small (by decide))).1 e.symm; rcases hcase with e3 | e3 <;> rw [e3] at e2 <;> exact absurd e2 (by decide)
    | 5, _ => have e2 := (hkey [123, 125] 1 (byte_small (by decide))).1 e.symm; rcases hcase with e3 | e3 <;> rw [e3] at e2 <;> exact absurd e2 (by decide)
  have hol0 : olB (strOfNums t.1.2.2) (trs t.2).length = true := by rw [hol]; exact decide_eq_true hcase
  have HFO := hFO w h.bel
  have hlk0 : ∀ X, RuIn X mb N (ruTab gp s1 s2) → (Instr.lookup 88 (.map (some mb)) (.agg #[.string (strOfNums t.1.2.2), .int .i64 (((trs t.2).length : Nat) : Int)]) false).run Tryz.prog X = .ok (.nilFunc) X := fun X hX => by
    have h1 := hX.look (strOfNums t.1.2.2, (((trs t.2).length : Nat) : Int)) hokn
    rw [hru] at h1
    exact h1
  obtain ⟨n, en⟩ : ∃ n : Nat, n = (trs t.2).length := ⟨_, rfl⟩
  rw [← en] at HFO hlk0 hol0
  obtain ⟨S, eS⟩ : ∃ S, S = strOfNums t.1.2.2 := ⟨_, rfl⟩
  rw [← eS] at HFO hlk0 hol0
  have hlk := hlk0
  have hG : gPh failT (f + 1) t xa xb st = (gTer failT t xa xb st) := by
    rw [gPh, if_neg (by rcases hcase with e | e <;> rw [e] <;> decide), if_neg (by rcases hcase with e | e <;> rw [e] <;> decide), if_neg (by rcases hcase with e | e <;> rw [e] <;> decide), if_neg (by rcases hcase with e | e <;> rw [e] <;> decide), if_neg (by rcases hcase with e | e <;> rw [e] <;> decide), if_neg (by rcases hcase with e | e <;> rw [e] <;> decide), if_neg (by rcases hcase with e | e <;> rw [e] <;> decide), if_pos hcase]
  rw [hG]
  have HX : Hid (∀ w1, Below w.heap.size w w1 → ∃ W1 Wd, W1 = w1.alloc (.cells #[.string S, .int .i64 n] 52) ∧ Wd = W1.drew ∧ Below w.heap.size w Wd ∧ Wd.cell? ⟨w1.heap.size, 0, none⟩ = some (.string S) ∧ Wd.cell? ⟨w1.heap.size, 1, none⟩ = some (.int .i64 n)) := fun w1 hb1 => by
    refine ⟨_, _, rfl, rfl, (Below.on hb1 (below_new _ _)).drew, ?_, ?_⟩
    · exact new_cells2 w1 (.string S) (.int .i64 n) 52 0 (by decide)
    · exact new_cells2 w1 (.string S) (.int .i64 n) 52 1 (by decide)
  have HMb : Hid (∀ X, Below w.heap.size w X → GMi w0 gp gb nb a a2 st X ∧ X.cell? ⟨gb, 1, none⟩ = some (.map (some mb)) ∧ RuIn X mb N (ruTab gp s1 s2)) := fun X hX => ⟨h.below hX, (hX.cell (World.block_lt_of_cell? _ _ r1)).trans r1, r2.below hX⟩
  have HEnd : Hid (∀ X, Below w.heap.size w X → Calls Tryz.prog 66 #[ptrV gb, .iface tv xv, varV xa, varV xb] X (GOutI w0 gp gb nb a a2 X (gTer failT t xa xb st))) := fun X hX => terminals_any (h.below hX) t _ Bt xa xb ht hl hfo
  have HH : Hid (GMi w0 gp gb nb a a2 st w) := h
  have nq := nqR_none
  clear hPh h r1 r2 r3 r4 ht hlf hl hfo ha hb hst hul hca hFO hAR hfk hokn hol hkey hk hru hlk0 eS hpa hpz en hG hcase
  go_enter Tryz.func58, Tryz.ntmps58
  go_wp2_with fail
  refine HFO.mono ?_
  rintro e w1 ⟨rfl, hb1⟩
  obtain ⟨W1, Wd, eW, eD, hbd, d0, d1⟩ := HX.out w1 hb1
  obtain ⟨hMd, m1, hRd⟩ := HMb.out Wd hbd
  have hlkd := hlk Wd hRd
  have HMd : Hid (GMi w0 gp gb nb a a2 st Wd) := hMd
  have HBd : Hid (Below w.heap.size w Wd) := hbd
  have HW : Hid (W1 = w1.alloc (.cells #[.string S, .int .i64 n] 52)) := eW
  have HDe : Hid (W1.drew = Wd) := eD.symm
  clear hb1 HFO eW eD hbd hMd hRd hlk HX HMb
  go_wp2_with fail
  rw [← HW.out]
  refine wp_region_held_drew (S := fun X => X = Wd) (by kernel_rfl) ?_ (fun hHeld => ?_)
  · exact HDe.out
  rw [HDe.out]
  have hSd : Wd = Wd := rfl
  refine hTake (i := 0) (v := ptrV gb) (some 17) (by kernel_rfl) (by kernel_rfl) (by kernel_rfl) (by kernel_rfl) (by kernel_rfl) (fun _ _ _ h => h) (fun o ho W hSw => ?y0) (by assumption) ?_
  case y0 =>
    cases ho
    simp [execOp, go_sem, Act.eval]
  simp only [Act.put, List.setIfInBounds_toArray, List.set_cons_zero, List.set_cons_succ]
  refine hTake (i := 1) (v := ptrV gb) (some 18) (by kernel_rfl) (by kernel_rfl) (by kernel_rfl) (by kernel_rfl) (by kernel_rfl) (fun _ _ _ h => h) (fun o ho W hSw => ?y1) (by assumption) ?_
  case y1 =>
    cases ho
    simp [execOp, go_sem, Act.eval]
  simp only [Act.put, List.setIfInBounds_toArray, List.set_cons_zero, List.set_cons_succ]
  refine hTake (i := 2) (v := .pointer (some ⟨gb, 1, none⟩)) (some 19) (by kernel_rfl) (by kernel_rfl) (by kernel_rfl) (by kernel_rfl) (by kernel_rfl) (fun _ _ _ h => h) (fun o ho W hSw => ?y2) (by assumption) ?_
  case y2 =>
    cases ho
    simp [execOp, go_sem, Act.eval]
  simp only [Act.put, List.setIfInBounds_toArray, List.set_cons_zero, List.set_cons_succ]
  refine hTake (i := 3) (v := .map (some mb)) (some 20) (by kernel_rfl) (by kernel_rfl) (by kernel_rfl) (by kernel_rfl) (by kernel_rfl) (fun _ _ _ h => h) (fun o ho W hSw => ?y3) (by assumption) ?_
  case y3 =>
    cases ho
    rw [hSw]
    simp [execOp, go_sem, Act.eval, m1]
  simp only [Act.put, List.setIfInBounds_toArray, List.set_cons_zero, List.set_cons_succ]
  refine hTake (i := 4) (v := .agg #[.string S, .int .i64 n]) (some 21) (by kernel_rfl) (by kernel_rfl) (by kernel_rfl) (by kernel_rfl) (by kernel_rfl) (fun _ _ _ h => h) (fun o ho W hSw => ?y4) (by assumption) ?_
  case y4 =>
    cases ho
    rw [hSw]
    simp [execOp, go_sem, Act.eval, d0, d1]
  simp only [Act.put, List.setIfInBounds_toArray, List.set_cons_zero, List.set_cons_succ]
  refine hTake (i := 5) (v := .nilFunc) (some 22) (by kernel_rfl) (by kernel_rfl) (by kernel_rfl) (by kernel_rfl) (by kernel_rfl) (fun _ _ _ h => h) (fun o ho W hSw => ?y5) (by assumption) ?_
  case y5 =>
    cases ho
    rw [hSw]
    simp [execOp, go_sem, Act.eval, hlkd]
  simp only [Act.put, List.setIfInBounds_toArray, List.set_cons_zero, List.set_cons_succ]
  refine hTake (i := 6) (v := .nilFunc) (some 11) (by kernel_rfl) (by kernel_rfl) (by kernel_rfl) (by kernel_rfl) (by kernel_rfl) (fun _ _ _ h => h) (fun o ho W hSw => ?y6) (by assumption) ?_
  case y6 =>
    cases ho
    simp [execOp, go_sem, Act.eval]
  simp only [Act.put, List.setIfInBounds_toArray, List.set_cons_zero, List.set_cons_succ]
  refine wpAnyH_done (by kernel_rfl) ?_ _
  change Exit.then _ _ _ _ Wd
  go_wp2_with fail
  refine (HIV _).mono ?_
  rintro e w2 ⟨rfl, hw2⟩
  rw [hw2]
  clear hw2 w2
  go_wp2_with fail
  refine (ofList_any S n Wd).mono ?_
  rintro e w3 ⟨rfl, hb3⟩
  rw [hol0]
  have hb3' := Below.on HBd.out hb3
  have HB3 : Hid (Below w.heap.size w w3) := hb3'
  have HC := HEnd.out w3 hb3'
  clear hb3 hb3' hol0
  go_wp2_with fail
  refine HC.mono ?_
  rintro e w9 h9
  have HG : Hid (GOutI w0 gp gb nb a a2 w (gTer failT t xa xb st) e w9) := h9.from (GFr.of gb nb HB3.out)
  obtain ⟨z, rfl, _⟩ := h9
  clear HC
  go_wp2_with fail
  go_ret
  exact HG.out
set_option maxRecDepth 100000 in
set_option maxHeartbeats 4000000 in
theorem phrI_more {w0 : World} {gp gb nb : Nat} {a a2 : Addr} {f : Nat} (hPh : PhI w0 gp gb nb a a2 f) (t : Tr) (v : Value) (Bt : Nat) (xa xb : Int) (st : GSt) (w : World) (ht : t.fo.ok) (hlf : (itC t).length ≤ f + 1) (hl : (itC t).length ≤ 2000) (hfo : FoIn w0 Bt t.fo [v]) (ha : 0 ≤ xa ∧ xa ≤ 1100000) (hb : 0 ≤ xb ∧ xb ≤ 1100000) (hst : st.1 + (itC t).length ≤ 1100000) (h : GMi w0 gp gb nb a a2 st w) (hcase : (t.1.1 = 2 ∨ t.1.1 = 3) ∧ ¬ (t.1 = nilC ∨ t.1 = dot) ∧ t.1 ≠ cComma ∧ t.1 ≠ cThen ∧ t.1 ≠ cOr ∧ t.1 ≠ cNot ∧ t.1 ≠ cCut ∧ t.1 ≠ cCurly) :
    Calls Tryz.prog 58 #[ptrV gb, v, varV xa, varV xb] w (GOutI w0 gp gb nb a a2 w (gPh failT (f + 1) t xa xb st)) := by
  obtain ⟨mb, N, s1, s2, r1, r2, r3, r4⟩ := h.rul
  obtain ⟨hk, hcase⟩ := hcase
  obtain ⟨pa, ca, us, hul, hca, hFO, hAR, hpa, hpz, hfk⟩ := call_parts ht hk hfo
  have hokn := okN_of ht hk
  have hol := ol_iff ht hk
  have hkey := fun nm k hb => key_iff ht hk nm k hb
  obtain ⟨tv, xv, rfl, HIV⟩ : ∃ tv xv, v = .iface tv xv ∧ ∀ W, Calls Tryz.prog 71 #[.iface tv xv] W fun e w' => e = .returned (.bool false) ∧ w' = W := by
    obtain ⟨v', vr, e, hn, _⟩ := hfo
    obtain ⟨rfl, _⟩ := List.cons.inj e
    rcases hn with ⟨k, _⟩ | ⟨k, _⟩ | ⟨k, h⟩ | ⟨k, b, g, vs, h, _⟩
    · omega
    · omega
    · exact ⟨_, _, h, fun W => nbIsVar_atom _ W⟩
    · exact ⟨_, _, h, fun W => nbIsVar_comp _ W⟩
  obtain ⟨q0, q1, q2, q3, q4, q5, q6⟩ := hcase
  have hru : ruTab gp s1 s2 (strOfNums t.1.2.2, (((trs t.2).length : Nat) : Int)) = none := ruTab_none _ _ _ _ (fun j hj e => ?hj)
  case hj =>
    match j, hj with
    | 0, _ => exact absurd ((hkey [44] 2 (byte_small (by decide))).1 e.symm) q1
    | 1, _ => exact absurd ((hkey [45, 62] 2 (byte_small (by decide))).1 e.symm) q2
    | 2, _ => exact absurd ((hkey [59] 2 (byte_small (by decide))).1 e.symm) q3
    | 3, _ => exact absurd ((hkey [92, 43] 1 (byte_small (by decide))).1 e.symm) q4
    | 4, _ => exact absurd ((hkey [33] 0 (byte_small (by decide))).1 e.symm) q5
    | 5, _ => exact absurd ((hkey [123, 125] 1 (byte_small (by decide))).1 e.symm) q6
  have hol0 : olB (strOfNums t.1.2.2) (trs t.2).length = false := by rw [hol]; exact decide_eq_false q0
  have HFO := hFO w h.bel
  have hlk0 : ∀ X, RuIn X mb N (ruTab gp s1 s2) → (Instr.lookup 88 (.map (some mb)) (.agg #[.string (strOfNums t.1.2.2), .int .i64 (((trs t.2).length : Nat) : Int)]) false).run Tryz.prog X = .ok (.nilFunc) X := fun X hX => by
    have h1 := hX.look (strOfNums t.1.2.2, (((trs t.2).length : Nat) : Int)) hokn
    rw [hru] at h1
    exact h1
  obtain ⟨n, en⟩ : ∃ n : Nat, n = (trs t.2).length := ⟨_, rfl⟩
  rw [← en] at HFO hlk0 hol0
  obtain ⟨S, eS⟩ : ∃ S, S = strOfNums t.1.2.2 := ⟨_, rfl⟩
  rw [← eS] at HFO hlk0 hol0
  have hlk := hlk0
  have hG : gPh failT (f + 1) t xa xb st = (gMore failT t xa xb st) := by
    rw [gPh, if_neg (by omega), if_neg (by omega), if_neg (fun e => e.elim q1 q2), if_neg q3, if_neg q4, if_neg q5, if_neg q6, if_neg q0]
  rw [hG]
  have HX : Hid (∀ w1, Below w.heap.size w w1 → ∃ W1 Wd, W1 = w1.alloc (.cells #[.string S, .int .i64 n] 52) ∧ Wd = W1.drew ∧ Below w.heap.size w Wd ∧ Wd.cell? ⟨w1.heap.size, 0, none⟩ = some (.string S) ∧ Wd.cell? ⟨w1.heap.size, 1, none⟩ = some (.int .i64 n)) := fun w1 hb1 => by
    refine ⟨_, _, rfl, rfl, (Below.on hb1 (below_new _ _)).drew, ?_, ?_⟩
    · exact new_cells2 w1 (.string S) (.int .i64 n) 52 0 (by decide)
    · exact new_cells2 w1 (.string S) (.int .i64 n) 52 1 (by decide)
  have HMb : Hid (∀ X, Below w.heap.size w X → GMi w0 gp gb nb a a2 st X ∧ X.cell? ⟨gb, 1, none⟩ = some (.map (some mb)) ∧ RuIn X mb N (ruTab gp s1 s2)) := fun X hX => ⟨h.below hX, (hX.cell (World.block_lt_of_cell? _ _ r1)).trans r1, r2.below hX⟩
  have HEnd : Hid (∀ X, Below w.heap.size w X → Calls Tryz.prog 74 #[ptrV gb, .iface tv xv, varV xa, varV xb] X (GOutI w0 gp gb nb a a2 X (gMore failT t xa xb st))) := fun X hX => nonterm_any (h.below hX) t _ Bt xa xb ht hk hfo
  have HH : Hid (GMi w0 gp gb nb a a2 st w) := h
  have nq := nqR_none
  clear hPh h r1 r2 r3 r4 ht hlf hl hfo ha hb hst hul hca hFO hAR hfk hokn hol hkey hk hru hlk0 eS hpa hpz en hG q0 q1 q2 q3 q4 q5 q6
  go_enter Tryz.func58, Tryz.ntmps58
  go_wp2_with fail
  refine HFO.mono ?_
  rintro e w1 ⟨rfl, hb1⟩
  obtain ⟨W1, Wd, eW, eD, hbd, d0, d1⟩ := HX.out w1 hb1
  obtain ⟨hMd, m1, hRd⟩ := HMb.out Wd hbd
  have hlkd := hlk Wd hRd
  have HMd : Hid (GMi w0 gp gb nb a a2 st Wd) := hMd
  have HBd : Hid (Below w.heap.size w Wd) := hbd
  have HW : Hid (W1 = w1.alloc (.cells #[.string S, .int .i64 n] 52)) := eW
  have HDe : Hid (W1.drew = Wd) := eD.symm
  clear hb1 HFO eW eD hbd hMd hRd hlk HX HMb
  go_wp2_with fail
  rw [← HW.out]
  refine wp_region_held_drew (S := fun X => X = Wd) (by kernel_rfl) ?_ (fun hHeld => ?_)
  · exact HDe.out
  rw [HDe.out]
  have hSd : Wd = Wd := rfl
  refine hTake (i := 0) (v := ptrV gb) (some 17) (by kernel_rfl) (by kernel_rfl) (by kernel_rfl) (by kernel_rfl) (by kernel_rfl) (fun _ _ _ h => h) (fun o ho W hSw => ?y0) (by assumption) ?_
  case y0 =>
    cases ho
    simp [execOp, go_sem, Act.eval]
  simp only [Act.put, List.setIfInBounds_toArray, List.set_cons_zero, List.set_cons_succ]
  refine hTake (i := 1) (v := ptrV gb) (some 18) (by kernel_rfl) (by kernel_rfl) (by kernel_rfl) (by kernel_rfl) (by kernel_rfl) (fun _ _ _ h => h) (fun o ho W hSw => ?y1) (by assumption) ?_
  case y1 =>
    cases ho
    simp [execOp, go_sem, Act.eval]
  simp only [Act.put, List.setIfInBounds_toArray, List.set_cons_zero, List.set_cons_succ]
  refine hTake (i := 2) (v := .pointer (some ⟨gb, 1, none⟩)) (some 19) (by kernel_rfl) (by kernel_rfl) (by kernel_rfl) (by kernel_rfl) (by kernel_rfl) (fun _ _ _ h => h) (fun o ho W hSw => ?y2) (by assumption) ?_
  case y2 =>
    cases ho
    simp [execOp, go_sem, Act.eval]
  simp only [Act.put, List.setIfInBounds_toArray, List.set_cons_zero, List.set_cons_succ]
  refine hTake (i := 3) (v := .map (some mb)) (some 20) (by kernel_rfl) (by kernel_rfl) (by kernel_rfl) (by kernel_rfl) (by kernel_rfl) (fun _ _ _ h => h) (fun o ho W hSw => ?y3) (by assumption) ?_
  case y3 =>
    cases ho
    rw [hSw]
    simp [execOp, go_sem, Act.eval, m1]
  simp only [Act.put, List.setIfInBounds_toArray, List.set_cons_zero, List.set_cons_succ]
  refine hTake (i := 4) (v := .agg #[.string S, .int .i64 n]) (some 21) (by kernel_rfl) (by kernel_rfl) (by kernel_rfl) (by kernel_rfl) (by kernel_rfl) (fun _ _ _ h => h) (fun o ho W hSw => ?y4) (by assumption) ?_
  case y4 =>
    cases ho
    rw [hSw]
    simp [execOp, go_sem, Act.eval, d0, d1]
  simp only [Act.put, List.setIfInBounds_toArray, List.set_cons_zero, List.set_cons_succ]
  refine hTake (i := 5) (v := .nilFunc) (some 22) (by kernel_rfl) (by kernel_rfl) (by kernel_rfl) (by kernel_rfl) (by kernel_rfl) (fun _ _ _ h => h) (fun o ho W hSw => ?y5) (by assumption) ?_
  case y5 =>
    cases ho
    rw [hSw]
    simp [execOp, go_sem, Act.eval, hlkd]
  simp only [Act.put, List.setIfInBounds_toArray, List.set_cons_zero, List.set_cons_succ]
  refine hTake (i := 6) (v := .nilFunc) (some 11) (by kernel_rfl) (by kernel_rfl) (by kernel_rfl) (by kernel_rfl) (by kernel_rfl) (fun _ _ _ h => h) (fun o ho W hSw => ?y6) (by assumption) ?_
  case y6 =>
    cases ho
    simp [execOp, go_sem, Act.eval]
  simp only [Act.put, List.setIfInBounds_toArray, List.set_cons_zero, List.set_cons_succ]
  refine wpAnyH_done (by kernel_rfl) ?_ _
  change Exit.then _ _ _ _ Wd
  go_wp2_with fail
  refine (HIV _).mono ?_
  rintro e w2 ⟨rfl, hw2⟩
  rw [hw2]
  clear hw2 w2
  go_wp2_with fail
  refine (ofList_any S n Wd).mono ?_
  rintro e w3 ⟨rfl, hb3⟩
  rw [hol0]
  have hb3' := Below.on HBd.out hb3
  have HB3 : Hid (Below w.heap.size w w3) := hb3'
  have HC := HEnd.out w3 hb3'
  clear hb3 hb3' hol0
  go_wp2_with fail
  refine HC.mono ?_
  rintro e w9 h9
  have HG : Hid (GOutI w0 gp gb nb a a2 w (gMore failT t xa xb st) e w9) := h9.from (GFr.of gb nb HB3.out)
  obtain ⟨z, rfl, _⟩ := h9
  clear HC
  go_wp2_with fail
  go_ret
  exact HG.out
set_option maxRecDepth 100000 in
set_option maxHeartbeats 4000000 in
theorem phrI_comma {w0 : World} {gp gb nb : Nat} {a a2 : Addr} {f : Nat} (hPh : PhI w0 gp gb nb a a2 f) (t : Tr) (v : Value) (Bt : Nat) (xa xb : Int) (st : GSt) (w : World) (ht : t.fo.ok) (hlf : (itC t).length ≤ f + 1) (hl : (itC t).length ≤ 2000) (hfo : FoIn w0 Bt t.fo [v]) (ha : 0 ≤ xa ∧ xa ≤ 1100000) (hb : 0 ≤ xb ∧ xb ≤ 1100000) (hst : st.1 + (itC t).length ≤ 1100000) (h : GMi w0 gp gb nb a a2 st w) (hcase : t.1 = cComma) :
    Calls Tryz.prog 58 #[ptrV gb, v, varV xa, varV xb] w (GOutI w0 gp gb nb a a2 w (gPh failT (f + 1) t xa xb st)) := by
  obtain ⟨mb, N, s1, s2, r1, r2, r3, r4⟩ := h.rul
  have hk : t.1.1 = 2 ∨ t.1.1 = 3 := by rw [hcase]; decide
  obtain ⟨pa, ca, us, hul, hca, hFO, hAR, hpa, hpz, hfk⟩ := call_parts ht hk hfo
  have hokn := okN_of ht hk
  have hol := ol_iff ht hk
  have hkey := fun nm k hb => key_iff ht hk nm k hb
  obtain ⟨tv, xv, rfl, HIV⟩ : ∃ tv xv, v = .iface tv xv ∧ ∀ W, Calls Tryz.prog 71 #[.iface tv xv] W fun e w' => e = .returned (.bool false) ∧ w' = W := by
    obtain ⟨v', vr, e, hn, _⟩ := hfo
    obtain ⟨rfl, _⟩ := List.cons.inj e
    rcases hn with ⟨k, _⟩ | ⟨k, _⟩ | ⟨k, h⟩ | ⟨k, b, g, vs, h, _⟩
    · omega
    · omega
    · exact ⟨_, _, h, fun W => nbIsVar_atom _ W⟩
    · exact ⟨_, _, h, fun W => nbIsVar_comp _ W⟩
  have hfk2 : ((strOfNums t.1.2.2, (((trs t.2).length : Nat) : Int)) : Fun) = gKey 0 := (hkey [44] 2 (byte_small (by decide))).2 hcase
  have hlen : (trs t.2).length = 2 := by have := congrArg Prod.snd hfk2; simp only [gKey] at this; omega
  have hru : ruTab gp s1 s2 (strOfNums t.1.2.2, (((trs t.2).length : Nat) : Int)) = some (gVal gp s1 s2 0) := by rw [hfk2]; exact ruTab_key gp s1 s2 0 (by decide)
  have hol0 : olB (strOfNums t.1.2.2) (trs t.2).length = false := by rw [hol, hcase]; decide
  have HFO := hFO w h.bel
  have hlk0 : ∀ X, RuIn X mb N (ruTab gp s1 s2) → (Instr.lookup 88 (.map (some mb)) (.agg #[.string (strOfNums t.1.2.2), .int .i64 (((trs t.2).length : Nat) : Int)]) false).run Tryz.prog X = .ok (.func (.func 56) #[] #[ptrV gp, ptrV s1]) X := fun X hX => by
    have h1 := hX.look (strOfNums t.1.2.2, (((trs t.2).length : Nat) : Int)) hokn
    rw [hru] at h1
    exact h1
  rw [hlen] at HFO hlk0 hol0
  rw [show ((2 : Nat) : Int) = (2 : Int) from rfl] at HFO hlk0 hol0
  obtain ⟨S, eS⟩ : ∃ S, S = strOfNums t.1.2.2 := ⟨_, rfl⟩
  rw [← eS] at HFO hlk0 hol0
  have hlk := hlk0
  have hG : gPh failT (f + 1) t xa xb st = (cmpT [44] [(gPh failT f (kidG t 0) xa st.1 (st.1 + 1, st.2)).1, (gPh failT f (kidG t 1) st.1 xb (gPh failT f (kidG t 0) xa st.1 (st.1 + 1, st.2)).2).1], (gPh failT f (kidG t 1) st.1 xb (gPh failT f (kidG t 0) xa st.1 (st.1 + 1, st.2)).2).2) := by
    rw [gPh, if_neg (by rw [hcase]; decide), if_neg (by rw [hcase]; decide), if_pos (.inl hcase)]
    rw [show t.1.2.2 = [44] from by rw [hcase]]
  rw [hG]
  have HX : Hid (∀ w1, Below w.heap.size w w1 → ∃ W1 Wd, W1 = w1.alloc (.cells #[.string S, .int .i64 2] 52) ∧ Wd = W1.drew ∧ Below w.heap.size w Wd ∧ Wd.cell? ⟨w1.heap.size, 0, none⟩ = some (.string S) ∧ Wd.cell? ⟨w1.heap.size, 1, none⟩ = some (.int .i64 2)) := fun w1 hb1 => by
    refine ⟨_, _, rfl, rfl, (Below.on hb1 (below_new _ _)).drew, ?_, ?_⟩
    · exact new_cells2 w1 (.string S) (.int .i64 2) 52 0 (by decide)
    · exact new_cells2 w1 (.string S) (.int .i64 2) 52 1 (by decide)
  have HMb : Hid (∀ X, Below w.heap.size w X → GMi w0 gp gb nb a a2 st X ∧ X.cell? ⟨gb, 1, none⟩ = some (.map (some mb)) ∧ RuIn X mb N (ruTab gp s1 s2)) := fun X hX => ⟨h.below hX, (hX.cell (World.block_lt_of_cell? _ _ r1)).trans r1, r2.below hX⟩
  obtain ⟨g, rfl, hgc⟩ := hpa (by rw [hlen]; decide)
  obtain rfl : ca = 2 := hca.trans hlen
  have k0 := kid_at hfk 0 (by rw [hlen]; decide)
  obtain ⟨y0, u0, ey0⟩ := FoIn.iface k0
  rw [ey0] at k0
  have g0 := hgc 0 (by rw [hlen]; decide)
  rw [ey0] at g0
  have hcnt : t.2.count = 2 := by rw [← trs_len, hlen]
  have kk0 := kid_ok ht (i := 0) (by rw [hcnt]; decide)
  have k1 := kid_at hfk 1 (by rw [hlen]; decide)
  obtain ⟨y1, u1, ey1⟩ := FoIn.iface k1
  rw [ey1] at k1
  have g1 := hgc 1 (by rw [hlen]; decide)
  rw [ey1] at g1
  have kk1 := kid_ok ht (i := 1) (by rw [hcnt]; decide)
  have hsum : (itC t).length = (itC (kidG t 0)).length + (itC (kidG t 1)).length + 1 := by
    have h1 := kids_cells t
    rw [two_kid hcnt] at h1
    show (t.1 :: t.2.cells).length = _
    rw [h1]
    simp
  have HEnd : Hid (∀ X, Below w.heap.size w X → Calls Tryz.prog 56 #[.slice (some ⟨g, 0, none⟩) 2 2, varV xa, varV xb, ptrV gp, ptrV s1] X (GOutI w0 gp gb nb a a2 X (cmpT [44] [(gPh failT f (kidG t 0) xa st.1 (st.1 + 1, st.2)).1, (gPh failT f (kidG t 1) st.1 xb (gPh failT f (kidG t 0) xa st.1 (st.1 + 1, st.2)).2).1], (gPh failT f (kidG t 1) st.1 xb (gPh failT f (kidG t 0) xa st.1 (st.1 + 1, st.2)).2).2))) := fun X hX => by
    have hc : ∀ p v, w0.cell? p = some v → X.cell? p = some v := fun p v hp => ((Below.on h.bel hX).cell (World.block_lt_of_cell? _ _ hp)).trans hp
    exact ruleSeq_any hPh (h.below hX) [44] _ rfl s1 g Bt (kidG t 0) (kidG t 1) y0 y1 u0 u1 xa xb kk0.1 kk1.1 (by omega) (by omega) (by omega) k0 k1 ha hb (by omega) ⟨fun _ => (hX.cell (World.block_lt_of_cell? _ _ r3)).trans r3, (h.below hX).p0, hc _ _ g0, hc _ _ g1⟩
  have HAR : Hid (∀ X, Below w.heap.size w X → Calls Tryz.prog 25 #[.iface tv xv] X fun e w' => e = .returned (.slice (some ⟨g, 0, none⟩) 2 2) ∧ w' = X) := fun X hX => by
    have := hAR X (Below.on h.bel hX)
    rw [hlen] at this
    exact this
  have nq := nqR_some 56
  have HH : Hid (GMi w0 gp gb nb a a2 st w) := h
  clear hPh h r1 r2 r3 r4 ht hlf hl hfo ha hb hst g0 k0 kk0 hcnt ey0 hgc hpz g1 k1 kk1 ey1 hsum hul hca hFO hAR hfk hokn hol hkey hk hru hlk0 eS hfk2 hlen hcase hG
  go_enter Tryz.func58, Tryz.ntmps58
  go_wp2_with fail
  refine HFO.mono ?_
  rintro e w1 ⟨rfl, hb1⟩
  obtain ⟨W1, Wd, eW, eD, hbd, d0, d1⟩ := HX.out w1 hb1
  obtain ⟨hMd, m1, hRd⟩ := HMb.out Wd hbd
  have hlkd := hlk Wd hRd
  have HMd : Hid (GMi w0 gp gb nb a a2 st Wd) := hMd
  have HBd : Hid (Below w.heap.size w Wd) := hbd
  have HW : Hid (W1 = w1.alloc (.cells #[.string S, .int .i64 2] 52)) := eW
  have HDe : Hid (W1.drew = Wd) := eD.symm
  clear hb1 HFO eW eD hbd hMd hRd hlk HX HMb
  go_wp2_with fail
  rw [← HW.out]
  refine wp_region_held_drew (S := fun X => X = Wd) (by kernel_rfl) ?_ (fun hHeld => ?_)
  · exact HDe.out
  rw [HDe.out]
  have hSd : Wd = Wd := rfl
  refine hTake (i := 0) (v := ptrV gb) (some 17) (by kernel_rfl) (by kernel_rfl) (by kernel_rfl) (by kernel_rfl) (by kernel_rfl) (fun _ _ _ h => h) (fun o ho W hSw => ?y0) (by assumption) ?_
  case y0 =>
    cases ho
    simp [execOp, go_sem, Act.eval]
  simp only [Act.put, List.setIfInBounds_toArray, List.set_cons_zero, List.set_cons_succ]
  refine hTake (i := 1) (v := ptrV gb) (some 18) (by kernel_rfl) (by kernel_rfl) (by kernel_rfl) (by kernel_rfl) (by kernel_rfl) (fun _ _ _ h => h) (fun o ho W hSw => ?y1) (by assumption) ?_
  case y1 =>
    cases ho
    simp [execOp, go_sem, Act.eval]
  simp only [Act.put, List.setIfInBounds_toArray, List.set_cons_zero, List.set_cons_succ]
  refine hTake (i := 2) (v := .pointer (some ⟨gb, 1, none⟩)) (some 19) (by kernel_rfl) (by kernel_rfl) (by kernel_rfl) (by kernel_rfl) (by kernel_rfl) (fun _ _ _ h => h) (fun o ho W hSw => ?y2) (by assumption) ?_
  case y2 =>
    cases ho
    simp [execOp, go_sem, Act.eval]
  simp only [Act.put, List.setIfInBounds_toArray, List.set_cons_zero, List.set_cons_succ]
  refine hTake (i := 3) (v := .map (some mb)) (some 20) (by kernel_rfl) (by kernel_rfl) (by kernel_rfl) (by kernel_rfl) (by kernel_rfl) (fun _ _ _ h => h) (fun o ho W hSw => ?y3) (by assumption) ?_
  case y3 =>
    cases ho
    rw [hSw]
    simp [execOp, go_sem, Act.eval, m1]
  simp only [Act.put, List.setIfInBounds_toArray, List.set_cons_zero, List.set_cons_succ]
  refine hTake (i := 4) (v := .agg #[.string S, .int .i64 2]) (some 21) (by kernel_rfl) (by kernel_rfl) (by kernel_rfl) (by kernel_rfl) (by kernel_rfl) (fun _ _ _ h => h) (fun o ho W hSw => ?y4) (by assumption) ?_
  case y4 =>
    cases ho
    rw [hSw]
    simp [execOp, go_sem, Act.eval, d0, d1]
  simp only [Act.put, List.setIfInBounds_toArray, List.set_cons_zero, List.set_cons_succ]
  refine hTake (i := 5) (v := .func (.func 56) #[] #[ptrV gp, ptrV s1]) (some 22) (by kernel_rfl) (by kernel_rfl) (by kernel_rfl) (by kernel_rfl) (by kernel_rfl) (fun _ _ _ h => h) (fun o ho W hSw => ?y5) (by assumption) ?_
  case y5 =>
    cases ho
    rw [hSw]
    simp [execOp, go_sem, Act.eval, hlkd]
  simp only [Act.put, List.setIfInBounds_toArray, List.set_cons_zero, List.set_cons_succ]
  refine hTake (i := 6) (v := .func (.func 56) #[] #[ptrV gp, ptrV s1]) (some 11) (by kernel_rfl) (by kernel_rfl) (by kernel_rfl) (by kernel_rfl) (by kernel_rfl) (fun _ _ _ h => h) (fun o ho W hSw => ?y6) (by assumption) ?_
  case y6 =>
    cases ho
    simp [execOp, go_sem, Act.eval]
  simp only [Act.put, List.setIfInBounds_toArray, List.set_cons_zero, List.set_cons_succ]
  refine wpAnyH_done (by kernel_rfl) ?_ _
  change Exit.then _ _ _ _ Wd
  go_wp2_with fail
  refine (HIV _).mono ?_
  rintro e w2 ⟨rfl, hw2⟩
  rw [hw2]
  clear hw2 w2
  go_wp2_with fail
  refine (ofList_any S 2 Wd).mono ?_
  rintro e w3 ⟨rfl, hb3⟩
  rw [hol0]
  have hb3' := Below.on HBd.out hb3
  have HB3 : Hid (Below w.heap.size w w3) := hb3'
  have HC := HEnd.out w3 hb3'
  have HA := HAR.out w3 hb3'
  clear hb3 hb3' hol0
  go_wp2_with fail
  refine HA.mono ?_
  rintro e w4 ⟨rfl, hw4⟩
  rw [hw4]
  clear hw4 w4
  go_wp2_with fail
  refine HC.mono ?_
  rintro e w9 h9
  have HG : Hid (GOutI w0 gp gb nb a a2 w (cmpT [44] [(gPh failT f (kidG t 0) xa st.1 (st.1 + 1, st.2)).1, (gPh failT f (kidG t 1) st.1 xb (gPh failT f (kidG t 0) xa st.1 (st.1 + 1, st.2)).2).1], (gPh failT f (kidG t 1) st.1 xb (gPh failT f (kidG t 0) xa st.1 (st.1 + 1, st.2)).2).2) e w9) := h9.from (GFr.of gb nb HB3.out)
  obtain ⟨z, rfl, _⟩ := h9
  clear HC
  go_wp2_with fail
  go_ret
  exact HG.out
set_option maxRecDepth 100000 in
set_option maxHeartbeats 4000000 in
theorem phrI_then {w0 : World} {gp gb nb : Nat} {a a2 : Addr} {f : Nat} (hPh : PhI w0 gp gb nb a a2 f) (t : Tr) (v : Value) (Bt : Nat) (xa xb : Int) (st : GSt) (w : World) (ht : t.fo.ok) (hlf : (itC t).length ≤ f + 1) (hl : (itC t).length ≤ 2000) (hfo : FoIn w0 Bt t.fo [v]) (ha : 0 ≤ xa ∧ xa ≤ 1100000) (hb : 0 ≤ xb ∧ xb ≤ 1100000) (hst : st.1 + (itC t).length ≤ 1100000) (h : GMi w0 gp gb nb a a2 st w) (hcase : t.1 = cThen) :
    Calls Tryz.prog 58 #[ptrV gb, v, varV xa, varV xb] w (GOutI w0 gp gb nb a a2 w (gPh failT (f + 1) t xa xb st)) := by
  obtain ⟨mb, N, s1, s2, r1, r2, r3, r4⟩ := h.rul
  have hk : t.1.1 = 2 ∨ t.1.1 = 3 := by rw [hcase]; decide
  obtain ⟨pa, ca, us, hul, hca, hFO, hAR, hpa, hpz, hfk⟩ := call_parts ht hk hfo
  have hokn := okN_of ht hk
  have hol := ol_iff ht hk
  have hkey := fun nm k hb => key_iff ht hk nm k hb
  obtain ⟨tv, xv, rfl, HIV⟩ : ∃ tv xv, v = .iface tv xv ∧ ∀ W, Calls Tryz.prog 71 #[.iface tv xv] W fun e w' => e = .returned (.bool false) ∧ w' = W := by
    obtain ⟨v', vr, e, hn, _⟩ := hfo
    obtain ⟨rfl, _⟩ := List.cons.inj e
    rcases hn with ⟨k, _⟩ | ⟨k, _⟩ | ⟨k, h⟩ | ⟨k, b, g, vs, h, _⟩
    · omega
    · omega
    · exact ⟨_, _, h, fun W => nbIsVar_atom _ W⟩
    · exact ⟨_, _, h, fun W => nbIsVar_comp _ W⟩
  have hfk2 : ((strOfNums t.1.2.2, (((trs t.2).length : Nat) : Int)) : Fun) = gKey 1 := (hkey [45, 62] 2 (byte_small (by decide))).2 hcase
  have hlen : (trs t.2).length = 2 := by have := congrArg Prod.snd hfk2; simp only [gKey] at this; omega
  have hru : ruTab gp s1 s2 (strOfNums t.1.2.2, (((trs t.2).length : Nat) : Int)) = some (gVal gp s1 s2 1) := by rw [hfk2]; exact ruTab_key gp s1 s2 1 (by decide)
  have hol0 : olB (strOfNums t.1.2.2) (trs t.2).length = false := by rw [hol, hcase]; decide
  have HFO := hFO w h.bel
  have hlk0 : ∀ X, RuIn X mb N (ruTab gp s1 s2) → (Instr.lookup 88 (.map (some mb)) (.agg #[.string (strOfNums t.1.2.2), .int .i64 (((trs t.2).length : Nat) : Int)]) false).run Tryz.prog X = .ok (.func (.func 56) #[] #[ptrV gp, ptrV s2]) X := fun X hX => by
    have h1 := hX.look (strOfNums t.1.2.2, (((trs t.2).length : Nat) : Int)) hokn
    rw [hru] at h1
    exact h1
  rw [hlen] at HFO hlk0 hol0
  rw [show ((2 : Nat) : Int) = (2 : Int) from rfl] at HFO hlk0 hol0
  obtain ⟨S, eS⟩ : ∃ S, S = strOfNums t.1.2.2 := ⟨_, rfl⟩
  rw [← eS] at HFO hlk0 hol0
  have hlk := hlk0
  have hG : gPh failT (f + 1) t xa xb st = (cmpT [45, 62] [(gPh failT f (kidG t 0) xa st.1 (st.1 + 1, st.2)).1, (gPh failT f (kidG t 1) st.1 xb (gPh failT f (kidG t 0) xa st.1 (st.1 + 1, st.2)).2).1], (gPh failT f (kidG t 1) st.1 xb (gPh failT f (kidG t 0) xa st.1 (st.1 + 1, st.2)).2).2) := by
    rw [gPh, if_neg (by rw [hcase]; decide), if_neg (by rw [hcase]; decide), if_pos (.inr hcase)]
    rw [show t.1.2.2 = [45, 62] from by rw [hcase]]
  rw [hG]
  have HX : Hid (∀ w1, Below w.heap.size w w1 → ∃ W1 Wd, W1 = w1.alloc (.cells #[.string S, .int .i64 2] 52) ∧ Wd = W1.drew ∧ Below w.heap.size w Wd ∧ Wd.cell? ⟨w1.heap.size, 0, none⟩ = some (.string S) ∧ Wd.cell? ⟨w1.heap.size, 1, none⟩ = some (.int .i64 2)) := fun w1 hb1 => by
    refine ⟨_, _, rfl, rfl, (Below.on hb1 (below_new _ _)).drew, ?_, ?_⟩
    · exact new_cells2 w1 (.string S) (.int .i64 2) 52 0 (by decide)
    · exact new_cells2 w1 (.string S) (.int .i64 2) 52 1 (by decide)
  have HMb : Hid (∀ X, Below w.heap.size w X → GMi w0 gp gb nb a a2 st X ∧ X.cell? ⟨gb, 1, none⟩ = some (.map (some mb)) ∧ RuIn X mb N (ruTab gp s1 s2)) := fun X hX => ⟨h.below hX, (hX.cell (World.block_lt_of_cell? _ _ r1)).trans r1, r2.below hX⟩
  obtain ⟨g, rfl, hgc⟩ := hpa (by rw [hlen]; decide)
  obtain rfl : ca = 2 := hca.trans hlen
  have k0 := kid_at hfk 0 (by rw [hlen]; decide)
  obtain ⟨y0, u0, ey0⟩ := FoIn.iface k0
  rw [ey0] at k0
  have g0 := hgc 0 (by rw [hlen]; decide)
  rw [ey0] at g0
  have hcnt : t.2.count = 2 := by rw [← trs_len, hlen]
  have kk0 := kid_ok ht (i := 0) (by rw [hcnt]; decide)
  have k1 := kid_at hfk 1 (by rw [hlen]; decide)
  obtain ⟨y1, u1, ey1⟩ := FoIn.iface k1
  rw [ey1] at k1
  have g1 := hgc 1 (by rw [hlen]; decide)
  rw [ey1] at g1
  have kk1 := kid_ok ht (i := 1) (by rw [hcnt]; decide)
  have hsum : (itC t).length = (itC (kidG t 0)).length + (itC (kidG t 1)).length + 1 := by
    have h1 := kids_cells t
    rw [two_kid hcnt] at h1
    show (t.1 :: t.2.cells).length = _
    rw [h1]
    simp
  have HEnd : Hid (∀ X, Below w.heap.size w X → Calls Tryz.prog 56 #[.slice (some ⟨g, 0, none⟩) 2 2, varV xa, varV xb, ptrV gp, ptrV s2] X (GOutI w0 gp gb nb a a2 X (cmpT [45, 62] [(gPh failT f (kidG t 0) xa st.1 (st.1 + 1, st.2)).1, (gPh failT f (kidG t 1) st.1 xb (gPh failT f (kidG t 0) xa st.1 (st.1 + 1, st.2)).2).1], (gPh failT f (kidG t 1) st.1 xb (gPh failT f (kidG t 0) xa st.1 (st.1 + 1, st.2)).2).2))) := fun X hX => by
    have hc : ∀ p v, w0.cell? p = some v → X.cell? p = some v := fun p v hp => ((Below.on h.bel hX).cell (World.block_lt_of_cell? _ _ hp)).trans hp
    exact ruleSeq_any hPh (h.below hX) [45, 62] _ rfl s2 g Bt (kidG t 0) (kidG t 1) y0 y1 u0 u1 xa xb kk0.1 kk1.1 (by omega) (by omega) (by omega) k0 k1 ha hb (by omega) ⟨fun _ => (hX.cell (World.block_lt_of_cell? _ _ r4)).trans r4, (h.below hX).p0, hc _ _ g0, hc _ _ g1⟩
  have HAR : Hid (∀ X, Below w.heap.size w X → Calls Tryz.prog 25 #[.iface tv xv] X fun e w' => e = .returned (.slice (some ⟨g, 0, none⟩) 2 2) ∧ w' = X) := fun X hX => by
    have := hAR X (Below.on h.bel hX)
    rw [hlen] at this
    exact this
  have nq := nqR_some 56
  have HH : Hid (GMi w0 gp gb nb a a2 st w) := h
  clear hPh h r1 r2 r3 r4 ht hlf hl hfo ha hb hst g0 k0 kk0 hcnt ey0 hgc hpz g1 k1 kk1 ey1 hsum hul hca hFO hAR hfk hokn hol hkey hk hru hlk0 eS hfk2 hlen hcase hG
  go_enter Tryz.func58, Tryz.ntmps58
  go_wp2_with fail
  refine HFO.mono ?_
  rintro e w1 ⟨rfl, hb1⟩
  obtain ⟨W1, Wd, eW, eD, hbd, d0, d1⟩ := HX.out w1 hb1
  obtain ⟨hMd, m1, hRd⟩ := HMb.out Wd hbd
  have hlkd := hlk Wd hRd
  have HMd : Hid (GMi w0 gp gb nb a a2 st Wd) := hMd
  have HBd : Hid (Below w.heap.size w Wd) := hbd
  have HW : Hid (W1 = w1.alloc (.cells #[.string S, .int .i64 2] 52)) := eW
  have HDe : Hid (W1.drew = Wd) := eD.symm
  clear hb1 HFO eW eD hbd hMd hRd hlk HX HMb
  go_wp2_with fail
  rw [← HW.out]
  refine wp_region_held_drew (S := fun X => X = Wd) (by kernel_rfl) ?_ (fun hHeld => ?_)
  · exact HDe.out
  rw [HDe.out]
  have hSd : Wd = Wd := rfl
  refine hTake (i := 0) (v := ptrV gb) (some 17) (by kernel_rfl) (by kernel_rfl) (by kernel_rfl) (by kernel_rfl) (by kernel_rfl) (fun _ _ _ h => h) (fun o ho W hSw => ?y0) (by assumption) ?_
  case y0 =>
    cases ho
    simp [execOp, go_sem, Act.eval]
  simp only [Act.put, List.setIfInBounds_toArray, List.set_cons_zero, List.set_cons_succ]
  refine hTake (i := 1) (v := ptrV gb) (some 18) (by kernel_rfl) (by kernel_rfl) (by kernel_rfl) (by kernel_rfl) (by kernel_rfl) (fun _ _ _ h => h) (fun o ho W hSw => ?y1) (by assumption) ?_
  case y1 =>
    cases ho
    simp [execOp, go_sem, Act.eval]
  simp only [Act.put, List.setIfInBounds_toArray, List.set_cons_zero, List.set_cons_succ]
  refine hTake (i := 2) (v := .pointer (some ⟨gb, 1, none⟩)) (some 19) (by kernel_rfl) (by kernel_rfl) (by kernel_rfl) (by kernel_rfl) (by kernel_rfl) (fun _ _ _ h => h) (fun o ho W hSw => ?y2) (by assumption) ?_
  case y2 =>
    cases ho
    simp [execOp, go_sem, Act.eval]
  simp only [Act.put, List.setIfInBounds_toArray, List.set_cons_zero, List.set_cons_succ]
  refine hTake (i := 3) (v := .map (some mb)) (some 20) (by kernel_rfl) (by kernel_rfl) (by kernel_rfl) (by kernel_rfl) (by kernel_rfl) (fun _ _ _ h => h) (fun o ho W hSw => ?y3) (by assumption) ?_
  case y3 =>
    cases ho
    rw [hSw]
    simp [execOp, go_sem, Act.eval, m1]
  simp only [Act.put, List.setIfInBounds_toArray, List.set_cons_zero, List.set_cons_succ]
  refine hTake (i := 4) (v := .agg #[.string S, .int .i64 2]) (some 21) (by kernel_rfl) (by kernel_rfl) (by kernel_rfl) (by kernel_rfl) (by kernel_rfl) (fun _ _ _ h => h) (fun o ho W hSw => ?y4) (by assumption) ?_
  case y4 =>
    cases ho
    rw [hSw]
    simp [execOp, go_sem, Act.eval, d0, d1]
  simp only [Act.put, List.setIfInBounds_toArray, List.set_cons_zero, List.set_cons_succ]
  refine hTake (i := 5) (v := .func (.func 56) #[] #[ptrV gp, ptrV s2]) (some 22) (by kernel_rfl) (by kernel_rfl) (by kernel_rfl) (by kernel_rfl) (by kernel_rfl) (fun _ _ _ h => h) (fun o ho W hSw => ?y5) (by assumption) ?_
  case y5 =>
    cases ho
    rw [hSw]
    simp [execOp, go_sem, Act.eval, hlkd]
  simp only [Act.put, List.setIfInBounds_toArray, List.set_cons_zero, List.set_cons_succ]
  refine hTake (i := 6) (v := .func (.func 56) #[] #[ptrV gp, ptrV s2]) (some 11) (by kernel_rfl) (by kernel_rfl) (by kernel_rfl) (by kernel_rfl) (by kernel_rfl) (fun _ _ _ h => h) (fun o ho W hSw => ?y6) (by assumption) ?_
  case y6 =>
    cases ho
    simp [execOp, go_sem, Act.eval]
  simp only [Act.put, List.setIfInBounds_toArray, List.set_cons_zero, List.set_cons_succ]
  refine wpAnyH_done (by kernel_rfl) ?_ _
  change Exit.then _ _ _ _ Wd
  go_wp2_with fail
  refine (HIV _).mono ?_
  rintro e w2 ⟨rfl, hw2⟩
  rw [hw2]
  clear hw2 w2
  go_wp2_with fail
  refine (ofList_any S 2 Wd).mono ?_
  rintro e w3 ⟨rfl, hb3⟩
  rw [hol0]
  have hb3' := Below.on HBd.out hb3
  have HB3 : Hid (Below w.heap.size w w3) := hb3'
  have HC := HEnd.out w3 hb3'
  have HA := HAR.out w3 hb3'
  clear hb3 hb3' hol0
  go_wp2_with fail
  refine HA.mono ?_
  rintro e w4 ⟨rfl, hw4⟩
  rw [hw4]
  clear hw4 w4
  go_wp2_with fail
  refine HC.mono ?_
  rintro e w9 h9
  have HG : Hid (GOutI w0 gp gb nb a a2 w (cmpT [45, 62] [(gPh failT f (kidG t 0) xa st.1 (st.1 + 1, st.2)).1, (gPh failT f (kidG t 1) st.1 xb (gPh failT f (kidG t 0) xa st.1 (st.1 + 1, st.2)).2).1], (gPh failT f (kidG t 1) st.1 xb (gPh failT f (kidG t 0) xa st.1 (st.1 + 1, st.2)).2).2) e w9) := h9.from (GFr.of gb nb HB3.out)
  obtain ⟨z, rfl, _⟩ := h9
  clear HC
  go_wp2_with fail
  go_ret
  exact HG.out
set_option maxRecDepth 100000 in
set_option maxHeartbeats 4000000 in
theorem phrI_or {w0 : World} {gp gb nb : Nat} {a a2 : Addr} {f : Nat} (hPh : PhI w0 gp gb nb a a2 f) (t : Tr) (v : Value) (Bt : Nat) (xa xb : Int) (st : GSt) (w : World) (ht : t.fo.ok) (hlf : (itC t).length ≤ f + 1) (hl : (itC t).length ≤ 2000) (hfo : FoIn w0 Bt t.fo [v]) (ha : 0 ≤ xa ∧ xa ≤ 1100000) (hb : 0 ≤ xb ∧ xb ≤ 1100000) (hst : st.1 + (itC t).length ≤ 1100000) (h : GMi w0 gp gb nb a a2 st w) (hcase : t.1 = cOr) :
    Calls Tryz.prog 58 #[ptrV gb, v, varV xa, varV xb] w (GOutI w0 gp gb nb a a2 w (gPh failT (f + 1) t xa xb st)) := by
  obtain ⟨mb, N, s1, s2, r1, r2, r3, r4⟩ := h.rul
  have hk : t.1.1 = 2 ∨ t.1.1 = 3 := by rw [hcase]; decide
  obtain ⟨pa, ca, us, hul, hca, hFO, hAR, hpa, hpz, hfk⟩ := call_parts ht hk hfo
  have hokn := okN_of ht hk
  have hol := ol_iff ht hk
  have hkey := fun nm k hb => key_iff ht hk nm k hb
  obtain ⟨tv, xv, rfl, HIV⟩ : ∃ tv xv, v = .iface tv xv ∧ ∀ W, Calls Tryz.prog 71 #[.iface tv xv] W fun e w' => e = .returned (.bool false) ∧ w' = W := by
    obtain ⟨v', vr, e, hn, _⟩ := hfo
    obtain ⟨rfl, _⟩ := List.cons.inj e
    rcases hn with ⟨k, _⟩ | ⟨k, _⟩ | ⟨k, h⟩ | ⟨k, b, g, vs, h, _⟩
    · omega
    · omega
    · exact ⟨_, _, h, fun W => nbIsVar_atom _ W⟩
    · exact ⟨_, _, h, fun W => nbIsVar_comp _ W⟩
  have hfk2 : ((strOfNums t.1.2.2, (((trs t.2).length : Nat) : Int)) : Fun) = gKey 2 := (hkey [59] 2 (byte_small (by decide))).2 hcase
  have hlen : (trs t.2).length = 2 := by have := congrArg Prod.snd hfk2; simp only [gKey] at this; omega
  have hru : ruTab gp s1 s2 (strOfNums t.1.2.2, (((trs t.2).length : Nat) : Int)) = some (gVal gp s1 s2 2) := by rw [hfk2]; exact ruTab_key gp s1 s2 2 (by decide)
  have hol0 : olB (strOfNums t.1.2.2) (trs t.2).length = false := by rw [hol, hcase]; decide
  have HFO := hFO w h.bel
  have hlk0 : ∀ X, RuIn X mb N (ruTab gp s1 s2) → (Instr.lookup 88 (.map (some mb)) (.agg #[.string (strOfNums t.1.2.2), .int .i64 (((trs t.2).length : Nat) : Int)]) false).run Tryz.prog X = .ok (.func (.func 59) #[] #[ptrV gp]) X := fun X hX => by
    have h1 := hX.look (strOfNums t.1.2.2, (((trs t.2).length : Nat) : Int)) hokn
    rw [hru] at h1
    exact h1
  rw [hlen] at HFO hlk0 hol0
  rw [show ((2 : Nat) : Int) = (2 : Int) from rfl] at HFO hlk0 hol0
  obtain ⟨S, eS⟩ : ∃ S, S = strOfNums t.1.2.2 := ⟨_, rfl⟩
  rw [← eS] at HFO hlk0 hol0
  have hlk := hlk0
  have hG : gPh failT (f + 1) t xa xb st = (cmpT [59] [(gPh failT f (kidG t 0) xa xb st).1, (gPh failT f (kidG t 1) xa xb (gPh failT f (kidG t 0) xa xb st).2).1], (gPh failT f (kidG t 1) xa xb (gPh failT f (kidG t 0) xa xb st).2).2) := by
    rw [gPh, if_neg (by rw [hcase]; decide), if_neg (by rw [hcase]; decide), if_neg (by rw [hcase]; decide), if_pos hcase]
  rw [hG]
  have HX : Hid (∀ w1, Below w.heap.size w w1 → ∃ W1 Wd, W1 = w1.alloc (.cells #[.string S, .int .i64 2] 52) ∧ Wd = W1.drew ∧ Below w.heap.size w Wd ∧ Wd.cell? ⟨w1.heap.size, 0, none⟩ = some (.string S) ∧ Wd.cell? ⟨w1.heap.size, 1, none⟩ = some (.int .i64 2)) := fun w1 hb1 => by
    refine ⟨_, _, rfl, rfl, (Below.on hb1 (below_new _ _)).drew, ?_, ?_⟩
    · exact new_cells2 w1 (.string S) (.int .i64 2) 52 0 (by decide)
    · exact new_cells2 w1 (.string S) (.int .i64 2) 52 1 (by decide)
  have HMb : Hid (∀ X, Below w.heap.size w X → GMi w0 gp gb nb a a2 st X ∧ X.cell? ⟨gb, 1, none⟩ = some (.map (some mb)) ∧ RuIn X mb N (ruTab gp s1 s2)) := fun X hX => ⟨h.below hX, (hX.cell (World.block_lt_of_cell? _ _ r1)).trans r1, r2.below hX⟩
  obtain ⟨g, rfl, hgc⟩ := hpa (by rw [hlen]; decide)
  obtain rfl : ca = 2 := hca.trans hlen
  have k0 := kid_at hfk 0 (by rw [hlen]; decide)
  obtain ⟨y0, u0, ey0⟩ := FoIn.iface k0
  rw [ey0] at k0
  have g0 := hgc 0 (by rw [hlen]; decide)
  rw [ey0] at g0
  have hcnt : t.2.count = 2 := by rw [← trs_len, hlen]
  have kk0 := kid_ok ht (i := 0) (by rw [hcnt]; decide)
  have k1 := kid_at hfk 1 (by rw [hlen]; decide)
  obtain ⟨y1, u1, ey1⟩ := FoIn.iface k1
  rw [ey1] at k1
  have g1 := hgc 1 (by rw [hlen]; decide)
  rw [ey1] at g1
  have kk1 := kid_ok ht (i := 1) (by rw [hcnt]; decide)
  have hsum : (itC t).length = (itC (kidG t 0)).length + (itC (kidG t 1)).length + 1 := by
    have h1 := kids_cells t
    rw [two_kid hcnt] at h1
    show (t.1 :: t.2.cells).length = _
    rw [h1]
    simp
  have HEnd : Hid (∀ X, Below w.heap.size w X → Calls Tryz.prog 59 #[.slice (some ⟨g, 0, none⟩) 2 2, varV xa, varV xb, ptrV gp] X (GOutI w0 gp gb nb a a2 X (cmpT [59] [(gPh failT f (kidG t 0) xa xb st).1, (gPh failT f (kidG t 1) xa xb (gPh failT f (kidG t 0) xa xb st).2).1], (gPh failT f (kidG t 1) xa xb (gPh failT f (kidG t 0) xa xb st).2).2))) := fun X hX => by
    have hc : ∀ p v, w0.cell? p = some v → X.cell? p = some v := fun p v hp => ((Below.on h.bel hX).cell (World.block_lt_of_cell? _ _ hp)).trans hp
    exact ruleOr_any hPh (h.below hX) [59] _ rfl 0 g Bt (kidG t 0) (kidG t 1) y0 y1 u0 u1 xa xb kk0.1 kk1.1 (by omega) (by omega) (by omega) k0 k1 ha hb (by omega) ⟨fun e => (by cases e), (h.below hX).p0, hc _ _ g0, hc _ _ g1⟩ rfl
  have HAR : Hid (∀ X, Below w.heap.size w X → Calls Tryz.prog 25 #[.iface tv xv] X fun e w' => e = .returned (.slice (some ⟨g, 0, none⟩) 2 2) ∧ w' = X) := fun X hX => by
    have := hAR X (Below.on h.bel hX)
    rw [hlen] at this
    exact this
  have nq := nqR_some 59
  have HH : Hid (GMi w0 gp gb nb a a2 st w) := h
  clear hPh h r1 r2 r3 r4 ht hlf hl hfo ha hb hst g0 k0 kk0 hcnt ey0 hgc hpz g1 k1 kk1 ey1 hsum hul hca hFO hAR hfk hokn hol hkey hk hru hlk0 eS hfk2 hlen hcase hG
  go_enter Tryz.func58, Tryz.ntmps58
  go_wp2_with fail
  refine HFO.mono ?_
  rintro e w1 ⟨rfl, hb1⟩
  obtain ⟨W1, Wd, eW, eD, hbd, d0, d1⟩ := HX.out w1 hb1
  obtain ⟨hMd, m1, hRd⟩ := HMb.out Wd hbd
  have hlkd := hlk Wd hRd
  have HMd : Hid (GMi w0 gp gb nb a a2 st Wd) := hMd
  have HBd : Hid (Below w.heap.size w Wd) := hbd
  have HW : Hid (W1 = w1.alloc (.cells #[.string S, .int .i64 2] 52)) := eW
  have HDe : Hid (W1.drew = Wd) := eD.symm
  clear hb1 HFO eW eD hbd hMd hRd hlk HX HMb
  go_wp2_with fail
  rw [← HW.out]
  refine wp_region_held_drew (S := fun X => X = Wd) (by kernel_rfl) ?_ (fun hHeld => ?_)
  · exact HDe.out
  rw [HDe.out]
  have hSd : Wd = Wd := rfl
  refine hTake (i := 0) (v := ptrV gb) (some 17) (by kernel_rfl) (by kernel_rfl) (by kernel_rfl) (by kernel_rfl) (by kernel_rfl) (fun _ _ _ h => h) (fun o ho W hSw => ?y0) (by assumption) ?_
  case y0 =>
    cases ho
    simp [execOp, go_sem, Act.eval]
  simp only [Act.put, List.setIfInBounds_toArray, List.set_cons_zero, List.set_cons_succ]
  refine hTake (i := 1) (v := ptrV gb) (some 18) (by kernel_rfl) (by kernel_rfl) (by kernel_rfl) (by kernel_rfl) (by kernel_rfl) (fun _ _ _ h => h) (fun o ho W hSw => ?y1) (by assumption) ?_
  case y1 =>
    cases ho
    simp [execOp, go_sem, Act.eval]
  simp only [Act.put, List.setIfInBounds_toArray, List.set_cons_zero, List.set_cons_succ]
  refine hTake (i := 2) (v := .pointer (some ⟨gb, 1, none⟩)) (some 19) (by kernel_rfl) (by kernel_rfl) (by kernel_rfl) (by kernel_rfl) (by kernel_rfl) (fun _ _ _ h => h) (fun o ho W hSw => ?y2) (by assumption) ?_
  case y2 =>
    cases ho
    simp [execOp, go_sem, Act.eval]
  simp only [Act.put, List.setIfInBounds_toArray, List.set_cons_zero, List.set_cons_succ]
  refine hTake (i := 3) (v := .map (some mb)) (some 20) (by kernel_rfl) (by kernel_rfl) (by kernel_rfl) (by kernel_rfl) (by kernel_rfl) (fun _ _ _ h => h) (fun o ho W hSw => ?y3) (by assumption) ?_
  case y3 =>
    cases ho
    rw [hSw]
    simp [execOp, go_sem, Act.eval, m1]
  simp only [Act.put, List.setIfInBounds_toArray, List.set_cons_zero, List.set_cons_succ]
  refine hTake (i := 4) (v := .agg #[.string S, .int .i64 2]) (some 21) (by kernel_rfl) (by kernel_rfl) (by kernel_rfl) (by kernel_rfl) (by kernel_rfl) (fun _ _ _ h => h) (fun o ho W hSw => ?y4) (by assumption) ?_
  case y4 =>
    cases ho
    rw [hSw]
    simp [execOp, go_sem, Act.eval, d0, d1]
  simp only [Act.put, List.setIfInBounds_toArray, List.set_cons_zero, List.set_cons_succ]
  refine hTake (i := 5) (v := .func (.func 59) #[] #[ptrV gp]) (some 22) (by kernel_rfl) (by kernel_rfl) (by kernel_rfl) (by kernel_rfl) (by kernel_rfl) (fun _ _ _ h => h) (fun o ho W hSw => ?y5) (by assumption) ?_
  case y5 =>
    cases ho
    rw [hSw]
    simp [execOp, go_sem, Act.eval, hlkd]
  simp only [Act.put, List.setIfInBounds_toArray, List.set_cons_zero, List.set_cons_succ]
  refine hTake (i := 6) (v := .func (.func 59) #[] #[ptrV gp]) (some 11) (by kernel_rfl) (by kernel_rfl) (by kernel_rfl) (by kernel_rfl) (by kernel_rfl) (fun _ _ _ h => h) (fun o ho W hSw => ?y6) (by assumption) ?_
  case y6 =>
    cases ho
    simp [execOp, go_sem, Act.eval]
  simp only [Act.put, List.setIfInBounds_toArray, List.set_cons_zero, List.set_cons_succ]
  refine wpAnyH_done (by kernel_rfl) ?_ _
  change Exit.then _ _ _ _ Wd
  go_wp2_with fail
  refine (HIV _).mono ?_
  rintro e w2 ⟨rfl, hw2⟩
  rw [hw2]
  clear hw2 w2
  go_wp2_with fail
  refine (ofList_any S 2 Wd).mono ?_
  rintro e w3 ⟨rfl, hb3⟩
  rw [hol0]
  have hb3' := Below.on HBd.out hb3
  have HB3 : Hid (Below w.heap.size w w3) := hb3'
  have HC := HEnd.out w3 hb3'
  have HA := HAR.out w3 hb3'
  clear hb3 hb3' hol0
  go_wp2_with fail
  refine HA.mono ?_
  rintro e w4 ⟨rfl, hw4⟩
  rw [hw4]
  clear hw4 w4
  go_wp2_with fail
  refine HC.mono ?_
  rintro e w9 h9
  have HG : Hid (GOutI w0 gp gb nb a a2 w (cmpT [59] [(gPh failT f (kidG t 0) xa xb st).1, (gPh failT f (kidG t 1) xa xb (gPh failT f (kidG t 0) xa xb st).2).1], (gPh failT f (kidG t 1) xa xb (gPh failT f (kidG t 0) xa xb st).2).2) e w9) := h9.from (GFr.of gb nb HB3.out)
  obtain ⟨z, rfl, _⟩ := h9
  clear HC
  go_wp2_with fail
  go_ret
  exact HG.out
set_option maxRecDepth 100000 in
set_option maxHeartbeats 4000000 in
theorem phrI_not {w0 : World} {gp gb nb : Nat} {a a2 : Addr} {f : Nat} (hPh : PhI w0 gp gb nb a a2 f) (t : Tr) (v : Value) (Bt : Nat) (xa xb : Int) (st : GSt) (w : World) (ht : t.fo.ok) (hlf : (itC t).length ≤ f + 1) (hl : (itC t).length ≤ 2000) (hfo : FoIn w0 Bt t.fo [v]) (ha : 0 ≤ xa ∧ xa ≤ 1100000) (hb : 0 ≤ xb ∧ xb ≤ 1100000) (hst : st.1 + (itC t).length ≤ 1100000) (h : GMi w0 gp gb nb a a2 st w) (hcase : t.1 = cNot) :
    Calls Tryz.prog 58 #[ptrV gb, v, varV xa, varV xb] w (GOutI w0 gp gb nb a a2 w (gPh failT (f + 1) t xa xb st)) := by
  obtain ⟨mb, N, s1, s2, r1, r2, r3, r4⟩ := h.rul
  have hk : t.1.1 = 2 ∨ t.1.1 = 3 := by rw [hcase]; decide
  obtain ⟨pa, ca, us, hul, hca, hFO, hAR, hpa, hpz, hfk⟩ := call_parts ht hk hfo
  have hokn := okN_of ht hk
  have hol := ol_iff ht hk
  have hkey := fun nm k hb => key_iff ht hk nm k hb
  obtain ⟨tv, xv, rfl, HIV⟩ : ∃ tv xv, v = .iface tv xv ∧ ∀ W, Calls Tryz.prog 71 #[.iface tv xv] W fun e w' => e = .returned (.bool false) ∧ w' = W := by
    obtain ⟨v', vr, e, hn, _⟩ := hfo
    obtain ⟨rfl, _⟩ := List.cons.inj e
    rcases hn with ⟨k, _⟩ | ⟨k, _⟩ | ⟨k, h⟩ | ⟨k, b, g, vs, h, _⟩
    · omega
    · omega
    · exact ⟨_, _, h, fun W => nbIsVar_atom _ W⟩
    · exact ⟨_, _, h, fun W => nbIsVar_comp _ W⟩
  have hfk2 : ((strOfNums t.1.2.2, (((trs t.2).length : Nat) : Int)) : Fun) = gKey 3 := (hkey [92, 43] 1 (byte_small (by decide))).2 hcase
  have hlen : (trs t.2).length = 1 := by have := congrArg Prod.snd hfk2; simp only [gKey] at this; omega
  have hru : ruTab gp s1 s2 (strOfNums t.1.2.2, (((trs t.2).length : Nat) : Int)) = some (gVal gp s1 s2 3) := by rw [hfk2]; exact ruTab_key gp s1 s2 3 (by decide)
  have hol0 : olB (strOfNums t.1.2.2) (trs t.2).length = false := by rw [hol, hcase]; decide
  have HFO := hFO w h.bel
  have hlk0 : ∀ X, RuIn X mb N (ruTab gp s1 s2) → (Instr.lookup 88 (.map (some mb)) (.agg #[.string (strOfNums t.1.2.2), .int .i64 (((trs t.2).length : Nat) : Int)]) false).run Tryz.prog X = .ok (.func (.func 60) #[] #[ptrV gp]) X := fun X hX => by
    have h1 := hX.look (strOfNums t.1.2.2, (((trs t.2).length : Nat) : Int)) hokn
    rw [hru] at h1
    exact h1
  rw [hlen] at HFO hlk0 hol0
  rw [show ((1 : Nat) : Int) = (1 : Int) from rfl] at HFO hlk0 hol0
  obtain ⟨S, eS⟩ : ∃ S, S = strOfNums t.1.2.2 := ⟨_, rfl⟩
  rw [← eS] at HFO hlk0 hol0
  have hlk := hlk0
  have hG : gPh failT (f + 1) t xa xb st = (cmpT [44] [cmpT [92, 43] [(gPh failT f (kidG t 0) xa st.1 (st.1 + 1, st.2)).1], eqV xa xb], (gPh failT f (kidG t 0) xa st.1 (st.1 + 1, st.2)).2) := by
    rw [gPh, if_neg (by rw [hcase]; decide), if_neg (by rw [hcase]; decide), if_neg (by rw [hcase]; decide), if_neg (by rw [hcase]; decide), if_pos hcase]
  rw [hG]
  have HX : Hid (∀ w1, Below w.heap.size w w1 → ∃ W1 Wd, W1 = w1.alloc (.cells #[.string S, .int .i64 1] 52) ∧ Wd = W1.drew ∧ Below w.heap.size w Wd ∧ Wd.cell? ⟨w1.heap.size, 0, none⟩ = some (.string S) ∧ Wd.cell? ⟨w1.heap.size, 1, none⟩ = some (.int .i64 1)) := fun w1 hb1 => by
    refine ⟨_, _, rfl, rfl, (Below.on hb1 (below_new _ _)).drew, ?_, ?_⟩
    · exact new_cells2 w1 (.string S) (.int .i64 1) 52 0 (by decide)
    · exact new_cells2 w1 (.string S) (.int .i64 1) 52 1 (by decide)
  have HMb : Hid (∀ X, Below w.heap.size w X → GMi w0 gp gb nb a a2 st X ∧ X.cell? ⟨gb, 1, none⟩ = some (.map (some mb)) ∧ RuIn X mb N (ruTab gp s1 s2)) := fun X hX => ⟨h.below hX, (hX.cell (World.block_lt_of_cell? _ _ r1)).trans r1, r2.below hX⟩
  obtain ⟨g, rfl, hgc⟩ := hpa (by rw [hlen]; decide)
  obtain rfl : ca = 1 := hca.trans hlen
  have k0 := kid_at hfk 0 (by rw [hlen]; decide)
  obtain ⟨y0, u0, ey0⟩ := FoIn.iface k0
  rw [ey0] at k0
  have g0 := hgc 0 (by rw [hlen]; decide)
  rw [ey0] at g0
  have hcnt : t.2.count = 1 := by rw [← trs_len, hlen]
  have kk0 := kid_ok ht (i := 0) (by rw [hcnt]; decide)
  have HEnd : Hid (∀ X, Below w.heap.size w X → Calls Tryz.prog 60 #[.slice (some ⟨g, 0, none⟩) 1 1, varV xa, varV xb, ptrV gp] X (GOutI w0 gp gb nb a a2 X (cmpT [44] [cmpT [92, 43] [(gPh failT f (kidG t 0) xa st.1 (st.1 + 1, st.2)).1], eqV xa xb], (gPh failT f (kidG t 0) xa st.1 (st.1 + 1, st.2)).2))) := fun X hX => by
    have hc : ∀ p v, w0.cell? p = some v → X.cell? p = some v := fun p v hp => ((Below.on h.bel hX).cell (World.block_lt_of_cell? _ _ hp)).trans hp
    exact ruleNot_any hPh (h.below hX) g Bt (kidG t 0) y0 u0 xa xb kk0.1 (by omega) (by omega) k0 ha hb (by omega) (hc _ _ g0)
  have HAR : Hid (∀ X, Below w.heap.size w X → Calls Tryz.prog 25 #[.iface tv xv] X fun e w' => e = .returned (.slice (some ⟨g, 0, none⟩) 1 1) ∧ w' = X) := fun X hX => by
    have := hAR X (Below.on h.bel hX)
    rw [hlen] at this
    exact this
  have nq := nqR_some 60
  have HH : Hid (GMi w0 gp gb nb a a2 st w) := h
  clear hPh h r1 r2 r3 r4 ht hlf hl hfo ha hb hst g0 k0 kk0 hcnt ey0 hgc hpz hul hca hFO hAR hfk hokn hol hkey hk hru hlk0 eS hfk2 hlen hcase hG
  go_enter Tryz.func58, Tryz.ntmps58
  go_wp2_with fail
  refine HFO.mono ?_
  rintro e w1 ⟨rfl, hb1⟩
  obtain ⟨W1, Wd, eW, eD, hbd, d0, d1⟩ := HX.out w1 hb1
  obtain ⟨hMd, m1, hRd⟩ := HMb.out Wd hbd
  have hlkd := hlk Wd hRd
  have HMd : Hid (GMi w0 gp gb nb a a2 st Wd) := hMd
  have HBd : Hid (Below w.heap.size w Wd) := hbd
  have HW : Hid (W1 = w1.alloc (.cells #[.string S, .int .i64 1] 52)) := eW
  have HDe : Hid (W1.drew = Wd) := eD.symm
  clear hb1 HFO eW eD hbd hMd hRd hlk HX HMb
  go_wp2_with fail
  rw [← HW.out]
  refine wp_region_held_drew (S := fun X => X = Wd) (by kernel_rfl) ?_ (fun hHeld => ?_)
  · exact HDe.out
  rw [HDe.out]
  have hSd : Wd = Wd := rfl
  refine hTake (i := 0) (v := ptrV gb) (some 17) (by kernel_rfl) (by kernel_rfl) (by kernel_rfl) (by kernel_rfl) (by kernel_rfl) (fun _ _ _ h => h) (fun o ho W hSw => ?y0) (by assumption) ?_
  case y0 =>
    cases ho
    simp [execOp, go_sem, Act.eval]
  simp only [Act.put, List.setIfInBounds_toArray, List.set_cons_zero, List.set_cons_succ]
  refine hTake (i := 1) (v := ptrV gb) (some 18) (by kernel_rfl) (by kernel_rfl) (by kernel_rfl) (by kernel_rfl) (by kernel_rfl) (fun _ _ _ h => h) (fun o ho W hSw => ?y1) (by assumption) ?_
  case y1 =>
    cases ho
    simp [execOp, go_sem, Act.eval]
  simp only [Act.put, List.setIfInBounds_toArray, List.set_cons_zero, List.set_cons_succ]
  refine hTake (i := 2) (v := .pointer (some ⟨gb, 1, none⟩)) (some 19) (by kernel_rfl) (by kernel_rfl) (by kernel_rfl) (by kernel_rfl) (by kernel_rfl) (fun _ _ _ h => h) (fun o ho W hSw => ?y2) (by assumption) ?_
  case y2 =>
    cases ho
    simp [execOp, go_sem, Act.eval]
  simp only [Act.put, List.setIfInBounds_toArray, List.set_cons_zero, List.set_cons_succ]
  refine hTake (i := 3) (v := .map (some mb)) (some 20) (by kernel_rfl) (by kernel_rfl) (by kernel_rfl) (by kernel_rfl) (by kernel_rfl) (fun _ _ _ h => h) (fun o ho W hSw => ?y3) (by assumption) ?_
  case y3 =>
    cases ho
    rw [hSw]
    simp [execOp, go_sem, Act.eval, m1]
  simp only [Act.put, List.setIfInBounds_toArray, List.set_cons_zero, List.set_cons_succ]
  refine hTake (i := 4) (v := .agg #[.string S, .int .i64 1]) (some 21) (by kernel_rfl) (by kernel_rfl) (by kernel_rfl) (by kernel_rfl) (by kernel_rfl) (fun _ _ _ h => h) (fun o ho W hSw => ?y4) (by assumption) ?_
  case y4 =>
    cases ho
    rw [hSw]
    simp [execOp, go_sem, Act.eval, d0, d1]
  simp only [Act.put, List.setIfInBounds_toArray, List.set_cons_zero, List.set_cons_succ]
  refine hTake (i := 5) (v := .func (.func 60) #[] #[ptrV gp]) (some 22) (by kernel_rfl) (by kernel_rfl) (by kernel_rfl) (by kernel_rfl) (by kernel_rfl) (fun _ _ _ h => h) (fun o ho W hSw => ?y5) (by assumption) ?_
  case y5 =>
    cases ho
    rw [hSw]
    simp [execOp, go_sem, Act.eval, hlkd]
  simp only [Act.put, List.setIfInBounds_toArray, List.set_cons_zero, List.set_cons_succ]
  refine hTake (i := 6) (v := .func (.func 60) #[] #[ptrV gp]) (some 11) (by kernel_rfl) (by kernel_rfl) (by kernel_rfl) (by kernel_rfl) (by kernel_rfl) (fun _ _ _ h => h) (fun o ho W hSw => ?y6) (by assumption) ?_
  case y6 =>
    cases ho
    simp [execOp, go_sem, Act.eval]
  simp only [Act.put, List.setIfInBounds_toArray, List.set_cons_zero, List.set_cons_succ]
  refine wpAnyH_done (by kernel_rfl) ?_ _
  change Exit.then _ _ _ _ Wd
  go_wp2_with fail
  refine (HIV _).mono ?_
  rintro e w2 ⟨rfl, hw2⟩
  rw [hw2]
  clear hw2 w2
  go_wp2_with fail
  refine (ofList_any S 1 Wd).mono ?_
  rintro e w3 ⟨rfl, hb3⟩
  rw [hol0]
  have hb3' := Below.on HBd.out hb3
  have HB3 : Hid (Below w.heap.size w w3) := hb3'
  have HC := HEnd.out w3 hb3'
  have HA := HAR.out w3 hb3'
  clear hb3 hb3' hol0
  go_wp2_with fail
  refine HA.mono ?_
  rintro e w4 ⟨rfl, hw4⟩
  rw [hw4]
  clear hw4 w4
  go_wp2_with fail
  refine HC.mono ?_
  rintro e w9 h9
  have HG : Hid (GOutI w0 gp gb nb a a2 w (cmpT [44] [cmpT [92, 43] [(gPh failT f (kidG t 0) xa st.1 (st.1 + 1, st.2)).1], eqV xa xb], (gPh failT f (kidG t 0) xa st.1 (st.1 + 1, st.2)).2) e w9) := h9.from (GFr.of gb nb HB3.out)
  obtain ⟨z, rfl, _⟩ := h9
  clear HC
  go_wp2_with fail
  go_ret
  exact HG.out
set_option maxRecDepth 100000 in
set_option maxHeartbeats 4000000 in
theorem phrI_cut {w0 : World} {gp gb nb : Nat} {a a2 : Addr} {f : Nat} (hPh : PhI w0 gp gb nb a a2 f) (t : Tr) (v : Value) (Bt : Nat) (xa xb : Int) (st : GSt) (w : World) (ht : t.fo.ok) (hlf : (itC t).length ≤ f + 1) (hl : (itC t).length ≤ 2000) (hfo : FoIn w0 Bt t.fo [v]) (ha : 0 ≤ xa ∧ xa ≤ 1100000) (hb : 0 ≤ xb ∧ xb ≤ 1100000) (hst : st.1 + (itC t).length ≤ 1100000) (h : GMi w0 gp gb nb a a2 st w) (hcase : t.1 = cCut) :
    Calls Tryz.prog 58 #[ptrV gb, v, varV xa, varV xb] w (GOutI w0 gp gb nb a a2 w (gPh failT (f + 1) t xa xb st)) := by
  obtain ⟨mb, N, s1, s2, r1, r2, r3, r4⟩ := h.rul
  have hk : t.1.1 = 2 ∨ t.1.1 = 3 := by rw [hcase]; decide
  obtain ⟨pa, ca, us, hul, hca, hFO, hAR, hpa, hpz, hfk⟩ := call_parts ht hk hfo
  have hokn := okN_of ht hk
  have hol := ol_iff ht hk
  have hkey := fun nm k hb => key_iff ht hk nm k hb
  obtain ⟨tv, xv, rfl, HIV⟩ : ∃ tv xv, v = .iface tv xv ∧ ∀ W, Calls Tryz.prog 71 #[.iface tv xv] W fun e w' => e = .returned (.bool false) ∧ w' = W := by
    obtain ⟨v', vr, e, hn, _⟩ := hfo
    obtain ⟨rfl, _⟩ := List.cons.inj e
    rcases hn with ⟨k, _⟩ | ⟨k, _⟩ | ⟨k, h⟩ | ⟨k, b, g, vs, h, _⟩
    · omega
    · omega
    · exact ⟨_, _, h, fun W => nbIsVar_atom _ W⟩
    · exact ⟨_, _, h, fun W => nbIsVar_comp _ W⟩
  have hfk2 : ((strOfNums t.1.2.2, (((trs t.2).length : Nat) : Int)) : Fun) = gKey 4 := (hkey [33] 0 (byte_small (by decide))).2 hcase
  have hlen : (trs t.2).length = 0 := by have := congrArg Prod.snd hfk2; simp only [gKey] at this; omega
  have hru : ruTab gp s1 s2 (strOfNums t.1.2.2, (((trs t.2).length : Nat) : Int)) = some (gVal gp s1 s2 4) := by rw [hfk2]; exact ruTab_key gp s1 s2 4 (by decide)
  have hol0 : olB (strOfNums t.1.2.2) (trs t.2).length = false := by rw [hol, hcase]; decide
  have HFO := hFO w h.bel
  have hlk0 : ∀ X, RuIn X mb N (ruTab gp s1 s2) → (Instr.lookup 88 (.map (some mb)) (.agg #[.string (strOfNums t.1.2.2), .int .i64 (((trs t.2).length : Nat) : Int)]) false).run Tryz.prog X = .ok (.func (.func 62) #[] #[]) X := fun X hX => by
    have h1 := hX.look (strOfNums t.1.2.2, (((trs t.2).length : Nat) : Int)) hokn
    rw [hru] at h1
    exact h1
  rw [hlen] at HFO hlk0 hol0
  rw [show ((0 : Nat) : Int) = (0 : Int) from rfl] at HFO hlk0 hol0
  obtain ⟨S, eS⟩ : ∃ S, S = strOfNums t.1.2.2 := ⟨_, rfl⟩
  rw [← eS] at HFO hlk0 hol0
  have hlk := hlk0
  have hG : gPh failT (f + 1) t xa xb st = (cmpT [44] [(cCut, .nil), eqV xa xb], st) := by
    rw [gPh, if_neg (by rw [hcase]; decide), if_neg (by rw [hcase]; decide), if_neg (by rw [hcase]; decide), if_neg (by rw [hcase]; decide), if_neg (by rw [hcase]; decide), if_pos hcase]
    have hn : t.2 = .nil := ht.2.2.2.1 (by rw [hcase]; decide)
    rw [show t = (cCut, .nil) from Prod.ext hcase hn]
  rw [hG]
  have HX : Hid (∀ w1, Below w.heap.size w w1 → ∃ W1 Wd, W1 = w1.alloc (.cells #[.string S, .int .i64 0] 52) ∧ Wd = W1.drew ∧ Below w.heap.size w Wd ∧ Wd.cell? ⟨w1.heap.size, 0, none⟩ = some (.string S) ∧ Wd.cell? ⟨w1.heap.size, 1, none⟩ = some (.int .i64 0)) := fun w1 hb1 => by
    refine ⟨_, _, rfl, rfl, (Below.on hb1 (below_new _ _)).drew, ?_, ?_⟩
    · exact new_cells2 w1 (.string S) (.int .i64 0) 52 0 (by decide)
    · exact new_cells2 w1 (.string S) (.int .i64 0) 52 1 (by decide)
  have HMb : Hid (∀ X, Below w.heap.size w X → GMi w0 gp gb nb a a2 st X ∧ X.cell? ⟨gb, 1, none⟩ = some (.map (some mb)) ∧ RuIn X mb N (ruTab gp s1 s2)) := fun X hX => ⟨h.below hX, (hX.cell (World.block_lt_of_cell? _ _ r1)).trans r1, r2.below hX⟩
  obtain ⟨rfl, rfl⟩ := hpz hlen
  have HEnd : Hid (∀ X, Below w.heap.size w X → Calls Tryz.prog 62 #[.slice none 0 0, varV xa, varV xb] X (GOutI w0 gp gb nb a a2 X (cmpT [44] [(cCut, .nil), eqV xa xb], st))) := fun X hX => by
    refine (ruleCut_any _ xa xb X).mono ?_
    intro e w' he
    exact GOutI.tree (h.below hX) he
  have HAR : Hid (∀ X, Below w.heap.size w X → Calls Tryz.prog 25 #[.iface tv xv] X fun e w' => e = .returned (.slice none 0 0) ∧ w' = X) := fun X hX => by
    have := hAR X (Below.on h.bel hX)
    rw [hlen] at this
    exact this
  have nq := nqR_some 62
  have HH : Hid (GMi w0 gp gb nb a a2 st w) := h
  clear hPh h r1 r2 r3 r4 ht hlf hl hfo ha hb hst hpa hul hca hFO hAR hfk hokn hol hkey hk hru hlk0 eS hfk2 hlen hcase hG
  go_enter Tryz.func58, Tryz.ntmps58
  go_wp2_with fail
  refine HFO.mono ?_
  rintro e w1 ⟨rfl, hb1⟩
  obtain ⟨W1, Wd, eW, eD, hbd, d0, d1⟩ := HX.out w1 hb1
  obtain ⟨hMd, m1, hRd⟩ := HMb.out Wd hbd
  have hlkd := hlk Wd hRd
  have HMd : Hid (GMi w0 gp gb nb a a2 st Wd) := hMd
  have HBd : Hid (Below w.heap.size w Wd) := hbd
  have HW : Hid (W1 = w1.alloc (.cells #[.string S, .int .i64 0] 52)) := eW
  have HDe : Hid (W1.drew = Wd) := eD.symm
  clear hb1 HFO eW eD hbd hMd hRd hlk HX HMb
  go_wp2_with fail
  rw [← HW.out]
  refine wp_region_held_drew (S := fun X => X = Wd) (by kernel_rfl) ?_ (fun hHeld => ?_)
  · exact HDe.out
  rw [HDe.out]
  have hSd : Wd = Wd := rfl
  refine hTake (i := 0) (v := ptrV gb) (some 17) (by kernel_rfl) (by kernel_rfl) (by kernel_rfl) (by kernel_rfl) (by kernel_rfl) (fun _ _ _ h => h) (fun o ho W hSw => ?y0) (by assumption) ?_
  case y0 =>
    cases ho
    simp [execOp, go_sem, Act.eval]
  simp only [Act.put, List.setIfInBounds_toArray, List.set_cons_zero, List.set_cons_succ]
  refine hTake (i := 1) (v := ptrV gb) (some 18) (by kernel_rfl) (by kernel_rfl) (by kernel_rfl) (by kernel_rfl) (by kernel_rfl) (fun _ _ _ h => h) (fun o ho W hSw => ?y1) (by assumption) ?_
  case y1 =>
    cases ho
    simp [execOp, go_sem, Act.eval]
  simp only [Act.put, List.setIfInBounds_toArray, List.set_cons_zero, List.set_cons_succ]
  refine hTake (i := 2) (v := .pointer (some ⟨gb, 1, none⟩)) (some 19) (by kernel_rfl) (by kernel_rfl) (by kernel_rfl) (by kernel_rfl) (by kernel_rfl) (fun _ _ _ h => h) (fun o ho W hSw => ?y2) (by assumption) ?_
  case y2 =>
    cases ho
    simp [execOp, go_sem, Act.eval]
  simp only [Act.put, List.setIfInBounds_toArray, List.set_cons_zero, List.set_cons_succ]
  refine hTake (i := 3) (v := .map (some mb)) (some 20) (by kernel_rfl) (by kernel_rfl) (by kernel_rfl) (by kernel_rfl) (by kernel_rfl) (fun _ _ _ h => h) (fun o ho W hSw => ?y3) (by assumption) ?_
  case y3 =>
    cases ho
    rw [hSw]
    simp [execOp, go_sem, Act.eval, m1]
  simp only [Act.put, List.setIfInBounds_toArray, List.set_cons_zero, List.set_cons_succ]
  refine hTake (i := 4) (v := .agg #[.string S, .int .i64 0]) (some 21) (by kernel_rfl) (by kernel_rfl) (by kernel_rfl) (by kernel_rfl) (by kernel_rfl) (fun _ _ _ h => h) (fun o ho W hSw => ?y4) (by assumption) ?_
  case y4 =>
    cases ho
    rw [hSw]
    simp [execOp, go_sem, Act.eval, d0, d1]
  simp only [Act.put, List.setIfInBounds_toArray, List.set_cons_zero, List.set_cons_succ]
  refine hTake (i := 5) (v := .func (.func 62) #[] #[]) (some 22) (by kernel_rfl) (by kernel_rfl) (by kernel_rfl) (by kernel_rfl) (by kernel_rfl) (fun _ _ _ h => h) (fun o ho W hSw => ?y5) (by assumption) ?_
  case y5 =>
    cases ho
    rw [hSw]
    simp [execOp, go_sem, Act.eval, hlkd]
  simp only [Act.put, List.setIfInBounds_toArray, List.set_cons_zero, List.set_cons_succ]
  refine hTake (i := 6) (v := .func (.func 62) #[] #[]) (some 11) (by kernel_rfl) (by kernel_rfl) (by kernel_rfl) (by kernel_rfl) (by kernel_rfl) (fun _ _ _ h => h) (fun o ho W hSw => ?y6) (by assumption) ?_
  case y6 =>
    cases ho
    simp [execOp, go_sem, Act.eval]
  simp only [Act.put, List.setIfInBounds_toArray, List.set_cons_zero, List.set_cons_succ]
  refine wpAnyH_done (by kernel_rfl) ?_ _
  change Exit.then _ _ _ _ Wd
  go_wp2_with fail
  refine (HIV _).mono ?_
  rintro e w2 ⟨rfl, hw2⟩
  rw [hw2]
  clear hw2 w2
  go_wp2_with fail
  refine (ofList_any S 0 Wd).mono ?_
  rintro e w3 ⟨rfl, hb3⟩
  rw [hol0]
  have hb3' := Below.on HBd.out hb3
  have HB3 : Hid (Below w.heap.size w w3) := hb3'
  have HC := HEnd.out w3 hb3'
  have HA := HAR.out w3 hb3'
  clear hb3 hb3' hol0
  go_wp2_with fail
  refine HA.mono ?_
  rintro e w4 ⟨rfl, hw4⟩
  rw [hw4]
  clear hw4 w4
  go_wp2_with fail
  refine HC.mono ?_
  rintro e w9 h9
  have HG : Hid (GOutI w0 gp gb nb a a2 w (cmpT [44] [(cCut, .nil), eqV xa xb], st) e w9) := h9.from (GFr.of gb nb HB3.out)
  obtain ⟨z, rfl, _⟩ := h9
  clear HC
  go_wp2_with fail
  go_ret
  exact HG.out
set_option maxRecDepth 100000 in
set_option maxHeartbeats 4000000 in
theorem phrI_curly {w0 : World} {gp gb nb : Nat} {a a2 : Addr} {f : Nat} (hPh : PhI w0 gp gb nb a a2 f) (t : Tr) (v : Value) (Bt : Nat) (xa xb : Int) (st : GSt) (w : World) (ht : t.fo.ok) (hlf : (itC t).length ≤ f + 1) (hl : (itC t).length ≤ 2000) (hfo : FoIn w0 Bt t.fo [v]) (ha : 0 ≤ xa ∧ xa ≤ 1100000) (hb : 0 ≤ xb ∧ xb ≤ 1100000) (hst : st.1 + (itC t).length ≤ 1100000) (h : GMi w0 gp gb nb a a2 st w) (hcase : t.1 = cCurly) :
    Calls Tryz.prog 58 #[ptrV gb, v, varV xa, varV xb] w (GOutI w0 gp gb nb a a2 w (gPh failT (f + 1) t xa xb st)) := by
  obtain ⟨mb, N, s1, s2, r1, r2, r3, r4⟩ := h.rul
  have hk : t.1.1 = 2 ∨ t.1.1 = 3 := by rw [hcase]; decide
  obtain ⟨pa, ca, us, hul, hca, hFO, hAR, hpa, hpz, hfk⟩ := call_parts ht hk hfo
  have hokn := okN_of ht hk
  have hol := ol_iff ht hk
  have hkey := fun nm k hb => key_iff ht hk nm k hb
  obtain ⟨tv, xv, rfl, HIV⟩ : ∃ tv xv, v = .iface tv xv ∧ ∀ W, Calls Tryz.prog 71 #[.iface tv xv] W fun e w' => e = .returned (.bool false) ∧ w' = W := by
    obtain ⟨v', vr, e, hn, _⟩ := hfo
    obtain ⟨rfl, _⟩ := List.cons.inj e
    rcases hn with ⟨k, _⟩ | ⟨k, _⟩ | ⟨k, h⟩ | ⟨k, b, g, vs, h, _⟩
    · omega
    · omega
    · exact ⟨_, _, h, fun W => nbIsVar_atom _ W⟩
    · exact ⟨_, _, h, fun W => nbIsVar_comp _ W⟩
  have hfk2 : ((strOfNums t.1.2.2, (((trs t.2).length : Nat) : Int)) : Fun) = gKey 5 := (hkey [123, 125] 1 (byte_small (by decide))).2 hcase
  have hlen : (trs t.2).length = 1 := by have := congrArg Prod.snd hfk2; simp only [gKey] at this; omega
  have hru : ruTab gp s1 s2 (strOfNums t.1.2.2, (((trs t.2).length : Nat) : Int)) = some (gVal gp s1 s2 5) := by rw [hfk2]; exact ruTab_key gp s1 s2 5 (by decide)
  have hol0 : olB (strOfNums t.1.2.2) (trs t.2).length = false := by rw [hol, hcase]; decide
  have HFO := hFO w h.bel
  have hlk0 : ∀ X, RuIn X mb N (ruTab gp s1 s2) → (Instr.lookup 88 (.map (some mb)) (.agg #[.string (strOfNums t.1.2.2), .int .i64 (((trs t.2).length : Nat) : Int)]) false).run Tryz.prog X = .ok (.func (.func 63) #[] #[]) X := fun X hX => by
    have h1 := hX.look (strOfNums t.1.2.2, (((trs t.2).length : Nat) : Int)) hokn
    rw [hru] at h1
    exact h1
  rw [hlen] at HFO hlk0 hol0
  rw [show ((1 : Nat) : Int) = (1 : Int) from rfl] at HFO hlk0 hol0
  obtain ⟨S, eS⟩ : ∃ S, S = strOfNums t.1.2.2 := ⟨_, rfl⟩
  rw [← eS] at HFO hlk0 hol0
  have hlk := hlk0
  have hG : gPh failT (f + 1) t xa xb st = (cmpT [44] [kidG t 0, eqV xa xb], st) := by
    rw [gPh, if_neg (by rw [hcase]; decide), if_neg (by rw [hcase]; decide), if_neg (by rw [hcase]; decide), if_neg (by rw [hcase]; decide), if_neg (by rw [hcase]; decide), if_neg (by rw [hcase]; decide), if_pos hcase]
  rw [hG]
  have HX : Hid (∀ w1, Below w.heap.size w w1 → ∃ W1 Wd, W1 = w1.alloc (.cells #[.string S, .int .i64 1] 52) ∧ Wd = W1.drew ∧ Below w.heap.size w Wd ∧ Wd.cell? ⟨w1.heap.size, 0, none⟩ = some (.string S) ∧ Wd.cell? ⟨w1.heap.size, 1, none⟩ = some (.int .i64 1)) := fun w1 hb1 => by
    refine ⟨_, _, rfl, rfl, (Below.on hb1 (below_new _ _)).drew, ?_, ?_⟩
    · exact new_cells2 w1 (.string S) (.int .i64 1) 52 0 (by decide)
    · exact new_cells2 w1 (.string S) (.int .i64 1) 52 1 (by decide)
  have HMb : Hid (∀ X, Below w.heap.size w X → GMi w0 gp gb nb a a2 st X ∧ X.cell? ⟨gb, 1, none⟩ = some (.map (some mb)) ∧ RuIn X mb N (ruTab gp s1 s2)) := fun X hX => ⟨h.below hX, (hX.cell (World.block_lt_of_cell? _ _ r1)).trans r1, r2.below hX⟩
  obtain ⟨g, rfl, hgc⟩ := hpa (by rw [hlen]; decide)
  obtain rfl : ca = 1 := hca.trans hlen
  have k0 := kid_at hfk 0 (by rw [hlen]; decide)
  obtain ⟨y0, u0, ey0⟩ := FoIn.iface k0
  rw [ey0] at k0
  have g0 := hgc 0 (by rw [hlen]; decide)
  rw [ey0] at g0
  have hcnt : t.2.count = 1 := by rw [← trs_len, hlen]
  have kk0 := kid_ok ht (i := 0) (by rw [hcnt]; decide)
  have HEnd : Hid (∀ X, Below w.heap.size w X → Calls Tryz.prog 63 #[.slice (some ⟨g, 0, none⟩) 1 1, varV xa, varV xb] X (GOutI w0 gp gb nb a a2 X (cmpT [44] [kidG t 0, eqV xa xb], st))) := fun X hX => by
    have hc : ∀ p v, w0.cell? p = some v → X.cell? p = some v := fun p v hp => ((Below.on h.bel hX).cell (World.block_lt_of_cell? _ _ hp)).trans hp
    refine (ruleCurly_any (kidG t 0) g y0 u0 xa xb X (foIn_c k0 (Below.on h.bel hX)) (hc _ _ g0)).mono ?_
    intro e w' he
    exact GOutI.tree (h.below hX) he
  have HAR : Hid (∀ X, Below w.heap.size w X → Calls Tryz.prog 25 #[.iface tv xv] X fun e w' => e = .returned (.slice (some ⟨g, 0, none⟩) 1 1) ∧ w' = X) := fun X hX => by
    have := hAR X (Below.on h.bel hX)
    rw [hlen] at this
    exact this
  have nq := nqR_some 63
  have HH : Hid (GMi w0 gp gb nb a a2 st w) := h
  clear hPh h r1 r2 r3 r4 ht hlf hl hfo ha hb hst g0 k0 kk0 hcnt ey0 hgc hpz hul hca hFO hAR hfk hokn hol hkey hk hru hlk0 eS hfk2 hlen hcase hG
  go_enter Tryz.func58, Tryz.ntmps58
  go_wp2_with fail
  refine HFO.mono ?_
  rintro e w1 ⟨rfl, hb1⟩
  obtain ⟨W1, Wd, eW, eD, hbd, d0, d1⟩ := HX.out w1 hb1
  obtain ⟨hMd, m1, hRd⟩ := HMb.out Wd hbd
  have hlkd := hlk Wd hRd
  have HMd : Hid (GMi w0 gp gb nb a a2 st Wd) := hMd
  have HBd : Hid (Below w.heap.size w Wd) := hbd
  have HW : Hid (W1 = w1.alloc (.cells #[.string S, .int .i64 1] 52)) := eW
  have HDe : Hid (W1.drew = Wd) := eD.symm
  clear hb1 HFO eW eD hbd hMd hRd hlk HX HMb
  go_wp2_with fail
  rw [← HW.out]
  refine wp_region_held_drew (S := fun X => X = Wd) (by kernel_rfl) ?_ (fun hHeld => ?_)
  · exact HDe.out
  rw [HDe.out]
  have hSd : Wd = Wd := rfl
  refine hTake (i := 0) (v := ptrV gb) (some 17) (by kernel_rfl) (by kernel_rfl) (by kernel_rfl) (by kernel_rfl) (by kernel_rfl) (fun _ _ _ h => h) (fun o ho W hSw => ?y0) (by assumption) ?_
  case y0 =>
    cases ho
    simp [execOp, go_sem, Act.eval]
  simp only [Act.put, List.setIfInBounds_toArray, List.set_cons_zero, List.set_cons_succ]
  refine hTake (i := 1) (v := ptrV gb) (some 18) (by kernel_rfl) (by kernel_rfl) (by kernel_rfl) (by kernel_rfl) (by kernel_rfl) (fun _ _ _ h => h) (fun o ho W hSw => ?y1) (by assumption) ?_
  case y1 =>
    cases ho
    simp [execOp, go_sem, Act.eval]
  simp only [Act.put, List.setIfInBounds_toArray, List.set_cons_zero, List.set_cons_succ]
  refine hTake (i := 2) (v := .pointer (some ⟨gb, 1, none⟩)) (some 19) (by kernel_rfl) (by kernel_rfl) (by kernel_rfl) (by kernel_rfl) (by kernel_rfl) (fun _ _ _ h => h) (fun o ho W hSw => ?y2) (by assumption) ?_
  case y2 =>
    cases ho
    simp [execOp, go_sem, Act.eval]
  simp only [Act.put, List.setIfInBounds_toArray, List.set_cons_zero, List.set_cons_succ]
  refine hTake (i := 3) (v := .map (some mb)) (some 20) (by kernel_rfl) (by kernel_rfl) (by kernel_rfl) (by kernel_rfl) (by kernel_rfl) (fun _ _ _ h => h) (fun o ho W hSw => ?y3) (by assumption) ?_
  case y3 =>
    cases ho
    rw [hSw]
    simp [execOp, go_sem, Act.eval, m1]
  simp only [Act.put, List.setIfInBounds_toArray, List.set_cons_zero, List.set_cons_succ]
  refine hTake (i := 4) (v := .agg #[.string S, .int .i64 1]) (some 21) (by kernel_rfl) (by kernel_rfl) (by kernel_rfl) (by kernel_rfl) (by kernel_rfl) (fun _ _ _ h => h) (fun o ho W hSw => ?y4) (by assumption) ?_
  case y4 =>
    cases ho
    rw [hSw]
    simp [execOp, go_sem, Act.eval, d0, d1]
  simp only [Act.put, List.setIfInBounds_toArray, List.set_cons_zero, List.set_cons_succ]
  refine hTake (i := 5) (v := .func (.func 63) #[] #[]) (some 22) (by kernel_rfl) (by kernel_rfl) (by kernel_rfl) (by kernel_rfl) (by kernel_rfl) (fun _ _ _ h => h) (fun o ho W hSw => ?y5) (by assumption) ?_
  case y5 =>
    cases ho
    rw [hSw]
    simp [execOp, go_sem, Act.eval, hlkd]
  simp only [Act.put, List.setIfInBounds_toArray, List.set_cons_zero, List.set_cons_succ]
  refine hTake (i := 6) (v := .func (.func 63) #[] #[]) (some 11) (by kernel_rfl) (by kernel_rfl) (by kernel_rfl) (by kernel_rfl) (by kernel_rfl) (fun _ _ _ h => h) (fun o ho W hSw => ?y6) (by assumption) ?_
  case y6 =>
    cases ho
    simp [execOp, go_sem, Act.eval]
  simp only [Act.put, List.setIfInBounds_toArray, List.set_cons_zero, List.set_cons_succ]
  refine wpAnyH_done (by kernel_rfl) ?_ _
  change Exit.then _ _ _ _ Wd
  go_wp2_with fail
  refine (HIV _).mono ?_
  rintro e w2 ⟨rfl, hw2⟩
  rw [hw2]
  clear hw2 w2
  go_wp2_with fail
  refine (ofList_any S 1 Wd).mono ?_
  rintro e w3 ⟨rfl, hb3⟩
  rw [hol0]
  have hb3' := Below.on HBd.out hb3
  have HB3 : Hid (Below w.heap.size w w3) := hb3'
  have HC := HEnd.out w3 hb3'
  have HA := HAR.out w3 hb3'
  clear hb3 hb3' hol0
  go_wp2_with fail
  refine HA.mono ?_
  rintro e w4 ⟨rfl, hw4⟩
  rw [hw4]
  clear hw4 w4
  go_wp2_with fail
  refine HC.mono ?_
  rintro e w9 h9
  have HG : Hid (GOutI w0 gp gb nb a a2 w (cmpT [44] [kidG t 0, eqV xa xb], st) e w9) := h9.from (GFr.of gb nb HB3.out)
  obtain ⟨z, rfl, _⟩ := h9
  clear HC
  go_wp2_with fail
  go_ret
  exact HG.out
theorem phrI_all (w0 : World) (gp gb nb : Nat) (a a2 : Addr) : ∀ f, PhI w0 gp gb nb a a2 f
  | 0 => fun t v Bt xa xb st w ht hlf => by simp [itC] at hlf
  | f + 1 => fun t v Bt xa xb st w ht hlf hl hfo ha hb hst h => by
    have hPh := phrI_all w0 gp gb nb a a2 f
    have hc := ht.1
    simp only [cellB, decide_eq_true_eq] at hc
    by_cases h0 : t.1.1 = 0
    · exact phrI_var hPh t v Bt xa xb st w ht hlf hl hfo ha hb hst h h0
    by_cases h1 : t.1.1 = 1
    · exact phrI_num hPh t v Bt xa xb st w ht hlf hl hfo ha hb hst h h1
    by_cases e0 : t.1 = nilC ∨ t.1 = dot
    · exact phrI_list hPh t v Bt xa xb st w ht hlf hl hfo ha hb hst h e0
    by_cases e1 : t.1 = cComma
    · exact phrI_comma hPh t v Bt xa xb st w ht hlf hl hfo ha hb hst h e1
    by_cases e2 : t.1 = cThen
    · exact phrI_then hPh t v Bt xa xb st w ht hlf hl hfo ha hb hst h e2
    by_cases e3 : t.1 = cOr
    · exact phrI_or hPh t v Bt xa xb st w ht hlf hl hfo ha hb hst h e3
    by_cases e4 : t.1 = cNot
    · exact phrI_not hPh t v Bt xa xb st w ht hlf hl hfo ha hb hst h e4
    by_cases e5 : t.1 = cCut
    · exact phrI_cut hPh t v Bt xa xb st w ht hlf hl hfo ha hb hst h e5
    by_cases e6 : t.1 = cCurly
    · exact phrI_curly hPh t v Bt xa xb st w ht hlf hl hfo ha hb hst h e6
    · exact phrI_more hPh t v Bt xa xb st w ht hlf hl hfo ha hb hst h ⟨by omega, e0, e1, e2, e3, e4, e5, e6⟩
end Go.Proofs.YtbnmmcegjlmdmaaGreatDoor

