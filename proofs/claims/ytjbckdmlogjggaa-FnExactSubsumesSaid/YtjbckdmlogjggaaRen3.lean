/- Renumber of the specification. Own work of the verifier. -/
import Derived.Test.YtjbckdmlogjggaaRenG
import Derived.Test.YtjbckdmlogjggaaMarkG
namespace Go.Proofs.Ytjbckdmlogjggaa
open Go Go.RowKit Go.Maps
set_option linter.unusedVariables false

theorem flat_setN : ∀ (rs : List RC) (i : Nat) (b : Int), i < rs.length → (flat rs).set (i * 3 + 1) (.int .i64 b) = flat (rs.set i ((rs.getD i RC.zero).1, b, (rs.getD i RC.zero).2.2))
  | [], i, b, h => by simp at h
  | x :: rs, 0, b, _ => by simp [flat_cons]
  | x :: rs, i + 1, b, h => by
    have := flat_setN rs i b (by simpa using h)
    rw [flat_cons, show (i + 1) * 3 + 1 = (i * 3 + 1) + 1 + 1 + 1 by omega]
    simp only [List.set_cons_succ, this]
    rfl
/-- The number of a cell of the call's own, written over. -/
theorem OwnC.setN {w : World} {B g n c j : Nat} {cs : List Cel} (h : OwnC w B (some ⟨g, 0, none⟩) n c cs) (hj : j < cs.length) (b : Int) :
    OwnC (w.setCell ⟨g, j * 3 + 1, none⟩ (.int .i64 b)) B (some ⟨g, 0, none⟩) n c (cs.set j ((cs.getD j Cel.none).1, b, (cs.getD j Cel.none).2.2)) := by
  obtain ⟨hn, rs, hl, hr, hf, ha⟩ := h
  have h2 := (hr.stored (j * 3 + 1) (.int .i64 b)).1
  rw [flat_setN rs j b (by omega)] at h2
  have hat : ∀ i, ((rs.set j ((rs.getD j RC.zero).1, b, (rs.getD j RC.zero).2.2)).getD i RC.zero).2.2 = (rs.getD i RC.zero).2.2 := fun i => by
    rw [rs_set_at _ _ _ _ (by omega)]
    by_cases e : i = j
    · rw [if_pos e, e]
    · rw [if_neg e]
  refine ⟨by simpa using hn, _, by simpa using hl, h2, fun i hi => ?_, ⟨fun i hi => ?_, fun i i' hi hi' hne => ?_⟩⟩
  · have hi' : i < cs.length := by simpa using hi
    rw [cs_set_at _ _ _ _ hj, rs_set_at _ _ _ _ (by omega)]
    obtain ⟨q0, q1, q2⟩ := hf i hi'
    have q3 := q2.setCell (a := ⟨g, j * 3 + 1, none⟩) (fun hp e' => ha.1 i (by omega) hp e') (.int .i64 b)
    by_cases e : i = j
    · rw [if_pos e, if_pos e]
      subst e
      exact ⟨q0, rfl, q3⟩
    · rw [if_neg e, if_neg e]
      exact ⟨q0, q1, q3⟩
  · rw [hat]; exact ha.1 i (by simpa using hi)
  · rw [hat, hat]; exact ha.2 i i' (by simpa using hi) (by simpa using hi') hne

/-- A variable's number by what l2find says. -/
def renF (ks : List Int) (c : Cel) : Cel := if c.1 = 0 then (c.1, findI ks c.2.1, c.2.2) else c
def mixR (ks : List Int) (cs : List Cel) (j : Nat) : List Cel := (List.range cs.length).map fun i => if i < j then renF ks (cs.getD i Cel.none) else cs.getD i Cel.none
theorem mixR_len (ks : List Int) (cs : List Cel) (j : Nat) : (mixR ks cs j).length = cs.length := by simp [mixR]
theorem mixR_at (ks : List Int) (cs : List Cel) (j i : Nat) (h : i < cs.length) : (mixR ks cs j).getD i Cel.none = if i < j then renF ks (cs.getD i Cel.none) else cs.getD i Cel.none := by
  simp [mixR, List.getD, h]
theorem mixR_zero (ks : List Int) (cs : List Cel) : mixR ks cs 0 = cs := same_cells (mixR_len ..) (fun j hj => by rw [mixR_at _ _ _ _ (by rw [mixR_len] at hj; exact hj), if_neg (Nat.not_lt_zero _)])
theorem mixR_all (ks : List Int) (cs : List Cel) : mixR ks cs cs.length = cs.map (renF ks) := same_cells (by simp [mixR]) (fun j hj => by
  rw [mixR_len] at hj
  rw [mixR_at _ _ _ _ hj, if_pos hj]
  simp [List.getD, hj])
theorem mixR_succ (ks : List Int) (cs : List Cel) (j : Nat) (h : j < cs.length) : mixR ks cs (j + 1) = (mixR ks cs j).set j (renF ks (cs.getD j Cel.none)) := same_cells (by simp [mixR]) (fun i hi => by
  rw [mixR_len] at hi
  rw [mixR_at _ _ _ _ hi, cs_set_at _ _ _ _ (by rw [mixR_len]; exact h)]
  by_cases e : i = j
  · subst e; rw [if_pos (by omega), if_pos rfl]
  · rw [if_neg e, mixR_at _ _ _ _ hi]
    by_cases e2 : i < j
    · rw [if_pos e2, if_pos (by omega)]
    · rw [if_neg e2, if_neg (by omega)])
theorem set_self (cs : List Cel) (j : Nat) (h : j < cs.length) : cs.set j (cs.getD j Cel.none) = cs := same_cells (by simp) (fun i hi => by
  rw [cs_set_at _ _ _ _ h]
  by_cases e : i = j
  · rw [if_pos e, e]
  · rw [if_neg e])

set_option maxRecDepth 100000 in
theorem l2renumber_any (p : Option Addr) (n c : Nat) (cs : List Cel) (pl : Option Addr) (nl cl : Nat) (ks : List Int) (w : World) (hn : n = cs.length) (hl : cs.length + tl cs ≤ 10000000) (hin : CIn w p cs) (hnl : nl = ks.length) (hk : nl ≤ 100000) (hli : IIn w pl ks) :
    Calls Try.prog 67 #[.slice p n c, .slice pl nl cl] w fun e w' => ∃ q m c2, e = .returned (.slice q m c2) ∧ OwnC w' w.heap.size q m c2 (cs.map (renF ks)) ∧ Below w.heap.size w w' := by
  have HCP := l2copy_any p n c cs w hn hl hin
  have HLI : Hid (IIn w pl ks ∧ nl = ks.length) := ⟨hli, hnl⟩
  have hcl : cs.length ≤ 10000000 := by omega
  clear hin hli hn hnl
  go_enter Try.func67, Try.ntmps67
  go_wp2_with fail
  refine HCP.mono ?_
  rintro e w1 ⟨q, m, c2, rfl, ho1, hb1⟩
  have HM : Hid (m = cs.length) := ho1.1
  have hm : m ≤ 10000000 := by have := ho1.1; omega
  have HO1 : Hid (OwnC w1 w.heap.size q m c2 cs) := ho1
  have HB1 : Hid (Below w.heap.size w w1) := hb1
  clear ho1 hb1 HCP
  go_wp2_with fail
  go_loopw [6] (fun i wr => ∃ j : Nat, j ≤ m ∧ i = .int .i64 j ∧ Hid (OwnC wr w.heap.size q m c2 (mixR ks cs j)) ∧ Hid (Below w.heap.size w wr)) (fun i _ => m - (intOf i).toNat)
  case atStart => exact ⟨0, Nat.zero_le _, rfl, by rw [mixR_zero]; exact HO1, HB1⟩
  case round =>
    obtain ⟨j, hj, rfl, HO, HB⟩ := hrel
    by_cases hlt : j < m
    · have hjl : j < cs.length := by rw [← HM.out]; exact hlt
      obtain ⟨hn1, rs, hl1, hr, hf, ha⟩ := HO.out
      obtain ⟨g, cap, hv, hbg, hgs⟩ := hr.form (by omega)
      simp only [Value.slice.injEq, true_and] at hv
      obtain ⟨rfl, rfl⟩ := hv
      rw [mixR_len] at hl1 hf
      obtain ⟨a0, a1, a2⟩ := flat_at rs j (by omega)
      have d0 := (hr.cellAt (j * 3) (by omega)).trans a0
      have d1 := (hr.cellAt (j * 3 + 1) (by omega)).trans a1
      have ff := hr.frozenAt (j * 3 + 1)
      obtain ⟨q0, q1, _⟩ := hf j hjl
      rw [mixR_at _ _ _ _ hjl, if_neg (Nat.lt_irrefl j)] at q0 q1
      rw [q0] at d0
      rw [q1] at d1
      have HSN : Hid (∀ b, OwnC (wr.setCell ⟨g, j * 3 + 1, none⟩ (.int .i64 b)) w.heap.size (some ⟨g, 0, none⟩) m c2 ((mixR ks cs j).set j (((mixR ks cs j).getD j Cel.none).1, b, ((mixR ks cs j).getD j Cel.none).2.2))) := fun b => HO.out.setN (by rw [mixR_len]; exact hjl) b
      have hmj : (mixR ks cs j).getD j Cel.none = cs.getD j Cel.none := by rw [mixR_at _ _ _ _ hjl, if_neg (Nat.lt_irrefl j)]
      rw [hmj] at HSN
      have HS1 : Hid _ := mixR_succ ks cs j hjl
      have HFD := l2find_any pl nl cl ks (cs.getD j Cel.none).2.1 wr HLI.out.2 (by omega) (HLI.out.1.below HB.out)
      obtain ⟨c0, e0⟩ : ∃ x, x = (cs.getD j Cel.none).1 := ⟨_, rfl⟩
      obtain ⟨c1, e1⟩ : ∃ x, x = (cs.getD j Cel.none).2.1 := ⟨_, rfl⟩
      have HE : Hid (c0 = (cs.getD j Cel.none).1 ∧ c1 = (cs.getD j Cel.none).2.1) := ⟨e0, e1⟩
      rw [← e0] at d0
      rw [← e1] at d1 HFD
      have HMJ : Hid _ := hmj
      clear hn1 hl1 hr hf ha a0 a1 a2 q0 q1 e0 e1 hmj
      by_cases h0 : c0 = 0
      · subst h0
        obtain ⟨fi, ef⟩ : ∃ fi, fi = findI ks c1 := ⟨_, rfl⟩
        rw [← ef] at HFD
        have HFI : Hid (fi = findI ks c1) := ef
        clear ef
        go_wp2_with fail
        refine HFD.mono ?_
        rintro e w2 ⟨rfl, rfl⟩
        go_wp2_with fail
        have HO2 : Hid (OwnC (w2.setCell ⟨g, j * 3 + 1, none⟩ (.int .i64 fi)) w.heap.size (some ⟨g, 0, none⟩) m c2 (mixR ks cs (j + 1))) := by
          have := HSN.out fi
          rw [HS1.out, renF, if_pos HE.out.1.symm, ← HE.out.2, ← HFI.out]
          exact this
        go_roundw
        case rel => exact ⟨j + 1, by omega, by go_num, HO2, HB.out.setCell (p := ⟨g, j * 3 + 1, none⟩) hbg _⟩
        case measure => simp [intOf]; omega
      · have h0' : (c0 == 0) = false := by simpa using h0
        have HO2 : Hid (OwnC wr w.heap.size (some ⟨g, 0, none⟩) m c2 (mixR ks cs (j + 1))) := by
          show OwnC _ _ _ _ _ _
          rw [HS1.out, renF, if_neg (by rw [← HE.out.1]; exact h0), ← HMJ.out, set_self _ _ (by rw [mixR_len]; exact hjl)]
          exact HO.out
        clear h0
        go_wp2_with fail
        go_roundw
        case rel => exact ⟨j + 1, by omega, by go_num, HO2, HB⟩
        case measure => simp [intOf]; omega
    · obtain rfl : j = m := by omega
      go_wp2_with fail
      go_ret
      refine ⟨_, _, _, rfl, ?_, HB.out⟩
      rw [← mixR_all, ← HM.out]
      exact HO.out

theorem visits_mem : ∀ (cs : List Cel) (ks : List Int) (c : Cel), c ∈ cs → c.1 = 0 → c.2.1 ∈ visits ks cs
  | [], ks, c, h, _ => by cases h
  | a :: r, ks, c, h, h0 => by
    rcases List.mem_cons.1 h with rfl | h
    · rw [visits_cons]
      refine (visits_prefix r _).subset ?_
      rw [visitL, if_pos h0]
      exact putV_mem _ _
    · exact visits_mem r (visitL ks a) c h h0
theorem ren_same (cs : List Cel) : cs.map (renF (visits [] cs)) = renCells cs := by
  rw [renCells]
  refine List.map_congr_left fun c hc => ?_
  unfold renF renI
  by_cases h0 : c.1 = 0
  · rw [if_pos h0, if_pos h0, findI, if_pos (visits_mem cs [] c hc h0)]
  · rw [if_neg h0, if_neg h0]

set_option maxRecDepth 100000 in
theorem specRen_any (cs : List Cel) (p : Option Addr) (n cap : Nat) (w : World) (hn : n = cs.length) (hl : cs.length + tl cs ≤ 10000000) (hin : CIn w p cs) :
    Calls Try.prog 35 #[.slice p n cap] w fun e w' => ∃ q m c2, e = .returned (.slice q m c2) ∧ OwnC w' w.heap.size q m c2 (if validB cs = true then renCells cs else []) ∧ Below w.heap.size w w' := by
  subst hn
  have HV := specValid_any p cap cs w (by omega) hin
  have HI : Hid (CIn w p cs) := hin
  clear hin
  by_cases hv : validB cs = true
  · have hlen : cs.length ≤ 2000 := by simp only [validB, Bool.and_eq_true, decide_eq_true_eq] at hv; exact hv.1
    rw [if_pos hv]
    rw [hv] at HV
    clear hv
    go_enter Try.func35, Try.ntmps35
    go_wp2_with fail
    refine HV.mono ?_
    rintro e w1 ⟨rfl, hb1⟩
    have HB1 : Hid (Below w.heap.size w w1) := hb1
    have HT := l2vars_any p cs.length cap cs w1 rfl (by omega) (HI.out.below hb1)
    clear hb1 HV
    go_wp2_with fail
    refine HT.mono ?_
    rintro e w2 ⟨q, m, c2, rfl, ho, hb2⟩
    have HB2 : Hid (Below w.heap.size w w2) := Below.on HB1.out hb2
    have hmm : m ≤ 100000 := by have := ho.1; have := visits_len cs []; simp at this; omega
    have HRN := l2renumber_any p cs.length cap cs q m c2 (visits [] cs) w2 rfl hl (HI.out.below HB2.out) ho.1 hmm ho.iin
    clear ho hb2 HT
    go_wp2_with fail
    refine HRN.mono ?_
    rintro e w3 ⟨q3, m3, c3, rfl, ho3, hb3⟩
    have HO3 : Hid (OwnC w3 w.heap.size q3 m3 c3 (renCells cs)) := by rw [← ren_same]; exact ho3.mono HB2.out.size
    have HB3 : Hid (Below w.heap.size w w3) := Below.on HB2.out hb3
    clear ho3 hb3 HRN
    go_wp2_with fail
    go_ret
    exact ⟨_, _, _, rfl, HO3.out, HB3.out⟩
  · have hv' : validB cs = false := by simpa using hv
    rw [if_neg hv]
    rw [hv'] at HV
    clear hv hv'
    go_enter Try.func35, Try.ntmps35
    go_wp2_with (go_at_call 26; refine HV.mono ?_; rintro e w1 ⟨rfl, hb1⟩)
    go_ret
    exact ⟨_, _, _, rfl, OwnC.nil _ _, hb1⟩

end Go.Proofs.Ytjbckdmlogjggaa
