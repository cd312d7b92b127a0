/- Texts of GrV, GrY0. Own work of the verifier. -/
import Derived.Test.YtbnmmcegjlmdmaaGreatDoorUqay
namespace Go.Proofs.YtbnmmcegjlmdmaaGreatDoor
open Go Go.RowKit Go.Maps Go.Shelf
set_option linter.unusedVariables false
set_option linter.unusedSimpArgs false
def SNo (gp gb nb g : Nat) (v0 : Value) (X : World) : Prop := X.cell? ⟨gp, 0, none⟩ = some (ptrV gb) ∧ X.cell? ⟨gb, 0, none⟩ = some (.func (.func 54) #[] #[ptrV nb]) ∧ X.cell? ⟨g, 0, none⟩ = some v0
theorem SNo.move {w0 : World} {gp gb nb : Nat} {a a2 : Addr} {st st' : GSt} {w w' : World} {g : Nat} {t0 : TypeId} {u0 : Value} (h : SNo gp gb nb g (.iface t0 u0) w) (hm : GMi w0 gp gb nb a a2 st w) (hm' : GMi w0 gp gb nb a a2 st' w') (hf : GFr gb nb w w') : SNo gp gb nb g (.iface t0 u0) w' := by
  obtain ⟨h1, h2, h3⟩ := h
  exact ⟨hm'.p0, hm'.c0, hf.cell h3 (fun e => by subst e; rw [hm.c0] at h3; cases h3) (fun e => by subst e; rw [hm.n0] at h3; cases h3)⟩
theorem foIn_c {w0 w : World} {Bt : Nat} {t : Tr} {v : Value} (h : FoIn w0 Bt t.fo [v]) (hw : Below w0.heap.size w0 w) : FoC w t.fo [v] := FoC.of _ _ (FoIn.imp2 (Nat.le_refl _) (fun q v hq => (hw.cell (World.block_lt_of_cell? _ _ hq)).trans hq) hw.size _ _ h)
set_option maxRecDepth 100000 in
theorem ruleCut_any (args : Value) (xa xb : Int) (w : World) : Calls Tryz.prog 62 #[args, varV xa, varV xb] w (TrOut w (cmpT [44] [(cCut, .nil), eqV xa xb])) := by
  have HT := taking_any (cCut, .nil) (.iface 74 (.string ⟨#[33]⟩)) xa xb w (foC_atom w [33])
  go_enter Tryz.func62, Tryz.ntmps62
  go_wp2_with fail
  refine HT.mono ?_
  rintro e w1 h1
  have HG : Hid (TrOut w (cmpT [44] [(cCut, .nil), eqV xa xb]) e w1) := h1
  obtain ⟨z, rfl, _⟩ := h1
  clear HT
  go_wp2_with fail
  go_ret
  exact HG.out
set_option maxRecDepth 100000 in
theorem ruleCurly_any (t : Tr) (g : Nat) (y : TypeId) (u : Value) (xa xb : Int) (w : World) (ht : FoC w t.fo [.iface y u]) (hg : w.cell? ⟨g, 0, none⟩ = some (.iface y u)) : Calls Tryz.prog 63 #[.slice (some ⟨g, 0, none⟩) 1 1, varV xa, varV xb] w (TrOut w (cmpT [44] [t, eqV xa xb])) := by
  have HT := taking_any t (.iface y u) xa xb w ht
  clear ht
  go_enter Tryz.func63, Tryz.ntmps63
  go_wp2_with fail
  refine HT.mono ?_
  rintro e w1 h1
  have HG : Hid (TrOut w (cmpT [44] [t, eqV xa xb]) e w1) := h1
  obtain ⟨z, rfl, _⟩ := h1
  clear HT
  go_wp2_with fail
  go_ret
  exact HG.out
set_option maxRecDepth 100000 in
set_option maxHeartbeats 4000000 in
theorem ruleNot_any {w0 : World} {gp gb nb : Nat} {a a2 : Addr} {f : Nat} (hPh : PhI w0 gp gb nb a a2 f) {st : GSt} {w : World} (h : GMi w0 gp gb nb a a2 st w) (g Bt : Nat) (t0 : Tr) (y0 : TypeId) (u0 : Value) (xa xb : Int)
    (hok0 : t0.fo.ok) (hl0 : (itC t0).length ≤ f) (hl : (itC t0).length + 1 ≤ 2000) (hf0 : FoIn w0 Bt t0.fo [.iface y0 u0]) (ha : 0 ≤ xa ∧ xa ≤ 1100000) (hb : 0 ≤ xb ∧ xb ≤ 1100000) (hst : st.1 + (itC t0).length + 1 ≤ 1100000) (hg0 : w.cell? ⟨g, 0, none⟩ = some (.iface y0 u0)) :
    Calls Tryz.prog 60 #[.slice (some ⟨g, 0, none⟩) 1 1, varV xa, varV xb, ptrV gp] w (GOutI w0 gp gb nb a a2 w (cmpT [44] [cmpT [92, 43] [(gPh failT f t0 xa st.1 (st.1 + 1, st.2)).1], eqV xa xb], (gPh failT f t0 xa st.1 (st.1 + 1, st.2)).2)) := by
  have hr := h.rng
  have HP1 : Hid (∀ W, GMi w0 gp gb nb a a2 (st.1 + 1, st.2) W → Calls Tryz.prog 58 #[ptrV gb, .iface y0 u0, varV xa, varV st.1] W (GOutI w0 gp gb nb a a2 W (gPh failT f t0 xa st.1 (st.1 + 1, st.2)))) := fun W hW => hPh t0 (.iface y0 u0) Bt xa st.1 (st.1 + 1, st.2) W hok0 hl0 (by omega) hf0 ha ⟨hr.1, by omega⟩ (by simp only; omega) hW
  obtain ⟨r1, e1⟩ : ∃ r1, r1 = gPh failT f t0 xa st.1 (st.1 + 1, st.2) := ⟨_, rfl⟩
  rw [← e1] at HP1 ⊢
  obtain ⟨Wd, eD⟩ : ∃ Wd, Wd = World.drew w := ⟨_, rfl⟩
  have HMd : Hid (GMi w0 gp gb nb a a2 st Wd) := by rw [eD]; exact h.drew
  have HFd : Hid (GFr gb nb w Wd) := by rw [eD]; exact GFr.drew gb nb _
  have hSd : SNo gp gb nb g (.iface y0 u0) Wd := ⟨HMd.out.p0, HMd.out.c0, by rw [eD]; exact hg0⟩
  have HV := newVar_any HMd.out (by omega)
  have HDe : Hid (World.drew w = Wd) := eD.symm
  clear hPh h hok0 hl0 hl hf0 ha hb hst e1 hg0 eD
  go_enter Tryz.func60, Tryz.ntmps60
  go_wp2_with fail
  refine wp_region_held_drew (S := SNo gp gb nb g (.iface y0 u0)) (by kernel_rfl) ?_ (fun hHeld => ?_)
  · rw [HDe.out]; exact hSd
  rw [HDe.out]
  refine hTake (i := 0) (v := ptrV gb) (some 8) (by kernel_rfl) (by kernel_rfl) (by kernel_rfl) (by kernel_rfl) (by kernel_rfl) (fun _ _ _ h => h) (fun o ho W hSw => ?y0) (by assumption) ?_
  case y0 =>
    cases ho
    obtain ⟨k0, k1, k2⟩ := hSw
    simp [execOp, go_sem, Act.eval, k0]
  simp only [Act.put, List.setIfInBounds_toArray, List.set_cons_zero, List.set_cons_succ]
  refine hTake (i := 1) (v := .slice (some ⟨g, 0, none⟩) 1 1) (some 9) (by kernel_rfl) (by kernel_rfl) (by kernel_rfl) (by kernel_rfl) (by kernel_rfl) (fun _ _ _ h => h) (fun o ho W hSw => ?y1) (by assumption) ?_
  case y1 =>
    cases ho
    simp [execOp, go_sem, Act.eval]
  simp only [Act.put, List.setIfInBounds_toArray, List.set_cons_zero, List.set_cons_succ]
  refine hTake (i := 2) (v := .pointer (some ⟨g, 0, none⟩)) (some 10) (by kernel_rfl) (by kernel_rfl) (by kernel_rfl) (by kernel_rfl) (by kernel_rfl) (fun _ _ _ h => h) (fun o ho W hSw => ?y2) (by assumption) ?_
  case y2 =>
    cases ho
    simp [execOp, go_sem, Act.eval]
  simp only [Act.put, List.setIfInBounds_toArray, List.set_cons_zero, List.set_cons_succ]
  refine hTake (i := 3) (v := .iface y0 u0) (some 11) (by kernel_rfl) (by kernel_rfl) (by kernel_rfl) (by kernel_rfl) (by kernel_rfl) (fun _ _ _ h => h) (fun o ho W hSw => ?y3) (by assumption) ?_
  case y3 =>
    cases ho
    obtain ⟨k0, k1, k2⟩ := hSw
    simp [execOp, go_sem, Act.eval, k2]
  simp only [Act.put, List.setIfInBounds_toArray, List.set_cons_zero, List.set_cons_succ]
  refine hTake (i := 4) (v := varV xa) (some 12) (by kernel_rfl) (by kernel_rfl) (by kernel_rfl) (by kernel_rfl) (by kernel_rfl) (fun _ _ _ h => h) (fun o ho W hSw => ?y4) (by assumption) ?_
  case y4 =>
    cases ho
    simp [execOp, go_sem, Act.eval]
  simp only [Act.put, List.setIfInBounds_toArray, List.set_cons_zero, List.set_cons_succ]
  refine hTake (i := 5) (v := ptrV gb) (some 13) (by kernel_rfl) (by kernel_rfl) (by kernel_rfl) (by kernel_rfl) (by kernel_rfl) (fun _ _ _ h => h) (fun o ho W hSw => ?y5) (by assumption) ?_
  case y5 =>
    cases ho
    obtain ⟨k0, k1, k2⟩ := hSw
    simp [execOp, go_sem, Act.eval, k0]
  simp only [Act.put, List.setIfInBounds_toArray, List.set_cons_zero, List.set_cons_succ]
  refine hTake (i := 6) (v := ptrV gb) (some 14) (by kernel_rfl) (by kernel_rfl) (by kernel_rfl) (by kernel_rfl) (by kernel_rfl) (fun _ _ _ h => h) (fun o ho W hSw => ?y6) (by assumption) ?_
  case y6 =>
    cases ho
    simp [execOp, go_sem, Act.eval]
  simp only [Act.put, List.setIfInBounds_toArray, List.set_cons_zero, List.set_cons_succ]
  refine hTake (i := 7) (v := .pointer (some ⟨gb, 0, none⟩)) (some 15) (by kernel_rfl) (by kernel_rfl) (by kernel_rfl) (by kernel_rfl) (by kernel_rfl) (fun _ _ _ h => h) (fun o ho W hSw => ?y7) (by assumption) ?_
  case y7 =>
    cases ho
    simp [execOp, go_sem, Act.eval]
  simp only [Act.put, List.setIfInBounds_toArray, List.set_cons_zero, List.set_cons_succ]
  refine hTake (i := 8) (v := .func (.func 54) #[] #[ptrV nb]) (some 16) (by kernel_rfl) (by kernel_rfl) (by kernel_rfl) (by kernel_rfl) (by kernel_rfl) (fun _ _ _ h => h) (fun o ho W hSw => ?y8) (by assumption) ?_
  case y8 =>
    cases ho
    obtain ⟨k0, k1, k2⟩ := hSw
    simp [execOp, go_sem, Act.eval, k1]
  simp only [Act.put, List.setIfInBounds_toArray, List.set_cons_zero, List.set_cons_succ]
  refine hTake (i := 13) (v := varV xa) (some 21) (by kernel_rfl) (by kernel_rfl) (by kernel_rfl) (by kernel_rfl) (by kernel_rfl) (fun _ _ _ h => h) (fun o ho W hSw => ?y9) (by assumption) ?_
  case y9 =>
    cases ho
    simp [execOp, go_sem, Act.eval]
  simp only [Act.put, List.setIfInBounds_toArray, List.set_cons_zero, List.set_cons_succ]
  refine hTake (i := 14) (v := varV xb) (some 22) (by kernel_rfl) (by kernel_rfl) (by kernel_rfl) (by kernel_rfl) (by kernel_rfl) (fun _ _ _ h => h) (fun o ho W hSw => ?y10) (by assumption) ?_
  case y10 =>
    cases ho
    simp [execOp, go_sem, Act.eval]
  simp only [Act.put, List.setIfInBounds_toArray, List.set_cons_zero, List.set_cons_succ]
  refine hCallE (i := 9) (f := 54) (args := #[ptrV nb]) (some 17) (by kernel_rfl) (by kernel_rfl) (by kernel_rfl) (fun o ho => ?c11) HV ?k11 (fun ch w' hh => by cases hh.1) (fun w' hh => by cases hh.1)
  case c11 =>
    cases ho
    simp [execOp, go_sem, Act.eval]
  case k11 =>
    rintro q1 w1 ⟨hz1, hm1, hfr1⟩
    obtain rfl := Ending.returned.inj hz1
    have hS1 : SNo gp gb nb g (.iface y0 u0) w1 := SNo.move hSd HMd.out hm1 hfr1
    have HC1 := HP1.out w1 hm1
    have HM1 : Hid (GMi w0 gp gb nb a a2 (st.1 + 1, st.2) w1) := hm1
    have HF1 : Hid (GFr gb nb w w1) := HFd.out.trans hfr1
    clear hz1 hm1 hfr1 HV HP1
    refine ⟨hS1, ?_⟩
    simp only [Act.put, List.setIfInBounds_toArray, List.set_cons_zero, List.set_cons_succ]
    refine hCallE (i := 10) (f := 58) (args := #[ptrV gb, .iface y0 u0, varV xa, varV st.1]) (some 18) (by kernel_rfl) (by kernel_rfl) (by kernel_rfl) (fun o ho => ?c12) HC1 ?k12 (fun ch w' hh => by obtain ⟨_, h, _⟩ := hh; cases h) (fun w' hh => by obtain ⟨_, h, _⟩ := hh; cases h)
    case c12 =>
      cases ho
      simp [execOp, go_sem, Act.eval]
    case k12 =>
      rintro q2 w2 ⟨z2, hz2, hfo2, hm2, hfr2⟩
      obtain rfl := Ending.returned.inj hz2
      obtain ⟨ty2, tx2, rfl⟩ := foC_if hfo2
      have hS2 : SNo gp gb nb g (.iface y0 u0) w2 := SNo.move hS1 HM1.out hm2 hfr2
      have HC3 := call1_any [92, 43] ⟨#[92, 43]⟩ rfl r1.1 (.iface ty2 tx2) w2 hfo2
      have HF2 : Hid (GFr gb nb w w2) := HF1.out.trans hfr2
      have HM2 : Hid (GMi w0 gp gb nb a a2 r1.2 w2) := hm2
      have hbA : Below w2.heap.size w2 (w2.alloc (.cells #[.iface ty2 tx2] 49)) := below_new _ _
      obtain ⟨W3, e3⟩ : ∃ W3, W3 = w2.alloc (.cells #[.iface ty2 tx2] 49) := ⟨_, rfl⟩
      rw [← e3] at HC3 hbA
      have hS3 : SNo gp gb nb g (.iface y0 u0) W3 := SNo.move hS2 hm2 (hm2.below hbA) (GFr.of gb nb hbA)
      have HE3 : Hid (w2.alloc (.cells #[.iface ty2 tx2] 49) = W3) := e3.symm
      clear hz2 hfo2 hm2 hfr2 HC1 hbA e3
      refine ⟨hS2, ?_⟩
      simp only [Act.put, List.setIfInBounds_toArray, List.set_cons_zero, List.set_cons_succ]
      refine hStep (i := 11) (v := .slice (some ⟨w2.heap.size, 0, none⟩) 1 1) (w' := W3) (some 19) (by kernel_rfl) (by kernel_rfl) (by kernel_rfl) (fun o ho => ?y13) hS3 ?_
      case y13 =>
        cases ho
        simp [execOp, go_sem, Act.eval]
        exact HE3.out
      simp only [Act.put, List.setIfInBounds_toArray, List.set_cons_zero, List.set_cons_succ]
      refine hCallE (i := 12) (f := 57) (args := #[.string ⟨#[92, 43]⟩, .slice (some ⟨w2.heap.size, 0, none⟩) 1 1]) (some 20) (by kernel_rfl) (by kernel_rfl) (by kernel_rfl) (fun o ho => ?c14) HC3 ?k14 (fun ch w' hh => by obtain ⟨_, h, _⟩ := hh; cases h) (fun w' hh => by obtain ⟨_, h, _⟩ := hh; cases h)
      case c14 =>
        cases ho
        simp [execOp, go_sem, Act.eval]
      case k14 =>
        rintro q4 w4 ⟨z4, hz4, hfo4, hb4⟩
        obtain rfl := Ending.returned.inj hz4
        obtain ⟨ty4, tx4, rfl⟩ := foC_if hfo4
        have hm4 := HM2.out.below hb4
        have hS4 : SNo gp gb nb g (.iface y0 u0) w4 := SNo.move hS2 HM2.out hm4 (GFr.of gb nb hb4)
        have HC5 := taking_any _ _ xa xb w4 hfo4
        have HM4 : Hid (GMi w0 gp gb nb a a2 r1.2 w4) := hm4
        have HF4 : Hid (GFr gb nb w w4) := HF2.out.trans (GFr.of gb nb hb4)
        clear hz4 hfo4 hb4 hm4 HC3
        refine ⟨hS4, ?_⟩
        simp only [Act.put, List.setIfInBounds_toArray, List.set_cons_zero, List.set_cons_succ]
        refine hCallE (i := 15) (f := 61) (args := #[.iface ty4 tx4, varV xa, varV xb]) (some 23) (by kernel_rfl) (by kernel_rfl) (by kernel_rfl) (fun o ho => ?c15) HC5 ?k15 (fun ch w' hh => by obtain ⟨_, h, _⟩ := hh; cases h) (fun w' hh => by obtain ⟨_, h, _⟩ := hh; cases h)
        case c15 =>
          cases ho
          simp [execOp, go_sem, Act.eval]
        case k15 =>
          rintro q5 w5 h5
          have hb5 : Below w4.heap.size w4 w5 := by obtain ⟨_, _, _, hb⟩ := h5; exact hb
          have HG : Hid (GOutI w0 gp gb nb a a2 w (cmpT [44] [cmpT [92, 43] [r1.1], eqV xa xb], r1.2) (.returned q5) w5) := (GOutI.tree HM4.out h5).from HF4.out
          have hS5 : SNo gp gb nb g (.iface y0 u0) w5 := SNo.move hS4 HM4.out (HM4.out.below hb5) (GFr.of gb nb hb5)
          clear h5 hb5 HC5
          refine ⟨hS5, ?_⟩
          simp only [Act.put, List.setIfInBounds_toArray, List.set_cons_zero, List.set_cons_succ]
          refine hTake (i := 16) (v := q5) (some 7) (by kernel_rfl) (by kernel_rfl) (by kernel_rfl) (by kernel_rfl) (by kernel_rfl) (fun _ _ _ h => h) (fun o ho W hSw => ?y16) (by assumption) ?_
          case y16 =>
            cases ho
            simp [execOp, go_sem, Act.eval]
          simp only [Act.put, List.setIfInBounds_toArray, List.set_cons_zero, List.set_cons_succ]
          refine wpAnyH_done (by kernel_rfl) ?_ _
          change Exit.then _ _ _ _ w5
          go_wp2_with fail
          go_ret
          exact HG.out
end Go.Proofs.YtbnmmcegjlmdmaaGreatDoor

namespace Go.Proofs.YtbnmmcegjlmdmaaGreatDoor
open Go Go.RowKit Go.Maps Go.Shelf
set_option linter.unusedVariables false
set_option linter.unusedSimpArgs false
theorem ruTab_key (gp s1 s2 : Nat) (j : Nat) (hj : j < 6) : ruTab gp s1 s2 (gKey j) = some (gVal gp s1 s2 j) := by
  have : ((List.range 6).find? fun i => decide (gKey i = gKey j)) = some j := by
    rw [List.find?_eq_some_iff_getElem]
    refine ⟨by simp, j, by simpa using hj, by simp, fun i hi => ?_⟩
    have hne : gKey i ≠ gKey j := fun e => by have := gKey_inj i (by omega) j hj e; omega
    simp [hne]
  unfold ruTab
  rw [this]
  rfl
theorem ruTab_none (gp s1 s2 : Nat) (f : Fun) (h : ∀ j, j < 6 → gKey j ≠ f) : ruTab gp s1 s2 f = none := by
  unfold ruTab
  rw [List.find?_eq_none.2 (fun j hj => by simpa using h j (List.mem_range.1 hj))]
  rfl
theorem gKey_ne0 : ∀ j, j < 6 → gKey j ≠ (⟨#[]⟩, 0) := by
  intro j hj e
  have h : ∀ j, j < 6 → (gKey j).1.data.toList ≠ [] := by decide
  exact h j hj (by rw [e])
theorem key_iff {t : Tr} (ht : t.fo.ok) (hk : t.1.1 = 2 ∨ t.1.1 = 3) (nm : List Int) (k : Nat) (hb : Byte nm) : ((strOfNums t.1.2.2, (((trs t.2).length : Nat) : Int)) : Fun) = (strOfNums nm, (k : Int)) ↔ t.1 = ((if k = 0 then 2 else 3 : Int), (k : Int), nm) := by
  have hc := ht.1
  have h2 := ht.2.2.1
  have h3 := ht.2.2.2.1
  have h4 := trs_len t.2
  have hby := ht.2.1
  simp only [cellB, decide_eq_true_eq] at hc
  obtain ⟨⟨c1, c2, c3⟩, F⟩ := t
  simp only at hc h2 h3 h4 hk hby ⊢
  constructor
  · intro e
    obtain ⟨e1, e2⟩ := Prod.mk.inj e
    have e3 := str_ne hby hb e1
    subst e3
    rcases hk with hk | hk
    · subst hk
      have hn := h3 (by decide)
      subst hn
      have hk0 : k = 0 := by have : (0 : Int) = (k : Int) := e2; omega
      subst hk0
      have : c2 = 0 := by omega
      subst this
      rfl
    · subst hk
      have := h2 rfl
      have hk0 : k ≠ 0 := by omega
      rw [if_neg hk0]
      have : c2 = (k : Int) := by omega
      rw [this]
  · intro e
    obtain ⟨e1, e2, e3⟩ : c1 = (if k = 0 then 2 else 3 : Int) ∧ c2 = (k : Int) ∧ c3 = nm := by
      have e1 := congrArg Prod.fst e
      have e2 := congrArg (fun x => x.2.1) e
      have e3 := congrArg (fun x => x.2.2) e
      exact ⟨e1, e2, e3⟩
    subst e3
    refine Prod.ext rfl ?_
    show (((trs F).length : Nat) : Int) = (k : Int)
    by_cases hk0 : k = 0
    · rw [if_pos hk0] at e1
      have hn := h3 (by rw [e1]; decide)
      rw [hn, hk0]; rfl
    · rw [if_neg hk0] at e1
      have := h2 e1
      omega
theorem bytesG_inj {a b : ByteArray} (h : a.data.toList = b.data.toList) : a = b := by
  obtain ⟨⟨a⟩⟩ := a
  obtain ⟨⟨b⟩⟩ := b
  simp only at h
  rw [h]
theorem ol_iff {t : Tr} (ht : t.fo.ok) (hk : t.1.1 = 2 ∨ t.1.1 = 3) : olB (strOfNums t.1.2.2) (trs t.2).length = decide (t.1 = nilC ∨ t.1 = dot) := by
  have h1 := key_iff ht hk [91, 93] 0 (byte_small (by decide))
  have h2 := key_iff ht hk [46] 2 (byte_small (by decide))
  have l1 : ∀ s : ByteArray, s.toList = [91, 93] ↔ s = strOfNums [91, 93] := fun s => by
    rw [ByteArray.toList_eq]
    exact ⟨fun h => bytesG_inj (h.trans rfl), fun h => by rw [h]; rfl⟩
  have l2 : ∀ s : ByteArray, s.toList = [46] ↔ s = strOfNums [46] := fun s => by
    rw [ByteArray.toList_eq]
    exact ⟨fun h => bytesG_inj (h.trans rfl), fun h => by rw [h]; rfl⟩
  unfold olB
  refine decide_eq_decide.2 ?_
  rw [l1, l2]
  constructor
  · rintro (⟨a, b⟩ | ⟨a, b⟩)
    · exact .inl (h1.1 (Prod.ext a b))
    · exact .inr (h2.1 (Prod.ext a b))
  · rintro (a | a)
    · have := Prod.mk.inj (h1.2 a); exact .inl ⟨this.1, this.2⟩
    · have := Prod.mk.inj (h2.2 a); exact .inr ⟨this.1, this.2⟩
theorem nqR_none (w : World) : (binOp .neq 98 .nilFunc .nilFunc).run Tryz.prog w = .ok (.bool false) w := by kernel_rfl
theorem nqR_some (K : Nat) (cs : Array Value) (w : World) : (binOp .neq 98 (.func (.func K) #[] cs) .nilFunc).run Tryz.prog w = .ok (.bool true) w := by kernel_rfl
end Go.Proofs.YtbnmmcegjlmdmaaGreatDoor

